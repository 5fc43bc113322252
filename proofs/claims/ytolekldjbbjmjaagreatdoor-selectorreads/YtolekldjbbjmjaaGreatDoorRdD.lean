import Derived.Test.YtolekldjbbjmjaaGreatDoorG16
import Derived.Lib.ValidAsc
import Derived.Deep.RegionHeld3
/- quote's reader: sequence. -/
set_option linter.unusedSimpArgs false
set_option linter.unusedVariables false
set_option maxRecDepth 100000
namespace Go.Proofs.YtolekldjbbjmjaaGreatDoor
open Go.RowKit Go.Lib
theorem Rd.below {B b : Nat} {s : ByteArray} {k : Nat} {l : List UInt8} {w w' : World} (h : Rd B b s k l w) (hb : Below w.heap.size w w') : Rd B b s k l w' := by
  obtain ⟨hB, p, v, hp, hr, ho, hn⟩ := h
  refine ⟨hB, p, v, hp, hr.keep (hb.block b hr.lt), ⟨ho.1, ?_⟩, hn⟩
  rcases ho.2 with h0 | ⟨g, cap, cur, fz, hv, hbg, hg, rest⟩
  · exact .inl h0
  · refine .inr ⟨g, cap, cur, fz, hv, hbg, ?_, rest⟩
    rw [hb.block g ?_]
    · exact hg
    · rcases Nat.lt_or_ge g w.heap.size with h' | h'
      · exact h'
      · simp [Array.getElem?_eq_none h'] at hg
theorem hsl_from (s : ByteArray) (k : Nat) (hk : k ≤ s.size) (W : World) : (Instr.slice 9 (.string s) (some (.int .i64 (k : Int))) none none).run Tryz.prog W = .ok (.string (s.extract k s.size)) W := by
  rw [run_slice_string_from_if W 9 s .i64 (k : Int) Tryz.underlying9, if_pos ⟨by omega, by omega⟩]
  simp
theorem decodeGo_eq (s : ByteArray) (k : Nat) (hk : k < s.size) : decodeGo (s.extract k s.size) = decodeL (s.data.toList.drop k) := by
  have hl := ext_list s k
  have hz := ext_size s k
  unfold decodeGo decodeL
  rw [if_neg (by omega), ← hl]
set_option maxHeartbeats 2000000 in
set_option maxRecDepth 100000 in
theorem sequence_good (B b : Nat) (s : ByteArray) (k : Nat) (l : List UInt8) (w : World) (h : Rd B b s k l w) (hs : s.size ≤ 281474976710656) (hlen : l.length + 4 ≤ 140737488355328) (hBw : B ≤ w.heap.size) (hU : Utf8Tabs 0 1 w) (hz : 2 < w.heap.size)
    (hk : k < s.size) (h128 : 128 ≤ s[k].toNat) (hn : (Q.nxt (s.data.toList.drop k)).2 = true) :
    Calls Tryz.prog 140 #[.pointer (some ⟨b, 0, none⟩)] w fun e w' => e = .returned (.int .i64 0) ∧ Rd B b s (k + (Q.nxt (s.data.toList.drop k)).1) (l ++ (s.data.toList.drop k).take (Q.nxt (s.data.toList.drop k)).1) w' ∧ Below B w w' := by
  obtain ⟨p, v, hr⟩ := h.at
  have c0 := hr.c0
  have c1 := hr.c1
  have hB := h.1
  have hsl := hsl_from s k (by omega)
  have hcons := drop_consW s k hk
  have hg := Q.dec_good s[k] (s.data.toList.drop (k + 1)) h128 (by rw [← hcons]; exact hn)
  rw [← hcons] at hg
  have hle := (Q.nxt_le (s.data.toList.drop k)).1
  have hlen2 : (s.data.toList.drop k).length = s.size - k := by simp
  rw [hlen2] at hle
  have hd1 := Q.dec_le (s.data.toList.drop k)
  have cd := decode_any (s.extract k s.size) w.drew hU
  rw [decodeGo_eq s k hk] at cd
  have HG : Hid (Lib.encodeRune ((Lib.decodeL (s.data.toList.drop k)).1 : Int) = (s.data.toList.drop k).take (Q.nxt (s.data.toList.drop k)).1) := hg.2.2
  have hg1 := hg.1
  have hg2 := hg.2.1
  have hblt := hr.lt
  clear hg hcons hlen2 hr
  generalize (s.data.toList.drop k).take (Q.nxt (s.data.toList.drop k)).1 = T at *
  generalize (Q.nxt (s.data.toList.drop k)).1 = n at *
  generalize Lib.decodeL (s.data.toList.drop k) = D at *
  obtain ⟨r, m⟩ := D
  simp only at hg1 hd1 cd HG
  subst hg1
  generalize s.extract k s.size = X at *
  have CD : Hid (Calls Tryz.prog 121 #[.string X] w.drew fun e w' => e = .returned (.tuple #[.int .i32 r, .int .i64 m]) ∧ Below w.heap.size w.drew w') := cd
  clear cd
  go_enter Tryz.func140, Tryz.ntmps140
  go_wp2
  go_region_held3 (fun w' => w'.cell? ⟨b, 0, none⟩ = some (.string s) ∧ w'.cell? ⟨b, 1, none⟩ = some (.int .i64 (k : Int))) (first | go_keep | exact ⟨by assumption, by assumption⟩) ((go_at_call 121; refine CD.out.mono ?_; rintro e w1 ⟨rfl, b1⟩; have d0 := (b1.cell (p := ⟨b, 0, none⟩) hblt).trans c0; have d1 := (b1.cell (p := ⟨b, 1, none⟩) hblt).trans c1))
  have b1' : Below w.heap.size w w1 := ((Below.refl _ w).drew).trans b1
  have R1 := h.below b1'
  have s1 := b1'.size
  have m1 : ((m : Int) == 1) = false := by rw [beq_eq_false_iff_ne]; omega
  clear d0 d1 c0 c1
  have key : ∀ (e : Ending) (w2 : World), ((∃ z : Int, e = .returned (.tuple #[.int .i64 z, .nilIface])) ∧ Rd B b s k (l ++ T) w2 ∧ Below B w1 w2) → ∃ z : Int, e = .returned (.tuple #[.int .i64 z, .nilIface]) ∧ Rd B b s k (l ++ T) w2 ∧ Below B w1 w2 := by
    rintro e w2 ⟨⟨z, hz⟩, h1, h2⟩
    exact ⟨z, hz, h1, h2⟩
  have cw := writeRune_rd B b s k l (r : Int) (by omega) (by omega) w1 R1 hlen (by omega)
  rw [HG.out] at cw
  have CW : Hid (Calls Tryz.prog 145 #[.pointer (some ⟨b, 2, none⟩), .int .i32 (r : Int)] w1 fun e w' => ∃ z : Int, e = .returned (.tuple #[.int .i64 z, .nilIface]) ∧ Rd B b s k (l ++ T) w' ∧ Below B w1 w') := cw.mono key
  clear cw key
  by_cases hr5 : ((r : Int) == 65533) = true
  · go_wp2_with fail
    refine CW.out.mono ?_
    rintro e w2 ⟨z, rfl, R2, b2⟩
    obtain ⟨p2, v2, hr2⟩ := R2.at
    have g1 := hr2.c1
    have f1 := hr2.fz 1
    clear hr2
    go_wp2
    go_ret
    exact ⟨rfl, R2.put1 (k + m) _ (by omega), (b1'.mono hBw).trans (b2.setCell (p := ⟨b, 1, none⟩) hB _)⟩
  · have hr6 : ((r : Int) == 65533) = false := by simpa using hr5
    clear hr5
    go_wp2_with fail
    refine CW.out.mono ?_
    rintro e w2 ⟨z, rfl, R2, b2⟩
    obtain ⟨p2, v2, hr2⟩ := R2.at
    have g1 := hr2.c1
    have f1 := hr2.fz 1
    clear hr2
    go_wp2
    go_ret
    exact ⟨rfl, R2.put1 (k + m) _ (by omega), (b1'.mono hBw).trans (b2.setCell (p := ⟨b, 1, none⟩) hB _)⟩
set_option maxHeartbeats 2000000 in
set_option maxRecDepth 100000 in
theorem sequence_bad (B b : Nat) (s : ByteArray) (k : Nat) (l : List UInt8) (w : World) (h : Rd B b s k l w) (hs : s.size ≤ 281474976710656) (hBw : B ≤ w.heap.size) (hU : Utf8Tabs 0 1 w) (hz : 2 < w.heap.size)
    (hk : k < s.size) (h128 : 128 ≤ s[k].toNat) (hn : (Q.nxt (s.data.toList.drop k)).2 = false) :
    Calls Tryz.prog 140 #[.pointer (some ⟨b, 0, none⟩)] w fun e w' => e = .returned (.int .i64 11) ∧ Rd B b s (k + (Q.nxt (s.data.toList.drop k)).1) l w' ∧ Below B w w' := by
  obtain ⟨p, v, hr⟩ := h.at
  have c0 := hr.c0
  have c1 := hr.c1
  have hB := h.1
  have hblt := hr.lt
  have hsl := hsl_from s k (by omega)
  have hcons := drop_consW s k hk
  have hg := Q.dec_bad s[k] (s.data.toList.drop (k + 1)) h128 (by rw [← hcons]; exact hn)
  have hf := Q.full_nxt s[k] (s.data.toList.drop (k + 1)) h128 (by rw [← hcons]; exact hn)
  rw [← hcons] at hg hf
  have hle := (Q.nxt_le (s.data.toList.drop k)).1
  have hlen2 : (s.data.toList.drop k).length = s.size - k := by simp
  rw [hlen2] at hle hf
  have cd := decode_any (s.extract k s.size) w.drew hU
  rw [decodeGo_eq s k hk, hg] at cd
  have cb : Hid (∀ w : World, Utf8Tabs 0 1 w → 2 < w.heap.size → Calls Tryz.prog 144 #[.string s, .int .i64 k] w fun e w' => e = .returned (.int .i64 ((k + (Q.nxt (s.data.toList.drop k)).1 : Nat) : Int)) ∧ Below w.heap.size w w') :=
    fun w hU hz => broken_any s k _ w hU hz hs (by omega) hf.1 (by rcases hf.2 with h | h; · left; omega
                                                                   · right; exact h)
  clear hf hg hcons hlen2 hr
  generalize (Q.nxt (s.data.toList.drop k)).1 = n at *
  generalize s.extract k s.size = X at *
  have CD : Hid (Calls Tryz.prog 121 #[.string X] w.drew fun e w' => e = .returned (.tuple #[.int .i32 (65533 : Nat), .int .i64 (1 : Nat)]) ∧ Below w.heap.size w.drew w') := cd
  clear cd
  go_enter Tryz.func140, Tryz.ntmps140
  go_wp2
  go_region_held3 (fun w' => w'.cell? ⟨b, 0, none⟩ = some (.string s) ∧ w'.cell? ⟨b, 1, none⟩ = some (.int .i64 (k : Int))) (first | go_keep | exact ⟨by assumption, by assumption⟩) ((go_at_call 121; refine CD.out.mono ?_; rintro e w1 ⟨rfl, b1⟩; have d0 := (b1.cell (p := ⟨b, 0, none⟩) hblt).trans c0; have d1 := (b1.cell (p := ⟨b, 1, none⟩) hblt).trans c1))
  have b1' : Below w.heap.size w w1 := ((Below.refl _ w).drew).trans b1
  have R1 := h.below b1'
  have s1 := b1'.size
  have hU1 := utab_below hU b1' (by omega)
  obtain ⟨p1, v1, hr1⟩ := R1.at
  have f1 := hr1.fz 1
  have hblt1 := hr1.lt
  clear hr1 c0 c1 CD
  go_wp2_with fail
  go_region_with (go_at_call 144; refine (cb.out w1.drew hU1 (by show 2 < w1.heap.size; omega)).mono ?_; rintro e w2 ⟨rfl, b2⟩; have e0 := (b2.cell (p := ⟨b, 0, none⟩) hblt1).trans d0; have e1 := (b2.cell (p := ⟨b, 1, none⟩) hblt1).trans d1; have e2 := (b2.frozen (p := ⟨b, 1, none⟩) hblt1).trans f1)
  all_goals
    have b2' : Below w1.heap.size w1 w2 := ((Below.refl _ w1).drew).trans b2
    have R2 := R1.below b2'
    go_wp2
    go_ret
    exact ⟨rfl, R2.put1 (k + n) _ (by omega), (b1'.mono hBw).trans ((b2'.mono (by omega)).setCell (p := ⟨b, 1, none⟩) hB _)⟩
end Go.Proofs.YtolekldjbbjmjaaGreatDoor
