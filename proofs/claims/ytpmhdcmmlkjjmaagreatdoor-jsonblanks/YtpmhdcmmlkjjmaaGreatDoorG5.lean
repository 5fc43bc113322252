/- joined: RdD PlainV -/
import Derived.Test.YtpmhdcmmlkjjmaaGreatDoorG4
import Derived.Lib.ValidAsc
import Derived.Deep.RegionHeld3
import Derived.Deep.RegionWith
/- quote's reader: sequence. -/
set_option linter.unusedSimpArgs false
set_option linter.unusedVariables false
set_option maxRecDepth 100000
namespace Go.Proofs.YtpmhdcmmlkjjmaaGreatDoor
open Go.RowKit Go.Lib
theorem Rd.below {B b : Nat} {s : ByteArray} {k : Nat} {l : List UInt8} {w w' : World} (h : Rd B b s k l w) (hb : Below w.heap.size w w') : Rd B b s k l w' := by
  obtain ⟨hB, p, v, hp, hr, ho, hn⟩ := h
  refine ⟨hB, p, v, hp, hr.keep (hb.block b hr.lt), ⟨ho.1, ?_⟩, hn⟩
  rcases ho.2 with h0 | ⟨g, cap, cur, fz, hv, hbg, hg, rest⟩
  · exact .inl h0
  · refine .inr ⟨g, cap, cur, fz, hv, hbg, ?_, rest⟩
    rw [hb.block g ?_]
    · exact hg
    · rcases Nat.lt_or_ge g w.heap.size with h' | h'
      · exact h'
      · simp [Array.getElem?_eq_none h'] at hg
theorem hsl_from (s : ByteArray) (k : Nat) (hk : k ≤ s.size) (W : World) : (Instr.slice 9 (.string s) (some (.int .i64 (k : Int))) none none).run Tryz.prog W = .ok (.string (s.extract k s.size)) W := by
  rw [run_slice_string_from_if W 9 s .i64 (k : Int) Tryz.underlying9, if_pos ⟨by omega, by omega⟩]
  simp
theorem decodeGo_eq (s : ByteArray) (k : Nat) (hk : k < s.size) : decodeGo (s.extract k s.size) = decodeL (s.data.toList.drop k) := by
  have hl := ext_list s k
  have hz := ext_size s k
  unfold decodeGo decodeL
  rw [if_neg (by omega), ← hl]
set_option maxHeartbeats 2000000 in
set_option maxRecDepth 100000 in
theorem sequence_good (B b : Nat) (s : ByteArray) (k : Nat) (l : List UInt8) (w : World) (h : Rd B b s k l w) (hs : s.size ≤ 281474976710656) (hlen : l.length + 4 ≤ 140737488355328) (hBw : B ≤ w.heap.size) (hU : Utf8Tabs 1 2 w) (hz : 2 < w.heap.size)
    (hk : k < s.size) (h128 : 128 ≤ s[k].toNat) (hn : (Q.nxt (s.data.toList.drop k)).2 = true) :
    Calls Tryz.prog 161 #[.pointer (some ⟨b, 0, none⟩)] w fun e w' => e = .returned (.int .i64 0) ∧ Rd B b s (k + (Q.nxt (s.data.toList.drop k)).1) (l ++ (s.data.toList.drop k).take (Q.nxt (s.data.toList.drop k)).1) w' ∧ Below B w w' := by
  obtain ⟨p, v, hr⟩ := h.at
  have c0 := hr.c0
  have c1 := hr.c1
  have hB := h.1
  have hsl := hsl_from s k (by omega)
  have hcons := drop_consW s k hk
  have hg := Q.dec_good s[k] (s.data.toList.drop (k + 1)) h128 (by rw [← hcons]; exact hn)
  rw [← hcons] at hg
  have hle := (Q.nxt_le (s.data.toList.drop k)).1
  have hlen2 : (s.data.toList.drop k).length = s.size - k := by simp
  rw [hlen2] at hle
  have hd1 := Q.dec_le (s.data.toList.drop k)
  have cd := decode_any (s.extract k s.size) w.drew hU
  rw [decodeGo_eq s k hk] at cd
  have HG : Hid (Lib.encodeRune ((Lib.decodeL (s.data.toList.drop k)).1 : Int) = (s.data.toList.drop k).take (Q.nxt (s.data.toList.drop k)).1) := hg.2.2
  have hg1 := hg.1
  have hg2 := hg.2.1
  have hblt := hr.lt
  clear hg hcons hlen2 hr
  generalize (s.data.toList.drop k).take (Q.nxt (s.data.toList.drop k)).1 = T at *
  generalize (Q.nxt (s.data.toList.drop k)).1 = n at *
  generalize Lib.decodeL (s.data.toList.drop k) = D at *
  obtain ⟨r, m⟩ := D
  simp only at hg1 hd1 cd HG
  subst hg1
  generalize s.extract k s.size = X at *
  have CD : Hid (Calls Tryz.prog 174 #[.string X] w.drew fun e w' => e = .returned (.tuple #[.int .i32 r, .int .i64 m]) ∧ Below w.heap.size w.drew w') := cd
  clear cd
  go_enter Tryz.func161, Tryz.ntmps161
  go_wp2
  go_region_held3 (fun w' => w'.cell? ⟨b, 0, none⟩ = some (.string s) ∧ w'.cell? ⟨b, 1, none⟩ = some (.int .i64 (k : Int))) (first | go_keep | exact ⟨by assumption, by assumption⟩) ((go_at_call 174; refine CD.out.mono ?_; rintro e w1 ⟨rfl, b1⟩; have d0 := (b1.cell (p := ⟨b, 0, none⟩) hblt).trans c0; have d1 := (b1.cell (p := ⟨b, 1, none⟩) hblt).trans c1))
  have b1' : Below w.heap.size w w1 := ((Below.refl _ w).drew).trans b1
  have R1 := h.below b1'
  have s1 := b1'.size
  have m1 : ((m : Int) == 1) = false := by rw [beq_eq_false_iff_ne]; omega
  clear d0 d1 c0 c1
  have key : ∀ (e : Ending) (w2 : World), ((∃ z : Int, e = .returned (.tuple #[.int .i64 z, .nilIface])) ∧ Rd B b s k (l ++ T) w2 ∧ Below B w1 w2) → ∃ z : Int, e = .returned (.tuple #[.int .i64 z, .nilIface]) ∧ Rd B b s k (l ++ T) w2 ∧ Below B w1 w2 := by
    rintro e w2 ⟨⟨z, hz⟩, h1, h2⟩
    exact ⟨z, hz, h1, h2⟩
  have cw := writeRune_rd B b s k l (r : Int) (by omega) (by omega) w1 R1 hlen (by omega)
  rw [HG.out] at cw
  have CW : Hid (Calls Tryz.prog 176 #[.pointer (some ⟨b, 2, none⟩), .int .i32 (r : Int)] w1 fun e w' => ∃ z : Int, e = .returned (.tuple #[.int .i64 z, .nilIface]) ∧ Rd B b s k (l ++ T) w' ∧ Below B w1 w') := cw.mono key
  clear cw key
  by_cases hr5 : ((r : Int) == 65533) = true
  · go_wp2_with fail
    refine CW.out.mono ?_
    rintro e w2 ⟨z, rfl, R2, b2⟩
    obtain ⟨p2, v2, hr2⟩ := R2.at
    have g1 := hr2.c1
    have f1 := hr2.fz 1
    clear hr2
    go_wp2
    go_ret
    exact ⟨rfl, R2.put1 (k + m) _ (by omega), (b1'.mono hBw).trans (b2.setCell (p := ⟨b, 1, none⟩) hB _)⟩
  · have hr6 : ((r : Int) == 65533) = false := by simpa using hr5
    clear hr5
    go_wp2_with fail
    refine CW.out.mono ?_
    rintro e w2 ⟨z, rfl, R2, b2⟩
    obtain ⟨p2, v2, hr2⟩ := R2.at
    have g1 := hr2.c1
    have f1 := hr2.fz 1
    clear hr2
    go_wp2
    go_ret
    exact ⟨rfl, R2.put1 (k + m) _ (by omega), (b1'.mono hBw).trans (b2.setCell (p := ⟨b, 1, none⟩) hB _)⟩
set_option maxHeartbeats 2000000 in
set_option maxRecDepth 100000 in
theorem sequence_bad (B b : Nat) (s : ByteArray) (k : Nat) (l : List UInt8) (w : World) (h : Rd B b s k l w) (hs : s.size ≤ 281474976710656) (hBw : B ≤ w.heap.size) (hU : Utf8Tabs 1 2 w) (hz : 2 < w.heap.size)
    (hk : k < s.size) (h128 : 128 ≤ s[k].toNat) (hn : (Q.nxt (s.data.toList.drop k)).2 = false) :
    Calls Tryz.prog 161 #[.pointer (some ⟨b, 0, none⟩)] w fun e w' => e = .returned (.int .i64 11) ∧ Rd B b s (k + (Q.nxt (s.data.toList.drop k)).1) l w' ∧ Below B w w' := by
  obtain ⟨p, v, hr⟩ := h.at
  have c0 := hr.c0
  have c1 := hr.c1
  have hB := h.1
  have hblt := hr.lt
  have hsl := hsl_from s k (by omega)
  have hcons := drop_consW s k hk
  have hg := Q.dec_bad s[k] (s.data.toList.drop (k + 1)) h128 (by rw [← hcons]; exact hn)
  have hf := Q.full_nxt s[k] (s.data.toList.drop (k + 1)) h128 (by rw [← hcons]; exact hn)
  rw [← hcons] at hg hf
  have hle := (Q.nxt_le (s.data.toList.drop k)).1
  have hlen2 : (s.data.toList.drop k).length = s.size - k := by simp
  rw [hlen2] at hle hf
  have cd := decode_any (s.extract k s.size) w.drew hU
  rw [decodeGo_eq s k hk, hg] at cd
  have cb : Hid (∀ w : World, Utf8Tabs 1 2 w → 2 < w.heap.size → Calls Tryz.prog 175 #[.string s, .int .i64 k] w fun e w' => e = .returned (.int .i64 ((k + (Q.nxt (s.data.toList.drop k)).1 : Nat) : Int)) ∧ Below w.heap.size w w') :=
    fun w hU hz => broken_any s k _ w hU hz hs (by omega) hf.1 (by rcases hf.2 with h | h; · left; omega
                                                                   · right; exact h)
  clear hf hg hcons hlen2 hr
  generalize (Q.nxt (s.data.toList.drop k)).1 = n at *
  generalize s.extract k s.size = X at *
  have CD : Hid (Calls Tryz.prog 174 #[.string X] w.drew fun e w' => e = .returned (.tuple #[.int .i32 (65533 : Nat), .int .i64 (1 : Nat)]) ∧ Below w.heap.size w.drew w') := cd
  clear cd
  go_enter Tryz.func161, Tryz.ntmps161
  go_wp2
  go_region_held3 (fun w' => w'.cell? ⟨b, 0, none⟩ = some (.string s) ∧ w'.cell? ⟨b, 1, none⟩ = some (.int .i64 (k : Int))) (first | go_keep | exact ⟨by assumption, by assumption⟩) ((go_at_call 174; refine CD.out.mono ?_; rintro e w1 ⟨rfl, b1⟩; have d0 := (b1.cell (p := ⟨b, 0, none⟩) hblt).trans c0; have d1 := (b1.cell (p := ⟨b, 1, none⟩) hblt).trans c1))
  have b1' : Below w.heap.size w w1 := ((Below.refl _ w).drew).trans b1
  have R1 := h.below b1'
  have s1 := b1'.size
  have hU1 := utab_below hU b1' (by omega)
  obtain ⟨p1, v1, hr1⟩ := R1.at
  have f1 := hr1.fz 1
  have hblt1 := hr1.lt
  clear hr1 c0 c1 CD
  go_wp2_with fail
  go_region_with (go_at_call 175; refine (cb.out w1.drew hU1 (by show 2 < w1.heap.size; omega)).mono ?_; rintro e w2 ⟨rfl, b2⟩; have e0 := (b2.cell (p := ⟨b, 0, none⟩) hblt1).trans d0; have e1 := (b2.cell (p := ⟨b, 1, none⟩) hblt1).trans d1; have e2 := (b2.frozen (p := ⟨b, 1, none⟩) hblt1).trans f1)
  all_goals
    have b2' : Below w1.heap.size w1 w2 := ((Below.refl _ w1).drew).trans b2
    have R2 := R1.below b2'
    go_wp2
    go_ret
    exact ⟨rfl, R2.put1 (k + n) _ (by omega), (b1'.mono hBw).trans ((b2'.mono (by omega)).setCell (p := ⟨b, 1, none⟩) hB _)⟩
end Go.Proofs.YtpmhdcmmlkjjmaaGreatDoor
/- Plain facts on reading: digits, escapes, one step of a reader, the whole of it. -/
namespace Go.Proofs.YtpmhdcmmlkjjmaaGreatDoor.Q
def dig (c : Nat) : Int := if 48 ≤ c ∧ c ≤ 57 then (c : Int) - 48 else if 97 ≤ c ∧ c ≤ 102 then (c : Int) - 87 else if 65 ≤ c ∧ c ≤ 70 then (c : Int) - 55 else -1
theorem dig_le (c : Nat) : -1 ≤ dig c ∧ dig c ≤ 15 := by
  unfold dig
  repeat' split
  all_goals omega
def goes (c d : Int) (i : Nat) (aw : Bool) : Bool := if i = 0 then (!aw || d == 13) else if i = 1 then ((c == 13 && decide (12 ≤ d)) == aw) else true
/-- r digits more, behind i that made c: the number, how many digits went well, whether all did -/
def digs (aw : Bool) : Nat → Nat → Nat → List UInt8 → Nat × Nat × Bool
  | 0, i, c, t => (c, i, true)
  | r + 1, i, c, [] => (0, i, false)
  | r + 1, i, c, x :: t => if dig x.toNat < 0 ∨ goes c (dig x.toNat) i aw = false then (0, i, false) else digs aw r (i + 1) (16 * c + (dig x.toNat).toNat) t
theorem digs_le (aw : Bool) : ∀ (r i c : Nat) (t : List UInt8), (digs aw r i c t).2.1 ≤ i + t.length ∧ (digs aw r i c t).2.1 ≤ i + r ∧ i ≤ (digs aw r i c t).2.1 ∧ ((digs aw r i c t).2.2 = true → (digs aw r i c t).2.1 = i + r)
  | 0, i, c, t => by simp [digs]
  | r + 1, i, c, [] => by simp [digs]
  | r + 1, i, c, x :: t => by
    unfold digs
    split
    · simp
    · have := digs_le aw r (i + 1) (16 * c + (dig x.toNat).toNat) t
      simp only [List.length_cons]
      refine ⟨by omega, by omega, by omega, fun h => ?_⟩
      have := this.2.2.2 h
      omega
/-- four digits: the number lies where it must -/
theorem digs_range (aw : Bool) (t : List UInt8) (h : (digs aw 4 0 0 t).2.2 = true) :
    (digs aw 4 0 0 t).1 < 65536 ∧ (aw = true → 56320 ≤ (digs aw 4 0 0 t).1 ∧ (digs aw 4 0 0 t).1 ≤ 57343) ∧ (aw = false → ¬ (56320 ≤ (digs aw 4 0 0 t).1 ∧ (digs aw 4 0 0 t).1 ≤ 57343)) := by
  rcases t with _ | ⟨x0, t⟩
  · simp [digs] at h
  rw [digs] at h ⊢
  split at h
  · simp at h
  rename_i g0
  rw [if_neg g0]
  rcases t with _ | ⟨x1, t⟩
  · simp [digs] at h
  rw [digs] at h ⊢
  split at h
  · simp at h
  rename_i g1
  rw [if_neg g1]
  rcases t with _ | ⟨x2, t⟩
  · simp [digs] at h
  rw [digs] at h ⊢
  split at h
  · simp at h
  rename_i g2
  rw [if_neg g2]
  rcases t with _ | ⟨x3, t⟩
  · simp [digs] at h
  rw [digs] at h ⊢
  split at h
  · simp at h
  rename_i g3
  rw [if_neg g3, digs]
  have b0 := dig_le x0.toNat
  have b1 := dig_le x1.toNat
  have b2 := dig_le x2.toNat
  have b3 := dig_le x3.toNat
  generalize dig x0.toNat = d0 at *
  generalize dig x1.toNat = d1 at *
  generalize dig x2.toNat = d2 at *
  generalize dig x3.toNat = d3 at *
  have n0 := not_or.1 g0
  have n1 := not_or.1 g1
  have n2 := not_or.1 g2
  have n3 := not_or.1 g3
  simp only [goes] at n0 n1
  refine ⟨by simp only; omega, ?_, ?_⟩
  · rintro rfl
    simp at n0 n1
    simp only
    omega
  · rintro rfl
    simp at n0 n1
    simp only
    omega
def saidN (c : Nat) : Nat := if c = 34 then 34 else if c = 92 then 92 else if c = 47 then 47 else if c = 98 then 8 else if c = 102 then 12 else if c = 110 then 10 else if c = 114 then 13 else if c = 116 then 9 else 0
theorem saidN_lt (c : Nat) : saidN c < 128 := by
  unfold saidN
  repeat' split
  all_goals omega
/-- behind 'u': the scalar value, how far, whether it is one -/
def numF (t : List UInt8) : Nat × Nat × Bool :=
  if (digs false 4 0 0 t).2.2 = false then (0, (digs false 4 0 0 t).2.1, false)
  else if 55296 ≤ (digs false 4 0 0 t).1 ∧ (digs false 4 0 0 t).1 < 56320 then
    (match t.drop 4 with
     | [] => (0, 4, false)
     | x :: r => if x.toNat ≠ 92 then (0, 4, false) else
       match r with
       | [] => (0, 5, false)
       | y :: r2 => if y.toNat ≠ 117 then (0, 5, false) else
         if (digs true 4 0 0 r2).2.2 = false then (0, 6 + (digs true 4 0 0 r2).2.1, false)
         else (65536 + 1024 * ((digs false 4 0 0 t).1 - 55296) + ((digs true 4 0 0 r2).1 - 56320), 10, true))
  else ((digs false 4 0 0 t).1, 4, true)
theorem numF_le (t : List UInt8) : (numF t).2.1 ≤ t.length ∧ ((numF t).2.2 = true → 4 ≤ (numF t).2.1 ∧ (numF t).1 ≤ 1114111 ∧ ¬ (55296 ≤ (numF t).1 ∧ (numF t).1 ≤ 57343)) := by
  have h0 := digs_le false 4 0 0 t
  unfold numF
  split
  · simp; omega
  · rename_i g
    have g' : (digs false 4 0 0 t).2.2 = true := by simpa using g
    have r0 := digs_range false t g'
    have e0 := h0.2.2.2 g'
    have l0 : 4 ≤ t.length := by omega
    split
    · rename_i c
      split
      · simp; omega
      · rename_i x r hx
        have lx : r.length + 5 = t.length := by have := congrArg List.length hx; simp at this; omega
        split
        · simp; omega
        · split
          · simp at lx; simp; omega
          · rename_i y r2
            simp at lx
            split
            · simp; omega
            · have h1 := digs_le true 4 0 0 r2
              split
              · simp; omega
              · rename_i g2
                have g2' : (digs true 4 0 0 r2).2.2 = true := by simpa using g2
                have r1 := (digs_range true r2 g2').2.1 rfl
                have e1 := h1.2.2.2 g2'
                simp only
                refine ⟨by omega, fun _ => ⟨by omega, by omega, by omega⟩⟩
    · rename_i c
      simp only
      have := r0.2.2 rfl
      refine ⟨by omega, fun _ => ⟨by omega, by omega, by omega⟩⟩
/-- behind a backslash: the scalar value, how far, whether it is one -/
def escF : List UInt8 → Nat × Nat × Bool
  | [] => (0, 0, false)
  | x :: t => if x.toNat = 117 then ((numF t).1, 1 + (numF t).2.1, (numF t).2.2) else if saidN x.toNat = 0 then (0, 0, false) else (saidN x.toNat, 1, true)
theorem escF_cons (x : UInt8) (t : List UInt8) : escF (x :: t) = if x.toNat = 117 then ((numF t).1, 1 + (numF t).2.1, (numF t).2.2) else if saidN x.toNat = 0 then (0, 0, false) else (saidN x.toNat, 1, true) := rfl
theorem escF_le (t : List UInt8) : (escF t).2.1 ≤ t.length ∧ ((escF t).2.2 = true → (escF t).1 ≤ 1114111 ∧ ¬ (55296 ≤ (escF t).1 ∧ (escF t).1 ≤ 57343) ∧ 1 ≤ (escF t).2.1 ∧ ((escF t).1 < 128 ∨ 4 ≤ (escF t).2.1)) := by
  cases t with
  | nil => simp [escF]
  | cons x t =>
    have h := numF_le t
    have hs := saidN_lt x.toNat
    rw [escF_cons]
    split
    · simp only [List.length_cons]
      refine ⟨by omega, fun g => ?_⟩
      have := h.2 g
      omega
    · split
      · simp
      · simp only [List.length_cons]
        omega
theorem enc_len (v : Nat) : (Lib.encodeRune (v : Int)).length ≤ 4 ∧ 1 ≤ (Lib.encodeRune (v : Int)).length ∧ (v < 128 → (Lib.encodeRune (v : Int)).length = 1) := by
  have h := Lib.encodeRuneZ_length (v : Int)
  unfold Lib.encodeRune
  rw [List.length_map]
  refine ⟨h.2, h.1, fun hv => ?_⟩
  rw [Lib.encodeRuneZ_one (by omega) (by omega)]
  rfl
/-- one step inside the quotes: 0 a fault, 1 the end, 2 on; the bytes; how far; the error -/
def stp : List UInt8 → Nat × List UInt8 × Nat × Nat
  | [] => (0, [], 0, 10)
  | x :: t => if x.toNat < 32 then (0, [], 0, 10) else if x.toNat = 34 then (1, [], 1, 0)
    else if x.toNat = 92 then (if (escF t).2.2 = true then (2, Lib.encodeRune ((escF t).1 : Int), 1 + (escF t).2.1, 0) else (0, [], 1 + (escF t).2.1, 12))
    else if (nxt (x :: t)).2 = true then (2, (x :: t).take (nxt (x :: t)).1, (nxt (x :: t)).1, 0) else (0, [], (nxt (x :: t)).1, 11)
theorem stp_cons (x : UInt8) (t : List UInt8) : stp (x :: t) = if x.toNat < 32 then (0, [], 0, 10) else if x.toNat = 34 then (1, [], 1, 0)
    else if x.toNat = 92 then (if (escF t).2.2 = true then (2, Lib.encodeRune ((escF t).1 : Int), 1 + (escF t).2.1, 0) else (0, [], 1 + (escF t).2.1, 12))
    else if (nxt (x :: t)).2 = true then (2, (x :: t).take (nxt (x :: t)).1, (nxt (x :: t)).1, 0) else (0, [], (nxt (x :: t)).1, 11) := rfl
theorem stp_le (t : List UInt8) : (stp t).2.2.1 ≤ t.length ∧ ((stp t).1 ≠ 0 → 1 ≤ (stp t).2.2.1) ∧ (stp t).2.1.length ≤ (stp t).2.2.1 ∧ (stp t).1 ≤ 2 := by
  cases t with
  | nil => simp [stp]
  | cons x t =>
    have he := escF_le t
    have hn := nxt_le (x :: t)
    rw [stp_cons]
    split
    · simp
    · split
      · simp
      · split
        · split
          · rename_i g
            have := he.2 g
            have hl := enc_len (escF t).1
            simp only [List.length_cons]
            refine ⟨by omega, by omega, ?_, by omega⟩
            rcases this.2.2.2 with h | h
            · have := hl.2.2 h; omega
            · omega
          · simp only [List.length_cons]
            refine ⟨by omega, by omega, by simp, by omega⟩
        · split
          · rename_i g
            simp only
            have := hn.2.2 g
            refine ⟨hn.1, fun _ => this, List.length_take_le _ _, by omega⟩
          · simp only
            refine ⟨hn.1, by omega, by simp, by omega⟩
/-- fuel, what is left, the place, the bytes so far: the string, the place, the error -/
def unq : Nat → List UInt8 → Nat → List UInt8 → List UInt8 × Nat × Nat
  | 0, t, k, out => (out, k, 0)
  | f + 1, t, k, out => if (stp t).1 = 0 then ([], k + (stp t).2.2.1, (stp t).2.2.2) else if (stp t).1 = 1 then (out, k + 1, 0) else unq f (t.drop (stp t).2.2.1) (k + (stp t).2.2.1) (out ++ (stp t).2.1)
/-- Unquote -/
def unqAll (l : List UInt8) (at' : Int) : List UInt8 × Nat × Nat :=
  if at' < 0 ∨ (l.length : Int) < at' then ([], 0, 2)
  else if (l.drop at'.toNat).head? = some 34 then unq (l.length + 1) (l.drop (at'.toNat + 1)) (at'.toNat + 1) []
  else ([], at'.toNat, 10)
end Go.Proofs.YtpmhdcmmlkjjmaaGreatDoor.Q
