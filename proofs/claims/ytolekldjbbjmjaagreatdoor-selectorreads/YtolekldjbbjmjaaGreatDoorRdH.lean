import Derived.Test.YtolekldjbbjmjaaGreatDoorRdG
import Derived.Deep.LoopGhost
/- quote's reader: quoted; Unquote. -/
set_option linter.unusedSimpArgs false
set_option linter.unusedVariables false
set_option maxRecDepth 100000
namespace Go.Proofs.YtolekldjbbjmjaaGreatDoor
open Go.RowKit Go.Lib
theorem Q.stp_err (t : List UInt8) (h : (Q.stp t).1 = 0) : (Q.stp t).2.2.2 = 10 ∨ (Q.stp t).2.2.2 = 11 ∨ (Q.stp t).2.2.2 = 12 := by
  cases t with
  | nil => simp [Q.stp]
  | cons x t =>
    rw [Q.stp_cons] at h ⊢
    split at h
    · rename_i g; rw [if_pos g]; simp
    · rename_i g0
      rw [if_neg g0]
      split at h
      · simp at h
      · rename_i g1
        rw [if_neg g1]
        split at h
        · rename_i g2
          rw [if_pos g2]
          split at h
          · simp at h
          · rename_i g3; rw [if_neg g3]; simp
        · rename_i g2
          rw [if_neg g2]
          split at h
          · simp at h
          · rename_i g3; rw [if_neg g3]; simp
theorem Q.stp_one (x : UInt8) (t : List UInt8) (h : x.toNat ≠ 34) : (Q.stp (x :: t)).1 ≠ 1 := by
  rw [Q.stp_cons, if_neg h]
  repeat' split
  all_goals simp
theorem Q.stp_low (t : List UInt8) (h : ∀ x r, t = x :: r → x.toNat < 32) : Q.stp t = (0, [], 0, 10) := by
  cases t with
  | nil => rfl
  | cons x r => rw [Q.stp_cons, if_pos (h x r rfl)]
theorem Q.unq_step (f : Nat) (t : List UInt8) (k : Nat) (out : List UInt8) : Q.unq (f + 1) t k out = if (Q.stp t).1 = 0 then ([], k + (Q.stp t).2.2.1, (Q.stp t).2.2.2) else if (Q.stp t).1 = 1 then (out, k + 1, 0) else Q.unq f (t.drop (Q.stp t).2.2.1) (k + (Q.stp t).2.2.1) (out ++ (Q.stp t).2.1) := rfl
/-- what quoted tells -/
theorem Q.unq_grows : ∀ (f : Nat) (t : List UInt8) (k : Nat) (out : List UInt8), k ≤ (Q.unq f t k out).2.1 ∧ ((Q.unq f t k out).2.2 = 0 → out.length ≤ (Q.unq f t k out).1.length)
  | 0, t, k, out => ⟨Nat.le_refl _, fun _ => Nat.le_refl _⟩
  | f + 1, t, k, out => by
    rw [Q.unq_step]
    split
    · rename_i c
      have := Q.stp_err t c
      refine ⟨Nat.le_add_right _ _, fun h => ?_⟩
      have h' : (Q.stp t).2.2.2 = 0 := h
      omega
    · split
      · exact ⟨Nat.le_succ _, fun _ => Nat.le_refl _⟩
      · have ih := Q.unq_grows f (t.drop (Q.stp t).2.2.1) (k + (Q.stp t).2.2.1) (out ++ (Q.stp t).2.1)
        rw [List.length_append] at ih
        exact ⟨by omega, fun h => by have := ih.2 h; omega⟩
/-- what is made on the way stays as short as the Builder bears -/
def Q.Borne (R : List UInt8 × Nat × Nat) : Prop := (R.2.2 = 0 → R.1.length ≤ 140737488355000) ∧ (R.2.2 ≠ 0 → R.2.1 ≤ 140737488355000)
def Done (B b : Nat) (s : ByteArray) (w : World) (RES : List UInt8 × Nat × Nat) (e : Ending) (w' : World) : Prop :=
  ∃ l', e = .returned (.int .i64 (RES.2.2 : Int)) ∧ Rd B b s RES.2.1 l' w' ∧ (RES.2.2 = 0 → l' = RES.1) ∧ Below B w w'
set_option maxHeartbeats 4000000 in
set_option maxRecDepth 100000 in
theorem quoted_yes (B b : Nat) (s : ByteArray) (k0 : Nat) (w : World) (h : Rd B b s k0 [] w) (hs : s.size ≤ 281474976710656) (hBw : B ≤ w.heap.size) (hT : SaidT w) (hU : Utf8Tabs 0 1 w) (hB4 : 4 < B) (h34 : hit s k0 34 = true) (RES : List UInt8 × Nat × Nat)
    (hR : Q.unq (s.size + 1) (s.data.toList.drop (k0 + 1)) (k0 + 1) [] = RES) (hM : Hid (Q.Borne RES)) :
    Calls Tryz.prog 124 #[.pointer (some ⟨b, 0, none⟩)] w (Done B b s w RES) := by
  obtain ⟨hlt0, he0⟩ := hit_yes h34
  have ct := take_any B b s k0 [] 34 w h hs (by omega)
  rw [h34] at ct
  simp only [if_true] at ct
  have HR : Hid (Q.unq (s.size + 1) (s.data.toList.drop (k0 + 1)) (k0 + 1) [] = RES) := hR
  clear hR h34 he0
  go_enter Tryz.func124, Tryz.ntmps124
  go_wp2_with (go_at_call 132; refine ct.mono ?_; rintro e w1 ⟨rfl, R1, b1⟩)
  clear ct
  go_loopg [3] (s.size + 1) (fun gk e wr => ∃ (k : Nat) (l : List UInt8) (f : Nat), k ≤ s.size ∧ l.length ≤ k ∧ s.size - k < gk ∧ Rd B b s k l wr ∧ Below B w wr ∧ Hid ((s.data.toList.drop k).length < f ∧ Q.unq f (s.data.toList.drop k) k l = RES))
  case atStart => exact ⟨k0 + 1, [], s.size + 1, by omega, by simp, by omega, R1, b1, by simp; omega, HR.out⟩
  case round =>
    obtain ⟨k, l, f, hk, hl, hg, Rk, bk, HK⟩ := hrel
    clear HR
    have hl4 : l.length + 4 ≤ 140737488355328 := by
      have u := Q.unq_grows f (s.data.toList.drop k) k l
      rw [HK.out.2] at u
      have m := hM.out
      by_cases c : RES.2.2 = 0
      · have := m.1 c; have := u.2 c; omega
      · have := m.2 c; omega
    clear hM
    have sk := bk.size
    obtain ⟨p, v, hr⟩ := Rk.at
    have c0 := hr.c0
    have c1 := hr.c1
    clear hr
    obtain ⟨f', hf'⟩ : ∃ f', f = f' + 1 := ⟨f - 1, by have := HK.out.1; omega⟩
    by_cases hlt : k < s.size
    · have y1 : (k : Int) < s.size := by omega
      have hx := drop_consW s k hlt
      by_cases h32 : s[k].toNat < 32
      · have y2 : decide ((32 : Int) ≤ (s[k].toNat : Int)) = false := by simp; omega
        have y3 : ¬ (32 : Int) ≤ (s[k].toNat : Int) := by omega
        obtain rfl : RES = ([], k, 10) := by
          rw [← HK.out.2, hf', Q.unq_step, Q.stp_low _ (by intro x r e; rw [hx] at e; have := (List.cons.inj e).1; subst this; exact h32)]
          rfl
        clear HK hf' hx
        go_wp2
        go_quiet (fail)
        go_wp2
        go_ret
        exact ⟨l, rfl, Rk.drewN nq, by simp, below_drewN bk nq⟩
      · have y2 : (32 : Int) ≤ (s[k].toNat : Int) := by omega
        have c3 : Hid (∀ w, Rd B b s k l w → Calls Tryz.prog 132 #[.pointer (some ⟨b, 0, none⟩), .int .u8 (34 : Nat)] w fun e w' => e = .returned (.bool (hit s k 34)) ∧ Rd B b s (if hit s k 34 then k + 1 else k) l w' ∧ Below B w w') := fun w R => take_any B b s k l 34 w R hs hk
        cases h34 : hit s k 34
        · rw [h34] at c3
          simp only [Bool.false_eq_true, if_false] at c3
          have hne : s[k].toNat ≠ 34 := hit_no h34 _ _ hx
          have cc : Hid (∀ w, Rd B b s k l w → B ≤ w.heap.size → SaidT w → Utf8Tabs 0 1 w → Calls Tryz.prog 133 #[.pointer (some ⟨b, 0, none⟩)] w (Told B b s l w (Q.stp (s.data.toList.drop k)).2.2.2 (k + (Q.stp (s.data.toList.drop k)).2.2.1) (decide ((Q.stp (s.data.toList.drop k)).1 = 2)) (Q.stp (s.data.toList.drop k)).2.1)) :=
            fun w R hb hT hU => char_any B b s k l w R hs hlt (by omega) hne (by omega) hb hT hU hB4
          have hle := Q.stp_le (s.data.toList.drop k)
          have hone := Q.stp_one s[k] (s.data.toList.drop (k + 1)) hne
          rw [← hx] at hone
          have herr := Q.stp_err (s.data.toList.drop k)
          have hlen2 : (s.data.toList.drop k).length = s.size - k := by simp
          rw [hlen2] at hle
          have HU : Hid (s.size - k < f ∧ (if (Q.stp (s.data.toList.drop k)).1 = 0 then ([], k + (Q.stp (s.data.toList.drop k)).2.2.1, (Q.stp (s.data.toList.drop k)).2.2.2) else if (Q.stp (s.data.toList.drop k)).1 = 1 then (l, k + 1, 0) else Q.unq f' (s.data.toList.drop (k + (Q.stp (s.data.toList.drop k)).2.2.1)) (k + (Q.stp (s.data.toList.drop k)).2.2.1) (l ++ (Q.stp (s.data.toList.drop k)).2.1)) = RES) := by
            have := HK.out
            rw [hlen2] at this
            refine ⟨this.1, ?_⟩
            rw [← this.2, hf', Q.unq_step, List.drop_drop]
          have HF : Hid (f = f' + 1) := hf'
          clear HK hf' hx hlen2 h34
          generalize Q.stp (s.data.toList.drop k) = S at *
          obtain ⟨kd, bs, n, er⟩ := S
          simp only at *
          by_cases hkd : kd = 0
          · subst hkd
            have hern := herr rfl
            obtain rfl : RES = ([], k + n, er) := by rw [← HU.out.2]; rfl
            have y5 : ((er : Int) != 0) = true := by rw [bne_iff_ne]; omega
            have C0 : Hid (∀ w, Rd B b s k l w → B ≤ w.heap.size → SaidT w → Utf8Tabs 0 1 w → Calls Tryz.prog 133 #[.pointer (some ⟨b, 0, none⟩)] w fun e w' => e = .returned (.int .i64 (er : Int)) ∧ Rd B b s (k + n) l w' ∧ Below B w w') :=
              fun w R hb hT hU => (cc.out w R hb hT hU).mono fun e w' h => ⟨h.1, h.2.1, h.2.2⟩
            have HER : Hid (er ≠ 0) := by show er ≠ 0; omega
            clear HU herr hern cc
            go_wp2
            go_quiet (fail)
            go_wp2_with fail
            refine (c3.out _ (Rk.drewN _)).mono ?_
            rintro e w2 ⟨rfl, R2, b2⟩
            have b2' := (below_drewN bk nq).trans b2
            have s2 := b2'.size
            have hT2 := hT.below b2' hB4
            have hU2 := utab_below hU b2' (by omega)
            go_wp2_with fail
            refine (C0.out w2 R2 (by omega) hT2 hU2).mono ?_
            rintro e w3 ⟨rfl, R3, b3⟩
            go_wp2
            go_ret
            exact ⟨l, rfl, R3, fun e => absurd e HER.out, b2'.trans b3⟩
          · obtain rfl : kd = 2 := by omega
            have C2 : Hid (∀ w, Rd B b s k l w → B ≤ w.heap.size → SaidT w → Utf8Tabs 0 1 w → Calls Tryz.prog 133 #[.pointer (some ⟨b, 0, none⟩)] w fun e w' => e = .returned (.int .i64 0) ∧ Rd B b s (k + n) (l ++ bs) w' ∧ Below B w w') :=
              fun w R hb hT hU => (cc.out w R hb hT hU).mono fun e w' h => ⟨h.1, h.2.1, h.2.2⟩
            have hn1 := hle.2.1 (by omega)
            have HN : Hid (s.size - k < f ∧ Q.unq f' (s.data.toList.drop (k + n)) (k + n) (l ++ bs) = RES) := HU.out
            clear HU herr cc hkd hone
            go_wp2
            go_quiet (fail)
            go_wp2_with fail
            refine (c3.out _ (Rk.drewN _)).mono ?_
            rintro e w2 ⟨rfl, R2, b2⟩
            have b2' := (below_drewN bk nq).trans b2
            have s2 := b2'.size
            have hT2 := hT.below b2' hB4
            have hU2 := utab_below hU b2' (by omega)
            go_wp2_with fail
            refine (C2.out w2 R2 (by omega) hT2 hU2).mono ?_
            rintro e w3 ⟨rfl, R3, b3⟩
            go_wp2
            go_roundg (s.size - (k + n) + 1)
            case measure => omega
            case rel =>
              have hf := HF.out
              have hn := HN.out
              refine ⟨k + n, l ++ bs, f', by omega, by rw [List.length_append]; omega, by omega, R3, b2'.trans b3, by simp; omega, hn.2⟩
        · rw [h34] at c3
          simp only [if_true] at c3
          obtain ⟨hlt', he'⟩ := hit_yes h34
          obtain rfl : RES = (l, k + 1, 0) := by
            rw [← HK.out.2, hf', Q.unq_step]
            have e : Q.stp (s.data.toList.drop k) = (1, [], 1, 0) := by
              rw [hx, Q.stp_cons, if_neg h32, if_pos he']
            rw [e]; rfl
          clear HK hf' hx h34 he'
          go_wp2
          go_quiet (fail)
          go_wp2_with fail
          refine (c3.out _ (Rk.drewN _)).mono ?_
          rintro e w2 ⟨rfl, R2, b2⟩
          go_wp2
          go_ret
          exact ⟨l, rfl, R2, fun _ => rfl, (below_drewN bk nq).trans b2⟩
    · have y1 : decide ((k : Int) < s.size) = false := by simp; omega
      have y1' : ¬ (k : Int) < s.size := by omega
      obtain rfl : RES = ([], k, 10) := by
        rw [← HK.out.2, hf', Q.unq_step, Q.stp_low _ (by intro x r e; rw [drop_endW s k (by omega)] at e; cases e)]
        rfl
      clear HK hf'
      go_wp2
      go_quiet (fail)
      go_wp2
      go_ret
      exact ⟨l, rfl, Rk.drewN nq, by simp, below_drewN bk nq⟩
set_option maxHeartbeats 4000000 in
set_option maxRecDepth 100000 in
theorem quoted_no (B b : Nat) (s : ByteArray) (k0 : Nat) (w : World) (h : Rd B b s k0 [] w) (hs : s.size ≤ 281474976710656) (hk : k0 ≤ s.size) (h34 : hit s k0 34 = false) :
    Calls Tryz.prog 124 #[.pointer (some ⟨b, 0, none⟩)] w (Done B b s w ([], k0, 10)) := by
  have ct := take_any B b s k0 [] 34 w h hs hk
  rw [h34] at ct
  simp only [Bool.false_eq_true, if_false] at ct
  clear h34
  go_enter Tryz.func124, Tryz.ntmps124
  go_wp2_with (go_at_call 132; refine ct.mono ?_; rintro e w1 ⟨rfl, R1, b1⟩)
  go_ret
  exact ⟨[], rfl, R1, fun _ => rfl, b1⟩
theorem drop_head (s : ByteArray) (k c : Nat) (x : UInt8) (hx : x.toNat = c) : ((s.data.toList.drop k).head? = some x) = (hit s k c = true) := by
  rw [eq_iff_iff]
  constructor
  · intro h
    have hk : k < s.size := by
      rcases Nat.lt_or_ge k s.size with h' | h'
      · exact h'
      · rw [drop_endW s k h'] at h; cases h
    rw [drop_consW s k hk] at h
    have : s[k] = x := by simpa using h
    simp [hit, hk, this, hx]
  · intro h
    obtain ⟨hk, he⟩ := hit_yes h
    rw [drop_consW s k hk]
    have : s[k] = x := by apply UInt8.toNat_inj.1; omega
    simp [this]
theorem Q.unq_err : ∀ (f : Nat) (t : List UInt8) (k : Nat) (out : List UInt8), (Q.unq f t k out).2.2 ≠ 0 → (Q.unq f t k out).1 = []
  | 0, t, k, out, h => by simp [Q.unq] at h
  | f + 1, t, k, out, h => by
    rw [Q.unq_step] at h ⊢
    split
    · rfl
    · rename_i g
      rw [if_neg g] at h
      split
      · rename_i g1
        rw [if_pos g1] at h
        simp at h
      · rename_i g1
        rw [if_neg g1] at h
        exact Q.unq_err f _ _ _ h
theorem Q.unqAll_err (l : List UInt8) (z : Int) (h : (Q.unqAll l z).2.2 ≠ 0) : (Q.unqAll l z).1 = [] := by
  rw [Q.unqAll] at h ⊢
  split
  · rfl
  · rename_i g
    rw [if_neg g] at h
    split
    · rename_i g1
      rw [if_pos g1] at h
      exact Q.unq_err _ _ _ _ h
    · rfl
theorem Q.unqAll_in (s : ByteArray) (k : Nat) (hk : k ≤ s.size) : Q.unqAll s.data.toList (k : Int) = if hit s k 34 = true then Q.unq (s.size + 1) (s.data.toList.drop (k + 1)) (k + 1) [] else ([], k, 10) := by
  have hl : s.data.toList.length = s.size := by simp
  rw [Q.unqAll, if_neg (by omega), Int.toNat_natCast, hl]
  have e := drop_head s k 34 34 rfl
  by_cases h : hit s k 34 = true
  · rw [if_pos (by rw [e]; exact h), if_pos h]
  · rw [if_neg (by rw [e]; exact h), if_neg h]
theorem ret_sii {x y : ByteArray} {a b c d : Int} (h0 : x = y) (h : a = b) (h2 : c = d) : Ending.returned (.tuple #[.string x, .int .i64 a, .int .i64 c]) = .returned (.tuple #[.string y, .int .i64 b, .int .i64 d]) := by rw [h0, h, h2]
/-- the reader, new -/
theorem Rd.new (w : World) (s : ByteArray) (k : Nat) : Rd w.heap.size w.heap.size s k [] (w.alloc (.cells #[.string s, .int .i64 k, .pointer none, .slice none 0 0] 161)) :=
  ⟨Nat.le_refl _, .pointer none, .slice none 0 0, .inl rfl, heap_alloc_new w _, World.ownsRowF_nil _ _ _ _, fun _ => rfl⟩
set_option maxHeartbeats 4000000 in
set_option maxRecDepth 100000 in
theorem unquote_in (s : ByteArray) (k : Nat) (w : World) (hs : s.size ≤ 281474976710656) (hk : k ≤ s.size) (hT : SaidT w) (hU : Utf8Tabs 0 1 w) (hz : 4 < w.heap.size) (hM : Hid (Q.Borne (Q.unqAll s.data.toList (k : Int)))) :
    Calls Tryz.prog 102 #[.string s, .int .i64 k] w fun e w' => e = .returned (.tuple #[.string ⟨(Q.unqAll s.data.toList (k : Int)).1.toArray⟩, .int .i64 (Q.unqAll s.data.toList (k : Int)).2.1, .int .i64 (Q.unqAll s.data.toList (k : Int)).2.2]) ∧ Below w.heap.size w w' := by
  have ea := Q.unqAll_in s k hk
  obtain ⟨RES, hRES⟩ : ∃ RES, RES = Q.unqAll s.data.toList (k : Int) := ⟨_, rfl⟩
  have cq : Hid (∀ w1, Below w.heap.size w w1 → Rd w.heap.size w.heap.size s k [] w1 → Calls Tryz.prog 124 #[.pointer (some ⟨w.heap.size, 0, none⟩)] w1 (Done w.heap.size w.heap.size s w1 RES)) := by
    intro w1 b1 R1
    cases h34 : hit s k 34
    · rw [h34, if_neg (by simp)] at ea
      rw [hRES, ea]
      exact quoted_no _ _ s k w1 R1 hs hk h34
    · rw [h34, if_pos rfl] at ea
      exact quoted_yes _ _ s k w1 R1 hs b1.size (hT.below b1 hz) (utab_below hU b1 (by omega)) hz h34 RES (by rw [hRES, ea]) (by rw [hRES]; exact hM)
  have herr := Q.unqAll_err s.data.toList (k : Int)
  rw [← hRES] at herr ⊢
  clear ea hRES hT hU hM
  obtain ⟨l, pl, er⟩ := RES
  simp only at herr ⊢
  have HE : Hid (er ≠ 0 → l = []) := herr
  clear herr
  have y1 : ¬ (k : Int) < 0 := by omega
  have y2 : ¬ (s.size : Int) < (k : Int) := by omega
  have R0 := Rd.new w s k
  have b0 : Below w.heap.size w (w.alloc (.cells #[.string s, .int .i64 k, .pointer none, .slice none 0 0] 161)) := (Below.refl _ w).alloc (Nat.le_refl _) _
  by_cases her : er = 0
  · subst her
    go_enter Tryz.func102, Tryz.ntmps102
    go_wp2_with fail
    refine (cq.out _ b0 R0).mono ?_
    rintro e w1 ⟨l', rfl, R1, hl', b1⟩
    simp only at R1
    obtain rfl := hl' rfl
    obtain ⟨p, v, hr⟩ := R1.at
    have c1 := hr.c1
    have hblt := hr.lt
    have CS : Hid (Calls Tryz.prog 25 #[.pointer (some ⟨w.heap.size, 2, none⟩)] w1.drew fun e w' => e = .returned (.string ⟨l'.toArray⟩) ∧ w'.heap[w.heap.size]? = w1.heap[w.heap.size]? ∧ Below w.heap.size w1.drew w') := string_rd _ _ s pl l' w1.drew R1
    clear hr hl' cq HE
    go_wp2
    go_region_held3 (fun w' => w'.cell? ⟨w.heap.size, 1, none⟩ = some (.int .i64 (pl : Int))) (first | go_keep | assumption) ((go_at_call 25; refine CS.out.mono ?_; rintro e w2 ⟨rfl, hk2, b2⟩; have d1 := (World.cell?_of_block (a := ⟨w.heap.size, 1, none⟩) hk2).trans c1))
    go_wp2
    go_ret3
    exact ⟨rfl, b0.trans (b1.trans (((Below.refl _ w1).drew).trans b2))⟩
  · obtain rfl := HE.out her
    have y3 : ((er : Int) != 0) = true := by rw [bne_iff_ne]; omega
    clear her HE
    go_enter Tryz.func102, Tryz.ntmps102
    go_wp2_with fail
    refine (cq.out _ b0 R0).mono ?_
    rintro e w1 ⟨l', rfl, R1, hl', b1⟩
    simp only at R1
    obtain ⟨p, v, hr⟩ := R1.at
    have c1 := hr.c1
    clear hr hl' cq
    go_wp2
    go_quiet (fail)
    go_wp2
    go_ret3
    exact ⟨rfl, below_drewN (b0.trans b1) _⟩
end Go.Proofs.YtolekldjbbjmjaaGreatDoor
