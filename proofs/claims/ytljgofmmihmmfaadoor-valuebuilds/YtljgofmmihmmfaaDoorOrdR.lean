/- Equal by the order just if the same, field by field. -/
import Derived.Test.YtljgofmmihmmfaaDoorOrdQ
set_option linter.unusedSimpArgs false
set_option linter.unusedVariables false
namespace Go.Proofs.YtljgofmmihmmfaaDoor
open Go.RowKit Go.Lib

theorem cmpI_zero (a b : Int) : cmpI a b = 0 ↔ a = b := by
  constructor
  · intro h
    by_cases e : a = b
    · exact e
    · exact absurd h (cmpI_ne e)
  · intro h; rw [h, cmpI_self]
theorem cmpB_zero (a b : Bool) : cmpB a b = 0 ↔ a = b := by cases a <;> cases b <;> decide
theorem cmpT_zero (a b : ByteArray) : cmpT a b = 0 ↔ a.toList = b.toList := by rw [cmpT_eq]; exact cmpS_zero a b

mutual
theorem frsV_zero : ∀ v u : V, frsV v u = 0 ↔ V.eqB v u = true
  | .mk k b i s l m, .mk k' b' i' s' l' m' => by
    have hL := frsL_zero l l'
    have hM := frsM_zero m m'
    rw [frsV, V.eqB]
    simp only [Bool.and_eq_true, decide_eq_true_eq, beq_iff_eq]
    by_cases h1 : k = k'
    · rw [if_pos h1]
      by_cases h2 : b = b'
      · rw [if_pos h2]
        by_cases h3 : i = i'
        · rw [if_pos h3]
          by_cases h4 : s.toList = s'.toList
          · rw [if_pos h4]
            by_cases h5 : frsL l l' = 0
            · rw [if_pos h5, hM]
              have := hL.1 h5
              constructor
              · intro h; exact ⟨⟨⟨⟨⟨⟨⟨h1, h2⟩, h3⟩, h4⟩, this.1⟩, h.1⟩, this.2⟩, h.2⟩
              · intro h; exact ⟨h.1.1.2, h.2⟩
            · rw [if_neg h5]
              constructor
              · intro h; exact absurd h h5
              · intro h; exact absurd (hL.2 ⟨h.1.1.1.2, h.1.2⟩) h5
          · rw [if_neg h4, cmpT_zero]
            constructor
            · intro h; exact absurd h h4
            · intro h; exact absurd h.1.1.1.1.2 h4
        · rw [if_neg h3, cmpI_zero]
          constructor
          · intro h; exact absurd h h3
          · intro h; exact absurd h.1.1.1.1.1.2 h3
      · rw [if_neg h2, cmpB_zero]
        constructor
        · intro h; exact absurd h h2
        · intro h; exact absurd h.1.1.1.1.1.1.2 h2
    · rw [if_neg h1, cmpI_zero]
      constructor
      · intro h; exact absurd h h1
      · intro h; exact absurd h.1.1.1.1.1.1.1 h1
theorem frsL_zero : ∀ l u : List V, frsL l u = 0 ↔ l.length = u.length ∧ eqL l u = true
  | [], [] => by simp [frsL, eqL]
  | [], _ :: _ => by simp [frsL]
  | _ :: _, [] => by simp [frsL]
  | x :: t, y :: u => by
    have h1 := frsV_zero x y
    have h2 := frsL_zero t u
    rw [frsL, eqL]
    simp only [List.length_cons, Bool.and_eq_true]
    by_cases h : frsV x y = 0
    · rw [if_pos h, h2]
      have := h1.1 h
      constructor
      · intro e; exact ⟨by omega, this, e.2⟩
      · intro e; exact ⟨by omega, e.2.2⟩
    · rw [if_neg h]
      constructor
      · intro e; exact absurd e h
      · intro e; exact absurd (h1.2 e.2.1) h
theorem frsM_zero : ∀ l u : List Mem, frsM l u = 0 ↔ l.length = u.length ∧ eqM l u = true
  | [], [] => by simp [frsM, eqM]
  | [], _ :: _ => by simp [frsM]
  | _ :: _, [] => by simp [frsM]
  | (k, x) :: t, (k', y) :: u => by
    have h1 := frsV_zero x y
    have h2 := frsM_zero t u
    have h3 := cmpT_zero k k'
    rw [frsM, eqM]
    simp only [List.length_cons, Bool.and_eq_true, beq_iff_eq]
    by_cases hk : cmpT k k' = 0
    · rw [if_pos hk]
      by_cases h : frsV x y = 0
      · rw [if_pos h, h2]
        have := h1.1 h
        constructor
        · intro e; exact ⟨by omega, ⟨h3.1 hk, this⟩, e.2⟩
        · intro e; exact ⟨by omega, e.2.2⟩
      · rw [if_neg h]
        constructor
        · intro e; exact absurd e h
        · intro e; exact absurd (h1.2 e.2.1.2) h
    · rw [if_neg hk]
      constructor
      · intro e; exact absurd e hk
      · intro e; exact absurd (h3.2 e.2.1.1) hk
end
theorem ord_zero {v u : V} (h : okV v = true) (h' : okV u = true) : ordV v u = 0 ↔ V.eqB v u = true := by
  rw [← frs_of h h']; exact frsV_zero v u

set_option maxHeartbeats 4000000 in
set_option maxRecDepth 100000 in
theorem ltaken_any (R : Bool) (v : V) (S : Nat → Prop) (cs : List Value) (w : World) (t : Tb w) (hl : v.lies R w S cs) (hS : ∀ b, S b → b < w.heap.size) (hwt : v.wt ≤ 1099511627776) :
    Calls Tryd.prog 42 #[.agg cs.toArray] w (BPost (okV v) w) := by
  obtain ⟨k, b, i, s, al, nl, cl, am, nm, cm, rfl⟩ := V.ten hl
  have ga : w.grownBy (w.alloc (.cells #[.int .i64 k, .bool b, .int .i64 i, .string s, .slice al nl cl, .slice am nm cm] 25)) none := World.grownBy_alloc _ _ _
  have c := check_any R v 40 S _ _ (t.grown ga (fun r e => by cases e)) (V.lies_keep (fun h => h) (fun x hx => ga.block x (hS x hx) (by simp)) (fun _ h => h) _ hl) (fun x hx => Nat.lt_of_lt_of_le (hS x hx) ga.size) hwt
  rw [chkE40] at c
  have HF : Hid (okV v = ((((chkV 40 v 0 (0, 0, 0)).1 : Nat) : Int) == 0)) := by
    show _ = _
    rw [okV, Bool.eq_iff_iff, decide_eq_true_iff, beq_iff_eq]
    omega
  generalize (chkV 40 v 0 (0, 0, 0)).1 = z at *
  have hn : ∀ W, Calls Tryd.prog 65 #[.int .i64 (z : Int)] W (JPost (z : Int) W) := fun W => by
    go_enter Tryd.func65, Tryd.ntmps65
    go_wp2_with fail
    go_ret
    exact ⟨rfl, Below.refl _ _⟩
  have HN : Hid (∀ W, Calls Tryd.prog 65 #[.int .i64 (z : Int)] W (JPost (z : Int) W)) := hn
  clear hn
  go_enter Tryd.func42, Tryd.ntmps42
  go_wp2_with fail
  refine c.mono ?_
  rintro e w1 ⟨rfl, b1⟩
  go_wp2_with fail
  refine (HN.out w1).mono ?_
  rintro e w2 ⟨rfl, b2⟩
  go_wp2_with fail
  go_ret
  refine ⟨?_, (below_of_grown ga).trans ((b1.mono ga.size).trans (b2.mono (by have := b1.size; have := ga.size; omega)))⟩
  rw [HF.out]
  rfl
end Go.Proofs.YtljgofmmihmmfaaDoor
