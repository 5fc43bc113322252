import Derived.Test.YtjgbjhahmgegiaaGreatDoorPjB
/- null, zero. -/
set_option linter.unusedSimpArgs false
set_option linter.unusedVariables false
set_option maxRecDepth 100000
namespace Go.Proofs.YtjgbjhahmgegiaaGreatDoor
open Go.RowKit Go.Lib
/-- nothing at all -/
def nulB : V → Bool
  | .mk k b i s l m => decide (k = 0) && (!b && (decide (i = 0) && (decide (s.toList = []) && (decide (l.length = 0) && decide (m.length = 0)))))
theorem entF_inv {D n y d lv : Nat} {g : Bool} {z : Nat} (h : (entF D n y d lv g z).1 = 0) : n < 65536 ∧ lv ≤ D ∧ g = true ∧ y + z ≤ 1048576 ∧ entF D n y d lv g z = (0, n + 1, y + z, max d lv) := by
  unfold entF at *
  split at h
  · simp at h
  · split at h
    · simp at h
    · split at h
      · simp at h
      · split at h
        · simp at h
        · rename_i h1 h2 h3 h4
          refine ⟨by omega, by omega, by simpa using h3, by omega, ?_⟩
          rw [if_neg h1, if_neg h2, if_neg h3, if_neg h4]
theorem nul_form {v : V} (h : nulB v = true) : ∃ s, s.toList = [] ∧ v = .mk 0 false 0 s [] [] := by
  obtain ⟨k, b, i, s, l, m⟩ := v
  simp only [nulB, Bool.and_eq_true, decide_eq_true_eq, Bool.not_eq_true'] at h
  obtain ⟨rfl, rfl, rfl, hs, hl, hm⟩ := h
  exact ⟨s, hs, by rw [List.length_eq_zero_iff.1 hl, List.length_eq_zero_iff.1 hm]⟩
theorem chk0_nul (v : V) : (kndOf v = 0 ∧ chkE v 0 = 0) ↔ nulB v = true := by
  constructor
  · rintro ⟨hk, hc⟩
    obtain ⟨k, b, i, s, l, m⟩ := v
    have hk : k = 0 := hk
    subst hk
    rw [chkE, if_neg (by omega), chkV] at hc
    dsimp only at hc
    split at hc
    · rename_i he
      obtain ⟨_, _, hg, _, _⟩ := entF_inv he
      rw [goodB, Bool.and_eq_true, Bool.and_eq_true] at hg
      obtain ⟨⟨hp, hu⟩, hr⟩ := hg
      rw [plainB, decide_eq_true_iff] at hp
      obtain ⟨_, _, p1, p2, p3, p4, p5⟩ := hp
      have q1 : b = false := p1.resolve_left (by decide)
      have q2 : i = 0 := p2.resolve_left (by decide)
      have q3 : s.toList.isEmpty = true := p3.resolve_left (by decide)
      have q4 : l.length = 0 := p4.resolve_left (by decide)
      have q5 : m.length = 0 := p5.resolve_left (by decide)
      simp only [nulB, q1, q2, q4, q5, List.isEmpty_iff.1 q3]
      rfl
    · rename_i he; exact absurd hc he
  · intro h
    obtain ⟨s, hs, rfl⟩ := nul_form h
    refine ⟨rfl, ?_⟩
    obtain rfl : s = ⟨#[]⟩ := ba_eq (by rw [← toList_data, hs])
    have hg : goodB 0 false 0 ⟨#[]⟩ ([] : List V).length [] = true := by
      rw [goodB, plainB, hs]
      simp [utfB, riseB, validD, validGoD]
    rw [chkE, if_neg (by omega), chkV]
    dsimp only
    rw [hg]
    have hz : (⟨#[]⟩ : ByteArray).size = 0 := rfl
    simp [entF, chkL, chkM, keyB, hz]
theorem lies_all {R : Bool} {w : World} {S : Nat → Prop} {v : V} {k : Int} {b : Bool} {i : Int} {s : ByteArray} {al am : Option Addr} {nl cl nm cm : Nat} (h : v.lies R w S [.int .i64 k, .bool b, .int .i64 i, .string s, .slice al nl cl, .slice am nm cm]) : nulB v = (decide (k = 0) && (!b && (decide (i = 0) && (decide (s.toList = []) && (decide (nl = 0) && decide (nm = 0)))))) := by
  cases v
  rw [V.lies] at h
  obtain ⟨al', cl', bl, ol, am', cm', bm, om, e, _⟩ := h
  injection e with e1 e
  injection e with e2 e
  injection e with e3 e
  injection e with e4 e
  injection e with e5 e
  injection e with e6 _
  injection e1 with _ e1
  injection e2 with e2
  injection e3 with _ e3
  injection e4 with e4
  injection e5 with _ e5 _
  injection e6 with _ e6 _
  subst e1 e2 e3 e4 e5 e6
  rfl
set_option maxHeartbeats 8000000 in
theorem null_any (v : V) (R : Bool) (S : Nat → Prop) (cs : List Value) (w : World) (hv : v.lies R w S cs) : Calls Tryz.prog 52 #[.agg cs.toArray] w (BPost (nulB v) w) := by
  obtain ⟨vk, vb, vi, vs, val, vnl, vcl, vam, vnm, vcm, rfl⟩ := V.ten hv
  have HN := hmk (lies_all hv)
  have BF : Below w.heap.size w (w.alloc (.cells #[.int .i64 vk, .bool vb, .int .i64 vi, .string vs, .slice val vnl vcl, .slice vam vnm vcm] 25)) := (Below.refl _ _).alloc (Nat.le_refl _) _
  have N0 := heap_alloc_new w (.cells #[.int .i64 vk, .bool vb, .int .i64 vi, .string vs, .slice val vnl vcl, .slice vam vnm vcm] 25)
  have a0 := cell_of_block N0 0
  have a1 := cell_of_block N0 1
  have a2 := cell_of_block N0 2
  have a3 := cell_of_block N0 3
  have a4 := cell_of_block N0 4
  have a5 := cell_of_block N0 5
  simp only [List.getElem?_toArray, List.getElem?_cons_zero, List.getElem?_cons_succ] at a0 a1 a2 a3 a4 a5
  clear N0 hv
  by_cases h0 : vk = 0
  · skip
    by_cases h1 : vb = false
    · skip
      by_cases h2 : vi = 0
      · skip
        by_cases h3 : vs.toList = []
        · skip
          by_cases h4 : vnl = 0
          · skip
            by_cases h5 : vnm = 0
            · skip
              have y0 : ((vk : Int) == 0) = true := by rw [beq_iff_eq]; exact h0
              have y1 : vb = false := by exact h1
              have y2 : ((vi : Int) == 0) = true := by rw [beq_iff_eq]; exact h2
              have y3 : (vs.toList == []) = true := by rw [beq_iff_eq]; exact h3
              have y4 : ((vnl : Int) == 0) = true := by rw [beq_iff_eq]; omega
              have y5 : ((vnm : Int) == 0) = true := by rw [beq_iff_eq]; omega
              have HH := hmk (And.intro h0 trivial)
              have HF : Hid (nulB v = true) := by show _ = _; rw [HN.out]; simp [h0, h1, h2, h3, h4, h5]
              clear HN HH h0 h1 h2 h3 h4 h5
              go_enter Tryz.func52, Tryz.ntmps52
              go_wp2_with fail
              go_ret
              exact ⟨by rw [HF.out]; rfl, (Below.refl _ _).alloc (Nat.le_refl _) _⟩
            · skip
              have y0 : ((vk : Int) == 0) = true := by rw [beq_iff_eq]; exact h0
              have y1 : vb = false := by exact h1
              have y2 : ((vi : Int) == 0) = true := by rw [beq_iff_eq]; exact h2
              have y3 : (vs.toList == []) = true := by rw [beq_iff_eq]; exact h3
              have y4 : ((vnl : Int) == 0) = true := by rw [beq_iff_eq]; omega
              have y5 : ((vnm : Int) == 0) = false := by rw [beq_eq_false_iff_ne]; omega
              have HH := hmk trivial
              have HF : Hid (nulB v = false) := by show _ = _; rw [HN.out]; simp [h0, h1, h2, h3, h4, h5]
              clear HN HH h0 h1 h2 h3 h4 h5
              go_enter Tryz.func52, Tryz.ntmps52
              go_wp2_with fail
              go_ret
              exact ⟨by rw [HF.out]; rfl, (Below.refl _ _).alloc (Nat.le_refl _) _⟩
          · skip
            have y0 : ((vk : Int) == 0) = true := by rw [beq_iff_eq]; exact h0
            have y1 : vb = false := by exact h1
            have y2 : ((vi : Int) == 0) = true := by rw [beq_iff_eq]; exact h2
            have y3 : (vs.toList == []) = true := by rw [beq_iff_eq]; exact h3
            have y4 : ((vnl : Int) == 0) = false := by rw [beq_eq_false_iff_ne]; omega
            have HH := hmk trivial
            have HF : Hid (nulB v = false) := by show _ = _; rw [HN.out]; simp [h0, h1, h2, h3, h4]
            clear HN HH h0 h1 h2 h3 h4
            go_enter Tryz.func52, Tryz.ntmps52
            go_wp2_with fail
            go_ret
            exact ⟨by rw [HF.out]; rfl, (Below.refl _ _).alloc (Nat.le_refl _) _⟩
        · skip
          have y0 : ((vk : Int) == 0) = true := by rw [beq_iff_eq]; exact h0
          have y1 : vb = false := by exact h1
          have y2 : ((vi : Int) == 0) = true := by rw [beq_iff_eq]; exact h2
          have y3 : (vs.toList == []) = false := by rw [beq_eq_false_iff_ne]; exact h3
          have HH := hmk trivial
          have HF : Hid (nulB v = false) := by show _ = _; rw [HN.out]; simp [h0, h1, h2, h3]
          clear HN HH h0 h1 h2 h3
          go_enter Tryz.func52, Tryz.ntmps52
          go_wp2_with fail
          go_ret
          exact ⟨by rw [HF.out]; rfl, (Below.refl _ _).alloc (Nat.le_refl _) _⟩
      · skip
        have y0 : ((vk : Int) == 0) = true := by rw [beq_iff_eq]; exact h0
        have y1 : vb = false := by exact h1
        have y2 : ((vi : Int) == 0) = false := by rw [beq_eq_false_iff_ne]; exact h2
        have HH := hmk trivial
        have HF : Hid (nulB v = false) := by show _ = _; rw [HN.out]; simp [h0, h1, h2]
        clear HN HH h0 h1 h2
        go_enter Tryz.func52, Tryz.ntmps52
        go_wp2_with fail
        go_ret
        exact ⟨by rw [HF.out]; rfl, (Below.refl _ _).alloc (Nat.le_refl _) _⟩
    · skip
      have y0 : ((vk : Int) == 0) = true := by rw [beq_iff_eq]; exact h0
      have y1 : vb = true := by simpa using h1
      have HH := hmk trivial
      have HF : Hid (nulB v = false) := by show _ = _; rw [HN.out]; simp [h0, h1]
      clear HN HH h0 h1
      go_enter Tryz.func52, Tryz.ntmps52
      go_wp2_with fail
      go_ret
      exact ⟨by rw [HF.out]; rfl, (Below.refl _ _).alloc (Nat.le_refl _) _⟩
  · skip
    have y0 : ((vk : Int) == 0) = false := by rw [beq_eq_false_iff_ne]; exact h0
    have HH := hmk trivial
    have HF : Hid (nulB v = false) := by show _ = _; rw [HN.out]; simp [h0]
    clear HN HH h0
    go_enter Tryz.func52, Tryz.ntmps52
    go_wp2_with fail
    go_ret
    exact ⟨by rw [HF.out]; rfl, (Below.refl _ _).alloc (Nat.le_refl _) _⟩
set_option maxHeartbeats 8000000 in
theorem zero_any (v : V) (R : Bool) (S : Nat → Prop) (cs : List Value) (w : World) (tb : Tb w) (hv : v.lies R w S cs) (hS : ∀ b, S b → b < w.heap.size) (hwt : v.wt ≤ 2147483648) : Calls Tryz.prog 47 #[.agg cs.toArray] w (BPost (nulB v) w) := by
  obtain ⟨vk, vb, vi, vs, val, vnl, vcl, vam, vnm, vcm, rfl⟩ := V.ten hv
  have HKD := hmk (lies_fields hv).1
  have HCN := hmk (chk0_nul v)
  have BF : Below w.heap.size w (w.alloc (.cells #[.int .i64 vk, .bool vb, .int .i64 vi, .string vs, .slice val vnl vcl, .slice vam vnm vcm] 25)) := (Below.refl _ _).alloc (Nat.le_refl _) _
  have z0 := alloc_size w (.cells #[.int .i64 vk, .bool vb, .int .i64 vi, .string vs, .slice val vnl vcl, .slice vam vnm vcm] 25)
  have N0 := heap_alloc_new w (.cells #[.int .i64 vk, .bool vb, .int .i64 vi, .string vs, .slice val vnl vcl, .slice vam vnm vcm] 25)
  have L0 := V.lies_keep (R := R) (R' := R) (S := S) (S' := S) (fun h => h) (fun x hx => BF.block x (hS x hx)) (fun _ h => h) v hv
  have C1 := hmk (check_any R v 0 S _ _ (tb.below BF tb.z) L0 (fun x hx => by have := hS x hx; omega) (by omega))
  have a0 := cell_of_block N0 0
  have a1 := cell_of_block N0 1
  have a2 := cell_of_block N0 2
  have a3 := cell_of_block N0 3
  have a4 := cell_of_block N0 4
  have a5 := cell_of_block N0 5
  simp only [List.getElem?_toArray, List.getElem?_cons_zero, List.getElem?_cons_succ] at a0 a1 a2 a3 a4 a5
  clear N0 hv L0
  obtain ⟨z, hz⟩ : ∃ z, chkE v 0 = z := ⟨_, rfl⟩
  rw [hz] at C1
  have HZ := hmk hz
  clear hz
  by_cases h0 : vk = 0
  · have y0 : ((vk : Int) == 0) = true := by rw [beq_iff_eq]; exact h0
    have HK0 := hmk h0
    clear h0
    go_enter Tryz.func47, Tryz.ntmps47
    go_wp2_with fail
    refine C1.out.mono ?_
    rintro e w1 ⟨rfl, b1⟩
    have BW := BF.trans (b1.mono (by omega))
    clear a0 a1 a2 a3 a4 a5 C1
    by_cases hz0 : z = 0
    · have yz : ((z : Int) == 0) = true := by rw [beq_iff_eq]; omega
      have HF : Hid (nulB v = true) := HCN.out.1 ⟨HKD.out.trans HK0.out, HZ.out.trans hz0⟩
      clear hz0
      go_wp2_with fail
      go_ret
      exact ⟨by rw [HF.out]; rfl, BW⟩
    · have yz : ((z : Int) == 0) = false := by rw [beq_eq_false_iff_ne]; omega
      have HF : Hid (nulB v = false) := by
        show _ = _
        cases hn : nulB v with
        | false => rfl
        | true => exact absurd (HZ.out.symm.trans (HCN.out.2 hn).2) hz0
      clear hz0
      go_wp2_with fail
      go_ret
      exact ⟨by rw [HF.out]; rfl, BW⟩
  · have y0 : ((vk : Int) == 0) = false := by rw [beq_eq_false_iff_ne]; exact h0
    have HF : Hid (nulB v = false) := by
      show _ = _
      cases hn : nulB v with
      | false => rfl
      | true => exact absurd (HKD.out.symm.trans (HCN.out.2 hn).1) h0
    clear h0
    go_enter Tryz.func47, Tryz.ntmps47
    go_wp2_with fail
    go_ret
    exact ⟨by rw [HF.out]; rfl, BF⟩
end Go.Proofs.YtjgbjhahmgegiaaGreatDoor
