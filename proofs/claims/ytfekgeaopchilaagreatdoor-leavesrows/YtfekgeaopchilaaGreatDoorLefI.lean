import Derived.Test.YtfekgeaopchilaaGreatDoorG35
/- leaves.Get, the document's Get. -/
set_option linter.unusedSimpArgs false
set_option linter.unusedVariables false
namespace Go.Proofs.YtfekgeaopchilaaGreatDoor
open Go.RowKit Go.Lib
theorem belowG {w W W' : World} {g : Nat} (h : Below w.heap.size w W) (hg : W.grownBy W' (some g)) (hgw : w.heap.size ≤ g) : Below w.heap.size w W' := h.grown hg h.size (fun k hk => by cases hk; exact hgw)
abbrev z33 : Obj := .cells #[.int .i64 0, .bool false, .int .i64 0, .string ⟨#[]⟩, .slice none 0 0, .slice none 0 0] 33
/-- the value of the leaf at a path -/
def getF (l : List Lf) (p : List El) : Option V := if pathB p = true then (l.find? (fun x => decide (lexL oeE x.1 p = 0))).map Prod.snd else none
def GvP (R : Option V) (S : Nat → Prop) (w : World) (e : Ending) (w' : World) : Prop :=
  Below w.heap.size w w' ∧ ((∃ (v : V) (cs : List Value), R = some v ∧ e = .returned (.tuple #[.agg cs.toArray, .bool true]) ∧ v.lies false w' (Tw S w w') cs) ∨ (R = none ∧ e = .returned (.tuple #[.agg #[.int .i64 0, .bool false, .int .i64 0, .string ⟨#[]⟩, .slice none 0 0, .slice none 0 0], .bool false])))
def NoF (l : List Lf) (p : List El) (j : Nat) : Prop := ∀ (k : Nat) (hk : k < l.length), k < j → pathB p = true → lexL oeE (l[k]).1 p ≠ 0
theorem getF_bad {l : List Lf} {p : List El} (h : pathB p = false) : getF l p = none := by rw [getF, h]; rfl
theorem find_at {α : Type} {f : α → Bool} : ∀ {l : List α} {i : Nat} (h : i < l.length), (∀ (k : Nat) (hk : k < l.length), k < i → f l[k] = false) → f l[i] = true → l.find? f = some l[i]
  | [], i, h, _, _ => by simp at h
  | x :: t, 0, h, _, hf => by have hf' : f x = true := hf; rw [List.find?_cons_of_pos hf']; rfl
  | x :: t, i + 1, h, hk, hf => by
    have h0 := hk 0 (by simp) (by omega)
    rw [List.find?_cons_of_neg (by rw [show (x :: t)[0] = x from rfl] at h0; rw [h0]; decide)]
    have hi : i < t.length := by simpa using h
    rw [find_at (l := t) hi (fun k hk' hki => by have := hk (k + 1) (by simp; omega) (by omega); simpa using this) (by simpa using hf)]
    rfl
theorem find_none {α : Type} {f : α → Bool} {l : List α} (h : ∀ (k : Nat) (hk : k < l.length), f l[k] = false) : l.find? f = none := by
  rw [List.find?_eq_none]
  intro x hx
  obtain ⟨k, hk, rfl⟩ := List.getElem_of_mem hx
  rw [h k hk]; decide
theorem getF_yes {l : List Lf} {p : List El} {i : Nat} (hp : pathB p = true) (hi : i < l.length) (h : ∀ (k : Nat) (hk : k < l.length), k < i → lexL oeE (l[k]).1 p ≠ 0) (h0 : lexL oeE (l[i]).1 p = 0) : getF l p = some (l[i]).2 := by
  rw [getF, if_pos hp, find_at hi (fun k hk hki => decide_eq_false (h k hk hki)) (decide_eq_true h0)]; rfl
theorem getF_no {l : List Lf} {p : List El} (h : ∀ (k : Nat) (hk : k < l.length), lexL oeE (l[k]).1 p ≠ 0) : getF l p = none := by
  rw [getF]
  split
  · rw [find_none (f := fun x : Lf => decide (lexL oeE x.1 p = 0)) (fun k hk => decide_eq_false (h k hk))]; rfl
  · rfl
theorem PlF.get_yes {l : List Lf} {p : List El} {i : Nat} (hp : pathB p = true) (hf : PlF l p i true) : ∃ h : i < l.length, getF l p = some (l[i]).2 := by
  obtain ⟨h, h0⟩ := hf.yes rfl
  exact ⟨h, getF_yes hp h (fun k hk hki => by have := hf.lo k hk hki; omega) h0⟩
theorem PlF.get_no {l : List Lf} {p : List El} {i : Nat} (hr : Rl l) (hf : PlF l p i false) : getF l p = none := getF_no fun k hk h0 => by
  rcases Nat.lt_trichotomy k i with h | h | h
  · have := hf.lo k hk h; omega
  · subst h; exact hf.no rfl hk h0
  · have h1 := hr.lt i k (by omega) hk h
    have h2 := hf.hi i (by omega) (Nat.le_refl _)
    rw [← wk_P.congR h0] at h2
    omega
set_option maxHeartbeats 8000000 in
set_option maxRecDepth 100000 in
theorem get_any (l : List Lf) (S : Nat → Prop) (al : Option Addr) (cl bl ol : Nat) (w : World) (hal : Headed al l.length cl bl ol) (hl : liesF w S l bl ol) (hS : ∀ b, S b → b < w.heap.size) (hwt : wtF l ≤ 2147483647) (tb : Tb w) (hr : Rl l) (hok : ∀ x ∈ l, pathB x.1 = true ∧ okV x.2 = true) (p : List El) (a2 : Option Addr) (c2 b2 o2 : Nat) (h2 : Headed a2 p.length c2 b2 o2) (hp : liesP w S p b2 o2) (hwp : wtP p ≤ 2147483647) :
    Calls Tryz.prog 10 #[.slice al l.length cl, .slice a2 p.length c2] w (GvP (getF l p) S w) := by
  have HL := hmk hl
  have HP := hmk hp
  have hlm := wtF_len l
  have HR := hmk hr
  have HOK := hmk hok
  have HTB := hmk tb
  have kb : Hid (∀ W, Below w.heap.size w W → (∀ b, S b → W.heap[b]? = w.heap[b]?) ∧ (∀ b, S b → b < W.heap.size)) := fun W hb => ⟨fun b h => hb.block b (hS b h), fun b h => Nat.lt_of_lt_of_le (hS b h) hb.size⟩
  have bA : Below w.heap.size w (w.alloc z33) := (Below.refl _ _).alloc (Nat.le_refl _) _
  have nA := heap_alloc_new w z33
  have hzA := alloc_size w z33
  have KA : Hid (∀ W, Below (w.alloc z33).heap.size (w.alloc z33) W → W.heap[w.heap.size]? = some z33 ∧ Below w.heap.size w W) := fun W hW => ⟨(hW.block _ (by omega)).trans nA, bA.trans (hW.mono bA.size)⟩
  have C30 := hmk (pcheck_any p S a2 c2 b2 o2 (w.alloc z33) (tb.below bA tb.z) h2 (liesP_keep (kb.out _ bA).1 (fun _ h => h) hp) (kb.out _ bA).2 hwp)
  clear hl hp hr hok tb nA bA hzA
  cases hB : pathB p with
  | false =>
    have e90 : errP p = 90 := by rw [errP, hB]; rfl
    have HN := hmk (getF_bad (l := l) hB)
    rw [e90] at C30
    clear e90 hB
    go_enter Tryz.func10, Tryz.ntmps10
    go_wp2_with fail
    refine C30.out.mono ?_
    rintro e w1 ⟨rfl, b1⟩
    obtain ⟨N1, B1⟩ := KA.out _ b1
    clear C30 b1
    have m0 : (w1).cell? ⟨w.heap.size, 0, none⟩ = some (.int .i64 0) := cell_of_block N1 0
    have m1 : (w1).cell? ⟨w.heap.size, 1, none⟩ = some (.bool false) := cell_of_block N1 1
    have m2 : (w1).cell? ⟨w.heap.size, 2, none⟩ = some (.int .i64 0) := cell_of_block N1 2
    have m3 : (w1).cell? ⟨w.heap.size, 3, none⟩ = some (.string ⟨#[]⟩) := cell_of_block N1 3
    have m4 : (w1).cell? ⟨w.heap.size, 4, none⟩ = some (.slice none 0 0) := cell_of_block N1 4
    have m5 : (w1).cell? ⟨w.heap.size, 5, none⟩ = some (.slice none 0 0) := cell_of_block N1 5
    have kf : ∀ ii, (w1).frozen? ⟨w.heap.size, ii, none⟩ = false := frozen_of_block N1
    have HBF := hmk (belowG B1 (grown_set6 (w1) w.heap.size (.int .i64 0) (.bool false) (.int .i64 0) (.string ⟨#[]⟩) (.slice none 0 0) (.slice none 0 0)) (Nat.le_refl _))
    go_wp2_with fail
    (try simp only [Exit.inBlock, Exit.then])
    refine bodyPost_ret (v := .tuple #[.agg #[.int .i64 0, .bool false, .int .i64 0, .string ⟨#[]⟩, .slice none 0 0, .slice none 0 0], .bool false]) ?_ rfl ⟨HBF.out, .inr ⟨HN.out, rfl⟩⟩
    rw [results_cell_tmp rfl]
    go_simp
  | true =>
    have e0 : errP p = 0 := by rw [errP, hB]; rfl
    rw [e0] at C30
    have HPB := hmk hB
    clear e0 hB
    go_enter Tryz.func10, Tryz.ntmps10
    go_wp2_with fail
    refine C30.out.mono ?_
    rintro e w1 ⟨rfl, b1⟩
    obtain ⟨N1, B1⟩ := KA.out _ b1
    have CS := hmk (search_any l p S al cl bl ol a2 c2 b2 o2 w1 hal (liesF_keep (kb.out w1 B1).1 (fun _ h => h) HL.out) h2 (liesP_keep (kb.out w1 B1).1 (fun _ h => h) HP.out) (kb.out w1 B1).2 HR.out (by omega))
    clear C30 N1
    go_wp2_with fail
    refine CS.out.mono ?_
    rintro e w2 ⟨i, r, rfl, hf, b2'⟩
    have b02 := b1.trans (b2'.mono b1.size)
    obtain ⟨N2, B2⟩ := KA.out _ b02
    clear CS b1 b2' B1
    cases r with
    | false =>
      have HN := hmk (hf.get_no HR.out)
      clear hf b02
      have m0 : (w2).cell? ⟨w.heap.size, 0, none⟩ = some (.int .i64 0) := cell_of_block N2 0
      have m1 : (w2).cell? ⟨w.heap.size, 1, none⟩ = some (.bool false) := cell_of_block N2 1
      have m2 : (w2).cell? ⟨w.heap.size, 2, none⟩ = some (.int .i64 0) := cell_of_block N2 2
      have m3 : (w2).cell? ⟨w.heap.size, 3, none⟩ = some (.string ⟨#[]⟩) := cell_of_block N2 3
      have m4 : (w2).cell? ⟨w.heap.size, 4, none⟩ = some (.slice none 0 0) := cell_of_block N2 4
      have m5 : (w2).cell? ⟨w.heap.size, 5, none⟩ = some (.slice none 0 0) := cell_of_block N2 5
      have kf : ∀ ii, (w2).frozen? ⟨w.heap.size, ii, none⟩ = false := frozen_of_block N2
      have HBF := hmk (belowG B2 (grown_set6 (w2) w.heap.size (.int .i64 0) (.bool false) (.int .i64 0) (.string ⟨#[]⟩) (.slice none 0 0) (.slice none 0 0)) (Nat.le_refl _))
      go_wp2_with fail
      (try simp only [Exit.inBlock, Exit.then])
      refine bodyPost_ret (v := .tuple #[.agg #[.int .i64 0, .bool false, .int .i64 0, .string ⟨#[]⟩, .slice none 0 0, .slice none 0 0], .bool false]) ?_ rfl ⟨HBF.out, .inr ⟨HN.out, rfl⟩⟩
      rw [results_cell_tmp rfl]
      go_simp
    | true =>
      obtain ⟨hil, hg⟩ := hf.get_yes HPB.out
      have HG := hmk hg
      have y1 : (i : Int) < l.length := by omega
      obtain ⟨hSb, cs, hrow, v, is, rfl, ⟨ap, cp, bp, op, rfl, hh, hlp⟩, hv⟩ := HL.out i hil
      obtain rfl : al = some ⟨bl, ol, none⟩ := hal.at_.resolve_left (by omega)
      have hwj := (Lf.wt_path (List.getElem_mem hil)).2
      have C32 := hmk (clone_any (l[i]).2 false S is w2 (HTB.out.below B2 HTB.out.z) (V.lies_keep (fun h => h) (kb.out w2 B2).1 (fun _ h => h) _ hv) (kb.out w2 B2).2 (by omega))
      rw [clnV_ok (HOK.out _ (List.getElem_mem hil)).2] at C32
      obtain ⟨vk, vb, vi, vs, val, vnl, vcl, vam, vnm, vcm, rfl⟩ := V.ten hv
      obtain ⟨q, q0, q1, q2, q3, q4, q5⟩ := row7 (hrow.keep ((kb.out w2 B2).1 _ hSb))
      have hz2 : w.heap.size < w2.heap.size := by
        have := b02.size
        rw [alloc_size] at this
        omega
      clear hf hg hrow hlp hv
      go_wp2_with fail
      refine C32.out.mono ?_
      rintro e w3 ⟨csu, rfl, l3, b3⟩
      obtain ⟨uk, ub, ui, us, ual, unl, ucl, uam, unm, ucm, rfl⟩ := V.ten l3
      obtain ⟨N3, B3⟩ := KA.out _ (b02.trans (b3.mono b02.size))
      have HLV : Hid (∀ W', w3.grownBy W' (some w.heap.size) → (l[i]).2.lies false W' (Tw S w W') [.int .i64 uk, .bool ub, .int .i64 ui, .string us, .slice ual unl ucl, .slice uam unm ucm]) := fun W' gr => V.lies_keep (fun h => h) (fun b hb => gr.block b hb.2 (fun e => by have h8 := Option.some.inj e; have h9 := hb.1; omega)) (fun b hb => .inr ⟨by have h9 := hb.1; omega, Nat.lt_of_lt_of_le hb.2 gr.size⟩) _ l3
      have HGW := hmk (grown_set6 w3 w.heap.size (.int .i64 uk) (.bool ub) (.int .i64 ui) (.string us) (.slice ual unl ucl) (.slice uam unm ucm))
      clear C32 q q0 q1 q2 q3 q4 q5 l3 b3 b02 N2
      have m0 : (w3).cell? ⟨w.heap.size, 0, none⟩ = some (.int .i64 0) := cell_of_block N3 0
      have m1 : (w3).cell? ⟨w.heap.size, 1, none⟩ = some (.bool false) := cell_of_block N3 1
      have m2 : (w3).cell? ⟨w.heap.size, 2, none⟩ = some (.int .i64 0) := cell_of_block N3 2
      have m3 : (w3).cell? ⟨w.heap.size, 3, none⟩ = some (.string ⟨#[]⟩) := cell_of_block N3 3
      have m4 : (w3).cell? ⟨w.heap.size, 4, none⟩ = some (.slice none 0 0) := cell_of_block N3 4
      have m5 : (w3).cell? ⟨w.heap.size, 5, none⟩ = some (.slice none 0 0) := cell_of_block N3 5
      have kf : ∀ ii, (w3).frozen? ⟨w.heap.size, ii, none⟩ = false := frozen_of_block N3
      have HBF := hmk (belowG B3 (grown_set6 (w3) w.heap.size (.int .i64 uk) (.bool ub) (.int .i64 ui) (.string us) (.slice ual unl ucl) (.slice uam unm ucm)) (Nat.le_refl _))
      go_wp2_with fail
      (try simp only [Exit.inBlock, Exit.then])
      refine bodyPost_ret (v := .tuple #[.agg #[.int .i64 uk, .bool ub, .int .i64 ui, .string us, .slice ual unl ucl, .slice uam unm ucm], .bool true]) ?_ rfl ⟨HBF.out, .inl ⟨(l[i]).2, [.int .i64 uk, .bool ub, .int .i64 ui, .string us, .slice ual unl ucl, .slice uam unm ucm], HG.out, rfl, HLV.out _ HGW.out⟩⟩
      rw [results_cell_tmp rfl]
      go_simp
set_option maxHeartbeats 8000000 in
set_option maxRecDepth 100000 in
theorem rget_any (l : List Lf) (S : Nat → Prop) (al : Option Addr) (cl bl ol : Nat) (w : World) (hal : Headed al l.length cl bl ol) (hl : liesF w S l bl ol) (hS : ∀ b, S b → b < w.heap.size) (hwt : wtF l ≤ 2147483647) (hr : Rl l) (p : List El) (a2 : Option Addr) (c2 b2 o2 : Nat) (h2 : Headed a2 p.length c2 b2 o2) (hp : liesP w S p b2 o2) (hwp : wtP p ≤ 2147483647) :
    Calls Tryz.prog 11 #[.slice al l.length cl, .slice a2 p.length c2] w (GvP (getF l p) S w) := by
  have HL := hmk hl
  have HP := hmk hp
  have hlm := wtF_len l
  have HR := hmk hr
  have kb : Hid (∀ W, Below w.heap.size w W → (∀ b, S b → W.heap[b]? = w.heap[b]?) ∧ (∀ b, S b → b < W.heap.size)) := fun W hb => ⟨fun b h => hb.block b (hS b h), fun b h => Nat.lt_of_lt_of_le (hS b h) hb.size⟩
  have bA : Below w.heap.size w (w.alloc z33) := (Below.refl _ _).alloc (Nat.le_refl _) _
  have nA := heap_alloc_new w z33
  have hzA := alloc_size w z33
  have KA : Hid (∀ W, Below (w.alloc z33).heap.size (w.alloc z33) W → W.heap[w.heap.size]? = some z33 ∧ Below w.heap.size w W ∧ w.heap.size < W.heap.size) := fun W hW => ⟨(hW.block _ (by omega)).trans nA, bA.trans (hW.mono bA.size), by have := hW.size; omega⟩
  have C27 : Hid (∀ W, Below w.heap.size w W → Calls Tryz.prog 27 #[.slice a2 p.length c2] W (NPost (errP p) W)) := fun W hb => rpcheck_any p S a2 c2 b2 o2 W h2 (liesP_keep (kb.out W hb).1 (fun _ h => h) HP.out) (kb.out W hb).2 hwp
  clear hl hp hr nA bA hzA
  go_enter Tryz.func11, Tryz.ntmps11
  go_wp2_with fail
  generalize w.alloc z33 = wA at *
  go_loopw [6] (fun e wr => ∃ j : Nat, j ≤ l.length ∧ e = .int .i64 (j : Int) ∧ Below wA.heap.size wA wr ∧ Hid (NoF l p j)) (fun e _ => l.length - (RowKit.intOf e).toNat)
  case atStart => exact ⟨0, by omega, rfl, Below.refl _ _, fun k hk h => by omega⟩
  case round =>
    obtain ⟨j, hj, rfl, bj, HQ⟩ := hrel
    obtain ⟨N1, B1, z1⟩ := KA.out _ bj
    by_cases hjl : j < l.length
    case neg =>
      obtain rfl : j = l.length := by omega
      have y1 : ¬ (l.length : Int) < l.length := by omega
      have HN : Hid (getF l p = none) := by
        show _ = _
        cases hB : pathB p with
        | false => exact getF_bad hB
        | true => exact getF_no fun k hk => HQ.out k hk hk hB
      clear bj
      have m0 : (wr).cell? ⟨w.heap.size, 0, none⟩ = some (.int .i64 0) := cell_of_block N1 0
      have m1 : (wr).cell? ⟨w.heap.size, 1, none⟩ = some (.bool false) := cell_of_block N1 1
      have m2 : (wr).cell? ⟨w.heap.size, 2, none⟩ = some (.int .i64 0) := cell_of_block N1 2
      have m3 : (wr).cell? ⟨w.heap.size, 3, none⟩ = some (.string ⟨#[]⟩) := cell_of_block N1 3
      have m4 : (wr).cell? ⟨w.heap.size, 4, none⟩ = some (.slice none 0 0) := cell_of_block N1 4
      have m5 : (wr).cell? ⟨w.heap.size, 5, none⟩ = some (.slice none 0 0) := cell_of_block N1 5
      have kf : ∀ ii, (wr).frozen? ⟨w.heap.size, ii, none⟩ = false := frozen_of_block N1
      have HBF := hmk (belowG B1 (grown_set6 (wr) w.heap.size (.int .i64 0) (.bool false) (.int .i64 0) (.string ⟨#[]⟩) (.slice none 0 0) (.slice none 0 0)) (Nat.le_refl _))
      go_wp2_with fail
      (try simp only [Exit.inBlock, Exit.then])
      refine bodyPost_ret (v := .tuple #[.agg #[.int .i64 0, .bool false, .int .i64 0, .string ⟨#[]⟩, .slice none 0 0, .slice none 0 0], .bool false]) ?_ rfl ⟨HBF.out, .inr ⟨HN.out, rfl⟩⟩
      rw [results_cell_tmp rfl]
      go_simp
    have y1 : (j : Int) < l.length := by omega
    have C := hmk (C27.out wr B1)
    cases hB : pathB p with
    | false =>
      have e90 : errP p = 90 := by rw [errP, hB]; rfl
      have HN : Hid (NoF l p (j + 1)) := fun k hk _ h => by rw [hB] at h; cases h
      rw [e90] at C
      clear e90 hB N1 B1 z1
      go_wp2_with fail
      refine C.out.mono ?_
      rintro e w2 ⟨rfl, b2'⟩
      have b3 := bj.trans (b2'.mono bj.size)
      clear C
      go_wp2_with fail
      go_roundw
      case rel => exact ⟨j + 1, by omega, by go_num, b3, HN⟩
      case measure => simp [RowKit.intOf]; omega
    | true =>
      have e0 : errP p = 0 := by rw [errP, hB]; rfl
      rw [e0] at C
      have HPB := hmk hB
      obtain ⟨hSb, cs, hrow, v, is, rfl, ⟨ap, cp, bp, op, rfl, hh, hlp⟩, hv⟩ := HL.out j hjl
      obtain rfl : al = some ⟨bl, ol, none⟩ := hal.at_.resolve_left (by omega)
      have hwj := (Lf.wt_path (List.getElem_mem hjl)).1
      have C28 : Hid (∀ W, Below w.heap.size w W → Calls Tryz.prog 28 #[.slice ap (l[j]).1.length cp, .slice a2 p.length c2] W (JPost (lexL oeE (l[j]).1 p) W)) := fun W hb => by
        have h := rcmpP_any (l[j]).1 p S S ap cp bp op a2 c2 b2 o2 W hh (liesP_keep (kb.out W hb).1 (fun _ h => h) hlp) h2 (liesP_keep (kb.out W hb).1 (fun _ h => h) HP.out) (kb.out W hb).2 (kb.out W hb).2 (by omega) hwp
        rw [cmpP_oe (HR.out.ok j hjl) HPB.out] at h
        exact h
      have HV := hmk hv
      obtain ⟨vk, vb, vi, vs, val, vnl, vcl, vam, vnm, vcm, rfl⟩ := V.ten hv
      have HROW : Hid (∀ W, Below w.heap.size w W → rowAt W bl (ol + j * 7) [.slice ap (l[j]).1.length cp, .int .i64 vk, .bool vb, .int .i64 vi, .string vs, .slice val vnl vcl, .slice vam vnm vcm]) := fun W hb => hrow.keep ((kb.out W hb).1 _ hSb)
      clear e0 hB hrow hlp hv N1 z1
      go_wp2_with fail
      refine C.out.mono ?_
      rintro e w2 ⟨rfl, b2'⟩
      have b3 := bj.trans (b2'.mono bj.size)
      obtain ⟨N3, B3, z3⟩ := KA.out _ b3
      obtain ⟨q, q0, q1, q2, q3, q4, q5⟩ := row7 (HROW.out w2 B3)
      have D := hmk (C28.out w2 B3)
      have HX1 : Hid (lexL oeE (l[j]).1 p = 0 → getF l p = some (l[j]).2) := fun h => getF_yes HPB.out hjl (fun k hk hkj => HQ.out k hk hkj HPB.out) h
      have HX2 : Hid (lexL oeE (l[j]).1 p ≠ 0 → NoF l p (j + 1)) := fun h k hk hkj hb => by
        by_cases e : k = j
        · subst e; exact h
        · exact HQ.out k hk (by omega) hb
      generalize lexL oeE (l[j]).1 p = cc at *
      clear C b2' N3
      by_cases h0 : cc = 0
      · have y0 : (cc == 0) = true := by rw [beq_iff_eq]; exact h0
        have HG := hmk (HX1.out h0)
        clear h0 HX1 HX2
        go_wp2_with fail
        refine D.out.mono ?_
        rintro e w4 ⟨rfl, b4⟩
        have b5 := b3.trans (b4.mono b3.size)
        obtain ⟨N5, B5, z5⟩ := KA.out _ b5
        clear q q0 q1 q2 q3 q4 q5 D
        obtain ⟨q, q0, q1, q2, q3, q4, q5⟩ := row7 (HROW.out w4 B5)
        have HLV : Hid (∀ W', w4.grownBy W' (some w.heap.size) → (l[j]).2.lies false W' (Tw S w W') [.int .i64 vk, .bool vb, .int .i64 vi, .string vs, .slice val vnl vcl, .slice vam vnm vcm]) := fun W' gr => V.lies_keep (fun h => h) (fun b hb => (gr.block b ((kb.out w4 B5).2 b hb) (fun e => by have h8 := Option.some.inj e; have h9 := hS b hb; omega)).trans ((kb.out w4 B5).1 b hb)) (fun b hb => .inl hb) _ HV.out
        have HGW := hmk (grown_set6 w4 w.heap.size (.int .i64 vk) (.bool vb) (.int .i64 vi) (.string vs) (.slice val vnl vcl) (.slice vam vnm vcm))
        clear b3 b4 b5
        have m0 : (w4).cell? ⟨w.heap.size, 0, none⟩ = some (.int .i64 0) := cell_of_block N5 0
        have m1 : (w4).cell? ⟨w.heap.size, 1, none⟩ = some (.bool false) := cell_of_block N5 1
        have m2 : (w4).cell? ⟨w.heap.size, 2, none⟩ = some (.int .i64 0) := cell_of_block N5 2
        have m3 : (w4).cell? ⟨w.heap.size, 3, none⟩ = some (.string ⟨#[]⟩) := cell_of_block N5 3
        have m4 : (w4).cell? ⟨w.heap.size, 4, none⟩ = some (.slice none 0 0) := cell_of_block N5 4
        have m5 : (w4).cell? ⟨w.heap.size, 5, none⟩ = some (.slice none 0 0) := cell_of_block N5 5
        have kf : ∀ ii, (w4).frozen? ⟨w.heap.size, ii, none⟩ = false := frozen_of_block N5
        have HBF := hmk (belowG B5 (grown_set6 (w4) w.heap.size (.int .i64 vk) (.bool vb) (.int .i64 vi) (.string vs) (.slice val vnl vcl) (.slice vam vnm vcm)) (Nat.le_refl _))
        go_wp2_with fail
        (try simp only [Exit.inBlock, Exit.then])
        refine bodyPost_ret (v := .tuple #[.agg #[.int .i64 vk, .bool vb, .int .i64 vi, .string vs, .slice val vnl vcl, .slice vam vnm vcm], .bool true]) ?_ rfl ⟨HBF.out, .inl ⟨(l[j]).2, [.int .i64 vk, .bool vb, .int .i64 vi, .string vs, .slice val vnl vcl, .slice vam vnm vcm], HG.out, rfl, HLV.out _ HGW.out⟩⟩
        rw [results_cell_tmp rfl]
        go_simp
      · have y0 : (cc == 0) = false := by rw [beq_eq_false_iff_ne]; exact h0
        have HN := hmk (HX2.out h0)
        clear h0 HX1 HX2
        go_wp2_with fail
        refine D.out.mono ?_
        rintro e w4 ⟨rfl, b4⟩
        have b5 := b3.trans (b4.mono b3.size)
        clear q q0 q1 q2 q3 q4 q5 D
        go_wp2_with fail
        go_roundw
        case rel => exact ⟨j + 1, by omega, by go_num, b5, HN⟩
        case measure => simp [RowKit.intOf]; omega
end Go.Proofs.YtfekgeaopchilaaGreatDoor
