/- Plain facts on faults: how much of the text a fault is seen by, and that what stands ahead of it can be gone on with. -/
import Derived.Test.YtcoamnmgkhlahaaDoorPlainX
set_option linter.unusedSimpArgs false
set_option linter.unusedVariables false
namespace Go.Proofs.YtcoamnmgkhlahaaDoor.Q

theorem digs_bad (aw : Bool) : ∀ (r i c : Nat) (t : List UInt8), (digs aw r i c t).2.2 = false →
    ∃ j c' : Nat, digs aw r i c t = (0, i + j, false) ∧ j < r ∧ j ≤ t.length ∧ (∀ u, digs aw r i c (t.take j ++ u) = digs aw (r - j) (i + j) c' u) ∧
      (j < t.length → ∀ u, digs aw r i c (t.take (j + 1) ++ u) = (0, i + j, false)) ∧ (j = 0 → c' = c) ∧ (i = 0 → j = 1 → aw = true → c' = 16 * c + 13)
  | 0, i, c, t, h => by simp [digs] at h
  | r + 1, i, c, [], h => ⟨0, c, by simp [digs], by omega, by simp, fun u => by simp, by simp, fun _ => rfl, by omega⟩
  | r + 1, i, c, x :: t, h => by
    by_cases g : dig x.toNat < 0 ∨ goes c (dig x.toNat) i aw = false
    · refine ⟨0, c, by rw [digs, if_pos g]; simp, by omega, by simp, fun u => by simp, fun _ u => ?_, fun _ => rfl, by omega⟩
      show digs aw (r + 1) i c (x :: ([] ++ u)) = _
      rw [digs, if_pos g]; simp
    · have e : ∀ u, digs aw (r + 1) i c (x :: u) = digs aw r (i + 1) (16 * c + (dig x.toNat).toNat) u := fun u => by rw [digs, if_neg g]
      rw [e] at h
      obtain ⟨j, c', h1, h2, h3, h4, h5, h6, h7⟩ := digs_bad aw r (i + 1) (16 * c + (dig x.toNat).toNat) t h
      refine ⟨j + 1, c', ?_, by omega, by simp; omega, fun u => ?_, fun hl u => ?_, by omega, ?_⟩
      · rw [e, h1]; congr 2; omega
      · rw [List.take_succ_cons, List.cons_append, e, h4, show r + 1 - (j + 1) = r - j by omega, show i + 1 + j = i + (j + 1) by omega]
      · rw [List.take_succ_cons, List.cons_append, e, h5 (by simp at hl; omega)]; congr 2; omega
      · intro hi hj ha
        obtain rfl : j = 0 := by omega
        rw [h6 rfl]
        have g2 := not_or.1 g
        have g3 : goes c (dig x.toNat) i aw = true := by simpa using g2.2
        subst hi ha
        simp [goes] at g3
        rw [g3]; rfl

theorem digs_good (aw : Bool) : ∀ (r i c : Nat) (t : List UInt8), (digs aw r i c t).2.2 = true → r ≤ t.length ∧ (digs aw r i c t).2.1 = i + r ∧ ∀ u, digs aw r i c (t.take r ++ u) = digs aw r i c t
  | 0, i, c, t, h => ⟨by omega, by simp [digs], fun u => by simp [digs]⟩
  | r + 1, i, c, [], h => by simp [digs] at h
  | r + 1, i, c, x :: t, h => by
    by_cases g : dig x.toNat < 0 ∨ goes c (dig x.toNat) i aw = false
    · rw [digs, if_pos g] at h; simp at h
    · have e : ∀ u, digs aw (r + 1) i c (x :: u) = digs aw r (i + 1) (16 * c + (dig x.toNat).toNat) u := fun u => by rw [digs, if_neg g]
      rw [e] at h
      obtain ⟨h1, h2, h3⟩ := digs_good aw r (i + 1) (16 * c + (dig x.toNat).toNat) t h
      refine ⟨by simp; omega, by rw [e, h2]; omega, fun u => ?_⟩
      rw [List.take_succ_cons, List.cons_append, e, e, h3]

theorem dig48 : dig (48 : UInt8).toNat = 0 := by decide
theorem dig99 : dig (99 : UInt8).toNat = 12 := by decide
theorem dig100 : dig (100 : UInt8).toNat = 13 := by decide

/-- behind the first half of a pair -/
def pairF (v : Nat) : List UInt8 → Nat × Nat × Bool
  | [] => (0, 4, false)
  | x :: r => if x.toNat ≠ 92 then (0, 4, false) else
    match r with
    | [] => (0, 5, false)
    | y :: r2 => if y.toNat ≠ 117 then (0, 5, false) else
      if (digs true 4 0 0 r2).2.2 = false then (0, 6 + (digs true 4 0 0 r2).2.1, false)
      else (65536 + 1024 * (v - 55296) + ((digs true 4 0 0 r2).1 - 56320), 10, true)

theorem numF_form (a r : List UInt8) (ha : a.length = 4) (hg : (digs false 4 0 0 a).2.2 = true) :
    numF (a ++ r) = if 55296 ≤ (digs false 4 0 0 a).1 ∧ (digs false 4 0 0 a).1 < 56320 then pairF (digs false 4 0 0 a).1 r else ((digs false 4 0 0 a).1, 4, true) := by
  have e := (digs_good false 4 0 0 a hg).2.2 r
  rw [show a.take 4 = a from List.take_of_length_le (by omega)] at e
  have ed : (a ++ r).drop 4 = r := by rw [List.drop_append_of_le_length (by omega), List.drop_of_length_le (by omega)]; rfl
  unfold numF
  rw [e, ed, if_neg (by rw [hg]; simp)]
  split
  · cases r with
    | nil => rfl
    | cons x r => cases r with
      | nil => rfl
      | cons y r2 => rfl
  · rfl

theorem pair_good (v : Nat) (r : List UInt8) (h : (pairF v r).2.2 = true) : 6 ≤ r.length ∧ (pairF v r).2.1 = 10 ∧ ∀ u, pairF v (r.take 6 ++ u) = pairF v r := by
  rcases r with _ | ⟨x, r⟩
  · simp [pairF] at h
  by_cases hx : x.toNat ≠ 92
  · simp [pairF, hx] at h
  rcases r with _ | ⟨y, r2⟩
  · simp [pairF, hx] at h
  by_cases hy : y.toNat ≠ 117
  · simp [pairF, hx, hy] at h
  have e : ∀ r2, pairF v (x :: y :: r2) = if (digs true 4 0 0 r2).2.2 = false then (0, 6 + (digs true 4 0 0 r2).2.1, false)
      else (65536 + 1024 * (v - 55296) + ((digs true 4 0 0 r2).1 - 56320), 10, true) := fun r2 => by
    simp only [pairF]; rw [if_neg hx, if_neg hy]
  rw [e] at h
  by_cases hd : (digs true 4 0 0 r2).2.2 = false
  · rw [if_pos hd] at h; simp at h
  · have hd' : (digs true 4 0 0 r2).2.2 = true := by simpa using hd
    obtain ⟨h1, h2, h3⟩ := digs_good true 4 0 0 r2 hd'
    refine ⟨by simp; omega, by rw [e, if_neg hd], fun u => ?_⟩
    show pairF v (x :: y :: (r2.take 4 ++ u)) = _
    rw [e, e, h3]

/-- what a broken pair can be gone on with -/
def pairEnds : List (List UInt8) := [[92, 117, 100, 99, 48, 48], [117, 100, 99, 48, 48], [100, 99, 48, 48], [99, 48, 48], [48, 48], [48]]
theorem dc_end (j c' : Nat) (hj : j < 4) (h0 : j = 0 → c' = 0) (h1 : j = 1 → c' = 13) : ∃ y ∈ pairEnds, y.length + j = 4 ∧ ∀ u, (digs true (4 - j) (0 + j) c' (y ++ u)).2.2 = true ∧ (digs true (4 - j) (0 + j) c' (y ++ u)).2.1 = 4 := by
  have hj' : j = 0 ∨ j = 1 ∨ j = 2 ∨ j = 3 := by omega
  rcases hj' with rfl | rfl | rfl | rfl
  · obtain rfl := h0 rfl
    exact ⟨[100, 99, 48, 48], by simp [pairEnds], rfl, fun u => ⟨rfl, rfl⟩⟩
  · obtain rfl := h1 rfl
    exact ⟨[99, 48, 48], by simp [pairEnds], rfl, fun u => ⟨rfl, rfl⟩⟩
  · exact ⟨[48, 48], by simp [pairEnds], rfl, fun u => ⟨rfl, rfl⟩⟩
  · exact ⟨[48], by simp [pairEnds], rfl, fun u => ⟨rfl, rfl⟩⟩

theorem pair_bad (v : Nat) (r : List UInt8) (h : (pairF v r).2.2 = false) : ∃ m, pairF v r = (0, 4 + m, false) ∧ m ≤ r.length ∧ (m < r.length → ∀ u, pairF v (r.take (m + 1) ++ u) = (0, 4 + m, false)) ∧
    ∃ y ∈ pairEnds, m + y.length = 6 ∧ ∀ u, (pairF v (r.take m ++ (y ++ u))).2.2 = true ∧ (pairF v (r.take m ++ (y ++ u))).2.1 = 10 := by
  have eall : ∀ r2, pairF v (92 :: 117 :: r2) = if (digs true 4 0 0 r2).2.2 = false then (0, 6 + (digs true 4 0 0 r2).2.1, false)
      else (65536 + 1024 * (v - 55296) + ((digs true 4 0 0 r2).1 - 56320), 10, true) := fun r2 => by
    simp only [pairF]; rw [if_neg (by decide), if_neg (by decide)]
  have dc0 : ∀ u, (digs true 4 0 0 ([100, 99, 48, 48] ++ u)).2.2 = true := fun u => rfl
  have full : ∀ u, (pairF v ([] ++ ([92, 117, 100, 99, 48, 48] ++ u))).2.2 = true ∧ (pairF v ([] ++ ([92, 117, 100, 99, 48, 48] ++ u))).2.1 = 10 := fun u => by
    have el : ([] ++ ([92, 117, 100, 99, 48, 48] ++ u) : List UInt8) = 92 :: 117 :: ([100, 99, 48, 48] ++ u) := rfl
    rw [el, eall, if_neg (by rw [dc0]; simp)]
    exact ⟨rfl, rfl⟩
  rcases r with _ | ⟨x, r⟩
  · exact ⟨0, rfl, by simp, by simp, [92, 117, 100, 99, 48, 48], by simp [pairEnds], rfl, full⟩
  by_cases hx : x.toNat ≠ 92
  · refine ⟨0, by simp [pairF, hx], by simp, fun _ u => ?_, [92, 117, 100, 99, 48, 48], by simp [pairEnds], rfl, full⟩
    show pairF v (x :: ([] ++ u)) = _
    simp [pairF, hx]
  obtain rfl : x = 92 := by
    have : x.toNat = 92 := by omega
    exact UInt8.toNat_inj.1 this
  have five : ∀ u, (pairF v ([92] ++ ([117, 100, 99, 48, 48] ++ u))).2.2 = true ∧ (pairF v ([92] ++ ([117, 100, 99, 48, 48] ++ u))).2.1 = 10 := full
  rcases r with _ | ⟨y, r2⟩
  · exact ⟨1, rfl, by simp, by simp, [117, 100, 99, 48, 48], by simp [pairEnds], rfl, five⟩
  by_cases hy : y.toNat ≠ 117
  · refine ⟨1, by simp [pairF, hy], by simp, fun _ u => ?_, [117, 100, 99, 48, 48], by simp [pairEnds], rfl, five⟩
    show pairF v (92 :: y :: ([] ++ u)) = _
    simp [pairF, hy]
  obtain rfl : y = 117 := by
    have : y.toNat = 117 := by omega
    exact UInt8.toNat_inj.1 this
  rw [eall] at h
  by_cases hd : (digs true 4 0 0 r2).2.2 = false
  · obtain ⟨j, c', d1, d2, d3, d4, d5, d6, d7⟩ := digs_bad true 4 0 0 r2 hd
    obtain ⟨y, y1, y2, y3⟩ := dc_end j c' d2 d6 (fun hj => by have := d7 rfl hj rfl; omega)
    refine ⟨2 + j, ?_, by simp; omega, fun hl u => ?_, y, y1, by omega, fun u => ?_⟩
    · rw [eall, if_pos hd, d1]
      show (0, 6 + (0 + j), false) = _
      rw [show 6 + (0 + j) = 4 + (2 + j) by omega]
    · show pairF v ((92 :: 117 :: r2).take (2 + j + 1) ++ u) = _
      rw [show 2 + j + 1 = (j + 1) + 1 + 1 by omega, List.take_succ_cons, List.take_succ_cons, List.cons_append, List.cons_append, eall, d5 (by simp at hl; omega)]
      rw [if_pos rfl]
      show (0, 6 + (0 + j), false) = _
      rw [show 6 + (0 + j) = 4 + (2 + j) by omega]
    · have e2 : (92 :: 117 :: r2).take (2 + j) ++ (y ++ u) = 92 :: 117 :: (r2.take j ++ (y ++ u)) := by
        rw [show 2 + j = j + 1 + 1 by omega, List.take_succ_cons, List.take_succ_cons]; rfl
      rw [e2, eall, d4, if_neg (by rw [(y3 u).1]; simp)]
      exact ⟨rfl, rfl⟩
  · rw [if_neg hd] at h; simp at h

/-- what a broken number can be gone on with -/
def numEnds : List (List UInt8) := [[48, 48, 48, 48], [48, 48, 48], [48, 48, 92, 117, 100, 99, 48, 48], [48, 92, 117, 100, 99, 48, 48]] ++ pairEnds

theorem num_good (t : List UInt8) (h : (numF t).2.2 = true) (u : List UInt8) : numF (t.take (numF t).2.1 ++ u) = numF t := by
  by_cases hd : (digs false 4 0 0 t).2.2 = false
  · rw [numF, if_pos hd] at h; simp at h
  have hd' : (digs false 4 0 0 t).2.2 = true := by simpa using hd
  obtain ⟨h1, h2, h3⟩ := digs_good false 4 0 0 t hd'
  have ha : (t.take 4).length = 4 := by simp; omega
  have hg : (digs false 4 0 0 (t.take 4)).2.2 = true := by have := h3 []; rw [List.append_nil] at this; rw [this]; exact hd'
  have et : t.take 4 ++ t.drop 4 = t := List.take_append_drop 4 t
  have f := numF_form (t.take 4) (t.drop 4) ha hg
  rw [et] at f
  by_cases hs : 55296 ≤ (digs false 4 0 0 (t.take 4)).1 ∧ (digs false 4 0 0 (t.take 4)).1 < 56320
  · rw [if_pos hs] at f
    rw [f] at h ⊢
    obtain ⟨p1, p2, p3⟩ := pair_good _ _ h
    have e : t.take 10 = t.take 4 ++ (t.drop 4).take 6 := by rw [← List.take_add]
    rw [p2, e, List.append_assoc, numF_form (t.take 4) _ ha hg, if_pos hs, p3]
  · rw [if_neg hs] at f
    rw [f]
    show numF (t.take 4 ++ u) = _
    rw [numF_form (t.take 4) _ ha hg, if_neg hs]

theorem num_bad (t : List UInt8) (h : (numF t).2.2 = false) : ∃ m, numF t = (0, m, false) ∧ m ≤ t.length ∧ (m < t.length → ∀ u, numF (t.take (m + 1) ++ u) = (0, m, false)) ∧
    ∃ y ∈ numEnds, ∀ u, (numF (t.take m ++ (y ++ u))).2.2 = true ∧ (numF (t.take m ++ (y ++ u))).2.1 = m + y.length := by
  by_cases hd : (digs false 4 0 0 t).2.2 = false
  · obtain ⟨j, c', d1, d2, d3, d4, d5, d6, d7⟩ := digs_bad false 4 0 0 t hd
    rw [Nat.zero_add] at d1 d5
    have bad : ∀ s : List UInt8, digs false 4 0 0 s = (0, j, false) → numF s = (0, j, false) := fun s e => by rw [numF, e]; rfl
    refine ⟨j, bad t d1, d3, fun hl u => bad _ (d5 hl u), ?_⟩
    -- z: the noughts that are left; val: what they make
    have key : ∀ (z : List UInt8) (val : Nat), z.length + j = 4 → (∀ u, digs false (4 - j) (0 + j) c' (z ++ u) = (val, 4, true)) → ∀ u, numF (t.take j ++ (z ++ u)) = if 55296 ≤ val ∧ val < 56320 then pairF val u else (val, 4, true) := by
      intro z val hz hv u
      have hl : (t.take j ++ z).length = 4 := by rw [List.length_append, List.length_take]; omega
      have hg : digs false 4 0 0 (t.take j ++ z) = (val, 4, true) := by
        have := hv []
        rw [List.append_nil] at this
        rw [d4, this]
      have f := numF_form (t.take j ++ z) u hl (by rw [hg])
      rw [hg] at f
      rw [← List.append_assoc, f]
    have pairs : ∀ (val : Nat) (u : List UInt8), (pairF val ([92, 117, 100, 99, 48, 48] ++ u)).2.2 = true ∧ (pairF val ([92, 117, 100, 99, 48, 48] ++ u)).2.1 = 10 := fun val u => by
      have e : ∀ r2, pairF val (92 :: 117 :: r2) = if (digs true 4 0 0 r2).2.2 = false then (0, 6 + (digs true 4 0 0 r2).2.1, false)
          else (65536 + 1024 * (val - 55296) + ((digs true 4 0 0 r2).1 - 56320), 10, true) := fun r2 => by
        simp only [pairF]; rw [if_neg (by decide), if_neg (by decide)]
      have dc0 : (digs true 4 0 0 ([100, 99, 48, 48] ++ u)).2.2 = true := rfl
      have el : ([92, 117, 100, 99, 48, 48] ++ u : List UInt8) = 92 :: 117 :: ([100, 99, 48, 48] ++ u) := rfl
      rw [el, e, if_neg (by rw [dc0]; simp)]
      exact ⟨rfl, rfl⟩
    have hj' : j = 0 ∨ j = 1 ∨ j = 2 ∨ j = 3 := by omega
    have st : ∀ (r i c : Nat) (u : List UInt8), 2 ≤ i → digs false (r + 1) i c (48 :: u) = digs false r (i + 1) (16 * c) u := fun r i c u hi => by
      have g : goes c 0 i false = true := by
        unfold goes; rw [if_neg (by omega), if_neg (by omega)]
      rw [digs, dig48, if_neg (by rw [g]; simp)]; rfl
    have st1 : ∀ (r c : Nat) (u : List UInt8), digs false (r + 1) 1 c (48 :: u) = digs false r 2 (16 * c) u := fun r c u => by
      have g : goes c 0 1 false = true := by
        unfold goes; rw [if_neg (by omega), if_pos rfl]; simp
      rw [digs, dig48, if_neg (by rw [g]; simp)]; rfl
    rcases hj' with rfl | rfl | rfl | rfl
    · obtain rfl := d6 rfl
      have k := key [48, 48, 48, 48] 0 rfl (fun u => rfl)
      refine ⟨[48, 48, 48, 48], by simp [numEnds], fun u => ?_⟩
      rw [k, if_neg (by omega)]
      exact ⟨rfl, rfl⟩
    · have k := key [48, 48, 48] (16 * (16 * (16 * c'))) rfl (fun u => by
        show digs false (2 + 1) 1 c' (48 :: 48 :: 48 :: u) = _
        rw [st1, st 1 2 _ _ (by omega), st 0 3 _ _ (by omega)]; rfl)
      refine ⟨[48, 48, 48], by simp [numEnds], fun u => ?_⟩
      rw [k, if_neg (by omega)]
      exact ⟨rfl, rfl⟩
    · have k := key [48, 48] (16 * (16 * c')) rfl (fun u => by
        show digs false (1 + 1) 2 c' (48 :: 48 :: u) = _
        rw [st 1 2 _ _ (by omega), st 0 3 _ _ (by omega)]; rfl)
      by_cases hs : 55296 ≤ 16 * (16 * c') ∧ 16 * (16 * c') < 56320
      · refine ⟨[48, 48, 92, 117, 100, 99, 48, 48], by simp [numEnds], fun u => ?_⟩
        have e : ([48, 48, 92, 117, 100, 99, 48, 48] : List UInt8) ++ u = [48, 48] ++ ([92, 117, 100, 99, 48, 48] ++ u) := rfl
        rw [e, k, if_pos hs]
        exact pairs _ u
      · refine ⟨[48, 48], by simp [numEnds, pairEnds], fun u => ?_⟩
        rw [k, if_neg hs]
        exact ⟨rfl, rfl⟩
    · have k := key [48] (16 * c') rfl (fun u => by
        show digs false (0 + 1) 3 c' (48 :: u) = _
        rw [st 0 3 _ _ (by omega)]; rfl)
      by_cases hs : 55296 ≤ 16 * c' ∧ 16 * c' < 56320
      · refine ⟨[48, 92, 117, 100, 99, 48, 48], by simp [numEnds], fun u => ?_⟩
        have e : ([48, 92, 117, 100, 99, 48, 48] : List UInt8) ++ u = [48] ++ ([92, 117, 100, 99, 48, 48] ++ u) := rfl
        rw [e, k, if_pos hs]
        exact pairs _ u
      · refine ⟨[48], by simp [numEnds, pairEnds], fun u => ?_⟩
        rw [k, if_neg hs]
        exact ⟨rfl, rfl⟩
  · have hd' : (digs false 4 0 0 t).2.2 = true := by simpa using hd
    obtain ⟨h1, h2, h3⟩ := digs_good false 4 0 0 t hd'
    have ha : (t.take 4).length = 4 := by simp; omega
    have hg : (digs false 4 0 0 (t.take 4)).2.2 = true := by have := h3 []; rw [List.append_nil] at this; rw [this]; exact hd'
    have et : t.take 4 ++ t.drop 4 = t := List.take_append_drop 4 t
    have f := numF_form (t.take 4) (t.drop 4) ha hg
    rw [et] at f
    by_cases hs : 55296 ≤ (digs false 4 0 0 (t.take 4)).1 ∧ (digs false 4 0 0 (t.take 4)).1 < 56320
    · rw [if_pos hs] at f
      rw [f] at h
      obtain ⟨m, p1, p2, p3, y, y1, y2, y3⟩ := pair_bad _ _ h
      have hl : (t.drop 4).length = t.length - 4 := List.length_drop
      have e : ∀ q, t.take (4 + q) = t.take 4 ++ (t.drop 4).take q := fun q => by rw [← List.take_add]
      refine ⟨4 + m, by rw [f, p1], by omega, fun hm u => ?_, y, List.mem_append_right _ y1, fun u => ?_⟩
      · rw [show 4 + m + 1 = 4 + (m + 1) by omega, e, List.append_assoc, numF_form (t.take 4) _ ha hg, if_pos hs, p3 (by omega)]
      · rw [e, List.append_assoc, numF_form (t.take 4) _ ha hg, if_pos hs]
        refine ⟨(y3 u).1, ?_⟩
        rw [(y3 u).2]; omega
    · rw [if_neg hs] at f
      rw [f] at h; simp at h

theorem esc_good (t : List UInt8) (h : (escF t).2.2 = true) (u : List UInt8) : escF (t.take (escF t).2.1 ++ u) = escF t := by
  rcases t with _ | ⟨x, t⟩
  · simp [escF] at h
  rw [escF_cons] at h ⊢
  by_cases hx : x.toNat = 117
  · rw [if_pos hx] at h ⊢
    show escF ((x :: t).take (1 + (numF t).2.1) ++ u) = _
    rw [show 1 + (numF t).2.1 = (numF t).2.1 + 1 by omega, List.take_succ_cons, List.cons_append, escF_cons, if_pos hx, num_good t h]
    rw [show 1 + (numF t).2.1 = (numF t).2.1 + 1 by omega]
  · rw [if_neg hx] at h ⊢
    by_cases hs : saidN x.toNat = 0
    · rw [if_pos hs] at h; simp at h
    · rw [if_neg hs]
      show escF (x :: ([] ++ u)) = _
      rw [escF_cons, if_neg hx, if_neg hs]

/-- what a broken escape can be gone on with -/
def escEnds : List (List UInt8) := [110] :: numEnds
theorem esc_bad (t : List UInt8) (h : (escF t).2.2 = false) : (escF t).2.1 ≤ t.length ∧ ((escF t).2.1 < t.length → ∀ u, (escF (t.take ((escF t).2.1 + 1) ++ u)).2 = (escF t).2) ∧
    ∃ y ∈ escEnds, ∀ u, (escF (t.take (escF t).2.1 ++ (y ++ u))).2.2 = true ∧ (escF (t.take (escF t).2.1 ++ (y ++ u))).2.1 = (escF t).2.1 + y.length := by
  have n : ∀ u, (escF ([] ++ ([110] ++ u))).2.2 = true ∧ (escF ([] ++ ([110] ++ u))).2.1 = 0 + 1 := fun u => ⟨rfl, rfl⟩
  rcases t with _ | ⟨x, t⟩
  · exact ⟨by simp [escF], by simp [escF], [110], by simp [escEnds], n⟩
  rw [escF_cons] at h ⊢
  by_cases hx : x.toNat = 117
  · rw [if_pos hx] at h ⊢
    obtain ⟨m, p1, p2, p3, y, y1, y2⟩ := num_bad t h
    rw [p1]
    show 1 + m ≤ _ ∧ (1 + m < _ → ∀ u, (escF ((x :: t).take (1 + m + 1) ++ u)).2 = (1 + m, false)) ∧ ∃ y ∈ escEnds, ∀ u, (escF ((x :: t).take (1 + m) ++ (y ++ u))).2.2 = true ∧ (escF ((x :: t).take (1 + m) ++ (y ++ u))).2.1 = 1 + m + y.length
    refine ⟨by simp; omega, fun hl u => ?_, y, List.mem_cons_of_mem _ y1, fun u => ?_⟩
    · rw [show 1 + m + 1 = (m + 1) + 1 by omega, List.take_succ_cons, List.cons_append, escF_cons, if_pos hx, p3 (by simp at hl; omega)]
    · rw [show 1 + m = m + 1 by omega, List.take_succ_cons, List.cons_append, escF_cons, if_pos hx]
      refine ⟨(y2 u).1, ?_⟩
      show 1 + (numF (t.take m ++ (y ++ u))).2.1 = _
      rw [(y2 u).2]; omega
  · rw [if_neg hx] at h ⊢
    by_cases hs : saidN x.toNat = 0
    · rw [if_pos hs]
      refine ⟨by simp, fun _ u => ?_, [110], by simp [escEnds], n⟩
      show (escF (x :: ([] ++ u))).2 = _
      rw [escF_cons, if_neg hx, if_pos hs]
    · rw [if_neg hs] at h; simp at h

theorem nxtGo_bad (n : Nat) : ∀ (t : List UInt8) (k lo hi : Nat), (nxtGo n k lo hi t).2 = false →
    ∃ j, nxtGo n k lo hi t = (k + j, false) ∧ k + j < n ∧ j ≤ t.length ∧ (j < t.length → ∀ u, nxtGo n k lo hi (t.take (j + 1) ++ u) = (k + j, false)) ∧
      ∀ u, nxtGo n k lo hi (t.take j ++ u) = nxtGo n (k + j) (if j = 0 then lo else 128) (if j = 0 then hi else 191) u
  | [], k, lo, hi, h => by
    by_cases c : n ≤ k
    · simp [nxtGo, c] at h
    · exact ⟨0, by simp [nxtGo, c], by omega, by simp, by simp, fun u => by simp⟩
  | c :: t, k, lo, hi, h => by
    by_cases d : n ≤ k
    · simp [nxtGo, d] at h
    · by_cases g : c.toNat < lo ∨ hi < c.toNat
      · refine ⟨0, by rw [nxtGo, if_neg d, if_pos g]; rfl, by omega, by simp, fun _ u => ?_, fun u => by simp⟩
        show nxtGo n k lo hi (c :: ([] ++ u)) = _
        rw [nxtGo, if_neg d, if_pos g]; rfl
      · have e : ∀ u, nxtGo n k lo hi (c :: u) = nxtGo n (k + 1) 128 191 u := fun u => by rw [nxtGo, if_neg d, if_neg g]
        rw [e] at h
        obtain ⟨j, h1, h2, h3, h4, h5⟩ := nxtGo_bad n t (k + 1) 128 191 h
        refine ⟨j + 1, by rw [e, h1, show k + 1 + j = k + (j + 1) by omega], by omega, by simp; omega, fun hl u => ?_, fun u => ?_⟩
        · rw [List.take_succ_cons, List.cons_append, e, h4 (by simp at hl; omega), show k + 1 + j = k + (j + 1) by omega]
        · rw [List.take_succ_cons, List.cons_append, e, h5, show k + 1 + j = k + (j + 1) by omega]
          simp

/-- what a broken sequence can be gone on with -/
def utfEnds : List (List UInt8) := [[128], [128, 128], [128, 128, 128], [160, 128], [144, 128, 128]]
theorem bnd_all (b : Nat) : bnd b = (1, 0, 0) ∨ bnd b = (2, 128, 191) ∨ bnd b = (3, 160, 191) ∨ bnd b = (3, 128, 159) ∨ bnd b = (3, 128, 191) ∨ bnd b = (4, 144, 191) ∨ bnd b = (4, 128, 143) ∨ bnd b = (4, 128, 191) ∨ bnd b = (0, 0, 0) := by
  unfold bnd
  repeat' split
  all_goals simp

theorem go_end (n j lo hi : Nat) (h : (n = 2 ∧ lo = 128 ∧ hi = 191) ∨ (n = 3 ∧ ((lo = 160 ∧ hi = 191) ∨ (lo = 128 ∧ hi = 159) ∨ (lo = 128 ∧ hi = 191))) ∨ (n = 4 ∧ ((lo = 144 ∧ hi = 191) ∨ (lo = 128 ∧ hi = 143) ∨ (lo = 128 ∧ hi = 191)))) (hj : 1 + j < n) :
    ∃ y ∈ utfEnds, y.length + (1 + j) = n ∧ ∀ u, nxtGo n (1 + j) (if j = 0 then lo else 128) (if j = 0 then hi else 191) (y ++ u) = (n, true) := by
  have fin : ∀ (n k lo hi : Nat) (u : List UInt8), n ≤ k → nxtGo n k lo hi u = (n, true) := fun n k lo hi u hk => nxtGo_full n k lo hi hk u
  have one : ∀ (n k lo hi : Nat) (x : UInt8) (u : List UInt8), ¬ n ≤ k → ¬ (x.toNat < lo ∨ hi < x.toNat) → nxtGo n k lo hi (x :: u) = nxtGo n (k + 1) 128 191 u := fun n k lo hi x u h1 h2 => by rw [nxtGo, if_neg h1, if_neg h2]
  have b8 : (128 : UInt8).toNat = 128 := rfl
  rcases h with ⟨rfl, rfl, rfl⟩ | ⟨rfl, hh⟩ | ⟨rfl, hh⟩
  · obtain rfl : j = 0 := by omega
    exact ⟨[128], by simp [utfEnds], rfl, fun u => by rw [if_pos rfl, if_pos rfl]; show nxtGo 2 1 128 191 (128 :: u) = _; rw [one _ _ _ _ _ _ (by omega) (by decide), fin _ _ _ _ _ (by omega)]⟩
  · have hj' : j = 0 ∨ j = 1 := by omega
    rcases hj' with rfl | rfl
    · rcases hh with ⟨rfl, rfl⟩ | ⟨rfl, rfl⟩ | ⟨rfl, rfl⟩
      · exact ⟨[160, 128], by simp [utfEnds], rfl, fun u => by rw [if_pos rfl, if_pos rfl]; show nxtGo 3 1 160 191 (160 :: 128 :: u) = _; rw [one _ _ _ _ _ _ (by omega) (by decide), one _ _ _ _ _ _ (by omega) (by decide), fin _ _ _ _ _ (by omega)]⟩
      · exact ⟨[128, 128], by simp [utfEnds], rfl, fun u => by rw [if_pos rfl, if_pos rfl]; show nxtGo 3 1 128 159 (128 :: 128 :: u) = _; rw [one _ _ _ _ _ _ (by omega) (by decide), one _ _ _ _ _ _ (by omega) (by decide), fin _ _ _ _ _ (by omega)]⟩
      · exact ⟨[128, 128], by simp [utfEnds], rfl, fun u => by rw [if_pos rfl, if_pos rfl]; show nxtGo 3 1 128 191 (128 :: 128 :: u) = _; rw [one _ _ _ _ _ _ (by omega) (by decide), one _ _ _ _ _ _ (by omega) (by decide), fin _ _ _ _ _ (by omega)]⟩
    · exact ⟨[128], by simp [utfEnds], rfl, fun u => by rw [if_neg (by omega), if_neg (by omega)]; show nxtGo 3 2 128 191 (128 :: u) = _; rw [one _ _ _ _ _ _ (by omega) (by decide), fin _ _ _ _ _ (by omega)]⟩
  · have hj' : j = 0 ∨ j = 1 ∨ j = 2 := by omega
    rcases hj' with rfl | rfl | rfl
    · rcases hh with ⟨rfl, rfl⟩ | ⟨rfl, rfl⟩ | ⟨rfl, rfl⟩
      · exact ⟨[144, 128, 128], by simp [utfEnds], rfl, fun u => by rw [if_pos rfl, if_pos rfl]; show nxtGo 4 1 144 191 (144 :: 128 :: 128 :: u) = _; rw [one _ _ _ _ _ _ (by omega) (by decide), one _ _ _ _ _ _ (by omega) (by decide), one _ _ _ _ _ _ (by omega) (by decide), fin _ _ _ _ _ (by omega)]⟩
      · exact ⟨[128, 128, 128], by simp [utfEnds], rfl, fun u => by rw [if_pos rfl, if_pos rfl]; show nxtGo 4 1 128 143 (128 :: 128 :: 128 :: u) = _; rw [one _ _ _ _ _ _ (by omega) (by decide), one _ _ _ _ _ _ (by omega) (by decide), one _ _ _ _ _ _ (by omega) (by decide), fin _ _ _ _ _ (by omega)]⟩
      · exact ⟨[128, 128, 128], by simp [utfEnds], rfl, fun u => by rw [if_pos rfl, if_pos rfl]; show nxtGo 4 1 128 191 (128 :: 128 :: 128 :: u) = _; rw [one _ _ _ _ _ _ (by omega) (by decide), one _ _ _ _ _ _ (by omega) (by decide), one _ _ _ _ _ _ (by omega) (by decide), fin _ _ _ _ _ (by omega)]⟩
    · exact ⟨[128, 128], by simp [utfEnds], rfl, fun u => by rw [if_neg (by omega), if_neg (by omega)]; show nxtGo 4 2 128 191 (128 :: 128 :: u) = _; rw [one _ _ _ _ _ _ (by omega) (by decide), one _ _ _ _ _ _ (by omega) (by decide), fin _ _ _ _ _ (by omega)]⟩
    · exact ⟨[128], by simp [utfEnds], rfl, fun u => by rw [if_neg (by omega), if_neg (by omega)]; show nxtGo 4 3 128 191 (128 :: u) = _; rw [one _ _ _ _ _ _ (by omega) (by decide), fin _ _ _ _ _ (by omega)]⟩

theorem nxt_bad (b : UInt8) (t : List UInt8) (h : (nxt (b :: t)).2 = false) : ∃ n, nxt (b :: t) = (n, false) ∧ n ≤ t.length + 1 ∧ (n < t.length + 1 → ∀ u, nxt ((b :: t).take (n + 1) ++ u) = (n, false)) ∧
    (n = 0 ∨ (1 ≤ n ∧ ∃ y ∈ utfEnds, ∀ u, nxt ((b :: t).take n ++ (y ++ u)) = (n + y.length, true))) := by
  by_cases c : (bnd b.toNat).1 = 0
  · have e : ∀ u, nxt (b :: u) = (0, false) := fun u => by rw [nxt_cons, if_pos c]
    exact ⟨0, e t, by omega, fun _ u => by simpa using e u, .inl rfl⟩
  · have e : ∀ u, nxt (b :: u) = nxtGo (bnd b.toNat).1 1 (bnd b.toNat).2.1 (bnd b.toNat).2.2 u := fun u => by rw [nxt_cons, if_neg c]
    rw [e] at h
    obtain ⟨j, h1, h2, h3, h4, h5⟩ := nxtGo_bad _ t 1 _ _ h
    have ht : ∀ q, (b :: t).take (1 + q) = b :: t.take q := fun q => by rw [show 1 + q = q + 1 by omega, List.take_succ_cons]
    refine ⟨1 + j, by rw [e, h1], by omega, fun hl u => ?_, .inr ⟨by omega, ?_⟩⟩
    · rw [show 1 + j + 1 = 1 + (j + 1) by omega, ht, List.cons_append, e, h4 (by omega)]
    · have hb := bnd_all b.toNat
      obtain ⟨y, y1, y2, y3⟩ := go_end (bnd b.toNat).1 j (bnd b.toNat).2.1 (bnd b.toNat).2.2 (by
        rcases hb with hb | hb | hb | hb | hb | hb | hb | hb | hb <;> rw [hb] at h2 ⊢ <;> simp at h2 ⊢) h2
      refine ⟨y, y1, fun u => ?_⟩
      rw [ht, List.cons_append, e, h5, y3, show (1 + j) + y.length = (bnd b.toNat).1 by omega]

def allEnds : List (List UInt8) := [] :: (escEnds ++ utfEnds)

theorem stp_good_pre (t : List UInt8) (h : (stp t).1 = 2) (u : List UInt8) : stp (t.take (stp t).2.2.1 ++ u) = stp t := by
  rcases t with _ | ⟨x, t⟩
  · simp [stp] at h
  rw [stp_cons] at h ⊢
  by_cases c1 : x.toNat < 32
  · rw [if_pos c1] at h; simp at h
  rw [if_neg c1] at h ⊢
  by_cases c2 : x.toNat = 34
  · rw [if_pos c2] at h; simp at h
  rw [if_neg c2] at h ⊢
  by_cases c3 : x.toNat = 92
  · rw [if_pos c3] at h ⊢
    by_cases c4 : (escF t).2.2 = true
    · rw [if_pos c4]
      show stp ((x :: t).take (1 + (escF t).2.1) ++ u) = _
      rw [show (x :: t).take (1 + (escF t).2.1) = x :: t.take (escF t).2.1 by rw [Nat.add_comm, List.take_succ_cons], List.cons_append, stp_cons, if_neg c1, if_neg c2, if_pos c3, esc_good t c4, if_pos c4]
    · rw [if_neg c4] at h; simp at h
  · rw [if_neg c3] at h ⊢
    by_cases c4 : (nxt (x :: t)).2 = true
    · rw [if_pos c4]
      have p := nxt_pre x t c4 u
      have hn := p.2.2.1
      show stp ((x :: t).take (nxt (x :: t)).1 ++ u) = _
      have e : (x :: t).take (nxt (x :: t)).1 = x :: t.take ((nxt (x :: t)).1 - 1) := by
        conv => lhs; rw [show (nxt (x :: t)).1 = ((nxt (x :: t)).1 - 1) + 1 by omega]
        rfl
      have p1 := p.1
      have hlen : ((x :: t).take (nxt (x :: t)).1).length = (nxt (x :: t)).1 := by rw [List.length_take]; simp; omega
      have htk : ((x :: t).take (nxt (x :: t)).1 ++ u).take (nxt (x :: t)).1 = (x :: t).take (nxt (x :: t)).1 := by
        rw [List.take_append_of_le_length (by omega), List.take_of_length_le (by omega)]
      generalize (x :: t).take (nxt (x :: t)).1 = A at *
      generalize (nxt (x :: t)).1 = N at *
      subst e
      rw [List.cons_append] at p1 htk ⊢
      rw [stp_cons, if_neg c1, if_neg c2, if_neg c3, p1, if_pos rfl, htk]
    · rw [if_neg c4] at h; simp at h

theorem stp_bad_pre (t : List UInt8) (h : (stp t).1 = 0) (hl : (stp t).2.2.1 < t.length) (u : List UInt8) : stp (t.take ((stp t).2.2.1 + 1) ++ u) = stp t := by
  rcases t with _ | ⟨x, t⟩
  · simp at hl
  rw [stp_cons] at h hl ⊢
  by_cases c1 : x.toNat < 32
  · rw [if_pos c1]
    show stp (x :: ([] ++ u)) = _
    rw [stp_cons, if_pos c1]
  rw [if_neg c1] at h hl ⊢
  by_cases c2 : x.toNat = 34
  · rw [if_pos c2] at h; simp at h
  rw [if_neg c2] at h hl ⊢
  by_cases c3 : x.toNat = 92
  · rw [if_pos c3] at h hl ⊢
    by_cases c4 : (escF t).2.2 = true
    · rw [if_pos c4] at h; simp at h
    · rw [if_neg c4] at hl ⊢
      have c5 : (escF t).2.2 = false := by simpa using c4
      obtain ⟨b1, b2, -⟩ := esc_bad t c5
      show stp ((x :: t).take (1 + (escF t).2.1 + 1) ++ u) = _
      have b3 := b2 (by simp at hl; omega) u
      rw [show (x :: t).take (1 + (escF t).2.1 + 1) = x :: t.take ((escF t).2.1 + 1) by rw [show 1 + (escF t).2.1 + 1 = ((escF t).2.1 + 1) + 1 by omega, List.take_succ_cons], List.cons_append, stp_cons, if_neg c1, if_neg c2, if_pos c3, b3, if_neg c4]
  · rw [if_neg c3] at h hl ⊢
    by_cases c4 : (nxt (x :: t)).2 = true
    · rw [if_pos c4] at h; simp at h
    · rw [if_neg c4] at hl ⊢
      obtain ⟨n, n1, n2, n3, -⟩ := nxt_bad x t (by simpa using c4)
      rw [n1] at hl ⊢
      have n4 := n3 (by simpa using hl) u
      show stp ((x :: t).take (n + 1) ++ u) = _
      rw [List.take_succ_cons, List.cons_append] at n4 ⊢
      rw [stp_cons, if_neg c1, if_neg c2, if_neg c3, n4, if_neg (by simp)]

theorem stp_end (t : List UInt8) (h : (stp t).1 = 0) : ∃ y ∈ allEnds, (t.take (stp t).2.2.1 = [] ∧ y = []) ∨ ∀ u, ∃ b, stp (t.take (stp t).2.2.1 ++ (y ++ u)) = (2, b, (stp t).2.2.1 + y.length, 0) := by
  rcases t with _ | ⟨x, t⟩
  · exact ⟨[], by simp [allEnds], .inl ⟨by simp, rfl⟩⟩
  rw [stp_cons] at h ⊢
  by_cases c1 : x.toNat < 32
  · rw [if_pos c1]
    exact ⟨[], by simp [allEnds], .inl ⟨rfl, rfl⟩⟩
  rw [if_neg c1] at h ⊢
  by_cases c2 : x.toNat = 34
  · rw [if_pos c2] at h; simp at h
  rw [if_neg c2] at h ⊢
  by_cases c3 : x.toNat = 92
  · rw [if_pos c3] at h ⊢
    by_cases c4 : (escF t).2.2 = true
    · rw [if_pos c4] at h; simp at h
    · rw [if_neg c4]
      obtain ⟨b1, b2, y, y1, y2⟩ := esc_bad t (by simpa using c4)
      refine ⟨y, List.mem_cons_of_mem _ (List.mem_append_left _ y1), .inr fun u => ?_⟩
      show ∃ b, stp ((x :: t).take (1 + (escF t).2.1) ++ (y ++ u)) = (2, b, 1 + (escF t).2.1 + y.length, 0)
      rw [show (x :: t).take (1 + (escF t).2.1) = x :: t.take (escF t).2.1 by rw [Nat.add_comm, List.take_succ_cons], List.cons_append, stp_cons, if_neg c1, if_neg c2, if_pos c3, if_pos (y2 u).1, (y2 u).2, Nat.add_assoc]
      exact ⟨_, rfl⟩
  · rw [if_neg c3] at h ⊢
    by_cases c4 : (nxt (x :: t)).2 = true
    · rw [if_pos c4] at h; simp at h
    · rw [if_neg c4]
      obtain ⟨n, n1, n2, n3, n4⟩ := nxt_bad x t (by simpa using c4)
      rw [n1]
      rcases n4 with rfl | ⟨n5, y, y1, y2⟩
      · exact ⟨[], by simp [allEnds], .inl ⟨rfl, rfl⟩⟩
      · refine ⟨y, List.mem_cons_of_mem _ (List.mem_append_right _ y1), .inr fun u => ?_⟩
        have y3 := y2 u
        show ∃ b, stp ((x :: t).take n ++ (y ++ u)) = (2, b, n + y.length, 0)
        obtain ⟨q, rfl⟩ : ∃ q, n = q + 1 := ⟨n - 1, by omega⟩
        rw [List.take_succ_cons, List.cons_append] at y3 ⊢
        rw [stp_cons, if_neg c1, if_neg c2, if_neg c3, y3, if_pos rfl]
        exact ⟨_, rfl⟩
end Go.Proofs.YtcoamnmgkhlahaaDoor.Q
