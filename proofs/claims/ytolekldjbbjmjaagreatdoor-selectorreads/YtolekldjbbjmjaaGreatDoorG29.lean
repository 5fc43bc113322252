/- joined: ParE SimG -/
import Derived.Test.YtolekldjbbjmjaaGreatDoorParD
import Derived.Sort.Walk0
import Derived.Lib.SlicesCompact
import Derived.Sort.KeysCollected
/- the selector's reader: operator, one. -/
set_option linter.unusedSimpArgs false
set_option linter.unusedVariables false
namespace Go.Proofs.YtolekldjbbjmjaaGreatDoor
open Go.RowKit Go.Lib
theorem ix0 (W : World) : (Instr.index 163 (.agg #[.string ⟨#[61, 61]⟩, .string ⟨#[61]⟩, .string ⟨#[33, 61]⟩]) (.int .i64 0)).run Tryz.prog W = .ok (.string ⟨#[61, 61]⟩) W := by
  simp [Instr.index, run_underlying Tryz.underlying163, asIntOf, go_sem, Tryz.sizeOf9, Tryz.isAgg9]
theorem ix1 (W : World) : (Instr.index 163 (.agg #[.string ⟨#[61, 61]⟩, .string ⟨#[61]⟩, .string ⟨#[33, 61]⟩]) (.int .i64 1)).run Tryz.prog W = .ok (.string ⟨#[61]⟩) W := by
  simp [Instr.index, run_underlying Tryz.underlying163, asIntOf, go_sem, Tryz.sizeOf9, Tryz.isAgg9]
theorem ix2 (W : World) : (Instr.index 163 (.agg #[.string ⟨#[61, 61]⟩, .string ⟨#[61]⟩, .string ⟨#[33, 61]⟩]) (.int .i64 2)).run Tryz.prog W = .ok (.string ⟨#[33, 61]⟩) W := by
  simp [Instr.index, run_underlying Tryz.underlying163, asIntOf, go_sem, Tryz.sizeOf9, Tryz.isAgg9]
/-- the operator that stands here, or the plain word -/
def opS (l : List UInt8) (k : Nat) : ByteArray :=
  if tkB l k [61, 61] = true then ⟨#[61, 61]⟩ else if tkB l k [61] = true then ⟨#[61]⟩ else if tkB l k [33, 61] = true then ⟨#[33, 61]⟩ else ⟨(plnT l k).toArray⟩
set_option maxHeartbeats 4000000 in
set_option maxRecDepth 100000 in
theorem operator_at (g : Nat) (s : ByteArray) (k : Nat) (w : World) (h : PB g s k w) (hs : s.size ≤ 140737488355000) (hk : k ≤ s.size) :
    Calls Tryz.prog 103 #[.pointer (some ⟨g, 0, none⟩)] w (fun e w' => e = .returned (.string (opS s.data.toList k)) ∧ RdP g s w w' k) := by
  have CR : Hid (∀ W, RdP g s w W k → Calls Tryz.prog 55 #[.pointer (some ⟨g, 0, none⟩)] W fun e w' => e = .returned (.string (s.extract k s.size)) ∧ RdP g s w w' k) := fun W r => by
    refine (rest_any g s k W r.pb hk).mono ?_
    rintro e w' ⟨rfl, q, rfl⟩
    exact ⟨rfl, hk, r.pb.drewN _, grown_drewN r.gr _⟩
  have CP : Hid (∀ (p : ByteArray) (pl : List UInt8), p.data.toList = pl → ∀ W, Calls Tryz.prog 75 #[.string (s.extract k s.size), .string p] W fun e w' => e = .returned (.bool (tkB s.data.toList k pl)) ∧ w' = W) := fun p pl hp W => by
    have := pre_any (s.extract k s.size) p W
    rw [ext_list s k, hp] at this
    exact this
  have CA : Hid (∀ W, Calls Tryz.prog 64 #[.string (s.extract k s.size)] W fun e w' => e = .returned (.string ⟨(plnT s.data.toList k).toArray⟩) ∧ w' = W) := fun W => by
    have c := plainpre_any (s.extract k s.size) (by have := ext_size s k; omega) W
    have e1 : plnT (s.extract k s.size).data.toList 0 = plnT s.data.toList k := by unfold plnT; rw [ext_list s k, List.drop_zero]
    rw [e1] at c
    exact c
  have R0 : RdP g s w w k := RdP.refl h hk
  have HOP : Hid (opS s.data.toList k = if tkB s.data.toList k [61, 61] = true then ⟨#[61, 61]⟩ else if tkB s.data.toList k [61] = true then ⟨#[61]⟩ else if tkB s.data.toList k [33, 61] = true then ⟨#[33, 61]⟩ else ⟨(plnT s.data.toList k).toArray⟩) := rfl
  have I0 := ix0
  have I1 := ix1
  have I2 := ix2
  have C0 := hmk (CP.out ⟨#[61, 61]⟩ [61, 61] rfl)
  have C1 := hmk (CP.out ⟨#[61]⟩ [61] rfl)
  have C2 := hmk (CP.out ⟨#[33, 61]⟩ [33, 61] rfl)
  clear h CP
  generalize tkB s.data.toList k [61, 61] = t0 at *
  generalize tkB s.data.toList k [61] = t1 at *
  generalize tkB s.data.toList k [33, 61] = t2 at *
  go_enter Tryz.func103, Tryz.ntmps103
  go_wp2_with fail
  go_loopw [6] (fun e6 wr => ∃ j : Nat, j ≤ 3 ∧ e6 = .int .i64 (j : Int) ∧ RdP g s w wr k ∧ (0 < j → t0 = false) ∧ (1 < j → t1 = false) ∧ (2 < j → t2 = false)) (fun e6 _ => 3 - (RowKit.intOf e6).toNat)
  case atStart => exact ⟨0, by omega, rfl, R0, fun h => by omega, fun h => by omega, fun h => by omega⟩
  case round =>
    obtain ⟨j, hj, rfl, R, H0, H1, H2⟩ := hrel
    have h0' := hmk H0
    have h1' := hmk H1
    have h2' := hmk H2
    clear H0 H1 H2
    by_cases hj3 : j = 3
    · subst hj3
      have e0 := h0'.out (by omega)
      have e1 := h1'.out (by omega)
      have e2 := h2'.out (by omega)
      subst e0 e1 e2
      have HX : Hid (opS s.data.toList k = ⟨(plnT s.data.toList k).toArray⟩) := HOP.out
      clear HOP
      go_wp2_with fail
      refine (CR.out _ R).mono ?_
      rintro e w1 ⟨rfl, r1⟩
      go_wp2_with (go_at_call 64; refine (CA.out _).mono ?_; rintro e w2 ⟨rfl, rfl⟩)
      go_ret
      exact ⟨congrArg (fun r => Ending.returned (.string r)) HX.out.symm, r1⟩
    by_cases hj0 : j = 0
    · subst hj0
      clear I1 I2
      cases t0 with
      | true =>
        have HX : Hid (opS s.data.toList k = ⟨#[61, 61]⟩) := HOP.out
        clear HOP
        go_wp2_with fail
        refine (CR.out _ R).mono ?_
        rintro e w1 ⟨rfl, r1⟩
        go_wp2_with (go_at_call 75; refine (C0.out _).mono ?_; rintro e w2 ⟨rfl, rfl⟩)
        go_ret
        exact ⟨congrArg (fun r => Ending.returned (.string r)) HX.out.symm, r1⟩
      | false =>
        go_wp2_with fail
        refine (CR.out _ R).mono ?_
        rintro e w1 ⟨rfl, r1⟩
        go_wp2_with (go_at_call 75; refine (C0.out _).mono ?_; rintro e w2 ⟨rfl, rfl⟩)
        go_roundw
        case rel => exact ⟨1, by omega, by go_num, r1, fun h => trivial, fun h => by first | trivial | omega, fun h => by first | trivial | omega⟩
        case measure => simp [RowKit.intOf]
    by_cases hj1 : j = 1
    · subst hj1
      clear I0 I2
      have e0 := h0'.out (by omega)
      subst e0
      cases t1 with
      | true =>
        have HX : Hid (opS s.data.toList k = ⟨#[61]⟩) := HOP.out
        clear HOP
        go_wp2_with fail
        refine (CR.out _ R).mono ?_
        rintro e w1 ⟨rfl, r1⟩
        go_wp2_with (go_at_call 75; refine (C1.out _).mono ?_; rintro e w2 ⟨rfl, rfl⟩)
        go_ret
        exact ⟨congrArg (fun r => Ending.returned (.string r)) HX.out.symm, r1⟩
      | false =>
        go_wp2_with fail
        refine (CR.out _ R).mono ?_
        rintro e w1 ⟨rfl, r1⟩
        go_wp2_with (go_at_call 75; refine (C1.out _).mono ?_; rintro e w2 ⟨rfl, rfl⟩)
        go_roundw
        case rel => exact ⟨2, by omega, by go_num, r1, fun h => by first | trivial | omega, fun h => trivial, fun h => by first | trivial | omega⟩
        case measure => simp [RowKit.intOf]
    by_cases hj2 : j = 2
    · subst hj2
      clear I0 I1
      have e0 := h0'.out (by omega)
      subst e0
      have e1 := h1'.out (by omega)
      subst e1
      cases t2 with
      | true =>
        have HX : Hid (opS s.data.toList k = ⟨#[33, 61]⟩) := HOP.out
        clear HOP
        go_wp2_with fail
        refine (CR.out _ R).mono ?_
        rintro e w1 ⟨rfl, r1⟩
        go_wp2_with (go_at_call 75; refine (C2.out _).mono ?_; rintro e w2 ⟨rfl, rfl⟩)
        go_ret
        exact ⟨congrArg (fun r => Ending.returned (.string r)) HX.out.symm, r1⟩
      | false =>
        go_wp2_with fail
        refine (CR.out _ R).mono ?_
        rintro e w1 ⟨rfl, r1⟩
        go_wp2_with (go_at_call 75; refine (C2.out _).mono ?_; rintro e w2 ⟨rfl, rfl⟩)
        go_roundw
        case rel => exact ⟨3, by omega, by go_num, r1, fun h => by first | trivial | omega, fun h => by first | trivial | omega, fun h => trivial⟩
        case measure => simp [RowKit.intOf]
    exfalso; omega
/-- one value -/
def MnPost (R : Option (List ByteArray) × Nat) (g : Nat) (s : ByteArray) (w : World) (e : Ending) (w' : World) : Prop :=
  (∃ l a c b o, R.1 = some l ∧ e = .returned (.tuple #[.slice a l.length c, .bool true]) ∧ Headed a l.length c b o ∧ liesS w' (New w w') l b o ∧ l.length ≤ s.size + 1 ∧ RdP g s w w' R.2) ∨ (R.1 = none ∧ e = .returned (.tuple #[.slice none 0 0, .bool false]) ∧ RdP g s w w' R.2)
def oneF (l : List UInt8) (k : Nat) : Option (List ByteArray) × Nat := match wrdF l 0 k with
  | some (x, k1) => (some [x], k1)
  | none => (none, k)
set_option maxHeartbeats 4000000 in
set_option maxRecDepth 100000 in
theorem one_at (g : Nat) (s : ByteArray) (k : Nat) (w : World) (h : PB g s k w) (t : Tp w) (hs : s.size ≤ 140737488355000) (hk : k ≤ s.size) (hg : 4 < g) :
    Calls Tryz.prog 104 #[.pointer (some ⟨g, 0, none⟩)] w (MnPost (oneF s.data.toList k) g s w) := by
  have CW := hmk (word_at g s k 0 w h t hs hk hg (by omega))
  have HO : Hid (oneF s.data.toList k = match wrdF s.data.toList 0 k with | some (x, k1) => (some [x], k1) | none => (none, k)) := rfl
  generalize oneF s.data.toList k = R at *
  clear h t
  go_enter Tryz.func104, Tryz.ntmps104
  go_wp2_with fail
  refine CW.out.mono ?_
  rintro e w1 (⟨x, k1, hx, hx64, hk1, rfl, r1⟩ | ⟨hx, rfl, r1⟩)
  · have HX : Hid (R = (some [x], k1)) := by show _ = _; rw [HO.out, hx]
    clear HO hx
    have hT1 := heap_alloc_new w1 (.cells #[.string x] 9)
    have b1 : Below w1.heap.size w1 (w1.alloc (.cells #[.string x] 9)) := (Below.refl _ _).alloc (Nat.le_refl _) _
    have HF : Hid (MnPost R g s w (.returned (.tuple #[.slice (some ⟨w1.heap.size, 0, none⟩) 1 1, .bool true])) (w1.alloc (.cells #[.string x] 9))) := by
      refine .inl ⟨[x], some ⟨w1.heap.size, 0, none⟩, 1, w1.heap.size, 0, by rw [HX.out], rfl, ⟨Nat.le_refl _, by decide, .inr rfl, fun h => by cases h⟩, fun j hj => ?_, by simp only [List.length_singleton]; omega, ?_⟩
      · obtain rfl : j = 0 := by simp at hj; exact hj
        refine ⟨⟨r1.gr.size, by rw [alloc_size]; omega⟩, by show x.size ≤ _; omega, ?_⟩
        rw [cell_of_block hT1]; rfl
      · rw [HX.out]; exact r1.below b1
    clear hT1 b1 r1
    go_wp2_with fail
    go_ret2
    exact HF.out
  · have HX : Hid (R = (none, k)) := by show _ = _; rw [HO.out, hx]
    clear HO hx
    go_wp2_with fail
    go_ret2
    exact .inr ⟨by rw [HX.out], rfl, by rw [HX.out]; exact r1⟩
end Go.Proofs.YtolekldjbbjmjaaGreatDoor
/- plain: rows of texts that rise; what the document's rows hold; what the program gathers of a key (layer 20). -/
namespace Go.Proofs.YtolekldjbbjmjaaGreatDoor
open Go.RowKit Go.Lib
abbrev ltS (a b : ByteArray) : Prop := Op.bytesLess a.toList b.toList = true
def Ris (l : List ByteArray) : Prop := l.Pairwise ltS
theorem ris_lt {l : List ByteArray} (h : Ris l) {i k : Nat} (hk : k < l.length) (hi : i < k) : Op.bytesLess (l[i]'(by omega)).toList (l[k]).toList = true := List.pairwise_iff_getElem.1 h i k _ hk hi
theorem ltS_ne {a b : ByteArray} (h : ltS a b) : a ≠ b := fun e => by
  subst e
  have := less_self a.toList
  unfold ltS at h
  rw [this] at h; cases h
theorem ris_nodup {l : List ByteArray} (h : Ris l) : l.Nodup := h.imp fun h => ltS_ne h
theorem ris_uniq {a b : List ByteArray} (h1 : Ris a) (h2 : Ris b) (hm : ∀ x, x ∈ a ↔ x ∈ b) : a = b := by
  refine List.Perm.eq_of_pairwise (le := ltS) (fun x y _ _ q1 q2 => ?_) h1 h2 ((List.perm_ext_iff_of_nodup (ris_nodup h1) (ris_nodup h2)).2 hm)
  exact absurd rfl (ltS_ne (less_trans q1 q2))
theorem not_less {a b : ByteArray} (h : Op.bytesLess a.toList b.toList = false) (hne : b ≠ a) : ltS b a := by
  have h1 := less_turn b.toList a.toList
  rw [h] at h1
  have h2 : (b.toList == a.toList) = false := by rw [beq_eq_false_iff_ne]; exact fun e => hne (bytes_ext9 e)
  rw [h2, Bool.or_false] at h1
  exact h1
theorem addV_memI {l : List ByteArray} {s x : ByteArray} : x ∈ addV l s ↔ x ∈ l ∨ x = s := by
  refine ⟨addV_mem, fun h => ?_⟩
  unfold addV
  split
  · rename_i ha
    rcases h with h | h
    · exact h
    · rw [h]; exact amongB_iff.1 ha
  · rw [List.mem_append, List.mem_append]
    rcases h with h | h
    · rw [← List.take_append_drop (addI l s) l, List.mem_append] at h
      exact h.elim (fun h => .inl (.inl h)) .inr
    · exact .inl (.inr (by rw [h]; simp))
theorem addV_ris {l : List ByteArray} (h : Ris l) (s : ByteArray) : Ris (addV l s) := by
  unfold addV
  split
  · exact h
  · rename_i ha
    have hns : s ∉ l := fun hs => ha (amongB_iff.2 hs)
    have hd : ∀ x ∈ l.drop (addI l s), ltS s x := fun x hx => by
      obtain ⟨k, hk, rfl⟩ := List.mem_iff_getElem.1 hx
      rw [List.length_drop] at hk
      have h1 := addI_stop (l := l) (s := s) (by omega)
      rw [List.getElem_drop]
      by_cases e : k = 0
      · subst e; simpa using h1
      · exact less_trans h1 (ris_lt h (k := addI l s + k) (by omega) (by omega))
    have ht : ∀ x ∈ l.take (addI l s), ltS x s := fun x hx => by
      obtain ⟨k, hk, rfl⟩ := List.mem_iff_getElem.1 hx
      rw [List.length_take] at hk
      rw [List.getElem_take]
      refine not_less (addI_lt (by omega)) (fun e => hns ?_)
      rw [← e]; exact List.getElem_mem _
    refine List.pairwise_append.2 ⟨List.pairwise_append.2 ⟨h.sublist (List.take_sublist _ _), List.pairwise_singleton _ _, ?_⟩, h.sublist (List.drop_sublist _ _), ?_⟩
    · intro x hx y hy
      rw [List.mem_singleton.1 hy]; exact ht x hx
    · intro x hx y hy
      rcases List.mem_append.1 hx with hx | hx
      · exact less_trans (ht x hx) (hd y hy)
      · rw [List.mem_singleton.1 hx]; exact hd y hy
/- what the program gathers of a key -/
structure Pd where
  h : Bool
  hn : Bool
  i : Bool
  s : List ByteArray
  n : List ByteArray
def pdZ : Pd := ⟨false, false, false, [], []⟩
def Pd.add (d : Pd) (t : Trm) : Pd := if t.2.1 = 1 then ⟨true, d.hn, d.i, d.s, d.n⟩ else if t.2.1 = 2 then ⟨d.h, true, d.i, d.s, d.n⟩ else if t.2.1 = 3 then ⟨d.h, d.hn, true, if d.i then d.s.filter (amongB t.2.2) else t.2.2, d.n⟩ else if t.2.1 = 4 then ⟨d.h, d.hn, d.i, d.s, d.n ++ t.2.2⟩ else d
def isKey (k : ByteArray) (t : Trm) : Bool := t.1.toList == k.toList
def pdF (k : ByteArray) (d : Pd) (l : List Trm) : Pd := l.foldl (fun d t => if isKey k t then d.add t else d) d
def pdOf (l : List Trm) (k : ByteArray) : Pd := pdF k pdZ l
theorem pdOf_next {l : List Trm} {j : Nat} (h : j < l.length) (k : ByteArray) : pdOf (l.take (j + 1)) k = if isKey k l[j] then (pdOf (l.take j) k).add l[j] else pdOf (l.take j) k := by
  unfold pdOf pdF
  rw [List.take_succ_eq_append_getElem h, List.foldl_append]
  rfl
end Go.Proofs.YtolekldjbbjmjaaGreatDoor
