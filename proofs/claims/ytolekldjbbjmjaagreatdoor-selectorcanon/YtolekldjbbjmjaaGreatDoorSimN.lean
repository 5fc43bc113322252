import Derived.Test.YtolekldjbbjmjaaGreatDoorSimM
/- the map of demands: what it says of each key, and the rows that it points to (layer 20). -/
set_option linter.unusedSimpArgs false
set_option linter.unusedVariables false
namespace Go.Proofs.YtolekldjbbjmjaaGreatDoor
open Go.RowKit Go.Lib Go.Maps
def slL (v : Value) : Option (DataW Unit) := match v with
  | .slice none 0 0 => some (.agg [])
  | .slice (some ⟨g, 0, none⟩) n c => some (.agg [.lit (.int .i64 (g : Int)), .lit (.int .i64 (n : Int)), .lit (.int .i64 (c : Int))])
  | _ => none
def unS (d : DataW Unit) : Value := match d with
  | .agg [] => .slice none 0 0
  | .agg [.lit (.int _ g), .lit (.int _ n), .lit (.int _ c)] => .slice (some ⟨g.toNat, 0, none⟩) n.toNat c.toNat
  | _ => .tuple #[]
theorem unS_of {v : Value} {d : DataW Unit} (h : slL v = some d) : unS d = v := by
  unfold slL at h
  split at h
  · cases h; rfl
  · cases h; simp [unS]
  · cases h
def oLd (l : List Value) : Option (DataW Unit × List MemPlace) := match l with
  | [.bool a, .bool b, .bool c, s, n] => match slL s, slL n with
    | some x, some y => some (.agg [.lit (.bool a), .lit (.bool b), .lit (.bool c), x, y], [])
    | _, _ => none
  | _ => none
def oRd (v : Value) : Option (DataW Unit × List MemPlace) := match v with
  | .agg c => oLd c.toList
  | _ => none
def unD (d : DataW Unit) : Value := match d with
  | .agg [.lit (.bool a), .lit (.bool b), .lit (.bool c), x, y] => .agg #[.bool a, .bool b, .bool c, unS x, unS y]
  | _ => .tuple #[]
theorem unD_of {v : Value} {d : DataW Unit} {ps : List MemPlace} (h : oRd v = some (d, ps)) : unD d = v := by
  unfold oRd at h
  split at h
  · rename_i c
    obtain ⟨c⟩ := c
    simp only at h
    unfold oLd at h
    split at h
    · split at h
      · rename_i hx hy
        cases h
        show Value.agg #[.bool _, .bool _, .bool _, unS _, unS _] = _
        rw [unS_of hx, unS_of hy]
      · cases h
    · cases h
  · cases h
def datD (d : Pd) (s n : Value) : DataW Unit := .agg [.lit (.bool d.h), .lit (.bool d.hn), .lit (.bool d.i), (slL s).getD (.agg []), (slL n).getD (.agg [])]
theorem slL_own {w : World} {base : Nat} {S : Nat → Prop} {v : Value} {l : List ByteArray} (h : OwnSt w base S v l) : ∃ x, slL v = some x := by
  obtain ⟨⟨xs, h1, _⟩, _⟩ := h
  rcases h1.2 with ⟨rfl, _⟩ | ⟨g, cap, cur, rfl, _⟩
  · exact ⟨_, rfl⟩
  · exact ⟨_, rfl⟩
theorem oRd_of {w : World} {base : Nat} {S S' : Nat → Prop} {sv nv : Value} {l m : List ByteArray} (d : Pd) (hs : OwnSt w base S sv l) (hn : OwnSt w base S' nv m) : oRd (encD d sv nv) = some (datD d sv nv, []) := by
  obtain ⟨x, hx⟩ := slL_own hs
  obtain ⟨y, hy⟩ := slL_own hn
  show oLd [.bool d.h, .bool d.hn, .bool d.i, sv, nv] = _
  unfold oLd datD
  simp only [hx, hy]
  rfl
abbrev zeroD : DataW Unit := datD pdZ (.slice none 0 0) (.slice none 0 0)
abbrev zero5 : Value := .agg #[.bool false, .bool false, .bool false, .slice none 0 0, .slice none 0 0]
theorem zero71 (w : World) : (zeroValue 70).run Tryz.prog w = .ok zero5 w := by kernel_rfl
theorem mk69 (w : World) : (Instr.makeMap 68 none).run Tryz.prog w = .ok (.map (some w.heap.size)) (w.alloc (.map #[] 0)) := by kernel_rfl
/-- what the map says; where its rows lie -/
structure Gat (w : World) (base : Nat) (l : List Trm) (D : DataW Unit) (sv nv : ByteArray → Value) : Prop where
  im : IsMap D
  at_ : ∀ x, D.atKey (kL x) zeroD = datD (pdOf l x) (sv x) (nv x)
  s : ∀ x, OwnSt w base (fun _ => False) (sv x) (pdOf l x).s
  n : ∀ x, OwnSt w base (fun _ => False) (nv x) (pdOf l x).n
  inj : ∀ x y r, (nv x).ownBlock = some r → (nv y).ownBlock = some r → x = y
  sep : ∀ x y r, (nv x).ownBlock = some r → (sv y).ownBlock ≠ some r
  keys : ∀ x, has D (kL x) = true ↔ ∃ t ∈ l, t.1 = x
theorem Gat.start (w : World) (base : Nat) : Gat w base [] (.map []) (fun _ => .slice none 0 0) (fun _ => .slice none 0 0) :=
  ⟨isMap_empty, fun x => rfl, fun x => OwnR.nil _ _, fun x => OwnR.nil _ _, fun x y r h => (by cases h), fun x y r h => (by cases h), fun x => by simp [has_eq]⟩
theorem Gat.keep {w w' : World} {base : Nat} {l : List Trm} {D : DataW Unit} {sv nv : ByteArray → Value} {row : Option Nat} (h : Gat w base l D sv nv) (hg : w.grownBy w' row) (hr : ∀ r, row = some r → ∀ x, (sv x).ownBlock ≠ some r ∧ (nv x).ownBlock ≠ some r) : Gat w' base l D sv nv :=
  ⟨h.im, h.at_, fun x => (h.s x).keep keepS hg (fun r e => ⟨fun h => h, (hr r e x).1⟩), fun x => (h.n x).keep keepS hg (fun r e => ⟨fun h => h, (hr r e x).2⟩), h.inj, h.sep, h.keys⟩
theorem Gat.look {w W : World} {base b n : Nat} {l : List Trm} {D : DataW Unit} {sv nv : ByteArray → Value} (h : Gat w base l D sv nv) (hm : W.ownsMap Tryz.prog 9 oRd b n D) (x : ByteArray) (hx : x.size ≤ maxLen) :
    (Instr.lookup 68 (.map (some b)) (.string x) false).run Tryz.prog W = .ok (encD (pdOf l x) (sv x) (nv x)) W := by
  obtain ⟨v, ps, hrun, hR⟩ := hm.lookup law9 Tryz.underlying68 (zero71 _) (zd := zeroD) (zp := []) rfl (key_of x hx)
  rw [h.at_ x] at hR
  have h1 := unD_of hR
  have h2 := unD_of (oRd_of (pdOf l x) (h.s x) (h.n x))
  rw [h1] at h2
  rw [hrun, h2]
theorem isKey_iff {k : ByteArray} {t : Trm} : isKey k t = true ↔ t.1 = k := by
  unfold isKey
  rw [beq_iff_eq]
  exact ⟨bytes_ext9, fun h => by rw [h]⟩
/-- one term more -/
theorem Gat.step {w w' w2 : World} {base b : Nat} {l : List Trm} {j : Nat} (hj : j < l.length) {k : ByteArray} (hk : (l[j]).1 = k) {D : DataW Unit} {sv nv : ByteArray → Value} (h : Gat w base (l.take j) D sv nv) {sv' nv' : Value}
    (hs : OwnSt w' base (fun _ => False) sv' ((pdOf (l.take j) k).add l[j]).s) (hn : OwnSt w' base (fun _ => False) nv' ((pdOf (l.take j) k).add l[j]).n) (hg : w.grownBy w' (nv k).ownBlock)
    (h1 : sv' = sv k ∨ ∀ r, sv'.ownBlock = some r → w.heap.size ≤ r) (h2 : nv'.ownBlock = (nv k).ownBlock ∨ ∀ r, nv'.ownBlock = some r → w.heap.size ≤ r) (h3 : ∀ r, nv'.ownBlock = some r → sv'.ownBlock ≠ some r)
    (hg2 : w'.grownBy w2 (some b)) (hb : b < base) :
    Gat w2 base (l.take (j + 1)) (D.put (kL k) (datD ((pdOf (l.take j) k).add l[j]) sv' nv')) (fun x => if x = k then sv' else sv x) (fun x => if x = k then nv' else nv x) := by
  have hpd : ∀ x, pdOf (l.take (j + 1)) x = if x = k then (pdOf (l.take j) x).add l[j] else pdOf (l.take j) x := fun x => by
    rw [pdOf_next hj x]
    by_cases e : x = k
    · rw [if_pos e, if_pos (isKey_iff.2 (by rw [hk, e]))]
    · rw [if_neg e, if_neg (fun h => e (by rw [← isKey_iff.1 h, hk]))]
  have hkeep : ∀ {v : Value} {m : List ByteArray}, OwnSt w' base (fun _ => False) v m → OwnSt w2 base (fun _ => False) v m := fun {v m} hv => hv.keep keepS hg2 (fun r e => ⟨fun h => h, fun e2 => by have := (hv.lt e2).1; have := Option.some.inj e; omega⟩)
  have hlts : ∀ x r, (sv x).ownBlock = some r → r < w.heap.size := fun x r hr => ((h.s x).lt hr).2
  have hltn : ∀ x r, (nv x).ownBlock = some r → r < w.heap.size := fun x r hr => ((h.n x).lt hr).2
  refine ⟨h.im.put _ _, fun x => ?_, fun x => ?_, fun x => ?_, fun x y r hx hy => ?_, fun x y r hx hy => ?_, fun x => ?_⟩
  · rw [hpd x]
    by_cases e : x = k
    · subst e
      rw [atKey_put_same h.im (kl_key _)]
      simp
    · rw [atKey_put_other (fun e2 => e (kl_inj e2)), h.at_ x]
      simp [e]
  · rw [hpd x]
    by_cases e : x = k
    · subst e; simp only [if_true]; exact hkeep hs
    · simp only [e, if_false]
      exact hkeep ((h.s x).keep keepS hg (fun r hr => ⟨fun h => h, h.sep k x r hr⟩))
  · rw [hpd x]
    by_cases e : x = k
    · subst e; simp only [if_true]; exact hkeep hn
    · simp only [e, if_false]
      exact hkeep ((h.n x).keep keepS hg (fun r hr => ⟨fun h => h, fun e2 => e (h.inj x k r e2 hr)⟩))
  · by_cases ex : x = k
    · by_cases ey : y = k
      · rw [ex, ey]
      · simp only [ex, if_true] at hx
        simp only [ey, if_false] at hy
        rcases h2 with h2 | h2
        · rw [h2] at hx; exact absurd (h.inj y k r hy hx) ey
        · have := h2 r hx; have := hltn y r hy; omega
    · simp only [ex, if_false] at hx
      by_cases ey : y = k
      · simp only [ey, if_true] at hy
        rcases h2 with h2 | h2
        · rw [h2] at hy; exact absurd (h.inj x k r hx hy) ex
        · have := h2 r hy; have := hltn x r hx; omega
      · simp only [ey, if_false] at hy
        exact h.inj x y r hx hy
  · by_cases ex : x = k
    · simp only [ex, if_true] at hx
      by_cases ey : y = k
      · simp only [ey, if_true] at hy; exact h3 r hx hy
      · simp only [ey, if_false] at hy
        rcases h2 with h2 | h2
        · rw [h2] at hx; exact h.sep k y r hx hy
        · have := h2 r hx; have := hlts y r hy; omega
    · simp only [ex, if_false] at hx
      by_cases ey : y = k
      · simp only [ey, if_true] at hy
        rcases h1 with h1 | h1
        · rw [h1] at hy; exact h.sep x k r hx hy
        · have := h1 r hy; have := hltn x r hx; omega
      · simp only [ey, if_false] at hy
        exact h.sep x y r hx hy
  · by_cases e : x = k
    · subst e
      rw [has_put_same h.im (kl_key _), List.take_succ_eq_append_getElem hj]
      exact ⟨fun _ => ⟨l[j], List.mem_append_right _ (by simp), hk⟩, fun _ => rfl⟩
    · rw [has_put_other (fun e2 => e (kl_inj e2)), h.keys x, List.take_succ_eq_append_getElem hj]
      constructor
      · rintro ⟨t, ht, e2⟩; exact ⟨t, List.mem_append_left _ ht, e2⟩
      · rintro ⟨t, ht, e2⟩
        rcases List.mem_append.1 ht with ht | ht
        · exact ⟨t, ht, e2⟩
        · rw [List.mem_singleton.1 ht, hk] at e2
          exact absurd e2.symm e
/-- bounds -/
theorem add_len (d : Pd) (t : Trm) : (d.add t).s.length ≤ d.s.length + wtS t.2.2 ∧ (d.add t).n.length ≤ d.n.length + wtS t.2.2 := by
  have h := wtS_len t.2.2
  unfold Pd.add
  split
  · exact ⟨by dsimp only; omega, by dsimp only; omega⟩
  · split
    · exact ⟨by dsimp only; omega, by dsimp only; omega⟩
    · split
      · refine ⟨?_, by dsimp only; omega⟩
        dsimp only
        split
        · exact Nat.le_trans (List.length_filter_le _ _) (by omega)
        · omega
      · split
        · refine ⟨by dsimp only; omega, ?_⟩
          dsimp only; rw [List.length_append]; omega
        · exact ⟨by omega, by omega⟩
theorem add_small {d : Pd} {t : Trm} (h1 : SmallS d.s) (h2 : SmallS d.n) (h3 : SmallS t.2.2) : SmallS (d.add t).s ∧ SmallS (d.add t).n := by
  unfold Pd.add
  split
  · exact ⟨h1, h2⟩
  · split
    · exact ⟨h1, h2⟩
    · split
      · refine ⟨?_, h2⟩
        dsimp only
        split
        · exact fun s hs => h1 s (List.mem_filter.1 hs).1
        · exact h3
      · split
        · exact ⟨h1, fun s hs => (List.mem_append.1 hs).elim (h2 s) (h3 s)⟩
        · exact ⟨h1, h2⟩
theorem pd_bounds (k : ByteArray) : ∀ (l : List Trm) (d : Pd), SmallS d.s → SmallS d.n → (∀ t ∈ l, SmallS t.2.2) → SmallS (pdF k d l).s ∧ SmallS (pdF k d l).n ∧ (pdF k d l).s.length ≤ d.s.length + wtT l ∧ (pdF k d l).n.length ≤ d.n.length + wtT l
  | [], d, h1, h2, _ => ⟨h1, h2, Nat.le_add_right _ _, Nat.le_add_right _ _⟩
  | t :: l, d, h1, h2, h3 => by
    have e : pdF k d (t :: l) = pdF k (if isKey k t then d.add t else d) l := rfl
    rw [e]
    have hl : ∀ t ∈ l, SmallS t.2.2 := fun u hu => h3 u (List.mem_cons_of_mem _ hu)
    simp only [wtT]
    cases hk : isKey k t with
    | true =>
      have ha := add_small (d := d) (t := t) h1 h2 (h3 t (by simp))
      have hb := add_len d t
      have ih := pd_bounds k l (d.add t) ha.1 ha.2 hl
      simp only [if_true]
      exact ⟨ih.1, ih.2.1, by have := ih.2.2.1; omega, by have := ih.2.2.2; omega⟩
    | false =>
      have ih := pd_bounds k l d h1 h2 hl
      simp only [Bool.false_eq_true, if_false]
      exact ⟨ih.1, ih.2.1, by have := ih.2.2.1; omega, by have := ih.2.2.2; omega⟩
theorem pdOf_bounds {l : List Trm} (h : ∀ t ∈ l, SmallS t.2.2) (j : Nat) (hj : j ≤ l.length) (k : ByteArray) : SmallS (pdOf (l.take j) k).s ∧ SmallS (pdOf (l.take j) k).n ∧ (pdOf (l.take j) k).s.length ≤ wtT l ∧ (pdOf (l.take j) k).n.length ≤ wtT l := by
  have h1 := pd_bounds k (l.take j) pdZ (fun s hs => by cases hs) (fun s hs => by cases hs) (fun t ht => h t (List.mem_of_mem_take ht))
  have h2 := wtT_part l j hj
  have h0 : pdZ.s.length = 0 ∧ pdZ.n.length = 0 := ⟨rfl, rfl⟩
  unfold pdOf
  exact ⟨h1.1, h1.2.1, by have := h1.2.2.1; omega, by have := h1.2.2.2; omega⟩
/-- the sorted keys are the document's -/
theorem keys_sorted {w : World} {b n : Nat} {l : List Trm} {D : DataW Unit} {ss : List (List UInt8)} (hm : w.ownsMap Tryz.prog 9 oRd b n D) (hk : ∀ x, has D (kL x) = true ↔ ∃ t ∈ l, t.1 = x) (hp : ss.Perm (strKeys D)) : ss.mergeSort (fun x y => decide (x ≤ y)) = (keysV l).map bs := by
  have hr := keysV_ris l
  have hc : Collected D (fun _ => false) ((keysV l).map bs) := by
    refine ⟨?_, fun x => ?_⟩
    · refine List.pairwise_map.2 ((ris_nodup hr).imp fun {a b} hne e => hne ?_)
      rw [← of_bs a, ← of_bs b, e]
    · rw [List.mem_map]
      have h1 := hk (ofB x)
      have e : kL (ofB x) = .string x := rfl
      rw [e] at h1
      rw [h1]
      constructor
      · rintro ⟨s, hs, rfl⟩
        exact ⟨by obtain ⟨t, ht, e⟩ := keysV_mem.1 hs; exact ⟨t, ht, by rw [e, of_bs]⟩, rfl⟩
      · rintro ⟨⟨t, ht, e⟩, _⟩
        exact ⟨ofB x, keysV_mem.2 ⟨t, ht, e⟩, rfl⟩
  have h2 := hc.perm hm law9 Tryz.underlying9 (fun _ => rfl)
  have hs : ((keysV l).map bs).Pairwise (fun x y => Op.bytesLess x y = true) := by
    refine List.pairwise_map.2 (hr.imp fun {a b} h => ?_)
    have := h
    unfold ltS at this
    rw [bsl, bsl] at this
    exact this
  refine List.Perm.eq_of_pairwise (le := fun x y => Op.bytesLess y x = false) (fun x y _ _ q1 q2 => ?_) ?_ (hs.imp fun {x y} h => ?_) ((List.mergeSort_perm _ _).trans (hp.trans h2.symm))
  · exact Classical.byContradiction fun hne => by
      have := lt_of_le q1 hne
      rw [q2] at this; cases this
  · have tr : ∀ a b c : List UInt8, leB a b = true → leB b c = true → leB a c = true := fun a b c h1 h2 => by simp only [leB, decide_eq_true_eq] at *; exact List.le_trans h1 h2
    have tt : ∀ a b : List UInt8, (leB a b || leB b a) = true := fun a b => by simp only [leB, Bool.or_eq_true, decide_eq_true_eq]; exact List.le_total a b
    exact (List.pairwise_mergeSort tr tt ss).imp fun h => le_less.1 (by simpa [leB] using h)
  · cases hb : Op.bytesLess y x with
    | false => rfl
    | true => have := less_trans h hb; rw [less_self] at this; cases this
end Go.Proofs.YtolekldjbbjmjaaGreatDoor
