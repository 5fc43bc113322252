import Derived.Test.YtfbmmilphcnolaaDoorG37
/- The document's put over a row that is only read. -/
set_option linter.unusedSimpArgs false
set_option linter.unusedVariables false
namespace Go.Proofs.YtfbmmilphcnolaaDoor
open Go.RowKit Go.Lib
/-- a row of paths that is read, in a block of T -/
structure RdR {w0 : World} {S : Nat → Prop} (W : World) (T : Nat → Prop) (a : Option Addr) (c b o : Nat) (R : List (PC w0 S)) : Prop where
  hd : Headed a R.length c b o
  cell : ∀ (j : Nat) (hj : j < R.length), W.cell? ⟨b, o + j, none⟩ = some (R[j]).enc
  in_ : 0 < R.length → T b
theorem RdR.below {w0 : World} {S : Nat → Prop} {W W' : World} {T : Nat → Prop} {a : Option Addr} {c b o : Nat} {R : List (PC w0 S)} (h : RdR W T a c b o R) (hb : Below W.heap.size W W') : RdR W' T a c b o R :=
  ⟨h.hd, fun j hj => (hb.cell (p := ⟨b, o + j, none⟩) (World.block_lt_of_cell? W _ (h.cell j hj))).trans (h.cell j hj), h.in_⟩
theorem RdR.lt {w0 : World} {S : Nat → Prop} {W : World} {T : Nat → Prop} {a : Option Addr} {c b o : Nat} {R : List (PC w0 S)} (h : RdR W T a c b o R) (h0 : 0 < R.length) : b < W.heap.size := World.block_lt_of_cell? W _ (h.cell 0 h0)
theorem RdR.at_ {w0 : World} {S : Nat → Prop} {W : World} {T : Nat → Prop} {a : Option Addr} {c b o : Nat} {R : List (PC w0 S)} (h : RdR W T a c b o R) {j : Nat} {u : Value} (hu : (R.map PC.enc)[j]? = some u) : W.cell? ⟨b, o + j, none⟩ = some u := by
  rw [List.getElem?_map] at hu
  cases hj : R[j]? with
  | none => rw [hj] at hu; cases hu
  | some x =>
    rw [hj] at hu
    obtain ⟨h1, h2⟩ := List.getElem?_eq_some_iff.1 hj
    rw [h.cell j h1, h2]
    exact hu
theorem rdr_own {w0 W : World} {S T : Nat → Prop} {base : Nat} {v : Value} {R : List (PC w0 S)} (h : W.ownsRow base 24 1 v R.length (R.map PC.enc)) (hT : ∀ x, base ≤ x → T x) : ∃ a c b o, v = .slice a R.length c ∧ RdR W T a c b o R := by
  rcases own_form h with ⟨rfl, h0⟩ | ⟨g, cap, rfl⟩
  · have : R = [] := List.length_eq_zero_iff.1 h0
    subst this
    exact ⟨none, 0, 0, 0, rfl, ⟨⟨Nat.le_refl _, by simp [maxLen], .inl rfl, fun _ => rfl⟩, fun j hj => by simp at hj, fun h => by simp at h⟩⟩
  · have hf := own_facts h
    exact ⟨_, cap, g, 0, rfl, ⟨hf.2.2.1, hf.2.2.2, .inr rfl, fun h => by cases h⟩, fun j hj => by
      rw [Nat.zero_add]
      exact own_cell h (by rw [List.getElem?_map, List.getElem?_eq_getElem hj]; rfl), fun _ => hT g hf.1⟩
theorem RdR.lies {w0 W : World} {S T : Nat → Prop} {a : Option Addr} {c b o : Nat} {R : List (PC w0 S)} (h : RdR W T a c b o R) (hw : ∀ x, S x → W.heap[x]? = w0.heap[x]?) (hS : ∀ x, S x → T x) : liesQ W T (R.map PC.p) b o := fun j hj => by
  have hj' : j < R.length := by simpa using hj
  refine ⟨h.in_ (by omega), _, h.cell j hj', ?_⟩
  rw [List.getElem_map]
  exact (R[j]).lies hw hS
def PjPost {w0 : World} {S : Nat → Prop} (T : Nat → Prop) (L : List (List El)) (pj : List El) (R : List (PC w0 S)) (w : World) (e : Ending) (w' : World) : Prop :=
  ∃ (R' : List (PC w0 S)) (a : Option Addr) (c b o : Nat), e = .returned (.slice a R'.length c) ∧ RdR w' T a c b o R' ∧ Rs (L ++ [pj]) (R'.map PC.p) ∧ R'.length ≤ R.length + 1 ∧ Below w.heap.size w w'
set_option maxHeartbeats 16000000 in
set_option maxRecDepth 100000 in
theorem rputj_any {w0 : World} {S : Nat → Prop} (hS : ∀ b, S b → b < w0.heap.size) (T : Nat → Prop) (L : List (List El)) (X : PC w0 S) (R : List (PC w0 S)) (al : Option Addr) (cl bl ol : Nat) (w : World) (hT : ∀ x, w.heap.size ≤ x → T x) (hw : Below w0.heap.size w0 w) (ho : RdR w T al cl bl ol R) (hrs : Rs L (R.map PC.p)) (hpb : ∀ y ∈ R, pathB y.p = true) (hpx : pathB X.p = true) (hwr : ∀ y ∈ R, wtP y.p ≤ 2147483647) (hwx : wtP X.p ≤ 2147483647) (hn : R.length < 4294967295) :
    Calls Tryd.prog 39 #[.slice al R.length cl, X.enc] w (PjPost T L X.p R w) := by
  obtain ⟨i0, hi0, hz0, hz1, hz2⟩ := info_parts info33
  have hI : Hid (Tryd.prog.info? 24 = some i0 ∧ i0.zero = some (.slice none 0 0) ∧ i0.size = 1 ∧ i0.bytes = 24) := ⟨hi0, hz0, hz1, hz2⟩
  clear hi0 hz0 hz1 hz2
  have O0 := hmk ho
  have HRS := hmk hrs
  have CC0 : Hid (∀ (i : Nat) (hi : i < R.length) W, Below w.heap.size w W → Calls Tryd.prog 51 #[(R[i]).enc, X.enc] W (JPost (lexL oeE (R[i]).p X.p) W)) := fun i hi W hb => by
    have hb' : Below w0.heap.size w0 W := hw.trans (hb.mono hw.size)
    have := rcmpP_any (R[i]).p X.p S S (R[i]).ao (R[i]).cap (R[i]).b (R[i]).o X.ao X.cap X.b X.o W (R[i]).hh (liesP_keep (fun b h => hb'.block b (hS b h)) (fun _ h => h) (R[i]).hl) X.hh (liesP_keep (fun b h => hb'.block b (hS b h)) (fun _ h => h) X.hl) (fun b h => Nat.lt_of_lt_of_le (hS b h) hb'.size) (fun b h => Nat.lt_of_lt_of_le (hS b h) hb'.size) (hwr _ (List.getElem_mem hi)) hwx
    rw [cmpP_oe (hpb _ (List.getElem_mem hi)) hpx] at this
    exact this
  have HRI : Hid (∀ i j, (hi : i < R.length) → (hj : j < R.length) → i < j → lexL oeE (R[i]).p (R[j]).p < 0) := fun i j hi hj hij => by
    have := List.pairwise_iff_getElem.1 hrs.1 i j (by simpa using hi) (by simpa using hj) hij
    simpa using this
  have HSAME : Hid (∀ i, (hi : i < R.length) → lexL oeE (R[i]).p X.p = 0 → Rs (L ++ [X.p]) (R.map PC.p)) := fun i hi e => by
    have e2 := (path_same (hpb _ (List.getElem_mem hi)) hpx).1 e
    exact rs_same hrs (by rw [← e2]; exact List.mem_map_of_mem (List.getElem_mem hi))
  have HINS : Hid (∀ k, k ≤ R.length → (∀ i, (hi : i < R.length) → i < k → lexL oeE (R[i]).p X.p < 0) → (∀ (hk : k < R.length), 0 < lexL oeE (R[k]).p X.p) → Rs (L ++ [X.p]) ((R.map PC.p).take k ++ [X.p] ++ (R.map PC.p).drop k)) := fun k hk h1 h2 => rs_ins hrs (by simpa using hk) (fun i hi hki => by
      have hi' : i < R.length := by simpa using hi
      rw [List.getElem_map]
      have hk' : k < R.length := by omega
      have h3 := h2 hk'
      have h4 := wk_P.anti X.p (R[k]).p
      by_cases e : i = k
      · subst e; omega
      · exact wk_P.tri _ _ _ (by omega) (HRI.out k i hk' hi' (by omega))) (fun h0 => by
      rw [getElem!_pos _ (k - 1) (by simp; omega), List.getElem_map]
      have h3 := h1 (k - 1) (by omega) (by omega)
      have h4 := wk_P.anti X.p (R[k - 1]).p
      omega)
  obtain ⟨pj, hpj⟩ : ∃ pj, X.p = pj := ⟨_, rfl⟩
  obtain ⟨aq, cq, hxe⟩ : ∃ a c, X.enc = .slice a X.p.length c := ⟨_, _, rfl⟩
  have HX : Hid (X.p = pj ∧ X.enc = .slice aq pj.length cq) := ⟨hpj, by rw [hxe, hpj]⟩
  rw [HX.out.2] at CC0
  rw [HX.out.2, hpj]
  rw [hpj] at CC0 HSAME HINS
  have hcm := ho.hd.max
  have hcl := ho.hd.le
  have hnl := ho.hd.nil
  clear hxe hpj ho hrs hpb hpx hwr hwx hw
  have hcap9 : cl ≤ 9223372036854775807 := Nat.le_trans hcm (by decide)
  by_cases hR0 : R.length = 0
  · obtain rfl : R = [] := List.length_eq_zero_iff.1 hR0
    have INSP : Hid (Rs (L ++ [pj]) ((([] : List (PC w0 S)).map PC.p).take 0 ++ [pj] ++ (([] : List (PC w0 S)).map PC.p).drop 0)) := HINS.out 0 (Nat.zero_le _) (fun i hi h => by omega) (fun hk => by simp at hk)
    show Calls Tryd.prog 39 #[.slice al 0 cl, .slice aq pj.length cq] w (PjPost T L pj [] w)
    clear HINS HSAME HRI CC0 O0
    by_cases hc0 : cl = 0
    · subst hc0
      go_enter Tryd.func39, Tryd.ntmps39
      go_wp2_with fail
      go_loopw [5] (fun e wr => e = .int .i64 0 ∧ Below w.heap.size w wr) (fun _ _ => 0)
      case atStart => exact ⟨by simp, Below.refl _ _⟩
      case round =>
        obtain ⟨rfl, BR⟩ := hrel
        have BQ := hmk BR
        have hzq := BR.size
        clear BR
        have hbase := Nat.le_refl wr.heap.size
        go_wp2_with (at_builtin; go_loud (refine wpl_catP rfl (.tmp 36) (.tmp 39) 22 rfl wr.heap.size 24 i0 _ 1 24 Tryd.underlying22 hI.out.1 hI.out.2.1 hI.out.2.2.1 hI.out.2.2.2 rfl (by decide) (by decide) (.slice none 0 0) 0 [] rfl (World.ownsRow_nil wr _ 24 1) al 0 0 0 0 rfl ⟨Nat.le_refl _, by simp [maxLen], .inl rfl, fun _ => rfl⟩ [] (by simp) (fun j u hu => by simp at hu) (fun u hu => by simp at hu) (by omega) hbase ?_))
        intro v1 w1 o1 g1
        have K1 : Hid (∀ x, x < wr.heap.size → w1.heap[x]? = wr.heap[x]?) := fun x hx => g1.block x hx (by simp [Value.ownBlock])
        have hz1 := g1.size
        have B1 : Hid (Below w.heap.size w w1) := BQ.out.grown g1 (by omega) (fun r e => by simp [Value.ownBlock] at e)
        have hv1 : Hid (∀ r, v1.ownBlock = some r → wr.heap.size ≤ r ∧ r < w1.heap.size) := fun r hr => o1.lt r hr
        have O1 := hmk o1
        clear o1 g1
        have hal1 := alloc_size w1 (.cells #[.slice aq pj.length cq] 24)
        have hne1 := heap_alloc_new w1 (.cells #[.slice aq pj.length cq] 24)
        have CLX : Hid (∀ j u, [Value.slice aq pj.length cq][j]? = some u → (w1.alloc (.cells #[.slice aq pj.length cq] 24)).cell? ⟨w1.heap.size, 0 + j, none⟩ = some u) := fun j u hu => by
          rw [Nat.zero_add, cell_of_block hne1]
          rw [← hu]
          rw [← Array.getElem?_toList]
        have gal : Hid (w1.grownBy (w1.alloc (.cells #[.slice aq pj.length cq] 24)) none) := World.grownBy_alloc _ _ _
        go_wp2_with (at_builtin; go_loud (refine wpl_catP rfl (.tmp 41) (.tmp 43) 22 rfl wr.heap.size 24 i0 _ 1 24 Tryd.underlying22 hI.out.1 hI.out.2.1 hI.out.2.2.1 hI.out.2.2.2 rfl (by decide) (by decide) v1 _ _ rfl (own_keep O1.out gal.out (fun r e => by cases e)) (some ⟨w1.heap.size, 0, none⟩) 1 1 w1.heap.size 0 rfl ⟨Nat.le_refl _, by simp [maxLen], .inr rfl, fun h => by cases h⟩ [.slice aq pj.length cq] rfl CLX.out oneQ (by omega) (by omega) ?_))
        intro v2 w2 o2 g2
        have hz2 := g2.size
        have K2 : ∀ x, x < wr.heap.size → w2.heap[x]? = wr.heap[x]? := fun x hx => by
          rw [g2.block x (by omega) (fun e => by have := (hv1.out x e.symm).1; omega), gal.out.block x (by omega) (by simp), K1.out x hx]
        have KH := hmk K2
        have B2 : Hid (Below w.heap.size w w2) := (B1.out.grown gal.out (by omega) (fun r e => by cases e)).grown g2 (by omega) (fun r e => by have := (hv1.out r e).1; omega)
        have hv2 : Hid (∀ r, v2.ownBlock = some r → wr.heap.size ≤ r ∧ r < w2.heap.size) := fun r hr => o2.lt r hr
        have O2 := hmk o2
        clear o2 g2 K2 O1 B1 gal hne1
        go_wp2_with (at_builtin; go_loud (refine wpl_catP rfl (.tmp 45) (.tmp 48) 22 rfl wr.heap.size 24 i0 _ 1 24 Tryd.underlying22 hI.out.1 hI.out.2.1 hI.out.2.2.1 hI.out.2.2.2 rfl (by decide) (by decide) v2 _ _ rfl O2.out al 0 0 0 0 rfl ⟨Nat.le_refl _, by simp [maxLen], .inl rfl, fun _ => rfl⟩ [] (by simp) (fun j u hu => by simp at hu) (fun u hu => by simp at hu) (by omega) (by omega) ?_))
        intro v3 w3 o3 g3
        have hz3 := g3.size
        have B3 : Hid (Below w.heap.size w w3) := B2.out.grown g3 (by omega) (fun r e => by have := (hv2.out r e).1; omega)
        have O3 : Hid (w3.ownsRow w.heap.size 24 1 v3 [X].length ([X].map PC.enc)) := by
          have := own_base o3 (show w.heap.size ≤ wr.heap.size by omega)
          show World.ownsRow _ _ _ _ _ _ _
          simpa [HX.out.2] using this
        have HRS2 : Hid (Rs (L ++ [pj]) ([X].map PC.p)) := by
          show Rs _ _
          have := INSP.out
          simpa [List.map_take, List.map_drop, HX.out.1] using this
        have hlen2 : [X].length ≤ 0 + 1 := by simp only [List.length_append, List.length_take, List.length_drop, List.length_singleton]; omega
        obtain ⟨a3, c3, b3, o3', rfl, hrd⟩ := rdr_own O3.out hT
        have HRD := hmk hrd
        clear o3 g3 O2 B2 INSP KH O3 hrd
        generalize [X] = RN at *
        go_wp2_with fail
        go_ret
        exact ⟨RN, _, _, _, _, rfl, HRD.out, HRS2.out, hlen2, B3.out⟩
    · obtain ⟨xa, rfl⟩ : ∃ xa, al = some xa := by
        cases al with
        | none => exact absurd (hnl rfl) hc0
        | some x => exact ⟨x, rfl⟩
      have y0 : ¬ (0 : Nat) = cl := fun h => hc0 h.symm
      go_enter Tryd.func39, Tryd.ntmps39
      go_wp2_with fail
      go_loopw [5] (fun e wr => e = .int .i64 0 ∧ Below w.heap.size w wr) (fun _ _ => 0)
      case atStart => exact ⟨by simp, Below.refl _ _⟩
      case round =>
        obtain ⟨rfl, BR⟩ := hrel
        have BQ := hmk BR
        have hzq := BR.size
        clear BR
        have hbase := Nat.le_refl wr.heap.size
        go_wp2_with (at_builtin; go_loud (refine wpl_catP rfl (.tmp 36) (.tmp 39) 22 rfl wr.heap.size 24 i0 _ 1 24 Tryd.underlying22 hI.out.1 hI.out.2.1 hI.out.2.2.1 hI.out.2.2.2 rfl (by decide) (by decide) (.slice none 0 0) 0 [] rfl (World.ownsRow_nil wr _ 24 1) (some xa) 0 cl 0 0 rfl ⟨Nat.zero_le _, hcm, .inl rfl, fun h => by cases h⟩ [] (by simp) (fun j u hu => by simp at hu) (fun u hu => by simp at hu) (by omega) hbase ?_))
        intro v1 w1 o1 g1
        have K1 : Hid (∀ x, x < wr.heap.size → w1.heap[x]? = wr.heap[x]?) := fun x hx => g1.block x hx (by simp [Value.ownBlock])
        have hz1 := g1.size
        have B1 : Hid (Below w.heap.size w w1) := BQ.out.grown g1 (by omega) (fun r e => by simp [Value.ownBlock] at e)
        have hv1 : Hid (∀ r, v1.ownBlock = some r → wr.heap.size ≤ r ∧ r < w1.heap.size) := fun r hr => o1.lt r hr
        have O1 := hmk o1
        clear o1 g1
        have hal1 := alloc_size w1 (.cells #[.slice aq pj.length cq] 24)
        have hne1 := heap_alloc_new w1 (.cells #[.slice aq pj.length cq] 24)
        have CLX : Hid (∀ j u, [Value.slice aq pj.length cq][j]? = some u → (w1.alloc (.cells #[.slice aq pj.length cq] 24)).cell? ⟨w1.heap.size, 0 + j, none⟩ = some u) := fun j u hu => by
          rw [Nat.zero_add, cell_of_block hne1]
          rw [← hu]
          rw [← Array.getElem?_toList]
        have gal : Hid (w1.grownBy (w1.alloc (.cells #[.slice aq pj.length cq] 24)) none) := World.grownBy_alloc _ _ _
        go_wp2_with (at_builtin; go_loud (refine wpl_catP rfl (.tmp 41) (.tmp 43) 22 rfl wr.heap.size 24 i0 _ 1 24 Tryd.underlying22 hI.out.1 hI.out.2.1 hI.out.2.2.1 hI.out.2.2.2 rfl (by decide) (by decide) v1 _ _ rfl (own_keep O1.out gal.out (fun r e => by cases e)) (some ⟨w1.heap.size, 0, none⟩) 1 1 w1.heap.size 0 rfl ⟨Nat.le_refl _, by simp [maxLen], .inr rfl, fun h => by cases h⟩ [.slice aq pj.length cq] rfl CLX.out oneQ (by omega) (by omega) ?_))
        intro v2 w2 o2 g2
        have hz2 := g2.size
        have K2 : ∀ x, x < wr.heap.size → w2.heap[x]? = wr.heap[x]? := fun x hx => by
          rw [g2.block x (by omega) (fun e => by have := (hv1.out x e.symm).1; omega), gal.out.block x (by omega) (by simp), K1.out x hx]
        have KH := hmk K2
        have B2 : Hid (Below w.heap.size w w2) := (B1.out.grown gal.out (by omega) (fun r e => by cases e)).grown g2 (by omega) (fun r e => by have := (hv1.out r e).1; omega)
        have hv2 : Hid (∀ r, v2.ownBlock = some r → wr.heap.size ≤ r ∧ r < w2.heap.size) := fun r hr => o2.lt r hr
        have O2 := hmk o2
        clear o2 g2 K2 O1 B1 gal hne1
        go_wp2_with (at_builtin; go_loud (refine wpl_catP rfl (.tmp 45) (.tmp 48) 22 rfl wr.heap.size 24 i0 _ 1 24 Tryd.underlying22 hI.out.1 hI.out.2.1 hI.out.2.2.1 hI.out.2.2.2 rfl (by decide) (by decide) v2 _ _ rfl O2.out _ 0 _ 0 0 rfl ⟨Nat.zero_le _, by omega, .inl rfl, fun h => by cases h⟩ [] (by simp) (fun j u hu => by simp at hu) (fun u hu => by simp at hu) (by omega) (by omega) ?_))
        intro v3 w3 o3 g3
        have hz3 := g3.size
        have B3 : Hid (Below w.heap.size w w3) := B2.out.grown g3 (by omega) (fun r e => by have := (hv2.out r e).1; omega)
        have O3 : Hid (w3.ownsRow w.heap.size 24 1 v3 [X].length ([X].map PC.enc)) := by
          have := own_base o3 (show w.heap.size ≤ wr.heap.size by omega)
          show World.ownsRow _ _ _ _ _ _ _
          simpa [HX.out.2] using this
        have HRS2 : Hid (Rs (L ++ [pj]) ([X].map PC.p)) := by
          show Rs _ _
          have := INSP.out
          simpa [List.map_take, List.map_drop, HX.out.1] using this
        have hlen2 : [X].length ≤ 0 + 1 := by simp only [List.length_append, List.length_take, List.length_drop, List.length_singleton]; omega
        obtain ⟨a3, c3, b3, o3', rfl, hrd⟩ := rdr_own O3.out hT
        have HRD := hmk hrd
        clear o3 g3 O2 B2 INSP KH O3 hrd
        generalize [X] = RN at *
        go_wp2_with fail
        go_ret
        exact ⟨RN, _, _, _, _, rfl, HRD.out, HRS2.out, hlen2, B3.out⟩
  have hR1 : 0 < R.length := by omega
  obtain rfl : al = some ⟨bl, ol, none⟩ := O0.out.hd.at_.resolve_left hR0
  go_enter Tryd.func39, Tryd.ntmps39
  go_wp2_with fail
  go_loopw [5] (fun e wr => ∃ k : Nat, k ≤ R.length ∧ e = .int .i64 (k : Int) ∧ Below w.heap.size w wr ∧ Hid (∀ i, (hi : i < R.length) → i < k → lexL oeE (R[i]).p pj < 0)) (fun e _ => R.length - (RowKit.intOf e).toNat)
  case atStart => exact ⟨0, Nat.zero_le _, rfl, Below.refl _ _, fun i hi h => by omega⟩
  case round =>
    obtain ⟨k, hk, rfl, BR, HLOW⟩ := hrel
    have hzr := BR.size
    by_cases hkl : k < R.length
    case neg =>
      have INSP : Hid (Rs (L ++ [pj]) ((R.map PC.p).take k ++ [pj] ++ (R.map PC.p).drop k)) := HINS.out k hk HLOW.out (fun h => by omega)
      have y5 : ¬ (k : Int) < (R.length : Int) := by omega
      have OQ := hmk (O0.out.below BR)
      have hgq := OQ.out.lt hR1
      have BQ := hmk BR
      have hzq := hzr
      obtain ⟨wq, hwq⟩ : ∃ wq, wr = wq := ⟨_, rfl⟩
      subst hwq
      clear HINS HSAME HRI CC0 O0 HLOW BR
      have y9 : (k : Int) ≤ cl := by omega
      have y10 : (k : Int) ≤ R.length := by omega
      by_cases hkc : k = cl
      · have hRk : R.length ≤ k := by omega
        subst hkc
        have CL1 : Hid (∀ j u, ((R.take k).map PC.enc)[j]? = some u → wr.cell? ⟨bl, ol + j, none⟩ = some u) := fun j u hu => by
          refine OQ.out.at_ ?_
          rw [List.getElem?_map] at hu ⊢
          rw [List.getElem?_take] at hu
          split at hu
          · exact hu
          · cases hu
        have CL3 : Hid (∀ W : World, (∀ x, x < wr.heap.size → W.heap[x]? = wr.heap[x]?) → ∀ j u, ((R.drop k).map PC.enc)[j]? = some u → W.cell? ⟨bl, ol + k + j, none⟩ = some u) := fun W hW j u hu => by
          rw [World.cell?_of_block (w := wr) (a := ⟨bl, ol + k + j, none⟩) (hW bl hgq), Nat.add_assoc]
          refine OQ.out.at_ ?_
          rw [List.getElem?_map] at hu ⊢
          rw [List.getElem?_drop] at hu
          exact hu
        have hbase := Nat.le_refl wr.heap.size
        go_wp2_with (at_builtin; go_loud (refine wpl_catP rfl (.tmp 36) (.tmp 39) 22 rfl wr.heap.size 24 i0 _ 1 24 Tryd.underlying22 hI.out.1 hI.out.2.1 hI.out.2.2.1 hI.out.2.2.2 rfl (by decide) (by decide) (.slice none 0 0) 0 [] rfl (World.ownsRow_nil wr _ 24 1) (some ⟨bl, ol, none⟩) k k bl ol rfl ⟨by omega, hcm, .inr rfl, fun h => by cases h⟩ ((R.take k).map PC.enc) (by rw [List.length_map, List.length_take]; omega) CL1.out enc_one (by omega) hbase ?_))
        intro v1 w1 o1 g1
        have K1 : Hid (∀ x, x < wr.heap.size → w1.heap[x]? = wr.heap[x]?) := fun x hx => g1.block x hx (by simp [Value.ownBlock])
        have hz1 := g1.size
        have B1 : Hid (Below w.heap.size w w1) := BQ.out.grown g1 (by omega) (fun r e => by simp [Value.ownBlock] at e)
        have hv1 : Hid (∀ r, v1.ownBlock = some r → wr.heap.size ≤ r ∧ r < w1.heap.size) := fun r hr => o1.lt r hr
        have O1 := hmk o1
        clear o1 g1
        have hal1 := alloc_size w1 (.cells #[.slice aq pj.length cq] 24)
        have hne1 := heap_alloc_new w1 (.cells #[.slice aq pj.length cq] 24)
        have CLX : Hid (∀ j u, [Value.slice aq pj.length cq][j]? = some u → (w1.alloc (.cells #[.slice aq pj.length cq] 24)).cell? ⟨w1.heap.size, 0 + j, none⟩ = some u) := fun j u hu => by
          rw [Nat.zero_add, cell_of_block hne1]
          rw [← hu]
          rw [← Array.getElem?_toList]
        have gal : Hid (w1.grownBy (w1.alloc (.cells #[.slice aq pj.length cq] 24)) none) := World.grownBy_alloc _ _ _
        go_wp2_with (at_builtin; go_loud (refine wpl_catP rfl (.tmp 41) (.tmp 43) 22 rfl wr.heap.size 24 i0 _ 1 24 Tryd.underlying22 hI.out.1 hI.out.2.1 hI.out.2.2.1 hI.out.2.2.2 rfl (by decide) (by decide) v1 _ _ rfl (own_keep O1.out gal.out (fun r e => by cases e)) (some ⟨w1.heap.size, 0, none⟩) 1 1 w1.heap.size 0 rfl ⟨Nat.le_refl _, by simp [maxLen], .inr rfl, fun h => by cases h⟩ [.slice aq pj.length cq] rfl CLX.out oneQ (by omega) (by omega) ?_))
        intro v2 w2 o2 g2
        have hz2 := g2.size
        have K2 : ∀ x, x < wr.heap.size → w2.heap[x]? = wr.heap[x]? := fun x hx => by
          rw [g2.block x (by omega) (fun e => by have := (hv1.out x e.symm).1; omega), gal.out.block x (by omega) (by simp), K1.out x hx]
        have KH := hmk K2
        have B2 : Hid (Below w.heap.size w w2) := (B1.out.grown gal.out (by omega) (fun r e => by cases e)).grown g2 (by omega) (fun r e => by have := (hv1.out r e).1; omega)
        have hv2 : Hid (∀ r, v2.ownBlock = some r → wr.heap.size ≤ r ∧ r < w2.heap.size) := fun r hr => o2.lt r hr
        have O2 := hmk o2
        clear o2 g2 K2 O1 B1 gal hne1
        go_wp2_with (at_builtin; go_loud (refine wpl_catP rfl (.tmp 45) (.tmp 48) 22 rfl wr.heap.size 24 i0 _ 1 24 Tryd.underlying22 hI.out.1 hI.out.2.1 hI.out.2.2.1 hI.out.2.2.2 rfl (by decide) (by decide) v2 _ _ rfl O2.out (some ⟨bl, ol, none⟩) 0 0 bl ol rfl ⟨Nat.le_refl _, by simp [maxLen], .inr rfl, fun h => by cases h⟩ [] (by simp) (fun j u hu => by simp at hu) (fun u hu => by simp at hu) (by omega) (by omega) ?_))
        intro v3 w3 o3 g3
        have hz3 := g3.size
        have B3 : Hid (Below w.heap.size w w3) := B2.out.grown g3 (by omega) (fun r e => by have := (hv2.out r e).1; omega)
        have O3 : Hid (w3.ownsRow w.heap.size 24 1 v3 (R.take k ++ [X] ++ R.drop k).length ((R.take k ++ [X] ++ R.drop k).map PC.enc)) := by
          have := own_base o3 (show w.heap.size ≤ wr.heap.size by omega)
          have e0 : R.drop k = [] := List.drop_eq_nil_of_le (by omega)
          have e1 : (R.take k ++ [X] ++ R.drop k).length = k + 1 := by rw [e0]; simp [List.length_take]; omega
          have e2 : (R.take k ++ [X] ++ R.drop k).map PC.enc = (R.map PC.enc).take k ++ [.slice aq pj.length cq] := by rw [e0]; simp [HX.out.2, List.map_take]
          show World.ownsRow _ _ _ _ _ _ _
          rw [e1, e2]
          simpa [List.map_take] using this
        have HRS2 : Hid (Rs (L ++ [pj]) ((R.take k ++ [X] ++ R.drop k).map PC.p)) := by
          show Rs _ _
          have := INSP.out
          simpa [List.map_take, List.map_drop, HX.out.1] using this
        have hlen2 : (R.take k ++ [X] ++ R.drop k).length ≤ R.length + 1 := by simp only [List.length_append, List.length_take, List.length_drop, List.length_singleton]; omega
        obtain ⟨a3, c3, b3, o3', rfl, hrd⟩ := rdr_own O3.out hT
        have HRD := hmk hrd
        clear o3 g3 O2 B2 INSP KH O3 hrd
        generalize R.take k ++ [X] ++ R.drop k = RN at *
        go_wp2_with fail
        go_ret
        exact ⟨RN, _, _, _, _, rfl, HRD.out, HRS2.out, hlen2, B3.out⟩
      have y11 : k < cl := by omega
      have y12 : ¬ cl = k := by omega
      have y13 : ¬ cl - k = 0 := by omega
      have CL1 : Hid (∀ j u, ((R.take k).map PC.enc)[j]? = some u → wr.cell? ⟨bl, ol + j, none⟩ = some u) := fun j u hu => by
        refine OQ.out.at_ ?_
        rw [List.getElem?_map] at hu ⊢
        rw [List.getElem?_take] at hu
        split at hu
        · exact hu
        · cases hu
      have CL3 : Hid (∀ W : World, (∀ x, x < wr.heap.size → W.heap[x]? = wr.heap[x]?) → ∀ j u, ((R.drop k).map PC.enc)[j]? = some u → W.cell? ⟨bl, ol + k + j, none⟩ = some u) := fun W hW j u hu => by
        rw [World.cell?_of_block (w := wr) (a := ⟨bl, ol + k + j, none⟩) (hW bl hgq), Nat.add_assoc]
        refine OQ.out.at_ ?_
        rw [List.getElem?_map] at hu ⊢
        rw [List.getElem?_drop] at hu
        exact hu
      have hbase := Nat.le_refl wr.heap.size
      go_wp2_with (at_builtin; go_loud (refine wpl_catP rfl (.tmp 36) (.tmp 39) 22 rfl wr.heap.size 24 i0 _ 1 24 Tryd.underlying22 hI.out.1 hI.out.2.1 hI.out.2.2.1 hI.out.2.2.2 rfl (by decide) (by decide) (.slice none 0 0) 0 [] rfl (World.ownsRow_nil wr _ 24 1) (some ⟨bl, ol, none⟩) k cl bl ol rfl ⟨by omega, hcm, .inr rfl, fun h => by cases h⟩ ((R.take k).map PC.enc) (by rw [List.length_map, List.length_take]; omega) CL1.out enc_one (by omega) hbase ?_))
      intro v1 w1 o1 g1
      have K1 : Hid (∀ x, x < wr.heap.size → w1.heap[x]? = wr.heap[x]?) := fun x hx => g1.block x hx (by simp [Value.ownBlock])
      have hz1 := g1.size
      have B1 : Hid (Below w.heap.size w w1) := BQ.out.grown g1 (by omega) (fun r e => by simp [Value.ownBlock] at e)
      have hv1 : Hid (∀ r, v1.ownBlock = some r → wr.heap.size ≤ r ∧ r < w1.heap.size) := fun r hr => o1.lt r hr
      have O1 := hmk o1
      clear o1 g1
      have hal1 := alloc_size w1 (.cells #[.slice aq pj.length cq] 24)
      have hne1 := heap_alloc_new w1 (.cells #[.slice aq pj.length cq] 24)
      have CLX : Hid (∀ j u, [Value.slice aq pj.length cq][j]? = some u → (w1.alloc (.cells #[.slice aq pj.length cq] 24)).cell? ⟨w1.heap.size, 0 + j, none⟩ = some u) := fun j u hu => by
        rw [Nat.zero_add, cell_of_block hne1]
        rw [← hu]
        rw [← Array.getElem?_toList]
      have gal : Hid (w1.grownBy (w1.alloc (.cells #[.slice aq pj.length cq] 24)) none) := World.grownBy_alloc _ _ _
      go_wp2_with (at_builtin; go_loud (refine wpl_catP rfl (.tmp 41) (.tmp 43) 22 rfl wr.heap.size 24 i0 _ 1 24 Tryd.underlying22 hI.out.1 hI.out.2.1 hI.out.2.2.1 hI.out.2.2.2 rfl (by decide) (by decide) v1 _ _ rfl (own_keep O1.out gal.out (fun r e => by cases e)) (some ⟨w1.heap.size, 0, none⟩) 1 1 w1.heap.size 0 rfl ⟨Nat.le_refl _, by simp [maxLen], .inr rfl, fun h => by cases h⟩ [.slice aq pj.length cq] rfl CLX.out oneQ (by omega) (by omega) ?_))
      intro v2 w2 o2 g2
      have hz2 := g2.size
      have K2 : ∀ x, x < wr.heap.size → w2.heap[x]? = wr.heap[x]? := fun x hx => by
        rw [g2.block x (by omega) (fun e => by have := (hv1.out x e.symm).1; omega), gal.out.block x (by omega) (by simp), K1.out x hx]
      have KH := hmk K2
      have B2 : Hid (Below w.heap.size w w2) := (B1.out.grown gal.out (by omega) (fun r e => by cases e)).grown g2 (by omega) (fun r e => by have := (hv1.out r e).1; omega)
      have hv2 : Hid (∀ r, v2.ownBlock = some r → wr.heap.size ≤ r ∧ r < w2.heap.size) := fun r hr => o2.lt r hr
      have O2 := hmk o2
      clear o2 g2 K2 O1 B1 gal hne1
      go_wp2_with (at_builtin; go_loud (refine wpl_catP rfl (.tmp 45) (.tmp 48) 22 rfl wr.heap.size 24 i0 _ 1 24 Tryd.underlying22 hI.out.1 hI.out.2.1 hI.out.2.2.1 hI.out.2.2.2 rfl (by decide) (by decide) v2 _ _ rfl O2.out (some ⟨bl, ol + k, none⟩) (R.length - k) (cl - k) bl (ol + k) rfl ⟨by omega, by omega, .inr rfl, fun h => by cases h⟩ ((R.drop k).map PC.enc) (by rw [List.length_map, List.length_drop]; omega) (CL3.out w2 KH.out) enc_one (by omega) (by omega) ?_))
      intro v3 w3 o3 g3
      have hz3 := g3.size
      have B3 : Hid (Below w.heap.size w w3) := B2.out.grown g3 (by omega) (fun r e => by have := (hv2.out r e).1; omega)
      have O3 : Hid (w3.ownsRow w.heap.size 24 1 v3 (R.take k ++ [X] ++ R.drop k).length ((R.take k ++ [X] ++ R.drop k).map PC.enc)) := by
        have := own_base o3 (show w.heap.size ≤ wr.heap.size by omega)
        have e1 : (R.take k ++ [X] ++ R.drop k).length = 0 + k + 1 + (R.length - k) := by simp [List.length_take, List.length_drop]; omega
        have e2 : (R.take k ++ [X] ++ R.drop k).map PC.enc = [] ++ (R.take k).map PC.enc ++ [.slice aq pj.length cq] ++ (R.drop k).map PC.enc := by simp [HX.out.2]
        show World.ownsRow _ _ _ _ _ _ _
        rw [e1, e2]
        first
        | exact this
        | simpa [List.map_take, List.map_drop] using this
      have HRS2 : Hid (Rs (L ++ [pj]) ((R.take k ++ [X] ++ R.drop k).map PC.p)) := by
        show Rs _ _
        have := INSP.out
        simpa [List.map_take, List.map_drop, HX.out.1] using this
      have hlen2 : (R.take k ++ [X] ++ R.drop k).length ≤ R.length + 1 := by simp only [List.length_append, List.length_take, List.length_drop, List.length_singleton]; omega
      obtain ⟨a3, c3, b3, o3', rfl, hrd⟩ := rdr_own O3.out hT
      have HRD := hmk hrd
      clear o3 g3 O2 B2 INSP KH O3 hrd
      generalize R.take k ++ [X] ++ R.drop k = RN at *
      go_wp2_with fail
      go_ret
      exact ⟨RN, _, _, _, _, rfl, HRD.out, HRS2.out, hlen2, B3.out⟩
    have y5 : (k : Int) < (R.length : Int) := by omega
    have OQ0 := hmk (O0.out.below BR)
    have c1 : wr.cell? ⟨bl, ol + k, none⟩ = some (R[k]'hkl).enc := OQ0.out.cell k hkl
    have CC := hmk (CC0.out k hkl)
    have HYE : ∃ a n c, (R[k]'hkl).enc = .slice a n c := ⟨_, _, _, rfl⟩
    have HZS := hmk (HSAME.out k hkl)
    have HZL : Hid (lexL oeE (R[k]'hkl).p pj < 0 → ∀ i, (hi : i < R.length) → i < k + 1 → lexL oeE (R[i]).p pj < 0) := fun h i hi hki => by
      by_cases e : i = k
      · subst e; exact h
      · exact HLOW.out i hi (by omega)
    have HZI : Hid (0 < lexL oeE (R[k]'hkl).p pj → Rs (L ++ [pj]) ((R.map PC.p).take k ++ [pj] ++ (R.map PC.p).drop k)) := fun h => HINS.out k hk HLOW.out (fun _ => h)
    generalize (R[k]'hkl).enc = ye at *
    generalize lexL oeE (R[k]'hkl).p pj = Z at *
    obtain ⟨ya, yl, yc, rfl⟩ := HYE
    have cc1 := hmk (CC.out wr BR)
    by_cases hZ : Z < 0
    · have HF := hmk (HZL.out hZ)
      clear HZL HZI HZS
      go_wp2_with fail
      refine cc1.out.mono ?_
      rintro e w2 ⟨rfl, b2⟩
      go_wp2_with fail
      go_roundw
      case rel => exact ⟨k + 1, by omega, by go_num, BR.trans (b2.mono hzr), HF⟩
      case measure => simp [RowKit.intOf]; omega
    go_wp2_with fail
    refine cc1.out.mono ?_
    rintro e w2 ⟨rfl, b2⟩
    have BR2 := BR.trans (b2.mono hzr)
    have c2 : w2.cell? ⟨bl, ol + k, none⟩ = some (.slice ya yl yc) := (b2.cell (p := ⟨bl, ol + k, none⟩) (World.block_lt_of_cell? wr _ c1)).trans c1
    have cc2 := hmk (CC.out w2 BR2)
    clear c1 cc1 BR b2 OQ0
    go_wp2_with fail
    refine cc2.out.mono ?_
    rintro e wq ⟨rfl, bq⟩
    have BQ := hmk (BR2.trans (bq.mono BR2.size))
    have OQ := hmk (O0.out.below BQ.out)
    have hgq := OQ.out.lt hR1
    have hzq : w.heap.size ≤ wq.heap.size := BQ.out.size
    clear c2 cc2 BR2 bq CC
    by_cases hZ0 : Z = 0
    · have y8 : (Z == 0) = true := by rw [hZ0]; rfl
      have HF := hmk (HZS.out hZ0)
      clear hZ hZ0 HZL HZI HZS HLOW
      go_wp2_with fail
      go_ret
      exact ⟨R, _, _, _, _, rfl, OQ.out, HF.out, by omega, BQ.out⟩
    have y8 : (Z == 0) = false := beq_eq_false_iff_ne.2 hZ0
    have INSP := hmk (HZI.out (by omega))
    have y9 : (k : Int) ≤ cl := by omega
    have y10 : (k : Int) ≤ R.length := by omega
    have y11 : k < cl := by omega
    have y12 : ¬ cl = k := by omega
    have y13 : ¬ cl - k = 0 := by omega
    clear hZ hZ0 HZL HZI HZS HLOW HINS HSAME HRI CC0 O0
    have CL1 : Hid (∀ j u, ((R.take k).map PC.enc)[j]? = some u → wq.cell? ⟨bl, ol + j, none⟩ = some u) := fun j u hu => by
      refine OQ.out.at_ ?_
      rw [List.getElem?_map] at hu ⊢
      rw [List.getElem?_take] at hu
      split at hu
      · exact hu
      · cases hu
    have CL3 : Hid (∀ W : World, (∀ x, x < wq.heap.size → W.heap[x]? = wq.heap[x]?) → ∀ j u, ((R.drop k).map PC.enc)[j]? = some u → W.cell? ⟨bl, ol + k + j, none⟩ = some u) := fun W hW j u hu => by
      rw [World.cell?_of_block (w := wq) (a := ⟨bl, ol + k + j, none⟩) (hW bl hgq), Nat.add_assoc]
      refine OQ.out.at_ ?_
      rw [List.getElem?_map] at hu ⊢
      rw [List.getElem?_drop] at hu
      exact hu
    have hbase := Nat.le_refl wq.heap.size
    go_wp2_with (at_builtin; go_loud (refine wpl_catP rfl (.tmp 36) (.tmp 39) 22 rfl wq.heap.size 24 i0 _ 1 24 Tryd.underlying22 hI.out.1 hI.out.2.1 hI.out.2.2.1 hI.out.2.2.2 rfl (by decide) (by decide) (.slice none 0 0) 0 [] rfl (World.ownsRow_nil wq _ 24 1) (some ⟨bl, ol, none⟩) k cl bl ol rfl ⟨by omega, hcm, .inr rfl, fun h => by cases h⟩ ((R.take k).map PC.enc) (by rw [List.length_map, List.length_take]; omega) CL1.out enc_one (by omega) hbase ?_))
    intro v1 w1 o1 g1
    have K1 : Hid (∀ x, x < wq.heap.size → w1.heap[x]? = wq.heap[x]?) := fun x hx => g1.block x hx (by simp [Value.ownBlock])
    have hz1 := g1.size
    have B1 : Hid (Below w.heap.size w w1) := BQ.out.grown g1 (by omega) (fun r e => by simp [Value.ownBlock] at e)
    have hv1 : Hid (∀ r, v1.ownBlock = some r → wq.heap.size ≤ r ∧ r < w1.heap.size) := fun r hr => o1.lt r hr
    have O1 := hmk o1
    clear o1 g1
    have hal1 := alloc_size w1 (.cells #[.slice aq pj.length cq] 24)
    have hne1 := heap_alloc_new w1 (.cells #[.slice aq pj.length cq] 24)
    have CLX : Hid (∀ j u, [Value.slice aq pj.length cq][j]? = some u → (w1.alloc (.cells #[.slice aq pj.length cq] 24)).cell? ⟨w1.heap.size, 0 + j, none⟩ = some u) := fun j u hu => by
      rw [Nat.zero_add, cell_of_block hne1]
      rw [← hu]
      rw [← Array.getElem?_toList]
    have gal : Hid (w1.grownBy (w1.alloc (.cells #[.slice aq pj.length cq] 24)) none) := World.grownBy_alloc _ _ _
    go_wp2_with (at_builtin; go_loud (refine wpl_catP rfl (.tmp 41) (.tmp 43) 22 rfl wq.heap.size 24 i0 _ 1 24 Tryd.underlying22 hI.out.1 hI.out.2.1 hI.out.2.2.1 hI.out.2.2.2 rfl (by decide) (by decide) v1 _ _ rfl (own_keep O1.out gal.out (fun r e => by cases e)) (some ⟨w1.heap.size, 0, none⟩) 1 1 w1.heap.size 0 rfl ⟨Nat.le_refl _, by simp [maxLen], .inr rfl, fun h => by cases h⟩ [.slice aq pj.length cq] rfl CLX.out oneQ (by omega) (by omega) ?_))
    intro v2 w2 o2 g2
    have hz2 := g2.size
    have K2 : ∀ x, x < wq.heap.size → w2.heap[x]? = wq.heap[x]? := fun x hx => by
      rw [g2.block x (by omega) (fun e => by have := (hv1.out x e.symm).1; omega), gal.out.block x (by omega) (by simp), K1.out x hx]
    have KH := hmk K2
    have B2 : Hid (Below w.heap.size w w2) := (B1.out.grown gal.out (by omega) (fun r e => by cases e)).grown g2 (by omega) (fun r e => by have := (hv1.out r e).1; omega)
    have hv2 : Hid (∀ r, v2.ownBlock = some r → wq.heap.size ≤ r ∧ r < w2.heap.size) := fun r hr => o2.lt r hr
    have O2 := hmk o2
    clear o2 g2 K2 O1 B1 gal hne1
    go_wp2_with (at_builtin; go_loud (refine wpl_catP rfl (.tmp 45) (.tmp 48) 22 rfl wq.heap.size 24 i0 _ 1 24 Tryd.underlying22 hI.out.1 hI.out.2.1 hI.out.2.2.1 hI.out.2.2.2 rfl (by decide) (by decide) v2 _ _ rfl O2.out (some ⟨bl, ol + k, none⟩) (R.length - k) (cl - k) bl (ol + k) rfl ⟨by omega, by omega, .inr rfl, fun h => by cases h⟩ ((R.drop k).map PC.enc) (by rw [List.length_map, List.length_drop]; omega) (CL3.out w2 KH.out) enc_one (by omega) (by omega) ?_))
    intro v3 w3 o3 g3
    have hz3 := g3.size
    have B3 : Hid (Below w.heap.size w w3) := B2.out.grown g3 (by omega) (fun r e => by have := (hv2.out r e).1; omega)
    have O3 : Hid (w3.ownsRow w.heap.size 24 1 v3 (R.take k ++ [X] ++ R.drop k).length ((R.take k ++ [X] ++ R.drop k).map PC.enc)) := by
      have := own_base o3 (show w.heap.size ≤ wq.heap.size by omega)
      have e1 : (R.take k ++ [X] ++ R.drop k).length = 0 + k + 1 + (R.length - k) := by simp [List.length_take, List.length_drop]; omega
      have e2 : (R.take k ++ [X] ++ R.drop k).map PC.enc = [] ++ (R.take k).map PC.enc ++ [.slice aq pj.length cq] ++ (R.drop k).map PC.enc := by simp [HX.out.2]
      show World.ownsRow _ _ _ _ _ _ _
      rw [e1, e2]
      first
      | exact this
      | simpa [List.map_take, List.map_drop] using this
    have HRS2 : Hid (Rs (L ++ [pj]) ((R.take k ++ [X] ++ R.drop k).map PC.p)) := by
      show Rs _ _
      have := INSP.out
      simpa [List.map_take, List.map_drop, HX.out.1] using this
    have hlen2 : (R.take k ++ [X] ++ R.drop k).length ≤ R.length + 1 := by simp only [List.length_append, List.length_take, List.length_drop, List.length_singleton]; omega
    obtain ⟨a3, c3, b3, o3', rfl, hrd⟩ := rdr_own O3.out hT
    have HRD := hmk hrd
    clear o3 g3 O2 B2 INSP KH O3 hrd
    generalize R.take k ++ [X] ++ R.drop k = RN at *
    go_wp2_with fail
    go_ret
    exact ⟨RN, _, _, _, _, rfl, HRD.out, HRS2.out, hlen2, B3.out⟩
end Go.Proofs.YtfbmmilphcnolaaDoor
