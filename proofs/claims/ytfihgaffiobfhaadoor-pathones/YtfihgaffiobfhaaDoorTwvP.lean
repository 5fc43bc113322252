import Derived.Test.YtfihgaffiobfhaaDoorG7
/- twinValue: the same value in memory of its own, down to the fourth level. -/
set_option linter.unusedSimpArgs false
set_option linter.unusedVariables false
namespace Go.Proofs.YtfihgaffiobfhaaDoor
open Go.RowKit
theorem set_other {w : World} {g o x : Nat} {u : Value} (h : x ≠ g) : (w.setCell ⟨g, o, none⟩ u).heap[x]? = w.heap[x]? := by
  simp [World.setCell, Array.getElem?_modify, Ne.symm h]
theorem size_set1 (w : World) (M i : Nat) (u : Value) : (w.setCell ⟨M, i, none⟩ u).heap.size = w.heap.size := by
  simp [World.setCell]
theorem headed_nil : Headed none ([] : List V).length 0 0 0 := ⟨Nat.le_refl _, by simp [maxLen], .inl rfl, fun _ => rfl⟩
theorem lies_S {W : World} {S : Nat → Prop} {k i : Int} {b : Bool} {s : ByteArray} {l : List V} {m : List Mem} {al am : Option Addr} {cl bl ol cm bm om nl nm : Nat} (hk : In64 k) (hi : In64 i) (hs : s.size ≤ maxLen) (hal : Headed al nl cl bl ol) (ham : Headed am nm cm bm om) (hl : liesL false W S l bl ol) (hm : liesM false W S m bm om) (e1 : nl = l.length := by rfl) (e2 : nm = m.length := by rfl) :
    (V.mk k b i s l m).lies false W S [.int .i64 k, .bool b, .int .i64 i, .string s, .slice al nl cl, .slice am nm cm] := by
  subst e1 e2
  rw [V.lies]
  exact ⟨al, cl, bl, ol, am, cm, bm, om, rfl, hk, hi, hs, hal, ham, hl, hm, fun h => by cases h⟩
theorem Below.set6 {B M : Nat} {a w : World} (h : Below B a w) (hM : B ≤ M) (i1 i2 i3 i4 i5 i6 : Nat) (u1 u2 u3 u4 u5 u6 : Value) :
    Below B a ((((((w.setCell ⟨M, i1, none⟩ u1).setCell ⟨M, i2, none⟩ u2).setCell ⟨M, i3, none⟩ u3).setCell ⟨M, i4, none⟩ u4).setCell ⟨M, i5, none⟩ u5).setCell ⟨M, i6, none⟩ u6) := by
  repeat (refine Below.setCell ?_ (by assumption) _)
  exact h
/-- six stores into a block where nothing of the value lies -/
theorem lies_set6T {w : World} {M : Nat} {T : Nat → Prop} {v : V} {cs : List Value} (h : v.lies false w T cs) (hM : ¬ T M) (i1 i2 i3 i4 i5 i6 : Nat) (u1 u2 u3 u4 u5 u6 : Value) :
    v.lies false ((((((w.setCell ⟨M, i1, none⟩ u1).setCell ⟨M, i2, none⟩ u2).setCell ⟨M, i3, none⟩ u3).setCell ⟨M, i4, none⟩ u4).setCell ⟨M, i5, none⟩ u5).setCell ⟨M, i6, none⟩ u6) T cs :=
  V.lies_keep (fun h => h) (fun x hx => by have : x ≠ M := (fun e => hM (e ▸ hx)); repeat (rw [set_other this])) (fun x hx => hx) _ h
theorem OwnR.set0 {α : Type} {E : α → World → (Nat → Prop) → List Value → Prop} {ty sz : Nat} (K : KeepE E) {w : World} {base B : Nat} {S : Nat → Prop} {v : Value} {l : List α} (h : OwnR E ty sz w base S v l) (hS : ¬ S B) (hv : v.ownBlock ≠ some B) (i : Nat) (u : Value) : OwnR E ty sz (w.setCell ⟨B, i, none⟩ u) base S v l :=
  h.keep K (grown_set1 w B i u) (fun r e => by cases e; exact ⟨hS, hv⟩)
/-- a row of one's own, as a list -/
theorem own_listL0 {w : World} {N : Nat} {S T : Nat → Prop} {v : Value} {l : List V} (h : OwnL false w N S v (l.map some)) (hT : ∀ b, S b → T b) (hv : ∀ g, v.ownBlock = some g → T g) : ∃ a c b o, v = .slice a l.length c ∧ Headed a l.length c b o ∧ liesL false w T l b o := by
  have h' := h
  obtain ⟨⟨xs, h1, h2⟩, h3⟩ := h'
  rcases h1.2 with ⟨rfl, e⟩ | ⟨g, cap, cur, rfl, _⟩
  · have e0 : l.length = 0 := by simpa using e
    have : l = [] := List.length_eq_zero_iff.1 e0
    subst this
    exact ⟨none, 0, 0, 0, rfl, headed_nil, by rw [liesL]; trivial⟩
  · have hle := h.le
    simp only [List.length_map] at hle ⊢
    refine ⟨_, cap, g, 0, rfl, ⟨hle.1, hle.2, .inr rfl, fun h => by cases h⟩, liesL_mk fun j hj => ⟨hv g rfl, ?_⟩⟩
    obtain ⟨cs, k1, k2⟩ := h.at (by simp) j (by simpa using hj)
    rw [List.getElem_map] at k2
    exact ⟨cs, k1, V.lies_keep (fun h => h) (fun _ _ => rfl) hT _ k2⟩
theorem own_listM0 {w : World} {N : Nat} {S T : Nat → Prop} {v : Value} {l : List Mem} (h : OwnM false w N S v (l.map some)) (hT : ∀ b, S b → T b) (hv : ∀ g, v.ownBlock = some g → T g) : ∃ a c b o, v = .slice a l.length c ∧ Headed a l.length c b o ∧ liesM false w T l b o := by
  have h' := h
  obtain ⟨⟨xs, h1, h2⟩, h3⟩ := h'
  rcases h1.2 with ⟨rfl, e⟩ | ⟨g, cap, cur, rfl, _⟩
  · have e0 : l.length = 0 := by simpa using e
    have : l = [] := List.length_eq_zero_iff.1 e0
    subst this
    exact ⟨none, 0, 0, 0, rfl, headed_nil, by rw [liesM]; trivial⟩
  · have hle := h.le
    simp only [List.length_map] at hle ⊢
    refine ⟨_, cap, g, 0, rfl, ⟨hle.1, hle.2, .inr rfl, fun h => by cases h⟩, liesM_mk fun j hj => ?_⟩
    obtain ⟨cs, k1, k2⟩ := h.at (by simp) j (by simpa using hj)
    rw [List.getElem_map] at k2
    obtain ⟨cs', rfl, hks, k3⟩ := k2
    exact ⟨hv g rfl, hks, cs', k1, V.lies_keep (fun h => h) (fun _ _ => rfl) hT _ k3⟩
/-- where a twin lies: where the value lay, or in new memory -/
def Tw (S : Nat → Prop) (w w' : World) (b : Nat) : Prop := S b ∨ (w.heap.size ≤ b ∧ b < w'.heap.size)
def TvPost (v : V) (S : Nat → Prop) (w : World) (e : Ending) (w' : World) : Prop := ∃ cs : List Value, e = .returned (.agg cs.toArray) ∧ v.lies false w' (Tw S w w') cs ∧ Below w.heap.size w w'
theorem six_of {w : World} {g : Nat} {c0 c1 c2 c3 c4 c5 : Value} {t : TypeId} {f : Nat × Nat} (h : w.heap[g]? = some (.cells #[c0, c1, c2, c3, c4, c5] t f)) :
    w.cell? ⟨g, 0, none⟩ = some c0 ∧ w.cell? ⟨g, 1, none⟩ = some c1 ∧ w.cell? ⟨g, 2, none⟩ = some c2 ∧ w.cell? ⟨g, 3, none⟩ = some c3 ∧ w.cell? ⟨g, 4, none⟩ = some c4 ∧ w.cell? ⟨g, 5, none⟩ = some c5 :=
  ⟨by rw [cell_of_block h]; rfl, by rw [cell_of_block h]; rfl, by rw [cell_of_block h]; rfl, by rw [cell_of_block h]; rfl, by rw [cell_of_block h]; rfl, by rw [cell_of_block h]; rfl⟩
theorem grown_set6 (w : World) (g : Nat) (u0 u1 u2 u3 u4 u5 : Value) : w.grownBy ((((((w.setCell ⟨g, 0, none⟩ u0).setCell ⟨g, 1, none⟩ u1).setCell ⟨g, 2, none⟩ u2).setCell ⟨g, 3, none⟩ u3).setCell ⟨g, 4, none⟩ u4).setCell ⟨g, 5, none⟩ u5) (some g) :=
  grown_set (grown_set (grown_set (grown_set (grown_set (grown_set (World.grownBy.refl _ _) _ _) _ _) _ _) _ _) _ _) _ _
theorem set6_block {w : World} {g : Nat} {c0 c1 c2 c3 c4 c5 : Value} {t : TypeId} {f : Nat × Nat} (h : w.heap[g]? = some (.cells #[c0, c1, c2, c3, c4, c5] t f)) (u0 u1 u2 u3 u4 u5 : Value) :
    ((((((w.setCell ⟨g, 0, none⟩ u0).setCell ⟨g, 1, none⟩ u1).setCell ⟨g, 2, none⟩ u2).setCell ⟨g, 3, none⟩ u3).setCell ⟨g, 4, none⟩ u4).setCell ⟨g, 5, none⟩ u5).heap[g]? = some (.cells #[u0, u1, u2, u3, u4, u5] t f) := by
  rw [set_block (set_block (set_block (set_block (set_block (set_block h 0 u0) 1 u1) 2 u2) 3 u3) 4 u4) 5 u5]
  rfl
set_option maxHeartbeats 8000000 in
set_option maxRecDepth 100000 in
theorem twv_any (v : V) : ∀ (lv : Int) (S : Nat → Prop) (cs : List Value) (w : World), 0 ≤ lv → lv ≤ 3 → v.lies false w S cs → (∀ b, S b → b < w.heap.size) → v.wt ≤ 2147483648 →
    Calls Tryd.prog 15 #[.agg cs.toArray, .int .i64 lv] w (TvPost v S w) := by
  induction v using V.ind_v with
  | h k b i s l m ihl ihm =>
  intro lv S cs w hv0 hv1 hl hS hwt
  rw [V.lies] at hl
  obtain ⟨al, cl, bl, ol, am, cm, bm, om, rfl, hk, hi, hs, hal, ham, hl1, hm1, _⟩ := hl
  have HL := hmk hl1
  have HM := hmk hm1
  have HS : Hid (∀ b, S b → b < w.heap.size) := hS
  clear hl1 hm1
  rw [V.wt] at hwt
  have hlm := wtL_len l
  have hmm := wtM_len m
  obtain ⟨i0, hi0, hz0, hz1, hz2⟩ := info_parts info25
  obtain ⟨i1, hi1, hy0, hy1, hy2⟩ := info_parts info44
  have hI : Hid (Tryd.prog.info? 32 = some i0 ∧ i0.zero = some (.agg #[.int .i64 0, .bool false, .int .i64 0, .string ⟨#[]⟩, .slice none 0 0, .slice none 0 0]) ∧ i0.size = 6 ∧ i0.bytes = 88) := ⟨hi0, hz0, hz1, hz2⟩
  have hJ : Hid (Tryd.prog.info? 44 = some i1 ∧ i1.zero = some (.agg #[.string ⟨#[]⟩, .int .i64 0, .bool false, .int .i64 0, .string ⟨#[]⟩, .slice none 0 0, .slice none 0 0]) ∧ i1.size = 7 ∧ i1.bytes = 104) := ⟨hi1, hy0, hy1, hy2⟩
  clear hi0 hz0 hz1 hz2 hi1 hy0 hy1 hy2
  have t0 : TwF w #[.int .i64 k, .bool b, .int .i64 i, .string s, .slice al l.length cl, .slice am m.length cm] #[.int .i64 k, .bool b, .int .i64 i, .string s, .slice none 0 0, .slice none 0 0] (((w.alloc (.cells #[.int .i64 k, .bool b, .int .i64 i, .string s, .slice al l.length cl, .slice am m.length cm] 32)).alloc (.cells #[.int .i64 0, .bool false, .int .i64 0, .string ⟨#[]⟩, .slice none 0 0, .slice none 0 0] 32)).alloc (.cells #[.int .i64 k, .bool b, .int .i64 i, .string s, .slice none 0 0, .slice none 0 0] 32)) := ⟨three_below w _ _ _, (three_allocs w _ _ _).1, (three_allocs w _ _ _).2.1, (three_allocs w _ _ _).2.2⟩
  go_enter Tryd.func15, Tryd.ntmps15
  go_wp2_with fail
  go_loopw [6] (fun e wr => ∃ (j : Nat) (slv : Value) (SL : Nat → Prop), j ≤ l.length ∧ e = .int .i64 (j : Int) ∧ TwF w #[.int .i64 k, .bool b, .int .i64 i, .string s, .slice al l.length cl, .slice am m.length cm] #[.int .i64 k, .bool b, .int .i64 i, .string s, slv, .slice none 0 0] wr ∧ OwnL false wr 0 SL slv ((l.map some).take j) ∧ Hid (∀ r, slv.ownBlock = some r → w.heap.size + 3 ≤ r) ∧ Hid (∀ b, SL b → S b ∨ w.heap.size + 3 ≤ b)) (fun e _ => l.length - (RowKit.intOf e).toNat)
  case atStart => exact ⟨0, _, _, by omega, rfl, t0, by simpa using OwnR.nil _ _, fun r h => by simp [Value.ownBlock] at h, fun b (h : False) => h.elim⟩
  case round =>
    clear t0
    obtain ⟨j, slv, SL, hj, rfl, tj, oj, HO, HSL⟩ := hrel
    have d4 : wr.cell? ⟨w.heap.size, 4, none⟩ = some (.slice al l.length cl) := by rw [cell_of_block tj.b0]; rfl
    have d5 : wr.cell? ⟨w.heap.size, 5, none⟩ = some (.slice am m.length cm) := by rw [cell_of_block tj.b0]; rfl
    by_cases hjl : j < l.length
    · have y3 : (j : Int) < l.length := by omega
      obtain ⟨hSb, csj, hrow, hlj⟩ := liesL_get HL.out j hjl
      obtain rfl : al = some ⟨bl, ol, none⟩ := hal.at_.resolve_left (by omega)
      have hkw : ∀ b, S b → wr.heap[b]? = w.heap[b]? := fun b hb => tj.below.block b (hS b hb)
      have hrow' := hrow.keep (hkw _ hSb)
      have hlj' := V.lies_keep (R' := false) (S' := S) (fun h => h) hkw (fun _ h => h) _ hlj
      have hwj : (l[j]).wt ≤ 2147483648 := by have := wtL_mem (List.getElem_mem hjl); omega
      have hwr : w.heap.size + 3 ≤ wr.heap.size := tj.lt
      have HT : Hid ((l.map some).take (j + 1) = (l.map some).take j ++ [some l[j]]) := by show _ = _; rw [List.take_succ_eq_append_getElem (by simpa using hjl), List.getElem_map]
      obtain ⟨ek, eb, ei, es, eal, enl, ecl, eam, enm, ecm, rfl⟩ := V.ten hlj'
      have IH : Hid (lv < 3 → Calls Tryd.prog 15 #[.agg #[.int .i64 ek, .bool eb, .int .i64 ei, .string es, .slice eal enl ecl, .slice eam enm ecm], .int .i64 (lv + 1)] (wr.alloc (.cells #[.int .i64 ek, .bool eb, .int .i64 ei, .string es, .slice eal enl ecl, .slice eam enm ecm] 32)) (TvPost l[j] S (wr.alloc (.cells #[.int .i64 ek, .bool eb, .int .i64 ei, .string es, .slice eal enl ecl, .slice eam enm ecm] 32)))) := fun h3 =>
        ihl l[j] (List.getElem_mem hjl) (lv + 1) S _ (wr.alloc (.cells #[.int .i64 ek, .bool eb, .int .i64 ei, .string es, .slice eal enl ecl, .slice eam enm ecm] 32)) (by omega) (by omega) (V.lies_keep (fun h => h) (fun x hx => Below.heap_alloc _ _ x (by have := hS x hx; omega)) (fun _ h => h) _ hlj') (fun b hb => by rw [alloc_size]; have := hS b hb; omega) hwj
      obtain ⟨q0, q1, q2, q3, q4, q5⟩ := row6 hrow'
      have hll : ((l.map some).take j).length = j := by simp; omega
      obtain ⟨xv, hxv⟩ : ∃ xv, l[j] = xv := ⟨_, rfl⟩
      rw [hxv] at IH HT hlj'
      have HXV := hmk hlj'
      clear hlj hrow hrow' hlj' hxv hwj
      by_cases hlv : lv < 3
      · have y2 : lv < 3 := hlv
        go_wp2_with fail
        refine (IH.out hlv).mono ?_
        rintro e w2 ⟨csu, rfl, hx2, bl2⟩
        obtain ⟨uk, ub, ui, us, ual, unl, ucl, uam, unm, ucm, rfl⟩ := V.ten hx2
        have hzb : (wr.alloc (.cells #[.int .i64 ek, .bool eb, .int .i64 ei, .string es, .slice eal enl ecl, .slice eam enm ecm] 32)).heap.size = wr.heap.size + 1 := alloc_size _ _
        have hz2 := bl2.size
        have hb2 : w2.heap[wr.heap.size]? = some (.cells #[.int .i64 ek, .bool eb, .int .i64 ei, .string es, .slice eal enl ecl, .slice eam enm ecm] 32 (0, 0)) := (bl2.block _ (by omega)).trans (heap_alloc_new wr _)
        have gS := grown_set6 w2 wr.heap.size (.int .i64 uk) (.bool ub) (.int .i64 ui) (.string us) (.slice ual unl ucl) (.slice uam unm ucm)
        have hzs : ((((((w2.setCell ⟨wr.heap.size, 0, none⟩ (.int .i64 uk)).setCell ⟨wr.heap.size, 1, none⟩ (.bool ub)).setCell ⟨wr.heap.size, 2, none⟩ (.int .i64 ui)).setCell ⟨wr.heap.size, 3, none⟩ (.string us)).setCell ⟨wr.heap.size, 4, none⟩ (.slice ual unl ucl)).setCell ⟨wr.heap.size, 5, none⟩ (.slice uam unm ucm)).heap.size = w2.heap.size := by simp only [size_set1]
        have hg3 := set6_block hb2 (.int .i64 uk) (.bool ub) (.int .i64 ui) (.string us) (.slice ual unl ucl) (.slice uam unm ucm)
        have t3 := ((tj.grown (World.grownBy_alloc wr (.cells #[.int .i64 ek, .bool eb, .int .i64 ei, .string es, .slice eal enl ecl, .slice eam enm ecm] 32) none) (fun r e => by cases e)).grown (grown_of_below bl2) (fun r e => by cases e)).grown gS (fun r e => by cases e; exact hwr)
        have o3 := ((oj.alloc (keepL false) (.cells #[.int .i64 ek, .bool eb, .int .i64 ei, .string es, .slice eal enl ecl, .slice eam enm ecm] 32)).below (keepL false) bl2).keep (keepL false) gS (fun r e => by cases e; exact ⟨fun h => by have := (oj.off _ h).2.1; omega, fun h => by have := (oj.lt h).2; omega⟩)
        have hx3 : xv.lies false ((((((w2.setCell ⟨wr.heap.size, 0, none⟩ (.int .i64 uk)).setCell ⟨wr.heap.size, 1, none⟩ (.bool ub)).setCell ⟨wr.heap.size, 2, none⟩ (.int .i64 ui)).setCell ⟨wr.heap.size, 3, none⟩ (.string us)).setCell ⟨wr.heap.size, 4, none⟩ (.slice ual unl ucl)).setCell ⟨wr.heap.size, 5, none⟩ (.slice uam unm ucm)) (Tw S wr ((((((w2.setCell ⟨wr.heap.size, 0, none⟩ (.int .i64 uk)).setCell ⟨wr.heap.size, 1, none⟩ (.bool ub)).setCell ⟨wr.heap.size, 2, none⟩ (.int .i64 ui)).setCell ⟨wr.heap.size, 3, none⟩ (.string us)).setCell ⟨wr.heap.size, 4, none⟩ (.slice ual unl ucl)).setCell ⟨wr.heap.size, 5, none⟩ (.slice uam unm ucm))) [.int .i64 uk, .bool ub, .int .i64 ui, .string us, .slice ual unl ucl, .slice uam unm ucm] := V.lies_keep (fun h => h) (fun x hx => gS.block x (hx.elim (fun h => by have := HS.out x h; omega) (fun h => h.2)) (fun e => by have := Option.some.inj e; exact hx.elim (fun h => by have := HS.out x h; omega) (fun h => by have := h.1; omega))) (fun x hx => hx.imp id (fun h => ⟨by have := h.1; omega, by rw [hzs]; exact h.2⟩)) _ hx2
        obtain ⟨b0, b1, b2', b3, b4, b5⟩ := six_of hb2
        have bf : ∀ i, w2.frozen? ⟨wr.heap.size, i, none⟩ = false := frozen_of_block hb2
        clear hb2 gS
        have hown : ∀ r, slv.ownBlock = some r → w.heap.size + 3 ≤ r ∧ r < wr.heap.size := fun r hr => ⟨HO.out r hr, (oj.lt hr).2⟩
        have hw3 : w.heap.size + 3 ≤ ((((((w2.setCell ⟨wr.heap.size, 0, none⟩ (.int .i64 uk)).setCell ⟨wr.heap.size, 1, none⟩ (.bool ub)).setCell ⟨wr.heap.size, 2, none⟩ (.int .i64 ui)).setCell ⟨wr.heap.size, 3, none⟩ (.string us)).setCell ⟨wr.heap.size, 4, none⟩ (.slice ual unl ucl)).setCell ⟨wr.heap.size, 5, none⟩ (.slice uam unm ucm)).heap.size := t3.lt
        have HKk : Hid (∀ b, Tw S wr ((((((w2.setCell ⟨wr.heap.size, 0, none⟩ (.int .i64 uk)).setCell ⟨wr.heap.size, 1, none⟩ (.bool ub)).setCell ⟨wr.heap.size, 2, none⟩ (.int .i64 ui)).setCell ⟨wr.heap.size, 3, none⟩ (.string us)).setCell ⟨wr.heap.size, 4, none⟩ (.slice ual unl ucl)).setCell ⟨wr.heap.size, 5, none⟩ (.slice uam unm ucm)) b → 0 ≤ b ∧ b < ((((((w2.setCell ⟨wr.heap.size, 0, none⟩ (.int .i64 uk)).setCell ⟨wr.heap.size, 1, none⟩ (.bool ub)).setCell ⟨wr.heap.size, 2, none⟩ (.int .i64 ui)).setCell ⟨wr.heap.size, 3, none⟩ (.string us)).setCell ⟨wr.heap.size, 4, none⟩ (.slice ual unl ucl)).setCell ⟨wr.heap.size, 5, none⟩ (.slice uam unm ucm)).heap.size ∧ some b ≠ slv.ownBlock) := fun b hb => by
          rcases hb with hb | hb
          · have := HS.out b hb
            exact ⟨Nat.zero_le _, by omega, fun e => by have := (hown b e.symm).1; omega⟩
          · exact ⟨Nat.zero_le _, hb.2, fun e => by have := (hown b e.symm).2; omega⟩
        have e4 : ((((((w2.setCell ⟨wr.heap.size, 0, none⟩ (.int .i64 uk)).setCell ⟨wr.heap.size, 1, none⟩ (.bool ub)).setCell ⟨wr.heap.size, 2, none⟩ (.int .i64 ui)).setCell ⟨wr.heap.size, 3, none⟩ (.string us)).setCell ⟨wr.heap.size, 4, none⟩ (.slice ual unl ucl)).setCell ⟨wr.heap.size, 5, none⟩ (.slice uam unm ucm)).cell? ⟨w.heap.size + 1 + 1, 4, none⟩ = some slv := by rw [cell_of_block t3.b2]; rfl
        obtain ⟨v0, v1, v2, v3, v4, v5⟩ : ((((((w2.setCell ⟨wr.heap.size, 0, none⟩ (.int .i64 uk)).setCell ⟨wr.heap.size, 1, none⟩ (.bool ub)).setCell ⟨wr.heap.size, 2, none⟩ (.int .i64 ui)).setCell ⟨wr.heap.size, 3, none⟩ (.string us)).setCell ⟨wr.heap.size, 4, none⟩ (.slice ual unl ucl)).setCell ⟨wr.heap.size, 5, none⟩ (.slice uam unm ucm)).cell? ⟨wr.heap.size, 0, none⟩ = _ ∧ ((((((w2.setCell ⟨wr.heap.size, 0, none⟩ (.int .i64 uk)).setCell ⟨wr.heap.size, 1, none⟩ (.bool ub)).setCell ⟨wr.heap.size, 2, none⟩ (.int .i64 ui)).setCell ⟨wr.heap.size, 3, none⟩ (.string us)).setCell ⟨wr.heap.size, 4, none⟩ (.slice ual unl ucl)).setCell ⟨wr.heap.size, 5, none⟩ (.slice uam unm ucm)).cell? ⟨wr.heap.size, 1, none⟩ = _ ∧ ((((((w2.setCell ⟨wr.heap.size, 0, none⟩ (.int .i64 uk)).setCell ⟨wr.heap.size, 1, none⟩ (.bool ub)).setCell ⟨wr.heap.size, 2, none⟩ (.int .i64 ui)).setCell ⟨wr.heap.size, 3, none⟩ (.string us)).setCell ⟨wr.heap.size, 4, none⟩ (.slice ual unl ucl)).setCell ⟨wr.heap.size, 5, none⟩ (.slice uam unm ucm)).cell? ⟨wr.heap.size, 2, none⟩ = _ ∧ ((((((w2.setCell ⟨wr.heap.size, 0, none⟩ (.int .i64 uk)).setCell ⟨wr.heap.size, 1, none⟩ (.bool ub)).setCell ⟨wr.heap.size, 2, none⟩ (.int .i64 ui)).setCell ⟨wr.heap.size, 3, none⟩ (.string us)).setCell ⟨wr.heap.size, 4, none⟩ (.slice ual unl ucl)).setCell ⟨wr.heap.size, 5, none⟩ (.slice uam unm ucm)).cell? ⟨wr.heap.size, 3, none⟩ = _ ∧ ((((((w2.setCell ⟨wr.heap.size, 0, none⟩ (.int .i64 uk)).setCell ⟨wr.heap.size, 1, none⟩ (.bool ub)).setCell ⟨wr.heap.size, 2, none⟩ (.int .i64 ui)).setCell ⟨wr.heap.size, 3, none⟩ (.string us)).setCell ⟨wr.heap.size, 4, none⟩ (.slice ual unl ucl)).setCell ⟨wr.heap.size, 5, none⟩ (.slice uam unm ucm)).cell? ⟨wr.heap.size, 4, none⟩ = _ ∧ ((((((w2.setCell ⟨wr.heap.size, 0, none⟩ (.int .i64 uk)).setCell ⟨wr.heap.size, 1, none⟩ (.bool ub)).setCell ⟨wr.heap.size, 2, none⟩ (.int .i64 ui)).setCell ⟨wr.heap.size, 3, none⟩ (.string us)).setCell ⟨wr.heap.size, 4, none⟩ (.slice ual unl ucl)).setCell ⟨wr.heap.size, 5, none⟩ (.slice uam unm ucm)).cell? ⟨wr.heap.size, 5, none⟩ = _ := six_of hg3
        have HX := hmk hx3
        have HT3 := hmk t3
        have HO3 := hmk o3
        clear hx3 t3 o3
        go_wp2_with (at_builtin; go_loud (refine wpl_push (keepL false) _ rfl (.tmp 32) (.tmp 34) 30 rfl 0 i0 _ 88 Tryd.underlying30 hI.out.1 hI.out.2.1 hI.out.2.2.1 hI.out.2.2.2 rfl (by decide) (by decide) slv (some xv) rfl (HO3.out.alloc (keepL false) _) w2.heap.size 1 (0, 0) rfl (by rw [← hzs]; exact heap_alloc_new _ _) rfl one6 (keepL false _ _ _ _ _ _ (fun b hb => Below.heap_alloc _ _ b (HKk.out b hb).2.1) (fun _ h => h) HX.out) (fun b hb => ⟨(HKk.out b hb).1, by rw [alloc_size]; have := (HKk.out b hb).2.1; omega, (HKk.out b hb).2.2⟩) (by rw [hll]; omega) (Nat.zero_le _) ?_))
        intro g cap w5 o5 g5 e5
        have t5 := (HT3.out.grown (World.grownBy_alloc _ _ none) (fun r e => by cases e)).grown g5 (fun r e => (hown r e).1)
        have hg : w.heap.size + 3 ≤ g := by
          rcases e5 with e | e
          · exact (hown g e).1
          · (try rw [alloc_size] at e); omega
        have HS5 : Hid (∀ b, SL b ∨ Tw S wr ((((((w2.setCell ⟨wr.heap.size, 0, none⟩ (.int .i64 uk)).setCell ⟨wr.heap.size, 1, none⟩ (.bool ub)).setCell ⟨wr.heap.size, 2, none⟩ (.int .i64 ui)).setCell ⟨wr.heap.size, 3, none⟩ (.string us)).setCell ⟨wr.heap.size, 4, none⟩ (.slice ual unl ucl)).setCell ⟨wr.heap.size, 5, none⟩ (.slice uam unm ucm)) b → S b ∨ w.heap.size + 3 ≤ b) := fun b hb => by
          rcases hb with hb | hb | hb
          · exact HSL.out b hb
          · exact .inl hb
          · exact .inr (by have := hb.1; omega)
        have HN5 : Hid (¬ (SL (w.heap.size + 1 + 1) ∨ Tw S wr ((((((w2.setCell ⟨wr.heap.size, 0, none⟩ (.int .i64 uk)).setCell ⟨wr.heap.size, 1, none⟩ (.bool ub)).setCell ⟨wr.heap.size, 2, none⟩ (.int .i64 ui)).setCell ⟨wr.heap.size, 3, none⟩ (.string us)).setCell ⟨wr.heap.size, 4, none⟩ (.slice ual unl ucl)).setCell ⟨wr.heap.size, 5, none⟩ (.slice uam unm ucm)) (w.heap.size + 1 + 1))) := fun hb => by
          rcases HS5.out _ hb with h | h
          · have := HS.out _ h; omega
          · omega
        have e6 : w5.cell? ⟨w.heap.size + 1 + 1, 4, none⟩ = some slv := by rw [cell_of_block t5.b2]; rfl
        have e7 : w5.frozen? ⟨w.heap.size + 1 + 1, 4, none⟩ = false := frozen_of_block t5.b2 4
        go_wp2_with fail
        go_roundw
        case rel => exact ⟨j + 1, _, _, by omega, by go_num, t5.set 4 _ rfl, by rw [HT.out]; exact o5.set0 (keepL false) HN5.out (fun e => by simp [Value.ownBlock] at e; omega) _ _, fun r e => by (simp [Value.ownBlock] at e; omega), HS5.out⟩
        case measure => simp [RowKit.intOf]; omega
      · have y2 : ¬ lv < 3 := hlv
        have hzb : (wr.alloc (.cells #[.int .i64 ek, .bool eb, .int .i64 ei, .string es, .slice eal enl ecl, .slice eam enm ecm] 32)).heap.size = wr.heap.size + 1 := alloc_size _ _
        have hg3 := heap_alloc_new wr (.cells #[.int .i64 ek, .bool eb, .int .i64 ei, .string es, .slice eal enl ecl, .slice eam enm ecm] 32)
        have t3 := tj.grown (World.grownBy_alloc wr (.cells #[.int .i64 ek, .bool eb, .int .i64 ei, .string es, .slice eal enl ecl, .slice eam enm ecm] 32) none) (fun r e => by cases e)
        have o3 := oj.alloc (keepL false) (.cells #[.int .i64 ek, .bool eb, .int .i64 ei, .string es, .slice eal enl ecl, .slice eam enm ecm] 32)
        have hx3 : xv.lies false (wr.alloc (.cells #[.int .i64 ek, .bool eb, .int .i64 ei, .string es, .slice eal enl ecl, .slice eam enm ecm] 32)) (Tw S wr (wr.alloc (.cells #[.int .i64 ek, .bool eb, .int .i64 ei, .string es, .slice eal enl ecl, .slice eam enm ecm] 32))) [.int .i64 ek, .bool eb, .int .i64 ei, .string es, .slice eal enl ecl, .slice eam enm ecm] := V.lies_keep (fun h => h) (fun x hx => Below.heap_alloc _ _ x (by have := HS.out x hx; omega)) (fun x hx => .inl hx) _ HXV.out
        have hown : ∀ r, slv.ownBlock = some r → w.heap.size + 3 ≤ r ∧ r < wr.heap.size := fun r hr => ⟨HO.out r hr, (oj.lt hr).2⟩
        have hw3 : w.heap.size + 3 ≤ (wr.alloc (.cells #[.int .i64 ek, .bool eb, .int .i64 ei, .string es, .slice eal enl ecl, .slice eam enm ecm] 32)).heap.size := t3.lt
        have HKk : Hid (∀ b, Tw S wr (wr.alloc (.cells #[.int .i64 ek, .bool eb, .int .i64 ei, .string es, .slice eal enl ecl, .slice eam enm ecm] 32)) b → 0 ≤ b ∧ b < (wr.alloc (.cells #[.int .i64 ek, .bool eb, .int .i64 ei, .string es, .slice eal enl ecl, .slice eam enm ecm] 32)).heap.size ∧ some b ≠ slv.ownBlock) := fun b hb => by
          rcases hb with hb | hb
          · have := HS.out b hb
            exact ⟨Nat.zero_le _, by omega, fun e => by have := (hown b e.symm).1; omega⟩
          · exact ⟨Nat.zero_le _, hb.2, fun e => by have := (hown b e.symm).2; omega⟩
        have e4 : (wr.alloc (.cells #[.int .i64 ek, .bool eb, .int .i64 ei, .string es, .slice eal enl ecl, .slice eam enm ecm] 32)).cell? ⟨w.heap.size + 1 + 1, 4, none⟩ = some slv := by rw [cell_of_block t3.b2]; rfl
        obtain ⟨v0, v1, v2, v3, v4, v5⟩ : (wr.alloc (.cells #[.int .i64 ek, .bool eb, .int .i64 ei, .string es, .slice eal enl ecl, .slice eam enm ecm] 32)).cell? ⟨wr.heap.size, 0, none⟩ = _ ∧ (wr.alloc (.cells #[.int .i64 ek, .bool eb, .int .i64 ei, .string es, .slice eal enl ecl, .slice eam enm ecm] 32)).cell? ⟨wr.heap.size, 1, none⟩ = _ ∧ (wr.alloc (.cells #[.int .i64 ek, .bool eb, .int .i64 ei, .string es, .slice eal enl ecl, .slice eam enm ecm] 32)).cell? ⟨wr.heap.size, 2, none⟩ = _ ∧ (wr.alloc (.cells #[.int .i64 ek, .bool eb, .int .i64 ei, .string es, .slice eal enl ecl, .slice eam enm ecm] 32)).cell? ⟨wr.heap.size, 3, none⟩ = _ ∧ (wr.alloc (.cells #[.int .i64 ek, .bool eb, .int .i64 ei, .string es, .slice eal enl ecl, .slice eam enm ecm] 32)).cell? ⟨wr.heap.size, 4, none⟩ = _ ∧ (wr.alloc (.cells #[.int .i64 ek, .bool eb, .int .i64 ei, .string es, .slice eal enl ecl, .slice eam enm ecm] 32)).cell? ⟨wr.heap.size, 5, none⟩ = _ := six_of hg3
        have HX := hmk hx3
        have HT3 := hmk t3
        have HO3 := hmk o3
        clear hx3 t3 o3
        go_wp2_with (at_builtin; go_loud (refine wpl_push (keepL false) _ rfl (.tmp 32) (.tmp 34) 30 rfl 0 i0 _ 88 Tryd.underlying30 hI.out.1 hI.out.2.1 hI.out.2.2.1 hI.out.2.2.2 rfl (by decide) (by decide) slv (some xv) rfl (HO3.out.alloc (keepL false) _) (wr.heap.size + 1) 1 (0, 0) rfl (alloc2_new wr _ _) rfl one6 (keepL false _ _ _ _ _ _ (fun b hb => Below.heap_alloc _ _ b (HKk.out b hb).2.1) (fun _ h => h) HX.out) (fun b hb => ⟨(HKk.out b hb).1, by rw [alloc_size]; have := (HKk.out b hb).2.1; omega, (HKk.out b hb).2.2⟩) (by rw [hll]; omega) (Nat.zero_le _) ?_))
        intro g cap w5 o5 g5 e5
        have t5 := (HT3.out.grown (World.grownBy_alloc _ _ none) (fun r e => by cases e)).grown g5 (fun r e => (hown r e).1)
        have hg : w.heap.size + 3 ≤ g := by
          rcases e5 with e | e
          · exact (hown g e).1
          · (try rw [alloc_size] at e); omega
        have HS5 : Hid (∀ b, SL b ∨ Tw S wr (wr.alloc (.cells #[.int .i64 ek, .bool eb, .int .i64 ei, .string es, .slice eal enl ecl, .slice eam enm ecm] 32)) b → S b ∨ w.heap.size + 3 ≤ b) := fun b hb => by
          rcases hb with hb | hb | hb
          · exact HSL.out b hb
          · exact .inl hb
          · exact .inr (by have := hb.1; omega)
        have HN5 : Hid (¬ (SL (w.heap.size + 1 + 1) ∨ Tw S wr (wr.alloc (.cells #[.int .i64 ek, .bool eb, .int .i64 ei, .string es, .slice eal enl ecl, .slice eam enm ecm] 32)) (w.heap.size + 1 + 1))) := fun hb => by
          rcases HS5.out _ hb with h | h
          · have := HS.out _ h; omega
          · omega
        have e6 : w5.cell? ⟨w.heap.size + 1 + 1, 4, none⟩ = some slv := by rw [cell_of_block t5.b2]; rfl
        have e7 : w5.frozen? ⟨w.heap.size + 1 + 1, 4, none⟩ = false := frozen_of_block t5.b2 4
        go_wp2_with fail
        go_roundw
        case rel => exact ⟨j + 1, _, _, by omega, by go_num, t5.set 4 _ rfl, by rw [HT.out]; exact o5.set0 (keepL false) HN5.out (fun e => by simp [Value.ownBlock] at e; omega) _ _, fun r e => by (simp [Value.ownBlock] at e; omega), HS5.out⟩
        case measure => simp [RowKit.intOf]; omega
    · obtain rfl : j = l.length := by omega
      have hlt : (l.map some).take l.length = l.map some := by rw [List.take_of_length_le (by simp)]
      rw [hlt] at oj
      clear hlt
      have y3 : ¬ (l.length : Int) < l.length := by omega
      rename World => wA
      have hownl : ∀ r, slv.ownBlock = some r → w.heap.size + 3 ≤ r ∧ r < wA.heap.size := fun r hr => ⟨HO.out r hr, (oj.lt hr).2⟩
      have hSl := oj.off
      have hA := tj.lt
      have bA := tj.below
      go_wp2_with fail
      go_loopw [8] (fun e wq => ∃ (j : Nat) (smv : Value) (SM : Nat → Prop), j ≤ m.length ∧ e = .int .i64 (j : Int) ∧ TwF w #[.int .i64 k, .bool b, .int .i64 i, .string s, .slice al l.length cl, .slice am m.length cm] #[.int .i64 k, .bool b, .int .i64 i, .string s, slv, smv] wq ∧ wA.heap.size ≤ wq.heap.size ∧ OwnL false wq 0 SL slv (l.map some) ∧ OwnM false wq 0 SM smv ((m.map some).take j) ∧ Hid (∀ r, smv.ownBlock = some r → wA.heap.size ≤ r) ∧ Hid (∀ b, SM b → S b ∨ wA.heap.size ≤ b)) (fun e _ => m.length - (RowKit.intOf e).toNat)
      case atStart => exact ⟨0, _, _, by omega, rfl, tj, Nat.le_refl _, oj, by simpa using OwnR.nil _ _, fun r h => by simp [Value.ownBlock] at h, fun b (h : False) => h.elim⟩
      case round =>
        clear tj oj d4 d5
        obtain ⟨j, smv, SM, hj, rfl, tj, bq, oL, oj, HOM, HSM⟩ := hrel
        have d4 : wr.cell? ⟨w.heap.size, 4, none⟩ = some (.slice al l.length cl) := by rw [cell_of_block tj.b0]; rfl
        have d5 : wr.cell? ⟨w.heap.size, 5, none⟩ = some (.slice am m.length cm) := by rw [cell_of_block tj.b0]; rfl
        by_cases hjl : j < m.length
        · have y4 : (j : Int) < m.length := by omega
          obtain ⟨hSb, hks, csj, hrow, hlj⟩ := liesM_get HM.out j hjl
          obtain rfl : am = some ⟨bm, om, none⟩ := ham.at_.resolve_left (by omega)
          have hkw : ∀ b, S b → wr.heap[b]? = w.heap[b]? := fun b hb => tj.below.block b (hS b hb)
          have hrow' := hrow.keep (hkw _ hSb)
          have hlj' := V.lies_keep (R' := false) (S' := S) (fun h => h) hkw (fun _ h => h) _ hlj
          have hwj : (m[j]).2.wt ≤ 2147483648 := by have := wtM_mem (List.getElem_mem hjl); omega
          have hwr : w.heap.size + 3 ≤ wr.heap.size := tj.lt
          have HT : Hid ((m.map some).take (j + 1) = (m.map some).take j ++ [some m[j]]) := by show _ = _; rw [List.take_succ_eq_append_getElem (by simpa using hjl), List.getElem_map]
          obtain ⟨ek, eb, ei, es, eal, enl, ecl, eam, enm, ecm, rfl⟩ := V.ten hlj'
          have IH : Hid (lv < 3 → Calls Tryd.prog 15 #[.agg #[.int .i64 ek, .bool eb, .int .i64 ei, .string es, .slice eal enl ecl, .slice eam enm ecm], .int .i64 (lv + 1)] (wr.alloc (.cells #[.int .i64 ek, .bool eb, .int .i64 ei, .string es, .slice eal enl ecl, .slice eam enm ecm] 32)) (TvPost (m[j]).2 S (wr.alloc (.cells #[.int .i64 ek, .bool eb, .int .i64 ei, .string es, .slice eal enl ecl, .slice eam enm ecm] 32)))) := fun h3 =>
            ihm m[j] (List.getElem_mem hjl) (lv + 1) S _ (wr.alloc (.cells #[.int .i64 ek, .bool eb, .int .i64 ei, .string es, .slice eal enl ecl, .slice eam enm ecm] 32)) (by omega) (by omega) (V.lies_keep (fun h => h) (fun x hx => Below.heap_alloc _ _ x (by have := hS x hx; omega)) (fun _ h => h) _ hlj') (fun b hb => by rw [alloc_size]; have := hS b hb; omega) hwj
          rcases hxj : m[j] with ⟨key, xv⟩
          rw [hxj] at IH HT hks hrow' hlj'
          have HXV := hmk hlj'
          obtain ⟨q, q0, q1, q2, q3, q4, q5⟩ := row7 hrow'
          have hll : ((m.map some).take j).length = j := by simp; omega
          have hbS := hS _ hSb
          dsimp only at hks IH HXV
          clear hlj hrow hrow' hxj hlj' hwj
          by_cases hlv : lv < 3
          · have y2 : lv < 3 := hlv
            go_wp2_with fail
            refine (IH.out hlv).mono ?_
            rintro e w2 ⟨csu, rfl, hx2, bl2⟩
            obtain ⟨uk, ub, ui, us, ual, unl, ucl, uam, unm, ucm, rfl⟩ := V.ten hx2
            have hzb : (wr.alloc (.cells #[.int .i64 ek, .bool eb, .int .i64 ei, .string es, .slice eal enl ecl, .slice eam enm ecm] 32)).heap.size = wr.heap.size + 1 := alloc_size _ _
            have hz2 := bl2.size
            have hb2 : w2.heap[wr.heap.size]? = some (.cells #[.int .i64 ek, .bool eb, .int .i64 ei, .string es, .slice eal enl ecl, .slice eam enm ecm] 32 (0, 0)) := (bl2.block _ (by omega)).trans (heap_alloc_new wr _)
            have gS := grown_set6 w2 wr.heap.size (.int .i64 uk) (.bool ub) (.int .i64 ui) (.string us) (.slice ual unl ucl) (.slice uam unm ucm)
            have hzs : ((((((w2.setCell ⟨wr.heap.size, 0, none⟩ (.int .i64 uk)).setCell ⟨wr.heap.size, 1, none⟩ (.bool ub)).setCell ⟨wr.heap.size, 2, none⟩ (.int .i64 ui)).setCell ⟨wr.heap.size, 3, none⟩ (.string us)).setCell ⟨wr.heap.size, 4, none⟩ (.slice ual unl ucl)).setCell ⟨wr.heap.size, 5, none⟩ (.slice uam unm ucm)).heap.size = w2.heap.size := by simp only [size_set1]
            have hg3 := set6_block hb2 (.int .i64 uk) (.bool ub) (.int .i64 ui) (.string us) (.slice ual unl ucl) (.slice uam unm ucm)
            have t3 := ((tj.grown (World.grownBy_alloc wr (.cells #[.int .i64 ek, .bool eb, .int .i64 ei, .string es, .slice eal enl ecl, .slice eam enm ecm] 32) none) (fun r e => by cases e)).grown (grown_of_below bl2) (fun r e => by cases e)).grown gS (fun r e => by cases e; exact hwr)
            have o3 := ((oj.alloc (keepM false) (.cells #[.int .i64 ek, .bool eb, .int .i64 ei, .string es, .slice eal enl ecl, .slice eam enm ecm] 32)).below (keepM false) bl2).keep (keepM false) gS (fun r e => by cases e; exact ⟨fun h => by have := (oj.off _ h).2.1; omega, fun h => by have := (oj.lt h).2; omega⟩)
            have p3 := ((oL.alloc (keepL false) (.cells #[.int .i64 ek, .bool eb, .int .i64 ei, .string es, .slice eal enl ecl, .slice eam enm ecm] 32)).below (keepL false) bl2).keep (keepL false) gS (fun r e => by cases e; exact ⟨fun h => by have := (oL.off _ h).2.1; omega, fun h => by have := (oL.lt h).2; omega⟩)
            have hq3 : ∀ {u : Value} {p : Nat}, wr.cell? ⟨bm, p, none⟩ = some u → ((((((w2.setCell ⟨wr.heap.size, 0, none⟩ (.int .i64 uk)).setCell ⟨wr.heap.size, 1, none⟩ (.bool ub)).setCell ⟨wr.heap.size, 2, none⟩ (.int .i64 ui)).setCell ⟨wr.heap.size, 3, none⟩ (.string us)).setCell ⟨wr.heap.size, 4, none⟩ (.slice ual unl ucl)).setCell ⟨wr.heap.size, 5, none⟩ (.slice uam unm ucm)).cell? ⟨bm, p, none⟩ = some u := fun h => gS.cell ((grown_of_below bl2).cell ((World.grownBy_alloc wr (.cells #[.int .i64 ek, .bool eb, .int .i64 ei, .string es, .slice eal enl ecl, .slice eam enm ecm] 32) none).cell h (by simp)) (by simp)) (fun e => by have h9 : bm = wr.heap.size := Option.some.inj e; omega)
            have hx3 : xv.lies false ((((((w2.setCell ⟨wr.heap.size, 0, none⟩ (.int .i64 uk)).setCell ⟨wr.heap.size, 1, none⟩ (.bool ub)).setCell ⟨wr.heap.size, 2, none⟩ (.int .i64 ui)).setCell ⟨wr.heap.size, 3, none⟩ (.string us)).setCell ⟨wr.heap.size, 4, none⟩ (.slice ual unl ucl)).setCell ⟨wr.heap.size, 5, none⟩ (.slice uam unm ucm)) (Tw S wr ((((((w2.setCell ⟨wr.heap.size, 0, none⟩ (.int .i64 uk)).setCell ⟨wr.heap.size, 1, none⟩ (.bool ub)).setCell ⟨wr.heap.size, 2, none⟩ (.int .i64 ui)).setCell ⟨wr.heap.size, 3, none⟩ (.string us)).setCell ⟨wr.heap.size, 4, none⟩ (.slice ual unl ucl)).setCell ⟨wr.heap.size, 5, none⟩ (.slice uam unm ucm))) [.int .i64 uk, .bool ub, .int .i64 ui, .string us, .slice ual unl ucl, .slice uam unm ucm] := V.lies_keep (fun h => h) (fun x hx => gS.block x (hx.elim (fun h => by have := HS.out x h; omega) (fun h => h.2)) (fun e => by have := Option.some.inj e; exact hx.elim (fun h => by have := HS.out x h; omega) (fun h => by have := h.1; omega))) (fun x hx => hx.imp id (fun h => ⟨by have := h.1; omega, by rw [hzs]; exact h.2⟩)) _ hx2
            obtain ⟨b0, b1, b2', b3, b4, b5⟩ := six_of hb2
            have bf : ∀ i, w2.frozen? ⟨wr.heap.size, i, none⟩ = false := frozen_of_block hb2
            clear hb2 gS
            have hown : ∀ r, smv.ownBlock = some r → wA.heap.size ≤ r ∧ r < wr.heap.size := fun r hr => ⟨HOM.out r hr, (oj.lt hr).2⟩
            have hw3 : w.heap.size + 3 ≤ ((((((w2.setCell ⟨wr.heap.size, 0, none⟩ (.int .i64 uk)).setCell ⟨wr.heap.size, 1, none⟩ (.bool ub)).setCell ⟨wr.heap.size, 2, none⟩ (.int .i64 ui)).setCell ⟨wr.heap.size, 3, none⟩ (.string us)).setCell ⟨wr.heap.size, 4, none⟩ (.slice ual unl ucl)).setCell ⟨wr.heap.size, 5, none⟩ (.slice uam unm ucm)).heap.size := t3.lt
            have HKk : Hid (∀ b, Tw S wr ((((((w2.setCell ⟨wr.heap.size, 0, none⟩ (.int .i64 uk)).setCell ⟨wr.heap.size, 1, none⟩ (.bool ub)).setCell ⟨wr.heap.size, 2, none⟩ (.int .i64 ui)).setCell ⟨wr.heap.size, 3, none⟩ (.string us)).setCell ⟨wr.heap.size, 4, none⟩ (.slice ual unl ucl)).setCell ⟨wr.heap.size, 5, none⟩ (.slice uam unm ucm)) b → 0 ≤ b ∧ b < ((((((w2.setCell ⟨wr.heap.size, 0, none⟩ (.int .i64 uk)).setCell ⟨wr.heap.size, 1, none⟩ (.bool ub)).setCell ⟨wr.heap.size, 2, none⟩ (.int .i64 ui)).setCell ⟨wr.heap.size, 3, none⟩ (.string us)).setCell ⟨wr.heap.size, 4, none⟩ (.slice ual unl ucl)).setCell ⟨wr.heap.size, 5, none⟩ (.slice uam unm ucm)).heap.size ∧ some b ≠ smv.ownBlock) := fun b hb => by
              rcases hb with hb | hb
              · have := HS.out b hb
                exact ⟨Nat.zero_le _, by omega, fun e => by have := (hown b e.symm).1; omega⟩
              · exact ⟨Nat.zero_le _, hb.2, fun e => by have := (hown b e.symm).2; omega⟩
            have e5 : ((((((w2.setCell ⟨wr.heap.size, 0, none⟩ (.int .i64 uk)).setCell ⟨wr.heap.size, 1, none⟩ (.bool ub)).setCell ⟨wr.heap.size, 2, none⟩ (.int .i64 ui)).setCell ⟨wr.heap.size, 3, none⟩ (.string us)).setCell ⟨wr.heap.size, 4, none⟩ (.slice ual unl ucl)).setCell ⟨wr.heap.size, 5, none⟩ (.slice uam unm ucm)).cell? ⟨w.heap.size + 1 + 1, 5, none⟩ = some smv := by rw [cell_of_block t3.b2]; rfl
            have e5c : ∀ o', (((((((w2.setCell ⟨wr.heap.size, 0, none⟩ (.int .i64 uk)).setCell ⟨wr.heap.size, 1, none⟩ (.bool ub)).setCell ⟨wr.heap.size, 2, none⟩ (.int .i64 ui)).setCell ⟨wr.heap.size, 3, none⟩ (.string us)).setCell ⟨wr.heap.size, 4, none⟩ (.slice ual unl ucl)).setCell ⟨wr.heap.size, 5, none⟩ (.slice uam unm ucm)).alloc o').cell? ⟨w.heap.size + 1 + 1, 5, none⟩ = some smv := fun o' => by rw [cell_of_block (t3.grown (World.grownBy_alloc _ o' none) (fun r e => by cases e)).b2]; rfl
            have e5b : ((((((w2.setCell ⟨wr.heap.size, 0, none⟩ (.int .i64 uk)).setCell ⟨wr.heap.size, 1, none⟩ (.bool ub)).setCell ⟨wr.heap.size, 2, none⟩ (.int .i64 ui)).setCell ⟨wr.heap.size, 3, none⟩ (.string us)).setCell ⟨wr.heap.size, 4, none⟩ (.slice ual unl ucl)).setCell ⟨wr.heap.size, 5, none⟩ (.slice uam unm ucm)).cell? ⟨w.heap.size, 5, none⟩ = some (.slice (some ⟨bm, om, none⟩) m.length cm) := by rw [cell_of_block t3.b0]; rfl
            have q' := hq3 q
            obtain ⟨v0, v1, v2, v3, v4, v5⟩ : ((((((w2.setCell ⟨wr.heap.size, 0, none⟩ (.int .i64 uk)).setCell ⟨wr.heap.size, 1, none⟩ (.bool ub)).setCell ⟨wr.heap.size, 2, none⟩ (.int .i64 ui)).setCell ⟨wr.heap.size, 3, none⟩ (.string us)).setCell ⟨wr.heap.size, 4, none⟩ (.slice ual unl ucl)).setCell ⟨wr.heap.size, 5, none⟩ (.slice uam unm ucm)).cell? ⟨wr.heap.size, 0, none⟩ = _ ∧ ((((((w2.setCell ⟨wr.heap.size, 0, none⟩ (.int .i64 uk)).setCell ⟨wr.heap.size, 1, none⟩ (.bool ub)).setCell ⟨wr.heap.size, 2, none⟩ (.int .i64 ui)).setCell ⟨wr.heap.size, 3, none⟩ (.string us)).setCell ⟨wr.heap.size, 4, none⟩ (.slice ual unl ucl)).setCell ⟨wr.heap.size, 5, none⟩ (.slice uam unm ucm)).cell? ⟨wr.heap.size, 1, none⟩ = _ ∧ ((((((w2.setCell ⟨wr.heap.size, 0, none⟩ (.int .i64 uk)).setCell ⟨wr.heap.size, 1, none⟩ (.bool ub)).setCell ⟨wr.heap.size, 2, none⟩ (.int .i64 ui)).setCell ⟨wr.heap.size, 3, none⟩ (.string us)).setCell ⟨wr.heap.size, 4, none⟩ (.slice ual unl ucl)).setCell ⟨wr.heap.size, 5, none⟩ (.slice uam unm ucm)).cell? ⟨wr.heap.size, 2, none⟩ = _ ∧ ((((((w2.setCell ⟨wr.heap.size, 0, none⟩ (.int .i64 uk)).setCell ⟨wr.heap.size, 1, none⟩ (.bool ub)).setCell ⟨wr.heap.size, 2, none⟩ (.int .i64 ui)).setCell ⟨wr.heap.size, 3, none⟩ (.string us)).setCell ⟨wr.heap.size, 4, none⟩ (.slice ual unl ucl)).setCell ⟨wr.heap.size, 5, none⟩ (.slice uam unm ucm)).cell? ⟨wr.heap.size, 3, none⟩ = _ ∧ ((((((w2.setCell ⟨wr.heap.size, 0, none⟩ (.int .i64 uk)).setCell ⟨wr.heap.size, 1, none⟩ (.bool ub)).setCell ⟨wr.heap.size, 2, none⟩ (.int .i64 ui)).setCell ⟨wr.heap.size, 3, none⟩ (.string us)).setCell ⟨wr.heap.size, 4, none⟩ (.slice ual unl ucl)).setCell ⟨wr.heap.size, 5, none⟩ (.slice uam unm ucm)).cell? ⟨wr.heap.size, 4, none⟩ = _ ∧ ((((((w2.setCell ⟨wr.heap.size, 0, none⟩ (.int .i64 uk)).setCell ⟨wr.heap.size, 1, none⟩ (.bool ub)).setCell ⟨wr.heap.size, 2, none⟩ (.int .i64 ui)).setCell ⟨wr.heap.size, 3, none⟩ (.string us)).setCell ⟨wr.heap.size, 4, none⟩ (.slice ual unl ucl)).setCell ⟨wr.heap.size, 5, none⟩ (.slice uam unm ucm)).cell? ⟨wr.heap.size, 5, none⟩ = _ := six_of hg3
            have HX := hmk hx3
            have HT3 := hmk t3
            have HO3 := hmk o3
            have HP3 := hmk p3
            have HG : Hid (∀ (o' : Obj) (g : Nat), (smv.ownBlock = some g ∨ (((((((w2.setCell ⟨wr.heap.size, 0, none⟩ (.int .i64 uk)).setCell ⟨wr.heap.size, 1, none⟩ (.bool ub)).setCell ⟨wr.heap.size, 2, none⟩ (.int .i64 ui)).setCell ⟨wr.heap.size, 3, none⟩ (.string us)).setCell ⟨wr.heap.size, 4, none⟩ (.slice ual unl ucl)).setCell ⟨wr.heap.size, 5, none⟩ (.slice uam unm ucm)).alloc o').drew.heap.size ≤ g) → wA.heap.size ≤ g) := fun o' g e => by
              rcases e with e | e
              · exact (hown g e).1
              · have e2 : (((((((w2.setCell ⟨wr.heap.size, 0, none⟩ (.int .i64 uk)).setCell ⟨wr.heap.size, 1, none⟩ (.bool ub)).setCell ⟨wr.heap.size, 2, none⟩ (.int .i64 ui)).setCell ⟨wr.heap.size, 3, none⟩ (.string us)).setCell ⟨wr.heap.size, 4, none⟩ (.slice ual unl ucl)).setCell ⟨wr.heap.size, 5, none⟩ (.slice uam unm ucm)).alloc o').drew.heap.size = ((((((w2.setCell ⟨wr.heap.size, 0, none⟩ (.int .i64 uk)).setCell ⟨wr.heap.size, 1, none⟩ (.bool ub)).setCell ⟨wr.heap.size, 2, none⟩ (.int .i64 ui)).setCell ⟨wr.heap.size, 3, none⟩ (.string us)).setCell ⟨wr.heap.size, 4, none⟩ (.slice ual unl ucl)).setCell ⟨wr.heap.size, 5, none⟩ (.slice uam unm ucm)).heap.size + 1 := by show (((((((w2.setCell ⟨wr.heap.size, 0, none⟩ (.int .i64 uk)).setCell ⟨wr.heap.size, 1, none⟩ (.bool ub)).setCell ⟨wr.heap.size, 2, none⟩ (.int .i64 ui)).setCell ⟨wr.heap.size, 3, none⟩ (.string us)).setCell ⟨wr.heap.size, 4, none⟩ (.slice ual unl ucl)).setCell ⟨wr.heap.size, 5, none⟩ (.slice uam unm ucm)).alloc o').heap.size = _; rw [alloc_size]
                omega
            have HS5 : Hid (∀ b, SM b ∨ Tw S wr ((((((w2.setCell ⟨wr.heap.size, 0, none⟩ (.int .i64 uk)).setCell ⟨wr.heap.size, 1, none⟩ (.bool ub)).setCell ⟨wr.heap.size, 2, none⟩ (.int .i64 ui)).setCell ⟨wr.heap.size, 3, none⟩ (.string us)).setCell ⟨wr.heap.size, 4, none⟩ (.slice ual unl ucl)).setCell ⟨wr.heap.size, 5, none⟩ (.slice uam unm ucm)) b → S b ∨ wA.heap.size ≤ b) := fun b hb => by
              rcases hb with hb | hb | hb
              · exact HSM.out b hb
              · exact .inl hb
              · exact .inr (by have := hb.1; omega)
            have HN5 : Hid (¬ (SM (w.heap.size + 1 + 1) ∨ Tw S wr ((((((w2.setCell ⟨wr.heap.size, 0, none⟩ (.int .i64 uk)).setCell ⟨wr.heap.size, 1, none⟩ (.bool ub)).setCell ⟨wr.heap.size, 2, none⟩ (.int .i64 ui)).setCell ⟨wr.heap.size, 3, none⟩ (.string us)).setCell ⟨wr.heap.size, 4, none⟩ (.slice ual unl ucl)).setCell ⟨wr.heap.size, 5, none⟩ (.slice uam unm ucm)) (w.heap.size + 1 + 1))) := fun hb => by
              rcases HS5.out _ hb with h | h
              · have := HS.out _ h; omega
              · omega
            have HNL : Hid (¬ SL (w.heap.size + 1 + 1) ∧ slv.ownBlock ≠ some (w.heap.size + 1 + 1)) := ⟨fun hb => by
              rcases HSL.out _ hb with h | h
              · have := HS.out _ h; omega
              · omega, fun e => by have := (hownl _ e).1; omega⟩
            have T5 : ∀ (o' : Obj) (w5 : World), (((((((w2.setCell ⟨wr.heap.size, 0, none⟩ (.int .i64 uk)).setCell ⟨wr.heap.size, 1, none⟩ (.bool ub)).setCell ⟨wr.heap.size, 2, none⟩ (.int .i64 ui)).setCell ⟨wr.heap.size, 3, none⟩ (.string us)).setCell ⟨wr.heap.size, 4, none⟩ (.slice ual unl ucl)).setCell ⟨wr.heap.size, 5, none⟩ (.slice uam unm ucm)).alloc o').drew.grownBy w5 smv.ownBlock → TwF w _ _ w5 ∧ OwnL false w5 0 SL slv (l.map some) ∧ wA.heap.size ≤ w5.heap.size := fun o' w5 g5 =>
              ⟨((HT3.out.grown (World.grownBy_alloc _ o' none) (fun r e => by cases e)).grown (grown_drew _ none) (fun r e => by cases e)).grown g5 (fun r e => by have := (hown r e).1; omega),
                ((HP3.out.alloc (keepL false) o').drew (keepL false)).keep (keepL false) g5 (fun r e => ⟨fun h => by have := (hSl r h).2.1; have := (hown r e).1; omega, fun h => by have := (hownl r h).2; have := (hown r e).1; omega⟩),
                by have := g5.size; have e : (((((((w2.setCell ⟨wr.heap.size, 0, none⟩ (.int .i64 uk)).setCell ⟨wr.heap.size, 1, none⟩ (.bool ub)).setCell ⟨wr.heap.size, 2, none⟩ (.int .i64 ui)).setCell ⟨wr.heap.size, 3, none⟩ (.string us)).setCell ⟨wr.heap.size, 4, none⟩ (.slice ual unl ucl)).setCell ⟨wr.heap.size, 5, none⟩ (.slice uam unm ucm)).alloc o').drew.heap.size = ((((((w2.setCell ⟨wr.heap.size, 0, none⟩ (.int .i64 uk)).setCell ⟨wr.heap.size, 1, none⟩ (.bool ub)).setCell ⟨wr.heap.size, 2, none⟩ (.int .i64 ui)).setCell ⟨wr.heap.size, 3, none⟩ (.string us)).setCell ⟨wr.heap.size, 4, none⟩ (.slice ual unl ucl)).setCell ⟨wr.heap.size, 5, none⟩ (.slice uam unm ucm)).heap.size + 1 := by show (((((((w2.setCell ⟨wr.heap.size, 0, none⟩ (.int .i64 uk)).setCell ⟨wr.heap.size, 1, none⟩ (.bool ub)).setCell ⟨wr.heap.size, 2, none⟩ (.int .i64 ui)).setCell ⟨wr.heap.size, 3, none⟩ (.string us)).setCell ⟨wr.heap.size, 4, none⟩ (.slice ual unl ucl)).setCell ⟨wr.heap.size, 5, none⟩ (.slice uam unm ucm)).alloc o').heap.size = _; rw [alloc_size]
                   omega⟩
            clear hx3 t3 o3 p3
            go_wp2_with fail
            generalize ((((((w2.setCell ⟨wr.heap.size, 0, none⟩ (.int .i64 uk)).setCell ⟨wr.heap.size, 1, none⟩ (.bool ub)).setCell ⟨wr.heap.size, 2, none⟩ (.int .i64 ui)).setCell ⟨wr.heap.size, 3, none⟩ (.string us)).setCell ⟨wr.heap.size, 4, none⟩ (.slice ual unl ucl)).setCell ⟨wr.heap.size, 5, none⟩ (.slice uam unm ucm)) = W3 at *
            go_region_law (refine step_push (keepM false) rfl (.tmp 57) (.tmp 66) 29 rfl 0 i1 _ 104 Tryd.underlying29 hJ.out.1 hJ.out.2.1 hJ.out.2.2.1 hJ.out.2.2.2 rfl (by decide) (by decide) smv (some (key, xv)) rfl ((HO3.out.alloc (keepM false) _).drew (keepM false)) w2.heap.size 1 (0, 0) rfl (by rw [← hzs]; exact heap_alloc_new W3 _) rfl one7 (keepM false _ _ _ _ _ _ (fun b hb => Below.heap_alloc W3 _ b (HKk.out b hb).2.1) (fun _ h => h) ⟨_, rfl, hks, HX.out⟩) (fun b hb => ⟨(HKk.out b hb).1, by show b < (W3.alloc _).heap.size; rw [alloc_size]; have := (HKk.out b hb).2.1; omega, (HKk.out b hb).2.2⟩) (by rw [hll]; omega) (Nat.zero_le _) ?_; intro g cap w5 o5 g5 e9; rw [hll] at o5 ⊢; obtain ⟨t5, p5, z5⟩ := T5 _ w5 g5; have hgg := HG.out _ g e9; have e6 : w5.cell? ⟨w.heap.size + 1 + 1, 5, none⟩ = some smv := by { rw [cell_of_block t5.b2]; rfl }; have e7 : w5.frozen? ⟨w.heap.size + 1 + 1, 5, none⟩ = false := frozen_of_block t5.b2 5)
            all_goals go_wp2_with fail
            all_goals go_roundw
            all_goals first
              | exact ⟨j + 1, _, _, by omega, by go_num, t5.set 5 _ rfl, by simpa using z5, p5.set0 (keepL false) HNL.out.1 HNL.out.2 _ _, by rw [HT.out]; exact o5.set0 (keepM false) HN5.out (fun e => by simp [Value.ownBlock] at e; omega) _ _, fun r e => by (simp [Value.ownBlock] at e; omega), HS5.out⟩
              | (simp [RowKit.intOf]; omega)
          · have y2 : ¬ lv < 3 := hlv
            have hzb : (wr.alloc (.cells #[.int .i64 ek, .bool eb, .int .i64 ei, .string es, .slice eal enl ecl, .slice eam enm ecm] 32)).heap.size = wr.heap.size + 1 := alloc_size _ _
            have hg3 := heap_alloc_new wr (.cells #[.int .i64 ek, .bool eb, .int .i64 ei, .string es, .slice eal enl ecl, .slice eam enm ecm] 32)
            have t3 := tj.grown (World.grownBy_alloc wr (.cells #[.int .i64 ek, .bool eb, .int .i64 ei, .string es, .slice eal enl ecl, .slice eam enm ecm] 32) none) (fun r e => by cases e)
            have o3 := oj.alloc (keepM false) (.cells #[.int .i64 ek, .bool eb, .int .i64 ei, .string es, .slice eal enl ecl, .slice eam enm ecm] 32)
            have p3 := oL.alloc (keepL false) (.cells #[.int .i64 ek, .bool eb, .int .i64 ei, .string es, .slice eal enl ecl, .slice eam enm ecm] 32)
            have hq3 : ∀ {u : Value} {p : Nat}, wr.cell? ⟨bm, p, none⟩ = some u → (wr.alloc (.cells #[.int .i64 ek, .bool eb, .int .i64 ei, .string es, .slice eal enl ecl, .slice eam enm ecm] 32)).cell? ⟨bm, p, none⟩ = some u := fun h => (World.grownBy_alloc wr (.cells #[.int .i64 ek, .bool eb, .int .i64 ei, .string es, .slice eal enl ecl, .slice eam enm ecm] 32) none).cell h (by simp)
            have hx3 : xv.lies false (wr.alloc (.cells #[.int .i64 ek, .bool eb, .int .i64 ei, .string es, .slice eal enl ecl, .slice eam enm ecm] 32)) (Tw S wr (wr.alloc (.cells #[.int .i64 ek, .bool eb, .int .i64 ei, .string es, .slice eal enl ecl, .slice eam enm ecm] 32))) [.int .i64 ek, .bool eb, .int .i64 ei, .string es, .slice eal enl ecl, .slice eam enm ecm] := V.lies_keep (fun h => h) (fun x hx => Below.heap_alloc _ _ x (by have := HS.out x hx; omega)) (fun x hx => .inl hx) _ HXV.out
            have hown : ∀ r, smv.ownBlock = some r → wA.heap.size ≤ r ∧ r < wr.heap.size := fun r hr => ⟨HOM.out r hr, (oj.lt hr).2⟩
            have hw3 : w.heap.size + 3 ≤ (wr.alloc (.cells #[.int .i64 ek, .bool eb, .int .i64 ei, .string es, .slice eal enl ecl, .slice eam enm ecm] 32)).heap.size := t3.lt
            have HKk : Hid (∀ b, Tw S wr (wr.alloc (.cells #[.int .i64 ek, .bool eb, .int .i64 ei, .string es, .slice eal enl ecl, .slice eam enm ecm] 32)) b → 0 ≤ b ∧ b < (wr.alloc (.cells #[.int .i64 ek, .bool eb, .int .i64 ei, .string es, .slice eal enl ecl, .slice eam enm ecm] 32)).heap.size ∧ some b ≠ smv.ownBlock) := fun b hb => by
              rcases hb with hb | hb
              · have := HS.out b hb
                exact ⟨Nat.zero_le _, by omega, fun e => by have := (hown b e.symm).1; omega⟩
              · exact ⟨Nat.zero_le _, hb.2, fun e => by have := (hown b e.symm).2; omega⟩
            have e5 : (wr.alloc (.cells #[.int .i64 ek, .bool eb, .int .i64 ei, .string es, .slice eal enl ecl, .slice eam enm ecm] 32)).cell? ⟨w.heap.size + 1 + 1, 5, none⟩ = some smv := by rw [cell_of_block t3.b2]; rfl
            have e5c : ∀ o', ((wr.alloc (.cells #[.int .i64 ek, .bool eb, .int .i64 ei, .string es, .slice eal enl ecl, .slice eam enm ecm] 32)).alloc o').cell? ⟨w.heap.size + 1 + 1, 5, none⟩ = some smv := fun o' => by rw [cell_of_block (t3.grown (World.grownBy_alloc _ o' none) (fun r e => by cases e)).b2]; rfl
            have e5b : (wr.alloc (.cells #[.int .i64 ek, .bool eb, .int .i64 ei, .string es, .slice eal enl ecl, .slice eam enm ecm] 32)).cell? ⟨w.heap.size, 5, none⟩ = some (.slice (some ⟨bm, om, none⟩) m.length cm) := by rw [cell_of_block t3.b0]; rfl
            have q' := hq3 q
            obtain ⟨v0, v1, v2, v3, v4, v5⟩ : (wr.alloc (.cells #[.int .i64 ek, .bool eb, .int .i64 ei, .string es, .slice eal enl ecl, .slice eam enm ecm] 32)).cell? ⟨wr.heap.size, 0, none⟩ = _ ∧ (wr.alloc (.cells #[.int .i64 ek, .bool eb, .int .i64 ei, .string es, .slice eal enl ecl, .slice eam enm ecm] 32)).cell? ⟨wr.heap.size, 1, none⟩ = _ ∧ (wr.alloc (.cells #[.int .i64 ek, .bool eb, .int .i64 ei, .string es, .slice eal enl ecl, .slice eam enm ecm] 32)).cell? ⟨wr.heap.size, 2, none⟩ = _ ∧ (wr.alloc (.cells #[.int .i64 ek, .bool eb, .int .i64 ei, .string es, .slice eal enl ecl, .slice eam enm ecm] 32)).cell? ⟨wr.heap.size, 3, none⟩ = _ ∧ (wr.alloc (.cells #[.int .i64 ek, .bool eb, .int .i64 ei, .string es, .slice eal enl ecl, .slice eam enm ecm] 32)).cell? ⟨wr.heap.size, 4, none⟩ = _ ∧ (wr.alloc (.cells #[.int .i64 ek, .bool eb, .int .i64 ei, .string es, .slice eal enl ecl, .slice eam enm ecm] 32)).cell? ⟨wr.heap.size, 5, none⟩ = _ := six_of hg3
            have HX := hmk hx3
            have HT3 := hmk t3
            have HO3 := hmk o3
            have HP3 := hmk p3
            have HG : Hid (∀ (o' : Obj) (g : Nat), (smv.ownBlock = some g ∨ ((wr.alloc (.cells #[.int .i64 ek, .bool eb, .int .i64 ei, .string es, .slice eal enl ecl, .slice eam enm ecm] 32)).alloc o').drew.heap.size ≤ g) → wA.heap.size ≤ g) := fun o' g e => by
              rcases e with e | e
              · exact (hown g e).1
              · have e2 : ((wr.alloc (.cells #[.int .i64 ek, .bool eb, .int .i64 ei, .string es, .slice eal enl ecl, .slice eam enm ecm] 32)).alloc o').drew.heap.size = (wr.alloc (.cells #[.int .i64 ek, .bool eb, .int .i64 ei, .string es, .slice eal enl ecl, .slice eam enm ecm] 32)).heap.size + 1 := by show ((wr.alloc (.cells #[.int .i64 ek, .bool eb, .int .i64 ei, .string es, .slice eal enl ecl, .slice eam enm ecm] 32)).alloc o').heap.size = _; rw [alloc_size]
                omega
            have HS5 : Hid (∀ b, SM b ∨ Tw S wr (wr.alloc (.cells #[.int .i64 ek, .bool eb, .int .i64 ei, .string es, .slice eal enl ecl, .slice eam enm ecm] 32)) b → S b ∨ wA.heap.size ≤ b) := fun b hb => by
              rcases hb with hb | hb | hb
              · exact HSM.out b hb
              · exact .inl hb
              · exact .inr (by have := hb.1; omega)
            have HN5 : Hid (¬ (SM (w.heap.size + 1 + 1) ∨ Tw S wr (wr.alloc (.cells #[.int .i64 ek, .bool eb, .int .i64 ei, .string es, .slice eal enl ecl, .slice eam enm ecm] 32)) (w.heap.size + 1 + 1))) := fun hb => by
              rcases HS5.out _ hb with h | h
              · have := HS.out _ h; omega
              · omega
            have HNL : Hid (¬ SL (w.heap.size + 1 + 1) ∧ slv.ownBlock ≠ some (w.heap.size + 1 + 1)) := ⟨fun hb => by
              rcases HSL.out _ hb with h | h
              · have := HS.out _ h; omega
              · omega, fun e => by have := (hownl _ e).1; omega⟩
            have T5 : ∀ (o' : Obj) (w5 : World), ((wr.alloc (.cells #[.int .i64 ek, .bool eb, .int .i64 ei, .string es, .slice eal enl ecl, .slice eam enm ecm] 32)).alloc o').drew.grownBy w5 smv.ownBlock → TwF w _ _ w5 ∧ OwnL false w5 0 SL slv (l.map some) ∧ wA.heap.size ≤ w5.heap.size := fun o' w5 g5 =>
              ⟨((HT3.out.grown (World.grownBy_alloc _ o' none) (fun r e => by cases e)).grown (grown_drew _ none) (fun r e => by cases e)).grown g5 (fun r e => by have := (hown r e).1; omega),
                ((HP3.out.alloc (keepL false) o').drew (keepL false)).keep (keepL false) g5 (fun r e => ⟨fun h => by have := (hSl r h).2.1; have := (hown r e).1; omega, fun h => by have := (hownl r h).2; have := (hown r e).1; omega⟩),
                by have := g5.size; have e : ((wr.alloc (.cells #[.int .i64 ek, .bool eb, .int .i64 ei, .string es, .slice eal enl ecl, .slice eam enm ecm] 32)).alloc o').drew.heap.size = (wr.alloc (.cells #[.int .i64 ek, .bool eb, .int .i64 ei, .string es, .slice eal enl ecl, .slice eam enm ecm] 32)).heap.size + 1 := by show ((wr.alloc (.cells #[.int .i64 ek, .bool eb, .int .i64 ei, .string es, .slice eal enl ecl, .slice eam enm ecm] 32)).alloc o').heap.size = _; rw [alloc_size]
                   omega⟩
            clear hx3 t3 o3 p3
            go_wp2_with fail
            generalize (wr.alloc (.cells #[.int .i64 ek, .bool eb, .int .i64 ei, .string es, .slice eal enl ecl, .slice eam enm ecm] 32)) = W3 at *
            go_region_law (refine step_push (keepM false) rfl (.tmp 57) (.tmp 66) 29 rfl 0 i1 _ 104 Tryd.underlying29 hJ.out.1 hJ.out.2.1 hJ.out.2.2.1 hJ.out.2.2.2 rfl (by decide) (by decide) smv (some (key, xv)) rfl ((HO3.out.alloc (keepM false) _).drew (keepM false)) (wr.heap.size + 1) 1 (0, 0) rfl (by rw [← hzb]; exact heap_alloc_new W3 _) rfl one7 (keepM false _ _ _ _ _ _ (fun b hb => Below.heap_alloc W3 _ b (HKk.out b hb).2.1) (fun _ h => h) ⟨_, rfl, hks, HX.out⟩) (fun b hb => ⟨(HKk.out b hb).1, by show b < (W3.alloc _).heap.size; rw [alloc_size]; have := (HKk.out b hb).2.1; omega, (HKk.out b hb).2.2⟩) (by rw [hll]; omega) (Nat.zero_le _) ?_; intro g cap w5 o5 g5 e9; rw [hll] at o5 ⊢; obtain ⟨t5, p5, z5⟩ := T5 _ w5 g5; have hgg := HG.out _ g e9; have e6 : w5.cell? ⟨w.heap.size + 1 + 1, 5, none⟩ = some smv := by { rw [cell_of_block t5.b2]; rfl }; have e7 : w5.frozen? ⟨w.heap.size + 1 + 1, 5, none⟩ = false := frozen_of_block t5.b2 5)
            all_goals go_wp2_with fail
            all_goals go_roundw
            all_goals first
              | exact ⟨j + 1, _, _, by omega, by go_num, t5.set 5 _ rfl, by simpa using z5, p5.set0 (keepL false) HNL.out.1 HNL.out.2 _ _, by rw [HT.out]; exact o5.set0 (keepM false) HN5.out (fun e => by simp [Value.ownBlock] at e; omega) _ _, fun r e => by (simp [Value.ownBlock] at e; omega), HS5.out⟩
              | (simp [RowKit.intOf]; omega)
        · obtain rfl : j = m.length := by omega
          have hlt : (m.map some).take m.length = m.map some := by rw [List.take_of_length_le (by simp)]
          rw [hlt] at oj
          clear hlt
          have y4 : ¬ (m.length : Int) < m.length := by omega
          have hown : ∀ r, smv.ownBlock = some r → wA.heap.size ≤ r ∧ r < wr.heap.size := fun r hr => ⟨HOM.out r hr, (oj.lt hr).2⟩
          have hw3 := tj.lt
          obtain ⟨sa, sc, sb, so, rfl, hdl, hLs⟩ := own_listL0 (T := fun b => S b ∨ (w.heap.size + 3 ≤ b ∧ b < wr.heap.size)) oL (fun b hb => (HSL.out b hb).imp id (fun h => ⟨h, (oL.off b hb).2.1⟩)) (fun g hg => .inr ⟨(hownl g hg).1, (oL.lt hg).2⟩)
          obtain ⟨ta, tc, tb', tq, rfl, hdm, hMs⟩ := own_listM0 (T := fun b => S b ∨ (w.heap.size + 3 ≤ b ∧ b < wr.heap.size)) oj (fun b hb => (HSM.out b hb).imp id (fun h => ⟨by omega, (oj.off b hb).2.1⟩)) (fun g hg => .inr ⟨by have := (hown g hg).1; omega, (hown g hg).2⟩)
          have HLs : Hid (liesL false wr (fun b => S b ∨ (w.heap.size + 3 ≤ b ∧ b < wr.heap.size)) l sb so) := hLs
          have HMs : Hid (liesM false wr (fun b => S b ∨ (w.heap.size + 3 ≤ b ∧ b < wr.heap.size)) m tb' tq) := hMs
          have x0 : wr.cell? ⟨w.heap.size + 1 + 1, 0, none⟩ = some (.int .i64 k) := by rw [cell_of_block tj.b2]; rfl
          have x1 : wr.cell? ⟨w.heap.size + 1 + 1, 1, none⟩ = some (.bool b) := by rw [cell_of_block tj.b2]; rfl
          have x2 : wr.cell? ⟨w.heap.size + 1 + 1, 2, none⟩ = some (.int .i64 i) := by rw [cell_of_block tj.b2]; rfl
          have x3 : wr.cell? ⟨w.heap.size + 1 + 1, 3, none⟩ = some (.string s) := by rw [cell_of_block tj.b2]; rfl
          have x4 : wr.cell? ⟨w.heap.size + 1 + 1, 4, none⟩ = some (.slice sa l.length sc) := by rw [cell_of_block tj.b2]; rfl
          have x5 : wr.cell? ⟨w.heap.size + 1 + 1, 5, none⟩ = some (.slice ta m.length tc) := by rw [cell_of_block tj.b2]; rfl
          have r0 : wr.cell? ⟨w.heap.size + 1, 0, none⟩ = some (.int .i64 0) := by rw [cell_of_block tj.b1]; rfl
          have r1 : wr.cell? ⟨w.heap.size + 1, 1, none⟩ = some (.bool false) := by rw [cell_of_block tj.b1]; rfl
          have r2 : wr.cell? ⟨w.heap.size + 1, 2, none⟩ = some (.int .i64 0) := by rw [cell_of_block tj.b1]; rfl
          have r3 : wr.cell? ⟨w.heap.size + 1, 3, none⟩ = some (.string ⟨#[]⟩) := by rw [cell_of_block tj.b1]; rfl
          have r4 : wr.cell? ⟨w.heap.size + 1, 4, none⟩ = some (.slice none 0 0) := by rw [cell_of_block tj.b1]; rfl
          have r5 : wr.cell? ⟨w.heap.size + 1, 5, none⟩ = some (.slice none 0 0) := by rw [cell_of_block tj.b1]; rfl
          have rf : ∀ i, wr.frozen? ⟨w.heap.size + 1, i, none⟩ = false := frozen_of_block tj.b1
          have hB7 := tj.below
          clear oL oj tj hLs hMs hownl hSl hown HL HM ihl ihm
          go_wp2_with fail
          (try simp only [Exit.inBlock, Exit.then])
          refine bodyPost_ret (v := .agg #[.int .i64 k, .bool b, .int .i64 i, .string s, .slice sa l.length sc, .slice ta m.length tc]) ?_ rfl ?_
          · rw [results_cell1 rfl]
            go_simp
          · refine ⟨[.int .i64 k, .bool b, .int .i64 i, .string s, .slice sa l.length sc, .slice ta m.length tc], rfl, ?_, Below.set6 hB7 (by omega) _ _ _ _ _ _ _ _ _ _ _ _⟩
            have hf := lies_S (b := b) hk hi hs hdl hdm HLs.out HMs.out
            exact V.lies_keep (fun h => h) (fun _ _ => rfl) (fun x hx => hx.imp id (fun h => ⟨by have := h.1; omega, by simp only [size_set1]; exact h.2⟩)) _ (lies_set6T hf (fun h => by
              rcases h with h | h
              · have := HS.out _ h; omega
              · have := h.1; omega) _ _ _ _ _ _ _ _ _ _ _ _)
end Go.Proofs.YtfihgaffiobfhaaDoor
