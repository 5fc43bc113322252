/- good: some good value; a map. -/
import Derived.Test.YtljgofmmihmmfaaDoorGodC
import Derived.Deep.RegionHeld3
set_option linter.unusedSimpArgs false
set_option linter.unusedVariables false
namespace Go.Proofs.YtljgofmmihmmfaaDoor
open Go.RowKit

theorem cell_set_ne {W : World} {B b o i : Nat} (h : b ≠ B) (v : Value) : (W.setCell ⟨B, i, none⟩ v).cell? ⟨b, o, none⟩ = W.cell? ⟨b, o, none⟩ := World.cell?_setCell_far W ⟨B, i, none⟩ ⟨b, o, none⟩ v (fun e => h e.symm)
theorem alloc_keep (w : World) (o : Obj) {b : Nat} (h : b < w.heap.size) : (w.alloc o).heap[b]? = w.heap[b]? := Below.heap_alloc w o b h
def From (B : Nat) (w : World) (x : Nat) : Prop := B ≤ x ∧ x < w.heap.size
theorem wtM_le : ∀ {l : List Mem} {N : Nat}, (∀ y ∈ l, y.1.size ≤ 20 ∧ y.2.wt ≤ N) → wtM l ≤ l.length * (20 + N)
  | [], N, _ => by simp [wtM]
  | (k, x) :: t, N, h => by
    have h1 := h (k, x) (List.mem_cons_self ..)
    have h2 := wtM_le (l := t) (N := N) (fun u hu => h u (List.mem_cons_of_mem _ hu))
    simp only [wtM, List.length_cons, Nat.succ_mul]; have := h1.1; have := h1.2; simp only at *; omega
theorem size_set1 (w : World) (M i : Nat) (u : Value) : (w.setCell ⟨M, i, none⟩ u).heap.size = w.heap.size := by
  simp [World.setCell]
theorem liesM_set {w : World} {B M : Nat} {l : List Mem} {b o : Nat} (h : liesM false w (From B w) l b o) (hM : M < B) (i : Nat) (u : Value) : liesM false (w.setCell ⟨M, i, none⟩ u) (From B (w.setCell ⟨M, i, none⟩ u)) l b o :=
  liesM_keep (fun h => h) (fun x hx => (grown_set1 w M i u).block x hx.2 (fun e => by have := Option.some.inj e; have := hx.1; omega)) (fun x hx => ⟨hx.1, by rw [size_set1]; exact hx.2⟩) l h
theorem liesM_set6 {w : World} {B M : Nat} {l : List Mem} {b o : Nat} (h : liesM false w (From B w) l b o) (hM : M < B) (i1 i2 i3 i4 i5 i6 : Nat) (u1 u2 u3 u4 u5 u6 : Value) :
    liesM false ((((((w.setCell ⟨M, i1, none⟩ u1).setCell ⟨M, i2, none⟩ u2).setCell ⟨M, i3, none⟩ u3).setCell ⟨M, i4, none⟩ u4).setCell ⟨M, i5, none⟩ u5).setCell ⟨M, i6, none⟩ u6) (From B ((((((w.setCell ⟨M, i1, none⟩ u1).setCell ⟨M, i2, none⟩ u2).setCell ⟨M, i3, none⟩ u3).setCell ⟨M, i4, none⟩ u4).setCell ⟨M, i5, none⟩ u5).setCell ⟨M, i6, none⟩ u6)) l b o :=
  liesM_set (liesM_set (liesM_set (liesM_set (liesM_set (liesM_set h hM i1 u1) hM i2 u2) hM i3 u3) hM i4 u4) hM i5 u5) hM i6 u6
theorem map_fin {w W : World} {B N : Nat} {ao : Option Addr} {cap b o : Nat} {ms : List Mem} (hB : Below w.heap.size w W) (hb : w.heap.size ≤ B) (hh : Headed ao ms.length cap b o) (hl : liesM false W (From B W) ms b o) (h15 : ms.length ≤ 15) (hw : ∀ y ∈ ms, y.1.size ≤ 20 ∧ y.2.wt ≤ N) :
    GoodPost (1 + 15 * (20 + N)) w (.returned (.agg #[.int .i64 5, .bool false, .int .i64 0, .string ⟨#[]⟩, .slice none 0 0, .slice ao ms.length cap])) W := by
  refine god_fin (u := V.mk 5 false 0 ⟨#[]⟩ [] ms) (cs := [.int .i64 5, .bool false, .int .i64 0, .string ⟨#[]⟩, .slice none 0 0, .slice ao ms.length cap]) hB (fun _ => lies_S (by constructor <;> omega) (by constructor <;> omega) (by decide) headed_nil hh (by rw [liesL]; trivial) (liesM_keep (fun h => h) (fun _ _ => rfl) (fun x hx => ⟨Nat.le_trans hb hx.1, hx.2⟩) _ hl)) ?_
  have h1 := wtM_le hw
  have h2 : ms.length * (20 + N) ≤ 15 * (20 + N) := Nat.mul_le_mul_right _ h15
  have z0 : (⟨#[]⟩ : ByteArray).size = 0 := rfl
  simp only [V.wt, wtL]; omega
theorem map_rel {w5 w6 wa : World} {B M : Nat} {l : List Mem} {b o : Nat} (h : liesM false w6 (fun y => From B wa y ∨ (w5.heap.size ≤ y ∧ y < w6.heap.size)) l b o) (h5 : wa.heap.size ≤ w5.heap.size) (h6 : w5.heap.size ≤ w6.heap.size) (hb : B ≤ wa.heap.size) (hM : M < B) (i : Nat) (u : Value) : liesM false (w6.setCell ⟨M, i, none⟩ u) (From B (w6.setCell ⟨M, i, none⟩ u)) l b o :=
  liesM_set (liesM_keep (fun h => h) (fun _ _ => rfl) (fun x hx => by rcases hx with hx | hx <;> exact ⟨by have := hx.1; omega, by have := hx.2; omega⟩) l h) hM i u
theorem map_wts {ms ms' : List Mem} {x : Mem} {N : Nat} (h : ∀ y ∈ ms, y.1.size ≤ 20 ∧ y.2.wt ≤ N) (hx : x.1.size ≤ 20 ∧ x.2.wt ≤ N) (hm : ∀ y ∈ ms', y ∈ ms ∨ y = x) : ∀ y ∈ ms', y.1.size ≤ 20 ∧ y.2.wt ≤ N := fun y hy => by
  rcases hm y hy with h1 | rfl
  · exact h y h1
  · exact hx

set_option maxHeartbeats 8000000 in
set_option maxRecDepth 100000 in
theorem good_map (v : V) (lv N : Nat) (cs : List Value) (w : World) (hv : v.lies false w (Old w) cs) (hlv : lv ≤ 3) (hwt : v.wt ≤ 1099511627776) (r : Int) (hr : ∀ k b i s l m, v = V.mk k b i s l m → Int.tmod k 6 = r) (hc : r = 5 ∨ r = -5)
    (ih : ∀ (x : V) (cs : List Value) (W : World), x.lies false W (Old W) cs → x.wt ≤ 1099511627776 → Calls Tryd.prog 14 #[.agg cs.toArray, .int .i64 ((lv : Int) + 1)] W (GoodPost N W)) : Calls Tryd.prog 14 #[.agg cs.toArray, .int .i64 (lv : Int)] w (GoodPost (1 + 15 * (20 + N)) w) := by
  obtain ⟨k, b, i, s, l, m⟩ := v
  have hr := hr k b i s l m rfl
  rw [V.lies] at hv
  obtain ⟨al, cl, bl, ol, am, cm, bm, om, rfl, hk, hi, hs, hal, ham, hl1, hm1, _⟩ := hv
  have HM : Hid (liesM false w (Old w) m bm om) := hm1
  clear hl1 hm1
  rw [V.wt] at hwt
  have hlm := wtM_len m
  have IH : Hid (∀ (x : V) (cs : List Value) (W : World), x.lies false W (Old W) cs → x.wt ≤ 1099511627776 → Calls Tryd.prog 14 #[.agg cs.toArray, .int .i64 ((lv : Int) + 1)] W (GoodPost N W)) := ih
  clear ih
  have hwr : IntKind.i64.wrap (Int.tmod k 6) = r := by
    rw [hr]
    rcases hc with rfl | rfl <;> rfl
  have hl3 : ¬ (lv : Int) > 3 := by omega
  have T0 : Hid (TwF w #[.int .i64 k, .bool b, .int .i64 i, .string s, .slice al l.length cl, .slice am m.length cm] #[.int .i64 5, .bool false, .int .i64 0, .string ⟨#[]⟩, .slice none 0 0, .slice none 0 0] (((w.alloc (.cells #[.int .i64 k, .bool b, .int .i64 i, .string s, .slice al l.length cl, .slice am m.length cm] 25)).alloc (.cells #[.int .i64 0, .bool false, .int .i64 0, .string ⟨#[]⟩, .slice none 0 0, .slice none 0 0] 25)).alloc (.cells #[.int .i64 5, .bool false, .int .i64 0, .string ⟨#[]⟩, .slice none 0 0, .slice none 0 0] 25))) := ⟨three_below w _ _ _, (three_allocs w _ _ _).1, (three_allocs w _ _ _).2.1, (three_allocs w _ _ _).2.2⟩
  rcases hc with rfl | rfl
  · go_enter Tryd.func14, Tryd.ntmps14
    go_wp2_with fail
    go_loopw [9] (fun e wr => ∃ (j : Nat) (ms : List Mem) (slv : Value), Hid (ms.length + 1 ≤ 2 ^ j) ∧ j ≤ 4 ∧ j ≤ m.length ∧ e = .int .i64 (j : Int) ∧ Hid (∀ y ∈ ms, y.1.size ≤ 20 ∧ y.2.wt ≤ N) ∧ Hid (∃ ao cap bo oo, slv = .slice ao ms.length cap ∧ Headed ao ms.length cap bo oo ∧ liesM false wr (From (w.heap.size + 3) wr) ms bo oo) ∧ TwF w #[.int .i64 k, .bool b, .int .i64 i, .string s, .slice al l.length cl, .slice am m.length cm] #[.int .i64 5, .bool false, .int .i64 0, .string ⟨#[]⟩, .slice none 0 0, slv] wr) (fun e _ => 4 - (RowKit.intOf e).toNat)
    case atStart => exact ⟨0, [], .slice none 0 0, by show _ ≤ _; simp, by omega, by omega, rfl, fun u hu => (by cases hu), ⟨none, 0, 0, 0, rfl, headed_nil, by rw [liesM]; trivial⟩, T0.out⟩
    case round =>
      clear T0
      obtain ⟨j, ms, slv, hml0, hj4, hj, rfl, hwu, hsh, tj⟩ := hrel
      have hml : Hid (ms.length ≤ 15) := by
        show _ ≤ _
        have h1 := hml0.out
        have h2 : 2 ^ j ≤ 2 ^ 4 := Nat.pow_le_pow_right (by omega) hj4
        omega
      have d5 : wr.cell? ⟨w.heap.size, 5, none⟩ = some (.slice am m.length cm) := by rw [cell_of_block tj.b0]; rfl
      by_cases hjl : j < m.length
      · have y1 : (j : Int) < m.length := by omega
        by_cases h4 : j < 4
        · have y2 : (j : Int) < 4 := by omega
          obtain ⟨hSb, hkz, csj, hrow, hlj⟩ := liesM_get HM.out j hjl
          have hwm := wtM_mem (List.getElem_mem hjl)
          generalize m[j] = mj at *
          obtain ⟨key, xv⟩ := mj
          simp only at hkz hrow hlj hwm
          obtain rfl : am = some ⟨bm, om, none⟩ := ham.at_.resolve_left (by omega)
          have hkw : ∀ b, Old w b → wr.heap[b]? = w.heap[b]? := fun b hb => tj.below.block b hb
          have hrow' := hrow.keep (hkw _ hSb)
          have hlj' := V.lies_keep (R' := false) (S' := Old wr) (fun h => h) hkw (fun x h => Nat.lt_of_lt_of_le h tj.below.size) _ hlj
          have hc1 := IH.out xv csj wr hlj' (by omega)
          obtain ⟨ek, eb, ei, es, eal, enl, ecl, eam, enm, ecm, rfl⟩ := V.ten hlj
          obtain ⟨q, q0, q1, q2, q3, q4, q5⟩ := row7 hrow'
          clear hlj hlj' hrow hrow'
          go_wp2_with fail
          refine hc1.mono ?_
          rintro e w3 ⟨u, csu, rfl, hlu, hwu1, b3⟩
          obtain ⟨uk, ub, ui, us, ual, unl, ucl, uam, unm, ucm, rfl⟩ := V.ten hlu
          go_wp2_with fail
          have hlt := tj.lt
          have hzb := b3.size
          have hz := alloc_size w3 (.cells #[.int .i64 uk, .bool ub, .int .i64 ui, .string us, .slice ual unl ucl, .slice uam unm ucm] 25)
          have BW : Below wr.heap.size wr (w3.alloc (.cells #[.int .i64 uk, .bool ub, .int .i64 ui, .string us, .slice ual unl ucl, .slice uam unm ucm] 25)) := b3.alloc hzb _
          have T4 := (tj.grown (grown_of_below b3) (fun r e => by cases e)).grown (World.grownBy_alloc w3 (.cells #[.int .i64 uk, .bool ub, .int .i64 ui, .string us, .slice ual unl ucl, .slice uam unm ucm] 25) none) (fun r e => by cases e)
          have x0 : (w3.alloc (.cells #[.int .i64 uk, .bool ub, .int .i64 ui, .string us, .slice ual unl ucl, .slice uam unm ucm] 25)).cell? ⟨w3.heap.size, 0, none⟩ = some (.int .i64 uk) := by rw [cell_of_block (heap_alloc_new w3 _)]; rfl
          have x1 : (w3.alloc (.cells #[.int .i64 uk, .bool ub, .int .i64 ui, .string us, .slice ual unl ucl, .slice uam unm ucm] 25)).cell? ⟨w3.heap.size, 1, none⟩ = some (.bool ub) := by rw [cell_of_block (heap_alloc_new w3 _)]; rfl
          have x2 : (w3.alloc (.cells #[.int .i64 uk, .bool ub, .int .i64 ui, .string us, .slice ual unl ucl, .slice uam unm ucm] 25)).cell? ⟨w3.heap.size, 2, none⟩ = some (.int .i64 ui) := by rw [cell_of_block (heap_alloc_new w3 _)]; rfl
          have x3 : (w3.alloc (.cells #[.int .i64 uk, .bool ub, .int .i64 ui, .string us, .slice ual unl ucl, .slice uam unm ucm] 25)).cell? ⟨w3.heap.size, 3, none⟩ = some (.string us) := by rw [cell_of_block (heap_alloc_new w3 _)]; rfl
          have x4 : (w3.alloc (.cells #[.int .i64 uk, .bool ub, .int .i64 ui, .string us, .slice ual unl ucl, .slice uam unm ucm] 25)).cell? ⟨w3.heap.size, 4, none⟩ = some (.slice ual unl ucl) := by rw [cell_of_block (heap_alloc_new w3 _)]; rfl
          have x5 : (w3.alloc (.cells #[.int .i64 uk, .bool ub, .int .i64 ui, .string us, .slice ual unl ucl, .slice uam unm ucm] 25)).cell? ⟨w3.heap.size, 5, none⟩ = some (.slice uam unm ucm) := by rw [cell_of_block (heap_alloc_new w3 _)]; rfl
          have hlu' : u.lies false (w3.alloc (.cells #[.int .i64 uk, .bool ub, .int .i64 ui, .string us, .slice ual unl ucl, .slice uam unm ucm] 25)) (From (w.heap.size + 3) (w3.alloc (.cells #[.int .i64 uk, .bool ub, .int .i64 ui, .string us, .slice ual unl ucl, .slice uam unm ucm] 25))) [.int .i64 uk, .bool ub, .int .i64 ui, .string us, .slice ual unl ucl, .slice uam unm ucm] := V.lies_keep (fun h => h) (fun x hx => alloc_keep w3 _ hx.2) (fun x hx => ⟨by have := hx.1; omega, by have := hx.2; omega⟩) _ hlu
          have hbm : bm < w.heap.size := hSb
          have qk : (w3.alloc (.cells #[.int .i64 uk, .bool ub, .int .i64 ui, .string us, .slice ual unl ucl, .slice uam unm ucm] 25)).cell? ⟨bm, om + j * 7, none⟩ = some (.string key) := (BW.cell (p := ⟨bm, om + j * 7, none⟩) (by show bm < _; omega)).trans q
          replace d5 : (w3.alloc (.cells #[.int .i64 uk, .bool ub, .int .i64 ui, .string us, .slice ual unl ucl, .slice uam unm ucm] 25)).cell? ⟨w.heap.size, 5, none⟩ = some (.slice (some ⟨bm, om, none⟩) m.length cm) := by rw [cell_of_block T4.b0]; rfl
          have e5 : (w3.alloc (.cells #[.int .i64 uk, .bool ub, .int .i64 ui, .string us, .slice ual unl ucl, .slice uam unm ucm] 25)).cell? ⟨w.heap.size + 1 + 1, 5, none⟩ = some slv := by rw [cell_of_block T4.b2]; rfl
          obtain ⟨ao, cap, bo, oo, hsl, hh, hl⟩ := hsh.out
          have hl4 : liesM false (w3.alloc (.cells #[.int .i64 uk, .bool ub, .int .i64 ui, .string us, .slice ual unl ucl, .slice uam unm ucm] 25)) (From (w.heap.size + 3) (w3.alloc (.cells #[.int .i64 uk, .bool ub, .int .i64 ui, .string us, .slice ual unl ucl, .slice uam unm ucm] 25))) ms bo oo := liesM_keep (fun h => h) (fun x hx => BW.block x hx.2) (fun x hx => ⟨hx.1, by have := hx.2; omega⟩) _ hl
          clear hl q q0 q1 q2 q3 q4 q5 hsh hlu hkw hc1
          generalize (w3.alloc (.cells #[.int .i64 uk, .bool ub, .int .i64 ui, .string us, .slice ual unl ucl, .slice uam unm ucm] 25)) = wa at *
          have hz1 : w.heap.size < wa.heap.size := by omega
          have hz2 : bm < wa.heap.size := by omega
          have hz3 : w3.heap.size < wa.heap.size := by omega
          have hn1 : w.heap.size ≠ w.heap.size + 1 + 1 := by omega
          have hn2 : bm ≠ w.heap.size + 1 + 1 := by omega
          have hn3 : w3.heap.size ≠ w.heap.size + 1 + 1 := by omega
          have BD : Hid (Below wa.heap.size wa wa.drew) := (Below.refl _ _).drew
          have KP : Hid (∀ W', Below wa.heap.size wa W' → W'.cell? ⟨w.heap.size, 5, none⟩ = some (.slice (some ⟨bm, om, none⟩) m.length cm) ∧ W'.cell? ⟨bm, om + j * 7, none⟩ = some (.string key) ∧ W'.cell? ⟨w3.heap.size, 0, none⟩ = some (.int .i64 uk) ∧ W'.cell? ⟨w3.heap.size, 1, none⟩ = some (.bool ub) ∧ W'.cell? ⟨w3.heap.size, 2, none⟩ = some (.int .i64 ui) ∧ W'.cell? ⟨w3.heap.size, 3, none⟩ = some (.string us) ∧ W'.cell? ⟨w3.heap.size, 4, none⟩ = some (.slice ual unl ucl) ∧ W'.cell? ⟨w3.heap.size, 5, none⟩ = some (.slice uam unm ucm)) := fun W' hb => ⟨(hb.cell (p := ⟨w.heap.size, 5, none⟩) hz1).trans d5, (hb.cell (p := ⟨bm, om + j * 7, none⟩) hz2).trans qk, (hb.cell (p := ⟨w3.heap.size, 0, none⟩) hz3).trans x0, (hb.cell (p := ⟨w3.heap.size, 1, none⟩) hz3).trans x1, (hb.cell (p := ⟨w3.heap.size, 2, none⟩) hz3).trans x2, (hb.cell (p := ⟨w3.heap.size, 3, none⟩) hz3).trans x3, (hb.cell (p := ⟨w3.heap.size, 4, none⟩) hz3).trans x4, (hb.cell (p := ⟨w3.heap.size, 5, none⟩) hz3).trans x5⟩
          have KS : Hid (∀ W0 v, Below wa.heap.size wa W0 → (W0.setCell ⟨w.heap.size + 1 + 1, 5, none⟩ v).cell? ⟨w.heap.size, 5, none⟩ = some (.slice (some ⟨bm, om, none⟩) m.length cm) ∧ (W0.setCell ⟨w.heap.size + 1 + 1, 5, none⟩ v).cell? ⟨bm, om + j * 7, none⟩ = some (.string key) ∧ (W0.setCell ⟨w.heap.size + 1 + 1, 5, none⟩ v).cell? ⟨w3.heap.size, 0, none⟩ = some (.int .i64 uk) ∧ (W0.setCell ⟨w.heap.size + 1 + 1, 5, none⟩ v).cell? ⟨w3.heap.size, 1, none⟩ = some (.bool ub) ∧ (W0.setCell ⟨w.heap.size + 1 + 1, 5, none⟩ v).cell? ⟨w3.heap.size, 2, none⟩ = some (.int .i64 ui) ∧ (W0.setCell ⟨w.heap.size + 1 + 1, 5, none⟩ v).cell? ⟨w3.heap.size, 3, none⟩ = some (.string us) ∧ (W0.setCell ⟨w.heap.size + 1 + 1, 5, none⟩ v).cell? ⟨w3.heap.size, 4, none⟩ = some (.slice ual unl ucl) ∧ (W0.setCell ⟨w.heap.size + 1 + 1, 5, none⟩ v).cell? ⟨w3.heap.size, 5, none⟩ = some (.slice uam unm ucm)) := fun W0 v hb => ⟨(cell_set_ne hn1 _).trans ((hb.cell (p := ⟨w.heap.size, 5, none⟩) hz1).trans d5), (cell_set_ne hn2 _).trans ((hb.cell (p := ⟨bm, om + j * 7, none⟩) hz2).trans qk), (cell_set_ne hn3 _).trans ((hb.cell (p := ⟨w3.heap.size, 0, none⟩) hz3).trans x0), (cell_set_ne hn3 _).trans ((hb.cell (p := ⟨w3.heap.size, 1, none⟩) hz3).trans x1), (cell_set_ne hn3 _).trans ((hb.cell (p := ⟨w3.heap.size, 2, none⟩) hz3).trans x2), (cell_set_ne hn3 _).trans ((hb.cell (p := ⟨w3.heap.size, 3, none⟩) hz3).trans x3), (cell_set_ne hn3 _).trans ((hb.cell (p := ⟨w3.heap.size, 4, none⟩) hz3).trans x4), (cell_set_ne hn3 _).trans ((hb.cell (p := ⟨w3.heap.size, 5, none⟩) hz3).trans x5)⟩
          have PC : Hid (∀ W', Below wa.heap.size wa W' → ∀ t : ByteArray, t.size ≤ 20 → Calls Tryd.prog 48 #[slv, .agg #[.string t, .int .i64 uk, .bool ub, .int .i64 ui, .string us, .slice ual unl ucl, .slice uam unm ucm]] W' (PutPost (From (w.heap.size + 3) wa) ms (t, u) W')) := fun W' hb t ht => by
            have hbs := hb.size
            rw [hsl]
            exact put_any ms ao cap bo oo t u [.int .i64 uk, .bool ub, .int .i64 ui, .string us, .slice ual unl ucl, .slice uam unm ucm] W' _ (fun x hx => by have := hx.2; omega) hh (liesM_keep (fun h => h) (fun x hx => hb.block x hx.2) (fun _ h => h) _ hl4) (V.lies_keep (fun h => h) (fun x hx => hb.block x hx.2) (fun _ h => h) _ hlu') (Nat.le_trans ht (by decide)) (by have := hml.out; omega)
          have LC : Hid (Calls Tryd.prog 28 #[.string key] wa.drew (PlPost key wa.drew)) := lplain_any key wa.drew (by omega)
          have HT : Hid (∀ W', Below wa.heap.size wa W' → TwF w #[.int .i64 k, .bool b, .int .i64 i, .string s, .slice al l.length cl, .slice (some ⟨bm, om, none⟩) m.length cm] #[.int .i64 5, .bool false, .int .i64 0, .string ⟨#[]⟩, .slice none 0 0, slv] W') := fun W' hb => T4.grown (grown_of_below hb) (fun r e => by cases e)
          have hB3 : w.heap.size + 3 ≤ wa.heap.size := by omega
          clear x0 x1 x2 x3 x4 x5 qk d5 hl4 hlu' hh hsl T4 tj BW b3
          refine wp_region_held_drew (S := fun W' => W'.cell? ⟨w.heap.size, 5, none⟩ = some (.slice (some ⟨bm, om, none⟩) m.length cm) ∧ W'.cell? ⟨bm, om + j * 7, none⟩ = some (.string key) ∧ W'.cell? ⟨w3.heap.size, 0, none⟩ = some (.int .i64 uk) ∧ W'.cell? ⟨w3.heap.size, 1, none⟩ = some (.bool ub) ∧ W'.cell? ⟨w3.heap.size, 2, none⟩ = some (.int .i64 ui) ∧ W'.cell? ⟨w3.heap.size, 3, none⟩ = some (.string us) ∧ W'.cell? ⟨w3.heap.size, 4, none⟩ = some (.slice ual unl ucl) ∧ W'.cell? ⟨w3.heap.size, 5, none⟩ = some (.slice uam unm ucm)) (by kernel_rfl) (KP.out _ BD.out) (fun hHeld => ?_)
          (refine wpAnyH_take (i := 0) (v := ?_) rfl (by kernel_rfl) (by kernel_rfl) (by kernel_rfl) (fun _ _ _ h => h) (Or.inl ⟨by rfl, ?_⟩) (by assumption) ?_; rotate_left 1; (intro W0 hSw; (try dsimp only at hSw); go_simp; (try with_reducible rfl)); (try simp only [Act.put, List.setIfInBounds_toArray, List.set_cons_zero, List.set_cons_succ]))
          (refine wpAnyH_take (i := 2) (v := ?_) rfl (by kernel_rfl) (by kernel_rfl) (by kernel_rfl) (fun _ _ _ h => h) (Or.inl ⟨by rfl, ?_⟩) (by assumption) ?_; rotate_left 1; (intro W0 hSw; (try dsimp only at hSw); go_simp; (try with_reducible rfl)); (try simp only [Act.put, List.setIfInBounds_toArray, List.set_cons_zero, List.set_cons_succ]))
          (refine wpAnyH_take (i := 3) (v := ?_) rfl (by kernel_rfl) (by kernel_rfl) (by kernel_rfl) (fun _ _ _ h => h) (Or.inl ⟨by rfl, ?_⟩) (by assumption) ?_; rotate_left 1; (intro W0 hSw; (try dsimp only at hSw); go_simp; (try with_reducible rfl)); (try simp only [Act.put, List.setIfInBounds_toArray, List.set_cons_zero, List.set_cons_succ]))
          (refine wpAnyH_take (i := 4) (v := ?_) rfl (by kernel_rfl) (by kernel_rfl) (by kernel_rfl) (fun _ _ _ h => h) (Or.inl ⟨by rfl, ?_⟩) (by assumption) ?_; rotate_left 1; (intro W0 hSw; (try dsimp only at hSw); go_simp; (try with_reducible rfl)); (try simp only [Act.put, List.setIfInBounds_toArray, List.set_cons_zero, List.set_cons_succ]))
          (refine wpAnyH_take (i := 5) (v := ?_) rfl (by kernel_rfl) (by kernel_rfl) (by kernel_rfl) (fun _ _ _ h => h) (Or.inl ⟨by rfl, ?_⟩) (by assumption) ?_; rotate_left 1; (intro W0 hSw; (try dsimp only at hSw); go_simp; (try with_reducible rfl)); (try simp only [Act.put, List.setIfInBounds_toArray, List.set_cons_zero, List.set_cons_succ]))
          (refine wpAnyH_take (i := 6) (v := ?_) rfl (by kernel_rfl) (by kernel_rfl) (by kernel_rfl) (fun _ _ _ h => h) (Or.inl ⟨by rfl, ?_⟩) (by assumption) ?_; rotate_left 1; (intro W0 hSw; (try dsimp only at hSw); go_simp; (try with_reducible rfl)); (try simp only [Act.put, List.setIfInBounds_toArray, List.set_cons_zero, List.set_cons_succ]))
          (refine wpAnyH_take (i := 7) (v := ?_) rfl (by kernel_rfl) (by kernel_rfl) (by kernel_rfl) (fun _ _ _ h => h) (Or.inl ⟨by rfl, ?_⟩) (by assumption) ?_; rotate_left 1; (intro W0 hSw; (try dsimp only at hSw); go_simp; (try with_reducible rfl)); (try simp only [Act.put, List.setIfInBounds_toArray, List.set_cons_zero, List.set_cons_succ]))
          (refine wpAnyH_take (i := 9) (v := ?_) rfl (by kernel_rfl) (by kernel_rfl) (by kernel_rfl) (fun _ _ _ h => h) (Or.inl ⟨by rfl, ?_⟩) (by assumption) ?_; rotate_left 1; (intro W0 hSw; (try dsimp only at hSw); go_simp; (try with_reducible rfl)); (try simp only [Act.put, List.setIfInBounds_toArray, List.set_cons_zero, List.set_cons_succ]))
          refine wpAnyH_ready (rs := [1, 8]) (by kernel_rfl) (by simp) ?_
          refine AllReadyH.cons rfl (fun K hK => ?_) ?_
          · go_simp
            refine hK.out _ _ (KP.out _ BD.out) (fun hHeld => ?_)
            clear hK K
            (try simp only [Act.put, List.setIfInBounds_toArray, List.set_cons_zero, List.set_cons_succ])
            refine wpAnyH_ready (rs := [8]) (by kernel_rfl) (by simp) ?_
            refine AllReadyH.cons rfl (fun K hK => ?_) AllReadyH.nil
            go_simp
            refine LC.out.mono ?_
            rintro e w5 ⟨t, rfl, ht20, hts, b5⟩
            have bw5 : Hid (Below wa.heap.size wa w5) := BD.out.trans b5
            have e6 : w5.cell? ⟨w.heap.size + 1 + 1, 5, none⟩ = some slv := (by rw [cell_of_block (HT.out w5 bw5.out).b2]; rfl)
            clear b5
            go_wp2_with fail
            refine hK.out _ _ (KP.out _ bw5.out) (fun hHeld => ?_)
            clear hK K
            (try simp only [Act.put, List.setIfInBounds_toArray, List.set_cons_zero, List.set_cons_succ])
            (refine wpAnyH_take (i := 10) (v := ?_) rfl (by kernel_rfl) (by kernel_rfl) (by kernel_rfl) (fun _ _ _ h => h) (Or.inl ⟨by rfl, ?_⟩) (by assumption) ?_; rotate_left 1; (intro W0 hSw; (try dsimp only at hSw); go_simp; (try with_reducible rfl)); (try simp only [Act.put, List.setIfInBounds_toArray, List.set_cons_zero, List.set_cons_succ]))
            refine wpAnyH_ready (rs := [11]) (by kernel_rfl) (by simp) ?_
            refine AllReadyH.cons rfl (fun K hK => ?_) AllReadyH.nil
            go_simp
            refine (PC.out w5 bw5.out t ht20).mono ?_
            rintro e w6 ⟨ms', ao', cap', b', o', rfl, hh', hl', hle', b6⟩
            have bw6 : Hid (Below wa.heap.size wa w6) := bw5.out.trans (b6.mono bw5.out.size)
            have f6 : w6.cell? ⟨w.heap.size + 1 + 1, 5, none⟩ = some slv := (by rw [cell_of_block (HT.out w6 bw6.out).b2]; rfl)
            have g6 : w6.frozen? ⟨w.heap.size + 1 + 1, 5, none⟩ = false := frozen_of_block (HT.out w6 bw6.out).b2 5
            have s6 : Hid (w5.heap.size ≤ w6.heap.size) := b6.size
            have hL : Hid _ := hl'
            have hH : Hid _ := hh'
            have hE : Hid _ := hle'
            clear b6 hl' hh' hle'
            go_wp2_with fail
            refine hK.out _ _ (KP.out _ bw6.out) (fun hHeld => ?_)
            clear hK K
            (try simp only [Act.put, List.setIfInBounds_toArray, List.set_cons_zero, List.set_cons_succ])
            (refine wpAnyH_take (i := 12) (v := ?_) rfl (by kernel_rfl) (by kernel_rfl) (by kernel_rfl) (fun _ _ _ h => h) (Or.inl ⟨by rfl, ?_⟩) (by assumption) ?_; rotate_left 1; (intro W0 hSw; (try dsimp only at hSw); go_simp; (try with_reducible rfl)); (try simp only [Act.put, List.setIfInBounds_toArray, List.set_cons_zero, List.set_cons_succ]))
            refine wpAnyH_ready (rs := [13]) (by kernel_rfl) (by simp) ?_
            refine AllReadyH.cons rfl (fun K hK => ?_) AllReadyH.nil
            go_simp
            refine hK.out _ _ (KS.out _ _ bw6.out) (fun hHeld => ?_)
            clear hK K
            (try simp only [Act.put, List.setIfInBounds_toArray, List.set_cons_zero, List.set_cons_succ])
            refine wpAnyH_done (by kernel_rfl) ?_ _
            go_wp2_with fail
            go_roundw
            case rel => exact ⟨j + 1, ms', .slice ao' ms'.length cap', (by have h1 := hE.out.1; have h2 := hml0.out; show _ ≤ _; rw [Nat.pow_succ]; omega), by omega, by omega, by go_num, map_wts hwu.out ⟨ht20, hwu1⟩ hE.out.2, ⟨ao', cap', b', o', rfl, hH.out, map_rel hL.out bw5.out.size s6.out hB3 (by omega) _ _⟩, (HT.out w6 bw6.out).set 5 _ rfl⟩
            case measure => simp [RowKit.intOf]; omega
          refine AllReadyH.cons rfl (fun K hK => ?_) AllReadyH.nil
          · go_simp
            refine LC.out.mono ?_
            rintro e w5 ⟨t, rfl, ht20, hts, b5⟩
            have bw5 : Hid (Below wa.heap.size wa w5) := BD.out.trans b5
            have e6 : w5.cell? ⟨w.heap.size + 1 + 1, 5, none⟩ = some slv := (by rw [cell_of_block (HT.out w5 bw5.out).b2]; rfl)
            clear b5
            go_wp2_with fail
            refine hK.out _ _ (KP.out _ bw5.out) (fun hHeld => ?_)
            clear hK K
            (try simp only [Act.put, List.setIfInBounds_toArray, List.set_cons_zero, List.set_cons_succ])
            (refine wpAnyH_take (i := 10) (v := ?_) rfl (by kernel_rfl) (by kernel_rfl) (by kernel_rfl) (fun _ _ _ h => h) (Or.inl ⟨by rfl, ?_⟩) (by assumption) ?_; rotate_left 1; (intro W0 hSw; (try dsimp only at hSw); go_simp; (try with_reducible rfl)); (try simp only [Act.put, List.setIfInBounds_toArray, List.set_cons_zero, List.set_cons_succ]))
            refine wpAnyH_ready (rs := [1]) (by kernel_rfl) (by simp) ?_
            refine AllReadyH.cons rfl (fun K hK => ?_) AllReadyH.nil
            go_simp
            refine hK.out _ _ (KP.out _ bw5.out) (fun hHeld => ?_)
            clear hK K
            (try simp only [Act.put, List.setIfInBounds_toArray, List.set_cons_zero, List.set_cons_succ])
            refine wpAnyH_ready (rs := [11]) (by kernel_rfl) (by simp) ?_
            refine AllReadyH.cons rfl (fun K hK => ?_) AllReadyH.nil
            go_simp
            refine (PC.out w5 bw5.out t ht20).mono ?_
            rintro e w6 ⟨ms', ao', cap', b', o', rfl, hh', hl', hle', b6⟩
            have bw6 : Hid (Below wa.heap.size wa w6) := bw5.out.trans (b6.mono bw5.out.size)
            have f6 : w6.cell? ⟨w.heap.size + 1 + 1, 5, none⟩ = some slv := (by rw [cell_of_block (HT.out w6 bw6.out).b2]; rfl)
            have g6 : w6.frozen? ⟨w.heap.size + 1 + 1, 5, none⟩ = false := frozen_of_block (HT.out w6 bw6.out).b2 5
            have s6 : Hid (w5.heap.size ≤ w6.heap.size) := b6.size
            have hL : Hid _ := hl'
            have hH : Hid _ := hh'
            have hE : Hid _ := hle'
            clear b6 hl' hh' hle'
            go_wp2_with fail
            refine hK.out _ _ (KP.out _ bw6.out) (fun hHeld => ?_)
            clear hK K
            (try simp only [Act.put, List.setIfInBounds_toArray, List.set_cons_zero, List.set_cons_succ])
            (refine wpAnyH_take (i := 12) (v := ?_) rfl (by kernel_rfl) (by kernel_rfl) (by kernel_rfl) (fun _ _ _ h => h) (Or.inl ⟨by rfl, ?_⟩) (by assumption) ?_; rotate_left 1; (intro W0 hSw; (try dsimp only at hSw); go_simp; (try with_reducible rfl)); (try simp only [Act.put, List.setIfInBounds_toArray, List.set_cons_zero, List.set_cons_succ]))
            refine wpAnyH_ready (rs := [13]) (by kernel_rfl) (by simp) ?_
            refine AllReadyH.cons rfl (fun K hK => ?_) AllReadyH.nil
            go_simp
            refine hK.out _ _ (KS.out _ _ bw6.out) (fun hHeld => ?_)
            clear hK K
            (try simp only [Act.put, List.setIfInBounds_toArray, List.set_cons_zero, List.set_cons_succ])
            refine wpAnyH_done (by kernel_rfl) ?_ _
            go_wp2_with fail
            go_roundw
            case rel => exact ⟨j + 1, ms', .slice ao' ms'.length cap', (by have h1 := hE.out.1; have h2 := hml0.out; show _ ≤ _; rw [Nat.pow_succ]; omega), by omega, by omega, by go_num, map_wts hwu.out ⟨ht20, hwu1⟩ hE.out.2, ⟨ao', cap', b', o', rfl, hH.out, map_rel hL.out bw5.out.size s6.out hB3 (by omega) _ _⟩, (HT.out w6 bw6.out).set 5 _ rfl⟩
            case measure => simp [RowKit.intOf]; omega
        · obtain rfl : j = 4 := by omega
          have y2 : ¬ ((4 : Nat) : Int) < 4 := by omega
          obtain ⟨ao, cap, bo, oo, rfl, hh, hl⟩ := hsh.out
          have x0 : wr.cell? ⟨w.heap.size + 1 + 1, 0, none⟩ = some (.int .i64 5) := by rw [cell_of_block tj.b2]; rfl
          have r0 : wr.cell? ⟨w.heap.size + 1, 0, none⟩ = some (.int .i64 0) := by rw [cell_of_block tj.b1]; rfl
          have x1 : wr.cell? ⟨w.heap.size + 1 + 1, 1, none⟩ = some (.bool false) := by rw [cell_of_block tj.b2]; rfl
          have r1 : wr.cell? ⟨w.heap.size + 1, 1, none⟩ = some (.bool false) := by rw [cell_of_block tj.b1]; rfl
          have x2 : wr.cell? ⟨w.heap.size + 1 + 1, 2, none⟩ = some (.int .i64 0) := by rw [cell_of_block tj.b2]; rfl
          have r2 : wr.cell? ⟨w.heap.size + 1, 2, none⟩ = some (.int .i64 0) := by rw [cell_of_block tj.b1]; rfl
          have x3 : wr.cell? ⟨w.heap.size + 1 + 1, 3, none⟩ = some (.string ⟨#[]⟩) := by rw [cell_of_block tj.b2]; rfl
          have r3 : wr.cell? ⟨w.heap.size + 1, 3, none⟩ = some (.string ⟨#[]⟩) := by rw [cell_of_block tj.b1]; rfl
          have x4 : wr.cell? ⟨w.heap.size + 1 + 1, 4, none⟩ = some (.slice none 0 0) := by rw [cell_of_block tj.b2]; rfl
          have r4 : wr.cell? ⟨w.heap.size + 1, 4, none⟩ = some (.slice none 0 0) := by rw [cell_of_block tj.b1]; rfl
          have x5 : wr.cell? ⟨w.heap.size + 1 + 1, 5, none⟩ = some (.slice ao ms.length cap) := by rw [cell_of_block tj.b2]; rfl
          have r5 : wr.cell? ⟨w.heap.size + 1, 5, none⟩ = some (.slice none 0 0) := by rw [cell_of_block tj.b1]; rfl
          have rf : ∀ i, wr.frozen? ⟨w.heap.size + 1, i, none⟩ = false := frozen_of_block tj.b1
          have hB7 := tj.below
          have hlt := tj.lt
          have HO : Hid (liesM false wr (From (w.heap.size + 3) wr) ms bo oo) := hl
          have HH : Hid (Headed ao ms.length cap bo oo) := hh
          clear hl hh tj hsh
          go_wp2_with fail
          (try simp only [Exit.inBlock, Exit.then])
          refine bodyPost_ret (v := .agg #[.int .i64 5, .bool false, .int .i64 0, .string ⟨#[]⟩, .slice none 0 0, .slice ao ms.length cap]) (by rw [results_cell1 rfl]; go_simp) rfl ?_
          exact map_fin (B := w.heap.size + 3) (Below.set6 hB7 (by omega) _ _ _ _ _ _ _ _ _ _ _ _) (by omega) HH.out (liesM_set6 HO.out (by omega) _ _ _ _ _ _ _ _ _ _ _ _) hml.out hwu.out
      · obtain rfl : j = m.length := by omega
        have y1 : ¬ (m.length : Int) < m.length := by omega
        obtain ⟨ao, cap, bo, oo, rfl, hh, hl⟩ := hsh.out
        have x0 : wr.cell? ⟨w.heap.size + 1 + 1, 0, none⟩ = some (.int .i64 5) := by rw [cell_of_block tj.b2]; rfl
        have r0 : wr.cell? ⟨w.heap.size + 1, 0, none⟩ = some (.int .i64 0) := by rw [cell_of_block tj.b1]; rfl
        have x1 : wr.cell? ⟨w.heap.size + 1 + 1, 1, none⟩ = some (.bool false) := by rw [cell_of_block tj.b2]; rfl
        have r1 : wr.cell? ⟨w.heap.size + 1, 1, none⟩ = some (.bool false) := by rw [cell_of_block tj.b1]; rfl
        have x2 : wr.cell? ⟨w.heap.size + 1 + 1, 2, none⟩ = some (.int .i64 0) := by rw [cell_of_block tj.b2]; rfl
        have r2 : wr.cell? ⟨w.heap.size + 1, 2, none⟩ = some (.int .i64 0) := by rw [cell_of_block tj.b1]; rfl
        have x3 : wr.cell? ⟨w.heap.size + 1 + 1, 3, none⟩ = some (.string ⟨#[]⟩) := by rw [cell_of_block tj.b2]; rfl
        have r3 : wr.cell? ⟨w.heap.size + 1, 3, none⟩ = some (.string ⟨#[]⟩) := by rw [cell_of_block tj.b1]; rfl
        have x4 : wr.cell? ⟨w.heap.size + 1 + 1, 4, none⟩ = some (.slice none 0 0) := by rw [cell_of_block tj.b2]; rfl
        have r4 : wr.cell? ⟨w.heap.size + 1, 4, none⟩ = some (.slice none 0 0) := by rw [cell_of_block tj.b1]; rfl
        have x5 : wr.cell? ⟨w.heap.size + 1 + 1, 5, none⟩ = some (.slice ao ms.length cap) := by rw [cell_of_block tj.b2]; rfl
        have r5 : wr.cell? ⟨w.heap.size + 1, 5, none⟩ = some (.slice none 0 0) := by rw [cell_of_block tj.b1]; rfl
        have rf : ∀ i, wr.frozen? ⟨w.heap.size + 1, i, none⟩ = false := frozen_of_block tj.b1
        have hB7 := tj.below
        have hlt := tj.lt
        have HO : Hid (liesM false wr (From (w.heap.size + 3) wr) ms bo oo) := hl
        have HH : Hid (Headed ao ms.length cap bo oo) := hh
        clear hl hh tj hsh
        go_wp2_with fail
        (try simp only [Exit.inBlock, Exit.then])
        refine bodyPost_ret (v := .agg #[.int .i64 5, .bool false, .int .i64 0, .string ⟨#[]⟩, .slice none 0 0, .slice ao ms.length cap]) (by rw [results_cell1 rfl]; go_simp) rfl ?_
        exact map_fin (B := w.heap.size + 3) (Below.set6 hB7 (by omega) _ _ _ _ _ _ _ _ _ _ _ _) (by omega) HH.out (liesM_set6 HO.out (by omega) _ _ _ _ _ _ _ _ _ _ _ _) hml.out hwu.out
  · go_enter Tryd.func14, Tryd.ntmps14
    go_wp2_with fail
    go_loopw [9] (fun e wr => ∃ (j : Nat) (ms : List Mem) (slv : Value), Hid (ms.length + 1 ≤ 2 ^ j) ∧ j ≤ 4 ∧ j ≤ m.length ∧ e = .int .i64 (j : Int) ∧ Hid (∀ y ∈ ms, y.1.size ≤ 20 ∧ y.2.wt ≤ N) ∧ Hid (∃ ao cap bo oo, slv = .slice ao ms.length cap ∧ Headed ao ms.length cap bo oo ∧ liesM false wr (From (w.heap.size + 3) wr) ms bo oo) ∧ TwF w #[.int .i64 k, .bool b, .int .i64 i, .string s, .slice al l.length cl, .slice am m.length cm] #[.int .i64 5, .bool false, .int .i64 0, .string ⟨#[]⟩, .slice none 0 0, slv] wr) (fun e _ => 4 - (RowKit.intOf e).toNat)
    case atStart => exact ⟨0, [], .slice none 0 0, by show _ ≤ _; simp, by omega, by omega, rfl, fun u hu => (by cases hu), ⟨none, 0, 0, 0, rfl, headed_nil, by rw [liesM]; trivial⟩, T0.out⟩
    case round =>
      clear T0
      obtain ⟨j, ms, slv, hml0, hj4, hj, rfl, hwu, hsh, tj⟩ := hrel
      have hml : Hid (ms.length ≤ 15) := by
        show _ ≤ _
        have h1 := hml0.out
        have h2 : 2 ^ j ≤ 2 ^ 4 := Nat.pow_le_pow_right (by omega) hj4
        omega
      have d5 : wr.cell? ⟨w.heap.size, 5, none⟩ = some (.slice am m.length cm) := by rw [cell_of_block tj.b0]; rfl
      by_cases hjl : j < m.length
      · have y1 : (j : Int) < m.length := by omega
        by_cases h4 : j < 4
        · have y2 : (j : Int) < 4 := by omega
          obtain ⟨hSb, hkz, csj, hrow, hlj⟩ := liesM_get HM.out j hjl
          have hwm := wtM_mem (List.getElem_mem hjl)
          generalize m[j] = mj at *
          obtain ⟨key, xv⟩ := mj
          simp only at hkz hrow hlj hwm
          obtain rfl : am = some ⟨bm, om, none⟩ := ham.at_.resolve_left (by omega)
          have hkw : ∀ b, Old w b → wr.heap[b]? = w.heap[b]? := fun b hb => tj.below.block b hb
          have hrow' := hrow.keep (hkw _ hSb)
          have hlj' := V.lies_keep (R' := false) (S' := Old wr) (fun h => h) hkw (fun x h => Nat.lt_of_lt_of_le h tj.below.size) _ hlj
          have hc1 := IH.out xv csj wr hlj' (by omega)
          obtain ⟨ek, eb, ei, es, eal, enl, ecl, eam, enm, ecm, rfl⟩ := V.ten hlj
          obtain ⟨q, q0, q1, q2, q3, q4, q5⟩ := row7 hrow'
          clear hlj hlj' hrow hrow'
          go_wp2_with fail
          refine hc1.mono ?_
          rintro e w3 ⟨u, csu, rfl, hlu, hwu1, b3⟩
          obtain ⟨uk, ub, ui, us, ual, unl, ucl, uam, unm, ucm, rfl⟩ := V.ten hlu
          go_wp2_with fail
          have hlt := tj.lt
          have hzb := b3.size
          have hz := alloc_size w3 (.cells #[.int .i64 uk, .bool ub, .int .i64 ui, .string us, .slice ual unl ucl, .slice uam unm ucm] 25)
          have BW : Below wr.heap.size wr (w3.alloc (.cells #[.int .i64 uk, .bool ub, .int .i64 ui, .string us, .slice ual unl ucl, .slice uam unm ucm] 25)) := b3.alloc hzb _
          have T4 := (tj.grown (grown_of_below b3) (fun r e => by cases e)).grown (World.grownBy_alloc w3 (.cells #[.int .i64 uk, .bool ub, .int .i64 ui, .string us, .slice ual unl ucl, .slice uam unm ucm] 25) none) (fun r e => by cases e)
          have x0 : (w3.alloc (.cells #[.int .i64 uk, .bool ub, .int .i64 ui, .string us, .slice ual unl ucl, .slice uam unm ucm] 25)).cell? ⟨w3.heap.size, 0, none⟩ = some (.int .i64 uk) := by rw [cell_of_block (heap_alloc_new w3 _)]; rfl
          have x1 : (w3.alloc (.cells #[.int .i64 uk, .bool ub, .int .i64 ui, .string us, .slice ual unl ucl, .slice uam unm ucm] 25)).cell? ⟨w3.heap.size, 1, none⟩ = some (.bool ub) := by rw [cell_of_block (heap_alloc_new w3 _)]; rfl
          have x2 : (w3.alloc (.cells #[.int .i64 uk, .bool ub, .int .i64 ui, .string us, .slice ual unl ucl, .slice uam unm ucm] 25)).cell? ⟨w3.heap.size, 2, none⟩ = some (.int .i64 ui) := by rw [cell_of_block (heap_alloc_new w3 _)]; rfl
          have x3 : (w3.alloc (.cells #[.int .i64 uk, .bool ub, .int .i64 ui, .string us, .slice ual unl ucl, .slice uam unm ucm] 25)).cell? ⟨w3.heap.size, 3, none⟩ = some (.string us) := by rw [cell_of_block (heap_alloc_new w3 _)]; rfl
          have x4 : (w3.alloc (.cells #[.int .i64 uk, .bool ub, .int .i64 ui, .string us, .slice ual unl ucl, .slice uam unm ucm] 25)).cell? ⟨w3.heap.size, 4, none⟩ = some (.slice ual unl ucl) := by rw [cell_of_block (heap_alloc_new w3 _)]; rfl
          have x5 : (w3.alloc (.cells #[.int .i64 uk, .bool ub, .int .i64 ui, .string us, .slice ual unl ucl, .slice uam unm ucm] 25)).cell? ⟨w3.heap.size, 5, none⟩ = some (.slice uam unm ucm) := by rw [cell_of_block (heap_alloc_new w3 _)]; rfl
          have hlu' : u.lies false (w3.alloc (.cells #[.int .i64 uk, .bool ub, .int .i64 ui, .string us, .slice ual unl ucl, .slice uam unm ucm] 25)) (From (w.heap.size + 3) (w3.alloc (.cells #[.int .i64 uk, .bool ub, .int .i64 ui, .string us, .slice ual unl ucl, .slice uam unm ucm] 25))) [.int .i64 uk, .bool ub, .int .i64 ui, .string us, .slice ual unl ucl, .slice uam unm ucm] := V.lies_keep (fun h => h) (fun x hx => alloc_keep w3 _ hx.2) (fun x hx => ⟨by have := hx.1; omega, by have := hx.2; omega⟩) _ hlu
          have hbm : bm < w.heap.size := hSb
          have qk : (w3.alloc (.cells #[.int .i64 uk, .bool ub, .int .i64 ui, .string us, .slice ual unl ucl, .slice uam unm ucm] 25)).cell? ⟨bm, om + j * 7, none⟩ = some (.string key) := (BW.cell (p := ⟨bm, om + j * 7, none⟩) (by show bm < _; omega)).trans q
          replace d5 : (w3.alloc (.cells #[.int .i64 uk, .bool ub, .int .i64 ui, .string us, .slice ual unl ucl, .slice uam unm ucm] 25)).cell? ⟨w.heap.size, 5, none⟩ = some (.slice (some ⟨bm, om, none⟩) m.length cm) := by rw [cell_of_block T4.b0]; rfl
          have e5 : (w3.alloc (.cells #[.int .i64 uk, .bool ub, .int .i64 ui, .string us, .slice ual unl ucl, .slice uam unm ucm] 25)).cell? ⟨w.heap.size + 1 + 1, 5, none⟩ = some slv := by rw [cell_of_block T4.b2]; rfl
          obtain ⟨ao, cap, bo, oo, hsl, hh, hl⟩ := hsh.out
          have hl4 : liesM false (w3.alloc (.cells #[.int .i64 uk, .bool ub, .int .i64 ui, .string us, .slice ual unl ucl, .slice uam unm ucm] 25)) (From (w.heap.size + 3) (w3.alloc (.cells #[.int .i64 uk, .bool ub, .int .i64 ui, .string us, .slice ual unl ucl, .slice uam unm ucm] 25))) ms bo oo := liesM_keep (fun h => h) (fun x hx => BW.block x hx.2) (fun x hx => ⟨hx.1, by have := hx.2; omega⟩) _ hl
          clear hl q q0 q1 q2 q3 q4 q5 hsh hlu hkw hc1
          generalize (w3.alloc (.cells #[.int .i64 uk, .bool ub, .int .i64 ui, .string us, .slice ual unl ucl, .slice uam unm ucm] 25)) = wa at *
          have hz1 : w.heap.size < wa.heap.size := by omega
          have hz2 : bm < wa.heap.size := by omega
          have hz3 : w3.heap.size < wa.heap.size := by omega
          have hn1 : w.heap.size ≠ w.heap.size + 1 + 1 := by omega
          have hn2 : bm ≠ w.heap.size + 1 + 1 := by omega
          have hn3 : w3.heap.size ≠ w.heap.size + 1 + 1 := by omega
          have BD : Hid (Below wa.heap.size wa wa.drew) := (Below.refl _ _).drew
          have KP : Hid (∀ W', Below wa.heap.size wa W' → W'.cell? ⟨w.heap.size, 5, none⟩ = some (.slice (some ⟨bm, om, none⟩) m.length cm) ∧ W'.cell? ⟨bm, om + j * 7, none⟩ = some (.string key) ∧ W'.cell? ⟨w3.heap.size, 0, none⟩ = some (.int .i64 uk) ∧ W'.cell? ⟨w3.heap.size, 1, none⟩ = some (.bool ub) ∧ W'.cell? ⟨w3.heap.size, 2, none⟩ = some (.int .i64 ui) ∧ W'.cell? ⟨w3.heap.size, 3, none⟩ = some (.string us) ∧ W'.cell? ⟨w3.heap.size, 4, none⟩ = some (.slice ual unl ucl) ∧ W'.cell? ⟨w3.heap.size, 5, none⟩ = some (.slice uam unm ucm)) := fun W' hb => ⟨(hb.cell (p := ⟨w.heap.size, 5, none⟩) hz1).trans d5, (hb.cell (p := ⟨bm, om + j * 7, none⟩) hz2).trans qk, (hb.cell (p := ⟨w3.heap.size, 0, none⟩) hz3).trans x0, (hb.cell (p := ⟨w3.heap.size, 1, none⟩) hz3).trans x1, (hb.cell (p := ⟨w3.heap.size, 2, none⟩) hz3).trans x2, (hb.cell (p := ⟨w3.heap.size, 3, none⟩) hz3).trans x3, (hb.cell (p := ⟨w3.heap.size, 4, none⟩) hz3).trans x4, (hb.cell (p := ⟨w3.heap.size, 5, none⟩) hz3).trans x5⟩
          have KS : Hid (∀ W0 v, Below wa.heap.size wa W0 → (W0.setCell ⟨w.heap.size + 1 + 1, 5, none⟩ v).cell? ⟨w.heap.size, 5, none⟩ = some (.slice (some ⟨bm, om, none⟩) m.length cm) ∧ (W0.setCell ⟨w.heap.size + 1 + 1, 5, none⟩ v).cell? ⟨bm, om + j * 7, none⟩ = some (.string key) ∧ (W0.setCell ⟨w.heap.size + 1 + 1, 5, none⟩ v).cell? ⟨w3.heap.size, 0, none⟩ = some (.int .i64 uk) ∧ (W0.setCell ⟨w.heap.size + 1 + 1, 5, none⟩ v).cell? ⟨w3.heap.size, 1, none⟩ = some (.bool ub) ∧ (W0.setCell ⟨w.heap.size + 1 + 1, 5, none⟩ v).cell? ⟨w3.heap.size, 2, none⟩ = some (.int .i64 ui) ∧ (W0.setCell ⟨w.heap.size + 1 + 1, 5, none⟩ v).cell? ⟨w3.heap.size, 3, none⟩ = some (.string us) ∧ (W0.setCell ⟨w.heap.size + 1 + 1, 5, none⟩ v).cell? ⟨w3.heap.size, 4, none⟩ = some (.slice ual unl ucl) ∧ (W0.setCell ⟨w.heap.size + 1 + 1, 5, none⟩ v).cell? ⟨w3.heap.size, 5, none⟩ = some (.slice uam unm ucm)) := fun W0 v hb => ⟨(cell_set_ne hn1 _).trans ((hb.cell (p := ⟨w.heap.size, 5, none⟩) hz1).trans d5), (cell_set_ne hn2 _).trans ((hb.cell (p := ⟨bm, om + j * 7, none⟩) hz2).trans qk), (cell_set_ne hn3 _).trans ((hb.cell (p := ⟨w3.heap.size, 0, none⟩) hz3).trans x0), (cell_set_ne hn3 _).trans ((hb.cell (p := ⟨w3.heap.size, 1, none⟩) hz3).trans x1), (cell_set_ne hn3 _).trans ((hb.cell (p := ⟨w3.heap.size, 2, none⟩) hz3).trans x2), (cell_set_ne hn3 _).trans ((hb.cell (p := ⟨w3.heap.size, 3, none⟩) hz3).trans x3), (cell_set_ne hn3 _).trans ((hb.cell (p := ⟨w3.heap.size, 4, none⟩) hz3).trans x4), (cell_set_ne hn3 _).trans ((hb.cell (p := ⟨w3.heap.size, 5, none⟩) hz3).trans x5)⟩
          have PC : Hid (∀ W', Below wa.heap.size wa W' → ∀ t : ByteArray, t.size ≤ 20 → Calls Tryd.prog 48 #[slv, .agg #[.string t, .int .i64 uk, .bool ub, .int .i64 ui, .string us, .slice ual unl ucl, .slice uam unm ucm]] W' (PutPost (From (w.heap.size + 3) wa) ms (t, u) W')) := fun W' hb t ht => by
            have hbs := hb.size
            rw [hsl]
            exact put_any ms ao cap bo oo t u [.int .i64 uk, .bool ub, .int .i64 ui, .string us, .slice ual unl ucl, .slice uam unm ucm] W' _ (fun x hx => by have := hx.2; omega) hh (liesM_keep (fun h => h) (fun x hx => hb.block x hx.2) (fun _ h => h) _ hl4) (V.lies_keep (fun h => h) (fun x hx => hb.block x hx.2) (fun _ h => h) _ hlu') (Nat.le_trans ht (by decide)) (by have := hml.out; omega)
          have LC : Hid (Calls Tryd.prog 28 #[.string key] wa.drew (PlPost key wa.drew)) := lplain_any key wa.drew (by omega)
          have HT : Hid (∀ W', Below wa.heap.size wa W' → TwF w #[.int .i64 k, .bool b, .int .i64 i, .string s, .slice al l.length cl, .slice (some ⟨bm, om, none⟩) m.length cm] #[.int .i64 5, .bool false, .int .i64 0, .string ⟨#[]⟩, .slice none 0 0, slv] W') := fun W' hb => T4.grown (grown_of_below hb) (fun r e => by cases e)
          have hB3 : w.heap.size + 3 ≤ wa.heap.size := by omega
          clear x0 x1 x2 x3 x4 x5 qk d5 hl4 hlu' hh hsl T4 tj BW b3
          refine wp_region_held_drew (S := fun W' => W'.cell? ⟨w.heap.size, 5, none⟩ = some (.slice (some ⟨bm, om, none⟩) m.length cm) ∧ W'.cell? ⟨bm, om + j * 7, none⟩ = some (.string key) ∧ W'.cell? ⟨w3.heap.size, 0, none⟩ = some (.int .i64 uk) ∧ W'.cell? ⟨w3.heap.size, 1, none⟩ = some (.bool ub) ∧ W'.cell? ⟨w3.heap.size, 2, none⟩ = some (.int .i64 ui) ∧ W'.cell? ⟨w3.heap.size, 3, none⟩ = some (.string us) ∧ W'.cell? ⟨w3.heap.size, 4, none⟩ = some (.slice ual unl ucl) ∧ W'.cell? ⟨w3.heap.size, 5, none⟩ = some (.slice uam unm ucm)) (by kernel_rfl) (KP.out _ BD.out) (fun hHeld => ?_)
          (refine wpAnyH_take (i := 0) (v := ?_) rfl (by kernel_rfl) (by kernel_rfl) (by kernel_rfl) (fun _ _ _ h => h) (Or.inl ⟨by rfl, ?_⟩) (by assumption) ?_; rotate_left 1; (intro W0 hSw; (try dsimp only at hSw); go_simp; (try with_reducible rfl)); (try simp only [Act.put, List.setIfInBounds_toArray, List.set_cons_zero, List.set_cons_succ]))
          (refine wpAnyH_take (i := 2) (v := ?_) rfl (by kernel_rfl) (by kernel_rfl) (by kernel_rfl) (fun _ _ _ h => h) (Or.inl ⟨by rfl, ?_⟩) (by assumption) ?_; rotate_left 1; (intro W0 hSw; (try dsimp only at hSw); go_simp; (try with_reducible rfl)); (try simp only [Act.put, List.setIfInBounds_toArray, List.set_cons_zero, List.set_cons_succ]))
          (refine wpAnyH_take (i := 3) (v := ?_) rfl (by kernel_rfl) (by kernel_rfl) (by kernel_rfl) (fun _ _ _ h => h) (Or.inl ⟨by rfl, ?_⟩) (by assumption) ?_; rotate_left 1; (intro W0 hSw; (try dsimp only at hSw); go_simp; (try with_reducible rfl)); (try simp only [Act.put, List.setIfInBounds_toArray, List.set_cons_zero, List.set_cons_succ]))
          (refine wpAnyH_take (i := 4) (v := ?_) rfl (by kernel_rfl) (by kernel_rfl) (by kernel_rfl) (fun _ _ _ h => h) (Or.inl ⟨by rfl, ?_⟩) (by assumption) ?_; rotate_left 1; (intro W0 hSw; (try dsimp only at hSw); go_simp; (try with_reducible rfl)); (try simp only [Act.put, List.setIfInBounds_toArray, List.set_cons_zero, List.set_cons_succ]))
          (refine wpAnyH_take (i := 5) (v := ?_) rfl (by kernel_rfl) (by kernel_rfl) (by kernel_rfl) (fun _ _ _ h => h) (Or.inl ⟨by rfl, ?_⟩) (by assumption) ?_; rotate_left 1; (intro W0 hSw; (try dsimp only at hSw); go_simp; (try with_reducible rfl)); (try simp only [Act.put, List.setIfInBounds_toArray, List.set_cons_zero, List.set_cons_succ]))
          (refine wpAnyH_take (i := 6) (v := ?_) rfl (by kernel_rfl) (by kernel_rfl) (by kernel_rfl) (fun _ _ _ h => h) (Or.inl ⟨by rfl, ?_⟩) (by assumption) ?_; rotate_left 1; (intro W0 hSw; (try dsimp only at hSw); go_simp; (try with_reducible rfl)); (try simp only [Act.put, List.setIfInBounds_toArray, List.set_cons_zero, List.set_cons_succ]))
          (refine wpAnyH_take (i := 7) (v := ?_) rfl (by kernel_rfl) (by kernel_rfl) (by kernel_rfl) (fun _ _ _ h => h) (Or.inl ⟨by rfl, ?_⟩) (by assumption) ?_; rotate_left 1; (intro W0 hSw; (try dsimp only at hSw); go_simp; (try with_reducible rfl)); (try simp only [Act.put, List.setIfInBounds_toArray, List.set_cons_zero, List.set_cons_succ]))
          (refine wpAnyH_take (i := 9) (v := ?_) rfl (by kernel_rfl) (by kernel_rfl) (by kernel_rfl) (fun _ _ _ h => h) (Or.inl ⟨by rfl, ?_⟩) (by assumption) ?_; rotate_left 1; (intro W0 hSw; (try dsimp only at hSw); go_simp; (try with_reducible rfl)); (try simp only [Act.put, List.setIfInBounds_toArray, List.set_cons_zero, List.set_cons_succ]))
          refine wpAnyH_ready (rs := [1, 8]) (by kernel_rfl) (by simp) ?_
          refine AllReadyH.cons rfl (fun K hK => ?_) ?_
          · go_simp
            refine hK.out _ _ (KP.out _ BD.out) (fun hHeld => ?_)
            clear hK K
            (try simp only [Act.put, List.setIfInBounds_toArray, List.set_cons_zero, List.set_cons_succ])
            refine wpAnyH_ready (rs := [8]) (by kernel_rfl) (by simp) ?_
            refine AllReadyH.cons rfl (fun K hK => ?_) AllReadyH.nil
            go_simp
            refine LC.out.mono ?_
            rintro e w5 ⟨t, rfl, ht20, hts, b5⟩
            have bw5 : Hid (Below wa.heap.size wa w5) := BD.out.trans b5
            have e6 : w5.cell? ⟨w.heap.size + 1 + 1, 5, none⟩ = some slv := (by rw [cell_of_block (HT.out w5 bw5.out).b2]; rfl)
            clear b5
            go_wp2_with fail
            refine hK.out _ _ (KP.out _ bw5.out) (fun hHeld => ?_)
            clear hK K
            (try simp only [Act.put, List.setIfInBounds_toArray, List.set_cons_zero, List.set_cons_succ])
            (refine wpAnyH_take (i := 10) (v := ?_) rfl (by kernel_rfl) (by kernel_rfl) (by kernel_rfl) (fun _ _ _ h => h) (Or.inl ⟨by rfl, ?_⟩) (by assumption) ?_; rotate_left 1; (intro W0 hSw; (try dsimp only at hSw); go_simp; (try with_reducible rfl)); (try simp only [Act.put, List.setIfInBounds_toArray, List.set_cons_zero, List.set_cons_succ]))
            refine wpAnyH_ready (rs := [11]) (by kernel_rfl) (by simp) ?_
            refine AllReadyH.cons rfl (fun K hK => ?_) AllReadyH.nil
            go_simp
            refine (PC.out w5 bw5.out t ht20).mono ?_
            rintro e w6 ⟨ms', ao', cap', b', o', rfl, hh', hl', hle', b6⟩
            have bw6 : Hid (Below wa.heap.size wa w6) := bw5.out.trans (b6.mono bw5.out.size)
            have f6 : w6.cell? ⟨w.heap.size + 1 + 1, 5, none⟩ = some slv := (by rw [cell_of_block (HT.out w6 bw6.out).b2]; rfl)
            have g6 : w6.frozen? ⟨w.heap.size + 1 + 1, 5, none⟩ = false := frozen_of_block (HT.out w6 bw6.out).b2 5
            have s6 : Hid (w5.heap.size ≤ w6.heap.size) := b6.size
            have hL : Hid _ := hl'
            have hH : Hid _ := hh'
            have hE : Hid _ := hle'
            clear b6 hl' hh' hle'
            go_wp2_with fail
            refine hK.out _ _ (KP.out _ bw6.out) (fun hHeld => ?_)
            clear hK K
            (try simp only [Act.put, List.setIfInBounds_toArray, List.set_cons_zero, List.set_cons_succ])
            (refine wpAnyH_take (i := 12) (v := ?_) rfl (by kernel_rfl) (by kernel_rfl) (by kernel_rfl) (fun _ _ _ h => h) (Or.inl ⟨by rfl, ?_⟩) (by assumption) ?_; rotate_left 1; (intro W0 hSw; (try dsimp only at hSw); go_simp; (try with_reducible rfl)); (try simp only [Act.put, List.setIfInBounds_toArray, List.set_cons_zero, List.set_cons_succ]))
            refine wpAnyH_ready (rs := [13]) (by kernel_rfl) (by simp) ?_
            refine AllReadyH.cons rfl (fun K hK => ?_) AllReadyH.nil
            go_simp
            refine hK.out _ _ (KS.out _ _ bw6.out) (fun hHeld => ?_)
            clear hK K
            (try simp only [Act.put, List.setIfInBounds_toArray, List.set_cons_zero, List.set_cons_succ])
            refine wpAnyH_done (by kernel_rfl) ?_ _
            go_wp2_with fail
            go_roundw
            case rel => exact ⟨j + 1, ms', .slice ao' ms'.length cap', (by have h1 := hE.out.1; have h2 := hml0.out; show _ ≤ _; rw [Nat.pow_succ]; omega), by omega, by omega, by go_num, map_wts hwu.out ⟨ht20, hwu1⟩ hE.out.2, ⟨ao', cap', b', o', rfl, hH.out, map_rel hL.out bw5.out.size s6.out hB3 (by omega) _ _⟩, (HT.out w6 bw6.out).set 5 _ rfl⟩
            case measure => simp [RowKit.intOf]; omega
          refine AllReadyH.cons rfl (fun K hK => ?_) AllReadyH.nil
          · go_simp
            refine LC.out.mono ?_
            rintro e w5 ⟨t, rfl, ht20, hts, b5⟩
            have bw5 : Hid (Below wa.heap.size wa w5) := BD.out.trans b5
            have e6 : w5.cell? ⟨w.heap.size + 1 + 1, 5, none⟩ = some slv := (by rw [cell_of_block (HT.out w5 bw5.out).b2]; rfl)
            clear b5
            go_wp2_with fail
            refine hK.out _ _ (KP.out _ bw5.out) (fun hHeld => ?_)
            clear hK K
            (try simp only [Act.put, List.setIfInBounds_toArray, List.set_cons_zero, List.set_cons_succ])
            (refine wpAnyH_take (i := 10) (v := ?_) rfl (by kernel_rfl) (by kernel_rfl) (by kernel_rfl) (fun _ _ _ h => h) (Or.inl ⟨by rfl, ?_⟩) (by assumption) ?_; rotate_left 1; (intro W0 hSw; (try dsimp only at hSw); go_simp; (try with_reducible rfl)); (try simp only [Act.put, List.setIfInBounds_toArray, List.set_cons_zero, List.set_cons_succ]))
            refine wpAnyH_ready (rs := [1]) (by kernel_rfl) (by simp) ?_
            refine AllReadyH.cons rfl (fun K hK => ?_) AllReadyH.nil
            go_simp
            refine hK.out _ _ (KP.out _ bw5.out) (fun hHeld => ?_)
            clear hK K
            (try simp only [Act.put, List.setIfInBounds_toArray, List.set_cons_zero, List.set_cons_succ])
            refine wpAnyH_ready (rs := [11]) (by kernel_rfl) (by simp) ?_
            refine AllReadyH.cons rfl (fun K hK => ?_) AllReadyH.nil
            go_simp
            refine (PC.out w5 bw5.out t ht20).mono ?_
            rintro e w6 ⟨ms', ao', cap', b', o', rfl, hh', hl', hle', b6⟩
            have bw6 : Hid (Below wa.heap.size wa w6) := bw5.out.trans (b6.mono bw5.out.size)
            have f6 : w6.cell? ⟨w.heap.size + 1 + 1, 5, none⟩ = some slv := (by rw [cell_of_block (HT.out w6 bw6.out).b2]; rfl)
            have g6 : w6.frozen? ⟨w.heap.size + 1 + 1, 5, none⟩ = false := frozen_of_block (HT.out w6 bw6.out).b2 5
            have s6 : Hid (w5.heap.size ≤ w6.heap.size) := b6.size
            have hL : Hid _ := hl'
            have hH : Hid _ := hh'
            have hE : Hid _ := hle'
            clear b6 hl' hh' hle'
            go_wp2_with fail
            refine hK.out _ _ (KP.out _ bw6.out) (fun hHeld => ?_)
            clear hK K
            (try simp only [Act.put, List.setIfInBounds_toArray, List.set_cons_zero, List.set_cons_succ])
            (refine wpAnyH_take (i := 12) (v := ?_) rfl (by kernel_rfl) (by kernel_rfl) (by kernel_rfl) (fun _ _ _ h => h) (Or.inl ⟨by rfl, ?_⟩) (by assumption) ?_; rotate_left 1; (intro W0 hSw; (try dsimp only at hSw); go_simp; (try with_reducible rfl)); (try simp only [Act.put, List.setIfInBounds_toArray, List.set_cons_zero, List.set_cons_succ]))
            refine wpAnyH_ready (rs := [13]) (by kernel_rfl) (by simp) ?_
            refine AllReadyH.cons rfl (fun K hK => ?_) AllReadyH.nil
            go_simp
            refine hK.out _ _ (KS.out _ _ bw6.out) (fun hHeld => ?_)
            clear hK K
            (try simp only [Act.put, List.setIfInBounds_toArray, List.set_cons_zero, List.set_cons_succ])
            refine wpAnyH_done (by kernel_rfl) ?_ _
            go_wp2_with fail
            go_roundw
            case rel => exact ⟨j + 1, ms', .slice ao' ms'.length cap', (by have h1 := hE.out.1; have h2 := hml0.out; show _ ≤ _; rw [Nat.pow_succ]; omega), by omega, by omega, by go_num, map_wts hwu.out ⟨ht20, hwu1⟩ hE.out.2, ⟨ao', cap', b', o', rfl, hH.out, map_rel hL.out bw5.out.size s6.out hB3 (by omega) _ _⟩, (HT.out w6 bw6.out).set 5 _ rfl⟩
            case measure => simp [RowKit.intOf]; omega
        · obtain rfl : j = 4 := by omega
          have y2 : ¬ ((4 : Nat) : Int) < 4 := by omega
          obtain ⟨ao, cap, bo, oo, rfl, hh, hl⟩ := hsh.out
          have x0 : wr.cell? ⟨w.heap.size + 1 + 1, 0, none⟩ = some (.int .i64 5) := by rw [cell_of_block tj.b2]; rfl
          have r0 : wr.cell? ⟨w.heap.size + 1, 0, none⟩ = some (.int .i64 0) := by rw [cell_of_block tj.b1]; rfl
          have x1 : wr.cell? ⟨w.heap.size + 1 + 1, 1, none⟩ = some (.bool false) := by rw [cell_of_block tj.b2]; rfl
          have r1 : wr.cell? ⟨w.heap.size + 1, 1, none⟩ = some (.bool false) := by rw [cell_of_block tj.b1]; rfl
          have x2 : wr.cell? ⟨w.heap.size + 1 + 1, 2, none⟩ = some (.int .i64 0) := by rw [cell_of_block tj.b2]; rfl
          have r2 : wr.cell? ⟨w.heap.size + 1, 2, none⟩ = some (.int .i64 0) := by rw [cell_of_block tj.b1]; rfl
          have x3 : wr.cell? ⟨w.heap.size + 1 + 1, 3, none⟩ = some (.string ⟨#[]⟩) := by rw [cell_of_block tj.b2]; rfl
          have r3 : wr.cell? ⟨w.heap.size + 1, 3, none⟩ = some (.string ⟨#[]⟩) := by rw [cell_of_block tj.b1]; rfl
          have x4 : wr.cell? ⟨w.heap.size + 1 + 1, 4, none⟩ = some (.slice none 0 0) := by rw [cell_of_block tj.b2]; rfl
          have r4 : wr.cell? ⟨w.heap.size + 1, 4, none⟩ = some (.slice none 0 0) := by rw [cell_of_block tj.b1]; rfl
          have x5 : wr.cell? ⟨w.heap.size + 1 + 1, 5, none⟩ = some (.slice ao ms.length cap) := by rw [cell_of_block tj.b2]; rfl
          have r5 : wr.cell? ⟨w.heap.size + 1, 5, none⟩ = some (.slice none 0 0) := by rw [cell_of_block tj.b1]; rfl
          have rf : ∀ i, wr.frozen? ⟨w.heap.size + 1, i, none⟩ = false := frozen_of_block tj.b1
          have hB7 := tj.below
          have hlt := tj.lt
          have HO : Hid (liesM false wr (From (w.heap.size + 3) wr) ms bo oo) := hl
          have HH : Hid (Headed ao ms.length cap bo oo) := hh
          clear hl hh tj hsh
          go_wp2_with fail
          (try simp only [Exit.inBlock, Exit.then])
          refine bodyPost_ret (v := .agg #[.int .i64 5, .bool false, .int .i64 0, .string ⟨#[]⟩, .slice none 0 0, .slice ao ms.length cap]) (by rw [results_cell1 rfl]; go_simp) rfl ?_
          exact map_fin (B := w.heap.size + 3) (Below.set6 hB7 (by omega) _ _ _ _ _ _ _ _ _ _ _ _) (by omega) HH.out (liesM_set6 HO.out (by omega) _ _ _ _ _ _ _ _ _ _ _ _) hml.out hwu.out
      · obtain rfl : j = m.length := by omega
        have y1 : ¬ (m.length : Int) < m.length := by omega
        obtain ⟨ao, cap, bo, oo, rfl, hh, hl⟩ := hsh.out
        have x0 : wr.cell? ⟨w.heap.size + 1 + 1, 0, none⟩ = some (.int .i64 5) := by rw [cell_of_block tj.b2]; rfl
        have r0 : wr.cell? ⟨w.heap.size + 1, 0, none⟩ = some (.int .i64 0) := by rw [cell_of_block tj.b1]; rfl
        have x1 : wr.cell? ⟨w.heap.size + 1 + 1, 1, none⟩ = some (.bool false) := by rw [cell_of_block tj.b2]; rfl
        have r1 : wr.cell? ⟨w.heap.size + 1, 1, none⟩ = some (.bool false) := by rw [cell_of_block tj.b1]; rfl
        have x2 : wr.cell? ⟨w.heap.size + 1 + 1, 2, none⟩ = some (.int .i64 0) := by rw [cell_of_block tj.b2]; rfl
        have r2 : wr.cell? ⟨w.heap.size + 1, 2, none⟩ = some (.int .i64 0) := by rw [cell_of_block tj.b1]; rfl
        have x3 : wr.cell? ⟨w.heap.size + 1 + 1, 3, none⟩ = some (.string ⟨#[]⟩) := by rw [cell_of_block tj.b2]; rfl
        have r3 : wr.cell? ⟨w.heap.size + 1, 3, none⟩ = some (.string ⟨#[]⟩) := by rw [cell_of_block tj.b1]; rfl
        have x4 : wr.cell? ⟨w.heap.size + 1 + 1, 4, none⟩ = some (.slice none 0 0) := by rw [cell_of_block tj.b2]; rfl
        have r4 : wr.cell? ⟨w.heap.size + 1, 4, none⟩ = some (.slice none 0 0) := by rw [cell_of_block tj.b1]; rfl
        have x5 : wr.cell? ⟨w.heap.size + 1 + 1, 5, none⟩ = some (.slice ao ms.length cap) := by rw [cell_of_block tj.b2]; rfl
        have r5 : wr.cell? ⟨w.heap.size + 1, 5, none⟩ = some (.slice none 0 0) := by rw [cell_of_block tj.b1]; rfl
        have rf : ∀ i, wr.frozen? ⟨w.heap.size + 1, i, none⟩ = false := frozen_of_block tj.b1
        have hB7 := tj.below
        have hlt := tj.lt
        have HO : Hid (liesM false wr (From (w.heap.size + 3) wr) ms bo oo) := hl
        have HH : Hid (Headed ao ms.length cap bo oo) := hh
        clear hl hh tj hsh
        go_wp2_with fail
        (try simp only [Exit.inBlock, Exit.then])
        refine bodyPost_ret (v := .agg #[.int .i64 5, .bool false, .int .i64 0, .string ⟨#[]⟩, .slice none 0 0, .slice ao ms.length cap]) (by rw [results_cell1 rfl]; go_simp) rfl ?_
        exact map_fin (B := w.heap.size + 3) (Below.set6 hB7 (by omega) _ _ _ _ _ _ _ _ _ _ _ _) (by omega) HH.out (liesM_set6 HO.out (by omega) _ _ _ _ _ _ _ _ _ _ _ _) hml.out hwu.out
end Go.Proofs.YtljgofmmihmmfaaDoor
