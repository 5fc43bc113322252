import Derived.Test.YtjfldbmopjojdabDoorBtdP
set_option linter.unusedSimpArgs false
set_option linter.unusedVariables false
namespace Go.Proofs.YtjfldbmopjojdabDoor
open Go.RowKit Go.Lib
set_option maxHeartbeats 16000000 in
set_option maxRecDepth 100000 in
theorem rbetween_any (p : V) : ∀ (t : V) (S : Nat → Prop) (cs ds : List Value) (w : World), Ok t → Ok p → t.lies false w S cs → p.lies false w S ds → (∀ b, S b → b < w.heap.size) → Calls Tryd.prog 19 #[.agg cs.toArray, .agg ds.toArray] w (RpPost (bwV t p) S w) := by
 induction p using V.ind_v with
 | h k b i s l m ihl ihm =>
 intro t S cs ds w ot op hv hx hS
 have hwt := ot.wt
 have hwp := op.wt
 have HOG : Hid (∀ key, Ok (getR (memsOf t) key)) := fun key => ot.getv key
 obtain ⟨tk, tb, ti, ts, tl, tm⟩ := t
 have hv0 := hv
 rw [V.lies] at hv
 obtain ⟨tal, tcl, tbl, tol, tam, tcm, tbm, tom, rfl, tik, tii, tis, thal, tham, thl, thm, _⟩ := hv
 have hx0 := hx
 rw [V.lies] at hx
 obtain ⟨al, cl, bl, ol, am, cm, bm, om, rfl, ik, ii, is, hal, ham, hl, hm, _⟩ := hx
 have HL : Hid (∀ W, Below w.heap.size w W → (V.mk tk tb ti ts tl tm).lies false W S [.int .i64 tk, .bool tb, .int .i64 ti, .string ts, .slice tal tl.length tcl, .slice tam tm.length tcm] ∧ (∀ b, S b → b < W.heap.size)) := fun W hB => ⟨V.lies_keep (fun h => h) (fun x hx => hB.block x (hS x hx)) (fun x hx => hx) _ hv0, fun x hx => Nat.lt_of_lt_of_le (hS x hx) hB.size⟩
 have HX : Hid (∀ W, Below w.heap.size w W → (V.mk k b i s l m).lies false W S [.int .i64 k, .bool b, .int .i64 i, .string s, .slice al l.length cl, .slice am m.length cm]) := fun W hB => V.lies_keep (fun h => h) (fun x hx => hB.block x (hS x hx)) (fun x hx => hx) _ hx0
 have HTM : Hid (∀ W, Below w.heap.size w W → liesM false W S tm tbm tom) := fun W hb => liesM_keep (fun h => h) (fun x hx => hb.block x (hS x hx)) (fun _ h => h) _ thm
 have HM : Hid (∀ W, Below w.heap.size w W → liesM false W S m bm om) := fun W hb => liesM_keep (fun h => h) (fun x hx => hb.block x (hS x hx)) (fun _ h => h) _ hm
 have HOM : Hid (∀ y ∈ m, Ok y.2) := fun y hy => op.mem hy
 have hml : m.length ≤ 1114112 := by have := wtM_len m; simp only [V.wt] at hwp; omega
 have htl : tm.length ≤ 1114112 := by have := wtM_len tm; simp only [V.wt] at hwt; omega
 have b3 : Below w.heap.size w (((w.alloc (.cells #[.int .i64 tk, .bool tb, .int .i64 ti, .string ts, .slice tal tl.length tcl, .slice tam tm.length tcm] 25)).alloc (.cells #[.int .i64 k, .bool b, .int .i64 i, .string s, .slice al l.length cl, .slice am m.length cm] 25)).alloc (.cells #[.int .i64 0, .bool false, .int .i64 0, .string ⟨#[]⟩, .slice none 0 0, .slice none 0 0] 25)) := three_below w _ _ _
 have hz3 : (((w.alloc (.cells #[.int .i64 tk, .bool tb, .int .i64 ti, .string ts, .slice tal tl.length tcl, .slice tam tm.length tcm] 25)).alloc (.cells #[.int .i64 k, .bool b, .int .i64 i, .string s, .slice al l.length cl, .slice am m.length cm] 25)).alloc (.cells #[.int .i64 0, .bool false, .int .i64 0, .string ⟨#[]⟩, .slice none 0 0, .slice none 0 0] 25)).heap.size = w.heap.size + 3 := by rw [alloc_size, alloc_size, alloc_size]
 obtain ⟨htw3, hpw3, hzw3⟩ := three_allocs w (.cells #[.int .i64 tk, .bool tb, .int .i64 ti, .string ts, .slice tal tl.length tcl, .slice tam tm.length tcm] 25) (.cells #[.int .i64 k, .bool b, .int .i64 i, .string s, .slice al l.length cl, .slice am m.length cm] 25) (.cells #[.int .i64 0, .bool false, .int .i64 0, .string ⟨#[]⟩, .slice none 0 0, .slice none 0 0] 25)
 have Bww3 := b3
 clear hx0 hv0 hl hm thl thm
 have ct0 : (((w.alloc (.cells #[.int .i64 tk, .bool tb, .int .i64 ti, .string ts, .slice tal tl.length tcl, .slice tam tm.length tcm] 25)).alloc (.cells #[.int .i64 k, .bool b, .int .i64 i, .string s, .slice al l.length cl, .slice am m.length cm] 25)).alloc (.cells #[.int .i64 0, .bool false, .int .i64 0, .string ⟨#[]⟩, .slice none 0 0, .slice none 0 0] 25)).cell? ⟨w.heap.size, 0, none⟩ = some (.int .i64 tk) := by rw [cell_of_block htw3]; rfl
 by_cases h5 : tk = 5 ∧ k = 5
 rotate_left
 ·have HP : Hid (bwV (.mk tk tb ti ts tl tm) (.mk k b i s l m) = .mk k b i s l m) := bwV_flat (a := .mk tk tb ti ts tl tm) (b := .mk k b i s l m) h5
  have BF : Below w.heap.size w (((w.alloc (.cells #[.int .i64 tk, .bool tb, .int .i64 ti, .string ts, .slice tal tl.length tcl, .slice tam tm.length tcm] 25)).alloc (.cells #[.int .i64 k, .bool b, .int .i64 i, .string s, .slice al l.length cl, .slice am m.length cm] 25)).alloc (.cells #[.int .i64 k, .bool b, .int .i64 i, .string s, .slice al l.length cl, .slice am m.length cm] 25)) := three_below w _ _ _
  have HE := hmk (And.intro (V.lies_keep (S' := OrNew S w (((w.alloc (.cells #[.int .i64 tk, .bool tb, .int .i64 ti, .string ts, .slice tal tl.length tcl, .slice tam tm.length tcm] 25)).alloc (.cells #[.int .i64 k, .bool b, .int .i64 i, .string s, .slice al l.length cl, .slice am m.length cm] 25)).alloc (.cells #[.int .i64 k, .bool b, .int .i64 i, .string s, .slice al l.length cl, .slice am m.length cm] 25))) (fun h => h) (fun _ _ => rfl) (fun y hy => .inl hy) _ (HX.out (((w.alloc (.cells #[.int .i64 tk, .bool tb, .int .i64 ti, .string ts, .slice tal tl.length tcl, .slice tam tm.length tcm] 25)).alloc (.cells #[.int .i64 k, .bool b, .int .i64 i, .string s, .slice al l.length cl, .slice am m.length cm] 25)).alloc (.cells #[.int .i64 k, .bool b, .int .i64 i, .string s, .slice al l.length cl, .slice am m.length cm] 25)) BF)) BF)
  clear BF
  have cp0 : (((w.alloc (.cells #[.int .i64 tk, .bool tb, .int .i64 ti, .string ts, .slice tal tl.length tcl, .slice tam tm.length tcm] 25)).alloc (.cells #[.int .i64 k, .bool b, .int .i64 i, .string s, .slice al l.length cl, .slice am m.length cm] 25)).alloc (.cells #[.int .i64 0, .bool false, .int .i64 0, .string ⟨#[]⟩, .slice none 0 0, .slice none 0 0] 25)).cell? ⟨w.heap.size + 1, 0, none⟩ = some (.int .i64 k) := by rw [cell_of_block hpw3]; rfl
  have cp1 : (((w.alloc (.cells #[.int .i64 tk, .bool tb, .int .i64 ti, .string ts, .slice tal tl.length tcl, .slice tam tm.length tcm] 25)).alloc (.cells #[.int .i64 k, .bool b, .int .i64 i, .string s, .slice al l.length cl, .slice am m.length cm] 25)).alloc (.cells #[.int .i64 0, .bool false, .int .i64 0, .string ⟨#[]⟩, .slice none 0 0, .slice none 0 0] 25)).cell? ⟨w.heap.size + 1, 1, none⟩ = some (.bool b) := by rw [cell_of_block hpw3]; rfl
  have cp2 : (((w.alloc (.cells #[.int .i64 tk, .bool tb, .int .i64 ti, .string ts, .slice tal tl.length tcl, .slice tam tm.length tcm] 25)).alloc (.cells #[.int .i64 k, .bool b, .int .i64 i, .string s, .slice al l.length cl, .slice am m.length cm] 25)).alloc (.cells #[.int .i64 0, .bool false, .int .i64 0, .string ⟨#[]⟩, .slice none 0 0, .slice none 0 0] 25)).cell? ⟨w.heap.size + 1, 2, none⟩ = some (.int .i64 i) := by rw [cell_of_block hpw3]; rfl
  have cp3 : (((w.alloc (.cells #[.int .i64 tk, .bool tb, .int .i64 ti, .string ts, .slice tal tl.length tcl, .slice tam tm.length tcm] 25)).alloc (.cells #[.int .i64 k, .bool b, .int .i64 i, .string s, .slice al l.length cl, .slice am m.length cm] 25)).alloc (.cells #[.int .i64 0, .bool false, .int .i64 0, .string ⟨#[]⟩, .slice none 0 0, .slice none 0 0] 25)).cell? ⟨w.heap.size + 1, 3, none⟩ = some (.string s) := by rw [cell_of_block hpw3]; rfl
  have cp4 : (((w.alloc (.cells #[.int .i64 tk, .bool tb, .int .i64 ti, .string ts, .slice tal tl.length tcl, .slice tam tm.length tcm] 25)).alloc (.cells #[.int .i64 k, .bool b, .int .i64 i, .string s, .slice al l.length cl, .slice am m.length cm] 25)).alloc (.cells #[.int .i64 0, .bool false, .int .i64 0, .string ⟨#[]⟩, .slice none 0 0, .slice none 0 0] 25)).cell? ⟨w.heap.size + 1, 4, none⟩ = some (.slice al l.length cl) := by rw [cell_of_block hpw3]; rfl
  have cp5 : (((w.alloc (.cells #[.int .i64 tk, .bool tb, .int .i64 ti, .string ts, .slice tal tl.length tcl, .slice tam tm.length tcm] 25)).alloc (.cells #[.int .i64 k, .bool b, .int .i64 i, .string s, .slice al l.length cl, .slice am m.length cm] 25)).alloc (.cells #[.int .i64 0, .bool false, .int .i64 0, .string ⟨#[]⟩, .slice none 0 0, .slice none 0 0] 25)).cell? ⟨w.heap.size + 1, 5, none⟩ = some (.slice am m.length cm) := by rw [cell_of_block hpw3]; rfl
  have EN : ∀ K : Prop, (tk = 5 → ¬ k = 5 → K) → (¬ tk = 5 → K) → K := fun K h1 h2 => by
   by_cases h : tk = 5
   ·exact h1 h (fun h' => h5 ⟨h, h'⟩)
   ·exact h2 h
  refine EN _ (fun e1 e2 => ?_) (fun e1 => ?_)
  ·subst e1
   have yk : (k == 5) = false := beq_eq_false_iff_ne.2 e2
   have yn : (k != 5) = true := by simp [e2]
   clear EN h5
   go_enter Tryd.func19, Tryd.ntmps19
   go_wp2_with fail
   (try simp only [Exit.inBlock, Exit.then])
   refine bodyPost_ret (v := .agg #[.int .i64 k, .bool b, .int .i64 i, .string s, .slice al l.length cl, .slice am m.length cm]) ?_ rfl ?_
   rotate_left
   ·rw [HP.out]
    exact ⟨[.int .i64 k, .bool b, .int .i64 i, .string s, .slice al l.length cl, .slice am m.length cm], rfl, HE.out.1, HE.out.2⟩
   ·rw [results_cell1 rfl]
    go_simp
  ·have yk : (tk == 5) = false := beq_eq_false_iff_ne.2 e1
   have yn : (tk != 5) = true := by simp [e1]
   clear EN h5
   go_enter Tryd.func19, Tryd.ntmps19
   go_wp2_with fail
   (try simp only [Exit.inBlock, Exit.then])
   refine bodyPost_ret (v := .agg #[.int .i64 k, .bool b, .int .i64 i, .string s, .slice al l.length cl, .slice am m.length cm]) ?_ rfl ?_
   rotate_left
   ·rw [HP.out]
    exact ⟨[.int .i64 k, .bool b, .int .i64 i, .string s, .slice al l.length cl, .slice am m.length cm], rfl, HE.out.1, HE.out.2⟩
   ·rw [results_cell1 rfl]
    go_simp
 obtain ⟨rfl, rfl⟩ := h5
 have HP : Hid (bwV (.mk 5 tb ti ts tl tm) (.mk 5 b i s l m) = mapV (bwM tm m (nulM tm m []))) := bwV_map (a := .mk 5 tb ti ts tl tm) (b := .mk 5 b i s l m) ⟨rfl, rfl⟩
 generalize bwV (.mk 5 tb ti ts tl tm) (.mk 5 b i s l m) = RR at *
 have b4 : Below (((w.alloc (.cells #[.int .i64 5, .bool tb, .int .i64 ti, .string ts, .slice tal tl.length tcl, .slice tam tm.length tcm] 25)).alloc (.cells #[.int .i64 5, .bool b, .int .i64 i, .string s, .slice al l.length cl, .slice am m.length cm] 25)).alloc (.cells #[.int .i64 0, .bool false, .int .i64 0, .string ⟨#[]⟩, .slice none 0 0, .slice none 0 0] 25)).heap.size (((w.alloc (.cells #[.int .i64 5, .bool tb, .int .i64 ti, .string ts, .slice tal tl.length tcl, .slice tam tm.length tcm] 25)).alloc (.cells #[.int .i64 5, .bool b, .int .i64 i, .string s, .slice al l.length cl, .slice am m.length cm] 25)).alloc (.cells #[.int .i64 0, .bool false, .int .i64 0, .string ⟨#[]⟩, .slice none 0 0, .slice none 0 0] 25)) ((((w.alloc (.cells #[.int .i64 5, .bool tb, .int .i64 ti, .string ts, .slice tal tl.length tcl, .slice tam tm.length tcm] 25)).alloc (.cells #[.int .i64 5, .bool b, .int .i64 i, .string s, .slice al l.length cl, .slice am m.length cm] 25)).alloc (.cells #[.int .i64 0, .bool false, .int .i64 0, .string ⟨#[]⟩, .slice none 0 0, .slice none 0 0] 25)).alloc (.cells #[.int .i64 5, .bool false, .int .i64 0, .string ⟨#[]⟩, .slice none 0 0, .slice none 0 0] 25)) := one_belowG _ _
 have hz4 : ((((w.alloc (.cells #[.int .i64 5, .bool tb, .int .i64 ti, .string ts, .slice tal tl.length tcl, .slice tam tm.length tcm] 25)).alloc (.cells #[.int .i64 5, .bool b, .int .i64 i, .string s, .slice al l.length cl, .slice am m.length cm] 25)).alloc (.cells #[.int .i64 0, .bool false, .int .i64 0, .string ⟨#[]⟩, .slice none 0 0, .slice none 0 0] 25)).alloc (.cells #[.int .i64 5, .bool false, .int .i64 0, .string ⟨#[]⟩, .slice none 0 0, .slice none 0 0] 25)).heap.size = w.heap.size + 4 := by rw [alloc_size, hz3]
 have Bww5 : Below w.heap.size w ((((w.alloc (.cells #[.int .i64 5, .bool tb, .int .i64 ti, .string ts, .slice tal tl.length tcl, .slice tam tm.length tcm] 25)).alloc (.cells #[.int .i64 5, .bool b, .int .i64 i, .string s, .slice al l.length cl, .slice am m.length cm] 25)).alloc (.cells #[.int .i64 0, .bool false, .int .i64 0, .string ⟨#[]⟩, .slice none 0 0, .slice none 0 0] 25)).alloc (.cells #[.int .i64 5, .bool false, .int .i64 0, .string ⟨#[]⟩, .slice none 0 0, .slice none 0 0] 25)) := b3.trans (b4.mono (by omega))
 have htw5 := (b4.block w.heap.size (by omega)).trans htw3
 have hpw5 := (b4.block (w.heap.size + 1) (by omega)).trans hpw3
 have hzw5 := (b4.block (w.heap.size + 2) (by omega)).trans hzw3
 have how5 := heap_alloc_new (((w.alloc (.cells #[.int .i64 5, .bool tb, .int .i64 ti, .string ts, .slice tal tl.length tcl, .slice tam tm.length tcm] 25)).alloc (.cells #[.int .i64 5, .bool b, .int .i64 i, .string s, .slice al l.length cl, .slice am m.length cm] 25)).alloc (.cells #[.int .i64 0, .bool false, .int .i64 0, .string ⟨#[]⟩, .slice none 0 0, .slice none 0 0] 25)) (.cells #[.int .i64 5, .bool false, .int .i64 0, .string ⟨#[]⟩, .slice none 0 0, .slice none 0 0] 25)
 rw [hz3] at how5
 have cp0 : (((w.alloc (.cells #[.int .i64 5, .bool tb, .int .i64 ti, .string ts, .slice tal tl.length tcl, .slice tam tm.length tcm] 25)).alloc (.cells #[.int .i64 5, .bool b, .int .i64 i, .string s, .slice al l.length cl, .slice am m.length cm] 25)).alloc (.cells #[.int .i64 0, .bool false, .int .i64 0, .string ⟨#[]⟩, .slice none 0 0, .slice none 0 0] 25)).cell? ⟨w.heap.size + 1, 0, none⟩ = some (.int .i64 5) := by rw [cell_of_block hpw3]; rfl
 have HN0 : Hid ((mapV (nulM (tm.take 0) m [])).lies false ((((w.alloc (.cells #[.int .i64 5, .bool tb, .int .i64 ti, .string ts, .slice tal tl.length tcl, .slice tam tm.length tcm] 25)).alloc (.cells #[.int .i64 5, .bool b, .int .i64 i, .string s, .slice al l.length cl, .slice am m.length cm] 25)).alloc (.cells #[.int .i64 0, .bool false, .int .i64 0, .string ⟨#[]⟩, .slice none 0 0, .slice none 0 0] 25)).alloc (.cells #[.int .i64 5, .bool false, .int .i64 0, .string ⟨#[]⟩, .slice none 0 0, .slice none 0 0] 25)) (fun y => S y ∨ (w.heap.size + 3 < y ∧ y < ((((w.alloc (.cells #[.int .i64 5, .bool tb, .int .i64 ti, .string ts, .slice tal tl.length tcl, .slice tam tm.length tcm] 25)).alloc (.cells #[.int .i64 5, .bool b, .int .i64 i, .string s, .slice al l.length cl, .slice am m.length cm] 25)).alloc (.cells #[.int .i64 0, .bool false, .int .i64 0, .string ⟨#[]⟩, .slice none 0 0, .slice none 0 0] 25)).alloc (.cells #[.int .i64 5, .bool false, .int .i64 0, .string ⟨#[]⟩, .slice none 0 0, .slice none 0 0] 25)).heap.size)) [.int .i64 5, .bool false, .int .i64 0, .string ⟨#[]⟩, .slice none 0 0, .slice none 0 0]) := by
  show V.lies _ _ _ _ _
  rw [List.take_zero, nulM]
  exact five_lies _ _
 go_enter Tryd.func19, Tryd.ntmps19
 go_wp2_with fail
 clear ct0 cp0
 generalize ((((w.alloc (.cells #[.int .i64 5, .bool tb, .int .i64 ti, .string ts, .slice tal tl.length tcl, .slice tam tm.length tcm] 25)).alloc (.cells #[.int .i64 5, .bool b, .int .i64 i, .string s, .slice al l.length cl, .slice am m.length cm] 25)).alloc (.cells #[.int .i64 0, .bool false, .int .i64 0, .string ⟨#[]⟩, .slice none 0 0, .slice none 0 0] 25)).alloc (.cells #[.int .i64 5, .bool false, .int .i64 0, .string ⟨#[]⟩, .slice none 0 0, .slice none 0 0] 25)) = w5 at *
 clear b3 b4 hz3 Bww3 htw3 hpw3 hzw3
 go_loopw [6] (fun e wr => ∃ (j : Nat) (ok : Int) (ob : Bool) (oi : Int) (os : ByteArray) (oal : Option Addr) (onl ocl : Nat) (oam : Option Addr) (onm ocm : Nat), j ≤ tm.length ∧ e = .int .i64 (j : Int) ∧ wr.heap[w.heap.size + 3]? = some (.cells #[.int .i64 ok, .bool ob, .int .i64 oi, .string os, .slice oal onl ocl, .slice oam onm ocm] 25) ∧ Hid (Below (w.heap.size + 3) w5 wr) ∧ Hid ((mapV (nulM (tm.take j) m [])).lies false wr (fun y => S y ∨ (w.heap.size + 3 < y ∧ y < wr.heap.size)) [.int .i64 ok, .bool ob, .int .i64 oi, .string os, .slice oal onl ocl, .slice oam onm ocm])) (fun e _ => tm.length - (RowKit.intOf e).toNat)
 case atStart => exact ⟨0, _, _, _, _, _, _, _, _, _, _, by omega, rfl, how5, Below.refl _ _, HN0⟩
 case round =>
  clear HN0 how5
  obtain ⟨j, ok, ob, oi, os, oal, onl, ocl, oam, onm, ocm, hj, rfl, howr, Hbr, HO⟩ := hrel
  have br := Hbr.out
  clear Hbr
  have hzwr := br.size
  have htwr := (br.block (w.heap.size) (by omega)).trans htw5
  have hpwr := (br.block (w.heap.size + 1) (by omega)).trans hpw5
  have hzwr := (br.block (w.heap.size + 2) (by omega)).trans hzw5
  have Bwwr := Bww5.trans (br.mono (by omega))
  have Bvwr := br
  clear br
  have cq5 : wr.cell? ⟨w.heap.size, 5, none⟩ = some (.slice tam tm.length tcm) := by rw [cell_of_block htwr]; rfl
  by_cases hjl : j < tm.length
  rotate_left
  ·obtain rfl : j = tm.length := by omega
   have y1 : ¬ (tm.length : Int) < tm.length := by omega
   have HN1 : Hid ((mapV (bwM tm (m.take 0) (nulM tm m []))).lies false wr (fun y => S y ∨ (w.heap.size + 3 < y ∧ y < wr.heap.size)) [.int .i64 ok, .bool ob, .int .i64 oi, .string os, .slice oal onl ocl, .slice oam onm ocm]) := by
    show V.lies _ _ _ _ _
    have h := HO.out
    rw [List.take_length] at h
    rw [List.take_zero, bwM]
    exact h
   clear HO
   go_wp2_with fail
   clear cq5
   have HN1b := HN1
   go_loopw [7] (fun e wv => ∃ (j : Nat) (ok : Int) (ob : Bool) (oi : Int) (os : ByteArray) (oal : Option Addr) (onl ocl : Nat) (oam : Option Addr) (onm ocm : Nat), j ≤ m.length ∧ e = .int .i64 (j : Int) ∧ wv.heap[w.heap.size + 3]? = some (.cells #[.int .i64 ok, .bool ob, .int .i64 oi, .string os, .slice oal onl ocl, .slice oam onm ocm] 25) ∧ Hid (Below (w.heap.size + 3) w5 wv) ∧ Hid ((mapV (bwM tm (m.take j) (nulM tm m []))).lies false wv (fun y => S y ∨ (w.heap.size + 3 < y ∧ y < wv.heap.size)) [.int .i64 ok, .bool ob, .int .i64 oi, .string os, .slice oal onl ocl, .slice oam onm ocm])) (fun e _ => m.length - (RowKit.intOf e).toNat)
   case atStart => exact ⟨0, _, _, _, _, _, _, _, _, _, _, by omega, rfl, howr, Bvwr, HN1⟩
   case round =>
    clear HN1 HN1b howr htwr hpwr Bwwr Bvwr y1 hjl hj
    rename World => wv
    obtain ⟨j, ok, ob, oi, os, oal, onl, ocl, oam, onm, ocm, hj, rfl, howv, Hbr, HO⟩ := hrel
    have br := Hbr.out
    clear Hbr
    have hzwv := br.size
    have htwv := (br.block (w.heap.size) (by omega)).trans htw5
    have hpwv := (br.block (w.heap.size + 1) (by omega)).trans hpw5
    have hzwv := (br.block (w.heap.size + 2) (by omega)).trans hzw5
    have Bwwv := Bww5.trans (br.mono (by omega))
    have Bvwv := br
    clear br
    have cq5 : wv.cell? ⟨w.heap.size + 1, 5, none⟩ = some (.slice am m.length cm) := by rw [cell_of_block hpwv]; rfl
    by_cases hjl : j < m.length
    rotate_left
    ·obtain rfl : j = m.length := by omega
     have y1 : ¬ (m.length : Int) < m.length := by omega
     have HO := HO.out
     rw [List.take_length] at HO
     have HE := hmk (wo_fin (M := w.heap.size + 2) (S := S) (by omega) hS Bwwv (V.lies_keep (fun h => h) (fun _ _ => rfl) (fun y hy => hy.elim .inl (fun h => .inr ⟨by omega, by omega, h.2⟩)) _ HO))
     have cz0 : wv.cell? ⟨w.heap.size + 2, 0, none⟩ = some (.int .i64 0) := by rw [cell_of_block hzwv]; rfl
     have cz1 : wv.cell? ⟨w.heap.size + 2, 1, none⟩ = some (.bool false) := by rw [cell_of_block hzwv]; rfl
     have cz2 : wv.cell? ⟨w.heap.size + 2, 2, none⟩ = some (.int .i64 0) := by rw [cell_of_block hzwv]; rfl
     have cz3 : wv.cell? ⟨w.heap.size + 2, 3, none⟩ = some (.string ⟨#[]⟩) := by rw [cell_of_block hzwv]; rfl
     have cz4 : wv.cell? ⟨w.heap.size + 2, 4, none⟩ = some (.slice none 0 0) := by rw [cell_of_block hzwv]; rfl
     have cz5 : wv.cell? ⟨w.heap.size + 2, 5, none⟩ = some (.slice none 0 0) := by rw [cell_of_block hzwv]; rfl
     have fz := frozen_of_block hzwv
     have co0 : wv.cell? ⟨w.heap.size + 3, 0, none⟩ = some (.int .i64 ok) := by rw [cell_of_block howv]; rfl
     have co1 : wv.cell? ⟨w.heap.size + 3, 1, none⟩ = some (.bool ob) := by rw [cell_of_block howv]; rfl
     have co2 : wv.cell? ⟨w.heap.size + 3, 2, none⟩ = some (.int .i64 oi) := by rw [cell_of_block howv]; rfl
     have co3 : wv.cell? ⟨w.heap.size + 3, 3, none⟩ = some (.string os) := by rw [cell_of_block howv]; rfl
     have co4 : wv.cell? ⟨w.heap.size + 3, 4, none⟩ = some (.slice oal onl ocl) := by rw [cell_of_block howv]; rfl
     have co5 : wv.cell? ⟨w.heap.size + 3, 5, none⟩ = some (.slice oam onm ocm) := by rw [cell_of_block howv]; rfl
     clear HO
     go_wp2_with fail
     (try simp only [Exit.inBlock, Exit.then])
     refine bodyPost_ret (v := .agg #[.int .i64 ok, .bool ob, .int .i64 oi, .string os, .slice oal onl ocl, .slice oam onm ocm]) ?_ rfl ?_
     rotate_left
     ·rw [HP.out]
      exact ⟨[.int .i64 ok, .bool ob, .int .i64 oi, .string os, .slice oal onl ocl, .slice oam onm ocm], rfl, HE.out.1, HE.out.2⟩
     ·rw [results_cell1 rfl]
      go_simp
    have y1 : (j : Int) < m.length := by omega
    obtain rfl : am = some ⟨bm, om, none⟩ := ham.at_.resolve_left (by omega)
    obtain ⟨hSb, hks, csj, hrow, hlj⟩ := liesM_get (HM.out wv Bwwv) j hjl
    have HNX := hmk (bw_next (o := tm) (L0 := nulM tm m []) hjl)
    have HIH := hmk (ihm m[j] (List.getElem_mem hjl))
    have HOJ := hmk (HOM.out m[j] (List.getElem_mem hjl))
    have hLn : (bwM tm (m.take j) (nulM tm m [])).length ≤ 3000000 := by have := bw_len (m.take j) tm (nulM tm m []); have := nul_len tm m []; have h2 := List.length_take_le j m; simp only [List.length_nil] at *; omega
    obtain ⟨ek, eb, ei, es, eal, enl, ecl, eam, enm, ecm, rfl⟩ := V.ten hlj
    have HE : Hid (∀ W, Below w.heap.size w W → (m[j]).2.lies false W S [.int .i64 ek, .bool eb, .int .i64 ei, .string es, .slice eal enl ecl, .slice eam enm ecm]) := fun W hB => V.lies_keep (fun h => h) (fun x hx => (hB.block x (hS x hx)).trans (Bwwv.block x (hS x hx)).symm) (fun x hx => hx) _ hlj
    rcases hxj : m[j] with ⟨ekey, xv⟩
    rw [hxj] at hks hrow HNX HIH HOJ HE
    simp only at hks hrow HNX HIH HOJ HE
    obtain ⟨qk, q0, q1, q2, q3, q4, q5⟩ := row7 hrow
    have hwx := HOJ.out.wt
    have hwg := (HOG.out ekey).wt
    change (getR tm ekey).wt ≤ _ at hwg
    clear hlj hxj hrow
    have HO1 : Hid (∀ W, Below wv.heap.size wv W → (mapV (bwM tm (m.take j) (nulM tm m []))).lies false W (fun y => S y ∨ (w.heap.size + 3 < y ∧ y < wv.heap.size)) [.int .i64 ok, .bool ob, .int .i64 oi, .string os, .slice oal onl ocl, .slice oam onm ocm]) := fun W hb => V.lies_keep (fun h => h) (fun y hy => hb.block y (hy.elim (fun h => by have := hS y h; omega) (fun h => h.2))) (fun _ h => h) _ HO.out
    clear HO
    generalize bwM tm (m.take j) (nulM tm m []) = L at *
    have bzwa : Below wv.heap.size wv (wv.alloc (.cells #[.int .i64 ek, .bool eb, .int .i64 ei, .string es, .slice eal enl ecl, .slice eam enm ecm] 25)) := one_belowG _ _
    have hltwa : wv.heap.size < (wv.alloc (.cells #[.int .i64 ek, .bool eb, .int .i64 ei, .string es, .slice eal enl ecl, .slice eam enm ecm] 25)).heap.size := by rw [alloc_size]; omega
    have htwa := (bzwa.block (w.heap.size) (by omega)).trans htwv
    have hpwa := (bzwa.block (w.heap.size + 1) (by omega)).trans hpwv
    have hzwa := (bzwa.block (w.heap.size + 2) (by omega)).trans hzwv
    have howa := (bzwa.block (w.heap.size + 3) (by omega)).trans howv
    have Bwwa := Bwwv.trans (bzwa.mono (by omega))
    have Bvwa := Bvwv.trans (bzwa.mono (by omega))
    have hxwa := heap_alloc_new wv (.cells #[.int .i64 ek, .bool eb, .int .i64 ei, .string es, .slice eal enl ecl, .slice eam enm ecm] 25)
    have Brwv : Below wv.heap.size wv wv := Below.refl _ _
    have Brwa : Below wv.heap.size wv (wv.alloc (.cells #[.int .i64 ek, .bool eb, .int .i64 ei, .string es, .slice eal enl ecl, .slice eam enm ecm] 25)) := bzwa
    have ct0 : (wv.alloc (.cells #[.int .i64 ek, .bool eb, .int .i64 ei, .string es, .slice eal enl ecl, .slice eam enm ecm] 25)).cell? ⟨w.heap.size, 0, none⟩ = some (.int .i64 5) := by rw [cell_of_block htwa]; rfl
    have ct1 : (wv.alloc (.cells #[.int .i64 ek, .bool eb, .int .i64 ei, .string es, .slice eal enl ecl, .slice eam enm ecm] 25)).cell? ⟨w.heap.size, 1, none⟩ = some (.bool tb) := by rw [cell_of_block htwa]; rfl
    have ct2 : (wv.alloc (.cells #[.int .i64 ek, .bool eb, .int .i64 ei, .string es, .slice eal enl ecl, .slice eam enm ecm] 25)).cell? ⟨w.heap.size, 2, none⟩ = some (.int .i64 ti) := by rw [cell_of_block htwa]; rfl
    have ct3 : (wv.alloc (.cells #[.int .i64 ek, .bool eb, .int .i64 ei, .string es, .slice eal enl ecl, .slice eam enm ecm] 25)).cell? ⟨w.heap.size, 3, none⟩ = some (.string ts) := by rw [cell_of_block htwa]; rfl
    have ct4 : (wv.alloc (.cells #[.int .i64 ek, .bool eb, .int .i64 ei, .string es, .slice eal enl ecl, .slice eam enm ecm] 25)).cell? ⟨w.heap.size, 4, none⟩ = some (.slice tal tl.length tcl) := by rw [cell_of_block htwa]; rfl
    have ct5 : (wv.alloc (.cells #[.int .i64 ek, .bool eb, .int .i64 ei, .string es, .slice eal enl ecl, .slice eam enm ecm] 25)).cell? ⟨w.heap.size, 5, none⟩ = some (.slice tam tm.length tcm) := by rw [cell_of_block htwa]; rfl
    go_wp2_with fail
    clear ct0 ct1 ct2 ct3 ct4 ct5 qk q0 q1 q2 q3 q4 q5 cq5
    generalize (wv.alloc (.cells #[.int .i64 ek, .bool eb, .int .i64 ei, .string es, .slice eal enl ecl, .slice eam enm ecm] 25)) = wa at *
    refine (has_v (.mk 5 tb ti ts tl tm) ekey S _ wa (HL.out wa Bwwa).1 (HL.out wa Bwwa).2).mono ?_
    rintro e wb ⟨rfl, bb⟩
    have hzwb := bb.size
    have htwb := (bb.block (w.heap.size) (by omega)).trans htwa
    have hpwb := (bb.block (w.heap.size + 1) (by omega)).trans hpwa
    have hzwb := (bb.block (w.heap.size + 2) (by omega)).trans hzwa
    have howb := (bb.block (w.heap.size + 3) (by omega)).trans howa
    have hxwb := (bb.block (wv.heap.size) (by omega)).trans hxwa
    have Bwwb := Bwwa.trans (bb.mono (by omega))
    have Bvwb := Bvwa.trans (bb.mono (by omega))
    have Brwb := Brwa.trans (bb.mono (by omega))
    clear bb
    cases hh : hasR tm ekey with
    | false =>
     have HSn : Hid (bwM tm (m.take (j + 1)) (nulM tm m []) = witR L ekey xv) := by show _ = _; rw [HNX.out, if_neg (by rw [hh]; simp)]
     have hh' : hasR (memsOf (.mk 5 tb ti ts tl tm)) ekey = false := hh
     rw [hh']
     have co0 : wb.cell? ⟨w.heap.size + 3, 0, none⟩ = some (.int .i64 ok) := by rw [cell_of_block howb]; rfl
     have co1 : wb.cell? ⟨w.heap.size + 3, 1, none⟩ = some (.bool ob) := by rw [cell_of_block howb]; rfl
     have co2 : wb.cell? ⟨w.heap.size + 3, 2, none⟩ = some (.int .i64 oi) := by rw [cell_of_block howb]; rfl
     have co3 : wb.cell? ⟨w.heap.size + 3, 3, none⟩ = some (.string os) := by rw [cell_of_block howb]; rfl
     have co4 : wb.cell? ⟨w.heap.size + 3, 4, none⟩ = some (.slice oal onl ocl) := by rw [cell_of_block howb]; rfl
     have co5 : wb.cell? ⟨w.heap.size + 3, 5, none⟩ = some (.slice oam onm ocm) := by rw [cell_of_block howb]; rfl
     have cx0 : wb.cell? ⟨wv.heap.size, 0, none⟩ = some (.int .i64 ek) := by rw [cell_of_block hxwb]; rfl
     have cx1 : wb.cell? ⟨wv.heap.size, 1, none⟩ = some (.bool eb) := by rw [cell_of_block hxwb]; rfl
     have cx2 : wb.cell? ⟨wv.heap.size, 2, none⟩ = some (.int .i64 ei) := by rw [cell_of_block hxwb]; rfl
     have cx3 : wb.cell? ⟨wv.heap.size, 3, none⟩ = some (.string es) := by rw [cell_of_block hxwb]; rfl
     have cx4 : wb.cell? ⟨wv.heap.size, 4, none⟩ = some (.slice eal enl ecl) := by rw [cell_of_block hxwb]; rfl
     have cx5 : wb.cell? ⟨wv.heap.size, 5, none⟩ = some (.slice eam enm ecm) := by rw [cell_of_block hxwb]; rfl
     go_wp2_with fail
     clear co0 co1 co2 co3 co4 co5 cx0 cx1 cx2 cx3 cx4 cx5
     refine (rwit_any 5 false 0 ⟨#[]⟩ [] L ekey (xv) (fun y => S y ∨ (w.heap.size + 3 < y ∧ y < wb.heap.size)) _ _ wb (V.lies_keep (fun h => h) (fun _ _ => rfl) (fun y hy => hy.elim .inl (fun h => .inr ⟨h.1, by omega⟩)) _ (HO1.out wb Brwb)) (V.lies_keep (fun h => h) (fun _ _ => rfl) (fun y hy => .inl hy) _ (HE.out wb Bwwb)) hks (fun y hy => hy.elim (fun h => by have := hS y h; omega) (fun h => h.2)) hLn).mono ?_
     rintro e wy ⟨csn, rfl, hln, by_⟩
     obtain ⟨nk, nb, ni, ns, nal, nnl, ncl, nam, nnm, ncm, rfl⟩ := V.ten hln
     have hzwy := by_.size
     have htwy := (by_.block (w.heap.size) (by omega)).trans htwb
     have hpwy := (by_.block (w.heap.size + 1) (by omega)).trans hpwb
     have hzwy := (by_.block (w.heap.size + 2) (by omega)).trans hzwb
     have howy := (by_.block (w.heap.size + 3) (by omega)).trans howb
     have hxwy := (by_.block (wv.heap.size) (by omega)).trans hxwb
     have Bwwy := Bwwb.trans (by_.mono (by omega))
     have Bvwy := Bvwb.trans (by_.mono (by omega))
     have Brwy := Brwb.trans (by_.mono (by omega))
     have co0 : wy.cell? ⟨w.heap.size + 3, 0, none⟩ = some (.int .i64 ok) := by rw [cell_of_block howy]; rfl
     have co1 : wy.cell? ⟨w.heap.size + 3, 1, none⟩ = some (.bool ob) := by rw [cell_of_block howy]; rfl
     have co2 : wy.cell? ⟨w.heap.size + 3, 2, none⟩ = some (.int .i64 oi) := by rw [cell_of_block howy]; rfl
     have co3 : wy.cell? ⟨w.heap.size + 3, 3, none⟩ = some (.string os) := by rw [cell_of_block howy]; rfl
     have co4 : wy.cell? ⟨w.heap.size + 3, 4, none⟩ = some (.slice oal onl ocl) := by rw [cell_of_block howy]; rfl
     have co5 : wy.cell? ⟨w.heap.size + 3, 5, none⟩ = some (.slice oam onm ocm) := by rw [cell_of_block howy]; rfl
     have fo := frozen_of_block howy
     have Howz := hmk (six_o wy (w.heap.size + 3) (.int .i64 nk) (.bool nb) (.int .i64 ni) (.string ns) (.slice nal nnl ncl) (.slice nam nnm ncm))
     have Hswz : Hid (((((((wy.setCell ⟨w.heap.size + 3, 0, none⟩ (.int .i64 nk)).setCell ⟨w.heap.size + 3, 1, none⟩ (.bool nb)).setCell ⟨w.heap.size + 3, 2, none⟩ (.int .i64 ni)).setCell ⟨w.heap.size + 3, 3, none⟩ (.string ns)).setCell ⟨w.heap.size + 3, 4, none⟩ (.slice nal nnl ncl)).setCell ⟨w.heap.size + 3, 5, none⟩ (.slice nam nnm ncm)).heap.size = wy.heap.size) := by show _ = _; simp only [size_set1]
     have hgewz : wy.heap.size ≤ ((((((wy.setCell ⟨w.heap.size + 3, 0, none⟩ (.int .i64 nk)).setCell ⟨w.heap.size + 3, 1, none⟩ (.bool nb)).setCell ⟨w.heap.size + 3, 2, none⟩ (.int .i64 ni)).setCell ⟨w.heap.size + 3, 3, none⟩ (.string ns)).setCell ⟨w.heap.size + 3, 4, none⟩ (.slice nal nnl ncl)).setCell ⟨w.heap.size + 3, 5, none⟩ (.slice nam nnm ncm)).heap.size := by rw [Hswz.out]; exact Nat.le_refl _
     have htwz := (Howz.out (w.heap.size) (by omega)).trans htwy
     have hpwz := (Howz.out (w.heap.size + 1) (by omega)).trans hpwy
     have hzwz := (Howz.out (w.heap.size + 2) (by omega)).trans hzwy
     have howz := box_six howy (.int .i64 nk) (.bool nb) (.int .i64 ni) (.string ns) (.slice nal nnl ncl) (.slice nam nnm ncm)
     have hxwz := (Howz.out (wv.heap.size) (by omega)).trans hxwy
     have Bwwz := Below.set6 Bwwy (M := w.heap.size + 3) (by omega) 0 1 2 3 4 5 (.int .i64 nk) (.bool nb) (.int .i64 ni) (.string ns) (.slice nal nnl ncl) (.slice nam nnm ncm)
     have Bvwz := Below.set6 Bvwy (M := w.heap.size + 3) (by omega) 0 1 2 3 4 5 (.int .i64 nk) (.bool nb) (.int .i64 ni) (.string ns) (.slice nal nnl ncl) (.slice nam nnm ncm)
     have HN : Hid ((mapV (bwM tm (m.take (j + 1)) (nulM tm m []))).lies false ((((((wy.setCell ⟨w.heap.size + 3, 0, none⟩ (.int .i64 nk)).setCell ⟨w.heap.size + 3, 1, none⟩ (.bool nb)).setCell ⟨w.heap.size + 3, 2, none⟩ (.int .i64 ni)).setCell ⟨w.heap.size + 3, 3, none⟩ (.string ns)).setCell ⟨w.heap.size + 3, 4, none⟩ (.slice nal nnl ncl)).setCell ⟨w.heap.size + 3, 5, none⟩ (.slice nam nnm ncm)) (fun y => S y ∨ (w.heap.size + 3 < y ∧ y < ((((((wy.setCell ⟨w.heap.size + 3, 0, none⟩ (.int .i64 nk)).setCell ⟨w.heap.size + 3, 1, none⟩ (.bool nb)).setCell ⟨w.heap.size + 3, 2, none⟩ (.int .i64 ni)).setCell ⟨w.heap.size + 3, 3, none⟩ (.string ns)).setCell ⟨w.heap.size + 3, 4, none⟩ (.slice nal nnl ncl)).setCell ⟨w.heap.size + 3, 5, none⟩ (.slice nam nnm ncm)).heap.size)) [.int .i64 nk, .bool nb, .int .i64 ni, .string ns, .slice nal nnl ncl, .slice nam nnm ncm]) := by
      show V.lies _ _ _ _ _
      rw [HSn.out]
      exact V.lies_keep (fun h => h) (fun y hy => Howz.out y (hy.elim (fun h => h.elim (fun h => by have := hS y h; omega) (fun h => by omega)) (fun h => by have := h.1; omega))) (fun y hy => by rw [Hswz.out]; exact hy.elim (fun h => h.elim .inl (fun h => .inr ⟨h.1, by have := by_.size; omega⟩)) (fun h => .inr ⟨by have := h.1; omega, h.2⟩)) _ hln
     clear hln by_
     go_wp2_with fail
     clear co0 co1 co2 co3 co4 co5 fo
     generalize ((((((wy.setCell ⟨w.heap.size + 3, 0, none⟩ (.int .i64 nk)).setCell ⟨w.heap.size + 3, 1, none⟩ (.bool nb)).setCell ⟨w.heap.size + 3, 2, none⟩ (.int .i64 ni)).setCell ⟨w.heap.size + 3, 3, none⟩ (.string ns)).setCell ⟨w.heap.size + 3, 4, none⟩ (.slice nal nnl ncl)).setCell ⟨w.heap.size + 3, 5, none⟩ (.slice nam nnm ncm)) = wz at *
     go_roundw
     case rel => exact ⟨j + 1, _, _, _, _, _, _, _, _, _, _, by omega, by go_num, howz, Bvwz, HN⟩
     case measure => simp [RowKit.intOf]; omega
    | true =>
     have hh' : hasR (memsOf (.mk 5 tb ti ts tl tm)) ekey = true := hh
     rw [hh']
     go_wp2_with fail
     refine wp_region_held_drew (S := fun W => Below wb.heap.size wb W) (by kernel_rfl) ((Below.refl _ _).drew) (fun hHeld => ?_)
     (refine wpAnyH_take (i := 0) (v := ?_) rfl (by kernel_rfl) (by kernel_rfl) (by kernel_rfl) (fun _ _ _ h => h) (Or.inl ⟨by kernel_rfl, ?_⟩) (by assumption) ?_; rotate_left 1; (intro W0 hSw; (have HB := (hSw.block (w.heap.size) (by omega)).trans htwb); (have x0 : W0.cell? ⟨w.heap.size, 0, none⟩ = some (.int .i64 5) := by rw [cell_of_block HB]; rfl); (have x1 : W0.cell? ⟨w.heap.size, 1, none⟩ = some (.bool tb) := by rw [cell_of_block HB]; rfl); (have x2 : W0.cell? ⟨w.heap.size, 2, none⟩ = some (.int .i64 ti) := by rw [cell_of_block HB]; rfl); (have x3 : W0.cell? ⟨w.heap.size, 3, none⟩ = some (.string ts) := by rw [cell_of_block HB]; rfl); (have x4 : W0.cell? ⟨w.heap.size, 4, none⟩ = some (.slice tal tl.length tcl) := by rw [cell_of_block HB]; rfl); (have x5 : W0.cell? ⟨w.heap.size, 5, none⟩ = some (.slice tam tm.length tcm) := by rw [cell_of_block HB]; rfl); go_simp; (try with_reducible rfl)); (try simp only [Act.put, List.setIfInBounds_toArray, List.set_cons_zero, List.set_cons_succ]))
     (refine wpAnyH_take (i := 1) (v := ?_) rfl (by kernel_rfl) (by kernel_rfl) (by kernel_rfl) (fun _ _ _ h => h) (Or.inl ⟨by kernel_rfl, ?_⟩) (by assumption) ?_; rotate_left 1; (intro W0 hSw; (try dsimp only at hSw); go_simp; (try with_reducible rfl)); (try simp only [Act.put, List.setIfInBounds_toArray, List.set_cons_zero, List.set_cons_succ]))
     (refine wpAnyH_take (i := 3) (v := ?_) rfl (by kernel_rfl) (by kernel_rfl) (by kernel_rfl) (fun _ _ _ h => h) (Or.inl ⟨by kernel_rfl, ?_⟩) (by assumption) ?_; rotate_left 1; (intro W0 hSw; (have HB := (hSw.block (wv.heap.size) (by omega)).trans hxwb); (have x0 : W0.cell? ⟨wv.heap.size, 0, none⟩ = some (.int .i64 ek) := by rw [cell_of_block HB]; rfl); (have x1 : W0.cell? ⟨wv.heap.size, 1, none⟩ = some (.bool eb) := by rw [cell_of_block HB]; rfl); (have x2 : W0.cell? ⟨wv.heap.size, 2, none⟩ = some (.int .i64 ei) := by rw [cell_of_block HB]; rfl); (have x3 : W0.cell? ⟨wv.heap.size, 3, none⟩ = some (.string es) := by rw [cell_of_block HB]; rfl); (have x4 : W0.cell? ⟨wv.heap.size, 4, none⟩ = some (.slice eal enl ecl) := by rw [cell_of_block HB]; rfl); (have x5 : W0.cell? ⟨wv.heap.size, 5, none⟩ = some (.slice eam enm ecm) := by rw [cell_of_block HB]; rfl); go_simp; (try with_reducible rfl)); (try simp only [Act.put, List.setIfInBounds_toArray, List.set_cons_zero, List.set_cons_succ]))
     refine wpAnyH_ready (rs := [2]) (by kernel_rfl) (by simp) ?_
     refine AllReadyH.cons rfl (fun K hK => ?_) AllReadyH.nil
     go_simp
     have bdr : Below w.heap.size w wb.drew := Bwwb.drew
     refine (get_v (.mk 5 tb ti ts tl tm) ekey S _ wb.drew (HL.out _ bdr).1 (HL.out _ bdr).2 (by omega)).mono ?_
     rintro e wg ⟨csg, rfl, hlg, bg0⟩
     have bg : Below wb.heap.size wb wg := ⟨bg0.os, bg0.tape, bg0.output, bg0.size, bg0.block⟩
     clear bg0 bdr
     obtain ⟨gk, gb, gi, gs, gal, gnl, gcl, gam, gnm, gcm, rfl⟩ := V.ten hlg
     have hzg := bg.size
     have Bwg := Bwwb.trans (bg.mono (by omega))
     go_simp
     refine hK.out _ _ bg (fun hHeld => ?_)
     clear hK K
     (try simp only [Act.put, List.setIfInBounds_toArray, List.set_cons_zero, List.set_cons_succ])
     refine wpAnyH_ready (rs := [4]) (by kernel_rfl) (by simp) ?_
     refine AllReadyH.cons rfl (fun K hK => ?_) AllReadyH.nil
     go_simp
     refine (requal_any (getR tm ekey) xv false false (OrNew S wb.drew wg) S _ _ wg hlg (HE.out wg Bwg) (fun y hy => by rcases hy with h | h <;> first | exact (HL.out wg Bwg).2 y h | exact h.2) (HL.out wg Bwg).2 (by omega) (by omega)).mono ?_
     rintro e wc ⟨rfl, bq⟩
     have bwc := bg.trans (bq.mono (by omega))
     clear bq
     go_simp
     refine hK.out _ _ bwc (fun hHeld => ?_)
     clear hK K
     (try simp only [Act.put, List.setIfInBounds_toArray, List.set_cons_zero, List.set_cons_succ])
     (refine wpAnyH_take (i := 5) (v := ?_) rfl (by kernel_rfl) (by kernel_rfl) (by kernel_rfl) (fun _ _ _ h => h) (Or.inl ⟨by kernel_rfl, ?_⟩) (by assumption) ?_; rotate_left 1; (intro W0 hSw; (try dsimp only at hSw); go_simp; (try with_reducible rfl)); (try simp only [Act.put, List.setIfInBounds_toArray, List.set_cons_zero, List.set_cons_succ]))
     (refine wpAnyH_take (i := 6) (v := ?_) rfl (by kernel_rfl) (by kernel_rfl) (by kernel_rfl) (fun _ _ _ h => h) (Or.inl ⟨by kernel_rfl, ?_⟩) (by assumption) ?_; rotate_left 1; (intro W0 hSw; (try dsimp only at hSw); go_simp; (try with_reducible rfl)); (try simp only [Act.put, List.setIfInBounds_toArray, List.set_cons_zero, List.set_cons_succ]))
     refine wpAnyH_done (by kernel_rfl) ?_ _
     (try dsimp only [Act.put, List.getElem_toArray, List.getElem_cons_succ, List.getElem_cons_zero, List.setIfInBounds_toArray, List.set_cons_zero, List.set_cons_succ])
     clear hHeld hlg bg Bwg hzg
     have hzwc := bwc.size
     have htwc := (bwc.block (w.heap.size) (by omega)).trans htwb
     have hpwc := (bwc.block (w.heap.size + 1) (by omega)).trans hpwb
     have hzwc := (bwc.block (w.heap.size + 2) (by omega)).trans hzwb
     have howc := (bwc.block (w.heap.size + 3) (by omega)).trans howb
     have hxwc := (bwc.block (wv.heap.size) (by omega)).trans hxwb
     have Bwwc := Bwwb.trans (bwc.mono (by omega))
     have Bvwc := Bvwb.trans (bwc.mono (by omega))
     have Brwc := Brwb.trans (bwc.mono (by omega))
     clear bwc
     cases he : eqlV (getR tm ekey) xv with
     | true =>
      have HN : Hid ((mapV (bwM tm (m.take (j + 1)) (nulM tm m []))).lies false wc (fun y => S y ∨ (w.heap.size + 3 < y ∧ y < wc.heap.size)) [.int .i64 ok, .bool ob, .int .i64 oi, .string os, .slice oal onl ocl, .slice oam onm ocm]) := by
       show V.lies _ _ _ _ _
       rw [HNX.out, if_pos hh, if_pos he]
       exact V.lies_keep (fun h => h) (fun _ _ => rfl) (fun y hy => hy.elim .inl (fun h => .inr ⟨h.1, by omega⟩)) _ (HO1.out wc Brwc)
      go_wp2_with fail
      go_roundw
      case rel => exact ⟨j + 1, _, _, _, _, _, _, _, _, _, _, by omega, by go_num, howc, Bvwc, HN⟩
      case measure => simp [RowKit.intOf]; omega
     | false =>
      have HSn : Hid (bwM tm (m.take (j + 1)) (nulM tm m []) = witR L ekey (bwV (getR tm ekey) xv)) := by show _ = _; rw [HNX.out, if_pos hh, if_neg (by rw [he]; simp)]
      clear HNX
      go_wp2_with fail
      refine wp_region_held_drew (S := fun W => Below wc.heap.size wc W) (by kernel_rfl) ((Below.refl _ _).drew) (fun hHeld => ?_)
      (refine wpAnyH_take (i := 0) (v := ?_) rfl (by kernel_rfl) (by kernel_rfl) (by kernel_rfl) (fun _ _ _ h => h) (Or.inl ⟨by kernel_rfl, ?_⟩) (by assumption) ?_; rotate_left 1; (intro W0 hSw; (have HB := (hSw.block (w.heap.size) (by omega)).trans htwc); (have x0 : W0.cell? ⟨w.heap.size, 0, none⟩ = some (.int .i64 5) := by rw [cell_of_block HB]; rfl); (have x1 : W0.cell? ⟨w.heap.size, 1, none⟩ = some (.bool tb) := by rw [cell_of_block HB]; rfl); (have x2 : W0.cell? ⟨w.heap.size, 2, none⟩ = some (.int .i64 ti) := by rw [cell_of_block HB]; rfl); (have x3 : W0.cell? ⟨w.heap.size, 3, none⟩ = some (.string ts) := by rw [cell_of_block HB]; rfl); (have x4 : W0.cell? ⟨w.heap.size, 4, none⟩ = some (.slice tal tl.length tcl) := by rw [cell_of_block HB]; rfl); (have x5 : W0.cell? ⟨w.heap.size, 5, none⟩ = some (.slice tam tm.length tcm) := by rw [cell_of_block HB]; rfl); go_simp; (try with_reducible rfl)); (try simp only [Act.put, List.setIfInBounds_toArray, List.set_cons_zero, List.set_cons_succ]))
      (refine wpAnyH_take (i := 1) (v := ?_) rfl (by kernel_rfl) (by kernel_rfl) (by kernel_rfl) (fun _ _ _ h => h) (Or.inl ⟨by kernel_rfl, ?_⟩) (by assumption) ?_; rotate_left 1; (intro W0 hSw; (try dsimp only at hSw); go_simp; (try with_reducible rfl)); (try simp only [Act.put, List.setIfInBounds_toArray, List.set_cons_zero, List.set_cons_succ]))
      (refine wpAnyH_take (i := 3) (v := ?_) rfl (by kernel_rfl) (by kernel_rfl) (by kernel_rfl) (fun _ _ _ h => h) (Or.inl ⟨by kernel_rfl, ?_⟩) (by assumption) ?_; rotate_left 1; (intro W0 hSw; (have HB := (hSw.block (wv.heap.size) (by omega)).trans hxwc); (have x0 : W0.cell? ⟨wv.heap.size, 0, none⟩ = some (.int .i64 ek) := by rw [cell_of_block HB]; rfl); (have x1 : W0.cell? ⟨wv.heap.size, 1, none⟩ = some (.bool eb) := by rw [cell_of_block HB]; rfl); (have x2 : W0.cell? ⟨wv.heap.size, 2, none⟩ = some (.int .i64 ei) := by rw [cell_of_block HB]; rfl); (have x3 : W0.cell? ⟨wv.heap.size, 3, none⟩ = some (.string es) := by rw [cell_of_block HB]; rfl); (have x4 : W0.cell? ⟨wv.heap.size, 4, none⟩ = some (.slice eal enl ecl) := by rw [cell_of_block HB]; rfl); (have x5 : W0.cell? ⟨wv.heap.size, 5, none⟩ = some (.slice eam enm ecm) := by rw [cell_of_block HB]; rfl); go_simp; (try with_reducible rfl)); (try simp only [Act.put, List.setIfInBounds_toArray, List.set_cons_zero, List.set_cons_succ]))
      refine wpAnyH_ready (rs := [2, 5]) (by kernel_rfl) (by simp) ?_
      refine AllReadyH.cons rfl (fun K hK => ?_) (AllReadyH.cons rfl (fun K hK => ?_) AllReadyH.nil)
      ·go_simp
       have bdr : Below w.heap.size w wc.drew := Bwwc.drew
       refine (get_v (.mk 5 tb ti ts tl tm) ekey S _ wc.drew (HL.out _ bdr).1 (HL.out _ bdr).2 (by omega)).mono ?_
       rintro e wd ⟨csg, rfl, hlg0, bg0⟩
       have bwd : Below wc.heap.size wc wd := ⟨bg0.os, bg0.tape, bg0.output, bg0.size, bg0.block⟩
       have hg_ : wc.heap.size ≤ wd.heap.size := bwd.size
       obtain ⟨gk, gb, gi, gs, gal, gnl, gcl, gam, gnm, gcm, rfl⟩ := V.ten hlg0
       have HG : Hid (∀ W, Below wd.heap.size wd W → (getR tm ekey).lies false W (fun y => S y ∨ (wc.heap.size ≤ y ∧ y < wd.heap.size)) [.int .i64 gk, .bool gb, .int .i64 gi, .string gs, .slice gal gnl gcl, .slice gam gnm gcm]) := fun W hb => V.lies_keep (fun h => h) (fun y hy => hb.block y (hy.elim (fun h => by have := hS y h; omega) (fun h => h.2))) (fun y hy => hy.elim .inl (fun h => .inr h)) _ hlg0
       clear bg0 bdr hlg0
       go_simp
       refine hK.out _ _ bwd (fun hHeld => ?_)
       clear hK K
       (try simp only [Act.put, List.setIfInBounds_toArray, List.set_cons_zero, List.set_cons_succ])
       refine wpAnyH_ready (rs := [4, 5]) (by kernel_rfl) (by simp) ?_
       refine AllReadyH.cons rfl (fun K hK => ?_) (AllReadyH.cons rfl (fun K hK => ?_) AllReadyH.nil)
       ·go_simp
        have Bwc_ := Bwwc.trans (bwd.mono (by omega))
        have hz_ := bwd.size
        refine (HIH.out (getR tm ekey) (fun y => S y ∨ (wc.heap.size ≤ y ∧ y < wd.heap.size)) _ _ wd (HOG.out ekey) HOJ.out (V.lies_keep (fun h => h) (fun _ _ => rfl) (fun y hy => hy.elim .inl (fun h => .inr ⟨by omega, h.2⟩)) _ (HG.out wd (Below.refl _ _))) (V.lies_keep (fun h => h) (fun _ _ => rfl) (fun y hy => .inl hy) _ (HE.out wd Bwc_)) (fun y hy => hy.elim (fun h => by have := hS y h; omega) (fun h => by omega))).mono ?_
        rintro e we ⟨csr, rfl, hlr, br_⟩
        obtain ⟨rk, rb, ri, rs, ral, rnl, rcl, ram, rnm, rcm, rfl⟩ := V.ten hlr
        have hr_ := br_.size
        have bwe := bwd.trans (br_.mono (by omega))
        have lrwe : (bwV (getR tm ekey) xv).lies false we (fun y => S y ∨ (wc.heap.size ≤ y ∧ y < we.heap.size)) [.int .i64 rk, .bool rb, .int .i64 ri, .string rs, .slice ral rnl rcl, .slice ram rnm rcm] := V.lies_keep (fun h => h) (fun _ _ => rfl) (fun y hy => hy.elim (fun h => h.elim .inl (fun h => .inr ⟨by have := h.1; omega, by omega⟩)) (fun h => .inr ⟨by have := h.1; omega, h.2⟩)) _ hlr
        clear hlr br_ Bwc_ HG
        go_simp
        refine hK.out _ _ bwe (fun hHeld => ?_)
        clear hK K
        (try simp only [Act.put, List.setIfInBounds_toArray, List.set_cons_zero, List.set_cons_succ])
        refine wpAnyH_ready (rs := [5]) (by kernel_rfl) (by simp) ?_
        refine AllReadyH.cons rfl (fun K hK => ?_) AllReadyH.nil
        have bz : Below we.heap.size we (we.alloc (.cells #[.int .i64 0, .bool false, .int .i64 0, .string ⟨#[]⟩, .slice none 0 0, .slice none 0 0] 25)) := one_belowG _ _
        have hltwf : we.heap.size < (we.alloc (.cells #[.int .i64 0, .bool false, .int .i64 0, .string ⟨#[]⟩, .slice none 0 0, .slice none 0 0] 25)).heap.size := by show we.heap.size < (we.alloc (.cells #[.int .i64 0, .bool false, .int .i64 0, .string ⟨#[]⟩, .slice none 0 0, .slice none 0 0] 25)).heap.size; rw [alloc_size]; exact Nat.lt_succ_self _
        have mbwf : (we.alloc (.cells #[.int .i64 0, .bool false, .int .i64 0, .string ⟨#[]⟩, .slice none 0 0, .slice none 0 0] 25)).heap[we.heap.size]? = some (.cells #[.int .i64 0, .bool false, .int .i64 0, .string ⟨#[]⟩, .slice none 0 0, .slice none 0 0] 25) := heap_alloc_new we (.cells #[.int .i64 0, .bool false, .int .i64 0, .string ⟨#[]⟩, .slice none 0 0, .slice none 0 0] 25)
        have bwf : Below wc.heap.size wc (we.alloc (.cells #[.int .i64 0, .bool false, .int .i64 0, .string ⟨#[]⟩, .slice none 0 0, .slice none 0 0] 25)) := bwe.trans (bz.mono (by omega))
        have lrwf : (bwV (getR tm ekey) xv).lies false (we.alloc (.cells #[.int .i64 0, .bool false, .int .i64 0, .string ⟨#[]⟩, .slice none 0 0, .slice none 0 0] 25)) (fun y => S y ∨ (wc.heap.size ≤ y ∧ y < we.heap.size)) [.int .i64 rk, .bool rb, .int .i64 ri, .string rs, .slice ral rnl rcl, .slice ram rnm rcm] := V.lies_keep (fun h => h) (fun y hy => bz.block y (hy.elim (fun h => by have := hS y h; have := bwe.size; omega) (fun h => h.2))) (fun _ h => h) _ lrwe
        go_simp
        refine hK.out _ _ bwf (fun hHeld => ?_)
        clear hK K bz
        (try simp only [Act.put, List.setIfInBounds_toArray, List.set_cons_zero, List.set_cons_succ])
        generalize (we.alloc (.cells #[.int .i64 0, .bool false, .int .i64 0, .string ⟨#[]⟩, .slice none 0 0, .slice none 0 0] 25)) = wf at *
        have hA0 : wc.heap.size ≤ we.heap.size := by omega
        have hA1 : we.heap.size < wf.heap.size := (Array.getElem?_eq_some_iff.1 mbwf).1
        have LR : (bwV (getR tm ekey) xv).lies false wf (fun y => S y ∨ (wc.heap.size ≤ y ∧ y < wf.heap.size ∧ y ≠ we.heap.size)) [.int .i64 rk, .bool rb, .int .i64 ri, .string rs, .slice ral rnl rcl, .slice ram rnm rcm] := V.lies_keep (fun h => h) (fun _ _ => rfl) (fun y hy => hy.elim .inl (fun h => .inr ⟨h.1, by omega, by omega⟩)) _ lrwf
        have kb := mbwf
        generalize we.heap.size = A_ at *
        have pz0 : wf.cell? ⟨A_, 0, none⟩ = some (.int .i64 0) := by rw [cell_of_block kb]; rfl
        have pz1 : wf.cell? ⟨A_, 1, none⟩ = some (.bool false) := by rw [cell_of_block kb]; rfl
        have pz2 : wf.cell? ⟨A_, 2, none⟩ = some (.int .i64 0) := by rw [cell_of_block kb]; rfl
        have pz3 : wf.cell? ⟨A_, 3, none⟩ = some (.string ⟨#[]⟩) := by rw [cell_of_block kb]; rfl
        have pz4 : wf.cell? ⟨A_, 4, none⟩ = some (.slice none 0 0) := by rw [cell_of_block kb]; rfl
        have pz5 : wf.cell? ⟨A_, 5, none⟩ = some (.slice none 0 0) := by rw [cell_of_block kb]; rfl
        have fp := frozen_of_block kb
        have Bs : Below wc.heap.size wc ((((((wf.setCell ⟨A_, 0, none⟩ (.int .i64 rk)).setCell ⟨A_, 1, none⟩ (.bool rb)).setCell ⟨A_, 2, none⟩ (.int .i64 ri)).setCell ⟨A_, 3, none⟩ (.string rs)).setCell ⟨A_, 4, none⟩ (.slice ral rnl rcl)).setCell ⟨A_, 5, none⟩ (.slice ram rnm rcm)) := Below.set6 bwf (M := A_) (by omega) 0 1 2 3 4 5 (.int .i64 rk) (.bool rb) (.int .i64 ri) (.string rs) (.slice ral rnl rcl) (.slice ram rnm rcm)
        have kr := box_six kb (.int .i64 rk) (.bool rb) (.int .i64 ri) (.string rs) (.slice ral rnl rcl) (.slice ram rnm rcm)
        have hzs : ((((((wf.setCell ⟨A_, 0, none⟩ (.int .i64 rk)).setCell ⟨A_, 1, none⟩ (.bool rb)).setCell ⟨A_, 2, none⟩ (.int .i64 ri)).setCell ⟨A_, 3, none⟩ (.string rs)).setCell ⟨A_, 4, none⟩ (.slice ral rnl rcl)).setCell ⟨A_, 5, none⟩ (.slice ram rnm rcm)).heap.size = wf.heap.size := by simp only [size_set1]
        have LR2 : Hid ((bwV (getR tm ekey) xv).lies false ((((((wf.setCell ⟨A_, 0, none⟩ (.int .i64 rk)).setCell ⟨A_, 1, none⟩ (.bool rb)).setCell ⟨A_, 2, none⟩ (.int .i64 ri)).setCell ⟨A_, 3, none⟩ (.string rs)).setCell ⟨A_, 4, none⟩ (.slice ral rnl rcl)).setCell ⟨A_, 5, none⟩ (.slice ram rnm rcm)) (fun y => S y ∨ (w.heap.size + 3 < y ∧ y < ((((((wf.setCell ⟨A_, 0, none⟩ (.int .i64 rk)).setCell ⟨A_, 1, none⟩ (.bool rb)).setCell ⟨A_, 2, none⟩ (.int .i64 ri)).setCell ⟨A_, 3, none⟩ (.string rs)).setCell ⟨A_, 4, none⟩ (.slice ral rnl rcl)).setCell ⟨A_, 5, none⟩ (.slice ram rnm rcm)).heap.size)) [.int .i64 rk, .bool rb, .int .i64 ri, .string rs, .slice ral rnl rcl, .slice ram rnm rcm]) := V.lies_keep (fun h => h) (fun y hy => six_o wf (A_) (.int .i64 rk) (.bool rb) (.int .i64 ri) (.string rs) (.slice ral rnl rcl) (.slice ram rnm rcm) y (hy.elim (fun h => by have := hS y h; omega) (fun h => h.2.2))) (fun y hy => hy.elim .inl (fun h => .inr ⟨by have := h.1; omega, by rw [hzs]; exact h.2.1⟩)) _ LR
        refine wpAnyH_ready (rs := [6]) (by kernel_rfl) (by simp) ?_
        refine AllReadyH.cons rfl (fun K hK => ?_) AllReadyH.nil
        go_simp
        refine hK.out _ _ Bs (fun hHeld => ?_)
        clear hK K
        (try simp only [Act.put, List.setIfInBounds_toArray, List.set_cons_zero, List.set_cons_succ])
        refine wpAnyH_done (by kernel_rfl) ?_ _
        (try dsimp only [Act.put, List.getElem_toArray, List.getElem_cons_succ, List.getElem_cons_zero, List.setIfInBounds_toArray, List.set_cons_zero, List.set_cons_succ])
        clear hHeld pz0 pz1 pz2 pz3 pz4 pz5 fp LR lrwf kb mbwf
        have hzs2 : A_ < ((((((wf.setCell ⟨A_, 0, none⟩ (.int .i64 rk)).setCell ⟨A_, 1, none⟩ (.bool rb)).setCell ⟨A_, 2, none⟩ (.int .i64 ri)).setCell ⟨A_, 3, none⟩ (.string rs)).setCell ⟨A_, 4, none⟩ (.slice ral rnl rcl)).setCell ⟨A_, 5, none⟩ (.slice ram rnm rcm)).heap.size := by rw [hzs]; exact hA1
        generalize ((((((wf.setCell ⟨A_, 0, none⟩ (.int .i64 rk)).setCell ⟨A_, 1, none⟩ (.bool rb)).setCell ⟨A_, 2, none⟩ (.int .i64 ri)).setCell ⟨A_, 3, none⟩ (.string rs)).setCell ⟨A_, 4, none⟩ (.slice ral rnl rcl)).setCell ⟨A_, 5, none⟩ (.slice ram rnm rcm)) = wx at *
        clear hzs
        have hzwx := Bs.size
        have htwx := (Bs.block (w.heap.size) (by omega)).trans htwc
        have hpwx := (Bs.block (w.heap.size + 1) (by omega)).trans hpwc
        have hzwx := (Bs.block (w.heap.size + 2) (by omega)).trans hzwc
        have howx := (Bs.block (w.heap.size + 3) (by omega)).trans howc
        have hxwx := (Bs.block (wv.heap.size) (by omega)).trans hxwc
        have Bwwx := Bwwc.trans (Bs.mono (by omega))
        have Bvwx := Bvwc.trans (Bs.mono (by omega))
        have Brwx := Brwc.trans (Bs.mono (by omega))
        have hywx := kr
        have co0 : wx.cell? ⟨w.heap.size + 3, 0, none⟩ = some (.int .i64 ok) := by rw [cell_of_block howx]; rfl
        have co1 : wx.cell? ⟨w.heap.size + 3, 1, none⟩ = some (.bool ob) := by rw [cell_of_block howx]; rfl
        have co2 : wx.cell? ⟨w.heap.size + 3, 2, none⟩ = some (.int .i64 oi) := by rw [cell_of_block howx]; rfl
        have co3 : wx.cell? ⟨w.heap.size + 3, 3, none⟩ = some (.string os) := by rw [cell_of_block howx]; rfl
        have co4 : wx.cell? ⟨w.heap.size + 3, 4, none⟩ = some (.slice oal onl ocl) := by rw [cell_of_block howx]; rfl
        have co5 : wx.cell? ⟨w.heap.size + 3, 5, none⟩ = some (.slice oam onm ocm) := by rw [cell_of_block howx]; rfl
        have cx0 : wx.cell? ⟨A_, 0, none⟩ = some (.int .i64 rk) := by rw [cell_of_block hywx]; rfl
        have cx1 : wx.cell? ⟨A_, 1, none⟩ = some (.bool rb) := by rw [cell_of_block hywx]; rfl
        have cx2 : wx.cell? ⟨A_, 2, none⟩ = some (.int .i64 ri) := by rw [cell_of_block hywx]; rfl
        have cx3 : wx.cell? ⟨A_, 3, none⟩ = some (.string rs) := by rw [cell_of_block hywx]; rfl
        have cx4 : wx.cell? ⟨A_, 4, none⟩ = some (.slice ral rnl rcl) := by rw [cell_of_block hywx]; rfl
        have cx5 : wx.cell? ⟨A_, 5, none⟩ = some (.slice ram rnm rcm) := by rw [cell_of_block hywx]; rfl
        go_wp2_with fail
        clear co0 co1 co2 co3 co4 co5 cx0 cx1 cx2 cx3 cx4 cx5
        refine (rwit_any 5 false 0 ⟨#[]⟩ [] L ekey (bwV (getR tm ekey) xv) (fun y => S y ∨ (w.heap.size + 3 < y ∧ y < wx.heap.size)) _ _ wx (V.lies_keep (fun h => h) (fun _ _ => rfl) (fun y hy => hy.elim .inl (fun h => .inr ⟨h.1, by omega⟩)) _ (HO1.out wx Brwx)) LR2.out hks (fun y hy => hy.elim (fun h => by have := hS y h; omega) (fun h => h.2)) hLn).mono ?_
        rintro e wy ⟨csn, rfl, hln, by_⟩
        obtain ⟨nk, nb, ni, ns, nal, nnl, ncl, nam, nnm, ncm, rfl⟩ := V.ten hln
        have hzwy := by_.size
        have htwy := (by_.block (w.heap.size) (by omega)).trans htwx
        have hpwy := (by_.block (w.heap.size + 1) (by omega)).trans hpwx
        have hzwy := (by_.block (w.heap.size + 2) (by omega)).trans hzwx
        have howy := (by_.block (w.heap.size + 3) (by omega)).trans howx
        have hywy := (by_.block (A_) (by omega)).trans hywx
        have Bwwy := Bwwx.trans (by_.mono (by omega))
        have Bvwy := Bvwx.trans (by_.mono (by omega))
        have Brwy := Brwx.trans (by_.mono (by omega))
        have co0 : wy.cell? ⟨w.heap.size + 3, 0, none⟩ = some (.int .i64 ok) := by rw [cell_of_block howy]; rfl
        have co1 : wy.cell? ⟨w.heap.size + 3, 1, none⟩ = some (.bool ob) := by rw [cell_of_block howy]; rfl
        have co2 : wy.cell? ⟨w.heap.size + 3, 2, none⟩ = some (.int .i64 oi) := by rw [cell_of_block howy]; rfl
        have co3 : wy.cell? ⟨w.heap.size + 3, 3, none⟩ = some (.string os) := by rw [cell_of_block howy]; rfl
        have co4 : wy.cell? ⟨w.heap.size + 3, 4, none⟩ = some (.slice oal onl ocl) := by rw [cell_of_block howy]; rfl
        have co5 : wy.cell? ⟨w.heap.size + 3, 5, none⟩ = some (.slice oam onm ocm) := by rw [cell_of_block howy]; rfl
        have fo := frozen_of_block howy
        have Howz := hmk (six_o wy (w.heap.size + 3) (.int .i64 nk) (.bool nb) (.int .i64 ni) (.string ns) (.slice nal nnl ncl) (.slice nam nnm ncm))
        have Hswz : Hid (((((((wy.setCell ⟨w.heap.size + 3, 0, none⟩ (.int .i64 nk)).setCell ⟨w.heap.size + 3, 1, none⟩ (.bool nb)).setCell ⟨w.heap.size + 3, 2, none⟩ (.int .i64 ni)).setCell ⟨w.heap.size + 3, 3, none⟩ (.string ns)).setCell ⟨w.heap.size + 3, 4, none⟩ (.slice nal nnl ncl)).setCell ⟨w.heap.size + 3, 5, none⟩ (.slice nam nnm ncm)).heap.size = wy.heap.size) := by show _ = _; simp only [size_set1]
        have hgewz : wy.heap.size ≤ ((((((wy.setCell ⟨w.heap.size + 3, 0, none⟩ (.int .i64 nk)).setCell ⟨w.heap.size + 3, 1, none⟩ (.bool nb)).setCell ⟨w.heap.size + 3, 2, none⟩ (.int .i64 ni)).setCell ⟨w.heap.size + 3, 3, none⟩ (.string ns)).setCell ⟨w.heap.size + 3, 4, none⟩ (.slice nal nnl ncl)).setCell ⟨w.heap.size + 3, 5, none⟩ (.slice nam nnm ncm)).heap.size := by rw [Hswz.out]; exact Nat.le_refl _
        have htwz := (Howz.out (w.heap.size) (by omega)).trans htwy
        have hpwz := (Howz.out (w.heap.size + 1) (by omega)).trans hpwy
        have hzwz := (Howz.out (w.heap.size + 2) (by omega)).trans hzwy
        have howz := box_six howy (.int .i64 nk) (.bool nb) (.int .i64 ni) (.string ns) (.slice nal nnl ncl) (.slice nam nnm ncm)
        have hywz := (Howz.out (A_) (by omega)).trans hywy
        have Bwwz := Below.set6 Bwwy (M := w.heap.size + 3) (by omega) 0 1 2 3 4 5 (.int .i64 nk) (.bool nb) (.int .i64 ni) (.string ns) (.slice nal nnl ncl) (.slice nam nnm ncm)
        have Bvwz := Below.set6 Bvwy (M := w.heap.size + 3) (by omega) 0 1 2 3 4 5 (.int .i64 nk) (.bool nb) (.int .i64 ni) (.string ns) (.slice nal nnl ncl) (.slice nam nnm ncm)
        have HN : Hid ((mapV (bwM tm (m.take (j + 1)) (nulM tm m []))).lies false ((((((wy.setCell ⟨w.heap.size + 3, 0, none⟩ (.int .i64 nk)).setCell ⟨w.heap.size + 3, 1, none⟩ (.bool nb)).setCell ⟨w.heap.size + 3, 2, none⟩ (.int .i64 ni)).setCell ⟨w.heap.size + 3, 3, none⟩ (.string ns)).setCell ⟨w.heap.size + 3, 4, none⟩ (.slice nal nnl ncl)).setCell ⟨w.heap.size + 3, 5, none⟩ (.slice nam nnm ncm)) (fun y => S y ∨ (w.heap.size + 3 < y ∧ y < ((((((wy.setCell ⟨w.heap.size + 3, 0, none⟩ (.int .i64 nk)).setCell ⟨w.heap.size + 3, 1, none⟩ (.bool nb)).setCell ⟨w.heap.size + 3, 2, none⟩ (.int .i64 ni)).setCell ⟨w.heap.size + 3, 3, none⟩ (.string ns)).setCell ⟨w.heap.size + 3, 4, none⟩ (.slice nal nnl ncl)).setCell ⟨w.heap.size + 3, 5, none⟩ (.slice nam nnm ncm)).heap.size)) [.int .i64 nk, .bool nb, .int .i64 ni, .string ns, .slice nal nnl ncl, .slice nam nnm ncm]) := by
         show V.lies _ _ _ _ _
         rw [HSn.out]
         exact V.lies_keep (fun h => h) (fun y hy => Howz.out y (hy.elim (fun h => h.elim (fun h => by have := hS y h; omega) (fun h => by omega)) (fun h => by have := h.1; omega))) (fun y hy => by rw [Hswz.out]; exact hy.elim (fun h => h.elim .inl (fun h => .inr ⟨h.1, by have := by_.size; omega⟩)) (fun h => .inr ⟨by have := h.1; omega, h.2⟩)) _ hln
        clear hln by_
        go_wp2_with fail
        clear co0 co1 co2 co3 co4 co5 fo
        generalize ((((((wy.setCell ⟨w.heap.size + 3, 0, none⟩ (.int .i64 nk)).setCell ⟨w.heap.size + 3, 1, none⟩ (.bool nb)).setCell ⟨w.heap.size + 3, 2, none⟩ (.int .i64 ni)).setCell ⟨w.heap.size + 3, 3, none⟩ (.string ns)).setCell ⟨w.heap.size + 3, 4, none⟩ (.slice nal nnl ncl)).setCell ⟨w.heap.size + 3, 5, none⟩ (.slice nam nnm ncm)) = wz at *
        go_roundw
        case rel => exact ⟨j + 1, _, _, _, _, _, _, _, _, _, _, by omega, by go_num, howz, Bvwz, HN⟩
        case measure => simp [RowKit.intOf]; omega
       ·have bz : Below wd.heap.size wd (wd.alloc (.cells #[.int .i64 0, .bool false, .int .i64 0, .string ⟨#[]⟩, .slice none 0 0, .slice none 0 0] 25)) := one_belowG _ _
        have hltwe : wd.heap.size < (wd.alloc (.cells #[.int .i64 0, .bool false, .int .i64 0, .string ⟨#[]⟩, .slice none 0 0, .slice none 0 0] 25)).heap.size := by show wd.heap.size < (wd.alloc (.cells #[.int .i64 0, .bool false, .int .i64 0, .string ⟨#[]⟩, .slice none 0 0, .slice none 0 0] 25)).heap.size; rw [alloc_size]; exact Nat.lt_succ_self _
        have mbwe : (wd.alloc (.cells #[.int .i64 0, .bool false, .int .i64 0, .string ⟨#[]⟩, .slice none 0 0, .slice none 0 0] 25)).heap[wd.heap.size]? = some (.cells #[.int .i64 0, .bool false, .int .i64 0, .string ⟨#[]⟩, .slice none 0 0, .slice none 0 0] 25) := heap_alloc_new wd (.cells #[.int .i64 0, .bool false, .int .i64 0, .string ⟨#[]⟩, .slice none 0 0, .slice none 0 0] 25)
        have bwe : Below wc.heap.size wc (wd.alloc (.cells #[.int .i64 0, .bool false, .int .i64 0, .string ⟨#[]⟩, .slice none 0 0, .slice none 0 0] 25)) := bwd.trans (bz.mono (by omega))
        have Bgwe : Below wd.heap.size wd (wd.alloc (.cells #[.int .i64 0, .bool false, .int .i64 0, .string ⟨#[]⟩, .slice none 0 0, .slice none 0 0] 25)) := bz
        go_simp
        refine hK.out _ _ bwe (fun hHeld => ?_)
        clear hK K bz
        (try simp only [Act.put, List.setIfInBounds_toArray, List.set_cons_zero, List.set_cons_succ])
        generalize (wd.alloc (.cells #[.int .i64 0, .bool false, .int .i64 0, .string ⟨#[]⟩, .slice none 0 0, .slice none 0 0] 25)) = we at *
        refine wpAnyH_ready (rs := [4]) (by kernel_rfl) (by simp) ?_
        refine AllReadyH.cons rfl (fun K hK => ?_) AllReadyH.nil
        go_simp
        have Bwc_ := Bwwc.trans (bwe.mono (by omega))
        have hz_ := bwe.size
        refine (HIH.out (getR tm ekey) (fun y => S y ∨ (wc.heap.size ≤ y ∧ y < wd.heap.size)) _ _ we (HOG.out ekey) HOJ.out (V.lies_keep (fun h => h) (fun _ _ => rfl) (fun y hy => hy.elim .inl (fun h => .inr ⟨by omega, h.2⟩)) _ (HG.out we Bgwe)) (V.lies_keep (fun h => h) (fun _ _ => rfl) (fun y hy => .inl hy) _ (HE.out we Bwc_)) (fun y hy => hy.elim (fun h => by have := hS y h; omega) (fun h => by omega))).mono ?_
        rintro e wf ⟨csr, rfl, hlr, br_⟩
        obtain ⟨rk, rb, ri, rs, ral, rnl, rcl, ram, rnm, rcm, rfl⟩ := V.ten hlr
        have hr_ := br_.size
        have bwf := bwe.trans (br_.mono (by omega))
        have lrwf : (bwV (getR tm ekey) xv).lies false wf (fun y => S y ∨ (wc.heap.size ≤ y ∧ y < wf.heap.size ∧ y ≠ wd.heap.size)) [.int .i64 rk, .bool rb, .int .i64 ri, .string rs, .slice ral rnl rcl, .slice ram rnm rcm] := V.lies_keep (fun h => h) (fun _ _ => rfl) (fun y hy => hy.elim (fun h => h.elim .inl (fun h => .inr ⟨by have := h.1; omega, by omega, by omega⟩)) (fun h => .inr ⟨by have := h.1; omega, h.2, by have := h.1; omega⟩)) _ hlr
        have mbwf := (br_.block (wd.heap.size) (by omega)).trans mbwe
        clear hlr br_ Bwc_ HG
        go_simp
        refine hK.out _ _ bwf (fun hHeld => ?_)
        clear hK K
        (try simp only [Act.put, List.setIfInBounds_toArray, List.set_cons_zero, List.set_cons_succ])
        have hA0 : wc.heap.size ≤ wd.heap.size := by omega
        have hA1 : wd.heap.size < wf.heap.size := (Array.getElem?_eq_some_iff.1 mbwf).1
        have LR : (bwV (getR tm ekey) xv).lies false wf (fun y => S y ∨ (wc.heap.size ≤ y ∧ y < wf.heap.size ∧ y ≠ wd.heap.size)) [.int .i64 rk, .bool rb, .int .i64 ri, .string rs, .slice ral rnl rcl, .slice ram rnm rcm] := V.lies_keep (fun h => h) (fun _ _ => rfl) (fun y hy => hy.elim .inl (fun h => .inr ⟨h.1, by omega, h.2.2⟩)) _ lrwf
        have kb := mbwf
        generalize wd.heap.size = A_ at *
        have pz0 : wf.cell? ⟨A_, 0, none⟩ = some (.int .i64 0) := by rw [cell_of_block kb]; rfl
        have pz1 : wf.cell? ⟨A_, 1, none⟩ = some (.bool false) := by rw [cell_of_block kb]; rfl
        have pz2 : wf.cell? ⟨A_, 2, none⟩ = some (.int .i64 0) := by rw [cell_of_block kb]; rfl
        have pz3 : wf.cell? ⟨A_, 3, none⟩ = some (.string ⟨#[]⟩) := by rw [cell_of_block kb]; rfl
        have pz4 : wf.cell? ⟨A_, 4, none⟩ = some (.slice none 0 0) := by rw [cell_of_block kb]; rfl
        have pz5 : wf.cell? ⟨A_, 5, none⟩ = some (.slice none 0 0) := by rw [cell_of_block kb]; rfl
        have fp := frozen_of_block kb
        have Bs : Below wc.heap.size wc ((((((wf.setCell ⟨A_, 0, none⟩ (.int .i64 rk)).setCell ⟨A_, 1, none⟩ (.bool rb)).setCell ⟨A_, 2, none⟩ (.int .i64 ri)).setCell ⟨A_, 3, none⟩ (.string rs)).setCell ⟨A_, 4, none⟩ (.slice ral rnl rcl)).setCell ⟨A_, 5, none⟩ (.slice ram rnm rcm)) := Below.set6 bwf (M := A_) (by omega) 0 1 2 3 4 5 (.int .i64 rk) (.bool rb) (.int .i64 ri) (.string rs) (.slice ral rnl rcl) (.slice ram rnm rcm)
        have kr := box_six kb (.int .i64 rk) (.bool rb) (.int .i64 ri) (.string rs) (.slice ral rnl rcl) (.slice ram rnm rcm)
        have hzs : ((((((wf.setCell ⟨A_, 0, none⟩ (.int .i64 rk)).setCell ⟨A_, 1, none⟩ (.bool rb)).setCell ⟨A_, 2, none⟩ (.int .i64 ri)).setCell ⟨A_, 3, none⟩ (.string rs)).setCell ⟨A_, 4, none⟩ (.slice ral rnl rcl)).setCell ⟨A_, 5, none⟩ (.slice ram rnm rcm)).heap.size = wf.heap.size := by simp only [size_set1]
        have LR2 : Hid ((bwV (getR tm ekey) xv).lies false ((((((wf.setCell ⟨A_, 0, none⟩ (.int .i64 rk)).setCell ⟨A_, 1, none⟩ (.bool rb)).setCell ⟨A_, 2, none⟩ (.int .i64 ri)).setCell ⟨A_, 3, none⟩ (.string rs)).setCell ⟨A_, 4, none⟩ (.slice ral rnl rcl)).setCell ⟨A_, 5, none⟩ (.slice ram rnm rcm)) (fun y => S y ∨ (w.heap.size + 3 < y ∧ y < ((((((wf.setCell ⟨A_, 0, none⟩ (.int .i64 rk)).setCell ⟨A_, 1, none⟩ (.bool rb)).setCell ⟨A_, 2, none⟩ (.int .i64 ri)).setCell ⟨A_, 3, none⟩ (.string rs)).setCell ⟨A_, 4, none⟩ (.slice ral rnl rcl)).setCell ⟨A_, 5, none⟩ (.slice ram rnm rcm)).heap.size)) [.int .i64 rk, .bool rb, .int .i64 ri, .string rs, .slice ral rnl rcl, .slice ram rnm rcm]) := V.lies_keep (fun h => h) (fun y hy => six_o wf (A_) (.int .i64 rk) (.bool rb) (.int .i64 ri) (.string rs) (.slice ral rnl rcl) (.slice ram rnm rcm) y (hy.elim (fun h => by have := hS y h; omega) (fun h => h.2.2))) (fun y hy => hy.elim .inl (fun h => .inr ⟨by have := h.1; omega, by rw [hzs]; exact h.2.1⟩)) _ LR
        refine wpAnyH_ready (rs := [6]) (by kernel_rfl) (by simp) ?_
        refine AllReadyH.cons rfl (fun K hK => ?_) AllReadyH.nil
        go_simp
        refine hK.out _ _ Bs (fun hHeld => ?_)
        clear hK K
        (try simp only [Act.put, List.setIfInBounds_toArray, List.set_cons_zero, List.set_cons_succ])
        refine wpAnyH_done (by kernel_rfl) ?_ _
        (try dsimp only [Act.put, List.getElem_toArray, List.getElem_cons_succ, List.getElem_cons_zero, List.setIfInBounds_toArray, List.set_cons_zero, List.set_cons_succ])
        clear hHeld pz0 pz1 pz2 pz3 pz4 pz5 fp LR lrwf kb mbwf
        have hzs2 : A_ < ((((((wf.setCell ⟨A_, 0, none⟩ (.int .i64 rk)).setCell ⟨A_, 1, none⟩ (.bool rb)).setCell ⟨A_, 2, none⟩ (.int .i64 ri)).setCell ⟨A_, 3, none⟩ (.string rs)).setCell ⟨A_, 4, none⟩ (.slice ral rnl rcl)).setCell ⟨A_, 5, none⟩ (.slice ram rnm rcm)).heap.size := by rw [hzs]; exact hA1
        generalize ((((((wf.setCell ⟨A_, 0, none⟩ (.int .i64 rk)).setCell ⟨A_, 1, none⟩ (.bool rb)).setCell ⟨A_, 2, none⟩ (.int .i64 ri)).setCell ⟨A_, 3, none⟩ (.string rs)).setCell ⟨A_, 4, none⟩ (.slice ral rnl rcl)).setCell ⟨A_, 5, none⟩ (.slice ram rnm rcm)) = wx at *
        clear hzs
        have hzwx := Bs.size
        have htwx := (Bs.block (w.heap.size) (by omega)).trans htwc
        have hpwx := (Bs.block (w.heap.size + 1) (by omega)).trans hpwc
        have hzwx := (Bs.block (w.heap.size + 2) (by omega)).trans hzwc
        have howx := (Bs.block (w.heap.size + 3) (by omega)).trans howc
        have hxwx := (Bs.block (wv.heap.size) (by omega)).trans hxwc
        have Bwwx := Bwwc.trans (Bs.mono (by omega))
        have Bvwx := Bvwc.trans (Bs.mono (by omega))
        have Brwx := Brwc.trans (Bs.mono (by omega))
        have hywx := kr
        have co0 : wx.cell? ⟨w.heap.size + 3, 0, none⟩ = some (.int .i64 ok) := by rw [cell_of_block howx]; rfl
        have co1 : wx.cell? ⟨w.heap.size + 3, 1, none⟩ = some (.bool ob) := by rw [cell_of_block howx]; rfl
        have co2 : wx.cell? ⟨w.heap.size + 3, 2, none⟩ = some (.int .i64 oi) := by rw [cell_of_block howx]; rfl
        have co3 : wx.cell? ⟨w.heap.size + 3, 3, none⟩ = some (.string os) := by rw [cell_of_block howx]; rfl
        have co4 : wx.cell? ⟨w.heap.size + 3, 4, none⟩ = some (.slice oal onl ocl) := by rw [cell_of_block howx]; rfl
        have co5 : wx.cell? ⟨w.heap.size + 3, 5, none⟩ = some (.slice oam onm ocm) := by rw [cell_of_block howx]; rfl
        have cx0 : wx.cell? ⟨A_, 0, none⟩ = some (.int .i64 rk) := by rw [cell_of_block hywx]; rfl
        have cx1 : wx.cell? ⟨A_, 1, none⟩ = some (.bool rb) := by rw [cell_of_block hywx]; rfl
        have cx2 : wx.cell? ⟨A_, 2, none⟩ = some (.int .i64 ri) := by rw [cell_of_block hywx]; rfl
        have cx3 : wx.cell? ⟨A_, 3, none⟩ = some (.string rs) := by rw [cell_of_block hywx]; rfl
        have cx4 : wx.cell? ⟨A_, 4, none⟩ = some (.slice ral rnl rcl) := by rw [cell_of_block hywx]; rfl
        have cx5 : wx.cell? ⟨A_, 5, none⟩ = some (.slice ram rnm rcm) := by rw [cell_of_block hywx]; rfl
        go_wp2_with fail
        clear co0 co1 co2 co3 co4 co5 cx0 cx1 cx2 cx3 cx4 cx5
        refine (rwit_any 5 false 0 ⟨#[]⟩ [] L ekey (bwV (getR tm ekey) xv) (fun y => S y ∨ (w.heap.size + 3 < y ∧ y < wx.heap.size)) _ _ wx (V.lies_keep (fun h => h) (fun _ _ => rfl) (fun y hy => hy.elim .inl (fun h => .inr ⟨h.1, by omega⟩)) _ (HO1.out wx Brwx)) LR2.out hks (fun y hy => hy.elim (fun h => by have := hS y h; omega) (fun h => h.2)) hLn).mono ?_
        rintro e wy ⟨csn, rfl, hln, by_⟩
        obtain ⟨nk, nb, ni, ns, nal, nnl, ncl, nam, nnm, ncm, rfl⟩ := V.ten hln
        have hzwy := by_.size
        have htwy := (by_.block (w.heap.size) (by omega)).trans htwx
        have hpwy := (by_.block (w.heap.size + 1) (by omega)).trans hpwx
        have hzwy := (by_.block (w.heap.size + 2) (by omega)).trans hzwx
        have howy := (by_.block (w.heap.size + 3) (by omega)).trans howx
        have hywy := (by_.block (A_) (by omega)).trans hywx
        have Bwwy := Bwwx.trans (by_.mono (by omega))
        have Bvwy := Bvwx.trans (by_.mono (by omega))
        have Brwy := Brwx.trans (by_.mono (by omega))
        have co0 : wy.cell? ⟨w.heap.size + 3, 0, none⟩ = some (.int .i64 ok) := by rw [cell_of_block howy]; rfl
        have co1 : wy.cell? ⟨w.heap.size + 3, 1, none⟩ = some (.bool ob) := by rw [cell_of_block howy]; rfl
        have co2 : wy.cell? ⟨w.heap.size + 3, 2, none⟩ = some (.int .i64 oi) := by rw [cell_of_block howy]; rfl
        have co3 : wy.cell? ⟨w.heap.size + 3, 3, none⟩ = some (.string os) := by rw [cell_of_block howy]; rfl
        have co4 : wy.cell? ⟨w.heap.size + 3, 4, none⟩ = some (.slice oal onl ocl) := by rw [cell_of_block howy]; rfl
        have co5 : wy.cell? ⟨w.heap.size + 3, 5, none⟩ = some (.slice oam onm ocm) := by rw [cell_of_block howy]; rfl
        have fo := frozen_of_block howy
        have Howz := hmk (six_o wy (w.heap.size + 3) (.int .i64 nk) (.bool nb) (.int .i64 ni) (.string ns) (.slice nal nnl ncl) (.slice nam nnm ncm))
        have Hswz : Hid (((((((wy.setCell ⟨w.heap.size + 3, 0, none⟩ (.int .i64 nk)).setCell ⟨w.heap.size + 3, 1, none⟩ (.bool nb)).setCell ⟨w.heap.size + 3, 2, none⟩ (.int .i64 ni)).setCell ⟨w.heap.size + 3, 3, none⟩ (.string ns)).setCell ⟨w.heap.size + 3, 4, none⟩ (.slice nal nnl ncl)).setCell ⟨w.heap.size + 3, 5, none⟩ (.slice nam nnm ncm)).heap.size = wy.heap.size) := by show _ = _; simp only [size_set1]
        have hgewz : wy.heap.size ≤ ((((((wy.setCell ⟨w.heap.size + 3, 0, none⟩ (.int .i64 nk)).setCell ⟨w.heap.size + 3, 1, none⟩ (.bool nb)).setCell ⟨w.heap.size + 3, 2, none⟩ (.int .i64 ni)).setCell ⟨w.heap.size + 3, 3, none⟩ (.string ns)).setCell ⟨w.heap.size + 3, 4, none⟩ (.slice nal nnl ncl)).setCell ⟨w.heap.size + 3, 5, none⟩ (.slice nam nnm ncm)).heap.size := by rw [Hswz.out]; exact Nat.le_refl _
        have htwz := (Howz.out (w.heap.size) (by omega)).trans htwy
        have hpwz := (Howz.out (w.heap.size + 1) (by omega)).trans hpwy
        have hzwz := (Howz.out (w.heap.size + 2) (by omega)).trans hzwy
        have howz := box_six howy (.int .i64 nk) (.bool nb) (.int .i64 ni) (.string ns) (.slice nal nnl ncl) (.slice nam nnm ncm)
        have hywz := (Howz.out (A_) (by omega)).trans hywy
        have Bwwz := Below.set6 Bwwy (M := w.heap.size + 3) (by omega) 0 1 2 3 4 5 (.int .i64 nk) (.bool nb) (.int .i64 ni) (.string ns) (.slice nal nnl ncl) (.slice nam nnm ncm)
        have Bvwz := Below.set6 Bvwy (M := w.heap.size + 3) (by omega) 0 1 2 3 4 5 (.int .i64 nk) (.bool nb) (.int .i64 ni) (.string ns) (.slice nal nnl ncl) (.slice nam nnm ncm)
        have HN : Hid ((mapV (bwM tm (m.take (j + 1)) (nulM tm m []))).lies false ((((((wy.setCell ⟨w.heap.size + 3, 0, none⟩ (.int .i64 nk)).setCell ⟨w.heap.size + 3, 1, none⟩ (.bool nb)).setCell ⟨w.heap.size + 3, 2, none⟩ (.int .i64 ni)).setCell ⟨w.heap.size + 3, 3, none⟩ (.string ns)).setCell ⟨w.heap.size + 3, 4, none⟩ (.slice nal nnl ncl)).setCell ⟨w.heap.size + 3, 5, none⟩ (.slice nam nnm ncm)) (fun y => S y ∨ (w.heap.size + 3 < y ∧ y < ((((((wy.setCell ⟨w.heap.size + 3, 0, none⟩ (.int .i64 nk)).setCell ⟨w.heap.size + 3, 1, none⟩ (.bool nb)).setCell ⟨w.heap.size + 3, 2, none⟩ (.int .i64 ni)).setCell ⟨w.heap.size + 3, 3, none⟩ (.string ns)).setCell ⟨w.heap.size + 3, 4, none⟩ (.slice nal nnl ncl)).setCell ⟨w.heap.size + 3, 5, none⟩ (.slice nam nnm ncm)).heap.size)) [.int .i64 nk, .bool nb, .int .i64 ni, .string ns, .slice nal nnl ncl, .slice nam nnm ncm]) := by
         show V.lies _ _ _ _ _
         rw [HSn.out]
         exact V.lies_keep (fun h => h) (fun y hy => Howz.out y (hy.elim (fun h => h.elim (fun h => by have := hS y h; omega) (fun h => by omega)) (fun h => by have := h.1; omega))) (fun y hy => by rw [Hswz.out]; exact hy.elim (fun h => h.elim .inl (fun h => .inr ⟨h.1, by have := by_.size; omega⟩)) (fun h => .inr ⟨by have := h.1; omega, h.2⟩)) _ hln
        clear hln by_
        go_wp2_with fail
        clear co0 co1 co2 co3 co4 co5 fo
        generalize ((((((wy.setCell ⟨w.heap.size + 3, 0, none⟩ (.int .i64 nk)).setCell ⟨w.heap.size + 3, 1, none⟩ (.bool nb)).setCell ⟨w.heap.size + 3, 2, none⟩ (.int .i64 ni)).setCell ⟨w.heap.size + 3, 3, none⟩ (.string ns)).setCell ⟨w.heap.size + 3, 4, none⟩ (.slice nal nnl ncl)).setCell ⟨w.heap.size + 3, 5, none⟩ (.slice nam nnm ncm)) = wz at *
        go_roundw
        case rel => exact ⟨j + 1, _, _, _, _, _, _, _, _, _, _, by omega, by go_num, howz, Bvwz, HN⟩
        case measure => simp [RowKit.intOf]; omega
      ·have bz : Below wc.heap.size wc (wc.alloc (.cells #[.int .i64 0, .bool false, .int .i64 0, .string ⟨#[]⟩, .slice none 0 0, .slice none 0 0] 25)).drew := ((Below.refl _ _).alloc (Nat.le_refl _) _).drew
       have hltwd : wc.heap.size < (wc.alloc (.cells #[.int .i64 0, .bool false, .int .i64 0, .string ⟨#[]⟩, .slice none 0 0, .slice none 0 0] 25)).drew.heap.size := by show wc.heap.size < (wc.alloc (.cells #[.int .i64 0, .bool false, .int .i64 0, .string ⟨#[]⟩, .slice none 0 0, .slice none 0 0] 25)).heap.size; rw [alloc_size]; exact Nat.lt_succ_self _
       have mbwd : (wc.alloc (.cells #[.int .i64 0, .bool false, .int .i64 0, .string ⟨#[]⟩, .slice none 0 0, .slice none 0 0] 25)).drew.heap[wc.heap.size]? = some (.cells #[.int .i64 0, .bool false, .int .i64 0, .string ⟨#[]⟩, .slice none 0 0, .slice none 0 0] 25) := heap_alloc_new wc (.cells #[.int .i64 0, .bool false, .int .i64 0, .string ⟨#[]⟩, .slice none 0 0, .slice none 0 0] 25)
       have bwd : Below wc.heap.size wc (wc.alloc (.cells #[.int .i64 0, .bool false, .int .i64 0, .string ⟨#[]⟩, .slice none 0 0, .slice none 0 0] 25)).drew := bz
       go_simp
       refine hK.out _ _ bwd (fun hHeld => ?_)
       clear hK K bz
       (try simp only [Act.put, List.setIfInBounds_toArray, List.set_cons_zero, List.set_cons_succ])
       generalize (wc.alloc (.cells #[.int .i64 0, .bool false, .int .i64 0, .string ⟨#[]⟩, .slice none 0 0, .slice none 0 0] 25)).drew = wd at *
       refine wpAnyH_ready (rs := [2]) (by kernel_rfl) (by simp) ?_
       refine AllReadyH.cons rfl (fun K hK => ?_) AllReadyH.nil
       go_simp
       have bdr : Below w.heap.size w wd := Bwwc.trans (bwd.mono (by omega))
       refine (get_v (.mk 5 tb ti ts tl tm) ekey S _ wd (HL.out _ bdr).1 (HL.out _ bdr).2 (by omega)).mono ?_
       rintro e we ⟨csg, rfl, hlg0, bg0⟩
       have bwe := bwd.trans (bg0.mono (by omega))
       have hg_ : wd.heap.size ≤ we.heap.size := bg0.size
       obtain ⟨gk, gb, gi, gs, gal, gnl, gcl, gam, gnm, gcm, rfl⟩ := V.ten hlg0
       have HG : Hid (∀ W, Below we.heap.size we W → (getR tm ekey).lies false W (fun y => S y ∨ (wd.heap.size ≤ y ∧ y < we.heap.size)) [.int .i64 gk, .bool gb, .int .i64 gi, .string gs, .slice gal gnl gcl, .slice gam gnm gcm]) := fun W hb => V.lies_keep (fun h => h) (fun y hy => hb.block y (hy.elim (fun h => by have := hS y h; omega) (fun h => h.2))) (fun y hy => hy.elim .inl (fun h => .inr h)) _ hlg0
       have mbwe := (bg0.block (wc.heap.size) (by omega)).trans mbwd
       clear bg0 bdr hlg0
       go_simp
       refine hK.out _ _ bwe (fun hHeld => ?_)
       clear hK K
       (try simp only [Act.put, List.setIfInBounds_toArray, List.set_cons_zero, List.set_cons_succ])
       refine wpAnyH_ready (rs := [4]) (by kernel_rfl) (by simp) ?_
       refine AllReadyH.cons rfl (fun K hK => ?_) AllReadyH.nil
       go_simp
       have Bwc_ := Bwwc.trans (bwe.mono (by omega))
       have hz_ := bwe.size
       refine (HIH.out (getR tm ekey) (fun y => S y ∨ (wd.heap.size ≤ y ∧ y < we.heap.size)) _ _ we (HOG.out ekey) HOJ.out (V.lies_keep (fun h => h) (fun _ _ => rfl) (fun y hy => hy.elim .inl (fun h => .inr ⟨by omega, h.2⟩)) _ (HG.out we (Below.refl _ _))) (V.lies_keep (fun h => h) (fun _ _ => rfl) (fun y hy => .inl hy) _ (HE.out we Bwc_)) (fun y hy => hy.elim (fun h => by have := hS y h; omega) (fun h => by omega))).mono ?_
       rintro e wf ⟨csr, rfl, hlr, br_⟩
       obtain ⟨rk, rb, ri, rs, ral, rnl, rcl, ram, rnm, rcm, rfl⟩ := V.ten hlr
       have hr_ := br_.size
       have bwf := bwe.trans (br_.mono (by omega))
       have lrwf : (bwV (getR tm ekey) xv).lies false wf (fun y => S y ∨ (wc.heap.size ≤ y ∧ y < wf.heap.size ∧ y ≠ wc.heap.size)) [.int .i64 rk, .bool rb, .int .i64 ri, .string rs, .slice ral rnl rcl, .slice ram rnm rcm] := V.lies_keep (fun h => h) (fun _ _ => rfl) (fun y hy => hy.elim (fun h => h.elim .inl (fun h => .inr ⟨by have := h.1; omega, by omega, by omega⟩)) (fun h => .inr ⟨by have := h.1; omega, h.2, by have := h.1; omega⟩)) _ hlr
       have mbwf := (br_.block (wc.heap.size) (by omega)).trans mbwe
       clear hlr br_ Bwc_ HG
       go_simp
       refine hK.out _ _ bwf (fun hHeld => ?_)
       clear hK K
       (try simp only [Act.put, List.setIfInBounds_toArray, List.set_cons_zero, List.set_cons_succ])
       have hA0 : wc.heap.size ≤ wc.heap.size := by omega
       have hA1 : wc.heap.size < wf.heap.size := (Array.getElem?_eq_some_iff.1 mbwf).1
       have LR : (bwV (getR tm ekey) xv).lies false wf (fun y => S y ∨ (wc.heap.size ≤ y ∧ y < wf.heap.size ∧ y ≠ wc.heap.size)) [.int .i64 rk, .bool rb, .int .i64 ri, .string rs, .slice ral rnl rcl, .slice ram rnm rcm] := V.lies_keep (fun h => h) (fun _ _ => rfl) (fun y hy => hy.elim .inl (fun h => .inr ⟨h.1, by omega, h.2.2⟩)) _ lrwf
       have kb := mbwf
       skip
       have pz0 : wf.cell? ⟨wc.heap.size, 0, none⟩ = some (.int .i64 0) := by rw [cell_of_block kb]; rfl
       have pz1 : wf.cell? ⟨wc.heap.size, 1, none⟩ = some (.bool false) := by rw [cell_of_block kb]; rfl
       have pz2 : wf.cell? ⟨wc.heap.size, 2, none⟩ = some (.int .i64 0) := by rw [cell_of_block kb]; rfl
       have pz3 : wf.cell? ⟨wc.heap.size, 3, none⟩ = some (.string ⟨#[]⟩) := by rw [cell_of_block kb]; rfl
       have pz4 : wf.cell? ⟨wc.heap.size, 4, none⟩ = some (.slice none 0 0) := by rw [cell_of_block kb]; rfl
       have pz5 : wf.cell? ⟨wc.heap.size, 5, none⟩ = some (.slice none 0 0) := by rw [cell_of_block kb]; rfl
       have fp := frozen_of_block kb
       have Bs : Below wc.heap.size wc ((((((wf.setCell ⟨wc.heap.size, 0, none⟩ (.int .i64 rk)).setCell ⟨wc.heap.size, 1, none⟩ (.bool rb)).setCell ⟨wc.heap.size, 2, none⟩ (.int .i64 ri)).setCell ⟨wc.heap.size, 3, none⟩ (.string rs)).setCell ⟨wc.heap.size, 4, none⟩ (.slice ral rnl rcl)).setCell ⟨wc.heap.size, 5, none⟩ (.slice ram rnm rcm)) := Below.set6 bwf (M := wc.heap.size) (by omega) 0 1 2 3 4 5 (.int .i64 rk) (.bool rb) (.int .i64 ri) (.string rs) (.slice ral rnl rcl) (.slice ram rnm rcm)
       have kr := box_six kb (.int .i64 rk) (.bool rb) (.int .i64 ri) (.string rs) (.slice ral rnl rcl) (.slice ram rnm rcm)
       have hzs : ((((((wf.setCell ⟨wc.heap.size, 0, none⟩ (.int .i64 rk)).setCell ⟨wc.heap.size, 1, none⟩ (.bool rb)).setCell ⟨wc.heap.size, 2, none⟩ (.int .i64 ri)).setCell ⟨wc.heap.size, 3, none⟩ (.string rs)).setCell ⟨wc.heap.size, 4, none⟩ (.slice ral rnl rcl)).setCell ⟨wc.heap.size, 5, none⟩ (.slice ram rnm rcm)).heap.size = wf.heap.size := by simp only [size_set1]
       have LR2 : Hid ((bwV (getR tm ekey) xv).lies false ((((((wf.setCell ⟨wc.heap.size, 0, none⟩ (.int .i64 rk)).setCell ⟨wc.heap.size, 1, none⟩ (.bool rb)).setCell ⟨wc.heap.size, 2, none⟩ (.int .i64 ri)).setCell ⟨wc.heap.size, 3, none⟩ (.string rs)).setCell ⟨wc.heap.size, 4, none⟩ (.slice ral rnl rcl)).setCell ⟨wc.heap.size, 5, none⟩ (.slice ram rnm rcm)) (fun y => S y ∨ (w.heap.size + 3 < y ∧ y < ((((((wf.setCell ⟨wc.heap.size, 0, none⟩ (.int .i64 rk)).setCell ⟨wc.heap.size, 1, none⟩ (.bool rb)).setCell ⟨wc.heap.size, 2, none⟩ (.int .i64 ri)).setCell ⟨wc.heap.size, 3, none⟩ (.string rs)).setCell ⟨wc.heap.size, 4, none⟩ (.slice ral rnl rcl)).setCell ⟨wc.heap.size, 5, none⟩ (.slice ram rnm rcm)).heap.size)) [.int .i64 rk, .bool rb, .int .i64 ri, .string rs, .slice ral rnl rcl, .slice ram rnm rcm]) := V.lies_keep (fun h => h) (fun y hy => six_o wf (wc.heap.size) (.int .i64 rk) (.bool rb) (.int .i64 ri) (.string rs) (.slice ral rnl rcl) (.slice ram rnm rcm) y (hy.elim (fun h => by have := hS y h; omega) (fun h => h.2.2))) (fun y hy => hy.elim .inl (fun h => .inr ⟨by have := h.1; omega, by rw [hzs]; exact h.2.1⟩)) _ LR
       refine wpAnyH_ready (rs := [6]) (by kernel_rfl) (by simp) ?_
       refine AllReadyH.cons rfl (fun K hK => ?_) AllReadyH.nil
       go_simp
       refine hK.out _ _ Bs (fun hHeld => ?_)
       clear hK K
       (try simp only [Act.put, List.setIfInBounds_toArray, List.set_cons_zero, List.set_cons_succ])
       refine wpAnyH_done (by kernel_rfl) ?_ _
       (try dsimp only [Act.put, List.getElem_toArray, List.getElem_cons_succ, List.getElem_cons_zero, List.setIfInBounds_toArray, List.set_cons_zero, List.set_cons_succ])
       clear hHeld pz0 pz1 pz2 pz3 pz4 pz5 fp LR lrwf kb mbwf
       have hzs2 : wc.heap.size < ((((((wf.setCell ⟨wc.heap.size, 0, none⟩ (.int .i64 rk)).setCell ⟨wc.heap.size, 1, none⟩ (.bool rb)).setCell ⟨wc.heap.size, 2, none⟩ (.int .i64 ri)).setCell ⟨wc.heap.size, 3, none⟩ (.string rs)).setCell ⟨wc.heap.size, 4, none⟩ (.slice ral rnl rcl)).setCell ⟨wc.heap.size, 5, none⟩ (.slice ram rnm rcm)).heap.size := by rw [hzs]; exact hA1
       generalize ((((((wf.setCell ⟨wc.heap.size, 0, none⟩ (.int .i64 rk)).setCell ⟨wc.heap.size, 1, none⟩ (.bool rb)).setCell ⟨wc.heap.size, 2, none⟩ (.int .i64 ri)).setCell ⟨wc.heap.size, 3, none⟩ (.string rs)).setCell ⟨wc.heap.size, 4, none⟩ (.slice ral rnl rcl)).setCell ⟨wc.heap.size, 5, none⟩ (.slice ram rnm rcm)) = wx at *
       clear hzs
       have hzwx := Bs.size
       have htwx := (Bs.block (w.heap.size) (by omega)).trans htwc
       have hpwx := (Bs.block (w.heap.size + 1) (by omega)).trans hpwc
       have hzwx := (Bs.block (w.heap.size + 2) (by omega)).trans hzwc
       have howx := (Bs.block (w.heap.size + 3) (by omega)).trans howc
       have hxwx := (Bs.block (wv.heap.size) (by omega)).trans hxwc
       have Bwwx := Bwwc.trans (Bs.mono (by omega))
       have Bvwx := Bvwc.trans (Bs.mono (by omega))
       have Brwx := Brwc.trans (Bs.mono (by omega))
       have hywx := kr
       have co0 : wx.cell? ⟨w.heap.size + 3, 0, none⟩ = some (.int .i64 ok) := by rw [cell_of_block howx]; rfl
       have co1 : wx.cell? ⟨w.heap.size + 3, 1, none⟩ = some (.bool ob) := by rw [cell_of_block howx]; rfl
       have co2 : wx.cell? ⟨w.heap.size + 3, 2, none⟩ = some (.int .i64 oi) := by rw [cell_of_block howx]; rfl
       have co3 : wx.cell? ⟨w.heap.size + 3, 3, none⟩ = some (.string os) := by rw [cell_of_block howx]; rfl
       have co4 : wx.cell? ⟨w.heap.size + 3, 4, none⟩ = some (.slice oal onl ocl) := by rw [cell_of_block howx]; rfl
       have co5 : wx.cell? ⟨w.heap.size + 3, 5, none⟩ = some (.slice oam onm ocm) := by rw [cell_of_block howx]; rfl
       have cx0 : wx.cell? ⟨wc.heap.size, 0, none⟩ = some (.int .i64 rk) := by rw [cell_of_block hywx]; rfl
       have cx1 : wx.cell? ⟨wc.heap.size, 1, none⟩ = some (.bool rb) := by rw [cell_of_block hywx]; rfl
       have cx2 : wx.cell? ⟨wc.heap.size, 2, none⟩ = some (.int .i64 ri) := by rw [cell_of_block hywx]; rfl
       have cx3 : wx.cell? ⟨wc.heap.size, 3, none⟩ = some (.string rs) := by rw [cell_of_block hywx]; rfl
       have cx4 : wx.cell? ⟨wc.heap.size, 4, none⟩ = some (.slice ral rnl rcl) := by rw [cell_of_block hywx]; rfl
       have cx5 : wx.cell? ⟨wc.heap.size, 5, none⟩ = some (.slice ram rnm rcm) := by rw [cell_of_block hywx]; rfl
       go_wp2_with fail
       clear co0 co1 co2 co3 co4 co5 cx0 cx1 cx2 cx3 cx4 cx5
       refine (rwit_any 5 false 0 ⟨#[]⟩ [] L ekey (bwV (getR tm ekey) xv) (fun y => S y ∨ (w.heap.size + 3 < y ∧ y < wx.heap.size)) _ _ wx (V.lies_keep (fun h => h) (fun _ _ => rfl) (fun y hy => hy.elim .inl (fun h => .inr ⟨h.1, by omega⟩)) _ (HO1.out wx Brwx)) LR2.out hks (fun y hy => hy.elim (fun h => by have := hS y h; omega) (fun h => h.2)) hLn).mono ?_
       rintro e wy ⟨csn, rfl, hln, by_⟩
       obtain ⟨nk, nb, ni, ns, nal, nnl, ncl, nam, nnm, ncm, rfl⟩ := V.ten hln
       have hzwy := by_.size
       have htwy := (by_.block (w.heap.size) (by omega)).trans htwx
       have hpwy := (by_.block (w.heap.size + 1) (by omega)).trans hpwx
       have hzwy := (by_.block (w.heap.size + 2) (by omega)).trans hzwx
       have howy := (by_.block (w.heap.size + 3) (by omega)).trans howx
       have hywy := (by_.block (wc.heap.size) (by omega)).trans hywx
       have Bwwy := Bwwx.trans (by_.mono (by omega))
       have Bvwy := Bvwx.trans (by_.mono (by omega))
       have Brwy := Brwx.trans (by_.mono (by omega))
       have co0 : wy.cell? ⟨w.heap.size + 3, 0, none⟩ = some (.int .i64 ok) := by rw [cell_of_block howy]; rfl
       have co1 : wy.cell? ⟨w.heap.size + 3, 1, none⟩ = some (.bool ob) := by rw [cell_of_block howy]; rfl
       have co2 : wy.cell? ⟨w.heap.size + 3, 2, none⟩ = some (.int .i64 oi) := by rw [cell_of_block howy]; rfl
       have co3 : wy.cell? ⟨w.heap.size + 3, 3, none⟩ = some (.string os) := by rw [cell_of_block howy]; rfl
       have co4 : wy.cell? ⟨w.heap.size + 3, 4, none⟩ = some (.slice oal onl ocl) := by rw [cell_of_block howy]; rfl
       have co5 : wy.cell? ⟨w.heap.size + 3, 5, none⟩ = some (.slice oam onm ocm) := by rw [cell_of_block howy]; rfl
       have fo := frozen_of_block howy
       have Howz := hmk (six_o wy (w.heap.size + 3) (.int .i64 nk) (.bool nb) (.int .i64 ni) (.string ns) (.slice nal nnl ncl) (.slice nam nnm ncm))
       have Hswz : Hid (((((((wy.setCell ⟨w.heap.size + 3, 0, none⟩ (.int .i64 nk)).setCell ⟨w.heap.size + 3, 1, none⟩ (.bool nb)).setCell ⟨w.heap.size + 3, 2, none⟩ (.int .i64 ni)).setCell ⟨w.heap.size + 3, 3, none⟩ (.string ns)).setCell ⟨w.heap.size + 3, 4, none⟩ (.slice nal nnl ncl)).setCell ⟨w.heap.size + 3, 5, none⟩ (.slice nam nnm ncm)).heap.size = wy.heap.size) := by show _ = _; simp only [size_set1]
       have hgewz : wy.heap.size ≤ ((((((wy.setCell ⟨w.heap.size + 3, 0, none⟩ (.int .i64 nk)).setCell ⟨w.heap.size + 3, 1, none⟩ (.bool nb)).setCell ⟨w.heap.size + 3, 2, none⟩ (.int .i64 ni)).setCell ⟨w.heap.size + 3, 3, none⟩ (.string ns)).setCell ⟨w.heap.size + 3, 4, none⟩ (.slice nal nnl ncl)).setCell ⟨w.heap.size + 3, 5, none⟩ (.slice nam nnm ncm)).heap.size := by rw [Hswz.out]; exact Nat.le_refl _
       have htwz := (Howz.out (w.heap.size) (by omega)).trans htwy
       have hpwz := (Howz.out (w.heap.size + 1) (by omega)).trans hpwy
       have hzwz := (Howz.out (w.heap.size + 2) (by omega)).trans hzwy
       have howz := box_six howy (.int .i64 nk) (.bool nb) (.int .i64 ni) (.string ns) (.slice nal nnl ncl) (.slice nam nnm ncm)
       have hywz := (Howz.out (wc.heap.size) (by omega)).trans hywy
       have Bwwz := Below.set6 Bwwy (M := w.heap.size + 3) (by omega) 0 1 2 3 4 5 (.int .i64 nk) (.bool nb) (.int .i64 ni) (.string ns) (.slice nal nnl ncl) (.slice nam nnm ncm)
       have Bvwz := Below.set6 Bvwy (M := w.heap.size + 3) (by omega) 0 1 2 3 4 5 (.int .i64 nk) (.bool nb) (.int .i64 ni) (.string ns) (.slice nal nnl ncl) (.slice nam nnm ncm)
       have HN : Hid ((mapV (bwM tm (m.take (j + 1)) (nulM tm m []))).lies false ((((((wy.setCell ⟨w.heap.size + 3, 0, none⟩ (.int .i64 nk)).setCell ⟨w.heap.size + 3, 1, none⟩ (.bool nb)).setCell ⟨w.heap.size + 3, 2, none⟩ (.int .i64 ni)).setCell ⟨w.heap.size + 3, 3, none⟩ (.string ns)).setCell ⟨w.heap.size + 3, 4, none⟩ (.slice nal nnl ncl)).setCell ⟨w.heap.size + 3, 5, none⟩ (.slice nam nnm ncm)) (fun y => S y ∨ (w.heap.size + 3 < y ∧ y < ((((((wy.setCell ⟨w.heap.size + 3, 0, none⟩ (.int .i64 nk)).setCell ⟨w.heap.size + 3, 1, none⟩ (.bool nb)).setCell ⟨w.heap.size + 3, 2, none⟩ (.int .i64 ni)).setCell ⟨w.heap.size + 3, 3, none⟩ (.string ns)).setCell ⟨w.heap.size + 3, 4, none⟩ (.slice nal nnl ncl)).setCell ⟨w.heap.size + 3, 5, none⟩ (.slice nam nnm ncm)).heap.size)) [.int .i64 nk, .bool nb, .int .i64 ni, .string ns, .slice nal nnl ncl, .slice nam nnm ncm]) := by
        show V.lies _ _ _ _ _
        rw [HSn.out]
        exact V.lies_keep (fun h => h) (fun y hy => Howz.out y (hy.elim (fun h => h.elim (fun h => by have := hS y h; omega) (fun h => by omega)) (fun h => by have := h.1; omega))) (fun y hy => by rw [Hswz.out]; exact hy.elim (fun h => h.elim .inl (fun h => .inr ⟨h.1, by have := by_.size; omega⟩)) (fun h => .inr ⟨by have := h.1; omega, h.2⟩)) _ hln
       clear hln by_
       go_wp2_with fail
       clear co0 co1 co2 co3 co4 co5 fo
       generalize ((((((wy.setCell ⟨w.heap.size + 3, 0, none⟩ (.int .i64 nk)).setCell ⟨w.heap.size + 3, 1, none⟩ (.bool nb)).setCell ⟨w.heap.size + 3, 2, none⟩ (.int .i64 ni)).setCell ⟨w.heap.size + 3, 3, none⟩ (.string ns)).setCell ⟨w.heap.size + 3, 4, none⟩ (.slice nal nnl ncl)).setCell ⟨w.heap.size + 3, 5, none⟩ (.slice nam nnm ncm)) = wz at *
       go_roundw
       case rel => exact ⟨j + 1, _, _, _, _, _, _, _, _, _, _, by omega, by go_num, howz, Bvwz, HN⟩
       case measure => simp [RowKit.intOf]; omega
  have y1 : (j : Int) < tm.length := by omega
  obtain rfl : tam = some ⟨tbm, tom, none⟩ := tham.at_.resolve_left (by omega)
  obtain ⟨hSb, hks, csj, hrow, hlj⟩ := liesM_get (HTM.out wr Bwwr) j hjl
  have hbm := hS tbm hSb
  have HNX := hmk (nul_next (m := m) hjl)
  have hLn : (nulM (tm.take j) m []).length ≤ 3000000 := by have := nul_len (tm.take j) m []; have h2 := List.length_take_le j tm; simp only [List.length_nil] at this; omega
  obtain ⟨ek, eb, ei, es, eal, enl, ecl, eam, enm, ecm, rfl⟩ := V.ten hlj
  rcases hxj : tm[j] with ⟨ekey, xv⟩
  rw [hxj] at hks hrow HNX
  simp only at hks hrow HNX
  obtain ⟨qk, q0, q1, q2, q3, q4, q5⟩ := row7 hrow
  clear hlj hxj hrow q0 q1 q2 q3 q4 q5
  have cp0 : wr.cell? ⟨w.heap.size + 1, 0, none⟩ = some (.int .i64 5) := by rw [cell_of_block hpwr]; rfl
  have cp1 : wr.cell? ⟨w.heap.size + 1, 1, none⟩ = some (.bool b) := by rw [cell_of_block hpwr]; rfl
  have cp2 : wr.cell? ⟨w.heap.size + 1, 2, none⟩ = some (.int .i64 i) := by rw [cell_of_block hpwr]; rfl
  have cp3 : wr.cell? ⟨w.heap.size + 1, 3, none⟩ = some (.string s) := by rw [cell_of_block hpwr]; rfl
  have cp4 : wr.cell? ⟨w.heap.size + 1, 4, none⟩ = some (.slice al l.length cl) := by rw [cell_of_block hpwr]; rfl
  have cp5 : wr.cell? ⟨w.heap.size + 1, 5, none⟩ = some (.slice am m.length cm) := by rw [cell_of_block hpwr]; rfl
  have xp0 : ∀ x : Sub wr.heap.size wr, _ := sub_cell cp0 (by omega)
  have xp1 : ∀ x : Sub wr.heap.size wr, _ := sub_cell cp1 (by omega)
  have xp2 : ∀ x : Sub wr.heap.size wr, _ := sub_cell cp2 (by omega)
  have xp3 : ∀ x : Sub wr.heap.size wr, _ := sub_cell cp3 (by omega)
  have xp4 : ∀ x : Sub wr.heap.size wr, _ := sub_cell cp4 (by omega)
  have xp5 : ∀ x : Sub wr.heap.size wr, _ := sub_cell cp5 (by omega)
  have xt5 : ∀ x : Sub wr.heap.size wr, _ := sub_cell cq5 (by omega)
  have xk : ∀ x : Sub wr.heap.size wr, _ := sub_cell qk (by omega)
  have CH : Hid (∀ x : Sub wr.heap.size wr, Calls Tryd.prog 28 #[.agg #[.int .i64 5, .bool b, .int .i64 i, .string s, .slice al l.length cl, .slice am m.length cm], .string ekey] x.w fun e w'' => e = .returned (.bool (hasR m ekey)) ∧ ∃ y : Sub wr.heap.size wr, w'' = y.w) := sub_call fun w' hb => (has_v (.mk 5 b i s l m) ekey S _ w' (HX.out w' (Bwwr.trans (hb.mono (by omega)))) (HL.out w' (Bwwr.trans (hb.mono (by omega)))).2).mono fun e w'' ⟨he, h2⟩ => ⟨he, hb.trans (h2.mono hb.size)⟩
  go_wp2_with fail
  refine wp_region_sub wr.heap.size (by kernel_rfl) (by kernel_rfl) ?_
  repeat (go_big_quiet_step (exact CH.out _))
  refine wpQuiet_nil ?_
  rintro wb ⟨⟨wb_, bwb⟩, hq0_⟩
  have hq1_ : wb = wb_ := hq0_
  subst hq1_
  clear hq0_ CH xp0 xp1 xp2 xp3 xp4 xp5 xt5 xk cp0 cp1 cp2 cp3 cp4 cp5
  have hzwb := bwb.size
  have htwb := (bwb.block (w.heap.size) (by omega)).trans htwr
  have hpwb := (bwb.block (w.heap.size + 1) (by omega)).trans hpwr
  have hzwb := (bwb.block (w.heap.size + 2) (by omega)).trans hzwr
  have howb := (bwb.block (w.heap.size + 3) (by omega)).trans howr
  have Bwwb := Bwwr.trans (bwb.mono (by omega))
  have Bvwb := Bvwr.trans (bwb.mono (by omega))
  have HO1 : Hid (∀ W, Below wr.heap.size wr W → (mapV (nulM (tm.take j) m [])).lies false W (fun y => S y ∨ (w.heap.size + 3 < y ∧ y < wr.heap.size)) [.int .i64 ok, .bool ob, .int .i64 oi, .string os, .slice oal onl ocl, .slice oam onm ocm]) := fun W hb => V.lies_keep (fun h => h) (fun y hy => hb.block y (hy.elim (fun h => by have := hS y h; omega) (fun h => h.2))) (fun _ h => h) _ HO.out
  clear HO
  generalize nulM (tm.take j) m [] = L at *
  cases hh : hasR m ekey with
  | true =>
   have HN : Hid ((mapV (nulM (tm.take (j + 1)) m [])).lies false wb (fun y => S y ∨ (w.heap.size + 3 < y ∧ y < wb.heap.size)) [.int .i64 ok, .bool ob, .int .i64 oi, .string os, .slice oal onl ocl, .slice oam onm ocm]) := by
    show V.lies _ _ _ _ _
    rw [HNX.out, if_pos hh]
    exact V.lies_keep (fun h => h) (fun _ _ => rfl) (fun y hy => hy.elim .inl (fun h => .inr ⟨h.1, by omega⟩)) _ (HO1.out wb bwb)
   go_wp2_with fail
   go_roundw
   case rel => exact ⟨j + 1, _, _, _, _, _, _, _, _, _, _, by omega, by go_num, howb, Bvwb, HN⟩
   case measure => simp [RowKit.intOf]; omega
  | false =>
   have HS : Hid (nulM (tm.take (j + 1)) m [] = witR L ekey nullV) := by show _ = _; rw [HNX.out, if_neg (by rw [hh]; simp)]
   have dt5 := (bwb.cell (p := ⟨w.heap.size, 5, none⟩) (by show w.heap.size < _; omega)).trans cq5
   have dqk := (bwb.cell (p := ⟨tbm, tom + j * 7, none⟩) (by show tbm < _; omega)).trans qk
   clear cq5 qk
   have co0 : wb.cell? ⟨w.heap.size + 3, 0, none⟩ = some (.int .i64 ok) := by rw [cell_of_block howb]; rfl
   have co1 : wb.cell? ⟨w.heap.size + 3, 1, none⟩ = some (.bool ob) := by rw [cell_of_block howb]; rfl
   have co2 : wb.cell? ⟨w.heap.size + 3, 2, none⟩ = some (.int .i64 oi) := by rw [cell_of_block howb]; rfl
   have co3 : wb.cell? ⟨w.heap.size + 3, 3, none⟩ = some (.string os) := by rw [cell_of_block howb]; rfl
   have co4 : wb.cell? ⟨w.heap.size + 3, 4, none⟩ = some (.slice oal onl ocl) := by rw [cell_of_block howb]; rfl
   have co5 : wb.cell? ⟨w.heap.size + 3, 5, none⟩ = some (.slice oam onm ocm) := by rw [cell_of_block howb]; rfl
   go_wp2_with fail
   refine wp_region_held_drew (S := fun W => Below (w.heap.size + 3) wb W) (by kernel_rfl) ((Below.refl _ _).drew) (fun hHeld => ?_)
   (refine wpAnyH_take (i := 1) (v := ?_) rfl (by kernel_rfl) (by kernel_rfl) (by kernel_rfl) (fun _ _ _ h => h) (Or.inl ⟨by kernel_rfl, ?_⟩) (by assumption) ?_; rotate_left 1; (intro W0 hSw; (try dsimp only at hSw); go_simp; (try with_reducible rfl)); (try simp only [Act.put, List.setIfInBounds_toArray, List.set_cons_zero, List.set_cons_succ]))
   (refine wpAnyH_take (i := 2) (v := ?_) rfl (by kernel_rfl) (by kernel_rfl) (by kernel_rfl) (fun _ _ _ h => h) (Or.inl ⟨by kernel_rfl, ?_⟩) (by assumption) ?_; rotate_left 1; (intro W0 hSw; (have x5 := (hSw.cell (p := ⟨w.heap.size, 5, none⟩) (by show w.heap.size < _; omega)).trans dt5); go_simp; (try with_reducible rfl)); (try simp only [Act.put, List.setIfInBounds_toArray, List.set_cons_zero, List.set_cons_succ]))
   (refine wpAnyH_take (i := 3) (v := ?_) rfl (by kernel_rfl) (by kernel_rfl) (by kernel_rfl) (fun _ _ _ h => h) (Or.inl ⟨by kernel_rfl, ?_⟩) (by assumption) ?_; rotate_left 1; (intro W0 hSw; (try dsimp only at hSw); go_simp; (try with_reducible rfl)); (try simp only [Act.put, List.setIfInBounds_toArray, List.set_cons_zero, List.set_cons_succ]))
   (refine wpAnyH_take (i := 4) (v := ?_) rfl (by kernel_rfl) (by kernel_rfl) (by kernel_rfl) (fun _ _ _ h => h) (Or.inl ⟨by kernel_rfl, ?_⟩) (by assumption) ?_; rotate_left 1; (intro W0 hSw; (try dsimp only at hSw); go_simp; (try with_reducible rfl)); (try simp only [Act.put, List.setIfInBounds_toArray, List.set_cons_zero, List.set_cons_succ]))
   (refine wpAnyH_take (i := 5) (v := ?_) rfl (by kernel_rfl) (by kernel_rfl) (by kernel_rfl) (fun _ _ _ h => h) (Or.inl ⟨by kernel_rfl, ?_⟩) (by assumption) ?_; rotate_left 1; (intro W0 hSw; (try dsimp only at hSw); go_simp; (try with_reducible rfl)); (try simp only [Act.put, List.setIfInBounds_toArray, List.set_cons_zero, List.set_cons_succ]))
   (refine wpAnyH_take (i := 6) (v := ?_) rfl (by kernel_rfl) (by kernel_rfl) (by kernel_rfl) (fun _ _ _ h => h) (Or.inl ⟨by kernel_rfl, ?_⟩) (by assumption) ?_; rotate_left 1; (intro W0 hSw; (have x5 := (hSw.cell (p := ⟨tbm, tom + j * 7, none⟩) (by show tbm < _; omega)).trans dqk); go_simp; (try with_reducible rfl)); (try simp only [Act.put, List.setIfInBounds_toArray, List.set_cons_zero, List.set_cons_succ]))
   (refine wpAnyH_take (i := 7) (v := ?_) rfl (by kernel_rfl) (by kernel_rfl) (by kernel_rfl) (fun _ _ _ h => h) (Or.inl ⟨by kernel_rfl, ?_⟩) (by assumption) ?_; rotate_left 1; (intro W0 hSw; (try dsimp only at hSw); go_simp; (try with_reducible rfl)); (try simp only [Act.put, List.setIfInBounds_toArray, List.set_cons_zero, List.set_cons_succ]))
   refine wpAnyH_ready (rs := [0]) (by kernel_rfl) (by simp) ?_
   refine AllReadyH.cons rfl (fun K hK => ?_) AllReadyH.nil
   go_simp
   refine hK.out _ _ ((Below.refl _ _).drew) (fun hHeld => ?_)
   clear hK K
   (try simp only [Act.put, List.setIfInBounds_toArray, List.set_cons_zero, List.set_cons_succ])
   refine wpAnyH_ready (rs := [8]) (by kernel_rfl) (by simp) ?_
   refine AllReadyH.cons rfl (fun K hK => ?_) AllReadyH.nil
   go_simp
   clear co0 co1 co2 co3 co4 co5 dt5 dqk
   have HO2 := HO1.out wb.drew bwb.drew
   refine (rwit_any 5 false 0 ⟨#[]⟩ [] L ekey nullV (fun y => S y ∨ (w.heap.size + 3 < y ∧ y < wr.heap.size)) _ _ wb.drew HO2 (null_lies _ _) hks (fun y hy => hy.elim (fun h => by have := hS y h; show y < wb.heap.size; omega) (fun h => by show y < wb.heap.size; omega)) hLn).mono ?_
   rintro e wc ⟨csn, rfl, hln, bc0⟩
   have bwc : Below wb.heap.size wb wc := ⟨bc0.os, bc0.tape, bc0.output, bc0.size, bc0.block⟩
   obtain ⟨nk, nb, ni, ns, nal, nnl, ncl, nam, nnm, ncm, rfl⟩ := V.ten hln
   clear bc0 HO2
   have hzwc := bwc.size
   have htwc := (bwc.block (w.heap.size) (by omega)).trans htwb
   have hpwc := (bwc.block (w.heap.size + 1) (by omega)).trans hpwb
   have hzwc := (bwc.block (w.heap.size + 2) (by omega)).trans hzwb
   have howc := (bwc.block (w.heap.size + 3) (by omega)).trans howb
   have Bwwc := Bwwb.trans (bwc.mono (by omega))
   have Bvwc := Bvwb.trans (bwc.mono (by omega))
   have co0 : wc.cell? ⟨w.heap.size + 3, 0, none⟩ = some (.int .i64 ok) := by rw [cell_of_block howc]; rfl
   have co1 : wc.cell? ⟨w.heap.size + 3, 1, none⟩ = some (.bool ob) := by rw [cell_of_block howc]; rfl
   have co2 : wc.cell? ⟨w.heap.size + 3, 2, none⟩ = some (.int .i64 oi) := by rw [cell_of_block howc]; rfl
   have co3 : wc.cell? ⟨w.heap.size + 3, 3, none⟩ = some (.string os) := by rw [cell_of_block howc]; rfl
   have co4 : wc.cell? ⟨w.heap.size + 3, 4, none⟩ = some (.slice oal onl ocl) := by rw [cell_of_block howc]; rfl
   have co5 : wc.cell? ⟨w.heap.size + 3, 5, none⟩ = some (.slice oam onm ocm) := by rw [cell_of_block howc]; rfl
   have fo := frozen_of_block howc
   have Howd := hmk (six_o wc (w.heap.size + 3) (.int .i64 nk) (.bool nb) (.int .i64 ni) (.string ns) (.slice nal nnl ncl) (.slice nam nnm ncm))
   have Hswd : Hid (((((((wc.setCell ⟨w.heap.size + 3, 0, none⟩ (.int .i64 nk)).setCell ⟨w.heap.size + 3, 1, none⟩ (.bool nb)).setCell ⟨w.heap.size + 3, 2, none⟩ (.int .i64 ni)).setCell ⟨w.heap.size + 3, 3, none⟩ (.string ns)).setCell ⟨w.heap.size + 3, 4, none⟩ (.slice nal nnl ncl)).setCell ⟨w.heap.size + 3, 5, none⟩ (.slice nam nnm ncm)).heap.size = wc.heap.size) := by show _ = _; simp only [size_set1]
   have hgewd : wc.heap.size ≤ ((((((wc.setCell ⟨w.heap.size + 3, 0, none⟩ (.int .i64 nk)).setCell ⟨w.heap.size + 3, 1, none⟩ (.bool nb)).setCell ⟨w.heap.size + 3, 2, none⟩ (.int .i64 ni)).setCell ⟨w.heap.size + 3, 3, none⟩ (.string ns)).setCell ⟨w.heap.size + 3, 4, none⟩ (.slice nal nnl ncl)).setCell ⟨w.heap.size + 3, 5, none⟩ (.slice nam nnm ncm)).heap.size := by rw [Hswd.out]; exact Nat.le_refl _
   have htwd := (Howd.out (w.heap.size) (by omega)).trans htwc
   have hpwd := (Howd.out (w.heap.size + 1) (by omega)).trans hpwc
   have hzwd := (Howd.out (w.heap.size + 2) (by omega)).trans hzwc
   have howd := box_six howc (.int .i64 nk) (.bool nb) (.int .i64 ni) (.string ns) (.slice nal nnl ncl) (.slice nam nnm ncm)
   have Bwwd := Below.set6 Bwwc (M := w.heap.size + 3) (by omega) 0 1 2 3 4 5 (.int .i64 nk) (.bool nb) (.int .i64 ni) (.string ns) (.slice nal nnl ncl) (.slice nam nnm ncm)
   have Bvwd := Below.set6 Bvwc (M := w.heap.size + 3) (by omega) 0 1 2 3 4 5 (.int .i64 nk) (.bool nb) (.int .i64 ni) (.string ns) (.slice nal nnl ncl) (.slice nam nnm ncm)
   have HN : Hid ((mapV (nulM (tm.take (j + 1)) m [])).lies false ((((((wc.setCell ⟨w.heap.size + 3, 0, none⟩ (.int .i64 nk)).setCell ⟨w.heap.size + 3, 1, none⟩ (.bool nb)).setCell ⟨w.heap.size + 3, 2, none⟩ (.int .i64 ni)).setCell ⟨w.heap.size + 3, 3, none⟩ (.string ns)).setCell ⟨w.heap.size + 3, 4, none⟩ (.slice nal nnl ncl)).setCell ⟨w.heap.size + 3, 5, none⟩ (.slice nam nnm ncm)) (fun y => S y ∨ (w.heap.size + 3 < y ∧ y < ((((((wc.setCell ⟨w.heap.size + 3, 0, none⟩ (.int .i64 nk)).setCell ⟨w.heap.size + 3, 1, none⟩ (.bool nb)).setCell ⟨w.heap.size + 3, 2, none⟩ (.int .i64 ni)).setCell ⟨w.heap.size + 3, 3, none⟩ (.string ns)).setCell ⟨w.heap.size + 3, 4, none⟩ (.slice nal nnl ncl)).setCell ⟨w.heap.size + 3, 5, none⟩ (.slice nam nnm ncm)).heap.size)) [.int .i64 nk, .bool nb, .int .i64 ni, .string ns, .slice nal nnl ncl, .slice nam nnm ncm]) := by
    show V.lies _ _ _ _ _
    rw [HS.out]
    exact V.lies_keep (fun h => h) (fun y hy => Howd.out y (hy.elim (fun h => h.elim (fun h => by have := hS y h; omega) (fun h => by omega)) (fun h => by have h1 : wb.heap.size ≤ y := h.1; omega))) (fun y hy => by rw [Hswd.out]; exact hy.elim (fun h => h.elim .inl (fun h => .inr ⟨h.1, by omega⟩)) (fun h => .inr ⟨by have h1 : wb.heap.size ≤ y := h.1; omega, h.2⟩)) _ hln
   have HBs : Hid (Below (w.heap.size + 3) wb ((((((wc.setCell ⟨w.heap.size + 3, 0, none⟩ (.int .i64 nk)).setCell ⟨w.heap.size + 3, 1, none⟩ (.bool nb)).setCell ⟨w.heap.size + 3, 2, none⟩ (.int .i64 ni)).setCell ⟨w.heap.size + 3, 3, none⟩ (.string ns)).setCell ⟨w.heap.size + 3, 4, none⟩ (.slice nal nnl ncl)).setCell ⟨w.heap.size + 3, 5, none⟩ (.slice nam nnm ncm))) := Below.set6 (bwc.mono (by omega)) (M := w.heap.size + 3) (by omega) 0 1 2 3 4 5 (.int .i64 nk) (.bool nb) (.int .i64 ni) (.string ns) (.slice nal nnl ncl) (.slice nam nnm ncm)
   clear hln
   refine hK.out _ _ (bwc.mono (by omega)) (fun hHeld => ?_)
   clear hK K
   (try simp only [Act.put, List.setIfInBounds_toArray, List.set_cons_zero, List.set_cons_succ])
   refine wpAnyH_ready (rs := [9]) (by kernel_rfl) (by simp) ?_
   refine AllReadyH.cons rfl (fun K hK => ?_) AllReadyH.nil
   go_simp
   refine hK.out _ _ HBs.out (fun hHeld => ?_)
   clear hK K
   (try simp only [Act.put, List.setIfInBounds_toArray, List.set_cons_zero, List.set_cons_succ])
   refine wpAnyH_done (by kernel_rfl) ?_ _
   (try dsimp only [Act.put, List.getElem_toArray, List.getElem_cons_succ, List.getElem_cons_zero, List.setIfInBounds_toArray, List.set_cons_zero, List.set_cons_succ])
   clear hHeld co0 co1 co2 co3 co4 co5 fo HBs
   generalize ((((((wc.setCell ⟨w.heap.size + 3, 0, none⟩ (.int .i64 nk)).setCell ⟨w.heap.size + 3, 1, none⟩ (.bool nb)).setCell ⟨w.heap.size + 3, 2, none⟩ (.int .i64 ni)).setCell ⟨w.heap.size + 3, 3, none⟩ (.string ns)).setCell ⟨w.heap.size + 3, 4, none⟩ (.slice nal nnl ncl)).setCell ⟨w.heap.size + 3, 5, none⟩ (.slice nam nnm ncm)) = wd at *
   go_wp2_with fail
   go_roundw
   case rel => exact ⟨j + 1, _, _, _, _, _, _, _, _, _, _, by omega, by go_num, howd, Bvwd, HN⟩
   case measure => simp [RowKit.intOf]; omega
end Go.Proofs.YtjfldbmopjojdabDoor
