import Derived.Test.YtdgfjdhobdfglaaGreatDoorG18
set_option linter.unusedSimpArgs false
set_option linter.unusedVariables false
set_option maxRecDepth 100000
namespace Go.Proofs.YtdgfjdhobdfglaaGreatDoor
open Go.RowKit Go.Lib
def scV : V -> V
 | .mk k b i s _ _ => .mk k b i s [] []
def anE (x : El) : El := ⟨x.kind, x.name, x.key.map (fun q => (q.1, scV q.2)), scV x.item⟩
theorem scV_lies {R : Bool} {v : V} {w : World} {S : Nat -> Prop} {cs : List Value} (h : v.lies R w S cs) : ∃ k b i s al nl cl am nm cm, cs = [.int .i64 k, .bool b, .int .i64 i, .string s, .slice al nl cl, .slice am nm cm] /\ ∀ W T, (scV v).lies false W T [.int .i64 k, .bool b, .int .i64 i, .string s, .slice none 0 0, .slice none 0 0] := by
 obtain ⟨k, b, i, s, l, m⟩ := v
 rw [V.lies] at h
 obtain ⟨al, cl, bl, ol, am, cm, bm, om, rfl, hk, hi, hs, _⟩ := h
 refine ⟨_, _, _, _, _, _, _, _, _, _, rfl, fun W T => ?_⟩
 rw [scV, V.lies]
 exact ⟨none, 0, 0, 0, none, 0, 0, 0, rfl, hk, hi, hs, ⟨Nat.le_refl _, by simp [maxLen], .inl rfl, fun _ => rfl⟩, ⟨Nat.le_refl _, by simp [maxLen], .inl rfl, fun _ => rfl⟩, by simp [liesL], by simp [liesM], fun h => by cases h⟩
structure AnF (w : World) (ent : Array Value) (wr : World) : Prop where
 below : Below w.heap.size w wr
 b1 : wr.heap[w.heap.size]? = some (.cells ent 52 (0, 0))
 b2 : wr.heap[w.heap.size + 1]? = some (.cells #[.int .i64 0, .string ⟨#[]⟩, .slice none 0 0, .int .i64 0, .bool false, .int .i64 0, .string ⟨#[]⟩, .slice none 0 0, .slice none 0 0] 52 (0, 0))
theorem AnF.lt {w : World} {ent : Array Value} {wr : World} (h : AnF w ent wr) : w.heap.size + 2 <= wr.heap.size := (Array.getElem?_eq_some_iff.1 h.b2).1
theorem AnF.grown {w : World} {ent : Array Value} {wr wr' : World} (h : AnF w ent wr) {row : Option Nat} (g : wr.grownBy wr' row) (hr : ∀ r, row = some r -> w.heap.size + 2 <= r) : AnF w ent wr' := by
 have hs := h.lt
 exact ⟨h.below.grown g (by omega) (fun r e => by have := hr r e; omega), (g.block _ (by omega) (fun e => by have := hr _ e.symm; omega)).trans h.b1, (g.block _ (by omega) (fun e => by have := hr _ e.symm; omega)).trans h.b2⟩
theorem blk_set {wr : World} {B : Nat} {loc loc' : Array Value} (h : wr.heap[B]? = some (.cells loc 52 (0, 0))) (i : Nat) (u : Value) (e : loc.setIfInBounds i u = loc') : (wr.setCell ⟨B, i, none⟩ u).heap[B]? = some (.cells loc' 52 (0, 0)) := by rw [set_block h, e]
def AePost (x : El) (w : World) (e : Ending) (w' : World) : Prop := ∃ cs, e = .returned (.agg cs.toArray) /\ x.lies w' (fun b => w.heap.size <= b /\ b < w'.heap.size) cs /\ Below w.heap.size w w'
set_option maxHeartbeats 8000000 in
theorem anelem_any (x : El) (S : Nat -> Prop) (cs : List Value) (w : World) (hx : x.lies w S cs) (hS : ∀ b, S b -> b < w.heap.size) (hwt : x.wt <= 2147483647) :
 Calls Tryz.prog 33 #[.agg cs.toArray] w (AePost (anE x) w) := by
 obtain ⟨k, nm, m, v⟩ := x
 obtain ⟨am, cm, bm, om, is, rfl, hk, hnm, ham, hm, hv⟩ := hx
 dsimp only at hk hnm ham hm hv ⊢
 obtain ⟨xk, xb, xi, xs, xal, xnl, xcl, xam, xnm, xcm, rfl, hsv⟩ := scV_lies hv
 have HV := hmk hsv
 have HM := hmk hm
 have HS : Hid (∀ b, S b -> b < w.heap.size) := hS
 have hwm : wtM m <= 2147483647 := by unfold El.wt at hwt; dsimp only at hwt; omega
 have hmm := wtM_len m
 obtain ⟨i1, hi1, hy0, hy1, hy2⟩ := info_parts info44
 have hJ : Hid (Tryz.prog.info? 40 = some i1 /\ i1.zero = some (.agg #[.string ⟨#[]⟩, .int .i64 0, .bool false, .int .i64 0, .string ⟨#[]⟩, .slice none 0 0, .slice none 0 0]) /\ i1.size = 7 /\ i1.bytes = 104) := ⟨hi1, hy0, hy1, hy2⟩
 have t0 : AnF w #[.int .i64 k, .string nm, .slice am m.length cm, .int .i64 xk, .bool xb, .int .i64 xi, .string xs, .slice xal xnl xcl, .slice xam xnm xcm] ((w.alloc (.cells #[.int .i64 k, .string nm, .slice am m.length cm, .int .i64 xk, .bool xb, .int .i64 xi, .string xs, .slice xal xnl xcl, .slice xam xnm xcm] 52)).alloc (.cells #[.int .i64 0, .string ⟨#[]⟩, .slice none 0 0, .int .i64 0, .bool false, .int .i64 0, .string ⟨#[]⟩, .slice none 0 0, .slice none 0 0] 52)) :=
  ⟨((Below.refl w.heap.size w).alloc (Nat.le_refl _) _).alloc (by rw [alloc_size]; omega) _, (Below.heap_alloc _ _ _ (by rw [alloc_size]; omega)).trans (heap_alloc_new w _), by have h := heap_alloc_new (w.alloc (.cells #[.int .i64 k, .string nm, .slice am m.length cm, .int .i64 xk, .bool xb, .int .i64 xi, .string xs, .slice xal xnl xcl, .slice xam xnm xcm] 52)) (.cells #[.int .i64 0, .string ⟨#[]⟩, .slice none 0 0, .int .i64 0, .bool false, .int .i64 0, .string ⟨#[]⟩, .slice none 0 0, .slice none 0 0] 52); rwa [alloc_size] at h⟩
 clear hi1 hy0 hy1 hy2 hsv hm hv hwt
 go_enter Tryz.func33, Tryz.ntmps33
 go_wp2_with fail
 go_loopw [3, 9] (fun e3 e wq => ∃ (i : Nat) (smv : Value) (SM : Nat -> Prop), i <= m.length /\ e = .int .i64 (i : Int) /\ e3 = smv /\ AnF w #[.int .i64 k, .string nm, .slice am m.length cm, .int .i64 xk, .bool xb, .int .i64 xi, .string xs, .slice xal xnl xcl, .slice xam xnm xcm] wq /\ OwnM false wq 0 SM smv ((m.map (fun q : Mem => some (q.1, scV q.2))).take i) /\ Hid (∀ r, smv.ownBlock = some r -> w.heap.size + 2 <= r) /\ Hid (∀ b, SM b -> w.heap.size + 2 <= b)) (fun _ e _ => m.length - (RowKit.intOf e).toNat)
 case atStart => exact ⟨0, _, _, by omega, rfl, rfl, t0, by simpa using OwnR.nil _ _, fun r h => by simp [Value.ownBlock] at h, fun b (h : False) => h.elim⟩
 case round =>
  clear t0
  obtain ⟨i, smv, SM, hi, rfl, rfl, tj, oj, HOM, HSM⟩ := hrel
  have hwr : w.heap.size + 2 <= wr.heap.size := tj.lt
  by_cases hil : i < m.length
  ·have y4 : (i : Int) < m.length := by omega
   obtain ⟨hSm, hks, csi, hrw, hli⟩ := liesM_get HM.out i hil
   obtain rfl : am = some ⟨bm, om, none⟩ := ham.at_.resolve_left (by omega)
   have hrw' := hrw.keep (tj.below.block bm (HS.out _ hSm))
   obtain ⟨ek, eb, ei, es, eal, enl, ecl, eam, enm, ecm, rfl, hse⟩ := scV_lies hli
   have HT : Hid ((m.map (fun q : Mem => some (q.1, scV q.2))).take (i + 1) = (m.map (fun q : Mem => some (q.1, scV q.2))).take i ++ [(fun q : Mem => some (q.1, scV q.2)) m[i]]) := by show _ = _; rw [List.take_succ_eq_append_getElem (by simpa using hil), List.getElem_map]
   rcases hxj : m[i] with ⟨key, xv⟩
   rw [hxj] at hse HT hks hrw'
   dsimp only at hse HT hks hrw'
   obtain ⟨r, r0, r1, r2, r3, r4, r5⟩ := row7 hrw'
   have hll : ((m.map (fun q : Mem => some (q.1, scV q.2))).take i).length = i := by simp; omega
   have ba : Below wr.heap.size wr (wr.alloc (.cells #[.string key, .int .i64 ek, .bool eb, .int .i64 ei, .string es, .slice eal enl ecl, .slice eam enm ecm] 40)) := (Below.refl _ _).alloc (Nat.le_refl _) _
   have nb : (wr.alloc (.cells #[.string key, .int .i64 ek, .bool eb, .int .i64 ei, .string es, .slice eal enl ecl, .slice eam enm ecm] 40)).heap[wr.heap.size]? = some (.cells #[.string key, .int .i64 ek, .bool eb, .int .i64 ei, .string es, .slice eal enl ecl, .slice eam enm ecm] 40 (0, 0)) := heap_alloc_new wr _
   have hza := alloc_size wr (.cells #[.string key, .int .i64 ek, .bool eb, .int .i64 ei, .string es, .slice eal enl ecl, .slice eam enm ecm] 40)
   have ta := tj.grown (grown_of_below ba) (fun r e => by cases e)
   have oa := oj.below (keepM false) ba
   have hown : ∀ r, u3.ownBlock = some r -> w.heap.size + 2 <= r /\ r < wr.heap.size := fun r hr => ⟨HOM.out r hr, (oj.lt hr).2⟩
   clear hli hrw hrw' hxj
   go_wp2_with fail
   clear r r0 r1 r2 r3 r4 r5 tj oj ba
   generalize (wr.alloc (.cells #[.string key, .int .i64 ek, .bool eb, .int .i64 ei, .string es, .slice eal enl ecl, .slice eam enm ecm] 40)) = wa at *
   have BD : Hid (Below wa.heap.size wa wa.drew) := (Below.refl _ _).drew
   have NB : Hid (∀ W, Below wa.heap.size wa W -> W.heap[wr.heap.size]? = some (.cells #[.string key, .int .i64 ek, .bool eb, .int .i64 ei, .string es, .slice eal enl ecl, .slice eam enm ecm] 40 (0, 0))) := fun W hb => (hb.block _ (by omega)).trans nb
   refine wp_region_held_drew (S := fun W => W.heap[wr.heap.size]? = some (.cells #[.string key, .int .i64 ek, .bool eb, .int .i64 ei, .string es, .slice eal enl ecl, .slice eam enm ecm] 40 (0, 0))) (by kernel_rfl) (NB.out _ BD.out) (fun hHeld => ?_)
   (refine tjA 0 ?_; (try simp only [Act.put, zA, zB, zC]))
   (refine tjA 1 ?_; (try simp only [Act.put, zA, zB, zC]))
   (refine tkA 2 ?_ ?_ ?_; rotate_left 1; (intro W0 hSw; have z0 : W0.cell? ⟨wr.heap.size, 0, none⟩ = some (.string key) := by { rw [cell_of_block hSw]; rfl }; go_simp; (try with_reducible rfl)); (try simp only [Act.put, zA, zB, zC]))
   (refine tjA 3 ?_; (try simp only [Act.put, zA, zB, zC]))
   (refine tkA 4 ?_ ?_ ?_; rotate_left 1; (intro W0 hSw; have z1 : W0.cell? ⟨wr.heap.size, 1, none⟩ = some (.int .i64 ek) := by { rw [cell_of_block hSw]; rfl }; have z2 : W0.cell? ⟨wr.heap.size, 2, none⟩ = some (.bool eb) := by { rw [cell_of_block hSw]; rfl }; have z3 : W0.cell? ⟨wr.heap.size, 3, none⟩ = some (.int .i64 ei) := by { rw [cell_of_block hSw]; rfl }; have z4 : W0.cell? ⟨wr.heap.size, 4, none⟩ = some (.string es) := by { rw [cell_of_block hSw]; rfl }; have z5 : W0.cell? ⟨wr.heap.size, 5, none⟩ = some (.slice eal enl ecl) := by { rw [cell_of_block hSw]; rfl }; have z6 : W0.cell? ⟨wr.heap.size, 6, none⟩ = some (.slice eam enm ecm) := by { rw [cell_of_block hSw]; rfl }; go_simp; (try with_reducible rfl)); (try simp only [Act.put, zA, zB, zC]))
   refine ryA [5] ?_
   refine rA1 fun K hK => ?_
   go_simp
   refine (anscal_any ek eb ei es eal enl ecl eam enm ecm wa.drew).mono ?_
   rintro e w3 ⟨rfl, b3'⟩
   have b3 : Below wa.heap.size wa w3 := BD.out.trans b3'
   have t3 := ta.grown (grown_of_below b3) (fun r e => by cases e)
   have o3 := oa.below (keepM false) b3
   have hz3 := b3.size
   go_wp2_with fail
   refine hK.out _ _ (NB.out _ b3) (fun hHeld => ?_)
   clear hK K
   (try simp only [Act.put, zA, zB, zC])
   (refine tjA 6 ?_; (try simp only [Act.put, zA, zB, zC]))
   refine ryA [7] ?_
   refine rA1 fun K hK => ?_
   go_simp
   refine hK.out _ _ (NB.out _ (b3.alloc hz3 _)) (fun hHeld => ?_)
   clear hK K
   (try simp only [Act.put, zA, zB, zC])
   have HEM : Hid (∀ W, EM false (some (key, scV xv)) W (fun _ => False) [.string key, .int .i64 ek, .bool eb, .int .i64 ei, .string es, .slice none 0 0, .slice none 0 0]) := fun W => ⟨_, rfl, hks, hse _ _⟩
   refine ryA [8] ?_
   refine rA1 fun K hK => ?_
   refine step_push (keepM false) rfl (.tmp 13) (.tmp 20) 23 rfl 0 i1 _ 104 Tryz.underlying23 hJ.out.1 hJ.out.2.1 hJ.out.2.2.1 hJ.out.2.2.2 rfl (by decide) (by decide) u3 (some (key, scV xv)) rfl (o3.alloc (keepM false) _) w3.heap.size 1 (0, 0) rfl (heap_alloc_new w3 _) rfl one7 (HEM.out _) (fun b hb => False.elim hb) (by rw [hll]; omega) (Nat.zero_le _) ?_
   intro g cap w5 o5 g5 e5
   rw [hll] at o5 ⊢
   have t5 := (t3.grown (World.grownBy_alloc w3 _ none) (fun r e => by cases e)).grown g5 (fun r e => (hown r e).1)
   have hgg : w.heap.size + 2 <= g := by
    rcases e5 with e | e
    ·exact (hown g e).1
    ·rw [alloc_size] at e; omega
   have nb5 : w5.heap[wr.heap.size]? = some (.cells #[.string key, .int .i64 ek, .bool eb, .int .i64 ei, .string es, .slice eal enl ecl, .slice eam enm ecm] 40 (0, 0)) := (g5.block _ (by rw [alloc_size]; omega) (fun e => by have := (hown _ e.symm).2; omega)).trans (NB.out _ (b3.alloc hz3 _))
   refine hK.out _ _ nb5 (fun hHeld => ?_)
   clear hK K
   (try simp only [Act.put, zA, zB, zC])
   first
    | (refine tjA 9 ?_; (try simp only [Act.put, zA, zB, zC]))
    | (refine ryA [9] ?_; refine rA1 fun K hK => ?_; go_simp; refine hK.out _ _ nb5 (fun hHeld => ?_); clear hK K; (try simp only [Act.put, zA, zB, zC]))
   refine wpAnyH_done (by kernel_rfl) ?_ _
   (try dsimp only [Act.put, List.getElem_toArray, List.getElem_cons_succ, List.getElem_cons_zero, List.setIfInBounds_toArray, List.set_cons_zero, List.set_cons_succ])
   clear hHeld
   go_wp2_with fail
   go_roundw
   case rel => exact ⟨i + 1, _, _, by omega, by go_num, rfl, t5, by rw [HT.out]; exact o5, fun r e => by (simp [Value.ownBlock] at e; omega), fun b hb => by (rcases hb with h | h; exact HSM.out b h; exact False.elim h)⟩
   case measure => simp [RowKit.intOf]; omega
  ·obtain rfl : i = m.length := by omega
   have hlt : (m.map (fun q : Mem => some (q.1, scV q.2))).take m.length = (m.map (fun q => (q.1, scV q.2))).map some := by rw [List.take_of_length_le (by simp), List.map_map]; rfl
   rw [hlt] at oj
   clear hlt
   have y4 : ¬ (m.length : Int) < m.length := by omega
   have BD : Hid (Below wr.heap.size wr wr.drew) := (Below.refl _ _).drew
   have NB : Hid (∀ W, Below wr.heap.size wr W -> W.heap[w.heap.size]? = some (.cells #[.int .i64 k, .string nm, .slice am m.length cm, .int .i64 xk, .bool xb, .int .i64 xi, .string xs, .slice xal xnl xcl, .slice xam xnm xcm] 52 (0, 0))) := fun W hb => (hb.block _ (by omega)).trans tj.b1
   have hown : ∀ r, u3.ownBlock = some r -> w.heap.size + 2 <= r /\ r < wr.heap.size := fun r hr => ⟨HOM.out r hr, (oj.lt hr).2⟩
   obtain ⟨sa, sc, sb, so, hu, hd, hls⟩ := own_listM0 (T := fun b => w.heap.size + 2 <= b /\ b < wr.heap.size) oj (fun b hb => ⟨HSM.out b hb, (oj.off b hb).2.1⟩) (fun g hg => ⟨HOM.out g hg, (oj.lt hg).2⟩)
   rw [List.length_map] at hu hd
   subst hu
   have HL := hmk hls
   have HD := hmk hd
   clear hls hd oj hown HOM HSM
   go_wp2_with fail
   refine wp_region_held_drew (S := fun W => W.heap[w.heap.size]? = some (.cells #[.int .i64 k, .string nm, .slice am m.length cm, .int .i64 xk, .bool xb, .int .i64 xi, .string xs, .slice xal xnl xcl, .slice xam xnm xcm] 52 (0, 0))) (by kernel_rfl) (NB.out _ BD.out) (fun hHeld => ?_)
   (refine tjA 0 ?_; (try simp only [Act.put, zA, zB, zC]))
   (refine tkA 1 ?_ ?_ ?_; rotate_left 1; (intro W0 hSw; have z0 : W0.cell? ⟨w.heap.size, 0, none⟩ = some (.int .i64 k) := by { rw [cell_of_block hSw]; rfl }; go_simp; (try with_reducible rfl)); (try simp only [Act.put, zA, zB, zC]))
   (refine tjA 2 ?_; (try simp only [Act.put, zA, zB, zC]))
   (refine tkA 3 ?_ ?_ ?_; rotate_left 1; (intro W0 hSw; have z1 : W0.cell? ⟨w.heap.size, 1, none⟩ = some (.string nm) := by { rw [cell_of_block hSw]; rfl }; go_simp; (try with_reducible rfl)); (try simp only [Act.put, zA, zB, zC]))
   (refine tjA 4 ?_; (try simp only [Act.put, zA, zB, zC]))
   (refine tjA 5 ?_; (try simp only [Act.put, zA, zB, zC]))
   (refine tkA 6 ?_ ?_ ?_; rotate_left 1; (intro W0 hSw; have z3 : W0.cell? ⟨w.heap.size, 3, none⟩ = some (.int .i64 xk) := by { rw [cell_of_block hSw]; rfl }; have z4 : W0.cell? ⟨w.heap.size, 4, none⟩ = some (.bool xb) := by { rw [cell_of_block hSw]; rfl }; have z5 : W0.cell? ⟨w.heap.size, 5, none⟩ = some (.int .i64 xi) := by { rw [cell_of_block hSw]; rfl }; have z6 : W0.cell? ⟨w.heap.size, 6, none⟩ = some (.string xs) := by { rw [cell_of_block hSw]; rfl }; have z7 : W0.cell? ⟨w.heap.size, 7, none⟩ = some (.slice xal xnl xcl) := by { rw [cell_of_block hSw]; rfl }; have z8 : W0.cell? ⟨w.heap.size, 8, none⟩ = some (.slice xam xnm xcm) := by { rw [cell_of_block hSw]; rfl }; go_simp; (try with_reducible rfl)); (try simp only [Act.put, zA, zB, zC]))
   refine ryA [7] ?_
   refine rA1 fun K hK => ?_
   go_simp
   refine (anscal_any xk xb xi xs xal xnl xcl xam xnm xcm wr.drew).mono ?_
   rintro e w3 ⟨rfl, b3'⟩
   have b3 : Below wr.heap.size wr w3 := BD.out.trans b3'
   have t3 := tj.grown (grown_of_below b3) (fun r e => by cases e)
   have hz3 := b3.size
   obtain ⟨c0, c1, c2, c3, c4, c5, c6, c7, c8⟩ := cN9 t3.b2
   have kf : ∀ ii, w3.frozen? ⟨w.heap.size + 1, ii, none⟩ = false := frozen_of_block t3.b2
   have gS : w3.grownBy (((((((((w3.setCell ⟨w.heap.size + 1, 0, none⟩ (.int .i64 k)).setCell ⟨w.heap.size + 1, 1, none⟩ (.string nm)).setCell ⟨w.heap.size + 1, 2, none⟩ (.slice sa m.length sc)).setCell ⟨w.heap.size + 1, 3, none⟩ (.int .i64 xk)).setCell ⟨w.heap.size + 1, 4, none⟩ (.bool xb)).setCell ⟨w.heap.size + 1, 5, none⟩ (.int .i64 xi)).setCell ⟨w.heap.size + 1, 6, none⟩ (.string xs)).setCell ⟨w.heap.size + 1, 7, none⟩ (.slice none 0 0)).setCell ⟨w.heap.size + 1, 8, none⟩ (.slice none 0 0)) (some (w.heap.size + 1)) := (grown_set (grown_set (grown_set (grown_set (grown_set (grown_set (grown_set (grown_set (grown_set (World.grownBy.refl _ _) _ _) _ _) _ _) _ _) _ _) _ _) _ _) _ _) _ _)
   have n0 : (w3.setCell ⟨w.heap.size + 1, 0, none⟩ (.int .i64 k)).heap[w.heap.size + 1]? = some (.cells #[.int .i64 k, .string ⟨#[]⟩, .slice none 0 0, .int .i64 0, .bool false, .int .i64 0, .string ⟨#[]⟩, .slice none 0 0, .slice none 0 0] 52 (0, 0)) := blk_set t3.b2 0 (.int .i64 k) rfl
   have n1 : ((w3.setCell ⟨w.heap.size + 1, 0, none⟩ (.int .i64 k)).setCell ⟨w.heap.size + 1, 1, none⟩ (.string nm)).heap[w.heap.size + 1]? = some (.cells #[.int .i64 k, .string nm, .slice none 0 0, .int .i64 0, .bool false, .int .i64 0, .string ⟨#[]⟩, .slice none 0 0, .slice none 0 0] 52 (0, 0)) := blk_set n0 1 (.string nm) rfl
   have n2 : (((w3.setCell ⟨w.heap.size + 1, 0, none⟩ (.int .i64 k)).setCell ⟨w.heap.size + 1, 1, none⟩ (.string nm)).setCell ⟨w.heap.size + 1, 2, none⟩ (.slice sa m.length sc)).heap[w.heap.size + 1]? = some (.cells #[.int .i64 k, .string nm, .slice sa m.length sc, .int .i64 0, .bool false, .int .i64 0, .string ⟨#[]⟩, .slice none 0 0, .slice none 0 0] 52 (0, 0)) := blk_set n1 2 (.slice sa m.length sc) rfl
   have n3 : ((((w3.setCell ⟨w.heap.size + 1, 0, none⟩ (.int .i64 k)).setCell ⟨w.heap.size + 1, 1, none⟩ (.string nm)).setCell ⟨w.heap.size + 1, 2, none⟩ (.slice sa m.length sc)).setCell ⟨w.heap.size + 1, 3, none⟩ (.int .i64 xk)).heap[w.heap.size + 1]? = some (.cells #[.int .i64 k, .string nm, .slice sa m.length sc, .int .i64 xk, .bool false, .int .i64 0, .string ⟨#[]⟩, .slice none 0 0, .slice none 0 0] 52 (0, 0)) := blk_set n2 3 (.int .i64 xk) rfl
   have n4 : (((((w3.setCell ⟨w.heap.size + 1, 0, none⟩ (.int .i64 k)).setCell ⟨w.heap.size + 1, 1, none⟩ (.string nm)).setCell ⟨w.heap.size + 1, 2, none⟩ (.slice sa m.length sc)).setCell ⟨w.heap.size + 1, 3, none⟩ (.int .i64 xk)).setCell ⟨w.heap.size + 1, 4, none⟩ (.bool xb)).heap[w.heap.size + 1]? = some (.cells #[.int .i64 k, .string nm, .slice sa m.length sc, .int .i64 xk, .bool xb, .int .i64 0, .string ⟨#[]⟩, .slice none 0 0, .slice none 0 0] 52 (0, 0)) := blk_set n3 4 (.bool xb) rfl
   have n5 : ((((((w3.setCell ⟨w.heap.size + 1, 0, none⟩ (.int .i64 k)).setCell ⟨w.heap.size + 1, 1, none⟩ (.string nm)).setCell ⟨w.heap.size + 1, 2, none⟩ (.slice sa m.length sc)).setCell ⟨w.heap.size + 1, 3, none⟩ (.int .i64 xk)).setCell ⟨w.heap.size + 1, 4, none⟩ (.bool xb)).setCell ⟨w.heap.size + 1, 5, none⟩ (.int .i64 xi)).heap[w.heap.size + 1]? = some (.cells #[.int .i64 k, .string nm, .slice sa m.length sc, .int .i64 xk, .bool xb, .int .i64 xi, .string ⟨#[]⟩, .slice none 0 0, .slice none 0 0] 52 (0, 0)) := blk_set n4 5 (.int .i64 xi) rfl
   have n6 : (((((((w3.setCell ⟨w.heap.size + 1, 0, none⟩ (.int .i64 k)).setCell ⟨w.heap.size + 1, 1, none⟩ (.string nm)).setCell ⟨w.heap.size + 1, 2, none⟩ (.slice sa m.length sc)).setCell ⟨w.heap.size + 1, 3, none⟩ (.int .i64 xk)).setCell ⟨w.heap.size + 1, 4, none⟩ (.bool xb)).setCell ⟨w.heap.size + 1, 5, none⟩ (.int .i64 xi)).setCell ⟨w.heap.size + 1, 6, none⟩ (.string xs)).heap[w.heap.size + 1]? = some (.cells #[.int .i64 k, .string nm, .slice sa m.length sc, .int .i64 xk, .bool xb, .int .i64 xi, .string xs, .slice none 0 0, .slice none 0 0] 52 (0, 0)) := blk_set n5 6 (.string xs) rfl
   have n7 : ((((((((w3.setCell ⟨w.heap.size + 1, 0, none⟩ (.int .i64 k)).setCell ⟨w.heap.size + 1, 1, none⟩ (.string nm)).setCell ⟨w.heap.size + 1, 2, none⟩ (.slice sa m.length sc)).setCell ⟨w.heap.size + 1, 3, none⟩ (.int .i64 xk)).setCell ⟨w.heap.size + 1, 4, none⟩ (.bool xb)).setCell ⟨w.heap.size + 1, 5, none⟩ (.int .i64 xi)).setCell ⟨w.heap.size + 1, 6, none⟩ (.string xs)).setCell ⟨w.heap.size + 1, 7, none⟩ (.slice none 0 0)).heap[w.heap.size + 1]? = some (.cells #[.int .i64 k, .string nm, .slice sa m.length sc, .int .i64 xk, .bool xb, .int .i64 xi, .string xs, .slice none 0 0, .slice none 0 0] 52 (0, 0)) := blk_set n6 7 (.slice none 0 0) rfl
   have n8 : (((((((((w3.setCell ⟨w.heap.size + 1, 0, none⟩ (.int .i64 k)).setCell ⟨w.heap.size + 1, 1, none⟩ (.string nm)).setCell ⟨w.heap.size + 1, 2, none⟩ (.slice sa m.length sc)).setCell ⟨w.heap.size + 1, 3, none⟩ (.int .i64 xk)).setCell ⟨w.heap.size + 1, 4, none⟩ (.bool xb)).setCell ⟨w.heap.size + 1, 5, none⟩ (.int .i64 xi)).setCell ⟨w.heap.size + 1, 6, none⟩ (.string xs)).setCell ⟨w.heap.size + 1, 7, none⟩ (.slice none 0 0)).setCell ⟨w.heap.size + 1, 8, none⟩ (.slice none 0 0)).heap[w.heap.size + 1]? = some (.cells #[.int .i64 k, .string nm, .slice sa m.length sc, .int .i64 xk, .bool xb, .int .i64 xi, .string xs, .slice none 0 0, .slice none 0 0] 52 (0, 0)) := blk_set n7 8 (.slice none 0 0) rfl
   have nbR := n8
   clear n0 n1 n2 n3 n4 n5 n6 n7 n8
   have hz6 : (((((((((w3.setCell ⟨w.heap.size + 1, 0, none⟩ (.int .i64 k)).setCell ⟨w.heap.size + 1, 1, none⟩ (.string nm)).setCell ⟨w.heap.size + 1, 2, none⟩ (.slice sa m.length sc)).setCell ⟨w.heap.size + 1, 3, none⟩ (.int .i64 xk)).setCell ⟨w.heap.size + 1, 4, none⟩ (.bool xb)).setCell ⟨w.heap.size + 1, 5, none⟩ (.int .i64 xi)).setCell ⟨w.heap.size + 1, 6, none⟩ (.string xs)).setCell ⟨w.heap.size + 1, 7, none⟩ (.slice none 0 0)).setCell ⟨w.heap.size + 1, 8, none⟩ (.slice none 0 0)).heap.size = w3.heap.size := by simp only [size_set1]
   go_wp2_with fail
   refine hK.out _ _ (NB.out _ b3) (fun hHeld => ?_)
   clear hK K
   (try simp only [Act.put, zA, zB, zC])
   (refine tjA 8 ?_; (try simp only [Act.put, zA, zB, zC]))
   refine ryA [9] ?_
   refine rA1 fun K hK => ?_
   go_simp
   refine hK.out _ _ ((gS.block _ (by omega) (fun e => by have := Option.some.inj e; omega)).trans (NB.out _ b3)) (fun hHeld => ?_)
   clear hK K
   (try simp only [Act.put, zA, zB, zC])
   refine wpAnyH_done (by kernel_rfl) ?_ _
   (try dsimp only [Act.put, List.getElem_toArray, List.getElem_cons_succ, List.getElem_cons_zero, List.setIfInBounds_toArray, List.set_cons_zero, List.set_cons_succ])
   clear hHeld
   generalize (((((((((w3.setCell ⟨w.heap.size + 1, 0, none⟩ (.int .i64 k)).setCell ⟨w.heap.size + 1, 1, none⟩ (.string nm)).setCell ⟨w.heap.size + 1, 2, none⟩ (.slice sa m.length sc)).setCell ⟨w.heap.size + 1, 3, none⟩ (.int .i64 xk)).setCell ⟨w.heap.size + 1, 4, none⟩ (.bool xb)).setCell ⟨w.heap.size + 1, 5, none⟩ (.int .i64 xi)).setCell ⟨w.heap.size + 1, 6, none⟩ (.string xs)).setCell ⟨w.heap.size + 1, 7, none⟩ (.slice none 0 0)).setCell ⟨w.heap.size + 1, 8, none⟩ (.slice none 0 0)) = w6 at *
   obtain ⟨f0, f1, f2, f3, f4, f5, f6, f7, f8⟩ := cN9 nbR
   go_wp2_with fail
   (try simp only [Exit.inBlock, Exit.then])
   refine bodyPost_ret (v := .agg #[.int .i64 k, .string nm, .slice sa m.length sc, .int .i64 xk, .bool xb, .int .i64 xi, .string xs, .slice none 0 0, .slice none 0 0]) ?_ rfl ?_
   ·rw [results_cell1 rfl]
    go_simp
   ·refine ⟨[.int .i64 k, .string nm, .slice sa m.length sc, .int .i64 xk, .bool xb, .int .i64 xi, .string xs, .slice none 0 0, .slice none 0 0], rfl, ⟨sa, sc, sb, so, _, by rw [anE]; dsimp only; rw [List.length_map], hk, hnm, by rw [anE]; dsimp only; rw [List.length_map]; exact HD.out, liesM_keep (fun h => h) (fun b hb => (gS.block b (by have := hb.2; omega) (fun e => by have := Option.some.inj e; have := hb.1; omega)).trans (b3.block b hb.2)) (fun b hb => ⟨by have := hb.1; omega, by have := hb.2; omega⟩) _ HL.out, HV.out _ _⟩, t3.below.grown gS (by omega) (fun r e => by have := Option.some.inj e; omega)⟩
end Go.Proofs.YtdgfjdhobdfglaaGreatDoor
