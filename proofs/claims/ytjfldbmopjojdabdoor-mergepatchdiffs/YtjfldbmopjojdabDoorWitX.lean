import Derived.Test.YtjfldbmopjojdabDoorG17
set_option linter.unusedSimpArgs false
set_option linter.unusedVariables false
namespace Go.Proofs.YtjfldbmopjojdabDoor
open Go.RowKit Go.Lib
def lesK (key : ByteArray) (y : Mem) : Bool := ltB y.1 key
def morK (key : ByteArray) (y : Mem) : Bool := ltB key y.1
def wtx (P : List (Mem × List Value)) (z : Mem × List Value) (key : ByteArray) (qs : List (Mem × List Value)) (q : Nat) : List (Mem × List Value) := P ++ [z] ++ flt (morK key) qs q
theorem wtx_zero (P : List (Mem × List Value)) (z : Mem × List Value) (key : ByteArray) (qs : List (Mem × List Value)) : wtx P z key qs 0 = P ++ [z] := by rw [wtx, flt_zero, List.append_nil]
theorem wtx_yes {P : List (Mem × List Value)} {z : Mem × List Value} {key : ByteArray} {qs : List (Mem × List Value)} {q : Nat} (h : q < qs.length) (hc : morK key (qs[q]).1 = true) : wtx P z key qs (q + 1) = wtx P z key qs q ++ [qs[q]] := by rw [wtx, wtx, flt_yes h hc, List.append_assoc _ _ [qs[q]]]
theorem wtx_no {P : List (Mem × List Value)} {z : Mem × List Value} {key : ByteArray} {qs : List (Mem × List Value)} {q : Nat} (h : q < qs.length) (hc : morK key (qs[q]).1 = false) : wtx P z key qs (q + 1) = wtx P z key qs q := by rw [wtx, wtx, flt_no h hc]
theorem wtx_len (P : List (Mem × List Value)) (z : Mem × List Value) (key : ByteArray) (qs : List (Mem × List Value)) (q : Nat) : (wtx P z key qs q).length = P.length + 1 + (flt (morK key) qs q).length := by rw [wtx, List.length_append, List.length_append]; rfl
theorem wtx_all {x : V} {row : List Value} {key : ByteArray} {qs : List (Mem × List Value)} : (wtx (flt (lesK key) qs qs.length) (((key, x), row) : Mem × List Value) key qs qs.length).map (fun z => z.1) = witR (qs.map (fun z => z.1)) key x := by
 rw [wtx, List.map_append, List.map_append, flt_all, flt_all, witR, List.append_assoc]
 rfl
theorem wtx_mem {P : Mem × List Value → Prop} {c : Mem → Bool} {z : Mem × List Value} {key : ByteArray} {qs : List (Mem × List Value)} {r q : Nat} (h1 : ∀ y ∈ qs, P y) (h2 : P z) {y : Mem × List Value} (hy : y ∈ wtx (flt c qs r) z key qs q) : P y := by
 rw [wtx, List.mem_append, List.mem_append] at hy
 rcases hy with (hy | hy) | hy
 ·exact h1 y (flt_mem hy)
 ·rw [List.mem_singleton.1 hy]; exact h2
 ·exact h1 y (flt_mem hy)
set_option maxHeartbeats 8000000 in
set_option maxRecDepth 100000 in
theorem rwit_any (k : Int) (b : Bool) (i : Int) (s : ByteArray) (l : List V) (m : List Mem) (key : ByteArray) (x : V) (S : Nat → Prop) (cs ds : List Value) (w : World) (hv : (V.mk k b i s l m).lies false w S cs) (hx : x.lies false w S ds) (hk : key.size ≤ maxLen) (hS : ∀ b, S b → b < w.heap.size) (hml : m.length ≤ 3000000) :
 Calls Tryd.prog 31 #[.agg cs.toArray, .string key, .agg ds.toArray] w (RpPost (.mk 5 false 0 ⟨#[]⟩ [] (witR m key x)) S w) := by
 rw [V.lies] at hv
 obtain ⟨al, cl, bl, ol, am, cm, bm, om, rfl, ik, ii, is, hal, ham, hl, hm, _⟩ := hv
 obtain ⟨qs, hq1, hq2, hq3, hq4⟩ := segM hm
 have hql : qs.length = m.length := by rw [← hq1, List.length_map]
 have hxo := (one_of_lies hx).2
 obtain ⟨xk, xb, xi, xs, xal, xnl, xcl, xam, xnm, xcm, rfl⟩ := V.ten hx
 have hxone : Hid (∀ u ∈ ([.string key, .int .i64 xk, .bool xb, .int .i64 xi, .string xs, .slice xal xnl xcl, .slice xam xnm xcm] : List Value), u.oneCell' = true) := fun u hu => by
  rcases List.mem_cons.1 hu with rfl | hu
  ·rfl
  ·exact hxo u hu
 have HPX : Hid (PM w S (((key, x), [.string key, .int .i64 xk, .bool xb, .int .i64 xi, .string xs, .slice xal xnl xcl, .slice xam xnm xcm]) : Mem × List Value)) := ⟨_, rfl, hk, hx⟩
 have b4 : Below w.heap.size w (((w.alloc (.cells #[.int .i64 k, .bool b, .int .i64 i, .string s, .slice al l.length cl, .slice am m.length cm] 25)).alloc (.cells #[.int .i64 xk, .bool xb, .int .i64 xi, .string xs, .slice xal xnl xcl, .slice xam xnm xcm] 25)).alloc (.cells #[.int .i64 0, .bool false, .int .i64 0, .string ⟨#[]⟩, .slice none 0 0, .slice none 0 0] 25)) := three_below w _ _ _
 have hz4 : (((w.alloc (.cells #[.int .i64 k, .bool b, .int .i64 i, .string s, .slice al l.length cl, .slice am m.length cm] 25)).alloc (.cells #[.int .i64 xk, .bool xb, .int .i64 xi, .string xs, .slice xal xnl xcl, .slice xam xnm xcm] 25)).alloc (.cells #[.int .i64 0, .bool false, .int .i64 0, .string ⟨#[]⟩, .slice none 0 0, .slice none 0 0] 25)).heap.size = w.heap.size + 3 := by rw [alloc_size, alloc_size, alloc_size]
 have b5 : Below (((w.alloc (.cells #[.int .i64 k, .bool b, .int .i64 i, .string s, .slice al l.length cl, .slice am m.length cm] 25)).alloc (.cells #[.int .i64 xk, .bool xb, .int .i64 xi, .string xs, .slice xal xnl xcl, .slice xam xnm xcm] 25)).alloc (.cells #[.int .i64 0, .bool false, .int .i64 0, .string ⟨#[]⟩, .slice none 0 0, .slice none 0 0] 25)).heap.size (((w.alloc (.cells #[.int .i64 k, .bool b, .int .i64 i, .string s, .slice al l.length cl, .slice am m.length cm] 25)).alloc (.cells #[.int .i64 xk, .bool xb, .int .i64 xi, .string xs, .slice xal xnl xcl, .slice xam xnm xcm] 25)).alloc (.cells #[.int .i64 0, .bool false, .int .i64 0, .string ⟨#[]⟩, .slice none 0 0, .slice none 0 0] 25)) ((((w.alloc (.cells #[.int .i64 k, .bool b, .int .i64 i, .string s, .slice al l.length cl, .slice am m.length cm] 25)).alloc (.cells #[.int .i64 xk, .bool xb, .int .i64 xi, .string xs, .slice xal xnl xcl, .slice xam xnm xcm] 25)).alloc (.cells #[.int .i64 0, .bool false, .int .i64 0, .string ⟨#[]⟩, .slice none 0 0, .slice none 0 0] 25)).alloc (.cells #[.int .i64 5, .bool false, .int .i64 0, .string ⟨#[]⟩, .slice none 0 0, .slice none 0 0] 25)) := one_belowG _ _
 have hz5 : ((((w.alloc (.cells #[.int .i64 k, .bool b, .int .i64 i, .string s, .slice al l.length cl, .slice am m.length cm] 25)).alloc (.cells #[.int .i64 xk, .bool xb, .int .i64 xi, .string xs, .slice xal xnl xcl, .slice xam xnm xcm] 25)).alloc (.cells #[.int .i64 0, .bool false, .int .i64 0, .string ⟨#[]⟩, .slice none 0 0, .slice none 0 0] 25)).alloc (.cells #[.int .i64 5, .bool false, .int .i64 0, .string ⟨#[]⟩, .slice none 0 0, .slice none 0 0] 25)).heap.size = w.heap.size + 4 := by rw [alloc_size, hz4]
 have B3 : Below w.heap.size w ((((w.alloc (.cells #[.int .i64 k, .bool b, .int .i64 i, .string s, .slice al l.length cl, .slice am m.length cm] 25)).alloc (.cells #[.int .i64 xk, .bool xb, .int .i64 xi, .string xs, .slice xal xnl xcl, .slice xam xnm xcm] 25)).alloc (.cells #[.int .i64 0, .bool false, .int .i64 0, .string ⟨#[]⟩, .slice none 0 0, .slice none 0 0] 25)).alloc (.cells #[.int .i64 5, .bool false, .int .i64 0, .string ⟨#[]⟩, .slice none 0 0, .slice none 0 0] 25)) := b4.trans (b5.mono (by omega))
 obtain ⟨k0, k1, k2⟩ := three_allocs w (.cells #[.int .i64 k, .bool b, .int .i64 i, .string s, .slice al l.length cl, .slice am m.length cm] 25) (.cells #[.int .i64 xk, .bool xb, .int .i64 xi, .string xs, .slice xal xnl xcl, .slice xam xnm xcm] 25) (.cells #[.int .i64 0, .bool false, .int .i64 0, .string ⟨#[]⟩, .slice none 0 0, .slice none 0 0] 25)
 have h0 := (b5.block w.heap.size (by omega)).trans k0
 have h1 := (b5.block (w.heap.size + 1) (by omega)).trans k1
 have hres := (b5.block (w.heap.size + 2) (by omega)).trans k2
 have h2 := heap_alloc_new (((w.alloc (.cells #[.int .i64 k, .bool b, .int .i64 i, .string s, .slice al l.length cl, .slice am m.length cm] 25)).alloc (.cells #[.int .i64 xk, .bool xb, .int .i64 xi, .string xs, .slice xal xnl xcl, .slice xam xnm xcm] 25)).alloc (.cells #[.int .i64 0, .bool false, .int .i64 0, .string ⟨#[]⟩, .slice none 0 0, .slice none 0 0] 25)) (.cells #[.int .i64 5, .bool false, .int .i64 0, .string ⟨#[]⟩, .slice none 0 0, .slice none 0 0] 25)
 rw [hz4] at h2
 clear hl hm b4 b5 hz4 k0 k1 k2 hxo hx
 go_enter Tryd.func31, Tryd.ntmps31
 go_wp2_with fail
 generalize ((((w.alloc (.cells #[.int .i64 k, .bool b, .int .i64 i, .string s, .slice al l.length cl, .slice am m.length cm] 25)).alloc (.cells #[.int .i64 xk, .bool xb, .int .i64 xi, .string xs, .slice xal xnl xcl, .slice xam xnm xcm] 25)).alloc (.cells #[.int .i64 0, .bool false, .int .i64 0, .string ⟨#[]⟩, .slice none 0 0, .slice none 0 0] 25)).alloc (.cells #[.int .i64 5, .bool false, .int .i64 0, .string ⟨#[]⟩, .slice none 0 0, .slice none 0 0] 25)) = w3 at *
 go_loopw [8] (fun e wr => ∃ (q : Nat) (ma : Option Addr) (mn mc : Nat), q ≤ m.length ∧ e = .int .i64 (q : Int) ∧ wr.heap[w.heap.size + 3]? = some (.cells #[.int .i64 5, .bool false, .int .i64 0, .string ⟨#[]⟩, .slice none 0 0, .slice ma mn mc] 25) ∧ Below (w.heap.size + 3) w3 wr ∧ OwnC (w.heap.size + 4) 39 7 (.slice ma mn mc) ((flt (lesK key) qs q).map (fun z => z.2)) wr) (fun e _ => m.length - (RowKit.intOf e).toNat)
 case atStart => exact ⟨0, none, 0, 0, by omega, rfl, h2, Below.refl _ _, by rw [flt_zero]; exact World.ownsRow_nil _ _ _ _⟩
 case round =>
  obtain ⟨q, ma, mn, mc, hq, rfl, hbox, bj, own⟩ := hrel
  have hzr := bj.size
  have Bz : Below w.heap.size w wr := B3.trans (bj.mono (by omega))
  have tb := (bj.block w.heap.size (by omega)).trans h0
  have r5 : wr.cell? ⟨w.heap.size, 5, none⟩ = some (.slice am m.length cm) := by rw [cell_of_block tb]; rfl
  by_cases hql2 : q < m.length
  ·have y1 : (q : Int) < m.length := by omega
   obtain rfl : am = some ⟨bm, om, none⟩ := ham.at_.resolve_left (by omega)
   have hSb : S bm := hq4 (by omega)
   have hbl := hS bm hSb
   have hq' : q < qs.length := by omega
   have HY : Hid (lesK key (qs[q]).1 = true → flt (lesK key) qs (q + 1) = flt (lesK key) qs q ++ [qs[q]]) := fun hc => flt_yes hq' hc
   have HN : Hid (lesK key (qs[q]).1 = false → flt (lesK key) qs (q + 1) = flt (lesK key) qs q) := fun hc => flt_no hq' hc
   obtain ⟨es_, e0, hks, hlie⟩ := hq3 qs[q] (List.getElem_mem hq')
   have rowq := (hq2.row q (by simpa using hq')).keep (Bz.block bm hbl)
   rw [List.getElem_map, e0] at rowq
   have HY2 : Hid (lesK key (qs[q]).1 = true → (flt (lesK key) qs (q + 1)).map (fun z => z.2) = (flt (lesK key) qs q).map (fun z => z.2) ++ [.string (qs[q]).1.1 :: es_]) := fun hc => by rw [HY.out hc, List.map_append, ← e0]; rfl
   have hone0 := (one_of_lies hlie).2
   have hone : ∀ u ∈ (Value.string (qs[q]).1.1 :: es_), u.oneCell' = true := fun u hu => by
    rcases List.mem_cons.1 hu with rfl | hu
    ·rfl
    ·exact hone0 u hu
   have hal_ : ((flt (lesK key) qs q).map (fun z => z.2)).length ≤ 7000000 := by rw [List.length_map]; exact Nat.le_trans (flt_len _ _ _) (by omega)
   rcases hxj : (qs[q]).1 with ⟨ekey, xv⟩
   rw [hxj] at rowq HY HN HY2 hone
   simp only at rowq hone HY2
   obtain ⟨ek, eb, ei, es, eal, enl, ecl, eam, enm, ecm, rfl⟩ := V.ten hlie
   obtain ⟨q_, q0, q1, q2, q3, q4, q5⟩ := row7 rowq
   clear hlie hone0 e0 hxj HY
   cases he : ltB ekey key with
   | false =>
    have yg : Op.bytesLess ekey.toList key.toList = false := he
    have HAC := hmk (HN.out he)
    clear he HN
    clear q0 q1 q2 q3 q4 q5 HY2 rowq hone
    go_wp2_with fail
    go_roundw
    case rel => exact ⟨q + 1, ma, mn, mc, by omega, by go_num, hbox, bj, by rw [HAC.out]; exact own⟩
    case measure => simp [RowKit.intOf]; omega
   | true =>
    have yg : Op.bytesLess ekey.toList key.toList = true := he
    have HAC := hmk (HY2.out he)
    clear he HN HY2
    go_wp2_with fail
    clear r5
    have bA : Below wr.heap.size wr (wr.alloc (.cells #[.string ekey, .int .i64 ek, .bool eb, .int .i64 ei, .string es, .slice eal enl ecl, .slice eam enm ecm] 39)).drew := ((Below.refl _ _).alloc (Nat.le_refl _) _).drew
    have hzA : (wr.alloc (.cells #[.string ekey, .int .i64 ek, .bool eb, .int .i64 ei, .string es, .slice eal enl ecl, .slice eam enm ecm] 39)).drew.heap.size = wr.heap.size + 1 := alloc_size wr (.cells #[.string ekey, .int .i64 ek, .bool eb, .int .i64 ei, .string es, .slice eal enl ecl, .slice eam enm ecm] 39)
    have hA : (wr.alloc (.cells #[.string ekey, .int .i64 ek, .bool eb, .int .i64 ei, .string es, .slice eal enl ecl, .slice eam enm ecm] 39)).drew.heap[wr.heap.size]? = some (.cells #[.string ekey, .int .i64 ek, .bool eb, .int .i64 ei, .string es, .slice eal enl ecl, .slice eam enm ecm] 39) := heap_alloc_new wr (.cells #[.string ekey, .int .i64 ek, .bool eb, .int .i64 ei, .string es, .slice eal enl ecl, .slice eam enm ecm] 39)
    have cM : wr.cell? ⟨w.heap.size + 3, 5, none⟩ = some (.slice ma mn mc) := by rw [cell_of_block hbox]; rfl
    have cMA : (wr.alloc (.cells #[.string ekey, .int .i64 ek, .bool eb, .int .i64 ei, .string es, .slice eal enl ecl, .slice eam enm ecm] 39)).cell? ⟨w.heap.size + 3, 5, none⟩ = some (.slice ma mn mc) := (World.cell?_of_block (w := wr) (a := ⟨w.heap.size + 3, 5, none⟩) (Below.heap_alloc wr (.cells #[.string ekey, .int .i64 ek, .bool eb, .int .i64 ei, .string es, .slice eal enl ecl, .slice eam enm ecm] 39) (w.heap.size + 3) (by omega))).trans cM
    have ownA := (own.alloc (.cells #[.string ekey, .int .i64 ek, .bool eb, .int .i64 ei, .string es, .slice eal enl ecl, .slice eam enm ecm] 39)).move (w' := (wr.alloc (.cells #[.string ekey, .int .i64 ek, .bool eb, .int .i64 ei, .string es, .slice eal enl ecl, .slice eam enm ecm] 39)).drew) (fun _ _ _ => rfl)
    have tbA := (bA.block w.heap.size (by omega)).trans tb
    have rowA : rowAt (wr.alloc (.cells #[.string ekey, .int .i64 ek, .bool eb, .int .i64 ei, .string es, .slice eal enl ecl, .slice eam enm ecm] 39)).drew bm (om + q * 7) [.string ekey, .int .i64 ek, .bool eb, .int .i64 ei, .string es, .slice eal enl ecl, .slice eam enm ecm] := rowq.keep (bA.block bm (by omega))
    have boxA := (bA.block (w.heap.size + 3) (by omega)).trans hbox
    refine wp_region_held_drew (S := fun W => W.heap[w.heap.size]? = some (.cells #[.int .i64 k, .bool b, .int .i64 i, .string s, .slice al l.length cl, .slice (some ⟨bm, om, none⟩) m.length cm] 25) ∧ rowAt W bm (om + q * 7) [.string ekey, .int .i64 ek, .bool eb, .int .i64 ei, .string es, .slice eal enl ecl, .slice eam enm ecm]) (by kernel_rfl) ⟨tb, rowq⟩ (fun hHeld => ?_)
    (refine wpAnyH_take (i := 0) (v := ?_) rfl (by kernel_rfl) (by kernel_rfl) (by kernel_rfl) (fun _ _ _ h => h) (Or.inl ⟨by kernel_rfl, ?_⟩) (by assumption) ?_; rotate_left 1; (intro W0 hSw; (try dsimp only at hSw); go_simp; (try with_reducible rfl)); (try simp only [Act.put, List.setIfInBounds_toArray, List.set_cons_zero, List.set_cons_succ]))
    (refine wpAnyH_take (i := 2) (v := ?_) rfl (by kernel_rfl) (by kernel_rfl) (by kernel_rfl) (fun _ _ _ h => h) (Or.inl ⟨by kernel_rfl, ?_⟩) (by assumption) ?_; rotate_left 1; (intro W0 hSw; (try dsimp only at hSw); go_simp; (try with_reducible rfl)); (try simp only [Act.put, List.setIfInBounds_toArray, List.set_cons_zero, List.set_cons_succ]))
    (refine wpAnyH_take (i := 3) (v := ?_) rfl (by kernel_rfl) (by kernel_rfl) (by kernel_rfl) (fun _ _ _ h => h) (Or.inl ⟨by kernel_rfl, ?_⟩) (by assumption) ?_; rotate_left 1; (intro W0 hSw; (have o9 : W0.cell? ⟨w.heap.size, 5, none⟩ = some (.slice (some ⟨bm, om, none⟩) m.length cm) := by rw [cell_of_block hSw.1]; rfl); go_simp; (try with_reducible rfl)); (try simp only [Act.put, List.setIfInBounds_toArray, List.set_cons_zero, List.set_cons_succ]))
    (refine wpAnyH_take (i := 4) (v := ?_) rfl (by kernel_rfl) (by kernel_rfl) (by kernel_rfl) (fun _ _ _ h => h) (Or.inl ⟨by kernel_rfl, ?_⟩) (by assumption) ?_; rotate_left 1; (intro W0 hSw; (try dsimp only at hSw); go_simp; (try with_reducible rfl)); (try simp only [Act.put, List.setIfInBounds_toArray, List.set_cons_zero, List.set_cons_succ]))
    (refine wpAnyH_take (i := 5) (v := ?_) rfl (by kernel_rfl) (by kernel_rfl) (by kernel_rfl) (fun _ _ _ h => h) (Or.inl ⟨by kernel_rfl, ?_⟩) (by assumption) ?_; rotate_left 1; (intro W0 hSw; (try dsimp only at hSw); go_simp; (try with_reducible rfl)); (try simp only [Act.put, List.setIfInBounds_toArray, List.set_cons_zero, List.set_cons_succ]))
    (refine wpAnyH_take (i := 6) (v := ?_) rfl (by kernel_rfl) (by kernel_rfl) (by kernel_rfl) (fun _ _ _ h => h) (Or.inl ⟨by kernel_rfl, ?_⟩) (by assumption) ?_; rotate_left 1; (intro W0 hSw; (obtain ⟨oo, o0, o1, o2, o3, o4, o5⟩ := row7 hSw.2); go_simp; (try with_reducible rfl)); (try simp only [Act.put, List.setIfInBounds_toArray, List.set_cons_zero, List.set_cons_succ]))
    refine wpAnyH_ready (rs := [1, 7]) (by kernel_rfl) (by simp) ?_
    refine AllReadyH.cons rfl (fun K hK => ?_) (AllReadyH.cons rfl (fun K hK => ?_) AllReadyH.nil)
    ·go_simp
     refine hK.out _ _ ⟨tb, rowq⟩ (fun hHeld => ?_)
     clear hK K
     (try simp only [Act.put, List.setIfInBounds_toArray, List.set_cons_zero, List.set_cons_succ])
     refine wpAnyH_ready (rs := [7]) (by kernel_rfl) (by simp) ?_
     refine AllReadyH.cons rfl (fun K hK => ?_) AllReadyH.nil
     go_simp
     refine hK.out _ _ ⟨tbA, rowA⟩ (fun hHeld => ?_)
     clear hK K
     (try simp only [Act.put, List.setIfInBounds_toArray, List.set_cons_zero, List.set_cons_succ])
     refine wpAnyH_ready (rs := [8]) (by kernel_rfl) (by simp) ?_
     refine AllReadyH.cons rfl (fun K hK => ?_) AllReadyH.nil
     refine step_appM rfl (.tmp 27) (.tmp 33) rfl (w.heap.size + 4) (.slice ma mn mc) ((flt (lesK key) qs q).map (fun z => z.2)) rfl ownA wr.heap.size [.string ekey, .int .i64 ek, .bool eb, .int .i64 ei, .string es, .slice eal enl ecl, .slice eam enm ecm] rfl hone rfl hA (by omega) (by omega) ?_
     intro v' w5 o5 g5
     obtain ⟨va, vnl, vn, rfl⟩ : ∃ a n c, v' = .slice a n c := by obtain ⟨a, c, h⟩ := o5.slice; exact ⟨_, _, _, h⟩
     have hz5 := g5.size
     have hgn : ∀ z, z < w.heap.size + 4 → w5.heap[z]? = (wr.alloc (.cells #[.string ekey, .int .i64 ek, .bool eb, .int .i64 ei, .string es, .slice eal enl ecl, .slice eam enm ecm] 39)).drew.heap[z]? := fun z hz => g5.block z (by omega) (fun e => by have := (World.ownsRow.lt own z e.symm).1; omega)
     have b5 := (hgn (w.heap.size + 3) (by omega)).trans boxA
     have tb5 := (hgn w.heap.size (by omega)).trans tbA
     have row5 : rowAt w5 bm (om + q * 7) [.string ekey, .int .i64 ek, .bool eb, .int .i64 ei, .string es, .slice eal enl ecl, .slice eam enm ecm] := rowA.keep (hgn bm (by omega))
     have c5 : w5.cell? ⟨w.heap.size + 3, 5, none⟩ = some (.slice ma mn mc) := by rw [cell_of_block b5]; rfl
     have f5 : w5.frozen? ⟨w.heap.size + 3, 5, none⟩ = false := frozen_of_block b5 5
     have B5 : Below (w.heap.size + 3) w3 w5 := ⟨g5.os.trans bj.os, g5.tape.trans bj.tape, g5.output.trans bj.output, by have := bj.size; omega, fun z hz => (hgn z (by omega)).trans ((bA.block z (by omega)).trans (bj.block z hz))⟩
     refine hK.out _ _ ⟨tb5, row5⟩ (fun hHeld => ?_)
     clear hK K
     (try simp only [Act.put, List.setIfInBounds_toArray, List.set_cons_zero, List.set_cons_succ])
     (refine wpAnyH_take (i := 9) (v := ?_) rfl (by kernel_rfl) (by kernel_rfl) (by kernel_rfl) (fun _ _ _ h => h) (Or.inl ⟨by kernel_rfl, ?_⟩) (by assumption) ?_; rotate_left 1; (intro W0 hSw; (try dsimp only at hSw); go_simp; (try with_reducible rfl)); (try simp only [Act.put, List.setIfInBounds_toArray, List.set_cons_zero, List.set_cons_succ]))
     refine wpAnyH_ready (rs := [10]) (by kernel_rfl) (by simp) ?_
     refine AllReadyH.cons rfl (fun K hK => ?_) AllReadyH.nil
     go_simp
     have u5 : (w5.setCell ⟨w.heap.size + 3, 5, none⟩ (.slice va vnl vn)).heap[w.heap.size + 3]? = some (.cells #[.int .i64 5, .bool false, .int .i64 0, .string ⟨#[]⟩, .slice none 0 0, .slice va vnl vn] 25) := by rw [set_block b5]; rfl
     have hs5 : ∀ z, z ≠ w.heap.size + 3 → (w5.setCell ⟨w.heap.size + 3, 5, none⟩ (.slice va vnl vn)).heap[z]? = w5.heap[z]? := fun z hz => by rw [set_other hz]
     have gs : w5.grownBy (w5.setCell ⟨w.heap.size + 3, 5, none⟩ (.slice va vnl vn)) (some (w.heap.size + 3)) := grown_set (World.grownBy.refl w5 _) 5 _
     have ms : (w5.setCell ⟨w.heap.size + 3, 5, none⟩ (.slice va vnl vn)).heap.size = w5.heap.size := by simp only [size_set1]
     generalize (w5.setCell ⟨w.heap.size + 3, 5, none⟩ (.slice va vnl vn)) = w6 at *
     have o6 : OwnC (w.heap.size + 4) 39 7 (.slice va vnl vn) (((flt (lesK key) qs q).map (fun z => z.2)) ++ [[.string ekey, .int .i64 ek, .bool eb, .int .i64 ei, .string es, .slice eal enl ecl, .slice eam enm ecm]]) w6 := o5.move (fun z h1 _ => hs5 z (by omega))
     have B6 : Below (w.heap.size + 3) w3 w6 := ⟨gs.os.trans B5.os, gs.tape.trans B5.tape, gs.output.trans B5.output, by have := B5.size; omega, fun z hz => (hs5 z (by omega)).trans (B5.block z hz)⟩
     refine hK.out _ _ ⟨(hs5 _ (by omega)).trans tb5, row5.keep (hs5 bm (by omega))⟩ (fun hHeld => ?_)
     clear hK K
     (try simp only [Act.put, List.setIfInBounds_toArray, List.set_cons_zero, List.set_cons_succ])
     refine wpAnyH_done (by kernel_rfl) ?_ _
     (try dsimp only [Act.put, List.getElem_toArray, List.getElem_cons_succ, List.getElem_cons_zero, List.setIfInBounds_toArray, List.set_cons_zero, List.set_cons_succ])
     clear hHeld c5 f5
     go_wp2_with fail
     go_roundw
     case rel => exact ⟨q + 1, _, _, _, by omega, by go_num, u5, B6, by rw [HAC.out]; exact o6⟩
     case measure => simp [RowKit.intOf]; omega
    ·go_simp
     refine hK.out _ _ ⟨tbA, rowA⟩ (fun hHeld => ?_)
     clear hK K
     (try simp only [Act.put, List.setIfInBounds_toArray, List.set_cons_zero, List.set_cons_succ])
     refine wpAnyH_ready (rs := [1]) (by kernel_rfl) (by simp) ?_
     refine AllReadyH.cons rfl (fun K hK => ?_) AllReadyH.nil
     go_simp
     refine hK.out _ _ ⟨tbA, rowA⟩ (fun hHeld => ?_)
     clear hK K
     (try simp only [Act.put, List.setIfInBounds_toArray, List.set_cons_zero, List.set_cons_succ])
     refine wpAnyH_ready (rs := [8]) (by kernel_rfl) (by simp) ?_
     refine AllReadyH.cons rfl (fun K hK => ?_) AllReadyH.nil
     refine step_appM rfl (.tmp 27) (.tmp 33) rfl (w.heap.size + 4) (.slice ma mn mc) ((flt (lesK key) qs q).map (fun z => z.2)) rfl ownA wr.heap.size [.string ekey, .int .i64 ek, .bool eb, .int .i64 ei, .string es, .slice eal enl ecl, .slice eam enm ecm] rfl hone rfl hA (by omega) (by omega) ?_
     intro v' w5 o5 g5
     obtain ⟨va, vnl, vn, rfl⟩ : ∃ a n c, v' = .slice a n c := by obtain ⟨a, c, h⟩ := o5.slice; exact ⟨_, _, _, h⟩
     have hz5 := g5.size
     have hgn : ∀ z, z < w.heap.size + 4 → w5.heap[z]? = (wr.alloc (.cells #[.string ekey, .int .i64 ek, .bool eb, .int .i64 ei, .string es, .slice eal enl ecl, .slice eam enm ecm] 39)).drew.heap[z]? := fun z hz => g5.block z (by omega) (fun e => by have := (World.ownsRow.lt own z e.symm).1; omega)
     have b5 := (hgn (w.heap.size + 3) (by omega)).trans boxA
     have tb5 := (hgn w.heap.size (by omega)).trans tbA
     have row5 : rowAt w5 bm (om + q * 7) [.string ekey, .int .i64 ek, .bool eb, .int .i64 ei, .string es, .slice eal enl ecl, .slice eam enm ecm] := rowA.keep (hgn bm (by omega))
     have c5 : w5.cell? ⟨w.heap.size + 3, 5, none⟩ = some (.slice ma mn mc) := by rw [cell_of_block b5]; rfl
     have f5 : w5.frozen? ⟨w.heap.size + 3, 5, none⟩ = false := frozen_of_block b5 5
     have B5 : Below (w.heap.size + 3) w3 w5 := ⟨g5.os.trans bj.os, g5.tape.trans bj.tape, g5.output.trans bj.output, by have := bj.size; omega, fun z hz => (hgn z (by omega)).trans ((bA.block z (by omega)).trans (bj.block z hz))⟩
     refine hK.out _ _ ⟨tb5, row5⟩ (fun hHeld => ?_)
     clear hK K
     (try simp only [Act.put, List.setIfInBounds_toArray, List.set_cons_zero, List.set_cons_succ])
     (refine wpAnyH_take (i := 9) (v := ?_) rfl (by kernel_rfl) (by kernel_rfl) (by kernel_rfl) (fun _ _ _ h => h) (Or.inl ⟨by kernel_rfl, ?_⟩) (by assumption) ?_; rotate_left 1; (intro W0 hSw; (try dsimp only at hSw); go_simp; (try with_reducible rfl)); (try simp only [Act.put, List.setIfInBounds_toArray, List.set_cons_zero, List.set_cons_succ]))
     refine wpAnyH_ready (rs := [10]) (by kernel_rfl) (by simp) ?_
     refine AllReadyH.cons rfl (fun K hK => ?_) AllReadyH.nil
     go_simp
     have u5 : (w5.setCell ⟨w.heap.size + 3, 5, none⟩ (.slice va vnl vn)).heap[w.heap.size + 3]? = some (.cells #[.int .i64 5, .bool false, .int .i64 0, .string ⟨#[]⟩, .slice none 0 0, .slice va vnl vn] 25) := by rw [set_block b5]; rfl
     have hs5 : ∀ z, z ≠ w.heap.size + 3 → (w5.setCell ⟨w.heap.size + 3, 5, none⟩ (.slice va vnl vn)).heap[z]? = w5.heap[z]? := fun z hz => by rw [set_other hz]
     have gs : w5.grownBy (w5.setCell ⟨w.heap.size + 3, 5, none⟩ (.slice va vnl vn)) (some (w.heap.size + 3)) := grown_set (World.grownBy.refl w5 _) 5 _
     have ms : (w5.setCell ⟨w.heap.size + 3, 5, none⟩ (.slice va vnl vn)).heap.size = w5.heap.size := by simp only [size_set1]
     generalize (w5.setCell ⟨w.heap.size + 3, 5, none⟩ (.slice va vnl vn)) = w6 at *
     have o6 : OwnC (w.heap.size + 4) 39 7 (.slice va vnl vn) (((flt (lesK key) qs q).map (fun z => z.2)) ++ [[.string ekey, .int .i64 ek, .bool eb, .int .i64 ei, .string es, .slice eal enl ecl, .slice eam enm ecm]]) w6 := o5.move (fun z h1 _ => hs5 z (by omega))
     have B6 : Below (w.heap.size + 3) w3 w6 := ⟨gs.os.trans B5.os, gs.tape.trans B5.tape, gs.output.trans B5.output, by have := B5.size; omega, fun z hz => (hs5 z (by omega)).trans (B5.block z hz)⟩
     refine hK.out _ _ ⟨(hs5 _ (by omega)).trans tb5, row5.keep (hs5 bm (by omega))⟩ (fun hHeld => ?_)
     clear hK K
     (try simp only [Act.put, List.setIfInBounds_toArray, List.set_cons_zero, List.set_cons_succ])
     refine wpAnyH_done (by kernel_rfl) ?_ _
     (try dsimp only [Act.put, List.getElem_toArray, List.getElem_cons_succ, List.getElem_cons_zero, List.setIfInBounds_toArray, List.set_cons_zero, List.set_cons_succ])
     clear hHeld c5 f5
     go_wp2_with fail
     go_roundw
     case rel => exact ⟨q + 1, _, _, _, by omega, by go_num, u5, B6, by rw [HAC.out]; exact o6⟩
     case measure => simp [RowKit.intOf]; omega
  ·obtain rfl : q = m.length := by omega
   have y1 : ¬ (m.length : Int) < m.length := by omega
   have hal_ : ((flt (lesK key) qs m.length).map (fun z => z.2)).length ≤ 7000000 := by rw [List.length_map]; exact Nat.le_trans (flt_len _ _ _) (by omega)
   have tx := (bj.block (w.heap.size + 1) (by omega)).trans h1
   have x0 : wr.cell? ⟨w.heap.size + 1, 0, none⟩ = some (.int .i64 xk) := by rw [cell_of_block tx]; rfl
   have x1 : wr.cell? ⟨w.heap.size + 1, 1, none⟩ = some (.bool xb) := by rw [cell_of_block tx]; rfl
   have x2 : wr.cell? ⟨w.heap.size + 1, 2, none⟩ = some (.int .i64 xi) := by rw [cell_of_block tx]; rfl
   have x3 : wr.cell? ⟨w.heap.size + 1, 3, none⟩ = some (.string xs) := by rw [cell_of_block tx]; rfl
   have x4 : wr.cell? ⟨w.heap.size + 1, 4, none⟩ = some (.slice xal xnl xcl) := by rw [cell_of_block tx]; rfl
   have x5 : wr.cell? ⟨w.heap.size + 1, 5, none⟩ = some (.slice xam xnm xcm) := by rw [cell_of_block tx]; rfl
   have cM : wr.cell? ⟨w.heap.size + 3, 5, none⟩ = some (.slice ma mn mc) := by rw [cell_of_block hbox]; rfl
   go_wp2_with (at_builtin; go_loud (refine wpl_appM _ rfl (.tmp 37) (.tmp 41) rfl (w.heap.size + 4) (.slice ma mn mc) ((flt (lesK key) qs m.length).map (fun z => z.2)) rfl (own.alloc _) wr.heap.size [.string key, .int .i64 xk, .bool xb, .int .i64 xi, .string xs, .slice xal xnl xcl, .slice xam xnm xcm] rfl hxone.out rfl (heap_alloc_new wr _) (by omega) (by rw [alloc_size]; omega) ?_))
   intro v' w5 o5 g5
   obtain ⟨va, vnl, vn, rfl⟩ : ∃ a n c, v' = .slice a n c := by obtain ⟨a, c, h⟩ := o5.slice; exact ⟨_, _, _, h⟩
   have hz5 := g5.size
   have hzA : (wr.alloc (.cells #[.string key, .int .i64 xk, .bool xb, .int .i64 xi, .string xs, .slice xal xnl xcl, .slice xam xnm xcm] 39)).heap.size = wr.heap.size + 1 := alloc_size _ _
   have hgn : ∀ z, z < w.heap.size + 4 → w5.heap[z]? = wr.heap[z]? := fun z hz => (g5.block z (by omega) (fun e => by have := (World.ownsRow.lt own z e.symm).1; omega)).trans (Below.heap_alloc wr (.cells #[.string key, .int .i64 xk, .bool xb, .int .i64 xi, .string xs, .slice xal xnl xcl, .slice xam xnm xcm] 39) z (by omega))
   have b5 := (hgn (w.heap.size + 3) (by omega)).trans hbox
   have c5 : w5.cell? ⟨w.heap.size + 3, 5, none⟩ = some (.slice ma mn mc) := by rw [cell_of_block b5]; rfl
   have f5 : w5.frozen? ⟨w.heap.size + 3, 5, none⟩ = false := frozen_of_block b5 5
   have u5 : (w5.setCell ⟨w.heap.size + 3, 5, none⟩ (.slice va vnl vn)).heap[w.heap.size + 3]? = some (.cells #[.int .i64 5, .bool false, .int .i64 0, .string ⟨#[]⟩, .slice none 0 0, .slice va vnl vn] 25) := by rw [set_block b5]; rfl
   have hs5 : ∀ z, z ≠ w.heap.size + 3 → (w5.setCell ⟨w.heap.size + 3, 5, none⟩ (.slice va vnl vn)).heap[z]? = w5.heap[z]? := fun z hz => by rw [set_other hz]
   have gs : w5.grownBy (w5.setCell ⟨w.heap.size + 3, 5, none⟩ (.slice va vnl vn)) (some (w.heap.size + 3)) := grown_set (World.grownBy.refl w5 _) 5 _
   have ms : (w5.setCell ⟨w.heap.size + 3, 5, none⟩ (.slice va vnl vn)).heap.size = w5.heap.size := by simp only [size_set1]
   have HU : Hid ((w5.setCell ⟨w.heap.size + 3, 5, none⟩ (.slice va vnl vn)).heap[w.heap.size + 3]? = some (.cells #[.int .i64 5, .bool false, .int .i64 0, .string ⟨#[]⟩, .slice none 0 0, .slice va vnl vn] 25) ∧ Below (w.heap.size + 3) w3 (w5.setCell ⟨w.heap.size + 3, 5, none⟩ (.slice va vnl vn)) ∧ OwnC (w.heap.size + 4) 39 7 (.slice va vnl vn) ((flt (lesK key) qs m.length).map (fun z => z.2) ++ [[.string key, .int .i64 xk, .bool xb, .int .i64 xi, .string xs, .slice xal xnl xcl, .slice xam xnm xcm]]) (w5.setCell ⟨w.heap.size + 3, 5, none⟩ (.slice va vnl vn))) :=
    ⟨u5, ⟨gs.os.trans (g5.os.trans bj.os), gs.tape.trans (g5.tape.trans bj.tape), gs.output.trans (g5.output.trans bj.output), by have := bj.size; omega, fun z hz => (hs5 z (by omega)).trans ((hgn z (by omega)).trans (bj.block z hz))⟩, o5.move (fun z h1 _ => hs5 z (by omega))⟩
   clear u5 hs5 gs ms b5 hgn g5 o5 own hbox bj hzr Bz tb r5 tx
   go_wp2_with fail
   clear c5 f5 x0 x1 x2 x3 x4 x5 cM
   generalize (w5.setCell ⟨w.heap.size + 3, 5, none⟩ (.slice va vnl vn)) = w6 at *
   go_loopw [9] (fun e wr => ∃ (q : Nat) (ma : Option Addr) (mn mc : Nat), q ≤ m.length ∧ e = .int .i64 (q : Int) ∧ wr.heap[w.heap.size + 3]? = some (.cells #[.int .i64 5, .bool false, .int .i64 0, .string ⟨#[]⟩, .slice none 0 0, .slice ma mn mc] 25) ∧ Below (w.heap.size + 3) w3 wr ∧ OwnC (w.heap.size + 4) 39 7 (.slice ma mn mc) (((wtx (flt (lesK key) qs m.length) (((key, x), [.string key, .int .i64 xk, .bool xb, .int .i64 xi, .string xs, .slice xal xnl xcl, .slice xam xnm xcm]) : Mem × List Value) key qs) q).map (fun z => z.2)) wr) (fun e _ => m.length - (RowKit.intOf e).toNat)
   case atStart => exact ⟨0, _, _, _, by omega, rfl, HU.out.1, HU.out.2.1, by rw [wtx_zero, List.map_append]; exact HU.out.2.2⟩
   case round =>
    obtain ⟨q, ma, mn, mc, hq, rfl, hbox, bj, own⟩ := hrel
    have hzr := bj.size
    have Bz : Below w.heap.size w wr := B3.trans (bj.mono (by omega))
    have tb := (bj.block w.heap.size (by omega)).trans h0
    have r5 : wr.cell? ⟨w.heap.size, 5, none⟩ = some (.slice am m.length cm) := by rw [cell_of_block tb]; rfl
    by_cases hql2 : q < m.length
    ·have y1 : (q : Int) < m.length := by omega
     obtain rfl : am = some ⟨bm, om, none⟩ := ham.at_.resolve_left (by omega)
     have hSb : S bm := hq4 (by omega)
     have hbl := hS bm hSb
     have hq' : q < qs.length := by omega
     have HY : Hid (morK key (qs[q]).1 = true → (wtx (flt (lesK key) qs m.length) (((key, x), [.string key, .int .i64 xk, .bool xb, .int .i64 xi, .string xs, .slice xal xnl xcl, .slice xam xnm xcm]) : Mem × List Value) key qs) (q + 1) = (wtx (flt (lesK key) qs m.length) (((key, x), [.string key, .int .i64 xk, .bool xb, .int .i64 xi, .string xs, .slice xal xnl xcl, .slice xam xnm xcm]) : Mem × List Value) key qs) q ++ [qs[q]]) := fun hc => wtx_yes hq' hc
     have HN : Hid (morK key (qs[q]).1 = false → (wtx (flt (lesK key) qs m.length) (((key, x), [.string key, .int .i64 xk, .bool xb, .int .i64 xi, .string xs, .slice xal xnl xcl, .slice xam xnm xcm]) : Mem × List Value) key qs) (q + 1) = (wtx (flt (lesK key) qs m.length) (((key, x), [.string key, .int .i64 xk, .bool xb, .int .i64 xi, .string xs, .slice xal xnl xcl, .slice xam xnm xcm]) : Mem × List Value) key qs) q) := fun hc => wtx_no hq' hc
     obtain ⟨es_, e0, hks, hlie⟩ := hq3 qs[q] (List.getElem_mem hq')
     have rowq := (hq2.row q (by simpa using hq')).keep (Bz.block bm hbl)
     rw [List.getElem_map, e0] at rowq
     have HY2 : Hid (morK key (qs[q]).1 = true → ((wtx (flt (lesK key) qs m.length) (((key, x), [.string key, .int .i64 xk, .bool xb, .int .i64 xi, .string xs, .slice xal xnl xcl, .slice xam xnm xcm]) : Mem × List Value) key qs) (q + 1)).map (fun z => z.2) = ((wtx (flt (lesK key) qs m.length) (((key, x), [.string key, .int .i64 xk, .bool xb, .int .i64 xi, .string xs, .slice xal xnl xcl, .slice xam xnm xcm]) : Mem × List Value) key qs) q).map (fun z => z.2) ++ [.string (qs[q]).1.1 :: es_]) := fun hc => by rw [HY.out hc, List.map_append, ← e0]; rfl
     have hone0 := (one_of_lies hlie).2
     have hone : ∀ u ∈ (Value.string (qs[q]).1.1 :: es_), u.oneCell' = true := fun u hu => by
      rcases List.mem_cons.1 hu with rfl | hu
      ·rfl
      ·exact hone0 u hu
     have hal_ : (((wtx (flt (lesK key) qs m.length) (((key, x), [.string key, .int .i64 xk, .bool xb, .int .i64 xi, .string xs, .slice xal xnl xcl, .slice xam xnm xcm]) : Mem × List Value) key qs) q).map (fun z => z.2)).length ≤ 7000000 := by rw [List.length_map]; exact by rw [wtx_len]; have h1 := flt_len (lesK key) qs m.length; have h2 := flt_len (morK key) qs q; omega
     rcases hxj : (qs[q]).1 with ⟨ekey, xv⟩
     rw [hxj] at rowq HY HN HY2 hone
     simp only at rowq hone HY2
     obtain ⟨ek, eb, ei, es, eal, enl, ecl, eam, enm, ecm, rfl⟩ := V.ten hlie
     obtain ⟨q_, q0, q1, q2, q3, q4, q5⟩ := row7 rowq
     clear hlie hone0 e0 hxj HY
     cases he : ltB key ekey with
     | false =>
      have HAC := hmk (HN.out he)
      by_cases hg2 : ekey.toList = key.toList
      ·have yk : (ekey.toList == key.toList) = true := by rw [beq_iff_eq]; exact hg2
       have yg : Op.bytesLess ekey.toList key.toList = false := Bool.eq_false_iff.2 fun h => lt_ne (a := ekey) (b := key) h hg2
       clear he hg2 HN
       clear q0 q1 q2 q3 q4 q5 HY2 rowq hone
       go_wp2_with fail
       go_roundw
       case rel => exact ⟨q + 1, ma, mn, mc, by omega, by go_num, hbox, bj, by rw [HAC.out]; exact own⟩
       case measure => simp [RowKit.intOf]; omega
      ·have yg : Op.bytesLess ekey.toList key.toList = true := ltB_tri _ _ he (fun e => hg2 e.symm)
       have yk : (ekey.toList == key.toList) = false := by rw [beq_eq_false_iff_ne]; exact hg2
       clear he hg2 HN
       clear q0 q1 q2 q3 q4 q5 HY2 rowq hone
       go_wp2_with fail
       go_roundw
       case rel => exact ⟨q + 1, ma, mn, mc, by omega, by go_num, hbox, bj, by rw [HAC.out]; exact own⟩
       case measure => simp [RowKit.intOf]; omega
     | true =>
      have yg : Op.bytesLess ekey.toList key.toList = false := lt_asym he
      have yk : (ekey.toList == key.toList) = false := by rw [beq_eq_false_iff_ne]; exact fun e => lt_ne he e.symm
      have HAC := hmk (HY2.out he)
      clear he HN HY2
      go_wp2_with fail
      clear r5
      have bA : Below wr.heap.size wr (wr.alloc (.cells #[.string ekey, .int .i64 ek, .bool eb, .int .i64 ei, .string es, .slice eal enl ecl, .slice eam enm ecm] 39)).drew := ((Below.refl _ _).alloc (Nat.le_refl _) _).drew
      have hzA : (wr.alloc (.cells #[.string ekey, .int .i64 ek, .bool eb, .int .i64 ei, .string es, .slice eal enl ecl, .slice eam enm ecm] 39)).drew.heap.size = wr.heap.size + 1 := alloc_size wr (.cells #[.string ekey, .int .i64 ek, .bool eb, .int .i64 ei, .string es, .slice eal enl ecl, .slice eam enm ecm] 39)
      have hA : (wr.alloc (.cells #[.string ekey, .int .i64 ek, .bool eb, .int .i64 ei, .string es, .slice eal enl ecl, .slice eam enm ecm] 39)).drew.heap[wr.heap.size]? = some (.cells #[.string ekey, .int .i64 ek, .bool eb, .int .i64 ei, .string es, .slice eal enl ecl, .slice eam enm ecm] 39) := heap_alloc_new wr (.cells #[.string ekey, .int .i64 ek, .bool eb, .int .i64 ei, .string es, .slice eal enl ecl, .slice eam enm ecm] 39)
      have cM : wr.cell? ⟨w.heap.size + 3, 5, none⟩ = some (.slice ma mn mc) := by rw [cell_of_block hbox]; rfl
      have cMA : (wr.alloc (.cells #[.string ekey, .int .i64 ek, .bool eb, .int .i64 ei, .string es, .slice eal enl ecl, .slice eam enm ecm] 39)).cell? ⟨w.heap.size + 3, 5, none⟩ = some (.slice ma mn mc) := (World.cell?_of_block (w := wr) (a := ⟨w.heap.size + 3, 5, none⟩) (Below.heap_alloc wr (.cells #[.string ekey, .int .i64 ek, .bool eb, .int .i64 ei, .string es, .slice eal enl ecl, .slice eam enm ecm] 39) (w.heap.size + 3) (by omega))).trans cM
      have ownA := (own.alloc (.cells #[.string ekey, .int .i64 ek, .bool eb, .int .i64 ei, .string es, .slice eal enl ecl, .slice eam enm ecm] 39)).move (w' := (wr.alloc (.cells #[.string ekey, .int .i64 ek, .bool eb, .int .i64 ei, .string es, .slice eal enl ecl, .slice eam enm ecm] 39)).drew) (fun _ _ _ => rfl)
      have tbA := (bA.block w.heap.size (by omega)).trans tb
      have rowA : rowAt (wr.alloc (.cells #[.string ekey, .int .i64 ek, .bool eb, .int .i64 ei, .string es, .slice eal enl ecl, .slice eam enm ecm] 39)).drew bm (om + q * 7) [.string ekey, .int .i64 ek, .bool eb, .int .i64 ei, .string es, .slice eal enl ecl, .slice eam enm ecm] := rowq.keep (bA.block bm (by omega))
      have boxA := (bA.block (w.heap.size + 3) (by omega)).trans hbox
      refine wp_region_held_drew (S := fun W => W.heap[w.heap.size]? = some (.cells #[.int .i64 k, .bool b, .int .i64 i, .string s, .slice al l.length cl, .slice (some ⟨bm, om, none⟩) m.length cm] 25) ∧ rowAt W bm (om + q * 7) [.string ekey, .int .i64 ek, .bool eb, .int .i64 ei, .string es, .slice eal enl ecl, .slice eam enm ecm]) (by kernel_rfl) ⟨tb, rowq⟩ (fun hHeld => ?_)
      (refine wpAnyH_take (i := 0) (v := ?_) rfl (by kernel_rfl) (by kernel_rfl) (by kernel_rfl) (fun _ _ _ h => h) (Or.inl ⟨by kernel_rfl, ?_⟩) (by assumption) ?_; rotate_left 1; (intro W0 hSw; (try dsimp only at hSw); go_simp; (try with_reducible rfl)); (try simp only [Act.put, List.setIfInBounds_toArray, List.set_cons_zero, List.set_cons_succ]))
      (refine wpAnyH_take (i := 2) (v := ?_) rfl (by kernel_rfl) (by kernel_rfl) (by kernel_rfl) (fun _ _ _ h => h) (Or.inl ⟨by kernel_rfl, ?_⟩) (by assumption) ?_; rotate_left 1; (intro W0 hSw; (try dsimp only at hSw); go_simp; (try with_reducible rfl)); (try simp only [Act.put, List.setIfInBounds_toArray, List.set_cons_zero, List.set_cons_succ]))
      (refine wpAnyH_take (i := 3) (v := ?_) rfl (by kernel_rfl) (by kernel_rfl) (by kernel_rfl) (fun _ _ _ h => h) (Or.inl ⟨by kernel_rfl, ?_⟩) (by assumption) ?_; rotate_left 1; (intro W0 hSw; (have o9 : W0.cell? ⟨w.heap.size, 5, none⟩ = some (.slice (some ⟨bm, om, none⟩) m.length cm) := by rw [cell_of_block hSw.1]; rfl); go_simp; (try with_reducible rfl)); (try simp only [Act.put, List.setIfInBounds_toArray, List.set_cons_zero, List.set_cons_succ]))
      (refine wpAnyH_take (i := 4) (v := ?_) rfl (by kernel_rfl) (by kernel_rfl) (by kernel_rfl) (fun _ _ _ h => h) (Or.inl ⟨by kernel_rfl, ?_⟩) (by assumption) ?_; rotate_left 1; (intro W0 hSw; (try dsimp only at hSw); go_simp; (try with_reducible rfl)); (try simp only [Act.put, List.setIfInBounds_toArray, List.set_cons_zero, List.set_cons_succ]))
      (refine wpAnyH_take (i := 5) (v := ?_) rfl (by kernel_rfl) (by kernel_rfl) (by kernel_rfl) (fun _ _ _ h => h) (Or.inl ⟨by kernel_rfl, ?_⟩) (by assumption) ?_; rotate_left 1; (intro W0 hSw; (try dsimp only at hSw); go_simp; (try with_reducible rfl)); (try simp only [Act.put, List.setIfInBounds_toArray, List.set_cons_zero, List.set_cons_succ]))
      (refine wpAnyH_take (i := 6) (v := ?_) rfl (by kernel_rfl) (by kernel_rfl) (by kernel_rfl) (fun _ _ _ h => h) (Or.inl ⟨by kernel_rfl, ?_⟩) (by assumption) ?_; rotate_left 1; (intro W0 hSw; (obtain ⟨oo, o0, o1, o2, o3, o4, o5⟩ := row7 hSw.2); go_simp; (try with_reducible rfl)); (try simp only [Act.put, List.setIfInBounds_toArray, List.set_cons_zero, List.set_cons_succ]))
      refine wpAnyH_ready (rs := [1, 7]) (by kernel_rfl) (by simp) ?_
      refine AllReadyH.cons rfl (fun K hK => ?_) (AllReadyH.cons rfl (fun K hK => ?_) AllReadyH.nil)
      ·go_simp
       refine hK.out _ _ ⟨tb, rowq⟩ (fun hHeld => ?_)
       clear hK K
       (try simp only [Act.put, List.setIfInBounds_toArray, List.set_cons_zero, List.set_cons_succ])
       refine wpAnyH_ready (rs := [7]) (by kernel_rfl) (by simp) ?_
       refine AllReadyH.cons rfl (fun K hK => ?_) AllReadyH.nil
       go_simp
       refine hK.out _ _ ⟨tbA, rowA⟩ (fun hHeld => ?_)
       clear hK K
       (try simp only [Act.put, List.setIfInBounds_toArray, List.set_cons_zero, List.set_cons_succ])
       refine wpAnyH_ready (rs := [8]) (by kernel_rfl) (by simp) ?_
       refine AllReadyH.cons rfl (fun K hK => ?_) AllReadyH.nil
       refine step_appM rfl (.tmp 60) (.tmp 66) rfl (w.heap.size + 4) (.slice ma mn mc) (((wtx (flt (lesK key) qs m.length) (((key, x), [.string key, .int .i64 xk, .bool xb, .int .i64 xi, .string xs, .slice xal xnl xcl, .slice xam xnm xcm]) : Mem × List Value) key qs) q).map (fun z => z.2)) rfl ownA wr.heap.size [.string ekey, .int .i64 ek, .bool eb, .int .i64 ei, .string es, .slice eal enl ecl, .slice eam enm ecm] rfl hone rfl hA (by omega) (by omega) ?_
       intro v' w5 o5 g5
       obtain ⟨va, vnl, vn, rfl⟩ : ∃ a n c, v' = .slice a n c := by obtain ⟨a, c, h⟩ := o5.slice; exact ⟨_, _, _, h⟩
       have hz5 := g5.size
       have hgn : ∀ z, z < w.heap.size + 4 → w5.heap[z]? = (wr.alloc (.cells #[.string ekey, .int .i64 ek, .bool eb, .int .i64 ei, .string es, .slice eal enl ecl, .slice eam enm ecm] 39)).drew.heap[z]? := fun z hz => g5.block z (by omega) (fun e => by have := (World.ownsRow.lt own z e.symm).1; omega)
       have b5 := (hgn (w.heap.size + 3) (by omega)).trans boxA
       have tb5 := (hgn w.heap.size (by omega)).trans tbA
       have row5 : rowAt w5 bm (om + q * 7) [.string ekey, .int .i64 ek, .bool eb, .int .i64 ei, .string es, .slice eal enl ecl, .slice eam enm ecm] := rowA.keep (hgn bm (by omega))
       have c5 : w5.cell? ⟨w.heap.size + 3, 5, none⟩ = some (.slice ma mn mc) := by rw [cell_of_block b5]; rfl
       have f5 : w5.frozen? ⟨w.heap.size + 3, 5, none⟩ = false := frozen_of_block b5 5
       have B5 : Below (w.heap.size + 3) w3 w5 := ⟨g5.os.trans bj.os, g5.tape.trans bj.tape, g5.output.trans bj.output, by have := bj.size; omega, fun z hz => (hgn z (by omega)).trans ((bA.block z (by omega)).trans (bj.block z hz))⟩
       refine hK.out _ _ ⟨tb5, row5⟩ (fun hHeld => ?_)
       clear hK K
       (try simp only [Act.put, List.setIfInBounds_toArray, List.set_cons_zero, List.set_cons_succ])
       (refine wpAnyH_take (i := 9) (v := ?_) rfl (by kernel_rfl) (by kernel_rfl) (by kernel_rfl) (fun _ _ _ h => h) (Or.inl ⟨by kernel_rfl, ?_⟩) (by assumption) ?_; rotate_left 1; (intro W0 hSw; (try dsimp only at hSw); go_simp; (try with_reducible rfl)); (try simp only [Act.put, List.setIfInBounds_toArray, List.set_cons_zero, List.set_cons_succ]))
       refine wpAnyH_ready (rs := [10]) (by kernel_rfl) (by simp) ?_
       refine AllReadyH.cons rfl (fun K hK => ?_) AllReadyH.nil
       go_simp
       have u5 : (w5.setCell ⟨w.heap.size + 3, 5, none⟩ (.slice va vnl vn)).heap[w.heap.size + 3]? = some (.cells #[.int .i64 5, .bool false, .int .i64 0, .string ⟨#[]⟩, .slice none 0 0, .slice va vnl vn] 25) := by rw [set_block b5]; rfl
       have hs5 : ∀ z, z ≠ w.heap.size + 3 → (w5.setCell ⟨w.heap.size + 3, 5, none⟩ (.slice va vnl vn)).heap[z]? = w5.heap[z]? := fun z hz => by rw [set_other hz]
       have gs : w5.grownBy (w5.setCell ⟨w.heap.size + 3, 5, none⟩ (.slice va vnl vn)) (some (w.heap.size + 3)) := grown_set (World.grownBy.refl w5 _) 5 _
       have ms : (w5.setCell ⟨w.heap.size + 3, 5, none⟩ (.slice va vnl vn)).heap.size = w5.heap.size := by simp only [size_set1]
       generalize (w5.setCell ⟨w.heap.size + 3, 5, none⟩ (.slice va vnl vn)) = w6 at *
       have o6 : OwnC (w.heap.size + 4) 39 7 (.slice va vnl vn) ((((wtx (flt (lesK key) qs m.length) (((key, x), [.string key, .int .i64 xk, .bool xb, .int .i64 xi, .string xs, .slice xal xnl xcl, .slice xam xnm xcm]) : Mem × List Value) key qs) q).map (fun z => z.2)) ++ [[.string ekey, .int .i64 ek, .bool eb, .int .i64 ei, .string es, .slice eal enl ecl, .slice eam enm ecm]]) w6 := o5.move (fun z h1 _ => hs5 z (by omega))
       have B6 : Below (w.heap.size + 3) w3 w6 := ⟨gs.os.trans B5.os, gs.tape.trans B5.tape, gs.output.trans B5.output, by have := B5.size; omega, fun z hz => (hs5 z (by omega)).trans (B5.block z hz)⟩
       refine hK.out _ _ ⟨(hs5 _ (by omega)).trans tb5, row5.keep (hs5 bm (by omega))⟩ (fun hHeld => ?_)
       clear hK K
       (try simp only [Act.put, List.setIfInBounds_toArray, List.set_cons_zero, List.set_cons_succ])
       refine wpAnyH_done (by kernel_rfl) ?_ _
       (try dsimp only [Act.put, List.getElem_toArray, List.getElem_cons_succ, List.getElem_cons_zero, List.setIfInBounds_toArray, List.set_cons_zero, List.set_cons_succ])
       clear hHeld c5 f5
       go_wp2_with fail
       go_roundw
       case rel => exact ⟨q + 1, _, _, _, by omega, by go_num, u5, B6, by rw [HAC.out]; exact o6⟩
       case measure => simp [RowKit.intOf]; omega
      ·go_simp
       refine hK.out _ _ ⟨tbA, rowA⟩ (fun hHeld => ?_)
       clear hK K
       (try simp only [Act.put, List.setIfInBounds_toArray, List.set_cons_zero, List.set_cons_succ])
       refine wpAnyH_ready (rs := [1]) (by kernel_rfl) (by simp) ?_
       refine AllReadyH.cons rfl (fun K hK => ?_) AllReadyH.nil
       go_simp
       refine hK.out _ _ ⟨tbA, rowA⟩ (fun hHeld => ?_)
       clear hK K
       (try simp only [Act.put, List.setIfInBounds_toArray, List.set_cons_zero, List.set_cons_succ])
       refine wpAnyH_ready (rs := [8]) (by kernel_rfl) (by simp) ?_
       refine AllReadyH.cons rfl (fun K hK => ?_) AllReadyH.nil
       refine step_appM rfl (.tmp 60) (.tmp 66) rfl (w.heap.size + 4) (.slice ma mn mc) (((wtx (flt (lesK key) qs m.length) (((key, x), [.string key, .int .i64 xk, .bool xb, .int .i64 xi, .string xs, .slice xal xnl xcl, .slice xam xnm xcm]) : Mem × List Value) key qs) q).map (fun z => z.2)) rfl ownA wr.heap.size [.string ekey, .int .i64 ek, .bool eb, .int .i64 ei, .string es, .slice eal enl ecl, .slice eam enm ecm] rfl hone rfl hA (by omega) (by omega) ?_
       intro v' w5 o5 g5
       obtain ⟨va, vnl, vn, rfl⟩ : ∃ a n c, v' = .slice a n c := by obtain ⟨a, c, h⟩ := o5.slice; exact ⟨_, _, _, h⟩
       have hz5 := g5.size
       have hgn : ∀ z, z < w.heap.size + 4 → w5.heap[z]? = (wr.alloc (.cells #[.string ekey, .int .i64 ek, .bool eb, .int .i64 ei, .string es, .slice eal enl ecl, .slice eam enm ecm] 39)).drew.heap[z]? := fun z hz => g5.block z (by omega) (fun e => by have := (World.ownsRow.lt own z e.symm).1; omega)
       have b5 := (hgn (w.heap.size + 3) (by omega)).trans boxA
       have tb5 := (hgn w.heap.size (by omega)).trans tbA
       have row5 : rowAt w5 bm (om + q * 7) [.string ekey, .int .i64 ek, .bool eb, .int .i64 ei, .string es, .slice eal enl ecl, .slice eam enm ecm] := rowA.keep (hgn bm (by omega))
       have c5 : w5.cell? ⟨w.heap.size + 3, 5, none⟩ = some (.slice ma mn mc) := by rw [cell_of_block b5]; rfl
       have f5 : w5.frozen? ⟨w.heap.size + 3, 5, none⟩ = false := frozen_of_block b5 5
       have B5 : Below (w.heap.size + 3) w3 w5 := ⟨g5.os.trans bj.os, g5.tape.trans bj.tape, g5.output.trans bj.output, by have := bj.size; omega, fun z hz => (hgn z (by omega)).trans ((bA.block z (by omega)).trans (bj.block z hz))⟩
       refine hK.out _ _ ⟨tb5, row5⟩ (fun hHeld => ?_)
       clear hK K
       (try simp only [Act.put, List.setIfInBounds_toArray, List.set_cons_zero, List.set_cons_succ])
       (refine wpAnyH_take (i := 9) (v := ?_) rfl (by kernel_rfl) (by kernel_rfl) (by kernel_rfl) (fun _ _ _ h => h) (Or.inl ⟨by kernel_rfl, ?_⟩) (by assumption) ?_; rotate_left 1; (intro W0 hSw; (try dsimp only at hSw); go_simp; (try with_reducible rfl)); (try simp only [Act.put, List.setIfInBounds_toArray, List.set_cons_zero, List.set_cons_succ]))
       refine wpAnyH_ready (rs := [10]) (by kernel_rfl) (by simp) ?_
       refine AllReadyH.cons rfl (fun K hK => ?_) AllReadyH.nil
       go_simp
       have u5 : (w5.setCell ⟨w.heap.size + 3, 5, none⟩ (.slice va vnl vn)).heap[w.heap.size + 3]? = some (.cells #[.int .i64 5, .bool false, .int .i64 0, .string ⟨#[]⟩, .slice none 0 0, .slice va vnl vn] 25) := by rw [set_block b5]; rfl
       have hs5 : ∀ z, z ≠ w.heap.size + 3 → (w5.setCell ⟨w.heap.size + 3, 5, none⟩ (.slice va vnl vn)).heap[z]? = w5.heap[z]? := fun z hz => by rw [set_other hz]
       have gs : w5.grownBy (w5.setCell ⟨w.heap.size + 3, 5, none⟩ (.slice va vnl vn)) (some (w.heap.size + 3)) := grown_set (World.grownBy.refl w5 _) 5 _
       have ms : (w5.setCell ⟨w.heap.size + 3, 5, none⟩ (.slice va vnl vn)).heap.size = w5.heap.size := by simp only [size_set1]
       generalize (w5.setCell ⟨w.heap.size + 3, 5, none⟩ (.slice va vnl vn)) = w6 at *
       have o6 : OwnC (w.heap.size + 4) 39 7 (.slice va vnl vn) ((((wtx (flt (lesK key) qs m.length) (((key, x), [.string key, .int .i64 xk, .bool xb, .int .i64 xi, .string xs, .slice xal xnl xcl, .slice xam xnm xcm]) : Mem × List Value) key qs) q).map (fun z => z.2)) ++ [[.string ekey, .int .i64 ek, .bool eb, .int .i64 ei, .string es, .slice eal enl ecl, .slice eam enm ecm]]) w6 := o5.move (fun z h1 _ => hs5 z (by omega))
       have B6 : Below (w.heap.size + 3) w3 w6 := ⟨gs.os.trans B5.os, gs.tape.trans B5.tape, gs.output.trans B5.output, by have := B5.size; omega, fun z hz => (hs5 z (by omega)).trans (B5.block z hz)⟩
       refine hK.out _ _ ⟨(hs5 _ (by omega)).trans tb5, row5.keep (hs5 bm (by omega))⟩ (fun hHeld => ?_)
       clear hK K
       (try simp only [Act.put, List.setIfInBounds_toArray, List.set_cons_zero, List.set_cons_succ])
       refine wpAnyH_done (by kernel_rfl) ?_ _
       (try dsimp only [Act.put, List.getElem_toArray, List.getElem_cons_succ, List.getElem_cons_zero, List.setIfInBounds_toArray, List.set_cons_zero, List.set_cons_succ])
       clear hHeld c5 f5
       go_wp2_with fail
       go_roundw
       case rel => exact ⟨q + 1, _, _, _, by omega, by go_num, u5, B6, by rw [HAC.out]; exact o6⟩
       case measure => simp [RowKit.intOf]; omega
    ·obtain rfl : q = m.length := by omega
     have y1 : ¬ (m.length : Int) < m.length := by omega
     have hac : ((wtx (flt (lesK key) qs m.length) (((key, x), [.string key, .int .i64 xk, .bool xb, .int .i64 xi, .string xs, .slice xal xnl xcl, .slice xam xnm xcm]) : Mem × List Value) key qs) m.length).map (fun z => z.1) = witR m key x := by rw [← hql, wtx_all, hq1]
     obtain ⟨ya, yn, yb, yo, f1, f2, f3⟩ := ownM (S := S) own (fun z hz => (wtx_mem (P := PM w S) hq3 HPX.out hz).keep (fun y hy => Bz.block y (hS y hy)) (fun _ h => h))
     rw [hac] at f1 f2 f3
     have HN : Hid ((V.mk 5 false 0 ⟨#[]⟩ [] (witR m key x)).lies false wr (fun y => S y ∨ (w.heap.size ≤ y ∧ y ≠ w.heap.size + 2 ∧ y < wr.heap.size)) [.int .i64 5, .bool false, .int .i64 0, .string ⟨#[]⟩, .slice none 0 0, .slice ma mn mc]) := by
      show V.lies _ _ _ _ _
      rw [f1, V.lies]
      exact ⟨none, 0, 0, 0, ya, yn, yb, yo, rfl, ⟨by decide, by decide⟩, ⟨by decide, by decide⟩, by decide, headed_nil, f2, by rw [liesL]; trivial, liesM_keep (fun h => h) (fun _ _ => rfl) (fun z hz => hz.elim .inl (fun h => .inr ⟨by omega, by omega, h.2⟩)) _ f3, fun h => by cases h⟩
     have HE := hmk (wo_fin (M := w.heap.size + 2) (by omega) hS Bz HN.out)
     have tz := (bj.block (w.heap.size + 2) (by omega)).trans hres
     have z0 : wr.cell? ⟨w.heap.size + 2, 0, none⟩ = some (.int .i64 0) := by rw [cell_of_block tz]; rfl
     have z1 : wr.cell? ⟨w.heap.size + 2, 1, none⟩ = some (.bool false) := by rw [cell_of_block tz]; rfl
     have z2 : wr.cell? ⟨w.heap.size + 2, 2, none⟩ = some (.int .i64 0) := by rw [cell_of_block tz]; rfl
     have z3 : wr.cell? ⟨w.heap.size + 2, 3, none⟩ = some (.string ⟨#[]⟩) := by rw [cell_of_block tz]; rfl
     have z4 : wr.cell? ⟨w.heap.size + 2, 4, none⟩ = some (.slice none 0 0) := by rw [cell_of_block tz]; rfl
     have z5 : wr.cell? ⟨w.heap.size + 2, 5, none⟩ = some (.slice none 0 0) := by rw [cell_of_block tz]; rfl
     have fz := frozen_of_block tz
     have v0 : wr.cell? ⟨w.heap.size + 3, 0, none⟩ = some (.int .i64 5) := by rw [cell_of_block hbox]; rfl
     have v1 : wr.cell? ⟨w.heap.size + 3, 1, none⟩ = some (.bool false) := by rw [cell_of_block hbox]; rfl
     have v2 : wr.cell? ⟨w.heap.size + 3, 2, none⟩ = some (.int .i64 0) := by rw [cell_of_block hbox]; rfl
     have v3 : wr.cell? ⟨w.heap.size + 3, 3, none⟩ = some (.string ⟨#[]⟩) := by rw [cell_of_block hbox]; rfl
     have v4 : wr.cell? ⟨w.heap.size + 3, 4, none⟩ = some (.slice none 0 0) := by rw [cell_of_block hbox]; rfl
     have v5 : wr.cell? ⟨w.heap.size + 3, 5, none⟩ = some (.slice ma mn mc) := by rw [cell_of_block hbox]; rfl
     clear HN own f1 hac
     go_wp2_with fail
     (try simp only [Exit.inBlock, Exit.then])
     refine bodyPost_ret (v := .agg #[.int .i64 5, .bool false, .int .i64 0, .string ⟨#[]⟩, .slice none 0 0, .slice ma mn mc]) ?_ rfl ?_
     rotate_left
     ·exact ⟨[.int .i64 5, .bool false, .int .i64 0, .string ⟨#[]⟩, .slice none 0 0, .slice ma mn mc], rfl, HE.out.1, HE.out.2⟩
     ·rw [results_cell1 rfl]
      go_simp
end Go.Proofs.YtjfldbmopjojdabDoor
