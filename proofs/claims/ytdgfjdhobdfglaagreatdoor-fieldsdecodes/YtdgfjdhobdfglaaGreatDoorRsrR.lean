import Derived.Test.YtdgfjdhobdfglaaGreatDoorG32
set_option linter.unusedSimpArgs false
set_option linter.unusedVariables false
set_option maxRecDepth 100000
namespace Go.Proofs.YtdgfjdhobdfglaaGreatDoor
open Go.RowKit Go.Lib
def RoPost (l : List (List El)) (S : Nat -> Prop) (w : World) (e : Ending) (w' : World) : Prop :=
 Below w.heap.size w w' /\ (((∀ p ∈ l, pathB p = true) /\ ∃ (R : List (List El)) (a : Option Addr) (c b o : Nat), Rs l R /\ e = .returned (.tuple #[.slice a R.length c, .int .i64 0]) /\ Headed a R.length c b o /\ liesQ w' (Tw S w w') R b o) \/ ((¬ ∀ p ∈ l, pathB p = true) /\ e = .returned (.tuple #[.slice none 0 0, .int .i64 90])))
theorem cmpP_oe {a b : List El} (ha : pathB a = true) (hb : pathB b = true) : cmpP a b = lexL oeE a b := by rw [cmpP_yes ha hb, op_rp (pathB_all ha).2 (pathB_all hb).2]
set_option maxHeartbeats 16000000 in
theorem rsort_any (l : List (List El)) (S : Nat -> Prop) (al : Option Addr) (cl bl ol : Nat) (w : World) (hal : Headed al l.length cl bl ol) (hl : liesQ w S l bl ol) (hS : ∀ b, S b -> b < w.heap.size) (hwt : l.length <= 2147483647) (hwq : ∀ p ∈ l, wtP p <= 2147483647) :
 Calls Tryz.prog 16 #[.slice al l.length cl] w (RoPost l S w) := by
 have HL := hmk hl
 have HS := hmk hS
 have HWQ := hmk hwq
 clear hl hwq
 obtain ⟨i0, hi0, hz0, hz1, hz2⟩ := info_parts info33
 have hI : Hid (Tryz.prog.info? 46 = some i0 /\ i0.zero = some (.slice none 0 0) /\ i0.size = 1 /\ i0.bytes = 24) := ⟨hi0, hz0, hz1, hz2⟩
 clear hi0 hz0 hz1 hz2
 go_enter Tryz.func16, Tryz.ntmps16
 go_wp2_with fail
 go_loopw [4, 5] (fun e4 e5 wr => ∃ (j : Nat) (R : List (PC w S)) (ov : Value), j <= l.length /\ e4 = ov /\ e5 = .int .i64 (j : Int) /\ Below w.heap.size w wr /\ Hid (∀ p ∈ l.take j, pathB p = true) /\ Hid (Rs (l.take j) (R.map PC.p)) /\ Hid (wr.ownsRow w.heap.size 46 1 ov R.length (R.map PC.enc)) /\ R.length <= j) (fun _ e5 _ => l.length - (RowKit.intOf e5).toNat)
 case atStart => exact ⟨0, [], _, by omega, rfl, rfl, Below.refl _ _, (by intro p hp; simp at hp), (by show Rs _ _; exact ⟨by simp, by simp⟩), World.ownsRow_nil _ _ _ _, Nat.le_refl _⟩
 case round =>
  obtain ⟨j, R, ov, hj, rfl, rfl, bj, HG, HRS, OR, hRj⟩ := hrel
  have hzr := bj.size
  by_cases hjl : j < l.length
  case neg =>
   obtain rfl : j = l.length := by omega
   have y3 : ¬ (l.length : Int) < l.length := by omega
   have HG' : Hid (∀ p ∈ l, pathB p = true) := by have := HG.out; rwa [List.take_length] at this
   have HR' : Hid (Rs l (R.map PC.p)) := by have := HRS.out; rwa [List.take_length] at this
   obtain ⟨sa, sc, sb, so, rfl, hdl, hLs⟩ := own_lies (T := Tw S w wr) OR.out (fun b hb => bj.block b (hS b hb)) (fun b hb => .inl hb) (fun g h1 h2 => .inr ⟨h1, h2⟩)
   have HLs := hmk hLs
   have HHd := hmk hdl
   generalize R.map PC.p = RR at *
   clear hLs OR HG HRS hdl
   go_wp2_with fail
   go_ret2
   exact ⟨bj, .inl ⟨HG'.out, RR, sa, sc, sb, so, HR'.out, rfl, HHd.out, HLs.out⟩⟩
  have y3 : (j : Int) < l.length := by omega
  obtain ⟨hSb, v, hv, aq, cq, bq, oq, rfl, hhq, hlq⟩ := HL.out j hjl
  obtain rfl : al = some ⟨bl, ol, none⟩ := hal.at_.resolve_left (by omega)
  have hkw : ∀ b, S b -> wr.heap[b]? = w.heap[b]? := fun b hb => bj.block b (hS b hb)
  have rq : wr.cell? ⟨bl, ol + j, none⟩ = some (.slice aq (l[j]).length cq) := (World.cell?_of_block (w := w) (a := ⟨bl, ol + j, none⟩) (hkw _ hSb)).trans hv
  have hwj : wtP l[j] <= 2147483647 := HWQ.out _ (List.getElem_mem hjl)
  have HTP : Hid (l.take (j + 1) = l.take j ++ [l[j]]) := by show _ = _; rw [List.take_succ_eq_append_getElem hjl]
  have c := hmk (rpcheck_any l[j] S aq cq bq oq wr hhq (liesP_keep hkw (fun _ h => h) hlq) (fun b hb => Nat.lt_of_lt_of_le (hS b hb) hzr) hwj)
  have CQ : Hid (∀ y : PC w S, pathB l[j] = true -> pathB y.p = true -> wtP y.p <= 2147483647 -> ∀ W, Below w.heap.size w W -> Calls Tryz.prog 26 #[.slice aq (l[j]).length cq, y.enc] W (JPost (lexL oeE l[j] y.p) W)) := fun y h1 h2 h3 W hb => by
   have := rcmpP_any l[j] y.p S S aq cq bq oq y.ao y.cap y.b y.o W hhq (liesP_keep (fun b h => hb.block b (HS.out b h)) (fun _ h => h) hlq) y.hh (liesP_keep (fun b h => hb.block b (HS.out b h)) (fun _ h => h) y.hl) (fun b h => Nat.lt_of_lt_of_le (HS.out b h) hb.size) (fun b h => Nat.lt_of_lt_of_le (HS.out b h) hb.size) hwj h3
   rw [cmpP_oe h1 h2] at this
   exact this
  obtain ⟨X, hXp, hXe⟩ : ∃ X : PC w S, X.p = l[j] /\ X.enc = .slice aq (l[j]).length cq := ⟨⟨l[j], aq, cq, bq, oq, hhq, hlq⟩, rfl, rfl⟩
  have HX : Hid (X.p = l[j] /\ X.enc = .slice aq (l[j]).length cq) := ⟨hXp, hXe⟩
  have HMEM : Hid (∀ y ∈ R, y.p ∈ l) := fun y hy => List.mem_of_mem_take ((HRS.out.2 _).1 (List.mem_map_of_mem hy))
  have HWT : Hid (∀ y ∈ R, wtP y.p <= 2147483647) := fun y hy => HWQ.out _ (HMEM.out y hy)
  have HPB : Hid (∀ y ∈ R, pathB y.p = true) := fun y hy => HG.out _ ((HRS.out.2 _).1 (List.mem_map_of_mem hy))
  have HMJ : Hid (l[j] ∈ l) := List.getElem_mem hjl
  clear hXp hXe hv hlq hhq hkw hwj HMEM
  cases hp : pathB l[j] with
  | false =>
   have ya : (((errP l[j] : Nat) : Int) != 0) = true := by rw [errP_no hp]; rfl
   have HN : Hid (¬ ∀ p ∈ l, pathB p = true) := fun h => by rw [h _ HMJ.out] at hp; cases hp
   generalize errP l[j] = Ea at *
   clear hp CQ HX HTP HWT HPB OR HRS
   generalize l[j] = pj at *
   go_wp2_with fail
   refine c.out.mono ?_
   rintro e w1 ⟨rfl, b1⟩
   go_wp2_with fail
   go_ret2
   exact ⟨bj.trans (b1.mono hzr), .inr ⟨HN.out, rfl⟩⟩
  | true =>
   have ya : (((errP l[j] : Nat) : Int) != 0) = false := by rw [errP_yes hp]; rfl
   have HG2 : Hid (∀ p ∈ l.take (j + 1), pathB p = true) := fun p h => by
    rw [HTP.out, List.mem_append, List.mem_singleton] at h
    rcases h with h | rfl
    ·exact HG.out p h
    ·exact hp
   have HPJ := hmk hp
   generalize errP l[j] = Ea at *
   clear hp HG HMJ
   generalize l[j] = pj at *
   have CC0 : Hid (∀ (i : Nat) (hi : i < R.length) W, Below w.heap.size w W -> Calls Tryz.prog 26 #[.slice aq pj.length cq, (R[i]).enc] W (JPost (lexL oeE pj (R[i]).p) W)) := fun i hi W hb => CQ.out R[i] HPJ.out (HPB.out _ (List.getElem_mem hi)) (HWT.out _ (List.getElem_mem hi)) W hb
   clear CQ HWT
   go_wp2_with fail
   refine c.out.mono ?_
   rintro e w1 ⟨rfl, b1⟩
   have B1 := bj.trans (b1.mono hzr)
   have rq1 : w1.cell? ⟨bl, ol + j, none⟩ = some (.slice aq pj.length cq) := (b1.cell (p := ⟨bl, ol + j, none⟩) (World.block_lt_of_cell? wr _ rq)).trans rq
   have O1 := hmk (own_below OR.out b1)
   clear c rq OR b1 bj hzr
   rcases own_form O1.out with ⟨rfl, hR0⟩ | ⟨g, cap, rfl⟩
   ·-- nothing stands there
    go_wp2_with fail
    go_loopw [6] (fun e6 wr => e6 = .int .i64 0 /\ Below w.heap.size w wr /\ wr.cell? ⟨bl, ol + j, none⟩ = some (.slice aq pj.length cq)) (fun _ _ => 0)
    case atStart => exact ⟨by simp, B1, rq1⟩
    case round =>
     clear rq1 B1 O1
     obtain ⟨rfl, BR, rq⟩ := hrel
     have INSP : Hid (Rs (l.take j ++ [pj]) ((R.map PC.p).take 0 ++ [pj] ++ (R.map PC.p).drop 0)) := rs_ins HRS.out (Nat.zero_le _) (fun i hi => by rw [List.length_map, hR0] at hi; omega) (fun h => by omega)
     go_wp2_with fail
     refine wp_region_sub wr.heap.size (by kernel_rfl) (by kernel_rfl) ?_
     repeat (go_big_quiet_step (fail))
     refine wpQuiet_nil ?_
     rintro wr2 ⟨⟨wr2', bq⟩, hq⟩
     have hq' : wr2 = wr2' := hq
     subst hq'
     clear hq
     have BR1 := BR.trans (bq.mono BR.size)
     have rq1 : wr2.cell? ⟨bl, ol + j, none⟩ = some (.slice aq pj.length cq) := (bq.cell (p := ⟨bl, ol + j, none⟩) (World.block_lt_of_cell? wr _ rq)).trans rq
     clear BR bq rq
     go_wp2_with fail
     refine wp_region_sub wr2.heap.size (by kernel_rfl) (by kernel_rfl) ?_
     repeat (go_big_quiet_step (fail))
     refine wpQuiet_nil ?_
     rintro wq ⟨⟨wq', bq⟩, hq⟩
     have hq' : wq = wq' := hq
     subst hq'
     clear hq
     have BQ := hmk (BR1.trans (bq.mono BR1.size))
     have rq : wq.cell? ⟨bl, ol + j, none⟩ = some (.slice aq pj.length cq) := (bq.cell (p := ⟨bl, ol + j, none⟩) (World.block_lt_of_cell? wr2 _ rq1)).trans rq1
     have hzq : w.heap.size <= wq.heap.size := BQ.out.size
     clear BR1 rq1 bq
     have hbase := Nat.le_refl wq.heap.size
     go_wp2_with (at_builtin; go_loud (refine wpl_catP rfl (.tmp 54) (.tmp 57) 28 rfl wq.heap.size 46 i0 _ 1 24 Tryz.underlying28 hI.out.1 hI.out.2.1 hI.out.2.2.1 hI.out.2.2.2 rfl (by decide) (by decide) (.slice none 0 0) 0 [] rfl (World.ownsRow_nil wq _ 46 1) none 0 0 0 0 rfl ⟨Nat.le_refl _, by simp [maxLen], .inl rfl, fun _ => rfl⟩ [] (by simp) (fun j u hu => by simp at hu) (fun u hu => by simp at hu) (by omega) hbase ?_))
     intro v1 w1 o1 g1
     have K1 : Hid (∀ x, x < wq.heap.size -> w1.heap[x]? = wq.heap[x]?) := fun x hx => g1.block x hx (by simp [Value.ownBlock])
     have hz1 := g1.size
     have r1 : w1.cell? ⟨bl, ol + j, none⟩ = some (.slice aq pj.length cq) := (World.cell?_of_block (w := wq) (a := ⟨bl, ol + j, none⟩) (K1.out bl (World.block_lt_of_cell? wq _ rq))).trans rq
     have B1 : Hid (Below w.heap.size w w1) := BQ.out.grown g1 (by omega) (fun r e => by simp [Value.ownBlock] at e)
     have hv1 : Hid (∀ r, v1.ownBlock = some r -> wq.heap.size <= r /\ r < w1.heap.size) := fun r hr => o1.lt r hr
     have O1 := hmk o1
     clear o1 g1
     have hal1 := alloc_size w1 (.cells #[.slice aq pj.length cq] 46)
     have hne1 := heap_alloc_new w1 (.cells #[.slice aq pj.length cq] 46)
     have CLX : Hid (∀ j u, [Value.slice aq pj.length cq][j]? = some u -> (w1.alloc (.cells #[.slice aq pj.length cq] 46)).cell? ⟨w1.heap.size, 0 + j, none⟩ = some u) := fun j u hu => by
      rw [Nat.zero_add, cell_of_block hne1]
      rw [<- hu]
      rw [<- Array.getElem?_toList]
     have gal : Hid (w1.grownBy (w1.alloc (.cells #[.slice aq pj.length cq] 46)) none) := World.grownBy_alloc _ _ _
     go_wp2_with (at_builtin; go_loud (refine wpl_catP rfl (.tmp 59) (.tmp 64) 28 rfl wq.heap.size 46 i0 _ 1 24 Tryz.underlying28 hI.out.1 hI.out.2.1 hI.out.2.2.1 hI.out.2.2.2 rfl (by decide) (by decide) v1 _ _ rfl (own_keep O1.out gal.out (fun r e => by cases e)) (some ⟨w1.heap.size, 0, none⟩) 1 1 w1.heap.size 0 rfl ⟨Nat.le_refl _, by simp [maxLen], .inr rfl, fun h => by cases h⟩ [.slice aq pj.length cq] rfl CLX.out oneQ (by omega) (by omega) ?_))
     intro v2 w2 o2 g2
     have hz2 := g2.size
     have K2 : ∀ x, x < wq.heap.size -> w2.heap[x]? = wq.heap[x]? := fun x hx => by
      rw [g2.block x (by omega) (fun e => by have := (hv1.out x e.symm).1; omega), gal.out.block x (by omega) (by simp), K1.out x hx]
     have KH := hmk K2
     have B2 : Hid (Below w.heap.size w w2) := (B1.out.grown gal.out (by omega) (fun r e => by cases e)).grown g2 (by omega) (fun r e => by have := (hv1.out r e).1; omega)
     have hv2 : Hid (∀ r, v2.ownBlock = some r -> wq.heap.size <= r /\ r < w2.heap.size) := fun r hr => o2.lt r hr
     have O2 := hmk o2
     clear o2 g2 K2 r1 O1 B1 gal hne1
     go_wp2_with (at_builtin; go_loud (refine wpl_catP rfl (.tmp 66) (.tmp 69) 28 rfl wq.heap.size 46 i0 _ 1 24 Tryz.underlying28 hI.out.1 hI.out.2.1 hI.out.2.2.1 hI.out.2.2.2 rfl (by decide) (by decide) v2 _ _ rfl O2.out none 0 0 0 0 rfl ⟨Nat.le_refl _, by simp [maxLen], .inl rfl, fun _ => rfl⟩ [] (by simp) (fun j u hu => by simp at hu) (fun u hu => by simp at hu) (by omega) (by omega) ?_))
     intro v3 w3 o3 g3
     have hz3 := g3.size
     have B3 : Hid (Below w.heap.size w w3) := B2.out.grown g3 (by omega) (fun r e => by have := (hv2.out r e).1; omega)
     have O3 : Hid (w3.ownsRow w.heap.size 46 1 v3 (R.take 0 ++ [X] ++ R.drop 0).length ((R.take 0 ++ [X] ++ R.drop 0).map PC.enc)) := by
      have := own_base o3 (show w.heap.size <= wq.heap.size by omega)
      have e : R = [] := List.length_eq_zero_iff.1 hR0
      subst e
      show World.ownsRow _ _ _ _ _ _ _
      simpa [HX.out.2] using this
     have HRS2 : Hid (Rs (l.take (j + 1)) ((R.take 0 ++ [X] ++ R.drop 0).map PC.p)) := by
      show Rs _ _
      rw [HTP.out]
      have := INSP.out
      simpa [List.map_take, List.map_drop, HX.out.1] using this
     have hlen2 : (R.take 0 ++ [X] ++ R.drop 0).length <= j + 1 := by simp [List.length_take, List.length_drop]; omega
     clear o3 g3 O2 B2 INSP KH
     go_wp2_with fail
     go_roundw
     case rel => exact ⟨j + 1, _, _, by omega, rfl, by go_num, B3.out, HG2, HRS2, O3, hlen2⟩
     case measure => simp [RowKit.intOf]; omega
   ·have hof := own_facts O1.out
    have hcm := hof.2.2.2
    have hcl := hof.2.2.1
    have hgw := hof.1
    clear hof
    have hcap9 : cap <= 9223372036854775807 := Nat.le_trans hcm (by decide)
    go_wp2_with fail
    go_loopw [6] (fun e6 wr => ∃ k : Nat, k <= R.length /\ e6 = .int .i64 (k : Int) /\ Below w.heap.size w wr /\ wr.cell? ⟨bl, ol + j, none⟩ = some (.slice aq pj.length cq) /\ Hid (wr.ownsRow w.heap.size 46 1 (.slice (some ⟨g, 0, none⟩) R.length cap) R.length (R.map PC.enc)) /\ Hid (∀ i, (hi : i < R.length) -> k <= i -> lexL oeE pj (R[i]).p < 0)) (fun e6 _ => (RowKit.intOf e6).toNat)
    case atStart => exact ⟨R.length, Nat.le_refl _, rfl, B1, rq1, O1, fun i hi h => by omega⟩
    case round =>
     clear rq1 B1 O1
     obtain ⟨k, hk, rfl, BR, rq, OQ, HLOW⟩ := hrel
     have hzr := BR.size
     by_cases hk0 : 0 < k
     case neg =>
      obtain rfl : k = 0 := by omega
      have INSP : Hid (Rs (l.take j ++ [pj]) ((R.map PC.p).take 0 ++ [pj] ++ (R.map PC.p).drop 0)) := rs_ins HRS.out (Nat.zero_le _) (fun i hi h => by rw [List.getElem_map]; exact HLOW.out i (by simpa using hi) h) (fun h => by omega)
      go_wp2_with fail
      refine wp_region_sub wr.heap.size (by kernel_rfl) (by kernel_rfl) ?_
      repeat (go_big_quiet_step (fail))
      refine wpQuiet_nil ?_
      rintro wr2 ⟨⟨wr2', bq⟩, hq⟩
      have hq' : wr2 = wr2' := hq
      subst hq'
      clear hq
      have BR1 := BR.trans (bq.mono BR.size)
      have rq1 : wr2.cell? ⟨bl, ol + j, none⟩ = some (.slice aq pj.length cq) := (bq.cell (p := ⟨bl, ol + j, none⟩) (World.block_lt_of_cell? wr _ rq)).trans rq
      have OQ1 := hmk (own_below OQ.out bq)
      clear BR bq rq OQ
      go_wp2_with fail
      refine wp_region_sub wr2.heap.size (by kernel_rfl) (by kernel_rfl) ?_
      repeat (go_big_quiet_step (fail))
      refine wpQuiet_nil ?_
      rintro wq ⟨⟨wq', bq⟩, hq⟩
      have hq' : wq = wq' := hq
      subst hq'
      clear hq
      have BQ := hmk (BR1.trans (bq.mono BR1.size))
      have rq : wq.cell? ⟨bl, ol + j, none⟩ = some (.slice aq pj.length cq) := (bq.cell (p := ⟨bl, ol + j, none⟩) (World.block_lt_of_cell? wr2 _ rq1)).trans rq1
      have OQ := hmk (own_below OQ1.out bq)
      have hgq := (own_facts OQ.out).2.1
      have hzq : w.heap.size <= wq.heap.size := BQ.out.size
      clear BR1 rq1 bq OQ1
      have CL1 : Hid (∀ j u, ((R.take 0).map PC.enc)[j]? = some u -> wq.cell? ⟨g, 0 + j, none⟩ = some u) := fun j u hu => by
       rw [Nat.zero_add]
       refine own_cell OQ.out ?_
       rw [List.getElem?_map] at hu ⊢
       rw [List.getElem?_take] at hu
       split at hu
       ·exact hu
       ·cases hu
      have CL3 : Hid (∀ W : World, (∀ x, x < wq.heap.size -> W.heap[x]? = wq.heap[x]?) -> ∀ j u, ((R.drop 0).map PC.enc)[j]? = some u -> W.cell? ⟨g, 0 + j, none⟩ = some u) := fun W hW j u hu => by
       rw [World.cell?_of_block (w := wq) (a := ⟨g, 0 + j, none⟩) (hW g hgq)]
       refine own_cell OQ.out ?_
       rw [List.getElem?_map] at hu ⊢
       rw [List.getElem?_drop] at hu
       exact hu
      have hbase := Nat.le_refl wq.heap.size
      go_wp2_with (at_builtin; go_loud (refine wpl_catP rfl (.tmp 54) (.tmp 57) 28 rfl wq.heap.size 46 i0 _ 1 24 Tryz.underlying28 hI.out.1 hI.out.2.1 hI.out.2.2.1 hI.out.2.2.2 rfl (by decide) (by decide) (.slice none 0 0) 0 [] rfl (World.ownsRow_nil wq _ 46 1) (some ⟨g, 0, none⟩) 0 cap g 0 rfl ⟨by omega, hcm, .inr rfl, fun h => by cases h⟩ ((R.take 0).map PC.enc) (by rw [List.length_map, List.length_take]; omega) CL1.out enc_one (by omega) hbase ?_))
      intro v1 w1 o1 g1
      have K1 : Hid (∀ x, x < wq.heap.size -> w1.heap[x]? = wq.heap[x]?) := fun x hx => g1.block x hx (by simp [Value.ownBlock])
      have hz1 := g1.size
      have r1 : w1.cell? ⟨bl, ol + j, none⟩ = some (.slice aq pj.length cq) := (World.cell?_of_block (w := wq) (a := ⟨bl, ol + j, none⟩) (K1.out bl (World.block_lt_of_cell? wq _ rq))).trans rq
      have B1 : Hid (Below w.heap.size w w1) := BQ.out.grown g1 (by omega) (fun r e => by simp [Value.ownBlock] at e)
      have hv1 : Hid (∀ r, v1.ownBlock = some r -> wq.heap.size <= r /\ r < w1.heap.size) := fun r hr => o1.lt r hr
      have O1 := hmk o1
      clear o1 g1
      have hal1 := alloc_size w1 (.cells #[.slice aq pj.length cq] 46)
      have hne1 := heap_alloc_new w1 (.cells #[.slice aq pj.length cq] 46)
      have CLX : Hid (∀ j u, [Value.slice aq pj.length cq][j]? = some u -> (w1.alloc (.cells #[.slice aq pj.length cq] 46)).cell? ⟨w1.heap.size, 0 + j, none⟩ = some u) := fun j u hu => by
       rw [Nat.zero_add, cell_of_block hne1]
       rw [<- hu]
       rw [<- Array.getElem?_toList]
      have gal : Hid (w1.grownBy (w1.alloc (.cells #[.slice aq pj.length cq] 46)) none) := World.grownBy_alloc _ _ _
      go_wp2_with (at_builtin; go_loud (refine wpl_catP rfl (.tmp 59) (.tmp 64) 28 rfl wq.heap.size 46 i0 _ 1 24 Tryz.underlying28 hI.out.1 hI.out.2.1 hI.out.2.2.1 hI.out.2.2.2 rfl (by decide) (by decide) v1 _ _ rfl (own_keep O1.out gal.out (fun r e => by cases e)) (some ⟨w1.heap.size, 0, none⟩) 1 1 w1.heap.size 0 rfl ⟨Nat.le_refl _, by simp [maxLen], .inr rfl, fun h => by cases h⟩ [.slice aq pj.length cq] rfl CLX.out oneQ (by omega) (by omega) ?_))
      intro v2 w2 o2 g2
      have hz2 := g2.size
      have K2 : ∀ x, x < wq.heap.size -> w2.heap[x]? = wq.heap[x]? := fun x hx => by
       rw [g2.block x (by omega) (fun e => by have := (hv1.out x e.symm).1; omega), gal.out.block x (by omega) (by simp), K1.out x hx]
      have KH := hmk K2
      have B2 : Hid (Below w.heap.size w w2) := (B1.out.grown gal.out (by omega) (fun r e => by cases e)).grown g2 (by omega) (fun r e => by have := (hv1.out r e).1; omega)
      have hv2 : Hid (∀ r, v2.ownBlock = some r -> wq.heap.size <= r /\ r < w2.heap.size) := fun r hr => o2.lt r hr
      have O2 := hmk o2
      clear o2 g2 K2 r1 O1 B1 gal hne1
      go_wp2_with (at_builtin; go_loud (refine wpl_catP rfl (.tmp 66) (.tmp 69) 28 rfl wq.heap.size 46 i0 _ 1 24 Tryz.underlying28 hI.out.1 hI.out.2.1 hI.out.2.2.1 hI.out.2.2.2 rfl (by decide) (by decide) v2 _ _ rfl O2.out (some ⟨g, 0, none⟩) (R.length - 0) (cap - 0) g 0 rfl ⟨by omega, by omega, .inr rfl, fun h => by cases h⟩ ((R.drop 0).map PC.enc) (by rw [List.length_map, List.length_drop]; omega) (CL3.out w2 KH.out) enc_one (by omega) (by omega) ?_))
      intro v3 w3 o3 g3
      have hz3 := g3.size
      have B3 : Hid (Below w.heap.size w w3) := B2.out.grown g3 (by omega) (fun r e => by have := (hv2.out r e).1; omega)
      have O3 : Hid (w3.ownsRow w.heap.size 46 1 v3 (R.take 0 ++ [X] ++ R.drop 0).length ((R.take 0 ++ [X] ++ R.drop 0).map PC.enc)) := by
       have := own_base o3 (show w.heap.size <= wq.heap.size by omega)
       have e1 : (R.take 0 ++ [X] ++ R.drop 0).length = 0 + 0 + 1 + (R.length - 0) := by simp [List.length_take, List.length_drop]; omega
       have e2 : (R.take 0 ++ [X] ++ R.drop 0).map PC.enc = [] ++ (R.take 0).map PC.enc ++ [.slice aq pj.length cq] ++ (R.drop 0).map PC.enc := by simp [HX.out.2]
       show World.ownsRow _ _ _ _ _ _ _
       rw [e1, e2]
       first
       | exact this
       | simpa [List.map_take, List.map_drop] using this
      have HRS2 : Hid (Rs (l.take (j + 1)) ((R.take 0 ++ [X] ++ R.drop 0).map PC.p)) := by
       show Rs _ _
       rw [HTP.out]
       have := INSP.out
       simpa [List.map_take, List.map_drop, HX.out.1] using this
      have hlen2 : (R.take 0 ++ [X] ++ R.drop 0).length <= j + 1 := by simp [List.length_take, List.length_drop]; omega
      clear o3 g3 O2 B2 INSP KH
      go_wp2_with fail
      go_roundw
      case rel => exact ⟨j + 1, _, _, by omega, rfl, by go_num, B3.out, HG2, HRS2, O3, hlen2⟩
      case measure => simp [RowKit.intOf]; omega
     have y5 : (0 : Int) < (k : Int) := by omega
     have hk1 : k - 1 < R.length := by omega
     have y6 : ((k : Int) - 1) = ((k - 1 : Nat) : Int) := by omega
     have y7 : ((k - 1 : Nat) : Int) < (R.length : Int) := by omega
     have c1 : wr.cell? ⟨g, k - 1, none⟩ = some (R[k - 1]'hk1).enc := own_cell OQ.out (by rw [List.getElem?_map, List.getElem?_eq_getElem hk1]; rfl)
     have CC := hmk (CC0.out (k - 1) hk1)
     have HYE : ∃ a n c, (R[k - 1]'hk1).enc = .slice a n c := ⟨_, _, _, rfl⟩
     have HZ0 : Hid (lexL oeE pj (R[k - 1]'hk1).p = lexL oeE pj ((R.map PC.p)[k - 1]!)) := by show _ = _; rw [getElem!_pos _ (k - 1) (by simpa using hk1), List.getElem_map]
     have HZS : Hid (lexL oeE pj (R[k - 1]'hk1).p = 0 -> pj ∈ R.map PC.p) := fun h => by
      rw [(path_same HPJ.out (HPB.out _ (List.getElem_mem hk1))).1 h]
      exact List.mem_map_of_mem (List.getElem_mem hk1)
     have HZL : Hid (lexL oeE pj (R[k - 1]'hk1).p < 0 -> ∀ i, (hi : i < R.length) -> k - 1 <= i -> lexL oeE pj (R[i]).p < 0) := fun h i hi hki => by
      by_cases e : i = k - 1
      ·subst e; exact h
      ·exact HLOW.out i hi (by omega)
     generalize (R[k - 1]'hk1).enc = ye at *
     generalize lexL oeE pj (R[k - 1]'hk1).p = Z at *
     obtain ⟨ya, yl, yc, rfl⟩ := HYE
     have p0 : ∀ x : Sub wr.heap.size wr, _ := sub_cell rq (World.block_lt_of_cell? wr _ rq)
     have p1 : ∀ x : Sub wr.heap.size wr, _ := sub_cell c1 (World.block_lt_of_cell? wr _ c1)
     have CI1 : Hid (∀ x : Sub wr.heap.size wr, Calls Tryz.prog 26 #[.slice aq pj.length cq, .slice ya yl yc] x.w fun e w'' => e = .returned (.int .i64 Z) /\ ∃ y : Sub wr.heap.size wr, w'' = y.w) := sub_call fun w' hb => CC.out w' (BR.trans (hb.mono BR.size)) |>.mono fun e w'' h => ⟨h.1, hb.trans (h.2.mono hb.size)⟩
     go_wp2_with fail
     refine wp_region_sub wr.heap.size (by kernel_rfl) (by kernel_rfl) ?_
     repeat (go_big_quiet_step (exact CI1.out _))
     refine wpQuiet_nil ?_
     rintro wr2 ⟨⟨wr2', bq⟩, hq⟩
     have hq' : wr2 = wr2' := hq
     subst hq'
     clear hq p0 p1 CI1
     have BR1 := BR.trans (bq.mono BR.size)
     have rq1 : wr2.cell? ⟨bl, ol + j, none⟩ = some (.slice aq pj.length cq) := (bq.cell (p := ⟨bl, ol + j, none⟩) (World.block_lt_of_cell? wr _ rq)).trans rq
     have OQ1 := hmk (own_below OQ.out bq)
     have c2 : wr2.cell? ⟨g, k - 1, none⟩ = some (.slice ya yl yc) := (bq.cell (p := ⟨g, k - 1, none⟩) (World.block_lt_of_cell? wr _ c1)).trans c1
     clear BR bq rq OQ c1
     by_cases hZ : Z < 0
     ·go_wp2_with fail
      go_roundw
      case rel => exact ⟨k - 1, by omega, by go_num, BR1, rq1, OQ1, HZL.out hZ⟩
      case measure => simp [RowKit.intOf]; omega
     have p0 : ∀ x : Sub wr2.heap.size wr2, _ := sub_cell rq1 (World.block_lt_of_cell? wr2 _ rq1)
     have p1 : ∀ x : Sub wr2.heap.size wr2, _ := sub_cell c2 (World.block_lt_of_cell? wr2 _ c2)
     have CI1 : Hid (∀ x : Sub wr2.heap.size wr2, Calls Tryz.prog 26 #[.slice aq pj.length cq, .slice ya yl yc] x.w fun e w'' => e = .returned (.int .i64 Z) /\ ∃ y : Sub wr2.heap.size wr2, w'' = y.w) := sub_call fun w' hb => (CC.out w' (BR1.trans (hb.mono BR1.size))).mono fun e w'' h => ⟨h.1, hb.trans (h.2.mono hb.size)⟩
     go_wp2_with fail
     refine wp_region_sub wr2.heap.size (by kernel_rfl) (by kernel_rfl) ?_
     repeat (go_big_quiet_step (exact CI1.out _))
     refine wpQuiet_nil ?_
     rintro wq ⟨⟨wq', bq⟩, hq⟩
     have hq' : wq = wq' := hq
     subst hq'
     clear hq p0 p1 CI1
     have BQ := hmk (BR1.trans (bq.mono BR1.size))
     have rq : wq.cell? ⟨bl, ol + j, none⟩ = some (.slice aq pj.length cq) := (bq.cell (p := ⟨bl, ol + j, none⟩) (World.block_lt_of_cell? wr2 _ rq1)).trans rq1
     have OQ := hmk (own_below OQ1.out bq)
     have hgq := (own_facts OQ.out).2.1
     have hzq : w.heap.size <= wq.heap.size := BQ.out.size
     clear BR1 rq1 bq OQ1 c2 CC HZL
     by_cases hZ0 : Z = 0
     ·have y8 : (Z == 0) = true := by rw [hZ0]; rfl
      have HRS2 : Hid (Rs (l.take (j + 1)) (R.map PC.p)) := by show Rs _ _; rw [HTP.out]; exact rs_same HRS.out (HZS.out hZ0)
      clear hZ hZ0 HZ0 HZS HLOW
      go_wp2_with fail
      go_roundw
      case rel => exact ⟨j + 1, R, _, by omega, rfl, by go_num, BQ.out, HG2, HRS2, OQ, by omega⟩
      case measure => simp [RowKit.intOf]; omega
     have y8 : (Z == 0) = false := beq_eq_false_iff_ne.2 hZ0
     have INSP : Hid (Rs (l.take j ++ [pj]) ((R.map PC.p).take k ++ [pj] ++ (R.map PC.p).drop k)) := rs_ins HRS.out (by simpa using hk) (fun i hi h => by rw [List.getElem_map]; exact HLOW.out i (by simpa using hi) h) (fun _ => by rw [<- HZ0.out]; omega)
     have y9 : (k : Int) <= cap := by omega
     have y10 : (k : Int) <= R.length := by omega
     clear hZ hZ0 HZ0 HZS HLOW
     by_cases hkc : k = cap
     ·have y11 : (cap : Int) - k = 0 := by omega
      have hRk : R.length <= k := by omega
      subst hkc
      clear y11
      have CL1 : Hid (∀ j u, ((R.take k).map PC.enc)[j]? = some u -> wq.cell? ⟨g, 0 + j, none⟩ = some u) := fun j u hu => by
       rw [Nat.zero_add]
       refine own_cell OQ.out ?_
       rw [List.getElem?_map] at hu ⊢
       rw [List.getElem?_take] at hu
       split at hu
       ·exact hu
       ·cases hu
      have CL3 : Hid (∀ W : World, (∀ x, x < wq.heap.size -> W.heap[x]? = wq.heap[x]?) -> ∀ j u, ((R.drop k).map PC.enc)[j]? = some u -> W.cell? ⟨g, k + j, none⟩ = some u) := fun W hW j u hu => by
       rw [World.cell?_of_block (w := wq) (a := ⟨g, k + j, none⟩) (hW g hgq)]
       refine own_cell OQ.out ?_
       rw [List.getElem?_map] at hu ⊢
       rw [List.getElem?_drop] at hu
       exact hu
      have hbase := Nat.le_refl wq.heap.size
      go_wp2_with (at_builtin; go_loud (refine wpl_catP rfl (.tmp 54) (.tmp 57) 28 rfl wq.heap.size 46 i0 _ 1 24 Tryz.underlying28 hI.out.1 hI.out.2.1 hI.out.2.2.1 hI.out.2.2.2 rfl (by decide) (by decide) (.slice none 0 0) 0 [] rfl (World.ownsRow_nil wq _ 46 1) (some ⟨g, 0, none⟩) k k g 0 rfl ⟨by omega, hcm, .inr rfl, fun h => by cases h⟩ ((R.take k).map PC.enc) (by rw [List.length_map, List.length_take]; omega) CL1.out enc_one (by omega) hbase ?_))
      intro v1 w1 o1 g1
      have K1 : Hid (∀ x, x < wq.heap.size -> w1.heap[x]? = wq.heap[x]?) := fun x hx => g1.block x hx (by simp [Value.ownBlock])
      have hz1 := g1.size
      have r1 : w1.cell? ⟨bl, ol + j, none⟩ = some (.slice aq pj.length cq) := (World.cell?_of_block (w := wq) (a := ⟨bl, ol + j, none⟩) (K1.out bl (World.block_lt_of_cell? wq _ rq))).trans rq
      have B1 : Hid (Below w.heap.size w w1) := BQ.out.grown g1 (by omega) (fun r e => by simp [Value.ownBlock] at e)
      have hv1 : Hid (∀ r, v1.ownBlock = some r -> wq.heap.size <= r /\ r < w1.heap.size) := fun r hr => o1.lt r hr
      have O1 := hmk o1
      clear o1 g1
      have hal1 := alloc_size w1 (.cells #[.slice aq pj.length cq] 46)
      have hne1 := heap_alloc_new w1 (.cells #[.slice aq pj.length cq] 46)
      have CLX : Hid (∀ j u, [Value.slice aq pj.length cq][j]? = some u -> (w1.alloc (.cells #[.slice aq pj.length cq] 46)).cell? ⟨w1.heap.size, 0 + j, none⟩ = some u) := fun j u hu => by
       rw [Nat.zero_add, cell_of_block hne1]
       rw [<- hu]
       rw [<- Array.getElem?_toList]
      have gal : Hid (w1.grownBy (w1.alloc (.cells #[.slice aq pj.length cq] 46)) none) := World.grownBy_alloc _ _ _
      go_wp2_with (at_builtin; go_loud (refine wpl_catP rfl (.tmp 59) (.tmp 64) 28 rfl wq.heap.size 46 i0 _ 1 24 Tryz.underlying28 hI.out.1 hI.out.2.1 hI.out.2.2.1 hI.out.2.2.2 rfl (by decide) (by decide) v1 _ _ rfl (own_keep O1.out gal.out (fun r e => by cases e)) (some ⟨w1.heap.size, 0, none⟩) 1 1 w1.heap.size 0 rfl ⟨Nat.le_refl _, by simp [maxLen], .inr rfl, fun h => by cases h⟩ [.slice aq pj.length cq] rfl CLX.out oneQ (by omega) (by omega) ?_))
      intro v2 w2 o2 g2
      have hz2 := g2.size
      have K2 : ∀ x, x < wq.heap.size -> w2.heap[x]? = wq.heap[x]? := fun x hx => by
       rw [g2.block x (by omega) (fun e => by have := (hv1.out x e.symm).1; omega), gal.out.block x (by omega) (by simp), K1.out x hx]
      have KH := hmk K2
      have B2 : Hid (Below w.heap.size w w2) := (B1.out.grown gal.out (by omega) (fun r e => by cases e)).grown g2 (by omega) (fun r e => by have := (hv1.out r e).1; omega)
      have hv2 : Hid (∀ r, v2.ownBlock = some r -> wq.heap.size <= r /\ r < w2.heap.size) := fun r hr => o2.lt r hr
      have O2 := hmk o2
      clear o2 g2 K2 r1 O1 B1 gal hne1
      go_wp2_with (at_builtin; go_loud (refine wpl_catP rfl (.tmp 66) (.tmp 69) 28 rfl wq.heap.size 46 i0 _ 1 24 Tryz.underlying28 hI.out.1 hI.out.2.1 hI.out.2.2.1 hI.out.2.2.2 rfl (by decide) (by decide) v2 _ _ rfl O2.out (some ⟨g, 0, none⟩) 0 0 g 0 rfl ⟨Nat.le_refl _, by simp [maxLen], .inr rfl, fun h => by cases h⟩ [] (by simp) (fun j u hu => by simp at hu) (fun u hu => by simp at hu) (by omega) (by omega) ?_))
      intro v3 w3 o3 g3
      have hz3 := g3.size
      have B3 : Hid (Below w.heap.size w w3) := B2.out.grown g3 (by omega) (fun r e => by have := (hv2.out r e).1; omega)
      have O3 : Hid (w3.ownsRow w.heap.size 46 1 v3 (R.take k ++ [X] ++ R.drop k).length ((R.take k ++ [X] ++ R.drop k).map PC.enc)) := by
       have := own_base o3 (show w.heap.size <= wq.heap.size by omega)
       have e0 : R.drop k = [] := List.drop_eq_nil_of_le (by omega)
       have e1 : (R.take k ++ [X] ++ R.drop k).length = k + 1 := by rw [e0]; simp [List.length_take]; omega
       have e2 : (R.take k ++ [X] ++ R.drop k).map PC.enc = (R.map PC.enc).take k ++ [.slice aq pj.length cq] := by rw [e0]; simp [HX.out.2, List.map_take]
       show World.ownsRow _ _ _ _ _ _ _
       rw [e1, e2]
       simpa [List.map_take] using this
      have HRS2 : Hid (Rs (l.take (j + 1)) ((R.take k ++ [X] ++ R.drop k).map PC.p)) := by
       show Rs _ _
       rw [HTP.out]
       have := INSP.out
       simpa [List.map_take, List.map_drop, HX.out.1] using this
      have hlen2 : (R.take k ++ [X] ++ R.drop k).length <= j + 1 := by simp [List.length_take, List.length_drop]; omega
      clear o3 g3 O2 B2 INSP KH
      go_wp2_with fail
      go_roundw
      case rel => exact ⟨j + 1, _, _, by omega, rfl, by go_num, B3.out, HG2, HRS2, O3, hlen2⟩
      case measure => simp [RowKit.intOf]; omega
     have y11 : k < cap := by omega
     have y12 : ¬ cap = k := by omega
     have y13 : ¬ cap - k = 0 := by omega
     have CL1 : Hid (∀ j u, ((R.take k).map PC.enc)[j]? = some u -> wq.cell? ⟨g, 0 + j, none⟩ = some u) := fun j u hu => by
      rw [Nat.zero_add]
      refine own_cell OQ.out ?_
      rw [List.getElem?_map] at hu ⊢
      rw [List.getElem?_take] at hu
      split at hu
      ·exact hu
      ·cases hu
     have CL3 : Hid (∀ W : World, (∀ x, x < wq.heap.size -> W.heap[x]? = wq.heap[x]?) -> ∀ j u, ((R.drop k).map PC.enc)[j]? = some u -> W.cell? ⟨g, k + j, none⟩ = some u) := fun W hW j u hu => by
      rw [World.cell?_of_block (w := wq) (a := ⟨g, k + j, none⟩) (hW g hgq)]
      refine own_cell OQ.out ?_
      rw [List.getElem?_map] at hu ⊢
      rw [List.getElem?_drop] at hu
      exact hu
     have hbase := Nat.le_refl wq.heap.size
     go_wp2_with (at_builtin; go_loud (refine wpl_catP rfl (.tmp 54) (.tmp 57) 28 rfl wq.heap.size 46 i0 _ 1 24 Tryz.underlying28 hI.out.1 hI.out.2.1 hI.out.2.2.1 hI.out.2.2.2 rfl (by decide) (by decide) (.slice none 0 0) 0 [] rfl (World.ownsRow_nil wq _ 46 1) (some ⟨g, 0, none⟩) k cap g 0 rfl ⟨by omega, hcm, .inr rfl, fun h => by cases h⟩ ((R.take k).map PC.enc) (by rw [List.length_map, List.length_take]; omega) CL1.out enc_one (by omega) hbase ?_))
     intro v1 w1 o1 g1
     have K1 : Hid (∀ x, x < wq.heap.size -> w1.heap[x]? = wq.heap[x]?) := fun x hx => g1.block x hx (by simp [Value.ownBlock])
     have hz1 := g1.size
     have r1 : w1.cell? ⟨bl, ol + j, none⟩ = some (.slice aq pj.length cq) := (World.cell?_of_block (w := wq) (a := ⟨bl, ol + j, none⟩) (K1.out bl (World.block_lt_of_cell? wq _ rq))).trans rq
     have B1 : Hid (Below w.heap.size w w1) := BQ.out.grown g1 (by omega) (fun r e => by simp [Value.ownBlock] at e)
     have hv1 : Hid (∀ r, v1.ownBlock = some r -> wq.heap.size <= r /\ r < w1.heap.size) := fun r hr => o1.lt r hr
     have O1 := hmk o1
     clear o1 g1
     have hal1 := alloc_size w1 (.cells #[.slice aq pj.length cq] 46)
     have hne1 := heap_alloc_new w1 (.cells #[.slice aq pj.length cq] 46)
     have CLX : Hid (∀ j u, [Value.slice aq pj.length cq][j]? = some u -> (w1.alloc (.cells #[.slice aq pj.length cq] 46)).cell? ⟨w1.heap.size, 0 + j, none⟩ = some u) := fun j u hu => by
      rw [Nat.zero_add, cell_of_block hne1]
      rw [<- hu]
      rw [<- Array.getElem?_toList]
     have gal : Hid (w1.grownBy (w1.alloc (.cells #[.slice aq pj.length cq] 46)) none) := World.grownBy_alloc _ _ _
     go_wp2_with (at_builtin; go_loud (refine wpl_catP rfl (.tmp 59) (.tmp 64) 28 rfl wq.heap.size 46 i0 _ 1 24 Tryz.underlying28 hI.out.1 hI.out.2.1 hI.out.2.2.1 hI.out.2.2.2 rfl (by decide) (by decide) v1 _ _ rfl (own_keep O1.out gal.out (fun r e => by cases e)) (some ⟨w1.heap.size, 0, none⟩) 1 1 w1.heap.size 0 rfl ⟨Nat.le_refl _, by simp [maxLen], .inr rfl, fun h => by cases h⟩ [.slice aq pj.length cq] rfl CLX.out oneQ (by omega) (by omega) ?_))
     intro v2 w2 o2 g2
     have hz2 := g2.size
     have K2 : ∀ x, x < wq.heap.size -> w2.heap[x]? = wq.heap[x]? := fun x hx => by
      rw [g2.block x (by omega) (fun e => by have := (hv1.out x e.symm).1; omega), gal.out.block x (by omega) (by simp), K1.out x hx]
     have KH := hmk K2
     have B2 : Hid (Below w.heap.size w w2) := (B1.out.grown gal.out (by omega) (fun r e => by cases e)).grown g2 (by omega) (fun r e => by have := (hv1.out r e).1; omega)
     have hv2 : Hid (∀ r, v2.ownBlock = some r -> wq.heap.size <= r /\ r < w2.heap.size) := fun r hr => o2.lt r hr
     have O2 := hmk o2
     clear o2 g2 K2 r1 O1 B1 gal hne1
     go_wp2_with (at_builtin; go_loud (refine wpl_catP rfl (.tmp 66) (.tmp 69) 28 rfl wq.heap.size 46 i0 _ 1 24 Tryz.underlying28 hI.out.1 hI.out.2.1 hI.out.2.2.1 hI.out.2.2.2 rfl (by decide) (by decide) v2 _ _ rfl O2.out (some ⟨g, k, none⟩) (R.length - k) (cap - k) g k rfl ⟨by omega, by omega, .inr rfl, fun h => by cases h⟩ ((R.drop k).map PC.enc) (by rw [List.length_map, List.length_drop]; omega) (CL3.out w2 KH.out) enc_one (by omega) (by omega) ?_))
     intro v3 w3 o3 g3
     have hz3 := g3.size
     have B3 : Hid (Below w.heap.size w w3) := B2.out.grown g3 (by omega) (fun r e => by have := (hv2.out r e).1; omega)
     have O3 : Hid (w3.ownsRow w.heap.size 46 1 v3 (R.take k ++ [X] ++ R.drop k).length ((R.take k ++ [X] ++ R.drop k).map PC.enc)) := by
      have := own_base o3 (show w.heap.size <= wq.heap.size by omega)
      have e1 : (R.take k ++ [X] ++ R.drop k).length = 0 + k + 1 + (R.length - k) := by simp [List.length_take, List.length_drop]; omega
      have e2 : (R.take k ++ [X] ++ R.drop k).map PC.enc = [] ++ (R.take k).map PC.enc ++ [.slice aq pj.length cq] ++ (R.drop k).map PC.enc := by simp [HX.out.2]
      show World.ownsRow _ _ _ _ _ _ _
      rw [e1, e2]
      first
      | exact this
      | simpa [List.map_take, List.map_drop] using this
     have HRS2 : Hid (Rs (l.take (j + 1)) ((R.take k ++ [X] ++ R.drop k).map PC.p)) := by
      show Rs _ _
      rw [HTP.out]
      have := INSP.out
      simpa [List.map_take, List.map_drop, HX.out.1] using this
     have hlen2 : (R.take k ++ [X] ++ R.drop k).length <= j + 1 := by simp [List.length_take, List.length_drop]; omega
     clear o3 g3 O2 B2 INSP KH
     go_wp2_with fail
     go_roundw
     case rel => exact ⟨j + 1, _, _, by omega, rfl, by go_num, B3.out, HG2, HRS2, O3, hlen2⟩
     case measure => simp [RowKit.intOf]; omega
end Go.Proofs.YtdgfjdhobdfglaaGreatDoor
