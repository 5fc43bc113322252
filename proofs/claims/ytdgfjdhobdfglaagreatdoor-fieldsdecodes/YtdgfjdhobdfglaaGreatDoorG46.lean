/- joined: DptK DpuK -/
import Derived.Test.YtdgfjdhobdfglaaGreatDoorG33
import Derived.Test.YtdgfjdhobdfglaaGreatDoorG45
set_option linter.unusedSimpArgs false
set_option linter.unusedVariables false
set_option maxRecDepth 100000
namespace Go.Proofs.YtdgfjdhobdfglaaGreatDoor
open Go.RowKit Go.Lib
def DpPost (D : Option (List (List El))) (S : Nat -> Prop) (w : World) (e : Ending) (w' : World) : Prop :=
 Below w.heap.size w w' /\ ((D = none /\ e = .returned (.tuple #[.slice none 0 0, .bool false])) \/ ∃ L a c b o, D = some L /\ e = .returned (.tuple #[.slice a L.length c, .bool true]) /\ Headed a L.length c b o /\ liesQ w' (Tw S w w') L b o)
theorem map_nil_app {α : Type} (x : Option (List α)) : x.map ([] ++ ·) = x := by cases x <;> simp
theorem dotL : (⟨#[46]⟩ : ByteArray).toList = [46] := by simp [ByteArray.toList, ByteArray.toList.loop, ByteArray.get!, ByteArray.size]
theorem row9z2 {w : World} {b o : Nat} {x0 x1 x2 x3 x4 x5 x6 x7 x8 : Value} (h : rowAt w b o [x0, x1, x2, x3, x4, x5, x6, x7, x8]) : w.cell? ⟨b, o, none⟩ = some x0 /\ w.cell? ⟨b, o + 1, none⟩ = some x1 /\ w.cell? ⟨b, o + 2, none⟩ = some x2 /\ w.cell? ⟨b, o + 3, none⟩ = some x3 /\ w.cell? ⟨b, o + 4, none⟩ = some x4 /\ w.cell? ⟨b, o + 5, none⟩ = some x5 /\ w.cell? ⟨b, o + 6, none⟩ = some x6 /\ w.cell? ⟨b, o + 7, none⟩ = some x7 /\ w.cell? ⟨b, o + 8, none⟩ = some x8 := row9 h
theorem wtM_tk (m : List Mem) (j : Nat) : wtM (m.take j) <= wtM m := by
 have := wtM_app (m.take j) (m.drop j)
 rw [List.take_append_drop] at this
 omega
set_option maxHeartbeats 16000000 in
theorem rpthsF_any (v : V) : ∀ (p : List El) (S : Nat -> Prop) (ap : Option Addr) (cp bp op : Nat) (cs : List Value) (w : World), Headed ap p.length cp bp op -> liesP w S p bp op -> v.lies false w S cs -> (∀ b, S b -> b < w.heap.size) -> p.length + v.wt <= 4294967295 -> v.wt <= 2147483647 -> ksV v ->
 Calls Tryz.prog 15 #[.slice ap p.length cp, .agg cs.toArray, .bool false] w (DpPost (dpV false p v) S w) := by
 induction v using V.ind_v with
 | h k b i s l m ihl ihm =>
 intro p S ap cp bp op cs w hap hp hl hS hpw hwt hks
 rw [V.lies] at hl
 obtain ⟨al, cl, bl, ol, am, cm, bm, om, rfl, hk, hi, hs, hal, ham, hl1, hm1, _⟩ := hl
 rw [V.wt] at hpw hwt
 rw [ksV] at hks
 by_cases hk5 : k = 5
 case neg =>
  have HDV : Hid (dpV false p (.mk k b i s l m) = none) := by show _ = _; rw [dpV, if_neg hk5]
  have B0 : Below w.heap.size w (w.alloc (.cells #[.int .i64 k, .bool b, .int .i64 i, .string s, .slice al l.length cl, .slice am m.length cm] 25)) := (Below.refl _ _).alloc (Nat.le_refl _) _
  obtain ⟨e0, e1, e2, e3, e4, e5⟩ := row6z (box_row w [.int .i64 k, .bool b, .int .i64 i, .string s, .slice al l.length cl, .slice am m.length cm] 25)
  clear hp hl1 hm1 hks
  go_enter Tryz.func15, Tryz.ntmps15
  go_wp2_with fail
  go_ret2
  exact ⟨B0, .inl ⟨HDV.out, rfl⟩⟩
 subst hk5
 have HM := hmk hm1
 have HP := hmk hp
 have HKS := hmk hks
 have HS := hmk hS
 clear hl1 hm1 hp hks
 have hml : m.length <= 9223372036854775807 := Nat.le_trans ham.le ham.max
 have hmm := wtM_len m
 have B0 : Below w.heap.size w (w.alloc (.cells #[.int .i64 5, .bool b, .int .i64 i, .string s, .slice al l.length cl, .slice am m.length cm] 25)) := (Below.refl _ _).alloc (Nat.le_refl _) _
 have hb0 := box_row w [.int .i64 5, .bool b, .int .i64 i, .string s, .slice al l.length cl, .slice am m.length cm] 25
 have hz0 := alloc_size w (.cells #[.int .i64 5, .bool b, .int .i64 i, .string s, .slice al l.length cl, .slice am m.length cm] 25)
 have HDV : Hid (dpV false p (.mk 5 b i s l m) = dpM false m.length p (!false && decide (m.length = 0)) m) := by show _ = _; rw [dpV, if_pos rfl]
 generalize dpV false p (.mk 5 b i s l m) = D at *
 obtain ⟨e0, e1, e2, e3, e4, e5⟩ := row6z hb0
 go_enter Tryz.func15, Tryz.ntmps15
 go_wp2_with fail
 generalize (w.alloc (.cells #[.int .i64 5, .bool b, .int .i64 i, .string s, .slice al l.length cl, .slice am m.length cm] 25)) = w0 at *
 have hS0 : ∀ b, S b -> b < w0.heap.size := fun b hb => by have := hS b hb; omega
 clear e0 e1 e2 e3 e4 e5
 go_loopw [8, 9, 10] (fun e8 e9 e10 wr => ∃ (j : Nat) (A : List (List El)) (o : Bool), j <= m.length /\ e10 = .int .i64 (j : Int) /\ e9 = .bool o /\ OutQ w0 S A e8 wr /\ A.length <= wtM (m.take j) /\ Hid (D = (dpM false m.length p o (m.drop j)).map (A ++ ·))) (fun _ _ e _ => m.length - (RowKit.intOf e).toNat)
 case atStart =>
  refine ⟨0, [], _, by omega, rfl, rfl, OutQ.nil _ _, by simp, ?_⟩
  show _ = _
  rw [HDV.out, List.drop_zero, map_nil_app]
  rw [show (!false && decide (m.length = 0)) = ((m.length : Int) == 0) by rw [Bool.eq_iff_iff]; simp]
 case round =>
  clear HDV
  obtain ⟨j, A, o, hj, rfl, rfl, oj, hA, HD⟩ := hrel
  have bj := oj.b
  have hzr := bj.size
  have hrb := hb0.keep (bj.block _ (by omega))
  obtain ⟨d0, d1, d2, d3, d4, d5⟩ := row6z hrb
  have kb : Hid (∀ W, Below w0.heap.size w0 W -> ∀ b, S b -> W.heap[b]? = w.heap[b]?) := fun W hb b h => (hb.block b (hS0 b h)).trans (B0.block b (HS.out b h))
  have hA' : A.length <= 2147483647 := by have := wtM_tk m j; omega
  by_cases hjl : j < m.length
  ·have y1 : (j : Int) < m.length := by omega
   obtain ⟨hSb, hks', csj, hrow, hlj⟩ := liesM_get HM.out j hjl
   obtain rfl : am = some ⟨bm, om, none⟩ := ham.at_.resolve_left (by omega)
   have HST := hmk (dpM_drop hjl false m.length p o)
   have hkz := ksM_get HKS.out hjl
   have hwj := wtM_mem (List.getElem_mem hjl)
   have hwt2 : wtM (m.take (j + 1)) = wtM (m.take j) + ((m[j]).1.size + (m[j]).2.wt) := take_succ_wtM hjl
   have IH := hmk (ihm m[j] (List.getElem_mem hjl))
   rcases hmj : m[j] with ⟨key, x⟩
   rw [hmj] at hks' hrow hlj HST hkz hwj hwt2 IH
   dsimp only at hks' hrow hlj HST hkz hwj hwt2 IH
   rcases x with ⟨xk, xb, xi, xs, xl, xm⟩
   have HLX := hmk hlj
   rw [V.lies] at hlj
   obtain ⟨xal, xcl, xbl, xol, xam, xcm, xbm, xom, rfl, hxk, hxi, hxs, hxal, hxam, hxl, hxm, _⟩ := hlj
   obtain ⟨q, q0, q1, q2, q3, q4, q5⟩ := row7 (hrow.keep (kb.out wr bj _ hSb))
   have HOJ := hmk oj
   have HOL : Hid (∀ r, u8.ownBlock = some r -> r < wr.heap.size) := fun r hr => oj.lt hr
   have BX : Below wr.heap.size wr (wr.alloc (.cells #[.int .i64 xk, .bool xb, .int .i64 xi, .string xs, .slice xal xl.length xcl, .slice xam xm.length xcm] 25)) := (Below.refl _ _).alloc (Nat.le_refl _) _
   have hxb := box_row wr [.int .i64 xk, .bool xb, .int .i64 xi, .string xs, .slice xal xl.length xcl, .slice xam xm.length xcm] 25
   have hzx := alloc_size wr (.cells #[.int .i64 xk, .bool xb, .int .i64 xi, .string xs, .slice xal xl.length xcl, .slice xam xm.length xcm] 25)
   obtain ⟨x0, x1, x2, x3, x4, x5⟩ := row6z hxb
   obtain ⟨f0, f1, f2, f3, f4, f5⟩ := row6z (hrb.keep (BX.block _ (by omega)))
   have hxml : xm.length <= 9223372036854775807 := Nat.le_trans hxam.le hxam.max
   clear oj hrow hxl hxm hmj
   by_cases hK : key.toList = [46]
   ·obtain rfl : key = ⟨#[46]⟩ := bytes_eq (by rw [hK, dotL])
    have HST2 : Hid (dpM false m.length p o (m.drop j) = (if (decide (xk = 5) && decide (xm.length = 0)) && (false || decide (m.length ≠ 1)) then dpM false m.length p true (m.drop (j + 1)) else none)) := by show _ = _; rw [HST.out, if_pos hK]; rfl
    clear hK HST IH HLX hkz hwj hks' hxam hxml
    generalize xm.length = xn at *
    by_cases hok : xk = 5 /\ xn = 0 /\ m.length ≠ 1
    ·obtain ⟨rfl, rfl, hn1⟩ := hok
     have y3 : ¬ (m.length : Int) = 1 := by omega
     have HN : Hid (D = (dpM false m.length p true (m.drop (j + 1))).map (A ++ ·)) := by
      show _ = _
      rw [HD.out, HST2.out, if_pos (by simp [hn1])]
     have OX := hmk (HOJ.out.below BX)
     clear HOJ HD HST2
     go_wp2_with fail
     go_roundw
     case rel => exact ⟨j + 1, A, true, by omega, by go_num, rfl, OX.out, by omega, HN⟩
     case measure => simp [RowKit.intOf]; omega
    ·have HN : Hid (D = none) := by
      show _ = _
      rw [HD.out, HST2.out, if_neg (by simp; intro h1 h2; simp_all)]
      rfl
     have BW : Hid (Below w.heap.size w (wr.alloc (.cells #[.int .i64 xk, .bool xb, .int .i64 xi, .string xs, .slice xal xl.length xcl, .slice xam xn xcm] 25))) := B0.trans ((bj.trans (BX.mono hzr)).mono (by omega))
     have HOK := hmk hok
     clear HOJ HD HST2 hok
     by_cases hx5 : xk = 5
     focus
      subst hx5
      by_cases hx0 : xn = 0
      focus
       subst hx0
       have y3 : (m.length : Int) = 1 := by have := HOK.out; simp at this; omega
      rotate_left 1
      focus
       have y2 : (0 : Int) < xn := by omega
      rotate_left 1
     rotate_left 2
     focus
      skip
     rotate_left 1
     all_goals
      go_wp2_with fail
      go_ret2
      exact ⟨BW.out, .inl ⟨HN.out, rfl⟩⟩
   ·have yK : (key.toList == [46]) = false := by rw [beq_eq_false_iff_ne]; exact hK
    have yK2 : (key.toList == (⟨#[46]⟩ : ByteArray).toList) = false := by rw [dotL]; exact yK
    have HST2 : Hid (dpM false m.length p o (m.drop j) = (match elF key with
     | none => none
     | some e => match dpV false (p ++ [e]) (.mk xk xb xi xs xl xm) with
      | none => none
      | some L => (dpM false m.length p o (m.drop (j + 1))).map (L ++ ·))) := by show _ = _; rw [HST.out, if_neg hK]; (try rfl)
    have HEL : Hid (elF key = if (parF key.data.toList 33 0 []).2.2 = 0 then (match (parF key.data.toList 33 0 []).1 with | [e] => some e | _ => none) else none) := rfl
    have OX := hmk (HOJ.out.below BX)
    have BW := hmk (B0.trans ((bj.trans (BX.mono hzr)).mono (by omega)))
    generalize hwx : (wr.alloc (.cells #[.int .i64 xk, .bool xb, .int .i64 xi, .string xs, .slice xal xl.length xcl, .slice xam xm.length xcm] 25)) = w1 at *
    have c1 := hmk (dpar_any key w1 hkz.1)
    clear HST HOJ
    go_wp2_with fail
    (try rw [hwx])
    refine c1.out.mono ?_
    generalize parF key.data.toList 33 0 [] = P at *
    rintro e w2 ⟨aq, cq, bq, oq, rfl, hhq, hlq, b2⟩
    have hz2 := b2.size
    obtain ⟨P1, P2, P3⟩ := P
    dsimp only at hhq hlq HEL ⊢
    have HLQ := hmk hlq
    have hPl : P1.length <= 9223372036854775807 := Nat.le_trans hhq.le hhq.max
    clear c1 hlq
    by_cases hP3 : P3 = 0
    case neg =>
     have y4 : ¬ (P3 : Int) = 0 := by omega
     have HN : Hid (D = none) := by
      show _ = _
      rw [HD.out, HST2.out, HEL.out, if_neg hP3]; rfl
     have BW2 := hmk (BW.out.trans (b2.mono (by omega)))
     clear HST2 HEL HLQ
     go_wp2_with fail
     go_ret2
     exact ⟨BW2.out, .inl ⟨HN.out, rfl⟩⟩
    subst hP3
    by_cases hP1 : P1.length = 1
    case neg =>
     have y4 : ¬ (P1.length : Int) = 1 := by omega
     have HN : Hid (D = none) := by
      show _ = _
      rw [HD.out, HST2.out, HEL.out, if_pos rfl]
      clear HD HST2 HEL HLQ hhq hPl y4
      cases P1 with
      | nil => rfl
      | cons y t => cases t with
       | nil => exact (hP1 rfl).elim
       | cons z t => rfl
     have BW2 := hmk (BW.out.trans (b2.mono (by omega)))
     clear HST2 HEL HLQ
     go_wp2_with fail
     go_ret2
     exact ⟨BW2.out, .inl ⟨HN.out, rfl⟩⟩
    obtain ⟨el, rfl⟩ := List.length_eq_one_iff.1 hP1
    have HST3 : Hid (dpM false m.length p o (m.drop j) = (match dpV false (p ++ [el]) (.mk xk xb xi xs xl xm) with
     | none => none
     | some L => (dpM false m.length p o (m.drop (j + 1))).map (L ++ ·))) := by show _ = _; rw [HST2.out, HEL.out, if_pos rfl]; (try rfl)
    have hlen := dpV_len (.mk xk xb xi xs xl xm) false (p ++ [el])
    have HLN := hmk hlen
    clear hlen HST2 HEL hP1
    obtain ⟨hSq, ecs, hre, hle⟩ := HLQ.out 0 (by simp)
    rw [List.getElem_cons_zero] at hle
    have hre' : rowAt w2 bq oq ecs := by simpa using hre
    obtain rfl : aq = some ⟨bq, oq, none⟩ := hhq.at_.resolve_left (by simp)
    have hzo := OX.out.b.size
    have HS2 : Hid (∀ b, (S b \/ New w1 w2 b) -> b < w2.heap.size) := fun b hb => hb.elim (fun h => by have := hS0 b h; omega) (fun h => h.2)
    have k2 : Hid (∀ b, S b -> w2.heap[b]? = w.heap[b]?) := fun b hb => (b2.block b (by have := hS0 b hb; omega)).trans (kb.out w1 OX.out.b b hb)
    have HPP := hmk (liesP_keep (S' := fun b => S b \/ New w1 w2 b) k2.out (fun b h => .inl h) HP.out)
    have O2 := OutP.nil w2 (fun b => S b \/ New w1 w2 b)
    obtain ⟨zk, zs, zam, znm, zcm, zvk, zvb, zvi, zvs, zval, zvnl, zvcl, zvam, zvnm, zvcm, rfl⟩ := El.nine hle
    have HLE := hmk hle
    clear hle hre HLQ
    go_wp2_with (at_builtin; go_loud (refine wpl_outCatP rfl (.tmp 83) (.tmp 84) rfl _ p rfl O2 HS2.out ap cp bp op rfl hap HPP.out (fun b h => .inl h) (by simp; omega) ?_))
    intro v3 w3 o3 gr3
    (try rw [List.nil_append] at o3)
    have b3 := o3.b
    have hz3 := b3.size
    obtain ⟨z0, z1, z2, z3, z4, z5, z6, z7, z8⟩ := row9z2 (hre'.keep (b3.block _ hSq.2))
    have HL3 : Hid (EP el w3 (fun b => S b \/ New w1 w2 b) [.int .i64 zk, .string zs, .slice zam znm zcm, .int .i64 zvk, .bool zvb, .int .i64 zvi, .string zvs, .slice zval zvnl zvcl, .slice zvam zvnm zvcm]) := El.lies_keep (fun b hb => b3.block b hb.2) (fun b h => .inr h) HLE.out
    clear O2 gr3
    go_wp2_with (at_builtin; go_loud (refine wpl_outP rfl (.tmp 86) (.tmp 90) rfl _ rfl o3 HS2.out HL3.out (fun b h => .inl h) 1 rfl (by omega) ?_))
    intro g4 cap4 w4 o4
    obtain ⟨a5, c5, b5, o5, hv5, hh5, hl5⟩ := o4.list
    have b4 := o4.b
    have hz4 := b4.size
    have HL5 := hmk hl5
    have k4 : Hid (∀ b, S b -> w4.heap[b]? = w.heap[b]?) := fun b hb => (b4.block b (HS2.out b (.inl hb))).trans (k2.out b hb)
    have IC := hmk (IH.out (p ++ [el]) (Tw (fun b => S b \/ New w1 w2 b) w2 w4) a5 c5 b5 o5 _ w4 hh5 hl5 (V.lies_keep (fun h => h) k4.out (fun b h => .inl (.inl h)) _ HLX.out) (fun b hb => hb.elim (fun h => by have := HS2.out b h; omega) (fun h => h.2)) (by rw [List.length_append, List.length_singleton]; omega) (by omega) hkz.2)
    obtain ⟨t0, t1, t2, t3, t4, t5⟩ := row6z ((hxb.keep (b2.block _ (by omega))).keep (b4.block _ (by omega)))
    clear o3 o4 hl5 b3 HL3 HLE hre' z0 z1 z2 z3 z4 z5 z6 z7 z8 IH HLX
    clear HL5 hh5
    generalize (p ++ [el]).length = np at IC hv5
    rw [hv5]
    go_wp2_with fail
    refine IC.out.mono ?_
    rintro e w6 ⟨b6, ⟨hn, rfl⟩ | ⟨L, a6, c6, b6', o6, hL, rfl, hh6, hl6⟩⟩
    ·have HN : Hid (D = none) := by show _ = _; rw [HD.out, HST3.out, hn]; rfl
     have BW6 := hmk (BW.out.trans ((b2.trans ((b4.trans (b6.mono (by omega))).mono (by omega))).mono (by omega)))
     clear HST3 IC
     go_wp2_with fail
     go_ret2
     exact ⟨BW6.out, .inl ⟨HN.out, rfl⟩⟩
    ·have HN : Hid (D = (dpM false m.length p o (m.drop (j + 1))).map ((A ++ L) ++ ·)) := by
      show _ = _
      rw [HD.out, HST3.out, hL]
      cases dpM false m.length p o (m.drop (j + 1)) <;> simp
     have hLl := HLN.out L hL
     have hz6 := b6.size
     have O6 := OX.out.below (b2.trans ((b4.trans (b6.mono (by omega))).mono (by omega)))
     have hT : Hid (∀ b, Tw (Tw (fun b => S b \/ New w1 w2 b) w2 w4) w4 w6 b -> S b \/ (w0.heap.size <= b /\ b < w6.heap.size /\ some b ≠ u8.ownBlock)) := by
      have key : ∀ b, w1.heap.size <= b -> b < w6.heap.size -> S b \/ (w0.heap.size <= b /\ b < w6.heap.size /\ some b ≠ u8.ownBlock) := fun b h1 h2 => .inr ⟨by omega, h2, fun e => by have := HOL.out b e.symm; omega⟩
      rintro b (((h | h) | h) | h)
      ·exact .inl h
      ·exact key b h.1 (by have := h.2; omega)
      ·exact key b (by have := h.1; omega) (by have := h.2; omega)
      ·exact key b (by have := h.1; omega) h.2
     clear HST3 IC
     go_wp2_with (at_builtin; go_loud (refine wpl_outCat rfl (.tmp 100) (.tmp 101) rfl _ L rfl O6 hS0 a6 c6 b6' o6 rfl hh6 hl6 hT.out (by omega) ?_))
     intro v7 w7 o7 gr7
     clear O6 hl6 gr7
     go_wp2_with fail
     go_roundw
     case rel => exact ⟨j + 1, A ++ L, o, by omega, by go_num, rfl, o7, by rw [List.length_append]; omega, HN⟩
     case measure => simp [RowKit.intOf]; omega
  ·obtain rfl : j = m.length := by omega
   have y1 : ¬ (m.length : Int) < m.length := by omega
   have HN : Hid (D = some (A ++ if o then [p] else [])) := by
    show _ = _
    rw [HD.out, List.drop_length, dpM]; rfl
   have hTw : Hid (∀ W b, Tw S w0 W b -> Tw S w W b) := fun W b h => h.imp id (fun h => ⟨by omega, h.2⟩)
   cases o with
   | false =>
    obtain ⟨a7, c7, b7, o7, rfl, hd7, hl7⟩ := oj.list
    have HB := hmk (B0.trans (bj.mono (by omega)))
    have HL7 := hmk (liesQ_keep (fun _ _ => rfl) (hTw.out _) hl7)
    clear oj hl7 HD
    go_wp2_with fail
    go_ret2
    exact ⟨HB.out, .inr ⟨A, a7, c7, b7, o7, by rw [HN.out]; simp, rfl, hd7, HL7.out⟩⟩
   | true =>
    have HEQ : Hid (EQ p wr S [.slice ap p.length cp]) := ⟨_, rfl, ap, cp, bp, op, rfl, hap, liesP_keep (kb.out wr bj) (fun _ h => h) HP.out⟩
    clear HD
    go_wp2_with (at_builtin; go_loud (refine wpl_outQ rfl (.tmp 104) (.tmp 106) rfl _ rfl oj hS0 HEQ.out (fun b h => .inl h) 1 rfl (by omega) ?_))
    intro g5 cap w5 o5
    obtain ⟨a7, c7, b7, o7, hv7, hd7, hl7⟩ := o5.list
    have HB := hmk (B0.trans (o5.b.mono (by omega)))
    have HL7 := hmk (liesQ_keep (fun _ _ => rfl) (hTw.out _) hl7)
    clear oj hl7 o5 HEQ
    go_wp2_with fail
    go_ret2
    exact ⟨HB.out, .inr ⟨A ++ [p], a7, c7, b7, o7, by rw [HN.out]; simp, by rw [hv7]; rfl, hd7, HL7.out⟩⟩
end Go.Proofs.YtdgfjdhobdfglaaGreatDoor
set_option maxRecDepth 100000
namespace Go.Proofs.YtdgfjdhobdfglaaGreatDoor
open Go.RowKit Go.Lib
set_option maxHeartbeats 16000000 in
theorem rpthsT_any (v : V) : ∀ (p : List El) (S : Nat -> Prop) (ap : Option Addr) (cp bp op : Nat) (cs : List Value) (w : World), Headed ap p.length cp bp op -> liesP w S p bp op -> v.lies false w S cs -> (∀ b, S b -> b < w.heap.size) -> p.length + v.wt <= 4294967295 -> v.wt <= 2147483647 -> ksV v ->
 Calls Tryz.prog 15 #[.slice ap p.length cp, .agg cs.toArray, .bool true] w (DpPost (dpV true p v) S w) := by
 obtain ⟨k, b, i, s, l, m⟩ := v
 intro p S ap cp bp op cs w hap hp hl hS hpw hwt hks
 rw [V.lies] at hl
 obtain ⟨al, cl, bl, ol, am, cm, bm, om, rfl, hk, hi, hs, hal, ham, hl1, hm1, _⟩ := hl
 rw [V.wt] at hpw hwt
 rw [ksV] at hks
 by_cases hk5 : k = 5
 case neg =>
  have HDV : Hid (dpV true p (.mk k b i s l m) = none) := by show _ = _; rw [dpV, if_neg hk5]
  have B0 : Below w.heap.size w (w.alloc (.cells #[.int .i64 k, .bool b, .int .i64 i, .string s, .slice al l.length cl, .slice am m.length cm] 25)) := (Below.refl _ _).alloc (Nat.le_refl _) _
  obtain ⟨e0, e1, e2, e3, e4, e5⟩ := row6z (box_row w [.int .i64 k, .bool b, .int .i64 i, .string s, .slice al l.length cl, .slice am m.length cm] 25)
  clear hp hl1 hm1 hks
  go_enter Tryz.func15, Tryz.ntmps15
  go_wp2_with fail
  go_ret2
  exact ⟨B0, .inl ⟨HDV.out, rfl⟩⟩
 subst hk5
 have HM := hmk hm1
 have HP := hmk hp
 have HKS := hmk hks
 have HS := hmk hS
 clear hl1 hm1 hp hks
 have hml : m.length <= 9223372036854775807 := Nat.le_trans ham.le ham.max
 have hmm := wtM_len m
 have B0 : Below w.heap.size w (w.alloc (.cells #[.int .i64 5, .bool b, .int .i64 i, .string s, .slice al l.length cl, .slice am m.length cm] 25)) := (Below.refl _ _).alloc (Nat.le_refl _) _
 have hb0 := box_row w [.int .i64 5, .bool b, .int .i64 i, .string s, .slice al l.length cl, .slice am m.length cm] 25
 have hz0 := alloc_size w (.cells #[.int .i64 5, .bool b, .int .i64 i, .string s, .slice al l.length cl, .slice am m.length cm] 25)
 have HDV : Hid (dpV true p (.mk 5 b i s l m) = dpM true m.length p (!true && decide (m.length = 0)) m) := by show _ = _; rw [dpV, if_pos rfl]
 generalize dpV true p (.mk 5 b i s l m) = D at *
 obtain ⟨e0, e1, e2, e3, e4, e5⟩ := row6z hb0
 go_enter Tryz.func15, Tryz.ntmps15
 go_wp2_with fail
 generalize (w.alloc (.cells #[.int .i64 5, .bool b, .int .i64 i, .string s, .slice al l.length cl, .slice am m.length cm] 25)) = w0 at *
 have hS0 : ∀ b, S b -> b < w0.heap.size := fun b hb => by have := hS b hb; omega
 clear e0 e1 e2 e3 e4 e5
 go_loopw [8, 9, 10] (fun e8 e9 e10 wr => ∃ (j : Nat) (A : List (List El)) (o : Bool), j <= m.length /\ e10 = .int .i64 (j : Int) /\ e9 = .bool o /\ OutQ w0 S A e8 wr /\ A.length <= wtM (m.take j) /\ Hid (D = (dpM true m.length p o (m.drop j)).map (A ++ ·))) (fun _ _ e _ => m.length - (RowKit.intOf e).toNat)
 case atStart =>
  refine ⟨0, [], _, by omega, rfl, rfl, OutQ.nil _ _, by simp, ?_⟩
  show _ = _
  rw [HDV.out, List.drop_zero, map_nil_app]
  rfl
 case round =>
  clear HDV
  obtain ⟨j, A, o, hj, rfl, rfl, oj, hA, HD⟩ := hrel
  have bj := oj.b
  have hzr := bj.size
  have hrb := hb0.keep (bj.block _ (by omega))
  obtain ⟨d0, d1, d2, d3, d4, d5⟩ := row6z hrb
  have kb : Hid (∀ W, Below w0.heap.size w0 W -> ∀ b, S b -> W.heap[b]? = w.heap[b]?) := fun W hb b h => (hb.block b (hS0 b h)).trans (B0.block b (HS.out b h))
  have hA' : A.length <= 2147483647 := by have := wtM_tk m j; omega
  by_cases hjl : j < m.length
  ·have y1 : (j : Int) < m.length := by omega
   obtain ⟨hSb, hks', csj, hrow, hlj⟩ := liesM_get HM.out j hjl
   obtain rfl : am = some ⟨bm, om, none⟩ := ham.at_.resolve_left (by omega)
   have HST := hmk (dpM_drop hjl true m.length p o)
   have hkz := ksM_get HKS.out hjl
   have hwj := wtM_mem (List.getElem_mem hjl)
   have hwt2 : wtM (m.take (j + 1)) = wtM (m.take j) + ((m[j]).1.size + (m[j]).2.wt) := take_succ_wtM hjl
   have IH := hmk (rpthsF_any (m[j]).2)
   rcases hmj : m[j] with ⟨key, x⟩
   rw [hmj] at hks' hrow hlj HST hkz hwj hwt2 IH
   dsimp only at hks' hrow hlj HST hkz hwj hwt2 IH
   rcases x with ⟨xk, xb, xi, xs, xl, xm⟩
   have HLX := hmk hlj
   rw [V.lies] at hlj
   obtain ⟨xal, xcl, xbl, xol, xam, xcm, xbm, xom, rfl, hxk, hxi, hxs, hxal, hxam, hxl, hxm, _⟩ := hlj
   obtain ⟨q, q0, q1, q2, q3, q4, q5⟩ := row7 (hrow.keep (kb.out wr bj _ hSb))
   have HOJ := hmk oj
   have HOL : Hid (∀ r, u8.ownBlock = some r -> r < wr.heap.size) := fun r hr => oj.lt hr
   have BX : Below wr.heap.size wr (wr.alloc (.cells #[.int .i64 xk, .bool xb, .int .i64 xi, .string xs, .slice xal xl.length xcl, .slice xam xm.length xcm] 25)) := (Below.refl _ _).alloc (Nat.le_refl _) _
   have hxb := box_row wr [.int .i64 xk, .bool xb, .int .i64 xi, .string xs, .slice xal xl.length xcl, .slice xam xm.length xcm] 25
   have hzx := alloc_size wr (.cells #[.int .i64 xk, .bool xb, .int .i64 xi, .string xs, .slice xal xl.length xcl, .slice xam xm.length xcm] 25)
   obtain ⟨x0, x1, x2, x3, x4, x5⟩ := row6z hxb
   obtain ⟨f0, f1, f2, f3, f4, f5⟩ := row6z (hrb.keep (BX.block _ (by omega)))
   have hxml : xm.length <= 9223372036854775807 := Nat.le_trans hxam.le hxam.max
   clear oj hrow hxl hxm hmj
   by_cases hK : key.toList = [46]
   ·obtain rfl : key = ⟨#[46]⟩ := bytes_eq (by rw [hK, dotL])
    have HST2 : Hid (dpM true m.length p o (m.drop j) = (if (decide (xk = 5) && decide (xm.length = 0)) && (true || decide (m.length ≠ 1)) then dpM true m.length p true (m.drop (j + 1)) else none)) := by show _ = _; rw [HST.out, if_pos hK]; rfl
    clear hK HST IH HLX hkz hwj hks' hxam hxml
    generalize xm.length = xn at *
    by_cases hok : xk = 5 /\ xn = 0
    ·obtain ⟨rfl, rfl⟩ := hok
     have HN : Hid (D = (dpM true m.length p true (m.drop (j + 1))).map (A ++ ·)) := by
      show _ = _
      rw [HD.out, HST2.out, if_pos (by simp)]
     have OX := hmk (HOJ.out.below BX)
     clear HOJ HD HST2
     go_wp2_with fail
     go_roundw
     case rel => exact ⟨j + 1, A, true, by omega, by go_num, rfl, OX.out, by omega, HN⟩
     case measure => simp [RowKit.intOf]; omega
    ·have HN : Hid (D = none) := by
      show _ = _
      rw [HD.out, HST2.out, if_neg (by simp_all)]
      rfl
     have BW : Hid (Below w.heap.size w (wr.alloc (.cells #[.int .i64 xk, .bool xb, .int .i64 xi, .string xs, .slice xal xl.length xcl, .slice xam xn xcm] 25))) := B0.trans ((bj.trans (BX.mono hzr)).mono (by omega))
     have HOK := hmk hok
     clear HOJ HD HST2 hok
     by_cases hx5 : xk = 5
     ·subst hx5
      by_cases hx0 : xn = 0
      ·subst hx0
       exact (HOK.out ⟨rfl, rfl⟩).elim
      ·have y2 : (0 : Int) < xn := by omega
       go_wp2_with fail
       go_ret2
       exact ⟨BW.out, .inl ⟨HN.out, rfl⟩⟩
     ·go_wp2_with fail
      go_ret2
      exact ⟨BW.out, .inl ⟨HN.out, rfl⟩⟩
   ·have yK : (key.toList == [46]) = false := by rw [beq_eq_false_iff_ne]; exact hK
    have yK2 : (key.toList == (⟨#[46]⟩ : ByteArray).toList) = false := by rw [dotL]; exact yK
    have HST2 : Hid (dpM true m.length p o (m.drop j) = (match elF key with
     | none => none
     | some e => match dpV false (p ++ [e]) (.mk xk xb xi xs xl xm) with
      | none => none
      | some L => (dpM true m.length p o (m.drop (j + 1))).map (L ++ ·))) := by show _ = _; rw [HST.out, if_neg hK]; (try rfl)
    have HEL : Hid (elF key = if (parF key.data.toList 33 0 []).2.2 = 0 then (match (parF key.data.toList 33 0 []).1 with | [e] => some e | _ => none) else none) := rfl
    have OX := hmk (HOJ.out.below BX)
    have BW := hmk (B0.trans ((bj.trans (BX.mono hzr)).mono (by omega)))
    generalize hwx : (wr.alloc (.cells #[.int .i64 xk, .bool xb, .int .i64 xi, .string xs, .slice xal xl.length xcl, .slice xam xm.length xcm] 25)) = w1 at *
    have c1 := hmk (dpar_any key w1 hkz.1)
    clear HST HOJ
    go_wp2_with fail
    (try rw [hwx])
    refine c1.out.mono ?_
    generalize parF key.data.toList 33 0 [] = P at *
    rintro e w2 ⟨aq, cq, bq, oq, rfl, hhq, hlq, b2⟩
    have hz2 := b2.size
    obtain ⟨P1, P2, P3⟩ := P
    dsimp only at hhq hlq HEL ⊢
    have HLQ := hmk hlq
    have hPl : P1.length <= 9223372036854775807 := Nat.le_trans hhq.le hhq.max
    clear c1 hlq
    by_cases hP3 : P3 = 0
    case neg =>
     have y4 : ¬ (P3 : Int) = 0 := by omega
     have HN : Hid (D = none) := by
      show _ = _
      rw [HD.out, HST2.out, HEL.out, if_neg hP3]; rfl
     have BW2 := hmk (BW.out.trans (b2.mono (by omega)))
     clear HST2 HEL HLQ
     go_wp2_with fail
     go_ret2
     exact ⟨BW2.out, .inl ⟨HN.out, rfl⟩⟩
    subst hP3
    by_cases hP1 : P1.length = 1
    case neg =>
     have y4 : ¬ (P1.length : Int) = 1 := by omega
     have HN : Hid (D = none) := by
      show _ = _
      rw [HD.out, HST2.out, HEL.out, if_pos rfl]
      clear HD HST2 HEL HLQ hhq hPl y4
      cases P1 with
      | nil => rfl
      | cons y t => cases t with
       | nil => exact (hP1 rfl).elim
       | cons z t => rfl
     have BW2 := hmk (BW.out.trans (b2.mono (by omega)))
     clear HST2 HEL HLQ
     go_wp2_with fail
     go_ret2
     exact ⟨BW2.out, .inl ⟨HN.out, rfl⟩⟩
    obtain ⟨el, rfl⟩ := List.length_eq_one_iff.1 hP1
    have HST3 : Hid (dpM true m.length p o (m.drop j) = (match dpV false (p ++ [el]) (.mk xk xb xi xs xl xm) with
     | none => none
     | some L => (dpM true m.length p o (m.drop (j + 1))).map (L ++ ·))) := by show _ = _; rw [HST2.out, HEL.out, if_pos rfl]; (try rfl)
    have hlen := dpV_len (.mk xk xb xi xs xl xm) false (p ++ [el])
    have HLN := hmk hlen
    clear hlen HST2 HEL hP1
    obtain ⟨hSq, ecs, hre, hle⟩ := HLQ.out 0 (by simp)
    rw [List.getElem_cons_zero] at hle
    have hre' : rowAt w2 bq oq ecs := by simpa using hre
    obtain rfl : aq = some ⟨bq, oq, none⟩ := hhq.at_.resolve_left (by simp)
    have hzo := OX.out.b.size
    have HS2 : Hid (∀ b, (S b \/ New w1 w2 b) -> b < w2.heap.size) := fun b hb => hb.elim (fun h => by have := hS0 b h; omega) (fun h => h.2)
    have k2 : Hid (∀ b, S b -> w2.heap[b]? = w.heap[b]?) := fun b hb => (b2.block b (by have := hS0 b hb; omega)).trans (kb.out w1 OX.out.b b hb)
    have HPP := hmk (liesP_keep (S' := fun b => S b \/ New w1 w2 b) k2.out (fun b h => .inl h) HP.out)
    have O2 := OutP.nil w2 (fun b => S b \/ New w1 w2 b)
    obtain ⟨zk, zs, zam, znm, zcm, zvk, zvb, zvi, zvs, zval, zvnl, zvcl, zvam, zvnm, zvcm, rfl⟩ := El.nine hle
    have HLE := hmk hle
    clear hle hre HLQ
    go_wp2_with (at_builtin; go_loud (refine wpl_outCatP rfl (.tmp 83) (.tmp 84) rfl _ p rfl O2 HS2.out ap cp bp op rfl hap HPP.out (fun b h => .inl h) (by simp; omega) ?_))
    intro v3 w3 o3 gr3
    (try rw [List.nil_append] at o3)
    have b3 := o3.b
    have hz3 := b3.size
    obtain ⟨z0, z1, z2, z3, z4, z5, z6, z7, z8⟩ := row9z2 (hre'.keep (b3.block _ hSq.2))
    have HL3 : Hid (EP el w3 (fun b => S b \/ New w1 w2 b) [.int .i64 zk, .string zs, .slice zam znm zcm, .int .i64 zvk, .bool zvb, .int .i64 zvi, .string zvs, .slice zval zvnl zvcl, .slice zvam zvnm zvcm]) := El.lies_keep (fun b hb => b3.block b hb.2) (fun b h => .inr h) HLE.out
    clear O2 gr3
    go_wp2_with (at_builtin; go_loud (refine wpl_outP rfl (.tmp 86) (.tmp 90) rfl _ rfl o3 HS2.out HL3.out (fun b h => .inl h) 1 rfl (by omega) ?_))
    intro g4 cap4 w4 o4
    obtain ⟨a5, c5, b5, o5, hv5, hh5, hl5⟩ := o4.list
    have b4 := o4.b
    have hz4 := b4.size
    have HL5 := hmk hl5
    have k4 : Hid (∀ b, S b -> w4.heap[b]? = w.heap[b]?) := fun b hb => (b4.block b (HS2.out b (.inl hb))).trans (k2.out b hb)
    have IC := hmk (IH.out (p ++ [el]) (Tw (fun b => S b \/ New w1 w2 b) w2 w4) a5 c5 b5 o5 _ w4 hh5 hl5 (V.lies_keep (fun h => h) k4.out (fun b h => .inl (.inl h)) _ HLX.out) (fun b hb => hb.elim (fun h => by have := HS2.out b h; omega) (fun h => h.2)) (by rw [List.length_append, List.length_singleton]; omega) (by omega) hkz.2)
    obtain ⟨t0, t1, t2, t3, t4, t5⟩ := row6z ((hxb.keep (b2.block _ (by omega))).keep (b4.block _ (by omega)))
    clear o3 o4 hl5 b3 HL3 HLE hre' z0 z1 z2 z3 z4 z5 z6 z7 z8 IH HLX
    clear HL5 hh5
    generalize (p ++ [el]).length = np at IC hv5
    rw [hv5]
    go_wp2_with fail
    refine IC.out.mono ?_
    rintro e w6 ⟨b6, ⟨hn, rfl⟩ | ⟨L, a6, c6, b6', o6, hL, rfl, hh6, hl6⟩⟩
    ·have HN : Hid (D = none) := by show _ = _; rw [HD.out, HST3.out, hn]; rfl
     have BW6 := hmk (BW.out.trans ((b2.trans ((b4.trans (b6.mono (by omega))).mono (by omega))).mono (by omega)))
     clear HST3 IC
     go_wp2_with fail
     go_ret2
     exact ⟨BW6.out, .inl ⟨HN.out, rfl⟩⟩
    ·have HN : Hid (D = (dpM true m.length p o (m.drop (j + 1))).map ((A ++ L) ++ ·)) := by
      show _ = _
      rw [HD.out, HST3.out, hL]
      cases dpM true m.length p o (m.drop (j + 1)) <;> simp
     have hLl := HLN.out L hL
     have hz6 := b6.size
     have O6 := OX.out.below (b2.trans ((b4.trans (b6.mono (by omega))).mono (by omega)))
     have hT : Hid (∀ b, Tw (Tw (fun b => S b \/ New w1 w2 b) w2 w4) w4 w6 b -> S b \/ (w0.heap.size <= b /\ b < w6.heap.size /\ some b ≠ u8.ownBlock)) := by
      have key : ∀ b, w1.heap.size <= b -> b < w6.heap.size -> S b \/ (w0.heap.size <= b /\ b < w6.heap.size /\ some b ≠ u8.ownBlock) := fun b h1 h2 => .inr ⟨by omega, h2, fun e => by have := HOL.out b e.symm; omega⟩
      rintro b (((h | h) | h) | h)
      ·exact .inl h
      ·exact key b h.1 (by have := h.2; omega)
      ·exact key b (by have := h.1; omega) (by have := h.2; omega)
      ·exact key b (by have := h.1; omega) h.2
     clear HST3 IC
     go_wp2_with (at_builtin; go_loud (refine wpl_outCat rfl (.tmp 100) (.tmp 101) rfl _ L rfl O6 hS0 a6 c6 b6' o6 rfl hh6 hl6 hT.out (by omega) ?_))
     intro v7 w7 o7 gr7
     clear O6 hl6 gr7
     go_wp2_with fail
     go_roundw
     case rel => exact ⟨j + 1, A ++ L, o, by omega, by go_num, rfl, o7, by rw [List.length_append]; omega, HN⟩
     case measure => simp [RowKit.intOf]; omega
  ·obtain rfl : j = m.length := by omega
   have y1 : ¬ (m.length : Int) < m.length := by omega
   have HN : Hid (D = some (A ++ if o then [p] else [])) := by
    show _ = _
    rw [HD.out, List.drop_length, dpM]; rfl
   have hTw : Hid (∀ W b, Tw S w0 W b -> Tw S w W b) := fun W b h => h.imp id (fun h => ⟨by omega, h.2⟩)
   cases o with
   | false =>
    obtain ⟨a7, c7, b7, o7, rfl, hd7, hl7⟩ := oj.list
    have HB := hmk (B0.trans (bj.mono (by omega)))
    have HL7 := hmk (liesQ_keep (fun _ _ => rfl) (hTw.out _) hl7)
    clear oj hl7 HD
    go_wp2_with fail
    go_ret2
    exact ⟨HB.out, .inr ⟨A, a7, c7, b7, o7, by rw [HN.out]; simp, rfl, hd7, HL7.out⟩⟩
   | true =>
    have HEQ : Hid (EQ p wr S [.slice ap p.length cp]) := ⟨_, rfl, ap, cp, bp, op, rfl, hap, liesP_keep (kb.out wr bj) (fun _ h => h) HP.out⟩
    clear HD
    go_wp2_with (at_builtin; go_loud (refine wpl_outQ rfl (.tmp 104) (.tmp 106) rfl _ rfl oj hS0 HEQ.out (fun b h => .inl h) 1 rfl (by omega) ?_))
    intro g5 cap w5 o5
    obtain ⟨a7, c7, b7, o7, hv7, hd7, hl7⟩ := o5.list
    have HB := hmk (B0.trans (o5.b.mono (by omega)))
    have HL7 := hmk (liesQ_keep (fun _ _ => rfl) (hTw.out _) hl7)
    clear oj hl7 o5 HEQ
    go_wp2_with fail
    go_ret2
    exact ⟨HB.out, .inr ⟨A ++ [p], a7, c7, b7, o7, by rw [HN.out]; simp, by rw [hv7]; rfl, hd7, HL7.out⟩⟩
end Go.Proofs.YtdgfjdhobdfglaaGreatDoor
