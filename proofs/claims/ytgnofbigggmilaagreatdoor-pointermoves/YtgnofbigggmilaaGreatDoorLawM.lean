import Derived.Test.YtgnofbigggmilaaGreatDoorGrwA
import Derived.Test.YtgnofbigggmilaaGreatDoorG47
import Derived.Test.YtgnofbigggmilaaGreatDoorG48
import Derived.Test.YtgnofbigggmilaaGreatDoorAwkA
set_option linter.unusedSimpArgs false
set_option linter.unusedVariables false
namespace Go.Proofs.YtgnofbigggmilaaGreatDoor
open Go.RowKit Go.Lib
theorem two_lie {w : World} {S : Nat → Prop} {v x : V} {g : Nat} {k : Int} {b : Bool} {i : Int} {s : ByteArray} {al : Option Addr} {nl cl : Nat} {am : Option Addr} {nm cm : Nat} {xk : Int} {xb : Bool} {xi : Int} {xs : ByteArray} {xal : Option Addr} {xnl xcl : Nat} {xam : Option Addr} {xnm xcm : Nat} (hv : v.lies false w S [.int .i64 k, .bool b, .int .i64 i, .string s, .slice al nl cl, .slice am nm cm]) (hx : x.lies false w S [.int .i64 xk, .bool xb, .int .i64 xi, .string xs, .slice xal xnl xcl, .slice xam xnm xcm]) (hg : S g) (hb : w.heap[g]? = some (.cells #[.int .i64 k, .bool b, .int .i64 i, .string s, .slice al nl cl, .slice am nm cm, .int .i64 xk, .bool xb, .int .i64 xi, .string xs, .slice xal xnl xcl, .slice xam xnm xcm] 25)) : liesL false w S [v, x] g 0 := by
 refine liesL_mk fun q hq => ⟨hg, ?_⟩
 rcases q with _ | _ | q
 ·refine ⟨_, fun j u hu => ?_, hv⟩
  rw [cell_of_block hb]
  rcases j with _ | _ | _ | _ | _ | _ | j <;> first | (simp at hu) | skip
  all_goals first | (injection hu with hu; subst hu; rfl) | (exact absurd hu (by simp)) | (simpa using hu)
 ·refine ⟨_, fun j u hu => ?_, hx⟩
  rw [cell_of_block hb]
  rcases j with _ | _ | _ | _ | _ | _ | j <;> first | (simp at hu) | skip
  all_goals first | (injection hu with hu; subst hu; rfl) | (exact absurd hu (by simp)) | (simpa using hu)
 ·exact absurd hq (by simp only [List.length_cons, List.length_nil]; omega)
structure OneMid (v : V) (wc wx : World) (A : Nat) (gk : Int) (gb : Bool) (gi : Int) (gs : ByteArray) (gal : Option Addr) (gnl gcl : Nat) (gam : Option Addr) (gnm gcm : Nat) : Prop where
 bel : Below wc.heap.size wc wx
 bA : wx.heap[A]? = some (.cells #[.int .i64 gk, .bool gb, .int .i64 gi, .string gs, .slice gal gnl gcl, .slice gam gnm gcm] 25)
 lo : wc.heap.size ≤ A ∧ A < wx.heap.size
 l1 : v.lies false wx (New wc wx) [.int .i64 gk, .bool gb, .int .i64 gi, .string gs, .slice gal gnl gcl, .slice gam gnm gcm]
theorem one_mid {v : V} {wc wq : World} {A lo hi : Nat} {gk : Int} {gb : Bool} {gi : Int} {gs : ByteArray} {gal : Option Addr} {gnl gcl : Nat} {gam : Option Addr} {gnm gcm : Nat} (bel : Below wc.heap.size wc wq) (hA : wc.heap.size ≤ A) (hA' : A < lo ∨ hi ≤ A) (hlo : wc.heap.size ≤ lo) (hhi : hi ≤ wq.heap.size)
 (mA : wq.heap[A]? = some (.cells #[.int .i64 0, .bool false, .int .i64 0, .string ⟨#[]⟩, .slice none 0 0, .slice none 0 0] 25)) (l1 : v.lies false wq (fun y => lo ≤ y ∧ y < hi) [.int .i64 gk, .bool gb, .int .i64 gi, .string gs, .slice gal gnl gcl, .slice gam gnm gcm]) : OneMid v wc ((((((wq.setCell ⟨A, 0, none⟩ (.int .i64 gk)).setCell ⟨A, 1, none⟩ (.bool gb)).setCell ⟨A, 2, none⟩ (.int .i64 gi)).setCell ⟨A, 3, none⟩ (.string gs)).setCell ⟨A, 4, none⟩ (.slice gal gnl gcl)).setCell ⟨A, 5, none⟩ (.slice gam gnm gcm)) A gk gb gi gs gal gnl gcl gam gnm gcm := by
 have zA : A < wq.heap.size := (Array.getElem?_eq_some_iff.1 mA).1
 have oA := six_o wq A (.int .i64 gk) (.bool gb) (.int .i64 gi) (.string gs) (.slice gal gnl gcl) (.slice gam gnm gcm)
 have xA := box_six mA (.int .i64 gk) (.bool gb) (.int .i64 gi) (.string gs) (.slice gal gnl gcl) (.slice gam gnm gcm)
 have gA : wq.grownBy ((((((wq.setCell ⟨A, 0, none⟩ (.int .i64 gk)).setCell ⟨A, 1, none⟩ (.bool gb)).setCell ⟨A, 2, none⟩ (.int .i64 gi)).setCell ⟨A, 3, none⟩ (.string gs)).setCell ⟨A, 4, none⟩ (.slice gal gnl gcl)).setCell ⟨A, 5, none⟩ (.slice gam gnm gcm)) (some A) := grown_set (grown_set (grown_set (grown_set (grown_set (grown_set (World.grownBy.refl wq _) 0 _) 1 _) 2 _) 3 _) 4 _) 5 _
 have sA : ((((((wq.setCell ⟨A, 0, none⟩ (.int .i64 gk)).setCell ⟨A, 1, none⟩ (.bool gb)).setCell ⟨A, 2, none⟩ (.int .i64 gi)).setCell ⟨A, 3, none⟩ (.string gs)).setCell ⟨A, 4, none⟩ (.slice gal gnl gcl)).setCell ⟨A, 5, none⟩ (.slice gam gnm gcm)).heap.size = wq.heap.size := by simp only [size_set1]
 generalize ((((((wq.setCell ⟨A, 0, none⟩ (.int .i64 gk)).setCell ⟨A, 1, none⟩ (.bool gb)).setCell ⟨A, 2, none⟩ (.int .i64 gi)).setCell ⟨A, 3, none⟩ (.string gs)).setCell ⟨A, 4, none⟩ (.slice gal gnl gcl)).setCell ⟨A, 5, none⟩ (.slice gam gnm gcm)) = wx at *
 have hz := bel.size
 exact ⟨⟨gA.os.trans bel.os, gA.tape.trans bel.tape, gA.output.trans bel.output, by omega, fun z hz => (oA z (by omega)).trans (bel.block z (by omega))⟩, xA, ⟨by omega, by omega⟩, V.lies_keep (fun h => h) (fun z hz => oA z (by omega)) (fun z hz => ⟨by omega, by omega⟩) _ l1⟩
set_option maxHeartbeats 40000000 in
set_option maxRecDepth 100000 in
theorem moves_walk (v x : V) (at_ : Int) (key : ByteArray) (cs ds : List Value) (w : World) (tg : Tg w) (hv : v.lies false w (Old w) cs) (hx : x.lies false w (Old w) ds) (hp : key.size ≤ 140737488355328) : Calls Tryz.prog 4 #[.agg cs.toArray, .int .i64 at_, .agg ds.toArray, .string key] w (BPost true w) := by
 obtain ⟨k, b, i, s, al, nl, cl, am, nm, cm, rfl⟩ := V.ten hv
 obtain ⟨xk, xb, xi, xs, xal, xnl, xcl, xam, xnm, xcm, rfl⟩ := V.ten hx
 have HL : Hid (∀ W, Below w.heap.size w W → v.lies false W (Old W) [.int .i64 k, .bool b, .int .i64 i, .string s, .slice al nl cl, .slice am nm cm]) := fun W hB => V.lies_keep (fun h => h) (fun x hx => hB.block x hx) (fun x hx => Nat.lt_of_lt_of_le hx hB.size) _ hv
 have HX : Hid (∀ W, Below w.heap.size w W → x.lies false W (Old W) [.int .i64 xk, .bool xb, .int .i64 xi, .string xs, .slice xal xnl xcl, .slice xam xnm xcm]) := fun W hB => V.lies_keep (fun h => h) (fun x hx => hB.block x hx) (fun x hx => Nat.lt_of_lt_of_le hx hB.size) _ hx
 have HL0 : Hid (∀ W, Below w.heap.size w W → v.lies false W (Old w) [.int .i64 k, .bool b, .int .i64 i, .string s, .slice al nl cl, .slice am nm cm]) := fun W hB => V.lies_keep (fun h => h) (fun x hx => hB.block x hx) (fun x hx => hx) _ hv
 have HX0 : Hid (∀ W, Below w.heap.size w W → x.lies false W (Old w) [.int .i64 xk, .bool xb, .int .i64 xi, .string xs, .slice xal xnl xcl, .slice xam xnm xcm]) := fun W hB => V.lies_keep (fun h => h) (fun x hx => hB.block x hx) (fun x hx => hx) _ hx
 have HT : Hid (∀ W, Below w.heap.size w W → Tg W) := fun W hb => tg.below hb tg.z
 have b2 : Below w.heap.size w ((w.alloc (.cells #[.int .i64 k, .bool b, .int .i64 i, .string s, .slice al nl cl, .slice am nm cm] 25)).alloc (.cells #[.int .i64 xk, .bool xb, .int .i64 xi, .string xs, .slice xal xnl xcl, .slice xam xnm xcm] 25)) := two_below w _ _
 have hz2 : ((w.alloc (.cells #[.int .i64 k, .bool b, .int .i64 i, .string s, .slice al nl cl, .slice am nm cm] 25)).alloc (.cells #[.int .i64 xk, .bool xb, .int .i64 xi, .string xs, .slice xal xnl xcl, .slice xam xnm xcm] 25)).heap.size = w.heap.size + 2 := by rw [alloc_size, alloc_size]
 have b3 : Below ((w.alloc (.cells #[.int .i64 k, .bool b, .int .i64 i, .string s, .slice al nl cl, .slice am nm cm] 25)).alloc (.cells #[.int .i64 xk, .bool xb, .int .i64 xi, .string xs, .slice xal xnl xcl, .slice xam xnm xcm] 25)).heap.size ((w.alloc (.cells #[.int .i64 k, .bool b, .int .i64 i, .string s, .slice al nl cl, .slice am nm cm] 25)).alloc (.cells #[.int .i64 xk, .bool xb, .int .i64 xi, .string xs, .slice xal xnl xcl, .slice xam xnm xcm] 25)) (((w.alloc (.cells #[.int .i64 k, .bool b, .int .i64 i, .string s, .slice al nl cl, .slice am nm cm] 25)).alloc (.cells #[.int .i64 xk, .bool xb, .int .i64 xi, .string xs, .slice xal xnl xcl, .slice xam xnm xcm] 25)).alloc (.cells #[.int .i64 k, .bool b, .int .i64 i, .string s, .slice al nl cl, .slice am nm cm, .int .i64 xk, .bool xb, .int .i64 xi, .string xs, .slice xal xnl xcl, .slice xam xnm xcm] 25)) := one_belowG _ _
 have hz3 : (((w.alloc (.cells #[.int .i64 k, .bool b, .int .i64 i, .string s, .slice al nl cl, .slice am nm cm] 25)).alloc (.cells #[.int .i64 xk, .bool xb, .int .i64 xi, .string xs, .slice xal xnl xcl, .slice xam xnm xcm] 25)).alloc (.cells #[.int .i64 k, .bool b, .int .i64 i, .string s, .slice al nl cl, .slice am nm cm, .int .i64 xk, .bool xb, .int .i64 xi, .string xs, .slice xal xnl xcl, .slice xam xnm xcm] 25)).heap.size = w.heap.size + 3 := by rw [alloc_size, hz2]
 have Bww0 : Below w.heap.size w (((w.alloc (.cells #[.int .i64 k, .bool b, .int .i64 i, .string s, .slice al nl cl, .slice am nm cm] 25)).alloc (.cells #[.int .i64 xk, .bool xb, .int .i64 xi, .string xs, .slice xal xnl xcl, .slice xam xnm xcm] 25)).alloc (.cells #[.int .i64 k, .bool b, .int .i64 i, .string s, .slice al nl cl, .slice am nm cm, .int .i64 xk, .bool xb, .int .i64 xi, .string xs, .slice xal xnl xcl, .slice xam xnm xcm] 25)) := b2.trans (b3.mono (by omega))
 have hvw0 := (b3.block w.heap.size (by omega)).trans (alloc2_keep1 w (.cells #[.int .i64 k, .bool b, .int .i64 i, .string s, .slice al nl cl, .slice am nm cm] 25) (.cells #[.int .i64 xk, .bool xb, .int .i64 xi, .string xs, .slice xal xnl xcl, .slice xam xnm xcm] 25))
 have hxw0 := (b3.block (w.heap.size + 1) (by omega)).trans (alloc2_new w (.cells #[.int .i64 k, .bool b, .int .i64 i, .string s, .slice al nl cl, .slice am nm cm] 25) (.cells #[.int .i64 xk, .bool xb, .int .i64 xi, .string xs, .slice xal xnl xcl, .slice xam xnm xcm] 25))
 have hl3 := heap_alloc_new ((w.alloc (.cells #[.int .i64 k, .bool b, .int .i64 i, .string s, .slice al nl cl, .slice am nm cm] 25)).alloc (.cells #[.int .i64 xk, .bool xb, .int .i64 xi, .string xs, .slice xal xnl xcl, .slice xam xnm xcm] 25)) (.cells #[.int .i64 k, .bool b, .int .i64 i, .string s, .slice al nl cl, .slice am nm cm, .int .i64 xk, .bool xb, .int .i64 xi, .string xs, .slice xal xnl xcl, .slice xam xnm xcm] 25)
 rw [hz2] at hl3
 have g0 := alloc2_keep1 w (.cells #[.int .i64 k, .bool b, .int .i64 i, .string s, .slice al nl cl, .slice am nm cm] 25) (.cells #[.int .i64 xk, .bool xb, .int .i64 xi, .string xs, .slice xal xnl xcl, .slice xam xnm xcm] 25)
 have g1 := alloc2_new w (.cells #[.int .i64 k, .bool b, .int .i64 i, .string s, .slice al nl cl, .slice am nm cm] 25) (.cells #[.int .i64 xk, .bool xb, .int .i64 xi, .string xs, .slice xal xnl xcl, .slice xam xnm xcm] 25)
 obtain ⟨cv0, cv1, cv2, cv3, cv4, cv5⟩ := sixC g0
 obtain ⟨cx0, cx1, cx2, cx3, cx4, cx5⟩ := sixC g1
 have CV := hmk (values_any [v, x] (Old (((w.alloc (.cells #[.int .i64 k, .bool b, .int .i64 i, .string s, .slice al nl cl, .slice am nm cm] 25)).alloc (.cells #[.int .i64 xk, .bool xb, .int .i64 xi, .string xs, .slice xal xnl xcl, .slice xam xnm xcm] 25)).alloc (.cells #[.int .i64 k, .bool b, .int .i64 i, .string s, .slice al nl cl, .slice am nm cm, .int .i64 xk, .bool xb, .int .i64 xi, .string xs, .slice xal xnl xcl, .slice xam xnm xcm] 25))) (some ⟨w.heap.size + 2, 0, none⟩) 2 (w.heap.size + 2) 0 (((w.alloc (.cells #[.int .i64 k, .bool b, .int .i64 i, .string s, .slice al nl cl, .slice am nm cm] 25)).alloc (.cells #[.int .i64 xk, .bool xb, .int .i64 xi, .string xs, .slice xal xnl xcl, .slice xam xnm xcm] 25)).alloc (.cells #[.int .i64 k, .bool b, .int .i64 i, .string s, .slice al nl cl, .slice am nm cm, .int .i64 xk, .bool xb, .int .i64 xi, .string xs, .slice xal xnl xcl, .slice xam xnm xcm] 25)) ⟨Nat.le_refl _, by (show 2 ≤ maxLen; unfold maxLen; omega), .inr rfl, fun h => by cases h⟩ (two_lie (HL.out _ Bww0) (HX.out _ Bww0) (show w.heap.size + 2 < (((w.alloc (.cells #[.int .i64 k, .bool b, .int .i64 i, .string s, .slice al nl cl, .slice am nm cm] 25)).alloc (.cells #[.int .i64 xk, .bool xb, .int .i64 xi, .string xs, .slice xal xnl xcl, .slice xam xnm xcm] 25)).alloc (.cells #[.int .i64 k, .bool b, .int .i64 i, .string s, .slice al nl cl, .slice am nm cm, .int .i64 xk, .bool xb, .int .i64 xi, .string xs, .slice xal xnl xcl, .slice xam xnm xcm] 25)).heap.size by omega) hl3) (fun y hy => hy))
 clear hv hx tg b2 b3 hz2 hl3 g0 g1
 go_enter Tryz.func4, Tryz.ntmps4
 go_wp2_with fail
 clear cv0 cv1 cv2 cv3 cv4 cv5 cx0 cx1 cx2 cx3 cx4 cx5
 generalize (((w.alloc (.cells #[.int .i64 k, .bool b, .int .i64 i, .string s, .slice al nl cl, .slice am nm cm] 25)).alloc (.cells #[.int .i64 xk, .bool xb, .int .i64 xi, .string xs, .slice xal xnl xcl, .slice xam xnm xcm] 25)).alloc (.cells #[.int .i64 k, .bool b, .int .i64 i, .string s, .slice al nl cl, .slice am nm cm, .int .i64 xk, .bool xb, .int .i64 xi, .string xs, .slice xal xnl xcl, .slice xam xnm xcm] 25)) = w0 at *
 refine CV.out.mono ?_
 rintro e w1 ⟨r, rfl, hr, b1⟩
 have hzw1 := b1.size
 have hvw1 := (b1.block (w.heap.size) (by omega)).trans hvw0
 have hxw1 := (b1.block (w.heap.size + 1) (by omega)).trans hxw0
 have Bww1 := Bww0.trans (b1.mono (by omega))
 cases r with
 | true =>
  go_wp2_with fail
  go_ret
  exact ⟨rfl, Bww1⟩
 | false =>
  have hwt := hr rfl
  simp only [wtL] at hwt
  clear hr CV
  have CAW := hmk (awake_any w1 (HT.out w1 Bww1))
  go_wp2_with fail
  refine CAW.out.mono ?_
  rintro e w2 ⟨rfl, b2⟩
  clear CAW
  have hzw2 := b2.size
  have hvw2 := (b2.block (w.heap.size) (by omega)).trans hvw1
  have hxw2 := (b2.block (w.heap.size + 1) (by omega)).trans hxw1
  have Bww2 := Bww1.trans (b2.mono (by omega))
  have TB : Hid (∀ W, Tg W → Tb W) := fun W T => ⟨T.t.u, by have := T.z; omega⟩
  have C1 : Hid (∀ z : Sub w2.heap.size w2, Calls Tryz.prog 20 #[.agg #[.int .i64 k, .bool b, .int .i64 i, .string s, .slice al nl cl, .slice am nm cm], .int .i64 38] z.w fun e w'' => e = .returned (.int .i64 (chkE v 38 : Int)) ∧ ∃ y : Sub w2.heap.size w2, w'' = y.w) := sub_call fun W hb => by
   have B := Bww2.trans (hb.mono (by omega))
   have T := HT.out W B
   refine (check_any false v 38 (Old W) _ W (TB.out W T) (HL.out W B) (fun y hy => hy) (by omega)).mono ?_
   rintro e W' ⟨he, h2⟩
   exact ⟨he, hb.trans (h2.mono hb.size)⟩
  have C2 : Hid (∀ z : Sub w2.heap.size w2, Calls Tryz.prog 20 #[.agg #[.int .i64 xk, .bool xb, .int .i64 xi, .string xs, .slice xal xnl xcl, .slice xam xnm xcm], .int .i64 0] z.w fun e w'' => e = .returned (.int .i64 (chkE x 0 : Int)) ∧ ∃ y : Sub w2.heap.size w2, w'' = y.w) := sub_call fun W hb => by
   have B := Bww2.trans (hb.mono (by omega))
   have T := HT.out W B
   refine (check_any false x 0 (Old W) _ W (TB.out W T) (HX.out W B) (fun y hy => hy) (by omega)).mono ?_
   rintro e W' ⟨he, h2⟩
   exact ⟨he, hb.trans (h2.mono hb.size)⟩
  have C3 : Hid (∀ z : Sub w2.heap.size w2, Calls Tryz.prog 21 #[.agg #[.int .i64 k, .bool b, .int .i64 i, .string s, .slice al nl cl, .slice am nm cm]] z.w fun e w'' => e = .returned (.int .i64 (sizN v)) ∧ ∃ y : Sub w2.heap.size w2, w'' = y.w) := sub_call fun W hb => by
   have B := Bww2.trans (hb.mono (by omega))
   have T := HT.out W B
   refine (nodes_any false v (Old W) _ W (TB.out W T) (HL.out W B) (fun y hy => hy) (by omega)).mono ?_
   rintro e W' ⟨he, h2⟩
   exact ⟨he, hb.trans (h2.mono hb.size)⟩
  have C4 : Hid (∀ z : Sub w2.heap.size w2, Calls Tryz.prog 22 #[.agg #[.int .i64 k, .bool b, .int .i64 i, .string s, .slice al nl cl, .slice am nm cm]] z.w fun e w'' => e = .returned (.int .i64 (byV v : Int)) ∧ ∃ y : Sub w2.heap.size w2, w'' = y.w) := sub_call fun W hb => by
   have B := Bww2.trans (hb.mono (by omega))
   have T := HT.out W B
   refine (long_any v (Old W) _ W (HL.out W B) (fun y hy => hy) (by omega)).mono ?_
   rintro e W' ⟨he, h2⟩
   exact ⟨he, hb.trans (h2.mono hb.size)⟩
  have C5 : Hid (∀ z : Sub w2.heap.size w2, Calls Tryz.prog 22 #[.agg #[.int .i64 xk, .bool xb, .int .i64 xi, .string xs, .slice xal xnl xcl, .slice xam xnm xcm]] z.w fun e w'' => e = .returned (.int .i64 (byV x : Int)) ∧ ∃ y : Sub w2.heap.size w2, w'' = y.w) := sub_call fun W hb => by
   have B := Bww2.trans (hb.mono (by omega))
   have T := HT.out W B
   refine (long_any x (Old W) _ W (HX.out W B) (fun y hy => hy) (by omega)).mono ?_
   rintro e W' ⟨he, h2⟩
   exact ⟨he, hb.trans (h2.mono hb.size)⟩
  obtain ⟨cv0, cv1, cv2, cv3, cv4, cv5⟩ := sixC hvw2
  obtain ⟨cx0, cx1, cx2, cx3, cx4, cx5⟩ := sixC hxw2
  have sv0 : ∀ z : Sub w2.heap.size w2, _ := sub_cell cv0 (by omega)
  have sv1 : ∀ z : Sub w2.heap.size w2, _ := sub_cell cv1 (by omega)
  have sv2 : ∀ z : Sub w2.heap.size w2, _ := sub_cell cv2 (by omega)
  have sv3 : ∀ z : Sub w2.heap.size w2, _ := sub_cell cv3 (by omega)
  have sv4 : ∀ z : Sub w2.heap.size w2, _ := sub_cell cv4 (by omega)
  have sv5 : ∀ z : Sub w2.heap.size w2, _ := sub_cell cv5 (by omega)
  have sx0 : ∀ z : Sub w2.heap.size w2, _ := sub_cell cx0 (by omega)
  have sx1 : ∀ z : Sub w2.heap.size w2, _ := sub_cell cx1 (by omega)
  have sx2 : ∀ z : Sub w2.heap.size w2, _ := sub_cell cx2 (by omega)
  have sx3 : ∀ z : Sub w2.heap.size w2, _ := sub_cell cx3 (by omega)
  have sx4 : ∀ z : Sub w2.heap.size w2, _ := sub_cell cx4 (by omega)
  have sx5 : ∀ z : Sub w2.heap.size w2, _ := sub_cell cx5 (by omega)
  clear cv0 cv1 cv2 cv3 cv4 cv5 cx0 cx1 cx2 cx3 cx4 cx5
  by_cases h1 : chkE v 38 = 0
  rotate_left
  ·have hb1 : ((chkE v 38 : Int) != 0) = true := by simp; omega
   generalize chkE v 38 = n1 at *
   clear C2 C3 C4 C5
   go_wp2_with fail
   refine wp_region_sub w2.heap.size (by kernel_rfl) (by kernel_rfl) ?_
   repeat (go_big_quiet_step (first | with_reducible exact C1.out _))
   refine wpQuiet_nil ?_
   rintro w3 ⟨⟨w3', b3⟩, hj⟩
   have hj' : w3 = w3' := hj
   subst hj'
   clear hj
   go_wp2_with fail
   go_ret
   exact ⟨rfl, Bww2.trans (b3.mono (by omega))⟩
  by_cases h2 : chkE x 0 = 0
  rotate_left
  ·have hb2 : ((chkE x 0 : Int) != 0) = true := by simp; omega
   rw [h1] at C1
   generalize chkE x 0 = n2 at *
   clear C3 C4 C5
   go_wp2_with fail
   refine wp_region_sub w2.heap.size (by kernel_rfl) (by kernel_rfl) ?_
   repeat (go_big_quiet_step (first | with_reducible exact C1.out _ | with_reducible exact C2.out _))
   refine wpQuiet_nil ?_
   rintro w3 ⟨⟨w3', b3⟩, hj⟩
   have hj' : w3 = w3' := hj
   subst hj'
   clear hj
   go_wp2_with fail
   go_ret
   exact ⟨rfl, Bww2.trans (b3.mono (by omega))⟩
  have a1 := (chk_iff v 38 (by omega)).1 h1
  have a2 := (chk_iff x 0 (by omega)).1 h2
  have hcv : chkE v 40 = 0 := chk40_of a1.1 (by have := a1.2.1; omega) a1.2.2.1 a1.2.2.2
  rw [h1] at C1
  rw [h2] at C2
  rw [sizN_of hcv] at C3
  have hbv := a1.2.2.2
  have hbx := a2.2.2.2
  clear a1 a2
  by_cases h3 : ndV v ≤ 3000
  rotate_left
  ·have y3 : (3000 : Int) < (ndV v : Int) := by omega
   generalize ndV v = n3 at *
   clear C4 C5
   go_wp2_with fail
   refine wp_region_sub w2.heap.size (by kernel_rfl) (by kernel_rfl) ?_
   repeat (go_big_quiet_step (first | with_reducible exact C1.out _ | with_reducible exact C2.out _ | with_reducible exact C3.out _))
   refine wpQuiet_nil ?_
   rintro w3 ⟨⟨w3', b3⟩, hj⟩
   have hj' : w3 = w3' := hj
   subst hj'
   clear hj
   go_wp2_with fail
   go_ret
   exact ⟨rfl, Bww2.trans (b3.mono (by omega))⟩
  have y3 : ¬ (3000 : Int) < (ndV v : Int) := by omega
  have yb3 : decide ((3000 : Int) < (ndV v : Int)) = false := decide_eq_false y3
  have y4 : (-9223372036854775808 : Int) ≤ (byV v : Int) + (byV x : Int) ∧ (byV v : Int) + (byV x : Int) ≤ 9223372036854775807 := by omega
  have y5 : (-9223372036854775808 : Int) ≤ (byV v : Int) + (byV x : Int) + (key.size : Int) ∧ (byV v : Int) + (byV x : Int) + (key.size : Int) ≤ 9223372036854775807 := by omega
  by_cases h4 : byV v + byV x + key.size ≤ 1000000
  rotate_left
  ·have y6 : (1000000 : Int) < (byV v : Int) + (byV x : Int) + (key.size : Int) := by omega
   have yb6 : decide ((1000000 : Int) < (byV v : Int) + (byV x : Int) + (key.size : Int)) = true := decide_eq_true y6
   generalize ndV v = n3 at *
   generalize byV v = n4 at *
   generalize byV x = n5 at *
   go_wp2_with fail
   refine wp_region_sub w2.heap.size (by kernel_rfl) (by kernel_rfl) ?_
   repeat (go_big_quiet_step (first | with_reducible exact C1.out _ | with_reducible exact C2.out _ | with_reducible exact C3.out _ | with_reducible exact C4.out _ | with_reducible exact C5.out _))
   refine wpQuiet_nil ?_
   rintro w3 ⟨⟨w3', b3⟩, hj⟩
   have hj' : w3 = w3' := hj
   subst hj'
   clear hj
   go_wp2_with fail
   go_ret
   exact ⟨rfl, Bww2.trans (b3.mono (by omega))⟩
  have y6 : ¬ (1000000 : Int) < (byV v : Int) + (byV x : Int) + (key.size : Int) := by omega
  have yb6 : decide ((1000000 : Int) < (byV v : Int) + (byV x : Int) + (key.size : Int)) = false := decide_eq_false y6
  have hm := hmk (mv_of h1 h2 h3 h4)
  clear h1 h2
  generalize ndV v = n3 at C3 y3 yb3 h3
  generalize byV v = n4 at C4 y4 y5 y6 yb6 h4 hbv
  generalize byV x = n5 at C5 y4 y5 y6 yb6 h4 hbx
  go_wp2_with fail
  refine wp_region_sub w2.heap.size (by kernel_rfl) (by kernel_rfl) ?_
  repeat (go_big_quiet_step (first | with_reducible exact C1.out _ | with_reducible exact C2.out _ | with_reducible exact C3.out _ | with_reducible exact C4.out _ | with_reducible exact C5.out _))
  refine wpQuiet_nil ?_
  rintro w3 ⟨⟨w3', b3⟩, hj⟩
  have hj' : w3 = w3' := hj
  subst hj'
  clear hj
  have hzw3 := b3.size
  have hvw3 := (b3.block (w.heap.size) (by omega)).trans hvw2
  have hxw3 := (b3.block (w.heap.size + 1) (by omega)).trans hxw2
  have Bww3 := Bww2.trans (b3.mono (by omega))
  clear C1 C2 C3 C4 C5 TB y3 yb3 y4 y5 y6 yb6 h3 h4 hbv hbx sv0 sx0 sv1 sx1 sv2 sx2 sv3 sx3 sv4 sx4 sv5 sx5
  obtain ⟨cv0, cv1, cv2, cv3, cv4, cv5⟩ := sixC hvw3
  go_wp2_with fail
  clear cv0 cv1 cv2 cv3 cv4 cv5
  refine (places_at v x key (Old w3) _ w3 (HT.out w3 Bww3) hm.out (HL.out w3 Bww3) (fun x hx => hx) (by omega)).mono ?_
  rintro e w4 ⟨sv, l, rfl, hls, hpl, b4⟩
  obtain ⟨lg, lo, lc, rfl, hle, hlg, hcell⟩ := hls.2 hpl.1
  have HC : Hid (∀ W, Below w4.heap.size w4 W → LiesS W (.slice (some ⟨lg, lo, none⟩) l.length lc) l ∧ ∀ j (h : j < l.length), W.cell? ⟨lg, lo + j, none⟩ = some (.string l[j])) := fun W hb => ⟨hls.below hb, fun j h => (hb.cell (p := ⟨lg, lo + j, none⟩) hlg).trans (hcell j h)⟩
  have hzw4 := b4.size
  have hvw4 := (b4.block (w.heap.size) (by omega)).trans hvw3
  have hxw4 := (b4.block (w.heap.size + 1) (by omega)).trans hxw3
  have Bww4 := Bww3.trans (b4.mono (by omega))
  have Bcw4 : Below w4.heap.size w4 w4 := Below.refl _ _
  clear hls hcell b4
  go_wp2_with fail
  refine (chosen_any l _ at_ w4 (HC.out w4 Bcw4).1 hpl.1 (by have := hpl.2.1; omega)).mono ?_
  rintro e w5 ⟨j, hj, rfl, b5⟩
  have hzw5 := b5.size
  have hvw5 := (b5.block (w.heap.size) (by omega)).trans hvw4
  have hxw5 := (b5.block (w.heap.size + 1) (by omega)).trans hxw4
  have Bww5 := Bww4.trans (b5.mono (by omega))
  have Bcw5 := Bcw4.trans (b5.mono (by omega))
  obtain ⟨ts, hp1⟩ := hpl.2.2 l[j] (List.getElem_mem hj)
  have hl60 := hpl.2.1
  have HPL : Hid (∀ q ∈ l, (∃ us, Place v q us) ∧ q.size ≤ 2300000) := fun q hq => by
   obtain ⟨us, h⟩ := hpl.2.2 q hq
   have := place_size hm.out h
   exact ⟨⟨us, h⟩, by omega⟩
  have hps : (l[j]).size ≤ 2300000 := (HPL.out _ (List.getElem_mem hj)).2
  generalize l[j] = p at *
  have HP := hmk hp1
  have HMS := hmk (mv_set hm.out hp1)
  have hwu := wt_chk (hm.out.cu hp1)
  have hwo := wt_chk (hm.out.co hp1)
  clear hpl hp1 hj b5
  obtain ⟨cv0, cv1, cv2, cv3, cv4, cv5⟩ := sixC hvw5
  have CG := get_any v p (Old w5) _ w5 (HT.out w5 Bww5) (HL.out w5 Bww5) (fun x hx => hx) (by omega) (by omega)
  rw [HMS.out.1] at CG
  have CG := hmk CG
  go_wp2_with fail
  clear cv0 cv1 cv2 cv3 cv4 cv5
  refine CG.out.mono ?_
  rintro e w6 ⟨cso, rfl, hlo, b6⟩
  clear CG
  obtain ⟨ok, ob, oi, os, oal, onl, ocl, oam, onm, ocm, rfl⟩ := V.ten hlo
  have HO : Hid (∀ W, Below w6.heap.size w6 W → (rgW v ts).1.lies false W (Old W) [.int .i64 ok, .bool ob, .int .i64 oi, .string os, .slice oal onl ocl, .slice oam onm ocm]) := fun W hb => V.lies_keep (fun h => h) (fun x hx => hb.block x hx.2) (fun x hx => Nat.lt_of_lt_of_le hx.2 hb.size) _ hlo
  have hzw6 := b6.size
  have hvw6 := (b6.block (w.heap.size) (by omega)).trans hvw5
  have hxw6 := (b6.block (w.heap.size + 1) (by omega)).trans hxw5
  have Bww6 := Bww5.trans (b6.mono (by omega))
  have Bcw6 := Bcw5.trans (b6.mono (by omega))
  have Baw6 : Below w6.heap.size w6 w6 := Below.refl _ _
  have bzw7 : Below w6.heap.size w6 (w6.alloc (.cells #[.int .i64 ok, .bool ob, .int .i64 oi, .string os, .slice oal onl ocl, .slice oam onm ocm] 25)) := one_belowG _ _
  have hltw7 : w6.heap.size < (w6.alloc (.cells #[.int .i64 ok, .bool ob, .int .i64 oi, .string os, .slice oal onl ocl, .slice oam onm ocm] 25)).heap.size := by rw [alloc_size]; omega
  have hvw7 := (bzw7.block (w.heap.size) (by omega)).trans hvw6
  have hxw7 := (bzw7.block (w.heap.size + 1) (by omega)).trans hxw6
  have Bww7 := Bww6.trans (bzw7.mono (by omega))
  have Bcw7 := Bcw6.trans (bzw7.mono (by omega))
  have Baw7 := Baw6.trans (bzw7.mono (by omega))
  have how7 := heap_alloc_new w6 (.cells #[.int .i64 ok, .bool ob, .int .i64 oi, .string os, .slice oal onl ocl, .slice oam onm ocm] 25)
  clear hlo b6
  go_wp2_with fail
  generalize (w6.alloc (.cells #[.int .i64 ok, .bool ob, .int .i64 oi, .string os, .slice oal onl ocl, .slice oam onm ocm] 25)) = w7 at *
  have HMO : Hid (∀ q us, Place v q us → Apart ts us → getF v q = ((rgW v us).1, 0) ∧ getF (updV v ts x) q = ((rgW v us).1, 0)) := fun q us hq ha => mv_other hm.out HP.out hq ha
  generalize updV v ts x = U at *
  clear hvw0 hxw0 hvw1 hxw1 hvw2 hxw2 hvw3 hxw3 hvw4 hxw4 hvw5 hxw5 hvw6 hxw6
  have HR1 : Hid (∀ W, Below w7.heap.size w7 W → Calls Tryz.prog 16 #[.agg #[.int .i64 k, .bool b, .int .i64 i, .string s, .slice al nl cl, .slice am nm cm]] W (AnPost v W)) := fun W hb => rcl_any v (Old W) _ W (HL.out W (Bww7.trans (hb.mono (by omega)))) (fun x hx => hx) (by omega)
  have HR2 : Hid (∀ W, Below w7.heap.size w7 W → Calls Tryz.prog 16 #[.agg #[.int .i64 xk, .bool xb, .int .i64 xi, .string xs, .slice xal xnl xcl, .slice xam xnm xcm]] W (AnPost x W)) := fun W hb => rcl_any x (Old W) _ W (HX.out W (Bww7.trans (hb.mono (by omega)))) (fun x hx => hx) (by omega)
  have HST : Hid (∀ W us ds, Below w7.heap.size w7 W → v.lies false W (Old W) us → x.lies false W (Old W) ds → Calls Tryz.prog 10 #[.agg us.toArray, .string p, .agg ds.toArray] W (NwPost (U, 0) W)) := fun W us ds hb h1 h2 => by
   have c := set_any v p x (Old W) us ds W (HT.out W (Bww7.trans (hb.mono (by omega)))) h1 h2 (fun x hx => hx) (by omega) (by omega) (by omega)
   rw [HMS.out.2.1] at c
   exact c
  go_cut [13, 14] (fun e13 e14 wx => ∃ (A_ : Nat) (gk : Int) (gb : Bool) (gi : Int) (gs : ByteArray) (gal : Option Addr) (gnl gcl : Nat) (gam : Option Addr) (gnm gcm : Nat), e13 = .pointer (some ⟨A_, 0, none⟩) ∧ e14 = .int .i64 0 ∧ OneMid U w7 wx A_ gk gb gi gs gal gnl gcl gam gnm gcm)
  case first =>
   refine wp_region_held_drew (S := (fun W => W.heap[w.heap.size]? = some (.cells #[.int .i64 k, .bool b, .int .i64 i, .string s, .slice al nl cl, .slice am nm cm] 25) ∧ W.heap[w.heap.size + 1]? = some (.cells #[.int .i64 xk, .bool xb, .int .i64 xi, .string xs, .slice xal xnl xcl, .slice xam xnm xcm] 25))) (by kernel_rfl) ⟨hvw7, hxw7⟩ (fun hHeld => ?_)
   (refine tkA 0 ?_ ?_ ?_; rotate_left 1; (intro W0 hSw; (have o0 : W0.cell? ⟨w.heap.size, 0, none⟩ = some (.int .i64 k) := (by rw [cell_of_block hSw.1]; rfl); have o1 : W0.cell? ⟨w.heap.size, 1, none⟩ = some (.bool b) := (by rw [cell_of_block hSw.1]; rfl); have o2 : W0.cell? ⟨w.heap.size, 2, none⟩ = some (.int .i64 i) := (by rw [cell_of_block hSw.1]; rfl); have o3 : W0.cell? ⟨w.heap.size, 3, none⟩ = some (.string s) := (by rw [cell_of_block hSw.1]; rfl); have o4 : W0.cell? ⟨w.heap.size, 4, none⟩ = some (.slice al nl cl) := (by rw [cell_of_block hSw.1]; rfl); have o5 : W0.cell? ⟨w.heap.size, 5, none⟩ = some (.slice am nm cm) := (by rw [cell_of_block hSw.1]; rfl)); go_simp; (try with_reducible rfl)); (try simp only [Act.put, zA, zB, zC]))
   (refine tjA 2 ?_; (try simp only [Act.put, zA, zB, zC]))
   (refine tkA 3 ?_ ?_ ?_; rotate_left 1; (intro W0 hSw; (have o0 : W0.cell? ⟨w.heap.size + 1, 0, none⟩ = some (.int .i64 xk) := (by rw [cell_of_block hSw.2]; rfl); have o1 : W0.cell? ⟨w.heap.size + 1, 1, none⟩ = some (.bool xb) := (by rw [cell_of_block hSw.2]; rfl); have o2 : W0.cell? ⟨w.heap.size + 1, 2, none⟩ = some (.int .i64 xi) := (by rw [cell_of_block hSw.2]; rfl); have o3 : W0.cell? ⟨w.heap.size + 1, 3, none⟩ = some (.string xs) := (by rw [cell_of_block hSw.2]; rfl); have o4 : W0.cell? ⟨w.heap.size + 1, 4, none⟩ = some (.slice xal xnl xcl) := (by rw [cell_of_block hSw.2]; rfl); have o5 : W0.cell? ⟨w.heap.size + 1, 5, none⟩ = some (.slice xam xnm xcm) := (by rw [cell_of_block hSw.2]; rfl)); go_simp; (try with_reducible rfl)); (try simp only [Act.put, zA, zB, zC]))
   refine ryA [1, 9] ?_
   refine rA2 (fun K hK => ?_) fun K hK => ?_
   ·skip
    go_simp
    refine (HR1.out w7.drew ((Below.refl _ w7).drew)).mono ?_
    rintro e wz1 ⟨cs_, rfl, hlc, bc⟩
    obtain ⟨uk, ub, ui, us, ual, unl, ucl, uam, unm, ucm, rfl⟩ := V.ten hlc
    have Gu : Hid (∀ W, Below wz1.heap.size wz1 W → v.lies false W (Old W) [.int .i64 uk, .bool ub, .int .i64 ui, .string us, .slice ual unl ucl, .slice uam unm ucm]) := fun W hb => V.lies_keep (fun h => h) (fun x hx => hb.block x hx.2) (fun x hx => Nat.lt_of_lt_of_le hx.2 hb.size) _ hlc
    have hltwz1 : w7.heap.size ≤ wz1.heap.size := bc.size
    have Bwz1 : Below w7.heap.size w7 wz1 := (Below.refl _ w7).drew.trans bc
    have Auwz1 : Below wz1.heap.size wz1 wz1 := Below.refl _ _
    refine hK.out _ _ ⟨(Bwz1.block (w.heap.size) (by omega)).trans hvw7, (Bwz1.block (w.heap.size + 1) (by omega)).trans hxw7⟩ (fun hHeld => ?_)
    clear hK K hlc bc
    (try simp only [Act.put, zA, zB, zC])
    refine ryA [4, 9] ?_
    refine rA2 (fun K hK => ?_) fun K hK => ?_
    ·skip
     go_simp
     refine (HR2.out wz1 Bwz1).mono ?_
     rintro e wz2 ⟨cs_, rfl, hlc, bc⟩
     obtain ⟨tk, tb, ti, ts, tal, tnl, tcl, tam, tnm, tcm, rfl⟩ := V.ten hlc
     have Gt : Hid (∀ W, Below wz2.heap.size wz2 W → x.lies false W (Old W) [.int .i64 tk, .bool tb, .int .i64 ti, .string ts, .slice tal tnl tcl, .slice tam tnm tcm]) := fun W hb => V.lies_keep (fun h => h) (fun x hx => hb.block x hx.2) (fun x hx => Nat.lt_of_lt_of_le hx.2 hb.size) _ hlc
     have hltwz2 : wz1.heap.size ≤ wz2.heap.size := bc.size
     have Bwz2 : Below w7.heap.size w7 wz2 := Bwz1.trans (bc.mono (by omega))
     have Auwz2 : Below wz1.heap.size wz1 wz2 := Auwz1.trans (bc.mono (by omega))
     have Atwz2 : Below wz2.heap.size wz2 wz2 := Below.refl _ _
     refine hK.out _ _ ⟨(Bwz2.block (w.heap.size) (by omega)).trans hvw7, (Bwz2.block (w.heap.size + 1) (by omega)).trans hxw7⟩ (fun hHeld => ?_)
     clear hK K hlc bc
     (try simp only [Act.put, zA, zB, zC])
     refine ryA [5, 9] ?_
     refine rA2 (fun K hK => ?_) fun K hK => ?_
     ·skip
      go_simp
      refine (HST.out wz2 _ _ Bwz2 (Gu.out wz2 Auwz2) (Gt.out wz2 Atwz2)).mono ?_
      rintro e wz3 ⟨cs_, rfl, hlc, bc⟩
      obtain ⟨gk, gb, gi, gs, gal, gnl, gcl, gam, gnm, gcm, rfl⟩ := V.ten hlc
      have hltwz3 : wz2.heap.size ≤ wz3.heap.size := bc.size
      have Bwz3 : Below w7.heap.size w7 wz3 := Bwz2.trans (bc.mono (by omega))
      have Auwz3 : Below wz1.heap.size wz1 wz3 := Auwz2.trans (bc.mono (by omega))
      have Atwz3 : Below wz2.heap.size wz2 wz3 := Atwz2.trans (bc.mono (by omega))
      have l1wz3 : U.lies false wz3 (fun y => wz2.heap.size ≤ y ∧ y < wz3.heap.size) [.int .i64 gk, .bool gb, .int .i64 gi, .string gs, .slice gal gnl gcl, .slice gam gnm gcm] := hlc
      refine hK.out _ _ ⟨(Bwz3.block (w.heap.size) (by omega)).trans hvw7, (Bwz3.block (w.heap.size + 1) (by omega)).trans hxw7⟩ (fun hHeld => ?_)
      clear hK K hlc bc
      (try simp only [Act.put, zA, zB, zC])
      (refine tjA 6 ?_; (try simp only [Act.put, zA, zB, zC]))
      (refine tjA 7 ?_; (try simp only [Act.put, zA, zB, zC]))
      (refine tjA 8 ?_; (try simp only [Act.put, zA, zB, zC]))
      refine ryA [9] ?_
      refine rA1 fun K hK => ?_
      ·skip
       have bz : Below wz3.heap.size wz3 (wz3.alloc (.cells #[.int .i64 0, .bool false, .int .i64 0, .string ⟨#[]⟩, .slice none 0 0, .slice none 0 0] 25)) := (Below.refl _ _).alloc (Nat.le_refl _) _
       have hltwz4 : wz3.heap.size < (wz3.alloc (.cells #[.int .i64 0, .bool false, .int .i64 0, .string ⟨#[]⟩, .slice none 0 0, .slice none 0 0] 25)).heap.size := by rw [alloc_size]; omega
       have mbwz4 : (wz3.alloc (.cells #[.int .i64 0, .bool false, .int .i64 0, .string ⟨#[]⟩, .slice none 0 0, .slice none 0 0] 25)).heap[wz3.heap.size]? = some (.cells #[.int .i64 0, .bool false, .int .i64 0, .string ⟨#[]⟩, .slice none 0 0, .slice none 0 0] 25) := heap_alloc_new wz3 (.cells #[.int .i64 0, .bool false, .int .i64 0, .string ⟨#[]⟩, .slice none 0 0, .slice none 0 0] 25)
       have Bwz4 : Below w7.heap.size w7 (wz3.alloc (.cells #[.int .i64 0, .bool false, .int .i64 0, .string ⟨#[]⟩, .slice none 0 0, .slice none 0 0] 25)) := Bwz3.trans (bz.mono (by omega))
       have Auwz4 : Below wz1.heap.size wz1 (wz3.alloc (.cells #[.int .i64 0, .bool false, .int .i64 0, .string ⟨#[]⟩, .slice none 0 0, .slice none 0 0] 25)) := Auwz3.trans (bz.mono (by omega))
       have Atwz4 : Below wz2.heap.size wz2 (wz3.alloc (.cells #[.int .i64 0, .bool false, .int .i64 0, .string ⟨#[]⟩, .slice none 0 0, .slice none 0 0] 25)) := Atwz3.trans (bz.mono (by omega))
       have l1wz4 : U.lies false (wz3.alloc (.cells #[.int .i64 0, .bool false, .int .i64 0, .string ⟨#[]⟩, .slice none 0 0, .slice none 0 0] 25)) (fun y => wz2.heap.size ≤ y ∧ y < wz3.heap.size) [.int .i64 gk, .bool gb, .int .i64 gi, .string gs, .slice gal gnl gcl, .slice gam gnm gcm] := V.lies_keep (fun h => h) (fun y hy => bz.block y (by omega)) (fun _ h => h) _ l1wz3
       go_simp
       refine hK.out _ _ ⟨(Bwz4.block (w.heap.size) (by omega)).trans hvw7, (Bwz4.block (w.heap.size + 1) (by omega)).trans hxw7⟩ (fun hHeld => ?_)
       clear hK K bz
       (try simp only [Act.put, zA, zB, zC])
       generalize (wz3.alloc (.cells #[.int .i64 0, .bool false, .int .i64 0, .string ⟨#[]⟩, .slice none 0 0, .slice none 0 0] 25)) = wz4 at *
       have RM := one_mid Bwz4 (A := wz3.heap.size) (by omega) (by omega) (by omega) (by omega) mbwz4 l1wz4
       have na0 : w.heap.size ≠ wz3.heap.size := by omega
       have s0_ := (Bwz4.block (w.heap.size) (by omega)).trans hvw7
       have na1 : w.heap.size + 1 ≠ wz3.heap.size := by omega
       have s1_ := (Bwz4.block (w.heap.size + 1) (by omega)).trans hxw7
       have kb := mbwz4
       generalize wz3.heap.size = A_ at RM kb na0 na1 ⊢
       obtain ⟨p0, p1, p2, p3, p4, p5⟩ := sixC kb
       have fp := frozen_of_block kb
       have oA := six_o wz4 A_ (.int .i64 gk) (.bool gb) (.int .i64 gi) (.string gs) (.slice gal gnl gcl) (.slice gam gnm gcm)
       have u0_ := (oA (w.heap.size) na0).trans s0_
       have u1_ := (oA (w.heap.size + 1) na1).trans s1_
       refine ryA [10] ?_
       refine rA1 fun K hK => ?_
       go_simp
       refine hK.out _ _ ⟨u0_, u1_⟩ (fun hHeld => ?_)
       clear hK K
       (try simp only [Act.put, zA, zB, zC])
       (refine tjA 11 ?_; (try simp only [Act.put, zA, zB, zC]))
       refine wpAnyH_done (by kernel_rfl) ?_ _
       (try dsimp only [Act.put, List.getElem_toArray, List.getElem_cons_succ, List.getElem_cons_zero, List.setIfInBounds_toArray, List.set_cons_zero, List.set_cons_succ])
       clear hHeld u0_ u1_ oA
       (try go_wp2_with fail)
       go_meet
       case rel => exact ⟨_, _, _, _, _, _, _, _, _, _, _, rfl, rfl, RM⟩
     ·skip
      have bz : Below wz2.heap.size wz2 (wz2.alloc (.cells #[.int .i64 0, .bool false, .int .i64 0, .string ⟨#[]⟩, .slice none 0 0, .slice none 0 0] 25)) := (Below.refl _ _).alloc (Nat.le_refl _) _
      have hltwz3 : wz2.heap.size < (wz2.alloc (.cells #[.int .i64 0, .bool false, .int .i64 0, .string ⟨#[]⟩, .slice none 0 0, .slice none 0 0] 25)).heap.size := by rw [alloc_size]; omega
      have mbwz3 : (wz2.alloc (.cells #[.int .i64 0, .bool false, .int .i64 0, .string ⟨#[]⟩, .slice none 0 0, .slice none 0 0] 25)).heap[wz2.heap.size]? = some (.cells #[.int .i64 0, .bool false, .int .i64 0, .string ⟨#[]⟩, .slice none 0 0, .slice none 0 0] 25) := heap_alloc_new wz2 (.cells #[.int .i64 0, .bool false, .int .i64 0, .string ⟨#[]⟩, .slice none 0 0, .slice none 0 0] 25)
      have Bwz3 : Below w7.heap.size w7 (wz2.alloc (.cells #[.int .i64 0, .bool false, .int .i64 0, .string ⟨#[]⟩, .slice none 0 0, .slice none 0 0] 25)) := Bwz2.trans (bz.mono (by omega))
      have Auwz3 : Below wz1.heap.size wz1 (wz2.alloc (.cells #[.int .i64 0, .bool false, .int .i64 0, .string ⟨#[]⟩, .slice none 0 0, .slice none 0 0] 25)) := Auwz2.trans (bz.mono (by omega))
      have Atwz3 : Below wz2.heap.size wz2 (wz2.alloc (.cells #[.int .i64 0, .bool false, .int .i64 0, .string ⟨#[]⟩, .slice none 0 0, .slice none 0 0] 25)) := Atwz2.trans (bz.mono (by omega))
      go_simp
      refine hK.out _ _ ⟨(Bwz3.block (w.heap.size) (by omega)).trans hvw7, (Bwz3.block (w.heap.size + 1) (by omega)).trans hxw7⟩ (fun hHeld => ?_)
      clear hK K bz
      (try simp only [Act.put, zA, zB, zC])
      generalize (wz2.alloc (.cells #[.int .i64 0, .bool false, .int .i64 0, .string ⟨#[]⟩, .slice none 0 0, .slice none 0 0] 25)) = wz3 at *
      refine ryA [5] ?_
      refine rA1 fun K hK => ?_
      ·skip
       go_simp
       refine (HST.out wz3 _ _ Bwz3 (Gu.out wz3 Auwz3) (Gt.out wz3 Atwz3)).mono ?_
       rintro e wz4 ⟨cs_, rfl, hlc, bc⟩
       obtain ⟨gk, gb, gi, gs, gal, gnl, gcl, gam, gnm, gcm, rfl⟩ := V.ten hlc
       have hltwz4 : wz3.heap.size ≤ wz4.heap.size := bc.size
       have mbwz4 := (bc.block (wz2.heap.size) (by omega)).trans mbwz3
       have Bwz4 : Below w7.heap.size w7 wz4 := Bwz3.trans (bc.mono (by omega))
       have Auwz4 : Below wz1.heap.size wz1 wz4 := Auwz3.trans (bc.mono (by omega))
       have Atwz4 : Below wz2.heap.size wz2 wz4 := Atwz3.trans (bc.mono (by omega))
       have l1wz4 : U.lies false wz4 (fun y => wz3.heap.size ≤ y ∧ y < wz4.heap.size) [.int .i64 gk, .bool gb, .int .i64 gi, .string gs, .slice gal gnl gcl, .slice gam gnm gcm] := hlc
       refine hK.out _ _ ⟨(Bwz4.block (w.heap.size) (by omega)).trans hvw7, (Bwz4.block (w.heap.size + 1) (by omega)).trans hxw7⟩ (fun hHeld => ?_)
       clear hK K hlc bc
       (try simp only [Act.put, zA, zB, zC])
       (refine tjA 6 ?_; (try simp only [Act.put, zA, zB, zC]))
       (refine tjA 7 ?_; (try simp only [Act.put, zA, zB, zC]))
       (refine tjA 8 ?_; (try simp only [Act.put, zA, zB, zC]))
       have RM := one_mid Bwz4 (A := wz2.heap.size) (by omega) (by omega) (by omega) (by omega) mbwz4 l1wz4
       have na0 : w.heap.size ≠ wz2.heap.size := by omega
       have s0_ := (Bwz4.block (w.heap.size) (by omega)).trans hvw7
       have na1 : w.heap.size + 1 ≠ wz2.heap.size := by omega
       have s1_ := (Bwz4.block (w.heap.size + 1) (by omega)).trans hxw7
       have kb := mbwz4
       generalize wz2.heap.size = A_ at RM kb na0 na1 ⊢
       obtain ⟨p0, p1, p2, p3, p4, p5⟩ := sixC kb
       have fp := frozen_of_block kb
       have oA := six_o wz4 A_ (.int .i64 gk) (.bool gb) (.int .i64 gi) (.string gs) (.slice gal gnl gcl) (.slice gam gnm gcm)
       have u0_ := (oA (w.heap.size) na0).trans s0_
       have u1_ := (oA (w.heap.size + 1) na1).trans s1_
       refine ryA [10] ?_
       refine rA1 fun K hK => ?_
       go_simp
       refine hK.out _ _ ⟨u0_, u1_⟩ (fun hHeld => ?_)
       clear hK K
       (try simp only [Act.put, zA, zB, zC])
       (refine tjA 11 ?_; (try simp only [Act.put, zA, zB, zC]))
       refine wpAnyH_done (by kernel_rfl) ?_ _
       (try dsimp only [Act.put, List.getElem_toArray, List.getElem_cons_succ, List.getElem_cons_zero, List.setIfInBounds_toArray, List.set_cons_zero, List.set_cons_succ])
       clear hHeld u0_ u1_ oA
       (try go_wp2_with fail)
       go_meet
       case rel => exact ⟨_, _, _, _, _, _, _, _, _, _, _, rfl, rfl, RM⟩
    ·skip
     have bz : Below wz1.heap.size wz1 (wz1.alloc (.cells #[.int .i64 0, .bool false, .int .i64 0, .string ⟨#[]⟩, .slice none 0 0, .slice none 0 0] 25)) := (Below.refl _ _).alloc (Nat.le_refl _) _
     have hltwz2 : wz1.heap.size < (wz1.alloc (.cells #[.int .i64 0, .bool false, .int .i64 0, .string ⟨#[]⟩, .slice none 0 0, .slice none 0 0] 25)).heap.size := by rw [alloc_size]; omega
     have mbwz2 : (wz1.alloc (.cells #[.int .i64 0, .bool false, .int .i64 0, .string ⟨#[]⟩, .slice none 0 0, .slice none 0 0] 25)).heap[wz1.heap.size]? = some (.cells #[.int .i64 0, .bool false, .int .i64 0, .string ⟨#[]⟩, .slice none 0 0, .slice none 0 0] 25) := heap_alloc_new wz1 (.cells #[.int .i64 0, .bool false, .int .i64 0, .string ⟨#[]⟩, .slice none 0 0, .slice none 0 0] 25)
     have Bwz2 : Below w7.heap.size w7 (wz1.alloc (.cells #[.int .i64 0, .bool false, .int .i64 0, .string ⟨#[]⟩, .slice none 0 0, .slice none 0 0] 25)) := Bwz1.trans (bz.mono (by omega))
     have Auwz2 : Below wz1.heap.size wz1 (wz1.alloc (.cells #[.int .i64 0, .bool false, .int .i64 0, .string ⟨#[]⟩, .slice none 0 0, .slice none 0 0] 25)) := Auwz1.trans (bz.mono (by omega))
     go_simp
     refine hK.out _ _ ⟨(Bwz2.block (w.heap.size) (by omega)).trans hvw7, (Bwz2.block (w.heap.size + 1) (by omega)).trans hxw7⟩ (fun hHeld => ?_)
     clear hK K bz
     (try simp only [Act.put, zA, zB, zC])
     generalize (wz1.alloc (.cells #[.int .i64 0, .bool false, .int .i64 0, .string ⟨#[]⟩, .slice none 0 0, .slice none 0 0] 25)) = wz2 at *
     refine ryA [4] ?_
     refine rA1 fun K hK => ?_
     ·skip
      go_simp
      refine (HR2.out wz2 Bwz2).mono ?_
      rintro e wz3 ⟨cs_, rfl, hlc, bc⟩
      obtain ⟨tk, tb, ti, ts, tal, tnl, tcl, tam, tnm, tcm, rfl⟩ := V.ten hlc
      have Gt : Hid (∀ W, Below wz3.heap.size wz3 W → x.lies false W (Old W) [.int .i64 tk, .bool tb, .int .i64 ti, .string ts, .slice tal tnl tcl, .slice tam tnm tcm]) := fun W hb => V.lies_keep (fun h => h) (fun x hx => hb.block x hx.2) (fun x hx => Nat.lt_of_lt_of_le hx.2 hb.size) _ hlc
      have hltwz3 : wz2.heap.size ≤ wz3.heap.size := bc.size
      have mbwz3 := (bc.block (wz1.heap.size) (by omega)).trans mbwz2
      have Bwz3 : Below w7.heap.size w7 wz3 := Bwz2.trans (bc.mono (by omega))
      have Auwz3 : Below wz1.heap.size wz1 wz3 := Auwz2.trans (bc.mono (by omega))
      have Atwz3 : Below wz3.heap.size wz3 wz3 := Below.refl _ _
      refine hK.out _ _ ⟨(Bwz3.block (w.heap.size) (by omega)).trans hvw7, (Bwz3.block (w.heap.size + 1) (by omega)).trans hxw7⟩ (fun hHeld => ?_)
      clear hK K hlc bc
      (try simp only [Act.put, zA, zB, zC])
      refine ryA [5] ?_
      refine rA1 fun K hK => ?_
      ·skip
       go_simp
       refine (HST.out wz3 _ _ Bwz3 (Gu.out wz3 Auwz3) (Gt.out wz3 Atwz3)).mono ?_
       rintro e wz4 ⟨cs_, rfl, hlc, bc⟩
       obtain ⟨gk, gb, gi, gs, gal, gnl, gcl, gam, gnm, gcm, rfl⟩ := V.ten hlc
       have hltwz4 : wz3.heap.size ≤ wz4.heap.size := bc.size
       have mbwz4 := (bc.block (wz1.heap.size) (by omega)).trans mbwz3
       have Bwz4 : Below w7.heap.size w7 wz4 := Bwz3.trans (bc.mono (by omega))
       have Auwz4 : Below wz1.heap.size wz1 wz4 := Auwz3.trans (bc.mono (by omega))
       have Atwz4 : Below wz3.heap.size wz3 wz4 := Atwz3.trans (bc.mono (by omega))
       have l1wz4 : U.lies false wz4 (fun y => wz3.heap.size ≤ y ∧ y < wz4.heap.size) [.int .i64 gk, .bool gb, .int .i64 gi, .string gs, .slice gal gnl gcl, .slice gam gnm gcm] := hlc
       refine hK.out _ _ ⟨(Bwz4.block (w.heap.size) (by omega)).trans hvw7, (Bwz4.block (w.heap.size + 1) (by omega)).trans hxw7⟩ (fun hHeld => ?_)
       clear hK K hlc bc
       (try simp only [Act.put, zA, zB, zC])
       (refine tjA 6 ?_; (try simp only [Act.put, zA, zB, zC]))
       (refine tjA 7 ?_; (try simp only [Act.put, zA, zB, zC]))
       (refine tjA 8 ?_; (try simp only [Act.put, zA, zB, zC]))
       have RM := one_mid Bwz4 (A := wz1.heap.size) (by omega) (by omega) (by omega) (by omega) mbwz4 l1wz4
       have na0 : w.heap.size ≠ wz1.heap.size := by omega
       have s0_ := (Bwz4.block (w.heap.size) (by omega)).trans hvw7
       have na1 : w.heap.size + 1 ≠ wz1.heap.size := by omega
       have s1_ := (Bwz4.block (w.heap.size + 1) (by omega)).trans hxw7
       have kb := mbwz4
       generalize wz1.heap.size = A_ at RM kb na0 na1 ⊢
       obtain ⟨p0, p1, p2, p3, p4, p5⟩ := sixC kb
       have fp := frozen_of_block kb
       have oA := six_o wz4 A_ (.int .i64 gk) (.bool gb) (.int .i64 gi) (.string gs) (.slice gal gnl gcl) (.slice gam gnm gcm)
       have u0_ := (oA (w.heap.size) na0).trans s0_
       have u1_ := (oA (w.heap.size + 1) na1).trans s1_
       refine ryA [10] ?_
       refine rA1 fun K hK => ?_
       go_simp
       refine hK.out _ _ ⟨u0_, u1_⟩ (fun hHeld => ?_)
       clear hK K
       (try simp only [Act.put, zA, zB, zC])
       (refine tjA 11 ?_; (try simp only [Act.put, zA, zB, zC]))
       refine wpAnyH_done (by kernel_rfl) ?_ _
       (try dsimp only [Act.put, List.getElem_toArray, List.getElem_cons_succ, List.getElem_cons_zero, List.setIfInBounds_toArray, List.set_cons_zero, List.set_cons_succ])
       clear hHeld u0_ u1_ oA
       (try go_wp2_with fail)
       go_meet
       case rel => exact ⟨_, _, _, _, _, _, _, _, _, _, _, rfl, rfl, RM⟩
   ·skip
    have bz : Below w7.heap.size w7 (w7.alloc (.cells #[.int .i64 0, .bool false, .int .i64 0, .string ⟨#[]⟩, .slice none 0 0, .slice none 0 0] 25)).drew := ((Below.refl _ _).alloc (Nat.le_refl _) _).drew
    have hltwz1 : w7.heap.size < (w7.alloc (.cells #[.int .i64 0, .bool false, .int .i64 0, .string ⟨#[]⟩, .slice none 0 0, .slice none 0 0] 25)).drew.heap.size := by show _ < (w7.alloc _).heap.size; rw [alloc_size]; omega
    have mbwz1 : (w7.alloc (.cells #[.int .i64 0, .bool false, .int .i64 0, .string ⟨#[]⟩, .slice none 0 0, .slice none 0 0] 25)).drew.heap[w7.heap.size]? = some (.cells #[.int .i64 0, .bool false, .int .i64 0, .string ⟨#[]⟩, .slice none 0 0, .slice none 0 0] 25) := heap_alloc_new w7 (.cells #[.int .i64 0, .bool false, .int .i64 0, .string ⟨#[]⟩, .slice none 0 0, .slice none 0 0] 25)
    have Bwz1 : Below w7.heap.size w7 (w7.alloc (.cells #[.int .i64 0, .bool false, .int .i64 0, .string ⟨#[]⟩, .slice none 0 0, .slice none 0 0] 25)).drew := bz
    go_simp
    refine hK.out _ _ ⟨(Bwz1.block (w.heap.size) (by omega)).trans hvw7, (Bwz1.block (w.heap.size + 1) (by omega)).trans hxw7⟩ (fun hHeld => ?_)
    clear hK K bz
    (try simp only [Act.put, zA, zB, zC])
    generalize (w7.alloc (.cells #[.int .i64 0, .bool false, .int .i64 0, .string ⟨#[]⟩, .slice none 0 0, .slice none 0 0] 25)).drew = wz1 at *
    refine ryA [1] ?_
    refine rA1 fun K hK => ?_
    ·skip
     go_simp
     refine (HR1.out wz1 Bwz1).mono ?_
     rintro e wz2 ⟨cs_, rfl, hlc, bc⟩
     obtain ⟨uk, ub, ui, us, ual, unl, ucl, uam, unm, ucm, rfl⟩ := V.ten hlc
     have Gu : Hid (∀ W, Below wz2.heap.size wz2 W → v.lies false W (Old W) [.int .i64 uk, .bool ub, .int .i64 ui, .string us, .slice ual unl ucl, .slice uam unm ucm]) := fun W hb => V.lies_keep (fun h => h) (fun x hx => hb.block x hx.2) (fun x hx => Nat.lt_of_lt_of_le hx.2 hb.size) _ hlc
     have hltwz2 : wz1.heap.size ≤ wz2.heap.size := bc.size
     have mbwz2 := (bc.block (w7.heap.size) (by omega)).trans mbwz1
     have Bwz2 : Below w7.heap.size w7 wz2 := Bwz1.trans (bc.mono (by omega))
     have Auwz2 : Below wz2.heap.size wz2 wz2 := Below.refl _ _
     refine hK.out _ _ ⟨(Bwz2.block (w.heap.size) (by omega)).trans hvw7, (Bwz2.block (w.heap.size + 1) (by omega)).trans hxw7⟩ (fun hHeld => ?_)
     clear hK K hlc bc
     (try simp only [Act.put, zA, zB, zC])
     refine ryA [4] ?_
     refine rA1 fun K hK => ?_
     ·skip
      go_simp
      refine (HR2.out wz2 Bwz2).mono ?_
      rintro e wz3 ⟨cs_, rfl, hlc, bc⟩
      obtain ⟨tk, tb, ti, ts, tal, tnl, tcl, tam, tnm, tcm, rfl⟩ := V.ten hlc
      have Gt : Hid (∀ W, Below wz3.heap.size wz3 W → x.lies false W (Old W) [.int .i64 tk, .bool tb, .int .i64 ti, .string ts, .slice tal tnl tcl, .slice tam tnm tcm]) := fun W hb => V.lies_keep (fun h => h) (fun x hx => hb.block x hx.2) (fun x hx => Nat.lt_of_lt_of_le hx.2 hb.size) _ hlc
      have hltwz3 : wz2.heap.size ≤ wz3.heap.size := bc.size
      have mbwz3 := (bc.block (w7.heap.size) (by omega)).trans mbwz2
      have Bwz3 : Below w7.heap.size w7 wz3 := Bwz2.trans (bc.mono (by omega))
      have Auwz3 : Below wz2.heap.size wz2 wz3 := Auwz2.trans (bc.mono (by omega))
      have Atwz3 : Below wz3.heap.size wz3 wz3 := Below.refl _ _
      refine hK.out _ _ ⟨(Bwz3.block (w.heap.size) (by omega)).trans hvw7, (Bwz3.block (w.heap.size + 1) (by omega)).trans hxw7⟩ (fun hHeld => ?_)
      clear hK K hlc bc
      (try simp only [Act.put, zA, zB, zC])
      refine ryA [5] ?_
      refine rA1 fun K hK => ?_
      ·skip
       go_simp
       refine (HST.out wz3 _ _ Bwz3 (Gu.out wz3 Auwz3) (Gt.out wz3 Atwz3)).mono ?_
       rintro e wz4 ⟨cs_, rfl, hlc, bc⟩
       obtain ⟨gk, gb, gi, gs, gal, gnl, gcl, gam, gnm, gcm, rfl⟩ := V.ten hlc
       have hltwz4 : wz3.heap.size ≤ wz4.heap.size := bc.size
       have mbwz4 := (bc.block (w7.heap.size) (by omega)).trans mbwz3
       have Bwz4 : Below w7.heap.size w7 wz4 := Bwz3.trans (bc.mono (by omega))
       have Auwz4 : Below wz2.heap.size wz2 wz4 := Auwz3.trans (bc.mono (by omega))
       have Atwz4 : Below wz3.heap.size wz3 wz4 := Atwz3.trans (bc.mono (by omega))
       have l1wz4 : U.lies false wz4 (fun y => wz3.heap.size ≤ y ∧ y < wz4.heap.size) [.int .i64 gk, .bool gb, .int .i64 gi, .string gs, .slice gal gnl gcl, .slice gam gnm gcm] := hlc
       refine hK.out _ _ ⟨(Bwz4.block (w.heap.size) (by omega)).trans hvw7, (Bwz4.block (w.heap.size + 1) (by omega)).trans hxw7⟩ (fun hHeld => ?_)
       clear hK K hlc bc
       (try simp only [Act.put, zA, zB, zC])
       (refine tjA 6 ?_; (try simp only [Act.put, zA, zB, zC]))
       (refine tjA 7 ?_; (try simp only [Act.put, zA, zB, zC]))
       (refine tjA 8 ?_; (try simp only [Act.put, zA, zB, zC]))
       have RM := one_mid Bwz4 (A := w7.heap.size) (by omega) (by omega) (by omega) (by omega) mbwz4 l1wz4
       have na0 : w.heap.size ≠ w7.heap.size := by omega
       have s0_ := (Bwz4.block (w.heap.size) (by omega)).trans hvw7
       have na1 : w.heap.size + 1 ≠ w7.heap.size := by omega
       have s1_ := (Bwz4.block (w.heap.size + 1) (by omega)).trans hxw7
       have kb := mbwz4
       generalize w7.heap.size = A_ at RM kb na0 na1 ⊢
       obtain ⟨p0, p1, p2, p3, p4, p5⟩ := sixC kb
       have fp := frozen_of_block kb
       have oA := six_o wz4 A_ (.int .i64 gk) (.bool gb) (.int .i64 gi) (.string gs) (.slice gal gnl gcl) (.slice gam gnm gcm)
       have u0_ := (oA (w.heap.size) na0).trans s0_
       have u1_ := (oA (w.heap.size + 1) na1).trans s1_
       refine ryA [10] ?_
       refine rA1 fun K hK => ?_
       go_simp
       refine hK.out _ _ ⟨u0_, u1_⟩ (fun hHeld => ?_)
       clear hK K
       (try simp only [Act.put, zA, zB, zC])
       (refine tjA 11 ?_; (try simp only [Act.put, zA, zB, zC]))
       refine wpAnyH_done (by kernel_rfl) ?_ _
       (try dsimp only [Act.put, List.getElem_toArray, List.getElem_cons_succ, List.getElem_cons_zero, List.setIfInBounds_toArray, List.set_cons_zero, List.set_cons_succ])
       clear hHeld u0_ u1_ oA
       (try go_wp2_with fail)
       go_meet
       case rel => exact ⟨_, _, _, _, _, _, _, _, _, _, _, rfl, rfl, RM⟩
  case rest =>
   rename World => wk
   obtain ⟨A13, gk, gb, gi, gs, gal, gnl, gcl, gam, gnm, gcm, rfl, rfl, M⟩ := hcut
   have b8 := M.bel
   have hgwk := M.bA
   have hA13 := M.lo
   have HG : Hid (∀ W, Below wk.heap.size wk W → U.lies false W (Old W) [.int .i64 gk, .bool gb, .int .i64 gi, .string gs, .slice gal gnl gcl, .slice gam gnm gcm]) := fun W hb => V.lies_keep (fun h => h) (fun x hx => hb.block x hx.2) (fun x hx => Nat.lt_of_lt_of_le hx.2 hb.size) _ M.l1
   have hzwk := b8.size
   have hvwk := (b8.block (w.heap.size) (by omega)).trans hvw7
   have hxwk := (b8.block (w.heap.size + 1) (by omega)).trans hxw7
   have howk := (b8.block (w6.heap.size) (by omega)).trans how7
   have Bwwk := Bww7.trans (b8.mono (by omega))
   have Bcwk := Bcw7.trans (b8.mono (by omega))
   have Bawk := Baw7.trans (b8.mono (by omega))
   clear M b8 HR1 HR2 HST
   have Bgwk : Below wk.heap.size wk wk := Below.refl _ _
   obtain ⟨cg0, cg1, cg2, cg3, cg4, cg5⟩ := sixC hgwk
   have CG := get_any U p (Old wk) _ wk (HT.out wk Bwwk) (HG.out wk Bgwk) (fun x hx => hx) (by omega) (by omega)
   rw [HMS.out.2.2.1] at CG
   have CG := hmk CG
   go_wp2_with fail
   clear cg0 cg1 cg2 cg3 cg4 cg5
   refine CG.out.mono ?_
   rintro e w8 ⟨csf, rfl, hlf, b8⟩
   clear CG
   obtain ⟨fk, fb, fi, fs, fal, fnl, fcl, fam, fnm, fcm, rfl⟩ := V.ten hlf
   have HF : Hid (∀ W, Below w8.heap.size w8 W → x.lies false W (Old W) [.int .i64 fk, .bool fb, .int .i64 fi, .string fs, .slice fal fnl fcl, .slice fam fnm fcm]) := fun W hb => V.lies_keep (fun h => h) (fun x hx => hb.block x hx.2) (fun x hx => Nat.lt_of_lt_of_le hx.2 hb.size) _ hlf
   have hzw8 := b8.size
   have hvw8 := (b8.block (w.heap.size) (by omega)).trans hvwk
   have hxw8 := (b8.block (w.heap.size + 1) (by omega)).trans hxwk
   have how8 := (b8.block (w6.heap.size) (by omega)).trans howk
   have hgw8 := (b8.block (A13) (by omega)).trans hgwk
   have Bww8 := Bwwk.trans (b8.mono (by omega))
   have Bcw8 := Bcwk.trans (b8.mono (by omega))
   have Baw8 := Bawk.trans (b8.mono (by omega))
   have Bgw8 := Bgwk.trans (b8.mono (by omega))
   have Bfw8 : Below w8.heap.size w8 w8 := Below.refl _ _
   have bzw9 : Below w8.heap.size w8 (w8.alloc (.cells #[.int .i64 fk, .bool fb, .int .i64 fi, .string fs, .slice fal fnl fcl, .slice fam fnm fcm] 25)) := one_belowG _ _
   have hltw9 : w8.heap.size < (w8.alloc (.cells #[.int .i64 fk, .bool fb, .int .i64 fi, .string fs, .slice fal fnl fcl, .slice fam fnm fcm] 25)).heap.size := by rw [alloc_size]; omega
   have hvw9 := (bzw9.block (w.heap.size) (by omega)).trans hvw8
   have hxw9 := (bzw9.block (w.heap.size + 1) (by omega)).trans hxw8
   have how9 := (bzw9.block (w6.heap.size) (by omega)).trans how8
   have hgw9 := (bzw9.block (A13) (by omega)).trans hgw8
   have Bww9 := Bww8.trans (bzw9.mono (by omega))
   have Bcw9 := Bcw8.trans (bzw9.mono (by omega))
   have Baw9 := Baw8.trans (bzw9.mono (by omega))
   have Bgw9 := Bgw8.trans (bzw9.mono (by omega))
   have Bfw9 := Bfw8.trans (bzw9.mono (by omega))
   have hfw9 := heap_alloc_new w8 (.cells #[.int .i64 fk, .bool fb, .int .i64 fi, .string fs, .slice fal fnl fcl, .slice fam fnm fcm] 25)
   clear hlf b8
   obtain ⟨cg0, cg1, cg2, cg3, cg4, cg5⟩ := sixC hgw9
   obtain ⟨co0, co1, co2, co3, co4, co5⟩ := sixC how9
   go_wp2_with fail
   clear cg0 cg1 cg2 cg3 cg4 cg5 co0 co1 co2 co3 co4 co5
   generalize (w8.alloc (.cells #[.int .i64 fk, .bool fb, .int .i64 fi, .string fs, .slice fal fnl fcl, .slice fam fnm fcm] 25)) = w9 at *
   have CS := set_any U p (rgW v ts).1 (Old w9) _ _ w9 (HT.out w9 Bww9) (HG.out w9 Bgw9) (HO.out w9 Baw9) (fun x hx => hx) (by omega) (by omega) (by omega)
   rw [HMS.out.2.2.2] at CS
   refine CS.mono ?_
   rintro e wa ⟨csy, rfl, hly, ba⟩
   clear CS
   obtain ⟨yk, yb, yi, ys, yal, ynl, ycl, yam, ynm, ycm, rfl⟩ := V.ten hly
   have HY : Hid (∀ W, Below wa.heap.size wa W → v.lies false W (Old W) [.int .i64 yk, .bool yb, .int .i64 yi, .string ys, .slice yal ynl ycl, .slice yam ynm ycm]) := fun W hb => V.lies_keep (fun h => h) (fun x hx => hb.block x hx.2) (fun x hx => Nat.lt_of_lt_of_le hx.2 hb.size) _ hly
   have hzwa := ba.size
   have hvwa := (ba.block (w.heap.size) (by omega)).trans hvw9
   have hxwa := (ba.block (w.heap.size + 1) (by omega)).trans hxw9
   have howa := (ba.block (w6.heap.size) (by omega)).trans how9
   have hgwa := (ba.block (A13) (by omega)).trans hgw9
   have hfwa := (ba.block (w8.heap.size) (by omega)).trans hfw9
   have Bwwa := Bww9.trans (ba.mono (by omega))
   have Bcwa := Bcw9.trans (ba.mono (by omega))
   have Bawa := Baw9.trans (ba.mono (by omega))
   have Bgwa := Bgw9.trans (ba.mono (by omega))
   have Bfwa := Bfw9.trans (ba.mono (by omega))
   have Bywa : Below wa.heap.size wa wa := Below.refl _ _
   have bzwb : Below wa.heap.size wa (wa.alloc (.cells #[.int .i64 yk, .bool yb, .int .i64 yi, .string ys, .slice yal ynl ycl, .slice yam ynm ycm] 25)) := one_belowG _ _
   have hltwb : wa.heap.size < (wa.alloc (.cells #[.int .i64 yk, .bool yb, .int .i64 yi, .string ys, .slice yal ynl ycl, .slice yam ynm ycm] 25)).heap.size := by rw [alloc_size]; omega
   have hvwb := (bzwb.block (w.heap.size) (by omega)).trans hvwa
   have hxwb := (bzwb.block (w.heap.size + 1) (by omega)).trans hxwa
   have howb := (bzwb.block (w6.heap.size) (by omega)).trans howa
   have hgwb := (bzwb.block (A13) (by omega)).trans hgwa
   have hfwb := (bzwb.block (w8.heap.size) (by omega)).trans hfwa
   have Bwwb := Bwwa.trans (bzwb.mono (by omega))
   have Bcwb := Bcwa.trans (bzwb.mono (by omega))
   have Bawb := Bawa.trans (bzwb.mono (by omega))
   have Bgwb := Bgwa.trans (bzwb.mono (by omega))
   have Bfwb := Bfwa.trans (bzwb.mono (by omega))
   have Bywb := Bywa.trans (bzwb.mono (by omega))
   have hywb := heap_alloc_new wa (.cells #[.int .i64 yk, .bool yb, .int .i64 yi, .string ys, .slice yal ynl ycl, .slice yam ynm ycm] 25)
   clear hly ba
   obtain ⟨cf0, cf1, cf2, cf3, cf4, cf5⟩ := sixC hfwb
   obtain ⟨cx0, cx1, cx2, cx3, cx4, cx5⟩ := sixC hxwb
   go_wp2_with fail
   clear cf0 cf1 cf2 cf3 cf4 cf5 cx0 cx1 cx2 cx3 cx4 cx5
   generalize (wa.alloc (.cells #[.int .i64 yk, .bool yb, .int .i64 yi, .string ys, .slice yal ynl ycl, .slice yam ynm ycm] 25)) = wb at *
   have CS := same_any x false false x (Old wb) (Old wb) _ _ wb (HF.out wb Bfwb) (HX.out wb Bwwb) (fun x hx => hx) (fun x hx => hx)
   rw [V.eqB_refl] at CS
   refine CS.mono ?_
   rintro e wd ⟨rfl, bd⟩
   clear CS
   have hzwd := bd.size
   have hvwd := (bd.block (w.heap.size) (by omega)).trans hvwb
   have hxwd := (bd.block (w.heap.size + 1) (by omega)).trans hxwb
   have howd := (bd.block (w6.heap.size) (by omega)).trans howb
   have hgwd := (bd.block (A13) (by omega)).trans hgwb
   have hfwd := (bd.block (w8.heap.size) (by omega)).trans hfwb
   have hywd := (bd.block (wa.heap.size) (by omega)).trans hywb
   have Bwwd := Bwwb.trans (bd.mono (by omega))
   have Bcwd := Bcwb.trans (bd.mono (by omega))
   have Bawd := Bawb.trans (bd.mono (by omega))
   have Bgwd := Bgwb.trans (bd.mono (by omega))
   have Bfwd := Bfwb.trans (bd.mono (by omega))
   have Bywd := Bywb.trans (bd.mono (by omega))
   obtain ⟨cy0, cy1, cy2, cy3, cy4, cy5⟩ := sixC hywd
   obtain ⟨cv0, cv1, cv2, cv3, cv4, cv5⟩ := sixC hvwd
   go_wp2_with fail
   clear cy0 cy1 cy2 cy3 cy4 cy5 cv0 cv1 cv2 cv3 cv4 cv5
   have CS := same_any v false false v (Old wd) (Old wd) _ _ wd (HY.out wd Bywd) (HL.out wd Bwwd) (fun x hx => hx) (fun x hx => hx)
   rw [V.eqB_refl] at CS
   refine CS.mono ?_
   rintro e we ⟨rfl, be⟩
   clear CS
   have hzwe := be.size
   have hvwe := (be.block (w.heap.size) (by omega)).trans hvwd
   have hxwe := (be.block (w.heap.size + 1) (by omega)).trans hxwd
   have howe := (be.block (w6.heap.size) (by omega)).trans howd
   have hgwe := (be.block (A13) (by omega)).trans hgwd
   have hfwe := (be.block (w8.heap.size) (by omega)).trans hfwd
   have hywe := (be.block (wa.heap.size) (by omega)).trans hywd
   have Bwwe := Bwwd.trans (be.mono (by omega))
   have Bcwe := Bcwd.trans (be.mono (by omega))
   have Bawe := Bawd.trans (be.mono (by omega))
   have Bgwe := Bgwd.trans (be.mono (by omega))
   have Bfwe := Bfwd.trans (be.mono (by omega))
   have Bywe := Bywd.trans (be.mono (by omega))
   clear be bd HF HY hywe hfwe
   have Bewe : Below we.heap.size we we := Below.refl _ _
   go_wp2_with fail
   go_loopw [19] (fun e19 wr => ∃ j : Nat, j ≤ l.length ∧ e19 = .int .i64 (j : Int) ∧ Hid (Below we.heap.size we wr)) (fun e19 _ => l.length - (RowKit.intOf e19).toNat)
   case atStart => exact ⟨0, by omega, rfl, Bewe⟩
   case round =>
    obtain ⟨j, hj, rfl, Hbr⟩ := hrel
    have br := Hbr.out
    clear Hbr
    have hzwr := br.size
    have hvwr := (br.block (w.heap.size) (by omega)).trans hvwe
    have hxwr := (br.block (w.heap.size + 1) (by omega)).trans hxwe
    have howr := (br.block (w6.heap.size) (by omega)).trans howe
    have hgwr := (br.block (A13) (by omega)).trans hgwe
    have Bwwr := Bwwe.trans (br.mono (by omega))
    have Bcwr := Bcwe.trans (br.mono (by omega))
    have Bawr := Bawe.trans (br.mono (by omega))
    have Bgwr := Bgwe.trans (br.mono (by omega))
    have Bewr := Bewe.trans (br.mono (by omega))
    by_cases hjl : j < l.length
    rotate_left
    ·skip
     obtain rfl : j = l.length := by omega
     have y1 : ¬ (l.length : Int) < l.length := by omega
     have CW : Hid (Calls Tryz.prog 26 #[.agg #[.int .i64 k, .bool b, .int .i64 i, .string s, .slice al nl cl, .slice am nm cm], .string p, .agg #[.int .i64 ok, .bool ob, .int .i64 oi, .string os, .slice oal onl ocl, .slice oam onm ocm], .agg #[.int .i64 xk, .bool xb, .int .i64 xi, .string xs, .slice xal xnl xcl, .slice xam xnm xcm], .string key] wr (BPost true wr)) := by
      show Calls _ _ _ _ _
      by_cases h4 : kindOf (rgW v ts).1 = 4
      ·exact grown_list v x key p ts (Old wr) _ _ _ wr (HT.out wr Bwwr) hm.out HP.out h4 (HL.out wr Bwwr) (HO.out wr Bawr) (HX.out wr Bwwr) (fun x hx => hx) (by omega) (by omega)
      ·exact grown_other v x key p ts (Old wr) _ _ _ wr (HT.out wr Bwwr) hm.out HP.out h4 (HL.out wr Bwwr) (HO.out wr Bawr) (HX.out wr Bwwr) (fun x hx => hx) (by omega) (by omega)
     obtain ⟨cv0, cv1, cv2, cv3, cv4, cv5⟩ := sixC hvwr
     obtain ⟨co0, co1, co2, co3, co4, co5⟩ := sixC howr
     obtain ⟨cx0, cx1, cx2, cx3, cx4, cx5⟩ := sixC hxwr
     go_wp2_with fail
     clear cv0 cv1 cv2 cv3 cv4 cv5 co0 co1 co2 co3 co4 co5 cx0 cx1 cx2 cx3 cx4 cx5
     refine CW.out.mono ?_
     rintro e ws ⟨rfl, bs⟩
     clear CW
     have hzws := bs.size
     have hvws := (bs.block (w.heap.size) (by omega)).trans hvwr
     have hxws := (bs.block (w.heap.size + 1) (by omega)).trans hxwr
     have hows := (bs.block (w6.heap.size) (by omega)).trans howr
     have hgws := (bs.block (A13) (by omega)).trans hgwr
     have Bwws := Bwwr.trans (bs.mono (by omega))
     have Bcws := Bcwr.trans (bs.mono (by omega))
     have Baws := Bawr.trans (bs.mono (by omega))
     have Bgws := Bgwr.trans (bs.mono (by omega))
     have Bews := Bewr.trans (bs.mono (by omega))
     obtain ⟨cv0, cv1, cv2, cv3, cv4, cv5⟩ := sixC hvws
     obtain ⟨co0, co1, co2, co3, co4, co5⟩ := sixC hows
     go_wp2_with fail
     clear cv0 cv1 cv2 cv3 cv4 cv5 co0 co1 co2 co3 co4 co5
     refine (taken_at v x key p ts (Old ws) _ _ ws (HT.out ws Bwws) hm.out HP.out (by omega) (HL.out ws Bwws) (HO.out ws Baws) (fun x hx => hx) (by omega)).mono ?_
     rintro e wt ⟨rfl, bt⟩
     have hzwt := bt.size
     have hvwt := (bt.block (w.heap.size) (by omega)).trans hvws
     have hxwt := (bt.block (w.heap.size + 1) (by omega)).trans hxws
     have howt := (bt.block (w6.heap.size) (by omega)).trans hows
     have hgwt := (bt.block (A13) (by omega)).trans hgws
     have Bwwt := Bwws.trans (bt.mono (by omega))
     have Bcwt := Bcws.trans (bt.mono (by omega))
     have Bawt := Baws.trans (bt.mono (by omega))
     have Bgwt := Bgws.trans (bt.mono (by omega))
     have Bewt := Bews.trans (bt.mono (by omega))
     go_wp2_with fail
     go_ret
     exact ⟨rfl, Bwwt⟩
    have y1 : (j : Int) < (l.length : Int) := by omega
    obtain ⟨⟨us, hus⟩, hqs⟩ := HPL.out l[j] (List.getElem_mem hjl)
    have ce := (HC.out wr Bcwr).2 j hjl
    have hlg' : lg < wr.heap.size := by omega
    generalize l[j] = q at *
    clear HC HPL
    go_wp2_with fail
    refine (under_any q p wr (by omega) (by omega)).mono ?_
    rintro e ws ⟨r1, rfl, bs, hr1⟩
    have hzws := bs.size
    have hvws := (bs.block (w.heap.size) (by omega)).trans hvwr
    have hxws := (bs.block (w.heap.size + 1) (by omega)).trans hxwr
    have hows := (bs.block (w6.heap.size) (by omega)).trans howr
    have hgws := (bs.block (A13) (by omega)).trans hgwr
    have Bwws := Bwwr.trans (bs.mono (by omega))
    have Bcws := Bcwr.trans (bs.mono (by omega))
    have Baws := Bawr.trans (bs.mono (by omega))
    have Bgws := Bgwr.trans (bs.mono (by omega))
    have Bews := Bewr.trans (bs.mono (by omega))
    cases r1 with
    | true =>
     go_wp2_with fail
     go_roundw
     case rel => exact ⟨j + 1, by omega, by go_num, Bews⟩
     case measure => simp [RowKit.intOf]; omega
    | false =>
     have ce2 := (bs.cell (p := ⟨lg, lo + j, none⟩) hlg').trans ce
     clear ce
     go_wp2_with fail
     refine (under_any p q ws (by omega) (by omega)).mono ?_
     rintro e wt ⟨r2, rfl, bt, hr2⟩
     have hzwt := bt.size
     have hvwt := (bt.block (w.heap.size) (by omega)).trans hvws
     have hxwt := (bt.block (w.heap.size + 1) (by omega)).trans hxws
     have howt := (bt.block (w6.heap.size) (by omega)).trans hows
     have hgwt := (bt.block (A13) (by omega)).trans hgws
     have Bwwt := Bwws.trans (bt.mono (by omega))
     have Bcwt := Bcws.trans (bt.mono (by omega))
     have Bawt := Baws.trans (bt.mono (by omega))
     have Bgwt := Bgws.trans (bt.mono (by omega))
     have Bewt := Bews.trans (bt.mono (by omega))
     cases r2 with
     | true =>
      go_wp2_with fail
      go_roundw
      case rel => exact ⟨j + 1, by omega, by go_num, Bewt⟩
      case measure => simp [RowKit.intOf]; omega
     | false =>
      have ce3 := (bt.cell (p := ⟨lg, lo + j, none⟩) (by show lg < _; omega)).trans ce2
      have ha : Apart ts us := und_apart (by rw [← hus.p, ← HP.out.p]; exact fun h => by cases hr1 h) (by rw [← HP.out.p, ← hus.p]; exact fun h => by cases hr2 h)
      obtain ⟨hg1, hg2⟩ := HMO.out q us hus ha
      clear hr1 hr2 ha hus ce2
      generalize (rgW v us).1 = Q at *
      have HQ1 : Hid (∀ W, Below wt.heap.size wt W → Calls Tryz.prog 13 #[.agg #[.int .i64 k, .bool b, .int .i64 i, .string s, .slice al nl cl, .slice am nm cm], .string q] W (NwPost (Q, 0) W)) := fun W hb => by
       have c := get_any v q (Old W) [.int .i64 k, .bool b, .int .i64 i, .string s, .slice al nl cl, .slice am nm cm] W (HT.out W (Bwwt.trans (hb.mono (by omega)))) (HL.out W (Bwwt.trans (hb.mono (by omega)))) (fun x hx => hx) (by omega) (by omega)
       rw [hg1] at c
       exact c
      have HQ2 : Hid (∀ W, Below wt.heap.size wt W → Calls Tryz.prog 13 #[.agg #[.int .i64 gk, .bool gb, .int .i64 gi, .string gs, .slice gal gnl gcl, .slice gam gnm gcm], .string q] W (NwPost (Q, 0) W)) := fun W hb => by
       have c := get_any U q (Old W) [.int .i64 gk, .bool gb, .int .i64 gi, .string gs, .slice gal gnl gcl, .slice gam gnm gcm] W (HT.out W (Bwwt.trans (hb.mono (by omega)))) (HG.out W (Bgwt.trans (hb.mono (by omega)))) (fun x hx => hx) (by omega) (by omega)
       rw [hg2] at c
       exact c
      clear hg1 hg2
      go_wp2_with fail
      go_cut [20, 21] from 111 to 160 (fun e20 e21 wx => ∃ (A_ : Nat) (gk : Int) (gb : Bool) (gi : Int) (gs : ByteArray) (gal : Option Addr) (gnl gcl : Nat) (gam : Option Addr) (gnm gcm : Nat), e20 = .pointer (some ⟨A_, 0, none⟩) ∧ e21 = .int .i64 0 ∧ OneMid Q wt wx A_ gk gb gi gs gal gnl gcl gam gnm gcm)
      case first =>
       refine wp_region_held_drew (S := (fun W => W.heap[w.heap.size]? = some (.cells #[.int .i64 k, .bool b, .int .i64 i, .string s, .slice al nl cl, .slice am nm cm] 25) ∧ W.cell? ⟨lg, lo + j, none⟩ = some (.string q))) (by kernel_rfl) ⟨hvwt, ce3⟩ (fun hHeld => ?_)
       (refine tkA 0 ?_ ?_ ?_; rotate_left 1; (intro W0 hSw; (have o0 : W0.cell? ⟨w.heap.size, 0, none⟩ = some (.int .i64 k) := (by rw [cell_of_block hSw.1]; rfl); have o1 : W0.cell? ⟨w.heap.size, 1, none⟩ = some (.bool b) := (by rw [cell_of_block hSw.1]; rfl); have o2 : W0.cell? ⟨w.heap.size, 2, none⟩ = some (.int .i64 i) := (by rw [cell_of_block hSw.1]; rfl); have o3 : W0.cell? ⟨w.heap.size, 3, none⟩ = some (.string s) := (by rw [cell_of_block hSw.1]; rfl); have o4 : W0.cell? ⟨w.heap.size, 4, none⟩ = some (.slice al nl cl) := (by rw [cell_of_block hSw.1]; rfl); have o5 : W0.cell? ⟨w.heap.size, 5, none⟩ = some (.slice am nm cm) := (by rw [cell_of_block hSw.1]; rfl)); go_simp; (try with_reducible rfl)); (try simp only [Act.put, zA, zB, zC]))
       (refine tjA 1 ?_; (try simp only [Act.put, zA, zB, zC]))
       (refine tjA 2 ?_; (try simp only [Act.put, zA, zB, zC]))
       (refine tjA 3 ?_; (try simp only [Act.put, zA, zB, zC]))
       (refine tkA 4 ?_ ?_ ?_; rotate_left 1; (intro W0 hSw; (have o9 := hSw.2); go_simp; (try with_reducible rfl)); (try simp only [Act.put, zA, zB, zC]))
       refine ryA [5, 9] ?_
       refine rA2 (fun K hK => ?_) fun K hK => ?_
       ·skip
        go_simp
        refine (HQ1.out wt.drew (((Below.refl _ wt).drew))).mono ?_
        rintro e wz1 ⟨cs_, rfl, hlc, bc⟩
        obtain ⟨gk, gb, gi, gs, gal, gnl, gcl, gam, gnm, gcm, rfl⟩ := V.ten hlc
        have hltwz1 : wt.heap.size ≤ wz1.heap.size := bc.size
        have Bwz1 : Below wt.heap.size wt wz1 := (Below.refl _ wt).drew.trans bc
        have l1wz1 : Q.lies false wz1 (fun y => wt.heap.size ≤ y ∧ y < wz1.heap.size) [.int .i64 gk, .bool gb, .int .i64 gi, .string gs, .slice gal gnl gcl, .slice gam gnm gcm] := hlc
        refine hK.out _ _ ⟨(Bwz1.block (w.heap.size) (by omega)).trans hvwt, (Bwz1.cell (p := ⟨lg, lo + j, none⟩) (by show lg < _; omega)).trans ce3⟩ (fun hHeld => ?_)
        clear hK K hlc bc
        (try simp only [Act.put, zA, zB, zC])
        (refine tjA 6 ?_; (try simp only [Act.put, zA, zB, zC]))
        (refine tjA 7 ?_; (try simp only [Act.put, zA, zB, zC]))
        (refine tjA 8 ?_; (try simp only [Act.put, zA, zB, zC]))
        refine ryA [9] ?_
        refine rA1 fun K hK => ?_
        ·skip
         have bz : Below wz1.heap.size wz1 (wz1.alloc (.cells #[.int .i64 0, .bool false, .int .i64 0, .string ⟨#[]⟩, .slice none 0 0, .slice none 0 0] 25)) := (Below.refl _ _).alloc (Nat.le_refl _) _
         have hltwz2 : wz1.heap.size < (wz1.alloc (.cells #[.int .i64 0, .bool false, .int .i64 0, .string ⟨#[]⟩, .slice none 0 0, .slice none 0 0] 25)).heap.size := by rw [alloc_size]; omega
         have mbwz2 : (wz1.alloc (.cells #[.int .i64 0, .bool false, .int .i64 0, .string ⟨#[]⟩, .slice none 0 0, .slice none 0 0] 25)).heap[wz1.heap.size]? = some (.cells #[.int .i64 0, .bool false, .int .i64 0, .string ⟨#[]⟩, .slice none 0 0, .slice none 0 0] 25) := heap_alloc_new wz1 (.cells #[.int .i64 0, .bool false, .int .i64 0, .string ⟨#[]⟩, .slice none 0 0, .slice none 0 0] 25)
         have Bwz2 : Below wt.heap.size wt (wz1.alloc (.cells #[.int .i64 0, .bool false, .int .i64 0, .string ⟨#[]⟩, .slice none 0 0, .slice none 0 0] 25)) := Bwz1.trans (bz.mono (by omega))
         have l1wz2 : Q.lies false (wz1.alloc (.cells #[.int .i64 0, .bool false, .int .i64 0, .string ⟨#[]⟩, .slice none 0 0, .slice none 0 0] 25)) (fun y => wt.heap.size ≤ y ∧ y < wz1.heap.size) [.int .i64 gk, .bool gb, .int .i64 gi, .string gs, .slice gal gnl gcl, .slice gam gnm gcm] := V.lies_keep (fun h => h) (fun y hy => bz.block y (by omega)) (fun _ h => h) _ l1wz1
         go_simp
         refine hK.out _ _ ⟨(Bwz2.block (w.heap.size) (by omega)).trans hvwt, (Bwz2.cell (p := ⟨lg, lo + j, none⟩) (by show lg < _; omega)).trans ce3⟩ (fun hHeld => ?_)
         clear hK K bz
         (try simp only [Act.put, zA, zB, zC])
         generalize (wz1.alloc (.cells #[.int .i64 0, .bool false, .int .i64 0, .string ⟨#[]⟩, .slice none 0 0, .slice none 0 0] 25)) = wz2 at *
         have RM := one_mid Bwz2 (A := wz1.heap.size) (by omega) (by omega) (by omega) (by omega) mbwz2 l1wz2
         have na0 : w.heap.size ≠ wz1.heap.size := by omega
         have s0_ := (Bwz2.block (w.heap.size) (by omega)).trans hvwt
         have na1 : lg ≠ wz1.heap.size := by omega
         have s1_ := (Bwz2.cell (p := ⟨lg, lo + j, none⟩) (by show lg < _; omega)).trans ce3
         have kb := mbwz2
         generalize wz1.heap.size = A_ at RM kb na0 na1 ⊢
         obtain ⟨p0, p1, p2, p3, p4, p5⟩ := sixC kb
         have fp := frozen_of_block kb
         have oA := six_o wz2 A_ (.int .i64 gk) (.bool gb) (.int .i64 gi) (.string gs) (.slice gal gnl gcl) (.slice gam gnm gcm)
         have u0_ := (oA (w.heap.size) na0).trans s0_
         have u1_ := (cell_block (o := lo + j) (oA lg na1)).trans s1_
         refine ryA [10] ?_
         refine rA1 fun K hK => ?_
         go_simp
         refine hK.out _ _ ⟨u0_, u1_⟩ (fun hHeld => ?_)
         clear hK K
         (try simp only [Act.put, zA, zB, zC])
         (refine tjA 11 ?_; (try simp only [Act.put, zA, zB, zC]))
         refine wpAnyH_done (by kernel_rfl) ?_ _
         (try dsimp only [Act.put, List.getElem_toArray, List.getElem_cons_succ, List.getElem_cons_zero, List.setIfInBounds_toArray, List.set_cons_zero, List.set_cons_succ])
         clear hHeld u0_ u1_ oA
         (try go_wp2_with fail)
         go_meet
         case rel => exact ⟨_, _, _, _, _, _, _, _, _, _, _, rfl, rfl, RM⟩
       ·skip
        have bz : Below wt.heap.size wt (wt.alloc (.cells #[.int .i64 0, .bool false, .int .i64 0, .string ⟨#[]⟩, .slice none 0 0, .slice none 0 0] 25)).drew := ((Below.refl _ _).alloc (Nat.le_refl _) _).drew
        have hltwz1 : wt.heap.size < (wt.alloc (.cells #[.int .i64 0, .bool false, .int .i64 0, .string ⟨#[]⟩, .slice none 0 0, .slice none 0 0] 25)).drew.heap.size := by show _ < (wt.alloc _).heap.size; rw [alloc_size]; omega
        have mbwz1 : (wt.alloc (.cells #[.int .i64 0, .bool false, .int .i64 0, .string ⟨#[]⟩, .slice none 0 0, .slice none 0 0] 25)).drew.heap[wt.heap.size]? = some (.cells #[.int .i64 0, .bool false, .int .i64 0, .string ⟨#[]⟩, .slice none 0 0, .slice none 0 0] 25) := heap_alloc_new wt (.cells #[.int .i64 0, .bool false, .int .i64 0, .string ⟨#[]⟩, .slice none 0 0, .slice none 0 0] 25)
        have Bwz1 : Below wt.heap.size wt (wt.alloc (.cells #[.int .i64 0, .bool false, .int .i64 0, .string ⟨#[]⟩, .slice none 0 0, .slice none 0 0] 25)).drew := bz
        go_simp
        refine hK.out _ _ ⟨(Bwz1.block (w.heap.size) (by omega)).trans hvwt, (Bwz1.cell (p := ⟨lg, lo + j, none⟩) (by show lg < _; omega)).trans ce3⟩ (fun hHeld => ?_)
        clear hK K bz
        (try simp only [Act.put, zA, zB, zC])
        generalize (wt.alloc (.cells #[.int .i64 0, .bool false, .int .i64 0, .string ⟨#[]⟩, .slice none 0 0, .slice none 0 0] 25)).drew = wz1 at *
        refine ryA [5] ?_
        refine rA1 fun K hK => ?_
        ·skip
         go_simp
         refine (HQ1.out wz1 (Bwz1)).mono ?_
         rintro e wz2 ⟨cs_, rfl, hlc, bc⟩
         obtain ⟨gk, gb, gi, gs, gal, gnl, gcl, gam, gnm, gcm, rfl⟩ := V.ten hlc
         have hltwz2 : wz1.heap.size ≤ wz2.heap.size := bc.size
         have mbwz2 := (bc.block (wt.heap.size) (by omega)).trans mbwz1
         have Bwz2 : Below wt.heap.size wt wz2 := Bwz1.trans (bc.mono (by omega))
         have l1wz2 : Q.lies false wz2 (fun y => wz1.heap.size ≤ y ∧ y < wz2.heap.size) [.int .i64 gk, .bool gb, .int .i64 gi, .string gs, .slice gal gnl gcl, .slice gam gnm gcm] := hlc
         refine hK.out _ _ ⟨(Bwz2.block (w.heap.size) (by omega)).trans hvwt, (Bwz2.cell (p := ⟨lg, lo + j, none⟩) (by show lg < _; omega)).trans ce3⟩ (fun hHeld => ?_)
         clear hK K hlc bc
         (try simp only [Act.put, zA, zB, zC])
         (refine tjA 6 ?_; (try simp only [Act.put, zA, zB, zC]))
         (refine tjA 7 ?_; (try simp only [Act.put, zA, zB, zC]))
         (refine tjA 8 ?_; (try simp only [Act.put, zA, zB, zC]))
         have RM := one_mid Bwz2 (A := wt.heap.size) (by omega) (by omega) (by omega) (by omega) mbwz2 l1wz2
         have na0 : w.heap.size ≠ wt.heap.size := by omega
         have s0_ := (Bwz2.block (w.heap.size) (by omega)).trans hvwt
         have na1 : lg ≠ wt.heap.size := by omega
         have s1_ := (Bwz2.cell (p := ⟨lg, lo + j, none⟩) (by show lg < _; omega)).trans ce3
         have kb := mbwz2
         generalize wt.heap.size = A_ at RM kb na0 na1 ⊢
         obtain ⟨p0, p1, p2, p3, p4, p5⟩ := sixC kb
         have fp := frozen_of_block kb
         have oA := six_o wz2 A_ (.int .i64 gk) (.bool gb) (.int .i64 gi) (.string gs) (.slice gal gnl gcl) (.slice gam gnm gcm)
         have u0_ := (oA (w.heap.size) na0).trans s0_
         have u1_ := (cell_block (o := lo + j) (oA lg na1)).trans s1_
         refine ryA [10] ?_
         refine rA1 fun K hK => ?_
         go_simp
         refine hK.out _ _ ⟨u0_, u1_⟩ (fun hHeld => ?_)
         clear hK K
         (try simp only [Act.put, zA, zB, zC])
         (refine tjA 11 ?_; (try simp only [Act.put, zA, zB, zC]))
         refine wpAnyH_done (by kernel_rfl) ?_ _
         (try dsimp only [Act.put, List.getElem_toArray, List.getElem_cons_succ, List.getElem_cons_zero, List.setIfInBounds_toArray, List.set_cons_zero, List.set_cons_succ])
         clear hHeld u0_ u1_ oA
         (try go_wp2_with fail)
         go_meet
         case rel => exact ⟨_, _, _, _, _, _, _, _, _, _, _, rfl, rfl, RM⟩
      case rest =>
       rename World => wx1
       obtain ⟨A20, ck, cb, ci, cs, cal, cnl, ccl, cam, cnm, ccm, rfl, rfl, M⟩ := hcut
       have bq := M.bel
       have hcwx1 := M.bA
       have hA20 := M.lo
       have HK : Hid (∀ W, Below wx1.heap.size wx1 W → Q.lies false W (Old W) [.int .i64 ck, .bool cb, .int .i64 ci, .string cs, .slice cal cnl ccl, .slice cam cnm ccm]) := fun W hb => V.lies_keep (fun h => h) (fun x hx => hb.block x hx.2) (fun x hx => Nat.lt_of_lt_of_le hx.2 hb.size) _ M.l1
       have Bqwx1 : Below wx1.heap.size wx1 wx1 := Below.refl _ _
       have hzwx1 := bq.size
       have hvwx1 := (bq.block (w.heap.size) (by omega)).trans hvwt
       have hxwx1 := (bq.block (w.heap.size + 1) (by omega)).trans hxwt
       have howx1 := (bq.block (w6.heap.size) (by omega)).trans howt
       have hgwx1 := (bq.block (A13) (by omega)).trans hgwt
       have Bwwx1 := Bwwt.trans (bq.mono (by omega))
       have Bcwx1 := Bcwt.trans (bq.mono (by omega))
       have Bawx1 := Bawt.trans (bq.mono (by omega))
       have Bgwx1 := Bgwt.trans (bq.mono (by omega))
       have Bewx1 := Bewt.trans (bq.mono (by omega))
       have ce4 := (bq.cell (p := ⟨lg, lo + j, none⟩) (by show lg < _; omega)).trans ce3
       clear M ce3 HQ1
       go_wp2_with fail
       go_cut [22, 23] from 111 to 160 (fun e22 e23 wx => ∃ (A_ : Nat) (gk : Int) (gb : Bool) (gi : Int) (gs : ByteArray) (gal : Option Addr) (gnl gcl : Nat) (gam : Option Addr) (gnm gcm : Nat), e22 = .pointer (some ⟨A_, 0, none⟩) ∧ e23 = .int .i64 0 ∧ OneMid Q wx1 wx A_ gk gb gi gs gal gnl gcl gam gnm gcm)
       case first =>
        refine wp_region_held_drew (S := (fun W => W.heap[A13]? = some (.cells #[.int .i64 gk, .bool gb, .int .i64 gi, .string gs, .slice gal gnl gcl, .slice gam gnm gcm] 25) ∧ W.cell? ⟨lg, lo + j, none⟩ = some (.string q))) (by kernel_rfl) ⟨hgwx1, ce4⟩ (fun hHeld => ?_)
        (refine tkA 0 ?_ ?_ ?_; rotate_left 1; (intro W0 hSw; (have o0 : W0.cell? ⟨A13, 0, none⟩ = some (.int .i64 gk) := (by rw [cell_of_block hSw.1]; rfl); have o1 : W0.cell? ⟨A13, 1, none⟩ = some (.bool gb) := (by rw [cell_of_block hSw.1]; rfl); have o2 : W0.cell? ⟨A13, 2, none⟩ = some (.int .i64 gi) := (by rw [cell_of_block hSw.1]; rfl); have o3 : W0.cell? ⟨A13, 3, none⟩ = some (.string gs) := (by rw [cell_of_block hSw.1]; rfl); have o4 : W0.cell? ⟨A13, 4, none⟩ = some (.slice gal gnl gcl) := (by rw [cell_of_block hSw.1]; rfl); have o5 : W0.cell? ⟨A13, 5, none⟩ = some (.slice gam gnm gcm) := (by rw [cell_of_block hSw.1]; rfl)); go_simp; (try with_reducible rfl)); (try simp only [Act.put, zA, zB, zC]))
        (refine tjA 1 ?_; (try simp only [Act.put, zA, zB, zC]))
        (refine tjA 2 ?_; (try simp only [Act.put, zA, zB, zC]))
        (refine tjA 3 ?_; (try simp only [Act.put, zA, zB, zC]))
        (refine tkA 4 ?_ ?_ ?_; rotate_left 1; (intro W0 hSw; (have o9 := hSw.2); go_simp; (try with_reducible rfl)); (try simp only [Act.put, zA, zB, zC]))
        refine ryA [5, 9] ?_
        refine rA2 (fun K hK => ?_) fun K hK => ?_
        ·skip
         go_simp
         refine (HQ2.out wx1.drew (bq.trans (Below.mono ((Below.refl _ wx1).drew) (by omega)))).mono ?_
         rintro e wz1 ⟨cs_, rfl, hlc, bc⟩
         obtain ⟨gk, gb, gi, gs, gal, gnl, gcl, gam, gnm, gcm, rfl⟩ := V.ten hlc
         have hltwz1 : wx1.heap.size ≤ wz1.heap.size := bc.size
         have Bwz1 : Below wx1.heap.size wx1 wz1 := (Below.refl _ wx1).drew.trans bc
         have l1wz1 : Q.lies false wz1 (fun y => wx1.heap.size ≤ y ∧ y < wz1.heap.size) [.int .i64 gk, .bool gb, .int .i64 gi, .string gs, .slice gal gnl gcl, .slice gam gnm gcm] := hlc
         refine hK.out _ _ ⟨(Bwz1.block (A13) (by omega)).trans hgwx1, (Bwz1.cell (p := ⟨lg, lo + j, none⟩) (by show lg < _; omega)).trans ce4⟩ (fun hHeld => ?_)
         clear hK K hlc bc
         (try simp only [Act.put, zA, zB, zC])
         (refine tjA 6 ?_; (try simp only [Act.put, zA, zB, zC]))
         (refine tjA 7 ?_; (try simp only [Act.put, zA, zB, zC]))
         (refine tjA 8 ?_; (try simp only [Act.put, zA, zB, zC]))
         refine ryA [9] ?_
         refine rA1 fun K hK => ?_
         ·skip
          have bz : Below wz1.heap.size wz1 (wz1.alloc (.cells #[.int .i64 0, .bool false, .int .i64 0, .string ⟨#[]⟩, .slice none 0 0, .slice none 0 0] 25)) := (Below.refl _ _).alloc (Nat.le_refl _) _
          have hltwz2 : wz1.heap.size < (wz1.alloc (.cells #[.int .i64 0, .bool false, .int .i64 0, .string ⟨#[]⟩, .slice none 0 0, .slice none 0 0] 25)).heap.size := by rw [alloc_size]; omega
          have mbwz2 : (wz1.alloc (.cells #[.int .i64 0, .bool false, .int .i64 0, .string ⟨#[]⟩, .slice none 0 0, .slice none 0 0] 25)).heap[wz1.heap.size]? = some (.cells #[.int .i64 0, .bool false, .int .i64 0, .string ⟨#[]⟩, .slice none 0 0, .slice none 0 0] 25) := heap_alloc_new wz1 (.cells #[.int .i64 0, .bool false, .int .i64 0, .string ⟨#[]⟩, .slice none 0 0, .slice none 0 0] 25)
          have Bwz2 : Below wx1.heap.size wx1 (wz1.alloc (.cells #[.int .i64 0, .bool false, .int .i64 0, .string ⟨#[]⟩, .slice none 0 0, .slice none 0 0] 25)) := Bwz1.trans (bz.mono (by omega))
          have l1wz2 : Q.lies false (wz1.alloc (.cells #[.int .i64 0, .bool false, .int .i64 0, .string ⟨#[]⟩, .slice none 0 0, .slice none 0 0] 25)) (fun y => wx1.heap.size ≤ y ∧ y < wz1.heap.size) [.int .i64 gk, .bool gb, .int .i64 gi, .string gs, .slice gal gnl gcl, .slice gam gnm gcm] := V.lies_keep (fun h => h) (fun y hy => bz.block y (by omega)) (fun _ h => h) _ l1wz1
          go_simp
          refine hK.out _ _ ⟨(Bwz2.block (A13) (by omega)).trans hgwx1, (Bwz2.cell (p := ⟨lg, lo + j, none⟩) (by show lg < _; omega)).trans ce4⟩ (fun hHeld => ?_)
          clear hK K bz
          (try simp only [Act.put, zA, zB, zC])
          generalize (wz1.alloc (.cells #[.int .i64 0, .bool false, .int .i64 0, .string ⟨#[]⟩, .slice none 0 0, .slice none 0 0] 25)) = wz2 at *
          have RM := one_mid Bwz2 (A := wz1.heap.size) (by omega) (by omega) (by omega) (by omega) mbwz2 l1wz2
          have na0 : A13 ≠ wz1.heap.size := by omega
          have s0_ := (Bwz2.block (A13) (by omega)).trans hgwx1
          have na1 : lg ≠ wz1.heap.size := by omega
          have s1_ := (Bwz2.cell (p := ⟨lg, lo + j, none⟩) (by show lg < _; omega)).trans ce4
          have kb := mbwz2
          generalize wz1.heap.size = A_ at RM kb na0 na1 ⊢
          obtain ⟨p0, p1, p2, p3, p4, p5⟩ := sixC kb
          have fp := frozen_of_block kb
          have oA := six_o wz2 A_ (.int .i64 gk) (.bool gb) (.int .i64 gi) (.string gs) (.slice gal gnl gcl) (.slice gam gnm gcm)
          have u0_ := (oA (A13) na0).trans s0_
          have u1_ := (cell_block (o := lo + j) (oA lg na1)).trans s1_
          refine ryA [10] ?_
          refine rA1 fun K hK => ?_
          go_simp
          refine hK.out _ _ ⟨u0_, u1_⟩ (fun hHeld => ?_)
          clear hK K
          (try simp only [Act.put, zA, zB, zC])
          (refine tjA 11 ?_; (try simp only [Act.put, zA, zB, zC]))
          refine wpAnyH_done (by kernel_rfl) ?_ _
          (try dsimp only [Act.put, List.getElem_toArray, List.getElem_cons_succ, List.getElem_cons_zero, List.setIfInBounds_toArray, List.set_cons_zero, List.set_cons_succ])
          clear hHeld u0_ u1_ oA
          (try go_wp2_with fail)
          go_meet
          case rel => exact ⟨_, _, _, _, _, _, _, _, _, _, _, rfl, rfl, RM⟩
        ·skip
         have bz : Below wx1.heap.size wx1 (wx1.alloc (.cells #[.int .i64 0, .bool false, .int .i64 0, .string ⟨#[]⟩, .slice none 0 0, .slice none 0 0] 25)).drew := ((Below.refl _ _).alloc (Nat.le_refl _) _).drew
         have hltwz1 : wx1.heap.size < (wx1.alloc (.cells #[.int .i64 0, .bool false, .int .i64 0, .string ⟨#[]⟩, .slice none 0 0, .slice none 0 0] 25)).drew.heap.size := by show _ < (wx1.alloc _).heap.size; rw [alloc_size]; omega
         have mbwz1 : (wx1.alloc (.cells #[.int .i64 0, .bool false, .int .i64 0, .string ⟨#[]⟩, .slice none 0 0, .slice none 0 0] 25)).drew.heap[wx1.heap.size]? = some (.cells #[.int .i64 0, .bool false, .int .i64 0, .string ⟨#[]⟩, .slice none 0 0, .slice none 0 0] 25) := heap_alloc_new wx1 (.cells #[.int .i64 0, .bool false, .int .i64 0, .string ⟨#[]⟩, .slice none 0 0, .slice none 0 0] 25)
         have Bwz1 : Below wx1.heap.size wx1 (wx1.alloc (.cells #[.int .i64 0, .bool false, .int .i64 0, .string ⟨#[]⟩, .slice none 0 0, .slice none 0 0] 25)).drew := bz
         go_simp
         refine hK.out _ _ ⟨(Bwz1.block (A13) (by omega)).trans hgwx1, (Bwz1.cell (p := ⟨lg, lo + j, none⟩) (by show lg < _; omega)).trans ce4⟩ (fun hHeld => ?_)
         clear hK K bz
         (try simp only [Act.put, zA, zB, zC])
         generalize (wx1.alloc (.cells #[.int .i64 0, .bool false, .int .i64 0, .string ⟨#[]⟩, .slice none 0 0, .slice none 0 0] 25)).drew = wz1 at *
         refine ryA [5] ?_
         refine rA1 fun K hK => ?_
         ·skip
          go_simp
          refine (HQ2.out wz1 (bq.trans (Below.mono Bwz1 (by omega)))).mono ?_
          rintro e wz2 ⟨cs_, rfl, hlc, bc⟩
          obtain ⟨gk, gb, gi, gs, gal, gnl, gcl, gam, gnm, gcm, rfl⟩ := V.ten hlc
          have hltwz2 : wz1.heap.size ≤ wz2.heap.size := bc.size
          have mbwz2 := (bc.block (wx1.heap.size) (by omega)).trans mbwz1
          have Bwz2 : Below wx1.heap.size wx1 wz2 := Bwz1.trans (bc.mono (by omega))
          have l1wz2 : Q.lies false wz2 (fun y => wz1.heap.size ≤ y ∧ y < wz2.heap.size) [.int .i64 gk, .bool gb, .int .i64 gi, .string gs, .slice gal gnl gcl, .slice gam gnm gcm] := hlc
          refine hK.out _ _ ⟨(Bwz2.block (A13) (by omega)).trans hgwx1, (Bwz2.cell (p := ⟨lg, lo + j, none⟩) (by show lg < _; omega)).trans ce4⟩ (fun hHeld => ?_)
          clear hK K hlc bc
          (try simp only [Act.put, zA, zB, zC])
          (refine tjA 6 ?_; (try simp only [Act.put, zA, zB, zC]))
          (refine tjA 7 ?_; (try simp only [Act.put, zA, zB, zC]))
          (refine tjA 8 ?_; (try simp only [Act.put, zA, zB, zC]))
          have RM := one_mid Bwz2 (A := wx1.heap.size) (by omega) (by omega) (by omega) (by omega) mbwz2 l1wz2
          have na0 : A13 ≠ wx1.heap.size := by omega
          have s0_ := (Bwz2.block (A13) (by omega)).trans hgwx1
          have na1 : lg ≠ wx1.heap.size := by omega
          have s1_ := (Bwz2.cell (p := ⟨lg, lo + j, none⟩) (by show lg < _; omega)).trans ce4
          have kb := mbwz2
          generalize wx1.heap.size = A_ at RM kb na0 na1 ⊢
          obtain ⟨p0, p1, p2, p3, p4, p5⟩ := sixC kb
          have fp := frozen_of_block kb
          have oA := six_o wz2 A_ (.int .i64 gk) (.bool gb) (.int .i64 gi) (.string gs) (.slice gal gnl gcl) (.slice gam gnm gcm)
          have u0_ := (oA (A13) na0).trans s0_
          have u1_ := (cell_block (o := lo + j) (oA lg na1)).trans s1_
          refine ryA [10] ?_
          refine rA1 fun K hK => ?_
          go_simp
          refine hK.out _ _ ⟨u0_, u1_⟩ (fun hHeld => ?_)
          clear hK K
          (try simp only [Act.put, zA, zB, zC])
          (refine tjA 11 ?_; (try simp only [Act.put, zA, zB, zC]))
          refine wpAnyH_done (by kernel_rfl) ?_ _
          (try dsimp only [Act.put, List.getElem_toArray, List.getElem_cons_succ, List.getElem_cons_zero, List.setIfInBounds_toArray, List.set_cons_zero, List.set_cons_succ])
          clear hHeld u0_ u1_ oA
          (try go_wp2_with fail)
          go_meet
          case rel => exact ⟨_, _, _, _, _, _, _, _, _, _, _, rfl, rfl, RM⟩
       case rest =>
        rename World => wx2
        obtain ⟨A22, dk, db, di, ds, dal, dnl, dcl, dam, dnm, dcm, rfl, rfl, M⟩ := hcut
        have bq2 := M.bel
        have hdwx2 := M.bA
        have hA22 := M.lo
        have HD : Hid (∀ W, Below wx2.heap.size wx2 W → Q.lies false W (Old W) [.int .i64 dk, .bool db, .int .i64 di, .string ds, .slice dal dnl dcl, .slice dam dnm dcm]) := fun W hb => V.lies_keep (fun h => h) (fun x hx => hb.block x hx.2) (fun x hx => Nat.lt_of_lt_of_le hx.2 hb.size) _ M.l1
        have hzwx2 := bq2.size
        have hvwx2 := (bq2.block (w.heap.size) (by omega)).trans hvwx1
        have hxwx2 := (bq2.block (w.heap.size + 1) (by omega)).trans hxwx1
        have howx2 := (bq2.block (w6.heap.size) (by omega)).trans howx1
        have hgwx2 := (bq2.block (A13) (by omega)).trans hgwx1
        have hcwx2 := (bq2.block (A20) (by omega)).trans hcwx1
        have Bwwx2 := Bwwx1.trans (bq2.mono (by omega))
        have Bcwx2 := Bcwx1.trans (bq2.mono (by omega))
        have Bawx2 := Bawx1.trans (bq2.mono (by omega))
        have Bgwx2 := Bgwx1.trans (bq2.mono (by omega))
        have Bewx2 := Bewx1.trans (bq2.mono (by omega))
        have Bqwx2 := Bqwx1.trans (bq2.mono (by omega))
        clear M HQ2 ce4 bq bq2
        obtain ⟨cc0, cc1, cc2, cc3, cc4, cc5⟩ := sixC hcwx2
        obtain ⟨cd0, cd1, cd2, cd3, cd4, cd5⟩ := sixC hdwx2
        have CS := same_any Q false false Q (Old wx2) (Old wx2) _ _ wx2 (HK.out wx2 Bqwx2) (HD.out wx2 (Below.refl _ _)) (fun x hx => hx) (fun x hx => hx)
        rw [V.eqB_refl] at CS
        have CS := hmk CS
        go_wp2_with fail
        clear cc0 cc1 cc2 cc3 cc4 cc5 cd0 cd1 cd2 cd3 cd4 cd5
        refine CS.out.mono ?_
        rintro e wx3 ⟨rfl, b3⟩
        clear CS
        have hzwx3 := b3.size
        have hvwx3 := (b3.block (w.heap.size) (by omega)).trans hvwx2
        have hxwx3 := (b3.block (w.heap.size + 1) (by omega)).trans hxwx2
        have howx3 := (b3.block (w6.heap.size) (by omega)).trans howx2
        have hgwx3 := (b3.block (A13) (by omega)).trans hgwx2
        have hcwx3 := (b3.block (A20) (by omega)).trans hcwx2
        have hdwx3 := (b3.block (A22) (by omega)).trans hdwx2
        have Bwwx3 := Bwwx2.trans (b3.mono (by omega))
        have Bcwx3 := Bcwx2.trans (b3.mono (by omega))
        have Bawx3 := Bawx2.trans (b3.mono (by omega))
        have Bgwx3 := Bgwx2.trans (b3.mono (by omega))
        have Bewx3 := Bewx2.trans (b3.mono (by omega))
        have Bqwx3 := Bqwx2.trans (b3.mono (by omega))
        go_wp2_with fail
        go_roundw
        case rel => exact ⟨j + 1, by omega, by go_num, Bewx3⟩
        case measure => simp [RowKit.intOf]; omega
end Go.Proofs.YtgnofbigggmilaaGreatDoor
