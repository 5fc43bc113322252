import Derived.Test.YtnakligbogkmbaaGreatDoorG49
import Derived.Test.YtnakligbogkmbaaGreatDoorG50
set_option linter.unusedSimpArgs false
set_option linter.unusedVariables false
namespace Go.Proofs.YtnakligbogkmbaaGreatDoor
open Go.RowKit Go.Lib
theorem two_lie {w : World} {S : Nat → Prop} {v x : V} {g : Nat} {k : Int} {b : Bool} {i : Int} {s : ByteArray} {al : Option Addr} {nl cl : Nat} {am : Option Addr} {nm cm : Nat} {xk : Int} {xb : Bool} {xi : Int} {xs : ByteArray} {xal : Option Addr} {xnl xcl : Nat} {xam : Option Addr} {xnm xcm : Nat} (hv : v.lies false w S [.int .i64 k, .bool b, .int .i64 i, .string s, .slice al nl cl, .slice am nm cm]) (hx : x.lies false w S [.int .i64 xk, .bool xb, .int .i64 xi, .string xs, .slice xal xnl xcl, .slice xam xnm xcm]) (hg : S g) (hb : w.heap[g]? = some (.cells #[.int .i64 k, .bool b, .int .i64 i, .string s, .slice al nl cl, .slice am nm cm, .int .i64 xk, .bool xb, .int .i64 xi, .string xs, .slice xal xnl xcl, .slice xam xnm xcm] 25)) : liesL false w S [v, x] g 0 := by
 refine liesL_mk fun q hq => ⟨hg, ?_⟩
 rcases q with _ | _ | q
 ·refine ⟨_, fun j u hu => ?_, hv⟩
  rw [cBk hb]
  rcases j with _ | _ | _ | _ | _ | _ | j <;> first | (simp at hu) | skip
  all_goals first | (injection hu with hu; subst hu; rfl) | (exact absurd hu (by simp)) | (simpa using hu)
 ·refine ⟨_, fun j u hu => ?_, hx⟩
  rw [cBk hb]
  rcases j with _ | _ | _ | _ | _ | _ | j <;> first | (simp at hu) | skip
  all_goals first | (injection hu with hu; subst hu; rfl) | (exact absurd hu (by simp)) | (simpa using hu)
 ·exact absurd hq (by simp only [List.length_cons, List.length_nil]; omega)
set_option maxHeartbeats 8000000 in
set_option maxRecDepth 100000 in
theorem puts_walk (v x : V) (p : ByteArray) (cs ds : List Value) (w : World) (tg : Tg w) (hv : v.lies false w (Old w) cs) (hx : x.lies false w (Old w) ds) (hp : p.size ≤ 1100000) : Calls Tryz.prog 3 #[.agg cs.toArray, .string p, .agg ds.toArray] w (BPost true w) := by
 obtain ⟨k, b, i, s, al, nl, cl, am, nm, cm, rfl⟩ := V.ten hv
 obtain ⟨xk, xb, xi, xs, xal, xnl, xcl, xam, xnm, xcm, rfl⟩ := V.ten hx
 have HL : Hid (∀ W, Below w.heap.size w W → v.lies false W (Old W) [.int .i64 k, .bool b, .int .i64 i, .string s, .slice al nl cl, .slice am nm cm]) := fun W hB => V.lies_keep (fun h => h) (fun x hx => hB.block x hx) (fun x hx => Nat.lt_of_lt_of_le hx hB.size) _ hv
 have HX : Hid (∀ W, Below w.heap.size w W → x.lies false W (Old W) [.int .i64 xk, .bool xb, .int .i64 xi, .string xs, .slice xal xnl xcl, .slice xam xnm xcm]) := fun W hB => V.lies_keep (fun h => h) (fun x hx => hB.block x hx) (fun x hx => Nat.lt_of_lt_of_le hx hB.size) _ hx
 have HL0 : Hid (∀ W, Below w.heap.size w W → v.lies false W (Old w) [.int .i64 k, .bool b, .int .i64 i, .string s, .slice al nl cl, .slice am nm cm]) := fun W hB => V.lies_keep (fun h => h) (fun x hx => hB.block x hx) (fun x hx => hx) _ hv
 have HX0 : Hid (∀ W, Below w.heap.size w W → x.lies false W (Old w) [.int .i64 xk, .bool xb, .int .i64 xi, .string xs, .slice xal xnl xcl, .slice xam xnm xcm]) := fun W hB => V.lies_keep (fun h => h) (fun x hx => hB.block x hx) (fun x hx => hx) _ hx
 have HT : Hid (∀ W, Below w.heap.size w W → Tg W) := fun W hb => tg.below hb tg.z
 have b2 : Below w.heap.size w ((w.alloc (oV k b i s al nl cl am nm cm)).alloc (oV xk xb xi xs xal xnl xcl xam xnm xcm)) := tBw w _ _
 have hz2 : ((w.alloc (oV k b i s al nl cl am nm cm)).alloc (oV xk xb xi xs xal xnl xcl xam xnm xcm)).heap.size = w.heap.size + 2 := by rw [aSz, aSz]
 have hz2 := hz2; dsimp only [oV, oN] at hz2
 have b3 : Below ((w.alloc (oV k b i s al nl cl am nm cm)).alloc (oV xk xb xi xs xal xnl xcl xam xnm xcm)).heap.size ((w.alloc (oV k b i s al nl cl am nm cm)).alloc (oV xk xb xi xs xal xnl xcl xam xnm xcm)) (((w.alloc (oV k b i s al nl cl am nm cm)).alloc (oV xk xb xi xs xal xnl xcl xam xnm xcm)).alloc (.cells #[.int .i64 k, .bool b, .int .i64 i, .string s, .slice al nl cl, .slice am nm cm, .int .i64 xk, .bool xb, .int .i64 xi, .string xs, .slice xal xnl xcl, .slice xam xnm xcm] 25)) := oBw _ _
 have hz3 : (((w.alloc (oV k b i s al nl cl am nm cm)).alloc (oV xk xb xi xs xal xnl xcl xam xnm xcm)).alloc (.cells #[.int .i64 k, .bool b, .int .i64 i, .string s, .slice al nl cl, .slice am nm cm, .int .i64 xk, .bool xb, .int .i64 xi, .string xs, .slice xal xnl xcl, .slice xam xnm xcm] 25)).heap.size = w.heap.size + 3 := by rw [aSz, hz2]
 have hz3 := hz3; dsimp only [oV, oN] at hz3
 have Bww0 : Below w.heap.size w (((w.alloc (oV k b i s al nl cl am nm cm)).alloc (oV xk xb xi xs xal xnl xcl xam xnm xcm)).alloc (.cells #[.int .i64 k, .bool b, .int .i64 i, .string s, .slice al nl cl, .slice am nm cm, .int .i64 xk, .bool xb, .int .i64 xi, .string xs, .slice xal xnl xcl, .slice xam xnm xcm] 25)) := b2.trans (b3.mono (by omega))
 have hvw0 := (b3.block w.heap.size (by omega)).trans (a2k w (oV k b i s al nl cl am nm cm) (oV xk xb xi xs xal xnl xcl xam xnm xcm))
 have hxw0 := (b3.block (w.heap.size + 1) (by omega)).trans (a2n w (oV k b i s al nl cl am nm cm) (oV xk xb xi xs xal xnl xcl xam xnm xcm))
 have hl3 := heap_alloc_new ((w.alloc (oV k b i s al nl cl am nm cm)).alloc (oV xk xb xi xs xal xnl xcl xam xnm xcm)) (.cells #[.int .i64 k, .bool b, .int .i64 i, .string s, .slice al nl cl, .slice am nm cm, .int .i64 xk, .bool xb, .int .i64 xi, .string xs, .slice xal xnl xcl, .slice xam xnm xcm] 25)
 rw [hz2] at hl3
 have g0 := a2k w (oV k b i s al nl cl am nm cm) (oV xk xb xi xs xal xnl xcl xam xnm xcm)
 have g1 := a2n w (oV k b i s al nl cl am nm cm) (oV xk xb xi xs xal xnl xcl xam xnm xcm)
 obtain ⟨cv0, cv1, cv2, cv3, cv4, cv5⟩ := sixC g0
 obtain ⟨cx0, cx1, cx2, cx3, cx4, cx5⟩ := sixC g1
 have CV := hmk (values_any [v, x] (Old (((w.alloc (oV k b i s al nl cl am nm cm)).alloc (oV xk xb xi xs xal xnl xcl xam xnm xcm)).alloc (.cells #[.int .i64 k, .bool b, .int .i64 i, .string s, .slice al nl cl, .slice am nm cm, .int .i64 xk, .bool xb, .int .i64 xi, .string xs, .slice xal xnl xcl, .slice xam xnm xcm] 25))) (some ⟨w.heap.size + 2, 0, none⟩) 2 (w.heap.size + 2) 0 (((w.alloc (oV k b i s al nl cl am nm cm)).alloc (oV xk xb xi xs xal xnl xcl xam xnm xcm)).alloc (.cells #[.int .i64 k, .bool b, .int .i64 i, .string s, .slice al nl cl, .slice am nm cm, .int .i64 xk, .bool xb, .int .i64 xi, .string xs, .slice xal xnl xcl, .slice xam xnm xcm] 25)) ⟨Nat.le_refl _, by (show 2 ≤ maxLen; unfold maxLen; omega), .inr rfl, fun h => by cases h⟩ (two_lie (HL.out _ Bww0) (HX.out _ Bww0) (show w.heap.size + 2 < (((w.alloc (oV k b i s al nl cl am nm cm)).alloc (oV xk xb xi xs xal xnl xcl xam xnm xcm)).alloc (.cells #[.int .i64 k, .bool b, .int .i64 i, .string s, .slice al nl cl, .slice am nm cm, .int .i64 xk, .bool xb, .int .i64 xi, .string xs, .slice xal xnl xcl, .slice xam xnm xcm] 25)).heap.size by omega) hl3) (fun y hy => hy))
 clear hv hx tg b2 b3 hz2 hl3 g0 g1
 go_enter Tryz.func3, Tryz.ntmps3
 go_wp2_with fail
 clear cv0 cv1 cv2 cv3 cv4 cv5 cx0 cx1 cx2 cx3 cx4 cx5
 generalize (((w.alloc (oV k b i s al nl cl am nm cm)).alloc (oV xk xb xi xs xal xnl xcl xam xnm xcm)).alloc (.cells #[.int .i64 k, .bool b, .int .i64 i, .string s, .slice al nl cl, .slice am nm cm, .int .i64 xk, .bool xb, .int .i64 xi, .string xs, .slice xal xnl xcl, .slice xam xnm xcm] 25)) = w0 at *
 refine CV.out.mono ?_
 rintro e w1 ⟨r, rfl, hr, b1⟩
 have hzw1 := b1.size
 have hvw1 := (b1.block (w.heap.size) (by omega)).trans hvw0
 have hxw1 := (b1.block (w.heap.size + 1) (by omega)).trans hxw0
 have Bww1 := Bww0.trans (b1.mono (by omega))
 cases r with
 | true =>
  go_wp2_with fail
  go_ret
  exact ⟨rfl, Bww1⟩
 | false =>
  have hwt := hr rfl
  simp only [wtL] at hwt
  clear hr CV
  obtain ⟨cv0, cv1, cv2, cv3, cv4, cv5⟩ := sixC hvw1
  go_wp2_with fail
  clear cv0 cv1 cv2 cv3 cv4 cv5
  refine (rcl_any v (Old w1) _ w1 (HL.out w1 Bww1) (fun x hx => hx) (by omega)).mono ?_
  rintro e w2 ⟨csu, rfl, hlu, b2⟩
  obtain ⟨uk, ub, ui, us, ual, unl, ucl, uam, unm, ucm, rfl⟩ := V.ten hlu
  have HU : Hid (∀ W, Below w2.heap.size w2 W → v.lies false W (Old W) [.int .i64 uk, .bool ub, .int .i64 ui, .string us, .slice ual unl ucl, .slice uam unm ucm]) := fun W hb => V.lies_keep (fun h => h) (fun x hx => hb.block x hx.2) (fun x hx => Nat.lt_of_lt_of_le hx.2 hb.size) _ hlu
  have hzw2 := b2.size
  have hvw2 := (b2.block (w.heap.size) (by omega)).trans hvw1
  have hxw2 := (b2.block (w.heap.size + 1) (by omega)).trans hxw1
  have Bww2 := Bww1.trans (b2.mono (by omega))
  have Bcw2 : Below w2.heap.size w2 w2 := Below.refl _ _
  have bzw3 : Below w2.heap.size w2 (w2.alloc (oV uk ub ui us ual unl ucl uam unm ucm)) := oBw _ _
  have hltw3 : w2.heap.size < (w2.alloc (oV uk ub ui us ual unl ucl uam unm ucm)).heap.size := by rw [aSz]; omega
  have hltw3 := hltw3; dsimp only [oV, oN] at hltw3
  have hvw3 := (bzw3.block (w.heap.size) (by omega)).trans hvw2
  have hxw3 := (bzw3.block (w.heap.size + 1) (by omega)).trans hxw2
  have Bww3 := Bww2.trans (bzw3.mono (by omega))
  have Bcw3 := Bcw2.trans (bzw3.mono (by omega))
  have h7w3 := heap_alloc_new w2 (oV uk ub ui us ual unl ucl uam unm ucm)
  clear hlu b2
  obtain ⟨cx0, cx1, cx2, cx3, cx4, cx5⟩ := sixC hxw3
  go_wp2_with fail
  clear cx0 cx1 cx2 cx3 cx4 cx5
  generalize (w2.alloc (oV uk ub ui us ual unl ucl uam unm ucm)) = w3 at *
  refine (rcl_any x (Old w3) _ w3 (HX.out w3 Bww3) (fun x hx => hx) (by omega)).mono ?_
  rintro e w4 ⟨cst, rfl, hlt, b4⟩
  obtain ⟨tk, tb, ti, ts, tal, tnl, tcl, tam, tnm, tcm, rfl⟩ := V.ten hlt
  have HR : Hid (∀ W, Below w4.heap.size w4 W → x.lies false W (Old W) [.int .i64 tk, .bool tb, .int .i64 ti, .string ts, .slice tal tnl tcl, .slice tam tnm tcm]) := fun W hb => V.lies_keep (fun h => h) (fun x hx => hb.block x hx.2) (fun x hx => Nat.lt_of_lt_of_le hx.2 hb.size) _ hlt
  have hzw4 := b4.size
  have hvw4 := (b4.block (w.heap.size) (by omega)).trans hvw3
  have hxw4 := (b4.block (w.heap.size + 1) (by omega)).trans hxw3
  have h7w4 := (b4.block (w2.heap.size) (by omega)).trans h7w3
  have Bww4 := Bww3.trans (b4.mono (by omega))
  have Bcw4 := Bcw3.trans (b4.mono (by omega))
  have Bdw4 : Below w4.heap.size w4 w4 := Below.refl _ _
  have bzw5 : Below w4.heap.size w4 (w4.alloc (oV tk tb ti ts tal tnl tcl tam tnm tcm)) := oBw _ _
  have hltw5 : w4.heap.size < (w4.alloc (oV tk tb ti ts tal tnl tcl tam tnm tcm)).heap.size := by rw [aSz]; omega
  have hltw5 := hltw5; dsimp only [oV, oN] at hltw5
  have hvw5 := (bzw5.block (w.heap.size) (by omega)).trans hvw4
  have hxw5 := (bzw5.block (w.heap.size + 1) (by omega)).trans hxw4
  have h7w5 := (bzw5.block (w2.heap.size) (by omega)).trans h7w4
  have Bww5 := Bww4.trans (bzw5.mono (by omega))
  have Bcw5 := Bcw4.trans (bzw5.mono (by omega))
  have Bdw5 := Bdw4.trans (bzw5.mono (by omega))
  have h8w5 := heap_alloc_new w4 (oV tk tb ti ts tal tnl tcl tam tnm tcm)
  clear hlt b4
  obtain ⟨cu0, cu1, cu2, cu3, cu4, cu5⟩ := sixC h7w5
  obtain ⟨ct0, ct1, ct2, ct3, ct4, ct5⟩ := sixC h8w5
  go_wp2_with fail
  clear cu0 cu1 cu2 cu3 cu4 cu5 ct0 ct1 ct2 ct3 ct4 ct5
  generalize (w4.alloc (oV tk tb ti ts tal tnl tcl tam tnm tcm)) = w5 at *
  refine (set_any v p x (Old w5) _ _ w5 (HT.out w5 Bww5) (HU.out w5 Bcw5) (HR.out w5 Bdw5) (fun x hx => hx) (by omega) (by omega) hp).mono ?_
  rintro e w6 ⟨csg, rfl, hlg, b6⟩
  rw [set_same] at hlg
  rw [set_same]
  obtain ⟨gk, gb, gi, gs, gal, gnl, gcl, gam, gnm, gcm, rfl⟩ := V.ten hlg
  have hzw6 := b6.size
  have hvw6 := (b6.block (w.heap.size) (by omega)).trans hvw5
  have hxw6 := (b6.block (w.heap.size + 1) (by omega)).trans hxw5
  have h7w6 := (b6.block (w2.heap.size) (by omega)).trans h7w5
  have h8w6 := (b6.block (w4.heap.size) (by omega)).trans h8w5
  have Bww6 := Bww5.trans (b6.mono (by omega))
  have Bcw6 := Bcw5.trans (b6.mono (by omega))
  have Bdw6 := Bdw5.trans (b6.mono (by omega))
  have HG : Hid (∀ W, Below w6.heap.size w6 W → (putR 1 v p x).1.lies false W (Old W) [.int .i64 gk, .bool gb, .int .i64 gi, .string gs, .slice gal gnl gcl, .slice gam gnm gcm]) := fun W hb => V.lies_keep (fun h => h) (fun x hx => hb.block x hx.2) (fun x hx => Nat.lt_of_lt_of_le hx.2 hb.size) _ hlg
  have Baw6 : Below w6.heap.size w6 w6 := Below.refl _ _
  have bzw7 : Below w6.heap.size w6 (w6.alloc (oV gk gb gi gs gal gnl gcl gam gnm gcm)) := oBw _ _
  have hltw7 : w6.heap.size < (w6.alloc (oV gk gb gi gs gal gnl gcl gam gnm gcm)).heap.size := by rw [aSz]; omega
  have hltw7 := hltw7; dsimp only [oV, oN] at hltw7
  have hvw7 := (bzw7.block (w.heap.size) (by omega)).trans hvw6
  have hxw7 := (bzw7.block (w.heap.size + 1) (by omega)).trans hxw6
  have h7w7 := (bzw7.block (w2.heap.size) (by omega)).trans h7w6
  have h8w7 := (bzw7.block (w4.heap.size) (by omega)).trans h8w6
  have Bww7 := Bww6.trans (bzw7.mono (by omega))
  have Bcw7 := Bcw6.trans (bzw7.mono (by omega))
  have Bdw7 := Bdw6.trans (bzw7.mono (by omega))
  have Baw7 := Baw6.trans (bzw7.mono (by omega))
  have h9w7 := heap_alloc_new w6 (oV gk gb gi gs gal gnl gcl gam gnm gcm)
  clear hlg b6
  obtain ⟨cv0, cv1, cv2, cv3, cv4, cv5⟩ := sixC hvw7
  obtain ⟨cx0, cx1, cx2, cx3, cx4, cx5⟩ := sixC hxw7
  go_wp2_with fail
  clear cv0 cv1 cv2 cv3 cv4 cv5 cx0 cx1 cx2 cx3 cx4 cx5
  generalize (w6.alloc (oV gk gb gi gs gal gnl gcl gam gnm gcm)) = w7 at *
  refine (rset_any v x p (Old w7) _ _ w7 (HL.out w7 Bww7) (HX.out w7 Bww7) (fun x hx => hx) (by omega) (by omega) hp).mono ?_
  rintro e w8 ⟨csf, rfl, hlf, b8⟩
  obtain ⟨fk, fb, fi, fs, fal, fnl, fcl, fam, fnm, fcm, rfl⟩ := V.ten hlf
  have hzw8 := b8.size
  have hvw8 := (b8.block (w.heap.size) (by omega)).trans hvw7
  have hxw8 := (b8.block (w.heap.size + 1) (by omega)).trans hxw7
  have h7w8 := (b8.block (w2.heap.size) (by omega)).trans h7w7
  have h8w8 := (b8.block (w4.heap.size) (by omega)).trans h8w7
  have h9w8 := (b8.block (w6.heap.size) (by omega)).trans h9w7
  have Bww8 := Bww7.trans (b8.mono (by omega))
  have Bcw8 := Bcw7.trans (b8.mono (by omega))
  have Bdw8 := Bdw7.trans (b8.mono (by omega))
  have Baw8 := Baw7.trans (b8.mono (by omega))
  have HF : Hid (∀ W, Below w8.heap.size w8 W → (putR 1 v p x).1.lies false W (Old W) [.int .i64 fk, .bool fb, .int .i64 fi, .string fs, .slice fal fnl fcl, .slice fam fnm fcm]) := fun W hb => V.lies_keep (fun h => h) (fun x hx => hb.block x (hx.elim (fun h => Nat.lt_of_lt_of_le h hzw8) (fun h => h.2))) (fun x hx => Nat.lt_of_lt_of_le (hx.elim (fun h => Nat.lt_of_lt_of_le h hzw8) (fun h => h.2)) hb.size) _ hlf
  have bzw9 : Below w8.heap.size w8 (w8.alloc (oV fk fb fi fs fal fnl fcl fam fnm fcm)) := oBw _ _
  have hltw9 : w8.heap.size < (w8.alloc (oV fk fb fi fs fal fnl fcl fam fnm fcm)).heap.size := by rw [aSz]; omega
  have hltw9 := hltw9; dsimp only [oV, oN] at hltw9
  have hvw9 := (bzw9.block (w.heap.size) (by omega)).trans hvw8
  have hxw9 := (bzw9.block (w.heap.size + 1) (by omega)).trans hxw8
  have h7w9 := (bzw9.block (w2.heap.size) (by omega)).trans h7w8
  have h8w9 := (bzw9.block (w4.heap.size) (by omega)).trans h8w8
  have h9w9 := (bzw9.block (w6.heap.size) (by omega)).trans h9w8
  have Bww9 := Bww8.trans (bzw9.mono (by omega))
  have Bcw9 := Bcw8.trans (bzw9.mono (by omega))
  have Bdw9 := Bdw8.trans (bzw9.mono (by omega))
  have Baw9 := Baw8.trans (bzw9.mono (by omega))
  have h11w9 := heap_alloc_new w8 (oV fk fb fi fs fal fnl fcl fam fnm fcm)
  clear hlf b8
  obtain ⟨cg0, cg1, cg2, cg3, cg4, cg5⟩ := sixC h9w9
  obtain ⟨cf0, cf1, cf2, cf3, cf4, cf5⟩ := sixC h11w9
  have CS := hmk (same_any (putR 1 v p x).1 false false (putR 1 v p x).1 (Old (w8.alloc (oV fk fb fi fs fal fnl fcl fam fnm fcm))) (Old (w8.alloc (oV fk fb fi fs fal fnl fcl fam fnm fcm))) _ _ (w8.alloc (oV fk fb fi fs fal fnl fcl fam fnm fcm)) (HG.out (w8.alloc (oV fk fb fi fs fal fnl fcl fam fnm fcm)) Baw9) (HF.out (w8.alloc (oV fk fb fi fs fal fnl fcl fam fnm fcm)) bzw9) (fun x hx => hx) (fun x hx => hx))
  rw [V.eqB_refl] at CS
  generalize (putR 1 v p x).2 = er1 at *
  clear HG HF
  go_wp2_with fail
  clear cg0 cg1 cg2 cg3 cg4 cg5 cf0 cf1 cf2 cf3 cf4 cf5
  generalize (w8.alloc (oV fk fb fi fs fal fnl fcl fam fnm fcm)) = w9 at *
  refine CS.out.mono ?_
  rintro e wa ⟨rfl, ba⟩
  have hzwa := ba.size
  have hvwa := (ba.block (w.heap.size) (by omega)).trans hvw9
  have hxwa := (ba.block (w.heap.size + 1) (by omega)).trans hxw9
  have h7wa := (ba.block (w2.heap.size) (by omega)).trans h7w9
  have h8wa := (ba.block (w4.heap.size) (by omega)).trans h8w9
  have h9wa := (ba.block (w6.heap.size) (by omega)).trans h9w9
  have h11wa := (ba.block (w8.heap.size) (by omega)).trans h11w9
  have Bwwa := Bww9.trans (ba.mono (by omega))
  have Bcwa := Bcw9.trans (ba.mono (by omega))
  have Bdwa := Bdw9.trans (ba.mono (by omega))
  have Bawa := Baw9.trans (ba.mono (by omega))
  clear CS
  obtain ⟨cu0, cu1, cu2, cu3, cu4, cu5⟩ := sixC h7wa
  obtain ⟨ct0, ct1, ct2, ct3, ct4, ct5⟩ := sixC h8wa
  go_wp2_with fail
  clear cu0 cu1 cu2 cu3 cu4 cu5 ct0 ct1 ct2 ct3 ct4 ct5
  refine (add_any v p x (Old wa) _ _ wa (HT.out wa Bwwa) (HU.out wa Bcwa) (HR.out wa Bdwa) (fun x hx => hx) (by omega) (by omega) hp).mono ?_
  rintro e wb ⟨csp, rfl, hlp, bb⟩
  rw [addp_same] at hlp
  rw [addp_same]
  obtain ⟨p_k, p_b, p_i, p_s, p_al, p_nl, p_cl, p_am, p_nm, p_cm, rfl⟩ := V.ten hlp
  have hzwb := bb.size
  have hvwb := (bb.block (w.heap.size) (by omega)).trans hvwa
  have hxwb := (bb.block (w.heap.size + 1) (by omega)).trans hxwa
  have h7wb := (bb.block (w2.heap.size) (by omega)).trans h7wa
  have h8wb := (bb.block (w4.heap.size) (by omega)).trans h8wa
  have h9wb := (bb.block (w6.heap.size) (by omega)).trans h9wa
  have h11wb := (bb.block (w8.heap.size) (by omega)).trans h11wa
  have Bwwb := Bwwa.trans (bb.mono (by omega))
  have Bcwb := Bcwa.trans (bb.mono (by omega))
  have Bdwb := Bdwa.trans (bb.mono (by omega))
  obtain ⟨z0, z1, z2, z3, z4, z5⟩ := sixC h9wb
  have f9 := fBk h9wb
  have HPp := hmk hlp
  have Howd := hmk (six_o wb (w6.heap.size) (.int .i64 p_k) (.bool p_b) (.int .i64 p_i) (.string p_s) (.slice p_al p_nl p_cl) (.slice p_am p_nm p_cm))
  have Hswd : Hid (((((((wb.setCell ⟨w6.heap.size, 0, none⟩ (.int .i64 p_k)).setCell ⟨w6.heap.size, 1, none⟩ (.bool p_b)).setCell ⟨w6.heap.size, 2, none⟩ (.int .i64 p_i)).setCell ⟨w6.heap.size, 3, none⟩ (.string p_s)).setCell ⟨w6.heap.size, 4, none⟩ (.slice p_al p_nl p_cl)).setCell ⟨w6.heap.size, 5, none⟩ (.slice p_am p_nm p_cm)).heap.size = wb.heap.size) := by show _ = _; simp only [sz1]
  have hgewd : wb.heap.size ≤ ((((((wb.setCell ⟨w6.heap.size, 0, none⟩ (.int .i64 p_k)).setCell ⟨w6.heap.size, 1, none⟩ (.bool p_b)).setCell ⟨w6.heap.size, 2, none⟩ (.int .i64 p_i)).setCell ⟨w6.heap.size, 3, none⟩ (.string p_s)).setCell ⟨w6.heap.size, 4, none⟩ (.slice p_al p_nl p_cl)).setCell ⟨w6.heap.size, 5, none⟩ (.slice p_am p_nm p_cm)).heap.size := by rw [Hswd.out]; exact Nat.le_refl _
  have hvwd := (Howd.out (w.heap.size) (by omega)).trans hvwb
  have hxwd := (Howd.out (w.heap.size + 1) (by omega)).trans hxwb
  have h7wd := (Howd.out (w2.heap.size) (by omega)).trans h7wb
  have h8wd := (Howd.out (w4.heap.size) (by omega)).trans h8wb
  have h9wd := box_six h9wb (.int .i64 p_k) (.bool p_b) (.int .i64 p_i) (.string p_s) (.slice p_al p_nl p_cl) (.slice p_am p_nm p_cm)
  have h11wd := (Howd.out (w8.heap.size) (by omega)).trans h11wb
  have Bwwd := Below.set6 Bwwb (M := w6.heap.size) (by omega) 0 1 2 3 4 5 (.int .i64 p_k) (.bool p_b) (.int .i64 p_i) (.string p_s) (.slice p_al p_nl p_cl) (.slice p_am p_nm p_cm)
  have Bcwd := Below.set6 Bcwb (M := w6.heap.size) (by omega) 0 1 2 3 4 5 (.int .i64 p_k) (.bool p_b) (.int .i64 p_i) (.string p_s) (.slice p_al p_nl p_cl) (.slice p_am p_nm p_cm)
  have Bdwd := Below.set6 Bdwb (M := w6.heap.size) (by omega) 0 1 2 3 4 5 (.int .i64 p_k) (.bool p_b) (.int .i64 p_i) (.string p_s) (.slice p_al p_nl p_cl) (.slice p_am p_nm p_cm)
  clear hlp
  obtain ⟨cv0, cv1, cv2, cv3, cv4, cv5⟩ := sixC hvwd
  obtain ⟨cx0, cx1, cx2, cx3, cx4, cx5⟩ := sixC hxwd
  go_wp2_with fail
  clear cv0 cv1 cv2 cv3 cv4 cv5 cx0 cx1 cx2 cx3 cx4 cx5 z0 z1 z2 z3 z4 z5 f9
  generalize ((((((wb.setCell ⟨w6.heap.size, 0, none⟩ (.int .i64 p_k)).setCell ⟨w6.heap.size, 1, none⟩ (.bool p_b)).setCell ⟨w6.heap.size, 2, none⟩ (.int .i64 p_i)).setCell ⟨w6.heap.size, 3, none⟩ (.string p_s)).setCell ⟨w6.heap.size, 4, none⟩ (.slice p_al p_nl p_cl)).setCell ⟨w6.heap.size, 5, none⟩ (.slice p_am p_nm p_cm)) = wd at *
  refine (radd_any v x p (Old w) _ _ wd (HL0.out wd Bwwd) (HX0.out wd Bwwd) (fun x hx => Nat.lt_of_lt_of_le hx Bwwd.size) (by omega) (by omega) hp).mono ?_
  rintro e we ⟨csq, rfl, hlq, be⟩
  obtain ⟨q_k, q_b, q_i, q_s, q_al, q_nl, q_cl, q_am, q_nm, q_cm, rfl⟩ := V.ten hlq
  have hzwe := be.size
  have hvwe := (be.block (w.heap.size) (by omega)).trans hvwd
  have hxwe := (be.block (w.heap.size + 1) (by omega)).trans hxwd
  have h7we := (be.block (w2.heap.size) (by omega)).trans h7wd
  have h8we := (be.block (w4.heap.size) (by omega)).trans h8wd
  have h9we := (be.block (w6.heap.size) (by omega)).trans h9wd
  have h11we := (be.block (w8.heap.size) (by omega)).trans h11wd
  have Bwwe := Bwwd.trans (be.mono (by omega))
  have Bcwe := Bcwd.trans (be.mono (by omega))
  have Bdwe := Bdwd.trans (be.mono (by omega))
  obtain ⟨z0, z1, z2, z3, z4, z5⟩ := sixC h11we
  have f11 := fBk h11we
  have Howf := hmk (six_o we (w8.heap.size) (.int .i64 q_k) (.bool q_b) (.int .i64 q_i) (.string q_s) (.slice q_al q_nl q_cl) (.slice q_am q_nm q_cm))
  have Hswf : Hid (((((((we.setCell ⟨w8.heap.size, 0, none⟩ (.int .i64 q_k)).setCell ⟨w8.heap.size, 1, none⟩ (.bool q_b)).setCell ⟨w8.heap.size, 2, none⟩ (.int .i64 q_i)).setCell ⟨w8.heap.size, 3, none⟩ (.string q_s)).setCell ⟨w8.heap.size, 4, none⟩ (.slice q_al q_nl q_cl)).setCell ⟨w8.heap.size, 5, none⟩ (.slice q_am q_nm q_cm)).heap.size = we.heap.size) := by show _ = _; simp only [sz1]
  have hgewf : we.heap.size ≤ ((((((we.setCell ⟨w8.heap.size, 0, none⟩ (.int .i64 q_k)).setCell ⟨w8.heap.size, 1, none⟩ (.bool q_b)).setCell ⟨w8.heap.size, 2, none⟩ (.int .i64 q_i)).setCell ⟨w8.heap.size, 3, none⟩ (.string q_s)).setCell ⟨w8.heap.size, 4, none⟩ (.slice q_al q_nl q_cl)).setCell ⟨w8.heap.size, 5, none⟩ (.slice q_am q_nm q_cm)).heap.size := by rw [Hswf.out]; exact Nat.le_refl _
  have hvwf := (Howf.out (w.heap.size) (by omega)).trans hvwe
  have hxwf := (Howf.out (w.heap.size + 1) (by omega)).trans hxwe
  have h7wf := (Howf.out (w2.heap.size) (by omega)).trans h7we
  have h8wf := (Howf.out (w4.heap.size) (by omega)).trans h8we
  have h9wf := (Howf.out (w6.heap.size) (by omega)).trans h9we
  have h11wf := box_six h11we (.int .i64 q_k) (.bool q_b) (.int .i64 q_i) (.string q_s) (.slice q_al q_nl q_cl) (.slice q_am q_nm q_cm)
  have Bwwf := Below.set6 Bwwe (M := w8.heap.size) (by omega) 0 1 2 3 4 5 (.int .i64 q_k) (.bool q_b) (.int .i64 q_i) (.string q_s) (.slice q_al q_nl q_cl) (.slice q_am q_nm q_cm)
  have Bcwf := Below.set6 Bcwe (M := w8.heap.size) (by omega) 0 1 2 3 4 5 (.int .i64 q_k) (.bool q_b) (.int .i64 q_i) (.string q_s) (.slice q_al q_nl q_cl) (.slice q_am q_nm q_cm)
  have Bdwf := Below.set6 Bdwe (M := w8.heap.size) (by omega) 0 1 2 3 4 5 (.int .i64 q_k) (.bool q_b) (.int .i64 q_i) (.string q_s) (.slice q_al q_nl q_cl) (.slice q_am q_nm q_cm)
  have LP : (putR 2 v p x).1.lies false ((((((we.setCell ⟨w8.heap.size, 0, none⟩ (.int .i64 q_k)).setCell ⟨w8.heap.size, 1, none⟩ (.bool q_b)).setCell ⟨w8.heap.size, 2, none⟩ (.int .i64 q_i)).setCell ⟨w8.heap.size, 3, none⟩ (.string q_s)).setCell ⟨w8.heap.size, 4, none⟩ (.slice q_al q_nl q_cl)).setCell ⟨w8.heap.size, 5, none⟩ (.slice q_am q_nm q_cm)) (Old ((((((we.setCell ⟨w8.heap.size, 0, none⟩ (.int .i64 q_k)).setCell ⟨w8.heap.size, 1, none⟩ (.bool q_b)).setCell ⟨w8.heap.size, 2, none⟩ (.int .i64 q_i)).setCell ⟨w8.heap.size, 3, none⟩ (.string q_s)).setCell ⟨w8.heap.size, 4, none⟩ (.slice q_al q_nl q_cl)).setCell ⟨w8.heap.size, 5, none⟩ (.slice q_am q_nm q_cm))) [.int .i64 p_k, .bool p_b, .int .i64 p_i, .string p_s, .slice p_al p_nl p_cl, .slice p_am p_nm p_cm] := V.lies_keep (fun h => h) (fun y hy => (Howf.out y (by have := hy.1; omega)).trans ((be.block y (by have := hy.2; omega)).trans (Howd.out y (by have := hy.1; omega)))) (fun y hy => by show y < _; have := hy.2; omega) _ HPp.out
  have LQ : (putR 2 v p x).1.lies false ((((((we.setCell ⟨w8.heap.size, 0, none⟩ (.int .i64 q_k)).setCell ⟨w8.heap.size, 1, none⟩ (.bool q_b)).setCell ⟨w8.heap.size, 2, none⟩ (.int .i64 q_i)).setCell ⟨w8.heap.size, 3, none⟩ (.string q_s)).setCell ⟨w8.heap.size, 4, none⟩ (.slice q_al q_nl q_cl)).setCell ⟨w8.heap.size, 5, none⟩ (.slice q_am q_nm q_cm)) (Old ((((((we.setCell ⟨w8.heap.size, 0, none⟩ (.int .i64 q_k)).setCell ⟨w8.heap.size, 1, none⟩ (.bool q_b)).setCell ⟨w8.heap.size, 2, none⟩ (.int .i64 q_i)).setCell ⟨w8.heap.size, 3, none⟩ (.string q_s)).setCell ⟨w8.heap.size, 4, none⟩ (.slice q_al q_nl q_cl)).setCell ⟨w8.heap.size, 5, none⟩ (.slice q_am q_nm q_cm))) [.int .i64 q_k, .bool q_b, .int .i64 q_i, .string q_s, .slice q_al q_nl q_cl, .slice q_am q_nm q_cm] := V.lies_keep (fun h => h) (fun y hy => Howf.out y (hy.elim (fun hy => by have hy' : y < w.heap.size := hy; omega) (fun hy => by have := hy.1; omega))) (fun y hy => by show y < _; exact hy.elim (fun hy => by have hy' : y < w.heap.size := hy; omega) (fun hy => by have := hy.2; omega)) _ hlq
  have CS := hmk (same_any (putR 2 v p x).1 false false (putR 2 v p x).1 (Old ((((((we.setCell ⟨w8.heap.size, 0, none⟩ (.int .i64 q_k)).setCell ⟨w8.heap.size, 1, none⟩ (.bool q_b)).setCell ⟨w8.heap.size, 2, none⟩ (.int .i64 q_i)).setCell ⟨w8.heap.size, 3, none⟩ (.string q_s)).setCell ⟨w8.heap.size, 4, none⟩ (.slice q_al q_nl q_cl)).setCell ⟨w8.heap.size, 5, none⟩ (.slice q_am q_nm q_cm))) (Old ((((((we.setCell ⟨w8.heap.size, 0, none⟩ (.int .i64 q_k)).setCell ⟨w8.heap.size, 1, none⟩ (.bool q_b)).setCell ⟨w8.heap.size, 2, none⟩ (.int .i64 q_i)).setCell ⟨w8.heap.size, 3, none⟩ (.string q_s)).setCell ⟨w8.heap.size, 4, none⟩ (.slice q_al q_nl q_cl)).setCell ⟨w8.heap.size, 5, none⟩ (.slice q_am q_nm q_cm))) _ _ ((((((we.setCell ⟨w8.heap.size, 0, none⟩ (.int .i64 q_k)).setCell ⟨w8.heap.size, 1, none⟩ (.bool q_b)).setCell ⟨w8.heap.size, 2, none⟩ (.int .i64 q_i)).setCell ⟨w8.heap.size, 3, none⟩ (.string q_s)).setCell ⟨w8.heap.size, 4, none⟩ (.slice q_al q_nl q_cl)).setCell ⟨w8.heap.size, 5, none⟩ (.slice q_am q_nm q_cm)) LP LQ (fun x hx => hx) (fun x hx => hx))
  rw [V.eqB_refl] at CS
  generalize (putR 2 v p x).2 = er2 at *
  clear LP LQ HPp hlq
  obtain ⟨cp0, cp1, cp2, cp3, cp4, cp5⟩ := sixC h9wf
  obtain ⟨cq0, cq1, cq2, cq3, cq4, cq5⟩ := sixC h11wf
  go_wp2_with fail
  clear cp0 cp1 cp2 cp3 cp4 cp5 cq0 cq1 cq2 cq3 cq4 cq5 z0 z1 z2 z3 z4 z5 f11
  generalize ((((((we.setCell ⟨w8.heap.size, 0, none⟩ (.int .i64 q_k)).setCell ⟨w8.heap.size, 1, none⟩ (.bool q_b)).setCell ⟨w8.heap.size, 2, none⟩ (.int .i64 q_i)).setCell ⟨w8.heap.size, 3, none⟩ (.string q_s)).setCell ⟨w8.heap.size, 4, none⟩ (.slice q_al q_nl q_cl)).setCell ⟨w8.heap.size, 5, none⟩ (.slice q_am q_nm q_cm)) = wf at *
  refine CS.out.mono ?_
  rintro e wg ⟨rfl, bg⟩
  have hzwg := bg.size
  have hvwg := (bg.block (w.heap.size) (by omega)).trans hvwf
  have hxwg := (bg.block (w.heap.size + 1) (by omega)).trans hxwf
  have h7wg := (bg.block (w2.heap.size) (by omega)).trans h7wf
  have h8wg := (bg.block (w4.heap.size) (by omega)).trans h8wf
  have h9wg := (bg.block (w6.heap.size) (by omega)).trans h9wf
  have h11wg := (bg.block (w8.heap.size) (by omega)).trans h11wf
  have Bwwg := Bwwf.trans (bg.mono (by omega))
  have Bcwg := Bcwf.trans (bg.mono (by omega))
  have Bdwg := Bdwf.trans (bg.mono (by omega))
  clear CS
  obtain ⟨cu0, cu1, cu2, cu3, cu4, cu5⟩ := sixC h7wg
  go_wp2_with fail
  clear cu0 cu1 cu2 cu3 cu4 cu5
  refine (take_any v p (Old wg) _ wg (HT.out wg Bwwg) (HU.out wg Bcwg) (fun x hx => hx) (by omega) hp).mono ?_
  rintro e wh ⟨csn, csm, rfl, hln, hlm, bh⟩
  rw [tak_same] at hln hlm
  rw [tak_same]
  obtain ⟨n_k, n_b, n_i, n_s, n_al, n_nl, n_cl, n_am, n_nm, n_cm, rfl⟩ := V.ten hln
  obtain ⟨m_k, m_b, m_i, m_s, m_al, m_nl, m_cl, m_am, m_nm, m_cm, rfl⟩ := V.ten hlm
  have hzwh := bh.size
  have hvwh := (bh.block (w.heap.size) (by omega)).trans hvwg
  have hxwh := (bh.block (w.heap.size + 1) (by omega)).trans hxwg
  have h7wh := (bh.block (w2.heap.size) (by omega)).trans h7wg
  have h8wh := (bh.block (w4.heap.size) (by omega)).trans h8wg
  have h9wh := (bh.block (w6.heap.size) (by omega)).trans h9wg
  have h11wh := (bh.block (w8.heap.size) (by omega)).trans h11wg
  have Bwwh := Bwwg.trans (bh.mono (by omega))
  have Bcwh := Bcwg.trans (bh.mono (by omega))
  have Bdwh := Bdwg.trans (bh.mono (by omega))
  have HPn := hmk hln
  have HPm := hmk hlm
  have bzwi : Below wh.heap.size wh (wh.alloc oN) := oBw _ _
  have hltwi : wh.heap.size < (wh.alloc oN).heap.size := by rw [aSz]; omega
  have hltwi := hltwi; dsimp only [oV, oN] at hltwi
  have hvwi := (bzwi.block (w.heap.size) (by omega)).trans hvwh
  have hxwi := (bzwi.block (w.heap.size + 1) (by omega)).trans hxwh
  have h7wi := (bzwi.block (w2.heap.size) (by omega)).trans h7wh
  have h8wi := (bzwi.block (w4.heap.size) (by omega)).trans h8wh
  have h9wi := (bzwi.block (w6.heap.size) (by omega)).trans h9wh
  have h11wi := (bzwi.block (w8.heap.size) (by omega)).trans h11wh
  have Bwwi := Bwwh.trans (bzwi.mono (by omega))
  have Bcwi := Bcwh.trans (bzwi.mono (by omega))
  have Bdwi := Bdwh.trans (bzwi.mono (by omega))
  have h13wi := heap_alloc_new wh oN
  obtain ⟨z0, z1, z2, z3, z4, z5⟩ := sixC h9wi
  have f9 := fBk h9wi
  have Howj := hmk (six_o (wh.alloc oN) (w6.heap.size) (.int .i64 n_k) (.bool n_b) (.int .i64 n_i) (.string n_s) (.slice n_al n_nl n_cl) (.slice n_am n_nm n_cm))
  have Hswj : Hid ((((((((wh.alloc oN).setCell ⟨w6.heap.size, 0, none⟩ (.int .i64 n_k)).setCell ⟨w6.heap.size, 1, none⟩ (.bool n_b)).setCell ⟨w6.heap.size, 2, none⟩ (.int .i64 n_i)).setCell ⟨w6.heap.size, 3, none⟩ (.string n_s)).setCell ⟨w6.heap.size, 4, none⟩ (.slice n_al n_nl n_cl)).setCell ⟨w6.heap.size, 5, none⟩ (.slice n_am n_nm n_cm)).heap.size = (wh.alloc oN).heap.size) := by show _ = _; simp only [sz1]
  have hgewj : (wh.alloc oN).heap.size ≤ (((((((wh.alloc oN).setCell ⟨w6.heap.size, 0, none⟩ (.int .i64 n_k)).setCell ⟨w6.heap.size, 1, none⟩ (.bool n_b)).setCell ⟨w6.heap.size, 2, none⟩ (.int .i64 n_i)).setCell ⟨w6.heap.size, 3, none⟩ (.string n_s)).setCell ⟨w6.heap.size, 4, none⟩ (.slice n_al n_nl n_cl)).setCell ⟨w6.heap.size, 5, none⟩ (.slice n_am n_nm n_cm)).heap.size := by rw [Hswj.out]; exact Nat.le_refl _
  have hgewj := hgewj; dsimp only [oV, oN] at hgewj
  have hvwj := (Howj.out (w.heap.size) (by omega)).trans hvwi
  have hxwj := (Howj.out (w.heap.size + 1) (by omega)).trans hxwi
  have h7wj := (Howj.out (w2.heap.size) (by omega)).trans h7wi
  have h8wj := (Howj.out (w4.heap.size) (by omega)).trans h8wi
  have h9wj := box_six h9wi (.int .i64 n_k) (.bool n_b) (.int .i64 n_i) (.string n_s) (.slice n_al n_nl n_cl) (.slice n_am n_nm n_cm)
  have h11wj := (Howj.out (w8.heap.size) (by omega)).trans h11wi
  have h13wj := (Howj.out (wh.heap.size) (by omega)).trans h13wi
  have Bwwj := Below.set6 Bwwi (M := w6.heap.size) (by omega) 0 1 2 3 4 5 (.int .i64 n_k) (.bool n_b) (.int .i64 n_i) (.string n_s) (.slice n_al n_nl n_cl) (.slice n_am n_nm n_cm)
  have Bcwj := Below.set6 Bcwi (M := w6.heap.size) (by omega) 0 1 2 3 4 5 (.int .i64 n_k) (.bool n_b) (.int .i64 n_i) (.string n_s) (.slice n_al n_nl n_cl) (.slice n_am n_nm n_cm)
  have Bdwj := Below.set6 Bdwi (M := w6.heap.size) (by omega) 0 1 2 3 4 5 (.int .i64 n_k) (.bool n_b) (.int .i64 n_i) (.string n_s) (.slice n_al n_nl n_cl) (.slice n_am n_nm n_cm)
  obtain ⟨y0, y1, y2, y3, y4, y5⟩ := sixC h13wj
  have f13 := fBk h13wj
  have Howk := hmk (six_o (((((((wh.alloc oN).setCell ⟨w6.heap.size, 0, none⟩ (.int .i64 n_k)).setCell ⟨w6.heap.size, 1, none⟩ (.bool n_b)).setCell ⟨w6.heap.size, 2, none⟩ (.int .i64 n_i)).setCell ⟨w6.heap.size, 3, none⟩ (.string n_s)).setCell ⟨w6.heap.size, 4, none⟩ (.slice n_al n_nl n_cl)).setCell ⟨w6.heap.size, 5, none⟩ (.slice n_am n_nm n_cm)) (wh.heap.size) (.int .i64 m_k) (.bool m_b) (.int .i64 m_i) (.string m_s) (.slice m_al m_nl m_cl) (.slice m_am m_nm m_cm))
  have Hswk : Hid ((((((((((((((wh.alloc oN).setCell ⟨w6.heap.size, 0, none⟩ (.int .i64 n_k)).setCell ⟨w6.heap.size, 1, none⟩ (.bool n_b)).setCell ⟨w6.heap.size, 2, none⟩ (.int .i64 n_i)).setCell ⟨w6.heap.size, 3, none⟩ (.string n_s)).setCell ⟨w6.heap.size, 4, none⟩ (.slice n_al n_nl n_cl)).setCell ⟨w6.heap.size, 5, none⟩ (.slice n_am n_nm n_cm)).setCell ⟨wh.heap.size, 0, none⟩ (.int .i64 m_k)).setCell ⟨wh.heap.size, 1, none⟩ (.bool m_b)).setCell ⟨wh.heap.size, 2, none⟩ (.int .i64 m_i)).setCell ⟨wh.heap.size, 3, none⟩ (.string m_s)).setCell ⟨wh.heap.size, 4, none⟩ (.slice m_al m_nl m_cl)).setCell ⟨wh.heap.size, 5, none⟩ (.slice m_am m_nm m_cm)).heap.size = (((((((wh.alloc oN).setCell ⟨w6.heap.size, 0, none⟩ (.int .i64 n_k)).setCell ⟨w6.heap.size, 1, none⟩ (.bool n_b)).setCell ⟨w6.heap.size, 2, none⟩ (.int .i64 n_i)).setCell ⟨w6.heap.size, 3, none⟩ (.string n_s)).setCell ⟨w6.heap.size, 4, none⟩ (.slice n_al n_nl n_cl)).setCell ⟨w6.heap.size, 5, none⟩ (.slice n_am n_nm n_cm)).heap.size) := by show _ = _; simp only [sz1]
  have hgewk : (((((((wh.alloc oN).setCell ⟨w6.heap.size, 0, none⟩ (.int .i64 n_k)).setCell ⟨w6.heap.size, 1, none⟩ (.bool n_b)).setCell ⟨w6.heap.size, 2, none⟩ (.int .i64 n_i)).setCell ⟨w6.heap.size, 3, none⟩ (.string n_s)).setCell ⟨w6.heap.size, 4, none⟩ (.slice n_al n_nl n_cl)).setCell ⟨w6.heap.size, 5, none⟩ (.slice n_am n_nm n_cm)).heap.size ≤ (((((((((((((wh.alloc oN).setCell ⟨w6.heap.size, 0, none⟩ (.int .i64 n_k)).setCell ⟨w6.heap.size, 1, none⟩ (.bool n_b)).setCell ⟨w6.heap.size, 2, none⟩ (.int .i64 n_i)).setCell ⟨w6.heap.size, 3, none⟩ (.string n_s)).setCell ⟨w6.heap.size, 4, none⟩ (.slice n_al n_nl n_cl)).setCell ⟨w6.heap.size, 5, none⟩ (.slice n_am n_nm n_cm)).setCell ⟨wh.heap.size, 0, none⟩ (.int .i64 m_k)).setCell ⟨wh.heap.size, 1, none⟩ (.bool m_b)).setCell ⟨wh.heap.size, 2, none⟩ (.int .i64 m_i)).setCell ⟨wh.heap.size, 3, none⟩ (.string m_s)).setCell ⟨wh.heap.size, 4, none⟩ (.slice m_al m_nl m_cl)).setCell ⟨wh.heap.size, 5, none⟩ (.slice m_am m_nm m_cm)).heap.size := by rw [Hswk.out]; exact Nat.le_refl _
  have hgewk := hgewk; dsimp only [oV, oN] at hgewk
  have hvwk := (Howk.out (w.heap.size) (by omega)).trans hvwj
  have hxwk := (Howk.out (w.heap.size + 1) (by omega)).trans hxwj
  have h7wk := (Howk.out (w2.heap.size) (by omega)).trans h7wj
  have h8wk := (Howk.out (w4.heap.size) (by omega)).trans h8wj
  have h9wk := (Howk.out (w6.heap.size) (by omega)).trans h9wj
  have h11wk := (Howk.out (w8.heap.size) (by omega)).trans h11wj
  have h13wk := box_six h13wj (.int .i64 m_k) (.bool m_b) (.int .i64 m_i) (.string m_s) (.slice m_al m_nl m_cl) (.slice m_am m_nm m_cm)
  have Bwwk := Below.set6 Bwwj (M := wh.heap.size) (by omega) 0 1 2 3 4 5 (.int .i64 m_k) (.bool m_b) (.int .i64 m_i) (.string m_s) (.slice m_al m_nl m_cl) (.slice m_am m_nm m_cm)
  have Bcwk := Below.set6 Bcwj (M := wh.heap.size) (by omega) 0 1 2 3 4 5 (.int .i64 m_k) (.bool m_b) (.int .i64 m_i) (.string m_s) (.slice m_al m_nl m_cl) (.slice m_am m_nm m_cm)
  have Bdwk := Below.set6 Bdwj (M := wh.heap.size) (by omega) 0 1 2 3 4 5 (.int .i64 m_k) (.bool m_b) (.int .i64 m_i) (.string m_s) (.slice m_al m_nl m_cl) (.slice m_am m_nm m_cm)
  clear hln hlm
  have HKn : Hid (∀ y, wg.heap.size ≤ y → y < wh.heap.size → (((((((((((((wh.alloc oN).setCell ⟨w6.heap.size, 0, none⟩ (.int .i64 n_k)).setCell ⟨w6.heap.size, 1, none⟩ (.bool n_b)).setCell ⟨w6.heap.size, 2, none⟩ (.int .i64 n_i)).setCell ⟨w6.heap.size, 3, none⟩ (.string n_s)).setCell ⟨w6.heap.size, 4, none⟩ (.slice n_al n_nl n_cl)).setCell ⟨w6.heap.size, 5, none⟩ (.slice n_am n_nm n_cm)).setCell ⟨wh.heap.size, 0, none⟩ (.int .i64 m_k)).setCell ⟨wh.heap.size, 1, none⟩ (.bool m_b)).setCell ⟨wh.heap.size, 2, none⟩ (.int .i64 m_i)).setCell ⟨wh.heap.size, 3, none⟩ (.string m_s)).setCell ⟨wh.heap.size, 4, none⟩ (.slice m_al m_nl m_cl)).setCell ⟨wh.heap.size, 5, none⟩ (.slice m_am m_nm m_cm)).heap[y]? = wh.heap[y]?) := fun y h1 h2 => (Howk.out y (by omega)).trans ((Howj.out y (by omega)).trans (bzwi.block y h2))
  have hgk : wh.heap.size < (((((((((((((wh.alloc oN).setCell ⟨w6.heap.size, 0, none⟩ (.int .i64 n_k)).setCell ⟨w6.heap.size, 1, none⟩ (.bool n_b)).setCell ⟨w6.heap.size, 2, none⟩ (.int .i64 n_i)).setCell ⟨w6.heap.size, 3, none⟩ (.string n_s)).setCell ⟨w6.heap.size, 4, none⟩ (.slice n_al n_nl n_cl)).setCell ⟨w6.heap.size, 5, none⟩ (.slice n_am n_nm n_cm)).setCell ⟨wh.heap.size, 0, none⟩ (.int .i64 m_k)).setCell ⟨wh.heap.size, 1, none⟩ (.bool m_b)).setCell ⟨wh.heap.size, 2, none⟩ (.int .i64 m_i)).setCell ⟨wh.heap.size, 3, none⟩ (.string m_s)).setCell ⟨wh.heap.size, 4, none⟩ (.slice m_al m_nl m_cl)).setCell ⟨wh.heap.size, 5, none⟩ (.slice m_am m_nm m_cm)).heap.size := by rw [Hswk.out, Hswj.out]; exact hltwi
  have hgk := hgk; dsimp only [oV, oN] at hgk
  obtain ⟨cv0, cv1, cv2, cv3, cv4, cv5⟩ := sixC hvwk
  go_wp2_with fail
  clear cv0 cv1 cv2 cv3 cv4 cv5 z0 z1 z2 z3 z4 z5 y0 y1 y2 y3 y4 y5 f9 f13 Howk Howj bzwi Hswk Hswj hgewj hgewk hltwi
  clear hvwi hvwj
  clear hxwi hxwj
  clear h7wi h7wj
  clear h8wi h8wj
  clear h9wi h9wj
  clear h11wi h11wj
  clear h13wi h13wj
  clear Bwwi Bwwj
  clear Bcwi Bcwj
  clear Bdwi Bdwj
  generalize (((((((((((((wh.alloc oN).setCell ⟨w6.heap.size, 0, none⟩ (.int .i64 n_k)).setCell ⟨w6.heap.size, 1, none⟩ (.bool n_b)).setCell ⟨w6.heap.size, 2, none⟩ (.int .i64 n_i)).setCell ⟨w6.heap.size, 3, none⟩ (.string n_s)).setCell ⟨w6.heap.size, 4, none⟩ (.slice n_al n_nl n_cl)).setCell ⟨w6.heap.size, 5, none⟩ (.slice n_am n_nm n_cm)).setCell ⟨wh.heap.size, 0, none⟩ (.int .i64 m_k)).setCell ⟨wh.heap.size, 1, none⟩ (.bool m_b)).setCell ⟨wh.heap.size, 2, none⟩ (.int .i64 m_i)).setCell ⟨wh.heap.size, 3, none⟩ (.string m_s)).setCell ⟨wh.heap.size, 4, none⟩ (.slice m_al m_nl m_cl)).setCell ⟨wh.heap.size, 5, none⟩ (.slice m_am m_nm m_cm)) = wk at *
  refine (rtake_any v p (Old w) _ wk (HL0.out wk Bwwk) (fun x hx => Nat.lt_of_lt_of_le hx Bwwk.size) (by omega) hp).mono ?_
  rintro e wl ⟨cso, csr, rfl, hlo, hlr, bl_⟩
  obtain ⟨o_k, o_b, o_i, o_s, o_al, o_nl, o_cl, o_am, o_nm, o_cm, rfl⟩ := V.ten hlo
  obtain ⟨r_k, r_b, r_i, r_s, r_al, r_nl, r_cl, r_am, r_nm, r_cm, rfl⟩ := V.ten hlr
  have hzwl := bl_.size
  have hvwl := (bl_.block (w.heap.size) (by omega)).trans hvwk
  have hxwl := (bl_.block (w.heap.size + 1) (by omega)).trans hxwk
  have h7wl := (bl_.block (w2.heap.size) (by omega)).trans h7wk
  have h8wl := (bl_.block (w4.heap.size) (by omega)).trans h8wk
  have h9wl := (bl_.block (w6.heap.size) (by omega)).trans h9wk
  have h11wl := (bl_.block (w8.heap.size) (by omega)).trans h11wk
  have h13wl := (bl_.block (wh.heap.size) (by omega)).trans h13wk
  have Bwwl := Bwwk.trans (bl_.mono (by omega))
  have Bcwl := Bcwk.trans (bl_.mono (by omega))
  have Bdwl := Bdwk.trans (bl_.mono (by omega))
  have bzwm : Below wl.heap.size wl (wl.alloc oN) := oBw _ _
  have hltwm : wl.heap.size < (wl.alloc oN).heap.size := by rw [aSz]; omega
  have hltwm := hltwm; dsimp only [oV, oN] at hltwm
  have hvwm := (bzwm.block (w.heap.size) (by omega)).trans hvwl
  have hxwm := (bzwm.block (w.heap.size + 1) (by omega)).trans hxwl
  have h7wm := (bzwm.block (w2.heap.size) (by omega)).trans h7wl
  have h8wm := (bzwm.block (w4.heap.size) (by omega)).trans h8wl
  have h9wm := (bzwm.block (w6.heap.size) (by omega)).trans h9wl
  have h11wm := (bzwm.block (w8.heap.size) (by omega)).trans h11wl
  have h13wm := (bzwm.block (wh.heap.size) (by omega)).trans h13wl
  have Bwwm := Bwwl.trans (bzwm.mono (by omega))
  have Bcwm := Bcwl.trans (bzwm.mono (by omega))
  have Bdwm := Bdwl.trans (bzwm.mono (by omega))
  have h14wm := heap_alloc_new wl oN
  obtain ⟨z0, z1, z2, z3, z4, z5⟩ := sixC h11wm
  have f11 := fBk h11wm
  have Hown := hmk (six_o (wl.alloc oN) (w8.heap.size) (.int .i64 o_k) (.bool o_b) (.int .i64 o_i) (.string o_s) (.slice o_al o_nl o_cl) (.slice o_am o_nm o_cm))
  have Hswn : Hid ((((((((wl.alloc oN).setCell ⟨w8.heap.size, 0, none⟩ (.int .i64 o_k)).setCell ⟨w8.heap.size, 1, none⟩ (.bool o_b)).setCell ⟨w8.heap.size, 2, none⟩ (.int .i64 o_i)).setCell ⟨w8.heap.size, 3, none⟩ (.string o_s)).setCell ⟨w8.heap.size, 4, none⟩ (.slice o_al o_nl o_cl)).setCell ⟨w8.heap.size, 5, none⟩ (.slice o_am o_nm o_cm)).heap.size = (wl.alloc oN).heap.size) := by show _ = _; simp only [sz1]
  have hgewn : (wl.alloc oN).heap.size ≤ (((((((wl.alloc oN).setCell ⟨w8.heap.size, 0, none⟩ (.int .i64 o_k)).setCell ⟨w8.heap.size, 1, none⟩ (.bool o_b)).setCell ⟨w8.heap.size, 2, none⟩ (.int .i64 o_i)).setCell ⟨w8.heap.size, 3, none⟩ (.string o_s)).setCell ⟨w8.heap.size, 4, none⟩ (.slice o_al o_nl o_cl)).setCell ⟨w8.heap.size, 5, none⟩ (.slice o_am o_nm o_cm)).heap.size := by rw [Hswn.out]; exact Nat.le_refl _
  have hgewn := hgewn; dsimp only [oV, oN] at hgewn
  have hvwn := (Hown.out (w.heap.size) (by omega)).trans hvwm
  have hxwn := (Hown.out (w.heap.size + 1) (by omega)).trans hxwm
  have h7wn := (Hown.out (w2.heap.size) (by omega)).trans h7wm
  have h8wn := (Hown.out (w4.heap.size) (by omega)).trans h8wm
  have h9wn := (Hown.out (w6.heap.size) (by omega)).trans h9wm
  have h11wn := box_six h11wm (.int .i64 o_k) (.bool o_b) (.int .i64 o_i) (.string o_s) (.slice o_al o_nl o_cl) (.slice o_am o_nm o_cm)
  have h13wn := (Hown.out (wh.heap.size) (by omega)).trans h13wm
  have h14wn := (Hown.out (wl.heap.size) (by omega)).trans h14wm
  have Bwwn := Below.set6 Bwwm (M := w8.heap.size) (by omega) 0 1 2 3 4 5 (.int .i64 o_k) (.bool o_b) (.int .i64 o_i) (.string o_s) (.slice o_al o_nl o_cl) (.slice o_am o_nm o_cm)
  have Bcwn := Below.set6 Bcwm (M := w8.heap.size) (by omega) 0 1 2 3 4 5 (.int .i64 o_k) (.bool o_b) (.int .i64 o_i) (.string o_s) (.slice o_al o_nl o_cl) (.slice o_am o_nm o_cm)
  have Bdwn := Below.set6 Bdwm (M := w8.heap.size) (by omega) 0 1 2 3 4 5 (.int .i64 o_k) (.bool o_b) (.int .i64 o_i) (.string o_s) (.slice o_al o_nl o_cl) (.slice o_am o_nm o_cm)
  obtain ⟨y0, y1, y2, y3, y4, y5⟩ := sixC h14wn
  have f14 := fBk h14wn
  have Howo := hmk (six_o (((((((wl.alloc oN).setCell ⟨w8.heap.size, 0, none⟩ (.int .i64 o_k)).setCell ⟨w8.heap.size, 1, none⟩ (.bool o_b)).setCell ⟨w8.heap.size, 2, none⟩ (.int .i64 o_i)).setCell ⟨w8.heap.size, 3, none⟩ (.string o_s)).setCell ⟨w8.heap.size, 4, none⟩ (.slice o_al o_nl o_cl)).setCell ⟨w8.heap.size, 5, none⟩ (.slice o_am o_nm o_cm)) (wl.heap.size) (.int .i64 r_k) (.bool r_b) (.int .i64 r_i) (.string r_s) (.slice r_al r_nl r_cl) (.slice r_am r_nm r_cm))
  have Hswo : Hid ((((((((((((((wl.alloc oN).setCell ⟨w8.heap.size, 0, none⟩ (.int .i64 o_k)).setCell ⟨w8.heap.size, 1, none⟩ (.bool o_b)).setCell ⟨w8.heap.size, 2, none⟩ (.int .i64 o_i)).setCell ⟨w8.heap.size, 3, none⟩ (.string o_s)).setCell ⟨w8.heap.size, 4, none⟩ (.slice o_al o_nl o_cl)).setCell ⟨w8.heap.size, 5, none⟩ (.slice o_am o_nm o_cm)).setCell ⟨wl.heap.size, 0, none⟩ (.int .i64 r_k)).setCell ⟨wl.heap.size, 1, none⟩ (.bool r_b)).setCell ⟨wl.heap.size, 2, none⟩ (.int .i64 r_i)).setCell ⟨wl.heap.size, 3, none⟩ (.string r_s)).setCell ⟨wl.heap.size, 4, none⟩ (.slice r_al r_nl r_cl)).setCell ⟨wl.heap.size, 5, none⟩ (.slice r_am r_nm r_cm)).heap.size = (((((((wl.alloc oN).setCell ⟨w8.heap.size, 0, none⟩ (.int .i64 o_k)).setCell ⟨w8.heap.size, 1, none⟩ (.bool o_b)).setCell ⟨w8.heap.size, 2, none⟩ (.int .i64 o_i)).setCell ⟨w8.heap.size, 3, none⟩ (.string o_s)).setCell ⟨w8.heap.size, 4, none⟩ (.slice o_al o_nl o_cl)).setCell ⟨w8.heap.size, 5, none⟩ (.slice o_am o_nm o_cm)).heap.size) := by show _ = _; simp only [sz1]
  have hgewo : (((((((wl.alloc oN).setCell ⟨w8.heap.size, 0, none⟩ (.int .i64 o_k)).setCell ⟨w8.heap.size, 1, none⟩ (.bool o_b)).setCell ⟨w8.heap.size, 2, none⟩ (.int .i64 o_i)).setCell ⟨w8.heap.size, 3, none⟩ (.string o_s)).setCell ⟨w8.heap.size, 4, none⟩ (.slice o_al o_nl o_cl)).setCell ⟨w8.heap.size, 5, none⟩ (.slice o_am o_nm o_cm)).heap.size ≤ (((((((((((((wl.alloc oN).setCell ⟨w8.heap.size, 0, none⟩ (.int .i64 o_k)).setCell ⟨w8.heap.size, 1, none⟩ (.bool o_b)).setCell ⟨w8.heap.size, 2, none⟩ (.int .i64 o_i)).setCell ⟨w8.heap.size, 3, none⟩ (.string o_s)).setCell ⟨w8.heap.size, 4, none⟩ (.slice o_al o_nl o_cl)).setCell ⟨w8.heap.size, 5, none⟩ (.slice o_am o_nm o_cm)).setCell ⟨wl.heap.size, 0, none⟩ (.int .i64 r_k)).setCell ⟨wl.heap.size, 1, none⟩ (.bool r_b)).setCell ⟨wl.heap.size, 2, none⟩ (.int .i64 r_i)).setCell ⟨wl.heap.size, 3, none⟩ (.string r_s)).setCell ⟨wl.heap.size, 4, none⟩ (.slice r_al r_nl r_cl)).setCell ⟨wl.heap.size, 5, none⟩ (.slice r_am r_nm r_cm)).heap.size := by rw [Hswo.out]; exact Nat.le_refl _
  have hgewo := hgewo; dsimp only [oV, oN] at hgewo
  have hvwo := (Howo.out (w.heap.size) (by omega)).trans hvwn
  have hxwo := (Howo.out (w.heap.size + 1) (by omega)).trans hxwn
  have h7wo := (Howo.out (w2.heap.size) (by omega)).trans h7wn
  have h8wo := (Howo.out (w4.heap.size) (by omega)).trans h8wn
  have h9wo := (Howo.out (w6.heap.size) (by omega)).trans h9wn
  have h11wo := (Howo.out (w8.heap.size) (by omega)).trans h11wn
  have h13wo := (Howo.out (wh.heap.size) (by omega)).trans h13wn
  have h14wo := box_six h14wn (.int .i64 r_k) (.bool r_b) (.int .i64 r_i) (.string r_s) (.slice r_al r_nl r_cl) (.slice r_am r_nm r_cm)
  have Bwwo := Below.set6 Bwwn (M := wl.heap.size) (by omega) 0 1 2 3 4 5 (.int .i64 r_k) (.bool r_b) (.int .i64 r_i) (.string r_s) (.slice r_al r_nl r_cl) (.slice r_am r_nm r_cm)
  have Bcwo := Below.set6 Bcwn (M := wl.heap.size) (by omega) 0 1 2 3 4 5 (.int .i64 r_k) (.bool r_b) (.int .i64 r_i) (.string r_s) (.slice r_al r_nl r_cl) (.slice r_am r_nm r_cm)
  have Bdwo := Below.set6 Bdwn (M := wl.heap.size) (by omega) 0 1 2 3 4 5 (.int .i64 r_k) (.bool r_b) (.int .i64 r_i) (.string r_s) (.slice r_al r_nl r_cl) (.slice r_am r_nm r_cm)
  have HKo : Hid (∀ y, y < wl.heap.size → y ≠ w8.heap.size → (((((((((((((wl.alloc oN).setCell ⟨w8.heap.size, 0, none⟩ (.int .i64 o_k)).setCell ⟨w8.heap.size, 1, none⟩ (.bool o_b)).setCell ⟨w8.heap.size, 2, none⟩ (.int .i64 o_i)).setCell ⟨w8.heap.size, 3, none⟩ (.string o_s)).setCell ⟨w8.heap.size, 4, none⟩ (.slice o_al o_nl o_cl)).setCell ⟨w8.heap.size, 5, none⟩ (.slice o_am o_nm o_cm)).setCell ⟨wl.heap.size, 0, none⟩ (.int .i64 r_k)).setCell ⟨wl.heap.size, 1, none⟩ (.bool r_b)).setCell ⟨wl.heap.size, 2, none⟩ (.int .i64 r_i)).setCell ⟨wl.heap.size, 3, none⟩ (.string r_s)).setCell ⟨wl.heap.size, 4, none⟩ (.slice r_al r_nl r_cl)).setCell ⟨wl.heap.size, 5, none⟩ (.slice r_am r_nm r_cm)).heap[y]? = wl.heap[y]?) := fun y h1 h2 => (Howo.out y (by omega)).trans ((Hown.out y (by omega)).trans (bzwm.block y h1))
  have hgo : wl.heap.size < (((((((((((((wl.alloc oN).setCell ⟨w8.heap.size, 0, none⟩ (.int .i64 o_k)).setCell ⟨w8.heap.size, 1, none⟩ (.bool o_b)).setCell ⟨w8.heap.size, 2, none⟩ (.int .i64 o_i)).setCell ⟨w8.heap.size, 3, none⟩ (.string o_s)).setCell ⟨w8.heap.size, 4, none⟩ (.slice o_al o_nl o_cl)).setCell ⟨w8.heap.size, 5, none⟩ (.slice o_am o_nm o_cm)).setCell ⟨wl.heap.size, 0, none⟩ (.int .i64 r_k)).setCell ⟨wl.heap.size, 1, none⟩ (.bool r_b)).setCell ⟨wl.heap.size, 2, none⟩ (.int .i64 r_i)).setCell ⟨wl.heap.size, 3, none⟩ (.string r_s)).setCell ⟨wl.heap.size, 4, none⟩ (.slice r_al r_nl r_cl)).setCell ⟨wl.heap.size, 5, none⟩ (.slice r_am r_nm r_cm)).heap.size := by rw [Hswo.out, Hswn.out]; exact hltwm
  have hgo := hgo; dsimp only [oV, oN] at hgo
  have LN : Hid (∀ W, Below (((((((((((((wl.alloc oN).setCell ⟨w8.heap.size, 0, none⟩ (.int .i64 o_k)).setCell ⟨w8.heap.size, 1, none⟩ (.bool o_b)).setCell ⟨w8.heap.size, 2, none⟩ (.int .i64 o_i)).setCell ⟨w8.heap.size, 3, none⟩ (.string o_s)).setCell ⟨w8.heap.size, 4, none⟩ (.slice o_al o_nl o_cl)).setCell ⟨w8.heap.size, 5, none⟩ (.slice o_am o_nm o_cm)).setCell ⟨wl.heap.size, 0, none⟩ (.int .i64 r_k)).setCell ⟨wl.heap.size, 1, none⟩ (.bool r_b)).setCell ⟨wl.heap.size, 2, none⟩ (.int .i64 r_i)).setCell ⟨wl.heap.size, 3, none⟩ (.string r_s)).setCell ⟨wl.heap.size, 4, none⟩ (.slice r_al r_nl r_cl)).setCell ⟨wl.heap.size, 5, none⟩ (.slice r_am r_nm r_cm)).heap.size (((((((((((((wl.alloc oN).setCell ⟨w8.heap.size, 0, none⟩ (.int .i64 o_k)).setCell ⟨w8.heap.size, 1, none⟩ (.bool o_b)).setCell ⟨w8.heap.size, 2, none⟩ (.int .i64 o_i)).setCell ⟨w8.heap.size, 3, none⟩ (.string o_s)).setCell ⟨w8.heap.size, 4, none⟩ (.slice o_al o_nl o_cl)).setCell ⟨w8.heap.size, 5, none⟩ (.slice o_am o_nm o_cm)).setCell ⟨wl.heap.size, 0, none⟩ (.int .i64 r_k)).setCell ⟨wl.heap.size, 1, none⟩ (.bool r_b)).setCell ⟨wl.heap.size, 2, none⟩ (.int .i64 r_i)).setCell ⟨wl.heap.size, 3, none⟩ (.string r_s)).setCell ⟨wl.heap.size, 4, none⟩ (.slice r_al r_nl r_cl)).setCell ⟨wl.heap.size, 5, none⟩ (.slice r_am r_nm r_cm)) W → (takR v p).1.lies false W (Old W) [.int .i64 n_k, .bool n_b, .int .i64 n_i, .string n_s, .slice n_al n_nl n_cl, .slice n_am n_nm n_cm]) := fun W hW => V.lies_keep (fun h => h) (fun y hy => (hW.block y (by have := hy.2; omega)).trans ((HKo.out y (by have := hy.2; omega) (by have := hy.1; omega)).trans ((bl_.block y (by have := hy.2; omega)).trans (HKn.out y hy.1 hy.2)))) (fun y hy => by show y < _; have := hy.2; have := hW.size; omega) _ HPn.out
  have LM : Hid (∀ W, Below (((((((((((((wl.alloc oN).setCell ⟨w8.heap.size, 0, none⟩ (.int .i64 o_k)).setCell ⟨w8.heap.size, 1, none⟩ (.bool o_b)).setCell ⟨w8.heap.size, 2, none⟩ (.int .i64 o_i)).setCell ⟨w8.heap.size, 3, none⟩ (.string o_s)).setCell ⟨w8.heap.size, 4, none⟩ (.slice o_al o_nl o_cl)).setCell ⟨w8.heap.size, 5, none⟩ (.slice o_am o_nm o_cm)).setCell ⟨wl.heap.size, 0, none⟩ (.int .i64 r_k)).setCell ⟨wl.heap.size, 1, none⟩ (.bool r_b)).setCell ⟨wl.heap.size, 2, none⟩ (.int .i64 r_i)).setCell ⟨wl.heap.size, 3, none⟩ (.string r_s)).setCell ⟨wl.heap.size, 4, none⟩ (.slice r_al r_nl r_cl)).setCell ⟨wl.heap.size, 5, none⟩ (.slice r_am r_nm r_cm)).heap.size (((((((((((((wl.alloc oN).setCell ⟨w8.heap.size, 0, none⟩ (.int .i64 o_k)).setCell ⟨w8.heap.size, 1, none⟩ (.bool o_b)).setCell ⟨w8.heap.size, 2, none⟩ (.int .i64 o_i)).setCell ⟨w8.heap.size, 3, none⟩ (.string o_s)).setCell ⟨w8.heap.size, 4, none⟩ (.slice o_al o_nl o_cl)).setCell ⟨w8.heap.size, 5, none⟩ (.slice o_am o_nm o_cm)).setCell ⟨wl.heap.size, 0, none⟩ (.int .i64 r_k)).setCell ⟨wl.heap.size, 1, none⟩ (.bool r_b)).setCell ⟨wl.heap.size, 2, none⟩ (.int .i64 r_i)).setCell ⟨wl.heap.size, 3, none⟩ (.string r_s)).setCell ⟨wl.heap.size, 4, none⟩ (.slice r_al r_nl r_cl)).setCell ⟨wl.heap.size, 5, none⟩ (.slice r_am r_nm r_cm)) W → (takR v p).2.1.lies false W (Old W) [.int .i64 m_k, .bool m_b, .int .i64 m_i, .string m_s, .slice m_al m_nl m_cl, .slice m_am m_nm m_cm]) := fun W hW => V.lies_keep (fun h => h) (fun y hy => (hW.block y (by have := hy.2; omega)).trans ((HKo.out y (by have := hy.2; omega) (by have := hy.1; omega)).trans ((bl_.block y (by have := hy.2; omega)).trans (HKn.out y hy.1 hy.2)))) (fun y hy => by show y < _; have := hy.2; have := hW.size; omega) _ HPm.out
  have hin : ∀ y, OrNew (Old w) wk wl y → y < wl.heap.size ∧ y ≠ w8.heap.size := fun y hy => hy.elim (fun hy => by have hy' : y < w.heap.size := hy; exact ⟨by omega, by omega⟩) (fun hy => ⟨hy.2, by have := hy.1; omega⟩)
  have LO : Hid (∀ W, Below (((((((((((((wl.alloc oN).setCell ⟨w8.heap.size, 0, none⟩ (.int .i64 o_k)).setCell ⟨w8.heap.size, 1, none⟩ (.bool o_b)).setCell ⟨w8.heap.size, 2, none⟩ (.int .i64 o_i)).setCell ⟨w8.heap.size, 3, none⟩ (.string o_s)).setCell ⟨w8.heap.size, 4, none⟩ (.slice o_al o_nl o_cl)).setCell ⟨w8.heap.size, 5, none⟩ (.slice o_am o_nm o_cm)).setCell ⟨wl.heap.size, 0, none⟩ (.int .i64 r_k)).setCell ⟨wl.heap.size, 1, none⟩ (.bool r_b)).setCell ⟨wl.heap.size, 2, none⟩ (.int .i64 r_i)).setCell ⟨wl.heap.size, 3, none⟩ (.string r_s)).setCell ⟨wl.heap.size, 4, none⟩ (.slice r_al r_nl r_cl)).setCell ⟨wl.heap.size, 5, none⟩ (.slice r_am r_nm r_cm)).heap.size (((((((((((((wl.alloc oN).setCell ⟨w8.heap.size, 0, none⟩ (.int .i64 o_k)).setCell ⟨w8.heap.size, 1, none⟩ (.bool o_b)).setCell ⟨w8.heap.size, 2, none⟩ (.int .i64 o_i)).setCell ⟨w8.heap.size, 3, none⟩ (.string o_s)).setCell ⟨w8.heap.size, 4, none⟩ (.slice o_al o_nl o_cl)).setCell ⟨w8.heap.size, 5, none⟩ (.slice o_am o_nm o_cm)).setCell ⟨wl.heap.size, 0, none⟩ (.int .i64 r_k)).setCell ⟨wl.heap.size, 1, none⟩ (.bool r_b)).setCell ⟨wl.heap.size, 2, none⟩ (.int .i64 r_i)).setCell ⟨wl.heap.size, 3, none⟩ (.string r_s)).setCell ⟨wl.heap.size, 4, none⟩ (.slice r_al r_nl r_cl)).setCell ⟨wl.heap.size, 5, none⟩ (.slice r_am r_nm r_cm)) W → (takR v p).1.lies false W (Old W) [.int .i64 o_k, .bool o_b, .int .i64 o_i, .string o_s, .slice o_al o_nl o_cl, .slice o_am o_nm o_cm]) := fun W hW => V.lies_keep (fun h => h) (fun y hy => (hW.block y (by have := (hin y hy).1; omega)).trans (HKo.out y (hin y hy).1 (hin y hy).2)) (fun y hy => by show y < _; have := (hin y hy).1; have := hW.size; omega) _ hlo
  have LR : Hid (∀ W, Below (((((((((((((wl.alloc oN).setCell ⟨w8.heap.size, 0, none⟩ (.int .i64 o_k)).setCell ⟨w8.heap.size, 1, none⟩ (.bool o_b)).setCell ⟨w8.heap.size, 2, none⟩ (.int .i64 o_i)).setCell ⟨w8.heap.size, 3, none⟩ (.string o_s)).setCell ⟨w8.heap.size, 4, none⟩ (.slice o_al o_nl o_cl)).setCell ⟨w8.heap.size, 5, none⟩ (.slice o_am o_nm o_cm)).setCell ⟨wl.heap.size, 0, none⟩ (.int .i64 r_k)).setCell ⟨wl.heap.size, 1, none⟩ (.bool r_b)).setCell ⟨wl.heap.size, 2, none⟩ (.int .i64 r_i)).setCell ⟨wl.heap.size, 3, none⟩ (.string r_s)).setCell ⟨wl.heap.size, 4, none⟩ (.slice r_al r_nl r_cl)).setCell ⟨wl.heap.size, 5, none⟩ (.slice r_am r_nm r_cm)).heap.size (((((((((((((wl.alloc oN).setCell ⟨w8.heap.size, 0, none⟩ (.int .i64 o_k)).setCell ⟨w8.heap.size, 1, none⟩ (.bool o_b)).setCell ⟨w8.heap.size, 2, none⟩ (.int .i64 o_i)).setCell ⟨w8.heap.size, 3, none⟩ (.string o_s)).setCell ⟨w8.heap.size, 4, none⟩ (.slice o_al o_nl o_cl)).setCell ⟨w8.heap.size, 5, none⟩ (.slice o_am o_nm o_cm)).setCell ⟨wl.heap.size, 0, none⟩ (.int .i64 r_k)).setCell ⟨wl.heap.size, 1, none⟩ (.bool r_b)).setCell ⟨wl.heap.size, 2, none⟩ (.int .i64 r_i)).setCell ⟨wl.heap.size, 3, none⟩ (.string r_s)).setCell ⟨wl.heap.size, 4, none⟩ (.slice r_al r_nl r_cl)).setCell ⟨wl.heap.size, 5, none⟩ (.slice r_am r_nm r_cm)) W → (takR v p).2.1.lies false W (Old W) [.int .i64 r_k, .bool r_b, .int .i64 r_i, .string r_s, .slice r_al r_nl r_cl, .slice r_am r_nm r_cm]) := fun W hW => V.lies_keep (fun h => h) (fun y hy => (hW.block y (by have := (hin y hy).1; omega)).trans (HKo.out y (hin y hy).1 (hin y hy).2)) (fun y hy => by show y < _; have := (hin y hy).1; have := hW.size; omega) _ hlr
  have CS := hmk (same_any (takR v p).1 false false (takR v p).1 (Old (((((((((((((wl.alloc oN).setCell ⟨w8.heap.size, 0, none⟩ (.int .i64 o_k)).setCell ⟨w8.heap.size, 1, none⟩ (.bool o_b)).setCell ⟨w8.heap.size, 2, none⟩ (.int .i64 o_i)).setCell ⟨w8.heap.size, 3, none⟩ (.string o_s)).setCell ⟨w8.heap.size, 4, none⟩ (.slice o_al o_nl o_cl)).setCell ⟨w8.heap.size, 5, none⟩ (.slice o_am o_nm o_cm)).setCell ⟨wl.heap.size, 0, none⟩ (.int .i64 r_k)).setCell ⟨wl.heap.size, 1, none⟩ (.bool r_b)).setCell ⟨wl.heap.size, 2, none⟩ (.int .i64 r_i)).setCell ⟨wl.heap.size, 3, none⟩ (.string r_s)).setCell ⟨wl.heap.size, 4, none⟩ (.slice r_al r_nl r_cl)).setCell ⟨wl.heap.size, 5, none⟩ (.slice r_am r_nm r_cm))) (Old (((((((((((((wl.alloc oN).setCell ⟨w8.heap.size, 0, none⟩ (.int .i64 o_k)).setCell ⟨w8.heap.size, 1, none⟩ (.bool o_b)).setCell ⟨w8.heap.size, 2, none⟩ (.int .i64 o_i)).setCell ⟨w8.heap.size, 3, none⟩ (.string o_s)).setCell ⟨w8.heap.size, 4, none⟩ (.slice o_al o_nl o_cl)).setCell ⟨w8.heap.size, 5, none⟩ (.slice o_am o_nm o_cm)).setCell ⟨wl.heap.size, 0, none⟩ (.int .i64 r_k)).setCell ⟨wl.heap.size, 1, none⟩ (.bool r_b)).setCell ⟨wl.heap.size, 2, none⟩ (.int .i64 r_i)).setCell ⟨wl.heap.size, 3, none⟩ (.string r_s)).setCell ⟨wl.heap.size, 4, none⟩ (.slice r_al r_nl r_cl)).setCell ⟨wl.heap.size, 5, none⟩ (.slice r_am r_nm r_cm))) _ _ (((((((((((((wl.alloc oN).setCell ⟨w8.heap.size, 0, none⟩ (.int .i64 o_k)).setCell ⟨w8.heap.size, 1, none⟩ (.bool o_b)).setCell ⟨w8.heap.size, 2, none⟩ (.int .i64 o_i)).setCell ⟨w8.heap.size, 3, none⟩ (.string o_s)).setCell ⟨w8.heap.size, 4, none⟩ (.slice o_al o_nl o_cl)).setCell ⟨w8.heap.size, 5, none⟩ (.slice o_am o_nm o_cm)).setCell ⟨wl.heap.size, 0, none⟩ (.int .i64 r_k)).setCell ⟨wl.heap.size, 1, none⟩ (.bool r_b)).setCell ⟨wl.heap.size, 2, none⟩ (.int .i64 r_i)).setCell ⟨wl.heap.size, 3, none⟩ (.string r_s)).setCell ⟨wl.heap.size, 4, none⟩ (.slice r_al r_nl r_cl)).setCell ⟨wl.heap.size, 5, none⟩ (.slice r_am r_nm r_cm)) (LN.out _ (Below.refl _ _)) (LO.out _ (Below.refl _ _)) (fun x hx => hx) (fun x hx => hx))
  rw [V.eqB_refl] at CS
  have CS2 : Hid (∀ W, Below (((((((((((((wl.alloc oN).setCell ⟨w8.heap.size, 0, none⟩ (.int .i64 o_k)).setCell ⟨w8.heap.size, 1, none⟩ (.bool o_b)).setCell ⟨w8.heap.size, 2, none⟩ (.int .i64 o_i)).setCell ⟨w8.heap.size, 3, none⟩ (.string o_s)).setCell ⟨w8.heap.size, 4, none⟩ (.slice o_al o_nl o_cl)).setCell ⟨w8.heap.size, 5, none⟩ (.slice o_am o_nm o_cm)).setCell ⟨wl.heap.size, 0, none⟩ (.int .i64 r_k)).setCell ⟨wl.heap.size, 1, none⟩ (.bool r_b)).setCell ⟨wl.heap.size, 2, none⟩ (.int .i64 r_i)).setCell ⟨wl.heap.size, 3, none⟩ (.string r_s)).setCell ⟨wl.heap.size, 4, none⟩ (.slice r_al r_nl r_cl)).setCell ⟨wl.heap.size, 5, none⟩ (.slice r_am r_nm r_cm)).heap.size (((((((((((((wl.alloc oN).setCell ⟨w8.heap.size, 0, none⟩ (.int .i64 o_k)).setCell ⟨w8.heap.size, 1, none⟩ (.bool o_b)).setCell ⟨w8.heap.size, 2, none⟩ (.int .i64 o_i)).setCell ⟨w8.heap.size, 3, none⟩ (.string o_s)).setCell ⟨w8.heap.size, 4, none⟩ (.slice o_al o_nl o_cl)).setCell ⟨w8.heap.size, 5, none⟩ (.slice o_am o_nm o_cm)).setCell ⟨wl.heap.size, 0, none⟩ (.int .i64 r_k)).setCell ⟨wl.heap.size, 1, none⟩ (.bool r_b)).setCell ⟨wl.heap.size, 2, none⟩ (.int .i64 r_i)).setCell ⟨wl.heap.size, 3, none⟩ (.string r_s)).setCell ⟨wl.heap.size, 4, none⟩ (.slice r_al r_nl r_cl)).setCell ⟨wl.heap.size, 5, none⟩ (.slice r_am r_nm r_cm)) W → Calls Tryz.prog 8 #[.agg #[.int .i64 m_k, .bool m_b, .int .i64 m_i, .string m_s, .slice m_al m_nl m_cl, .slice m_am m_nm m_cm], .agg #[.int .i64 r_k, .bool r_b, .int .i64 r_i, .string r_s, .slice r_al r_nl r_cl, .slice r_am r_nm r_cm]] W (BPost true W)) := fun W hW => by
   have := same_any (takR v p).2.1 false false (takR v p).2.1 (Old W) (Old W) _ _ W (LM.out W hW) (LR.out W hW) (fun x hx => hx) (fun x hx => hx)
   rw [V.eqB_refl] at this
   exact this
  generalize (takR v p).2.2 = er3 at *
  clear LN LM LO LR hlo hlr hin HKn HKo HPn HPm
  obtain ⟨cn0, cn1, cn2, cn3, cn4, cn5⟩ := sixC h9wo
  obtain ⟨co0, co1, co2, co3, co4, co5⟩ := sixC h11wo
  go_wp2_with fail
  clear cn0 cn1 cn2 cn3 cn4 cn5 co0 co1 co2 co3 co4 co5 z0 z1 z2 z3 z4 z5 y0 y1 y2 y3 y4 y5 f11 f14 Howo Hown bzwm Hswo Hswn hgewn hgewo hltwm
  clear hvwm hvwn
  clear hxwm hxwn
  clear h7wm h7wn
  clear h8wm h8wn
  clear h9wm h9wn
  clear h11wm h11wn
  clear h13wm h13wn
  clear h14wm h14wn
  clear Bwwm Bwwn
  clear Bcwm Bcwn
  clear Bdwm Bdwn
  generalize (((((((((((((wl.alloc oN).setCell ⟨w8.heap.size, 0, none⟩ (.int .i64 o_k)).setCell ⟨w8.heap.size, 1, none⟩ (.bool o_b)).setCell ⟨w8.heap.size, 2, none⟩ (.int .i64 o_i)).setCell ⟨w8.heap.size, 3, none⟩ (.string o_s)).setCell ⟨w8.heap.size, 4, none⟩ (.slice o_al o_nl o_cl)).setCell ⟨w8.heap.size, 5, none⟩ (.slice o_am o_nm o_cm)).setCell ⟨wl.heap.size, 0, none⟩ (.int .i64 r_k)).setCell ⟨wl.heap.size, 1, none⟩ (.bool r_b)).setCell ⟨wl.heap.size, 2, none⟩ (.int .i64 r_i)).setCell ⟨wl.heap.size, 3, none⟩ (.string r_s)).setCell ⟨wl.heap.size, 4, none⟩ (.slice r_al r_nl r_cl)).setCell ⟨wl.heap.size, 5, none⟩ (.slice r_am r_nm r_cm)) = wo at *
  have Bowo : Below wo.heap.size wo wo := Below.refl _ _
  refine CS.out.mono ?_
  rintro e wp ⟨rfl, bp⟩
  have hzwp := bp.size
  have hvwp := (bp.block (w.heap.size) (by omega)).trans hvwo
  have hxwp := (bp.block (w.heap.size + 1) (by omega)).trans hxwo
  have h7wp := (bp.block (w2.heap.size) (by omega)).trans h7wo
  have h8wp := (bp.block (w4.heap.size) (by omega)).trans h8wo
  have h9wp := (bp.block (w6.heap.size) (by omega)).trans h9wo
  have h11wp := (bp.block (w8.heap.size) (by omega)).trans h11wo
  have h13wp := (bp.block (wh.heap.size) (by omega)).trans h13wo
  have h14wp := (bp.block (wl.heap.size) (by omega)).trans h14wo
  have Bwwp := Bwwo.trans (bp.mono (by omega))
  have Bcwp := Bcwo.trans (bp.mono (by omega))
  have Bdwp := Bdwo.trans (bp.mono (by omega))
  have Bowp := Bowo.trans (bp.mono (by omega))
  clear CS
  obtain ⟨cm0, cm1, cm2, cm3, cm4, cm5⟩ := sixC h13wp
  obtain ⟨cr0, cr1, cr2, cr3, cr4, cr5⟩ := sixC h14wp
  go_wp2_with fail
  clear cm0 cm1 cm2 cm3 cm4 cm5 cr0 cr1 cr2 cr3 cr4 cr5
  refine (CS2.out wp Bowp).mono ?_
  rintro e wq ⟨rfl, bq⟩
  have hzwq := bq.size
  have hvwq := (bq.block (w.heap.size) (by omega)).trans hvwp
  have hxwq := (bq.block (w.heap.size + 1) (by omega)).trans hxwp
  have h7wq := (bq.block (w2.heap.size) (by omega)).trans h7wp
  have h8wq := (bq.block (w4.heap.size) (by omega)).trans h8wp
  have h9wq := (bq.block (w6.heap.size) (by omega)).trans h9wp
  have h11wq := (bq.block (w8.heap.size) (by omega)).trans h11wp
  have h13wq := (bq.block (wh.heap.size) (by omega)).trans h13wp
  have h14wq := (bq.block (wl.heap.size) (by omega)).trans h14wp
  have Bwwq := Bwwp.trans (bq.mono (by omega))
  have Bcwq := Bcwp.trans (bq.mono (by omega))
  have Bdwq := Bdwp.trans (bq.mono (by omega))
  have Bowq := Bowp.trans (bq.mono (by omega))
  have CE := hmk (same_any v false false v (Old wq) (Old wq) _ _ wq (HU.out wq Bcwq) (HL.out wq Bwwq) (fun x hx => hx) (fun x hx => hx))
  rw [V.eqB_refl] at CE
  clear CS2
  obtain ⟨cu0, cu1, cu2, cu3, cu4, cu5⟩ := sixC h7wq
  obtain ⟨cv0, cv1, cv2, cv3, cv4, cv5⟩ := sixC hvwq
  go_wp2_with fail
  clear cu0 cu1 cu2 cu3 cu4 cu5 cv0 cv1 cv2 cv3 cv4 cv5
  refine CE.out.mono ?_
  rintro e wr ⟨rfl, br⟩
  have hzwr := br.size
  have hvwr := (br.block (w.heap.size) (by omega)).trans hvwq
  have hxwr := (br.block (w.heap.size + 1) (by omega)).trans hxwq
  have h7wr := (br.block (w2.heap.size) (by omega)).trans h7wq
  have h8wr := (br.block (w4.heap.size) (by omega)).trans h8wq
  have h9wr := (br.block (w6.heap.size) (by omega)).trans h9wq
  have h11wr := (br.block (w8.heap.size) (by omega)).trans h11wq
  have h13wr := (br.block (wh.heap.size) (by omega)).trans h13wq
  have h14wr := (br.block (wl.heap.size) (by omega)).trans h14wq
  have Bwwr := Bwwq.trans (br.mono (by omega))
  have Bcwr := Bcwq.trans (br.mono (by omega))
  have Bdwr := Bdwq.trans (br.mono (by omega))
  have Bowr := Bowq.trans (br.mono (by omega))
  have CG := hmk (same_any x false false x (Old wr) (Old wr) _ _ wr (HR.out wr Bdwr) (HX.out wr Bwwr) (fun x hx => hx) (fun x hx => hx))
  rw [V.eqB_refl] at CG
  clear CE
  obtain ⟨ct0, ct1, ct2, ct3, ct4, ct5⟩ := sixC h8wr
  obtain ⟨cx0, cx1, cx2, cx3, cx4, cx5⟩ := sixC hxwr
  go_wp2_with fail
  clear ct0 ct1 ct2 ct3 ct4 ct5 cx0 cx1 cx2 cx3 cx4 cx5
  refine CG.out.mono ?_
  rintro e ws ⟨rfl, bs⟩
  have Bws := Bwwr.trans (bs.mono (by omega))
  go_wp2_with fail
  go_ret
  exact ⟨rfl, Bws⟩
end Go.Proofs.YtnakligbogkmbaaGreatDoor
