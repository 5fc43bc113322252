import Derived.Test.YtnakligbogkmbaaGreatDoorRadM
import Derived.Test.YtnakligbogkmbaaGreatDoorRadV
set_option linter.unusedSimpArgs false
set_option linter.unusedVariables false
namespace Go.Proofs.YtnakligbogkmbaaGreatDoor
open Go.RowKit Go.Lib
theorem four_below (w : World) (o1 o2 o3 o4 : Obj) : Below w.heap.size w ((((w.alloc o1).alloc o2).alloc o3).alloc o4) := (tBw w o1 o2).trans ((tBw _ o3 o4).mono (by rw [aSz, aSz]; omega))
set_option maxHeartbeats 8000000 in
set_option maxRecDepth 100000 in
theorem radV_no (b : Bool) (i : Int) (s : ByteArray) (l : List V) (m : List Mem) (t : ByteArray) (x : V) (S : Nat → Prop) (al : Option Addr) (cl : Nat) (am : Option Addr) (cm : Nat) (ds : List Value) (w : World) (hv : (V.mk 4 b i s l m).lies false w S [.int .i64 4, .bool b, .int .i64 i, .string s, .slice al l.length cl, .slice am m.length cm]) (hx : x.lies false w S ds) (hS : ∀ b, S b → b < w.heap.size) (hll : l.length ≤ 1114112) (hg : idxF t.data.toList (l.length + 1) = none) (hnd : ¬ t.data.toList = [45]) :
 Calls Tryz.prog 42 #[.agg #[.int .i64 4, .bool b, .int .i64 i, .string s, .slice al l.length cl, .slice am m.length cm], .string t, .agg ds.toArray] w (AdPost (.mk 4 b i s l m, 42) S w) := by
 have HV : Hid (∀ W, Below w.heap.size w W → (V.mk 4 b i s l m).lies false W S [.int .i64 4, .bool b, .int .i64 i, .string s, .slice al l.length cl, .slice am m.length cm]) := fun W hb => lBw hv hS hb
 obtain ⟨xk, xb, xi, xs, xal, xnl, xcl, xam, xnm, xcm, rfl⟩ := V.ten hx
 have b2 : Below w.heap.size w ((w.alloc (oV 4 b i s al l.length cl am m.length cm)).alloc (oV xk xb xi xs xal xnl xcl xam xnm xcm)) := tBw w _ _
 have hz2 : ((w.alloc (oV 4 b i s al l.length cl am m.length cm)).alloc (oV xk xb xi xs xal xnl xcl xam xnm xcm)).heap.size = w.heap.size + 2 := by rw [aSz, aSz]
 have hz2 := hz2; dsimp only [oV, oN] at hz2
 have b3 : Below ((w.alloc (oV 4 b i s al l.length cl am m.length cm)).alloc (oV xk xb xi xs xal xnl xcl xam xnm xcm)).heap.size ((w.alloc (oV 4 b i s al l.length cl am m.length cm)).alloc (oV xk xb xi xs xal xnl xcl xam xnm xcm)) ((((w.alloc (oV 4 b i s al l.length cl am m.length cm)).alloc (oV xk xb xi xs xal xnl xcl xam xnm xcm)).alloc oN).alloc (oV 4 false 0 ⟨#[]⟩ none 0 0 none 0 0)) := tBw _ _ _
 have hzz3 : (((w.alloc (oV 4 b i s al l.length cl am m.length cm)).alloc (oV xk xb xi xs xal xnl xcl xam xnm xcm)).alloc oN).heap.size = w.heap.size + 3 := by rw [aSz, hz2]
 have hzz3 := hzz3; dsimp only [oV, oN] at hzz3
 have hz4 : ((((w.alloc (oV 4 b i s al l.length cl am m.length cm)).alloc (oV xk xb xi xs xal xnl xcl xam xnm xcm)).alloc oN).alloc (oV 4 false 0 ⟨#[]⟩ none 0 0 none 0 0)).heap.size = w.heap.size + 4 := by rw [aSz, hzz3]
 have hz4 := hz4; dsimp only [oV, oN] at hz4
 have B3 : Below w.heap.size w ((((w.alloc (oV 4 b i s al l.length cl am m.length cm)).alloc (oV xk xb xi xs xal xnl xcl xam xnm xcm)).alloc oN).alloc (oV 4 false 0 ⟨#[]⟩ none 0 0 none 0 0)) := b2.trans (b3.mono (by omega))
 have g0 := a2k w (oV 4 b i s al l.length cl am m.length cm) (oV xk xb xi xs xal xnl xcl xam xnm xcm)
 have h0 := (b3.block w.heap.size (by omega)).trans g0
 have h2 := a2k ((w.alloc (oV 4 b i s al l.length cl am m.length cm)).alloc (oV xk xb xi xs xal xnl xcl xam xnm xcm)) oN (oV 4 false 0 ⟨#[]⟩ none 0 0 none 0 0)
 rw [hz2] at h2
 have k0 : (((w.alloc (oV 4 b i s al l.length cl am m.length cm)).alloc (oV xk xb xi xs xal xnl xcl xam xnm xcm)).alloc oN).cell? ⟨w.heap.size, 0, none⟩ = some (.int .i64 4) := by rw [cBk ((Below.heap_alloc ((w.alloc (oV 4 b i s al l.length cl am m.length cm)).alloc (oV xk xb xi xs xal xnl xcl xam xnm xcm)) oN w.heap.size (by omega)).trans g0)]; rfl
 have CM := hmk (rindex_any t (l.length + 1) (by omega) ((((w.alloc (oV 4 b i s al l.length cl am m.length cm)).alloc (oV xk xb xi xs xal xnl xcl xam xnm xcm)).alloc oN).alloc (oV 4 false 0 ⟨#[]⟩ none 0 0 none 0 0)))
 rw [hg] at CM
 have e2 : ixI none = -1 := rfl
 rw [e2] at CM
 have e1 : ((l.length + 1 : Nat) : Int) = (l.length : Int) + 1 := by omega
 rw [e1] at CM
 have y9 : (t.toList == [45]) = false := by rw [beq_eq_false_iff_ne, ByteArray.toList_eq]; exact hnd
 have yA : ¬ t.toList = [45] := by simpa using y9
 have yB : (⟨#[45]⟩ : ByteArray).toList = [45] := by rw [ByteArray.toList_eq]
 clear e1 e2
 clear hv hx b2 b3 hz2 hzz3 g0
 go_enter Tryz.func42, Tryz.ntmps42
 have r0 : ((((w.alloc (oV 4 b i s al l.length cl am m.length cm)).alloc (oV xk xb xi xs xal xnl xcl xam xnm xcm)).alloc oN).alloc (oV 4 false 0 ⟨#[]⟩ none 0 0 none 0 0)).cell? ⟨w.heap.size, 0, none⟩ = some (.int .i64 4) := by rw [cBk h0]; rfl
 have r4 : ((((w.alloc (oV 4 b i s al l.length cl am m.length cm)).alloc (oV xk xb xi xs xal xnl xcl xam xnm xcm)).alloc oN).alloc (oV 4 false 0 ⟨#[]⟩ none 0 0 none 0 0)).cell? ⟨w.heap.size, 4, none⟩ = some (.slice al l.length cl) := by rw [cBk h0]; rfl
 go_wp2_with fail
 clear k0 r0 r4
 generalize ((((w.alloc (oV 4 b i s al l.length cl am m.length cm)).alloc (oV xk xb xi xs xal xnl xcl xam xnm xcm)).alloc oN).alloc (oV 4 false 0 ⟨#[]⟩ none 0 0 none 0 0)) = w3 at *
 refine CM.out.mono ?_
 rintro e w1 ⟨rfl, b1⟩
 have hz1 := b1.size
 have t0 := (b1.block w.heap.size (by omega)).trans h0
 have t2 := (b1.block (w.heap.size + 2) (by omega)).trans h2
 have BB := B3.trans (b1.mono (by omega))
 obtain ⟨r0, r1, r2, r3, r4, r5⟩ := sixC t0
 obtain ⟨z0, z1, z2, z3, z4, z5⟩ := sixC t2
 have fz := fBk t2
 have HE := hmk (wi_fin hS BB (by omega) (V.lies_keep (fun h => h) (fun _ _ => rfl) (fun y hy => Or.inl hy) _ (HV.out w1 BB)))
 clear CM
 go_wp2_with fail
 (try simp only [Exit.inBlock, Exit.then])
 refine bodyPost_ret (v := .tuple #[.agg #[.int .i64 4, .bool b, .int .i64 i, .string s, .slice al l.length cl, .slice am m.length cm], .int .i64 42]) ?_ rfl ?_
 rotate_left
 ·exact ⟨[.int .i64 4, .bool b, .int .i64 i, .string s, .slice al l.length cl, .slice am m.length cm], rfl, HE.out.1, HE.out.2⟩
 ·rw [results_cell_tmp rfl]
  go_simp
set_option maxHeartbeats 8000000 in
set_option maxRecDepth 100000 in
theorem radO_no (k : Int) (b : Bool) (i : Int) (s : ByteArray) (l : List V) (m : List Mem) (t : ByteArray) (x : V) (S : Nat → Prop) (al : Option Addr) (cl : Nat) (am : Option Addr) (cm : Nat) (ds : List Value) (w : World) (hv : (V.mk k b i s l m).lies false w S [.int .i64 k, .bool b, .int .i64 i, .string s, .slice al l.length cl, .slice am m.length cm]) (hx : x.lies false w S ds) (hS : ∀ b, S b → b < w.heap.size) (hk5 : ¬ k = 5) (hk4 : ¬ k = 4) :
 Calls Tryz.prog 42 #[.agg #[.int .i64 k, .bool b, .int .i64 i, .string s, .slice al l.length cl, .slice am m.length cm], .string t, .agg ds.toArray] w (AdPost (.mk k b i s l m, 41) S w) := by
 have HV : Hid (∀ W, Below w.heap.size w W → (V.mk k b i s l m).lies false W S [.int .i64 k, .bool b, .int .i64 i, .string s, .slice al l.length cl, .slice am m.length cm]) := fun W hb => lBw hv hS hb
 obtain ⟨xk, xb, xi, xs, xal, xnl, xcl, xam, xnm, xcm, rfl⟩ := V.ten hx
 have b2 : Below w.heap.size w ((w.alloc (oV k b i s al l.length cl am m.length cm)).alloc (oV xk xb xi xs xal xnl xcl xam xnm xcm)) := tBw w _ _
 have hz2 : ((w.alloc (oV k b i s al l.length cl am m.length cm)).alloc (oV xk xb xi xs xal xnl xcl xam xnm xcm)).heap.size = w.heap.size + 2 := by rw [aSz, aSz]
 have hz2 := hz2; dsimp only [oV, oN] at hz2
 have b3 : Below ((w.alloc (oV k b i s al l.length cl am m.length cm)).alloc (oV xk xb xi xs xal xnl xcl xam xnm xcm)).heap.size ((w.alloc (oV k b i s al l.length cl am m.length cm)).alloc (oV xk xb xi xs xal xnl xcl xam xnm xcm)) ((((w.alloc (oV k b i s al l.length cl am m.length cm)).alloc (oV xk xb xi xs xal xnl xcl xam xnm xcm)).alloc oN).alloc (oV k false 0 ⟨#[]⟩ none 0 0 none 0 0)) := tBw _ _ _
 have hzz3 : (((w.alloc (oV k b i s al l.length cl am m.length cm)).alloc (oV xk xb xi xs xal xnl xcl xam xnm xcm)).alloc oN).heap.size = w.heap.size + 3 := by rw [aSz, hz2]
 have hzz3 := hzz3; dsimp only [oV, oN] at hzz3
 have hz4 : ((((w.alloc (oV k b i s al l.length cl am m.length cm)).alloc (oV xk xb xi xs xal xnl xcl xam xnm xcm)).alloc oN).alloc (oV k false 0 ⟨#[]⟩ none 0 0 none 0 0)).heap.size = w.heap.size + 4 := by rw [aSz, hzz3]
 have hz4 := hz4; dsimp only [oV, oN] at hz4
 have B3 : Below w.heap.size w ((((w.alloc (oV k b i s al l.length cl am m.length cm)).alloc (oV xk xb xi xs xal xnl xcl xam xnm xcm)).alloc oN).alloc (oV k false 0 ⟨#[]⟩ none 0 0 none 0 0)) := b2.trans (b3.mono (by omega))
 have g0 := a2k w (oV k b i s al l.length cl am m.length cm) (oV xk xb xi xs xal xnl xcl xam xnm xcm)
 have h0 := (b3.block w.heap.size (by omega)).trans g0
 have h2 := a2k ((w.alloc (oV k b i s al l.length cl am m.length cm)).alloc (oV xk xb xi xs xal xnl xcl xam xnm xcm)) oN (oV k false 0 ⟨#[]⟩ none 0 0 none 0 0)
 rw [hz2] at h2
 have k0 : (((w.alloc (oV k b i s al l.length cl am m.length cm)).alloc (oV xk xb xi xs xal xnl xcl xam xnm xcm)).alloc oN).cell? ⟨w.heap.size, 0, none⟩ = some (.int .i64 k) := by rw [cBk ((Below.heap_alloc ((w.alloc (oV k b i s al l.length cl am m.length cm)).alloc (oV xk xb xi xs xal xnl xcl xam xnm xcm)) oN w.heap.size (by omega)).trans g0)]; rfl
 clear hv hx b2 b3 hz2 hzz3 g0
 go_enter Tryz.func42, Tryz.ntmps42
 obtain ⟨r0, r1, r2, r3, r4, r5⟩ := sixC h0
 go_wp2_with fail
 (try simp only [Exit.inBlock, Exit.then])
 refine bodyPost_ret (v := .tuple #[.agg #[.int .i64 k, .bool b, .int .i64 i, .string s, .slice al l.length cl, .slice am m.length cm], .int .i64 41]) ?_ rfl ?_
 rotate_left
 ·exact ⟨[.int .i64 k, .bool b, .int .i64 i, .string s, .slice al l.length cl, .slice am m.length cm], rfl, V.lies_keep (fun h => h) (fun _ _ => rfl) (fun y hy => .inl hy) _ (HV.out _ (four_below w _ _ _ _)), four_below w _ _ _ _⟩
 ·rw [results_cell_tmp rfl]
  go_simp
theorem radded_any (v : V) (t : ByteArray) (x : V) (S : Nat → Prop) (cs ds : List Value) (w : World) (hv : v.lies false w S cs) (hx : x.lies false w S ds) (hS : ∀ b, S b → b < w.heap.size) (hts : t.size ≤ 281474976710656) (hwt : v.wt ≤ 1114112) (hsr : Srt (memsOf v)) :
 Calls Tryz.prog 42 #[.agg cs.toArray, .string t, .agg ds.toArray] w (AdPost (addR v t x) S w) := by
 have hv0 := hv
 have htm : t.size ≤ maxLen := by unfold maxLen; omega
 obtain ⟨k, b, i, s, l, m⟩ := v
 rw [V.lies] at hv
 obtain ⟨al, cl, bl, ol, am, cm, bm, om, rfl, ik, ii, is, hal, ham, hl, hm, _⟩ := hv
 have hml : m.length ≤ 1114112 := by have := wtM_len m; simp only [V.wt] at hwt; omega
 have hll : l.length ≤ 1114112 := by have := wtL_len l; simp only [V.wt] at hwt; omega
 rw [addR]
 by_cases hk5 : k = 5
 ·subst hk5
  rw [if_pos rfl]
  by_cases hq : keyIs t m[posF m t]? = true
  ·rw [if_pos hq]
   have h0 : 0 < m.length := Nat.lt_of_not_le (fun h => by rw [List.getElem?_eq_none (by omega)] at hq; cases hq)
   exact radM_full_t b i s l m t x S al cl bl ol am cm bm om ds w hal ham hl hm hx hS hll hml htm hq hsr h0
  ·rw [if_neg hq]
   have hq' : keyIs t m[posF m t]? = false := by simpa using hq
   by_cases h0 : 0 < m.length
   ·exact radM_full_f b i s l m t x S al cl bl ol am cm bm om ds w hal ham hl hm hx hS hll hml htm hq' hsr h0
   ·cases am with
    | none => exact radM_none_f b i s l m t x S al cl bl ol none cm bm om ds w hal ham hl hm hx hS hll hml htm hq' hsr rfl
    | some ad => exact radM_some_f b i s l m t x S al cl bl ol (some ad) cm bm om ds w hal ham hl hm hx hS hll hml htm hq' hsr (by omega) ⟨ad, rfl⟩
 ·rw [if_neg hk5]
  by_cases hk4 : k = 4
  ·subst hk4
   rw [if_pos rfl]
   by_cases hd : t.data.toList = [45]
   ·rw [gapF, if_pos hd]
    show Calls _ _ _ _ (AdPost (.mk 4 false 0 ⟨#[]⟩ (insL l l.length x) [], 0) S w)
    by_cases h0 : 0 < l.length
    ·exact radV_full_t b i s l m t x S al cl bl ol am cm bm om ds w hal ham hl hm hx hS hll hml htm _ rfl hd h0
    ·cases al with
     | none => exact radV_none_t b i s l m t x S none cl bl ol am cm bm om ds w hal ham hl hm hx hS hll hml htm _ rfl hd rfl
     | some ad => exact radV_some_t b i s l m t x S (some ad) cl bl ol am cm bm om ds w hal ham hl hm hx hS hll hml htm _ rfl hd (by omega) ⟨ad, rfl⟩
   ·rw [gapF, if_neg hd]
    cases hg : idxF t.data.toList (l.length + 1) with
    | none => exact radV_no b i s l m t x S al cl am cm ds w hv0 hx hS hll hg hd
    | some p =>
     show Calls _ _ _ _ (AdPost (.mk 4 false 0 ⟨#[]⟩ (insL l p x) [], 0) S w)
     by_cases h0 : 0 < l.length
     ·exact radV_full_f b i s l m t x S al cl bl ol am cm bm om ds w hal ham hl hm hx hS hll hml htm p hg hd h0
     ·cases al with
      | none => exact radV_none_f b i s l m t x S none cl bl ol am cm bm om ds w hal ham hl hm hx hS hll hml htm p hg hd rfl
      | some ad => exact radV_some_f b i s l m t x S (some ad) cl bl ol am cm bm om ds w hal ham hl hm hx hS hll hml htm p hg hd (by omega) ⟨ad, rfl⟩
  ·rw [if_neg hk4]
   exact radO_no k b i s l m t x S al cl am cm ds w hv0 hx hS hk5 hk4
end Go.Proofs.YtnakligbogkmbaaGreatDoor
