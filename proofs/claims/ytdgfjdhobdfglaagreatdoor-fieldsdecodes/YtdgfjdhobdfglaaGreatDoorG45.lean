/- joined: RelB RelC DpsA -/
import Derived.Test.YtdgfjdhobdfglaaGreatDoorG44
set_option linter.unusedSimpArgs false
set_option linter.unusedVariables false
set_option maxRecDepth 100000
namespace Go.Proofs.YtdgfjdhobdfglaaGreatDoor
open Go.RowKit Go.Lib
def kS (m : List Mem) (j : Nat) : ByteArray := ⟨(91 :: kyV (m.take j)).toArray⟩
theorem kS_first {m : List Mem} (h : 0 < m.length) : kS m (0 + 1) = ((kS m 0 ++ ⟨(nmT (m[0]).1.data.toList).toArray⟩) ++ ⟨#[61]⟩) ++ ⟨(svT (m[0]).2).toArray⟩ := by
 apply ByteArray.ext
 apply Array.ext'
 simp only [kS, ByteArray.data_append, Array.toList_append]
 rw [kyV_take0 h, memT]
 simp [kyV]
theorem kS_more {m : List Mem} {j : Nat} (h : j < m.length) (h0 : j ≠ 0) : kS m (j + 1) = (((kS m j ++ ⟨#[44]⟩) ++ ⟨(nmT (m[j]).1.data.toList).toArray⟩) ++ ⟨#[61]⟩) ++ ⟨(svT (m[j]).2).toArray⟩ := by
 apply ByteArray.ext
 apply Array.ext'
 simp only [kS, ByteArray.data_append, Array.toList_append]
 rw [kyV_take h h0, memT]
 simp
theorem kS_end {m : List Mem} (h : 0 < m.length) : kS m m.length ++ ⟨#[93]⟩ = ⟨(kyT 91 m ++ [93]).toArray⟩ := by
 apply ByteArray.ext
 apply Array.ext'
 simp only [kS, ByteArray.data_append, Array.toList_append]
 rw [List.take_length, kyT_kyV 91 h]
theorem kS_len {m : List Mem} (j : Nat) (h : ∀ x ∈ m, in64V x.2) : (kS m j).size <= 1 + 40 * wtM m := by
 rw [kS, ba_size]
 have h1 := kyT_len (m.take j) 91 (fun x hx => h x (List.mem_of_mem_take hx))
 have h2 := wtM_take_le m j
 cases hl : m.take j with
 | nil => simp [kyV]
 | cons x t =>
  rw [hl] at h1
  have : (kyT 91 (x :: t)).length = (91 :: kyV (x :: t)).length := by rw [kyT_kyV 91 (by simp)]
  rw [hl] at h2
  omega
set_option maxHeartbeats 8000000 in
theorem relem_two (nm : ByteArray) (m : List Mem) (am : Option Addr) (cm bm om : Nat) (S : Nat -> Prop) (vk : Int) (vb : Bool) (vi : Int) (vs : ByteArray) (val : Option Addr) (vnl vcl : Nat) (vam : Option Addr) (vnm vcm : Nat) (w : World)
 (ham : Headed am m.length cm bm om) (hm : liesM false w S m bm om) (hS : ∀ x, S x -> x < w.heap.size) (hk : keysB m = true) (hwt : wtM m <= 2147483647) :
 Calls Tryz.prog 37 #[.agg #[.int .i64 2, .string nm, .slice am m.length cm, .int .i64 vk, .bool vb, .int .i64 vi, .string vs, .slice val vnl vcl, .slice vam vnm vcm]] w (SPost (kyT 91 m ++ [93]) w) := by
 have HM := hmk hm
 have HK := hmk hk
 have HI := hmk (in64_liesM hm)
 have hlen := wtM_len m
 have h0m := keysB_pos hk
 have HE := hmk (kS_end h0m)
 obtain rfl : am = some ⟨bm, om, none⟩ := ham.at_.resolve_left (by omega)
 let oB : Obj := .cells #[.int .i64 2, .string nm, .slice (some ⟨bm, om, none⟩) m.length cm, .int .i64 vk, .bool vb, .int .i64 vi, .string vs, .slice val vnl vcl, .slice vam vnm vcm] 52
 have nb := heap_alloc_new w oB
 have hza := alloc_size w oB
 have m0 : (w.alloc oB).cell? ⟨w.heap.size, 0, none⟩ = some (.int .i64 2) := by rw [cell_of_block nb]; rfl
 have bA : Below w.heap.size w (w.alloc oB) := (Below.refl _ w).alloc (Nat.le_refl _) _
 have HX : Hid (∀ W, Below (w.heap.size + 1) (w.alloc oB) W -> W.heap[w.heap.size]? = some oB) := fun W hb => (hb.block _ (by omega)).trans nb
 have HKL : Hid (∀ j, (kS m j).size <= 1 + 40 * wtM m) := fun j => kS_len j HI.out
 have HR : Hid (kS m 0 = ⟨#[91]⟩) := hmk rfl
 clear hm hk nb
 unfold SPost
 generalize (⟨(kyT 91 m ++ [93]).toArray⟩ : ByteArray) = R at *
 go_enter Tryz.func37, Tryz.ntmps37
 go_wp2_with fail
 go_loopw [4, 5] (fun a e wr => ∃ j : Nat, j <= m.length /\ a = .string (kS m j) /\ e = .int .i64 (j : Int) /\ Below (w.heap.size + 1) (w.alloc oB) wr) (fun _ e _ => m.length - (RowKit.intOf e).toNat)
 case atStart => exact ⟨0, by omega, by rw [HR.out], rfl, Below.refl _ _⟩
 case round =>
  obtain ⟨j, hj, rfl, rfl, bj⟩ := hrel
  have hkl := HKL.out j
  have c2 : wr.cell? ⟨w.heap.size, 2, none⟩ = some (.slice (some ⟨bm, om, none⟩) m.length cm) := by rw [cell_of_block (HX.out _ bj)]; rfl
  have bj' : Below (w.heap.size + 1) (w.alloc oB) wr := bj
  have hzr := bj.size
  clear m0
  by_cases hjl : j < m.length
  ·have y1 : (j : Int) < m.length := by omega
   obtain ⟨hSb, hks, csj, hrow, hlj⟩ := liesM_get HM.out j hjl
   have hSb' := hS _ hSb
   have hrow' := hrow.keep ((bj.block bm (by omega)).trans (Below.heap_alloc w oB bm (by omega)))
   obtain ⟨hkv, hsz⟩ := keysB_get HK.out hjl
   have hwj := wtM_mem (List.getElem_mem hjl)
   by_cases hj0 : j = 0
   focus
    have yd : decide ((0 : Int) < (j : Int)) = false := by simp [hj0]
    have yk : decide (0 < j) = false := by simp [hj0]
    have HS : Hid (kS m (j + 1) = ((kS m j ++ ⟨(nmT (m[j]).1.data.toList).toArray⟩) ++ ⟨#[61]⟩) ++ ⟨(svT (m[j]).2).toArray⟩) := by subst hj0; exact kS_first hjl
    clear hj0
    generalize hA : kS m j = A at *
    generalize (m[j]).1 = key at *
    generalize (m[j]).2 = xv at *
    obtain ⟨ek, eb, ei, es, el, em⟩ := xv
    rw [V.lies] at hlj
    obtain ⟨eal, ecl, ebl, eol, eam, ecm, ebm, eom, rfl, hek, hei, hes, _⟩ := hlj
    obtain ⟨q, q0, q1, q2, q3, q4, q5⟩ := row7 hrow'
    obtain ⟨hk3, hvs, rfl, rfl⟩ := sizS_good hsz
    have hes2 : es.size <= 2147483648 /\ key.size <= 2147483648 := by simp only [V.wt] at hwj; omega
    have hnl := nmT_len key
    have hsl := scT_len (k := ek) (b := eb) (i := ei) (s := es) hei
    have HSV : Hid (svT (.mk ek eb ei es [] []) = scT ek eb ei es) := hmk rfl
    rw [HSV.out] at HS
    have HN : Hid (∀ W, Calls Tryz.prog 58 #[.string key] W (SPost (nmT key.data.toList) W)) := fun W => rname_any key W hes2.2 hkv
    have HC : Hid (∀ W, Calls Tryz.prog 59 #[.agg #[.int .i64 ek, .bool eb, .int .i64 ei, .string es, .slice eal 0 ecl, .slice eam 0 ecm]] W (TxPost (scT ek eb ei es) W)) := fun W => rtext_any ek eb ei es eal 0 ecl eam 0 ecm W hk3 hei hes2.1 hvs
    clear hrow hrow' hsz hwj hkv hvs HSV hek hei hes hk3 hks
    generalize nmT key.data.toList = nt at *
    generalize scT ek eb ei es = st at *
    go_wp2_with fail
   rotate_left 1
   focus
    have y0 : (0 : Int) < (j : Int) := by omega
    have yd : decide ((0 : Int) < (j : Int)) = true := by simp; omega
    have HS : Hid (kS m (j + 1) = (((kS m j ++ ⟨#[44]⟩) ++ ⟨(nmT (m[j]).1.data.toList).toArray⟩) ++ ⟨#[61]⟩) ++ ⟨(svT (m[j]).2).toArray⟩) := hmk (kS_more hjl hj0)
    generalize hA0 : kS m j = A0 at *
    have hkl2 : (A0 ++ (⟨#[44]⟩ : ByteArray)).size <= 2 + 40 * wtM m := by rw [ByteArray.size_append]; show _ + 1 <= _; omega
    generalize (m[j]).1 = key at *
    generalize (m[j]).2 = xv at *
    obtain ⟨ek, eb, ei, es, el, em⟩ := xv
    rw [V.lies] at hlj
    obtain ⟨eal, ecl, ebl, eol, eam, ecm, ebm, eom, rfl, hek, hei, hes, _⟩ := hlj
    obtain ⟨q, q0, q1, q2, q3, q4, q5⟩ := row7 hrow'
    obtain ⟨hk3, hvs, rfl, rfl⟩ := sizS_good hsz
    have hes2 : es.size <= 2147483648 /\ key.size <= 2147483648 := by simp only [V.wt] at hwj; omega
    have hnl := nmT_len key
    have hsl := scT_len (k := ek) (b := eb) (i := ei) (s := es) hei
    have HSV : Hid (svT (.mk ek eb ei es [] []) = scT ek eb ei es) := hmk rfl
    rw [HSV.out] at HS
    have HN : Hid (∀ W, Calls Tryz.prog 58 #[.string key] W (SPost (nmT key.data.toList) W)) := fun W => rname_any key W hes2.2 hkv
    have HC : Hid (∀ W, Calls Tryz.prog 59 #[.agg #[.int .i64 ek, .bool eb, .int .i64 ei, .string es, .slice eal 0 ecl, .slice eam 0 ecm]] W (TxPost (scT ek eb ei es) W)) := fun W => rtext_any ek eb ei es eal 0 ecl eam 0 ecm W hk3 hei hes2.1 hvs
    clear hrow hrow' hsz hwj hkv hvs HSV hek hei hes hk3 hks
    generalize nmT key.data.toList = nt at *
    generalize scT ek eb ei es = st at *
    go_wp2_with fail
    have hkl := hkl2
    generalize hA : A0 ++ (⟨#[44]⟩ : ByteArray) = A at *
   rotate_left 1
   all_goals
    refine (HC.out wr).mono ?_
    rintro e w2 ⟨v', rfl, o2, b2⟩
    have bw2 : Below (w.heap.size + 1) (w.alloc oB) w2 := bj.trans (b2.mono (by omega))
    have hz2 := b2.size
    have K2 : w2.cell? ⟨w.heap.size, 2, none⟩ = some (.slice (some ⟨bm, om, none⟩) m.length cm) := by rw [cell_of_block (HX.out _ bw2)]; rfl
    have Q2 : w2.cell? ⟨bm, om + j * 7, none⟩ = some (.string key) := (b2.cell (p := ⟨bm, om + j * 7, none⟩) (by show bm < _; omega)).trans q
    have x0 : ∀ x : Sub w2.heap.size w2, _ := sub_cell K2 (by omega)
    have x1 : ∀ x : Sub w2.heap.size w2, _ := sub_cell Q2 (by omega)
    have x2 : ∀ x : Sub w2.heap.size w2, (convert 101 9 v').run Tryz.prog x.w = .ok (.string ⟨st.toArray⟩) x.w := fun x => (o2.below x.b).conv
    have C30 : Hid (∀ x : Sub w2.heap.size w2, Calls Tryz.prog 58 #[.string key] x.w fun e w'' => e = .returned (.string ⟨nt.toArray⟩) /\ ∃ y : Sub w2.heap.size w2, w'' = y.w) :=
     sub_call fun w' hb => (HN.out w').mono fun e w'' ⟨he, h2⟩ => ⟨he, hb.trans (h2.mono hb.size)⟩
    have HZ1 := ba_size st
    have HZ2 := ba_size nt
    generalize (⟨st.toArray⟩ : ByteArray) = ST at *
    generalize (⟨nt.toArray⟩ : ByteArray) = NT at *
    have z1 : (A ++ NT).size <= 400000000000 := by rw [ByteArray.size_append]; omega
    have z2 : ((A ++ NT) ++ (⟨#[61]⟩ : ByteArray)).size <= 400000000001 := by rw [ByteArray.size_append]; show _ + 1 <= _; omega
    have hst : ST.size <= 400000000000 := by omega
    clear K2 Q2
    go_wp2_with fail
    refine wp_region_sub w2.heap.size (by kernel_rfl) (by kernel_rfl) ?_
    repeat (go_big_quiet_step (first | exact C30.out _))
    refine wpQuiet_nil ?_
    rintro wq ⟨⟨wq', bq⟩, hq⟩
    have hq' : wq = wq' := hq
    subst hq'
    clear hq
    have HB := hmk (bw2.trans (bq.mono (by omega)))
    go_wp2_with fail
    go_roundw
    case rel => exact ⟨j + 1, by omega, by rw [HS.out], by simp, HB.out⟩
    case measure => simp [RowKit.intOf]; omega
  ·have y1 : ¬ (j : Int) < m.length := by omega
   obtain rfl : j = m.length := by omega
   generalize kS m m.length = A at *
   go_wp2_with fail
   go_ret
   exact ⟨by rw [<- HE.out]; rfl, bA.trans (bj.mono (by omega))⟩
end Go.Proofs.YtdgfjdhobdfglaaGreatDoor
set_option maxRecDepth 100000
namespace Go.Proofs.YtdgfjdhobdfglaaGreatDoor
open Go.RowKit Go.Lib
theorem rltext_any (x : El) (cs : List Value) (S : Nat -> Prop) (w : World) (hx : x.lies w S cs) (hS : ∀ x, S x -> x < w.heap.size) (he : elB x = true) (hwt : x.wt <= 2147483647) :
 Calls Tryz.prog 37 #[.agg cs.toArray] w (SPost (elT x) w) := by
 obtain ⟨k, nm, ky, v⟩ := x
 obtain ⟨am, cm, bm, om, is, rfl, hk64, hnz, ham, hm, hi⟩ := hx
 obtain ⟨vk, vb, vi, vs, vl, vm⟩ := v
 rw [V.lies] at hi
 obtain ⟨val, vcl, vbl, vol, vam, vcm, vbm, vom, rfl, hvk, hvi, hvs, _⟩ := hi
 dsimp only at ham hm hnz hk64 ⊢
 simp only [El.wt, V.wt] at hwt
 by_cases k1 : k = 1
 ·rw [elB1 k1] at he
  simp only [Bool.and_eq_true, decide_eq_true_eq] at he
  rw [elT, if_pos k1]
  subst k1
  exact relem_one nm am ky.length cm vk vb vi vs val vl.length vcl vam vm.length vcm w (by omega) he.2.2
 by_cases k3 : k = 3
 ·rw [elB3 k3] at he
  simp only [Bool.and_eq_true, decide_eq_true_eq] at he
  obtain ⟨hk3, hvv, _, _⟩ := sizS_good he.2.2
  rw [elT, if_neg k1, if_pos k3, svT]
  subst k3
  exact relem_three nm am ky.length cm vk vb vi vs val vl.length vcl vam vm.length vcm w hk3 hvi (by omega) hvv
 by_cases k2 : k = 2
 ·rw [elB2 k2] at he
  simp only [Bool.and_eq_true, decide_eq_true_eq] at he
  rw [elT, if_neg k1, if_neg k3]
  subst k2
  exact relem_two nm ky am cm bm om S vk vb vi vs val vl.length vcl vam vm.length vcm w ham hm hS he.2.2 (by omega)
 ·rw [elB0 k1 k2 k3] at he
  exact absurd he (by decide)
end Go.Proofs.YtdgfjdhobdfglaaGreatDoor
set_option maxRecDepth 100000
set_option maxHeartbeats 64000000
namespace Go.Proofs.YtdgfjdhobdfglaaGreatDoor
open Go.RowKit Go.Lib
theorem relem_many (x : El) (S : Nat -> Prop) (cs : List Value) (w : World) (hl : x.lies w S cs) (hk : x.kind = 2) (hn : x.name = ⟨#[]⟩) (h8 : 8 < x.key.length) :
 Calls Tryz.prog 36 #[.agg cs.toArray] w (BPost false w) := by
 obtain ⟨k, nm, m, v⟩ := x
 obtain ⟨am, cm, bm, om, is, rfl, _, hnm, ham, hm, hv⟩ := hl
 obtain ⟨vk, vb, vi, vs, vl, vm⟩ := v
 rw [V.lies] at hv
 obtain ⟨val, vcl, vbl, vol, vam, vcm, vbm, vom, rfl, _⟩ := hv
 dsimp only at hk hn h8 ham ⊢
 subst hk
 subst hn
 have HB := hmk ((Below.refl _ w).alloc (Nat.le_refl _) (.cells #[.int .i64 2, .string ⟨#[]⟩, .slice am m.length cm, .int .i64 vk, .bool vb, .int .i64 vi, .string vs, .slice val vl.length vcl, .slice vam vm.length vcm] 52))
 have hbx := box_row w [.int .i64 2, .string ⟨#[]⟩, .slice am m.length cm, .int .i64 vk, .bool vb, .int .i64 vi, .string vs, .slice val vl.length vcl, .slice vam vm.length vcm] 52
 obtain ⟨d0, d1, d2, d3, d4, d5, d6, d7, d8⟩ := row9z hbx
 have y0 : ((m.length : Int) == 0) = false := by rw [beq_eq_false_iff_ne]; omega
 have y1 : (8 : Int) < m.length := by omega
 clear hm hnm
 go_enter Tryz.func36, Tryz.ntmps36
 go_wp2_with fail
 go_ret
 exact ⟨rfl, HB.out⟩
theorem relem_read {s : ByteArray} {k : Nat} {x : El} {k1 : Nat} (h : dreadF s.data.toList k = some (x, k1)) (hs : s.size <= 1048576) (S : Nat -> Prop) (cs : List Value) (w : World) (hl : x.lies w S cs) (hS : ∀ b, S b -> b < w.heap.size) :
 Calls Tryz.prog 36 #[.agg cs.toArray] w (BPost (elB x) w) := by
 rcases dread_wt h with ⟨m, rfl, h8⟩ | hw
 ·have e : elB ⟨2, ⟨#[]⟩, m, nilW⟩ = false := by
   rw [elB2 rfl, keysB_len (fun hh => by omega)]; simp
  rw [e]
  exact relem_many _ S cs w hl rfl rfl h8
 ·exact relem_any x S cs w hl hS (by omega)
theorem dnx_none {l : List UInt8} {k : Nat} (h : dreadF l k = none) (hk : k <= l.length) : nxtF l k = none := by rw [<- dnxt_eq l k hk, dnxtF, h]
theorem dnx_bad {l : List UInt8} {k k1 : Nat} {x : El} (h : dreadF l k = some (x, k1)) (h2 : elB x = false) (hk : k <= l.length) : nxtF l k = none := by rw [<- dnxt_eq l k hk, dnxtF, h]; dsimp only; rw [if_neg (by rw [h2]; decide)]
theorem dnx_yes {l : List UInt8} {k k1 : Nat} {x : El} (h : dreadF l k = some (x, k1)) (h2 : elB x = true) (h3 : elT x = (l.drop k).take (k1 - k)) (hk : k <= l.length) : nxtF l k = some (x, k1) := by rw [<- dnxt_eq l k hk, dnxtF, h]; dsimp only; rw [if_pos h2, if_pos h3]
theorem dnx_no {l : List UInt8} {k k1 : Nat} {x : El} (h : dreadF l k = some (x, k1)) (h2 : elB x = true) (h3 : elT x ≠ (l.drop k).take (k1 - k)) (hk : k <= l.length) : nxtF l k = none := by rw [<- dnxt_eq l k hk, dnxtF, h]; dsimp only; rw [if_pos h2, if_neg h3]
theorem elB_light {s : ByteArray} {k : Nat} {x : El} {k1 : Nat} (h : dreadF s.data.toList k = some (x, k1)) (hs : s.size <= 1048576) (he : elB x = true) : x.wt <= 2147483647 := by
 rcases dread_wt h with ⟨m, rfl, h8⟩ | hw
 ·rw [elB2 rfl, keysB_len (fun hh => by omega)] at he; simp at he
 ·omega
theorem dpar_any (s : ByteArray) (w : World) (hs : s.size <= 1048576) :
 Calls Tryz.prog 24 #[.string s] w (PaP (parF s.data.toList 33 0 []) w) := by
 have hll : s.data.toList.length = s.size := by simp
 have HLL := hmk hll
 obtain ⟨i0, hi0, hz0, hz1, hz2⟩ := info_parts info35
 have hI : Hid (Tryz.prog.info? 52 = some i0 /\ i0.zero = some (.agg #[.int .i64 0, .string ⟨#[]⟩, .slice none 0 0, .int .i64 0, .bool false, .int .i64 0, .string ⟨#[]⟩, .slice none 0 0, .slice none 0 0]) /\ i0.size = 9 /\ i0.bytes = 136) := ⟨hi0, hz0, hz1, hz2⟩
 have CR : Hid (∀ W k, k < s.size -> Calls Tryz.prog 35 #[.string s, .int .i64 (k : Int)] W (DrP (dreadF s.data.toList k) k s W)) := fun W k hk => dread_any s k W hs hk
 clear hll hi0 hz0 hz1 hz2
 go_enter Tryz.func24, Tryz.ntmps24
 go_wp2_with fail
 go_loopw [5, 6] (fun e5 e6 wq => ∃ (acc : List El) (kk : Nat) (SM : Nat -> Prop), acc.length <= 32 /\ lenOf e5 = acc.length /\ kk <= s.size /\ e6 = .int .i64 (kk : Int) /\ Hid (parF s.data.toList 33 0 [] = parF s.data.toList (33 - acc.length) kk acc) /\ Below w.heap.size w wq /\ OwnP wq w.heap.size SM e5 acc) (fun e5 _ _ => 33 - lenOf e5)
 case atStart => exact ⟨[], 0, _, by simp, rfl, by omega, rfl, hmk rfl, Below.refl _ _, OwnR.nil _ _⟩
 case round =>
  obtain ⟨acc, kk, SM, ha32, hlen, hks, rfl, HF, bj, oj⟩ := hrel
  obtain ⟨sa, sc, sb, so, rfl, hd, hls⟩ := own_listP (T := fun b => w.heap.size <= b /\ b < wr.heap.size) oj (fun b hb => ⟨(oj.off b hb).1, (oj.off b hb).2.1⟩) (fun g hg => oj.lt hg)
  have HD := hmk hd
  have HLS := hmk hls
  clear hlen hd hls
  by_cases hlt : kk < s.size
  case neg =>
   have y1 : ¬ (kk : Int) < s.size := by omega
   have HE : Hid (parF s.data.toList 33 0 [] = (acc, -1, 0)) := by show _ = _; rw [HF.out, par_end (by rw [HLL.out]; exact hlt)]
   have HB := hmk bj
   clear oj bj
   go_wp2_with fail
   go_ret3
   exact (by rw [HE.out]; exact ⟨sa, sc, sb, so, rfl, HD.out, liesP_keep (fun _ _ => rfl) (fun b hb => ⟨hb.1, hb.2⟩) HLS.out, HB.out⟩)
  have y1 : (kk : Int) < s.size := by omega
  have hkk0 : (0 : Int) <= kk := by omega
  have e33 : 33 - acc.length = (32 - acc.length) + 1 := by omega
  rw [e33] at HF
  have HKL : Hid (kk < s.data.toList.length) := by show _ < _; rw [HLL.out]; exact hlt
  clear e33
  go_wp2_with fail
  refine (CR.out _ kk hlt).mono ?_
  rintro e w2 ⟨b2, ⟨x, k1, cs, hx, hk1, hk2, rfl, hl⟩ | ⟨hx, x, cs, rfl, hl, hxw⟩⟩
  ·obtain ⟨ek, es, ea, en, ec, fk, fb, fi, fs, fa, fn, fc, ga, gn, gc, rfl⟩ := El.nine hl
   have HX := hmk hx
   have bB : Below w2.heap.size w2 (w2.alloc (.cells #[.int .i64 ek, .string es, .slice ea en ec, .int .i64 fk, .bool fb, .int .i64 fi, .string fs, .slice fa fn fc, .slice ga gn gc] 52)) := (Below.refl _ _).alloc (Nat.le_refl _) _
   have nB := heap_alloc_new w2 (.cells #[.int .i64 ek, .string es, .slice ea en ec, .int .i64 fk, .bool fb, .int .i64 fi, .string fs, .slice fa fn fc, .slice ga gn gc] 52)
   have zB : w2.heap.size < (w2.alloc (.cells #[.int .i64 ek, .string es, .slice ea en ec, .int .i64 fk, .bool fb, .int .i64 fi, .string fs, .slice fa fn fc, .slice ga gn gc] 52)).heap.size := by rw [alloc_size]; omega
   have HL : Hid (∀ W, Below w2.heap.size w2 W -> x.lies W (New wr w2) [.int .i64 ek, .string es, .slice ea en ec, .int .i64 fk, .bool fb, .int .i64 fi, .string fs, .slice fa fn fc, .slice ga gn gc]) := fun W b => El.lies_keep (fun y hy => b.block y hy.2) (fun _ h => h) hl
   have CE := hmk (relem_read hx hs (New wr w2) _ (w2.alloc (.cells #[.int .i64 ek, .string es, .slice ea en ec, .int .i64 fk, .bool fb, .int .i64 fi, .string fs, .slice fa fn fc, .slice ga gn gc] 52)) (El.lies_keep (fun y hy => bB.block y hy.2) (fun _ h => h) hl) (fun y hy => Nat.lt_of_lt_of_le hy.2 bB.size))
   have bj2 := bj.trans (b2.mono bj.size)
   obtain ⟨p0, p1, p2, p3, p4, p5, p6, p7, p8⟩ := cN9 nB
   have HO : Hid (OwnP w2 w.heap.size SM (.slice sa acc.length sc) acc) := oj.below keepP b2
   have HSX : Hid (∀ b, New wr w2 b -> w.heap.size <= b /\ b < w2.heap.size /\ some b ≠ (Value.slice sa acc.length sc).ownBlock) := fun b hb => ⟨Nat.le_trans bj.size hb.1, hb.2, fun e => by have := (oj.lt e.symm).2; have := hb.1; omega⟩
   clear hx hl oj
   generalize hEB : elB x = EB at *
   have HEB := hmk hEB
   clear hEB
   go_wp2_with fail
   refine CE.out.mono ?_
   rintro e w3 ⟨rfl, b3⟩
   have b23 := bB.trans (b3.mono bB.size)
   have n3 : w3.heap[w2.heap.size]? = some (.cells #[.int .i64 ek, .string es, .slice ea en ec, .int .i64 fk, .bool fb, .int .i64 fi, .string fs, .slice fa fn fc, .slice ga gn gc] 52 (0, 0)) := (b3.block _ zB).trans nB
   have z3 := Nat.lt_of_lt_of_le zB b3.size
   have bw3 := bj2.trans (b23.mono bj2.size)
   have HB3 := hmk bw3
   clear CE p0 p1 p2 p3 p4 p5 p6 p7 p8 nB bB zB b3
   by_cases h32 : acc.length = 32
   ·have y32 : ((acc.length : Int) == 32) = true := by rw [beq_iff_eq]; omega
    have H32 := hmk h32
    clear h32 n3 z3 b23 bw3
    go_wp2_with fail
    go_ret3
    exact pa_err (l := s.data.toList) _ (by rw [HF.out, par_full HKL.out H32.out]) HB3.out
   have y32 : ((acc.length : Int) == 32) = false := by rw [beq_eq_false_iff_ne]; omega
   have H32 := hmk h32
   have a0 : ¬ (k1 : Int) < 0 := by omega
   cases EB with
   | false =>
    have HN := hmk (dnx_bad HX.out HEB.out (by rw [HLL.out]; exact hks))
    clear h32 n3 z3 b23 bw3
    go_wp2_with fail
    go_ret3
    exact pa_err (l := s.data.toList) _ (by rw [HF.out, par_no HKL.out HN.out]) HB3.out
   | true =>
    have HTX : Hid (∀ W, Below w3.heap.size w3 W -> Calls Tryz.prog 37 #[.agg #[.int .i64 ek, .string es, .slice ea en ec, .int .i64 fk, .bool fb, .int .i64 fi, .string fs, .slice fa fn fc, .slice ga gn gc]] W (SPost (elT x) W)) := fun W b => rltext_any x _ (New wr w2) W (HL.out W (b23.trans (b.mono (Nat.le_of_lt z3)))) (fun y hy => Nat.lt_of_lt_of_le (Nat.lt_trans hy.2 z3) b.size) HEB.out (elB_light HX.out hs HEB.out)
    have CT : Hid (∀ y : Sub w3.heap.size w3, Calls Tryz.prog 37 #[.agg #[.int .i64 ek, .string es, .slice ea en ec, .int .i64 fk, .bool fb, .int .i64 fi, .string fs, .slice fa fn fc, .slice ga gn gc]] y.w fun e w'' => e = .returned (.string ⟨(elT x).toArray⟩) /\ ∃ z : Sub w3.heap.size w3, w'' = z.w) :=
     sub_call fun w' hb => (HTX.out w' hb).mono fun e w'' ⟨he, h2⟩ => ⟨he, hb.trans (h2.mono hb.size)⟩
    obtain ⟨p0, p1, p2, p3, p4, p5, p6, p7, p8⟩ := cN9 n3
    have x0 : ∀ y : Sub w3.heap.size w3, _ := sub_cell p0 z3
    have x1 : ∀ y : Sub w3.heap.size w3, _ := sub_cell p1 z3
    have x2 : ∀ y : Sub w3.heap.size w3, _ := sub_cell p2 z3
    have x3 : ∀ y : Sub w3.heap.size w3, _ := sub_cell p3 z3
    have x4 : ∀ y : Sub w3.heap.size w3, _ := sub_cell p4 z3
    have x5 : ∀ y : Sub w3.heap.size w3, _ := sub_cell p5 z3
    have x6 : ∀ y : Sub w3.heap.size w3, _ := sub_cell p6 z3
    have x7 : ∀ y : Sub w3.heap.size w3, _ := sub_cell p7 z3
    have x8 : ∀ y : Sub w3.heap.size w3, _ := sub_cell p8 z3
    have hM := hmk (ext_mid s kk k1 (by omega) hk2)
    have hkk1 : (kk : Int) <= k1 := by omega
    have hk1s : (k1 : Int) <= s.size := by omega
    obtain ⟨SL, hSL⟩ : ∃ SL : ByteArray, Hid (s.extract kk k1 = SL) := ⟨_, rfl⟩
    have hS2 : s.extract kk k1 = SL := hSL
    obtain ⟨TX, hTX⟩ : ∃ TX : ByteArray, (⟨(elT x).toArray⟩ : ByteArray) = TX := ⟨_, rfl⟩
    rw [hTX] at CT
    have HEQ : Hid (TX = SL ↔ elT x = (s.data.toList.drop kk).take (k1 - kk)) := by
     show _ ↔ _
     rw [<- hTX, <- hSL.out, hM.out]
     constructor
     ·intro h; have := congrArg (fun b : ByteArray => b.data.toList) h; simpa using this
     ·intro h; rw [h]
    clear HTX hTX h32
    by_cases hq : TX = SL
    ·have HY := hmk (dnx_yes HX.out HEB.out (HEQ.out.1 hq) (by rw [HLL.out]; exact hks))
     subst hq
     go_wp2_with fail
     refine wp_region_sub w3.heap.size (by kernel_rfl) (by kernel_rfl) ?_
     repeat (go_big_quiet_step (first | exact CT.out _))
     refine wpQuiet_nil ?_
     rintro w4 ⟨⟨w4', b4⟩, hq4⟩
     have hq' : w4 = w4' := hq4
     subst hq'
     clear hq4 CT x0 x1 x2 x3 x4 x5 x6 x7 x8 p0 p1 p2 p3 p4 p5 p6 p7 p8
     have n4 : w4.heap[w2.heap.size]? = some (.cells #[.int .i64 ek, .string es, .slice ea en ec, .int .i64 fk, .bool fb, .int .i64 fi, .string fs, .slice fa fn fc, .slice ga gn gc] 52 (0, 0)) := (b4.block _ z3).trans n3
     have z4 := Nat.lt_of_lt_of_le z3 b4.size
     have b24 := b23.trans (b4.mono b23.size)
     have bw4 := bw3.trans (b4.mono bw3.size)
     obtain ⟨p0, p1, p2, p3, p4, p5, p6, p7, p8⟩ := cN9 n4
     have b45 : Below w4.heap.size w4 (w4.alloc (.cells #[.int .i64 ek, .string es, .slice ea en ec, .int .i64 fk, .bool fb, .int .i64 fi, .string fs, .slice fa fn fc, .slice ga gn gc] 52)) := (Below.refl _ _).alloc (Nat.le_refl _) _
     have b25 := b24.trans (b45.mono b24.size)
     have bw5 := bw4.trans (b45.mono bw4.size)
     have o5 : OwnP (w4.alloc (.cells #[.int .i64 ek, .string es, .slice ea en ec, .int .i64 fk, .bool fb, .int .i64 fi, .string fs, .slice fa fn fc, .slice ga gn gc] 52)) w.heap.size SM (.slice sa acc.length sc) acc := HO.out.below keepP b25
     have HEP : Hid (EP x (w4.alloc (.cells #[.int .i64 ek, .string es, .slice ea en ec, .int .i64 fk, .bool fb, .int .i64 fi, .string fs, .slice fa fn fc, .slice ga gn gc] 52)) (New wr w2) [.int .i64 ek, .string es, .slice ea en ec, .int .i64 fk, .bool fb, .int .i64 fi, .string fs, .slice fa fn fc, .slice ga gn gc]) := HL.out _ b25
     have HS5 : Hid (∀ b, New wr w2 b -> w.heap.size <= b /\ b < (w4.alloc (.cells #[.int .i64 ek, .string es, .slice ea en ec, .int .i64 fk, .bool fb, .int .i64 fi, .string fs, .slice fa fn fc, .slice ga gn gc] 52)).heap.size /\ some b ≠ (Value.slice sa acc.length sc).ownBlock) := fun b hb => ⟨(HSX.out b hb).1, Nat.lt_of_lt_of_le (HSX.out b hb).2.1 b25.size, (HSX.out b hb).2.2⟩
     have ha3 : acc.length + 1 <= 32 := by have := H32.out; omega
     clear n4 b24 bw4 b25 bw3 b23 n3 b4
     go_wp2_with (at_builtin; go_loud (refine wpl_push keepP _ rfl (.tmp 42) (.tmp 44) 46 rfl w.heap.size i0 _ 136 Tryz.underlying46 hI.out.1 hI.out.2.1 hI.out.2.2.1 hI.out.2.2.2 rfl (by decide) (by decide) (.slice sa acc.length sc) x rfl o5 w4.heap.size 1 (0, 0) rfl (heap_alloc_new w4 _) rfl one9 HEP.out HS5.out (by omega) bw5.size ?_))
     intro g' cap w6 o6 g6 e6
     have hrow : ∀ r, (Value.slice sa acc.length sc).ownBlock = some r -> w.heap.size <= r := fun r e => (o5.lt e).1
     have bw6 := bw5.grown g6 bw5.size hrow
     clear o5 bw5 g6 e6 hrow b45
     go_wp2_with fail
     go_roundw
     case rel => exact ⟨acc ++ [x], k1, _, by rw [List.length_append]; exact ha3, by rw [List.length_append]; rfl, hk2, rfl, hmk (by rw [HF.out, par_yes HKL.out H32.out HY.out]; congr 1; rw [List.length_append]; show _ = 33 - (acc.length + 1); omega), bw6, o6⟩
     case measure => simp [lenOf]; omega
    ·have HY := hmk (dnx_no HX.out HEB.out (fun h => hq (HEQ.out.2 h)) (by rw [HLL.out]; exact hks))
     have e1 : (TX.toList == SL.toList) = false := by rw [beq_eq_false_iff_ne]; exact fun h => hq (bytes_eq h)
     have e2 : (TX.toList != SL.toList) = true := by rw [bne_iff_ne]; exact fun h => hq (bytes_eq h)
     have e3 : ¬ TX.toList = SL.toList := fun h => hq (bytes_eq h)
     go_wp2_with fail
     refine wp_region_sub w3.heap.size (by kernel_rfl) (by kernel_rfl) ?_
     repeat (go_big_quiet_step (first | exact CT.out _))
     refine wpQuiet_nil ?_
     rintro w4 ⟨⟨w4', b4⟩, hq4⟩
     have hq' : w4 = w4' := hq4
     subst hq'
     have HB4 := hmk (bw3.trans (b4.mono bw3.size))
     clear hq4 CT x0 x1 x2 x3 x4 x5 x6 x7 x8 p0 p1 p2 p3 p4 p5 p6 p7 p8 n3 b23 bw3 b4
     go_wp2_with fail
     go_ret3
     exact pa_err (l := s.data.toList) _ (by rw [HF.out, par_no HKL.out HY.out]) HB4.out
  ·obtain ⟨ek, es, ea, en, ec, fk, fb, fi, fs, fa, fn, fc, ga, gn, gc, rfl⟩ := El.nine hl
   have HX := hmk hx
   have bB : Below w2.heap.size w2 (w2.alloc (.cells #[.int .i64 ek, .string es, .slice ea en ec, .int .i64 fk, .bool fb, .int .i64 fi, .string fs, .slice fa fn fc, .slice ga gn gc] 52)) := (Below.refl _ _).alloc (Nat.le_refl _) _
   have nB := heap_alloc_new w2 (.cells #[.int .i64 ek, .string es, .slice ea en ec, .int .i64 fk, .bool fb, .int .i64 fi, .string fs, .slice fa fn fc, .slice ga gn gc] 52)
   have zB : w2.heap.size < (w2.alloc (.cells #[.int .i64 ek, .string es, .slice ea en ec, .int .i64 fk, .bool fb, .int .i64 fi, .string fs, .slice fa fn fc, .slice ga gn gc] 52)).heap.size := by rw [alloc_size]; omega
   have HL : Hid (∀ W, Below w2.heap.size w2 W -> x.lies W (New wr w2) [.int .i64 ek, .string es, .slice ea en ec, .int .i64 fk, .bool fb, .int .i64 fi, .string fs, .slice fa fn fc, .slice ga gn gc]) := fun W b => El.lies_keep (fun y hy => b.block y hy.2) (fun _ h => h) hl
   have CE := hmk (relem_any x (New wr w2) _ (w2.alloc (.cells #[.int .i64 ek, .string es, .slice ea en ec, .int .i64 fk, .bool fb, .int .i64 fi, .string fs, .slice fa fn fc, .slice ga gn gc] 52)) (El.lies_keep (fun y hy => bB.block y hy.2) (fun _ h => h) hl) (fun y hy => Nat.lt_of_lt_of_le hy.2 bB.size) (by omega))
   have bj2 := bj.trans (b2.mono bj.size)
   obtain ⟨p0, p1, p2, p3, p4, p5, p6, p7, p8⟩ := cN9 nB
   have HN := hmk (dnx_none HX.out (by rw [HLL.out]; exact hks))
   clear hx hl oj
   generalize elB x = EB at *
   go_wp2_with fail
   refine CE.out.mono ?_
   rintro e w3 ⟨rfl, b3⟩
   have b23 := bB.trans (b3.mono bB.size)
   have HB3 := hmk (bj2.trans (b23.mono bj2.size))
   clear CE p0 p1 p2 p3 p4 p5 p6 p7 p8 nB bB zB b3 b23
   by_cases h32 : acc.length = 32
   ·have y32 : ((acc.length : Int) == 32) = true := by rw [beq_iff_eq]; omega
    have H32 := hmk h32
    clear h32
    go_wp2_with fail
    go_ret3
    exact pa_err (l := s.data.toList) _ (by rw [HF.out, par_full HKL.out H32.out]) HB3.out
   ·have y32 : ((acc.length : Int) == 32) = false := by rw [beq_eq_false_iff_ne]; omega
    clear h32
    go_wp2_with fail
    go_ret3
    exact pa_err (l := s.data.toList) _ (by rw [HF.out, par_no HKL.out HN.out]) HB3.out
end Go.Proofs.YtdgfjdhobdfglaaGreatDoor
