/- joined: DcmF DcmG -/
import Derived.Test.YtdgfjdhobdfglaaGreatDoorG37
import Derived.Test.YtdgfjdhobdfglaaGreatDoorG26
set_option linter.unusedSimpArgs false
set_option linter.unusedVariables false
set_option maxRecDepth 100000
set_option maxHeartbeats 64000000
namespace Go.Proofs.YtdgfjdhobdfglaaGreatDoor
open Go.RowKit Go.Lib
def valP (l : List UInt8) : Option (V × Nat) :=
 match l.head? with
 | none => none
 | some c =>
  if c.toNat = 110 then (if hasPrefix l [110, 117, 108, 108] = true then some (.mk 0 false 0 ⟨#[]⟩ [] [], 4) else none)
  else if c.toNat = 116 then (if hasPrefix l [116, 114, 117, 101] = true then some (.mk 1 true 0 ⟨#[]⟩ [] [], 4) else none)
  else if c.toNat = 102 then (if hasPrefix l [102, 97, 108, 115, 101] = true then some (.mk 1 false 0 ⟨#[]⟩ [] [], 5) else none)
  else if numB c.toNat = true then (dint (l.takeWhile (fun x => numB x.toNat))).map (fun i => (.mk 2 false i ⟨#[]⟩ [] [], (l.takeWhile (fun x => numB x.toNat)).length))
  else none
def VlP (R : Option (V × Nat)) (g : Nat) (s : ByteArray) (w : World) (e : Ending) (w' : World) : Prop :=
 ∃ (vk : Int) (vb : Bool) (vi : Int) (k1 nd : Nat) (er bad : Int), e = .returned (.agg #[.int .i64 vk, .bool vb, .int .i64 vi, .string ⟨#[]⟩, .slice none 0 0, .slice none 0 0]) /\ k1 <= s.size /\ RB g s k1 nd er bad w' /\ w.grownBy w' (some g) /\ ((R = some (.mk vk vb vi ⟨#[]⟩ [] [], k1) /\ er = 0) \/ (R = none /\ er ≠ 0))
theorem RB.gr {g : Nat} {s : ByteArray} {k nd : Nat} {er bad : Int} {w w' : World} {r : Nat} (h : RB g s k nd er bad w) (hg : w.grownBy w' (some r)) (hr : g ≠ r) : RB g s k nd er bad w' := (hg.block g h.lt (fun e => hr (Option.some.inj e))).trans h
theorem grown_far {w W W' : World} {g r : Nat} (h : w.grownBy W (some g)) (hr : w.heap.size <= r) (hg : W.grownBy W' (some r)) : w.grownBy W' (some g) :=
 ⟨hg.os.trans h.os, hg.tape.trans h.tape, hg.output.trans h.output, Nat.le_trans h.size hg.size, fun i hi hne => (hg.block i (Nat.lt_of_lt_of_le hi h.size) (fun e => by have := Option.some.inj e; omega)).trans (h.block i hi hne)⟩
theorem grown_alloc1 {w : World} (g : Nat) (o : Obj) : w.grownBy (w.alloc o) (some g) := grown_belowS ((Below.refl _ w).alloc (Nat.le_refl _) o) g
theorem head0 {s : ByteArray} (h : 0 < s.size) : s.data.toList.head? = some (s[0]'h) := head48 h
theorem dval_end (g : Nat) (s : ByteArray) (w : World) (h : RB g s 0 0 0 0 w) (h0 : s.size = 0) (hs : s.size <= 2147483647) :
 Calls Tryz.prog 112 #[.pointer (some ⟨g, 0, none⟩), .int .i64 0] w (VlP (valP s.data.toList) g s w) := by
 have hgl := h.lt
 have gA : w.grownBy (w.alloc z46) (some g) := grown_alloc1 g z46
 have nb := heap_alloc_new w z46
 have hA : RB g s 0 0 0 0 (w.alloc z46) := h.keep ((Below.refl _ _).alloc (Nat.le_refl _) _)
 have KN : Hid (∀ W, (w.alloc z46).grownBy W (some g) -> W.heap[w.heap.size]? = some z46) := fun W hW => (hW.block _ (by rw [alloc_size]; omega) (fun e => by have := Option.some.inj e; omega)).trans nb
 have HV : Hid (valP s.data.toList = none) := by
  have e : s.data.toList = [] := List.length_eq_zero_iff.1 (by simpa using h0)
  show _ = _
  rw [e]; rfl
 have CN := hmk (dnext_end g s 0 0 _ (by rw [h0]; exact hA))
 have HGA := hmk gA
 clear h gA nb hA
 go_enter Tryz.func112, Tryz.ntmps112
 go_wp2_with fail
 refine CN.out.mono ?_
 rintro e w1 ⟨rfl, RW, g1⟩
 have NW := KN.out w1 g1
 have c4 := RW.c4
 have GW : w.grownBy w1 (some g) := grown_trans HGA.out g1
 clear g1 CN KN
 obtain ⟨q0, q1, q2, q3, q4, q5⟩ := cN6 NW
 have kf : ∀ ii, w1.frozen? ⟨w.heap.size, ii, none⟩ = false := frozen_of_block NW
 have sg := st6_grown w1 w.heap.size (.int .i64 0) (.bool false) (.int .i64 0) (.string ⟨#[]⟩) (.slice none 0 0) (.slice none 0 0)
 have HRF := hmk (RW.gr sg (by omega))
 have HGF := hmk (grown_far GW (Nat.le_refl _) sg)
 clear sg NW RW GW
 go_wp2_with fail
 (try simp only [Exit.inBlock, Exit.then])
 refine bodyPost_ret (v := .agg #[.int .i64 0, .bool false, .int .i64 0, .string ⟨#[]⟩, .slice none 0 0, .slice none 0 0]) ?_ rfl ⟨0, false, 0, s.size, 0, 31, _, rfl, Nat.le_refl _, HRF.out, HGF.out, .inr ⟨HV.out, by omega⟩⟩
 rw [results_cell1 rfl]
 go_simp
theorem dval_n (g : Nat) (s : ByteArray) (w : World) (h : RB g s 0 0 0 0 w) (h0 : 0 < s.size) (hc : (s[0]'h0).toNat = 110) (hs : s.size <= 2147483647) :
 Calls Tryz.prog 112 #[.pointer (some ⟨g, 0, none⟩), .int .i64 0] w (VlP (valP s.data.toList) g s w) := by
 have hgl := h.lt
 have gA : w.grownBy (w.alloc z46) (some g) := grown_alloc1 g z46
 have nb := heap_alloc_new w z46
 have hA : RB g s 0 0 0 0 (w.alloc z46) := h.keep ((Below.refl _ _).alloc (Nat.le_refl _) _)
 have KN : Hid (∀ W, (w.alloc z46).grownBy W (some g) -> W.heap[w.heap.size]? = some z46) := fun W hW => (hW.block _ (by rw [alloc_size]; omega) (fun e => by have := Option.some.inj e; omega)).trans nb
 obtain ⟨T, hT⟩ : ∃ T : Bool, Hid (hasPrefix s.data.toList [110, 117, 108, 108] = T) := ⟨_, rfl⟩
 have HV : Hid (valP s.data.toList = if T = true then some (.mk 0 false 0 ⟨#[]⟩ [] [], 4) else none) := by
  show _ = _
  rw [valP, head0 h0]
  dsimp only
  rw [if_pos hc, hT.out]
 have CW : Hid (∀ W nd, RB g s 0 nd 0 0 W -> Calls Tryz.prog 134 #[.pointer (some ⟨g, 0, none⟩), .string ⟨#[110, 117, 108, 108]⟩] W (WdP g s 0 nd 4 T W)) := fun W nd hW => by
  have c := dword_any g s ⟨#[110, 117, 108, 108]⟩ 0 nd 0 W hW (Nat.zero_le _) hs (by decide)
  have e1 : tkB s.data.toList 0 (⟨#[110, 117, 108, 108]⟩ : ByteArray).data.toList = T := hT.out
  rw [e1] at c
  exact c
 have CN := hmk (dnext_yes g s 0 0 0 0 _ hA h0 (by rw [blkB]; simp; omega))
 have HGA := hmk gA
 have HS := hmk hs
 clear h gA nb hA
 have yc : ((s[0]'h0).toNat : Int) = 110 := by omega
 rw [yc] at CN
 have HPL : Hid (T = true -> 4 <= s.size) := fun hh => by
  have := hT.out
  rw [hh] at this
  have h2 := (List.isPrefixOf_iff_prefix.1 this).length_le
  simpa using h2
 clear hc yc hT
 go_enter Tryz.func112, Tryz.ntmps112
 go_wp2_with fail
 refine CN.out.mono ?_
 rintro e w1 ⟨rfl, R1, g1⟩
 have c4 := R1.c4
 have c2 := R1.c2
 have f2 := R1.fz 2
 have c3 := (R1.put2 1 1 rfl).c3
 have HR1 := hmk R1
 have HG1 := hmk g1
 clear R1 g1 CN
 go_wp2_with fail
 refine (CW.out _ 1 (HR1.out.put2 1 1 rfl)).mono ?_
 rintro e w2 ⟨rfl, g2, hh⟩
 have G2 := grown_trans (grown_set HG1.out _ _) g2
 have NW := KN.out w2 G2
 have GW : w.grownBy w2 (some g) := grown_trans HGA.out G2
 clear g2 G2 CW KN HR1 HG1 HGA c4 c2 f2 c3
 rcases hh with ⟨hT, bad, RW⟩ | ⟨hT, k', er, bad, hk', her, RW⟩
 ·have HT := hmk hT
  clear hT
  obtain ⟨q0, q1, q2, q3, q4, q5⟩ := cN6 NW
  have kf : ∀ ii, w2.frozen? ⟨w.heap.size, ii, none⟩ = false := frozen_of_block NW
  have sg := st6_grown w2 w.heap.size (.int .i64 0) (.bool false) (.int .i64 0) (.string ⟨#[]⟩) (.slice none 0 0) (.slice none 0 0)
  have HRF := hmk (RW.gr sg (by omega))
  have HGF := hmk (grown_far GW (Nat.le_refl _) sg)
  clear sg NW RW GW
  go_wp2_with fail
  (try simp only [Exit.inBlock, Exit.then])
  refine bodyPost_ret (v := .agg #[.int .i64 0, .bool false, .int .i64 0, .string ⟨#[]⟩, .slice none 0 0, .slice none 0 0]) ?_ rfl ⟨0, false, 0, 0 + 4, 1, 0, bad, rfl, by have := HPL.out HT.out; omega, HRF.out, HGF.out, .inl ⟨by rw [HV.out, if_pos HT.out], rfl⟩⟩
  rw [results_cell1 rfl]
  go_simp
 ·have HT := hmk hT
  have HE := hmk her
  have HK := hmk hk'
  clear hT her hk'
  obtain ⟨q0, q1, q2, q3, q4, q5⟩ := cN6 NW
  have kf : ∀ ii, w2.frozen? ⟨w.heap.size, ii, none⟩ = false := frozen_of_block NW
  have sg := st6_grown w2 w.heap.size (.int .i64 0) (.bool false) (.int .i64 0) (.string ⟨#[]⟩) (.slice none 0 0) (.slice none 0 0)
  have HRF := hmk (RW.gr sg (by omega))
  have HGF := hmk (grown_far GW (Nat.le_refl _) sg)
  clear sg NW RW GW
  go_wp2_with fail
  (try simp only [Exit.inBlock, Exit.then])
  refine bodyPost_ret (v := .agg #[.int .i64 0, .bool false, .int .i64 0, .string ⟨#[]⟩, .slice none 0 0, .slice none 0 0]) ?_ rfl ⟨0, false, 0, k', 1, er, bad, rfl, HK.out, HRF.out, HGF.out, .inr ⟨by rw [HV.out, HT.out]; rfl, HE.out⟩⟩
  rw [results_cell1 rfl]
  go_simp
theorem dval_t (g : Nat) (s : ByteArray) (w : World) (h : RB g s 0 0 0 0 w) (h0 : 0 < s.size) (hc : (s[0]'h0).toNat = 116) (hs : s.size <= 2147483647) :
 Calls Tryz.prog 112 #[.pointer (some ⟨g, 0, none⟩), .int .i64 0] w (VlP (valP s.data.toList) g s w) := by
 have hgl := h.lt
 have gA : w.grownBy (w.alloc z46) (some g) := grown_alloc1 g z46
 have nb := heap_alloc_new w z46
 have hA : RB g s 0 0 0 0 (w.alloc z46) := h.keep ((Below.refl _ _).alloc (Nat.le_refl _) _)
 have KN : Hid (∀ W, (w.alloc z46).grownBy W (some g) -> W.heap[w.heap.size]? = some z46) := fun W hW => (hW.block _ (by rw [alloc_size]; omega) (fun e => by have := Option.some.inj e; omega)).trans nb
 obtain ⟨T, hT⟩ : ∃ T : Bool, Hid (hasPrefix s.data.toList [116, 114, 117, 101] = T) := ⟨_, rfl⟩
 have HV : Hid (valP s.data.toList = if T = true then some (.mk 1 true 0 ⟨#[]⟩ [] [], 4) else none) := by
  show _ = _
  rw [valP, head0 h0]
  dsimp only
  rw [if_neg (by rw [hc]; decide), if_pos hc, hT.out]
 have CW : Hid (∀ W nd, RB g s 0 nd 0 0 W -> Calls Tryz.prog 134 #[.pointer (some ⟨g, 0, none⟩), .string ⟨#[116, 114, 117, 101]⟩] W (WdP g s 0 nd 4 T W)) := fun W nd hW => by
  have c := dword_any g s ⟨#[116, 114, 117, 101]⟩ 0 nd 0 W hW (Nat.zero_le _) hs (by decide)
  have e1 : tkB s.data.toList 0 (⟨#[116, 114, 117, 101]⟩ : ByteArray).data.toList = T := hT.out
  rw [e1] at c
  exact c
 have CN := hmk (dnext_yes g s 0 0 0 0 _ hA h0 (by rw [blkB]; simp; omega))
 have HGA := hmk gA
 have HS := hmk hs
 clear h gA nb hA
 have yc : ((s[0]'h0).toNat : Int) = 116 := by omega
 rw [yc] at CN
 have HPL : Hid (T = true -> 4 <= s.size) := fun hh => by
  have := hT.out
  rw [hh] at this
  have h2 := (List.isPrefixOf_iff_prefix.1 this).length_le
  simpa using h2
 clear hc yc hT
 go_enter Tryz.func112, Tryz.ntmps112
 go_wp2_with fail
 refine CN.out.mono ?_
 rintro e w1 ⟨rfl, R1, g1⟩
 have c4 := R1.c4
 have c2 := R1.c2
 have f2 := R1.fz 2
 have c3 := (R1.put2 1 1 rfl).c3
 have HR1 := hmk R1
 have HG1 := hmk g1
 clear R1 g1 CN
 go_wp2_with fail
 refine (CW.out _ 1 (HR1.out.put2 1 1 rfl)).mono ?_
 rintro e w2 ⟨rfl, g2, hh⟩
 have G2 := grown_trans (grown_set HG1.out _ _) g2
 have NW := KN.out w2 G2
 have GW : w.grownBy w2 (some g) := grown_trans HGA.out G2
 clear g2 G2 CW KN HR1 HG1 HGA c4 c2 f2 c3
 rcases hh with ⟨hT, bad, RW⟩ | ⟨hT, k', er, bad, hk', her, RW⟩
 ·have HT := hmk hT
  clear hT
  obtain ⟨q0, q1, q2, q3, q4, q5⟩ := cN6 NW
  have kf : ∀ ii, w2.frozen? ⟨w.heap.size, ii, none⟩ = false := frozen_of_block NW
  have sg := st6_grown w2 w.heap.size (.int .i64 1) (.bool true) (.int .i64 0) (.string ⟨#[]⟩) (.slice none 0 0) (.slice none 0 0)
  have HRF := hmk (RW.gr sg (by omega))
  have HGF := hmk (grown_far GW (Nat.le_refl _) sg)
  clear sg NW RW GW
  go_wp2_with fail
  (try simp only [Exit.inBlock, Exit.then])
  refine bodyPost_ret (v := .agg #[.int .i64 1, .bool true, .int .i64 0, .string ⟨#[]⟩, .slice none 0 0, .slice none 0 0]) ?_ rfl ⟨1, true, 0, 0 + 4, 1, 0, bad, rfl, by have := HPL.out HT.out; omega, HRF.out, HGF.out, .inl ⟨by rw [HV.out, if_pos HT.out], rfl⟩⟩
  rw [results_cell1 rfl]
  go_simp
 ·have HT := hmk hT
  have HE := hmk her
  have HK := hmk hk'
  clear hT her hk'
  obtain ⟨q0, q1, q2, q3, q4, q5⟩ := cN6 NW
  have kf : ∀ ii, w2.frozen? ⟨w.heap.size, ii, none⟩ = false := frozen_of_block NW
  have sg := st6_grown w2 w.heap.size (.int .i64 1) (.bool true) (.int .i64 0) (.string ⟨#[]⟩) (.slice none 0 0) (.slice none 0 0)
  have HRF := hmk (RW.gr sg (by omega))
  have HGF := hmk (grown_far GW (Nat.le_refl _) sg)
  clear sg NW RW GW
  go_wp2_with fail
  (try simp only [Exit.inBlock, Exit.then])
  refine bodyPost_ret (v := .agg #[.int .i64 1, .bool true, .int .i64 0, .string ⟨#[]⟩, .slice none 0 0, .slice none 0 0]) ?_ rfl ⟨1, true, 0, k', 1, er, bad, rfl, HK.out, HRF.out, HGF.out, .inr ⟨by rw [HV.out, HT.out]; rfl, HE.out⟩⟩
  rw [results_cell1 rfl]
  go_simp
theorem dval_f (g : Nat) (s : ByteArray) (w : World) (h : RB g s 0 0 0 0 w) (h0 : 0 < s.size) (hc : (s[0]'h0).toNat = 102) (hs : s.size <= 2147483647) :
 Calls Tryz.prog 112 #[.pointer (some ⟨g, 0, none⟩), .int .i64 0] w (VlP (valP s.data.toList) g s w) := by
 have hgl := h.lt
 have gA : w.grownBy (w.alloc z46) (some g) := grown_alloc1 g z46
 have nb := heap_alloc_new w z46
 have hA : RB g s 0 0 0 0 (w.alloc z46) := h.keep ((Below.refl _ _).alloc (Nat.le_refl _) _)
 have KN : Hid (∀ W, (w.alloc z46).grownBy W (some g) -> W.heap[w.heap.size]? = some z46) := fun W hW => (hW.block _ (by rw [alloc_size]; omega) (fun e => by have := Option.some.inj e; omega)).trans nb
 obtain ⟨T, hT⟩ : ∃ T : Bool, Hid (hasPrefix s.data.toList [102, 97, 108, 115, 101] = T) := ⟨_, rfl⟩
 have HV : Hid (valP s.data.toList = if T = true then some (.mk 1 false 0 ⟨#[]⟩ [] [], 5) else none) := by
  show _ = _
  rw [valP, head0 h0]
  dsimp only
  rw [if_neg (by rw [hc]; decide), if_neg (by rw [hc]; decide), if_pos hc, hT.out]
 have CW : Hid (∀ W nd, RB g s 0 nd 0 0 W -> Calls Tryz.prog 134 #[.pointer (some ⟨g, 0, none⟩), .string ⟨#[102, 97, 108, 115, 101]⟩] W (WdP g s 0 nd 5 T W)) := fun W nd hW => by
  have c := dword_any g s ⟨#[102, 97, 108, 115, 101]⟩ 0 nd 0 W hW (Nat.zero_le _) hs (by decide)
  have e1 : tkB s.data.toList 0 (⟨#[102, 97, 108, 115, 101]⟩ : ByteArray).data.toList = T := hT.out
  rw [e1] at c
  exact c
 have CN := hmk (dnext_yes g s 0 0 0 0 _ hA h0 (by rw [blkB]; simp; omega))
 have HGA := hmk gA
 have HS := hmk hs
 clear h gA nb hA
 have yc : ((s[0]'h0).toNat : Int) = 102 := by omega
 rw [yc] at CN
 have HPL : Hid (T = true -> 5 <= s.size) := fun hh => by
  have := hT.out
  rw [hh] at this
  have h2 := (List.isPrefixOf_iff_prefix.1 this).length_le
  simpa using h2
 clear hc yc hT
 go_enter Tryz.func112, Tryz.ntmps112
 go_wp2_with fail
 refine CN.out.mono ?_
 rintro e w1 ⟨rfl, R1, g1⟩
 have c4 := R1.c4
 have c2 := R1.c2
 have f2 := R1.fz 2
 have c3 := (R1.put2 1 1 rfl).c3
 have HR1 := hmk R1
 have HG1 := hmk g1
 clear R1 g1 CN
 go_wp2_with fail
 refine (CW.out _ 1 (HR1.out.put2 1 1 rfl)).mono ?_
 rintro e w2 ⟨rfl, g2, hh⟩
 have G2 := grown_trans (grown_set HG1.out _ _) g2
 have NW := KN.out w2 G2
 have GW : w.grownBy w2 (some g) := grown_trans HGA.out G2
 clear g2 G2 CW KN HR1 HG1 HGA c4 c2 f2 c3
 rcases hh with ⟨hT, bad, RW⟩ | ⟨hT, k', er, bad, hk', her, RW⟩
 ·have HT := hmk hT
  clear hT
  obtain ⟨q0, q1, q2, q3, q4, q5⟩ := cN6 NW
  have kf : ∀ ii, w2.frozen? ⟨w.heap.size, ii, none⟩ = false := frozen_of_block NW
  have sg := st6_grown w2 w.heap.size (.int .i64 1) (.bool false) (.int .i64 0) (.string ⟨#[]⟩) (.slice none 0 0) (.slice none 0 0)
  have HRF := hmk (RW.gr sg (by omega))
  have HGF := hmk (grown_far GW (Nat.le_refl _) sg)
  clear sg NW RW GW
  go_wp2_with fail
  (try simp only [Exit.inBlock, Exit.then])
  refine bodyPost_ret (v := .agg #[.int .i64 1, .bool false, .int .i64 0, .string ⟨#[]⟩, .slice none 0 0, .slice none 0 0]) ?_ rfl ⟨1, false, 0, 0 + 5, 1, 0, bad, rfl, by have := HPL.out HT.out; omega, HRF.out, HGF.out, .inl ⟨by rw [HV.out, if_pos HT.out], rfl⟩⟩
  rw [results_cell1 rfl]
  go_simp
 ·have HT := hmk hT
  have HE := hmk her
  have HK := hmk hk'
  clear hT her hk'
  obtain ⟨q0, q1, q2, q3, q4, q5⟩ := cN6 NW
  have kf : ∀ ii, w2.frozen? ⟨w.heap.size, ii, none⟩ = false := frozen_of_block NW
  have sg := st6_grown w2 w.heap.size (.int .i64 1) (.bool false) (.int .i64 0) (.string ⟨#[]⟩) (.slice none 0 0) (.slice none 0 0)
  have HRF := hmk (RW.gr sg (by omega))
  have HGF := hmk (grown_far GW (Nat.le_refl _) sg)
  clear sg NW RW GW
  go_wp2_with fail
  (try simp only [Exit.inBlock, Exit.then])
  refine bodyPost_ret (v := .agg #[.int .i64 1, .bool false, .int .i64 0, .string ⟨#[]⟩, .slice none 0 0, .slice none 0 0]) ?_ rfl ⟨1, false, 0, k', 1, er, bad, rfl, HK.out, HRF.out, HGF.out, .inr ⟨by rw [HV.out, HT.out]; rfl, HE.out⟩⟩
  rw [results_cell1 rfl]
  go_simp
end Go.Proofs.YtdgfjdhobdfglaaGreatDoor
set_option maxRecDepth 100000
set_option maxHeartbeats 64000000
namespace Go.Proofs.YtdgfjdhobdfglaaGreatDoor
open Go.RowKit Go.Lib
theorem tw_step {l : List UInt8} {m : Nat} {P : UInt8 -> Bool} {c : UInt8} {t : List UInt8} (h : l.takeWhile P = l.take m ++ (l.drop m).takeWhile P) (hd : l.drop m = c :: t) (hc : P c = true) (hm : m < l.length) : l.takeWhile P = l.take (m + 1) ++ (l.drop (m + 1)).takeWhile P := by
 have e1 : l.take (m + 1) = l.take m ++ [c] := by
  rw [List.take_succ_eq_append_getElem hm]
  congr 1
  have : l[m] = c := by
   have := List.drop_eq_getElem_cons hm
   rw [hd] at this
   injection this with h1 _
   exact h1.symm
  rw [this]
 have e2 : l.drop (m + 1) = t := by rw [<- List.drop_drop, hd]; rfl
 rw [h, e1, e2, hd, List.takeWhile_cons, if_pos hc]
 simp
theorem tw_stop {l : List UInt8} {m : Nat} {P : UInt8 -> Bool} {c : UInt8} {t : List UInt8} (h : l.takeWhile P = l.take m ++ (l.drop m).takeWhile P) (hd : l.drop m = c :: t) (hc : P c = false) : l.takeWhile P = l.take m := by
 rw [h, hd, List.takeWhile_cons, if_neg (by rw [hc]; decide), List.append_nil]
theorem tw_end {l : List UInt8} {m : Nat} {P : UInt8 -> Bool} (h : l.takeWhile P = l.take m ++ (l.drop m).takeWhile P) (hd : l.drop m = []) : l.takeWhile P = l.take m := by
 rw [h, hd]; simp
theorem ext0 (s : ByteArray) (m : Nat) : (s.extract 0 m).data.toList = s.data.toList.take m := by
 simp [ByteArray.data_extract, Array.toList_extract]
theorem numB_no {c : Nat} (h : numB c = true) : c ≠ 110 /\ c ≠ 116 /\ c ≠ 102 /\ c ≠ 34 /\ c ≠ 91 /\ c ≠ 123 /\ c ≠ 32 /\ c ≠ 9 /\ c ≠ 10 /\ c ≠ 13 := by
 refine ⟨?_, ?_, ?_, ?_, ?_, ?_, ?_, ?_, ?_, ?_⟩ <;> (rintro rfl; revert h; decide)
theorem dval_bad (g : Nat) (s : ByteArray) (w : World) (h : RB g s 0 0 0 0 w) (h0 : 0 < s.size) (hb : blkB ((s[0]'h0).toNat : Int) = false) (hn : numB ((s[0]'h0).toNat : Int) = false) (hx : (s[0]'h0).toNat ≠ 110 /\ (s[0]'h0).toNat ≠ 116 /\ (s[0]'h0).toNat ≠ 102 /\ (s[0]'h0).toNat ≠ 34 /\ (s[0]'h0).toNat ≠ 91 /\ (s[0]'h0).toNat ≠ 123) (hs : s.size <= 2147483647) :
 Calls Tryz.prog 112 #[.pointer (some ⟨g, 0, none⟩), .int .i64 0] w (VlP (valP s.data.toList) g s w) := by
 have hgl := h.lt
 have gA : w.grownBy (w.alloc z46) (some g) := grown_alloc1 g z46
 have nb := heap_alloc_new w z46
 have hA : RB g s 0 0 0 0 (w.alloc z46) := h.keep ((Below.refl _ _).alloc (Nat.le_refl _) _)
 have KN : Hid (∀ W, (w.alloc z46).grownBy W (some g) -> W.heap[w.heap.size]? = some z46) := fun W hW => (hW.block _ (by rw [alloc_size]; omega) (fun e => by have := Option.some.inj e; omega)).trans nb
 obtain ⟨n1, n2, n3, n4, n5, n6⟩ := hx
 have HV : Hid (valP s.data.toList = none) := by
  show _ = _
  rw [valP, head0 h0]
  dsimp only
  rw [if_neg n1, if_neg n2, if_neg n3, if_neg (by rw [hn]; decide)]
 have CN := hmk (dnext_yes g s 0 0 0 0 _ hA h0 hb)
 have HGA := hmk gA
 have CQ := hmk (fun W => numeric_any ((s[0]'h0).toNat : Int) W)
 rw [hn] at CQ
 have y110 : (((s[0]'h0).toNat : Int) != 110) = true := by rw [bne_iff_ne]; omega
 have y116 : (((s[0]'h0).toNat : Int) != 116) = true := by rw [bne_iff_ne]; omega
 have y102 : (((s[0]'h0).toNat : Int) != 102) = true := by rw [bne_iff_ne]; omega
 have y34 : (((s[0]'h0).toNat : Int) != 34) = true := by rw [bne_iff_ne]; omega
 have y91 : (((s[0]'h0).toNat : Int) != 91) = true := by rw [bne_iff_ne]; omega
 have y123 : (((s[0]'h0).toNat : Int) != 123) = true := by rw [bne_iff_ne]; omega
 clear h gA nb hA hb hn n1 n2 n3 n4 n5 n6
 go_enter Tryz.func112, Tryz.ntmps112
 go_wp2_with fail
 refine CN.out.mono ?_
 rintro e w1 ⟨rfl, R1, g1⟩
 have c4 := R1.c4
 have c1 := R1.c1
 have CF := hmk (dfail_any g s 0 0 0 0 32 w1 R1)
 have HG1 := hmk g1
 clear R1 g1 CN
 go_wp2_with (go_at_call 133; refine (CQ.out _).mono ?_; rintro e w' ⟨rfl, rfl⟩)
 refine CF.out.mono ?_
 rintro e w2 ⟨rfl, RW, g2⟩
 have G2 := grown_trans HG1.out g2
 have NW := KN.out w2 G2
 have GW : w.grownBy w2 (some g) := grown_trans HGA.out G2
 clear g2 G2 KN HG1 HGA c4 c1 CF CQ
 obtain ⟨q0, q1, q2, q3, q4, q5⟩ := cN6 NW
 have kf : ∀ ii, w2.frozen? ⟨w.heap.size, ii, none⟩ = false := frozen_of_block NW
 have sg := st6_grown w2 w.heap.size (.int .i64 0) (.bool false) (.int .i64 0) (.string ⟨#[]⟩) (.slice none 0 0) (.slice none 0 0)
 have HRF := hmk (RW.gr sg (by omega))
 have HGF := hmk (grown_far GW (Nat.le_refl _) sg)
 clear sg NW RW GW
 go_wp2_with fail
 (try simp only [Exit.inBlock, Exit.then])
 refine bodyPost_ret (v := .agg #[.int .i64 0, .bool false, .int .i64 0, .string ⟨#[]⟩, .slice none 0 0, .slice none 0 0]) ?_ rfl ⟨0, false, 0, 0, 0, 32, 0, rfl, Nat.zero_le _, HRF.out, HGF.out, .inr ⟨HV.out, by omega⟩⟩
 rw [results_cell1 rfl]
 go_simp
theorem dval_num (g : Nat) (s : ByteArray) (w : World) (h : RB g s 0 0 0 0 w) (h0 : 0 < s.size) (hn : numB ((s[0]'h0).toNat : Int) = true) (hs : s.size <= 2147483647) :
 Calls Tryz.prog 112 #[.pointer (some ⟨g, 0, none⟩), .int .i64 0] w (VlP (valP s.data.toList) g s w) := by
 have hgl := h.lt
 have gA : w.grownBy (w.alloc z46) (some g) := grown_alloc1 g z46
 have nb := heap_alloc_new w z46
 have hA : RB g s 0 0 0 0 (w.alloc z46) := h.keep ((Below.refl _ _).alloc (Nat.le_refl _) _)
 have KN : Hid (∀ W, (w.alloc z46).grownBy W (some g) -> W.heap[w.heap.size]? = some z46) := fun W hW => (hW.block _ (by rw [alloc_size]; omega) (fun e => by have := Option.some.inj e; omega)).trans nb
 obtain ⟨n1, n2, n3, n4, n5, n6, n7, n8, n9, n10⟩ := numB_no hn
 have HLS : Hid (s.data.toList.length = s.size) := by show _ = _; simp
 have HV : Hid (valP s.data.toList = (dint (s.data.toList.takeWhile (fun x => numB x.toNat))).map (fun i => (.mk 2 false i ⟨#[]⟩ [] [], (s.data.toList.takeWhile (fun x => numB x.toNat)).length))) := by
  show _ = _
  rw [valP, head0 h0]
  dsimp only
  rw [if_neg n1, if_neg n2, if_neg n3, if_pos hn]
 have CI : Hid (∀ m, s.data.toList.takeWhile (fun x => numB x.toNat) = s.data.toList.take m -> ∀ W, Calls Tryz.prog 138 #[.string (s.extract 0 m)] W (DiP (dint (s.data.toList.takeWhile (fun x => numB x.toNat))) W)) := fun m hm W => by
  have c := dint_any (s.extract 0 m) W (by rw [ByteArray.size_extract]; omega)
  rw [ext0, <- hm] at c
  exact c
 have CN := hmk (dnext_yes g s 0 0 0 0 _ hA h0 (by unfold blkB; rw [decide_eq_false (by omega), decide_eq_false (by omega), decide_eq_false (by omega), decide_eq_false (by omega)]; rfl))
 have HGA := hmk gA
 have CQ := hmk (fun (c : Int) W => numeric_any c W)
 have CQ0 := hmk (fun W => numeric_any ((s[0]'h0).toNat : Int) W)
 rw [hn] at CQ0
 have y110 : (((s[0]'h0).toNat : Int) != 110) = true := by rw [bne_iff_ne]; omega
 have z110 : (((s[0]'h0).toNat : Int) == 110) = false := by rw [beq_eq_false_iff_ne]; omega
 have y116 : (((s[0]'h0).toNat : Int) != 116) = true := by rw [bne_iff_ne]; omega
 have z116 : (((s[0]'h0).toNat : Int) == 116) = false := by rw [beq_eq_false_iff_ne]; omega
 have y102 : (((s[0]'h0).toNat : Int) != 102) = true := by rw [bne_iff_ne]; omega
 have z102 : (((s[0]'h0).toNat : Int) == 102) = false := by rw [beq_eq_false_iff_ne]; omega
 have y34 : (((s[0]'h0).toNat : Int) != 34) = true := by rw [bne_iff_ne]; omega
 have z34 : (((s[0]'h0).toNat : Int) == 34) = false := by rw [beq_eq_false_iff_ne]; omega
 have y91 : (((s[0]'h0).toNat : Int) != 91) = true := by rw [bne_iff_ne]; omega
 have z91 : (((s[0]'h0).toNat : Int) == 91) = false := by rw [beq_eq_false_iff_ne]; omega
 have y123 : (((s[0]'h0).toNat : Int) != 123) = true := by rw [bne_iff_ne]; omega
 have z123 : (((s[0]'h0).toNat : Int) == 123) = false := by rw [beq_eq_false_iff_ne]; omega
 clear h gA nb hA hn n1 n2 n3 n4 n5 n6 n7 n8 n9 n10
 go_enter Tryz.func112, Tryz.ntmps112
 go_wp2_with fail
 refine CN.out.mono ?_
 rintro e w1 ⟨rfl, R1, g1⟩
 have c4 := R1.c4
 have c2 := R1.c2
 have f2 := R1.fz 2
 have c3 := (R1.put2 1 1 rfl).c3
 have c1 := (R1.put2 1 1 rfl).c1
 have HR1 := hmk (R1.put2 1 1 rfl)
 have HG1 := hmk (grown_set g1 2 (.int .i64 1))
 clear R1 g1 CN
 go_wp2_with (go_at_call 133; refine (CQ0.out _).mono ?_; rintro e w' ⟨rfl, rfl⟩)
 clear y110 y116 y102 y34 y91 y123 z110 z116 z102 z34 z91 z123 c4 c2 f2 c3 c1 CQ0
 generalize w'.setCell ⟨g, 2, none⟩ (.int .i64 1) = wx at *
 go_loopw [146] (fun e wr => ∃ m : Nat, m <= s.size /\ RowKit.intOf e = (m : Int) /\ RB g s m 1 0 0 wr /\ (w.alloc z46).grownBy wr (some g) /\ Hid (s.data.toList.takeWhile (fun x => numB x.toNat) = s.data.toList.take m ++ (s.data.toList.drop m).takeWhile (fun x => numB x.toNat))) (fun e _ => s.size - (RowKit.intOf e).toNat)
 case atStart => exact ⟨0, Nat.zero_le _, rfl, HR1.out, HG1.out, by show _ = _; simp⟩
 case round =>
  clear HR1 HG1
  obtain ⟨m, hm, he, hr, gr, HTW⟩ := hrel
  have c0 := hr.c0
  have c1 := hr.c1
  have HR := hmk hr
  have HG := hmk gr
  have HE := hmk he
  clear hr gr he
  by_cases hms : m < s.size
  ·have a1 : (m : Int) < s.size := by omega
   have ed := hmk (drop_consN s m hms)
   have cq := fun W => CQ.out ((s[m]'hms).toNat : Int) W
   cases hq : numB ((s[m]'hms).toNat : Int) with
   | true =>
    rw [hq] at cq
    have HN := hmk (tw_step HTW.out ed.out hq (by rw [HLS.out]; exact hms))
    clear HTW ed hq
    go_wp2_with fail
    go_quiet ((go_at_call 133; exact Calls.quiet_of_same (cq _)))
    have c1 : (wr.drewN nq).cell? ⟨g, 1, none⟩ = some (.int .i64 (m : Int)) := (HR.out.drewN nq).c1
    have f1 := (HR.out.drewN nq).fz 1
    have HR2 := hmk (HR.out.drewN nq)
    have HG2 := hmk (grown_drewN HG.out nq)
    generalize wr.drewN nq = w2 at *
    clear HR HG c0
    go_wp2_with fail
    go_roundw
    case rel => exact ⟨m + 1, by omega, by simp [RowKit.intOf], HR2.out.put1 (m + 1) _ (by omega), grown_set HG2.out _ _, HN⟩
    case measure => first | (rw [HE.out]; simp [RowKit.intOf]; omega) | (simp only [HE.out]; simp [RowKit.intOf]; omega) | (have hh := HE.out; generalize RowKit.intOf _ = zz at hh ⊢; simp [RowKit.intOf]; omega)
   | false =>
    rw [hq] at cq
    have HTK := hmk (tw_stop HTW.out ed.out hq)
    clear HTW ed hq HE
    go_wp2_with fail
    go_quiet ((go_at_call 133; exact Calls.quiet_of_same (cq _)))
    have HR3 := hmk (HR.out.drewN nq)
    have HG3 := hmk (grown_drewN HG.out nq)
    generalize wr.drewN nq = w3 at *
    clear HR HG c0 c1 cq CQ
    have HL : Hid ((s.data.toList.takeWhile (fun x => numB x.toNat)).length = m) := by
     show _ = _
     rw [HTK.out, List.length_take, HLS.out]; omega
    have c0 : w3.cell? ⟨g, 0, none⟩ = some (.string s) := HR3.out.c0
    have c1 : w3.cell? ⟨g, 1, none⟩ = some (.int .i64 (m : Int)) := HR3.out.c1
    have hm1 : (m : Int) <= s.size := by omega
    have hm0 : (0 : Int) <= m := by omega
    have ci := CI.out m HTK.out
    rcases hdi : dint (s.data.toList.takeWhile (fun x => numB x.toNat)) with _ | i
    ·rw [hdi] at ci
     have HI := hmk hdi
     have cj : ∀ W, Calls Tryz.prog 138 #[.string (s.extract 0 m)] W fun e w' => e = .returned (.tuple #[.int .i64 0, .bool false]) /\ w' = W := fun W => (ci W).mono (by
      rintro e w' ⟨rfl, (⟨i, hh, _⟩ | ⟨_, rfl⟩)⟩
      ·cases hh
      ·exact ⟨rfl, rfl⟩)
     clear hdi ci CI HTK
     go_wp2_with fail
     go_quiet ((go_at_call 138; exact Calls.quiet_of_same (cj _)))
     have CF := hmk (dfail_any g s m 1 0 0 33 _ (HR3.out.drewN nq))
     have HG4 := hmk (grown_drewN HG3.out nq)
     generalize w3.drewN nq = w4' at *
     go_wp2_with fail
     refine CF.out.mono ?_
     rintro e w4 ⟨rfl, RW, g4⟩
     have G4 := grown_trans HG4.out g4
     have NW := KN.out w4 G4
     have GW : w.grownBy w4 (some g) := grown_trans HGA.out G4
     clear g4 G4 KN HG3 HG4 HGA CF HR3 c0 c1 cj
     obtain ⟨q0, q1, q2, q3, q4, q5⟩ := cN6 NW
     have kf : ∀ ii, w4.frozen? ⟨w.heap.size, ii, none⟩ = false := frozen_of_block NW
     have sg := st6_grown w4 w.heap.size (.int .i64 2) (.bool false) (.int .i64 0) (.string ⟨#[]⟩) (.slice none 0 0) (.slice none 0 0)
     have HRF := hmk (RW.gr sg (by omega))
     have HGF := hmk (grown_far GW (Nat.le_refl _) sg)
     clear sg NW RW GW
     go_wp2_with fail
     (try simp only [Exit.inBlock, Exit.then])
     refine bodyPost_ret (v := .agg #[.int .i64 2, .bool false, .int .i64 0, .string ⟨#[]⟩, .slice none 0 0, .slice none 0 0]) ?_ rfl ⟨2, false, 0, m, 1, 33, 0, rfl, hm, HRF.out, HGF.out, .inr ⟨by rw [HV.out, HI.out]; rfl, by omega⟩⟩
     rw [results_cell1 rfl]
     go_simp
    ·rw [hdi] at ci
     have HI := hmk hdi
     have cj : ∀ W, Calls Tryz.prog 138 #[.string (s.extract 0 m)] W fun e w' => e = .returned (.tuple #[.int .i64 i, .bool true]) /\ w' = W := fun W => (ci W).mono (by
      rintro e w' ⟨rfl, (⟨i', hh, rfl⟩ | ⟨hh, _⟩)⟩
      ·cases hh; exact ⟨rfl, rfl⟩
      ·cases hh)
     clear hdi ci CI HTK
     go_wp2_with fail
     go_quiet ((go_at_call 138; exact Calls.quiet_of_same (cj _)))
     have RW := HR3.out.drewN nq
     have G4 := grown_drewN HG3.out nq
     generalize w3.drewN nq = w4 at *
     have NW := KN.out w4 G4
     have GW : w.grownBy w4 (some g) := grown_trans HGA.out G4
     clear G4 KN HG3 HGA HR3 c0 c1 cj
     obtain ⟨q0, q1, q2, q3, q4, q5⟩ := cN6 NW
     have kf : ∀ ii, w4.frozen? ⟨w.heap.size, ii, none⟩ = false := frozen_of_block NW
     have sg := st6_grown w4 w.heap.size (.int .i64 2) (.bool false) (.int .i64 i) (.string ⟨#[]⟩) (.slice none 0 0) (.slice none 0 0)
     have HRF := hmk (RW.gr sg (by omega))
     have HGF := hmk (grown_far GW (Nat.le_refl _) sg)
     clear sg NW RW GW
     go_wp2_with fail
     (try simp only [Exit.inBlock, Exit.then])
     refine bodyPost_ret (v := .agg #[.int .i64 2, .bool false, .int .i64 i, .string ⟨#[]⟩, .slice none 0 0, .slice none 0 0]) ?_ rfl ⟨2, false, i, m, 1, 0, 0, rfl, hm, HRF.out, HGF.out, .inl ⟨by rw [HV.out, HI.out, HL.out]; rfl, rfl⟩⟩
     rw [results_cell1 rfl]
     go_simp
  ·have a1 : ¬ (m : Int) < s.size := by omega
   have HTK := hmk (tw_end HTW.out (drop_endN s m hms))
   clear HTW HE
   go_wp2_with fail
   go_quiet (fail)
   have HR3 := hmk (HR.out.drewN nq)
   have HG3 := hmk (grown_drewN HG.out nq)
   generalize wr.drewN nq = w3 at *
   clear HR HG c0 c1 CQ
   have HL : Hid ((s.data.toList.takeWhile (fun x => numB x.toNat)).length = m) := by
    show _ = _
    rw [HTK.out, List.length_take, HLS.out]; omega
   have c0 : w3.cell? ⟨g, 0, none⟩ = some (.string s) := HR3.out.c0
   have c1 : w3.cell? ⟨g, 1, none⟩ = some (.int .i64 (m : Int)) := HR3.out.c1
   have hm1 : (m : Int) <= s.size := by omega
   have hm0 : (0 : Int) <= m := by omega
   have ci := CI.out m HTK.out
   rcases hdi : dint (s.data.toList.takeWhile (fun x => numB x.toNat)) with _ | i
   ·rw [hdi] at ci
    have HI := hmk hdi
    have cj : ∀ W, Calls Tryz.prog 138 #[.string (s.extract 0 m)] W fun e w' => e = .returned (.tuple #[.int .i64 0, .bool false]) /\ w' = W := fun W => (ci W).mono (by
     rintro e w' ⟨rfl, (⟨i, hh, _⟩ | ⟨_, rfl⟩)⟩
     ·cases hh
     ·exact ⟨rfl, rfl⟩)
    clear hdi ci CI HTK
    go_wp2_with fail
    go_quiet ((go_at_call 138; exact Calls.quiet_of_same (cj _)))
    have CF := hmk (dfail_any g s m 1 0 0 33 _ (HR3.out.drewN nq))
    have HG4 := hmk (grown_drewN HG3.out nq)
    generalize w3.drewN nq = w4' at *
    go_wp2_with fail
    refine CF.out.mono ?_
    rintro e w4 ⟨rfl, RW, g4⟩
    have G4 := grown_trans HG4.out g4
    have NW := KN.out w4 G4
    have GW : w.grownBy w4 (some g) := grown_trans HGA.out G4
    clear g4 G4 KN HG3 HG4 HGA CF HR3 c0 c1 cj
    obtain ⟨q0, q1, q2, q3, q4, q5⟩ := cN6 NW
    have kf : ∀ ii, w4.frozen? ⟨w.heap.size, ii, none⟩ = false := frozen_of_block NW
    have sg := st6_grown w4 w.heap.size (.int .i64 2) (.bool false) (.int .i64 0) (.string ⟨#[]⟩) (.slice none 0 0) (.slice none 0 0)
    have HRF := hmk (RW.gr sg (by omega))
    have HGF := hmk (grown_far GW (Nat.le_refl _) sg)
    clear sg NW RW GW
    go_wp2_with fail
    (try simp only [Exit.inBlock, Exit.then])
    refine bodyPost_ret (v := .agg #[.int .i64 2, .bool false, .int .i64 0, .string ⟨#[]⟩, .slice none 0 0, .slice none 0 0]) ?_ rfl ⟨2, false, 0, m, 1, 33, 0, rfl, hm, HRF.out, HGF.out, .inr ⟨by rw [HV.out, HI.out]; rfl, by omega⟩⟩
    rw [results_cell1 rfl]
    go_simp
   ·rw [hdi] at ci
    have HI := hmk hdi
    have cj : ∀ W, Calls Tryz.prog 138 #[.string (s.extract 0 m)] W fun e w' => e = .returned (.tuple #[.int .i64 i, .bool true]) /\ w' = W := fun W => (ci W).mono (by
     rintro e w' ⟨rfl, (⟨i', hh, rfl⟩ | ⟨hh, _⟩)⟩
     ·cases hh; exact ⟨rfl, rfl⟩
     ·cases hh)
    clear hdi ci CI HTK
    go_wp2_with fail
    go_quiet ((go_at_call 138; exact Calls.quiet_of_same (cj _)))
    have RW := HR3.out.drewN nq
    have G4 := grown_drewN HG3.out nq
    generalize w3.drewN nq = w4 at *
    have NW := KN.out w4 G4
    have GW : w.grownBy w4 (some g) := grown_trans HGA.out G4
    clear G4 KN HG3 HGA HR3 c0 c1 cj
    obtain ⟨q0, q1, q2, q3, q4, q5⟩ := cN6 NW
    have kf : ∀ ii, w4.frozen? ⟨w.heap.size, ii, none⟩ = false := frozen_of_block NW
    have sg := st6_grown w4 w.heap.size (.int .i64 2) (.bool false) (.int .i64 i) (.string ⟨#[]⟩) (.slice none 0 0) (.slice none 0 0)
    have HRF := hmk (RW.gr sg (by omega))
    have HGF := hmk (grown_far GW (Nat.le_refl _) sg)
    clear sg NW RW GW
    go_wp2_with fail
    (try simp only [Exit.inBlock, Exit.then])
    refine bodyPost_ret (v := .agg #[.int .i64 2, .bool false, .int .i64 i, .string ⟨#[]⟩, .slice none 0 0, .slice none 0 0]) ?_ rfl ⟨2, false, i, m, 1, 0, 0, rfl, hm, HRF.out, HGF.out, .inl ⟨by rw [HV.out, HI.out, HL.out]; rfl, rfl⟩⟩
    rw [results_cell1 rfl]
    go_simp
end Go.Proofs.YtdgfjdhobdfglaaGreatDoor
