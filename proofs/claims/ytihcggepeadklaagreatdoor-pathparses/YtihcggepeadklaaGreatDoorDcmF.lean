import Derived.Test.YtihcggepeadklaaGreatDoorDcmE
/- The document's value of a word. -/
set_option linter.unusedSimpArgs false
set_option linter.unusedVariables false
namespace Go.Proofs.YtihcggepeadklaaGreatDoor
open Go.RowKit Go.Lib
/-- what is read at the front of a text without quotes and brackets, and how long it is -/
def valP (l : List UInt8) : Option (V × Nat) :=
  match l.head? with
  | none => none
  | some c =>
    if c.toNat = 110 then (if hasPrefix l [110, 117, 108, 108] = true then some (.mk 0 false 0 ⟨#[]⟩ [] [], 4) else none)
    else if c.toNat = 116 then (if hasPrefix l [116, 114, 117, 101] = true then some (.mk 1 true 0 ⟨#[]⟩ [] [], 4) else none)
    else if c.toNat = 102 then (if hasPrefix l [102, 97, 108, 115, 101] = true then some (.mk 1 false 0 ⟨#[]⟩ [] [], 5) else none)
    else if numB c.toNat = true then (dint (l.takeWhile (fun x => numB x.toNat))).map (fun i => (.mk 2 false i ⟨#[]⟩ [] [], (l.takeWhile (fun x => numB x.toNat)).length))
    else none
def VlP (R : Option (V × Nat)) (g : Nat) (s : ByteArray) (w : World) (e : Ending) (w' : World) : Prop :=
  ∃ (vk : Int) (vb : Bool) (vi : Int) (k1 nd : Nat) (er bad : Int), e = .returned (.agg #[.int .i64 vk, .bool vb, .int .i64 vi, .string ⟨#[]⟩, .slice none 0 0, .slice none 0 0]) ∧ k1 ≤ s.size ∧ RB g s k1 nd er bad w' ∧ w.grownBy w' (some g) ∧ ((R = some (.mk vk vb vi ⟨#[]⟩ [] [], k1) ∧ er = 0) ∨ (R = none ∧ er ≠ 0))
theorem RB.gr {g : Nat} {s : ByteArray} {k nd : Nat} {er bad : Int} {w w' : World} {r : Nat} (h : RB g s k nd er bad w) (hg : w.grownBy w' (some r)) (hr : g ≠ r) : RB g s k nd er bad w' := (hg.block g h.lt (fun e => hr (Option.some.inj e))).trans h
theorem grown_far {w W W' : World} {g r : Nat} (h : w.grownBy W (some g)) (hr : w.heap.size ≤ r) (hg : W.grownBy W' (some r)) : w.grownBy W' (some g) :=
  ⟨hg.os.trans h.os, hg.tape.trans h.tape, hg.output.trans h.output, Nat.le_trans h.size hg.size, fun i hi hne => (hg.block i (Nat.lt_of_lt_of_le hi h.size) (fun e => by have := Option.some.inj e; omega)).trans (h.block i hi hne)⟩
theorem grown_alloc1 {w : World} (g : Nat) (o : Obj) : w.grownBy (w.alloc o) (some g) := grown_belowS ((Below.refl _ w).alloc (Nat.le_refl _) o) g
theorem head0 {s : ByteArray} (h : 0 < s.size) : s.data.toList.head? = some (s[0]'h) := head48 h
set_option maxHeartbeats 2000000 in
set_option maxRecDepth 100000 in
theorem dval_end (g : Nat) (s : ByteArray) (w : World) (h : RB g s 0 0 0 0 w) (h0 : s.size = 0) (hs : s.size ≤ 2147483647) :
    Calls Tryz.prog 121 #[.pointer (some ⟨g, 0, none⟩), .int .i64 0] w (VlP (valP s.data.toList) g s w) := by
  have hgl := h.lt
  have gA : w.grownBy (w.alloc z46) (some g) := grown_alloc1 g z46
  have nb := heap_alloc_new w z46
  have hA : RB g s 0 0 0 0 (w.alloc z46) := h.keep ((Below.refl _ _).alloc (Nat.le_refl _) _)
  have KN : Hid (∀ W, (w.alloc z46).grownBy W (some g) → W.heap[w.heap.size]? = some z46) := fun W hW => (hW.block _ (by rw [alloc_size]; omega) (fun e => by have := Option.some.inj e; omega)).trans nb
  have HV : Hid (valP s.data.toList = none) := by
    have e : s.data.toList = [] := List.length_eq_zero_iff.1 (by simpa using h0)
    show _ = _
    rw [e]; rfl
  have CN := hmk (dnext_end g s 0 0 _ (by rw [h0]; exact hA))
  have HGA := hmk gA
  clear h gA nb hA
  go_enter Tryz.func121, Tryz.ntmps121
  go_wp2_with fail
  refine CN.out.mono ?_
  rintro e w1 ⟨rfl, RW, g1⟩
  have NW := KN.out w1 g1
  have c4 := RW.c4
  have GW : w.grownBy w1 (some g) := grown_trans HGA.out g1
  clear g1 CN KN
  have q0 : w1.cell? ⟨w.heap.size, 0, none⟩ = some (.int .i64 0) := cell_of_block NW 0
  have q1 : w1.cell? ⟨w.heap.size, 1, none⟩ = some (.bool false) := cell_of_block NW 1
  have q2 : w1.cell? ⟨w.heap.size, 2, none⟩ = some (.int .i64 0) := cell_of_block NW 2
  have q3 : w1.cell? ⟨w.heap.size, 3, none⟩ = some (.string ⟨#[]⟩) := cell_of_block NW 3
  have q4 : w1.cell? ⟨w.heap.size, 4, none⟩ = some (.slice none 0 0) := cell_of_block NW 4
  have q5 : w1.cell? ⟨w.heap.size, 5, none⟩ = some (.slice none 0 0) := cell_of_block NW 5
  have kf : ∀ ii, w1.frozen? ⟨w.heap.size, ii, none⟩ = false := frozen_of_block NW
  have sg := st6_grown w1 w.heap.size (.int .i64 0) (.bool false) (.int .i64 0) (.string ⟨#[]⟩) (.slice none 0 0) (.slice none 0 0)
  have HRF := hmk (RW.gr sg (by omega))
  have HGF := hmk (grown_far GW (Nat.le_refl _) sg)
  clear sg NW RW GW
  go_wp2_with fail
  (try simp only [Exit.inBlock, Exit.then])
  refine bodyPost_ret (v := .agg #[.int .i64 0, .bool false, .int .i64 0, .string ⟨#[]⟩, .slice none 0 0, .slice none 0 0]) ?_ rfl ⟨0, false, 0, s.size, 0, 31, _, rfl, Nat.le_refl _, HRF.out, HGF.out, .inr ⟨HV.out, by omega⟩⟩
  rw [results_cell1 rfl]
  go_simp
set_option maxHeartbeats 2000000 in
set_option maxRecDepth 100000 in
theorem dval_n (g : Nat) (s : ByteArray) (w : World) (h : RB g s 0 0 0 0 w) (h0 : 0 < s.size) (hc : (s[0]'h0).toNat = 110) (hs : s.size ≤ 2147483647) :
    Calls Tryz.prog 121 #[.pointer (some ⟨g, 0, none⟩), .int .i64 0] w (VlP (valP s.data.toList) g s w) := by
  have hgl := h.lt
  have gA : w.grownBy (w.alloc z46) (some g) := grown_alloc1 g z46
  have nb := heap_alloc_new w z46
  have hA : RB g s 0 0 0 0 (w.alloc z46) := h.keep ((Below.refl _ _).alloc (Nat.le_refl _) _)
  have KN : Hid (∀ W, (w.alloc z46).grownBy W (some g) → W.heap[w.heap.size]? = some z46) := fun W hW => (hW.block _ (by rw [alloc_size]; omega) (fun e => by have := Option.some.inj e; omega)).trans nb
  obtain ⟨T, hT⟩ : ∃ T : Bool, Hid (hasPrefix s.data.toList [110, 117, 108, 108] = T) := ⟨_, rfl⟩
  have HV : Hid (valP s.data.toList = if T = true then some (.mk 0 false 0 ⟨#[]⟩ [] [], 4) else none) := by
    show _ = _
    rw [valP, head0 h0]
    dsimp only
    rw [if_pos hc, hT.out]
  have CW : Hid (∀ W nd, RB g s 0 nd 0 0 W → Calls Tryz.prog 142 #[.pointer (some ⟨g, 0, none⟩), .string ⟨#[110, 117, 108, 108]⟩] W (WdP g s 0 nd 4 T W)) := fun W nd hW => by
    have c := dword_any g s ⟨#[110, 117, 108, 108]⟩ 0 nd 0 W hW (Nat.zero_le _) hs (by decide)
    have e1 : tkB s.data.toList 0 (⟨#[110, 117, 108, 108]⟩ : ByteArray).data.toList = T := hT.out
    rw [e1] at c
    exact c
  have CN := hmk (dnext_yes g s 0 0 0 0 _ hA h0 (by rw [blkB]; simp; omega))
  have HGA := hmk gA
  have HS := hmk hs
  clear h gA nb hA
  have yc : ((s[0]'h0).toNat : Int) = 110 := by omega
  rw [yc] at CN
  have HPL : Hid (T = true → 4 ≤ s.size) := fun hh => by
    have := hT.out
    rw [hh] at this
    have h2 := (List.isPrefixOf_iff_prefix.1 this).length_le
    simpa using h2
  clear hc yc hT
  go_enter Tryz.func121, Tryz.ntmps121
  go_wp2_with fail
  refine CN.out.mono ?_
  rintro e w1 ⟨rfl, R1, g1⟩
  have c4 := R1.c4
  have c2 := R1.c2
  have f2 := R1.fz 2
  have c3 := (R1.put2 1 1 rfl).c3
  have HR1 := hmk R1
  have HG1 := hmk g1
  clear R1 g1 CN
  go_wp2_with fail
  refine (CW.out _ 1 (HR1.out.put2 1 1 rfl)).mono ?_
  rintro e w2 ⟨rfl, g2, hh⟩
  have G2 := grown_trans (grown_set HG1.out _ _) g2
  have NW := KN.out w2 G2
  have GW : w.grownBy w2 (some g) := grown_trans HGA.out G2
  clear g2 G2 CW KN HR1 HG1 HGA c4 c2 f2 c3
  rcases hh with ⟨hT, bad, RW⟩ | ⟨hT, k', er, bad, hk', her, RW⟩
  · have HT := hmk hT
    clear hT
    have q0 : w2.cell? ⟨w.heap.size, 0, none⟩ = some (.int .i64 0) := cell_of_block NW 0
    have q1 : w2.cell? ⟨w.heap.size, 1, none⟩ = some (.bool false) := cell_of_block NW 1
    have q2 : w2.cell? ⟨w.heap.size, 2, none⟩ = some (.int .i64 0) := cell_of_block NW 2
    have q3 : w2.cell? ⟨w.heap.size, 3, none⟩ = some (.string ⟨#[]⟩) := cell_of_block NW 3
    have q4 : w2.cell? ⟨w.heap.size, 4, none⟩ = some (.slice none 0 0) := cell_of_block NW 4
    have q5 : w2.cell? ⟨w.heap.size, 5, none⟩ = some (.slice none 0 0) := cell_of_block NW 5
    have kf : ∀ ii, w2.frozen? ⟨w.heap.size, ii, none⟩ = false := frozen_of_block NW
    have sg := st6_grown w2 w.heap.size (.int .i64 0) (.bool false) (.int .i64 0) (.string ⟨#[]⟩) (.slice none 0 0) (.slice none 0 0)
    have HRF := hmk (RW.gr sg (by omega))
    have HGF := hmk (grown_far GW (Nat.le_refl _) sg)
    clear sg NW RW GW
    go_wp2_with fail
    (try simp only [Exit.inBlock, Exit.then])
    refine bodyPost_ret (v := .agg #[.int .i64 0, .bool false, .int .i64 0, .string ⟨#[]⟩, .slice none 0 0, .slice none 0 0]) ?_ rfl ⟨0, false, 0, 0 + 4, 1, 0, bad, rfl, by have := HPL.out HT.out; omega, HRF.out, HGF.out, .inl ⟨by rw [HV.out, if_pos HT.out], rfl⟩⟩
    rw [results_cell1 rfl]
    go_simp
  · have HT := hmk hT
    have HE := hmk her
    have HK := hmk hk'
    clear hT her hk'
    have q0 : w2.cell? ⟨w.heap.size, 0, none⟩ = some (.int .i64 0) := cell_of_block NW 0
    have q1 : w2.cell? ⟨w.heap.size, 1, none⟩ = some (.bool false) := cell_of_block NW 1
    have q2 : w2.cell? ⟨w.heap.size, 2, none⟩ = some (.int .i64 0) := cell_of_block NW 2
    have q3 : w2.cell? ⟨w.heap.size, 3, none⟩ = some (.string ⟨#[]⟩) := cell_of_block NW 3
    have q4 : w2.cell? ⟨w.heap.size, 4, none⟩ = some (.slice none 0 0) := cell_of_block NW 4
    have q5 : w2.cell? ⟨w.heap.size, 5, none⟩ = some (.slice none 0 0) := cell_of_block NW 5
    have kf : ∀ ii, w2.frozen? ⟨w.heap.size, ii, none⟩ = false := frozen_of_block NW
    have sg := st6_grown w2 w.heap.size (.int .i64 0) (.bool false) (.int .i64 0) (.string ⟨#[]⟩) (.slice none 0 0) (.slice none 0 0)
    have HRF := hmk (RW.gr sg (by omega))
    have HGF := hmk (grown_far GW (Nat.le_refl _) sg)
    clear sg NW RW GW
    go_wp2_with fail
    (try simp only [Exit.inBlock, Exit.then])
    refine bodyPost_ret (v := .agg #[.int .i64 0, .bool false, .int .i64 0, .string ⟨#[]⟩, .slice none 0 0, .slice none 0 0]) ?_ rfl ⟨0, false, 0, k', 1, er, bad, rfl, HK.out, HRF.out, HGF.out, .inr ⟨by rw [HV.out, HT.out]; rfl, HE.out⟩⟩
    rw [results_cell1 rfl]
    go_simp
set_option maxHeartbeats 2000000 in
set_option maxRecDepth 100000 in
theorem dval_t (g : Nat) (s : ByteArray) (w : World) (h : RB g s 0 0 0 0 w) (h0 : 0 < s.size) (hc : (s[0]'h0).toNat = 116) (hs : s.size ≤ 2147483647) :
    Calls Tryz.prog 121 #[.pointer (some ⟨g, 0, none⟩), .int .i64 0] w (VlP (valP s.data.toList) g s w) := by
  have hgl := h.lt
  have gA : w.grownBy (w.alloc z46) (some g) := grown_alloc1 g z46
  have nb := heap_alloc_new w z46
  have hA : RB g s 0 0 0 0 (w.alloc z46) := h.keep ((Below.refl _ _).alloc (Nat.le_refl _) _)
  have KN : Hid (∀ W, (w.alloc z46).grownBy W (some g) → W.heap[w.heap.size]? = some z46) := fun W hW => (hW.block _ (by rw [alloc_size]; omega) (fun e => by have := Option.some.inj e; omega)).trans nb
  obtain ⟨T, hT⟩ : ∃ T : Bool, Hid (hasPrefix s.data.toList [116, 114, 117, 101] = T) := ⟨_, rfl⟩
  have HV : Hid (valP s.data.toList = if T = true then some (.mk 1 true 0 ⟨#[]⟩ [] [], 4) else none) := by
    show _ = _
    rw [valP, head0 h0]
    dsimp only
    rw [if_neg (by rw [hc]; decide), if_pos hc, hT.out]
  have CW : Hid (∀ W nd, RB g s 0 nd 0 0 W → Calls Tryz.prog 142 #[.pointer (some ⟨g, 0, none⟩), .string ⟨#[116, 114, 117, 101]⟩] W (WdP g s 0 nd 4 T W)) := fun W nd hW => by
    have c := dword_any g s ⟨#[116, 114, 117, 101]⟩ 0 nd 0 W hW (Nat.zero_le _) hs (by decide)
    have e1 : tkB s.data.toList 0 (⟨#[116, 114, 117, 101]⟩ : ByteArray).data.toList = T := hT.out
    rw [e1] at c
    exact c
  have CN := hmk (dnext_yes g s 0 0 0 0 _ hA h0 (by rw [blkB]; simp; omega))
  have HGA := hmk gA
  have HS := hmk hs
  clear h gA nb hA
  have yc : ((s[0]'h0).toNat : Int) = 116 := by omega
  rw [yc] at CN
  have HPL : Hid (T = true → 4 ≤ s.size) := fun hh => by
    have := hT.out
    rw [hh] at this
    have h2 := (List.isPrefixOf_iff_prefix.1 this).length_le
    simpa using h2
  clear hc yc hT
  go_enter Tryz.func121, Tryz.ntmps121
  go_wp2_with fail
  refine CN.out.mono ?_
  rintro e w1 ⟨rfl, R1, g1⟩
  have c4 := R1.c4
  have c2 := R1.c2
  have f2 := R1.fz 2
  have c3 := (R1.put2 1 1 rfl).c3
  have HR1 := hmk R1
  have HG1 := hmk g1
  clear R1 g1 CN
  go_wp2_with fail
  refine (CW.out _ 1 (HR1.out.put2 1 1 rfl)).mono ?_
  rintro e w2 ⟨rfl, g2, hh⟩
  have G2 := grown_trans (grown_set HG1.out _ _) g2
  have NW := KN.out w2 G2
  have GW : w.grownBy w2 (some g) := grown_trans HGA.out G2
  clear g2 G2 CW KN HR1 HG1 HGA c4 c2 f2 c3
  rcases hh with ⟨hT, bad, RW⟩ | ⟨hT, k', er, bad, hk', her, RW⟩
  · have HT := hmk hT
    clear hT
    have q0 : w2.cell? ⟨w.heap.size, 0, none⟩ = some (.int .i64 0) := cell_of_block NW 0
    have q1 : w2.cell? ⟨w.heap.size, 1, none⟩ = some (.bool false) := cell_of_block NW 1
    have q2 : w2.cell? ⟨w.heap.size, 2, none⟩ = some (.int .i64 0) := cell_of_block NW 2
    have q3 : w2.cell? ⟨w.heap.size, 3, none⟩ = some (.string ⟨#[]⟩) := cell_of_block NW 3
    have q4 : w2.cell? ⟨w.heap.size, 4, none⟩ = some (.slice none 0 0) := cell_of_block NW 4
    have q5 : w2.cell? ⟨w.heap.size, 5, none⟩ = some (.slice none 0 0) := cell_of_block NW 5
    have kf : ∀ ii, w2.frozen? ⟨w.heap.size, ii, none⟩ = false := frozen_of_block NW
    have sg := st6_grown w2 w.heap.size (.int .i64 1) (.bool true) (.int .i64 0) (.string ⟨#[]⟩) (.slice none 0 0) (.slice none 0 0)
    have HRF := hmk (RW.gr sg (by omega))
    have HGF := hmk (grown_far GW (Nat.le_refl _) sg)
    clear sg NW RW GW
    go_wp2_with fail
    (try simp only [Exit.inBlock, Exit.then])
    refine bodyPost_ret (v := .agg #[.int .i64 1, .bool true, .int .i64 0, .string ⟨#[]⟩, .slice none 0 0, .slice none 0 0]) ?_ rfl ⟨1, true, 0, 0 + 4, 1, 0, bad, rfl, by have := HPL.out HT.out; omega, HRF.out, HGF.out, .inl ⟨by rw [HV.out, if_pos HT.out], rfl⟩⟩
    rw [results_cell1 rfl]
    go_simp
  · have HT := hmk hT
    have HE := hmk her
    have HK := hmk hk'
    clear hT her hk'
    have q0 : w2.cell? ⟨w.heap.size, 0, none⟩ = some (.int .i64 0) := cell_of_block NW 0
    have q1 : w2.cell? ⟨w.heap.size, 1, none⟩ = some (.bool false) := cell_of_block NW 1
    have q2 : w2.cell? ⟨w.heap.size, 2, none⟩ = some (.int .i64 0) := cell_of_block NW 2
    have q3 : w2.cell? ⟨w.heap.size, 3, none⟩ = some (.string ⟨#[]⟩) := cell_of_block NW 3
    have q4 : w2.cell? ⟨w.heap.size, 4, none⟩ = some (.slice none 0 0) := cell_of_block NW 4
    have q5 : w2.cell? ⟨w.heap.size, 5, none⟩ = some (.slice none 0 0) := cell_of_block NW 5
    have kf : ∀ ii, w2.frozen? ⟨w.heap.size, ii, none⟩ = false := frozen_of_block NW
    have sg := st6_grown w2 w.heap.size (.int .i64 1) (.bool true) (.int .i64 0) (.string ⟨#[]⟩) (.slice none 0 0) (.slice none 0 0)
    have HRF := hmk (RW.gr sg (by omega))
    have HGF := hmk (grown_far GW (Nat.le_refl _) sg)
    clear sg NW RW GW
    go_wp2_with fail
    (try simp only [Exit.inBlock, Exit.then])
    refine bodyPost_ret (v := .agg #[.int .i64 1, .bool true, .int .i64 0, .string ⟨#[]⟩, .slice none 0 0, .slice none 0 0]) ?_ rfl ⟨1, true, 0, k', 1, er, bad, rfl, HK.out, HRF.out, HGF.out, .inr ⟨by rw [HV.out, HT.out]; rfl, HE.out⟩⟩
    rw [results_cell1 rfl]
    go_simp
set_option maxHeartbeats 2000000 in
set_option maxRecDepth 100000 in
theorem dval_f (g : Nat) (s : ByteArray) (w : World) (h : RB g s 0 0 0 0 w) (h0 : 0 < s.size) (hc : (s[0]'h0).toNat = 102) (hs : s.size ≤ 2147483647) :
    Calls Tryz.prog 121 #[.pointer (some ⟨g, 0, none⟩), .int .i64 0] w (VlP (valP s.data.toList) g s w) := by
  have hgl := h.lt
  have gA : w.grownBy (w.alloc z46) (some g) := grown_alloc1 g z46
  have nb := heap_alloc_new w z46
  have hA : RB g s 0 0 0 0 (w.alloc z46) := h.keep ((Below.refl _ _).alloc (Nat.le_refl _) _)
  have KN : Hid (∀ W, (w.alloc z46).grownBy W (some g) → W.heap[w.heap.size]? = some z46) := fun W hW => (hW.block _ (by rw [alloc_size]; omega) (fun e => by have := Option.some.inj e; omega)).trans nb
  obtain ⟨T, hT⟩ : ∃ T : Bool, Hid (hasPrefix s.data.toList [102, 97, 108, 115, 101] = T) := ⟨_, rfl⟩
  have HV : Hid (valP s.data.toList = if T = true then some (.mk 1 false 0 ⟨#[]⟩ [] [], 5) else none) := by
    show _ = _
    rw [valP, head0 h0]
    dsimp only
    rw [if_neg (by rw [hc]; decide), if_neg (by rw [hc]; decide), if_pos hc, hT.out]
  have CW : Hid (∀ W nd, RB g s 0 nd 0 0 W → Calls Tryz.prog 142 #[.pointer (some ⟨g, 0, none⟩), .string ⟨#[102, 97, 108, 115, 101]⟩] W (WdP g s 0 nd 5 T W)) := fun W nd hW => by
    have c := dword_any g s ⟨#[102, 97, 108, 115, 101]⟩ 0 nd 0 W hW (Nat.zero_le _) hs (by decide)
    have e1 : tkB s.data.toList 0 (⟨#[102, 97, 108, 115, 101]⟩ : ByteArray).data.toList = T := hT.out
    rw [e1] at c
    exact c
  have CN := hmk (dnext_yes g s 0 0 0 0 _ hA h0 (by rw [blkB]; simp; omega))
  have HGA := hmk gA
  have HS := hmk hs
  clear h gA nb hA
  have yc : ((s[0]'h0).toNat : Int) = 102 := by omega
  rw [yc] at CN
  have HPL : Hid (T = true → 5 ≤ s.size) := fun hh => by
    have := hT.out
    rw [hh] at this
    have h2 := (List.isPrefixOf_iff_prefix.1 this).length_le
    simpa using h2
  clear hc yc hT
  go_enter Tryz.func121, Tryz.ntmps121
  go_wp2_with fail
  refine CN.out.mono ?_
  rintro e w1 ⟨rfl, R1, g1⟩
  have c4 := R1.c4
  have c2 := R1.c2
  have f2 := R1.fz 2
  have c3 := (R1.put2 1 1 rfl).c3
  have HR1 := hmk R1
  have HG1 := hmk g1
  clear R1 g1 CN
  go_wp2_with fail
  refine (CW.out _ 1 (HR1.out.put2 1 1 rfl)).mono ?_
  rintro e w2 ⟨rfl, g2, hh⟩
  have G2 := grown_trans (grown_set HG1.out _ _) g2
  have NW := KN.out w2 G2
  have GW : w.grownBy w2 (some g) := grown_trans HGA.out G2
  clear g2 G2 CW KN HR1 HG1 HGA c4 c2 f2 c3
  rcases hh with ⟨hT, bad, RW⟩ | ⟨hT, k', er, bad, hk', her, RW⟩
  · have HT := hmk hT
    clear hT
    have q0 : w2.cell? ⟨w.heap.size, 0, none⟩ = some (.int .i64 0) := cell_of_block NW 0
    have q1 : w2.cell? ⟨w.heap.size, 1, none⟩ = some (.bool false) := cell_of_block NW 1
    have q2 : w2.cell? ⟨w.heap.size, 2, none⟩ = some (.int .i64 0) := cell_of_block NW 2
    have q3 : w2.cell? ⟨w.heap.size, 3, none⟩ = some (.string ⟨#[]⟩) := cell_of_block NW 3
    have q4 : w2.cell? ⟨w.heap.size, 4, none⟩ = some (.slice none 0 0) := cell_of_block NW 4
    have q5 : w2.cell? ⟨w.heap.size, 5, none⟩ = some (.slice none 0 0) := cell_of_block NW 5
    have kf : ∀ ii, w2.frozen? ⟨w.heap.size, ii, none⟩ = false := frozen_of_block NW
    have sg := st6_grown w2 w.heap.size (.int .i64 1) (.bool false) (.int .i64 0) (.string ⟨#[]⟩) (.slice none 0 0) (.slice none 0 0)
    have HRF := hmk (RW.gr sg (by omega))
    have HGF := hmk (grown_far GW (Nat.le_refl _) sg)
    clear sg NW RW GW
    go_wp2_with fail
    (try simp only [Exit.inBlock, Exit.then])
    refine bodyPost_ret (v := .agg #[.int .i64 1, .bool false, .int .i64 0, .string ⟨#[]⟩, .slice none 0 0, .slice none 0 0]) ?_ rfl ⟨1, false, 0, 0 + 5, 1, 0, bad, rfl, by have := HPL.out HT.out; omega, HRF.out, HGF.out, .inl ⟨by rw [HV.out, if_pos HT.out], rfl⟩⟩
    rw [results_cell1 rfl]
    go_simp
  · have HT := hmk hT
    have HE := hmk her
    have HK := hmk hk'
    clear hT her hk'
    have q0 : w2.cell? ⟨w.heap.size, 0, none⟩ = some (.int .i64 0) := cell_of_block NW 0
    have q1 : w2.cell? ⟨w.heap.size, 1, none⟩ = some (.bool false) := cell_of_block NW 1
    have q2 : w2.cell? ⟨w.heap.size, 2, none⟩ = some (.int .i64 0) := cell_of_block NW 2
    have q3 : w2.cell? ⟨w.heap.size, 3, none⟩ = some (.string ⟨#[]⟩) := cell_of_block NW 3
    have q4 : w2.cell? ⟨w.heap.size, 4, none⟩ = some (.slice none 0 0) := cell_of_block NW 4
    have q5 : w2.cell? ⟨w.heap.size, 5, none⟩ = some (.slice none 0 0) := cell_of_block NW 5
    have kf : ∀ ii, w2.frozen? ⟨w.heap.size, ii, none⟩ = false := frozen_of_block NW
    have sg := st6_grown w2 w.heap.size (.int .i64 1) (.bool false) (.int .i64 0) (.string ⟨#[]⟩) (.slice none 0 0) (.slice none 0 0)
    have HRF := hmk (RW.gr sg (by omega))
    have HGF := hmk (grown_far GW (Nat.le_refl _) sg)
    clear sg NW RW GW
    go_wp2_with fail
    (try simp only [Exit.inBlock, Exit.then])
    refine bodyPost_ret (v := .agg #[.int .i64 1, .bool false, .int .i64 0, .string ⟨#[]⟩, .slice none 0 0, .slice none 0 0]) ?_ rfl ⟨1, false, 0, k', 1, er, bad, rfl, HK.out, HRF.out, HGF.out, .inr ⟨by rw [HV.out, HT.out]; rfl, HE.out⟩⟩
    rw [results_cell1 rfl]
    go_simp
end Go.Proofs.YtihcggepeadklaaGreatDoor
