/- joined: RdrE RdrF -/
import Derived.Test.YtihcggepeadklaaGreatDoorRdrD
/- path's reader: member. -/
set_option linter.unusedSimpArgs false
set_option linter.unusedVariables false
namespace Go.Proofs.YtihcggepeadklaaGreatDoor
open Go.RowKit Go.Lib
abbrev z50 : Obj := .cells #[.string ⟨#[]⟩, .int .i64 0, .bool false, .int .i64 0, .string ⟨#[]⟩, .slice none 0 0, .slice none 0 0] 50
/-- a member was read, or not -/
def MeP (R : Option (Mem × Nat)) (g : Nat) (s : ByteArray) (w : World) (e : Ending) (w' : World) : Prop :=
  (∃ nm vk vb vi vs k1, R = some ((nm, .mk vk vb vi vs [] []), k1) ∧ e = .returned (.tuple #[.agg #[.string nm, .int .i64 vk, .bool vb, .int .i64 vi, .string vs, .slice none 0 0, .slice none 0 0], .bool true]) ∧ nm.size ≤ maxLen ∧ In64 vk ∧ In64 vi ∧ vs.size ≤ maxLen ∧ RdP g s w w' k1) ∨ (R = none ∧ ∃ nm vk vb vi vs k1, e = .returned (.tuple #[.agg #[.string nm, .int .i64 vk, .bool vb, .int .i64 vi, .string vs, .slice none 0 0, .slice none 0 0], .bool false]) ∧ RdP g s w w' k1)
theorem st7_grown (W : World) (g : Nat) (v0 v1 v2 v3 v4 v5 v6 : Value) : W.grownBy (((((((W.setCell ⟨g, 0, none⟩ v0).setCell ⟨g, 1, none⟩ v1).setCell ⟨g, 2, none⟩ v2).setCell ⟨g, 3, none⟩ v3).setCell ⟨g, 4, none⟩ v4).setCell ⟨g, 5, none⟩ v5).setCell ⟨g, 6, none⟩ v6) (some g) :=
  grown_set (grown_set (grown_set (grown_set (grown_set (grown_set (grown_set (World.grownBy.refl _ _) _ _) _ _) _ _) _ _) _ _) _ _) _ _
theorem RdP.box7 {g : Nat} {s : ByteArray} {w W : World} {k r : Nat} (h : RdP g s w W k) (hr : w.heap.size ≤ r) (hg : g < w.heap.size) (v0 v1 v2 v3 v4 v5 v6 : Value) : RdP g s w (((((((W.setCell ⟨r, 0, none⟩ v0).setCell ⟨r, 1, none⟩ v1).setCell ⟨r, 2, none⟩ v2).setCell ⟨r, 3, none⟩ v3).setCell ⟨r, 4, none⟩ v4).setCell ⟨r, 5, none⟩ v5).setCell ⟨r, 6, none⟩ v6) k :=
  h.far hr hg (st7_grown W r v0 v1 v2 v3 v4 v5 v6)
theorem namF_size {s : ByteArray} {k : Nat} {x : ByteArray} {k1 : Nat} (h : namF s.data.toList k = some (x, k1)) : x.size ≤ s.size := by
  unfold namF at h
  split at h
  · have e := congrArg Prod.fst (Option.some.inj h)
    subst e
    show Array.size _ ≤ _
    have e2 : s.data.toList.length = s.size := by simp
    simp
    omega
  · exact quoF_size h
theorem mem_1 {l : List UInt8} {k : Nat} (h : namF l k = none) : memF l k = none := by rw [memF, h]
theorem mem_2 {l : List UInt8} {k k1 : Nat} {x : ByteArray} (h : namF l k = some (x, k1)) (h2 : tkB l k1 [61] = false) : memF l k = none := by rw [memF, h]; dsimp only; rw [if_neg (by rw [h2]; decide)]
theorem mem_3 {l : List UInt8} {k k1 : Nat} {x : ByteArray} (h : namF l k = some (x, k1)) (h2 : tkB l k1 [61] = true) : memF l k = (scaF l (k1 + 1)).map (fun y => ((x, y.1), y.2)) := by rw [memF, h]; dsimp only; rw [if_pos h2]
set_option maxHeartbeats 8000000 in
set_option maxRecDepth 100000 in
theorem pmember_any (g : Nat) (s : ByteArray) (k : Nat) (w : World) (h : PB g s k w) (t : Td w) (hs : s.size ≤ 140737488355000) (hk : k ≤ s.size) (hg : 9 < g) :
    Calls Tryz.prog 111 #[.pointer (some ⟨g, 0, none⟩)] w (MeP (memF s.data.toList k) g s w) := by
  have hlt := h.lt
  have bA : Below w.heap.size w (w.alloc z50) := (Below.refl _ _).alloc (Nat.le_refl _) _
  have nb := heap_alloc_new w z50
  have hbsz : w.heap.size < (w.alloc z50).heap.size := by rw [alloc_size]; omega
  have RA : RdP g s w (w.alloc z50) k := ⟨hk, h.keep bA, grown_belowS bA g⟩
  have HT := hmk t
  have KA : Hid (∀ W k', RdP g s (w.alloc z50) W k' → RdP g s w W k' ∧ W.heap[w.heap.size]? = some z50 ∧ Td W) := fun W k' r =>
    ⟨RA.trans r, (r.gr.block _ hbsz (fun e => by have := Option.some.inj e; omega)).trans nb, HT.out.grown (RA.trans r).gr hg⟩
  have CN : Hid (∀ W, PB g s k W → Td W → Calls Tryz.prog 69 #[.pointer (some ⟨g, 0, none⟩)] W (StP (namF s.data.toList k) g s W)) := fun W hW tW => pname_any g s k W hW tW hs hk hg
  have CE : Hid (∀ W k1, PB g s k1 W → k1 ≤ s.size → Calls Tryz.prog 68 #[.pointer (some ⟨g, 0, none⟩), .string ⟨#[61]⟩] W (TkP s.data.toList k1 [61] 1 g s W)) := fun W k1 hW hk1 => ptk g s _ k1 _ 1 W hW hs hk1 rfl rfl (by decide) (by decide)
  have CS : Hid (∀ W k1, PB g s k1 W → Td W → k1 ≤ s.size → Calls Tryz.prog 70 #[.pointer (some ⟨g, 0, none⟩)] W (ScP (scaF s.data.toList k1) g s W)) := fun W k1 hW tW hk1 => pscalar_any g s k1 W hW tW hs hk1 hg
  have HNS : Hid (∀ x k1, namF s.data.toList k = some (x, k1) → x.size ≤ maxLen) := fun x k1 hx => by have := namF_size hx; unfold maxLen; omega
  have PA := RA.pb
  have tA := HT.out.grown RA.gr hg
  clear h t bA RA nb hbsz
  go_enter Tryz.func111, Tryz.ntmps111
  go_wp2_with fail
  refine (CN.out _ PA tA).mono ?_
  rintro e w1 (⟨nm, k1, hn, rfl, r1⟩ | ⟨hn, k1, rfl, r1⟩)
  case inr =>
    obtain ⟨R1, N1, t1⟩ := KA.out w1 _ r1
    have HN := hmk hn
    clear hn r1
    have q0 : w1.cell? ⟨w.heap.size, 0, none⟩ = some (.string ⟨#[]⟩) := cell_of_block N1 0
    have q1 : w1.cell? ⟨w.heap.size, 1, none⟩ = some (.int .i64 0) := cell_of_block N1 1
    have q2 : w1.cell? ⟨w.heap.size, 2, none⟩ = some (.bool false) := cell_of_block N1 2
    have q3 : w1.cell? ⟨w.heap.size, 3, none⟩ = some (.int .i64 0) := cell_of_block N1 3
    have q4 : w1.cell? ⟨w.heap.size, 4, none⟩ = some (.string ⟨#[]⟩) := cell_of_block N1 4
    have q5 : w1.cell? ⟨w.heap.size, 5, none⟩ = some (.slice none 0 0) := cell_of_block N1 5
    have q6 : w1.cell? ⟨w.heap.size, 6, none⟩ = some (.slice none 0 0) := cell_of_block N1 6
    have kf : ∀ ii, w1.frozen? ⟨w.heap.size, ii, none⟩ = false := frozen_of_block N1
    have RF := hmk (R1.box7 (Nat.le_refl _) hlt (.string ⟨#[]⟩) (.int .i64 0) (.bool false) (.int .i64 0) (.string ⟨#[]⟩) (.slice none 0 0) (.slice none 0 0))
    go_wp2_with fail
    (try simp only [Exit.inBlock, Exit.then])
    refine bodyPost_ret (v := .tuple #[.agg #[.string ⟨#[]⟩, .int .i64 0, .bool false, .int .i64 0, .string ⟨#[]⟩, .slice none 0 0, .slice none 0 0], .bool false]) ?_ rfl (.inr ⟨mem_1 HN.out, ⟨#[]⟩, 0, false, 0, ⟨#[]⟩, k1, rfl, RF.out⟩)
    rw [results_cell_tmp rfl]
    go_simp
  have HN := hmk hn
  clear hn
  obtain ⟨R1, N1, t1⟩ := KA.out w1 _ r1
  have P1 := R1.pb
  have hk1 := R1.le
  clear R1 N1 t1 PA tA
  go_wp2_with fail
  refine (CE.out _ k1 P1 hk1).mono ?_
  rintro e w2 (⟨hT, rfl, r2⟩ | ⟨hT, rfl, r2⟩)
  case inr =>
    obtain ⟨R2, N2, t2⟩ := KA.out w2 _ (r1.trans r2)
    have HE := hmk hT
    clear hT r1 r2 P1
    have q0 : w2.cell? ⟨w.heap.size, 0, none⟩ = some (.string ⟨#[]⟩) := cell_of_block N2 0
    have q1 : w2.cell? ⟨w.heap.size, 1, none⟩ = some (.int .i64 0) := cell_of_block N2 1
    have q2 : w2.cell? ⟨w.heap.size, 2, none⟩ = some (.bool false) := cell_of_block N2 2
    have q3 : w2.cell? ⟨w.heap.size, 3, none⟩ = some (.int .i64 0) := cell_of_block N2 3
    have q4 : w2.cell? ⟨w.heap.size, 4, none⟩ = some (.string ⟨#[]⟩) := cell_of_block N2 4
    have q5 : w2.cell? ⟨w.heap.size, 5, none⟩ = some (.slice none 0 0) := cell_of_block N2 5
    have q6 : w2.cell? ⟨w.heap.size, 6, none⟩ = some (.slice none 0 0) := cell_of_block N2 6
    have kf : ∀ ii, w2.frozen? ⟨w.heap.size, ii, none⟩ = false := frozen_of_block N2
    have RF := hmk (R2.box7 (Nat.le_refl _) hlt (.string ⟨#[]⟩) (.int .i64 0) (.bool false) (.int .i64 0) (.string ⟨#[]⟩) (.slice none 0 0) (.slice none 0 0))
    go_wp2_with fail
    (try simp only [Exit.inBlock, Exit.then])
    refine bodyPost_ret (v := .tuple #[.agg #[.string ⟨#[]⟩, .int .i64 0, .bool false, .int .i64 0, .string ⟨#[]⟩, .slice none 0 0, .slice none 0 0], .bool false]) ?_ rfl (.inr ⟨mem_2 HN.out HE.out, ⟨#[]⟩, 0, false, 0, ⟨#[]⟩, k1, rfl, RF.out⟩)
    rw [results_cell_tmp rfl]
    go_simp
  have HE := hmk hT
  clear hT
  obtain ⟨R2, N2, t2⟩ := KA.out w2 _ (r1.trans r2)
  have P2 := R2.pb
  have hk2 := R2.le
  clear R2 N2 P1
  go_wp2_with fail
  refine (CS.out _ _ P2 t2 hk2).mono ?_
  rintro e w3 (⟨vk, vb, vi, vs, k3, hq, rfl, i1, i2, i3, r3⟩ | ⟨hq, vk, vb, vi, vs, k3, rfl, r3⟩)
  · have bB : Below w3.heap.size w3 (w3.alloc (.cells #[.int .i64 vk, .bool vb, .int .i64 vi, .string vs, .slice none 0 0, .slice none 0 0] 46)) := (Below.refl _ _).alloc (Nat.le_refl _) _
    have nB := heap_alloc_new w3 (.cells #[.int .i64 vk, .bool vb, .int .i64 vi, .string vs, .slice none 0 0, .slice none 0 0] 46)
    obtain ⟨R4, N4, t4⟩ := KA.out _ _ ((r1.trans r2).trans (r3.trans ⟨r3.le, r3.pb.keep bB, grown_belowS bB g⟩))
    have HQ := hmk hq
    have HI := hmk (And.intro i1 (And.intro i2 i3))
    clear i1 i2 i3
    clear hq r1 r2 r3 P2 t2 bB
    have q0 : (w3.alloc (.cells #[.int .i64 vk, .bool vb, .int .i64 vi, .string vs, .slice none 0 0, .slice none 0 0] 46)).cell? ⟨w.heap.size, 0, none⟩ = some (.string ⟨#[]⟩) := cell_of_block N4 0
    have q1 : (w3.alloc (.cells #[.int .i64 vk, .bool vb, .int .i64 vi, .string vs, .slice none 0 0, .slice none 0 0] 46)).cell? ⟨w.heap.size, 1, none⟩ = some (.int .i64 0) := cell_of_block N4 1
    have q2 : (w3.alloc (.cells #[.int .i64 vk, .bool vb, .int .i64 vi, .string vs, .slice none 0 0, .slice none 0 0] 46)).cell? ⟨w.heap.size, 2, none⟩ = some (.bool false) := cell_of_block N4 2
    have q3 : (w3.alloc (.cells #[.int .i64 vk, .bool vb, .int .i64 vi, .string vs, .slice none 0 0, .slice none 0 0] 46)).cell? ⟨w.heap.size, 3, none⟩ = some (.int .i64 0) := cell_of_block N4 3
    have q4 : (w3.alloc (.cells #[.int .i64 vk, .bool vb, .int .i64 vi, .string vs, .slice none 0 0, .slice none 0 0] 46)).cell? ⟨w.heap.size, 4, none⟩ = some (.string ⟨#[]⟩) := cell_of_block N4 4
    have q5 : (w3.alloc (.cells #[.int .i64 vk, .bool vb, .int .i64 vi, .string vs, .slice none 0 0, .slice none 0 0] 46)).cell? ⟨w.heap.size, 5, none⟩ = some (.slice none 0 0) := cell_of_block N4 5
    have q6 : (w3.alloc (.cells #[.int .i64 vk, .bool vb, .int .i64 vi, .string vs, .slice none 0 0, .slice none 0 0] 46)).cell? ⟨w.heap.size, 6, none⟩ = some (.slice none 0 0) := cell_of_block N4 6
    have kf : ∀ ii, (w3.alloc (.cells #[.int .i64 vk, .bool vb, .int .i64 vi, .string vs, .slice none 0 0, .slice none 0 0] 46)).frozen? ⟨w.heap.size, ii, none⟩ = false := frozen_of_block N4
    have RF := hmk (R4.box7 (Nat.le_refl _) hlt (.string nm) (.int .i64 vk) (.bool vb) (.int .i64 vi) (.string vs) (.slice none 0 0) (.slice none 0 0))
    go_wp2_with fail
    (try simp only [Exit.inBlock, Exit.then])
    refine bodyPost_ret (v := .tuple #[.agg #[.string nm, .int .i64 vk, .bool vb, .int .i64 vi, .string vs, .slice none 0 0, .slice none 0 0], .bool true]) ?_ rfl (.inl ⟨nm, vk, vb, vi, vs, k3, by rw [mem_3 HN.out HE.out, HQ.out]; rfl, rfl, HNS.out nm k1 HN.out, HI.out.1, HI.out.2.1, HI.out.2.2, RF.out⟩)
    rw [results_cell_tmp rfl]
    go_simp
  · have bB : Below w3.heap.size w3 (w3.alloc (.cells #[.int .i64 vk, .bool vb, .int .i64 vi, .string vs, .slice none 0 0, .slice none 0 0] 46)) := (Below.refl _ _).alloc (Nat.le_refl _) _
    have nB := heap_alloc_new w3 (.cells #[.int .i64 vk, .bool vb, .int .i64 vi, .string vs, .slice none 0 0, .slice none 0 0] 46)
    obtain ⟨R4, N4, t4⟩ := KA.out _ _ ((r1.trans r2).trans (r3.trans ⟨r3.le, r3.pb.keep bB, grown_belowS bB g⟩))
    have HQ := hmk hq
    clear hq r1 r2 r3 P2 t2 bB
    have q0 : (w3.alloc (.cells #[.int .i64 vk, .bool vb, .int .i64 vi, .string vs, .slice none 0 0, .slice none 0 0] 46)).cell? ⟨w.heap.size, 0, none⟩ = some (.string ⟨#[]⟩) := cell_of_block N4 0
    have q1 : (w3.alloc (.cells #[.int .i64 vk, .bool vb, .int .i64 vi, .string vs, .slice none 0 0, .slice none 0 0] 46)).cell? ⟨w.heap.size, 1, none⟩ = some (.int .i64 0) := cell_of_block N4 1
    have q2 : (w3.alloc (.cells #[.int .i64 vk, .bool vb, .int .i64 vi, .string vs, .slice none 0 0, .slice none 0 0] 46)).cell? ⟨w.heap.size, 2, none⟩ = some (.bool false) := cell_of_block N4 2
    have q3 : (w3.alloc (.cells #[.int .i64 vk, .bool vb, .int .i64 vi, .string vs, .slice none 0 0, .slice none 0 0] 46)).cell? ⟨w.heap.size, 3, none⟩ = some (.int .i64 0) := cell_of_block N4 3
    have q4 : (w3.alloc (.cells #[.int .i64 vk, .bool vb, .int .i64 vi, .string vs, .slice none 0 0, .slice none 0 0] 46)).cell? ⟨w.heap.size, 4, none⟩ = some (.string ⟨#[]⟩) := cell_of_block N4 4
    have q5 : (w3.alloc (.cells #[.int .i64 vk, .bool vb, .int .i64 vi, .string vs, .slice none 0 0, .slice none 0 0] 46)).cell? ⟨w.heap.size, 5, none⟩ = some (.slice none 0 0) := cell_of_block N4 5
    have q6 : (w3.alloc (.cells #[.int .i64 vk, .bool vb, .int .i64 vi, .string vs, .slice none 0 0, .slice none 0 0] 46)).cell? ⟨w.heap.size, 6, none⟩ = some (.slice none 0 0) := cell_of_block N4 6
    have kf : ∀ ii, (w3.alloc (.cells #[.int .i64 vk, .bool vb, .int .i64 vi, .string vs, .slice none 0 0, .slice none 0 0] 46)).frozen? ⟨w.heap.size, ii, none⟩ = false := frozen_of_block N4
    have RF := hmk (R4.box7 (Nat.le_refl _) hlt (.string nm) (.int .i64 vk) (.bool vb) (.int .i64 vi) (.string vs) (.slice none 0 0) (.slice none 0 0))
    go_wp2_with fail
    (try simp only [Exit.inBlock, Exit.then])
    refine bodyPost_ret (v := .tuple #[.agg #[.string nm, .int .i64 vk, .bool vb, .int .i64 vi, .string vs, .slice none 0 0, .slice none 0 0], .bool false]) ?_ rfl (.inr ⟨by rw [mem_3 HN.out HE.out, HQ.out]; rfl, nm, vk, vb, vi, vs, k3, rfl, RF.out⟩)
    rw [results_cell_tmp rfl]
    go_simp
end Go.Proofs.YtihcggepeadklaaGreatDoor
/- path's reader: key. -/
namespace Go.Proofs.YtihcggepeadklaaGreatDoor
open Go.RowKit Go.Lib
theorem RdP.own {g : Nat} {s : ByteArray} {w W W' : World} {k : Nat} {row : Option Nat} (h : RdP g s w W k) (hg : g < w.heap.size) (gr : W.grownBy W' row) (hr : ∀ r, row = some r → w.heap.size ≤ r) : RdP g s w W' k :=
  ⟨h.le, (gr.block g h.pb.lt (fun e => by have := hr g e.symm; omega)).trans h.pb, gr.os.trans h.gr.os, gr.tape.trans h.gr.tape, gr.output.trans h.gr.output, Nat.le_trans h.gr.size gr.size, fun i hi hne => (gr.block i (Nat.lt_of_lt_of_le hi h.gr.size) (fun e => by have := hr i e.symm; omega)).trans (h.gr.block i hi hne)⟩
theorem RdP.allo {g : Nat} {s : ByteArray} {w W : World} {k : Nat} (h : RdP g s w W k) (o : Obj) : RdP g s w (W.alloc o) k :=
  have b : Below W.heap.size W (W.alloc o) := (Below.refl _ _).alloc (Nat.le_refl _) _
  ⟨h.le, h.pb.keep b, grown_trans h.gr (grown_belowS b g)⟩
/-- members were read, or not -/
def KeP (R : Option (List Mem × Nat)) (g : Nat) (s : ByteArray) (w : World) (e : Ending) (w' : World) : Prop :=
  (∃ m k1 am cm bm om, R = some (m, k1) ∧ e = .returned (.tuple #[.slice am m.length cm, .bool true]) ∧ Headed am m.length cm bm om ∧ liesM false w' (New w w') m bm om ∧ RdP g s w w' k1) ∨ (R = none ∧ ∃ k1, e = .returned (.tuple #[.slice none 0 0, .bool false]) ∧ RdP g s w w' k1)
theorem key_1 {l : List UInt8} {n k : Nat} {acc : List Mem} (h : memF l k = none) : keyF l (n + 1) k acc = none := by rw [keyF, h]
theorem key_2 {l : List UInt8} {n k k1 : Nat} {acc : List Mem} {m : Mem} (h : memF l k = some (m, k1)) (h2 : tkB l k1 [93] = true) : keyF l (n + 1) k acc = some (acc ++ [m], k1 + 1) := by rw [keyF, h]; dsimp only; rw [if_pos h2]
theorem key_3 {l : List UInt8} {n k k1 : Nat} {acc : List Mem} {m : Mem} (h : memF l k = some (m, k1)) (h2 : tkB l k1 [93] = false) (h3 : tkB l k1 [44] = true) : keyF l (n + 1) k acc = keyF l n (k1 + 1) (acc ++ [m]) := by rw [keyF, h]; dsimp only; rw [if_neg (by rw [h2]; decide), if_pos h3]
theorem key_4 {l : List UInt8} {n k k1 : Nat} {acc : List Mem} {m : Mem} (h : memF l k = some (m, k1)) (h2 : tkB l k1 [93] = false) (h3 : tkB l k1 [44] = false) : keyF l (n + 1) k acc = none := by rw [keyF, h]; dsimp only; rw [if_neg (by rw [h2]; decide), if_neg (by rw [h3]; decide)]
theorem lies_sca {vk : Int} {vb : Bool} {vi : Int} {vs : ByteArray} (h1 : In64 vk) (h2 : In64 vi) (h3 : vs.size ≤ maxLen) (w : World) (S : Nat → Prop) : V.lies false w S (.mk vk vb vi vs [] []) [.int .i64 vk, .bool vb, .int .i64 vi, .string vs, .slice none 0 0, .slice none 0 0] := by
  have H : Headed none 0 0 0 0 := ⟨Nat.le_refl _, Nat.zero_le _, .inl rfl, fun _ => rfl⟩
  rw [V.lies]
  exact ⟨none, 0, 0, 0, none, 0, 0, 0, rfl, h1, h2, h3, H, H, by rw [liesL]; trivial, by rw [liesM]; trivial, fun h => by cases h⟩
set_option maxHeartbeats 8000000 in
set_option maxRecDepth 100000 in
theorem pkey_any (g : Nat) (s : ByteArray) (k : Nat) (w : World) (h : PB g s k w) (t : Td w) (hs : s.size ≤ 140737488355000) (hk : k ≤ s.size) (hg : 9 < g) :
    Calls Tryz.prog 71 #[.pointer (some ⟨g, 0, none⟩)] w (KeP (keyF s.data.toList 8 k []) g s w) := by
  have hlt := h.lt
  have HT := hmk t
  have HTd : Hid (∀ W k', RdP g s w W k' → Td W) := fun W k' r => HT.out.grown r.gr hg
  have CM : Hid (∀ W k1, PB g s k1 W → Td W → k1 ≤ s.size → Calls Tryz.prog 111 #[.pointer (some ⟨g, 0, none⟩)] W (MeP (memF s.data.toList k1) g s W)) := fun W k1 hW tW hk1 => pmember_any g s k1 W hW tW hs hk1 hg
  have CB : Hid (∀ W k1, PB g s k1 W → k1 ≤ s.size → Calls Tryz.prog 68 #[.pointer (some ⟨g, 0, none⟩), .string ⟨#[93]⟩] W (TkP s.data.toList k1 [93] 1 g s W)) := fun W k1 hW hk1 => ptk g s _ k1 _ 1 W hW hs hk1 rfl rfl (by decide) (by decide)
  have CC : Hid (∀ W k1, PB g s k1 W → k1 ≤ s.size → Calls Tryz.prog 68 #[.pointer (some ⟨g, 0, none⟩), .string ⟨#[44]⟩] W (TkP s.data.toList k1 [44] 1 g s W)) := fun W k1 hW hk1 => ptk g s _ k1 _ 1 W hW hs hk1 rfl rfl (by decide) (by decide)
  obtain ⟨i1, hi1, hy0, hy1, hy2⟩ := info_parts info44
  have hJ : Hid (Tryz.prog.info? 50 = some i1 ∧ i1.zero = some (.agg #[.string ⟨#[]⟩, .int .i64 0, .bool false, .int .i64 0, .string ⟨#[]⟩, .slice none 0 0, .slice none 0 0]) ∧ i1.size = 7 ∧ i1.bytes = 104) := ⟨hi1, hy0, hy1, hy2⟩
  have HKG : Hid (∀ (W W' : World) (S : Nat → Prop) (v : Value) (l : List (Option Mem)), OwnM false W w.heap.size S v l → W.grownBy W' (some g) → OwnM false W' w.heap.size S v l) := fun W W' S v l o gr => o.keep (keepM false) gr (fun r e => by
    cases e
    exact ⟨fun hS => by have := (o.off g hS).1; omega, fun e => by have := (o.lt e).1; omega⟩)
  have r0 : RdP g s w w k := ⟨hk, h, World.grownBy.refl _ _⟩
  clear h t hi1 hy0 hy1 hy2 HT
  go_enter Tryz.func71, Tryz.ntmps71
  go_wp2_with fail
  go_loopw [4, 7] (fun e4 e7 wq => ∃ (i : Nat) (acc : List Mem) (kk : Nat) (smv : Value) (SM : Nat → Prop), i ≤ 8 ∧ acc.length = i ∧ e7 = .int .i64 (i : Int) ∧ e4 = smv ∧ Hid (keyF s.data.toList 8 k [] = keyF s.data.toList (8 - i) kk acc) ∧ RdP g s w wq kk ∧ OwnM false wq w.heap.size SM smv (acc.map some)) (fun _ e7 _ => 8 - (RowKit.intOf e7).toNat)
  case atStart => exact ⟨0, [], k, _, _, by omega, rfl, rfl, rfl, hmk rfl, r0, OwnR.nil _ _⟩
  case round =>
    clear r0
    obtain ⟨i, acc, kk, smv, SM, hi, hacc, rfl, rfl, HF, rj, oj⟩ := hrel
    have HAC := hmk hacc
    clear hacc
    by_cases hil : i < 8
    · have y8 : (i : Int) < 8 := by omega
      have e8 : 8 - i = (7 - i) + 1 := by omega
      rw [e8] at HF
      clear e8
      go_wp2_with fail
      refine (CM.out _ _ rj.pb (HTd.out _ _ rj) rj.le).mono ?_
      rintro e w1 (⟨nm, vk, vb, vi, vs, k1, hm, rfl, i0, i1', i2, i3, r1⟩ | ⟨hm, nm, vk, vb, vi, vs, k1, rfl, r1⟩)
      case inr =>
        have R2 := (rj.trans r1).allo (.cells #[.string nm, .int .i64 vk, .bool vb, .int .i64 vi, .string vs, .slice none 0 0, .slice none 0 0] 50)
        have HM := hmk hm
        clear hm rj r1 oj
        go_wp2_with fail
        go_ret2
        exact .inr ⟨by rw [HF.out, key_1 HM.out], k1, rfl, R2⟩
      have HM := hmk hm
      have HEM : Hid (∀ W, EM false (some (nm, V.mk vk vb vi vs [] [])) W (fun _ => False) [.string nm, .int .i64 vk, .bool vb, .int .i64 vi, .string vs, .slice none 0 0, .slice none 0 0]) := fun W => ⟨_, rfl, i0, lies_sca i1' i2 i3 _ _⟩
      have R2 := ((rj.trans r1).allo (.cells #[.string nm, .int .i64 vk, .bool vb, .int .i64 vi, .string vs, .slice none 0 0, .slice none 0 0] 50)).allo (.cells #[.string nm, .int .i64 vk, .bool vb, .int .i64 vi, .string vs, .slice none 0 0, .slice none 0 0] 50)
      have o2 := ((HKG.out _ _ _ _ _ oj r1.gr).alloc (keepM false) (.cells #[.string nm, .int .i64 vk, .bool vb, .int .i64 vi, .string vs, .slice none 0 0, .slice none 0 0] 50)).alloc (keepM false) (.cells #[.string nm, .int .i64 vk, .bool vb, .int .i64 vi, .string vs, .slice none 0 0, .slice none 0 0] 50)
      have hb2 : w.heap.size ≤ ((w1.alloc (.cells #[.string nm, .int .i64 vk, .bool vb, .int .i64 vi, .string vs, .slice none 0 0, .slice none 0 0] 50)).alloc (.cells #[.string nm, .int .i64 vk, .bool vb, .int .i64 vi, .string vs, .slice none 0 0, .slice none 0 0] 50)).heap.size := R2.gr.size
      have hrow : ∀ r, u4.ownBlock = some r → w.heap.size ≤ r := fun r e => (oj.lt e).1
      clear hm i0 i1' i2 i3 oj
      go_wp2_with (at_builtin; go_loud (refine wpl_push (keepM false) _ rfl (.tmp 16) (.tmp 18) 43 rfl w.heap.size i1 _ 104 Tryz.underlying43 hJ.out.1 hJ.out.2.1 hJ.out.2.2.1 hJ.out.2.2.2 rfl (by decide) (by decide) u4 (some (nm, V.mk vk vb vi vs [] [])) rfl o2 (w1.heap.size + 1) 1 (0, 0) rfl (alloc2_new w1 _ _) rfl one7 (HEM.out _) (fun b hb => False.elim hb) (by rw [List.length_map]; have := HAC.out; omega) hb2 ?_))
      intro g' cap w5 o5 g5 e5
      have R5 := R2.own hlt g5 hrow
      have HA5 : Hid (acc.map some ++ [some (nm, V.mk vk vb vi vs [] [])] = (acc ++ [(nm, V.mk vk vb vi vs [] [])]).map some) := by show _ = _; rw [List.map_append]; rfl
      rw [HA5.out] at o5
      clear o2 R2 g5 e5 rj r1 hb2 hrow
      go_wp2_with fail
      refine (CB.out _ _ R5.pb R5.le).mono ?_
      rintro e w6 (⟨hT, rfl, r6⟩ | ⟨hT, rfl, r6⟩)
      · have HB := hmk hT
        have R6 := R5.trans r6
        have o6 := HKG.out _ _ _ _ _ o5 r6.gr
        obtain ⟨sa, sc, sb, so, hu, hd, hls⟩ := own_listM0 (T := New w w6) o6 (fun b hb => ⟨(o6.off b hb).1, (o6.off b hb).2.1⟩) (fun g hg => o6.lt hg)
        have HU := hmk hu
        have HD := hmk hd
        have HL := hmk hls
        clear hT r6 R5 o5 o6 hu hd hls
        go_wp2_with fail
        go_ret2
        exact .inl ⟨acc ++ [(nm, V.mk vk vb vi vs [] [])], k1 + 1, sa, sc, sb, so, by rw [HF.out, key_2 HM.out HB.out], by rw [HU.out]; rfl, HD.out, HL.out, R6⟩
      have HB := hmk hT
      have R6 := R5.trans r6
      have o6 := HKG.out _ _ _ _ _ o5 r6.gr
      clear hT r6 R5 o5
      go_wp2_with fail
      refine (CC.out _ _ R6.pb R6.le).mono ?_
      rintro e w7 (⟨hT, rfl, r7⟩ | ⟨hT, rfl, r7⟩)
      · have HC := hmk hT
        have R7 := R6.trans r7
        have o7 := HKG.out _ _ _ _ _ o6 r7.gr
        clear hT r7 R6 o6
        go_wp2_with fail
        go_roundw
        case rel => exact ⟨i + 1, acc ++ [(nm, V.mk vk vb vi vs [] [])], k1 + 1, _, _, by omega, by rw [List.length_append, HAC.out]; rfl, by go_num, rfl, hmk (by rw [HF.out, key_3 HM.out HB.out HC.out]; congr 1; omega), R7, o7⟩
        case measure => simp [RowKit.intOf]; omega
      · have HC := hmk hT
        have R7 := R6.trans r7
        clear hT r7 R6 o6
        go_wp2_with fail
        go_ret2
        exact .inr ⟨by rw [HF.out, key_4 HM.out HB.out HC.out], k1, rfl, R7⟩
    · obtain rfl : i = 8 := by omega
      clear oj
      go_wp2_with fail
      go_ret2
      exact .inr ⟨HF.out, kk, rfl, rj⟩
end Go.Proofs.YtihcggepeadklaaGreatDoor
