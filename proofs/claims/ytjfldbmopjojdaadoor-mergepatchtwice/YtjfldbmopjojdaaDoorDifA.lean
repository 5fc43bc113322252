import Derived.Test.YtjfldbmopjojdaaDoorBtwC
import Derived.Defers
import Derived.Recover
/- mergepatch.between, Diff: two maps of one member each. -/
set_option linter.unusedSimpArgs false
set_option linter.unusedVariables false
namespace Go.Proofs.YtjfldbmopjojdaaDoor
open Go.RowKit Go.Lib
theorem tg_one {qa qb : List (Mem × List Value)} {ka kb : ByteArray} {xa xb : V} (h : ltB ka kb = true) (ea : qa.map (fun q => q.1) = [(ka, xa)]) (eb : qb.map (fun q => q.1) = [(kb, xb)]) : ∃ y ∈ qa, ∃ z ∈ qb, y.1 = (ka, xa) ∧ z.1 = (kb, xb) ∧ tgR qa qb = [pA y, pB z] := by
  match qa, qb, ea, eb with
  | [y], [z], ea, eb =>
    have e1 : y.1 = (ka, xa) := by simpa using ea
    have e2 : z.1 = (kb, xb) := by simpa using eb
    refine ⟨y, List.mem_singleton_self _, z, List.mem_singleton_self _, e1, e2, ?_⟩
    rw [tgR, e1, e2, if_pos h, tgR, tgR]
  | [], _, ea, _ => simp at ea
  | [_], [], _, eb => simp at eb
  | [_], _ :: _ :: _, _, eb => simp at eb
  | _ :: _ :: _, _, ea, _ => simp at ea
theorem diff_idle (w : World) : CallsD Tryd.prog 40 #[] .returning w fun e u' w' => e = .returned (.tuple #[]) ∧ u' = .returning ∧ w' = w := by
  refine callsD_of_wpS Tryd.func40 rfl fun c₀ cs hu => ?_
  apply wpS_seq
  apply wpS_region
  simp [wpOpsS, go_sem, recoverD, hu, Tryd.ntmps40, Exit.thenS]
  apply wpS_seq
  apply wpS_region
  simp [wpOpsS, go_sem, recoverD, hu, Exit.thenS]
  refine wpS_cond (t := false) (by simp [Act.eval, Array.replicate]) ?_
  simp only [Bool.false_eq_true, if_false]
  refine wpS_of_wp (wp_skip ?_)
  cases c₀
  simp_all [bodyPostS, results, Tryd.results40]
set_option maxHeartbeats 4000000 in
set_option maxRecDepth 100000 in
theorem between_two (ka kb : ByteArray) (xa xb : V) (S : Nat → Prop) (cs ds : List Value) (w : World) (hlt : ltB ka kb = true) (hc : clnB xb = true) (hv : (V.mk 5 false 0 ⟨#[]⟩ [] [(ka, xa)]).lies false w S cs) (hx : (V.mk 5 false 0 ⟨#[]⟩ [] [(kb, xb)]).lies false w S ds) (hS : ∀ b, S b → b < w.heap.size) :
    Calls Tryd.prog 41 #[.agg cs.toArray, .agg ds.toArray] w (RpPost (V.mk 5 false 0 ⟨#[]⟩ [] [(ka, nullV), (kb, xb)]) S w) := by
  obtain ⟨tk, tb, ti, ts, tal, tnl, tcl, tam, tnm, tcm, rfl⟩ := V.ten hv
  obtain ⟨pk, pb, pi, ps, pal, pnl, pcl, pam, pnm, pcm, rfl⟩ := V.ten hx
  obtain rfl : (5 : Int) = tk := kind_lies hv
  obtain rfl : (5 : Int) = pk := kind_lies hx
  have Bww3 : Below w.heap.size w (((w.alloc (.cells #[.int .i64 5, .bool tb, .int .i64 ti, .string ts, .slice tal tnl tcl, .slice tam tnm tcm] 25)).alloc (.cells #[.int .i64 5, .bool pb, .int .i64 pi, .string ps, .slice pal pnl pcl, .slice pam pnm pcm] 25)).alloc (.cells #[.int .i64 0, .bool false, .int .i64 0, .string ⟨#[]⟩, .slice none 0 0, .slice none 0 0] 25)) := three_below w _ _ _
  have hz3 : (((w.alloc (.cells #[.int .i64 5, .bool tb, .int .i64 ti, .string ts, .slice tal tnl tcl, .slice tam tnm tcm] 25)).alloc (.cells #[.int .i64 5, .bool pb, .int .i64 pi, .string ps, .slice pal pnl pcl, .slice pam pnm pcm] 25)).alloc (.cells #[.int .i64 0, .bool false, .int .i64 0, .string ⟨#[]⟩, .slice none 0 0, .slice none 0 0] 25)).heap.size = w.heap.size + 3 := by rw [alloc_size, alloc_size, alloc_size]
  obtain ⟨htw3, hpw3, hzw3⟩ := three_allocs w (.cells #[.int .i64 5, .bool tb, .int .i64 ti, .string ts, .slice tal tnl tcl, .slice tam tnm tcm] 25) (.cells #[.int .i64 5, .bool pb, .int .i64 pi, .string ps, .slice pal pnl pcl, .slice pam pnm pcm] 25) (.cells #[.int .i64 0, .bool false, .int .i64 0, .string ⟨#[]⟩, .slice none 0 0, .slice none 0 0] 25)
  have hv3 := V.lies_keep (S' := S) (fun h => h) (fun x hx => Bww3.block x (hS x hx)) (fun x hx => hx) _ hv
  have hx3 := V.lies_keep (S' := S) (fun h => h) (fun x hx => Bww3.block x (hS x hx)) (fun x hx => hx) _ hx
  clear hv hx
  have ck0 : (((w.alloc (.cells #[.int .i64 5, .bool tb, .int .i64 ti, .string ts, .slice tal tnl tcl, .slice tam tnm tcm] 25)).alloc (.cells #[.int .i64 5, .bool pb, .int .i64 pi, .string ps, .slice pal pnl pcl, .slice pam pnm pcm] 25)).alloc (.cells #[.int .i64 0, .bool false, .int .i64 0, .string ⟨#[]⟩, .slice none 0 0, .slice none 0 0] 25)).cell? ⟨w.heap.size, 0, none⟩ = some (.int .i64 5) := by rw [cell_of_block htw3]; rfl
  have ck1 : (((w.alloc (.cells #[.int .i64 5, .bool tb, .int .i64 ti, .string ts, .slice tal tnl tcl, .slice tam tnm tcm] 25)).alloc (.cells #[.int .i64 5, .bool pb, .int .i64 pi, .string ps, .slice pal pnl pcl, .slice pam pnm pcm] 25)).alloc (.cells #[.int .i64 0, .bool false, .int .i64 0, .string ⟨#[]⟩, .slice none 0 0, .slice none 0 0] 25)).cell? ⟨w.heap.size, 1, none⟩ = some (.bool tb) := by rw [cell_of_block htw3]; rfl
  have ck2 : (((w.alloc (.cells #[.int .i64 5, .bool tb, .int .i64 ti, .string ts, .slice tal tnl tcl, .slice tam tnm tcm] 25)).alloc (.cells #[.int .i64 5, .bool pb, .int .i64 pi, .string ps, .slice pal pnl pcl, .slice pam pnm pcm] 25)).alloc (.cells #[.int .i64 0, .bool false, .int .i64 0, .string ⟨#[]⟩, .slice none 0 0, .slice none 0 0] 25)).cell? ⟨w.heap.size, 2, none⟩ = some (.int .i64 ti) := by rw [cell_of_block htw3]; rfl
  have ck3 : (((w.alloc (.cells #[.int .i64 5, .bool tb, .int .i64 ti, .string ts, .slice tal tnl tcl, .slice tam tnm tcm] 25)).alloc (.cells #[.int .i64 5, .bool pb, .int .i64 pi, .string ps, .slice pal pnl pcl, .slice pam pnm pcm] 25)).alloc (.cells #[.int .i64 0, .bool false, .int .i64 0, .string ⟨#[]⟩, .slice none 0 0, .slice none 0 0] 25)).cell? ⟨w.heap.size, 3, none⟩ = some (.string ts) := by rw [cell_of_block htw3]; rfl
  have ck4 : (((w.alloc (.cells #[.int .i64 5, .bool tb, .int .i64 ti, .string ts, .slice tal tnl tcl, .slice tam tnm tcm] 25)).alloc (.cells #[.int .i64 5, .bool pb, .int .i64 pi, .string ps, .slice pal pnl pcl, .slice pam pnm pcm] 25)).alloc (.cells #[.int .i64 0, .bool false, .int .i64 0, .string ⟨#[]⟩, .slice none 0 0, .slice none 0 0] 25)).cell? ⟨w.heap.size, 4, none⟩ = some (.slice tal tnl tcl) := by rw [cell_of_block htw3]; rfl
  have ck5 : (((w.alloc (.cells #[.int .i64 5, .bool tb, .int .i64 ti, .string ts, .slice tal tnl tcl, .slice tam tnm tcm] 25)).alloc (.cells #[.int .i64 5, .bool pb, .int .i64 pi, .string ps, .slice pal pnl pcl, .slice pam pnm pcm] 25)).alloc (.cells #[.int .i64 0, .bool false, .int .i64 0, .string ⟨#[]⟩, .slice none 0 0, .slice none 0 0] 25)).cell? ⟨w.heap.size, 5, none⟩ = some (.slice tam tnm tcm) := by rw [cell_of_block htw3]; rfl
  have cl0 : (((w.alloc (.cells #[.int .i64 5, .bool tb, .int .i64 ti, .string ts, .slice tal tnl tcl, .slice tam tnm tcm] 25)).alloc (.cells #[.int .i64 5, .bool pb, .int .i64 pi, .string ps, .slice pal pnl pcl, .slice pam pnm pcm] 25)).alloc (.cells #[.int .i64 0, .bool false, .int .i64 0, .string ⟨#[]⟩, .slice none 0 0, .slice none 0 0] 25)).cell? ⟨w.heap.size + 1, 0, none⟩ = some (.int .i64 5) := by rw [cell_of_block hpw3]; rfl
  have cl1 : (((w.alloc (.cells #[.int .i64 5, .bool tb, .int .i64 ti, .string ts, .slice tal tnl tcl, .slice tam tnm tcm] 25)).alloc (.cells #[.int .i64 5, .bool pb, .int .i64 pi, .string ps, .slice pal pnl pcl, .slice pam pnm pcm] 25)).alloc (.cells #[.int .i64 0, .bool false, .int .i64 0, .string ⟨#[]⟩, .slice none 0 0, .slice none 0 0] 25)).cell? ⟨w.heap.size + 1, 1, none⟩ = some (.bool pb) := by rw [cell_of_block hpw3]; rfl
  have cl2 : (((w.alloc (.cells #[.int .i64 5, .bool tb, .int .i64 ti, .string ts, .slice tal tnl tcl, .slice tam tnm tcm] 25)).alloc (.cells #[.int .i64 5, .bool pb, .int .i64 pi, .string ps, .slice pal pnl pcl, .slice pam pnm pcm] 25)).alloc (.cells #[.int .i64 0, .bool false, .int .i64 0, .string ⟨#[]⟩, .slice none 0 0, .slice none 0 0] 25)).cell? ⟨w.heap.size + 1, 2, none⟩ = some (.int .i64 pi) := by rw [cell_of_block hpw3]; rfl
  have cl3 : (((w.alloc (.cells #[.int .i64 5, .bool tb, .int .i64 ti, .string ts, .slice tal tnl tcl, .slice tam tnm tcm] 25)).alloc (.cells #[.int .i64 5, .bool pb, .int .i64 pi, .string ps, .slice pal pnl pcl, .slice pam pnm pcm] 25)).alloc (.cells #[.int .i64 0, .bool false, .int .i64 0, .string ⟨#[]⟩, .slice none 0 0, .slice none 0 0] 25)).cell? ⟨w.heap.size + 1, 3, none⟩ = some (.string ps) := by rw [cell_of_block hpw3]; rfl
  have cl4 : (((w.alloc (.cells #[.int .i64 5, .bool tb, .int .i64 ti, .string ts, .slice tal tnl tcl, .slice tam tnm tcm] 25)).alloc (.cells #[.int .i64 5, .bool pb, .int .i64 pi, .string ps, .slice pal pnl pcl, .slice pam pnm pcm] 25)).alloc (.cells #[.int .i64 0, .bool false, .int .i64 0, .string ⟨#[]⟩, .slice none 0 0, .slice none 0 0] 25)).cell? ⟨w.heap.size + 1, 4, none⟩ = some (.slice pal pnl pcl) := by rw [cell_of_block hpw3]; rfl
  have cl5 : (((w.alloc (.cells #[.int .i64 5, .bool tb, .int .i64 ti, .string ts, .slice tal tnl tcl, .slice tam tnm tcm] 25)).alloc (.cells #[.int .i64 5, .bool pb, .int .i64 pi, .string ps, .slice pal pnl pcl, .slice pam pnm pcm] 25)).alloc (.cells #[.int .i64 0, .bool false, .int .i64 0, .string ⟨#[]⟩, .slice none 0 0, .slice none 0 0] 25)).cell? ⟨w.heap.size + 1, 5, none⟩ = some (.slice pam pnm pcm) := by rw [cell_of_block hpw3]; rfl
  go_enter Tryd.func41, Tryd.ntmps41
  go_wp2_with fail
  clear ck0 ck1 ck2 ck3 ck4 ck5 cl0 cl1 cl2 cl3 cl4 cl5
  generalize (((w.alloc (.cells #[.int .i64 5, .bool tb, .int .i64 ti, .string ts, .slice tal tnl tcl, .slice tam tnm tcm] 25)).alloc (.cells #[.int .i64 5, .bool pb, .int .i64 pi, .string ps, .slice pal pnl pcl, .slice pam pnm pcm] 25)).alloc (.cells #[.int .i64 0, .bool false, .int .i64 0, .string ⟨#[]⟩, .slice none 0 0, .slice none 0 0] 25)) = w3 at *
  obtain ⟨ba, oa, qa, haH, eqa, lqa, rowa, pma, insa⟩ := mems_seg hv3
  obtain ⟨bb, ob, qb, hbH, eqb, lqb, rowb, pmb, insb⟩ := mems_seg hx3
  subst lqa lqb
  obtain ⟨y, hy, z, hz, ey, ez, etg⟩ := tg_one hlt eqa eqb
  have la := congrArg List.length eqa
  have lb := congrArg List.length eqb
  rw [List.length_map] at la lb
  have CB := btw_flat S qa qb tam pam tcm pcm ba oa bb ob w3 (fun b hb => by have := hS b hb; omega) haH hbH rowa rowb pma pmb insa insb (by rw [la]; exact (by decide : 1 ≤ 1114112)) (by rw [lb]; exact (by decide : 1 ≤ 1114112)) (by
    rw [etg]
    intro x hx
    obtain ⟨c1, f0, f1, f2⟩ := pma y hy
    obtain ⟨c2, g0, g1, g2⟩ := pmb z hz
    rcases List.mem_cons.1 hx with rfl | hx
    · exact ⟨f1, by rw [pA]; simp only; rw [f0]; exact f2, null_lies _ _, fun h => by cases h⟩
    · rcases List.mem_cons.1 hx with rfl | hx
      · exact ⟨g1, null_lies _ _, by rw [pB]; simp only; rw [g0]; exact g2, fun _ => ⟨rfl, by show ¬ kindOf nullV = 5; decide, by show clnB z.1.2 = true; rw [ez]; exact hc⟩⟩
      · cases hx)
  rw [etg, show List.map stB [pA y, pB z] = [(ka, nullV), (kb, xb)] from by simp [stB, pA, pB, ey, ez]] at CB
  clear la lb rowa rowb pma pmb insa insb eqa eqb etg haH hbH hv3 hx3
  refine CB.mono ?_
  rintro e w4 ⟨csn, rfl, hln, b4⟩
  clear CB
  obtain ⟨nk, nb, ni, ns, nal, nnl, ncl, nam, nnm, ncm, rfl⟩ := V.ten hln
  have hzw4 := b4.size
  have htw4 := (b4.block (w.heap.size) (by omega)).trans htw3
  have hpw4 := (b4.block (w.heap.size + 1) (by omega)).trans hpw3
  have hzw4 := (b4.block (w.heap.size + 2) (by omega)).trans hzw3
  have Bww4 := Bww3.trans (b4.mono (by omega))
  have cz0 : w4.cell? ⟨w.heap.size + 2, 0, none⟩ = some (.int .i64 0) := by rw [cell_of_block hzw4]; rfl
  have cz1 : w4.cell? ⟨w.heap.size + 2, 1, none⟩ = some (.bool false) := by rw [cell_of_block hzw4]; rfl
  have cz2 : w4.cell? ⟨w.heap.size + 2, 2, none⟩ = some (.int .i64 0) := by rw [cell_of_block hzw4]; rfl
  have cz3 : w4.cell? ⟨w.heap.size + 2, 3, none⟩ = some (.string ⟨#[]⟩) := by rw [cell_of_block hzw4]; rfl
  have cz4 : w4.cell? ⟨w.heap.size + 2, 4, none⟩ = some (.slice none 0 0) := by rw [cell_of_block hzw4]; rfl
  have cz5 : w4.cell? ⟨w.heap.size + 2, 5, none⟩ = some (.slice none 0 0) := by rw [cell_of_block hzw4]; rfl
  have fz := frozen_of_block hzw4
  have HE := hmk (wo_fin (M := w.heap.size + 2) (S := S) (by omega) hS Bww4 (V.lies_keep (fun h => h) (fun _ _ => rfl) (fun y hy => hy.elim .inl (fun h => .inr ⟨by have := h.1; omega, by have := h.1; omega, h.2⟩)) _ hln))
  go_wp2_with fail
  (try simp only [Exit.inBlock, Exit.then])
  refine bodyPost_ret (v := .agg #[.int .i64 nk, .bool nb, .int .i64 ni, .string ns, .slice nal nnl ncl, .slice nam nnm ncm]) ?_ rfl ?_
  rotate_left
  · exact ⟨[.int .i64 nk, .bool nb, .int .i64 ni, .string ns, .slice nal nnl ncl, .slice nam nnm ncm], rfl, HE.out.1, HE.out.2⟩
  · rw [results_cell1 rfl]
    go_simp
/-- a patch that was found, in new memory -/
def DfPost (x : V) (w : World) (e : Ending) (w' : World) : Prop := ∃ cs : List Value, e = .returned (.tuple #[.agg cs.toArray, .bool true, .int .i64 0]) ∧ x.lies false w' (New w w') cs ∧ Below w.heap.size w w'
set_option maxHeartbeats 4000000 in
set_option maxRecDepth 100000 in
theorem diff_two (ka kb : ByteArray) (xa xb : V) (S : Nat → Prop) (cs ds : List Value) (w : World) (hT : Tb w) (hlt : ltB ka kb = true) (hc : clnB xb = true) (h1 : bothE (V.mk 5 false 0 ⟨#[]⟩ [] [(ka, xa)]) (V.mk 5 false 0 ⟨#[]⟩ [] [(kb, xb)]) = 0) (h2 : chkE (V.mk 5 false 0 ⟨#[]⟩ [] [(ka, nullV), (kb, xb)]) 32 = 0) (hwt : (V.mk 5 false 0 ⟨#[]⟩ [] [(ka, xa)]).wt ≤ 2147483648) (hwp : (V.mk 5 false 0 ⟨#[]⟩ [] [(kb, xb)]).wt ≤ 2147483648) (hv : (V.mk 5 false 0 ⟨#[]⟩ [] [(ka, xa)]).lies false w S cs) (hx : (V.mk 5 false 0 ⟨#[]⟩ [] [(kb, xb)]).lies false w S ds) (hS : ∀ b, S b → b < w.heap.size) :
    Calls Tryd.prog 20 #[.agg cs.toArray, .agg ds.toArray] w (DfPost (V.mk 5 false 0 ⟨#[]⟩ [] [(ka, nullV), (kb, xb)]) w) := by
  obtain ⟨tk, tb, ti, ts, tal, tnl, tcl, tam, tnm, tcm, rfl⟩ := V.ten hv
  obtain ⟨pk, pb, pi, ps, pal, pnl, pcl, pam, pnm, pcm, rfl⟩ := V.ten hx
  obtain rfl : (5 : Int) = tk := kind_lies hv
  obtain rfl : (5 : Int) = pk := kind_lies hx
  have HL : Hid (∀ W, Below w.heap.size w W → (V.mk 5 false 0 ⟨#[]⟩ [] [(ka, xa)]).lies false W S [.int .i64 5, .bool tb, .int .i64 ti, .string ts, .slice tal tnl tcl, .slice tam tnm tcm] ∧ (V.mk 5 false 0 ⟨#[]⟩ [] [(kb, xb)]).lies false W S [.int .i64 5, .bool pb, .int .i64 pi, .string ps, .slice pal pnl pcl, .slice pam pnm pcm] ∧ (∀ b, S b → b < W.heap.size)) := fun W hB => ⟨V.lies_keep (fun h => h) (fun x hx => hB.block x (hS x hx)) (fun x hx => hx) _ hv, V.lies_keep (fun h => h) (fun x hx => hB.block x (hS x hx)) (fun x hx => hx) _ hx, fun x hx => Nat.lt_of_lt_of_le (hS x hx) hB.size⟩
  have HT : Hid (∀ W, Below w.heap.size w W → Tb W) := fun W hb => hT.below hb hT.z
  have Bww3 : Below w.heap.size w (((w.alloc (.cells #[.int .i64 5, .bool tb, .int .i64 ti, .string ts, .slice tal tnl tcl, .slice tam tnm tcm] 25)).alloc (.cells #[.int .i64 5, .bool pb, .int .i64 pi, .string ps, .slice pal pnl pcl, .slice pam pnm pcm] 25)).alloc (.cells #[.int .i64 0, .bool false, .int .i64 0, .string ⟨#[]⟩, .slice none 0 0, .slice none 0 0] 25)) := three_below w _ _ _
  have hz3 : (((w.alloc (.cells #[.int .i64 5, .bool tb, .int .i64 ti, .string ts, .slice tal tnl tcl, .slice tam tnm tcm] 25)).alloc (.cells #[.int .i64 5, .bool pb, .int .i64 pi, .string ps, .slice pal pnl pcl, .slice pam pnm pcm] 25)).alloc (.cells #[.int .i64 0, .bool false, .int .i64 0, .string ⟨#[]⟩, .slice none 0 0, .slice none 0 0] 25)).heap.size = w.heap.size + 3 := by rw [alloc_size, alloc_size, alloc_size]
  obtain ⟨htw3, hpw3, hzw3⟩ := three_allocs w (.cells #[.int .i64 5, .bool tb, .int .i64 ti, .string ts, .slice tal tnl tcl, .slice tam tnm tcm] 25) (.cells #[.int .i64 5, .bool pb, .int .i64 pi, .string ps, .slice pal pnl pcl, .slice pam pnm pcm] 25) (.cells #[.int .i64 0, .bool false, .int .i64 0, .string ⟨#[]⟩, .slice none 0 0, .slice none 0 0] 25)
  have C1 : Hid (∀ W, Below w.heap.size w W → Calls Tryd.prog 32 #[.agg #[.int .i64 5, .bool tb, .int .i64 ti, .string ts, .slice tal tnl tcl, .slice tam tnm tcm], .agg #[.int .i64 5, .bool pb, .int .i64 pi, .string ps, .slice pal pnl pcl, .slice pam pnm pcm]] W (NPost 0 W)) := fun W hb => by
    have h := both_any (V.mk 5 false 0 ⟨#[]⟩ [] [(ka, xa)]) (V.mk 5 false 0 ⟨#[]⟩ [] [(kb, xb)]) S _ _ W (HT.out W hb) (HL.out W hb).1 (HL.out W hb).2.1 (HL.out W hb).2.2 hwt hwp
    rw [h1] at h
    exact h
  have hwd : (V.mk 5 false 0 ⟨#[]⟩ [] [(ka, nullV), (kb, xb)]).wt ≤ 2147483648 := by have := (ok_chk (D := 32) (by omega) h2).wt; omega
  clear hv hx h1
  have ck0 : (((w.alloc (.cells #[.int .i64 5, .bool tb, .int .i64 ti, .string ts, .slice tal tnl tcl, .slice tam tnm tcm] 25)).alloc (.cells #[.int .i64 5, .bool pb, .int .i64 pi, .string ps, .slice pal pnl pcl, .slice pam pnm pcm] 25)).alloc (.cells #[.int .i64 0, .bool false, .int .i64 0, .string ⟨#[]⟩, .slice none 0 0, .slice none 0 0] 25)).cell? ⟨w.heap.size, 0, none⟩ = some (.int .i64 5) := by rw [cell_of_block htw3]; rfl
  have ck1 : (((w.alloc (.cells #[.int .i64 5, .bool tb, .int .i64 ti, .string ts, .slice tal tnl tcl, .slice tam tnm tcm] 25)).alloc (.cells #[.int .i64 5, .bool pb, .int .i64 pi, .string ps, .slice pal pnl pcl, .slice pam pnm pcm] 25)).alloc (.cells #[.int .i64 0, .bool false, .int .i64 0, .string ⟨#[]⟩, .slice none 0 0, .slice none 0 0] 25)).cell? ⟨w.heap.size, 1, none⟩ = some (.bool tb) := by rw [cell_of_block htw3]; rfl
  have ck2 : (((w.alloc (.cells #[.int .i64 5, .bool tb, .int .i64 ti, .string ts, .slice tal tnl tcl, .slice tam tnm tcm] 25)).alloc (.cells #[.int .i64 5, .bool pb, .int .i64 pi, .string ps, .slice pal pnl pcl, .slice pam pnm pcm] 25)).alloc (.cells #[.int .i64 0, .bool false, .int .i64 0, .string ⟨#[]⟩, .slice none 0 0, .slice none 0 0] 25)).cell? ⟨w.heap.size, 2, none⟩ = some (.int .i64 ti) := by rw [cell_of_block htw3]; rfl
  have ck3 : (((w.alloc (.cells #[.int .i64 5, .bool tb, .int .i64 ti, .string ts, .slice tal tnl tcl, .slice tam tnm tcm] 25)).alloc (.cells #[.int .i64 5, .bool pb, .int .i64 pi, .string ps, .slice pal pnl pcl, .slice pam pnm pcm] 25)).alloc (.cells #[.int .i64 0, .bool false, .int .i64 0, .string ⟨#[]⟩, .slice none 0 0, .slice none 0 0] 25)).cell? ⟨w.heap.size, 3, none⟩ = some (.string ts) := by rw [cell_of_block htw3]; rfl
  have ck4 : (((w.alloc (.cells #[.int .i64 5, .bool tb, .int .i64 ti, .string ts, .slice tal tnl tcl, .slice tam tnm tcm] 25)).alloc (.cells #[.int .i64 5, .bool pb, .int .i64 pi, .string ps, .slice pal pnl pcl, .slice pam pnm pcm] 25)).alloc (.cells #[.int .i64 0, .bool false, .int .i64 0, .string ⟨#[]⟩, .slice none 0 0, .slice none 0 0] 25)).cell? ⟨w.heap.size, 4, none⟩ = some (.slice tal tnl tcl) := by rw [cell_of_block htw3]; rfl
  have ck5 : (((w.alloc (.cells #[.int .i64 5, .bool tb, .int .i64 ti, .string ts, .slice tal tnl tcl, .slice tam tnm tcm] 25)).alloc (.cells #[.int .i64 5, .bool pb, .int .i64 pi, .string ps, .slice pal pnl pcl, .slice pam pnm pcm] 25)).alloc (.cells #[.int .i64 0, .bool false, .int .i64 0, .string ⟨#[]⟩, .slice none 0 0, .slice none 0 0] 25)).cell? ⟨w.heap.size, 5, none⟩ = some (.slice tam tnm tcm) := by rw [cell_of_block htw3]; rfl
  have cl0 : (((w.alloc (.cells #[.int .i64 5, .bool tb, .int .i64 ti, .string ts, .slice tal tnl tcl, .slice tam tnm tcm] 25)).alloc (.cells #[.int .i64 5, .bool pb, .int .i64 pi, .string ps, .slice pal pnl pcl, .slice pam pnm pcm] 25)).alloc (.cells #[.int .i64 0, .bool false, .int .i64 0, .string ⟨#[]⟩, .slice none 0 0, .slice none 0 0] 25)).cell? ⟨w.heap.size + 1, 0, none⟩ = some (.int .i64 5) := by rw [cell_of_block hpw3]; rfl
  have cl1 : (((w.alloc (.cells #[.int .i64 5, .bool tb, .int .i64 ti, .string ts, .slice tal tnl tcl, .slice tam tnm tcm] 25)).alloc (.cells #[.int .i64 5, .bool pb, .int .i64 pi, .string ps, .slice pal pnl pcl, .slice pam pnm pcm] 25)).alloc (.cells #[.int .i64 0, .bool false, .int .i64 0, .string ⟨#[]⟩, .slice none 0 0, .slice none 0 0] 25)).cell? ⟨w.heap.size + 1, 1, none⟩ = some (.bool pb) := by rw [cell_of_block hpw3]; rfl
  have cl2 : (((w.alloc (.cells #[.int .i64 5, .bool tb, .int .i64 ti, .string ts, .slice tal tnl tcl, .slice tam tnm tcm] 25)).alloc (.cells #[.int .i64 5, .bool pb, .int .i64 pi, .string ps, .slice pal pnl pcl, .slice pam pnm pcm] 25)).alloc (.cells #[.int .i64 0, .bool false, .int .i64 0, .string ⟨#[]⟩, .slice none 0 0, .slice none 0 0] 25)).cell? ⟨w.heap.size + 1, 2, none⟩ = some (.int .i64 pi) := by rw [cell_of_block hpw3]; rfl
  have cl3 : (((w.alloc (.cells #[.int .i64 5, .bool tb, .int .i64 ti, .string ts, .slice tal tnl tcl, .slice tam tnm tcm] 25)).alloc (.cells #[.int .i64 5, .bool pb, .int .i64 pi, .string ps, .slice pal pnl pcl, .slice pam pnm pcm] 25)).alloc (.cells #[.int .i64 0, .bool false, .int .i64 0, .string ⟨#[]⟩, .slice none 0 0, .slice none 0 0] 25)).cell? ⟨w.heap.size + 1, 3, none⟩ = some (.string ps) := by rw [cell_of_block hpw3]; rfl
  have cl4 : (((w.alloc (.cells #[.int .i64 5, .bool tb, .int .i64 ti, .string ts, .slice tal tnl tcl, .slice tam tnm tcm] 25)).alloc (.cells #[.int .i64 5, .bool pb, .int .i64 pi, .string ps, .slice pal pnl pcl, .slice pam pnm pcm] 25)).alloc (.cells #[.int .i64 0, .bool false, .int .i64 0, .string ⟨#[]⟩, .slice none 0 0, .slice none 0 0] 25)).cell? ⟨w.heap.size + 1, 4, none⟩ = some (.slice pal pnl pcl) := by rw [cell_of_block hpw3]; rfl
  have cl5 : (((w.alloc (.cells #[.int .i64 5, .bool tb, .int .i64 ti, .string ts, .slice tal tnl tcl, .slice tam tnm tcm] 25)).alloc (.cells #[.int .i64 5, .bool pb, .int .i64 pi, .string ps, .slice pal pnl pcl, .slice pam pnm pcm] 25)).alloc (.cells #[.int .i64 0, .bool false, .int .i64 0, .string ⟨#[]⟩, .slice none 0 0, .slice none 0 0] 25)).cell? ⟨w.heap.size + 1, 5, none⟩ = some (.slice pam pnm pcm) := by rw [cell_of_block hpw3]; rfl
  go_enter_defers Tryd.func20, Tryd.ntmps20
  go_wp2_with fail
  clear ck0 ck1 ck2 ck3 ck4 ck5 cl0 cl1 cl2 cl3 cl4 cl5
  generalize (((w.alloc (.cells #[.int .i64 5, .bool tb, .int .i64 ti, .string ts, .slice tal tnl tcl, .slice tam tnm tcm] 25)).alloc (.cells #[.int .i64 5, .bool pb, .int .i64 pi, .string ps, .slice pal pnl pcl, .slice pam pnm pcm] 25)).alloc (.cells #[.int .i64 0, .bool false, .int .i64 0, .string ⟨#[]⟩, .slice none 0 0, .slice none 0 0] 25)) = w3 at *
  refine (C1.out w3 Bww3).mono ?_
  rintro e w4 ⟨rfl, b4⟩
  have hzw4 := b4.size
  have htw4 := (b4.block (w.heap.size) (by omega)).trans htw3
  have hpw4 := (b4.block (w.heap.size + 1) (by omega)).trans hpw3
  have hzw4 := (b4.block (w.heap.size + 2) (by omega)).trans hzw3
  have Bww4 := Bww3.trans (b4.mono (by omega))
  have ct0 : w4.cell? ⟨w.heap.size, 0, none⟩ = some (.int .i64 5) := by rw [cell_of_block htw4]; rfl
  have ct1 : w4.cell? ⟨w.heap.size, 1, none⟩ = some (.bool tb) := by rw [cell_of_block htw4]; rfl
  have ct2 : w4.cell? ⟨w.heap.size, 2, none⟩ = some (.int .i64 ti) := by rw [cell_of_block htw4]; rfl
  have ct3 : w4.cell? ⟨w.heap.size, 3, none⟩ = some (.string ts) := by rw [cell_of_block htw4]; rfl
  have ct4 : w4.cell? ⟨w.heap.size, 4, none⟩ = some (.slice tal tnl tcl) := by rw [cell_of_block htw4]; rfl
  have ct5 : w4.cell? ⟨w.heap.size, 5, none⟩ = some (.slice tam tnm tcm) := by rw [cell_of_block htw4]; rfl
  have cp0 : w4.cell? ⟨w.heap.size + 1, 0, none⟩ = some (.int .i64 5) := by rw [cell_of_block hpw4]; rfl
  have cp1 : w4.cell? ⟨w.heap.size + 1, 1, none⟩ = some (.bool pb) := by rw [cell_of_block hpw4]; rfl
  have cp2 : w4.cell? ⟨w.heap.size + 1, 2, none⟩ = some (.int .i64 pi) := by rw [cell_of_block hpw4]; rfl
  have cp3 : w4.cell? ⟨w.heap.size + 1, 3, none⟩ = some (.string ps) := by rw [cell_of_block hpw4]; rfl
  have cp4 : w4.cell? ⟨w.heap.size + 1, 4, none⟩ = some (.slice pal pnl pcl) := by rw [cell_of_block hpw4]; rfl
  have cp5 : w4.cell? ⟨w.heap.size + 1, 5, none⟩ = some (.slice pam pnm pcm) := by rw [cell_of_block hpw4]; rfl
  go_wp2_with fail
  clear ct0 ct1 ct2 ct3 ct4 ct5 cp0 cp1 cp2 cp3 cp4 cp5
  refine (between_two ka kb xa xb S _ _ w4 hlt hc (HL.out w4 Bww4).1 (HL.out w4 Bww4).2.1 (HL.out w4 Bww4).2.2).mono ?_
  rintro e w5 ⟨csr, rfl, hlr, b5⟩
  obtain ⟨rk, rb, ri, rs, ral, rnl, rcl, ram, rnm, rcm, rfl⟩ := V.ten hlr
  have hS4 := (HL.out w4 Bww4).2.2
  have hzw5 := b5.size
  have htw5 := (b5.block (w.heap.size) (by omega)).trans htw4
  have hpw5 := (b5.block (w.heap.size + 1) (by omega)).trans hpw4
  have hzw5 := (b5.block (w.heap.size + 2) (by omega)).trans hzw4
  have Bww5 := Bww4.trans (b5.mono (by omega))
  have CF := finished_any (V.mk 5 false 0 ⟨#[]⟩ [] [(ka, nullV), (kb, xb)]) _ _ w5 (HT.out w5 Bww5) hlr (fun y hy => by rcases hy with h | h <;> first | exact h.2 | (have := hS4 y h; omega)) hwd
  rw [finF, if_pos h2] at CF
  clear hlr
  go_wp2_with fail
  refine CF.mono ?_
  rintro e w6 ⟨csn, rfl, hln, b6⟩
  clear CF
  simp only at hln
  obtain ⟨nk, nb, ni, ns, nal, nnl, ncl, nam, nnm, ncm, rfl⟩ := V.ten hln
  have hzw6 := b6.size
  have htw6 := (b6.block (w.heap.size) (by omega)).trans htw5
  have hpw6 := (b6.block (w.heap.size + 1) (by omega)).trans hpw5
  have hzw6 := (b6.block (w.heap.size + 2) (by omega)).trans hzw5
  have Bww6 := Bww5.trans (b6.mono (by omega))
  have cz0 : w6.cell? ⟨w.heap.size + 2, 0, none⟩ = some (.int .i64 0) := by rw [cell_of_block hzw6]; rfl
  have cz1 : w6.cell? ⟨w.heap.size + 2, 1, none⟩ = some (.bool false) := by rw [cell_of_block hzw6]; rfl
  have cz2 : w6.cell? ⟨w.heap.size + 2, 2, none⟩ = some (.int .i64 0) := by rw [cell_of_block hzw6]; rfl
  have cz3 : w6.cell? ⟨w.heap.size + 2, 3, none⟩ = some (.string ⟨#[]⟩) := by rw [cell_of_block hzw6]; rfl
  have cz4 : w6.cell? ⟨w.heap.size + 2, 4, none⟩ = some (.slice none 0 0) := by rw [cell_of_block hzw6]; rfl
  have cz5 : w6.cell? ⟨w.heap.size + 2, 5, none⟩ = some (.slice none 0 0) := by rw [cell_of_block hzw6]; rfl
  have fz := frozen_of_block hzw6
  have HE := hmk (wn_fin (M := w.heap.size + 2) (by omega) Bww6 (V.lies_keep (fun h => h) (fun _ _ => rfl) (fun y hy => ⟨by have := hy.1; omega, by have := hy.1; omega, hy.2⟩) _ hln))
  have hz7 := box_six hzw6 (.int .i64 nk) (.bool nb) (.int .i64 ni) (.string ns) (.slice nal nnl ncl) (.slice nam nnm ncm)
  have B7 := Below.set6 Bww6 (M := w.heap.size + 2) (by omega) 0 1 2 3 4 5 (.int .i64 nk) (.bool nb) (.int .i64 ni) (.string ns) (.slice nal nnl ncl) (.slice nam nnm ncm)
  have cy0 : ((((((w6.setCell ⟨w.heap.size + 2, 0, none⟩ (.int .i64 nk)).setCell ⟨w.heap.size + 2, 1, none⟩ (.bool nb)).setCell ⟨w.heap.size + 2, 2, none⟩ (.int .i64 ni)).setCell ⟨w.heap.size + 2, 3, none⟩ (.string ns)).setCell ⟨w.heap.size + 2, 4, none⟩ (.slice nal nnl ncl)).setCell ⟨w.heap.size + 2, 5, none⟩ (.slice nam nnm ncm)).cell? ⟨w.heap.size + 2, 0, none⟩ = some (.int .i64 nk) := by rw [cell_of_block hz7]; rfl
  have cy1 : ((((((w6.setCell ⟨w.heap.size + 2, 0, none⟩ (.int .i64 nk)).setCell ⟨w.heap.size + 2, 1, none⟩ (.bool nb)).setCell ⟨w.heap.size + 2, 2, none⟩ (.int .i64 ni)).setCell ⟨w.heap.size + 2, 3, none⟩ (.string ns)).setCell ⟨w.heap.size + 2, 4, none⟩ (.slice nal nnl ncl)).setCell ⟨w.heap.size + 2, 5, none⟩ (.slice nam nnm ncm)).cell? ⟨w.heap.size + 2, 1, none⟩ = some (.bool nb) := by rw [cell_of_block hz7]; rfl
  have cy2 : ((((((w6.setCell ⟨w.heap.size + 2, 0, none⟩ (.int .i64 nk)).setCell ⟨w.heap.size + 2, 1, none⟩ (.bool nb)).setCell ⟨w.heap.size + 2, 2, none⟩ (.int .i64 ni)).setCell ⟨w.heap.size + 2, 3, none⟩ (.string ns)).setCell ⟨w.heap.size + 2, 4, none⟩ (.slice nal nnl ncl)).setCell ⟨w.heap.size + 2, 5, none⟩ (.slice nam nnm ncm)).cell? ⟨w.heap.size + 2, 2, none⟩ = some (.int .i64 ni) := by rw [cell_of_block hz7]; rfl
  have cy3 : ((((((w6.setCell ⟨w.heap.size + 2, 0, none⟩ (.int .i64 nk)).setCell ⟨w.heap.size + 2, 1, none⟩ (.bool nb)).setCell ⟨w.heap.size + 2, 2, none⟩ (.int .i64 ni)).setCell ⟨w.heap.size + 2, 3, none⟩ (.string ns)).setCell ⟨w.heap.size + 2, 4, none⟩ (.slice nal nnl ncl)).setCell ⟨w.heap.size + 2, 5, none⟩ (.slice nam nnm ncm)).cell? ⟨w.heap.size + 2, 3, none⟩ = some (.string ns) := by rw [cell_of_block hz7]; rfl
  have cy4 : ((((((w6.setCell ⟨w.heap.size + 2, 0, none⟩ (.int .i64 nk)).setCell ⟨w.heap.size + 2, 1, none⟩ (.bool nb)).setCell ⟨w.heap.size + 2, 2, none⟩ (.int .i64 ni)).setCell ⟨w.heap.size + 2, 3, none⟩ (.string ns)).setCell ⟨w.heap.size + 2, 4, none⟩ (.slice nal nnl ncl)).setCell ⟨w.heap.size + 2, 5, none⟩ (.slice nam nnm ncm)).cell? ⟨w.heap.size + 2, 4, none⟩ = some (.slice nal nnl ncl) := by rw [cell_of_block hz7]; rfl
  have cy5 : ((((((w6.setCell ⟨w.heap.size + 2, 0, none⟩ (.int .i64 nk)).setCell ⟨w.heap.size + 2, 1, none⟩ (.bool nb)).setCell ⟨w.heap.size + 2, 2, none⟩ (.int .i64 ni)).setCell ⟨w.heap.size + 2, 3, none⟩ (.string ns)).setCell ⟨w.heap.size + 2, 4, none⟩ (.slice nal nnl ncl)).setCell ⟨w.heap.size + 2, 5, none⟩ (.slice nam nnm ncm)).cell? ⟨w.heap.size + 2, 5, none⟩ = some (.slice nam nnm ncm) := by rw [cell_of_block hz7]; rfl
  have fy := frozen_of_block hz7
  have L7 : (V.mk 5 false 0 ⟨#[]⟩ [] [(ka, nullV), (kb, xb)]).lies false ((((((w6.setCell ⟨w.heap.size + 2, 0, none⟩ (.int .i64 nk)).setCell ⟨w.heap.size + 2, 1, none⟩ (.bool nb)).setCell ⟨w.heap.size + 2, 2, none⟩ (.int .i64 ni)).setCell ⟨w.heap.size + 2, 3, none⟩ (.string ns)).setCell ⟨w.heap.size + 2, 4, none⟩ (.slice nal nnl ncl)).setCell ⟨w.heap.size + 2, 5, none⟩ (.slice nam nnm ncm)) (fun y => w.heap.size ≤ y ∧ y ≠ w.heap.size + 2 ∧ y < ((((((w6.setCell ⟨w.heap.size + 2, 0, none⟩ (.int .i64 nk)).setCell ⟨w.heap.size + 2, 1, none⟩ (.bool nb)).setCell ⟨w.heap.size + 2, 2, none⟩ (.int .i64 ni)).setCell ⟨w.heap.size + 2, 3, none⟩ (.string ns)).setCell ⟨w.heap.size + 2, 4, none⟩ (.slice nal nnl ncl)).setCell ⟨w.heap.size + 2, 5, none⟩ (.slice nam nnm ncm)).heap.size) [.int .i64 nk, .bool nb, .int .i64 ni, .string ns, .slice nal nnl ncl, .slice nam nnm ncm] := V.lies_keep (fun h => h) (fun y hy => six_o w6 (w.heap.size + 2) (.int .i64 nk) (.bool nb) (.int .i64 ni) (.string ns) (.slice nal nnl ncl) (.slice nam nnm ncm) y (by have := hy.1; omega)) (fun y hy => ⟨by have := hy.1; omega, by have := hy.1; omega, by rw [six_z]; exact hy.2⟩) _ hln
  have HE2 := hmk (wn_fin (M := w.heap.size + 2) (by omega) B7 L7)
  have hz8 := box_six hz7 (.int .i64 nk) (.bool nb) (.int .i64 ni) (.string ns) (.slice nal nnl ncl) (.slice nam nnm ncm)
  have cw0 : ((((((((((((w6.setCell ⟨w.heap.size + 2, 0, none⟩ (.int .i64 nk)).setCell ⟨w.heap.size + 2, 1, none⟩ (.bool nb)).setCell ⟨w.heap.size + 2, 2, none⟩ (.int .i64 ni)).setCell ⟨w.heap.size + 2, 3, none⟩ (.string ns)).setCell ⟨w.heap.size + 2, 4, none⟩ (.slice nal nnl ncl)).setCell ⟨w.heap.size + 2, 5, none⟩ (.slice nam nnm ncm)).setCell ⟨w.heap.size + 2, 0, none⟩ (.int .i64 nk)).setCell ⟨w.heap.size + 2, 1, none⟩ (.bool nb)).setCell ⟨w.heap.size + 2, 2, none⟩ (.int .i64 ni)).setCell ⟨w.heap.size + 2, 3, none⟩ (.string ns)).setCell ⟨w.heap.size + 2, 4, none⟩ (.slice nal nnl ncl)).setCell ⟨w.heap.size + 2, 5, none⟩ (.slice nam nnm ncm)).cell? ⟨w.heap.size + 2, 0, none⟩ = some (.int .i64 nk) := by rw [cell_of_block hz8]; rfl
  have cw1 : ((((((((((((w6.setCell ⟨w.heap.size + 2, 0, none⟩ (.int .i64 nk)).setCell ⟨w.heap.size + 2, 1, none⟩ (.bool nb)).setCell ⟨w.heap.size + 2, 2, none⟩ (.int .i64 ni)).setCell ⟨w.heap.size + 2, 3, none⟩ (.string ns)).setCell ⟨w.heap.size + 2, 4, none⟩ (.slice nal nnl ncl)).setCell ⟨w.heap.size + 2, 5, none⟩ (.slice nam nnm ncm)).setCell ⟨w.heap.size + 2, 0, none⟩ (.int .i64 nk)).setCell ⟨w.heap.size + 2, 1, none⟩ (.bool nb)).setCell ⟨w.heap.size + 2, 2, none⟩ (.int .i64 ni)).setCell ⟨w.heap.size + 2, 3, none⟩ (.string ns)).setCell ⟨w.heap.size + 2, 4, none⟩ (.slice nal nnl ncl)).setCell ⟨w.heap.size + 2, 5, none⟩ (.slice nam nnm ncm)).cell? ⟨w.heap.size + 2, 1, none⟩ = some (.bool nb) := by rw [cell_of_block hz8]; rfl
  have cw2 : ((((((((((((w6.setCell ⟨w.heap.size + 2, 0, none⟩ (.int .i64 nk)).setCell ⟨w.heap.size + 2, 1, none⟩ (.bool nb)).setCell ⟨w.heap.size + 2, 2, none⟩ (.int .i64 ni)).setCell ⟨w.heap.size + 2, 3, none⟩ (.string ns)).setCell ⟨w.heap.size + 2, 4, none⟩ (.slice nal nnl ncl)).setCell ⟨w.heap.size + 2, 5, none⟩ (.slice nam nnm ncm)).setCell ⟨w.heap.size + 2, 0, none⟩ (.int .i64 nk)).setCell ⟨w.heap.size + 2, 1, none⟩ (.bool nb)).setCell ⟨w.heap.size + 2, 2, none⟩ (.int .i64 ni)).setCell ⟨w.heap.size + 2, 3, none⟩ (.string ns)).setCell ⟨w.heap.size + 2, 4, none⟩ (.slice nal nnl ncl)).setCell ⟨w.heap.size + 2, 5, none⟩ (.slice nam nnm ncm)).cell? ⟨w.heap.size + 2, 2, none⟩ = some (.int .i64 ni) := by rw [cell_of_block hz8]; rfl
  have cw3 : ((((((((((((w6.setCell ⟨w.heap.size + 2, 0, none⟩ (.int .i64 nk)).setCell ⟨w.heap.size + 2, 1, none⟩ (.bool nb)).setCell ⟨w.heap.size + 2, 2, none⟩ (.int .i64 ni)).setCell ⟨w.heap.size + 2, 3, none⟩ (.string ns)).setCell ⟨w.heap.size + 2, 4, none⟩ (.slice nal nnl ncl)).setCell ⟨w.heap.size + 2, 5, none⟩ (.slice nam nnm ncm)).setCell ⟨w.heap.size + 2, 0, none⟩ (.int .i64 nk)).setCell ⟨w.heap.size + 2, 1, none⟩ (.bool nb)).setCell ⟨w.heap.size + 2, 2, none⟩ (.int .i64 ni)).setCell ⟨w.heap.size + 2, 3, none⟩ (.string ns)).setCell ⟨w.heap.size + 2, 4, none⟩ (.slice nal nnl ncl)).setCell ⟨w.heap.size + 2, 5, none⟩ (.slice nam nnm ncm)).cell? ⟨w.heap.size + 2, 3, none⟩ = some (.string ns) := by rw [cell_of_block hz8]; rfl
  have cw4 : ((((((((((((w6.setCell ⟨w.heap.size + 2, 0, none⟩ (.int .i64 nk)).setCell ⟨w.heap.size + 2, 1, none⟩ (.bool nb)).setCell ⟨w.heap.size + 2, 2, none⟩ (.int .i64 ni)).setCell ⟨w.heap.size + 2, 3, none⟩ (.string ns)).setCell ⟨w.heap.size + 2, 4, none⟩ (.slice nal nnl ncl)).setCell ⟨w.heap.size + 2, 5, none⟩ (.slice nam nnm ncm)).setCell ⟨w.heap.size + 2, 0, none⟩ (.int .i64 nk)).setCell ⟨w.heap.size + 2, 1, none⟩ (.bool nb)).setCell ⟨w.heap.size + 2, 2, none⟩ (.int .i64 ni)).setCell ⟨w.heap.size + 2, 3, none⟩ (.string ns)).setCell ⟨w.heap.size + 2, 4, none⟩ (.slice nal nnl ncl)).setCell ⟨w.heap.size + 2, 5, none⟩ (.slice nam nnm ncm)).cell? ⟨w.heap.size + 2, 4, none⟩ = some (.slice nal nnl ncl) := by rw [cell_of_block hz8]; rfl
  have cw5 : ((((((((((((w6.setCell ⟨w.heap.size + 2, 0, none⟩ (.int .i64 nk)).setCell ⟨w.heap.size + 2, 1, none⟩ (.bool nb)).setCell ⟨w.heap.size + 2, 2, none⟩ (.int .i64 ni)).setCell ⟨w.heap.size + 2, 3, none⟩ (.string ns)).setCell ⟨w.heap.size + 2, 4, none⟩ (.slice nal nnl ncl)).setCell ⟨w.heap.size + 2, 5, none⟩ (.slice nam nnm ncm)).setCell ⟨w.heap.size + 2, 0, none⟩ (.int .i64 nk)).setCell ⟨w.heap.size + 2, 1, none⟩ (.bool nb)).setCell ⟨w.heap.size + 2, 2, none⟩ (.int .i64 ni)).setCell ⟨w.heap.size + 2, 3, none⟩ (.string ns)).setCell ⟨w.heap.size + 2, 4, none⟩ (.slice nal nnl ncl)).setCell ⟨w.heap.size + 2, 5, none⟩ (.slice nam nnm ncm)).cell? ⟨w.heap.size + 2, 5, none⟩ = some (.slice nam nnm ncm) := by rw [cell_of_block hz8]; rfl
  clear L7 HE
  go_wp2_with fail
  refine leaves_cons (f := 40) (args := #[]) (by simp) (by simp [go_sem]) ?_
  refine (diff_idle _).mono ?_
  rintro e u' w'' ⟨rfl, rfl, rfl⟩
  refine ⟨.tuple #[.agg #[.int .i64 nk, .bool nb, .int .i64 ni, .string ns, .slice nal nnl ncl, .slice nam nnm ncm], .bool true, .int .i64 0], ?_, [.int .i64 nk, .bool nb, .int .i64 ni, .string ns, .slice nal nnl ncl, .slice nam nnm ncm], rfl, HE2.out.1, HE2.out.2⟩
  simp [results, Tryd.results20, go_sem, cw0, cw1, cw2, cw3, cw4, cw5]
end Go.Proofs.YtjfldbmopjojdaaDoor
