import Derived.Test.YtjfldbmopjojdaaDoorWitX
import Derived.Test.YtjfldbmopjojdaaDoorG29
import Derived.Test.YtjfldbmopjojdaaDoorRgtA
/- freeholdref05.Patched. -/
set_option linter.unusedSimpArgs false
set_option linter.unusedVariables false
namespace Go.Proofs.YtjfldbmopjojdaaDoor
open Go.RowKit Go.Lib
theorem kind_lies {R : Bool} {w : World} {S : Nat → Prop} {x : V} {ek : Int} {cs : List Value} (h : x.lies R w S (.int .i64 ek :: cs)) : kindOf x = ek := by
  obtain ⟨k, b, i, s, l, m⟩ := x
  rw [V.lies] at h
  obtain ⟨_, _, _, _, _, _, _, _, e, _⟩ := h
  injection e with e1 _
  injection e1 with _ e2
  exact e2.symm
theorem wtM_take : ∀ (m : List Mem) (j : Nat), wtM (m.take j) ≤ wtM m
  | [], j => by simp [wtM]
  | (k, x) :: t, 0 => by simp [wtM]
  | (k, x) :: t, j + 1 => by
    have := wtM_take t j
    rw [List.take_succ_cons]; simp only [wtM]; omega
/-- the answer's box is filled last, all new -/
theorem wn_fin {w w3 : World} {x : V} {M : Nat} {c0 c1 c2 c3 c4 c5 : Value} (hM : w.heap.size ≤ M) (B3 : Below w.heap.size w w3) (hx : x.lies false w3 (fun y => w.heap.size ≤ y ∧ y ≠ M ∧ y < w3.heap.size) [c0, c1, c2, c3, c4, c5]) :
    x.lies false ((((((w3.setCell ⟨M, 0, none⟩ (c0)).setCell ⟨M, 1, none⟩ (c1)).setCell ⟨M, 2, none⟩ (c2)).setCell ⟨M, 3, none⟩ (c3)).setCell ⟨M, 4, none⟩ (c4)).setCell ⟨M, 5, none⟩ (c5)) (New w ((((((w3.setCell ⟨M, 0, none⟩ (c0)).setCell ⟨M, 1, none⟩ (c1)).setCell ⟨M, 2, none⟩ (c2)).setCell ⟨M, 3, none⟩ (c3)).setCell ⟨M, 4, none⟩ (c4)).setCell ⟨M, 5, none⟩ (c5))) [c0, c1, c2, c3, c4, c5] ∧ Below w.heap.size w ((((((w3.setCell ⟨M, 0, none⟩ (c0)).setCell ⟨M, 1, none⟩ (c1)).setCell ⟨M, 2, none⟩ (c2)).setCell ⟨M, 3, none⟩ (c3)).setCell ⟨M, 4, none⟩ (c4)).setCell ⟨M, 5, none⟩ (c5)) := by
  have h := wo_fin (S := fun _ => False) hM (fun _ h => h.elim) B3 (V.lies_keep (fun h => h) (fun _ _ => rfl) (fun y hy => .inr hy) _ hx)
  exact ⟨V.lies_keep (fun h => h) (fun _ _ => rfl) (fun y hy => hy.elim (fun h => h.elim) (fun h => h)) _ h.1, h.2⟩
theorem box_six {w : World} {g : Nat} {ty : TypeId} {c0 c1 c2 c3 c4 c5 : Value} (h : w.heap[g]? = some (.cells #[c0, c1, c2, c3, c4, c5] ty)) (d0 d1 d2 d3 d4 d5 : Value) : ((((((w.setCell ⟨g, 0, none⟩ (d0)).setCell ⟨g, 1, none⟩ (d1)).setCell ⟨g, 2, none⟩ (d2)).setCell ⟨g, 3, none⟩ (d3)).setCell ⟨g, 4, none⟩ (d4)).setCell ⟨g, 5, none⟩ (d5)).heap[g]? = some (.cells #[d0, d1, d2, d3, d4, d5] ty) := by
  have h0 : (w.setCell ⟨g, 0, none⟩ d0).heap[g]? = some (.cells #[d0, c1, c2, c3, c4, c5] ty) := by rw [set_block h]; rfl
  have h1 : ((w.setCell ⟨g, 0, none⟩ d0).setCell ⟨g, 1, none⟩ d1).heap[g]? = some (.cells #[d0, d1, c2, c3, c4, c5] ty) := by rw [set_block h0]; rfl
  have h2 : (((w.setCell ⟨g, 0, none⟩ d0).setCell ⟨g, 1, none⟩ d1).setCell ⟨g, 2, none⟩ d2).heap[g]? = some (.cells #[d0, d1, d2, c3, c4, c5] ty) := by rw [set_block h1]; rfl
  have h3 : ((((w.setCell ⟨g, 0, none⟩ d0).setCell ⟨g, 1, none⟩ d1).setCell ⟨g, 2, none⟩ d2).setCell ⟨g, 3, none⟩ d3).heap[g]? = some (.cells #[d0, d1, d2, d3, c4, c5] ty) := by rw [set_block h2]; rfl
  have h4 : (((((w.setCell ⟨g, 0, none⟩ d0).setCell ⟨g, 1, none⟩ d1).setCell ⟨g, 2, none⟩ d2).setCell ⟨g, 3, none⟩ d3).setCell ⟨g, 4, none⟩ d4).heap[g]? = some (.cells #[d0, d1, d2, d3, d4, c5] ty) := by rw [set_block h3]; rfl
  rw [set_block h4]; rfl
theorem six_o (w : World) (g : Nat) (d0 d1 d2 d3 d4 d5 : Value) (y : Nat) (hy : y ≠ g) : ((((((w.setCell ⟨g, 0, none⟩ (d0)).setCell ⟨g, 1, none⟩ (d1)).setCell ⟨g, 2, none⟩ (d2)).setCell ⟨g, 3, none⟩ (d3)).setCell ⟨g, 4, none⟩ (d4)).setCell ⟨g, 5, none⟩ (d5)).heap[y]? = w.heap[y]? := by
  repeat (rw [set_other hy])
theorem five_form {b : Bool} {i : Int} {s : ByteArray} {l : List V} {m : List Mem} (h : allG (.mk 5 b i s l m)) : V.mk 5 b i s l m = .mk 5 false 0 ⟨#[]⟩ [] (memsOf (.mk 5 b i s l m)) := by
  rw [allG] at h
  have h1 := h.1
  simp only [goodB, Bool.and_eq_true] at h1
  have h2 := h1.1.1
  rw [plainB, decide_eq_true_iff] at h2
  obtain ⟨_, _, hb, hi, hs, hl, _⟩ := h2
  have e1 : b = false := hb.resolve_left (by decide)
  have e2 : i = 0 := hi.resolve_left (by decide)
  have e3 : s.toList.isEmpty = true := hs.resolve_left (by decide)
  have e4 : l.length = 0 := hl.resolve_left (by decide)
  have e5 : s = ⟨#[]⟩ := by
    have h5 : s.data.toList = [] := by rw [← toList_data]; exact List.isEmpty_iff.1 e3
    obtain ⟨d⟩ := s
    congr 1
    exact Array.toList_eq_nil_iff.1 h5
  rw [e1, e2, e5, List.length_eq_zero_iff.1 e4]
  rfl
theorem five_lies (W : World) (S : Nat → Prop) : (V.mk 5 false 0 ⟨#[]⟩ [] []).lies false W S [.int .i64 5, .bool false, .int .i64 0, .string ⟨#[]⟩, .slice none 0 0, .slice none 0 0] := by
  rw [V.lies]
  exact ⟨none, 0, 0, 0, none, 0, 0, 0, rfl, ⟨by decide, by decide⟩, ⟨by decide, by decide⟩, by decide, headed_nil, headed_nil, by rw [liesL]; trivial, by rw [liesM]; trivial, fun h => by cases h⟩
set_option maxHeartbeats 8000000 in
set_option maxRecDepth 100000 in
theorem rpatched_any (p : V) : ∀ (t : V) (S : Nat → Prop) (cs ds : List Value) (w : World), Ok t → Ok p → t.lies false w S cs → p.lies false w S ds → (∀ b, S b → b < w.heap.size) → Calls Tryd.prog 36 #[.agg cs.toArray, .agg ds.toArray] w (AnPost (pchV t p) w) := by
  induction p using V.ind_v with
  | h k b i s l m ihl ihm =>
  intro t S cs ds w ot op hv hx hS
  have hwt := ot.wt
  have hwp := op.wt
  obtain ⟨tk, tb, ti, ts, tal, tnl, tcl, tam, tnm, tcm, rfl⟩ := V.ten hv
  have hkt := kind_lies hv
  have HL : Hid (∀ W, Below w.heap.size w W → t.lies false W S [.int .i64 tk, .bool tb, .int .i64 ti, .string ts, .slice tal tnl tcl, .slice tam tnm tcm] ∧ (∀ b, S b → b < W.heap.size)) := fun W hB => ⟨V.lies_keep (fun h => h) (fun x hx => hB.block x (hS x hx)) (fun x hx => hx) _ hv, fun x hx => Nat.lt_of_lt_of_le (hS x hx) hB.size⟩
  have hx0 := hx
  rw [V.lies] at hx
  obtain ⟨al, cl, bl, ol, am, cm, bm, om, rfl, ik, ii, is, hal, ham, hl, hm, _⟩ := hx
  have HX : Hid (∀ W, Below w.heap.size w W → (V.mk k b i s l m).lies false W S [.int .i64 k, .bool b, .int .i64 i, .string s, .slice al l.length cl, .slice am m.length cm]) := fun W hB => V.lies_keep (fun h => h) (fun x hx => hB.block x (hS x hx)) (fun x hx => hx) _ hx0
  have HM : Hid (∀ W, Below w.heap.size w W → liesM false W S m bm om) := fun W hb => liesM_keep (fun h => h) (fun x hx => hb.block x (hS x hx)) (fun _ h => h) _ hm
  have hml : m.length ≤ 1114112 := by have := wtM_len m; simp only [V.wt] at hwp; omega
  have hmw : wtM m ≤ 1114112 := by simp only [V.wt] at hwp; omega
  have b3 : Below w.heap.size w (((w.alloc (.cells #[.int .i64 tk, .bool tb, .int .i64 ti, .string ts, .slice tal tnl tcl, .slice tam tnm tcm] 25)).alloc (.cells #[.int .i64 k, .bool b, .int .i64 i, .string s, .slice al l.length cl, .slice am m.length cm] 25)).alloc (.cells #[.int .i64 0, .bool false, .int .i64 0, .string ⟨#[]⟩, .slice none 0 0, .slice none 0 0] 25)) := three_below w _ _ _
  have hz3 : (((w.alloc (.cells #[.int .i64 tk, .bool tb, .int .i64 ti, .string ts, .slice tal tnl tcl, .slice tam tnm tcm] 25)).alloc (.cells #[.int .i64 k, .bool b, .int .i64 i, .string s, .slice al l.length cl, .slice am m.length cm] 25)).alloc (.cells #[.int .i64 0, .bool false, .int .i64 0, .string ⟨#[]⟩, .slice none 0 0, .slice none 0 0] 25)).heap.size = w.heap.size + 3 := by rw [alloc_size, alloc_size, alloc_size]
  obtain ⟨htw3, hpw3, hzw3⟩ := three_allocs w (.cells #[.int .i64 tk, .bool tb, .int .i64 ti, .string ts, .slice tal tnl tcl, .slice tam tnm tcm] 25) (.cells #[.int .i64 k, .bool b, .int .i64 i, .string s, .slice al l.length cl, .slice am m.length cm] 25) (.cells #[.int .i64 0, .bool false, .int .i64 0, .string ⟨#[]⟩, .slice none 0 0, .slice none 0 0] 25)
  have Bww3 := b3
  clear hx0 hl hm hv
  have cp0 : (((w.alloc (.cells #[.int .i64 tk, .bool tb, .int .i64 ti, .string ts, .slice tal tnl tcl, .slice tam tnm tcm] 25)).alloc (.cells #[.int .i64 k, .bool b, .int .i64 i, .string s, .slice al l.length cl, .slice am m.length cm] 25)).alloc (.cells #[.int .i64 0, .bool false, .int .i64 0, .string ⟨#[]⟩, .slice none 0 0, .slice none 0 0] 25)).cell? ⟨w.heap.size + 1, 0, none⟩ = some (.int .i64 k) := by rw [cell_of_block hpw3]; rfl
  by_cases hk : k = 5
  rotate_left
  · have HP : Hid (pchV t (.mk k b i s l m) = .mk k b i s l m) := by show _ = _; rw [pchV, if_neg hk]
    have hcl := op.cln
    have cpp0 : (((w.alloc (.cells #[.int .i64 tk, .bool tb, .int .i64 ti, .string ts, .slice tal tnl tcl, .slice tam tnm tcm] 25)).alloc (.cells #[.int .i64 k, .bool b, .int .i64 i, .string s, .slice al l.length cl, .slice am m.length cm] 25)).alloc (.cells #[.int .i64 0, .bool false, .int .i64 0, .string ⟨#[]⟩, .slice none 0 0, .slice none 0 0] 25)).cell? ⟨w.heap.size + 1, 0, none⟩ = some (.int .i64 k) := by rw [cell_of_block hpw3]; rfl
    have cp1 : (((w.alloc (.cells #[.int .i64 tk, .bool tb, .int .i64 ti, .string ts, .slice tal tnl tcl, .slice tam tnm tcm] 25)).alloc (.cells #[.int .i64 k, .bool b, .int .i64 i, .string s, .slice al l.length cl, .slice am m.length cm] 25)).alloc (.cells #[.int .i64 0, .bool false, .int .i64 0, .string ⟨#[]⟩, .slice none 0 0, .slice none 0 0] 25)).cell? ⟨w.heap.size + 1, 1, none⟩ = some (.bool b) := by rw [cell_of_block hpw3]; rfl
    have cp2 : (((w.alloc (.cells #[.int .i64 tk, .bool tb, .int .i64 ti, .string ts, .slice tal tnl tcl, .slice tam tnm tcm] 25)).alloc (.cells #[.int .i64 k, .bool b, .int .i64 i, .string s, .slice al l.length cl, .slice am m.length cm] 25)).alloc (.cells #[.int .i64 0, .bool false, .int .i64 0, .string ⟨#[]⟩, .slice none 0 0, .slice none 0 0] 25)).cell? ⟨w.heap.size + 1, 2, none⟩ = some (.int .i64 i) := by rw [cell_of_block hpw3]; rfl
    have cp3 : (((w.alloc (.cells #[.int .i64 tk, .bool tb, .int .i64 ti, .string ts, .slice tal tnl tcl, .slice tam tnm tcm] 25)).alloc (.cells #[.int .i64 k, .bool b, .int .i64 i, .string s, .slice al l.length cl, .slice am m.length cm] 25)).alloc (.cells #[.int .i64 0, .bool false, .int .i64 0, .string ⟨#[]⟩, .slice none 0 0, .slice none 0 0] 25)).cell? ⟨w.heap.size + 1, 3, none⟩ = some (.string s) := by rw [cell_of_block hpw3]; rfl
    have cp4 : (((w.alloc (.cells #[.int .i64 tk, .bool tb, .int .i64 ti, .string ts, .slice tal tnl tcl, .slice tam tnm tcm] 25)).alloc (.cells #[.int .i64 k, .bool b, .int .i64 i, .string s, .slice al l.length cl, .slice am m.length cm] 25)).alloc (.cells #[.int .i64 0, .bool false, .int .i64 0, .string ⟨#[]⟩, .slice none 0 0, .slice none 0 0] 25)).cell? ⟨w.heap.size + 1, 4, none⟩ = some (.slice al l.length cl) := by rw [cell_of_block hpw3]; rfl
    have cp5 : (((w.alloc (.cells #[.int .i64 tk, .bool tb, .int .i64 ti, .string ts, .slice tal tnl tcl, .slice tam tnm tcm] 25)).alloc (.cells #[.int .i64 k, .bool b, .int .i64 i, .string s, .slice al l.length cl, .slice am m.length cm] 25)).alloc (.cells #[.int .i64 0, .bool false, .int .i64 0, .string ⟨#[]⟩, .slice none 0 0, .slice none 0 0] 25)).cell? ⟨w.heap.size + 1, 5, none⟩ = some (.slice am m.length cm) := by rw [cell_of_block hpw3]; rfl
    go_enter Tryd.func36, Tryd.ntmps36
    go_wp2_with fail
    clear cp1 cp2 cp3 cp4 cp5 cp0 cpp0
    generalize (((w.alloc (.cells #[.int .i64 tk, .bool tb, .int .i64 ti, .string ts, .slice tal tnl tcl, .slice tam tnm tcm] 25)).alloc (.cells #[.int .i64 k, .bool b, .int .i64 i, .string s, .slice al l.length cl, .slice am m.length cm] 25)).alloc (.cells #[.int .i64 0, .bool false, .int .i64 0, .string ⟨#[]⟩, .slice none 0 0, .slice none 0 0] 25)) = w3 at *
    have CC := rclone36_any (.mk k b i s l m) false S _ w3 (HX.out w3 Bww3) (HL.out w3 Bww3).2 (by omega)
    rw [hcl] at CC
    refine CC.mono ?_
    rintro e w4 ⟨cs4, rfl, hl4, b4⟩
    clear CC
    obtain ⟨nk, nb, ni, ns, nal, nnl, ncl, nam, nnm, ncm, rfl⟩ := V.ten hl4
    have hzw4 := b4.size
    have htw4 := (b4.block (w.heap.size) (by omega)).trans htw3
    have hpw4 := (b4.block (w.heap.size + 1) (by omega)).trans hpw3
    have hzw4 := (b4.block (w.heap.size + 2) (by omega)).trans hzw3
    have Bww4 := Bww3.trans (b4.mono (by omega))
    have HE := hmk (wn_fin (M := w.heap.size + 2) (by omega) Bww4 (V.lies_keep (fun h => h) (fun _ _ => rfl) (fun y hy => ⟨by have := hy.1; omega, by have := hy.1; omega, hy.2⟩) _ hl4))
    have cz0 : w4.cell? ⟨w.heap.size + 2, 0, none⟩ = some (.int .i64 0) := by rw [cell_of_block hzw4]; rfl
    have cz1 : w4.cell? ⟨w.heap.size + 2, 1, none⟩ = some (.bool false) := by rw [cell_of_block hzw4]; rfl
    have cz2 : w4.cell? ⟨w.heap.size + 2, 2, none⟩ = some (.int .i64 0) := by rw [cell_of_block hzw4]; rfl
    have cz3 : w4.cell? ⟨w.heap.size + 2, 3, none⟩ = some (.string ⟨#[]⟩) := by rw [cell_of_block hzw4]; rfl
    have cz4 : w4.cell? ⟨w.heap.size + 2, 4, none⟩ = some (.slice none 0 0) := by rw [cell_of_block hzw4]; rfl
    have cz5 : w4.cell? ⟨w.heap.size + 2, 5, none⟩ = some (.slice none 0 0) := by rw [cell_of_block hzw4]; rfl
    have fz := frozen_of_block hzw4
    clear hl4 b4
    go_wp2_with fail
    (try simp only [Exit.inBlock, Exit.then])
    refine bodyPost_ret (v := .agg #[.int .i64 nk, .bool nb, .int .i64 ni, .string ns, .slice nal nnl ncl, .slice nam nnm ncm]) ?_ rfl ?_
    rotate_left
    · rw [HP.out]
      exact ⟨[.int .i64 nk, .bool nb, .int .i64 ni, .string ns, .slice nal nnl ncl, .slice nam nnm ncm], rfl, HE.out.1, HE.out.2⟩
    · rw [results_cell1 rfl]
      go_simp
  subst hk
  have HP : Hid (pchV t (.mk 5 b i s l m) = .mk 5 false 0 ⟨#[]⟩ [] (pchM (if kindOf t = 5 then memsOf t else []) m)) := by show _ = _; rw [pchV, if_pos rfl]
  have HGO : Hid (∀ key, Ok (getR (if kindOf t = 5 then memsOf t else []) key)) := fun key => by
    split
    · obtain ⟨a1, a2, a3, a4, a5, a6⟩ := t
      exact ot.get key
    · exact null_ok
  have HSR : Hid (Srt (if kindOf t = 5 then memsOf t else []) ∧ Srt m) := ⟨(gm_opt ot.g).s, (gm_mems op.g).s⟩
  have hmo : wtM (if kindOf t = 5 then memsOf t else []) ≤ 1114112 := by
    have := mems_wt t
    split
    · omega
    · simp [wtM]
  have HOM : Hid (∀ y ∈ m, Ok y.2) := fun y hy => op.mem hy
  have HLe : Hid (t.lies false w S [.int .i64 tk, .bool tb, .int .i64 ti, .string ts, .slice tal tnl tcl, .slice tam tnm tcm]) := (HL.out w (Below.refl _ _)).1
  have hcl := ot.cln
  have b4 : Below (((w.alloc (.cells #[.int .i64 tk, .bool tb, .int .i64 ti, .string ts, .slice tal tnl tcl, .slice tam tnm tcm] 25)).alloc (.cells #[.int .i64 5, .bool b, .int .i64 i, .string s, .slice al l.length cl, .slice am m.length cm] 25)).alloc (.cells #[.int .i64 0, .bool false, .int .i64 0, .string ⟨#[]⟩, .slice none 0 0, .slice none 0 0] 25)).heap.size (((w.alloc (.cells #[.int .i64 tk, .bool tb, .int .i64 ti, .string ts, .slice tal tnl tcl, .slice tam tnm tcm] 25)).alloc (.cells #[.int .i64 5, .bool b, .int .i64 i, .string s, .slice al l.length cl, .slice am m.length cm] 25)).alloc (.cells #[.int .i64 0, .bool false, .int .i64 0, .string ⟨#[]⟩, .slice none 0 0, .slice none 0 0] 25)) ((((w.alloc (.cells #[.int .i64 tk, .bool tb, .int .i64 ti, .string ts, .slice tal tnl tcl, .slice tam tnm tcm] 25)).alloc (.cells #[.int .i64 5, .bool b, .int .i64 i, .string s, .slice al l.length cl, .slice am m.length cm] 25)).alloc (.cells #[.int .i64 0, .bool false, .int .i64 0, .string ⟨#[]⟩, .slice none 0 0, .slice none 0 0] 25)).alloc (.cells #[.int .i64 5, .bool false, .int .i64 0, .string ⟨#[]⟩, .slice none 0 0, .slice none 0 0] 25)) := one_belowG _ _
  have hz4 : ((((w.alloc (.cells #[.int .i64 tk, .bool tb, .int .i64 ti, .string ts, .slice tal tnl tcl, .slice tam tnm tcm] 25)).alloc (.cells #[.int .i64 5, .bool b, .int .i64 i, .string s, .slice al l.length cl, .slice am m.length cm] 25)).alloc (.cells #[.int .i64 0, .bool false, .int .i64 0, .string ⟨#[]⟩, .slice none 0 0, .slice none 0 0] 25)).alloc (.cells #[.int .i64 5, .bool false, .int .i64 0, .string ⟨#[]⟩, .slice none 0 0, .slice none 0 0] 25)).heap.size = w.heap.size + 4 := by rw [alloc_size, hz3]
  have Bww4 : Below w.heap.size w ((((w.alloc (.cells #[.int .i64 tk, .bool tb, .int .i64 ti, .string ts, .slice tal tnl tcl, .slice tam tnm tcm] 25)).alloc (.cells #[.int .i64 5, .bool b, .int .i64 i, .string s, .slice al l.length cl, .slice am m.length cm] 25)).alloc (.cells #[.int .i64 0, .bool false, .int .i64 0, .string ⟨#[]⟩, .slice none 0 0, .slice none 0 0] 25)).alloc (.cells #[.int .i64 5, .bool false, .int .i64 0, .string ⟨#[]⟩, .slice none 0 0, .slice none 0 0] 25)) := b3.trans (b4.mono (by omega))
  have htw4 := (b4.block w.heap.size (by omega)).trans htw3
  have hpw4 := (b4.block (w.heap.size + 1) (by omega)).trans hpw3
  have hzw4 := (b4.block (w.heap.size + 2) (by omega)).trans hzw3
  have how4 := heap_alloc_new (((w.alloc (.cells #[.int .i64 tk, .bool tb, .int .i64 ti, .string ts, .slice tal tnl tcl, .slice tam tnm tcm] 25)).alloc (.cells #[.int .i64 5, .bool b, .int .i64 i, .string s, .slice al l.length cl, .slice am m.length cm] 25)).alloc (.cells #[.int .i64 0, .bool false, .int .i64 0, .string ⟨#[]⟩, .slice none 0 0, .slice none 0 0] 25)) (.cells #[.int .i64 5, .bool false, .int .i64 0, .string ⟨#[]⟩, .slice none 0 0, .slice none 0 0] 25)
  rw [hz3] at how4
  have ct0 : ((((w.alloc (.cells #[.int .i64 tk, .bool tb, .int .i64 ti, .string ts, .slice tal tnl tcl, .slice tam tnm tcm] 25)).alloc (.cells #[.int .i64 5, .bool b, .int .i64 i, .string s, .slice al l.length cl, .slice am m.length cm] 25)).alloc (.cells #[.int .i64 0, .bool false, .int .i64 0, .string ⟨#[]⟩, .slice none 0 0, .slice none 0 0] 25)).alloc (.cells #[.int .i64 5, .bool false, .int .i64 0, .string ⟨#[]⟩, .slice none 0 0, .slice none 0 0] 25)).cell? ⟨w.heap.size, 0, none⟩ = some (.int .i64 tk) := by rw [cell_of_block htw4]; rfl
  by_cases ht5 : tk = 5
  · have E0 : Hid ((if kindOf t = 5 then memsOf t else []) = memsOf t) := by show _ = _; rw [if_pos (hkt.trans ht5)]
    have HT5 : Hid (t = .mk 5 false 0 ⟨#[]⟩ [] (memsOf t)) := by
      show _ = _
      have h := ot.g
      obtain ⟨a1, a2, a3, a4, a5, a6⟩ := t
      have e1 : a1 = 5 := hkt.trans ht5
      subst e1
      exact five_form h
    subst ht5
    have ctt0 : ((((w.alloc (.cells #[.int .i64 5, .bool tb, .int .i64 ti, .string ts, .slice tal tnl tcl, .slice tam tnm tcm] 25)).alloc (.cells #[.int .i64 5, .bool b, .int .i64 i, .string s, .slice al l.length cl, .slice am m.length cm] 25)).alloc (.cells #[.int .i64 0, .bool false, .int .i64 0, .string ⟨#[]⟩, .slice none 0 0, .slice none 0 0] 25)).alloc (.cells #[.int .i64 5, .bool false, .int .i64 0, .string ⟨#[]⟩, .slice none 0 0, .slice none 0 0] 25)).cell? ⟨w.heap.size, 0, none⟩ = some (.int .i64 5) := by rw [cell_of_block htw4]; rfl
    have ct1 : ((((w.alloc (.cells #[.int .i64 5, .bool tb, .int .i64 ti, .string ts, .slice tal tnl tcl, .slice tam tnm tcm] 25)).alloc (.cells #[.int .i64 5, .bool b, .int .i64 i, .string s, .slice al l.length cl, .slice am m.length cm] 25)).alloc (.cells #[.int .i64 0, .bool false, .int .i64 0, .string ⟨#[]⟩, .slice none 0 0, .slice none 0 0] 25)).alloc (.cells #[.int .i64 5, .bool false, .int .i64 0, .string ⟨#[]⟩, .slice none 0 0, .slice none 0 0] 25)).cell? ⟨w.heap.size, 1, none⟩ = some (.bool tb) := by rw [cell_of_block htw4]; rfl
    have ct2 : ((((w.alloc (.cells #[.int .i64 5, .bool tb, .int .i64 ti, .string ts, .slice tal tnl tcl, .slice tam tnm tcm] 25)).alloc (.cells #[.int .i64 5, .bool b, .int .i64 i, .string s, .slice al l.length cl, .slice am m.length cm] 25)).alloc (.cells #[.int .i64 0, .bool false, .int .i64 0, .string ⟨#[]⟩, .slice none 0 0, .slice none 0 0] 25)).alloc (.cells #[.int .i64 5, .bool false, .int .i64 0, .string ⟨#[]⟩, .slice none 0 0, .slice none 0 0] 25)).cell? ⟨w.heap.size, 2, none⟩ = some (.int .i64 ti) := by rw [cell_of_block htw4]; rfl
    have ct3 : ((((w.alloc (.cells #[.int .i64 5, .bool tb, .int .i64 ti, .string ts, .slice tal tnl tcl, .slice tam tnm tcm] 25)).alloc (.cells #[.int .i64 5, .bool b, .int .i64 i, .string s, .slice al l.length cl, .slice am m.length cm] 25)).alloc (.cells #[.int .i64 0, .bool false, .int .i64 0, .string ⟨#[]⟩, .slice none 0 0, .slice none 0 0] 25)).alloc (.cells #[.int .i64 5, .bool false, .int .i64 0, .string ⟨#[]⟩, .slice none 0 0, .slice none 0 0] 25)).cell? ⟨w.heap.size, 3, none⟩ = some (.string ts) := by rw [cell_of_block htw4]; rfl
    have ct4 : ((((w.alloc (.cells #[.int .i64 5, .bool tb, .int .i64 ti, .string ts, .slice tal tnl tcl, .slice tam tnm tcm] 25)).alloc (.cells #[.int .i64 5, .bool b, .int .i64 i, .string s, .slice al l.length cl, .slice am m.length cm] 25)).alloc (.cells #[.int .i64 0, .bool false, .int .i64 0, .string ⟨#[]⟩, .slice none 0 0, .slice none 0 0] 25)).alloc (.cells #[.int .i64 5, .bool false, .int .i64 0, .string ⟨#[]⟩, .slice none 0 0, .slice none 0 0] 25)).cell? ⟨w.heap.size, 4, none⟩ = some (.slice tal tnl tcl) := by rw [cell_of_block htw4]; rfl
    have ct5 : ((((w.alloc (.cells #[.int .i64 5, .bool tb, .int .i64 ti, .string ts, .slice tal tnl tcl, .slice tam tnm tcm] 25)).alloc (.cells #[.int .i64 5, .bool b, .int .i64 i, .string s, .slice al l.length cl, .slice am m.length cm] 25)).alloc (.cells #[.int .i64 0, .bool false, .int .i64 0, .string ⟨#[]⟩, .slice none 0 0, .slice none 0 0] 25)).alloc (.cells #[.int .i64 5, .bool false, .int .i64 0, .string ⟨#[]⟩, .slice none 0 0, .slice none 0 0] 25)).cell? ⟨w.heap.size, 5, none⟩ = some (.slice tam tnm tcm) := by rw [cell_of_block htw4]; rfl
    go_enter Tryd.func36, Tryd.ntmps36
    go_wp2_with fail
    clear ct0 ct1 ct2 ct3 ct4 ct5 ctt0 cp0
    generalize ((((w.alloc (.cells #[.int .i64 5, .bool tb, .int .i64 ti, .string ts, .slice tal tnl tcl, .slice tam tnm tcm] 25)).alloc (.cells #[.int .i64 5, .bool b, .int .i64 i, .string s, .slice al l.length cl, .slice am m.length cm] 25)).alloc (.cells #[.int .i64 0, .bool false, .int .i64 0, .string ⟨#[]⟩, .slice none 0 0, .slice none 0 0] 25)).alloc (.cells #[.int .i64 5, .bool false, .int .i64 0, .string ⟨#[]⟩, .slice none 0 0, .slice none 0 0] 25)) = w4 at *
    have CC := rclone36_any t false S _ w4 (HL.out w4 Bww4).1 (HL.out w4 Bww4).2 (by omega)
    rw [hcl] at CC
    refine CC.mono ?_
    rintro e w6 ⟨cs6, rfl, hl6, b6⟩
    clear CC
    obtain ⟨nk, nb, ni, ns, nal, nnl, ncl, nam, nnm, ncm, rfl⟩ := V.ten hl6
    have hzw6 := b6.size
    have htw6 := (b6.block (w.heap.size) (by omega)).trans htw4
    have hpw6 := (b6.block (w.heap.size + 1) (by omega)).trans hpw4
    have hzw6 := (b6.block (w.heap.size + 2) (by omega)).trans hzw4
    have how6 := (b6.block (w.heap.size + 3) (by omega)).trans how4
    have Bww6 := Bww4.trans (b6.mono (by omega))
    have co0 : w6.cell? ⟨w.heap.size + 3, 0, none⟩ = some (.int .i64 5) := by rw [cell_of_block how6]; rfl
    have co1 : w6.cell? ⟨w.heap.size + 3, 1, none⟩ = some (.bool false) := by rw [cell_of_block how6]; rfl
    have co2 : w6.cell? ⟨w.heap.size + 3, 2, none⟩ = some (.int .i64 0) := by rw [cell_of_block how6]; rfl
    have co3 : w6.cell? ⟨w.heap.size + 3, 3, none⟩ = some (.string ⟨#[]⟩) := by rw [cell_of_block how6]; rfl
    have co4 : w6.cell? ⟨w.heap.size + 3, 4, none⟩ = some (.slice none 0 0) := by rw [cell_of_block how6]; rfl
    have co5 : w6.cell? ⟨w.heap.size + 3, 5, none⟩ = some (.slice none 0 0) := by rw [cell_of_block how6]; rfl
    have fo := frozen_of_block how6
    have How5 := hmk (six_o w6 (w.heap.size + 3) (.int .i64 nk) (.bool nb) (.int .i64 ni) (.string ns) (.slice nal nnl ncl) (.slice nam nnm ncm))
    have Hsw5 : Hid (((((((w6.setCell ⟨w.heap.size + 3, 0, none⟩ (.int .i64 nk)).setCell ⟨w.heap.size + 3, 1, none⟩ (.bool nb)).setCell ⟨w.heap.size + 3, 2, none⟩ (.int .i64 ni)).setCell ⟨w.heap.size + 3, 3, none⟩ (.string ns)).setCell ⟨w.heap.size + 3, 4, none⟩ (.slice nal nnl ncl)).setCell ⟨w.heap.size + 3, 5, none⟩ (.slice nam nnm ncm)).heap.size = w6.heap.size) := by show _ = _; simp only [size_set1]
    have hgew5 : w6.heap.size ≤ ((((((w6.setCell ⟨w.heap.size + 3, 0, none⟩ (.int .i64 nk)).setCell ⟨w.heap.size + 3, 1, none⟩ (.bool nb)).setCell ⟨w.heap.size + 3, 2, none⟩ (.int .i64 ni)).setCell ⟨w.heap.size + 3, 3, none⟩ (.string ns)).setCell ⟨w.heap.size + 3, 4, none⟩ (.slice nal nnl ncl)).setCell ⟨w.heap.size + 3, 5, none⟩ (.slice nam nnm ncm)).heap.size := by rw [Hsw5.out]; exact Nat.le_refl _
    have htw5 := (How5.out (w.heap.size) (by omega)).trans htw6
    have hpw5 := (How5.out (w.heap.size + 1) (by omega)).trans hpw6
    have hzw5 := (How5.out (w.heap.size + 2) (by omega)).trans hzw6
    have how5 := box_six how6 (.int .i64 nk) (.bool nb) (.int .i64 ni) (.string ns) (.slice nal nnl ncl) (.slice nam nnm ncm)
    have Bww5 := Below.set6 Bww6 (M := w.heap.size + 3) (by omega) 0 1 2 3 4 5 (.int .i64 nk) (.bool nb) (.int .i64 ni) (.string ns) (.slice nal nnl ncl) (.slice nam nnm ncm)
    have HN : Hid ((V.mk 5 false 0 ⟨#[]⟩ [] (pchM (if kindOf t = 5 then memsOf t else []) (m.take 0))).lies false ((((((w6.setCell ⟨w.heap.size + 3, 0, none⟩ (.int .i64 nk)).setCell ⟨w.heap.size + 3, 1, none⟩ (.bool nb)).setCell ⟨w.heap.size + 3, 2, none⟩ (.int .i64 ni)).setCell ⟨w.heap.size + 3, 3, none⟩ (.string ns)).setCell ⟨w.heap.size + 3, 4, none⟩ (.slice nal nnl ncl)).setCell ⟨w.heap.size + 3, 5, none⟩ (.slice nam nnm ncm)) (fun y => w.heap.size + 3 < y ∧ y < ((((((w6.setCell ⟨w.heap.size + 3, 0, none⟩ (.int .i64 nk)).setCell ⟨w.heap.size + 3, 1, none⟩ (.bool nb)).setCell ⟨w.heap.size + 3, 2, none⟩ (.int .i64 ni)).setCell ⟨w.heap.size + 3, 3, none⟩ (.string ns)).setCell ⟨w.heap.size + 3, 4, none⟩ (.slice nal nnl ncl)).setCell ⟨w.heap.size + 3, 5, none⟩ (.slice nam nnm ncm)).heap.size) [.int .i64 nk, .bool nb, .int .i64 ni, .string ns, .slice nal nnl ncl, .slice nam nnm ncm]) := by
      show V.lies _ _ _ _ _
      rw [List.take_zero, pchM, E0.out, ← HT5.out]
      exact V.lies_keep (fun h => h) (fun y hy => How5.out y (by have := hy.1; omega)) (fun y hy => by rw [Hsw5.out]; exact ⟨by have := hy.1; omega, hy.2⟩) _ hl6
    clear hl6 b6 E0 HT5
    go_wp2_with fail
    clear co0 co1 co2 co3 co4 co5 fo
    generalize ((((((w6.setCell ⟨w.heap.size + 3, 0, none⟩ (.int .i64 nk)).setCell ⟨w.heap.size + 3, 1, none⟩ (.bool nb)).setCell ⟨w.heap.size + 3, 2, none⟩ (.int .i64 ni)).setCell ⟨w.heap.size + 3, 3, none⟩ (.string ns)).setCell ⟨w.heap.size + 3, 4, none⟩ (.slice nal nnl ncl)).setCell ⟨w.heap.size + 3, 5, none⟩ (.slice nam nnm ncm)) = w5 at *
    generalize (if kindOf t = 5 then memsOf t else []) = o0 at *
    go_loopw [6] (fun e wr => ∃ (j : Nat) (ok : Int) (ob : Bool) (oi : Int) (os : ByteArray) (oal : Option Addr) (onl ocl : Nat) (oam : Option Addr) (onm ocm : Nat), j ≤ m.length ∧ e = .int .i64 (j : Int) ∧ wr.heap[w.heap.size + 3]? = some (.cells #[.int .i64 ok, .bool ob, .int .i64 oi, .string os, .slice oal onl ocl, .slice oam onm ocm] 25) ∧ Hid (Below (w.heap.size + 3) w5 wr) ∧ Hid ((V.mk 5 false 0 ⟨#[]⟩ [] (pchM o0 (m.take j))).lies false wr (fun y => w.heap.size + 3 < y ∧ y < wr.heap.size) [.int .i64 ok, .bool ob, .int .i64 oi, .string os, .slice oal onl ocl, .slice oam onm ocm])) (fun e _ => m.length - (RowKit.intOf e).toNat)
    case atStart => exact ⟨0, _, _, _, _, _, _, _, _, _, _, by omega, rfl, how5, Below.refl _ _, HN⟩
    case round =>
      obtain ⟨j, ok, ob, oi, os, oal, onl, ocl, oam, onm, ocm, hj, rfl, howr, Hbr, HO⟩ := hrel
      have br := Hbr.out
      clear Hbr
      have hzwr := br.size
      have htwr := (br.block (w.heap.size) (by omega)).trans htw5
      have hpwr := (br.block (w.heap.size + 1) (by omega)).trans hpw5
      have hzwr := (br.block (w.heap.size + 2) (by omega)).trans hzw5
      have Bwwr := Bww5.trans (br.mono (by omega))
      have Bvwr := br
      clear br
      have cq0 : wr.cell? ⟨w.heap.size + 1, 0, none⟩ = some (.int .i64 5) := by rw [cell_of_block hpwr]; rfl
      have cq1 : wr.cell? ⟨w.heap.size + 1, 1, none⟩ = some (.bool b) := by rw [cell_of_block hpwr]; rfl
      have cq2 : wr.cell? ⟨w.heap.size + 1, 2, none⟩ = some (.int .i64 i) := by rw [cell_of_block hpwr]; rfl
      have cq3 : wr.cell? ⟨w.heap.size + 1, 3, none⟩ = some (.string s) := by rw [cell_of_block hpwr]; rfl
      have cq4 : wr.cell? ⟨w.heap.size + 1, 4, none⟩ = some (.slice al l.length cl) := by rw [cell_of_block hpwr]; rfl
      have cq5 : wr.cell? ⟨w.heap.size + 1, 5, none⟩ = some (.slice am m.length cm) := by rw [cell_of_block hpwr]; rfl
      clear cq0 cq1 cq2 cq3 cq4
      by_cases hjl : j < m.length
      rotate_left
      · obtain rfl : j = m.length := by omega
        have y1 : ¬ (m.length : Int) < m.length := by omega
        have HO := HO.out
        rw [List.take_length] at HO
        have HE := hmk (wn_fin (M := w.heap.size + 2) (by omega) Bwwr (V.lies_keep (fun h => h) (fun _ _ => rfl) (fun y hy => ⟨by omega, by omega, hy.2⟩) _ HO))
        have cz0 : wr.cell? ⟨w.heap.size + 2, 0, none⟩ = some (.int .i64 0) := by rw [cell_of_block hzwr]; rfl
        have cz1 : wr.cell? ⟨w.heap.size + 2, 1, none⟩ = some (.bool false) := by rw [cell_of_block hzwr]; rfl
        have cz2 : wr.cell? ⟨w.heap.size + 2, 2, none⟩ = some (.int .i64 0) := by rw [cell_of_block hzwr]; rfl
        have cz3 : wr.cell? ⟨w.heap.size + 2, 3, none⟩ = some (.string ⟨#[]⟩) := by rw [cell_of_block hzwr]; rfl
        have cz4 : wr.cell? ⟨w.heap.size + 2, 4, none⟩ = some (.slice none 0 0) := by rw [cell_of_block hzwr]; rfl
        have cz5 : wr.cell? ⟨w.heap.size + 2, 5, none⟩ = some (.slice none 0 0) := by rw [cell_of_block hzwr]; rfl
        have fz := frozen_of_block hzwr
        have co0 : wr.cell? ⟨w.heap.size + 3, 0, none⟩ = some (.int .i64 ok) := by rw [cell_of_block howr]; rfl
        have co1 : wr.cell? ⟨w.heap.size + 3, 1, none⟩ = some (.bool ob) := by rw [cell_of_block howr]; rfl
        have co2 : wr.cell? ⟨w.heap.size + 3, 2, none⟩ = some (.int .i64 oi) := by rw [cell_of_block howr]; rfl
        have co3 : wr.cell? ⟨w.heap.size + 3, 3, none⟩ = some (.string os) := by rw [cell_of_block howr]; rfl
        have co4 : wr.cell? ⟨w.heap.size + 3, 4, none⟩ = some (.slice oal onl ocl) := by rw [cell_of_block howr]; rfl
        have co5 : wr.cell? ⟨w.heap.size + 3, 5, none⟩ = some (.slice oam onm ocm) := by rw [cell_of_block howr]; rfl
        clear HO
        go_wp2_with fail
        (try simp only [Exit.inBlock, Exit.then])
        refine bodyPost_ret (v := .agg #[.int .i64 ok, .bool ob, .int .i64 oi, .string os, .slice oal onl ocl, .slice oam onm ocm]) ?_ rfl ?_
        rotate_left
        · rw [HP.out]
          exact ⟨[.int .i64 ok, .bool ob, .int .i64 oi, .string os, .slice oal onl ocl, .slice oam onm ocm], rfl, HE.out.1, HE.out.2⟩
        · rw [results_cell1 rfl]
          go_simp
      have y1 : (j : Int) < m.length := by omega
      obtain rfl : am = some ⟨bm, om, none⟩ := ham.at_.resolve_left (by omega)
      obtain ⟨hSb, hks, csj, hrow, hlj⟩ := liesM_get (HM.out wr Bwwr) j hjl
      have HNX := hmk (pchM_next (o := o0) hjl)
      have HGA := hmk (getR_at HSR.out.1 HSR.out.2 hjl)
      have HIH := hmk (ihm m[j] (List.getElem_mem hjl))
      have HOJ := hmk (HOM.out m[j] (List.getElem_mem hjl))
      obtain ⟨ek, eb, ei, es, eal, enl, ecl, eam, enm, ecm, rfl⟩ := V.ten hlj
      have hke := kind_lies hlj
      have HE : Hid (∀ W, Below w.heap.size w W → (m[j]).2.lies false W S [.int .i64 ek, .bool eb, .int .i64 ei, .string es, .slice eal enl ecl, .slice eam enm ecm]) := fun W hB => V.lies_keep (fun h => h) (fun x hx => (hB.block x (hS x hx)).trans (Bwwr.block x (hS x hx)).symm) (fun x hx => hx) _ hlj
      rcases hxj : m[j] with ⟨ekey, xv⟩
      rw [hxj] at hks hrow HNX HGA HIH HOJ hke HE
      simp only at hks hrow HNX HGA HIH HOJ hke HE
      obtain ⟨qk, q0, q1, q2, q3, q4, q5⟩ := row7 hrow
      have hpw := pchM_wt o0 (m.take j)
      have hpt := wtM_take m j
      have hwO : (V.mk 5 false 0 ⟨#[]⟩ [] (pchM o0 (m.take j))).wt ≤ 3000000 := by
        simp only [V.wt, wtL]
        have e : (⟨#[]⟩ : ByteArray).size = 0 := rfl
        omega
      clear hlj hxj hrow hpw hpt
      generalize pchM o0 (m.take j) = L at *
      have bzwa : Below wr.heap.size wr (wr.alloc (.cells #[.int .i64 ek, .bool eb, .int .i64 ei, .string es, .slice eal enl ecl, .slice eam enm ecm] 25)) := one_belowG _ _
      have hltwa : wr.heap.size < (wr.alloc (.cells #[.int .i64 ek, .bool eb, .int .i64 ei, .string es, .slice eal enl ecl, .slice eam enm ecm] 25)).heap.size := by rw [alloc_size]; omega
      have htwa := (bzwa.block (w.heap.size) (by omega)).trans htwr
      have hpwa := (bzwa.block (w.heap.size + 1) (by omega)).trans hpwr
      have hzwa := (bzwa.block (w.heap.size + 2) (by omega)).trans hzwr
      have howa := (bzwa.block (w.heap.size + 3) (by omega)).trans howr
      have Bwwa := Bwwr.trans (bzwa.mono (by omega))
      have Bvwa := Bvwr.trans (bzwa.mono (by omega))
      have hxwa := heap_alloc_new wr (.cells #[.int .i64 ek, .bool eb, .int .i64 ei, .string es, .slice eal enl ecl, .slice eam enm ecm] 25)
      have cx0 : (wr.alloc (.cells #[.int .i64 ek, .bool eb, .int .i64 ei, .string es, .slice eal enl ecl, .slice eam enm ecm] 25)).cell? ⟨wr.heap.size, 0, none⟩ = some (.int .i64 ek) := by rw [cell_of_block hxwa]; rfl
      have HO1 : Hid (∀ W, Below wr.heap.size wr W → (V.mk 5 false 0 ⟨#[]⟩ [] L).lies false W (fun y => w.heap.size + 3 < y ∧ y < wr.heap.size) [.int .i64 ok, .bool ob, .int .i64 oi, .string os, .slice oal onl ocl, .slice oam onm ocm]) := fun W hb => V.lies_keep (fun h => h) (fun y hy => hb.block y hy.2) (fun _ h => h) _ HO.out
      clear HO
      have Brwr : Below wr.heap.size wr wr := Below.refl _ _
      have Brwa : Below wr.heap.size wr (wr.alloc (.cells #[.int .i64 ek, .bool eb, .int .i64 ei, .string es, .slice eal enl ecl, .slice eam enm ecm] 25)) := bzwa
      by_cases hek : ek = 0
      · have HS : Hid (pchM o0 (m.take (j + 1)) = wotR L ekey) := by show _ = _; rw [HNX.out, stpR, if_pos (hke.trans hek)]
        subst hek
        have co0 : (wr.alloc (.cells #[.int .i64 0, .bool eb, .int .i64 ei, .string es, .slice eal enl ecl, .slice eam enm ecm] 25)).cell? ⟨w.heap.size + 3, 0, none⟩ = some (.int .i64 ok) := by rw [cell_of_block howa]; rfl
        have co1 : (wr.alloc (.cells #[.int .i64 0, .bool eb, .int .i64 ei, .string es, .slice eal enl ecl, .slice eam enm ecm] 25)).cell? ⟨w.heap.size + 3, 1, none⟩ = some (.bool ob) := by rw [cell_of_block howa]; rfl
        have co2 : (wr.alloc (.cells #[.int .i64 0, .bool eb, .int .i64 ei, .string es, .slice eal enl ecl, .slice eam enm ecm] 25)).cell? ⟨w.heap.size + 3, 2, none⟩ = some (.int .i64 oi) := by rw [cell_of_block howa]; rfl
        have co3 : (wr.alloc (.cells #[.int .i64 0, .bool eb, .int .i64 ei, .string es, .slice eal enl ecl, .slice eam enm ecm] 25)).cell? ⟨w.heap.size + 3, 3, none⟩ = some (.string os) := by rw [cell_of_block howa]; rfl
        have co4 : (wr.alloc (.cells #[.int .i64 0, .bool eb, .int .i64 ei, .string es, .slice eal enl ecl, .slice eam enm ecm] 25)).cell? ⟨w.heap.size + 3, 4, none⟩ = some (.slice oal onl ocl) := by rw [cell_of_block howa]; rfl
        have co5 : (wr.alloc (.cells #[.int .i64 0, .bool eb, .int .i64 ei, .string es, .slice eal enl ecl, .slice eam enm ecm] 25)).cell? ⟨w.heap.size + 3, 5, none⟩ = some (.slice oam onm ocm) := by rw [cell_of_block howa]; rfl
        go_wp2_with fail
        clear co0 co1 co2 co3 co4 co5 cx0 qk q0 q1 q2 q3 q4 q5 cq5
        generalize (wr.alloc (.cells #[.int .i64 0, .bool eb, .int .i64 ei, .string es, .slice eal enl ecl, .slice eam enm ecm] 25)) = wa at *
        refine (rwot_any 5 false 0 ⟨#[]⟩ [] L ekey (fun y => w.heap.size + 3 < y ∧ y < wr.heap.size) _ wa (HO1.out wa Brwa) (fun y hy => by have := hy.2; omega) hwO).mono ?_
        rintro e wb ⟨csn, rfl, hln, bb⟩
        obtain ⟨nk, nb, ni, ns, nal, nnl, ncl, nam, nnm, ncm, rfl⟩ := V.ten hln
        have hzwb := bb.size
        have htwb := (bb.block (w.heap.size) (by omega)).trans htwa
        have hpwb := (bb.block (w.heap.size + 1) (by omega)).trans hpwa
        have hzwb := (bb.block (w.heap.size + 2) (by omega)).trans hzwa
        have howb := (bb.block (w.heap.size + 3) (by omega)).trans howa
        have hxwb := (bb.block (wr.heap.size) (by omega)).trans hxwa
        have Bwwb := Bwwa.trans (bb.mono (by omega))
        have Bvwb := Bvwa.trans (bb.mono (by omega))
        have Brwb := Brwa.trans (bb.mono (by omega))
        clear bb
        have co0 : wb.cell? ⟨w.heap.size + 3, 0, none⟩ = some (.int .i64 ok) := by rw [cell_of_block howb]; rfl
        have co1 : wb.cell? ⟨w.heap.size + 3, 1, none⟩ = some (.bool ob) := by rw [cell_of_block howb]; rfl
        have co2 : wb.cell? ⟨w.heap.size + 3, 2, none⟩ = some (.int .i64 oi) := by rw [cell_of_block howb]; rfl
        have co3 : wb.cell? ⟨w.heap.size + 3, 3, none⟩ = some (.string os) := by rw [cell_of_block howb]; rfl
        have co4 : wb.cell? ⟨w.heap.size + 3, 4, none⟩ = some (.slice oal onl ocl) := by rw [cell_of_block howb]; rfl
        have co5 : wb.cell? ⟨w.heap.size + 3, 5, none⟩ = some (.slice oam onm ocm) := by rw [cell_of_block howb]; rfl
        have fo := frozen_of_block howb
        have Howc := hmk (six_o wb (w.heap.size + 3) (.int .i64 nk) (.bool nb) (.int .i64 ni) (.string ns) (.slice nal nnl ncl) (.slice nam nnm ncm))
        have Hswc : Hid (((((((wb.setCell ⟨w.heap.size + 3, 0, none⟩ (.int .i64 nk)).setCell ⟨w.heap.size + 3, 1, none⟩ (.bool nb)).setCell ⟨w.heap.size + 3, 2, none⟩ (.int .i64 ni)).setCell ⟨w.heap.size + 3, 3, none⟩ (.string ns)).setCell ⟨w.heap.size + 3, 4, none⟩ (.slice nal nnl ncl)).setCell ⟨w.heap.size + 3, 5, none⟩ (.slice nam nnm ncm)).heap.size = wb.heap.size) := by show _ = _; simp only [size_set1]
        have hgewc : wb.heap.size ≤ ((((((wb.setCell ⟨w.heap.size + 3, 0, none⟩ (.int .i64 nk)).setCell ⟨w.heap.size + 3, 1, none⟩ (.bool nb)).setCell ⟨w.heap.size + 3, 2, none⟩ (.int .i64 ni)).setCell ⟨w.heap.size + 3, 3, none⟩ (.string ns)).setCell ⟨w.heap.size + 3, 4, none⟩ (.slice nal nnl ncl)).setCell ⟨w.heap.size + 3, 5, none⟩ (.slice nam nnm ncm)).heap.size := by rw [Hswc.out]; exact Nat.le_refl _
        have htwc := (Howc.out (w.heap.size) (by omega)).trans htwb
        have hpwc := (Howc.out (w.heap.size + 1) (by omega)).trans hpwb
        have hzwc := (Howc.out (w.heap.size + 2) (by omega)).trans hzwb
        have howc := box_six howb (.int .i64 nk) (.bool nb) (.int .i64 ni) (.string ns) (.slice nal nnl ncl) (.slice nam nnm ncm)
        have hxwc := (Howc.out (wr.heap.size) (by omega)).trans hxwb
        have Bwwc := Below.set6 Bwwb (M := w.heap.size + 3) (by omega) 0 1 2 3 4 5 (.int .i64 nk) (.bool nb) (.int .i64 ni) (.string ns) (.slice nal nnl ncl) (.slice nam nnm ncm)
        have Bvwc := Below.set6 Bvwb (M := w.heap.size + 3) (by omega) 0 1 2 3 4 5 (.int .i64 nk) (.bool nb) (.int .i64 ni) (.string ns) (.slice nal nnl ncl) (.slice nam nnm ncm)
        have HN : Hid ((V.mk 5 false 0 ⟨#[]⟩ [] (pchM o0 (m.take (j + 1)))).lies false ((((((wb.setCell ⟨w.heap.size + 3, 0, none⟩ (.int .i64 nk)).setCell ⟨w.heap.size + 3, 1, none⟩ (.bool nb)).setCell ⟨w.heap.size + 3, 2, none⟩ (.int .i64 ni)).setCell ⟨w.heap.size + 3, 3, none⟩ (.string ns)).setCell ⟨w.heap.size + 3, 4, none⟩ (.slice nal nnl ncl)).setCell ⟨w.heap.size + 3, 5, none⟩ (.slice nam nnm ncm)) (fun y => w.heap.size + 3 < y ∧ y < ((((((wb.setCell ⟨w.heap.size + 3, 0, none⟩ (.int .i64 nk)).setCell ⟨w.heap.size + 3, 1, none⟩ (.bool nb)).setCell ⟨w.heap.size + 3, 2, none⟩ (.int .i64 ni)).setCell ⟨w.heap.size + 3, 3, none⟩ (.string ns)).setCell ⟨w.heap.size + 3, 4, none⟩ (.slice nal nnl ncl)).setCell ⟨w.heap.size + 3, 5, none⟩ (.slice nam nnm ncm)).heap.size) [.int .i64 nk, .bool nb, .int .i64 ni, .string ns, .slice nal nnl ncl, .slice nam nnm ncm]) := by
          show V.lies _ _ _ _ _
          rw [HS.out]
          exact V.lies_keep (fun h => h) (fun y hy => Howc.out y (hy.elim (fun h => by omega) (fun h => by have := h.1; omega))) (fun y hy => by rw [Hswc.out]; exact hy.elim (fun h => ⟨h.1, by omega⟩) (fun h => ⟨by have := h.1; omega, h.2⟩)) _ hln
        clear hln
        go_wp2_with fail
        clear co0 co1 co2 co3 co4 co5 fo
        generalize ((((((wb.setCell ⟨w.heap.size + 3, 0, none⟩ (.int .i64 nk)).setCell ⟨w.heap.size + 3, 1, none⟩ (.bool nb)).setCell ⟨w.heap.size + 3, 2, none⟩ (.int .i64 ni)).setCell ⟨w.heap.size + 3, 3, none⟩ (.string ns)).setCell ⟨w.heap.size + 3, 4, none⟩ (.slice nal nnl ncl)).setCell ⟨w.heap.size + 3, 5, none⟩ (.slice nam nnm ncm)) = wc at *
        go_roundw
        case rel => exact ⟨j + 1, _, _, _, _, _, _, _, _, _, _, by omega, by go_num, howc, Bvwc, HN⟩
        case measure => simp [RowKit.intOf]; omega
      · have HS : Hid (pchM o0 (m.take (j + 1)) = witR L ekey (pchV (getR L ekey) xv)) := by show _ = _; rw [HNX.out, stpR, if_neg (fun h => hek (hke.symm.trans h))]
        have co0 : (wr.alloc (.cells #[.int .i64 ek, .bool eb, .int .i64 ei, .string es, .slice eal enl ecl, .slice eam enm ecm] 25)).cell? ⟨w.heap.size + 3, 0, none⟩ = some (.int .i64 ok) := by rw [cell_of_block howa]; rfl
        have co1 : (wr.alloc (.cells #[.int .i64 ek, .bool eb, .int .i64 ei, .string es, .slice eal enl ecl, .slice eam enm ecm] 25)).cell? ⟨w.heap.size + 3, 1, none⟩ = some (.bool ob) := by rw [cell_of_block howa]; rfl
        have co2 : (wr.alloc (.cells #[.int .i64 ek, .bool eb, .int .i64 ei, .string es, .slice eal enl ecl, .slice eam enm ecm] 25)).cell? ⟨w.heap.size + 3, 2, none⟩ = some (.int .i64 oi) := by rw [cell_of_block howa]; rfl
        have co3 : (wr.alloc (.cells #[.int .i64 ek, .bool eb, .int .i64 ei, .string es, .slice eal enl ecl, .slice eam enm ecm] 25)).cell? ⟨w.heap.size + 3, 3, none⟩ = some (.string os) := by rw [cell_of_block howa]; rfl
        have co4 : (wr.alloc (.cells #[.int .i64 ek, .bool eb, .int .i64 ei, .string es, .slice eal enl ecl, .slice eam enm ecm] 25)).cell? ⟨w.heap.size + 3, 4, none⟩ = some (.slice oal onl ocl) := by rw [cell_of_block howa]; rfl
        have co5 : (wr.alloc (.cells #[.int .i64 ek, .bool eb, .int .i64 ei, .string es, .slice eal enl ecl, .slice eam enm ecm] 25)).cell? ⟨w.heap.size + 3, 5, none⟩ = some (.slice oam onm ocm) := by rw [cell_of_block howa]; rfl
        go_wp2_with fail
        clear co0 co1 co2 co3 co4 co5 cx0 qk q0 q1 q2 q3 q4 q5 cq5
        generalize (wr.alloc (.cells #[.int .i64 ek, .bool eb, .int .i64 ei, .string es, .slice eal enl ecl, .slice eam enm ecm] 25)) = wa at *
        refine (rget05_any 5 false 0 ⟨#[]⟩ [] L ekey (fun y => w.heap.size + 3 < y ∧ y < wr.heap.size) _ wa (HO1.out wa Brwa) (fun y hy => by have := hy.2; omega) (by omega)).mono ?_
        rintro e wb ⟨csg, rfl, hlg, bb⟩
        obtain ⟨gk, gb, gi, gs, gal, gnl, gcl, gam, gnm, gcm, rfl⟩ := V.ten hlg
        have HG : Hid (∀ W, Below wb.heap.size wb W → (getR L ekey).lies false W (fun y => w.heap.size + 3 < y ∧ y < wb.heap.size) [.int .i64 gk, .bool gb, .int .i64 gi, .string gs, .slice gal gnl gcl, .slice gam gnm gcm]) := fun W hb => V.lies_keep (fun h => h) (fun y hy => hb.block y (hy.elim (fun h => by have := bb.size; omega) (fun h => h.2))) (fun y hy => hy.elim (fun h => ⟨h.1, by have := bb.size; omega⟩) (fun h => ⟨by have := h.1; omega, h.2⟩)) _ hlg
        have hzwb := bb.size
        have htwb := (bb.block (w.heap.size) (by omega)).trans htwa
        have hpwb := (bb.block (w.heap.size + 1) (by omega)).trans hpwa
        have hzwb := (bb.block (w.heap.size + 2) (by omega)).trans hzwa
        have howb := (bb.block (w.heap.size + 3) (by omega)).trans howa
        have hxwb := (bb.block (wr.heap.size) (by omega)).trans hxwa
        have Bwwb := Bwwa.trans (bb.mono (by omega))
        have Bvwb := Bvwa.trans (bb.mono (by omega))
        have Brwb := Brwa.trans (bb.mono (by omega))
        clear bb hlg
        have Bgwb : Below wb.heap.size wb wb := Below.refl _ _
        have bzwc : Below wb.heap.size wb (wb.alloc (.cells #[.int .i64 gk, .bool gb, .int .i64 gi, .string gs, .slice gal gnl gcl, .slice gam gnm gcm] 25)) := one_belowG _ _
        have hltwc : wb.heap.size < (wb.alloc (.cells #[.int .i64 gk, .bool gb, .int .i64 gi, .string gs, .slice gal gnl gcl, .slice gam gnm gcm] 25)).heap.size := by rw [alloc_size]; omega
        have htwc := (bzwc.block (w.heap.size) (by omega)).trans htwb
        have hpwc := (bzwc.block (w.heap.size + 1) (by omega)).trans hpwb
        have hzwc := (bzwc.block (w.heap.size + 2) (by omega)).trans hzwb
        have howc := (bzwc.block (w.heap.size + 3) (by omega)).trans howb
        have hxwc := (bzwc.block (wr.heap.size) (by omega)).trans hxwb
        have Bwwc := Bwwb.trans (bzwc.mono (by omega))
        have Bvwc := Bvwb.trans (bzwc.mono (by omega))
        have Brwc := Brwb.trans (bzwc.mono (by omega))
        have Bgwc := Bgwb.trans (bzwc.mono (by omega))
        have hgwc := heap_alloc_new wb (.cells #[.int .i64 gk, .bool gb, .int .i64 gi, .string gs, .slice gal gnl gcl, .slice gam gnm gcm] 25)
        have cg0 : (wb.alloc (.cells #[.int .i64 gk, .bool gb, .int .i64 gi, .string gs, .slice gal gnl gcl, .slice gam gnm gcm] 25)).cell? ⟨wb.heap.size, 0, none⟩ = some (.int .i64 gk) := by rw [cell_of_block hgwc]; rfl
        have cg1 : (wb.alloc (.cells #[.int .i64 gk, .bool gb, .int .i64 gi, .string gs, .slice gal gnl gcl, .slice gam gnm gcm] 25)).cell? ⟨wb.heap.size, 1, none⟩ = some (.bool gb) := by rw [cell_of_block hgwc]; rfl
        have cg2 : (wb.alloc (.cells #[.int .i64 gk, .bool gb, .int .i64 gi, .string gs, .slice gal gnl gcl, .slice gam gnm gcm] 25)).cell? ⟨wb.heap.size, 2, none⟩ = some (.int .i64 gi) := by rw [cell_of_block hgwc]; rfl
        have cg3 : (wb.alloc (.cells #[.int .i64 gk, .bool gb, .int .i64 gi, .string gs, .slice gal gnl gcl, .slice gam gnm gcm] 25)).cell? ⟨wb.heap.size, 3, none⟩ = some (.string gs) := by rw [cell_of_block hgwc]; rfl
        have cg4 : (wb.alloc (.cells #[.int .i64 gk, .bool gb, .int .i64 gi, .string gs, .slice gal gnl gcl, .slice gam gnm gcm] 25)).cell? ⟨wb.heap.size, 4, none⟩ = some (.slice gal gnl gcl) := by rw [cell_of_block hgwc]; rfl
        have cg5 : (wb.alloc (.cells #[.int .i64 gk, .bool gb, .int .i64 gi, .string gs, .slice gal gnl gcl, .slice gam gnm gcm] 25)).cell? ⟨wb.heap.size, 5, none⟩ = some (.slice gam gnm gcm) := by rw [cell_of_block hgwc]; rfl
        have cx0 : (wb.alloc (.cells #[.int .i64 gk, .bool gb, .int .i64 gi, .string gs, .slice gal gnl gcl, .slice gam gnm gcm] 25)).cell? ⟨wr.heap.size, 0, none⟩ = some (.int .i64 ek) := by rw [cell_of_block hxwc]; rfl
        have cx1 : (wb.alloc (.cells #[.int .i64 gk, .bool gb, .int .i64 gi, .string gs, .slice gal gnl gcl, .slice gam gnm gcm] 25)).cell? ⟨wr.heap.size, 1, none⟩ = some (.bool eb) := by rw [cell_of_block hxwc]; rfl
        have cx2 : (wb.alloc (.cells #[.int .i64 gk, .bool gb, .int .i64 gi, .string gs, .slice gal gnl gcl, .slice gam gnm gcm] 25)).cell? ⟨wr.heap.size, 2, none⟩ = some (.int .i64 ei) := by rw [cell_of_block hxwc]; rfl
        have cx3 : (wb.alloc (.cells #[.int .i64 gk, .bool gb, .int .i64 gi, .string gs, .slice gal gnl gcl, .slice gam gnm gcm] 25)).cell? ⟨wr.heap.size, 3, none⟩ = some (.string es) := by rw [cell_of_block hxwc]; rfl
        have cx4 : (wb.alloc (.cells #[.int .i64 gk, .bool gb, .int .i64 gi, .string gs, .slice gal gnl gcl, .slice gam gnm gcm] 25)).cell? ⟨wr.heap.size, 4, none⟩ = some (.slice eal enl ecl) := by rw [cell_of_block hxwc]; rfl
        have cx5 : (wb.alloc (.cells #[.int .i64 gk, .bool gb, .int .i64 gi, .string gs, .slice gal gnl gcl, .slice gam gnm gcm] 25)).cell? ⟨wr.heap.size, 5, none⟩ = some (.slice eam enm ecm) := by rw [cell_of_block hxwc]; rfl
        go_wp2_with fail
        clear cg0 cg1 cg2 cg3 cg4 cg5 cx0 cx1 cx2 cx3 cx4 cx5
        generalize (wb.alloc (.cells #[.int .i64 gk, .bool gb, .int .i64 gi, .string gs, .slice gal gnl gcl, .slice gam gnm gcm] 25)) = wc at *
        have hok : Ok (getR L ekey) := by rw [HGA.out]; exact HGO.out ekey
        refine (HIH.out (getR L ekey) (fun y => S y ∨ (w.heap.size + 3 < y ∧ y < wb.heap.size)) _ _ wc hok HOJ.out (V.lies_keep (fun h => h) (fun _ _ => rfl) (fun y hy => .inr hy) _ (HG.out wc Bgwc)) (V.lies_keep (fun h => h) (fun _ _ => rfl) (fun y hy => .inl hy) _ (HE.out wc Bwwc)) (fun y hy => hy.elim (fun h => by have := hS y h; omega) (fun h => by omega))).mono ?_
        rintro e wd ⟨csr, rfl, hlr, bd⟩
        obtain ⟨rk, rb, ri, rs, ral, rnl, rcl, ram, rnm, rcm, rfl⟩ := V.ten hlr
        have HR : Hid (∀ W, Below wd.heap.size wd W → (pchV (getR L ekey) xv).lies false W (fun y => w.heap.size + 3 < y ∧ y < wd.heap.size) [.int .i64 rk, .bool rb, .int .i64 ri, .string rs, .slice ral rnl rcl, .slice ram rnm rcm]) := fun W hb => V.lies_keep (fun h => h) (fun y hy => hb.block y hy.2) (fun y hy => ⟨by have := hy.1; omega, hy.2⟩) _ hlr
        have hzwd := bd.size
        have htwd := (bd.block (w.heap.size) (by omega)).trans htwc
        have hpwd := (bd.block (w.heap.size + 1) (by omega)).trans hpwc
        have hzwd := (bd.block (w.heap.size + 2) (by omega)).trans hzwc
        have howd := (bd.block (w.heap.size + 3) (by omega)).trans howc
        have hxwd := (bd.block (wr.heap.size) (by omega)).trans hxwc
        have hgwd := (bd.block (wb.heap.size) (by omega)).trans hgwc
        have Bwwd := Bwwc.trans (bd.mono (by omega))
        have Bvwd := Bvwc.trans (bd.mono (by omega))
        have Brwd := Brwc.trans (bd.mono (by omega))
        have Bgwd := Bgwc.trans (bd.mono (by omega))
        clear bd hlr hok HG
        have Bdwd : Below wd.heap.size wd wd := Below.refl _ _
        have bzwe : Below wd.heap.size wd (wd.alloc (.cells #[.int .i64 rk, .bool rb, .int .i64 ri, .string rs, .slice ral rnl rcl, .slice ram rnm rcm] 25)) := one_belowG _ _
        have hltwe : wd.heap.size < (wd.alloc (.cells #[.int .i64 rk, .bool rb, .int .i64 ri, .string rs, .slice ral rnl rcl, .slice ram rnm rcm] 25)).heap.size := by rw [alloc_size]; omega
        have htwe := (bzwe.block (w.heap.size) (by omega)).trans htwd
        have hpwe := (bzwe.block (w.heap.size + 1) (by omega)).trans hpwd
        have hzwe := (bzwe.block (w.heap.size + 2) (by omega)).trans hzwd
        have howe := (bzwe.block (w.heap.size + 3) (by omega)).trans howd
        have Bwwe := Bwwd.trans (bzwe.mono (by omega))
        have Bvwe := Bvwd.trans (bzwe.mono (by omega))
        have Brwe := Brwd.trans (bzwe.mono (by omega))
        have Bdwe := Bdwd.trans (bzwe.mono (by omega))
        have hrwe := heap_alloc_new wd (.cells #[.int .i64 rk, .bool rb, .int .i64 ri, .string rs, .slice ral rnl rcl, .slice ram rnm rcm] 25)
        have co0 : (wd.alloc (.cells #[.int .i64 rk, .bool rb, .int .i64 ri, .string rs, .slice ral rnl rcl, .slice ram rnm rcm] 25)).cell? ⟨w.heap.size + 3, 0, none⟩ = some (.int .i64 ok) := by rw [cell_of_block howe]; rfl
        have co1 : (wd.alloc (.cells #[.int .i64 rk, .bool rb, .int .i64 ri, .string rs, .slice ral rnl rcl, .slice ram rnm rcm] 25)).cell? ⟨w.heap.size + 3, 1, none⟩ = some (.bool ob) := by rw [cell_of_block howe]; rfl
        have co2 : (wd.alloc (.cells #[.int .i64 rk, .bool rb, .int .i64 ri, .string rs, .slice ral rnl rcl, .slice ram rnm rcm] 25)).cell? ⟨w.heap.size + 3, 2, none⟩ = some (.int .i64 oi) := by rw [cell_of_block howe]; rfl
        have co3 : (wd.alloc (.cells #[.int .i64 rk, .bool rb, .int .i64 ri, .string rs, .slice ral rnl rcl, .slice ram rnm rcm] 25)).cell? ⟨w.heap.size + 3, 3, none⟩ = some (.string os) := by rw [cell_of_block howe]; rfl
        have co4 : (wd.alloc (.cells #[.int .i64 rk, .bool rb, .int .i64 ri, .string rs, .slice ral rnl rcl, .slice ram rnm rcm] 25)).cell? ⟨w.heap.size + 3, 4, none⟩ = some (.slice oal onl ocl) := by rw [cell_of_block howe]; rfl
        have co5 : (wd.alloc (.cells #[.int .i64 rk, .bool rb, .int .i64 ri, .string rs, .slice ral rnl rcl, .slice ram rnm rcm] 25)).cell? ⟨w.heap.size + 3, 5, none⟩ = some (.slice oam onm ocm) := by rw [cell_of_block howe]; rfl
        have cr0 : (wd.alloc (.cells #[.int .i64 rk, .bool rb, .int .i64 ri, .string rs, .slice ral rnl rcl, .slice ram rnm rcm] 25)).cell? ⟨wd.heap.size, 0, none⟩ = some (.int .i64 rk) := by rw [cell_of_block hrwe]; rfl
        have cr1 : (wd.alloc (.cells #[.int .i64 rk, .bool rb, .int .i64 ri, .string rs, .slice ral rnl rcl, .slice ram rnm rcm] 25)).cell? ⟨wd.heap.size, 1, none⟩ = some (.bool rb) := by rw [cell_of_block hrwe]; rfl
        have cr2 : (wd.alloc (.cells #[.int .i64 rk, .bool rb, .int .i64 ri, .string rs, .slice ral rnl rcl, .slice ram rnm rcm] 25)).cell? ⟨wd.heap.size, 2, none⟩ = some (.int .i64 ri) := by rw [cell_of_block hrwe]; rfl
        have cr3 : (wd.alloc (.cells #[.int .i64 rk, .bool rb, .int .i64 ri, .string rs, .slice ral rnl rcl, .slice ram rnm rcm] 25)).cell? ⟨wd.heap.size, 3, none⟩ = some (.string rs) := by rw [cell_of_block hrwe]; rfl
        have cr4 : (wd.alloc (.cells #[.int .i64 rk, .bool rb, .int .i64 ri, .string rs, .slice ral rnl rcl, .slice ram rnm rcm] 25)).cell? ⟨wd.heap.size, 4, none⟩ = some (.slice ral rnl rcl) := by rw [cell_of_block hrwe]; rfl
        have cr5 : (wd.alloc (.cells #[.int .i64 rk, .bool rb, .int .i64 ri, .string rs, .slice ral rnl rcl, .slice ram rnm rcm] 25)).cell? ⟨wd.heap.size, 5, none⟩ = some (.slice ram rnm rcm) := by rw [cell_of_block hrwe]; rfl
        go_wp2_with fail
        clear co0 co1 co2 co3 co4 co5 cr0 cr1 cr2 cr3 cr4 cr5
        generalize (wd.alloc (.cells #[.int .i64 rk, .bool rb, .int .i64 ri, .string rs, .slice ral rnl rcl, .slice ram rnm rcm] 25)) = we at *
        refine (rwit_any 5 false 0 ⟨#[]⟩ [] L ekey (pchV (getR L ekey) xv) (fun y => w.heap.size + 3 < y ∧ y < we.heap.size) _ _ we (V.lies_keep (fun h => h) (fun _ _ => rfl) (fun y hy => ⟨hy.1, by omega⟩) _ (HO1.out we Brwe)) (V.lies_keep (fun h => h) (fun _ _ => rfl) (fun y hy => ⟨hy.1, by omega⟩) _ (HR.out we Bdwe)) hks (fun y hy => hy.2) hwO).mono ?_
        rintro e wf ⟨csn, rfl, hln, bf⟩
        obtain ⟨nk, nb, ni, ns, nal, nnl, ncl, nam, nnm, ncm, rfl⟩ := V.ten hln
        have hzwf := bf.size
        have htwf := (bf.block (w.heap.size) (by omega)).trans htwe
        have hpwf := (bf.block (w.heap.size + 1) (by omega)).trans hpwe
        have hzwf := (bf.block (w.heap.size + 2) (by omega)).trans hzwe
        have howf := (bf.block (w.heap.size + 3) (by omega)).trans howe
        have hrwf := (bf.block (wd.heap.size) (by omega)).trans hrwe
        have Bwwf := Bwwe.trans (bf.mono (by omega))
        have Bvwf := Bvwe.trans (bf.mono (by omega))
        have Brwf := Brwe.trans (bf.mono (by omega))
        have Bdwf := Bdwe.trans (bf.mono (by omega))
        clear bf HR
        have co0 : wf.cell? ⟨w.heap.size + 3, 0, none⟩ = some (.int .i64 ok) := by rw [cell_of_block howf]; rfl
        have co1 : wf.cell? ⟨w.heap.size + 3, 1, none⟩ = some (.bool ob) := by rw [cell_of_block howf]; rfl
        have co2 : wf.cell? ⟨w.heap.size + 3, 2, none⟩ = some (.int .i64 oi) := by rw [cell_of_block howf]; rfl
        have co3 : wf.cell? ⟨w.heap.size + 3, 3, none⟩ = some (.string os) := by rw [cell_of_block howf]; rfl
        have co4 : wf.cell? ⟨w.heap.size + 3, 4, none⟩ = some (.slice oal onl ocl) := by rw [cell_of_block howf]; rfl
        have co5 : wf.cell? ⟨w.heap.size + 3, 5, none⟩ = some (.slice oam onm ocm) := by rw [cell_of_block howf]; rfl
        have fo := frozen_of_block howf
        have Howg := hmk (six_o wf (w.heap.size + 3) (.int .i64 nk) (.bool nb) (.int .i64 ni) (.string ns) (.slice nal nnl ncl) (.slice nam nnm ncm))
        have Hswg : Hid (((((((wf.setCell ⟨w.heap.size + 3, 0, none⟩ (.int .i64 nk)).setCell ⟨w.heap.size + 3, 1, none⟩ (.bool nb)).setCell ⟨w.heap.size + 3, 2, none⟩ (.int .i64 ni)).setCell ⟨w.heap.size + 3, 3, none⟩ (.string ns)).setCell ⟨w.heap.size + 3, 4, none⟩ (.slice nal nnl ncl)).setCell ⟨w.heap.size + 3, 5, none⟩ (.slice nam nnm ncm)).heap.size = wf.heap.size) := by show _ = _; simp only [size_set1]
        have hgewg : wf.heap.size ≤ ((((((wf.setCell ⟨w.heap.size + 3, 0, none⟩ (.int .i64 nk)).setCell ⟨w.heap.size + 3, 1, none⟩ (.bool nb)).setCell ⟨w.heap.size + 3, 2, none⟩ (.int .i64 ni)).setCell ⟨w.heap.size + 3, 3, none⟩ (.string ns)).setCell ⟨w.heap.size + 3, 4, none⟩ (.slice nal nnl ncl)).setCell ⟨w.heap.size + 3, 5, none⟩ (.slice nam nnm ncm)).heap.size := by rw [Hswg.out]; exact Nat.le_refl _
        have htwg := (Howg.out (w.heap.size) (by omega)).trans htwf
        have hpwg := (Howg.out (w.heap.size + 1) (by omega)).trans hpwf
        have hzwg := (Howg.out (w.heap.size + 2) (by omega)).trans hzwf
        have howg := box_six howf (.int .i64 nk) (.bool nb) (.int .i64 ni) (.string ns) (.slice nal nnl ncl) (.slice nam nnm ncm)
        have hrwg := (Howg.out (wd.heap.size) (by omega)).trans hrwf
        have Bwwg := Below.set6 Bwwf (M := w.heap.size + 3) (by omega) 0 1 2 3 4 5 (.int .i64 nk) (.bool nb) (.int .i64 ni) (.string ns) (.slice nal nnl ncl) (.slice nam nnm ncm)
        have Bvwg := Below.set6 Bvwf (M := w.heap.size + 3) (by omega) 0 1 2 3 4 5 (.int .i64 nk) (.bool nb) (.int .i64 ni) (.string ns) (.slice nal nnl ncl) (.slice nam nnm ncm)
        have HN : Hid ((V.mk 5 false 0 ⟨#[]⟩ [] (pchM o0 (m.take (j + 1)))).lies false ((((((wf.setCell ⟨w.heap.size + 3, 0, none⟩ (.int .i64 nk)).setCell ⟨w.heap.size + 3, 1, none⟩ (.bool nb)).setCell ⟨w.heap.size + 3, 2, none⟩ (.int .i64 ni)).setCell ⟨w.heap.size + 3, 3, none⟩ (.string ns)).setCell ⟨w.heap.size + 3, 4, none⟩ (.slice nal nnl ncl)).setCell ⟨w.heap.size + 3, 5, none⟩ (.slice nam nnm ncm)) (fun y => w.heap.size + 3 < y ∧ y < ((((((wf.setCell ⟨w.heap.size + 3, 0, none⟩ (.int .i64 nk)).setCell ⟨w.heap.size + 3, 1, none⟩ (.bool nb)).setCell ⟨w.heap.size + 3, 2, none⟩ (.int .i64 ni)).setCell ⟨w.heap.size + 3, 3, none⟩ (.string ns)).setCell ⟨w.heap.size + 3, 4, none⟩ (.slice nal nnl ncl)).setCell ⟨w.heap.size + 3, 5, none⟩ (.slice nam nnm ncm)).heap.size) [.int .i64 nk, .bool nb, .int .i64 ni, .string ns, .slice nal nnl ncl, .slice nam nnm ncm]) := by
          show V.lies _ _ _ _ _
          rw [HS.out]
          exact V.lies_keep (fun h => h) (fun y hy => Howg.out y (hy.elim (fun h => by omega) (fun h => by have := h.1; omega))) (fun y hy => by rw [Hswg.out]; exact hy.elim (fun h => ⟨h.1, by omega⟩) (fun h => ⟨by have := h.1; omega, h.2⟩)) _ hln
        clear hln
        go_wp2_with fail
        clear co0 co1 co2 co3 co4 co5 fo
        generalize ((((((wf.setCell ⟨w.heap.size + 3, 0, none⟩ (.int .i64 nk)).setCell ⟨w.heap.size + 3, 1, none⟩ (.bool nb)).setCell ⟨w.heap.size + 3, 2, none⟩ (.int .i64 ni)).setCell ⟨w.heap.size + 3, 3, none⟩ (.string ns)).setCell ⟨w.heap.size + 3, 4, none⟩ (.slice nal nnl ncl)).setCell ⟨w.heap.size + 3, 5, none⟩ (.slice nam nnm ncm)) = wg at *
        go_roundw
        case rel => exact ⟨j + 1, _, _, _, _, _, _, _, _, _, _, by omega, by go_num, howg, Bvwg, HN⟩
        case measure => simp [RowKit.intOf]; omega
  · have HN : Hid ((V.mk 5 false 0 ⟨#[]⟩ [] (pchM (if kindOf t = 5 then memsOf t else []) (m.take 0))).lies false ((((w.alloc (.cells #[.int .i64 tk, .bool tb, .int .i64 ti, .string ts, .slice tal tnl tcl, .slice tam tnm tcm] 25)).alloc (.cells #[.int .i64 5, .bool b, .int .i64 i, .string s, .slice al l.length cl, .slice am m.length cm] 25)).alloc (.cells #[.int .i64 0, .bool false, .int .i64 0, .string ⟨#[]⟩, .slice none 0 0, .slice none 0 0] 25)).alloc (.cells #[.int .i64 5, .bool false, .int .i64 0, .string ⟨#[]⟩, .slice none 0 0, .slice none 0 0] 25)) (fun y => w.heap.size + 3 < y ∧ y < ((((w.alloc (.cells #[.int .i64 tk, .bool tb, .int .i64 ti, .string ts, .slice tal tnl tcl, .slice tam tnm tcm] 25)).alloc (.cells #[.int .i64 5, .bool b, .int .i64 i, .string s, .slice al l.length cl, .slice am m.length cm] 25)).alloc (.cells #[.int .i64 0, .bool false, .int .i64 0, .string ⟨#[]⟩, .slice none 0 0, .slice none 0 0] 25)).alloc (.cells #[.int .i64 5, .bool false, .int .i64 0, .string ⟨#[]⟩, .slice none 0 0, .slice none 0 0] 25)).heap.size) [.int .i64 5, .bool false, .int .i64 0, .string ⟨#[]⟩, .slice none 0 0, .slice none 0 0]) := by
      show V.lies _ _ _ _ _
      rw [List.take_zero, pchM, if_neg (fun h => ht5 (hkt.symm.trans h))]
      exact five_lies _ _
    have hbt : (tk == 5) = false := beq_eq_false_iff_ne.2 ht5
    go_enter Tryd.func36, Tryd.ntmps36
    go_wp2_with fail
    clear ct0 cp0
    generalize ((((w.alloc (.cells #[.int .i64 tk, .bool tb, .int .i64 ti, .string ts, .slice tal tnl tcl, .slice tam tnm tcm] 25)).alloc (.cells #[.int .i64 5, .bool b, .int .i64 i, .string s, .slice al l.length cl, .slice am m.length cm] 25)).alloc (.cells #[.int .i64 0, .bool false, .int .i64 0, .string ⟨#[]⟩, .slice none 0 0, .slice none 0 0] 25)).alloc (.cells #[.int .i64 5, .bool false, .int .i64 0, .string ⟨#[]⟩, .slice none 0 0, .slice none 0 0] 25)) = w5 at *
    generalize (if kindOf t = 5 then memsOf t else []) = o0 at *
    have Bww5 := Bww4
    have htw5 := htw4
    have hpw5 := hpw4
    have hzw5 := hzw4
    have how5 := how4
    go_loopw [6] (fun e wr => ∃ (j : Nat) (ok : Int) (ob : Bool) (oi : Int) (os : ByteArray) (oal : Option Addr) (onl ocl : Nat) (oam : Option Addr) (onm ocm : Nat), j ≤ m.length ∧ e = .int .i64 (j : Int) ∧ wr.heap[w.heap.size + 3]? = some (.cells #[.int .i64 ok, .bool ob, .int .i64 oi, .string os, .slice oal onl ocl, .slice oam onm ocm] 25) ∧ Hid (Below (w.heap.size + 3) w5 wr) ∧ Hid ((V.mk 5 false 0 ⟨#[]⟩ [] (pchM o0 (m.take j))).lies false wr (fun y => w.heap.size + 3 < y ∧ y < wr.heap.size) [.int .i64 ok, .bool ob, .int .i64 oi, .string os, .slice oal onl ocl, .slice oam onm ocm])) (fun e _ => m.length - (RowKit.intOf e).toNat)
    case atStart => exact ⟨0, _, _, _, _, _, _, _, _, _, _, by omega, rfl, how5, Below.refl _ _, HN⟩
    case round =>
      obtain ⟨j, ok, ob, oi, os, oal, onl, ocl, oam, onm, ocm, hj, rfl, howr, Hbr, HO⟩ := hrel
      have br := Hbr.out
      clear Hbr
      have hzwr := br.size
      have htwr := (br.block (w.heap.size) (by omega)).trans htw5
      have hpwr := (br.block (w.heap.size + 1) (by omega)).trans hpw5
      have hzwr := (br.block (w.heap.size + 2) (by omega)).trans hzw5
      have Bwwr := Bww5.trans (br.mono (by omega))
      have Bvwr := br
      clear br
      have cq0 : wr.cell? ⟨w.heap.size + 1, 0, none⟩ = some (.int .i64 5) := by rw [cell_of_block hpwr]; rfl
      have cq1 : wr.cell? ⟨w.heap.size + 1, 1, none⟩ = some (.bool b) := by rw [cell_of_block hpwr]; rfl
      have cq2 : wr.cell? ⟨w.heap.size + 1, 2, none⟩ = some (.int .i64 i) := by rw [cell_of_block hpwr]; rfl
      have cq3 : wr.cell? ⟨w.heap.size + 1, 3, none⟩ = some (.string s) := by rw [cell_of_block hpwr]; rfl
      have cq4 : wr.cell? ⟨w.heap.size + 1, 4, none⟩ = some (.slice al l.length cl) := by rw [cell_of_block hpwr]; rfl
      have cq5 : wr.cell? ⟨w.heap.size + 1, 5, none⟩ = some (.slice am m.length cm) := by rw [cell_of_block hpwr]; rfl
      clear cq0 cq1 cq2 cq3 cq4
      by_cases hjl : j < m.length
      rotate_left
      · obtain rfl : j = m.length := by omega
        have y1 : ¬ (m.length : Int) < m.length := by omega
        have HO := HO.out
        rw [List.take_length] at HO
        have HE := hmk (wn_fin (M := w.heap.size + 2) (by omega) Bwwr (V.lies_keep (fun h => h) (fun _ _ => rfl) (fun y hy => ⟨by omega, by omega, hy.2⟩) _ HO))
        have cz0 : wr.cell? ⟨w.heap.size + 2, 0, none⟩ = some (.int .i64 0) := by rw [cell_of_block hzwr]; rfl
        have cz1 : wr.cell? ⟨w.heap.size + 2, 1, none⟩ = some (.bool false) := by rw [cell_of_block hzwr]; rfl
        have cz2 : wr.cell? ⟨w.heap.size + 2, 2, none⟩ = some (.int .i64 0) := by rw [cell_of_block hzwr]; rfl
        have cz3 : wr.cell? ⟨w.heap.size + 2, 3, none⟩ = some (.string ⟨#[]⟩) := by rw [cell_of_block hzwr]; rfl
        have cz4 : wr.cell? ⟨w.heap.size + 2, 4, none⟩ = some (.slice none 0 0) := by rw [cell_of_block hzwr]; rfl
        have cz5 : wr.cell? ⟨w.heap.size + 2, 5, none⟩ = some (.slice none 0 0) := by rw [cell_of_block hzwr]; rfl
        have fz := frozen_of_block hzwr
        have co0 : wr.cell? ⟨w.heap.size + 3, 0, none⟩ = some (.int .i64 ok) := by rw [cell_of_block howr]; rfl
        have co1 : wr.cell? ⟨w.heap.size + 3, 1, none⟩ = some (.bool ob) := by rw [cell_of_block howr]; rfl
        have co2 : wr.cell? ⟨w.heap.size + 3, 2, none⟩ = some (.int .i64 oi) := by rw [cell_of_block howr]; rfl
        have co3 : wr.cell? ⟨w.heap.size + 3, 3, none⟩ = some (.string os) := by rw [cell_of_block howr]; rfl
        have co4 : wr.cell? ⟨w.heap.size + 3, 4, none⟩ = some (.slice oal onl ocl) := by rw [cell_of_block howr]; rfl
        have co5 : wr.cell? ⟨w.heap.size + 3, 5, none⟩ = some (.slice oam onm ocm) := by rw [cell_of_block howr]; rfl
        clear HO
        go_wp2_with fail
        (try simp only [Exit.inBlock, Exit.then])
        refine bodyPost_ret (v := .agg #[.int .i64 ok, .bool ob, .int .i64 oi, .string os, .slice oal onl ocl, .slice oam onm ocm]) ?_ rfl ?_
        rotate_left
        · rw [HP.out]
          exact ⟨[.int .i64 ok, .bool ob, .int .i64 oi, .string os, .slice oal onl ocl, .slice oam onm ocm], rfl, HE.out.1, HE.out.2⟩
        · rw [results_cell1 rfl]
          go_simp
      have y1 : (j : Int) < m.length := by omega
      obtain rfl : am = some ⟨bm, om, none⟩ := ham.at_.resolve_left (by omega)
      obtain ⟨hSb, hks, csj, hrow, hlj⟩ := liesM_get (HM.out wr Bwwr) j hjl
      have HNX := hmk (pchM_next (o := o0) hjl)
      have HGA := hmk (getR_at HSR.out.1 HSR.out.2 hjl)
      have HIH := hmk (ihm m[j] (List.getElem_mem hjl))
      have HOJ := hmk (HOM.out m[j] (List.getElem_mem hjl))
      obtain ⟨ek, eb, ei, es, eal, enl, ecl, eam, enm, ecm, rfl⟩ := V.ten hlj
      have hke := kind_lies hlj
      have HE : Hid (∀ W, Below w.heap.size w W → (m[j]).2.lies false W S [.int .i64 ek, .bool eb, .int .i64 ei, .string es, .slice eal enl ecl, .slice eam enm ecm]) := fun W hB => V.lies_keep (fun h => h) (fun x hx => (hB.block x (hS x hx)).trans (Bwwr.block x (hS x hx)).symm) (fun x hx => hx) _ hlj
      rcases hxj : m[j] with ⟨ekey, xv⟩
      rw [hxj] at hks hrow HNX HGA HIH HOJ hke HE
      simp only at hks hrow HNX HGA HIH HOJ hke HE
      obtain ⟨qk, q0, q1, q2, q3, q4, q5⟩ := row7 hrow
      have hpw := pchM_wt o0 (m.take j)
      have hpt := wtM_take m j
      have hwO : (V.mk 5 false 0 ⟨#[]⟩ [] (pchM o0 (m.take j))).wt ≤ 3000000 := by
        simp only [V.wt, wtL]
        have e : (⟨#[]⟩ : ByteArray).size = 0 := rfl
        omega
      clear hlj hxj hrow hpw hpt
      generalize pchM o0 (m.take j) = L at *
      have bzwa : Below wr.heap.size wr (wr.alloc (.cells #[.int .i64 ek, .bool eb, .int .i64 ei, .string es, .slice eal enl ecl, .slice eam enm ecm] 25)) := one_belowG _ _
      have hltwa : wr.heap.size < (wr.alloc (.cells #[.int .i64 ek, .bool eb, .int .i64 ei, .string es, .slice eal enl ecl, .slice eam enm ecm] 25)).heap.size := by rw [alloc_size]; omega
      have htwa := (bzwa.block (w.heap.size) (by omega)).trans htwr
      have hpwa := (bzwa.block (w.heap.size + 1) (by omega)).trans hpwr
      have hzwa := (bzwa.block (w.heap.size + 2) (by omega)).trans hzwr
      have howa := (bzwa.block (w.heap.size + 3) (by omega)).trans howr
      have Bwwa := Bwwr.trans (bzwa.mono (by omega))
      have Bvwa := Bvwr.trans (bzwa.mono (by omega))
      have hxwa := heap_alloc_new wr (.cells #[.int .i64 ek, .bool eb, .int .i64 ei, .string es, .slice eal enl ecl, .slice eam enm ecm] 25)
      have cx0 : (wr.alloc (.cells #[.int .i64 ek, .bool eb, .int .i64 ei, .string es, .slice eal enl ecl, .slice eam enm ecm] 25)).cell? ⟨wr.heap.size, 0, none⟩ = some (.int .i64 ek) := by rw [cell_of_block hxwa]; rfl
      have HO1 : Hid (∀ W, Below wr.heap.size wr W → (V.mk 5 false 0 ⟨#[]⟩ [] L).lies false W (fun y => w.heap.size + 3 < y ∧ y < wr.heap.size) [.int .i64 ok, .bool ob, .int .i64 oi, .string os, .slice oal onl ocl, .slice oam onm ocm]) := fun W hb => V.lies_keep (fun h => h) (fun y hy => hb.block y hy.2) (fun _ h => h) _ HO.out
      clear HO
      have Brwr : Below wr.heap.size wr wr := Below.refl _ _
      have Brwa : Below wr.heap.size wr (wr.alloc (.cells #[.int .i64 ek, .bool eb, .int .i64 ei, .string es, .slice eal enl ecl, .slice eam enm ecm] 25)) := bzwa
      by_cases hek : ek = 0
      · have HS : Hid (pchM o0 (m.take (j + 1)) = wotR L ekey) := by show _ = _; rw [HNX.out, stpR, if_pos (hke.trans hek)]
        subst hek
        have co0 : (wr.alloc (.cells #[.int .i64 0, .bool eb, .int .i64 ei, .string es, .slice eal enl ecl, .slice eam enm ecm] 25)).cell? ⟨w.heap.size + 3, 0, none⟩ = some (.int .i64 ok) := by rw [cell_of_block howa]; rfl
        have co1 : (wr.alloc (.cells #[.int .i64 0, .bool eb, .int .i64 ei, .string es, .slice eal enl ecl, .slice eam enm ecm] 25)).cell? ⟨w.heap.size + 3, 1, none⟩ = some (.bool ob) := by rw [cell_of_block howa]; rfl
        have co2 : (wr.alloc (.cells #[.int .i64 0, .bool eb, .int .i64 ei, .string es, .slice eal enl ecl, .slice eam enm ecm] 25)).cell? ⟨w.heap.size + 3, 2, none⟩ = some (.int .i64 oi) := by rw [cell_of_block howa]; rfl
        have co3 : (wr.alloc (.cells #[.int .i64 0, .bool eb, .int .i64 ei, .string es, .slice eal enl ecl, .slice eam enm ecm] 25)).cell? ⟨w.heap.size + 3, 3, none⟩ = some (.string os) := by rw [cell_of_block howa]; rfl
        have co4 : (wr.alloc (.cells #[.int .i64 0, .bool eb, .int .i64 ei, .string es, .slice eal enl ecl, .slice eam enm ecm] 25)).cell? ⟨w.heap.size + 3, 4, none⟩ = some (.slice oal onl ocl) := by rw [cell_of_block howa]; rfl
        have co5 : (wr.alloc (.cells #[.int .i64 0, .bool eb, .int .i64 ei, .string es, .slice eal enl ecl, .slice eam enm ecm] 25)).cell? ⟨w.heap.size + 3, 5, none⟩ = some (.slice oam onm ocm) := by rw [cell_of_block howa]; rfl
        go_wp2_with fail
        clear co0 co1 co2 co3 co4 co5 cx0 qk q0 q1 q2 q3 q4 q5 cq5
        generalize (wr.alloc (.cells #[.int .i64 0, .bool eb, .int .i64 ei, .string es, .slice eal enl ecl, .slice eam enm ecm] 25)) = wa at *
        refine (rwot_any 5 false 0 ⟨#[]⟩ [] L ekey (fun y => w.heap.size + 3 < y ∧ y < wr.heap.size) _ wa (HO1.out wa Brwa) (fun y hy => by have := hy.2; omega) hwO).mono ?_
        rintro e wb ⟨csn, rfl, hln, bb⟩
        obtain ⟨nk, nb, ni, ns, nal, nnl, ncl, nam, nnm, ncm, rfl⟩ := V.ten hln
        have hzwb := bb.size
        have htwb := (bb.block (w.heap.size) (by omega)).trans htwa
        have hpwb := (bb.block (w.heap.size + 1) (by omega)).trans hpwa
        have hzwb := (bb.block (w.heap.size + 2) (by omega)).trans hzwa
        have howb := (bb.block (w.heap.size + 3) (by omega)).trans howa
        have hxwb := (bb.block (wr.heap.size) (by omega)).trans hxwa
        have Bwwb := Bwwa.trans (bb.mono (by omega))
        have Bvwb := Bvwa.trans (bb.mono (by omega))
        have Brwb := Brwa.trans (bb.mono (by omega))
        clear bb
        have co0 : wb.cell? ⟨w.heap.size + 3, 0, none⟩ = some (.int .i64 ok) := by rw [cell_of_block howb]; rfl
        have co1 : wb.cell? ⟨w.heap.size + 3, 1, none⟩ = some (.bool ob) := by rw [cell_of_block howb]; rfl
        have co2 : wb.cell? ⟨w.heap.size + 3, 2, none⟩ = some (.int .i64 oi) := by rw [cell_of_block howb]; rfl
        have co3 : wb.cell? ⟨w.heap.size + 3, 3, none⟩ = some (.string os) := by rw [cell_of_block howb]; rfl
        have co4 : wb.cell? ⟨w.heap.size + 3, 4, none⟩ = some (.slice oal onl ocl) := by rw [cell_of_block howb]; rfl
        have co5 : wb.cell? ⟨w.heap.size + 3, 5, none⟩ = some (.slice oam onm ocm) := by rw [cell_of_block howb]; rfl
        have fo := frozen_of_block howb
        have Howc := hmk (six_o wb (w.heap.size + 3) (.int .i64 nk) (.bool nb) (.int .i64 ni) (.string ns) (.slice nal nnl ncl) (.slice nam nnm ncm))
        have Hswc : Hid (((((((wb.setCell ⟨w.heap.size + 3, 0, none⟩ (.int .i64 nk)).setCell ⟨w.heap.size + 3, 1, none⟩ (.bool nb)).setCell ⟨w.heap.size + 3, 2, none⟩ (.int .i64 ni)).setCell ⟨w.heap.size + 3, 3, none⟩ (.string ns)).setCell ⟨w.heap.size + 3, 4, none⟩ (.slice nal nnl ncl)).setCell ⟨w.heap.size + 3, 5, none⟩ (.slice nam nnm ncm)).heap.size = wb.heap.size) := by show _ = _; simp only [size_set1]
        have hgewc : wb.heap.size ≤ ((((((wb.setCell ⟨w.heap.size + 3, 0, none⟩ (.int .i64 nk)).setCell ⟨w.heap.size + 3, 1, none⟩ (.bool nb)).setCell ⟨w.heap.size + 3, 2, none⟩ (.int .i64 ni)).setCell ⟨w.heap.size + 3, 3, none⟩ (.string ns)).setCell ⟨w.heap.size + 3, 4, none⟩ (.slice nal nnl ncl)).setCell ⟨w.heap.size + 3, 5, none⟩ (.slice nam nnm ncm)).heap.size := by rw [Hswc.out]; exact Nat.le_refl _
        have htwc := (Howc.out (w.heap.size) (by omega)).trans htwb
        have hpwc := (Howc.out (w.heap.size + 1) (by omega)).trans hpwb
        have hzwc := (Howc.out (w.heap.size + 2) (by omega)).trans hzwb
        have howc := box_six howb (.int .i64 nk) (.bool nb) (.int .i64 ni) (.string ns) (.slice nal nnl ncl) (.slice nam nnm ncm)
        have hxwc := (Howc.out (wr.heap.size) (by omega)).trans hxwb
        have Bwwc := Below.set6 Bwwb (M := w.heap.size + 3) (by omega) 0 1 2 3 4 5 (.int .i64 nk) (.bool nb) (.int .i64 ni) (.string ns) (.slice nal nnl ncl) (.slice nam nnm ncm)
        have Bvwc := Below.set6 Bvwb (M := w.heap.size + 3) (by omega) 0 1 2 3 4 5 (.int .i64 nk) (.bool nb) (.int .i64 ni) (.string ns) (.slice nal nnl ncl) (.slice nam nnm ncm)
        have HN : Hid ((V.mk 5 false 0 ⟨#[]⟩ [] (pchM o0 (m.take (j + 1)))).lies false ((((((wb.setCell ⟨w.heap.size + 3, 0, none⟩ (.int .i64 nk)).setCell ⟨w.heap.size + 3, 1, none⟩ (.bool nb)).setCell ⟨w.heap.size + 3, 2, none⟩ (.int .i64 ni)).setCell ⟨w.heap.size + 3, 3, none⟩ (.string ns)).setCell ⟨w.heap.size + 3, 4, none⟩ (.slice nal nnl ncl)).setCell ⟨w.heap.size + 3, 5, none⟩ (.slice nam nnm ncm)) (fun y => w.heap.size + 3 < y ∧ y < ((((((wb.setCell ⟨w.heap.size + 3, 0, none⟩ (.int .i64 nk)).setCell ⟨w.heap.size + 3, 1, none⟩ (.bool nb)).setCell ⟨w.heap.size + 3, 2, none⟩ (.int .i64 ni)).setCell ⟨w.heap.size + 3, 3, none⟩ (.string ns)).setCell ⟨w.heap.size + 3, 4, none⟩ (.slice nal nnl ncl)).setCell ⟨w.heap.size + 3, 5, none⟩ (.slice nam nnm ncm)).heap.size) [.int .i64 nk, .bool nb, .int .i64 ni, .string ns, .slice nal nnl ncl, .slice nam nnm ncm]) := by
          show V.lies _ _ _ _ _
          rw [HS.out]
          exact V.lies_keep (fun h => h) (fun y hy => Howc.out y (hy.elim (fun h => by omega) (fun h => by have := h.1; omega))) (fun y hy => by rw [Hswc.out]; exact hy.elim (fun h => ⟨h.1, by omega⟩) (fun h => ⟨by have := h.1; omega, h.2⟩)) _ hln
        clear hln
        go_wp2_with fail
        clear co0 co1 co2 co3 co4 co5 fo
        generalize ((((((wb.setCell ⟨w.heap.size + 3, 0, none⟩ (.int .i64 nk)).setCell ⟨w.heap.size + 3, 1, none⟩ (.bool nb)).setCell ⟨w.heap.size + 3, 2, none⟩ (.int .i64 ni)).setCell ⟨w.heap.size + 3, 3, none⟩ (.string ns)).setCell ⟨w.heap.size + 3, 4, none⟩ (.slice nal nnl ncl)).setCell ⟨w.heap.size + 3, 5, none⟩ (.slice nam nnm ncm)) = wc at *
        go_roundw
        case rel => exact ⟨j + 1, _, _, _, _, _, _, _, _, _, _, by omega, by go_num, howc, Bvwc, HN⟩
        case measure => simp [RowKit.intOf]; omega
      · have HS : Hid (pchM o0 (m.take (j + 1)) = witR L ekey (pchV (getR L ekey) xv)) := by show _ = _; rw [HNX.out, stpR, if_neg (fun h => hek (hke.symm.trans h))]
        have co0 : (wr.alloc (.cells #[.int .i64 ek, .bool eb, .int .i64 ei, .string es, .slice eal enl ecl, .slice eam enm ecm] 25)).cell? ⟨w.heap.size + 3, 0, none⟩ = some (.int .i64 ok) := by rw [cell_of_block howa]; rfl
        have co1 : (wr.alloc (.cells #[.int .i64 ek, .bool eb, .int .i64 ei, .string es, .slice eal enl ecl, .slice eam enm ecm] 25)).cell? ⟨w.heap.size + 3, 1, none⟩ = some (.bool ob) := by rw [cell_of_block howa]; rfl
        have co2 : (wr.alloc (.cells #[.int .i64 ek, .bool eb, .int .i64 ei, .string es, .slice eal enl ecl, .slice eam enm ecm] 25)).cell? ⟨w.heap.size + 3, 2, none⟩ = some (.int .i64 oi) := by rw [cell_of_block howa]; rfl
        have co3 : (wr.alloc (.cells #[.int .i64 ek, .bool eb, .int .i64 ei, .string es, .slice eal enl ecl, .slice eam enm ecm] 25)).cell? ⟨w.heap.size + 3, 3, none⟩ = some (.string os) := by rw [cell_of_block howa]; rfl
        have co4 : (wr.alloc (.cells #[.int .i64 ek, .bool eb, .int .i64 ei, .string es, .slice eal enl ecl, .slice eam enm ecm] 25)).cell? ⟨w.heap.size + 3, 4, none⟩ = some (.slice oal onl ocl) := by rw [cell_of_block howa]; rfl
        have co5 : (wr.alloc (.cells #[.int .i64 ek, .bool eb, .int .i64 ei, .string es, .slice eal enl ecl, .slice eam enm ecm] 25)).cell? ⟨w.heap.size + 3, 5, none⟩ = some (.slice oam onm ocm) := by rw [cell_of_block howa]; rfl
        go_wp2_with fail
        clear co0 co1 co2 co3 co4 co5 cx0 qk q0 q1 q2 q3 q4 q5 cq5
        generalize (wr.alloc (.cells #[.int .i64 ek, .bool eb, .int .i64 ei, .string es, .slice eal enl ecl, .slice eam enm ecm] 25)) = wa at *
        refine (rget05_any 5 false 0 ⟨#[]⟩ [] L ekey (fun y => w.heap.size + 3 < y ∧ y < wr.heap.size) _ wa (HO1.out wa Brwa) (fun y hy => by have := hy.2; omega) (by omega)).mono ?_
        rintro e wb ⟨csg, rfl, hlg, bb⟩
        obtain ⟨gk, gb, gi, gs, gal, gnl, gcl, gam, gnm, gcm, rfl⟩ := V.ten hlg
        have HG : Hid (∀ W, Below wb.heap.size wb W → (getR L ekey).lies false W (fun y => w.heap.size + 3 < y ∧ y < wb.heap.size) [.int .i64 gk, .bool gb, .int .i64 gi, .string gs, .slice gal gnl gcl, .slice gam gnm gcm]) := fun W hb => V.lies_keep (fun h => h) (fun y hy => hb.block y (hy.elim (fun h => by have := bb.size; omega) (fun h => h.2))) (fun y hy => hy.elim (fun h => ⟨h.1, by have := bb.size; omega⟩) (fun h => ⟨by have := h.1; omega, h.2⟩)) _ hlg
        have hzwb := bb.size
        have htwb := (bb.block (w.heap.size) (by omega)).trans htwa
        have hpwb := (bb.block (w.heap.size + 1) (by omega)).trans hpwa
        have hzwb := (bb.block (w.heap.size + 2) (by omega)).trans hzwa
        have howb := (bb.block (w.heap.size + 3) (by omega)).trans howa
        have hxwb := (bb.block (wr.heap.size) (by omega)).trans hxwa
        have Bwwb := Bwwa.trans (bb.mono (by omega))
        have Bvwb := Bvwa.trans (bb.mono (by omega))
        have Brwb := Brwa.trans (bb.mono (by omega))
        clear bb hlg
        have Bgwb : Below wb.heap.size wb wb := Below.refl _ _
        have bzwc : Below wb.heap.size wb (wb.alloc (.cells #[.int .i64 gk, .bool gb, .int .i64 gi, .string gs, .slice gal gnl gcl, .slice gam gnm gcm] 25)) := one_belowG _ _
        have hltwc : wb.heap.size < (wb.alloc (.cells #[.int .i64 gk, .bool gb, .int .i64 gi, .string gs, .slice gal gnl gcl, .slice gam gnm gcm] 25)).heap.size := by rw [alloc_size]; omega
        have htwc := (bzwc.block (w.heap.size) (by omega)).trans htwb
        have hpwc := (bzwc.block (w.heap.size + 1) (by omega)).trans hpwb
        have hzwc := (bzwc.block (w.heap.size + 2) (by omega)).trans hzwb
        have howc := (bzwc.block (w.heap.size + 3) (by omega)).trans howb
        have hxwc := (bzwc.block (wr.heap.size) (by omega)).trans hxwb
        have Bwwc := Bwwb.trans (bzwc.mono (by omega))
        have Bvwc := Bvwb.trans (bzwc.mono (by omega))
        have Brwc := Brwb.trans (bzwc.mono (by omega))
        have Bgwc := Bgwb.trans (bzwc.mono (by omega))
        have hgwc := heap_alloc_new wb (.cells #[.int .i64 gk, .bool gb, .int .i64 gi, .string gs, .slice gal gnl gcl, .slice gam gnm gcm] 25)
        have cg0 : (wb.alloc (.cells #[.int .i64 gk, .bool gb, .int .i64 gi, .string gs, .slice gal gnl gcl, .slice gam gnm gcm] 25)).cell? ⟨wb.heap.size, 0, none⟩ = some (.int .i64 gk) := by rw [cell_of_block hgwc]; rfl
        have cg1 : (wb.alloc (.cells #[.int .i64 gk, .bool gb, .int .i64 gi, .string gs, .slice gal gnl gcl, .slice gam gnm gcm] 25)).cell? ⟨wb.heap.size, 1, none⟩ = some (.bool gb) := by rw [cell_of_block hgwc]; rfl
        have cg2 : (wb.alloc (.cells #[.int .i64 gk, .bool gb, .int .i64 gi, .string gs, .slice gal gnl gcl, .slice gam gnm gcm] 25)).cell? ⟨wb.heap.size, 2, none⟩ = some (.int .i64 gi) := by rw [cell_of_block hgwc]; rfl
        have cg3 : (wb.alloc (.cells #[.int .i64 gk, .bool gb, .int .i64 gi, .string gs, .slice gal gnl gcl, .slice gam gnm gcm] 25)).cell? ⟨wb.heap.size, 3, none⟩ = some (.string gs) := by rw [cell_of_block hgwc]; rfl
        have cg4 : (wb.alloc (.cells #[.int .i64 gk, .bool gb, .int .i64 gi, .string gs, .slice gal gnl gcl, .slice gam gnm gcm] 25)).cell? ⟨wb.heap.size, 4, none⟩ = some (.slice gal gnl gcl) := by rw [cell_of_block hgwc]; rfl
        have cg5 : (wb.alloc (.cells #[.int .i64 gk, .bool gb, .int .i64 gi, .string gs, .slice gal gnl gcl, .slice gam gnm gcm] 25)).cell? ⟨wb.heap.size, 5, none⟩ = some (.slice gam gnm gcm) := by rw [cell_of_block hgwc]; rfl
        have cx0 : (wb.alloc (.cells #[.int .i64 gk, .bool gb, .int .i64 gi, .string gs, .slice gal gnl gcl, .slice gam gnm gcm] 25)).cell? ⟨wr.heap.size, 0, none⟩ = some (.int .i64 ek) := by rw [cell_of_block hxwc]; rfl
        have cx1 : (wb.alloc (.cells #[.int .i64 gk, .bool gb, .int .i64 gi, .string gs, .slice gal gnl gcl, .slice gam gnm gcm] 25)).cell? ⟨wr.heap.size, 1, none⟩ = some (.bool eb) := by rw [cell_of_block hxwc]; rfl
        have cx2 : (wb.alloc (.cells #[.int .i64 gk, .bool gb, .int .i64 gi, .string gs, .slice gal gnl gcl, .slice gam gnm gcm] 25)).cell? ⟨wr.heap.size, 2, none⟩ = some (.int .i64 ei) := by rw [cell_of_block hxwc]; rfl
        have cx3 : (wb.alloc (.cells #[.int .i64 gk, .bool gb, .int .i64 gi, .string gs, .slice gal gnl gcl, .slice gam gnm gcm] 25)).cell? ⟨wr.heap.size, 3, none⟩ = some (.string es) := by rw [cell_of_block hxwc]; rfl
        have cx4 : (wb.alloc (.cells #[.int .i64 gk, .bool gb, .int .i64 gi, .string gs, .slice gal gnl gcl, .slice gam gnm gcm] 25)).cell? ⟨wr.heap.size, 4, none⟩ = some (.slice eal enl ecl) := by rw [cell_of_block hxwc]; rfl
        have cx5 : (wb.alloc (.cells #[.int .i64 gk, .bool gb, .int .i64 gi, .string gs, .slice gal gnl gcl, .slice gam gnm gcm] 25)).cell? ⟨wr.heap.size, 5, none⟩ = some (.slice eam enm ecm) := by rw [cell_of_block hxwc]; rfl
        go_wp2_with fail
        clear cg0 cg1 cg2 cg3 cg4 cg5 cx0 cx1 cx2 cx3 cx4 cx5
        generalize (wb.alloc (.cells #[.int .i64 gk, .bool gb, .int .i64 gi, .string gs, .slice gal gnl gcl, .slice gam gnm gcm] 25)) = wc at *
        have hok : Ok (getR L ekey) := by rw [HGA.out]; exact HGO.out ekey
        refine (HIH.out (getR L ekey) (fun y => S y ∨ (w.heap.size + 3 < y ∧ y < wb.heap.size)) _ _ wc hok HOJ.out (V.lies_keep (fun h => h) (fun _ _ => rfl) (fun y hy => .inr hy) _ (HG.out wc Bgwc)) (V.lies_keep (fun h => h) (fun _ _ => rfl) (fun y hy => .inl hy) _ (HE.out wc Bwwc)) (fun y hy => hy.elim (fun h => by have := hS y h; omega) (fun h => by omega))).mono ?_
        rintro e wd ⟨csr, rfl, hlr, bd⟩
        obtain ⟨rk, rb, ri, rs, ral, rnl, rcl, ram, rnm, rcm, rfl⟩ := V.ten hlr
        have HR : Hid (∀ W, Below wd.heap.size wd W → (pchV (getR L ekey) xv).lies false W (fun y => w.heap.size + 3 < y ∧ y < wd.heap.size) [.int .i64 rk, .bool rb, .int .i64 ri, .string rs, .slice ral rnl rcl, .slice ram rnm rcm]) := fun W hb => V.lies_keep (fun h => h) (fun y hy => hb.block y hy.2) (fun y hy => ⟨by have := hy.1; omega, hy.2⟩) _ hlr
        have hzwd := bd.size
        have htwd := (bd.block (w.heap.size) (by omega)).trans htwc
        have hpwd := (bd.block (w.heap.size + 1) (by omega)).trans hpwc
        have hzwd := (bd.block (w.heap.size + 2) (by omega)).trans hzwc
        have howd := (bd.block (w.heap.size + 3) (by omega)).trans howc
        have hxwd := (bd.block (wr.heap.size) (by omega)).trans hxwc
        have hgwd := (bd.block (wb.heap.size) (by omega)).trans hgwc
        have Bwwd := Bwwc.trans (bd.mono (by omega))
        have Bvwd := Bvwc.trans (bd.mono (by omega))
        have Brwd := Brwc.trans (bd.mono (by omega))
        have Bgwd := Bgwc.trans (bd.mono (by omega))
        clear bd hlr hok HG
        have Bdwd : Below wd.heap.size wd wd := Below.refl _ _
        have bzwe : Below wd.heap.size wd (wd.alloc (.cells #[.int .i64 rk, .bool rb, .int .i64 ri, .string rs, .slice ral rnl rcl, .slice ram rnm rcm] 25)) := one_belowG _ _
        have hltwe : wd.heap.size < (wd.alloc (.cells #[.int .i64 rk, .bool rb, .int .i64 ri, .string rs, .slice ral rnl rcl, .slice ram rnm rcm] 25)).heap.size := by rw [alloc_size]; omega
        have htwe := (bzwe.block (w.heap.size) (by omega)).trans htwd
        have hpwe := (bzwe.block (w.heap.size + 1) (by omega)).trans hpwd
        have hzwe := (bzwe.block (w.heap.size + 2) (by omega)).trans hzwd
        have howe := (bzwe.block (w.heap.size + 3) (by omega)).trans howd
        have Bwwe := Bwwd.trans (bzwe.mono (by omega))
        have Bvwe := Bvwd.trans (bzwe.mono (by omega))
        have Brwe := Brwd.trans (bzwe.mono (by omega))
        have Bdwe := Bdwd.trans (bzwe.mono (by omega))
        have hrwe := heap_alloc_new wd (.cells #[.int .i64 rk, .bool rb, .int .i64 ri, .string rs, .slice ral rnl rcl, .slice ram rnm rcm] 25)
        have co0 : (wd.alloc (.cells #[.int .i64 rk, .bool rb, .int .i64 ri, .string rs, .slice ral rnl rcl, .slice ram rnm rcm] 25)).cell? ⟨w.heap.size + 3, 0, none⟩ = some (.int .i64 ok) := by rw [cell_of_block howe]; rfl
        have co1 : (wd.alloc (.cells #[.int .i64 rk, .bool rb, .int .i64 ri, .string rs, .slice ral rnl rcl, .slice ram rnm rcm] 25)).cell? ⟨w.heap.size + 3, 1, none⟩ = some (.bool ob) := by rw [cell_of_block howe]; rfl
        have co2 : (wd.alloc (.cells #[.int .i64 rk, .bool rb, .int .i64 ri, .string rs, .slice ral rnl rcl, .slice ram rnm rcm] 25)).cell? ⟨w.heap.size + 3, 2, none⟩ = some (.int .i64 oi) := by rw [cell_of_block howe]; rfl
        have co3 : (wd.alloc (.cells #[.int .i64 rk, .bool rb, .int .i64 ri, .string rs, .slice ral rnl rcl, .slice ram rnm rcm] 25)).cell? ⟨w.heap.size + 3, 3, none⟩ = some (.string os) := by rw [cell_of_block howe]; rfl
        have co4 : (wd.alloc (.cells #[.int .i64 rk, .bool rb, .int .i64 ri, .string rs, .slice ral rnl rcl, .slice ram rnm rcm] 25)).cell? ⟨w.heap.size + 3, 4, none⟩ = some (.slice oal onl ocl) := by rw [cell_of_block howe]; rfl
        have co5 : (wd.alloc (.cells #[.int .i64 rk, .bool rb, .int .i64 ri, .string rs, .slice ral rnl rcl, .slice ram rnm rcm] 25)).cell? ⟨w.heap.size + 3, 5, none⟩ = some (.slice oam onm ocm) := by rw [cell_of_block howe]; rfl
        have cr0 : (wd.alloc (.cells #[.int .i64 rk, .bool rb, .int .i64 ri, .string rs, .slice ral rnl rcl, .slice ram rnm rcm] 25)).cell? ⟨wd.heap.size, 0, none⟩ = some (.int .i64 rk) := by rw [cell_of_block hrwe]; rfl
        have cr1 : (wd.alloc (.cells #[.int .i64 rk, .bool rb, .int .i64 ri, .string rs, .slice ral rnl rcl, .slice ram rnm rcm] 25)).cell? ⟨wd.heap.size, 1, none⟩ = some (.bool rb) := by rw [cell_of_block hrwe]; rfl
        have cr2 : (wd.alloc (.cells #[.int .i64 rk, .bool rb, .int .i64 ri, .string rs, .slice ral rnl rcl, .slice ram rnm rcm] 25)).cell? ⟨wd.heap.size, 2, none⟩ = some (.int .i64 ri) := by rw [cell_of_block hrwe]; rfl
        have cr3 : (wd.alloc (.cells #[.int .i64 rk, .bool rb, .int .i64 ri, .string rs, .slice ral rnl rcl, .slice ram rnm rcm] 25)).cell? ⟨wd.heap.size, 3, none⟩ = some (.string rs) := by rw [cell_of_block hrwe]; rfl
        have cr4 : (wd.alloc (.cells #[.int .i64 rk, .bool rb, .int .i64 ri, .string rs, .slice ral rnl rcl, .slice ram rnm rcm] 25)).cell? ⟨wd.heap.size, 4, none⟩ = some (.slice ral rnl rcl) := by rw [cell_of_block hrwe]; rfl
        have cr5 : (wd.alloc (.cells #[.int .i64 rk, .bool rb, .int .i64 ri, .string rs, .slice ral rnl rcl, .slice ram rnm rcm] 25)).cell? ⟨wd.heap.size, 5, none⟩ = some (.slice ram rnm rcm) := by rw [cell_of_block hrwe]; rfl
        go_wp2_with fail
        clear co0 co1 co2 co3 co4 co5 cr0 cr1 cr2 cr3 cr4 cr5
        generalize (wd.alloc (.cells #[.int .i64 rk, .bool rb, .int .i64 ri, .string rs, .slice ral rnl rcl, .slice ram rnm rcm] 25)) = we at *
        refine (rwit_any 5 false 0 ⟨#[]⟩ [] L ekey (pchV (getR L ekey) xv) (fun y => w.heap.size + 3 < y ∧ y < we.heap.size) _ _ we (V.lies_keep (fun h => h) (fun _ _ => rfl) (fun y hy => ⟨hy.1, by omega⟩) _ (HO1.out we Brwe)) (V.lies_keep (fun h => h) (fun _ _ => rfl) (fun y hy => ⟨hy.1, by omega⟩) _ (HR.out we Bdwe)) hks (fun y hy => hy.2) hwO).mono ?_
        rintro e wf ⟨csn, rfl, hln, bf⟩
        obtain ⟨nk, nb, ni, ns, nal, nnl, ncl, nam, nnm, ncm, rfl⟩ := V.ten hln
        have hzwf := bf.size
        have htwf := (bf.block (w.heap.size) (by omega)).trans htwe
        have hpwf := (bf.block (w.heap.size + 1) (by omega)).trans hpwe
        have hzwf := (bf.block (w.heap.size + 2) (by omega)).trans hzwe
        have howf := (bf.block (w.heap.size + 3) (by omega)).trans howe
        have hrwf := (bf.block (wd.heap.size) (by omega)).trans hrwe
        have Bwwf := Bwwe.trans (bf.mono (by omega))
        have Bvwf := Bvwe.trans (bf.mono (by omega))
        have Brwf := Brwe.trans (bf.mono (by omega))
        have Bdwf := Bdwe.trans (bf.mono (by omega))
        clear bf HR
        have co0 : wf.cell? ⟨w.heap.size + 3, 0, none⟩ = some (.int .i64 ok) := by rw [cell_of_block howf]; rfl
        have co1 : wf.cell? ⟨w.heap.size + 3, 1, none⟩ = some (.bool ob) := by rw [cell_of_block howf]; rfl
        have co2 : wf.cell? ⟨w.heap.size + 3, 2, none⟩ = some (.int .i64 oi) := by rw [cell_of_block howf]; rfl
        have co3 : wf.cell? ⟨w.heap.size + 3, 3, none⟩ = some (.string os) := by rw [cell_of_block howf]; rfl
        have co4 : wf.cell? ⟨w.heap.size + 3, 4, none⟩ = some (.slice oal onl ocl) := by rw [cell_of_block howf]; rfl
        have co5 : wf.cell? ⟨w.heap.size + 3, 5, none⟩ = some (.slice oam onm ocm) := by rw [cell_of_block howf]; rfl
        have fo := frozen_of_block howf
        have Howg := hmk (six_o wf (w.heap.size + 3) (.int .i64 nk) (.bool nb) (.int .i64 ni) (.string ns) (.slice nal nnl ncl) (.slice nam nnm ncm))
        have Hswg : Hid (((((((wf.setCell ⟨w.heap.size + 3, 0, none⟩ (.int .i64 nk)).setCell ⟨w.heap.size + 3, 1, none⟩ (.bool nb)).setCell ⟨w.heap.size + 3, 2, none⟩ (.int .i64 ni)).setCell ⟨w.heap.size + 3, 3, none⟩ (.string ns)).setCell ⟨w.heap.size + 3, 4, none⟩ (.slice nal nnl ncl)).setCell ⟨w.heap.size + 3, 5, none⟩ (.slice nam nnm ncm)).heap.size = wf.heap.size) := by show _ = _; simp only [size_set1]
        have hgewg : wf.heap.size ≤ ((((((wf.setCell ⟨w.heap.size + 3, 0, none⟩ (.int .i64 nk)).setCell ⟨w.heap.size + 3, 1, none⟩ (.bool nb)).setCell ⟨w.heap.size + 3, 2, none⟩ (.int .i64 ni)).setCell ⟨w.heap.size + 3, 3, none⟩ (.string ns)).setCell ⟨w.heap.size + 3, 4, none⟩ (.slice nal nnl ncl)).setCell ⟨w.heap.size + 3, 5, none⟩ (.slice nam nnm ncm)).heap.size := by rw [Hswg.out]; exact Nat.le_refl _
        have htwg := (Howg.out (w.heap.size) (by omega)).trans htwf
        have hpwg := (Howg.out (w.heap.size + 1) (by omega)).trans hpwf
        have hzwg := (Howg.out (w.heap.size + 2) (by omega)).trans hzwf
        have howg := box_six howf (.int .i64 nk) (.bool nb) (.int .i64 ni) (.string ns) (.slice nal nnl ncl) (.slice nam nnm ncm)
        have hrwg := (Howg.out (wd.heap.size) (by omega)).trans hrwf
        have Bwwg := Below.set6 Bwwf (M := w.heap.size + 3) (by omega) 0 1 2 3 4 5 (.int .i64 nk) (.bool nb) (.int .i64 ni) (.string ns) (.slice nal nnl ncl) (.slice nam nnm ncm)
        have Bvwg := Below.set6 Bvwf (M := w.heap.size + 3) (by omega) 0 1 2 3 4 5 (.int .i64 nk) (.bool nb) (.int .i64 ni) (.string ns) (.slice nal nnl ncl) (.slice nam nnm ncm)
        have HN : Hid ((V.mk 5 false 0 ⟨#[]⟩ [] (pchM o0 (m.take (j + 1)))).lies false ((((((wf.setCell ⟨w.heap.size + 3, 0, none⟩ (.int .i64 nk)).setCell ⟨w.heap.size + 3, 1, none⟩ (.bool nb)).setCell ⟨w.heap.size + 3, 2, none⟩ (.int .i64 ni)).setCell ⟨w.heap.size + 3, 3, none⟩ (.string ns)).setCell ⟨w.heap.size + 3, 4, none⟩ (.slice nal nnl ncl)).setCell ⟨w.heap.size + 3, 5, none⟩ (.slice nam nnm ncm)) (fun y => w.heap.size + 3 < y ∧ y < ((((((wf.setCell ⟨w.heap.size + 3, 0, none⟩ (.int .i64 nk)).setCell ⟨w.heap.size + 3, 1, none⟩ (.bool nb)).setCell ⟨w.heap.size + 3, 2, none⟩ (.int .i64 ni)).setCell ⟨w.heap.size + 3, 3, none⟩ (.string ns)).setCell ⟨w.heap.size + 3, 4, none⟩ (.slice nal nnl ncl)).setCell ⟨w.heap.size + 3, 5, none⟩ (.slice nam nnm ncm)).heap.size) [.int .i64 nk, .bool nb, .int .i64 ni, .string ns, .slice nal nnl ncl, .slice nam nnm ncm]) := by
          show V.lies _ _ _ _ _
          rw [HS.out]
          exact V.lies_keep (fun h => h) (fun y hy => Howg.out y (hy.elim (fun h => by omega) (fun h => by have := h.1; omega))) (fun y hy => by rw [Hswg.out]; exact hy.elim (fun h => ⟨h.1, by omega⟩) (fun h => ⟨by have := h.1; omega, h.2⟩)) _ hln
        clear hln
        go_wp2_with fail
        clear co0 co1 co2 co3 co4 co5 fo
        generalize ((((((wf.setCell ⟨w.heap.size + 3, 0, none⟩ (.int .i64 nk)).setCell ⟨w.heap.size + 3, 1, none⟩ (.bool nb)).setCell ⟨w.heap.size + 3, 2, none⟩ (.int .i64 ni)).setCell ⟨w.heap.size + 3, 3, none⟩ (.string ns)).setCell ⟨w.heap.size + 3, 4, none⟩ (.slice nal nnl ncl)).setCell ⟨w.heap.size + 3, 5, none⟩ (.slice nam nnm ncm)) = wg at *
        go_roundw
        case rel => exact ⟨j + 1, _, _, _, _, _, _, _, _, _, _, by omega, by go_num, howg, Bvwg, HN⟩
        case measure => simp [RowKit.intOf]; omega
end Go.Proofs.YtjfldbmopjojdaaDoor
