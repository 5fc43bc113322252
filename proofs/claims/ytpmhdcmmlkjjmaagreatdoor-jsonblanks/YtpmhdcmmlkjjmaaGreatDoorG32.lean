/- joined: JrN JpA -/
import Derived.Test.YtpmhdcmmlkjjmaaGreatDoorJrM
import Derived.Laws.AppendOwnNone
/- json.Parse. -/
set_option linter.unusedSimpArgs false
set_option linter.unusedVariables false
set_option maxRecDepth 100000
namespace Go.Proofs.YtpmhdcmmlkjjmaaGreatDoor
open Go.RowKit Go.Lib
/-- bytes that were handed in -/
def Bys (w : World) (v : Value) (l : List UInt8) : Prop := ∃ ao cap, v = .slice ao l.length cap ∧ (ao = none → l = []) ∧ ∀ a, ao = some a → ∀ (j : Nat) (h : j < l.length), a.block < w.heap.size ∧ w.cell? (a.add j) = some (.int .u8 ((l[j]).toNat : Int))
theorem Bys.conv {w w' : World} {v : Value} {l : List UInt8} (h : Bys w v l) (hb : Below w.heap.size w w') : (convert 28 9 v).run Tryz.prog w' = .ok (.string ⟨l.toArray⟩) w' := by
  obtain ⟨ao, cap, rfl, h0, h1⟩ := h
  cases ao with
  | none =>
    have := h0 rfl
    subst this
    exact run_convert_bytes_nil (P := Tryz.prog) w' 28 5 Tryz.underlying28 Tryz.underlying5 0 cap 9 Tryz.underlying9
  | some a =>
    refine run_convert_bytes_back (P := Tryz.prog) w' 28 9 5 a cap l Tryz.underlying28 Tryz.underlying5 Tryz.underlying9 ?_
    intro j hj
    obtain ⟨hlt, hc⟩ := h1 a rfl j hj
    refine (hb.cell (p := a.add j) ?_).trans hc
    unfold Addr.add
    split <;> exact hlt
/-- what Parse answers -/
def parJ (l : List UInt8) (z : Int) : V × Int × Int :=
  if z < 0 ∨ 40 < z then (nulV, 0, 2)
  else if 1048576 < l.length then (nulV, 0, 30)
  else match whoJ l z.toNat (2 * l.length + 1) with
    | .ok v => (v, -1, 0)
    | .error f => (nulV, (f.1 : Int), (f.2 : Int))
def PrP (R : V × Int × Int) (w : World) (e : Ending) (w' : World) : Prop := ∃ cs, e = .returned (.tuple #[.agg cs.toArray, .int .i64 R.2.1, .int .i64 R.2.2]) ∧ R.1.lies false w' (New w w') cs ∧ Below w.heap.size w w'
theorem parJ_arg {l : List UInt8} {z : Int} (h : z < 0 ∨ 40 < z) : parJ l z = (nulV, 0, 2) := by rw [parJ, if_pos h]
theorem parJ_long {l : List UInt8} {z : Int} (h : ¬ (z < 0 ∨ 40 < z)) (h2 : 1048576 < l.length) : parJ l z = (nulV, 0, 30) := by rw [parJ, if_neg h, if_pos h2]
theorem parJ_ok {l : List UInt8} {z : Int} {v : V} (h : ¬ (z < 0 ∨ 40 < z)) (h2 : ¬ 1048576 < l.length) (h3 : whoJ l z.toNat (2 * l.length + 1) = .ok v) : parJ l z = (v, -1, 0) := by rw [parJ, if_neg h, if_neg h2, h3]
theorem parJ_bad {l : List UInt8} {z : Int} {f : Flt} (h : ¬ (z < 0 ∨ 40 < z)) (h2 : ¬ 1048576 < l.length) (h3 : whoJ l z.toNat (2 * l.length + 1) = .error f) : parJ l z = (nulV, (f.1 : Int), (f.2 : Int)) := by rw [parJ, if_neg h, if_neg h2, h3]
theorem nul_lies (w : World) (S : Nat → Prop) : nulV.lies false w S [.int .i64 0, .bool false, .int .i64 0, .string ⟨#[]⟩, .slice none 0 0, .slice none 0 0] := lies_sca In64.zero In64.zero (by simp [maxLen, ByteArray.size]) w S
theorem results_c11 {fn : Func} {p a b : Tmp} {ty : TypeId} (h : fn.results = #[.cell p ty, .tmp a, .tmp b]) (tmps : Array Value) (P : Program) (w : World) {x : Value} (hx : ((asAddr (tmps.getD p undef)).run P w).andThen (fun a w₁ => (loadVar ty a).run P w₁) = .ok x w) :
    (results fn tmps).run P w = .ok (.tuple #[x, tmps.getD a undef, tmps.getD b undef]) w := by
  simp only [results, h]
  simp [Sem.run_bind, Result.andThen] at hx ⊢
  cases hA : Sem.run P (asAddr (tmps[p]?.getD undef)) w with
  | ok a' w1 =>
    rw [hA] at hx
    dsimp only at hx ⊢
    rw [hx]
  | halt h w1 => rw [hA] at hx; cases hx
/-- the box that answers -/
structure Bx6 (w W : World) : Prop where
  box : W.heap[w.heap.size]? = some z46
  below : Below w.heap.size w W
theorem Bx6.cells {w W : World} (h : Bx6 w W) :
    (W.cell? ⟨w.heap.size, 0, none⟩ = some (.int .i64 0) ∧ W.cell? ⟨w.heap.size, 1, none⟩ = some (.bool false) ∧ W.cell? ⟨w.heap.size, 2, none⟩ = some (.int .i64 0) ∧ W.cell? ⟨w.heap.size, 3, none⟩ = some (.string ⟨#[]⟩) ∧ W.cell? ⟨w.heap.size, 4, none⟩ = some (.slice none 0 0) ∧ W.cell? ⟨w.heap.size, 5, none⟩ = some (.slice none 0 0)) ∧ ∀ i, W.frozen? ⟨w.heap.size, i, none⟩ = false :=
  ⟨⟨cell_of_block h.box 0, cell_of_block h.box 1, cell_of_block h.box 2, cell_of_block h.box 3, cell_of_block h.box 4, cell_of_block h.box 5⟩, frozen_of_block h.box⟩
theorem Bx6.done {w W : World} (h : Bx6 w W) (v0 v1 v2 v3 v4 v5 : Value) :
    ∃ W6, W6 = ((((((W.setCell ⟨w.heap.size, 0, none⟩ v0).setCell ⟨w.heap.size, 1, none⟩ v1).setCell ⟨w.heap.size, 2, none⟩ v2).setCell ⟨w.heap.size, 3, none⟩ v3).setCell ⟨w.heap.size, 4, none⟩ v4).setCell ⟨w.heap.size, 5, none⟩ v5) ∧
      (W6.cell? ⟨w.heap.size, 0, none⟩ = some v0 ∧ W6.cell? ⟨w.heap.size, 1, none⟩ = some v1 ∧ W6.cell? ⟨w.heap.size, 2, none⟩ = some v2 ∧ W6.cell? ⟨w.heap.size, 3, none⟩ = some v3 ∧ W6.cell? ⟨w.heap.size, 4, none⟩ = some v4 ∧ W6.cell? ⟨w.heap.size, 5, none⟩ = some v5) ∧ Below w.heap.size w W6 ∧ W.grownBy W6 (some w.heap.size) := by
  have hb := st6_block h.box v0 v1 v2 v3 v4 v5
  have hg6 := st6_grown W w.heap.size v0 v1 v2 v3 v4 v5
  have hs := h.below.size
  generalize ((((((W.setCell ⟨w.heap.size, 0, none⟩ v0).setCell ⟨w.heap.size, 1, none⟩ v1).setCell ⟨w.heap.size, 2, none⟩ v2).setCell ⟨w.heap.size, 3, none⟩ v3).setCell ⟨w.heap.size, 4, none⟩ v4).setCell ⟨w.heap.size, 5, none⟩ v5) = W6 at *
  exact ⟨W6, rfl, ⟨cell_of_block hb 0, cell_of_block hb 1, cell_of_block hb 2, cell_of_block hb 3, cell_of_block hb 4, cell_of_block hb 5⟩, h.below.grown hg6 hs (fun r e => by cases e; exact Nat.le_refl _), hg6⟩
set_option maxHeartbeats 16000000 in
theorem parse_any (l : List UInt8) (v : Value) (z : Int) (w : World) (hb : Bys w v l) (t : Td w) (hz : In64 z) (hl : l.length ≤ 140737488355328) :
    Calls Tryz.prog 15 #[v, .int .i64 z] w (PrP (parJ l z) w) := by
  have bA : Below w.heap.size w (w.alloc z46) := (Below.refl _ _).alloc (Nat.le_refl _) _
  have hcv := hb.conv bA
  have tA := t.below bA (by have := t.z; omega) bA.size
  have hN := heap_alloc_new w z46
  have hza := alloc_size w z46
  obtain ⟨ao, cap, rfl, _⟩ := hb
  have HBA := hmk bA
  clear t
  by_cases h1 : z < 0 ∨ 40 < z
  · have HR := hmk (parJ_arg (l := l) h1)
    clear hcv tA hN hza bA
    rcases h1 with h1 | h1
    · go_enter Tryz.func15, Tryz.ntmps15
      go_wp2_with fail
      (try simp only [Exit.inBlock, Exit.then])
      refine bodyPost_ret (results_c11 rfl _ _ _ (x := .agg #[.int .i64 0, .bool false, .int .i64 0, .string ⟨#[]⟩, .slice none 0 0, .slice none 0 0]) (by go_simp)) rfl ?_
      rw [HR.out]
      exact ⟨_, rfl, nul_lies _ _, HBA.out⟩
    · have h0 : ¬ z < 0 := by omega
      go_enter Tryz.func15, Tryz.ntmps15
      go_wp2_with fail
      (try simp only [Exit.inBlock, Exit.then])
      refine bodyPost_ret (results_c11 rfl _ _ _ (x := .agg #[.int .i64 0, .bool false, .int .i64 0, .string ⟨#[]⟩, .slice none 0 0, .slice none 0 0]) (by go_simp)) rfl ?_
      rw [HR.out]
      exact ⟨_, rfl, nul_lies _ _, HBA.out⟩
  · have h1a : ¬ z < 0 := fun q => h1 (.inl q)
    have h1b : ¬ 40 < z := fun q => h1 (.inr q)
    by_cases h2 : 1048576 < l.length
    · have HR := hmk (parJ_long h1 h2)
      have y2 : (1048576 : Int) < l.length := by omega
      clear hcv tA hN hza bA h1 h2
      go_enter Tryz.func15, Tryz.ntmps15
      go_wp2_with fail
      (try simp only [Exit.inBlock, Exit.then])
      refine bodyPost_ret (results_c11 rfl _ _ _ (x := .agg #[.int .i64 0, .bool false, .int .i64 0, .string ⟨#[]⟩, .slice none 0 0, .slice none 0 0]) (by go_simp)) rfl ?_
      rw [HR.out]
      exact ⟨_, rfl, nul_lies _ _, HBA.out⟩
    · have y2 : ¬ (1048576 : Int) < l.length := by omega
      have hsz : (⟨l.toArray⟩ : ByteArray).size = l.length := by show Array.size _ = _; simp
      have hzn : ((z.toNat : Nat) : Int) = z := by omega
      have CR : Hid (Calls Tryz.prog 29 #[.string ⟨l.toArray⟩, .int .i64 z] (w.alloc z46) (ReP (whoJ l z.toNat (2 * l.length + 1)) (w.alloc z46))) := by
        have c := read_any ⟨l.toArray⟩ z.toNat (2 * l.length + 1) (w.alloc z46) tA (by rw [hsz]; omega) (by omega) (by rw [hsz]; omega)
        rw [hzn] at c
        exact c
      cases hw : whoJ l z.toNat (2 * l.length + 1) with
      | ok v =>
        have HR := hmk (parJ_ok h1 h2 hw)
        rw [hw] at CR
        clear hw tA bA h1 h2 hsz hzn
        go_enter Tryz.func15, Tryz.ntmps15
        go_wp2_with fail
        refine CR.out.mono ?_
        rintro e w5 ⟨⟨cs, rfl, hl5⟩, b5⟩
        have HLV := hmk hl5
        obtain ⟨vk, vb, vi, vs, vl, vm⟩ := v
        rw [V.lies] at hl5
        obtain ⟨al, cl, bl, ol, am, cm, bm, om, rfl, _⟩ := hl5
        have N5 : w5.heap[w.heap.size]? = some z46 := (b5.block _ (by rw [hza]; omega)).trans hN
        have X5 : Bx6 w w5 := ⟨N5, HBA.out.trans (b5.mono (by rw [hza]; omega))⟩
        obtain ⟨⟨q0, q1, q2, q3, q4, q5⟩, kf⟩ := X5.cells
        obtain ⟨W6, e6, ⟨z0, z1, z2, z3, z4, z5⟩, B6, gb⟩ := X5.done (.int .i64 vk) (.bool vb) (.int .i64 vi) (.string vs) (.slice al vl.length cl) (.slice am vm.length cm)
        have HB6 := hmk B6
        have HLW : Hid (V.lies false W6 (New w W6) (V.mk vk vb vi vs vl vm) [.int .i64 vk, .bool vb, .int .i64 vi, .string vs, .slice al vl.length cl, .slice am vm.length cm]) := V.lies_keep (fun h => h) (fun b hb => gb.block b hb.2 (fun e => by have := Option.some.inj e; have h9 := hb.1; rw [hza] at h9; omega)) (fun b hb => ⟨by have h9 := hb.1; rw [hza] at h9; omega, Nat.lt_of_lt_of_le hb.2 gb.size⟩) _ HLV.out
        clear X5 N5 b5 hN hza HBA B6 gb CR
        go_wp2_with fail
        (try rw [← e6])
        clear e6 q0 q1 q2 q3 q4 q5 kf
        (try simp only [Exit.inBlock, Exit.then])
        refine bodyPost_ret (results_c11 rfl _ _ _ (x := .agg #[.int .i64 vk, .bool vb, .int .i64 vi, .string vs, .slice al vl.length cl, .slice am vm.length cm]) (by go_simp)) rfl ?_
        rw [HR.out]
        exact ⟨[.int .i64 vk, .bool vb, .int .i64 vi, .string vs, .slice al vl.length cl, .slice am vm.length cm], rfl, HLW.out, HB6.out⟩
      | error fl =>
        have HR := hmk (parJ_bad h1 h2 hw)
        rw [hw] at CR
        clear hw tA bA h1 h2 hsz hzn
        go_enter Tryz.func15, Tryz.ntmps15
        go_wp2_with fail
        refine CR.out.mono ?_
        rintro e w5 ⟨rfl, b5⟩
        have N5 : w5.heap[w.heap.size]? = some z46 := (b5.block _ (by rw [hza]; omega)).trans hN
        have X5 : Bx6 w w5 := ⟨N5, HBA.out.trans (b5.mono (by rw [hza]; omega))⟩
        obtain ⟨⟨q0, q1, q2, q3, q4, q5⟩, kf⟩ := X5.cells
        obtain ⟨W6, e6, ⟨z0, z1, z2, z3, z4, z5⟩, B6, gb⟩ := X5.done (.int .i64 0) (.bool false) (.int .i64 0) (.string ⟨#[]⟩) (.slice none 0 0) (.slice none 0 0)
        have HB6 := hmk B6
        have HLW : Hid (V.lies false W6 (New w W6) nulV [.int .i64 0, .bool false, .int .i64 0, .string ⟨#[]⟩, .slice none 0 0, .slice none 0 0]) := nul_lies _ _
        clear X5 N5 b5 hN hza HBA B6 gb CR
        go_wp2_with fail
        (try rw [← e6])
        clear e6 q0 q1 q2 q3 q4 q5 kf
        (try simp only [Exit.inBlock, Exit.then])
        refine bodyPost_ret (results_c11 rfl _ _ _ (x := .agg #[.int .i64 0, .bool false, .int .i64 0, .string ⟨#[]⟩, .slice none 0 0, .slice none 0 0]) (by go_simp)) rfl ?_
        rw [HR.out]
        exact ⟨[.int .i64 0, .bool false, .int .i64 0, .string ⟨#[]⟩, .slice none 0 0, .slice none 0 0], rfl, HLW.out, HB6.out⟩
end Go.Proofs.YtpmhdcmmlkjjmaaGreatDoor
/- bytes that were handed in, their twin, whether two are the same. -/
set_option maxRecDepth 100000
namespace Go.Proofs.YtpmhdcmmlkjjmaaGreatDoor
open Go.RowKit Go.Lib
/-- bytes in memory -/
def Byt (w : World) (v : Value) (l : List UInt8) : Prop := ∃ ao cap b o, v = .slice ao l.length cap ∧ Headed ao l.length cap b o ∧ ∀ (j : Nat) (h : j < l.length), b < w.heap.size ∧ w.cell? ⟨b, o + j, none⟩ = some (.int .u8 ((l[j]).toNat : Int))
theorem Byt.bys {w : World} {v : Value} {l : List UInt8} (h : Byt w v l) : Bys w v l := by
  obtain ⟨ao, cap, b, o, rfl, hd, hc⟩ := h
  refine ⟨ao, cap, rfl, fun e => ?_, fun a e j hj => ?_⟩
  · have h1 := hd.nil e
    have h2 := hd.le
    exact List.length_eq_zero_iff.1 (by omega)
  · have h1 : ao = some ⟨b, o, none⟩ := hd.at_.resolve_left (by omega)
    rw [e] at h1
    obtain rfl := Option.some.inj h1
    refine ⟨(hc j hj).1, ?_⟩
    rw [Go.WideShapes.add_plain]
    exact (hc j hj).2
theorem Byt.keep {w w' : World} {v : Value} {l : List UInt8} (h : Byt w v l) (hb : Below w.heap.size w w') : Byt w' v l := by
  obtain ⟨ao, cap, b, o, rfl, hd, hc⟩ := h
  exact ⟨ao, cap, b, o, rfl, hd, fun j hj => ⟨Nat.lt_of_lt_of_le (hc j hj).1 hb.size, (hb.cell (p := ⟨b, o + j, none⟩) (hc j hj).1).trans (hc j hj).2⟩⟩
/-- a row that was made, as bytes -/
theorem byt_own {w : World} {B n : Nat} {v : Value} {l : List UInt8} (h : w.ownsRow B 5 1 v n (byteCells l)) (hn : n = l.length) : Byt w v l := by
  subst hn
  have h' := h
  rcases h.2 with ⟨rfl, e⟩ | ⟨g, cap, cur, rfl, hB, hblk, hle, hm, _⟩
  · have : l = [] := List.length_eq_zero_iff.1 e
    subst this
    exact ⟨none, 0, 0, 0, rfl, headed_nil, fun j hj => by simp at hj⟩
  · refine ⟨_, cap, g, 0, rfl, ⟨hle, hm, .inr rfl, fun h => by cases h⟩, fun j hj => ⟨(World.ownsRow.lt h' g rfl).2, ?_⟩⟩
    have := World.ownsRow.cells h' (g := g) rfl j (.int .u8 ((l[j]).toNat : Int)) (by simp [byteCells, hj])
    rw [Go.WideShapes.add_plain] at this
    simpa using this
theorem byte_one (l : List UInt8) : ∀ u ∈ byteCells l, u.oneCell' = true := fun u hu => by
  obtain ⟨x, _, rfl⟩ := List.mem_map.1 hu
  rfl
theorem byteCells_len (l : List UInt8) : (byteCells l).length = l.length := by simp [byteCells]
end Go.Proofs.YtpmhdcmmlkjjmaaGreatDoor
