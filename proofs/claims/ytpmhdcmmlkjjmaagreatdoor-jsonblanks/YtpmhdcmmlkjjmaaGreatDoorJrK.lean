import Derived.Test.YtpmhdcmmlkjjmaaGreatDoorJrJ
/- the reader's value. -/
set_option linter.unusedSimpArgs false
set_option linter.unusedVariables false
set_option maxRecDepth 100000
namespace Go.Proofs.YtpmhdcmmlkjjmaaGreatDoor
open Go.RowKit Go.Lib
abbrev z46 : Obj := .cells #[.int .i64 0, .bool false, .int .i64 0, .string ⟨#[]⟩, .slice none 0 0, .slice none 0 0] 25
theorem blk6_set {wr : World} {B : Nat} {loc loc' : Array Value} (h : wr.heap[B]? = some (.cells loc 25 (0, 0))) (i : Nat) (u : Value) (e : loc.setIfInBounds i u = loc') : (wr.setCell ⟨B, i, none⟩ u).heap[B]? = some (.cells loc' 25 (0, 0)) := by rw [set_block h, e]
theorem st6_block {W : World} {g : Nat} {o0 o1 o2 o3 o4 o5 : Value} (h : W.heap[g]? = some (.cells #[o0, o1, o2, o3, o4, o5] 25 (0, 0))) (v0 v1 v2 v3 v4 v5 : Value) : ((((((W.setCell ⟨g, 0, none⟩ v0).setCell ⟨g, 1, none⟩ v1).setCell ⟨g, 2, none⟩ v2).setCell ⟨g, 3, none⟩ v3).setCell ⟨g, 4, none⟩ v4).setCell ⟨g, 5, none⟩ v5).heap[g]? = some (.cells #[v0, v1, v2, v3, v4, v5] 25 (0, 0)) := by
  have n0 : (W.setCell ⟨g, 0, none⟩ v0).heap[g]? = some (.cells #[v0, o1, o2, o3, o4, o5] 25 (0, 0)) := blk6_set h 0 v0 rfl
  have n1 : ((W.setCell ⟨g, 0, none⟩ v0).setCell ⟨g, 1, none⟩ v1).heap[g]? = some (.cells #[v0, v1, o2, o3, o4, o5] 25 (0, 0)) := blk6_set n0 1 v1 rfl
  have n2 : (((W.setCell ⟨g, 0, none⟩ v0).setCell ⟨g, 1, none⟩ v1).setCell ⟨g, 2, none⟩ v2).heap[g]? = some (.cells #[v0, v1, v2, o3, o4, o5] 25 (0, 0)) := blk6_set n1 2 v2 rfl
  have n3 : ((((W.setCell ⟨g, 0, none⟩ v0).setCell ⟨g, 1, none⟩ v1).setCell ⟨g, 2, none⟩ v2).setCell ⟨g, 3, none⟩ v3).heap[g]? = some (.cells #[v0, v1, v2, v3, o4, o5] 25 (0, 0)) := blk6_set n2 3 v3 rfl
  have n4 : (((((W.setCell ⟨g, 0, none⟩ v0).setCell ⟨g, 1, none⟩ v1).setCell ⟨g, 2, none⟩ v2).setCell ⟨g, 3, none⟩ v3).setCell ⟨g, 4, none⟩ v4).heap[g]? = some (.cells #[v0, v1, v2, v3, v4, o5] 25 (0, 0)) := blk6_set n3 4 v4 rfl
  exact blk6_set n4 5 v5 rfl
theorem st6_grown (W : World) (g : Nat) (v0 v1 v2 v3 v4 v5 : Value) : W.grownBy ((((((W.setCell ⟨g, 0, none⟩ v0).setCell ⟨g, 1, none⟩ v1).setCell ⟨g, 2, none⟩ v2).setCell ⟨g, 3, none⟩ v3).setCell ⟨g, 4, none⟩ v4).setCell ⟨g, 5, none⟩ v5) (some g) :=
  grown_set (grown_set (grown_set (grown_set (grown_set (grown_set (World.grownBy.refl _ _) _ _) _ _) _ _) _ _) _ _) _ _
/-- what stands behind the first byte -/
def swJ (l : List UInt8) (D f o k n1 : Nat) (c : UInt8) : Except Flt (V × Nat × Nat) :=
  if c = 110 then (match wordJ l k [110, 117, 108, 108] with | .error e => .error e | .ok k1 => .ok (nulV, k1, n1))
  else if c = 116 then (match wordJ l k [116, 114, 117, 101] with | .error e => .error e | .ok k1 => .ok (.mk 1 true 0 ⟨#[]⟩ [] [], k1, n1))
  else if c = 102 then (match wordJ l k [102, 97, 108, 115, 101] with | .error e => .error e | .ok k1 => .ok (.mk 1 false 0 ⟨#[]⟩ [] [], k1, n1))
  else if c = 34 then (match quoJ l k with | .error e => .error e | .ok x => .ok (.mk 3 false 0 x.1 [] [], x.2, n1))
  else if c = 91 then (match lisJ l D f (o + 1) (begunJ l k 93).1 (begunJ l k 93).2 n1 [] with | .error e => .error e | .ok x => .ok (.mk 4 false 0 ⟨#[]⟩ x.1 [], x.2.1, x.2.2))
  else if c = 123 then (match memJ l D f (o + 1) (begunJ l k 125).1 (begunJ l k 125).2 n1 [] with | .error e => .error e | .ok x => .ok (.mk 5 false 0 ⟨#[]⟩ [] (sortM x.1), x.2.1, x.2.2))
  else (match numJ l k with | .error e => .error e | .ok x => .ok (.mk 2 false x.1 ⟨#[]⟩ [] [], x.2, n1))
theorem valJ_end {l : List UInt8} {D f o k n : Nat} (h : l.length ≤ k) : valJ l D (f + 1) o k n = .error (k, 31) := by rw [valJ, nxJ, List.getElem?_eq_none h]
theorem valJ_ent {l : List UInt8} {D f o k n : Nat} {e : Flt} (h : k < l.length) (he : entJ l[k] D n o k = .error e) : valJ l D (f + 1) o k n = .error e := by rw [valJ, nxJ, List.getElem?_eq_getElem h]; dsimp only; rw [he]
theorem valJ_in {l : List UInt8} {D f o k n n1 : Nat} (h : k < l.length) (he : entJ l[k] D n o k = .ok n1) : valJ l D (f + 1) o k n = swJ l D f o k n1 l[k] := by rw [valJ, nxJ, List.getElem?_eq_getElem h]; dsimp only; rw [he]; rfl
/-- the box that answers, behind the last store -/
structure Fin6 (w : World) (g : Nat) (s : ByteArray) (D k1 n1 : Nat) (W : World) : Prop where
  box : W.heap[w.heap.size]? = some z46
  jr : JR g s k1 D n1 W
  gr : w.grownBy W (some g)
theorem Fin6.done {w : World} {g : Nat} {s : ByteArray} {D k1 n1 : Nat} {W : World} (h : Fin6 w g s D k1 n1 W) (hg : g < w.heap.size) (v0 v1 v2 v3 v4 v5 : Value) :
    ∃ W6, W6 = ((((((W.setCell ⟨w.heap.size, 0, none⟩ v0).setCell ⟨w.heap.size, 1, none⟩ v1).setCell ⟨w.heap.size, 2, none⟩ v2).setCell ⟨w.heap.size, 3, none⟩ v3).setCell ⟨w.heap.size, 4, none⟩ v4).setCell ⟨w.heap.size, 5, none⟩ v5) ∧
      (W6.cell? ⟨w.heap.size, 0, none⟩ = some v0 ∧ W6.cell? ⟨w.heap.size, 1, none⟩ = some v1 ∧ W6.cell? ⟨w.heap.size, 2, none⟩ = some v2 ∧ W6.cell? ⟨w.heap.size, 3, none⟩ = some v3 ∧ W6.cell? ⟨w.heap.size, 4, none⟩ = some v4 ∧ W6.cell? ⟨w.heap.size, 5, none⟩ = some v5) ∧ JR g s k1 D n1 W6 ∧ w.grownBy W6 (some g) ∧ W.grownBy W6 (some w.heap.size) := by
  have hb := st6_block h.box v0 v1 v2 v3 v4 v5
  have hg6 := st6_grown W w.heap.size v0 v1 v2 v3 v4 v5
  generalize ((((((W.setCell ⟨w.heap.size, 0, none⟩ v0).setCell ⟨w.heap.size, 1, none⟩ v1).setCell ⟨w.heap.size, 2, none⟩ v2).setCell ⟨w.heap.size, 3, none⟩ v3).setCell ⟨w.heap.size, 4, none⟩ v4).setCell ⟨w.heap.size, 5, none⟩ v5) = W6 at *
  exact ⟨W6, rfl, ⟨cell_of_block hb 0, cell_of_block hb 1, cell_of_block hb 2, cell_of_block hb 3, cell_of_block hb 4, cell_of_block hb 5⟩, h.jr.own hg6 (fun e => by have := Option.some.inj e; omega), grown_own h.gr hg6 (fun r e => by cases e; exact Nat.le_refl _), hg6⟩
theorem Fin6.cells {w : World} {g : Nat} {s : ByteArray} {D k1 n1 : Nat} {W : World} (h : Fin6 w g s D k1 n1 W) :
    (W.cell? ⟨w.heap.size, 0, none⟩ = some (.int .i64 0) ∧ W.cell? ⟨w.heap.size, 1, none⟩ = some (.bool false) ∧ W.cell? ⟨w.heap.size, 2, none⟩ = some (.int .i64 0) ∧ W.cell? ⟨w.heap.size, 3, none⟩ = some (.string ⟨#[]⟩) ∧ W.cell? ⟨w.heap.size, 4, none⟩ = some (.slice none 0 0) ∧ W.cell? ⟨w.heap.size, 5, none⟩ = some (.slice none 0 0)) ∧ ∀ i, W.frozen? ⟨w.heap.size, i, none⟩ = false :=
  ⟨⟨cell_of_block h.box 0, cell_of_block h.box 1, cell_of_block h.box 2, cell_of_block h.box 3, cell_of_block h.box 4, cell_of_block h.box 5⟩, frozen_of_block h.box⟩
theorem Fin6.next {w : World} {g : Nat} {s : ByteArray} {D k1 n1 k2 n2 : Nat} {W W' : World} (h : Fin6 w g s D k1 n1 W) (hg : g < w.heap.size) (gr : W.grownBy W' (some g)) (hj : JR g s k2 D n2 W') : Fin6 w g s D k2 n2 W' :=
  ⟨(gr.block _ (by rcases Nat.lt_or_ge w.heap.size W.heap.size with q | q; exact q; have := h.box; rw [Array.getElem?_eq_none q] at this; cases this) (fun e => by have := Option.some.inj e; omega)).trans h.box, hj, grown_trans h.gr gr⟩
theorem Fin6.lt {w : World} {g : Nat} {s : ByteArray} {D k1 n1 : Nat} {W : World} (h : Fin6 w g s D k1 n1 W) : w.heap.size < W.heap.size := by
  rcases Nat.lt_or_ge w.heap.size W.heap.size with q | q
  · exact q
  · have := h.box; rw [Array.getElem?_eq_none q] at this; cases this
theorem lies_sca {vk : Int} {vb : Bool} {vi : Int} {vs : ByteArray} (h1 : In64 vk) (h2 : In64 vi) (h3 : vs.size ≤ maxLen) (w : World) (S : Nat → Prop) : V.lies false w S (.mk vk vb vi vs [] []) [.int .i64 vk, .bool vb, .int .i64 vi, .string vs, .slice none 0 0, .slice none 0 0] := by
  rw [V.lies]
  exact ⟨none, 0, 0, 0, none, 0, 0, 0, rfl, h1, h2, h3, headed_nil, headed_nil, by rw [liesL]; trivial, by rw [liesM]; trivial, fun h => by cases h⟩
theorem lies_list {w w2 w3 W6 : World} {xs : List V} {sa : Option Addr} {sc sb so : Nat} (hd : Headed sa xs.length sc sb so) (hl : liesL false w3 (New w2 w3) xs sb so) (gb : w3.grownBy W6 (some w.heap.size)) (h2 : w.heap.size < w2.heap.size) : V.lies false W6 (New w W6) (.mk 4 false 0 ⟨#[]⟩ xs []) [.int .i64 4, .bool false, .int .i64 0, .string ⟨#[]⟩, .slice sa xs.length sc, .slice none 0 0] := by
  have hk : ∀ b, New w2 w3 b → W6.heap[b]? = w3.heap[b]? := fun b hb => gb.block b hb.2 (fun e => by have := Option.some.inj e; have := hb.1; omega)
  have hS : ∀ b, New w2 w3 b → New w W6 b := fun b hb => ⟨by have := hb.1; omega, Nat.lt_of_lt_of_le hb.2 gb.size⟩
  rw [V.lies]
  exact ⟨sa, sc, sb, so, none, 0, 0, 0, rfl, ⟨by omega, by omega⟩, In64.zero, by simp [maxLen, ByteArray.size], hd, headed_nil, liesL_mk fun j hj => (fun (q : _ ∧ _) => ⟨hS _ q.1, q.2.elim fun cs r => ⟨cs, fun i u hu => (World.cell?_of_block (hk _ q.1)).trans (r.1 i u hu), V.lies_keep (fun h => h) hk hS _ r.2⟩⟩) (liesL_get hl j hj), by rw [liesM]; trivial, fun h => by cases h⟩
theorem lies_map {w w2 w3 W6 : World} {xs : List Mem} {sa : Option Addr} {sc sb so : Nat} (hd : Headed sa xs.length sc sb so) (hl : liesM false w3 (New w2 w3) xs sb so) (gb : w3.grownBy W6 (some w.heap.size)) (h2 : w.heap.size < w2.heap.size) : V.lies false W6 (New w W6) (.mk 5 false 0 ⟨#[]⟩ [] xs) [.int .i64 5, .bool false, .int .i64 0, .string ⟨#[]⟩, .slice none 0 0, .slice sa xs.length sc] := by
  have hk : ∀ b, New w2 w3 b → W6.heap[b]? = w3.heap[b]? := fun b hb => gb.block b hb.2 (fun e => by have := Option.some.inj e; have := hb.1; omega)
  have hS : ∀ b, New w2 w3 b → New w W6 b := fun b hb => ⟨by have := hb.1; omega, Nat.lt_of_lt_of_le hb.2 gb.size⟩
  rw [V.lies]
  exact ⟨none, 0, 0, 0, sa, sc, sb, so, rfl, ⟨by omega, by omega⟩, In64.zero, by simp [maxLen, ByteArray.size], headed_nil, hd, by rw [liesL]; trivial, liesM_mk fun j hj => (fun (q : _ ∧ _) => ⟨hS _ q.1, q.2.1, q.2.2.elim fun cs r => ⟨cs, fun i u hu => (World.cell?_of_block (hk _ q.1)).trans (r.1 i u hu), V.lies_keep (fun h => h) hk hS _ r.2⟩⟩) (liesM_get hl j hj), fun h => by cases h⟩
set_option maxHeartbeats 32000000 in
theorem jvalue_any (g : Nat) (s : ByteArray) (D F : Nat) (hg : 9 < g) (hs : s.size ≤ 100000000) (hD : D ≤ 900) (HV : ∀ f, f < F → ValC g s D f) : ValC g s D F := by
  intro w o k n h t hk hF hn ho
  have hll : s.data.toList.length = s.size := by simp
  obtain ⟨f, rfl⟩ : ∃ f, F = f + 1 := ⟨F - 1, by omega⟩
  have hlt := h.lt
  have bA : Below w.heap.size w (w.alloc z46) := (Below.refl _ _).alloc (Nat.le_refl _) _
  have F0 : Fin6 w g s D k n (w.alloc z46) := ⟨heap_alloc_new w _, h.keep bA, grown_belowS bA g⟩
  have HTd : Hid (∀ W, w.grownBy W (some g) → Td W) := fun W gr => t.grown gr hg
  clear h t bA
  by_cases hk2 : k < s.size
  · have CN := hmk (jnext_yes g s k D n _ F0.jr (by omega) hk2)
    have CE : Hid (∀ W, JR g s k D n W → Calls Tryz.prog 85 #[.pointer (some ⟨g, 0, none⟩), .int .u8 (s[k].toNat : Int), .int .i64 (o : Int)] W (JP (entJ s[k] D n o k) (fun n' e w' => e = .returned (.tuple #[]) ∧ JR g s k D n' w') g W)) := fun W hW => jenter_any g s k D n o s[k] W hW hn (by omega) (by omega)
    cases he : entJ s[k] D n o k with
    | error fl =>
      have HE : Hid (valJ s.data.toList D (f + 1) o k n = .error fl) := valJ_ent (by rw [hll]; exact hk2) he
      rw [he] at CE
      clear he HV
      generalize s[k] = c at *
      go_enter Tryz.func63, Tryz.ntmps63
      go_wp2_with fail
      refine CN.out.mono ?_
      rintro e w1 ⟨rfl, q, rfl⟩
      clear CN
      go_wp2_with fail
      refine (CE.out _ (F0.jr.drewN q)).mono ?_
      rintro e w2 ⟨he, g2⟩
      unfold flt at he
      subst he
      go_wp2_with fail
      refine ⟨rfl, ?_⟩
      rw [HE.out]
      exact ⟨rfl, grown_trans (grown_drewN F0.gr q) g2⟩
    | ok n1 =>
      have HW : Hid (valJ s.data.toList D (f + 1) o k n = swJ s.data.toList D f o k n1 s[k]) := valJ_in (by rw [hll]; exact hk2) he
      obtain ⟨_, hn1, hoD⟩ := entJ_le hn he
      rw [he] at CE
      clear he
      have F1 : Hid (∀ q W, (World.drewN (w.alloc z46) q).grownBy W (some g) → JR g s k D n1 W → Fin6 w g s D k n1 W) := fun q W gr hj => F0.next hlt (grown_trans (drewN_grown _ _ _) gr) hj
      have HJ0 : Hid (∀ q, JR g s k D n (World.drewN (w.alloc z46) q)) := fun q => F0.jr.drewN q
      clear F0
      generalize s[k] = c at *
      by_cases h110 : c = 110
      · have y110 : ((c.toNat : Int) == 110) = true := by rw [h110]; rfl
        have CW : Hid (∀ W, JR g s k D n1 W → Calls Tryz.prog 86 #[.pointer (some ⟨g, 0, none⟩), .string ⟨#[110, 117, 108, 108]⟩] W (JP (wordJ s.data.toList k [110, 117, 108, 108]) (fun k' e w' => e = .returned (.tuple #[]) ∧ JR g s k' D n1 w') g W)) := fun W hW => jword_any g s ⟨#[110, 117, 108, 108]⟩ k D n1 W hW (by omega) hk (by decide)
        cases hw : wordJ s.data.toList k [110, 117, 108, 108] with
        | error fl =>
          have HE : Hid (valJ s.data.toList D (f + 1) o k n = .error fl) := by show _ = _; rw [HW.out, swJ, if_pos h110, hw]
          rw [hw] at CW
          clear HW hw
          clear h110
          go_enter Tryz.func63, Tryz.ntmps63
          go_wp2_with fail
          refine CN.out.mono ?_
          rintro e w1 ⟨rfl, q, rfl⟩
          clear CN
          go_wp2_with fail
          refine (CE.out _ (HJ0.out q)).mono ?_
          rintro e w2 ⟨⟨rfl, R2⟩, g2⟩
          have X2 := F1.out q w2 g2 R2
          clear CE HJ0 F1 R2 g2
          go_wp2_with fail
          refine (CW.out _ X2.jr).mono ?_
          rintro e w3 ⟨he, g3⟩
          unfold flt at he
          subst he
          go_wp2_with fail
          refine ⟨rfl, ?_⟩
          rw [HE.out]
          exact ⟨rfl, grown_trans X2.gr g3⟩
        | ok k1 =>
          have HE : Hid (valJ s.data.toList D (f + 1) o k n = .ok (.mk 0 false 0 ⟨#[]⟩ [] [], k1, n1)) := by show _ = _; rw [HW.out, swJ, if_pos h110, hw]; rfl
          rw [hw] at CW
          clear HW hw
          clear h110
          go_enter Tryz.func63, Tryz.ntmps63
          go_wp2_with fail
          refine CN.out.mono ?_
          rintro e w1 ⟨rfl, q, rfl⟩
          clear CN
          go_wp2_with fail
          refine (CE.out _ (HJ0.out q)).mono ?_
          rintro e w2 ⟨⟨rfl, R2⟩, g2⟩
          have X2 := F1.out q w2 g2 R2
          clear CE HJ0 F1 R2 g2
          go_wp2_with fail
          refine (CW.out _ X2.jr).mono ?_
          rintro e w3 ⟨⟨rfl, R3⟩, g3⟩
          have X3 := X2.next hlt g3 R3
          clear R3 g3 X2 CW
          obtain ⟨⟨q0, q1, q2, q3, q4, q5⟩, kf⟩ := X3.cells
          obtain ⟨W6, e6, ⟨z0, z1, z2, z3, z4, z5⟩, R6, G6, gb⟩ := X3.done hlt (.int .i64 0) (.bool false) (.int .i64 0) (.string ⟨#[]⟩) (.slice none 0 0) (.slice none 0 0)
          go_wp2_with fail
          (try rw [← e6])
          clear e6 q0 q1 q2 q3 q4 q5 kf
          (try simp only [Exit.inBlock, Exit.then])
          refine bodyPost_ret (v := .agg #[.int .i64 0, .bool false, .int .i64 0, .string ⟨#[]⟩, .slice none 0 0, .slice none 0 0]) ?_ rfl ?_
          · rw [results_cell1 rfl]
            go_simp
          · rw [HE.out]
            exact ⟨⟨[.int .i64 0, .bool false, .int .i64 0, .string ⟨#[]⟩, .slice none 0 0, .slice none 0 0], rfl, lies_sca ⟨by omega, by omega⟩ In64.zero (by simp [maxLen, ByteArray.size]) _ _, R6⟩, G6⟩
      have y110 : ((c.toNat : Int) == 110) = false := by
        rw [beq_eq_false_iff_ne]
        intro q
        exact h110 (UInt8.toNat_inj.1 (by show c.toNat = 110; omega))
      by_cases h116 : c = 116
      · have y116 : ((c.toNat : Int) == 116) = true := by rw [h116]; rfl
        have CW : Hid (∀ W, JR g s k D n1 W → Calls Tryz.prog 86 #[.pointer (some ⟨g, 0, none⟩), .string ⟨#[116, 114, 117, 101]⟩] W (JP (wordJ s.data.toList k [116, 114, 117, 101]) (fun k' e w' => e = .returned (.tuple #[]) ∧ JR g s k' D n1 w') g W)) := fun W hW => jword_any g s ⟨#[116, 114, 117, 101]⟩ k D n1 W hW (by omega) hk (by decide)
        cases hw : wordJ s.data.toList k [116, 114, 117, 101] with
        | error fl =>
          have HE : Hid (valJ s.data.toList D (f + 1) o k n = .error fl) := by show _ = _; rw [HW.out, swJ, if_neg h110, if_pos h116, hw]
          rw [hw] at CW
          clear HW hw
          clear h110 h116
          go_enter Tryz.func63, Tryz.ntmps63
          go_wp2_with fail
          refine CN.out.mono ?_
          rintro e w1 ⟨rfl, q, rfl⟩
          clear CN
          go_wp2_with fail
          refine (CE.out _ (HJ0.out q)).mono ?_
          rintro e w2 ⟨⟨rfl, R2⟩, g2⟩
          have X2 := F1.out q w2 g2 R2
          clear CE HJ0 F1 R2 g2
          go_wp2_with fail
          refine (CW.out _ X2.jr).mono ?_
          rintro e w3 ⟨he, g3⟩
          unfold flt at he
          subst he
          go_wp2_with fail
          refine ⟨rfl, ?_⟩
          rw [HE.out]
          exact ⟨rfl, grown_trans X2.gr g3⟩
        | ok k1 =>
          have HE : Hid (valJ s.data.toList D (f + 1) o k n = .ok (.mk 1 true 0 ⟨#[]⟩ [] [], k1, n1)) := by show _ = _; rw [HW.out, swJ, if_neg h110, if_pos h116, hw]
          rw [hw] at CW
          clear HW hw
          clear h110 h116
          go_enter Tryz.func63, Tryz.ntmps63
          go_wp2_with fail
          refine CN.out.mono ?_
          rintro e w1 ⟨rfl, q, rfl⟩
          clear CN
          go_wp2_with fail
          refine (CE.out _ (HJ0.out q)).mono ?_
          rintro e w2 ⟨⟨rfl, R2⟩, g2⟩
          have X2 := F1.out q w2 g2 R2
          clear CE HJ0 F1 R2 g2
          go_wp2_with fail
          refine (CW.out _ X2.jr).mono ?_
          rintro e w3 ⟨⟨rfl, R3⟩, g3⟩
          have X3 := X2.next hlt g3 R3
          clear R3 g3 X2 CW
          obtain ⟨⟨q0, q1, q2, q3, q4, q5⟩, kf⟩ := X3.cells
          obtain ⟨W6, e6, ⟨z0, z1, z2, z3, z4, z5⟩, R6, G6, gb⟩ := X3.done hlt (.int .i64 1) (.bool true) (.int .i64 0) (.string ⟨#[]⟩) (.slice none 0 0) (.slice none 0 0)
          go_wp2_with fail
          (try rw [← e6])
          clear e6 q0 q1 q2 q3 q4 q5 kf
          (try simp only [Exit.inBlock, Exit.then])
          refine bodyPost_ret (v := .agg #[.int .i64 1, .bool true, .int .i64 0, .string ⟨#[]⟩, .slice none 0 0, .slice none 0 0]) ?_ rfl ?_
          · rw [results_cell1 rfl]
            go_simp
          · rw [HE.out]
            exact ⟨⟨[.int .i64 1, .bool true, .int .i64 0, .string ⟨#[]⟩, .slice none 0 0, .slice none 0 0], rfl, lies_sca ⟨by omega, by omega⟩ In64.zero (by simp [maxLen, ByteArray.size]) _ _, R6⟩, G6⟩
      have y116 : ((c.toNat : Int) == 116) = false := by
        rw [beq_eq_false_iff_ne]
        intro q
        exact h116 (UInt8.toNat_inj.1 (by show c.toNat = 116; omega))
      by_cases h102 : c = 102
      · have y102 : ((c.toNat : Int) == 102) = true := by rw [h102]; rfl
        have CW : Hid (∀ W, JR g s k D n1 W → Calls Tryz.prog 86 #[.pointer (some ⟨g, 0, none⟩), .string ⟨#[102, 97, 108, 115, 101]⟩] W (JP (wordJ s.data.toList k [102, 97, 108, 115, 101]) (fun k' e w' => e = .returned (.tuple #[]) ∧ JR g s k' D n1 w') g W)) := fun W hW => jword_any g s ⟨#[102, 97, 108, 115, 101]⟩ k D n1 W hW (by omega) hk (by decide)
        cases hw : wordJ s.data.toList k [102, 97, 108, 115, 101] with
        | error fl =>
          have HE : Hid (valJ s.data.toList D (f + 1) o k n = .error fl) := by show _ = _; rw [HW.out, swJ, if_neg h110, if_neg h116, if_pos h102, hw]
          rw [hw] at CW
          clear HW hw
          clear h110 h116 h102
          go_enter Tryz.func63, Tryz.ntmps63
          go_wp2_with fail
          refine CN.out.mono ?_
          rintro e w1 ⟨rfl, q, rfl⟩
          clear CN
          go_wp2_with fail
          refine (CE.out _ (HJ0.out q)).mono ?_
          rintro e w2 ⟨⟨rfl, R2⟩, g2⟩
          have X2 := F1.out q w2 g2 R2
          clear CE HJ0 F1 R2 g2
          go_wp2_with fail
          refine (CW.out _ X2.jr).mono ?_
          rintro e w3 ⟨he, g3⟩
          unfold flt at he
          subst he
          go_wp2_with fail
          refine ⟨rfl, ?_⟩
          rw [HE.out]
          exact ⟨rfl, grown_trans X2.gr g3⟩
        | ok k1 =>
          have HE : Hid (valJ s.data.toList D (f + 1) o k n = .ok (.mk 1 false 0 ⟨#[]⟩ [] [], k1, n1)) := by show _ = _; rw [HW.out, swJ, if_neg h110, if_neg h116, if_pos h102, hw]
          rw [hw] at CW
          clear HW hw
          clear h110 h116 h102
          go_enter Tryz.func63, Tryz.ntmps63
          go_wp2_with fail
          refine CN.out.mono ?_
          rintro e w1 ⟨rfl, q, rfl⟩
          clear CN
          go_wp2_with fail
          refine (CE.out _ (HJ0.out q)).mono ?_
          rintro e w2 ⟨⟨rfl, R2⟩, g2⟩
          have X2 := F1.out q w2 g2 R2
          clear CE HJ0 F1 R2 g2
          go_wp2_with fail
          refine (CW.out _ X2.jr).mono ?_
          rintro e w3 ⟨⟨rfl, R3⟩, g3⟩
          have X3 := X2.next hlt g3 R3
          clear R3 g3 X2 CW
          obtain ⟨⟨q0, q1, q2, q3, q4, q5⟩, kf⟩ := X3.cells
          obtain ⟨W6, e6, ⟨z0, z1, z2, z3, z4, z5⟩, R6, G6, gb⟩ := X3.done hlt (.int .i64 1) (.bool false) (.int .i64 0) (.string ⟨#[]⟩) (.slice none 0 0) (.slice none 0 0)
          go_wp2_with fail
          (try rw [← e6])
          clear e6 q0 q1 q2 q3 q4 q5 kf
          (try simp only [Exit.inBlock, Exit.then])
          refine bodyPost_ret (v := .agg #[.int .i64 1, .bool false, .int .i64 0, .string ⟨#[]⟩, .slice none 0 0, .slice none 0 0]) ?_ rfl ?_
          · rw [results_cell1 rfl]
            go_simp
          · rw [HE.out]
            exact ⟨⟨[.int .i64 1, .bool false, .int .i64 0, .string ⟨#[]⟩, .slice none 0 0, .slice none 0 0], rfl, lies_sca ⟨by omega, by omega⟩ In64.zero (by simp [maxLen, ByteArray.size]) _ _, R6⟩, G6⟩
      have y102 : ((c.toNat : Int) == 102) = false := by
        rw [beq_eq_false_iff_ne]
        intro q
        exact h102 (UInt8.toNat_inj.1 (by show c.toNat = 102; omega))
      by_cases h34 : c = 34
      · have y34 : ((c.toNat : Int) == 34) = true := by rw [h34]; rfl
        have CW : Hid (∀ W, JR g s k D n1 W → Td W → Calls Tryz.prog 87 #[.pointer (some ⟨g, 0, none⟩)] W (JP (quoJ s.data.toList k) (fun x e w' => e = .returned (.string x.1) ∧ JR g s x.2 D n1 w') g W)) := fun W hW tW => jquo_any g s k D n1 W hW tW (by omega) hk
        cases hw : quoJ s.data.toList k with
        | error fl =>
          have HE : Hid (valJ s.data.toList D (f + 1) o k n = .error fl) := by show _ = _; rw [HW.out, swJ, if_neg h110, if_neg h116, if_neg h102, if_pos h34, hw]
          rw [hw] at CW
          clear HW hw
          clear h110 h116 h102 h34
          go_enter Tryz.func63, Tryz.ntmps63
          go_wp2_with fail
          refine CN.out.mono ?_
          rintro e w1 ⟨rfl, q, rfl⟩
          clear CN
          go_wp2_with fail
          refine (CE.out _ (HJ0.out q)).mono ?_
          rintro e w2 ⟨⟨rfl, R2⟩, g2⟩
          have X2 := F1.out q w2 g2 R2
          clear CE HJ0 F1 R2 g2
          go_wp2_with fail
          refine (CW.out _ X2.jr (HTd.out _ X2.gr)).mono ?_
          rintro e w3 ⟨he, g3⟩
          unfold flt at he
          subst he
          go_wp2_with fail
          refine ⟨rfl, ?_⟩
          rw [HE.out]
          exact ⟨rfl, grown_trans X2.gr g3⟩
        | ok x =>
          obtain ⟨xs, k1⟩ := x
          have hxs := quoJ_in hw
          dsimp only at hxs
          rw [hll] at hxs
          have hxm : xs.size ≤ maxLen := Nat.le_trans hxs.2.2 (by unfold maxLen; omega)
          have HE : Hid (valJ s.data.toList D (f + 1) o k n = .ok (.mk 3 false 0 xs [] [], k1, n1)) := by show _ = _; rw [HW.out, swJ, if_neg h110, if_neg h116, if_neg h102, if_pos h34, hw]
          rw [hw] at CW
          clear HW hw
          clear h110 h116 h102 h34
          go_enter Tryz.func63, Tryz.ntmps63
          go_wp2_with fail
          refine CN.out.mono ?_
          rintro e w1 ⟨rfl, q, rfl⟩
          clear CN
          go_wp2_with fail
          refine (CE.out _ (HJ0.out q)).mono ?_
          rintro e w2 ⟨⟨rfl, R2⟩, g2⟩
          have X2 := F1.out q w2 g2 R2
          clear CE HJ0 F1 R2 g2
          go_wp2_with fail
          refine (CW.out _ X2.jr (HTd.out _ X2.gr)).mono ?_
          rintro e w3 ⟨⟨rfl, R3⟩, g3⟩
          dsimp only at R3
          have X3 := X2.next hlt g3 R3
          clear R3 g3 X2 CW
          obtain ⟨⟨q0, q1, q2, q3, q4, q5⟩, kf⟩ := X3.cells
          obtain ⟨W6, e6, ⟨z0, z1, z2, z3, z4, z5⟩, R6, G6, gb⟩ := X3.done hlt (.int .i64 3) (.bool false) (.int .i64 0) (.string xs) (.slice none 0 0) (.slice none 0 0)
          go_wp2_with fail
          (try rw [← e6])
          clear e6 q0 q1 q2 q3 q4 q5 kf
          (try simp only [Exit.inBlock, Exit.then])
          refine bodyPost_ret (v := .agg #[.int .i64 3, .bool false, .int .i64 0, .string xs, .slice none 0 0, .slice none 0 0]) ?_ rfl ?_
          · rw [results_cell1 rfl]
            go_simp
          · rw [HE.out]
            exact ⟨⟨[.int .i64 3, .bool false, .int .i64 0, .string xs, .slice none 0 0, .slice none 0 0], rfl, lies_sca ⟨by omega, by omega⟩ In64.zero hxm _ _, R6⟩, G6⟩
      have y34 : ((c.toNat : Int) == 34) = false := by
        rw [beq_eq_false_iff_ne]
        intro q
        exact h34 (UInt8.toNat_inj.1 (by show c.toNat = 34; omega))
      by_cases h91 : c = 91
      · have y91 : ((c.toNat : Int) == 91) = true := by rw [h91]; rfl
        have CW : Hid (∀ W, JR g s k D n1 W → Td W → Calls Tryz.prog 88 #[.pointer (some ⟨g, 0, none⟩), .int .i64 ((o : Int) + 1)] W (LiP (lisJ s.data.toList D f (o + 1) (begunJ s.data.toList k 93).1 (begunJ s.data.toList k 93).2 n1 []) g s D W)) := fun W hW tW => by
          have := jlist_any g s D f (fun f' hf' => HV f' (by omega)) (o + 1) k n1 W hW tW hg hs hk2 (by omega) hn1 (by omega) (by omega)
          have e1 : (((o + 1 : Nat)) : Int) = (o : Int) + 1 := by omega
          rw [e1] at this
          exact this
        cases hw : lisJ s.data.toList D f (o + 1) (begunJ s.data.toList k 93).1 (begunJ s.data.toList k 93).2 n1 [] with
        | error fl =>
          have HE : Hid (valJ s.data.toList D (f + 1) o k n = .error fl) := by show _ = _; rw [HW.out, swJ, if_neg h110, if_neg h116, if_neg h102, if_neg h34, if_pos h91, hw]
          rw [hw] at CW
          clear HW hw HV
          clear h110 h116 h102 h34 h91
          go_enter Tryz.func63, Tryz.ntmps63
          go_wp2_with fail
          refine CN.out.mono ?_
          rintro e w1 ⟨rfl, q, rfl⟩
          clear CN
          go_wp2_with fail
          refine (CE.out _ (HJ0.out q)).mono ?_
          rintro e w2 ⟨⟨rfl, R2⟩, g2⟩
          have X2 := F1.out q w2 g2 R2
          clear CE HJ0 F1 R2 g2
          go_wp2_with fail
          refine (CW.out _ X2.jr (HTd.out _ X2.gr)).mono ?_
          rintro e w3 ⟨he, g3⟩
          unfold flt at he
          subst he
          go_wp2_with fail
          refine ⟨rfl, ?_⟩
          rw [HE.out]
          exact ⟨rfl, grown_trans X2.gr g3⟩
        | ok x =>
          obtain ⟨xs, k1, n2⟩ := x
          have HE : Hid (valJ s.data.toList D (f + 1) o k n = .ok (.mk 4 false 0 ⟨#[]⟩ xs [], k1, n2)) := by show _ = _; rw [HW.out, swJ, if_neg h110, if_neg h116, if_neg h102, if_neg h34, if_pos h91, hw]
          rw [hw] at CW
          clear HW hw HV
          clear h110 h116 h102 h34 h91
          go_enter Tryz.func63, Tryz.ntmps63
          go_wp2_with fail
          refine CN.out.mono ?_
          rintro e w1 ⟨rfl, q, rfl⟩
          clear CN
          go_wp2_with fail
          refine (CE.out _ (HJ0.out q)).mono ?_
          rintro e w2 ⟨⟨rfl, R2⟩, g2⟩
          have X2 := F1.out q w2 g2 R2
          clear CE HJ0 F1 R2 g2
          go_wp2_with fail
          refine (CW.out _ X2.jr (HTd.out _ X2.gr)).mono ?_
          rintro e w3 ⟨⟨sa, sc, sb, so, rfl, hd, hls, R3⟩, g3⟩
          dsimp only at hd hls R3
          have X3 := X2.next hlt g3 R3
          have x2 := X2.lt
          have HLS : Hid (∀ W6, w3.grownBy W6 (some w.heap.size) → V.lies false W6 (New w W6) (.mk 4 false 0 ⟨#[]⟩ xs []) [.int .i64 4, .bool false, .int .i64 0, .string ⟨#[]⟩, .slice sa xs.length sc, .slice none 0 0]) := fun W6 gb => lies_list hd hls gb x2
          clear R3 g3 X2 CW hd hls
          obtain ⟨⟨q0, q1, q2, q3, q4, q5⟩, kf⟩ := X3.cells
          obtain ⟨W6, e6, ⟨z0, z1, z2, z3, z4, z5⟩, R6, G6, gb⟩ := X3.done hlt (.int .i64 4) (.bool false) (.int .i64 0) (.string ⟨#[]⟩) (.slice sa xs.length sc) (.slice none 0 0)
          go_wp2_with fail
          (try rw [← e6])
          clear e6 q0 q1 q2 q3 q4 q5 kf
          (try simp only [Exit.inBlock, Exit.then])
          refine bodyPost_ret (v := .agg #[.int .i64 4, .bool false, .int .i64 0, .string ⟨#[]⟩, .slice sa xs.length sc, .slice none 0 0]) ?_ rfl ?_
          · rw [results_cell1 rfl]
            go_simp
          · rw [HE.out]
            exact ⟨⟨[.int .i64 4, .bool false, .int .i64 0, .string ⟨#[]⟩, .slice sa xs.length sc, .slice none 0 0], rfl, HLS.out _ gb, R6⟩, G6⟩
      have y91 : ((c.toNat : Int) == 91) = false := by
        rw [beq_eq_false_iff_ne]
        intro q
        exact h91 (UInt8.toNat_inj.1 (by show c.toNat = 91; omega))
      by_cases h123 : c = 123
      · have y123 : ((c.toNat : Int) == 123) = true := by rw [h123]; rfl
        have CW : Hid (∀ W, JR g s k D n1 W → Td W → Calls Tryz.prog 89 #[.pointer (some ⟨g, 0, none⟩), .int .i64 ((o : Int) + 1)] W (MeP (memJ s.data.toList D f (o + 1) (begunJ s.data.toList k 125).1 (begunJ s.data.toList k 125).2 n1 []) g s D W)) := fun W hW tW => by
          have := jmembers_any g s D f (fun f' hf' => HV f' (by omega)) (o + 1) k n1 W hW tW hg hs hk2 (by omega) hn1 (by omega) (by omega)
          have e1 : (((o + 1 : Nat)) : Int) = (o : Int) + 1 := by omega
          rw [e1] at this
          exact this
        cases hw : memJ s.data.toList D f (o + 1) (begunJ s.data.toList k 125).1 (begunJ s.data.toList k 125).2 n1 [] with
        | error fl =>
          have HE : Hid (valJ s.data.toList D (f + 1) o k n = .error fl) := by show _ = _; rw [HW.out, swJ, if_neg h110, if_neg h116, if_neg h102, if_neg h34, if_neg h91, if_pos h123, hw]
          rw [hw] at CW
          clear HW hw HV
          clear h110 h116 h102 h34 h91 h123
          go_enter Tryz.func63, Tryz.ntmps63
          go_wp2_with fail
          refine CN.out.mono ?_
          rintro e w1 ⟨rfl, q, rfl⟩
          clear CN
          go_wp2_with fail
          refine (CE.out _ (HJ0.out q)).mono ?_
          rintro e w2 ⟨⟨rfl, R2⟩, g2⟩
          have X2 := F1.out q w2 g2 R2
          clear CE HJ0 F1 R2 g2
          go_wp2_with fail
          refine (CW.out _ X2.jr (HTd.out _ X2.gr)).mono ?_
          rintro e w3 ⟨he, g3⟩
          unfold flt at he
          subst he
          go_wp2_with fail
          refine ⟨rfl, ?_⟩
          rw [HE.out]
          exact ⟨rfl, grown_trans X2.gr g3⟩
        | ok x =>
          obtain ⟨xs, k1, n2⟩ := x
          have HE : Hid (valJ s.data.toList D (f + 1) o k n = .ok (.mk 5 false 0 ⟨#[]⟩ [] (sortM xs), k1, n2)) := by show _ = _; rw [HW.out, swJ, if_neg h110, if_neg h116, if_neg h102, if_neg h34, if_neg h91, if_pos h123, hw]
          rw [hw] at CW
          clear HW hw HV
          clear h110 h116 h102 h34 h91 h123
          go_enter Tryz.func63, Tryz.ntmps63
          go_wp2_with fail
          refine CN.out.mono ?_
          rintro e w1 ⟨rfl, q, rfl⟩
          clear CN
          go_wp2_with fail
          refine (CE.out _ (HJ0.out q)).mono ?_
          rintro e w2 ⟨⟨rfl, R2⟩, g2⟩
          have X2 := F1.out q w2 g2 R2
          clear CE HJ0 F1 R2 g2
          go_wp2_with fail
          refine (CW.out _ X2.jr (HTd.out _ X2.gr)).mono ?_
          rintro e w3 ⟨⟨sa, sc, sb, so, rfl, hd, hls, R3⟩, g3⟩
          dsimp only at hd hls R3
          have X3 := X2.next hlt g3 R3
          have x2 := X2.lt
          have HLS : Hid (∀ W6, w3.grownBy W6 (some w.heap.size) → V.lies false W6 (New w W6) (.mk 5 false 0 ⟨#[]⟩ [] (sortM xs)) [.int .i64 5, .bool false, .int .i64 0, .string ⟨#[]⟩, .slice none 0 0, .slice sa (sortM xs).length sc]) := fun W6 gb => lies_map hd hls gb x2
          clear R3 g3 X2 CW hd hls
          obtain ⟨⟨q0, q1, q2, q3, q4, q5⟩, kf⟩ := X3.cells
          obtain ⟨W6, e6, ⟨z0, z1, z2, z3, z4, z5⟩, R6, G6, gb⟩ := X3.done hlt (.int .i64 5) (.bool false) (.int .i64 0) (.string ⟨#[]⟩) (.slice none 0 0) (.slice sa (sortM xs).length sc)
          go_wp2_with fail
          (try rw [← e6])
          clear e6 q0 q1 q2 q3 q4 q5 kf
          (try simp only [Exit.inBlock, Exit.then])
          refine bodyPost_ret (v := .agg #[.int .i64 5, .bool false, .int .i64 0, .string ⟨#[]⟩, .slice none 0 0, .slice sa (sortM xs).length sc]) ?_ rfl ?_
          · rw [results_cell1 rfl]
            go_simp
          · rw [HE.out]
            exact ⟨⟨[.int .i64 5, .bool false, .int .i64 0, .string ⟨#[]⟩, .slice none 0 0, .slice sa (sortM xs).length sc], rfl, HLS.out _ gb, R6⟩, G6⟩
      have y123 : ((c.toNat : Int) == 123) = false := by
        rw [beq_eq_false_iff_ne]
        intro q
        exact h123 (UInt8.toNat_inj.1 (by show c.toNat = 123; omega))
      have CW : Hid (∀ W, JR g s k D n1 W → Td W → Calls Tryz.prog 90 #[.pointer (some ⟨g, 0, none⟩)] W (JP (numJ s.data.toList k) (fun x e w' => e = .returned (.int .i64 x.1) ∧ JR g s x.2 D n1 w') g W)) := fun W hW tW => jnumber_any g s k D n1 W hW tW (by omega) hk
      cases hw : numJ s.data.toList k with
      | error fl =>
        have HE : Hid (valJ s.data.toList D (f + 1) o k n = .error fl) := by show _ = _; rw [HW.out, swJ, if_neg h110, if_neg h116, if_neg h102, if_neg h34, if_neg h91, if_neg h123, hw]
        rw [hw] at CW
        clear HW hw
        clear h110 h116 h102 h34 h91 h123
        go_enter Tryz.func63, Tryz.ntmps63
        go_wp2_with fail
        refine CN.out.mono ?_
        rintro e w1 ⟨rfl, q, rfl⟩
        clear CN
        go_wp2_with fail
        refine (CE.out _ (HJ0.out q)).mono ?_
        rintro e w2 ⟨⟨rfl, R2⟩, g2⟩
        have X2 := F1.out q w2 g2 R2
        clear CE HJ0 F1 R2 g2
        go_wp2_with fail
        refine (CW.out _ X2.jr (HTd.out _ X2.gr)).mono ?_
        rintro e w3 ⟨he, g3⟩
        unfold flt at he
        subst he
        go_wp2_with fail
        refine ⟨rfl, ?_⟩
        rw [HE.out]
        exact ⟨rfl, grown_trans X2.gr g3⟩
      | ok x =>
        obtain ⟨xs, k1⟩ := x
        have hxm := (numJ_le (by rw [hll]; exact hk) hw).2.2
        dsimp only at hxm
        have HE : Hid (valJ s.data.toList D (f + 1) o k n = .ok (.mk 2 false xs ⟨#[]⟩ [] [], k1, n1)) := by show _ = _; rw [HW.out, swJ, if_neg h110, if_neg h116, if_neg h102, if_neg h34, if_neg h91, if_neg h123, hw]
        rw [hw] at CW
        clear HW hw
        clear h110 h116 h102 h34 h91 h123
        go_enter Tryz.func63, Tryz.ntmps63
        go_wp2_with fail
        refine CN.out.mono ?_
        rintro e w1 ⟨rfl, q, rfl⟩
        clear CN
        go_wp2_with fail
        refine (CE.out _ (HJ0.out q)).mono ?_
        rintro e w2 ⟨⟨rfl, R2⟩, g2⟩
        have X2 := F1.out q w2 g2 R2
        clear CE HJ0 F1 R2 g2
        go_wp2_with fail
        refine (CW.out _ X2.jr (HTd.out _ X2.gr)).mono ?_
        rintro e w3 ⟨⟨rfl, R3⟩, g3⟩
        dsimp only at R3
        have X3 := X2.next hlt g3 R3
        clear R3 g3 X2 CW
        obtain ⟨⟨q0, q1, q2, q3, q4, q5⟩, kf⟩ := X3.cells
        obtain ⟨W6, e6, ⟨z0, z1, z2, z3, z4, z5⟩, R6, G6, gb⟩ := X3.done hlt (.int .i64 2) (.bool false) (.int .i64 xs) (.string ⟨#[]⟩) (.slice none 0 0) (.slice none 0 0)
        go_wp2_with fail
        (try rw [← e6])
        clear e6 q0 q1 q2 q3 q4 q5 kf
        (try simp only [Exit.inBlock, Exit.then])
        refine bodyPost_ret (v := .agg #[.int .i64 2, .bool false, .int .i64 xs, .string ⟨#[]⟩, .slice none 0 0, .slice none 0 0]) ?_ rfl ?_
        · rw [results_cell1 rfl]
          go_simp
        · rw [HE.out]
          exact ⟨⟨[.int .i64 2, .bool false, .int .i64 xs, .string ⟨#[]⟩, .slice none 0 0, .slice none 0 0], rfl, lies_sca ⟨by omega, by omega⟩ hxm (by simp [maxLen, ByteArray.size]) _ _, R6⟩, G6⟩
  · obtain rfl : k = s.size := by omega
    have CN := hmk (jnext_end g s D n _ F0.jr (by omega))
    have HE : Hid (valJ s.data.toList D (f + 1) o s.size n = .error (s.size, 31)) := valJ_end (by rw [hll]; omega)
    clear HV
    go_enter Tryz.func63, Tryz.ntmps63
    go_wp2_with fail
    refine CN.out.mono ?_
    rintro e w1 ⟨he, g1⟩
    unfold flt at he
    subst he
    go_wp2_with fail
    refine ⟨rfl, ?_⟩
    rw [HE.out]
    exact ⟨rfl, grown_trans F0.gr g1⟩
/-- value, whatever stands there -/
theorem value_all (g : Nat) (s : ByteArray) (D : Nat) (hg : 9 < g) (hs : s.size ≤ 100000000) (hD : D ≤ 900) (F : Nat) : ValC g s D F := by
  induction F using Nat.strongRecOn with
  | _ F ih => exact jvalue_any g s D F hg hs hD ih
end Go.Proofs.YtpmhdcmmlkjjmaaGreatDoor
