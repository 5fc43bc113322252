/- joined: JdI JdK -/
import Derived.Test.YtpmhdcmmlkjjmaaGreatDoorJdH
/- a member's value set in a row of one's own. -/
set_option linter.unusedSimpArgs false
set_option linter.unusedVariables false
set_option maxRecDepth 100000
namespace Go.Proofs.YtpmhdcmmlkjjmaaGreatDoor
open Go.RowKit Go.Lib
set_option maxHeartbeats 4000000 in
theorem arr6 {arr arr' : Array Value} {o : Nat} (ho : o + 6 ≤ arr.size) (c0 c1 c2 c3 c4 c5 : Value) (he : arr' = (((((arr.setIfInBounds o c0).setIfInBounds (o + 1) c1).setIfInBounds (o + 2) c2).setIfInBounds (o + 3) c3).setIfInBounds (o + 4) c4).setIfInBounds (o + 5) c5) :
    arr'.size = arr.size ∧ (∀ p, (p < o ∨ o + 6 ≤ p) → arr'[p]? = arr[p]?) ∧ arr'[o]? = some c0 ∧ arr'[o + 1]? = some c1 ∧ arr'[o + 2]? = some c2 ∧ arr'[o + 3]? = some c3 ∧ arr'[o + 4]? = some c4 ∧ arr'[o + 5]? = some c5 := by
  subst he
  refine ⟨by simp, fun p hp => ?_, ?_, ?_, ?_, ?_, ?_, ?_⟩
  · simp only [Array.getElem?_setIfInBounds]
    repeat (rw [if_neg (by omega)])
  all_goals
    simp (config := { maxSteps := 200000 }) only [Array.getElem?_setIfInBounds, Array.size_setIfInBounds]
    repeat (first | rw [if_pos trivial] | rw [if_neg (by omega)] | rw [if_pos (by omega)])
theorem chunk7 {ys : List Value} {j n : Nat} (hj : j < n) : ((ys.take (n * 7)).drop (j * 7)).take 7 = (ys.drop (j * 7)).take 7 := by
  rw [List.drop_take, List.take_take]
  congr 1
  omega
theorem chunk_get {ys : Array Value} {j p : Nat} (hp : p < 7) : ((ys.toList.drop (j * 7)).take 7)[p]? = ys[j * 7 + p]? := by
  rw [List.getElem?_take, if_pos hp, List.getElem?_drop, Array.getElem?_toList]
set_option maxHeartbeats 4000000 in
theorem own_setM {W W6 : World} {base : Nat} {S Sx : Nat → Prop} {g n cap i : Nat} {l : List Mem} {x : V} {c0 c1 c2 c3 c4 c5 : Value} (h : OwnM false W base S (.slice (some ⟨g, 0, none⟩) n cap) (l.map some)) (hi : i < l.length) (hx : x.lies false W Sx [c0, c1, c2, c3, c4, c5]) (hSx : ∀ b, Sx b → base ≤ b ∧ b < W.heap.size ∧ b ≠ g)
    (hW : W6 = ((((((W.setCell ⟨g, i * 7 + 1, none⟩ c0).setCell ⟨g, i * 7 + 1 + 1, none⟩ c1).setCell ⟨g, i * 7 + 1 + 2, none⟩ c2).setCell ⟨g, i * 7 + 1 + 3, none⟩ c3).setCell ⟨g, i * 7 + 1 + 4, none⟩ c4).setCell ⟨g, i * 7 + 1 + 5, none⟩ c5)) :
    OwnM false W6 base (fun b => S b ∨ Sx b) (.slice (some ⟨g, 0, none⟩) n cap) ((l.set i ((l[i]).1, x)).map some) ∧ W.grownBy W6 (some g) := by
  have gW : W.grownBy W6 (some g) := by
    subst hW
    exact grown_set (grown_set (grown_set (grown_set (grown_set (grown_set (World.grownBy.refl _ _) _ _) _ _) _ _) _ _) _ _) _ _
  obtain ⟨⟨xs, h1, h2⟩, h3⟩ := h
  obtain ⟨hx1, ho⟩ := h1
  rw [List.length_map] at hx1 ho
  rcases ho with ⟨e, _⟩ | ⟨g', cap', cur, e, hg, hblk, hle, hm, hcs, hpre⟩
  · cases e
  injection e with e1 e2 e3
  injection e1 with e1
  injection e1 with e1
  subst e1 e2 e3
  obtain ⟨cur', hcur⟩ : ∃ cur', cur' = (((((cur.setIfInBounds (i * 7 + 1) c0).setIfInBounds (i * 7 + 1 + 1) c1).setIfInBounds (i * 7 + 1 + 2) c2).setIfInBounds (i * 7 + 1 + 3) c3).setIfInBounds (i * 7 + 1 + 4) c4).setIfInBounds (i * 7 + 1 + 5) c5 := ⟨_, rfl⟩
  have hb6 : W6.heap[g]? = some (.cells cur' 57 (0, 0)) := by
    rw [hW, hcur]
    exact set_block (set_block (set_block (set_block (set_block (set_block hblk _ _) _ _) _ _) _ _) _ _) _ _
  have hsz : i * 7 + 1 + 6 ≤ cur.size := by
    rw [hcs]
    have := Nat.mul_le_mul_right 7 (show i + 1 ≤ cap by omega)
    omega
  obtain ⟨z1, z2, y0, y1, y2, y3, y4, y5⟩ := arr6 hsz c0 c1 c2 c3 c4 c5 hcur
  have hlt : ∀ b, S b ∨ Sx b → base ≤ b ∧ b < W.heap.size ∧ b ≠ g := fun b hb => hb.elim (fun q => ⟨(h3 b q).1, (h3 b q).2.1, fun e => (h3 b q).2.2 (by rw [e]; rfl)⟩) (hSx b)
  have hk : ∀ b, S b ∨ Sx b → W6.heap[b]? = W.heap[b]? := fun b hb => gW.block b (hlt b hb).2.1 (fun e => (hlt b hb).2.2 (Option.some.inj e))
  have hll : ((l.set i ((l[i]).1, x)).map some).length = l.length := by simp
  refine ⟨⟨⟨cur'.toList.take (l.length * 7), ⟨?_, .inr ⟨g, cap, cur', by rw [hll], hg, hb6, by rw [hll]; exact hle, hm, by rw [z1]; exact hcs, by rw [hll]⟩⟩, fun j hj => ?_⟩, fun b hb => ⟨(hlt b hb).1, Nat.lt_of_lt_of_le (hlt b hb).2.1 gW.size, fun e => (hlt b hb).2.2 (by simpa [Value.ownBlock] using e)⟩⟩, gW⟩
  · rw [hll, List.length_take, show cur'.toList.length = cap * 7 by rw [Array.length_toList, z1, hcs]]
    have := Nat.mul_le_mul_right 7 hle
    omega
  · have hj' : j < l.length := by rwa [hll] at hj
    rw [chunk7 hj']
    have hE := h2 j (by simpa using hj')
    rw [List.getElem_map] at hE
    rw [← hpre, chunk7 hj'] at hE
    simp only [List.getElem_map, List.getElem_set]
    by_cases hij : i = j
    · subst hij
      rw [if_pos rfl]
      obtain ⟨cs', e, hk1, _⟩ := hE
      have e0 : cur[i * 7 + 0]? = some (.string (l[i]).1) := by rw [← chunk_get (by omega), e]; rfl
      refine ⟨[c0, c1, c2, c3, c4, c5], ?_, hk1, V.lies_keep (fun h => h) (fun b hb => hk b (.inr hb)) (fun _ h => .inr h) _ hx⟩
      apply List.ext_getElem?
      intro p
      rcases Nat.lt_or_ge p 7 with hp | hp
      · rw [chunk_get hp]
        rcases (show p = 0 ∨ p = 1 ∨ p = 2 ∨ p = 3 ∨ p = 4 ∨ p = 5 ∨ p = 6 by omega) with rfl | rfl | rfl | rfl | rfl | rfl | rfl
        · rw [z2 _ (.inl (by omega)), e0]; rfl
        · exact y0
        · exact y1
        · exact y2
        · exact y3
        · exact y4
        · exact y5
      · rw [List.getElem?_eq_none (by rw [List.length_take]; omega), List.getElem?_eq_none (by simpa using hp)]
    · rw [if_neg hij]
      have e : (cur'.toList.drop (j * 7)).take 7 = (cur.toList.drop (j * 7)).take 7 := by
        apply List.ext_getElem?
        intro p
        rcases Nat.lt_or_ge p 7 with hp | hp
        · rw [chunk_get hp, chunk_get hp]
          exact z2 _ (by omega)
        · rw [List.getElem?_eq_none (by rw [List.length_take]; omega), List.getElem?_eq_none (by rw [List.length_take]; omega)]
      rw [e]
      exact keepM false _ _ _ _ _ _ (fun b hb => hk b (.inl hb)) (fun _ h => .inl h) hE
/-- a row of members, as a list -/
theorem own_listM0 {w : World} {N : Nat} {S T : Nat → Prop} {v : Value} {l : List Mem} (h : OwnM false w N S v (l.map some)) (hT : ∀ b, S b → T b) (hv : ∀ g, v.ownBlock = some g → T g) : ∃ a c b o, v = .slice a l.length c ∧ Headed a l.length c b o ∧ liesM false w T l b o := by
  have h' := h
  obtain ⟨⟨xs, h1, h2⟩, h3⟩ := h'
  rcases h1.2 with ⟨rfl, e⟩ | ⟨g, cap, cur, rfl, _⟩
  · have e0 : l.length = 0 := by simpa using e
    have : l = [] := List.length_eq_zero_iff.1 e0
    subst this
    exact ⟨none, 0, 0, 0, rfl, headed_nil, by rw [liesM]; trivial⟩
  · have hle := h.le
    simp only [List.length_map] at hle ⊢
    refine ⟨_, cap, g, 0, rfl, ⟨hle.1, hle.2, .inr rfl, fun h => by cases h⟩, liesM_mk fun j hj => ?_⟩
    obtain ⟨cs, k1, k2⟩ := h.at (by simp) j (by simpa using hj)
    rw [List.getElem_map] at k2
    obtain ⟨cs', e1, e2, e3⟩ := k2
    exact ⟨hv g rfl, e2, cs', by rw [← e1]; exact k1, V.lies_keep (fun h => h) (fun _ _ => rfl) hT _ e3⟩
end Go.Proofs.YtpmhdcmmlkjjmaaGreatDoor
/- the document's value: its box. -/
set_option maxRecDepth 100000
namespace Go.Proofs.YtpmhdcmmlkjjmaaGreatDoor
open Go.RowKit Go.Lib
/-- the box that answers -/
structure Dy (w : World) (g : Nat) (s : ByteArray) (D k n e bd : Nat) (W : World) : Prop where
  b4 : W.heap[w.heap.size]? = some z46
  jd : JD g s k n D e bd W
  gr : w.grownBy W (some g)
section
variable {w W W' : World} {g D k n e bd : Nat} {s : ByteArray}
theorem Dy.lt (h : Dy w g s D k n e bd W) : w.heap.size < W.heap.size := by
  rcases Nat.lt_or_ge w.heap.size W.heap.size with q | q
  · exact q
  · have := h.b4; rw [Array.getElem?_eq_none q] at this; cases this
theorem Dy.next {k2 n2 e2 bd2 : Nat} (h : Dy w g s D k n e bd W) (hg : g < w.heap.size) (gr : W.grownBy W' (some g)) (hj : JD g s k2 n2 D e2 bd2 W') : Dy w g s D k2 n2 e2 bd2 W' :=
  ⟨(gr.block _ h.lt (fun e => by have := Option.some.inj e; omega)).trans h.b4, hj, grown_trans h.gr gr⟩
theorem Dy.put1 (h : Dy w g s D k n e bd W) (hg : g < w.heap.size) (m : Nat) (z : Int) (hz : z = m) : Dy w g s D m n e bd (W.setCell ⟨g, 1, none⟩ (.int .i64 z)) := h.next hg (grown_set1 W g 1 _) (h.jd.put m z hz)
theorem Dy.put2 (h : Dy w g s D k n e bd W) (hg : g < w.heap.size) (m : Nat) (z : Int) (hz : z = m) : Dy w g s D k m e bd (W.setCell ⟨g, 2, none⟩ (.int .i64 z)) := h.next hg (grown_set1 W g 2 _) (h.jd.putN m z hz)
theorem Dy.cells (h : Dy w g s D k n e bd W) :
    (W.cell? ⟨w.heap.size, 0, none⟩ = some (.int .i64 0) ∧ W.cell? ⟨w.heap.size, 1, none⟩ = some (.bool false) ∧ W.cell? ⟨w.heap.size, 2, none⟩ = some (.int .i64 0) ∧ W.cell? ⟨w.heap.size, 3, none⟩ = some (.string ⟨#[]⟩) ∧ W.cell? ⟨w.heap.size, 4, none⟩ = some (.slice none 0 0) ∧ W.cell? ⟨w.heap.size, 5, none⟩ = some (.slice none 0 0)) ∧ (∀ i, W.frozen? ⟨w.heap.size, i, none⟩ = false) :=
  ⟨⟨cell_of_block h.b4 0, cell_of_block h.b4 1, cell_of_block h.b4 2, cell_of_block h.b4 3, cell_of_block h.b4 4, cell_of_block h.b4 5⟩, frozen_of_block h.b4⟩
theorem Dy.done (h : Dy w g s D k n e bd W) (hg : g < w.heap.size) (v0 v1 v2 v3 v4 v5 : Value) :
    ∃ W6, W6 = ((((((W.setCell ⟨w.heap.size, 0, none⟩ v0).setCell ⟨w.heap.size, 1, none⟩ v1).setCell ⟨w.heap.size, 2, none⟩ v2).setCell ⟨w.heap.size, 3, none⟩ v3).setCell ⟨w.heap.size, 4, none⟩ v4).setCell ⟨w.heap.size, 5, none⟩ v5) ∧
      (W6.cell? ⟨w.heap.size, 0, none⟩ = some v0 ∧ W6.cell? ⟨w.heap.size, 1, none⟩ = some v1 ∧ W6.cell? ⟨w.heap.size, 2, none⟩ = some v2 ∧ W6.cell? ⟨w.heap.size, 3, none⟩ = some v3 ∧ W6.cell? ⟨w.heap.size, 4, none⟩ = some v4 ∧ W6.cell? ⟨w.heap.size, 5, none⟩ = some v5) ∧ JD g s k n D e bd W6 ∧ w.grownBy W6 (some g) ∧ W.grownBy W6 (some w.heap.size) := by
  have hb := st6_block h.b4 v0 v1 v2 v3 v4 v5
  have hg6 := st6_grown W w.heap.size v0 v1 v2 v3 v4 v5
  generalize ((((((W.setCell ⟨w.heap.size, 0, none⟩ v0).setCell ⟨w.heap.size, 1, none⟩ v1).setCell ⟨w.heap.size, 2, none⟩ v2).setCell ⟨w.heap.size, 3, none⟩ v3).setCell ⟨w.heap.size, 4, none⟩ v4).setCell ⟨w.heap.size, 5, none⟩ v5) = W6 at *
  exact ⟨W6, rfl, ⟨cell_of_block hb 0, cell_of_block hb 1, cell_of_block hb 2, cell_of_block hb 3, cell_of_block hb 4, cell_of_block hb 5⟩, h.jd.own hg6 (fun e => by have := Option.some.inj e; omega), grown_own h.gr hg6 (fun r e => by cases e; exact Nat.le_refl _), hg6⟩
end
theorem dy_one (w : World) (g : Nat) (s : ByteArray) (D k n : Nat) (h : JD g s k n D 0 0 w) : Dy w g s D k n 0 0 (w.alloc z46) := by
  have bA : Below w.heap.size w (w.alloc z46) := (Below.refl _ _).alloc (Nat.le_refl _) _
  exact ⟨heap_alloc_new w _, h.keep bA, grown_belowS bA g⟩
/-- a value that was made, behind the last store -/
theorem lies_done {w w2 w3 W6 : World} {v : V} {cs : List Value} (hl : v.lies false w3 (New w2 w3) cs) (gb : w3.grownBy W6 (some w.heap.size)) (h2 : w.heap.size < w2.heap.size) : v.lies false W6 (New w W6) cs :=
  V.lies_keep (fun h => h) (fun b hb => gb.block b hb.2 (fun e => by have := Option.some.inj e; have := hb.1; omega)) (fun b hb => ⟨by have := hb.1; omega, Nat.lt_of_lt_of_le hb.2 gb.size⟩) _ hl
theorem entD_nodes {c : UInt8} {D n o k : Nat} (h : c = 110 ∨ c = 116 ∨ c = 102 ∨ c = 34 ∨ c = 91 ∨ c = 123 ∨ numC c = true) (hn : n = 65536) : entJ c D n o k = .error (k, 22) := by rw [entJ, if_neg (fun q => q h), if_pos hn]
theorem entD_deep {c : UInt8} {D n o k : Nat} (h : c = 110 ∨ c = 116 ∨ c = 102 ∨ c = 34 ∨ c = 91 ∨ c = 123 ∨ numC c = true) (hn : ¬ n = 65536) (ho : D < o) : entJ c D n o k = .error (k, 21) := by rw [entJ, if_neg (fun q => q h), if_neg hn, if_pos ho]
theorem entD_ok {c : UInt8} {D n o k : Nat} (h : c = 110 ∨ c = 116 ∨ c = 102 ∨ c = 34 ∨ c = 91 ∨ c = 123 ∨ numC c = true) (hn : ¬ n = 65536) (ho : ¬ D < o) : entJ c D n o k = .ok (n + 1) := by rw [entJ, if_neg (fun q => q h), if_neg hn, if_neg ho]
theorem entD_byte {c : UInt8} {D n o k : Nat} (h : ¬ (c = 110 ∨ c = 116 ∨ c = 102 ∨ c = 34 ∨ c = 91 ∨ c = 123 ∨ numC c = true)) : entJ c D n o k = .error (k, 32) := by rw [entJ, if_pos h]
set_option maxHeartbeats 4000000 in
theorem dval_end (g : Nat) (s : ByteArray) (D f o k n : Nat) (w : World) (h : JD g s k n D 0 0 w) (hs : s.size ≤ 100000000) (hk : k ≤ s.size) (hK : blk s.data.toList k = s.size) :
    Calls Tryz.prog 34 #[.pointer (some ⟨g, 0, none⟩), .int .i64 (o : Int)] w (DvP (valJ s.data.toList D (f + 1) o (blk s.data.toList k) n) g s D w) := by
  have hll : s.data.toList.length = s.size := by simp
  have hlt := h.lt
  have X0 := hmk (dy_one w g s D k n h)
  have CN := hmk (dnext_end g s k n D 0 _ X0.out.jd (by omega) hk hK)
  have HE : Hid (valJ s.data.toList D (f + 1) o (blk s.data.toList k) n = .error (s.size, 31)) := by show _ = _; rw [valJ_end (by rw [hll]; omega), hK]
  clear h
  go_enter Tryz.func34, Tryz.ntmps34
  go_wp2_with fail
  refine CN.out.mono ?_
  rintro e w1 ⟨rfl, R1, g1⟩
  have X1 := X0.out.next hlt g1 R1
  have c4 := X1.jd.c4
  clear CN X0 R1 g1
  obtain ⟨⟨q0, q1, q2, q3, q4, q5⟩, kf⟩ := X1.cells
  obtain ⟨W6, e6, ⟨z0, z1, z2, z3, z4, z5⟩, R6, G6, gb⟩ := X1.done hlt (.int .i64 0) (.bool false) (.int .i64 0) (.string ⟨#[]⟩) (.slice none 0 0) (.slice none 0 0)
  have HR6 := hmk R6
  have HG6 := hmk G6
  have HGB := hmk gb
  clear R6 G6 gb
  go_wp2_with fail
  (try rw [← e6])
  clear e6 q0 q1 q2 q3 q4 q5 kf
  (try simp only [Exit.inBlock, Exit.then])
  refine bodyPost_ret (v := .agg #[.int .i64 0, .bool false, .int .i64 0, .string ⟨#[]⟩, .slice none 0 0, .slice none 0 0]) ?_ rfl ?_
  · rw [results_cell1 rfl]
    go_simp
  · rw [HE.out]
    exact ⟨⟨_, _, _, _, _, _, _, _, _, _, _, _, rfl, HR6.out, by simp⟩, HG6.out⟩
end Go.Proofs.YtpmhdcmmlkjjmaaGreatDoor
