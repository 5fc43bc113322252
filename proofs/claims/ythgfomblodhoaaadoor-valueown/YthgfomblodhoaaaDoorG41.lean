/- joined: FulQ FulX -/
import Derived.Test.YthgfomblodhoaaaDoorG18
/- Rows written full with marks: how far. -/
set_option linter.unusedSimpArgs false
set_option linter.unusedVariables false
namespace Go.Proofs.YthgfomblodhoaaaDoor
open Go Go.RowKit Go.Lib Go.Shelf
/-- a list that can be written, in a block of P -/
def FL (W : World) (P : Nat → Prop) (s : Value) : Prop := SlR W 25 6 s ∧ ∀ b, sblk s = some b → P b
def FM (W : World) (P : Nat → Prop) (s : Value) : Prop := SlR W 38 7 s ∧ ∀ b, sblk s = some b → P b
/-- unlike blocks, by places -/
structure Dst (ls ms : List Value) : Prop where
  ll : ∀ (k k2 b : Nat) (h : k < ls.length) (h2 : k2 < ls.length), sblk ls[k] = some b → sblk ls[k2] = some b → k = k2
  mm : ∀ (k k2 b : Nat) (h : k < ms.length) (h2 : k2 < ms.length), sblk ms[k] = some b → sblk ms[k2] = some b → k = k2
  lm : ∀ (k k2 b : Nat) (h : k < ls.length) (h2 : k2 < ms.length), sblk ls[k] = some b → sblk ms[k2] = some b → False
structure Fi (ls ms : List Value) (P : Nat → Prop) (W0 : World) (kl il km im : Nat) (W : World) : Prop where
  os : W.os = W0.os
  tape : W.tape = W0.tape
  output : W.output = W0.output
  size : W0.heap.size ≤ W.heap.size
  fr : ∀ y, y < W0.heap.size → y ∉ blks ls ms → W.heap[y]? = W0.heap[y]?
  fl : ∀ s ∈ ls, FL W P s
  fm : ∀ s ∈ ms, FM W P s
  l : Dst ls ms → ∀ (k i b : Nat) (h : k < ls.length) (a : Option Addr) (n c : Nat), ls[k] = .slice a n c → sblk ls[k] = some b → i < n → (k < kl ∨ k = kl ∧ i < il) → W.cell? ⟨b, i * 6, none⟩ = some (.int .i64 (1000 + (k : Int)))
  m : Dst ls ms → ∀ (k i b : Nat) (h : k < ms.length) (a : Option Addr) (n c : Nat), ms[k] = .slice a n c → sblk ms[k] = some b → i < n → (k < km ∨ k = km ∧ i < im) → W.cell? ⟨b, i * 7 + 1, none⟩ = some (.int .i64 (-1000 - (k : Int)))
theorem mem_blkL {ls ms : List Value} {k b : Nat} (h : k < ls.length) (e : sblk ls[k] = some b) : b ∈ blks ls ms := mem_blks.2 (.inl (List.mem_filterMap.2 ⟨_, List.getElem_mem h, e⟩))
theorem mem_blkM {ls ms : List Value} {k b : Nat} (h : k < ms.length) (e : sblk ms[k] = some b) : b ∈ blks ls ms := mem_blks.2 (.inr (List.mem_filterMap.2 ⟨_, List.getElem_mem h, e⟩))
theorem SlR.put {W W' : World} {ty sz : Nat} {s : Value} {g : Nat} (h : SlR W ty sz s) (o : ∀ y, y ≠ g → y < W.heap.size → W'.heap[y]? = W.heap[y]?) (k : ∀ ty sz, Blk g ty sz W → Blk g ty sz W') : SlR W' ty sz s := by
  obtain ⟨a, n, c, b, rfl, h1, h2, h3, h4⟩ := h
  refine ⟨a, n, c, b, rfl, h1, h2, h3, ?_⟩
  rcases h4 with h4 | ⟨rfl, h4⟩
  · exact .inl h4
  · refine .inr ⟨rfl, ?_⟩
    by_cases hb : b = g
    · subst hb; exact k _ _ h4
    · exact h4.keep (o b hb (heap_lt h4.choose_spec.1))
theorem FL.put {W W' : World} {P : Nat → Prop} {s : Value} {g : Nat} (h : FL W P s) (o : ∀ y, y ≠ g → y < W.heap.size → W'.heap[y]? = W.heap[y]?) (k : ∀ ty sz, Blk g ty sz W → Blk g ty sz W') : FL W' P s := ⟨h.1.put o k, h.2⟩
theorem FM.put {W W' : World} {P : Nat → Prop} {s : Value} {g : Nat} (h : FM W P s) (o : ∀ y, y ≠ g → y < W.heap.size → W'.heap[y]? = W.heap[y]?) (k : ∀ ty sz, Blk g ty sz W → Blk g ty sz W') : FM W' P s := ⟨h.1.put o k, h.2⟩
theorem blk_same {g ty sz ty' sz' : Nat} {W W' : World} (h : Blk g ty sz W) (h' : Blk g ty sz W') (k : Blk g ty' sz' W) : Blk g ty' sz' W' := by
  obtain ⟨a1, e1, s1⟩ := h
  obtain ⟨a2, e2, s2⟩ := h'
  obtain ⟨a3, e3, s3⟩ := k
  rw [e1] at e3
  simp only [Option.some.injEq, Obj.cells.injEq] at e3
  obtain ⟨rfl, rfl, _⟩ := e3
  exact ⟨a2, e2, by omega⟩
theorem Fi.putL {ls ms : List Value} {P : Nat → Prop} {W0 W W' : World} {k i km im b sz : Nat} {a : Option Addr} {n c : Nat} (F : Fi ls ms P W0 k i km im W) (hk : k < ls.length) (e : ls[k] = .slice a n c) (eb : sblk ls[k] = some b) (hi : i < n) (B : Blk b 25 sz W) (p : Put6 b i sz 25 W W' (.int .i64 (1000 + (k : Int)))) : Fi ls ms P W0 k (i + 1) km im W' := by
  refine ⟨p.h3.1.trans F.os, p.h3.2.1.trans F.tape, p.h3.2.2.trans F.output, by rw [p.size]; exact F.size, fun y hl hy => (p.o_ y (fun q => hy (by rw [q]; exact mem_blkL hk eb))).trans (F.fr y hl hy), fun s hs => (F.fl s hs).put (fun y hy _ => p.o_ y hy) (fun _ _ q => blk_same B p.k q), fun s hs => (F.fm s hs).put (fun y hy _ => p.o_ y hy) (fun _ _ q => blk_same B p.k q), ?_, ?_⟩
  · intro D k2 i2 b2 h2 a2 n2 c2 e2 eb2 hi2 hd
    by_cases hb : b2 = b
    · subst hb
      obtain rfl := D.ll _ _ _ h2 hk eb2 eb
      by_cases hii : i2 = i
      · subst hii; exact p.at_
      · rw [p.c_ _ (by omega)]
        exact F.l D _ i2 _ h2 a2 n2 c2 e2 eb2 hi2 (by omega)
    · rw [World.cell?_of_block (w := W) (a := ⟨b2, i2 * 6, none⟩) (p.o_ b2 hb)]
      refine F.l D k2 i2 b2 h2 a2 n2 c2 e2 eb2 hi2 ?_
      rcases hd with hd | ⟨rfl, hd⟩
      · exact .inl hd
      · rw [eb] at eb2; exact absurd (Option.some.inj eb2).symm hb
  · intro D k2 i2 b2 h2 a2 n2 c2 e2 eb2 hi2 hd
    have hb : b2 ≠ b := fun q => D.lm _ _ _ hk h2 eb (by rw [eb2, q])
    rw [World.cell?_of_block (w := W) (a := ⟨b2, i2 * 7 + 1, none⟩) (p.o_ b2 hb)]
    exact F.m D k2 i2 b2 h2 a2 n2 c2 e2 eb2 hi2 hd
theorem Fi.putM {ls ms : List Value} {P : Nat → Prop} {W0 W W' : World} {k i kl il b sz : Nat} {a : Option Addr} {n c : Nat} (F : Fi ls ms P W0 kl il k i W) (hk : k < ms.length) (e : ms[k] = .slice a n c) (eb : sblk ms[k] = some b) (hi : i < n) (B : Blk b 38 sz W) (p : Put7 b i sz 38 W W' (.int .i64 (-1000 - (k : Int)))) : Fi ls ms P W0 kl il k (i + 1) W' := by
  refine ⟨p.h3.1.trans F.os, p.h3.2.1.trans F.tape, p.h3.2.2.trans F.output, by rw [p.size]; exact F.size, fun y hl hy => (p.o_ y (fun q => hy (by rw [q]; exact mem_blkM hk eb))).trans (F.fr y hl hy), fun s hs => (F.fl s hs).put (fun y hy _ => p.o_ y hy) (fun _ _ q => blk_same B p.k q), fun s hs => (F.fm s hs).put (fun y hy _ => p.o_ y hy) (fun _ _ q => blk_same B p.k q), ?_, ?_⟩
  · intro D k2 i2 b2 h2 a2 n2 c2 e2 eb2 hi2 hd
    have hb : b2 ≠ b := fun q => D.lm _ _ _ h2 hk eb2 (by rw [eb, q])
    rw [World.cell?_of_block (w := W) (a := ⟨b2, i2 * 6, none⟩) (p.o_ b2 hb)]
    exact F.l D k2 i2 b2 h2 a2 n2 c2 e2 eb2 hi2 hd
  · intro D k2 i2 b2 h2 a2 n2 c2 e2 eb2 hi2 hd
    by_cases hb : b2 = b
    · subst hb
      obtain rfl := D.mm _ _ _ h2 hk eb2 eb
      by_cases hii : i2 = i
      · subst hii; exact p.at_
      · rw [p.c_ _ (by omega)]
        exact F.m D _ i2 _ h2 a2 n2 c2 e2 eb2 hi2 (by omega)
    · rw [World.cell?_of_block (w := W) (a := ⟨b2, i2 * 7 + 1, none⟩) (p.o_ b2 hb)]
      refine F.m D k2 i2 b2 h2 a2 n2 c2 e2 eb2 hi2 ?_
      rcases hd with hd | ⟨rfl, hd⟩
      · exact .inl hd
      · rw [eb] at eb2; exact absurd (Option.some.inj eb2).symm hb
/-- a list is through -/
theorem Fi.nextL {ls ms : List Value} {P : Nat → Prop} {W0 W : World} {k km im : Nat} {a : Option Addr} {n c : Nat} (hk : k < ls.length) (e : ls[k] = .slice a n c) (F : Fi ls ms P W0 k n km im W) : Fi ls ms P W0 (k + 1) 0 km im W := by
  refine ⟨F.os, F.tape, F.output, F.size, F.fr, F.fl, F.fm, ?_, F.m⟩
  intro D k2 i2 b2 h2 a2 n2 c2 e2 eb2 hi2 hd
  refine F.l D k2 i2 b2 h2 a2 n2 c2 e2 eb2 hi2 ?_
  by_cases hkk : k2 = k
  · subst hkk
    rw [e] at e2
    simp only [Value.slice.injEq] at e2
    omega
  · omega
theorem Fi.nextM {ls ms : List Value} {P : Nat → Prop} {W0 W : World} {kl il k : Nat} {a : Option Addr} {n c : Nat} (hk : k < ms.length) (e : ms[k] = .slice a n c) (F : Fi ls ms P W0 kl il k n W) : Fi ls ms P W0 kl il (k + 1) 0 W := by
  refine ⟨F.os, F.tape, F.output, F.size, F.fr, F.fl, F.fm, F.l, ?_⟩
  intro D k2 i2 b2 h2 a2 n2 c2 e2 eb2 hi2 hd
  refine F.m D k2 i2 b2 h2 a2 n2 c2 e2 eb2 hi2 ?_
  by_cases hkk : k2 = k
  · subst hkk
    rw [e] at e2
    simp only [Value.slice.injEq] at e2
    omega
  · omega
end Go.Proofs.YthgfomblodhoaaaDoor
/- (*rows).full: each list and map written full with marks of its own. -/
namespace Go.Proofs.YthgfomblodhoaaaDoor
open Go Go.RowKit Go.Lib Go.Shelf
theorem owns_cells {w : World} {B e n : Nat} {v : Value} {xs : List Value} (h : w.ownsRow B e 1 v n xs) : ∃ A C, v = .slice A n C ∧ n ≤ C ∧ C ≤ maxLen ∧ (0 < n → ∃ g, A = some ⟨g, 0, none⟩ ∧ ∀ (k : Nat) (hk : k < xs.length), w.cell? ⟨g, k, none⟩ = some xs[k]) := by
  have hl := h.1
  rcases h.2 with ⟨rfl, rfl⟩ | ⟨g, cap, cur, rfl, hb, hg, h1, h2, h3, h4⟩
  · exact ⟨none, 0, rfl, Nat.le_refl _, by decide, fun h => by omega⟩
  · refine ⟨_, _, rfl, h1, h2, fun _ => ⟨g, rfl, fun k hk => ?_⟩⟩
    rw [cell_of_block hg]
    have : cur.toList[k]? = some xs[k] := by
      have e : (cur.toList.take (n * 1))[k]? = some xs[k] := by rw [h4]; exact List.getElem?_eq_getElem hk
      rw [List.getElem?_take] at e
      split at e
      · exact e
      · cases e
    simpa using this
theorem fl_blk {W : World} {P : Nat → Prop} {s : Value} {b : Nat} (h : FL W P s) (e : sblk s = some b) : P b := by
  exact h.2 b e
theorem fm_blk {W : World} {P : Nat → Prop} {s : Value} {b : Nat} (h : FM W P s) (e : sblk s = some b) : P b := by
  exact h.2 b e
theorem blks_all {W : World} {P : Nat → Prop} {ls ms : List Value} (hl : ∀ s ∈ ls, FL W P s) (hm : ∀ s ∈ ms, FM W P s) : ∀ b ∈ blks ls ms, P b := fun b hb => by
  rcases mem_blks.1 hb with h | h
  · obtain ⟨s, hs, e⟩ := List.mem_filterMap.1 h; exact fl_blk (hl s hs) e
  · obtain ⟨s, hs, e⟩ := List.mem_filterMap.1 h; exact fm_blk (hm s hs) e
theorem rows_fi {M B : Nat} {sl sm : Value} {ls ms : List Value} {W W' : World} {kl il km im : Nat} (R : RowsAt M B sl sm ls ms W) (F : Fi ls ms (fun b => b < B ∧ b ≠ M) W kl il km im W') : RowsAt M B sl sm ls ms W' := by
  have hb := blks_all F.fl F.fm
  refine ⟨(F.fr M (heap_lt R.b) (fun h => (hb M h).2 rfl)).trans R.b, owns_keep R.l fun g e => F.fr g (heap_lt (owns_at R.l e).2.choose_spec) (fun h => ?_), owns_keep R.m fun g e => F.fr g (heap_lt (owns_at R.m e).2.choose_spec) (fun h => ?_)⟩
  · have := (owns_at R.l e).1; have := (hb g h).1; omega
  · have := (owns_at R.m e).1; have := (hb g h).1; omega
def FulPost (ls ms : List Value) (P : Nat → Prop) (W : World) (e : Ending) (W' : World) : Prop := e = .returned (.tuple #[]) ∧ Fi ls ms P W ls.length 0 ls.length 0 W'
set_option maxHeartbeats 4000000 in
set_option maxRecDepth 100000 in
theorem full_any (M B : Nat) (sl sm : Value) (ls ms : List Value) (W : World) (R : RowsAt M B sl sm ls ms W) (hlm : ls.length = ms.length) (hn : ls.length ≤ 1000000000000) (hl : ∀ s ∈ ls, FL W (fun b => b < B ∧ b ≠ M) s) (hm : ∀ s ∈ ms, FM W (fun b => b < B ∧ b ≠ M) s) :
    Calls Tryd.prog 40 #[.pointer (some ⟨M, 0, none⟩)] W (FulPost ls ms (fun b => b < B ∧ b ≠ M) W) := by
  have F0 : Hid (Fi ls ms (fun b => b < B ∧ b ≠ M) W 0 0 0 0 W) := ⟨rfl, rfl, rfl, Nat.le_refl _, fun _ _ _ => rfl, hl, hm, fun _ k i b h a n c _ _ _ hd => by omega, fun _ k i b h a n c _ _ _ hd => by omega⟩
  obtain ⟨A, C, rfl, hA1, hA2, _⟩ := owns_cells R.l
  obtain ⟨A', C', rfl, hA1', hA2', _⟩ := owns_cells R.m
  have HR := hmk R
  have hmn : ms.length ≤ 1000000000000 := by omega
  clear hl hm R
  go_enter Tryd.func40, Tryd.ntmps40
  go_wp2_with fail
  go_loopw [2] (fun e wr => ∃ k : Nat, k ≤ ls.length ∧ e = .int .i64 (k : Int) ∧ Hid (Fi ls ms (fun b => b < B ∧ b ≠ M) W k 0 k 0 wr)) (fun e _ => ls.length - (RowKit.intOf e).toNat)
  case atStart => exact ⟨0, by omega, rfl, F0⟩
  case round =>
    obtain ⟨k, hk, rfl, HF⟩ := hrel
    have Rr := rows_fi HR.out HF.out
    have c0 : wr.cell? ⟨M, 0, none⟩ = some (.slice A ls.length C) := by rw [cell_of_block Rr.b]; rfl
    by_cases hkl : k < ls.length
    · have y1 : (k : Int) < ls.length := by omega
      obtain ⟨⟨a, n, c, _, es, hnc, hcm, hnm, _⟩, _⟩ := HF.out.fl ls[k] (List.getElem_mem hkl)
      obtain ⟨⟨a', n', c', _, es', hnc', hcm', hnm', _⟩, _⟩ := HF.out.fm ms[k] (List.getElem_mem (show k < ms.length by omega))
      have hnn : n ≤ 9223372036854775807 := Nat.le_trans hnc hcm
      have hnn' : n' ≤ 9223372036854775807 := Nat.le_trans hnc' hcm'
      have HES := hmk es
      have HES' := hmk es'
      clear es es'
      go_wp2_with fail
      clear c0
      rename World => wA
      go_loopw [3] (fun e wr => ∃ i : Nat, i ≤ n ∧ e = .int .i64 (i : Int) ∧ Hid (Fi ls ms (fun b => b < B ∧ b ≠ M) W k i k 0 wr)) (fun e _ => n - (RowKit.intOf e).toNat)
      case atStart => exact ⟨0, by omega, rfl, HF⟩
      case round =>
        clear Rr HF
        obtain ⟨i, hi, rfl, HF⟩ := hrel
        have Rr := rows_fi HR.out HF.out
        have c0 : wr.cell? ⟨M, 0, none⟩ = some (.slice A ls.length C) := by rw [cell_of_block Rr.b]; rfl
        have c1 : wr.cell? ⟨M, 1, none⟩ = some (.slice A' ms.length C') := by rw [cell_of_block Rr.b]; rfl
        obtain ⟨A2, C2, eA, _, _, hAg⟩ := owns_cells Rr.l
        obtain ⟨rfl, rfl⟩ : A = A2 ∧ C = C2 := by simpa using eA
        obtain ⟨g, rfl, hgc⟩ := hAg (by omega)
        have ck : wr.cell? ⟨g, k, none⟩ = some (.slice a n c) := by rw [hgc k hkl, HES.out]
        by_cases hin : i < n
        · have y2 : (i : Int) < n := by omega
          have hFL := HF.out.fl ls[k] (List.getElem_mem hkl)
          rw [HES.out] at hFL
          obtain ⟨b, eb, rfl, hBk⟩ := hFL.1.room (show 0 < c by omega)
          have HEB := hmk eb
          clear hFL eb
          obtain ⟨v0, k0⟩ := hBk.cell (i * 6) (by omega)
          obtain ⟨v1, k1⟩ := hBk.cell (i * 6 + 1) (by omega)
          obtain ⟨v2, k2⟩ := hBk.cell (i * 6 + 2) (by omega)
          obtain ⟨v3, k3⟩ := hBk.cell (i * 6 + 3) (by omega)
          obtain ⟨v4, k4⟩ := hBk.cell (i * 6 + 4) (by omega)
          obtain ⟨v5, k5⟩ := hBk.cell (i * 6 + 5) (by omega)
          have kf := hBk.frozen
          have HP := hmk (Fi.putL HF.out hkl HES.out (by rw [HES.out]; exact HEB.out) hin hBk (put6 (c0 := .int .i64 (1000 + (k : Int))) (c1 := .bool false) (c2 := .int .i64 0) (c3 := .string ⟨#[]⟩) (c4 := .slice none 0 0) (c5 := .slice none 0 0) hBk (by omega)))
          clear hBk HF Rr hgc
          go_wp2_with fail
          go_roundw
          case rel => exact ⟨i + 1, by omega, by go_num, HP⟩
          case measure => simp [RowKit.intOf]; omega
        · obtain rfl : i = n := by omega
          have y2 : ¬ (i : Int) < i := by omega
          have HN := hmk (Fi.nextL hkl HES.out HF.out)
          clear HF Rr hgc
          go_wp2_with fail
          clear ck c0
          rename World => wB
          go_loopw [4] (fun e wr => ∃ i : Nat, i ≤ n' ∧ e = .int .i64 (i : Int) ∧ Hid (Fi ls ms (fun b => b < B ∧ b ≠ M) W (k + 1) 0 k i wr)) (fun e _ => n' - (RowKit.intOf e).toNat)
          case atStart => exact ⟨0, by omega, rfl, HN⟩
          case round =>
            clear HN c1
            obtain ⟨j, hj, rfl, HF⟩ := hrel
            have Rr := rows_fi HR.out HF.out
            have c1 : wr.cell? ⟨M, 1, none⟩ = some (.slice A' ms.length C') := by rw [cell_of_block Rr.b]; rfl
            obtain ⟨A3, C3, eA3, _, _, hAg3⟩ := owns_cells Rr.m
            obtain ⟨rfl, rfl⟩ : A' = A3 ∧ C' = C3 := by simpa using eA3
            obtain ⟨g3, rfl, hgc3⟩ := hAg3 (by omega)
            have hkm : k < ms.length := by omega
            have y1m : (k : Int) < ms.length := by omega
            have ck3 : wr.cell? ⟨g3, k, none⟩ = some (.slice a' n' c') := by rw [hgc3 k hkm, HES'.out]
            by_cases hjn : j < n'
            · have y3 : (j : Int) < n' := by omega
              have hFM := HF.out.fm ms[k] (List.getElem_mem hkm)
              rw [HES'.out] at hFM
              obtain ⟨b', eb, rfl, hBk⟩ := hFM.1.room (show 0 < c' by omega)
              have HEB := hmk eb
              clear hFM eb
              obtain ⟨v0, k0⟩ := hBk.cell (j * 7) (by omega)
              obtain ⟨v1, k1⟩ := hBk.cell (j * 7 + 1) (by omega)
              obtain ⟨v2, k2⟩ := hBk.cell (j * 7 + 2) (by omega)
              obtain ⟨v3, k3⟩ := hBk.cell (j * 7 + 3) (by omega)
              obtain ⟨v4, k4⟩ := hBk.cell (j * 7 + 4) (by omega)
              obtain ⟨v5, k5⟩ := hBk.cell (j * 7 + 5) (by omega)
              obtain ⟨v6, k6⟩ := hBk.cell (j * 7 + 6) (by omega)
              have kf := hBk.frozen
              have HP := hmk (Fi.putM HF.out hkm HES'.out (by rw [HES'.out]; exact HEB.out) hjn hBk (put7 (c0 := .string ⟨#[115, 112, 111, 105, 108, 116]⟩) (c1 := .int .i64 (-1000 - (k : Int))) (c2 := .bool false) (c3 := .int .i64 0) (c4 := .string ⟨#[]⟩) (c5 := .slice none 0 0) (c6 := .slice none 0 0) hBk (by omega)))
              clear hBk HF Rr hgc3
              go_wp2_with fail
              go_roundw
              case rel => exact ⟨j + 1, by omega, by go_num, HP⟩
              case measure => simp [RowKit.intOf]; omega
            · obtain rfl : j = n' := by omega
              have y3 : ¬ (j : Int) < j := by omega
              have HN := hmk (Fi.nextM hkm HES'.out HF.out)
              clear HF Rr hgc3
              go_wp2_with fail
              go_roundw
              case rel => exact ⟨k + 1, by omega, by go_num, HN⟩
              case measure => simp [RowKit.intOf]; omega
    · obtain rfl : k = ls.length := by omega
      have y1 : ¬ (ls.length : Int) < ls.length := by omega
      go_wp2_with fail
      (try simp only [Exit.inBlock, Exit.then])
      refine bodyPost_ret (v := .tuple #[]) (results_none rfl _ _ _) rfl ?_
      exact ⟨rfl, HF.out⟩
end Go.Proofs.YthgfomblodhoaaaDoor
