import Derived.Test.YthgfomblodhoaaaDoorNewP
import Derived.Test.YthgfomblodhoaaaDoorAnsV
import Derived.Test.YthgfomblodhoaaaDoorG39
/- freeholdlaw02.anew: what was written over in its place is answered as others of that content are. -/
set_option linter.unusedSimpArgs false
set_option linter.unusedVariables false
namespace Go.Proofs.YthgfomblodhoaaaDoor
open Go Go.RowKit Go.Lib
def key3 (key : ByteArray) : ByteArray := key ++ (⟨#[51]⟩ : ByteArray)
theorem key3_size (key : ByteArray) : (key3 key).size = key.size + 1 := by unfold key3; rw [ByteArray.size_append]; rfl
/-- a list of two members, in a block of its own -/
structure Ls (W : World) (L : Nat) (k1 k2 : ByteArray) (a b : V) (c1 c2 : List Value) : Prop where
  k : Blk L 38 14 W
  r1 : rowAt W L 0 (.string k1 :: c1)
  r2 : rowAt W L 7 (.string k2 :: c2)
  la : a.lies false W (fun y => y < W.heap.size ∧ y ≠ L) c1
  lb : b.lies false W (fun y => y < W.heap.size ∧ y ≠ L) c2
  lt : L < W.heap.size
theorem Ls.below {W W' : World} {L : Nat} {k1 k2 : ByteArray} {a b : V} {c1 c2 : List Value} (h : Ls W L k1 k2 a b c1 c2) (q : Below W.heap.size W W') : Ls W' L k1 k2 a b c1 c2 :=
  ⟨h.k.keep (q.block L h.lt), h.r1.keep (q.block L h.lt), h.r2.keep (q.block L h.lt), V.lies_keep (fun h => h) (fun y hy => q.block y hy.1) (fun y hy => ⟨Nat.lt_of_lt_of_le hy.1 q.size, hy.2⟩) _ h.la, V.lies_keep (fun h => h) (fun y hy => q.block y hy.1) (fun y hy => ⟨Nat.lt_of_lt_of_le hy.1 q.size, hy.2⟩) _ h.lb, Nat.lt_of_lt_of_le h.lt q.size⟩
theorem Ls.lm {W : World} {L : Nat} {k1 k2 : ByteArray} {a b : V} {c1 c2 : List Value} (h : Ls W L k1 k2 a b c1 c2) (h1 : k1.size ≤ maxLen) (h2 : k2.size ≤ maxLen) : liesM false W (Old W) [(k1, a), (k2, b)] L 0 := by
  rw [liesM, liesM, liesM]
  exact ⟨h.lt, ⟨h1, c1, h.r1, V.lies_keep (fun h => h) (fun _ _ => rfl) (fun y hy => hy.1) _ h.la⟩, h.lt, ⟨h2, c2, h.r2, V.lies_keep (fun h => h) (fun _ _ => rfl) (fun y hy => hy.1) _ h.lb⟩, trivial⟩
theorem Ls.new {W : World} {k1 k2 : ByteArray} {x v : V} {pk pi tk ti : Int} {pb tbb : Bool} {ps ts : ByteArray} {pal pam tal tam : Option Addr} {pnl pcl pnm pcm tnl tcl tnm tcm : Nat} (hx : x.lies false W (Old W) [.int .i64 pk, .bool pb, .int .i64 pi, .string ps, .slice pal pnl pcl, .slice pam pnm pcm]) (hv : v.lies false W (Old W) [.int .i64 tk, .bool tbb, .int .i64 ti, .string ts, .slice tal tnl tcl, .slice tam tnm tcm]) : Ls (W.alloc (.cells #[.string k1, .int .i64 pk, .bool pb, .int .i64 pi, .string ps, .slice pal pnl pcl, .slice pam pnm pcm, .string k2, .int .i64 tk, .bool tbb, .int .i64 ti, .string ts, .slice tal tnl tcl, .slice tam tnm tcm] 38)) W.heap.size k1 k2 x v [.int .i64 pk, .bool pb, .int .i64 pi, .string ps, .slice pal pnl pcl, .slice pam pnm pcm] [.int .i64 tk, .bool tbb, .int .i64 ti, .string ts, .slice tal tnl tcl, .slice tam tnm tcm] := by
  have hb := heap_alloc_new W (.cells #[.string k1, .int .i64 pk, .bool pb, .int .i64 pi, .string ps, .slice pal pnl pcl, .slice pam pnm pcm, .string k2, .int .i64 tk, .bool tbb, .int .i64 ti, .string ts, .slice tal tnl tcl, .slice tam tnm tcm] 38)
  refine ⟨⟨_, hb, rfl⟩, fun j u hu => ?_, fun j u hu => ?_, V.lies_keep (fun h => h) (fun y hy => Below.heap_alloc W _ y hy) (fun y hy => ⟨by rw [alloc_size]; exact Nat.lt_succ_of_lt hy, Nat.ne_of_lt hy⟩) _ hx, V.lies_keep (fun h => h) (fun y hy => Below.heap_alloc W _ y hy) (fun y hy => ⟨by rw [alloc_size]; exact Nat.lt_succ_of_lt hy, Nat.ne_of_lt hy⟩) _ hv, by rw [alloc_size]; exact Nat.lt_succ_self _⟩
  · rw [cell_of_block hb]
    rcases j with _ | _ | _ | _ | _ | _ | _ | j <;> first | (simp at hu; done) | (simp at hu; subst hu; rfl)
  · rw [cell_of_block hb]
    rcases j with _ | _ | _ | _ | _ | _ | _ | j <;> first | (simp at hu; done) | (simp at hu; subst hu; rfl)
theorem row_cons {W : World} {b p : Nat} {k : ByteArray} {cs : List Value} (h1 : W.cell? ⟨b, p, none⟩ = some (.string k)) (h2 : rowAt W b (p + 1) cs) : rowAt W b p (.string k :: cs) := fun j u hj => by
  cases j with
  | zero =>
    obtain rfl : Value.string k = u := by simpa using hj
    exact h1
  | succ j =>
    rw [show p + (j + 1) = p + 1 + j by omega]
    exact h2 j u (by simpa using hj)
theorem row_tail {W : World} {b p : Nat} {k : ByteArray} {cs : List Value} (r : rowAt W b p (.string k :: cs)) : W.cell? ⟨b, p, none⟩ = some (.string k) ∧ rowAt W b (p + 1) cs :=
  ⟨by simpa using r 0 _ rfl, fun j u hj => by rw [show p + 1 + j = p + (j + 1) by omega]; exact r (j + 1) u (by simpa using hj)⟩
theorem Ls.val {W : World} {L : Nat} {k1 k2 : ByteArray} {a b x : V} {c1 c2 : List Value} {d0 d1 d2 d3 d4 d5 : Value} (h : Ls W L k1 k2 a b c1 c2) (hx : x.lies false W (fun y => y < W.heap.size ∧ y ≠ L) [d0, d1, d2, d3, d4, d5]) (hc : c2.length = 6) : Ls ((((((W.setCell ⟨L, 1, none⟩ d0).setCell ⟨L, 2, none⟩ d1).setCell ⟨L, 3, none⟩ d2).setCell ⟨L, 4, none⟩ d3).setCell ⟨L, 5, none⟩ d4).setCell ⟨L, 6, none⟩ d5) L k1 k2 x b [d0, d1, d2, d3, d4, d5] c2 ∧ Ch (fun y => y = L) W ((((((W.setCell ⟨L, 1, none⟩ d0).setCell ⟨L, 2, none⟩ d1).setCell ⟨L, 3, none⟩ d2).setCell ⟨L, 4, none⟩ d3).setCell ⟨L, 5, none⟩ d4).setCell ⟨L, 6, none⟩ d5) := by
  have s : St6 L 1 14 38 W ((((((W.setCell ⟨L, 1, none⟩ d0).setCell ⟨L, 2, none⟩ d1).setCell ⟨L, 3, none⟩ d2).setCell ⟨L, 4, none⟩ d3).setCell ⟨L, 5, none⟩ d4).setCell ⟨L, 6, none⟩ d5) [d0, d1, d2, d3, d4, d5] := st6 (o := 1) h.k (by omega)
  generalize ((((((W.setCell ⟨L, 1, none⟩ d0).setCell ⟨L, 2, none⟩ d1).setCell ⟨L, 3, none⟩ d2).setCell ⟨L, 4, none⟩ d3).setCell ⟨L, 5, none⟩ d4).setCell ⟨L, 6, none⟩ d5) = W' at *
  have q : ∀ y, y < W.heap.size ∧ y ≠ L → W'.heap[y]? = W.heap[y]? := fun y hy => s.o_ y hy.2
  have z := s.size
  refine ⟨⟨s.k, row_cons ((s.c_ 0 (by omega)).trans (row_tail h.r1).1) s.r, s.row h.r2 (.inr (by omega)), V.lies_keep (fun h => h) q (fun y hy => ⟨by omega, hy.2⟩) _ hx, V.lies_keep (fun h => h) q (fun y hy => ⟨by omega, hy.2⟩) _ h.lb, by have := h.lt; omega⟩, s.ch rfl⟩
theorem Ls.key {W : World} {L : Nat} {k1 k2 k3 : ByteArray} {a b : V} {c1 c2 : List Value} (h : Ls W L k1 k2 a b c1 c2) (hc : c1.length = 6) : Ls (W.setCell ⟨L, 7, none⟩ (.string k3)) L k1 k3 a b c1 c2 ∧ Ch (fun y => y = L) W (W.setCell ⟨L, 7, none⟩ (.string k3)) := by
  have q : ∀ y, y < W.heap.size ∧ y ≠ L → (W.setCell ⟨L, 7, none⟩ (.string k3)).heap[y]? = W.heap[y]? := fun y hy => set_other hy.2
  have z := size_set1 W L 7 (.string k3)
  have r : ∀ {p : Nat} {cs : List Value}, rowAt W L p cs → (p + cs.length ≤ 7 ∨ 7 < p) → rowAt (W.setCell ⟨L, 7, none⟩ (.string k3)) L p cs := fun {p cs} hr hp j u hj => by
    have hl : j < cs.length := by
      rcases Nat.lt_or_ge j cs.length with h | h
      · exact h
      · rw [List.getElem?_eq_none h] at hj; cases hj
    rw [cell_set_off (by omega)]
    exact hr j u hj
  refine ⟨⟨h.k.set 7 _, r h.r1 (.inl (by simp; omega)), row_cons (h.k.at_ _ (by omega)) (r (row_tail h.r2).2 (.inr (by omega))), V.lies_keep (fun h => h) q (fun y hy => ⟨by omega, hy.2⟩) _ h.la, V.lies_keep (fun h => h) q (fun y hy => ⟨by omega, hy.2⟩) _ h.lb, by have := h.lt; omega⟩, ⟨set_os _ _ _ _, set_tape _ _ _ _, set_output _ _ _ _, by omega, fun y hy hn => set_other hn⟩⟩
structure Li (W : World) (v : V) (cs : List Value) : Prop where
  l : v.lies false W (Old W) cs
theorem Li.below {W W' : World} {v : V} {cs : List Value} (h : Li W v cs) (q : Below W.heap.size W W') : Li W' v cs := ⟨V.lies_keep (fun h => h) (fun y hy => q.block y hy) (fun y hy => Nat.lt_of_lt_of_le hy q.size) _ h.l⟩
structure Zb (W : World) (A : Nat) : Prop where
  b : W.heap[A]? = some (.cells #[.int .i64 0, .bool false, .int .i64 0, .string ⟨#[]⟩, .slice none 0 0, .slice none 0 0] 25)
  lt : A < W.heap.size
theorem Zb.below {W W' : World} {A : Nat} (h : Zb W A) (q : Below W.heap.size W W') : Zb W' A := ⟨(q.block A h.lt).trans h.b, Nat.lt_of_lt_of_le h.lt q.size⟩
theorem Zb.new (W : World) : Zb (W.alloc (.cells #[.int .i64 0, .bool false, .int .i64 0, .string ⟨#[]⟩, .slice none 0 0, .slice none 0 0] 25)) W.heap.size := ⟨heap_alloc_new W _, by rw [alloc_size]; exact Nat.lt_succ_self _⟩
structure Re (W : World) (v : V) (cs : List Value) (lo hi : Nat) : Prop where
  l : v.lies false W (fun y => lo ≤ y ∧ y < hi) cs
  lt : hi ≤ W.heap.size
theorem Re.below {W W' : World} {v : V} {cs : List Value} {lo hi : Nat} (h : Re W v cs lo hi) (q : Below W.heap.size W W') : Re W' v cs lo hi := ⟨V.lies_keep (fun h => h) (fun y hy => q.block y (by have := h.lt; omega)) (fun _ h => h) _ h.l, Nat.le_trans h.lt q.size⟩
theorem box_end {W : World} {A lo hi : Nat} {v : V} {d0 d1 d2 d3 d4 d5 : Value} (z : Zb W A) (r : Re W v [d0, d1, d2, d3, d4, d5] lo hi) (hA : A < lo ∨ hi ≤ A) : Bx ((((((W.setCell ⟨A, 0, none⟩ d0).setCell ⟨A, 1, none⟩ d1).setCell ⟨A, 2, none⟩ d2).setCell ⟨A, 3, none⟩ d3).setCell ⟨A, 4, none⟩ d4).setCell ⟨A, 5, none⟩ d5) A v [d0, d1, d2, d3, d4, d5] ∧ Ch (fun y => y = A) W ((((((W.setCell ⟨A, 0, none⟩ d0).setCell ⟨A, 1, none⟩ d1).setCell ⟨A, 2, none⟩ d2).setCell ⟨A, 3, none⟩ d3).setCell ⟨A, 4, none⟩ d4).setCell ⟨A, 5, none⟩ d5) := by
  have s : St6 A 0 6 25 W ((((((W.setCell ⟨A, 0, none⟩ d0).setCell ⟨A, 1, none⟩ d1).setCell ⟨A, 2, none⟩ d2).setCell ⟨A, 3, none⟩ d3).setCell ⟨A, 4, none⟩ d4).setCell ⟨A, 5, none⟩ d5) [d0, d1, d2, d3, d4, d5] := st6 (o := 0) ⟨_, z.b, rfl⟩ (by omega)
  generalize ((((((W.setCell ⟨A, 0, none⟩ d0).setCell ⟨A, 1, none⟩ d1).setCell ⟨A, 2, none⟩ d2).setCell ⟨A, 3, none⟩ d3).setCell ⟨A, 4, none⟩ d4).setCell ⟨A, 5, none⟩ d5) = W' at *
  have hs := s.size
  have h1 := z.lt
  have h2 := r.lt
  exact ⟨⟨s.r, by omega, V.lies_keep (fun h => h) (fun y hy => s.o_ y (by omega)) (fun y hy => by have := hy.2; show y < _; omega) _ r.l⟩, s.ch rfl⟩
theorem row7z {w : World} {b : Nat} {c c0 c1 c2 c3 c4 c5 : Value} (h : rowAt w b 0 [c, c0, c1, c2, c3, c4, c5]) : w.cell? ⟨b, 0, none⟩ = some c ∧ w.cell? ⟨b, 1, none⟩ = some c0 ∧ w.cell? ⟨b, 2, none⟩ = some c1 ∧ w.cell? ⟨b, 3, none⟩ = some c2 ∧ w.cell? ⟨b, 4, none⟩ = some c3 ∧ w.cell? ⟨b, 5, none⟩ = some c4 ∧ w.cell? ⟨b, 6, none⟩ = some c5 :=
  ⟨by simpa using h 0 _ rfl, by simpa using h 1 _ rfl, by simpa using h 2 _ rfl, by simpa using h 3 _ rfl, by simpa using h 4 _ rfl, by simpa using h 5 _ rfl, by simpa using h 6 _ rfl⟩
theorem build_two (k1 k2 : ByteArray) (a b : V) (g : Nat) (W : World) (tb : Tb W) (hl : liesM false W (Old W) [(k1, a), (k2, b)] g 0) (h1 : k1.size ≤ 140737488351233) (h2 : k2.size ≤ 140737488351233) (ha : a.wt ≤ 2147483648) (hb : b.wt ≤ 2147483648) :
    Calls Tryd.prog 10 #[.slice (some ⟨g, 0, none⟩) 2 2] W (VaPost (bvV [(k1, a), (k2, b)]).1 (bvV [(k1, a), (k2, b)]).2 W) :=
  (build_ap [(k1, a), (k2, b)] false (Old W) (some ⟨g, 0, none⟩) 2 g 0 W tb rfl hl (fun _ h => h) (by simp only [wtM]; omega) (fun y hy => by rcases List.mem_cons.1 hy with rfl | hy; (show k1.size ≤ _; omega); (rw [List.mem_singleton.1 hy]; show k2.size ≤ _; omega)) (fun y hy => by rcases List.mem_cons.1 hy with rfl | hy; (show a.wt ≤ _; omega); (rw [List.mem_singleton.1 hy]; show b.wt ≤ _; omega)) (by simp)).mono (fun e_ w_ h => bu_val (bu_of_bld h))
set_option maxHeartbeats 16000000 in
set_option maxRecDepth 100000 in
theorem lawnew_any (v x : V) (key : ByteArray) (S : Nat → Prop) (cs ds : List Value) (w : World) (tb : Tb w) (hv : v.lies false w S cs) (hx : x.lies false w S ds) (hS : ∀ b, S b → b < w.heap.size) (hkey : key.size ≤ 140737488351232) (hwt : v.wt ≤ 2147483648) (hwx : x.wt ≤ 2147483648) :
    Calls Tryd.prog 23 #[.agg cs.toArray, .string key, .agg ds.toArray] w (BPost true w) := by
  obtain ⟨tk, tbb, ti, ts, tal, tnl, tcl, tam, tnm, tcm, rfl⟩ := V.ten hv
  obtain ⟨pk, pb, pi, ps, pal, pnl, pcl, pam, pnm, pcm, rfl⟩ := V.ten hx
  have B0 : Below w.heap.size w ((w.alloc (.cells #[.int .i64 tk, .bool tbb, .int .i64 ti, .string ts, .slice tal tnl tcl, .slice tam tnm tcm] 25)).alloc (.cells #[.int .i64 pk, .bool pb, .int .i64 pi, .string ps, .slice pal pnl pcl, .slice pam pnm pcm] 25)) := two_below w _ _
  have XT : Bx ((w.alloc (.cells #[.int .i64 tk, .bool tbb, .int .i64 ti, .string ts, .slice tal tnl tcl, .slice tam tnm tcm] 25)).alloc (.cells #[.int .i64 pk, .bool pb, .int .i64 pi, .string ps, .slice pal pnl pcl, .slice pam pnm pcm] 25)) w.heap.size v [.int .i64 tk, .bool tbb, .int .i64 ti, .string ts, .slice tal tnl tcl, .slice tam tnm tcm] := (Bx.new hv hS).below ((Below.refl _ _).alloc (Nat.le_refl _) _)
  have hx1 : x.lies false (w.alloc (.cells #[.int .i64 tk, .bool tbb, .int .i64 ti, .string ts, .slice tal tnl tcl, .slice tam tnm tcm] 25)) (Old (w.alloc (.cells #[.int .i64 tk, .bool tbb, .int .i64 ti, .string ts, .slice tal tnl tcl, .slice tam tnm tcm] 25))) [.int .i64 pk, .bool pb, .int .i64 pi, .string ps, .slice pal pnl pcl, .slice pam pnm pcm] := V.lies_keep (fun h => h) (fun y hy => Below.heap_alloc w _ y (hS y hy)) (fun y hy => by show y < _; rw [alloc_size]; exact Nat.lt_succ_of_lt (hS y hy)) _ hx
  have XP : Bx ((w.alloc (.cells #[.int .i64 tk, .bool tbb, .int .i64 ti, .string ts, .slice tal tnl tcl, .slice tam tnm tcm] 25)).alloc (.cells #[.int .i64 pk, .bool pb, .int .i64 pi, .string ps, .slice pal pnl pcl, .slice pam pnm pcm] 25)) (w.heap.size + 1) x [.int .i64 pk, .bool pb, .int .i64 pi, .string ps, .slice pal pnl pcl, .slice pam pnm pcm] := by
    have h := Bx.new hx1 (fun _ h => h)
    rw [alloc_size] at h
    exact h
  have hz0 := B0.size
  have HTX : Hid (∀ W, Below (((w.alloc (.cells #[.int .i64 tk, .bool tbb, .int .i64 ti, .string ts, .slice tal tnl tcl, .slice tam tnm tcm] 25)).alloc (.cells #[.int .i64 pk, .bool pb, .int .i64 pi, .string ps, .slice pal pnl pcl, .slice pam pnm pcm] 25))).heap.size ((w.alloc (.cells #[.int .i64 tk, .bool tbb, .int .i64 ti, .string ts, .slice tal tnl tcl, .slice tam tnm tcm] 25)).alloc (.cells #[.int .i64 pk, .bool pb, .int .i64 pi, .string ps, .slice pal pnl pcl, .slice pam pnm pcm] 25)) W → Bx W w.heap.size v [.int .i64 tk, .bool tbb, .int .i64 ti, .string ts, .slice tal tnl tcl, .slice tam tnm tcm]) := fun W hb => XT.below hb
  have HPX : Hid (∀ W, Below (((w.alloc (.cells #[.int .i64 tk, .bool tbb, .int .i64 ti, .string ts, .slice tal tnl tcl, .slice tam tnm tcm] 25)).alloc (.cells #[.int .i64 pk, .bool pb, .int .i64 pi, .string ps, .slice pal pnl pcl, .slice pam pnm pcm] 25))).heap.size ((w.alloc (.cells #[.int .i64 tk, .bool tbb, .int .i64 ti, .string ts, .slice tal tnl tcl, .slice tam tnm tcm] 25)).alloc (.cells #[.int .i64 pk, .bool pb, .int .i64 pi, .string ps, .slice pal pnl pcl, .slice pam pnm pcm] 25)) W → Bx W (w.heap.size + 1) x [.int .i64 pk, .bool pb, .int .i64 pi, .string ps, .slice pal pnl pcl, .slice pam pnm pcm]) := fun W hb => XP.below hb
  have HT : Hid (∀ W, Below (((w.alloc (.cells #[.int .i64 tk, .bool tbb, .int .i64 ti, .string ts, .slice tal tnl tcl, .slice tam tnm tcm] 25)).alloc (.cells #[.int .i64 pk, .bool pb, .int .i64 pi, .string ps, .slice pal pnl pcl, .slice pam pnm pcm] 25))).heap.size ((w.alloc (.cells #[.int .i64 tk, .bool tbb, .int .i64 ti, .string ts, .slice tal tnl tcl, .slice tam tnm tcm] 25)).alloc (.cells #[.int .i64 pk, .bool pb, .int .i64 pi, .string ps, .slice pal pnl pcl, .slice pam pnm pcm] 25)) W → Tb W) := fun W hb => tb.below (B0.trans (hb.mono hz0)) tb.z
  have HEND : Hid (∀ W, Below (((w.alloc (.cells #[.int .i64 tk, .bool tbb, .int .i64 ti, .string ts, .slice tal tnl tcl, .slice tam tnm tcm] 25)).alloc (.cells #[.int .i64 pk, .bool pb, .int .i64 pi, .string ps, .slice pal pnl pcl, .slice pam pnm pcm] 25))).heap.size ((w.alloc (.cells #[.int .i64 tk, .bool tbb, .int .i64 ti, .string ts, .slice tal tnl tcl, .slice tam tnm tcm] 25)).alloc (.cells #[.int .i64 pk, .bool pb, .int .i64 pi, .string ps, .slice pal pnl pcl, .slice pam pnm pcm] 25)) W → BPost true w (.returned (.bool true)) W) := fun W hb => ⟨rfl, B0.trans (hb.mono hz0)⟩
  have hk2 : Hid (key2 key = key ++ (⟨#[50]⟩ : ByteArray)) := rfl
  have hk3 : Hid (key3 key = key ++ (⟨#[51]⟩ : ByteArray)) := rfl
  have HK2 : Hid ((key2 key).size = key.size + 1) := key2_size key
  have HK3 : Hid ((key3 key).size = key.size + 1) := key3_size key
  have hkc : ¬ 9223372036854775807 < key.size + 1 := by omega
  have HKM : Hid (140737488351233 ≤ maxLen) := by show _ ≤ _; decide
  clear hv hx hx1 tb XP
  obtain ⟨d0, d1, d2, d3, d4, d5⟩ := row6z XT.row
  go_enter Tryd.func23, Tryd.ntmps23
  go_wp2_with fail
  clear d0 d1 d2 d3 d4 d5
  clear XT B0
  generalize ((w.alloc (.cells #[.int .i64 tk, .bool tbb, .int .i64 ti, .string ts, .slice tal tnl tcl, .slice tam tnm tcm] 25)).alloc (.cells #[.int .i64 pk, .bool pb, .int .i64 pi, .string ps, .slice pal pnl pcl, .slice pam pnm pcm] 25)) = w0 at *
  have BZ : Below w0.heap.size w0 w0 := Below.refl _ _
  refine (twin_un v (Old w0) _ w0 (HTX.out _ BZ).lies (fun _ h => h) hwt).mono ?_
  rintro e_ w1 ⟨ci_, rfl, bw1, li_, ui_⟩
  obtain ⟨ik, ib, ii, is, ial, inl, icl, iam, inm, icm, rfl⟩ := V.ten li_
  have hzw1 := bw1.size
  have Bw1 := BZ.trans (bw1.mono (by omega))
  clear bw1
  have bzwa2 : Below w1.heap.size w1 (w1.alloc (.cells #[.int .i64 ik, .bool ib, .int .i64 ii, .string is, .slice ial inl icl, .slice iam inm icm] 25)) := one_belowG _ _
  have hltwa2 : w1.heap.size < (w1.alloc (.cells #[.int .i64 ik, .bool ib, .int .i64 ii, .string is, .slice ial inl icl, .slice iam inm icm] 25)).heap.size := by rw [alloc_size]; omega
  have XI : Tw (w1.alloc (.cells #[.int .i64 ik, .bool ib, .int .i64 ii, .string is, .slice ial inl icl, .slice iam inm icm] 25)) w1.heap.size w0.heap.size w1.heap.size v [.int .i64 ik, .bool ib, .int .i64 ii, .string is, .slice ial inl icl, .slice iam inm icm] := Tw.new li_ ui_ (Nat.le_refl _)
  have hzwa2 := bzwa2.size
  have Bwa2 := Bw1.trans (bzwa2.mono (by omega))
  obtain ⟨d0, d1, d2, d3, d4, d5⟩ := row6z XI.row
  go_wp2_with fail
  clear d0 d1 d2 d3 d4 d5
  generalize (w1.alloc (.cells #[.int .i64 ik, .bool ib, .int .i64 ii, .string is, .slice ial inl icl, .slice iam inm icm] 25)) = wa2 at *
  clear bzwa2
  clear li_ ui_
  have CA := check_wide false v 40 (Old wa2) _ wa2 (HT.out _ Bwa2) XI.bx.lies (fun _ h => h) (by omega)
  generalize chkE v 40 = r1 at CA
  refine CA.mono ?_
  clear CA
  rintro e_ w3 ⟨rfl, bw3⟩
  replace XI := XI.below bw3
  have hzw3 := bw3.size
  have Bw3 := Bwa2.trans (bw3.mono (by omega))
  clear bw3
  obtain ⟨d0, d1, d2, d3, d4, d5⟩ := row6z XI.row
  go_wp2_with fail
  clear d0 d1 d2 d3 d4 d5
  have CA := nodes_any false v (Old w3) _ w3 (HT.out _ Bw3) XI.bx.lies (fun _ h => h) (by omega)
  generalize sizN v = r2 at CA
  refine CA.mono ?_
  clear CA
  rintro e_ w4 ⟨rfl, bw4⟩
  replace XI := XI.below bw4
  have hzw4 := bw4.size
  have Bw4 := Bw3.trans (bw4.mono (by omega))
  clear bw4
  obtain ⟨d0, d1, d2, d3, d4, d5⟩ := row6z XI.row
  go_wp2_with fail
  clear d0 d1 d2 d3 d4 d5
  have CA := depth_any false v (Old w4) _ w4 (HT.out _ Bw4) XI.bx.lies (fun _ h => h) (by omega)
  generalize sizD v = r3 at CA
  refine CA.mono ?_
  clear CA
  rintro e_ w5 ⟨rfl, bw5⟩
  replace XI := XI.below bw5
  have hzw5 := bw5.size
  have Bw5 := Bw4.trans (bw5.mono (by omega))
  clear bw5
  obtain ⟨d0, d1, d2, d3, d4, d5⟩ := row6z XI.row
  obtain ⟨f0, f1, f2, f3, f4, f5⟩ := row6z (HPX.out _ Bw5).row
  go_wp2_with fail
  clear d0 d1 d2 d3 d4 d5
  clear f0 f1 f2 f3 f4 f5
  have CA := compare_any v x false false (Old w5) (Old w5) _ _ w5 (HT.out _ Bw5) XI.bx.lies (HPX.out _ Bw5).lies (fun _ h => h) (fun _ h => h) (by omega) (by omega)
  generalize cmpV v x = r4 at CA
  refine CA.mono ?_
  clear CA
  rintro e_ w6 ⟨rfl, bw6⟩
  replace XI := XI.below bw6
  have hzw6 := bw6.size
  have Bw6 := Bw5.trans (bw6.mono (by omega))
  clear bw6
  obtain ⟨d0, d1, d2, d3, d4, d5⟩ := row6z XI.row
  obtain ⟨f0, f1, f2, f3, f4, f5⟩ := row6z (HPX.out _ Bw6).row
  go_wp2_with fail
  clear d0 d1 d2 d3 d4 d5
  clear f0 f1 f2 f3 f4 f5
  have CA := equal_any v x false false (Old w6) (Old w6) _ _ w6 (HT.out _ Bw6) XI.bx.lies (HPX.out _ Bw6).lies (fun _ h => h) (fun _ h => h) (by omega) (by omega)
  generalize eqlV v x = r5 at CA
  refine CA.mono ?_
  clear CA
  rintro e_ w7 ⟨rfl, bw7⟩
  replace XI := XI.below bw7
  have hzw7 := bw7.size
  have Bw7 := Bw6.trans (bw7.mono (by omega))
  clear bw7
  obtain ⟨d0, d1, d2, d3, d4, d5⟩ := row6z XI.row
  go_wp2_with fail
  clear d0 d1 d2 d3 d4 d5
  have CA := scalar_any false v (Old w7) _ w7 (HT.out _ Bw7) XI.bx.lies (fun _ h => h) (by omega)
  generalize sizS v = r6 at CA
  refine CA.mono ?_
  clear CA
  rintro e_ w8 ⟨rfl, bw8⟩
  replace XI := XI.below bw8
  have hzw8 := bw8.size
  have Bw8 := Bw7.trans (bw8.mono (by omega))
  clear bw8
  obtain ⟨d0, d1, d2, d3, d4, d5⟩ := row6z XI.row
  obtain ⟨f0, f1, f2, f3, f4, f5⟩ := row6z (HPX.out _ Bw8).row
  go_wp2_with fail
  clear d0 d1 d2 d3 d4 d5
  clear f0 f1 f2 f3 f4 f5
  refine (answers_ap v x key (Old w8) _ _ w8 (HT.out _ Bw8) XI.bx.lies (HPX.out _ Bw8).lies (fun _ h => h) hkey hwt hwx).mono ?_
  rintro e_ w9 ⟨g_, e1_, e2_, rfl, _, _, _, _, _, _, bw9⟩
  replace XI := XI.below bw9
  have hzw9 := bw9.size
  have Bw9 := Bw8.trans (bw9.mono (by omega))
  clear bw9
  go_wp2_with fail
  have XTz := (HTX.out _ Bw9)
  have XPz := (HPX.out _ Bw9)
  refine wp_region_held_drew (S := fun W => Below w9.heap.size w9 W) (by kernel_rfl) ((Below.refl _ _).drew) (fun hHeld => ?_)
  (refine wpAnyH_take (i := 0) (v := ?_) rfl (by kernel_rfl) (by kernel_rfl) (by kernel_rfl) (fun _ _ _ h => h) (Or.inl ⟨by kernel_rfl, ?_⟩) (by assumption) ?_; rotate_left 1; (intro W0 hSw; (try dsimp only at hSw); go_simp; (try with_reducible rfl)); (try simp only [Act.put, List.setIfInBounds_toArray, List.set_cons_zero, List.set_cons_succ]))
  (refine wpAnyH_take (i := 1) (v := ?_) rfl (by kernel_rfl) (by kernel_rfl) (by kernel_rfl) (fun _ _ _ h => h) (Or.inl ⟨by kernel_rfl, ?_⟩) (by assumption) ?_; rotate_left 1; (intro W0 hSw; obtain ⟨z0, z1, z2, z3, z4, z5⟩ := row6z (XPz.below hSw).row; go_simp; (try with_reducible rfl)); (try simp only [Act.put, List.setIfInBounds_toArray, List.set_cons_zero, List.set_cons_succ]))
  (refine wpAnyH_take (i := 4) (v := ?_) rfl (by kernel_rfl) (by kernel_rfl) (by kernel_rfl) (fun _ _ _ h => h) (Or.inl ⟨by kernel_rfl, ?_⟩) (by assumption) ?_; rotate_left 1; (intro W0 hSw; (try dsimp only at hSw); go_simp; (try with_reducible rfl)); (try simp only [Act.put, List.setIfInBounds_toArray, List.set_cons_zero, List.set_cons_succ]))
  (refine wpAnyH_take (i := 5) (v := .string (key ++ (⟨#[50]⟩ : ByteArray))) rfl (by kernel_rfl) (by kernel_rfl) (by kernel_rfl) (fun _ _ _ h => h) (Or.inl ⟨by kernel_rfl, ?_⟩) (by assumption) ?_; (intro W0 hSw; go_simp; (try rw [if_neg hkc])); (try simp only [Act.put, List.setIfInBounds_toArray, List.set_cons_zero, List.set_cons_succ]))
  (refine wpAnyH_take (i := 6) (v := ?_) rfl (by kernel_rfl) (by kernel_rfl) (by kernel_rfl) (fun _ _ _ h => h) (Or.inl ⟨by kernel_rfl, ?_⟩) (by assumption) ?_; rotate_left 1; (intro W0 hSw; obtain ⟨z0, z1, z2, z3, z4, z5⟩ := row6z (XTz.below hSw).row; go_simp; (try with_reducible rfl)); (try simp only [Act.put, List.setIfInBounds_toArray, List.set_cons_zero, List.set_cons_succ]))
  refine wpAnyH_ready (rs := [2]) (by kernel_rfl) (by simp) ?_
  refine AllReadyH.cons rfl (fun K hK => ?_) AllReadyH.nil
  go_simp
  refine (twin_un x (Old w9.drew) _ w9.drew (XPz.below ((Below.refl w9.heap.size w9).drew)).lies (fun _ h => h) hwx).mono ?_
  rintro e wk1 ⟨csu, rfl, bu, lu_, _⟩
  have bk1 : Below w9.heap.size w9 wk1 := ((Below.refl w9.heap.size w9).drew).trans (bu.mono (((Below.refl w9.heap.size w9).drew)).size)
  obtain ⟨mk, mb, mi, ms, mal, mnl, mcl, mam, mnm, mcm, rfl⟩ := V.ten lu_
  have HL1 : Hid (∀ W, Below wk1.heap.size wk1 W → x.lies false W (Old W) [.int .i64 mk, .bool mb, .int .i64 mi, .string ms, .slice mal mnl mcl, .slice mam mnm mcm]) := fun W hb => V.lies_keep (fun h => h) (fun y hy => hb.block y hy.2) (fun y hy => Nat.lt_of_lt_of_le hy.2 hb.size) _ lu_
  clear lu_
  clear bu
  go_simp
  refine hK.out _ _ bk1 (fun hHeld => ?_)
  clear hK K
  (try simp only [Act.put, List.setIfInBounds_toArray, List.set_cons_zero, List.set_cons_succ])
  (refine wpAnyH_take (i := 3) (v := ?_) rfl (by kernel_rfl) (by kernel_rfl) (by kernel_rfl) (fun _ _ _ h => h) (Or.inl ⟨by kernel_rfl, ?_⟩) (by assumption) ?_; rotate_left 1; (intro W0 hSw; (try dsimp only at hSw); go_simp; (try with_reducible rfl)); (try simp only [Act.put, List.setIfInBounds_toArray, List.set_cons_zero, List.set_cons_succ]))
  refine wpAnyH_ready (rs := [7]) (by kernel_rfl) (by simp) ?_
  refine AllReadyH.cons rfl (fun K hK => ?_) AllReadyH.nil
  go_simp
  refine (twin_un v (Old wk1) _ wk1 (XTz.below bk1).lies (fun _ h => h) hwt).mono ?_
  rintro e wk2 ⟨csu, rfl, bu, lu_, _⟩
  have bk2 : Below w9.heap.size w9 wk2 := bk1.trans (bu.mono (bk1).size)
  obtain ⟨nk, nb, ni, ns, nal, nnl, ncl, nam, nnm, ncm, rfl⟩ := V.ten lu_
  have HL2 : Hid (x.lies false wk2 (Old wk2) [.int .i64 mk, .bool mb, .int .i64 mi, .string ms, .slice mal mnl mcl, .slice mam mnm mcm] ∧ v.lies false wk2 (Old wk2) [.int .i64 nk, .bool nb, .int .i64 ni, .string ns, .slice nal nnl ncl, .slice nam nnm ncm]) := ⟨HL1.out wk2 bu, V.lies_keep (fun h => h) (fun _ _ => rfl) (fun y hy => hy.2) _ lu_⟩
  clear lu_
  clear bu
  go_simp
  refine hK.out _ _ bk2 (fun hHeld => ?_)
  clear hK K
  (try simp only [Act.put, List.setIfInBounds_toArray, List.set_cons_zero, List.set_cons_succ])
  (refine wpAnyH_take (i := 8) (v := ?_) rfl (by kernel_rfl) (by kernel_rfl) (by kernel_rfl) (fun _ _ _ h => h) (Or.inl ⟨by kernel_rfl, ?_⟩) (by assumption) ?_; rotate_left 1; (intro W0 hSw; (try dsimp only at hSw); go_simp; (try with_reducible rfl)); (try simp only [Act.put, List.setIfInBounds_toArray, List.set_cons_zero, List.set_cons_succ]))
  have bM : Below wk2.heap.size wk2 (wk2.alloc (.cells #[.string key, .int .i64 mk, .bool mb, .int .i64 mi, .string ms, .slice mal mnl mcl, .slice mam mnm mcm, .string (key ++ (⟨#[50]⟩ : ByteArray)), .int .i64 nk, .bool nb, .int .i64 ni, .string ns, .slice nal nnl ncl, .slice nam nnm ncm] 38)) := one_belowG _ _
  have LS : Ls (wk2.alloc (.cells #[.string key, .int .i64 mk, .bool mb, .int .i64 mi, .string ms, .slice mal mnl mcl, .slice mam mnm mcm, .string (key ++ (⟨#[50]⟩ : ByteArray)), .int .i64 nk, .bool nb, .int .i64 ni, .string ns, .slice nal nnl ncl, .slice nam nnm ncm] 38)) wk2.heap.size key (key2 key) x v [.int .i64 mk, .bool mb, .int .i64 mi, .string ms, .slice mal mnl mcl, .slice mam mnm mcm] [.int .i64 nk, .bool nb, .int .i64 ni, .string ns, .slice nal nnl ncl, .slice nam nnm ncm] := Ls.new HL2.out.1 HL2.out.2
  have bk3 : Below w9.heap.size w9 (wk2.alloc (.cells #[.string key, .int .i64 mk, .bool mb, .int .i64 mi, .string ms, .slice mal mnl mcl, .slice mam mnm mcm, .string (key ++ (⟨#[50]⟩ : ByteArray)), .int .i64 nk, .bool nb, .int .i64 ni, .string ns, .slice nal nnl ncl, .slice nam nnm ncm] 38)) := bk2.trans (bM.mono bk2.size)
  refine wpAnyH_ready (rs := [9]) (by kernel_rfl) (by simp) ?_
  refine AllReadyH.cons rfl (fun K hK => ?_) AllReadyH.nil
  go_simp
  refine hK.out _ _ bk3 (fun hHeld => ?_)
  clear hK K
  (try simp only [Act.put, List.setIfInBounds_toArray, List.set_cons_zero, List.set_cons_succ])
  (refine wpAnyH_take (i := 10) (v := ?_) rfl (by kernel_rfl) (by kernel_rfl) (by kernel_rfl) (fun _ _ _ h => h) (Or.inl ⟨by kernel_rfl, ?_⟩) (by assumption) ?_; rotate_left 1; (intro W0 hSw; (try dsimp only at hSw); go_simp; (try with_reducible rfl)); (try simp only [Act.put, List.setIfInBounds_toArray, List.set_cons_zero, List.set_cons_succ]))
  refine wpAnyH_done (by kernel_rfl) ?_ _
  (try dsimp only [Act.put, List.getElem_toArray, List.getElem_cons_succ, List.getElem_cons_zero, List.setIfInBounds_toArray, List.set_cons_zero, List.set_cons_succ])
  clear hHeld
  clear HL1 HL2 XTz XPz bM
  have hlk2 := bk2.size
  have hlk3 : wk2.heap.size < (wk2.alloc (.cells #[.string key, .int .i64 mk, .bool mb, .int .i64 mi, .string ms, .slice mal mnl mcl, .slice mam mnm mcm, .string (key ++ (⟨#[50]⟩ : ByteArray)), .int .i64 nk, .bool nb, .int .i64 ni, .string ns, .slice nal nnl ncl, .slice nam nnm ncm] 38)).heap.size := by rw [alloc_size]; omega
  generalize (wk2.alloc (.cells #[.string key, .int .i64 mk, .bool mb, .int .i64 mi, .string ms, .slice mal mnl mcl, .slice mam mnm mcm, .string (key ++ (⟨#[50]⟩ : ByteArray)), .int .i64 nk, .bool nb, .int .i64 ni, .string ns, .slice nal nnl ncl, .slice nam nnm ncm] 38)) = wL at *
  replace XI := XI.below bk3
  have hzwL := bk3.size
  have BwL := Bw9.trans (bk3.mono (by omega))
  clear bk1 bk2 bk3
  go_wp2_with fail
  have CA := build_two key (key2 key) x v wk2.heap.size wL (HT.out _ BwL) (LS.lm (by have := HKM.out; omega) (by have := HKM.out; have := HK2.out; omega)) (by omega) (by have := HK2.out; omega) hwx hwt
  generalize bvV [(key, x), (key2 key, v)] = RB at CA
  refine CA.mono ?_
  clear CA
  rintro e_ w10 ⟨cq_, rfl, lq_, bw10⟩
  obtain ⟨qk, qb, qi, qs, qal, qnl, qcl, qam, qnm, qcm, rfl⟩ := V.ten (V.ap_lies _ lq_)
  clear lq_
  replace XI := XI.below bw10
  replace LS := LS.below bw10
  have hzw10 := bw10.size
  have Bw10 := BwL.trans (bw10.mono (by omega))
  clear bw10
  obtain ⟨d0, d1, d2, d3, d4, d5⟩ := row6z (HTX.out _ Bw10).row
  go_wp2_with fail
  clear d0 d1 d2 d3 d4 d5
  refine (twin_un v (Old w10) _ w10 (HTX.out _ Bw10).lies (fun _ h => h) hwt).mono ?_
  rintro e_ w11 ⟨cj_, rfl, bw11, lj_, _⟩
  obtain ⟨jk, jb, ji, js, jal, jnl, jcl, jam, jnm, jcm, rfl⟩ := V.ten lj_
  replace XI := XI.below bw11
  replace LS := LS.below bw11
  have hzw11 := bw11.size
  have Bw11 := Bw10.trans (bw11.mono (by omega))
  clear bw11
  have hLl := LS.lt
  have fz : ∀ ii, w11.frozen? ⟨wk2.heap.size, ii, none⟩ = false := frozen_of_block LS.k.choose_spec.1
  obtain ⟨m0_, m1_, m2_, m3_, m4_, m5_, m6_⟩ := row7z LS.r1
  have LV := LS.val (x := v) (V.lies_keep (fun h => h) (fun _ _ => rfl) (fun y hy => ⟨hy.2, by have := hy.1; omega⟩) _ lj_) rfl
  obtain ⟨LV1, chv⟩ := LV
  have LK := LV1.key (k3 := key3 key) rfl
  obtain ⟨LK1, chk_⟩ := LK
  have chz := chv.trans chk_
  have f7 : ∀ W, W = (((((((w11.setCell ⟨wk2.heap.size, 1, none⟩ (.int .i64 jk)).setCell ⟨wk2.heap.size, 2, none⟩ (.bool jb)).setCell ⟨wk2.heap.size, 3, none⟩ (.int .i64 ji)).setCell ⟨wk2.heap.size, 4, none⟩ (.string js)).setCell ⟨wk2.heap.size, 5, none⟩ (.slice jal jnl jcl)).setCell ⟨wk2.heap.size, 6, none⟩ (.slice jam jnm jcm))) → W.frozen? ⟨wk2.heap.size, 7, none⟩ = false := fun W e => by subst e; exact frozen_of_block LV1.k.choose_spec.1 7
  have c7 : (((((((w11.setCell ⟨wk2.heap.size, 1, none⟩ (.int .i64 jk)).setCell ⟨wk2.heap.size, 2, none⟩ (.bool jb)).setCell ⟨wk2.heap.size, 3, none⟩ (.int .i64 ji)).setCell ⟨wk2.heap.size, 4, none⟩ (.string js)).setCell ⟨wk2.heap.size, 5, none⟩ (.slice jal jnl jcl)).setCell ⟨wk2.heap.size, 6, none⟩ (.slice jam jnm jcm))).cell? ⟨wk2.heap.size, 7, none⟩ = some (.string (key2 key)) := (row_tail LV1.r2).1
  have f7' := f7 _ rfl
  have HLK := hmk LK1
  have HCZ := hmk chz
  clear LV1 LK1 chv chk_ chz lj_ f7
  rw [hk3.out] at HLK HCZ
  go_wp2_with fail
  clear m0_ m1_ m2_ m3_ m4_ m5_ m6_ fz c7 f7' LS
  rw [← hk3.out] at HLK HCZ ⊢
  generalize ((((((((w11.setCell ⟨wk2.heap.size, 1, none⟩ (.int .i64 jk)).setCell ⟨wk2.heap.size, 2, none⟩ (.bool jb)).setCell ⟨wk2.heap.size, 3, none⟩ (.int .i64 ji)).setCell ⟨wk2.heap.size, 4, none⟩ (.string js)).setCell ⟨wk2.heap.size, 5, none⟩ (.slice jal jnl jcl)).setCell ⟨wk2.heap.size, 6, none⟩ (.slice jam jnm jcm))).setCell ⟨wk2.heap.size, 7, none⟩ (.string (key3 key))) = wS at *
  have LS := HLK.out
  have chz := HCZ.out
  clear HLK HCZ
  have hzwS := chz.size
  have hxl_ := XI.lt
  have hxb_ := XI.hb
  have XI2 := XI.ch chz (fun y hy => by omega)
  have BwS := Ch.bel Bw11 chz (fun y hy => by omega) (by omega)
  clear chz XI hLl hxl_ hxb_
  have XI := XI2
  clear XI2
  have CA := build_two key (key3 key) v v wk2.heap.size wS (HT.out _ BwS) (LS.lm (by have := HKM.out; omega) (by have := HKM.out; have := HK3.out; omega)) (by omega) (by have := HK3.out; omega) hwt hwt
  obtain ⟨⟨fa, ea⟩, hfa⟩ : ∃ q, bvV [(key, v), (key3 key, v)] = q := ⟨_, rfl⟩
  have HFA := hmk hfa
  clear hfa LS
  rw [HFA.out] at CA
  refine CA.mono ?_
  clear CA
  rintro e_ w12 ⟨cq_, rfl, la_, bw12⟩
  try simp only at la_
  obtain ⟨yk, yb, yi, ys, yal, ynl, ycl, yam, ynm, ycm, rfl⟩ := V.ten (V.ap_lies _ la_)
  replace XI := XI.below bw12
  have hzw12 := bw12.size
  have Bw12 := BwS.trans (bw12.mono (by omega))
  clear bw12
  have bzwa13 : Below w12.heap.size w12 (w12.alloc (.cells #[.int .i64 yk, .bool yb, .int .i64 yi, .string ys, .slice yal ynl ycl, .slice yam ynm ycm] 25)) := one_belowG _ _
  have hltwa13 : w12.heap.size < (w12.alloc (.cells #[.int .i64 yk, .bool yb, .int .i64 yi, .string ys, .slice yal ynl ycl, .slice yam ynm ycm] 25)).heap.size := by rw [alloc_size]; omega
  have XA : Bx (w12.alloc (.cells #[.int .i64 yk, .bool yb, .int .i64 yi, .string ys, .slice yal ynl ycl, .slice yam ynm ycm] 25)) w12.heap.size fa [.int .i64 yk, .bool yb, .int .i64 yi, .string ys, .slice yal ynl ycl, .slice yam ynm ycm] := Bx.new (V.ap_lies _ la_) (fun y hy => hy.2)
  replace XI := XI.below bzwa13
  have hzwa13 := bzwa13.size
  have Bwa13 := Bw12.trans (bzwa13.mono (by omega))
  go_wp2_with fail
  generalize (w12.alloc (.cells #[.int .i64 yk, .bool yb, .int .i64 yi, .string ys, .slice yal ynl ycl, .slice yam ynm ycm] 25)) = wa13 at *
  clear bzwa13
  clear la_
  have XTz := (HTX.out _ Bwa13)
  have HTz : Hid (∀ W, Below wa13.heap.size wa13 W → Tb W) := fun W hb => HT.out _ (Bwa13.trans (hb.mono Bwa13.size))
  have HCL : Hid (∀ W, Below wa13.heap.size wa13 W → ∀ L, liesM false W (Old W) [(key, v), (key3 key, v)] L 0 → Calls Tryd.prog 10 #[.slice (some ⟨L, 0, none⟩) 2 2] W (VaPost fa ea W)) := fun W hb L hl => by
    have h := build_two key (key3 key) v v L W (HTz.out W hb) hl (by omega) (by have := HK3.out; omega) hwt hwt
    rw [HFA.out] at h
    exact h
  have HKL : Hid (key.size ≤ maxLen ∧ (key3 key).size ≤ maxLen) := ⟨by have := HKM.out; omega, by have := HKM.out; have := HK3.out; omega⟩
  have B_0 : Below wa13.heap.size wa13 wa13.drew := (Below.refl _ _).drew
  go_cut [11, 12] (fun e11 e12 wx => ∃ (A_ : Nat) (gk : Int) (gb : Bool) (gi : Int) (gs : ByteArray) (gal : Option Addr) (gnl gcl : Nat) (gam : Option Addr) (gnm gcm : Nat), e11 = .pointer (some ⟨A_, 0, none⟩) ∧ e12 = .int .i64 (ea : Int) ∧ Hid (Below wa13.heap.size wa13 wx ∧ Bx wx A_ fa [.int .i64 gk, .bool gb, .int .i64 gi, .string gs, .slice gal gnl gcl, .slice gam gnm gcm]))
  case first =>
    refine wp_region_held_drew (S := fun W => Below wa13.heap.size wa13 W) (by kernel_rfl) B_0 (fun hHeld => ?_)
    (refine wpAnyH_take (i := 0) (v := ?_) rfl (by kernel_rfl) (by kernel_rfl) (by kernel_rfl) (fun _ _ _ h => h) (Or.inl ⟨by kernel_rfl, ?_⟩) (by assumption) ?_; rotate_left 1; (intro W0 hSw; (try dsimp only at hSw); go_simp; (try with_reducible rfl)); (try simp only [Act.put, List.setIfInBounds_toArray, List.set_cons_zero, List.set_cons_succ]))
    (refine wpAnyH_take (i := 1) (v := ?_) rfl (by kernel_rfl) (by kernel_rfl) (by kernel_rfl) (fun _ _ _ h => h) (Or.inl ⟨by kernel_rfl, ?_⟩) (by assumption) ?_; rotate_left 1; (intro W0 hSw; obtain ⟨z0, z1, z2, z3, z4, z5⟩ := row6z (XTz.below hSw).row; go_simp; (try with_reducible rfl)); (try simp only [Act.put, List.setIfInBounds_toArray, List.set_cons_zero, List.set_cons_succ]))
    (refine wpAnyH_take (i := 4) (v := ?_) rfl (by kernel_rfl) (by kernel_rfl) (by kernel_rfl) (fun _ _ _ h => h) (Or.inl ⟨by kernel_rfl, ?_⟩) (by assumption) ?_; rotate_left 1; (intro W0 hSw; (try dsimp only at hSw); go_simp; (try with_reducible rfl)); (try simp only [Act.put, List.setIfInBounds_toArray, List.set_cons_zero, List.set_cons_succ]))
    (refine wpAnyH_take (i := 5) (v := .string (key ++ (⟨#[51]⟩ : ByteArray))) rfl (by kernel_rfl) (by kernel_rfl) (by kernel_rfl) (fun _ _ _ h => h) (Or.inl ⟨by kernel_rfl, ?_⟩) (by assumption) ?_; (intro W0 hSw; go_simp; (try rw [if_neg hkc])); (try simp only [Act.put, List.setIfInBounds_toArray, List.set_cons_zero, List.set_cons_succ]))
    (refine wpAnyH_take (i := 6) (v := ?_) rfl (by kernel_rfl) (by kernel_rfl) (by kernel_rfl) (fun _ _ _ h => h) (Or.inl ⟨by kernel_rfl, ?_⟩) (by assumption) ?_; rotate_left 1; (intro W0 hSw; obtain ⟨z0, z1, z2, z3, z4, z5⟩ := row6z (XTz.below hSw).row; go_simp; (try with_reducible rfl)); (try simp only [Act.put, List.setIfInBounds_toArray, List.set_cons_zero, List.set_cons_succ]))
    generalize wa13.drew = wd at *
    have hzwd := B_0.size
    refine wpAnyH_ready (rs := [2, 14]) (by kernel_rfl) (by simp) ?_
    refine (AllReadyH.cons rfl (fun K hK => ?_) (AllReadyH.cons rfl (fun K hK => ?_) AllReadyH.nil))
    · skip
      go_simp
      refine (twin_un v (Old wd) _ wd (XTz.below B_0).lies (fun _ h => h) hwt).mono ?_
      rintro e_ wq1 ⟨csu, rfl, bu, lu_, _⟩
      obtain ⟨mk, mb, mi, ms, mal, mnl, mcl, mam, mnm, mcm, rfl⟩ := V.ten lu_
      have hltwq1 := bu.size
      have M_1 : Li wq1 v [.int .i64 mk, .bool mb, .int .i64 mi, .string ms, .slice mal mnl mcl, .slice mam mnm mcm] := ⟨V.lies_keep (fun h => h) (fun _ _ => rfl) (fun y hy => hy.2) _ lu_⟩
      have B_1 : Below wa13.heap.size wa13 wq1 := B_0.trans (bu.mono B_0.size)
      refine hK.out _ _ B_1 (fun hHeld => ?_)
      clear hK K bu lu_
      (try simp only [Act.put, List.setIfInBounds_toArray, List.set_cons_zero, List.set_cons_succ])
      (refine wpAnyH_take (i := 3) (v := ?_) rfl (by kernel_rfl) (by kernel_rfl) (by kernel_rfl) (fun _ _ _ h => h) (Or.inl ⟨by kernel_rfl, ?_⟩) (by assumption) ?_; rotate_left 1; (intro W0 hSw; (try dsimp only at hSw); go_simp; (try with_reducible rfl)); (try simp only [Act.put, List.setIfInBounds_toArray, List.set_cons_zero, List.set_cons_succ]))
      refine wpAnyH_ready (rs := [7, 14]) (by kernel_rfl) (by simp) ?_
      refine (AllReadyH.cons rfl (fun K hK => ?_) (AllReadyH.cons rfl (fun K hK => ?_) AllReadyH.nil))
      · skip
        go_simp
        refine (twin_un v (Old wq1) _ wq1 (XTz.below B_1).lies (fun _ h => h) hwt).mono ?_
        rintro e_ wq2 ⟨csu, rfl, bu, lu_, _⟩
        obtain ⟨nk, nb, ni, ns, nal, nnl, ncl, nam, nnm, ncm, rfl⟩ := V.ten lu_
        have hltwq2 := bu.size
        have M_2 := M_1.below bu
        have N_2 : Li wq2 v [.int .i64 nk, .bool nb, .int .i64 ni, .string ns, .slice nal nnl ncl, .slice nam nnm ncm] := ⟨V.lies_keep (fun h => h) (fun _ _ => rfl) (fun y hy => hy.2) _ lu_⟩
        have B_2 : Below wa13.heap.size wa13 wq2 := B_1.trans (bu.mono B_1.size)
        refine hK.out _ _ B_2 (fun hHeld => ?_)
        clear hK K bu lu_
        (try simp only [Act.put, List.setIfInBounds_toArray, List.set_cons_zero, List.set_cons_succ])
        (refine wpAnyH_take (i := 8) (v := ?_) rfl (by kernel_rfl) (by kernel_rfl) (by kernel_rfl) (fun _ _ _ h => h) (Or.inl ⟨by kernel_rfl, ?_⟩) (by assumption) ?_; rotate_left 1; (intro W0 hSw; (try dsimp only at hSw); go_simp; (try with_reducible rfl)); (try simp only [Act.put, List.setIfInBounds_toArray, List.set_cons_zero, List.set_cons_succ]))
        refine wpAnyH_ready (rs := [9, 14]) (by kernel_rfl) (by simp) ?_
        refine (AllReadyH.cons rfl (fun K hK => ?_) (AllReadyH.cons rfl (fun K hK => ?_) AllReadyH.nil))
        · skip
          have bz : Below wq2.heap.size wq2 (wq2.alloc (.cells #[.string key, .int .i64 mk, .bool mb, .int .i64 mi, .string ms, .slice mal mnl mcl, .slice mam mnm mcm, .string (key ++ (⟨#[51]⟩ : ByteArray)), .int .i64 nk, .bool nb, .int .i64 ni, .string ns, .slice nal nnl ncl, .slice nam nnm ncm] 38)) := one_belowG _ _
          have hltwq3 : wq2.heap.size < (wq2.alloc (.cells #[.string key, .int .i64 mk, .bool mb, .int .i64 mi, .string ms, .slice mal mnl mcl, .slice mam mnm mcm, .string (key ++ (⟨#[51]⟩ : ByteArray)), .int .i64 nk, .bool nb, .int .i64 ni, .string ns, .slice nal nnl ncl, .slice nam nnm ncm] 38)).heap.size := by rw [alloc_size]; omega
          have L_3 : Ls (wq2.alloc (.cells #[.string key, .int .i64 mk, .bool mb, .int .i64 mi, .string ms, .slice mal mnl mcl, .slice mam mnm mcm, .string (key ++ (⟨#[51]⟩ : ByteArray)), .int .i64 nk, .bool nb, .int .i64 ni, .string ns, .slice nal nnl ncl, .slice nam nnm ncm] 38)) wq2.heap.size key (key3 key) v v [.int .i64 mk, .bool mb, .int .i64 mi, .string ms, .slice mal mnl mcl, .slice mam mnm mcm] [.int .i64 nk, .bool nb, .int .i64 ni, .string ns, .slice nal nnl ncl, .slice nam nnm ncm] := Ls.new M_2.l N_2.l
          have B_3 : Below wa13.heap.size wa13 (wq2.alloc (.cells #[.string key, .int .i64 mk, .bool mb, .int .i64 mi, .string ms, .slice mal mnl mcl, .slice mam mnm mcm, .string (key ++ (⟨#[51]⟩ : ByteArray)), .int .i64 nk, .bool nb, .int .i64 ni, .string ns, .slice nal nnl ncl, .slice nam nnm ncm] 38)) := B_2.trans (bz.mono B_2.size)
          go_simp
          refine hK.out _ _ B_3 (fun hHeld => ?_)
          clear hK K bz
          (try simp only [Act.put, List.setIfInBounds_toArray, List.set_cons_zero, List.set_cons_succ])
          generalize (wq2.alloc (.cells #[.string key, .int .i64 mk, .bool mb, .int .i64 mi, .string ms, .slice mal mnl mcl, .slice mam mnm mcm, .string (key ++ (⟨#[51]⟩ : ByteArray)), .int .i64 nk, .bool nb, .int .i64 ni, .string ns, .slice nal nnl ncl, .slice nam nnm ncm] 38)) = wq3 at *
          refine wpAnyH_ready (rs := [10, 14]) (by kernel_rfl) (by simp) ?_
          refine (AllReadyH.cons rfl (fun K hK => ?_) (AllReadyH.cons rfl (fun K hK => ?_) AllReadyH.nil))
          · skip
            go_simp
            refine (HCL.out wq3 B_3 _ (L_3.lm HKL.out.1 HKL.out.2)).mono ?_
            rintro e_ wq4 ⟨csu, rfl, lu_, bu⟩
            obtain ⟨gk, gb, gi, gs, gal, gnl, gcl, gam, gnm, gcm, rfl⟩ := V.ten (V.ap_lies _ lu_)
            have hltwq4 := bu.size
            have R_4 : Re wq4 fa [.int .i64 gk, .bool gb, .int .i64 gi, .string gs, .slice gal gnl gcl, .slice gam gnm gcm] wq3.heap.size wq4.heap.size := ⟨V.ap_lies _ lu_, Nat.le_refl _⟩
            have B_4 : Below wa13.heap.size wa13 wq4 := B_3.trans (bu.mono B_3.size)
            refine hK.out _ _ B_4 (fun hHeld => ?_)
            clear hK K bu lu_
            (try simp only [Act.put, List.setIfInBounds_toArray, List.set_cons_zero, List.set_cons_succ])
            (refine wpAnyH_take (i := 11) (v := ?_) rfl (by kernel_rfl) (by kernel_rfl) (by kernel_rfl) (fun _ _ _ h => h) (Or.inl ⟨by kernel_rfl, ?_⟩) (by assumption) ?_; rotate_left 1; (intro W0 hSw; (try dsimp only at hSw); go_simp; (try with_reducible rfl)); (try simp only [Act.put, List.setIfInBounds_toArray, List.set_cons_zero, List.set_cons_succ]))
            (refine wpAnyH_take (i := 12) (v := ?_) rfl (by kernel_rfl) (by kernel_rfl) (by kernel_rfl) (fun _ _ _ h => h) (Or.inl ⟨by kernel_rfl, ?_⟩) (by assumption) ?_; rotate_left 1; (intro W0 hSw; (try dsimp only at hSw); go_simp; (try with_reducible rfl)); (try simp only [Act.put, List.setIfInBounds_toArray, List.set_cons_zero, List.set_cons_succ]))
            (refine wpAnyH_take (i := 13) (v := ?_) rfl (by kernel_rfl) (by kernel_rfl) (by kernel_rfl) (fun _ _ _ h => h) (Or.inl ⟨by kernel_rfl, ?_⟩) (by assumption) ?_; rotate_left 1; (intro W0 hSw; (try dsimp only at hSw); go_simp; (try with_reducible rfl)); (try simp only [Act.put, List.setIfInBounds_toArray, List.set_cons_zero, List.set_cons_succ]))
            refine wpAnyH_ready (rs := [14]) (by kernel_rfl) (by simp) ?_
            refine (AllReadyH.cons rfl (fun K hK => ?_) AllReadyH.nil)
            · skip
              have bz : Below wq4.heap.size wq4 (wq4.alloc (.cells #[.int .i64 0, .bool false, .int .i64 0, .string ⟨#[]⟩, .slice none 0 0, .slice none 0 0] 25)) := one_belowG _ _
              have hltwq5 : wq4.heap.size < (wq4.alloc (.cells #[.int .i64 0, .bool false, .int .i64 0, .string ⟨#[]⟩, .slice none 0 0, .slice none 0 0] 25)).heap.size := by rw [alloc_size]; omega
              have R_5 := R_4.below bz
              have Z_5 := Zb.new wq4
              have B_5 : Below wa13.heap.size wa13 (wq4.alloc (.cells #[.int .i64 0, .bool false, .int .i64 0, .string ⟨#[]⟩, .slice none 0 0, .slice none 0 0] 25)) := B_4.trans (bz.mono B_4.size)
              go_simp
              refine hK.out _ _ B_5 (fun hHeld => ?_)
              clear hK K bz
              (try simp only [Act.put, List.setIfInBounds_toArray, List.set_cons_zero, List.set_cons_succ])
              generalize (wq4.alloc (.cells #[.int .i64 0, .bool false, .int .i64 0, .string ⟨#[]⟩, .slice none 0 0, .slice none 0 0] 25)) = wq5 at *
              have ZA := Z_5
              have RS := R_5
              have BE := box_end ZA RS (by omega)
              have kb := ZA.b
              have hcb_ := B_5.size
              have hA_ : wa13.heap.size ≤ wq4.heap.size := by omega
              generalize wq4.heap.size = A_ at BE kb hA_ ⊢
              have p0 : wq5.cell? ⟨A_, 0, none⟩ = some (.int .i64 0) := by rw [cell_of_block kb]; rfl
              have p1 : wq5.cell? ⟨A_, 1, none⟩ = some (.bool false) := by rw [cell_of_block kb]; rfl
              have p2 : wq5.cell? ⟨A_, 2, none⟩ = some (.int .i64 0) := by rw [cell_of_block kb]; rfl
              have p3 : wq5.cell? ⟨A_, 3, none⟩ = some (.string ⟨#[]⟩) := by rw [cell_of_block kb]; rfl
              have p4 : wq5.cell? ⟨A_, 4, none⟩ = some (.slice none 0 0) := by rw [cell_of_block kb]; rfl
              have p5 : wq5.cell? ⟨A_, 5, none⟩ = some (.slice none 0 0) := by rw [cell_of_block kb]; rfl
              have fp := frozen_of_block kb
              have BE2 := Ch.bel B_5 BE.2 (fun y hy => by omega) B_5.size
              have RM := hmk (And.intro BE2 BE.1)
              refine wpAnyH_ready (rs := [15]) (by kernel_rfl) (by simp) ?_
              refine AllReadyH.cons rfl (fun K hK => ?_) AllReadyH.nil
              go_simp
              refine hK.out _ _ BE2 (fun hHeld => ?_)
              clear hK K
              (try simp only [Act.put, List.setIfInBounds_toArray, List.set_cons_zero, List.set_cons_succ])
              (refine wpAnyH_take (i := 16) (v := ?_) rfl (by kernel_rfl) (by kernel_rfl) (by kernel_rfl) (fun _ _ _ h => h) (Or.inl ⟨by kernel_rfl, ?_⟩) (by assumption) ?_; rotate_left 1; (intro W0 hSw; (try dsimp only at hSw); go_simp; (try with_reducible rfl)); (try simp only [Act.put, List.setIfInBounds_toArray, List.set_cons_zero, List.set_cons_succ]))
              refine wpAnyH_done (by kernel_rfl) ?_ _
              (try dsimp only [Act.put, List.getElem_toArray, List.getElem_cons_succ, List.getElem_cons_zero, List.setIfInBounds_toArray, List.set_cons_zero, List.set_cons_succ])
              clear hHeld BE BE2 p0 p1 p2 p3 p4 p5 fp kb
              (try go_wp2_with fail)
              go_meet
              case rel => exact ⟨_, _, _, _, _, _, _, _, _, _, _, rfl, rfl, RM⟩
          · skip
            have bz : Below wq3.heap.size wq3 (wq3.alloc (.cells #[.int .i64 0, .bool false, .int .i64 0, .string ⟨#[]⟩, .slice none 0 0, .slice none 0 0] 25)) := one_belowG _ _
            have hltwq6 : wq3.heap.size < (wq3.alloc (.cells #[.int .i64 0, .bool false, .int .i64 0, .string ⟨#[]⟩, .slice none 0 0, .slice none 0 0] 25)).heap.size := by rw [alloc_size]; omega
            have L_6 := L_3.below bz
            have Z_6 := Zb.new wq3
            have B_6 : Below wa13.heap.size wa13 (wq3.alloc (.cells #[.int .i64 0, .bool false, .int .i64 0, .string ⟨#[]⟩, .slice none 0 0, .slice none 0 0] 25)) := B_3.trans (bz.mono B_3.size)
            go_simp
            refine hK.out _ _ B_6 (fun hHeld => ?_)
            clear hK K bz
            (try simp only [Act.put, List.setIfInBounds_toArray, List.set_cons_zero, List.set_cons_succ])
            generalize (wq3.alloc (.cells #[.int .i64 0, .bool false, .int .i64 0, .string ⟨#[]⟩, .slice none 0 0, .slice none 0 0] 25)) = wq6 at *
            refine wpAnyH_ready (rs := [10]) (by kernel_rfl) (by simp) ?_
            refine (AllReadyH.cons rfl (fun K hK => ?_) AllReadyH.nil)
            · skip
              go_simp
              refine (HCL.out wq6 B_6 _ (L_6.lm HKL.out.1 HKL.out.2)).mono ?_
              rintro e_ wq7 ⟨csu, rfl, lu_, bu⟩
              obtain ⟨gk, gb, gi, gs, gal, gnl, gcl, gam, gnm, gcm, rfl⟩ := V.ten (V.ap_lies _ lu_)
              have hltwq7 := bu.size
              have Z_7 := Z_6.below bu
              have R_7 : Re wq7 fa [.int .i64 gk, .bool gb, .int .i64 gi, .string gs, .slice gal gnl gcl, .slice gam gnm gcm] wq6.heap.size wq7.heap.size := ⟨V.ap_lies _ lu_, Nat.le_refl _⟩
              have B_7 : Below wa13.heap.size wa13 wq7 := B_6.trans (bu.mono B_6.size)
              refine hK.out _ _ B_7 (fun hHeld => ?_)
              clear hK K bu lu_
              (try simp only [Act.put, List.setIfInBounds_toArray, List.set_cons_zero, List.set_cons_succ])
              (refine wpAnyH_take (i := 11) (v := ?_) rfl (by kernel_rfl) (by kernel_rfl) (by kernel_rfl) (fun _ _ _ h => h) (Or.inl ⟨by kernel_rfl, ?_⟩) (by assumption) ?_; rotate_left 1; (intro W0 hSw; (try dsimp only at hSw); go_simp; (try with_reducible rfl)); (try simp only [Act.put, List.setIfInBounds_toArray, List.set_cons_zero, List.set_cons_succ]))
              (refine wpAnyH_take (i := 12) (v := ?_) rfl (by kernel_rfl) (by kernel_rfl) (by kernel_rfl) (fun _ _ _ h => h) (Or.inl ⟨by kernel_rfl, ?_⟩) (by assumption) ?_; rotate_left 1; (intro W0 hSw; (try dsimp only at hSw); go_simp; (try with_reducible rfl)); (try simp only [Act.put, List.setIfInBounds_toArray, List.set_cons_zero, List.set_cons_succ]))
              (refine wpAnyH_take (i := 13) (v := ?_) rfl (by kernel_rfl) (by kernel_rfl) (by kernel_rfl) (fun _ _ _ h => h) (Or.inl ⟨by kernel_rfl, ?_⟩) (by assumption) ?_; rotate_left 1; (intro W0 hSw; (try dsimp only at hSw); go_simp; (try with_reducible rfl)); (try simp only [Act.put, List.setIfInBounds_toArray, List.set_cons_zero, List.set_cons_succ]))
              have ZA := Z_7
              have RS := R_7
              have BE := box_end ZA RS (by omega)
              have kb := ZA.b
              have hcb_ := B_7.size
              have hA_ : wa13.heap.size ≤ wq3.heap.size := by omega
              generalize wq3.heap.size = A_ at BE kb hA_ ⊢
              have p0 : wq7.cell? ⟨A_, 0, none⟩ = some (.int .i64 0) := by rw [cell_of_block kb]; rfl
              have p1 : wq7.cell? ⟨A_, 1, none⟩ = some (.bool false) := by rw [cell_of_block kb]; rfl
              have p2 : wq7.cell? ⟨A_, 2, none⟩ = some (.int .i64 0) := by rw [cell_of_block kb]; rfl
              have p3 : wq7.cell? ⟨A_, 3, none⟩ = some (.string ⟨#[]⟩) := by rw [cell_of_block kb]; rfl
              have p4 : wq7.cell? ⟨A_, 4, none⟩ = some (.slice none 0 0) := by rw [cell_of_block kb]; rfl
              have p5 : wq7.cell? ⟨A_, 5, none⟩ = some (.slice none 0 0) := by rw [cell_of_block kb]; rfl
              have fp := frozen_of_block kb
              have BE2 := Ch.bel B_7 BE.2 (fun y hy => by omega) B_7.size
              have RM := hmk (And.intro BE2 BE.1)
              refine wpAnyH_ready (rs := [15]) (by kernel_rfl) (by simp) ?_
              refine AllReadyH.cons rfl (fun K hK => ?_) AllReadyH.nil
              go_simp
              refine hK.out _ _ BE2 (fun hHeld => ?_)
              clear hK K
              (try simp only [Act.put, List.setIfInBounds_toArray, List.set_cons_zero, List.set_cons_succ])
              (refine wpAnyH_take (i := 16) (v := ?_) rfl (by kernel_rfl) (by kernel_rfl) (by kernel_rfl) (fun _ _ _ h => h) (Or.inl ⟨by kernel_rfl, ?_⟩) (by assumption) ?_; rotate_left 1; (intro W0 hSw; (try dsimp only at hSw); go_simp; (try with_reducible rfl)); (try simp only [Act.put, List.setIfInBounds_toArray, List.set_cons_zero, List.set_cons_succ]))
              refine wpAnyH_done (by kernel_rfl) ?_ _
              (try dsimp only [Act.put, List.getElem_toArray, List.getElem_cons_succ, List.getElem_cons_zero, List.setIfInBounds_toArray, List.set_cons_zero, List.set_cons_succ])
              clear hHeld BE BE2 p0 p1 p2 p3 p4 p5 fp kb
              (try go_wp2_with fail)
              go_meet
              case rel => exact ⟨_, _, _, _, _, _, _, _, _, _, _, rfl, rfl, RM⟩
        · skip
          have bz : Below wq2.heap.size wq2 (wq2.alloc (.cells #[.int .i64 0, .bool false, .int .i64 0, .string ⟨#[]⟩, .slice none 0 0, .slice none 0 0] 25)) := one_belowG _ _
          have hltwq8 : wq2.heap.size < (wq2.alloc (.cells #[.int .i64 0, .bool false, .int .i64 0, .string ⟨#[]⟩, .slice none 0 0, .slice none 0 0] 25)).heap.size := by rw [alloc_size]; omega
          have M_8 := M_2.below bz
          have N_8 := N_2.below bz
          have Z_8 := Zb.new wq2
          have B_8 : Below wa13.heap.size wa13 (wq2.alloc (.cells #[.int .i64 0, .bool false, .int .i64 0, .string ⟨#[]⟩, .slice none 0 0, .slice none 0 0] 25)) := B_2.trans (bz.mono B_2.size)
          go_simp
          refine hK.out _ _ B_8 (fun hHeld => ?_)
          clear hK K bz
          (try simp only [Act.put, List.setIfInBounds_toArray, List.set_cons_zero, List.set_cons_succ])
          generalize (wq2.alloc (.cells #[.int .i64 0, .bool false, .int .i64 0, .string ⟨#[]⟩, .slice none 0 0, .slice none 0 0] 25)) = wq8 at *
          refine wpAnyH_ready (rs := [9]) (by kernel_rfl) (by simp) ?_
          refine (AllReadyH.cons rfl (fun K hK => ?_) AllReadyH.nil)
          · skip
            have bz : Below wq8.heap.size wq8 (wq8.alloc (.cells #[.string key, .int .i64 mk, .bool mb, .int .i64 mi, .string ms, .slice mal mnl mcl, .slice mam mnm mcm, .string (key ++ (⟨#[51]⟩ : ByteArray)), .int .i64 nk, .bool nb, .int .i64 ni, .string ns, .slice nal nnl ncl, .slice nam nnm ncm] 38)) := one_belowG _ _
            have hltwq9 : wq8.heap.size < (wq8.alloc (.cells #[.string key, .int .i64 mk, .bool mb, .int .i64 mi, .string ms, .slice mal mnl mcl, .slice mam mnm mcm, .string (key ++ (⟨#[51]⟩ : ByteArray)), .int .i64 nk, .bool nb, .int .i64 ni, .string ns, .slice nal nnl ncl, .slice nam nnm ncm] 38)).heap.size := by rw [alloc_size]; omega
            have L_9 : Ls (wq8.alloc (.cells #[.string key, .int .i64 mk, .bool mb, .int .i64 mi, .string ms, .slice mal mnl mcl, .slice mam mnm mcm, .string (key ++ (⟨#[51]⟩ : ByteArray)), .int .i64 nk, .bool nb, .int .i64 ni, .string ns, .slice nal nnl ncl, .slice nam nnm ncm] 38)) wq8.heap.size key (key3 key) v v [.int .i64 mk, .bool mb, .int .i64 mi, .string ms, .slice mal mnl mcl, .slice mam mnm mcm] [.int .i64 nk, .bool nb, .int .i64 ni, .string ns, .slice nal nnl ncl, .slice nam nnm ncm] := Ls.new M_8.l N_8.l
            have Z_9 := Z_8.below bz
            have B_9 : Below wa13.heap.size wa13 (wq8.alloc (.cells #[.string key, .int .i64 mk, .bool mb, .int .i64 mi, .string ms, .slice mal mnl mcl, .slice mam mnm mcm, .string (key ++ (⟨#[51]⟩ : ByteArray)), .int .i64 nk, .bool nb, .int .i64 ni, .string ns, .slice nal nnl ncl, .slice nam nnm ncm] 38)) := B_8.trans (bz.mono B_8.size)
            go_simp
            refine hK.out _ _ B_9 (fun hHeld => ?_)
            clear hK K bz
            (try simp only [Act.put, List.setIfInBounds_toArray, List.set_cons_zero, List.set_cons_succ])
            generalize (wq8.alloc (.cells #[.string key, .int .i64 mk, .bool mb, .int .i64 mi, .string ms, .slice mal mnl mcl, .slice mam mnm mcm, .string (key ++ (⟨#[51]⟩ : ByteArray)), .int .i64 nk, .bool nb, .int .i64 ni, .string ns, .slice nal nnl ncl, .slice nam nnm ncm] 38)) = wq9 at *
            refine wpAnyH_ready (rs := [10]) (by kernel_rfl) (by simp) ?_
            refine (AllReadyH.cons rfl (fun K hK => ?_) AllReadyH.nil)
            · skip
              go_simp
              refine (HCL.out wq9 B_9 _ (L_9.lm HKL.out.1 HKL.out.2)).mono ?_
              rintro e_ wq10 ⟨csu, rfl, lu_, bu⟩
              obtain ⟨gk, gb, gi, gs, gal, gnl, gcl, gam, gnm, gcm, rfl⟩ := V.ten (V.ap_lies _ lu_)
              have hltwq10 := bu.size
              have Z_10 := Z_9.below bu
              have R_10 : Re wq10 fa [.int .i64 gk, .bool gb, .int .i64 gi, .string gs, .slice gal gnl gcl, .slice gam gnm gcm] wq9.heap.size wq10.heap.size := ⟨V.ap_lies _ lu_, Nat.le_refl _⟩
              have B_10 : Below wa13.heap.size wa13 wq10 := B_9.trans (bu.mono B_9.size)
              refine hK.out _ _ B_10 (fun hHeld => ?_)
              clear hK K bu lu_
              (try simp only [Act.put, List.setIfInBounds_toArray, List.set_cons_zero, List.set_cons_succ])
              (refine wpAnyH_take (i := 11) (v := ?_) rfl (by kernel_rfl) (by kernel_rfl) (by kernel_rfl) (fun _ _ _ h => h) (Or.inl ⟨by kernel_rfl, ?_⟩) (by assumption) ?_; rotate_left 1; (intro W0 hSw; (try dsimp only at hSw); go_simp; (try with_reducible rfl)); (try simp only [Act.put, List.setIfInBounds_toArray, List.set_cons_zero, List.set_cons_succ]))
              (refine wpAnyH_take (i := 12) (v := ?_) rfl (by kernel_rfl) (by kernel_rfl) (by kernel_rfl) (fun _ _ _ h => h) (Or.inl ⟨by kernel_rfl, ?_⟩) (by assumption) ?_; rotate_left 1; (intro W0 hSw; (try dsimp only at hSw); go_simp; (try with_reducible rfl)); (try simp only [Act.put, List.setIfInBounds_toArray, List.set_cons_zero, List.set_cons_succ]))
              (refine wpAnyH_take (i := 13) (v := ?_) rfl (by kernel_rfl) (by kernel_rfl) (by kernel_rfl) (fun _ _ _ h => h) (Or.inl ⟨by kernel_rfl, ?_⟩) (by assumption) ?_; rotate_left 1; (intro W0 hSw; (try dsimp only at hSw); go_simp; (try with_reducible rfl)); (try simp only [Act.put, List.setIfInBounds_toArray, List.set_cons_zero, List.set_cons_succ]))
              have ZA := Z_10
              have RS := R_10
              have BE := box_end ZA RS (by omega)
              have kb := ZA.b
              have hcb_ := B_10.size
              have hA_ : wa13.heap.size ≤ wq2.heap.size := by omega
              generalize wq2.heap.size = A_ at BE kb hA_ ⊢
              have p0 : wq10.cell? ⟨A_, 0, none⟩ = some (.int .i64 0) := by rw [cell_of_block kb]; rfl
              have p1 : wq10.cell? ⟨A_, 1, none⟩ = some (.bool false) := by rw [cell_of_block kb]; rfl
              have p2 : wq10.cell? ⟨A_, 2, none⟩ = some (.int .i64 0) := by rw [cell_of_block kb]; rfl
              have p3 : wq10.cell? ⟨A_, 3, none⟩ = some (.string ⟨#[]⟩) := by rw [cell_of_block kb]; rfl
              have p4 : wq10.cell? ⟨A_, 4, none⟩ = some (.slice none 0 0) := by rw [cell_of_block kb]; rfl
              have p5 : wq10.cell? ⟨A_, 5, none⟩ = some (.slice none 0 0) := by rw [cell_of_block kb]; rfl
              have fp := frozen_of_block kb
              have BE2 := Ch.bel B_10 BE.2 (fun y hy => by omega) B_10.size
              have RM := hmk (And.intro BE2 BE.1)
              refine wpAnyH_ready (rs := [15]) (by kernel_rfl) (by simp) ?_
              refine AllReadyH.cons rfl (fun K hK => ?_) AllReadyH.nil
              go_simp
              refine hK.out _ _ BE2 (fun hHeld => ?_)
              clear hK K
              (try simp only [Act.put, List.setIfInBounds_toArray, List.set_cons_zero, List.set_cons_succ])
              (refine wpAnyH_take (i := 16) (v := ?_) rfl (by kernel_rfl) (by kernel_rfl) (by kernel_rfl) (fun _ _ _ h => h) (Or.inl ⟨by kernel_rfl, ?_⟩) (by assumption) ?_; rotate_left 1; (intro W0 hSw; (try dsimp only at hSw); go_simp; (try with_reducible rfl)); (try simp only [Act.put, List.setIfInBounds_toArray, List.set_cons_zero, List.set_cons_succ]))
              refine wpAnyH_done (by kernel_rfl) ?_ _
              (try dsimp only [Act.put, List.getElem_toArray, List.getElem_cons_succ, List.getElem_cons_zero, List.setIfInBounds_toArray, List.set_cons_zero, List.set_cons_succ])
              clear hHeld BE BE2 p0 p1 p2 p3 p4 p5 fp kb
              (try go_wp2_with fail)
              go_meet
              case rel => exact ⟨_, _, _, _, _, _, _, _, _, _, _, rfl, rfl, RM⟩
      · skip
        have bz : Below wq1.heap.size wq1 (wq1.alloc (.cells #[.int .i64 0, .bool false, .int .i64 0, .string ⟨#[]⟩, .slice none 0 0, .slice none 0 0] 25)) := one_belowG _ _
        have hltwq11 : wq1.heap.size < (wq1.alloc (.cells #[.int .i64 0, .bool false, .int .i64 0, .string ⟨#[]⟩, .slice none 0 0, .slice none 0 0] 25)).heap.size := by rw [alloc_size]; omega
        have M_11 := M_1.below bz
        have Z_11 := Zb.new wq1
        have B_11 : Below wa13.heap.size wa13 (wq1.alloc (.cells #[.int .i64 0, .bool false, .int .i64 0, .string ⟨#[]⟩, .slice none 0 0, .slice none 0 0] 25)) := B_1.trans (bz.mono B_1.size)
        go_simp
        refine hK.out _ _ B_11 (fun hHeld => ?_)
        clear hK K bz
        (try simp only [Act.put, List.setIfInBounds_toArray, List.set_cons_zero, List.set_cons_succ])
        generalize (wq1.alloc (.cells #[.int .i64 0, .bool false, .int .i64 0, .string ⟨#[]⟩, .slice none 0 0, .slice none 0 0] 25)) = wq11 at *
        refine wpAnyH_ready (rs := [7]) (by kernel_rfl) (by simp) ?_
        refine (AllReadyH.cons rfl (fun K hK => ?_) AllReadyH.nil)
        · skip
          go_simp
          refine (twin_un v (Old wq11) _ wq11 (XTz.below B_11).lies (fun _ h => h) hwt).mono ?_
          rintro e_ wq12 ⟨csu, rfl, bu, lu_, _⟩
          obtain ⟨nk, nb, ni, ns, nal, nnl, ncl, nam, nnm, ncm, rfl⟩ := V.ten lu_
          have hltwq12 := bu.size
          have M_12 := M_11.below bu
          have Z_12 := Z_11.below bu
          have N_12 : Li wq12 v [.int .i64 nk, .bool nb, .int .i64 ni, .string ns, .slice nal nnl ncl, .slice nam nnm ncm] := ⟨V.lies_keep (fun h => h) (fun _ _ => rfl) (fun y hy => hy.2) _ lu_⟩
          have B_12 : Below wa13.heap.size wa13 wq12 := B_11.trans (bu.mono B_11.size)
          refine hK.out _ _ B_12 (fun hHeld => ?_)
          clear hK K bu lu_
          (try simp only [Act.put, List.setIfInBounds_toArray, List.set_cons_zero, List.set_cons_succ])
          (refine wpAnyH_take (i := 8) (v := ?_) rfl (by kernel_rfl) (by kernel_rfl) (by kernel_rfl) (fun _ _ _ h => h) (Or.inl ⟨by kernel_rfl, ?_⟩) (by assumption) ?_; rotate_left 1; (intro W0 hSw; (try dsimp only at hSw); go_simp; (try with_reducible rfl)); (try simp only [Act.put, List.setIfInBounds_toArray, List.set_cons_zero, List.set_cons_succ]))
          refine wpAnyH_ready (rs := [9]) (by kernel_rfl) (by simp) ?_
          refine (AllReadyH.cons rfl (fun K hK => ?_) AllReadyH.nil)
          · skip
            have bz : Below wq12.heap.size wq12 (wq12.alloc (.cells #[.string key, .int .i64 mk, .bool mb, .int .i64 mi, .string ms, .slice mal mnl mcl, .slice mam mnm mcm, .string (key ++ (⟨#[51]⟩ : ByteArray)), .int .i64 nk, .bool nb, .int .i64 ni, .string ns, .slice nal nnl ncl, .slice nam nnm ncm] 38)) := one_belowG _ _
            have hltwq13 : wq12.heap.size < (wq12.alloc (.cells #[.string key, .int .i64 mk, .bool mb, .int .i64 mi, .string ms, .slice mal mnl mcl, .slice mam mnm mcm, .string (key ++ (⟨#[51]⟩ : ByteArray)), .int .i64 nk, .bool nb, .int .i64 ni, .string ns, .slice nal nnl ncl, .slice nam nnm ncm] 38)).heap.size := by rw [alloc_size]; omega
            have L_13 : Ls (wq12.alloc (.cells #[.string key, .int .i64 mk, .bool mb, .int .i64 mi, .string ms, .slice mal mnl mcl, .slice mam mnm mcm, .string (key ++ (⟨#[51]⟩ : ByteArray)), .int .i64 nk, .bool nb, .int .i64 ni, .string ns, .slice nal nnl ncl, .slice nam nnm ncm] 38)) wq12.heap.size key (key3 key) v v [.int .i64 mk, .bool mb, .int .i64 mi, .string ms, .slice mal mnl mcl, .slice mam mnm mcm] [.int .i64 nk, .bool nb, .int .i64 ni, .string ns, .slice nal nnl ncl, .slice nam nnm ncm] := Ls.new M_12.l N_12.l
            have Z_13 := Z_12.below bz
            have B_13 : Below wa13.heap.size wa13 (wq12.alloc (.cells #[.string key, .int .i64 mk, .bool mb, .int .i64 mi, .string ms, .slice mal mnl mcl, .slice mam mnm mcm, .string (key ++ (⟨#[51]⟩ : ByteArray)), .int .i64 nk, .bool nb, .int .i64 ni, .string ns, .slice nal nnl ncl, .slice nam nnm ncm] 38)) := B_12.trans (bz.mono B_12.size)
            go_simp
            refine hK.out _ _ B_13 (fun hHeld => ?_)
            clear hK K bz
            (try simp only [Act.put, List.setIfInBounds_toArray, List.set_cons_zero, List.set_cons_succ])
            generalize (wq12.alloc (.cells #[.string key, .int .i64 mk, .bool mb, .int .i64 mi, .string ms, .slice mal mnl mcl, .slice mam mnm mcm, .string (key ++ (⟨#[51]⟩ : ByteArray)), .int .i64 nk, .bool nb, .int .i64 ni, .string ns, .slice nal nnl ncl, .slice nam nnm ncm] 38)) = wq13 at *
            refine wpAnyH_ready (rs := [10]) (by kernel_rfl) (by simp) ?_
            refine (AllReadyH.cons rfl (fun K hK => ?_) AllReadyH.nil)
            · skip
              go_simp
              refine (HCL.out wq13 B_13 _ (L_13.lm HKL.out.1 HKL.out.2)).mono ?_
              rintro e_ wq14 ⟨csu, rfl, lu_, bu⟩
              obtain ⟨gk, gb, gi, gs, gal, gnl, gcl, gam, gnm, gcm, rfl⟩ := V.ten (V.ap_lies _ lu_)
              have hltwq14 := bu.size
              have Z_14 := Z_13.below bu
              have R_14 : Re wq14 fa [.int .i64 gk, .bool gb, .int .i64 gi, .string gs, .slice gal gnl gcl, .slice gam gnm gcm] wq13.heap.size wq14.heap.size := ⟨V.ap_lies _ lu_, Nat.le_refl _⟩
              have B_14 : Below wa13.heap.size wa13 wq14 := B_13.trans (bu.mono B_13.size)
              refine hK.out _ _ B_14 (fun hHeld => ?_)
              clear hK K bu lu_
              (try simp only [Act.put, List.setIfInBounds_toArray, List.set_cons_zero, List.set_cons_succ])
              (refine wpAnyH_take (i := 11) (v := ?_) rfl (by kernel_rfl) (by kernel_rfl) (by kernel_rfl) (fun _ _ _ h => h) (Or.inl ⟨by kernel_rfl, ?_⟩) (by assumption) ?_; rotate_left 1; (intro W0 hSw; (try dsimp only at hSw); go_simp; (try with_reducible rfl)); (try simp only [Act.put, List.setIfInBounds_toArray, List.set_cons_zero, List.set_cons_succ]))
              (refine wpAnyH_take (i := 12) (v := ?_) rfl (by kernel_rfl) (by kernel_rfl) (by kernel_rfl) (fun _ _ _ h => h) (Or.inl ⟨by kernel_rfl, ?_⟩) (by assumption) ?_; rotate_left 1; (intro W0 hSw; (try dsimp only at hSw); go_simp; (try with_reducible rfl)); (try simp only [Act.put, List.setIfInBounds_toArray, List.set_cons_zero, List.set_cons_succ]))
              (refine wpAnyH_take (i := 13) (v := ?_) rfl (by kernel_rfl) (by kernel_rfl) (by kernel_rfl) (fun _ _ _ h => h) (Or.inl ⟨by kernel_rfl, ?_⟩) (by assumption) ?_; rotate_left 1; (intro W0 hSw; (try dsimp only at hSw); go_simp; (try with_reducible rfl)); (try simp only [Act.put, List.setIfInBounds_toArray, List.set_cons_zero, List.set_cons_succ]))
              have ZA := Z_14
              have RS := R_14
              have BE := box_end ZA RS (by omega)
              have kb := ZA.b
              have hcb_ := B_14.size
              have hA_ : wa13.heap.size ≤ wq1.heap.size := by omega
              generalize wq1.heap.size = A_ at BE kb hA_ ⊢
              have p0 : wq14.cell? ⟨A_, 0, none⟩ = some (.int .i64 0) := by rw [cell_of_block kb]; rfl
              have p1 : wq14.cell? ⟨A_, 1, none⟩ = some (.bool false) := by rw [cell_of_block kb]; rfl
              have p2 : wq14.cell? ⟨A_, 2, none⟩ = some (.int .i64 0) := by rw [cell_of_block kb]; rfl
              have p3 : wq14.cell? ⟨A_, 3, none⟩ = some (.string ⟨#[]⟩) := by rw [cell_of_block kb]; rfl
              have p4 : wq14.cell? ⟨A_, 4, none⟩ = some (.slice none 0 0) := by rw [cell_of_block kb]; rfl
              have p5 : wq14.cell? ⟨A_, 5, none⟩ = some (.slice none 0 0) := by rw [cell_of_block kb]; rfl
              have fp := frozen_of_block kb
              have BE2 := Ch.bel B_14 BE.2 (fun y hy => by omega) B_14.size
              have RM := hmk (And.intro BE2 BE.1)
              refine wpAnyH_ready (rs := [15]) (by kernel_rfl) (by simp) ?_
              refine AllReadyH.cons rfl (fun K hK => ?_) AllReadyH.nil
              go_simp
              refine hK.out _ _ BE2 (fun hHeld => ?_)
              clear hK K
              (try simp only [Act.put, List.setIfInBounds_toArray, List.set_cons_zero, List.set_cons_succ])
              (refine wpAnyH_take (i := 16) (v := ?_) rfl (by kernel_rfl) (by kernel_rfl) (by kernel_rfl) (fun _ _ _ h => h) (Or.inl ⟨by kernel_rfl, ?_⟩) (by assumption) ?_; rotate_left 1; (intro W0 hSw; (try dsimp only at hSw); go_simp; (try with_reducible rfl)); (try simp only [Act.put, List.setIfInBounds_toArray, List.set_cons_zero, List.set_cons_succ]))
              refine wpAnyH_done (by kernel_rfl) ?_ _
              (try dsimp only [Act.put, List.getElem_toArray, List.getElem_cons_succ, List.getElem_cons_zero, List.setIfInBounds_toArray, List.set_cons_zero, List.set_cons_succ])
              clear hHeld BE BE2 p0 p1 p2 p3 p4 p5 fp kb
              (try go_wp2_with fail)
              go_meet
              case rel => exact ⟨_, _, _, _, _, _, _, _, _, _, _, rfl, rfl, RM⟩
    · skip
      have bz : Below wd.heap.size wd (wd.alloc (.cells #[.int .i64 0, .bool false, .int .i64 0, .string ⟨#[]⟩, .slice none 0 0, .slice none 0 0] 25)) := one_belowG _ _
      have hltwq15 : wd.heap.size < (wd.alloc (.cells #[.int .i64 0, .bool false, .int .i64 0, .string ⟨#[]⟩, .slice none 0 0, .slice none 0 0] 25)).heap.size := by rw [alloc_size]; omega
      have Z_15 := Zb.new wd
      have B_15 : Below wa13.heap.size wa13 (wd.alloc (.cells #[.int .i64 0, .bool false, .int .i64 0, .string ⟨#[]⟩, .slice none 0 0, .slice none 0 0] 25)) := B_0.trans (bz.mono B_0.size)
      go_simp
      refine hK.out _ _ B_15 (fun hHeld => ?_)
      clear hK K bz
      (try simp only [Act.put, List.setIfInBounds_toArray, List.set_cons_zero, List.set_cons_succ])
      generalize (wd.alloc (.cells #[.int .i64 0, .bool false, .int .i64 0, .string ⟨#[]⟩, .slice none 0 0, .slice none 0 0] 25)) = wq15 at *
      refine wpAnyH_ready (rs := [2]) (by kernel_rfl) (by simp) ?_
      refine (AllReadyH.cons rfl (fun K hK => ?_) AllReadyH.nil)
      · skip
        go_simp
        refine (twin_un v (Old wq15) _ wq15 (XTz.below B_15).lies (fun _ h => h) hwt).mono ?_
        rintro e_ wq16 ⟨csu, rfl, bu, lu_, _⟩
        obtain ⟨mk, mb, mi, ms, mal, mnl, mcl, mam, mnm, mcm, rfl⟩ := V.ten lu_
        have hltwq16 := bu.size
        have Z_16 := Z_15.below bu
        have M_16 : Li wq16 v [.int .i64 mk, .bool mb, .int .i64 mi, .string ms, .slice mal mnl mcl, .slice mam mnm mcm] := ⟨V.lies_keep (fun h => h) (fun _ _ => rfl) (fun y hy => hy.2) _ lu_⟩
        have B_16 : Below wa13.heap.size wa13 wq16 := B_15.trans (bu.mono B_15.size)
        refine hK.out _ _ B_16 (fun hHeld => ?_)
        clear hK K bu lu_
        (try simp only [Act.put, List.setIfInBounds_toArray, List.set_cons_zero, List.set_cons_succ])
        (refine wpAnyH_take (i := 3) (v := ?_) rfl (by kernel_rfl) (by kernel_rfl) (by kernel_rfl) (fun _ _ _ h => h) (Or.inl ⟨by kernel_rfl, ?_⟩) (by assumption) ?_; rotate_left 1; (intro W0 hSw; (try dsimp only at hSw); go_simp; (try with_reducible rfl)); (try simp only [Act.put, List.setIfInBounds_toArray, List.set_cons_zero, List.set_cons_succ]))
        refine wpAnyH_ready (rs := [7]) (by kernel_rfl) (by simp) ?_
        refine (AllReadyH.cons rfl (fun K hK => ?_) AllReadyH.nil)
        · skip
          go_simp
          refine (twin_un v (Old wq16) _ wq16 (XTz.below B_16).lies (fun _ h => h) hwt).mono ?_
          rintro e_ wq17 ⟨csu, rfl, bu, lu_, _⟩
          obtain ⟨nk, nb, ni, ns, nal, nnl, ncl, nam, nnm, ncm, rfl⟩ := V.ten lu_
          have hltwq17 := bu.size
          have Z_17 := Z_16.below bu
          have M_17 := M_16.below bu
          have N_17 : Li wq17 v [.int .i64 nk, .bool nb, .int .i64 ni, .string ns, .slice nal nnl ncl, .slice nam nnm ncm] := ⟨V.lies_keep (fun h => h) (fun _ _ => rfl) (fun y hy => hy.2) _ lu_⟩
          have B_17 : Below wa13.heap.size wa13 wq17 := B_16.trans (bu.mono B_16.size)
          refine hK.out _ _ B_17 (fun hHeld => ?_)
          clear hK K bu lu_
          (try simp only [Act.put, List.setIfInBounds_toArray, List.set_cons_zero, List.set_cons_succ])
          (refine wpAnyH_take (i := 8) (v := ?_) rfl (by kernel_rfl) (by kernel_rfl) (by kernel_rfl) (fun _ _ _ h => h) (Or.inl ⟨by kernel_rfl, ?_⟩) (by assumption) ?_; rotate_left 1; (intro W0 hSw; (try dsimp only at hSw); go_simp; (try with_reducible rfl)); (try simp only [Act.put, List.setIfInBounds_toArray, List.set_cons_zero, List.set_cons_succ]))
          refine wpAnyH_ready (rs := [9]) (by kernel_rfl) (by simp) ?_
          refine (AllReadyH.cons rfl (fun K hK => ?_) AllReadyH.nil)
          · skip
            have bz : Below wq17.heap.size wq17 (wq17.alloc (.cells #[.string key, .int .i64 mk, .bool mb, .int .i64 mi, .string ms, .slice mal mnl mcl, .slice mam mnm mcm, .string (key ++ (⟨#[51]⟩ : ByteArray)), .int .i64 nk, .bool nb, .int .i64 ni, .string ns, .slice nal nnl ncl, .slice nam nnm ncm] 38)) := one_belowG _ _
            have hltwq18 : wq17.heap.size < (wq17.alloc (.cells #[.string key, .int .i64 mk, .bool mb, .int .i64 mi, .string ms, .slice mal mnl mcl, .slice mam mnm mcm, .string (key ++ (⟨#[51]⟩ : ByteArray)), .int .i64 nk, .bool nb, .int .i64 ni, .string ns, .slice nal nnl ncl, .slice nam nnm ncm] 38)).heap.size := by rw [alloc_size]; omega
            have L_18 : Ls (wq17.alloc (.cells #[.string key, .int .i64 mk, .bool mb, .int .i64 mi, .string ms, .slice mal mnl mcl, .slice mam mnm mcm, .string (key ++ (⟨#[51]⟩ : ByteArray)), .int .i64 nk, .bool nb, .int .i64 ni, .string ns, .slice nal nnl ncl, .slice nam nnm ncm] 38)) wq17.heap.size key (key3 key) v v [.int .i64 mk, .bool mb, .int .i64 mi, .string ms, .slice mal mnl mcl, .slice mam mnm mcm] [.int .i64 nk, .bool nb, .int .i64 ni, .string ns, .slice nal nnl ncl, .slice nam nnm ncm] := Ls.new M_17.l N_17.l
            have Z_18 := Z_17.below bz
            have B_18 : Below wa13.heap.size wa13 (wq17.alloc (.cells #[.string key, .int .i64 mk, .bool mb, .int .i64 mi, .string ms, .slice mal mnl mcl, .slice mam mnm mcm, .string (key ++ (⟨#[51]⟩ : ByteArray)), .int .i64 nk, .bool nb, .int .i64 ni, .string ns, .slice nal nnl ncl, .slice nam nnm ncm] 38)) := B_17.trans (bz.mono B_17.size)
            go_simp
            refine hK.out _ _ B_18 (fun hHeld => ?_)
            clear hK K bz
            (try simp only [Act.put, List.setIfInBounds_toArray, List.set_cons_zero, List.set_cons_succ])
            generalize (wq17.alloc (.cells #[.string key, .int .i64 mk, .bool mb, .int .i64 mi, .string ms, .slice mal mnl mcl, .slice mam mnm mcm, .string (key ++ (⟨#[51]⟩ : ByteArray)), .int .i64 nk, .bool nb, .int .i64 ni, .string ns, .slice nal nnl ncl, .slice nam nnm ncm] 38)) = wq18 at *
            refine wpAnyH_ready (rs := [10]) (by kernel_rfl) (by simp) ?_
            refine (AllReadyH.cons rfl (fun K hK => ?_) AllReadyH.nil)
            · skip
              go_simp
              refine (HCL.out wq18 B_18 _ (L_18.lm HKL.out.1 HKL.out.2)).mono ?_
              rintro e_ wq19 ⟨csu, rfl, lu_, bu⟩
              obtain ⟨gk, gb, gi, gs, gal, gnl, gcl, gam, gnm, gcm, rfl⟩ := V.ten (V.ap_lies _ lu_)
              have hltwq19 := bu.size
              have Z_19 := Z_18.below bu
              have R_19 : Re wq19 fa [.int .i64 gk, .bool gb, .int .i64 gi, .string gs, .slice gal gnl gcl, .slice gam gnm gcm] wq18.heap.size wq19.heap.size := ⟨V.ap_lies _ lu_, Nat.le_refl _⟩
              have B_19 : Below wa13.heap.size wa13 wq19 := B_18.trans (bu.mono B_18.size)
              refine hK.out _ _ B_19 (fun hHeld => ?_)
              clear hK K bu lu_
              (try simp only [Act.put, List.setIfInBounds_toArray, List.set_cons_zero, List.set_cons_succ])
              (refine wpAnyH_take (i := 11) (v := ?_) rfl (by kernel_rfl) (by kernel_rfl) (by kernel_rfl) (fun _ _ _ h => h) (Or.inl ⟨by kernel_rfl, ?_⟩) (by assumption) ?_; rotate_left 1; (intro W0 hSw; (try dsimp only at hSw); go_simp; (try with_reducible rfl)); (try simp only [Act.put, List.setIfInBounds_toArray, List.set_cons_zero, List.set_cons_succ]))
              (refine wpAnyH_take (i := 12) (v := ?_) rfl (by kernel_rfl) (by kernel_rfl) (by kernel_rfl) (fun _ _ _ h => h) (Or.inl ⟨by kernel_rfl, ?_⟩) (by assumption) ?_; rotate_left 1; (intro W0 hSw; (try dsimp only at hSw); go_simp; (try with_reducible rfl)); (try simp only [Act.put, List.setIfInBounds_toArray, List.set_cons_zero, List.set_cons_succ]))
              (refine wpAnyH_take (i := 13) (v := ?_) rfl (by kernel_rfl) (by kernel_rfl) (by kernel_rfl) (fun _ _ _ h => h) (Or.inl ⟨by kernel_rfl, ?_⟩) (by assumption) ?_; rotate_left 1; (intro W0 hSw; (try dsimp only at hSw); go_simp; (try with_reducible rfl)); (try simp only [Act.put, List.setIfInBounds_toArray, List.set_cons_zero, List.set_cons_succ]))
              have ZA := Z_19
              have RS := R_19
              have BE := box_end ZA RS (by omega)
              have kb := ZA.b
              have hcb_ := B_19.size
              have hA_ : wa13.heap.size ≤ wd.heap.size := by omega
              generalize wd.heap.size = A_ at BE kb hA_ ⊢
              have p0 : wq19.cell? ⟨A_, 0, none⟩ = some (.int .i64 0) := by rw [cell_of_block kb]; rfl
              have p1 : wq19.cell? ⟨A_, 1, none⟩ = some (.bool false) := by rw [cell_of_block kb]; rfl
              have p2 : wq19.cell? ⟨A_, 2, none⟩ = some (.int .i64 0) := by rw [cell_of_block kb]; rfl
              have p3 : wq19.cell? ⟨A_, 3, none⟩ = some (.string ⟨#[]⟩) := by rw [cell_of_block kb]; rfl
              have p4 : wq19.cell? ⟨A_, 4, none⟩ = some (.slice none 0 0) := by rw [cell_of_block kb]; rfl
              have p5 : wq19.cell? ⟨A_, 5, none⟩ = some (.slice none 0 0) := by rw [cell_of_block kb]; rfl
              have fp := frozen_of_block kb
              have BE2 := Ch.bel B_19 BE.2 (fun y hy => by omega) B_19.size
              have RM := hmk (And.intro BE2 BE.1)
              refine wpAnyH_ready (rs := [15]) (by kernel_rfl) (by simp) ?_
              refine AllReadyH.cons rfl (fun K hK => ?_) AllReadyH.nil
              go_simp
              refine hK.out _ _ BE2 (fun hHeld => ?_)
              clear hK K
              (try simp only [Act.put, List.setIfInBounds_toArray, List.set_cons_zero, List.set_cons_succ])
              (refine wpAnyH_take (i := 16) (v := ?_) rfl (by kernel_rfl) (by kernel_rfl) (by kernel_rfl) (fun _ _ _ h => h) (Or.inl ⟨by kernel_rfl, ?_⟩) (by assumption) ?_; rotate_left 1; (intro W0 hSw; (try dsimp only at hSw); go_simp; (try with_reducible rfl)); (try simp only [Act.put, List.setIfInBounds_toArray, List.set_cons_zero, List.set_cons_succ]))
              refine wpAnyH_done (by kernel_rfl) ?_ _
              (try dsimp only [Act.put, List.getElem_toArray, List.getElem_cons_succ, List.getElem_cons_zero, List.setIfInBounds_toArray, List.set_cons_zero, List.set_cons_succ])
              clear hHeld BE BE2 p0 p1 p2 p3 p4 p5 fp kb
              (try go_wp2_with fail)
              go_meet
              case rel => exact ⟨_, _, _, _, _, _, _, _, _, _, _, rfl, rfl, RM⟩
  case rest =>
    rename World => wm
    obtain ⟨A_, gk, gb, gi, gs, gal, gnl, gcl, gam, gnm, gcm, rfl, rfl, HX⟩ := hcut
    have bwx := HX.out.1
    have XG := HX.out.2
    clear HX HCL HKL XTz HTz B_0 HFA
    replace XI := XI.below bwx
    replace XA := XA.below bwx
    have hzwm := bwx.size
    have Bwm := Bwa13.trans (bwx.mono (by omega))
    clear bwx
    have yee : ((ea : Int) != (ea : Int)) = false := by simp
    go_wp2_with fail
    have CA := num_any (ea : Int) wm
    refine CA.mono ?_
    clear CA
    rintro e_ w14 ⟨rfl, bw14⟩
    replace XI := XI.below bw14
    replace XA := XA.below bw14
    replace XG := XG.below bw14
    have hzw14 := bw14.size
    have Bw14 := Bwm.trans (bw14.mono (by omega))
    clear bw14
    go_wp2_with fail
    have CA := num_any (ea : Int) w14
    refine CA.mono ?_
    clear CA
    rintro e_ w15 ⟨rfl, bw15⟩
    replace XI := XI.below bw15
    replace XA := XA.below bw15
    replace XG := XG.below bw15
    have hzw15 := bw15.size
    have Bw15 := Bw14.trans (bw15.mono (by omega))
    clear bw15
    obtain ⟨d0, d1, d2, d3, d4, d5⟩ := row6z XA.row
    obtain ⟨f0, f1, f2, f3, f4, f5⟩ := row6z XG.row
    go_wp2_with fail
    clear d0 d1 d2 d3 d4 d5
    clear f0 f1 f2 f3 f4 f5
    have CA := same_any fa false false fa (Old w15) (Old w15) _ _ w15 XA.lies XG.lies (fun _ h => h) (fun _ h => h)
    rw [V.eqB_refl] at CA
    refine CA.mono ?_
    clear CA
    rintro e_ w16 ⟨rfl, bw16⟩
    replace XI := XI.below bw16
    replace XA := XA.below bw16
    replace XG := XG.below bw16
    have hzw16 := bw16.size
    have Bw16 := Bw15.trans (bw16.mono (by omega))
    clear bw16
    obtain ⟨d0, d1, d2, d3, d4, d5⟩ := row6z XI.row
    go_wp2_with fail
    clear d0 d1 d2 d3 d4 d5
    obtain ⟨F_, sp_, nd_, hF_⟩ := XI.sp
    have hlt_ := XI.lt
    have hhi_ := XI.hb
    have row_ := XI.row
    refine (spun_any v _ F_ w16 sp_ nd_ (fun y hy => by have := hF_ y hy; omega) hwt).mono ?_
    rintro e_ w17 ⟨rfl, ch_, T, hwT, lT⟩
    replace hwT : T.wt ≤ 2147483648 := by rw [hwT]; exact hwt
    have hzw17 := ch_.size
    have Bw17 := Ch.bel Bw16 ch_ (fun y hy => by have := hF_ y hy; omega) (by omega)
    have YX : Bx w17 w1.heap.size T _ := ⟨row_.keep (ch_.blk _ hlt_ (fun q => by have := hF_ _ q; omega)), by omega, V.lies_keep (fun h => h) (fun _ _ => rfl) (fun y hy => by have := hF_ y hy; show y < _; omega) _ lT⟩
    clear sp_ nd_ ch_ hlt_ hhi_ row_ lT XI XA XG hF_
    obtain ⟨d0, d1, d2, d3, d4, d5⟩ := row6z YX.row
    go_wp2_with fail
    clear d0 d1 d2 d3 d4 d5
    refine (twin_un T (Old w17) _ w17 YX.lies (fun _ h => h) hwT).mono ?_
    rintro e_ w18 ⟨co_, rfl, bw18, lo_, uo_⟩
    obtain ⟨ok, ob, oi, os, oal, onl, ocl, oam, onm, ocm, rfl⟩ := V.ten lo_
    replace YX := YX.below bw18
    have hzw18 := bw18.size
    have Bw18 := Bw17.trans (bw18.mono (by omega))
    clear bw18
    have bzwa19 : Below w18.heap.size w18 (w18.alloc (.cells #[.int .i64 ok, .bool ob, .int .i64 oi, .string os, .slice oal onl ocl, .slice oam onm ocm] 25)) := one_belowG _ _
    have hltwa19 : w18.heap.size < (w18.alloc (.cells #[.int .i64 ok, .bool ob, .int .i64 oi, .string os, .slice oal onl ocl, .slice oam onm ocm] 25)).heap.size := by rw [alloc_size]; omega
    have YO : Bx (w18.alloc (.cells #[.int .i64 ok, .bool ob, .int .i64 oi, .string os, .slice oal onl ocl, .slice oam onm ocm] 25)) w18.heap.size T [.int .i64 ok, .bool ob, .int .i64 oi, .string os, .slice oal onl ocl, .slice oam onm ocm] := Bx.new lo_ (fun y hy => hy.2)
    replace YX := YX.below bzwa19
    have hzwa19 := bzwa19.size
    have Bwa19 := Bw18.trans (bzwa19.mono (by omega))
    go_wp2_with fail
    generalize (w18.alloc (.cells #[.int .i64 ok, .bool ob, .int .i64 oi, .string os, .slice oal onl ocl, .slice oam onm ocm] 25)) = wa19 at *
    clear bzwa19
    clear lo_ uo_
    have XTz := (HTX.out _ Bwa19)
    have HTz : Hid (∀ W, Below wa19.heap.size wa19 W → Tb W) := fun W hb => HT.out _ (Bwa19.trans (hb.mono Bwa19.size))
    have HC41 : Hid (∀ W c1, Below wa19.heap.size wa19 W → T.lies false W (Old W) c1 → Calls Tryd.prog 41 #[.agg c1.toArray, .agg [.int .i64 tk, .bool tbb, .int .i64 ti, .string ts, .slice tal tnl tcl, .slice tam tnm tcm].toArray] W (BPost (eqlV T v) W)) := fun W c1 hb h => equal_any T v false false (Old W) (Old W) _ _ W (HTz.out W hb) h (XTz.below hb).lies (fun _ h => h) (fun _ h => h) (by omega) (by omega)
    have HC28 : Hid (∀ W c1, Below wa19.heap.size wa19 W → T.lies false W (Old W) c1 → Calls Tryd.prog 28 #[.agg c1.toArray, .agg [.int .i64 tk, .bool tbb, .int .i64 ti, .string ts, .slice tal tnl tcl, .slice tam tnm tcm].toArray] W (JPost (cmpV T v) W)) := fun W c1 hb h => compare_any T v false false (Old W) (Old W) _ _ W (HTz.out W hb) h (XTz.below hb).lies (fun _ h => h) (fun _ h => h) (by omega) (by omega)
    have HC42 : Hid (∀ W c1, Below wa19.heap.size wa19 W → T.lies false W (Old W) c1 → Calls Tryd.prog 42 #[.agg c1.toArray] W (BPost (sizS T) W)) := fun W c1 hb h => scalar_any false T (Old W) _ W (HTz.out W hb) h (fun _ h => h) (by omega)
    have HC29 : Hid (∀ W c1, Below wa19.heap.size wa19 W → T.lies false W (Old W) c1 → Calls Tryd.prog 29 #[.agg c1.toArray, .int .i64 3] W (NPost (chkE T 3) W)) := fun W c1 hb h => check_wide false T 3 (Old W) _ W (HTz.out W hb) h (fun _ h => h) (by omega)
    have HC26 : Hid (∀ W c1, Below wa19.heap.size wa19 W → T.lies false W (Old W) c1 → Calls Tryd.prog 26 #[.agg c1.toArray] W (IPost (sizN T) W)) := fun W c1 hb h => nodes_any false T (Old W) _ W (HTz.out W hb) h (fun _ h => h) (by omega)
    have HC27 : Hid (∀ W c1, Below wa19.heap.size wa19 W → T.lies false W (Old W) c1 → Calls Tryd.prog 27 #[.agg c1.toArray] W (IPost (sizD T) W)) := fun W c1 hb h => depth_any false T (Old W) _ W (HTz.out W hb) h (fun _ h => h) (by omega)
    generalize eqlV T v = Z1 at HC41
    generalize sizS T = Z2 at HC42
    generalize chkE T 3 = Z3 at HC29
    generalize sizN T = Z4 at HC26
    generalize sizD T = Z5 at HC27
    generalize cmpV T v = Z6 at HC28
    refine wp_region_held_drew (S := fun W => Below wa19.heap.size wa19 W) (by kernel_rfl) ((Below.refl _ _).drew) (fun hHeld => ?_)
    (refine wpAnyH_take (i := 0) (v := ?_) rfl (by kernel_rfl) (by kernel_rfl) (by kernel_rfl) (fun _ _ _ h => h) (Or.inl ⟨by kernel_rfl, ?_⟩) (by assumption) ?_; rotate_left 1; (intro W0 hSw; obtain ⟨z0, z1, z2, z3, z4, z5⟩ := row6z (YX.below hSw).row; go_simp; (try with_reducible rfl)); (try simp only [Act.put, List.setIfInBounds_toArray, List.set_cons_zero, List.set_cons_succ]))
    (refine wpAnyH_take (i := 1) (v := ?_) rfl (by kernel_rfl) (by kernel_rfl) (by kernel_rfl) (fun _ _ _ h => h) (Or.inl ⟨by kernel_rfl, ?_⟩) (by assumption) ?_; rotate_left 1; (intro W0 hSw; obtain ⟨z0, z1, z2, z3, z4, z5⟩ := row6z (XTz.below hSw).row; go_simp; (try with_reducible rfl)); (try simp only [Act.put, List.setIfInBounds_toArray, List.set_cons_zero, List.set_cons_succ]))
    (refine wpAnyH_take (i := 3) (v := ?_) rfl (by kernel_rfl) (by kernel_rfl) (by kernel_rfl) (fun _ _ _ h => h) (Or.inl ⟨by kernel_rfl, ?_⟩) (by assumption) ?_; rotate_left 1; (intro W0 hSw; obtain ⟨z0, z1, z2, z3, z4, z5⟩ := row6z (YO.below hSw).row; go_simp; (try with_reducible rfl)); (try simp only [Act.put, List.setIfInBounds_toArray, List.set_cons_zero, List.set_cons_succ]))
    (refine wpAnyH_take (i := 4) (v := ?_) rfl (by kernel_rfl) (by kernel_rfl) (by kernel_rfl) (fun _ _ _ h => h) (Or.inl ⟨by kernel_rfl, ?_⟩) (by assumption) ?_; rotate_left 1; (intro W0 hSw; obtain ⟨z0, z1, z2, z3, z4, z5⟩ := row6z (XTz.below hSw).row; go_simp; (try with_reducible rfl)); (try simp only [Act.put, List.setIfInBounds_toArray, List.set_cons_zero, List.set_cons_succ]))
    refine wpAnyH_ready (rs := [2]) (by kernel_rfl) (by simp) ?_
    refine AllReadyH.cons rfl (fun K hK => ?_) AllReadyH.nil
    go_simp
    refine (HC41.out wa19.drew _ ((Below.refl wa19.heap.size wa19).drew) (YX.below ((Below.refl wa19.heap.size wa19).drew)).lies).mono ?_
    rintro e wk21 ⟨rfl, bu⟩
    have bk21 : Below wa19.heap.size wa19 wk21 := ((Below.refl wa19.heap.size wa19).drew).trans (bu.mono (((Below.refl wa19.heap.size wa19).drew)).size)
    clear bu
    go_simp
    refine hK.out _ _ bk21 (fun hHeld => ?_)
    clear hK K
    (try simp only [Act.put, List.setIfInBounds_toArray, List.set_cons_zero, List.set_cons_succ])
    refine wpAnyH_ready (rs := [5]) (by kernel_rfl) (by simp) ?_
    refine AllReadyH.cons rfl (fun K hK => ?_) AllReadyH.nil
    go_simp
    refine (HC41.out wk21 _ bk21 (YO.below bk21).lies).mono ?_
    rintro e wk22 ⟨rfl, bu⟩
    have bk22 : Below wa19.heap.size wa19 wk22 := bk21.trans (bu.mono (bk21).size)
    clear bu
    go_simp
    refine hK.out _ _ bk22 (fun hHeld => ?_)
    clear hK K
    (try simp only [Act.put, List.setIfInBounds_toArray, List.set_cons_zero, List.set_cons_succ])
    (refine wpAnyH_take (i := 6) (v := .bool false) rfl (by kernel_rfl) (by kernel_rfl) (by kernel_rfl) (fun _ _ _ h => h) (Or.inl ⟨by kernel_rfl, ?_⟩) (by assumption) ?_; (intro W0 hSw; go_simp; (try simp); (try (cases Z1 <;> rfl))); (try simp only [Act.put, List.setIfInBounds_toArray, List.set_cons_zero, List.set_cons_succ]))
    (refine wpAnyH_take (i := 7) (v := ?_) rfl (by kernel_rfl) (by kernel_rfl) (by kernel_rfl) (fun _ _ _ h => h) (Or.inl ⟨by kernel_rfl, ?_⟩) (by assumption) ?_; rotate_left 1; (intro W0 hSw; (try dsimp only at hSw); go_simp; (try with_reducible rfl)); (try simp only [Act.put, List.setIfInBounds_toArray, List.set_cons_zero, List.set_cons_succ]))
    (refine wpAnyH_take (i := 8) (v := ?_) rfl (by kernel_rfl) (by kernel_rfl) (by kernel_rfl) (fun _ _ _ h => h) (Or.inl ⟨by kernel_rfl, ?_⟩) (by assumption) ?_; rotate_left 1; (intro W0 hSw; obtain ⟨z0, z1, z2, z3, z4, z5⟩ := row6z (YX.below hSw).row; go_simp; (try with_reducible rfl)); (try simp only [Act.put, List.setIfInBounds_toArray, List.set_cons_zero, List.set_cons_succ]))
    (refine wpAnyH_take (i := 10) (v := ?_) rfl (by kernel_rfl) (by kernel_rfl) (by kernel_rfl) (fun _ _ _ h => h) (Or.inl ⟨by kernel_rfl, ?_⟩) (by assumption) ?_; rotate_left 1; (intro W0 hSw; obtain ⟨z0, z1, z2, z3, z4, z5⟩ := row6z (YO.below hSw).row; go_simp; (try with_reducible rfl)); (try simp only [Act.put, List.setIfInBounds_toArray, List.set_cons_zero, List.set_cons_succ]))
    refine wpAnyH_ready (rs := [9]) (by kernel_rfl) (by simp) ?_
    refine AllReadyH.cons rfl (fun K hK => ?_) AllReadyH.nil
    go_simp
    refine (HC42.out wk22 _ bk22 (YX.below bk22).lies).mono ?_
    rintro e wk23 ⟨rfl, bu⟩
    have bk23 : Below wa19.heap.size wa19 wk23 := bk22.trans (bu.mono (bk22).size)
    clear bu
    go_simp
    refine hK.out _ _ bk23 (fun hHeld => ?_)
    clear hK K
    (try simp only [Act.put, List.setIfInBounds_toArray, List.set_cons_zero, List.set_cons_succ])
    refine wpAnyH_ready (rs := [11]) (by kernel_rfl) (by simp) ?_
    refine AllReadyH.cons rfl (fun K hK => ?_) AllReadyH.nil
    go_simp
    refine (HC42.out wk23 _ bk23 (YO.below bk23).lies).mono ?_
    rintro e wk24 ⟨rfl, bu⟩
    have bk24 : Below wa19.heap.size wa19 wk24 := bk23.trans (bu.mono (bk23).size)
    clear bu
    go_simp
    refine hK.out _ _ bk24 (fun hHeld => ?_)
    clear hK K
    (try simp only [Act.put, List.setIfInBounds_toArray, List.set_cons_zero, List.set_cons_succ])
    (refine wpAnyH_take (i := 12) (v := .bool false) rfl (by kernel_rfl) (by kernel_rfl) (by kernel_rfl) (fun _ _ _ h => h) (Or.inl ⟨by kernel_rfl, ?_⟩) (by assumption) ?_; (intro W0 hSw; go_simp; (try simp); (try (cases Z2 <;> rfl))); (try simp only [Act.put, List.setIfInBounds_toArray, List.set_cons_zero, List.set_cons_succ]))
    (refine wpAnyH_take (i := 13) (v := ?_) rfl (by kernel_rfl) (by kernel_rfl) (by kernel_rfl) (fun _ _ _ h => h) (Or.inl ⟨by kernel_rfl, ?_⟩) (by assumption) ?_; rotate_left 1; (intro W0 hSw; (try dsimp only at hSw); go_simp; (try with_reducible rfl)); (try simp only [Act.put, List.setIfInBounds_toArray, List.set_cons_zero, List.set_cons_succ]))
    (refine wpAnyH_take (i := 14) (v := ?_) rfl (by kernel_rfl) (by kernel_rfl) (by kernel_rfl) (fun _ _ _ h => h) (Or.inl ⟨by kernel_rfl, ?_⟩) (by assumption) ?_; rotate_left 1; (intro W0 hSw; (try dsimp only at hSw); go_simp; (try with_reducible rfl)); (try simp only [Act.put, List.setIfInBounds_toArray, List.set_cons_zero, List.set_cons_succ]))
    (refine wpAnyH_take (i := 15) (v := ?_) rfl (by kernel_rfl) (by kernel_rfl) (by kernel_rfl) (fun _ _ _ h => h) (Or.inl ⟨by kernel_rfl, ?_⟩) (by assumption) ?_; rotate_left 1; (intro W0 hSw; obtain ⟨z0, z1, z2, z3, z4, z5⟩ := row6z (YX.below hSw).row; go_simp; (try with_reducible rfl)); (try simp only [Act.put, List.setIfInBounds_toArray, List.set_cons_zero, List.set_cons_succ]))
    (refine wpAnyH_take (i := 18) (v := ?_) rfl (by kernel_rfl) (by kernel_rfl) (by kernel_rfl) (fun _ _ _ h => h) (Or.inl ⟨by kernel_rfl, ?_⟩) (by assumption) ?_; rotate_left 1; (intro W0 hSw; obtain ⟨z0, z1, z2, z3, z4, z5⟩ := row6z (YO.below hSw).row; go_simp; (try with_reducible rfl)); (try simp only [Act.put, List.setIfInBounds_toArray, List.set_cons_zero, List.set_cons_succ]))
    refine wpAnyH_ready (rs := [16]) (by kernel_rfl) (by simp) ?_
    refine AllReadyH.cons rfl (fun K hK => ?_) AllReadyH.nil
    go_simp
    refine (HC29.out wk24 _ bk24 (YX.below bk24).lies).mono ?_
    rintro e wk25 ⟨rfl, bu⟩
    have bk25 : Below wa19.heap.size wa19 wk25 := bk24.trans (bu.mono (bk24).size)
    clear bu
    go_simp
    refine hK.out _ _ bk25 (fun hHeld => ?_)
    clear hK K
    (try simp only [Act.put, List.setIfInBounds_toArray, List.set_cons_zero, List.set_cons_succ])
    refine wpAnyH_ready (rs := [17]) (by kernel_rfl) (by simp) ?_
    refine AllReadyH.cons rfl (fun K hK => ?_) AllReadyH.nil
    go_simp
    refine (num_any (Z3 : Int) wk25).mono ?_
    rintro e wk26 ⟨rfl, bu⟩
    have bk26 : Below wa19.heap.size wa19 wk26 := bk25.trans (bu.mono (bk25).size)
    clear bu
    go_simp
    refine hK.out _ _ bk26 (fun hHeld => ?_)
    clear hK K
    (try simp only [Act.put, List.setIfInBounds_toArray, List.set_cons_zero, List.set_cons_succ])
    refine wpAnyH_ready (rs := [19]) (by kernel_rfl) (by simp) ?_
    refine AllReadyH.cons rfl (fun K hK => ?_) AllReadyH.nil
    go_simp
    refine (HC29.out wk26 _ bk26 (YO.below bk26).lies).mono ?_
    rintro e wk27 ⟨rfl, bu⟩
    have bk27 : Below wa19.heap.size wa19 wk27 := bk26.trans (bu.mono (bk26).size)
    clear bu
    go_simp
    refine hK.out _ _ bk27 (fun hHeld => ?_)
    clear hK K
    (try simp only [Act.put, List.setIfInBounds_toArray, List.set_cons_zero, List.set_cons_succ])
    refine wpAnyH_ready (rs := [20]) (by kernel_rfl) (by simp) ?_
    refine AllReadyH.cons rfl (fun K hK => ?_) AllReadyH.nil
    go_simp
    refine (num_any (Z3 : Int) wk27).mono ?_
    rintro e wk28 ⟨rfl, bu⟩
    have bk28 : Below wa19.heap.size wa19 wk28 := bk27.trans (bu.mono (bk27).size)
    clear bu
    go_simp
    refine hK.out _ _ bk28 (fun hHeld => ?_)
    clear hK K
    (try simp only [Act.put, List.setIfInBounds_toArray, List.set_cons_zero, List.set_cons_succ])
    (refine wpAnyH_take (i := 21) (v := .bool false) rfl (by kernel_rfl) (by kernel_rfl) (by kernel_rfl) (fun _ _ _ h => h) (Or.inl ⟨by kernel_rfl, ?_⟩) (by assumption) ?_; (intro W0 hSw; go_simp; (try simp); (try (cases Z3 <;> rfl))); (try simp only [Act.put, List.setIfInBounds_toArray, List.set_cons_zero, List.set_cons_succ]))
    (refine wpAnyH_take (i := 22) (v := ?_) rfl (by kernel_rfl) (by kernel_rfl) (by kernel_rfl) (fun _ _ _ h => h) (Or.inl ⟨by kernel_rfl, ?_⟩) (by assumption) ?_; rotate_left 1; (intro W0 hSw; (try dsimp only at hSw); go_simp; (try with_reducible rfl)); (try simp only [Act.put, List.setIfInBounds_toArray, List.set_cons_zero, List.set_cons_succ]))
    (refine wpAnyH_take (i := 23) (v := ?_) rfl (by kernel_rfl) (by kernel_rfl) (by kernel_rfl) (fun _ _ _ h => h) (Or.inl ⟨by kernel_rfl, ?_⟩) (by assumption) ?_; rotate_left 1; (intro W0 hSw; (try dsimp only at hSw); go_simp; (try with_reducible rfl)); (try simp only [Act.put, List.setIfInBounds_toArray, List.set_cons_zero, List.set_cons_succ]))
    (refine wpAnyH_take (i := 24) (v := ?_) rfl (by kernel_rfl) (by kernel_rfl) (by kernel_rfl) (fun _ _ _ h => h) (Or.inl ⟨by kernel_rfl, ?_⟩) (by assumption) ?_; rotate_left 1; (intro W0 hSw; obtain ⟨z0, z1, z2, z3, z4, z5⟩ := row6z (YX.below hSw).row; go_simp; (try with_reducible rfl)); (try simp only [Act.put, List.setIfInBounds_toArray, List.set_cons_zero, List.set_cons_succ]))
    (refine wpAnyH_take (i := 26) (v := ?_) rfl (by kernel_rfl) (by kernel_rfl) (by kernel_rfl) (fun _ _ _ h => h) (Or.inl ⟨by kernel_rfl, ?_⟩) (by assumption) ?_; rotate_left 1; (intro W0 hSw; obtain ⟨z0, z1, z2, z3, z4, z5⟩ := row6z (YO.below hSw).row; go_simp; (try with_reducible rfl)); (try simp only [Act.put, List.setIfInBounds_toArray, List.set_cons_zero, List.set_cons_succ]))
    refine wpAnyH_ready (rs := [25]) (by kernel_rfl) (by simp) ?_
    refine AllReadyH.cons rfl (fun K hK => ?_) AllReadyH.nil
    go_simp
    refine (HC26.out wk28 _ bk28 (YX.below bk28).lies).mono ?_
    rintro e wk29 ⟨rfl, bu⟩
    have bk29 : Below wa19.heap.size wa19 wk29 := bk28.trans (bu.mono (bk28).size)
    clear bu
    go_simp
    refine hK.out _ _ bk29 (fun hHeld => ?_)
    clear hK K
    (try simp only [Act.put, List.setIfInBounds_toArray, List.set_cons_zero, List.set_cons_succ])
    refine wpAnyH_ready (rs := [27]) (by kernel_rfl) (by simp) ?_
    refine AllReadyH.cons rfl (fun K hK => ?_) AllReadyH.nil
    go_simp
    refine (HC26.out wk29 _ bk29 (YO.below bk29).lies).mono ?_
    rintro e wk30 ⟨rfl, bu⟩
    have bk30 : Below wa19.heap.size wa19 wk30 := bk29.trans (bu.mono (bk29).size)
    clear bu
    go_simp
    refine hK.out _ _ bk30 (fun hHeld => ?_)
    clear hK K
    (try simp only [Act.put, List.setIfInBounds_toArray, List.set_cons_zero, List.set_cons_succ])
    (refine wpAnyH_take (i := 28) (v := .bool false) rfl (by kernel_rfl) (by kernel_rfl) (by kernel_rfl) (fun _ _ _ h => h) (Or.inl ⟨by kernel_rfl, ?_⟩) (by assumption) ?_; (intro W0 hSw; go_simp; (try simp); (try (cases Z4 <;> rfl))); (try simp only [Act.put, List.setIfInBounds_toArray, List.set_cons_zero, List.set_cons_succ]))
    (refine wpAnyH_take (i := 29) (v := ?_) rfl (by kernel_rfl) (by kernel_rfl) (by kernel_rfl) (fun _ _ _ h => h) (Or.inl ⟨by kernel_rfl, ?_⟩) (by assumption) ?_; rotate_left 1; (intro W0 hSw; (try dsimp only at hSw); go_simp; (try with_reducible rfl)); (try simp only [Act.put, List.setIfInBounds_toArray, List.set_cons_zero, List.set_cons_succ]))
    (refine wpAnyH_take (i := 30) (v := ?_) rfl (by kernel_rfl) (by kernel_rfl) (by kernel_rfl) (fun _ _ _ h => h) (Or.inl ⟨by kernel_rfl, ?_⟩) (by assumption) ?_; rotate_left 1; (intro W0 hSw; (try dsimp only at hSw); go_simp; (try with_reducible rfl)); (try simp only [Act.put, List.setIfInBounds_toArray, List.set_cons_zero, List.set_cons_succ]))
    (refine wpAnyH_take (i := 31) (v := ?_) rfl (by kernel_rfl) (by kernel_rfl) (by kernel_rfl) (fun _ _ _ h => h) (Or.inl ⟨by kernel_rfl, ?_⟩) (by assumption) ?_; rotate_left 1; (intro W0 hSw; obtain ⟨z0, z1, z2, z3, z4, z5⟩ := row6z (YX.below hSw).row; go_simp; (try with_reducible rfl)); (try simp only [Act.put, List.setIfInBounds_toArray, List.set_cons_zero, List.set_cons_succ]))
    (refine wpAnyH_take (i := 33) (v := ?_) rfl (by kernel_rfl) (by kernel_rfl) (by kernel_rfl) (fun _ _ _ h => h) (Or.inl ⟨by kernel_rfl, ?_⟩) (by assumption) ?_; rotate_left 1; (intro W0 hSw; obtain ⟨z0, z1, z2, z3, z4, z5⟩ := row6z (YO.below hSw).row; go_simp; (try with_reducible rfl)); (try simp only [Act.put, List.setIfInBounds_toArray, List.set_cons_zero, List.set_cons_succ]))
    refine wpAnyH_ready (rs := [32]) (by kernel_rfl) (by simp) ?_
    refine AllReadyH.cons rfl (fun K hK => ?_) AllReadyH.nil
    go_simp
    refine (HC27.out wk30 _ bk30 (YX.below bk30).lies).mono ?_
    rintro e wk31 ⟨rfl, bu⟩
    have bk31 : Below wa19.heap.size wa19 wk31 := bk30.trans (bu.mono (bk30).size)
    clear bu
    go_simp
    refine hK.out _ _ bk31 (fun hHeld => ?_)
    clear hK K
    (try simp only [Act.put, List.setIfInBounds_toArray, List.set_cons_zero, List.set_cons_succ])
    refine wpAnyH_ready (rs := [34]) (by kernel_rfl) (by simp) ?_
    refine AllReadyH.cons rfl (fun K hK => ?_) AllReadyH.nil
    go_simp
    refine (HC27.out wk31 _ bk31 (YO.below bk31).lies).mono ?_
    rintro e wk32 ⟨rfl, bu⟩
    have bk32 : Below wa19.heap.size wa19 wk32 := bk31.trans (bu.mono (bk31).size)
    clear bu
    go_simp
    refine hK.out _ _ bk32 (fun hHeld => ?_)
    clear hK K
    (try simp only [Act.put, List.setIfInBounds_toArray, List.set_cons_zero, List.set_cons_succ])
    (refine wpAnyH_take (i := 35) (v := .bool false) rfl (by kernel_rfl) (by kernel_rfl) (by kernel_rfl) (fun _ _ _ h => h) (Or.inl ⟨by kernel_rfl, ?_⟩) (by assumption) ?_; (intro W0 hSw; go_simp; (try simp); (try (cases Z5 <;> rfl))); (try simp only [Act.put, List.setIfInBounds_toArray, List.set_cons_zero, List.set_cons_succ]))
    (refine wpAnyH_take (i := 36) (v := ?_) rfl (by kernel_rfl) (by kernel_rfl) (by kernel_rfl) (fun _ _ _ h => h) (Or.inl ⟨by kernel_rfl, ?_⟩) (by assumption) ?_; rotate_left 1; (intro W0 hSw; (try dsimp only at hSw); go_simp; (try with_reducible rfl)); (try simp only [Act.put, List.setIfInBounds_toArray, List.set_cons_zero, List.set_cons_succ]))
    (refine wpAnyH_take (i := 37) (v := ?_) rfl (by kernel_rfl) (by kernel_rfl) (by kernel_rfl) (fun _ _ _ h => h) (Or.inl ⟨by kernel_rfl, ?_⟩) (by assumption) ?_; rotate_left 1; (intro W0 hSw; (try dsimp only at hSw); go_simp; (try with_reducible rfl)); (try simp only [Act.put, List.setIfInBounds_toArray, List.set_cons_zero, List.set_cons_succ]))
    (refine wpAnyH_take (i := 38) (v := ?_) rfl (by kernel_rfl) (by kernel_rfl) (by kernel_rfl) (fun _ _ _ h => h) (Or.inl ⟨by kernel_rfl, ?_⟩) (by assumption) ?_; rotate_left 1; (intro W0 hSw; obtain ⟨z0, z1, z2, z3, z4, z5⟩ := row6z (YX.below hSw).row; go_simp; (try with_reducible rfl)); (try simp only [Act.put, List.setIfInBounds_toArray, List.set_cons_zero, List.set_cons_succ]))
    (refine wpAnyH_take (i := 39) (v := ?_) rfl (by kernel_rfl) (by kernel_rfl) (by kernel_rfl) (fun _ _ _ h => h) (Or.inl ⟨by kernel_rfl, ?_⟩) (by assumption) ?_; rotate_left 1; (intro W0 hSw; obtain ⟨z0, z1, z2, z3, z4, z5⟩ := row6z (XTz.below hSw).row; go_simp; (try with_reducible rfl)); (try simp only [Act.put, List.setIfInBounds_toArray, List.set_cons_zero, List.set_cons_succ]))
    (refine wpAnyH_take (i := 41) (v := ?_) rfl (by kernel_rfl) (by kernel_rfl) (by kernel_rfl) (fun _ _ _ h => h) (Or.inl ⟨by kernel_rfl, ?_⟩) (by assumption) ?_; rotate_left 1; (intro W0 hSw; obtain ⟨z0, z1, z2, z3, z4, z5⟩ := row6z (YO.below hSw).row; go_simp; (try with_reducible rfl)); (try simp only [Act.put, List.setIfInBounds_toArray, List.set_cons_zero, List.set_cons_succ]))
    (refine wpAnyH_take (i := 42) (v := ?_) rfl (by kernel_rfl) (by kernel_rfl) (by kernel_rfl) (fun _ _ _ h => h) (Or.inl ⟨by kernel_rfl, ?_⟩) (by assumption) ?_; rotate_left 1; (intro W0 hSw; obtain ⟨z0, z1, z2, z3, z4, z5⟩ := row6z (XTz.below hSw).row; go_simp; (try with_reducible rfl)); (try simp only [Act.put, List.setIfInBounds_toArray, List.set_cons_zero, List.set_cons_succ]))
    refine wpAnyH_ready (rs := [40]) (by kernel_rfl) (by simp) ?_
    refine AllReadyH.cons rfl (fun K hK => ?_) AllReadyH.nil
    go_simp
    refine (HC28.out wk32 _ bk32 (YX.below bk32).lies).mono ?_
    rintro e wk33 ⟨rfl, bu⟩
    have bk33 : Below wa19.heap.size wa19 wk33 := bk32.trans (bu.mono (bk32).size)
    clear bu
    go_simp
    refine hK.out _ _ bk33 (fun hHeld => ?_)
    clear hK K
    (try simp only [Act.put, List.setIfInBounds_toArray, List.set_cons_zero, List.set_cons_succ])
    refine wpAnyH_ready (rs := [43]) (by kernel_rfl) (by simp) ?_
    refine AllReadyH.cons rfl (fun K hK => ?_) AllReadyH.nil
    go_simp
    refine (HC28.out wk33 _ bk33 (YO.below bk33).lies).mono ?_
    rintro e wk34 ⟨rfl, bu⟩
    have bk34 : Below wa19.heap.size wa19 wk34 := bk33.trans (bu.mono (bk33).size)
    clear bu
    go_simp
    refine hK.out _ _ bk34 (fun hHeld => ?_)
    clear hK K
    (try simp only [Act.put, List.setIfInBounds_toArray, List.set_cons_zero, List.set_cons_succ])
    (refine wpAnyH_take (i := 44) (v := .bool false) rfl (by kernel_rfl) (by kernel_rfl) (by kernel_rfl) (fun _ _ _ h => h) (Or.inl ⟨by kernel_rfl, ?_⟩) (by assumption) ?_; (intro W0 hSw; go_simp; (try simp); (try (cases Z6 <;> rfl))); (try simp only [Act.put, List.setIfInBounds_toArray, List.set_cons_zero, List.set_cons_succ]))
    (refine wpAnyH_take (i := 45) (v := ?_) rfl (by kernel_rfl) (by kernel_rfl) (by kernel_rfl) (fun _ _ _ h => h) (Or.inl ⟨by kernel_rfl, ?_⟩) (by assumption) ?_; rotate_left 1; (intro W0 hSw; (try dsimp only at hSw); go_simp; (try with_reducible rfl)); (try simp only [Act.put, List.setIfInBounds_toArray, List.set_cons_zero, List.set_cons_succ]))
    refine wpAnyH_done (by kernel_rfl) ?_ _
    (try dsimp only [Act.put, List.getElem_toArray, List.getElem_cons_succ, List.getElem_cons_zero, List.setIfInBounds_toArray, List.set_cons_zero, List.set_cons_succ])
    clear hHeld
    have bl_ := bk34
    replace YX := YX.below bl_
    replace YO := YO.below bl_
    have hzwk34 := bl_.size
    have Bwk34 := Bwa19.trans (bl_.mono (by omega))
    clear HC41 HC28 HC42 HC29 HC26 HC27 XTz HTz
    clear bk21 bk22 bk23 bk24 bk25 bk26 bk27 bk28 bk29 bk30 bk31 bk32 bk33 bk34 bl_
    go_wp2_with fail
    have XPz := (HPX.out _ Bwk34)
    have HAN : Hid (∀ W c1, Below wk34.heap.size wk34 W → T.lies false W (Old W) c1 → Calls Tryd.prog 19 #[.agg c1.toArray, .string key, .agg [.int .i64 pk, .bool pb, .int .i64 pi, .string ps, .slice pal pnl pcl, .slice pam pnm pcm].toArray] W (AnsPost (ansL T key x) W)) := fun W c1 hb h => answers_ap T x key (Old W) c1 _ W (HT.out _ (Bwk34.trans (hb.mono Bwk34.size))) h (XPz.below hb).lies (fun _ h => h) hkey hwT hwx
    have HRL : Hid ((ansL T key x).length ≤ maxLen) := by show 5 ≤ maxLen; decide
    generalize ansL T key x = RR at HAN HRL
    refine wp_region_held_drew (S := fun W => Below wk34.heap.size wk34 W) (by kernel_rfl) ((Below.refl _ _).drew) (fun hHeld => ?_)
    (refine wpAnyH_take (i := 0) (v := ?_) rfl (by kernel_rfl) (by kernel_rfl) (by kernel_rfl) (fun _ _ _ h => h) (Or.inl ⟨by kernel_rfl, ?_⟩) (by assumption) ?_; rotate_left 1; (intro W0 hSw; obtain ⟨z0, z1, z2, z3, z4, z5⟩ := row6z (YX.below hSw).row; go_simp; (try with_reducible rfl)); (try simp only [Act.put, List.setIfInBounds_toArray, List.set_cons_zero, List.set_cons_succ]))
    (refine wpAnyH_take (i := 1) (v := ?_) rfl (by kernel_rfl) (by kernel_rfl) (by kernel_rfl) (fun _ _ _ h => h) (Or.inl ⟨by kernel_rfl, ?_⟩) (by assumption) ?_; rotate_left 1; (intro W0 hSw; (try dsimp only at hSw); go_simp; (try with_reducible rfl)); (try simp only [Act.put, List.setIfInBounds_toArray, List.set_cons_zero, List.set_cons_succ]))
    (refine wpAnyH_take (i := 2) (v := ?_) rfl (by kernel_rfl) (by kernel_rfl) (by kernel_rfl) (fun _ _ _ h => h) (Or.inl ⟨by kernel_rfl, ?_⟩) (by assumption) ?_; rotate_left 1; (intro W0 hSw; obtain ⟨z0, z1, z2, z3, z4, z5⟩ := row6z (XPz.below hSw).row; go_simp; (try with_reducible rfl)); (try simp only [Act.put, List.setIfInBounds_toArray, List.set_cons_zero, List.set_cons_succ]))
    (refine wpAnyH_take (i := 4) (v := ?_) rfl (by kernel_rfl) (by kernel_rfl) (by kernel_rfl) (fun _ _ _ h => h) (Or.inl ⟨by kernel_rfl, ?_⟩) (by assumption) ?_; rotate_left 1; (intro W0 hSw; obtain ⟨z0, z1, z2, z3, z4, z5⟩ := row6z (YO.below hSw).row; go_simp; (try with_reducible rfl)); (try simp only [Act.put, List.setIfInBounds_toArray, List.set_cons_zero, List.set_cons_succ]))
    (refine wpAnyH_take (i := 5) (v := ?_) rfl (by kernel_rfl) (by kernel_rfl) (by kernel_rfl) (fun _ _ _ h => h) (Or.inl ⟨by kernel_rfl, ?_⟩) (by assumption) ?_; rotate_left 1; (intro W0 hSw; (try dsimp only at hSw); go_simp; (try with_reducible rfl)); (try simp only [Act.put, List.setIfInBounds_toArray, List.set_cons_zero, List.set_cons_succ]))
    (refine wpAnyH_take (i := 6) (v := ?_) rfl (by kernel_rfl) (by kernel_rfl) (by kernel_rfl) (fun _ _ _ h => h) (Or.inl ⟨by kernel_rfl, ?_⟩) (by assumption) ?_; rotate_left 1; (intro W0 hSw; obtain ⟨z0, z1, z2, z3, z4, z5⟩ := row6z (XPz.below hSw).row; go_simp; (try with_reducible rfl)); (try simp only [Act.put, List.setIfInBounds_toArray, List.set_cons_zero, List.set_cons_succ]))
    refine wpAnyH_ready (rs := [3]) (by kernel_rfl) (by simp) ?_
    refine AllReadyH.cons rfl (fun K hK => ?_) AllReadyH.nil
    go_simp
    refine (HAN.out wk34.drew _ ((Below.refl wk34.heap.size wk34).drew) (YX.below ((Below.refl wk34.heap.size wk34).drew)).lies).mono ?_
    rintro e wk61 ⟨g1, a1, a2, rfl, o1, o2, o3, o4, ap1, _, bu⟩
    have bk61 : Below wk34.heap.size wk34 wk61 := ((Below.refl wk34.heap.size wk34).drew).trans (bu.mono (((Below.refl wk34.heap.size wk34).drew)).size)
    have HR1 : Hid (∀ W, Below wk61.heap.size wk61 W → liesL false W (Old W) RR g1 0) := fun W hb => rowL_keep ap1 o3 o4 hb
    clear ap1
    clear bu
    go_simp
    refine hK.out _ _ bk61 (fun hHeld => ?_)
    clear hK K
    (try simp only [Act.put, List.setIfInBounds_toArray, List.set_cons_zero, List.set_cons_succ])
    refine wpAnyH_ready (rs := [7]) (by kernel_rfl) (by simp) ?_
    refine AllReadyH.cons rfl (fun K hK => ?_) AllReadyH.nil
    go_simp
    refine (HAN.out wk61 _ bk61 (YO.below bk61).lies).mono ?_
    rintro e wk62 ⟨g2, a3, a4, rfl, o5, o6, o7, o8, ap2, _, bu⟩
    have bk62 : Below wk34.heap.size wk34 wk62 := bk61.trans (bu.mono (bk61).size)
    have HR2 : Hid (liesL false wk62 (Old wk62) RR g1 0 ∧ liesL false wk62 (Old wk62) RR g2 0) := ⟨HR1.out wk62 bu, rowL_keep ap2 o7 o8 (Below.refl _ _)⟩
    clear ap2
    clear bu
    go_simp
    refine hK.out _ _ bk62 (fun hHeld => ?_)
    clear hK K
    (try simp only [Act.put, List.setIfInBounds_toArray, List.set_cons_zero, List.set_cons_succ])
    have C22 := samerow_any RR RR false false (Old wk62) (Old wk62) (some ⟨g1, 0, none⟩) (some ⟨g2, 0, none⟩) RR.length g1 0 RR.length g2 0 wk62 ⟨Nat.le_refl _, HRL.out, .inr rfl, fun h => by cases h⟩ ⟨Nat.le_refl _, HRL.out, .inr rfl, fun h => by cases h⟩ HR2.out.1 HR2.out.2 (fun _ h => h) (fun _ h => h)
    rw [rowB_refl] at C22
    generalize RR.length = RL at *
    refine wpAnyH_ready (rs := [8]) (by kernel_rfl) (by simp) ?_
    refine AllReadyH.cons rfl (fun K hK => ?_) AllReadyH.nil
    go_simp
    refine C22.mono ?_
    rintro e wk63 ⟨rfl, bu⟩
    have bk63 : Below wk34.heap.size wk34 wk63 := bk62.trans (bu.mono (bk62).size)
    clear bu
    go_simp
    refine hK.out _ _ bk63 (fun hHeld => ?_)
    clear hK K
    (try simp only [Act.put, List.setIfInBounds_toArray, List.set_cons_zero, List.set_cons_succ])
    (refine wpAnyH_take (i := 9) (v := ?_) rfl (by kernel_rfl) (by kernel_rfl) (by kernel_rfl) (fun _ _ _ h => h) (Or.inl ⟨by kernel_rfl, ?_⟩) (by assumption) ?_; rotate_left 1; (intro W0 hSw; (try dsimp only at hSw); go_simp; (try with_reducible rfl)); (try simp only [Act.put, List.setIfInBounds_toArray, List.set_cons_zero, List.set_cons_succ]))
    refine wpAnyH_done (by kernel_rfl) ?_ _
    (try dsimp only [Act.put, List.getElem_toArray, List.getElem_cons_succ, List.getElem_cons_zero, List.setIfInBounds_toArray, List.set_cons_zero, List.set_cons_succ])
    clear hHeld
    have cf := Bwk34.trans (bk63.mono Bwk34.size)
    go_wp2_with fail
    go_ret
    exact HEND.out _ cf
end Go.Proofs.YthgfomblodhoaaaDoor
