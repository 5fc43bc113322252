/- kept: the value still, and its room. -/
import Derived.Test.YtljgofmmihmmfaaDoorLitA
set_option linter.unusedSimpArgs false
set_option linter.unusedVariables false
namespace Go.Proofs.YtljgofmmihmmfaaDoor
open Go.RowKit

/-- the rows of a value with room, in some world -/
structure Roomy (k : Int) (b : Bool) (i : Int) (s : ByteArray) (l : List V) (m : List Mem) (N gl cl gm cm : Nat) (SL SM : Nat → Prop) (w : World) : Prop where
  L : OwnL true w N SL (.slice (some ⟨gl, 0, none⟩) (l.length + 70) cl) (l.map some ++ List.replicate 70 none)
  M : OwnM true w N SM (.slice (some ⟨gm, 0, none⟩) (m.length + 70) cm) (m.map some ++ List.replicate 70 none)
theorem Roomy.below {k : Int} {b : Bool} {i : Int} {s : ByteArray} {l : List V} {m : List Mem} {N gl cl gm cm : Nat} {SL SM : Nat → Prop} {w w' : World} (h : Roomy k b i s l m N gl cl gm cm SL SM w) (hb : Below w.heap.size w w') : Roomy k b i s l m N gl cl gm cm SL SM w' := ⟨h.L.below (keepL true) hb, h.M.below (keepM true) hb⟩

theorem rep_at {α : Type} (l : List α) (n q : Nat) (x : α) (hq : q < n) : (l ++ List.replicate n x)[l.length + q]'(by simp; omega) = x := by
  rw [List.getElem_append_right (by omega)]
  simp
theorem Roomy.markL {k : Int} {b : Bool} {i : Int} {s : ByteArray} {l : List V} {m : List Mem} {N gl cl gm cm : Nat} {SL SM : Nat → Prop} {w : World} (h : Roomy k b i s l m N gl cl gm cm SL SM w) (q : Nat) (hq : q < 70) : w.cell? ⟨gl, (l.length + q) * 6, none⟩ = some (.int .i64 77) := by
  obtain ⟨cs, h1, h2⟩ := h.L.at (by simp) (l.length + q) (by simp; omega)
  have e := rep_at (l.map some) 70 q (none : Option V) hq
  simp only [List.length_map] at e
  rw [e] at h2
  have h3 : cs = [.int .i64 77, .bool false, .int .i64 0, .string ⟨#[]⟩, .slice none 0 0, .slice none 0 0] := h2
  subst h3
  have := h1 0 _ rfl
  simpa using this
theorem Roomy.markM {k : Int} {b : Bool} {i : Int} {s : ByteArray} {l : List V} {m : List Mem} {N gl cl gm cm : Nat} {SL SM : Nat → Prop} {w : World} (h : Roomy k b i s l m N gl cl gm cm SL SM w) (q : Nat) (hq : q < 70) : w.cell? ⟨gm, (m.length + q) * 7, none⟩ = some (.string ⟨#[114, 111, 111, 109]⟩) := by
  obtain ⟨cs, h1, h2⟩ := h.M.at (by simp) (m.length + q) (by simp; omega)
  have e := rep_at (m.map some) 70 q (none : Option Mem) hq
  simp only [List.length_map] at e
  rw [e] at h2
  have h3 : cs = [.string ⟨#[114, 111, 111, 109]⟩, .int .i64 0, .bool false, .int .i64 0, .string ⟨#[]⟩, .slice none 0 0, .slice none 0 0] := h2
  subst h3
  have := h1 0 _ rfl
  simpa using this
theorem Roomy.lies {k : Int} {b : Bool} {i : Int} {s : ByteArray} {l : List V} {m : List Mem} {N gl cl gm cm : Nat} {SL SM : Nat → Prop} {w : World} (h : Roomy k b i s l m N gl cl gm cm SL SM w) (hk : In64 k) (hi : In64 i) (hs : s.size ≤ maxLen) :
    (V.mk k b i s l m).lies true w (fun x => N ≤ x ∧ x < w.heap.size) [.int .i64 k, .bool b, .int .i64 i, .string s, .slice (some ⟨gl, 0, none⟩) l.length cl, .slice (some ⟨gm, 0, none⟩) m.length cm] := by
  have hl1 := h.L.le
  have hm1 := h.M.le
  have hgl := h.L.lt (g := gl) rfl
  have hgm := h.M.lt (g := gm) rfl
  have k1 := h.markL 0 (by omega)
  have k2 := h.markM 0 (by omega)
  simp at hl1 hm1
  rw [V.lies]
  refine ⟨_, _, gl, 0, _, _, gm, 0, rfl, hk, hi, hs, ⟨by omega, hl1.2, .inr rfl, fun h => by cases h⟩, ⟨by omega, hm1.2, .inr rfl, fun h => by cases h⟩, liesL_mk fun j hj => ⟨hgl, ?_⟩, liesM_mk fun j hj => ?_, fun _ => ⟨rfl, by omega, hgl, ?_, rfl, by omega, hgm, ?_⟩⟩
  · obtain ⟨cs, h1, h2⟩ := h.L.at (by simp) j (by simp; omega)
    refine ⟨cs, h1, ?_⟩
    rw [List.getElem_append_left (by simpa using hj), List.getElem_map] at h2
    exact V.lies_keep (fun h => h) (fun _ _ => rfl) (fun b hb => ⟨(h.L.off b hb).1, (h.L.off b hb).2.1⟩) _ h2
  · obtain ⟨cs, h1, h2⟩ := h.M.at (by simp) j (by simp; omega)
    rw [List.getElem_append_left (by simpa using hj), List.getElem_map] at h2
    obtain ⟨cs', rfl, hks, h3⟩ := h2
    exact ⟨hgm, hks, cs', h1, V.lies_keep (fun h => h) (fun _ _ => rfl) (fun b hb => ⟨(h.M.off b hb).1, (h.M.off b hb).2.1⟩) _ h3⟩
  · simpa using k1
  · simpa using k2

set_option maxHeartbeats 4000000 in
set_option maxRecDepth 100000 in
theorem kept_any (k : Int) (b : Bool) (i : Int) (s : ByteArray) (l : List V) (m : List Mem) (N gl cl gm cm : Nat) (SL SM S : Nat → Prop) (cs : List Value) (w : World) (h : Roomy k b i s l m N gl cl gm cm SL SM w) (hl : (V.mk k b i s l m).lies false w S cs) (hS : ∀ x, S x → x < w.heap.size) (hwt : (V.mk k b i s l m).wt ≤ 1099511627776) :
    Calls Tryd.prog 13 #[.agg #[.int .i64 k, .bool b, .int .i64 i, .string s, .slice (some ⟨gl, 0, none⟩) l.length cl, .slice (some ⟨gm, 0, none⟩) m.length cm], .agg cs.toArray] w (BPost true w) := by
  have hl0 := hl
  rw [V.lies] at hl
  obtain ⟨al, cl', bl, ol, am, cm', bm, om, rfl, hk, hi, hs, hal, ham, _⟩ := hl
  have hwt' := hwt
  rw [V.wt] at hwt
  have hlm := wtL_len l
  have hmm := wtM_len m
  have B0 := two_below w (.cells #[.int .i64 k, .bool b, .int .i64 i, .string s, .slice (some ⟨gl, 0, none⟩) l.length cl, .slice (some ⟨gm, 0, none⟩) m.length cm] 25) (.cells #[.int .i64 k, .bool b, .int .i64 i, .string s, .slice al l.length cl', .slice am m.length cm'] 25)
  have h0 := h.below B0
  have hli := h0.lies hk hi hs
  have hl1 := V.lies_keep (R' := false) (S' := S) (fun h => h) (fun x hx => B0.block x (hS x hx)) (fun _ h => h) _ hl0
  have hz0 : ((w.alloc (.cells #[.int .i64 k, .bool b, .int .i64 i, .string s, .slice (some ⟨gl, 0, none⟩) l.length cl, .slice (some ⟨gm, 0, none⟩) m.length cm] 25)).alloc (.cells #[.int .i64 k, .bool b, .int .i64 i, .string s, .slice al l.length cl', .slice am m.length cm'] 25)).heap.size = w.heap.size + 1 + 1 := by rw [alloc_size, alloc_size]
  have c1 := same_any (V.mk k b i s l m) true false (V.mk k b i s l m) _ S _ _ _ hli hl1 (fun x hx => hx.2) (fun x hx => by have := hS x hx; omega)
  rw [V.eqB_refl] at c1
  have hb0 : rowAt ((w.alloc (.cells #[.int .i64 k, .bool b, .int .i64 i, .string s, .slice (some ⟨gl, 0, none⟩) l.length cl, .slice (some ⟨gm, 0, none⟩) m.length cm] 25)).alloc (.cells #[.int .i64 k, .bool b, .int .i64 i, .string s, .slice al l.length cl', .slice am m.length cm'] 25)) w.heap.size 0 [.int .i64 k, .bool b, .int .i64 i, .string s, .slice (some ⟨gl, 0, none⟩) l.length cl, .slice (some ⟨gm, 0, none⟩) m.length cm] := (box_row w _ 25).keep (Below.heap_alloc _ _ _ (by rw [alloc_size]; omega))
  have hb1 : rowAt ((w.alloc (.cells #[.int .i64 k, .bool b, .int .i64 i, .string s, .slice (some ⟨gl, 0, none⟩) l.length cl, .slice (some ⟨gm, 0, none⟩) m.length cm] 25)).alloc (.cells #[.int .i64 k, .bool b, .int .i64 i, .string s, .slice al l.length cl', .slice am m.length cm'] 25)) (w.heap.size + 1) 0 [.int .i64 k, .bool b, .int .i64 i, .string s, .slice al l.length cl', .slice am m.length cm'] := by
    have := box_row (w.alloc (.cells #[.int .i64 k, .bool b, .int .i64 i, .string s, .slice (some ⟨gl, 0, none⟩) l.length cl, .slice (some ⟨gm, 0, none⟩) m.length cm] 25)) [.int .i64 k, .bool b, .int .i64 i, .string s, .slice al l.length cl', .slice am m.length cm'] 25
    rwa [alloc_size] at this
  have q1 := h.L.le
  have q2 := h.M.le
  simp only [List.length_append, List.length_map, List.length_replicate] at q1 q2
  have y1 : (l.length : Int) + 70 ≤ cl := by omega
  have y2 : (m.length : Int) + 70 ≤ cm := by omega
  clear hl0 hl1 hli
  go_enter Tryd.func13, Tryd.ntmps13
  go_wp2_with fail
  refine c1.mono ?_
  rintro e w1 ⟨rfl, b1⟩
  have h1 := h0.below b1
  have z1 := b1.size
  have cL := little_any (V.mk k b i s l m) _ _ w1 (h1.lies hk hi hs) (fun x hx => hx.2) hwt'
  obtain ⟨d0, d1, d2, d3, d4, d5⟩ := row6z (hb0.keep (b1.block _ (by omega)))
  go_wp2_with fail
  refine cL.mono ?_
  rintro e w2 ⟨rfl, b2⟩
  have h2 := h1.below b2
  have z2 := b2.size
  clear d0 d1 d2 d3 d4 d5
  obtain ⟨d0, d1, d2, d3, d4, d5⟩ := row6z ((hb0.keep (b1.block _ (by omega))).keep (b2.block _ (by omega)))
  obtain ⟨f0, f1, f2, f3, f4, f5⟩ := row6z ((hb1.keep (b1.block _ (by omega))).keep (b2.block _ (by omega)))
  have m1 := h2.markL
  have m2 := h2.markM
  have HB : Hid (Below w.heap.size w w2) := B0.trans ((b1.trans (b2.mono z1)).mono (by omega))
  clear h h0 h1 h2 hb0 hb1 c1 cL
  go_wp2_with fail
  go_loopw [8] (fun e wr => ∃ j : Nat, j ≤ 70 ∧ e = .int .i64 (j : Int) ∧ wr = w2) (fun e _ => 70 - (RowKit.intOf e).toNat)
  case atStart => exact ⟨0, by omega, rfl, rfl⟩
  case round =>
    obtain ⟨j, hj, rfl, rfl⟩ := hrel
    by_cases hj7 : j < 70
    · have y3 : (j : Int) < 70 := by omega
      have m1j := m1 j hj7
      have m2j := m2 j hj7
      clear m1 m2
      go_wp2_with fail
      go_roundw
      case rel => exact ⟨j + 1, by omega, by go_num, trivial⟩
      case measure => simp [RowKit.intOf]; omega
    · obtain rfl : j = 70 := by omega
      go_wp2_with fail
      go_ret
      exact ⟨rfl, HB.out⟩
end Go.Proofs.YtljgofmmihmmfaaDoor
