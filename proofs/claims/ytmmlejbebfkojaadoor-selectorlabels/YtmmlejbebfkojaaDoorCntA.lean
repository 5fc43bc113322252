import Derived.Test.YtmmlejbebfkojaaDoorOpn
import Derived.WalkKit
import Derived.RowKit
import Derived.OwnWalk
/- freeholdref00: counting a value. -/
set_option linter.unusedSimpArgs false
set_option linter.unusedVariables false
namespace Go.Proofs.YtmmlejbebfkojaaDoor
open Go.RowKit
theorem grown_trans {a b c : World} {row : Option Nat} (h : a.grownBy b row) (k : b.grownBy c row) : a.grownBy c row :=
  ⟨k.os.trans h.os, k.tape.trans h.tape, k.output.trans h.output, Nat.le_trans h.size k.size, fun i hi hr => (k.block i (Nat.lt_of_lt_of_le hi h.size) hr).trans (h.block i hi hr)⟩
theorem grown_alloc {a b : World} {row : Option Nat} (h : a.grownBy b row) (o : Obj) : a.grownBy (b.alloc o) row := grown_trans h (World.grownBy_alloc _ _ _)
theorem grown_set {a b : World} {B : Nat} (h : a.grownBy b (some B)) (i : Nat) (u : Value) : a.grownBy (b.setCell ⟨B, i, none⟩ u) (some B) :=
  ⟨h.os, h.tape, h.output, by simpa [World.setCell] using (by have := h.size; exact this : a.heap.size ≤ b.heap.size), fun k hk hr => (Below.heap_setCell b ⟨B, i, none⟩ u k (fun e => hr (by rw [e]))).trans (h.block k hk hr)⟩
structure Cnt (B n : Nat) (w : World) : Prop where
  c : w.cell? ⟨B, 0, none⟩ = some (.int .i64 (n : Int))
  f : w.frozen? ⟨B, 0, none⟩ = false
theorem Cnt.lt {B n : Nat} {w : World} (h : Cnt B n w) : B < w.heap.size := World.block_lt_of_cell? w _ h.c
theorem Cnt.keep {B n : Nat} {w w' : World} (h : Cnt B n w) (hb : w'.heap[B]? = w.heap[B]?) : Cnt B n w' :=
  ⟨(World.cell?_of_block (w := w) (a := ⟨B, 0, none⟩) hb).trans h.c, (World.frozen?_of_block (w := w) (a := ⟨B, 0, none⟩) hb).trans h.f⟩
/-- the count went on by x, or it was too much -/
def CntPost (B n x : Nat) (w : World) (e : Ending) (w' : World) : Prop := ∃ r, e = .returned (.bool r) ∧ w.grownBy w' (some B) ∧ (r = false → n + x ≤ 2147483647 ∧ Cnt B (n + x) w')
set_option maxHeartbeats 2000000 in
set_option maxRecDepth 100000 in
theorem many_any (B n x : Nat) (w : World) (h : Cnt B n w) (hn : n ≤ 2147483647) (hx : x ≤ maxLen) :
    Calls Tryd.prog 15 #[.pointer (some ⟨B, 0, none⟩), .int .i64 (x : Int)] w (CntPost B n x w) := by
  have c0 := h.c
  have f0 := h.f
  have hx' : x ≤ 9223372036854775807 := hx
  by_cases hb : 2147483647 < x
  · have y1 : (2147483647 : Int) < x := by omega
    go_enter Tryd.func15, Tryd.ntmps15
    go_wp2
    go_ret
    exact ⟨true, rfl, World.grownBy.refl _ _, fun h => by cases h⟩
  · have y1 : ¬ (2147483647 : Int) < x := by omega
    go_enter Tryd.func15, Tryd.ntmps15
    go_wp2
    go_ret
    refine ⟨_, rfl, grown_set (World.grownBy.refl _ _) 0 _, fun h => ?_⟩
    have h2 : n + x ≤ 2147483647 := by
      have := of_decide_eq_false h
      omega
    refine ⟨h2, ?_, ?_⟩
    · rw [World.cell?_setCell_same _ _ _ c0]; rfl
    · rw [World.frozen?_setCell]; exact f0
theorem take_succ_wtL {l : List V} {j : Nat} (h : j < l.length) : wtL (l.take (j + 1)) = wtL (l.take j) + (l[j]).wt := by
  rw [List.take_succ_eq_append_getElem h, wtL_app]; simp [wtL]
theorem take_succ_wtM {l : List Mem} {j : Nat} (h : j < l.length) : wtM (l.take (j + 1)) = wtM (l.take j) + ((l[j]).1.size + (l[j]).2.wt) := by
  rw [List.take_succ_eq_append_getElem h, wtM_app]; simp [wtM]
theorem box_row (w : World) (cs : List Value) (t : TypeId) : rowAt (w.alloc (.cells cs.toArray t)) w.heap.size 0 cs := by
  intro j u hu
  have := heap_alloc_new w (.cells cs.toArray t)
  unfold World.cell?
  rw [this]
  simp [hu]
theorem box_lt (w : World) (o : Obj) : w.heap.size < (w.alloc o).heap.size := by
  have := (Array.getElem?_eq_some_iff.1 (heap_alloc_new w o)).1
  exact this
/-- the six cells of a value, one by one -/
theorem V.six {R : Bool} {w : World} {S : Nat → Prop} {v : V} {cs : List Value} (h : v.lies R w S cs) : ∃ k b i s sl sm, cs = [.int .i64 k, .bool b, .int .i64 i, .string s, sl, sm] := by
  cases v
  rw [V.lies] at h
  obtain ⟨al, cl, bl, ol, am, cm, bm, om, e, _⟩ := h
  exact ⟨_, _, _, _, _, _, e⟩
theorem row6 {w : World} {b o : Nat} {c0 c1 c2 c3 c4 c5 : Value} (h : rowAt w b o [c0, c1, c2, c3, c4, c5]) :
    w.cell? ⟨b, o, none⟩ = some c0 ∧ w.cell? ⟨b, o + 1, none⟩ = some c1 ∧ w.cell? ⟨b, o + 2, none⟩ = some c2 ∧ w.cell? ⟨b, o + 3, none⟩ = some c3 ∧ w.cell? ⟨b, o + 4, none⟩ = some c4 ∧ w.cell? ⟨b, o + 5, none⟩ = some c5 :=
  ⟨h 0 _ rfl, h 1 _ rfl, h 2 _ rfl, h 3 _ rfl, h 4 _ rfl, h 5 _ rfl⟩
theorem row7 {w : World} {b o : Nat} {c c0 c1 c2 c3 c4 c5 : Value} (h : rowAt w b o [c, c0, c1, c2, c3, c4, c5]) :
    w.cell? ⟨b, o, none⟩ = some c ∧ w.cell? ⟨b, o + 1, none⟩ = some c0 ∧ w.cell? ⟨b, o + 2, none⟩ = some c1 ∧ w.cell? ⟨b, o + 3, none⟩ = some c2 ∧ w.cell? ⟨b, o + 4, none⟩ = some c3 ∧ w.cell? ⟨b, o + 5, none⟩ = some c4 ∧ w.cell? ⟨b, o + 6, none⟩ = some c5 :=
  ⟨h 0 _ rfl, h 1 _ rfl, h 2 _ rfl, h 3 _ rfl, h 4 _ rfl, h 5 _ rfl, h 6 _ rfl⟩
theorem row6z {w : World} {b : Nat} {c0 c1 c2 c3 c4 c5 : Value} (h : rowAt w b 0 [c0, c1, c2, c3, c4, c5]) :
    w.cell? ⟨b, 0, none⟩ = some c0 ∧ w.cell? ⟨b, 1, none⟩ = some c1 ∧ w.cell? ⟨b, 2, none⟩ = some c2 ∧ w.cell? ⟨b, 3, none⟩ = some c3 ∧ w.cell? ⟨b, 4, none⟩ = some c4 ∧ w.cell? ⟨b, 5, none⟩ = some c5 := by
  have := row6 h
  simpa using this
set_option maxHeartbeats 4000000 in
set_option maxRecDepth 100000 in
theorem cval_any (v : V) : ∀ (B n left : Nat) (S : Nat → Prop) (cs : List Value) (w : World), v.lies false w S cs → (∀ b, S b → b ≠ B ∧ b < w.heap.size) → Cnt B n w → n ≤ 2147483647 → left ≤ 65520 →
    Calls Tryd.prog 10 #[.pointer (some ⟨B, 0, none⟩), .agg cs.toArray, .int .i64 (left : Int)] w (CntPost B n v.wt w) := by
  induction v using V.ind_v with
  | h k b i s l m ihl ihm =>
  intro B n left S cs w hl hS hc hn hleft
  rw [V.lies] at hl
  obtain ⟨al, cl, bl, ol, am, cm, bm, om, rfl, hk, hi, hs, hal, ham, hl1, hm1, _⟩ := hl
  have HL : Hid (liesL false w S l bl ol) := hl1
  have HM : Hid (liesM false w S m bm om) := hm1
  clear hl1 hm1
  by_cases hz : left = 0
  · subst hz
    go_enter Tryd.func10, Tryd.ntmps10
    go_wp2_with fail
    go_ret
    exact ⟨true, rfl, World.grownBy_alloc _ _ _, fun h => by cases h⟩
  have hz' : ((left : Int) == 0) = false := by rw [beq_eq_false_iff_ne]; omega
  have hB := hc.lt
  have hll : l.length ≤ 9223372036854775807 := Nat.le_trans hal.le hal.max
  have hml : m.length ≤ 9223372036854775807 := Nat.le_trans ham.le ham.max
  have hlm := wtL_len l
  have hmm := wtM_len m
  let w0 := w.alloc (.cells #[.int .i64 k, .bool b, .int .i64 i, .string s, .slice al l.length cl, .slice am m.length cm] 25)
  have g0 : w.grownBy w0 (some B) := World.grownBy_alloc _ _ _
  have hbx : rowAt w0 w.heap.size 0 [.int .i64 k, .bool b, .int .i64 i, .string s, .slice al l.length cl, .slice am m.length cm] := box_row w _ 25
  have hbw : w.heap.size < w0.heap.size := box_lt w _ 
  have hkeep : ∀ wr : World, w0.grownBy wr (some B) → ∀ b, S b → wr.heap[b]? = w.heap[b]? := fun wr g b hb =>
    (grown_trans g0 g).block b (hS b hb).2 (fun e => (hS b hb).1 (Option.some.inj e))
  have hbxr : ∀ wr : World, w0.grownBy wr (some B) → rowAt wr w.heap.size 0 [.int .i64 k, .bool b, .int .i64 i, .string s, .slice al l.length cl, .slice am m.length cm] := fun wr g =>
    hbx.keep (g.block _ hbw (fun e => by have := Option.some.inj e; omega))
  have c1 := many_any B n 1 w0 (hc.keep (Below.heap_alloc w _ B hB)) hn (by simp [maxLen])
  go_enter Tryd.func10, Tryd.ntmps10
  go_wp2_with fail
  refine c1.mono ?_
  rintro e w1 ⟨r, rfl, g1, h1⟩
  cases r
  · obtain ⟨hn1, hc1⟩ := h1 rfl
    obtain ⟨d0, d1, d2, d3, d4, d5⟩ := row6z (hbxr w1 g1)
    go_wp2_with fail
    refine (many_any B (n + 1) s.size w1 hc1 hn1 hs).mono ?_
    rintro e w2 ⟨r, rfl, g2, h2⟩
    cases r
    · obtain ⟨hn2, hc2⟩ := h2 rfl
      have g02 := grown_trans g1 g2
      clear d0 d1 d2 d3 d4 d5
      obtain ⟨d0, d1, d2, d3, d4, d5⟩ := row6z (hbxr w2 g02)
      go_wp2_with fail
      go_loopw [7] (fun e wr => ∃ j : Nat, j ≤ l.length ∧ e = .int .i64 (j : Int) ∧ n + 1 + s.size + wtL (l.take j) ≤ 2147483647 ∧ Cnt B (n + 1 + s.size + wtL (l.take j)) wr ∧ w0.grownBy wr (some B)) (fun e _ => l.length - (RowKit.intOf e).toNat)
      case atStart => exact ⟨0, by omega, rfl, by simpa [wtL] using hn2, by simpa [wtL] using hc2, g02⟩
      case round =>
        obtain ⟨j, hj, rfl, hnj, hcj, gj⟩ := hrel
        obtain ⟨d0, d1, d2, d3, d4, d5⟩ := row6z (hbxr wr gj)
        by_cases hjl : j < l.length
        · have y1 : (j : Int) < l.length := by omega
          obtain ⟨hSb, csj, hrow, hlj⟩ := liesL_get HL.out j hjl
          obtain rfl : al = some ⟨bl, ol, none⟩ := hal.at_.resolve_left (by omega)
          have hrow' := hrow.keep (hkeep wr gj _ hSb)
          have hlj' := V.lies_keep (R' := false) (S' := S) (fun h => h) (hkeep wr gj) (fun _ h => h) _ hlj
          have ih := ihl l[j] (List.getElem_mem hjl) B (n + 1 + s.size + wtL (l.take j)) (left - 1) S csj wr hlj' (fun b hb => ⟨(hS b hb).1, by have := (hS b hb).2; have := (grown_trans g0 gj).size; omega⟩) hcj hnj (by omega)
          have HT : Hid (wtL (l.take (j + 1)) = wtL (l.take j) + (l[j]).wt) := take_succ_wtL hjl
          obtain ⟨ek, eb, ei, es, esl, esm, rfl⟩ := V.six hlj
          obtain ⟨q0, q1, q2, q3, q4, q5⟩ := row6 hrow'
          have hsub : ((left - 1 : Nat) : Int) = (left : Int) - 1 := by omega
          rw [hsub] at ih
          clear hlj hlj' hrow hrow'
          go_wp2_with fail
          refine ih.mono ?_
          rintro e w3 ⟨r, rfl, g3, h3⟩
          cases r
          · obtain ⟨hn3, hc3⟩ := h3 rfl
            go_wp2_with fail
            go_roundw
            case rel => exact ⟨j + 1, by omega, by go_num, by rw [HT.out]; omega, by rw [HT.out, ← Nat.add_assoc]; exact hc3, grown_trans gj g3⟩
            case measure => simp [RowKit.intOf]; omega
          · go_wp2_with fail
            go_ret
            exact ⟨true, rfl, grown_trans g0 (grown_trans gj g3), fun h => by cases h⟩
        · obtain rfl : j = l.length := by omega
          rw [List.take_length] at hnj hcj
          have y1 : ¬ (l.length : Int) < l.length := by omega
          go_wp2_with fail
          go_loopw [9] (fun e wr => ∃ j : Nat, j ≤ m.length ∧ e = .int .i64 (j : Int) ∧ n + 1 + s.size + wtL l + wtM (m.take j) ≤ 2147483647 ∧ Cnt B (n + 1 + s.size + wtL l + wtM (m.take j)) wr ∧ w0.grownBy wr (some B)) (fun e _ => m.length - (RowKit.intOf e).toNat)
          case atStart => exact ⟨0, by omega, rfl, by simpa [wtM] using hnj, by simpa [wtM] using hcj, gj⟩
          case round =>
            clear hnj hcj d0 d1 d2 d3 d4 d5
            obtain ⟨j, hj, rfl, hnj, hcj, gj⟩ := hrel
            obtain ⟨d0, d1, d2, d3, d4, d5⟩ := row6z (hbxr wr gj)
            by_cases hjl : j < m.length
            · have y1 : (j : Int) < m.length := by omega
              obtain ⟨hSb, hks, csj, hrow, hlj⟩ := liesM_get HM.out j hjl
              obtain rfl : am = some ⟨bm, om, none⟩ := ham.at_.resolve_left (by omega)
              have hrow' := hrow.keep (hkeep wr gj _ hSb)
              have hlj' := V.lies_keep (R' := false) (S' := S) (fun h => h) (hkeep wr gj) (fun _ h => h) _ hlj
              have HT : Hid (wtM (m.take (j + 1)) = wtM (m.take j) + ((m[j]).1.size + (m[j]).2.wt)) := take_succ_wtM hjl
              have HI : Hid _ := ihm m[j] (List.getElem_mem hjl)
              obtain ⟨ek, eb, ei, es, esl, esm, rfl⟩ := V.six hlj
              generalize hmj : m[j] = mj at *
              obtain ⟨q, q0, q1, q2, q3, q4, q5⟩ := row7 hrow'
              clear hlj hrow hrow'
              go_wp2_with fail
              refine (many_any B _ mj.1.size wr hcj hnj hks).mono ?_
              rintro e w3 ⟨r, rfl, g3, h3⟩
              cases r
              · obtain ⟨hn3, hc3⟩ := h3 rfl
                have g03 := grown_trans gj g3
                have hlj3 := V.lies_keep (R' := false) (S' := S) (fun h => h) (fun b hb => (g3.block b (Nat.lt_of_lt_of_le (hS b hb).2 (grown_trans g0 gj).size) (fun e => (hS b hb).1 (Option.some.inj e)))) (fun _ h => h) _ hlj'
                have ih := HI.out B _ (left - 1) S _ w3 hlj3 (fun b hb => ⟨(hS b hb).1, by have := (hS b hb).2; have := (grown_trans g0 g03).size; omega⟩) hc3 hn3 (by omega)
                have hsub : ((left - 1 : Nat) : Int) = (left : Int) - 1 := by omega
                rw [hsub] at ih
                have hbb : bm < wr.heap.size := Nat.lt_of_lt_of_le (hS bm hSb).2 (grown_trans g0 gj).size
                have hbne : some bm ≠ some B := fun e => (hS bm hSb).1 (Option.some.inj e)
                replace q := g3.cell q hbne
                replace q0 := g3.cell q0 hbne
                replace q1 := g3.cell q1 hbne
                replace q2 := g3.cell q2 hbne
                replace q3 := g3.cell q3 hbne
                replace q4 := g3.cell q4 hbne
                replace q5 := g3.cell q5 hbne
                clear d0 d1 d2 d3 d4 d5 hlj' hlj3 h3
                obtain ⟨d0, d1, d2, d3, d4, d5⟩ := row6z (hbxr w3 g03)
                go_wp2_with fail
                refine ih.mono ?_
                rintro e w4 ⟨r, rfl, g4, h4⟩
                cases r
                · obtain ⟨hn4, hc4⟩ := h4 rfl
                  go_wp2_with fail
                  go_roundw
                  case rel => exact ⟨j + 1, by omega, by go_num, by rw [HT.out]; omega, by rw [HT.out]; simpa only [Nat.add_assoc] using hc4, grown_trans g03 g4⟩
                  case measure => simp [RowKit.intOf]; omega
                · go_wp2_with fail
                  go_ret
                  exact ⟨true, rfl, grown_trans g0 (grown_trans g03 g4), fun h => by cases h⟩
              · go_wp2_with fail
                go_ret
                exact ⟨true, rfl, grown_trans g0 (grown_trans gj g3), fun h => by cases h⟩
            · obtain rfl : j = m.length := by omega
              rw [List.take_length] at hnj hcj
              have y1 : ¬ (m.length : Int) < m.length := by omega
              go_wp2_with fail
              go_ret
              refine ⟨false, rfl, grown_trans g0 gj, fun _ => ?_⟩
              rw [V.wt]
              exact ⟨by omega, by rw [show n + (1 + s.size + wtL l + wtM m) = n + 1 + s.size + wtL l + wtM m by omega]; exact hcj⟩
    · go_wp2_with fail
      go_ret
      exact ⟨true, rfl, grown_trans g0 (grown_trans g1 g2), fun h => by cases h⟩
  · go_wp2_with fail
    go_ret
    exact ⟨true, rfl, grown_trans g0 g1, fun h => by cases h⟩
end Go.Proofs.YtmmlejbebfkojaaDoor
