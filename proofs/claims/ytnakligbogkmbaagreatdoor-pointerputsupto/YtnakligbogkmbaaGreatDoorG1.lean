/- joined: CntA AppN -/
import Derived.Test.YtnakligbogkmbaaGreatDoorG0
import Derived.WalkKit
import Derived.RowKit
import Derived.OwnWalk
import Derived.ArgAppend
import Derived.Deep.RegionLaw
set_option linter.unusedSimpArgs false
set_option linter.unusedVariables false
namespace Go.Proofs.YtnakligbogkmbaaGreatDoor
open Go.RowKit
theorem gTr {a b c : World} {row : Option Nat} (h : a.grownBy b row) (k : b.grownBy c row) : a.grownBy c row :=
 ⟨k.os.trans h.os, k.tape.trans h.tape, k.output.trans h.output, Nat.le_trans h.size k.size, fun i hi hr => (k.block i (Nat.lt_of_lt_of_le hi h.size) hr).trans (h.block i hi hr)⟩
theorem grown_alloc {a b : World} {row : Option Nat} (h : a.grownBy b row) (o : Obj) : a.grownBy (b.alloc o) row := gTr h (World.grownBy_alloc _ _ _)
theorem gSt {a b : World} {B : Nat} (h : a.grownBy b (some B)) (i : Nat) (u : Value) : a.grownBy (b.setCell ⟨B, i, none⟩ u) (some B) :=
 ⟨h.os, h.tape, h.output, by simpa [World.setCell] using (by have := h.size; exact this : a.heap.size ≤ b.heap.size), fun k hk hr => (Below.heap_setCell b ⟨B, i, none⟩ u k (fun e => hr (by rw [e]))).trans (h.block k hk hr)⟩
structure Cnt (B n : Nat) (w : World) : Prop where
 c : w.cell? ⟨B, 0, none⟩ = some (.int .i64 (n : Int))
 f : w.frozen? ⟨B, 0, none⟩ = false
theorem Cnt.lt {B n : Nat} {w : World} (h : Cnt B n w) : B < w.heap.size := World.block_lt_of_cell? w _ h.c
theorem Cnt.keep {B n : Nat} {w w' : World} (h : Cnt B n w) (hb : w'.heap[B]? = w.heap[B]?) : Cnt B n w' :=
 ⟨(World.cell?_of_block (w := w) (a := ⟨B, 0, none⟩) hb).trans h.c, (World.frozen?_of_block (w := w) (a := ⟨B, 0, none⟩) hb).trans h.f⟩
def CntPost (B n x : Nat) (w : World) (e : Ending) (w' : World) : Prop := ∃ r, e = .returned (.bool r) ∧ w.grownBy w' (some B) ∧ (r = false → n + x ≤ 2147483647 ∧ Cnt B (n + x) w')
set_option maxHeartbeats 8000000 in
set_option maxRecDepth 100000 in
theorem many_any (B n x : Nat) (w : World) (h : Cnt B n w) (hn : n ≤ 2147483647) (hx : x ≤ maxLen) :
 Calls Tryz.prog 46 #[.pointer (some ⟨B, 0, none⟩), .int .i64 (x : Int)] w (CntPost B n x w) := by
 have c0 := h.c
 have f0 := h.f
 have hx' : x ≤ 9223372036854775807 := hx
 by_cases hb : 2147483647 < x
 ·have y1 : (2147483647 : Int) < x := by omega
  go_enter Tryz.func46, Tryz.ntmps46
  go_wp2
  go_ret
  exact ⟨true, rfl, World.grownBy.refl _ _, fun h => by cases h⟩
 ·have y1 : ¬ (2147483647 : Int) < x := by omega
  go_enter Tryz.func46, Tryz.ntmps46
  go_wp2
  go_ret
  refine ⟨_, rfl, gSt (World.grownBy.refl _ _) 0 _, fun h => ?_⟩
  have h2 : n + x ≤ 2147483647 := by
   have := of_decide_eq_false h
   omega
  refine ⟨h2, ?_, ?_⟩
  ·rw [World.cell?_setCell_same _ _ _ c0]; rfl
  ·rw [World.frozen?_setCell]; exact f0
theorem take_succ_wtL {l : List V} {j : Nat} (h : j < l.length) : wtL (l.take (j + 1)) = wtL (l.take j) + (l[j]).wt := by
 rw [List.take_succ_eq_append_getElem h, wtL_app]; simp [wtL]
theorem take_succ_wtM {l : List Mem} {j : Nat} (h : j < l.length) : wtM (l.take (j + 1)) = wtM (l.take j) + ((l[j]).1.size + (l[j]).2.wt) := by
 rw [List.take_succ_eq_append_getElem h, wtM_app]; simp [wtM]
theorem box_row (w : World) (cs : List Value) (t : TypeId) : rowAt (w.alloc (.cells cs.toArray t)) w.heap.size 0 cs := by
 intro j u hu
 have := heap_alloc_new w (.cells cs.toArray t)
 unfold World.cell?
 rw [this]
 simp [hu]
theorem box_lt (w : World) (o : Obj) : w.heap.size < (w.alloc o).heap.size := by
 have := (Array.getElem?_eq_some_iff.1 (heap_alloc_new w o)).1
 exact this
theorem V.six {R : Bool} {w : World} {S : Nat → Prop} {v : V} {cs : List Value} (h : v.lies R w S cs) : ∃ k b i s sl sm, cs = [.int .i64 k, .bool b, .int .i64 i, .string s, sl, sm] := by
 cases v
 rw [V.lies] at h
 obtain ⟨al, cl, bl, ol, am, cm, bm, om, e, _⟩ := h
 exact ⟨_, _, _, _, _, _, e⟩
theorem row6 {w : World} {b o : Nat} {c0 c1 c2 c3 c4 c5 : Value} (h : rowAt w b o [c0, c1, c2, c3, c4, c5]) :
 w.cell? ⟨b, o, none⟩ = some c0 ∧ w.cell? ⟨b, o + 1, none⟩ = some c1 ∧ w.cell? ⟨b, o + 2, none⟩ = some c2 ∧ w.cell? ⟨b, o + 3, none⟩ = some c3 ∧ w.cell? ⟨b, o + 4, none⟩ = some c4 ∧ w.cell? ⟨b, o + 5, none⟩ = some c5 :=
 ⟨h 0 _ rfl, h 1 _ rfl, h 2 _ rfl, h 3 _ rfl, h 4 _ rfl, h 5 _ rfl⟩
theorem row7 {w : World} {b o : Nat} {c c0 c1 c2 c3 c4 c5 : Value} (h : rowAt w b o [c, c0, c1, c2, c3, c4, c5]) :
 w.cell? ⟨b, o, none⟩ = some c ∧ w.cell? ⟨b, o + 1, none⟩ = some c0 ∧ w.cell? ⟨b, o + 2, none⟩ = some c1 ∧ w.cell? ⟨b, o + 3, none⟩ = some c2 ∧ w.cell? ⟨b, o + 4, none⟩ = some c3 ∧ w.cell? ⟨b, o + 5, none⟩ = some c4 ∧ w.cell? ⟨b, o + 6, none⟩ = some c5 :=
 ⟨h 0 _ rfl, h 1 _ rfl, h 2 _ rfl, h 3 _ rfl, h 4 _ rfl, h 5 _ rfl, h 6 _ rfl⟩
theorem row6z {w : World} {b : Nat} {c0 c1 c2 c3 c4 c5 : Value} (h : rowAt w b 0 [c0, c1, c2, c3, c4, c5]) :
 w.cell? ⟨b, 0, none⟩ = some c0 ∧ w.cell? ⟨b, 1, none⟩ = some c1 ∧ w.cell? ⟨b, 2, none⟩ = some c2 ∧ w.cell? ⟨b, 3, none⟩ = some c3 ∧ w.cell? ⟨b, 4, none⟩ = some c4 ∧ w.cell? ⟨b, 5, none⟩ = some c5 := by
 have := row6 h
 simpa using this
set_option maxHeartbeats 8000000 in
set_option maxRecDepth 100000 in
theorem cval_any (v : V) : ∀ (B n left : Nat) (S : Nat → Prop) (cs : List Value) (w : World), v.lies false w S cs → (∀ b, S b → b ≠ B ∧ b < w.heap.size) → Cnt B n w → n ≤ 2147483647 → left ≤ 65520 →
 Calls Tryz.prog 29 #[.pointer (some ⟨B, 0, none⟩), .agg cs.toArray, .int .i64 (left : Int)] w (CntPost B n v.wt w) := by
 induction v using V.ind_v with
 | h k b i s l m ihl ihm =>
 intro B n left S cs w hl hS hc hn hleft
 rw [V.lies] at hl
 obtain ⟨al, cl, bl, ol, am, cm, bm, om, rfl, hk, hi, hs, hal, ham, hl1, hm1, _⟩ := hl
 have HL : Hid (liesL false w S l bl ol) := hl1
 have HM : Hid (liesM false w S m bm om) := hm1
 clear hl1 hm1
 by_cases hz : left = 0
 ·subst hz
  go_enter Tryz.func29, Tryz.ntmps29
  go_wp2_with fail
  go_ret
  exact ⟨true, rfl, World.grownBy_alloc _ _ _, fun h => by cases h⟩
 have hz' : ((left : Int) == 0) = false := by rw [beq_eq_false_iff_ne]; omega
 have hB := hc.lt
 have hll : l.length ≤ 9223372036854775807 := Nat.le_trans hal.le hal.max
 have hml : m.length ≤ 9223372036854775807 := Nat.le_trans ham.le ham.max
 have hlm := wtL_len l
 have hmm := wtM_len m
 let w0 := w.alloc (.cells #[.int .i64 k, .bool b, .int .i64 i, .string s, .slice al l.length cl, .slice am m.length cm] 25)
 have g0 : w.grownBy w0 (some B) := World.grownBy_alloc _ _ _
 have hbx : rowAt w0 w.heap.size 0 [.int .i64 k, .bool b, .int .i64 i, .string s, .slice al l.length cl, .slice am m.length cm] := box_row w _ 25
 have hbw : w.heap.size < w0.heap.size := box_lt w _ 
 have hkeep : ∀ wr : World, w0.grownBy wr (some B) → ∀ b, S b → wr.heap[b]? = w.heap[b]? := fun wr g b hb =>
  (gTr g0 g).block b (hS b hb).2 (fun e => (hS b hb).1 (Option.some.inj e))
 have hbxr : ∀ wr : World, w0.grownBy wr (some B) → rowAt wr w.heap.size 0 [.int .i64 k, .bool b, .int .i64 i, .string s, .slice al l.length cl, .slice am m.length cm] := fun wr g =>
  hbx.keep (g.block _ hbw (fun e => by have := Option.some.inj e; omega))
 have c1 := many_any B n 1 w0 (hc.keep (Below.heap_alloc w _ B hB)) hn (by simp [maxLen])
 go_enter Tryz.func29, Tryz.ntmps29
 go_wp2_with fail
 refine c1.mono ?_
 rintro e w1 ⟨r, rfl, g1, h1⟩
 cases r
 ·obtain ⟨hn1, hc1⟩ := h1 rfl
  obtain ⟨d0, d1, d2, d3, d4, d5⟩ := row6z (hbxr w1 g1)
  go_wp2_with fail
  refine (many_any B (n + 1) s.size w1 hc1 hn1 hs).mono ?_
  rintro e w2 ⟨r, rfl, g2, h2⟩
  cases r
  ·obtain ⟨hn2, hc2⟩ := h2 rfl
   have g02 := gTr g1 g2
   clear d0 d1 d2 d3 d4 d5
   obtain ⟨d0, d1, d2, d3, d4, d5⟩ := row6z (hbxr w2 g02)
   go_wp2_with fail
   go_loopw [7] (fun e wr => ∃ j : Nat, j ≤ l.length ∧ e = .int .i64 (j : Int) ∧ n + 1 + s.size + wtL (l.take j) ≤ 2147483647 ∧ Cnt B (n + 1 + s.size + wtL (l.take j)) wr ∧ w0.grownBy wr (some B)) (fun e _ => l.length - (RowKit.intOf e).toNat)
   case atStart => exact ⟨0, by omega, rfl, by simpa [wtL] using hn2, by simpa [wtL] using hc2, g02⟩
   case round =>
    obtain ⟨j, hj, rfl, hnj, hcj, gj⟩ := hrel
    obtain ⟨d0, d1, d2, d3, d4, d5⟩ := row6z (hbxr wr gj)
    by_cases hjl : j < l.length
    ·have y1 : (j : Int) < l.length := by omega
     obtain ⟨hSb, csj, hrow, hlj⟩ := liesL_get HL.out j hjl
     obtain rfl : al = some ⟨bl, ol, none⟩ := hal.at_.resolve_left (by omega)
     have hrow' := hrow.keep (hkeep wr gj _ hSb)
     have hlj' := V.lies_keep (R' := false) (S' := S) (fun h => h) (hkeep wr gj) (fun _ h => h) _ hlj
     have ih := ihl l[j] (List.getElem_mem hjl) B (n + 1 + s.size + wtL (l.take j)) (left - 1) S csj wr hlj' (fun b hb => ⟨(hS b hb).1, by have := (hS b hb).2; have := (gTr g0 gj).size; omega⟩) hcj hnj (by omega)
     have HT : Hid (wtL (l.take (j + 1)) = wtL (l.take j) + (l[j]).wt) := take_succ_wtL hjl
     obtain ⟨ek, eb, ei, es, esl, esm, rfl⟩ := V.six hlj
     obtain ⟨q0, q1, q2, q3, q4, q5⟩ := row6 hrow'
     have hsub : ((left - 1 : Nat) : Int) = (left : Int) - 1 := by omega
     rw [hsub] at ih
     clear hlj hlj' hrow hrow'
     go_wp2_with fail
     refine ih.mono ?_
     rintro e w3 ⟨r, rfl, g3, h3⟩
     cases r
     ·obtain ⟨hn3, hc3⟩ := h3 rfl
      go_wp2_with fail
      go_roundw
      case rel => exact ⟨j + 1, by omega, by go_num, by rw [HT.out]; omega, by rw [HT.out, ← Nat.add_assoc]; exact hc3, gTr gj g3⟩
      case measure => simp [RowKit.intOf]; omega
     ·go_wp2_with fail
      go_ret
      exact ⟨true, rfl, gTr g0 (gTr gj g3), fun h => by cases h⟩
    ·obtain rfl : j = l.length := by omega
     rw [List.take_length] at hnj hcj
     have y1 : ¬ (l.length : Int) < l.length := by omega
     go_wp2_with fail
     go_loopw [9] (fun e wr => ∃ j : Nat, j ≤ m.length ∧ e = .int .i64 (j : Int) ∧ n + 1 + s.size + wtL l + wtM (m.take j) ≤ 2147483647 ∧ Cnt B (n + 1 + s.size + wtL l + wtM (m.take j)) wr ∧ w0.grownBy wr (some B)) (fun e _ => m.length - (RowKit.intOf e).toNat)
     case atStart => exact ⟨0, by omega, rfl, by simpa [wtM] using hnj, by simpa [wtM] using hcj, gj⟩
     case round =>
      clear hnj hcj d0 d1 d2 d3 d4 d5
      obtain ⟨j, hj, rfl, hnj, hcj, gj⟩ := hrel
      obtain ⟨d0, d1, d2, d3, d4, d5⟩ := row6z (hbxr wr gj)
      by_cases hjl : j < m.length
      ·have y1 : (j : Int) < m.length := by omega
       obtain ⟨hSb, hks, csj, hrow, hlj⟩ := liesM_get HM.out j hjl
       obtain rfl : am = some ⟨bm, om, none⟩ := ham.at_.resolve_left (by omega)
       have hrow' := hrow.keep (hkeep wr gj _ hSb)
       have hlj' := V.lies_keep (R' := false) (S' := S) (fun h => h) (hkeep wr gj) (fun _ h => h) _ hlj
       have HT : Hid (wtM (m.take (j + 1)) = wtM (m.take j) + ((m[j]).1.size + (m[j]).2.wt)) := take_succ_wtM hjl
       have HI : Hid _ := ihm m[j] (List.getElem_mem hjl)
       obtain ⟨ek, eb, ei, es, esl, esm, rfl⟩ := V.six hlj
       generalize hmj : m[j] = mj at *
       obtain ⟨q, q0, q1, q2, q3, q4, q5⟩ := row7 hrow'
       clear hlj hrow hrow'
       go_wp2_with fail
       refine (many_any B _ mj.1.size wr hcj hnj hks).mono ?_
       rintro e w3 ⟨r, rfl, g3, h3⟩
       cases r
       ·obtain ⟨hn3, hc3⟩ := h3 rfl
        have g03 := gTr gj g3
        have hlj3 := V.lies_keep (R' := false) (S' := S) (fun h => h) (fun b hb => (g3.block b (Nat.lt_of_lt_of_le (hS b hb).2 (gTr g0 gj).size) (fun e => (hS b hb).1 (Option.some.inj e)))) (fun _ h => h) _ hlj'
        have ih := HI.out B _ (left - 1) S _ w3 hlj3 (fun b hb => ⟨(hS b hb).1, by have := (hS b hb).2; have := (gTr g0 g03).size; omega⟩) hc3 hn3 (by omega)
        have hsub : ((left - 1 : Nat) : Int) = (left : Int) - 1 := by omega
        rw [hsub] at ih
        have hbb : bm < wr.heap.size := Nat.lt_of_lt_of_le (hS bm hSb).2 (gTr g0 gj).size
        have hbne : some bm ≠ some B := fun e => (hS bm hSb).1 (Option.some.inj e)
        replace q := g3.cell q hbne
        replace q0 := g3.cell q0 hbne
        replace q1 := g3.cell q1 hbne
        replace q2 := g3.cell q2 hbne
        replace q3 := g3.cell q3 hbne
        replace q4 := g3.cell q4 hbne
        replace q5 := g3.cell q5 hbne
        clear d0 d1 d2 d3 d4 d5 hlj' hlj3 h3
        obtain ⟨d0, d1, d2, d3, d4, d5⟩ := row6z (hbxr w3 g03)
        go_wp2_with fail
        refine ih.mono ?_
        rintro e w4 ⟨r, rfl, g4, h4⟩
        cases r
        ·obtain ⟨hn4, hc4⟩ := h4 rfl
         go_wp2_with fail
         go_roundw
         case rel => exact ⟨j + 1, by omega, by go_num, by rw [HT.out]; omega, by rw [HT.out]; simpa only [Nat.add_assoc] using hc4, gTr g03 g4⟩
         case measure => simp [RowKit.intOf]; omega
        ·go_wp2_with fail
         go_ret
         exact ⟨true, rfl, gTr g0 (gTr g03 g4), fun h => by cases h⟩
       ·go_wp2_with fail
        go_ret
        exact ⟨true, rfl, gTr g0 (gTr gj g3), fun h => by cases h⟩
      ·obtain rfl : j = m.length := by omega
       rw [List.take_length] at hnj hcj
       have y1 : ¬ (m.length : Int) < m.length := by omega
       go_wp2_with fail
       go_ret
       refine ⟨false, rfl, gTr g0 gj, fun _ => ?_⟩
       rw [V.wt]
       exact ⟨by omega, by rw [show n + (1 + s.size + wtL l + wtM m) = n + 1 + s.size + wtL l + wtM m by omega]; exact hcj⟩
  ·go_wp2_with fail
   go_ret
   exact ⟨true, rfl, gTr g0 (gTr g1 g2), fun h => by cases h⟩
 ·go_wp2_with fail
  go_ret
  exact ⟨true, rfl, gTr g0 g1, fun h => by cases h⟩
end Go.Proofs.YtnakligbogkmbaaGreatDoor
namespace Go.Proofs.YtnakligbogkmbaaGreatDoor
open Go.RowKit
section
variable {P : Program}
theorem run_append_new (w : World) (base : Nat) (t ty e : TypeId) (i : TypeInfo) (z : Value) (size bytes : Nat) (ht : P.underlying t = some (.slice e)) (hi : P.info? e = some i) (hz : i.zero = some z)
 (hsize : i.size = size) (hby : i.bytes = bytes) (hzs : z.cells.size = size) (hsz : 0 < size)
 (v : Value) (n : Nat) (xs : List Value) (hown : w.ownsRow base e size v n xs)
 (a : Addr) (m c : Nat) (news : List Value) (hl : news.length = m * size) (hnews : ∀ j u, news[j]? = some u → w.cell? (a.add j) = some u) (h1 : ∀ u ∈ news, u.oneCell' = true)
 (h63 : n + m ≤ maxLen) (hbytes : (n + m) * bytes ≤ 140737488355328) (hbase : base ≤ w.heap.size) (hm : 0 < m) :
 ∃ g cap w', (Builtin.append_ #[t, t] ty #[v, .slice (some a) m c]).run P w = .ok (.slice (some ⟨g, 0, none⟩) (n + m) cap) w' ∧ w'.ownsRow base e size (.slice (some ⟨g, 0, none⟩) (n + m) cap) (n + m) (xs ++ news) ∧ w.grownBy w' v.ownBlock ∧
  (v.ownBlock = some g ∨ w.heap.size ≤ g) := by
 have hnew : ∀ v' w', (Builtin.append_ #[t, t] ty #[v, .slice (some a) m c]).run P w = .ok v' w' → w'.ownsRow w.heap.size e size v' (n + m) (xs ++ news) → w.grownBy w' none →
  ∃ g cap w', (Builtin.append_ #[t, t] ty #[v, .slice (some a) m c]).run P w = .ok (.slice (some ⟨g, 0, none⟩) (n + m) cap) w' ∧ w'.ownsRow base e size (.slice (some ⟨g, 0, none⟩) (n + m) cap) (n + m) (xs ++ news) ∧ w.grownBy w' v.ownBlock ∧
  (v.ownBlock = some g ∨ w.heap.size ≤ g) := by
  intro v' w' hrun ho hg
  rcases ho.2 with ⟨_, h0⟩ | ⟨g, cap, cur, rfl, hb, hg1, hc1, hc2, hc3, hc4⟩
  ·omega
  ·exact ⟨g, cap, w', hrun, ⟨ho.1, .inr ⟨g, cap, cur, rfl, Nat.le_trans hbase hb, hg1, hc1, hc2, hc3, hc4⟩⟩, ⟨hg.os, hg.tape, hg.output, hg.size, fun k hk _ => hg.block k hk (by simp)⟩, .inr hb⟩
 rcases hown.2 with ⟨rfl, rfl⟩ | ⟨g, cap, cur, rfl, hb, hg, hc1, hc2, hc3, hc4⟩
 ·have hx0 : xs = [] := List.eq_nil_of_length_eq_zero (by simpa using hown.1)
  subst hx0
  obtain ⟨v', w', hrun, r1, r2, _⟩ := run_append_own (P := P) w w.heap.size t ty e i z size bytes ht hi hz hsize hby hzs hsz (.slice none 0 0) 0 [] (World.ownsRow_nil w _ e size) a m c news hl hnews h1 h63 hbytes (Nat.le_refl _)
  exact hnew v' w' hrun r1 r2
 ·by_cases hr : n + m ≤ cap
  ·obtain ⟨w', hrun, r1, r2⟩ := run_append_fits (P := P) w base t ty e i size ht hi hsize g n cap xs hown a m c news hl hnews h1 hr
   exact ⟨g, cap, w', hrun, r1, r2, .inl rfl⟩
  ·obtain ⟨v', w', hrun, r1, r2⟩ := run_append_arg_grows (P := P) w t ty e i z size bytes ht hi hz hsize hby hzs hsz ⟨g, 0, none⟩ n cap xs hown.1 (hown.cells rfl) a m c news hl hnews (by omega) h63 hbytes
   exact hnew v' w' hrun r1 r2
end
section
variable {α : Type} (E : α → World → (Nat → Prop) → List Value → Prop) (ty sz : Nat)
structure OwnR (w : World) (base : Nat) (S : Nat → Prop) (v : Value) (l : List α) : Prop where
 row : ∃ xs, w.ownsRow base ty sz v l.length xs ∧ ∀ (j : Nat) (h : j < l.length), E l[j] w S ((xs.drop (j * sz)).take sz)
 off : ∀ b, S b → base ≤ b ∧ b < w.heap.size ∧ some b ≠ v.ownBlock
def KeepE : Prop := ∀ (x : α) (w w' : World) (S S' : Nat → Prop) (cs : List Value), (∀ b, S b → w'.heap[b]? = w.heap[b]?) → (∀ b, S b → S' b) → E x w S cs → E x w' S' cs
variable {E ty sz}
theorem OwnR.nil (w : World) (base : Nat) : OwnR E ty sz w base (fun _ => False) (.slice none 0 0) [] :=
 ⟨⟨[], World.ownsRow_nil w base ty sz, fun j h => by simp at h⟩, fun b h => h.elim⟩
theorem OwnR.keep (K : KeepE E) {w w' : World} {base : Nat} {S : Nat → Prop} {v : Value} {l : List α} {row : Option Nat} (h : OwnR E ty sz w base S v l) (hg : w.grownBy w' row) (hr : ∀ r, row = some r → ¬ S r ∧ v.ownBlock ≠ some r) : OwnR E ty sz w' base S v l := by
 obtain ⟨⟨xs, h1, h2⟩, h3⟩ := h
 have hb : ∀ b, S b → w'.heap[b]? = w.heap[b]? := fun b hb => hg.block b (h3 b hb).2.1 (fun e => (hr b e.symm).1 hb)
 refine ⟨⟨xs, h1.kept hg ?_, fun j hj => K _ _ _ _ _ _ hb (fun _ h => h) (h2 j hj)⟩, fun b hb => ⟨(h3 b hb).1, Nat.lt_of_lt_of_le (h3 b hb).2.1 hg.size, (h3 b hb).2.2⟩⟩
 cases hrow : row with
 | none =>
  cases hv : v.ownBlock with
  | none => exact .inl rfl
  | some g => exact .inr (by simp)
 | some r => exact .inr (hr r hrow).2
theorem OwnR.lt {w : World} {base : Nat} {S : Nat → Prop} {v : Value} {l : List α} (h : OwnR E ty sz w base S v l) {g : Nat} (hg : v.ownBlock = some g) : base ≤ g ∧ g < w.heap.size := by
 obtain ⟨⟨xs, h1, _⟩, _⟩ := h
 exact h1.lt g hg
theorem chunk_left {xs cx : List Value} {n j sz : Nat} (hl : xs.length = n * sz) (hj : j < n) : ((xs ++ cx).drop (j * sz)).take sz = (xs.drop (j * sz)).take sz := by
 have h : (j + 1) * sz ≤ n * sz := Nat.mul_le_mul_right _ hj
 rw [Nat.succ_mul] at h
 rw [List.drop_append_of_le_length (by omega), List.take_append_of_le_length (by simp; omega)]
theorem chunk_last {xs cx : List Value} {n sz : Nat} (hl : xs.length = n * sz) (hc : cx.length = sz) : ((xs ++ cx).drop (n * sz)).take sz = cx := by
 rw [← hl, List.drop_left, ← hc, List.take_length]
theorem OwnR.push (K : KeepE E) {w w' : World} {base : Nat} {S Sx : Nat → Prop} {v v' : Value} {l : List α} {x : α} {cx xs : List Value} 
 (h3 : ∀ b, S b → base ≤ b ∧ b < w.heap.size ∧ some b ≠ v.ownBlock) (h1 : w.ownsRow base ty sz v l.length xs) (h2 : ∀ (j : Nat) (h : j < l.length), E l[j] w S ((xs.drop (j * sz)).take sz))
 (hE : E x w Sx cx) (hSx : ∀ b, Sx b → base ≤ b ∧ b < w.heap.size ∧ some b ≠ v.ownBlock) (hcx : cx.length = sz)
 (ho : w'.ownsRow base ty sz v' (l.length + 1) (xs ++ cx)) (hg : w.grownBy w' v.ownBlock) (hn : v.ownBlock = v'.ownBlock ∨ ∀ g, v'.ownBlock = some g → w.heap.size ≤ g) :
 OwnR E ty sz w' base (fun b => S b ∨ Sx b) v' (l ++ [x]) := by
 have hall : ∀ b, S b ∨ Sx b → base ≤ b ∧ b < w.heap.size ∧ some b ≠ v.ownBlock := fun b hb => hb.elim (h3 b) (hSx b)
 have hb : ∀ b, S b ∨ Sx b → w'.heap[b]? = w.heap[b]? := fun b hb => hg.block b (hall b hb).2.1 (hall b hb).2.2
 refine ⟨⟨xs ++ cx, by simpa using ho, fun j hj => ?_⟩, fun b hS => ⟨(hall b hS).1, Nat.lt_of_lt_of_le (hall b hS).2.1 hg.size, ?_⟩⟩
 ·by_cases hjl : j < l.length
  ·rw [List.getElem_append_left hjl, chunk_left h1.1 hjl]
   exact K _ _ _ _ _ _ (fun b h => hb b (.inl h)) (fun _ h => .inl h) (h2 j hjl)
  ·obtain rfl : j = l.length := by simp at hj; omega
   rw [chunk_last h1.1 hcx, List.getElem_append_right (by omega)]
   simpa using K _ _ _ _ _ _ (fun b h => hb b (.inr h)) (fun _ h => .inr h) hE
 ·rcases hn with e | e
  ·rw [← e]; exact (hall b hS).2.2
  ·intro h
   have := e b h.symm
   have := (hall b hS).2.1
   omega
theorem cells_of_block {w : World} {tb : Nat} {cx : List Value} {t : TypeId} {fz : Nat × Nat} (hb : w.heap[tb]? = some (.cells cx.toArray t fz)) : ∀ j u, cx[j]? = some u → w.cell? ((⟨tb, 0, none⟩ : Addr).add j) = some u := by
 intro j u hu
 rw [Go.WideShapes.add_plain]
 simp [World.cell?, hb, hu]
theorem run_push (K : KeepE E) (P : Program) (w : World) (base : Nat) (t rt : TypeId) (i : TypeInfo) (z : Value) (bytes : Nat) (ht : P.underlying t = some (.slice ty)) (hi : P.info? ty = some i) (hz : i.zero = some z)
 (hsize : i.size = sz) (hby : i.bytes = bytes) (hzs : z.cells.size = sz) (hsz : 0 < sz) (hb200 : bytes ≤ 200)
 {S Sx : Nat → Prop} {v : Value} {l : List α} (x : α) {cx : List Value} (hown : OwnR E ty sz w base S v l)
 (tb c : Nat) (fz : Nat × Nat) (htb : w.heap[tb]? = some (.cells cx.toArray ty fz)) (hcx : cx.length = sz) (h1c : ∀ u ∈ cx, u.oneCell' = true) (hE : E x w Sx cx) (hSx : ∀ b, Sx b → base ≤ b ∧ b < w.heap.size ∧ some b ≠ v.ownBlock)
 (hlen : l.length ≤ 4294967296) (hbase : base ≤ w.heap.size) :
 ∃ g cap w', (Builtin.append_ #[t, t] rt #[v, .slice (some ⟨tb, 0, none⟩) 1 c]).run P w = .ok (.slice (some ⟨g, 0, none⟩) (l.length + 1) cap) w' ∧
  OwnR E ty sz w' base (fun b => S b ∨ Sx b) (.slice (some ⟨g, 0, none⟩) (l.length + 1) cap) (l ++ [x]) ∧ w.grownBy w' v.ownBlock ∧ (v.ownBlock = some g ∨ w.heap.size ≤ g) := by
 obtain ⟨⟨xs, h1, h2⟩, h3⟩ := hown
 have hbb : (l.length + 1) * bytes ≤ 140737488355328 := by
  have := Nat.mul_le_mul (show l.length + 1 ≤ 4294967297 by omega) hb200
  omega
 obtain ⟨g, cap, w', hrun, r1, r2, r3⟩ := run_append_new (P := P) w base t rt ty i z sz bytes ht hi hz hsize hby hzs hsz v l.length xs h1 ⟨tb, 0, none⟩ 1 c cx (by omega) (cells_of_block htb) h1c (by simp only [maxLen]; omega) hbb hbase (by omega)
 refine ⟨g, cap, w', hrun, OwnR.push K h3 h1 h2 hE hSx hcx r1 r2 ?_, r2, r3⟩
 rcases r3 with e | e
 ·exact .inl (by rw [e]; rfl)
 ·exact .inr (fun g' hg' => by simp [Value.ownBlock] at hg'; omega)
end
section
variable {α : Type} {E : α → World → (Nat → Prop) → List Value → Prop} {ty sz : Nat} {P : Program}
theorem wpl_push (K : KeepE E) (w : World) {ops : Array Oper} {rest : List Oper} {o : Oper} {a : Act} {Q : Exit → Act → World → Prop} (hgd : o.guard = none) (s x : Operand) (t : TypeId)
 (ho : o.op = .call { callee := .builtin .append, args := #[s, x], argTypes := #[t, t] })
 (base : Nat) (i : TypeInfo) (z : Value) (bytes : Nat) (ht : P.underlying t = some (.slice ty)) (hi : P.info? ty = some i) (hz : i.zero = some z)
 (hsize : i.size = sz) (hby : i.bytes = bytes) (hzs : z.cells.size = sz) (hsz : 0 < sz) (hb200 : bytes ≤ 200)
 {S Sx : Nat → Prop} (v : Value) {l : List α} (y : α) {cx : List Value} (hs : a.eval s = v) (hown : OwnR E ty sz w base S v l)
 (tb c : Nat) (fz : Nat × Nat) (hx : a.eval x = .slice (some ⟨tb, 0, none⟩) 1 c) (htb : w.heap[tb]? = some (.cells cx.toArray ty fz)) (hcx : cx.length = sz) (h1c : ∀ u ∈ cx, u.oneCell' = true) (hE : E y w Sx cx) (hSx : ∀ b, Sx b → base ≤ b ∧ b < w.heap.size ∧ some b ≠ v.ownBlock)
 (hlen : l.length ≤ 4294967296) (hbase : base ≤ w.heap.size)
 (h : ∀ g cap w', OwnR E ty sz w' base (fun b => S b ∨ Sx b) (.slice (some ⟨g, 0, none⟩) (l.length + 1) cap) (l ++ [y]) → w.grownBy w' v.ownBlock → (v.ownBlock = some g ∨ w.heap.size ≤ g) → wpList P ops Q rest (a.put o.dst (.slice (some ⟨g, 0, none⟩) (l.length + 1) cap)) w') : wpList P ops Q (o :: rest) a w := by
 refine wpList_plain hgd fun K' hK' => ?_
 obtain ⟨g, cap, w', hrun, r1, r2, r3⟩ := run_push K P w base t o.type i z bytes ht hi hz hsize hby hzs hsz hb200 y hown tb c fz htb hcx h1c hE hSx hlen hbase
 unfold Oper.wp
 simp [execOp, ho, resolve, invoke, builtin, hs, hx, hrun, Result.andThen]
 exact hK' _ _ (h g cap w' r1 r2 r3)
theorem step_push (K : KeepE E) {ops : Array Oper} {o : Oper} {a : Act} {w : World} {K' : Act → World → Prop} {Q : Exit → Act → World → Prop} {D : Prop} (hgd : o.guard = none) (s x : Operand) (t : TypeId)
 (ho : o.op = .call { callee := .builtin .append, args := #[s, x], argTypes := #[t, t] })
 (base : Nat) (i : TypeInfo) (z : Value) (bytes : Nat) (ht : P.underlying t = some (.slice ty)) (hi : P.info? ty = some i) (hz : i.zero = some z)
 (hsize : i.size = sz) (hby : i.bytes = bytes) (hzs : z.cells.size = sz) (hsz : 0 < sz) (hb200 : bytes ≤ 200)
 {S Sx : Nat → Prop} (v : Value) {l : List α} (y : α) {cx : List Value} (hs : a.eval s = v) (hown : OwnR E ty sz w base S v l)
 (tb c : Nat) (fz : Nat × Nat) (hx : a.eval x = .slice (some ⟨tb, 0, none⟩) 1 c) (htb : w.heap[tb]? = some (.cells cx.toArray ty fz)) (hcx : cx.length = sz) (h1c : ∀ u ∈ cx, u.oneCell' = true) (hE : E y w Sx cx) (hSx : ∀ b, Sx b → base ≤ b ∧ b < w.heap.size ∧ some b ≠ v.ownBlock)
 (hlen : l.length ≤ 4294967296) (hbase : base ≤ w.heap.size)
 (h : ∀ g cap w', OwnR E ty sz w' base (fun b => S b ∨ Sx b) (.slice (some ⟨g, 0, none⟩) (l.length + 1) cap) (l ++ [y]) → w.grownBy w' v.ownBlock → (v.ownBlock = some g ∨ w.heap.size ≤ g) → K' (a.put o.dst (.slice (some ⟨g, 0, none⟩) (l.length + 1) cap)) w') :
 if Region.wanted o (yielded ops a.tmps) = true then Oper.wp P o a w K' Q else D := by
 have hw : Region.wanted o (yielded ops a.tmps) = true := by simp [Region.wanted, hgd]
 rw [if_pos hw]
 obtain ⟨g, cap, w', hrun, r1, r2, r3⟩ := run_push K P w base t o.type i z bytes ht hi hz hsize hby hzs hsz hb200 y hown tb c fz htb hcx h1c hE hSx hlen hbase
 unfold Oper.wp
 simp [execOp, ho, resolve, invoke, builtin, hs, hx, hrun, Result.andThen]
 exact h g cap w' r1 r2 r3
end
def EL (R : Bool) (x : Option V) (w : World) (S : Nat → Prop) (cs : List Value) : Prop :=
 match x with
 | some v => v.lies R w S cs
 | none => cs = [.int .i64 77, .bool false, .int .i64 0, .string ⟨#[]⟩, .slice none 0 0, .slice none 0 0]
def EM (R : Bool) (x : Option Mem) (w : World) (S : Nat → Prop) (cs : List Value) : Prop :=
 match x with
 | some m => ∃ cs', cs = .string m.1 :: cs' ∧ m.1.size ≤ maxLen ∧ m.2.lies R w S cs'
 | none => cs = [.string ⟨#[114, 111, 111, 109]⟩, .int .i64 0, .bool false, .int .i64 0, .string ⟨#[]⟩, .slice none 0 0, .slice none 0 0]
theorem keepL (R : Bool) : KeepE (EL R) := by
 intro x w w' S S' cs hw hS h
 cases x with
 | none => exact h
 | some v => exact V.lies_keep (fun h => h) hw hS v h
theorem keepM (R : Bool) : KeepE (EM R) := by
 intro x w w' S S' cs hw hS h
 cases x with
 | none => exact h
 | some v =>
  obtain ⟨cs', e, hk, h⟩ := h
  exact ⟨cs', e, hk, V.lies_keep (fun h => h) hw hS v.2 h⟩
abbrev OwnL (R : Bool) := OwnR (EL R) 25 6
abbrev OwnM (R : Bool) := OwnR (EM R) 39 7
theorem info25 : (Tryz.prog.info? 25).map (fun i => (i.zero, i.size, i.bytes)) = some (some (.agg #[.int .i64 0, .bool false, .int .i64 0, .string ⟨#[]⟩, .slice none 0 0, .slice none 0 0]), 6, 88) := by kernel_rfl
theorem info44 : (Tryz.prog.info? 39).map (fun i => (i.zero, i.size, i.bytes)) = some (some (.agg #[.string ⟨#[]⟩, .int .i64 0, .bool false, .int .i64 0, .string ⟨#[]⟩, .slice none 0 0, .slice none 0 0]), 7, 104) := by kernel_rfl
end Go.Proofs.YtnakligbogkmbaaGreatDoor
