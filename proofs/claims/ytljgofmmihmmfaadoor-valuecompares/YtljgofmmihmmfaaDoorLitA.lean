/- little: the room behind each list and map. -/
import Derived.Test.YtljgofmmihmmfaaDoorRoomA
import Derived.Test.YtljgofmmihmmfaaDoorSamA
set_option linter.unusedSimpArgs false
set_option linter.unusedVariables false
namespace Go.Proofs.YtljgofmmihmmfaaDoor
open Go.RowKit

set_option maxHeartbeats 4000000 in
set_option maxRecDepth 100000 in
theorem little_any (v : V) : ∀ (S : Nat → Prop) (cs : List Value) (w : World), v.lies true w S cs → (∀ x, S x → x < w.heap.size) → v.wt ≤ 1099511627776 → Calls Tryd.prog 47 #[.agg cs.toArray] w (BPost true w) := by
  induction v using V.ind_v with
  | h k b i s l m ihl ihm =>
  intro S cs w hl hS hwt
  rw [V.lies] at hl
  obtain ⟨al, cl, bl, ol, am, cm, bm, om, rfl, hk, hi, hs, hal, ham, hl1, hm1, hR⟩ := hl
  obtain ⟨rfl, r2, r3, r4, rfl, r6, r7, r8⟩ := hR rfl
  have HL : Hid (liesL true w S l bl ol) := hl1
  have HM : Hid (liesM true w S m bm om) := hm1
  clear hl1 hm1 hR
  rw [V.wt] at hwt
  have hlm := wtL_len l
  have hmm := wtM_len m
  have B0 : Below w.heap.size w (w.alloc (.cells #[.int .i64 k, .bool b, .int .i64 i, .string s, .slice (some ⟨bl, ol, none⟩) l.length cl, .slice (some ⟨bm, om, none⟩) m.length cm] 25)) := (Below.refl _ _).alloc (Nat.le_refl _) _
  have hb0 := box_row w [.int .i64 k, .bool b, .int .i64 i, .string s, .slice (some ⟨bl, ol, none⟩) l.length cl, .slice (some ⟨bm, om, none⟩) m.length cm] 25
  have hz0 := alloc_size w (.cells #[.int .i64 k, .bool b, .int .i64 i, .string s, .slice (some ⟨bl, ol, none⟩) l.length cl, .slice (some ⟨bm, om, none⟩) m.length cm] 25)
  have hbl := hS _ r3
  have hbm := hS _ r7
  go_enter Tryd.func47, Tryd.ntmps47
  go_wp2_with fail
  generalize (w.alloc (.cells #[.int .i64 k, .bool b, .int .i64 i, .string s, .slice (some ⟨bl, ol, none⟩) l.length cl, .slice (some ⟨bm, om, none⟩) m.length cm] 25)) = w0 at *
  obtain ⟨d0, d1, d2, d3, d4, d5⟩ := row6z hb0
  have x4 : ∀ x : Sub w0.heap.size w0, _ := sub_cell d4 (by omega)
  have x5 : ∀ x : Sub w0.heap.size w0, _ := sub_cell d5 (by omega)
  have z4 : ∀ x : Sub w0.heap.size w0, _ := sub_cell ((B0.cell (p := ⟨bl, ol + l.length * 6, none⟩) hbl).trans r4) (by omega)
  have z5 : ∀ x : Sub w0.heap.size w0, _ := sub_cell ((B0.cell (p := ⟨bm, om + m.length * 7, none⟩) hbm).trans r8) (by omega)
  have y1 : (l.length : Int) + 1 ≤ cl := by omega
  have y2 : (m.length : Int) + 1 ≤ cm := by omega
  refine wp_region_sub w0.heap.size (by kernel_rfl) (by kernel_rfl) ?_
  repeat (go_big_quiet_step (fail))
  refine wpQuiet_nil ?_
  rintro wq ⟨⟨wq', bq⟩, hq⟩
  have hq' : wq = wq' := hq
  subst hq'
  clear hq
  have hzq := bq.size
  have B1 : Below w.heap.size w wq := B0.trans (bq.mono (by omega))
  have hb1 := hb0.keep (bq.block _ (by omega))
  obtain ⟨f0, f1, f2, f3, f4, f5⟩ := row6z hb1
  clear d0 d1 d2 d3 d4 d5 x4 x5 z4 z5
  go_wp2_with fail
  go_loopw [3] (fun e wr => ∃ j : Nat, j ≤ l.length ∧ e = .int .i64 (j : Int) ∧ Below wq.heap.size wq wr) (fun e _ => l.length - (RowKit.intOf e).toNat)
  case atStart => exact ⟨0, by omega, rfl, Below.refl _ _⟩
  case round =>
    clear f0 f1 f2 f3 f4 f5
    obtain ⟨j, hj, rfl, bj⟩ := hrel
    have hzr := bj.size
    obtain ⟨f0, f1, f2, f3, f4, f5⟩ := row6z (hb1.keep (bj.block _ (by omega)))
    by_cases hjl : j < l.length
    · have y3 : (j : Int) < l.length := by omega
      obtain ⟨hSb, csj, hrow, hlj⟩ := liesL_get HL.out j hjl
      have hkw : ∀ x, S x → wr.heap[x]? = w.heap[x]? := fun x hx => (bj.block x (by have := hS x hx; omega)).trans (B1.block x (hS x hx))
      have hlj' := V.lies_keep (R' := true) (S' := S) (fun h => h) hkw (fun _ h => h) _ hlj
      obtain ⟨ek, eb, ei, es, eal, enl, ecl, eam, enm, ecm, rfl⟩ := V.ten hlj
      obtain ⟨q0, q1, q2, q3, q4, q5⟩ := row6 (hrow.keep (hkw _ hSb))
      have ih := ihl l[j] (List.getElem_mem hjl) S _ wr hlj' (fun x hx => by have := hS x hx; omega) (by have := wtL_mem (List.getElem_mem hjl); omega)
      clear hlj hlj' hrow
      go_wp2_with fail
      refine ih.mono ?_
      rintro e w3 ⟨rfl, b3⟩
      go_wp2_with fail
      go_roundw
      case rel => exact ⟨j + 1, by omega, by go_num, bj.trans (b3.mono hzr)⟩
      case measure => simp [RowKit.intOf]; omega
    · obtain rfl : j = l.length := by omega
      have y3 : ¬ (l.length : Int) < l.length := by omega
      go_wp2_with fail
      rename World => wA
      go_loopw [5] (fun e wr => ∃ j : Nat, j ≤ m.length ∧ e = .int .i64 (j : Int) ∧ Below wq.heap.size wq wr) (fun e _ => m.length - (RowKit.intOf e).toNat)
      case atStart => exact ⟨0, by omega, rfl, bj⟩
      case round =>
        clear f0 f1 f2 f3 f4 f5 bj hzr
        obtain ⟨j, hj, rfl, bj⟩ := hrel
        have hzr := bj.size
        obtain ⟨f0, f1, f2, f3, f4, f5⟩ := row6z (hb1.keep (bj.block _ (by omega)))
        by_cases hjl : j < m.length
        · have y3 : (j : Int) < m.length := by omega
          obtain ⟨hSb, hks, csj, hrow, hlj⟩ := liesM_get HM.out j hjl
          have hkw : ∀ x, S x → wr.heap[x]? = w.heap[x]? := fun x hx => (bj.block x (by have := hS x hx; omega)).trans (B1.block x (hS x hx))
          have hlj' := V.lies_keep (R' := true) (S' := S) (fun h => h) hkw (fun _ h => h) _ hlj
          obtain ⟨ek, eb, ei, es, eal, enl, ecl, eam, enm, ecm, rfl⟩ := V.ten hlj
          obtain ⟨q, q0, q1, q2, q3, q4, q5⟩ := row7 (hrow.keep (hkw _ hSb))
          have ih := ihm m[j] (List.getElem_mem hjl) S _ wr hlj' (fun x hx => by have := hS x hx; omega) (by have := wtM_mem (List.getElem_mem hjl); omega)
          clear hlj hlj' hrow
          go_wp2_with fail
          refine ih.mono ?_
          rintro e w3 ⟨rfl, b3⟩
          go_wp2_with fail
          go_roundw
          case rel => exact ⟨j + 1, by omega, by go_num, bj.trans (b3.mono hzr)⟩
          case measure => simp [RowKit.intOf]; omega
        · obtain rfl : j = m.length := by omega
          have y3 : ¬ (m.length : Int) < m.length := by omega
          go_wp2_with fail
          go_ret
          exact ⟨rfl, B1.trans (bj.mono (by omega))⟩
end Go.Proofs.YtljgofmmihmmfaaDoor
