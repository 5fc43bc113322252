/- bytesSame of bytes that are the same. -/
import Derived.Test.YtjocgajbcdmaiaaDoorJpsE
import Derived.Test.YtjocgajbcdmaiaaDoorQSub
set_option linter.unusedSimpArgs false
set_option linter.unusedVariables false
namespace Go.Proofs.YtjocgajbcdmaiaaDoor
open Go.RowKit Go.Lib

theorem own_cellAt {B : Nat} {v : Value} {l : List UInt8} {w : World} (h : Own B v l w) : (∃ a c, v = .slice a l.length c) ∧ (0 < l.length → ∃ g c, v = .slice (some ⟨g, 0, none⟩) l.length c ∧ g < w.heap.size ∧ ∀ j (hj : j < l.length), w.cell? ⟨g, j, none⟩ = some (.int .u8 ((l[j]).toNat : Int))) := by
  have h' := h
  rcases h.2 with ⟨rfl, e⟩ | ⟨g, cap, cur, rfl, _⟩
  · exact ⟨⟨none, 0, by rw [e]⟩, fun h0 => by omega⟩
  · refine ⟨⟨_, _, rfl⟩, fun h0 => ⟨g, cap, rfl, (World.ownsRow.lt h' g rfl).2, fun j hj => ?_⟩⟩
    have := World.ownsRow.cells h' (g := g) rfl j (.int .u8 ((l[j]).toNat : Int)) (by simp [byteCells, hj])
    rw [Go.WideShapes.add_plain] at this
    simpa using this

set_option maxHeartbeats 1000000 in
set_option maxRecDepth 100000 in
theorem bys_any (l : List UInt8) (B B' : Nat) (u v : Value) (w : World) (hu : Own B u l w) (hv : Own B' v l w) (hl : l.length ≤ 1000000000) : Calls Tryd.prog 8 #[u, v] w (BPost true w) := by
  obtain ⟨⟨a, c, rfl⟩, ha⟩ := own_cellAt hu
  obtain ⟨⟨a', c', rfl⟩, ha'⟩ := own_cellAt hv
  clear hu hv
  go_enter Tryd.func8, Tryd.ntmps8
  go_wp2_with fail
  go_loopw [5] (fun e wr => ∃ j : Nat, j ≤ l.length ∧ e = .int .i64 (j : Int) ∧ Below w.heap.size w wr) (fun e _ => l.length - (RowKit.intOf e).toNat)
  case atStart => exact ⟨0, by omega, rfl, Below.refl _ _⟩
  case round =>
    obtain ⟨j, hj, rfl, bj⟩ := hrel
    have hzr := bj.size
    by_cases hjl : j < l.length
    · have y1 : (j : Int) < l.length := by omega
      obtain ⟨g, d, e1, hg, hc⟩ := ha (by omega)
      obtain ⟨g', d', e2, hg', hc'⟩ := ha' (by omega)
      cases e1
      cases e2
      have c1 : wr.cell? ⟨g, j, none⟩ = some (.int .u8 ((l[j]).toNat : Int)) := (bj.cell (p := ⟨g, j, none⟩) hg).trans (hc j hjl)
      have c2 : wr.cell? ⟨g', j, none⟩ = some (.int .u8 ((l[j]).toNat : Int)) := (bj.cell (p := ⟨g', j, none⟩) hg').trans (hc' j hjl)
      have p1 : ∀ x : Sub wr.heap.size wr, _ := sub_cell c1 (by omega)
      have p2 : ∀ x : Sub wr.heap.size wr, _ := sub_cell c2 (by omega)
      generalize ((l[j]).toNat : Int) = z at *
      clear hc hc' ha ha'
      go_wp2_with fail
      refine wp_region_sub wr.heap.size (by kernel_rfl) (by kernel_rfl) ?_
      repeat (go_big_quiet_step (fail))
      refine wpQuiet_nil ?_
      rintro _ ⟨⟨wq, bq⟩, rfl⟩
      go_wp2_with fail
      go_roundw
      case rel => exact ⟨j + 1, by omega, by go_num, bj.trans (bq.mono hzr)⟩
      case measure => simp [RowKit.intOf]; omega
    · obtain rfl : j = l.length := by omega
      have y1 : ¬ (l.length : Int) < l.length := by omega
      go_wp2_with fail
      go_ret
      exact ⟨rfl, bj⟩
end Go.Proofs.YtjocgajbcdmaiaaDoor
