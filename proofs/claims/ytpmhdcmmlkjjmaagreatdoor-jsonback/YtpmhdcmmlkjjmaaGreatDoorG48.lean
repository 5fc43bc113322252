/- joined: JmC JmD -/
import Derived.Test.YtpmhdcmmlkjjmaaGreatDoorG46
/- freeholdref00's bound: a value, a list of values. -/
set_option linter.unusedSimpArgs false
set_option linter.unusedVariables false
set_option maxRecDepth 100000
namespace Go.Proofs.YtpmhdcmmlkjjmaaGreatDoor
open Go.RowKit Go.Lib
/-- whether a value is beyond the bound; if not, how heavy it is -/
def BeyPost (x : Nat) (w : World) (e : Ending) (w' : World) : Prop := ∃ r, e = .returned (.bool r) ∧ (r = false → x ≤ 2147483647) ∧ Below w.heap.size w w'
set_option maxHeartbeats 4000000 in
theorem beyond_any (v : V) (S : Nat → Prop) (cs : List Value) (w : World) (hl : v.lies false w S cs) (hS : ∀ b, S b → b < w.heap.size) : Calls Tryz.prog 9 #[.agg cs.toArray] w (BeyPost v.wt w) := by
  obtain ⟨k, b, i, s, al, nl, cl, am, nm, cm, rfl⟩ := V.ten hl
  have ga : w.grownBy ((w.alloc (.cells #[.int .i64 k, .bool b, .int .i64 i, .string s, .slice al nl cl, .slice am nm cm] 25)).alloc (.cells #[.int .i64 0] 53)) none := grown_alloc (World.grownBy_alloc _ _ _) _
  have hn := alloc2_new w (.cells #[.int .i64 k, .bool b, .int .i64 i, .string s, .slice al nl cl, .slice am nm cm] 25) (.cells #[.int .i64 0] 53)
  have hC : Cnt (w.heap.size + 1) 0 ((w.alloc (.cells #[.int .i64 k, .bool b, .int .i64 i, .string s, .slice al nl cl, .slice am nm cm] 25)).alloc (.cells #[.int .i64 0] 53)) := ⟨by rw [cell_of_block hn]; rfl, frozen_of_block hn 0⟩
  have c := cval_any v (w.heap.size + 1) 0 65520 S _ _ (V.lies_keep (fun h => h) (fun x hx => ga.block x (hS x hx) (by simp)) (fun _ h => h) _ hl) (fun x hx => ⟨by have := hS x hx; omega, Nat.lt_of_lt_of_le (hS x hx) ga.size⟩) hC (by omega) (by omega)
  have e5 : ((65520 : Nat) : Int) = 65520 := rfl
  rw [e5] at c
  go_enter Tryz.func9, Tryz.ntmps9
  go_wp2_with fail
  refine c.mono ?_
  rintro e w1 ⟨r, rfl, g1, h1⟩
  go_wp2_with fail
  go_ret
  exact ⟨r, rfl, fun h => by have := (h1 h).1; omega, (below_of_grown ga).grown g1 ga.size (fun q e => by cases e; omega)⟩
end Go.Proofs.YtpmhdcmmlkjjmaaGreatDoor
/- bytesSame of whatever bytes. -/
set_option maxRecDepth 100000
namespace Go.Proofs.YtpmhdcmmlkjjmaaGreatDoor
open Go.RowKit Go.Lib
set_option maxHeartbeats 4000000 in
theorem bytes_cmp (l m : List UInt8) (u v : Value) (w : World) (hu : Byt w u l) (hv : Byt w v m) (hl : l.length ≤ 140737488355328) (hm : m.length ≤ 140737488355328) : Calls Tryz.prog 12 #[u, v] w (BPost (decide (l = m)) w) := by
  by_cases hlm : l.length = m.length
  · obtain ⟨ao, cap, b, o, rfl, hd, hc⟩ := hu
    obtain ⟨ao', cap', b', o', rfl, hd', hc'⟩ := hv
    have HC := hmk hc
    have HC' := hmk hc'
    have HLM := hmk hlm
    clear hc hc'
    rw [← hlm] at hd' ⊢
    clear hlm
    go_enter Tryz.func12, Tryz.ntmps12
    go_wp2_with fail
    go_loopw [5] (fun e wr => ∃ j : Nat, j ≤ l.length ∧ e = .int .i64 (j : Int) ∧ Below w.heap.size w wr ∧ Hid (l.take j = m.take j)) (fun e _ => l.length - (RowKit.intOf e).toNat)
    case atStart => exact ⟨0, by omega, rfl, Below.refl _ _, hmk rfl⟩
    case round =>
      obtain ⟨j, hj, rfl, bj, HE⟩ := hrel
      have hzr := bj.size
      by_cases hjl : j < l.length
      · have y1 : (j : Int) < l.length := by omega
        have hjm : j < m.length := by rw [← HLM.out]; exact hjl
        obtain rfl : ao = some ⟨b, o, none⟩ := hd.at_.resolve_left (by omega)
        obtain rfl : ao' = some ⟨b', o', none⟩ := hd'.at_.resolve_left (by omega)
        obtain ⟨hg, h1⟩ := HC.out j hjl
        obtain ⟨hg', h2⟩ := HC'.out j hjm
        have c1 : wr.cell? ⟨b, o + j, none⟩ = some (.int .u8 ((l[j]).toNat : Int)) := (bj.cell (p := ⟨b, o + j, none⟩) hg).trans h1
        have c2 : wr.cell? ⟨b', o' + j, none⟩ = some (.int .u8 ((m[j]).toNat : Int)) := (bj.cell (p := ⟨b', o' + j, none⟩) hg').trans h2
        have p1 : ∀ x : Sub wr.heap.size wr, _ := sub_cell c1 (by omega)
        have p2 : ∀ x : Sub wr.heap.size wr, _ := sub_cell c2 (by omega)
        by_cases he : l[j] = m[j]
        · have HE2 : Hid (l.take (j + 1) = m.take (j + 1)) := by
            show _ = _
            rw [List.take_succ_eq_append_getElem hjl, List.take_succ_eq_append_getElem hjm, HE.out, he]
          have y2 : (((l[j]).toNat : Int) != ((m[j]).toNat : Int)) = false := by rw [he]; simp
          generalize ((l[j]).toNat : Int) = z at *
          generalize ((m[j]).toNat : Int) = y at *
          clear h1 h2 HE
          go_wp2_with fail
          refine wp_region_sub wr.heap.size (by kernel_rfl) (by kernel_rfl) ?_
          repeat (go_big_quiet_step (fail))
          refine wpQuiet_nil ?_
          rintro _ ⟨⟨wq, bq⟩, rfl⟩
          go_wp2_with fail
          go_roundw
          case rel => exact ⟨j + 1, by omega, by go_num, bj.trans (bq.mono hzr), HE2⟩
          case measure => simp [RowKit.intOf]; omega
        · have HN : Hid (¬ l = m) := fun q => he (by subst q; rfl)
          have y2 : (((l[j]).toNat : Int) != ((m[j]).toNat : Int)) = true := by
            rw [bne_iff_ne]
            intro q
            exact he (UInt8.toNat_inj.1 (by omega))
          generalize ((l[j]).toNat : Int) = z at *
          generalize ((m[j]).toNat : Int) = y at *
          clear h1 h2 HE
          go_wp2_with fail
          refine wp_region_sub wr.heap.size (by kernel_rfl) (by kernel_rfl) ?_
          repeat (go_big_quiet_step (fail))
          refine wpQuiet_nil ?_
          rintro _ ⟨⟨wq, bq⟩, rfl⟩
          go_wp2_with fail
          go_ret
          exact ⟨by rw [decide_eq_false HN.out]; rfl, bj.trans (bq.mono hzr)⟩
      · obtain rfl : j = l.length := by omega
        have y1 : ¬ (l.length : Int) < l.length := by omega
        have HY : Hid (l = m) := by
          have := HE.out
          rw [List.take_length, HLM.out, List.take_length] at this
          exact this
        go_wp2_with fail
        go_ret
        exact ⟨by rw [decide_eq_true HY.out]; rfl, bj⟩
  · have HN : Hid (¬ l = m) := fun q => hlm (by rw [q])
    obtain ⟨ao, cap, b, o, rfl, hd, hc⟩ := hu
    obtain ⟨ao', cap', b', o', rfl, hd', hc'⟩ := hv
    have y1 : ((l.length : Int) != (m.length : Int)) = true := by rw [bne_iff_ne]; omega
    clear hc hc'
    go_enter Tryz.func12, Tryz.ntmps12
    go_wp2_with fail
    go_ret
    exact ⟨by rw [decide_eq_false HN.out]; rfl, Below.refl _ _⟩
end Go.Proofs.YtpmhdcmmlkjjmaaGreatDoor
