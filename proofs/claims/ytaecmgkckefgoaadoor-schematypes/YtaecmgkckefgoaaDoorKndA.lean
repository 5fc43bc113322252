import Derived.Test.YtaecmgkckefgoaaDoorTypA
import Derived.Test.YtaecmgkckefgoaaDoorChkB
/- freeholdref00: a list of values is counted, and a type. -/
set_option linter.unusedSimpArgs false
set_option linter.unusedVariables false
namespace Go.Proofs.YtaecmgkckefgoaaDoor
open Go.RowKit Go.Lib
theorem hmk {P : Prop} (h : P) : Hid P := h
set_option maxHeartbeats 1600000 in
set_option maxRecDepth 100000 in
theorem cvals_any (l : List V) (B n : Nat) (S : Nat → Prop) (al : Option Addr) (cl bl ol : Nat) (w : World) (hal : Headed al l.length cl bl ol) (hl : liesL false w S l bl ol) (hS : ∀ b, S b → b ≠ B ∧ b < w.heap.size) (hc : Cnt B n w) (hn : n ≤ 2147483647) :
    Calls Tryd.prog 25 #[.pointer (some ⟨B, 0, none⟩), .slice al l.length cl] w (CntPost B n (wtL l) w) := by
  have HL := hmk hl
  have hll : l.length ≤ 9223372036854775807 := Nat.le_trans hal.le hal.max
  have hkeep : ∀ wr : World, w.grownBy wr (some B) → ∀ b, S b → wr.heap[b]? = w.heap[b]? := fun wr g b hb => g.block b (hS b hb).2 (fun e => (hS b hb).1 (Option.some.inj e))
  have e5 : ((65520 : Nat) : Int) = 65520 := rfl
  clear hl
  go_enter Tryd.func25, Tryd.ntmps25
  go_wp2_with fail
  go_loopw [5] (fun e wr => ∃ j : Nat, j ≤ l.length ∧ e = .int .i64 (j : Int) ∧ n + wtL (l.take j) ≤ 2147483647 ∧ Cnt B (n + wtL (l.take j)) wr ∧ w.grownBy wr (some B)) (fun e _ => l.length - (RowKit.intOf e).toNat)
  case atStart => exact ⟨0, by omega, rfl, by simpa [wtL] using hn, by simpa [wtL] using hc, World.grownBy.refl _ _⟩
  case round =>
    obtain ⟨j, hj, rfl, hnj, hcj, gj⟩ := hrel
    by_cases hjl : j < l.length
    · have y1 : (j : Int) < l.length := by omega
      obtain ⟨hSb, csj, hrow, hlj⟩ := liesL_get HL.out j hjl
      obtain rfl : al = some ⟨bl, ol, none⟩ := hal.at_.resolve_left (by omega)
      have hlr : (l[j]).lies false wr S csj := V.lies_keep (fun h => h) (fun b hb => hkeep wr gj b hb) (fun _ h => h) _ hlj
      have CV := hmk (cval_any l[j] B (n + wtL (l.take j)) 65520 S csj wr hlr (fun b hb => ⟨(hS b hb).1, Nat.lt_of_lt_of_le (hS b hb).2 gj.size⟩) hcj hnj (by omega))
      rw [e5] at CV
      have HW : Hid (n + wtL (l.take (j + 1)) = n + wtL (l.take j) + (l[j]).wt) := by show _ = _; rw [take_succ_wtL hjl]; omega
      obtain ⟨ek, eb, ei, es, eal, enl, ecl, eam, enm, ecm, rfl⟩ := V.ten hlj
      obtain ⟨q0, q1, q2, q3, q4, q5⟩ := row6 (hrow.keep (hkeep wr gj bl hSb))
      clear hlj hlr hrow e5
      go_wp2_with fail
      refine CV.out.mono ?_
      rintro e w1 ⟨r, rfl, g1, h1⟩
      cases r
      · obtain ⟨hn1, hc1⟩ := h1 rfl
        go_wp2_with fail
        go_roundw
        case rel => exact ⟨j + 1, by omega, by go_num, by rw [HW.out]; exact hn1, by rw [HW.out]; exact hc1, grown_trans gj g1⟩
        case measure => simp [RowKit.intOf]; omega
      · go_wp2_with fail
        go_ret
        exact ⟨true, rfl, grown_trans gj g1, fun h => by cases h⟩
    · obtain rfl : j = l.length := by omega
      have y1 : ¬ (l.length : Int) < l.length := by omega
      rw [List.take_length] at hnj hcj
      go_wp2_with fail
      go_ret
      exact ⟨false, rfl, gj, fun _ => ⟨hnj, hcj⟩⟩
/-- what a type that is not beyond the bound is -/
def Ty.few (t : Ty) : Prop := t.fields.length ≤ 2147483647 ∧ t.keys.length ≤ 2147483647 ∧ wtL t.enum ≤ 2147483647
def KiPost (B : Nat) (t : Ty) (w : World) (e : Ending) (w' : World) : Prop := ∃ r, e = .returned (.bool r) ∧ w.grownBy w' (some B) ∧ (r = false → t.few)
set_option maxHeartbeats 4000000 in
set_option maxRecDepth 100000 in
theorem kind_any (t : Ty) (B n : Nat) (S : Nat → Prop) (cs : List Value) (w : World) (hl : t.lies w S cs) (hS : ∀ b, S b → b ≠ B ∧ b < w.heap.size) (hc : Cnt B n w) (hn : n ≤ 2147483647) :
    Calls Tryd.prog 12 #[.pointer (some ⟨B, 0, none⟩), .agg cs.toArray] w (KiPost B t w) := by
  obtain ⟨nm, k, a, F, el, rl, K, E⟩ := t
  obtain ⟨af, cf, bf, qf, ak, ck, bk, qk, ae, ce, be, qe, rfl, hk, hr, hnm, hel, haf, hak, hae, hF, hK, hE⟩ := hl
  dsimp only at hk hr hnm hel haf hak hae hF hK hE ⊢
  have HF := hmk hF
  have HK := hmk hK
  have HE := hmk hE
  clear hF hK hE
  have hB := hc.lt
  have hlf : F.length ≤ 9223372036854775807 := Nat.le_trans haf.le haf.max
  have hlk : K.length ≤ 9223372036854775807 := Nat.le_trans hak.le hak.max
  have g0 : w.grownBy (w.alloc (.cells #[.string nm, .int .i64 k, .bool a, .slice af F.length cf, .string el, .int .i64 rl, .slice ak K.length ck, .slice ae E.length ce] 26)) (some B) := World.grownBy_alloc _ _ _
  have hbx : rowAt (w.alloc (.cells #[.string nm, .int .i64 k, .bool a, .slice af F.length cf, .string el, .int .i64 rl, .slice ak K.length ck, .slice ae E.length ce] 26)) w.heap.size 0 [.string nm, .int .i64 k, .bool a, .slice af F.length cf, .string el, .int .i64 rl, .slice ak K.length ck, .slice ae E.length ce] := box_row w _ 26
  have hbw := box_lt w (.cells #[.string nm, .int .i64 k, .bool a, .slice af F.length cf, .string el, .int .i64 rl, .slice ak K.length ck, .slice ae E.length ce] 26)
  have hc0 : Cnt B n (w.alloc (.cells #[.string nm, .int .i64 k, .bool a, .slice af F.length cf, .string el, .int .i64 rl, .slice ak K.length ck, .slice ae E.length ce] 26)) := hc.keep (Below.heap_alloc w _ B hB)
  go_enter Tryd.func12, Tryd.ntmps12
  go_wp2_with fail
  generalize hw0 : w.alloc (.cells #[.string nm, .int .i64 k, .bool a, .slice af F.length cf, .string el, .int .i64 rl, .slice ak K.length ck, .slice ae E.length ce] 26) = w0 at *
  clear hw0
  have HKP : Hid (∀ wr : World, w0.grownBy wr (some B) → ∀ b, S b → wr.heap[b]? = w.heap[b]?) := fun wr g b hb =>
    (grown_trans g0 g).block b (hS b hb).2 (fun e => (hS b hb).1 (Option.some.inj e))
  have HBX : Hid (∀ wr : World, w0.grownBy wr (some B) → rowAt wr w.heap.size 0 [.string nm, .int .i64 k, .bool a, .slice af F.length cf, .string el, .int .i64 rl, .slice ak K.length ck, .slice ae E.length ce]) := fun wr g =>
    hbx.keep (g.block _ hbw (fun e => by have := Option.some.inj e; omega))
  clear hbx
  go_loopw [5] (fun e wr => ∃ j c : Nat, j ≤ F.length ∧ e = .int .i64 (j : Int) ∧ j ≤ c ∧ c ≤ 2147483647 ∧ Cnt B c wr ∧ w0.grownBy wr (some B)) (fun e _ => F.length - (RowKit.intOf e).toNat)
  case atStart => exact ⟨0, n, by omega, rfl, by omega, hn, hc0, World.grownBy.refl _ _⟩
  case round =>
    clear hc0
    obtain ⟨j, c, hj, rfl, hjc, hcm, hcj, gj⟩ := hrel
    obtain ⟨d0, d1, d2, d3, d4, d5, d6, d7⟩ := row8z (HBX.out wr gj)
    by_cases hjl : j < F.length
    · have y1 : (j : Int) < F.length := by omega
      obtain ⟨hSb, hs1, hs2, hrow⟩ := HF.out j hjl
      obtain rfl : af = some ⟨bf, qf, none⟩ := haf.at_.resolve_left (by omega)
      generalize F[j] = fj at hs1 hs2 hrow
      have c1 := hmk (many_any B c 1 wr hcj hcm (by simp [maxLen]))
      go_wp2_with fail
      refine c1.out.mono ?_
      rintro e w1 ⟨r, rfl, g1, h1⟩
      cases r
      · obtain ⟨hn1, hc1⟩ := h1 rfl
        have g01 := grown_trans gj g1
        clear d0 d1 d2 d3 d4 d5 d6 d7
        obtain ⟨d0, d1, d2, d3, d4, d5, d6, d7⟩ := row8z (HBX.out w1 g01)
        obtain ⟨q0, q1⟩ := row2 (hrow.keep (HKP.out w1 g01 bf hSb))
        go_wp2_with fail
        refine (many_any B (c + 1) fj.1.size w1 hc1 hn1 hs1).mono ?_
        rintro e w2 ⟨r, rfl, g2, h2⟩
        cases r
        · obtain ⟨hn2, hc2⟩ := h2 rfl
          have g02 := grown_trans g01 g2
          clear d0 d1 d2 d3 d4 d5 d6 d7 q0 q1
          obtain ⟨d0, d1, d2, d3, d4, d5, d6, d7⟩ := row8z (HBX.out w2 g02)
          obtain ⟨q0, q1⟩ := row2 (hrow.keep (HKP.out w2 g02 bf hSb))
          go_wp2_with fail
          refine (many_any B (c + 1 + fj.1.size) fj.2.size w2 hc2 hn2 hs2).mono ?_
          rintro e w3 ⟨r, rfl, g3, h3⟩
          cases r
          · obtain ⟨hn3, hc3⟩ := h3 rfl
            go_wp2_with fail
            go_roundw
            case rel => exact ⟨j + 1, _, by omega, by go_num, by omega, hn3, hc3, grown_trans g02 g3⟩
            case measure => simp [RowKit.intOf]; omega
          · go_wp2_with fail
            go_ret
            exact ⟨true, rfl, grown_trans g0 (grown_trans g02 g3), fun h => by cases h⟩
        · go_wp2_with fail
          go_ret
          exact ⟨true, rfl, grown_trans g0 (grown_trans g01 g2), fun h => by cases h⟩
      · go_wp2_with fail
        go_ret
        exact ⟨true, rfl, grown_trans g0 (grown_trans gj g1), fun h => by cases h⟩
    · obtain rfl : j = F.length := by omega
      have y1 : ¬ (F.length : Int) < F.length := by omega
      have hFl : F.length ≤ 2147483647 := by omega
      go_wp2_with fail
      go_loopw [7] (fun e wr => ∃ j c : Nat, j ≤ K.length ∧ e = .int .i64 (j : Int) ∧ j ≤ c ∧ c ≤ 2147483647 ∧ Cnt B c wr ∧ w0.grownBy wr (some B)) (fun e _ => K.length - (RowKit.intOf e).toNat)
      case atStart => exact ⟨0, c, by omega, rfl, by omega, hcm, hcj, gj⟩
      case round =>
        clear d0 d1 d2 d3 d4 d5 d6 d7 hcj gj hjc hcm
        obtain ⟨j, c, hj, rfl, hjc, hcm, hcj, gj⟩ := hrel
        obtain ⟨d0, d1, d2, d3, d4, d5, d6, d7⟩ := row8z (HBX.out wr gj)
        by_cases hjl : j < K.length
        · have y2 : (j : Int) < K.length := by omega
          obtain ⟨hSb, hs1, hrow⟩ := HK.out j hjl
          obtain rfl : ak = some ⟨bk, qk, none⟩ := hak.at_.resolve_left (by omega)
          generalize K[j] = kj at hs1 hrow
          have c1 := hmk (many_any B c 1 wr hcj hcm (by simp [maxLen]))
          go_wp2_with fail
          refine c1.out.mono ?_
          rintro e w1 ⟨r, rfl, g1, h1⟩
          cases r
          · obtain ⟨hn1, hc1⟩ := h1 rfl
            have g01 := grown_trans gj g1
            clear d0 d1 d2 d3 d4 d5 d6 d7
            obtain ⟨d0, d1, d2, d3, d4, d5, d6, d7⟩ := row8z (HBX.out w1 g01)
            have q0 : w1.cell? ⟨bk, qk + j, none⟩ = some (.string kj) := by have := (hrow.keep (HKP.out w1 g01 bk hSb)) 0 _ rfl; simpa using this
            go_wp2_with fail
            refine (many_any B (c + 1) kj.size w1 hc1 hn1 hs1).mono ?_
            rintro e w2 ⟨r, rfl, g2, h2⟩
            cases r
            · obtain ⟨hn2, hc2⟩ := h2 rfl
              go_wp2_with fail
              go_roundw
              case rel => exact ⟨j + 1, _, by omega, by go_num, by omega, hn2, hc2, grown_trans g01 g2⟩
              case measure => simp [RowKit.intOf]; omega
            · go_wp2_with fail
              go_ret
              exact ⟨true, rfl, grown_trans g0 (grown_trans g01 g2), fun h => by cases h⟩
          · go_wp2_with fail
            go_ret
            exact ⟨true, rfl, grown_trans g0 (grown_trans gj g1), fun h => by cases h⟩
        · obtain rfl : j = K.length := by omega
          have y2 : ¬ (K.length : Int) < K.length := by omega
          have hKl : K.length ≤ 2147483647 := by omega
          have c1 := hmk (many_any B c 1 wr hcj hcm (by simp [maxLen]))
          go_wp2_with fail
          refine c1.out.mono ?_
          rintro e w1 ⟨r, rfl, g1, h1⟩
          cases r
          · obtain ⟨hn1, hc1⟩ := h1 rfl
            have g01 := grown_trans gj g1
            clear d0 d1 d2 d3 d4 d5 d6 d7
            obtain ⟨d0, d1, d2, d3, d4, d5, d6, d7⟩ := row8z (HBX.out w1 g01)
            go_wp2_with fail
            refine (many_any B (c + 1) nm.size w1 hc1 hn1 hnm).mono ?_
            rintro e w2 ⟨r, rfl, g2, h2⟩
            cases r
            · obtain ⟨hn2, hc2⟩ := h2 rfl
              have g02 := grown_trans g01 g2
              clear d0 d1 d2 d3 d4 d5 d6 d7
              obtain ⟨d0, d1, d2, d3, d4, d5, d6, d7⟩ := row8z (HBX.out w2 g02)
              go_wp2_with fail
              refine (many_any B (c + 1 + nm.size) el.size w2 hc2 hn2 hel).mono ?_
              rintro e w3 ⟨r, rfl, g3, h3⟩
              cases r
              · obtain ⟨hn3, hc3⟩ := h3 rfl
                have g03 := grown_trans g02 g3
                clear d0 d1 d2 d3 d4 d5 d6 d7
                obtain ⟨d0, d1, d2, d3, d4, d5, d6, d7⟩ := row8z (HBX.out w3 g03)
                have CV := hmk (cvals_any E B _ S ae ce be qe w3 hae (liesL_keep (fun h => h) (HKP.out w3 g03) (fun _ h => h) _ HE.out) (fun b hb => ⟨(hS b hb).1, Nat.lt_of_lt_of_le (hS b hb).2 (grown_trans g0 g03).size⟩) hc3 hn3)
                go_wp2_with fail
                refine CV.out.mono ?_
                rintro e w4 ⟨r, rfl, g4, h4⟩
                go_wp2_with fail
                go_ret
                exact ⟨r, rfl, grown_trans g0 (grown_trans g03 g4), fun h => ⟨hFl, hKl, by have := (h4 h).1; show wtL E ≤ _; omega⟩⟩
              · go_wp2_with fail
                go_ret
                exact ⟨true, rfl, grown_trans g0 (grown_trans g02 g3), fun h => by cases h⟩
            · go_wp2_with fail
              go_ret
              exact ⟨true, rfl, grown_trans g0 (grown_trans g01 g2), fun h => by cases h⟩
          · go_wp2_with fail
            go_ret
            exact ⟨true, rfl, grown_trans g0 (grown_trans gj g1), fun h => by cases h⟩
def TyPost (t : Ty) (w : World) (e : Ending) (w' : World) : Prop := ∃ r, e = .returned (.bool r) ∧ (r = false → t.few) ∧ Below w.heap.size w w'
set_option maxHeartbeats 4000000 in
set_option maxRecDepth 100000 in
theorem type_any (t : Ty) (S : Nat → Prop) (cs : List Value) (w : World) (hl : t.lies w S cs) (hS : ∀ b, S b → b < w.heap.size) :
    Calls Tryd.prog 4 #[.agg cs.toArray] w (TyPost t w) := by
  obtain ⟨nm, k, a, af, nf, cf, el, rl, ak, nk, ck, ae, ne, ce, rfl⟩ := Ty.eight hl
  have ga : w.grownBy ((w.alloc (.cells #[.string nm, .int .i64 k, .bool a, .slice af nf cf, .string el, .int .i64 rl, .slice ak nk ck, .slice ae ne ce] 26)).alloc (.cells #[.int .i64 0] 37)) none := grown_alloc (World.grownBy_alloc _ _ _) _
  have hn := alloc2_new w (.cells #[.string nm, .int .i64 k, .bool a, .slice af nf cf, .string el, .int .i64 rl, .slice ak nk ck, .slice ae ne ce] 26) (.cells #[.int .i64 0] 37)
  have hC : Cnt (w.heap.size + 1) 0 ((w.alloc (.cells #[.string nm, .int .i64 k, .bool a, .slice af nf cf, .string el, .int .i64 rl, .slice ak nk ck, .slice ae ne ce] 26)).alloc (.cells #[.int .i64 0] 37)) := ⟨by rw [cell_of_block hn]; rfl, frozen_of_block hn 0⟩
  have c := hmk (kind_any t (w.heap.size + 1) 0 S _ _ (Ty.lies_keep (fun x hx => ga.block x (hS x hx) (by simp)) (fun _ h => h) hl) (fun x hx => ⟨by have := hS x hx; omega, Nat.lt_of_lt_of_le (hS x hx) ga.size⟩) hC (by omega))
  have HG := hmk ga
  clear hl hn hC ga
  go_enter Tryd.func4, Tryd.ntmps4
  go_wp2_with fail
  refine c.out.mono ?_
  rintro e w1 ⟨r, rfl, g1, h1⟩
  go_wp2_with fail
  go_ret
  exact ⟨r, rfl, h1, (below_of_grown HG.out).grown g1 HG.out.size (fun q e => by cases e; omega)⟩
end Go.Proofs.YtaecmgkckefgoaaDoor
