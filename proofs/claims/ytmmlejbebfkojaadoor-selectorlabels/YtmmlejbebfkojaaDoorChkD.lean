import Derived.Test.YtmmlejbebfkojaaDoorChkC
/- value.walk.visit, value.Check. -/
set_option linter.unusedSimpArgs false
set_option linter.unusedVariables false
namespace Go.Proofs.YtmmlejbebfkojaaDoor
open Go.RowKit Go.Lib
abbrev St := Nat × Nat × Nat
mutual
/-- the walk over a value: the first fault, and what was counted -/
def chkV (D : Nat) : V → Nat → St → Nat × St
  | .mk k b i s l m, lv, st =>
    let r := entF D st.1 st.2.1 st.2.2 lv (goodB k b i s l.length m) (s.size + keyB m)
    if r.1 = 0 then
      let q := chkL D l (lv + 1) r.2
      if q.1 = 0 then chkM D m (lv + 1) q.2 else q
    else r
def chkL (D : Nat) : List V → Nat → St → Nat × St
  | [], _, st => (0, st)
  | x :: t, lv, st => if (chkV D x lv st).1 = 0 then chkL D t lv (chkV D x lv st).2 else chkV D x lv st
def chkM (D : Nat) : List Mem → Nat → St → Nat × St
  | [], _, st => (0, st)
  | (_, x) :: t, lv, st => if (chkV D x lv st).1 = 0 then chkM D t lv (chkV D x lv st).2 else chkV D x lv st
end
structure Bnd (D : Nat) (st : St) : Prop where
  n : st.1 ≤ 65536
  y : st.2.1 ≤ 1048576
  d : st.2.2 ≤ D
theorem entF_ok {D n y d lv : Nat} {g : Bool} {z : Nat} (hd : d ≤ D) (h : (entF D n y d lv g z).1 = 0) : Bnd D (entF D n y d lv g z).2 ∧ lv ≤ D := by
  unfold entF at *
  split at h
  · simp at h
  split at h
  · simp at h
  split at h
  · simp at h
  split at h
  · simp at h
  · rename_i h1 h2 h3 h4
    rw [if_neg h1, if_neg h2, if_neg h3, if_neg h4]
    exact ⟨⟨by show n + 1 ≤ 65536; omega, by show y + z ≤ 1048576; omega, by show max d lv ≤ D; omega⟩, by omega⟩
mutual
theorem chkV_bnd (D : Nat) : ∀ (v : V) (lv : Nat) (st : St), Bnd D st → (chkV D v lv st).1 = 0 → Bnd D (chkV D v lv st).2
  | .mk k b i s l m, lv, st, hb, h => by
    rw [chkV] at h ⊢
    by_cases h1 : (entF D st.1 st.2.1 st.2.2 lv (goodB k b i s l.length m) (s.size + keyB m)).1 = 0
    · have b1 := (entF_ok hb.d h1).1
      simp only [h1, if_true] at h ⊢
      by_cases h2 : (chkL D l (lv + 1) (entF D st.1 st.2.1 st.2.2 lv (goodB k b i s l.length m) (s.size + keyB m)).2).1 = 0
      · simp only [h2, if_true] at h ⊢
        exact chkM_bnd D m (lv + 1) _ (chkL_bnd D l (lv + 1) _ b1 h2) h
      · simp only [h2, if_false] at h
    · simp only [h1, if_false] at h
theorem chkL_bnd (D : Nat) : ∀ (l : List V) (lv : Nat) (st : St), Bnd D st → (chkL D l lv st).1 = 0 → Bnd D (chkL D l lv st).2
  | [], lv, st, hb, h => by rw [chkL]; exact hb
  | x :: t, lv, st, hb, h => by
    rw [chkL] at h ⊢
    by_cases h1 : (chkV D x lv st).1 = 0
    · rw [if_pos h1] at h ⊢
      exact chkL_bnd D t lv _ (chkV_bnd D x lv st hb h1) h
    · rw [if_neg h1] at h
      exact absurd h h1
theorem chkM_bnd (D : Nat) : ∀ (l : List Mem) (lv : Nat) (st : St), Bnd D st → (chkM D l lv st).1 = 0 → Bnd D (chkM D l lv st).2
  | [], lv, st, hb, h => by rw [chkM]; exact hb
  | (_, x) :: t, lv, st, hb, h => by
    rw [chkM] at h ⊢
    by_cases h1 : (chkV D x lv st).1 = 0
    · rw [if_pos h1] at h ⊢
      exact chkM_bnd D t lv _ (chkV_bnd D x lv st hb h1) h
    · rw [if_neg h1] at h
      exact absurd h h1
end
theorem chkL_drop {D : Nat} {l : List V} {j : Nat} (h : j < l.length) (lv : Nat) (st : St) : chkL D (l.drop j) lv st = if (chkV D l[j] lv st).1 = 0 then chkL D (l.drop (j + 1)) lv (chkV D l[j] lv st).2 else chkV D l[j] lv st := by
  rw [List.drop_eq_getElem_cons h, chkL]
theorem chkM_drop {D : Nat} {l : List Mem} {j : Nat} (h : j < l.length) (lv : Nat) (st : St) : chkM D (l.drop j) lv st = if (chkV D (l[j]).2 lv st).1 = 0 then chkM D (l.drop (j + 1)) lv (chkV D (l[j]).2 lv st).2 else chkV D (l[j]).2 lv st := by
  rw [List.drop_eq_getElem_cons h]
  rcases hx : l[j] with ⟨k, x⟩
  rw [chkM]
set_option maxHeartbeats 4000000 in
set_option maxRecDepth 100000 in
theorem visit_wide (v : V) : ∀ (R : Bool) (B D lv : Nat) (st : St) (S : Nat → Prop) (cs : List Value) (w : World), Tb w → v.lies R w S cs → (∀ b, S b → b ≠ B ∧ b < w.heap.size) → Wk B D st.1 st.2.1 st.2.2 w → 1 < B →
    v.wt ≤ 281474976710656 → Bnd D st → D ≤ 40 → lv ≤ 41 →
    Calls Tryd.prog 16 #[.pointer (some ⟨B, 0, none⟩), .agg cs.toArray, .int .i64 (lv : Int)] w (EntPost B D (chkV D v lv st) w) := by
  induction v using V.ind_v with
  | h k b i s l m ihl ihm =>
  intro R B D lv st S cs w t hl hS hW hB hwt hb hD hlv
  have ce := enter_any R k b i s l m B D st.1 st.2.1 st.2.2 lv S cs
  have hl0 := hl
  rw [V.lies] at hl
  obtain ⟨al, cl, bl, ol, am, cm, bm, om, rfl, hk, hi, hs, hal, ham, hl1, hm1, _⟩ := hl
  have HL : Hid (liesL R w S l bl ol) := hl1
  have HM : Hid (liesM R w S m bm om) := hm1
  clear hl1 hm1
  have hBl := hW.lt
  have g0 : w.grownBy (w.alloc (.cells #[.int .i64 k, .bool b, .int .i64 i, .string s, .slice al l.length cl, .slice am m.length cm] 25)) (some B) := World.grownBy_alloc _ _ _
  have hkp : ∀ wr : World, w.grownBy wr (some B) → ∀ b, S b → wr.heap[b]? = w.heap[b]? := fun wr g b hb => g.block b (hS b hb).2 (fun e => (hS b hb).1 (Option.some.inj e))
  have c1 := ce _ (t.grown g0 (fun r e => by cases e; exact hB)) (V.lies_keep (fun h => h) (hkp _ g0) (fun _ h => h) _ hl0) (fun b hb => ⟨(hS b hb).1, Nat.lt_of_lt_of_le (hS b hb).2 g0.size⟩) (hW.keep (Below.heap_alloc w _ B hBl)) hB hwt (by have := hb.n; omega) (by have := hb.y; omega) (by have := hb.d; omega) (by omega) (by omega)
  have hbx : rowAt (w.alloc (.cells #[.int .i64 k, .bool b, .int .i64 i, .string s, .slice al l.length cl, .slice am m.length cm] 25)) w.heap.size 0 [.int .i64 k, .bool b, .int .i64 i, .string s, .slice al l.length cl, .slice am m.length cm] := box_row w _ 25
  have hbw := box_lt w (.cells #[.int .i64 k, .bool b, .int .i64 i, .string s, .slice al l.length cl, .slice am m.length cm] 25)
  clear ce hl0
  rw [V.wt] at hwt
  have hlm := wtL_len l
  have hmm := wtM_len m
  have HC : Hid (chkV D (.mk k b i s l m) lv st = if (entF D st.1 st.2.1 st.2.2 lv (goodB k b i s l.length m) (s.size + keyB m)).1 = 0 then (if (chkL D l (lv + 1) (entF D st.1 st.2.1 st.2.2 lv (goodB k b i s l.length m) (s.size + keyB m)).2).1 = 0 then chkM D m (lv + 1) (chkL D l (lv + 1) (entF D st.1 st.2.1 st.2.2 lv (goodB k b i s l.length m) (s.size + keyB m)).2).2 else chkL D l (lv + 1) (entF D st.1 st.2.1 st.2.2 lv (goodB k b i s l.length m) (s.size + keyB m)).2) else entF D st.1 st.2.1 st.2.2 lv (goodB k b i s l.length m) (s.size + keyB m)) := by show _ = _; rw [chkV]
  have HE := fun h => entF_ok (n := st.1) (y := st.2.1) (lv := lv) (g := goodB k b i s l.length m) (z := s.size + keyB m) hb.d h
  generalize entF D st.1 st.2.1 st.2.2 lv (goodB k b i s l.length m) (s.size + keyB m) = r at *
  go_enter Tryd.func16, Tryd.ntmps16
  go_wp2_with fail
  refine c1.mono ?_
  rintro e w1 ⟨rfl, W1, g1⟩
  have g01 := grown_trans g0 g1
  by_cases hr : r.1 = 0
  · obtain ⟨rb, hlvD⟩ := HE hr
    have HR : Hid (r.1 = 0) := hr
    have hr' : (r.1 : Int) = 0 := by omega
    rw [hr']
    have hb1 := hbx.keep (g1.block _ hbw (fun e => by have := Option.some.inj e; omega))
    obtain ⟨d0, d1, d2, d3, d4, d5⟩ := row6z hb1
    clear HE hr'
    go_wp2_with fail
    have hll : l.length ≤ 9223372036854775807 := Nat.le_trans hal.le hal.max
    have hml : m.length ≤ 9223372036854775807 := Nat.le_trans ham.le ham.max
    have hbr : ∀ wr : World, w1.grownBy wr (some B) → rowAt wr w.heap.size 0 [.int .i64 k, .bool b, .int .i64 i, .string s, .slice al l.length cl, .slice am m.length cm] := fun wr g => hb1.keep (g.block _ (by have := g1.size; omega) (fun e => by have := Option.some.inj e; omega))
    clear hb1 hbx
    go_loopw [24] (fun e wr => ∃ (j : Nat) (q : St), j ≤ l.length ∧ e = .int .i64 (j : Int) ∧ Hid (chkL D l (lv + 1) r.2 = chkL D (l.drop j) (lv + 1) q) ∧ Bnd D q ∧ Wk B D q.1 q.2.1 q.2.2 wr ∧ w1.grownBy wr (some B)) (fun e _ => l.length - (RowKit.intOf e).toNat)
    case atStart => exact ⟨0, r.2, by omega, rfl, rfl, rb, W1, World.grownBy.refl _ _⟩
    case round =>
      clear d0 d1 d2 d3 d4 d5
      obtain ⟨j, q, hj, rfl, HQ, qb, Wq, gq⟩ := hrel
      have gw := grown_trans g01 gq
      by_cases hjl : j < l.length
      · have y1 : (j : Int) < l.length := by omega
        obtain ⟨hSb, csj, hrow, hlj⟩ := liesL_get HL.out j hjl
        obtain rfl : al = some ⟨bl, ol, none⟩ := hal.at_.resolve_left (by omega)
        have hrow' := hrow.keep (hkp wr gw _ hSb)
        obtain ⟨ek, eb, ei, es, eal, enl, ecl, eam, enm, ecm, rfl⟩ := V.ten hlj
        obtain ⟨q0, q1, q2, q3, q4, q5⟩ := row6 hrow'
        have ga : w.grownBy (wr.alloc (.cells #[.int .i64 ek, .bool eb, .int .i64 ei, .string es, .slice eal enl ecl, .slice eam enm ecm] 25)) (some B) := grown_alloc gw _
        have ih := ihl l[j] (List.getElem_mem hjl) R B D (lv + 1) q S _ _ (t.grown ga (fun r e => by cases e; exact hB)) (V.lies_keep (fun h => h) (hkp _ ga) (fun _ h => h) _ hlj) (fun b hb => ⟨(hS b hb).1, Nat.lt_of_lt_of_le (hS b hb).2 ga.size⟩) (Wq.keep (Below.heap_alloc wr _ B Wq.lt)) hB (by have := wtL_mem (List.getElem_mem hjl); omega) qb hD (by omega)
        have hc1 : ((lv + 1 : Nat) : Int) = (lv : Int) + 1 := by omega
        rw [hc1] at ih
        have HD : Hid (chkL D (l.drop j) (lv + 1) q = if (chkV D l[j] (lv + 1) q).1 = 0 then chkL D (l.drop (j + 1)) (lv + 1) (chkV D l[j] (lv + 1) q).2 else chkV D l[j] (lv + 1) q) := chkL_drop hjl _ _
        have HB := chkV_bnd D l[j] (lv + 1) q qb
        generalize chkV D l[j] (lv + 1) q = z at *
        clear hlj hrow hrow' hc1
        go_wp2_with fail
        refine ih.mono ?_
        rintro e w3 ⟨rfl, W3, g3⟩
        by_cases hz : z.1 = 0
        · have zb := HB hz
          have hz' : (z.1 : Int) = 0 := by omega
          have HZ : Hid (chkL D l (lv + 1) r.2 = chkL D (l.drop (j + 1)) (lv + 1) z.2) := by show _ = _; rw [HQ.out, HD.out, if_pos hz]
          rw [hz']
          clear hz hz' HB HD HQ
          go_wp2_with fail
          go_roundw
          case rel => exact ⟨j + 1, z.2, by omega, by go_num, HZ, zb, W3, grown_trans (grown_alloc gq _) g3⟩
          case measure => simp [RowKit.intOf]; omega
        · have hz' : ((z.1 : Int) != 0) = true := by rw [bne_iff_ne]; omega
          have HZ : Hid (chkV D (.mk k b i s l m) lv st = z) := by show _ = _; rw [HC.out, if_pos HR.out, HQ.out, HD.out, if_neg hz, if_neg hz]
          clear hz HB HD HQ
          go_wp2_with fail
          go_ret
          rw [HZ.out]
          exact ⟨rfl, W3, grown_trans ga g3⟩
      · obtain rfl : j = l.length := by omega
        have y1 : ¬ (l.length : Int) < l.length := by omega
        have HQ' : Hid (chkL D l (lv + 1) r.2 = (0, q)) := by show _ = _; rw [HQ.out, List.drop_length, chkL]
        have HC2 : Hid (chkV D (.mk k b i s l m) lv st = chkM D m (lv + 1) q) := by show _ = _; rw [HC.out, if_pos HR.out, HQ'.out]; rfl
        obtain ⟨d0, d1, d2, d3, d4, d5⟩ := row6z (hbr wr gq)
        clear HQ HQ' HC
        go_wp2_with fail
        rename World => wA
        go_loopw [40] (fun e wr => ∃ (j : Nat) (p : St), j ≤ m.length ∧ e = .int .i64 (j : Int) ∧ Hid (chkM D m (lv + 1) q = chkM D (m.drop j) (lv + 1) p) ∧ Bnd D p ∧ Wk B D p.1 p.2.1 p.2.2 wr ∧ w.grownBy wr (some B)) (fun e _ => m.length - (RowKit.intOf e).toNat)
        case atStart => exact ⟨0, q, by omega, rfl, rfl, qb, Wq, gw⟩
        case round =>
          clear d0 d1 d2 d3 d4 d5 Wq gq gw
          obtain ⟨j, p, hj, rfl, HQ, pb, Wp, gw⟩ := hrel
          by_cases hjl : j < m.length
          · have y1 : (j : Int) < m.length := by omega
            obtain ⟨hSb, hks, csj, hrow, hlj⟩ := liesM_get HM.out j hjl
            obtain rfl : am = some ⟨bm, om, none⟩ := ham.at_.resolve_left (by omega)
            have hrow' := hrow.keep (hkp wr gw _ hSb)
            obtain ⟨ek, eb, ei, es, eal, enl, ecl, eam, enm, ecm, rfl⟩ := V.ten hlj
            obtain ⟨x, q0, q1, q2, q3, q4, q5⟩ := row7 hrow'
            have ga : w.grownBy (wr.alloc (.cells #[.string (m[j]).1, .int .i64 ek, .bool eb, .int .i64 ei, .string es, .slice eal enl ecl, .slice eam enm ecm] 32)) (some B) := grown_alloc gw _
            have ih := ihm m[j] (List.getElem_mem hjl) R B D (lv + 1) p S _ _ (t.grown ga (fun r e => by cases e; exact hB)) (V.lies_keep (fun h => h) (hkp _ ga) (fun _ h => h) _ hlj) (fun b hb => ⟨(hS b hb).1, Nat.lt_of_lt_of_le (hS b hb).2 ga.size⟩) (Wp.keep (Below.heap_alloc wr _ B Wp.lt)) hB (by have := wtM_mem (List.getElem_mem hjl); omega) pb hD (by omega)
            have hc1 : ((lv + 1 : Nat) : Int) = (lv : Int) + 1 := by omega
            rw [hc1] at ih
            have HD : Hid (chkM D (m.drop j) (lv + 1) p = if (chkV D (m[j]).2 (lv + 1) p).1 = 0 then chkM D (m.drop (j + 1)) (lv + 1) (chkV D (m[j]).2 (lv + 1) p).2 else chkV D (m[j]).2 (lv + 1) p) := chkM_drop hjl _ _
            have HB := chkV_bnd D (m[j]).2 (lv + 1) p pb
            generalize chkV D (m[j]).2 (lv + 1) p = z at *
            generalize (m[j]).1 = key at *
            clear hlj hrow hrow' hc1
            go_wp2_with fail
            refine ih.mono ?_
            rintro e w3 ⟨rfl, W3, g3⟩
            by_cases hz : z.1 = 0
            · have zb := HB hz
              have hz' : (z.1 : Int) = 0 := by omega
              have HZ : Hid (chkM D m (lv + 1) q = chkM D (m.drop (j + 1)) (lv + 1) z.2) := by show _ = _; rw [HQ.out, HD.out, if_pos hz]
              rw [hz']
              clear hz hz' HB HD HQ
              go_wp2_with fail
              go_roundw
              case rel => exact ⟨j + 1, z.2, by omega, by go_num, HZ, zb, W3, grown_trans ga g3⟩
              case measure => simp [RowKit.intOf]; omega
            · have hz' : ((z.1 : Int) != 0) = true := by rw [bne_iff_ne]; omega
              have HZ : Hid (chkV D (.mk k b i s l m) lv st = z) := by show _ = _; rw [HC2.out, HQ.out, HD.out, if_neg hz]
              clear hz HB HD HQ
              go_wp2_with fail
              go_ret
              rw [HZ.out]
              exact ⟨rfl, W3, grown_trans ga g3⟩
          · obtain rfl : j = m.length := by omega
            have y1 : ¬ (m.length : Int) < m.length := by omega
            have HZ : Hid (chkV D (.mk k b i s l m) lv st = (0, p)) := by show _ = _; rw [HC2.out, HQ.out, List.drop_length, chkM]
            clear HQ HC2
            go_wp2_with fail
            go_ret
            rw [HZ.out]
            exact ⟨rfl, Wp, gw⟩
  · have hr' : ((r.1 : Int) != 0) = true := by rw [bne_iff_ne]; omega
    have HF : Hid (chkV D (.mk k b i s l m) lv st = r) := by show _ = _; rw [HC.out, if_neg hr]
    clear hr HC HE
    go_wp2_with fail
    go_ret
    rw [HF.out]
    exact ⟨rfl, W1, g01⟩
end Go.Proofs.YtmmlejbebfkojaaDoor
