/- joined: ChkD ChkE Utf -/
import Derived.Test.YtfekgeaopchilaaGreatDoorChkC
import Derived.Lib.ValidLaws
/- value.walk.visit, value.Check. -/
set_option linter.unusedSimpArgs false
set_option linter.unusedVariables false
namespace Go.Proofs.YtfekgeaopchilaaGreatDoor
open Go.RowKit Go.Lib
abbrev St := Nat × Nat × Nat
mutual
/-- the walk over a value: the first fault, and what was counted -/
def chkV (D : Nat) : V → Nat → St → Nat × St
  | .mk k b i s l m, lv, st =>
    let r := entF D st.1 st.2.1 st.2.2 lv (goodB k b i s l.length m) (s.size + keyB m)
    if r.1 = 0 then
      let q := chkL D l (lv + 1) r.2
      if q.1 = 0 then chkM D m (lv + 1) q.2 else q
    else r
def chkL (D : Nat) : List V → Nat → St → Nat × St
  | [], _, st => (0, st)
  | x :: t, lv, st => if (chkV D x lv st).1 = 0 then chkL D t lv (chkV D x lv st).2 else chkV D x lv st
def chkM (D : Nat) : List Mem → Nat → St → Nat × St
  | [], _, st => (0, st)
  | (_, x) :: t, lv, st => if (chkV D x lv st).1 = 0 then chkM D t lv (chkV D x lv st).2 else chkV D x lv st
end
structure Bnd (D : Nat) (st : St) : Prop where
  n : st.1 ≤ 65536
  y : st.2.1 ≤ 1048576
  d : st.2.2 ≤ D
theorem entF_ok {D n y d lv : Nat} {g : Bool} {z : Nat} (hd : d ≤ D) (h : (entF D n y d lv g z).1 = 0) : Bnd D (entF D n y d lv g z).2 ∧ lv ≤ D := by
  unfold entF at *
  split at h
  · simp at h
  split at h
  · simp at h
  split at h
  · simp at h
  split at h
  · simp at h
  · rename_i h1 h2 h3 h4
    rw [if_neg h1, if_neg h2, if_neg h3, if_neg h4]
    exact ⟨⟨by show n + 1 ≤ 65536; omega, by show y + z ≤ 1048576; omega, by show max d lv ≤ D; omega⟩, by omega⟩
mutual
theorem chkV_bnd (D : Nat) : ∀ (v : V) (lv : Nat) (st : St), Bnd D st → (chkV D v lv st).1 = 0 → Bnd D (chkV D v lv st).2
  | .mk k b i s l m, lv, st, hb, h => by
    rw [chkV] at h ⊢
    by_cases h1 : (entF D st.1 st.2.1 st.2.2 lv (goodB k b i s l.length m) (s.size + keyB m)).1 = 0
    · have b1 := (entF_ok hb.d h1).1
      simp only [h1, if_true] at h ⊢
      by_cases h2 : (chkL D l (lv + 1) (entF D st.1 st.2.1 st.2.2 lv (goodB k b i s l.length m) (s.size + keyB m)).2).1 = 0
      · simp only [h2, if_true] at h ⊢
        exact chkM_bnd D m (lv + 1) _ (chkL_bnd D l (lv + 1) _ b1 h2) h
      · simp only [h2, if_false] at h
    · simp only [h1, if_false] at h
theorem chkL_bnd (D : Nat) : ∀ (l : List V) (lv : Nat) (st : St), Bnd D st → (chkL D l lv st).1 = 0 → Bnd D (chkL D l lv st).2
  | [], lv, st, hb, h => by rw [chkL]; exact hb
  | x :: t, lv, st, hb, h => by
    rw [chkL] at h ⊢
    by_cases h1 : (chkV D x lv st).1 = 0
    · rw [if_pos h1] at h ⊢
      exact chkL_bnd D t lv _ (chkV_bnd D x lv st hb h1) h
    · rw [if_neg h1] at h
      exact absurd h h1
theorem chkM_bnd (D : Nat) : ∀ (l : List Mem) (lv : Nat) (st : St), Bnd D st → (chkM D l lv st).1 = 0 → Bnd D (chkM D l lv st).2
  | [], lv, st, hb, h => by rw [chkM]; exact hb
  | (_, x) :: t, lv, st, hb, h => by
    rw [chkM] at h ⊢
    by_cases h1 : (chkV D x lv st).1 = 0
    · rw [if_pos h1] at h ⊢
      exact chkM_bnd D t lv _ (chkV_bnd D x lv st hb h1) h
    · rw [if_neg h1] at h
      exact absurd h h1
end
theorem chkL_drop {D : Nat} {l : List V} {j : Nat} (h : j < l.length) (lv : Nat) (st : St) : chkL D (l.drop j) lv st = if (chkV D l[j] lv st).1 = 0 then chkL D (l.drop (j + 1)) lv (chkV D l[j] lv st).2 else chkV D l[j] lv st := by
  rw [List.drop_eq_getElem_cons h, chkL]
theorem chkM_drop {D : Nat} {l : List Mem} {j : Nat} (h : j < l.length) (lv : Nat) (st : St) : chkM D (l.drop j) lv st = if (chkV D (l[j]).2 lv st).1 = 0 then chkM D (l.drop (j + 1)) lv (chkV D (l[j]).2 lv st).2 else chkV D (l[j]).2 lv st := by
  rw [List.drop_eq_getElem_cons h]
  rcases hx : l[j] with ⟨k, x⟩
  rw [chkM]
set_option maxHeartbeats 4000000 in
set_option maxRecDepth 100000 in
theorem visit_wide (v : V) : ∀ (R : Bool) (B D lv : Nat) (st : St) (S : Nat → Prop) (cs : List Value) (w : World), Tb w → v.lies R w S cs → (∀ b, S b → b ≠ B ∧ b < w.heap.size) → Wk B D st.1 st.2.1 st.2.2 w → 1 < B →
    v.wt ≤ 281474976710656 → Bnd D st → D ≤ 40 → lv ≤ 41 →
    Calls Tryz.prog 85 #[.pointer (some ⟨B, 0, none⟩), .agg cs.toArray, .int .i64 (lv : Int)] w (EntPost B D (chkV D v lv st) w) := by
  induction v using V.ind_v with
  | h k b i s l m ihl ihm =>
  intro R B D lv st S cs w t hl hS hW hB hwt hb hD hlv
  have ce := enter_any R k b i s l m B D st.1 st.2.1 st.2.2 lv S cs
  have hl0 := hl
  rw [V.lies] at hl
  obtain ⟨al, cl, bl, ol, am, cm, bm, om, rfl, hk, hi, hs, hal, ham, hl1, hm1, _⟩ := hl
  have HL : Hid (liesL R w S l bl ol) := hl1
  have HM : Hid (liesM R w S m bm om) := hm1
  clear hl1 hm1
  have hBl := hW.lt
  have g0 : w.grownBy (w.alloc (.cells #[.int .i64 k, .bool b, .int .i64 i, .string s, .slice al l.length cl, .slice am m.length cm] 33)) (some B) := World.grownBy_alloc _ _ _
  have hkp : ∀ wr : World, w.grownBy wr (some B) → ∀ b, S b → wr.heap[b]? = w.heap[b]? := fun wr g b hb => g.block b (hS b hb).2 (fun e => (hS b hb).1 (Option.some.inj e))
  have c1 := ce _ (t.grown g0 (fun r e => by cases e; exact hB)) (V.lies_keep (fun h => h) (hkp _ g0) (fun _ h => h) _ hl0) (fun b hb => ⟨(hS b hb).1, Nat.lt_of_lt_of_le (hS b hb).2 g0.size⟩) (hW.keep (Below.heap_alloc w _ B hBl)) hB hwt (by have := hb.n; omega) (by have := hb.y; omega) (by have := hb.d; omega) (by omega) (by omega)
  have hbx : rowAt (w.alloc (.cells #[.int .i64 k, .bool b, .int .i64 i, .string s, .slice al l.length cl, .slice am m.length cm] 33)) w.heap.size 0 [.int .i64 k, .bool b, .int .i64 i, .string s, .slice al l.length cl, .slice am m.length cm] := box_row w _ 33
  have hbw := box_lt w (.cells #[.int .i64 k, .bool b, .int .i64 i, .string s, .slice al l.length cl, .slice am m.length cm] 33)
  clear ce hl0
  rw [V.wt] at hwt
  have hlm := wtL_len l
  have hmm := wtM_len m
  have HC : Hid (chkV D (.mk k b i s l m) lv st = if (entF D st.1 st.2.1 st.2.2 lv (goodB k b i s l.length m) (s.size + keyB m)).1 = 0 then (if (chkL D l (lv + 1) (entF D st.1 st.2.1 st.2.2 lv (goodB k b i s l.length m) (s.size + keyB m)).2).1 = 0 then chkM D m (lv + 1) (chkL D l (lv + 1) (entF D st.1 st.2.1 st.2.2 lv (goodB k b i s l.length m) (s.size + keyB m)).2).2 else chkL D l (lv + 1) (entF D st.1 st.2.1 st.2.2 lv (goodB k b i s l.length m) (s.size + keyB m)).2) else entF D st.1 st.2.1 st.2.2 lv (goodB k b i s l.length m) (s.size + keyB m)) := by show _ = _; rw [chkV]
  have HE := fun h => entF_ok (n := st.1) (y := st.2.1) (lv := lv) (g := goodB k b i s l.length m) (z := s.size + keyB m) hb.d h
  generalize entF D st.1 st.2.1 st.2.2 lv (goodB k b i s l.length m) (s.size + keyB m) = r at *
  go_enter Tryz.func85, Tryz.ntmps85
  go_wp2_with fail
  refine c1.mono ?_
  rintro e w1 ⟨rfl, W1, g1⟩
  have g01 := grown_trans g0 g1
  by_cases hr : r.1 = 0
  · obtain ⟨rb, hlvD⟩ := HE hr
    have HR : Hid (r.1 = 0) := hr
    have hr' : (r.1 : Int) = 0 := by omega
    rw [hr']
    have hb1 := hbx.keep (g1.block _ hbw (fun e => by have := Option.some.inj e; omega))
    obtain ⟨d0, d1, d2, d3, d4, d5⟩ := row6z hb1
    clear HE hr'
    go_wp2_with fail
    have hll : l.length ≤ 9223372036854775807 := Nat.le_trans hal.le hal.max
    have hml : m.length ≤ 9223372036854775807 := Nat.le_trans ham.le ham.max
    have hbr : ∀ wr : World, w1.grownBy wr (some B) → rowAt wr w.heap.size 0 [.int .i64 k, .bool b, .int .i64 i, .string s, .slice al l.length cl, .slice am m.length cm] := fun wr g => hb1.keep (g.block _ (by have := g1.size; omega) (fun e => by have := Option.some.inj e; omega))
    clear hb1 hbx
    go_loopw [24] (fun e wr => ∃ (j : Nat) (q : St), j ≤ l.length ∧ e = .int .i64 (j : Int) ∧ Hid (chkL D l (lv + 1) r.2 = chkL D (l.drop j) (lv + 1) q) ∧ Bnd D q ∧ Wk B D q.1 q.2.1 q.2.2 wr ∧ w1.grownBy wr (some B)) (fun e _ => l.length - (RowKit.intOf e).toNat)
    case atStart => exact ⟨0, r.2, by omega, rfl, rfl, rb, W1, World.grownBy.refl _ _⟩
    case round =>
      clear d0 d1 d2 d3 d4 d5
      obtain ⟨j, q, hj, rfl, HQ, qb, Wq, gq⟩ := hrel
      have gw := grown_trans g01 gq
      by_cases hjl : j < l.length
      · have y1 : (j : Int) < l.length := by omega
        obtain ⟨hSb, csj, hrow, hlj⟩ := liesL_get HL.out j hjl
        obtain rfl : al = some ⟨bl, ol, none⟩ := hal.at_.resolve_left (by omega)
        have hrow' := hrow.keep (hkp wr gw _ hSb)
        obtain ⟨ek, eb, ei, es, eal, enl, ecl, eam, enm, ecm, rfl⟩ := V.ten hlj
        obtain ⟨q0, q1, q2, q3, q4, q5⟩ := row6 hrow'
        have ga : w.grownBy (wr.alloc (.cells #[.int .i64 ek, .bool eb, .int .i64 ei, .string es, .slice eal enl ecl, .slice eam enm ecm] 33)) (some B) := grown_alloc gw _
        have ih := ihl l[j] (List.getElem_mem hjl) R B D (lv + 1) q S _ _ (t.grown ga (fun r e => by cases e; exact hB)) (V.lies_keep (fun h => h) (hkp _ ga) (fun _ h => h) _ hlj) (fun b hb => ⟨(hS b hb).1, Nat.lt_of_lt_of_le (hS b hb).2 ga.size⟩) (Wq.keep (Below.heap_alloc wr _ B Wq.lt)) hB (by have := wtL_mem (List.getElem_mem hjl); omega) qb hD (by omega)
        have hc1 : ((lv + 1 : Nat) : Int) = (lv : Int) + 1 := by omega
        rw [hc1] at ih
        have HD : Hid (chkL D (l.drop j) (lv + 1) q = if (chkV D l[j] (lv + 1) q).1 = 0 then chkL D (l.drop (j + 1)) (lv + 1) (chkV D l[j] (lv + 1) q).2 else chkV D l[j] (lv + 1) q) := chkL_drop hjl _ _
        have HB := chkV_bnd D l[j] (lv + 1) q qb
        generalize chkV D l[j] (lv + 1) q = z at *
        clear hlj hrow hrow' hc1
        go_wp2_with fail
        refine ih.mono ?_
        rintro e w3 ⟨rfl, W3, g3⟩
        by_cases hz : z.1 = 0
        · have zb := HB hz
          have hz' : (z.1 : Int) = 0 := by omega
          have HZ : Hid (chkL D l (lv + 1) r.2 = chkL D (l.drop (j + 1)) (lv + 1) z.2) := by show _ = _; rw [HQ.out, HD.out, if_pos hz]
          rw [hz']
          clear hz hz' HB HD HQ
          go_wp2_with fail
          go_roundw
          case rel => exact ⟨j + 1, z.2, by omega, by go_num, HZ, zb, W3, grown_trans (grown_alloc gq _) g3⟩
          case measure => simp [RowKit.intOf]; omega
        · have hz' : ((z.1 : Int) != 0) = true := by rw [bne_iff_ne]; omega
          have HZ : Hid (chkV D (.mk k b i s l m) lv st = z) := by show _ = _; rw [HC.out, if_pos HR.out, HQ.out, HD.out, if_neg hz, if_neg hz]
          clear hz HB HD HQ
          go_wp2_with fail
          go_ret
          rw [HZ.out]
          exact ⟨rfl, W3, grown_trans ga g3⟩
      · obtain rfl : j = l.length := by omega
        have y1 : ¬ (l.length : Int) < l.length := by omega
        have HQ' : Hid (chkL D l (lv + 1) r.2 = (0, q)) := by show _ = _; rw [HQ.out, List.drop_length, chkL]
        have HC2 : Hid (chkV D (.mk k b i s l m) lv st = chkM D m (lv + 1) q) := by show _ = _; rw [HC.out, if_pos HR.out, HQ'.out]; rfl
        obtain ⟨d0, d1, d2, d3, d4, d5⟩ := row6z (hbr wr gq)
        clear HQ HQ' HC
        go_wp2_with fail
        rename World => wA
        go_loopw [40] (fun e wr => ∃ (j : Nat) (p : St), j ≤ m.length ∧ e = .int .i64 (j : Int) ∧ Hid (chkM D m (lv + 1) q = chkM D (m.drop j) (lv + 1) p) ∧ Bnd D p ∧ Wk B D p.1 p.2.1 p.2.2 wr ∧ w.grownBy wr (some B)) (fun e _ => m.length - (RowKit.intOf e).toNat)
        case atStart => exact ⟨0, q, by omega, rfl, rfl, qb, Wq, gw⟩
        case round =>
          clear d0 d1 d2 d3 d4 d5 Wq gq gw
          obtain ⟨j, p, hj, rfl, HQ, pb, Wp, gw⟩ := hrel
          by_cases hjl : j < m.length
          · have y1 : (j : Int) < m.length := by omega
            obtain ⟨hSb, hks, csj, hrow, hlj⟩ := liesM_get HM.out j hjl
            obtain rfl : am = some ⟨bm, om, none⟩ := ham.at_.resolve_left (by omega)
            have hrow' := hrow.keep (hkp wr gw _ hSb)
            obtain ⟨ek, eb, ei, es, eal, enl, ecl, eam, enm, ecm, rfl⟩ := V.ten hlj
            obtain ⟨x, q0, q1, q2, q3, q4, q5⟩ := row7 hrow'
            have ga : w.grownBy (wr.alloc (.cells #[.string (m[j]).1, .int .i64 ek, .bool eb, .int .i64 ei, .string es, .slice eal enl ecl, .slice eam enm ecm] 62)) (some B) := grown_alloc gw _
            have ih := ihm m[j] (List.getElem_mem hjl) R B D (lv + 1) p S _ _ (t.grown ga (fun r e => by cases e; exact hB)) (V.lies_keep (fun h => h) (hkp _ ga) (fun _ h => h) _ hlj) (fun b hb => ⟨(hS b hb).1, Nat.lt_of_lt_of_le (hS b hb).2 ga.size⟩) (Wp.keep (Below.heap_alloc wr _ B Wp.lt)) hB (by have := wtM_mem (List.getElem_mem hjl); omega) pb hD (by omega)
            have hc1 : ((lv + 1 : Nat) : Int) = (lv : Int) + 1 := by omega
            rw [hc1] at ih
            have HD : Hid (chkM D (m.drop j) (lv + 1) p = if (chkV D (m[j]).2 (lv + 1) p).1 = 0 then chkM D (m.drop (j + 1)) (lv + 1) (chkV D (m[j]).2 (lv + 1) p).2 else chkV D (m[j]).2 (lv + 1) p) := chkM_drop hjl _ _
            have HB := chkV_bnd D (m[j]).2 (lv + 1) p pb
            generalize chkV D (m[j]).2 (lv + 1) p = z at *
            generalize (m[j]).1 = key at *
            clear hlj hrow hrow' hc1
            go_wp2_with fail
            refine ih.mono ?_
            rintro e w3 ⟨rfl, W3, g3⟩
            by_cases hz : z.1 = 0
            · have zb := HB hz
              have hz' : (z.1 : Int) = 0 := by omega
              have HZ : Hid (chkM D m (lv + 1) q = chkM D (m.drop (j + 1)) (lv + 1) z.2) := by show _ = _; rw [HQ.out, HD.out, if_pos hz]
              rw [hz']
              clear hz hz' HB HD HQ
              go_wp2_with fail
              go_roundw
              case rel => exact ⟨j + 1, z.2, by omega, by go_num, HZ, zb, W3, grown_trans ga g3⟩
              case measure => simp [RowKit.intOf]; omega
            · have hz' : ((z.1 : Int) != 0) = true := by rw [bne_iff_ne]; omega
              have HZ : Hid (chkV D (.mk k b i s l m) lv st = z) := by show _ = _; rw [HC2.out, HQ.out, HD.out, if_neg hz]
              clear hz HB HD HQ
              go_wp2_with fail
              go_ret
              rw [HZ.out]
              exact ⟨rfl, W3, grown_trans ga g3⟩
          · obtain rfl : j = m.length := by omega
            have y1 : ¬ (m.length : Int) < m.length := by omega
            have HZ : Hid (chkV D (.mk k b i s l m) lv st = (0, p)) := by show _ = _; rw [HC2.out, HQ.out, List.drop_length, chkM]
            clear HQ HC2
            go_wp2_with fail
            go_ret
            rw [HZ.out]
            exact ⟨rfl, Wp, gw⟩
  · have hr' : ((r.1 : Int) != 0) = true := by rw [bne_iff_ne]; omega
    have HF : Hid (chkV D (.mk k b i s l m) lv st = r) := by show _ = _; rw [HC.out, if_neg hr]
    clear hr HC HE
    go_wp2_with fail
    go_ret
    rw [HF.out]
    exact ⟨rfl, W1, g01⟩
end Go.Proofs.YtfekgeaopchilaaGreatDoor
/- value.Check. -/
namespace Go.Proofs.YtfekgeaopchilaaGreatDoor
open Go.RowKit Go.Lib
/-- what Check answers -/
def chkE (v : V) (depth : Int) : Nat := if depth < 0 ∨ 40 < depth then 2 else (chkV depth.toNat v 0 (0, 0, 0)).1
def NPost (r : Nat) (w : World) (e : Ending) (w' : World) : Prop := e = .returned (.int .i64 (r : Int)) ∧ Below w.heap.size w w'
set_option maxHeartbeats 4000000 in
set_option maxRecDepth 100000 in
theorem check_wide (R : Bool) (v : V) (depth : Int) (S : Nat → Prop) (cs : List Value) (w : World) (t : Tb w) (hl : v.lies R w S cs) (hS : ∀ b, S b → b < w.heap.size) (hwt : v.wt ≤ 281474976710656) :
    Calls Tryz.prog 68 #[.agg cs.toArray, .int .i64 depth] w (NPost (chkE v depth) w) := by
  obtain ⟨k, b, i, s, al, nl, cl, am, nm, cm, rfl⟩ := V.ten hl
  by_cases h1 : depth < 0
  · have HF : Hid (chkE v depth = 2) := by show _ = _; simp [chkE, h1]
    go_enter Tryz.func68, Tryz.ntmps68
    go_wp2_with fail
    go_ret
    rw [HF.out]
    exact ⟨rfl, (Below.refl _ _).alloc (Nat.le_refl _) _⟩
  by_cases h2 : 40 < depth
  · have HF : Hid (chkE v depth = 2) := by show _ = _; simp [chkE, h2]
    go_enter Tryz.func68, Tryz.ntmps68
    go_wp2_with fail
    go_ret
    rw [HF.out]
    exact ⟨rfl, (Below.refl _ _).alloc (Nat.le_refl _) _⟩
  obtain ⟨D, rfl⟩ : ∃ D : Nat, depth = (D : Int) := ⟨depth.toNat, by omega⟩
  have hD : D ≤ 40 := by omega
  have HF : Hid (chkE v (D : Int) = (chkV D v 0 (0, 0, 0)).1) := by show _ = _; rw [chkE, if_neg (by omega)]; rfl
  have ga : w.grownBy ((w.alloc (.cells #[.int .i64 k, .bool b, .int .i64 i, .string s, .slice al nl cl, .slice am nm cm] 33)).alloc (.cells #[.int .i64 (D : Int), .int .i64 0, .int .i64 0, .int .i64 0] 96)) none := grown_alloc (World.grownBy_alloc _ _ _) _
  have hk : ∀ x, S x → ((w.alloc (.cells #[.int .i64 k, .bool b, .int .i64 i, .string s, .slice al nl cl, .slice am nm cm] 33)).alloc (.cells #[.int .i64 (D : Int), .int .i64 0, .int .i64 0, .int .i64 0] 96)).heap[x]? = w.heap[x]? := fun x hx => ga.block x (hS x hx) (by simp)
  have c := visit_wide v R (w.heap.size + 1) D 0 (0, 0, 0) S _ _ (t.grown ga (fun r e => by cases e)) (V.lies_keep (fun h => h) hk (fun _ h => h) _ hl) (fun x hx => ⟨by have := hS x hx; omega, Nat.lt_of_lt_of_le (hS x hx) ga.size⟩) ⟨alloc2_new w _ _⟩ (by have := t.z; omega) hwt ⟨by simp, by simp, by simp⟩ hD (by omega)
  go_enter Tryz.func68, Tryz.ntmps68
  go_wp2_with fail
  refine c.mono ?_
  rintro e w1 ⟨rfl, _, g1⟩
  go_wp2_with fail
  go_ret
  rw [HF.out]
  exact ⟨rfl, (below_of_grown ga).grown g1 ga.size (fun r e => by cases e; omega)⟩
theorem check_any (R : Bool) (v : V) (depth : Int) (S : Nat → Prop) (cs : List Value) (w : World) (t : Tb w) (hl : v.lies R w S cs) (hS : ∀ b, S b → b < w.heap.size) (hwt : v.wt ≤ 1099511627776) :
    Calls Tryz.prog 68 #[.agg cs.toArray, .int .i64 depth] w (NPost (chkE v depth) w) := check_wide R v depth S cs w t hl hS (by omega)
end Go.Proofs.YtfekgeaopchilaaGreatDoor
/- Plain facts on UTF-8, sequence by sequence. -/
namespace Go.Proofs.YtfekgeaopchilaaGreatDoor.Q
/-- the first byte of a sequence: how many bytes, the least and the greatest second byte -/
def bnd (b : Nat) : Nat × Nat × Nat :=
  if b < 128 then (1, 0, 0) else if 194 ≤ b ∧ b < 224 then (2, 128, 191) else if b = 224 then (3, 160, 191) else if b = 237 then (3, 128, 159)
  else if 224 < b ∧ b < 240 then (3, 128, 191) else if b = 240 then (4, 144, 191) else if b = 244 then (4, 128, 143) else if 240 < b ∧ b < 244 then (4, 128, 191) else (0, 0, 0)
/-- from the k-th byte of a sequence of n on -/
def nxtGo (n : Nat) : Nat → Nat → Nat → List UInt8 → Nat × Bool
  | k, lo, hi, [] => if n ≤ k then (n, true) else (k, false)
  | k, lo, hi, c :: t => if n ≤ k then (n, true) else if c.toNat < lo ∨ hi < c.toNat then (k, false) else nxtGo n (k + 1) 128 191 t
/-- the sequence at the head: how far it goes, and whether it is whole -/
def nxt : List UInt8 → Nat × Bool
  | [] => (0, false)
  | b :: t => if (bnd b.toNat).1 = 0 then (0, false) else nxtGo (bnd b.toNat).1 1 (bnd b.toNat).2.1 (bnd b.toNat).2.2 t
theorem nxt_cons (b : UInt8) (t : List UInt8) : nxt (b :: t) = if (bnd b.toNat).1 = 0 then (0, false) else nxtGo (bnd b.toNat).1 1 (bnd b.toNat).2.1 (bnd b.toNat).2.2 t := rfl
theorem nxtGo_le (n : Nat) : ∀ (t : List UInt8) (k lo hi : Nat), 1 ≤ k → k ≤ n → k ≤ (nxtGo n k lo hi t).1 ∧ (nxtGo n k lo hi t).1 ≤ k + t.length ∧ (nxtGo n k lo hi t).1 ≤ n ∧ ((nxtGo n k lo hi t).2 = true → (nxtGo n k lo hi t).1 = n)
  | [], k, lo, hi, h, hn => by
    unfold nxtGo
    split <;> simp <;> omega
  | c :: t, k, lo, hi, h, hn => by
    unfold nxtGo
    split
    · simp; omega
    · split
      · simp; omega
      · have := nxtGo_le n t (k + 1) 128 191 (by omega) (by omega)
        simp only [List.length_cons]
        refine ⟨by omega, by omega, this.2.2⟩
theorem bnd_le (b : Nat) : (bnd b).1 ≤ 4 := by
  unfold bnd
  repeat' split
  all_goals simp
theorem nxt_le (l : List UInt8) : (nxt l).1 ≤ l.length ∧ (nxt l).1 ≤ 4 ∧ ((nxt l).2 = true → 1 ≤ (nxt l).1) := by
  cases l with
  | nil => simp [nxt]
  | cons b t =>
    rw [nxt_cons]
    split
    · simp
    · have := nxtGo_le (bnd b.toNat).1 t 1 (bnd b.toNat).2.1 (bnd b.toNat).2.2 (by omega) (by omega)
      have hb := bnd_le b.toNat
      simp only [List.length_cons]
      refine ⟨by omega, by omega, fun _ => by omega⟩
theorem bnd_tab : ∀ b : Fin 256, 128 ≤ b.val → (bnd b.val).1 = (if Lib.firstT b.val % 8 = 1 then 0 else Lib.firstT b.val % 8) ∧ ((bnd b.val).1 = 0 ∨ (bnd b.val).1 = 2 ∨ (bnd b.val).1 = 3 ∨ (bnd b.val).1 = 4) ∧ ((bnd b.val).1 ≠ 0 → (bnd b.val).2.1 = Lib.accLo (Lib.firstT b.val / 16) ∧ (bnd b.val).2.2 = Lib.accHi (Lib.firstT b.val / 16)) := by decide +kernel
theorem nxt_check (b : UInt8) (t : List UInt8) (hb : 128 ≤ b.toNat) :
    Lib.checkN (t.length + 1) (t.getD 0 0).toNat (t.getD 1 0).toNat (t.getD 2 0).toNat (Lib.firstT b.toNat % 8) (Lib.accLo (Lib.firstT b.toNat / 16)) (Lib.accHi (Lib.firstT b.toNat / 16)) = (if (nxt (b :: t)).2 then some (nxt (b :: t)).1 else none) := by
  obtain ⟨h1, h2, h3⟩ := bnd_tab ⟨b.toNat, b.toNat_lt⟩ hb
  simp only at h1 h2 h3
  rw [nxt_cons]
  generalize bnd b.toNat = B at *
  obtain ⟨n, lo, hi⟩ := B
  simp only at h1 h2 h3 ⊢
  rcases h2 with rfl | rfl | rfl | rfl
  · have e : Lib.firstT b.toNat % 8 = 1 ∨ Lib.firstT b.toNat % 8 = 0 := by split at h1 <;> omega
    rcases e with e | e <;> simp [Lib.checkN, e]
  · have e : Lib.firstT b.toNat % 8 = 2 := by split at h1 <;> omega
    obtain ⟨rfl, rfl⟩ := h3 (by omega)
    rw [e]
    rcases t with _ | ⟨c1, t⟩
    · simp [Lib.checkN, nxtGo]
    · simp only [Lib.checkN, nxtGo, List.length_cons, List.getD_cons_zero]
      by_cases c : c1.toNat < Lib.accLo (Lib.firstT b.toNat / 16) ∨ Lib.accHi (Lib.firstT b.toNat / 16) < c1.toNat
      · simp [c]
      · cases t <;> simp [c, nxtGo]
  · have e : Lib.firstT b.toNat % 8 = 3 := by split at h1 <;> omega
    obtain ⟨rfl, rfl⟩ := h3 (by omega)
    rw [e]
    generalize Lib.accLo (Lib.firstT b.toNat / 16) = lo
    generalize Lib.accHi (Lib.firstT b.toNat / 16) = hi
    rcases t with _ | ⟨c1, t⟩
    · simp [Lib.checkN, nxtGo]
    · by_cases c : c1.toNat < lo ∨ hi < c1.toNat
      · simp only [Lib.checkN, nxtGo, List.length_cons, List.getD_cons_zero]
        rcases c with c | c <;> simp [c]
      · have c' := not_or.1 c
        rcases t with _ | ⟨c2, t⟩
        · simp [Lib.checkN, nxtGo, c]
        · by_cases d : c2.toNat < 128 ∨ 191 < c2.toNat
          · rcases d with d | d <;> simp [Lib.checkN, nxtGo, c, c'.1, c'.2, d]
          · have d' := not_or.1 d
            cases t <;> simp [Lib.checkN, nxtGo, c, d, c'.1, c'.2, d'.1, d'.2]
  · have e : Lib.firstT b.toNat % 8 = 4 := by split at h1 <;> omega
    obtain ⟨rfl, rfl⟩ := h3 (by omega)
    rw [e]
    generalize Lib.accLo (Lib.firstT b.toNat / 16) = lo
    generalize Lib.accHi (Lib.firstT b.toNat / 16) = hi
    rcases t with _ | ⟨c1, t⟩
    · simp [Lib.checkN, nxtGo]
    · by_cases c : c1.toNat < lo ∨ hi < c1.toNat
      · simp only [Lib.checkN, nxtGo, List.length_cons, List.getD_cons_zero]
        rcases c with c | c <;> simp [c]
      · have c' := not_or.1 c
        rcases t with _ | ⟨c2, t⟩
        · simp [Lib.checkN, nxtGo, c]
        · by_cases d : c2.toNat < 128 ∨ 191 < c2.toNat
          · rcases d with d | d <;> simp [Lib.checkN, nxtGo, c, c'.1, c'.2, d]
          · have d' := not_or.1 d
            rcases t with _ | ⟨c3, t⟩
            · simp [Lib.checkN, nxtGo, c, d]
            · by_cases f : c3.toNat < 128 ∨ 191 < c3.toNat
              · rcases f with f | f <;> simp [Lib.checkN, nxtGo, c, d, c'.1, c'.2, d'.1, d'.2, f]
              · have f' := not_or.1 f
                cases t <;> simp [Lib.checkN, nxtGo, c, d, f, c'.1, c'.2, d'.1, d'.2, f'.1, f'.2]
/-- 'valid', sequence by sequence. -/
theorem valid_step (l : List UInt8) (hne : l ≠ []) : Lib.validD l = (if (nxt l).2 then Lib.validD (l.drop (nxt l).1) else false) := by
  cases l with
  | nil => exact absurd rfl hne
  | cons b t =>
    by_cases hb : b.toNat < 128
    · rw [Lib.validD_cons b t hb]
      have e : nxt (b :: t) = (1, true) := by
        have : bnd b.toNat = (1, 0, 0) := by simp [bnd, hb]
        cases t <;> simp [nxt_cons, this, nxtGo]
      rw [e]
      rfl
    · have h := Lib.validD_lead (b :: t) hne (by simpa using (by omega : 128 ≤ b.toNat))
      rw [h]
      have k := nxt_check b t (by omega)
      simp only [List.getD_cons_zero, List.getD_cons_succ, List.length_cons] at k ⊢
      rw [k]
      by_cases g : (nxt (b :: t)).2 = true
      · simp [g]
      · simp [g]
end Go.Proofs.YtfekgeaopchilaaGreatDoor.Q
