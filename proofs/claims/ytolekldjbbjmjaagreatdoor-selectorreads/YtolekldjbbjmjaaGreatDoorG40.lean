/- joined: DocA DocB PrnF -/
import Derived.Test.YtolekldjbbjmjaaGreatDoorG35
import Derived.Test.YtolekldjbbjmjaaGreatDoorG39
/- SelectorReads: the document's reader: its box, fail, blanks, sees, plainWord. -/
set_option linter.unusedSimpArgs false
set_option linter.unusedVariables false
namespace Go.Proofs.YtolekldjbbjmjaaGreatDoor
open Go.RowKit Go.Lib
/-- the document's reader's box: the text, the place, the fault's place -/
def DB (g : Nat) (s : ByteArray) (k : Nat) (bad : Int) (w : World) : Prop := w.heap[g]? = some (.cells #[.string s, .int .i64 (k : Int), .int .i64 bad] 86 (0, 0))
section
variable {g : Nat} {s : ByteArray} {k : Nat} {bad : Int} {w w' : World}
theorem DB.lt (h : DB g s k bad w) : g < w.heap.size := by
  rcases Nat.lt_or_ge g w.heap.size with h' | h'
  · exact h'
  · unfold DB at h; rw [Array.getElem?_eq_none h'] at h; cases h
theorem DB.c0 (h : DB g s k bad w) : w.cell? ⟨g, 0, none⟩ = some (.string s) := by rw [cell_of_block h]; rfl
theorem DB.c1 (h : DB g s k bad w) : w.cell? ⟨g, 1, none⟩ = some (.int .i64 (k : Int)) := by rw [cell_of_block h]; rfl
theorem DB.c2 (h : DB g s k bad w) : w.cell? ⟨g, 2, none⟩ = some (.int .i64 bad) := by rw [cell_of_block h]; rfl
theorem DB.fz (h : DB g s k bad w) (o : Nat) : w.frozen? ⟨g, o, none⟩ = false := frozen_of_block h o
theorem DB.put1 (h : DB g s k bad w) (n : Nat) (z : Int) (hz : z = n) : DB g s n bad (w.setCell ⟨g, 1, none⟩ (.int .i64 z)) := by
  subst hz
  unfold DB at *
  rw [set_block h]
  rfl
theorem DB.put2 (h : DB g s k bad w) (z : Int) : DB g s k z (w.setCell ⟨g, 2, none⟩ (.int .i64 z)) := by
  unfold DB at *
  rw [set_block h]
  rfl
theorem DB.keep (h : DB g s k bad w) (hb : Below w.heap.size w w') : DB g s k bad w' := (hb.block g h.lt).trans h
theorem DB.drewN (h : DB g s k bad w) (q : Nat) : DB g s k bad (w.drewN q) := by
  induction q with
  | zero => exact h
  | succ q ih => exact ih
theorem DB.at_ (h : DB g s k bad w) : at_ g w = k := by
  unfold Go.Proofs.YtolekldjbbjmjaaGreatDoor.at_
  rw [h.c1]
  simp [RowKit.intOf]
end
/-- the reader behind a call -/
structure DP (g : Nat) (s : ByteArray) (w w' : World) (k : Nat) (bad : Int) : Prop where
  le : k ≤ s.size
  db : DB g s k bad w'
  gr : w.grownBy w' (some g)
section
variable {g : Nat} {s : ByteArray} {k k2 : Nat} {bad bad2 : Int} {w w1 w2 : World}
theorem DP.trans (h : DP g s w w1 k bad) (h2 : DP g s w1 w2 k2 bad2) : DP g s w w2 k2 bad2 := ⟨h2.le, h2.db, grown_trans h.gr h2.gr⟩
theorem DP.refl (h : DB g s k bad w) (hk : k ≤ s.size) : DP g s w w k bad := ⟨hk, h, World.grownBy.refl _ _⟩
theorem DP.below (h : DP g s w w1 k bad) (b : Below w1.heap.size w1 w2) : DP g s w w2 k bad := ⟨h.le, h.db.keep b, grown_trans h.gr (grown_below b)⟩
theorem DP.drewN (h : DP g s w w1 k bad) (q : Nat) : DP g s w (w1.drewN q) k bad := ⟨h.le, h.db.drewN q, grown_drewN h.gr q⟩
theorem DP.put1 (h : DP g s w w1 k bad) (n : Nat) (z : Int) (hz : z = n) (hn : n ≤ s.size) : DP g s w (w1.setCell ⟨g, 1, none⟩ (.int .i64 z)) n bad := ⟨hn, h.db.put1 n z hz, grown_set h.gr _ _⟩
theorem DP.put2 (h : DP g s w w1 k bad) (z : Int) : DP g s w (w1.setCell ⟨g, 2, none⟩ (.int .i64 z)) k z := ⟨h.le, h.db.put2 z, grown_set h.gr _ _⟩
end
theorem at_drop {s : ByteArray} {k : Nat} (hk : k ≤ s.size) : At s.data.toList k (s.data.toList.drop k) := ⟨by simpa using hk, rfl⟩
theorem skp_yes {s : ByteArray} {k : Nat} (h : k < s.size) (hb : s[k] = 32) : skp s.data.toList k = skp s.data.toList (k + 1) := by
  have h1 := at_drop (s := s) (k := k) (by omega)
  rw [drop_cons s k h, hb] at h1
  exact skp_one h1
theorem skp_no {s : ByteArray} {k : Nat} (h : k < s.size) (hb : s[k] ≠ 32) : skp s.data.toList k = k := by
  have h1 := at_drop (s := s) (k := k) (by omega)
  rw [drop_cons s k h] at h1
  exact skp_none h1 (by simpa using hb)
theorem skp_end (s : ByteArray) : skp s.data.toList s.size = s.size := by
  have h1 := at_drop (s := s) (k := s.size) (Nat.le_refl _)
  rw [drop_end s s.size (Nat.le_refl _)] at h1
  exact skp_none h1 (by simp)
set_option maxHeartbeats 4000000 in
set_option maxRecDepth 100000 in
theorem dfail_any (g : Nat) (s : ByteArray) (k : Nat) (z : Int) (w : World) (h : DB g s k (-1) w) (hk : k ≤ s.size) :
    Calls Tryz.prog 77 #[.pointer (some ⟨g, 0, none⟩), .int .i64 z] w (fun e w' => e = .returned (.tuple #[]) ∧ DP g s w w' k z) := by
  have R0 := hmk ((DP.refl h hk).put2 z)
  have c2 := h.c2
  have f2 := h.fz 2
  clear h
  go_enter Tryz.func77, Tryz.ntmps77
  go_wp2_with fail
  exact bodyPost_end (v := .tuple #[]) (results_none rfl _ _ _) rfl ⟨rfl, R0.out⟩
set_option maxHeartbeats 4000000 in
set_option maxRecDepth 100000 in
theorem blanks_any (g : Nat) (s : ByteArray) (k0 : Nat) (w : World) (h : DB g s k0 (-1) w) (hk : k0 ≤ s.size) (hs : s.size ≤ 140737488355000) :
    Calls Tryz.prog 37 #[.pointer (some ⟨g, 0, none⟩)] w (fun e w' => e = .returned (.tuple #[]) ∧ DP g s w w' (skp s.data.toList k0) (-1)) := by
  have R0 := DP.refl h hk
  clear h
  go_enter Tryz.func37, Tryz.ntmps37
  go_wp2_with fail
  go_loopw [] (fun wr => ∃ k, DP g s w wr k (-1) ∧ Hid (skp s.data.toList k = skp s.data.toList k0)) (fun wr => s.size - at_ g wr)
  case atStart => exact ⟨k0, R0, rfl⟩
  case round =>
    obtain ⟨k, rk, HK⟩ := hrel
    have c0 := rk.db.c0
    have c1 := rk.db.c1
    have f1 := rk.db.fz 1
    have hle := rk.le
    by_cases hl : k < s.size
    · have y : decide ((k : Int) < s.size) = true := by simp; omega
      by_cases hb : s[k] = 32
      · have hb' : (s[k].toNat : Int) = 32 := by rw [hb]; rfl
        have HK2 : Hid (skp s.data.toList (k + 1) = skp s.data.toList k0) := by show _ = _; rw [← skp_yes hl hb]; exact HK.out
        go_wp2_with fail
        go_quiet (fail)
        have rk2 := rk.drewN nq
        have c12 := rk2.db.c1
        have f12 := rk2.db.fz 1
        have rk3 := rk2.put1 (k + 1) ((k : Int) + 1) (by omega) (by omega)
        go_wp2_with fail
        go_roundw
        case rel => exact ⟨k + 1, rk3, HK2.out⟩
        case measure => rw [rk.db.at_, DB.at_ (k := k + 1) (s := s) (bad := -1)] <;> first | omega | exact rk3.db
      · have y2 : ((s[k].toNat : Int) == 32) = false := by
          rw [beq_eq_false_iff_ne]
          intro q
          exact hb (UInt8.toNat_inj.1 (by show _ = 32; omega))
        have HS : Hid (skp s.data.toList k0 = k) := by show _ = _; rw [← HK.out, skp_no hl hb]
        go_wp2_with fail
        go_quiet (fail)
        have rk2 := rk.drewN nq
        go_wp2_with fail
        (try simp only [Exit.inBlock, Exit.then])
        exact bodyPost_end (v := .tuple #[]) (results_none rfl _ _ _) rfl ⟨rfl, by rw [HS.out]; exact rk2⟩
    · obtain rfl : k = s.size := by omega
      have y : decide ((s.size : Int) < s.size) = false := by simp
      have HS : Hid (skp s.data.toList k0 = s.size) := by show _ = _; rw [← HK.out, skp_end]
      go_wp2_with fail
      go_quiet (fail)
      have rk2 := rk.drewN nq
      go_wp2_with fail
      (try simp only [Exit.inBlock, Exit.then])
      exact bodyPost_end (v := .tuple #[]) (results_none rfl _ _ _) rfl ⟨rfl, by rw [HS.out]; exact rk2⟩
theorem slice_mid (s : ByteArray) (k n : Nat) (z : Int) (hz : z = ((k + n : Nat) : Int)) (hk : k + n ≤ s.size) (W : World) : (Instr.slice 9 (.string s) (some (.int .i64 (k : Int))) (some (.int .i64 z)) none).run Tryz.prog W = .ok (.string (s.extract k (k + n))) W := by
  subst hz
  rw [run_slice_string W 9 s .i64 .i64 (k : Int) ((k + n : Nat) : Int) Tryz.underlying9 (by omega) (by omega) (by omega), Int.toNat_natCast, Int.toNat_natCast]
theorem sees_eq (s p : ByteArray) (k : Nat) (hk : k + p.size ≤ s.size) : ((s.extract k (k + p.size)).toList == p.toList) = tkB s.data.toList k p.data.toList := by
  obtain ⟨h1, h2⟩ := nxt_take s k p.size hk
  have hp : p.data.toList.length = p.size := by simp
  rw [ByteArray.toList_eq, ByteArray.toList_eq, h1]
  unfold tkB hasPrefix
  rw [Bool.eq_iff_iff, beq_iff_eq, List.isPrefixOf_iff_prefix, List.prefix_iff_eq_take, hp]
  exact eq_comm
theorem sees_no (s p : ByteArray) (k : Nat) (hk : k ≤ s.size) (h0 : 0 < p.size) (h : s.size < k + p.size) : tkB s.data.toList k p.data.toList = false := by
  have hp : p.data.toList.length = p.size := by simp
  have hl : s.data.toList.length = s.size := by simp
  cases c : tkB s.data.toList k p.data.toList with
  | false => rfl
  | true =>
    have := tkB_le c (by omega)
    omega
set_option maxHeartbeats 4000000 in
set_option maxRecDepth 100000 in
theorem sees_any (g : Nat) (s p : ByteArray) (k : Nat) (w : World) (h : DB g s k (-1) w) (hk : k ≤ s.size) (hs : s.size ≤ 140737488355000) (h0 : 0 < p.size) (h1 : p.size ≤ 100) :
    Calls Tryz.prog 39 #[.pointer (some ⟨g, 0, none⟩), .string p] w (fun e w' => e = .returned (.bool (tkB s.data.toList k p.data.toList)) ∧ DP g s w w' k (-1)) := by
  have R0 := DP.refl h hk
  have c0 := h.c0
  have c1 := h.c1
  clear h
  by_cases hl : k + p.size ≤ s.size
  · have y : decide ((k : Int) + p.size ≤ s.size) = true := by simp; omega
    have HE := hmk (sees_eq s p k hl)
    have HS := fun W => slice_mid s k p.size ((k : Int) + p.size) (by omega) hl W
    have yb : (k : Int) + p.size < 9223372036854775808 := by omega
    generalize tkB s.data.toList k p.data.toList = t at *
    have HE2 : ((s.extract k (k + p.size)).toList == p.toList) = t := HE.out
    clear HE
    go_enter Tryz.func39, Tryz.ntmps39
    go_wp2_with fail
    go_quiet (fail)
    go_wp2_with fail
    go_ret
    exact ⟨rfl, R0.drewN nq⟩
  · have y : decide ((k : Int) + p.size ≤ s.size) = false := by simp; omega
    have HE := sees_no s p k hk h0 (by omega)
    rw [HE]
    go_enter Tryz.func39, Tryz.ntmps39
    go_wp2_with fail
    go_quiet (fail)
    go_wp2_with fail
    go_ret
    exact ⟨rfl, R0.drewN nq⟩
end Go.Proofs.YtolekldjbbjmjaaGreatDoor
/- SelectorReads: the document's reader: plainWord. -/
namespace Go.Proofs.YtolekldjbbjmjaaGreatDoor
open Go.RowKit Go.Lib
theorem pln_yes {s : ByteArray} {k : Nat} (h : k < s.size) (hp : plainN (s[k]).toNat = true) : plnT s.data.toList k = s[k] :: plnT s.data.toList (k + 1) := by
  have h1 := at_drop (s := s) (k := k) (by omega)
  have h2 := at_drop (s := s) (k := k + 1) (by omega)
  rw [drop_cons s k h] at h1
  rw [pln_at h1, pln_at h2, List.takeWhile_cons_of_pos (p := fun c : UInt8 => plainN c.toNat) hp]
theorem pln_no {s : ByteArray} {k : Nat} (h : k < s.size) (hp : plainN (s[k]).toNat = false) : plnT s.data.toList k = [] := by
  have h1 := at_drop (s := s) (k := k) (by omega)
  rw [drop_cons s k h] at h1
  rw [pln_at h1, List.takeWhile_cons_of_neg (p := fun c : UInt8 => plainN c.toNat) (by simp [hp])]
theorem pln_end (s : ByteArray) : plnT s.data.toList s.size = [] := by
  have h1 := at_drop (s := s) (k := s.size) (Nat.le_refl _)
  rw [drop_end s s.size (Nat.le_refl _)] at h1
  rw [pln_at h1]
  rfl
theorem pln_ext {s : ByteArray} {k j : Nat} (hk : k ≤ j) (hj : j ≤ s.size) (hl : (plnT s.data.toList k).length = j - k) : s.extract k j = ⟨(plnT s.data.toList k).toArray⟩ := by
  obtain ⟨h1, _⟩ := nxt_take s k (j - k) (by omega)
  rw [show k + (j - k) = j by omega] at h1
  have hp : plnT s.data.toList k <+: s.data.toList.drop k := List.takeWhile_prefix _
  rw [List.prefix_iff_eq_take, hl, ← h1] at hp
  apply ByteArray.ext
  apply Array.ext'
  rw [← hp]
set_option maxHeartbeats 4000000 in
set_option maxRecDepth 100000 in
theorem pword_any (g : Nat) (s : ByteArray) (k : Nat) (w : World) (h : DB g s k (-1) w) (hk : k ≤ s.size) (hs : s.size ≤ 140737488355000) :
    Calls Tryz.prog 59 #[.pointer (some ⟨g, 0, none⟩)] w (fun e w' => e = .returned (.string ⟨(plnT s.data.toList k).toArray⟩) ∧ DP g s w w' k (-1)) := by
  have R0 := DP.refl h hk
  have c0 := h.c0
  have c1 := h.c1
  clear h
  go_enter Tryz.func59, Tryz.ntmps59
  go_wp2_with fail
  go_loopw [3] (fun e3 wr => ∃ j : Nat, k ≤ j ∧ j ≤ s.size ∧ e3 = .int .i64 (j : Int) ∧ DP g s w wr k (-1) ∧ Hid ((plnT s.data.toList k).length = j - k + (plnT s.data.toList j).length)) (fun e3 _ => s.size - (RowKit.intOf e3).toNat)
  case atStart => exact ⟨k, Nat.le_refl _, hk, rfl, R0, by show _ = _; omega⟩
  case round =>
    obtain ⟨j, hkj, hj, rfl, rj, HJ⟩ := hrel
    have d0 := rj.db.c0
    have d1 := rj.db.c1
    by_cases hl : j < s.size
    · have y : (j : Int) < s.size := by omega
      have HP := hmk (fun W => rplainbyte_any (s[j]).toNat (UInt8.toNat_lt _) W)
      cases ht : plainN (s[j]).toNat with
      | true =>
        rw [ht] at HP
        have HJ2 : Hid ((plnT s.data.toList k).length = j + 1 - k + (plnT s.data.toList (j + 1)).length) := by
          have a := HJ.out
          rw [pln_yes hl ht, List.length_cons] at a
          show _ = _
          omega
        clear ht HJ
        go_wp2_with (first | (go_at_call 78; refine (HP.out _).mono ?_; rintro e w1 ⟨rfl, rfl⟩))
        go_roundw
        case rel => exact ⟨j + 1, by omega, by omega, by go_num, rj, HJ2.out⟩
        case measure => simp [RowKit.intOf]; omega
      | false =>
        rw [ht] at HP
        have HE : Hid (s.extract k j = ⟨(plnT s.data.toList k).toArray⟩) := by
          have a := HJ.out
          rw [pln_no hl ht, List.length_nil] at a
          exact pln_ext hkj hj (by omega)
        clear ht HJ
        have HS := fun W => slice_mid s k (j - k) (j : Int) (by omega) (by omega) W
        rw [show k + (j - k) = j by omega] at HS
        go_wp2_with (first | (go_at_call 78; refine (HP.out _).mono ?_; rintro e w1 ⟨rfl, rfl⟩))
        go_quiet (fail)
        go_wp2_with fail
        go_ret
        exact ⟨congrArg (fun r => Ending.returned (.string r)) HE.out, rj.drewN nq⟩
    · obtain rfl : j = s.size := by omega
      have y : ¬ (s.size : Int) < s.size := by omega
      have HE : Hid (s.extract k s.size = ⟨(plnT s.data.toList k).toArray⟩) := by
        have a := HJ.out
        rw [pln_end, List.length_nil] at a
        exact pln_ext hkj hj (by omega)
      have HS := fun W => slice_mid s k (s.size - k) (s.size : Int) (by omega) (by omega) W
      rw [show k + (s.size - k) = s.size by omega] at HS
      go_wp2_with fail
      go_quiet (fail)
      go_wp2_with fail
      go_ret
      exact ⟨congrArg (fun r => Ending.returned (.string r)) HE.out, rj.drewN nq⟩
end Go.Proofs.YtolekldjbbjmjaaGreatDoor
/- writing values to a builder. -/
namespace Go.Proofs.YtolekldjbbjmjaaGreatDoor
open Go.RowKit Go.Lib
abbrev Bd (B b : Nat) (L : List UInt8) (w : World) : Prop := IsBuilderF 57 5 B b (byteCells L) w
theorem bf_below {B b : Nat} {p : Value} {xs : List Value} {w w' : World} (h : BuilderAtF 57 5 B b p xs w) (hb : Below w.heap.size w w') : BuilderAtF 57 5 B b p xs w' := by
  have hlt := h.lt
  obtain ⟨hB, v, hk, hown, hne⟩ := h
  exact ⟨hB, v, (hb.block b hlt).trans hk, hown.kept (row := none) (grown_of_below hb) (by cases hv : v.ownBlock <;> simp), hne⟩
theorem Bd.below {B b : Nat} {L : List UInt8} {w w' : World} (h : Bd B b L w) (hb : Below w.heap.size w w') : Bd B b L w' := h.imp (fun h => bf_below h hb) (fun h => bf_below h hb)
end Go.Proofs.YtolekldjbbjmjaaGreatDoor
