/- joined: JmF JdA RefD JsI JsM -/
import Derived.Test.YtpmhdcmmlkjjmaaGreatDoorJmE
import Derived.Test.YtpmhdcmmlkjjmaaGreatDoorG32
import Derived.Lib.RuneBytes
/- value.Depth. -/
set_option linter.unusedSimpArgs false
set_option linter.unusedVariables false
set_option maxRecDepth 100000
namespace Go.Proofs.YtpmhdcmmlkjjmaaGreatDoor
open Go.RowKit Go.Lib
/-- what Depth answers -/
def depF (v : V) : Int := if (chkV 40 v 0 (0, 0, 0)).1 = 0 then ((chkV 40 v 0 (0, 0, 0)).2.2.2 : Int) else -1
def IPost (r : Int) (w : World) (e : Ending) (w' : World) : Prop := e = .returned (.int .i64 r) ∧ Below w.heap.size w w'
set_option maxHeartbeats 4000000 in
theorem depth_any (R : Bool) (v : V) (S : Nat → Prop) (cs : List Value) (w : World) (t : Tb w) (hl : v.lies R w S cs) (hS : ∀ b, S b → b < w.heap.size) (hwt : v.wt ≤ 281474976710656) :
    Calls Tryz.prog 16 #[.agg cs.toArray] w (IPost (depF v) w) := by
  obtain ⟨k, b, i, s, al, nl, cl, am, nm, cm, rfl⟩ := V.ten hl
  have ga : w.grownBy ((w.alloc (.cells #[.int .i64 k, .bool b, .int .i64 i, .string s, .slice al nl cl, .slice am nm cm] 25)).alloc (.cells #[.int .i64 40, .int .i64 0, .int .i64 0, .int .i64 0] 59)) none := grown_alloc (World.grownBy_alloc _ _ _) _
  have hk : ∀ x, S x → ((w.alloc (.cells #[.int .i64 k, .bool b, .int .i64 i, .string s, .slice al nl cl, .slice am nm cm] 25)).alloc (.cells #[.int .i64 40, .int .i64 0, .int .i64 0, .int .i64 0] 59)).heap[x]? = w.heap[x]? := fun x hx => ga.block x (hS x hx) (by simp)
  have c := visit_wide v R (w.heap.size + 1) 40 0 (0, 0, 0) S _ _ (t.grown ga (fun r e => by cases e)) (V.lies_keep (fun h => h) hk (fun _ h => h) _ hl) (fun x hx => ⟨by have := hS x hx; omega, Nat.lt_of_lt_of_le (hS x hx) ga.size⟩) ⟨alloc2_new w _ _⟩ (by have := t.z; omega) hwt ⟨by simp, by simp, by simp⟩ (by omega) (by omega)
  have HF : Hid (depF v = if (chkV 40 v 0 (0, 0, 0)).1 = 0 then ((chkV 40 v 0 (0, 0, 0)).2.2.2 : Int) else -1) := rfl
  generalize chkV 40 v 0 (0, 0, 0) = z at *
  by_cases h0 : z.1 = 0
  · rw [if_pos h0] at HF
    go_enter Tryz.func16, Tryz.ntmps16
    go_wp2_with fail
    refine c.mono ?_
    rintro e w1 ⟨rfl, h1, g1⟩
    have h2 := h1.b
    have d3 : w1.cell? ⟨w.heap.size + 1, 3, none⟩ = some (.int .i64 (z.2.2.2 : Int)) := by rw [cell_of_block h2]; rfl
    have y1 : ((z.1 : Nat) : Int) = 0 := by omega
    clear h1 h2
    go_wp2_with fail
    go_ret
    rw [HF.out]
    exact ⟨rfl, (below_of_grown ga).grown g1 ga.size (fun r e => by cases e; omega)⟩
  · rw [if_neg h0] at HF
    go_enter Tryz.func16, Tryz.ntmps16
    go_wp2_with fail
    refine c.mono ?_
    rintro e w1 ⟨rfl, h1, g1⟩
    have y1 : (((z.1 : Nat) : Int) != 0) = true := by rw [bne_iff_ne]; omega
    have y2 : ¬ ((z.1 : Nat) : Int) = 0 := by omega
    clear h1
    go_wp2_with fail
    go_ret
    rw [HF.out]
    exact ⟨rfl, (below_of_grown ga).grown g1 ga.size (fun r e => by cases e; omega)⟩
end Go.Proofs.YtpmhdcmmlkjjmaaGreatDoor
/- the document's reader: its box, fail, blanks, next, numeric. -/
set_option maxRecDepth 100000
namespace Go.Proofs.YtpmhdcmmlkjjmaaGreatDoor
open Go.RowKit Go.Lib
/-- the document's reader: the text, the place, how many began, how deep, the fault, its place -/
def JD (g : Nat) (s : ByteArray) (k n D e bd : Nat) (w : World) : Prop := w.heap[g]? = some (.cells #[.string s, .int .i64 (k : Int), .int .i64 (n : Int), .int .i64 (D : Int), .int .i64 (e : Int), .int .i64 (bd : Int)] 66 (0, 0))
section
variable {g k n D e bd : Nat} {s : ByteArray} {w : World}
theorem JD.lt (h : JD g s k n D e bd w) : g < w.heap.size := by
  rcases Nat.lt_or_ge g w.heap.size with h' | h'
  · exact h'
  · unfold JD at h; rw [Array.getElem?_eq_none h'] at h; cases h
theorem JD.c0 (h : JD g s k n D e bd w) : w.cell? ⟨g, 0, none⟩ = some (.string s) := by rw [cell_of_block h]; rfl
theorem JD.c1 (h : JD g s k n D e bd w) : w.cell? ⟨g, 1, none⟩ = some (.int .i64 (k : Int)) := by rw [cell_of_block h]; rfl
theorem JD.c2 (h : JD g s k n D e bd w) : w.cell? ⟨g, 2, none⟩ = some (.int .i64 (n : Int)) := by rw [cell_of_block h]; rfl
theorem JD.c3 (h : JD g s k n D e bd w) : w.cell? ⟨g, 3, none⟩ = some (.int .i64 (D : Int)) := by rw [cell_of_block h]; rfl
theorem JD.fz (h : JD g s k n D e bd w) (o : Nat) : w.frozen? ⟨g, o, none⟩ = false := frozen_of_block h o
theorem JD.put (h : JD g s k n D e bd w) (m : Nat) (z : Int) (hz : z = m) : JD g s m n D e bd (w.setCell ⟨g, 1, none⟩ (.int .i64 z)) := by
  subst hz; unfold JD at *; rw [set_block h]; rfl
theorem JD.putN (h : JD g s k n D e bd w) (m : Nat) (z : Int) (hz : z = m) : JD g s k m D e bd (w.setCell ⟨g, 2, none⟩ (.int .i64 z)) := by
  subst hz; unfold JD at *; rw [set_block h]; rfl
theorem JD.drewN (h : JD g s k n D e bd w) (q : Nat) : JD g s k n D e bd (w.drewN q) := drewN_block h q
theorem JD.keep {w' : World} (h : JD g s k n D e bd w) (hb : Below w.heap.size w w') : JD g s k n D e bd w' := (hb.block g h.lt).trans h
theorem JD.own {w' : World} {row : Option Nat} (h : JD g s k n D e bd w) (gr : w.grownBy w' row) (hr : row ≠ some g) : JD g s k n D e bd w' := (gr.block g h.lt (fun e => hr e.symm)).trans h
end
end Go.Proofs.YtpmhdcmmlkjjmaaGreatDoor
/- Contracts: the document's Unquote. -/
set_option maxRecDepth 100000
namespace Go.Proofs.YtpmhdcmmlkjjmaaGreatDoor
open Go.RowKit Go.Lib
theorem OwnB.drewN {B : Nat} {v : Value} {l : List UInt8} {w : World} (h : OwnB B v l w) (q : Nat) : OwnB B v l (w.drewN q) := by
  induction q with
  | zero => exact h
  | succ q ih => exact ih
end Go.Proofs.YtpmhdcmmlkjjmaaGreatDoor
/- the integer that the document reads is the program's. -/
namespace Go.Proofs.YtpmhdcmmlkjjmaaGreatDoor
open Go.RowKit Go.Lib
def dvJ (acc : Nat) : List UInt8 → Option Nat
  | [] => some acc
  | c :: r => if 48 ≤ c.toNat ∧ c.toNat ≤ 57 then dvJ (acc * 10 + (c.toNat - 48)) r else none
def uJ (d : List UInt8) : Option Nat := if d = [] ∨ (1 < d.length ∧ d.head? = some 48) ∨ 19 < d.length then none else dvJ 0 d
def finJ (minus : Bool) (o : Option Nat) : Option Int := match o with
  | none => none
  | some n => if minus = true ∧ n = 9223372036854775808 then some (-9223372036854775808) else if 9223372036854775807 < n then none else some (if minus = true then -(n : Int) else (n : Int))
/-- the document's integer -/
def dinJ (r : List UInt8) : Option Int := if r.head? = some 45 then finJ true (uJ r.tail) else finJ false (uJ r)
theorem dv_low : ∀ {l : List UInt8} {acc u : Nat}, dvJ acc l = some u → acc * 10 ^ l.length ≤ u
  | [], acc, u, h => by rw [dvJ] at h; cases h; simp
  | c :: r, acc, u, h => by
    rw [dvJ] at h
    split at h
    · have := dv_low h
      rw [List.length_cons, Nat.pow_succ]
      have h2 : acc * (10 ^ r.length * 10) = (acc * 10) * 10 ^ r.length := by rw [Nat.mul_comm (10 ^ r.length) 10, Nat.mul_assoc]
      rw [h2]
      exact Nat.le_trans (Nat.mul_le_mul_right _ (Nat.le_add_right _ _)) this
    · cases h
theorem dv_le {l : List UInt8} {acc u : Nat} (h : dvJ acc l = some u) : acc ≤ u := by
  have := dv_low h
  exact Nat.le_trans (Nat.le_mul_of_pos_right _ (Nat.pow_pos (by decide))) this
theorem pu_dv : ∀ {l : List UInt8} {acc u : Nat}, parseUintM 18446744073709551615 acc l = .ok u → dvJ acc l = some u
  | [], acc, u, h => by rw [parseUintM] at h; cases h; rfl
  | c :: r, acc, u, h => by
    rw [parseUintM] at h
    rw [dvJ]
    split at h
    · rename_i hc
      rw [if_pos hc]
      split at h
      · cases h
      · split at h
        · cases h
        · exact pu_dv h
    · cases h
theorem dv_pu : ∀ {l : List UInt8} {acc u : Nat}, dvJ acc l = some u → u ≤ 18446744073709551615 → parseUintM 18446744073709551615 acc l = .ok u
  | [], acc, u, h, _ => by rw [dvJ] at h; cases h; rfl
  | c :: r, acc, u, h, hu => by
    rw [dvJ] at h
    rw [parseUintM]
    split at h
    · rename_i hc
      have := dv_le h
      rw [if_pos hc, if_neg (by omega), if_neg (by omega)]
      exact dv_pu h hu
    · cases h
/-- a number of nineteen digits or fewer is a uint64 -/
theorem dv_top : ∀ {l : List UInt8} {acc u : Nat}, dvJ acc l = some u → u < (acc + 1) * 10 ^ l.length
  | [], acc, u, h => by rw [dvJ] at h; cases h; simp
  | c :: r, acc, u, h => by
    rw [dvJ] at h
    split at h
    · have := dv_top h
      rw [List.length_cons, Nat.pow_succ]
      have h2 : (acc + 1) * (10 ^ r.length * 10) = ((acc + 1) * 10) * 10 ^ r.length := by rw [Nat.mul_comm (10 ^ r.length) 10, Nat.mul_assoc]
      rw [h2]
      exact Nat.lt_of_lt_of_le this (Nat.mul_le_mul_right _ (by omega))
    · cases h
theorem pfx (c d : UInt8) (t : List UInt8) : hasPrefix (c :: t) [d] = (d == c) := by simp [hasPrefix, List.isPrefixOf]
/-- what stands behind the sign, read by the library's way and by the document's -/
theorem behind (minus : Bool) (d : List UInt8) (hz : ¬ (hasPrefix d [48] = true ∧ 1 < d.length)) :
    (match parseUintB 64 d with | .ok u => (if minus = false ∧ 9223372036854775808 ≤ u then none else if minus = true ∧ 9223372036854775808 < u then none else some (if minus = true then -(u : Int) else (u : Int))) | _ => none) = finJ minus (uJ d) := by
  have e2 : (2 : Nat) ^ 64 - 1 = 18446744073709551615 := by decide
  by_cases h0 : d = []
  · subst h0; rw [parseUintB, if_pos rfl, uJ, if_pos (.inl rfl)]; rfl
  rw [parseUintB, if_neg h0, e2]
  have hz' : ¬ (1 < d.length ∧ d.head? = some 48) := by
    rintro ⟨h1, h2⟩
    cases d with
    | nil => cases h2
    | cons c t => exact hz ⟨by rw [pfx]; simp at h2; simp [h2], h1⟩
  by_cases hl : 19 < d.length
  · rw [uJ, if_pos (.inr (.inr hl))]
    cases hp : parseUintM 18446744073709551615 0 d with
    | ok u =>
      have hv := pu_dv hp
      have hu : 10000000000000000000 ≤ u := by
        cases d with
        | nil => cases h0 rfl
        | cons c t =>
          rw [dvJ] at hv
          split at hv
          · rename_i hc
            have hc48 : c.toNat ≠ 48 := fun q => hz' ⟨by omega, by rw [List.head?_cons]; exact congrArg some (UInt8.toNat_inj.1 q)⟩
            have h1 := dv_low hv
            have h2 : (10 : Nat) ^ 19 ≤ 10 ^ t.length := Nat.pow_le_pow_right (by decide) (by rw [List.length_cons] at hl; omega)
            have e : (10 : Nat) ^ 19 = 10000000000000000000 := by decide
            have h3 : 1 * 10 ^ t.length ≤ (0 * 10 + (c.toNat - 48)) * 10 ^ t.length := Nat.mul_le_mul_right _ (by omega)
            omega
          · cases hv
      dsimp only
      rw [finJ]
      cases minus with
      | true => rw [if_neg (by simp), if_pos ⟨rfl, by omega⟩]
      | false => rw [if_pos ⟨rfl, by omega⟩]
    | «syntax» => rfl
    | range => rfl
  · rw [uJ, if_neg (by rintro (h | h | h); exact h0 h; exact hz' h; exact hl h)]
    cases hv : dvJ 0 d with
    | none =>
      cases hp : parseUintM 18446744073709551615 0 d with
      | ok u => rw [pu_dv hp] at hv; cases hv
      | «syntax» => rfl
      | range => rfl
    | some u =>
      have ht := dv_top hv
      have hu : u ≤ 18446744073709551615 := by
        have : (10 : Nat) ^ d.length ≤ 10 ^ 19 := Nat.pow_le_pow_right (by decide) (by omega)
        have e : (10 : Nat) ^ 19 = 10000000000000000000 := by decide
        omega
      rw [dv_pu hv hu]
      dsimp only
      rw [finJ]
      cases minus with
      | true =>
        by_cases e1 : u = 9223372036854775808
        · subst e1; decide
        · simp only [Bool.true_eq_false, false_and, if_false, true_and, if_true, e1]
          by_cases e3 : 9223372036854775808 < u
          · rw [if_pos e3, if_pos (by omega)]
          · rw [if_neg e3, if_neg (by omega)]
      | false =>
        simp only [Bool.false_eq_true, false_and, if_false, true_and]
        by_cases e3 : 9223372036854775808 ≤ u
        · rw [if_pos e3, if_pos (by omega)]
        · rw [if_neg e3, if_neg (by omega)]
theorem int_doc (r : List UInt8) : intJ r = dinJ r := by
  have e3 : (2 : Nat) ^ (64 - 1) = 9223372036854775808 := by decide
  cases r with
  | nil => rfl
  | cons c t =>
    rw [intJ, dinJ, pfx]
    by_cases hp : c = 43
    · subst hp
      rw [if_pos (by rfl), if_neg (by simp)]
      rw [uJ]
      split
      · rfl
      · rw [dvJ, if_neg (by decide)]; rfl
    rw [if_neg (by simp; exact fun h => hp h.symm)]
    by_cases hm : c = 45
    · subst hm
      have ht : trimPrefix (45 :: t) [45] = t := by simp [trimPrefix, hasPrefix, List.isPrefixOf]
      rw [ht, if_pos (by rfl : (45 :: t).head? = some 45), List.tail_cons]
      by_cases hz : hasPrefix t [48] = true ∧ 1 < t.length
      · rw [if_pos hz]
        cases t with
        | nil => exact absurd hz.2 (by simp)
        | cons d u =>
          have : d = 48 := by have := hz.1; rw [pfx] at this; simp at this; exact this.symm
          subst this
          rw [uJ, if_pos (.inr (.inl ⟨hz.2, rfl⟩))]
          rfl
      · rw [if_neg hz, ← behind true t hz]
        unfold parseIntB
        dsimp only
        rw [if_pos (by right; rfl)]
        cases parseUintB 64 t with
        | ok u =>
          dsimp only
          rw [e3]
          by_cases q : 9223372036854775808 < u
          · simp [q]
          · simp [q]
        | «syntax» => rfl
        | range => rfl
    · have ht : trimPrefix (c :: t) [45] = c :: t := by rw [trimPrefix, pfx, if_neg (by simp; exact fun h => hm h.symm)]
      rw [ht, if_neg (by simp; exact hm : ¬ (c :: t).head? = some 45)]
      by_cases hz : hasPrefix (c :: t) [48] = true ∧ 1 < (c :: t).length
      · rw [if_pos hz]
        have : c = 48 := by have := hz.1; rw [pfx] at this; simp at this; exact this.symm
        subst this
        rw [uJ, if_pos (.inr (.inl ⟨hz.2, rfl⟩))]
        rfl
      · rw [if_neg hz, ← behind false (c :: t) hz]
        have n43 : c.toNat ≠ 43 := fun q => hp (UInt8.toNat_inj.1 q)
        have n45 : c.toNat ≠ 45 := fun q => hm (UInt8.toNat_inj.1 q)
        unfold parseIntB
        dsimp only
        rw [if_neg (by omega)]
        cases parseUintB 64 (c :: t) with
        | ok u =>
          dsimp only
          rw [e3]
          by_cases q : 9223372036854775808 ≤ u
          · simp [n45, q]
          · simp [n45, q]
        | «syntax» => rfl
        | range => rfl
end Go.Proofs.YtpmhdcmmlkjjmaaGreatDoor
/- members put in where they belong: plain. -/
namespace Go.Proofs.YtpmhdcmmlkjjmaaGreatDoor
open Go.RowKit Go.Lib
theorem toList_data (a : ByteArray) : a.toList = a.data.toList := ByteArray.toList_eq a
theorem less_cmp : ∀ a b : List UInt8, Op.bytesLess a b = decide (compareBytes a b = -1)
  | [], [] => by simp [Op.bytesLess, compareBytes]
  | [], _ :: _ => by simp [Op.bytesLess, compareBytes]
  | _ :: _, [] => by simp [Op.bytesLess, compareBytes]
  | x :: t, y :: u => by
    have ih := less_cmp t u
    simp only [Op.bytesLess, compareBytes]
    by_cases h1 : x < y
    · simp [h1]
    · by_cases h2 : y < x
      · have hne : x ≠ y := fun e => by subst e; exact h1 h2
        simp [h1, h2, hne]
      · have he : x = y := u8_tri x y h1 h2
        subst he
        simp [h1, ih]
theorem less_k (a b : ByteArray) : Op.bytesLess a.toList b.toList = decide (cmpS a b < 0) := by
  rw [less_cmp, toList_data, toList_data, Bool.eq_iff_iff, decide_eq_true_iff, decide_eq_true_iff]
  have h : compareBytes a.data.toList b.data.toList = cmpS a b := rfl
  rw [h]
  have := k_one a b
  omega
def keysM (L : List Mem) : List (List UInt8) := L.map fun x => x.1.data.toList
theorem key_eq {a b : ByteArray} (h : a.data.toList = b.data.toList) : a = b := by
  cases a; cases b
  exact congrArg ByteArray.mk (Array.toList_inj.1 h)
end Go.Proofs.YtpmhdcmmlkjjmaaGreatDoor
