/- joined: PlainV JpsA RowS -/
import Derived.Test.YtolekldjbbjmjaaGreatDoorPlainU
import Derived.Lib.AppendStr
import Derived.Lib.LaidTab
import Derived.Lib.ItoaNum
import Derived.Test.YtolekldjbbjmjaaGreatDoorG6
/- Plain facts on reading: digits, escapes, one step of a reader, the whole of it. -/
set_option linter.unusedSimpArgs false
set_option linter.unusedVariables false
namespace Go.Proofs.YtolekldjbbjmjaaGreatDoor.Q
def dig (c : Nat) : Int := if 48 ≤ c ∧ c ≤ 57 then (c : Int) - 48 else if 97 ≤ c ∧ c ≤ 102 then (c : Int) - 87 else if 65 ≤ c ∧ c ≤ 70 then (c : Int) - 55 else -1
theorem dig_le (c : Nat) : -1 ≤ dig c ∧ dig c ≤ 15 := by
  unfold dig
  repeat' split
  all_goals omega
def goes (c d : Int) (i : Nat) (aw : Bool) : Bool := if i = 0 then (!aw || d == 13) else if i = 1 then ((c == 13 && decide (12 ≤ d)) == aw) else true
/-- r digits more, behind i that made c: the number, how many digits went well, whether all did -/
def digs (aw : Bool) : Nat → Nat → Nat → List UInt8 → Nat × Nat × Bool
  | 0, i, c, t => (c, i, true)
  | r + 1, i, c, [] => (0, i, false)
  | r + 1, i, c, x :: t => if dig x.toNat < 0 ∨ goes c (dig x.toNat) i aw = false then (0, i, false) else digs aw r (i + 1) (16 * c + (dig x.toNat).toNat) t
theorem digs_le (aw : Bool) : ∀ (r i c : Nat) (t : List UInt8), (digs aw r i c t).2.1 ≤ i + t.length ∧ (digs aw r i c t).2.1 ≤ i + r ∧ i ≤ (digs aw r i c t).2.1 ∧ ((digs aw r i c t).2.2 = true → (digs aw r i c t).2.1 = i + r)
  | 0, i, c, t => by simp [digs]
  | r + 1, i, c, [] => by simp [digs]
  | r + 1, i, c, x :: t => by
    unfold digs
    split
    · simp
    · have := digs_le aw r (i + 1) (16 * c + (dig x.toNat).toNat) t
      simp only [List.length_cons]
      refine ⟨by omega, by omega, by omega, fun h => ?_⟩
      have := this.2.2.2 h
      omega
/-- four digits: the number lies where it must -/
theorem digs_range (aw : Bool) (t : List UInt8) (h : (digs aw 4 0 0 t).2.2 = true) :
    (digs aw 4 0 0 t).1 < 65536 ∧ (aw = true → 56320 ≤ (digs aw 4 0 0 t).1 ∧ (digs aw 4 0 0 t).1 ≤ 57343) ∧ (aw = false → ¬ (56320 ≤ (digs aw 4 0 0 t).1 ∧ (digs aw 4 0 0 t).1 ≤ 57343)) := by
  rcases t with _ | ⟨x0, t⟩
  · simp [digs] at h
  rw [digs] at h ⊢
  split at h
  · simp at h
  rename_i g0
  rw [if_neg g0]
  rcases t with _ | ⟨x1, t⟩
  · simp [digs] at h
  rw [digs] at h ⊢
  split at h
  · simp at h
  rename_i g1
  rw [if_neg g1]
  rcases t with _ | ⟨x2, t⟩
  · simp [digs] at h
  rw [digs] at h ⊢
  split at h
  · simp at h
  rename_i g2
  rw [if_neg g2]
  rcases t with _ | ⟨x3, t⟩
  · simp [digs] at h
  rw [digs] at h ⊢
  split at h
  · simp at h
  rename_i g3
  rw [if_neg g3, digs]
  have b0 := dig_le x0.toNat
  have b1 := dig_le x1.toNat
  have b2 := dig_le x2.toNat
  have b3 := dig_le x3.toNat
  generalize dig x0.toNat = d0 at *
  generalize dig x1.toNat = d1 at *
  generalize dig x2.toNat = d2 at *
  generalize dig x3.toNat = d3 at *
  have n0 := not_or.1 g0
  have n1 := not_or.1 g1
  have n2 := not_or.1 g2
  have n3 := not_or.1 g3
  simp only [goes] at n0 n1
  refine ⟨by simp only; omega, ?_, ?_⟩
  · rintro rfl
    simp at n0 n1
    simp only
    omega
  · rintro rfl
    simp at n0 n1
    simp only
    omega
def saidN (c : Nat) : Nat := if c = 34 then 34 else if c = 92 then 92 else if c = 47 then 47 else if c = 98 then 8 else if c = 102 then 12 else if c = 110 then 10 else if c = 114 then 13 else if c = 116 then 9 else 0
theorem saidN_lt (c : Nat) : saidN c < 128 := by
  unfold saidN
  repeat' split
  all_goals omega
/-- behind 'u': the scalar value, how far, whether it is one -/
def numF (t : List UInt8) : Nat × Nat × Bool :=
  if (digs false 4 0 0 t).2.2 = false then (0, (digs false 4 0 0 t).2.1, false)
  else if 55296 ≤ (digs false 4 0 0 t).1 ∧ (digs false 4 0 0 t).1 < 56320 then
    (match t.drop 4 with
     | [] => (0, 4, false)
     | x :: r => if x.toNat ≠ 92 then (0, 4, false) else
       match r with
       | [] => (0, 5, false)
       | y :: r2 => if y.toNat ≠ 117 then (0, 5, false) else
         if (digs true 4 0 0 r2).2.2 = false then (0, 6 + (digs true 4 0 0 r2).2.1, false)
         else (65536 + 1024 * ((digs false 4 0 0 t).1 - 55296) + ((digs true 4 0 0 r2).1 - 56320), 10, true))
  else ((digs false 4 0 0 t).1, 4, true)
theorem numF_le (t : List UInt8) : (numF t).2.1 ≤ t.length ∧ ((numF t).2.2 = true → 4 ≤ (numF t).2.1 ∧ (numF t).1 ≤ 1114111 ∧ ¬ (55296 ≤ (numF t).1 ∧ (numF t).1 ≤ 57343)) := by
  have h0 := digs_le false 4 0 0 t
  unfold numF
  split
  · simp; omega
  · rename_i g
    have g' : (digs false 4 0 0 t).2.2 = true := by simpa using g
    have r0 := digs_range false t g'
    have e0 := h0.2.2.2 g'
    have l0 : 4 ≤ t.length := by omega
    split
    · rename_i c
      split
      · simp; omega
      · rename_i x r hx
        have lx : r.length + 5 = t.length := by have := congrArg List.length hx; simp at this; omega
        split
        · simp; omega
        · split
          · simp at lx; simp; omega
          · rename_i y r2
            simp at lx
            split
            · simp; omega
            · have h1 := digs_le true 4 0 0 r2
              split
              · simp; omega
              · rename_i g2
                have g2' : (digs true 4 0 0 r2).2.2 = true := by simpa using g2
                have r1 := (digs_range true r2 g2').2.1 rfl
                have e1 := h1.2.2.2 g2'
                simp only
                refine ⟨by omega, fun _ => ⟨by omega, by omega, by omega⟩⟩
    · rename_i c
      simp only
      have := r0.2.2 rfl
      refine ⟨by omega, fun _ => ⟨by omega, by omega, by omega⟩⟩
/-- behind a backslash: the scalar value, how far, whether it is one -/
def escF : List UInt8 → Nat × Nat × Bool
  | [] => (0, 0, false)
  | x :: t => if x.toNat = 117 then ((numF t).1, 1 + (numF t).2.1, (numF t).2.2) else if saidN x.toNat = 0 then (0, 0, false) else (saidN x.toNat, 1, true)
theorem escF_cons (x : UInt8) (t : List UInt8) : escF (x :: t) = if x.toNat = 117 then ((numF t).1, 1 + (numF t).2.1, (numF t).2.2) else if saidN x.toNat = 0 then (0, 0, false) else (saidN x.toNat, 1, true) := rfl
theorem escF_le (t : List UInt8) : (escF t).2.1 ≤ t.length ∧ ((escF t).2.2 = true → (escF t).1 ≤ 1114111 ∧ ¬ (55296 ≤ (escF t).1 ∧ (escF t).1 ≤ 57343) ∧ 1 ≤ (escF t).2.1 ∧ ((escF t).1 < 128 ∨ 4 ≤ (escF t).2.1)) := by
  cases t with
  | nil => simp [escF]
  | cons x t =>
    have h := numF_le t
    have hs := saidN_lt x.toNat
    rw [escF_cons]
    split
    · simp only [List.length_cons]
      refine ⟨by omega, fun g => ?_⟩
      have := h.2 g
      omega
    · split
      · simp
      · simp only [List.length_cons]
        omega
theorem enc_len (v : Nat) : (Lib.encodeRune (v : Int)).length ≤ 4 ∧ 1 ≤ (Lib.encodeRune (v : Int)).length ∧ (v < 128 → (Lib.encodeRune (v : Int)).length = 1) := by
  have h := Lib.encodeRuneZ_length (v : Int)
  unfold Lib.encodeRune
  rw [List.length_map]
  refine ⟨h.2, h.1, fun hv => ?_⟩
  rw [Lib.encodeRuneZ_one (by omega) (by omega)]
  rfl
/-- one step inside the quotes: 0 a fault, 1 the end, 2 on; the bytes; how far; the error -/
def stp : List UInt8 → Nat × List UInt8 × Nat × Nat
  | [] => (0, [], 0, 10)
  | x :: t => if x.toNat < 32 then (0, [], 0, 10) else if x.toNat = 34 then (1, [], 1, 0)
    else if x.toNat = 92 then (if (escF t).2.2 = true then (2, Lib.encodeRune ((escF t).1 : Int), 1 + (escF t).2.1, 0) else (0, [], 1 + (escF t).2.1, 12))
    else if (nxt (x :: t)).2 = true then (2, (x :: t).take (nxt (x :: t)).1, (nxt (x :: t)).1, 0) else (0, [], (nxt (x :: t)).1, 11)
theorem stp_cons (x : UInt8) (t : List UInt8) : stp (x :: t) = if x.toNat < 32 then (0, [], 0, 10) else if x.toNat = 34 then (1, [], 1, 0)
    else if x.toNat = 92 then (if (escF t).2.2 = true then (2, Lib.encodeRune ((escF t).1 : Int), 1 + (escF t).2.1, 0) else (0, [], 1 + (escF t).2.1, 12))
    else if (nxt (x :: t)).2 = true then (2, (x :: t).take (nxt (x :: t)).1, (nxt (x :: t)).1, 0) else (0, [], (nxt (x :: t)).1, 11) := rfl
theorem stp_le (t : List UInt8) : (stp t).2.2.1 ≤ t.length ∧ ((stp t).1 ≠ 0 → 1 ≤ (stp t).2.2.1) ∧ (stp t).2.1.length ≤ (stp t).2.2.1 ∧ (stp t).1 ≤ 2 := by
  cases t with
  | nil => simp [stp]
  | cons x t =>
    have he := escF_le t
    have hn := nxt_le (x :: t)
    rw [stp_cons]
    split
    · simp
    · split
      · simp
      · split
        · split
          · rename_i g
            have := he.2 g
            have hl := enc_len (escF t).1
            simp only [List.length_cons]
            refine ⟨by omega, by omega, ?_, by omega⟩
            rcases this.2.2.2 with h | h
            · have := hl.2.2 h; omega
            · omega
          · simp only [List.length_cons]
            refine ⟨by omega, by omega, by simp, by omega⟩
        · split
          · rename_i g
            simp only
            have := hn.2.2 g
            refine ⟨hn.1, fun _ => this, List.length_take_le _ _, by omega⟩
          · simp only
            refine ⟨hn.1, by omega, by simp, by omega⟩
/-- fuel, what is left, the place, the bytes so far: the string, the place, the error -/
def unq : Nat → List UInt8 → Nat → List UInt8 → List UInt8 × Nat × Nat
  | 0, t, k, out => (out, k, 0)
  | f + 1, t, k, out => if (stp t).1 = 0 then ([], k + (stp t).2.2.1, (stp t).2.2.2) else if (stp t).1 = 1 then (out, k + 1, 0) else unq f (t.drop (stp t).2.2.1) (k + (stp t).2.2.1) (out ++ (stp t).2.1)
/-- Unquote -/
def unqAll (l : List UInt8) (at' : Int) : List UInt8 × Nat × Nat :=
  if at' < 0 ∨ (l.length : Int) < at' then ([], 0, 2)
  else if (l.drop at'.toNat).head? = some 34 then unq (l.length + 1) (l.drop (at'.toNat + 1)) (at'.toNat + 1) []
  else ([], at'.toNat, 10)
end Go.Proofs.YtolekldjbbjmjaaGreatDoor.Q
/- json.appendString. -/
set_option maxRecDepth 100000
namespace Go.Proofs.YtolekldjbbjmjaaGreatDoor
open Go.RowKit Go.Lib
/-- what an escape says (quote.saidBy) -/
def SaidT (w : World) : Prop := ∀ c : Nat, c < 128 → w.cell? ⟨4, c, none⟩ = some (.int .u8 (Q.saidN c))
theorem SaidT.below {B : Nat} {w w' : World} (h : SaidT w) (hb : Below B w w') (hB : 4 < B) : SaidT w' :=
  fun c hc => (hb.cell (p := ⟨4, c, none⟩) (by show 4 < B; omega)).trans (h c hc)
end Go.Proofs.YtolekldjbbjmjaaGreatDoor
/- the tables of letters; a world for the witness. -/
namespace Go.Proofs.YtolekldjbbjmjaaGreatDoor
open Go.Shelf Go.Lib Go.ChangeShapes Go.RowKit Go.WideShapes Go.Deep
def letTab : List Int := (List.range 128).map fun c => (Q.letN c : Int)
def saidTab : List Int := (List.range 128).map fun c => (Q.saidN c : Int)
theorem said_eq : Rows.laid_freehold_quote_saidBy = Lib.tabData (H := Unit) .u8 saidTab := by kernel_rfl
theorem cells5 : Tryz.prog.cellsOf 5 = 1 := by kernel_rfl
theorem cells172 : Tryz.prog.cellsOf 172 = 128 := by kernel_rfl
theorem saidT_of {W : World} (h : VarReads Tryz.prog W "freehold/quote.saidBy" Rows.laid_freehold_quote_saidBy) : SaidT W := by
  rw [said_eq] at h
  intro c hc
  obtain ⟨g, t, cs, fuel, p, hg, hty, hvar, hd⟩ := h
  obtain rfl : g = 4 := Option.some.inj (hg.symm.trans (by kernel_rfl))
  obtain rfl : t = 172 := Option.some.inj (hty.symm.trans (by kernel_rfl))
  have hcs := cells_of_tab Tryz.underlying172 Tryz.underlying5 cells5 cells172 hd
  have := World.var?_cell hg hvar c
  rw [this, ← Array.getElem?_toList, hcs]
  simp [saidTab, hc]
/-- a world for the witness, the letters laid too -/
def laidWorldS (P : Program) (os : Os) : World :=
  { World.holding P os ⟨#[], #[], []⟩ with heap := (((((World.holding P os ⟨#[], #[], []⟩).heap.modify 0 (putCells (Lib.firstTab.map fun z => Value.int .u8 z).toArray)).modify 1
      (putCells ((List.range 16).flatMap fun i => [Value.int .u8 (Lib.accLo i), Value.int .u8 (Lib.accHi i)]).toArray)).modify 2 (putCells (letTab.map fun z => Value.int .u8 z).toArray)).modify 4 (putCells (saidTab.map fun z => Value.int .u8 z).toArray)) }
end Go.Proofs.YtolekldjbbjmjaaGreatDoor
