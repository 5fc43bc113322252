/- joined: PlainV JpsA RowZ NamP -/
import Derived.Test.YtihcggepeadklaaGreatDoorG4
import Derived.Lib.AppendStr
import Derived.Lib.LaidTab
import Derived.Lib.ItoaNum
import Derived.LaidLaws
import Derived.Shelf.Vars
import Derived.Laws.RangeAny
/- Plain facts on reading: digits, escapes, one step of a reader, the whole of it. -/
set_option linter.unusedSimpArgs false
set_option linter.unusedVariables false
namespace Go.Proofs.YtihcggepeadklaaGreatDoor.Q
def dig (c : Nat) : Int := if 48 ≤ c ∧ c ≤ 57 then (c : Int) - 48 else if 97 ≤ c ∧ c ≤ 102 then (c : Int) - 87 else if 65 ≤ c ∧ c ≤ 70 then (c : Int) - 55 else -1
theorem dig_le (c : Nat) : -1 ≤ dig c ∧ dig c ≤ 15 := by
  unfold dig
  repeat' split
  all_goals omega
def goes (c d : Int) (i : Nat) (aw : Bool) : Bool := if i = 0 then (!aw || d == 13) else if i = 1 then ((c == 13 && decide (12 ≤ d)) == aw) else true
/-- r digits more, behind i that made c: the number, how many digits went well, whether all did -/
def digs (aw : Bool) : Nat → Nat → Nat → List UInt8 → Nat × Nat × Bool
  | 0, i, c, t => (c, i, true)
  | r + 1, i, c, [] => (0, i, false)
  | r + 1, i, c, x :: t => if dig x.toNat < 0 ∨ goes c (dig x.toNat) i aw = false then (0, i, false) else digs aw r (i + 1) (16 * c + (dig x.toNat).toNat) t
theorem digs_le (aw : Bool) : ∀ (r i c : Nat) (t : List UInt8), (digs aw r i c t).2.1 ≤ i + t.length ∧ (digs aw r i c t).2.1 ≤ i + r ∧ i ≤ (digs aw r i c t).2.1 ∧ ((digs aw r i c t).2.2 = true → (digs aw r i c t).2.1 = i + r)
  | 0, i, c, t => by simp [digs]
  | r + 1, i, c, [] => by simp [digs]
  | r + 1, i, c, x :: t => by
    unfold digs
    split
    · simp
    · have := digs_le aw r (i + 1) (16 * c + (dig x.toNat).toNat) t
      simp only [List.length_cons]
      refine ⟨by omega, by omega, by omega, fun h => ?_⟩
      have := this.2.2.2 h
      omega
/-- four digits: the number lies where it must -/
theorem digs_range (aw : Bool) (t : List UInt8) (h : (digs aw 4 0 0 t).2.2 = true) :
    (digs aw 4 0 0 t).1 < 65536 ∧ (aw = true → 56320 ≤ (digs aw 4 0 0 t).1 ∧ (digs aw 4 0 0 t).1 ≤ 57343) ∧ (aw = false → ¬ (56320 ≤ (digs aw 4 0 0 t).1 ∧ (digs aw 4 0 0 t).1 ≤ 57343)) := by
  rcases t with _ | ⟨x0, t⟩
  · simp [digs] at h
  rw [digs] at h ⊢
  split at h
  · simp at h
  rename_i g0
  rw [if_neg g0]
  rcases t with _ | ⟨x1, t⟩
  · simp [digs] at h
  rw [digs] at h ⊢
  split at h
  · simp at h
  rename_i g1
  rw [if_neg g1]
  rcases t with _ | ⟨x2, t⟩
  · simp [digs] at h
  rw [digs] at h ⊢
  split at h
  · simp at h
  rename_i g2
  rw [if_neg g2]
  rcases t with _ | ⟨x3, t⟩
  · simp [digs] at h
  rw [digs] at h ⊢
  split at h
  · simp at h
  rename_i g3
  rw [if_neg g3, digs]
  have b0 := dig_le x0.toNat
  have b1 := dig_le x1.toNat
  have b2 := dig_le x2.toNat
  have b3 := dig_le x3.toNat
  generalize dig x0.toNat = d0 at *
  generalize dig x1.toNat = d1 at *
  generalize dig x2.toNat = d2 at *
  generalize dig x3.toNat = d3 at *
  have n0 := not_or.1 g0
  have n1 := not_or.1 g1
  have n2 := not_or.1 g2
  have n3 := not_or.1 g3
  simp only [goes] at n0 n1
  refine ⟨by simp only; omega, ?_, ?_⟩
  · rintro rfl
    simp at n0 n1
    simp only
    omega
  · rintro rfl
    simp at n0 n1
    simp only
    omega
def saidN (c : Nat) : Nat := if c = 34 then 34 else if c = 92 then 92 else if c = 47 then 47 else if c = 98 then 8 else if c = 102 then 12 else if c = 110 then 10 else if c = 114 then 13 else if c = 116 then 9 else 0
theorem saidN_lt (c : Nat) : saidN c < 128 := by
  unfold saidN
  repeat' split
  all_goals omega
/-- behind 'u': the scalar value, how far, whether it is one -/
def numF (t : List UInt8) : Nat × Nat × Bool :=
  if (digs false 4 0 0 t).2.2 = false then (0, (digs false 4 0 0 t).2.1, false)
  else if 55296 ≤ (digs false 4 0 0 t).1 ∧ (digs false 4 0 0 t).1 < 56320 then
    (match t.drop 4 with
     | [] => (0, 4, false)
     | x :: r => if x.toNat ≠ 92 then (0, 4, false) else
       match r with
       | [] => (0, 5, false)
       | y :: r2 => if y.toNat ≠ 117 then (0, 5, false) else
         if (digs true 4 0 0 r2).2.2 = false then (0, 6 + (digs true 4 0 0 r2).2.1, false)
         else (65536 + 1024 * ((digs false 4 0 0 t).1 - 55296) + ((digs true 4 0 0 r2).1 - 56320), 10, true))
  else ((digs false 4 0 0 t).1, 4, true)
theorem numF_le (t : List UInt8) : (numF t).2.1 ≤ t.length ∧ ((numF t).2.2 = true → 4 ≤ (numF t).2.1 ∧ (numF t).1 ≤ 1114111 ∧ ¬ (55296 ≤ (numF t).1 ∧ (numF t).1 ≤ 57343)) := by
  have h0 := digs_le false 4 0 0 t
  unfold numF
  split
  · simp; omega
  · rename_i g
    have g' : (digs false 4 0 0 t).2.2 = true := by simpa using g
    have r0 := digs_range false t g'
    have e0 := h0.2.2.2 g'
    have l0 : 4 ≤ t.length := by omega
    split
    · rename_i c
      split
      · simp; omega
      · rename_i x r hx
        have lx : r.length + 5 = t.length := by have := congrArg List.length hx; simp at this; omega
        split
        · simp; omega
        · split
          · simp at lx; simp; omega
          · rename_i y r2
            simp at lx
            split
            · simp; omega
            · have h1 := digs_le true 4 0 0 r2
              split
              · simp; omega
              · rename_i g2
                have g2' : (digs true 4 0 0 r2).2.2 = true := by simpa using g2
                have r1 := (digs_range true r2 g2').2.1 rfl
                have e1 := h1.2.2.2 g2'
                simp only
                refine ⟨by omega, fun _ => ⟨by omega, by omega, by omega⟩⟩
    · rename_i c
      simp only
      have := r0.2.2 rfl
      refine ⟨by omega, fun _ => ⟨by omega, by omega, by omega⟩⟩
/-- behind a backslash: the scalar value, how far, whether it is one -/
def escF : List UInt8 → Nat × Nat × Bool
  | [] => (0, 0, false)
  | x :: t => if x.toNat = 117 then ((numF t).1, 1 + (numF t).2.1, (numF t).2.2) else if saidN x.toNat = 0 then (0, 0, false) else (saidN x.toNat, 1, true)
theorem escF_cons (x : UInt8) (t : List UInt8) : escF (x :: t) = if x.toNat = 117 then ((numF t).1, 1 + (numF t).2.1, (numF t).2.2) else if saidN x.toNat = 0 then (0, 0, false) else (saidN x.toNat, 1, true) := rfl
theorem escF_le (t : List UInt8) : (escF t).2.1 ≤ t.length ∧ ((escF t).2.2 = true → (escF t).1 ≤ 1114111 ∧ ¬ (55296 ≤ (escF t).1 ∧ (escF t).1 ≤ 57343) ∧ 1 ≤ (escF t).2.1 ∧ ((escF t).1 < 128 ∨ 4 ≤ (escF t).2.1)) := by
  cases t with
  | nil => simp [escF]
  | cons x t =>
    have h := numF_le t
    have hs := saidN_lt x.toNat
    rw [escF_cons]
    split
    · simp only [List.length_cons]
      refine ⟨by omega, fun g => ?_⟩
      have := h.2 g
      omega
    · split
      · simp
      · simp only [List.length_cons]
        omega
theorem enc_len (v : Nat) : (Lib.encodeRune (v : Int)).length ≤ 4 ∧ 1 ≤ (Lib.encodeRune (v : Int)).length ∧ (v < 128 → (Lib.encodeRune (v : Int)).length = 1) := by
  have h := Lib.encodeRuneZ_length (v : Int)
  unfold Lib.encodeRune
  rw [List.length_map]
  refine ⟨h.2, h.1, fun hv => ?_⟩
  rw [Lib.encodeRuneZ_one (by omega) (by omega)]
  rfl
/-- one step inside the quotes: 0 a fault, 1 the end, 2 on; the bytes; how far; the error -/
def stp : List UInt8 → Nat × List UInt8 × Nat × Nat
  | [] => (0, [], 0, 10)
  | x :: t => if x.toNat < 32 then (0, [], 0, 10) else if x.toNat = 34 then (1, [], 1, 0)
    else if x.toNat = 92 then (if (escF t).2.2 = true then (2, Lib.encodeRune ((escF t).1 : Int), 1 + (escF t).2.1, 0) else (0, [], 1 + (escF t).2.1, 12))
    else if (nxt (x :: t)).2 = true then (2, (x :: t).take (nxt (x :: t)).1, (nxt (x :: t)).1, 0) else (0, [], (nxt (x :: t)).1, 11)
theorem stp_cons (x : UInt8) (t : List UInt8) : stp (x :: t) = if x.toNat < 32 then (0, [], 0, 10) else if x.toNat = 34 then (1, [], 1, 0)
    else if x.toNat = 92 then (if (escF t).2.2 = true then (2, Lib.encodeRune ((escF t).1 : Int), 1 + (escF t).2.1, 0) else (0, [], 1 + (escF t).2.1, 12))
    else if (nxt (x :: t)).2 = true then (2, (x :: t).take (nxt (x :: t)).1, (nxt (x :: t)).1, 0) else (0, [], (nxt (x :: t)).1, 11) := rfl
theorem stp_le (t : List UInt8) : (stp t).2.2.1 ≤ t.length ∧ ((stp t).1 ≠ 0 → 1 ≤ (stp t).2.2.1) ∧ (stp t).2.1.length ≤ (stp t).2.2.1 ∧ (stp t).1 ≤ 2 := by
  cases t with
  | nil => simp [stp]
  | cons x t =>
    have he := escF_le t
    have hn := nxt_le (x :: t)
    rw [stp_cons]
    split
    · simp
    · split
      · simp
      · split
        · split
          · rename_i g
            have := he.2 g
            have hl := enc_len (escF t).1
            simp only [List.length_cons]
            refine ⟨by omega, by omega, ?_, by omega⟩
            rcases this.2.2.2 with h | h
            · have := hl.2.2 h; omega
            · omega
          · simp only [List.length_cons]
            refine ⟨by omega, by omega, by simp, by omega⟩
        · split
          · rename_i g
            simp only
            have := hn.2.2 g
            refine ⟨hn.1, fun _ => this, List.length_take_le _ _, by omega⟩
          · simp only
            refine ⟨hn.1, by omega, by simp, by omega⟩
/-- fuel, what is left, the place, the bytes so far: the string, the place, the error -/
def unq : Nat → List UInt8 → Nat → List UInt8 → List UInt8 × Nat × Nat
  | 0, t, k, out => (out, k, 0)
  | f + 1, t, k, out => if (stp t).1 = 0 then ([], k + (stp t).2.2.1, (stp t).2.2.2) else if (stp t).1 = 1 then (out, k + 1, 0) else unq f (t.drop (stp t).2.2.1) (k + (stp t).2.2.1) (out ++ (stp t).2.1)
/-- Unquote -/
def unqAll (l : List UInt8) (at' : Int) : List UInt8 × Nat × Nat :=
  if at' < 0 ∨ (l.length : Int) < at' then ([], 0, 2)
  else if (l.drop at'.toNat).head? = some 34 then unq (l.length + 1) (l.drop (at'.toNat + 1)) (at'.toNat + 1) []
  else ([], at'.toNat, 10)
end Go.Proofs.YtihcggepeadklaaGreatDoor.Q
/- json.appendString. -/
namespace Go.Proofs.YtihcggepeadklaaGreatDoor
open Go.RowKit Go.Lib
/-- strconv's table of powers -/
def PowTab (w : World) : Prop := TabIs Tryz.prog w "internal/strconv.uint64pow10" .u64 pow10Tab
theorem PowTab.below {w w' : World} {B : Nat} (h : PowTab w) (hb : Below B w w') (hB : 9 < B) : PowTab w' := by
  unfold PowTab TabIs World.var? at *
  have hg : Tryz.prog.globalNamed "internal/strconv.uint64pow10" = some 4 := by kernel_rfl
  simp only [hg, Option.bind_some] at h ⊢
  rw [hb.block 4 (by omega)]
  exact h
/-- what an escape says (quote.saidBy) -/
def SaidT (w : World) : Prop := ∀ c : Nat, c < 128 → w.cell? ⟨9, c, none⟩ = some (.int .u8 (Q.saidN c))
theorem SaidT.below {B : Nat} {w w' : World} (h : SaidT w) (hb : Below B w w') (hB : 9 < B) : SaidT w' :=
  fun c hc => (hb.cell (p := ⟨9, c, none⟩) hB).trans (h c hc)
/-- strconv's two errors -/
def ErrT (w : World) : Prop := ∃ t5 p5 t6 p6, w.cell? ⟨5, 0, none⟩ = some (.iface t5 p5) ∧ w.cell? ⟨6, 0, none⟩ = some (.iface t6 p6)
theorem ErrT.below {B : Nat} {w w' : World} (h : ErrT w) (hb : Below B w w') (hB : 9 < B) : ErrT w' := by
  obtain ⟨t5, p5, t6, p6, h5, h6⟩ := h
  exact ⟨t5, p5, t6, p6, (hb.cell (p := ⟨5, 0, none⟩) (by show 5 < B; omega)).trans h5, (hb.cell (p := ⟨6, 0, none⟩) (by show 6 < B; omega)).trans h6⟩
/-- what the calls read beside their arguments -/
structure Td (w : World) : Prop where
  u : Utf8Tabs 0 1 w
  l : LetTab w
  z : 9 < w.heap.size
  p : PowTab w
  s : SaidT w
  e : ErrT w
theorem Td.below {w w' : World} {B : Nat} (h : Td w) (hb : Below B w w') (hB : 9 < B) (hs : w.heap.size ≤ w'.heap.size) : Td w' :=
  ⟨utab_below h.u hb (by omega), h.l.below hb hB, Nat.lt_of_lt_of_le h.z hs, h.p.below hb hB, h.s.below hb hB, h.e.below hb hB⟩
theorem OwnB.below {B : Nat} {v : Value} {l : List UInt8} {w w' : World} (h : OwnB B v l w) (hb : Below w.heap.size w w') : OwnB B v l w' :=
  World.ownsRow.kept h (grown_of_below hb) (Classical.em _)
theorem wpl_str {ops : Array Oper} {rest : List Oper} {o : Oper} {a : Act} {Q : Exit → Act → World → Prop} (w : World) (hgd : o.guard = none) (s x : Operand)
    (ho : o.op = .call { callee := .builtin .append, args := #[s, x], argTypes := #[52, 9] }) (B : Nat) (v : Value) (l : List UInt8) (hs : a.eval s = v) (hown : OwnB B v l w)
    (t : ByteArray) (hx : a.eval x = .string t) (hlen : l.length + t.size ≤ 140737488355328) (hbase : B ≤ w.heap.size)
    (h : ∀ v' w', OwnB B v' (l ++ t.data.toList) w' → Below B w w' → wpList Tryz.prog ops Q rest (a.put o.dst v') w') : wpList Tryz.prog ops Q (o :: rest) a w := by
  obtain ⟨i0, hi, hz0, hz1, hz2⟩ := info_parts info5
  refine wpList_append_own_string w hgd s x 52 9 ho B 5 i0 Tryz.underlying52 Tryz.underlying9 hi hz0 hz1 hz2 v l.length (byteCells l) hs hown t hx (by unfold maxLen; omega) (by omega) hbase ?_
  intro v' w' h1 h2 _
  refine h v' w' ?_ ((Below.refl B w).grown h2 hbase (fun k hk => (World.ownsRow.lt hown k hk).1))
  show w'.ownsRow B 5 1 v' (l ++ t.data.toList).length (byteCells (l ++ t.data.toList))
  have e : byteCells (l ++ t.data.toList) = byteCells l ++ strCells t := by simp [byteCells, strCells]
  have e2 : t.data.toList.length = t.size := by rw [Array.length_toList]; rfl
  rw [e, List.length_append, e2]
  exact h1
end Go.Proofs.YtihcggepeadklaaGreatDoor
/- What the rows of this seat need: the tables, the errors, a world for the witness. -/
namespace Go.Proofs.YtihcggepeadklaaGreatDoor
open Go.Shelf Go.Lib Go.ChangeShapes Go.RowKit
def letTab : List Int := (List.range 128).map fun c => (Q.letN c : Int)
theorem let_eq : Rows.laid_freehold_quote_letterOf = Lib.tabData (H := Unit) .u8 letTab := by kernel_rfl
def saidTab : List Int := (List.range 128).map fun c => (Q.saidN c : Int)
theorem said_eq : Rows.laid_freehold_quote_saidBy = Lib.tabData (H := Unit) .u8 saidTab := by kernel_rfl
theorem pow_eq : Rows.laid_internal_strconv_uint64pow10 = Lib.tabData (H := Unit) .u64 Lib.pow10Tab := by kernel_rfl
theorem cellsU5 : Tryz.prog.cellsOf 5 = 1 := by kernel_rfl
theorem cellsU124 : Tryz.prog.cellsOf 124 = 1 := by kernel_rfl
theorem cellsU205 : Tryz.prog.cellsOf 205 = 20 := by kernel_rfl
theorem cellsU202 : Tryz.prog.cellsOf 202 = 128 := by kernel_rfl
theorem letTab_of {W : World} (h : VarReads Tryz.prog W "freehold/quote.letterOf" Rows.laid_freehold_quote_letterOf) : LetTab W := by
  rw [let_eq] at h
  intro c hc
  obtain ⟨g, t, cs, fuel, p, hg, hty, hvar, hd⟩ := h
  obtain rfl : g = 3 := Option.some.inj (hg.symm.trans (by kernel_rfl))
  obtain rfl : t = 202 := Option.some.inj (hty.symm.trans (by kernel_rfl))
  have hcs := cells_of_tab Tryz.underlying202 Tryz.underlying5 cellsU5 cellsU202 hd
  have := World.var?_cell hg hvar c
  rw [this, ← Array.getElem?_toList, hcs]
  simp [letTab, hc]
theorem saidT_of {W : World} (h : VarReads Tryz.prog W "freehold/quote.saidBy" Rows.laid_freehold_quote_saidBy) : SaidT W := by
  rw [said_eq] at h
  intro c hc
  obtain ⟨g, t, cs, fuel, p, hg, hty, hvar, hd⟩ := h
  obtain rfl : g = 9 := Option.some.inj (hg.symm.trans (by kernel_rfl))
  obtain rfl : t = 202 := Option.some.inj (hty.symm.trans (by kernel_rfl))
  have hcs := cells_of_tab Tryz.underlying202 Tryz.underlying5 cellsU5 cellsU202 hd
  have := World.var?_cell hg hvar c
  rw [this, ← Array.getElem?_toList, hcs]
  simp [saidTab, hc]
theorem powTab_of {W : World} (h : VarReads Tryz.prog W "internal/strconv.uint64pow10" Rows.laid_internal_strconv_uint64pow10) : PowTab W := by
  rw [pow_eq] at h
  obtain ⟨g, t, cs, fuel, p, hg, hty, hvar, hd⟩ := h
  obtain rfl : g = 4 := Option.some.inj (hg.symm.trans (by kernel_rfl))
  obtain rfl : t = 205 := Option.some.inj (hty.symm.trans (by kernel_rfl))
  have hcs := cells_of_tab Tryz.underlying205 Tryz.underlying124 cellsU124 cellsU205 hd
  unfold PowTab TabIs
  rw [hvar]
  exact congrArg some (Array.ext' (by rw [hcs]))
theorem errSyn_of {W : World} (h : VarReads Tryz.prog W "strconv.ErrSyntax" Rows.laid_strconv_ErrSyntax) : ∃ t p, W.cell? ⟨5, 0, none⟩ = some (.iface t p) := by
  obtain ⟨g, t, cs, fuel, p, hg, hty, hvar, hd⟩ := h
  obtain rfl : g = 5 := Option.some.inj (hg.symm.trans (by kernel_rfl))
  obtain rfl : t = 74 := Option.some.inj (hty.symm.trans (by kernel_rfl))
  obtain ⟨_, u, v, hcs, _, _⟩ := iface_of_trod Tryz.underlying74 hd
  have := World.var?_cell hg hvar 0
  exact ⟨u, v, by rw [this, ← Array.getElem?_toList, hcs]; rfl⟩
theorem errRng_of {W : World} (h : VarReads Tryz.prog W "strconv.ErrRange" Rows.laid_strconv_ErrRange) : ∃ t p, W.cell? ⟨6, 0, none⟩ = some (.iface t p) := by
  obtain ⟨g, t, cs, fuel, p, hg, hty, hvar, hd⟩ := h
  obtain rfl : g = 6 := Option.some.inj (hg.symm.trans (by kernel_rfl))
  obtain rfl : t = 74 := Option.some.inj (hty.symm.trans (by kernel_rfl))
  obtain ⟨_, u, v, hcs, _, _⟩ := iface_of_trod Tryz.underlying74 hd
  have := World.var?_cell hg hvar 0
  exact ⟨u, v, by rw [this, ← Array.getElem?_toList, hcs]; rfl⟩
/-- all that is read beside the arguments, out of the row's list -/
theorem td_of {W : World} (h2 : VarReads Tryz.prog W "internal/strconv.uint64pow10" Rows.laid_internal_strconv_uint64pow10) (h3 : VarReads Tryz.prog W "unicode/utf8.acceptRanges" Rows.laid_unicode_utf8_acceptRanges) (h4 : VarReads Tryz.prog W "strconv.ErrRange" Rows.laid_strconv_ErrRange) (h5 : VarReads Tryz.prog W "strconv.ErrSyntax" Rows.laid_strconv_ErrSyntax) (h6 : VarReads Tryz.prog W "freehold/quote.letterOf" Rows.laid_freehold_quote_letterOf) (h7 : VarReads Tryz.prog W "freehold/quote.saidBy" Rows.laid_freehold_quote_saidBy) (h8 : VarReads Tryz.prog W "unicode/utf8.first" Rows.laid_unicode_utf8_first) : Td W := by
  have hs := saidT_of h7
  obtain ⟨t5, p5, e5⟩ := errSyn_of h5
  obtain ⟨t6, p6, e6⟩ := errRng_of h4
  exact ⟨utabs_of h8 h3, letTab_of h6, block_lt (hs 0 (by omega)), powTab_of h2, hs, t5, p5, t6, p6, e5, e6⟩
def t32 : List Int := [0,1,28,2,29,14,24,3,30,22,20,15,25,17,4,8,31,27,13,23,21,19,16,7,26,12,18,6,11,5,10,9]
def t64 : List Int := [0,1,56,2,57,49,28,3,61,58,42,50,38,29,17,4,62,47,59,36,45,43,51,22,53,39,33,30,24,18,12,5,63,55,48,27,60,41,37,16,46,35,44,21,52,32,23,11,54,26,40,15,34,20,31,10,25,14,19,9,13,8,7,6]
abbrev synS : ByteArray := ⟨#[105, 110, 118, 97, 108, 105, 100, 32, 115, 121, 110, 116, 97, 120]⟩
abbrev rngS : ByteArray := ⟨#[118, 97, 108, 117, 101, 32, 111, 117, 116, 32, 111, 102, 32, 114, 97, 110, 103, 101]⟩
/-- so many blocks has the settled world -/
noncomputable def low : Nat := (World.holding Tryz.prog default ⟨#[], #[], []⟩).heap.size
/-- A world for the witness: the settled one, the variables holding what their initialisers lay. -/
noncomputable def laidWorldZ (os : Os) : World :=
  let w0 := World.holding Tryz.prog os ⟨#[.cells #[.string synS] 228, .cells #[.string rngS] 228], #[], []⟩
  { w0 with heap := (((((((((w0.heap.modify 0 (putCells (Lib.firstTab.map fun z => Value.int .u8 z).toArray)).modify 1
      (putCells ((List.range 16).flatMap fun i => [Value.int .u8 (Lib.accLo i), Value.int .u8 (Lib.accHi i)]).toArray)).modify 4 (putCells (Lib.pow10Tab.map fun z => Value.int .u64 z).toArray)).modify 5 (putCells #[.iface 226 (.pointer (some ⟨low, 0, none⟩))])).modify 6 (putCells #[.iface 226 (.pointer (some ⟨low + 1, 0, none⟩))])).modify 7 (putCells (t32.map fun z => Value.int .u8 z).toArray)).modify 8 (putCells (t64.map fun z => Value.int .u8 z).toArray)).modify 3 (putCells (letTab.map fun z => Value.int .u8 z).toArray)).modify 9 (putCells (saidTab.map fun z => Value.int .u8 z).toArray)) }
end Go.Proofs.YtihcggepeadklaaGreatDoor
/- Names that need not be quoted, as plain functions. -/
namespace Go.Proofs.YtihcggepeadklaaGreatDoor
open Go.RowKit Go.Lib
/-- a letter, or an underscore -/
def letR (r : Int) : Bool := (decide (65 ≤ r) && decide (r ≤ 90)) || (decide (97 ≤ r) && decide (r ≤ 122)) || decide (r = 95)
def digR (r : Int) : Bool := decide (48 ≤ r) && decide (r ≤ 57)
/-- may a byte stand at a place of a plain name? -/
def okR (i : Nat) (r : Int) : Bool := letR r || (decide (i ≠ 0) && (digR r || decide (r = 45)))
/-- how many bytes at the front are a plain name -/
def prefN : Nat → List UInt8 → Nat
  | i, [] => i
  | i, c :: t => if okR i c.toNat = true then prefN (i + 1) t else i
def allN : Nat → List UInt8 → Bool
  | _, [] => true
  | i, c :: t => okR i c.toNat && allN (i + 1) t
theorem prefN_le : ∀ (l : List UInt8) (i : Nat), i ≤ prefN i l ∧ prefN i l ≤ i + l.length
  | [], i => by simp [prefN]
  | c :: t, i => by
    have := prefN_le t (i + 1)
    rw [prefN]
    split
    · rw [List.length_cons]; omega
    · rw [List.length_cons]; omega
theorem prefN_all : ∀ (l : List UInt8) (i : Nat), (prefN i l = i + l.length) ↔ allN i l = true
  | [], i => by simp [prefN, allN]
  | c :: t, i => by
    rw [prefN, allN, List.length_cons, Bool.and_eq_true, ← prefN_all t (i + 1)]
    split
    · rename_i h; rw [h]; simp only [true_and]; omega
    · rename_i h
      have h1 : ¬ okR i c.toNat = true := h
      constructor
      · intro h2; omega
      · intro h2; exact absurd h2.1 h1
/-- need the name not be quoted? -/
def plnN (l : List UInt8) : Bool := !l.isEmpty && allN 0 l
/-- a name as it is written -/
def nmT (l : List UInt8) : List UInt8 := if plnN l = true then l else Q.qt l
theorem okR_hi (i : Nat) (r : Int) (h : 128 ≤ r) : okR i r = false := by
  have h1 : decide (r ≤ 90) = false := by rw [decide_eq_false_iff_not]; omega
  have h2 : decide (r ≤ 122) = false := by rw [decide_eq_false_iff_not]; omega
  have h3 : decide (r = 95) = false := by rw [decide_eq_false_iff_not]; omega
  have h4 : decide (r ≤ 57) = false := by rw [decide_eq_false_iff_not]; omega
  have h5 : decide (r = 45) = false := by rw [decide_eq_false_iff_not]; omega
  simp only [okR, letR, digR, h1, h2, h3, h4, h5, Bool.and_false, Bool.or_false]
theorem drop_consN (s : ByteArray) (k : Nat) (h : k < s.size) : s.data.toList.drop k = s[k] :: s.data.toList.drop (k + 1) := by
  rw [List.drop_eq_getElem_cons (by simpa using h)]; rfl
theorem drop_endN (s : ByteArray) (k : Nat) (h : ¬ k < s.size) : s.data.toList.drop k = [] := List.drop_eq_nil_of_le (by simpa using Nat.le_of_not_lt h)
theorem prefN_yes (s : ByteArray) (k : Nat) (h : k < s.size) (ho : okR k (s[k]'h).toNat = true) : prefN k (s.data.toList.drop k) = prefN (k + 1) (s.data.toList.drop (k + 1)) := by
  rw [drop_consN s k h, prefN, if_pos ho]
theorem prefN_no (s : ByteArray) (k : Nat) (h : k < s.size) (ho : okR k (s[k]'h).toNat = false) : prefN k (s.data.toList.drop k) = k := by
  rw [drop_consN s k h, prefN, if_neg (by rw [ho]; decide)]
theorem prefN_end (s : ByteArray) (k : Nat) (h : ¬ k < s.size) : prefN k (s.data.toList.drop k) = k := by rw [drop_endN s k h, prefN]
theorem allN_yes (s : ByteArray) (k : Nat) (h : k < s.size) (ho : okR k (s[k]'h).toNat = true) : allN k (s.data.toList.drop k) = allN (k + 1) (s.data.toList.drop (k + 1)) := by
  rw [drop_consN s k h, allN, ho, Bool.true_and]
theorem allN_no (s : ByteArray) (k : Nat) (h : k < s.size) (ho : okR k (s[k]'h).toNat = false) : allN k (s.data.toList.drop k) = false := by
  rw [drop_consN s k h, allN, ho, Bool.false_and]
theorem allN_end (s : ByteArray) (k : Nat) (h : ¬ k < s.size) : allN k (s.data.toList.drop k) = true := by rw [drop_endN s k h, allN]
theorem okR_zero (r : Int) : okR 0 r = letR r := by simp [okR]
theorem okR_pos (i : Nat) (r : Int) (h : i ≠ 0) : okR i r = (letR r || digR r || decide (r = 45)) := by simp [okR, h, Bool.or_assoc]
end Go.Proofs.YtihcggepeadklaaGreatDoor
