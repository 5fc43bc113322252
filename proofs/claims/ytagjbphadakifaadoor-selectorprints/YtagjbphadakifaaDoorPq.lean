/- joined: Plain WalksA -/
import Derived.Test.YtagjbphadakifaaDoorRvaP
/- Plain facts on bytes for layer 1 (quote): letters, quoted texts, sequences. Nothing of the program here. -/
set_option linter.unusedSimpArgs false
set_option linter.unusedVariables false
namespace Go.Proofs.YtagjbphadakifaaDoor.Q
/-- the letter that a backslash writes a byte with; 0: none -/
def letN (c : Nat) : Nat :=
  if c = 34 then 34 else if c = 92 then 92 else if c = 8 then 98 else if c = 9 then 116 else if c = 10 then 110 else if c = 12 then 102 else if c = 13 then 114 else 0
def hexN (d : Nat) : Nat := if d < 10 then 48 + d else 87 + d
def widN (c : Nat) : Nat := if letN c ≠ 0 then 2 else if c < 32 then 6 else 1
/-- what is written for one byte, as numbers -/
def escN (c : Nat) : List Nat :=
  if letN c ≠ 0 then [92, letN c] else if c < 32 then [92, 117, 48, 48, hexN (c / 16), hexN (c % 16)] else [c]
theorem escN_length (c : Nat) : (escN c).length = widN c := by
  unfold escN widN
  split
  · rfl
  · split <;> rfl
theorem widN_le (c : Nat) : 1 ≤ widN c ∧ widN c ≤ 6 := by
  unfold widN
  split
  · omega
  · split <;> omega
def esc (c : UInt8) : List UInt8 := (escN c.toNat).map UInt8.ofNat
def wid (c : UInt8) : Nat := widN c.toNat
theorem esc_length (c : UInt8) : (esc c).length = wid c := by
  unfold esc wid
  rw [List.length_map, escN_length]
def body (l : List UInt8) : List UInt8 := l.flatMap esc
def sz (l : List UInt8) : Nat := (body l).length
theorem body_snoc (l : List UInt8) (c : UInt8) : body (l ++ [c]) = body l ++ esc c := by
  simp [body]
theorem sz_nil : sz [] = 0 := rfl
theorem sz_snoc (l : List UInt8) (c : UInt8) : sz (l ++ [c]) = sz l + wid c := by
  simp only [sz, body_snoc, List.length_append, esc_length]
theorem sz_le (l : List UInt8) : sz l ≤ 6 * l.length := by
  induction l with
  | nil => simp [sz, body]
  | cons c t ih =>
    have h : sz (c :: t) = wid c + sz t := by simp [sz, body, esc_length]
    have := (widN_le c.toNat).2
    have hw : wid c ≤ 6 := this
    rw [h, List.length_cons]
    omega
def qt (l : List UInt8) : List UInt8 := 34 :: (body l ++ [34])
theorem qt_length (l : List UInt8) : (qt l).length = 2 + sz l := by
  simp [qt, sz]; omega
end Go.Proofs.YtagjbphadakifaaDoor.Q
/- Contracts: letter, width, bounds, Next, the document's Valid. -/
namespace Go.Proofs.YtagjbphadakifaaDoor
open Go.RowKit Go.Lib
/-- the letters' table, cell by cell -/
def LetTab (w : World) : Prop := ∀ c : Nat, c < 128 → w.cell? ⟨2, c, none⟩ = some (.int .u8 (Q.letN c))
theorem Q.letN_hi (n : Nat) (h : 128 ≤ n) : Q.letN n = 0 := by
  unfold Q.letN
  repeat' split
  all_goals first | omega | rfl
set_option maxRecDepth 100000 in
set_option maxHeartbeats 400000 in
theorem letter_any (n : Nat) (hn : n < 256) (w : World) (hT : LetTab w) :
    Calls Tryd.prog 99 #[.int .u8 n] w fun e w' => e = .returned (.int .u8 (Q.letN n)) ∧ w' = w := by
  by_cases h : n < 128
  · have hc := hT n h
    have hz : (n : Int) < 128 := by omega
    generalize Q.letN n = L at *
    clear hT
    go_enter Tryd.func99, Tryd.ntmps99
    go_wp2
    go_ret
    exact ⟨rfl, rfl⟩
  · have hz : (128 : Int) ≤ n := by omega
    rw [Q.letN_hi n (by omega)]
    clear hT
    go_enter Tryd.func99, Tryd.ntmps99
    go_wp2
    go_ret
    exact ⟨rfl, rfl⟩
set_option maxHeartbeats 400000 in
theorem width_any (n : Nat) (hn : n < 256) (w : World) (hT : LetTab w) :
    Calls Tryd.prog 97 #[.int .u8 n] w fun e w' => e = .returned (.int .i64 (Q.widN n)) ∧ w' = w := by
  have c := letter_any n hn w hT
  clear hT
  by_cases h : Q.letN n = 0
  · rw [h] at c
    by_cases h2 : n < 32
    · have e : Q.widN n = 6 := by simp [Q.widN, h, h2]
      rw [e]
      have hz : (n : Int) < 32 := by omega
      clear e h
      go_enter Tryd.func97, Tryd.ntmps97
      go_wp2_with (go_at_call 99; refine c.mono ?_; rintro e w' ⟨rfl, rfl⟩)
      go_ret
      exact ⟨rfl, rfl⟩
    · have e : Q.widN n = 1 := by simp [Q.widN, h, h2]
      rw [e]
      have hz : ¬ (n : Int) < 32 := by omega
      clear e h
      go_enter Tryd.func97, Tryd.ntmps97
      go_wp2_with (go_at_call 99; refine c.mono ?_; rintro e w' ⟨rfl, rfl⟩)
      go_ret
      exact ⟨rfl, rfl⟩
  · have e : Q.widN n = 2 := by simp [Q.widN, h]
    rw [e]
    have hb : ((Q.letN n : Int) == 0) = false := by rw [beq_eq_false_iff_ne]; omega
    have hb2 : ((Q.letN n : Int) != 0) = true := by rw [bne_iff_ne]; omega
    clear e
    generalize Q.letN n = L at *
    go_enter Tryd.func97, Tryd.ntmps97
    go_wp2_with (go_at_call 99; refine c.mono ?_; rintro e w' ⟨rfl, rfl⟩)
    go_ret
    exact ⟨rfl, rfl⟩
end Go.Proofs.YtagjbphadakifaaDoor
