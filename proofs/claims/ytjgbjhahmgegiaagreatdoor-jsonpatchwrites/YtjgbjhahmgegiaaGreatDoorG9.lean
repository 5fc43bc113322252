/- joined: ShlV ChkA WalksA -/
import Derived.Test.YtjgbjhahmgegiaaGreatDoorShlG
import Derived.Test.YtjgbjhahmgegiaaGreatDoorPtrP
import Derived.Test.YtjgbjhahmgegiaaGreatDoorTwinB
import Derived.Deep.RegionWith
import Derived.WalkMore
/- utf8.ValidString, strings.Split, Cut, HasPrefix, strconv.Itoa, Atoi: their contracts at this program. -/
namespace Go.Proofs.YtjgbjhahmgegiaaGreatDoor
open Go.Lib Go.RowKit
theorem validString_any (s : ByteArray) (w : World) (hs : s.size ≤ 281474976710656) (hU : Utf8Tabs 0 1 w) :
    Calls Tryz.prog 83 #[.string s] w fun e w' => e = .returned (.bool (validD s.data.toList)) ∧ Below w.heap.size w w' :=
  Any.utf8_ValidString Tryz.lays196 s w (by omega) hU
/-- the greatest length that the machine's search is for: whatever it is, it is there -/
def MaxIs (w : World) : Prop := ∃ m : Int, w.cell? ⟨2, 0, none⟩ = some (.int .i64 m)
theorem split_any (s : ByteArray) (w : World) (hs : s.size < 4294967281) (hm : MaxIs w) :
    Calls Tryz.prog 72 #[.string s, .string ⟨#[47]⟩] w fun e w' => ∃ l : List ByteArray, l.map (·.data.toList) = spl 47 s.data.toList ∧ e = .returned (.slice (some ⟨w.heap.size, 0, none⟩) l.length l.length) ∧ w' = w.alloc (.cells (l.map Value.string).toArray 9) := by
  obtain ⟨m, hm⟩ := hm
  refine (Any.strings_Split Tryz.lays146 (by kernel_rfl) s ⟨#[47]⟩ m w hs hm (by decide)).mono ?_
  rintro e w' ⟨he, hw⟩
  have hl := splitB_all ⟨#[47]⟩ (by decide) 0 _ s rfl
  refine ⟨splitB ⟨#[47]⟩ 0 (countB s ⟨#[47]⟩) s, ?_, by rw [hl]; exact he, hw⟩
  rw [splitB_data]
  exact split_spl 47 _ _ (Nat.le_refl _)
theorem cut_any (s : ByteArray) (w : World) (hs : s.size < 4294967281) (hm : MaxIs w) :
    Calls Tryz.prog 104 #[.string s, .string ⟨#[126]⟩] w fun e w' => e = .returned (.tuple #[.string ⟨(cut s.data.toList [126]).1.toArray⟩, .string ⟨(cut s.data.toList [126]).2.1.toArray⟩, .bool (cut s.data.toList [126]).2.2]) ∧ Below w.heap.size w w' := by
  obtain ⟨m, hm⟩ := hm
  refine (Any.strings_Cut Tryz.lays145 s ⟨#[126]⟩ m w hs hm).mono ?_
  rintro e w' ⟨he, n, rfl⟩
  exact ⟨he, ⟨rfl, rfl, rfl, Nat.le_refl _, fun _ _ => rfl⟩⟩
theorem pre_any (s p : ByteArray) (w : World) : Calls Tryz.prog 64 #[.string s, .string p] w fun e w' => e = .returned (.bool (hasPrefix s.data.toList p.data.toList)) ∧ w' = w :=
  Any.strings_HasPrefix Tryz.lays99 s p w
end Go.Proofs.YtjgbjhahmgegiaaGreatDoor
/- value.plain, value.rising. -/
set_option linter.unusedSimpArgs false
set_option linter.unusedVariables false
namespace Go.Proofs.YtjgbjhahmgegiaaGreatDoor
open Go.RowKit Go.Lib
theorem utab_grown {w w' : World} {row : Option Nat} (h : Utf8Tabs 0 1 w) (hb : w.grownBy w' row) (h2 : 2 < w.heap.size) (hr : ∀ r, row = some r → 2 < r) : Utf8Tabs 0 1 w' := by
  have hn : ∀ q, q ≤ 2 → some q ≠ row := fun q hq e => by have := hr q e.symm; omega
  have k1 := hb.block 0 (by omega) (hn 0 (by omega))
  have k2 := hb.block 1 (by omega) (hn 1 (by omega))
  exact ⟨fun c hc => (World.cell?_of_block (w := w) (a := ⟨0, c, none⟩) k1).trans (h.1 c hc), fun i hi => ⟨(World.cell?_of_block (w := w) (a := ⟨1, 2 * i, none⟩) k2).trans (h.2 i hi).1, (World.cell?_of_block (w := w) (a := ⟨1, 2 * i + 1, none⟩) k2).trans (h.2 i hi).2⟩⟩
/-- what the calls read beside their arguments -/
structure Tb (w : World) : Prop where
  u : Utf8Tabs 0 1 w
  z : 2 < w.heap.size
theorem Tb.grown {w w' : World} {row : Option Nat} (h : Tb w) (hb : w.grownBy w' row) (hr : ∀ r, row = some r → 2 < r) : Tb w' := ⟨utab_grown h.u hb h.z hr, Nat.lt_of_lt_of_le h.z hb.size⟩
theorem Tb.below {w w' : World} {B : Nat} (h : Tb w) (hb : Below B w w') (hB : 2 < B) : Tb w' := by
  refine ⟨?_, Nat.lt_of_lt_of_le h.z hb.size⟩
  exact ⟨fun c hc => (hb.cell (p := ⟨0, c, none⟩) (by show 0 < B; omega)).trans (h.u.1 c hc), fun i hi => ⟨(hb.cell (p := ⟨1, 2 * i, none⟩) (by show 1 < B; omega)).trans (h.u.2 i hi).1, (hb.cell (p := ⟨1, 2 * i + 1, none⟩) (by show 1 < B; omega)).trans (h.u.2 i hi).2⟩⟩
def plainB (k : Int) (b : Bool) (i : Int) (s : ByteArray) (nl nm : Nat) : Bool :=
  decide (0 ≤ k ∧ k ≤ 5 ∧ (k = 1 ∨ b = false) ∧ (k = 2 ∨ i = 0) ∧ (k = 3 ∨ s.toList.isEmpty = true) ∧ (k = 4 ∨ nl = 0) ∧ (k = 5 ∨ nm = 0))
def BPost (r : Bool) (w : World) (e : Ending) (w' : World) : Prop := e = .returned (.bool r) ∧ Below w.heap.size w w'
set_option maxHeartbeats 4000000 in
set_option maxRecDepth 100000 in
theorem plain_any (k : Int) (b : Bool) (i : Int) (s : ByteArray) (nl nm : Nat) (al am : Option Addr) (cl cm : Nat) (w : World) :
    Calls Tryz.prog 82 #[.agg #[.int .i64 k, .bool b, .int .i64 i, .string s, .slice al nl cl, .slice am nm cm]] w (BPost (plainB k b i s nl nm) w) := by
  go_enter Tryz.func82, Tryz.ntmps82
  go_wp2
  all_goals go_ret
  all_goals refine ⟨?_, (Below.refl _ _).alloc (Nat.le_refl _) _⟩
  all_goals show Ending.returned (Value.bool _) = Ending.returned (Value.bool _)
  all_goals refine congrArg (fun r => Ending.returned (Value.bool r)) ?_
  all_goals rw [Bool.eq_iff_iff]
  all_goals simp only [plainB, decide_eq_true_eq, beq_iff_eq, Bool.not_eq_true', Bool.false_eq_true, false_iff, true_iff]
  all_goals simp_all
  all_goals omega
end Go.Proofs.YtjgbjhahmgegiaaGreatDoor
/- Contracts: letter, width, bounds, Next, the document's Valid. -/
namespace Go.Proofs.YtjgbjhahmgegiaaGreatDoor
open Go.RowKit Go.Lib
set_option maxHeartbeats 1000000 in
theorem bounds_any (n : Nat) (hn : n < 256) (w : World) :
    Calls Tryz.prog 135 #[.int .u8 n] w fun e w' => e = .returned (.tuple #[.int .i64 (Q.bnd n).1, .int .u8 (Q.bnd n).2.1, .int .u8 (Q.bnd n).2.2]) ∧ w' = w := by
  have key : ∀ a b c : Nat, Q.bnd n = (a, b, c) → (Calls Tryz.prog 135 #[.int .u8 n] w fun e w' => e = .returned (.tuple #[.int .i64 a, .int .u8 b, .int .u8 c]) ∧ w' = w) → Calls Tryz.prog 135 #[.int .u8 n] w fun e w' => e = .returned (.tuple #[.int .i64 (Q.bnd n).1, .int .u8 (Q.bnd n).2.1, .int .u8 (Q.bnd n).2.2]) ∧ w' = w := by
    intro a b c e h
    rw [e]
    exact h
  have c9 : n < 128 ∨ (128 ≤ n ∧ n < 194) ∨ (194 ≤ n ∧ n < 224) ∨ n = 224 ∨ n = 237 ∨ (224 < n ∧ n < 240 ∧ n ≠ 237) ∨ n = 240 ∨ n = 244 ∨ (240 < n ∧ n < 244) ∨ 244 < n := by omega
  rcases c9 with h | h | h | h | h | h | h | h | h | h
  case inr.inr.inr.inl => subst h; refine key 3 160 191 (by decide) ?_; go_enter Tryz.func135, Tryz.ntmps135; go_wp2; go_ret3; exact ⟨rfl, rfl⟩
  case inr.inr.inr.inr.inl => subst h; refine key 3 128 159 (by decide) ?_; go_enter Tryz.func135, Tryz.ntmps135; go_wp2; go_ret3; exact ⟨rfl, rfl⟩
  case inr.inr.inr.inr.inr.inr.inl => subst h; refine key 4 144 191 (by decide) ?_; go_enter Tryz.func135, Tryz.ntmps135; go_wp2; go_ret3; exact ⟨rfl, rfl⟩
  case inr.inr.inr.inr.inr.inr.inr.inl => subst h; refine key 4 128 143 (by decide) ?_; go_enter Tryz.func135, Tryz.ntmps135; go_wp2; go_ret3; exact ⟨rfl, rfl⟩
  · refine key 1 0 0 (by simp [Q.bnd, h]) ?_
    have z1 : (n : Int) < 128 := by omega
    go_enter Tryz.func135, Tryz.ntmps135
    go_wp2
    go_ret3
    exact ⟨rfl, rfl⟩
  all_goals
    have z1 : ¬ (n : Int) < 128 := by omega
    have b1 : ((n : Int) == 224) = false := by rw [beq_eq_false_iff_ne]; omega
    have b2 : ((n : Int) == 237) = false := by rw [beq_eq_false_iff_ne]; omega
    have b3 : ((n : Int) == 240) = false := by rw [beq_eq_false_iff_ne]; omega
    have b4 : ((n : Int) == 244) = false := by rw [beq_eq_false_iff_ne]; omega
  · refine key 0 0 0 ?_ ?_
    · unfold Q.bnd; repeat' split
      all_goals first | rfl | (exfalso; omega)
    have d1 : ¬ (194 : Int) ≤ n := by omega
    have d2 : ¬ (224 : Int) < n := by omega
    have d3 : ¬ (240 : Int) < n := by omega
    go_enter Tryz.func135, Tryz.ntmps135
    go_wp2
    go_ret3
    exact ⟨rfl, rfl⟩
  · refine key 2 128 191 ?_ ?_
    · unfold Q.bnd; repeat' split
      all_goals first | rfl | (exfalso; omega)
    have d1 : (194 : Int) ≤ n := by omega
    have d2 : (n : Int) < 224 := by omega
    go_enter Tryz.func135, Tryz.ntmps135
    go_wp2
    go_ret3
    exact ⟨rfl, rfl⟩
  · refine key 3 128 191 ?_ ?_
    · unfold Q.bnd; repeat' split
      all_goals first | rfl | (exfalso; omega)
    have d1 : (194 : Int) ≤ n := by omega
    have d2 : ¬ (n : Int) < 224 := by omega
    have d3 : (224 : Int) < n := by omega
    have d4 : (n : Int) < 240 := by omega
    go_enter Tryz.func135, Tryz.ntmps135
    go_wp2
    go_ret3
    exact ⟨rfl, rfl⟩
  · refine key 4 128 191 ?_ ?_
    · unfold Q.bnd; repeat' split
      all_goals first | rfl | (exfalso; omega)
    have d1 : (194 : Int) ≤ n := by omega
    have d2 : ¬ (n : Int) < 224 := by omega
    have d3 : (224 : Int) < n := by omega
    have d4 : ¬ (n : Int) < 240 := by omega
    have d5 : (240 : Int) < n := by omega
    have d6 : (n : Int) < 244 := by omega
    go_enter Tryz.func135, Tryz.ntmps135
    go_wp2
    go_ret3
    exact ⟨rfl, rfl⟩
  · refine key 0 0 0 ?_ ?_
    · unfold Q.bnd; repeat' split
      all_goals first | rfl | (exfalso; omega)
    have d1 : (194 : Int) ≤ n := by omega
    have d2 : ¬ (n : Int) < 224 := by omega
    have d3 : (224 : Int) < n := by omega
    have d4 : ¬ (n : Int) < 240 := by omega
    have d5 : (240 : Int) < n := by omega
    have d6 : ¬ (n : Int) < 244 := by omega
    go_enter Tryz.func135, Tryz.ntmps135
    go_wp2
    go_ret3
    exact ⟨rfl, rfl⟩
theorem drop_cons (s : ByteArray) (k : Nat) (h : k < s.size) : s.data.toList.drop k = s[k] :: s.data.toList.drop (k + 1) := by
  rw [List.drop_eq_getElem_cons (by simpa using h)]
  rfl
theorem drop_end (s : ByteArray) (k : Nat) (h : s.size ≤ k) : s.data.toList.drop k = [] := by
  rw [List.drop_eq_nil_iff]
  simpa using h
theorem ret_ib {a b : Int} {p q : Bool} (h : a = b) (h2 : p = q) : Ending.returned (.tuple #[.int .i64 a, .bool p]) = .returned (.tuple #[.int .i64 b, .bool q]) := by rw [h, h2]
end Go.Proofs.YtjgbjhahmgegiaaGreatDoor
