/- joined: RvaP TrmP TrmQ TrmT -/
import Derived.Test.YtolekldjbbjmjaaGreatDoorG3
import Derived.Test.YtolekldjbbjmjaaGreatDoorUtf
import Derived.WalkMore
import Derived.Maps.OwnSet
import Derived.Maps.Own
import Derived.StringKeys
import Derived.Lib.SmallJoins
/- the document's text strings: bounds, Next, Valid. -/
set_option linter.unusedSimpArgs false
set_option linter.unusedVariables false
namespace Go.Proofs.YtolekldjbbjmjaaGreatDoor
open Go.RowKit Go.Lib
set_option maxHeartbeats 1000000 in
theorem bounds_any (n : Nat) (hn : n < 256) (w : World) :
    Calls Tryz.prog 126 #[.int .u8 n] w fun e w' => e = .returned (.tuple #[.int .i64 (Q.bnd n).1, .int .u8 (Q.bnd n).2.1, .int .u8 (Q.bnd n).2.2]) ∧ w' = w := by
  have key : ∀ a b c : Nat, Q.bnd n = (a, b, c) → (Calls Tryz.prog 126 #[.int .u8 n] w fun e w' => e = .returned (.tuple #[.int .i64 a, .int .u8 b, .int .u8 c]) ∧ w' = w) → Calls Tryz.prog 126 #[.int .u8 n] w fun e w' => e = .returned (.tuple #[.int .i64 (Q.bnd n).1, .int .u8 (Q.bnd n).2.1, .int .u8 (Q.bnd n).2.2]) ∧ w' = w := by
    intro a b c e h
    rw [e]
    exact h
  have c9 : n < 128 ∨ (128 ≤ n ∧ n < 194) ∨ (194 ≤ n ∧ n < 224) ∨ n = 224 ∨ n = 237 ∨ (224 < n ∧ n < 240 ∧ n ≠ 237) ∨ n = 240 ∨ n = 244 ∨ (240 < n ∧ n < 244) ∨ 244 < n := by omega
  rcases c9 with h | h | h | h | h | h | h | h | h | h
  case inr.inr.inr.inl => subst h; refine key 3 160 191 (by decide) ?_; go_enter Tryz.func126, Tryz.ntmps126; go_wp2; go_ret3; exact ⟨rfl, rfl⟩
  case inr.inr.inr.inr.inl => subst h; refine key 3 128 159 (by decide) ?_; go_enter Tryz.func126, Tryz.ntmps126; go_wp2; go_ret3; exact ⟨rfl, rfl⟩
  case inr.inr.inr.inr.inr.inr.inl => subst h; refine key 4 144 191 (by decide) ?_; go_enter Tryz.func126, Tryz.ntmps126; go_wp2; go_ret3; exact ⟨rfl, rfl⟩
  case inr.inr.inr.inr.inr.inr.inr.inl => subst h; refine key 4 128 143 (by decide) ?_; go_enter Tryz.func126, Tryz.ntmps126; go_wp2; go_ret3; exact ⟨rfl, rfl⟩
  · refine key 1 0 0 (by simp [Q.bnd, h]) ?_
    have z1 : (n : Int) < 128 := by omega
    go_enter Tryz.func126, Tryz.ntmps126
    go_wp2
    go_ret3
    exact ⟨rfl, rfl⟩
  all_goals
    have z1 : ¬ (n : Int) < 128 := by omega
    have b1 : ((n : Int) == 224) = false := by rw [beq_eq_false_iff_ne]; omega
    have b2 : ((n : Int) == 237) = false := by rw [beq_eq_false_iff_ne]; omega
    have b3 : ((n : Int) == 240) = false := by rw [beq_eq_false_iff_ne]; omega
    have b4 : ((n : Int) == 244) = false := by rw [beq_eq_false_iff_ne]; omega
  · refine key 0 0 0 ?_ ?_
    · unfold Q.bnd; repeat' split
      all_goals first | rfl | (exfalso; omega)
    have d1 : ¬ (194 : Int) ≤ n := by omega
    have d2 : ¬ (224 : Int) < n := by omega
    have d3 : ¬ (240 : Int) < n := by omega
    go_enter Tryz.func126, Tryz.ntmps126
    go_wp2
    go_ret3
    exact ⟨rfl, rfl⟩
  · refine key 2 128 191 ?_ ?_
    · unfold Q.bnd; repeat' split
      all_goals first | rfl | (exfalso; omega)
    have d1 : (194 : Int) ≤ n := by omega
    have d2 : (n : Int) < 224 := by omega
    go_enter Tryz.func126, Tryz.ntmps126
    go_wp2
    go_ret3
    exact ⟨rfl, rfl⟩
  · refine key 3 128 191 ?_ ?_
    · unfold Q.bnd; repeat' split
      all_goals first | rfl | (exfalso; omega)
    have d1 : (194 : Int) ≤ n := by omega
    have d2 : ¬ (n : Int) < 224 := by omega
    have d3 : (224 : Int) < n := by omega
    have d4 : (n : Int) < 240 := by omega
    go_enter Tryz.func126, Tryz.ntmps126
    go_wp2
    go_ret3
    exact ⟨rfl, rfl⟩
  · refine key 4 128 191 ?_ ?_
    · unfold Q.bnd; repeat' split
      all_goals first | rfl | (exfalso; omega)
    have d1 : (194 : Int) ≤ n := by omega
    have d2 : ¬ (n : Int) < 224 := by omega
    have d3 : (224 : Int) < n := by omega
    have d4 : ¬ (n : Int) < 240 := by omega
    have d5 : (240 : Int) < n := by omega
    have d6 : (n : Int) < 244 := by omega
    go_enter Tryz.func126, Tryz.ntmps126
    go_wp2
    go_ret3
    exact ⟨rfl, rfl⟩
  · refine key 0 0 0 ?_ ?_
    · unfold Q.bnd; repeat' split
      all_goals first | rfl | (exfalso; omega)
    have d1 : (194 : Int) ≤ n := by omega
    have d2 : ¬ (n : Int) < 224 := by omega
    have d3 : (224 : Int) < n := by omega
    have d4 : ¬ (n : Int) < 240 := by omega
    have d5 : (240 : Int) < n := by omega
    have d6 : ¬ (n : Int) < 244 := by omega
    go_enter Tryz.func126, Tryz.ntmps126
    go_wp2
    go_ret3
    exact ⟨rfl, rfl⟩
theorem drop_cons (s : ByteArray) (k : Nat) (h : k < s.size) : s.data.toList.drop k = s[k] :: s.data.toList.drop (k + 1) := by
  rw [List.drop_eq_getElem_cons (by simpa using h)]
  rfl
theorem drop_end (s : ByteArray) (k : Nat) (h : s.size ≤ k) : s.data.toList.drop k = [] := by
  rw [List.drop_eq_nil_iff]
  simpa using h
theorem ret_ib {a b : Int} {p q : Bool} (h : a = b) (h2 : p = q) : Ending.returned (.tuple #[.int .i64 a, .bool p]) = .returned (.tuple #[.int .i64 b, .bool q]) := by rw [h, h2]
set_option maxRecDepth 100000 in
set_option maxHeartbeats 2000000 in
theorem next_any (s : ByteArray) (a : Int) (k : Nat) (hak : a = k) (hk : k ≤ s.size) (hs : s.size ≤ 140737488355328) (w : World) :
    Calls Tryz.prog 109 #[.string s, .int .i64 a] w fun e w' => e = .returned (.tuple #[.int .i64 (k + (Q.nxt (s.data.toList.drop k)).1 : Int), .bool (Q.nxt (s.data.toList.drop k)).2]) ∧ w' = w := by
  subst hak
  by_cases h0 : k < s.size
  · have z0 : (k : Int) < s.size := by omega
    have hd := drop_cons s k h0
    have cb := bounds_any s[k].toNat s[k].toNat_lt w
    have hn4 := Q.bnd_le s[k].toNat
    have hR : Q.nxt (s.data.toList.drop k) = if (Q.bnd s[k].toNat).1 = 0 then (0, false) else Q.nxtGo (Q.bnd s[k].toNat).1 1 (Q.bnd s[k].toNat).2.1 (Q.bnd s[k].toNat).2.2 (s.data.toList.drop (k + 1)) := by
      rw [hd]; rfl
    generalize hR0 : Q.nxt (s.data.toList.drop k) = R at *
    have hlo : (Q.bnd s[k].toNat).2.1 < 256 ∧ (Q.bnd s[k].toNat).2.2 < 256 := by
      unfold Q.bnd; repeat' split
      all_goals simp
    generalize Q.bnd s[k].toNat = B at *
    obtain ⟨n, lo, hi⟩ := B
    simp only at cb hn4 hR hlo
    clear hd hR0
    by_cases hz : n = 0
    · subst hz
      rw [if_pos rfl] at hR
      subst hR
      go_enter Tryz.func109, Tryz.ntmps109
      go_wp2_with (go_at_call 126; refine cb.mono ?_; rintro e w' ⟨rfl, rfl⟩)
      go_ret2
      exact ⟨ret_ib (by simp) rfl, rfl⟩
    · rw [if_neg hz] at hR
      have HR : Hid (R = Q.nxtGo n 1 lo hi (s.data.toList.drop (k + 1))) := hR
      clear hR
      have bz : ((n : Int) == 0) = false := by rw [beq_eq_false_iff_ne]; omega
      go_enter Tryz.func109, Tryz.ntmps109
      go_wp2_with (go_at_call 126; refine cb.mono ?_; rintro e w' ⟨rfl, rfl⟩)
      go_loop [7, 8, 9] (fun lo' hi' j' => ∃ j l g : Nat, 1 ≤ j ∧ j ≤ n ∧ l < 256 ∧ g < 256 ∧ lo' = .int .u8 l ∧ hi' = .int .u8 g ∧ j' = .int .i64 j ∧ Hid (R = Q.nxtGo n j l g (s.data.toList.drop (k + j)))) (fun _ _ j' => n - (RowKit.intOf j').toNat)
      case atStart => exact ⟨1, lo, hi, by omega, by omega, hlo.1, hlo.2, rfl, rfl, rfl, HR⟩
      case round =>
        obtain ⟨j, l, g, hj1, hj2, hl, hg, rfl, rfl, rfl, HJ⟩ := hrel
        clear HR hlo cb
        by_cases hjn : j < n
        · have y1 : (j : Int) < n := by omega
          by_cases hend : k + j < s.size
          · have y2 : ((k : Int) + j) < s.size := by omega
            have hd := drop_cons s (k + j) hend
            by_cases c1 : s[k + j].toNat < l
            · have hfin : R = (j, false) := by
                rw [HJ.out, hd, Q.nxtGo, if_neg (by omega), if_pos (Or.inl c1)]
              subst hfin
              have y3 : (s[k + j].toNat : Int) < l := by omega
              clear HJ hd
              go_wp2
              go_ret2
              exact ⟨ret_ib (by simp) rfl, rfl⟩
            · by_cases c2 : g < s[k + j].toNat
              · have hfin : R = (j, false) := by
                  rw [HJ.out, hd, Q.nxtGo, if_neg (by omega), if_pos (Or.inr c2)]
                subst hfin
                have y3 : ¬ (s[k + j].toNat : Int) < l := by omega
                have y4 : (g : Int) < s[k + j].toNat := by omega
                clear HJ hd
                go_wp2
                go_ret2
                exact ⟨ret_ib (by simp) rfl, rfl⟩
              · have HN : Hid (R = Q.nxtGo n (j + 1) 128 191 (s.data.toList.drop (k + (j + 1)))) := by
                  show R = _
                  rw [HJ.out, hd, Q.nxtGo, if_neg (by omega), if_neg (by omega)]
                  rfl
                have y3 : ¬ (s[k + j].toNat : Int) < l := by omega
                have y4 : ¬ (g : Int) < s[k + j].toNat := by omega
                clear HJ hd
                go_wp2
                go_round
                case rel => exact ⟨j + 1, 128, 191, by omega, by omega, by omega, by omega, rfl, rfl, by go_num, HN⟩
                case measure => simp [RowKit.intOf]; omega
          · have hd := drop_end s (k + j) (by omega)
            have hfin : R = (j, false) := by
              rw [HJ.out, hd, Q.nxtGo, if_neg (by omega)]
            subst hfin
            have y2 : (s.size : Int) ≤ (k : Int) + j := by omega
            clear HJ hd
            go_wp2
            go_ret2
            exact ⟨ret_ib (by simp) rfl, rfl⟩
        · have hfin : R = (n, true) := by
            rw [HJ.out]
            cases s.data.toList.drop (k + j) <;> rw [Q.nxtGo, if_pos (by omega)]
          subst hfin
          have y1 : ¬ (j : Int) < n := by omega
          clear HJ
          go_wp2
          go_ret2
          exact ⟨ret_ib (by simp) rfl, rfl⟩
  · have hd := drop_end s k (by omega)
    rw [hd]
    have z0 : ¬ (k : Int) < s.size := by omega
    have z1 : (s.size : Int) ≤ k := by omega
    clear hd
    go_enter Tryz.func109, Tryz.ntmps109
    go_wp2
    go_ret2
    exact ⟨ret_ib (by simp [Q.nxt]) rfl, rfl⟩
end Go.Proofs.YtolekldjbbjmjaaGreatDoor
/- the order of texts; words and values that may be. -/
namespace Go.Proofs.YtolekldjbbjmjaaGreatDoor
open Go.RowKit Go.Lib
theorem less_turn : ∀ a b : List UInt8, (Op.bytesLess a b || a == b) = !(Op.bytesLess b a)
  | [], [] => rfl
  | [], _ :: _ => by simp [Op.bytesLess]
  | _ :: _, [] => by simp [Op.bytesLess]
  | x :: s, y :: t => by
    have ih := less_turn s t
    simp only [Op.bytesLess]
    by_cases h1 : x < y
    · have h2 : ¬ y < x := fun h => by have := UInt8.lt_iff_toNat_lt.1 h1; have := UInt8.lt_iff_toNat_lt.1 h; omega
      have h3 : y ≠ x := fun h => by subst h; exact h2 h1
      simp [h1, h2, h3]
    · by_cases h2 : y < x
      · have h3 : x ≠ y := fun h => by subst h; exact h1 h2
        simp [h1, h2, h3]
      · have h3 : x = y := UInt8.toNat_inj.1 (by
          have a1 : ¬ x.toNat < y.toNat := fun h => h1 (UInt8.lt_iff_toNat_lt.2 h)
          have a2 : ¬ y.toNat < x.toNat := fun h => h2 (UInt8.lt_iff_toNat_lt.2 h)
          omega)
        subst h3
        have e : (x :: s == x :: t) = (s == t) := by rw [Bool.eq_iff_iff, beq_iff_eq, beq_iff_eq]; simp
        rw [e]
        simp only [h1, decide_false, Bool.false_or, beq_self_eq_true, Bool.true_and]
        exact ih
theorem less_self : ∀ a : List UInt8, Op.bytesLess a a = false
  | [] => rfl
  | x :: s => by
    have h1 : ¬ x < x := fun h => by have := UInt8.lt_iff_toNat_lt.1 h; omega
    simp [Op.bytesLess, h1, less_self s]
theorem less_trans : ∀ {a b c : List UInt8}, Op.bytesLess a b = true → Op.bytesLess b c = true → Op.bytesLess a c = true
  | [], [], _, h, _ => by simp [Op.bytesLess] at h
  | _ :: _, [], _, h, _ => by simp [Op.bytesLess] at h
  | _, _ :: _, [], _, h => by simp [Op.bytesLess] at h
  | [], _ :: _, _ :: _, _, _ => rfl
  | x :: s, y :: t, z :: u, h1, h2 => by
    simp only [Op.bytesLess, Bool.or_eq_true, decide_eq_true_eq, Bool.and_eq_true, beq_iff_eq] at h1 h2 ⊢
    rcases h1 with h1 | ⟨rfl, h1⟩
    · rcases h2 with h2 | ⟨rfl, h2⟩
      · left
        have a1 := UInt8.lt_iff_toNat_lt.1 h1
        have a2 := UInt8.lt_iff_toNat_lt.1 h2
        exact UInt8.lt_iff_toNat_lt.2 (by omega)
      · exact .inl h1
    · rcases h2 with h2 | ⟨rfl, h2⟩
      · exact .inl h2
      · exact .inr ⟨rfl, less_trans h1 h2⟩
def wordB (s : ByteArray) : Bool := decide (s.size ≤ 64) && utfB s
set_option maxHeartbeats 8000000 in
set_option maxRecDepth 100000 in
theorem word_any (s : ByteArray) (w : World) (hs : s.size ≤ 140737488355328) (hT : Tb w) : Calls Tryz.prog 61 #[.string s] w (BPost (wordB s) w) := by
  have HV : Hid (∀ W : World, Below w.heap.size w W → Calls Tryz.prog 80 #[.string s] W (BPost (utfB s) W)) := fun W hW => by
    have HS := hmk (validString_any s W (by omega) (hT.below hW hT.z).u)
    have HE : Hid (validD s.data.toList = utfB s) := rfl
    rw [HE.out] at HS
    go_enter Tryz.func80, Tryz.ntmps80
    go_wp2_with (go_at_call 110; refine HS.out.mono ?_; rintro e w1 ⟨rfl, B1⟩)
    go_ret
    exact ⟨rfl, B1⟩
  by_cases h : s.size ≤ 64
  · have y : (s.size : Int) ≤ 64 := by omega
    have HB : Hid (wordB s = utfB s) := by show _ = _; unfold wordB; rw [decide_eq_true h, Bool.true_and]
    have HC := hmk (HV.out w (Below.refl _ _))
    clear h
    go_enter Tryz.func61, Tryz.ntmps61
    go_wp2_with (go_at_call 80; refine HC.out.mono ?_; rintro e w1 ⟨rfl, B1⟩)
    go_ret
    exact ⟨congrArg (fun r => Ending.returned (.bool r)) HB.out.symm, B1⟩
  · have y : ¬ (s.size : Int) ≤ 64 := by omega
    have HB : Hid (wordB s = false) := by show _ = _; unfold wordB; rw [decide_eq_false h, Bool.false_and]
    clear h
    go_enter Tryz.func61, Tryz.ntmps61
    go_wp2_with fail
    go_ret
    exact ⟨congrArg (fun r => Ending.returned (.bool r)) HB.out.symm, Below.refl _ _⟩
end Go.Proofs.YtolekldjbbjmjaaGreatDoor
/- a term that may be; a selector. -/
namespace Go.Proofs.YtolekldjbbjmjaaGreatDoor
open Go.RowKit Go.Lib
theorem nil_eq {s : ByteArray} : (s.toList == []) = decide (s.size = 0) := by
  rw [Bool.eq_iff_iff, beq_iff_eq, decide_eq_true_eq]
  constructor
  · intro h
    rw [ByteArray.toList_eq] at h
    have : s.data.toList.length = 0 := by rw [h]; rfl
    simpa using this
  · intro h
    rw [ByteArray.toList_eq]
    apply List.length_eq_zero_iff.1
    simpa using h
theorem wordB_size {s : ByteArray} (h : wordB s = true) : s.size ≤ 64 := by
  unfold wordB at h
  rw [Bool.and_eq_true, decide_eq_true_eq] at h
  exact h.1
end Go.Proofs.YtolekldjbbjmjaaGreatDoor
/- byKey: the first text of each key, in a map. -/
namespace Go.Proofs.YtolekldjbbjmjaaGreatDoor
open Go.RowKit Go.Lib Go.Maps
abbrev kL (k : ByteArray) : Lit := .string k.data.toList
theorem kl_inj {a b : ByteArray} (h : kL a = kL b) : a = b := by
  have h1 : a.data.toList = b.data.toList := Lit.string.inj h
  have h2 : a.data = b.data := Array.toList_inj.1 h1
  cases a; cases b; cases h2; rfl
theorem kl_key (k : ByteArray) : WideAt.IsKeyLit (kL k) := trivial
end Go.Proofs.YtolekldjbbjmjaaGreatDoor
