import Derived.Test.YtejcfkkkbnnmcaaGreatDoorAllG
import Derived.Test.YtejcfkkkbnnmcaaGreatDoorPutC
import Derived.Test.YtejcfkkkbnnmcaaGreatDoorSizA
/- Good values of few levels: sorted members, and that they are taken. -/
set_option linter.unusedSimpArgs false
set_option linter.unusedVariables false
namespace Go.Proofs.YtejcfkkkbnnmcaaGreatDoor
open Go.RowKit Go.Lib

theorem u8_tri (x y : UInt8) (h1 : ¬ x < y) (h2 : ¬ y < x) : x = y := by
  rcases Nat.lt_trichotomy x.toNat y.toNat with h | h | h
  · exact absurd h h1
  · exact UInt8.toNat_inj.1 h
  · exact absurd h h2
theorem cmp_trans : ∀ a b c : List UInt8, compareBytes a b = -1 → compareBytes b c = -1 → compareBytes a c = -1
  | [], [], c, h, _ => by simp [compareBytes] at h
  | [], _ :: _, [], _, h => by simp [compareBytes] at h
  | [], _ :: _, _ :: _, _, _ => by simp [compareBytes]
  | _ :: _, [], c, h, _ => by simp [compareBytes] at h
  | _ :: _, _ :: _, [], _, h => by simp [compareBytes] at h
  | x :: t, y :: u, z :: v, h, h' => by
    rw [compareBytes] at h h' ⊢
    by_cases h1 : x < y
    · by_cases h2 : y < z
      · rw [if_pos (show x < z from Nat.lt_trans h1 h2)]
      · rw [if_neg h2] at h'
        by_cases h3 : z < y
        · rw [if_pos h3] at h'; simp at h'
        · rw [← u8_tri y z h2 h3, if_pos h1]
    · rw [if_neg h1] at h
      by_cases h3 : y < x
      · rw [if_pos h3] at h; simp at h
      · rw [if_neg h3] at h
        have e := u8_tri x y h1 h3
        subst e
        by_cases h2 : x < z
        · rw [if_pos h2]
        · rw [if_neg h2] at h' ⊢
          by_cases h4 : z < x
          · rw [if_pos h4] at h'; simp at h'
          · rw [if_neg h4] at h' ⊢
            exact cmp_trans t u v h h'

theorem ltB_cmp (a b : ByteArray) : ltB a b = true ↔ cmpS a b = -1 := by
  rw [ltB, less_cmp, cmpS, toList_data, toList_data]; simp
theorem ltB_trans {a b c : ByteArray} (h : ltB a b = true) (h' : ltB b c = true) : ltB a c = true := by
  rw [ltB_cmp] at *; exact cmp_trans _ _ _ h h'
def Srt (l : List Mem) : Prop := l.Pairwise (fun a b => ltB a.1 b.1 = true)

theorem srt_filter {key : ByteArray} : ∀ {l : List Mem}, Srt l → l.filter (lessKey key) = l.take (l.filter (lessKey key)).length ∧ ∀ y ∈ l.drop (l.filter (lessKey key)).length, lessKey key y = false
  | [], _ => by simp
  | x :: t, h => by
    have h0 : Srt t := (List.pairwise_cons.1 h).2
    have h1 := (List.pairwise_cons.1 h).1
    have ih := srt_filter (key := key) h0
    cases hx : lessKey key x
    · have hall : t.filter (lessKey key) = [] := by
        rw [List.filter_eq_nil_iff]
        intro y hy hl
        have : lessKey key x = true := ltB_trans (h1 y hy) hl
        rw [this] at hx; cases hx
      rw [List.filter_cons_of_neg (by simp [hx]), hall]
      refine ⟨by simp, fun y hy => ?_⟩
      rw [List.length_nil, List.drop_zero] at hy
      rcases List.mem_cons.1 hy with rfl | hy
      · exact hx
      · have := List.filter_eq_nil_iff.1 hall y hy
        simpa using this
    · rw [List.filter_cons_of_pos hx, List.length_cons, List.take_succ_cons, List.drop_succ_cons]
      exact ⟨by rw [← ih.1], ih.2⟩

end Go.Proofs.YtejcfkkkbnnmcaaGreatDoor
