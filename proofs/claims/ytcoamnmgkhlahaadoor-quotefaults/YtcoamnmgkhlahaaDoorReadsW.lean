/- The law QuoteReads, out of the contracts. -/
import Derived.Test.YtcoamnmgkhlahaaDoorRefE
import Derived.Test.YtcoamnmgkhlahaaDoorPlainX
set_option linter.unusedSimpArgs false
set_option linter.unusedVariables false
namespace Go.Proofs.YtcoamnmgkhlahaaDoor
open Go.RowKit Go.Lib

set_option maxHeartbeats 4000000 in
set_option maxRecDepth 100000 in
theorem refUnquote_no (s : ByteArray) (k : Nat) (w : World) (hs : s.size ≤ 140737488351232) (hk : k ≤ s.size) (h34 : hit s k 34 = false) :
    Calls Tryd.prog 14 #[.string s, .int .i64 (k : Int)] w (Read w ([], k, 10)) := by
  have p1 : ¬ (k : Int) < 0 := by omega
  have p2 : ¬ (s.size : Int) < (k : Int) := by omega
  by_cases hlt : k < s.size
  · have p3 : ((k : Int) == (s.size : Int)) = false := by rw [beq_eq_false_iff_ne]; omega
    have p4 : (k : Int) < s.size := by omega
    have hne := hit_no h34 _ _ (drop_cons s k hlt)
    have p5 : ((s[k].toNat : Int) != 34) = true := by rw [bne_iff_ne]; omega
    clear hne h34
    go_enter Tryd.func14, Tryd.ntmps14
    go_wp2
    go_ret3
    exact ⟨rfl, Below.refl _ _⟩
  · have p3 : ((k : Int) == (s.size : Int)) = true := by rw [beq_iff_eq]; omega
    clear h34
    go_enter Tryd.func14, Tryd.ntmps14
    go_wp2
    go_ret3
    exact ⟨rfl, Below.refl _ _⟩

set_option maxHeartbeats 4000000 in
set_option maxRecDepth 100000 in
theorem refUnquote_out (s : ByteArray) (z : Int) (w : World) (hz1 : -9223372036854775808 ≤ z) (hz2 : z ≤ 9223372036854775807) (hs : s.size ≤ 140737488351232) (h : z < 0 ∨ (s.size : Int) < z) :
    Calls Tryd.prog 14 #[.string s, .int .i64 z] w (Read w ([], 0, 2)) := by
  by_cases h0 : z < 0
  · clear h
    go_enter Tryd.func14, Tryd.ntmps14
    go_wp2
    go_ret3
    exact ⟨rfl, Below.refl _ _⟩
  · have h1 : (s.size : Int) < z := by omega
    clear h
    go_enter Tryd.func14, Tryd.ntmps14
    go_wp2
    go_ret3
    exact ⟨rfl, Below.refl _ _⟩

theorem refUnquote_any (s : ByteArray) (z : Int) (w : World) (hz1 : -9223372036854775808 ≤ z) (hz2 : z ≤ 9223372036854775807) (hs : s.size ≤ 140737488351232) :
    Calls Tryd.prog 14 #[.string s, .int .i64 z] w (Read w (Q.unqAll s.data.toList z)) := by
  have hl : s.data.toList.length = s.size := by simp
  by_cases h : z < 0 ∨ (s.size : Int) < z
  · rw [Q.unqAll_out _ z (by rw [hl]; exact h)]
    exact refUnquote_out s z w hz1 hz2 hs h
  · obtain ⟨k, rfl⟩ := Int.eq_ofNat_of_zero_le (show 0 ≤ z by omega)
    have hk : k ≤ s.size := by omega
    rw [Q.unqAll_in s k hk]
    cases h34 : hit s k 34
    · rw [if_neg (by simp)]
      exact refUnquote_no s k w hs hk h34
    · rw [if_pos rfl]
      exact refUnquote_yes s k w hs h34 _ rfl

theorem unquote_long (s : ByteArray) (z : Int) (w : World) (hz1 : -9223372036854775808 ≤ z) (hz2 : z ≤ 9223372036854775807) (hs : s.size ≤ 281474976710656) (hM : Q.Borne (Q.unqAll s.data.toList z)) (hT : SaidT w) (hU : Utf8Tabs 0 1 w) (hz : 4 < w.heap.size) :
    Calls Tryd.prog 13 #[.string s, .int .i64 z] w (Read w (Q.unqAll s.data.toList z)) := by
  have hl : s.data.toList.length = s.size := by simp
  by_cases h : z < 0 ∨ (s.size : Int) < z
  · rw [Q.unqAll_out _ z (by rw [hl]; exact h)]
    refine (unquote_out s z w hz1 hz2 hs h).mono ?_
    rintro e w' ⟨rfl, rfl⟩
    exact ⟨rfl, Below.refl _ _⟩
  · obtain ⟨k, rfl⟩ := Int.eq_ofNat_of_zero_le (show 0 ≤ z by omega)
    exact unquote_in s k w hs (by omega) hT hU hz hM
theorem Q.borne_of (s : ByteArray) (z : Int) (hs : s.size ≤ 140737488355000) : Q.Borne (Q.unqAll s.data.toList z) := by
  have h := Q.unqAll_inv s.data.toList z
  have hl : s.data.toList.length = s.size := by simp
  rw [hl] at h
  refine ⟨fun c => ?_, fun _ => by omega⟩
  have := (h.2 c).2.2.2.2
  omega
theorem unquote_any (s : ByteArray) (z : Int) (w : World) (hz1 : -9223372036854775808 ≤ z) (hz2 : z ≤ 9223372036854775807) (hs : s.size ≤ 140737488355000) (hT : SaidT w) (hU : Utf8Tabs 0 1 w) (hz : 4 < w.heap.size) :
    Calls Tryd.prog 13 #[.string s, .int .i64 z] w (Read w (Q.unqAll s.data.toList z)) :=
  unquote_long s z w hz1 hz2 (by omega) (Q.borne_of s z hs) hT hU hz

set_option maxHeartbeats 4000000 in
set_option maxRecDepth 100000 in
theorem reads_walk (s : ByteArray) (z : Int) (w : World) (hz1 : -9223372036854775808 ≤ z) (hz2 : z ≤ 9223372036854775807) (hs : s.size ≤ 140737488351232) (hT : SaidT w) (hU : Utf8Tabs 0 1 w) (hz : 4 < w.heap.size) :
    Calls Tryd.prog 4 #[.string s, .int .i64 z] w fun e w' => e = .returned (.bool true) ∧ Below w.heap.size w w' := by
  have c1 : Hid (Calls Tryd.prog 13 #[.string s, .int .i64 z] w (Read w (Q.unqAll s.data.toList z))) := unquote_any s z w hz1 hz2 (by omega) hT hU hz
  have c2 : Hid (∀ w1, Calls Tryd.prog 14 #[.string s, .int .i64 z] w1 (Read w1 (Q.unqAll s.data.toList z))) := fun w1 => refUnquote_any s z w1 hz1 hz2 hs
  generalize Q.unqAll s.data.toList z = R at *
  obtain ⟨r1, r2, r3⟩ := R
  clear hT hU
  go_enter Tryd.func4, Tryd.ntmps4
  go_wp2_with fail
  refine c1.out.mono ?_
  rintro e w1 ⟨rfl, b1⟩
  simp only
  go_wp2_with fail
  refine (c2.out _).mono ?_
  rintro e w2 ⟨rfl, b2⟩
  simp only
  go_wp2
  go_ret
  exact ⟨rfl, b1.trans (b2.mono b1.size)⟩
end Go.Proofs.YtcoamnmgkhlahaaDoor
