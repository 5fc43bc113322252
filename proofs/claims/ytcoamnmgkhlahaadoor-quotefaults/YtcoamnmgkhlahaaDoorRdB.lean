/- quote's reader: take. -/
import Derived.Test.YtcoamnmgkhlahaaDoorRdA
import Derived.Deep.QuietTactic
import Derived.BigQuiet
set_option linter.unusedSimpArgs false
set_option linter.unusedVariables false
namespace Go.Proofs.YtcoamnmgkhlahaaDoor
open Go.RowKit

theorem below_drewN {B : Nat} {a w : World} (h : Below B a w) : ∀ q, Below B a (w.drewN q)
  | 0 => h
  | q + 1 => (below_drewN h q).drew

theorem Rd.at {B b : Nat} {s : ByteArray} {k : Nat} {l : List UInt8} {w : World} (h : Rd B b s k l w) : ∃ p v, RdAt b s k p v w := by
  obtain ⟨_, p, v, _, hr, _⟩ := h
  exact ⟨p, v, hr⟩
theorem Rd.drewN {B b : Nat} {s : ByteArray} {k : Nat} {l : List UInt8} {w : World} (h : Rd B b s k l w) (q : Nat) : Rd B b s k l (w.drewN q) := by
  induction q with
  | zero => exact h
  | succ q ih => exact ih
theorem Rd.put1 {B b : Nat} {s : ByteArray} {k : Nat} {l : List UInt8} {w : World} (h : Rd B b s k l w) (n : Nat) (z : Int) (hz : z = n) : Rd B b s n l (w.setCell ⟨b, 1, none⟩ (.int .i64 z)) := by
  subst hz
  obtain ⟨hB, p, v, hp, hr, ho, hn⟩ := h
  exact ⟨hB, p, v, hp, hr.put1 n, ownF_set ho (hr.ne ho), hn⟩

set_option maxHeartbeats 2000000 in
set_option maxRecDepth 100000 in
theorem take_yes (B b : Nat) (s : ByteArray) (k : Nat) (l : List UInt8) (c : Nat) (w : World) (h : Rd B b s k l w) (hs : s.size ≤ 281474976710656) (hk : k < s.size) (he : s[k].toNat = c) :
    Calls Tryd.prog 35 #[.pointer (some ⟨b, 0, none⟩), .int .u8 c] w fun e w' => e = .returned (.bool true) ∧ Rd B b s (k + 1) l w' ∧ Below B w w' := by
  obtain ⟨p, v, hr⟩ := h.at
  have c0 := hr.c0
  have c1 := hr.c1
  have f1 := hr.fz 1
  have hB := h.1
  have y1 : (k : Int) < s.size := by omega
  have y2 : ((k : Int) == (s.size : Int)) = false := by rw [beq_eq_false_iff_ne]; omega
  have y3 : ((s[k].toNat : Int) != (c : Int)) = false := by rw [bne_eq_false_iff_eq]; omega
  have HE : Hid (s[k].toNat = c) := he
  clear he hr
  go_enter Tryd.func35, Tryd.ntmps35
  go_wp2
  go_quiet (fail)
  go_wp2
  go_ret
  exact ⟨rfl, (h.put1 (k + 1) _ (by omega)).drewN nq, below_drewN ((Below.refl B w).setCell (p := ⟨b, 1, none⟩) hB _) nq⟩

set_option maxHeartbeats 2000000 in
set_option maxRecDepth 100000 in
theorem take_no (B b : Nat) (s : ByteArray) (k : Nat) (l : List UInt8) (c : Nat) (w : World) (h : Rd B b s k l w) (hs : s.size ≤ 281474976710656) (hk : k < s.size) (he : s[k].toNat ≠ c) :
    Calls Tryd.prog 35 #[.pointer (some ⟨b, 0, none⟩), .int .u8 c] w fun e w' => e = .returned (.bool false) ∧ Rd B b s k l w' ∧ Below B w w' := by
  obtain ⟨p, v, hr⟩ := h.at
  have c0 := hr.c0
  have c1 := hr.c1
  have y1 : (k : Int) < s.size := by omega
  have y2 : ((k : Int) == (s.size : Int)) = false := by rw [beq_eq_false_iff_ne]; omega
  have y3 : ((s[k].toNat : Int) != (c : Int)) = true := by rw [bne_iff_ne]; omega
  clear he hr
  go_enter Tryd.func35, Tryd.ntmps35
  go_wp2
  go_quiet (fail)
  go_wp2
  go_ret
  exact ⟨rfl, h.drewN nq, below_drewN (Below.refl B w) nq⟩

set_option maxHeartbeats 2000000 in
set_option maxRecDepth 100000 in
theorem take_end (B b : Nat) (s : ByteArray) (k : Nat) (l : List UInt8) (c : Nat) (w : World) (h : Rd B b s k l w) (hs : s.size ≤ 281474976710656) (hk : k = s.size) :
    Calls Tryd.prog 35 #[.pointer (some ⟨b, 0, none⟩), .int .u8 c] w fun e w' => e = .returned (.bool false) ∧ Rd B b s k l w' ∧ Below B w w' := by
  obtain ⟨p, v, hr⟩ := h.at
  have c0 := hr.c0
  have c1 := hr.c1
  have y2 : ((k : Int) == (s.size : Int)) = true := by rw [beq_iff_eq]; omega
  have HK : Hid (k = s.size) := hk
  clear hk hr
  go_enter Tryd.func35, Tryd.ntmps35
  go_wp2
  go_quiet (fail)
  go_wp2
  go_ret
  exact ⟨rfl, h.drewN nq, below_drewN (Below.refl B w) nq⟩

/-- what 'take' tells -/
def hit (s : ByteArray) (k c : Nat) : Bool := decide (∃ h : k < s.size, s[k].toNat = c)
theorem take_any (B b : Nat) (s : ByteArray) (k : Nat) (l : List UInt8) (c : Nat) (w : World) (h : Rd B b s k l w) (hs : s.size ≤ 281474976710656) (hk : k ≤ s.size) :
    Calls Tryd.prog 35 #[.pointer (some ⟨b, 0, none⟩), .int .u8 c] w fun e w' => e = .returned (.bool (hit s k c)) ∧ Rd B b s (if hit s k c then k + 1 else k) l w' ∧ Below B w w' := by
  by_cases hlt : k < s.size
  · by_cases he : s[k].toNat = c
    · have e : hit s k c = true := by simp [hit, hlt, he]
      rw [e]
      exact take_yes B b s k l c w h hs hlt he
    · have e : hit s k c = false := by simp [hit, hlt, he]
      rw [e]
      exact take_no B b s k l c w h hs hlt he
  · have e : hit s k c = false := by simp [hit, hlt]
    rw [e]
    exact take_end B b s k l c w h hs (by omega)
end Go.Proofs.YtcoamnmgkhlahaaDoor
