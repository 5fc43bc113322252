/- freeholdlaw02.plain: some short string. -/
import Derived.Test.YtljgofmmihmmfaaDoorBytA
set_option linter.unusedSimpArgs false
set_option linter.unusedVariables false
namespace Go.Proofs.YtljgofmmihmmfaaDoor
open Go.RowKit

def PlPost (s : ByteArray) (w : World) (e : Ending) (w' : World) : Prop := ∃ t : ByteArray, e = .returned (.string t) ∧ t.size ≤ 20 ∧ t.size ≤ s.size ∧ Below w.heap.size w w'

theorem Own.shape {B : Nat} {v : Value} {l : List UInt8} {w : World} (h : Own B v l w) : ∃ ao cap, v = .slice ao l.length cap := by
  rcases h.2 with ⟨rfl, h0⟩ | ⟨g, cap, cur, rfl, _⟩
  · exact ⟨none, 0, by rw [h0]⟩
  · exact ⟨_, _, rfl⟩

set_option maxHeartbeats 4000000 in
set_option maxRecDepth 100000 in
theorem lplain_any (s : ByteArray) (w : World) (hs : s.size ≤ 1099511627776) : Calls Tryd.prog 28 #[.string s] w (PlPost s w) := by
  go_enter Tryd.func28, Tryd.ntmps28
  go_wp2_with fail
  go_loopw [3, 4] (fun e3 e4 wr => ∃ (k cap : Nat) (ao : Option Addr) (bs : List UInt8), k ≤ s.size ∧ e4 = .int .i64 (k : Int) ∧ bs.length ≤ 20 ∧ bs.length ≤ k ∧ e3 = .slice ao bs.length cap ∧ Own w.heap.size (.slice ao bs.length cap) bs wr ∧ Below w.heap.size w wr) (fun _ e _ => s.size - (RowKit.intOf e).toNat)
  case atStart => exact ⟨0, 0, none, [], by omega, rfl, by simp, by simp, rfl, Own.nil _ _, Below.refl _ _⟩
  case round =>
    obtain ⟨k, cap, ao, bs, hk, rfl, hb, hbk, rfl, ho, bl⟩ := hrel
    by_cases hlt : k < s.size
    · have y1 : (k : Int) < s.size := by omega
      by_cases h20 : bs.length < 20
      · have y2 : (bs.length : Int) < 20 := by omega
        by_cases hc : s[k].toNat < 128
        · have y3 : (s[k].toNat : Int) < 128 := by omega
          go_wp2_with (at_builtin; refine wpl_app _ rfl (.tmp 20) (.tmp 24) rfl w.heap.size _ bs rfl (ho.alloc _) wr.heap.size 1 1 [s[k]] rfl rfl _ (0, 0) (heap_alloc_new wr _) rfl (by simp; omega) (by rw [alloc_size]; have := bl.size; omega) ?_; intro v' w1 ho1 b1)
          obtain ⟨ao', cap', rfl⟩ := ho1.shape
          have hll : (bs ++ [s[k]]).length = bs.length + 1 := by simp
          have HO : Hid (Own w.heap.size (.slice ao' (bs ++ [s[k]]).length cap') (bs ++ [s[k]]) w1) := ho1
          clear ho1
          go_wp2_with fail
          go_roundw
          case rel => exact ⟨k + 1, cap', ao', bs ++ [s[k]], by omega, by go_num, by omega, by omega, by simp, HO.out, bl.trans ((((Below.refl w.heap.size wr).alloc bl.size _)).trans b1)⟩
          case measure => simp [RowKit.intOf]; omega
        · have y3 : ¬ (s[k].toNat : Int) < 128 := by omega
          go_wp2_with fail
          go_roundw
          case rel => exact ⟨k + 1, cap, ao, bs, by omega, by go_num, by omega, by omega, rfl, ho, bl⟩
          case measure => simp [RowKit.intOf]; omega
      · have y2 : ¬ (bs.length : Int) < 20 := by omega
        have hcv := ho.conv
        go_wp2_with fail
        go_ret
        exact ⟨_, rfl, by show bs.toArray.size ≤ 20; simpa using hb, by show bs.toArray.size ≤ s.size; simp; omega, bl⟩
    · have y1 : ¬ (k : Int) < s.size := by omega
      have hcv := ho.conv
      go_wp2_with fail
      go_ret
      exact ⟨_, rfl, by show bs.toArray.size ≤ 20; simpa using hb, by show bs.toArray.size ≤ s.size; simp; omega, bl⟩
end Go.Proofs.YtljgofmmihmmfaaDoor
