import Derived.Test.YtljgofmmihmmfaaDoorGdP
import Derived.Test.YtljgofmmihmmfaaDoorJF
/- freeholdlaw02.plain: some short plain string. -/
set_option linter.unusedSimpArgs false
set_option linter.unusedVariables false
namespace Go.Proofs.YtljgofmmihmmfaaDoor
open Go.RowKit Go.Lib

def PlPostS (w : World) (e : Ending) (w' : World) : Prop := ∃ t : ByteArray, e = .returned (.string t) ∧ Pl20 t ∧ Below w.heap.size w w'

set_option maxHeartbeats 4000000 in
set_option maxRecDepth 100000 in
theorem lplain_wasc (s : ByteArray) (w : World) (hs : s.size ≤ 281474976710656) : Calls Tryd.prog 28 #[.string s] w (PlPostS w) := by
  go_enter Tryd.func28, Tryd.ntmps28
  go_wp2_with fail
  go_loopw [3, 4] (fun e3 e4 wr => ∃ (k cap : Nat) (ao : Option Addr) (bs : List UInt8), k ≤ s.size ∧ e4 = .int .i64 (k : Int) ∧ bs.length ≤ 20 ∧ bs.length ≤ k ∧ Hid (∀ c ∈ bs, c.toNat < 128) ∧ e3 = .slice ao bs.length cap ∧ Own w.heap.size (.slice ao bs.length cap) bs wr ∧ Below w.heap.size w wr) (fun _ e _ => s.size - (RowKit.intOf e).toNat)
  case atStart => exact ⟨0, 0, none, [], by omega, rfl, by simp, by simp, (fun c hc => by cases hc), rfl, Own.nil _ _, Below.refl _ _⟩
  case round =>
    obtain ⟨k, cap, ao, bs, hk, rfl, hb, hbk, HA, rfl, ho, bl⟩ := hrel
    by_cases hlt : k < s.size
    · have y1 : (k : Int) < s.size := by omega
      by_cases h20 : bs.length < 20
      · have y2 : (bs.length : Int) < 20 := by omega
        by_cases hc : s[k].toNat < 128
        · have HA2 : Hid (∀ c ∈ bs ++ [s[k]], c.toNat < 128) := fun c hm => (List.mem_append.1 hm).elim (HA.out c) (fun h => by rw [List.mem_singleton.1 h]; exact hc)
          have y3 : (s[k].toNat : Int) < 128 := by omega
          go_wp2_with (at_builtin; refine wpl_app _ rfl (.tmp 20) (.tmp 24) rfl w.heap.size _ bs rfl (ho.alloc _) wr.heap.size 1 1 [s[k]] rfl rfl _ (0, 0) (heap_alloc_new wr _) rfl (by simp; omega) (by rw [alloc_size]; have := bl.size; omega) ?_; intro v' w1 ho1 b1)
          obtain ⟨ao', cap', rfl⟩ := ho1.shape
          have hll : (bs ++ [s[k]]).length = bs.length + 1 := by simp
          have HO : Hid (Own w.heap.size (.slice ao' (bs ++ [s[k]]).length cap') (bs ++ [s[k]]) w1) := ho1
          clear ho1
          go_wp2_with fail
          go_roundw
          case rel => exact ⟨k + 1, cap', ao', bs ++ [s[k]], by omega, by go_num, by omega, by omega, HA2.out, by simp, HO.out, bl.trans ((((Below.refl w.heap.size wr).alloc bl.size _)).trans b1)⟩
          case measure => simp [RowKit.intOf]; omega
        · have y3 : ¬ (s[k].toNat : Int) < 128 := by omega
          go_wp2_with fail
          go_roundw
          case rel => exact ⟨k + 1, cap, ao, bs, by omega, by go_num, by omega, by omega, HA.out, rfl, ho, bl⟩
          case measure => simp [RowKit.intOf]; omega
      · have y2 : ¬ (bs.length : Int) < 20 := by omega
        have hcv := ho.conv
        go_wp2_with fail
        go_ret
        exact ⟨_, rfl, ⟨by show bs.toArray.size ≤ 20; simpa using hb, by show ∀ c ∈ bs.toArray.toList, c.toNat < 128; simpa using HA.out⟩, bl⟩
    · have y1 : ¬ (k : Int) < s.size := by omega
      have hcv := ho.conv
      go_wp2_with fail
      go_ret
      exact ⟨_, rfl, ⟨by show bs.toArray.size ≤ 20; simpa using hb, by show ∀ c ∈ bs.toArray.toList, c.toNat < 128; simpa using HA.out⟩, bl⟩

theorem lplain_asc (s : ByteArray) (w : World) (hs : s.size ≤ 1099511627776) : Calls Tryd.prog 28 #[.string s] w (PlPostS w) := lplain_wasc s w (by omega)
end Go.Proofs.YtljgofmmihmmfaaDoor
