/- follow, of one event. -/
import Derived.Test.YtpbejbpimcidjaaStA
set_option linter.unusedSimpArgs false
set_option linter.unusedVariables false
namespace Go.Proofs.Ytpbejbpimcidjaa
open Go Go.Lib Go.RowKit

def FoPost (b n : Nat) (D : DataW Unit) (w : World) (e : Ending) (w' : World) : Prop := e = .returned (.tuple #[]) ∧ w'.ownsMap Try.prog 9 oR b n D ∧ w.grownBy w' (some b)
set_option maxHeartbeats 4000000 in
set_option maxRecDepth 100000 in
theorem follow_put (b n : Nat) (D : DataW Unit) (rev kind : Int) (key data : ByteArray) (g o c : Nat) (w : World) (hm : w.ownsMap Try.prog 9 oR b n D) (hn : n < 1000000) (hr : 0 ≤ rev ∧ rev < 9007199254740991) (hk : kind = 1 ∨ kind = 2) (hks : key.size ≤ 1000)
    (c0 : w.cell? ⟨g, o, none⟩ = some (.int .i64 kind)) (c1 : w.cell? ⟨g, o + 1, none⟩ = some (.string key)) (c2 : w.cell? ⟨g, o + 2, none⟩ = some (.string data)) :
    Calls Try.prog 32 #[.map (some b), .int .i64 rev, .slice (some ⟨g, o, none⟩) 1 c] w (FoPost b (n + 1) (D.put (kL key) (dat (rev + 1) data)) w) := by
  have y3 : ¬ kind = 3 := by omega
  have y3' : (kind == 3) = false := by rw [beq_eq_false_iff_ne]; omega
  have hb := hm.lt
  have HK0 := hmk (key_of key (by unfold maxLen; omega))
  have HD : Hid (oR (.agg #[.int .i64 (rev + 1), .string data]) = some (dat (rev + 1) data, [])) := oR_mk _ _
  have hL : Hid ((w.alloc (.cells #[.int .i64 kind, .string key, .string data] 60)).ownsMap Try.prog 9 oR b n D) := hm.alloc _
  have hB := heap_alloc_new w (.cells #[.int .i64 kind, .string key, .string data] 60)
  clear hks hm
  go_enter Try.func32, Try.ntmps32
  go_wp2_with fail
  go_loopw [1, 10] (fun e1 e10 wr => (e1 = .int .i64 rev ∧ e10 = .int .i64 0 ∧ wr = w) ∨ (e1 = .int .i64 (rev + 1) ∧ e10 = .int .i64 1 ∧ Hid (wr.ownsMap Try.prog 9 oR b (n + 1) (D.put (kL key) (dat (rev + 1) data)) ∧ w.grownBy wr (some b)))) (fun _ e10 _ => 1 - (RowKit.intOf e10).toNat)
  case atStart => exact .inl ⟨rfl, rfl, rfl⟩
  case round =>
    rcases hrel with ⟨rfl, rfl, rfl⟩ | ⟨rfl, rfl, HQ⟩
    · go_wp2_with (at_mapUpdate; refine wpList_mapUpdate_own _ rfl _ _ _ 54 rfl 9 51 law9 Try.underlying54 oR b n D rfl hL.out (by unfold maxLen; omega) _ _ (kL key) rfl rfl HK0.out _ [] HD.out ?_; intro w3 K3 g3)
      have HK : Hid (w3.ownsMap Try.prog 9 oR b (n + 1) (D.put (kL key) (dat (rev + 1) data)) ∧ wr.grownBy w3 (some b)) := ⟨K3, grown_trans (World.grownBy_alloc wr _ (some b)) g3⟩
      go_wp2_with fail
      go_roundw
      case rel => exact .inr ⟨by go_num, by go_num, HK⟩
      case measure => simp [RowKit.intOf]
    · go_wp2_with fail
      (try simp only [Exit.inBlock, Exit.then])
      refine bodyPost_ret (v := .tuple #[]) (results_none rfl _ _ _) rfl ?_
      exact ⟨rfl, HQ.out⟩
set_option maxHeartbeats 4000000 in
set_option maxRecDepth 100000 in
theorem follow_del (b n : Nat) (D : DataW Unit) (rev : Int) (key data : ByteArray) (g o c : Nat) (w : World) (hm : w.ownsMap Try.prog 9 oR b n D) (hn : n < 1000000) (hr : 0 ≤ rev ∧ rev < 9007199254740991) (hks : key.size ≤ 1000)
    (c0 : w.cell? ⟨g, o, none⟩ = some (.int .i64 3)) (c1 : w.cell? ⟨g, o + 1, none⟩ = some (.string key)) (c2 : w.cell? ⟨g, o + 2, none⟩ = some (.string data)) :
    Calls Try.prog 32 #[.map (some b), .int .i64 rev, .slice (some ⟨g, o, none⟩) 1 c] w (FoPost b (n + 1) (D.del (kL key)) w) := by
  have hb := hm.lt
  have HK0 := hmk (key_of key (by unfold maxLen; omega))
  have hL : Hid ((w.alloc (.cells #[.int .i64 3, .string key, .string data] 60)).ownsMap Try.prog 9 oR b n D) := hm.alloc _
  have hB := heap_alloc_new w (.cells #[.int .i64 3, .string key, .string data] 60)
  clear hks hm
  go_enter Try.func32, Try.ntmps32
  go_wp2_with fail
  go_loopw [1, 10] (fun e1 e10 wr => (e1 = .int .i64 rev ∧ e10 = .int .i64 0 ∧ wr = w) ∨ (e1 = .int .i64 (rev + 1) ∧ e10 = .int .i64 1 ∧ Hid (wr.ownsMap Try.prog 9 oR b (n + 1) (D.del (kL key)) ∧ w.grownBy wr (some b)))) (fun _ e10 _ => 1 - (RowKit.intOf e10).toNat)
  case atStart => exact .inl ⟨rfl, rfl, rfl⟩
  case round =>
    rcases hrel with ⟨rfl, rfl, rfl⟩ | ⟨rfl, rfl, HQ⟩
    · go_wp2_with (at_delete; refine wpList_delete_own _ rfl _ _ 54 9 rfl 51 law9 Try.underlying54 oR b n D rfl hL.out _ (kL key) rfl HK0.out ?_; intro w3 K3 g3)
      have HK : Hid (w3.ownsMap Try.prog 9 oR b (n + 1) (D.del (kL key)) ∧ wr.grownBy w3 (some b)) := ⟨K3.mono (by omega), grown_trans (World.grownBy_alloc wr _ (some b)) g3.grown⟩
      go_wp2_with fail
      go_roundw
      case rel => exact .inr ⟨by go_num, by go_num, HK⟩
      case measure => simp [RowKit.intOf]
    · go_wp2_with fail
      (try simp only [Exit.inBlock, Exit.then])
      refine bodyPost_ret (v := .tuple #[]) (results_none rfl _ _ _) rfl ?_
      exact ⟨rfl, HQ.out⟩
theorem follow_one (b n : Nat) (D : DataW Unit) (rev kind : Int) (key data : ByteArray) (g o c : Nat) (w : World) (hm : w.ownsMap Try.prog 9 oR b n D) (hn : n < 1000000) (hr : 0 ≤ rev ∧ rev < 9007199254740991) (hk : kind = 1 ∨ kind = 2 ∨ kind = 3) (hks : key.size ≤ 1000)
    (c0 : w.cell? ⟨g, o, none⟩ = some (.int .i64 kind)) (c1 : w.cell? ⟨g, o + 1, none⟩ = some (.string key)) (c2 : w.cell? ⟨g, o + 2, none⟩ = some (.string data)) :
    Calls Try.prog 32 #[.map (some b), .int .i64 rev, .slice (some ⟨g, o, none⟩) 1 c] w (FoPost b (n + 1) (wr D kind key (rev + 1) data) w) := by
  by_cases h3 : kind = 3
  · subst h3
    exact follow_del b n D rev key data g o c w hm hn hr hks c0 c1 c2
  · have e : wr D kind key (rev + 1) data = D.put (kL key) (dat (rev + 1) data) := by unfold wr; rw [if_neg h3]
    rw [e]
    exact follow_put b n D rev kind key data g o c w hm hn hr (by omega) hks c0 c1 c2
end Go.Proofs.Ytpbejbpimcidjaa
