import Derived.Test.YtihcggepeadklaaGreatDoorG7
import Derived.Test.YtihcggepeadklaaGreatDoorG15
/- A scalar's text: the program's and the document's. -/
set_option linter.unusedSimpArgs false
set_option linter.unusedVariables false
namespace Go.Proofs.YtihcggepeadklaaGreatDoor
open Go.RowKit Go.Lib
def bolT (b : Bool) : List UInt8 := if b = true then [116, 114, 117, 101] else [102, 97, 108, 115, 101]
def scT (k : Int) (b : Bool) (i : Int) (s : ByteArray) : List UInt8 := if k = 1 then bolT b else if k = 2 then itoa i else Q.qt s.data.toList
theorem qt_lenO (s : ByteArray) : (Q.qt s.data.toList).length ≤ 2 + 6 * s.size := by
  have h := Q.sz_le s.data.toList
  have hl : s.data.toList.length = s.size := by simp
  rw [Q.qt_length]; omega
theorem scT_len {k : Int} {b : Bool} {i : Int} {s : ByteArray} (hi : In64 i) : (scT k b i s).length ≤ 30 + 6 * s.size := by
  rw [scT]
  split
  · rw [bolT]; split <;> simp <;> omega
  split
  · have := itoa_length_le i hi.1 hi.2; omega
  · have := qt_lenO s; omega
theorem own_leB {B B' : Nat} {v : Value} {l : List UInt8} {w : World} (h : OwnB B v l w) (hb : B' ≤ B) : OwnB B' v l w := by
  rcases h with ⟨h0, h⟩
  refine ⟨h0, ?_⟩
  rcases h with h | ⟨g, cap, cur, hv, hg, h⟩
  · exact .inl h
  · exact .inr ⟨g, cap, cur, hv, Nat.le_trans hb hg, h⟩
theorem fbool_any (b : Bool) (w : World) : Calls Tryz.prog 64 #[.bool b] w fun e w' => e = .returned (.string ⟨(bolT b).toArray⟩) ∧ w' = w := by
  have C : Calls Tryz.prog 103 #[.bool b] w fun e w' => e = .returned (.string ⟨(bolT b).toArray⟩) ∧ w' = w := by
    cases b
    · go_enter Tryz.func103, Tryz.ntmps103
      go_wp2
      go_ret
      exact ⟨rfl, rfl⟩
    · go_enter Tryz.func103, Tryz.ntmps103
      go_wp2
      go_ret
      exact ⟨rfl, rfl⟩
  have HC := hmkN C
  generalize (⟨(bolT b).toArray⟩ : ByteArray) = T at *
  clear C
  go_enter Tryz.func64, Tryz.ntmps64
  go_wp2_with fail
  refine HC.out.mono ?_
  rintro e w' ⟨rfl, rfl⟩
  go_wp2_with fail
  go_ret
  exact ⟨rfl, rfl⟩
set_option maxRecDepth 100000 in
set_option maxHeartbeats 2000000 in
theorem sctext_any (k : Int) (b : Bool) (i : Int) (s : ByteArray) (al : Option Addr) (nl cl : Nat) (am : Option Addr) (nm cm : Nat) (w : World) (t : Td w) (hk : k = 1 ∨ k = 2 ∨ k = 3) (hi : In64 i) (hs : s.size ≤ 2147483648) (hV : validD s.data.toList = true) :
    Calls Tryz.prog 40 #[.agg #[.int .i64 k, .bool b, .int .i64 i, .string s, .slice al nl cl, .slice am nm cm]] w (SPost (scT k b i s) w) := by
  have nb := heap_alloc_new w (.cells #[.int .i64 k, .bool b, .int .i64 i, .string s, .slice al nl cl, .slice am nm cm] 46)
  have hza := alloc_size w (.cells #[.int .i64 k, .bool b, .int .i64 i, .string s, .slice al nl cl, .slice am nm cm] 46)
  have bA : Below w.heap.size w (w.alloc (.cells #[.int .i64 k, .bool b, .int .i64 i, .string s, .slice al nl cl, .slice am nm cm] 46)) := (Below.refl _ w).alloc (Nat.le_refl _) _
  have n0 : (w.alloc (.cells #[.int .i64 k, .bool b, .int .i64 i, .string s, .slice al nl cl, .slice am nm cm] 46)).cell? ⟨w.heap.size, 0, none⟩ = some (.int .i64 k) := by rw [cell_of_block nb]; rfl
  have n1 : (w.alloc (.cells #[.int .i64 k, .bool b, .int .i64 i, .string s, .slice al nl cl, .slice am nm cm] 46)).cell? ⟨w.heap.size, 1, none⟩ = some (.bool b) := by rw [cell_of_block nb]; rfl
  have n2 : (w.alloc (.cells #[.int .i64 k, .bool b, .int .i64 i, .string s, .slice al nl cl, .slice am nm cm] 46)).cell? ⟨w.heap.size, 2, none⟩ = some (.int .i64 i) := by rw [cell_of_block nb]; rfl
  have n3 : (w.alloc (.cells #[.int .i64 k, .bool b, .int .i64 i, .string s, .slice al nl cl, .slice am nm cm] 46)).cell? ⟨w.heap.size, 3, none⟩ = some (.string s) := by rw [cell_of_block nb]; rfl
  have tA : Td (w.alloc (.cells #[.int .i64 k, .bool b, .int .i64 i, .string s, .slice al nl cl, .slice am nm cm] 46)) := t.below bA t.z bA.size
  clear nb
  by_cases k1 : k = 1
  · have HC := hmkN (fbool_any b (w.alloc (.cells #[.int .i64 k, .bool b, .int .i64 i, .string s, .slice al nl cl, .slice am nm cm] 46)))
    have HT : Hid (scT k b i s = bolT b) := hmkN (by rw [scT, if_pos k1])
    rw [HT.out]
    subst k1
    generalize bolT b = T at *
    clear hk tA t HT
    go_enter Tryz.func40, Tryz.ntmps40
    go_wp2_with fail
    refine HC.out.mono ?_
    rintro e w' ⟨rfl, rfl⟩
    go_wp2_with fail
    go_ret
    exact ⟨rfl, bA⟩
  by_cases k2 : k = 2
  · have HC := hmkN (itoa_any i hi (w.alloc (.cells #[.int .i64 k, .bool b, .int .i64 i, .string s, .slice al nl cl, .slice am nm cm] 46)) tA.p)
    have HT : Hid (scT k b i s = itoa i) := hmkN (by rw [scT, if_neg k1, if_pos k2])
    rw [HT.out]
    subst k2
    generalize itoa i = T at *
    clear hk tA t HT k1
    go_enter Tryz.func40, Tryz.ntmps40
    go_wp2_with fail
    refine HC.out.mono ?_
    rintro e w' ⟨rfl, hb⟩
    go_wp2_with fail
    go_ret
    exact ⟨rfl, bA.trans (hb.mono (by omega))⟩
  · have k3 : k = 3 := by omega
    have HC := hmkN (quoted_any s (w.alloc (.cells #[.int .i64 k, .bool b, .int .i64 i, .string s, .slice al nl cl, .slice am nm cm] 46)) hs tA.u tA.l tA.z hV)
    subst k3
    have HT : Hid (scT 3 b i s = Q.qt s.data.toList) := hmkN (by rw [scT, if_neg (by omega), if_neg (by omega)])
    rw [HT.out]
    generalize Q.qt s.data.toList = T at *
    clear hk tA t HT k1 k2
    go_enter Tryz.func40, Tryz.ntmps40
    go_wp2_with fail
    refine HC.out.mono ?_
    rintro e w' ⟨rfl, hb⟩
    go_wp2_with fail
    go_ret
    exact ⟨rfl, bA.trans (hb.mono (by omega))⟩
def TxPost (l : List UInt8) (w : World) (e : Ending) (w' : World) : Prop := ∃ v', e = .returned v' ∧ OwnB w.heap.size v' l w' ∧ Below w.heap.size w w'
set_option maxHeartbeats 4000000 in
set_option maxRecDepth 100000 in
theorem rtext_any (k : Int) (b : Bool) (i : Int) (s : ByteArray) (al : Option Addr) (nl cl : Nat) (am : Option Addr) (nm cm : Nat) (w : World) (hk : k = 1 ∨ k = 2 ∨ k = 3) (hi : In64 i) (hs : s.size ≤ 2147483648) (hV : validD s.data.toList = true) :
    Calls Tryz.prog 60 #[.agg #[.int .i64 k, .bool b, .int .i64 i, .string s, .slice al nl cl, .slice am nm cm]] w (TxPost (scT k b i s) w) := by
  have nb := heap_alloc_new w (.cells #[.int .i64 k, .bool b, .int .i64 i, .string s, .slice al nl cl, .slice am nm cm] 46)
  have hza := alloc_size w (.cells #[.int .i64 k, .bool b, .int .i64 i, .string s, .slice al nl cl, .slice am nm cm] 46)
  have bA : Below w.heap.size w (w.alloc (.cells #[.int .i64 k, .bool b, .int .i64 i, .string s, .slice al nl cl, .slice am nm cm] 46)) := (Below.refl _ w).alloc (Nat.le_refl _) _
  have n0 : (w.alloc (.cells #[.int .i64 k, .bool b, .int .i64 i, .string s, .slice al nl cl, .slice am nm cm] 46)).cell? ⟨w.heap.size, 0, none⟩ = some (.int .i64 k) := by rw [cell_of_block nb]; rfl
  have n1 : (w.alloc (.cells #[.int .i64 k, .bool b, .int .i64 i, .string s, .slice al nl cl, .slice am nm cm] 46)).cell? ⟨w.heap.size, 1, none⟩ = some (.bool b) := by rw [cell_of_block nb]; rfl
  have n2 : (w.alloc (.cells #[.int .i64 k, .bool b, .int .i64 i, .string s, .slice al nl cl, .slice am nm cm] 46)).cell? ⟨w.heap.size, 2, none⟩ = some (.int .i64 i) := by rw [cell_of_block nb]; rfl
  have n3 : (w.alloc (.cells #[.int .i64 k, .bool b, .int .i64 i, .string s, .slice al nl cl, .slice am nm cm] 46)).cell? ⟨w.heap.size, 3, none⟩ = some (.string s) := by rw [cell_of_block nb]; rfl
  have HW : Hid (∀ W, Below (w.heap.size + 1) (w.alloc (.cells #[.int .i64 k, .bool b, .int .i64 i, .string s, .slice al nl cl, .slice am nm cm] 46)) W → Below w.heap.size w W) := fun W hb => bA.trans (hb.mono (by omega))
  have oN : OwnB (w.heap.size + 1) (.slice none 0 0) [] (w.alloc (.cells #[.int .i64 k, .bool b, .int .i64 i, .string s, .slice al nl cl, .slice am nm cm] 46)) := World.ownsRow_nil _ _ 5 1
  clear nb
  by_cases k1 : k = 1
  · have HT : Hid (scT k b i s = bolT b) := hmkN (by rw [scT, if_pos k1])
    rw [HT.out]
    subst k1
    clear HT hk
    cases b
    · rw [show bolT false = [102, 97, 108, 115, 101] from rfl]
      go_enter Tryz.func60, Tryz.ntmps60
      go_wp2_with (at_builtin; go_loud (refine wpl_str _ rfl (.tmp 24) _ rfl (w.heap.size + 1) _ [] rfl oN ⟨#[102, 97, 108, 115, 101]⟩ rfl (by simp only [List.length_nil]; (try show 0 + 5 ≤ _); omega) (by omega) ?_))
      intro v' w2 o2 b2
      go_wp2_with fail
      go_ret
      exact ⟨_, rfl, own_leB o2 (by omega), HW.out _ b2⟩
    · rw [show bolT true = [116, 114, 117, 101] from rfl]
      go_enter Tryz.func60, Tryz.ntmps60
      go_wp2_with (at_builtin; go_loud (refine wpl_str _ rfl (.tmp 22) _ rfl (w.heap.size + 1) _ [] rfl oN ⟨#[116, 114, 117, 101]⟩ rfl (by simp only [List.length_nil]; (try show 0 + 4 ≤ _); omega) (by omega) ?_))
      intro v' w2 o2 b2
      go_wp2_with fail
      go_ret
      exact ⟨_, rfl, own_leB o2 (by omega), HW.out _ b2⟩
  by_cases k2 : k = 2
  · have HT : Hid (scT k b i s = itoa i) := hmkN (by rw [scT, if_neg k1, if_pos k2])
    rw [HT.out]
    have C := hmkN (digits_any i hi (w.alloc (.cells #[.int .i64 k, .bool b, .int .i64 i, .string s, .slice al nl cl, .slice am nm cm] 46)))
    have hq : (itoa i).length ≤ 21 := itoa_length_le i hi.1 hi.2
    generalize itoa i = T at *
    subst k2
    clear HT hk k1
    have hq2 : (⟨T.toArray⟩ : ByteArray).size ≤ 21 := by show T.toArray.size ≤ 21; rw [List.size_toArray]; exact hq
    have HD : Hid ((⟨T.toArray⟩ : ByteArray).data.toList = T) := hmkN rfl
    unfold StPost at C
    generalize (⟨T.toArray⟩ : ByteArray) = qs at *
    go_enter Tryz.func60, Tryz.ntmps60
    go_wp2_with fail
    refine C.out.mono ?_
    rintro e w1 ⟨rfl, b1⟩
    have hz1 := b1.size
    have o1 := oN.below b1
    go_wp2_with (at_builtin; go_loud (refine wpl_str _ rfl (.tmp 28) (.tmp 31) rfl (w.heap.size + 1) _ [] rfl o1 qs rfl (by simp only [List.length_nil]; omega) (by omega) ?_))
    intro v' w2 o2 b2
    go_wp2_with fail
    go_ret
    rw [HD.out] at o2
    exact ⟨_, rfl, own_leB o2 (by omega), HW.out _ ((b1.mono (by omega)).trans b2)⟩
  · have k3 : k = 3 := by omega
    have C := hmkN (refQuote_good s (w.alloc (.cells #[.int .i64 k, .bool b, .int .i64 i, .string s, .slice al nl cl, .slice am nm cm] 46)) hs hV)
    subst k3
    have HT : Hid (scT 3 b i s = Q.qt s.data.toList) := hmkN (by rw [scT, if_neg (by omega), if_neg (by omega)])
    rw [HT.out]
    have hq := qt_lenO s
    generalize Q.qt s.data.toList = T at *
    clear HT hk k1 k2
    have hq2 : (⟨T.toArray⟩ : ByteArray).size ≤ 12884901890 := by show T.toArray.size ≤ _; rw [List.size_toArray]; omega
    have HD : Hid ((⟨T.toArray⟩ : ByteArray).data.toList = T) := hmkN rfl
    generalize (⟨T.toArray⟩ : ByteArray) = qs at *
    go_enter Tryz.func60, Tryz.ntmps60
    go_wp2_with fail
    refine C.out.mono ?_
    rintro e w1 ⟨rfl, b1⟩
    have hz1 := b1.size
    have o1 := oN.below b1
    go_wp2_with (at_builtin; go_loud (refine wpl_str _ rfl (.tmp 41) (.tmp 42) rfl (w.heap.size + 1) _ [] rfl o1 qs rfl (by simp only [List.length_nil]; omega) (by omega) ?_))
    intro v' w2 o2 b2
    go_wp2_with fail
    go_ret
    rw [HD.out] at o2
    exact ⟨_, rfl, own_leB o2 (by omega), HW.out _ ((b1.mono (by omega)).trans b2)⟩
end Go.Proofs.YtihcggepeadklaaGreatDoor
