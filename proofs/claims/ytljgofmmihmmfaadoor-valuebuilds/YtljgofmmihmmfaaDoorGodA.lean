/- good: some good value; the kinds without members. -/
import Derived.Test.YtljgofmmihmmfaaDoorFauA
import Derived.Test.YtljgofmmihmmfaaDoorPutB
set_option linter.unusedSimpArgs false
set_option linter.unusedVariables false
namespace Go.Proofs.YtljgofmmihmmfaaDoor
open Go.RowKit

def Wb : Nat → Nat
  | 0 => 21
  | n + 1 => 21 + 15 * (20 + Wb n)
theorem Wb_ge : ∀ n, 21 ≤ Wb n
  | 0 => Nat.le_refl _
  | n + 1 => by rw [Wb]; omega

def New (w w' : World) (x : Nat) : Prop := w.heap.size ≤ x ∧ x < w'.heap.size
def GoodPost (B : Nat) (w : World) (e : Ending) (w' : World) : Prop := ∃ (u : V) (cs : List Value), e = .returned (.agg cs.toArray) ∧ u.lies false w' (New w w') cs ∧ u.wt ≤ B ∧ Below w.heap.size w w'
theorem lies_S {W : World} {S : Nat → Prop} {k i : Int} {b : Bool} {s : ByteArray} {l : List V} {m : List Mem} {al am : Option Addr} {cl bl ol cm bm om nl nm : Nat} (hk : In64 k) (hi : In64 i) (hs : s.size ≤ maxLen) (hal : Headed al nl cl bl ol) (ham : Headed am nm cm bm om) (hl : liesL false W S l bl ol) (hm : liesM false W S m bm om) (e1 : nl = l.length := by rfl) (e2 : nm = m.length := by rfl) :
    (V.mk k b i s l m).lies false W S [.int .i64 k, .bool b, .int .i64 i, .string s, .slice al nl cl, .slice am nm cm] := by
  subst e1 e2
  rw [V.lies]
  exact ⟨al, cl, bl, ol, am, cm, bm, om, rfl, hk, hi, hs, hal, ham, hl, hm, fun h => by cases h⟩
theorem god_fin {w W : World} {bound : Nat} {u : V} {cs : List Value} (B : Below w.heap.size w W) (h : Below w.heap.size w W → u.lies false W (New w W) cs) (hw : u.wt ≤ bound) : GoodPost bound w (.returned (.agg cs.toArray)) W := ⟨u, cs, rfl, h B, hw, B⟩

set_option maxHeartbeats 8000000 in
set_option maxRecDepth 100000 in
theorem good_flat (v : V) (lv : Nat) (cs : List Value) (w : World) (hv : v.lies false w (Old w) cs) (hlv : lv ≤ 4) (hwt : v.wt ≤ 1099511627776) (r : Int) (hr : ∀ k b i s l m, v = V.mk k b i s l m → Int.tmod k 6 = r) (hc : (r = 0 ∨ r = 1 ∨ r = -1 ∨ r = 2 ∨ r = -2) ∨ (lv = 4 ∧ (r = 4 ∨ r = -4 ∨ r = 5 ∨ r = -5))) : Calls Tryd.prog 14 #[.agg cs.toArray, .int .i64 (lv : Int)] w (GoodPost 21 w) := by
  obtain ⟨k, b, i, s, l, m⟩ := v
  have hr := hr k b i s l m rfl
  rw [V.lies] at hv
  obtain ⟨al, cl, bl, ol, am, cm, bm, om, rfl, hk, hi, hs, hal, ham, hl1, hm1, _⟩ := hv
  have y1 : lv ≤ 3 → ¬ (lv : Int) > 3 := by omega
  clear hl1 hm1
  have hwr : IntKind.i64.wrap (Int.tmod k 6) = r := by
    rw [hr]
    rcases hc with (rfl | rfl | rfl | rfl | rfl) | ⟨_, rfl | rfl | rfl | rfl⟩ <;> rfl
  have hle : lv = 4 ∨ lv ≤ 3 := by omega
  rcases hc with (rfl | rfl | rfl | rfl | rfl) | ⟨rfl, rfl | rfl | rfl | rfl⟩
  · go_enter Tryd.func14, Tryd.ntmps14
    go_wp2_with fail
    all_goals (try simp only [Exit.inBlock, Exit.then])
    all_goals refine bodyPost_ret (v := .agg #[.int .i64 0, .bool false, .int .i64 0, .string ⟨#[]⟩, .slice none 0 0, .slice none 0 0]) (by rw [results_cell1 rfl]; go_simp) rfl ?_
    all_goals exact god_fin (u := V.mk 0 false 0 ⟨#[]⟩ [] []) (cs := [.int .i64 0, .bool false, .int .i64 0, .string ⟨#[]⟩, .slice none 0 0, .slice none 0 0]) (three_below _ _ _ _) (fun B => lies_S (by constructor <;> omega) (by constructor <;> omega) (by decide) headed_nil headed_nil (by rw [liesL]; trivial) (by rw [liesM]; trivial)) (by simp only [V.wt, wtL, wtM]; have z0 : (⟨#[]⟩ : ByteArray).size = 0 := rfl; omega)
  · go_enter Tryd.func14, Tryd.ntmps14
    go_wp2_with fail
    all_goals (try simp only [Exit.inBlock, Exit.then])
    all_goals refine bodyPost_ret (v := .agg #[.int .i64 1, .bool b, .int .i64 0, .string ⟨#[]⟩, .slice none 0 0, .slice none 0 0]) (by rw [results_cell1 rfl]; go_simp) rfl ?_
    all_goals exact god_fin (u := V.mk 1 b 0 ⟨#[]⟩ [] []) (cs := [.int .i64 1, .bool b, .int .i64 0, .string ⟨#[]⟩, .slice none 0 0, .slice none 0 0]) (three_below _ _ _ _) (fun B => lies_S (by constructor <;> omega) (by constructor <;> omega) (by decide) headed_nil headed_nil (by rw [liesL]; trivial) (by rw [liesM]; trivial)) (by simp only [V.wt, wtL, wtM]; have z0 : (⟨#[]⟩ : ByteArray).size = 0 := rfl; omega)
  · go_enter Tryd.func14, Tryd.ntmps14
    go_wp2_with fail
    all_goals (try simp only [Exit.inBlock, Exit.then])
    all_goals refine bodyPost_ret (v := .agg #[.int .i64 1, .bool b, .int .i64 0, .string ⟨#[]⟩, .slice none 0 0, .slice none 0 0]) (by rw [results_cell1 rfl]; go_simp) rfl ?_
    all_goals exact god_fin (u := V.mk 1 b 0 ⟨#[]⟩ [] []) (cs := [.int .i64 1, .bool b, .int .i64 0, .string ⟨#[]⟩, .slice none 0 0, .slice none 0 0]) (three_below _ _ _ _) (fun B => lies_S (by constructor <;> omega) (by constructor <;> omega) (by decide) headed_nil headed_nil (by rw [liesL]; trivial) (by rw [liesM]; trivial)) (by simp only [V.wt, wtL, wtM]; have z0 : (⟨#[]⟩ : ByteArray).size = 0 := rfl; omega)
  · go_enter Tryd.func14, Tryd.ntmps14
    go_wp2_with fail
    all_goals (try simp only [Exit.inBlock, Exit.then])
    all_goals refine bodyPost_ret (v := .agg #[.int .i64 2, .bool false, .int .i64 i, .string ⟨#[]⟩, .slice none 0 0, .slice none 0 0]) (by rw [results_cell1 rfl]; go_simp) rfl ?_
    all_goals exact god_fin (u := V.mk 2 false i ⟨#[]⟩ [] []) (cs := [.int .i64 2, .bool false, .int .i64 i, .string ⟨#[]⟩, .slice none 0 0, .slice none 0 0]) (three_below _ _ _ _) (fun B => lies_S (by constructor <;> omega) hi (by decide) headed_nil headed_nil (by rw [liesL]; trivial) (by rw [liesM]; trivial)) (by simp only [V.wt, wtL, wtM]; have z0 : (⟨#[]⟩ : ByteArray).size = 0 := rfl; omega)
  · go_enter Tryd.func14, Tryd.ntmps14
    go_wp2_with fail
    all_goals (try simp only [Exit.inBlock, Exit.then])
    all_goals refine bodyPost_ret (v := .agg #[.int .i64 2, .bool false, .int .i64 i, .string ⟨#[]⟩, .slice none 0 0, .slice none 0 0]) (by rw [results_cell1 rfl]; go_simp) rfl ?_
    all_goals exact god_fin (u := V.mk 2 false i ⟨#[]⟩ [] []) (cs := [.int .i64 2, .bool false, .int .i64 i, .string ⟨#[]⟩, .slice none 0 0, .slice none 0 0]) (three_below _ _ _ _) (fun B => lies_S (by constructor <;> omega) hi (by decide) headed_nil headed_nil (by rw [liesL]; trivial) (by rw [liesM]; trivial)) (by simp only [V.wt, wtL, wtM]; have z0 : (⟨#[]⟩ : ByteArray).size = 0 := rfl; omega)
  · go_enter Tryd.func14, Tryd.ntmps14
    go_wp2_with fail
    all_goals (try simp only [Exit.inBlock, Exit.then])
    all_goals refine bodyPost_ret (v := .agg #[.int .i64 0, .bool false, .int .i64 0, .string ⟨#[]⟩, .slice none 0 0, .slice none 0 0]) (by rw [results_cell1 rfl]; go_simp) rfl ?_
    all_goals exact god_fin (u := V.mk 0 false 0 ⟨#[]⟩ [] []) (cs := [.int .i64 0, .bool false, .int .i64 0, .string ⟨#[]⟩, .slice none 0 0, .slice none 0 0]) (three_below _ _ _ _) (fun B => lies_S (by constructor <;> omega) (by constructor <;> omega) (by decide) headed_nil headed_nil (by rw [liesL]; trivial) (by rw [liesM]; trivial)) (by simp only [V.wt, wtL, wtM]; have z0 : (⟨#[]⟩ : ByteArray).size = 0 := rfl; omega)
  · go_enter Tryd.func14, Tryd.ntmps14
    go_wp2_with fail
    all_goals (try simp only [Exit.inBlock, Exit.then])
    all_goals refine bodyPost_ret (v := .agg #[.int .i64 0, .bool false, .int .i64 0, .string ⟨#[]⟩, .slice none 0 0, .slice none 0 0]) (by rw [results_cell1 rfl]; go_simp) rfl ?_
    all_goals exact god_fin (u := V.mk 0 false 0 ⟨#[]⟩ [] []) (cs := [.int .i64 0, .bool false, .int .i64 0, .string ⟨#[]⟩, .slice none 0 0, .slice none 0 0]) (three_below _ _ _ _) (fun B => lies_S (by constructor <;> omega) (by constructor <;> omega) (by decide) headed_nil headed_nil (by rw [liesL]; trivial) (by rw [liesM]; trivial)) (by simp only [V.wt, wtL, wtM]; have z0 : (⟨#[]⟩ : ByteArray).size = 0 := rfl; omega)
  · go_enter Tryd.func14, Tryd.ntmps14
    go_wp2_with fail
    all_goals (try simp only [Exit.inBlock, Exit.then])
    all_goals refine bodyPost_ret (v := .agg #[.int .i64 0, .bool false, .int .i64 0, .string ⟨#[]⟩, .slice none 0 0, .slice none 0 0]) (by rw [results_cell1 rfl]; go_simp) rfl ?_
    all_goals exact god_fin (u := V.mk 0 false 0 ⟨#[]⟩ [] []) (cs := [.int .i64 0, .bool false, .int .i64 0, .string ⟨#[]⟩, .slice none 0 0, .slice none 0 0]) (three_below _ _ _ _) (fun B => lies_S (by constructor <;> omega) (by constructor <;> omega) (by decide) headed_nil headed_nil (by rw [liesL]; trivial) (by rw [liesM]; trivial)) (by simp only [V.wt, wtL, wtM]; have z0 : (⟨#[]⟩ : ByteArray).size = 0 := rfl; omega)
  · go_enter Tryd.func14, Tryd.ntmps14
    go_wp2_with fail
    all_goals (try simp only [Exit.inBlock, Exit.then])
    all_goals refine bodyPost_ret (v := .agg #[.int .i64 0, .bool false, .int .i64 0, .string ⟨#[]⟩, .slice none 0 0, .slice none 0 0]) (by rw [results_cell1 rfl]; go_simp) rfl ?_
    all_goals exact god_fin (u := V.mk 0 false 0 ⟨#[]⟩ [] []) (cs := [.int .i64 0, .bool false, .int .i64 0, .string ⟨#[]⟩, .slice none 0 0, .slice none 0 0]) (three_below _ _ _ _) (fun B => lies_S (by constructor <;> omega) (by constructor <;> omega) (by decide) headed_nil headed_nil (by rw [liesL]; trivial) (by rw [liesM]; trivial)) (by simp only [V.wt, wtL, wtM]; have z0 : (⟨#[]⟩ : ByteArray).size = 0 := rfl; omega)
end Go.Proofs.YtljgofmmihmmfaaDoor
