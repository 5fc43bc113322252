/- freeholdlaw02.cleared; a value against itself. -/
import Derived.Test.YtljgofmmihmmfaaDoorCmpA
import Derived.Test.YtljgofmmihmmfaaDoorGodA
set_option linter.unusedSimpArgs false
set_option linter.unusedVariables false
namespace Go.Proofs.YtljgofmmihmmfaaDoor
open Go.RowKit Go.Lib

mutual
theorem ordV_self : ∀ v : V, ordV v v = 0
  | .mk k b i s l m => by
    rw [ordV, if_pos rfl]
    split
    · exact cmpB_self b
    split
    · exact cmpI_self i
    split
    · exact (cmpS_zero s s).2 rfl
    split
    · exact ordL_self l
    split
    · exact ordM_self m
    · rfl
theorem ordL_self : ∀ l : List V, ordL l l = 0
  | [] => by rw [ordL]
  | x :: t => by rw [ordL, if_pos (ordV_self x), ordL_self t]
theorem ordM_self : ∀ l : List Mem, ordM l l = 0
  | [] => by rw [ordM]
  | (k, x) :: t => by rw [ordM, if_pos rfl, if_pos (ordV_self x), ordM_self t]
end

theorem two_below (w : World) (o o' : Obj) : Below w.heap.size w ((w.alloc o).alloc o') := ((Below.refl _ _).alloc (Nat.le_refl _) _).alloc (by rw [alloc_size]; omega) _

set_option maxHeartbeats 4000000 in
set_option maxRecDepth 100000 in
theorem cleared_any (v : V) (cs : List Value) (w : World) (hv : v.lies false w (Old w) cs) : Calls Tryd.prog 26 #[.agg cs.toArray] w (FaPost v.wt w) := by
  obtain ⟨k, b, i, s, l, m⟩ := v
  rw [V.lies] at hv
  obtain ⟨al, cl, bl, ol, am, cm, bm, om, rfl, hk, hi, hs, hal, ham, hl1, hm1, _⟩ := hv
  have HL : Hid (∀ W, Below w.heap.size w W → liesL false W (Old W) l bl ol) := fun W hB => liesL_keep (fun h => h) (fun x hx => hB.block x hx) (fun x hx => Nat.lt_of_lt_of_le hx hB.size) _ hl1
  have HM : Hid (∀ W, Below w.heap.size w W → liesM false W (Old W) m bm om) := fun W hB => liesM_keep (fun h => h) (fun x hx => hB.block x hx) (fun x hx => Nat.lt_of_lt_of_le hx hB.size) _ hm1
  clear hl1 hm1
  have hw0 : Hid ((V.mk k b i s l m).wt = 1 + s.size + wtL l + wtM m) := by show _ = _; rw [V.wt]
  by_cases h1 : k = 1
  · subst h1
    go_enter Tryd.func26, Tryd.ntmps26
    go_wp2_with fail
    (try simp only [Exit.inBlock, Exit.then])
    refine bodyPost_ret (v := .agg #[.int .i64 1, .bool b, .int .i64 0, .string ⟨#[]⟩, .slice none 0 0, .slice none 0 0]) (by rw [results_cell1 rfl]; go_simp) rfl ?_
    exact ⟨V.mk 1 b 0 ⟨#[]⟩ [] [], [.int .i64 1, .bool b, .int .i64 0, .string ⟨#[]⟩, .slice none 0 0, .slice none 0 0], rfl, lies_of (by constructor <;> omega) (by constructor <;> omega) (by decide) headed_nil headed_nil (by rw [liesL]; trivial) (by rw [liesM]; trivial), by rw [hw0.out]; have z0 : (⟨#[]⟩ : ByteArray).size = 0 := rfl; simp only [V.wt, wtL, wtM]; omega, two_below w _ _⟩
  by_cases h2 : k = 2
  · subst h2
    go_enter Tryd.func26, Tryd.ntmps26
    go_wp2_with fail
    (try simp only [Exit.inBlock, Exit.then])
    refine bodyPost_ret (v := .agg #[.int .i64 2, .bool false, .int .i64 i, .string ⟨#[]⟩, .slice none 0 0, .slice none 0 0]) (by rw [results_cell1 rfl]; go_simp) rfl ?_
    exact ⟨V.mk 2 false i ⟨#[]⟩ [] [], [.int .i64 2, .bool false, .int .i64 i, .string ⟨#[]⟩, .slice none 0 0, .slice none 0 0], rfl, lies_of (by constructor <;> omega) hi (by decide) headed_nil headed_nil (by rw [liesL]; trivial) (by rw [liesM]; trivial), by rw [hw0.out]; have z0 : (⟨#[]⟩ : ByteArray).size = 0 := rfl; simp only [V.wt, wtL, wtM]; omega, two_below w _ _⟩
  by_cases h3 : k = 3
  · subst h3
    go_enter Tryd.func26, Tryd.ntmps26
    go_wp2_with fail
    (try simp only [Exit.inBlock, Exit.then])
    refine bodyPost_ret (v := .agg #[.int .i64 3, .bool false, .int .i64 0, .string s, .slice none 0 0, .slice none 0 0]) (by rw [results_cell1 rfl]; go_simp) rfl ?_
    exact ⟨V.mk 3 false 0 s [] [], [.int .i64 3, .bool false, .int .i64 0, .string s, .slice none 0 0, .slice none 0 0], rfl, lies_of (by constructor <;> omega) (by constructor <;> omega) hs headed_nil headed_nil (by rw [liesL]; trivial) (by rw [liesM]; trivial), by rw [hw0.out]; have z0 : (⟨#[]⟩ : ByteArray).size = 0 := rfl; simp only [V.wt, wtL, wtM]; omega, two_below w _ _⟩
  by_cases h4 : k = 4
  · subst h4
    go_enter Tryd.func26, Tryd.ntmps26
    go_wp2_with fail
    (try simp only [Exit.inBlock, Exit.then])
    refine bodyPost_ret (v := .agg #[.int .i64 4, .bool false, .int .i64 0, .string ⟨#[]⟩, .slice al l.length cl, .slice none 0 0]) (by rw [results_cell1 rfl]; go_simp) rfl ?_
    exact ⟨V.mk 4 false 0 ⟨#[]⟩ l [], [.int .i64 4, .bool false, .int .i64 0, .string ⟨#[]⟩, .slice al l.length cl, .slice none 0 0], rfl, lies_of (by constructor <;> omega) (by constructor <;> omega) (by decide) hal headed_nil (HL.out _ (two_below w _ _)) (by rw [liesM]; trivial), by rw [hw0.out]; have z0 : (⟨#[]⟩ : ByteArray).size = 0 := rfl; simp only [V.wt, wtL, wtM]; omega, two_below w _ _⟩
  by_cases h5 : k = 5
  · subst h5
    go_enter Tryd.func26, Tryd.ntmps26
    go_wp2_with fail
    (try simp only [Exit.inBlock, Exit.then])
    refine bodyPost_ret (v := .agg #[.int .i64 5, .bool false, .int .i64 0, .string ⟨#[]⟩, .slice none 0 0, .slice am m.length cm]) (by rw [results_cell1 rfl]; go_simp) rfl ?_
    exact ⟨V.mk 5 false 0 ⟨#[]⟩ [] m, [.int .i64 5, .bool false, .int .i64 0, .string ⟨#[]⟩, .slice none 0 0, .slice am m.length cm], rfl, lies_of (by constructor <;> omega) (by constructor <;> omega) (by decide) headed_nil ham (by rw [liesL]; trivial) (HM.out _ (two_below w _ _)), by rw [hw0.out]; have z0 : (⟨#[]⟩ : ByteArray).size = 0 := rfl; simp only [V.wt, wtL, wtM]; omega, two_below w _ _⟩
  go_enter Tryd.func26, Tryd.ntmps26
  go_wp2_with fail
  (try simp only [Exit.inBlock, Exit.then])
  refine bodyPost_ret (v := .agg #[.int .i64 0, .bool false, .int .i64 0, .string ⟨#[]⟩, .slice none 0 0, .slice none 0 0]) (by rw [results_cell1 rfl]; go_simp) rfl ?_
  exact ⟨V.mk 0 false 0 ⟨#[]⟩ [] [], [.int .i64 0, .bool false, .int .i64 0, .string ⟨#[]⟩, .slice none 0 0, .slice none 0 0], rfl, lies_of (by constructor <;> omega) (by constructor <;> omega) (by decide) headed_nil headed_nil (by rw [liesL]; trivial) (by rw [liesM]; trivial), by rw [hw0.out]; have z0 : (⟨#[]⟩ : ByteArray).size = 0 := rfl; simp only [V.wt, wtL, wtM]; omega, two_below w _ _⟩
end Go.Proofs.YtljgofmmihmmfaaDoor
