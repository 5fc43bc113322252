import Derived.Test.YtljgofmmihmmfabDoorJA
/- value.Build of no members: nil, or an empty row. -/
set_option linter.unusedSimpArgs false
set_option linter.unusedVariables false
namespace Go.Proofs.YtljgofmmihmmfabDoor
open Go.RowKit Go.Lib Go.Sort

theorem mclone_nil (n c : Nat) (w : World) : Calls Tryd.prog 31 #[.slice none n c] w fun e w' => e = .returned (.slice none 0 0) ∧ w' = w :=
  AnyE.slices_Clone_nil Tryd.clone61 n c w

set_option maxHeartbeats 1000000 in
set_option maxRecDepth 100000 in
theorem mclone_zero (a : Addr) (c : Nat) (w : World) : Calls Tryd.prog 31 #[.slice (some a) 0 c] w fun e w' => ∃ g cap, e = .returned (.slice (some ⟨g, 0, none⟩) 0 cap) ∧ w.heap.size ≤ g ∧ g < w'.heap.size ∧ cap ≤ maxLen ∧ Below w.heap.size w w' := by
  obtain ⟨i0, hi0, hz0, hz1, hz2⟩ := info_parts info44
  have q22 : ∀ (w : World) (a : Option Addr) (n c n' c' : Nat), (binOp .eql 23 (.slice a n c) (.slice none n' c')).run Tryd.prog w = .ok (.bool a.isNone) w := fun w a n c n' c' => Lib.run_eql_slice_nil w _ _ a n c n' c' Tryd.underlying23
  go_enter Tryd.func31, Tryd.ntmps31
  go_wp2_with (at_builtin; refine wpList_append_own _ rfl _ _ 23 rfl w.heap.size 38 i0 _ 7 104 Tryd.underlying23 hi0 hz0 hz1 hz2 rfl (by decide) _ _ _ rfl (World.ownsRow_made w #[] 0 (Nat.le_refl _) (Nat.zero_le _) (by simp)) a 0 c [] rfl ?qc1 ?qc2 ?qc3 ?qc4 ?qc5 ?qc6 ?_)
  case qc1 => rfl
  case qc2 => intro j u hj; simp at hj
  case qc3 => intro u hu; simp at hu
  case qc4 => decide
  case qc5 => decide
  case qc6 => simp
  intro v' w1 hown hgrow hnil
  go_wp2_with fail
  go_ret
  obtain ⟨_, ho⟩ := hown
  rcases ho with ⟨rfl, _⟩ | ⟨g, cap, cur, rfl, hg, hblk, hle, hm, hcs, hpre⟩
  · exact absurd rfl hnil
  · refine ⟨g, cap, rfl, hg, ?_, hm, ((Below.refl _ w).alloc (Nat.le_refl _) _).grown hgrow (by simp) (by intro k hk; simp [Value.ownBlock] at hk; omega)⟩
    rcases Nat.lt_or_ge g w1.heap.size with h | h
    · exact h
    · rw [Array.getElem?_eq_none h] at hblk; cases hblk

set_option maxHeartbeats 1000000 in
set_option maxRecDepth 100000 in
theorem ins_nil (w : World) : Calls Tryd.prog 61 #[.slice none 0 0, .int .i64 0, .int .i64 0, .func (.func 33) #[] #[]] w fun e w' => e = .returned (.tuple #[]) ∧ w' = w := by
  go_enter Tryd.func61, Tryd.ntmps61
  go_wp2_with fail
  go_loopw [8] (fun e wr => e = .int .i64 1 ∧ wr = w) (fun _ _ => 0)
  case atStart => exact ⟨by go_num, rfl⟩
  case round =>
    obtain ⟨rfl, rfl⟩ := hrel
    go_wp2_with fail
    go_end0
    exact ⟨rfl, rfl⟩

set_option maxHeartbeats 1000000 in
set_option maxRecDepth 100000 in
theorem pdq_nil (m : Int) (w : World) : Calls Tryd.prog 47 #[.slice none 0 0, .int .i64 0, .int .i64 0, .int .i64 m, .func (.func 33) #[] #[]] w fun e w' => e = .returned (.tuple #[]) ∧ w' = w := by
  have hc := ins_nil w
  go_enter Tryd.func47, Tryd.ntmps47
  go_wp2_with fail
  go_loopw [1, 2] (fun e1 e2 wr => e1 = .int .i64 0 ∧ e2 = .int .i64 0 ∧ wr = w) (fun _ _ _ => 0)
  case atStart => exact ⟨rfl, rfl, rfl⟩
  case round =>
    obtain ⟨rfl, rfl, rfl⟩ := hrel
    go_wp2_with fail
    refine hc.mono ?_
    rintro e w1 ⟨rfl, rfl⟩
    go_wp2_with fail
    exact bodyPost_ret (v := .tuple #[]) (results_none rfl _ _ _) rfl ⟨rfl, rfl⟩

set_option maxHeartbeats 1000000 in
set_option maxRecDepth 100000 in
theorem msort_nil (w : World) : Calls Tryd.prog 32 #[.slice none 0 0, .func (.func 33) #[] #[]] w fun e w' => e = .returned (.tuple #[]) ∧ w' = w := by
  have hl : Calls Tryd.prog 48 #[.int .u64 0] w fun e w' => e = .returned (.int .i64 (Lib.bitLen 0 : Nat)) ∧ w' = w := by
    have h := Any.bits_Len (SlLaysF0.n15.bits (P := Tryd.prog) (ρ := Tryd.sort62_ren) { Tryd.sort62 with }) 0 w (by omega) (by omega)
    exact h
  have hp := pdq_nil (Lib.bitLen 0 : Nat) w
  generalize ((Lib.bitLen 0 : Nat) : Int) = m at *
  go_enter Tryd.func32, Tryd.ntmps32
  go_wp2_with fail
  refine hl.mono ?_
  rintro e w1 ⟨rfl, rfl⟩
  go_wp2_with fail
  refine hp.mono ?_
  rintro e w1 ⟨rfl, rfl⟩
  go_wp2_with fail
  go_end0
  exact ⟨rfl, rfl⟩

set_option maxHeartbeats 1600000 in
set_option maxRecDepth 100000 in
theorem build_zero (am : Option Addr) (cm : Nat) (w : World) (tb : Tb w) (hn : am = none → cm = 0) : Calls Tryd.prog 10 #[.slice am 0 cm] w (BldPost [] w) := by
  have hz0 := alloc_size w (.cells #[.int .i64 0, .bool false, .int .i64 0, .string ⟨#[]⟩, .slice none 0 0, .slice none 0 0] 25)
  have B0 : Below w.heap.size w (w.alloc (.cells #[.int .i64 0, .bool false, .int .i64 0, .string ⟨#[]⟩, .slice none 0 0, .slice none 0 0] 25)) := (Below.refl _ _).alloc (Nat.le_refl _) _
  have h0 := heap_alloc_new w (.cells #[.int .i64 0, .bool false, .int .i64 0, .string ⟨#[]⟩, .slice none 0 0, .slice none 0 0] 25)
  have HB : Hid (∀ W, Below w.heap.size w W → Tb W) := fun W hb => tb.below hb tb.z
  clear tb
  have HZ : Hid (∀ W, Below w.heap.size w W → ∀ (g : Option Addr) (cap : Nat), (g = none → cap = 0) → cap ≤ maxLen → Calls Tryd.prog 35 #[.slice g 0 cap] W (VePost (mapV []) (mapE []) W)) := fun W hb g cap h1 h2 =>
    mapOf_any [] false (fun _ => False) g cap 0 0 W (HB.out W hb) ⟨Nat.zero_le _, h2, .inl rfl, h1⟩ (by rw [liesM]; trivial) (fun b h => h.elim) (by simp [wtM])
  go_enter Tryd.func10, Tryd.ntmps10
  go_wp2_with fail
  generalize (w.alloc (.cells #[.int .i64 0, .bool false, .int .i64 0, .string ⟨#[]⟩, .slice none 0 0, .slice none 0 0] 25)) = w0 at *
  have K0 : Hid (∀ W, Below w0.heap.size w0 W → Below w.heap.size w W ∧ W.heap[w.heap.size]? = some (.cells #[.int .i64 0, .bool false, .int .i64 0, .string ⟨#[]⟩, .slice none 0 0, .slice none 0 0] 25 (0, 0))) := fun W hb => ⟨B0.trans (hb.mono (by omega)), (hb.block _ (by omega)).trans h0⟩
  clear h0 B0
  go_loopw [8] (fun e wr => e = .int .i64 0 ∧ wr = w0) (fun _ _ => 0)
  case atStart => exact ⟨rfl, rfl⟩
  case round =>
    obtain ⟨rfl, hww⟩ := hrel
    subst hww
    have HEND : Hid (∀ (w3 : World) (uk : Int) (ub : Bool) (ui : Int) (us : ByteArray) (ual : Option Addr) (unl ucl : Nat) (uam : Option Addr) (unm ucm : Nat), Below wr.heap.size wr w3 → (mapV []).lies false w3 (From (w.heap.size + 1) w3) [.int .i64 uk, .bool ub, .int .i64 ui, .string us, .slice ual unl ucl, .slice uam unm ucm] → BldPost [] w (.returned (.tuple #[.agg #[.int .i64 uk, .bool ub, .int .i64 ui, .string us, .slice ual unl ucl, .slice uam unm ucm], .int .i64 (mapE [] : Int)])) ((((((w3.setCell ⟨w.heap.size, 0, none⟩ (.int .i64 uk)).setCell ⟨w.heap.size, 1, none⟩ (.bool ub)).setCell ⟨w.heap.size, 2, none⟩ (.int .i64 ui)).setCell ⟨w.heap.size, 3, none⟩ (.string us)).setCell ⟨w.heap.size, 4, none⟩ (.slice ual unl ucl)).setCell ⟨w.heap.size, 5, none⟩ (.slice uam unm ucm))) := fun w3 uk ub ui us ual unl ucl uam unm ucm b3 hu =>
      .inr ⟨rfl, [], List.Perm.refl _, List.Pairwise.nil, [.int .i64 uk, .bool ub, .int .i64 ui, .string us, .slice ual unl ucl, .slice uam unm ucm], rfl, V.lies_keep (fun h => h) (fun _ _ => rfl) (fun x hx => ⟨by have := hx.1; omega, hx.2⟩) _ (lies_set6A hu (show w.heap.size < w.heap.size + 1 by omega) _ _ _ _ _ _ _ _ _ _ _ _), Below.set6 (K0.out w3 b3).1 (Nat.le_refl _) _ _ _ _ _ _ _ _ _ _ _ _⟩
    cases am with
    | none =>
      obtain rfl : cm = 0 := hn rfl
      have c1 := mclone_nil 0 0 wr
      have c2 := msort_nil wr
      have c3 := HZ.out wr (K0.out wr (Below.refl _ _)).1 none 0 (fun _ => rfl) (by decide)
      go_wp2_with fail
      refine c1.mono ?_
      rintro e w1 ⟨rfl, rfl⟩
      go_wp2_with fail
      refine c2.mono ?_
      rintro e w2 ⟨rfl, rfl⟩
      generalize mapE [] = me at *
      go_wp2_with fail
      refine c3.mono ?_
      rintro e w3 ⟨csu, rfl, hlu, b3⟩
      obtain ⟨uk, ub, ui, us, ual, unl, ucl, uam, unm, ucm, rfl⟩ := V.ten hlu
      have t3 := (K0.out w3 b3).2
      have HF := HEND.out w3 uk ub ui us ual unl ucl uam unm ucm b3 (V.lies_keep (fun h => h) (fun _ _ => rfl) (fun x hx => ⟨by have := hx.1; omega, hx.2⟩) _ hlu)
      have HFH : Hid _ := HF
      have r0 : w3.cell? ⟨w.heap.size, 0, none⟩ = some (.int .i64 0) := by rw [cell_of_block t3]; rfl
      have r1 : w3.cell? ⟨w.heap.size, 1, none⟩ = some (.bool false) := by rw [cell_of_block t3]; rfl
      have r2 : w3.cell? ⟨w.heap.size, 2, none⟩ = some (.int .i64 0) := by rw [cell_of_block t3]; rfl
      have r3 : w3.cell? ⟨w.heap.size, 3, none⟩ = some (.string ⟨#[]⟩) := by rw [cell_of_block t3]; rfl
      have r4 : w3.cell? ⟨w.heap.size, 4, none⟩ = some (.slice none 0 0) := by rw [cell_of_block t3]; rfl
      have r5 : w3.cell? ⟨w.heap.size, 5, none⟩ = some (.slice none 0 0) := by rw [cell_of_block t3]; rfl
      have rf : ∀ i, w3.frozen? ⟨w.heap.size, i, none⟩ = false := frozen_of_block t3
      clear t3 hlu HF b3 c1 c2 c3
      go_wp2_with fail
      (try simp only [Exit.inBlock, Exit.then])
      refine bodyPost_ret (v := .tuple #[.agg #[.int .i64 uk, .bool ub, .int .i64 ui, .string us, .slice ual unl ucl, .slice uam unm ucm], .int .i64 (me : Int)]) ?_ rfl HFH.out
      rw [results_cell_tmp rfl]
      go_simp
    | some a =>
      have c1 := mclone_zero a cm wr
      go_wp2_with fail
      refine c1.mono ?_
      rintro e w1 ⟨g, cap, rfl, hg, hgw, hcm, b1⟩
      have c2 := msort_any [] g cap w1 (fun j hj => by simp at hj) hgw (by simp)
      go_wp2_with fail
      refine c2.mono ?_
      rintro e w2 ⟨rfl, d', hp, hs, hrow, hbl⟩
      have b2 : Below wr.heap.size wr w2 := b1.trans (hbl wr.heap.size hg)
      have c3 := HZ.out w2 (K0.out w2 b2).1 (some ⟨g, 0, none⟩) cap (fun h => by cases h) hcm
      clear hp hs hrow hbl c1 c2
      generalize mapE [] = me at *
      go_wp2_with fail
      refine c3.mono ?_
      rintro e w3 ⟨csu, rfl, hlu, b3⟩
      obtain ⟨uk, ub, ui, us, ual, unl, ucl, uam, unm, ucm, rfl⟩ := V.ten hlu
      have b4 := b2.trans (b3.mono b2.size)
      have t3 := (K0.out w3 b4).2
      have hz2 := b2.size
      have HF := HEND.out w3 uk ub ui us ual unl ucl uam unm ucm b4 (V.lies_keep (fun h => h) (fun _ _ => rfl) (fun x hx => ⟨by have := hx.1; omega, hx.2⟩) _ hlu)
      have HFH : Hid _ := HF
      have r0 : w3.cell? ⟨w.heap.size, 0, none⟩ = some (.int .i64 0) := by rw [cell_of_block t3]; rfl
      have r1 : w3.cell? ⟨w.heap.size, 1, none⟩ = some (.bool false) := by rw [cell_of_block t3]; rfl
      have r2 : w3.cell? ⟨w.heap.size, 2, none⟩ = some (.int .i64 0) := by rw [cell_of_block t3]; rfl
      have r3 : w3.cell? ⟨w.heap.size, 3, none⟩ = some (.string ⟨#[]⟩) := by rw [cell_of_block t3]; rfl
      have r4 : w3.cell? ⟨w.heap.size, 4, none⟩ = some (.slice none 0 0) := by rw [cell_of_block t3]; rfl
      have r5 : w3.cell? ⟨w.heap.size, 5, none⟩ = some (.slice none 0 0) := by rw [cell_of_block t3]; rfl
      have rf : ∀ i, w3.frozen? ⟨w.heap.size, i, none⟩ = false := frozen_of_block t3
      clear t3 hlu HF b3 c3
      go_wp2_with fail
      (try simp only [Exit.inBlock, Exit.then])
      refine bodyPost_ret (v := .tuple #[.agg #[.int .i64 uk, .bool ub, .int .i64 ui, .string us, .slice ual unl ucl, .slice uam unm ucm], .int .i64 (me : Int)]) ?_ rfl HFH.out
      rw [results_cell_tmp rfl]
      go_simp
/-- Build of whatever members -/
theorem buildH_any (l : List Mem) (R : Bool) (S : Nat → Prop) (am : Option Addr) (cm bm om : Nat) (w : World) (tb : Tb w) (ham : Headed am l.length cm bm om) (hl : liesM R w S l bm om) (hS : ∀ b, S b → b < w.heap.size) (hwt : wtM l ≤ 1099511000000) :
    Calls Tryd.prog 10 #[.slice am l.length cm] w (BldPost l w) := by
  rcases ham.at_ with h | h
  · have : l = [] := List.length_eq_zero_iff.1 h
    subst this
    exact build_zero am cm w tb ham.nil
  · exact build_any l R S am cm bm om w tb h hl hS hwt
end Go.Proofs.YtljgofmmihmmfabDoor
