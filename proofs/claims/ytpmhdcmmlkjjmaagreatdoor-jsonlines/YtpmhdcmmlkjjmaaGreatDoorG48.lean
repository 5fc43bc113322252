/- joined: RfE TxtA -/
import Derived.Test.YtpmhdcmmlkjjmaaGreatDoorRfD
/- freeholdref02.Check, freeholdref00.Value. -/
set_option linter.unusedSimpArgs false
set_option linter.unusedVariables false
set_option maxRecDepth 100000
namespace Go.Proofs.YtpmhdcmmlkjjmaaGreatDoor
open Go.RowKit Go.Lib
set_option maxHeartbeats 4000000 in
set_option maxRecDepth 100000 in
theorem rcheck_wide (R : Bool) (v : V) (depth : Int) (S : Nat → Prop) (cs : List Value) (w : World) (hl : v.lies R w S cs) (hS : ∀ b, S b → b < w.heap.size) (hwt : v.wt ≤ 281474976710656) :
    Calls Tryz.prog 47 #[.agg cs.toArray, .int .i64 depth] w (NPost (chkE v depth) w) := by
  obtain ⟨k, b, i, s, al, nl, cl, am, nm, cm, rfl⟩ := V.ten hl
  by_cases h1 : depth < 0
  · have HF : Hid (chkE v depth = 2) := by show _ = _; simp [chkE, h1]
    go_enter Tryz.func47, Tryz.ntmps47
    go_wp2_with fail
    go_ret
    rw [HF.out]
    exact ⟨rfl, (Below.refl _ _).alloc (Nat.le_refl _) _⟩
  by_cases h2 : 40 < depth
  · have HF : Hid (chkE v depth = 2) := by show _ = _; simp [chkE, h2]
    go_enter Tryz.func47, Tryz.ntmps47
    go_wp2_with fail
    go_ret
    rw [HF.out]
    exact ⟨rfl, (Below.refl _ _).alloc (Nat.le_refl _) _⟩
  obtain ⟨D, rfl⟩ : ∃ D : Nat, depth = (D : Int) := ⟨depth.toNat, by omega⟩
  have hD : D ≤ 40 := by omega
  have HF : Hid (chkE v (D : Int) = (chkV D v 0 (0, 0, 0)).1) := by show _ = _; rw [chkE, if_neg (by omega)]; rfl
  have ga : w.grownBy (w.alloc (.cells #[.int .i64 k, .bool b, .int .i64 i, .string s, .slice al nl cl, .slice am nm cm] 25)) none := World.grownBy_alloc _ _ _
  have c := rwalk_wide v R D 0 0 0 0 S _ _ (V.lies_keep (fun h => h) (fun x hx => ga.block x (hS x hx) (by simp)) (fun _ h => h) _ hl) (fun x hx => Nat.lt_of_lt_of_le (hS x hx) ga.size) hwt ⟨by simp, by simp, by simp⟩ hD (by omega)
  go_enter Tryz.func47, Tryz.ntmps47
  go_wp2_with fail
  refine c.mono ?_
  rintro e w1 ⟨a, d, rfl, _, b1⟩
  go_wp2_with fail
  go_ret
  rw [HF.out]
  exact ⟨rfl, (below_of_grown ga).trans ((b1.mono ga.size).alloc (by have := b1.size; have := ga.size; omega) _)⟩
theorem rcheck_any (R : Bool) (v : V) (depth : Int) (S : Nat → Prop) (cs : List Value) (w : World) (hl : v.lies R w S cs) (hS : ∀ b, S b → b < w.heap.size) (hwt : v.wt ≤ 1099511627776) :
    Calls Tryz.prog 47 #[.agg cs.toArray, .int .i64 depth] w (NPost (chkE v depth) w) := rcheck_wide R v depth S cs w hl hS (by omega)
end Go.Proofs.YtpmhdcmmlkjjmaaGreatDoor
/- freeholdref03.Text, Print. -/
namespace Go.Proofs.YtpmhdcmmlkjjmaaGreatDoor
open Go.RowKit Go.Lib
set_option maxHeartbeats 4000000 in
set_option maxRecDepth 100000 in
theorem txt_any : ∀ x : V, TxV x := by
  refine V.ind_v ?_
  intro k b i s l m ihl ihm R S cs w hx hS hp hwt
  rw [V.lies] at hx
  obtain ⟨al, cl, bl, ol, am, cm, bm, om, rfl, hk, hi, hs, hal, ham, hl, hm, _⟩ := hx
  rw [prV] at hp
  obtain ⟨⟨hi64, hs6, hk0, hk5⟩, hv, hpl, hpm⟩ := hp
  rw [V.wt] at hwt
  have nb := heap_alloc_new w (.cells #[.int .i64 k, .bool b, .int .i64 i, .string s, .slice al l.length cl, .slice am m.length cm] 25)
  have hza := alloc_size w (.cells #[.int .i64 k, .bool b, .int .i64 i, .string s, .slice al l.length cl, .slice am m.length cm] 25)
  have bA : Below w.heap.size w (w.alloc (.cells #[.int .i64 k, .bool b, .int .i64 i, .string s, .slice al l.length cl, .slice am m.length cm] 25)) := (Below.refl _ w).alloc (Nat.le_refl _) _
  have HLm : Hid (∀ W, Below (w.heap.size + 1) (w.alloc (.cells #[.int .i64 k, .bool b, .int .i64 i, .string s, .slice al l.length cl, .slice am m.length cm] 25)) W → liesL R W S l bl ol ∧ liesM R W S m bm om) := fun W hb => by
    have hb' := bA.trans (hb.mono (by omega))
    exact ⟨liesL_keep (fun h => h) (fun x hx => hb'.block x (hS x hx)) (fun _ h => h) _ hl, liesM_keep (fun h => h) (fun x hx => hb'.block x (hS x hx)) (fun _ h => h) _ hm⟩
  have HW : Hid (∀ W, Below (w.heap.size + 1) (w.alloc (.cells #[.int .i64 k, .bool b, .int .i64 i, .string s, .slice al l.length cl, .slice am m.length cm] 25)) W → Below w.heap.size w W) := fun W hb => bA.trans (hb.mono (by omega))
  have HX : Hid (∀ W, Below (w.heap.size + 1) (w.alloc (.cells #[.int .i64 k, .bool b, .int .i64 i, .string s, .slice al l.length cl, .slice am m.length cm] 25)) W → W.heap[w.heap.size]? = some (.cells #[.int .i64 k, .bool b, .int .i64 i, .string s, .slice al l.length cl, .slice am m.length cm] 25)) := fun W hb => (hb.block _ (by omega)).trans nb
  have n0 : (w.alloc (.cells #[.int .i64 k, .bool b, .int .i64 i, .string s, .slice al l.length cl, .slice am m.length cm] 25)).cell? ⟨w.heap.size, 0, none⟩ = some (.int .i64 k) := by rw [cell_of_block nb]; rfl
  have n1 : (w.alloc (.cells #[.int .i64 k, .bool b, .int .i64 i, .string s, .slice al l.length cl, .slice am m.length cm] 25)).cell? ⟨w.heap.size, 1, none⟩ = some (.bool b) := by rw [cell_of_block nb]; rfl
  have n2 : (w.alloc (.cells #[.int .i64 k, .bool b, .int .i64 i, .string s, .slice al l.length cl, .slice am m.length cm] 25)).cell? ⟨w.heap.size, 2, none⟩ = some (.int .i64 i) := by rw [cell_of_block nb]; rfl
  have n3 : (w.alloc (.cells #[.int .i64 k, .bool b, .int .i64 i, .string s, .slice al l.length cl, .slice am m.length cm] 25)).cell? ⟨w.heap.size, 3, none⟩ = some (.string s) := by rw [cell_of_block nb]; rfl
  have HT : Hid (txtV (.mk k b i s l m) = if k = 1 then (if b = true then [116, 114, 117, 101] else [102, 97, 108, 115, 101])
    else if k = 2 then itoa i
    else if k = 3 then Q.qt s.data.toList
    else if k = 4 then 91 :: (joinB (txtL l) ++ [93])
    else if k = 5 then 123 :: (joinB (txtM m) ++ [125])
    else [110, 117, 108, 108]) := hmk (by rw [txtV])
  have oN : OwnB (w.heap.size + 1) (.slice none 0 0) [] (w.alloc (.cells #[.int .i64 k, .bool b, .int .i64 i, .string s, .slice al l.length cl, .slice am m.length cm] 25)) := World.ownsRow_nil _ _ 5 1
  generalize txtV (.mk k b i s l m) = T at *
  clear hk hi hs
  by_cases k1 : k = 1
  · have e : T = (if b = true then [116, 114, 117, 101] else [102, 97, 108, 115, 101]) := HT.out.trans (if_pos k1)
    subst k1
    clear HT
    cases b
    · rw [if_neg (by simp)] at e
      subst e
      go_enter Tryz.func48, Tryz.ntmps48
      go_wp2_with (at_builtin; go_loud (refine wpl_str _ rfl (.tmp 24) _ rfl (w.heap.size + 1) _ [] rfl oN ⟨#[102, 97, 108, 115, 101]⟩ rfl (by simp only [List.length_nil]; (try show 0 + 5 ≤ _); omega) (by omega) ?_))
      intro v' w2 o2 b2
      go_wp2_with fail
      go_ret
      exact ⟨_, rfl, own_le o2 (by omega), HW.out _ b2⟩
    · rw [if_pos rfl] at e
      subst e
      go_enter Tryz.func48, Tryz.ntmps48
      go_wp2_with (at_builtin; go_loud (refine wpl_str _ rfl (.tmp 22) _ rfl (w.heap.size + 1) _ [] rfl oN ⟨#[116, 114, 117, 101]⟩ rfl (by simp only [List.length_nil]; (try show 0 + 4 ≤ _); omega) (by omega) ?_))
      intro v' w2 o2 b2
      go_wp2_with fail
      go_ret
      exact ⟨_, rfl, own_le o2 (by omega), HW.out _ b2⟩
  by_cases k2 : k = 2
  · have e : T = itoa i := HT.out.trans (by rw [if_neg k1, if_pos k2])
    have C := hmk (digits_any i hi64 (w.alloc (.cells #[.int .i64 k, .bool b, .int .i64 i, .string s, .slice al l.length cl, .slice am m.length cm] 25)))
    have hq : (itoa i).length ≤ 21 := itoa_length_le i hi64.1 hi64.2
    rw [← e] at C hq
    subst k2
    clear HT e
    have hq2 : (⟨T.toArray⟩ : ByteArray).size ≤ 21 := by show T.toArray.size ≤ 21; rw [List.size_toArray]; exact hq
    have HD : Hid ((⟨T.toArray⟩ : ByteArray).data.toList = T) := hmk rfl
    unfold StPost at C
    generalize (⟨T.toArray⟩ : ByteArray) = qs at *
    go_enter Tryz.func48, Tryz.ntmps48
    go_wp2_with fail
    refine C.out.mono ?_
    rintro e w1 ⟨rfl, b1⟩
    have hz1 := b1.size
    have o1 := oN.below b1
    go_wp2_with (at_builtin; go_loud (refine wpl_str _ rfl (.tmp 28) (.tmp 31) rfl (w.heap.size + 1) _ [] rfl o1 qs rfl (by simp only [List.length_nil]; omega) (by omega) ?_))
    intro v' w2 o2 b2
    go_wp2_with fail
    go_ret
    rw [HD.out] at o2
    exact ⟨_, rfl, own_le o2 (by omega), HW.out _ ((b1.mono (by omega)).trans b2)⟩
  by_cases k3 : k = 3
  · have e : T = Q.qt s.data.toList := HT.out.trans (by rw [if_neg k1, if_neg k2, if_pos k3])
    have C := hmk (refQuote_good s (w.alloc (.cells #[.int .i64 k, .bool b, .int .i64 i, .string s, .slice al l.length cl, .slice am m.length cm] 25)) (by omega) hv)
    have hq := qt_len s
    rw [← e] at C hq
    subst k3
    clear HT e
    have hq2 : (⟨T.toArray⟩ : ByteArray).size ≤ 6291458 := by show T.toArray.size ≤ _; rw [List.size_toArray]; omega
    have HD : Hid ((⟨T.toArray⟩ : ByteArray).data.toList = T) := hmk rfl
    generalize (⟨T.toArray⟩ : ByteArray) = qs at *
    go_enter Tryz.func48, Tryz.ntmps48
    go_wp2_with fail
    refine C.out.mono ?_
    rintro e w1 ⟨rfl, b1⟩
    have hz1 := b1.size
    have o1 := oN.below b1
    go_wp2_with (at_builtin; go_loud (refine wpl_str _ rfl (.tmp 41) (.tmp 42) rfl (w.heap.size + 1) _ [] rfl o1 qs rfl (by simp only [List.length_nil]; omega) (by omega) ?_))
    intro v' w2 o2 b2
    go_wp2_with fail
    go_ret
    rw [HD.out] at o2
    exact ⟨_, rfl, own_le o2 (by omega), HW.out _ ((b1.mono (by omega)).trans b2)⟩
  by_cases k4 : k = 4
  · have e : T = 91 :: (joinB (txtL l) ++ [93]) := HT.out.trans (by rw [if_neg k1, if_neg k2, if_neg k3, if_pos k4])
    subst k4
    rw [e]
    exact txt_list l ihl b i s R S al cl bl ol am m.length cm w hal hl hS hpl (by omega)
  by_cases k5 : k = 5
  · have e : T = 123 :: (joinB (txtM m) ++ [125]) := HT.out.trans (by rw [if_neg k1, if_neg k2, if_neg k3, if_neg k4, if_pos k5])
    subst k5
    rw [e]
    exact txt_map m ihm b i s R S al l.length cl am cm bm om w ham hm hS hpm (by omega)
  · obtain rfl : k = 0 := by omega
    have e : T = [110, 117, 108, 108] := HT.out.trans (by rw [if_neg k1, if_neg k2, if_neg k3, if_neg k4, if_neg k5])
    subst e
    clear HT
    go_enter Tryz.func48, Tryz.ntmps48
    go_wp2_with (at_builtin; go_loud (refine wpl_str _ rfl (.tmp 16) _ rfl (w.heap.size + 1) _ [] rfl oN ⟨#[110, 117, 108, 108]⟩ rfl (by simp only [List.length_nil]; (try show 0 + 4 ≤ _); omega) (by omega) ?_))
    intro v' w2 o2 b2
    go_wp2_with fail
    go_ret
    exact ⟨_, rfl, own_le o2 (by omega), HW.out _ b2⟩
set_option maxHeartbeats 1000000 in
set_option maxRecDepth 100000 in
theorem rprint_any (v : V) (depth : Int) (S : Nat → Prop) (cs : List Value) (w : World) (hv : v.lies false w S cs) (hS : ∀ b, S b → b < w.heap.size) (hwt : v.wt ≤ 2147483648) :
    Calls Tryz.prog 33 #[.agg cs.toArray, .int .i64 depth] w (PrPost v depth w) := by
  obtain ⟨k, b, i, s, al, nl, cl, am, nm, cm, rfl⟩ := V.ten hv
  have hb0 := box_row w [.int .i64 k, .bool b, .int .i64 i, .string s, .slice al nl cl, .slice am nm cm] 25
  have hz0 := alloc_size w (.cells #[.int .i64 k, .bool b, .int .i64 i, .string s, .slice al nl cl, .slice am nm cm] 25)
  have B0 : Below w.heap.size w (w.alloc (.cells #[.int .i64 k, .bool b, .int .i64 i, .string s, .slice al nl cl, .slice am nm cm] 25)) := (Below.refl _ _).alloc (Nat.le_refl _) _
  have HV : Hid (∀ W, Below w.heap.size w W → v.lies false W S [.int .i64 k, .bool b, .int .i64 i, .string s, .slice al nl cl, .slice am nm cm] ∧ (∀ b, S b → b < W.heap.size) ) := fun W hb => ⟨V.lies_keep (fun h => h) (fun x hx => hb.block x (hS x hx)) (fun _ h => h) _ hv, fun x hx => Nat.lt_of_lt_of_le (hS x hx) hb.size⟩
  have HP : Hid (chkE v depth = 0 → prV v ∧ v.wt ≤ 1114112 ∧ (txtV v).length + 5 ≤ 40 * v.wt) := fun h => by
    obtain ⟨h1, h2⟩ := chkE_pr h hv
    exact ⟨h1, h2, txtV_len v h1⟩
  have HF : Hid (prF v depth = if chkE v depth ≠ 0 then (chkE v depth, []) else if 1048576 < (txtV v).length then (30, []) else (0, txtV v)) := rfl
  clear hv hS
  go_enter Tryz.func33, Tryz.ntmps33
  go_wp2_with fail
  generalize (w.alloc (.cells #[.int .i64 k, .bool b, .int .i64 i, .string s, .slice al nl cl, .slice am nm cm] 25)) = w0 at *
  refine (rcheck_any false v depth S _ w0 (HV.out w0 B0).1 (HV.out w0 B0).2 (by omega)).mono ?_
  rintro e w1 ⟨rfl, b1⟩
  have hz1 := b1.size
  have B1 := B0.trans (b1.mono (by omega))
  obtain ⟨d0, d1, d2, d3, d4, d5⟩ := row6z (hb0.keep (b1.block _ (by omega)))
  clear hb0
  obtain ⟨F, hFE⟩ : ∃ F, prF v depth = F := ⟨_, rfl⟩
  have HFE : Hid (prF v depth = F) := hFE
  rw [hFE] at HF
  clear hFE
  generalize chkE v depth = r at *
  by_cases hr : r = 0
  · subst hr
    obtain ⟨hp, hw, htl⟩ := HP.out rfl
    have CA := hmk (txt_any v false S _ w1 (HV.out w1 B1).1 (HV.out w1 B1).2 hp hw)
    have HF2 : Hid (F = if 1048576 < (txtV v).length then (30, []) else (0, txtV v)) := hmk (by rw [HF.out, if_neg (by simp)])
    clear HF HP
    generalize txtV v = T at *
    go_wp2_with fail
    refine CA.out.mono ?_
    rintro e w2 ⟨bv, rfl, o2, b2⟩
    have hz2 := b2.size
    have B2 := B1.trans (b2.mono (by omega))
    obtain ⟨a, c, rfl⟩ := own_slice o2
    clear d0 d1 d2 d3 d4 d5 CA
    by_cases hT : 1048576 < T.length
    · have y1 : (T.length : Int) > 1048576 := by omega
      have y2 : (1048576 : Int) < T.length := by omega
      have e : F = (30, []) := HF2.out.trans (if_pos hT)
      subst e
      clear HF2 hT
      go_wp2_with fail
      go_ret2
      exact ⟨_, w2.heap.size, by rw [HFE.out]; rfl, by rw [HFE.out]; exact own_none _ _, by omega, B2⟩
    · have y1 : ¬ (T.length : Int) > 1048576 := by omega
      have y2 : ¬ (1048576 : Int) < T.length := by omega
      have e : F = (0, T) := HF2.out.trans (if_neg hT)
      subst e
      clear HF2 hT
      go_wp2_with fail
      go_ret2
      exact ⟨_, w1.heap.size, by rw [HFE.out]; rfl, by rw [HFE.out]; exact o2, by omega, B2⟩
  · have y1 : ((r : Int) != 0) = true := by simp [hr]
    have y2 : ¬ (r : Int) = 0 := by omega
    have e : F = (r, []) := HF.out.trans (if_pos hr)
    subst e
    clear HF HP hr
    go_wp2_with fail
    go_ret2
    exact ⟨_, w1.heap.size, by rw [HFE.out]; rfl, by rw [HFE.out]; exact own_none _ _, by omega, B1⟩
end Go.Proofs.YtpmhdcmmlkjjmaaGreatDoor
