/- joined: RfE TxtA JgC -/
import Derived.Test.YtpmhdcmmlkjjmaaGreatDoorH32
import Derived.Test.YtpmhdcmmlkjjmaaGreatDoorH30
import Derived.Test.YtpmhdcmmlkjjmaaGreatDoorH16
/- freeholdref02.Check, freeholdref00.Value. -/
set_option linter.unusedSimpArgs false
set_option linter.unusedVariables false
set_option maxRecDepth 100000
namespace Go.Proofs.YtpmhdcmmlkjjmaaGreatDoor
open Go.RowKit Go.Lib
set_option maxHeartbeats 4000000 in
set_option maxRecDepth 100000 in
theorem rcheck_wide (R : Bool) (v : V) (depth : Int) (S : Nat → Prop) (cs : List Value) (w : World) (hl : v.lies R w S cs) (hS : ∀ b, S b → b < w.heap.size) (hwt : v.wt ≤ 281474976710656) :
    Calls Tryz.prog 47 #[.agg cs.toArray, .int .i64 depth] w (NPost (chkE v depth) w) := by
  obtain ⟨k, b, i, s, al, nl, cl, am, nm, cm, rfl⟩ := V.ten hl
  by_cases h1 : depth < 0
  · have HF : Hid (chkE v depth = 2) := by show _ = _; simp [chkE, h1]
    go_enter Tryz.func47, Tryz.ntmps47
    go_wp2_with fail
    go_ret
    rw [HF.out]
    exact ⟨rfl, (Below.refl _ _).alloc (Nat.le_refl _) _⟩
  by_cases h2 : 40 < depth
  · have HF : Hid (chkE v depth = 2) := by show _ = _; simp [chkE, h2]
    go_enter Tryz.func47, Tryz.ntmps47
    go_wp2_with fail
    go_ret
    rw [HF.out]
    exact ⟨rfl, (Below.refl _ _).alloc (Nat.le_refl _) _⟩
  obtain ⟨D, rfl⟩ : ∃ D : Nat, depth = (D : Int) := ⟨depth.toNat, by omega⟩
  have hD : D ≤ 40 := by omega
  have HF : Hid (chkE v (D : Int) = (chkV D v 0 (0, 0, 0)).1) := by show _ = _; rw [chkE, if_neg (by omega)]; rfl
  have ga : w.grownBy (w.alloc (.cells #[.int .i64 k, .bool b, .int .i64 i, .string s, .slice al nl cl, .slice am nm cm] 25)) none := World.grownBy_alloc _ _ _
  have c := rwalk_wide v R D 0 0 0 0 S _ _ (V.lies_keep (fun h => h) (fun x hx => ga.block x (hS x hx) (by simp)) (fun _ h => h) _ hl) (fun x hx => Nat.lt_of_lt_of_le (hS x hx) ga.size) hwt ⟨by simp, by simp, by simp⟩ hD (by omega)
  go_enter Tryz.func47, Tryz.ntmps47
  go_wp2_with fail
  refine c.mono ?_
  rintro e w1 ⟨a, d, rfl, _, b1⟩
  go_wp2_with fail
  go_ret
  rw [HF.out]
  exact ⟨rfl, (below_of_grown ga).trans ((b1.mono ga.size).alloc (by have := b1.size; have := ga.size; omega) _)⟩
theorem rcheck_any (R : Bool) (v : V) (depth : Int) (S : Nat → Prop) (cs : List Value) (w : World) (hl : v.lies R w S cs) (hS : ∀ b, S b → b < w.heap.size) (hwt : v.wt ≤ 1099511627776) :
    Calls Tryz.prog 47 #[.agg cs.toArray, .int .i64 depth] w (NPost (chkE v depth) w) := rcheck_wide R v depth S cs w hl hS (by omega)
end Go.Proofs.YtpmhdcmmlkjjmaaGreatDoor
/- freeholdref03.Text, Print. -/
namespace Go.Proofs.YtpmhdcmmlkjjmaaGreatDoor
open Go.RowKit Go.Lib
set_option maxHeartbeats 4000000 in
set_option maxRecDepth 100000 in
theorem txt_any : ∀ x : V, TxV x := by
  refine V.ind_v ?_
  intro k b i s l m ihl ihm R S cs w hx hS hp hwt
  rw [V.lies] at hx
  obtain ⟨al, cl, bl, ol, am, cm, bm, om, rfl, hk, hi, hs, hal, ham, hl, hm, _⟩ := hx
  rw [prV] at hp
  obtain ⟨⟨hi64, hs6, hk0, hk5⟩, hv, hpl, hpm⟩ := hp
  rw [V.wt] at hwt
  have nb := heap_alloc_new w (.cells #[.int .i64 k, .bool b, .int .i64 i, .string s, .slice al l.length cl, .slice am m.length cm] 25)
  have hza := alloc_size w (.cells #[.int .i64 k, .bool b, .int .i64 i, .string s, .slice al l.length cl, .slice am m.length cm] 25)
  have bA : Below w.heap.size w (w.alloc (.cells #[.int .i64 k, .bool b, .int .i64 i, .string s, .slice al l.length cl, .slice am m.length cm] 25)) := (Below.refl _ w).alloc (Nat.le_refl _) _
  have HLm : Hid (∀ W, Below (w.heap.size + 1) (w.alloc (.cells #[.int .i64 k, .bool b, .int .i64 i, .string s, .slice al l.length cl, .slice am m.length cm] 25)) W → liesL R W S l bl ol ∧ liesM R W S m bm om) := fun W hb => by
    have hb' := bA.trans (hb.mono (by omega))
    exact ⟨liesL_keep (fun h => h) (fun x hx => hb'.block x (hS x hx)) (fun _ h => h) _ hl, liesM_keep (fun h => h) (fun x hx => hb'.block x (hS x hx)) (fun _ h => h) _ hm⟩
  have HW : Hid (∀ W, Below (w.heap.size + 1) (w.alloc (.cells #[.int .i64 k, .bool b, .int .i64 i, .string s, .slice al l.length cl, .slice am m.length cm] 25)) W → Below w.heap.size w W) := fun W hb => bA.trans (hb.mono (by omega))
  have HX : Hid (∀ W, Below (w.heap.size + 1) (w.alloc (.cells #[.int .i64 k, .bool b, .int .i64 i, .string s, .slice al l.length cl, .slice am m.length cm] 25)) W → W.heap[w.heap.size]? = some (.cells #[.int .i64 k, .bool b, .int .i64 i, .string s, .slice al l.length cl, .slice am m.length cm] 25)) := fun W hb => (hb.block _ (by omega)).trans nb
  have n0 : (w.alloc (.cells #[.int .i64 k, .bool b, .int .i64 i, .string s, .slice al l.length cl, .slice am m.length cm] 25)).cell? ⟨w.heap.size, 0, none⟩ = some (.int .i64 k) := by rw [cell_of_block nb]; rfl
  have n1 : (w.alloc (.cells #[.int .i64 k, .bool b, .int .i64 i, .string s, .slice al l.length cl, .slice am m.length cm] 25)).cell? ⟨w.heap.size, 1, none⟩ = some (.bool b) := by rw [cell_of_block nb]; rfl
  have n2 : (w.alloc (.cells #[.int .i64 k, .bool b, .int .i64 i, .string s, .slice al l.length cl, .slice am m.length cm] 25)).cell? ⟨w.heap.size, 2, none⟩ = some (.int .i64 i) := by rw [cell_of_block nb]; rfl
  have n3 : (w.alloc (.cells #[.int .i64 k, .bool b, .int .i64 i, .string s, .slice al l.length cl, .slice am m.length cm] 25)).cell? ⟨w.heap.size, 3, none⟩ = some (.string s) := by rw [cell_of_block nb]; rfl
  have HT : Hid (txtV (.mk k b i s l m) = if k = 1 then (if b = true then [116, 114, 117, 101] else [102, 97, 108, 115, 101])
    else if k = 2 then itoa i
    else if k = 3 then Q.qt s.data.toList
    else if k = 4 then 91 :: (joinB (txtL l) ++ [93])
    else if k = 5 then 123 :: (joinB (txtM m) ++ [125])
    else [110, 117, 108, 108]) := hmk (by rw [txtV])
  have oN : OwnB (w.heap.size + 1) (.slice none 0 0) [] (w.alloc (.cells #[.int .i64 k, .bool b, .int .i64 i, .string s, .slice al l.length cl, .slice am m.length cm] 25)) := World.ownsRow_nil _ _ 5 1
  generalize txtV (.mk k b i s l m) = T at *
  clear hk hi hs
  by_cases k1 : k = 1
  · have e : T = (if b = true then [116, 114, 117, 101] else [102, 97, 108, 115, 101]) := HT.out.trans (if_pos k1)
    subst k1
    clear HT
    cases b
    · rw [if_neg (by simp)] at e
      subst e
      go_enter Tryz.func48, Tryz.ntmps48
      go_wp2_with (at_builtin; go_loud (refine wpl_str _ rfl (.tmp 24) _ rfl (w.heap.size + 1) _ [] rfl oN ⟨#[102, 97, 108, 115, 101]⟩ rfl (by simp only [List.length_nil]; (try show 0 + 5 ≤ _); omega) (by omega) ?_))
      intro v' w2 o2 b2
      go_wp2_with fail
      go_ret
      exact ⟨_, rfl, own_le o2 (by omega), HW.out _ b2⟩
    · rw [if_pos rfl] at e
      subst e
      go_enter Tryz.func48, Tryz.ntmps48
      go_wp2_with (at_builtin; go_loud (refine wpl_str _ rfl (.tmp 22) _ rfl (w.heap.size + 1) _ [] rfl oN ⟨#[116, 114, 117, 101]⟩ rfl (by simp only [List.length_nil]; (try show 0 + 4 ≤ _); omega) (by omega) ?_))
      intro v' w2 o2 b2
      go_wp2_with fail
      go_ret
      exact ⟨_, rfl, own_le o2 (by omega), HW.out _ b2⟩
  by_cases k2 : k = 2
  · have e : T = itoa i := HT.out.trans (by rw [if_neg k1, if_pos k2])
    have C := hmk (digits_any i hi64 (w.alloc (.cells #[.int .i64 k, .bool b, .int .i64 i, .string s, .slice al l.length cl, .slice am m.length cm] 25)))
    have hq : (itoa i).length ≤ 21 := itoa_length_le i hi64.1 hi64.2
    rw [← e] at C hq
    subst k2
    clear HT e
    have hq2 : (⟨T.toArray⟩ : ByteArray).size ≤ 21 := by show T.toArray.size ≤ 21; rw [List.size_toArray]; exact hq
    have HD : Hid ((⟨T.toArray⟩ : ByteArray).data.toList = T) := hmk rfl
    unfold StPost at C
    generalize (⟨T.toArray⟩ : ByteArray) = qs at *
    go_enter Tryz.func48, Tryz.ntmps48
    go_wp2_with fail
    refine C.out.mono ?_
    rintro e w1 ⟨rfl, b1⟩
    have hz1 := b1.size
    have o1 := oN.below b1
    go_wp2_with (at_builtin; go_loud (refine wpl_str _ rfl (.tmp 28) (.tmp 31) rfl (w.heap.size + 1) _ [] rfl o1 qs rfl (by simp only [List.length_nil]; omega) (by omega) ?_))
    intro v' w2 o2 b2
    go_wp2_with fail
    go_ret
    rw [HD.out] at o2
    exact ⟨_, rfl, own_le o2 (by omega), HW.out _ ((b1.mono (by omega)).trans b2)⟩
  by_cases k3 : k = 3
  · have e : T = Q.qt s.data.toList := HT.out.trans (by rw [if_neg k1, if_neg k2, if_pos k3])
    have C := hmk (refQuote_good s (w.alloc (.cells #[.int .i64 k, .bool b, .int .i64 i, .string s, .slice al l.length cl, .slice am m.length cm] 25)) (by omega) hv)
    have hq := qt_len s
    rw [← e] at C hq
    subst k3
    clear HT e
    have hq2 : (⟨T.toArray⟩ : ByteArray).size ≤ 6291458 := by show T.toArray.size ≤ _; rw [List.size_toArray]; omega
    have HD : Hid ((⟨T.toArray⟩ : ByteArray).data.toList = T) := hmk rfl
    generalize (⟨T.toArray⟩ : ByteArray) = qs at *
    go_enter Tryz.func48, Tryz.ntmps48
    go_wp2_with fail
    refine C.out.mono ?_
    rintro e w1 ⟨rfl, b1⟩
    have hz1 := b1.size
    have o1 := oN.below b1
    go_wp2_with (at_builtin; go_loud (refine wpl_str _ rfl (.tmp 41) (.tmp 42) rfl (w.heap.size + 1) _ [] rfl o1 qs rfl (by simp only [List.length_nil]; omega) (by omega) ?_))
    intro v' w2 o2 b2
    go_wp2_with fail
    go_ret
    rw [HD.out] at o2
    exact ⟨_, rfl, own_le o2 (by omega), HW.out _ ((b1.mono (by omega)).trans b2)⟩
  by_cases k4 : k = 4
  · have e : T = 91 :: (joinB (txtL l) ++ [93]) := HT.out.trans (by rw [if_neg k1, if_neg k2, if_neg k3, if_pos k4])
    subst k4
    rw [e]
    exact txt_list l ihl b i s R S al cl bl ol am m.length cm w hal hl hS hpl (by omega)
  by_cases k5 : k = 5
  · have e : T = 123 :: (joinB (txtM m) ++ [125]) := HT.out.trans (by rw [if_neg k1, if_neg k2, if_neg k3, if_neg k4, if_pos k5])
    subst k5
    rw [e]
    exact txt_map m ihm b i s R S al l.length cl am cm bm om w ham hm hS hpm (by omega)
  · obtain rfl : k = 0 := by omega
    have e : T = [110, 117, 108, 108] := HT.out.trans (by rw [if_neg k1, if_neg k2, if_neg k3, if_neg k4, if_neg k5])
    subst e
    clear HT
    go_enter Tryz.func48, Tryz.ntmps48
    go_wp2_with (at_builtin; go_loud (refine wpl_str _ rfl (.tmp 16) _ rfl (w.heap.size + 1) _ [] rfl oN ⟨#[110, 117, 108, 108]⟩ rfl (by simp only [List.length_nil]; (try show 0 + 4 ≤ _); omega) (by omega) ?_))
    intro v' w2 o2 b2
    go_wp2_with fail
    go_ret
    exact ⟨_, rfl, own_le o2 (by omega), HW.out _ b2⟩
set_option maxHeartbeats 1000000 in
set_option maxRecDepth 100000 in
theorem rprint_any (v : V) (depth : Int) (S : Nat → Prop) (cs : List Value) (w : World) (hv : v.lies false w S cs) (hS : ∀ b, S b → b < w.heap.size) (hwt : v.wt ≤ 2147483648) :
    Calls Tryz.prog 33 #[.agg cs.toArray, .int .i64 depth] w (PrPost v depth w) := by
  obtain ⟨k, b, i, s, al, nl, cl, am, nm, cm, rfl⟩ := V.ten hv
  have hb0 := box_row w [.int .i64 k, .bool b, .int .i64 i, .string s, .slice al nl cl, .slice am nm cm] 25
  have hz0 := alloc_size w (.cells #[.int .i64 k, .bool b, .int .i64 i, .string s, .slice al nl cl, .slice am nm cm] 25)
  have B0 : Below w.heap.size w (w.alloc (.cells #[.int .i64 k, .bool b, .int .i64 i, .string s, .slice al nl cl, .slice am nm cm] 25)) := (Below.refl _ _).alloc (Nat.le_refl _) _
  have HV : Hid (∀ W, Below w.heap.size w W → v.lies false W S [.int .i64 k, .bool b, .int .i64 i, .string s, .slice al nl cl, .slice am nm cm] ∧ (∀ b, S b → b < W.heap.size) ) := fun W hb => ⟨V.lies_keep (fun h => h) (fun x hx => hb.block x (hS x hx)) (fun _ h => h) _ hv, fun x hx => Nat.lt_of_lt_of_le (hS x hx) hb.size⟩
  have HP : Hid (chkE v depth = 0 → prV v ∧ v.wt ≤ 1114112 ∧ (txtV v).length + 5 ≤ 40 * v.wt) := fun h => by
    obtain ⟨h1, h2⟩ := chkE_pr h hv
    exact ⟨h1, h2, txtV_len v h1⟩
  have HF : Hid (prF v depth = if chkE v depth ≠ 0 then (chkE v depth, []) else if 1048576 < (txtV v).length then (30, []) else (0, txtV v)) := rfl
  clear hv hS
  go_enter Tryz.func33, Tryz.ntmps33
  go_wp2_with fail
  generalize (w.alloc (.cells #[.int .i64 k, .bool b, .int .i64 i, .string s, .slice al nl cl, .slice am nm cm] 25)) = w0 at *
  refine (rcheck_any false v depth S _ w0 (HV.out w0 B0).1 (HV.out w0 B0).2 (by omega)).mono ?_
  rintro e w1 ⟨rfl, b1⟩
  have hz1 := b1.size
  have B1 := B0.trans (b1.mono (by omega))
  obtain ⟨d0, d1, d2, d3, d4, d5⟩ := row6z (hb0.keep (b1.block _ (by omega)))
  clear hb0
  obtain ⟨F, hFE⟩ : ∃ F, prF v depth = F := ⟨_, rfl⟩
  have HFE : Hid (prF v depth = F) := hFE
  rw [hFE] at HF
  clear hFE
  generalize chkE v depth = r at *
  by_cases hr : r = 0
  · subst hr
    obtain ⟨hp, hw, htl⟩ := HP.out rfl
    have CA := hmk (txt_any v false S _ w1 (HV.out w1 B1).1 (HV.out w1 B1).2 hp hw)
    have HF2 : Hid (F = if 1048576 < (txtV v).length then (30, []) else (0, txtV v)) := hmk (by rw [HF.out, if_neg (by simp)])
    clear HF HP
    generalize txtV v = T at *
    go_wp2_with fail
    refine CA.out.mono ?_
    rintro e w2 ⟨bv, rfl, o2, b2⟩
    have hz2 := b2.size
    have B2 := B1.trans (b2.mono (by omega))
    obtain ⟨a, c, rfl⟩ := own_slice o2
    clear d0 d1 d2 d3 d4 d5 CA
    by_cases hT : 1048576 < T.length
    · have y1 : (T.length : Int) > 1048576 := by omega
      have y2 : (1048576 : Int) < T.length := by omega
      have e : F = (30, []) := HF2.out.trans (if_pos hT)
      subst e
      clear HF2 hT
      go_wp2_with fail
      go_ret2
      exact ⟨_, w2.heap.size, by rw [HFE.out]; rfl, by rw [HFE.out]; exact own_none _ _, by omega, B2⟩
    · have y1 : ¬ (T.length : Int) > 1048576 := by omega
      have y2 : ¬ (1048576 : Int) < T.length := by omega
      have e : F = (0, T) := HF2.out.trans (if_neg hT)
      subst e
      clear HF2 hT
      go_wp2_with fail
      go_ret2
      exact ⟨_, w1.heap.size, by rw [HFE.out]; rfl, by rw [HFE.out]; exact o2, by omega, B2⟩
  · have y1 : ((r : Int) != 0) = true := by simp [hr]
    have y2 : ¬ (r : Int) = 0 := by omega
    have e : F = (r, []) := HF.out.trans (if_pos hr)
    subst e
    clear HF HP hr
    go_wp2_with fail
    go_ret2
    exact ⟨_, w1.heap.size, by rw [HFE.out]; rfl, by rw [HFE.out]; exact own_none _ _, by omega, B1⟩
end Go.Proofs.YtpmhdcmmlkjjmaaGreatDoor
/- Canon, the program's and the document's. -/
set_option maxRecDepth 100000
namespace Go.Proofs.YtpmhdcmmlkjjmaaGreatDoor
open Go.RowKit Go.Lib
theorem who_good {l : List UInt8} {D F : Nat} {v : V} (h : whoJ l D F = .ok v) (hl : l.length ≤ 1048576) : okD D v 0 ∧ (chkV D v 0 (0, 0, 0)).1 = 0 ∧ (txtV v).length ≤ l.length := by
  cases hv : valJ l D F 0 (blk l 0) 0 with
  | error f => rw [whoJ_val hv] at h; cases h
  | ok x =>
    have h1 := (allJ_le l D F).1 _ _ _ _ (by omega) hv
    have h2 := (allJ_good l D F).1 _ _ _ _ (by omega) hv
    by_cases hb : blk l x.2.1 < l.length
    · rw [whoJ_more hv hb] at h; cases h
    · rw [whoJ_ok hv hb] at h
      cases h
      refine ⟨h2.1, (chk_ok D _ 0 (0, 0, 0) h2.1 ?_ ?_).1, by omega⟩
      · dsimp only; omega
      · dsimp only; omega
/-- a fault has a number -/
theorem quoJ_no0 {l : List UInt8} {k : Nat} {f : Flt} (h : quoJ l k = .error f) : f.2 ≠ 0 := by
  unfold quoJ at h
  split at h
  · cases h
  · rename_i h0; cases h; exact h0
theorem mustJ_no0 {l : List UInt8} {k : Nat} {c : UInt8} {f : Flt} (h : mustJ l k c = .error f) : f.2 ≠ 0 := by
  rw [mustJ] at h
  split at h
  · cases h; simp
  · split at h
    · cases h
    · cases h; simp
theorem wordJ_no0 {l : List UInt8} {f : Flt} : ∀ {p : List UInt8} {k : Nat}, wordJ l k p = .error f → f.2 ≠ 0
  | [], k, h => by rw [wordJ] at h; cases h
  | c :: p, k, h => by
    rw [wordJ] at h
    cases hm : mustJ l k c with
    | error f => rw [hm] at h; cases h; exact mustJ_no0 hm
    | ok k1 => rw [hm] at h; exact wordJ_no0 h
theorem goesJ_no0 {l : List UInt8} {k : Nat} {c : UInt8} {f : Flt} (h : goesJ l k c = .error f) : f.2 ≠ 0 := by
  rw [goesJ] at h
  split at h
  · cases h
  · split at h
    · cases h
    · rename_i g hm; cases h; exact mustJ_no0 hm
theorem keyJ_no0 {l : List UInt8} {k : Nat} {ks : List (List UInt8)} {f : Flt} (h : keyJ l k ks = .error f) : f.2 ≠ 0 := by
  rcases Nat.lt_or_ge k l.length with hk | hk
  · by_cases e : l[k] = 34
    · cases hq : quoJ l k with
      | error f => rw [keyJ_quo hk e hq] at h; cases h; exact quoJ_no0 hq
      | ok x =>
        obtain ⟨x, k1⟩ := x
        by_cases hx : x.data.toList ∈ ks
        · rw [keyJ_twice hk e hq hx] at h; cases h; simp
        · cases hm : mustJ l (blk l k1) 58 with
          | error f => rw [keyJ_colon hk e hq hx hm] at h; cases h; exact mustJ_no0 hm
          | ok k2 => rw [keyJ_ok hk e hq hx hm] at h; cases h
    · rw [keyJ_byte hk e] at h; cases h; simp
  · rw [keyJ_end hk] at h; cases h; simp
theorem entJ_no0 {c : UInt8} {D n o k : Nat} {f : Flt} (h : entJ c D n o k = .error f) : f.2 ≠ 0 := by
  unfold entJ at h
  split at h
  · cases h; simp
  · split at h
    · cases h; simp
    · split at h
      · cases h; simp
      · cases h
theorem numJ_no0 {l : List UInt8} {k : Nat} {f : Flt} (h : numJ l k = .error f) : f.2 ≠ 0 := by
  rw [numJ] at h
  split at h
  · cases h
  · cases h; simp
theorem allJ_no0 (l : List UInt8) (D : Nat) : ∀ F : Nat,
    (∀ o k n f, n ≤ 65536 → k ≤ l.length → 2 * (l.length - k) + 1 ≤ F → valJ l D F o k n = .error f → f.2 ≠ 0) ∧
    (∀ o more k n acc f, n ≤ 65536 → k ≤ l.length → 2 * (l.length - k) + 2 ≤ F → lisJ l D F o more k n acc = .error f → f.2 ≠ 0) ∧
    (∀ o more k n acc f, n ≤ 65536 → k ≤ l.length → 2 * (l.length - k) + 2 ≤ F → memJ l D F o more k n acc = .error f → f.2 ≠ 0)
  | 0 => by
    refine ⟨?_, ?_, ?_⟩
    · intro o k n f _ _ h; omega
    · intro o more k n acc f _ _ h; omega
    · intro o more k n acc f _ _ h; omega
  | F + 1 => by
    obtain ⟨hV, hL, hM⟩ := allJ_no0 l D F
    obtain ⟨lV, lL, lM⟩ := allJ_le l D F
    refine ⟨?_, ?_, ?_⟩
    · intro o k n f hn hk hF h
      rcases Nat.lt_or_ge k l.length with hk | hk
      · cases he : entJ l[k] D n o k with
        | error e => rw [valJ_ent hk he] at h; cases h; exact entJ_no0 he
        | ok n1 =>
          rw [valJ_in hk he] at h
          obtain ⟨_, hn1, _⟩ := entJ_le hn he
          unfold swJ at h
          split at h
          · cases hw : wordJ l k [110, 117, 108, 108] with
            | error e => rw [hw] at h; cases h; exact wordJ_no0 hw
            | ok k1 => rw [hw] at h; cases h
          · split at h
            · cases hw : wordJ l k [116, 114, 117, 101] with
              | error e => rw [hw] at h; cases h; exact wordJ_no0 hw
              | ok k1 => rw [hw] at h; cases h
            · split at h
              · cases hw : wordJ l k [102, 97, 108, 115, 101] with
                | error e => rw [hw] at h; cases h; exact wordJ_no0 hw
                | ok k1 => rw [hw] at h; cases h
              · split at h
                · cases hw : quoJ l k with
                  | error e => rw [hw] at h; cases h; exact quoJ_no0 hw
                  | ok y => rw [hw] at h; cases h
                · split at h
                  · have hb := begunJ_le (c := 93) hk
                    cases hw : lisJ l D F (o + 1) (begunJ l k 93).1 (begunJ l k 93).2 n1 [] with
                    | error e => rw [hw] at h; cases h; exact hL _ _ _ _ _ _ hn1 hb.2 (by omega) hw
                    | ok y => rw [hw] at h; cases h
                  · split at h
                    · have hb := begunJ_le (c := 125) hk
                      cases hw : memJ l D F (o + 1) (begunJ l k 125).1 (begunJ l k 125).2 n1 [] with
                      | error e => rw [hw] at h; cases h; exact hM _ _ _ _ _ _ hn1 hb.2 (by omega) hw
                      | ok y => rw [hw] at h; cases h
                    · cases hw : numJ l k with
                      | error e => rw [hw] at h; cases h; exact numJ_no0 hw
                      | ok y => rw [hw] at h; cases h
      · rw [valJ_end hk] at h; cases h; simp
    · intro o more k n acc f hn hk hF h
      cases more with
      | false => rw [lisJ_end] at h; cases h
      | true =>
        cases hv : valJ l D F o k n with
        | error e => rw [lisJ_val hv] at h; cases h; exact hV _ _ _ _ hn hk (by omega) hv
        | ok y =>
          have h1 := lV _ _ _ _ hn hv
          cases hg : goesJ l y.2.1 93 with
          | error e => rw [lisJ_goes hv hg] at h; cases h; exact goesJ_no0 hg
          | ok z =>
            rw [lisJ_on hv hg] at h
            have h2 := goesJ_le h1.2.1 hg
            exact hL _ _ _ _ _ _ h1.2.2 h2.2 (by omega) h
    · intro o more k n acc f hn hk hF h
      cases more with
      | false => rw [memJ_end] at h; cases h
      | true =>
        cases hq : keyJ l k (acc.map fun x => x.1.data.toList) with
        | error e => rw [memJ_key hq] at h; cases h; exact keyJ_no0 hq
        | ok q =>
          have h0 := keyJ_in hq
          cases hv : valJ l D F o q.2 n with
          | error e => rw [memJ_val hq hv] at h; cases h; exact hV _ _ _ _ hn h0.2.1 (by omega) hv
          | ok y =>
            have h1 := lV _ _ _ _ hn hv
            cases hg : goesJ l y.2.1 125 with
            | error e => rw [memJ_goes hq hv hg] at h; cases h; exact goesJ_no0 hg
            | ok z =>
              rw [memJ_on hq hv hg] at h
              have h2 := goesJ_le h1.2.1 hg
              exact hM _ _ _ _ _ _ h1.2.2 h2.2 (by omega) h
theorem who_no {l : List UInt8} {D : Nat} {f : Flt} (h : whoJ l D (2 * l.length + 1) = .error f) : f.2 ≠ 0 := by
  have hb := blk_le (l := l) (k := 0) (Nat.zero_le _)
  cases hv : valJ l D (2 * l.length + 1) 0 (blk l 0) 0 with
  | error g => rw [whoJ_val hv] at h; cases h; exact (allJ_no0 l D _).1 _ _ _ _ (by omega) hb.2 (by omega) hv
  | ok x =>
    by_cases hm : blk l x.2.1 < l.length
    · rw [whoJ_more hv hm] at h; cases h; simp
    · rw [whoJ_ok hv hm] at h; cases h
theorem par_good {l : List UInt8} {z : Int} (h : (parJ l z).2.2 = 0) : 0 ≤ z ∧ z ≤ 40 ∧ l.length ≤ 1048576 ∧ (parJ l z).2.1 = -1 ∧ okD z.toNat (parJ l z).1 0 ∧ chkE (parJ l z).1 z = 0 ∧ (txtV (parJ l z).1).length ≤ l.length := by
  by_cases h1 : z < 0 ∨ 40 < z
  · rw [parJ_arg h1] at h; cases h
  · by_cases h2 : 1048576 < l.length
    · rw [parJ_long h1 h2] at h; cases h
    · cases hw : whoJ l z.toNat (2 * l.length + 1) with
      | error f =>
        rw [parJ_bad h1 h2 hw] at h
        exfalso
        exact who_no hw (by simpa using h)
      | ok v =>
        have hg := who_good hw (by omega)
        rw [parJ_ok h1 h2 hw]
        exact ⟨by omega, by omega, by omega, rfl, hg.1, by rw [chkE, if_neg h1]; exact hg.2.1, hg.2.2⟩
/-- what Canon answers -/
def canJ (l : List UInt8) : List UInt8 × Int × Int := if (parJ l 32).2.2 = 0 then (txtV (parJ l 32).1, -1, 0) else ([], (parJ l 32).2.1, (parJ l 32).2.2)
def CaP (R : List UInt8 × Int × Int) (w : World) (e : Ending) (w' : World) : Prop := ∃ bv, e = .returned (.tuple #[bv, .int .i64 R.2.1, .int .i64 R.2.2]) ∧ Byt w' bv R.1 ∧ Below w.heap.size w w'
theorem byt_nil (w : World) : Byt w (.slice none 0 0) [] := ⟨none, 0, 0, 0, rfl, headed_nil, fun j hj => by simp at hj⟩
theorem byt_ownB {w : World} {B : Nat} {v : Value} {l : List UInt8} (h : OwnB B v l w) : Byt w v l := byt_own h rfl
set_option maxHeartbeats 8000000 in
theorem canon_any (l : List UInt8) (v : Value) (w : World) (hb : Byt w v l) (t : Td w) (td : Tdl w) (hl : l.length ≤ 140737488355328) : Calls Tryz.prog 17 #[v] w (CaP (canJ l) w) := by
  have CP := hmk (parse_any l v 32 w hb.bys t ⟨by omega, by omega⟩ hl)
  have HG : Hid ((parJ l 32).2.2 = 0 → chkE (parJ l 32).1 32 = 0) := fun h => (par_good h).2.2.2.2.2.1
  have HC : Hid (canJ l = if (parJ l 32).2.2 = 0 then (txtV (parJ l 32).1, -1, 0) else ([], (parJ l 32).2.1, (parJ l 32).2.2)) := rfl
  obtain ⟨va, vn, vc, rfl⟩ : ∃ a n c, v = .slice a n c := by
    obtain ⟨ao, cap, b, o, rfl, _⟩ := hb
    exact ⟨_, _, _, rfl⟩
  clear hb t
  generalize parJ l 32 = R at *
  obtain ⟨X, at_, er⟩ := R
  dsimp only at *
  go_enter Tryz.func17, Tryz.ntmps17
  go_wp2_with fail
  refine CP.out.mono ?_
  rintro e w1 ⟨cs, rfl, hl1, b1⟩
  dsimp only at hl1
  have HL1 := hmk hl1
  obtain ⟨k, b, i, s, al, nl, cl, am, nm, cm, rfl⟩ := V.ten hl1
  clear hl1 CP
  have bA : Below w1.heap.size w1 (w1.alloc (.cells #[.int .i64 k, .bool b, .int .i64 i, .string s, .slice al nl cl, .slice am nm cm] 25)) := (Below.refl _ _).alloc (Nat.le_refl _) _
  have z1 := b1.size
  have za := alloc_size w1 (.cells #[.int .i64 k, .bool b, .int .i64 i, .string s, .slice al nl cl, .slice am nm cm] 25)
  have BA := b1.trans (bA.mono z1)
  have HBA := hmk BA
  by_cases h0 : er = 0
  · subst h0
    have HE : Hid (canJ l = (txtV X, -1, 0)) := by show _ = _; rw [HC.out, if_pos rfl]
    have hch := HG.out rfl
    obtain ⟨hpr, hwt⟩ := chkE_pr hch HL1.out
    have HLA : Hid (X.lies false (w1.alloc (.cells #[.int .i64 k, .bool b, .int .i64 i, .string s, .slice al nl cl, .slice am nm cm] 25)) (New w w1) [.int .i64 k, .bool b, .int .i64 i, .string s, .slice al nl cl, .slice am nm cm]) := V.lies_keep (fun h => h) (fun x hx => bA.block x hx.2) (fun _ h => h) _ HL1.out
    have tdA := td.below BA (by have := td.z; omega) BA.size
    have CA := hmk (appval_any X false (New w w1) _ w1.heap.size (.slice none 0 0) [] (w1.alloc (.cells #[.int .i64 k, .bool b, .int .i64 i, .string s, .slice al nl cl, .slice am nm cm] 25)) HLA.out (fun x hx => hx.2) tdA (by have := td.z; omega) (by omega) (World.ownsRow_nil _ _ 5 1) hpr hwt (by simp only [List.length_nil]; omega))
    rw [List.nil_append] at CA
    have N8 := heap_alloc_new w1 (.cells #[.int .i64 k, .bool b, .int .i64 i, .string s, .slice al nl cl, .slice am nm cm] 25)
    have a0 := cell_of_block N8 0
    have a1 := cell_of_block N8 1
    have a2 := cell_of_block N8 2
    have a3 := cell_of_block N8 3
    have a4 := cell_of_block N8 4
    have a5 := cell_of_block N8 5
    simp only [List.getElem?_toArray, List.getElem?_cons_zero, List.getElem?_cons_succ] at a0 a1 a2 a3 a4 a5
    clear HC HG hch hpr HL1 tdA td N8 bA BA HLA
    go_wp2_with fail
    refine CA.out.mono ?_
    rintro e w2 ⟨bv, rfl, ho, b2⟩
    have HB := hmk (byt_ownB ho)
    have HW : Hid (Below w.heap.size w w2) := HBA.out.trans (b2.mono z1)
    clear ho b2
    go_wp2_with fail
    go_ret3
    rw [HE.out]
    exact ⟨_, rfl, HB.out, HW.out⟩
  · have HE : Hid (canJ l = ([], at_, er)) := by show _ = _; rw [HC.out, if_neg h0]
    have y0 : (er != 0) = true := by rw [bne_iff_ne]; exact h0
    clear HC HG HL1 td bA BA
    go_wp2_with fail
    go_ret3
    rw [HE.out]
    exact ⟨_, rfl, byt_nil _, HBA.out⟩
set_option maxHeartbeats 8000000 in
theorem dcanon_any (l : List UInt8) (v : Value) (w : World) (hb : Byt w v l) (hl : l.length ≤ 140737488355328) : Calls Tryz.prog 23 #[v] w (CaP (canJ l) w) := by
  have CP := hmk (dparse_any l v 32 w hb.bys ⟨by omega, by omega⟩ hl)
  have HG : Hid ((parJ l 32).2.2 = 0 → chkE (parJ l 32).1 32 = 0 ∧ (txtV (parJ l 32).1).length ≤ 1048576) := fun h => ⟨(par_good h).2.2.2.2.2.1, Nat.le_trans (par_good h).2.2.2.2.2.2 (par_good h).2.2.1⟩
  have HC : Hid (canJ l = if (parJ l 32).2.2 = 0 then (txtV (parJ l 32).1, -1, 0) else ([], (parJ l 32).2.1, (parJ l 32).2.2)) := rfl
  obtain ⟨va, vn, vc, rfl⟩ : ∃ a n c, v = .slice a n c := by
    obtain ⟨ao, cap, b, o, rfl, _⟩ := hb
    exact ⟨_, _, _, rfl⟩
  clear hb
  generalize parJ l 32 = R at *
  obtain ⟨X, at_, er⟩ := R
  dsimp only at *
  go_enter Tryz.func23, Tryz.ntmps23
  go_wp2_with fail
  refine CP.out.mono ?_
  rintro e w1 ⟨cs, rfl, hl1, b1⟩
  dsimp only at hl1
  have HL1 := hmk hl1
  obtain ⟨k, b, i, s, al, nl, cl, am, nm, cm, rfl⟩ := V.ten hl1
  clear hl1 CP
  have bA : Below w1.heap.size w1 (w1.alloc (.cells #[.int .i64 k, .bool b, .int .i64 i, .string s, .slice al nl cl, .slice am nm cm] 25)) := (Below.refl _ _).alloc (Nat.le_refl _) _
  have z1 := b1.size
  have za := alloc_size w1 (.cells #[.int .i64 k, .bool b, .int .i64 i, .string s, .slice al nl cl, .slice am nm cm] 25)
  have BA := b1.trans (bA.mono z1)
  have HBA := hmk BA
  by_cases h0 : er = 0
  · subst h0
    have HE : Hid (canJ l = (txtV X, -1, 0)) := by show _ = _; rw [HC.out, if_pos rfl]
    have hch := HG.out rfl
    obtain ⟨hpr, hwt⟩ := chkE_pr hch.1 HL1.out
    have HPF : Hid (prF X 32 = (0, txtV X)) := by show _ = _; rw [prF, if_neg (by simp [hch.1]), if_neg (by omega)]
    have CA := hmk (rprint_any X 32 (New w w1) _ (w1.alloc (.cells #[.int .i64 k, .bool b, .int .i64 i, .string s, .slice al nl cl, .slice am nm cm] 25)) (V.lies_keep (fun h => h) (fun x hx => bA.block x hx.2) (fun _ h => h) _ HL1.out) (fun x hx => by rw [za]; have := hx.2; omega) (by omega))
    have N8 := heap_alloc_new w1 (.cells #[.int .i64 k, .bool b, .int .i64 i, .string s, .slice al nl cl, .slice am nm cm] 25)
    have a0 := cell_of_block N8 0
    have a1 := cell_of_block N8 1
    have a2 := cell_of_block N8 2
    have a3 := cell_of_block N8 3
    have a4 := cell_of_block N8 4
    have a5 := cell_of_block N8 5
    simp only [List.getElem?_toArray, List.getElem?_cons_zero, List.getElem?_cons_succ] at a0 a1 a2 a3 a4 a5
    unfold PrPost at CA
    rw [HPF.out] at CA
    clear HC HG hch hpr HL1 N8 bA BA
    go_wp2_with fail
    refine CA.out.mono ?_
    rintro e w2 ⟨bv, B, rfl, ho, _, b2⟩
    have HB := hmk (byt_ownB ho)
    have HW : Hid (Below w.heap.size w w2) := HBA.out.trans (b2.mono (by omega))
    clear ho b2
    go_wp2_with fail
    go_ret3
    rw [HE.out]
    exact ⟨_, rfl, HB.out, HW.out⟩
  · have HE : Hid (canJ l = ([], at_, er)) := by show _ = _; rw [HC.out, if_neg h0]
    have y0 : (er != 0) = true := by rw [bne_iff_ne]; exact h0
    clear HC HG HL1 bA BA
    go_wp2_with fail
    go_ret3
    rw [HE.out]
    exact ⟨_, rfl, byt_nil _, HBA.out⟩
end Go.Proofs.YtpmhdcmmlkjjmaaGreatDoor
