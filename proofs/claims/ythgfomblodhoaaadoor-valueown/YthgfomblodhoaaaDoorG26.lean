/- joined: MpfA FndA -/
import Derived.Test.YthgfomblodhoaaaDoorG24
/- value.mapOf. -/
set_option linter.unusedSimpArgs false
set_option linter.unusedVariables false
namespace Go.Proofs.YthgfomblodhoaaaDoor
open Go.RowKit Go.Lib
theorem entF_wt {D n y d lv : Nat} {g : Bool} {z : Nat} (h : (entF D n y d lv g z).1 = 0) : (entF D n y d lv g z).2.1 + (entF D n y d lv g z).2.2.1 = n + y + 1 + z := by
  unfold entF at *
  split at h
  · simp at h
  split at h
  · simp at h
  split at h
  · simp at h
  split at h
  · simp at h
  · rename_i h1 h2 h3 h4
    rw [if_neg h1, if_neg h2, if_neg h3, if_neg h4]
    show n + 1 + (y + z) = _
    omega
mutual
theorem chkV_wt (D : Nat) : ∀ (v : V) (lv : Nat) (st : St), (chkV D v lv st).1 = 0 → (chkV D v lv st).2.1 + (chkV D v lv st).2.2.1 = st.1 + st.2.1 + v.wt
  | .mk k b i s l m, lv, st, h => by
    rw [chkV] at h ⊢
    by_cases h1 : (entF D st.1 st.2.1 st.2.2 lv (goodB k b i s l.length m) (s.size + keyB m)).1 = 0
    · have e1 := entF_wt h1
      simp only [h1, if_true] at h ⊢
      by_cases h2 : (chkL D l (lv + 1) (entF D st.1 st.2.1 st.2.2 lv (goodB k b i s l.length m) (s.size + keyB m)).2).1 = 0
      · simp only [h2, if_true] at h ⊢
        have a1 := chkM_wt D m (lv + 1) _ h
        have a2 := chkL_wt D l (lv + 1) _ h2
        rw [V.wt]
        omega
      · simp only [h2, if_false] at h
    · simp only [h1, if_false] at h
theorem chkL_wt (D : Nat) : ∀ (l : List V) (lv : Nat) (st : St), (chkL D l lv st).1 = 0 → (chkL D l lv st).2.1 + (chkL D l lv st).2.2.1 = st.1 + st.2.1 + wtL l
  | [], lv, st, h => by rw [chkL, wtL]; rfl
  | x :: t, lv, st, h => by
    rw [chkL] at h ⊢
    by_cases h1 : (chkV D x lv st).1 = 0
    · rw [if_pos h1] at h ⊢
      have a1 := chkL_wt D t lv _ h
      have a2 := chkV_wt D x lv st h1
      rw [wtL]
      omega
    · rw [if_neg h1] at h
      exact absurd h h1
theorem chkM_wt (D : Nat) : ∀ (l : List Mem) (lv : Nat) (st : St), (chkM D l lv st).1 = 0 → (chkM D l lv st).2.1 + (chkM D l lv st).2.2.1 + keyB l = st.1 + st.2.1 + wtM l
  | [], lv, st, h => by rw [chkM, wtM, keyB]
  | (k, x) :: t, lv, st, h => by
    rw [chkM] at h ⊢
    by_cases h1 : (chkV D x lv st).1 = 0
    · rw [if_pos h1] at h ⊢
      have a1 := chkM_wt D t lv _ h
      have a2 := chkV_wt D x lv st h1
      simp only [wtM, keyB]
      omega
    · rw [if_neg h1] at h
      exact absurd h h1
end
theorem wt_of_chk {v : V} (h : (chkV 40 v 0 (0, 0, 0)).1 = 0) : v.wt ≤ 1114112 := by
  have a1 := chkV_wt 40 v 0 (0, 0, 0) h
  have a2 := chkV_bnd 40 v 0 (0, 0, 0) ⟨by simp, by simp, by simp⟩ h
  have a3 := a2.n
  have a4 := a2.y
  simp only at a1
  omega
/-- a value and an error's number -/
def VePost (v : V) (r : Nat) (w : World) (e : Ending) (w' : World) : Prop := ∃ cs : List Value, e = .returned (.tuple #[.agg cs.toArray, .int .i64 (r : Int)]) ∧ v.lies false w' (New w w') cs ∧ Below w.heap.size w w'
def mapE (l : List Mem) : Nat := chkE (V.mk 5 false 0 ⟨#[]⟩ [] l) 40
def mapV (l : List Mem) : V := if mapE l = 0 then (V.mk 5 false 0 ⟨#[]⟩ [] l) else nullV
set_option maxHeartbeats 1600000 in
set_option maxRecDepth 100000 in
theorem mapOf_wide (l : List Mem) (R : Bool) (S : Nat → Prop) (am : Option Addr) (cm bm om : Nat) (w : World) (tb : Tb w) (ham : Headed am l.length cm bm om) (hl : liesM false w S l bm om) (hS : ∀ b, S b → b < w.heap.size) (hwt : wtM l ≤ 281474976000000) :
    Calls Tryd.prog 35 #[.slice am l.length cm] w (VePost (mapV l) (mapE l) w) := by
  have hz2 : ((w.alloc (.cells #[.int .i64 0, .bool false, .int .i64 0, .string ⟨#[]⟩, .slice none 0 0, .slice none 0 0] 25)).alloc (.cells #[.int .i64 5, .bool false, .int .i64 0, .string ⟨#[]⟩, .slice none 0 0, .slice am l.length cm] 25)).heap.size = w.heap.size + 2 := by rw [alloc_size, alloc_size]
  have B0 : Below w.heap.size w ((w.alloc (.cells #[.int .i64 0, .bool false, .int .i64 0, .string ⟨#[]⟩, .slice none 0 0, .slice none 0 0] 25)).alloc (.cells #[.int .i64 5, .bool false, .int .i64 0, .string ⟨#[]⟩, .slice none 0 0, .slice am l.length cm] 25)) := two_below w _ _
  have h0 := alloc2_keep1 w (.cells #[.int .i64 0, .bool false, .int .i64 0, .string ⟨#[]⟩, .slice none 0 0, .slice none 0 0] 25) (.cells #[.int .i64 5, .bool false, .int .i64 0, .string ⟨#[]⟩, .slice none 0 0, .slice am l.length cm] 25)
  have h1 := alloc2_new w (.cells #[.int .i64 0, .bool false, .int .i64 0, .string ⟨#[]⟩, .slice none 0 0, .slice none 0 0] 25) (.cells #[.int .i64 5, .bool false, .int .i64 0, .string ⟨#[]⟩, .slice none 0 0, .slice am l.length cm] 25)
  have HV : Hid (∀ W, Below w.heap.size w W → (V.mk 5 false 0 ⟨#[]⟩ [] l).lies false W S [.int .i64 5, .bool false, .int .i64 0, .string ⟨#[]⟩, .slice none 0 0, .slice am l.length cm] ∧ (∀ b, S b → b < W.heap.size)) := fun W hb => ⟨lies_S (by constructor <;> omega) (by constructor <;> omega) (by decide) headed_nil ham (by rw [liesL]; trivial) (liesM_keep (fun h => h) (fun x hx => hb.block x (hS x hx)) (fun _ h => h) _ hl), fun x hx => Nat.lt_of_lt_of_le (hS x hx) hb.size⟩
  have HB : Hid (∀ W, Below w.heap.size w W → Tb W) := fun W hb => tb.below hb tb.z
  have hwt' : (V.mk 5 false 0 ⟨#[]⟩ [] l).wt ≤ 281474976710656 := by
    have z0 : (⟨#[]⟩ : ByteArray).size = 0 := rfl
    simp only [V.wt, wtL]; omega
  clear hl
  go_enter Tryd.func35, Tryd.ntmps35
  go_wp2_with fail
  generalize ((w.alloc (.cells #[.int .i64 0, .bool false, .int .i64 0, .string ⟨#[]⟩, .slice none 0 0, .slice none 0 0] 25)).alloc (.cells #[.int .i64 5, .bool false, .int .i64 0, .string ⟨#[]⟩, .slice none 0 0, .slice am l.length cm] 25)) = w0 at *
  refine (check_wide false (V.mk 5 false 0 ⟨#[]⟩ [] l) 40 S _ w0 (HB.out w0 B0) (HV.out w0 B0).1 (HV.out w0 B0).2 hwt').mono ?_
  rintro e w1 ⟨rfl, b1⟩
  have hz1 := b1.size
  have B1 := B0.trans (b1.mono (by omega))
  have t0 := (b1.block w.heap.size (by omega)).trans h0
  have t1 := (b1.block (w.heap.size + 1) (by omega)).trans h1
  have r0 : w1.cell? ⟨w.heap.size, 0, none⟩ = some (.int .i64 0) := by rw [cell_of_block t0]; rfl
  have d0 : w1.cell? ⟨w.heap.size + 1, 0, none⟩ = some (.int .i64 5) := by rw [cell_of_block t1]; rfl
  have r1 : w1.cell? ⟨w.heap.size, 1, none⟩ = some (.bool false) := by rw [cell_of_block t0]; rfl
  have d1 : w1.cell? ⟨w.heap.size + 1, 1, none⟩ = some (.bool false) := by rw [cell_of_block t1]; rfl
  have r2 : w1.cell? ⟨w.heap.size, 2, none⟩ = some (.int .i64 0) := by rw [cell_of_block t0]; rfl
  have d2 : w1.cell? ⟨w.heap.size + 1, 2, none⟩ = some (.int .i64 0) := by rw [cell_of_block t1]; rfl
  have r3 : w1.cell? ⟨w.heap.size, 3, none⟩ = some (.string ⟨#[]⟩) := by rw [cell_of_block t0]; rfl
  have d3 : w1.cell? ⟨w.heap.size + 1, 3, none⟩ = some (.string ⟨#[]⟩) := by rw [cell_of_block t1]; rfl
  have r4 : w1.cell? ⟨w.heap.size, 4, none⟩ = some (.slice none 0 0) := by rw [cell_of_block t0]; rfl
  have d4 : w1.cell? ⟨w.heap.size + 1, 4, none⟩ = some (.slice none 0 0) := by rw [cell_of_block t1]; rfl
  have r5 : w1.cell? ⟨w.heap.size, 5, none⟩ = some (.slice none 0 0) := by rw [cell_of_block t0]; rfl
  have d5 : w1.cell? ⟨w.heap.size + 1, 5, none⟩ = some (.slice am l.length cm) := by rw [cell_of_block t1]; rfl
  have rf : ∀ i, w1.frozen? ⟨w.heap.size, i, none⟩ = false := frozen_of_block t0
  have HE : Hid (mapE l = chkE (V.mk 5 false 0 ⟨#[]⟩ [] l) 40) := rfl
  have HWS : Hid (chkE (V.mk 5 false 0 ⟨#[]⟩ [] l) 40 = 0 → (V.mk 5 false 0 ⟨#[]⟩ [] l).wt ≤ 1099511627776) := fun h => by
    have := wt_of_chk (v := V.mk 5 false 0 ⟨#[]⟩ [] l) (by rw [← chkE40]; exact h)
    omega
  generalize chkE (V.mk 5 false 0 ⟨#[]⟩ [] l) 40 = r at *
  by_cases hr0 : r = 0
  · subst hr0
    have HWQ : Hid ((V.mk 5 false 0 ⟨#[]⟩ [] l).wt ≤ 1099511627776) := HWS.out rfl
    clear HWS
    have HF : Hid (mapV l = (V.mk 5 false 0 ⟨#[]⟩ [] l)) := by show _ = _; rw [mapV, if_pos HE.out]
    go_wp2_with fail
    refine (anew_any (V.mk 5 false 0 ⟨#[]⟩ [] l) false S _ w1 (HV.out w1 B1).1 (HV.out w1 B1).2 HWQ.out).mono ?_
    rintro e w2 ⟨csu, rfl, hlu, b2⟩
    obtain ⟨uk, ub, ui, us, ual, unl, ucl, uam, unm, ucm, rfl⟩ := V.ten hlu
    have hz3 := b2.size
    have B2 := B1.trans (b2.mono (by omega))
    have t0' := (b2.block w.heap.size (by omega)).trans t0
    have HU : Hid ((V.mk 5 false 0 ⟨#[]⟩ [] l).lies false w2 (From (w.heap.size + 2) w2) [.int .i64 uk, .bool ub, .int .i64 ui, .string us, .slice ual unl ucl, .slice uam unm ucm]) := V.lies_keep (fun h => h) (fun _ _ => rfl) (fun x hx => ⟨by have := hx.1; omega, hx.2⟩) _ hlu
    clear d0 d1 d2 d3 d4 d5 r0 r1 r2 r3 r4 r5 rf hlu b2 t0 t1 h0 h1
    have r0 : w2.cell? ⟨w.heap.size, 0, none⟩ = some (.int .i64 0) := by rw [cell_of_block t0']; rfl
    have r1 : w2.cell? ⟨w.heap.size, 1, none⟩ = some (.bool false) := by rw [cell_of_block t0']; rfl
    have r2 : w2.cell? ⟨w.heap.size, 2, none⟩ = some (.int .i64 0) := by rw [cell_of_block t0']; rfl
    have r3 : w2.cell? ⟨w.heap.size, 3, none⟩ = some (.string ⟨#[]⟩) := by rw [cell_of_block t0']; rfl
    have r4 : w2.cell? ⟨w.heap.size, 4, none⟩ = some (.slice none 0 0) := by rw [cell_of_block t0']; rfl
    have r5 : w2.cell? ⟨w.heap.size, 5, none⟩ = some (.slice none 0 0) := by rw [cell_of_block t0']; rfl
    have rf : ∀ i, w2.frozen? ⟨w.heap.size, i, none⟩ = false := frozen_of_block t0'
    clear t0'
    go_wp2_with fail
    (try simp only [Exit.inBlock, Exit.then])
    refine bodyPost_ret (v := .tuple #[.agg #[.int .i64 uk, .bool ub, .int .i64 ui, .string us, .slice ual unl ucl, .slice uam unm ucm], .int .i64 0]) ?_ rfl (by rw [HF.out, HE.out]; exact ⟨[.int .i64 uk, .bool ub, .int .i64 ui, .string us, .slice ual unl ucl, .slice uam unm ucm], rfl, V.lies_keep (fun h => h) (fun _ _ => rfl) (fun x hx => ⟨by have := hx.1; omega, hx.2⟩) _ (lies_set6A HU.out (show w.heap.size < w.heap.size + 2 by omega) _ _ _ _ _ _ _ _ _ _ _ _), Below.set6 B2 (Nat.le_refl _) _ _ _ _ _ _ _ _ _ _ _ _⟩)
    rw [results_cell_tmp rfl]
    go_simp
  · have HF : Hid (mapV l = nullV) := by show _ = _; rw [mapV, if_neg (by rw [HE.out]; exact hr0)]
    have y1 : ¬ (r : Int) = 0 := by omega
    clear t0 t1 h0 h1
    go_wp2_with fail
    (try simp only [Exit.inBlock, Exit.then])
    refine bodyPost_ret (v := .tuple #[.agg #[.int .i64 0, .bool false, .int .i64 0, .string ⟨#[]⟩, .slice none 0 0, .slice none 0 0], .int .i64 (r : Int)]) ?_ rfl (by rw [HF.out, HE.out]; exact ⟨[.int .i64 0, .bool false, .int .i64 0, .string ⟨#[]⟩, .slice none 0 0, .slice none 0 0], rfl, null_lies _ _, Below.set6 B1 (Nat.le_refl _) _ _ _ _ _ _ _ _ _ _ _ _⟩)
    rw [results_cell_tmp rfl]
    go_simp
end Go.Proofs.YthgfomblodhoaaaDoor
/- slices.BinarySearchFunc over members, value.find. -/
namespace Go.Proofs.YthgfomblodhoaaaDoor
open Go.RowKit Go.Lib
set_option maxHeartbeats 1000000 in
set_option maxRecDepth 100000 in
theorem findcmp_any (k key : ByteArray) (cs : List Value) (w : World) (h6 : ∃ ek eb ei es eal enl ecl eam enm ecm, cs = [.int .i64 ek, .bool eb, .int .i64 ei, .string es, .slice eal enl ecl, .slice eam enm ecm]) :
    Calls Tryd.prog 51 #[.agg (.string k :: cs).toArray, .string key] w (JPost (cmpS k key) w) := by
  obtain ⟨ek, eb, ei, es, eal, enl, ecl, eam, enm, ecm, rfl⟩ := h6
  have B1 : Below w.heap.size w (w.alloc (.cells #[.string k, .int .i64 ek, .bool eb, .int .i64 ei, .string es, .slice eal enl ecl, .slice eam enm ecm] 38)) := (Below.refl _ _).alloc (Nat.le_refl _) _
  have hc := scompare_any k key (w.alloc (.cells #[.string k, .int .i64 ek, .bool eb, .int .i64 ei, .string es, .slice eal enl ecl, .slice eam enm ecm] 38))
  generalize cmpS k key = c at *
  go_enter Tryd.func51, Tryd.ntmps51
  go_wp2_with fail
  refine hc.mono ?_
  rintro e w3 ⟨rfl, b3⟩
  go_wp2_with fail
  go_ret
  exact ⟨rfl, B1.trans (b3.mono B1.size)⟩
/-- where a key stands, or would -/
def posF (l : List Mem) (key : ByteArray) : Nat := (l.filter (lessKey key)).length
theorem pos_le (l : List Mem) (key : ByteArray) : posF l key ≤ l.length := List.length_filter_le _ _
theorem pos_less {l : List Mem} {key : ByteArray} (h : Srt l) {t : Nat} (ht : t < l.length) : ltB (l[t]).1 key = decide (t < posF l key) := by
  have hf := srt_filter (key := key) h
  have hle := pos_le l key
  change _ = decide (t < posF l key)
  by_cases hp : t < posF l key
  · rw [decide_eq_true hp]
    have hm : l[t] ∈ l.filter (lessKey key) := by
      rw [hf.1]
      have : (l.take (l.filter (lessKey key)).length)[t]? = some l[t] := by
        rw [List.getElem?_take, if_pos (show t < (l.filter (lessKey key)).length from hp), List.getElem?_eq_getElem ht]
      exact List.mem_of_getElem? this
    exact (List.mem_filter.1 hm).2
  · rw [decide_eq_false hp]
    refine hf.2 l[t] ?_
    have : (l.drop (l.filter (lessKey key)).length)[t - posF l key]? = some l[t] := by
      rw [List.getElem?_drop, show (l.filter (lessKey key)).length + (t - posF l key) = t from by have : posF l key = (l.filter (lessKey key)).length := rfl; omega, List.getElem?_eq_getElem ht]
    exact List.mem_of_getElem? this
set_option maxHeartbeats 1000000 in
set_option maxRecDepth 100000 in
theorem search_any (l : List Mem) (key : ByteArray) (R : Bool) (S : Nat → Prop) (am : Option Addr) (cm bm om : Nat) (w : World) (ham : Headed am l.length cm bm om) (hl : liesM R w S l bm om) (hS : ∀ b, S b → b < w.heap.size) (hs : Srt l) (hn : l.length ≤ 1099511627776) :
    Calls Tryd.prog 50 #[.slice am l.length cm, .string key, .func (.func 51) #[] #[]] w (fun e w' => e = .returned (.tuple #[.int .i64 (posF l key : Int), .bool (keyIs key l[posF l key]?)]) ∧ Below w.heap.size w w') := by
  have HL : Hid (liesM R w S l bm om) := hl
  clear hl
  have hpl := pos_le l key
  have HP : Hid (∀ t (ht : t < l.length), ltB (l[t]).1 key = decide (t < posF l key)) := fun t ht => pos_less hs ht
  clear hs
  go_enter Tryd.func50, Tryd.ntmps50
  go_wp2_with fail
  go_loopw [9, 10] (fun e9 e10 wr => ∃ i j : Nat, i ≤ posF l key ∧ posF l key ≤ j ∧ j ≤ l.length ∧ e9 = .int .i64 (i : Int) ∧ e10 = .int .i64 (j : Int) ∧ Below w.heap.size w wr) (fun e9 e10 _ => (RowKit.intOf e10).toNat - (RowKit.intOf e9).toNat)
  case atStart => exact ⟨0, l.length, by omega, by omega, by omega, rfl, rfl, Below.refl _ _⟩
  case round =>
    obtain ⟨i, j, hi, hj, hjl, rfl, rfl, bj⟩ := hrel
    by_cases hij : i < j
    · have y1 : (i : Int) < j := by omega
      obtain ⟨h, hh, hh1, hh2⟩ : ∃ h : Nat, ((i : Int) + (j : Int)) / 2 = (h : Int) ∧ i ≤ h ∧ h < j := ⟨(i + j) / 2, by omega, by omega, by omega⟩
      have hhl : h < l.length := by omega
      have y2 : (h : Int) < l.length := by omega
      obtain ⟨hSb, hks, csj, hrow, hlj⟩ := liesM_get HL.out h hhl
      obtain rfl : am = some ⟨bm, om, none⟩ := ham.at_.resolve_left (by omega)
      obtain ⟨ek, eb, ei, es, eal, enl, ecl, eam, enm, ecm, rfl⟩ := V.ten hlj
      have hP := HP.out h hhl
      obtain ⟨ekey, hek⟩ : ∃ ekey, (l[h]).1 = ekey := ⟨_, rfl⟩
      rw [hek] at hrow hP
      obtain ⟨q, q0, q1, q2, q3, q4, q5⟩ := row7 (hrow.keep (bj.block _ (hS _ hSb)))
      have hc := findcmp_any ekey key [.int .i64 ek, .bool eb, .int .i64 ei, .string es, .slice eal enl ecl, .slice eam enm ecm] wr ⟨_, _, _, _, _, _, _, _, _, _, rfl⟩
      have hlt := ltB_cmp ekey key
      have h1 := cmp_one ekey.data.toList key.data.toList
      change cmpS ekey key = -1 ∨ cmpS ekey key = 0 ∨ cmpS ekey key = 1 at h1
      rw [hP] at hlt
      generalize cmpS ekey key = c at *
      clear hrow hlj hP
      by_cases hp : h < posF l key
      · have hcm : c = -1 := hlt.1 (decide_eq_true hp)
        subst hcm
        clear hlt h1
        go_wp2_with fail
        refine hc.mono ?_
        rintro e w3 ⟨rfl, b3⟩
        go_wp2_with fail
        go_roundw
        case rel => exact ⟨h + 1, j, by omega, by omega, by omega, by go_num, rfl, bj.trans (b3.mono bj.size)⟩
        case measure => simp [RowKit.intOf]; omega
      · have hcm : ¬ c = -1 := fun e => hp (of_decide_eq_true (hlt.2 e))
        have y3 : ¬ c < 0 := by omega
        clear hlt h1
        go_wp2_with fail
        refine hc.mono ?_
        rintro e w3 ⟨rfl, b3⟩
        go_wp2_with fail
        go_roundw
        case rel => exact ⟨i, h, by omega, by omega, by omega, rfl, rfl, bj.trans (b3.mono bj.size)⟩
        case measure => simp [RowKit.intOf]; omega
    · have hie : i = posF l key := by omega
      have y1 : ¬ (i : Int) < j := by omega
      by_cases hpos : i < l.length
      · have y2 : (i : Int) < l.length := by omega
        obtain ⟨hSb, hks, csj, hrow, hlj⟩ := liesM_get HL.out i hpos
        obtain rfl : am = some ⟨bm, om, none⟩ := ham.at_.resolve_left (by omega)
        obtain ⟨ek, eb, ei, es, eal, enl, ecl, eam, enm, ecm, rfl⟩ := V.ten hlj
        have HK : Hid (keyIs key l[posF l key]? = ((l[i]).1.toList == key.toList)) := by show _ = _; rw [← hie, List.getElem?_eq_getElem hpos]; rfl
        obtain ⟨ekey, hek⟩ : ∃ ekey, (l[i]).1 = ekey := ⟨_, rfl⟩
        rw [hek] at hrow HK
        obtain ⟨q, q0, q1, q2, q3, q4, q5⟩ := row7 (hrow.keep (bj.block _ (hS _ hSb)))
        have hc := findcmp_any ekey key [.int .i64 ek, .bool eb, .int .i64 ei, .string es, .slice eal enl ecl, .slice eam enm ecm] wr ⟨_, _, _, _, _, _, _, _, _, _, rfl⟩
        have hz := cmpS_zero ekey key
        have HZ : Hid ((cmpS ekey key == 0) = (ekey.toList == key.toList)) := by show _ = _; rw [Bool.eq_iff_iff, beq_iff_eq, beq_iff_eq]; exact hz
        have HI : Hid (i = posF l key) := hie
        generalize cmpS ekey key = c at *
        clear hrow hlj hz hie
        go_wp2_with fail
        refine hc.mono ?_
        rintro e w3 ⟨rfl, b3⟩
        go_wp2_with fail
        go_ret2
        refine ⟨?_, bj.trans (b3.mono bj.size)⟩
        rw [HK.out, ← HZ.out, ← HI.out]
        rfl
      · have y2 : ¬ (i : Int) < l.length := by omega
        have HK : Hid (keyIs key l[posF l key]? = false) := by show _ = _; rw [← hie, List.getElem?_eq_none (by omega)]; rfl
        have HI : Hid (i = posF l key) := hie
        clear hie
        go_wp2_with fail
        go_ret2
        refine ⟨?_, bj⟩
        rw [HK.out, ← HI.out]
        rfl
set_option maxHeartbeats 1000000 in
set_option maxRecDepth 100000 in
theorem find_any (l : List Mem) (key : ByteArray) (R : Bool) (S : Nat → Prop) (am : Option Addr) (cm bm om : Nat) (w : World) (ham : Headed am l.length cm bm om) (hl : liesM R w S l bm om) (hS : ∀ b, S b → b < w.heap.size) (hs : Srt l) (hn : l.length ≤ 1099511627776) :
    Calls Tryd.prog 36 #[.slice am l.length cm, .string key] w (fun e w' => e = .returned (.tuple #[.int .i64 (posF l key : Int), .bool (keyIs key l[posF l key]?)]) ∧ Below w.heap.size w w') := by
  have hc := search_any l key R S am cm bm om w ham hl hS hs hn
  clear hl
  generalize posF l key = p at *
  generalize keyIs key l[p]? = q at *
  go_enter Tryd.func36, Tryd.ntmps36
  go_wp2_with fail
  refine hc.mono ?_
  rintro e w1 ⟨rfl, b1⟩
  go_wp2_with fail
  go_ret2
  exact ⟨rfl, b1⟩
theorem srt_rise {l : List Mem} (h : riseB l = true) : Srt l := by
  have h0 : ∀ j, j < l.length → okAt l j = true := by
    simpa only [riseB, List.all_eq_true, List.mem_range] using h
  have h1 : ∀ (j : Nat) (hj : j + 1 < l.length), ltB (l[j]).1 (l[j + 1]).1 = true := fun j hj => by
    have := h0 (j + 1) hj
    rw [okAt, keyAt_eq hj, Nat.add_sub_cancel, keyAt_eq (by omega)] at this
    simpa using (Bool.and_eq_true _ _ ▸ this).2
  have h2 : ∀ (d i : Nat) (hd : i + (d + 1) < l.length), ltB (l[i]).1 (l[i + (d + 1)]).1 = true := by
    intro d
    induction d with
    | zero => intro i hd; exact h1 i hd
    | succ d ih =>
      intro i hd
      exact ltB_trans (ih i (by omega)) (h1 (i + (d + 1)) hd)
  refine List.pairwise_iff_getElem.2 fun i j hi hj hij => ?_
  have := h2 (j - i - 1) i (by omega)
  have e : i + (j - i - 1 + 1) = j := by omega
  simp only [e] at this
  exact this
end Go.Proofs.YthgfomblodhoaaaDoor
