import Derived.Test.YtmmlejbebfkojaaDoorRclA
import Derived.Test.YtmmlejbebfkojaaDoorGetA
/- the document's Clone and Get. -/
set_option linter.unusedSimpArgs false
set_option linter.unusedVariables false
namespace Go.Proofs.YtmmlejbebfkojaaDoor
open Go.RowKit Go.Lib
theorem key_is {key : ByteArray} {x : Mem} : keyIs key (some x) = (x.1.toList == key.toList) := rfl
theorem at_hit {m : List Mem} {key : ByteArray} (h : Srt m) {j : Nat} (hj : j < m.length) (he : (m[j]).1.toList = key.toList) : atKey m key = ((m[j]).2, true) := by
  have h1 := pos_less (key := key) h hj
  have h0 : ltB (m[j]).1 key = false := by
    rw [Bool.eq_false_iff]
    intro h2
    have h3 := (ltB_cmp _ _).1 h2
    have h4 := (cmpS_zero (m[j]).1 key).2 he
    omega
  rw [h0] at h1
  have h5 : ¬ j < posF m key := by simpa using h1.symm
  have h6 : ∀ t, t < j → t < posF m key := fun t ht => by
    have h7 := pos_less (key := key) h (show t < m.length by omega)
    have h8 : ltB (m[t]).1 (m[j]).1 = true := (List.pairwise_iff_getElem.1 h) t j (by omega) hj ht
    have h9 : ltB (m[t]).1 key = true := by
      rw [ltB_cmp, cmpS, ← toList_data key, ← he, toList_data]
      exact (ltB_cmp _ _).1 h8
    rw [h9] at h7
    simpa using h7.symm
  have hp : posF m key = j := by
    rcases Nat.lt_trichotomy (posF m key) j with h7 | h7 | h7
    · have := h6 _ h7; omega
    · exact h7
    · exact absurd h7 h5
  rw [atKey, hp, List.getElem?_eq_getElem hj, key_is, he, if_pos (by simp), List.getD_eq_getElem?_getD, List.getElem?_eq_getElem hj]
  rfl
theorem at_miss {m : List Mem} {key : ByteArray} (h : ∀ (j : Nat) (hj : j < m.length), ¬ (m[j]).1.toList = key.toList) : atKey m key = (nullV, false) := by
  rw [atKey, if_neg]
  intro h1
  rcases Nat.lt_or_ge (posF m key) m.length with h2 | h2
  · rw [List.getElem?_eq_getElem h2, key_is] at h1
    exact h _ h2 (by simpa using h1)
  · rw [List.getElem?_eq_none h2] at h1
    simp [keyIs] at h1
set_option maxHeartbeats 1600000 in
set_option maxRecDepth 100000 in
theorem rget_any (v : V) (key : ByteArray) (R : Bool) (S : Nat → Prop) (cs : List Value) (w : World) (hv : v.lies R w S cs) (hS : ∀ b, S b → b < w.heap.size) (hwt : v.wt ≤ 2147483648) :
    Calls Tryd.prog 14 #[.agg cs.toArray, .string key] w (GtPost (getV v key) w) := by
  obtain ⟨k, b, i, s, l, m⟩ := v
  have hv0 := hv
  rw [V.lies] at hv
  obtain ⟨al, cl, bl, ol, am, cm, bm, om, rfl, _, _, _, _, ham, _, hm, _⟩ := hv
  have hz2 : ((w.alloc (.cells #[.int .i64 k, .bool b, .int .i64 i, .string s, .slice al l.length cl, .slice am m.length cm] 25)).alloc (.cells #[.int .i64 0, .bool false, .int .i64 0, .string ⟨#[]⟩, .slice none 0 0, .slice none 0 0] 25)).heap.size = w.heap.size + 2 := by rw [alloc_size, alloc_size]
  have B0 : Below w.heap.size w ((w.alloc (.cells #[.int .i64 k, .bool b, .int .i64 i, .string s, .slice al l.length cl, .slice am m.length cm] 25)).alloc (.cells #[.int .i64 0, .bool false, .int .i64 0, .string ⟨#[]⟩, .slice none 0 0, .slice none 0 0] 25)) := two_below w _ _
  have h0 := alloc2_keep1 w (.cells #[.int .i64 k, .bool b, .int .i64 i, .string s, .slice al l.length cl, .slice am m.length cm] 25) (.cells #[.int .i64 0, .bool false, .int .i64 0, .string ⟨#[]⟩, .slice none 0 0, .slice none 0 0] 25)
  have h1 := alloc2_new w (.cells #[.int .i64 k, .bool b, .int .i64 i, .string s, .slice al l.length cl, .slice am m.length cm] 25) (.cells #[.int .i64 0, .bool false, .int .i64 0, .string ⟨#[]⟩, .slice none 0 0, .slice none 0 0] 25)
  have HV : Hid (∀ W, Below w.heap.size w W → (V.mk k b i s l m).lies R W S [.int .i64 k, .bool b, .int .i64 i, .string s, .slice al l.length cl, .slice am m.length cm] ∧ (∀ b, S b → b < W.heap.size)) := fun W hb => ⟨V.lies_keep (fun h => h) (fun x hx => hb.block x (hS x hx)) (fun _ h => h) _ hv0, fun x hx => Nat.lt_of_lt_of_le (hS x hx) hb.size⟩
  have HM : Hid (∀ W, Below w.heap.size w W → liesM R W S m bm om) := fun W hb => liesM_keep (fun h => h) (fun x hx => hb.block x (hS x hx)) (fun _ h => h) _ hm
  have hml : m.length ≤ 2147483648 := by have := wtM_len m; simp only [V.wt] at hwt; omega
  have HW : Hid (∀ j (h : j < m.length), (m[j]).2.wt ≤ 2147483648) := fun j h => by
    have := wtM_mem (List.getElem_mem h : m[j] ∈ m)
    simp only [V.wt] at hwt; omega
  have d0 : ((w.alloc (.cells #[.int .i64 k, .bool b, .int .i64 i, .string s, .slice al l.length cl, .slice am m.length cm] 25)).alloc (.cells #[.int .i64 0, .bool false, .int .i64 0, .string ⟨#[]⟩, .slice none 0 0, .slice none 0 0] 25)).cell? ⟨w.heap.size, 0, none⟩ = some (.int .i64 k) := by rw [cell_of_block h0]; rfl
  have d1 : ((w.alloc (.cells #[.int .i64 k, .bool b, .int .i64 i, .string s, .slice al l.length cl, .slice am m.length cm] 25)).alloc (.cells #[.int .i64 0, .bool false, .int .i64 0, .string ⟨#[]⟩, .slice none 0 0, .slice none 0 0] 25)).cell? ⟨w.heap.size, 1, none⟩ = some (.bool b) := by rw [cell_of_block h0]; rfl
  have d2 : ((w.alloc (.cells #[.int .i64 k, .bool b, .int .i64 i, .string s, .slice al l.length cl, .slice am m.length cm] 25)).alloc (.cells #[.int .i64 0, .bool false, .int .i64 0, .string ⟨#[]⟩, .slice none 0 0, .slice none 0 0] 25)).cell? ⟨w.heap.size, 2, none⟩ = some (.int .i64 i) := by rw [cell_of_block h0]; rfl
  have d3 : ((w.alloc (.cells #[.int .i64 k, .bool b, .int .i64 i, .string s, .slice al l.length cl, .slice am m.length cm] 25)).alloc (.cells #[.int .i64 0, .bool false, .int .i64 0, .string ⟨#[]⟩, .slice none 0 0, .slice none 0 0] 25)).cell? ⟨w.heap.size, 3, none⟩ = some (.string s) := by rw [cell_of_block h0]; rfl
  have d4 : ((w.alloc (.cells #[.int .i64 k, .bool b, .int .i64 i, .string s, .slice al l.length cl, .slice am m.length cm] 25)).alloc (.cells #[.int .i64 0, .bool false, .int .i64 0, .string ⟨#[]⟩, .slice none 0 0, .slice none 0 0] 25)).cell? ⟨w.heap.size, 4, none⟩ = some (.slice al l.length cl) := by rw [cell_of_block h0]; rfl
  have d5 : ((w.alloc (.cells #[.int .i64 k, .bool b, .int .i64 i, .string s, .slice al l.length cl, .slice am m.length cm] 25)).alloc (.cells #[.int .i64 0, .bool false, .int .i64 0, .string ⟨#[]⟩, .slice none 0 0, .slice none 0 0] 25)).cell? ⟨w.heap.size, 5, none⟩ = some (.slice am m.length cm) := by rw [cell_of_block h0]; rfl
  clear hv0 hm
  go_enter Tryd.func14, Tryd.ntmps14
  go_wp2_with fail
  clear d0 d1 d2 d3 d4 d5
  generalize ((w.alloc (.cells #[.int .i64 k, .bool b, .int .i64 i, .string s, .slice al l.length cl, .slice am m.length cm] 25)).alloc (.cells #[.int .i64 0, .bool false, .int .i64 0, .string ⟨#[]⟩, .slice none 0 0, .slice none 0 0] 25)) = w0 at *
  refine (rtaken_any R (V.mk k b i s l m) S _ w0 (HV.out w0 B0).1 (HV.out w0 B0).2 (by omega)).mono ?_
  rintro e w1 ⟨rfl, b1⟩
  have hz1 := b1.size
  have B1 := B0.trans (b1.mono (by omega))
  have t0 := (b1.block w.heap.size (by omega)).trans h0
  have t1 := (b1.block (w.heap.size + 1) (by omega)).trans h1
  clear h0 h1 B0 b1
  cases ho : okV (V.mk k b i s l m) with
  | false =>
    have HF : Hid (getV (V.mk k b i s l m) key = (nullV, false)) := by show _ = _; rw [getV, if_neg (by rw [ho]; simp)]
    have r0 : w1.cell? ⟨w.heap.size + 1, 0, none⟩ = some (.int .i64 0) := by rw [cell_of_block t1]; rfl
    have r1 : w1.cell? ⟨w.heap.size + 1, 1, none⟩ = some (.bool false) := by rw [cell_of_block t1]; rfl
    have r2 : w1.cell? ⟨w.heap.size + 1, 2, none⟩ = some (.int .i64 0) := by rw [cell_of_block t1]; rfl
    have r3 : w1.cell? ⟨w.heap.size + 1, 3, none⟩ = some (.string ⟨#[]⟩) := by rw [cell_of_block t1]; rfl
    have r4 : w1.cell? ⟨w.heap.size + 1, 4, none⟩ = some (.slice none 0 0) := by rw [cell_of_block t1]; rfl
    have r5 : w1.cell? ⟨w.heap.size + 1, 5, none⟩ = some (.slice none 0 0) := by rw [cell_of_block t1]; rfl
    have rf : ∀ i, w1.frozen? ⟨w.heap.size + 1, i, none⟩ = false := frozen_of_block t1
    clear t0 t1 ho
    go_wp2_with fail
    (try simp only [Exit.inBlock, Exit.then])
    refine bodyPost_ret (v := .tuple #[.agg #[.int .i64 0, .bool false, .int .i64 0, .string ⟨#[]⟩, .slice none 0 0, .slice none 0 0], .bool false]) ?_ rfl (by rw [HF.out]; exact ⟨[.int .i64 0, .bool false, .int .i64 0, .string ⟨#[]⟩, .slice none 0 0, .slice none 0 0], rfl, null_lies _ _, Below.set6 B1 (by omega) _ _ _ _ _ _ _ _ _ _ _ _⟩)
    rw [results_cell_tmp rfl]
    go_simp
  | true =>
    have HF : Hid (getV (V.mk k b i s l m) key = atKey m key) := by show _ = _; rw [getV, if_pos ho]; rfl
    have HS : Hid (Srt m) := srt_ok ho
    clear ho
    go_wp2_with fail
    go_loopw [7] (fun e wr => ∃ j : Nat, j ≤ m.length ∧ e = .int .i64 (j : Int) ∧ wr = w1 ∧ Hid (∀ i (h : i < m.length), i < j → ¬ (m[i]).1.toList = key.toList)) (fun e _ => m.length - (RowKit.intOf e).toNat)
    case atStart => exact ⟨0, by omega, rfl, rfl, (fun i hi hij => by omega)⟩
    case round =>
      obtain ⟨j, hj, rfl, rfl, HO⟩ := hrel
      have q5 : wr.cell? ⟨w.heap.size, 5, none⟩ = some (.slice am m.length cm) := by rw [cell_of_block t0]; rfl
      by_cases hjl : j < m.length
      · have y1 : (j : Int) < m.length := by omega
        obtain ⟨hSb, hks, csj, hrow, hlj⟩ := liesM_get (HM.out wr B1) j hjl
        obtain rfl : am = some ⟨bm, om, none⟩ := ham.at_.resolve_left (by omega)
        have HJ : Hid ((m[j]).2.lies R wr S csj) := hlj
        obtain ⟨ek, eb, ei, es, eal, enl, ecl, eam, enm, ecm, rfl⟩ := V.ten hlj
        obtain ⟨ekey, hek⟩ : ∃ ekey, (m[j]).1 = ekey := ⟨_, rfl⟩
        rw [hek] at hrow
        have HEK : Hid ((m[j]).1 = ekey) := hek
        obtain ⟨q, q0, q1, q2, q3, q4, g5⟩ := row7 hrow
        clear hrow hlj hek
        by_cases he : ekey.toList = key.toList
        · have he' : (ekey.toList == key.toList) = true := by simpa using he
          have HA : Hid (atKey m key = ((m[j]).2, true)) := at_hit HS.out hjl (by rw [HEK.out]; exact he)
          have hwj := HW.out j hjl
          clear he
          go_wp2_with fail
          refine (rclone_any (m[j]).2 R S _ wr HJ.out (HV.out wr B1).2 hwj).mono ?_
          rintro e w3 ⟨csu, rfl, hlu, b3⟩
          obtain ⟨uk, ub, ui, us, ual, unl, ucl, uam, unm, ucm, rfl⟩ := V.ten hlu
          have hz5 := b3.size
          have ba : Below w3.heap.size w3 (w3.alloc (.cells #[.int .i64 uk, .bool ub, .int .i64 ui, .string us, .slice ual unl ucl, .slice uam unm ucm] 25)) := (Below.refl _ _).alloc (Nat.le_refl _) _
          have hza := alloc_size w3 (.cells #[.int .i64 uk, .bool ub, .int .i64 ui, .string us, .slice ual unl ucl, .slice uam unm ucm] 25)
          have B3 := (B1.trans (b3.mono (by omega))).trans (ba.mono (by omega))
          have t2 := (ba.block (w.heap.size + 1) (by omega)).trans ((b3.block (w.heap.size + 1) (by omega)).trans t1)
          have hu := heap_alloc_new w3 (.cells #[.int .i64 uk, .bool ub, .int .i64 ui, .string us, .slice ual unl ucl, .slice uam unm ucm] 25)
          have HU : Hid ((m[j]).2.lies false (w3.alloc (.cells #[.int .i64 uk, .bool ub, .int .i64 ui, .string us, .slice ual unl ucl, .slice uam unm ucm] 25)) (From (w.heap.size + 2) (w3.alloc (.cells #[.int .i64 uk, .bool ub, .int .i64 ui, .string us, .slice ual unl ucl, .slice uam unm ucm] 25))) [.int .i64 uk, .bool ub, .int .i64 ui, .string us, .slice ual unl ucl, .slice uam unm ucm]) := V.lies_keep (fun h => h) (fun x hx => ba.block x hx.2) (fun x hx => ⟨by have := hx.1; omega, by have := hx.2; omega⟩) _ hlu
          have g0 : (w3.alloc (.cells #[.int .i64 uk, .bool ub, .int .i64 ui, .string us, .slice ual unl ucl, .slice uam unm ucm] 25)).cell? ⟨w3.heap.size, 0, none⟩ = some (.int .i64 uk) := by rw [cell_of_block hu]; rfl
          have g1 : (w3.alloc (.cells #[.int .i64 uk, .bool ub, .int .i64 ui, .string us, .slice ual unl ucl, .slice uam unm ucm] 25)).cell? ⟨w3.heap.size, 1, none⟩ = some (.bool ub) := by rw [cell_of_block hu]; rfl
          have g2 : (w3.alloc (.cells #[.int .i64 uk, .bool ub, .int .i64 ui, .string us, .slice ual unl ucl, .slice uam unm ucm] 25)).cell? ⟨w3.heap.size, 2, none⟩ = some (.int .i64 ui) := by rw [cell_of_block hu]; rfl
          have g3 : (w3.alloc (.cells #[.int .i64 uk, .bool ub, .int .i64 ui, .string us, .slice ual unl ucl, .slice uam unm ucm] 25)).cell? ⟨w3.heap.size, 3, none⟩ = some (.string us) := by rw [cell_of_block hu]; rfl
          have g4 : (w3.alloc (.cells #[.int .i64 uk, .bool ub, .int .i64 ui, .string us, .slice ual unl ucl, .slice uam unm ucm] 25)).cell? ⟨w3.heap.size, 4, none⟩ = some (.slice ual unl ucl) := by rw [cell_of_block hu]; rfl
          have g5 : (w3.alloc (.cells #[.int .i64 uk, .bool ub, .int .i64 ui, .string us, .slice ual unl ucl, .slice uam unm ucm] 25)).cell? ⟨w3.heap.size, 5, none⟩ = some (.slice uam unm ucm) := by rw [cell_of_block hu]; rfl
          have r0 : (w3.alloc (.cells #[.int .i64 uk, .bool ub, .int .i64 ui, .string us, .slice ual unl ucl, .slice uam unm ucm] 25)).cell? ⟨w.heap.size + 1, 0, none⟩ = some (.int .i64 0) := by rw [cell_of_block t2]; rfl
          have r1 : (w3.alloc (.cells #[.int .i64 uk, .bool ub, .int .i64 ui, .string us, .slice ual unl ucl, .slice uam unm ucm] 25)).cell? ⟨w.heap.size + 1, 1, none⟩ = some (.bool false) := by rw [cell_of_block t2]; rfl
          have r2 : (w3.alloc (.cells #[.int .i64 uk, .bool ub, .int .i64 ui, .string us, .slice ual unl ucl, .slice uam unm ucm] 25)).cell? ⟨w.heap.size + 1, 2, none⟩ = some (.int .i64 0) := by rw [cell_of_block t2]; rfl
          have r3 : (w3.alloc (.cells #[.int .i64 uk, .bool ub, .int .i64 ui, .string us, .slice ual unl ucl, .slice uam unm ucm] 25)).cell? ⟨w.heap.size + 1, 3, none⟩ = some (.string ⟨#[]⟩) := by rw [cell_of_block t2]; rfl
          have r4 : (w3.alloc (.cells #[.int .i64 uk, .bool ub, .int .i64 ui, .string us, .slice ual unl ucl, .slice uam unm ucm] 25)).cell? ⟨w.heap.size + 1, 4, none⟩ = some (.slice none 0 0) := by rw [cell_of_block t2]; rfl
          have r5 : (w3.alloc (.cells #[.int .i64 uk, .bool ub, .int .i64 ui, .string us, .slice ual unl ucl, .slice uam unm ucm] 25)).cell? ⟨w.heap.size + 1, 5, none⟩ = some (.slice none 0 0) := by rw [cell_of_block t2]; rfl
          have rf : ∀ i, (w3.alloc (.cells #[.int .i64 uk, .bool ub, .int .i64 ui, .string us, .slice ual unl ucl, .slice uam unm ucm] 25)).frozen? ⟨w.heap.size + 1, i, none⟩ = false := frozen_of_block t2
          clear q q0 q1 q2 q3 q4 q5 hlu b3 t2 HJ hu ba t0 t1
          go_wp2_with fail
          (try simp only [Exit.inBlock, Exit.then])
          refine bodyPost_ret (v := .tuple #[.agg #[.int .i64 uk, .bool ub, .int .i64 ui, .string us, .slice ual unl ucl, .slice uam unm ucm], .bool true]) ?_ rfl (by rw [HF.out, HA.out]; exact ⟨[.int .i64 uk, .bool ub, .int .i64 ui, .string us, .slice ual unl ucl, .slice uam unm ucm], rfl, V.lies_keep (fun h => h) (fun _ _ => rfl) (fun x hx => ⟨by have := hx.1; omega, hx.2⟩) _ (lies_set6A HU.out (show w.heap.size + 1 < w.heap.size + 2 by omega) _ _ _ _ _ _ _ _ _ _ _ _), Below.set6 B3 (by omega) _ _ _ _ _ _ _ _ _ _ _ _⟩)
          rw [results_cell_tmp rfl]
          go_simp
        · have he' : (ekey.toList == key.toList) = false := by simpa using he
          have HO' : Hid (∀ i (h : i < m.length), i < j + 1 → ¬ (m[i]).1.toList = key.toList) := fun i h hi => by
            rcases Nat.lt_or_ge i j with h1 | h1
            · exact HO.out i h h1
            · obtain rfl : i = j := by omega
              rw [HEK.out]; exact he
          clear he HJ
          go_wp2_with fail
          go_roundw
          case rel => exact ⟨j + 1, by omega, by go_num, trivial, HO'⟩
          case measure => simp [RowKit.intOf]; omega
      · obtain rfl : j = m.length := by omega
        have y1 : ¬ (m.length : Int) < m.length := by omega
        have HA : Hid (atKey m key = (nullV, false)) := at_miss fun j hj => HO.out j hj hj
        have r0 : wr.cell? ⟨w.heap.size + 1, 0, none⟩ = some (.int .i64 0) := by rw [cell_of_block t1]; rfl
        have r1 : wr.cell? ⟨w.heap.size + 1, 1, none⟩ = some (.bool false) := by rw [cell_of_block t1]; rfl
        have r2 : wr.cell? ⟨w.heap.size + 1, 2, none⟩ = some (.int .i64 0) := by rw [cell_of_block t1]; rfl
        have r3 : wr.cell? ⟨w.heap.size + 1, 3, none⟩ = some (.string ⟨#[]⟩) := by rw [cell_of_block t1]; rfl
        have r4 : wr.cell? ⟨w.heap.size + 1, 4, none⟩ = some (.slice none 0 0) := by rw [cell_of_block t1]; rfl
        have r5 : wr.cell? ⟨w.heap.size + 1, 5, none⟩ = some (.slice none 0 0) := by rw [cell_of_block t1]; rfl
        have rf : ∀ i, wr.frozen? ⟨w.heap.size + 1, i, none⟩ = false := frozen_of_block t1
        clear t0 t1
        go_wp2_with fail
        (try simp only [Exit.inBlock, Exit.then])
        refine bodyPost_ret (v := .tuple #[.agg #[.int .i64 0, .bool false, .int .i64 0, .string ⟨#[]⟩, .slice none 0 0, .slice none 0 0], .bool false]) ?_ rfl (by rw [HF.out, HA.out]; exact ⟨[.int .i64 0, .bool false, .int .i64 0, .string ⟨#[]⟩, .slice none 0 0, .slice none 0 0], rfl, null_lies _ _, Below.set6 B1 (by omega) _ _ _ _ _ _ _ _ _ _ _ _⟩)
        rw [results_cell_tmp rfl]
        go_simp
end Go.Proofs.YtmmlejbebfkojaaDoor
