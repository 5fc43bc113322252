import Derived.Test.YtmmlejbebfkojaaDoorFndA
/- value.Get. -/
set_option linter.unusedSimpArgs false
set_option linter.unusedVariables false
namespace Go.Proofs.YtmmlejbebfkojaaDoor
open Go.RowKit Go.Lib
def memsOf : V → List Mem
  | .mk _ _ _ _ _ m => m
/-- what is found at a key -/
def atKey (l : List Mem) (key : ByteArray) : V × Bool := if keyIs key l[posF l key]? = true then ((l.getD (posF l key) (⟨#[]⟩, nullV)).2, true) else (nullV, false)
def getV (v : V) (key : ByteArray) : V × Bool := if okV v = true then atKey (memsOf v) key else (nullV, false)
/-- a value and a bool -/
def GtPost (p : V × Bool) (w : World) (e : Ending) (w' : World) : Prop := ∃ cs : List Value, e = .returned (.tuple #[.agg cs.toArray, .bool p.2]) ∧ p.1.lies false w' (New w w') cs ∧ Below w.heap.size w w'
theorem srt_ok {k : Int} {b : Bool} {i : Int} {s : ByteArray} {l : List V} {m : List Mem} (h : okV (.mk k b i s l m) = true) : Srt m := by
  have := chkV_allG 40 _ 0 _ (okV_true h)
  rw [allG] at this
  have hg := this.1
  simp only [goodB, Bool.and_eq_true] at hg
  exact srt_rise hg.2
set_option maxHeartbeats 1600000 in
set_option maxRecDepth 100000 in
theorem get_any (v : V) (key : ByteArray) (R : Bool) (S : Nat → Prop) (cs : List Value) (w : World) (tb : Tb w) (hv : v.lies R w S cs) (hS : ∀ b, S b → b < w.heap.size) (hwt : v.wt ≤ 1099511627776) :
    Calls Tryd.prog 12 #[.agg cs.toArray, .string key] w (GtPost (getV v key) w) := by
  obtain ⟨k, b, i, s, l, m⟩ := v
  have hv0 := hv
  rw [V.lies] at hv
  obtain ⟨al, cl, bl, ol, am, cm, bm, om, rfl, _, _, _, _, ham, _, hm, _⟩ := hv
  have hz2 : ((w.alloc (.cells #[.int .i64 k, .bool b, .int .i64 i, .string s, .slice al l.length cl, .slice am m.length cm] 25)).alloc (.cells #[.int .i64 0, .bool false, .int .i64 0, .string ⟨#[]⟩, .slice none 0 0, .slice none 0 0] 25)).heap.size = w.heap.size + 2 := by rw [alloc_size, alloc_size]
  have B0 : Below w.heap.size w ((w.alloc (.cells #[.int .i64 k, .bool b, .int .i64 i, .string s, .slice al l.length cl, .slice am m.length cm] 25)).alloc (.cells #[.int .i64 0, .bool false, .int .i64 0, .string ⟨#[]⟩, .slice none 0 0, .slice none 0 0] 25)) := two_below w _ _
  have h0 := alloc2_keep1 w (.cells #[.int .i64 k, .bool b, .int .i64 i, .string s, .slice al l.length cl, .slice am m.length cm] 25) (.cells #[.int .i64 0, .bool false, .int .i64 0, .string ⟨#[]⟩, .slice none 0 0, .slice none 0 0] 25)
  have h1 := alloc2_new w (.cells #[.int .i64 k, .bool b, .int .i64 i, .string s, .slice al l.length cl, .slice am m.length cm] 25) (.cells #[.int .i64 0, .bool false, .int .i64 0, .string ⟨#[]⟩, .slice none 0 0, .slice none 0 0] 25)
  have HV : Hid (∀ W, Below w.heap.size w W → (V.mk k b i s l m).lies R W S [.int .i64 k, .bool b, .int .i64 i, .string s, .slice al l.length cl, .slice am m.length cm] ∧ (∀ b, S b → b < W.heap.size)) := fun W hb => ⟨V.lies_keep (fun h => h) (fun x hx => hb.block x (hS x hx)) (fun _ h => h) _ hv0, fun x hx => Nat.lt_of_lt_of_le (hS x hx) hb.size⟩
  have HB : Hid (∀ W, Below w.heap.size w W → Tb W) := fun W hb => tb.below hb tb.z
  have HM : Hid (∀ W, Below w.heap.size w W → liesM R W S m bm om) := fun W hb => liesM_keep (fun h => h) (fun x hx => hb.block x (hS x hx)) (fun _ h => h) _ hm
  have hml : m.length ≤ 1099511627776 := by have := wtM_len m; simp only [V.wt] at hwt; omega
  have HW : Hid (∀ j (h : j < m.length), (m[j]).2.wt ≤ 1099511627776) := fun j h => by
    have := wtM_mem (List.getElem_mem h : m[j] ∈ m)
    simp only [V.wt] at hwt; omega
  have r0 : ((w.alloc (.cells #[.int .i64 k, .bool b, .int .i64 i, .string s, .slice al l.length cl, .slice am m.length cm] 25)).alloc (.cells #[.int .i64 0, .bool false, .int .i64 0, .string ⟨#[]⟩, .slice none 0 0, .slice none 0 0] 25)).cell? ⟨w.heap.size, 0, none⟩ = some (.int .i64 k) := by rw [cell_of_block h0]; rfl
  have r1 : ((w.alloc (.cells #[.int .i64 k, .bool b, .int .i64 i, .string s, .slice al l.length cl, .slice am m.length cm] 25)).alloc (.cells #[.int .i64 0, .bool false, .int .i64 0, .string ⟨#[]⟩, .slice none 0 0, .slice none 0 0] 25)).cell? ⟨w.heap.size, 1, none⟩ = some (.bool b) := by rw [cell_of_block h0]; rfl
  have r2 : ((w.alloc (.cells #[.int .i64 k, .bool b, .int .i64 i, .string s, .slice al l.length cl, .slice am m.length cm] 25)).alloc (.cells #[.int .i64 0, .bool false, .int .i64 0, .string ⟨#[]⟩, .slice none 0 0, .slice none 0 0] 25)).cell? ⟨w.heap.size, 2, none⟩ = some (.int .i64 i) := by rw [cell_of_block h0]; rfl
  have r3 : ((w.alloc (.cells #[.int .i64 k, .bool b, .int .i64 i, .string s, .slice al l.length cl, .slice am m.length cm] 25)).alloc (.cells #[.int .i64 0, .bool false, .int .i64 0, .string ⟨#[]⟩, .slice none 0 0, .slice none 0 0] 25)).cell? ⟨w.heap.size, 3, none⟩ = some (.string s) := by rw [cell_of_block h0]; rfl
  have r4 : ((w.alloc (.cells #[.int .i64 k, .bool b, .int .i64 i, .string s, .slice al l.length cl, .slice am m.length cm] 25)).alloc (.cells #[.int .i64 0, .bool false, .int .i64 0, .string ⟨#[]⟩, .slice none 0 0, .slice none 0 0] 25)).cell? ⟨w.heap.size, 4, none⟩ = some (.slice al l.length cl) := by rw [cell_of_block h0]; rfl
  have r5 : ((w.alloc (.cells #[.int .i64 k, .bool b, .int .i64 i, .string s, .slice al l.length cl, .slice am m.length cm] 25)).alloc (.cells #[.int .i64 0, .bool false, .int .i64 0, .string ⟨#[]⟩, .slice none 0 0, .slice none 0 0] 25)).cell? ⟨w.heap.size, 5, none⟩ = some (.slice am m.length cm) := by rw [cell_of_block h0]; rfl
  clear hv0 hm tb
  go_enter Tryd.func12, Tryd.ntmps12
  go_wp2_with fail
  clear r0 r1 r2 r3 r4 r5
  generalize ((w.alloc (.cells #[.int .i64 k, .bool b, .int .i64 i, .string s, .slice al l.length cl, .slice am m.length cm] 25)).alloc (.cells #[.int .i64 0, .bool false, .int .i64 0, .string ⟨#[]⟩, .slice none 0 0, .slice none 0 0] 25)) = w0 at *
  refine (taken_any R (V.mk k b i s l m) S _ w0 (HB.out w0 B0) (HV.out w0 B0).1 (HV.out w0 B0).2 hwt).mono ?_
  rintro e w1 ⟨rfl, b1⟩
  have hz1 := b1.size
  have B1 := B0.trans (b1.mono (by omega))
  have t0 := (b1.block w.heap.size (by omega)).trans h0
  have t1 := (b1.block (w.heap.size + 1) (by omega)).trans h1
  clear h0 h1 B0 b1
  have HN : Hid (nullV.lies false w1 (New w w1) [.int .i64 0, .bool false, .int .i64 0, .string ⟨#[]⟩, .slice none 0 0, .slice none 0 0]) := null_lies _ _
  cases ho : okV (V.mk k b i s l m) with
  | false =>
    have HF : Hid (getV (V.mk k b i s l m) key = (nullV, false)) := by show _ = _; rw [getV, if_neg (by rw [ho]; simp)]
    have r0 : w1.cell? ⟨w.heap.size + 1, 0, none⟩ = some (.int .i64 0) := by rw [cell_of_block t1]; rfl
    have r1 : w1.cell? ⟨w.heap.size + 1, 1, none⟩ = some (.bool false) := by rw [cell_of_block t1]; rfl
    have r2 : w1.cell? ⟨w.heap.size + 1, 2, none⟩ = some (.int .i64 0) := by rw [cell_of_block t1]; rfl
    have r3 : w1.cell? ⟨w.heap.size + 1, 3, none⟩ = some (.string ⟨#[]⟩) := by rw [cell_of_block t1]; rfl
    have r4 : w1.cell? ⟨w.heap.size + 1, 4, none⟩ = some (.slice none 0 0) := by rw [cell_of_block t1]; rfl
    have r5 : w1.cell? ⟨w.heap.size + 1, 5, none⟩ = some (.slice none 0 0) := by rw [cell_of_block t1]; rfl
    have rf : ∀ i, w1.frozen? ⟨w.heap.size + 1, i, none⟩ = false := frozen_of_block t1
    clear t0 t1 ho
    go_wp2_with fail
    (try simp only [Exit.inBlock, Exit.then])
    refine bodyPost_ret (v := .tuple #[.agg #[.int .i64 0, .bool false, .int .i64 0, .string ⟨#[]⟩, .slice none 0 0, .slice none 0 0], .bool false]) ?_ rfl (by rw [HF.out]; exact ⟨[.int .i64 0, .bool false, .int .i64 0, .string ⟨#[]⟩, .slice none 0 0, .slice none 0 0], rfl, null_lies _ _, Below.set6 B1 (by omega) _ _ _ _ _ _ _ _ _ _ _ _⟩)
    rw [results_cell_tmp rfl]
    go_simp
  | true =>
    have HF : Hid (getV (V.mk k b i s l m) key = atKey m key) := by show _ = _; rw [getV, if_pos ho]; rfl
    have HP : Hid (∀ W, Below w.heap.size w W → Calls Tryd.prog 18 #[.slice am m.length cm, .string key] W (fun e w' => e = .returned (.tuple #[.int .i64 (posF m key : Int), .bool (keyIs key m[posF m key]?)]) ∧ Below W.heap.size W w')) := fun W hb => find_any m key R S am cm bm om W ham (HM.out W hb) (HV.out W hb).2 (srt_ok ho) hml
    have q5 : w1.cell? ⟨w.heap.size, 5, none⟩ = some (.slice am m.length cm) := by rw [cell_of_block t0]; rfl
    clear ho
    obtain ⟨p, hp⟩ : ∃ p, posF m key = p := ⟨_, rfl⟩
    have HA : Hid (atKey m key = if keyIs key m[p]? = true then ((m.getD p (⟨#[]⟩, nullV)).2, true) else (nullV, false)) := by show _ = _; rw [atKey, hp]
    have HI : Hid (keyIs key m[p]? = true → p < m.length) := fun h => by
      rcases Nat.lt_or_ge p m.length with h1 | h1
      · exact h1
      · rw [List.getElem?_eq_none h1] at h; simp [keyIs] at h
    rw [hp] at HP
    clear hp
    generalize keyIs key m[p]? = q at *
    go_wp2_with fail
    refine (HP.out w1 B1).mono ?_
    rintro e w2 ⟨rfl, b2⟩
    have hz4 := b2.size
    have B2 := B1.trans (b2.mono (by omega))
    have t0' := (b2.block w.heap.size (by omega)).trans t0
    have t1' := (b2.block (w.heap.size + 1) (by omega)).trans t1
    clear t0 t1 q5 b2 HP HN
    have r0 : w2.cell? ⟨w.heap.size + 1, 0, none⟩ = some (.int .i64 0) := by rw [cell_of_block t1']; rfl
    have r1 : w2.cell? ⟨w.heap.size + 1, 1, none⟩ = some (.bool false) := by rw [cell_of_block t1']; rfl
    have r2 : w2.cell? ⟨w.heap.size + 1, 2, none⟩ = some (.int .i64 0) := by rw [cell_of_block t1']; rfl
    have r3 : w2.cell? ⟨w.heap.size + 1, 3, none⟩ = some (.string ⟨#[]⟩) := by rw [cell_of_block t1']; rfl
    have r4 : w2.cell? ⟨w.heap.size + 1, 4, none⟩ = some (.slice none 0 0) := by rw [cell_of_block t1']; rfl
    have r5 : w2.cell? ⟨w.heap.size + 1, 5, none⟩ = some (.slice none 0 0) := by rw [cell_of_block t1']; rfl
    have rf : ∀ i, w2.frozen? ⟨w.heap.size + 1, i, none⟩ = false := frozen_of_block t1'
    cases q with
    | false =>
      clear t0' t1'
      go_wp2_with fail
      (try simp only [Exit.inBlock, Exit.then])
      refine bodyPost_ret (v := .tuple #[.agg #[.int .i64 0, .bool false, .int .i64 0, .string ⟨#[]⟩, .slice none 0 0, .slice none 0 0], .bool false]) ?_ rfl (by rw [HF.out, HA.out]; exact ⟨[.int .i64 0, .bool false, .int .i64 0, .string ⟨#[]⟩, .slice none 0 0, .slice none 0 0], rfl, null_lies _ _, Below.set6 B2 (by omega) _ _ _ _ _ _ _ _ _ _ _ _⟩)
      rw [results_cell_tmp rfl]
      go_simp
    | true =>
      have hpl := HI.out rfl
      have y1 : (p : Int) < m.length := by omega
      have q5 : w2.cell? ⟨w.heap.size, 5, none⟩ = some (.slice am m.length cm) := by rw [cell_of_block t0']; rfl
      obtain ⟨hSb, hks, csj, hrow, hlj⟩ := liesM_get (HM.out w2 B2) p hpl
      obtain rfl : am = some ⟨bm, om, none⟩ := ham.at_.resolve_left (by omega)
      have HJ : Hid ((m[p]).2.lies R w2 S csj) := hlj
      obtain ⟨ek, eb, ei, es, eal, enl, ecl, eam, enm, ecm, rfl⟩ := V.ten hlj
      obtain ⟨ekey, hek⟩ : ∃ ekey, (m[p]).1 = ekey := ⟨_, rfl⟩
      rw [hek] at hrow
      obtain ⟨g, g0, g1, g2, g3, g4, g5⟩ := row7 hrow
      have HG : Hid ((m.getD p (⟨#[]⟩, nullV)).2 = (m[p]).2) := by show _ = _; rw [List.getD_eq_getElem?_getD, List.getElem?_eq_getElem hpl]; rfl
      have hwp := HW.out p hpl
      clear hrow hlj hek t0' r0 r1 r2 r3 r4 r5 rf
      go_wp2_with fail
      refine (anew_any (m[p]).2 R S _ w2 HJ.out (HV.out w2 B2).2 hwp).mono ?_
      rintro e w3 ⟨csu, rfl, hlu, b3⟩
      obtain ⟨uk, ub, ui, us, ual, unl, ucl, uam, unm, ucm, rfl⟩ := V.ten hlu
      have hz5 := b3.size
      have B3 := B2.trans (b3.mono (by omega))
      have t1 := (b3.block (w.heap.size + 1) (by omega)).trans t1'
      have HU : Hid ((m[p]).2.lies false w3 (From (w.heap.size + 2) w3) [.int .i64 uk, .bool ub, .int .i64 ui, .string us, .slice ual unl ucl, .slice uam unm ucm]) := V.lies_keep (fun h => h) (fun _ _ => rfl) (fun x hx => ⟨by have := hx.1; omega, hx.2⟩) _ hlu
      clear g g0 g1 g2 g3 g4 g5 q5 hlu b3 t1' HJ
      have r0 : w3.cell? ⟨w.heap.size + 1, 0, none⟩ = some (.int .i64 0) := by rw [cell_of_block t1]; rfl
      have r1 : w3.cell? ⟨w.heap.size + 1, 1, none⟩ = some (.bool false) := by rw [cell_of_block t1]; rfl
      have r2 : w3.cell? ⟨w.heap.size + 1, 2, none⟩ = some (.int .i64 0) := by rw [cell_of_block t1]; rfl
      have r3 : w3.cell? ⟨w.heap.size + 1, 3, none⟩ = some (.string ⟨#[]⟩) := by rw [cell_of_block t1]; rfl
      have r4 : w3.cell? ⟨w.heap.size + 1, 4, none⟩ = some (.slice none 0 0) := by rw [cell_of_block t1]; rfl
      have r5 : w3.cell? ⟨w.heap.size + 1, 5, none⟩ = some (.slice none 0 0) := by rw [cell_of_block t1]; rfl
      have rf : ∀ i, w3.frozen? ⟨w.heap.size + 1, i, none⟩ = false := frozen_of_block t1
      clear t1
      go_wp2_with fail
      (try simp only [Exit.inBlock, Exit.then])
      refine bodyPost_ret (v := .tuple #[.agg #[.int .i64 uk, .bool ub, .int .i64 ui, .string us, .slice ual unl ucl, .slice uam unm ucm], .bool true]) ?_ rfl (by rw [HF.out, HA.out, HG.out]; exact ⟨[.int .i64 uk, .bool ub, .int .i64 ui, .string us, .slice ual unl ucl, .slice uam unm ucm], rfl, V.lies_keep (fun h => h) (fun _ _ => rfl) (fun x hx => ⟨by have := hx.1; omega, hx.2⟩) _ (lies_set6A HU.out (show w.heap.size + 1 < w.heap.size + 2 by omega) _ _ _ _ _ _ _ _ _ _ _ _), Below.set6 B3 (by omega) _ _ _ _ _ _ _ _ _ _ _ _⟩)
      rw [results_cell_tmp rfl]
      go_simp
end Go.Proofs.YtmmlejbebfkojaaDoor
