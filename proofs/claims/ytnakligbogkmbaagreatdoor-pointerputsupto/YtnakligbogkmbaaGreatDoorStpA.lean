import Derived.Test.YtnakligbogkmbaaGreatDoorG26
set_option linter.unusedSimpArgs false
set_option linter.unusedVariables false
namespace Go.Proofs.YtnakligbogkmbaaGreatDoor
open Go.RowKit Go.Lib
theorem results_cell_tmp2 {fn : Func} {p u u' : Tmp} {ty : TypeId} (h : fn.results = #[.cell p ty, .tmp u, .tmp u']) (tmps : Array Value) (P : Program) (w : World) :
 (results fn tmps).run P w =
  ((asAddr (tmps.getD p undef)).run P w).andThen fun a w₁ => ((loadVar ty a).run P w₁).andThen fun v w₂ => .ok (.tuple #[v, tmps.getD u undef, tmps.getD u' undef]) w₂ := by
 simp only [results, h]
 simp [Sem.run_bind, Result.andThen]
set_option maxHeartbeats 8000000 in
set_option maxRecDepth 100000 in
theorem member_any (m : List Mem) (key : ByteArray) (S : Nat → Prop) (am : Option Addr) (cm bm om : Nat) (w : World) (ham : Headed am m.length cm bm om) (hl : liesM false w S m bm om) (hS : ∀ b, S b → b < w.heap.size) (hs : Srt m) (hn : m.length ≤ 2000000) :
 Calls Tryz.prog 64 #[.slice am m.length cm, .string key] w (fun e w' => e = .returned (.tuple #[.int .i64 (posF m key : Int), .bool (keyIs key m[posF m key]?)]) ∧ Below w.heap.size w w') := by
 have HM := hmk hl
 have HLs : Hid (∀ t (ht : t < m.length), Op.bytesLess (m[t]).1.toList key.toList = decide (t < posF m key)) := fun t ht => pos_less hs ht
 have HKy : Hid (∀ h : posF m key < m.length, keyIs key m[posF m key]? = ((m[posF m key]).1.toList == key.toList)) := fun h => by rw [List.getElem?_eq_getElem h]; rfl
 have HKn : Hid (posF m key = m.length → keyIs key m[posF m key]? = false) := fun h => by rw [List.getElem?_eq_none (by omega)]; rfl
 have hpl := pos_le m key
 clear hl hs
 generalize keyIs key m[posF m key]? = O at *
 generalize posF m key = P at *
 go_enter Tryz.func64, Tryz.ntmps64
 go_wp2_with fail
 go_loopw [6] (fun e wr => ∃ i : Nat, i ≤ P ∧ e = .int .i64 (i : Int) ∧ Below w.heap.size w wr) (fun e _ => m.length - (RowKit.intOf e).toNat)
 case atStart => exact ⟨0, by omega, rfl, Below.refl _ _⟩
 case round =>
  obtain ⟨i, hi, rfl, bi⟩ := hrel
  have hzr := bi.size
  by_cases him : i < m.length
  ·have y1 : (i : Int) < m.length := by omega
   obtain ⟨hSb, hks, csj, hrow, hlj⟩ := liesM_get HM.out i him
   obtain rfl : am = some ⟨bm, om, none⟩ := ham.at_.resolve_left (by omega)
   have x := (bi.cell (p := ⟨bm, _, none⟩) (hS _ hSb)).trans (hrow 0 _ rfl)
   simp only [Nat.add_zero] at x
   have HL := HLs.out i him
   by_cases hip : i < P
   ·rw [decide_eq_true hip] at HL
    generalize (m[i]).1 = ki at *
    clear hrow hlj hks
    go_wp2_with fail
    go_roundw
    case rel => exact ⟨i + 1, by omega, by go_num, bi⟩
    case measure => simp [RowKit.intOf]; omega
   ·rw [decide_eq_false hip] at HL
    obtain rfl : P = i := by omega
    have HK := HKy.out him
    clear HKy HKn HLs hip
    generalize (m[P]).1 = ki at *
    subst HK
    clear hrow hlj hks
    go_wp2_with fail
    go_quiet (fail)
    go_wp2_with fail
    go_ret2
    exact ⟨rfl, bi.trans (below_drewN _ _ _)⟩
  ·obtain rfl : i = m.length := by omega
   obtain rfl : P = m.length := by omega
   have y1 : ¬ (m.length : Int) < m.length := by omega
   have HK := HKn.out rfl
   subst HK
   go_wp2_with fail
   go_quiet (fail)
   go_wp2_with fail
   go_ret2
   exact ⟨rfl, bi.trans (below_drewN _ _ _)⟩
def stpF (v : V) (t : ByteArray) : V × Nat × Int := if (ledF v t).2 = 0 then (kid v (ledF v t).1, (ledF v t).1, 0) else (nullV, 0, (ledF v t).2)
def SpPost (r : V × Nat × Int) (S : Nat → Prop) (w : World) (e : Ending) (w' : World) : Prop := ∃ ds : List Value, e = .returned (.tuple #[.agg ds.toArray, .int .i64 (r.2.1 : Int), .int .i64 r.2.2]) ∧ r.1.lies false w' S ds ∧ Below w.heap.size w w'
set_option maxHeartbeats 8000000 in
set_option maxRecDepth 100000 in
theorem step_any (v : V) (t : ByteArray) (S : Nat → Prop) (cs : List Value) (w : World) (hv : v.lies false w S cs) (hS : ∀ b, S b → b < w.heap.size) (hwt : v.wt ≤ 1114112) (hsr : Srt (memsOf v)) : Calls Tryz.prog 43 #[.agg cs.toArray, .string t] w (SpPost (stpF v t) S w) := by
 obtain ⟨k, b, i, s, l, m⟩ := v
 rw [V.lies] at hv
 obtain ⟨al, cl, bl, ol, am, cm, bm, om, rfl, _, _, _, hal, ham, hl, hm, _⟩ := hv
 have HL := hmk hl
 have HM := hmk hm
 have hml : m.length ≤ 1114112 := by have := wtM_len m; simp only [V.wt] at hwt; omega
 have hll : l.length ≤ 1114112 := by have := wtL_len l; simp only [V.wt] at hwt; omega
 have hsr' : Srt m := hsr
 have b2 : Below w.heap.size w ((w.alloc (oV k b i s al l.length cl am m.length cm)).alloc oN) := tBw w _ _
 have hz2 : ((w.alloc (oV k b i s al l.length cl am m.length cm)).alloc oN).heap.size = w.heap.size + 2 := by rw [aSz, aSz]
 have hz2 := hz2; dsimp only [oV, oN] at hz2
 have b3 : Below ((w.alloc (oV k b i s al l.length cl am m.length cm)).alloc oN).heap.size ((w.alloc (oV k b i s al l.length cl am m.length cm)).alloc oN) (((w.alloc (oV k b i s al l.length cl am m.length cm)).alloc oN).alloc oN) := oBw _ _
 have B3 : Below w.heap.size w (((w.alloc (oV k b i s al l.length cl am m.length cm)).alloc oN).alloc oN) := b2.trans (b3.mono (by omega))
 have h0 := (b3.block w.heap.size (by omega)).trans (a2k w (oV k b i s al l.length cl am m.length cm) oN)
 have h1 := (b3.block (w.heap.size + 1) (by omega)).trans (a2n w (oV k b i s al l.length cl am m.length cm) oN)
 have h2 := heap_alloc_new ((w.alloc (oV k b i s al l.length cl am m.length cm)).alloc oN) oN
 rw [hz2] at h2
 have hz3 : w.heap.size + 2 < (((w.alloc (oV k b i s al l.length cl am m.length cm)).alloc oN).alloc oN).heap.size := by rw [aSz, hz2]; omega
 have hz3 := hz3; dsimp only [oV, oN] at hz3
 have r0 : (((w.alloc (oV k b i s al l.length cl am m.length cm)).alloc oN).alloc oN).cell? ⟨w.heap.size, 0, none⟩ = some (.int .i64 k) := by rw [cBk h0]; rfl
 have r4 : (((w.alloc (oV k b i s al l.length cl am m.length cm)).alloc oN).alloc oN).cell? ⟨w.heap.size, 4, none⟩ = some (.slice al l.length cl) := by rw [cBk h0]; rfl
 have r5 : (((w.alloc (oV k b i s al l.length cl am m.length cm)).alloc oN).alloc oN).cell? ⟨w.heap.size, 5, none⟩ = some (.slice am m.length cm) := by rw [cBk h0]; rfl
 obtain ⟨z0, z1, z2, z3, z4, z5⟩ := sixC h1
 obtain ⟨x0, x1, x2, x3, x4, x5⟩ := sixC h2
 have rf : ∀ i', (((w.alloc (oV k b i s al l.length cl am m.length cm)).alloc oN).alloc oN).frozen? ⟨w.heap.size + 1, i', none⟩ = false := fBk h1
 have HF : Hid (stpF (.mk k b i s l m) t = if (ledF (.mk k b i s l m) t).2 = 0 then (kid (.mk k b i s l m) (ledF (.mk k b i s l m) t).1, (ledF (.mk k b i s l m) t).1, 0) else (nullV, 0, (ledF (.mk k b i s l m) t).2)) := rfl
 generalize stpF (.mk k b i s l m) t = RF at *
 clear b2 b3 hl hm hwt hsr
 by_cases hk5 : k = 5
 ·subst hk5
  have CM := hmk (member_any m t S am cm bm om (((w.alloc (oV 5 b i s al l.length cl am m.length cm)).alloc oN).alloc oN) ham (lMk (fun h => h) (fun x hx => B3.block x (hS x hx)) (fun _ h => h) _ HM.out) (fun x hx => Nat.lt_of_lt_of_le (hS x hx) B3.size) hsr' (by omega))
  have HQ : Hid (ledF (.mk 5 b i s l m) t = if keyIs t m[posF m t]? = true then (posF m t, 0) else (0, 41)) := rfl
  have hpk : keyIs t m[posF m t]? = true → posF m t < m.length := fun h => by
   rcases Nat.lt_or_ge (posF m t) m.length with h1 | h1
   ·exact h1
   ·rw [List.getElem?_eq_none h1] at h; simp [keyIs] at h
  generalize keyIs t m[posF m t]? = O at *
  generalize posF m t = p at *
  go_enter Tryz.func43, Tryz.ntmps43
  go_wp2_with fail
  clear r0 r4 r5 z0 z1 z2 z3 z4 z5 x0 x1 x2 x3 x4 x5 rf
  generalize (((w.alloc (oV 5 b i s al l.length cl am m.length cm)).alloc oN).alloc oN) = w3 at *
  refine CM.out.mono ?_
  rintro e w1 ⟨rfl, b1⟩
  have hz1 := b1.size
  have B1 := B3.trans (b1.mono (by omega))
  have t0 := (b1.block w.heap.size (by omega)).trans h0
  have t1 := (b1.block (w.heap.size + 1) (by omega)).trans h1
  have t2 := (b1.block (w.heap.size + 2) (by omega)).trans h2
  have r5 : w1.cell? ⟨w.heap.size, 5, none⟩ = some (.slice am m.length cm) := by rw [cBk t0]; rfl
  obtain ⟨z0, z1, z2, z3, z4, z5⟩ := sixC t1
  have rf := fBk t1
  cases O with
  | true =>
   have hp := hpk (by first | trivial | rfl)
   have y1 : (p : Int) < m.length := by omega
   have HR : Hid (RF = ((m[p]).2, p, 0)) := by
    show _ = _
    rw [HF.out, HQ.out]
    simp only [if_true]
    have : kid (.mk 5 b i s l m) p = (m[p]).2 := by
     show (m.getD p (⟨#[]⟩, nullV)).2 = _
     rw [List.getD_eq_getElem?_getD, List.getElem?_eq_getElem hp]; rfl
    rw [this]
   obtain ⟨hSb, hks, csj, hrow, hlj⟩ := liesM_get HM.out p hp
   obtain rfl : am = some ⟨bm, om, none⟩ := ham.at_.resolve_left (by omega)
   have HJ := hmk hlj
   obtain ⟨ekey, hek⟩ : ∃ ekey, (m[p]).1 = ekey := ⟨_, rfl⟩
   rw [hek] at hrow
   generalize (m[p]).2 = X at *
   obtain ⟨ek, eb, ei, es, eal, enl, ecl, eam, enm, ecm, rfl⟩ := V.ten hlj
   obtain ⟨g, g0, g1, g2, g3, g4, g5⟩ := row7 (fun q u hu => (B1.cell (p := ⟨bm, _, none⟩) (hS _ hSb)).trans (hrow q u hu))
   clear hrow hlj hek hks CM HF HQ hpk
   go_wp2_with fail
   (try simp only [Exit.inBlock, Exit.then])
   refine bodyPost_ret (v := .tuple #[.agg #[.int .i64 ek, .bool eb, .int .i64 ei, .string es, .slice eal enl ecl, .slice eam enm ecm], .int .i64 (p : Int), .int .i64 0]) ?_ rfl ?_
   rotate_left
   ·rw [HR.out]
    exact ⟨[.int .i64 ek, .bool eb, .int .i64 ei, .string es, .slice eal enl ecl, .slice eam enm ecm], rfl, lBw HJ.out hS (Below.set6 B1 (by omega) _ _ _ _ _ _ _ _ _ _ _ _), Below.set6 B1 (by omega) _ _ _ _ _ _ _ _ _ _ _ _⟩
   ·rw [results_cell_tmp2 rfl]
    go_simp
  | false =>
   have HR : Hid (RF = (nullV, 0, 41)) := by
    show _ = _
    rw [HF.out, HQ.out]
    rfl
   obtain ⟨x0, x1, x2, x3, x4, x5⟩ := sixC t2
   clear CM HF HQ hpk
   go_wp2_with fail
   (try simp only [Exit.inBlock, Exit.then])
   refine bodyPost_ret (v := .tuple #[.agg #[.int .i64 0, .bool false, .int .i64 0, .string ⟨#[]⟩, .slice none 0 0, .slice none 0 0], .int .i64 0, .int .i64 41]) ?_ rfl ?_
   rotate_left
   ·rw [HR.out]
    exact ⟨[.int .i64 0, .bool false, .int .i64 0, .string ⟨#[]⟩, .slice none 0 0, .slice none 0 0], rfl, null_lies _ _, Below.set6 B1 (by omega) _ _ _ _ _ _ _ _ _ _ _ _⟩
   ·rw [results_cell_tmp2 rfl]
    go_simp
 ·by_cases hk4 : k = 4
  ·subst hk4
   have CI := hmk (rindex_any t l.length (by omega) (((w.alloc (oV 4 b i s al l.length cl am m.length cm)).alloc oN).alloc oN))
   have HQ : Hid (ledF (.mk 4 b i s l m) t = ((idxF t.data.toList l.length).getD 0, if (idxF t.data.toList l.length).isSome = true then 0 else 42)) := rfl
   have hpk : ∀ p, idxF t.data.toList l.length = some p → p < l.length := fun p h => idxF_lt h
   generalize idxF t.data.toList l.length = O at *
   go_enter Tryz.func43, Tryz.ntmps43
   go_wp2_with fail
   clear r0 r4 r5 z0 z1 z2 z3 z4 z5 x0 x1 x2 x3 x4 x5 rf
   generalize (((w.alloc (oV 4 b i s al l.length cl am m.length cm)).alloc oN).alloc oN) = w3 at *
   refine CI.out.mono ?_
   rintro e w1 ⟨rfl, b1⟩
   have hz1 := b1.size
   have B1 := B3.trans (b1.mono (by omega))
   have t0 := (b1.block w.heap.size (by omega)).trans h0
   have t1 := (b1.block (w.heap.size + 1) (by omega)).trans h1
   have t2 := (b1.block (w.heap.size + 2) (by omega)).trans h2
   have r4 : w1.cell? ⟨w.heap.size, 4, none⟩ = some (.slice al l.length cl) := by rw [cBk t0]; rfl
   obtain ⟨z0, z1, z2, z3, z4, z5⟩ := sixC t1
   have rf := fBk t1
   cases O with
   | some p =>
    have hp := hpk p rfl
    have y1 : (p : Int) < l.length := by omega
    have y0 : ¬ (p : Int) < 0 := by omega
    have HR : Hid (RF = (l[p], p, 0)) := by
     show _ = _
     rw [HF.out, HQ.out]
     simp only [Option.isSome_some, if_true, Option.getD_some]
     have : kid (.mk 4 b i s l m) p = l[p] := by
      show (l.getD p nullV) = _
      rw [List.getD_eq_getElem?_getD, List.getElem?_eq_getElem hp]; rfl
     rw [this]
    obtain ⟨hSb, csj, hrow, hlj⟩ := liesL_get HL.out p hp
    obtain rfl : al = some ⟨bl, ol, none⟩ := hal.at_.resolve_left (by omega)
    have HJ := hmk hlj
    generalize l[p] = X at *
    obtain ⟨ek, eb, ei, es, eal, enl, ecl, eam, enm, ecm, rfl⟩ := V.ten hlj
    obtain ⟨g0, g1, g2, g3, g4, g5⟩ := row6 (fun q u hu => (B1.cell (p := ⟨bl, _, none⟩) (hS _ hSb)).trans (hrow q u hu))
    clear hrow hlj CI HF HQ hpk
    simp only [ixI]
    go_wp2_with fail
    (try simp only [Exit.inBlock, Exit.then])
    refine bodyPost_ret (v := .tuple #[.agg #[.int .i64 ek, .bool eb, .int .i64 ei, .string es, .slice eal enl ecl, .slice eam enm ecm], .int .i64 (p : Int), .int .i64 0]) ?_ rfl ?_
    rotate_left
    ·rw [HR.out]
     exact ⟨[.int .i64 ek, .bool eb, .int .i64 ei, .string es, .slice eal enl ecl, .slice eam enm ecm], rfl, lBw HJ.out hS (Below.set6 B1 (by omega) _ _ _ _ _ _ _ _ _ _ _ _), Below.set6 B1 (by omega) _ _ _ _ _ _ _ _ _ _ _ _⟩
    ·rw [results_cell_tmp2 rfl]
     go_simp
   | none =>
    have HR : Hid (RF = (nullV, 0, 42)) := by
     show _ = _
     rw [HF.out, HQ.out]
     rfl
    obtain ⟨x0, x1, x2, x3, x4, x5⟩ := sixC t2
    clear CI HF HQ hpk
    simp only [ixI]
    go_wp2_with fail
    (try simp only [Exit.inBlock, Exit.then])
    refine bodyPost_ret (v := .tuple #[.agg #[.int .i64 0, .bool false, .int .i64 0, .string ⟨#[]⟩, .slice none 0 0, .slice none 0 0], .int .i64 0, .int .i64 42]) ?_ rfl ?_
    rotate_left
    ·rw [HR.out]
     exact ⟨[.int .i64 0, .bool false, .int .i64 0, .string ⟨#[]⟩, .slice none 0 0, .slice none 0 0], rfl, null_lies _ _, Below.set6 B1 (by omega) _ _ _ _ _ _ _ _ _ _ _ _⟩
    ·rw [results_cell_tmp2 rfl]
     go_simp
  ·have HR : Hid (RF = (nullV, 0, 41)) := by
    show _ = _
    have : ledF (.mk k b i s l m) t = (0, 41) := by
     unfold ledF
     show (if k = 5 then _ else if k = 4 then _ else _) = _
     rw [if_neg hk5, if_neg hk4]
    rw [HF.out, this]
    rfl
   have y5 : (k == 5) = false := by rw [beq_eq_false_iff_ne]; exact hk5
   have y4 : (k != 4) = true := by rw [bne_iff_ne]; exact hk4
   clear HF
   go_enter Tryz.func43, Tryz.ntmps43
   go_wp2_with fail
   (try simp only [Exit.inBlock, Exit.then])
   refine bodyPost_ret (v := .tuple #[.agg #[.int .i64 0, .bool false, .int .i64 0, .string ⟨#[]⟩, .slice none 0 0, .slice none 0 0], .int .i64 0, .int .i64 41]) ?_ rfl ?_
   rotate_left
   ·rw [HR.out]
    exact ⟨[.int .i64 0, .bool false, .int .i64 0, .string ⟨#[]⟩, .slice none 0 0, .slice none 0 0], rfl, null_lies _ _, B3⟩
   ·rw [results_cell_tmp2 rfl]
    go_simp
end Go.Proofs.YtnakligbogkmbaaGreatDoor
