import Derived.Test.YthgfomblodhoaaaDoorTwnP
/- twin: the same value, its lists and maps in unlike blocks. -/
set_option linter.unusedSimpArgs false
set_option linter.unusedVariables false
namespace Go.Proofs.YthgfomblodhoaaaDoor
open Go.RowKit
/-- the same value, in new memory, its lists and maps in unlike blocks -/
def UnPost (v : V) (w : World) (e : Ending) (w' : World) : Prop := ∃ cs, e = .returned (.agg cs.toArray) ∧ Below w.heap.size w w' ∧ v.lies false w' (fun y => w.heap.size ≤ y ∧ y < w'.heap.size) cs ∧ Unm w' (fun y => w.heap.size ≤ y ∧ y < w'.heap.size) v cs
theorem Rg.mono {q : List (V × Nat × Nat)} {lo hi lo' hi' : Nat} (h : Rg q lo hi) (h1 : lo' ≤ lo) (h2 : hi ≤ hi') : Rg q lo' hi' := ⟨h.1, fun e he => by have := h.2 e he; omega⟩
theorem twn_post {k : Int} {b : Bool} {i : Int} {s : ByteArray} {l : List V} {m : List Mem} {w w' : World} {gl cl gm cm A : Nat} {SL SM : Nat → Prop} {ql : List (V × Nat × Nat)} {pl : List (ByteArray × V × Nat × Nat)} (hk : In64 k) (hi : In64 i) (hs : s.size ≤ maxLen) (hB : Below w.heap.size w w')
    (hL : OwnR EU 25 6 w' w.heap.size SL (.slice (some ⟨gl, 0, none⟩) (l.length + 1) cl) (ql.map some ++ [none])) (hM : OwnR EW 38 7 w' w.heap.size SM (.slice (some ⟨gm, 0, none⟩) (m.length + 1) cm) (pl.map some ++ [none])) (hq : ql.map (·.1) = l) (hp : pl.map (fun e => (e.1, e.2.1)) = m) (rq : Rg ql w.heap.size A) (rp : Rg (pl.map (·.2)) A w'.heap.size) (n1 : ¬ SL gm) (n2 : ¬ SM gl) (n3 : gl ≠ gm) (b1 : l.length ≤ 4294967296) (b2 : m.length ≤ 4294967296) :
    UnPost (.mk k b i s l m) w (.returned (.agg #[.int .i64 k, .bool b, .int .i64 i, .string s, .slice (some ⟨gl, 0, none⟩) l.length cl, .slice (some ⟨gm, 0, none⟩) m.length cm])) w' := by
  have e1 : l.length = ql.length := by rw [← hq, List.length_map]
  have e2 : m.length = pl.length := by rw [← hp, List.length_map]
  obtain ⟨h1, h2⟩ := twn_un (b := b) hk hi hs hL hM e1 e2 rq rp n1 n2 n3 b1 b2
  rw [hq, hp] at h1 h2
  exact ⟨_, rfl, hB, h1, h2⟩
set_option maxHeartbeats 4000000 in
set_option maxRecDepth 100000 in
theorem twin_un (v : V) : ∀ (S : Nat → Prop) (cs : List Value) (w : World), v.lies false w S cs → (∀ b, S b → b < w.heap.size) → v.wt ≤ 2147483648 →
    Calls Tryd.prog 18 #[.agg cs.toArray] w (UnPost v w) := by
  induction v using V.ind_v with
  | h k b i s l m ihl ihm =>
  intro S cs w hl hS hwt
  rw [V.lies] at hl
  obtain ⟨al, cl, bl, ol, am, cm, bm, om, rfl, hk, hi, hs, hal, ham, hl1, hm1, _⟩ := hl
  have HL : Hid (liesL false w S l bl ol) := hl1
  have HM : Hid (liesM false w S m bm om) := hm1
  clear hl1 hm1
  rw [V.wt] at hwt
  have hlm := wtL_len l
  have hmm := wtM_len m
  obtain ⟨i0, hi0, hz0, hz1, hz2⟩ := info_parts info25
  obtain ⟨i1, hi1, hy0, hy1, hy2⟩ := info_parts info44
  have hI : Hid (Tryd.prog.info? 25 = some i0 ∧ i0.zero = some (.agg #[.int .i64 0, .bool false, .int .i64 0, .string ⟨#[]⟩, .slice none 0 0, .slice none 0 0]) ∧ i0.size = 6 ∧ i0.bytes = 88) := ⟨hi0, hz0, hz1, hz2⟩
  have hJ : Hid (Tryd.prog.info? 38 = some i1 ∧ i1.zero = some (.agg #[.string ⟨#[]⟩, .int .i64 0, .bool false, .int .i64 0, .string ⟨#[]⟩, .slice none 0 0, .slice none 0 0]) ∧ i1.size = 7 ∧ i1.bytes = 104) := ⟨hi1, hy0, hy1, hy2⟩
  clear hi0 hz0 hz1 hz2 hi1 hy0 hy1 hy2
  have t0 : TwF w #[.int .i64 k, .bool b, .int .i64 i, .string s, .slice al l.length cl, .slice am m.length cm] #[.int .i64 k, .bool b, .int .i64 i, .string s, .slice none 0 0, .slice none 0 0]
      (((w.alloc (.cells #[.int .i64 k, .bool b, .int .i64 i, .string s, .slice al l.length cl, .slice am m.length cm] 25)).alloc (.cells #[.int .i64 0, .bool false, .int .i64 0, .string ⟨#[]⟩, .slice none 0 0, .slice none 0 0] 25)).alloc (.cells #[.int .i64 k, .bool b, .int .i64 i, .string s, .slice none 0 0, .slice none 0 0] 25)) := by
    exact ⟨three_below w _ _ _, (three_allocs w _ _ _).1, (three_allocs w _ _ _).2.1, (three_allocs w _ _ _).2.2⟩
  go_enter Tryd.func18, Tryd.ntmps18
  go_wp2_with fail
  go_loopw [4] (fun e wr => ∃ (j : Nat) (slv : Value) (SL : Nat → Prop) (ql : List (V × Nat × Nat)), j ≤ l.length ∧ e = .int .i64 (j : Int) ∧ TwF w #[.int .i64 k, .bool b, .int .i64 i, .string s, .slice al l.length cl, .slice am m.length cm] #[.int .i64 k, .bool b, .int .i64 i, .string s, slv, .slice none 0 0] wr ∧ OwnR EU 25 6 wr (w.heap.size + 3) SL slv (ql.map some) ∧ Hid (ql.map (·.1) = l.take j ∧ Rg ql (w.heap.size + 3) wr.heap.size)) (fun e _ => l.length - (RowKit.intOf e).toNat)
  case atStart => exact ⟨0, _, _, [], by omega, rfl, t0, OwnR.nil _ _, by simp, Rg.nil _ _⟩
  case round =>
    clear t0
    obtain ⟨j, slv, SL, ql, hj, rfl, tj, oj, HQ⟩ := hrel
    have hqj : ql.length = j := by have := congrArg List.length HQ.out.1; simp at this; omega
    have d4 : wr.cell? ⟨w.heap.size, 4, none⟩ = some (.slice al l.length cl) := by rw [cell_of_block tj.b0]; rfl
    have d5 : wr.cell? ⟨w.heap.size, 5, none⟩ = some (.slice am m.length cm) := by rw [cell_of_block tj.b0]; rfl
    by_cases hjl : j < l.length
    · have y1 : (j : Int) < l.length := by omega
      obtain ⟨hSb, csj, hrow, hlj⟩ := liesL_get HL.out j hjl
      obtain rfl : al = some ⟨bl, ol, none⟩ := hal.at_.resolve_left (by omega)
      have hkw : ∀ b, S b → wr.heap[b]? = w.heap[b]? := fun b hb => tj.below.block b (hS b hb)
      have hrow' := hrow.keep (hkw _ hSb)
      have hlj' := V.lies_keep (R' := false) (S' := S) (fun h => h) hkw (fun _ h => h) _ hlj
      have hwj : (l[j]).wt ≤ 2147483648 := by have := wtL_mem (List.getElem_mem hjl); omega
      have ih := ihl l[j] (List.getElem_mem hjl) S csj wr hlj' (fun b hb => Nat.lt_of_lt_of_le (hS b hb) tj.below.size) hwj
      have HT : Hid (ql.map (·.1) ++ [l[j]] = l.take (j + 1)) := by show _ = _; rw [List.take_succ_eq_append_getElem hjl, HQ.out.1]
      obtain ⟨ek, eb, ei, es, eal, enl, ecl, eam, enm, ecm, rfl⟩ := V.ten hlj'
      obtain ⟨q0, q1, q2, q3, q4, q5⟩ := row6 hrow'
      have hll : (ql.map some).length = j := by simp; omega
      clear hlj hrow hrow'
      go_wp2_with fail
      refine ih.mono ?_
      rintro e w3 ⟨cs3, rfl, bl3, li3, un3⟩
      obtain ⟨fk, fb, fi, fs, fal, fnl, fcl, fam, fnm, fcm, rfl⟩ := V.ten li3
      have t3 := tj.grown (grown_of_below bl3) (fun r e => by cases e)
      have o3 := oj.below keepU bl3
      have hx3 : EU (some (l[j], wr.heap.size, w3.heap.size)) w3 (fun y => wr.heap.size ≤ y ∧ y < w3.heap.size) _ := ⟨li3, un3, fun y h1 h2 => ⟨h1, h2⟩⟩
      have e4 : ∀ o, (w3.alloc o).cell? ⟨w.heap.size + 1 + 1, 4, none⟩ = some slv := fun o => by rw [cell_of_block (t3.grown (World.grownBy_alloc w3 o none) (fun r e => by cases e)).b2]; rfl
      have hw3 : w.heap.size + 3 ≤ w3.heap.size := t3.lt
      have hown : ∀ r, slv.ownBlock = some r → w.heap.size + 3 ≤ r ∧ r < wr.heap.size := fun r hr => oj.lt hr
      have HK : Hid (∀ b, wr.heap.size ≤ b ∧ b < w3.heap.size → w.heap.size + 3 ≤ b ∧ b < w3.heap.size ∧ some b ≠ slv.ownBlock) := fun b hb => ⟨by have := tj.lt; omega, hb.2, fun e => by have := (hown b e.symm).2; omega⟩
      go_wp2_with (at_builtin; go_loud (refine wpl_push keepU _ rfl (.tmp 31) (.tmp 33) 22 rfl (w.heap.size + 3) i0 _ 88 Tryd.underlying22 hI.out.1 hI.out.2.1 hI.out.2.2.1 hI.out.2.2.2 rfl (by decide) (by decide) slv (some (l[j], wr.heap.size, w3.heap.size)) rfl ((o3.alloc keepU _).alloc keepU _) (w3.heap.size + 1) 1 (0, 0) rfl (alloc2_new w3 _ _) rfl one6 (keepU _ _ _ _ _ _ (fun b hb => alloc2_keep w3 _ _ hb.2) (fun _ h => h) hx3) (fun b hb => alloc2_off (HK.out b hb)) (by rw [hll]; omega) (by rw [alloc_size, alloc_size]; omega) ?_))
      intro g cap w5 o5 g5 e5
      have t5 := ((t3.grown (World.grownBy_alloc w3 _ none) (fun r e => by cases e)).grown (World.grownBy_alloc _ _ none) (fun r e => by cases e)).grown g5 (fun r e => (hown r e).1)
      have e6 : w5.cell? ⟨w.heap.size + 1 + 1, 4, none⟩ = some slv := by rw [cell_of_block t5.b2]; rfl
      have e7 : w5.frozen? ⟨w.heap.size + 1 + 1, 4, none⟩ = false := frozen_of_block t5.b2 4
      go_wp2_with fail
      go_roundw
      case rel => exact ⟨j + 1, _, _, ql ++ [(l[j], wr.heap.size, w3.heap.size)], by omega, by go_num, t5.set 4 _ rfl, by rw [List.map_append]; exact o5.set keepU (by omega) _ _, by rw [List.map_append]; exact HT.out, HQ.out.2.push (Nat.le_refl _) (by have := tj.lt; omega) (by rw [size_set1]; have := g5.size; rw [alloc_size, alloc_size] at this; omega) (by rw [size_set1]; have := g5.size; rw [alloc_size, alloc_size] at this; have := bl3.size; omega)⟩
      case measure => simp [RowKit.intOf]; omega
    · obtain rfl : j = l.length := by omega
      have HQ1 : Hid (ql.map (·.1) = l ∧ Rg ql (w.heap.size + 3) wr.heap.size) := ⟨by have := HQ.out.1; rwa [List.take_length] at this, HQ.out.2⟩
      clear HQ
      have y1 : ¬ (l.length : Int) < l.length := by omega
      rename World => wA
      have hownl : ∀ r, slv.ownBlock = some r → w.heap.size + 3 ≤ r ∧ r < wA.heap.size := fun r hr => oj.lt hr
      have hSl := oj.off
      have hA := tj.lt
      have bA := tj.below
      go_wp2_with fail
      go_loopw [6] (fun e wq => ∃ (j : Nat) (smv : Value) (SM : Nat → Prop) (pl : List (ByteArray × V × Nat × Nat)), j ≤ m.length ∧ e = .int .i64 (j : Int) ∧ TwF w #[.int .i64 k, .bool b, .int .i64 i, .string s, .slice al l.length cl, .slice am m.length cm] #[.int .i64 k, .bool b, .int .i64 i, .string s, slv, smv] wq ∧ wA.heap.size ≤ wq.heap.size ∧ OwnR EU 25 6 wq (w.heap.size + 3) SL slv (ql.map some) ∧ OwnR EW 38 7 wq wA.heap.size SM smv (pl.map some) ∧ Hid (pl.map (fun e => (e.1, e.2.1)) = m.take j ∧ Rg (pl.map (·.2)) wA.heap.size wq.heap.size)) (fun e _ => m.length - (RowKit.intOf e).toNat)
      case atStart => exact ⟨0, _, _, [], by omega, rfl, tj, Nat.le_refl _, oj, OwnR.nil _ _, by simp, Rg.nil _ _⟩
      case round =>
        clear tj oj d4 d5
        obtain ⟨j, smv, SM, pl, hj, rfl, tj, bq, oL, oj, HP⟩ := hrel
        have hpj : pl.length = j := by have := congrArg List.length HP.out.1; simp at this; omega
        have d4 : wr.cell? ⟨w.heap.size, 4, none⟩ = some (.slice al l.length cl) := by rw [cell_of_block tj.b0]; rfl
        have d5 : wr.cell? ⟨w.heap.size, 5, none⟩ = some (.slice am m.length cm) := by rw [cell_of_block tj.b0]; rfl
        by_cases hjl : j < m.length
        · have y1 : (j : Int) < m.length := by omega
          obtain ⟨hSb, hks, csj, hrow, hlj⟩ := liesM_get HM.out j hjl
          obtain rfl : am = some ⟨bm, om, none⟩ := ham.at_.resolve_left (by omega)
          have hkw : ∀ b, S b → wr.heap[b]? = w.heap[b]? := fun b hb => tj.below.block b (hS b hb)
          have hrow' := hrow.keep (hkw _ hSb)
          have hlj' := V.lies_keep (R' := false) (S' := S) (fun h => h) hkw (fun _ h => h) _ hlj
          have hwj : (m[j]).2.wt ≤ 2147483648 := by have := wtM_mem (List.getElem_mem hjl); omega
          have ih := ihm m[j] (List.getElem_mem hjl) S csj wr hlj' (fun b hb => Nat.lt_of_lt_of_le (hS b hb) tj.below.size) hwj
          have HT : Hid (pl.map (fun e => (e.1, e.2.1)) ++ [m[j]] = m.take (j + 1)) := by show _ = _; rw [List.take_succ_eq_append_getElem hjl, HP.out.1]
          rcases hxj : m[j] with ⟨key, xv⟩
          rw [hxj] at ih HT hlj' hks hrow'
          obtain ⟨ek, eb, ei, es, eal, enl, ecl, eam, enm, ecm, rfl⟩ := V.ten hlj'
          obtain ⟨q, q0, q1, q2, q3, q4, q5⟩ := row7 hrow'
          have hll : (pl.map some).length = j := by simp; omega
          have hbS := hS _ hSb
          clear hlj hrow hrow' hxj
          go_wp2_with fail
          refine ih.mono ?_
          rintro e w3 ⟨cs3, rfl, bl3, li3, un3⟩
          obtain ⟨fk, fb, fi, fs, fal, fnl, fcl, fam, fnm, fcm, rfl⟩ := V.ten li3
          have t3 := tj.grown (grown_of_below bl3) (fun r e => by cases e)
          have o3 := oj.below keepW bl3
          have p3 := oL.below keepU bl3
          have hw3 : w.heap.size + 3 ≤ w3.heap.size := t3.lt
          have hown : ∀ r, smv.ownBlock = some r → wA.heap.size ≤ r ∧ r < wr.heap.size := fun r hr => oj.lt hr
          have HK : Hid (∀ b, wr.heap.size ≤ b ∧ b < w3.heap.size → wA.heap.size ≤ b ∧ b < w3.heap.size ∧ some b ≠ smv.ownBlock) := fun b hb => ⟨by omega, hb.2, fun e => by have := (hown b e.symm).2; omega⟩
          have tw : ∀ o, TwF w _ _ (w3.alloc o) := fun o => t3.grown (World.grownBy_alloc w3 o none) (fun r e => by cases e)
          have e5 : ∀ o, (w3.alloc o).cell? ⟨w.heap.size + 1 + 1, 5, none⟩ = some smv := fun o => by rw [cell_of_block (tw o).b2]; rfl
          have e5c : ∀ o o', ((w3.alloc o).alloc o').cell? ⟨w.heap.size + 1 + 1, 5, none⟩ = some smv := fun o o' => by rw [cell_of_block ((tw o).grown (World.grownBy_alloc _ o' none) (fun r e => by cases e)).b2]; rfl
          have e5b : ∀ o, (w3.alloc o).cell? ⟨w.heap.size, 5, none⟩ = some (.slice (some ⟨bm, om, none⟩) m.length cm) := fun o => by rw [cell_of_block (tw o).b0]; rfl
          have hq : ∀ (o : Obj) {u : Value} {p : Nat}, wr.cell? ⟨bm, p, none⟩ = some u → (w3.alloc o).cell? ⟨bm, p, none⟩ = some u := fun o u p h => ((grown_of_below bl3).trans' o).cell h (by simp)
          have q' := fun o => hq o q
          go_wp2_with fail
          have T5 : ∀ (o o' : Obj) (w5 : World), ((w3.alloc o).alloc o').drew.grownBy w5 smv.ownBlock → TwF w _ _ w5 ∧ OwnR EU 25 6 w5 (w.heap.size + 3) SL slv (ql.map some) ∧ wA.heap.size ≤ w5.heap.size ∧ w3.heap.size ≤ w5.heap.size := fun o o' w5 g5 =>
            ⟨(((tw o).grown (World.grownBy_alloc _ o' none) (fun r e => by cases e)).grown (grown_drew _ none) (fun r e => by cases e)).grown g5 (fun r e => by have := (hown r e).1; omega),
              (((p3.alloc keepU o).alloc keepU o').drew keepU).keep keepU g5 (fun r e => ⟨fun h => by have := (hSl r h).2.1; have := (hown r e).1; omega, fun h => by have := (hownl r h).2; have := (hown r e).1; omega⟩),
              (by
                have := g5.size
                have e : ((w3.alloc o).alloc o').drew.heap.size = w3.heap.size + 1 + 1 := by show ((w3.alloc o).alloc o').heap.size = _; rw [alloc_size, alloc_size]
                have := bl3.size
                omega), (by
                have := g5.size
                have e : ((w3.alloc o).alloc o').drew.heap.size = w3.heap.size + 1 + 1 := by show ((w3.alloc o).alloc o').heap.size = _; rw [alloc_size, alloc_size]
                omega)⟩
          go_region_law (refine step_push keepW rfl (.tmp 51) (.tmp 60) 23 rfl wA.heap.size i1 _ 104 Tryd.underlying23 hJ.out.1 hJ.out.2.1 hJ.out.2.2.1 hJ.out.2.2.2 rfl (by decide) (by decide) smv (some (key, xv, wr.heap.size, w3.heap.size)) rfl (((o3.alloc keepW _).alloc keepW _).drew keepW) (w3.heap.size + 1) 1 (0, 0) rfl (alloc2_new w3 _ _) rfl one7 (keepW _ _ _ _ _ _ (fun b hb => alloc2_keep w3 _ _ hb.2) (fun _ h => h) ⟨_, rfl, hks, li3, un3, fun y h1 h2 => ⟨h1, h2⟩⟩) (fun b hb => alloc2_off (HK.out b hb)) (by rw [hll]; omega) (by show wA.heap.size ≤ ((w3.alloc _).alloc _).heap.size; rw [alloc_size, alloc_size]; have := bl3.size; omega) ?_; intro g cap w5 o5 g5 e5; rw [hll] at o5 ⊢; obtain ⟨t5, p5, z5, z6⟩ := T5 _ _ w5 g5; have e6 : w5.cell? ⟨w.heap.size + 1 + 1, 5, none⟩ = some smv := by { rw [cell_of_block t5.b2]; rfl }; have e7 : w5.frozen? ⟨w.heap.size + 1 + 1, 5, none⟩ = false := frozen_of_block t5.b2 5)
          all_goals go_wp2_with fail
          all_goals go_roundw
          all_goals first
            | exact ⟨j + 1, _, _, pl ++ [(key, xv, wr.heap.size, w3.heap.size)], by omega, by go_num, t5.set 5 _ rfl, by simpa using z5, p5.set keepU (by omega) _ _, by rw [List.map_append]; exact o5.set keepW (by omega) _ _, by rw [List.map_append]; exact HT.out, by rw [List.map_append]; exact HP.out.2.push (Nat.le_refl _) (by omega) (by rw [size_set1]; omega) (by rw [size_set1]; have := bl3.size; omega)⟩
            | (simp [RowKit.intOf]; omega)
        · obtain rfl : j = m.length := by omega
          have HP1 : Hid (pl.map (fun e => (e.1, e.2.1)) = m ∧ Rg (pl.map (·.2)) wA.heap.size wr.heap.size) := ⟨by have := HP.out.1; rwa [List.take_length] at this, HP.out.2⟩
          clear HP
          have y1 : ¬ (m.length : Int) < m.length := by omega
          have hown : ∀ r, smv.ownBlock = some r → wA.heap.size ≤ r ∧ r < wr.heap.size := fun r hr => oj.lt hr
          have hw3 := tj.lt
          have f4 : wr.cell? ⟨w.heap.size + 1 + 1, 4, none⟩ = some slv := by rw [cell_of_block tj.b2]; rfl
          go_wp2_with (at_builtin; go_loud (refine wpl_push keepU _ rfl (.tmp 64) (.tmp 66) 22 rfl (w.heap.size + 3) i0 _ 88 Tryd.underlying22 hI.out.1 hI.out.2.1 hI.out.2.2.1 hI.out.2.2.2 rfl (by decide) (by decide) slv Option.none (Sx := fun _ => False) rfl (oL.alloc keepU _) wr.heap.size 1 (0, 0) rfl (heap_alloc_new wr _) rfl one6 trivial (fun b hb => hb.elim) (by simp; omega) (by rw [alloc_size]; omega) ?_))
          intro g1 c1 w5 o5 g5 e5
          have t5 := (tj.grown (World.grownBy_alloc wr _ none) (fun r e => by cases e)).grown g5 (fun r e => (hownl r e).1)
          have oM5 := (oj.alloc keepW _).keep keepW g5 (fun r e => ⟨fun h => by have := (oj.off r h).1; have := (hownl r e).2; omega, fun h => by have := (hown r h).1; have := (hownl r e).2; omega⟩)
          have e6 : w5.cell? ⟨w.heap.size + 1 + 1, 4, none⟩ = some slv := by rw [cell_of_block t5.b2]; rfl
          have e6b : w5.cell? ⟨w.heap.size + 1 + 1, 5, none⟩ = some smv := by rw [cell_of_block t5.b2]; rfl
          have e7 : ∀ i, w5.frozen? ⟨w.heap.size + 1 + 1, i, none⟩ = false := frozen_of_block t5.b2
          have t6 := t5.set 4 (.slice (some ⟨g1, 0, none⟩) (l.length + 1) c1) rfl
          have o6 := o5.set keepU (show w.heap.size + 1 + 1 < w.heap.size + 3 by omega) 4 (.slice (some ⟨g1, 0, none⟩) (l.length + 1) c1)
          have oM6 := oM5.set keepW (show w.heap.size + 1 + 1 < wA.heap.size by omega) 4 (.slice (some ⟨g1, 0, none⟩) (l.length + 1) c1)
          have hg1 : w.heap.size + 3 ≤ g1 ∧ g1 < w5.heap.size := o5.lt rfl
          have hz5 : wr.heap.size + 1 ≤ w5.heap.size := by have := g5.size; rwa [alloc_size] at this
          have hz6 : (w5.setCell ⟨w.heap.size + 1 + 1, 4, none⟩ (.slice (some ⟨g1, 0, none⟩) (l.length + 1) c1)).heap.size = w5.heap.size := by simp
          have e6c : ∀ o, ((w5.setCell ⟨w.heap.size + 1 + 1, 4, none⟩ (.slice (some ⟨g1, 0, none⟩) (l.length + 1) c1)).alloc o).cell? ⟨w.heap.size + 1 + 1, 5, none⟩ = some smv := fun o => by rw [cell_of_block (t6.grown (World.grownBy_alloc _ o none) (fun r e => by cases e)).b2]; rfl
          go_wp2_with (at_builtin; go_loud (refine wpl_push keepW _ rfl (.tmp 70) (.tmp 72) 23 rfl wA.heap.size i1 _ 104 Tryd.underlying23 hJ.out.1 hJ.out.2.1 hJ.out.2.2.1 hJ.out.2.2.2 rfl (by decide) (by decide) smv Option.none (Sx := fun _ => False) rfl (oM6.alloc keepW _) w5.heap.size 1 (0, 0) rfl (by rw [← hz6]; exact heap_alloc_new _ _) rfl one7 trivial (fun b hb => hb.elim) (by simp; omega) (by rw [alloc_size, hz6]; omega) ?_))
          intro g2 c2 w7 o7 g7 e8
          have t7 := (t6.grown (World.grownBy_alloc _ _ none) (fun r e => by cases e)).grown g7 (fun r e => by have := (hown r e).1; omega)
          have oL7 := (o6.alloc keepU _).keep keepU g7 (fun r e => ⟨fun h => by have := (hSl r h).2.1; have := (hown r e).1; omega, fun h => by
            have h1 := hown r e
            have h2 : g1 = r := Option.some.inj h
            rcases e5 with h3 | h3
            · have := (hownl g1 h3).2; omega
            · omega⟩)
          have hg2 : wA.heap.size ≤ g2 ∧ g2 < w7.heap.size := o7.lt rfl
          have n1 : ¬ SL g2 := fun h => by have := (hSl g2 h).2.1; omega
          have n2 : ¬ SM g1 := fun h => by
            have h1 := oj.off g1 h
            rcases e5 with h3 | h3
            · have := (hownl g1 h3).2; omega
            · omega
          have n3 : g1 ≠ g2 := by
            rcases e8 with h3 | h3
            · have h4 := hown g2 h3
              rcases e5 with h5 | h5
              · have := (hownl g1 h5).2; omega
              · omega
            · omega
          have HE : Hid (OwnR EU 25 6 w7 (w.heap.size + 3) SL (.slice (some ⟨g1, 0, none⟩) (l.length + 1) c1) (ql.map some ++ [none]) ∧ OwnR EW 38 7 w7 wA.heap.size SM (.slice (some ⟨g2, 0, none⟩) (m.length + 1) c2) (pl.map some ++ [none])) := ⟨oL7, o7⟩
          have hc1 : (l.length : Int) ≤ c1 := by have := oL7.le.1; simp at this; omega
          have hc2 : (m.length : Int) ≤ c2 := by have := o7.le.1; simp at this; omega
          have a4 : w7.cell? ⟨w.heap.size, 4, none⟩ = some (.slice al l.length cl) := by rw [cell_of_block t7.b0]; rfl
          have a5 : w7.cell? ⟨w.heap.size, 5, none⟩ = some (.slice am m.length cm) := by rw [cell_of_block t7.b0]; rfl
          have x0 : w7.cell? ⟨w.heap.size + 1 + 1, 0, none⟩ = some (.int .i64 k) := by rw [cell_of_block t7.b2]; rfl
          have x1 : w7.cell? ⟨w.heap.size + 1 + 1, 1, none⟩ = some (.bool b) := by rw [cell_of_block t7.b2]; rfl
          have x2 : w7.cell? ⟨w.heap.size + 1 + 1, 2, none⟩ = some (.int .i64 i) := by rw [cell_of_block t7.b2]; rfl
          have x3 : w7.cell? ⟨w.heap.size + 1 + 1, 3, none⟩ = some (.string s) := by rw [cell_of_block t7.b2]; rfl
          have x4 : w7.cell? ⟨w.heap.size + 1 + 1, 4, none⟩ = some (.slice (some ⟨g1, 0, none⟩) (l.length + 1) c1) := by rw [cell_of_block t7.b2]; rfl
          have x5 : w7.cell? ⟨w.heap.size + 1 + 1, 5, none⟩ = some smv := by rw [cell_of_block t7.b2]; rfl
          have xf : ∀ i, w7.frozen? ⟨w.heap.size + 1 + 1, i, none⟩ = false := frozen_of_block t7.b2
          have r0 : w7.cell? ⟨w.heap.size + 1, 0, none⟩ = some (.int .i64 0) := by rw [cell_of_block t7.b1]; rfl
          have r1 : w7.cell? ⟨w.heap.size + 1, 1, none⟩ = some (.bool false) := by rw [cell_of_block t7.b1]; rfl
          have r2 : w7.cell? ⟨w.heap.size + 1, 2, none⟩ = some (.int .i64 0) := by rw [cell_of_block t7.b1]; rfl
          have r3 : w7.cell? ⟨w.heap.size + 1, 3, none⟩ = some (.string ⟨#[]⟩) := by rw [cell_of_block t7.b1]; rfl
          have r4 : w7.cell? ⟨w.heap.size + 1, 4, none⟩ = some (.slice none 0 0) := by rw [cell_of_block t7.b1]; rfl
          have r5 : w7.cell? ⟨w.heap.size + 1, 5, none⟩ = some (.slice none 0 0) := by rw [cell_of_block t7.b1]; rfl
          have rf : ∀ i, w7.frozen? ⟨w.heap.size + 1, i, none⟩ = false := frozen_of_block t7.b1
          have hB7 := t7.below
          have hz7 : wr.heap.size ≤ w7.heap.size := by have := g7.size; rw [alloc_size, hz6] at this; omega
          clear t5 t6 t7 o5 o6 oM5 oM6 oL7 o7 g5 g7 e5 e8 e6 e6b e6c e7 hz6 oL oj tj d4 d5 f4
          go_wp2_with fail
          (try simp only [Exit.inBlock, Exit.then])
          refine bodyPost_ret (v := .agg #[.int .i64 k, .bool b, .int .i64 i, .string s, .slice (some ⟨g1, 0, none⟩) l.length c1, .slice (some ⟨g2, 0, none⟩) m.length c2]) ?_ rfl ?_
          · rw [results_cell1 rfl]
            go_simp
          · refine twn_post hk hi hs ?_ ?_ ?_ HQ1.out.1 HP1.out.1 (HQ1.out.2.mono (by omega) (Nat.le_refl _)) (HP1.out.2.mono (Nat.le_refl _) ?_) n1 n2 n3 (by omega) (by omega)
            · exact below_set9 hB7 (by omega) (by omega) _ _ _ _ _ _ _ _ _ _ _ _ _ _ _ _ _ _ 
            · exact (HE.out.1.set9 keepU (by omega) (by omega) _ _ _ _ _ _ _ _ _ _ _ _ _ _ _ _ _ _ ).base (by omega)
            · exact (HE.out.2.set9 keepW (by omega) (by omega) _ _ _ _ _ _ _ _ _ _ _ _ _ _ _ _ _ _ ).base (by omega)
            · simp only [size_set1]
              exact hz7
end Go.Proofs.YthgfomblodhoaaaDoor
