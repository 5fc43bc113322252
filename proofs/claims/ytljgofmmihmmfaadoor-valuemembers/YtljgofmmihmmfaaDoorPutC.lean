import Derived.Test.YtljgofmmihmmfaaDoorPutB
/- freeholdlaw02.put: the very members. -/
set_option linter.unusedSimpArgs false
set_option linter.unusedVariables false
namespace Go.Proofs.YtljgofmmihmmfaaDoor
open Go.RowKit

def lessKey (key : ByteArray) (y : Mem) : Bool := Op.bytesLess y.1.toList key.toList
def keyIs (key : ByteArray) : Option Mem → Bool
  | some y => y.1.toList == key.toList
  | none => false
/-- what 'put' answers -/
def putF (old : List Mem) (x : Mem) : List Mem :=
  if keyIs x.1 old[(old.filter (lessKey x.1)).length]? = true then old else old.filter (lessKey x.1) ++ [x] ++ old.drop (old.filter (lessKey x.1)).length
theorem putF_new {ms sl : List Mem} {x : Mem} (h : sl = ms.filter (lessKey x.1)) (hat : sl.length < ms.length) (hk : ¬ (ms[sl.length]).1.toList = x.1.toList) : sl ++ [x] ++ ms.drop sl.length = putF ms x := by
  rw [putF, ← h, if_neg]
  rw [List.getElem?_eq_getElem hat, keyIs]
  simpa using hk
theorem putF_old {ms sl : List Mem} {x : Mem} (h : sl = ms.filter (lessKey x.1)) (hat : sl.length < ms.length) (hk : (ms[sl.length]).1.toList = x.1.toList) : ms = putF ms x := by
  rw [putF, ← h, if_pos]
  rw [List.getElem?_eq_getElem hat, keyIs]
  simpa using hk
theorem putF_end {ms sl : List Mem} {x : Mem} (h : sl = ms.filter (lessKey x.1)) (hat : ms.length ≤ sl.length) : sl ++ [x] = putF ms x := by
  rw [putF, ← h, List.getElem?_eq_none hat, if_neg (by simp [keyIs]), List.drop_eq_nil_of_le hat, List.append_nil]
theorem filter_no {ms : List Mem} {key : ByteArray} {j : Nat} (hj : j < ms.length) (h : Op.bytesLess (ms[j]).1.toList key.toList = false) {sl : List Mem} (hs : sl = (ms.take j).filter (lessKey key)) : sl = (ms.take (j + 1)).filter (lessKey key) := by
  rw [List.take_succ_eq_append_getElem hj, List.filter_append, ← hs]
  simp [lessKey, h]
theorem filter_yes {ms : List Mem} {key : ByteArray} {j : Nat} (hj : j < ms.length) (h : Op.bytesLess (ms[j]).1.toList key.toList = true) {sl : List Mem} (hs : sl = (ms.take j).filter (lessKey key)) : sl ++ [ms[j]] = (ms.take (j + 1)).filter (lessKey key) := by
  rw [List.take_succ_eq_append_getElem hj, List.filter_append, ← hs]
  simp [lessKey, h]
def PutPostS (T : Nat → Prop) (old : List Mem) (x : Mem) (w : World) (e : Ending) (w' : World) : Prop :=
  ∃ (ao : Option Addr) (cap b o : Nat), e = .returned (.slice ao (putF old x).length cap) ∧ Headed ao (putF old x).length cap b o ∧ liesM false w' (fun y => T y ∨ (w.heap.size ≤ y ∧ y < w'.heap.size)) (putF old x) b o ∧ Below w.heap.size w w'
theorem PutPostS.of {T : Nat → Prop} {old : List Mem} {x : Mem} {w : World} {e : Ending} {w' : World} {ms : List Mem} (h : ms = putF old x) (h1 : ∃ (ao : Option Addr) (cap b o : Nat), e = .returned (.slice ao ms.length cap) ∧ Headed ao ms.length cap b o ∧ liesM false w' (fun y => T y ∨ (w.heap.size ≤ y ∧ y < w'.heap.size)) ms b o ∧ Below w.heap.size w w') : PutPostS T old x w e w' := by
  subst h; exact h1

set_option maxHeartbeats 8000000 in
set_option maxRecDepth 100000 in
theorem put_srt (ms : List Mem) (ao : Option Addr) (cap b o : Nat) (key : ByteArray) (v : V) (cs : List Value) (w : World) (T : Nat → Prop) (hT0 : ∀ x, T x → x < w.heap.size) (hh : Headed ao ms.length cap b o) (hl : liesM false w T ms b o) (hv : v.lies false w T cs) (hkz : key.size ≤ maxLen)
    (hwt : ms.length ≤ 1000000) : Calls Tryd.prog 48 #[.slice ao ms.length cap, .agg (.string key :: cs).toArray] w (PutPostS T ms (key, v) w) := by
  have hT : Hid (∀ x, T x → x < w.heap.size) := hT0
  clear hT0
  have HL : Hid (liesM false w T ms b o) := hl
  have HV : Hid (v.lies false w T cs) := hv
  obtain ⟨ek, eb, ei, es, eal, enl, ecl, eam, enm, ecm, rfl⟩ := V.ten hv
  clear hl hv
  obtain ⟨i1, hi1, hy0, hy1, hy2⟩ := info_parts info44
  have hJ : Hid (Tryd.prog.info? 44 = some i1 ∧ i1.zero = some (.agg #[.string ⟨#[]⟩, .int .i64 0, .bool false, .int .i64 0, .string ⟨#[]⟩, .slice none 0 0, .slice none 0 0]) ∧ i1.size = 7 ∧ i1.bytes = 104) := ⟨hi1, hy0, hy1, hy2⟩
  clear hi1 hy0 hy1 hy2
  have hb0 := box_row w [.string key, .int .i64 ek, .bool eb, .int .i64 ei, .string es, .slice eal enl ecl, .slice eam enm ecm] 44
  have hz0 := alloc_size w (.cells #[.string key, .int .i64 ek, .bool eb, .int .i64 ei, .string es, .slice eal enl ecl, .slice eam enm ecm] 44)
  have B0 : Below w.heap.size w (w.alloc (.cells #[.string key, .int .i64 ek, .bool eb, .int .i64 ei, .string es, .slice eal enl ecl, .slice eam enm ecm] 44)) := (Below.refl _ _).alloc (Nat.le_refl _) _
  go_enter Tryd.func48, Tryd.ntmps48
  go_wp2_with fail
  generalize (w.alloc (.cells #[.string key, .int .i64 ek, .bool eb, .int .i64 ei, .string es, .slice eal enl ecl, .slice eam enm ecm] 44)) = w0 at *
  go_loopw [5, 6] (fun e5 e6 wr => ∃ (j : Nat) (sl : List Mem) (so : Option Addr) (sc : Nat) (S : Nat → Prop), j ≤ ms.length ∧ e6 = .int .i64 (j : Int) ∧ sl.length ≤ j ∧ Hid (sl = (ms.take j).filter (lessKey key)) ∧ Hid (∀ x, S x → T x) ∧ e5 = .slice so sl.length sc ∧ OwnM false wr 0 S (.slice so sl.length sc) (sl.map some) ∧ (∀ g, (Value.slice so sl.length sc).ownBlock = some g → w0.heap.size ≤ g) ∧ Below w0.heap.size w0 wr) (fun _ e _ => ms.length - (RowKit.intOf e).toNat)
  case atStart => exact ⟨0, [], none, 0, _, by omega, rfl, by simp, (by show _ = _; simp), (fun x hx => (hx : False).elim), rfl, OwnR.nil _ _, fun g hg => by simp [Value.ownBlock] at hg, Below.refl _ _⟩
  case round =>
    obtain ⟨j, sl, so, sc, S, hj, rfl, hsl, hws, hST, rfl, os, hgs, bj⟩ := hrel
    have hzr := bj.size
    have hb1 := hb0.keep (bj.block _ (by omega))
    obtain ⟨f, f0, f1, f2, f3, f4, f5⟩ := row7 hb1
    simp only [Nat.zero_add] at f f0 f1 f2 f3 f4 f5
    by_cases hjl : j < ms.length
    · have y1 : (j : Int) < ms.length := by omega
      obtain ⟨hSb, hks, csj, hrow, hlj⟩ := liesM_get HL.out j hjl
      obtain rfl : ao = some ⟨b, o, none⟩ := hh.at_.resolve_left (by omega)
      have hkw : ∀ x, T x → wr.heap[x]? = w.heap[x]? := fun x hx => (bj.block x (by have : x < w.heap.size := hT.out x hx; omega)).trans (B0.block x (hT.out x hx))
      obtain ⟨qk, qb, qi, qs, qal, qnl, qcl, qam, qnm, qcm, rfl⟩ := V.ten hlj
      obtain ⟨q, q0, q1, q2, q3, q4, q5⟩ := row7 (hrow.keep (hkw _ hSb))
      have hbl : b < wr.heap.size := World.block_lt_of_cell? wr _ q
      have hljr := V.lies_keep (R' := false) (S' := T) (fun h => h) hkw (fun _ h => h) _ hlj
      have HW : Hid (ms[j] ∈ ms) := List.getElem_mem hjl
      have x0 : ∀ x : Sub wr.heap.size wr, _ := sub_cell q hbl
      have x1 : ∀ x : Sub wr.heap.size wr, _ := sub_cell f (by omega)
      cases hL : Op.bytesLess (ms[j]).1.toList key.toList
      · have hwn : Hid (sl = (ms.take (j + 1)).filter (lessKey key)) := filter_no hjl hL hws.out
        go_wp2_with fail
        refine wp_region_sub wr.heap.size (by kernel_rfl) (by kernel_rfl) ?_
        repeat (go_big_quiet_step (fail))
        refine wpQuiet_nil ?_
        rintro wq ⟨⟨wq', bq⟩, hq⟩
        have hq' : wq = wq' := hq
        subst hq'
        clear hq
        go_wp2_with fail
        go_roundw
        case rel => exact ⟨j + 1, sl, so, sc, S, by omega, by go_num, by omega, hwn, hST, rfl, os.below (keepM false) bq, hgs, bj.trans (bq.mono hzr)⟩
        case measure => simp [RowKit.intOf]; omega
      · go_wp2_with fail
        refine wp_region_sub wr.heap.size (by kernel_rfl) (by kernel_rfl) ?_
        repeat (go_big_quiet_step (fail))
        refine wpQuiet_nil ?_
        rintro wq ⟨⟨wq', bq⟩, hq⟩
        have hq' : wq = wq' := hq
        subst hq'
        clear hq
        have hzq := bq.size
        have oq := os.below (keepM false) bq
        have hljq := V.lies_keep (R' := false) (S' := T) (fun h => h) (fun x hx => (bq.block x (by have : x < w.heap.size := hT.out x hx; omega))) (fun _ h => h) _ hljr
        replace q := (bq.cell (p := ⟨b, o + j * 7, none⟩) hbl).trans q
        replace q0 := (bq.cell (p := ⟨b, o + j * 7 + 1, none⟩) hbl).trans q0
        replace q1 := (bq.cell (p := ⟨b, o + j * 7 + 2, none⟩) hbl).trans q1
        replace q2 := (bq.cell (p := ⟨b, o + j * 7 + 3, none⟩) hbl).trans q2
        replace q3 := (bq.cell (p := ⟨b, o + j * 7 + 4, none⟩) hbl).trans q3
        replace q4 := (bq.cell (p := ⟨b, o + j * 7 + 5, none⟩) hbl).trans q4
        replace q5 := (bq.cell (p := ⟨b, o + j * 7 + 6, none⟩) hbl).trans q5
        have hE : ∀ ob, EM false (some ms[j]) (wq.alloc ob) T [.string (ms[j]).1, .int .i64 qk, .bool qb, .int .i64 qi, .string qs, .slice qal qnl qcl, .slice qam qnm qcm] := fun ob =>
          ⟨_, rfl, hks, V.lies_keep (fun h => h) (fun x hx => Below.heap_alloc wq ob x (by have : x < w.heap.size := hT.out x hx; omega)) (fun _ h => h) _ hljq⟩
        have hlen7 : ((sl.map some).length : Nat) = sl.length := by simp
        have hSx : ∀ x, T x → x < wq.heap.size ∧ some x ≠ (Value.slice so sl.length sc).ownBlock := fun x hx => ⟨by have : x < w.heap.size := hT.out x hx; omega, fun e => by have := hgs x e.symm; have : x < w.heap.size := hT.out x hx; omega⟩
        have hwy : Hid (sl ++ [ms[j]] = (ms.take (j + 1)).filter (lessKey key)) := filter_yes hjl hL hws.out
        generalize hmj : ms[j] = mj at *
        obtain ⟨kj, vj⟩ := mj
        clear x0 x1 hlj hljr hljq hrow
        go_wp2_with (at_builtin; go_loud (refine wpl_push (keepM false) _ rfl (.tmp 22) (.tmp 27) 23 rfl 0 i1 _ 104 Tryd.underlying23 hJ.out.1 hJ.out.2.1 hJ.out.2.2.1 hJ.out.2.2.2 rfl (by decide) (by decide) (.slice so sl.length sc) (some (kj, vj)) (Sx := T) rfl (oq.alloc (keepM false) _) wq.heap.size 1 (0, 0) rfl (heap_alloc_new wq _) rfl one7 (hE _) (fun x hx => ⟨Nat.zero_le _, by rw [alloc_size]; have := (hSx x hx).1; omega, (hSx x hx).2⟩) (by rw [hlen7]; omega) (Nat.zero_le _) ?_))
        intro g c3 w5 o5 gr5 e6
        have hz5 := gr5.size
        rw [alloc_size] at hz5
        have HO : Hid (OwnM false w5 0 (fun b => S b ∨ T b) (.slice (some ⟨g, 0, none⟩) (sl ++ [(kj, vj)]).length c3) ((sl ++ [(kj, vj)]).map some)) := by
          show OwnR _ _ _ _ _ _ _ _
          rw [List.map_append, List.length_append]
          exact o5
        have HG : Hid (∀ g', (Value.slice (some ⟨g, 0, none⟩) (sl ++ [(kj, vj)]).length c3).ownBlock = some g' → w0.heap.size ≤ g') := fun g' hg' => by
          simp only [Value.ownBlock, Option.some.injEq] at hg'
          subst hg'
          rcases e6 with h | h
          · exact hgs g h
          · omega
        have HB : Hid (Below w0.heap.size w0 w5) := (bj.trans (bq.mono hzr)).trans (((Below.refl w0.heap.size wq).alloc (by omega) _).grown gr5 (by rw [alloc_size]; omega) (fun r hr => hgs r hr))
        have hl1 : (sl ++ [(kj, vj)]).length = sl.length + 1 := by simp
        have hw1 : Hid (sl ++ [(kj, vj)] = (ms.take (j + 1)).filter (lessKey key)) := hwy.out
        clear o5 gr5
        go_wp2_with fail
        go_roundw
        case rel => exact ⟨j + 1, sl ++ [(kj, vj)], some ⟨g, 0, none⟩, c3, _, by omega, by go_num, by omega, hw1, (fun x hx => hx.elim (hST.out x) id), by rw [hl1], HO.out, HG.out, HB.out⟩
        case measure => simp [RowKit.intOf]; omega
    · obtain rfl : j = ms.length := by omega
      have HWE : Hid (sl = ms.filter (lessKey key)) := by have h := hws.out; rw [List.take_length] at h; exact h
      clear hws
      have y1 : ¬ (ms.length : Int) < ms.length := by omega
      have hBw : Below w.heap.size w wr := B0.trans (bj.mono (by omega))
      by_cases hat : sl.length < ms.length
      · have yat : (sl.length : Int) < ms.length := by omega
        obtain ⟨hSb, hks, csj, hrow, hlj⟩ := liesM_get HL.out sl.length hat
        obtain rfl : ao = some ⟨b, o, none⟩ := hh.at_.resolve_left (by omega)
        have q : wr.cell? ⟨b, o + sl.length * 7, none⟩ = some (.string (ms[sl.length]).1) := hrow.keep (hBw.block _ (hT.out _ hSb)) 0 _ rfl
        have hbl : b < wr.heap.size := World.block_lt_of_cell? wr _ q
        have x0 : ∀ x : Sub wr.heap.size wr, _ := sub_cell q hbl
        have x1 : ∀ x : Sub wr.heap.size wr, _ := sub_cell f (by omega)
        cases hK : ((ms[sl.length]).1.toList == key.toList)
        · have HN : Hid (¬ (ms[sl.length]).1.toList = key.toList) := by show ¬ _; simpa using hK
          go_wp2_with fail
          refine wp_region_sub wr.heap.size (by kernel_rfl) (by kernel_rfl) ?_
          repeat (go_big_quiet_step (fail))
          refine wpQuiet_nil ?_
          rintro wq ⟨⟨wq', bq⟩, hq⟩
          have hq' : wq = wq' := hq
          subst hq'
          clear hq
          have hzq := bq.size
          have oq := os.below (keepM false) bq
          have hb2 := hb1.keep (bq.block _ (by omega))
          obtain ⟨g, g0, g1, g2, g3, g4, g5⟩ := row7 hb2
          simp only [Nat.zero_add] at g g0 g1 g2 g3 g4 g5
          have hBq : Below w.heap.size w wq := hBw.trans (bq.mono (by omega))
          have hE : ∀ ob, EM false (some (key, v)) (wq.alloc ob) T [.string key, .int .i64 ek, .bool eb, .int .i64 ei, .string es, .slice eal enl ecl, .slice eam enm ecm] := fun ob =>
            ⟨_, rfl, hkz, V.lies_keep (fun h => h) (fun x hx => (Below.heap_alloc wq ob x (by have : x < w.heap.size := hT.out x hx; have := hBq.size; omega)).trans (hBq.block x (hT.out x hx))) (fun _ h => h) _ HV.out⟩
          have hlen7 : ((sl.map some).length : Nat) = sl.length := by simp
          have hSx : ∀ x, T x → x < wq.heap.size ∧ some x ≠ (Value.slice so sl.length sc).ownBlock := fun x hx => ⟨by have : x < w.heap.size := hT.out x hx; omega, fun e => by have := hgs x e.symm; have : x < w.heap.size := hT.out x hx; omega⟩
          go_wp2_with (at_builtin; go_loud (refine wpl_push (keepM false) _ rfl (.tmp 46) (.tmp 48) 23 rfl 0 i1 _ 104 Tryd.underlying23 hJ.out.1 hJ.out.2.1 hJ.out.2.2.1 hJ.out.2.2.2 rfl (by decide) (by decide) (.slice so sl.length sc) (some (key, v)) (Sx := T) rfl (oq.alloc (keepM false) _) wq.heap.size 1 (0, 0) rfl (heap_alloc_new wq _) rfl one7 (hE _) (fun x hx => ⟨Nat.zero_le _, by rw [alloc_size]; have := (hSx x hx).1; omega, (hSx x hx).2⟩) (by rw [hlen7]; omega) (Nat.zero_le _) ?_))
          intro h1 c3 w5 o5 gr5 e6
          have hz5 := gr5.size
          rw [alloc_size] at hz5
          have hB5 : Below w.heap.size w w5 := hBq.trans (((Below.refl w.heap.size wq).alloc (by have := hBq.size; omega) _).grown gr5 (by rw [alloc_size]; have := hBq.size; omega) (fun r hr => by have := hgs r hr; omega))
          have hg5 : w.heap.size ≤ h1 := by
            rcases e6 with h | h
            · have := hgs h1 h; omega
            · omega
          have HO : Hid (OwnM false w5 0 (fun b => S b ∨ T b) (.slice (some ⟨h1, 0, none⟩) (sl.length + 1) c3) (sl.map some ++ [some (key, v)])) := o5
          have hln : sl.length + 1 = (sl.map some ++ [some (key, v)]).length := by simp
          have hdl : ((ms.drop sl.length).map some : List (Option Mem)).length = ms.length - sl.length := by simp
          obtain ⟨cx, x1, x2, x3, x4⟩ := rows_flat (w := w5) (b := b) (sz := 7) (Q := fun j cs => ∀ h : j < ((ms.drop sl.length).map some : List (Option Mem)).length, EM false ((ms.drop sl.length).map some)[j] w5 T cs) (P := fun u => u.oneCell' = true) (ms.length - sl.length) (o + sl.length * 7) (fun j hj => by
            obtain ⟨hSb, hks, csj, hrow, hlj⟩ := liesM_get HL.out (sl.length + j) (by omega)
            have h6 := lies_one hlj
            refine ⟨.string (ms[sl.length + j]'(by omega)).1 :: csj, by simp [h6.1], fun u hu => ?_, ?_, fun h => ?_⟩
            · rcases List.mem_cons.1 hu with rfl | hu
              · rfl
              · exact h6.2 u hu
            · have := hrow.keep (hB5.block _ (hT.out _ hSb))
              rwa [show o + (sl.length + j) * 7 = o + sl.length * 7 + j * 7 by omega] at this
            · rw [List.getElem_map, List.getElem_drop]
              exact ⟨_, rfl, hks, V.lies_keep (fun h => h) (fun x hx => hB5.block x (hT.out x hx)) (fun _ h => h) _ hlj⟩)
          have hcapne : ¬ cap = sl.length := by have := hh.le; omega
          go_wp2_with (at_builtin; go_loud (refine wpl_pushes (keepM false) _ _ rfl (.tmp 50) (.tmp 53) 23 rfl i1 _ 104 Tryd.underlying23 hJ.out.1 hJ.out.2.1 hJ.out.2.2.1 hJ.out.2.2.2 rfl (by decide) (by decide) (Sx := T) (ys := (ms.drop sl.length).map some) (cx := cx) hln rfl HO.out (some ⟨b, o + sl.length * 7, none⟩) (ms.length - sl.length) (cap - sl.length) (by simp) rfl (by rw [x1, hdl]) (fun h => by cases h) (fun ad had j u hu => by cases had; rw [Go.WideShapes.add_plain]; exact x3 j u hu) x2 (fun j hj => x4 j (by simpa using hj) hj) (fun x hx => ⟨by have : x < w.heap.size := hT.out x hx; have := hB5.size; omega, fun e => by have : x < w.heap.size := hT.out x hx; omega⟩) (by simp; omega) ?_))
          intro g8 c8 w8 o8 gr8 e8
          have hdl2 : sl.length + 1 + (ms.length - sl.length) = (sl ++ [(key, v)] ++ ms.drop sl.length).length := by simp; omega
          rw [hdl2] at o8
          have HD2 : Hid (sl.length + 1 + (ms.length - sl.length) = (sl ++ [(key, v)] ++ ms.drop sl.length).length) := hdl2
          clear hdl2 hdl
          have hB8 : Below w.heap.size w w8 := hB5.grown gr8 hB5.size (fun r hr => by cases hr; omega)
          have hg8 : w.heap.size ≤ g8 := by
            have := hB5.size
            rcases e8 with h | h <;> omega
          have HF : Hid (OwnM false w8 0 (fun b => (S b ∨ T b) ∨ T b) (.slice (some ⟨g8, 0, none⟩) (sl ++ [(key, v)] ++ ms.drop sl.length).length c8) ((sl ++ [(key, v)] ++ ms.drop sl.length).map some)) := by
            show OwnR _ _ _ _ _ _ _ _
            have e1 : (sl ++ [(key, v)] ++ ms.drop sl.length).map some = sl.map some ++ [some (key, v)] ++ (ms.drop sl.length).map some := by simp
            rw [e1]
            exact o8
          have hwF : Hid (sl ++ [(key, v)] ++ ms.drop sl.length = putF ms (key, v)) := putF_new HWE.out hat HN.out
          clear o8 gr8
          simp only [Act.put, List.setIfInBounds_toArray, List.set_cons_succ, List.set_cons_zero]
          go_wp2_with fail
          go_ret
          obtain ⟨hh2, hl2⟩ := OwnM.out (T := T) (w0 := w) HF.out rfl (fun x hx => hx.elim (fun h => h.elim (hST.out x) id) id) hg8
          exact PutPostS.of hwF.out ⟨_, _, _, _, by rw [← HD2.out]; rfl, hh2, hl2, hB8⟩
        · have HY : Hid ((ms[sl.length]).1.toList = key.toList) := by show _ = _; simpa using hK
          go_wp2_with fail
          refine wp_region_sub wr.heap.size (by kernel_rfl) (by kernel_rfl) ?_
          repeat (go_big_quiet_step (fail))
          refine wpQuiet_nil ?_
          rintro wq ⟨⟨wq', bq⟩, hq⟩
          have hq' : wq = wq' := hq
          subst hq'
          clear hq
          go_wp2_with fail
          go_ret
          have hBq : Below w.heap.size w wq := hBw.trans (bq.mono (by omega))
          exact PutPostS.of (putF_old HWE.out hat HY.out) ⟨_, _, b, o, rfl, hh, liesM_keep (fun h => h) (fun x hx => hBq.block x (hT.out x hx)) (fun x hx => .inl hx) _ HL.out, hBq⟩
      · have hEq : sl.length = ms.length := by omega
        have yat : decide ((sl.length : Int) < (ms.length : Int)) = false := by simp; omega
        have yat2 : decide (sl.length < ms.length) = false := by simp; omega
        have hsc : (sl.length : Int) ≤ ms.length := by omega
        have hcc : ms.length ≤ cap := hh.le
        cases ao with
        | none =>
          obtain rfl : cap = 0 := hh.nil rfl
          have hms : ms = [] := List.eq_nil_of_length_eq_zero (by have := hh.le; omega)
          subst hms
          have hsl0 : sl = [] := List.eq_nil_of_length_eq_zero (by simpa using hEq)
          subst hsl0
          go_wp2_with fail
          refine wp_region_sub wr.heap.size (by kernel_rfl) (by kernel_rfl) ?_
          repeat (go_big_quiet_step (fail))
          refine wpQuiet_nil ?_
          rintro wq ⟨⟨wq', bq⟩, hq⟩
          have hq' : wq = wq' := hq
          subst hq'
          clear hq
          have hzq := bq.size
          have oq := os.below (keepM false) bq
          have hb2 := hb1.keep (bq.block _ (by omega))
          obtain ⟨g, g0, g1, g2, g3, g4, g5⟩ := row7 hb2
          simp only [Nat.zero_add] at g g0 g1 g2 g3 g4 g5
          have hBq : Below w.heap.size w wq := hBw.trans (bq.mono (by omega))
          have hE : ∀ ob, EM false (some (key, v)) (wq.alloc ob) T [.string key, .int .i64 ek, .bool eb, .int .i64 ei, .string es, .slice eal enl ecl, .slice eam enm ecm] := fun ob =>
            ⟨_, rfl, hkz, V.lies_keep (fun h => h) (fun x hx => (Below.heap_alloc wq ob x (by have : x < w.heap.size := hT.out x hx; have := hBq.size; omega)).trans (hBq.block x (hT.out x hx))) (fun _ h => h) _ HV.out⟩
          have hlen7 : ((([] : List Mem).map some).length : Nat) = ([] : List Mem).length := by simp
          have hSx : ∀ x, T x → x < wq.heap.size ∧ some x ≠ (Value.slice so ([] : List Mem).length sc).ownBlock := fun x hx => ⟨by have : x < w.heap.size := hT.out x hx; omega, fun e => by have := hgs x e.symm; have : x < w.heap.size := hT.out x hx; omega⟩
          go_wp2_with (at_builtin; go_loud (refine wpl_push (keepM false) _ rfl (.tmp 46) (.tmp 48) 23 rfl 0 i1 _ 104 Tryd.underlying23 hJ.out.1 hJ.out.2.1 hJ.out.2.2.1 hJ.out.2.2.2 rfl (by decide) (by decide) (.slice so ([] : List Mem).length sc) (some (key, v)) (Sx := T) rfl (oq.alloc (keepM false) _) wq.heap.size 1 (0, 0) rfl (heap_alloc_new wq _) rfl one7 (hE _) (fun x hx => ⟨Nat.zero_le _, by rw [alloc_size]; have := (hSx x hx).1; omega, (hSx x hx).2⟩) (by rw [hlen7]; omega) (Nat.zero_le _) ?_))
          intro h1 c3 w5 o5 gr5 e6
          have hz5 := gr5.size
          rw [alloc_size] at hz5
          have hB5 : Below w.heap.size w w5 := hBq.trans (((Below.refl w.heap.size wq).alloc (by have := hBq.size; omega) _).grown gr5 (by rw [alloc_size]; have := hBq.size; omega) (fun r hr => by have := hgs r hr; omega))
          have hg5 : w.heap.size ≤ h1 := by
            rcases e6 with h | h
            · have := hgs h1 h; omega
            · omega
          have HO : Hid (OwnM false w5 0 (fun b => S b ∨ T b) (.slice (some ⟨h1, 0, none⟩) (([] : List Mem).length + 1) c3) (([] : List Mem).map some ++ [some (key, v)])) := o5
          have hln : ([] : List Mem).length + 1 = (([] : List Mem).map some ++ [some (key, v)]).length := by simp
          go_wp2_with (at_builtin; go_loud (refine wpl_pushes (keepM false) _ _ rfl (.tmp 50) (.tmp 53) 23 rfl i1 _ 104 Tryd.underlying23 hJ.out.1 hJ.out.2.1 hJ.out.2.2.1 hJ.out.2.2.2 rfl (by decide) (by decide) (Sx := T) (ys := []) (cx := []) hln rfl HO.out _ _ _ (by simp) rfl (by simp) (fun _ => ⟨rfl, rfl⟩) (fun ad had j u hu => by simp at hu) (fun u hu => by simp at hu) (fun j hj => by simp at hj) (fun x hx => ⟨by have : x < w.heap.size := hT.out x hx; have := hB5.size; omega, fun e => by have : x < w.heap.size := hT.out x hx; omega⟩) (by simp) ?_))
          intro g8 c8 w8 o8 gr8 e8
          have hB8 : Below w.heap.size w w8 := hB5.grown gr8 hB5.size (fun r hr => by cases hr; omega)
          have hg8 : w.heap.size ≤ g8 := by
            have := hB5.size
            rcases e8 with h | h <;> omega
          have HF : Hid (OwnM false w8 0 (fun b => (S b ∨ T b) ∨ T b) (.slice (some ⟨g8, 0, none⟩) (([] : List Mem) ++ [(key, v)]).length c8) ((([] : List Mem) ++ [(key, v)]).map some)) := by
            show OwnR _ _ _ _ _ _ _ _
            simpa using o8
          have hwF : Hid (([] : List Mem) ++ [(key, v)] = putF ([] : List Mem) (key, v)) := by show _ = _; simp [putF, keyIs]
          have HD2 : Hid (([] : List Mem).length + 1 + 0 = (([] : List Mem) ++ [(key, v)]).length) := by show _ = _; simp; try omega
          clear o8 gr8
          go_wp2_with fail
          go_ret
          obtain ⟨hh2, hl2⟩ := OwnM.out (T := T) (w0 := w) HF.out rfl (fun x hx => hx.elim (fun h => h.elim (hST.out x) id) id) hg8
          exact PutPostS.of hwF.out ⟨_, _, _, _, by rw [← HD2.out]; rfl, hh2, hl2, hB8⟩
        | some aa =>
          by_cases hms0 : ms.length = 0
          · have hms : ms = [] := List.eq_nil_of_length_eq_zero hms0
            subst hms
            have hsl0 : sl = [] := List.eq_nil_of_length_eq_zero (by simpa using hEq)
            subst hsl0
            by_cases hc0 : cap = 0
            · subst hc0
              go_wp2_with fail
              refine wp_region_sub wr.heap.size (by kernel_rfl) (by kernel_rfl) ?_
              repeat (go_big_quiet_step (fail))
              refine wpQuiet_nil ?_
              rintro wq ⟨⟨wq', bq⟩, hq⟩
              have hq' : wq = wq' := hq
              subst hq'
              clear hq
              have hzq := bq.size
              have oq := os.below (keepM false) bq
              have hb2 := hb1.keep (bq.block _ (by omega))
              obtain ⟨g, g0, g1, g2, g3, g4, g5⟩ := row7 hb2
              simp only [Nat.zero_add] at g g0 g1 g2 g3 g4 g5
              have hBq : Below w.heap.size w wq := hBw.trans (bq.mono (by omega))
              have hE : ∀ ob, EM false (some (key, v)) (wq.alloc ob) T [.string key, .int .i64 ek, .bool eb, .int .i64 ei, .string es, .slice eal enl ecl, .slice eam enm ecm] := fun ob =>
                ⟨_, rfl, hkz, V.lies_keep (fun h => h) (fun x hx => (Below.heap_alloc wq ob x (by have : x < w.heap.size := hT.out x hx; have := hBq.size; omega)).trans (hBq.block x (hT.out x hx))) (fun _ h => h) _ HV.out⟩
              have hlen7 : ((([] : List Mem).map some).length : Nat) = ([] : List Mem).length := by simp
              have hSx : ∀ x, T x → x < wq.heap.size ∧ some x ≠ (Value.slice so ([] : List Mem).length sc).ownBlock := fun x hx => ⟨by have : x < w.heap.size := hT.out x hx; omega, fun e => by have := hgs x e.symm; have : x < w.heap.size := hT.out x hx; omega⟩
              go_wp2_with (at_builtin; go_loud (refine wpl_push (keepM false) _ rfl (.tmp 46) (.tmp 48) 23 rfl 0 i1 _ 104 Tryd.underlying23 hJ.out.1 hJ.out.2.1 hJ.out.2.2.1 hJ.out.2.2.2 rfl (by decide) (by decide) (.slice so ([] : List Mem).length sc) (some (key, v)) (Sx := T) rfl (oq.alloc (keepM false) _) wq.heap.size 1 (0, 0) rfl (heap_alloc_new wq _) rfl one7 (hE _) (fun x hx => ⟨Nat.zero_le _, by rw [alloc_size]; have := (hSx x hx).1; omega, (hSx x hx).2⟩) (by rw [hlen7]; omega) (Nat.zero_le _) ?_))
              intro h1 c3 w5 o5 gr5 e6
              have hz5 := gr5.size
              rw [alloc_size] at hz5
              have hB5 : Below w.heap.size w w5 := hBq.trans (((Below.refl w.heap.size wq).alloc (by have := hBq.size; omega) _).grown gr5 (by rw [alloc_size]; have := hBq.size; omega) (fun r hr => by have := hgs r hr; omega))
              have hg5 : w.heap.size ≤ h1 := by
                rcases e6 with h | h
                · have := hgs h1 h; omega
                · omega
              have HO : Hid (OwnM false w5 0 (fun b => S b ∨ T b) (.slice (some ⟨h1, 0, none⟩) (([] : List Mem).length + 1) c3) (([] : List Mem).map some ++ [some (key, v)])) := o5
              have hln : ([] : List Mem).length + 1 = (([] : List Mem).map some ++ [some (key, v)]).length := by simp
              go_wp2_with (at_builtin; go_loud (refine wpl_pushes (keepM false) _ _ rfl (.tmp 50) (.tmp 53) 23 rfl i1 _ 104 Tryd.underlying23 hJ.out.1 hJ.out.2.1 hJ.out.2.2.1 hJ.out.2.2.2 rfl (by decide) (by decide) (Sx := T) (ys := []) (cx := []) hln rfl HO.out _ _ _ (by simp) rfl (by simp) (by intro h; first | cases h | (split at h <;> cases h)) (fun ad had j u hu => by simp at hu) (fun u hu => by simp at hu) (fun j hj => by simp at hj) (fun x hx => ⟨by have : x < w.heap.size := hT.out x hx; have := hB5.size; omega, fun e => by have : x < w.heap.size := hT.out x hx; omega⟩) (by simp) ?_))
              intro g8 c8 w8 o8 gr8 e8
              have hB8 : Below w.heap.size w w8 := hB5.grown gr8 hB5.size (fun r hr => by cases hr; omega)
              have hg8 : w.heap.size ≤ g8 := by
                have := hB5.size
                rcases e8 with h | h <;> omega
              have HF : Hid (OwnM false w8 0 (fun b => (S b ∨ T b) ∨ T b) (.slice (some ⟨g8, 0, none⟩) (([] : List Mem) ++ [(key, v)]).length c8) ((([] : List Mem) ++ [(key, v)]).map some)) := by
                show OwnR _ _ _ _ _ _ _ _
                simpa using o8
              have hwF : Hid (([] : List Mem) ++ [(key, v)] = putF ([] : List Mem) (key, v)) := by show _ = _; simp [putF, keyIs]
              have HD2 : Hid (([] : List Mem).length + 1 + 0 = (([] : List Mem) ++ [(key, v)]).length) := by show _ = _; simp; try omega
              clear o8 gr8
              go_wp2_with fail
              go_ret
              obtain ⟨hh2, hl2⟩ := OwnM.out (T := T) (w0 := w) HF.out rfl (fun x hx => hx.elim (fun h => h.elim (hST.out x) id) id) hg8
              exact PutPostS.of hwF.out ⟨_, _, _, _, by rw [← HD2.out]; rfl, hh2, hl2, hB8⟩
            · skip
              go_wp2_with fail
              refine wp_region_sub wr.heap.size (by kernel_rfl) (by kernel_rfl) ?_
              repeat (go_big_quiet_step (fail))
              refine wpQuiet_nil ?_
              rintro wq ⟨⟨wq', bq⟩, hq⟩
              have hq' : wq = wq' := hq
              subst hq'
              clear hq
              have hzq := bq.size
              have oq := os.below (keepM false) bq
              have hb2 := hb1.keep (bq.block _ (by omega))
              obtain ⟨g, g0, g1, g2, g3, g4, g5⟩ := row7 hb2
              simp only [Nat.zero_add] at g g0 g1 g2 g3 g4 g5
              have hBq : Below w.heap.size w wq := hBw.trans (bq.mono (by omega))
              have hE : ∀ ob, EM false (some (key, v)) (wq.alloc ob) T [.string key, .int .i64 ek, .bool eb, .int .i64 ei, .string es, .slice eal enl ecl, .slice eam enm ecm] := fun ob =>
                ⟨_, rfl, hkz, V.lies_keep (fun h => h) (fun x hx => (Below.heap_alloc wq ob x (by have : x < w.heap.size := hT.out x hx; have := hBq.size; omega)).trans (hBq.block x (hT.out x hx))) (fun _ h => h) _ HV.out⟩
              have hlen7 : ((([] : List Mem).map some).length : Nat) = ([] : List Mem).length := by simp
              have hSx : ∀ x, T x → x < wq.heap.size ∧ some x ≠ (Value.slice so ([] : List Mem).length sc).ownBlock := fun x hx => ⟨by have : x < w.heap.size := hT.out x hx; omega, fun e => by have := hgs x e.symm; have : x < w.heap.size := hT.out x hx; omega⟩
              go_wp2_with (at_builtin; go_loud (refine wpl_push (keepM false) _ rfl (.tmp 46) (.tmp 48) 23 rfl 0 i1 _ 104 Tryd.underlying23 hJ.out.1 hJ.out.2.1 hJ.out.2.2.1 hJ.out.2.2.2 rfl (by decide) (by decide) (.slice so ([] : List Mem).length sc) (some (key, v)) (Sx := T) rfl (oq.alloc (keepM false) _) wq.heap.size 1 (0, 0) rfl (heap_alloc_new wq _) rfl one7 (hE _) (fun x hx => ⟨Nat.zero_le _, by rw [alloc_size]; have := (hSx x hx).1; omega, (hSx x hx).2⟩) (by rw [hlen7]; omega) (Nat.zero_le _) ?_))
              intro h1 c3 w5 o5 gr5 e6
              have hz5 := gr5.size
              rw [alloc_size] at hz5
              have hB5 : Below w.heap.size w w5 := hBq.trans (((Below.refl w.heap.size wq).alloc (by have := hBq.size; omega) _).grown gr5 (by rw [alloc_size]; have := hBq.size; omega) (fun r hr => by have := hgs r hr; omega))
              have hg5 : w.heap.size ≤ h1 := by
                rcases e6 with h | h
                · have := hgs h1 h; omega
                · omega
              have HO : Hid (OwnM false w5 0 (fun b => S b ∨ T b) (.slice (some ⟨h1, 0, none⟩) (([] : List Mem).length + 1) c3) (([] : List Mem).map some ++ [some (key, v)])) := o5
              have hln : ([] : List Mem).length + 1 = (([] : List Mem).map some ++ [some (key, v)]).length := by simp
              go_wp2_with (at_builtin; go_loud (refine wpl_pushes (keepM false) _ _ rfl (.tmp 50) (.tmp 53) 23 rfl i1 _ 104 Tryd.underlying23 hJ.out.1 hJ.out.2.1 hJ.out.2.2.1 hJ.out.2.2.2 rfl (by decide) (by decide) (Sx := T) (ys := []) (cx := []) hln rfl HO.out _ _ _ (by simp) rfl (by simp) (by intro h; first | cases h | (split at h <;> cases h)) (fun ad had j u hu => by simp at hu) (fun u hu => by simp at hu) (fun j hj => by simp at hj) (fun x hx => ⟨by have : x < w.heap.size := hT.out x hx; have := hB5.size; omega, fun e => by have : x < w.heap.size := hT.out x hx; omega⟩) (by simp) ?_))
              intro g8 c8 w8 o8 gr8 e8
              have hB8 : Below w.heap.size w w8 := hB5.grown gr8 hB5.size (fun r hr => by cases hr; omega)
              have hg8 : w.heap.size ≤ g8 := by
                have := hB5.size
                rcases e8 with h | h <;> omega
              have HF : Hid (OwnM false w8 0 (fun b => (S b ∨ T b) ∨ T b) (.slice (some ⟨g8, 0, none⟩) (([] : List Mem) ++ [(key, v)]).length c8) ((([] : List Mem) ++ [(key, v)]).map some)) := by
                show OwnR _ _ _ _ _ _ _ _
                simpa using o8
              have hwF : Hid (([] : List Mem) ++ [(key, v)] = putF ([] : List Mem) (key, v)) := by show _ = _; simp [putF, keyIs]
              have HD2 : Hid (([] : List Mem).length + 1 + 0 = (([] : List Mem) ++ [(key, v)]).length) := by show _ = _; simp; try omega
              clear o8 gr8
              go_wp2_with fail
              go_ret
              obtain ⟨hh2, hl2⟩ := OwnM.out (T := T) (w0 := w) HF.out rfl (fun x hx => hx.elim (fun h => h.elim (hST.out x) id) id) hg8
              exact PutPostS.of hwF.out ⟨_, _, _, _, by rw [← HD2.out]; rfl, hh2, hl2, hB8⟩
          obtain rfl : aa = ⟨b, o, none⟩ := Option.some.inj (hh.at_.resolve_left hms0)
          have H5 : Hid (sl.length = ms.length) := hEq
          clear hEq
          by_cases hcx : cap = sl.length
          · subst hcx
            go_wp2_with fail
            refine wp_region_sub wr.heap.size (by kernel_rfl) (by kernel_rfl) ?_
            repeat (go_big_quiet_step (fail))
            refine wpQuiet_nil ?_
            rintro wq ⟨⟨wq', bq⟩, hq⟩
            have hq' : wq = wq' := hq
            subst hq'
            clear hq
            have hzq := bq.size
            have oq := os.below (keepM false) bq
            have hb2 := hb1.keep (bq.block _ (by omega))
            obtain ⟨g, g0, g1, g2, g3, g4, g5⟩ := row7 hb2
            simp only [Nat.zero_add] at g g0 g1 g2 g3 g4 g5
            have hBq : Below w.heap.size w wq := hBw.trans (bq.mono (by omega))
            have hE : ∀ ob, EM false (some (key, v)) (wq.alloc ob) T [.string key, .int .i64 ek, .bool eb, .int .i64 ei, .string es, .slice eal enl ecl, .slice eam enm ecm] := fun ob =>
              ⟨_, rfl, hkz, V.lies_keep (fun h => h) (fun x hx => (Below.heap_alloc wq ob x (by have : x < w.heap.size := hT.out x hx; have := hBq.size; omega)).trans (hBq.block x (hT.out x hx))) (fun _ h => h) _ HV.out⟩
            have hlen7 : ((sl.map some).length : Nat) = sl.length := by simp
            have hSx : ∀ x, T x → x < wq.heap.size ∧ some x ≠ (Value.slice so sl.length sc).ownBlock := fun x hx => ⟨by have : x < w.heap.size := hT.out x hx; omega, fun e => by have := hgs x e.symm; have : x < w.heap.size := hT.out x hx; omega⟩
            go_wp2_with (at_builtin; go_loud (refine wpl_push (keepM false) _ rfl (.tmp 46) (.tmp 48) 23 rfl 0 i1 _ 104 Tryd.underlying23 hJ.out.1 hJ.out.2.1 hJ.out.2.2.1 hJ.out.2.2.2 rfl (by decide) (by decide) (.slice so sl.length sc) (some (key, v)) (Sx := T) rfl (oq.alloc (keepM false) _) wq.heap.size 1 (0, 0) rfl (heap_alloc_new wq _) rfl one7 (hE _) (fun x hx => ⟨Nat.zero_le _, by rw [alloc_size]; have := (hSx x hx).1; omega, (hSx x hx).2⟩) (by rw [hlen7]; omega) (Nat.zero_le _) ?_))
            intro h1 c3 w5 o5 gr5 e6
            have hz5 := gr5.size
            rw [alloc_size] at hz5
            have hB5 : Below w.heap.size w w5 := hBq.trans (((Below.refl w.heap.size wq).alloc (by have := hBq.size; omega) _).grown gr5 (by rw [alloc_size]; have := hBq.size; omega) (fun r hr => by have := hgs r hr; omega))
            have hg5 : w.heap.size ≤ h1 := by
              rcases e6 with h | h
              · have := hgs h1 h; omega
              · omega
            have HO : Hid (OwnM false w5 0 (fun b => S b ∨ T b) (.slice (some ⟨h1, 0, none⟩) (sl.length + 1) c3) (sl.map some ++ [some (key, v)])) := o5
            have hln : sl.length + 1 = (sl.map some ++ [some (key, v)]).length := by simp
            go_wp2_with (at_builtin; go_loud (refine wpl_pushes (keepM false) _ _ rfl (.tmp 50) (.tmp 53) 23 rfl i1 _ 104 Tryd.underlying23 hJ.out.1 hJ.out.2.1 hJ.out.2.2.1 hJ.out.2.2.2 rfl (by decide) (by decide) (Sx := T) (ys := []) (cx := []) hln rfl HO.out _ _ _ (by first | rfl | (have := H5.out; simp only [List.length_nil]; omega)) rfl (by simp) (by intro h; first | cases h | (split at h <;> cases h)) (fun ad had j u hu => by simp at hu) (fun u hu => by simp at hu) (fun j hj => by simp at hj) (fun x hx => ⟨by have : x < w.heap.size := hT.out x hx; have := hB5.size; omega, fun e => by have : x < w.heap.size := hT.out x hx; omega⟩) (by simp only [List.length_append, List.length_map, List.length_singleton, List.length_nil, List.length_cons]; omega) ?_))
            intro g8 c8 w8 o8 gr8 e8
            have hB8 : Below w.heap.size w w8 := hB5.grown gr8 hB5.size (fun r hr => by cases hr; omega)
            have hg8 : w.heap.size ≤ g8 := by
              have := hB5.size
              rcases e8 with h | h <;> omega
            have HF : Hid (OwnM false w8 0 (fun b => (S b ∨ T b) ∨ T b) (.slice (some ⟨g8, 0, none⟩) (sl ++ [(key, v)]).length c8) ((sl ++ [(key, v)]).map some)) := by
              show OwnR _ _ _ _ _ _ _ _
              simp only [List.append_nil] at o8
              have e1 : (sl ++ [(key, v)]).map some = sl.map some ++ [some (key, v)] := by simp
              rw [e1, List.length_append]
              have e2 : sl.length + 1 + 0 = sl.length + [(key, v)].length := by simp; try omega
              rw [e2] at o8
              exact o8
            have hwF : Hid (sl ++ [(key, v)] = putF ms (key, v)) := putF_end HWE.out (by omega)
            have HD2 : Hid (sl.length + 1 + 0 = (sl ++ [(key, v)]).length) := by show _ = _; simp; try omega
            clear o8 gr8
            first | simp only [Act.put, List.setIfInBounds_toArray, List.set_cons_succ, List.set_cons_zero] | skip
            go_wp2_with fail
            go_ret
            obtain ⟨hh2, hl2⟩ := OwnM.out (T := T) (w0 := w) HF.out rfl (fun x hx => hx.elim (fun h => h.elim (hST.out x) id) id) hg8
            exact PutPostS.of hwF.out ⟨_, _, _, _, by rw [← HD2.out]; rfl, hh2, hl2, hB8⟩
          · skip
            go_wp2_with fail
            refine wp_region_sub wr.heap.size (by kernel_rfl) (by kernel_rfl) ?_
            repeat (go_big_quiet_step (fail))
            refine wpQuiet_nil ?_
            rintro wq ⟨⟨wq', bq⟩, hq⟩
            have hq' : wq = wq' := hq
            subst hq'
            clear hq
            have hzq := bq.size
            have oq := os.below (keepM false) bq
            have hb2 := hb1.keep (bq.block _ (by omega))
            obtain ⟨g, g0, g1, g2, g3, g4, g5⟩ := row7 hb2
            simp only [Nat.zero_add] at g g0 g1 g2 g3 g4 g5
            have hBq : Below w.heap.size w wq := hBw.trans (bq.mono (by omega))
            have hE : ∀ ob, EM false (some (key, v)) (wq.alloc ob) T [.string key, .int .i64 ek, .bool eb, .int .i64 ei, .string es, .slice eal enl ecl, .slice eam enm ecm] := fun ob =>
              ⟨_, rfl, hkz, V.lies_keep (fun h => h) (fun x hx => (Below.heap_alloc wq ob x (by have : x < w.heap.size := hT.out x hx; have := hBq.size; omega)).trans (hBq.block x (hT.out x hx))) (fun _ h => h) _ HV.out⟩
            have hlen7 : ((sl.map some).length : Nat) = sl.length := by simp
            have hSx : ∀ x, T x → x < wq.heap.size ∧ some x ≠ (Value.slice so sl.length sc).ownBlock := fun x hx => ⟨by have : x < w.heap.size := hT.out x hx; omega, fun e => by have := hgs x e.symm; have : x < w.heap.size := hT.out x hx; omega⟩
            go_wp2_with (at_builtin; go_loud (refine wpl_push (keepM false) _ rfl (.tmp 46) (.tmp 48) 23 rfl 0 i1 _ 104 Tryd.underlying23 hJ.out.1 hJ.out.2.1 hJ.out.2.2.1 hJ.out.2.2.2 rfl (by decide) (by decide) (.slice so sl.length sc) (some (key, v)) (Sx := T) rfl (oq.alloc (keepM false) _) wq.heap.size 1 (0, 0) rfl (heap_alloc_new wq _) rfl one7 (hE _) (fun x hx => ⟨Nat.zero_le _, by rw [alloc_size]; have := (hSx x hx).1; omega, (hSx x hx).2⟩) (by rw [hlen7]; omega) (Nat.zero_le _) ?_))
            intro h1 c3 w5 o5 gr5 e6
            have hz5 := gr5.size
            rw [alloc_size] at hz5
            have hB5 : Below w.heap.size w w5 := hBq.trans (((Below.refl w.heap.size wq).alloc (by have := hBq.size; omega) _).grown gr5 (by rw [alloc_size]; have := hBq.size; omega) (fun r hr => by have := hgs r hr; omega))
            have hg5 : w.heap.size ≤ h1 := by
              rcases e6 with h | h
              · have := hgs h1 h; omega
              · omega
            have HO : Hid (OwnM false w5 0 (fun b => S b ∨ T b) (.slice (some ⟨h1, 0, none⟩) (sl.length + 1) c3) (sl.map some ++ [some (key, v)])) := o5
            have hln : sl.length + 1 = (sl.map some ++ [some (key, v)]).length := by simp
            go_wp2_with (at_builtin; go_loud (refine wpl_pushes (keepM false) _ _ rfl (.tmp 50) (.tmp 53) 23 rfl i1 _ 104 Tryd.underlying23 hJ.out.1 hJ.out.2.1 hJ.out.2.2.1 hJ.out.2.2.2 rfl (by decide) (by decide) (Sx := T) (ys := []) (cx := []) hln rfl HO.out _ _ _ (by first | rfl | (have := H5.out; simp only [List.length_nil]; omega)) rfl (by simp) (by intro h; first | cases h | (split at h <;> cases h)) (fun ad had j u hu => by simp at hu) (fun u hu => by simp at hu) (fun j hj => by simp at hj) (fun x hx => ⟨by have : x < w.heap.size := hT.out x hx; have := hB5.size; omega, fun e => by have : x < w.heap.size := hT.out x hx; omega⟩) (by simp only [List.length_append, List.length_map, List.length_singleton, List.length_nil, List.length_cons]; omega) ?_))
            intro g8 c8 w8 o8 gr8 e8
            have hB8 : Below w.heap.size w w8 := hB5.grown gr8 hB5.size (fun r hr => by cases hr; omega)
            have hg8 : w.heap.size ≤ g8 := by
              have := hB5.size
              rcases e8 with h | h <;> omega
            have HF : Hid (OwnM false w8 0 (fun b => (S b ∨ T b) ∨ T b) (.slice (some ⟨g8, 0, none⟩) (sl ++ [(key, v)]).length c8) ((sl ++ [(key, v)]).map some)) := by
              show OwnR _ _ _ _ _ _ _ _
              simp only [List.append_nil] at o8
              have e1 : (sl ++ [(key, v)]).map some = sl.map some ++ [some (key, v)] := by simp
              rw [e1, List.length_append]
              have e2 : sl.length + 1 + (ms.length - sl.length) = sl.length + [(key, v)].length := by simp; try omega
              rw [e2] at o8
              exact o8
            have hwF : Hid (sl ++ [(key, v)] = putF ms (key, v)) := putF_end HWE.out (by omega)
            have HD2 : Hid (sl.length + 1 + (ms.length - sl.length) = (sl ++ [(key, v)]).length) := by show _ = _; simp; try omega
            clear o8 gr8
            first | simp only [Act.put, List.setIfInBounds_toArray, List.set_cons_succ, List.set_cons_zero] | skip
            go_wp2_with fail
            go_ret
            obtain ⟨hh2, hl2⟩ := OwnM.out (T := T) (w0 := w) HF.out rfl (fun x hx => hx.elim (fun h => h.elim (hST.out x) id) id) hg8
            exact PutPostS.of hwF.out ⟨_, _, _, _, by rw [← HD2.out]; rfl, hh2, hl2, hB8⟩
end Go.Proofs.YtljgofmmihmmfaaDoor
