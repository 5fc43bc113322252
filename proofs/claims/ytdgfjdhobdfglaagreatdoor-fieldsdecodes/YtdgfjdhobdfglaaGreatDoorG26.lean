/- joined: RdrC RdrD RdrE -/
import Derived.Test.YtdgfjdhobdfglaaGreatDoorG25
import Derived.Lib.AtoiErrMem
set_option linter.unusedSimpArgs false
set_option linter.unusedVariables false
set_option maxRecDepth 100000
namespace Go.Proofs.YtdgfjdhobdfglaaGreatDoor
open Go.RowKit Go.Lib
def ScP (R : Option (V × Nat)) (g : Nat) (s : ByteArray) (w : World) (e : Ending) (w' : World) : Prop :=
 (∃ vk vb vi vs k1, R = some (.mk vk vb vi vs [] [], k1) /\ e = .returned (.tuple #[.agg #[.int .i64 vk, .bool vb, .int .i64 vi, .string vs, .slice none 0 0, .slice none 0 0], .bool true]) /\ In64 vk /\ In64 vi /\ vs.size <= maxLen /\ RdP g s w w' k1) \/ (R = none /\ ∃ vk vb vi vs k1, e = .returned (.tuple #[.agg #[.int .i64 vk, .bool vb, .int .i64 vi, .string vs, .slice none 0 0, .slice none 0 0], .bool false]) /\ RdP g s w w' k1)
abbrev z46 : Obj := .cells #[.int .i64 0, .bool false, .int .i64 0, .string ⟨#[]⟩, .slice none 0 0, .slice none 0 0] 25
theorem st6_grown (W : World) (g : Nat) (v0 v1 v2 v3 v4 v5 : Value) : W.grownBy ((((((W.setCell ⟨g, 0, none⟩ v0).setCell ⟨g, 1, none⟩ v1).setCell ⟨g, 2, none⟩ v2).setCell ⟨g, 3, none⟩ v3).setCell ⟨g, 4, none⟩ v4).setCell ⟨g, 5, none⟩ v5) (some g) :=
 grown_set (grown_set (grown_set (grown_set (grown_set (grown_set (World.grownBy.refl _ _) _ _) _ _) _ _) _ _) _ _) _ _
theorem RdP.drew {g : Nat} {s : ByteArray} {w W : World} {k : Nat} (h : RdP g s w W k) : RdP g s w W.drew k := ⟨h.le, h.pb, ⟨h.gr.os, h.gr.tape, h.gr.output, h.gr.size, h.gr.block⟩⟩
theorem RdP.far {g : Nat} {s : ByteArray} {w W W' : World} {k r : Nat} (h : RdP g s w W k) (hr : w.heap.size <= r) (hg : g < w.heap.size) (gr : W.grownBy W' (some r)) : RdP g s w W' k :=
 ⟨h.le, (gr.block g h.pb.lt (fun e => by have := Option.some.inj e; omega)).trans h.pb, gr.os.trans h.gr.os, gr.tape.trans h.gr.tape, gr.output.trans h.gr.output, Nat.le_trans h.gr.size gr.size, fun i hi hne => (gr.block i (Nat.lt_of_lt_of_le hi h.gr.size) (fun e => by have := Option.some.inj e; omega)).trans (h.gr.block i hi hne)⟩
theorem RdP.box6 {g : Nat} {s : ByteArray} {w W : World} {k r : Nat} (h : RdP g s w W k) (hr : w.heap.size <= r) (hg : g < w.heap.size) (v0 v1 v2 v3 v4 v5 : Value) : RdP g s w ((((((W.setCell ⟨r, 0, none⟩ v0).setCell ⟨r, 1, none⟩ v1).setCell ⟨r, 2, none⟩ v2).setCell ⟨r, 3, none⟩ v3).setCell ⟨r, 4, none⟩ v4).setCell ⟨r, 5, none⟩ v5) k :=
 h.far hr hg (st6_grown W r v0 v1 v2 v3 v4 v5)
theorem In64.zero : In64 0 := ⟨by omega, by omega⟩
theorem parse_in64 {l : List UInt8} {v : Int} (h : parseIntB 64 l = .ok v) : In64 v := by
 unfold parseIntB at h
 split at h
 ·cases h
 ·rename_i c r
  dsimp only at h
  split at h
  ·cases h
  ·cases h
  ·rename_i u hu
   split at h
   ·cases h
   ·rename_i h1
    split at h
    ·cases h
    ·rename_i h2
     have e := NumEnd.ok.inj h
     subst e
     by_cases hn : c.toNat = 45
     ·rw [if_pos hn]
      have h2' : ¬ 2 ^ 63 < u := fun q => h2 ⟨hn, q⟩
      refine ⟨?_, ?_⟩ <;> omega
     ·rw [if_neg hn]
      have h1' : ¬ 2 ^ 63 <= u := fun q => h1 ⟨hn, q⟩
      refine ⟨?_, ?_⟩ <;> omega
theorem pint_any (s : ByteArray) (w : World) (t : Td w) (hs : s.size <= 281474976710656) :
 Calls Tryz.prog 145 #[.string s, .int .i64 10, .int .i64 64] w fun e w' => ∃ (v : Int) (er : Value), e = .returned (.tuple #[.int .i64 v, er]) /\ Below w.heap.size w w' /\ ((parseIntB 64 s.data.toList = .ok v /\ er = .nilIface) \/ ((∀ u, parseIntB 64 s.data.toList ≠ .ok u) /\ ∃ te pe, er = .iface te pe)) := by
 obtain ⟨t5, p5, t6, p6, h5, h6⟩ := t.e
 cases hp : parseIntB 64 s.data.toList with
 | ok v =>
  refine (Any.strconv_ParseInt_10_at64_ok Tryz.lays174 s (by omega) v hp w).mono ?_
  rintro e w' ⟨rfl, h⟩
  refine ⟨v, .nilIface, rfl, ?_, .inl ⟨rfl, rfl⟩⟩
  rcases h with rfl | ⟨u, rfl⟩
  ·exact Below.refl _ _
  ·exact bytesWorld_below w 5 u
 | «syntax» =>
  refine (Any.strconv_ParseInt_10_at64_syntax Tryz.lays174 s hs hp _ w h5 (.inr ⟨_, _, rfl⟩)).mono ?_
  rintro e w' ⟨N, rfl, _, _, b⟩
  exact ⟨_, _, rfl, b, .inr ⟨(fun u h => by cases h), _, _, rfl⟩⟩
 | range =>
  refine (Any.strconv_ParseInt_10_at64_range Tryz.lays174 s hs hp _ w h6 (.inr ⟨_, _, rfl⟩)).mono ?_
  rintro e w' ⟨N, rfl, _, _, b⟩
  exact ⟨_, _, rfl, b, .inr ⟨(fun u h => by cases h), _, _, rfl⟩⟩
theorem tw_split (l : List UInt8) (p : UInt8 -> Bool) : l.length - (l.dropWhile p).length = (l.takeWhile p).length /\ l.take (l.takeWhile p).length = l.takeWhile p := by
 have h := List.takeWhile_append_dropWhile (p := p) (l := l)
 have hl := congrArg List.length h
 rw [List.length_append] at hl
 refine ⟨by omega, ?_⟩
 exact (List.prefix_iff_eq_take.1 (List.takeWhile_prefix p)).symm
theorem intF_yes {l : List UInt8} {k : Nat} {v : Int} (h : parseIntB 64 (runT l k) = .ok v) : intF l k = some (.mk 2 false v ⟨#[]⟩ [] [], k + (runT l k).length) := by rw [intF, h]
theorem intF_no {l : List UInt8} {k : Nat} (h : ∀ u, parseIntB 64 (runT l k) ≠ .ok u) : intF l k = none := by
 rw [intF]
 cases hp : parseIntB 64 (runT l k) with
 | ok v => exact absurd hp (h v)
 | «syntax» => rfl
 | range => rfl
theorem cutset_ascii : ∀ (j : Nat) b, (⟨#[45, 48, 49, 50, 51, 52, 53, 54, 55, 56, 57]⟩ : ByteArray).data.toList[j]? = some b -> b.toNat < 128 := ascii_of_all (by decide)
theorem trim_any (s : ByteArray) (w : World) :
 Calls Tryz.prog 144 #[.string s, .string ⟨#[45, 48, 49, 50, 51, 52, 53, 54, 55, 56, 57]⟩] w fun e w' => e = .returned (.string ⟨(s.data.toList.dropWhile (minDig.contains ·)).toArray⟩) /\ Below w.heap.size w w' :=
 Any.strings_TrimLeft_laid Tryz.lays161 (by kernel_rfl) s _ w (by decide) cutset_ascii
set_option maxHeartbeats 8000000 in
theorem pinteger_any (g : Nat) (s : ByteArray) (k : Nat) (w : World) (h : PB g s k w) (t : Td w) (hs : s.size <= 140737488355000) (hk : k <= s.size) (hg : 9 < g) :
 Calls Tryz.prog 123 #[.pointer (some ⟨g, 0, none⟩)] w (ScP (intF s.data.toList k) g s w) := by
 have hlt := h.lt
 have bA : Below w.heap.size w (w.alloc z46) := (Below.refl _ _).alloc (Nat.le_refl _) _
 have hza := alloc_size w z46
 have nb := heap_alloc_new w z46
 have hbsz : w.heap.size < (w.alloc z46).heap.size := by rw [hza]; omega
 have PA := h.keep bA
 have c0 := PA.c0
 have c1 := PA.c1
 have hsl := slice_from s k hk
 have hxs := ext_size s k
 have hle : (s.data.toList.drop k).length = s.size - k := by simp
 obtain ⟨hw1, hw2⟩ := tw_split (s.data.toList.drop k) (minDig.contains ·)
 have hrl := runT_le s.data.toList k
 have hll : s.data.toList.length = s.size := by simp
 have CT : Hid (∀ W, Calls Tryz.prog 144 #[.string (s.extract k s.size), .string ⟨#[45, 48, 49, 50, 51, 52, 53, 54, 55, 56, 57]⟩] W fun e w' => ∃ D : ByteArray, e = .returned (.string D) /\ (D.size : Int) = s.size - k - (runT s.data.toList k).length /\ Below W.heap.size W w') := fun W => by
  refine (trim_any (s.extract k s.size) W).mono ?_
  rintro e w' ⟨rfl, b⟩
  refine ⟨_, rfl, ?_, b⟩
  rw [ext_list s k]
  have : (⟨((s.data.toList.drop k).dropWhile (minDig.contains ·)).toArray⟩ : ByteArray).size = ((s.data.toList.drop k).dropWhile (minDig.contains ·)).length := by
   show Array.size _ = _
   simp
  rw [this]
  have e1 : (runT s.data.toList k).length = ((s.data.toList.drop k).takeWhile (minDig.contains ·)).length := rfl
  have e2 := (List.dropWhile_suffix (fun b => minDig.contains b) (l := s.data.toList.drop k)).length_le
  omega
 have HE : Hid ((s.extract k s.size).extract 0 (runT s.data.toList k).length = ⟨(runT s.data.toList k).toArray⟩) := by
  show _ = _
  rw [ext_to]
  show _ = (⟨((s.data.toList.drop k).takeWhile (minDig.contains ·)).toArray⟩ : ByteArray)
  have : (s.data.toList.drop k).take (runT s.data.toList k).length = (s.data.toList.drop k).takeWhile (minDig.contains ·) := hw2
  rw [this]
 have CP : Hid (∀ W, Below w.heap.size w W -> Calls Tryz.prog 145 #[.string ((s.extract k s.size).extract 0 (runT s.data.toList k).length), .int .i64 10, .int .i64 64] W fun e w' => ∃ (v : Int) (er : Value), e = .returned (.tuple #[.int .i64 v, er]) /\ Below W.heap.size W w' /\ ((parseIntB 64 (runT s.data.toList k) = .ok v /\ er = .nilIface) \/ ((∀ u, parseIntB 64 (runT s.data.toList k) ≠ .ok u) /\ ∃ te pe, er = .iface te pe))) := fun W b => by
  have c := pint_any ((s.extract k s.size).extract 0 (runT s.data.toList k).length) W (t.below b t.z b.size) (by rw [HE.out]; show Array.size _ <= _; simp; omega)
  rw [HE.out] at c ⊢
  exact c
 have HY : Hid (∀ v, parseIntB 64 (runT s.data.toList k) = .ok v -> intF s.data.toList k = some (.mk 2 false v ⟨#[]⟩ [] [], k + (runT s.data.toList k).length)) := fun v h => intF_yes h
 have HN : Hid ((∀ u, parseIntB 64 (runT s.data.toList k) ≠ .ok u) -> intF s.data.toList k = none) := fun h => intF_no h
 have HH := hmk h
 have HT := hmk t
 clear h t hw1 hw2 hle
 have hz : ((s.extract k s.size).extract 0 (runT s.data.toList k).length).size = (runT s.data.toList k).length := by rw [HE.out]; show Array.size _ = _; simp
 have HZ := hmk hz
 clear hz HE
 generalize hn : (runT s.data.toList k).length = n at *
 have HNN := hmk hn
 clear hn
 generalize hY : s.extract k s.size = Y at *
 clear hY
 have hyn : (n : Int) <= Y.size := by omega
 have HXS := hmk hxs
 clear hxs
 go_enter Tryz.func123, Tryz.ntmps123
 go_wp2_with fail
 go_quiet (fail)
 go_wp2_with fail
 refine (CT.out _).mono ?_
 rintro e w1 ⟨D, rfl, hD, b1⟩
 have B1 : Below w.heap.size w w1 := bA.trans ((below_dq b1).mono bA.size)
 have hD2 : (Y.size : Int) - D.size = n := by have := HXS.out; omega
 have HDD := hmk hD
 clear hD
 go_wp2_with fail
 refine (CP.out w1 B1).mono ?_
 rintro e w2 ⟨v, er, rfl, b2, hv⟩
 have B2 := B1.trans (b2.mono B1.size)
 have P2 := HH.out.keep B2
 have d1 := P2.c1
 have f1 := P2.fz 1
 have hN2 : w2.heap[w.heap.size]? = some z46 := ((b2.block _ (Nat.lt_of_lt_of_le hbsz (below_dq b1).size)).trans ((below_dq b1).block _ hbsz)).trans nb
 have HV := hmk hv
 clear hv b1 b2 B1 PA c0 c1 bA
 clear hza
 go_wp2_with fail
 have P3 := P2.put (k + n) ((k : Int) + ((min n Y.size : Nat) : Int)) (by omega)
 have R3 : RdP g s w (w2.setCell ⟨g, 1, none⟩ (.int .i64 ((k : Int) + ((min n Y.size : Nat) : Int)))) (k + n) := ⟨by omega, P3, grown_set (grown_belowS B2 g) _ _⟩
 have N3 : (w2.setCell ⟨g, 1, none⟩ (.int .i64 ((k : Int) + ((min n Y.size : Nat) : Int)))).heap[w.heap.size]? = some z46 := (Below.heap_setCell _ _ _ _ (by show w.heap.size ≠ g; omega)).trans hN2
 clear P3 hN2 P2 d1 f1 B2 nb hbsz
 generalize w2.setCell ⟨g, 1, none⟩ (.int .i64 ((k : Int) + ((min n Y.size : Nat) : Int))) = w3 at *
 obtain ⟨q0, q1, q2, q3, q4, q5⟩ := cN6 N3
 have kf : ∀ ii, w3.frozen? ⟨w.heap.size, ii, none⟩ = false := frozen_of_block N3
 have R4 := hmk ((R3.box6 (Nat.le_refl _) hlt (.int .i64 2) (.bool false) (.int .i64 v) (.string ⟨#[]⟩) (.slice none 0 0) (.slice none 0 0)).drew)
 rcases HV.out with ⟨hok, rfl⟩ | ⟨hno, te, pe, rfl⟩
 ·have HO := hmk hok
  clear hok HV R3 N3
  go_region
  all_goals
   go_wp2_with fail
   (try simp only [Exit.inBlock, Exit.then])
   refine bodyPost_ret (v := .tuple #[.agg #[.int .i64 2, .bool false, .int .i64 v, .string ⟨#[]⟩, .slice none 0 0, .slice none 0 0], .bool true]) ?_ rfl (.inl ⟨2, false, v, ⟨#[]⟩, k + n, HY.out v HO.out, rfl, ⟨by omega, by omega⟩, parse_in64 HO.out, Nat.zero_le _, R4.out⟩)
   rw [results_cell_tmp rfl]
   go_simp
 ·have HO := hmk hno
  clear hno HV R3 N3
  go_region
  all_goals
   go_wp2_with fail
   (try simp only [Exit.inBlock, Exit.then])
   refine bodyPost_ret (v := .tuple #[.agg #[.int .i64 2, .bool false, .int .i64 v, .string ⟨#[]⟩, .slice none 0 0, .slice none 0 0], .bool false]) ?_ rfl (.inr ⟨HN.out HO.out, 2, false, v, ⟨#[]⟩, k + n, rfl, R4.out⟩)
   rw [results_cell_tmp rfl]
   go_simp
end Go.Proofs.YtdgfjdhobdfglaaGreatDoor
set_option maxRecDepth 100000
namespace Go.Proofs.YtdgfjdhobdfglaaGreatDoor
open Go.RowKit Go.Lib
def TkP (l : List UInt8) (k : Nat) (pl : List UInt8) (n g : Nat) (s : ByteArray) (w : World) (e : Ending) (w' : World) : Prop :=
 (tkB l k pl = true /\ e = .returned (.bool true) /\ RdP g s w w' (k + n)) \/ (tkB l k pl = false /\ e = .returned (.bool false) /\ RdP g s w w' k)
theorem ptk (g : Nat) (s p : ByteArray) (k : Nat) (pl : List UInt8) (n : Nat) (w : World) (h : PB g s k w) (hs : s.size <= 140737488355000) (hk : k <= s.size) (hp : p.data.toList = pl) (hn : p.size = n) (h0 : 0 < n) (h1 : n <= 100) :
 Calls Tryz.prog 90 #[.pointer (some ⟨g, 0, none⟩), .string p] w (TkP s.data.toList k pl n g s w) := by
 refine (ptake_any g s p k w h (by omega) hk (by omega)).mono ?_
 rintro e w' ⟨rfl, h1, h2⟩
 have hl : pl.length = n := by rw [<- hp, <- hn]; simp
 rw [hp] at h1 ⊢
 cases hT : tkB s.data.toList k pl with
 | true =>
  rw [hT, if_pos rfl, hn] at h1
  have := tkB_le hT (by omega)
  have e2 : s.data.toList.length = s.size := by simp
  exact .inl ⟨hT, rfl, by omega, h1, h2⟩
 | false =>
  rw [hT, if_neg (by decide)] at h1
  exact .inr ⟨hT, rfl, hk, h1, h2⟩
theorem sca_1 {l : List UInt8} {k : Nat} (h : tkB l k [116, 114, 117, 101] = true) : scaF l k = some (.mk 1 true 0 ⟨#[]⟩ [] [], k + 4) := by rw [scaF, if_pos h]
theorem sca_2 {l : List UInt8} {k : Nat} (h : tkB l k [116, 114, 117, 101] = false) (h2 : tkB l k [102, 97, 108, 115, 101] = true) : scaF l k = some (.mk 1 false 0 ⟨#[]⟩ [] [], k + 5) := by rw [scaF, if_neg (by rw [h]; decide), if_pos h2]
theorem sca_3 {l : List UInt8} {k : Nat} (h : tkB l k [116, 114, 117, 101] = false) (h2 : tkB l k [102, 97, 108, 115, 101] = false) (h3 : tkB l k [34] = true) : scaF l k = (quoF l k).map (fun x => (.mk 3 false 0 x.1 [] [], x.2)) := by
 rw [scaF, if_neg (by rw [h]; decide), if_neg (by rw [h2]; decide), if_pos h3]
theorem sca_4 {l : List UInt8} {k : Nat} (h : tkB l k [116, 114, 117, 101] = false) (h2 : tkB l k [102, 97, 108, 115, 101] = false) (h3 : tkB l k [34] = false) : scaF l k = intF l k := by
 rw [scaF, if_neg (by rw [h]; decide), if_neg (by rw [h2]; decide), if_neg (by rw [h3]; decide)]
theorem quoF_size {s : ByteArray} {k : Nat} {x : ByteArray} {k1 : Nat} (h : quoF s.data.toList k = some (x, k1)) : x.size <= s.size := by
 unfold quoF at h
 split at h
 ·rename_i h0
  have := (Q.unq_place s (k : Int)).2 h0
  have e := congrArg Prod.fst (Option.some.inj h)
  subst e
  show Array.size _ <= _
  simpa using this
 ·cases h
set_option maxHeartbeats 8000000 in
theorem pscalar_any (g : Nat) (s : ByteArray) (k : Nat) (w : World) (h : PB g s k w) (t : Td w) (hs : s.size <= 140737488355000) (hk : k <= s.size) (hg : 9 < g) :
 Calls Tryz.prog 92 #[.pointer (some ⟨g, 0, none⟩)] w (ScP (scaF s.data.toList k) g s w) := by
 have hlt := h.lt
 have bA : Below w.heap.size w (w.alloc z46) := (Below.refl _ _).alloc (Nat.le_refl _) _
 have nb := heap_alloc_new w z46
 have hbsz : w.heap.size < (w.alloc z46).heap.size := by rw [alloc_size]; omega
 have RA : RdP g s w (w.alloc z46) k := ⟨hk, h.keep bA, grown_belowS bA g⟩
 have HT := hmk t
 have KA : Hid (∀ W k', RdP g s (w.alloc z46) W k' -> RdP g s w W k' /\ W.heap[w.heap.size]? = some z46 /\ Td W) := fun W k' r =>
  ⟨RA.trans r, (r.gr.block _ hbsz (fun e => by have := Option.some.inj e; omega)).trans nb, HT.out.grown (RA.trans r).gr hg⟩
 have CT : Hid (∀ W, PB g s k W -> Calls Tryz.prog 90 #[.pointer (some ⟨g, 0, none⟩), .string ⟨#[116, 114, 117, 101]⟩] W (TkP s.data.toList k [116, 114, 117, 101] 4 g s W)) := fun W hW => ptk g s _ k _ 4 W hW hs hk rfl rfl (by decide) (by decide)
 have CF : Hid (∀ W, PB g s k W -> Calls Tryz.prog 90 #[.pointer (some ⟨g, 0, none⟩), .string ⟨#[102, 97, 108, 115, 101]⟩] W (TkP s.data.toList k [102, 97, 108, 115, 101] 5 g s W)) := fun W hW => ptk g s _ k _ 5 W hW hs hk rfl rfl (by decide) (by decide)
 have CP : Hid (∀ W, Calls Tryz.prog 119 #[.string (s.extract k s.size), .string ⟨#[34]⟩] W fun e w' => e = .returned (.bool (tkB s.data.toList k [34])) /\ w' = W) := fun W => by
  have := Any.strings_HasPrefix Tryz.lays99 (s.extract k s.size) ⟨#[34]⟩ W
  rw [ext_list s k] at this
  exact this
 have hsl := slice_from s k hk
 have CQ : Hid (∀ W, PB g s k W -> Td W -> Calls Tryz.prog 122 #[.pointer (some ⟨g, 0, none⟩)] W (StP (quoF s.data.toList k) g s W)) := fun W hW tW => pquo_any g s k W hW tW hs hk
 have CI : Hid (∀ W, PB g s k W -> Td W -> Calls Tryz.prog 123 #[.pointer (some ⟨g, 0, none⟩)] W (ScP (intF s.data.toList k) g s W)) := fun W hW tW => pinteger_any g s k W hW tW hs hk hg
 have HQS : Hid (∀ x k1, quoF s.data.toList k = some (x, k1) -> x.size <= maxLen) := fun x k1 hx => by have := quoF_size hx; unfold maxLen; omega
 have PA := RA.pb
 have HRA := hmk RA
 clear h t bA RA nb hbsz
 go_enter Tryz.func92, Tryz.ntmps92
 go_wp2_with fail
 refine (CT.out _ PA).mono ?_
 rintro e w1 (⟨hT1, rfl, r1⟩ | ⟨hT1, rfl, r1⟩)
 ·obtain ⟨R1, N1, t1⟩ := KA.out w1 _ r1
  have H1 := hmk hT1
  clear hT1 r1
  obtain ⟨q0, q1, q2, q3, q4, q5⟩ := cN6 N1
  have kf : ∀ ii, w1.frozen? ⟨w.heap.size, ii, none⟩ = false := frozen_of_block N1
  have RF := hmk (R1.box6 (Nat.le_refl _) hlt (.int .i64 1) (.bool true) (.int .i64 0) (.string ⟨#[]⟩) (.slice none 0 0) (.slice none 0 0))
  go_wp2_with fail
  (try simp only [Exit.inBlock, Exit.then])
  refine bodyPost_ret (v := .tuple #[.agg #[.int .i64 1, .bool true, .int .i64 0, .string ⟨#[]⟩, .slice none 0 0, .slice none 0 0], .bool true]) ?_ rfl (.inl ⟨1, true, 0, ⟨#[]⟩, k + 4, sca_1 H1.out, rfl, ⟨by omega, by omega⟩, In64.zero, Nat.zero_le _, RF.out⟩)
  rw [results_cell_tmp rfl]
  go_simp
 have H1 := hmk hT1
 clear hT1
 have P1 := r1.pb
 go_wp2_with fail
 refine (CF.out _ P1).mono ?_
 rintro e w2 (⟨hT2, rfl, r2⟩ | ⟨hT2, rfl, r2⟩)
 ·obtain ⟨R2, N2, t2⟩ := KA.out w2 _ (r1.trans r2)
  have H2 := hmk hT2
  clear hT2 r1 r2 P1
  obtain ⟨q0, q1, q2, q3, q4, q5⟩ := cN6 N2
  have kf : ∀ ii, w2.frozen? ⟨w.heap.size, ii, none⟩ = false := frozen_of_block N2
  have RF := hmk (R2.box6 (Nat.le_refl _) hlt (.int .i64 1) (.bool false) (.int .i64 0) (.string ⟨#[]⟩) (.slice none 0 0) (.slice none 0 0))
  go_wp2_with fail
  (try simp only [Exit.inBlock, Exit.then])
  refine bodyPost_ret (v := .tuple #[.agg #[.int .i64 1, .bool false, .int .i64 0, .string ⟨#[]⟩, .slice none 0 0, .slice none 0 0], .bool true]) ?_ rfl (.inl ⟨1, false, 0, ⟨#[]⟩, k + 5, sca_2 H1.out H2.out, rfl, ⟨by omega, by omega⟩, In64.zero, Nat.zero_le _, RF.out⟩)
  rw [results_cell_tmp rfl]
  go_simp
 have H2 := hmk hT2
 clear hT2
 obtain ⟨R2, N2, t2⟩ := KA.out w2 _ (r1.trans r2)
 clear P1
 have c0 := R2.pb.c0
 have c1 := R2.pb.c1
 cases hT3 : tkB s.data.toList k [34] with
 | true =>
  rw [hT3] at CP
  have H3 := hmk hT3
  have K2 : Hid (∀ W, (∃ q, W = w2.drewN q) -> RdP g s (w.alloc z46) W k) := fun W ⟨q, hq⟩ => by subst hq; exact ⟨r2.le, r2.pb.drewN q, grown_drewN (r1.trans r2).gr q⟩
  clear hT3
  go_wp2_with fail
  go_quiet ((go_at_call 119; exact Calls.quiet_of_same (CP.out _)))
  have r3 := K2.out _ ⟨nq, rfl⟩
  obtain ⟨R3, N3, t3⟩ := KA.out _ _ r3
  clear R2 N2 t2 c0 c1
  go_wp2_with fail
  refine (CQ.out _ R3.pb t3).mono ?_
  rintro e w4 (⟨x, k1, hq, rfl, r4⟩ | ⟨hq, k1, rfl, r4⟩)
  ·obtain ⟨R4, N4, t4⟩ := KA.out w4 _ (r3.trans r4)
   have HQ := hmk hq
   clear hq R3 N3 t3
   obtain ⟨q0, q1, q2, q3, q4, q5⟩ := cN6 N4
   have kf : ∀ ii, w4.frozen? ⟨w.heap.size, ii, none⟩ = false := frozen_of_block N4
   have RF := hmk (R4.box6 (Nat.le_refl _) hlt (.int .i64 3) (.bool false) (.int .i64 0) (.string x) (.slice none 0 0) (.slice none 0 0))
   go_wp2_with fail
   (try simp only [Exit.inBlock, Exit.then])
   refine bodyPost_ret (v := .tuple #[.agg #[.int .i64 3, .bool false, .int .i64 0, .string x, .slice none 0 0, .slice none 0 0], .bool true]) ?_ rfl (.inl ⟨3, false, 0, x, k1, by rw [sca_3 H1.out H2.out H3.out, HQ.out]; rfl, rfl, ⟨by omega, by omega⟩, In64.zero, HQS.out x k1 HQ.out, RF.out⟩)
   rw [results_cell_tmp rfl]
   go_simp
  ·obtain ⟨R4, N4, t4⟩ := KA.out w4 _ (r3.trans r4)
   have HQ := hmk hq
   clear hq R3 N3 t3
   obtain ⟨q0, q1, q2, q3, q4, q5⟩ := cN6 N4
   have kf : ∀ ii, w4.frozen? ⟨w.heap.size, ii, none⟩ = false := frozen_of_block N4
   have RF := hmk (R4.box6 (Nat.le_refl _) hlt (.int .i64 3) (.bool false) (.int .i64 0) (.string ⟨#[]⟩) (.slice none 0 0) (.slice none 0 0))
   go_wp2_with fail
   (try simp only [Exit.inBlock, Exit.then])
   refine bodyPost_ret (v := .tuple #[.agg #[.int .i64 3, .bool false, .int .i64 0, .string ⟨#[]⟩, .slice none 0 0, .slice none 0 0], .bool false]) ?_ rfl (.inr ⟨by rw [sca_3 H1.out H2.out H3.out, HQ.out]; rfl, 3, false, 0, ⟨#[]⟩, k1, rfl, RF.out⟩)
   rw [results_cell_tmp rfl]
   go_simp
 | false =>
  rw [hT3] at CP
  have H3 := hmk hT3
  have K2 : Hid (∀ W, (∃ q, W = w2.drewN q) -> RdP g s (w.alloc z46) W k) := fun W ⟨q, hq⟩ => by subst hq; exact ⟨r2.le, r2.pb.drewN q, grown_drewN (r1.trans r2).gr q⟩
  clear hT3
  go_wp2_with fail
  go_quiet ((go_at_call 119; exact Calls.quiet_of_same (CP.out _)))
  have r3 := K2.out _ ⟨nq, rfl⟩
  obtain ⟨R3, N3, t3⟩ := KA.out _ _ r3
  clear R2 N2 t2 c0 c1
  go_wp2_with fail
  refine (CI.out _ R3.pb t3).mono ?_
  rintro e w4 (⟨vk, vb, vi, vs, k1, hq, rfl, i1, i2, i3, r4⟩ | ⟨hq, vk, vb, vi, vs, k1, rfl, r4⟩)
  ·obtain ⟨R4, N4, t4⟩ := KA.out w4 _ (r3.trans r4)
   have HQ := hmk hq
   have HI := hmk (And.intro i1 (And.intro i2 i3))
   clear hq R3 N3 t3 i1 i2 i3
   obtain ⟨q0, q1, q2, q3, q4, q5⟩ := cN6 N4
   have kf : ∀ ii, w4.frozen? ⟨w.heap.size, ii, none⟩ = false := frozen_of_block N4
   have RF := hmk (R4.box6 (Nat.le_refl _) hlt (.int .i64 vk) (.bool vb) (.int .i64 vi) (.string vs) (.slice none 0 0) (.slice none 0 0))
   go_wp2_with fail
   (try simp only [Exit.inBlock, Exit.then])
   refine bodyPost_ret (v := .tuple #[.agg #[.int .i64 vk, .bool vb, .int .i64 vi, .string vs, .slice none 0 0, .slice none 0 0], .bool true]) ?_ rfl (.inl ⟨vk, vb, vi, vs, k1, by rw [sca_4 H1.out H2.out H3.out, HQ.out], rfl, HI.out.1, HI.out.2.1, HI.out.2.2, RF.out⟩)
   rw [results_cell_tmp rfl]
   go_simp
  ·obtain ⟨R4, N4, t4⟩ := KA.out w4 _ (r3.trans r4)
   have HQ := hmk hq
   clear hq R3 N3 t3
   obtain ⟨q0, q1, q2, q3, q4, q5⟩ := cN6 N4
   have kf : ∀ ii, w4.frozen? ⟨w.heap.size, ii, none⟩ = false := frozen_of_block N4
   have RF := hmk (R4.box6 (Nat.le_refl _) hlt (.int .i64 vk) (.bool vb) (.int .i64 vi) (.string vs) (.slice none 0 0) (.slice none 0 0))
   go_wp2_with fail
   (try simp only [Exit.inBlock, Exit.then])
   refine bodyPost_ret (v := .tuple #[.agg #[.int .i64 vk, .bool vb, .int .i64 vi, .string vs, .slice none 0 0, .slice none 0 0], .bool false]) ?_ rfl (.inr ⟨by rw [sca_4 H1.out H2.out H3.out, HQ.out], vk, vb, vi, vs, k1, rfl, RF.out⟩)
   rw [results_cell_tmp rfl]
   go_simp
end Go.Proofs.YtdgfjdhobdfglaaGreatDoor
set_option maxRecDepth 100000
namespace Go.Proofs.YtdgfjdhobdfglaaGreatDoor
open Go.RowKit Go.Lib
abbrev z50 : Obj := .cells #[.string ⟨#[]⟩, .int .i64 0, .bool false, .int .i64 0, .string ⟨#[]⟩, .slice none 0 0, .slice none 0 0] 40
def MeP (R : Option (Mem × Nat)) (g : Nat) (s : ByteArray) (w : World) (e : Ending) (w' : World) : Prop :=
 (∃ nm vk vb vi vs k1, R = some ((nm, .mk vk vb vi vs [] []), k1) /\ e = .returned (.tuple #[.agg #[.string nm, .int .i64 vk, .bool vb, .int .i64 vi, .string vs, .slice none 0 0, .slice none 0 0], .bool true]) /\ nm.size <= maxLen /\ In64 vk /\ In64 vi /\ vs.size <= maxLen /\ RdP g s w w' k1) \/ (R = none /\ ∃ nm vk vb vi vs k1, e = .returned (.tuple #[.agg #[.string nm, .int .i64 vk, .bool vb, .int .i64 vi, .string vs, .slice none 0 0, .slice none 0 0], .bool false]) /\ RdP g s w w' k1)
theorem st7_grown (W : World) (g : Nat) (v0 v1 v2 v3 v4 v5 v6 : Value) : W.grownBy (((((((W.setCell ⟨g, 0, none⟩ v0).setCell ⟨g, 1, none⟩ v1).setCell ⟨g, 2, none⟩ v2).setCell ⟨g, 3, none⟩ v3).setCell ⟨g, 4, none⟩ v4).setCell ⟨g, 5, none⟩ v5).setCell ⟨g, 6, none⟩ v6) (some g) :=
 grown_set (grown_set (grown_set (grown_set (grown_set (grown_set (grown_set (World.grownBy.refl _ _) _ _) _ _) _ _) _ _) _ _) _ _) _ _
theorem RdP.box7 {g : Nat} {s : ByteArray} {w W : World} {k r : Nat} (h : RdP g s w W k) (hr : w.heap.size <= r) (hg : g < w.heap.size) (v0 v1 v2 v3 v4 v5 v6 : Value) : RdP g s w (((((((W.setCell ⟨r, 0, none⟩ v0).setCell ⟨r, 1, none⟩ v1).setCell ⟨r, 2, none⟩ v2).setCell ⟨r, 3, none⟩ v3).setCell ⟨r, 4, none⟩ v4).setCell ⟨r, 5, none⟩ v5).setCell ⟨r, 6, none⟩ v6) k :=
 h.far hr hg (st7_grown W r v0 v1 v2 v3 v4 v5 v6)
theorem namF_size {s : ByteArray} {k : Nat} {x : ByteArray} {k1 : Nat} (h : namF s.data.toList k = some (x, k1)) : x.size <= s.size := by
 unfold namF at h
 split at h
 ·have e := congrArg Prod.fst (Option.some.inj h)
  subst e
  show Array.size _ <= _
  have e2 : s.data.toList.length = s.size := by simp
  simp
  omega
 ·exact quoF_size h
theorem mem_1 {l : List UInt8} {k : Nat} (h : namF l k = none) : memF l k = none := by rw [memF, h]
theorem mem_2 {l : List UInt8} {k k1 : Nat} {x : ByteArray} (h : namF l k = some (x, k1)) (h2 : tkB l k1 [61] = false) : memF l k = none := by rw [memF, h]; dsimp only; rw [if_neg (by rw [h2]; decide)]
theorem mem_3 {l : List UInt8} {k k1 : Nat} {x : ByteArray} (h : namF l k = some (x, k1)) (h2 : tkB l k1 [61] = true) : memF l k = (scaF l (k1 + 1)).map (fun y => ((x, y.1), y.2)) := by rw [memF, h]; dsimp only; rw [if_pos h2]
set_option maxHeartbeats 8000000 in
theorem pmember_any (g : Nat) (s : ByteArray) (k : Nat) (w : World) (h : PB g s k w) (t : Td w) (hs : s.size <= 140737488355000) (hk : k <= s.size) (hg : 9 < g) :
 Calls Tryz.prog 124 #[.pointer (some ⟨g, 0, none⟩)] w (MeP (memF s.data.toList k) g s w) := by
 have hlt := h.lt
 have bA : Below w.heap.size w (w.alloc z50) := (Below.refl _ _).alloc (Nat.le_refl _) _
 have nb := heap_alloc_new w z50
 have hbsz : w.heap.size < (w.alloc z50).heap.size := by rw [alloc_size]; omega
 have RA : RdP g s w (w.alloc z50) k := ⟨hk, h.keep bA, grown_belowS bA g⟩
 have HT := hmk t
 have KA : Hid (∀ W k', RdP g s (w.alloc z50) W k' -> RdP g s w W k' /\ W.heap[w.heap.size]? = some z50 /\ Td W) := fun W k' r =>
  ⟨RA.trans r, (r.gr.block _ hbsz (fun e => by have := Option.some.inj e; omega)).trans nb, HT.out.grown (RA.trans r).gr hg⟩
 have CN : Hid (∀ W, PB g s k W -> Td W -> Calls Tryz.prog 91 #[.pointer (some ⟨g, 0, none⟩)] W (StP (namF s.data.toList k) g s W)) := fun W hW tW => pname_any g s k W hW tW hs hk hg
 have CE : Hid (∀ W k1, PB g s k1 W -> k1 <= s.size -> Calls Tryz.prog 90 #[.pointer (some ⟨g, 0, none⟩), .string ⟨#[61]⟩] W (TkP s.data.toList k1 [61] 1 g s W)) := fun W k1 hW hk1 => ptk g s _ k1 _ 1 W hW hs hk1 rfl rfl (by decide) (by decide)
 have CS : Hid (∀ W k1, PB g s k1 W -> Td W -> k1 <= s.size -> Calls Tryz.prog 92 #[.pointer (some ⟨g, 0, none⟩)] W (ScP (scaF s.data.toList k1) g s W)) := fun W k1 hW tW hk1 => pscalar_any g s k1 W hW tW hs hk1 hg
 have HNS : Hid (∀ x k1, namF s.data.toList k = some (x, k1) -> x.size <= maxLen) := fun x k1 hx => by have := namF_size hx; unfold maxLen; omega
 have PA := RA.pb
 have tA := HT.out.grown RA.gr hg
 clear h t bA RA nb hbsz
 go_enter Tryz.func124, Tryz.ntmps124
 go_wp2_with fail
 refine (CN.out _ PA tA).mono ?_
 rintro e w1 (⟨nm, k1, hn, rfl, r1⟩ | ⟨hn, k1, rfl, r1⟩)
 case inr =>
  obtain ⟨R1, N1, t1⟩ := KA.out w1 _ r1
  have HN := hmk hn
  clear hn r1
  obtain ⟨q0, q1, q2, q3, q4, q5, q6⟩ := cN7 N1
  have kf : ∀ ii, w1.frozen? ⟨w.heap.size, ii, none⟩ = false := frozen_of_block N1
  have RF := hmk (R1.box7 (Nat.le_refl _) hlt (.string ⟨#[]⟩) (.int .i64 0) (.bool false) (.int .i64 0) (.string ⟨#[]⟩) (.slice none 0 0) (.slice none 0 0))
  go_wp2_with fail
  (try simp only [Exit.inBlock, Exit.then])
  refine bodyPost_ret (v := .tuple #[.agg #[.string ⟨#[]⟩, .int .i64 0, .bool false, .int .i64 0, .string ⟨#[]⟩, .slice none 0 0, .slice none 0 0], .bool false]) ?_ rfl (.inr ⟨mem_1 HN.out, ⟨#[]⟩, 0, false, 0, ⟨#[]⟩, k1, rfl, RF.out⟩)
  rw [results_cell_tmp rfl]
  go_simp
 have HN := hmk hn
 clear hn
 obtain ⟨R1, N1, t1⟩ := KA.out w1 _ r1
 have P1 := R1.pb
 have hk1 := R1.le
 clear R1 N1 t1 PA tA
 go_wp2_with fail
 refine (CE.out _ k1 P1 hk1).mono ?_
 rintro e w2 (⟨hT, rfl, r2⟩ | ⟨hT, rfl, r2⟩)
 case inr =>
  obtain ⟨R2, N2, t2⟩ := KA.out w2 _ (r1.trans r2)
  have HE := hmk hT
  clear hT r1 r2 P1
  obtain ⟨q0, q1, q2, q3, q4, q5, q6⟩ := cN7 N2
  have kf : ∀ ii, w2.frozen? ⟨w.heap.size, ii, none⟩ = false := frozen_of_block N2
  have RF := hmk (R2.box7 (Nat.le_refl _) hlt (.string ⟨#[]⟩) (.int .i64 0) (.bool false) (.int .i64 0) (.string ⟨#[]⟩) (.slice none 0 0) (.slice none 0 0))
  go_wp2_with fail
  (try simp only [Exit.inBlock, Exit.then])
  refine bodyPost_ret (v := .tuple #[.agg #[.string ⟨#[]⟩, .int .i64 0, .bool false, .int .i64 0, .string ⟨#[]⟩, .slice none 0 0, .slice none 0 0], .bool false]) ?_ rfl (.inr ⟨mem_2 HN.out HE.out, ⟨#[]⟩, 0, false, 0, ⟨#[]⟩, k1, rfl, RF.out⟩)
  rw [results_cell_tmp rfl]
  go_simp
 have HE := hmk hT
 clear hT
 obtain ⟨R2, N2, t2⟩ := KA.out w2 _ (r1.trans r2)
 have P2 := R2.pb
 have hk2 := R2.le
 clear R2 N2 P1
 go_wp2_with fail
 refine (CS.out _ _ P2 t2 hk2).mono ?_
 rintro e w3 (⟨vk, vb, vi, vs, k3, hq, rfl, i1, i2, i3, r3⟩ | ⟨hq, vk, vb, vi, vs, k3, rfl, r3⟩)
 ·have bB : Below w3.heap.size w3 (w3.alloc (.cells #[.int .i64 vk, .bool vb, .int .i64 vi, .string vs, .slice none 0 0, .slice none 0 0] 25)) := (Below.refl _ _).alloc (Nat.le_refl _) _
  have nB := heap_alloc_new w3 (.cells #[.int .i64 vk, .bool vb, .int .i64 vi, .string vs, .slice none 0 0, .slice none 0 0] 25)
  obtain ⟨R4, N4, t4⟩ := KA.out _ _ ((r1.trans r2).trans (r3.trans ⟨r3.le, r3.pb.keep bB, grown_belowS bB g⟩))
  have HQ := hmk hq
  have HI := hmk (And.intro i1 (And.intro i2 i3))
  clear i1 i2 i3
  clear hq r1 r2 r3 P2 t2 bB
  obtain ⟨q0, q1, q2, q3, q4, q5, q6⟩ := cN7 N4
  have kf : ∀ ii, (w3.alloc (.cells #[.int .i64 vk, .bool vb, .int .i64 vi, .string vs, .slice none 0 0, .slice none 0 0] 25)).frozen? ⟨w.heap.size, ii, none⟩ = false := frozen_of_block N4
  have RF := hmk (R4.box7 (Nat.le_refl _) hlt (.string nm) (.int .i64 vk) (.bool vb) (.int .i64 vi) (.string vs) (.slice none 0 0) (.slice none 0 0))
  go_wp2_with fail
  (try simp only [Exit.inBlock, Exit.then])
  refine bodyPost_ret (v := .tuple #[.agg #[.string nm, .int .i64 vk, .bool vb, .int .i64 vi, .string vs, .slice none 0 0, .slice none 0 0], .bool true]) ?_ rfl (.inl ⟨nm, vk, vb, vi, vs, k3, by rw [mem_3 HN.out HE.out, HQ.out]; rfl, rfl, HNS.out nm k1 HN.out, HI.out.1, HI.out.2.1, HI.out.2.2, RF.out⟩)
  rw [results_cell_tmp rfl]
  go_simp
 ·have bB : Below w3.heap.size w3 (w3.alloc (.cells #[.int .i64 vk, .bool vb, .int .i64 vi, .string vs, .slice none 0 0, .slice none 0 0] 25)) := (Below.refl _ _).alloc (Nat.le_refl _) _
  have nB := heap_alloc_new w3 (.cells #[.int .i64 vk, .bool vb, .int .i64 vi, .string vs, .slice none 0 0, .slice none 0 0] 25)
  obtain ⟨R4, N4, t4⟩ := KA.out _ _ ((r1.trans r2).trans (r3.trans ⟨r3.le, r3.pb.keep bB, grown_belowS bB g⟩))
  have HQ := hmk hq
  clear hq r1 r2 r3 P2 t2 bB
  obtain ⟨q0, q1, q2, q3, q4, q5, q6⟩ := cN7 N4
  have kf : ∀ ii, (w3.alloc (.cells #[.int .i64 vk, .bool vb, .int .i64 vi, .string vs, .slice none 0 0, .slice none 0 0] 25)).frozen? ⟨w.heap.size, ii, none⟩ = false := frozen_of_block N4
  have RF := hmk (R4.box7 (Nat.le_refl _) hlt (.string nm) (.int .i64 vk) (.bool vb) (.int .i64 vi) (.string vs) (.slice none 0 0) (.slice none 0 0))
  go_wp2_with fail
  (try simp only [Exit.inBlock, Exit.then])
  refine bodyPost_ret (v := .tuple #[.agg #[.string nm, .int .i64 vk, .bool vb, .int .i64 vi, .string vs, .slice none 0 0, .slice none 0 0], .bool false]) ?_ rfl (.inr ⟨by rw [mem_3 HN.out HE.out, HQ.out]; rfl, nm, vk, vb, vi, vs, k3, rfl, RF.out⟩)
  rw [results_cell_tmp rfl]
  go_simp
end Go.Proofs.YtdgfjdhobdfglaaGreatDoor
