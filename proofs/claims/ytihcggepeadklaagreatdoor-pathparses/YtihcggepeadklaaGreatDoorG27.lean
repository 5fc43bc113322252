/- joined: BorP RdrB RdrC -/
import Derived.Test.YtihcggepeadklaaGreatDoorG26
import Derived.Test.YtihcggepeadklaaGreatDoorG25
import Derived.Lib.AtoiErrMem
/- What is unquoted is no longer than the text. -/
namespace Go.Proofs.YtihcggepeadklaaGreatDoor
open Go.RowKit Go.Lib
theorem Q.borne_of (s : ByteArray) (z : Int) (hs : s.size ≤ 140737488355000) : Q.Borne (Q.unqAll s.data.toList z) := by
  have h := Q.unqAll_inv s.data.toList z
  have hl : s.data.toList.length = s.size := by simp
  rw [hl] at h
  refine ⟨fun c => ?_, fun _ => by omega⟩
  have := (h.2 c).2.2.2.2
  omega
theorem Q.unq_place (s : ByteArray) (z : Int) : (Q.unqAll s.data.toList z).2.1 ≤ s.size ∧ ((Q.unqAll s.data.toList z).2.2 = 0 → (Q.unqAll s.data.toList z).1.length ≤ s.size) := by
  have h := Q.unqAll_inv s.data.toList z
  have hl : s.data.toList.length = s.size := by simp
  rw [hl] at h
  refine ⟨by omega, fun c => ?_⟩
  have := (h.2 c).2.2.2.2
  omega
end Go.Proofs.YtihcggepeadklaaGreatDoor
/- path's reader: quoted, name. -/
set_option linter.unusedSimpArgs false
set_option linter.unusedVariables false
namespace Go.Proofs.YtihcggepeadklaaGreatDoor
open Go.RowKit Go.Lib
/-- the reader behind a call -/
structure RdP (g : Nat) (s : ByteArray) (w w' : World) (k : Nat) : Prop where
  le : k ≤ s.size
  pb : PB g s k w'
  gr : w.grownBy w' (some g)
theorem RdP.trans {g : Nat} {s : ByteArray} {w w1 w2 : World} {k k2 : Nat} (h : RdP g s w w1 k) (h2 : RdP g s w1 w2 k2) : RdP g s w w2 k2 := ⟨h2.le, h2.pb, grown_trans h.gr h2.gr⟩
theorem Td.grown {w w' : World} {g : Nat} (t : Td w) (h : w.grownBy w' (some g)) (hg : 9 < g) : Td w' := by
  have hz := t.z
  have b : Below 10 w w' := (Below.refl 10 w).grown h (by omega) (fun k hk => by cases hk; omega)
  exact t.below b (by omega) b.size
theorem below_dq {w w1 : World} {q : Nat} (h : Below (w.drewN q).heap.size (w.drewN q) w1) : Below w.heap.size w w1 := by
  have e := drewN_size w q
  rw [e] at h
  exact (below_drewN (Below.refl _ w) q).trans h
/-- a string was read, or not -/
def StP (R : Option (ByteArray × Nat)) (g : Nat) (s : ByteArray) (w : World) (e : Ending) (w' : World) : Prop :=
  (∃ x k1, R = some (x, k1) ∧ e = .returned (.tuple #[.string x, .bool true]) ∧ RdP g s w w' k1) ∨ (R = none ∧ ∃ k1, e = .returned (.tuple #[.string ⟨#[]⟩, .bool false]) ∧ RdP g s w w' k1)
theorem quoF_yes {l : List UInt8} {k : Nat} {r : List UInt8} {pl er : Nat} (h : Q.unqAll l (k : Int) = (r, pl, er)) (h0 : er = 0) : quoF l k = some (⟨r.toArray⟩, pl) := by rw [quoF, h, if_pos h0]
theorem quoF_no {l : List UInt8} {k : Nat} {r : List UInt8} {pl er : Nat} (h : Q.unqAll l (k : Int) = (r, pl, er)) (h0 : er ≠ 0) : quoF l k = none := by rw [quoF, h, if_neg h0]
set_option maxHeartbeats 4000000 in
set_option maxRecDepth 100000 in
theorem pquo_any (g : Nat) (s : ByteArray) (k : Nat) (w : World) (h : PB g s k w) (t : Td w) (hs : s.size ≤ 140737488355000) (hk : k ≤ s.size) :
    Calls Tryz.prog 109 #[.pointer (some ⟨g, 0, none⟩)] w (StP (quoF s.data.toList k) g s w) := by
  have hlt := h.lt
  have X0 : ∀ x : Sub w.heap.size w, x.w.cell? ⟨g, 0, none⟩ = some (.string s) := sub_cell h.c0 hlt
  have X1 : ∀ x : Sub w.heap.size w, x.w.cell? ⟨g, 1, none⟩ = some (.int .i64 (k : Int)) := sub_cell h.c1 hlt
  obtain ⟨r, pl, er, hR⟩ : ∃ r pl er, Q.unqAll s.data.toList (k : Int) = (r, pl, er) := ⟨_, _, _, rfl⟩
  have CU : Hid (∀ x : Sub w.heap.size w, Calls Tryz.prog 134 #[.string s, .int .i64 (k : Int)] x.w fun e w'' => e = .returned (.tuple #[.string ⟨r.toArray⟩, .int .i64 (pl : Int), .int .i64 (er : Int)]) ∧ ∃ y : Sub w.heap.size w, w'' = y.w) := fun x => by
    have hx := t.below x.b t.z x.b.size
    have c := unquote_in s k x.w (by omega) hk hx.s hx.u hx.z (Q.borne_of s k hs)
    rw [hR] at c
    refine c.mono ?_
    rintro e w' ⟨rfl, b⟩
    exact ⟨rfl, ⟨w', x.b.trans (b.mono x.b.size)⟩, rfl⟩
  have hpl := (Q.unq_place s (k : Int)).1
  rw [hR] at hpl
  simp only at hpl
  have HR := hmk hR
  have HH := hmk h
  clear h hR t
  by_cases h0 : er = 0
  · have y0 : ((er : Int) != 0) = false := by rw [bne_eq_false_iff_eq]; omega
    have HQ := hmk (quoF_yes HR.out h0)
    clear h0
    go_enter Tryz.func109, Tryz.ntmps109
    go_wp2_with fail
    refine wp_region_sub w.heap.size (by kernel_rfl) (by kernel_rfl) ?_
    repeat (go_big_quiet_step (first | exact CU.out _))
    refine wpQuiet_nil ?_
    rintro wq ⟨⟨wq', bq⟩, hq⟩
    have hq' : wq = wq' := hq
    subst hq'
    clear hq
    have P1 := HH.out.keep bq
    have f1 := P1.fz 1
    have c1 := P1.c1
    go_wp2_with fail
    go_ret2
    exact .inl ⟨_, pl, HQ.out, rfl, hpl, P1.put pl _ rfl, grown_set (grown_belowS bq g) _ _⟩
  · have y0 : ((er : Int) != 0) = true := by rw [bne_iff_ne]; omega
    have HQ := hmk (quoF_no HR.out h0)
    clear h0
    go_enter Tryz.func109, Tryz.ntmps109
    go_wp2_with fail
    refine wp_region_sub w.heap.size (by kernel_rfl) (by kernel_rfl) ?_
    repeat (go_big_quiet_step (first | exact CU.out _))
    refine wpQuiet_nil ?_
    rintro wq ⟨⟨wq', bq⟩, hq⟩
    have hq' : wq = wq' := hq
    subst hq'
    clear hq
    go_wp2_with fail
    go_ret2
    exact .inr ⟨HQ.out, k, rfl, hk, HH.out.keep bq, grown_belowS bq g⟩
theorem sclone_any (s : ByteArray) (w : World) (hs : s.size ≤ 281474976710656) : Calls Tryz.prog 108 #[.string s] w fun e w' => e = .returned (.string s) ∧ Below w.heap.size w w' := by
  have c := hmk (Any.stringslite_Clone Tryz.lays316 s w hs)
  go_enter Tryz.func108, Tryz.ntmps108
  go_wp2_with fail
  refine c.out.mono ?_
  rintro e w' ⟨rfl, b⟩
  go_wp2_with fail
  go_ret
  exact ⟨rfl, b⟩
theorem ext_to (s : ByteArray) (k n : Nat) : (s.extract k s.size).extract 0 n = ⟨((s.data.toList.drop k).take n).toArray⟩ := by
  apply ByteArray.ext
  apply Array.ext'
  have := ext_list s k
  simp only [ByteArray.data_extract, Array.toList_extract] at this ⊢
  simp [List.extract] at this ⊢
  rw [this]
set_option maxHeartbeats 4000000 in
set_option maxRecDepth 100000 in
theorem pname_any (g : Nat) (s : ByteArray) (k : Nat) (w : World) (h : PB g s k w) (t : Td w) (hs : s.size ≤ 140737488355000) (hk : k ≤ s.size) (hg : 9 < g) :
    Calls Tryz.prog 69 #[.pointer (some ⟨g, 0, none⟩)] w (StP (namF s.data.toList k) g s w) := by
  have c0 := h.c0
  have c1 := h.c1
  have hsl := slice_from s k hk
  have hlt := h.lt
  have hxs := ext_size s k
  have hpn := (prefN_le (s.data.toList.drop k) 0).2
  have hle : (s.data.toList.drop k).length = s.size - k := by simp
  have CA : Hid (∀ W, Calls Tryz.prog 62 #[.string (s.extract k s.size)] W fun e w' => e = .returned (.int .i64 (prefN 0 (s.data.toList.drop k) : Int)) ∧ Below W.heap.size W w') := fun W => by
    have c := ahead_any (s.extract k s.size) W (by omega)
    rw [ext_list s k] at c
    exact c
  have CQ : Hid (∀ W, Below w.heap.size w W → Calls Tryz.prog 109 #[.pointer (some ⟨g, 0, none⟩)] W (StP (quoF s.data.toList k) g s W)) := fun W b => pquo_any g s k W (h.keep b) (t.below b t.z b.size) hs hk
  have HT := hmk t
  have HH := hmk h
  have HE := hmk (ext_to s k (prefN 0 (s.data.toList.drop k)))
  have HN : Hid (namF s.data.toList k = if 0 < prefN 0 (s.data.toList.drop k) then some (⟨((s.data.toList.drop k).take (prefN 0 (s.data.toList.drop k))).toArray⟩, k + prefN 0 (s.data.toList.drop k)) else quoF s.data.toList k) := rfl
  clear h t
  generalize prefN 0 (s.data.toList.drop k) = n at *
  generalize hY : s.extract k s.size = Y at *
  have HY := hmk hY
  clear hY
  by_cases h0 : 0 < n
  · have y0 : (n : Int) > 0 := by omega
    have C8 : Hid (∀ W, Calls Tryz.prog 108 #[.string (Y.extract 0 n)] W fun e w' => e = .returned (.string (Y.extract 0 n)) ∧ Below W.heap.size W w') := fun W => sclone_any _ W (by rw [HE.out]; show ((s.data.toList.drop k).take n).toArray.size ≤ _; simp; omega)
    have hn2 : (n : Int) ≤ Y.size := by omega
    go_enter Tryz.func69, Tryz.ntmps69
    go_wp2_with fail
    go_quiet (fail)
    go_wp2_with fail
    refine (CA.out _).mono ?_
    rintro e w1 ⟨rfl, b1⟩
    have b0 : Below w.heap.size w w1 := below_dq b1
    have P1 := HH.out.keep b0
    have d1 := P1.c1
    have f1 := P1.fz 1
    go_wp2_with fail
    refine (C8.out _).mono ?_
    rintro e w2 ⟨rfl, b2⟩
    go_wp2_with fail
    go_ret2
    have P2 := P1.put (k + n) ((k : Int) + n) (by omega)
    refine .inl ⟨Y.extract 0 n, k + n, by rw [HN.out, if_pos h0, HE.out], rfl, by omega, P2.keep b2, ?_⟩
    exact grown_trans (grown_set (grown_belowS b0 g) _ _) (grown_belowS b2 g)
  · have y0 : ¬ (n : Int) > 0 := by omega
    go_enter Tryz.func69, Tryz.ntmps69
    go_wp2_with fail
    go_quiet (fail)
    go_wp2_with fail
    refine (CA.out _).mono ?_
    rintro e w1 ⟨rfl, b1⟩
    have b0 : Below w.heap.size w w1 := below_dq b1
    have HB := hmk b0
    go_wp2_with fail
    refine (CQ.out _ b0).mono ?_
    rintro e w2 (⟨x, k1, hq, rfl, r⟩ | ⟨hq, k1, rfl, r⟩)
    · have HQ := hmk hq
      clear hq
      go_wp2_with fail
      go_ret2
      exact .inl ⟨x, k1, by rw [HN.out, if_neg h0, HQ.out], rfl, r.le, r.pb, grown_trans (grown_belowS HB.out g) r.gr⟩
    · have HQ := hmk hq
      clear hq
      go_wp2_with fail
      go_ret2
      exact .inr ⟨by rw [HN.out, if_neg h0, HQ.out], k1, rfl, r.le, r.pb, grown_trans (grown_belowS HB.out g) r.gr⟩
end Go.Proofs.YtihcggepeadklaaGreatDoor
/- path's reader: integer, scalar. -/
namespace Go.Proofs.YtihcggepeadklaaGreatDoor
open Go.RowKit Go.Lib
/-- a scalar was read, or not -/
def ScP (R : Option (V × Nat)) (g : Nat) (s : ByteArray) (w : World) (e : Ending) (w' : World) : Prop :=
  (∃ vk vb vi vs k1, R = some (.mk vk vb vi vs [] [], k1) ∧ e = .returned (.tuple #[.agg #[.int .i64 vk, .bool vb, .int .i64 vi, .string vs, .slice none 0 0, .slice none 0 0], .bool true]) ∧ In64 vk ∧ In64 vi ∧ vs.size ≤ maxLen ∧ RdP g s w w' k1) ∨ (R = none ∧ ∃ vk vb vi vs k1, e = .returned (.tuple #[.agg #[.int .i64 vk, .bool vb, .int .i64 vi, .string vs, .slice none 0 0, .slice none 0 0], .bool false]) ∧ RdP g s w w' k1)
abbrev z46 : Obj := .cells #[.int .i64 0, .bool false, .int .i64 0, .string ⟨#[]⟩, .slice none 0 0, .slice none 0 0] 46
theorem st6_grown (W : World) (g : Nat) (v0 v1 v2 v3 v4 v5 : Value) : W.grownBy ((((((W.setCell ⟨g, 0, none⟩ v0).setCell ⟨g, 1, none⟩ v1).setCell ⟨g, 2, none⟩ v2).setCell ⟨g, 3, none⟩ v3).setCell ⟨g, 4, none⟩ v4).setCell ⟨g, 5, none⟩ v5) (some g) :=
  grown_set (grown_set (grown_set (grown_set (grown_set (grown_set (World.grownBy.refl _ _) _ _) _ _) _ _) _ _) _ _) _ _
theorem RdP.drew {g : Nat} {s : ByteArray} {w W : World} {k : Nat} (h : RdP g s w W k) : RdP g s w W.drew k := ⟨h.le, h.pb, ⟨h.gr.os, h.gr.tape, h.gr.output, h.gr.size, h.gr.block⟩⟩
theorem RdP.far {g : Nat} {s : ByteArray} {w W W' : World} {k r : Nat} (h : RdP g s w W k) (hr : w.heap.size ≤ r) (hg : g < w.heap.size) (gr : W.grownBy W' (some r)) : RdP g s w W' k :=
  ⟨h.le, (gr.block g h.pb.lt (fun e => by have := Option.some.inj e; omega)).trans h.pb, gr.os.trans h.gr.os, gr.tape.trans h.gr.tape, gr.output.trans h.gr.output, Nat.le_trans h.gr.size gr.size, fun i hi hne => (gr.block i (Nat.lt_of_lt_of_le hi h.gr.size) (fun e => by have := Option.some.inj e; omega)).trans (h.gr.block i hi hne)⟩
theorem RdP.box6 {g : Nat} {s : ByteArray} {w W : World} {k r : Nat} (h : RdP g s w W k) (hr : w.heap.size ≤ r) (hg : g < w.heap.size) (v0 v1 v2 v3 v4 v5 : Value) : RdP g s w ((((((W.setCell ⟨r, 0, none⟩ v0).setCell ⟨r, 1, none⟩ v1).setCell ⟨r, 2, none⟩ v2).setCell ⟨r, 3, none⟩ v3).setCell ⟨r, 4, none⟩ v4).setCell ⟨r, 5, none⟩ v5) k :=
  h.far hr hg (st6_grown W r v0 v1 v2 v3 v4 v5)
theorem In64.zero : In64 0 := ⟨by omega, by omega⟩
theorem parse_in64 {l : List UInt8} {v : Int} (h : parseIntB 64 l = .ok v) : In64 v := by
  unfold parseIntB at h
  split at h
  · cases h
  · rename_i c r
    dsimp only at h
    split at h
    · cases h
    · cases h
    · rename_i u hu
      split at h
      · cases h
      · rename_i h1
        split at h
        · cases h
        · rename_i h2
          have e := NumEnd.ok.inj h
          subst e
          by_cases hn : c.toNat = 45
          · rw [if_pos hn]
            have h2' : ¬ 2 ^ 63 < u := fun q => h2 ⟨hn, q⟩
            refine ⟨?_, ?_⟩ <;> omega
          · rw [if_neg hn]
            have h1' : ¬ 2 ^ 63 ≤ u := fun q => h1 ⟨hn, q⟩
            refine ⟨?_, ?_⟩ <;> omega
/-- what strconv.ParseInt answers: the number, and whether there is no error -/
theorem pint_any (s : ByteArray) (w : World) (t : Td w) (hs : s.size ≤ 281474976710656) :
    Calls Tryz.prog 136 #[.string s, .int .i64 10, .int .i64 64] w fun e w' => ∃ (v : Int) (er : Value), e = .returned (.tuple #[.int .i64 v, er]) ∧ Below w.heap.size w w' ∧ ((parseIntB 64 s.data.toList = .ok v ∧ er = .nilIface) ∨ ((∀ u, parseIntB 64 s.data.toList ≠ .ok u) ∧ ∃ te pe, er = .iface te pe)) := by
  obtain ⟨t5, p5, t6, p6, h5, h6⟩ := t.e
  cases hp : parseIntB 64 s.data.toList with
  | ok v =>
    refine (Any.strconv_ParseInt_10_at64_ok Tryz.lays174 s (by omega) v hp w).mono ?_
    rintro e w' ⟨rfl, h⟩
    refine ⟨v, .nilIface, rfl, ?_, .inl ⟨rfl, rfl⟩⟩
    rcases h with rfl | ⟨u, rfl⟩
    · exact Below.refl _ _
    · exact bytesWorld_below w 5 u
  | «syntax» =>
    refine (Any.strconv_ParseInt_10_at64_syntax Tryz.lays174 s hs hp _ w h5 (.inr ⟨_, _, rfl⟩)).mono ?_
    rintro e w' ⟨N, rfl, _, _, b⟩
    exact ⟨_, _, rfl, b, .inr ⟨(fun u h => by cases h), _, _, rfl⟩⟩
  | range =>
    refine (Any.strconv_ParseInt_10_at64_range Tryz.lays174 s hs hp _ w h6 (.inr ⟨_, _, rfl⟩)).mono ?_
    rintro e w' ⟨N, rfl, _, _, b⟩
    exact ⟨_, _, rfl, b, .inr ⟨(fun u h => by cases h), _, _, rfl⟩⟩
theorem tw_split (l : List UInt8) (p : UInt8 → Bool) : l.length - (l.dropWhile p).length = (l.takeWhile p).length ∧ l.take (l.takeWhile p).length = l.takeWhile p := by
  have h := List.takeWhile_append_dropWhile (p := p) (l := l)
  have hl := congrArg List.length h
  rw [List.length_append] at hl
  refine ⟨by omega, ?_⟩
  exact (List.prefix_iff_eq_take.1 (List.takeWhile_prefix p)).symm
theorem intF_yes {l : List UInt8} {k : Nat} {v : Int} (h : parseIntB 64 (runT l k) = .ok v) : intF l k = some (.mk 2 false v ⟨#[]⟩ [] [], k + (runT l k).length) := by rw [intF, h]
theorem intF_no {l : List UInt8} {k : Nat} (h : ∀ u, parseIntB 64 (runT l k) ≠ .ok u) : intF l k = none := by
  rw [intF]
  cases hp : parseIntB 64 (runT l k) with
  | ok v => exact absurd hp (h v)
  | «syntax» => rfl
  | range => rfl
theorem cutset_ascii : ∀ (j : Nat) b, (⟨#[45, 48, 49, 50, 51, 52, 53, 54, 55, 56, 57]⟩ : ByteArray).data.toList[j]? = some b → b.toNat < 128 := ascii_of_all (by decide)
theorem trim_any (s : ByteArray) (w : World) :
    Calls Tryz.prog 135 #[.string s, .string ⟨#[45, 48, 49, 50, 51, 52, 53, 54, 55, 56, 57]⟩] w fun e w' => e = .returned (.string ⟨(s.data.toList.dropWhile (minDig.contains ·)).toArray⟩) ∧ Below w.heap.size w w' :=
  Any.strings_TrimLeft_laid Tryz.lays161 (by kernel_rfl) s _ w (by decide) cutset_ascii
set_option maxHeartbeats 4000000 in
set_option maxRecDepth 100000 in
theorem pinteger_any (g : Nat) (s : ByteArray) (k : Nat) (w : World) (h : PB g s k w) (t : Td w) (hs : s.size ≤ 140737488355000) (hk : k ≤ s.size) (hg : 9 < g) :
    Calls Tryz.prog 110 #[.pointer (some ⟨g, 0, none⟩)] w (ScP (intF s.data.toList k) g s w) := by
  have hlt := h.lt
  have bA : Below w.heap.size w (w.alloc z46) := (Below.refl _ _).alloc (Nat.le_refl _) _
  have hza := alloc_size w z46
  have nb := heap_alloc_new w z46
  have hbsz : w.heap.size < (w.alloc z46).heap.size := by rw [hza]; omega
  have PA := h.keep bA
  have c0 := PA.c0
  have c1 := PA.c1
  have hsl := slice_from s k hk
  have hxs := ext_size s k
  have hle : (s.data.toList.drop k).length = s.size - k := by simp
  obtain ⟨hw1, hw2⟩ := tw_split (s.data.toList.drop k) (minDig.contains ·)
  have hrl := runT_le s.data.toList k
  have hll : s.data.toList.length = s.size := by simp
  have CT : Hid (∀ W, Calls Tryz.prog 135 #[.string (s.extract k s.size), .string ⟨#[45, 48, 49, 50, 51, 52, 53, 54, 55, 56, 57]⟩] W fun e w' => ∃ D : ByteArray, e = .returned (.string D) ∧ (D.size : Int) = s.size - k - (runT s.data.toList k).length ∧ Below W.heap.size W w') := fun W => by
    refine (trim_any (s.extract k s.size) W).mono ?_
    rintro e w' ⟨rfl, b⟩
    refine ⟨_, rfl, ?_, b⟩
    rw [ext_list s k]
    have : (⟨((s.data.toList.drop k).dropWhile (minDig.contains ·)).toArray⟩ : ByteArray).size = ((s.data.toList.drop k).dropWhile (minDig.contains ·)).length := by
      show Array.size _ = _
      simp
    rw [this]
    have e1 : (runT s.data.toList k).length = ((s.data.toList.drop k).takeWhile (minDig.contains ·)).length := rfl
    have e2 := (List.dropWhile_suffix (fun b => minDig.contains b) (l := s.data.toList.drop k)).length_le
    omega
  have HE : Hid ((s.extract k s.size).extract 0 (runT s.data.toList k).length = ⟨(runT s.data.toList k).toArray⟩) := by
    show _ = _
    rw [ext_to]
    show _ = (⟨((s.data.toList.drop k).takeWhile (minDig.contains ·)).toArray⟩ : ByteArray)
    have : (s.data.toList.drop k).take (runT s.data.toList k).length = (s.data.toList.drop k).takeWhile (minDig.contains ·) := hw2
    rw [this]
  have CP : Hid (∀ W, Below w.heap.size w W → Calls Tryz.prog 136 #[.string ((s.extract k s.size).extract 0 (runT s.data.toList k).length), .int .i64 10, .int .i64 64] W fun e w' => ∃ (v : Int) (er : Value), e = .returned (.tuple #[.int .i64 v, er]) ∧ Below W.heap.size W w' ∧ ((parseIntB 64 (runT s.data.toList k) = .ok v ∧ er = .nilIface) ∨ ((∀ u, parseIntB 64 (runT s.data.toList k) ≠ .ok u) ∧ ∃ te pe, er = .iface te pe))) := fun W b => by
    have c := pint_any ((s.extract k s.size).extract 0 (runT s.data.toList k).length) W (t.below b t.z b.size) (by rw [HE.out]; show Array.size _ ≤ _; simp; omega)
    rw [HE.out] at c ⊢
    exact c
  have HY : Hid (∀ v, parseIntB 64 (runT s.data.toList k) = .ok v → intF s.data.toList k = some (.mk 2 false v ⟨#[]⟩ [] [], k + (runT s.data.toList k).length)) := fun v h => intF_yes h
  have HN : Hid ((∀ u, parseIntB 64 (runT s.data.toList k) ≠ .ok u) → intF s.data.toList k = none) := fun h => intF_no h
  have HH := hmk h
  have HT := hmk t
  clear h t hw1 hw2 hle
  have hz : ((s.extract k s.size).extract 0 (runT s.data.toList k).length).size = (runT s.data.toList k).length := by rw [HE.out]; show Array.size _ = _; simp
  have HZ := hmk hz
  clear hz HE
  generalize hn : (runT s.data.toList k).length = n at *
  have HNN := hmk hn
  clear hn
  generalize hY : s.extract k s.size = Y at *
  clear hY
  have hyn : (n : Int) ≤ Y.size := by omega
  have HXS := hmk hxs
  clear hxs
  go_enter Tryz.func110, Tryz.ntmps110
  go_wp2_with fail
  go_quiet (fail)
  go_wp2_with fail
  refine (CT.out _).mono ?_
  rintro e w1 ⟨D, rfl, hD, b1⟩
  have B1 : Below w.heap.size w w1 := bA.trans ((below_dq b1).mono bA.size)
  have hD2 : (Y.size : Int) - D.size = n := by have := HXS.out; omega
  have HDD := hmk hD
  clear hD
  go_wp2_with fail
  refine (CP.out w1 B1).mono ?_
  rintro e w2 ⟨v, er, rfl, b2, hv⟩
  have B2 := B1.trans (b2.mono B1.size)
  have P2 := HH.out.keep B2
  have d1 := P2.c1
  have f1 := P2.fz 1
  have hN2 : w2.heap[w.heap.size]? = some z46 := ((b2.block _ (Nat.lt_of_lt_of_le hbsz (below_dq b1).size)).trans ((below_dq b1).block _ hbsz)).trans nb
  have HV := hmk hv
  clear hv b1 b2 B1 PA c0 c1 bA
  clear hza
  go_wp2_with fail
  have P3 := P2.put (k + n) ((k : Int) + ((min n Y.size : Nat) : Int)) (by omega)
  have R3 : RdP g s w (w2.setCell ⟨g, 1, none⟩ (.int .i64 ((k : Int) + ((min n Y.size : Nat) : Int)))) (k + n) := ⟨by omega, P3, grown_set (grown_belowS B2 g) _ _⟩
  have N3 : (w2.setCell ⟨g, 1, none⟩ (.int .i64 ((k : Int) + ((min n Y.size : Nat) : Int)))).heap[w.heap.size]? = some z46 := (Below.heap_setCell _ _ _ _ (by show w.heap.size ≠ g; omega)).trans hN2
  clear P3 hN2 P2 d1 f1 B2 nb hbsz
  generalize w2.setCell ⟨g, 1, none⟩ (.int .i64 ((k : Int) + ((min n Y.size : Nat) : Int))) = w3 at *
  have q0 : w3.cell? ⟨w.heap.size, 0, none⟩ = some (.int .i64 0) := cell_of_block N3 0
  have q1 : w3.cell? ⟨w.heap.size, 1, none⟩ = some (.bool false) := cell_of_block N3 1
  have q2 : w3.cell? ⟨w.heap.size, 2, none⟩ = some (.int .i64 0) := cell_of_block N3 2
  have q3 : w3.cell? ⟨w.heap.size, 3, none⟩ = some (.string ⟨#[]⟩) := cell_of_block N3 3
  have q4 : w3.cell? ⟨w.heap.size, 4, none⟩ = some (.slice none 0 0) := cell_of_block N3 4
  have q5 : w3.cell? ⟨w.heap.size, 5, none⟩ = some (.slice none 0 0) := cell_of_block N3 5
  have kf : ∀ ii, w3.frozen? ⟨w.heap.size, ii, none⟩ = false := frozen_of_block N3
  have R4 := hmk ((R3.box6 (Nat.le_refl _) hlt (.int .i64 2) (.bool false) (.int .i64 v) (.string ⟨#[]⟩) (.slice none 0 0) (.slice none 0 0)).drew)
  rcases HV.out with ⟨hok, rfl⟩ | ⟨hno, te, pe, rfl⟩
  · have HO := hmk hok
    clear hok HV R3 N3
    go_region
    all_goals
      go_wp2_with fail
      (try simp only [Exit.inBlock, Exit.then])
      refine bodyPost_ret (v := .tuple #[.agg #[.int .i64 2, .bool false, .int .i64 v, .string ⟨#[]⟩, .slice none 0 0, .slice none 0 0], .bool true]) ?_ rfl (.inl ⟨2, false, v, ⟨#[]⟩, k + n, HY.out v HO.out, rfl, ⟨by omega, by omega⟩, parse_in64 HO.out, Nat.zero_le _, R4.out⟩)
      rw [results_cell_tmp rfl]
      go_simp
  · have HO := hmk hno
    clear hno HV R3 N3
    go_region
    all_goals
      go_wp2_with fail
      (try simp only [Exit.inBlock, Exit.then])
      refine bodyPost_ret (v := .tuple #[.agg #[.int .i64 2, .bool false, .int .i64 v, .string ⟨#[]⟩, .slice none 0 0, .slice none 0 0], .bool false]) ?_ rfl (.inr ⟨HN.out HO.out, 2, false, v, ⟨#[]⟩, k + n, rfl, R4.out⟩)
      rw [results_cell_tmp rfl]
      go_simp
end Go.Proofs.YtihcggepeadklaaGreatDoor
