/- joined: PthA RowQ CntM CntP SamA -/
import Derived.Test.YtfekgeaopchilaaGreatDoorG3
/- Elements and paths: what they are, how they lie in memory, how an argument is opened. -/
set_option linter.unusedSimpArgs false
set_option linter.unusedVariables false
namespace Go.Proofs.YtfekgeaopchilaaGreatDoor
open Go.ChangeShapes Go.WideShapes Go.Deep
structure El where
  kind : Int
  name : ByteArray
  key : List Mem
  item : V
theorem hmk {P : Prop} (h : P) : Go.RowKit.Hid P := h
/-- the element lies in these nine cells, and below in blocks of S -/
def El.lies (w : World) (S : Nat → Prop) (e : El) (cs : List Value) : Prop :=
  ∃ am cm bm om is, cs = .int .i64 e.kind :: .string e.name :: .slice am e.key.length cm :: is ∧ In64 e.kind ∧ e.name.size ≤ maxLen ∧ Headed am e.key.length cm bm om ∧ liesM false w S e.key bm om ∧ e.item.lies false w S is
def liesP (w : World) (S : Nat → Prop) (p : List El) (b o : Nat) : Prop := ∀ (j : Nat) (h : j < p.length), S b ∧ ∃ cs, rowAt w b (o + j * 9) cs ∧ (p[j]).lies w S cs
theorem El.lies_keep {w w' : World} {S S' : Nat → Prop} (hw : ∀ b, S b → w'.heap[b]? = w.heap[b]?) (hS : ∀ b, S b → S' b) {e : El} {cs : List Value} (h : e.lies w S cs) : e.lies w' S' cs := by
  obtain ⟨am, cm, bm, om, is, h0, h1, h2, h3, h4, h5⟩ := h
  exact ⟨am, cm, bm, om, is, h0, h1, h2, h3, liesM_keep (fun h => h) hw hS _ h4, V.lies_keep (fun h => h) hw hS _ h5⟩
theorem liesP_keep {w w' : World} {S S' : Nat → Prop} (hw : ∀ b, S b → w'.heap[b]? = w.heap[b]?) (hS : ∀ b, S b → S' b) {p : List El} {b o : Nat} (h : liesP w S p b o) : liesP w' S' p b o := fun j hj => by
  obtain ⟨h1, cs, h2, h3⟩ := h j hj
  exact ⟨hS _ h1, cs, h2.keep (hw _ h1), El.lies_keep hw hS h3⟩
theorem liesP_sub {w : World} {S : Nat → Prop} {p : List El} {b o : Nat} (h : liesP w S p b o) (n : Nat) : liesP w S (p.take n) b o := fun j hj => by
  have hj' : j < p.length := by simp at hj; omega
  have := h j hj'
  simpa using this
/-- the nine cells -/
theorem El.nine {w : World} {S : Nat → Prop} {e : El} {cs : List Value} (h : e.lies w S cs) : ∃ k s am nm cm vk vb vi vs val vnl vcl vam vnm vcm, cs = [.int .i64 k, .string s, .slice am nm cm, .int .i64 vk, .bool vb, .int .i64 vi, .string vs, .slice val vnl vcl, .slice vam vnm vcm] := by
  obtain ⟨am, cm, bm, om, is, rfl, _, _, _, _, h5⟩ := h
  obtain ⟨k, n, ky, v⟩ := e
  obtain ⟨vk, vb, vi, vs, vl, vm⟩ := v
  rw [V.lies] at h5
  obtain ⟨al, cl, bl, ol, am', cm', bm', om', rfl, _⟩ := h5
  exact ⟨_, _, _, _, _, _, _, _, _, _, _, _, _, _, _, rfl⟩
theorem row9 {w : World} {b o : Nat} {c0 c1 c2 c3 c4 c5 c6 c7 c8 : Value} (h : rowAt w b o [c0, c1, c2, c3, c4, c5, c6, c7, c8]) :
    w.cell? ⟨b, o, none⟩ = some c0 ∧ w.cell? ⟨b, o + 1, none⟩ = some c1 ∧ w.cell? ⟨b, o + 2, none⟩ = some c2 ∧ w.cell? ⟨b, o + 3, none⟩ = some c3 ∧ w.cell? ⟨b, o + 4, none⟩ = some c4 ∧ w.cell? ⟨b, o + 5, none⟩ = some c5 ∧ w.cell? ⟨b, o + 6, none⟩ = some c6 ∧ w.cell? ⟨b, o + 7, none⟩ = some c7 ∧ w.cell? ⟨b, o + 8, none⟩ = some c8 :=
  ⟨h 0 _ rfl, h 1 _ rfl, h 2 _ rfl, h 3 _ rfl, h 4 _ rfl, h 5 _ rfl, h 6 _ rfl, h 7 _ rfl, h 8 _ rfl⟩
theorem row9z {w : World} {b : Nat} {c0 c1 c2 c3 c4 c5 c6 c7 c8 : Value} (h : rowAt w b 0 [c0, c1, c2, c3, c4, c5, c6, c7, c8]) :
    w.cell? ⟨b, 0, none⟩ = some c0 ∧ w.cell? ⟨b, 1, none⟩ = some c1 ∧ w.cell? ⟨b, 2, none⟩ = some c2 ∧ w.cell? ⟨b, 3, none⟩ = some c3 ∧ w.cell? ⟨b, 4, none⟩ = some c4 ∧ w.cell? ⟨b, 5, none⟩ = some c5 ∧ w.cell? ⟨b, 6, none⟩ = some c6 ∧ w.cell? ⟨b, 7, none⟩ = some c7 ∧ w.cell? ⟨b, 8, none⟩ = some c8 := by
  have := row9 h
  simpa using this
/-- how many bytes and values -/
def El.wt (e : El) : Nat := e.item.wt + e.name.size + wtM e.key
def wtP : List El → Nat
  | [] => 0
  | e :: t => e.wt + wtP t
theorem El.wt_pos (e : El) : 1 ≤ e.wt := by have := V.wt_pos e.item; unfold El.wt; omega
theorem wtP_len : ∀ p : List El, p.length ≤ wtP p
  | [] => by simp [wtP]
  | e :: t => by have := El.wt_pos e; have := wtP_len t; simp only [wtP, List.length_cons]; omega
theorem wtP_mem : ∀ {p : List El} {e : El}, e ∈ p → e.wt ≤ wtP p
  | [], e, h => by cases h
  | y :: t, e, h => by
    rcases List.mem_cons.1 h with rfl | h
    · simp only [wtP]; omega
    · have := wtP_mem h; simp only [wtP]; omega
theorem wtP_app : ∀ a b : List El, wtP (a ++ b) = wtP a + wtP b
  | [], b => by simp [wtP]
  | x :: t, b => by have := wtP_app t b; simp only [wtP, List.cons_append]; omega
theorem take_succ_wtP {l : List El} {j : Nat} (h : j < l.length) : wtP (l.take (j + 1)) = wtP (l.take j) + (l[j]).wt := by
  rw [List.take_succ_eq_append_getElem h, wtP_app]; simp [wtP]
theorem cellsP35 : Tryz.prog.cellsOf 60 = 9 := by kernel_rfl
theorem cellsP30 : Tryz.prog.cellsOf 31 = 1 := by kernel_rfl
theorem cellsP33 : Tryz.prog.cellsOf 33 = 6 := by kernel_rfl
theorem len9 {α : Type} {l : List α} (h : l.length = 9) : ∃ c0 c1 c2 c3 c4 c5 c6 c7 c8, l = [c0, c1, c2, c3, c4, c5, c6, c7, c8] := by
  match l, h with
  | [c0, c1, c2, c3, c4, c5, c6, c7, c8], _ => exact ⟨_, _, _, _, _, _, _, _, _, rfl⟩
section
variable {H : Type} {enc : TypeId × Value → H} {w : World} {spare : Nat → Bool} {held : Bool}
theorem open_elem {n : Nat} {cs : List Value} {x} (h : DataW.trod enc Tryz.prog w 0 spare held n 60 cs = some x) : ∃ e : El, e.lies w (Old w) cs := by
  cases n with
  | zero => simp [DataW.trod] at h
  | succ n =>
  obtain ⟨xs, n', hn, _, hl, hlen, hf⟩ := DataW.trod_struct Tryz.underlying60 h
  obtain rfl : n = n' := by omega
  rw [cellsP35] at hl
  obtain ⟨c0, c1, c2, c3, c4, c5, c6, c7, c8, rfl⟩ := len9 hl
  have h6 : xs.length = 4 := hlen
  have f0 := hf 0 _ rfl
  rw [List.getElem?_eq_getElem (by omega)] at f0
  have f1 := hf 1 _ rfl
  rw [List.getElem?_eq_getElem (by omega)] at f1
  have f2 := hf 2 _ rfl
  rw [List.getElem?_eq_getElem (by omega)] at f2
  have f3 := hf 3 _ rfl
  rw [List.getElem?_eq_getElem (by omega)] at f3
  simp [cells3, cells9, cellsP30, cellsP33] at f0 f1 f2 f3
  obtain ⟨k, e0, _, wk⟩ := DataW.trod_int Tryz.underlying3 f0
  obtain ⟨s, e1, _, hs⟩ := DataW.trod_string Tryz.underlying9 f1
  obtain ⟨m, am, cm, bm, om, e2, hm1, hm2⟩ := (open_all n).2.2.2 _ _ f2
  obtain ⟨v, hv⟩ := (open_all n).1 _ _ f3
  simp only [List.cons.injEq, and_true] at e0 e1 e2
  subst e0 e1 e2
  exact ⟨⟨k, s, m, v⟩, am, cm, bm, om, _, rfl, in64_of wk, hs, hm1, hm2, hv⟩
theorem open_path {n : Nat} {cs : List Value} {x} (h : DataW.trod enc Tryz.prog w 0 spare held n 25 cs = some x) : ∃ (l : List El) (ao : Option Addr) (cap b o : Nat), cs = [.slice ao l.length cap] ∧ Headed ao l.length cap b o ∧ liesP w (Old w) l b o := by
  cases n with
  | zero => simp [DataW.trod] at h
  | succ n =>
  rcases DataW.trod_slice Tryz.underlying25 h with ⟨rfl, _⟩ | ⟨a, len, cap, elems, rest, n', hn, rfl, _, _, hlc, hcm, hlen, hel, _⟩
  · exact ⟨[], none, 0, 0, 0, rfl, ⟨Nat.le_refl _, by simp [maxLen], .inl rfl, fun _ => rfl⟩, fun j hj => by simp at hj⟩
  obtain rfl : n = n' := by omega
  rw [cellsP35] at hel
  obtain ⟨l, b, o, hll, hao, hq⟩ := elems_at (w := w) (a := a) (len := len) (k := 9) (Q := fun (e : El) cs => e.lies w (Old w) cs) (by omega) (fun i hi => by
    have he := hel i hi
    rw [List.getElem?_eq_getElem (by omega)] at he
    obtain ⟨cs, h1, h2⟩ := Option.bind_eq_some_iff.1 he
    obtain ⟨e, he⟩ := open_elem h2
    exact ⟨cs, e, h1, he⟩)
  subst hll
  refine ⟨l, some a, cap, b, o, rfl, ⟨hlc, hcm, ?_, fun h => by cases h⟩, hq⟩
  rcases hao with h | rfl
  · exact .inl h
  · exact .inr rfl
end
end Go.Proofs.YtfekgeaopchilaaGreatDoor
/- What the row of PathPairs needs: a path opened and given back. -/
namespace Go.Proofs.YtfekgeaopchilaaGreatDoor
open Go.Shelf Go.Lib Go.ChangeShapes Go.RowKit
variable {H : Type} {enc : TypeId × Value → H}
theorem open23 {W : World} {spare : Nat → Bool} {held : Bool} {v : Value} {d : DataW H} {p : List MemPlace} (hsl : ∃ a n c, v = .slice a n c) (h : DataW.Trod enc Tryz.prog W 0 spare held 25 v d p) : ∃ (l : List El) (ao : Option Addr) (cap b o : Nat), v = .slice ao l.length cap ∧ Headed ao l.length cap b o ∧ liesP W (Old W) l b o := by
  obtain ⟨n, hn⟩ := h
  obtain ⟨l, ao, cap, b, o, e, h1, h2⟩ := open_path hn
  obtain ⟨a0, n0, c0, rfl⟩ := hsl
  refine ⟨l, ao, cap, b, o, ?_, h1, h2⟩
  simpa [Value.cells] using e
theorem back23 {W W' : World} {v : Value} {d : DataW H} {p : List MemPlace} (h : DataW.Trod enc Tryz.prog W 0 (fun _ => true) true 25 v d p) (hlt : ∀ x ∈ p, x.block < W.heap.size) (hb : Below W.heap.size W W') :
    DataW.Trod enc Tryz.prog W' 0 (fun b => decide (b < W.heap.size)) true 25 v d p :=
  WideElems.Trod_stays (P := Tryz.prog) laidOut' (by kernel_rfl) (of_decide_eq_true (by kernel_rfl)) h (fun x hx => below_same hb (hlt x hx)) (fun x hx => by simpa using hlt x hx)
end Go.Proofs.YtfekgeaopchilaaGreatDoor
/- whether members are beyond the bound. -/
namespace Go.Proofs.YtfekgeaopchilaaGreatDoor
open Go.RowKit
set_option maxHeartbeats 1600000 in
set_option maxRecDepth 100000 in
theorem cmems_any (m : List Mem) (B n : Nat) (S : Nat → Prop) (am : Option Addr) (cm bm om : Nat) (w : World) (ham : Headed am m.length cm bm om) (hm : liesM false w S m bm om) (hS : ∀ b, S b → b ≠ B ∧ b < w.heap.size) (hc : Cnt B n w) (hn : n ≤ 2147483647) :
    Calls Tryz.prog 57 #[.pointer (some ⟨B, 0, none⟩), .slice am m.length cm] w (CntPost B n (wtM m) w) := by
  have HM : Hid (liesM false w S m bm om) := hm
  have hml : m.length ≤ 9223372036854775807 := Nat.le_trans ham.le ham.max
  clear hm
  have hkeep : ∀ wr : World, w.grownBy wr (some B) → ∀ b, S b → wr.heap[b]? = w.heap[b]? := fun wr g b hb => g.block b (hS b hb).2 (fun e => (hS b hb).1 (Option.some.inj e))
  go_enter Tryz.func57, Tryz.ntmps57
  go_wp2_with fail
  go_loopw [5] (fun e wr => ∃ j : Nat, j ≤ m.length ∧ e = .int .i64 (j : Int) ∧ n + wtM (m.take j) ≤ 2147483647 ∧ Cnt B (n + wtM (m.take j)) wr ∧ w.grownBy wr (some B)) (fun e _ => m.length - (RowKit.intOf e).toNat)
  case atStart => exact ⟨0, by omega, rfl, by simpa [wtM] using hn, by simpa [wtM] using hc, World.grownBy.refl w (some B)⟩
  case round =>
    clear hn hc
    obtain ⟨j, hj, rfl, hnj, hcj, gj⟩ := hrel
    by_cases hjl : j < m.length
    · have y1 : (j : Int) < m.length := by omega
      obtain ⟨hSb, hks, csj, hrow, hlj⟩ := liesM_get HM.out j hjl
      obtain rfl : am = some ⟨bm, om, none⟩ := ham.at_.resolve_left (by omega)
      have hrow' := hrow.keep (hkeep wr gj _ hSb)
      have hlj' := V.lies_keep (R' := false) (S' := S) (fun h => h) (hkeep wr gj) (fun _ h => h) _ hlj
      have HT : Hid (wtM (m.take (j + 1)) = wtM (m.take j) + ((m[j]).1.size + (m[j]).2.wt)) := take_succ_wtM hjl
      obtain ⟨ek, eb, ei, es, eal, enl, ecl, eam, enm, ecm, rfl⟩ := V.ten hlj
      generalize hmj : m[j] = mj at *
      obtain ⟨q, q0, q1, q2, q3, q4, q5⟩ := row7 hrow'
      clear hlj hrow hrow'
      go_wp2_with fail
      refine (many_any B _ mj.1.size wr hcj hnj hks).mono ?_
      rintro e w3 ⟨r, rfl, g3, h3⟩
      cases r
      · obtain ⟨hn3, hc3⟩ := h3 rfl
        have g03 := grown_trans gj g3
        have hlj3 := V.lies_keep (R' := false) (S' := S) (fun h => h) (fun b hb => (g3.block b (Nat.lt_of_lt_of_le (hS b hb).2 gj.size) (fun e => (hS b hb).1 (Option.some.inj e)))) (fun _ h => h) _ hlj'
        have ih := cval_any mj.2 B _ 65520 S _ w3 hlj3 (fun b hb => ⟨(hS b hb).1, by have := (hS b hb).2; have := g03.size; omega⟩) hc3 hn3 (by omega)
        have e5 : ((65520 : Nat) : Int) = 65520 := rfl
        rw [e5] at ih
        have hbne : some bm ≠ some B := fun e => (hS bm hSb).1 (Option.some.inj e)
        replace q := g3.cell q hbne
        replace q0 := g3.cell q0 hbne
        replace q1 := g3.cell q1 hbne
        replace q2 := g3.cell q2 hbne
        replace q3 := g3.cell q3 hbne
        replace q4 := g3.cell q4 hbne
        replace q5 := g3.cell q5 hbne
        clear hlj' hlj3 h3
        go_wp2_with fail
        refine ih.mono ?_
        rintro e w4 ⟨r, rfl, g4, h4⟩
        cases r
        · obtain ⟨hn4, hc4⟩ := h4 rfl
          go_wp2_with fail
          go_roundw
          case rel => exact ⟨j + 1, by omega, by go_num, by rw [HT.out]; omega, by rw [HT.out]; simpa only [Nat.add_assoc] using hc4, grown_trans g03 g4⟩
          case measure => simp [RowKit.intOf]; omega
        · go_wp2_with fail
          go_ret
          exact ⟨true, rfl, grown_trans g03 g4, fun h => by cases h⟩
      · go_wp2_with fail
        go_ret
        exact ⟨true, rfl, grown_trans gj g3, fun h => by cases h⟩
    · obtain rfl : j = m.length := by omega
      rw [List.take_length] at hnj hcj
      have y1 : ¬ (m.length : Int) < m.length := by omega
      go_wp2_with fail
      go_ret
      exact ⟨false, rfl, gj, fun _ => ⟨hnj, hcj⟩⟩
end Go.Proofs.YtfekgeaopchilaaGreatDoor
/- freeholdref00: an element and a path are counted. -/
namespace Go.Proofs.YtfekgeaopchilaaGreatDoor
open Go.RowKit Go.Lib
set_option maxHeartbeats 4000000 in
set_option maxRecDepth 100000 in
theorem celem_any (e : El) (B n : Nat) (S : Nat → Prop) (cs : List Value) (w : World) (hl : e.lies w S cs) (hS : ∀ b, S b → b ≠ B ∧ b < w.heap.size) (hc : Cnt B n w) (hn : n ≤ 2147483647) :
    Calls Tryz.prog 42 #[.pointer (some ⟨B, 0, none⟩), .agg cs.toArray] w (CntPost B n e.wt w) := by
  obtain ⟨k, nm, m, v⟩ := e
  obtain ⟨am, cm, bm, om, is, rfl, hk, hnm, ham, hm, hv⟩ := hl
  dsimp only at hk hnm ham hm hv ⊢
  have HM := hmk hm
  have HV := hmk hv
  obtain ⟨vk, vb, vi, vs, val, vnl, vcl, vam, vnm, vcm, rfl⟩ := V.ten hv
  clear hm hv
  have hB := hc.lt
  have e5 : ((65520 : Nat) : Int) = 65520 := rfl
  have g0 : w.grownBy (w.alloc (.cells #[.int .i64 k, .string nm, .slice am m.length cm, .int .i64 vk, .bool vb, .int .i64 vi, .string vs, .slice val vnl vcl, .slice vam vnm vcm] 60)) (some B) := World.grownBy_alloc _ _ _
  have hbx : rowAt (w.alloc (.cells #[.int .i64 k, .string nm, .slice am m.length cm, .int .i64 vk, .bool vb, .int .i64 vi, .string vs, .slice val vnl vcl, .slice vam vnm vcm] 60)) w.heap.size 0 [.int .i64 k, .string nm, .slice am m.length cm, .int .i64 vk, .bool vb, .int .i64 vi, .string vs, .slice val vnl vcl, .slice vam vnm vcm] := box_row w _ 60
  have hbw := box_lt w (.cells #[.int .i64 k, .string nm, .slice am m.length cm, .int .i64 vk, .bool vb, .int .i64 vi, .string vs, .slice val vnl vcl, .slice vam vnm vcm] 60)
  have hc0 : Cnt B n (w.alloc (.cells #[.int .i64 k, .string nm, .slice am m.length cm, .int .i64 vk, .bool vb, .int .i64 vi, .string vs, .slice val vnl vcl, .slice vam vnm vcm] 60)) := hc.keep (Below.heap_alloc w _ B hB)
  obtain ⟨d0, d1, d2, d3, d4, d5, d6, d7, d8⟩ := row9z hbx
  have c1 := hmk (cval_any v B n 65520 S _ _ (V.lies_keep (fun h => h) (fun b hb => g0.block b (hS b hb).2 (fun e => (hS b hb).1 (Option.some.inj e))) (fun _ h => h) _ HV.out) (fun b hb => ⟨(hS b hb).1, Nat.lt_of_lt_of_le (hS b hb).2 g0.size⟩) hc0 hn (by omega))
  rw [e5] at c1
  go_enter Tryz.func42, Tryz.ntmps42
  go_wp2_with fail
  refine c1.out.mono ?_
  rintro e w1 ⟨r, rfl, g1, h1⟩
  clear d0 d1 d2 d3 d4 d5 d6 d7 d8
  generalize w.alloc (.cells #[.int .i64 k, .string nm, .slice am m.length cm, .int .i64 vk, .bool vb, .int .i64 vi, .string vs, .slice val vnl vcl, .slice vam vnm vcm] 60) = w0 at *
  have HBX : Hid (∀ wr : World, w0.grownBy wr (some B) → rowAt wr w.heap.size 0 [.int .i64 k, .string nm, .slice am m.length cm, .int .i64 vk, .bool vb, .int .i64 vi, .string vs, .slice val vnl vcl, .slice vam vnm vcm]) := fun wr g =>
    hbx.keep (g.block _ hbw (fun e => by have := Option.some.inj e; omega))
  clear hbx
  cases r
  · obtain ⟨hn1, hc1⟩ := h1 rfl
    obtain ⟨d0, d1, d2, d3, d4, d5, d6, d7, d8⟩ := row9z (HBX.out w1 g1)
    go_wp2_with fail
    refine (many_any B (n + v.wt) nm.size w1 hc1 hn1 hnm).mono ?_
    rintro e w2 ⟨r, rfl, g2, h2⟩
    have g02 := grown_trans g1 g2
    cases r
    · obtain ⟨hn2, hc2⟩ := h2 rfl
      clear d0 d1 d2 d3 d4 d5 d6 d7 d8
      obtain ⟨d0, d1, d2, d3, d4, d5, d6, d7, d8⟩ := row9z (HBX.out w2 g02)
      have gw := grown_trans g0 g02
      have c3 := hmk (cmems_any m B _ S am cm bm om w2 ham (liesM_keep (fun h => h) (fun b hb => gw.block b (hS b hb).2 (fun e => (hS b hb).1 (Option.some.inj e))) (fun _ h => h) _ HM.out) (fun b hb => ⟨(hS b hb).1, Nat.lt_of_lt_of_le (hS b hb).2 gw.size⟩) hc2 hn2)
      go_wp2_with fail
      refine c3.out.mono ?_
      rintro e w3 ⟨r, rfl, g3, h3⟩
      go_wp2_with fail
      go_ret
      refine ⟨r, rfl, grown_trans gw g3, fun h => ?_⟩
      obtain ⟨a1, a2⟩ := h3 h
      have ew : n + (El.mk k nm m v).wt = n + v.wt + nm.size + wtM m := by unfold El.wt; dsimp only; omega
      rw [ew]
      exact ⟨a1, a2⟩
    · go_wp2_with fail
      go_ret
      exact ⟨true, rfl, grown_trans g0 g02, fun h => by cases h⟩
  · go_wp2_with fail
    go_ret
    exact ⟨true, rfl, grown_trans g0 g1, fun h => by cases h⟩
def PaPost (B : Nat) (p : List El) (w : World) (e : Ending) (w' : World) : Prop := ∃ r, e = .returned (.bool r) ∧ w.grownBy w' (some B) ∧ (r = false → wtP p ≤ 2147483647)
set_option maxHeartbeats 4000000 in
set_option maxRecDepth 100000 in
theorem cpaths_any (p : List El) (B n G c : Nat) (S : Nat → Prop) (ap : Option Addr) (cp bp op : Nat) (w : World) (hap : Headed ap p.length cp bp op) (hp : liesP w S p bp op) (hG : w.cell? ⟨G, 0, none⟩ = some (.slice ap p.length cp)) (hGB : G ≠ B) (hS : ∀ b, S b → b ≠ B ∧ b < w.heap.size) (hc : Cnt B n w) (hn : n ≤ 2147483647) :
    Calls Tryz.prog 25 #[.pointer (some ⟨B, 0, none⟩), .slice (some ⟨G, 0, none⟩) 1 c] w (PaPost B p w) := by
  have HP := hmk hp
  have hlp : p.length ≤ 9223372036854775807 := Nat.le_trans hap.le hap.max
  have HKP : Hid (∀ wr : World, w.grownBy wr (some B) → ∀ b, S b → wr.heap[b]? = w.heap[b]?) := fun wr g b hb => g.block b (hS b hb).2 (fun e => (hS b hb).1 (Option.some.inj e))
  have HG : Hid (∀ wr : World, w.grownBy wr (some B) → wr.cell? ⟨G, 0, none⟩ = some (.slice ap p.length cp)) := fun wr g => g.cell hG (fun e => hGB (Option.some.inj e))
  have c1 := hmk (many_any B n 1 w hc hn (by simp [maxLen]))
  clear hp hG
  go_enter Tryz.func25, Tryz.ntmps25
  go_wp2_with fail
  refine c1.out.mono ?_
  rintro e w1 ⟨r, rfl, g1, h1⟩
  cases r
  case true =>
    go_wp2_with fail
    go_ret
    exact ⟨true, rfl, g1, fun h => by cases h⟩
  obtain ⟨hn1, hc1⟩ := h1 rfl
  go_wp2_with fail
  go_loopw [5] (fun e wr => ∃ j : Nat, j ≤ 1 ∧ e = .int .i64 (j : Int) ∧ w.grownBy wr (some B) ∧ Hid (j = 0 → Cnt B (n + 1) wr) ∧ Hid (j = 1 → wtP p ≤ 2147483647)) (fun e _ => 1 - (RowKit.intOf e).toNat)
  case atStart => exact ⟨0, by omega, rfl, g1, fun _ => hc1, fun h => by cases h⟩
  case round =>
    obtain ⟨j, hj, rfl, gj, hj0, hj1⟩ := hrel
    by_cases hjl : j = 0
    · subst hjl
      have hcj := hj0.out rfl
      clear hj0 hj1
      have y1 : ((0 : Nat) : Int) < 1 := by omega
      go_wp2_with fail
      go_loopw [6] (fun e wr => ∃ i : Nat, i ≤ p.length ∧ e = .int .i64 (i : Int) ∧ w.grownBy wr (some B) ∧ n + 1 + wtP (p.take i) ≤ 2147483647 ∧ Cnt B (n + 1 + wtP (p.take i)) wr) (fun e _ => p.length - (RowKit.intOf e).toNat)
      case atStart => exact ⟨0, by omega, rfl, gj, by simpa [wtP] using hn1, by simpa [wtP] using hcj⟩
      case round =>
        clear hcj gj
        obtain ⟨i, hi, rfl, gj, hni, hci⟩ := hrel
        have dG := HG.out wr gj
        by_cases hil : i < p.length
        · have y2 : (i : Int) < p.length := by omega
          obtain ⟨hSb, csj, hrow, hlj⟩ := HP.out i hil
          obtain rfl : ap = some ⟨bp, op, none⟩ := hap.at_.resolve_left (by omega)
          have hlr := El.lies_keep (HKP.out wr gj) (fun _ h => h) hlj
          have CE := hmk (celem_any p[i] B (n + 1 + wtP (p.take i)) S csj wr hlr (fun b hb => ⟨(hS b hb).1, Nat.lt_of_lt_of_le (hS b hb).2 gj.size⟩) hci hni)
          have HW : Hid (n + 1 + wtP (p.take (i + 1)) = n + 1 + wtP (p.take i) + (p[i]).wt) := by show _ = _; rw [take_succ_wtP hil]; omega
          obtain ⟨k, s, am, nm, cm, vk, vb, vi, vs, val, vnl, vcl, vam, vnm, vcm, rfl⟩ := El.nine hlj
          obtain ⟨q0, q1, q2, q3, q4, q5, q6, q7, q8⟩ := row9 (hrow.keep (HKP.out wr gj bp hSb))
          clear hlj hlr hrow
          go_wp2_with fail
          refine CE.out.mono ?_
          rintro e w2 ⟨r, rfl, g2, h2⟩
          cases r
          · obtain ⟨hn2, hc2⟩ := h2 rfl
            go_wp2_with fail
            go_roundw
            case rel => exact ⟨_, _, _, _, _, _, _, _, _, _, _, _, _, _, _, _, _, _, _, _, _, _, ⟨i + 1, by omega, by go_num, grown_trans gj g2, by rw [HW.out]; exact hn2, by rw [HW.out]; exact hc2⟩, rfl⟩
            case measure => simp [RowKit.intOf]; omega
          · go_wp2_with fail
            go_ret
            exact ⟨true, rfl, grown_trans gj g2, fun h => by cases h⟩
        · obtain rfl : i = p.length := by omega
          have y2 : ¬ (p.length : Int) < p.length := by omega
          rw [List.take_length] at hni hci
          go_wp2_with fail
          go_roundw
          case rel => exact ⟨1, by omega, by go_num, gj, fun h => absurd h (by omega), fun _ => by omega⟩
          case measure => simp [RowKit.intOf]
    · obtain rfl : j = 1 := by omega
      have y1 : ¬ ((1 : Nat) : Int) < 1 := by omega
      go_wp2_with fail
      go_ret
      exact ⟨false, rfl, gj, fun _ => hj1.out trivial⟩
def PbPost (p : List El) (w : World) (e : Ending) (w' : World) : Prop := ∃ r, e = .returned (.bool r) ∧ (r = false → wtP p ≤ 2147483647) ∧ Below w.heap.size w w'
set_option maxHeartbeats 4000000 in
set_option maxRecDepth 100000 in
theorem bpaths_any (p : List El) (G c : Nat) (S : Nat → Prop) (ap : Option Addr) (cp bp op : Nat) (w : World) (hap : Headed ap p.length cp bp op) (hp : liesP w S p bp op) (hG : w.cell? ⟨G, 0, none⟩ = some (.slice ap p.length cp)) (hS : ∀ b, S b → b < w.heap.size) :
    Calls Tryz.prog 5 #[.slice (some ⟨G, 0, none⟩) 1 c] w (PbPost p w) := by
  have ga : w.grownBy (w.alloc (.cells #[.int .i64 0] 47)) none := World.grownBy_alloc _ _ _
  have hn := heap_alloc_new w (.cells #[.int .i64 0] 47)
  have hC : Cnt w.heap.size 0 (w.alloc (.cells #[.int .i64 0] 47)) := ⟨by rw [cell_of_block hn]; rfl, frozen_of_block hn 0⟩
  have hGl : G < w.heap.size := World.block_lt_of_cell? w _ hG
  have c := hmk (cpaths_any p w.heap.size 0 G c S ap cp bp op (w.alloc (.cells #[.int .i64 0] 47)) hap (liesP_keep (fun x hx => ga.block x (hS x hx) (by simp)) (fun _ h => h) hp) (ga.cell hG (by simp)) (by omega) (fun x hx => ⟨by have := hS x hx; omega, Nat.lt_of_lt_of_le (hS x hx) ga.size⟩) hC (by omega))
  have HG := hmk ga
  clear hp hn hC hG ga
  go_enter Tryz.func5, Tryz.ntmps5
  go_wp2_with fail
  refine c.out.mono ?_
  rintro e w1 ⟨r, rfl, g1, h1⟩
  go_wp2_with fail
  go_ret
  exact ⟨r, rfl, h1, (below_of_grown HG.out).grown g1 HG.out.size (fun q e => by cases e; omega)⟩
set_option maxHeartbeats 4000000 in
set_option maxRecDepth 100000 in
theorem bpath_any (p : List El) (S : Nat → Prop) (ap : Option Addr) (cp bp op : Nat) (w : World) (hap : Headed ap p.length cp bp op) (hp : liesP w S p bp op) (hS : ∀ b, S b → b < w.heap.size) :
    Calls Tryz.prog 6 #[.slice ap p.length cp] w (PbPost p w) := by
  have b1 : Below w.heap.size w (w.alloc (.cells #[.slice ap p.length cp] 25)) := (Below.refl _ _).alloc (Nat.le_refl _) _
  have c := hmk (bpaths_any p w.heap.size 1 S ap cp bp op (w.alloc (.cells #[.slice ap p.length cp] 25)) hap (liesP_keep (fun x hx => b1.block x (hS x hx)) (fun _ h => h) hp) (by rw [cell_of_block (heap_alloc_new w _)]; rfl) (fun x hx => Nat.lt_of_lt_of_le (hS x hx) b1.size))
  have HB := hmk b1
  clear hp b1
  go_enter Tryz.func6, Tryz.ntmps6
  go_wp2_with fail
  refine c.out.mono ?_
  rintro e w1 ⟨r, rfl, h1, b2⟩
  go_wp2_with fail
  go_ret
  exact ⟨r, rfl, h1, HB.out.trans (b2.mono HB.out.size)⟩
end Go.Proofs.YtfekgeaopchilaaGreatDoor
/- same. -/
namespace Go.Proofs.YtfekgeaopchilaaGreatDoor
open Go.RowKit
theorem two_below (w : World) (o o' : Obj) : Below w.heap.size w ((w.alloc o).alloc o') := ((Below.refl w.heap.size w).alloc (Nat.le_refl _) _).alloc (by rw [alloc_size]; omega) _
theorem bytes_eq {a b : ByteArray} (h : a.toList = b.toList) : a = b := by
  rw [ByteArray.toList_eq, ByteArray.toList_eq] at h
  exact Go.WideShapes.bytes_inj h
end Go.Proofs.YtfekgeaopchilaaGreatDoor
