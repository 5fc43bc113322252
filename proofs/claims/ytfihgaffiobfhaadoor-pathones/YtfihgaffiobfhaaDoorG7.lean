/- joined: PthA RowQ -/
import Derived.Test.YtfihgaffiobfhaaDoorG6
/- Elements and paths: what they are, how they lie in memory, how an argument is opened. -/
set_option linter.unusedSimpArgs false
set_option linter.unusedVariables false
namespace Go.Proofs.YtfihgaffiobfhaaDoor
open Go.ChangeShapes Go.WideShapes Go.Deep
structure El where
  kind : Int
  name : ByteArray
  key : List Mem
  item : V
theorem hmk {P : Prop} (h : P) : Go.RowKit.Hid P := h
/-- the element lies in these nine cells, and below in blocks of S -/
def El.lies (w : World) (S : Nat → Prop) (e : El) (cs : List Value) : Prop :=
  ∃ am cm bm om is, cs = .int .i64 e.kind :: .string e.name :: .slice am e.key.length cm :: is ∧ In64 e.kind ∧ e.name.size ≤ maxLen ∧ Headed am e.key.length cm bm om ∧ liesM false w S e.key bm om ∧ e.item.lies false w S is
def liesP (w : World) (S : Nat → Prop) (p : List El) (b o : Nat) : Prop := ∀ (j : Nat) (h : j < p.length), S b ∧ ∃ cs, rowAt w b (o + j * 9) cs ∧ (p[j]).lies w S cs
theorem El.lies_keep {w w' : World} {S S' : Nat → Prop} (hw : ∀ b, S b → w'.heap[b]? = w.heap[b]?) (hS : ∀ b, S b → S' b) {e : El} {cs : List Value} (h : e.lies w S cs) : e.lies w' S' cs := by
  obtain ⟨am, cm, bm, om, is, h0, h1, h2, h3, h4, h5⟩ := h
  exact ⟨am, cm, bm, om, is, h0, h1, h2, h3, liesM_keep (fun h => h) hw hS _ h4, V.lies_keep (fun h => h) hw hS _ h5⟩
theorem liesP_keep {w w' : World} {S S' : Nat → Prop} (hw : ∀ b, S b → w'.heap[b]? = w.heap[b]?) (hS : ∀ b, S b → S' b) {p : List El} {b o : Nat} (h : liesP w S p b o) : liesP w' S' p b o := fun j hj => by
  obtain ⟨h1, cs, h2, h3⟩ := h j hj
  exact ⟨hS _ h1, cs, h2.keep (hw _ h1), El.lies_keep hw hS h3⟩
/-- the nine cells -/
theorem El.nine {w : World} {S : Nat → Prop} {e : El} {cs : List Value} (h : e.lies w S cs) : ∃ k s am nm cm vk vb vi vs val vnl vcl vam vnm vcm, cs = [.int .i64 k, .string s, .slice am nm cm, .int .i64 vk, .bool vb, .int .i64 vi, .string vs, .slice val vnl vcl, .slice vam vnm vcm] := by
  obtain ⟨am, cm, bm, om, is, rfl, _, _, _, _, h5⟩ := h
  obtain ⟨k, n, ky, v⟩ := e
  obtain ⟨vk, vb, vi, vs, vl, vm⟩ := v
  rw [V.lies] at h5
  obtain ⟨al, cl, bl, ol, am', cm', bm', om', rfl, _⟩ := h5
  exact ⟨_, _, _, _, _, _, _, _, _, _, _, _, _, _, _, rfl⟩
theorem row9 {w : World} {b o : Nat} {c0 c1 c2 c3 c4 c5 c6 c7 c8 : Value} (h : rowAt w b o [c0, c1, c2, c3, c4, c5, c6, c7, c8]) :
    w.cell? ⟨b, o, none⟩ = some c0 ∧ w.cell? ⟨b, o + 1, none⟩ = some c1 ∧ w.cell? ⟨b, o + 2, none⟩ = some c2 ∧ w.cell? ⟨b, o + 3, none⟩ = some c3 ∧ w.cell? ⟨b, o + 4, none⟩ = some c4 ∧ w.cell? ⟨b, o + 5, none⟩ = some c5 ∧ w.cell? ⟨b, o + 6, none⟩ = some c6 ∧ w.cell? ⟨b, o + 7, none⟩ = some c7 ∧ w.cell? ⟨b, o + 8, none⟩ = some c8 :=
  ⟨h 0 _ rfl, h 1 _ rfl, h 2 _ rfl, h 3 _ rfl, h 4 _ rfl, h 5 _ rfl, h 6 _ rfl, h 7 _ rfl, h 8 _ rfl⟩
theorem row9z {w : World} {b : Nat} {c0 c1 c2 c3 c4 c5 c6 c7 c8 : Value} (h : rowAt w b 0 [c0, c1, c2, c3, c4, c5, c6, c7, c8]) :
    w.cell? ⟨b, 0, none⟩ = some c0 ∧ w.cell? ⟨b, 1, none⟩ = some c1 ∧ w.cell? ⟨b, 2, none⟩ = some c2 ∧ w.cell? ⟨b, 3, none⟩ = some c3 ∧ w.cell? ⟨b, 4, none⟩ = some c4 ∧ w.cell? ⟨b, 5, none⟩ = some c5 ∧ w.cell? ⟨b, 6, none⟩ = some c6 ∧ w.cell? ⟨b, 7, none⟩ = some c7 ∧ w.cell? ⟨b, 8, none⟩ = some c8 := by
  have := row9 h
  simpa using this
/-- how many bytes and values -/
def El.wt (e : El) : Nat := e.item.wt + e.name.size + wtM e.key
def wtP : List El → Nat
  | [] => 0
  | e :: t => e.wt + wtP t
theorem El.wt_pos (e : El) : 1 ≤ e.wt := by have := V.wt_pos e.item; unfold El.wt; omega
theorem wtP_len : ∀ p : List El, p.length ≤ wtP p
  | [] => by simp [wtP]
  | e :: t => by have := El.wt_pos e; have := wtP_len t; simp only [wtP, List.length_cons]; omega
theorem wtP_mem : ∀ {p : List El} {e : El}, e ∈ p → e.wt ≤ wtP p
  | [], e, h => by cases h
  | y :: t, e, h => by
    rcases List.mem_cons.1 h with rfl | h
    · simp only [wtP]; omega
    · have := wtP_mem h; simp only [wtP]; omega
theorem wtP_app : ∀ a b : List El, wtP (a ++ b) = wtP a + wtP b
  | [], b => by simp [wtP]
  | x :: t, b => by have := wtP_app t b; simp only [wtP, List.cons_append]; omega
theorem take_succ_wtP {l : List El} {j : Nat} (h : j < l.length) : wtP (l.take (j + 1)) = wtP (l.take j) + (l[j]).wt := by
  rw [List.take_succ_eq_append_getElem h, wtP_app]; simp [wtP]
theorem cellsP35 : Tryd.prog.cellsOf 34 = 9 := by kernel_rfl
theorem cellsP30 : Tryd.prog.cellsOf 29 = 1 := by kernel_rfl
theorem cellsP33 : Tryd.prog.cellsOf 32 = 6 := by kernel_rfl
theorem len9 {α : Type} {l : List α} (h : l.length = 9) : ∃ c0 c1 c2 c3 c4 c5 c6 c7 c8, l = [c0, c1, c2, c3, c4, c5, c6, c7, c8] := by
  match l, h with
  | [c0, c1, c2, c3, c4, c5, c6, c7, c8], _ => exact ⟨_, _, _, _, _, _, _, _, _, rfl⟩
section
variable {H : Type} {enc : TypeId × Value → H} {w : World} {spare : Nat → Bool} {held : Bool}
theorem open_elem {n : Nat} {cs : List Value} {x} (h : DataW.trod enc Tryd.prog w 0 spare held n 34 cs = some x) : ∃ e : El, e.lies w (Old w) cs := by
  cases n with
  | zero => simp [DataW.trod] at h
  | succ n =>
  obtain ⟨xs, n', hn, _, hl, hlen, hf⟩ := DataW.trod_struct Tryd.underlying34 h
  obtain rfl : n = n' := by omega
  rw [cellsP35] at hl
  obtain ⟨c0, c1, c2, c3, c4, c5, c6, c7, c8, rfl⟩ := len9 hl
  have h6 : xs.length = 4 := hlen
  have f0 := hf 0 _ rfl
  rw [List.getElem?_eq_getElem (by omega)] at f0
  have f1 := hf 1 _ rfl
  rw [List.getElem?_eq_getElem (by omega)] at f1
  have f2 := hf 2 _ rfl
  rw [List.getElem?_eq_getElem (by omega)] at f2
  have f3 := hf 3 _ rfl
  rw [List.getElem?_eq_getElem (by omega)] at f3
  simp [cells3, cells9, cellsP30, cellsP33] at f0 f1 f2 f3
  obtain ⟨k, e0, _, wk⟩ := DataW.trod_int Tryd.underlying3 f0
  obtain ⟨s, e1, _, hs⟩ := DataW.trod_string Tryd.underlying9 f1
  obtain ⟨m, am, cm, bm, om, e2, hm1, hm2⟩ := (open_all n).2.2.2 _ _ f2
  obtain ⟨v, hv⟩ := (open_all n).1 _ _ f3
  simp only [List.cons.injEq, and_true] at e0 e1 e2
  subst e0 e1 e2
  exact ⟨⟨k, s, m, v⟩, am, cm, bm, om, _, rfl, in64_of wk, hs, hm1, hm2, hv⟩
theorem open_path {n : Nat} {cs : List Value} {x} (h : DataW.trod enc Tryd.prog w 0 spare held n 23 cs = some x) : ∃ (l : List El) (ao : Option Addr) (cap b o : Nat), cs = [.slice ao l.length cap] ∧ Headed ao l.length cap b o ∧ liesP w (Old w) l b o := by
  cases n with
  | zero => simp [DataW.trod] at h
  | succ n =>
  rcases DataW.trod_slice Tryd.underlying23 h with ⟨rfl, _⟩ | ⟨a, len, cap, elems, rest, n', hn, rfl, _, _, hlc, hcm, hlen, hel, _⟩
  · exact ⟨[], none, 0, 0, 0, rfl, ⟨Nat.le_refl _, by simp [maxLen], .inl rfl, fun _ => rfl⟩, fun j hj => by simp at hj⟩
  obtain rfl : n = n' := by omega
  rw [cellsP35] at hel
  obtain ⟨l, b, o, hll, hao, hq⟩ := elems_at (w := w) (a := a) (len := len) (k := 9) (Q := fun (e : El) cs => e.lies w (Old w) cs) (by omega) (fun i hi => by
    have he := hel i hi
    rw [List.getElem?_eq_getElem (by omega)] at he
    obtain ⟨cs, h1, h2⟩ := Option.bind_eq_some_iff.1 he
    obtain ⟨e, he⟩ := open_elem h2
    exact ⟨cs, e, h1, he⟩)
  subst hll
  refine ⟨l, some a, cap, b, o, rfl, ⟨hlc, hcm, ?_, fun h => by cases h⟩, hq⟩
  rcases hao with h | rfl
  · exact .inl h
  · exact .inr rfl
end
end Go.Proofs.YtfihgaffiobfhaaDoor
/- What the row of PathPairs needs: a path opened and given back. -/
namespace Go.Proofs.YtfihgaffiobfhaaDoor
open Go.Shelf Go.Lib Go.ChangeShapes Go.RowKit
variable {H : Type} {enc : TypeId × Value → H}
theorem open23 {W : World} {spare : Nat → Bool} {held : Bool} {v : Value} {d : DataW H} {p : List MemPlace} (hsl : ∃ a n c, v = .slice a n c) (h : DataW.Trod enc Tryd.prog W 0 spare held 23 v d p) : ∃ (l : List El) (ao : Option Addr) (cap b o : Nat), v = .slice ao l.length cap ∧ Headed ao l.length cap b o ∧ liesP W (Old W) l b o := by
  obtain ⟨n, hn⟩ := h
  obtain ⟨l, ao, cap, b, o, e, h1, h2⟩ := open_path hn
  obtain ⟨a0, n0, c0, rfl⟩ := hsl
  refine ⟨l, ao, cap, b, o, ?_, h1, h2⟩
  simpa [Value.cells] using e
theorem back23 {W W' : World} {v : Value} {d : DataW H} {p : List MemPlace} (h : DataW.Trod enc Tryd.prog W 0 (fun _ => true) true 23 v d p) (hlt : ∀ x ∈ p, x.block < W.heap.size) (hb : Below W.heap.size W W') :
    DataW.Trod enc Tryd.prog W' 0 (fun b => decide (b < W.heap.size)) true 23 v d p :=
  WideElems.Trod_stays (P := Tryd.prog) laidOut' (by kernel_rfl) (of_decide_eq_true (by kernel_rfl)) h (fun x hx => below_same hb (hlt x hx)) (fun x hx => by simpa using hlt x hx)
end Go.Proofs.YtfihgaffiobfhaaDoor
