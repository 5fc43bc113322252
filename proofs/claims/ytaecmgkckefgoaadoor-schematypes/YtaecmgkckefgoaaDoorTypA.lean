import Derived.Test.YtaecmgkckefgoaaDoorCntA
/- Types: what they are, how they lie in memory, how an argument is opened. -/
set_option linter.unusedSimpArgs false
set_option linter.unusedVariables false
namespace Go.Proofs.YtaecmgkckefgoaaDoor
open Go.ChangeShapes Go.WideShapes Go.Deep
structure Ty where
  name : ByteArray
  kind : Int
  atomic : Bool
  fields : List (ByteArray × ByteArray)
  elem : ByteArray
  rel : Int
  keys : List ByteArray
  enum : List V
def liesF (w : World) (S : Nat → Prop) (l : List (ByteArray × ByteArray)) (b o : Nat) : Prop :=
  ∀ (j : Nat) (h : j < l.length), S b ∧ (l[j]).1.size ≤ maxLen ∧ (l[j]).2.size ≤ maxLen ∧ rowAt w b (o + j * 2) [.string (l[j]).1, .string (l[j]).2]
def liesK (w : World) (S : Nat → Prop) (l : List ByteArray) (b o : Nat) : Prop :=
  ∀ (j : Nat) (h : j < l.length), S b ∧ (l[j]).size ≤ maxLen ∧ rowAt w b (o + j * 1) [.string l[j]]
def Ty.lies (w : World) (S : Nat → Prop) (t : Ty) (cs : List Value) : Prop :=
  ∃ af cf bf qf ak ck bk qk ae ce be qe, cs = [.string t.name, .int .i64 t.kind, .bool t.atomic, .slice af t.fields.length cf, .string t.elem, .int .i64 t.rel, .slice ak t.keys.length ck, .slice ae t.enum.length ce] ∧
    In64 t.kind ∧ In64 t.rel ∧ t.name.size ≤ maxLen ∧ t.elem.size ≤ maxLen ∧ Headed af t.fields.length cf bf qf ∧ Headed ak t.keys.length ck bk qk ∧ Headed ae t.enum.length ce be qe ∧
    liesF w S t.fields bf qf ∧ liesK w S t.keys bk qk ∧ liesL false w S t.enum be qe
theorem liesF_keep {w w' : World} {S S' : Nat → Prop} (hw : ∀ b, S b → w'.heap[b]? = w.heap[b]?) (hS : ∀ b, S b → S' b) {l : List (ByteArray × ByteArray)} {b o : Nat} (h : liesF w S l b o) : liesF w' S' l b o := fun j hj =>
  ⟨hS _ (h j hj).1, (h j hj).2.1, (h j hj).2.2.1, (h j hj).2.2.2.keep (hw _ (h j hj).1)⟩
theorem liesK_keep {w w' : World} {S S' : Nat → Prop} (hw : ∀ b, S b → w'.heap[b]? = w.heap[b]?) (hS : ∀ b, S b → S' b) {l : List ByteArray} {b o : Nat} (h : liesK w S l b o) : liesK w' S' l b o := fun j hj =>
  ⟨hS _ (h j hj).1, (h j hj).2.1, (h j hj).2.2.keep (hw _ (h j hj).1)⟩
theorem Ty.lies_keep {w w' : World} {S S' : Nat → Prop} (hw : ∀ b, S b → w'.heap[b]? = w.heap[b]?) (hS : ∀ b, S b → S' b) {t : Ty} {cs : List Value} (h : t.lies w S cs) : t.lies w' S' cs := by
  obtain ⟨af, cf, bf, qf, ak, ck, bk, qk, ae, ce, be, qe, e, h1, h2, h3, h4, h5, h6, h7, h8, h9, h10⟩ := h
  exact ⟨af, cf, bf, qf, ak, ck, bk, qk, ae, ce, be, qe, e, h1, h2, h3, h4, h5, h6, h7, liesF_keep hw hS h8, liesK_keep hw hS h9, liesL_keep (fun h => h) hw hS _ h10⟩
/-- the eight cells -/
theorem Ty.eight {w : World} {S : Nat → Prop} {t : Ty} {cs : List Value} (h : t.lies w S cs) : ∃ n k a af nf cf e r ak nk ck ae ne ce, cs = [.string n, .int .i64 k, .bool a, .slice af nf cf, .string e, .int .i64 r, .slice ak nk ck, .slice ae ne ce] := by
  obtain ⟨af, cf, bf, qf, ak, ck, bk, qk, ae, ce, be, qe, e, _⟩ := h
  exact ⟨_, _, _, _, _, _, _, _, _, _, _, _, _, _, e⟩
theorem row8z {w : World} {b : Nat} {c0 c1 c2 c3 c4 c5 c6 c7 : Value} (h : rowAt w b 0 [c0, c1, c2, c3, c4, c5, c6, c7]) :
    w.cell? ⟨b, 0, none⟩ = some c0 ∧ w.cell? ⟨b, 1, none⟩ = some c1 ∧ w.cell? ⟨b, 2, none⟩ = some c2 ∧ w.cell? ⟨b, 3, none⟩ = some c3 ∧ w.cell? ⟨b, 4, none⟩ = some c4 ∧ w.cell? ⟨b, 5, none⟩ = some c5 ∧ w.cell? ⟨b, 6, none⟩ = some c6 ∧ w.cell? ⟨b, 7, none⟩ = some c7 := by
  have g : ∀ j u, [c0, c1, c2, c3, c4, c5, c6, c7][j]? = some u → w.cell? ⟨b, j, none⟩ = some u := fun j u hu => by have := h j u hu; simpa using this
  exact ⟨g 0 _ rfl, g 1 _ rfl, g 2 _ rfl, g 3 _ rfl, g 4 _ rfl, g 5 _ rfl, g 6 _ rfl, g 7 _ rfl⟩
theorem row2 {w : World} {b o : Nat} {c0 c1 : Value} (h : rowAt w b o [c0, c1]) : w.cell? ⟨b, o, none⟩ = some c0 ∧ w.cell? ⟨b, o + 1, none⟩ = some c1 := ⟨h 0 _ rfl, h 1 _ rfl⟩
theorem cellsY26 : Tryd.prog.cellsOf 26 = 8 := by kernel_rfl
theorem cellsY47 : Tryd.prog.cellsOf 47 = 2 := by kernel_rfl
theorem cellsY22 : Tryd.prog.cellsOf 22 = 1 := by kernel_rfl
theorem cellsY23 : Tryd.prog.cellsOf 23 = 1 := by kernel_rfl
theorem cellsY24 : Tryd.prog.cellsOf 24 = 1 := by kernel_rfl
theorem len8 {α : Type} {l : List α} (h : l.length = 8) : ∃ c0 c1 c2 c3 c4 c5 c6 c7, l = [c0, c1, c2, c3, c4, c5, c6, c7] := by
  match l, h with
  | [c0, c1, c2, c3, c4, c5, c6, c7], _ => exact ⟨_, _, _, _, _, _, _, _, rfl⟩
theorem len2 {α : Type} {l : List α} (h : l.length = 2) : ∃ c0 c1, l = [c0, c1] := by
  match l, h with
  | [c0, c1], _ => exact ⟨_, _, rfl⟩
section
variable {H : Type} {enc : TypeId × Value → H} {w : World} {spare : Nat → Bool} {held : Bool}
theorem open_field {n : Nat} {cs : List Value} {x} (h : DataW.trod enc Tryd.prog w 0 spare held n 47 cs = some x) : ∃ f : ByteArray × ByteArray, cs = [.string f.1, .string f.2] ∧ f.1.size ≤ maxLen ∧ f.2.size ≤ maxLen := by
  cases n with
  | zero => simp [DataW.trod] at h
  | succ n =>
  obtain ⟨xs, n', hn, _, hl, hlen, hf⟩ := DataW.trod_struct Tryd.underlying47 h
  obtain rfl : n = n' := by omega
  rw [cellsY47] at hl
  obtain ⟨c0, c1, rfl⟩ := len2 hl
  have h6 : xs.length = 2 := hlen
  have f0 := hf 0 _ rfl
  rw [List.getElem?_eq_getElem (by omega)] at f0
  have f1 := hf 1 _ rfl
  rw [List.getElem?_eq_getElem (by omega)] at f1
  simp [cells9] at f0 f1
  obtain ⟨s, e0, _, hs⟩ := DataW.trod_string Tryd.underlying9 f0
  obtain ⟨u, e1, _, hu⟩ := DataW.trod_string Tryd.underlying9 f1
  simp only [List.cons.injEq, and_true] at e0 e1
  subst e0 e1
  exact ⟨(s, u), rfl, hs, hu⟩
theorem open_fields {n : Nat} {cs : List Value} {x} (h : DataW.trod enc Tryd.prog w 0 spare held n 22 cs = some x) : ∃ (l : List (ByteArray × ByteArray)) (ao : Option Addr) (cap b o : Nat), cs = [.slice ao l.length cap] ∧ Headed ao l.length cap b o ∧ liesF w (Old w) l b o := by
  cases n with
  | zero => simp [DataW.trod] at h
  | succ n =>
  rcases DataW.trod_slice Tryd.underlying22 h with ⟨rfl, _⟩ | ⟨a, len, cap, elems, rest, n', hn, rfl, _, _, hlc, hcm, hlen, hel, _⟩
  · exact ⟨[], none, 0, 0, 0, rfl, ⟨Nat.le_refl _, by simp [maxLen], .inl rfl, fun _ => rfl⟩, fun j hj => by simp at hj⟩
  obtain rfl : n = n' := by omega
  rw [cellsY47] at hel
  obtain ⟨l, b, o, hll, hao, hq⟩ := elems_at (w := w) (a := a) (len := len) (k := 2) (Q := fun (f : ByteArray × ByteArray) cs => cs = [.string f.1, .string f.2] ∧ f.1.size ≤ maxLen ∧ f.2.size ≤ maxLen) (by omega) (fun i hi => by
    have he := hel i hi
    rw [List.getElem?_eq_getElem (by omega)] at he
    obtain ⟨cs, h1, h2⟩ := Option.bind_eq_some_iff.1 he
    obtain ⟨f, hf⟩ := open_field h2
    exact ⟨cs, f, h1, hf⟩)
  subst hll
  refine ⟨l, some a, cap, b, o, rfl, ⟨hlc, hcm, ?_, fun h => by cases h⟩, fun j hj => ?_⟩
  · rcases hao with h | rfl
    · exact .inl h
    · exact .inr rfl
  · obtain ⟨h1, cs, h2, e, h3, h4⟩ := hq j hj
    subst e
    exact ⟨h1, h3, h4, h2⟩
theorem open_keys {n : Nat} {cs : List Value} {x} (h : DataW.trod enc Tryd.prog w 0 spare held n 23 cs = some x) : ∃ (l : List ByteArray) (ao : Option Addr) (cap b o : Nat), cs = [.slice ao l.length cap] ∧ Headed ao l.length cap b o ∧ liesK w (Old w) l b o := by
  cases n with
  | zero => simp [DataW.trod] at h
  | succ n =>
  rcases DataW.trod_slice Tryd.underlying23 h with ⟨rfl, _⟩ | ⟨a, len, cap, elems, rest, n', hn, rfl, _, _, hlc, hcm, hlen, hel, _⟩
  · exact ⟨[], none, 0, 0, 0, rfl, ⟨Nat.le_refl _, by simp [maxLen], .inl rfl, fun _ => rfl⟩, fun j hj => by simp at hj⟩
  obtain rfl : n = n' := by omega
  rw [cells9] at hel
  obtain ⟨l, b, o, hll, hao, hq⟩ := elems_at (w := w) (a := a) (len := len) (k := 1) (Q := fun (f : ByteArray) cs => cs = [.string f] ∧ f.size ≤ maxLen) (by omega) (fun i hi => by
    have he := hel i hi
    rw [List.getElem?_eq_getElem (by omega)] at he
    obtain ⟨cs, h1, h2⟩ := Option.bind_eq_some_iff.1 he
    obtain ⟨s, e3, _, hs⟩ := DataW.trod_string Tryd.underlying9 h2
    exact ⟨cs, s, h1, e3, hs⟩)
  subst hll
  refine ⟨l, some a, cap, b, o, rfl, ⟨hlc, hcm, ?_, fun h => by cases h⟩, fun j hj => ?_⟩
  · rcases hao with h | rfl
    · exact .inl h
    · exact .inr rfl
  · obtain ⟨h1, cs, h2, e, h3⟩ := hq j hj
    subst e
    exact ⟨h1, h3, h2⟩
theorem open_type {n : Nat} {cs : List Value} {x} (h : DataW.trod enc Tryd.prog w 0 spare held n 26 cs = some x) : ∃ t : Ty, t.lies w (Old w) cs := by
  cases n with
  | zero => simp [DataW.trod] at h
  | succ n =>
  obtain ⟨xs, n', hn, _, hl, hlen, hf⟩ := DataW.trod_struct Tryd.underlying26 h
  obtain rfl : n = n' := by omega
  rw [cellsY26] at hl
  obtain ⟨c0, c1, c2, c3, c4, c5, c6, c7, rfl⟩ := len8 hl
  have h6 : xs.length = 8 := hlen
  have f0 := hf 0 _ rfl
  rw [List.getElem?_eq_getElem (by omega)] at f0
  have f1 := hf 1 _ rfl
  rw [List.getElem?_eq_getElem (by omega)] at f1
  have f2 := hf 2 _ rfl
  rw [List.getElem?_eq_getElem (by omega)] at f2
  have f3 := hf 3 _ rfl
  rw [List.getElem?_eq_getElem (by omega)] at f3
  have f4 := hf 4 _ rfl
  rw [List.getElem?_eq_getElem (by omega)] at f4
  have f5 := hf 5 _ rfl
  rw [List.getElem?_eq_getElem (by omega)] at f5
  have f6 := hf 6 _ rfl
  rw [List.getElem?_eq_getElem (by omega)] at f6
  have f7 := hf 7 _ rfl
  rw [List.getElem?_eq_getElem (by omega)] at f7
  simp [cells3, cells4, cells9, cellsY22, cellsY23, cellsY24] at f0 f1 f2 f3 f4 f5 f6 f7
  obtain ⟨s, e0, _, hs⟩ := DataW.trod_string Tryd.underlying9 f0
  obtain ⟨k, e1, _, wk⟩ := DataW.trod_int Tryd.underlying3 f1
  obtain ⟨b, e2, _⟩ := DataW.trod_bool Tryd.underlying4 f2
  obtain ⟨lf, af, cf, bf, qf, e3, hf1, hf2⟩ := open_fields f3
  obtain ⟨u, e4, _, hu⟩ := DataW.trod_string Tryd.underlying9 f4
  obtain ⟨r, e5, _, wr⟩ := DataW.trod_int Tryd.underlying3 f5
  obtain ⟨lk, ak, ck, bk, qk, e6, hk1, hk2⟩ := open_keys f6
  obtain ⟨le, ae, ce, be, qe, e7, he1, he2⟩ := (open_all n).2.2.1 _ _ f7
  simp only [List.cons.injEq, and_true] at e0 e1 e2 e3 e4 e5 e6 e7
  subst e0 e1 e2 e3 e4 e5 e6 e7
  exact ⟨⟨s, k, b, lf, u, r, lk, le⟩, af, cf, bf, qf, ak, ck, bk, qk, ae, ce, be, qe, rfl, in64_of wk, in64_of wr, hs, hu, hf1, hk1, he1, hf2, hk2, he2⟩
end
end Go.Proofs.YtaecmgkckefgoaaDoor
