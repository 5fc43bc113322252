/- Arguments that are values, opened. -/
import Derived.Test.YtagjbphadakifaaDoorProg
import Derived.Test.YtagjbphadakifaaDoorVals
import Derived.ChangeArms
import Derived.KernelRfl
set_option linter.unusedSimpArgs false
set_option linter.unusedVariables false
namespace Go.Proofs.YtagjbphadakifaaDoor
open Go.ChangeShapes Go.WideShapes Go.Deep
theorem cells3 : Tryd.prog.cellsOf 3 = 1 := by kernel_rfl
theorem cells4 : Tryd.prog.cellsOf 4 = 1 := by kernel_rfl
theorem cells9 : Tryd.prog.cellsOf 9 = 1 := by kernel_rfl
theorem cells22 : Tryd.prog.cellsOf 30 = 1 := by kernel_rfl
theorem cells23 : Tryd.prog.cellsOf 28 = 1 := by kernel_rfl
theorem cells25 : Tryd.prog.cellsOf 32 = 6 := by kernel_rfl
theorem cells44 : Tryd.prog.cellsOf 34 = 7 := by kernel_rfl
theorem in64_of {n : Int} (h : (Lit.int .i64 n).wf = true) : In64 n := by
  simp [Lit.wf, IntKind.min, IntKind.max, IntKind.signed, IntKind.bits] at h
  exact h
theorem len6 {α : Type} {l : List α} (h : l.length = 6) : ∃ c0 c1 c2 c3 c4 c5, l = [c0, c1, c2, c3, c4, c5] := by
  match l, h with
  | [c0, c1, c2, c3, c4, c5], _ => exact ⟨_, _, _, _, _, _, rfl⟩
theorem len7 {α : Type} {l : List α} (h : l.length = 7) : ∃ c c0 c1 c2 c3 c4 c5, l = [c, c0, c1, c2, c3, c4, c5] := by
  match l, h with
  | [c, c0, c1, c2, c3, c4, c5], _ => exact ⟨_, _, _, _, _, _, _, rfl⟩
section
variable {H : Type} {enc : TypeId × Value → H} {w : World} {spare : Nat → Bool} {held : Bool}
def Old (w : World) (b : Nat) : Prop := b < w.heap.size
theorem row_of_cells {a : Addr} {n : Nat} {cs : List Value} (h : w.cells? 0 a n = some cs) (hn : 0 < n) : ∃ b o, a = ⟨b, o, none⟩ ∧ b < w.heap.size ∧ rowAt w b o cs := by
  obtain ⟨_, hlen, hc⟩ := World.cells?_some h
  obtain ⟨b, o, sp⟩ := a
  have h0 := hc 0 hn
  rw [List.getElem?_eq_getElem (by omega)] at h0
  have hsp : sp = none := by simpa [Addr.add] using World.cell?_spot h0
  subst hsp
  refine ⟨b, o, rfl, by simpa [Addr.add] using World.block_lt_of_cell? w _ h0, fun j u hu => ?_⟩
  have hj : j < n := by rw [← hlen]; exact (List.getElem?_eq_some_iff.1 hu).1
  have := hc j hj
  rw [add_plain] at this
  rw [this, hu]
theorem elems_at {α : Type} {a : Addr} {len k : Nat} {Q : α → List Value → Prop} (hk : 0 < k) (h : ∀ i, i < len → ∃ cs x, w.cells? 0 (a.add (i * k)) k = some cs ∧ Q x cs) :
    ∃ (l : List α) (b o : Nat), l.length = len ∧ (len = 0 ∨ a = ⟨b, o, none⟩) ∧ ∀ (j : Nat) (hj : j < l.length), Old w b ∧ ∃ cs, rowAt w b (o + j * k) cs ∧ Q l[j] cs := by
  by_cases h0 : len = 0
  · exact ⟨[], 0, 0, by simp [h0], .inl h0, fun j hj => by simp at hj⟩
  obtain ⟨cs0, x0, hc0, _⟩ := h 0 (by omega)
  have hz : a.add (0 * k) = a := by simp [Addr.add]
  rw [hz] at hc0
  obtain ⟨b, o, rfl, hb, _⟩ := row_of_cells hc0 hk
  have : ∃ l : List α, l.length = len ∧ ∀ (j : Nat) (hj : j < l.length), ∃ cs, rowAt w b (o + j * k) cs ∧ Q l[j] cs := by
    clear hc0 hz h0
    induction len with
    | zero => exact ⟨[], rfl, fun j hj => by simp at hj⟩
    | succ n ih =>
      obtain ⟨l, hl, hq⟩ := ih fun i hi => h i (by omega)
      obtain ⟨cs, x, hc, hx⟩ := h n (by omega)
      rw [add_plain] at hc
      obtain ⟨b', o', e, _, hr⟩ := row_of_cells hc hk
      cases e
      refine ⟨l ++ [x], by simp [hl], fun j hj => ?_⟩
      by_cases hjl : j < l.length
      · rw [List.getElem_append_left hjl]; exact hq j hjl
      · have hjn : j = n := by simp at hj; omega
        subst hjn
        refine ⟨cs, hr, ?_⟩
        rw [List.getElem_append_right (by omega)]
        simpa using hx
  obtain ⟨l, hl, hq⟩ := this
  exact ⟨l, b, o, hl, .inr rfl, fun j hj => ⟨hb, hq j hj⟩⟩
theorem open_all : ∀ n : Nat,
    (∀ cs x, DataW.trod enc Tryd.prog w 0 spare held n 32 cs = some x → ∃ v : V, v.lies false w (Old w) cs) ∧
    (∀ cs x, DataW.trod enc Tryd.prog w 0 spare held n 34 cs = some x → ∃ (k : ByteArray) (v : V) (cs' : List Value), cs = .string k :: cs' ∧ k.size ≤ maxLen ∧ v.lies false w (Old w) cs') ∧
    (∀ cs x, DataW.trod enc Tryd.prog w 0 spare held n 30 cs = some x → ∃ (l : List V) (ao : Option Addr) (cap b o : Nat), cs = [.slice ao l.length cap] ∧ Headed ao l.length cap b o ∧ liesL false w (Old w) l b o) ∧
    (∀ cs x, DataW.trod enc Tryd.prog w 0 spare held n 28 cs = some x → ∃ (l : List Mem) (ao : Option Addr) (cap b o : Nat), cs = [.slice ao l.length cap] ∧ Headed ao l.length cap b o ∧ liesM false w (Old w) l b o) := by
  intro n
  induction n with
  | zero => refine ⟨?_, ?_, ?_, ?_⟩ <;> (intro cs x h; simp [DataW.trod] at h)
  | succ n ih =>
    obtain ⟨ihv, ihm, ihl, ihk⟩ := ih
    refine ⟨?_, ?_, ?_, ?_⟩
    · intro cs x h
      obtain ⟨xs, n', hn, _, hl, hlen, hf⟩ := DataW.trod_struct Tryd.underlying32 h
      obtain rfl : n = n' := by omega
      rw [cells25] at hl
      obtain ⟨c0, c1, c2, c3, c4, c5, rfl⟩ := len6 hl
      have h6 : xs.length = 6 := hlen
      have f0 := hf 0 _ rfl
      rw [List.getElem?_eq_getElem (by omega)] at f0
      have f1 := hf 1 _ rfl
      rw [List.getElem?_eq_getElem (by omega)] at f1
      have f2 := hf 2 _ rfl
      rw [List.getElem?_eq_getElem (by omega)] at f2
      have f3 := hf 3 _ rfl
      rw [List.getElem?_eq_getElem (by omega)] at f3
      have f4 := hf 4 _ rfl
      rw [List.getElem?_eq_getElem (by omega)] at f4
      have f5 := hf 5 _ rfl
      rw [List.getElem?_eq_getElem (by omega)] at f5
      simp [cells3, cells4, cells9, cells22, cells23] at f0 f1 f2 f3 f4 f5
      obtain ⟨k, e0, _, wk⟩ := DataW.trod_int Tryd.underlying3 f0
      obtain ⟨b, e1, _⟩ := DataW.trod_bool Tryd.underlying4 f1
      obtain ⟨i, e2, _, wi⟩ := DataW.trod_int Tryd.underlying3 f2
      obtain ⟨s, e3, _, hs⟩ := DataW.trod_string Tryd.underlying9 f3
      obtain ⟨l, al, cl, bl, ol, e4, hl1, hl2⟩ := ihl _ _ f4
      obtain ⟨m, am, cm, bm, om, e5, hm1, hm2⟩ := ihk _ _ f5
      simp only [List.cons.injEq, and_true] at e0 e1 e2 e3 e4 e5
      subst e0 e1 e2 e3 e4 e5
      refine ⟨.mk k b i s l m, ?_⟩
      rw [V.lies]
      exact ⟨al, cl, bl, ol, am, cm, bm, om, rfl, in64_of wk, in64_of wi, hs, hl1, hm1, hl2, hm2, fun h => by cases h⟩
    · intro cs x h
      obtain ⟨xs, n', hn, _, hl, hlen, hf⟩ := DataW.trod_struct Tryd.underlying34 h
      obtain rfl : n = n' := by omega
      rw [cells44] at hl
      obtain ⟨c, c0, c1, c2, c3, c4, c5, rfl⟩ := len7 hl
      have h6 : xs.length = 2 := hlen
      have f0 := hf 0 _ rfl
      rw [List.getElem?_eq_getElem (by omega)] at f0
      have f1 := hf 1 _ rfl
      rw [List.getElem?_eq_getElem (by omega)] at f1
      simp [cells9, cells25] at f0 f1
      obtain ⟨s, e3, _, hs⟩ := DataW.trod_string Tryd.underlying9 f0
      obtain ⟨v, hv⟩ := ihv _ _ f1
      simp only [List.cons.injEq, and_true] at e3
      subst e3
      exact ⟨s, v, _, rfl, hs, hv⟩
    · intro cs x h
      rcases DataW.trod_slice Tryd.underlying30 h with ⟨rfl, _⟩ | ⟨a, len, cap, elems, rest, n', hn, rfl, _, _, hlc, hcm, hlen, hel, _⟩
      · exact ⟨[], none, 0, 0, 0, rfl, ⟨Nat.le_refl _, by simp [maxLen], .inl rfl, fun _ => rfl⟩, by rw [liesL]; trivial⟩
      obtain rfl : n = n' := by omega
      rw [cells25] at hel
      obtain ⟨l, b, o, hll, hao, hq⟩ := elems_at (w := w) (a := a) (len := len) (k := 6) (Q := fun (v : V) cs => v.lies false w (Old w) cs) (by omega) (fun i hi => by
        have he := hel i hi
        rw [List.getElem?_eq_getElem (by omega)] at he
        obtain ⟨cs, h1, h2⟩ := Option.bind_eq_some_iff.1 he
        obtain ⟨v, hv⟩ := ihv _ _ h2
        exact ⟨cs, v, h1, hv⟩)
      subst hll
      refine ⟨l, some a, cap, b, o, rfl, ⟨hlc, hcm, ?_, fun h => by cases h⟩, liesL_mk hq⟩
      rcases hao with h | rfl
      · exact .inl h
      · exact .inr rfl
    · intro cs x h
      rcases DataW.trod_slice Tryd.underlying28 h with ⟨rfl, _⟩ | ⟨a, len, cap, elems, rest, n', hn, rfl, _, _, hlc, hcm, hlen, hel, _⟩
      · exact ⟨[], none, 0, 0, 0, rfl, ⟨Nat.le_refl _, by simp [maxLen], .inl rfl, fun _ => rfl⟩, by rw [liesM]; trivial⟩
      obtain rfl : n = n' := by omega
      rw [cells44] at hel
      obtain ⟨l, b, o, hll, hao, hq⟩ := elems_at (w := w) (a := a) (len := len) (k := 7) (Q := fun (v : Mem) cs => ∃ cs', cs = .string v.1 :: cs' ∧ v.1.size ≤ maxLen ∧ v.2.lies false w (Old w) cs') (by omega) (fun i hi => by
        have he := hel i hi
        rw [List.getElem?_eq_getElem (by omega)] at he
        obtain ⟨cs, h1, h2⟩ := Option.bind_eq_some_iff.1 he
        obtain ⟨k, v, cs', e, hk, hv⟩ := ihm _ _ h2
        exact ⟨cs, (k, v), h1, cs', e, hk, hv⟩)
      subst hll
      refine ⟨l, some a, cap, b, o, rfl, ⟨hlc, hcm, ?_, fun h => by cases h⟩, liesM_mk fun j hj => ?_⟩
      · rcases hao with h | rfl
        · exact .inl h
        · exact .inr rfl
      · obtain ⟨h1, cs, h2, cs', e, h3, h4⟩ := hq j hj
        subst e
        exact ⟨h1, h3, cs', h2, h4⟩
end
end Go.Proofs.YtagjbphadakifaaDoor
