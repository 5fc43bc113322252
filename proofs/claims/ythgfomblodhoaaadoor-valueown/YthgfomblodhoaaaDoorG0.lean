/- joined: Vals Opn -/
import Derived.ProofKit
import Derived.Below
import Derived.Deep.Slices
import Derived.Test.YthgfomblodhoaaaDoorProg
import Derived.ChangeArms
import Derived.KernelRfl
/- Values as trees, and how they lie in memory. -/
set_option linter.unusedSimpArgs false
set_option linter.unusedVariables false
namespace Go.Proofs.YthgfomblodhoaaaDoor
open Go.ChangeShapes Go.WideShapes Go.Deep
inductive V where
  | mk (k : Int) (b : Bool) (i : Int) (s : ByteArray) (l : List V) (m : List (ByteArray × V))
abbrev Mem := ByteArray × V
mutual
theorem V.ind_v {P : V → Prop} (h : ∀ k b i s l m, (∀ x ∈ l, P x) → (∀ x ∈ m, P x.2) → P (.mk k b i s l m)) : ∀ v, P v
  | .mk k b i s l m => h k b i s l m (V.ind_l h l) (V.ind_m h m)
theorem V.ind_l {P : V → Prop} (h : ∀ k b i s l m, (∀ x ∈ l, P x) → (∀ x ∈ m, P x.2) → P (.mk k b i s l m)) : ∀ l : List V, ∀ x ∈ l, P x
  | [], x, hx => by cases hx
  | y :: t, x, hx => by
    rcases List.mem_cons.1 hx with e | hx
    · rw [e]; exact V.ind_v h y
    · exact V.ind_l h t x hx
theorem V.ind_m {P : V → Prop} (h : ∀ k b i s l m, (∀ x ∈ l, P x) → (∀ x ∈ m, P x.2) → P (.mk k b i s l m)) : ∀ m : List Mem, ∀ x ∈ m, P x.2
  | [], x, hx => by cases hx
  | (k, y) :: t, x, hx => by
    rcases List.mem_cons.1 hx with e | hx
    · rw [e]; exact V.ind_v h y
    · exact V.ind_m h t x hx
end
mutual
/-- how many values and bytes -/
def V.wt : V → Nat
  | .mk _ _ _ s l m => 1 + s.size + wtL l + wtM m
def wtL : List V → Nat
  | [] => 0
  | x :: t => x.wt + wtL t
def wtM : List Mem → Nat
  | [] => 0
  | (k, x) :: t => k.size + x.wt + wtM t
end
theorem V.wt_pos (v : V) : 1 ≤ v.wt := by cases v; rw [V.wt]; omega
theorem wtL_len : ∀ l : List V, l.length ≤ wtL l
  | [] => by simp [wtL]
  | x :: t => by have := V.wt_pos x; have := wtL_len t; simp only [wtL, List.length_cons]; omega
theorem wtM_len : ∀ l : List Mem, l.length ≤ wtM l
  | [] => by simp [wtM]
  | (k, x) :: t => by have := V.wt_pos x; have := wtM_len t; simp only [wtM, List.length_cons]; omega
theorem wtL_mem : ∀ {l : List V} {x : V}, x ∈ l → x.wt ≤ wtL l
  | [], x, h => by cases h
  | y :: t, x, h => by
    rcases List.mem_cons.1 h with rfl | h
    · simp only [wtL]; omega
    · have := wtL_mem h; simp only [wtL]; omega
theorem wtM_mem : ∀ {l : List Mem} {x : Mem}, x ∈ l → x.1.size + x.2.wt ≤ wtM l
  | [], x, h => by cases h
  | (k, y) :: t, x, h => by
    rcases List.mem_cons.1 h with rfl | h
    · simp only [wtM]; omega
    · have := wtM_mem h; simp only [wtM]; omega
theorem wtL_app : ∀ a b : List V, wtL (a ++ b) = wtL a + wtL b
  | [], b => by simp [wtL]
  | x :: t, b => by have := wtL_app t b; simp only [wtL, List.cons_append]; omega
theorem wtM_app : ∀ a b : List Mem, wtM (a ++ b) = wtM a + wtM b
  | [], b => by simp [wtM]
  | (k, x) :: t, b => by have := wtM_app t b; simp only [wtM, List.cons_append]; omega
def rowAt (w : World) (b o : Nat) (cs : List Value) : Prop := ∀ j u, cs[j]? = some u → w.cell? ⟨b, o + j, none⟩ = some u
def In64 (k : Int) : Prop := -9223372036854775808 ≤ k ∧ k ≤ 9223372036854775807
/-- a slice's head: of n elements, at b, o where there is one -/
structure Headed (ao : Option Addr) (n cap b o : Nat) : Prop where
  le : n ≤ cap
  max : cap ≤ maxLen
  at_ : n = 0 ∨ ao = some ⟨b, o, none⟩
  nil : ao = none → cap = 0
mutual
/-- the value lies in these six cells, and below in blocks of S (R: with a mark behind each list and map) -/
def V.lies (R : Bool) (w : World) (S : Nat → Prop) : V → List Value → Prop
  | .mk k b i s l m, cs => ∃ al cl bl ol am cm bm om, cs = [.int .i64 k, .bool b, .int .i64 i, .string s, .slice al l.length cl, .slice am m.length cm] ∧ In64 k ∧ In64 i ∧ s.size ≤ maxLen ∧
      Headed al l.length cl bl ol ∧ Headed am m.length cm bm om ∧ liesL R w S l bl ol ∧ liesM R w S m bm om ∧
      (R = true → al = some ⟨bl, ol, none⟩ ∧ l.length < cl ∧ S bl ∧ w.cell? ⟨bl, ol + l.length * 6, none⟩ = some (.int .i64 77) ∧
        am = some ⟨bm, om, none⟩ ∧ m.length < cm ∧ S bm ∧ w.cell? ⟨bm, om + m.length * 7, none⟩ = some (.string ⟨#[114, 111, 111, 109]⟩))
def liesL (R : Bool) (w : World) (S : Nat → Prop) : List V → Nat → Nat → Prop
  | [], _, _ => True
  | x :: t, b, o => S b ∧ (∃ cs, rowAt w b o cs ∧ x.lies R w S cs) ∧ liesL R w S t b (o + 6)
def liesM (R : Bool) (w : World) (S : Nat → Prop) : List Mem → Nat → Nat → Prop
  | [], _, _ => True
  | (k, x) :: t, b, o => S b ∧ (k.size ≤ maxLen ∧ ∃ cs, rowAt w b o (.string k :: cs) ∧ x.lies R w S cs) ∧ liesM R w S t b (o + 7)
end
theorem liesL_get {R : Bool} {w : World} {S : Nat → Prop} : ∀ {l : List V} {b o : Nat}, liesL R w S l b o → ∀ (j : Nat) (h : j < l.length), S b ∧ ∃ cs, rowAt w b (o + j * 6) cs ∧ (l[j]).lies R w S cs
  | [], b, o, _, j, h => by simp at h
  | x :: t, b, o, hl, 0, h => by
    rw [liesL] at hl
    obtain ⟨hS, hx, _⟩ := hl
    exact ⟨hS, by simpa using hx⟩
  | x :: t, b, o, hl, j + 1, h => by
    rw [liesL] at hl
    obtain ⟨hS, hx, ht⟩ := hl
    have := liesL_get ht j (by simpa using h)
    rw [show o + 6 + j * 6 = o + (j + 1) * 6 by omega] at this
    simpa using this
theorem liesL_mk {R : Bool} {w : World} {S : Nat → Prop} : ∀ {l : List V} {b o : Nat}, (∀ (j : Nat) (h : j < l.length), S b ∧ ∃ cs, rowAt w b (o + j * 6) cs ∧ (l[j]).lies R w S cs) → liesL R w S l b o
  | [], b, o, _ => by rw [liesL]; trivial
  | x :: t, b, o, hl => by
    rw [liesL]
    have h0 := hl 0 (by simp)
    refine ⟨h0.1, by simpa using h0.2, liesL_mk fun j h => ?_⟩
    have := hl (j + 1) (by simpa using h)
    rw [show o + (j + 1) * 6 = o + 6 + j * 6 by omega] at this
    simpa using this
theorem liesM_get {R : Bool} {w : World} {S : Nat → Prop} : ∀ {l : List Mem} {b o : Nat}, liesM R w S l b o → ∀ (j : Nat) (h : j < l.length), S b ∧ (l[j]).1.size ≤ maxLen ∧ ∃ cs, rowAt w b (o + j * 7) (.string (l[j]).1 :: cs) ∧ (l[j]).2.lies R w S cs
  | [], b, o, _, j, h => by simp at h
  | (k, x) :: t, b, o, hl, 0, h => by
    rw [liesM] at hl
    obtain ⟨hS, hx, _⟩ := hl
    exact ⟨hS, by simpa using hx⟩
  | (k, x) :: t, b, o, hl, j + 1, h => by
    rw [liesM] at hl
    obtain ⟨hS, hx, ht⟩ := hl
    have := liesM_get ht j (by simpa using h)
    rw [show o + 7 + j * 7 = o + (j + 1) * 7 by omega] at this
    simpa using this
theorem liesM_mk {R : Bool} {w : World} {S : Nat → Prop} : ∀ {l : List Mem} {b o : Nat}, (∀ (j : Nat) (h : j < l.length), S b ∧ (l[j]).1.size ≤ maxLen ∧ ∃ cs, rowAt w b (o + j * 7) (.string (l[j]).1 :: cs) ∧ (l[j]).2.lies R w S cs) → liesM R w S l b o
  | [], b, o, _ => by rw [liesM]; trivial
  | (k, x) :: t, b, o, hl => by
    rw [liesM]
    have h0 := hl 0 (by simp)
    refine ⟨h0.1, by simpa using h0.2, liesM_mk fun j h => ?_⟩
    have := hl (j + 1) (by simpa using h)
    rw [show o + (j + 1) * 7 = o + 7 + j * 7 by omega] at this
    simpa using this
theorem rowAt.keep {w w' : World} {b o : Nat} {cs : List Value} (h : rowAt w b o cs) (hb : w'.heap[b]? = w.heap[b]?) : rowAt w' b o cs := fun j u hu =>
  (World.cell?_of_block (w := w) (a := ⟨b, o + j, none⟩) hb).trans (h j u hu)
mutual
theorem V.lies_keep {R R' : Bool} {w w' : World} {S S' : Nat → Prop} (hR : R' = true → R = true) (hw : ∀ b, S b → w'.heap[b]? = w.heap[b]?) (hS : ∀ b, S b → S' b) : ∀ (v : V) {cs : List Value}, v.lies R w S cs → v.lies R' w' S' cs
  | .mk k b i s l m, cs, h => by
    rw [V.lies] at h ⊢
    obtain ⟨al, cl, bl, ol, am, cm, bm, om, e, h1, h2, h0, h3, h4, h5, h6, h7⟩ := h
    refine ⟨al, cl, bl, ol, am, cm, bm, om, e, h1, h2, h0, h3, h4, liesL_keep hR hw hS l h5, liesM_keep hR hw hS m h6, fun r => ?_⟩
    obtain ⟨a1, a2, a3, a4, a5, a6, a7, a8⟩ := h7 (hR r)
    exact ⟨a1, a2, hS _ a3, (World.cell?_of_block (w := w) (hw _ a3)).trans a4, a5, a6, hS _ a7, (World.cell?_of_block (w := w) (hw _ a7)).trans a8⟩
theorem liesL_keep {R R' : Bool} {w w' : World} {S S' : Nat → Prop} (hR : R' = true → R = true) (hw : ∀ b, S b → w'.heap[b]? = w.heap[b]?) (hS : ∀ b, S b → S' b) : ∀ (l : List V) {b o : Nat}, liesL R w S l b o → liesL R' w' S' l b o
  | [], b, o, h => by rw [liesL]; trivial
  | x :: t, b, o, h => by
    rw [liesL] at h ⊢
    obtain ⟨h1, ⟨cs, h2, h3⟩, h4⟩ := h
    exact ⟨hS _ h1, ⟨cs, h2.keep (hw _ h1), V.lies_keep hR hw hS x h3⟩, liesL_keep hR hw hS t h4⟩
theorem liesM_keep {R R' : Bool} {w w' : World} {S S' : Nat → Prop} (hR : R' = true → R = true) (hw : ∀ b, S b → w'.heap[b]? = w.heap[b]?) (hS : ∀ b, S b → S' b) : ∀ (l : List Mem) {b o : Nat}, liesM R w S l b o → liesM R' w' S' l b o
  | [], b, o, h => by rw [liesM]; trivial
  | (k, x) :: t, b, o, h => by
    rw [liesM] at h ⊢
    obtain ⟨h1, ⟨h0, cs, h2, h3⟩, h4⟩ := h
    exact ⟨hS _ h1, ⟨h0, cs, h2.keep (hw _ h1), V.lies_keep hR hw hS x h3⟩, liesM_keep hR hw hS t h4⟩
end
end Go.Proofs.YthgfomblodhoaaaDoor
/- Arguments that are values, opened. -/
namespace Go.Proofs.YthgfomblodhoaaaDoor
open Go.ChangeShapes Go.WideShapes Go.Deep
theorem cells3 : Tryd.prog.cellsOf 3 = 1 := by kernel_rfl
theorem cells4 : Tryd.prog.cellsOf 4 = 1 := by kernel_rfl
theorem cells9 : Tryd.prog.cellsOf 9 = 1 := by kernel_rfl
theorem cells22 : Tryd.prog.cellsOf 22 = 1 := by kernel_rfl
theorem cells23 : Tryd.prog.cellsOf 23 = 1 := by kernel_rfl
theorem cells25 : Tryd.prog.cellsOf 25 = 6 := by kernel_rfl
theorem cells44 : Tryd.prog.cellsOf 38 = 7 := by kernel_rfl
theorem in64_of {n : Int} (h : (Lit.int .i64 n).wf = true) : In64 n := by
  simp [Lit.wf, IntKind.min, IntKind.max, IntKind.signed, IntKind.bits] at h
  exact h
theorem len6 {α : Type} {l : List α} (h : l.length = 6) : ∃ c0 c1 c2 c3 c4 c5, l = [c0, c1, c2, c3, c4, c5] := by
  match l, h with
  | [c0, c1, c2, c3, c4, c5], _ => exact ⟨_, _, _, _, _, _, rfl⟩
theorem len7 {α : Type} {l : List α} (h : l.length = 7) : ∃ c c0 c1 c2 c3 c4 c5, l = [c, c0, c1, c2, c3, c4, c5] := by
  match l, h with
  | [c, c0, c1, c2, c3, c4, c5], _ => exact ⟨_, _, _, _, _, _, _, rfl⟩
section
variable {H : Type} {enc : TypeId × Value → H} {w : World} {spare : Nat → Bool} {held : Bool}
def Old (w : World) (b : Nat) : Prop := b < w.heap.size
theorem row_of_cells {a : Addr} {n : Nat} {cs : List Value} (h : w.cells? 0 a n = some cs) (hn : 0 < n) : ∃ b o, a = ⟨b, o, none⟩ ∧ b < w.heap.size ∧ rowAt w b o cs := by
  obtain ⟨_, hlen, hc⟩ := World.cells?_some h
  obtain ⟨b, o, sp⟩ := a
  have h0 := hc 0 hn
  rw [List.getElem?_eq_getElem (by omega)] at h0
  have hsp : sp = none := by simpa [Addr.add] using World.cell?_spot h0
  subst hsp
  refine ⟨b, o, rfl, by simpa [Addr.add] using World.block_lt_of_cell? w _ h0, fun j u hu => ?_⟩
  have hj : j < n := by rw [← hlen]; exact (List.getElem?_eq_some_iff.1 hu).1
  have := hc j hj
  rw [add_plain] at this
  rw [this, hu]
theorem elems_at {α : Type} {a : Addr} {len k : Nat} {Q : α → List Value → Prop} (hk : 0 < k) (h : ∀ i, i < len → ∃ cs x, w.cells? 0 (a.add (i * k)) k = some cs ∧ Q x cs) :
    ∃ (l : List α) (b o : Nat), l.length = len ∧ (len = 0 ∨ a = ⟨b, o, none⟩) ∧ ∀ (j : Nat) (hj : j < l.length), Old w b ∧ ∃ cs, rowAt w b (o + j * k) cs ∧ Q l[j] cs := by
  by_cases h0 : len = 0
  · exact ⟨[], 0, 0, by simp [h0], .inl h0, fun j hj => by simp at hj⟩
  obtain ⟨cs0, x0, hc0, _⟩ := h 0 (by omega)
  have hz : a.add (0 * k) = a := by simp [Addr.add]
  rw [hz] at hc0
  obtain ⟨b, o, rfl, hb, _⟩ := row_of_cells hc0 hk
  have : ∃ l : List α, l.length = len ∧ ∀ (j : Nat) (hj : j < l.length), ∃ cs, rowAt w b (o + j * k) cs ∧ Q l[j] cs := by
    clear hc0 hz h0
    induction len with
    | zero => exact ⟨[], rfl, fun j hj => by simp at hj⟩
    | succ n ih =>
      obtain ⟨l, hl, hq⟩ := ih fun i hi => h i (by omega)
      obtain ⟨cs, x, hc, hx⟩ := h n (by omega)
      rw [add_plain] at hc
      obtain ⟨b', o', e, _, hr⟩ := row_of_cells hc hk
      cases e
      refine ⟨l ++ [x], by simp [hl], fun j hj => ?_⟩
      by_cases hjl : j < l.length
      · rw [List.getElem_append_left hjl]; exact hq j hjl
      · have hjn : j = n := by simp at hj; omega
        subst hjn
        refine ⟨cs, hr, ?_⟩
        rw [List.getElem_append_right (by omega)]
        simpa using hx
  obtain ⟨l, hl, hq⟩ := this
  exact ⟨l, b, o, hl, .inr rfl, fun j hj => ⟨hb, hq j hj⟩⟩
theorem open_all : ∀ n : Nat,
    (∀ cs x, DataW.trod enc Tryd.prog w 0 spare held n 25 cs = some x → ∃ v : V, v.lies false w (Old w) cs) ∧
    (∀ cs x, DataW.trod enc Tryd.prog w 0 spare held n 38 cs = some x → ∃ (k : ByteArray) (v : V) (cs' : List Value), cs = .string k :: cs' ∧ k.size ≤ maxLen ∧ v.lies false w (Old w) cs') ∧
    (∀ cs x, DataW.trod enc Tryd.prog w 0 spare held n 22 cs = some x → ∃ (l : List V) (ao : Option Addr) (cap b o : Nat), cs = [.slice ao l.length cap] ∧ Headed ao l.length cap b o ∧ liesL false w (Old w) l b o) ∧
    (∀ cs x, DataW.trod enc Tryd.prog w 0 spare held n 23 cs = some x → ∃ (l : List Mem) (ao : Option Addr) (cap b o : Nat), cs = [.slice ao l.length cap] ∧ Headed ao l.length cap b o ∧ liesM false w (Old w) l b o) := by
  intro n
  induction n with
  | zero => refine ⟨?_, ?_, ?_, ?_⟩ <;> (intro cs x h; simp [DataW.trod] at h)
  | succ n ih =>
    obtain ⟨ihv, ihm, ihl, ihk⟩ := ih
    refine ⟨?_, ?_, ?_, ?_⟩
    · intro cs x h
      obtain ⟨xs, n', hn, _, hl, hlen, hf⟩ := DataW.trod_struct Tryd.underlying25 h
      obtain rfl : n = n' := by omega
      rw [cells25] at hl
      obtain ⟨c0, c1, c2, c3, c4, c5, rfl⟩ := len6 hl
      have h6 : xs.length = 6 := hlen
      have f0 := hf 0 _ rfl
      rw [List.getElem?_eq_getElem (by omega)] at f0
      have f1 := hf 1 _ rfl
      rw [List.getElem?_eq_getElem (by omega)] at f1
      have f2 := hf 2 _ rfl
      rw [List.getElem?_eq_getElem (by omega)] at f2
      have f3 := hf 3 _ rfl
      rw [List.getElem?_eq_getElem (by omega)] at f3
      have f4 := hf 4 _ rfl
      rw [List.getElem?_eq_getElem (by omega)] at f4
      have f5 := hf 5 _ rfl
      rw [List.getElem?_eq_getElem (by omega)] at f5
      simp [cells3, cells4, cells9, cells22, cells23] at f0 f1 f2 f3 f4 f5
      obtain ⟨k, e0, _, wk⟩ := DataW.trod_int Tryd.underlying3 f0
      obtain ⟨b, e1, _⟩ := DataW.trod_bool Tryd.underlying4 f1
      obtain ⟨i, e2, _, wi⟩ := DataW.trod_int Tryd.underlying3 f2
      obtain ⟨s, e3, _, hs⟩ := DataW.trod_string Tryd.underlying9 f3
      obtain ⟨l, al, cl, bl, ol, e4, hl1, hl2⟩ := ihl _ _ f4
      obtain ⟨m, am, cm, bm, om, e5, hm1, hm2⟩ := ihk _ _ f5
      simp only [List.cons.injEq, and_true] at e0 e1 e2 e3 e4 e5
      subst e0 e1 e2 e3 e4 e5
      refine ⟨.mk k b i s l m, ?_⟩
      rw [V.lies]
      exact ⟨al, cl, bl, ol, am, cm, bm, om, rfl, in64_of wk, in64_of wi, hs, hl1, hm1, hl2, hm2, fun h => by cases h⟩
    · intro cs x h
      obtain ⟨xs, n', hn, _, hl, hlen, hf⟩ := DataW.trod_struct Tryd.underlying38 h
      obtain rfl : n = n' := by omega
      rw [cells44] at hl
      obtain ⟨c, c0, c1, c2, c3, c4, c5, rfl⟩ := len7 hl
      have h6 : xs.length = 2 := hlen
      have f0 := hf 0 _ rfl
      rw [List.getElem?_eq_getElem (by omega)] at f0
      have f1 := hf 1 _ rfl
      rw [List.getElem?_eq_getElem (by omega)] at f1
      simp [cells9, cells25] at f0 f1
      obtain ⟨s, e3, _, hs⟩ := DataW.trod_string Tryd.underlying9 f0
      obtain ⟨v, hv⟩ := ihv _ _ f1
      simp only [List.cons.injEq, and_true] at e3
      subst e3
      exact ⟨s, v, _, rfl, hs, hv⟩
    · intro cs x h
      rcases DataW.trod_slice Tryd.underlying22 h with ⟨rfl, _⟩ | ⟨a, len, cap, elems, rest, n', hn, rfl, _, _, hlc, hcm, hlen, hel, _⟩
      · exact ⟨[], none, 0, 0, 0, rfl, ⟨Nat.le_refl _, by simp [maxLen], .inl rfl, fun _ => rfl⟩, by rw [liesL]; trivial⟩
      obtain rfl : n = n' := by omega
      rw [cells25] at hel
      obtain ⟨l, b, o, hll, hao, hq⟩ := elems_at (w := w) (a := a) (len := len) (k := 6) (Q := fun (v : V) cs => v.lies false w (Old w) cs) (by omega) (fun i hi => by
        have he := hel i hi
        rw [List.getElem?_eq_getElem (by omega)] at he
        obtain ⟨cs, h1, h2⟩ := Option.bind_eq_some_iff.1 he
        obtain ⟨v, hv⟩ := ihv _ _ h2
        exact ⟨cs, v, h1, hv⟩)
      subst hll
      refine ⟨l, some a, cap, b, o, rfl, ⟨hlc, hcm, ?_, fun h => by cases h⟩, liesL_mk hq⟩
      rcases hao with h | rfl
      · exact .inl h
      · exact .inr rfl
    · intro cs x h
      rcases DataW.trod_slice Tryd.underlying23 h with ⟨rfl, _⟩ | ⟨a, len, cap, elems, rest, n', hn, rfl, _, _, hlc, hcm, hlen, hel, _⟩
      · exact ⟨[], none, 0, 0, 0, rfl, ⟨Nat.le_refl _, by simp [maxLen], .inl rfl, fun _ => rfl⟩, by rw [liesM]; trivial⟩
      obtain rfl : n = n' := by omega
      rw [cells44] at hel
      obtain ⟨l, b, o, hll, hao, hq⟩ := elems_at (w := w) (a := a) (len := len) (k := 7) (Q := fun (v : Mem) cs => ∃ cs', cs = .string v.1 :: cs' ∧ v.1.size ≤ maxLen ∧ v.2.lies false w (Old w) cs') (by omega) (fun i hi => by
        have he := hel i hi
        rw [List.getElem?_eq_getElem (by omega)] at he
        obtain ⟨cs, h1, h2⟩ := Option.bind_eq_some_iff.1 he
        obtain ⟨k, v, cs', e, hk, hv⟩ := ihm _ _ h2
        exact ⟨cs, (k, v), h1, cs', e, hk, hv⟩)
      subst hll
      refine ⟨l, some a, cap, b, o, rfl, ⟨hlc, hcm, ?_, fun h => by cases h⟩, liesM_mk fun j hj => ?_⟩
      · rcases hao with h | rfl
        · exact .inl h
        · exact .inr rfl
      · obtain ⟨h1, cs, h2, cs', e, h3, h4⟩ := hq j hj
        subst e
        exact ⟨h1, h3, cs', h2, h4⟩
end
end Go.Proofs.YthgfomblodhoaaaDoor
