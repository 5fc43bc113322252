/- joined: Vals CntA AppN -/
import Derived.ProofKit
import Derived.Below
import Derived.Deep.Slices
import Derived.Test.YtihcggepeadklaaGreatDoorProg
import Derived.ChangeArms
import Derived.KernelRfl
import Derived.WalkKit
import Derived.RowKit
import Derived.OwnWalk
import Derived.ArgAppend
import Derived.Deep.RegionLaw
/- Values as trees, and how they lie in memory. -/
set_option linter.unusedSimpArgs false
set_option linter.unusedVariables false
namespace Go.Proofs.YtihcggepeadklaaGreatDoor
open Go.ChangeShapes Go.WideShapes Go.Deep
inductive V where
  | mk (k : Int) (b : Bool) (i : Int) (s : ByteArray) (l : List V) (m : List (ByteArray × V))
abbrev Mem := ByteArray × V
mutual
theorem V.ind_v {P : V → Prop} (h : ∀ k b i s l m, (∀ x ∈ l, P x) → (∀ x ∈ m, P x.2) → P (.mk k b i s l m)) : ∀ v, P v
  | .mk k b i s l m => h k b i s l m (V.ind_l h l) (V.ind_m h m)
theorem V.ind_l {P : V → Prop} (h : ∀ k b i s l m, (∀ x ∈ l, P x) → (∀ x ∈ m, P x.2) → P (.mk k b i s l m)) : ∀ l : List V, ∀ x ∈ l, P x
  | [], x, hx => by cases hx
  | y :: t, x, hx => by
    rcases List.mem_cons.1 hx with e | hx
    · rw [e]; exact V.ind_v h y
    · exact V.ind_l h t x hx
theorem V.ind_m {P : V → Prop} (h : ∀ k b i s l m, (∀ x ∈ l, P x) → (∀ x ∈ m, P x.2) → P (.mk k b i s l m)) : ∀ m : List Mem, ∀ x ∈ m, P x.2
  | [], x, hx => by cases hx
  | (k, y) :: t, x, hx => by
    rcases List.mem_cons.1 hx with e | hx
    · rw [e]; exact V.ind_v h y
    · exact V.ind_m h t x hx
end
mutual
/-- how many values and bytes -/
def V.wt : V → Nat
  | .mk _ _ _ s l m => 1 + s.size + wtL l + wtM m
def wtL : List V → Nat
  | [] => 0
  | x :: t => x.wt + wtL t
def wtM : List Mem → Nat
  | [] => 0
  | (k, x) :: t => k.size + x.wt + wtM t
end
theorem V.wt_pos (v : V) : 1 ≤ v.wt := by cases v; rw [V.wt]; omega
theorem wtL_len : ∀ l : List V, l.length ≤ wtL l
  | [] => by simp [wtL]
  | x :: t => by have := V.wt_pos x; have := wtL_len t; simp only [wtL, List.length_cons]; omega
theorem wtM_len : ∀ l : List Mem, l.length ≤ wtM l
  | [] => by simp [wtM]
  | (k, x) :: t => by have := V.wt_pos x; have := wtM_len t; simp only [wtM, List.length_cons]; omega
theorem wtL_mem : ∀ {l : List V} {x : V}, x ∈ l → x.wt ≤ wtL l
  | [], x, h => by cases h
  | y :: t, x, h => by
    rcases List.mem_cons.1 h with rfl | h
    · simp only [wtL]; omega
    · have := wtL_mem h; simp only [wtL]; omega
theorem wtM_mem : ∀ {l : List Mem} {x : Mem}, x ∈ l → x.1.size + x.2.wt ≤ wtM l
  | [], x, h => by cases h
  | (k, y) :: t, x, h => by
    rcases List.mem_cons.1 h with rfl | h
    · simp only [wtM]; omega
    · have := wtM_mem h; simp only [wtM]; omega
theorem wtM_app : ∀ a b : List Mem, wtM (a ++ b) = wtM a + wtM b
  | [], b => by simp [wtM]
  | (k, x) :: t, b => by have := wtM_app t b; simp only [wtM, List.cons_append]; omega
def rowAt (w : World) (b o : Nat) (cs : List Value) : Prop := ∀ j u, cs[j]? = some u → w.cell? ⟨b, o + j, none⟩ = some u
def In64 (k : Int) : Prop := -9223372036854775808 ≤ k ∧ k ≤ 9223372036854775807
/-- a slice's head: of n elements, at b, o where there is one -/
structure Headed (ao : Option Addr) (n cap b o : Nat) : Prop where
  le : n ≤ cap
  max : cap ≤ maxLen
  at_ : n = 0 ∨ ao = some ⟨b, o, none⟩
  nil : ao = none → cap = 0
mutual
/-- the value lies in these six cells, and below in blocks of S (R: with a mark behind each list and map) -/
def V.lies (R : Bool) (w : World) (S : Nat → Prop) : V → List Value → Prop
  | .mk k b i s l m, cs => ∃ al cl bl ol am cm bm om, cs = [.int .i64 k, .bool b, .int .i64 i, .string s, .slice al l.length cl, .slice am m.length cm] ∧ In64 k ∧ In64 i ∧ s.size ≤ maxLen ∧
      Headed al l.length cl bl ol ∧ Headed am m.length cm bm om ∧ liesL R w S l bl ol ∧ liesM R w S m bm om ∧
      (R = true → al = some ⟨bl, ol, none⟩ ∧ l.length < cl ∧ S bl ∧ w.cell? ⟨bl, ol + l.length * 6, none⟩ = some (.int .i64 77) ∧
        am = some ⟨bm, om, none⟩ ∧ m.length < cm ∧ S bm ∧ w.cell? ⟨bm, om + m.length * 7, none⟩ = some (.string ⟨#[114, 111, 111, 109]⟩))
def liesL (R : Bool) (w : World) (S : Nat → Prop) : List V → Nat → Nat → Prop
  | [], _, _ => True
  | x :: t, b, o => S b ∧ (∃ cs, rowAt w b o cs ∧ x.lies R w S cs) ∧ liesL R w S t b (o + 6)
def liesM (R : Bool) (w : World) (S : Nat → Prop) : List Mem → Nat → Nat → Prop
  | [], _, _ => True
  | (k, x) :: t, b, o => S b ∧ (k.size ≤ maxLen ∧ ∃ cs, rowAt w b o (.string k :: cs) ∧ x.lies R w S cs) ∧ liesM R w S t b (o + 7)
end
theorem liesL_get {R : Bool} {w : World} {S : Nat → Prop} : ∀ {l : List V} {b o : Nat}, liesL R w S l b o → ∀ (j : Nat) (h : j < l.length), S b ∧ ∃ cs, rowAt w b (o + j * 6) cs ∧ (l[j]).lies R w S cs
  | [], b, o, _, j, h => by simp at h
  | x :: t, b, o, hl, 0, h => by
    rw [liesL] at hl
    obtain ⟨hS, hx, _⟩ := hl
    exact ⟨hS, by simpa using hx⟩
  | x :: t, b, o, hl, j + 1, h => by
    rw [liesL] at hl
    obtain ⟨hS, hx, ht⟩ := hl
    have := liesL_get ht j (by simpa using h)
    rw [show o + 6 + j * 6 = o + (j + 1) * 6 by omega] at this
    simpa using this
theorem liesL_mk {R : Bool} {w : World} {S : Nat → Prop} : ∀ {l : List V} {b o : Nat}, (∀ (j : Nat) (h : j < l.length), S b ∧ ∃ cs, rowAt w b (o + j * 6) cs ∧ (l[j]).lies R w S cs) → liesL R w S l b o
  | [], b, o, _ => by rw [liesL]; trivial
  | x :: t, b, o, hl => by
    rw [liesL]
    have h0 := hl 0 (by simp)
    refine ⟨h0.1, by simpa using h0.2, liesL_mk fun j h => ?_⟩
    have := hl (j + 1) (by simpa using h)
    rw [show o + (j + 1) * 6 = o + 6 + j * 6 by omega] at this
    simpa using this
theorem liesM_get {R : Bool} {w : World} {S : Nat → Prop} : ∀ {l : List Mem} {b o : Nat}, liesM R w S l b o → ∀ (j : Nat) (h : j < l.length), S b ∧ (l[j]).1.size ≤ maxLen ∧ ∃ cs, rowAt w b (o + j * 7) (.string (l[j]).1 :: cs) ∧ (l[j]).2.lies R w S cs
  | [], b, o, _, j, h => by simp at h
  | (k, x) :: t, b, o, hl, 0, h => by
    rw [liesM] at hl
    obtain ⟨hS, hx, _⟩ := hl
    exact ⟨hS, by simpa using hx⟩
  | (k, x) :: t, b, o, hl, j + 1, h => by
    rw [liesM] at hl
    obtain ⟨hS, hx, ht⟩ := hl
    have := liesM_get ht j (by simpa using h)
    rw [show o + 7 + j * 7 = o + (j + 1) * 7 by omega] at this
    simpa using this
theorem liesM_mk {R : Bool} {w : World} {S : Nat → Prop} : ∀ {l : List Mem} {b o : Nat}, (∀ (j : Nat) (h : j < l.length), S b ∧ (l[j]).1.size ≤ maxLen ∧ ∃ cs, rowAt w b (o + j * 7) (.string (l[j]).1 :: cs) ∧ (l[j]).2.lies R w S cs) → liesM R w S l b o
  | [], b, o, _ => by rw [liesM]; trivial
  | (k, x) :: t, b, o, hl => by
    rw [liesM]
    have h0 := hl 0 (by simp)
    refine ⟨h0.1, by simpa using h0.2, liesM_mk fun j h => ?_⟩
    have := hl (j + 1) (by simpa using h)
    rw [show o + (j + 1) * 7 = o + 7 + j * 7 by omega] at this
    simpa using this
theorem rowAt.keep {w w' : World} {b o : Nat} {cs : List Value} (h : rowAt w b o cs) (hb : w'.heap[b]? = w.heap[b]?) : rowAt w' b o cs := fun j u hu =>
  (World.cell?_of_block (w := w) (a := ⟨b, o + j, none⟩) hb).trans (h j u hu)
mutual
theorem V.lies_keep {R R' : Bool} {w w' : World} {S S' : Nat → Prop} (hR : R' = true → R = true) (hw : ∀ b, S b → w'.heap[b]? = w.heap[b]?) (hS : ∀ b, S b → S' b) : ∀ (v : V) {cs : List Value}, v.lies R w S cs → v.lies R' w' S' cs
  | .mk k b i s l m, cs, h => by
    rw [V.lies] at h ⊢
    obtain ⟨al, cl, bl, ol, am, cm, bm, om, e, h1, h2, h0, h3, h4, h5, h6, h7⟩ := h
    refine ⟨al, cl, bl, ol, am, cm, bm, om, e, h1, h2, h0, h3, h4, liesL_keep hR hw hS l h5, liesM_keep hR hw hS m h6, fun r => ?_⟩
    obtain ⟨a1, a2, a3, a4, a5, a6, a7, a8⟩ := h7 (hR r)
    exact ⟨a1, a2, hS _ a3, (World.cell?_of_block (w := w) (hw _ a3)).trans a4, a5, a6, hS _ a7, (World.cell?_of_block (w := w) (hw _ a7)).trans a8⟩
theorem liesL_keep {R R' : Bool} {w w' : World} {S S' : Nat → Prop} (hR : R' = true → R = true) (hw : ∀ b, S b → w'.heap[b]? = w.heap[b]?) (hS : ∀ b, S b → S' b) : ∀ (l : List V) {b o : Nat}, liesL R w S l b o → liesL R' w' S' l b o
  | [], b, o, h => by rw [liesL]; trivial
  | x :: t, b, o, h => by
    rw [liesL] at h ⊢
    obtain ⟨h1, ⟨cs, h2, h3⟩, h4⟩ := h
    exact ⟨hS _ h1, ⟨cs, h2.keep (hw _ h1), V.lies_keep hR hw hS x h3⟩, liesL_keep hR hw hS t h4⟩
theorem liesM_keep {R R' : Bool} {w w' : World} {S S' : Nat → Prop} (hR : R' = true → R = true) (hw : ∀ b, S b → w'.heap[b]? = w.heap[b]?) (hS : ∀ b, S b → S' b) : ∀ (l : List Mem) {b o : Nat}, liesM R w S l b o → liesM R' w' S' l b o
  | [], b, o, h => by rw [liesM]; trivial
  | (k, x) :: t, b, o, h => by
    rw [liesM] at h ⊢
    obtain ⟨h1, ⟨h0, cs, h2, h3⟩, h4⟩ := h
    exact ⟨hS _ h1, ⟨h0, cs, h2.keep (hw _ h1), V.lies_keep hR hw hS x h3⟩, liesM_keep hR hw hS t h4⟩
end
end Go.Proofs.YtihcggepeadklaaGreatDoor
/- freeholdref00: counting a value. -/
namespace Go.Proofs.YtihcggepeadklaaGreatDoor
open Go.RowKit
theorem grown_trans {a b c : World} {row : Option Nat} (h : a.grownBy b row) (k : b.grownBy c row) : a.grownBy c row :=
  ⟨k.os.trans h.os, k.tape.trans h.tape, k.output.trans h.output, Nat.le_trans h.size k.size, fun i hi hr => (k.block i (Nat.lt_of_lt_of_le hi h.size) hr).trans (h.block i hi hr)⟩
theorem grown_alloc {a b : World} {row : Option Nat} (h : a.grownBy b row) (o : Obj) : a.grownBy (b.alloc o) row := grown_trans h (World.grownBy_alloc _ _ _)
theorem grown_set {a b : World} {B : Nat} (h : a.grownBy b (some B)) (i : Nat) (u : Value) : a.grownBy (b.setCell ⟨B, i, none⟩ u) (some B) :=
  ⟨h.os, h.tape, h.output, by simpa [World.setCell] using (by have := h.size; exact this : a.heap.size ≤ b.heap.size), fun k hk hr => (Below.heap_setCell b ⟨B, i, none⟩ u k (fun e => hr (by rw [e]))).trans (h.block k hk hr)⟩
structure Cnt (B n : Nat) (w : World) : Prop where
  c : w.cell? ⟨B, 0, none⟩ = some (.int .i64 (n : Int))
  f : w.frozen? ⟨B, 0, none⟩ = false
theorem Cnt.lt {B n : Nat} {w : World} (h : Cnt B n w) : B < w.heap.size := World.block_lt_of_cell? w _ h.c
theorem Cnt.keep {B n : Nat} {w w' : World} (h : Cnt B n w) (hb : w'.heap[B]? = w.heap[B]?) : Cnt B n w' :=
  ⟨(World.cell?_of_block (w := w) (a := ⟨B, 0, none⟩) hb).trans h.c, (World.frozen?_of_block (w := w) (a := ⟨B, 0, none⟩) hb).trans h.f⟩
theorem box_row (w : World) (cs : List Value) (t : TypeId) : rowAt (w.alloc (.cells cs.toArray t)) w.heap.size 0 cs := by
  intro j u hu
  have := heap_alloc_new w (.cells cs.toArray t)
  unfold World.cell?
  rw [this]
  simp [hu]
theorem box_lt (w : World) (o : Obj) : w.heap.size < (w.alloc o).heap.size := by
  have := (Array.getElem?_eq_some_iff.1 (heap_alloc_new w o)).1
  exact this
theorem row6 {w : World} {b o : Nat} {c0 c1 c2 c3 c4 c5 : Value} (h : rowAt w b o [c0, c1, c2, c3, c4, c5]) :
    w.cell? ⟨b, o, none⟩ = some c0 ∧ w.cell? ⟨b, o + 1, none⟩ = some c1 ∧ w.cell? ⟨b, o + 2, none⟩ = some c2 ∧ w.cell? ⟨b, o + 3, none⟩ = some c3 ∧ w.cell? ⟨b, o + 4, none⟩ = some c4 ∧ w.cell? ⟨b, o + 5, none⟩ = some c5 :=
  ⟨h 0 _ rfl, h 1 _ rfl, h 2 _ rfl, h 3 _ rfl, h 4 _ rfl, h 5 _ rfl⟩
theorem row7 {w : World} {b o : Nat} {c c0 c1 c2 c3 c4 c5 : Value} (h : rowAt w b o [c, c0, c1, c2, c3, c4, c5]) :
    w.cell? ⟨b, o, none⟩ = some c ∧ w.cell? ⟨b, o + 1, none⟩ = some c0 ∧ w.cell? ⟨b, o + 2, none⟩ = some c1 ∧ w.cell? ⟨b, o + 3, none⟩ = some c2 ∧ w.cell? ⟨b, o + 4, none⟩ = some c3 ∧ w.cell? ⟨b, o + 5, none⟩ = some c4 ∧ w.cell? ⟨b, o + 6, none⟩ = some c5 :=
  ⟨h 0 _ rfl, h 1 _ rfl, h 2 _ rfl, h 3 _ rfl, h 4 _ rfl, h 5 _ rfl, h 6 _ rfl⟩
theorem row6z {w : World} {b : Nat} {c0 c1 c2 c3 c4 c5 : Value} (h : rowAt w b 0 [c0, c1, c2, c3, c4, c5]) :
    w.cell? ⟨b, 0, none⟩ = some c0 ∧ w.cell? ⟨b, 1, none⟩ = some c1 ∧ w.cell? ⟨b, 2, none⟩ = some c2 ∧ w.cell? ⟨b, 3, none⟩ = some c3 ∧ w.cell? ⟨b, 4, none⟩ = some c4 ∧ w.cell? ⟨b, 5, none⟩ = some c5 := by
  have := row6 h
  simpa using this
end Go.Proofs.YtihcggepeadklaaGreatDoor
/- Rows of the call's own, of values or members, to which one more is appended. -/
namespace Go.Proofs.YtihcggepeadklaaGreatDoor
open Go.RowKit
section
variable {P : Program}
/-- append to a row of the call's own: in its place, or in a new block -/
theorem run_append_new (w : World) (base : Nat) (t ty e : TypeId) (i : TypeInfo) (z : Value) (size bytes : Nat) (ht : P.underlying t = some (.slice e)) (hi : P.info? e = some i) (hz : i.zero = some z)
    (hsize : i.size = size) (hby : i.bytes = bytes) (hzs : z.cells.size = size) (hsz : 0 < size)
    (v : Value) (n : Nat) (xs : List Value) (hown : w.ownsRow base e size v n xs)
    (a : Addr) (m c : Nat) (news : List Value) (hl : news.length = m * size) (hnews : ∀ j u, news[j]? = some u → w.cell? (a.add j) = some u) (h1 : ∀ u ∈ news, u.oneCell' = true)
    (h63 : n + m ≤ maxLen) (hbytes : (n + m) * bytes ≤ 140737488355328) (hbase : base ≤ w.heap.size) (hm : 0 < m) :
    ∃ g cap w', (Builtin.append_ #[t, t] ty #[v, .slice (some a) m c]).run P w = .ok (.slice (some ⟨g, 0, none⟩) (n + m) cap) w' ∧ w'.ownsRow base e size (.slice (some ⟨g, 0, none⟩) (n + m) cap) (n + m) (xs ++ news) ∧ w.grownBy w' v.ownBlock ∧
      (v.ownBlock = some g ∨ w.heap.size ≤ g) := by
  have hnew : ∀ v' w', (Builtin.append_ #[t, t] ty #[v, .slice (some a) m c]).run P w = .ok v' w' → w'.ownsRow w.heap.size e size v' (n + m) (xs ++ news) → w.grownBy w' none →
      ∃ g cap w', (Builtin.append_ #[t, t] ty #[v, .slice (some a) m c]).run P w = .ok (.slice (some ⟨g, 0, none⟩) (n + m) cap) w' ∧ w'.ownsRow base e size (.slice (some ⟨g, 0, none⟩) (n + m) cap) (n + m) (xs ++ news) ∧ w.grownBy w' v.ownBlock ∧
      (v.ownBlock = some g ∨ w.heap.size ≤ g) := by
    intro v' w' hrun ho hg
    rcases ho.2 with ⟨_, h0⟩ | ⟨g, cap, cur, rfl, hb, hg1, hc1, hc2, hc3, hc4⟩
    · omega
    · exact ⟨g, cap, w', hrun, ⟨ho.1, .inr ⟨g, cap, cur, rfl, Nat.le_trans hbase hb, hg1, hc1, hc2, hc3, hc4⟩⟩, ⟨hg.os, hg.tape, hg.output, hg.size, fun k hk _ => hg.block k hk (by simp)⟩, .inr hb⟩
  rcases hown.2 with ⟨rfl, rfl⟩ | ⟨g, cap, cur, rfl, hb, hg, hc1, hc2, hc3, hc4⟩
  · have hx0 : xs = [] := List.eq_nil_of_length_eq_zero (by simpa using hown.1)
    subst hx0
    obtain ⟨v', w', hrun, r1, r2, _⟩ := run_append_own (P := P) w w.heap.size t ty e i z size bytes ht hi hz hsize hby hzs hsz (.slice none 0 0) 0 [] (World.ownsRow_nil w _ e size) a m c news hl hnews h1 h63 hbytes (Nat.le_refl _)
    exact hnew v' w' hrun r1 r2
  · by_cases hr : n + m ≤ cap
    · obtain ⟨w', hrun, r1, r2⟩ := run_append_fits (P := P) w base t ty e i size ht hi hsize g n cap xs hown a m c news hl hnews h1 hr
      exact ⟨g, cap, w', hrun, r1, r2, .inl rfl⟩
    · obtain ⟨v', w', hrun, r1, r2⟩ := run_append_arg_grows (P := P) w t ty e i z size bytes ht hi hz hsize hby hzs hsz ⟨g, 0, none⟩ n cap xs hown.1 (hown.cells rfl) a m c news hl hnews (by omega) h63 hbytes
      exact hnew v' w' hrun r1 r2
end
section
variable {α : Type} (E : α → World → (Nat → Prop) → List Value → Prop) (ty sz : Nat)
/-- a row of the call's own, whose elements lie in blocks of S -/
structure OwnR (w : World) (base : Nat) (S : Nat → Prop) (v : Value) (l : List α) : Prop where
  row : ∃ xs, w.ownsRow base ty sz v l.length xs ∧ ∀ (j : Nat) (h : j < l.length), E l[j] w S ((xs.drop (j * sz)).take sz)
  off : ∀ b, S b → base ≤ b ∧ b < w.heap.size ∧ some b ≠ v.ownBlock
def KeepE : Prop := ∀ (x : α) (w w' : World) (S S' : Nat → Prop) (cs : List Value), (∀ b, S b → w'.heap[b]? = w.heap[b]?) → (∀ b, S b → S' b) → E x w S cs → E x w' S' cs
variable {E ty sz}
theorem OwnR.nil (w : World) (base : Nat) : OwnR E ty sz w base (fun _ => False) (.slice none 0 0) [] :=
  ⟨⟨[], World.ownsRow_nil w base ty sz, fun j h => by simp at h⟩, fun b h => h.elim⟩
theorem OwnR.keep (K : KeepE E) {w w' : World} {base : Nat} {S : Nat → Prop} {v : Value} {l : List α} {row : Option Nat} (h : OwnR E ty sz w base S v l) (hg : w.grownBy w' row) (hr : ∀ r, row = some r → ¬ S r ∧ v.ownBlock ≠ some r) : OwnR E ty sz w' base S v l := by
  obtain ⟨⟨xs, h1, h2⟩, h3⟩ := h
  have hb : ∀ b, S b → w'.heap[b]? = w.heap[b]? := fun b hb => hg.block b (h3 b hb).2.1 (fun e => (hr b e.symm).1 hb)
  refine ⟨⟨xs, h1.kept hg ?_, fun j hj => K _ _ _ _ _ _ hb (fun _ h => h) (h2 j hj)⟩, fun b hb => ⟨(h3 b hb).1, Nat.lt_of_lt_of_le (h3 b hb).2.1 hg.size, (h3 b hb).2.2⟩⟩
  cases hrow : row with
  | none =>
    cases hv : v.ownBlock with
    | none => exact .inl rfl
    | some g => exact .inr (by simp)
  | some r => exact .inr (hr r hrow).2
theorem OwnR.lt {w : World} {base : Nat} {S : Nat → Prop} {v : Value} {l : List α} (h : OwnR E ty sz w base S v l) {g : Nat} (hg : v.ownBlock = some g) : base ≤ g ∧ g < w.heap.size := by
  obtain ⟨⟨xs, h1, _⟩, _⟩ := h
  exact h1.lt g hg
theorem chunk_left {xs cx : List Value} {n j sz : Nat} (hl : xs.length = n * sz) (hj : j < n) : ((xs ++ cx).drop (j * sz)).take sz = (xs.drop (j * sz)).take sz := by
  have h : (j + 1) * sz ≤ n * sz := Nat.mul_le_mul_right _ hj
  rw [Nat.succ_mul] at h
  rw [List.drop_append_of_le_length (by omega), List.take_append_of_le_length (by simp; omega)]
theorem chunk_last {xs cx : List Value} {n sz : Nat} (hl : xs.length = n * sz) (hc : cx.length = sz) : ((xs ++ cx).drop (n * sz)).take sz = cx := by
  rw [← hl, List.drop_left, ← hc, List.take_length]
/-- one more -/
theorem OwnR.push (K : KeepE E) {w w' : World} {base : Nat} {S Sx : Nat → Prop} {v v' : Value} {l : List α} {x : α} {cx xs : List Value} 
    (h3 : ∀ b, S b → base ≤ b ∧ b < w.heap.size ∧ some b ≠ v.ownBlock) (h1 : w.ownsRow base ty sz v l.length xs) (h2 : ∀ (j : Nat) (h : j < l.length), E l[j] w S ((xs.drop (j * sz)).take sz))
    (hE : E x w Sx cx) (hSx : ∀ b, Sx b → base ≤ b ∧ b < w.heap.size ∧ some b ≠ v.ownBlock) (hcx : cx.length = sz)
    (ho : w'.ownsRow base ty sz v' (l.length + 1) (xs ++ cx)) (hg : w.grownBy w' v.ownBlock) (hn : v.ownBlock = v'.ownBlock ∨ ∀ g, v'.ownBlock = some g → w.heap.size ≤ g) :
    OwnR E ty sz w' base (fun b => S b ∨ Sx b) v' (l ++ [x]) := by
  have hall : ∀ b, S b ∨ Sx b → base ≤ b ∧ b < w.heap.size ∧ some b ≠ v.ownBlock := fun b hb => hb.elim (h3 b) (hSx b)
  have hb : ∀ b, S b ∨ Sx b → w'.heap[b]? = w.heap[b]? := fun b hb => hg.block b (hall b hb).2.1 (hall b hb).2.2
  refine ⟨⟨xs ++ cx, by simpa using ho, fun j hj => ?_⟩, fun b hS => ⟨(hall b hS).1, Nat.lt_of_lt_of_le (hall b hS).2.1 hg.size, ?_⟩⟩
  · by_cases hjl : j < l.length
    · rw [List.getElem_append_left hjl, chunk_left h1.1 hjl]
      exact K _ _ _ _ _ _ (fun b h => hb b (.inl h)) (fun _ h => .inl h) (h2 j hjl)
    · obtain rfl : j = l.length := by simp at hj; omega
      rw [chunk_last h1.1 hcx, List.getElem_append_right (by omega)]
      simpa using K _ _ _ _ _ _ (fun b h => hb b (.inr h)) (fun _ h => .inr h) hE
  · rcases hn with e | e
    · rw [← e]; exact (hall b hS).2.2
    · intro h
      have := e b h.symm
      have := (hall b hS).2.1
      omega
theorem cells_of_block {w : World} {tb : Nat} {cx : List Value} {t : TypeId} {fz : Nat × Nat} (hb : w.heap[tb]? = some (.cells cx.toArray t fz)) : ∀ j u, cx[j]? = some u → w.cell? ((⟨tb, 0, none⟩ : Addr).add j) = some u := by
  intro j u hu
  rw [Go.WideShapes.add_plain]
  simp [World.cell?, hb, hu]
/-- append's law on such a row -/
theorem run_push (K : KeepE E) (P : Program) (w : World) (base : Nat) (t rt : TypeId) (i : TypeInfo) (z : Value) (bytes : Nat) (ht : P.underlying t = some (.slice ty)) (hi : P.info? ty = some i) (hz : i.zero = some z)
    (hsize : i.size = sz) (hby : i.bytes = bytes) (hzs : z.cells.size = sz) (hsz : 0 < sz) (hb200 : bytes ≤ 200)
    {S Sx : Nat → Prop} {v : Value} {l : List α} (x : α) {cx : List Value} (hown : OwnR E ty sz w base S v l)
    (tb c : Nat) (fz : Nat × Nat) (htb : w.heap[tb]? = some (.cells cx.toArray ty fz)) (hcx : cx.length = sz) (h1c : ∀ u ∈ cx, u.oneCell' = true) (hE : E x w Sx cx) (hSx : ∀ b, Sx b → base ≤ b ∧ b < w.heap.size ∧ some b ≠ v.ownBlock)
    (hlen : l.length ≤ 4294967296) (hbase : base ≤ w.heap.size) :
    ∃ g cap w', (Builtin.append_ #[t, t] rt #[v, .slice (some ⟨tb, 0, none⟩) 1 c]).run P w = .ok (.slice (some ⟨g, 0, none⟩) (l.length + 1) cap) w' ∧
      OwnR E ty sz w' base (fun b => S b ∨ Sx b) (.slice (some ⟨g, 0, none⟩) (l.length + 1) cap) (l ++ [x]) ∧ w.grownBy w' v.ownBlock ∧ (v.ownBlock = some g ∨ w.heap.size ≤ g) := by
  obtain ⟨⟨xs, h1, h2⟩, h3⟩ := hown
  have hbb : (l.length + 1) * bytes ≤ 140737488355328 := by
    have := Nat.mul_le_mul (show l.length + 1 ≤ 4294967297 by omega) hb200
    omega
  obtain ⟨g, cap, w', hrun, r1, r2, r3⟩ := run_append_new (P := P) w base t rt ty i z sz bytes ht hi hz hsize hby hzs hsz v l.length xs h1 ⟨tb, 0, none⟩ 1 c cx (by omega) (cells_of_block htb) h1c (by simp only [maxLen]; omega) hbb hbase (by omega)
  refine ⟨g, cap, w', hrun, OwnR.push K h3 h1 h2 hE hSx hcx r1 r2 ?_, r2, r3⟩
  rcases r3 with e | e
  · exact .inl (by rw [e]; rfl)
  · exact .inr (fun g' hg' => by simp [Value.ownBlock] at hg'; omega)
end
section
variable {α : Type} {E : α → World → (Nat → Prop) → List Value → Prop} {ty sz : Nat} {P : Program}
theorem wpl_push (K : KeepE E) (w : World) {ops : Array Oper} {rest : List Oper} {o : Oper} {a : Act} {Q : Exit → Act → World → Prop} (hgd : o.guard = none) (s x : Operand) (t : TypeId)
    (ho : o.op = .call { callee := .builtin .append, args := #[s, x], argTypes := #[t, t] })
    (base : Nat) (i : TypeInfo) (z : Value) (bytes : Nat) (ht : P.underlying t = some (.slice ty)) (hi : P.info? ty = some i) (hz : i.zero = some z)
    (hsize : i.size = sz) (hby : i.bytes = bytes) (hzs : z.cells.size = sz) (hsz : 0 < sz) (hb200 : bytes ≤ 200)
    {S Sx : Nat → Prop} (v : Value) {l : List α} (y : α) {cx : List Value} (hs : a.eval s = v) (hown : OwnR E ty sz w base S v l)
    (tb c : Nat) (fz : Nat × Nat) (hx : a.eval x = .slice (some ⟨tb, 0, none⟩) 1 c) (htb : w.heap[tb]? = some (.cells cx.toArray ty fz)) (hcx : cx.length = sz) (h1c : ∀ u ∈ cx, u.oneCell' = true) (hE : E y w Sx cx) (hSx : ∀ b, Sx b → base ≤ b ∧ b < w.heap.size ∧ some b ≠ v.ownBlock)
    (hlen : l.length ≤ 4294967296) (hbase : base ≤ w.heap.size)
    (h : ∀ g cap w', OwnR E ty sz w' base (fun b => S b ∨ Sx b) (.slice (some ⟨g, 0, none⟩) (l.length + 1) cap) (l ++ [y]) → w.grownBy w' v.ownBlock → (v.ownBlock = some g ∨ w.heap.size ≤ g) → wpList P ops Q rest (a.put o.dst (.slice (some ⟨g, 0, none⟩) (l.length + 1) cap)) w') : wpList P ops Q (o :: rest) a w := by
  refine wpList_plain hgd fun K' hK' => ?_
  obtain ⟨g, cap, w', hrun, r1, r2, r3⟩ := run_push K P w base t o.type i z bytes ht hi hz hsize hby hzs hsz hb200 y hown tb c fz htb hcx h1c hE hSx hlen hbase
  unfold Oper.wp
  simp [execOp, ho, resolve, invoke, builtin, hs, hx, hrun, Result.andThen]
  exact hK' _ _ (h g cap w' r1 r2 r3)
end
/-- an element of a list that is being made: a value, or a mark -/
def EL (R : Bool) (x : Option V) (w : World) (S : Nat → Prop) (cs : List Value) : Prop :=
  match x with
  | some v => v.lies R w S cs
  | none => cs = [.int .i64 77, .bool false, .int .i64 0, .string ⟨#[]⟩, .slice none 0 0, .slice none 0 0]
def EM (R : Bool) (x : Option Mem) (w : World) (S : Nat → Prop) (cs : List Value) : Prop :=
  match x with
  | some m => ∃ cs', cs = .string m.1 :: cs' ∧ m.1.size ≤ maxLen ∧ m.2.lies R w S cs'
  | none => cs = [.string ⟨#[114, 111, 111, 109]⟩, .int .i64 0, .bool false, .int .i64 0, .string ⟨#[]⟩, .slice none 0 0, .slice none 0 0]
theorem keepM (R : Bool) : KeepE (EM R) := by
  intro x w w' S S' cs hw hS h
  cases x with
  | none => exact h
  | some v =>
    obtain ⟨cs', e, hk, h⟩ := h
    exact ⟨cs', e, hk, V.lies_keep (fun h => h) hw hS v.2 h⟩
abbrev OwnL (R : Bool) := OwnR (EL R) 46 6
abbrev OwnM (R : Bool) := OwnR (EM R) 50 7
theorem info44 : (Tryz.prog.info? 50).map (fun i => (i.zero, i.size, i.bytes)) = some (some (.agg #[.string ⟨#[]⟩, .int .i64 0, .bool false, .int .i64 0, .string ⟨#[]⟩, .slice none 0 0, .slice none 0 0]), 7, 104) := by kernel_rfl
end Go.Proofs.YtihcggepeadklaaGreatDoor
