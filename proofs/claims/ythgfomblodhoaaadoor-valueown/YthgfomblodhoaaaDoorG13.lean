/- joined: OwnA OwnT -/
import Derived.Test.YthgfomblodhoaaaDoorG12
/- Values each of whose lists and maps lies in a block of its own. -/
set_option linter.unusedSimpArgs false
set_option linter.unusedVariables false
namespace Go.Proofs.YthgfomblodhoaaaDoor
open Go.ChangeShapes Go.WideShapes Go.Deep Go.RowKit Go.Lib
/-- no spare room: the list ends where its block ends -/
def RoomL (w : World) (c n b : Nat) : Prop := c = n ∧ (0 < n → Blk b 25 (n * 6) w)
def RoomM (w : World) (c n b : Nat) : Prop := c = n ∧ (0 < n → Blk b 38 (n * 7) w)
theorem RoomL.keep {w w' : World} {c n b : Nat} (h : RoomL w c n b) (e : 0 < n → w'.heap[b]? = w.heap[b]?) : RoomL w' c n b := ⟨h.1, fun x => (h.2 x).keep (e x)⟩
theorem RoomM.keep {w w' : World} {c n b : Nat} (h : RoomM w c n b) (e : 0 < n → w'.heap[b]? = w.heap[b]?) : RoomM w' c n b := ⟨h.1, fun x => (h.2 x).keep (e x)⟩
mutual
/-- all lists and maps of the value lie in blocks of [lo, hi), each for itself -/
def V.ap (w : World) : V → Nat → Nat → List Value → Prop
  | .mk k b i s l m, lo, hi, cs => ∃ al cl bl am cm bm l1 l2 m1 m2 e1 e2 f1 f2, cs = [.int .i64 k, .bool b, .int .i64 i, .string s, .slice al l.length cl, .slice am m.length cm] ∧ In64 k ∧ In64 i ∧ s.size ≤ maxLen ∧
      Headed al l.length cl bl 0 ∧ Headed am m.length cm bm 0 ∧ RoomL w cl l.length bl ∧ RoomM w cm m.length bm ∧ lo ≤ l1 ∧ l2 ≤ hi ∧ lo ≤ m1 ∧ m2 ≤ hi ∧ (l2 ≤ m1 ∨ m2 ≤ l1) ∧ l1 ≤ e1 ∧ e2 ≤ l2 ∧ m1 ≤ f1 ∧ f2 ≤ m2 ∧
      (0 < l.length → l1 ≤ bl ∧ bl < l2 ∧ (bl < e1 ∨ e2 ≤ bl)) ∧ (0 < m.length → m1 ≤ bm ∧ bm < m2 ∧ (bm < f1 ∨ f2 ≤ bm)) ∧ apE w l e1 e2 bl 0 ∧ apF w m f1 f2 bm 0
def apE (w : World) : List V → Nat → Nat → Nat → Nat → Prop
  | [], _, _, _, _ => True
  | x :: t, lo, hi, b, o => ∃ mid, lo ≤ mid ∧ mid ≤ hi ∧ (∃ cs, rowAt w b o cs ∧ x.ap w lo mid cs) ∧ apE w t mid hi b (o + 6)
def apF (w : World) : List Mem → Nat → Nat → Nat → Nat → Prop
  | [], _, _, _, _ => True
  | (k, x) :: t, lo, hi, b, o => ∃ mid, lo ≤ mid ∧ mid ≤ hi ∧ (k.size ≤ maxLen ∧ ∃ cs, rowAt w b o (.string k :: cs) ∧ x.ap w lo mid cs) ∧ apF w t mid hi b (o + 7)
end
mutual
/-- what lies apart lies -/
theorem V.ap_lies {w : World} : ∀ (v : V) {lo hi : Nat} {cs : List Value}, v.ap w lo hi cs → v.lies false w (fun y => lo ≤ y ∧ y < hi) cs
  | .mk k b i s l m, lo, hi, cs, h => by
    rw [V.ap] at h
    obtain ⟨al, cl, bl, am, cm, bm, l1, l2, m1, m2, e1, e2, f1, f2, e, h1, h2, h0, h3, h4, r3, r4, a1, a2, a3, a4, a5, a6, a7, a8, a9, b1, b2, h5, h6⟩ := h
    rw [V.lies]
    refine ⟨al, cl, bl, 0, am, cm, bm, 0, e, h1, h2, h0, h3, h4, ?_, ?_, fun h => by cases h⟩
    · exact apE_lies l (fun h => ⟨by have := b1 h; omega, by have := b1 h; omega⟩) (by omega) (by omega) h5
    · exact apF_lies m (fun h => ⟨by have := b2 h; omega, by have := b2 h; omega⟩) (by omega) (by omega) h6
theorem apE_lies {w : World} {lo hi : Nat} : ∀ (l : List V) {e1 e2 b o : Nat}, (0 < l.length → lo ≤ b ∧ b < hi) → lo ≤ e1 → e2 ≤ hi → apE w l e1 e2 b o → liesL false w (fun y => lo ≤ y ∧ y < hi) l b o
  | [], e1, e2, b, o, _, _, _, _ => by rw [liesL]; trivial
  | x :: t, e1, e2, b, o, hb, h1, h2, h => by
    rw [apE] at h
    obtain ⟨mid, c1, c2, ⟨cs, r, hx⟩, ht⟩ := h
    rw [liesL]
    exact ⟨hb (by simp), ⟨cs, r, V.lies_keep (fun h => h) (fun _ _ => rfl) (fun y hy => ⟨by have := hy.1; omega, by have := hy.2; omega⟩) _ (V.ap_lies x hx)⟩, apE_lies t (fun _ => hb (by simp)) (by omega) h2 ht⟩
theorem apF_lies {w : World} {lo hi : Nat} : ∀ (l : List Mem) {e1 e2 b o : Nat}, (0 < l.length → lo ≤ b ∧ b < hi) → lo ≤ e1 → e2 ≤ hi → apF w l e1 e2 b o → liesM false w (fun y => lo ≤ y ∧ y < hi) l b o
  | [], e1, e2, b, o, _, _, _, _ => by rw [liesM]; trivial
  | (k, x) :: t, e1, e2, b, o, hb, h1, h2, h => by
    rw [apF] at h
    obtain ⟨mid, c1, c2, ⟨hk, cs, r, hx⟩, ht⟩ := h
    rw [liesM]
    exact ⟨hb (by simp), ⟨hk, cs, r, V.lies_keep (fun h => h) (fun _ _ => rfl) (fun y hy => ⟨by have := hy.1; omega, by have := hy.2; omega⟩) _ (V.ap_lies x hx)⟩, apF_lies t (fun _ => hb (by simp)) (by omega) h2 ht⟩
end
mutual
theorem V.ap_keep {w w' : World} : ∀ (v : V) {lo hi : Nat} {cs : List Value}, (∀ b, lo ≤ b → b < hi → w'.heap[b]? = w.heap[b]?) → v.ap w lo hi cs → v.ap w' lo hi cs
  | .mk k b i s l m, lo, hi, cs, hw, h => by
    rw [V.ap] at h ⊢
    obtain ⟨al, cl, bl, am, cm, bm, l1, l2, m1, m2, e1, e2, f1, f2, e, h1, h2, h0, h3, h4, r3, r4, a1, a2, a3, a4, a5, a6, a7, a8, a9, b1, b2, h5, h6⟩ := h
    refine ⟨al, cl, bl, am, cm, bm, l1, l2, m1, m2, e1, e2, f1, f2, e, h1, h2, h0, h3, h4, r3.keep (fun h => hw bl (by have := b1 h; omega) (by have := b1 h; omega)), r4.keep (fun h => hw bm (by have := b2 h; omega) (by have := b2 h; omega)), a1, a2, a3, a4, a5, a6, a7, a8, a9, b1, b2, ?_, ?_⟩
    · exact apE_keep l (fun h => hw bl (by have := b1 h; omega) (by have := b1 h; omega)) (fun y h1 h2 => hw y (by omega) (by omega)) h5
    · exact apF_keep m (fun h => hw bm (by have := b2 h; omega) (by have := b2 h; omega)) (fun y h1 h2 => hw y (by omega) (by omega)) h6
theorem apE_keep {w w' : World} : ∀ (l : List V) {e1 e2 b o : Nat}, (0 < l.length → w'.heap[b]? = w.heap[b]?) → (∀ y, e1 ≤ y → y < e2 → w'.heap[y]? = w.heap[y]?) → apE w l e1 e2 b o → apE w' l e1 e2 b o
  | [], e1, e2, b, o, _, _, _ => by rw [apE]; trivial
  | x :: t, e1, e2, b, o, hb, hw, h => by
    rw [apE] at h ⊢
    obtain ⟨mid, c1, c2, ⟨cs, r, hx⟩, ht⟩ := h
    exact ⟨mid, c1, c2, ⟨cs, r.keep (hb (by simp)), V.ap_keep x (fun y h1 h2 => hw y h1 (by omega)) hx⟩, apE_keep t (fun _ => hb (by simp)) (fun y h1 h2 => hw y (by omega) h2) ht⟩
theorem apF_keep {w w' : World} : ∀ (l : List Mem) {e1 e2 b o : Nat}, (0 < l.length → w'.heap[b]? = w.heap[b]?) → (∀ y, e1 ≤ y → y < e2 → w'.heap[y]? = w.heap[y]?) → apF w l e1 e2 b o → apF w' l e1 e2 b o
  | [], e1, e2, b, o, _, _, _ => by rw [apF]; trivial
  | (k, x) :: t, e1, e2, b, o, hb, hw, h => by
    rw [apF] at h ⊢
    obtain ⟨mid, c1, c2, ⟨hk, cs, r, hx⟩, ht⟩ := h
    exact ⟨mid, c1, c2, ⟨hk, cs, r.keep (hb (by simp)), V.ap_keep x (fun y h1 h2 => hw y h1 (by omega)) hx⟩, apF_keep t (fun _ => hb (by simp)) (fun y h1 h2 => hw y (by omega) h2) ht⟩
end
theorem V.ap_wide {w : World} {v : V} {lo hi lo' hi' : Nat} {cs : List Value} (h : v.ap w lo hi cs) (h1 : lo' ≤ lo) (h2 : hi ≤ hi') : v.ap w lo' hi' cs := by
  obtain ⟨k, b, i, s, l, m⟩ := v
  rw [V.ap] at h ⊢
  obtain ⟨al, cl, bl, am, cm, bm, l1, l2, m1, m2, e1, e2, f1, f2, e, g1, g2, g0, g3, g4, g5, g6, a1, a2, a3, a4, r⟩ := h
  exact ⟨al, cl, bl, am, cm, bm, l1, l2, m1, m2, e1, e2, f1, f2, e, g1, g2, g0, g3, g4, g5, g6, by omega, by omega, by omega, by omega, r⟩
/-- elements by their places: bounds that rise -/
theorem apE_mk {w : World} : ∀ {l : List V} {b o : Nat} (B : Nat → Nat), (∀ i, i < l.length → B i ≤ B (i + 1)) → (∀ (i : Nat) (h : i < l.length), ∃ cs, rowAt w b (o + i * 6) cs ∧ (l[i]).ap w (B i) (B (i + 1)) cs) → apE w l (B 0) (B l.length) b o
  | [], b, o, B, _, _ => by rw [apE]; trivial
  | x :: t, b, o, B, hB, h => by
    rw [apE]
    have h0 := h 0 (by simp)
    have hm : ∀ n, n ≤ t.length → B 1 ≤ B (n + 1) := fun n => by
      induction n with
      | zero => intro _; exact Nat.le_refl _
      | succ n ih => intro hn; exact Nat.le_trans (ih (by omega)) (hB (n + 1) (by simp; omega))
    refine ⟨B 1, hB 0 (by simp), hm t.length (Nat.le_refl _), by simpa using h0, ?_⟩
    have := apE_mk (l := t) (b := b) (o := o + 6) (fun n => B (n + 1)) (fun i hi => hB (i + 1) (by simp; omega)) (fun i hi => by
      have := h (i + 1) (by simp; omega)
      rw [show o + (i + 1) * 6 = o + 6 + i * 6 by omega] at this
      simpa using this)
    simpa using this
theorem apF_mk {w : World} : ∀ {l : List Mem} {b o : Nat} (B : Nat → Nat), (∀ i, i < l.length → B i ≤ B (i + 1)) → (∀ (i : Nat) (h : i < l.length), (l[i]).1.size ≤ maxLen ∧ ∃ cs, rowAt w b (o + i * 7) (.string (l[i]).1 :: cs) ∧ (l[i]).2.ap w (B i) (B (i + 1)) cs) → apF w l (B 0) (B l.length) b o
  | [], b, o, B, _, _ => by rw [apF]; trivial
  | (k, x) :: t, b, o, B, hB, h => by
    rw [apF]
    have h0 := h 0 (by simp)
    have hm : ∀ n, n ≤ t.length → B 1 ≤ B (n + 1) := fun n => by
      induction n with
      | zero => intro _; exact Nat.le_refl _
      | succ n ih => intro hn; exact Nat.le_trans (ih (by omega)) (hB (n + 1) (by simp; omega))
    refine ⟨B 1, hB 0 (by simp), hm t.length (Nat.le_refl _), by simpa using h0, ?_⟩
    have := apF_mk (l := t) (b := b) (o := o + 7) (fun n => B (n + 1)) (fun i hi => hB (i + 1) (by simp; omega)) (fun i hi => by
      have := h (i + 1) (by simp; omega)
      rw [show o + (i + 1) * 7 = o + 7 + i * 7 by omega] at this
      simpa using this)
    simpa using this
end Go.Proofs.YthgfomblodhoaaaDoor
/- The lists and maps of a value, each named, the deepest first; those of a value that lies apart lie in unlike blocks. -/
namespace Go.Proofs.YthgfomblodhoaaaDoor
open Go.RowKit Go.Lib
mutual
/-- the slices of a value's lists and maps, the deepest first; what is read lies in S -/
def V.tk (w : World) (S : Nat → Prop) : V → List Value → List Value → List Value → Prop
  | .mk k b i s l m, cs, xs, ys => ∃ al cl bl ol am cm bm om x1 y1 x2 y2, cs = [.int .i64 k, .bool b, .int .i64 i, .string s, .slice al l.length cl, .slice am m.length cm] ∧ Headed al l.length cl bl ol ∧ Headed am m.length cm bm om ∧
      tkE w S l bl ol x1 y1 ∧ tkF w S m bm om x2 y2 ∧ xs = x1 ++ x2 ++ [.slice al l.length cl] ∧ ys = y1 ++ y2 ++ [.slice am m.length cm]
def tkE (w : World) (S : Nat → Prop) : List V → Nat → Nat → List Value → List Value → Prop
  | [], _, _, xs, ys => xs = [] ∧ ys = []
  | x :: t, b, o, xs, ys => S b ∧ ∃ cs x1 y1 x2 y2, rowAt w b o cs ∧ x.tk w S cs x1 y1 ∧ tkE w S t b (o + 6) x2 y2 ∧ xs = x1 ++ x2 ∧ ys = y1 ++ y2
def tkF (w : World) (S : Nat → Prop) : List Mem → Nat → Nat → List Value → List Value → Prop
  | [], _, _, xs, ys => xs = [] ∧ ys = []
  | (k, x) :: t, b, o, xs, ys => S b ∧ ∃ cs x1 y1 x2 y2, rowAt w b o (.string k :: cs) ∧ x.tk w S cs x1 y1 ∧ tkF w S t b (o + 7) x2 y2 ∧ xs = x1 ++ x2 ∧ ys = y1 ++ y2
end
mutual
theorem V.tk_keep {w w' : World} {S S' : Nat → Prop} (hw : ∀ y, S y → w'.heap[y]? = w.heap[y]?) (hS : ∀ y, S y → S' y) : ∀ (v : V) {cs xs ys : List Value}, v.tk w S cs xs ys → v.tk w' S' cs xs ys
  | .mk k b i s l m, cs, xs, ys, h => by
    rw [V.tk] at h ⊢
    obtain ⟨al, cl, bl, ol, am, cm, bm, om, x1, y1, x2, y2, e, h1, h2, h3, h4, e1, e2⟩ := h
    exact ⟨al, cl, bl, ol, am, cm, bm, om, x1, y1, x2, y2, e, h1, h2, tkE_keep hw hS l h3, tkF_keep hw hS m h4, e1, e2⟩
theorem tkE_keep {w w' : World} {S S' : Nat → Prop} (hw : ∀ y, S y → w'.heap[y]? = w.heap[y]?) (hS : ∀ y, S y → S' y) : ∀ (l : List V) {b o : Nat} {xs ys : List Value}, tkE w S l b o xs ys → tkE w' S' l b o xs ys
  | [], b, o, xs, ys, h => by rw [tkE] at h ⊢; exact h
  | x :: t, b, o, xs, ys, h => by
    rw [tkE] at h ⊢
    obtain ⟨hb, cs, x1, y1, x2, y2, r, h1, h2, e1, e2⟩ := h
    exact ⟨hS _ hb, cs, x1, y1, x2, y2, r.keep (hw _ hb), V.tk_keep hw hS x h1, tkE_keep hw hS t h2, e1, e2⟩
theorem tkF_keep {w w' : World} {S S' : Nat → Prop} (hw : ∀ y, S y → w'.heap[y]? = w.heap[y]?) (hS : ∀ y, S y → S' y) : ∀ (l : List Mem) {b o : Nat} {xs ys : List Value}, tkF w S l b o xs ys → tkF w' S' l b o xs ys
  | [], b, o, xs, ys, h => by rw [tkF] at h ⊢; exact h
  | (k, x) :: t, b, o, xs, ys, h => by
    rw [tkF] at h ⊢
    obtain ⟨hb, cs, x1, y1, x2, y2, r, h1, h2, e1, e2⟩ := h
    exact ⟨hS _ hb, cs, x1, y1, x2, y2, r.keep (hw _ hb), V.tk_keep hw hS x h1, tkF_keep hw hS t h2, e1, e2⟩
end
/-- the block of a slice that has room -/
def sblk : Value → Option Nat
  | .slice (some a) _ (_ + 1) => some a.block
  | _ => none
def blks (xs ys : List Value) : List Nat := xs.filterMap sblk ++ ys.filterMap sblk
/-- a slice without room, or one that has a block for itself, no longer than its room -/
def SlR (w : World) (ty sz : Nat) (s : Value) : Prop := ∃ a n c b, s = .slice a n c ∧ n ≤ c ∧ c ≤ maxLen ∧ n ≤ 4294967296 ∧ (c = 0 ∨ (a = some ⟨b, 0, none⟩ ∧ Blk b ty (c * sz) w))
theorem SlR.keep {w w' : World} {ty sz : Nat} {s : Value} (h : SlR w ty sz s) (k : ∀ b, sblk s = some b → w'.heap[b]? = w.heap[b]?) : SlR w' ty sz s := by
  obtain ⟨a, n, c, b, rfl, h1, h2, h3, h4⟩ := h
  refine ⟨a, n, c, b, rfl, h1, h2, h3, ?_⟩
  rcases h4 with h4 | ⟨rfl, h4⟩
  · exact .inl h4
  · cases c with
    | zero => exact .inl rfl
    | succ c => exact .inr ⟨rfl, h4.keep (k b rfl)⟩
theorem sblk_some {g n cap : Nat} (hn : 0 < cap) : sblk (.slice (some ⟨g, 0, none⟩) n cap) = some g := by
  obtain ⟨n0, rfl⟩ : ∃ n0, cap = n0 + 1 := ⟨cap - 1, by omega⟩
  rfl
theorem sblk_inj {g g' n cap : Nat} (h : sblk (.slice (some ⟨g, 0, none⟩) n cap) = some g') : g = g' := by
  cases cap with
  | zero => simp [sblk] at h
  | succ c => simpa [sblk] using h
theorem sblk_zero {a : Option Addr} {n : Nat} : sblk (.slice a n 0) = none := by cases a <;> rfl
theorem SlR.blk {w : World} {ty sz : Nat} {a : Option Addr} {n c x : Nat} (h : SlR w ty sz (.slice a n c)) (hx : sblk (.slice a n c) = some x) : a = some ⟨x, 0, none⟩ ∧ Blk x ty (c * sz) w ∧ 0 < c := by
  obtain ⟨a', n', c', b, e, h1, h2, h3, h4⟩ := h
  simp only [Value.slice.injEq] at e
  obtain ⟨rfl, rfl, rfl⟩ := e
  rcases h4 with rfl | ⟨rfl, h4⟩
  · rw [sblk_zero] at hx; cases hx
  · obtain rfl := sblk_inj hx
    refine ⟨rfl, h4, ?_⟩
    cases c with
    | zero => simp [sblk] at hx
    | succ c => omega
theorem SlR.room {w : World} {ty sz : Nat} {a : Option Addr} {n c : Nat} (h : SlR w ty sz (.slice a n c)) (hc : 0 < c) : ∃ x, sblk (.slice a n c) = some x ∧ a = some ⟨x, 0, none⟩ ∧ Blk x ty (c * sz) w := by
  obtain ⟨a', n', c', b, e, h1, h2, h3, h4⟩ := h
  simp only [Value.slice.injEq] at e
  obtain ⟨rfl, rfl, rfl⟩ := e
  rcases h4 with rfl | ⟨rfl, h4⟩
  · omega
  · exact ⟨b, sblk_some hc, rfl, h4⟩
/-- lists and maps in unlike blocks of S -/
structure Unl (w : World) (S : Nat → Prop) (xs ys : List Value) : Prop where
  len : xs.length = ys.length
  l : ∀ s ∈ xs, SlR w 25 6 s
  m : ∀ s ∈ ys, SlR w 38 7 s
  r : ∀ b ∈ blks xs ys, S b
  n : (blks xs ys).Nodup
theorem Unl.nil (w : World) (S : Nat → Prop) : Unl w S [] [] := ⟨rfl, fun _ h => by simp at h, fun _ h => by simp at h, fun _ h => by simp [blks] at h, by simp [blks]⟩
theorem Unl.mono {w : World} {S S' : Nat → Prop} {xs ys : List Value} (h : Unl w S xs ys) (hs : ∀ b, S b → S' b) : Unl w S' xs ys := ⟨h.len, h.l, h.m, fun b hb => hs b (h.r b hb), h.n⟩
theorem mem_blks {xs ys : List Value} {b : Nat} : b ∈ blks xs ys ↔ b ∈ xs.filterMap sblk ∨ b ∈ ys.filterMap sblk := by rw [blks, List.mem_append]
theorem Unl.app {w : World} {S S' : Nat → Prop} {xs ys xs' ys' : List Value} (h : Unl w S xs ys) (h' : Unl w S' xs' ys') (hd : ∀ b, S b → S' b → False) : Unl w (fun b => S b ∨ S' b) (xs ++ xs') (ys ++ ys') := by
  refine ⟨by rw [List.length_append, List.length_append, h.len, h'.len], fun s hs => ?_, fun s hs => ?_, fun b hb => ?_, ?_⟩
  · rcases List.mem_append.1 hs with hs | hs
    · exact h.l s hs
    · exact h'.l s hs
  · rcases List.mem_append.1 hs with hs | hs
    · exact h.m s hs
    · exact h'.m s hs
  · rw [mem_blks, List.filterMap_append, List.filterMap_append, List.mem_append, List.mem_append] at hb
    rcases hb with (hb | hb) | (hb | hb)
    · exact .inl (h.r b (mem_blks.2 (.inl hb)))
    · exact .inr (h'.r b (mem_blks.2 (.inl hb)))
    · exact .inl (h.r b (mem_blks.2 (.inr hb)))
    · exact .inr (h'.r b (mem_blks.2 (.inr hb)))
  · have n1 := h.n
    have n2 := h'.n
    have d : ∀ a ∈ blks xs ys, ∀ b ∈ blks xs' ys', a ≠ b := fun a ha b hb e => hd a (h.r a ha) (by rw [e]; exact h'.r b hb)
    unfold blks at n1 n2 d ⊢
    rw [List.filterMap_append, List.filterMap_append]
    have p : List.Perm (xs.filterMap sblk ++ xs'.filterMap sblk ++ (ys.filterMap sblk ++ ys'.filterMap sblk)) (xs.filterMap sblk ++ ys.filterMap sblk ++ (xs'.filterMap sblk ++ ys'.filterMap sblk)) := by
      rw [List.append_assoc, List.append_assoc]
      refine List.Perm.append_left _ ?_
      rw [← List.append_assoc, ← List.append_assoc]
      exact List.Perm.append_right _ List.perm_append_comm
    rw [p.nodup_iff, List.nodup_append]
    exact ⟨n1, n2, d⟩
theorem slr_l {w : World} {a : Option Addr} {n c b : Nat} (h : Headed a n c b 0) (r : RoomL w c n b) (hn : n ≤ 4294967296) : SlR w 25 6 (.slice a n c) := by
  obtain ⟨rfl, r⟩ := r
  refine ⟨a, c, c, b, rfl, Nat.le_refl _, h.max, hn, ?_⟩
  by_cases hc : c = 0
  · exact .inl hc
  · exact .inr ⟨h.at_.resolve_left hc, r (by omega)⟩
theorem slr_m {w : World} {a : Option Addr} {n c b : Nat} (h : Headed a n c b 0) (r : RoomM w c n b) (hn : n ≤ 4294967296) : SlR w 38 7 (.slice a n c) := by
  obtain ⟨rfl, r⟩ := r
  refine ⟨a, c, c, b, rfl, Nat.le_refl _, h.max, hn, ?_⟩
  by_cases hc : c = 0
  · exact .inl hc
  · exact .inr ⟨h.at_.resolve_left hc, r (by omega)⟩
/-- one list and one map -/
theorem Unl.two {w : World} {S : Nat → Prop} {x y : Value} (hx : SlR w 25 6 x) (hy : SlR w 38 7 y) (h1 : ∀ b, sblk x = some b → S b) (h2 : ∀ b, sblk y = some b → S b) (hn : ∀ b, sblk x = some b → sblk y = some b → False) : Unl w S [x] [y] := by
  refine ⟨rfl, fun s hs => ?_, fun s hs => ?_, fun b hb => ?_, ?_⟩
  · rw [List.mem_singleton] at hs; subst hs; exact hx
  · rw [List.mem_singleton] at hs; subst hs; exact hy
  · rw [mem_blks] at hb
    rcases hb with hb | hb
    · simp only [List.mem_filterMap, List.mem_singleton] at hb
      obtain ⟨_, rfl, e⟩ := hb
      exact h1 b e
    · simp only [List.mem_filterMap, List.mem_singleton] at hb
      obtain ⟨_, rfl, e⟩ := hb
      exact h2 b e
  · unfold blks
    cases e1 : sblk x with
    | none => cases e2 : sblk y <;> simp [e1, e2]
    | some p =>
      cases e2 : sblk y with
      | none => simp [e1, e2]
      | some q =>
        have : p ≠ q := fun e => hn p e1 (by rw [e2, e])
        simp [e1, e2, this]
theorem sblk_headed {a : Option Addr} {n c b : Nat} (h : Headed a n c b 0) (hc : c = n) {x : Nat} (hx : sblk (.slice a n c) = some x) : 0 < n ∧ x = b := by
  subst hc
  rcases c with _ | n
  · rw [sblk_zero] at hx; cases hx
  · obtain rfl : a = some ⟨b, 0, none⟩ := h.at_.resolve_left (by omega)
    exact ⟨by omega, (sblk_inj hx).symm⟩
theorem Unl.one {w : World} {al am : Option Addr} {nl cl bl nm cm bm : Nat} (h1 : Headed al nl cl bl 0) (r1 : RoomL w cl nl bl) (h2 : Headed am nm cm bm 0) (r2 : RoomM w cm nm bm) (hn : 0 < nl → 0 < nm → bl ≠ bm) (b1 : nl ≤ 4294967296) (b2 : nm ≤ 4294967296) : Unl w (fun b => (0 < nl ∧ b = bl) ∨ (0 < nm ∧ b = bm)) [.slice al nl cl] [.slice am nm cm] :=
  Unl.two (slr_l h1 r1 b1) (slr_m h2 r2 b2) (fun b e => .inl (sblk_headed h1 r1.1 e)) (fun b e => .inr (sblk_headed h2 r2.1 e)) (fun b e1 e2 => by
    obtain ⟨p1, q1⟩ := sblk_headed h1 r1.1 e1
    obtain ⟨p2, q2⟩ := sblk_headed h2 r2.1 e2
    exact hn p1 p2 (by rw [← q1, ← q2]))
mutual
/-- what lies apart: its lists and maps are in unlike blocks -/
theorem V.ap_tk {w : World} : ∀ (v : V) {lo hi : Nat} {cs : List Value}, v.wt ≤ 4294967296 → v.ap w lo hi cs → ∃ xs ys, v.tk w (fun y => lo ≤ y ∧ y < hi) cs xs ys ∧ Unl w (fun y => lo ≤ y ∧ y < hi) xs ys
  | .mk k b i s l m, lo, hi, cs, hw, h => by
    rw [V.wt] at hw
    have hll := wtL_len l
    have hml := wtM_len m
    rw [V.ap] at h
    obtain ⟨al, cl, bl, am, cm, bm, l1, l2, m1, m2, e1, e2, f1, f2, e, h1, h2, h0, h3, h4, r3, r4, a1, a2, a3, a4, a5, a6, a7, a8, a9, b1, b2, h5, h6⟩ := h
    obtain ⟨x1, y1, t1, u1⟩ := apE_tk (lo := lo) (hi := hi) l (by omega) (fun h => ⟨by have := b1 h; omega, by have := b1 h; omega⟩) (by omega) (by omega) h5
    obtain ⟨x2, y2, t2, u2⟩ := apF_tk (lo := lo) (hi := hi) m (by omega) (fun h => ⟨by have := b2 h; omega, by have := b2 h; omega⟩) (by omega) (by omega) h6
    refine ⟨x1 ++ x2 ++ [.slice al l.length cl], y1 ++ y2 ++ [.slice am m.length cm], ?_, ?_⟩
    · rw [V.tk]
      exact ⟨al, cl, bl, 0, am, cm, bm, 0, x1, y1, x2, y2, e, h3, h4, t1, t2, rfl, rfl⟩
    · have u3 := Unl.one h3 r3 h4 r4 (fun p q => by have := b1 p; have := b2 q; omega) (by omega) (by omega)
      refine ((u1.app u2 (fun b p q => by omega)).app u3 (fun b p q => ?_)).mono (fun b p => ?_)
      · rcases q with ⟨q, rfl⟩ | ⟨q, rfl⟩
        · have := b1 q; omega
        · have := b2 q; omega
      · rcases p with (p | p) | (⟨p, rfl⟩ | ⟨p, rfl⟩)
        · omega
        · omega
        · have := b1 p; omega
        · have := b2 p; omega
theorem apE_tk {w : World} {lo hi : Nat} : ∀ (l : List V) {e1 e2 b o : Nat}, wtL l ≤ 4294967296 → (0 < l.length → lo ≤ b ∧ b < hi) → lo ≤ e1 → e2 ≤ hi → apE w l e1 e2 b o → ∃ xs ys, tkE w (fun y => lo ≤ y ∧ y < hi) l b o xs ys ∧ Unl w (fun y => e1 ≤ y ∧ y < e2) xs ys
  | [], e1, e2, b, o, _, _, _, _, _ => ⟨[], [], by rw [tkE]; exact ⟨rfl, rfl⟩, Unl.nil _ _⟩
  | x :: t, e1, e2, b, o, hw, hb, h1, h2, h => by
    rw [wtL] at hw
    rw [apE] at h
    obtain ⟨mid, c1, c2, ⟨cs, r, hx⟩, ht⟩ := h
    obtain ⟨x1, y1, t1, u1⟩ := V.ap_tk x (by omega) hx
    obtain ⟨x2, y2, t2, u2⟩ := apE_tk (lo := lo) (hi := hi) t (by omega) (fun _ => hb (by simp)) (by omega) h2 ht
    refine ⟨x1 ++ x2, y1 ++ y2, ?_, (u1.app u2 (fun b p q => by omega)).mono (fun b p => by omega)⟩
    rw [tkE]
    exact ⟨hb (by simp), cs, x1, y1, x2, y2, r, V.tk_keep (fun _ _ => rfl) (fun y p => ⟨by have := p.1; omega, by have := p.2; omega⟩) x t1, t2, rfl, rfl⟩
theorem apF_tk {w : World} {lo hi : Nat} : ∀ (l : List Mem) {e1 e2 b o : Nat}, wtM l ≤ 4294967296 → (0 < l.length → lo ≤ b ∧ b < hi) → lo ≤ e1 → e2 ≤ hi → apF w l e1 e2 b o → ∃ xs ys, tkF w (fun y => lo ≤ y ∧ y < hi) l b o xs ys ∧ Unl w (fun y => e1 ≤ y ∧ y < e2) xs ys
  | [], e1, e2, b, o, _, _, _, _, _ => ⟨[], [], by rw [tkF]; exact ⟨rfl, rfl⟩, Unl.nil _ _⟩
  | (k, x) :: t, e1, e2, b, o, hw, hb, h1, h2, h => by
    rw [wtM] at hw
    rw [apF] at h
    obtain ⟨mid, c1, c2, ⟨hk, cs, r, hx⟩, ht⟩ := h
    obtain ⟨x1, y1, t1, u1⟩ := V.ap_tk x (by omega) hx
    obtain ⟨x2, y2, t2, u2⟩ := apF_tk (lo := lo) (hi := hi) t (by omega) (fun _ => hb (by simp)) (by omega) h2 ht
    refine ⟨x1 ++ x2, y1 ++ y2, ?_, (u1.app u2 (fun b p q => by omega)).mono (fun b p => by omega)⟩
    rw [tkF]
    exact ⟨hb (by simp), cs, x1, y1, x2, y2, r, V.tk_keep (fun _ _ => rfl) (fun y p => ⟨by have := p.1; omega, by have := p.2; omega⟩) x t1, t2, rfl, rfl⟩
end
end Go.Proofs.YthgfomblodhoaaaDoor
