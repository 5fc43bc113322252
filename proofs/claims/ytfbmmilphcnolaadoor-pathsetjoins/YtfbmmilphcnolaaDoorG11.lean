/- joined: BdrR TwvP TwpA TwsR Utf -/
import Derived.Test.YtfbmmilphcnolaaDoorOdlP
import Derived.Sort.Grow
import Derived.Test.YtfbmmilphcnolaaDoorG6
import Derived.Lib.ValidLaws
/- The order of paths, and what it leaves of the world: draws and new blocks alone. -/
set_option linter.unusedSimpArgs false
set_option linter.unusedVariables false
namespace Go.Proofs.YtfbmmilphcnolaaDoor
open Go.RowKit Go.Lib
/-- below B all is as it was, and no draw was taken back -/
structure Bd (B : Nat) (w w' : World) : Prop extends Below B w w' where
  drawn : w.drawn ≤ w'.drawn
theorem Bd.refl (B : Nat) (w : World) : Bd B w w := ⟨Below.refl _ _, Nat.le_refl _⟩
theorem Bd.trans {B : Nat} {a b c : World} (h : Bd B a b) (k : Bd B b c) : Bd B a c := ⟨h.toBelow.trans k.toBelow, Nat.le_trans h.drawn k.drawn⟩
theorem Bd.mono {B B' : Nat} {w w' : World} (h : Bd B w w') (hB : B' ≤ B) : Bd B' w w' := ⟨h.toBelow.mono hB, h.drawn⟩
theorem Bd.drew {B : Nat} {a w : World} (h : Bd B a w) : Bd B a w.drew := ⟨h.toBelow.drew, Nat.le_trans h.drawn (Nat.le_succ _)⟩
structure SubD (N : Nat) (w0 : World) where
  w : World
  b : Bd N w0 w
instance subThereD (N : Nat) (w0 : World) : Inhabited (SubD N w0) := ⟨⟨w0, Bd.refl N w0⟩⟩
end Go.Proofs.YtfbmmilphcnolaaDoor
/- twinValue: the same value in memory of its own, down to the fourth level. -/
namespace Go.Proofs.YtfbmmilphcnolaaDoor
open Go.RowKit
theorem set_other {w : World} {g o x : Nat} {u : Value} (h : x ≠ g) : (w.setCell ⟨g, o, none⟩ u).heap[x]? = w.heap[x]? := by
  simp [World.setCell, Array.getElem?_modify, Ne.symm h]
theorem size_set1 (w : World) (M i : Nat) (u : Value) : (w.setCell ⟨M, i, none⟩ u).heap.size = w.heap.size := by
  simp [World.setCell]
theorem headed_nil : Headed none ([] : List V).length 0 0 0 := ⟨Nat.le_refl _, by simp [maxLen], .inl rfl, fun _ => rfl⟩
theorem OwnR.set0 {α : Type} {E : α → World → (Nat → Prop) → List Value → Prop} {ty sz : Nat} (K : KeepE E) {w : World} {base B : Nat} {S : Nat → Prop} {v : Value} {l : List α} (h : OwnR E ty sz w base S v l) (hS : ¬ S B) (hv : v.ownBlock ≠ some B) (i : Nat) (u : Value) : OwnR E ty sz (w.setCell ⟨B, i, none⟩ u) base S v l :=
  h.keep K (grown_set1 w B i u) (fun r e => by cases e; exact ⟨hS, hv⟩)
theorem own_listM0 {w : World} {N : Nat} {S T : Nat → Prop} {v : Value} {l : List Mem} (h : OwnM false w N S v (l.map some)) (hT : ∀ b, S b → T b) (hv : ∀ g, v.ownBlock = some g → T g) : ∃ a c b o, v = .slice a l.length c ∧ Headed a l.length c b o ∧ liesM false w T l b o := by
  have h' := h
  obtain ⟨⟨xs, h1, h2⟩, h3⟩ := h'
  rcases h1.2 with ⟨rfl, e⟩ | ⟨g, cap, cur, rfl, _⟩
  · have e0 : l.length = 0 := by simpa using e
    have : l = [] := List.length_eq_zero_iff.1 e0
    subst this
    exact ⟨none, 0, 0, 0, rfl, headed_nil, by rw [liesM]; trivial⟩
  · have hle := h.le
    simp only [List.length_map] at hle ⊢
    refine ⟨_, cap, g, 0, rfl, ⟨hle.1, hle.2, .inr rfl, fun h => by cases h⟩, liesM_mk fun j hj => ?_⟩
    obtain ⟨cs, k1, k2⟩ := h.at (by simp) j (by simpa using hj)
    rw [List.getElem_map] at k2
    obtain ⟨cs', rfl, hks, k3⟩ := k2
    exact ⟨hv g rfl, hks, cs', k1, V.lies_keep (fun h => h) (fun _ _ => rfl) hT _ k3⟩
/-- where a twin lies: where the value lay, or in new memory -/
def Tw (S : Nat → Prop) (w w' : World) (b : Nat) : Prop := S b ∨ (w.heap.size ≤ b ∧ b < w'.heap.size)
end Go.Proofs.YtfbmmilphcnolaaDoor
/- twin: the same path in memory of its own. -/
namespace Go.Proofs.YtfbmmilphcnolaaDoor
open Go.RowKit
def EP (x : El) (w : World) (S : Nat → Prop) (cs : List Value) : Prop := x.lies w S cs
theorem keepP : KeepE EP := fun x w w' S S' cs hw hS h => El.lies_keep hw hS h
abbrev OwnP := OwnR EP 47 9
theorem info35 : (Tryd.prog.info? 47).map (fun i => (i.zero, i.size, i.bytes)) = some (some (.agg #[.int .i64 0, .string ⟨#[]⟩, .slice none 0 0, .int .i64 0, .bool false, .int .i64 0, .string ⟨#[]⟩, .slice none 0 0, .slice none 0 0]), 9, 136) := by kernel_rfl
theorem one9 {k i j : Int} {b : Bool} {s r : ByteArray} {p q o : Option Addr} {n c n' c' n2 c2 : Nat} : ∀ u ∈ [Value.int .i64 k, .string r, .slice o n2 c2, .int .i64 i, .bool b, .int .i64 j, .string s, .slice p n c, .slice q n' c'], u.oneCell' = true := by
  intro u hu
  simp at hu
  rcases hu with rfl | rfl | rfl | rfl | rfl | rfl | rfl | rfl | rfl <;> rfl
/-- the block of the element that is made -/
structure TpF (w : World) (loc : Array Value) (wr : World) : Prop where
  below : Below w.heap.size w wr
  b2 : wr.heap[w.heap.size]? = some (.cells loc 47 (0, 0))
theorem TpF.lt {w : World} {loc : Array Value} {wr : World} (h : TpF w loc wr) : w.heap.size + 1 ≤ wr.heap.size := (Array.getElem?_eq_some_iff.1 h.b2).1
theorem TpF.grown {w : World} {loc : Array Value} {wr wr' : World} (h : TpF w loc wr) {row : Option Nat} (g : wr.grownBy wr' row) (hr : ∀ r, row = some r → w.heap.size + 1 ≤ r) : TpF w loc wr' := by
  have hs := h.lt
  exact ⟨h.below.grown g (by omega) (fun r e => by have := hr r e; omega), (g.block _ (by omega) (fun e => by have := hr _ e.symm; omega)).trans h.b2⟩
theorem TpF.set {w : World} {loc loc' : Array Value} {wr : World} (h : TpF w loc wr) (i : Nat) (u : Value) (e : loc.setIfInBounds i u = loc') : TpF w loc' (wr.setCell ⟨w.heap.size, i, none⟩ u) := by
  have g := grown_set1 wr w.heap.size i u
  refine ⟨h.below.grown g h.below.size (fun r e => by cases e; omega), ?_⟩
  rw [set_block h.b2, e]
/-- where the twin of a path lies -/
def TqPost (p : List El) (S : Nat → Prop) (w : World) (e : Ending) (w' : World) : Prop := ∃ a c b o, e = .returned (.slice a p.length c) ∧ Headed a p.length c b o ∧ liesP w' (Tw S w w') p b o ∧ Below w.heap.size w w'
theorem own_listP {w : World} {N : Nat} {S T : Nat → Prop} {v : Value} {l : List El} (h : OwnP w N S v l) (hT : ∀ b, S b → T b) (hv : ∀ g, v.ownBlock = some g → T g) : ∃ a c b o, v = .slice a l.length c ∧ Headed a l.length c b o ∧ liesP w T l b o := by
  have h' := h
  obtain ⟨⟨xs, h1, h2⟩, h3⟩ := h'
  rcases h1.2 with ⟨rfl, e⟩ | ⟨g, cap, cur, rfl, _⟩
  · have : l = [] := List.length_eq_zero_iff.1 e
    subst this
    exact ⟨none, 0, 0, 0, rfl, ⟨Nat.le_refl _, by simp [maxLen], .inl rfl, fun _ => rfl⟩, fun j hj => by simp at hj⟩
  · have hle := h.le
    refine ⟨_, cap, g, 0, rfl, ⟨hle.1, hle.2, .inr rfl, fun h => by cases h⟩, fun j hj => ⟨hv g rfl, ?_⟩⟩
    obtain ⟨cs, k1, k2⟩ := h.at rfl j hj
    exact ⟨cs, k1, El.lies_keep (fun _ _ => rfl) hT k2⟩
end Go.Proofs.YtfbmmilphcnolaaDoor
/- Paths, twins: lists of paths that are not beyond the bound, and their twins. -/
namespace Go.Proofs.YtfbmmilphcnolaaDoor
open Go.RowKit Go.Lib
def CpPost (l : List (List El)) (w : World) (e : Ending) (w' : World) : Prop := ∃ r, e = .returned (.bool r) ∧ (r = false → l.length + wtQ l ≤ 2147483647) ∧ Below w.heap.size w w'
set_option maxHeartbeats 4000000 in
set_option maxRecDepth 100000 in
theorem bpathsQ_any (l : List (List El)) (S : Nat → Prop) (al : Option Addr) (cl bl ol : Nat) (w : World) (hal : Headed al l.length cl bl ol) (hl : liesQ w S l bl ol) (hS : ∀ b, S b → b < w.heap.size) :
    Calls Tryd.prog 5 #[.slice al l.length cl] w (CpPost l w) := by
  have ga : w.grownBy (w.alloc (.cells #[.int .i64 0] 41)) none := World.grownBy_alloc _ _ _
  have hn := heap_alloc_new w (.cells #[.int .i64 0] 41)
  have hC : Cnt w.heap.size 0 (w.alloc (.cells #[.int .i64 0] 41)) := ⟨by rw [cell_of_block hn]; rfl, frozen_of_block hn 0⟩
  have c := hmk (cpathsQ_any l w.heap.size 0 S al cl bl ol (w.alloc (.cells #[.int .i64 0] 41)) hal (liesQ_keep (fun x hx => ga.block x (hS x hx) (by simp)) (fun _ h => h) hl) (fun x hx => ⟨by have := hS x hx; omega, Nat.lt_of_lt_of_le (hS x hx) ga.size⟩) hC (by omega))
  have HG := hmk ga
  clear hl hn hC ga
  go_enter Tryd.func5, Tryd.ntmps5
  go_wp2_with fail
  refine c.out.mono ?_
  rintro e w1 ⟨r, rfl, g1, h1⟩
  go_wp2_with fail
  go_ret
  exact ⟨r, rfl, h1, (below_of_grown HG.out).grown g1 HG.out.size (fun q e => by cases e; omega)⟩
def EQ (p : List El) (w : World) (S : Nat → Prop) (cs : List Value) : Prop := ∃ v, cs = [v] ∧ Pl.lies w S p v
theorem keepQ : KeepE EQ := fun x w w' S S' cs hw hS h => by
  obtain ⟨v, e, h⟩ := h
  exact ⟨v, e, Pl.keep hw hS h⟩
abbrev OwnQ := OwnR EQ 24 1
theorem info33 : (Tryd.prog.info? 24).map (fun i => (i.zero, i.size, i.bytes)) = some (some (.slice none 0 0), 1, 24) := by kernel_rfl
theorem oneQ {p : Option Addr} {n c : Nat} : ∀ u ∈ [Value.slice p n c], u.oneCell' = true := by
  intro u hu
  simp at hu
  rw [hu]; rfl
def TrPost (l : List (List El)) (S : Nat → Prop) (w : World) (e : Ending) (w' : World) : Prop := ∃ a c b o, e = .returned (.slice a l.length c) ∧ Headed a l.length c b o ∧ liesQ w' (Tw S w w') l b o ∧ Below w.heap.size w w'
theorem own_listQ {w : World} {N : Nat} {S T : Nat → Prop} {v : Value} {l : List (List El)} (h : OwnQ w N S v l) (hT : ∀ b, S b → T b) (hv : ∀ g, v.ownBlock = some g → T g) : ∃ a c b o, v = .slice a l.length c ∧ Headed a l.length c b o ∧ liesQ w T l b o := by
  have h' := h
  obtain ⟨⟨xs, h1, h2⟩, h3⟩ := h'
  rcases h1.2 with ⟨rfl, e⟩ | ⟨g, cap, cur, rfl, _⟩
  · have : l = [] := List.length_eq_zero_iff.1 e
    subst this
    exact ⟨none, 0, 0, 0, rfl, ⟨Nat.le_refl _, by simp [maxLen], .inl rfl, fun _ => rfl⟩, fun j hj => by simp at hj⟩
  · have hle := h.le
    refine ⟨_, cap, g, 0, rfl, ⟨hle.1, hle.2, .inr rfl, fun h => by cases h⟩, fun j hj => ⟨hv g rfl, ?_⟩⟩
    obtain ⟨cs, k1, u, rfl, k2⟩ := h.at rfl j hj
    refine ⟨u, ?_, Pl.keep (fun _ _ => rfl) hT k2⟩
    have := k1 0 _ rfl
    simpa using this
end Go.Proofs.YtfbmmilphcnolaaDoor
/- Plain facts on UTF-8, sequence by sequence. -/
namespace Go.Proofs.YtfbmmilphcnolaaDoor.Q
/-- the first byte of a sequence: how many bytes, the least and the greatest second byte -/
def bnd (b : Nat) : Nat × Nat × Nat :=
  if b < 128 then (1, 0, 0) else if 194 ≤ b ∧ b < 224 then (2, 128, 191) else if b = 224 then (3, 160, 191) else if b = 237 then (3, 128, 159)
  else if 224 < b ∧ b < 240 then (3, 128, 191) else if b = 240 then (4, 144, 191) else if b = 244 then (4, 128, 143) else if 240 < b ∧ b < 244 then (4, 128, 191) else (0, 0, 0)
/-- from the k-th byte of a sequence of n on -/
def nxtGo (n : Nat) : Nat → Nat → Nat → List UInt8 → Nat × Bool
  | k, lo, hi, [] => if n ≤ k then (n, true) else (k, false)
  | k, lo, hi, c :: t => if n ≤ k then (n, true) else if c.toNat < lo ∨ hi < c.toNat then (k, false) else nxtGo n (k + 1) 128 191 t
/-- the sequence at the head: how far it goes, and whether it is whole -/
def nxt : List UInt8 → Nat × Bool
  | [] => (0, false)
  | b :: t => if (bnd b.toNat).1 = 0 then (0, false) else nxtGo (bnd b.toNat).1 1 (bnd b.toNat).2.1 (bnd b.toNat).2.2 t
theorem nxt_cons (b : UInt8) (t : List UInt8) : nxt (b :: t) = if (bnd b.toNat).1 = 0 then (0, false) else nxtGo (bnd b.toNat).1 1 (bnd b.toNat).2.1 (bnd b.toNat).2.2 t := rfl
theorem nxtGo_le (n : Nat) : ∀ (t : List UInt8) (k lo hi : Nat), 1 ≤ k → k ≤ n → k ≤ (nxtGo n k lo hi t).1 ∧ (nxtGo n k lo hi t).1 ≤ k + t.length ∧ (nxtGo n k lo hi t).1 ≤ n ∧ ((nxtGo n k lo hi t).2 = true → (nxtGo n k lo hi t).1 = n)
  | [], k, lo, hi, h, hn => by
    unfold nxtGo
    split <;> simp <;> omega
  | c :: t, k, lo, hi, h, hn => by
    unfold nxtGo
    split
    · simp; omega
    · split
      · simp; omega
      · have := nxtGo_le n t (k + 1) 128 191 (by omega) (by omega)
        simp only [List.length_cons]
        refine ⟨by omega, by omega, this.2.2⟩
theorem bnd_le (b : Nat) : (bnd b).1 ≤ 4 := by
  unfold bnd
  repeat' split
  all_goals simp
theorem nxt_le (l : List UInt8) : (nxt l).1 ≤ l.length ∧ (nxt l).1 ≤ 4 ∧ ((nxt l).2 = true → 1 ≤ (nxt l).1) := by
  cases l with
  | nil => simp [nxt]
  | cons b t =>
    rw [nxt_cons]
    split
    · simp
    · have := nxtGo_le (bnd b.toNat).1 t 1 (bnd b.toNat).2.1 (bnd b.toNat).2.2 (by omega) (by omega)
      have hb := bnd_le b.toNat
      simp only [List.length_cons]
      refine ⟨by omega, by omega, fun _ => by omega⟩
theorem bnd_tab : ∀ b : Fin 256, 128 ≤ b.val → (bnd b.val).1 = (if Lib.firstT b.val % 8 = 1 then 0 else Lib.firstT b.val % 8) ∧ ((bnd b.val).1 = 0 ∨ (bnd b.val).1 = 2 ∨ (bnd b.val).1 = 3 ∨ (bnd b.val).1 = 4) ∧ ((bnd b.val).1 ≠ 0 → (bnd b.val).2.1 = Lib.accLo (Lib.firstT b.val / 16) ∧ (bnd b.val).2.2 = Lib.accHi (Lib.firstT b.val / 16)) := by decide +kernel
theorem nxt_check (b : UInt8) (t : List UInt8) (hb : 128 ≤ b.toNat) :
    Lib.checkN (t.length + 1) (t.getD 0 0).toNat (t.getD 1 0).toNat (t.getD 2 0).toNat (Lib.firstT b.toNat % 8) (Lib.accLo (Lib.firstT b.toNat / 16)) (Lib.accHi (Lib.firstT b.toNat / 16)) = (if (nxt (b :: t)).2 then some (nxt (b :: t)).1 else none) := by
  obtain ⟨h1, h2, h3⟩ := bnd_tab ⟨b.toNat, b.toNat_lt⟩ hb
  simp only at h1 h2 h3
  rw [nxt_cons]
  generalize bnd b.toNat = B at *
  obtain ⟨n, lo, hi⟩ := B
  simp only at h1 h2 h3 ⊢
  rcases h2 with rfl | rfl | rfl | rfl
  · have e : Lib.firstT b.toNat % 8 = 1 ∨ Lib.firstT b.toNat % 8 = 0 := by split at h1 <;> omega
    rcases e with e | e <;> simp [Lib.checkN, e]
  · have e : Lib.firstT b.toNat % 8 = 2 := by split at h1 <;> omega
    obtain ⟨rfl, rfl⟩ := h3 (by omega)
    rw [e]
    rcases t with _ | ⟨c1, t⟩
    · simp [Lib.checkN, nxtGo]
    · simp only [Lib.checkN, nxtGo, List.length_cons, List.getD_cons_zero]
      by_cases c : c1.toNat < Lib.accLo (Lib.firstT b.toNat / 16) ∨ Lib.accHi (Lib.firstT b.toNat / 16) < c1.toNat
      · simp [c]
      · cases t <;> simp [c, nxtGo]
  · have e : Lib.firstT b.toNat % 8 = 3 := by split at h1 <;> omega
    obtain ⟨rfl, rfl⟩ := h3 (by omega)
    rw [e]
    generalize Lib.accLo (Lib.firstT b.toNat / 16) = lo
    generalize Lib.accHi (Lib.firstT b.toNat / 16) = hi
    rcases t with _ | ⟨c1, t⟩
    · simp [Lib.checkN, nxtGo]
    · by_cases c : c1.toNat < lo ∨ hi < c1.toNat
      · simp only [Lib.checkN, nxtGo, List.length_cons, List.getD_cons_zero]
        rcases c with c | c <;> simp [c]
      · have c' := not_or.1 c
        rcases t with _ | ⟨c2, t⟩
        · simp [Lib.checkN, nxtGo, c]
        · by_cases d : c2.toNat < 128 ∨ 191 < c2.toNat
          · rcases d with d | d <;> simp [Lib.checkN, nxtGo, c, c'.1, c'.2, d]
          · have d' := not_or.1 d
            cases t <;> simp [Lib.checkN, nxtGo, c, d, c'.1, c'.2, d'.1, d'.2]
  · have e : Lib.firstT b.toNat % 8 = 4 := by split at h1 <;> omega
    obtain ⟨rfl, rfl⟩ := h3 (by omega)
    rw [e]
    generalize Lib.accLo (Lib.firstT b.toNat / 16) = lo
    generalize Lib.accHi (Lib.firstT b.toNat / 16) = hi
    rcases t with _ | ⟨c1, t⟩
    · simp [Lib.checkN, nxtGo]
    · by_cases c : c1.toNat < lo ∨ hi < c1.toNat
      · simp only [Lib.checkN, nxtGo, List.length_cons, List.getD_cons_zero]
        rcases c with c | c <;> simp [c]
      · have c' := not_or.1 c
        rcases t with _ | ⟨c2, t⟩
        · simp [Lib.checkN, nxtGo, c]
        · by_cases d : c2.toNat < 128 ∨ 191 < c2.toNat
          · rcases d with d | d <;> simp [Lib.checkN, nxtGo, c, c'.1, c'.2, d]
          · have d' := not_or.1 d
            rcases t with _ | ⟨c3, t⟩
            · simp [Lib.checkN, nxtGo, c, d]
            · by_cases f : c3.toNat < 128 ∨ 191 < c3.toNat
              · rcases f with f | f <;> simp [Lib.checkN, nxtGo, c, d, c'.1, c'.2, d'.1, d'.2, f]
              · have f' := not_or.1 f
                cases t <;> simp [Lib.checkN, nxtGo, c, d, f, c'.1, c'.2, d'.1, d'.2, f'.1, f'.2]
/-- 'valid', sequence by sequence. -/
theorem valid_step (l : List UInt8) (hne : l ≠ []) : Lib.validD l = (if (nxt l).2 then Lib.validD (l.drop (nxt l).1) else false) := by
  cases l with
  | nil => exact absurd rfl hne
  | cons b t =>
    by_cases hb : b.toNat < 128
    · rw [Lib.validD_cons b t hb]
      have e : nxt (b :: t) = (1, true) := by
        have : bnd b.toNat = (1, 0, 0) := by simp [bnd, hb]
        cases t <;> simp [nxt_cons, this, nxtGo]
      rw [e]
      rfl
    · have h := Lib.validD_lead (b :: t) hne (by simpa using (by omega : 128 ≤ b.toNat))
      rw [h]
      have k := nxt_check b t (by omega)
      simp only [List.getD_cons_zero, List.getD_cons_succ, List.length_cons] at k ⊢
      rw [k]
      by_cases g : (nxt (b :: t)).2 = true
      · simp [g]
      · simp [g]
end Go.Proofs.YtfbmmilphcnolaaDoor.Q
