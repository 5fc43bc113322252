/- joined: TwsR LefP RowF PutA -/
import Derived.Test.YtfekgeaopchilaaGreatDoorG6
import Derived.Test.YtfekgeaopchilaaGreatDoorTwpA
/- Paths, twins: lists of paths that are not beyond the bound, and their twins. -/
set_option linter.unusedSimpArgs false
set_option linter.unusedVariables false
namespace Go.Proofs.YtfekgeaopchilaaGreatDoor
open Go.RowKit Go.Lib
def CpPost (l : List (List El)) (w : World) (e : Ending) (w' : World) : Prop := ∃ r, e = .returned (.bool r) ∧ (r = false → l.length + wtQ l ≤ 2147483647) ∧ Below w.heap.size w w'
set_option maxHeartbeats 4000000 in
set_option maxRecDepth 100000 in
theorem bpathsQ_any (l : List (List El)) (S : Nat → Prop) (al : Option Addr) (cl bl ol : Nat) (w : World) (hal : Headed al l.length cl bl ol) (hl : liesQ w S l bl ol) (hS : ∀ b, S b → b < w.heap.size) :
    Calls Tryz.prog 5 #[.slice al l.length cl] w (CpPost l w) := by
  have ga : w.grownBy (w.alloc (.cells #[.int .i64 0] 47)) none := World.grownBy_alloc _ _ _
  have hn := heap_alloc_new w (.cells #[.int .i64 0] 47)
  have hC : Cnt w.heap.size 0 (w.alloc (.cells #[.int .i64 0] 47)) := ⟨by rw [cell_of_block hn]; rfl, frozen_of_block hn 0⟩
  have c := hmk (cpathsQ_any l w.heap.size 0 S al cl bl ol (w.alloc (.cells #[.int .i64 0] 47)) hal (liesQ_keep (fun x hx => ga.block x (hS x hx) (by simp)) (fun _ h => h) hl) (fun x hx => ⟨by have := hS x hx; omega, Nat.lt_of_lt_of_le (hS x hx) ga.size⟩) hC (by omega))
  have HG := hmk ga
  clear hl hn hC ga
  go_enter Tryz.func5, Tryz.ntmps5
  go_wp2_with fail
  refine c.out.mono ?_
  rintro e w1 ⟨r, rfl, g1, h1⟩
  go_wp2_with fail
  go_ret
  exact ⟨r, rfl, h1, (below_of_grown HG.out).grown g1 HG.out.size (fun q e => by cases e; omega)⟩
def EQ (p : List El) (w : World) (S : Nat → Prop) (cs : List Value) : Prop := ∃ v, cs = [v] ∧ Pl.lies w S p v
theorem keepQ : KeepE EQ := fun x w w' S S' cs hw hS h => by
  obtain ⟨v, e, h⟩ := h
  exact ⟨v, e, Pl.keep hw hS h⟩
abbrev OwnQ := OwnR EQ 25 1
theorem info33 : (Tryz.prog.info? 25).map (fun i => (i.zero, i.size, i.bytes)) = some (some (.slice none 0 0), 1, 24) := by kernel_rfl
theorem oneQ {p : Option Addr} {n c : Nat} : ∀ u ∈ [Value.slice p n c], u.oneCell' = true := by
  intro u hu
  simp at hu
  rw [hu]; rfl
def TrPost (l : List (List El)) (S : Nat → Prop) (w : World) (e : Ending) (w' : World) : Prop := ∃ a c b o, e = .returned (.slice a l.length c) ∧ Headed a l.length c b o ∧ liesQ w' (Tw S w w') l b o ∧ Below w.heap.size w w'
theorem own_listQ {w : World} {N : Nat} {S T : Nat → Prop} {v : Value} {l : List (List El)} (h : OwnQ w N S v l) (hT : ∀ b, S b → T b) (hv : ∀ g, v.ownBlock = some g → T g) : ∃ a c b o, v = .slice a l.length c ∧ Headed a l.length c b o ∧ liesQ w T l b o := by
  have h' := h
  obtain ⟨⟨xs, h1, h2⟩, h3⟩ := h'
  rcases h1.2 with ⟨rfl, e⟩ | ⟨g, cap, cur, rfl, _⟩
  · have : l = [] := List.length_eq_zero_iff.1 e
    subst this
    exact ⟨none, 0, 0, 0, rfl, ⟨Nat.le_refl _, by simp [maxLen], .inl rfl, fun _ => rfl⟩, fun j hj => by simp at hj⟩
  · have hle := h.le
    refine ⟨_, cap, g, 0, rfl, ⟨hle.1, hle.2, .inr rfl, fun h => by cases h⟩, fun j hj => ⟨hv g rfl, ?_⟩⟩
    obtain ⟨cs, k1, u, rfl, k2⟩ := h.at rfl j hj
    refine ⟨u, ?_, Pl.keep (fun _ _ => rfl) hT k2⟩
    have := k1 0 _ rfl
    simpa using this
end Go.Proofs.YtfekgeaopchilaaGreatDoor
/- Leaves: what they are, how they lie in memory. -/
namespace Go.Proofs.YtfekgeaopchilaaGreatDoor
open Go.RowKit Go.Lib
/-- a leaf: its path, its value -/
abbrev Lf := List El × V
def Lf.lies (w : World) (S : Nat → Prop) (x : Lf) (cs : List Value) : Prop := ∃ v is, cs = v :: is ∧ Pl.lies w S x.1 v ∧ x.2.lies false w S is
def liesF (w : World) (S : Nat → Prop) (l : List Lf) (b o : Nat) : Prop := ∀ (j : Nat) (h : j < l.length), S b ∧ ∃ cs, rowAt w b (o + j * 7) cs ∧ Lf.lies w S l[j] cs
theorem Lf.keep {w w' : World} {S S' : Nat → Prop} (hw : ∀ b, S b → w'.heap[b]? = w.heap[b]?) (hS : ∀ b, S b → S' b) {x : Lf} {cs : List Value} (h : Lf.lies w S x cs) : Lf.lies w' S' x cs := by
  obtain ⟨v, is, e, h1, h2⟩ := h
  exact ⟨v, is, e, Pl.keep hw hS h1, V.lies_keep (fun h => h) hw hS _ h2⟩
theorem liesF_keep {w w' : World} {S S' : Nat → Prop} (hw : ∀ b, S b → w'.heap[b]? = w.heap[b]?) (hS : ∀ b, S b → S' b) {l : List Lf} {b o : Nat} (h : liesF w S l b o) : liesF w' S' l b o := fun j hj => by
  obtain ⟨h1, cs, h2, h3⟩ := h j hj
  exact ⟨hS _ h1, cs, h2.keep (hw _ h1), Lf.keep hw hS h3⟩
theorem liesF_nil (w : World) (S : Nat → Prop) (b o : Nat) : liesF w S [] b o := fun j hj => by simp at hj
theorem liesF_drop {w : World} {S : Nat → Prop} {l : List Lf} {b o : Nat} (h : liesF w S l b o) (n : Nat) : liesF w S (l.drop n) b (o + n * 7) := fun j hj => by
  have hj' : n + j < l.length := by simp at hj; omega
  obtain ⟨h1, cs, h2, h3⟩ := h (n + j) hj'
  refine ⟨h1, cs, ?_, ?_⟩
  · rw [show o + n * 7 + j * 7 = o + (n + j) * 7 by rw [Nat.add_mul]; omega]; exact h2
  · rw [List.getElem_drop]; exact h3
theorem liesF_take {w : World} {S : Nat → Prop} {l : List Lf} {b o : Nat} (h : liesF w S l b o) (n : Nat) : liesF w S (l.take n) b o := fun j hj => by
  have hj' : j < l.length := by simp at hj; omega
  obtain ⟨h1, cs, h2, h3⟩ := h j hj'
  refine ⟨h1, cs, h2, ?_⟩
  rw [List.getElem_take]; exact h3
/-- how many bytes and values, as the bound counts them -/
def Lf.wt (x : Lf) : Nat := x.2.wt + (1 + wtP x.1)
def wtF : List Lf → Nat
  | [] => 0
  | x :: t => x.wt + wtF t
theorem wtF_app : ∀ a b : List Lf, wtF (a ++ b) = wtF a + wtF b
  | [], b => by simp [wtF]
  | x :: t, b => by have := wtF_app t b; simp only [wtF, List.cons_append]; omega
theorem take_succ_wtF {l : List Lf} {j : Nat} (h : j < l.length) : wtF (l.take (j + 1)) = wtF (l.take j) + (l[j]).wt := by
  rw [List.take_succ_eq_append_getElem h, wtF_app]; simp [wtF]
theorem wtF_mem : ∀ {l : List Lf} {x : Lf}, x ∈ l → x.wt ≤ wtF l
  | [], e, h => by cases h
  | y :: t, e, h => by
    rcases List.mem_cons.1 h with rfl | h
    · simp only [wtF]; omega
    · have := wtF_mem h; simp only [wtF]; omega
theorem wtF_len : ∀ l : List Lf, l.length ≤ wtF l
  | [] => by simp
  | x :: t => by have := wtF_len t; have : 1 ≤ x.wt := by unfold Lf.wt; omega
                 simp only [wtF, List.length_cons]; omega
theorem Lf.wt_path {l : List Lf} {x : Lf} (h : x ∈ l) : wtP x.1 ≤ wtF l ∧ x.2.wt ≤ wtF l := by
  have := wtF_mem h
  unfold Lf.wt at this
  omega
def EF (x : Lf) (w : World) (S : Nat → Prop) (cs : List Value) : Prop := Lf.lies w S x cs
theorem keepF : KeepE EF := fun x w w' S S' cs hw hS h => Lf.keep hw hS h
abbrev OwnF := OwnR EF 50 7
theorem infoF : (Tryz.prog.info? 50).map (fun i => (i.zero, i.size, i.bytes)) = some (some (.agg #[.slice none 0 0, .int .i64 0, .bool false, .int .i64 0, .string ⟨#[]⟩, .slice none 0 0, .slice none 0 0]), 7, 112) := by kernel_rfl
theorem oneF {a : Option Addr} {m d : Nat} {k i : Int} {b : Bool} {s : ByteArray} {p q : Option Addr} {n c n' c' : Nat} : ∀ u ∈ [Value.slice a m d, .int .i64 k, .bool b, .int .i64 i, .string s, .slice p n c, .slice q n' c'], u.oneCell' = true := by
  intro u hu
  simp at hu
  rcases hu with rfl | rfl | rfl | rfl | rfl | rfl | rfl <;> rfl
theorem own_listF {w : World} {N : Nat} {S T : Nat → Prop} {v : Value} {l : List Lf} (h : OwnF w N S v l) (hT : ∀ b, S b → T b) (hv : ∀ g, v.ownBlock = some g → T g) : ∃ a c b o, v = .slice a l.length c ∧ Headed a l.length c b o ∧ liesF w T l b o := by
  have h' := h
  obtain ⟨⟨xs, h1, h2⟩, h3⟩ := h'
  rcases h1.2 with ⟨rfl, e⟩ | ⟨g, cap, cur, rfl, _⟩
  · have : l = [] := List.length_eq_zero_iff.1 e
    subst this
    exact ⟨none, 0, 0, 0, rfl, ⟨Nat.le_refl _, by simp [maxLen], .inl rfl, fun _ => rfl⟩, fun j hj => by simp at hj⟩
  · have hle := h.le
    refine ⟨_, cap, g, 0, rfl, ⟨hle.1, hle.2, .inr rfl, fun h => by cases h⟩, fun j hj => ⟨hv g rfl, ?_⟩⟩
    obtain ⟨cs, k1, k2⟩ := h.at rfl j hj
    exact ⟨cs, k1, Lf.keep (fun _ _ => rfl) hT k2⟩
end Go.Proofs.YtfekgeaopchilaaGreatDoor
/- What the row of LeavesRows needs: leaves opened and given back. -/
namespace Go.Proofs.YtfekgeaopchilaaGreatDoor
open Go.Shelf Go.Lib Go.ChangeShapes Go.RowKit
variable {H : Type} {enc : TypeId × Value → H}
theorem cellsF50 : Tryz.prog.cellsOf 50 = 7 := by kernel_rfl
theorem len7F {α : Type} {l : List α} (h : l.length = 7) : ∃ c0 c1 c2 c3 c4 c5 c6, l = [c0, c1, c2, c3, c4, c5, c6] := by
  match l, h with
  | [c0, c1, c2, c3, c4, c5, c6], _ => exact ⟨_, _, _, _, _, _, _, rfl⟩
theorem open_leaf {w : World} {spare : Nat → Bool} {held : Bool} {n : Nat} {cs : List Value} {x} (h : DataW.trod enc Tryz.prog w 0 spare held n 50 cs = some x) : ∃ y : Lf, Lf.lies w (Old w) y cs := by
  cases n with
  | zero => simp [DataW.trod] at h
  | succ n =>
  obtain ⟨xs, n', hn, _, hl, hlen, hf⟩ := DataW.trod_struct Tryz.underlying50 h
  obtain rfl : n = n' := by omega
  rw [cellsF50] at hl
  obtain ⟨c0, c1, c2, c3, c4, c5, c6, rfl⟩ := len7F hl
  have h6 : xs.length = 2 := hlen
  have f0 := hf 0 _ rfl
  rw [List.getElem?_eq_getElem (by omega)] at f0
  have f1 := hf 1 _ rfl
  rw [List.getElem?_eq_getElem (by omega)] at f1
  simp [cellsP23, cellsP33] at f0 f1
  obtain ⟨p, ap, cp, bp, op, e0, hp1, hp2⟩ := open_path f0
  obtain ⟨v, hv⟩ := (open_all n).1 _ _ f1
  simp only [List.cons.injEq, and_true] at e0
  subst e0
  exact ⟨(p, v), _, _, rfl, ⟨ap, cp, bp, op, rfl, hp1, hp2⟩, hv⟩
theorem open_leaves {w : World} {spare : Nat → Bool} {held : Bool} {n : Nat} {cs : List Value} {x} (h : DataW.trod enc Tryz.prog w 0 spare held n 22 cs = some x) : ∃ (l : List Lf) (ao : Option Addr) (cap b o : Nat), cs = [.slice ao l.length cap] ∧ Headed ao l.length cap b o ∧ liesF w (Old w) l b o := by
  cases n with
  | zero => simp [DataW.trod] at h
  | succ n =>
  rcases DataW.trod_slice Tryz.underlying22 h with ⟨rfl, _⟩ | ⟨a, len, cap, elems, rest, n', hn, rfl, _, _, hlc, hcm, hlen, hel, _⟩
  · exact ⟨[], none, 0, 0, 0, rfl, ⟨Nat.le_refl _, by simp [maxLen], .inl rfl, fun _ => rfl⟩, fun j hj => by simp at hj⟩
  obtain rfl : n = n' := by omega
  rw [cellsF50] at hel
  obtain ⟨l, b, o, hll, hao, hq⟩ := elems_at (w := w) (a := a) (len := len) (k := 7) (Q := fun (e : Lf) cs => Lf.lies w (Old w) e cs) (by omega) (fun i hi => by
    have he := hel i hi
    rw [List.getElem?_eq_getElem (by omega)] at he
    obtain ⟨cs, h1, h2⟩ := Option.bind_eq_some_iff.1 he
    obtain ⟨e, he⟩ := open_leaf h2
    exact ⟨cs, e, h1, he⟩)
  subst hll
  refine ⟨l, some a, cap, b, o, rfl, ⟨hlc, hcm, ?_, fun h => by cases h⟩, hq⟩
  rcases hao with h | rfl
  · exact .inl h
  · exact .inr rfl
theorem open22F {W : World} {spare : Nat → Bool} {held : Bool} {v : Value} {d : DataW H} {p : List MemPlace} (hsl : ∃ a n c, v = .slice a n c) (h : DataW.Trod enc Tryz.prog W 0 spare held 22 v d p) : ∃ (l : List Lf) (ao : Option Addr) (cap b o : Nat), v = .slice ao l.length cap ∧ Headed ao l.length cap b o ∧ liesF W (Old W) l b o := by
  obtain ⟨n, hn⟩ := h
  obtain ⟨l, ao, cap, b, o, e, h1, h2⟩ := open_leaves hn
  obtain ⟨a0, n0, c0, rfl⟩ := hsl
  refine ⟨l, ao, cap, b, o, ?_, h1, h2⟩
  simpa [Value.cells] using e
theorem back22F {W W' : World} {v : Value} {d : DataW H} {p : List MemPlace} (h : DataW.Trod enc Tryz.prog W 0 (fun _ => true) true 22 v d p) (hlt : ∀ x ∈ p, x.block < W.heap.size) (hb : Below W.heap.size W W') :
    DataW.Trod enc Tryz.prog W' 0 (fun b => decide (b < W.heap.size)) true 22 v d p :=
  WideElems.Trod_stays (P := Tryz.prog) laidOut' (by kernel_rfl) (of_decide_eq_true (by kernel_rfl)) h (fun x hx => below_same hb (hlt x hx)) (fun x hx => by simpa using hlt x hx)
end Go.Proofs.YtfekgeaopchilaaGreatDoor
/- Many appended at once. -/
namespace Go.Proofs.YtfekgeaopchilaaGreatDoor
open Go.RowKit
theorem chunk_right {xs cx : List Value} {n j sz : Nat} (hl : xs.length = n * sz) : ((xs ++ cx).drop ((n + j) * sz)).take sz = (cx.drop (j * sz)).take sz := by
  rw [Nat.add_mul, ← hl, List.drop_append, List.drop_of_length_le (by omega), List.nil_append]
  congr 2
  omega
section
variable {α : Type} {E : α → World → (Nat → Prop) → List Value → Prop} {ty sz : Nat}
theorem OwnR.pushes (K : KeepE E) {w w' : World} {base : Nat} {S Sx : Nat → Prop} {v v' : Value} {l ys : List α} {cx xs : List Value}
    (h3 : ∀ b, S b → base ≤ b ∧ b < w.heap.size ∧ some b ≠ v.ownBlock) (h1 : w.ownsRow base ty sz v l.length xs) (h2 : ∀ (j : Nat) (h : j < l.length), E l[j] w S ((xs.drop (j * sz)).take sz))
    (hE : ∀ (j : Nat) (h : j < ys.length), E ys[j] w Sx ((cx.drop (j * sz)).take sz)) (hSx : ∀ b, Sx b → base ≤ b ∧ b < w.heap.size ∧ some b ≠ v.ownBlock)
    (ho : w'.ownsRow base ty sz v' (l.length + ys.length) (xs ++ cx)) (hg : w.grownBy w' v.ownBlock) (hn : v.ownBlock = v'.ownBlock ∨ ∀ g, v'.ownBlock = some g → w.heap.size ≤ g) :
    OwnR E ty sz w' base (fun b => S b ∨ Sx b) v' (l ++ ys) := by
  have hall : ∀ b, S b ∨ Sx b → base ≤ b ∧ b < w.heap.size ∧ some b ≠ v.ownBlock := fun b hb => hb.elim (h3 b) (hSx b)
  have hb : ∀ b, S b ∨ Sx b → w'.heap[b]? = w.heap[b]? := fun b hb => hg.block b (hall b hb).2.1 (hall b hb).2.2
  refine ⟨⟨xs ++ cx, by simpa using ho, fun j hj => ?_⟩, fun b hS => ⟨(hall b hS).1, Nat.lt_of_lt_of_le (hall b hS).2.1 hg.size, ?_⟩⟩
  · by_cases hjl : j < l.length
    · rw [List.getElem_append_left hjl, chunk_left h1.1 hjl]
      exact K _ _ _ _ _ _ (fun b h => hb b (.inl h)) (fun _ h => .inl h) (h2 j hjl)
    · obtain ⟨q, rfl⟩ : ∃ q, j = l.length + q := ⟨j - l.length, by omega⟩
      have hq : q < ys.length := by simp at hj; omega
      rw [chunk_right h1.1, List.getElem_append_right (by omega)]
      have := K ys[q] w w' Sx (fun b => S b ∨ Sx b) _ (fun b h => hb b (.inr h)) (fun _ h => .inr h) (hE q hq)
      simpa using this
  · rcases hn with e | e
    · rw [← e]; exact (hall b hS).2.2
    · intro h
      have := e b h.symm
      have := (hall b hS).2.1
      omega
theorem run_pushes (K : KeepE E) (P : Program) (w : World) (t rt : TypeId) (i : TypeInfo) (z : Value) (bytes : Nat) (ht : P.underlying t = some (.slice ty)) (hi : P.info? ty = some i) (hz : i.zero = some z)
    (hsize : i.size = sz) (hby : i.bytes = bytes) (hzs : z.cells.size = sz) (hsz : 0 < sz) (hb200 : bytes ≤ 200)
    {S Sx : Nat → Prop} {g n cap : Nat} {l ys : List α} {cx : List Value} (hn : n = l.length) (hown : OwnR E ty sz w 0 S (.slice (some ⟨g, 0, none⟩) n cap) l)
    (ao : Option Addr) (c : Nat) (hcx : cx.length = ys.length * sz) (hnone : ao = none → ys.length = 0 ∧ c = 0) (hc : ∀ ad, ao = some ad → ∀ j u, cx[j]? = some u → w.cell? (ad.add j) = some u) (h1c : ∀ u ∈ cx, u.oneCell' = true)
    (hE : ∀ (j : Nat) (h : j < ys.length), E ys[j] w Sx ((cx.drop (j * sz)).take sz)) (hSx : ∀ b, Sx b → b < w.heap.size ∧ b ≠ g) (hlen : l.length + ys.length ≤ 4294967296) :
    ∃ g' cap' w', (Builtin.append_ #[t, t] rt #[.slice (some ⟨g, 0, none⟩) n cap, .slice ao ys.length c]).run P w = .ok (.slice (some ⟨g', 0, none⟩) (n + ys.length) cap') w' ∧
      OwnR E ty sz w' 0 (fun b => S b ∨ Sx b) (.slice (some ⟨g', 0, none⟩) (n + ys.length) cap') (l ++ ys) ∧ w.grownBy w' (some g) ∧ (g' = g ∨ w.heap.size ≤ g') := by
  subst hn
  obtain ⟨⟨xs, h1, h2⟩, h3⟩ := hown
  have hSx' : ∀ b, Sx b → 0 ≤ b ∧ b < w.heap.size ∧ some b ≠ (Value.slice (some ⟨g, 0, none⟩) l.length cap).ownBlock := fun b hb => ⟨Nat.zero_le _, (hSx b hb).1, fun e => (hSx b hb).2 (by simp [Value.ownBlock] at e; exact e)⟩
  cases ao with
  | none =>
    obtain ⟨h0, rfl⟩ := hnone rfl
    have hys : ys = [] := List.eq_nil_of_length_eq_zero h0
    subst hys
    have hcx0 : cx = [] := List.eq_nil_of_length_eq_zero (by simpa using hcx)
    subst hcx0
    refine ⟨g, cap, w, run_append_owned_none (P := P) w 0 t rt ty i sz ht hi _ l.length xs h1, ?_, World.grownBy.refl _ _, .inl rfl⟩
    have := OwnR.pushes (ys := []) (cx := []) (Sx := Sx) K h3 h1 h2 (fun j h => by simp at h) hSx' (by simpa using h1) (World.grownBy.refl _ _) (.inl rfl)
    simpa using this
  | some ad =>
    by_cases hr : l.length + ys.length ≤ cap
    · obtain ⟨w', hrun, r1, r2⟩ := run_append_fits (P := P) w 0 t rt ty i sz ht hi hsize g l.length cap xs h1 ad ys.length c cx hcx (hc ad rfl) h1c hr
      exact ⟨g, cap, w', hrun, OwnR.pushes K h3 h1 h2 hE hSx' r1 r2 (.inl rfl), r2, .inl rfl⟩
    · have hle : l.length ≤ cap := by
        rcases h1.2 with ⟨e, _⟩ | ⟨g1, cap1, cur, e, _, _, h4, _⟩
        · cases e
        · cases e; exact h4
      have hbb : (l.length + ys.length) * bytes ≤ 140737488355328 := by
        have := Nat.mul_le_mul hlen hb200
        omega
      obtain ⟨g', cap', w', hrun, r1, r2, r3⟩ := run_append_new (P := P) w 0 t rt ty i z sz bytes ht hi hz hsize hby hzs hsz _ l.length xs h1 ad ys.length c cx hcx (hc ad rfl) h1c (by simp only [maxLen]; omega) hbb (Nat.zero_le _) (by omega)
      have hgg : g' = g ∨ w.heap.size ≤ g' := r3.elim (fun e => .inl (by simp [Value.ownBlock] at e; exact e.symm)) .inr
      refine ⟨g', cap', w', hrun, OwnR.pushes K h3 h1 h2 hE hSx' r1 r2 ?_, r2, hgg⟩
      rcases r3 with e | e
      · exact .inl (by rw [e]; rfl)
      · exact .inr (fun x hx => by simp [Value.ownBlock] at hx; omega)
theorem wpl_pushes (K : KeepE E) (P : Program) (w : World) {ops : Array Oper} {rest : List Oper} {o : Oper} {a : Act} {Q : Exit → Act → World → Prop} (hgd : o.guard = none) (s x : Operand) (t : TypeId)
    (ho : o.op = .call { callee := .builtin .append, args := #[s, x], argTypes := #[t, t] })
    (i : TypeInfo) (z : Value) (bytes : Nat) (ht : P.underlying t = some (.slice ty)) (hi : P.info? ty = some i) (hz : i.zero = some z)
    (hsize : i.size = sz) (hby : i.bytes = bytes) (hzs : z.cells.size = sz) (hsz : 0 < sz) (hb200 : bytes ≤ 200)
    {S Sx : Nat → Prop} {g n cap : Nat} {l ys : List α} {cx : List Value} (hn : n = l.length) (hs : a.eval s = .slice (some ⟨g, 0, none⟩) n cap) (hown : OwnR E ty sz w 0 S (.slice (some ⟨g, 0, none⟩) n cap) l)
    (ao : Option Addr) (k c : Nat) (hk : k = ys.length) (hx : a.eval x = .slice ao k c) (hcx : cx.length = ys.length * sz) (hnone : ao = none → ys.length = 0 ∧ c = 0) (hc : ∀ ad, ao = some ad → ∀ j u, cx[j]? = some u → w.cell? (ad.add j) = some u) (h1c : ∀ u ∈ cx, u.oneCell' = true)
    (hE : ∀ (j : Nat) (h : j < ys.length), E ys[j] w Sx ((cx.drop (j * sz)).take sz)) (hSx : ∀ b, Sx b → b < w.heap.size ∧ b ≠ g) (hlen : l.length + ys.length ≤ 4294967296)
    (h : ∀ g' cap' w', OwnR E ty sz w' 0 (fun b => S b ∨ Sx b) (.slice (some ⟨g', 0, none⟩) (n + k) cap') (l ++ ys) → w.grownBy w' (some g) → (g' = g ∨ w.heap.size ≤ g') → wpList P ops Q rest (a.put o.dst (.slice (some ⟨g', 0, none⟩) (n + k) cap')) w') : wpList P ops Q (o :: rest) a w := by
  subst hk
  refine wpList_plain hgd fun K' hK' => ?_
  obtain ⟨g', cap', w', hrun, r1, r2, r3⟩ := run_pushes K P w t o.type i z bytes ht hi hz hsize hby hzs hsz hb200 hn hown ao c hcx hnone hc h1c hE hSx hlen
  unfold Oper.wp
  simp [execOp, ho, resolve, invoke, builtin, hs, hx, hrun, Result.andThen]
  exact hK' _ _ (h g' cap' w' r1 r2 r3)
end
/-- rows that lie one behind the other, as one -/
theorem rows_flat {w : World} {b sz : Nat} {Q : Nat → List Value → Prop} {P : Value → Prop} : ∀ (k o : Nat), (∀ j, j < k → ∃ cs, cs.length = sz ∧ (∀ u ∈ cs, P u) ∧ rowAt w b (o + j * sz) cs ∧ Q j cs) →
    ∃ xs : List Value, xs.length = k * sz ∧ (∀ u ∈ xs, P u) ∧ rowAt w b o xs ∧ ∀ j, j < k → Q j ((xs.drop (j * sz)).take sz)
  | 0, o, _ => ⟨[], by simp, fun u hu => by simp at hu, fun j u hu => by simp at hu, fun j hj => by omega⟩
  | k + 1, o, h => by
    obtain ⟨xs, h1, hp, h2, h3⟩ := rows_flat k o (fun j hj => h j (by omega))
    obtain ⟨cs, c1, cp, c2, c3⟩ := h k (by omega)
    refine ⟨xs ++ cs, by simp [h1, c1, Nat.succ_mul], fun u hu => (List.mem_append.1 hu).elim (hp u) (cp u), fun j u hu => ?_, fun j hj => ?_⟩
    · by_cases hj : j < xs.length
      · rw [List.getElem?_append_left hj] at hu
        exact h2 j u hu
      · rw [List.getElem?_append_right (by omega)] at hu
        have := c2 (j - xs.length) u hu
        rwa [show o + k * sz + (j - xs.length) = o + j by omega] at this
    · by_cases hjk : j < k
      · rw [chunk_left h1 hjk]
        exact h3 j hjk
      · obtain rfl : j = k := by omega
        rw [chunk_last h1 c1]
        exact c3
end Go.Proofs.YtfekgeaopchilaaGreatDoor
