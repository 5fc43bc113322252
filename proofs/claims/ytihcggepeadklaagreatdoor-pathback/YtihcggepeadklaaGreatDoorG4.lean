/- joined: RowA PthA RowQ Utf Plain WalksA -/
import Derived.Test.YtihcggepeadklaaGreatDoorRows
import Derived.Test.YtihcggepeadklaaGreatDoorG3
import Derived.Lib.LaidIn
import Derived.Lib.LaidU8T
import Derived.WideKeyArgs
import Derived.OpenShut
import Derived.Deep.DeepHandedRow
import Derived.Lib.ValidLaws
import Derived.WalkMore
/- What the rows need: the tables, the arguments opened and given back, a world for the witness. -/
namespace Go.Proofs.YtihcggepeadklaaGreatDoor
open Go.Shelf Go.Lib Go.ChangeShapes Go.RowKit
theorem accept_eq : Rows.laid_unicode_utf8_acceptRanges = Lib.acceptData := by kernel_rfl
theorem first_eq : Rows.laid_unicode_utf8_first = Lib.firstData := by kernel_rfl
theorem utabs_of {W : World} (h3 : VarReads Tryz.prog W "unicode/utf8.first" Rows.laid_unicode_utf8_first) (h4 : VarReads Tryz.prog W "unicode/utf8.acceptRanges" Rows.laid_unicode_utf8_acceptRanges) : Utf8Tabs 0 1 W := by
  rw [first_eq] at h3
  rw [accept_eq] at h4
  exact utf8Tabs_of_readsT (U8Types.of196 Tryz.lays196) ⟨by kernel_rfl, by kernel_rfl, by kernel_rfl, by kernel_rfl, by kernel_rfl, by kernel_rfl, by kernel_rfl⟩ h3 h4
theorem laidOut' : laidOutB Tryz.prog = true := by kernel_rfl
theorem own : ownKnob Tryz.prog.godebug = none := by kernel_rfl
def putCells (cs : Array Value) : Obj → Obj
  | .cells _ t frozen => .cells cs t frozen
  | o => o
theorem below_same {B : Nat} {w w' : World} (h : Below B w w') : ∀ {p : MemPlace}, p.block < B → w.sameAt w' p
  | .cell b off, hp => by
    show w'.cell? ⟨b, off, none⟩ = w.cell? ⟨b, off, none⟩
    exact h.cell (p := ⟨b, off, none⟩) hp
  | .map b, hp => h.block b hp
variable {H : Type} {enc : TypeId × Value → H}
theorem block_lt {W : World} {b o : Nat} {v : Value} (h : W.cell? ⟨b, o, none⟩ = some v) : b < W.heap.size := World.block_lt_of_cell? W ⟨b, o, none⟩ h
end Go.Proofs.YtihcggepeadklaaGreatDoor
/- Elements and paths: what they are, how they lie in memory, how an argument is opened. -/
set_option linter.unusedSimpArgs false
set_option linter.unusedVariables false
namespace Go.Proofs.YtihcggepeadklaaGreatDoor
open Go.ChangeShapes Go.WideShapes Go.Deep
structure El where
  kind : Int
  name : ByteArray
  key : List Mem
  item : V
theorem hmk {P : Prop} (h : P) : Go.RowKit.Hid P := h
/-- the element lies in these nine cells, and below in blocks of S -/
def El.lies (w : World) (S : Nat → Prop) (e : El) (cs : List Value) : Prop :=
  ∃ am cm bm om is, cs = .int .i64 e.kind :: .string e.name :: .slice am e.key.length cm :: is ∧ In64 e.kind ∧ e.name.size ≤ maxLen ∧ Headed am e.key.length cm bm om ∧ liesM false w S e.key bm om ∧ e.item.lies false w S is
def liesP (w : World) (S : Nat → Prop) (p : List El) (b o : Nat) : Prop := ∀ (j : Nat) (h : j < p.length), S b ∧ ∃ cs, rowAt w b (o + j * 9) cs ∧ (p[j]).lies w S cs
theorem El.lies_keep {w w' : World} {S S' : Nat → Prop} (hw : ∀ b, S b → w'.heap[b]? = w.heap[b]?) (hS : ∀ b, S b → S' b) {e : El} {cs : List Value} (h : e.lies w S cs) : e.lies w' S' cs := by
  obtain ⟨am, cm, bm, om, is, h0, h1, h2, h3, h4, h5⟩ := h
  exact ⟨am, cm, bm, om, is, h0, h1, h2, h3, liesM_keep (fun h => h) hw hS _ h4, V.lies_keep (fun h => h) hw hS _ h5⟩
theorem liesP_keep {w w' : World} {S S' : Nat → Prop} (hw : ∀ b, S b → w'.heap[b]? = w.heap[b]?) (hS : ∀ b, S b → S' b) {p : List El} {b o : Nat} (h : liesP w S p b o) : liesP w' S' p b o := fun j hj => by
  obtain ⟨h1, cs, h2, h3⟩ := h j hj
  exact ⟨hS _ h1, cs, h2.keep (hw _ h1), El.lies_keep hw hS h3⟩
theorem liesP_sub {w : World} {S : Nat → Prop} {p : List El} {b o : Nat} (h : liesP w S p b o) (n : Nat) : liesP w S (p.take n) b o := fun j hj => by
  have hj' : j < p.length := by simp at hj; omega
  have := h j hj'
  simpa using this
/-- the nine cells -/
theorem El.nine {w : World} {S : Nat → Prop} {e : El} {cs : List Value} (h : e.lies w S cs) : ∃ k s am nm cm vk vb vi vs val vnl vcl vam vnm vcm, cs = [.int .i64 k, .string s, .slice am nm cm, .int .i64 vk, .bool vb, .int .i64 vi, .string vs, .slice val vnl vcl, .slice vam vnm vcm] := by
  obtain ⟨am, cm, bm, om, is, rfl, _, _, _, _, h5⟩ := h
  obtain ⟨k, n, ky, v⟩ := e
  obtain ⟨vk, vb, vi, vs, vl, vm⟩ := v
  rw [V.lies] at h5
  obtain ⟨al, cl, bl, ol, am', cm', bm', om', rfl, _⟩ := h5
  exact ⟨_, _, _, _, _, _, _, _, _, _, _, _, _, _, _, rfl⟩
theorem row9 {w : World} {b o : Nat} {c0 c1 c2 c3 c4 c5 c6 c7 c8 : Value} (h : rowAt w b o [c0, c1, c2, c3, c4, c5, c6, c7, c8]) :
    w.cell? ⟨b, o, none⟩ = some c0 ∧ w.cell? ⟨b, o + 1, none⟩ = some c1 ∧ w.cell? ⟨b, o + 2, none⟩ = some c2 ∧ w.cell? ⟨b, o + 3, none⟩ = some c3 ∧ w.cell? ⟨b, o + 4, none⟩ = some c4 ∧ w.cell? ⟨b, o + 5, none⟩ = some c5 ∧ w.cell? ⟨b, o + 6, none⟩ = some c6 ∧ w.cell? ⟨b, o + 7, none⟩ = some c7 ∧ w.cell? ⟨b, o + 8, none⟩ = some c8 :=
  ⟨h 0 _ rfl, h 1 _ rfl, h 2 _ rfl, h 3 _ rfl, h 4 _ rfl, h 5 _ rfl, h 6 _ rfl, h 7 _ rfl, h 8 _ rfl⟩
theorem row9z {w : World} {b : Nat} {c0 c1 c2 c3 c4 c5 c6 c7 c8 : Value} (h : rowAt w b 0 [c0, c1, c2, c3, c4, c5, c6, c7, c8]) :
    w.cell? ⟨b, 0, none⟩ = some c0 ∧ w.cell? ⟨b, 1, none⟩ = some c1 ∧ w.cell? ⟨b, 2, none⟩ = some c2 ∧ w.cell? ⟨b, 3, none⟩ = some c3 ∧ w.cell? ⟨b, 4, none⟩ = some c4 ∧ w.cell? ⟨b, 5, none⟩ = some c5 ∧ w.cell? ⟨b, 6, none⟩ = some c6 ∧ w.cell? ⟨b, 7, none⟩ = some c7 ∧ w.cell? ⟨b, 8, none⟩ = some c8 := by
  have := row9 h
  simpa using this
/-- how many bytes and values -/
def El.wt (e : El) : Nat := e.item.wt + e.name.size + wtM e.key
def wtP : List El → Nat
  | [] => 0
  | e :: t => e.wt + wtP t
theorem El.wt_pos (e : El) : 1 ≤ e.wt := by have := V.wt_pos e.item; unfold El.wt; omega
theorem wtP_len : ∀ p : List El, p.length ≤ wtP p
  | [] => by simp [wtP]
  | e :: t => by have := El.wt_pos e; have := wtP_len t; simp only [wtP, List.length_cons]; omega
theorem wtP_mem : ∀ {p : List El} {e : El}, e ∈ p → e.wt ≤ wtP p
  | [], e, h => by cases h
  | y :: t, e, h => by
    rcases List.mem_cons.1 h with rfl | h
    · simp only [wtP]; omega
    · have := wtP_mem h; simp only [wtP]; omega
theorem wtP_app : ∀ a b : List El, wtP (a ++ b) = wtP a + wtP b
  | [], b => by simp [wtP]
  | x :: t, b => by have := wtP_app t b; simp only [wtP, List.cons_append]; omega
theorem take_succ_wtP {l : List El} {j : Nat} (h : j < l.length) : wtP (l.take (j + 1)) = wtP (l.take j) + (l[j]).wt := by
  rw [List.take_succ_eq_append_getElem h, wtP_app]; simp [wtP]
theorem cellsP35 : Tryz.prog.cellsOf 48 = 9 := by kernel_rfl
theorem cellsP30 : Tryz.prog.cellsOf 43 = 1 := by kernel_rfl
theorem cellsP33 : Tryz.prog.cellsOf 46 = 6 := by kernel_rfl
theorem len9 {α : Type} {l : List α} (h : l.length = 9) : ∃ c0 c1 c2 c3 c4 c5 c6 c7 c8, l = [c0, c1, c2, c3, c4, c5, c6, c7, c8] := by
  match l, h with
  | [c0, c1, c2, c3, c4, c5, c6, c7, c8], _ => exact ⟨_, _, _, _, _, _, _, _, _, rfl⟩
section
variable {H : Type} {enc : TypeId × Value → H} {w : World} {spare : Nat → Bool} {held : Bool}
end
end Go.Proofs.YtihcggepeadklaaGreatDoor
/- What the row of PathPairs needs: a path opened and given back. -/
namespace Go.Proofs.YtihcggepeadklaaGreatDoor
open Go.Shelf Go.Lib Go.ChangeShapes Go.RowKit
variable {H : Type} {enc : TypeId × Value → H}
theorem back23 {W W' : World} {v : Value} {d : DataW H} {p : List MemPlace} (h : DataW.Trod enc Tryz.prog W 0 (fun _ => true) true 23 v d p) (hlt : ∀ x ∈ p, x.block < W.heap.size) (hb : Below W.heap.size W W') :
    DataW.Trod enc Tryz.prog W' 0 (fun b => decide (b < W.heap.size)) true 23 v d p :=
  WideElems.Trod_stays (P := Tryz.prog) laidOut' (by kernel_rfl) (of_decide_eq_true (by kernel_rfl)) h (fun x hx => below_same hb (hlt x hx)) (fun x hx => by simpa using hlt x hx)
end Go.Proofs.YtihcggepeadklaaGreatDoor
/- Plain facts on UTF-8, sequence by sequence. -/
namespace Go.Proofs.YtihcggepeadklaaGreatDoor.Q
/-- the first byte of a sequence: how many bytes, the least and the greatest second byte -/
def bnd (b : Nat) : Nat × Nat × Nat :=
  if b < 128 then (1, 0, 0) else if 194 ≤ b ∧ b < 224 then (2, 128, 191) else if b = 224 then (3, 160, 191) else if b = 237 then (3, 128, 159)
  else if 224 < b ∧ b < 240 then (3, 128, 191) else if b = 240 then (4, 144, 191) else if b = 244 then (4, 128, 143) else if 240 < b ∧ b < 244 then (4, 128, 191) else (0, 0, 0)
/-- from the k-th byte of a sequence of n on -/
def nxtGo (n : Nat) : Nat → Nat → Nat → List UInt8 → Nat × Bool
  | k, lo, hi, [] => if n ≤ k then (n, true) else (k, false)
  | k, lo, hi, c :: t => if n ≤ k then (n, true) else if c.toNat < lo ∨ hi < c.toNat then (k, false) else nxtGo n (k + 1) 128 191 t
/-- the sequence at the head: how far it goes, and whether it is whole -/
def nxt : List UInt8 → Nat × Bool
  | [] => (0, false)
  | b :: t => if (bnd b.toNat).1 = 0 then (0, false) else nxtGo (bnd b.toNat).1 1 (bnd b.toNat).2.1 (bnd b.toNat).2.2 t
theorem nxt_cons (b : UInt8) (t : List UInt8) : nxt (b :: t) = if (bnd b.toNat).1 = 0 then (0, false) else nxtGo (bnd b.toNat).1 1 (bnd b.toNat).2.1 (bnd b.toNat).2.2 t := rfl
theorem nxtGo_le (n : Nat) : ∀ (t : List UInt8) (k lo hi : Nat), 1 ≤ k → k ≤ n → k ≤ (nxtGo n k lo hi t).1 ∧ (nxtGo n k lo hi t).1 ≤ k + t.length ∧ (nxtGo n k lo hi t).1 ≤ n ∧ ((nxtGo n k lo hi t).2 = true → (nxtGo n k lo hi t).1 = n)
  | [], k, lo, hi, h, hn => by
    unfold nxtGo
    split <;> simp <;> omega
  | c :: t, k, lo, hi, h, hn => by
    unfold nxtGo
    split
    · simp; omega
    · split
      · simp; omega
      · have := nxtGo_le n t (k + 1) 128 191 (by omega) (by omega)
        simp only [List.length_cons]
        refine ⟨by omega, by omega, this.2.2⟩
theorem bnd_le (b : Nat) : (bnd b).1 ≤ 4 := by
  unfold bnd
  repeat' split
  all_goals simp
theorem nxt_le (l : List UInt8) : (nxt l).1 ≤ l.length ∧ (nxt l).1 ≤ 4 ∧ ((nxt l).2 = true → 1 ≤ (nxt l).1) := by
  cases l with
  | nil => simp [nxt]
  | cons b t =>
    rw [nxt_cons]
    split
    · simp
    · have := nxtGo_le (bnd b.toNat).1 t 1 (bnd b.toNat).2.1 (bnd b.toNat).2.2 (by omega) (by omega)
      have hb := bnd_le b.toNat
      simp only [List.length_cons]
      refine ⟨by omega, by omega, fun _ => by omega⟩
theorem bnd_tab : ∀ b : Fin 256, 128 ≤ b.val → (bnd b.val).1 = (if Lib.firstT b.val % 8 = 1 then 0 else Lib.firstT b.val % 8) ∧ ((bnd b.val).1 = 0 ∨ (bnd b.val).1 = 2 ∨ (bnd b.val).1 = 3 ∨ (bnd b.val).1 = 4) ∧ ((bnd b.val).1 ≠ 0 → (bnd b.val).2.1 = Lib.accLo (Lib.firstT b.val / 16) ∧ (bnd b.val).2.2 = Lib.accHi (Lib.firstT b.val / 16)) := by decide +kernel
theorem nxt_check (b : UInt8) (t : List UInt8) (hb : 128 ≤ b.toNat) :
    Lib.checkN (t.length + 1) (t.getD 0 0).toNat (t.getD 1 0).toNat (t.getD 2 0).toNat (Lib.firstT b.toNat % 8) (Lib.accLo (Lib.firstT b.toNat / 16)) (Lib.accHi (Lib.firstT b.toNat / 16)) = (if (nxt (b :: t)).2 then some (nxt (b :: t)).1 else none) := by
  obtain ⟨h1, h2, h3⟩ := bnd_tab ⟨b.toNat, b.toNat_lt⟩ hb
  simp only at h1 h2 h3
  rw [nxt_cons]
  generalize bnd b.toNat = B at *
  obtain ⟨n, lo, hi⟩ := B
  simp only at h1 h2 h3 ⊢
  rcases h2 with rfl | rfl | rfl | rfl
  · have e : Lib.firstT b.toNat % 8 = 1 ∨ Lib.firstT b.toNat % 8 = 0 := by split at h1 <;> omega
    rcases e with e | e <;> simp [Lib.checkN, e]
  · have e : Lib.firstT b.toNat % 8 = 2 := by split at h1 <;> omega
    obtain ⟨rfl, rfl⟩ := h3 (by omega)
    rw [e]
    rcases t with _ | ⟨c1, t⟩
    · simp [Lib.checkN, nxtGo]
    · simp only [Lib.checkN, nxtGo, List.length_cons, List.getD_cons_zero]
      by_cases c : c1.toNat < Lib.accLo (Lib.firstT b.toNat / 16) ∨ Lib.accHi (Lib.firstT b.toNat / 16) < c1.toNat
      · simp [c]
      · cases t <;> simp [c, nxtGo]
  · have e : Lib.firstT b.toNat % 8 = 3 := by split at h1 <;> omega
    obtain ⟨rfl, rfl⟩ := h3 (by omega)
    rw [e]
    generalize Lib.accLo (Lib.firstT b.toNat / 16) = lo
    generalize Lib.accHi (Lib.firstT b.toNat / 16) = hi
    rcases t with _ | ⟨c1, t⟩
    · simp [Lib.checkN, nxtGo]
    · by_cases c : c1.toNat < lo ∨ hi < c1.toNat
      · simp only [Lib.checkN, nxtGo, List.length_cons, List.getD_cons_zero]
        rcases c with c | c <;> simp [c]
      · have c' := not_or.1 c
        rcases t with _ | ⟨c2, t⟩
        · simp [Lib.checkN, nxtGo, c]
        · by_cases d : c2.toNat < 128 ∨ 191 < c2.toNat
          · rcases d with d | d <;> simp [Lib.checkN, nxtGo, c, c'.1, c'.2, d]
          · have d' := not_or.1 d
            cases t <;> simp [Lib.checkN, nxtGo, c, d, c'.1, c'.2, d'.1, d'.2]
  · have e : Lib.firstT b.toNat % 8 = 4 := by split at h1 <;> omega
    obtain ⟨rfl, rfl⟩ := h3 (by omega)
    rw [e]
    generalize Lib.accLo (Lib.firstT b.toNat / 16) = lo
    generalize Lib.accHi (Lib.firstT b.toNat / 16) = hi
    rcases t with _ | ⟨c1, t⟩
    · simp [Lib.checkN, nxtGo]
    · by_cases c : c1.toNat < lo ∨ hi < c1.toNat
      · simp only [Lib.checkN, nxtGo, List.length_cons, List.getD_cons_zero]
        rcases c with c | c <;> simp [c]
      · have c' := not_or.1 c
        rcases t with _ | ⟨c2, t⟩
        · simp [Lib.checkN, nxtGo, c]
        · by_cases d : c2.toNat < 128 ∨ 191 < c2.toNat
          · rcases d with d | d <;> simp [Lib.checkN, nxtGo, c, c'.1, c'.2, d]
          · have d' := not_or.1 d
            rcases t with _ | ⟨c3, t⟩
            · simp [Lib.checkN, nxtGo, c, d]
            · by_cases f : c3.toNat < 128 ∨ 191 < c3.toNat
              · rcases f with f | f <;> simp [Lib.checkN, nxtGo, c, d, c'.1, c'.2, d'.1, d'.2, f]
              · have f' := not_or.1 f
                cases t <;> simp [Lib.checkN, nxtGo, c, d, f, c'.1, c'.2, d'.1, d'.2, f'.1, f'.2]
/-- 'valid', sequence by sequence. -/
theorem valid_step (l : List UInt8) (hne : l ≠ []) : Lib.validD l = (if (nxt l).2 then Lib.validD (l.drop (nxt l).1) else false) := by
  cases l with
  | nil => exact absurd rfl hne
  | cons b t =>
    by_cases hb : b.toNat < 128
    · rw [Lib.validD_cons b t hb]
      have e : nxt (b :: t) = (1, true) := by
        have : bnd b.toNat = (1, 0, 0) := by simp [bnd, hb]
        cases t <;> simp [nxt_cons, this, nxtGo]
      rw [e]
      rfl
    · have h := Lib.validD_lead (b :: t) hne (by simpa using (by omega : 128 ≤ b.toNat))
      rw [h]
      have k := nxt_check b t (by omega)
      simp only [List.getD_cons_zero, List.getD_cons_succ, List.length_cons] at k ⊢
      rw [k]
      by_cases g : (nxt (b :: t)).2 = true
      · simp [g]
      · simp [g]
end Go.Proofs.YtihcggepeadklaaGreatDoor.Q
/- Plain facts on bytes for layer 1 (quote): letters, quoted texts, sequences. Nothing of the program here. -/
namespace Go.Proofs.YtihcggepeadklaaGreatDoor.Q
/-- the letter that a backslash writes a byte with; 0: none -/
def letN (c : Nat) : Nat :=
  if c = 34 then 34 else if c = 92 then 92 else if c = 8 then 98 else if c = 9 then 116 else if c = 10 then 110 else if c = 12 then 102 else if c = 13 then 114 else 0
def hexN (d : Nat) : Nat := if d < 10 then 48 + d else 87 + d
def widN (c : Nat) : Nat := if letN c ≠ 0 then 2 else if c < 32 then 6 else 1
/-- what is written for one byte, as numbers -/
def escN (c : Nat) : List Nat :=
  if letN c ≠ 0 then [92, letN c] else if c < 32 then [92, 117, 48, 48, hexN (c / 16), hexN (c % 16)] else [c]
theorem escN_length (c : Nat) : (escN c).length = widN c := by
  unfold escN widN
  split
  · rfl
  · split <;> rfl
theorem widN_le (c : Nat) : 1 ≤ widN c ∧ widN c ≤ 6 := by
  unfold widN
  split
  · omega
  · split <;> omega
def esc (c : UInt8) : List UInt8 := (escN c.toNat).map UInt8.ofNat
def wid (c : UInt8) : Nat := widN c.toNat
theorem esc_length (c : UInt8) : (esc c).length = wid c := by
  unfold esc wid
  rw [List.length_map, escN_length]
def body (l : List UInt8) : List UInt8 := l.flatMap esc
def sz (l : List UInt8) : Nat := (body l).length
theorem body_snoc (l : List UInt8) (c : UInt8) : body (l ++ [c]) = body l ++ esc c := by
  simp [body]
theorem sz_snoc (l : List UInt8) (c : UInt8) : sz (l ++ [c]) = sz l + wid c := by
  simp only [sz, body_snoc, List.length_append, esc_length]
theorem sz_le (l : List UInt8) : sz l ≤ 6 * l.length := by
  induction l with
  | nil => simp [sz, body]
  | cons c t ih =>
    have h : sz (c :: t) = wid c + sz t := by simp [sz, body, esc_length]
    have := (widN_le c.toNat).2
    have hw : wid c ≤ 6 := this
    rw [h, List.length_cons]
    omega
def qt (l : List UInt8) : List UInt8 := 34 :: (body l ++ [34])
theorem qt_length (l : List UInt8) : (qt l).length = 2 + sz l := by
  simp [qt, sz]; omega
end Go.Proofs.YtihcggepeadklaaGreatDoor.Q
/- Contracts: letter, width, bounds, Next, the document's Valid. -/
namespace Go.Proofs.YtihcggepeadklaaGreatDoor
open Go.RowKit Go.Lib
/-- the letters' table, cell by cell -/
def LetTab (w : World) : Prop := ∀ c : Nat, c < 128 → w.cell? ⟨3, c, none⟩ = some (.int .u8 (Q.letN c))
theorem Q.letN_hi (n : Nat) (h : 128 ≤ n) : Q.letN n = 0 := by
  unfold Q.letN
  repeat' split
  all_goals first | omega | rfl
set_option maxRecDepth 100000 in
set_option maxHeartbeats 400000 in
theorem letter_any (n : Nat) (hn : n < 256) (w : World) (hT : LetTab w) :
    Calls Tryz.prog 150 #[.int .u8 n] w fun e w' => e = .returned (.int .u8 (Q.letN n)) ∧ w' = w := by
  by_cases h : n < 128
  · have hc := hT n h
    have hz : (n : Int) < 128 := by omega
    generalize Q.letN n = L at *
    clear hT
    go_enter Tryz.func150, Tryz.ntmps150
    go_wp2
    go_ret
    exact ⟨rfl, rfl⟩
  · have hz : (128 : Int) ≤ n := by omega
    rw [Q.letN_hi n (by omega)]
    clear hT
    go_enter Tryz.func150, Tryz.ntmps150
    go_wp2
    go_ret
    exact ⟨rfl, rfl⟩
set_option maxHeartbeats 400000 in
theorem width_any (n : Nat) (hn : n < 256) (w : World) (hT : LetTab w) :
    Calls Tryz.prog 148 #[.int .u8 n] w fun e w' => e = .returned (.int .i64 (Q.widN n)) ∧ w' = w := by
  have c := letter_any n hn w hT
  clear hT
  by_cases h : Q.letN n = 0
  · rw [h] at c
    by_cases h2 : n < 32
    · have e : Q.widN n = 6 := by simp [Q.widN, h, h2]
      rw [e]
      have hz : (n : Int) < 32 := by omega
      clear e h
      go_enter Tryz.func148, Tryz.ntmps148
      go_wp2_with (go_at_call 150; refine c.mono ?_; rintro e w' ⟨rfl, rfl⟩)
      go_ret
      exact ⟨rfl, rfl⟩
    · have e : Q.widN n = 1 := by simp [Q.widN, h, h2]
      rw [e]
      have hz : ¬ (n : Int) < 32 := by omega
      clear e h
      go_enter Tryz.func148, Tryz.ntmps148
      go_wp2_with (go_at_call 150; refine c.mono ?_; rintro e w' ⟨rfl, rfl⟩)
      go_ret
      exact ⟨rfl, rfl⟩
  · have e : Q.widN n = 2 := by simp [Q.widN, h]
    rw [e]
    have hb : ((Q.letN n : Int) == 0) = false := by rw [beq_eq_false_iff_ne]; omega
    have hb2 : ((Q.letN n : Int) != 0) = true := by rw [bne_iff_ne]; omega
    clear e
    generalize Q.letN n = L at *
    go_enter Tryz.func148, Tryz.ntmps148
    go_wp2_with (go_at_call 150; refine c.mono ?_; rintro e w' ⟨rfl, rfl⟩)
    go_ret
    exact ⟨rfl, rfl⟩
theorem drop_consW (s : ByteArray) (k : Nat) (h : k < s.size) : s.data.toList.drop k = s[k] :: s.data.toList.drop (k + 1) := by
  rw [List.drop_eq_getElem_cons (by simpa using h)]
  rfl
theorem drop_endW (s : ByteArray) (k : Nat) (h : s.size ≤ k) : s.data.toList.drop k = [] := by
  rw [List.drop_eq_nil_iff]
  simpa using h
end Go.Proofs.YtihcggepeadklaaGreatDoor
