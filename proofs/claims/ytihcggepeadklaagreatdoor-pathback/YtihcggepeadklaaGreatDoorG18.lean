/- joined: PtxP PrsP -/
import Derived.Test.YtihcggepeadklaaGreatDoorG15
import Derived.Test.YtihcggepeadklaaGreatDoorG17
import Derived.Lib.ParseIntB
import Derived.Lib.SlTrimSet
/- A path's text, as plain functions. -/
set_option linter.unusedSimpArgs false
set_option linter.unusedVariables false
namespace Go.Proofs.YtihcggepeadklaaGreatDoor
open Go.RowKit Go.Lib
def svT : V → List UInt8
  | .mk k b i s _ _ => scT k b i s
def memT (x : Mem) : List UInt8 := nmT x.1.data.toList ++ 61 :: svT x.2
/-- members, each behind a byte: the first behind the one that is named, each other behind a comma -/
def kyT : UInt8 → List Mem → List UInt8
  | _, [] => []
  | a, x :: t => a :: (memT x ++ kyT 44 t)
/-- members with commas between them -/
def kyV : List Mem → List UInt8
  | [] => []
  | x :: t => memT x ++ kyT 44 t
def ahd (a : UInt8) (j : Nat) : UInt8 := if j = 0 then a else 44
theorem kyT_snoc : ∀ (l : List Mem) (a : UInt8) (x : Mem), kyT a (l ++ [x]) = kyT a l ++ ahd a l.length :: memT x
  | [], a, x => by simp [kyT, ahd]
  | y :: t, a, x => by
    have e : ahd 44 t.length = ahd a (t.length + 1) := by unfold ahd; split <;> simp
    rw [List.cons_append, kyT, kyT, kyT_snoc t 44 x, List.length_cons, e]; simp
theorem kyT_take {l : List Mem} {j : Nat} (a : UInt8) (h : j < l.length) : kyT a (l.take (j + 1)) = kyT a (l.take j) ++ ahd a j :: memT l[j] := by
  rw [List.take_succ_eq_append_getElem h, kyT_snoc, List.length_take, Nat.min_eq_left (Nat.le_of_lt h)]
theorem kyT_kyV {l : List Mem} (a : UInt8) (h : 0 < l.length) : kyT a l = a :: kyV l := by
  cases l with
  | nil => simp at h
  | cons x t => rfl
def elT (e : El) : List UInt8 :=
  if e.kind = 1 then 46 :: nmT e.name.data.toList
  else if e.kind = 3 then 91 :: 61 :: (svT e.item ++ [93])
  else kyT 91 e.key ++ [93]
def txT (p : List El) : List UInt8 := p.flatMap elT
theorem txT_take {p : List El} {j : Nat} (h : j < p.length) : txT (p.take (j + 1)) = txT (p.take j) ++ elT p[j] := by
  rw [List.take_succ_eq_append_getElem h, txT, List.flatMap_append]; simp [txT]
theorem nmT_len (s : ByteArray) : (nmT s.data.toList).length ≤ 2 + 6 * s.size := by
  rw [nmT]
  split
  · have hl : s.data.toList.length = s.size := by simp
    omega
  · exact qt_lenO s
/-- a number of 64 bits inside -/
def in64V : V → Prop
  | .mk _ _ i _ _ _ => In64 i
theorem svT_len {v : V} (h : in64V v) : (svT v).length ≤ 30 * v.wt := by
  obtain ⟨k, b, i, s, l, m⟩ := v
  have := scT_len (k := k) (b := b) (s := s) (i := i) h
  rw [svT, V.wt]; omega
theorem memT_len {x : Mem} (h : in64V x.2) : (memT x).length + 1 ≤ 40 * (x.1.size + x.2.wt) := by
  have h1 := nmT_len x.1
  have h2 := svT_len h
  have h3 := V.wt_pos x.2
  rw [memT, List.length_append, List.length_cons]; omega
theorem kyT_len : ∀ (l : List Mem) (a : UInt8), (∀ x ∈ l, in64V x.2) → (kyT a l).length ≤ 40 * wtM l
  | [], a, _ => by simp [kyT, wtM]
  | (k, v) :: t, a, h => by
    have h1 := memT_len (x := (k, v)) (h _ (by simp))
    have h2 := kyT_len t 44 (fun x hx => h x (by simp [hx]))
    rw [kyT, wtM, List.length_cons, List.length_append]
    simp only at h1
    omega
def in64E (e : El) : Prop := in64V e.item ∧ ∀ x ∈ e.key, in64V x.2
theorem elT_len {e : El} (h : in64E e) : (elT e).length ≤ 40 * e.wt := by
  have h1 := nmT_len e.name
  have h2 := svT_len h.1
  have h3 := V.wt_pos e.item
  have h4 := kyT_len e.key 91 h.2
  rw [elT, El.wt]
  split
  · rw [List.length_cons]; omega
  split
  · rw [List.length_cons, List.length_cons, List.length_append]; simp only [List.length_cons, List.length_nil]; omega
  · rw [List.length_append]; simp only [List.length_cons, List.length_nil]; omega
theorem txT_len : ∀ (p : List El), (∀ e ∈ p, in64E e) → (txT p).length ≤ 40 * wtP p
  | [], _ => by simp [txT, wtP]
  | e :: t, h => by
    have h1 := elT_len (h e (by simp))
    have h2 := txT_len t (fun x hx => h x (by simp [hx]))
    rw [txT] at h2 ⊢
    rw [List.flatMap_cons, List.length_append, wtP]; omega
theorem in64_lies {R : Bool} {w : World} {S : Nat → Prop} {v : V} {cs : List Value} (h : v.lies R w S cs) : in64V v := by
  obtain ⟨k, b, i, s, l, m⟩ := v
  rw [V.lies] at h
  obtain ⟨al, cl, bl, ol, am, cm, bm, om, _, _, hi, _⟩ := h
  exact hi
theorem in64_liesM {w : World} {S : Nat → Prop} {l : List Mem} {b o : Nat} (h : liesM false w S l b o) : ∀ x ∈ l, in64V x.2 := by
  intro x hx
  obtain ⟨j, hj, rfl⟩ := List.getElem_of_mem hx
  obtain ⟨_, _, cs, _, h2⟩ := liesM_get h j hj
  exact in64_lies h2
theorem in64_liesE {w : World} {S : Nat → Prop} {e : El} {cs : List Value} (h : e.lies w S cs) : in64E e := by
  obtain ⟨am, cm, bm, om, is, h0, h1, h2, h3, h4, h5⟩ := h
  exact ⟨in64_lies h5, in64_liesM h4⟩
theorem in64_liesP {w : World} {S : Nat → Prop} {p : List El} {b o : Nat} (h : liesP w S p b o) : ∀ e ∈ p, in64E e := by
  intro x hx
  obtain ⟨j, hj, rfl⟩ := List.getElem_of_mem hx
  obtain ⟨_, cs, _, h2⟩ := h j hj
  exact in64_liesE h2
end Go.Proofs.YtihcggepeadklaaGreatDoor
/- What path.Parse reads, as plain functions: what is read at a place, and the place behind it. -/
namespace Go.Proofs.YtihcggepeadklaaGreatDoor
open Go.RowKit Go.Lib
/-- do these bytes stand at a place? -/
def tkB (l : List UInt8) (k : Nat) (p : List UInt8) : Bool := hasPrefix (l.drop k) p
/-- a quoted string -/
def quoF (l : List UInt8) (k : Nat) : Option (ByteArray × Nat) :=
  if (Q.unqAll l (k : Int)).2.2 = 0 then some (⟨(Q.unqAll l (k : Int)).1.toArray⟩, (Q.unqAll l (k : Int)).2.1) else none
def namF (l : List UInt8) (k : Nat) : Option (ByteArray × Nat) :=
  if 0 < prefN 0 (l.drop k) then some (⟨((l.drop k).take (prefN 0 (l.drop k))).toArray⟩, k + prefN 0 (l.drop k)) else quoF l k
def minDig : List UInt8 := [45, 48, 49, 50, 51, 52, 53, 54, 55, 56, 57]
/-- signs and digits -/
def runT (l : List UInt8) (k : Nat) : List UInt8 := (l.drop k).takeWhile (minDig.contains ·)
def intF (l : List UInt8) (k : Nat) : Option (V × Nat) :=
  match parseIntB 64 (runT l k) with
  | .ok v => some (.mk 2 false v ⟨#[]⟩ [] [], k + (runT l k).length)
  | _ => none
def scaF (l : List UInt8) (k : Nat) : Option (V × Nat) :=
  if tkB l k [116, 114, 117, 101] = true then some (.mk 1 true 0 ⟨#[]⟩ [] [], k + 4)
  else if tkB l k [102, 97, 108, 115, 101] = true then some (.mk 1 false 0 ⟨#[]⟩ [] [], k + 5)
  else if tkB l k [34] = true then (quoF l k).map (fun x => (.mk 3 false 0 x.1 [] [], x.2))
  else intF l k
def memF (l : List UInt8) (k : Nat) : Option (Mem × Nat) :=
  match namF l k with
  | none => none
  | some (n, k1) => if tkB l k1 [61] = true then (scaF l (k1 + 1)).map (fun x => ((n, x.1), x.2)) else none
def keyF (l : List UInt8) : Nat → Nat → List Mem → Option (List Mem × Nat)
  | 0, _, _ => none
  | n + 1, k, acc =>
    match memF l k with
    | none => none
    | some (m, k1) => if tkB l k1 [93] = true then some (acc ++ [m], k1 + 1) else if tkB l k1 [44] = true then keyF l n (k1 + 1) (acc ++ [m]) else none
def nilW : V := .mk 0 false 0 ⟨#[]⟩ [] []
def elmF (l : List UInt8) (k : Nat) : Option (El × Nat) :=
  if tkB l k [46] = true then (namF l (k + 1)).map (fun x => (⟨1, x.1, [], nilW⟩, x.2))
  else if tkB l k [91, 61] = true then
    match scaF l (k + 2) with
    | none => none
    | some (v, k1) => if tkB l k1 [93] = true then some (⟨3, ⟨#[]⟩, [], v⟩, k1 + 1) else none
  else if tkB l k [91] = true then (keyF l 8 (k + 1) []).map (fun x => (⟨2, ⟨#[]⟩, x.1, nilW⟩, x.2))
  else none
/-- an element that may be, and is written just so -/
def nxtF (l : List UInt8) (k : Nat) : Option (El × Nat) :=
  match elmF l k with
  | none => none
  | some (e, k1) => if elB e = true then (if elT e = (l.drop k).take (k1 - k) then some (e, k1) else none) else none
/-- the whole text: the path, the place of a fault, the error -/
def parF (l : List UInt8) : Nat → Nat → List El → List El × Int × Nat
  | 0, k, acc => (acc, -1, 0)
  | n + 1, k, acc =>
    if k < l.length then
      if acc.length = 32 then ([], (k : Int), 90) else
      match nxtF l k with
      | none => ([], (k : Int), 90)
      | some (e, k1) => parF l n k1 (acc ++ [e])
    else (acc, -1, 0)
/-! the places lie within the text -/
theorem tkB_le {l : List UInt8} {k : Nat} {p : List UInt8} (h : tkB l k p = true) (h0 : 0 < p.length) : k + p.length ≤ l.length := by
  unfold tkB hasPrefix at h
  have := (List.isPrefixOf_iff_prefix.1 h).length_le
  rw [List.length_drop] at this
  omega
theorem runT_le (l : List UInt8) (k : Nat) : (runT l k).length ≤ l.length - k := by
  unfold runT
  have := (List.takeWhile_prefix (fun b => minDig.contains b) (l := l.drop k)).length_le
  rw [List.length_drop] at this
  exact this
end Go.Proofs.YtihcggepeadklaaGreatDoor
