/- joined: TwinB ChkA JpsA RdF -/
import Derived.Test.YtpmhdcmmlkjjmaaGreatDoorG6
import Derived.Lib.AppendStr
import Derived.Lib.LaidTab
import Derived.Lib.ItoaNum
/- twin: the walk. -/
set_option linter.unusedSimpArgs false
set_option linter.unusedVariables false
set_option maxRecDepth 100000
namespace Go.Proofs.YtpmhdcmmlkjjmaaGreatDoor
open Go.RowKit
theorem cell_of_block {w : World} {b : Nat} {c : Array Value} {t : TypeId} {f : Nat × Nat} (h : w.heap[b]? = some (.cells c t f)) (i : Nat) : w.cell? ⟨b, i, none⟩ = c[i]? := by simp [World.cell?, h]
theorem frozen_of_block {w : World} {b : Nat} {c : Array Value} {t : TypeId} (h : w.heap[b]? = some (.cells c t (0, 0))) (i : Nat) : w.frozen? ⟨b, i, none⟩ = false := by simp [World.frozen?, h]
/-- the three blocks of the call: the argument, the answer, the value that is made -/
structure TwF (w : World) (box loc : Array Value) (wr : World) : Prop where
  below : Below w.heap.size w wr
  b0 : wr.heap[w.heap.size]? = some (.cells box 25 (0, 0))
  b1 : wr.heap[w.heap.size + 1]? = some (.cells #[.int .i64 0, .bool false, .int .i64 0, .string ⟨#[]⟩, .slice none 0 0, .slice none 0 0] 25 (0, 0))
  b2 : wr.heap[w.heap.size + 1 + 1]? = some (.cells loc 25 (0, 0))
theorem TwF.lt {w : World} {box loc : Array Value} {wr : World} (h : TwF w box loc wr) : w.heap.size + 3 ≤ wr.heap.size := (Array.getElem?_eq_some_iff.1 h.b2).1
theorem TwF.grown {w : World} {box loc : Array Value} {wr wr' : World} (h : TwF w box loc wr) {row : Option Nat} (g : wr.grownBy wr' row) (hr : ∀ r, row = some r → w.heap.size + 3 ≤ r) : TwF w box loc wr' := by
  have hs := h.lt
  have hn : ∀ q, q < w.heap.size + 3 → some q ≠ row := fun q hq e => by have := hr q e.symm; omega
  exact ⟨h.below.grown g (by omega) (fun r e => by have := hr r e; omega), (g.block _ (by omega) (hn _ (by omega))).trans h.b0, (g.block _ (by omega) (hn _ (by omega))).trans h.b1, (g.block _ (by omega) (hn _ (by omega))).trans h.b2⟩
theorem TwF.set {w : World} {box loc loc' : Array Value} {wr : World} (h : TwF w box loc wr) (i : Nat) (u : Value) (e : loc.setIfInBounds i u = loc') : TwF w box loc' (wr.setCell ⟨w.heap.size + 1 + 1, i, none⟩ u) := by
  have hs := h.lt
  have g := grown_set1 wr (w.heap.size + 1 + 1) i u
  have hn : ∀ q, q < w.heap.size + 2 → some q ≠ some (w.heap.size + 1 + 1) := fun q hq e => by have := Option.some.inj e; omega
  refine ⟨h.below.grown g (by omega) (fun r e => by cases e; omega), (g.block _ (by omega) (hn _ (by omega))).trans h.b0, (g.block _ (by omega) (hn _ (by omega))).trans h.b1, ?_⟩
  rw [set_block h.b2, e]
theorem alloc_size (w : World) (o : Obj) : (w.alloc o).heap.size = w.heap.size + 1 := by simp
theorem three_allocs (w : World) (o0 o1 o2 : Obj) : (((w.alloc o0).alloc o1).alloc o2).heap[w.heap.size]? = some o0 ∧ (((w.alloc o0).alloc o1).alloc o2).heap[w.heap.size + 1]? = some o1 ∧ (((w.alloc o0).alloc o1).alloc o2).heap[w.heap.size + 1 + 1]? = some o2 := by
  refine ⟨?_, ?_, ?_⟩
  · rw [Below.heap_alloc _ _ _ (by rw [alloc_size, alloc_size]; omega), Below.heap_alloc _ _ _ (by rw [alloc_size]; omega)]
    exact heap_alloc_new w o0
  · rw [Below.heap_alloc _ _ _ (by rw [alloc_size, alloc_size]; omega)]
    have := heap_alloc_new (w.alloc o0) o1
    rwa [alloc_size] at this
  · have := heap_alloc_new ((w.alloc o0).alloc o1) o2
    rwa [alloc_size, alloc_size] at this
theorem three_below (w : World) (o0 o1 o2 : Obj) : Below w.heap.size w (((w.alloc o0).alloc o1).alloc o2) :=
  (((Below.refl w.heap.size w).alloc (Nat.le_refl _) _).alloc (by rw [alloc_size]; omega) _).alloc (by rw [alloc_size, alloc_size]; omega) _
theorem alloc2_new (w : World) (o o' : Obj) : ((w.alloc o).alloc o').heap[w.heap.size + 1]? = some o' := by
  have := heap_alloc_new (w.alloc o) o'
  rwa [alloc_size] at this
theorem grown_drew (w : World) (row : Option Nat) : w.grownBy w.drew row := ⟨rfl, rfl, rfl, Nat.le_refl _, fun _ _ _ => rfl⟩
theorem OwnR.drew {α : Type} {E : α → World → (Nat → Prop) → List Value → Prop} {ty sz : Nat} (K : KeepE E) {w : World} {base : Nat} {S : Nat → Prop} {v : Value} {l : List α} (h : OwnR E ty sz w base S v l) : OwnR E ty sz w.drew base S v l :=
  h.keep K (grown_drew w none) (fun r e => by cases e)
theorem results_cell1 {fn : Func} {p : Tmp} {ty : TypeId} (h : fn.results = #[.cell p ty]) (tmps : Array Value) (P : Program) (w : World) :
    (results fn tmps).run P w = ((asAddr (tmps.getD p undef)).run P w).andThen fun a w₁ => (loadVar ty a).run P w₁ := by
  simp only [results, h]
  simp [Sem.run_bind, Result.andThen]
theorem one6 {k i : Int} {b : Bool} {s : ByteArray} {p q : Option Addr} {n c n' c' : Nat} : ∀ u ∈ [Value.int .i64 k, .bool b, .int .i64 i, .string s, .slice p n c, .slice q n' c'], u.oneCell' = true := by
  intro u hu
  simp at hu
  rcases hu with rfl | rfl | rfl | rfl | rfl | rfl <;> rfl
theorem one7 {r : ByteArray} {k i : Int} {b : Bool} {s : ByteArray} {p q : Option Addr} {n c n' c' : Nat} : ∀ u ∈ [Value.string r, .int .i64 k, .bool b, .int .i64 i, .string s, .slice p n c, .slice q n' c'], u.oneCell' = true := by
  intro u hu
  simp at hu
  rcases hu with rfl | rfl | rfl | rfl | rfl | rfl | rfl <;> rfl
end Go.Proofs.YtpmhdcmmlkjjmaaGreatDoor
/- value.plain, value.rising. -/
set_option maxRecDepth 100000
namespace Go.Proofs.YtpmhdcmmlkjjmaaGreatDoor
open Go.RowKit Go.Lib
theorem utab_grown {w w' : World} {row : Option Nat} (h : Utf8Tabs 1 2 w) (hb : w.grownBy w' row) (h2 : 2 < w.heap.size) (hr : ∀ r, row = some r → 2 < r) : Utf8Tabs 1 2 w' := by
  have hn : ∀ q, q ≤ 2 → some q ≠ row := fun q hq e => by have := hr q e.symm; omega
  have k1 := hb.block 1 (by omega) (hn 1 (by omega))
  have k2 := hb.block 2 (by omega) (hn 2 (by omega))
  exact ⟨fun c hc => (World.cell?_of_block (w := w) (a := ⟨1, c, none⟩) k1).trans (h.1 c hc), fun i hi => ⟨(World.cell?_of_block (w := w) (a := ⟨2, 2 * i, none⟩) k2).trans (h.2 i hi).1, (World.cell?_of_block (w := w) (a := ⟨2, 2 * i + 1, none⟩) k2).trans (h.2 i hi).2⟩⟩
/-- what the calls read beside their arguments -/
structure Tb (w : World) : Prop where
  u : Utf8Tabs 1 2 w
  z : 2 < w.heap.size
theorem Tb.grown {w w' : World} {row : Option Nat} (h : Tb w) (hb : w.grownBy w' row) (hr : ∀ r, row = some r → 2 < r) : Tb w' := ⟨utab_grown h.u hb h.z hr, Nat.lt_of_lt_of_le h.z hb.size⟩
theorem Tb.below {w w' : World} {B : Nat} (h : Tb w) (hb : Below B w w') (hB : 2 < B) : Tb w' := by
  refine ⟨?_, Nat.lt_of_lt_of_le h.z hb.size⟩
  exact ⟨fun c hc => (hb.cell (p := ⟨1, c, none⟩) (by show 1 < B; omega)).trans (h.u.1 c hc), fun i hi => ⟨(hb.cell (p := ⟨2, 2 * i, none⟩) hB).trans (h.u.2 i hi).1, (hb.cell (p := ⟨2, 2 * i + 1, none⟩) hB).trans (h.u.2 i hi).2⟩⟩
def plainB (k : Int) (b : Bool) (i : Int) (s : ByteArray) (nl nm : Nat) : Bool :=
  decide (0 ≤ k ∧ k ≤ 5 ∧ (k = 1 ∨ b = false) ∧ (k = 2 ∨ i = 0) ∧ (k = 3 ∨ s.toList.isEmpty = true) ∧ (k = 4 ∨ nl = 0) ∧ (k = 5 ∨ nm = 0))
def BPost (r : Bool) (w : World) (e : Ending) (w' : World) : Prop := e = .returned (.bool r) ∧ Below w.heap.size w w'
end Go.Proofs.YtpmhdcmmlkjjmaaGreatDoor
/- json.appendString. -/
set_option maxRecDepth 100000
namespace Go.Proofs.YtpmhdcmmlkjjmaaGreatDoor
open Go.RowKit Go.Lib
/-- strconv's table of powers -/
def PowTab (w : World) : Prop := TabIs Tryz.prog w "internal/strconv.uint64pow10" .u64 pow10Tab
theorem PowTab.below {w w' : World} {B : Nat} (h : PowTab w) (hb : Below B w w') (hB : 9 < B) : PowTab w' := by
  unfold PowTab TabIs World.var? at *
  have hg : Tryz.prog.globalNamed "internal/strconv.uint64pow10" = some 3 := by kernel_rfl
  simp only [hg, Option.bind_some] at h ⊢
  rw [hb.block 3 (by omega)]
  exact h
/-- what an escape says (quote.saidBy) -/
def SaidT (w : World) : Prop := ∀ c : Nat, c < 128 → w.cell? ⟨9, c, none⟩ = some (.int .u8 (Q.saidN c))
theorem SaidT.below {B : Nat} {w w' : World} (h : SaidT w) (hb : Below B w w') (hB : 9 < B) : SaidT w' :=
  fun c hc => (hb.cell (p := ⟨9, c, none⟩) (by show 9 < B; omega)).trans (h c hc)
/-- strconv's two errors -/
def ErrT (w : World) : Prop := ∃ t5 p5 t6 p6, w.cell? ⟨7, 0, none⟩ = some (.iface t5 p5) ∧ w.cell? ⟨8, 0, none⟩ = some (.iface t6 p6)
theorem ErrT.below {B : Nat} {w w' : World} (h : ErrT w) (hb : Below B w w') (hB : 9 < B) : ErrT w' := by
  obtain ⟨t5, p5, t6, p6, h5, h6⟩ := h
  exact ⟨t5, p5, t6, p6, (hb.cell (p := ⟨7, 0, none⟩) (by show 7 < B; omega)).trans h5, (hb.cell (p := ⟨8, 0, none⟩) (by show 8 < B; omega)).trans h6⟩
/-- what the calls read beside their arguments -/
structure Td (w : World) : Prop where
  u : Utf8Tabs 1 2 w
  z : 9 < w.heap.size
  p : PowTab w
  s : SaidT w
  e : ErrT w
theorem Td.below {w w' : World} {B : Nat} (h : Td w) (hb : Below B w w') (hB : 9 < B) (hs : w.heap.size ≤ w'.heap.size) : Td w' :=
  ⟨utab_below h.u hb (by omega), Nat.lt_of_lt_of_le h.z hs, h.p.below hb hB, h.s.below hb hB, h.e.below hb hB⟩
theorem OwnB.below {B : Nat} {v : Value} {l : List UInt8} {w w' : World} (h : OwnB B v l w) (hb : Below w.heap.size w w') : OwnB B v l w' :=
  World.ownsRow.kept h (grown_of_below hb) (Classical.em _)
theorem wpl_str {ops : Array Oper} {rest : List Oper} {o : Oper} {a : Act} {Q : Exit → Act → World → Prop} (w : World) (hgd : o.guard = none) (s x : Operand)
    (ho : o.op = .call { callee := .builtin .append, args := #[s, x], argTypes := #[28, 9] }) (B : Nat) (v : Value) (l : List UInt8) (hs : a.eval s = v) (hown : OwnB B v l w)
    (t : ByteArray) (hx : a.eval x = .string t) (hlen : l.length + t.size ≤ 140737488355328) (hbase : B ≤ w.heap.size)
    (h : ∀ v' w', OwnB B v' (l ++ t.data.toList) w' → Below B w w' → wpList Tryz.prog ops Q rest (a.put o.dst v') w') : wpList Tryz.prog ops Q (o :: rest) a w := by
  obtain ⟨i0, hi, hz0, hz1, hz2⟩ := info_parts info5
  refine wpList_append_own_string w hgd s x 28 9 ho B 5 i0 Tryz.underlying28 Tryz.underlying9 hi hz0 hz1 hz2 v l.length (byteCells l) hs hown t hx (by unfold maxLen; omega) (by omega) hbase ?_
  intro v' w' h1 h2 _
  refine h v' w' ?_ ((Below.refl B w).grown h2 hbase (fun k hk => (World.ownsRow.lt hown k hk).1))
  show w'.ownsRow B 5 1 v' (l ++ t.data.toList).length (byteCells (l ++ t.data.toList))
  have e : byteCells (l ++ t.data.toList) = byteCells l ++ strCells t := by simp [byteCells, strCells]
  have e2 : t.data.toList.length = t.size := by rw [Array.length_toList]; rfl
  rw [e, List.length_append, e2]
  exact h1
/-- bytes that were appended to -/
def ApPost (B : Nat) (l : List UInt8) (w : World) (e : Ending) (w' : World) : Prop := ∃ v', e = .returned v' ∧ OwnB B v' l w' ∧ Below B w w'
end Go.Proofs.YtpmhdcmmlkjjmaaGreatDoor
/- quote's reader: said, number. -/
set_option maxRecDepth 100000
namespace Go.Proofs.YtpmhdcmmlkjjmaaGreatDoor
open Go.RowKit Go.Lib
/-- the said letters' table, cell by cell -/
theorem Q.saidN_hi (n : Nat) (h : 128 ≤ n) : Q.saidN n = 0 := by
  unfold Q.saidN
  repeat' split
  all_goals first | omega | rfl
set_option maxRecDepth 100000 in
set_option maxHeartbeats 400000 in
theorem said_any (n : Nat) (hn : n < 256) (w : World) (hT : SaidT w) :
    Calls Tryz.prog 173 #[.int .u8 n] w fun e w' => e = .returned (.int .u8 (Q.saidN n)) ∧ w' = w := by
  by_cases h : n < 128
  · have hc := hT n h
    have hz : (n : Int) < 128 := by omega
    generalize Q.saidN n = L at *
    clear hT
    go_enter Tryz.func173, Tryz.ntmps173
    go_wp2
    go_ret
    exact ⟨rfl, rfl⟩
  · have hz : (128 : Int) ≤ n := by omega
    rw [Q.saidN_hi n (by omega)]
    clear hT
    go_enter Tryz.func173, Tryz.ntmps173
    go_wp2
    go_ret
    exact ⟨rfl, rfl⟩
theorem hit_yes {s : ByteArray} {k c : Nat} (h : hit s k c = true) : ∃ hk : k < s.size, s[k].toNat = c := by simpa [hit] using h
theorem hit_no {s : ByteArray} {k c : Nat} (h : hit s k c = false) (x : UInt8) (r : List UInt8) (hd : s.data.toList.drop k = x :: r) : x.toNat ≠ c := by
  intro e
  have hk : k < s.size := by
    rcases Nat.lt_or_ge k s.size with h' | h'
    · exact h'
    · rw [drop_endW s k h'] at hd; cases hd
  rw [drop_consW s k hk] at hd
  have : s[k] = x := (List.cons.inj hd).1
  simp [hit, hk, this, e] at h
theorem numF_pre (t : List UInt8) (h : (Q.digs false 4 0 0 t).2.2 = false) : Q.numF t = (0, (Q.digs false 4 0 0 t).2.1, false) := by
  rw [Q.numF, if_pos h]
theorem numF_plain (t : List UInt8) (h : (Q.digs false 4 0 0 t).2.2 = true) (hc : ¬ (55296 ≤ (Q.digs false 4 0 0 t).1 ∧ (Q.digs false 4 0 0 t).1 < 56320)) : Q.numF t = ((Q.digs false 4 0 0 t).1, 4, true) := by
  rw [Q.numF, if_neg (by rw [h]; simp), if_neg hc]
theorem numF_p1 (t : List UInt8) (h : (Q.digs false 4 0 0 t).2.2 = true) (hc : 55296 ≤ (Q.digs false 4 0 0 t).1 ∧ (Q.digs false 4 0 0 t).1 < 56320) (h2 : ∀ x r, t.drop 4 = x :: r → x.toNat ≠ 92) : Q.numF t = (0, 4, false) := by
  rw [Q.numF, if_neg (by rw [h]; simp), if_pos hc]
  split
  · rfl
  · rename_i x r hx
    rw [if_pos (h2 x r hx)]
theorem numF_p2 (t : List UInt8) (h : (Q.digs false 4 0 0 t).2.2 = true) (hc : 55296 ≤ (Q.digs false 4 0 0 t).1 ∧ (Q.digs false 4 0 0 t).1 < 56320) (x : UInt8) (r : List UInt8) (hx : t.drop 4 = x :: r) (h92 : x.toNat = 92) (h2 : ∀ y r2, r = y :: r2 → y.toNat ≠ 117) : Q.numF t = (0, 5, false) := by
  rw [Q.numF, if_neg (by rw [h]; simp), if_pos hc, hx]
  simp only
  rw [if_neg (by omega)]
  split
  · rfl
  · rename_i y r2
    rw [if_pos (h2 y r2 rfl)]
theorem numF_p3 (t : List UInt8) (h : (Q.digs false 4 0 0 t).2.2 = true) (hc : 55296 ≤ (Q.digs false 4 0 0 t).1 ∧ (Q.digs false 4 0 0 t).1 < 56320) (x y : UInt8) (r : List UInt8) (hx : t.drop 4 = x :: y :: r) (h92 : x.toNat = 92) (h117 : y.toNat = 117) :
    Q.numF t = if (Q.digs true 4 0 0 r).2.2 = false then (0, 6 + (Q.digs true 4 0 0 r).2.1, false) else (65536 + 1024 * ((Q.digs false 4 0 0 t).1 - 55296) + ((Q.digs true 4 0 0 r).1 - 56320), 10, true) := by
  rw [Q.numF, if_neg (by rw [h]; simp), if_pos hc, hx]
  simp only
  rw [if_neg (by omega), if_neg (by omega)]
/-- what number, escape and char tell: with ok the bytes are written -/
def Told (B b : Nat) (s : ByteArray) (l : List UInt8) (w : World) (err : Nat) (q : Nat) (ok : Bool) (bs : List UInt8) (e : Ending) (w' : World) : Prop :=
  e = .returned (.int .i64 (if ok then 0 else err)) ∧ Rd B b s q (if ok then l ++ bs else l) w' ∧ Below B w w'
set_option maxHeartbeats 4000000 in
set_option maxRecDepth 100000 in
theorem number_pair (B b : Nat) (s : ByteArray) (k : Nat) (l : List UInt8) (w : World) (h : Rd B b s k l w) (hs : s.size ≤ 281474976710656) (hk : k ≤ s.size) (hlen : l.length + 4 ≤ 140737488355328) (hBw : B ≤ w.heap.size)
    (hok : (Q.digs false 4 0 0 (s.data.toList.drop k)).2.2 = true) (hc : 55296 ≤ (Q.digs false 4 0 0 (s.data.toList.drop k)).1 ∧ (Q.digs false 4 0 0 (s.data.toList.drop k)).1 < 56320) :
    Calls Tryz.prog 172 #[.pointer (some ⟨b, 0, none⟩)] w (Told B b s l w 12 (k + (Q.numF (s.data.toList.drop k)).2.1) (Q.numF (s.data.toList.drop k)).2.2 (encodeRune ((Q.numF (s.data.toList.drop k)).1 : Int))) := by
  have cd := qdigits_any B b s k l false w h hs hk
  have hdl := Q.digs_le false 4 0 0 (s.data.toList.drop k)
  have hlen2 : (s.data.toList.drop k).length = s.size - k := by simp
  rw [hlen2] at hdl
  have hn4 := hdl.2.2.2 hok
  rw [hok, hn4, Nat.zero_add] at cd
  have hk4 : k + 4 ≤ s.size := by omega
  have hd4 : (s.data.toList.drop k).drop 4 = s.data.toList.drop (k + 4) := by rw [List.drop_drop]
  obtain ⟨v, hv⟩ : ∃ v, v = (Q.digs false 4 0 0 (s.data.toList.drop k)).1 := ⟨_, rfl⟩
  have CD : Hid (Calls Tryz.prog 183 #[.pointer (some ⟨b, 0, none⟩), .bool false] w fun e w' => e = .returned (.tuple #[.int .i32 (v : Int), .bool true]) ∧ Rd B b s (k + 4) l w' ∧ Below B w w') := by
    rw [hv]; exact cd
  have hc' := hc
  rw [← hv] at hc'
  have y1 : (55296 : Int) ≤ (v : Int) := by omega
  have y2 : (v : Int) < 56320 := by omega
  cases h92 : hit s (k + 4) 92
  · rw [numF_p1 _ hok hc (by intro x r hx; rw [hd4] at hx; exact hit_no h92 x r hx)]
    clear hdl hlen2 hn4 cd hc hc' hok hd4 hv
    generalize (v : Int) = V at *
    go_enter Tryz.func172, Tryz.ntmps172
    go_wp2_with fail
    refine CD.out.mono ?_
    rintro e w1 ⟨rfl, R1, b1⟩
    go_wp2_with fail
    refine (take_any B b s (k + 4) l 92 w1 R1 hs hk4).mono ?_
    rw [h92]
    rintro e w2 ⟨rfl, R2, b2⟩
    go_wp2
    go_ret
    exact ⟨rfl, R2, b1.trans b2⟩
  · obtain ⟨hk5, he92⟩ := hit_yes h92
    have hx4 := drop_consW s (k + 4) hk5
    have hk5' : k + 5 ≤ s.size := by omega
    cases h117 : hit s (k + 5) 117
    · rw [numF_p2 _ hok hc s[k + 4] _ (by rw [hd4]; exact hx4) he92 (by intro y r2 hy; exact hit_no h117 y r2 hy)]
      clear hdl hlen2 hn4 cd hc hc' hok hd4 hv hx4 he92
      generalize (v : Int) = V at *
      go_enter Tryz.func172, Tryz.ntmps172
      go_wp2_with fail
      refine CD.out.mono ?_
      rintro e w1 ⟨rfl, R1, b1⟩
      go_wp2_with fail
      refine (take_any B b s (k + 4) l 92 w1 R1 hs hk4).mono ?_
      rw [h92]
      rintro e w2 ⟨rfl, R2, b2⟩
      go_wp2_with fail
      refine (take_any B b s (k + 5) l 117 w2 R2 hs hk5').mono ?_
      rw [h117]
      rintro e w3 ⟨rfl, R3, b3⟩
      go_wp2
      go_ret
      exact ⟨rfl, R3, (b1.trans b2).trans b3⟩
    · obtain ⟨hk6, he117⟩ := hit_yes h117
      have hx5 := drop_consW s (k + 5) hk6
      rw [hx5] at hx4
      have hk6' : k + 6 ≤ s.size := by omega
      have hF := numF_p3 _ hok hc s[k + 4] s[k + 5] _ (by rw [hd4]; exact hx4) he92 he117
      rw [hF]
      have ct := fun w2 (R2 : Rd B b s (k + 6) l w2) => qdigits_any B b s (k + 6) l true w2 R2 hs hk6'
      have htl := Q.digs_le true 4 0 0 (s.data.toList.drop (k + 6))
      rw [← hv]
      cases hok2 : (Q.digs true 4 0 0 (s.data.toList.drop (k + 6))).2.2
      · rw [if_pos rfl]
        have CT : Hid (∀ w2, Rd B b s (k + 6) l w2 → Calls Tryz.prog 183 #[.pointer (some ⟨b, 0, none⟩), .bool true] w2 fun e w' => e = .returned (.tuple #[.int .i32 (Q.digs true 4 0 0 (s.data.toList.drop (k + 6))).1, .bool false]) ∧ Rd B b s (k + 6 + (Q.digs true 4 0 0 (s.data.toList.drop (k + 6))).2.1) l w' ∧ Below B w2 w') := by
          intro w2 R2
          have := ct w2 R2
          rw [hok2] at this
          exact this
        have e6 : k + (6 + (Q.digs true 4 0 0 (s.data.toList.drop (k + 5 + 1))).2.1) = k + 6 + (Q.digs true 4 0 0 (s.data.toList.drop (k + 6))).2.1 := by
          show k + (6 + (Q.digs true 4 0 0 (s.data.toList.drop (k + 6))).2.1) = _
          omega
        simp only
        rw [e6]
        clear hdl hlen2 hn4 cd hc hc' hok hd4 hv hx4 he92 he117 hF ct htl hok2 e6 hx5
        generalize Q.digs true 4 0 0 (s.data.toList.drop (k + 6)) = D at *
        generalize (v : Int) = V at *
        obtain ⟨v2, n2, o2⟩ := D
        simp only at *
        go_enter Tryz.func172, Tryz.ntmps172
        go_wp2_with fail
        refine CD.out.mono ?_
        rintro e w1 ⟨rfl, R1, b1⟩
        go_wp2_with fail
        refine (take_any B b s (k + 4) l 92 w1 R1 hs hk4).mono ?_
        rw [h92]
        rintro e w2 ⟨rfl, R2, b2⟩
        go_wp2_with fail
        refine (take_any B b s (k + 5) l 117 w2 R2 hs hk5').mono ?_
        rw [h117]
        rintro e w3 ⟨rfl, R3, b3⟩
        go_wp2_with fail
        refine (CT.out w3 R3).mono ?_
        rintro e w4 ⟨rfl, R4, b4⟩
        go_wp2
        go_ret
        exact ⟨rfl, R4, ((b1.trans b2).trans b3).trans b4⟩
      · rw [if_neg (by simp)]
        have hr2 := (Q.digs_range true _ hok2).2.1 rfl
        have hm := htl.2.2.2 hok2
        have CT : Hid (∀ w2, Rd B b s (k + 6) l w2 → Calls Tryz.prog 183 #[.pointer (some ⟨b, 0, none⟩), .bool true] w2 fun e w' => e = .returned (.tuple #[.int .i32 (Q.digs true 4 0 0 (s.data.toList.drop (k + 6))).1, .bool true]) ∧ Rd B b s (k + 10) l w' ∧ Below B w2 w') := by
          intro w2 R2
          have := ct w2 R2
          rw [hok2, hm] at this
          exact this
        have e6 : (Q.digs true 4 0 0 (s.data.toList.drop (k + 5 + 1))).1 = (Q.digs true 4 0 0 (s.data.toList.drop (k + 6))).1 := rfl
        simp only
        rw [e6]
        clear hdl hlen2 hn4 cd hc hok hd4 hv hx4 he92 he117 hF ct htl hok2 e6 hx5 hm
        generalize (Q.digs true 4 0 0 (s.data.toList.drop (k + 6))).1 = u at *
        obtain ⟨V, hV⟩ : ∃ V : Int, V = (v : Int) := ⟨_, rfl⟩
        obtain ⟨U, hU⟩ : ∃ U : Int, U = (u : Int) := ⟨_, rfl⟩
        have e7 : ((65536 + 1024 * (v - 55296) + (u - 56320) : Nat) : Int) = 65536 + (V - 55296) * 1024 + (U - 56320) := by omega
        have y3 : (56320 : Int) ≤ U := by omega
        have y4 : U ≤ 57343 := by omega
        have WR : Hid (∀ w1, Rd B b s (k + 10) l w1 → B ≤ w1.heap.size → Calls Tryz.prog 176 #[.pointer (some ⟨b, 2, none⟩), .int .i32 (65536 + (V - 55296) * 1024 + (U - 56320))] w1 fun e w' => (∃ m : Int, e = .returned (.tuple #[.int .i64 m, .nilIface])) ∧ Rd B b s (k + 10) (l ++ encodeRune (65536 + (V - 55296) * 1024 + (U - 56320))) w' ∧ Below B w1 w') :=
          fun w1 R1 hb => writeRune_rd B b s (k + 10) l _ (by omega) (by omega) w1 R1 hlen hb
        rw [e7]
        rw [← hV] at CD y1 y2
        rw [← hU] at CT
        clear e7 hV hU hc' hr2 hlen
        generalize hT : encodeRune (65536 + (V - 55296) * 1024 + (U - 56320)) = T at *
        clear hT
        go_enter Tryz.func172, Tryz.ntmps172
        go_wp2_with fail
        refine CD.out.mono ?_
        rintro e w1 ⟨rfl, R1, b1⟩
        go_wp2_with fail
        refine (take_any B b s (k + 4) l 92 w1 R1 hs hk4).mono ?_
        rw [h92]
        rintro e w2 ⟨rfl, R2, b2⟩
        go_wp2_with fail
        refine (take_any B b s (k + 5) l 117 w2 R2 hs hk5').mono ?_
        rw [h117]
        rintro e w3 ⟨rfl, R3, b3⟩
        go_wp2_with fail
        refine (CT.out w3 R3).mono ?_
        rintro e w4 ⟨rfl, R4, b4⟩
        have s4 := (((b1.trans b2).trans b3).trans b4).size
        go_wp2_with fail
        refine (WR.out w4 R4 (by omega)).mono ?_
        rintro e w5 ⟨⟨m, rfl⟩, R5, b5⟩
        go_wp2
        go_ret
        exact ⟨rfl, R5, (((b1.trans b2).trans b3).trans b4).trans b5⟩
set_option maxHeartbeats 4000000 in
set_option maxRecDepth 100000 in
theorem number_any (B b : Nat) (s : ByteArray) (k : Nat) (l : List UInt8) (w : World) (h : Rd B b s k l w) (hs : s.size ≤ 281474976710656) (hk : k ≤ s.size) (hlen : l.length + 4 ≤ 140737488355328) (hBw : B ≤ w.heap.size) :
    Calls Tryz.prog 172 #[.pointer (some ⟨b, 0, none⟩)] w (Told B b s l w 12 (k + (Q.numF (s.data.toList.drop k)).2.1) (Q.numF (s.data.toList.drop k)).2.2 (encodeRune ((Q.numF (s.data.toList.drop k)).1 : Int))) := by
  have cd := qdigits_any B b s k l false w h hs hk
  have hdl := Q.digs_le false 4 0 0 (s.data.toList.drop k)
  have hlen2 : (s.data.toList.drop k).length = s.size - k := by simp
  rw [hlen2] at hdl
  cases hok : (Q.digs false 4 0 0 (s.data.toList.drop k)).2.2
  · rw [numF_pre _ hok]
    rw [hok] at cd
    generalize Q.digs false 4 0 0 (s.data.toList.drop k) = D at *
    obtain ⟨v, n, ok⟩ := D
    simp only at *
    clear hok
    go_enter Tryz.func172, Tryz.ntmps172
    go_wp2_with (go_at_call 183; refine cd.mono ?_; rintro e w1 ⟨rfl, R1, b1⟩)
    go_ret
    exact ⟨rfl, R1, b1⟩
  · have hrg := Q.digs_range false _ hok
    have hn4 := hdl.2.2.2 hok
    rw [hok, hn4] at cd
    by_cases hc : 55296 ≤ (Q.digs false 4 0 0 (s.data.toList.drop k)).1 ∧ (Q.digs false 4 0 0 (s.data.toList.drop k)).1 < 56320
    · exact number_pair B b s k l w h hs hk hlen hBw hok hc
    · rw [numF_plain _ hok hc]
      generalize Q.digs false 4 0 0 (s.data.toList.drop k) = D at *
      obtain ⟨v, n, ok⟩ := D
      simp only at *
      have hv := hrg.1
      have CD : Hid (Calls Tryz.prog 183 #[.pointer (some ⟨b, 0, none⟩), .bool false] w fun e w' => e = .returned (.tuple #[.int .i32 (v : Int), .bool true]) ∧ Rd B b s (k + 4) l w' ∧ Below B w w') := by
        rw [Nat.zero_add] at cd
        exact cd
      have WR : Hid (∀ w1, Rd B b s (k + 4) l w1 → B ≤ w1.heap.size → Calls Tryz.prog 176 #[.pointer (some ⟨b, 2, none⟩), .int .i32 (v : Int)] w1 fun e w' => (∃ m : Int, e = .returned (.tuple #[.int .i64 m, .nilIface])) ∧ Rd B b s (k + 4) (l ++ encodeRune (v : Int)) w' ∧ Below B w1 w') :=
        fun w1 R1 hb => writeRune_rd B b s (k + 4) l (v : Int) (by omega) (by omega) w1 R1 hlen hb
      generalize encodeRune (v : Int) = T at *
      have hcase : (v : Int) < 55296 ∨ (55296 ≤ (v : Int) ∧ 56320 ≤ (v : Int)) := by omega
      clear hok hrg cd hc hdl hn4 hlen2 hlen hv
      generalize (v : Int) = V at *
      rcases hcase with hlo | hlo
      · have y1 : ¬ (55296 : Int) ≤ V := by omega
        clear hlo
        go_enter Tryz.func172, Tryz.ntmps172
        go_wp2_with (go_at_call 183; refine CD.out.mono ?_; rintro e w1 ⟨rfl, R1, b1⟩)
        refine (WR.out _ R1 (by have := b1.size; omega)).mono ?_
        rintro e w2 ⟨⟨m, rfl⟩, R2, b2⟩
        go_wp2
        go_ret
        exact ⟨rfl, R2, b1.trans b2⟩
      · have y1 : (55296 : Int) ≤ V := by omega
        have y2 : ¬ V < 56320 := by omega
        clear hlo
        go_enter Tryz.func172, Tryz.ntmps172
        go_wp2_with (go_at_call 183; refine CD.out.mono ?_; rintro e w1 ⟨rfl, R1, b1⟩)
        refine (WR.out _ R1 (by have := b1.size; omega)).mono ?_
        rintro e w2 ⟨⟨m, rfl⟩, R2, b2⟩
        go_wp2
        go_ret
        exact ⟨rfl, R2, b1.trans b2⟩
end Go.Proofs.YtpmhdcmmlkjjmaaGreatDoor
