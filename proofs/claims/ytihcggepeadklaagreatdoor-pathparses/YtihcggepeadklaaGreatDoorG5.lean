/- joined: Own PlainU PlainV JpsA -/
import Derived.Deep.AppendLies
import Derived.Laws.IdiomStrings
import Derived.Laws.BytesArg
import Derived.Lib.UnsafeStr
import Derived.Lib.MapLaws
import Derived.Test.YtihcggepeadklaaGreatDoorG4
import Derived.Lib.AppendStr
import Derived.Lib.LaidTab
import Derived.Lib.ItoaNum
/- Rows of bytes that a call owns: append onto them, and their string. -/
set_option linter.unusedSimpArgs false
set_option linter.unusedVariables false
namespace Go.Proofs.YtihcggepeadklaaGreatDoor
open Go.RowKit
theorem info5 : (Tryz.prog.info? 5).map (fun i => (i.zero, i.size, i.bytes)) = some (some (.int .u8 0), 1, 1) := by kernel_rfl
/-- the slice v owns the bytes l, in a block from B on -/
def OwnB (B : Nat) (v : Value) (l : List UInt8) (w : World) : Prop := w.ownsRow B 5 1 v l.length (Lib.byteCells l)
theorem OwnB.alloc {B : Nat} {v : Value} {l : List UInt8} {w : World} (h : OwnB B v l w) (o : Obj) : OwnB B v l (w.alloc o) := World.ownsRow.alloc h o
theorem OwnB.nil (B : Nat) (w : World) : OwnB B (.slice none 0 0) [] w := World.ownsRow_nil w B 5 1
theorem OwnB.built (B : Nat) (w : World) (l : List UInt8) (hB : B ≤ w.heap.size) (hl : l.length ≤ 1000) :
    OwnB B (.slice (some ⟨w.heap.size, 0, none⟩) l.length l.length) l (w.alloc (.cells (Lib.byteCells l).toArray 5)) := by
  refine ⟨by simp [Lib.byteCells_length], .inr ⟨w.heap.size, l.length, (Lib.byteCells l).toArray, rfl, hB, heap_alloc_new w _, Nat.le_refl _, by unfold maxLen; omega, by simp [Lib.byteCells_length], ?_⟩⟩
  simp [Lib.byteCells_length]
  exact List.take_of_length_le (by simp [Lib.byteCells_length])
theorem OwnB.conv {B : Nat} {v : Value} {l : List UInt8} {w : World} (h : OwnB B v l w) : (convert 52 9 v).run Tryz.prog w = .ok (.string ⟨l.toArray⟩) w := by
  rcases h.2 with ⟨hv, h0⟩ | ⟨g, cap, cur, hv, hb, hg, hn, hm, hs, ht⟩
  · have : l = [] := List.length_eq_zero_iff.1 h0
    subst this
    rw [hv]
    exact run_convert_bytes_nil (P := Tryz.prog) w 52 5 Tryz.underlying52 Tryz.underlying5 0 0 9 Tryz.underlying9
  · rw [hv]
    refine run_convert_bytes_back (P := Tryz.prog) w 52 9 5 ⟨g, 0, none⟩ cap l Tryz.underlying52 Tryz.underlying5 Tryz.underlying9 ?_
    intro j hj
    have hu : (Lib.byteCells l)[j]? = some (.int .u8 (l[j].toNat : Int)) := by simp [Lib.byteCells, hj]
    exact World.ownsRow.cells h (g := g) (by rw [hv]; rfl) j _ hu
theorem bytes_oneCell (l : List UInt8) : ∀ u ∈ Lib.byteCells l, u.oneCell' = true := by
  intro u hu
  simp only [Lib.byteCells, List.mem_map] at hu
  obtain ⟨c, _, rfl⟩ := hu
  rfl
/-- append of bytes that lie in a block of their own -/
theorem wpl_app {ops : Array Oper} {rest : List Oper} {o : Oper} {a : Act} {Q : Exit → Act → World → Prop} (w : World) (hgd : o.guard = none) (s x : Operand)
    (ho : o.op = .call { callee := .builtin .append, args := #[s, x], argTypes := #[52, 52] }) (B : Nat) (v : Value) (l : List UInt8) (hs : a.eval s = v) (hown : OwnB B v l w)
    (g m c : Nat) (new : List UInt8) (hx : a.eval x = .slice (some ⟨g, 0, none⟩) m c) (hm : new.length = m) (cs : Array Value) (fr : Nat × Nat) (hblk : w.heap[g]? = some (.cells cs 5 fr)) (hcs : cs.toList = Lib.byteCells new)
    (hlen : l.length + new.length ≤ 140737488355328) (hbase : B ≤ w.heap.size)
    (h : ∀ v' w', OwnB B v' (l ++ new) w' → Below B w w' → wpList Tryz.prog ops Q rest (a.put o.dst v') w') : wpList Tryz.prog ops Q (o :: rest) a w := by
  obtain ⟨i0, hi, hz0, hz1, hz2⟩ := info_parts info5
  refine wpList_append_own w hgd s x 52 ho B 5 i0 (.int .u8 0) 1 1 Tryz.underlying52 hi hz0 hz1 hz2 rfl (by decide) v l.length (Lib.byteCells l) hs hown ⟨g, 0, none⟩ m c (Lib.byteCells new) hx
    (by rw [Lib.byteCells_length, hm]; omega) (by rw [← hcs]; exact World.news_of_block hblk) (bytes_oneCell new) (by unfold maxLen; omega) (by omega) hbase ?_
  intro v' w' h1 h2 _
  refine h v' w' ?_ ((Below.refl B w).grown h2 hbase (fun k hk => (World.ownsRow.lt hown k hk).1))
  show w'.ownsRow B 5 1 v' (l ++ new).length (Lib.byteCells (l ++ new))
  have e : Lib.byteCells (l ++ new) = Lib.byteCells l ++ Lib.byteCells new := by simp [Lib.byteCells]
  rw [e, List.length_append, hm]
  exact h1
/-- the same at a step of a region that draws its order -/
theorem step_app {ops : Array Oper} {o : Oper} {a : Act} {K : Act → World → Prop} {Q : Exit → Act → World → Prop} {E : Prop} (w : World) (hgd : o.guard = none) (s x : Operand)
    (ho : o.op = .call { callee := .builtin .append, args := #[s, x], argTypes := #[52, 52] }) (B : Nat) (v : Value) (l : List UInt8) (hs : a.eval s = v) (hown : OwnB B v l w)
    (g m c : Nat) (new : List UInt8) (hx : a.eval x = .slice (some ⟨g, 0, none⟩) m c) (hm : new.length = m) (hm0 : 0 < m) (cs : Array Value) (fr : Nat × Nat) (hblk : w.heap[g]? = some (.cells cs 5 fr)) (hcs : cs.toList = Lib.byteCells new)
    (hlen : l.length + new.length ≤ 140737488355328) (hbase : B ≤ w.heap.size)
    (h : ∀ v' w', OwnB B v' (l ++ new) w' → Below B w w' → K (a.put o.dst v') w') :
    if Region.wanted o (yielded ops a.tmps) = true then Oper.wp Tryz.prog o a w K Q else E := by
  obtain ⟨i0, hi, hz0, hz1, hz2⟩ := info_parts info5
  refine step_append_lies w hgd s x 52 ho B 5 i0 (.int .u8 0) 1 1 Tryz.underlying52 hi hz0 hz1 hz2 rfl (by decide) v l.length (Lib.byteCells l) hs hown ⟨g, 0, none⟩ m c (Lib.byteCells new) hx
    (by rw [Lib.byteCells_length, hm]; omega) (by rw [← hcs]; exact World.news_of_block hblk) (bytes_oneCell new) hm0 (by unfold maxLen; omega) (by omega) hbase w.heap.size rfl ?_
  intro g' cap w' h1 h2 _ _
  refine h _ w' ?_ ((Below.refl B w).grown h2 hbase (fun k hk => (World.ownsRow.lt hown k hk).1))
  show w'.ownsRow B 5 1 _ (l ++ new).length (Lib.byteCells (l ++ new))
  have e : Lib.byteCells (l ++ new) = Lib.byteCells l ++ Lib.byteCells new := by simp [Lib.byteCells]
  rw [e, List.length_append, hm]
  exact h1
end Go.Proofs.YtihcggepeadklaaGreatDoor
/- Plain facts on reading: digits, escapes, one step of a reader, the whole of it; how the library's decoder stands to sequences. -/
namespace Go.Proofs.YtihcggepeadklaaGreatDoor.Q
theorem dec_bad (b : UInt8) (t : List UInt8) (hb : 128 ≤ b.toNat) (h : (nxt (b :: t)).2 = false) : Lib.decodeL (b :: t) = (65533, 1) := by
  have k := nxt_check b t hb
  rw [h] at k
  rw [Lib.decodeL_N]
  rcases Lib.check_decode (b :: t).length b.toNat (t.getD 0 0).toNat (t.getD 1 0).toNat (t.getD 2 0).toNat (by simp) hb b.toNat_lt (t.getD 0 0).toNat_lt (t.getD 1 0).toNat_lt (t.getD 2 0).toNat_lt with ⟨hc, hd⟩ | ⟨m, hm, hc, hd⟩
  · exact hd
  · rw [List.length_cons, k] at hc
    simp at hc
theorem dec_good (b : UInt8) (t : List UInt8) (hb : 128 ≤ b.toNat) (h : (nxt (b :: t)).2 = true) :
    (Lib.decodeL (b :: t)).2 = (nxt (b :: t)).1 ∧ 2 ≤ (nxt (b :: t)).1 ∧ Lib.encodeRune ((Lib.decodeL (b :: t)).1 : Int) = (b :: t).take (nxt (b :: t)).1 := by
  have k := nxt_check b t hb
  rw [h] at k
  have e : (Lib.decodeL (b :: t)).2 = (nxt (b :: t)).1 ∧ 2 ≤ (nxt (b :: t)).1 := by
    rw [Lib.decodeL_N]
    rcases Lib.check_decode (b :: t).length b.toNat (t.getD 0 0).toNat (t.getD 1 0).toNat (t.getD 2 0).toNat (by simp) hb b.toNat_lt (t.getD 0 0).toNat_lt (t.getD 1 0).toNat_lt (t.getD 2 0).toNat_lt with ⟨hc, hd⟩ | ⟨m, hm, hc, hd⟩
    · rw [List.length_cons, k] at hc
      simp at hc
    · rw [List.length_cons, k] at hc
      simp at hc
      subst hc
      exact ⟨hd, hm⟩
  refine ⟨e.1, e.2, ?_⟩
  rw [← e.1]
  exact Lib.encode_decode (b :: t) (by simp) (by omega)
theorem dec_le (l : List UInt8) : (Lib.decodeL l).1 ≤ 1114111 := by
  rw [Lib.decodeL_N]
  have k0 := (l.getD 0 0).toNat_lt
  unfold Lib.decodeN
  repeat' split
  all_goals simp only
  all_goals omega
/-- utf8.FullRuneInString -/
def full : List UInt8 → Bool
  | [] => false
  | b :: t => decide (Lib.firstT b.toNat % 8 ≤ t.length + 1) || (decide (1 < t.length + 1) && (decide ((t.getD 0 0).toNat < Lib.accLo (Lib.firstT b.toNat / 16)) || decide (Lib.accHi (Lib.firstT b.toNat / 16) < (t.getD 0 0).toNat))) || (decide (2 < t.length + 1) && (decide ((t.getD 1 0).toNat < 128) || decide (191 < (t.getD 1 0).toNat)))
theorem full_nxt (b : UInt8) (t : List UInt8) (hb : 128 ≤ b.toNat) (h : (nxt (b :: t)).2 = false) :
    (∀ j, j < (nxt (b :: t)).1 → full ((b :: t).take (j + 1)) = false) ∧ ((nxt (b :: t)).1 = (b :: t).length ∨ full ((b :: t).take ((nxt (b :: t)).1 + 1)) = true) := by
  obtain ⟨h1, h2, h3⟩ := bnd_tab ⟨b.toNat, b.toNat_lt⟩ hb
  simp only at h1 h2 h3
  rw [nxt_cons] at h ⊢
  generalize hB : bnd b.toNat = B at *
  obtain ⟨n, lo, hi⟩ := B
  simp only at h1 h2 h3 h ⊢
  have hn1 : Lib.firstT b.toNat % 8 = 1 ∨ Lib.firstT b.toNat % 8 = n := by split at h1 <;> omega
  have hn0 : n = 0 → Lib.firstT b.toNat % 8 ≤ 1 := by intro e; split at h1 <;> omega
  have hnn : n ≠ 0 → Lib.firstT b.toNat % 8 = n := by intro e; split at h1 <;> omega
  rcases h2 with rfl | rfl | rfl | rfl
  · have e := hn0 rfl
    simp [full, e]
  · have e := hnn (by omega)
    obtain ⟨rfl, rfl⟩ := h3 (by omega)
    rcases t with _ | ⟨c1, t⟩
    · simp [nxtGo, full, e]
    · by_cases c : c1.toNat < Lib.accLo (Lib.firstT b.toNat / 16) ∨ Lib.accHi (Lib.firstT b.toNat / 16) < c1.toNat
      · simp [nxtGo, c, full, e]
      · exfalso; revert h; cases t <;> simp [nxtGo, c]
  · have e := hnn (by omega)
    obtain ⟨rfl, rfl⟩ := h3 (by omega)
    rcases t with _ | ⟨c1, t⟩
    · simp [nxtGo, full, e]
    · by_cases c : c1.toNat < Lib.accLo (Lib.firstT b.toNat / 16) ∨ Lib.accHi (Lib.firstT b.toNat / 16) < c1.toNat
      · rcases c with c | c <;> simp [nxtGo, c, full, e]
      · have c' := not_or.1 c
        rcases t with _ | ⟨c2, t⟩
        · simp only [nxtGo, c, if_false, List.length_cons, List.length_nil]
          refine ⟨?_, by simp⟩
          intro j hj
          have : j = 0 ∨ j = 1 := by simp at hj; omega
          rcases this with rfl | rfl <;> simp [full, e, c'.1, c'.2] <;> omega
        · by_cases d : c2.toNat < 128 ∨ 191 < c2.toNat
          · simp only [nxtGo, c, d, if_false, if_true, List.length_cons]
            refine ⟨?_, by simp [full, e]⟩
            intro j hj
            have : j = 0 ∨ j = 1 := by simp at hj; omega
            rcases this with rfl | rfl <;> simp [full, e, c'.1, c'.2] <;> omega
          · exfalso; revert h; cases t <;> simp [nxtGo, c, d]
  · have e := hnn (by omega)
    obtain ⟨rfl, rfl⟩ := h3 (by omega)
    rcases t with _ | ⟨c1, t⟩
    · simp [nxtGo, full, e]
    · by_cases c : c1.toNat < Lib.accLo (Lib.firstT b.toNat / 16) ∨ Lib.accHi (Lib.firstT b.toNat / 16) < c1.toNat
      · rcases c with c | c <;> simp [nxtGo, c, full, e]
      · have c' := not_or.1 c
        rcases t with _ | ⟨c2, t⟩
        · simp only [nxtGo, c, if_false, List.length_cons, List.length_nil]
          refine ⟨?_, by simp⟩
          intro j hj
          have : j = 0 ∨ j = 1 := by simp at hj; omega
          rcases this with rfl | rfl <;> simp [full, e, c'.1, c'.2] <;> omega
        · by_cases d : c2.toNat < 128 ∨ 191 < c2.toNat
          · simp only [nxtGo, c, d, if_false, if_true, List.length_cons]
            refine ⟨?_, ?_⟩
            · intro j hj
              have : j = 0 ∨ j = 1 := by simp at hj; omega
              rcases this with rfl | rfl <;> simp [full, e, c'.1, c'.2] <;> omega
            · right; rcases d with d | d <;> simp [full, e, d]
          · have d' := not_or.1 d
            rcases t with _ | ⟨c3, t⟩
            · simp only [nxtGo, c, d, if_false, List.length_cons, List.length_nil]
              refine ⟨?_, by simp⟩
              intro j hj
              have : j = 0 ∨ j = 1 ∨ j = 2 := by simp at hj; omega
              rcases this with rfl | rfl | rfl <;> simp [full, e, c'.1, c'.2, d'.1, d'.2] <;> omega
            · by_cases f : c3.toNat < 128 ∨ 191 < c3.toNat
              · simp only [nxtGo, c, d, f, if_false, if_true, List.length_cons]
                refine ⟨?_, by simp [full, e]⟩
                intro j hj
                have : j = 0 ∨ j = 1 ∨ j = 2 := by simp at hj; omega
                rcases this with rfl | rfl | rfl <;> simp [full, e, c'.1, c'.2, d'.1, d'.2] <;> omega
              · exfalso; revert h; cases t <;> simp [nxtGo, c, d, f]
end Go.Proofs.YtihcggepeadklaaGreatDoor.Q
/- Plain facts on reading: digits, escapes, one step of a reader, the whole of it. -/
namespace Go.Proofs.YtihcggepeadklaaGreatDoor.Q
def dig (c : Nat) : Int := if 48 ≤ c ∧ c ≤ 57 then (c : Int) - 48 else if 97 ≤ c ∧ c ≤ 102 then (c : Int) - 87 else if 65 ≤ c ∧ c ≤ 70 then (c : Int) - 55 else -1
theorem dig_le (c : Nat) : -1 ≤ dig c ∧ dig c ≤ 15 := by
  unfold dig
  repeat' split
  all_goals omega
def goes (c d : Int) (i : Nat) (aw : Bool) : Bool := if i = 0 then (!aw || d == 13) else if i = 1 then ((c == 13 && decide (12 ≤ d)) == aw) else true
/-- r digits more, behind i that made c: the number, how many digits went well, whether all did -/
def digs (aw : Bool) : Nat → Nat → Nat → List UInt8 → Nat × Nat × Bool
  | 0, i, c, t => (c, i, true)
  | r + 1, i, c, [] => (0, i, false)
  | r + 1, i, c, x :: t => if dig x.toNat < 0 ∨ goes c (dig x.toNat) i aw = false then (0, i, false) else digs aw r (i + 1) (16 * c + (dig x.toNat).toNat) t
theorem digs_le (aw : Bool) : ∀ (r i c : Nat) (t : List UInt8), (digs aw r i c t).2.1 ≤ i + t.length ∧ (digs aw r i c t).2.1 ≤ i + r ∧ i ≤ (digs aw r i c t).2.1 ∧ ((digs aw r i c t).2.2 = true → (digs aw r i c t).2.1 = i + r)
  | 0, i, c, t => by simp [digs]
  | r + 1, i, c, [] => by simp [digs]
  | r + 1, i, c, x :: t => by
    unfold digs
    split
    · simp
    · have := digs_le aw r (i + 1) (16 * c + (dig x.toNat).toNat) t
      simp only [List.length_cons]
      refine ⟨by omega, by omega, by omega, fun h => ?_⟩
      have := this.2.2.2 h
      omega
/-- four digits: the number lies where it must -/
theorem digs_range (aw : Bool) (t : List UInt8) (h : (digs aw 4 0 0 t).2.2 = true) :
    (digs aw 4 0 0 t).1 < 65536 ∧ (aw = true → 56320 ≤ (digs aw 4 0 0 t).1 ∧ (digs aw 4 0 0 t).1 ≤ 57343) ∧ (aw = false → ¬ (56320 ≤ (digs aw 4 0 0 t).1 ∧ (digs aw 4 0 0 t).1 ≤ 57343)) := by
  rcases t with _ | ⟨x0, t⟩
  · simp [digs] at h
  rw [digs] at h ⊢
  split at h
  · simp at h
  rename_i g0
  rw [if_neg g0]
  rcases t with _ | ⟨x1, t⟩
  · simp [digs] at h
  rw [digs] at h ⊢
  split at h
  · simp at h
  rename_i g1
  rw [if_neg g1]
  rcases t with _ | ⟨x2, t⟩
  · simp [digs] at h
  rw [digs] at h ⊢
  split at h
  · simp at h
  rename_i g2
  rw [if_neg g2]
  rcases t with _ | ⟨x3, t⟩
  · simp [digs] at h
  rw [digs] at h ⊢
  split at h
  · simp at h
  rename_i g3
  rw [if_neg g3, digs]
  have b0 := dig_le x0.toNat
  have b1 := dig_le x1.toNat
  have b2 := dig_le x2.toNat
  have b3 := dig_le x3.toNat
  generalize dig x0.toNat = d0 at *
  generalize dig x1.toNat = d1 at *
  generalize dig x2.toNat = d2 at *
  generalize dig x3.toNat = d3 at *
  have n0 := not_or.1 g0
  have n1 := not_or.1 g1
  have n2 := not_or.1 g2
  have n3 := not_or.1 g3
  simp only [goes] at n0 n1
  refine ⟨by simp only; omega, ?_, ?_⟩
  · rintro rfl
    simp at n0 n1
    simp only
    omega
  · rintro rfl
    simp at n0 n1
    simp only
    omega
def saidN (c : Nat) : Nat := if c = 34 then 34 else if c = 92 then 92 else if c = 47 then 47 else if c = 98 then 8 else if c = 102 then 12 else if c = 110 then 10 else if c = 114 then 13 else if c = 116 then 9 else 0
theorem saidN_lt (c : Nat) : saidN c < 128 := by
  unfold saidN
  repeat' split
  all_goals omega
/-- behind 'u': the scalar value, how far, whether it is one -/
def numF (t : List UInt8) : Nat × Nat × Bool :=
  if (digs false 4 0 0 t).2.2 = false then (0, (digs false 4 0 0 t).2.1, false)
  else if 55296 ≤ (digs false 4 0 0 t).1 ∧ (digs false 4 0 0 t).1 < 56320 then
    (match t.drop 4 with
     | [] => (0, 4, false)
     | x :: r => if x.toNat ≠ 92 then (0, 4, false) else
       match r with
       | [] => (0, 5, false)
       | y :: r2 => if y.toNat ≠ 117 then (0, 5, false) else
         if (digs true 4 0 0 r2).2.2 = false then (0, 6 + (digs true 4 0 0 r2).2.1, false)
         else (65536 + 1024 * ((digs false 4 0 0 t).1 - 55296) + ((digs true 4 0 0 r2).1 - 56320), 10, true))
  else ((digs false 4 0 0 t).1, 4, true)
theorem numF_le (t : List UInt8) : (numF t).2.1 ≤ t.length ∧ ((numF t).2.2 = true → 4 ≤ (numF t).2.1 ∧ (numF t).1 ≤ 1114111 ∧ ¬ (55296 ≤ (numF t).1 ∧ (numF t).1 ≤ 57343)) := by
  have h0 := digs_le false 4 0 0 t
  unfold numF
  split
  · simp; omega
  · rename_i g
    have g' : (digs false 4 0 0 t).2.2 = true := by simpa using g
    have r0 := digs_range false t g'
    have e0 := h0.2.2.2 g'
    have l0 : 4 ≤ t.length := by omega
    split
    · rename_i c
      split
      · simp; omega
      · rename_i x r hx
        have lx : r.length + 5 = t.length := by have := congrArg List.length hx; simp at this; omega
        split
        · simp; omega
        · split
          · simp at lx; simp; omega
          · rename_i y r2
            simp at lx
            split
            · simp; omega
            · have h1 := digs_le true 4 0 0 r2
              split
              · simp; omega
              · rename_i g2
                have g2' : (digs true 4 0 0 r2).2.2 = true := by simpa using g2
                have r1 := (digs_range true r2 g2').2.1 rfl
                have e1 := h1.2.2.2 g2'
                simp only
                refine ⟨by omega, fun _ => ⟨by omega, by omega, by omega⟩⟩
    · rename_i c
      simp only
      have := r0.2.2 rfl
      refine ⟨by omega, fun _ => ⟨by omega, by omega, by omega⟩⟩
/-- behind a backslash: the scalar value, how far, whether it is one -/
def escF : List UInt8 → Nat × Nat × Bool
  | [] => (0, 0, false)
  | x :: t => if x.toNat = 117 then ((numF t).1, 1 + (numF t).2.1, (numF t).2.2) else if saidN x.toNat = 0 then (0, 0, false) else (saidN x.toNat, 1, true)
theorem escF_cons (x : UInt8) (t : List UInt8) : escF (x :: t) = if x.toNat = 117 then ((numF t).1, 1 + (numF t).2.1, (numF t).2.2) else if saidN x.toNat = 0 then (0, 0, false) else (saidN x.toNat, 1, true) := rfl
theorem escF_le (t : List UInt8) : (escF t).2.1 ≤ t.length ∧ ((escF t).2.2 = true → (escF t).1 ≤ 1114111 ∧ ¬ (55296 ≤ (escF t).1 ∧ (escF t).1 ≤ 57343) ∧ 1 ≤ (escF t).2.1 ∧ ((escF t).1 < 128 ∨ 4 ≤ (escF t).2.1)) := by
  cases t with
  | nil => simp [escF]
  | cons x t =>
    have h := numF_le t
    have hs := saidN_lt x.toNat
    rw [escF_cons]
    split
    · simp only [List.length_cons]
      refine ⟨by omega, fun g => ?_⟩
      have := h.2 g
      omega
    · split
      · simp
      · simp only [List.length_cons]
        omega
theorem enc_len (v : Nat) : (Lib.encodeRune (v : Int)).length ≤ 4 ∧ 1 ≤ (Lib.encodeRune (v : Int)).length ∧ (v < 128 → (Lib.encodeRune (v : Int)).length = 1) := by
  have h := Lib.encodeRuneZ_length (v : Int)
  unfold Lib.encodeRune
  rw [List.length_map]
  refine ⟨h.2, h.1, fun hv => ?_⟩
  rw [Lib.encodeRuneZ_one (by omega) (by omega)]
  rfl
/-- one step inside the quotes: 0 a fault, 1 the end, 2 on; the bytes; how far; the error -/
def stp : List UInt8 → Nat × List UInt8 × Nat × Nat
  | [] => (0, [], 0, 10)
  | x :: t => if x.toNat < 32 then (0, [], 0, 10) else if x.toNat = 34 then (1, [], 1, 0)
    else if x.toNat = 92 then (if (escF t).2.2 = true then (2, Lib.encodeRune ((escF t).1 : Int), 1 + (escF t).2.1, 0) else (0, [], 1 + (escF t).2.1, 12))
    else if (nxt (x :: t)).2 = true then (2, (x :: t).take (nxt (x :: t)).1, (nxt (x :: t)).1, 0) else (0, [], (nxt (x :: t)).1, 11)
theorem stp_cons (x : UInt8) (t : List UInt8) : stp (x :: t) = if x.toNat < 32 then (0, [], 0, 10) else if x.toNat = 34 then (1, [], 1, 0)
    else if x.toNat = 92 then (if (escF t).2.2 = true then (2, Lib.encodeRune ((escF t).1 : Int), 1 + (escF t).2.1, 0) else (0, [], 1 + (escF t).2.1, 12))
    else if (nxt (x :: t)).2 = true then (2, (x :: t).take (nxt (x :: t)).1, (nxt (x :: t)).1, 0) else (0, [], (nxt (x :: t)).1, 11) := rfl
theorem stp_le (t : List UInt8) : (stp t).2.2.1 ≤ t.length ∧ ((stp t).1 ≠ 0 → 1 ≤ (stp t).2.2.1) ∧ (stp t).2.1.length ≤ (stp t).2.2.1 ∧ (stp t).1 ≤ 2 := by
  cases t with
  | nil => simp [stp]
  | cons x t =>
    have he := escF_le t
    have hn := nxt_le (x :: t)
    rw [stp_cons]
    split
    · simp
    · split
      · simp
      · split
        · split
          · rename_i g
            have := he.2 g
            have hl := enc_len (escF t).1
            simp only [List.length_cons]
            refine ⟨by omega, by omega, ?_, by omega⟩
            rcases this.2.2.2 with h | h
            · have := hl.2.2 h; omega
            · omega
          · simp only [List.length_cons]
            refine ⟨by omega, by omega, by simp, by omega⟩
        · split
          · rename_i g
            simp only
            have := hn.2.2 g
            refine ⟨hn.1, fun _ => this, List.length_take_le _ _, by omega⟩
          · simp only
            refine ⟨hn.1, by omega, by simp, by omega⟩
/-- fuel, what is left, the place, the bytes so far: the string, the place, the error -/
def unq : Nat → List UInt8 → Nat → List UInt8 → List UInt8 × Nat × Nat
  | 0, t, k, out => (out, k, 0)
  | f + 1, t, k, out => if (stp t).1 = 0 then ([], k + (stp t).2.2.1, (stp t).2.2.2) else if (stp t).1 = 1 then (out, k + 1, 0) else unq f (t.drop (stp t).2.2.1) (k + (stp t).2.2.1) (out ++ (stp t).2.1)
/-- Unquote -/
def unqAll (l : List UInt8) (at' : Int) : List UInt8 × Nat × Nat :=
  if at' < 0 ∨ (l.length : Int) < at' then ([], 0, 2)
  else if (l.drop at'.toNat).head? = some 34 then unq (l.length + 1) (l.drop (at'.toNat + 1)) (at'.toNat + 1) []
  else ([], at'.toNat, 10)
end Go.Proofs.YtihcggepeadklaaGreatDoor.Q
/- json.appendString. -/
namespace Go.Proofs.YtihcggepeadklaaGreatDoor
open Go.RowKit Go.Lib
/-- strconv's table of powers -/
def PowTab (w : World) : Prop := TabIs Tryz.prog w "internal/strconv.uint64pow10" .u64 pow10Tab
theorem PowTab.below {w w' : World} {B : Nat} (h : PowTab w) (hb : Below B w w') (hB : 9 < B) : PowTab w' := by
  unfold PowTab TabIs World.var? at *
  have hg : Tryz.prog.globalNamed "internal/strconv.uint64pow10" = some 4 := by kernel_rfl
  simp only [hg, Option.bind_some] at h ⊢
  rw [hb.block 4 (by omega)]
  exact h
/-- what an escape says (quote.saidBy) -/
def SaidT (w : World) : Prop := ∀ c : Nat, c < 128 → w.cell? ⟨9, c, none⟩ = some (.int .u8 (Q.saidN c))
theorem SaidT.below {B : Nat} {w w' : World} (h : SaidT w) (hb : Below B w w') (hB : 9 < B) : SaidT w' :=
  fun c hc => (hb.cell (p := ⟨9, c, none⟩) hB).trans (h c hc)
/-- strconv's two errors -/
def ErrT (w : World) : Prop := ∃ t5 p5 t6 p6, w.cell? ⟨5, 0, none⟩ = some (.iface t5 p5) ∧ w.cell? ⟨6, 0, none⟩ = some (.iface t6 p6)
theorem ErrT.below {B : Nat} {w w' : World} (h : ErrT w) (hb : Below B w w') (hB : 9 < B) : ErrT w' := by
  obtain ⟨t5, p5, t6, p6, h5, h6⟩ := h
  exact ⟨t5, p5, t6, p6, (hb.cell (p := ⟨5, 0, none⟩) (by show 5 < B; omega)).trans h5, (hb.cell (p := ⟨6, 0, none⟩) (by show 6 < B; omega)).trans h6⟩
/-- what the calls read beside their arguments -/
structure Td (w : World) : Prop where
  u : Utf8Tabs 0 1 w
  l : LetTab w
  z : 9 < w.heap.size
  p : PowTab w
  s : SaidT w
  e : ErrT w
theorem Td.below {w w' : World} {B : Nat} (h : Td w) (hb : Below B w w') (hB : 9 < B) (hs : w.heap.size ≤ w'.heap.size) : Td w' :=
  ⟨utab_below h.u hb (by omega), h.l.below hb hB, Nat.lt_of_lt_of_le h.z hs, h.p.below hb hB, h.s.below hb hB, h.e.below hb hB⟩
theorem OwnB.below {B : Nat} {v : Value} {l : List UInt8} {w w' : World} (h : OwnB B v l w) (hb : Below w.heap.size w w') : OwnB B v l w' :=
  World.ownsRow.kept h (grown_of_below hb) (Classical.em _)
theorem wpl_str {ops : Array Oper} {rest : List Oper} {o : Oper} {a : Act} {Q : Exit → Act → World → Prop} (w : World) (hgd : o.guard = none) (s x : Operand)
    (ho : o.op = .call { callee := .builtin .append, args := #[s, x], argTypes := #[52, 9] }) (B : Nat) (v : Value) (l : List UInt8) (hs : a.eval s = v) (hown : OwnB B v l w)
    (t : ByteArray) (hx : a.eval x = .string t) (hlen : l.length + t.size ≤ 140737488355328) (hbase : B ≤ w.heap.size)
    (h : ∀ v' w', OwnB B v' (l ++ t.data.toList) w' → Below B w w' → wpList Tryz.prog ops Q rest (a.put o.dst v') w') : wpList Tryz.prog ops Q (o :: rest) a w := by
  obtain ⟨i0, hi, hz0, hz1, hz2⟩ := info_parts info5
  refine wpList_append_own_string w hgd s x 52 9 ho B 5 i0 Tryz.underlying52 Tryz.underlying9 hi hz0 hz1 hz2 v l.length (byteCells l) hs hown t hx (by unfold maxLen; omega) (by omega) hbase ?_
  intro v' w' h1 h2 _
  refine h v' w' ?_ ((Below.refl B w).grown h2 hbase (fun k hk => (World.ownsRow.lt hown k hk).1))
  show w'.ownsRow B 5 1 v' (l ++ t.data.toList).length (byteCells (l ++ t.data.toList))
  have e : byteCells (l ++ t.data.toList) = byteCells l ++ strCells t := by simp [byteCells, strCells]
  have e2 : t.data.toList.length = t.size := by rw [Array.length_toList]; rfl
  rw [e, List.length_append, e2]
  exact h1
end Go.Proofs.YtihcggepeadklaaGreatDoor
