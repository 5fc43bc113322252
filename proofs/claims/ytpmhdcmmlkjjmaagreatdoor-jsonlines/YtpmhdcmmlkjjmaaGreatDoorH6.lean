/- joined: Full Own -/
import Derived.Test.YtpmhdcmmlkjjmaaGreatDoorH1
import Derived.Deep.QuietTactic
import Derived.BigQuiet
import Derived.Deep.AppendLies
import Derived.Laws.IdiomStrings
import Derived.Laws.BytesArg
import Derived.Lib.UnsafeStr
/- utf8.FullRuneInString; brokenAt. -/
set_option linter.unusedSimpArgs false
set_option linter.unusedVariables false
set_option maxRecDepth 100000
namespace Go.Proofs.YtpmhdcmmlkjjmaaGreatDoor
open Go.RowKit Go.Lib
theorem below_drewN' {B : Nat} {a w : World} (h : Below B a w) : ∀ q, Below B a (w.drewN q)
  | 0 => h
  | q + 1 => (below_drewN' h q).drew
set_option maxHeartbeats 2000000 in
set_option maxRecDepth 100000 in
theorem full_long (s : ByteArray) (w : World) (hU : Utf8Tabs 1 2 w) (h0 : 0 < s.size) (hs : s.size ≤ 281474976710656) (hn : firstT s[0].toNat % 8 ≤ s.size) :
    Calls Tryz.prog 185 #[.string s] w fun e w' => e = .returned (.bool true) ∧ Below w.heap.size w w' := by
  have c0 := hU.1 s[0].toNat s[0].toNat_lt
  have y0 : ((s.size : Int) == 0) = false := by rw [beq_eq_false_iff_ne]; omega
  have y1 : (0 : Int) < s.size := by omega
  have hx : firstT s[0].toNat < 256 := by unfold firstT; repeat' split
                                          all_goals omega
  have ha := and7 ⟨firstT s[0].toNat, hx⟩
  simp only at ha
  have y3 : (s[0].toNat : Int) < 256 := by have := s[0].toNat_lt; omega
  generalize firstT s[0].toNat = X at *
  have y2 : (X : Int) % 8 ≤ s.size := by omega
  clear hU
  go_enter Tryz.func185, Tryz.ntmps185
  go_wp2
  go_ret
  exact ⟨rfl, Below.refl _ _⟩
set_option maxHeartbeats 4000000 in
set_option maxRecDepth 100000 in
theorem full_short (s : ByteArray) (w : World) (hU : Utf8Tabs 1 2 w) (h0 : 0 < s.size) (hs : s.size ≤ 281474976710656) (hn : ¬ firstT s[0].toNat % 8 ≤ s.size) (V : Bool)
    (hV : V = ((decide (1 < s.size) && (decide ((s.data.toList.getD 1 0).toNat < accLo (firstT s[0].toNat / 16)) || decide (accHi (firstT s[0].toNat / 16) < (s.data.toList.getD 1 0).toNat))) || (decide (2 < s.size) && (decide ((s.data.toList.getD 2 0).toNat < 128) || decide (191 < (s.data.toList.getD 2 0).toNat))))) :
    Calls Tryz.prog 185 #[.string s] w fun e w' => e = .returned (.bool V) ∧ Below w.heap.size w w' := by
  have c0 := hU.1 s[0].toNat s[0].toNat_lt
  have y0 : ((s.size : Int) == 0) = false := by rw [beq_eq_false_iff_ne]; omega
  have y1 : (0 : Int) < s.size := by omega
  have hx : firstT s[0].toNat < 256 := by unfold firstT; repeat' split
                                          all_goals omega
  have ha := and7 ⟨firstT s[0].toNat, hx⟩
  simp only at ha
  have y3 : (s[0].toNat : Int) < 256 := by have := s[0].toNat_lt; omega
  generalize firstT s[0].toNat = X at *
  have y2 : ¬ (X : Int) % 8 ≤ s.size := by omega
  have hi16 : X / 16 < 16 := by omega
  have t1 := (hU.2 (X / 16) hi16).1
  have t2 := (hU.2 (X / 16) hi16).2
  rw [Nat.mul_comm] at t1 t2
  have y4 : (X : Int) / 16 < 16 := by omega
  generalize accLo (X / 16) = lo at *
  generalize accHi (X / 16) = hi at *
  clear hU
  by_cases e1 : 1 < s.size
  · have z1 : (1 : Int) < s.size := by omega
    have g1 : s.data.toList.getD 1 0 = s[1] := by
      rw [List.getD_eq_getElem?_getD, List.getElem?_eq_getElem (by simpa using e1)]; rfl
    rw [g1] at hV
    by_cases p1 : s[1].toNat < lo
    · have z3 : (s[1].toNat : Int) < lo := by omega
      obtain rfl : V = true := by rw [hV]; simp [e1, p1]
      clear hV g1
      go_enter Tryz.func185, Tryz.ntmps185
      go_wp2
      go_quiet (fail)
      go_wp2
      go_ret
      exact ⟨rfl, below_drewN' ((Below.refl _ w).alloc (Nat.le_refl _) _) nq⟩
    · have z3 : decide ((s[1].toNat : Int) < lo) = false := by simp; omega
      by_cases p2 : hi < s[1].toNat
      · have z4 : (hi : Int) < s[1].toNat := by omega
        obtain rfl : V = true := by rw [hV]; simp [e1, p2]
        clear hV g1
        go_enter Tryz.func185, Tryz.ntmps185
        go_wp2
        go_quiet (fail)
        go_wp2
        go_ret
        exact ⟨rfl, below_drewN' ((Below.refl _ w).alloc (Nat.le_refl _) _) nq⟩
      · have z4 : decide ((hi : Int) < s[1].toNat) = false := by simp; omega
        by_cases e2 : 2 < s.size
        · have z5 : (2 : Int) < s.size := by omega
          have g2 : s.data.toList.getD 2 0 = s[2] := by
            rw [List.getD_eq_getElem?_getD, List.getElem?_eq_getElem (by simpa using e2)]; rfl
          rw [g2] at hV
          by_cases q1 : s[2].toNat < 128
          · have z6 : (s[2].toNat : Int) < 128 := by omega
            obtain rfl : V = true := by rw [hV]; simp [e2, q1]
            clear hV g1 g2
            go_enter Tryz.func185, Tryz.ntmps185
            go_wp2
            go_quiet (fail)
            go_wp2
            go_ret
            exact ⟨rfl, below_drewN' ((Below.refl _ w).alloc (Nat.le_refl _) _) nq⟩
          · have z6 : ¬ (s[2].toNat : Int) < 128 := by omega
            by_cases q2 : 191 < s[2].toNat
            · have z7 : (191 : Int) < s[2].toNat := by omega
              obtain rfl : V = true := by rw [hV]; simp [e2, q2]
              clear hV g1 g2
              go_enter Tryz.func185, Tryz.ntmps185
              go_wp2
              go_quiet (fail)
              go_wp2
              go_ret
              exact ⟨rfl, below_drewN' ((Below.refl _ w).alloc (Nat.le_refl _) _) nq⟩
            · have z7 : ¬ (191 : Int) < s[2].toNat := by omega
              obtain rfl : V = false := by rw [hV]; simp [p1, p2, q1, q2]
              clear hV g1 g2
              go_enter Tryz.func185, Tryz.ntmps185
              go_wp2
              go_quiet (fail)
              go_wp2
              go_ret
              exact ⟨rfl, below_drewN' ((Below.refl _ w).alloc (Nat.le_refl _) _) nq⟩
        · have z5 : ¬ (2 : Int) < s.size := by omega
          obtain rfl : V = false := by rw [hV]; simp [p1, p2, e2]
          clear hV g1
          go_enter Tryz.func185, Tryz.ntmps185
          go_wp2
          go_quiet (fail)
          go_wp2
          go_ret
          exact ⟨rfl, below_drewN' ((Below.refl _ w).alloc (Nat.le_refl _) _) nq⟩
  · have z1 : decide ((1 : Int) < s.size) = false := by simp; omega
    have z2 : decide ((2 : Int) < s.size) = false := by simp; omega
    have hV' : V = false := by rw [hV]; simp [e1]; omega
    subst hV'
    clear hV
    go_enter Tryz.func185, Tryz.ntmps185
    go_wp2
    go_quiet (fail)
    go_wp2
    go_ret
    exact ⟨rfl, below_drewN' ((Below.refl _ w).alloc (Nat.le_refl _) _) nq⟩
theorem full_any (s : ByteArray) (w : World) (hU : Utf8Tabs 1 2 w) (h0 : 0 < s.size) (hs : s.size ≤ 281474976710656) :
    Calls Tryz.prog 185 #[.string s] w fun e w' => e = .returned (.bool (Q.full s.data.toList)) ∧ Below w.heap.size w w' := by
  have hd := drop_consW s 0 h0
  rw [List.drop_zero] at hd
  have hl : (s.data.toList.drop 1).length + 1 = s.size := by simp; omega
  by_cases hn : firstT s[0].toNat % 8 ≤ s.size
  · have e : Q.full s.data.toList = true := by
      rw [hd, Q.full, hl]; simp [hn]
    rw [e]
    exact full_long s w hU h0 hs hn
  · refine full_short s w hU h0 hs hn _ ?_
    rw [hd, Q.full, hl]
    simp [hn]
end Go.Proofs.YtpmhdcmmlkjjmaaGreatDoor
/- Rows of bytes that a call owns: append onto them, and their string. -/
set_option maxRecDepth 100000
namespace Go.Proofs.YtpmhdcmmlkjjmaaGreatDoor
open Go.RowKit
theorem info5 : (Tryz.prog.info? 5).map (fun i => (i.zero, i.size, i.bytes)) = some (some (.int .u8 0), 1, 1) := by kernel_rfl
/-- the slice v owns the bytes l, in a block from B on -/
def OwnB (B : Nat) (v : Value) (l : List UInt8) (w : World) : Prop := w.ownsRow B 5 1 v l.length (Lib.byteCells l)
theorem OwnB.alloc {B : Nat} {v : Value} {l : List UInt8} {w : World} (h : OwnB B v l w) (o : Obj) : OwnB B v l (w.alloc o) := World.ownsRow.alloc h o
theorem OwnB.nil (B : Nat) (w : World) : OwnB B (.slice none 0 0) [] w := World.ownsRow_nil w B 5 1
theorem OwnB.built (B : Nat) (w : World) (l : List UInt8) (hB : B ≤ w.heap.size) (hl : l.length ≤ 1000) :
    OwnB B (.slice (some ⟨w.heap.size, 0, none⟩) l.length l.length) l (w.alloc (.cells (Lib.byteCells l).toArray 5)) := by
  refine ⟨by simp [Lib.byteCells_length], .inr ⟨w.heap.size, l.length, (Lib.byteCells l).toArray, rfl, hB, heap_alloc_new w _, Nat.le_refl _, by unfold maxLen; omega, by simp [Lib.byteCells_length], ?_⟩⟩
  simp [Lib.byteCells_length]
  exact List.take_of_length_le (by simp [Lib.byteCells_length])
theorem OwnB.conv {B : Nat} {v : Value} {l : List UInt8} {w : World} (h : OwnB B v l w) : (convert 28 9 v).run Tryz.prog w = .ok (.string ⟨l.toArray⟩) w := by
  rcases h.2 with ⟨hv, h0⟩ | ⟨g, cap, cur, hv, hb, hg, hn, hm, hs, ht⟩
  · have : l = [] := List.length_eq_zero_iff.1 h0
    subst this
    rw [hv]
    exact run_convert_bytes_nil (P := Tryz.prog) w 28 5 Tryz.underlying28 Tryz.underlying5 0 0 9 Tryz.underlying9
  · rw [hv]
    refine run_convert_bytes_back (P := Tryz.prog) w 28 9 5 ⟨g, 0, none⟩ cap l Tryz.underlying28 Tryz.underlying5 Tryz.underlying9 ?_
    intro j hj
    have hu : (Lib.byteCells l)[j]? = some (.int .u8 (l[j].toNat : Int)) := by simp [Lib.byteCells, hj]
    exact World.ownsRow.cells h (g := g) (by rw [hv]; rfl) j _ hu
theorem bytes_oneCell (l : List UInt8) : ∀ u ∈ Lib.byteCells l, u.oneCell' = true := by
  intro u hu
  simp only [Lib.byteCells, List.mem_map] at hu
  obtain ⟨c, _, rfl⟩ := hu
  rfl
/-- append of bytes that lie in a block of their own -/
theorem wpl_app {ops : Array Oper} {rest : List Oper} {o : Oper} {a : Act} {Q : Exit → Act → World → Prop} (w : World) (hgd : o.guard = none) (s x : Operand)
    (ho : o.op = .call { callee := .builtin .append, args := #[s, x], argTypes := #[28, 28] }) (B : Nat) (v : Value) (l : List UInt8) (hs : a.eval s = v) (hown : OwnB B v l w)
    (g m c : Nat) (new : List UInt8) (hx : a.eval x = .slice (some ⟨g, 0, none⟩) m c) (hm : new.length = m) (cs : Array Value) (fr : Nat × Nat) (hblk : w.heap[g]? = some (.cells cs 5 fr)) (hcs : cs.toList = Lib.byteCells new)
    (hlen : l.length + new.length ≤ 140737488355328) (hbase : B ≤ w.heap.size)
    (h : ∀ v' w', OwnB B v' (l ++ new) w' → Below B w w' → wpList Tryz.prog ops Q rest (a.put o.dst v') w') : wpList Tryz.prog ops Q (o :: rest) a w := by
  obtain ⟨i0, hi, hz0, hz1, hz2⟩ := info_parts info5
  refine wpList_append_own w hgd s x 28 ho B 5 i0 (.int .u8 0) 1 1 Tryz.underlying28 hi hz0 hz1 hz2 rfl (by decide) v l.length (Lib.byteCells l) hs hown ⟨g, 0, none⟩ m c (Lib.byteCells new) hx
    (by rw [Lib.byteCells_length, hm]; omega) (by rw [← hcs]; exact World.news_of_block hblk) (bytes_oneCell new) (by unfold maxLen; omega) (by omega) hbase ?_
  intro v' w' h1 h2 _
  refine h v' w' ?_ ((Below.refl B w).grown h2 hbase (fun k hk => (World.ownsRow.lt hown k hk).1))
  show w'.ownsRow B 5 1 v' (l ++ new).length (Lib.byteCells (l ++ new))
  have e : Lib.byteCells (l ++ new) = Lib.byteCells l ++ Lib.byteCells new := by simp [Lib.byteCells]
  rw [e, List.length_append, hm]
  exact h1
/-- the same at a step of a region that draws its order -/
theorem step_app {ops : Array Oper} {o : Oper} {a : Act} {K : Act → World → Prop} {Q : Exit → Act → World → Prop} {E : Prop} (w : World) (hgd : o.guard = none) (s x : Operand)
    (ho : o.op = .call { callee := .builtin .append, args := #[s, x], argTypes := #[28, 28] }) (B : Nat) (v : Value) (l : List UInt8) (hs : a.eval s = v) (hown : OwnB B v l w)
    (g m c : Nat) (new : List UInt8) (hx : a.eval x = .slice (some ⟨g, 0, none⟩) m c) (hm : new.length = m) (hm0 : 0 < m) (cs : Array Value) (fr : Nat × Nat) (hblk : w.heap[g]? = some (.cells cs 5 fr)) (hcs : cs.toList = Lib.byteCells new)
    (hlen : l.length + new.length ≤ 140737488355328) (hbase : B ≤ w.heap.size)
    (h : ∀ v' w', OwnB B v' (l ++ new) w' → Below B w w' → K (a.put o.dst v') w') :
    if Region.wanted o (yielded ops a.tmps) = true then Oper.wp Tryz.prog o a w K Q else E := by
  obtain ⟨i0, hi, hz0, hz1, hz2⟩ := info_parts info5
  refine step_append_lies w hgd s x 28 ho B 5 i0 (.int .u8 0) 1 1 Tryz.underlying28 hi hz0 hz1 hz2 rfl (by decide) v l.length (Lib.byteCells l) hs hown ⟨g, 0, none⟩ m c (Lib.byteCells new) hx
    (by rw [Lib.byteCells_length, hm]; omega) (by rw [← hcs]; exact World.news_of_block hblk) (bytes_oneCell new) hm0 (by unfold maxLen; omega) (by omega) hbase w.heap.size rfl ?_
  intro g' cap w' h1 h2 _ _
  refine h _ w' ?_ ((Below.refl B w).grown h2 hbase (fun k hk => (World.ownsRow.lt hown k hk).1))
  show w'.ownsRow B 5 1 _ (l ++ new).length (Lib.byteCells (l ++ new))
  have e : Lib.byteCells (l ++ new) = Lib.byteCells l ++ Lib.byteCells new := by simp [Lib.byteCells]
  rw [e, List.length_append, hm]
  exact h1
end Go.Proofs.YtpmhdcmmlkjjmaaGreatDoor
