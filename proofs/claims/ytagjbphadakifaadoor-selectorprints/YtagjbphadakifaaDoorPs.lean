/- joined: Own WalksE -/
import Derived.Deep.AppendLies
import Derived.Laws.IdiomStrings
import Derived.Laws.BytesArg
import Derived.Lib.UnsafeStr
import Derived.Test.YtagjbphadakifaaDoorPr
/- Rows of bytes that a call owns: append onto them, and their string. -/
set_option linter.unusedSimpArgs false
set_option linter.unusedVariables false
namespace Go.Proofs.YtagjbphadakifaaDoor
open Go.RowKit
theorem info5 : (Tryd.prog.info? 5).map (fun i => (i.zero, i.size, i.bytes)) = some (some (.int .u8 0), 1, 1) := by kernel_rfl
/-- the slice v owns the bytes l, in a block from B on -/
def Own (B : Nat) (v : Value) (l : List UInt8) (w : World) : Prop := w.ownsRow B 5 1 v l.length (Lib.byteCells l)
theorem Own.alloc {B : Nat} {v : Value} {l : List UInt8} {w : World} (h : Own B v l w) (o : Obj) : Own B v l (w.alloc o) := World.ownsRow.alloc h o
theorem Own.nil (B : Nat) (w : World) : Own B (.slice none 0 0) [] w := World.ownsRow_nil w B 5 1
theorem Own.built (B : Nat) (w : World) (l : List UInt8) (hB : B ≤ w.heap.size) (hl : l.length ≤ 1000) :
    Own B (.slice (some ⟨w.heap.size, 0, none⟩) l.length l.length) l (w.alloc (.cells (Lib.byteCells l).toArray 5)) := by
  refine ⟨by simp [Lib.byteCells_length], .inr ⟨w.heap.size, l.length, (Lib.byteCells l).toArray, rfl, hB, heap_alloc_new w _, Nat.le_refl _, by unfold maxLen; omega, by simp [Lib.byteCells_length], ?_⟩⟩
  simp [Lib.byteCells_length]
  exact List.take_of_length_le (by simp [Lib.byteCells_length])
theorem Own.conv {B : Nat} {v : Value} {l : List UInt8} {w : World} (h : Own B v l w) : (convert 60 9 v).run Tryd.prog w = .ok (.string ⟨l.toArray⟩) w := by
  rcases h.2 with ⟨hv, h0⟩ | ⟨g, cap, cur, hv, hb, hg, hn, hm, hs, ht⟩
  · have : l = [] := List.length_eq_zero_iff.1 h0
    subst this
    rw [hv]
    exact run_convert_bytes_nil (P := Tryd.prog) w 60 5 Tryd.underlying60 Tryd.underlying5 0 0 9 Tryd.underlying9
  · rw [hv]
    refine run_convert_bytes_back (P := Tryd.prog) w 60 9 5 ⟨g, 0, none⟩ cap l Tryd.underlying60 Tryd.underlying5 Tryd.underlying9 ?_
    intro j hj
    have hu : (Lib.byteCells l)[j]? = some (.int .u8 (l[j].toNat : Int)) := by simp [Lib.byteCells, hj]
    exact World.ownsRow.cells h (g := g) (by rw [hv]; rfl) j _ hu
theorem bytes_oneCell (l : List UInt8) : ∀ u ∈ Lib.byteCells l, u.oneCell' = true := by
  intro u hu
  simp only [Lib.byteCells, List.mem_map] at hu
  obtain ⟨c, _, rfl⟩ := hu
  rfl
/-- append of bytes that lie in a block of their own -/
theorem wpl_appQ {ops : Array Oper} {rest : List Oper} {o : Oper} {a : Act} {Q : Exit → Act → World → Prop} (w : World) (hgd : o.guard = none) (s x : Operand)
    (ho : o.op = .call { callee := .builtin .append, args := #[s, x], argTypes := #[60, 60] }) (B : Nat) (v : Value) (l : List UInt8) (hs : a.eval s = v) (hown : Own B v l w)
    (g m c : Nat) (new : List UInt8) (hx : a.eval x = .slice (some ⟨g, 0, none⟩) m c) (hm : new.length = m) (cs : Array Value) (fr : Nat × Nat) (hblk : w.heap[g]? = some (.cells cs 5 fr)) (hcs : cs.toList = Lib.byteCells new)
    (hlen : l.length + new.length ≤ 140737488355328) (hbase : B ≤ w.heap.size)
    (h : ∀ v' w', Own B v' (l ++ new) w' → Below B w w' → wpList Tryd.prog ops Q rest (a.put o.dst v') w') : wpList Tryd.prog ops Q (o :: rest) a w := by
  obtain ⟨i0, hi, hz0, hz1, hz2⟩ := info_parts info5
  refine wpList_append_own w hgd s x 60 ho B 5 i0 (.int .u8 0) 1 1 Tryd.underlying60 hi hz0 hz1 hz2 rfl (by decide) v l.length (Lib.byteCells l) hs hown ⟨g, 0, none⟩ m c (Lib.byteCells new) hx
    (by rw [Lib.byteCells_length, hm]; omega) (by rw [← hcs]; exact World.news_of_block hblk) (bytes_oneCell new) (by unfold maxLen; omega) (by omega) hbase ?_
  intro v' w' h1 h2 _
  refine h v' w' ?_ ((Below.refl B w).grown h2 hbase (fun k hk => (World.ownsRow.lt hown k hk).1))
  show w'.ownsRow B 5 1 v' (l ++ new).length (Lib.byteCells (l ++ new))
  have e : Lib.byteCells (l ++ new) = Lib.byteCells l ++ Lib.byteCells new := by simp [Lib.byteCells]
  rw [e, List.length_append, hm]
  exact h1
/-- the same at a step of a region that draws its order -/
theorem step_appQ {ops : Array Oper} {o : Oper} {a : Act} {K : Act → World → Prop} {Q : Exit → Act → World → Prop} {E : Prop} (w : World) (hgd : o.guard = none) (s x : Operand)
    (ho : o.op = .call { callee := .builtin .append, args := #[s, x], argTypes := #[60, 60] }) (B : Nat) (v : Value) (l : List UInt8) (hs : a.eval s = v) (hown : Own B v l w)
    (g m c : Nat) (new : List UInt8) (hx : a.eval x = .slice (some ⟨g, 0, none⟩) m c) (hm : new.length = m) (hm0 : 0 < m) (cs : Array Value) (fr : Nat × Nat) (hblk : w.heap[g]? = some (.cells cs 5 fr)) (hcs : cs.toList = Lib.byteCells new)
    (hlen : l.length + new.length ≤ 140737488355328) (hbase : B ≤ w.heap.size)
    (h : ∀ v' w', Own B v' (l ++ new) w' → Below B w w' → K (a.put o.dst v') w') :
    if Region.wanted o (yielded ops a.tmps) = true then Oper.wp Tryd.prog o a w K Q else E := by
  obtain ⟨i0, hi, hz0, hz1, hz2⟩ := info_parts info5
  refine step_append_lies w hgd s x 60 ho B 5 i0 (.int .u8 0) 1 1 Tryd.underlying60 hi hz0 hz1 hz2 rfl (by decide) v l.length (Lib.byteCells l) hs hown ⟨g, 0, none⟩ m c (Lib.byteCells new) hx
    (by rw [Lib.byteCells_length, hm]; omega) (by rw [← hcs]; exact World.news_of_block hblk) (bytes_oneCell new) hm0 (by unfold maxLen; omega) (by omega) hbase w.heap.size rfl ?_
  intro g' cap w' h1 h2 _ _
  refine h _ w' ?_ ((Below.refl B w).grown h2 hbase (fun k hk => (World.ownsRow.lt hown k hk).1))
  show w'.ownsRow B 5 1 _ (l ++ new).length (Lib.byteCells (l ++ new))
  have e : Lib.byteCells (l ++ new) = Lib.byteCells l ++ Lib.byteCells new := by simp [Lib.byteCells]
  rw [e, List.length_append, hm]
  exact h1
end Go.Proofs.YtagjbphadakifaaDoor
/- Contract: the document's Quote. -/
namespace Go.Proofs.YtagjbphadakifaaDoor
open Go.RowKit Go.Lib
/-- where the byte stands among the seven that have letters; 7: nowhere -/
def Q.idxN (c : Nat) : Nat := if c = 34 then 0 else if c = 92 then 1 else if c = 8 then 2 else if c = 9 then 3 else if c = 10 then 4 else if c = 12 then 5 else if c = 13 then 6 else 7
theorem Q.idxN_le (c : Nat) : Q.idxN c ≤ 7 := by
  unfold Q.idxN
  repeat' split
  all_goals omega
theorem Q.idx_none (c : Nat) (h : ¬ Q.idxN c < 7) : Q.letN c = 0 := by
  revert h
  unfold Q.idxN Q.letN
  repeat' split
  all_goals first | rfl | (intro h; omega)
theorem stand_ne (c : UInt8) (k : Nat) (h : k < Q.idxN c.toNat) (h' : k < (⟨#[34, 92, 8, 9, 10, 12, 13]⟩ : ByteArray).size) : (⟨#[34, 92, 8, 9, 10, 12, 13]⟩ : ByteArray)[k].toNat ≠ c.toNat := by
  have key : ∀ (k : Fin 7), (⟨#[34, 92, 8, 9, 10, 12, 13]⟩ : ByteArray)[k.val]'(k.isLt) = UInt8.ofNat ([34, 92, 8, 9, 10, 12, 13].getD k.val 0) ∧ Q.idxN ([34, 92, 8, 9, 10, 12, 13].getD k.val 0) = k.val ∧ [34, 92, 8, 9, 10, 12, 13].getD k.val 0 < 256 := by decide
  have hk := key ⟨k, h'⟩
  simp only at hk
  intro e
  rw [hk.1] at e
  obtain ⟨_, h2, h3⟩ := hk
  generalize [34, 92, 8, 9, 10, 12, 13].getD k 0 = z at *
  have e2 : z = c.toNat := by
    rw [← e]; simp; omega
  rw [← e2] at h
  omega
theorem stand_eq (c : UInt8) (h : Q.idxN c.toNat < 7) (h' : Q.idxN c.toNat < (⟨#[34, 92, 8, 9, 10, 12, 13]⟩ : ByteArray).size) (h'' : Q.idxN c.toNat < (⟨#[34, 92, 98, 116, 110, 102, 114]⟩ : ByteArray).size) :
    (⟨#[34, 92, 8, 9, 10, 12, 13]⟩ : ByteArray)[Q.idxN c.toNat].toNat = c.toNat ∧ (⟨#[34, 92, 98, 116, 110, 102, 114]⟩ : ByteArray)[Q.idxN c.toNat] = UInt8.ofNat (Q.letN c.toNat) ∧ Q.letN c.toNat ≠ 0 := by
  have key : ∀ c : Fin 256, (hh : Q.idxN c.val < 7) → (⟨#[34, 92, 8, 9, 10, 12, 13]⟩ : ByteArray)[Q.idxN c.val]'(hh) = UInt8.ofNat c.val ∧ (⟨#[34, 92, 98, 116, 110, 102, 114]⟩ : ByteArray)[Q.idxN c.val]'(hh) = UInt8.ofNat (Q.letN c.val) ∧ Q.letN c.val ≠ 0 := by decide +kernel
  have hk := key ⟨c.toNat, c.toNat_lt⟩ h
  refine ⟨?_, hk.2⟩
  rw [hk.1]
  simp
set_option maxRecDepth 100000 in
set_option maxHeartbeats 1000000 in
theorem refQuote_bad (s : ByteArray) (w : World) (hs : s.size ≤ 1048576) (hV : validD s.data.toList = false) :
    Calls Tryd.prog 69 #[.string s] w fun e w' => e = .returned (.tuple #[.string ⟨#[]⟩, .int .i64 11]) ∧ w' = w := by
  have c := refValid_any s (by omega) w
  rw [hV] at c
  clear hV
  go_enter Tryd.func69, Tryd.ntmps69
  go_wp2_with (go_at_call 64; refine c.mono ?_; rintro e w' ⟨rfl, rfl⟩)
  go_ret2
  exact ⟨rfl, rfl⟩
set_option maxRecDepth 100000 in
set_option maxHeartbeats 2000000 in
theorem refQuote_good (s : ByteArray) (w : World) (hs : s.size ≤ 1048576) (hV : validD s.data.toList = true) :
    Calls Tryd.prog 69 #[.string s] w fun e w' => e = .returned (.tuple #[.string ⟨(Q.qt s.data.toList).toArray⟩, .int .i64 0]) ∧ Below w.heap.size w w' := by
  have c := refValid_any s (by omega) w
  rw [hV] at c
  clear hV
  go_enter Tryd.func69, Tryd.ntmps69
  go_wp2_with (go_at_call 64; refine c.mono ?_; rintro e w ⟨rfl, rfl⟩)
  go_loopw [5, 6] (fun v i wr => ∃ k : Nat, k ≤ s.size ∧ i = .int .i64 k ∧ Own w.heap.size v (34 :: Q.body (s.data.toList.take k)) wr ∧ Below w.heap.size w wr) (fun _ i _ => s.size - (RowKit.intOf i).toNat)
  case atStart => exact ⟨0, Nat.zero_le _, rfl, Own.built w.heap.size w [34] (Nat.le_refl _) (by simp), (Below.refl _ _).alloc (Nat.le_refl _) _⟩
  case round =>
    obtain ⟨k, hk, rfl, ho, bk⟩ := hrel
    have hl0 := Q.sz_le (s.data.toList.take k)
    have hl1 : (s.data.toList.take k).length ≤ k := List.length_take_le _ _
    have hbl : (Q.body (s.data.toList.take k)).length ≤ 6291456 := by unfold Q.sz at hl0; omega
    have hsk := bk.size
    clear hl0 c
    by_cases hlt : k < s.size
    · have y1 : (k : Int) < s.size := by omega
      have HS : Hid (34 :: Q.body (s.data.toList.take (k + 1)) = (34 :: Q.body (s.data.toList.take k)) ++ Q.esc s[k]) := by
        show _ = _
        rw [take_snoc s k hlt, Q.body_snoc]; rfl
      go_wp2_with fail
      go_loop [8] (fun j => ∃ i : Nat, i ≤ Q.idxN s[k].toNat ∧ j = .int .i64 i) (fun j => 7 - (RowKit.intOf j).toNat)
      case atStart => exact ⟨0, Nat.zero_le _, rfl⟩
      case round =>
        obtain ⟨i, hi, rfl⟩ := hrel
        have hi7 := Q.idxN_le s[k].toNat
        by_cases hii : i < Q.idxN s[k].toNat
        · have z1 : (i : Int) < 7 := by omega
          have hne := stand_ne s[k] i hii (by show i < 7; omega)
          have z2 : ((((⟨#[34, 92, 8, 9, 10, 12, 13]⟩ : ByteArray)[i]'(by show i < 7; omega)).toNat : Int) != (s[k].toNat : Int)) = true := by rw [bne_iff_ne]; omega
          go_wp2
          go_round
          case rel => exact ⟨i + 1, by omega, by go_num⟩
          case measure => simp [RowKit.intOf]; omega
        · obtain rfl : i = Q.idxN s[k].toNat := by omega
          by_cases h7 : Q.idxN s[k].toNat < 7
          · have hse := stand_eq s[k] h7 (by exact h7) (by exact h7)
            have z1 : (Q.idxN s[k].toNat : Int) < 7 := by omega
            have z2 : ((((⟨#[34, 92, 8, 9, 10, 12, 13]⟩ : ByteArray)[Q.idxN s[k].toNat]'(by exact h7)).toNat : Int) != (s[k].toNat : Int)) = false := by rw [bne_eq_false_iff_eq]; omega
            have HE : Hid (Q.esc s[k] = [92, (⟨#[34, 92, 98, 116, 110, 102, 114]⟩ : ByteArray)[Q.idxN s[k].toNat]'(by exact h7)]) := by
              show _ = _
              rw [Q.esc_let _ hse.2.2, hse.2.1]
            clear hse
            generalize Q.idxN s[k].toNat = I at *
            go_wp2_with (at_builtin; refine wpl_appQ _ rfl (.tmp 40) (.tmp 43) rfl w.heap.size _ _ rfl (ho.alloc _) wr.heap.size 2 2 [92, (⟨#[34, 92, 98, 116, 110, 102, 114]⟩ : ByteArray)[I]'(by exact h7)] rfl rfl _ (0, 0) (heap_alloc_new wr _) rfl (by simp; omega) (by simp; omega) ?_; intro v' w1 ho1 b1)
            go_roundw
            case rel => exact ⟨k + 1, by omega, by go_num, by rw [HS.out, HE.out]; exact ho1, (bk.alloc hsk _).trans b1⟩
            case measure => simp [RowKit.intOf]; omega
          · have z1 : ¬ (Q.idxN s[k].toNat : Int) < 7 := by omega
            have hl := Q.idx_none s[k].toNat h7
            by_cases h32 : s[k].toNat < 32
            · have z3 : (s[k].toNat : Int) < 32 := by omega
              have HE : Hid (Q.esc s[k] = [92, 117, 48, 48, (⟨#[48, 49, 50, 51, 52, 53, 54, 55, 56, 57, 97, 98, 99, 100, 101, 102]⟩ : ByteArray)[s[k].toNat / 16]'(by show _ < 16; omega), (⟨#[48, 49, 50, 51, 52, 53, 54, 55, 56, 57, 97, 98, 99, 100, 101, 102]⟩ : ByteArray)[s[k].toNat % 16]'(by show _ < 16; omega)]) := by
                show _ = _
                rw [Q.esc_low _ hl h32, hexAt _ (by omega), hexAt _ (by omega)]
              clear hl
              have q1 : (0 : Int) ≤ (s[k].toNat : Int) / 16 := by omega
              have q2 : (s[k].toNat : Int) / 16 < 16 := by omega
              have q3 : (0 : Int) ≤ (s[k].toNat : Int) % 16 := by omega
              have q4 : (s[k].toNat : Int) % 16 < 16 := by omega
              have q5 : IntKind.u8.wrap ((s[k].toNat : Int) / 16) = ((s[k].toNat / 16 : Nat) : Int) := by rw [IntKind.wrap_u8]; omega
              have q6 : (s[k].toNat : Int).tmod 16 = ((s[k].toNat % 16 : Nat) : Int) := by rw [Int.tmod_eq_emod_of_nonneg (by omega)]; omega
              have q7 : s[k].toNat / 16 < 16 := by omega
              have q8 : s[k].toNat % 16 < 16 := by omega
              go_wp2_with fail
              go_region_law ((refine step_appQ _ (by rfl) (.tmp 48) (.tmp 55) (by rfl) w.heap.size _ _ (by rfl) (show Own w.heap.size _ (34 :: Q.body (s.data.toList.take k)) _ from ho.alloc _) wr.heap.size 6 6 [92, 117, 48, 48, (⟨#[48, 49, 50, 51, 52, 53, 54, 55, 56, 57, 97, 98, 99, 100, 101, 102]⟩ : ByteArray)[s[k].toNat / 16]'(by show _ < 16; omega), (⟨#[48, 49, 50, 51, 52, 53, 54, 55, 56, 57, 97, 98, 99, 100, 101, 102]⟩ : ByteArray)[s[k].toNat % 16]'(by show _ < 16; omega)] (by rfl) rfl (by decide) _ (0, 0) (by exact heap_alloc_new wr _) (by rfl) (by simp; omega) (by simp; omega) ?_; intro v' w1 ho1 b1))
              all_goals
                go_wp2
                go_roundw
                case rel => exact ⟨k + 1, by omega, by go_num, by rw [HS.out, HE.out]; exact ho1, ((bk.alloc hsk _).drew).trans b1⟩
                case measure => simp [RowKit.intOf]; omega
            · have z3 : ¬ (s[k].toNat : Int) < 32 := by omega
              have HE : Hid (Q.esc s[k] = [s[k]]) := Q.esc_same _ hl h32
              clear hl
              go_wp2_with (at_builtin; refine wpl_appQ _ rfl (.tmp 33) (.tmp 35) rfl w.heap.size _ _ rfl (ho.alloc _) wr.heap.size 1 1 [s[k]] rfl rfl _ (0, 0) (heap_alloc_new wr _) rfl (by simp; omega) (by simp; omega) ?_; intro v' w1 ho1 b1)
              go_roundw
              case rel => exact ⟨k + 1, by omega, by go_num, by rw [HS.out, HE.out]; exact ho1, (bk.alloc hsk _).trans b1⟩
              case measure => simp [RowKit.intOf]; omega
    · have y1 : ¬ (k : Int) < s.size := by omega
      rw [take_all s k (by omega)] at ho hbl
      go_wp2_with (at_builtin; refine wpl_appQ _ rfl (.tmp 57) (.tmp 58) rfl w.heap.size _ _ rfl (ho.alloc _) wr.heap.size 1 1 [34] rfl rfl _ (0, 0) (heap_alloc_new wr _) rfl (by simp; omega) (by simp; omega) ?_; intro v' w1 ho1 b1; have hcv := ho1.conv)
      go_ret2
      exact ⟨rfl, (bk.alloc hsk _).trans b1⟩
end Go.Proofs.YtagjbphadakifaaDoor
