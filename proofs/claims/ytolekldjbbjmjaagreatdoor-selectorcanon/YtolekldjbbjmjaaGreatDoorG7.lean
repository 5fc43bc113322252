/- joined: TrmU TrmO TrmV TrmW TrmY -/
import Derived.Test.YtolekldjbbjmjaaGreatDoorTrmT
import Derived.Test.YtolekldjbbjmjaaGreatDoorRows
import Derived.Lib.LaidIn
import Derived.Lib.LaidU8T
import Derived.WideKeyArgs
import Derived.OpenShut
import Derived.Deep.DeepHandedRow
/- the program's Match. -/
set_option linter.unusedSimpArgs false
set_option linter.unusedVariables false
namespace Go.Proofs.YtolekldjbbjmjaaGreatDoor
open Go.RowKit Go.Lib Go.Maps
theorem vals_next {l : List ByteArray} (h : valsB l = true) {k : Nat} (hk : k + 1 < l.length) : Op.bytesLess (l[k]'(by omega)).toList (l[k + 1]).toList = true := by
  unfold valsB at h
  rw [List.all_eq_true] at h
  have := h (k + 1) (List.mem_range.2 hk)
  rw [valB_succ hk, Bool.and_eq_true] at this
  exact this.2
theorem vals_lt {l : List ByteArray} (h : valsB l = true) {i : Nat} : ∀ {k : Nat} (hk : k < l.length) (hi : i < k), Op.bytesLess (l[i]'(by omega)).toList (l[k]).toList = true
  | 0, _, hi => by omega
  | k + 1, hk, hi => by
    by_cases e : i = k
    · subst e; exact vals_next h hk
    · exact less_trans (vals_lt h (by omega) (by omega)) (vals_next h hk)
theorem putI_le (l : List ByteArray) (x : ByteArray) : putI l x ≤ l.length := (List.takeWhile_sublist _).length_le
theorem putI_lt : ∀ {l : List ByteArray} {x : ByteArray} {t : Nat} (h : t < putI l x), Op.bytesLess (l[t]'(Nat.lt_of_lt_of_le h (putI_le l x))).toList x.toList = true
  | [], x, t, h => by simp [putI] at h
  | s :: r, x, t, h => by
    unfold putI at h
    rw [List.takeWhile_cons] at h
    split at h
    · rename_i hs
      cases t with
      | zero => exact hs
      | succ t => exact putI_lt (l := r) (x := x) (t := t) (by simpa [putI] using h)
    · simp at h
theorem putI_stop : ∀ {l : List ByteArray} {x : ByteArray} (h : putI l x < l.length), Op.bytesLess (l[putI l x]).toList x.toList = false
  | [], x, h => by simp at h
  | s :: r, x, h => by
    by_cases hs : Op.bytesLess s.toList x.toList = true
    · have e : putI (s :: r) x = putI r x + 1 := by unfold putI; rw [List.takeWhile_cons, if_pos hs]; rfl
      have h2 : putI r x < r.length := by rw [e] at h; simpa using h
      have := putI_stop (l := r) (x := x) h2
      simp only [e, List.getElem_cons_succ]
      exact this
    · have e : putI (s :: r) x = 0 := by unfold putI; rw [List.takeWhile_cons, if_neg hs]; rfl
      simp only [e, List.getElem_cons_zero]
      simpa using hs
theorem vals_search {l : List ByteArray} (h : valsB l = true) (x : ByteArray) (t : Nat) (ht : t < l.length) : Op.bytesLess (l[t]).toList x.toList = decide (t < putI l x) := by
  by_cases h1 : t < putI l x
  · rw [decide_eq_true h1]; exact putI_lt h1
  · rw [decide_eq_false h1]
    have h2 := putI_stop (l := l) (x := x) (by omega)
    by_cases e : t = putI l x
    · simp only [e]; exact h2
    · cases hb : Op.bytesLess (l[t]).toList x.toList with
      | false => rfl
      | true =>
        have h3 := less_trans (vals_lt h ht (i := putI l x) (by omega)) hb
        rw [h2] at h3
        cases h3
theorem vals_hit {l : List ByteArray} (h : valsB l = true) (x : ByteArray) : hitS l (putI l x) x = amongB l x := by
  rw [Bool.eq_iff_iff, amongB_iff]
  unfold hitS
  constructor
  · intro h1
    split at h1
    · rename_i s hs
      rw [beq_iff_eq] at h1
      have := bytes_ext9 h1
      subst this
      exact List.mem_of_getElem? hs
    · cases h1
  · intro hx
    obtain ⟨i, hi, rfl⟩ := List.mem_iff_getElem.1 hx
    have h1 := vals_search h l[i] i hi
    rw [less_self] at h1
    have h1 : ¬ i < putI l l[i] := of_decide_eq_false h1.symm
    have h2 : ¬ putI l l[i] < i := fun hlt => by
      have a1 := vals_lt h hi hlt
      have a2 := putI_stop (l := l) (x := l[i]) (by omega)
      rw [a2] at a1
      cases a1
    have e : putI l l[i] = i := by omega
    rw [e, List.getElem?_eq_getElem hi]
    simp
theorem good_vals {t : Trm} (h : goodB t = true) : valsB t.2.2 = true := by
  unfold goodB at h
  rw [Bool.and_eq_true] at h
  have h2 := h.2
  split at h2
  · have h3 : t.2.2.length = 0 := of_decide_eq_true h2
    exact valsB_yes (fun k hk => by omega)
  · split at h2
    · rw [Bool.and_eq_true] at h2; exact h2.2
    · cases h2
def matchB (l : List Trm) (m : List Mem) : Bool := l.all goodB && l.all (termB m)
set_option maxHeartbeats 8000000 in
set_option maxRecDepth 100000 in
theorem match_any (l : List Trm) (m : List Mem) (R R2 : Bool) (S S2 : Nat → Prop) (al : Option Addr) (cl bl ol : Nat) (am : Option Addr) (cm bm om : Nat) (w : World)
    (hh : Headed al l.length cl bl ol) (hl : liesT R w S l bl ol) (hS : ∀ y, S y → y < w.heap.size) (hh2 : Headed am m.length cm bm om) (hl2 : liesM R2 w S2 m bm om) (hS2 : ∀ y, S2 y → y < w.heap.size) (hlm : m.length ≤ 2147483647) (hwt : wtT l ≤ 2147483647) (hT : Tb w) :
    Calls Tryz.prog 13 #[.slice al l.length cl, .slice am m.length cm] w (BPost (matchB l m) w) := by
  have HH := hmk hh
  have HL := hmk hl
  have HG := hmk (issel_any l R S al cl bl ol w hh hl hS hT)
  have hm : l.length ≤ 9223372036854775807 := Nat.le_trans hh.le hh.max
  have HBY := hmk (fun (W : World) (hW : Below w.heap.size w W) => bykey_any m R2 S2 am cm bm om W hh2 (liesM_keep (fun h => h) (fun y hy => hW.block y (hS2 y hy)) (fun _ h => h) _ hl2) (fun y hy => Nat.lt_of_lt_of_le (hS2 y hy) hW.size) hlm)
  have HWT : Hid (∀ j (h : j < l.length), wtS (l[j]).2.2 ≤ 2147483647) := fun j h => by have := wtT_mem (List.getElem_mem h); omega
  clear hh hl hh2 hl2 hS2 hT hwt
  unfold matchB
  cases hg : l.all goodB with
  | false =>
    rw [hg] at HG
    clear hg
    go_enter Tryz.func13, Tryz.ntmps13
    go_wp2_with (first | (go_at_call 22; refine HG.out.mono ?_; rintro e w1 ⟨rfl, B1⟩))
    go_ret
    exact ⟨rfl, B1⟩
  | true =>
    rw [hg] at HG
    rw [Bool.true_and]
    have HGJ : Hid (∀ j (h : j < l.length), goodB l[j] = true) := fun j h => by
      rw [List.all_eq_true] at hg
      exact hg _ (List.getElem_mem h)
    clear hg
    go_enter Tryz.func13, Tryz.ntmps13
    go_wp2_with (first | (go_at_call 22; refine HG.out.mono ?_; rintro e w1 ⟨rfl, B1⟩) | (go_at_call 26; refine (HBY.out _ B1).mono ?_; rintro e w2 ⟨bb, bn, D, rfl, hM, hD, B2⟩))
    have BB : Below w.heap.size w w2 := B1.trans (B2.mono B1.size)
    have HM := hmk hM
    have HD := hmk hD
    clear hM hD
    go_loopw [15] (fun e6 wr => ∃ j : Nat, j ≤ l.length ∧ e6 = .int .i64 (j : Int) ∧ Below w2.heap.size w2 wr ∧ Hid (∀ k (h : k < l.length), k < j → termB m l[k] = true)) (fun e6 _ => l.length - (RowKit.intOf e6).toNat)
    case atStart => exact ⟨0, by omega, rfl, Below.refl _ _, fun k _ h => by omega⟩
    case round =>
      obtain ⟨j, hj, rfl, Bj2, HN⟩ := hrel
      have Bj : Below w.heap.size w wr := BB.trans (Bj2.mono BB.size)
      have hzr := Bj.size
      by_cases hjl : j < l.length
      · have y1 : (j : Int) < l.length := by omega
        obtain rfl : al = some ⟨bl, ol, none⟩ := HH.out.at_.resolve_left (by omega)
        obtain ⟨s1, cs, row1, t1⟩ := HL.out j hjl
        obtain ⟨ta, tc, tb, to', rfl, _, hks, hd1, ts1, _⟩ := t1
        obtain ⟨q, q0, q1⟩ := row3 (row1.keep (Bj.block _ (hS _ s1)))
        have a1 : Below wr.heap.size wr (wr.alloc (.cells #[.string (l[j]).1, .int .i64 (l[j]).2.1, .slice ta (l[j]).2.2.length tc] 35)) := (Below.refl _ _).alloc (Nat.le_refl _) _
        have b1 := Bj.trans (a1.mono hzr)
        have hx := heap_alloc_new wr (.cells #[.string (l[j]).1, .int .i64 (l[j]).2.1, .slice ta (l[j]).2.2.length tc] 35)
        have x0 : (wr.alloc (.cells #[.string (l[j]).1, .int .i64 (l[j]).2.1, .slice ta (l[j]).2.2.length tc] 35)).cell? ⟨wr.heap.size, 0, none⟩ = some (.string (l[j]).1) := by rw [cell_of_block hx]; rfl
        have x1 : (wr.alloc (.cells #[.string (l[j]).1, .int .i64 (l[j]).2.1, .slice ta (l[j]).2.2.length tc] 35)).cell? ⟨wr.heap.size, 1, none⟩ = some (.int .i64 (l[j]).2.1) := by rw [cell_of_block hx]; rfl
        have x2 : (wr.alloc (.cells #[.string (l[j]).1, .int .i64 (l[j]).2.1, .slice ta (l[j]).2.2.length tc] 35)).cell? ⟨wr.heap.size, 2, none⟩ = some (.slice ta (l[j]).2.2.length tc) := by rw [cell_of_block hx]; rfl
        have hMr : (wr.alloc (.cells #[.string (l[j]).1, .int .i64 (l[j]).2.1, .slice ta (l[j]).2.2.length tc] 35)).ownsMap Tryz.prog 9 oR bb bn D := (HM.out.kept (w' := wr) (row := none) ⟨Bj2.os, Bj2.tape, Bj2.output, Bj2.size, fun y hy _ => Bj2.block y hy⟩ (by simp)).alloc _
        obtain ⟨ub, ui, ua, un, uc, ua2, un2, uc2, hlk⟩ := says_look hMr HD.out (l[j]).1 (Nat.le_trans hks (by decide))
        have hvals := good_vals (HGJ.out j hjl)
        have hwj := HWT.out j hjl
        have hlen := wtS_len (l[j]).2.2
        have HR := hmk (holds_any (l[j]).1 (l[j]).2.1 (l[j]).2.2 (if (labF m (l[j]).1).2 then 3 else 0) ub ui (labF m (l[j]).1).1 (.slice ua un uc) (.slice ua2 un2 uc2) (putI (l[j]).2.2 (labF m (l[j]).1).1) S ta tc tb to' (wr.alloc (.cells #[.string (l[j]).1, .int .i64 (l[j]).2.1, .slice ta (l[j]).2.2.length tc] 35)) ⟨_, _, _, rfl⟩ ⟨_, _, _, rfl⟩ hd1 (ts1.keep (fun y hy => b1.block y (hS y hy)) (fun _ h => h)) (fun y hy => Nat.lt_of_lt_of_le (hS y hy) b1.size) (by omega) (putI_le _ _) (fun t ht => vals_search hvals _ t ht))
        have hE : holdsB (l[j]).2.1 (((if (labF m (l[j]).1).2 then (3 : Int) else 0)) == 3) (hitS (l[j]).2.2 (putI (l[j]).2.2 (labF m (l[j]).1).1) (labF m (l[j]).1).1) = termB m l[j] := by
          unfold termB
          rw [vals_hit hvals]
          congr 1
          cases (labF m (l[j]).1).2 <;> rfl
        rw [hE] at HR
        obtain ⟨r, hr⟩ : ∃ r, termB m l[j] = r := ⟨_, rfl⟩
        rw [hr] at HR
        have HNO : Hid (r = false → l.all (termB m) = false) := fun h => all_no hjl (hr.trans h)
        have HYE : Hid (r = true → ∀ k (h : k < l.length), k < j + 1 → termB m l[k] = true) := fun h k hk hk2 => by
          by_cases e : k = j
          · subst e; exact hr.trans h
          · exact HN.out k hk (by omega)
        have HB1 : Hid (∀ W : World, Below (wr.alloc (.cells #[.string (l[j]).1, .int .i64 (l[j]).2.1, .slice ta (l[j]).2.2.length tc] 35)).heap.size (wr.alloc (.cells #[.string (l[j]).1, .int .i64 (l[j]).2.1, .slice ta (l[j]).2.2.length tc] 35)) W → Below w.heap.size w W ∧ Below w2.heap.size w2 W) := fun W hW => ⟨b1.trans (hW.mono b1.size), (Bj2.trans (a1.mono Bj2.size)).trans (hW.mono (by have := Bj2.size; have := a1.size; omega))⟩
        clear hr HN row1 hd1 ts1 hE hx b1 a1 hks hMr hvals hwj hlen
        generalize l[j] = t at *
        generalize (labF m t.1).1 = lt at *
        generalize (if (labF m t.1).2 then (3 : Int) else 0) = lk at *
        cases r with
        | false =>
          have HA := hmk (HNO.out rfl)
          go_wp2_with (first | (go_at_call 27; refine HR.out.mono ?_; rintro e w3 ⟨rfl, B3⟩))
          go_ret
          exact ⟨congrArg (fun r => Ending.returned (.bool r)) HA.out.symm, (HB1.out _ B3).1⟩
        | true =>
          have HY := hmk (HYE.out rfl)
          go_wp2_with (first | (go_at_call 27; refine HR.out.mono ?_; rintro e w3 ⟨rfl, B3⟩))
          go_roundw
          case rel => exact ⟨j + 1, by omega, by go_num, (HB1.out _ B3).2, HY.out⟩
          case measure => simp [RowKit.intOf]; omega
      · obtain rfl : j = l.length := by omega
        have y1 : ¬ (l.length : Int) < l.length := by omega
        have HA := hmk (all_yes fun k hk => HN.out k hk hk)
        go_wp2_with fail
        (try simp only [Exit.inBlock, Exit.then])
        go_ret
        exact ⟨congrArg (fun r => Ending.returned (.bool r)) HA.out.symm, Bj⟩
end Go.Proofs.YtolekldjbbjmjaaGreatDoor
/- shaped. -/
namespace Go.Proofs.YtolekldjbbjmjaaGreatDoor
open Go.RowKit Go.Lib
/-- a term in memory, with no marks asked -/
def EF (x : Trm) (w : World) (S : Nat → Prop) (cs : List Value) : Prop := Trm.lies false w S x cs
theorem keepF : KeepE EF := by
  intro x w w' S S' cs hw hS h
  exact Trm.lies_keep (fun h => h) h hw hS
abbrev OwnF := OwnR EF 35 3
theorem head_nilS : Headed none 0 0 0 0 := ⟨Nat.le_refl _, by decide, .inl rfl, fun _ => rfl⟩
theorem own_terms {w w' : World} {SM : Nat → Prop} {v : Value} {l : List Trm} (h : OwnF w' w.heap.size SM v l) : ∃ a c b o, v = .slice a l.length c ∧ Headed a l.length c b o ∧ liesT false w' (New w w') l b o := by
  obtain ⟨a, c, rfl⟩ := own_slice h
  cases l with
  | nil =>
    have h' := h
    obtain ⟨⟨xs, h1, _⟩, _⟩ := h'
    rcases h1.2 with ⟨e, e2⟩ | ⟨g, cap, cur, e, _⟩
    · simp only [Value.slice.injEq] at e
      obtain ⟨rfl, _, rfl⟩ := e
      exact ⟨none, 0, 0, 0, rfl, head_nilS, fun j hj => by simp at hj⟩
    · simp only [Value.slice.injEq] at e
      obtain ⟨rfl, _, rfl⟩ := e
      have h2 := h.le
      exact ⟨_, _, g, 0, rfl, ⟨h2.1, h2.2, .inr rfl, fun h => by cases h⟩, fun j hj => by simp at hj⟩
  | cons x t =>
    obtain ⟨g, cap, hv, hc1, hc2, hg1, hg2⟩ := own_some h (by simp)
    simp only [Value.slice.injEq] at hv
    obtain ⟨rfl, _, rfl⟩ := hv
    refine ⟨_, _, g, 0, rfl, ⟨hc1, hc2, .inr rfl, fun h => by cases h⟩, fun j hj => ⟨⟨hg1, hg2⟩, ?_⟩⟩
    obtain ⟨cs, h1, h2⟩ := h.at rfl j hj
    have h3 : Trm.lies false w' SM _ cs := h2
    exact ⟨cs, h1, Trm.lies_keep (fun h => h) h3 (fun _ _ => rfl) (fun b hb => ⟨(h.off b hb).1, (h.off b hb).2.1⟩)⟩
end Go.Proofs.YtolekldjbbjmjaaGreatDoor
/- the document's Good and Match; labels, tagged, members. -/
namespace Go.Proofs.YtolekldjbbjmjaaGreatDoor
open Go.RowKit Go.Lib
abbrev Lab := ByteArray × ByteArray × Int
def Lab.ok (x : Lab) : Prop := x.1.size ≤ 140737488355328 ∧ x.2.1.size ≤ 140737488355328 ∧ In64 x.2.2
def liesB (w : World) (S : Nat → Prop) (l : List Lab) (b o : Nat) : Prop := ∀ j (h : j < l.length), S b ∧ rowAt w b (o + j * 3) [.string (l[j]).1, .string (l[j]).2.1, .int .i64 (l[j]).2.2] ∧ (l[j]).ok
theorem liesB.keep {w w' : World} {S S' : Nat → Prop} {l : List Lab} {b o : Nat} (h : liesB w S l b o) (hw : ∀ b, S b → w'.heap[b]? = w.heap[b]?) (hS : ∀ b, S b → S' b) : liesB w' S' l b o := fun j hj => by
  obtain ⟨h1, h2, h3⟩ := h j hj
  exact ⟨hS _ h1, h2.keep (hw _ h1), h3⟩
end Go.Proofs.YtolekldjbbjmjaaGreatDoor
/- members. -/
namespace Go.Proofs.YtolekldjbbjmjaaGreatDoor
open Go.RowKit Go.Lib
theorem plain_lies {k i : Int} {s : ByteArray} (hk : In64 k) (hi : In64 i) (hs : s.size ≤ 140737488355328) (w : World) (S : Nat → Prop) : V.lies false w S (.mk k false i s [] []) [.int .i64 k, .bool false, .int .i64 i, .string s, .slice none 0 0, .slice none 0 0] := by
  rw [V.lies]
  exact ⟨none, 0, 0, 0, none, 0, 0, 0, rfl, hk, hi, by unfold maxLen; omega, head_nilS, head_nilS, by rw [liesL]; trivial, by rw [liesM]; trivial, fun h => by cases h⟩
end Go.Proofs.YtolekldjbbjmjaaGreatDoor
/- What the rows need: the tables, the arguments opened and given back, a world for the witness. -/
namespace Go.Proofs.YtolekldjbbjmjaaGreatDoor
open Go.Shelf Go.Lib Go.ChangeShapes Go.RowKit Go.WideShapes Go.Deep
theorem accept_eq : Rows.laid_unicode_utf8_acceptRanges = Lib.acceptData := by kernel_rfl
theorem first_eq : Rows.laid_unicode_utf8_first = Lib.firstData := by kernel_rfl
theorem utabs_of {W : World} (h3 : VarReads Tryz.prog W "unicode/utf8.first" Rows.laid_unicode_utf8_first) (h4 : VarReads Tryz.prog W "unicode/utf8.acceptRanges" Rows.laid_unicode_utf8_acceptRanges) : Utf8Tabs 0 1 W := by
  rw [first_eq] at h3
  rw [accept_eq] at h4
  exact utf8Tabs_of_readsT (U8Types.of196 Tryz.lays196) ⟨by kernel_rfl, by kernel_rfl, by kernel_rfl, by kernel_rfl, by kernel_rfl, by kernel_rfl, by kernel_rfl⟩ h3 h4
theorem own : ownKnob Tryz.prog.godebug = none := by kernel_rfl
def putCells (cs : Array Value) : Obj → Obj
  | .cells _ t frozen => .cells cs t frozen
  | o => o
variable {H : Type} {enc : TypeId × Value → H}
section
variable {w : World} {spare : Nat → Bool} {held : Bool}
end
theorem block_lt {W : World} {b o : Nat} {v : Value} (h : W.cell? ⟨b, o, none⟩ = some v) : b < W.heap.size := World.block_lt_of_cell? W ⟨b, o, none⟩ h
theorem utab_lt {W : World} (h : Utf8Tabs 0 1 W) : 1 < W.heap.size := block_lt (h.2 0 (by omega)).1
end Go.Proofs.YtolekldjbbjmjaaGreatDoor
