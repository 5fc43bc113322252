/- joined: TrmC TrmD TrmG TrmH TrmI TrmJ -/
import Derived.Test.YtolekldjbbjmjaaGreatDoorG2
import Derived.Laws.AppendOwnNone
import Derived.Deep.RegionHeld
/- textsSame, same: of the same. -/
set_option linter.unusedSimpArgs false
set_option linter.unusedVariables false
namespace Go.Proofs.YtolekldjbbjmjaaGreatDoor
open Go.RowKit
set_option maxHeartbeats 8000000 in
set_option maxRecDepth 100000 in
theorem textsame_any (l : List ByteArray) (S1 S2 : Nat → Prop) (a1 a2 : Option Addr) (c1 c2 b1 b2 o1 o2 : Nat) (w : World) (h1 : Headed a1 l.length c1 b1 o1) (h2 : Headed a2 l.length c2 b2 o2) (l1 : liesS w S1 l b1 o1) (l2 : liesS w S2 l b2 o2) (hS1 : ∀ b, S1 b → b < w.heap.size) (hS2 : ∀ b, S2 b → b < w.heap.size) :
    Calls Tryz.prog 34 #[.slice a1 l.length c1, .slice a2 l.length c2] w (BPost true w) := by
  have H1 := hmk h1
  have H2 := hmk h2
  have L1 := hmk l1
  have L2 := hmk l2
  have hm : l.length ≤ 9223372036854775807 := Nat.le_trans h1.le h1.max
  clear h1 h2 l1 l2
  go_enter Tryz.func34, Tryz.ntmps34
  go_wp2_with fail
  go_loopw [5] (fun e5 wr => ∃ j : Nat, j ≤ l.length ∧ e5 = .int .i64 (j : Int) ∧ Below w.heap.size w wr) (fun e5 _ => l.length - (RowKit.intOf e5).toNat)
  case atStart => exact ⟨0, by omega, rfl, Below.refl _ _⟩
  case round =>
    obtain ⟨j, hj, rfl, bj⟩ := hrel
    have hzr := bj.size
    by_cases hjl : j < l.length
    · have y1 : (j : Int) < l.length := by omega
      obtain ⟨s1, _, q1⟩ := L1.out j hjl
      obtain ⟨s2, _, q2⟩ := L2.out j hjl
      obtain rfl : a1 = some ⟨b1, o1, none⟩ := H1.out.at_.resolve_left (by omega)
      obtain rfl : a2 = some ⟨b2, o2, none⟩ := H2.out.at_.resolve_left (by omega)
      have h1 := hS1 _ s1
      have h2 := hS2 _ s2
      have x1 : ∀ x : Sub wr.heap.size wr, _ := sub_cell ((bj.cell (p := ⟨b1, o1 + j, none⟩) h1).trans q1) (by omega)
      have x2 : ∀ x : Sub wr.heap.size wr, _ := sub_cell ((bj.cell (p := ⟨b2, o2 + j, none⟩) h2).trans q2) (by omega)
      generalize l[j] = s at *
      clear q1 q2
      go_wp2_with fail
      refine wp_region_sub wr.heap.size (by kernel_rfl) (by kernel_rfl) ?_
      repeat (go_big_quiet_step (fail))
      refine wpQuiet_nil ?_
      rintro wq ⟨⟨wq', bq⟩, hq⟩
      have hq' : wq = wq' := hq
      subst hq'
      clear hq x1 x2
      go_wp2_with fail
      go_roundw
      case rel => exact ⟨j + 1, by omega, by go_num, bj.trans (bq.mono (by omega))⟩
      case measure => simp [RowKit.intOf]; omega
    · obtain rfl : j = l.length := by omega
      have y1 : ¬ (l.length : Int) < l.length := by omega
      go_wp2_with fail
      (try simp only [Exit.inBlock, Exit.then])
      go_ret
      exact ⟨rfl, bj⟩
set_option maxHeartbeats 8000000 in
set_option maxRecDepth 100000 in
theorem same_any (l : List Trm) (R1 R2 : Bool) (S1 S2 : Nat → Prop) (a1 a2 : Option Addr) (c1 c2 b1 b2 o1 o2 : Nat) (w : World) (h1 : Headed a1 l.length c1 b1 o1) (h2 : Headed a2 l.length c2 b2 o2) (l1 : liesT R1 w S1 l b1 o1) (l2 : liesT R2 w S2 l b2 o2) (hS1 : ∀ b, S1 b → b < w.heap.size) (hS2 : ∀ b, S2 b → b < w.heap.size) :
    Calls Tryz.prog 15 #[.slice a1 l.length c1, .slice a2 l.length c2] w (BPost true w) := by
  have H1 := hmk h1
  have H2 := hmk h2
  have L1 := hmk l1
  have L2 := hmk l2
  have hm : l.length ≤ 9223372036854775807 := Nat.le_trans h1.le h1.max
  clear h1 h2 l1 l2
  go_enter Tryz.func15, Tryz.ntmps15
  go_wp2_with fail
  go_loopw [5] (fun e5 wr => ∃ j : Nat, j ≤ l.length ∧ e5 = .int .i64 (j : Int) ∧ Below w.heap.size w wr) (fun e5 _ => l.length - (RowKit.intOf e5).toNat)
  case atStart => exact ⟨0, by omega, rfl, Below.refl _ _⟩
  case round =>
    obtain ⟨j, hj, rfl, bj⟩ := hrel
    have hzr := bj.size
    by_cases hjl : j < l.length
    · have y1 : (j : Int) < l.length := by omega
      obtain ⟨s1, cs1, row1, t1⟩ := L1.out j hjl
      obtain ⟨s2, cs2, row2, t2⟩ := L2.out j hjl
      obtain ⟨ta1, tc1, tb1, to1, rfl, _, _, hd1, ts1, _⟩ := t1
      obtain ⟨ta2, tc2, tb2, to2, rfl, _, _, hd2, ts2, _⟩ := t2
      obtain rfl : a1 = some ⟨b1, o1, none⟩ := H1.out.at_.resolve_left (by omega)
      obtain rfl : a2 = some ⟨b2, o2, none⟩ := H2.out.at_.resolve_left (by omega)
      have h1 := hS1 _ s1
      have h2 := hS2 _ s2
      obtain ⟨q, q0, q1⟩ := row3 (row1.keep (bj.block _ h1))
      obtain ⟨p, p0, p1⟩ := row3 (row2.keep (bj.block _ h2))
      have CT : Hid (∀ y : Sub wr.heap.size wr, Calls Tryz.prog 34 #[.slice ta1 (l[j]).2.2.length tc1, .slice ta2 (l[j]).2.2.length tc2] y.w fun e w'' => e = .returned (.bool true) ∧ ∃ z : Sub wr.heap.size wr, w'' = z.w) :=
        sub_call fun w' hb => (textsame_any (l[j]).2.2 S1 S2 ta1 ta2 tc1 tc2 tb1 tb2 to1 to2 w' hd1 hd2
          (ts1.keep (fun b hh => (hb.block b (by have := hS1 b hh; omega)).trans (bj.block b (hS1 b hh))) (fun _ h => h))
          (ts2.keep (fun b hh => (hb.block b (by have := hS2 b hh; omega)).trans (bj.block b (hS2 b hh))) (fun _ h => h))
          (fun b hh => by have := hS1 b hh; have := hb.size; omega) (fun b hh => by have := hS2 b hh; have := hb.size; omega)).mono (by rintro e w'' ⟨rfl, h3⟩; exact ⟨rfl, hb.trans (h3.mono hb.size)⟩)
      have x0 : ∀ x : Sub wr.heap.size wr, _ := sub_cell q (by omega)
      have x1 : ∀ x : Sub wr.heap.size wr, _ := sub_cell q0 (by omega)
      have x2 : ∀ x : Sub wr.heap.size wr, _ := sub_cell q1 (by omega)
      have z0 : ∀ x : Sub wr.heap.size wr, _ := sub_cell p (by omega)
      have z1 : ∀ x : Sub wr.heap.size wr, _ := sub_cell p0 (by omega)
      have z2 : ∀ x : Sub wr.heap.size wr, _ := sub_cell p1 (by omega)
      clear q q0 q1 p p0 p1 row1 row2 hd1 hd2 ts1 ts2
      generalize l[j] = s at *
      go_wp2_with fail
      refine wp_region_sub wr.heap.size (by kernel_rfl) (by kernel_rfl) ?_
      repeat (go_big_quiet_step (exact CT.out _))
      refine wpQuiet_nil ?_
      rintro wq ⟨⟨wq', bq⟩, hq⟩
      have hq' : wq = wq' := hq
      subst hq'
      clear hq x0 x1 x2 z0 z1 z2 CT
      go_wp2_with fail
      go_roundw
      case rel => exact ⟨j + 1, by omega, by go_num, bj.trans (bq.mono (by omega))⟩
      case measure => simp [RowKit.intOf]; omega
    · obtain rfl : j = l.length := by omega
      have y1 : ¬ (l.length : Int) < l.length := by omega
      go_wp2_with fail
      (try simp only [Exit.inBlock, Exit.then])
      go_ret
      exact ⟨rfl, bj⟩
end Go.Proofs.YtolekldjbbjmjaaGreatDoor
/- roomy. -/
namespace Go.Proofs.YtolekldjbbjmjaaGreatDoor
open Go.RowKit Go.Lib
def ES (s : ByteArray) (w : World) (S : Nat → Prop) (cs : List Value) : Prop := cs = [.string s]
theorem keepS : KeepE ES := fun x w w' S S' cs _ _ h => h
abbrev OwnSt := OwnR ES 9 1
theorem info9 : (Tryz.prog.info? 9).map (fun i => (i.zero, i.size, i.bytes)) = some (some (.string ⟨#[]⟩), 1, 16) := by kernel_rfl
theorem info50 : (Tryz.prog.info? 35).map (fun i => (i.zero, i.size, i.bytes)) = some (some (.agg #[.string ⟨#[]⟩, .int .i64 0, .slice none 0 0]), 3, 48) := by kernel_rfl
theorem own_strs {w : World} {base : Nat} {v : Value} {l : List ByteArray} (h : w.ownsRow base 9 1 v l.length (l.map Value.string)) : OwnSt w base (fun _ => False) v l := by
  refine ⟨⟨_, h, fun j hj => ?_⟩, fun b hb => hb.elim⟩
  show ((l.map Value.string).drop (j * 1)).take 1 = _
  rw [Nat.mul_one, List.drop_eq_getElem_cons (by simpa using hj)]
  simp
def New (w w' : World) (x : Nat) : Prop := w.heap.size ≤ x ∧ x < w'.heap.size
theorem own_slice {α : Type} {E : α → World → (Nat → Prop) → List Value → Prop} {ty sz : Nat} {w : World} {base : Nat} {S : Nat → Prop} {v : Value} {l : List α} (h : OwnR E ty sz w base S v l) : ∃ a c, v = .slice a l.length c := by
  obtain ⟨⟨xs, h1, _⟩, _⟩ := h
  rcases h1.2 with ⟨e, e2⟩ | ⟨g, cap, cur, e, _⟩
  · exact ⟨none, 0, by rw [e, e2]⟩
  · exact ⟨_, _, e⟩
theorem lt_blk {W : World} {y : Nat} {o : Obj} (e : W.heap[y]? = some o) : y < W.heap.size := (Array.getElem?_eq_some_iff.1 e).1
theorem own_some {α : Type} {E : α → World → (Nat → Prop) → List Value → Prop} {ty sz : Nat} {w : World} {base : Nat} {S : Nat → Prop} {v : Value} {l : List α} (h : OwnR E ty sz w base S v l) (h0 : 0 < l.length) : ∃ g cap, v = .slice (some ⟨g, 0, none⟩) l.length cap ∧ l.length ≤ cap ∧ cap ≤ maxLen ∧ base ≤ g ∧ g < w.heap.size := by
  obtain ⟨a, c, rfl⟩ := own_slice h
  have h' := h
  obtain ⟨⟨xs, h1, _⟩, _⟩ := h'
  rcases h1.2 with ⟨e, e2⟩ | ⟨g, cap, cur, e, _⟩
  · omega
  · simp only [Value.slice.injEq] at e
    obtain ⟨rfl, _, rfl⟩ := e
    have h2 := h.le
    have h3 := h.lt (g := g) rfl
    exact ⟨g, c, rfl, h2.1, h2.2, h3.1, h3.2⟩
theorem own_str {w : World} {base g n cap : Nat} {S : Nat → Prop} {l : List ByteArray} (h : OwnSt w base S (.slice (some ⟨g, 0, none⟩) n cap) l) (hn : n = l.length) (j : Nat) (hj : j < l.length) : w.cell? ⟨g, 0 + j, none⟩ = some (.string l[j]) := by
  obtain ⟨cs, h1, h2⟩ := h.at hn j hj
  have h3 : cs = [.string l[j]] := h2
  subst h3
  have := h1 0 _ rfl
  simpa using this
theorem es_mk (s : ByteArray) (w : World) (S : Nat → Prop) : ES s w S [.string s] := by show _ = _; rfl
theorem oneS {s : ByteArray} : ∀ u ∈ [Value.string s], u.oneCell' = true := fun u hu => by
  obtain rfl := List.mem_singleton.1 hu
  rfl
theorem one3 {s : ByteArray} {i : Int} {a : Option Addr} {n c : Nat} : ∀ u ∈ [Value.string s, .int .i64 i, .slice a n c], u.oneCell' = true := fun u hu => by
  simp only [List.mem_cons, List.mem_nil_iff, or_false] at hu
  rcases hu with rfl | rfl | rfl <;> rfl
theorem set_other7 {w : World} {g o x : Nat} {u : Value} (h : x ≠ g) : (w.setCell ⟨g, o, none⟩ u).heap[x]? = w.heap[x]? := by
  by_cases hx : x < w.heap.size
  · exact (grown_set1 w g o u).block x hx (fun e => h (Option.some.inj e))
  · have hz : (w.setCell ⟨g, o, none⟩ u).heap.size = w.heap.size := by simp [World.setCell]
    rw [Array.getElem?_eq_none (by omega), Array.getElem?_eq_none (by omega)]
end Go.Proofs.YtolekldjbbjmjaaGreatDoor
/- put. -/
namespace Go.Proofs.YtolekldjbbjmjaaGreatDoor
open Go.RowKit Go.Lib
theorem bytes_ext9 {a b : ByteArray} (h : a.toList = b.toList) : a = b := by
  rw [ByteArray.toList_eq, ByteArray.toList_eq] at h
  exact ByteArray.ext (Array.toList_inj.mp h)
def putI (l : List ByteArray) (x : ByteArray) : Nat := (l.takeWhile (fun s => Op.bytesLess s.toList x.toList)).length
end Go.Proofs.YtolekldjbbjmjaaGreatDoor
/- among. -/
namespace Go.Proofs.YtolekldjbbjmjaaGreatDoor
open Go.RowKit Go.Lib
def amongB (l : List ByteArray) (x : ByteArray) : Bool := l.any (fun s => s.toList == x.toList)
theorem amongB_iff {l : List ByteArray} {x : ByteArray} : amongB l x = true ↔ x ∈ l := by
  unfold amongB
  rw [List.any_eq_true]
  exact ⟨fun ⟨s, h1, h2⟩ => by rw [beq_iff_eq] at h2; exact bytes_ext9 h2 ▸ h1, fun h => ⟨x, h, by rw [beq_iff_eq]⟩⟩
end Go.Proofs.YtolekldjbbjmjaaGreatDoor
/- label. -/
namespace Go.Proofs.YtolekldjbbjmjaaGreatDoor
open Go.RowKit Go.Lib
def vKind : V → Int
  | .mk k _ _ _ _ _ => k
def vStr : V → ByteArray
  | .mk _ _ _ s _ _ => s
def isLab (x : ByteArray) (p : Mem) : Bool := (p.1.toList == x.toList) && (vKind p.2 == 3)
def labF (m : List Mem) (x : ByteArray) : ByteArray × Bool := match m.find? (isLab x) with
  | some p => (vStr p.2, true)
  | none => (⟨#[]⟩, false)
end Go.Proofs.YtolekldjbbjmjaaGreatDoor
/- cmp.Less, isNaN of texts. -/
namespace Go.Proofs.YtolekldjbbjmjaaGreatDoor
open Go.RowKit Go.Lib
def hitS (l : List ByteArray) (p : Nat) (x : ByteArray) : Bool := match l[p]? with
  | some s => s.toList == x.toList
  | none => false
def BsPost (l : List ByteArray) (p : Nat) (x : ByteArray) (w : World) (e : Ending) (w' : World) : Prop := e = .returned (.tuple #[.int .i64 (p : Int), .bool (hitS l p x)]) ∧ w' = w
theorem isnan95_any (x : ByteArray) (w : World) : Calls Tryz.prog 114 #[.string x] w (fun e w' => e = .returned (.bool false) ∧ w' = w) := by
  go_enter Tryz.func114, Tryz.ntmps114
  go_wp2_with fail
  go_ret
  exact ⟨rfl, rfl⟩
theorem isnan77_any (x : ByteArray) (w : World) : Calls Tryz.prog 86 #[.string x] w (fun e w' => e = .returned (.bool false) ∧ w' = w) := by
  go_enter Tryz.func86, Tryz.ntmps86
  go_wp2_with fail
  go_ret
  exact ⟨rfl, rfl⟩
set_option maxHeartbeats 8000000 in
theorem less_any (x y : ByteArray) (w : World) : Calls Tryz.prog 85 #[.string x, .string y] w (fun e w' => e = .returned (.bool (Op.bytesLess x.toList y.toList)) ∧ w' = w) := by
  have C := hmk (isnan95_any x w)
  go_enter Tryz.func85, Tryz.ntmps85
  go_wp2_with (first | (go_at_call 114; refine C.out.mono ?_; rintro e w1 ⟨rfl, rfl⟩))
  go_ret
  exact ⟨rfl, rfl⟩
set_option maxHeartbeats 8000000 in
set_option maxRecDepth 100000 in
theorem bsearch_any (l : List ByteArray) (x : ByteArray) (p : Nat) (S : Nat → Prop) (a : Option Addr) (c b o : Nat) (w : World) (hh : Headed a l.length c b o) (hl : liesS w S l b o) (hm : l.length ≤ 2147483647) (hpl : p ≤ l.length) (hp : ∀ t (ht : t < l.length), Op.bytesLess (l[t]).toList x.toList = decide (t < p)) :
    Calls Tryz.prog 66 #[.slice a l.length c, .string x] w (BsPost l p x w) := by
  have HH := hmk hh
  have HL := hmk hl
  have HP := hmk hp
  clear hh hl hp
  go_enter Tryz.func66, Tryz.ntmps66
  go_wp2_with fail
  go_loopw [7, 8] (fun e7 e8 wr => ∃ i j : Nat, i ≤ p ∧ p ≤ j ∧ j ≤ l.length ∧ e7 = .int .i64 (i : Int) ∧ e8 = .int .i64 (j : Int) ∧ wr = w) (fun e7 e8 _ => (RowKit.intOf e8).toNat - (RowKit.intOf e7).toNat)
  case atStart => exact ⟨0, l.length, by omega, by omega, by omega, rfl, rfl, rfl⟩
  case round =>
    obtain ⟨i, j, hi, hj, hjl, rfl, rfl, rfl⟩ := hrel
    by_cases hij : i < j
    · have y1 : (i : Int) < j := by omega
      obtain ⟨h, hh, hh1, hh2⟩ : ∃ h : Nat, ((i : Int) + (j : Int)) / 2 = (h : Int) ∧ i ≤ h ∧ h < j := ⟨(i + j) / 2, by omega, by omega, by omega⟩
      have y5 : wrap64 ((i : Int) + (j : Int)) = (i : Int) + (j : Int) := by unfold wrap64; omega
      have y6 : IntKind.u64.wrap ((i : Int) + (j : Int)) = (i : Int) + (j : Int) := by rw [IntKind.wrap_u64]; omega
      have y7 : wrap64 (h : Int) = (h : Int) := by unfold wrap64; omega
      have hhl : h < l.length := by omega
      have y2 : (h : Int) < l.length := by omega
      obtain rfl : a = some ⟨b, o, none⟩ := HH.out.at_.resolve_left (by omega)
      obtain ⟨s1, _, q1⟩ := HL.out h hhl
      have hc := hmk (less_any l[h] x wr)
      have hb := HP.out h hhl
      by_cases hp : h < p
      · rw [decide_eq_true hp] at hb
        go_wp2_with (first | (go_at_call 85; refine hc.out.mono ?_; rintro e w1 ⟨rfl, rfl⟩))
        go_roundw
        case rel => exact ⟨h + 1, j, by omega, by omega, by omega, by go_num, rfl, (by first | trivial | rfl)⟩
        case measure => simp [RowKit.intOf]; omega
      · rw [decide_eq_false hp] at hb
        go_wp2_with (first | (go_at_call 85; refine hc.out.mono ?_; rintro e w1 ⟨rfl, rfl⟩))
        go_roundw
        case rel => exact ⟨i, h, by omega, by omega, by omega, rfl, rfl, (by first | trivial | rfl)⟩
        case measure => simp [RowKit.intOf]; omega
    · have hie : i = p := by omega
      subst hie
      have y1 : ¬ (i : Int) < j := by omega
      by_cases hpos : i < l.length
      · have y2 : (i : Int) < l.length := by omega
        obtain rfl : a = some ⟨b, o, none⟩ := HH.out.at_.resolve_left (by omega)
        obtain ⟨s1, _, q1⟩ := HL.out i hpos
        have HK : Hid (hitS l i x = ((l[i]).toList == x.toList)) := by show _ = _; unfold hitS; rw [List.getElem?_eq_getElem hpos]
        have C := hmk (isnan77_any l[i] wr)
        by_cases hx : ((l[i]).toList == x.toList) = true
        · have HK1 : Hid (hitS l i x = true) := HK.out.trans hx
          clear HK
          go_wp2_with (first | (go_at_call 86; refine C.out.mono ?_; rintro e w1 ⟨rfl, rfl⟩))
          go_ret2
          refine ⟨?_, rfl⟩
          rw [HK1.out]; rfl
        · have hx' : ((l[i]).toList == x.toList) = false := by simpa using hx
          have HK1 : Hid (hitS l i x = false) := HK.out.trans hx'
          clear HK hx
          go_wp2_with (first | (go_at_call 86; refine C.out.mono ?_; rintro e w1 ⟨rfl, rfl⟩))
          go_ret2
          refine ⟨?_, rfl⟩
          rw [HK1.out]; rfl
      · have y2 : ¬ (i : Int) < l.length := by omega
        have HK1 : Hid (hitS l i x = false) := by show _ = _; unfold hitS; rw [List.getElem?_eq_none (by omega)]
        go_wp2_with fail
        go_ret2
        refine ⟨?_, rfl⟩
        rw [HK1.out]; rfl
end Go.Proofs.YtolekldjbbjmjaaGreatDoor
