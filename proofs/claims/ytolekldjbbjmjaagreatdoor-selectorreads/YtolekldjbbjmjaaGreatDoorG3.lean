/- joined: TrmA TrmC TrmD TrmG TrmH -/
import Derived.Test.YtolekldjbbjmjaaGreatDoorG2
import Derived.Laws.AppendOwnNone
import Derived.Deep.RegionHeld
/- Terms: how they lie in memory. -/
set_option linter.unusedSimpArgs false
set_option linter.unusedVariables false
namespace Go.Proofs.YtolekldjbbjmjaaGreatDoor
open Go.RowKit
theorem hmk {p : Prop} (h : p) : Hid p := h
abbrev Trm := ByteArray × Int × List ByteArray
abbrev roomS : ByteArray := ⟨#[114, 111, 111, 109]⟩
/-- strings lie in a row -/
def liesS (w : World) (S : Nat → Prop) (l : List ByteArray) (b o : Nat) : Prop := ∀ j (h : j < l.length), S b ∧ (l[j]).size ≤ 140737488355328 ∧ w.cell? ⟨b, o + j, none⟩ = some (.string l[j])
theorem liesS.keep {w w' : World} {S S' : Nat → Prop} {l : List ByteArray} {b o : Nat} (h : liesS w S l b o) (hw : ∀ b, S b → w'.heap[b]? = w.heap[b]?) (hS : ∀ b, S b → S' b) : liesS w' S' l b o := fun j hj => by
  obtain ⟨h1, h2, h3⟩ := h j hj
  exact ⟨hS _ h1, h2, (World.cell?_of_block (w := w) (a := ⟨b, o + j, none⟩) (hw _ h1)).trans h3⟩
/-- the term lies in these three cells; R: seventy marks behind its values -/
def Trm.lies (R : Bool) (w : World) (S : Nat → Prop) (t : Trm) (cs : List Value) : Prop := ∃ a c b o, cs = [.string t.1, .int .i64 t.2.1, .slice a t.2.2.length c] ∧ In64 t.2.1 ∧ t.1.size ≤ 140737488355328 ∧ Headed a t.2.2.length c b o ∧ liesS w S t.2.2 b o ∧
  (R = true → a = some ⟨b, o, none⟩ ∧ t.2.2.length + 70 ≤ c ∧ S b ∧ ∀ k, k < 70 → w.cell? ⟨b, o + (t.2.2.length + k), none⟩ = some (.string roomS))
theorem Trm.lies_keep {R R' : Bool} (hR : R' = true → R = true) {w w' : World} {S S' : Nat → Prop} {t : Trm} {cs : List Value} (h : Trm.lies R w S t cs) (hw : ∀ b, S b → w'.heap[b]? = w.heap[b]?) (hS : ∀ b, S b → S' b) : Trm.lies R' w' S' t cs := by
  obtain ⟨a, c, b, o, e, h1, h2, h3, h4, h5⟩ := h
  refine ⟨a, c, b, o, e, h1, h2, h3, h4.keep hw hS, fun hr => ?_⟩
  obtain ⟨q1, q2, q3, q4⟩ := h5 (hR hr)
  exact ⟨q1, q2, hS _ q3, fun k hk => (World.cell?_of_block (w := w) (a := ⟨b, o + (t.2.2.length + k), none⟩) (hw _ q3)).trans (q4 k hk)⟩
def liesT (R : Bool) (w : World) (S : Nat → Prop) (l : List Trm) (b o : Nat) : Prop := ∀ j (h : j < l.length), S b ∧ ∃ cs, rowAt w b (o + j * 3) cs ∧ Trm.lies R w S l[j] cs
theorem liesT.keep {R R' : Bool} (hR : R' = true → R = true) {w w' : World} {S S' : Nat → Prop} {l : List Trm} {b o : Nat} (h : liesT R w S l b o) (hw : ∀ b, S b → w'.heap[b]? = w.heap[b]?) (hS : ∀ b, S b → S' b) : liesT R' w' S' l b o := fun j hj => by
  obtain ⟨h1, cs, h2, h3⟩ := h j hj
  exact ⟨hS _ h1, cs, h2.keep (hw _ h1), Trm.lies_keep hR h3 hw hS⟩
theorem row3 {w : World} {b o : Nat} {c c0 c1 : Value} (h : rowAt w b o [c, c0, c1]) : w.cell? ⟨b, o, none⟩ = some c ∧ w.cell? ⟨b, o + 1, none⟩ = some c0 ∧ w.cell? ⟨b, o + 2, none⟩ = some c1 := ⟨h 0 _ rfl, h 1 _ rfl, h 2 _ rfl⟩
end Go.Proofs.YtolekldjbbjmjaaGreatDoor
/- textsSame, same: of the same. -/
namespace Go.Proofs.YtolekldjbbjmjaaGreatDoor
open Go.RowKit
set_option maxHeartbeats 8000000 in
set_option maxRecDepth 100000 in
theorem textsame_any (l : List ByteArray) (S1 S2 : Nat → Prop) (a1 a2 : Option Addr) (c1 c2 b1 b2 o1 o2 : Nat) (w : World) (h1 : Headed a1 l.length c1 b1 o1) (h2 : Headed a2 l.length c2 b2 o2) (l1 : liesS w S1 l b1 o1) (l2 : liesS w S2 l b2 o2) (hS1 : ∀ b, S1 b → b < w.heap.size) (hS2 : ∀ b, S2 b → b < w.heap.size) :
    Calls Tryz.prog 34 #[.slice a1 l.length c1, .slice a2 l.length c2] w (BPost true w) := by
  have H1 := hmk h1
  have H2 := hmk h2
  have L1 := hmk l1
  have L2 := hmk l2
  have hm : l.length ≤ 9223372036854775807 := Nat.le_trans h1.le h1.max
  clear h1 h2 l1 l2
  go_enter Tryz.func34, Tryz.ntmps34
  go_wp2_with fail
  go_loopw [5] (fun e5 wr => ∃ j : Nat, j ≤ l.length ∧ e5 = .int .i64 (j : Int) ∧ Below w.heap.size w wr) (fun e5 _ => l.length - (RowKit.intOf e5).toNat)
  case atStart => exact ⟨0, by omega, rfl, Below.refl _ _⟩
  case round =>
    obtain ⟨j, hj, rfl, bj⟩ := hrel
    have hzr := bj.size
    by_cases hjl : j < l.length
    · have y1 : (j : Int) < l.length := by omega
      obtain ⟨s1, _, q1⟩ := L1.out j hjl
      obtain ⟨s2, _, q2⟩ := L2.out j hjl
      obtain rfl : a1 = some ⟨b1, o1, none⟩ := H1.out.at_.resolve_left (by omega)
      obtain rfl : a2 = some ⟨b2, o2, none⟩ := H2.out.at_.resolve_left (by omega)
      have h1 := hS1 _ s1
      have h2 := hS2 _ s2
      have x1 : ∀ x : Sub wr.heap.size wr, _ := sub_cell ((bj.cell (p := ⟨b1, o1 + j, none⟩) h1).trans q1) (by omega)
      have x2 : ∀ x : Sub wr.heap.size wr, _ := sub_cell ((bj.cell (p := ⟨b2, o2 + j, none⟩) h2).trans q2) (by omega)
      generalize l[j] = s at *
      clear q1 q2
      go_wp2_with fail
      refine wp_region_sub wr.heap.size (by kernel_rfl) (by kernel_rfl) ?_
      repeat (go_big_quiet_step (fail))
      refine wpQuiet_nil ?_
      rintro wq ⟨⟨wq', bq⟩, hq⟩
      have hq' : wq = wq' := hq
      subst hq'
      clear hq x1 x2
      go_wp2_with fail
      go_roundw
      case rel => exact ⟨j + 1, by omega, by go_num, bj.trans (bq.mono (by omega))⟩
      case measure => simp [RowKit.intOf]; omega
    · obtain rfl : j = l.length := by omega
      have y1 : ¬ (l.length : Int) < l.length := by omega
      go_wp2_with fail
      (try simp only [Exit.inBlock, Exit.then])
      go_ret
      exact ⟨rfl, bj⟩
set_option maxHeartbeats 8000000 in
set_option maxRecDepth 100000 in
theorem same_any (l : List Trm) (R1 R2 : Bool) (S1 S2 : Nat → Prop) (a1 a2 : Option Addr) (c1 c2 b1 b2 o1 o2 : Nat) (w : World) (h1 : Headed a1 l.length c1 b1 o1) (h2 : Headed a2 l.length c2 b2 o2) (l1 : liesT R1 w S1 l b1 o1) (l2 : liesT R2 w S2 l b2 o2) (hS1 : ∀ b, S1 b → b < w.heap.size) (hS2 : ∀ b, S2 b → b < w.heap.size) :
    Calls Tryz.prog 15 #[.slice a1 l.length c1, .slice a2 l.length c2] w (BPost true w) := by
  have H1 := hmk h1
  have H2 := hmk h2
  have L1 := hmk l1
  have L2 := hmk l2
  have hm : l.length ≤ 9223372036854775807 := Nat.le_trans h1.le h1.max
  clear h1 h2 l1 l2
  go_enter Tryz.func15, Tryz.ntmps15
  go_wp2_with fail
  go_loopw [5] (fun e5 wr => ∃ j : Nat, j ≤ l.length ∧ e5 = .int .i64 (j : Int) ∧ Below w.heap.size w wr) (fun e5 _ => l.length - (RowKit.intOf e5).toNat)
  case atStart => exact ⟨0, by omega, rfl, Below.refl _ _⟩
  case round =>
    obtain ⟨j, hj, rfl, bj⟩ := hrel
    have hzr := bj.size
    by_cases hjl : j < l.length
    · have y1 : (j : Int) < l.length := by omega
      obtain ⟨s1, cs1, row1, t1⟩ := L1.out j hjl
      obtain ⟨s2, cs2, row2, t2⟩ := L2.out j hjl
      obtain ⟨ta1, tc1, tb1, to1, rfl, _, _, hd1, ts1, _⟩ := t1
      obtain ⟨ta2, tc2, tb2, to2, rfl, _, _, hd2, ts2, _⟩ := t2
      obtain rfl : a1 = some ⟨b1, o1, none⟩ := H1.out.at_.resolve_left (by omega)
      obtain rfl : a2 = some ⟨b2, o2, none⟩ := H2.out.at_.resolve_left (by omega)
      have h1 := hS1 _ s1
      have h2 := hS2 _ s2
      obtain ⟨q, q0, q1⟩ := row3 (row1.keep (bj.block _ h1))
      obtain ⟨p, p0, p1⟩ := row3 (row2.keep (bj.block _ h2))
      have CT : Hid (∀ y : Sub wr.heap.size wr, Calls Tryz.prog 34 #[.slice ta1 (l[j]).2.2.length tc1, .slice ta2 (l[j]).2.2.length tc2] y.w fun e w'' => e = .returned (.bool true) ∧ ∃ z : Sub wr.heap.size wr, w'' = z.w) :=
        sub_call fun w' hb => (textsame_any (l[j]).2.2 S1 S2 ta1 ta2 tc1 tc2 tb1 tb2 to1 to2 w' hd1 hd2
          (ts1.keep (fun b hh => (hb.block b (by have := hS1 b hh; omega)).trans (bj.block b (hS1 b hh))) (fun _ h => h))
          (ts2.keep (fun b hh => (hb.block b (by have := hS2 b hh; omega)).trans (bj.block b (hS2 b hh))) (fun _ h => h))
          (fun b hh => by have := hS1 b hh; have := hb.size; omega) (fun b hh => by have := hS2 b hh; have := hb.size; omega)).mono (by rintro e w'' ⟨rfl, h3⟩; exact ⟨rfl, hb.trans (h3.mono hb.size)⟩)
      have x0 : ∀ x : Sub wr.heap.size wr, _ := sub_cell q (by omega)
      have x1 : ∀ x : Sub wr.heap.size wr, _ := sub_cell q0 (by omega)
      have x2 : ∀ x : Sub wr.heap.size wr, _ := sub_cell q1 (by omega)
      have z0 : ∀ x : Sub wr.heap.size wr, _ := sub_cell p (by omega)
      have z1 : ∀ x : Sub wr.heap.size wr, _ := sub_cell p0 (by omega)
      have z2 : ∀ x : Sub wr.heap.size wr, _ := sub_cell p1 (by omega)
      clear q q0 q1 p p0 p1 row1 row2 hd1 hd2 ts1 ts2
      generalize l[j] = s at *
      go_wp2_with fail
      refine wp_region_sub wr.heap.size (by kernel_rfl) (by kernel_rfl) ?_
      repeat (go_big_quiet_step (exact CT.out _))
      refine wpQuiet_nil ?_
      rintro wq ⟨⟨wq', bq⟩, hq⟩
      have hq' : wq = wq' := hq
      subst hq'
      clear hq x0 x1 x2 z0 z1 z2 CT
      go_wp2_with fail
      go_roundw
      case rel => exact ⟨j + 1, by omega, by go_num, bj.trans (bq.mono (by omega))⟩
      case measure => simp [RowKit.intOf]; omega
    · obtain rfl : j = l.length := by omega
      have y1 : ¬ (l.length : Int) < l.length := by omega
      go_wp2_with fail
      (try simp only [Exit.inBlock, Exit.then])
      go_ret
      exact ⟨rfl, bj⟩
end Go.Proofs.YtolekldjbbjmjaaGreatDoor
/- roomy. -/
namespace Go.Proofs.YtolekldjbbjmjaaGreatDoor
open Go.RowKit Go.Lib
def ES (s : ByteArray) (w : World) (S : Nat → Prop) (cs : List Value) : Prop := cs = [.string s]
theorem keepS : KeepE ES := fun x w w' S S' cs _ _ h => h
abbrev OwnSt := OwnR ES 9 1
theorem info9 : (Tryz.prog.info? 9).map (fun i => (i.zero, i.size, i.bytes)) = some (some (.string ⟨#[]⟩), 1, 16) := by kernel_rfl
theorem info50 : (Tryz.prog.info? 35).map (fun i => (i.zero, i.size, i.bytes)) = some (some (.agg #[.string ⟨#[]⟩, .int .i64 0, .slice none 0 0]), 3, 48) := by kernel_rfl
theorem own_strs {w : World} {base : Nat} {v : Value} {l : List ByteArray} (h : w.ownsRow base 9 1 v l.length (l.map Value.string)) : OwnSt w base (fun _ => False) v l := by
  refine ⟨⟨_, h, fun j hj => ?_⟩, fun b hb => hb.elim⟩
  show ((l.map Value.string).drop (j * 1)).take 1 = _
  rw [Nat.mul_one, List.drop_eq_getElem_cons (by simpa using hj)]
  simp
def New (w w' : World) (x : Nat) : Prop := w.heap.size ≤ x ∧ x < w'.heap.size
theorem own_slice {α : Type} {E : α → World → (Nat → Prop) → List Value → Prop} {ty sz : Nat} {w : World} {base : Nat} {S : Nat → Prop} {v : Value} {l : List α} (h : OwnR E ty sz w base S v l) : ∃ a c, v = .slice a l.length c := by
  obtain ⟨⟨xs, h1, _⟩, _⟩ := h
  rcases h1.2 with ⟨e, e2⟩ | ⟨g, cap, cur, e, _⟩
  · exact ⟨none, 0, by rw [e, e2]⟩
  · exact ⟨_, _, e⟩
theorem own_some {α : Type} {E : α → World → (Nat → Prop) → List Value → Prop} {ty sz : Nat} {w : World} {base : Nat} {S : Nat → Prop} {v : Value} {l : List α} (h : OwnR E ty sz w base S v l) (h0 : 0 < l.length) : ∃ g cap, v = .slice (some ⟨g, 0, none⟩) l.length cap ∧ l.length ≤ cap ∧ cap ≤ maxLen ∧ base ≤ g ∧ g < w.heap.size := by
  obtain ⟨a, c, rfl⟩ := own_slice h
  have h' := h
  obtain ⟨⟨xs, h1, _⟩, _⟩ := h'
  rcases h1.2 with ⟨e, e2⟩ | ⟨g, cap, cur, e, _⟩
  · omega
  · simp only [Value.slice.injEq] at e
    obtain ⟨rfl, _, rfl⟩ := e
    have h2 := h.le
    have h3 := h.lt (g := g) rfl
    exact ⟨g, c, rfl, h2.1, h2.2, h3.1, h3.2⟩
theorem own_str {w : World} {base g n cap : Nat} {S : Nat → Prop} {l : List ByteArray} (h : OwnSt w base S (.slice (some ⟨g, 0, none⟩) n cap) l) (hn : n = l.length) (j : Nat) (hj : j < l.length) : w.cell? ⟨g, 0 + j, none⟩ = some (.string l[j]) := by
  obtain ⟨cs, h1, h2⟩ := h.at hn j hj
  have h3 : cs = [.string l[j]] := h2
  subst h3
  have := h1 0 _ rfl
  simpa using this
theorem es_mk (s : ByteArray) (w : World) (S : Nat → Prop) : ES s w S [.string s] := by show _ = _; rfl
theorem oneS {s : ByteArray} : ∀ u ∈ [Value.string s], u.oneCell' = true := fun u hu => by
  obtain rfl := List.mem_singleton.1 hu
  rfl
theorem one3 {s : ByteArray} {i : Int} {a : Option Addr} {n c : Nat} : ∀ u ∈ [Value.string s, .int .i64 i, .slice a n c], u.oneCell' = true := fun u hu => by
  simp only [List.mem_cons, List.mem_nil_iff, or_false] at hu
  rcases hu with rfl | rfl | rfl <;> rfl
end Go.Proofs.YtolekldjbbjmjaaGreatDoor
/- put. -/
namespace Go.Proofs.YtolekldjbbjmjaaGreatDoor
open Go.RowKit Go.Lib
theorem bytes_ext9 {a b : ByteArray} (h : a.toList = b.toList) : a = b := by
  rw [ByteArray.toList_eq, ByteArray.toList_eq] at h
  exact ByteArray.ext (Array.toList_inj.mp h)
end Go.Proofs.YtolekldjbbjmjaaGreatDoor
/- among. -/
namespace Go.Proofs.YtolekldjbbjmjaaGreatDoor
open Go.RowKit Go.Lib
def amongB (l : List ByteArray) (x : ByteArray) : Bool := l.any (fun s => s.toList == x.toList)
theorem amongB_no {l : List ByteArray} {x : ByteArray} (h : ∀ k (hk : k < l.length), ((l[k]).toList == x.toList) = false) : amongB l x = false := by
  unfold amongB
  rw [List.any_eq_false]
  intro s hs
  obtain ⟨k, hk, rfl⟩ := List.mem_iff_getElem.1 hs
  simp only [h k hk]; simp
theorem amongB_yes {l : List ByteArray} {x : ByteArray} {k : Nat} (hk : k < l.length) (h : ((l[k]).toList == x.toList) = true) : amongB l x = true := by
  unfold amongB
  exact List.any_eq_true.2 ⟨_, List.getElem_mem hk, h⟩
theorem amongB_iff {l : List ByteArray} {x : ByteArray} : amongB l x = true ↔ x ∈ l := by
  unfold amongB
  rw [List.any_eq_true]
  exact ⟨fun ⟨s, h1, h2⟩ => by rw [beq_iff_eq] at h2; exact bytes_ext9 h2 ▸ h1, fun h => ⟨x, h, by rw [beq_iff_eq]⟩⟩
end Go.Proofs.YtolekldjbbjmjaaGreatDoor
