/- joined: TrmD TrmG TrmH TrmI TrmJ TrmK TrmM TrmN -/
import Derived.Test.YtolekldjbbjmjaaGreatDoorG2
import Derived.Laws.AppendOwnNone
import Derived.Deep.RegionHeld
/- roomy. -/
set_option linter.unusedSimpArgs false
set_option linter.unusedVariables false
namespace Go.Proofs.YtolekldjbbjmjaaGreatDoor
open Go.RowKit Go.Lib
def ES (s : ByteArray) (w : World) (S : Nat → Prop) (cs : List Value) : Prop := cs = [.string s]
theorem keepS : KeepE ES := fun x w w' S S' cs _ _ h => h
abbrev OwnSt := OwnR ES 9 1
theorem info9 : (Tryz.prog.info? 9).map (fun i => (i.zero, i.size, i.bytes)) = some (some (.string ⟨#[]⟩), 1, 16) := by kernel_rfl
theorem info50 : (Tryz.prog.info? 35).map (fun i => (i.zero, i.size, i.bytes)) = some (some (.agg #[.string ⟨#[]⟩, .int .i64 0, .slice none 0 0]), 3, 48) := by kernel_rfl
theorem own_strs {w : World} {base : Nat} {v : Value} {l : List ByteArray} (h : w.ownsRow base 9 1 v l.length (l.map Value.string)) : OwnSt w base (fun _ => False) v l := by
  refine ⟨⟨_, h, fun j hj => ?_⟩, fun b hb => hb.elim⟩
  show ((l.map Value.string).drop (j * 1)).take 1 = _
  rw [Nat.mul_one, List.drop_eq_getElem_cons (by simpa using hj)]
  simp
def New (w w' : World) (x : Nat) : Prop := w.heap.size ≤ x ∧ x < w'.heap.size
theorem own_slice {α : Type} {E : α → World → (Nat → Prop) → List Value → Prop} {ty sz : Nat} {w : World} {base : Nat} {S : Nat → Prop} {v : Value} {l : List α} (h : OwnR E ty sz w base S v l) : ∃ a c, v = .slice a l.length c := by
  obtain ⟨⟨xs, h1, _⟩, _⟩ := h
  rcases h1.2 with ⟨e, e2⟩ | ⟨g, cap, cur, e, _⟩
  · exact ⟨none, 0, by rw [e, e2]⟩
  · exact ⟨_, _, e⟩
theorem lt_blk {W : World} {y : Nat} {o : Obj} (e : W.heap[y]? = some o) : y < W.heap.size := (Array.getElem?_eq_some_iff.1 e).1
theorem own_some {α : Type} {E : α → World → (Nat → Prop) → List Value → Prop} {ty sz : Nat} {w : World} {base : Nat} {S : Nat → Prop} {v : Value} {l : List α} (h : OwnR E ty sz w base S v l) (h0 : 0 < l.length) : ∃ g cap, v = .slice (some ⟨g, 0, none⟩) l.length cap ∧ l.length ≤ cap ∧ cap ≤ maxLen ∧ base ≤ g ∧ g < w.heap.size := by
  obtain ⟨a, c, rfl⟩ := own_slice h
  have h' := h
  obtain ⟨⟨xs, h1, _⟩, _⟩ := h'
  rcases h1.2 with ⟨e, e2⟩ | ⟨g, cap, cur, e, _⟩
  · omega
  · simp only [Value.slice.injEq] at e
    obtain ⟨rfl, _, rfl⟩ := e
    have h2 := h.le
    have h3 := h.lt (g := g) rfl
    exact ⟨g, c, rfl, h2.1, h2.2, h3.1, h3.2⟩
theorem own_str {w : World} {base g n cap : Nat} {S : Nat → Prop} {l : List ByteArray} (h : OwnSt w base S (.slice (some ⟨g, 0, none⟩) n cap) l) (hn : n = l.length) (j : Nat) (hj : j < l.length) : w.cell? ⟨g, 0 + j, none⟩ = some (.string l[j]) := by
  obtain ⟨cs, h1, h2⟩ := h.at hn j hj
  have h3 : cs = [.string l[j]] := h2
  subst h3
  have := h1 0 _ rfl
  simpa using this
theorem es_mk (s : ByteArray) (w : World) (S : Nat → Prop) : ES s w S [.string s] := by show _ = _; rfl
theorem oneS {s : ByteArray} : ∀ u ∈ [Value.string s], u.oneCell' = true := fun u hu => by
  obtain rfl := List.mem_singleton.1 hu
  rfl
theorem one3 {s : ByteArray} {i : Int} {a : Option Addr} {n c : Nat} : ∀ u ∈ [Value.string s, .int .i64 i, .slice a n c], u.oneCell' = true := fun u hu => by
  simp only [List.mem_cons, List.mem_nil_iff, or_false] at hu
  rcases hu with rfl | rfl | rfl <;> rfl
theorem set_other7 {w : World} {g o x : Nat} {u : Value} (h : x ≠ g) : (w.setCell ⟨g, o, none⟩ u).heap[x]? = w.heap[x]? := by
  by_cases hx : x < w.heap.size
  · exact (grown_set1 w g o u).block x hx (fun e => h (Option.some.inj e))
  · have hz : (w.setCell ⟨g, o, none⟩ u).heap.size = w.heap.size := by simp [World.setCell]
    rw [Array.getElem?_eq_none (by omega), Array.getElem?_eq_none (by omega)]
end Go.Proofs.YtolekldjbbjmjaaGreatDoor
/- put. -/
namespace Go.Proofs.YtolekldjbbjmjaaGreatDoor
open Go.RowKit Go.Lib
theorem bytes_ext9 {a b : ByteArray} (h : a.toList = b.toList) : a = b := by
  rw [ByteArray.toList_eq, ByteArray.toList_eq] at h
  exact ByteArray.ext (Array.toList_inj.mp h)
def putI (l : List ByteArray) (x : ByteArray) : Nat := (l.takeWhile (fun s => Op.bytesLess s.toList x.toList)).length
end Go.Proofs.YtolekldjbbjmjaaGreatDoor
/- among. -/
namespace Go.Proofs.YtolekldjbbjmjaaGreatDoor
open Go.RowKit Go.Lib
def amongB (l : List ByteArray) (x : ByteArray) : Bool := l.any (fun s => s.toList == x.toList)
theorem amongB_iff {l : List ByteArray} {x : ByteArray} : amongB l x = true ↔ x ∈ l := by
  unfold amongB
  rw [List.any_eq_true]
  exact ⟨fun ⟨s, h1, h2⟩ => by rw [beq_iff_eq] at h2; exact bytes_ext9 h2 ▸ h1, fun h => ⟨x, h, by rw [beq_iff_eq]⟩⟩
end Go.Proofs.YtolekldjbbjmjaaGreatDoor
/- label. -/
namespace Go.Proofs.YtolekldjbbjmjaaGreatDoor
open Go.RowKit Go.Lib
def vKind : V → Int
  | .mk k _ _ _ _ _ => k
def vStr : V → ByteArray
  | .mk _ _ _ s _ _ => s
def isLab (x : ByteArray) (p : Mem) : Bool := (p.1.toList == x.toList) && (vKind p.2 == 3)
def labF (m : List Mem) (x : ByteArray) : ByteArray × Bool := match m.find? (isLab x) with
  | some p => (vStr p.2, true)
  | none => (⟨#[]⟩, false)
end Go.Proofs.YtolekldjbbjmjaaGreatDoor
/- cmp.Less, isNaN of texts. -/
namespace Go.Proofs.YtolekldjbbjmjaaGreatDoor
open Go.RowKit Go.Lib
def hitS (l : List ByteArray) (p : Nat) (x : ByteArray) : Bool := match l[p]? with
  | some s => s.toList == x.toList
  | none => false
def BsPost (l : List ByteArray) (p : Nat) (x : ByteArray) (w : World) (e : Ending) (w' : World) : Prop := e = .returned (.tuple #[.int .i64 (p : Int), .bool (hitS l p x)]) ∧ w' = w
theorem isnan95_any (x : ByteArray) (w : World) : Calls Tryz.prog 114 #[.string x] w (fun e w' => e = .returned (.bool false) ∧ w' = w) := by
  go_enter Tryz.func114, Tryz.ntmps114
  go_wp2_with fail
  go_ret
  exact ⟨rfl, rfl⟩
theorem isnan77_any (x : ByteArray) (w : World) : Calls Tryz.prog 86 #[.string x] w (fun e w' => e = .returned (.bool false) ∧ w' = w) := by
  go_enter Tryz.func86, Tryz.ntmps86
  go_wp2_with fail
  go_ret
  exact ⟨rfl, rfl⟩
set_option maxHeartbeats 8000000 in
theorem less_any (x y : ByteArray) (w : World) : Calls Tryz.prog 85 #[.string x, .string y] w (fun e w' => e = .returned (.bool (Op.bytesLess x.toList y.toList)) ∧ w' = w) := by
  have C := hmk (isnan95_any x w)
  go_enter Tryz.func85, Tryz.ntmps85
  go_wp2_with (first | (go_at_call 114; refine C.out.mono ?_; rintro e w1 ⟨rfl, rfl⟩))
  go_ret
  exact ⟨rfl, rfl⟩
set_option maxHeartbeats 8000000 in
set_option maxRecDepth 100000 in
theorem bsearch_any (l : List ByteArray) (x : ByteArray) (p : Nat) (S : Nat → Prop) (a : Option Addr) (c b o : Nat) (w : World) (hh : Headed a l.length c b o) (hl : liesS w S l b o) (hm : l.length ≤ 2147483647) (hpl : p ≤ l.length) (hp : ∀ t (ht : t < l.length), Op.bytesLess (l[t]).toList x.toList = decide (t < p)) :
    Calls Tryz.prog 66 #[.slice a l.length c, .string x] w (BsPost l p x w) := by
  have HH := hmk hh
  have HL := hmk hl
  have HP := hmk hp
  clear hh hl hp
  go_enter Tryz.func66, Tryz.ntmps66
  go_wp2_with fail
  go_loopw [7, 8] (fun e7 e8 wr => ∃ i j : Nat, i ≤ p ∧ p ≤ j ∧ j ≤ l.length ∧ e7 = .int .i64 (i : Int) ∧ e8 = .int .i64 (j : Int) ∧ wr = w) (fun e7 e8 _ => (RowKit.intOf e8).toNat - (RowKit.intOf e7).toNat)
  case atStart => exact ⟨0, l.length, by omega, by omega, by omega, rfl, rfl, rfl⟩
  case round =>
    obtain ⟨i, j, hi, hj, hjl, rfl, rfl, rfl⟩ := hrel
    by_cases hij : i < j
    · have y1 : (i : Int) < j := by omega
      obtain ⟨h, hh, hh1, hh2⟩ : ∃ h : Nat, ((i : Int) + (j : Int)) / 2 = (h : Int) ∧ i ≤ h ∧ h < j := ⟨(i + j) / 2, by omega, by omega, by omega⟩
      have y5 : wrap64 ((i : Int) + (j : Int)) = (i : Int) + (j : Int) := by unfold wrap64; omega
      have y6 : IntKind.u64.wrap ((i : Int) + (j : Int)) = (i : Int) + (j : Int) := by rw [IntKind.wrap_u64]; omega
      have y7 : wrap64 (h : Int) = (h : Int) := by unfold wrap64; omega
      have hhl : h < l.length := by omega
      have y2 : (h : Int) < l.length := by omega
      obtain rfl : a = some ⟨b, o, none⟩ := HH.out.at_.resolve_left (by omega)
      obtain ⟨s1, _, q1⟩ := HL.out h hhl
      have hc := hmk (less_any l[h] x wr)
      have hb := HP.out h hhl
      by_cases hp : h < p
      · rw [decide_eq_true hp] at hb
        go_wp2_with (first | (go_at_call 85; refine hc.out.mono ?_; rintro e w1 ⟨rfl, rfl⟩))
        go_roundw
        case rel => exact ⟨h + 1, j, by omega, by omega, by omega, by go_num, rfl, (by first | trivial | rfl)⟩
        case measure => simp [RowKit.intOf]; omega
      · rw [decide_eq_false hp] at hb
        go_wp2_with (first | (go_at_call 85; refine hc.out.mono ?_; rintro e w1 ⟨rfl, rfl⟩))
        go_roundw
        case rel => exact ⟨i, h, by omega, by omega, by omega, rfl, rfl, (by first | trivial | rfl)⟩
        case measure => simp [RowKit.intOf]; omega
    · have hie : i = p := by omega
      subst hie
      have y1 : ¬ (i : Int) < j := by omega
      by_cases hpos : i < l.length
      · have y2 : (i : Int) < l.length := by omega
        obtain rfl : a = some ⟨b, o, none⟩ := HH.out.at_.resolve_left (by omega)
        obtain ⟨s1, _, q1⟩ := HL.out i hpos
        have HK : Hid (hitS l i x = ((l[i]).toList == x.toList)) := by show _ = _; unfold hitS; rw [List.getElem?_eq_getElem hpos]
        have C := hmk (isnan77_any l[i] wr)
        by_cases hx : ((l[i]).toList == x.toList) = true
        · have HK1 : Hid (hitS l i x = true) := HK.out.trans hx
          clear HK
          go_wp2_with (first | (go_at_call 86; refine C.out.mono ?_; rintro e w1 ⟨rfl, rfl⟩))
          go_ret2
          refine ⟨?_, rfl⟩
          rw [HK1.out]; rfl
        · have hx' : ((l[i]).toList == x.toList) = false := by simpa using hx
          have HK1 : Hid (hitS l i x = false) := HK.out.trans hx'
          clear HK hx
          go_wp2_with (first | (go_at_call 86; refine C.out.mono ?_; rintro e w1 ⟨rfl, rfl⟩))
          go_ret2
          refine ⟨?_, rfl⟩
          rw [HK1.out]; rfl
      · have y2 : ¬ (i : Int) < l.length := by omega
        have HK1 : Hid (hitS l i x = false) := by show _ = _; unfold hitS; rw [List.getElem?_eq_none (by omega)]
        go_wp2_with fail
        go_ret2
        refine ⟨?_, rfl⟩
        rw [HK1.out]; rfl
end Go.Proofs.YtolekldjbbjmjaaGreatDoor
/- has, holds. -/
namespace Go.Proofs.YtolekldjbbjmjaaGreatDoor
open Go.RowKit Go.Lib
def holdsB (op : Int) (text hit : Bool) : Bool := if op = 1 then text else if op = 2 then !text else if op = 3 then text && hit else !text || !hit
set_option maxHeartbeats 8000000 in
set_option maxRecDepth 100000 in
theorem has_any (l : List ByteArray) (x : ByteArray) (p : Nat) (S : Nat → Prop) (a : Option Addr) (c b o : Nat) (w : World) (hh : Headed a l.length c b o) (hl : liesS w S l b o) (hm : l.length ≤ 2147483647) (hpl : p ≤ l.length) (hp : ∀ t (ht : t < l.length), Op.bytesLess (l[t]).toList x.toList = decide (t < p)) :
    Calls Tryz.prog 46 #[.slice a l.length c, .string x] w (fun e w' => e = .returned (.bool (hitS l p x)) ∧ w' = w) := by
  have C := hmk (bsearch_any l x p S a c b o w hh hl hm hpl hp)
  go_enter Tryz.func46, Tryz.ntmps46
  go_wp2_with (first | (go_at_call 66; refine C.out.mono ?_; rintro e w1 ⟨rfl, rfl⟩))
  go_ret
  exact ⟨rfl, rfl⟩
set_option maxHeartbeats 8000000 in
set_option maxRecDepth 100000 in
theorem holds_any (key : ByteArray) (op : Int) (l : List ByteArray) (k : Int) (vb : Bool) (vi : Int) (x : ByteArray) (v4 v5 : Value) (p : Nat) (S : Nat → Prop) (a : Option Addr) (c b o : Nat) (w : World) (h4 : ∃ a n c, v4 = .slice a n c) (h5 : ∃ a n c, v5 = .slice a n c)
    (hh : Headed a l.length c b o) (hl : liesS w S l b o) (hS : ∀ y, S y → y < w.heap.size) (hm : l.length ≤ 2147483647) (hpl : p ≤ l.length) (hp : ∀ t (ht : t < l.length), Op.bytesLess (l[t]).toList x.toList = decide (t < p)) :
    Calls Tryz.prog 27 #[.agg #[.string key, .int .i64 op, .slice a l.length c], .agg #[.int .i64 k, .bool vb, .int .i64 vi, .string x, v4, v5]] w (BPost (holdsB op (k == 3) (hitS l p x)) w) := by
  obtain ⟨a4, n4, c4, rfl⟩ := h4
  obtain ⟨a5, n5, c5, rfl⟩ := h5
  have HC := hmk (fun (W : World) (hW : Below w.heap.size w W) => has_any l x p S a c b o W hh (hl.keep (fun y hy => hW.block y (hS y hy)) (fun _ h => h)) hm hpl hp)
  clear hh hl hS hp
  generalize hitS l p x = hit at *
  by_cases hk : k = 3
  · subst hk
    by_cases e1 : op = 1
    · subst e1
      have HB : Hid (holdsB 1 ((3 : Int) == 3) hit = true) := by show _ = _; cases hit <;> rfl
      go_enter Tryz.func27, Tryz.ntmps27
      go_wp2_with (first | (go_at_call 46; refine (HC.out _ (((Below.refl _ _).alloc (Nat.le_refl _) _).alloc (by simp) _)).mono ?_; rintro e w1 ⟨rfl, rfl⟩))
      go_ret
      exact ⟨congrArg (fun r => Ending.returned (.bool r)) HB.out.symm, (((Below.refl _ _).alloc (Nat.le_refl _) _).alloc (by simp) _)⟩
    · by_cases e2 : op = 2
      · subst e2
        have HB : Hid (holdsB 2 ((3 : Int) == 3) hit = false) := by show _ = _; cases hit <;> rfl
        go_enter Tryz.func27, Tryz.ntmps27
        go_wp2_with (first | (go_at_call 46; refine (HC.out _ (((Below.refl _ _).alloc (Nat.le_refl _) _).alloc (by simp) _)).mono ?_; rintro e w1 ⟨rfl, rfl⟩))
        go_ret
        exact ⟨congrArg (fun r => Ending.returned (.bool r)) HB.out.symm, (((Below.refl _ _).alloc (Nat.le_refl _) _).alloc (by simp) _)⟩
      · by_cases e3 : op = 3
        · subst e3
          cases hit with
          | false =>
            have HB : Hid (holdsB 3 ((3 : Int) == 3) false = false) := by show _ = _; rfl
            go_enter Tryz.func27, Tryz.ntmps27
            go_wp2_with (first | (go_at_call 46; refine (HC.out _ (((Below.refl _ _).alloc (Nat.le_refl _) _).alloc (by simp) _)).mono ?_; rintro e w1 ⟨rfl, rfl⟩))
            go_ret
            exact ⟨congrArg (fun r => Ending.returned (.bool r)) HB.out.symm, (((Below.refl _ _).alloc (Nat.le_refl _) _).alloc (by simp) _)⟩
          | true =>
            have HB : Hid (holdsB 3 ((3 : Int) == 3) true = true) := by show _ = _; rfl
            go_enter Tryz.func27, Tryz.ntmps27
            go_wp2_with (first | (go_at_call 46; refine (HC.out _ (((Below.refl _ _).alloc (Nat.le_refl _) _).alloc (by simp) _)).mono ?_; rintro e w1 ⟨rfl, rfl⟩))
            go_ret
            exact ⟨congrArg (fun r => Ending.returned (.bool r)) HB.out.symm, (((Below.refl _ _).alloc (Nat.le_refl _) _).alloc (by simp) _)⟩
        · have f1 : (op == 1) = false := by rw [beq_eq_false_iff_ne]; exact e1
          have f2 : (op == 2) = false := by rw [beq_eq_false_iff_ne]; exact e2
          have f3 : (op == 3) = false := by rw [beq_eq_false_iff_ne]; exact e3
          cases hit with
          | false =>
            have HB : Hid (holdsB op ((3 : Int) == 3) false = true) := by show _ = _; unfold holdsB; rw [if_neg e1, if_neg e2, if_neg e3]; rfl
            go_enter Tryz.func27, Tryz.ntmps27
            go_wp2_with (first | (go_at_call 46; refine (HC.out _ (((Below.refl _ _).alloc (Nat.le_refl _) _).alloc (by simp) _)).mono ?_; rintro e w1 ⟨rfl, rfl⟩))
            go_ret
            exact ⟨congrArg (fun r => Ending.returned (.bool r)) HB.out.symm, (((Below.refl _ _).alloc (Nat.le_refl _) _).alloc (by simp) _)⟩
          | true =>
            have HB : Hid (holdsB op ((3 : Int) == 3) true = false) := by show _ = _; unfold holdsB; rw [if_neg e1, if_neg e2, if_neg e3]; rfl
            go_enter Tryz.func27, Tryz.ntmps27
            go_wp2_with (first | (go_at_call 46; refine (HC.out _ (((Below.refl _ _).alloc (Nat.le_refl _) _).alloc (by simp) _)).mono ?_; rintro e w1 ⟨rfl, rfl⟩))
            go_ret
            exact ⟨congrArg (fun r => Ending.returned (.bool r)) HB.out.symm, (((Below.refl _ _).alloc (Nat.le_refl _) _).alloc (by simp) _)⟩
  · have hk3 : (k == 3) = false := by rw [beq_eq_false_iff_ne]; exact hk
    by_cases e1 : op = 1
    · subst e1
      have HB : Hid (holdsB 1 (k == 3) hit = false) := by show _ = _; rw [hk3]; cases hit <;> rfl
      go_enter Tryz.func27, Tryz.ntmps27
      go_wp2_with (first | (go_at_call 46; refine (HC.out _ (((Below.refl _ _).alloc (Nat.le_refl _) _).alloc (by simp) _)).mono ?_; rintro e w1 ⟨rfl, rfl⟩))
      go_ret
      exact ⟨congrArg (fun r => Ending.returned (.bool r)) HB.out.symm, (((Below.refl _ _).alloc (Nat.le_refl _) _).alloc (by simp) _)⟩
    · by_cases e2 : op = 2
      · subst e2
        have HB : Hid (holdsB 2 (k == 3) hit = true) := by show _ = _; rw [hk3]; cases hit <;> rfl
        go_enter Tryz.func27, Tryz.ntmps27
        go_wp2_with (first | (go_at_call 46; refine (HC.out _ (((Below.refl _ _).alloc (Nat.le_refl _) _).alloc (by simp) _)).mono ?_; rintro e w1 ⟨rfl, rfl⟩))
        go_ret
        exact ⟨congrArg (fun r => Ending.returned (.bool r)) HB.out.symm, (((Below.refl _ _).alloc (Nat.le_refl _) _).alloc (by simp) _)⟩
      · by_cases e3 : op = 3
        · subst e3
          have HB : Hid (holdsB 3 (k == 3) hit = false) := by show _ = _; rw [hk3]; cases hit <;> rfl
          go_enter Tryz.func27, Tryz.ntmps27
          go_wp2_with (first | (go_at_call 46; refine (HC.out _ (((Below.refl _ _).alloc (Nat.le_refl _) _).alloc (by simp) _)).mono ?_; rintro e w1 ⟨rfl, rfl⟩))
          go_ret
          exact ⟨congrArg (fun r => Ending.returned (.bool r)) HB.out.symm, (((Below.refl _ _).alloc (Nat.le_refl _) _).alloc (by simp) _)⟩
        · have f1 : (op == 1) = false := by rw [beq_eq_false_iff_ne]; exact e1
          have f2 : (op == 2) = false := by rw [beq_eq_false_iff_ne]; exact e2
          have f3 : (op == 3) = false := by rw [beq_eq_false_iff_ne]; exact e3
          have HB : Hid (holdsB op (k == 3) hit = true) := by show _ = _; unfold holdsB; rw [if_neg e1, if_neg e2, if_neg e3, hk3]; rfl
          go_enter Tryz.func27, Tryz.ntmps27
          go_wp2_with (first | (go_at_call 46; refine (HC.out _ (((Below.refl _ _).alloc (Nat.le_refl _) _).alloc (by simp) _)).mono ?_; rintro e w1 ⟨rfl, rfl⟩))
          go_ret
          exact ⟨congrArg (fun r => Ending.returned (.bool r)) HB.out.symm, (((Below.refl _ _).alloc (Nat.le_refl _) _).alloc (by simp) _)⟩
end Go.Proofs.YtolekldjbbjmjaaGreatDoor
/- the document's Match, of what its Good says. -/
namespace Go.Proofs.YtolekldjbbjmjaaGreatDoor
open Go.RowKit Go.Lib
def termB (m : List Mem) (t : Trm) : Bool := holdsB t.2.1 (labF m t.1).2 (amongB t.2.2 (labF m t.1).1)
theorem all_no {m : List Mem} {l : List Trm} {j : Nat} (hj : j < l.length) (h : termB m l[j] = false) : l.all (termB m) = false := by
  rw [List.all_eq_false]
  exact ⟨_, List.getElem_mem hj, by rw [h]; simp⟩
theorem all_yes {m : List Mem} {l : List Trm} (h : ∀ k (hk : k < l.length), termB m l[k] = true) : l.all (termB m) = true := by
  rw [List.all_eq_true]
  intro t ht
  obtain ⟨k, hk, rfl⟩ := List.mem_iff_getElem.1 ht
  exact h k hk
end Go.Proofs.YtolekldjbbjmjaaGreatDoor
/- the document's Good, of what good says of a term. -/
namespace Go.Proofs.YtolekldjbbjmjaaGreatDoor
open Go.RowKit Go.Lib
theorem allf_no {f : Trm → Bool} {l : List Trm} {j : Nat} (hj : j < l.length) (h : f l[j] = false) : l.all f = false := by
  rw [List.all_eq_false]
  exact ⟨_, List.getElem_mem hj, by rw [h]; simp⟩
theorem allf_yes {f : Trm → Bool} {l : List Trm} (h : ∀ k (hk : k < l.length), f l[k] = true) : l.all f = true := by
  rw [List.all_eq_true]
  intro t ht
  obtain ⟨k, hk, rfl⟩ := List.mem_iff_getElem.1 ht
  exact h k hk
end Go.Proofs.YtolekldjbbjmjaaGreatDoor
