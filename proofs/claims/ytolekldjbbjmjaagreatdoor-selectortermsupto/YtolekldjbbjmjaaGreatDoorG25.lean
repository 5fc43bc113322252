/- joined: ShoA ShoB TmsA ShlZ -/
import Derived.Test.YtolekldjbbjmjaaGreatDoorSimO
import Derived.Shelf.Strings.Prefix
import Derived.Shelf.Strings.SlTrimAscii
import Derived.Shelf.Strconv.Clone
/- plain: what Simplify answers chooses just what the selector chooses (layer 20). -/
set_option linter.unusedSimpArgs false
set_option linter.unusedVariables false
namespace Go.Proofs.YtolekldjbbjmjaaGreatDoor
open Go.RowKit Go.Lib
theorem good_ops {t : Trm} (h : goodB t = true) : t.2.1 = 1 ∨ t.2.1 = 2 ∨ t.2.1 = 3 ∨ t.2.1 = 4 := by
  obtain ⟨key, op, vs⟩ := t
  rcases good_op h with h | h | ⟨h | h, _⟩
  · exact .inl h
  · exact .inr (.inl h)
  · exact .inr (.inr (.inl h))
  · exact .inr (.inr (.inr h))
/-- a term of a key, of what the labels tell of it -/
def tmB (th : Bool) (x : ByteArray) (t : Trm) : Prop := (t.2.1 = 1 → th = true) ∧ (t.2.1 = 2 → th = false) ∧ (t.2.1 = 3 → th = true ∧ x ∈ t.2.2) ∧ (t.2.1 = 4 → th = false ∨ x ∉ t.2.2)
theorem tmB_is {m : List Mem} {t : Trm} (h : t.2.1 = 1 ∨ t.2.1 = 2 ∨ t.2.1 = 3 ∨ t.2.1 = 4) : termB m t = true ↔ tmB (labF m t.1).2 (labF m t.1).1 t := by
  unfold termB holdsB tmB
  have ha : amongB t.2.2 (labF m t.1).1 = true ↔ (labF m t.1).1 ∈ t.2.2 := amongB_iff
  generalize (labF m t.1).2 = th at *
  generalize (labF m t.1).1 = x at *
  generalize amongB t.2.2 x = hit at *
  rcases h with h | h | h | h
  · rw [h]; simp
  · rw [h]; simp
  · rw [h, ← ha]; simp
  · rw [h, ← ha]; cases th <;> cases hit <;> simp
end Go.Proofs.YtolekldjbbjmjaaGreatDoor
/- plain: what Simplify answers may be, is no longer, and is as short as it gets (layer 20). -/
namespace Go.Proofs.YtolekldjbbjmjaaGreatDoor
open Go.RowKit Go.Lib
theorem vals_word {l : List ByteArray} (h : valsB l = true) {x : ByteArray} (hx : x ∈ l) : wordB x = true := by
  obtain ⟨k, hk, rfl⟩ := List.mem_iff_getElem.1 hx
  unfold valsB at h
  rw [List.all_eq_true] at h
  have h1 := h k (List.mem_range.2 hk)
  cases k with
  | zero => rw [valB_zero hk] at h1; exact h1
  | succ k => rw [valB_succ hk, Bool.and_eq_true] at h1; exact h1.1
theorem vals_of {l : List ByteArray} (hr : Ris l) (hw : ∀ x ∈ l, wordB x = true) : valsB l = true := by
  refine valsB_yes fun k hk => ?_
  cases k with
  | zero => rw [valB_zero hk]; exact hw _ (List.getElem_mem hk)
  | succ k =>
    rw [valB_succ hk, Bool.and_eq_true]
    exact ⟨hw _ (List.getElem_mem hk), ris_lt hr hk (by omega)⟩
/- no longer -/
/- as short as it gets -/
end Go.Proofs.YtolekldjbbjmjaaGreatDoor
/- plain: a term and its opposite, a term's values one by one (layer 20). -/
namespace Go.Proofs.YtolekldjbbjmjaaGreatDoor
open Go.RowKit Go.Lib
def flipO (op : Int) : Int := if 2 < op then 7 - op else 3 - op
def flipT (t : Trm) : Trm := (t.1, flipO t.2.1, t.2.2)
theorem flipO_is {op : Int} (h : op = 1 ∨ op = 2 ∨ op = 3 ∨ op = 4) : flipO op = 1 ∨ flipO op = 2 ∨ flipO op = 3 ∨ flipO op = 4 := by
  unfold flipO; split <;> omega
theorem flip_good {t : Trm} (h : goodB t = true) : goodB (flipT t) = true := by
  have ho := good_ops h
  obtain ⟨key, op, vs⟩ := t
  rw [goodB_is, Bool.and_eq_true] at h
  show goodB (key, flipO op, vs) = true
  rw [goodB_is, Bool.and_eq_true]
  refine ⟨h.1, ?_⟩
  have h2 := h.2
  rcases ho with e | e | e | e <;> (have e : op = _ := e; subst e; exact h2)
theorem flip_term {t : Trm} (m : List Mem) (h : goodB t = true) : termB m (flipT t) = !(termB m t) := by
  have ho := good_ops h
  have h1 := tmB_is (m := m) ho
  have h2 := tmB_is (m := m) (t := flipT t) (flipO_is ho)
  have hk : (flipT t).1 = t.1 := rfl
  rw [hk] at h2
  obtain ⟨key, op, vs⟩ := t
  generalize (labF m (key, op, vs).1).2 = th at *
  generalize (labF m (key, op, vs).1).1 = x at *
  have hx : tmB th x (flipT (key, op, vs)) ↔ ¬ tmB th x (key, op, vs) := by
    unfold tmB flipT flipO
    by_cases hv : x ∈ vs
    · rcases ho with e | e | e | e <;> (have e : op = _ := e; subst e; cases th <;> simp [hv])
    · rcases ho with e | e | e | e <;> (have e : op = _ := e; subst e; cases th <;> simp [hv])
  cases hb : termB m (key, op, vs) with
  | true =>
    have := h1.1 hb
    cases hc : termB m (flipT (key, op, vs)) with
    | false => rfl
    | true => exact absurd this (hx.1 (h2.1 hc))
  | false =>
    have hn : ¬ tmB th x (key, op, vs) := fun q => by rw [h1.2 q] at hb; cases hb
    rw [h2.2 (hx.2 hn)]; rfl
theorem val_good {key v : ByteArray} {vs : List ByteArray} (h : goodB (key, 3, vs) = true) (hv : v ∈ vs) : goodB (key, 3, [v]) = true := by
  have hw := vals_word (good_vals h) hv
  rw [goodB_is, Bool.and_eq_true] at h ⊢
  refine ⟨h.1, ?_⟩
  have : valsB [v] = true := vals_of (by unfold Ris; simp) (fun y hy => by rw [List.mem_singleton.1 hy]; exact hw)
  unfold opB
  rw [if_neg (by simp), if_pos (by simp), this]
  rfl
theorem vals_term {key : ByteArray} {vs : List ByteArray} (m : List Mem) : termB m (key, 3, vs) = vs.any (fun v => termB m (key, 3, [v])) := by
  have h1 := tmB_is (m := m) (t := (key, 3, vs)) (.inr (.inr (.inl rfl)))
  have h2 : ∀ v, termB m (key, 3, [v]) = true ↔ tmB (labF m key).2 (labF m key).1 (key, 3, [v]) := fun v => tmB_is (m := m) (t := (key, 3, [v])) (.inr (.inr (.inl rfl)))
  have hk : (key, (3 : Int), vs).1 = key := rfl
  rw [hk] at h1
  generalize (labF m key).2 = th at *
  generalize (labF m key).1 = x at *
  rw [Bool.eq_iff_iff, h1, List.any_eq_true]
  unfold tmB at *
  simp at *
  constructor
  · rintro ⟨a, b⟩; exact ⟨x, b, (h2 x).2 ⟨a, rfl⟩⟩
  · rintro ⟨v, hv, hb⟩
    obtain ⟨a, b⟩ := (h2 v).1 hb
    exact ⟨a, by rw [b]; exact hv⟩
theorem match_one {t : Trm} (m : List Mem) (h : goodB t = true) : matchB [t] m = termB m t := by
  unfold matchB
  simp [h]
end Go.Proofs.YtolekldjbbjmjaaGreatDoor
/- strings.HasPrefix, Clone, TrimLeft by their contracts, laid at this program. -/
namespace Go.Proofs
open Go.Shelf Go.RowKit
def Tryz.lays99_ren : Go.Shelf.Ren := ⟨fun | 99 => 75 | 206 => 106 | n => n, fun | 3 => 3 | 4 => 4 | 9 => 9 | n => n, fun  | n => n⟩
set_option maxRecDepth 100000 in
theorem Tryz.lays99 : Go.Proofs.Lays.n99 Tryz.prog Tryz.lays99_ren := {
  mixed := by kernel_rfl
  f99 := Tryz.func75.trans (congrArg some (by kernel_rfl))
  f206 := Tryz.func106.trans (congrArg some (by kernel_rfl))
  t3 := Tryz.underlying3
  a3 := Tryz.isAgg3
  z3 := Tryz.sizeOf3
  v3 := Tryz.zeroValue3
  t4 := Tryz.underlying4
  a4 := Tryz.isAgg4
  z4 := Tryz.sizeOf4
  v4 := Tryz.zeroValue4
  t9 := Tryz.underlying9
  a9 := Tryz.isAgg9
  z9 := Tryz.sizeOf9
  v9 := Tryz.zeroValue9 }
def Tryz.lays161_ren : Go.Shelf.Ren := ⟨fun | 119 => 136 | 137 => 135 | 151 => 122 | 152 => 131 | 161 => 72 | 197 => 121 | 217 => 141 | 224 => 137 | 225 => 138 | 227 => 98 | 228 => 120 | 231 => 97 | 233 => 99 | 235 => 100 | 260 => 130 | 266 => 146 | n => n, fun | 0 => 0 | 3 => 3 | 4 => 4 | 5 => 5 | 9 => 9 | 21 => 21 | 46 => 111 | 105 => 157 | 116 => 138 | 117 => 139 | 119 => 168 | 124 => 142 | 138 => 170 | 139 => 171 | n => n, fun | 3 => 0 | 4 => 1 | n => n⟩
set_option maxRecDepth 100000 in
theorem Tryz.lays161 : Go.Proofs.Lays.n161 Tryz.prog Tryz.lays161_ren := {
  mixed := by kernel_rfl
  f119 := Tryz.func136.trans (congrArg some (by kernel_rfl))
  f137 := Tryz.func135.trans (congrArg some (by kernel_rfl))
  f151 := Tryz.func122.trans (congrArg some (by kernel_rfl))
  f152 := Tryz.func131.trans (congrArg some (by kernel_rfl))
  f161 := Tryz.func72.trans (congrArg some (by kernel_rfl))
  f197 := Tryz.func121.trans (congrArg some (by kernel_rfl))
  f217 := Tryz.func141.trans (congrArg some (by kernel_rfl))
  f224 := Tryz.func137.trans (congrArg some (by kernel_rfl))
  f225 := Tryz.func138.trans (congrArg some (by kernel_rfl))
  f227 := Tryz.func98.trans (congrArg some (by kernel_rfl))
  f228 := Tryz.func120.trans (congrArg some (by kernel_rfl))
  f231 := Tryz.func97.trans (congrArg some (by kernel_rfl))
  f233 := Tryz.func99.trans (congrArg some (by kernel_rfl))
  f235 := Tryz.func100.trans (congrArg some (by kernel_rfl))
  f260 := Tryz.func130.trans (congrArg some (by kernel_rfl))
  f266 := Tryz.func146.trans (congrArg some (by kernel_rfl))
  t0 := Tryz.underlying0
  a0 := Tryz.isAgg0
  z0 := Tryz.sizeOf0
  v0 := Tryz.zeroValue0
  t3 := Tryz.underlying3
  a3 := Tryz.isAgg3
  z3 := Tryz.sizeOf3
  v3 := Tryz.zeroValue3
  t4 := Tryz.underlying4
  a4 := Tryz.isAgg4
  z4 := Tryz.sizeOf4
  v4 := Tryz.zeroValue4
  t5 := Tryz.underlying5
  a5 := Tryz.isAgg5
  z5 := Tryz.sizeOf5
  v5 := Tryz.zeroValue5
  t9 := Tryz.underlying9
  a9 := Tryz.isAgg9
  z9 := Tryz.sizeOf9
  v9 := Tryz.zeroValue9
  t21 := Tryz.underlying21
  a21 := Tryz.isAgg21
  z21 := Tryz.sizeOf21
  v21 := Tryz.zeroValue21
  t46 := Tryz.underlying111
  a46 := Tryz.isAgg111
  z46 := Tryz.sizeOf111
  v46 := Tryz.zeroValue111
  t105 := Tryz.underlying157
  a105 := Tryz.isAgg157
  z105 := Tryz.sizeOf157
  v105 := Tryz.zeroValue157
  t116 := Tryz.underlying138
  a116 := Tryz.isAgg138
  z116 := Tryz.sizeOf138
  t117 := Tryz.underlying139
  a117 := Tryz.isAgg139
  z117 := Tryz.sizeOf139
  v117 := Tryz.zeroValue139
  t119 := Tryz.underlying168
  a119 := Tryz.isAgg168
  z119 := Tryz.sizeOf168
  t124 := Tryz.underlying142
  a124 := Tryz.isAgg142
  z124 := Tryz.sizeOf142
  v124 := Tryz.zeroValue142
  t138 := Tryz.underlying170
  a138 := Tryz.isAgg170
  z138 := Tryz.sizeOf170
  v138 := Tryz.zeroValue170
  t139 := Tryz.underlying171
  a139 := Tryz.isAgg171
  z139 := Tryz.sizeOf171
  v139 := Tryz.zeroValue171
  g3 := by kernel_rfl
  g4 := by kernel_rfl }
def Tryz.lays316_ren : Go.Shelf.Ren := ⟨fun | 316 => 123 | n => n, fun | 0 => 0 | 3 => 3 | 4 => 4 | 5 => 5 | 9 => 9 | 37 => 55 | 127 => 93 | n => n, fun  | n => n⟩
set_option maxRecDepth 100000 in
theorem Tryz.lays316 : Go.Proofs.LaysM.n316 Tryz.prog Tryz.lays316_ren := {
  mixed := by kernel_rfl
  f316 := Tryz.func123.trans (congrArg some (by kernel_rfl))
  t0 := Tryz.underlying0
  a0 := Tryz.isAgg0
  z0 := Tryz.sizeOf0
  v0 := Tryz.zeroValue0
  t3 := Tryz.underlying3
  a3 := Tryz.isAgg3
  z3 := Tryz.sizeOf3
  v3 := Tryz.zeroValue3
  t4 := Tryz.underlying4
  a4 := Tryz.isAgg4
  z4 := Tryz.sizeOf4
  v4 := Tryz.zeroValue4
  t9 := Tryz.underlying9
  a9 := Tryz.isAgg9
  z9 := Tryz.sizeOf9
  v9 := Tryz.zeroValue9
  t37 := Tryz.underlying55
  a37 := Tryz.isAgg55
  z37 := Tryz.sizeOf55
  v37 := Tryz.zeroValue55
  t127 := Tryz.underlying93
  a127 := Tryz.isAgg93
  z127 := Tryz.sizeOf93
  v127 := Tryz.zeroValue93
  t5 := Tryz.underlying5
  a5 := Tryz.isAgg5
  z5 := Tryz.sizeOf5
  v5 := Tryz.zeroValue5
  i0 := by kernel_rfl
  i3 := by kernel_rfl
  i4 := by kernel_rfl
  i5 := by kernel_rfl
  i9 := by kernel_rfl
  i37 := by kernel_rfl
  i127 := by kernel_rfl }
end Go.Proofs
