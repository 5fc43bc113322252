import Derived.Test.YtgnofbigggmilaaGreatDoorG16
import Derived.Shelf.SlicesE.Clone
set_option linter.unusedSimpArgs false
set_option linter.unusedVariables false
namespace Go.Proofs
def Tryz.clone40_ren : Go.Shelf.Ren := ⟨fun | 41 => 81 | n => n, fun | 4 => 4 | 22 => 22 | 23 => 25 | n => n, fun | n => n⟩
theorem Tryz.clone40 : Go.Proofs.SlLaysE0.n41 Tryz.prog Tryz.clone40_ren := {
 mixed := by kernel_rfl
 f41 := ⟨Tryz.f81.name, by kernel_rfl, Tryz.func81.trans (congrArg some (by kernel_rfl))⟩
 t4 := Tryz.underlying4
 a4 := Tryz.isAgg4
 z4 := Tryz.sizeOf4
 v4 := Tryz.zeroValue4
 t22 := Tryz.underlying22
 a22 := Tryz.isAgg22
 z22 := Tryz.sizeOf22
 v22 := Tryz.zeroValue22 }
def Tryz.clone41_ren : Go.Shelf.Ren := ⟨fun | 41 => 82 | n => n, fun | 4 => 4 | 22 => 23 | 23 => 64 | n => n, fun | n => n⟩
theorem Tryz.clone41 : Go.Proofs.SlLaysE0.n41 Tryz.prog Tryz.clone41_ren := {
 mixed := by kernel_rfl
 f41 := ⟨Tryz.f82.name, by kernel_rfl, Tryz.func82.trans (congrArg some (by kernel_rfl))⟩
 t4 := Tryz.underlying4
 a4 := Tryz.isAgg4
 z4 := Tryz.sizeOf4
 v4 := Tryz.zeroValue4
 t22 := Tryz.underlying23
 a22 := Tryz.isAgg23
 z22 := Tryz.sizeOf23
 v22 := Tryz.zeroValue23 }
end Go.Proofs
namespace Go.Proofs.YtgnofbigggmilaaGreatDoor
open Go.RowKit Go.Lib
structure RowsOf (w : World) (b o c : Nat) (css : List (List Value)) : Prop where
 len : ∀ x ∈ css, x.length = c
 one : ∀ x ∈ css, ∀ u ∈ x, u.oneCell' = true
 row : ∀ (j : Nat) (h : j < css.length), rowAt w b (o + j * c) css[j]
theorem flat_len {c : Nat} : ∀ {css : List (List Value)}, (∀ x ∈ css, x.length = c) → css.flatten.length = css.length * c
 | [], _ => by simp
 | x :: t, h => by
  have := flat_len (css := t) (fun y hy => h y (List.mem_cons_of_mem _ hy))
  rw [List.flatten_cons, List.length_append, this, h x List.mem_cons_self, List.length_cons, Nat.add_mul]; omega
theorem flat_get {c : Nat} : ∀ {css : List (List Value)}, (∀ x ∈ css, x.length = c) → ∀ (j r : Nat) (hr : r < c) (hj : j < css.length), css.flatten[j * c + r]? = (css[j])[r]?
 | [], _, j, r, hr, hj => by simp at hj
 | x :: t, h, 0, r, hr, hj => by
  rw [List.flatten_cons, Nat.zero_mul, Nat.zero_add, List.getElem?_append_left (by rw [h x List.mem_cons_self]; exact hr)]
  rfl
 | x :: t, h, j + 1, r, hr, hj => by
  have hx := h x List.mem_cons_self
  have := flat_get (css := t) (fun y hy => h y (List.mem_cons_of_mem _ hy)) j r hr (by simpa using hj)
  have e : (j + 1) * c + r = c + (j * c + r) := by rw [Nat.add_mul]; omega
  rw [List.flatten_cons, e, List.getElem?_append_right (by omega), hx, Nat.add_sub_cancel_left, this]
  rfl
theorem flat_at {c : Nat} {css : List (List Value)} (h : ∀ x ∈ css, x.length = c) (hc : 0 < c) {p : Nat} {u : Value} (hu : css.flatten[p]? = some u) : ∃ j r, ∃ (hj : j < css.length), r < c ∧ p = j * c + r ∧ (css[j])[r]? = some u := by
 have hp : p < css.length * c := by
  rcases Nat.lt_or_ge p css.flatten.length with h1 | h1
  ·rwa [flat_len h] at h1
  ·rw [List.getElem?_eq_none h1] at hu; cases hu
 have hj : p / c < css.length := (Nat.div_lt_iff_lt_mul hc).2 hp
 have hr := Nat.mod_lt p hc
 have e : p = p / c * c + p % c := by have := Nat.div_add_mod p c; rw [Nat.mul_comm] at this; exact this.symm
 refine ⟨p / c, p % c, hj, hr, e, ?_⟩
 rw [← flat_get h _ _ hr hj, ← e]
 exact hu
theorem RowsOf.flat {w : World} {b o c : Nat} {css : List (List Value)} (h : RowsOf w b o c css) (hc : 0 < c) (p : Nat) (u : Value) (hu : css.flatten[p]? = some u) : w.cell? ⟨b, o + p, none⟩ = some u := by
 obtain ⟨j, r, hj, hr, rfl, h1⟩ := flat_at h.len hc hu
 have := h.row j hj r u h1
 rw [← Nat.add_assoc]
 exact this
theorem RowsOf.flat1 {w : World} {b o c : Nat} {css : List (List Value)} (h : RowsOf w b o c css) : ∀ u ∈ css.flatten, u.oneCell' = true := fun u hu => by
 obtain ⟨x, hx, hu⟩ := List.mem_flatten.1 hu
 exact h.one x hx u hu
theorem one_of_lies {v : V} {w : World} {S : Nat → Prop} {cs : List Value} (h : v.lies false w S cs) : cs.length = 6 ∧ ∀ u ∈ cs, u.oneCell' = true := by
 obtain ⟨k, b, i, s, al, nl, cl, am, nm, cm, rfl⟩ := V.ten h
 refine ⟨rfl, fun u hu => ?_⟩
 simp only [List.mem_cons, List.not_mem_nil, or_false] at hu
 rcases hu with rfl | rfl | rfl | rfl | rfl | rfl <;> rfl
theorem rowsL_of {w : World} {S : Nat → Prop} : ∀ {l : List V} {b o : Nat}, liesL false w S l b o → ∃ css : List (List Value), css.length = l.length ∧ RowsOf w b o 6 css ∧ ∀ (j : Nat) (h : j < l.length) (h' : j < css.length), (l[j]).lies false w S css[j]
 | [], b, o, _ => ⟨[], rfl, ⟨by simp, by simp, by intro j h; simp at h⟩, by intro j h; simp at h⟩
 | x :: t, b, o, hl => by
  rw [liesL] at hl
  obtain ⟨hS, ⟨cs, hr, hx⟩, ht⟩ := hl
  obtain ⟨css, h1, h2, h3⟩ := rowsL_of ht
  have ho := one_of_lies hx
  refine ⟨cs :: css, by simp [h1], ⟨?_, ?_, ?_⟩, ?_⟩
  ·intro y hy
   rcases List.mem_cons.1 hy with rfl | hy
   ·exact ho.1
   ·exact h2.len y hy
  ·intro y hy
   rcases List.mem_cons.1 hy with rfl | hy
   ·exact ho.2
   ·exact h2.one y hy
  ·intro j hj
   cases j with
   | zero => simpa using hr
   | succ j =>
    have := h2.row j (by simpa using hj)
    rw [show o + 6 + j * 6 = o + (j + 1) * 6 by omega] at this
    simpa using this
  ·intro j hj hj'
   cases j with
   | zero => simpa using hx
   | succ j => simpa using h3 j (by simpa using hj) (by simpa using hj')
theorem rowsM_of {w : World} {S : Nat → Prop} : ∀ {l : List Mem} {b o : Nat}, liesM false w S l b o → ∃ css : List (List Value), css.length = l.length ∧ RowsOf w b o 7 css ∧ ∀ (j : Nat) (h : j < l.length) (h' : j < css.length), ∃ cs, css[j] = .string (l[j]).1 :: cs ∧ (l[j]).1.size ≤ maxLen ∧ (l[j]).2.lies false w S cs
 | [], b, o, _ => ⟨[], rfl, ⟨by simp, by simp, by intro j h; simp at h⟩, by intro j h; simp at h⟩
 | (k, x) :: t, b, o, hl => by
  rw [liesM] at hl
  obtain ⟨hS, ⟨hk, cs, hr, hx⟩, ht⟩ := hl
  obtain ⟨css, h1, h2, h3⟩ := rowsM_of ht
  have ho := one_of_lies hx
  refine ⟨(.string k :: cs) :: css, by simp [h1], ⟨?_, ?_, ?_⟩, ?_⟩
  ·intro y hy
   rcases List.mem_cons.1 hy with rfl | hy
   ·simp [ho.1]
   ·exact h2.len y hy
  ·intro y hy
   rcases List.mem_cons.1 hy with rfl | hy
   ·intro u hu
    rcases List.mem_cons.1 hu with rfl | hu
    ·rfl
    ·exact ho.2 u hu
   ·exact h2.one y hy
  ·intro j hj
   cases j with
   | zero => simpa using hr
   | succ j =>
    have := h2.row j (by simpa using hj)
    rw [show o + 7 + j * 7 = o + (j + 1) * 7 by omega] at this
    simpa using this
  ·intro j hj hj'
   cases j with
   | zero => exact ⟨cs, by simp, by simpa using hk, by simpa using hx⟩
   | succ j => simpa using h3 j (by simpa using hj) (by simpa using hj')
structure NewRows (w w' : World) (g cap ty c : Nat) (css : List (List Value)) (cur : Array Value) : Prop where
 lo : w.heap.size ≤ g
 hi : g < w'.heap.size
 le : css.length ≤ cap
 max : cap ≤ maxLen
 blk : w'.heap[g]? = some (.cells cur ty (0, 0))
 size : css.length * c ≤ cur.size
 rows : RowsOf w' g 0 c css
theorem newRows_mk {w w' : World} {ty c : Nat} {css : List (List Value)} {v' : Value} (hc : 0 < c) (hr : ∀ x ∈ css, x.length = c) (h1 : ∀ x ∈ css, ∀ u ∈ x, u.oneCell' = true) (ho : w'.ownsRow w.heap.size ty c v' css.length css.flatten) (hne : v' ≠ .slice none 0 0) : ∃ g cap cur, v' = .slice (some ⟨g, 0, none⟩) css.length cap ∧ NewRows w w' g cap ty c css cur := by
 obtain ⟨_, ho⟩ := ho
 rcases ho with ⟨rfl, _⟩ | ⟨g, cap, cur, rfl, hg, hblk, hle, hm, hcs, hpre⟩
 ·exact absurd rfl hne
 ·have hlt : g < w'.heap.size := by
   rcases Nat.lt_or_ge g w'.heap.size with h | h
   ·exact h
   ·rw [Array.getElem?_eq_none h] at hblk; cases hblk
  refine ⟨g, cap, cur, rfl, hg, hlt, hle, hm, hblk, ?_, hr, h1, fun j hj q u hu => ?_⟩
  ·have := congrArg List.length hpre
   rw [List.length_take, flat_len hr] at this
   have h2 : cur.toList.length = cur.size := by simp
   omega
  ·have hq : q < c := by
    rcases Nat.lt_or_ge q c with h | h
    ·exact h
    ·rw [List.getElem?_eq_none (by rw [hr _ (List.getElem_mem hj)]; exact h)] at hu; cases hu
   have hlt2 : j * c + q < css.length * c := by
    have : (j + 1) * c ≤ css.length * c := Nat.mul_le_mul_right c hj
    rw [Nat.add_mul] at this
    omega
   rw [Nat.zero_add, cell_of_block hblk, ← Array.getElem?_toList]
   have e1 : cur.toList[j * c + q]? = (cur.toList.take (css.length * c))[j * c + q]? := by rw [List.getElem?_take, if_pos hlt2]
   rw [e1, hpre, flat_get hr j q hq hj]
   exact hu
theorem vclone_any (css : List (List Value)) (b off c : Nat) (w : World) (hr : RowsOf w b off 6 css) (hn : css.length ≤ 1099511627776) :
 Calls Tryz.prog 81 #[.slice (some ⟨b, off, none⟩) css.length c] w fun e w' => ∃ g cap cur, e = .returned (.slice (some ⟨g, 0, none⟩) css.length cap) ∧ NewRows w w' g cap 25 6 css cur ∧ Below w.heap.size w w' := by
 obtain ⟨i0, hi0, hz0, hz1, hz2⟩ := info_parts info25
 have hmax : css.length ≤ maxLen := Nat.le_trans hn (by decide)
 have hcon := AnyE.slices_Clone Tryz.clone40 i0 _ 6 88 hi0 hz0 hz1 hz2 rfl (by omega) Tryz.sizeOf25 b off css.length c css.flatten w (flat_len hr.len) hmax (by omega) (fun j u hu => hr.flat (by omega) j u hu) hr.flat1
 change Calls Tryz.prog 81 _ _ _ at hcon
 refine hcon.mono ?_
 rintro e w' ⟨v', rfl, ho, hne, hb⟩
 obtain ⟨g, cap, cur, rfl, hN⟩ := newRows_mk (by omega) hr.len hr.one ho hne
 exact ⟨g, cap, cur, rfl, hN, hb⟩
theorem mclone_any (css : List (List Value)) (b off c : Nat) (w : World) (hr : RowsOf w b off 7 css) (hn : css.length ≤ 1099511627776) :
 Calls Tryz.prog 82 #[.slice (some ⟨b, off, none⟩) css.length c] w fun e w' => ∃ g cap cur, e = .returned (.slice (some ⟨g, 0, none⟩) css.length cap) ∧ NewRows w w' g cap 64 7 css cur ∧ Below w.heap.size w w' := by
 obtain ⟨i0, hi0, hz0, hz1, hz2⟩ := info_parts info44
 have hmax : css.length ≤ maxLen := Nat.le_trans hn (by decide)
 have hcon := AnyE.slices_Clone Tryz.clone41 i0 _ 7 104 hi0 hz0 hz1 hz2 rfl (by omega) Tryz.sizeOf64 b off css.length c css.flatten w (flat_len hr.len) hmax (by omega) (fun j u hu => hr.flat (by omega) j u hu) hr.flat1
 change Calls Tryz.prog 82 _ _ _ at hcon
 refine hcon.mono ?_
 rintro e w' ⟨v', rfl, ho, hne, hb⟩
 obtain ⟨g, cap, cur, rfl, hN⟩ := newRows_mk (by omega) hr.len hr.one ho hne
 exact ⟨g, cap, cur, rfl, hN, hb⟩
end Go.Proofs.YtgnofbigggmilaaGreatDoor
