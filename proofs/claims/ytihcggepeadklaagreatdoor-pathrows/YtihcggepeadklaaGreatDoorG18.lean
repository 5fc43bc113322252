/- joined: OdrP BytA PutB GdP -/
import Derived.Test.YtihcggepeadklaaGreatDoorOdlP
import Derived.Test.YtihcggepeadklaaGreatDoorG17
import Derived.Deep.AppendLies
import Derived.Laws.IdiomStrings
import Derived.Laws.BytesArg
import Derived.Lib.UnsafeStr
/- The document's order of elements and paths; they are one. -/
set_option linter.unusedSimpArgs false
set_option linter.unusedVariables false
namespace Go.Proofs.YtihcggepeadklaaGreatDoor
open Go.RowKit Go.Lib
def rmM (x y : Mem) : Int := if cmpS x.1 y.1 = 0 then cmpV x.2 y.2 else cmpS x.1 y.1
def reE (x y : El) : Int := if x.kind = y.kind then (if x.kind = 1 then cmpS x.name y.name else if x.kind = 3 then cmpV x.item y.item else lexL rmM x.key y.key) else cmpI x.kind y.kind
theorem cmpS_nul (a b : ByteArray) : cmpS a b = 0 ↔ a.toList = b.toList := by rw [cmpS, cmp_zero, toList_data, toList_data]
theorem cmpS_self (a : ByteArray) : cmpS a a = 0 := (cmpS_nul a a).2 rfl
theorem os_cmp {v u : V} (hv : sizS v = true) (hu : sizS u = true) : osV v u = cmpV v u := by
  simp only [sizS, Bool.and_eq_true, decide_eq_true_eq] at hv hu
  rw [cmpV, if_pos ⟨hv.1, hu.1⟩]
  have gv := chkV_allG 40 v 0 _ (okV_true hv.1)
  have gu := chkV_allG 40 u 0 _ (okV_true hu.1)
  obtain ⟨k, b, i, s, l, m⟩ := v
  obtain ⟨k', b', i', s', l', m'⟩ := u
  rw [allG] at gv gu
  have p := goodB_plain gv.1
  have q := goodB_plain gu.1
  have hk := hv.2
  have hk' := hu.2
  simp only [kindOf] at hk hk'
  rw [osV, osB, ordV]
  by_cases e : k = k'
  · subst e
    rw [if_pos rfl, if_pos rfl]
    have es : k ≠ 3 → s = ⟨#[]⟩ ∧ s' = ⟨#[]⟩ := fun h3 => by
      have a1 := p.2.2.2.2.1.resolve_left h3
      have a2 := q.2.2.2.2.1.resolve_left h3
      exact ⟨bytes_eq (by rw [nil_toList]; simpa using a1), bytes_eq (by rw [nil_toList]; simpa using a2)⟩
    have hk3 : k = 1 ∨ k = 2 ∨ k = 3 := by omega
    rcases hk3 with rfl | rfl | rfl
    · obtain ⟨rfl, rfl⟩ := es (by omega)
      have a1 : i = 0 := p.2.2.2.1.resolve_left (by omega)
      have a2 : i' = 0 := q.2.2.2.1.resolve_left (by omega)
      rw [a1, a2, if_pos rfl, cmpB, cmpS_self, if_pos rfl]
    · obtain ⟨rfl, rfl⟩ := es (by omega)
      have a1 : b = false := p.2.2.1.resolve_left (by omega)
      have a2 : b' = false := q.2.2.1.resolve_left (by omega)
      rw [a1, a2, if_pos rfl, cmpS_self]
      by_cases hi : i = i'
      · rw [if_pos hi, if_neg (by omega), if_pos rfl, hi, cmpI]; simp
      · rw [if_neg hi, if_neg (by omega), if_pos rfl]
    · have a1 : b = false := p.2.2.1.resolve_left (by omega)
      have a2 : b' = false := q.2.2.1.resolve_left (by omega)
      have a3 : i = 0 := p.2.2.2.1.resolve_left (by omega)
      have a4 : i' = 0 := q.2.2.2.1.resolve_left (by omega)
      rw [a1, a2, a3, a4, if_pos rfl, if_pos rfl, if_neg (by omega), if_neg (by omega), if_pos rfl]
  · rw [if_neg e, if_neg e]
theorem lex_congr {α : Type} {f g : α → α → Int} : ∀ (a b : List α), (∀ x ∈ a, ∀ y ∈ b, f x y = g x y) → lexL f a b = lexL g a b
  | x :: a, y :: b, h => by
    rw [lexL, lexL, h x (by simp) y (by simp), lex_congr a b (fun x' hx y' hy => h x' (by simp [hx]) y' (by simp [hy]))]
  | [], b, _ => by cases b <;> rfl
  | x :: a, [], _ => rfl
theorem keysB_all {l : List Mem} (h : keysB l = true) : ∀ x ∈ l, sizS x.2 = true := by
  intro x hx
  obtain ⟨j, hj, rfl⟩ := List.getElem_of_mem hx
  simp only [keysB, Bool.and_eq_true, List.all_eq_true, List.mem_range] at h
  have := h.2 j hj
  simp only [okK, Bool.and_eq_true] at this
  rw [← valAt_eq hj]
  exact this.2
theorem oe_re {x y : El} (hx : elB x = true) (hy : elB y = true) : oeE x y = reE x y := by
  obtain ⟨k, n, m, v⟩ := x
  obtain ⟨k', n', m', v'⟩ := y
  rw [oeE, reE]
  dsimp only
  by_cases e : k = k'
  · subst e
    rw [if_pos rfl, if_pos rfl]
    by_cases h1 : k = 1
    · rw [if_pos h1, if_pos h1]
    rw [if_neg h1, if_neg h1]
    by_cases h2 : k = 2
    · rw [if_pos h2, if_neg (by omega)]
      rw [elB2 h2] at hx hy
      simp only [Bool.and_eq_true] at hx hy
      refine lex_congr m m' fun a ha b hb => ?_
      rw [omM, rmM, os_cmp (keysB_all hx.2.2 a ha) (keysB_all hy.2.2 b hb)]
      by_cases hz : a.1.toList = b.1.toList
      · rw [if_pos hz, if_pos ((cmpS_nul _ _).2 hz)]
      · rw [if_neg hz, if_neg (fun h => hz ((cmpS_nul _ _).1 h))]
    · by_cases h3 : k = 3
      · rw [if_neg h2, if_pos h3]
        rw [elB3 h3] at hx hy
        simp only [Bool.and_eq_true] at hx hy
        exact os_cmp hx.2.2 hy.2.2
      · rw [elB0 h1 h2 h3] at hx; cases hx
  · rw [if_neg e, if_neg e]
theorem op_rp {p q : List El} (hp : ∀ x ∈ p, elB x = true) (hq : ∀ x ∈ q, elB x = true) : lexL oeE p q = lexL reE p q :=
  lex_congr p q fun x hx y hy => oe_re (hp x hx) (hq y hy)
end Go.Proofs.YtihcggepeadklaaGreatDoor
/- Rows of bytes that a call owns: append onto them, and their string. -/
namespace Go.Proofs.YtihcggepeadklaaGreatDoor
open Go.RowKit
/-- the slice v owns the bytes l, in a block from B on -/
def Own (B : Nat) (v : Value) (l : List UInt8) (w : World) : Prop := w.ownsRow B 5 1 v l.length (Lib.byteCells l)
theorem Own.alloc {B : Nat} {v : Value} {l : List UInt8} {w : World} (h : Own B v l w) (o : Obj) : Own B v l (w.alloc o) := World.ownsRow.alloc h o
theorem Own.nil (B : Nat) (w : World) : Own B (.slice none 0 0) [] w := World.ownsRow_nil w B 5 1
end Go.Proofs.YtihcggepeadklaaGreatDoor
/- freeholdlaw02.put: some members. -/
namespace Go.Proofs.YtihcggepeadklaaGreatDoor
open Go.RowKit
theorem OwnM.out {w w0 : World} {S T : Nat → Prop} {g n cap : Nat} {l : List Mem} (h : OwnM false w 0 S (.slice (some ⟨g, 0, none⟩) n cap) (l.map some)) (hn : n = l.length) (hST : ∀ x, S x → T x) (hg : w0.heap.size ≤ g) : Headed (some ⟨g, 0, none⟩) l.length cap g 0 ∧ liesM false w (fun y => T y ∨ (w0.heap.size ≤ y ∧ y < w.heap.size)) l g 0 := by
  have h1 := h.le
  have h2 := h.lt (g := g) rfl
  simp only [List.length_map] at h1
  refine ⟨⟨h1.1, h1.2, .inr rfl, fun h => by cases h⟩, liesM_mk fun j hj => ?_⟩
  obtain ⟨cs, r1, r2⟩ := h.at (by simp [hn]) j (by simpa using hj)
  rw [List.getElem_map] at r2
  obtain ⟨cs', rfl, hk, r3⟩ := r2
  exact ⟨.inr ⟨hg, h2.2⟩, hk, cs', r1, V.lies_keep (fun h => h) (fun _ _ => rfl) (fun b hb => .inl (hST b hb)) _ r3⟩
end Go.Proofs.YtihcggepeadklaaGreatDoor
/- Good values of few levels: sorted members, and that they are taken. -/
namespace Go.Proofs.YtihcggepeadklaaGreatDoor
open Go.RowKit Go.Lib
theorem u8_tri (x y : UInt8) (h1 : ¬ x < y) (h2 : ¬ y < x) : x = y := by
  rcases Nat.lt_trichotomy x.toNat y.toNat with h | h | h
  · exact absurd h h1
  · exact UInt8.toNat_inj.1 h
  · exact absurd h h2
theorem cmp_anti : ∀ a b : List UInt8, compareBytes b a = - compareBytes a b
  | [], [] => by simp [compareBytes]
  | [], _ :: _ => by simp [compareBytes]
  | _ :: _, [] => by simp [compareBytes]
  | x :: t, y :: u => by
    have ih := cmp_anti t u
    rw [compareBytes, compareBytes]
    by_cases h1 : x < y
    · have h2 : ¬ y < x := fun h => Nat.lt_asymm h1 h
      rw [if_neg h2, if_pos h1, if_pos h1]; rfl
    · by_cases h2 : y < x
      · rw [if_pos h2, if_neg h1, if_pos h2]
      · rw [if_neg h2, if_neg h1, if_neg h1, if_neg h2, ih]
theorem cmp_trans : ∀ a b c : List UInt8, compareBytes a b = -1 → compareBytes b c = -1 → compareBytes a c = -1
  | [], [], c, h, _ => by simp [compareBytes] at h
  | [], _ :: _, [], _, h => by simp [compareBytes] at h
  | [], _ :: _, _ :: _, _, _ => by simp [compareBytes]
  | _ :: _, [], c, h, _ => by simp [compareBytes] at h
  | _ :: _, _ :: _, [], _, h => by simp [compareBytes] at h
  | x :: t, y :: u, z :: v, h, h' => by
    rw [compareBytes] at h h' ⊢
    by_cases h1 : x < y
    · by_cases h2 : y < z
      · rw [if_pos (show x < z from Nat.lt_trans h1 h2)]
      · rw [if_neg h2] at h'
        by_cases h3 : z < y
        · rw [if_pos h3] at h'; simp at h'
        · rw [← u8_tri y z h2 h3, if_pos h1]
    · rw [if_neg h1] at h
      by_cases h3 : y < x
      · rw [if_pos h3] at h; simp at h
      · rw [if_neg h3] at h
        have e := u8_tri x y h1 h3
        subst e
        by_cases h2 : x < z
        · rw [if_pos h2]
        · rw [if_neg h2] at h' ⊢
          by_cases h4 : z < x
          · rw [if_pos h4] at h'; simp at h'
          · rw [if_neg h4] at h' ⊢
            exact cmp_trans t u v h h'
end Go.Proofs.YtihcggepeadklaaGreatDoor
