/- joined: GdP FauA GodA ClrA SamA GodC GodD -/
import Derived.Test.YtmmlejbebfkojaaDoorG18
/- Good values of few levels: sorted members, and that they are taken. -/
set_option linter.unusedSimpArgs false
set_option linter.unusedVariables false
namespace Go.Proofs.YtmmlejbebfkojaaDoor
open Go.RowKit Go.Lib
theorem u8_tri (x y : UInt8) (h1 : ¬ x < y) (h2 : ¬ y < x) : x = y := by
  rcases Nat.lt_trichotomy x.toNat y.toNat with h | h | h
  · exact absurd h h1
  · exact UInt8.toNat_inj.1 h
  · exact absurd h h2
theorem cmp_trans : ∀ a b c : List UInt8, compareBytes a b = -1 → compareBytes b c = -1 → compareBytes a c = -1
  | [], [], c, h, _ => by simp [compareBytes] at h
  | [], _ :: _, [], _, h => by simp [compareBytes] at h
  | [], _ :: _, _ :: _, _, _ => by simp [compareBytes]
  | _ :: _, [], c, h, _ => by simp [compareBytes] at h
  | _ :: _, _ :: _, [], _, h => by simp [compareBytes] at h
  | x :: t, y :: u, z :: v, h, h' => by
    rw [compareBytes] at h h' ⊢
    by_cases h1 : x < y
    · by_cases h2 : y < z
      · rw [if_pos (show x < z from Nat.lt_trans h1 h2)]
      · rw [if_neg h2] at h'
        by_cases h3 : z < y
        · rw [if_pos h3] at h'; simp at h'
        · rw [← u8_tri y z h2 h3, if_pos h1]
    · rw [if_neg h1] at h
      by_cases h3 : y < x
      · rw [if_pos h3] at h; simp at h
      · rw [if_neg h3] at h
        have e := u8_tri x y h1 h3
        subst e
        by_cases h2 : x < z
        · rw [if_pos h2]
        · rw [if_neg h2] at h' ⊢
          by_cases h4 : z < x
          · rw [if_pos h4] at h'; simp at h'
          · rw [if_neg h4] at h' ⊢
            exact cmp_trans t u v h h'
theorem ltB_cmp (a b : ByteArray) : ltB a b = true ↔ cmpS a b = -1 := by
  rw [ltB, less_cmp, cmpS, toList_data, toList_data]; simp
theorem ltB_trans {a b c : ByteArray} (h : ltB a b = true) (h' : ltB b c = true) : ltB a c = true := by
  rw [ltB_cmp] at *; exact cmp_trans _ _ _ h h'
def Srt (l : List Mem) : Prop := l.Pairwise (fun a b => ltB a.1 b.1 = true)
theorem srt_filter {key : ByteArray} : ∀ {l : List Mem}, Srt l → l.filter (lessKey key) = l.take (l.filter (lessKey key)).length ∧ ∀ y ∈ l.drop (l.filter (lessKey key)).length, lessKey key y = false
  | [], _ => by simp
  | x :: t, h => by
    have h0 : Srt t := (List.pairwise_cons.1 h).2
    have h1 := (List.pairwise_cons.1 h).1
    have ih := srt_filter (key := key) h0
    cases hx : lessKey key x
    · have hall : t.filter (lessKey key) = [] := by
        rw [List.filter_eq_nil_iff]
        intro y hy hl
        have : lessKey key x = true := ltB_trans (h1 y hy) hl
        rw [this] at hx; cases hx
      rw [List.filter_cons_of_neg (by simp [hx]), hall]
      refine ⟨by simp, fun y hy => ?_⟩
      rw [List.length_nil, List.drop_zero] at hy
      rcases List.mem_cons.1 hy with rfl | hy
      · exact hx
      · have := List.filter_eq_nil_iff.1 hall y hy
        simpa using this
    · rw [List.filter_cons_of_pos hx, List.length_cons, List.take_succ_cons, List.drop_succ_cons]
      exact ⟨by rw [← ih.1], ih.2⟩
end Go.Proofs.YtmmlejbebfkojaaDoor
/- faulty: some value. -/
namespace Go.Proofs.YtmmlejbebfkojaaDoor
open Go.RowKit
theorem headed_nil : Headed none ([] : List V).length 0 0 0 := ⟨Nat.le_refl _, by simp [maxLen], .inl rfl, fun _ => rfl⟩
end Go.Proofs.YtmmlejbebfkojaaDoor
/- good: some good value; the kinds without members. -/
namespace Go.Proofs.YtmmlejbebfkojaaDoor
open Go.RowKit
def New (w w' : World) (x : Nat) : Prop := w.heap.size ≤ x ∧ x < w'.heap.size
theorem lies_S {W : World} {S : Nat → Prop} {k i : Int} {b : Bool} {s : ByteArray} {l : List V} {m : List Mem} {al am : Option Addr} {cl bl ol cm bm om nl nm : Nat} (hk : In64 k) (hi : In64 i) (hs : s.size ≤ maxLen) (hal : Headed al nl cl bl ol) (ham : Headed am nm cm bm om) (hl : liesL false W S l bl ol) (hm : liesM false W S m bm om) (e1 : nl = l.length := by rfl) (e2 : nm = m.length := by rfl) :
    (V.mk k b i s l m).lies false W S [.int .i64 k, .bool b, .int .i64 i, .string s, .slice al nl cl, .slice am nm cm] := by
  subst e1 e2
  rw [V.lies]
  exact ⟨al, cl, bl, ol, am, cm, bm, om, rfl, hk, hi, hs, hal, ham, hl, hm, fun h => by cases h⟩
end Go.Proofs.YtmmlejbebfkojaaDoor
/- freeholdlaw02.cleared; a value against itself. -/
namespace Go.Proofs.YtmmlejbebfkojaaDoor
open Go.RowKit Go.Lib
theorem two_below (w : World) (o o' : Obj) : Below w.heap.size w ((w.alloc o).alloc o') := ((Below.refl _ _).alloc (Nat.le_refl _) _).alloc (by rw [alloc_size]; omega) _
end Go.Proofs.YtmmlejbebfkojaaDoor
/- same. -/
namespace Go.Proofs.YtmmlejbebfkojaaDoor
open Go.RowKit
theorem two_belowS (w : World) (o o' : Obj) : Below w.heap.size w ((w.alloc o).alloc o') := ((Below.refl w.heap.size w).alloc (Nat.le_refl _) _).alloc (by rw [alloc_size]; omega) _
end Go.Proofs.YtmmlejbebfkojaaDoor
/- good: some good value; a list. -/
namespace Go.Proofs.YtmmlejbebfkojaaDoor
open Go.RowKit
theorem OwnL.set6 {w : World} {base M : Nat} {S : Nat → Prop} {v : Value} {l : List (Option V)} (h : OwnL false w base S v l) (hM : M < base) (i1 i2 i3 i4 i5 i6 : Nat) (u1 u2 u3 u4 u5 u6 : Value) :
    OwnL false ((((((w.setCell ⟨M, i1, none⟩ u1).setCell ⟨M, i2, none⟩ u2).setCell ⟨M, i3, none⟩ u3).setCell ⟨M, i4, none⟩ u4).setCell ⟨M, i5, none⟩ u5).setCell ⟨M, i6, none⟩ u6) base S v l :=
  (((((h.set (keepL false) hM i1 u1).set (keepL false) hM i2 u2).set (keepL false) hM i3 u3).set (keepL false) hM i4 u4).set (keepL false) hM i5 u5).set (keepL false) hM i6 u6
theorem Below.set6 {B M : Nat} {a w : World} (h : Below B a w) (hM : B ≤ M) (i1 i2 i3 i4 i5 i6 : Nat) (u1 u2 u3 u4 u5 u6 : Value) :
    Below B a ((((((w.setCell ⟨M, i1, none⟩ u1).setCell ⟨M, i2, none⟩ u2).setCell ⟨M, i3, none⟩ u3).setCell ⟨M, i4, none⟩ u4).setCell ⟨M, i5, none⟩ u5).setCell ⟨M, i6, none⟩ u6) := by
  repeat (refine Below.setCell ?_ (by assumption) _)
  exact h
end Go.Proofs.YtmmlejbebfkojaaDoor
/- good: some good value; a map. -/
namespace Go.Proofs.YtmmlejbebfkojaaDoor
open Go.RowKit
theorem cell_set_ne {W : World} {B b o i : Nat} (h : b ≠ B) (v : Value) : (W.setCell ⟨B, i, none⟩ v).cell? ⟨b, o, none⟩ = W.cell? ⟨b, o, none⟩ := World.cell?_setCell_far W ⟨B, i, none⟩ ⟨b, o, none⟩ v (fun e => h e.symm)
def From (B : Nat) (w : World) (x : Nat) : Prop := B ≤ x ∧ x < w.heap.size
theorem size_set1 (w : World) (M i : Nat) (u : Value) : (w.setCell ⟨M, i, none⟩ u).heap.size = w.heap.size := by
  simp [World.setCell]
theorem liesM_set {w : World} {B M : Nat} {l : List Mem} {b o : Nat} (h : liesM false w (From B w) l b o) (hM : M < B) (i : Nat) (u : Value) : liesM false (w.setCell ⟨M, i, none⟩ u) (From B (w.setCell ⟨M, i, none⟩ u)) l b o :=
  liesM_keep (fun h => h) (fun x hx => (grown_set1 w M i u).block x hx.2 (fun e => by have := Option.some.inj e; have := hx.1; omega)) (fun x hx => ⟨hx.1, by rw [size_set1]; exact hx.2⟩) l h
theorem liesM_set6 {w : World} {B M : Nat} {l : List Mem} {b o : Nat} (h : liesM false w (From B w) l b o) (hM : M < B) (i1 i2 i3 i4 i5 i6 : Nat) (u1 u2 u3 u4 u5 u6 : Value) :
    liesM false ((((((w.setCell ⟨M, i1, none⟩ u1).setCell ⟨M, i2, none⟩ u2).setCell ⟨M, i3, none⟩ u3).setCell ⟨M, i4, none⟩ u4).setCell ⟨M, i5, none⟩ u5).setCell ⟨M, i6, none⟩ u6) (From B ((((((w.setCell ⟨M, i1, none⟩ u1).setCell ⟨M, i2, none⟩ u2).setCell ⟨M, i3, none⟩ u3).setCell ⟨M, i4, none⟩ u4).setCell ⟨M, i5, none⟩ u5).setCell ⟨M, i6, none⟩ u6)) l b o :=
  liesM_set (liesM_set (liesM_set (liesM_set (liesM_set (liesM_set h hM i1 u1) hM i2 u2) hM i3 u3) hM i4 u4) hM i5 u5) hM i6 u6
end Go.Proofs.YtmmlejbebfkojaaDoor
