/- pointer.escape, Print, Parse; sameStrings. -/
import Derived.Test.YtnffadboflmecaaDoorPtrA
import Derived.BigQuiet
import Derived.Deep.QuietTactic
set_option linter.unusedSimpArgs false
set_option linter.unusedVariables false
namespace Go.Proofs.YtnffadboflmecaaDoor
open Go.RowKit Go.Lib

theorem repl_len (c : UInt8) (new : List UInt8) (hn : new.length ≤ 2) : ∀ s : List UInt8, (repl c new s).length ≤ 2 * s.length
  | [] => by simp [repl]
  | x :: t => by
    have ih := repl_len c new hn t
    have e : repl c new (x :: t) = (if x = c then new else [x]) ++ repl c new t := by simp only [repl, List.flatMap_cons]
    rw [e, List.length_append, List.length_cons]
    split
    · omega
    · simp only [List.length_cons, List.length_nil]; omega
set_option maxHeartbeats 1000000 in
set_option maxRecDepth 100000 in
theorem escape_any (s : ByteArray) (w : World) (hs : s.size ≤ 1500000) (tp : Tp w) : Calls Tryd.prog 15 #[.string s] w fun e w' => e = .returned (.string ⟨(esp s.data.toList).toArray⟩) ∧ Below w.heap.size w w' := by
  have C1 := hmk (repl_any s 126 ⟨#[126, 48]⟩ w (by omega) (by decide) (by rfl) tp.m)
  have hl := repl_len 126 [126, 48] (by decide) s.data.toList
  rw [toList_size] at hl
  have hq := ba_size (repl 126 [126, 48] s.data.toList)
  have HQ : Hid ((⟨(repl 126 [126, 48] s.data.toList).toArray⟩ : ByteArray).data.toList = repl 126 [126, 48] s.data.toList) := rfl
  have HE : Hid (esp s.data.toList = repl 47 [126, 49] (repl 126 [126, 48] s.data.toList)) := (esp_repl _).symm
  have HT : Hid (∀ W, Below w.heap.size w W → Tp W) := fun W hb => tp.below hb tp.z
  change Hid (Calls Tryd.prog 23 #[.string s, .string ⟨#[126]⟩, .string ⟨#[126, 48]⟩] w fun e w' => e = .returned (.string ⟨(repl 126 [126, 48] s.data.toList).toArray⟩) ∧ Below w.heap.size w w') at C1
  generalize esp s.data.toList = E at *
  generalize repl 126 [126, 48] s.data.toList = K at *
  generalize (⟨K.toArray⟩ : ByteArray) = qk at *
  clear tp
  go_enter Tryd.func15, Tryd.ntmps15
  go_wp2_with fail
  refine C1.out.mono ?_
  rintro e w1 ⟨rfl, b1⟩
  have hz1 := b1.size
  have C2 := hmk (repl_any qk 47 ⟨#[126, 49]⟩ w1 (by omega) (by decide) (by rfl) (HT.out w1 b1).m)
  rw [HQ.out] at C2
  go_wp2_with fail
  refine C2.out.mono ?_
  rintro e w2 ⟨rfl, b2⟩
  go_wp2_with fail
  go_ret
  exact ⟨by rw [HE.out]; rfl, b1.trans (b2.mono hz1)⟩

/-- a list of strings that lies in memory -/
def LiesS (w : World) (v : Value) (l : List ByteArray) : Prop :=
  (∃ a c, v = .slice a l.length c) ∧ (0 < l.length → ∃ g o c, v = .slice (some ⟨g, o, none⟩) l.length c ∧ g < w.heap.size ∧ ∀ j (h : j < l.length), w.cell? ⟨g, o + j, none⟩ = some (.string l[j]))
theorem LiesS.below {w w' : World} {v : Value} {l : List ByteArray} (h : LiesS w v l) (hb : Below w.heap.size w w') : LiesS w' v l :=
  ⟨h.1, fun h0 => by
    obtain ⟨g, o, c, e, hg, hc⟩ := h.2 h0
    exact ⟨g, o, c, e, Nat.lt_of_lt_of_le hg hb.size, fun j hj => (hb.cell (p := ⟨g, o + j, none⟩) hg).trans (hc j hj)⟩⟩
theorem liesS_nil (w : World) : LiesS w (.slice none 0 0) [] := ⟨⟨none, 0, rfl⟩, fun h => by simp at h⟩
theorem below_drewN (B : Nat) (w : World) (n : Nat) : Below B w (w.drewN n) := ⟨rfl, rfl, rfl, Nat.le_refl _, fun _ _ => rfl⟩
def BPost (r : Bool) (w : World) (e : Ending) (w' : World) : Prop := e = .returned (.bool r) ∧ Below w.heap.size w w'

set_option maxHeartbeats 1000000 in
set_option maxRecDepth 100000 in
theorem sames_any (l : List ByteArray) (u v : Value) (w : World) (hu : LiesS w u l) (hv : LiesS w v l) (hl : l.length ≤ 4000000) : Calls Tryd.prog 6 #[u, v] w (BPost true w) := by
  obtain ⟨⟨a, c, rfl⟩, ha⟩ := hu
  obtain ⟨⟨a', c', rfl⟩, ha'⟩ := hv
  go_enter Tryd.func6, Tryd.ntmps6
  go_wp2_with fail
  go_loopw [5] (fun e wr => ∃ j : Nat, j ≤ l.length ∧ e = .int .i64 (j : Int) ∧ Below w.heap.size w wr) (fun e _ => l.length - (RowKit.intOf e).toNat)
  case atStart => exact ⟨0, by omega, rfl, Below.refl _ _⟩
  case round =>
    obtain ⟨j, hj, rfl, bj⟩ := hrel
    have hzr := bj.size
    by_cases hjl : j < l.length
    · have y1 : (j : Int) < l.length := by omega
      obtain ⟨g, o, d, e1, hg, hc⟩ := ha (by omega)
      obtain ⟨g', o', d', e2, hg', hc'⟩ := ha' (by omega)
      cases e1
      cases e2
      have c1 : wr.cell? ⟨g, o + j, none⟩ = some (.string l[j]) := (bj.cell (p := ⟨g, o + j, none⟩) hg).trans (hc j hjl)
      have c2 : wr.cell? ⟨g', o' + j, none⟩ = some (.string l[j]) := (bj.cell (p := ⟨g', o' + j, none⟩) hg').trans (hc' j hjl)
      generalize l[j] = z at *
      have yz : (z.toList != z.toList) = false := by simp
      clear hc hc' ha ha'
      go_wp2_with fail
      go_quiet (fail)
      go_wp2_with fail
      go_roundw
      case rel => exact ⟨j + 1, by omega, by go_num, bj.trans (below_drewN _ _ _)⟩
      case measure => simp [RowKit.intOf]; omega
    · obtain rfl : j = l.length := by omega
      have y1 : ¬ (l.length : Int) < l.length := by omega
      go_wp2_with fail
      go_ret
      exact ⟨rfl, bj⟩
end Go.Proofs.YtnffadboflmecaaDoor
