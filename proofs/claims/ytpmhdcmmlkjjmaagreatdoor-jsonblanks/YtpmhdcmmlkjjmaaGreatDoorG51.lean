/- joined: RowX JmK JnC -/
import Derived.Test.YtpmhdcmmlkjjmaaGreatDoorJoF
/- integers opened and given back. -/
set_option linter.unusedSimpArgs false
set_option linter.unusedVariables false
set_option maxRecDepth 100000
namespace Go.Proofs.YtpmhdcmmlkjjmaaGreatDoor
open Go.Shelf Go.Lib Go.ChangeShapes Go.RowKit
section
variable {H : Type} {enc : TypeId × Value → H}
theorem cellsI3 : Tryz.prog.cellsOf 3 = 1 := by kernel_rfl
theorem open41 {W : World} {spare : Nat → Bool} {held : Bool} {v : Value} {d : DataW H} {p : List MemPlace} (hsl : ∃ a n c, v = .slice a n c) (h : DataW.Trod enc Tryz.prog W 0 spare held 41 v d p) :
    ∃ l : List Int, Ints W v l ∧ (l = [] ∨ ∃ es rs, d = .slice es rs ∧ es.length = l.length) := by
  obtain ⟨n, hn⟩ := h
  obtain ⟨a0, n0, c0, rfl⟩ := hsl
  rcases DataW.trod_slice Tryz.underlying41 hn with ⟨e, e2⟩ | ⟨a, len, cap, elems, rest, n', hn', e, e2, _, hlc, hcm, hlen, hel, _⟩
  · have hvv : (Value.slice a0 n0 c0) = .slice none 0 0 := by simpa [Value.cells] using e
    rw [hvv]
    exact ⟨[], ⟨none, 0, 0, 0, rfl, headed_nil, fun j hj => by simp at hj⟩, .inl rfl⟩
  · have hvv : (Value.slice a0 n0 c0) = .slice (some a) len cap := by simpa [Value.cells] using e
    rw [hvv]
    rw [cellsI3] at hel
    have hd : d = .slice (elems.map (·.1)) (rest.map (·.1)) := congrArg Prod.fst e2
    obtain ⟨l, b, o, hl, hab, hq⟩ := elems_at (w := W) (a := a) (len := len) (k := 1) (Q := fun (x : Int) cs => cs = [.int .i64 x] ∧ In64 x) (by decide) (fun i hi => by
      have he := hel i hi
      rw [List.getElem?_eq_getElem (by omega)] at he
      obtain ⟨cs, h1, h2⟩ := Option.bind_eq_some_iff.1 he
      obtain ⟨z, rfl, _, hw⟩ := DataW.trod_int Tryz.underlying3 h2
      exact ⟨_, z, h1, rfl, in64_of hw⟩)
    subst hl
    refine ⟨l, ⟨some a, cap, b, o, rfl, ⟨hlc, hcm, hab.elim .inl (fun e => .inr (by rw [e])), fun h => by cases h⟩, fun j hj => ?_⟩, .inr ⟨_, _, hd, by rw [List.length_map, hlen]⟩⟩
    obtain ⟨hb, cs, hr, rfl, hin⟩ := hq j hj
    refine ⟨hb, ?_, hin⟩
    have := hr 0 _ rfl
    simpa using this
theorem back41 {W W' : World} {v : Value} {d : DataW H} {p : List MemPlace} (h : DataW.Trod enc Tryz.prog W 0 (fun _ => true) true 41 v d p) (hlt : ∀ x ∈ p, x.block < W.heap.size) (hb : Below W.heap.size W W') :
    DataW.Trod enc Tryz.prog W' 0 (fun b => decide (b < W.heap.size)) true 41 v d p :=
  WideElems.Trod_stays (P := Tryz.prog) laidOut' (by kernel_rfl) (of_decide_eq_true (by kernel_rfl)) h (fun x hx => below_same hb (hlt x hx)) (fun x hx => by simpa using hlt x hx)
end
end Go.Proofs.YtpmhdcmmlkjjmaaGreatDoor
/- JsonBack: the law's walk. -/
set_option maxRecDepth 100000
namespace Go.Proofs.YtpmhdcmmlkjjmaaGreatDoor
open Go.RowKit Go.Lib
theorem pr_zero {v : V} {z : Int} (h : (prF v z).1 = 0) : 0 ≤ z ∧ z ≤ 40 ∧ chkE v z = 0 ∧ (txtV v).length ≤ 1048576 ∧ prF v z = (0, txtV v) := by
  unfold prF at h
  split at h
  · rename_i h1; exact absurd h h1
  · rename_i h1
    have h1 : chkE v z = 0 := by simpa using h1
    split at h
    · simp at h
    · rename_i h2
      have hz : ¬ (z < 0 ∨ 40 < z) := fun q => by rw [chkE, if_pos q] at h1; cases h1
      refine ⟨by omega, by omega, h1, by omega, ?_⟩
      rw [prF, if_neg (by simp [h1]), if_neg h2]
theorem pr_not {v : V} {z : Int} (h : ¬ (prF v z).1 = 0) : (prF v z).2 = [] ∧ (chkE v z = (prF v z).1 ∨ (chkE v z = 0 ∧ (prF v z).1 = 30)) := by
  unfold prF at h ⊢
  split
  · exact ⟨rfl, .inl rfl⟩
  · rename_i h1
    rw [if_neg h1] at h
    have h1 : chkE v z = 0 := by simpa using h1
    split
    · exact ⟨rfl, .inr ⟨h1, rfl⟩⟩
    · rename_i h2; rw [if_neg h2] at h; exact absurd rfl h
end Go.Proofs.YtpmhdcmmlkjjmaaGreatDoor
/- JsonRows: the law's walk. -/
set_option maxRecDepth 100000
namespace Go.Proofs.YtpmhdcmmlkjjmaaGreatDoor
open Go.RowKit Go.Lib
/-- two rows of the call's own, and a third that is read alone -/
structure Thr (B : Nat) (x y : Value) (l m : List UInt8) (C : Nat) (z : Value) (t : List UInt8) (w : World) : Prop where
  two : Two B x y l m w
  c : OwnB C z t w
  nx : ∀ g, x.ownBlock = some g → z.ownBlock ≠ some g
  ny : ∀ g, y.ownBlock = some g → z.ownBlock ≠ some g
theorem Thr.below {B C : Nat} {x y z : Value} {l m t : List UInt8} {w w' : World} (T : Thr B x y l m C z t w) (hb : Below w.heap.size w w') : Thr B x y l m C z t w' := ⟨T.two.below hb, T.c.below hb, T.nx, T.ny⟩
theorem pr_back {v : V} (hi : inV v) (h : (prF v 32).1 = 0) : prF v 32 = (0, txtV v) ∧ (txtV v).length ≤ 1048576 ∧ parJ (txtV v) 32 = (v, -1, 0) := by
  obtain ⟨h0, h1, hc, hl, hp⟩ := pr_zero h
  rw [chkE, if_neg (by omega)] at hc
  obtain ⟨ok, _, _, _, hn⟩ := chk_inv (32 : Int).toNat v 0 (0, 0, 0) hi hc
  exact ⟨hp, hl, par_back (by omega) (by omega) ok (by dsimp only at hn; omega) hl⟩
end Go.Proofs.YtpmhdcmmlkjjmaaGreatDoor
