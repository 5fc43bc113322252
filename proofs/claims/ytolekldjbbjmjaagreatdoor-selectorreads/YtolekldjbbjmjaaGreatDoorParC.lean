import Derived.Test.YtolekldjbbjmjaaGreatDoorParB
/- the selector's reader: take, word. -/
set_option linter.unusedSimpArgs false
set_option linter.unusedVariables false
namespace Go.Proofs.YtolekldjbbjmjaaGreatDoor
open Go.RowKit Go.Lib
/-- do these bytes stand at a place? -/
def tkB (l : List UInt8) (k : Nat) (p : List UInt8) : Bool := hasPrefix (l.drop k) p
theorem tkB_le {l : List UInt8} {k : Nat} {p : List UInt8} (h : tkB l k p = true) (h0 : 0 < p.length) : k + p.length ≤ l.length := by
  unfold tkB hasPrefix at h
  have := (List.isPrefixOf_iff_prefix.1 h).length_le
  rw [List.length_drop] at this
  omega
/-- behind a sign -/
def tkN (l : List UInt8) (k : Nat) (p : List UInt8) : Nat := if tkB l k p = true then skp l (k + p.length) else k
def TkPost (l : List UInt8) (k : Nat) (pl : List UInt8) (g : Nat) (s : ByteArray) (w : World) (e : Ending) (w' : World) : Prop :=
  (tkB l k pl = true ∧ e = .returned (.bool true) ∧ RdP g s w w' (skp l (k + pl.length))) ∨ (tkB l k pl = false ∧ e = .returned (.bool false) ∧ RdP g s w w' k)
set_option maxHeartbeats 4000000 in
set_option maxRecDepth 100000 in
theorem ptk (g : Nat) (s p : ByteArray) (k : Nat) (pl : List UInt8) (w : World) (h : PB g s k w) (hs : s.size ≤ 140737488355000) (hk : k ≤ s.size) (hp : p.data.toList = pl) (h0 : 0 < pl.length) (h1 : pl.length ≤ 100) :
    Calls Tryz.prog 57 #[.pointer (some ⟨g, 0, none⟩), .string p] w (TkPost s.data.toList k pl g s w) := by
  have hll : s.data.toList.length = s.size := by simp
  have hpn : p.size = pl.length := by rw [← hp]; simp
  have CR : Hid (Calls Tryz.prog 55 #[.pointer (some ⟨g, 0, none⟩)] w fun e w' => e = .returned (.string (s.extract k s.size)) ∧ RdP g s w w' k) := by
    refine (rest_any g s k w h hk).mono ?_
    rintro e w' ⟨rfl, q, rfl⟩
    exact ⟨rfl, hk, h.drewN _, grown_drewN (World.grownBy.refl _ _) _⟩
  have CP : Hid (∀ W, Calls Tryz.prog 75 #[.string (s.extract k s.size), .string p] W fun e w' => e = .returned (.bool (tkB s.data.toList k pl)) ∧ w' = W) := fun W => by
    have := pre_any (s.extract k s.size) p W
    rw [ext_list s k, hp] at this
    exact this
  cases hT : tkB s.data.toList k pl with
  | true =>
    have hle := tkB_le hT h0
    rw [hT] at CP
    have CN : Hid (∀ W, RdP g s w W k → Calls Tryz.prog 54 #[.pointer (some ⟨g, 0, none⟩), .int .i64 (pl.length : Int)] W (PsPost g s (k + pl.length) W)) := fun W r => pass_any g s k pl.length W r.pb hs (by omega)
    have HT := hmk hT
    clear h hT
    go_enter Tryz.func57, Tryz.ntmps57
    go_wp2_with fail
    refine CR.out.mono ?_
    rintro e w1 ⟨rfl, r1⟩
    go_wp2_with (go_at_call 75; refine (CP.out _).mono ?_; rintro e w2 ⟨rfl, rfl⟩)
    refine (CN.out _ r1).mono ?_
    rintro e w3 ⟨rfl, r3⟩
    go_wp2_with fail
    go_ret
    exact .inl ⟨HT.out, rfl, r1.trans r3⟩
  | false =>
    rw [hT] at CP
    have HT := hmk hT
    clear h hT
    go_enter Tryz.func57, Tryz.ntmps57
    go_wp2_with fail
    refine CR.out.mono ?_
    rintro e w1 ⟨rfl, r1⟩
    go_wp2_with (go_at_call 75; refine (CP.out _).mono ?_; rintro e w2 ⟨rfl, rfl⟩)
    go_ret
    exact .inr ⟨HT.out, rfl, r1⟩
end Go.Proofs.YtolekldjbbjmjaaGreatDoor
