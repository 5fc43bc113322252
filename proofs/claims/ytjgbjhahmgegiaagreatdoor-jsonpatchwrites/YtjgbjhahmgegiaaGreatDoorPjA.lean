import Derived.Test.YtjgbjhahmgegiaaGreatDoorG9
import Derived.Maps.Own
import Derived.Maps.Views
import Derived.StringKeys
/- jsonpatch.operations: the book of operations, and what it says of a word. -/
set_option linter.unusedSimpArgs false
set_option linter.unusedVariables false
set_option maxRecDepth 100000
namespace Go.Proofs.YtjgbjhahmgegiaaGreatDoor
open Go.RowKit Go.Lib Go.Maps
/-- how an operation reads -/
def opE : Value → Option (DataW Unit × List MemPlace)
  | .agg ⟨[.bool f, .bool x, .func (.func n) ⟨[]⟩ ⟨[]⟩]⟩ => some (.agg [.lit (.bool f), .lit (.bool x), .lit (.int .i64 (n : Int))], [])
  | _ => none
def opV (f x : Bool) (n : Nat) : Value := .agg #[.bool f, .bool x, .func (.func n) #[] #[]]
def opL (f x : Bool) (n : Nat) : DataW Unit := .agg [.lit (.bool f), .lit (.bool x), .lit (.int .i64 (n : Int))]
theorem opE_mk (f x : Bool) (n : Nat) : opE (opV f x n) = some (opL f x n, []) := rfl
theorem opE_inv {v : Value} {f x : Bool} {n : Nat} {ps : List MemPlace} (h : opE v = some (opL f x n, ps)) : v = opV f x n := by
  unfold opE at h
  split at h
  · rename_i f' x' n'
    simp only [opL, Option.some.injEq, Prod.mk.injEq, DataW.agg.injEq, List.cons.injEq, DataW.lit.injEq, Lit.bool.injEq, Lit.int.injEq, true_and, and_true] at h
    obtain ⟨⟨rfl, rfl, hn⟩, _⟩ := h
    obtain rfl : n' = n := Int.ofNat.inj hn
    rfl
  · cases h
abbrev sAdd : ByteArray := ⟨#[97, 100, 100]⟩
abbrev sRem : ByteArray := ⟨#[114, 101, 109, 111, 118, 101]⟩
abbrev sRep : ByteArray := ⟨#[114, 101, 112, 108, 97, 99, 101]⟩
abbrev sMov : ByteArray := ⟨#[109, 111, 118, 101]⟩
abbrev sCop : ByteArray := ⟨#[99, 111, 112, 121]⟩
abbrev sTst : ByteArray := ⟨#[116, 101, 115, 116]⟩
def opD : DataW Unit := (((((((DataW.map []).put (.string sAdd.data.toList) (opL false true 33)).put (.string sRem.data.toList) (opL false false 34)).put (.string sRep.data.toList) (opL false true 35)).put (.string sMov.data.toList) (opL true false 36)).put (.string sCop.data.toList) (opL true false 37)).put (.string sTst.data.toList) (opL false true 38))
/-- the book of operations -/
def OpM (w : World) (b : Nat) : Prop := w.ownsMap Tryz.prog 9 opE b 6 opD
theorem OpM.below {w w' : World} {b : Nat} (h : OpM w b) (hb : Below w.heap.size w w') : OpM w' b := by
  have hlt := World.ownsMap.lt h
  obtain ⟨es, clock, hk, F, hs, hD⟩ := h
  exact ⟨es, clock, (hb.block b hlt).trans hk, F, hs, hD⟩
theorem keyed9 : Keyed Tryz.prog 9 := string_keyed Tryz.underlying9
theorem key9 (s : ByteArray) (h : s.size ≤ maxLen) : keyOf Tryz.prog 9 (.string s) = some (.string s.data.toList) := Go.WideMaps.keyOf_string_mk Tryz.underlying9 h
set_option maxHeartbeats 4000000 in
theorem operations_any (w : World) : Calls Tryz.prog 20 #[] w fun e w' => ∃ b, e = .returned (.map (some b)) ∧ OpM w' b ∧ Below w.heap.size w w' := by
  have M0 := World.ownsMap_made (H := Unit) w Tryz.prog 9 opE
  have B0 : Below w.heap.size w (w.alloc (.map #[] 0)) := (Below.refl _ _).alloc (Nat.le_refl _) _
  have hmm := @run_makeMap Tryz.prog
  obtain ⟨w1, r1, M1, g1⟩ := M0.update keyed9 Tryz.underlying48 (by simp only [maxLen]; omega) (key9 sAdd (by decide)) (opE_mk false true 33)
  have B1 : Below w.heap.size w w1 := B0.grown g1 B0.size (fun k hk => by have := Option.some.inj hk; omega)
  dsimp only [opV] at r1
  clear M0 g1 B0
  obtain ⟨w2, r2, M2, g2⟩ := M1.update keyed9 Tryz.underlying48 (by simp only [maxLen]; omega) (key9 sRem (by decide)) (opE_mk false false 34)
  have B2 : Below w.heap.size w w2 := B1.grown g2 B1.size (fun k hk => by have := Option.some.inj hk; omega)
  dsimp only [opV] at r2
  clear M1 g2 B1
  obtain ⟨w3, r3, M3, g3⟩ := M2.update keyed9 Tryz.underlying48 (by simp only [maxLen]; omega) (key9 sRep (by decide)) (opE_mk false true 35)
  have B3 : Below w.heap.size w w3 := B2.grown g3 B2.size (fun k hk => by have := Option.some.inj hk; omega)
  dsimp only [opV] at r3
  clear M2 g3 B2
  obtain ⟨w4, r4, M4, g4⟩ := M3.update keyed9 Tryz.underlying48 (by simp only [maxLen]; omega) (key9 sMov (by decide)) (opE_mk true false 36)
  have B4 : Below w.heap.size w w4 := B3.grown g4 B3.size (fun k hk => by have := Option.some.inj hk; omega)
  dsimp only [opV] at r4
  clear M3 g4 B3
  obtain ⟨w5, r5, M5, g5⟩ := M4.update keyed9 Tryz.underlying48 (by simp only [maxLen]; omega) (key9 sCop (by decide)) (opE_mk true false 37)
  have B5 : Below w.heap.size w w5 := B4.grown g5 B4.size (fun k hk => by have := Option.some.inj hk; omega)
  dsimp only [opV] at r5
  clear M4 g5 B4
  obtain ⟨w6, r6, M6, g6⟩ := M5.update keyed9 Tryz.underlying48 (by simp only [maxLen]; omega) (key9 sTst (by decide)) (opE_mk false true 38)
  have B6 : Below w.heap.size w w6 := B5.grown g6 B5.size (fun k hk => by have := Option.some.inj hk; omega)
  dsimp only [opV] at r6
  clear M5 g6 B5
  go_enter Tryz.func20, Tryz.ntmps20
  go_wp2_with fail
  go_ret
  exact ⟨_, rfl, M6, B6⟩
/-- what the book says of a word -/
def opOf (s : ByteArray) : Option (Bool × Bool × Nat) :=
  if s.data.toList = sAdd.data.toList then some (false, true, 33) else if s.data.toList = sRem.data.toList then some (false, false, 34) else if s.data.toList = sRep.data.toList then some (false, true, 35)
  else if s.data.toList = sMov.data.toList then some (true, false, 36) else if s.data.toList = sCop.data.toList then some (true, false, 37) else if s.data.toList = sTst.data.toList then some (false, true, 38) else none
theorem lit_ne {a b : List UInt8} (h : a ≠ b) : Lit.string a ≠ Lit.string b := fun e => h (by injection e)
theorem opD_at (s : ByteArray) (z : DataW Unit) : opD.atKey (.string s.data.toList) z = match opOf s with | some (f, x, n) => opL f x n | none => z := by
  have hM : ∀ (D : DataW Unit) (k : Lit) (d : DataW Unit), IsMap D → IsMap (D.put k d) := fun D k d h => h.put k d
  have i0 : IsMap (DataW.map [] : DataW Unit) := isMap_empty
  have hk : ∀ l, WideAt.IsKeyLit (Lit.string l) := fun _ => trivial
  unfold opD opOf
  generalize s.data.toList = l
  by_cases h5 : l = sTst.data.toList
  · subst h5
    rw [atKey_put_same (hM _ _ _ (hM _ _ _ (hM _ _ _ (hM _ _ _ (hM _ _ _ i0))))) (hk _)]
    rfl
  · rw [atKey_put_other (lit_ne h5)]
    by_cases h4 : l = sCop.data.toList
    · subst h4
      rw [atKey_put_same (hM _ _ _ (hM _ _ _ (hM _ _ _ (hM _ _ _ i0)))) (hk _)]
      rfl
    · rw [atKey_put_other (lit_ne h4)]
      by_cases h3 : l = sMov.data.toList
      · subst h3
        rw [atKey_put_same (hM _ _ _ (hM _ _ _ (hM _ _ _ i0))) (hk _)]
        rfl
      · rw [atKey_put_other (lit_ne h3)]
        by_cases h2 : l = sRep.data.toList
        · subst h2
          rw [atKey_put_same (hM _ _ _ (hM _ _ _ i0)) (hk _)]
          rfl
        · rw [atKey_put_other (lit_ne h2)]
          by_cases h1 : l = sRem.data.toList
          · subst h1
            rw [atKey_put_same (hM _ _ _ i0) (hk _)]
            rfl
          · rw [atKey_put_other (lit_ne h1)]
            by_cases h0 : l = sAdd.data.toList
            · subst h0
              rw [atKey_put_same i0 (hk _)]
              rfl
            · rw [atKey_put_other (lit_ne h0)]
              rw [if_neg h0, if_neg h1, if_neg h2, if_neg h3, if_neg h4, if_neg h5]
              rfl
theorem zero63 (w : World) : (zeroValue 63).run Tryz.prog w = .ok (.agg #[.bool false, .bool false, .nilFunc]) w := by
  exact Tryz.zeroValue63 w
/-- op, known := ops[s] -/
theorem look_any {w : World} {b : Nat} (h : OpM w b) (s : ByteArray) (hs : s.size ≤ maxLen) : (Instr.lookup 48 (.map (some b)) (.string s) true).run Tryz.prog w = .ok (match opOf s with | some (f, x, n) => .tuple #[opV f x n, .bool true] | none => .tuple #[.agg #[.bool false, .bool false, .nilFunc], .bool false]) w := by
  obtain ⟨es, clock, hb, F, _, hD⟩ := h
  rcases fit_look true keyed9 Tryz.underlying48 (zero63 w) hb F (key9 s hs) with ⟨hrun, _, hat⟩ | ⟨e0, y, _, _, hrun, hRv, hat, _⟩
  · have hn : opOf s = none := by
      cases ho : opOf s with
      | none => rfl
      | some r =>
        obtain ⟨f, x, n⟩ := r
        have e := hat (.lit (.bool true))
        rw [← hD, opD_at, ho] at e
        cases e
    rw [hrun, hn]
    rfl
  · cases ho : opOf s with
    | none =>
      have e := hat (.lit (.bool true))
      have e' := hat (.lit (.bool false))
      rw [← hD, opD_at, ho] at e e'
      rw [← e'] at e
      cases e
    | some r =>
      obtain ⟨f, x, n⟩ := r
      have e := hat (.lit (.bool true))
      rw [← hD, opD_at, ho] at e
      obtain ⟨y1, y2⟩ := y
      dsimp only at e
      subst e
      rw [hrun, opE_inv hRv]
      rfl
end Go.Proofs.YtjgbjhahmgegiaaGreatDoor
