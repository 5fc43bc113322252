import Derived.Test.YtgnofbigggmilaaGreatDoorPtrC
import Derived.Laws.AppendOwn
import Derived.Laws.AppendOwnNone
/- Lists of strings: one appended to none, two that are the same. -/
set_option linter.unusedSimpArgs false
set_option linter.unusedVariables false
namespace Go.Proofs.YtgnofbigggmilaaGreatDoor
open Go.RowKit Go.Lib
def strs (l : List ByteArray) : List Value := l.map Value.string
/-- a row of strings of the call's own -/
def OwnS (B : Nat) (v : Value) (l : List ByteArray) (w : World) : Prop := w.ownsRow B 9 1 v l.length (strs l)
theorem info9 : (Tryz.prog.info? 9).map (fun i => (i.zero, i.size, i.bytes)) = some (some (.string ⟨#[]⟩), 1, 16) := by kernel_rfl
theorem OwnS.lies {B : Nat} {v : Value} {l : List ByteArray} {w : World} (h : OwnS B v l w) : LiesS w v l := by
  have h' := h
  rcases h.2 with ⟨rfl, e⟩ | ⟨g, cap, cur, rfl, _, _, hle, _⟩
  · exact ⟨⟨none, 0, by rw [e]⟩, fun h0 => by omega⟩
  · refine ⟨⟨_, _, rfl⟩, fun h0 => ⟨g, 0, cap, rfl, hle, (World.ownsRow.lt h' g rfl).2, fun j hj => ?_⟩⟩
    have := World.ownsRow.cells h' (g := g) rfl j (.string l[j]) (by simp [strs, hj])
    rw [Go.WideShapes.add_plain] at this
    simpa using this
theorem dat_inj : ∀ {a b : List ByteArray}, dat a = dat b → a = b
  | [], [], _ => rfl
  | [], _ :: _, h => by simp [dat] at h
  | _ :: _, [], h => by simp [dat] at h
  | ⟨⟨x⟩⟩ :: t, ⟨⟨y⟩⟩ :: u, h => by
    simp only [dat, List.map_cons, List.cons.injEq] at h
    rw [dat_inj (a := t) (b := u) h.2]
    have h1 : x = y := h.1
    rw [h1]
set_option maxRecDepth 100000 in
theorem wpl_given {ops : Array Oper} {rest : List Oper} {o : Oper} {a : Act} {Q : Exit → Act → World → Prop} (w : World) (hgd : o.guard = none) (s x : Operand)
    (ho : o.op = .call { callee := .builtin .append, args := #[s, x], argTypes := #[42, 42] }) (v : Value) (l : List ByteArray) (hs : a.eval s = .slice none 0 0) (hx : a.eval x = v) (hv : LiesS w v l)
    (hnil : (∃ ad c, v = .slice (some ad) l.length c) ∨ v = .slice none 0 0) (hlen : l.length ≤ 4000000)
    (h : ∀ v' w', OwnS w.heap.size v' l w' → Below w.heap.size w w' → wpList Tryz.prog ops Q rest (a.put o.dst v') w') : wpList Tryz.prog ops Q (o :: rest) a w := by
  obtain ⟨i0, hi, hz0, hz1, hz2⟩ := info_parts info9
  rcases hnil with ⟨ad, c, rfl⟩ | rfl
  · have hnews : ∀ j u, (strs l)[j]? = some u → w.cell? (ad.add j) = some u := fun j u hu => by
      rw [strs, List.getElem?_map] at hu
      obtain ⟨y, hy, rfl⟩ := Option.map_eq_some_iff.1 hu
      obtain ⟨hj, rfl⟩ := List.getElem?_eq_some_iff.1 hy
      obtain ⟨g', o2, c', e, _, _, hc⟩ := hv.2 (by omega)
      cases e
      rw [Go.WideShapes.add_plain]
      exact hc j hj
    refine wpList_append_own w hgd s x 42 ho w.heap.size 9 i0 (.string ⟨#[]⟩) 1 16 Tryz.underlying42 hi hz0 hz1 hz2 rfl (by decide) (.slice none 0 0) 0 [] hs (World.ownsRow_nil w _ 9 1) ad l.length c (strs l) hx
      (by simp [strs]) hnews (fun u hu => by obtain ⟨y, _, rfl⟩ := List.mem_map.1 hu; rfl) (by unfold maxLen; omega) (by omega) (Nat.le_refl _) ?_
    intro v' w' h1 h2 _
    refine h v' w' ?_ ((Below.refl _ w).grown h2 (Nat.le_refl _) (fun k hk => by simp [Value.ownBlock] at hk))
    rw [Nat.zero_add, List.nil_append] at h1
    exact h1
  · have hl0 : l = [] := by
      obtain ⟨a', c', e⟩ := hv.1
      injection e with _ e2 _
      exact List.length_eq_zero_iff.1 e2.symm
    subst hl0
    refine wpList_append_own_none (w := w) hgd s x 42 ho w.heap.size 9 i0 1 Tryz.underlying42 hi (.slice none 0 0) 0 [] hs (World.ownsRow_nil w _ 9 1) hx ?_
    exact h _ _ (World.ownsRow_nil w _ 9 1) (Below.refl _ _)
set_option maxHeartbeats 1000000 in
set_option maxRecDepth 100000 in
theorem sames_any (l : List ByteArray) (u v : Value) (w : World) (hu : LiesS w u l) (hv : LiesS w v l) (hl : l.length ≤ 4000000) : Calls Tryz.prog 32 #[u, v] w (BPost true w) := by
  obtain ⟨⟨a, c, rfl⟩, ha⟩ := hu
  obtain ⟨⟨a', c', rfl⟩, ha'⟩ := hv
  go_enter Tryz.func32, Tryz.ntmps32
  go_wp2_with fail
  go_loopw [5] (fun e wr => ∃ j : Nat, j ≤ l.length ∧ e = .int .i64 (j : Int) ∧ Below w.heap.size w wr) (fun e _ => l.length - (RowKit.intOf e).toNat)
  case atStart => exact ⟨0, by omega, rfl, Below.refl _ _⟩
  case round =>
    obtain ⟨j, hj, rfl, bj⟩ := hrel
    have hzr := bj.size
    by_cases hjl : j < l.length
    · have y1 : (j : Int) < l.length := by omega
      obtain ⟨g, o, d, e1, _, hg, hc⟩ := ha (by omega)
      obtain ⟨g', o', d', e2, _, hg', hc'⟩ := ha' (by omega)
      cases e1
      cases e2
      have c1 : wr.cell? ⟨g, o + j, none⟩ = some (.string l[j]) := (bj.cell (p := ⟨g, o + j, none⟩) hg).trans (hc j hjl)
      have c2 : wr.cell? ⟨g', o' + j, none⟩ = some (.string l[j]) := (bj.cell (p := ⟨g', o' + j, none⟩) hg').trans (hc' j hjl)
      generalize l[j] = z at *
      have yz : (z.toList != z.toList) = false := by simp
      clear hc hc' ha ha'
      go_wp2_with fail
      go_quiet (fail)
      go_wp2_with fail
      go_roundw
      case rel => exact ⟨j + 1, by omega, by go_num, bj.trans (below_drewN _ _ _)⟩
      case measure => simp [RowKit.intOf]; omega
    · obtain rfl : j = l.length := by omega
      have y1 : ¬ (l.length : Int) < l.length := by omega
      go_wp2_with fail
      go_ret
      exact ⟨rfl, bj⟩
end Go.Proofs.YtgnofbigggmilaaGreatDoor
