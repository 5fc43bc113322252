import Derived.Test.YtgnofbigggmilaaGreatDoorG21
/- pointer.lead, pointer.held. -/
set_option linter.unusedSimpArgs false
set_option linter.unusedVariables false
namespace Go.Proofs.YtgnofbigggmilaaGreatDoor
open Go.RowKit Go.Lib
def kindOf : V → Int
  | .mk k _ _ _ _ _ => k
def listOf : V → List V
  | .mk _ _ _ _ l _ => l
def memsOf : V → List Mem
  | .mk _ _ _ _ _ m => m
/-- where a token leads: an index, or the error's number -/
def ledF (v : V) (t : ByteArray) : Nat × Int :=
  if kindOf v = 5 then (if keyIs t (memsOf v)[posF (memsOf v) t]? = true then (posF (memsOf v) t, 0) else (0, 41))
  else if kindOf v = 4 then ((idxF t.data.toList (listOf v).length).getD 0, if (idxF t.data.toList (listOf v).length).isSome = true then 0 else 42)
  else (0, 41)
/-- the how manieth of what a value holds -/
def kid (v : V) (j : Nat) : V := if kindOf v = 4 then (listOf v).getD j nullV else ((memsOf v).getD j (⟨#[]⟩, nullV)).2
/-- there is such a one -/
def kidAt (v : V) (j : Nat) : Prop := (kindOf v = 4 ∧ j < (listOf v).length) ∨ (kindOf v = 5 ∧ j < (memsOf v).length)
theorem one_belowG (w : World) (o : Obj) : Below w.heap.size w (w.alloc o) := (Below.refl _ _).alloc (Nat.le_refl _) _
theorem idxF_lt {s : List UInt8} {n p : Nat} (h : idxF s n = some p) : p < n := by
  exact List.mem_range.1 (List.mem_of_find?_eq_some h)
theorem led_kid {v : V} {t : ByteArray} (h : (ledF v t).2 = 0) : kidAt v (ledF v t).1 := by
  unfold ledF at h ⊢
  split
  · rename_i hk
    rw [if_pos hk] at h
    split
    · rename_i hq
      refine .inr ⟨hk, ?_⟩
      show posF (memsOf v) t < _
      rcases Nat.lt_or_ge (posF (memsOf v) t) (memsOf v).length with h1 | h1
      · exact h1
      · rw [List.getElem?_eq_none h1] at hq; simp [keyIs] at hq
    · rename_i hq
      rw [if_neg hq] at h; simp at h
  · rename_i hk
    rw [if_neg hk] at h
    split
    · rename_i hk4
      rw [if_pos hk4] at h
      refine .inl ⟨hk4, ?_⟩
      cases hx : idxF t.data.toList (listOf v).length with
      | none => rw [hx] at h; simp at h
      | some p => exact idxF_lt hx
    · rename_i hk4
      rw [if_neg hk4] at h; simp at h
def LdPost (p : Nat × Int) (w : World) (e : Ending) (w' : World) : Prop := e = .returned (.tuple #[.int .i64 (p.1 : Int), .int .i64 p.2]) ∧ Below w.heap.size w w'
set_option maxHeartbeats 1600000 in
set_option maxRecDepth 100000 in
theorem lead_any (v : V) (key : ByteArray) (S : Nat → Prop) (cs : List Value) (w : World) (tg : Tg w) (hv : v.lies false w S cs) (hS : ∀ b, S b → b < w.heap.size) (hwt : v.wt ≤ 1099511627776) (hk : key.size ≤ 281474976710656) (hsr : Srt (memsOf v)) :
    Calls Tryz.prog 44 #[.agg cs.toArray, .string key] w (LdPost (ledF v key) w) := by
  obtain ⟨k, b, i, s, l, m⟩ := v
  rw [V.lies] at hv
  obtain ⟨al, cl, bl, ol, am, cm, bm, om, rfl, _, _, _, hal, ham, _, hm, _⟩ := hv
  have hz2 : (w.alloc (.cells #[.int .i64 k, .bool b, .int .i64 i, .string s, .slice al l.length cl, .slice am m.length cm] 25)).heap.size = w.heap.size + 1 := by rw [alloc_size]
  have B0 : Below w.heap.size w (w.alloc (.cells #[.int .i64 k, .bool b, .int .i64 i, .string s, .slice al l.length cl, .slice am m.length cm] 25)) := one_belowG w _
  have h0 : (w.alloc (.cells #[.int .i64 k, .bool b, .int .i64 i, .string s, .slice al l.length cl, .slice am m.length cm] 25)).heap[w.heap.size]? = _ := heap_alloc_new w _
  have HT : Hid (∀ W, Below w.heap.size w W → Tg W) := fun W hb => tg.below hb tg.z
  have hml : m.length ≤ 1099511627776 := by have := wtM_len m; simp only [V.wt] at hwt; omega
  have hll : l.length ≤ 1099511627776 := by have := wtL_len l; simp only [V.wt] at hwt; omega
  have HM : Hid (∀ W, Below w.heap.size w W → Calls Tryz.prog 64 #[.slice am m.length cm, .string key] W (fun e w' => e = .returned (.tuple #[.int .i64 (posF m key : Int), .bool (keyIs key m[posF m key]?)]) ∧ Below W.heap.size W w')) := fun W hb => find_any m key false S am cm bm om W ham (liesM_keep (fun h => h) (fun x hx => hb.block x (hS x hx)) (fun _ h => h) _ hm) (fun x hx => Nat.lt_of_lt_of_le (hS x hx) hb.size) hsr hml
  have HX : Hid (∀ W, Below w.heap.size w W → Calls Tryz.prog 68 #[.string key, .int .i64 (l.length : Int)] W (IxPost (idxF key.data.toList l.length) W)) := fun W hb => index_any key l.length W hk (by omega) (tg.below hb tg.z)
  have HF : Hid (ledF (.mk k b i s l m) key = if k = 5 then (if keyIs key m[posF m key]? = true then (posF m key, 0) else (0, 41)) else if k = 4 then ((idxF key.data.toList l.length).getD 0, if (idxF key.data.toList l.length).isSome = true then 0 else 42) else (0, 41)) := by show _ = _; rfl
  generalize ledF (.mk k b i s l m) key = F at *
  generalize posF m key = p at *
  generalize keyIs key m[p]? = q at *
  generalize idxF key.data.toList l.length = O at *
  have r0 : (w.alloc (.cells #[.int .i64 k, .bool b, .int .i64 i, .string s, .slice al l.length cl, .slice am m.length cm] 25)).cell? ⟨w.heap.size, 0, none⟩ = some (.int .i64 k) := by rw [cell_of_block h0]; rfl
  have r1 : (w.alloc (.cells #[.int .i64 k, .bool b, .int .i64 i, .string s, .slice al l.length cl, .slice am m.length cm] 25)).cell? ⟨w.heap.size, 1, none⟩ = some (.bool b) := by rw [cell_of_block h0]; rfl
  have r2 : (w.alloc (.cells #[.int .i64 k, .bool b, .int .i64 i, .string s, .slice al l.length cl, .slice am m.length cm] 25)).cell? ⟨w.heap.size, 2, none⟩ = some (.int .i64 i) := by rw [cell_of_block h0]; rfl
  have r3 : (w.alloc (.cells #[.int .i64 k, .bool b, .int .i64 i, .string s, .slice al l.length cl, .slice am m.length cm] 25)).cell? ⟨w.heap.size, 3, none⟩ = some (.string s) := by rw [cell_of_block h0]; rfl
  have r4 : (w.alloc (.cells #[.int .i64 k, .bool b, .int .i64 i, .string s, .slice al l.length cl, .slice am m.length cm] 25)).cell? ⟨w.heap.size, 4, none⟩ = some (.slice al l.length cl) := by rw [cell_of_block h0]; rfl
  have r5 : (w.alloc (.cells #[.int .i64 k, .bool b, .int .i64 i, .string s, .slice al l.length cl, .slice am m.length cm] 25)).cell? ⟨w.heap.size, 5, none⟩ = some (.slice am m.length cm) := by rw [cell_of_block h0]; rfl
  clear hm tg hsr hS hwt
  by_cases hk5 : k = 5
  · subst hk5
    go_enter Tryz.func44, Tryz.ntmps44
    go_wp2_with fail
    refine (HM.out _ B0).mono ?_
    rintro e w1 ⟨rfl, b1⟩
    have hz1 := b1.size
    have B1 := B0.trans (b1.mono (by omega))
    cases q with
    | true =>
      have HR : Hid (F = (p, 0)) := by show _ = _; rw [HF.out]; simp
      go_wp2_with fail
      go_ret2
      exact ⟨by rw [HR.out]; rfl, B1⟩
    | false =>
      have HR : Hid (F = (0, 41)) := by show _ = _; rw [HF.out]; simp
      go_wp2_with fail
      go_ret2
      exact ⟨by rw [HR.out]; rfl, B1⟩
  · by_cases hk4 : k = 4
    · subst hk4
      go_enter Tryz.func44, Tryz.ntmps44
      go_wp2_with fail
      refine (HX.out _ B0).mono ?_
      rintro e w1 ⟨rfl, b1⟩
      have hz1 := b1.size
      have B1 := B0.trans (b1.mono (by omega))
      cases O with
      | some x =>
        have HR : Hid (F = (x, 0)) := by show _ = _; rw [HF.out]; simp
        go_wp2_with fail
        go_ret2
        exact ⟨by rw [HR.out]; rfl, B1⟩
      | none =>
        have HR : Hid (F = (0, 42)) := by show _ = _; rw [HF.out]; simp
        go_wp2_with fail
        go_ret2
        exact ⟨by rw [HR.out]; rfl, B1⟩
    · have HR : Hid (F = (0, 41)) := by show _ = _; rw [HF.out, if_neg hk5, if_neg hk4]
      go_enter Tryz.func44, Tryz.ntmps44
      go_wp2_with fail
      go_ret2
      exact ⟨by rw [HR.out]; rfl, B0⟩
end Go.Proofs.YtgnofbigggmilaaGreatDoor
