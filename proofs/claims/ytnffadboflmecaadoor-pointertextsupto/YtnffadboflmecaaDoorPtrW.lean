/- PointerTexts: the law's own walk. -/
import Derived.Test.YtnffadboflmecaaDoorPtrE
import Derived.Laws.AppendOwnNone
set_option linter.unusedSimpArgs false
set_option linter.unusedVariables false
namespace Go.Proofs.YtnffadboflmecaaDoor
open Go.RowKit Go.Lib

theorem dat_inj : ∀ {a b : List ByteArray}, dat a = dat b → a = b
  | [], [], _ => rfl
  | [], _ :: _, h => by simp [dat] at h
  | _ :: _, [], h => by simp [dat] at h
  | ⟨⟨x⟩⟩ :: t, ⟨⟨y⟩⟩ :: u, h => by
    simp only [dat, List.map_cons, List.cons.injEq] at h
    rw [dat_inj (a := t) (b := u) h.2]
    have h1 : x = y := h.1
    rw [h1]
theorem parF_len (p : List UInt8) : ∀ l, parF p = some l → l.length ≤ p.length + 1 := by
  intro l h
  cases p with
  | nil => rw [parF] at h; cases h; simp
  | cons x q =>
    rw [parF] at h
    split at h
    · have hl : ∀ (a b : List (List UInt8)), unes a = some b → b.length = a.length := by
        intro a
        induction a with
        | nil => intro b hb; rw [unes] at hb; cases hb; rfl
        | cons y t ih =>
          intro b hb
          rw [unes] at hb
          split at hb
          · cases hb
          · obtain ⟨z, hz, rfl⟩ := Option.map_eq_some_iff.1 hb
            simp [ih z hz]
      have h1 := hl _ _ h
      have h2 := spl_len 47 q
      simp only [List.length_cons]
      omega
    · cases h

/-- append(nil, tokens...) -/
theorem wpl_given {ops : Array Oper} {rest : List Oper} {o : Oper} {a : Act} {Q : Exit → Act → World → Prop} (w : World) (hgd : o.guard = none) (s x : Operand)
    (ho : o.op = .call { callee := .builtin .append, args := #[s, x], argTypes := #[22, 22] }) (v : Value) (l : List ByteArray) (hs : a.eval s = .slice none 0 0) (hx : a.eval x = v) (hv : LiesS w v l)
    (hnil : (∃ ad c, v = .slice (some ad) l.length c) ∨ v = .slice none 0 0) (hlen : l.length ≤ 4000000)
    (h : ∀ v' w', OwnS w.heap.size v' l w' → Below w.heap.size w w' → wpList Tryd.prog ops Q rest (a.put o.dst v') w') : wpList Tryd.prog ops Q (o :: rest) a w := by
  obtain ⟨i0, hi, hz0, hz1, hz2⟩ := info_parts info9
  rcases hnil with ⟨ad, c, rfl⟩ | rfl
  · have hnews : ∀ j u, (strs l)[j]? = some u → w.cell? (ad.add j) = some u := fun j u hu => by
      rw [strs, List.getElem?_map] at hu
      obtain ⟨y, hy, rfl⟩ := Option.map_eq_some_iff.1 hu
      obtain ⟨hj, rfl⟩ := List.getElem?_eq_some_iff.1 hy
      obtain ⟨g', o2, c', e, _, hc⟩ := hv.2 (by omega)
      cases e
      rw [Go.WideShapes.add_plain]
      exact hc j hj
    refine wpList_append_own w hgd s x 22 ho w.heap.size 9 i0 (.string ⟨#[]⟩) 1 16 Tryd.underlying22 hi hz0 hz1 hz2 rfl (by decide) (.slice none 0 0) 0 [] hs (World.ownsRow_nil w _ 9 1) ad l.length c (strs l) hx
      (by simp [strs]) hnews (fun u hu => by obtain ⟨y, _, rfl⟩ := List.mem_map.1 hu; rfl) (by unfold maxLen; omega) (by omega) (Nat.le_refl _) ?_
    intro v' w' h1 h2 _
    refine h v' w' ?_ ((Below.refl _ w).grown h2 (Nat.le_refl _) (fun k hk => by simp [Value.ownBlock] at hk))
    rw [Nat.zero_add, List.nil_append] at h1
    exact h1
  · have hl0 : l = [] := by
      obtain ⟨a', c', e⟩ := hv.1
      injection e with _ e2 _
      exact List.length_eq_zero_iff.1 e2.symm
    subst hl0
    refine wpList_append_own_none (w := w) hgd s x 22 ho w.heap.size 9 i0 1 Tryd.underlying22 hi (.slice none 0 0) 0 [] hs (World.ownsRow_nil w _ 9 1) hx ?_
    exact h _ _ (World.ownsRow_nil w _ 9 1) (Below.refl _ _)

set_option maxHeartbeats 2000000 in
set_option maxRecDepth 100000 in
theorem texts_walk (p : ByteArray) (l : List ByteArray) (v : Value) (w : World) (hv : LiesS w v l) (hnil : (∃ ad c, v = .slice (some ad) l.length c) ∨ v = .slice none 0 0) (hp : p.size ≤ 1048576) (ht : totS l ≤ 1048576) (tp : Tp w) :
    Calls Tryd.prog 3 #[.string p, v] w (BPost true w) := by
  have hz2 := tp.z
  have hll := totS_len l
  have HT : Hid (∀ W, Below w.heap.size w W → Tp W ∧ LiesS W v l) := fun W hb => ⟨tp.below hb hz2, hv.below hb⟩
  have C1 := hmk (pparse_any p w (by omega) tp)
  have HP : Hid (∀ a, dat a = ((parF p.data.toList).getD []) → a.length ≤ 4000000) := fun a h => by
    have hl : a.length = (dat a).length := by simp [dat]
    rw [hl, h]
    cases hx : parF p.data.toList with
    | none => simp
    | some z =>
      have := parF_len _ z hx
      rw [toList_size] at this
      simp only [Option.getD_some]
      omega
  have HC2 : Hid (∀ W, Calls Tryd.prog 5 #[.string p] W (PaPost (parF p.data.toList) W)) := fun W => rparse_any p W (by omega)
  have HP1 : Hid (∀ (u : Value) W, LiesS W u l → Tp W → Calls Tryd.prog 7 #[u] W (PtPost (prA (dat l)) W)) := fun u W h1 h2 => pprint_any l u W h1 (by omega) h2
  have HP2 : Hid (∀ (u : Value) W, LiesS W u l → Calls Tryd.prog 8 #[u] W (PtPost (prA (dat l)) W)) := fun u W h1 => rprint_any l u W h1 (by omega)
  generalize parF p.data.toList = O at *
  generalize prA (dat l) = Q at *
  unfold PtPost at HP1 HP2
  generalize (⟨(Q.getD []).toArray⟩ : ByteArray) = qs at *
  generalize (if Q.isSome = true then (0 : Int) else 40) = qe at *
  unfold PaPost at C1 HC2
  generalize (if O.isSome = true then (0 : Int) else 40) = oe at *
  clear tp hv
  go_enter Tryd.func3, Tryd.ntmps3
  go_wp2_with fail
  refine C1.out.mono ?_
  rintro e w1 ⟨v1, l1, rfl, hd1, hl1, b1⟩
  have hz1 := b1.size
  go_wp2_with fail
  refine (HC2.out w1).mono ?_
  rintro e w2 ⟨v2, l2, rfl, hd2, hl2, b2⟩
  have hz22 := b2.size
  have B2 := b1.trans (b2.mono hz1)
  obtain rfl : l1 = l2 := dat_inj (hd1.trans hd2.symm)
  have CS := hmk (sames_any l1 v1 v2 w2 (hl1.below b2) hl2 (HP.out l1 hd1))
  clear C1
  go_wp2_with fail
  refine CS.out.mono ?_
  rintro e w3 ⟨rfl, b3⟩
  have hz3 := b3.size
  have B3 := B2.trans (b3.mono (by omega))
  have hv3 := (HT.out w3 B3).2
  clear CS
  go_wp2_with (at_builtin; go_loud (refine wpl_given _ rfl (.tmp 31) (.tmp 32) rfl v l rfl rfl hv3 hnil (by omega) ?_))
  intro v' w4 h4 b4
  have hz4 := b4.size
  have B4 := B3.trans (b4.mono (by omega))
  have hg4 := h4.lies
  go_wp2_with fail
  refine (HP1.out v' w4 hg4 (HT.out w4 B4).1).mono ?_
  rintro e w5 ⟨rfl, b5⟩
  have hz5 := b5.size
  have B5 := B4.trans (b5.mono (by omega))
  go_wp2_with fail
  refine (HP2.out v w5 (HT.out w5 B5).2).mono ?_
  rintro e w6 ⟨rfl, b6⟩
  have hz6 := b6.size
  have B6 := B5.trans (b6.mono (by omega))
  have CS2 := hmk (sames_any l v' v w6 ((hg4.below b5).below b6) (HT.out w6 B6).2 (by omega))
  have y9 : (qs.toList == qs.toList) = true := by simp
  go_wp2_with fail
  refine CS2.out.mono ?_
  rintro e w7 ⟨rfl, b7⟩
  have B7 := B6.trans (b7.mono (by omega))
  go_wp2_with fail
  go_ret
  exact ⟨rfl, B7⟩
end Go.Proofs.YtnffadboflmecaaDoor
