import Derived.Test.YtihcggepeadklaaGreatDoorG45
/- What the document's read gives: places, weights. -/
set_option linter.unusedSimpArgs false
set_option linter.unusedVariables false
namespace Go.Proofs.YtihcggepeadklaaGreatDoor
open Go.RowKit Go.Lib
theorem tk1_yes {s : ByteArray} {k : Nat} {c : UInt8} (h : k < s.size) (hc : ((s[k]'h).toNat : Int) = c.toNat) : tkB s.data.toList k [c] = true := by
  have e : s[k]'h = c := UInt8.toNat_inj.1 (by omega)
  unfold tkB hasPrefix
  rw [drop_consN s k h, e]
  simp [List.isPrefixOf]
theorem tk1_no {s : ByteArray} {k : Nat} {c : UInt8} (h : k < s.size) (hc : ((s[k]'h).toNat : Int) ≠ c.toNat) : tkB s.data.toList k [c] = false := by
  unfold tkB
  rw [drop_consN s k h]
  exact hp_no _ _ (fun e => hc (by rw [e]))
theorem tk1_end {s : ByteArray} {k : Nat} {c : UInt8} (h : ¬ k < s.size) : tkB s.data.toList k [c] = false := by
  unfold tkB
  rw [drop_endN s k h]
  rfl
theorem quoF_le {s : ByteArray} {k : Nat} {x : ByteArray} {k1 : Nat} (h : quoF s.data.toList k = some (x, k1)) : k1 ≤ s.size := by
  unfold quoF at h
  split at h
  · have := (Q.unq_place s (k : Int)).1
    have e := congrArg Prod.snd (Option.some.inj h)
    dsimp only at e
    omega
  · cases h
theorem namF_le {s : ByteArray} {k : Nat} {x : ByteArray} {k1 : Nat} (h : namF s.data.toList k = some (x, k1)) (hk : k ≤ s.size) : k1 ≤ s.size := by
  unfold namF at h
  split at h
  · have e := congrArg Prod.snd (Option.some.inj h)
    dsimp only at e
    have := (prefN_le (s.data.toList.drop k) 0).2
    rw [List.length_drop] at this
    have hl : s.data.toList.length = s.size := by simp
    omega
  · exact quoF_le h
theorem tw_len {P : UInt8 → Bool} : ∀ (l : List UInt8), (l.takeWhile P).length ≤ l.length
  | [] => by simp
  | c :: t => by
    rw [List.takeWhile_cons]
    split
    · have := tw_len (P := P) t; simp only [List.length_cons]; omega
    · simp
theorem dsca_le {s : ByteArray} {k : Nat} {v : V} {k1 : Nat} (h : dscaF s.data.toList k = some (v, k1)) (hk : k ≤ s.size) : k ≤ k1 ∧ k1 ≤ s.size := by
  have hl : s.data.toList.length = s.size := by simp
  unfold dscaF at h
  split at h
  · obtain ⟨x, hx, he⟩ := Option.map_eq_some_iff.1 h
    have e := congrArg Prod.snd he
    dsimp only at e
    have h1 := quoF_ge (x := x.1) (k1 := x.2) hx
    have h2 := quoF_le (x := x.1) (k1 := x.2) hx
    omega
  · obtain ⟨x, hx, he⟩ := Option.map_eq_some_iff.1 h
    have e := congrArg Prod.snd he
    dsimp only at e
    have := tw_len (P := fun x => wrdB x.toNat) (s.data.toList.drop k)
    rw [List.length_drop] at this
    omega
theorem valP_shape {l : List UInt8} {v : V} {k : Nat} (h : valP l = some (v, k)) : v.wt = 1 := by
  have H : ∀ (a : Int) (b : Bool) (i : Int), (V.mk a b i ⟨#[]⟩ [] []).wt = 1 := fun a b i => by simp [V.wt, wtL, wtM, sz0B]
  unfold valP at h
  split at h
  · cases h
  · split at h
    · split at h
      · (have e := congrArg Prod.fst (Option.some.inj h); dsimp only at e; rw [← e]); exact H _ _ _
      · cases h
    · split at h
      · split at h
        · (have e := congrArg Prod.fst (Option.some.inj h); dsimp only at e; rw [← e]); exact H _ _ _
        · cases h
      · split at h
        · split at h
          · (have e := congrArg Prod.fst (Option.some.inj h); dsimp only at e; rw [← e]); exact H _ _ _
          · cases h
        · split at h
          · obtain ⟨i, hi, he⟩ := Option.map_eq_some_iff.1 h
            (have e := congrArg Prod.fst he; dsimp only at e; rw [← e])
            exact H _ _ _
          · cases h
theorem parP_shape {l : List UInt8} {v : V} (h : parP l = some v) : v.wt = 1 := by
  unfold parP at h
  obtain ⟨x, hx, he⟩ := Option.bind_eq_some_iff.1 h
  split at he
  · rw [← Option.some.inj he]
    exact valP_shape (k := x.2) hx
  · cases he
theorem dsca_wt {s : ByteArray} {k : Nat} {v : V} {k1 : Nat} (h : dscaF s.data.toList k = some (v, k1)) : v.wt ≤ s.size + 1 := by
  unfold dscaF at h
  split at h
  · obtain ⟨x, hx, he⟩ := Option.map_eq_some_iff.1 h
    have e := congrArg Prod.fst he
    dsimp only at e
    have hs := quoF_size (x := x.1) (k1 := x.2) hx
    rw [← e]; simp [V.wt, wtL, wtM]; omega
  · obtain ⟨x, hx, he⟩ := Option.map_eq_some_iff.1 h
    have e := congrArg Prod.fst he
    dsimp only at e
    rw [← e, parP_shape hx]; omega
theorem dmem_wt {s : ByteArray} {k : Nat} {m : Mem} {k1 : Nat} (h : dmemF s.data.toList k = some (m, k1)) : m.1.size + m.2.wt ≤ 2 * s.size + 1 := by
  unfold dmemF at h
  split at h
  · cases h
  · rename_i n k2 hn
    split at h
    · obtain ⟨x, hx, he⟩ := Option.map_eq_some_iff.1 h
      have e := congrArg Prod.fst he
      dsimp only at e
      have h1 := dsca_wt (v := x.1) (k1 := x.2) hx
      have h2 := namF_size hn
      rw [← e]
      dsimp only
      omega
    · cases h
theorem dkey_wt {s : ByteArray} : ∀ (n k : Nat) (acc m : List Mem) (k1 : Nat), dkeyF s.data.toList n k acc = some (m, k1) → acc.length ≤ m.length ∧ wtM m ≤ wtM acc + (m.length - acc.length) * (2 * s.size + 1)
  | 0, k, acc, m, k1, h => by cases h
  | n + 1, k, acc, m, k1, h => by
    unfold dkeyF at h
    split at h
    · cases h
    · rename_i x k2 hx
      have hw := dmem_wt hx
      have ha : wtM (acc ++ [x]) = wtM acc + (x.1.size + x.2.wt) := by rw [wtM_app]; simp [wtM]
      have hl : (acc ++ [x]).length = acc.length + 1 := by simp
      split at h
      · have e := congrArg Prod.fst (Option.some.inj h)
        dsimp only at e
        subst e
        rw [ha, hl, show acc.length + 1 - acc.length = 1 by omega]; omega
      · split at h
        · obtain ⟨h1, h2⟩ := dkey_wt n (k2 + 1) (acc ++ [x]) m k1 h
          rw [ha] at h2
          rw [hl] at h1 h2
          have e3 : m.length - acc.length = (m.length - (acc.length + 1)) + 1 := by omega
          rw [e3, Nat.add_mul]
          omega
        · cases h
/-- what is read is light, or has too many members -/
theorem dread_wt {s : ByteArray} {k : Nat} {x : El} {k1 : Nat} (h : dreadF s.data.toList k = some (x, k1)) : (∃ m, x = ⟨2, ⟨#[]⟩, m, nilW⟩ ∧ 8 < m.length) ∨ x.wt ≤ 16 * s.size + 20 := by
  have H0 : nilW.wt = 1 := by simp [nilW, V.wt, wtL, wtM, sz0B]
  unfold dreadF at h
  split at h
  · obtain ⟨y, hy, he⟩ := Option.map_eq_some_iff.1 h
    have e := congrArg Prod.fst he
    dsimp only at e
    have := namF_size (x := y.1) (k1 := y.2) hy
    right
    rw [← e, El.wt]; dsimp only; rw [H0, wtM]; omega
  · split at h
    · split at h
      · split at h
        · cases h
        · rename_i v k2 hv
          split at h
          · have e := congrArg Prod.fst (Option.some.inj h)
            dsimp only at e
            have := dsca_wt hv
            right
            rw [← e, El.wt]; dsimp only; rw [sz0B, wtM]; omega
          · cases h
      · obtain ⟨y, hy, he⟩ := Option.map_eq_some_iff.1 h
        have e := congrArg Prod.fst he
        dsimp only at e
        have hw := (dkey_wt _ _ _ y.1 y.2 hy).2
        by_cases h8 : 8 < y.1.length
        · exact .inl ⟨y.1, e.symm, h8⟩
        · right
          have hz : (y.1.length - ([] : List Mem).length) * (2 * s.size + 1) ≤ 8 * (2 * s.size + 1) := Nat.mul_le_mul_right _ (by simp; omega)
          rw [show wtM ([] : List Mem) = 0 by rw [wtM]] at hw
          rw [← e, El.wt]; dsimp only; rw [sz0B, H0]; omega
    · cases h
theorem dmem_1 {l : List UInt8} {k : Nat} (h : namF l k = none) : dmemF l k = none := by rw [dmemF, h]
theorem dmem_2 {l : List UInt8} {k k1 : Nat} {n : ByteArray} (h : namF l k = some (n, k1)) (h2 : tkB l k1 [61] = false) : dmemF l k = none := by rw [dmemF, h]; dsimp only; rw [if_neg (by rw [h2]; decide)]
theorem dmem_3 {l : List UInt8} {k k1 : Nat} {n : ByteArray} (h : namF l k = some (n, k1)) (h2 : tkB l k1 [61] = true) (h3 : dscaF l (k1 + 1) = none) : dmemF l k = none := by rw [dmemF, h]; dsimp only; rw [if_pos h2, h3]; rfl
theorem dmem_4 {l : List UInt8} {k k1 k2 : Nat} {n : ByteArray} {v : V} (h : namF l k = some (n, k1)) (h2 : tkB l k1 [61] = true) (h3 : dscaF l (k1 + 1) = some (v, k2)) : dmemF l k = some ((n, v), k2) := by rw [dmemF, h]; dsimp only; rw [if_pos h2, h3]; rfl
theorem dkey_1 {l : List UInt8} {n k : Nat} {acc : List Mem} (h : dmemF l k = none) : dkeyF l (n + 1) k acc = none := by rw [dkeyF, h]
theorem dkey_2 {l : List UInt8} {n k k1 : Nat} {acc : List Mem} {m : Mem} (h : dmemF l k = some (m, k1)) (h2 : tkB l k1 [93] = true) : dkeyF l (n + 1) k acc = some (acc ++ [m], k1 + 1) := by rw [dkeyF, h]; dsimp only; rw [if_pos h2]
theorem dkey_3 {l : List UInt8} {n k k1 : Nat} {acc : List Mem} {m : Mem} (h : dmemF l k = some (m, k1)) (h2 : tkB l k1 [93] = false) (h3 : tkB l k1 [44] = true) : dkeyF l (n + 1) k acc = dkeyF l n (k1 + 1) (acc ++ [m]) := by rw [dkeyF, h]; dsimp only; rw [if_neg (by rw [h2]; decide), if_pos h3]
theorem dkey_4 {l : List UInt8} {n k k1 : Nat} {acc : List Mem} {m : Mem} (h : dmemF l k = some (m, k1)) (h2 : tkB l k1 [93] = false) (h3 : tkB l k1 [44] = false) : dkeyF l (n + 1) k acc = none := by rw [dkeyF, h]; dsimp only; rw [if_neg (by rw [h2]; decide), if_neg (by rw [h3]; decide)]
theorem drd_1 {l : List UInt8} {k : Nat} (h : tkB l k [46] = true) : dreadF l k = (namF l (k + 1)).map (fun x => (⟨1, x.1, [], nilW⟩, x.2)) := by rw [dreadF, if_pos h]
theorem drd_2 {l : List UInt8} {k : Nat} (h : tkB l k [46] = false) (h2 : tkB l k [91] = false) : dreadF l k = none := by rw [dreadF, if_neg (by rw [h]; decide), if_neg (by rw [h2]; decide)]
theorem drd_3 {l : List UInt8} {k : Nat} (h : tkB l k [46] = false) (h2 : tkB l k [91] = true) (h3 : tkB l (k + 1) [61] = true) (h4 : dscaF l (k + 2) = none) : dreadF l k = none := by rw [dreadF, if_neg (by rw [h]; decide), if_pos h2, if_pos h3, h4]
theorem drd_4 {l : List UInt8} {k k1 : Nat} {v : V} (h : tkB l k [46] = false) (h2 : tkB l k [91] = true) (h3 : tkB l (k + 1) [61] = true) (h4 : dscaF l (k + 2) = some (v, k1)) (h5 : tkB l k1 [93] = true) : dreadF l k = some (⟨3, ⟨#[]⟩, [], v⟩, k1 + 1) := by rw [dreadF, if_neg (by rw [h]; decide), if_pos h2, if_pos h3, h4]; dsimp only; rw [if_pos h5]
theorem drd_5 {l : List UInt8} {k k1 : Nat} {v : V} (h : tkB l k [46] = false) (h2 : tkB l k [91] = true) (h3 : tkB l (k + 1) [61] = true) (h4 : dscaF l (k + 2) = some (v, k1)) (h5 : tkB l k1 [93] = false) : dreadF l k = none := by rw [dreadF, if_neg (by rw [h]; decide), if_pos h2, if_pos h3, h4]; dsimp only; rw [if_neg (by rw [h5]; decide)]
theorem drd_6 {l : List UInt8} {k : Nat} (h : tkB l k [46] = false) (h2 : tkB l k [91] = true) (h3 : tkB l (k + 1) [61] = false) : dreadF l k = (dkeyF l (l.length + 1) (k + 1) []).map (fun x => (⟨2, ⟨#[]⟩, x.1, nilW⟩, x.2)) := by rw [dreadF, if_neg (by rw [h]; decide), if_pos h2, if_neg (by rw [h3]; decide)]
end Go.Proofs.YtihcggepeadklaaGreatDoor
