import Derived.Test.YtpmhdcmmlkjjmaaGreatDoorG36
/- what is read is good, and is written no longer than it stood there: the reader. -/
set_option linter.unusedSimpArgs false
set_option linter.unusedVariables false
set_option maxRecDepth 100000
namespace Go.Proofs.YtpmhdcmmlkjjmaaGreatDoor
open Go.RowKit Go.Lib
theorem wordJ_len {l : List UInt8} : ∀ {p : List UInt8} {k k' : Nat}, wordJ l k p = .ok k' → k' = k + p.length
  | [], k, k', h => by rw [wordJ] at h; cases h; rfl
  | c :: p, k, k', h => by
    rw [wordJ] at h
    cases hm : mustJ l k c with
    | error f => rw [hm] at h; cases h
    | ok k1 =>
      rw [hm] at h
      obtain ⟨rfl, _⟩ := mustJ_le hm
      have := wordJ_len (p := p) h
      rw [this, List.length_cons]; omega
theorem sz_ge : ∀ l : List UInt8, l.length ≤ Q.sz l
  | [] => Nat.zero_le _
  | c :: t => by
    have := sz_ge t
    have h : Q.sz (c :: t) = Q.wid c + Q.sz t := by simp [Q.sz, Q.body, Q.esc_length]
    have := Q.wid_pos c
    rw [h, List.length_cons]; omega
theorem quoJ_good {l : List UInt8} {k : Nat} {x : ByteArray × Nat} (h : quoJ l k = .ok x) : validD x.1.data.toList = true ∧ (Q.qt x.1.data.toList).length + k ≤ x.2 ∧ x.1.size + 2 + k ≤ x.2 := by
  have hp := Q.unqAll_inv l (k : Int)
  unfold quoJ at h
  split at h
  · rename_i h0
    cases h
    have hh := hp.2 h0
    have e : (Q.unqAll l (k : Int)).1.toArray.toList = (Q.unqAll l (k : Int)).1 := by simp
    refine ⟨by simpa using hh.1, ?_, ?_⟩
    · dsimp only
      simp only [List.toList_toArray] at *
      omega
    · have h2 := hh.2.2.2.1
      rw [Q.qt_length] at h2
      have h3 := sz_ge (Q.unqAll l (k : Int)).1
      show Array.size _ + 2 + k ≤ _
      rw [List.size_toArray]
      dsimp only
      omega
  · cases h
theorem rise_of {L : List Mem} (hs : L.Pairwise leM) (hn : (keysM L).Nodup) (hv : ∀ x ∈ L, validD x.1.data.toList = true) : riseB L = true := by
  refine riseB_true fun j hj => ?_
  rw [okAt, Bool.and_eq_true, Bool.or_eq_true]
  refine ⟨?_, ?_⟩
  · rw [keyAt_eq hj]; exact hv _ (List.getElem_mem hj)
  · by_cases h0 : j = 0
    · left; simp [h0]
    · right
      rw [keyAt_eq hj, keyAt_eq (show j - 1 < L.length by omega), ltB, less_k, decide_eq_true_iff]
      have h1 := List.pairwise_iff_getElem.1 hs (j - 1) j (by omega) hj (by omega)
      have h2 := List.pairwise_iff_getElem.1 hn (j - 1) j (by simp [keysM]; omega) (by simpa [keysM] using hj) (by omega)
      simp only [keysM, List.getElem_map] at h2
      have h1' : ¬ cmpS (L[j]).1 (L[j - 1]).1 < 0 := h1
      have h3 := k_anti (L[j - 1]).1 (L[j]).1
      have h4 : ¬ cmpS (L[j - 1]).1 (L[j]).1 = 0 := fun e => h2 (by rw [kz e])
      omega
theorem join_lenL : ∀ (l : List V), l ≠ [] → (joinB (txtL l)).length + 1 = lenL l
  | [], h => absurd rfl h
  | x :: t, _ => by
    rw [txtL, joinB, List.length_append, lenL]
    have : ∀ t : List V, ((txtL t).map (fun y => 44 :: y)).flatten.length = lenL t := by
      intro t
      induction t with
      | nil => rw [txtL]; rfl
      | cons y t ih => rw [txtL, List.map_cons, List.flatten_cons, List.length_append, ih, lenL, List.length_cons]
    rw [this t]; omega
theorem join_lenM : ∀ (l : List Mem), l ≠ [] → (joinB (txtM l)).length + 1 = lenM l
  | [], h => absurd rfl h
  | x :: t, _ => by
    rw [txtM_eq, List.map_cons, joinB, List.length_append, lenM]
    have : ∀ t : List Mem, ((t.map txtE).map (fun y => 44 :: y)).flatten.length = lenM t := by
      intro t
      induction t with
      | nil => rfl
      | cons y t ih => rw [List.map_cons, List.map_cons, List.flatten_cons, List.length_append, ih, lenM, List.length_cons]
    rw [this t]; omega
theorem plainE {k : Int} {b : Bool} {i : Int} {s : ByteArray} {nl : Nat} (hp : plainB k b i s nl 0 = true) (hs : validD s.data.toList = true) : goodB k b i s nl [] = true := by
  rw [goodB]
  have : riseB [] = true := rfl
  simp [hp, utfB, hs, this]
theorem emp_list : (⟨#[]⟩ : ByteArray).toList.isEmpty = true := by rw [toList_data]; rfl
theorem valid_emp : validD (⟨#[]⟩ : ByteArray).data.toList = true := rfl
theorem leaf_ok {D o : Nat} {k : Int} {b : Bool} {i : Int} {s : ByteArray} (ho : o ≤ D) (hp : plainB k b i s 0 0 = true) (hs : validD s.data.toList = true) (hi : In64 i) : okD D (.mk k b i s [] []) o := by
  rw [okD]
  exact ⟨ho, plainE hp hs, hi, by rw [okDL]; trivial, by rw [okDM]; trivial⟩
theorem leaf_nd {k : Int} {b : Bool} {i : Int} {s : ByteArray} : ndV (.mk k b i s [] []) = 1 ∧ byV (.mk k b i s [] []) = s.size := by
  refine ⟨by rw [ndV, ndL, ndM], by rw [byV, byL, byM, keyB]; omega⟩
theorem begunJ_lt {l : List UInt8} {k : Nat} {c : UInt8} : k + 1 ≤ blk l (k + 1) := by unfold blk; omega
theorem keyJ_good {l : List UInt8} {k : Nat} {ks : List (List UInt8)} {q : ByteArray × Nat} (h : keyJ l k ks = .ok q) : validD q.1.data.toList = true ∧ (Q.qt q.1.data.toList).length + 1 + k ≤ q.2 ∧ q.1.size + k ≤ q.2 := by
  rcases Nat.lt_or_ge k l.length with hk | hk
  · by_cases e : l[k] = 34
    · cases hq : quoJ l k with
      | error f => rw [keyJ_quo hk e hq] at h; cases h
      | ok x =>
        obtain ⟨x, k1⟩ := x
        have h1 := quoJ_good hq
        have h2 := quoJ_in hq
        dsimp only at h1 h2
        by_cases hx : x.data.toList ∈ ks
        · rw [keyJ_twice hk e hq hx] at h; cases h
        · have hb := blk_le (l := l) (k := k1) h2.2.1
          cases hm : mustJ l (blk l k1) 58 with
          | error f => rw [keyJ_colon hk e hq hx hm] at h; cases h
          | ok k2 =>
            rw [keyJ_ok hk e hq hx hm] at h
            cases h
            obtain ⟨e2, hl⟩ := mustJ_le hm
            have hb2 := blk_le (l := l) (k := k2) (by omega)
            exact ⟨h1.1, by dsimp only; omega, by dsimp only; omega⟩
    · rw [keyJ_byte hk e] at h; cases h
  · rw [keyJ_end hk] at h; cases h
/-- what is read -/
theorem allJ_good (l : List UInt8) (D : Nat) : ∀ f : Nat,
    (∀ o k n x, n ≤ 65536 → valJ l D f o k n = .ok x → okD D x.1 o ∧ x.2.2 = n + ndV x.1 ∧ byV x.1 + k ≤ x.2.1 ∧ (txtV x.1).length + k ≤ x.2.1) ∧
    (∀ o more k n acc x, k ≤ l.length → n ≤ 65536 → lisJ l D f o more k n acc = .ok x → ∃ new, x.1 = acc ++ new ∧ (∀ y ∈ new, okD D y o) ∧ x.2.2 = n + ndL new ∧ byL new + k ≤ x.2.1 ∧ lenL new + k ≤ x.2.1 ∧ (more = true ↔ new ≠ [])) ∧
    (∀ o more k n acc x, k ≤ l.length → n ≤ 65536 → memJ l D f o more k n acc = .ok x → ∃ new, x.1 = acc ++ new ∧ (∀ y ∈ new, okD D y.2 o ∧ validD y.1.data.toList = true) ∧ ((keysM acc).Nodup → (keysM x.1).Nodup) ∧ x.2.2 = n + ndM new ∧ byM new + keyB new + k ≤ x.2.1 ∧ lenM new + k ≤ x.2.1 ∧ (more = true ↔ new ≠ []))
  | 0 => by
    refine ⟨?_, ?_, ?_⟩
    · intro o k n x _ h; rw [valJ] at h; cases h
    · intro o more k n acc x _ _ h; rw [lisJ] at h; cases h
    · intro o more k n acc x _ _ h; rw [memJ] at h; cases h
  | f + 1 => by
    obtain ⟨hV, hL, hM⟩ := allJ_good l D f
    obtain ⟨lV, lL, lM⟩ := allJ_le l D f
    refine ⟨?_, ?_, ?_⟩
    · intro o k n x hn h
      rw [valJ] at h
      cases hx : nxJ l k with
      | error e => rw [hx] at h; cases h
      | ok c =>
        rw [hx] at h
        dsimp only at h
        have hk : k < l.length := by
          rcases Nat.lt_or_ge k l.length with hk | hk
          · exact hk
          · rw [nxJ, List.getElem?_eq_none hk] at hx; cases hx
        cases he : entJ c D n o k with
        | error e => rw [he] at h; cases h
        | ok n1 =>
          rw [he] at h
          dsimp only at h
          obtain ⟨e1, hn1, hoD⟩ := entJ_le hn he
          subst e1
          split at h
          · cases hw : wordJ l k [110, 117, 108, 108] with
            | error e => rw [hw] at h; cases h
            | ok k1 =>
              rw [hw] at h; cases h
              have := wordJ_len hw
              subst this
              refine ⟨leaf_ok hoD (by rw [plainB, emp_list]; decide) valid_emp In64.zero, by show n + 1 = n + ndV (.mk 0 false 0 ⟨#[]⟩ [] []); rw [leaf_nd.1], by show byV (.mk 0 false 0 ⟨#[]⟩ [] []) + k ≤ k + 4; rw [leaf_nd.2]; simp [ByteArray.size], ?_⟩
              rw [nulV, txtV]; simp; omega
          · split at h
            · cases hw : wordJ l k [116, 114, 117, 101] with
              | error e => rw [hw] at h; cases h
              | ok k1 =>
                rw [hw] at h; cases h
                have := wordJ_len hw
                subst this
                refine ⟨leaf_ok hoD (by rw [plainB, emp_list]; decide) valid_emp In64.zero, by rw [leaf_nd.1], by rw [leaf_nd.2]; simp [ByteArray.size], ?_⟩
                rw [txtV]; simp; omega
            · split at h
              · cases hw : wordJ l k [102, 97, 108, 115, 101] with
                | error e => rw [hw] at h; cases h
                | ok k1 =>
                  rw [hw] at h; cases h
                  have := wordJ_len hw
                  subst this
                  refine ⟨leaf_ok hoD (by rw [plainB, emp_list]; decide) valid_emp In64.zero, by rw [leaf_nd.1], by rw [leaf_nd.2]; simp [ByteArray.size], ?_⟩
                  rw [txtV]; simp; omega
              · split at h
                · cases hw : quoJ l k with
                  | error e => rw [hw] at h; cases h
                  | ok y =>
                    rw [hw] at h; cases h
                    have hq := quoJ_good hw
                    refine ⟨leaf_ok hoD (by rw [plainB]; simp) hq.1 In64.zero, by rw [leaf_nd.1], by rw [leaf_nd.2]; dsimp only; omega, ?_⟩
                    rw [txtV]; simp; omega
                · split at h
                  · cases hw : lisJ l D f (o + 1) (begunJ l k 93).1 (begunJ l k 93).2 (n + 1) [] with
                    | error e => rw [hw] at h; cases h
                    | ok y =>
                      rw [hw] at h; cases h
                      have hb := begunJ_le (c := 93) hk
                      obtain ⟨new, e1, h2, h3, h4, h5, h6⟩ := hL _ _ _ _ _ _ hb.2 hn1 hw
                      rw [List.nil_append] at e1
                      refine ⟨?_, ?_, ?_, ?_⟩
                      · rw [okD, e1]
                        exact ⟨hoD, plainE (by rw [plainB, emp_list]; simp) valid_emp, In64.zero, okDL_iff.2 h2, by rw [okDM]; trivial⟩
                      · dsimp only; rw [ndV, ndM, e1, h3]; omega
                      · dsimp only; rw [byV, byM, keyB, e1]; simp only [ByteArray.size, Array.size]; simp; omega
                      · dsimp only
                        rw [txtV, e1]
                        simp only [show ¬ (4 : Int) = 1 by decide, show ¬ (4 : Int) = 2 by decide, show ¬ (4 : Int) = 3 by decide, if_false, if_true]
                        simp only [List.length_cons, List.length_append, List.length_nil]
                        cases hbt : (begunJ l k 93).1 with
                        | false =>
                          have hne : new = [] := by
                            rcases new with _ | ⟨a, b⟩
                            · rfl
                            · have := h6.2 (by simp); rw [hbt] at this; cases this
                          subst hne
                          have hp : k + 2 ≤ (begunJ l k 93).2 := by
                            unfold begunJ at hbt ⊢
                            dsimp only at hbt ⊢
                            have := @begunJ_lt l k 93
                            cases ht : tkJ l (blk l (k + 1)) 93 with
                            | true => simp; omega
                            | false => rw [ht] at hbt; cases hbt
                          rw [lenL] at h5
                          rw [txtL, joinB]
                          simp; omega
                        | true =>
                          have hne := h6.1 hbt
                          have := join_lenL new hne
                          omega
                  · split at h
                    · cases hw : memJ l D f (o + 1) (begunJ l k 125).1 (begunJ l k 125).2 (n + 1) [] with
                      | error e => rw [hw] at h; cases h
                      | ok y =>
                        rw [hw] at h; cases h
                        have hb := begunJ_le (c := 125) hk
                        obtain ⟨new, e1, h2, hnd, h3, h4, h5, h6⟩ := hM _ _ _ _ _ _ hb.2 hn1 hw
                        rw [List.nil_append] at e1
                        have hnd' := hnd List.nodup_nil
                        rw [e1] at hnd'
                        have hpm := sortM_perm new
                        refine ⟨?_, ?_, ?_, ?_⟩
                        · rw [okD, e1]
                          refine ⟨hoD, ?_, In64.zero, by rw [okDL]; trivial, okDM_iff.2 fun y hy => (h2 y (hpm.mem_iff.1 hy)).1⟩
                          rw [goodB, rise_of (sortM_sorted new) ((hpm.map _).nodup_iff.2 hnd') (fun y hy => (h2 y (hpm.mem_iff.1 hy)).2)]
                          have : plainB 5 false 0 ⟨#[]⟩ ([] : List V).length (sortM new).length = true := by rw [plainB, emp_list]; simp
                          rw [this]
                          rfl
                        · dsimp only; rw [ndV, ndL, e1, ndM_perm hpm, h3]; omega
                        · dsimp only; rw [byV, byL, e1, byM_perm hpm, keyB_perm hpm]; simp only [ByteArray.size, Array.size]; simp; omega
                        · dsimp only
                          rw [txtV, e1]
                          simp only [show ¬ (5 : Int) = 1 by decide, show ¬ (5 : Int) = 2 by decide, show ¬ (5 : Int) = 3 by decide, show ¬ (5 : Int) = 4 by decide, if_false, if_true]
                          simp only [List.length_cons, List.length_append, List.length_nil]
                          cases hbt : (begunJ l k 125).1 with
                          | false =>
                            have hne : new = [] := by
                              rcases new with _ | ⟨a, b⟩
                              · rfl
                              · have := h6.2 (by simp); rw [hbt] at this; cases this
                            subst hne
                            have hp : k + 2 ≤ (begunJ l k 125).2 := by
                              unfold begunJ at hbt ⊢
                              dsimp only at hbt ⊢
                              have := @begunJ_lt l k 125
                              cases ht : tkJ l (blk l (k + 1)) 125 with
                              | true => simp; omega
                              | false => rw [ht] at hbt; cases hbt
                            rw [lenM] at h5
                            rw [sortM, txtM, joinB]
                            simp; omega
                          | true =>
                            have hne := h6.1 hbt
                            have hne2 : sortM new ≠ [] := fun e => hne (by have := hpm.length_eq; rw [e] at this; exact List.length_eq_zero_iff.1 this.symm)
                            have := join_lenM (sortM new) hne2
                            rw [lenM_perm hpm] at this
                            omega
                    · cases hw : numJ l k with
                      | error e => rw [hw] at h; cases h
                      | ok y =>
                        rw [hw] at h; cases h
                        have h64 := (numJ_le (by omega) hw).2.2
                        rw [numJ] at hw
                        cases hi : intJ (runJ l k) with
                        | none => rw [hi] at hw; cases hw
                        | some v =>
                          rw [hi] at hw; cases hw
                          have hlen := itoa_len hi
                          refine ⟨leaf_ok hoD (by rw [plainB, emp_list]; simp) valid_emp h64, by rw [leaf_nd.1], by rw [leaf_nd.2]; simp [ByteArray.size], ?_⟩
                          rw [txtV]; simp; omega
    · intro o more k n acc x hk hn h
      cases more with
      | false =>
        rw [lisJ_end] at h; cases h
        exact ⟨[], by simp, by simp, by rw [ndL]; rfl, by rw [byL]; simp, by rw [lenL]; simp, by simp⟩
      | true =>
        cases hv : valJ l D f o k n with
        | error e => rw [lisJ_val hv] at h; cases h
        | ok y =>
          have h1 := lV _ _ _ _ hn hv
          have g1 := hV _ _ _ _ hn hv
          cases hg : goesJ l y.2.1 93 with
          | error e => rw [lisJ_goes hv hg] at h; cases h
          | ok z =>
            rw [lisJ_on hv hg] at h
            have h2 := goesJ_le h1.2.1 hg
            obtain ⟨new, e1, e2, e3, e4, e5, _⟩ := hL _ _ _ _ _ _ h2.2 h1.2.2 h
            refine ⟨y.1 :: new, by rw [e1]; simp, ?_, ?_, ?_, ?_, by simp⟩
            · intro q hq
              rcases List.mem_cons.1 hq with rfl | hq
              · exact g1.1
              · exact e2 q hq
            · rw [ndL, e3, g1.2.1]; omega
            · rw [byL]; omega
            · rw [lenL]; omega
    · intro o more k n acc x hk hn h
      cases more with
      | false =>
        rw [memJ_end] at h; cases h
        exact ⟨[], by simp, by simp, fun h => h, by rw [ndM]; rfl, by rw [byM, keyB]; simp, by rw [lenM]; simp, by simp⟩
      | true =>
        cases hq : keyJ l k (acc.map fun x => x.1.data.toList) with
        | error e => rw [memJ_key hq] at h; cases h
        | ok q =>
          have h0 := keyJ_in hq
          have hkg := keyJ_good hq
          cases hv : valJ l D f o q.2 n with
          | error e => rw [memJ_val hq hv] at h; cases h
          | ok y =>
            have h1 := lV _ _ _ _ hn hv
            have g1 := hV _ _ _ _ hn hv
            cases hg : goesJ l y.2.1 125 with
            | error e => rw [memJ_goes hq hv hg] at h; cases h
            | ok z =>
              rw [memJ_on hq hv hg] at h
              have h2 := goesJ_le h1.2.1 hg
              obtain ⟨new, e1, e2, end', e3, e4, e5, _⟩ := hM _ _ _ _ _ _ h2.2 h1.2.2 h
              refine ⟨(q.1, y.1) :: new, by rw [e1]; simp, ?_, ?_, ?_, ?_, ?_, by simp⟩
              · intro u hu
                rcases List.mem_cons.1 hu with rfl | hu
                · exact ⟨g1.1, hkg.1⟩
                · exact e2 u hu
              · intro hna
                refine end' ?_
                rw [keysM, List.map_append, List.map_cons, List.map_nil]
                exact List.nodup_append.2 ⟨hna, by simp, fun a ha b hb => by
                  rw [List.mem_singleton] at hb
                  subst hb
                  intro e
                  subst e
                  exact h0.2.2.2 ha⟩
              · rw [ndM, e3, g1.2.1]; omega
              · rw [byM, keyB]; dsimp only; omega
              · rw [lenM, txtE, List.length_append, List.length_cons]; dsimp only; omega
end Go.Proofs.YtpmhdcmmlkjjmaaGreatDoor
