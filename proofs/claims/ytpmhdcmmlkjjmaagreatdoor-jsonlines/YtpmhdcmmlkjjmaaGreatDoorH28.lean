/- joined: JgB JpsD JpsE JpsC JpsF -/
import Derived.Test.YtpmhdcmmlkjjmaaGreatDoorH27
/- what is read is good, and is written no longer than it stood there: the reader. -/
set_option linter.unusedSimpArgs false
set_option linter.unusedVariables false
set_option maxRecDepth 100000
namespace Go.Proofs.YtpmhdcmmlkjjmaaGreatDoor
open Go.RowKit Go.Lib
theorem wordJ_len {l : List UInt8} : ∀ {p : List UInt8} {k k' : Nat}, wordJ l k p = .ok k' → k' = k + p.length
  | [], k, k', h => by rw [wordJ] at h; cases h; rfl
  | c :: p, k, k', h => by
    rw [wordJ] at h
    cases hm : mustJ l k c with
    | error f => rw [hm] at h; cases h
    | ok k1 =>
      rw [hm] at h
      obtain ⟨rfl, _⟩ := mustJ_le hm
      have := wordJ_len (p := p) h
      rw [this, List.length_cons]; omega
theorem sz_ge : ∀ l : List UInt8, l.length ≤ Q.sz l
  | [] => Nat.zero_le _
  | c :: t => by
    have := sz_ge t
    have h : Q.sz (c :: t) = Q.wid c + Q.sz t := by simp [Q.sz, Q.body, Q.esc_length]
    have := Q.wid_pos c
    rw [h, List.length_cons]; omega
theorem quoJ_good {l : List UInt8} {k : Nat} {x : ByteArray × Nat} (h : quoJ l k = .ok x) : validD x.1.data.toList = true ∧ (Q.qt x.1.data.toList).length + k ≤ x.2 ∧ x.1.size + 2 + k ≤ x.2 := by
  have hp := Q.unqAll_inv l (k : Int)
  unfold quoJ at h
  split at h
  · rename_i h0
    cases h
    have hh := hp.2 h0
    have e : (Q.unqAll l (k : Int)).1.toArray.toList = (Q.unqAll l (k : Int)).1 := by simp
    refine ⟨by simpa using hh.1, ?_, ?_⟩
    · dsimp only
      simp only [List.toList_toArray] at *
      omega
    · have h2 := hh.2.2.2.1
      rw [Q.qt_length] at h2
      have h3 := sz_ge (Q.unqAll l (k : Int)).1
      show Array.size _ + 2 + k ≤ _
      rw [List.size_toArray]
      dsimp only
      omega
  · cases h
theorem rise_of {L : List Mem} (hs : L.Pairwise leM) (hn : (keysM L).Nodup) (hv : ∀ x ∈ L, validD x.1.data.toList = true) : riseB L = true := by
  refine riseB_true fun j hj => ?_
  rw [okAt, Bool.and_eq_true, Bool.or_eq_true]
  refine ⟨?_, ?_⟩
  · rw [keyAt_eq hj]; exact hv _ (List.getElem_mem hj)
  · by_cases h0 : j = 0
    · left; simp [h0]
    · right
      rw [keyAt_eq hj, keyAt_eq (show j - 1 < L.length by omega), ltB, less_k, decide_eq_true_iff]
      have h1 := List.pairwise_iff_getElem.1 hs (j - 1) j (by omega) hj (by omega)
      have h2 := List.pairwise_iff_getElem.1 hn (j - 1) j (by simp [keysM]; omega) (by simpa [keysM] using hj) (by omega)
      simp only [keysM, List.getElem_map] at h2
      have h1' : ¬ cmpS (L[j]).1 (L[j - 1]).1 < 0 := h1
      have h3 := k_anti (L[j - 1]).1 (L[j]).1
      have h4 : ¬ cmpS (L[j - 1]).1 (L[j]).1 = 0 := fun e => h2 (by rw [kz e])
      omega
theorem join_lenL : ∀ (l : List V), l ≠ [] → (joinB (txtL l)).length + 1 = lenL l
  | [], h => absurd rfl h
  | x :: t, _ => by
    rw [txtL, joinB, List.length_append, lenL]
    have : ∀ t : List V, ((txtL t).map (fun y => 44 :: y)).flatten.length = lenL t := by
      intro t
      induction t with
      | nil => rw [txtL]; rfl
      | cons y t ih => rw [txtL, List.map_cons, List.flatten_cons, List.length_append, ih, lenL, List.length_cons]
    rw [this t]; omega
theorem join_lenM : ∀ (l : List Mem), l ≠ [] → (joinB (txtM l)).length + 1 = lenM l
  | [], h => absurd rfl h
  | x :: t, _ => by
    rw [txtM_eq, List.map_cons, joinB, List.length_append, lenM]
    have : ∀ t : List Mem, ((t.map txtE).map (fun y => 44 :: y)).flatten.length = lenM t := by
      intro t
      induction t with
      | nil => rfl
      | cons y t ih => rw [List.map_cons, List.map_cons, List.flatten_cons, List.length_append, ih, lenM, List.length_cons]
    rw [this t]; omega
theorem plainE {k : Int} {b : Bool} {i : Int} {s : ByteArray} {nl : Nat} (hp : plainB k b i s nl 0 = true) (hs : validD s.data.toList = true) : goodB k b i s nl [] = true := by
  rw [goodB]
  have : riseB [] = true := rfl
  simp [hp, utfB, hs, this]
theorem emp_list : (⟨#[]⟩ : ByteArray).toList.isEmpty = true := by rw [toList_data]; rfl
theorem valid_emp : validD (⟨#[]⟩ : ByteArray).data.toList = true := rfl
theorem leaf_ok {D o : Nat} {k : Int} {b : Bool} {i : Int} {s : ByteArray} (ho : o ≤ D) (hp : plainB k b i s 0 0 = true) (hs : validD s.data.toList = true) (hi : In64 i) : okD D (.mk k b i s [] []) o := by
  rw [okD]
  exact ⟨ho, plainE hp hs, hi, by rw [okDL]; trivial, by rw [okDM]; trivial⟩
theorem leaf_nd {k : Int} {b : Bool} {i : Int} {s : ByteArray} : ndV (.mk k b i s [] []) = 1 ∧ byV (.mk k b i s [] []) = s.size := by
  refine ⟨by rw [ndV, ndL, ndM], by rw [byV, byL, byM, keyB]; omega⟩
theorem begunJ_lt {l : List UInt8} {k : Nat} {c : UInt8} : k + 1 ≤ blk l (k + 1) := by unfold blk; omega
theorem keyJ_good {l : List UInt8} {k : Nat} {ks : List (List UInt8)} {q : ByteArray × Nat} (h : keyJ l k ks = .ok q) : validD q.1.data.toList = true ∧ (Q.qt q.1.data.toList).length + 1 + k ≤ q.2 ∧ q.1.size + k ≤ q.2 := by
  rcases Nat.lt_or_ge k l.length with hk | hk
  · by_cases e : l[k] = 34
    · cases hq : quoJ l k with
      | error f => rw [keyJ_quo hk e hq] at h; cases h
      | ok x =>
        obtain ⟨x, k1⟩ := x
        have h1 := quoJ_good hq
        have h2 := quoJ_in hq
        dsimp only at h1 h2
        by_cases hx : x.data.toList ∈ ks
        · rw [keyJ_twice hk e hq hx] at h; cases h
        · have hb := blk_le (l := l) (k := k1) h2.2.1
          cases hm : mustJ l (blk l k1) 58 with
          | error f => rw [keyJ_colon hk e hq hx hm] at h; cases h
          | ok k2 =>
            rw [keyJ_ok hk e hq hx hm] at h
            cases h
            obtain ⟨e2, hl⟩ := mustJ_le hm
            have hb2 := blk_le (l := l) (k := k2) (by omega)
            exact ⟨h1.1, by dsimp only; omega, by dsimp only; omega⟩
    · rw [keyJ_byte hk e] at h; cases h
  · rw [keyJ_end hk] at h; cases h
/-- what is read -/
theorem allJ_good (l : List UInt8) (D : Nat) : ∀ f : Nat,
    (∀ o k n x, n ≤ 65536 → valJ l D f o k n = .ok x → okD D x.1 o ∧ x.2.2 = n + ndV x.1 ∧ byV x.1 + k ≤ x.2.1 ∧ (txtV x.1).length + k ≤ x.2.1) ∧
    (∀ o more k n acc x, k ≤ l.length → n ≤ 65536 → lisJ l D f o more k n acc = .ok x → ∃ new, x.1 = acc ++ new ∧ (∀ y ∈ new, okD D y o) ∧ x.2.2 = n + ndL new ∧ byL new + k ≤ x.2.1 ∧ lenL new + k ≤ x.2.1 ∧ (more = true ↔ new ≠ [])) ∧
    (∀ o more k n acc x, k ≤ l.length → n ≤ 65536 → memJ l D f o more k n acc = .ok x → ∃ new, x.1 = acc ++ new ∧ (∀ y ∈ new, okD D y.2 o ∧ validD y.1.data.toList = true) ∧ ((keysM acc).Nodup → (keysM x.1).Nodup) ∧ x.2.2 = n + ndM new ∧ byM new + keyB new + k ≤ x.2.1 ∧ lenM new + k ≤ x.2.1 ∧ (more = true ↔ new ≠ []))
  | 0 => by
    refine ⟨?_, ?_, ?_⟩
    · intro o k n x _ h; rw [valJ] at h; cases h
    · intro o more k n acc x _ _ h; rw [lisJ] at h; cases h
    · intro o more k n acc x _ _ h; rw [memJ] at h; cases h
  | f + 1 => by
    obtain ⟨hV, hL, hM⟩ := allJ_good l D f
    obtain ⟨lV, lL, lM⟩ := allJ_le l D f
    refine ⟨?_, ?_, ?_⟩
    · intro o k n x hn h
      rw [valJ] at h
      cases hx : nxJ l k with
      | error e => rw [hx] at h; cases h
      | ok c =>
        rw [hx] at h
        dsimp only at h
        have hk : k < l.length := by
          rcases Nat.lt_or_ge k l.length with hk | hk
          · exact hk
          · rw [nxJ, List.getElem?_eq_none hk] at hx; cases hx
        cases he : entJ c D n o k with
        | error e => rw [he] at h; cases h
        | ok n1 =>
          rw [he] at h
          dsimp only at h
          obtain ⟨e1, hn1, hoD⟩ := entJ_le hn he
          subst e1
          split at h
          · cases hw : wordJ l k [110, 117, 108, 108] with
            | error e => rw [hw] at h; cases h
            | ok k1 =>
              rw [hw] at h; cases h
              have := wordJ_len hw
              subst this
              refine ⟨leaf_ok hoD (by rw [plainB, emp_list]; decide) valid_emp In64.zero, by show n + 1 = n + ndV (.mk 0 false 0 ⟨#[]⟩ [] []); rw [leaf_nd.1], by show byV (.mk 0 false 0 ⟨#[]⟩ [] []) + k ≤ k + 4; rw [leaf_nd.2]; simp [ByteArray.size], ?_⟩
              rw [nulV, txtV]; simp; omega
          · split at h
            · cases hw : wordJ l k [116, 114, 117, 101] with
              | error e => rw [hw] at h; cases h
              | ok k1 =>
                rw [hw] at h; cases h
                have := wordJ_len hw
                subst this
                refine ⟨leaf_ok hoD (by rw [plainB, emp_list]; decide) valid_emp In64.zero, by rw [leaf_nd.1], by rw [leaf_nd.2]; simp [ByteArray.size], ?_⟩
                rw [txtV]; simp; omega
            · split at h
              · cases hw : wordJ l k [102, 97, 108, 115, 101] with
                | error e => rw [hw] at h; cases h
                | ok k1 =>
                  rw [hw] at h; cases h
                  have := wordJ_len hw
                  subst this
                  refine ⟨leaf_ok hoD (by rw [plainB, emp_list]; decide) valid_emp In64.zero, by rw [leaf_nd.1], by rw [leaf_nd.2]; simp [ByteArray.size], ?_⟩
                  rw [txtV]; simp; omega
              · split at h
                · cases hw : quoJ l k with
                  | error e => rw [hw] at h; cases h
                  | ok y =>
                    rw [hw] at h; cases h
                    have hq := quoJ_good hw
                    refine ⟨leaf_ok hoD (by rw [plainB]; simp) hq.1 In64.zero, by rw [leaf_nd.1], by rw [leaf_nd.2]; dsimp only; omega, ?_⟩
                    rw [txtV]; simp; omega
                · split at h
                  · cases hw : lisJ l D f (o + 1) (begunJ l k 93).1 (begunJ l k 93).2 (n + 1) [] with
                    | error e => rw [hw] at h; cases h
                    | ok y =>
                      rw [hw] at h; cases h
                      have hb := begunJ_le (c := 93) hk
                      obtain ⟨new, e1, h2, h3, h4, h5, h6⟩ := hL _ _ _ _ _ _ hb.2 hn1 hw
                      rw [List.nil_append] at e1
                      refine ⟨?_, ?_, ?_, ?_⟩
                      · rw [okD, e1]
                        exact ⟨hoD, plainE (by rw [plainB, emp_list]; simp) valid_emp, In64.zero, okDL_iff.2 h2, by rw [okDM]; trivial⟩
                      · dsimp only; rw [ndV, ndM, e1, h3]; omega
                      · dsimp only; rw [byV, byM, keyB, e1]; simp only [ByteArray.size, Array.size]; simp; omega
                      · dsimp only
                        rw [txtV, e1]
                        simp only [show ¬ (4 : Int) = 1 by decide, show ¬ (4 : Int) = 2 by decide, show ¬ (4 : Int) = 3 by decide, if_false, if_true]
                        simp only [List.length_cons, List.length_append, List.length_nil]
                        cases hbt : (begunJ l k 93).1 with
                        | false =>
                          have hne : new = [] := by
                            rcases new with _ | ⟨a, b⟩
                            · rfl
                            · have := h6.2 (by simp); rw [hbt] at this; cases this
                          subst hne
                          have hp : k + 2 ≤ (begunJ l k 93).2 := by
                            unfold begunJ at hbt ⊢
                            dsimp only at hbt ⊢
                            have := @begunJ_lt l k 93
                            cases ht : tkJ l (blk l (k + 1)) 93 with
                            | true => simp; omega
                            | false => rw [ht] at hbt; cases hbt
                          rw [lenL] at h5
                          rw [txtL, joinB]
                          simp; omega
                        | true =>
                          have hne := h6.1 hbt
                          have := join_lenL new hne
                          omega
                  · split at h
                    · cases hw : memJ l D f (o + 1) (begunJ l k 125).1 (begunJ l k 125).2 (n + 1) [] with
                      | error e => rw [hw] at h; cases h
                      | ok y =>
                        rw [hw] at h; cases h
                        have hb := begunJ_le (c := 125) hk
                        obtain ⟨new, e1, h2, hnd, h3, h4, h5, h6⟩ := hM _ _ _ _ _ _ hb.2 hn1 hw
                        rw [List.nil_append] at e1
                        have hnd' := hnd List.nodup_nil
                        rw [e1] at hnd'
                        have hpm := sortM_perm new
                        refine ⟨?_, ?_, ?_, ?_⟩
                        · rw [okD, e1]
                          refine ⟨hoD, ?_, In64.zero, by rw [okDL]; trivial, okDM_iff.2 fun y hy => (h2 y (hpm.mem_iff.1 hy)).1⟩
                          rw [goodB, rise_of (sortM_sorted new) ((hpm.map _).nodup_iff.2 hnd') (fun y hy => (h2 y (hpm.mem_iff.1 hy)).2)]
                          have : plainB 5 false 0 ⟨#[]⟩ ([] : List V).length (sortM new).length = true := by rw [plainB, emp_list]; simp
                          rw [this]
                          rfl
                        · dsimp only; rw [ndV, ndL, e1, ndM_perm hpm, h3]; omega
                        · dsimp only; rw [byV, byL, e1, byM_perm hpm, keyB_perm hpm]; simp only [ByteArray.size, Array.size]; simp; omega
                        · dsimp only
                          rw [txtV, e1]
                          simp only [show ¬ (5 : Int) = 1 by decide, show ¬ (5 : Int) = 2 by decide, show ¬ (5 : Int) = 3 by decide, show ¬ (5 : Int) = 4 by decide, if_false, if_true]
                          simp only [List.length_cons, List.length_append, List.length_nil]
                          cases hbt : (begunJ l k 125).1 with
                          | false =>
                            have hne : new = [] := by
                              rcases new with _ | ⟨a, b⟩
                              · rfl
                              · have := h6.2 (by simp); rw [hbt] at this; cases this
                            subst hne
                            have hp : k + 2 ≤ (begunJ l k 125).2 := by
                              unfold begunJ at hbt ⊢
                              dsimp only at hbt ⊢
                              have := @begunJ_lt l k 125
                              cases ht : tkJ l (blk l (k + 1)) 125 with
                              | true => simp; omega
                              | false => rw [ht] at hbt; cases hbt
                            rw [lenM] at h5
                            rw [sortM, txtM, joinB]
                            simp; omega
                          | true =>
                            have hne := h6.1 hbt
                            have hne2 : sortM new ≠ [] := fun e => hne (by have := hpm.length_eq; rw [e] at this; exact List.length_eq_zero_iff.1 this.symm)
                            have := join_lenM (sortM new) hne2
                            rw [lenM_perm hpm] at this
                            omega
                    · cases hw : numJ l k with
                      | error e => rw [hw] at h; cases h
                      | ok y =>
                        rw [hw] at h; cases h
                        have h64 := (numJ_le (by omega) hw).2.2
                        rw [numJ] at hw
                        cases hi : intJ (runJ l k) with
                        | none => rw [hi] at hw; cases hw
                        | some v =>
                          rw [hi] at hw; cases hw
                          have hlen := itoa_len hi
                          refine ⟨leaf_ok hoD (by rw [plainB, emp_list]; simp) valid_emp h64, by rw [leaf_nd.1], by rw [leaf_nd.2]; simp [ByteArray.size], ?_⟩
                          rw [txtV]; simp; omega
    · intro o more k n acc x hk hn h
      cases more with
      | false =>
        rw [lisJ_end] at h; cases h
        exact ⟨[], by simp, by simp, by rw [ndL]; rfl, by rw [byL]; simp, by rw [lenL]; simp, by simp⟩
      | true =>
        cases hv : valJ l D f o k n with
        | error e => rw [lisJ_val hv] at h; cases h
        | ok y =>
          have h1 := lV _ _ _ _ hn hv
          have g1 := hV _ _ _ _ hn hv
          cases hg : goesJ l y.2.1 93 with
          | error e => rw [lisJ_goes hv hg] at h; cases h
          | ok z =>
            rw [lisJ_on hv hg] at h
            have h2 := goesJ_le h1.2.1 hg
            obtain ⟨new, e1, e2, e3, e4, e5, _⟩ := hL _ _ _ _ _ _ h2.2 h1.2.2 h
            refine ⟨y.1 :: new, by rw [e1]; simp, ?_, ?_, ?_, ?_, by simp⟩
            · intro q hq
              rcases List.mem_cons.1 hq with rfl | hq
              · exact g1.1
              · exact e2 q hq
            · rw [ndL, e3, g1.2.1]; omega
            · rw [byL]; omega
            · rw [lenL]; omega
    · intro o more k n acc x hk hn h
      cases more with
      | false =>
        rw [memJ_end] at h; cases h
        exact ⟨[], by simp, by simp, fun h => h, by rw [ndM]; rfl, by rw [byM, keyB]; simp, by rw [lenM]; simp, by simp⟩
      | true =>
        cases hq : keyJ l k (acc.map fun x => x.1.data.toList) with
        | error e => rw [memJ_key hq] at h; cases h
        | ok q =>
          have h0 := keyJ_in hq
          have hkg := keyJ_good hq
          cases hv : valJ l D f o q.2 n with
          | error e => rw [memJ_val hq hv] at h; cases h
          | ok y =>
            have h1 := lV _ _ _ _ hn hv
            have g1 := hV _ _ _ _ hn hv
            cases hg : goesJ l y.2.1 125 with
            | error e => rw [memJ_goes hq hv hg] at h; cases h
            | ok z =>
              rw [memJ_on hq hv hg] at h
              have h2 := goesJ_le h1.2.1 hg
              obtain ⟨new, e1, e2, end', e3, e4, e5, _⟩ := hM _ _ _ _ _ _ h2.2 h1.2.2 h
              refine ⟨(q.1, y.1) :: new, by rw [e1]; simp, ?_, ?_, ?_, ?_, ?_, by simp⟩
              · intro u hu
                rcases List.mem_cons.1 hu with rfl | hu
                · exact ⟨g1.1, hkg.1⟩
                · exact e2 u hu
              · intro hna
                refine end' ?_
                rw [keysM, List.map_append, List.map_cons, List.map_nil]
                exact List.nodup_append.2 ⟨hna, by simp, fun a ha b hb => by
                  rw [List.mem_singleton] at hb
                  subst hb
                  intro e
                  subst e
                  exact h0.2.2.2 ha⟩
              · rw [ndM, e3, g1.2.1]; omega
              · rw [byM, keyB]; dsimp only; omega
              · rw [lenM, txtE, List.length_append, List.length_cons]; dsimp only; omega
end Go.Proofs.YtpmhdcmmlkjjmaaGreatDoor
/- where appended bytes lie: in their row, or in a new block. -/
namespace Go.Proofs.YtpmhdcmmlkjjmaaGreatDoor
open Go.RowKit Go.Lib
/-- in the row that v has, or in a block from n on -/
def Lands (v : Value) (n : Nat) (v' : Value) : Prop := ∀ g, v'.ownBlock = some g → v.ownBlock = some g ∨ n ≤ g
theorem Lands.trans {v v1 v2 : Value} {n n1 : Nat} (h : Lands v n v1) (h' : Lands v1 n1 v2) (hn : n ≤ n1) : Lands v n v2 := fun g hg => by
  rcases h' g hg with e | e
  · exact h g e
  · exact .inr (Nat.le_trans hn e)
theorem Lands.refl (v : Value) (n : Nat) : Lands v n v := fun g hg => .inl hg
theorem run_str_where (w : World) (B : Nat) (v : Value) (l : List UInt8) (hown : OwnB B v l w) (ty : TypeId) (t : ByteArray) (h0 : 0 < t.size) (hlen : l.length + t.size ≤ 140737488355328) (hbase : B ≤ w.heap.size) :
    ∃ v' w', (Builtin.append_ #[28, 9] ty #[v, .string t]).run Tryz.prog w = .ok v' w' ∧ OwnB B v' (l ++ t.data.toList) w' ∧ w.grownBy w' v.ownBlock ∧ Lands v w.heap.size v' := by
  obtain ⟨i0, hi, hz0, hz1, hz2⟩ := info_parts info5
  obtain ⟨v', w', hr, h1, h2, _⟩ := run_append_own_string (P := Tryz.prog) w B 28 9 ty 5 i0 Tryz.underlying28 Tryz.underlying9 hi hz0 hz1 hz2 v l.length (byteCells l) hown t (by unfold maxLen; omega) hlen hbase
  refine ⟨v', w', hr, ?_, h2, ?_⟩
  · show w'.ownsRow B 5 1 v' (l ++ t.data.toList).length (byteCells (l ++ t.data.toList))
    have e : byteCells (l ++ t.data.toList) = byteCells l ++ strCells t := by simp [byteCells, strCells]
    have e2 : t.data.toList.length = t.size := by rw [Array.length_toList]; rfl
    rw [e, List.length_append, e2]
    exact h1
  · intro g' hg'
    rcases hown.2 with ⟨rfl, hx⟩ | ⟨g, cap, cur, rfl, hbg, hg, hnc, hcm, hcs, htake⟩
    · have h3 := run_append_nil_string (P := Tryz.prog) w 28 9 ty 5 i0 (.int .u8 0) Tryz.underlying28 Tryz.underlying9 hi hz0 t h0 (by omega) (by rw [hz2]; omega)
      rw [h3] at hr
      obtain ⟨rfl, _⟩ := Result.ok.inj hr
      simp [Value.ownBlock] at hg'
      exact .inr (by omega)
    · by_cases hroom : l.length + t.size ≤ cap
      · have hcs' : cur.size = cap := by simpa using hcs
        have h3 := run_append_room_string (P := Tryz.prog) w 28 9 ty 5 i0 Tryz.underlying28 Tryz.underlying9 hi hz1 g l.length cap cur hg t hroom (by omega)
        rw [h3] at hr
        obtain ⟨rfl, _⟩ := Result.ok.inj hr
        exact .inl hg'
      · have hxl : (byteCells l).length = l.length := byteCells_length l
        have holds : ∀ j u, (byteCells l)[j]? = some u → w.cell? ((⟨g, 0, none⟩ : Addr).add j) = some u := World.ownsRow.cells hown (g := g) rfl
        have h3 := run_append_grow_string (P := Tryz.prog) w 28 9 ty 5 i0 (.int .u8 0) Tryz.underlying28 Tryz.underlying9 hi hz0 ⟨g, 0, none⟩ l.length cap (byteCells l) (by rw [hz1]; omega) holds t (by omega) (by omega) (by rw [hz2]; exact growslice_fits (by omega) (by omega))
        rw [h3] at hr
        obtain ⟨rfl, _⟩ := Result.ok.inj hr
        simp [Value.ownBlock] at hg'
        exact .inr (by omega)
end Go.Proofs.YtpmhdcmmlkjjmaaGreatDoor
/- json.appendString, appendList, appendMap: bytes that are appended to, and that nothing else has turned. -/
namespace Go.Proofs.YtpmhdcmmlkjjmaaGreatDoor
open Go.RowKit Go.Lib
theorem OwnB.lt {B : Nat} {v : Value} {l : List UInt8} {w : World} (h : OwnB B v l w) {g : Nat} (hg : v.ownBlock = some g) : B ≤ g ∧ g < w.heap.size := World.ownsRow.lt h g hg
theorem gtrans {w w1 w2 : World} {row : Option Nat} (h : w.grownBy w1 row) (h' : w1.grownBy w2 row) : w.grownBy w2 row :=
  ⟨h'.os.trans h.os, h'.tape.trans h.tape, h'.output.trans h.output, Nat.le_trans h.size h'.size, fun k hk hne => (h'.block k (Nat.lt_of_lt_of_le hk h.size) hne).trans (h.block k hk hne)⟩
theorem gnone {w w1 : World} (h : w.grownBy w1 none) (row : Option Nat) : w.grownBy w1 row := ⟨h.os, h.tape, h.output, h.size, fun k hk _ => h.block k hk (by simp)⟩
theorem OwnB.belowOf {B : Nat} {v : Value} {l : List UInt8} {w w' : World} (h : OwnB B v l w) (g : w.grownBy w' v.ownBlock) (hB : B ≤ w.heap.size) : Below B w w' := (Below.refl B w).grown g hB (fun k hk => (h.lt hk).1)
/-- the answer: bytes l, in the row that bv has or in a new block; nothing but that row has turned -/
def ApQ (B : Nat) (bv : Value) (l : List UInt8) (w : World) (e : Ending) (w' : World) : Prop := ∃ v', e = .returned v' ∧ OwnB B v' l w' ∧ w.grownBy w' bv.ownBlock ∧ Lands bv w.heap.size v'
theorem wpl_strQ {ops : Array Oper} {rest : List Oper} {o : Oper} {a : Act} {Q : Exit → Act → World → Prop} (w : World) (hgd : o.guard = none) (s x : Operand)
    (ho : o.op = .call { callee := .builtin .append, args := #[s, x], argTypes := #[28, 9] }) (B : Nat) (v : Value) (l : List UInt8) (hs : a.eval s = v) (hown : OwnB B v l w)
    (t : ByteArray) (hx : a.eval x = .string t) (h0 : 0 < t.size) (hlen : l.length + t.size ≤ 140737488355328) (hbase : B ≤ w.heap.size)
    (h : ∀ v' w', OwnB B v' (l ++ t.data.toList) w' → w.grownBy w' v.ownBlock → Lands v w.heap.size v' → wpList Tryz.prog ops Q rest (a.put o.dst v') w') : wpList Tryz.prog ops Q (o :: rest) a w := by
  refine wpList_plain hgd fun K hK => ?_
  obtain ⟨v', w', hr, h2, h3, h4⟩ := run_str_where w B v l hown o.type t h0 hlen hbase
  unfold Oper.wp execOp
  simp only [ho, resolve, invoke, builtin, Sem.run_bind, Sem.run_pure, Result.andThen_ok, List.map_toArray, List.map_cons, List.map_nil, hs, hx, hr]
  exact hK _ _ (h v' w' h2 h3 h4)
theorem wpl_appQ {ops : Array Oper} {rest : List Oper} {o : Oper} {a : Act} {Q : Exit → Act → World → Prop} (w : World) (hgd : o.guard = none) (s x : Operand)
    (ho : o.op = .call { callee := .builtin .append, args := #[s, x], argTypes := #[28, 28] }) (B : Nat) (v : Value) (l : List UInt8) (hs : a.eval s = v) (hown : OwnB B v l w)
    (g : Nat) (c : UInt8) (hx : a.eval x = .slice (some ⟨g, 0, none⟩) 1 1) (fr : Nat × Nat) (hblk : w.heap[g]? = some (.cells #[.int .u8 c.toNat] 5 fr))
    (hlen : l.length + 1 ≤ 140737488355328) (hbase : B ≤ w.heap.size)
    (h : ∀ v' w', OwnB B v' (l ++ [c]) w' → w.grownBy w' v.ownBlock → Lands v w.heap.size v' → wpList Tryz.prog ops Q rest (a.put o.dst v') w') : wpList Tryz.prog ops Q (o :: rest) a w := by
  obtain ⟨i0, hi, hz0, hz1, hz2⟩ := info_parts info5
  refine wpList_plain hgd fun K hK => ?_
  obtain ⟨g', cap, w', hr, h1, h2, h3⟩ := run_append_new (P := Tryz.prog) w B 28 o.type 5 i0 (.int .u8 0) 1 1 Tryz.underlying28 hi hz0 hz1 hz2 rfl (by decide) v l.length (byteCells l) hown ⟨g, 0, none⟩ 1 1 [.int .u8 c.toNat] rfl (fun j u hu => by
    rcases j with _ | j
    · have : u = .int .u8 c.toNat := by simpa using hu.symm
      rw [this]
      show w.cell? ⟨g, 0 + 0, none⟩ = _
      rw [cell_of_block hblk]; rfl
    · simp at hu) (fun u hu => by rw [List.mem_singleton.1 hu]; rfl) (by unfold maxLen; omega) (by omega) hbase (by omega)
  unfold Oper.wp execOp
  simp only [ho, resolve, invoke, builtin, Sem.run_bind, Sem.run_pure, Result.andThen_ok, List.map_toArray, List.map_cons, List.map_nil, hs, hx, hr]
  refine hK _ _ (h _ w' ?_ h2 ?_)
  · show w'.ownsRow B 5 1 _ (l ++ [c]).length (byteCells (l ++ [c]))
    have e : byteCells (l ++ [c]) = byteCells l ++ [.int .u8 c.toNat] := by simp [byteCells]
    rw [e, List.length_append]
    exact h1
  · intro q hq
    have : q = g' := by simpa [Value.ownBlock] using hq.symm
    rw [this]
    exact h3
set_option maxHeartbeats 1000000 in
set_option maxRecDepth 100000 in
theorem appstr_q (s : ByteArray) (B : Nat) (bv : Value) (bs : List UInt8) (w : World) (td : Tdl w) (hBw : B ≤ w.heap.size) (ho : OwnB B bv bs w) (hs : s.size ≤ 1048576) (hV : validD s.data.toList = true) (hlen : bs.length ≤ 1000000000) :
    Calls Tryz.prog 40 #[bv, .string s] w (ApQ B bv (bs ++ Q.qt s.data.toList) w) := by
  have c := quote_good s w (by omega) td.u td.l td.z hV
  have hq : (⟨(Q.qt s.data.toList).toArray⟩ : ByteArray).size ≤ 6291458 ∧ 0 < (⟨(Q.qt s.data.toList).toArray⟩ : ByteArray).size := by
    have h1 := Q.qt_length s.data.toList
    have h2 := Q.sz_le s.data.toList
    have h3 : s.data.toList.length = s.size := by rw [Array.length_toList]; rfl
    show (Q.qt s.data.toList).toArray.size ≤ _ ∧ 0 < (Q.qt s.data.toList).toArray.size
    rw [List.size_toArray]
    omega
  have HD : Hid ((⟨(Q.qt s.data.toList).toArray⟩ : ByteArray).data.toList = Q.qt s.data.toList) := rfl
  generalize (⟨(Q.qt s.data.toList).toArray⟩ : ByteArray) = qs at *
  obtain ⟨hq1, hq2⟩ := hq
  go_enter Tryz.func40, Tryz.ntmps40
  go_wp2_with fail
  refine c.mono ?_
  rintro e w1 ⟨rfl, b1⟩
  have ho1 := ho.below b1
  have hz := b1.size
  have g1 := gnone (grown_of_below b1) bv.ownBlock
  go_wp2_with (at_builtin; go_loud (refine wpl_strQ _ rfl (.tmp 12) (.tmp 13) rfl B bv bs rfl ho1 qs rfl hq2 (by omega) (by omega) ?_))
  intro v' w2 o2 g2 l2
  go_wp2_with fail
  go_ret
  rw [HD.out] at o2
  exact ⟨_, rfl, o2, gtrans g1 g2, fun g hg => (l2 g hg).imp id (fun h => Nat.le_trans hz h)⟩
end Go.Proofs.YtpmhdcmmlkjjmaaGreatDoor
/- json.appendList, appendMap, appendValue. -/
namespace Go.Proofs.YtpmhdcmmlkjjmaaGreatDoor
open Go.RowKit Go.Lib
/-- what appendValue does with x -/
def AppV (x : V) : Prop := ∀ (R : Bool) (S : Nat → Prop) (cs : List Value) (B : Nat) (bv : Value) (bs : List UInt8) (w : World), x.lies R w S cs → (∀ b, S b → b < B) → Tdl w → 9 < B → B ≤ w.heap.size → OwnB B bv bs w → prV x → x.wt ≤ 1114112 → bs.length + 40 * x.wt ≤ 1000000000 →
  Calls Tryz.prog 27 #[bv, .agg cs.toArray] w (ApPost B (bs ++ txtV x) w)
/-- append of bytes, and that nothing but their own row has turned -/
theorem wpl_appG {ops : Array Oper} {rest : List Oper} {o : Oper} {a : Act} {Q : Exit → Act → World → Prop} (w : World) (hgd : o.guard = none) (s x : Operand)
    (ho : o.op = .call { callee := .builtin .append, args := #[s, x], argTypes := #[28, 28] }) (B : Nat) (v : Value) (l : List UInt8) (hs : a.eval s = v) (hown : OwnB B v l w)
    (g m c : Nat) (new : List UInt8) (hx : a.eval x = .slice (some ⟨g, 0, none⟩) m c) (hm : new.length = m) (cs : Array Value) (fr : Nat × Nat) (hblk : w.heap[g]? = some (.cells cs 5 fr)) (hcs : cs.toList = byteCells new)
    (hlen : l.length + new.length ≤ 140737488355328) (hbase : B ≤ w.heap.size)
    (h : ∀ v' w', OwnB B v' (l ++ new) w' → Below B w w' → w.grownBy w' v.ownBlock → wpList Tryz.prog ops Q rest (a.put o.dst v') w') : wpList Tryz.prog ops Q (o :: rest) a w := by
  obtain ⟨i0, hi, hz0, hz1, hz2⟩ := info_parts info5
  refine wpList_append_own w hgd s x 28 ho B 5 i0 (.int .u8 0) 1 1 Tryz.underlying28 hi hz0 hz1 hz2 rfl (by decide) v l.length (byteCells l) hs hown ⟨g, 0, none⟩ m c (byteCells new) hx
    (by rw [byteCells_length, hm]; omega) (by rw [← hcs]; exact World.news_of_block hblk) (bytes_oneCell new) (by unfold maxLen; omega) (by omega) hbase ?_
  intro v' w' h1 h2 _
  refine h v' w' ?_ ((Below.refl B w).grown h2 hbase (fun k hk => (World.ownsRow.lt hown k hk).1)) h2
  show w'.ownsRow B 5 1 v' (l ++ new).length (byteCells (l ++ new))
  have e : byteCells (l ++ new) = byteCells l ++ byteCells new := by simp [byteCells]
  rw [e, List.length_append, hm]
  exact h1
set_option maxHeartbeats 2000000 in
set_option maxRecDepth 100000 in
theorem applist_any (l : List V) (ih : ∀ x ∈ l, AppV x) (R : Bool) (S : Nat → Prop) (al : Option Addr) (cl bl ol : Nat) (B : Nat) (bv : Value) (bs : List UInt8) (w : World) (hal : Headed al l.length cl bl ol) (hl : liesL R w S l bl ol) (hS : ∀ b, S b → b < B) (td : Tdl w) (hB3 : 9 < B) (hBw : B ≤ w.heap.size) (ho : OwnB B bv bs w) (hp : prL l) (hwt : wtL l ≤ 1114112) (hlen : bs.length + 40 * wtL l + 5 ≤ 1000000000) :
    Calls Tryz.prog 41 #[bv, .slice al l.length cl] w (ApPost B (bs ++ (91 :: (joinB (txtL l) ++ [93]))) w) := by
  have hll := wtL_len l
  have HL : Hid (∀ W, Below B w W → liesL R W S l bl ol ∧ Tdl W) := fun W hb => ⟨liesL_keep (fun h => h) (fun x hx => hb.block x (hS x hx)) (fun _ h => h) _ hl, td.below hb hB3 hb.size⟩
  have HE : Hid (bs ++ (91 :: (joinB (txtL l) ++ [93])) = (bs ++ [(91 : UInt8)] ++ jL l l.length) ++ [93]) := by show _ = _; rw [jL, List.take_length]; simp
  have HN : Hid (∀ j, (jL l j).length ≤ 40 * wtL l) := fun j => Nat.le_trans (jL_len j hp) (Nat.mul_le_mul_left _ (wtL_take l j))
  have HI : Hid (∀ j (h : j < l.length), AppV l[j] ∧ prV l[j] ∧ (l[j]).wt ≤ wtL l ∧ (jL l j).length + 40 * (l[j]).wt ≤ 40 * wtL l) := fun j h => by
    have h1 := jL_len j hp
    have h2 := wtL_app (l.take j) (l.drop j)
    rw [List.take_append_drop, List.drop_eq_getElem_cons h, wtL] at h2
    exact ⟨ih _ (List.getElem_mem h), prL_mem hp _ (List.getElem_mem h), wtL_mem (List.getElem_mem h), by omega⟩
  have HJ1 : Hid (∀ h : 0 < l.length, jL l 1 = txtV l[0]) := fun h => jL_one h
  have HJ2 : Hid (∀ j (h : j < l.length), j ≠ 0 → jL l (j + 1) = (jL l j ++ [44]) ++ txtV l[j]) := fun j h h0 => jL_more h h0
  clear hl td
  go_enter Tryz.func41, Tryz.ntmps41
  go_wp2_with (at_builtin; go_loud (refine wpl_appG _ rfl (.tmp 7) (.tmp 8) rfl B _ _ rfl (ho.alloc _) w.heap.size 1 1 [91] rfl rfl _ _ (heap_alloc_new w _) rfl (by (try simp only [List.length_append, List.length_cons, List.length_nil]); omega) (by rw [alloc_size]; omega) ?_))
  intro v1 w1 o1 b1 _
  have B1 : Below B w w1 := ((Below.refl B w).alloc hBw _).trans b1
  clear b1
  go_wp2_with fail
  go_loopw [0, 12] (fun e0 e12 wr => ∃ (j : Nat) (bv' : Value), j ≤ l.length ∧ bv' = e0 ∧ e12 = .int .i64 (j : Int) ∧ OwnB B bv' (bs ++ [(91 : UInt8)] ++ jL l j) wr ∧ Hid (Below B w wr)) (fun _ e _ => l.length - (RowKit.intOf e).toNat)
  case atStart => exact ⟨0, _, by omega, rfl, rfl, by rw [jL_zero, List.append_nil]; exact o1, B1⟩
  case round =>
    clear o1 B1
    obtain ⟨j, bv', hj, rfl, rfl, oj, Bj⟩ := hrel
    have hnj := HN.out j
    obtain ⟨P, hP⟩ : ∃ P, bs ++ [(91 : UInt8)] ++ jL l j = P := ⟨_, rfl⟩
    have HPP : Hid (bs ++ [(91 : UInt8)] ++ jL l j = P) := hP
    have hPl : P.length = bs.length + 1 + (jL l j).length := by rw [← hP]; simp only [List.length_append, List.length_cons, List.length_nil]
    rw [hP] at oj
    clear hP
    have hzr := Bj.out.size
    by_cases hjl : j < l.length
    · have y1 : (j : Int) < l.length := by omega
      obtain rfl : al = some ⟨bl, ol, none⟩ := hal.at_.resolve_left (by omega)
      obtain ⟨hSb, csj, hrow, hlj⟩ := liesL_get (HL.out wr Bj.out).1 j hjl
      obtain ⟨ek, eb, ei, es, eal, enl, ecl, eam, enm, ecm, rfl⟩ := V.ten hlj
      obtain ⟨q0, q1, q2, q3, q4, q5⟩ := row6 hrow
      obtain ⟨hA, hpj, hwj, hlj2⟩ := HI.out j hjl
      have nb := heap_alloc_new wr (.cells #[.int .i64 ek, .bool eb, .int .i64 ei, .string es, .slice eal enl ecl, .slice eam enm ecm] 25)
      have hza := alloc_size wr (.cells #[.int .i64 ek, .bool eb, .int .i64 ei, .string es, .slice eal enl ecl, .slice eam enm ecm] 25)
      have hlW : ∀ W, Below B wr W → (l[j]).lies R W S [.int .i64 ek, .bool eb, .int .i64 ei, .string es, .slice eal enl ecl, .slice eam enm ecm] := fun W hb => V.lies_keep (fun h => h) (fun x hx => hb.block x (hS x hx)) (fun _ h => h) _ hlj
      have HLW : Hid (∀ W, Below B wr W → (l[j]).lies R W S [.int .i64 ek, .bool eb, .int .i64 ei, .string es, .slice eal enl ecl, .slice eam enm ecm]) := hlW
      have HA : Hid (AppV l[j]) := hA
      have bA : Below B wr (wr.alloc (.cells #[.int .i64 ek, .bool eb, .int .i64 ei, .string es, .slice eal enl ecl, .slice eam enm ecm] 25)) := (Below.refl B wr).alloc (by omega) _
      have oA := oj.alloc (.cells #[.int .i64 ek, .bool eb, .int .i64 ei, .string es, .slice eal enl ecl, .slice eam enm ecm] 25)
      have hlt := fun g hg => (oj.lt (g := g) hg).2
      clear hlj hlW hA hrow
      by_cases hj0 : j = 0
      · have HT : Hid (bs ++ [(91 : UInt8)] ++ jL l (j + 1) = P ++ txtV l[j]) := by
          show _ = _
          rw [← HPP.out]
          subst hj0
          rw [HJ1.out hjl, jL_zero]; simp
        have y2 : ¬ (j : Int) > 0 := by omega
        have y3 : ¬ (0 : Int) < j := by omega
        have y4 : ¬ 0 < j := by omega
        have y5 : decide (0 < j) = false := by simp [hj0]
        clear hj0
        have n0 : (wr.alloc (.cells #[.int .i64 ek, .bool eb, .int .i64 ei, .string es, .slice eal enl ecl, .slice eam enm ecm] 25)).cell? ⟨wr.heap.size, 0, none⟩ = some (.int .i64 ek) := by rw [cell_of_block nb]; rfl
        have n1 : (wr.alloc (.cells #[.int .i64 ek, .bool eb, .int .i64 ei, .string es, .slice eal enl ecl, .slice eam enm ecm] 25)).cell? ⟨wr.heap.size, 1, none⟩ = some (.bool eb) := by rw [cell_of_block nb]; rfl
        have n2 : (wr.alloc (.cells #[.int .i64 ek, .bool eb, .int .i64 ei, .string es, .slice eal enl ecl, .slice eam enm ecm] 25)).cell? ⟨wr.heap.size, 2, none⟩ = some (.int .i64 ei) := by rw [cell_of_block nb]; rfl
        have n3 : (wr.alloc (.cells #[.int .i64 ek, .bool eb, .int .i64 ei, .string es, .slice eal enl ecl, .slice eam enm ecm] 25)).cell? ⟨wr.heap.size, 3, none⟩ = some (.string es) := by rw [cell_of_block nb]; rfl
        have n4 : (wr.alloc (.cells #[.int .i64 ek, .bool eb, .int .i64 ei, .string es, .slice eal enl ecl, .slice eam enm ecm] 25)).cell? ⟨wr.heap.size, 4, none⟩ = some (.slice eal enl ecl) := by rw [cell_of_block nb]; rfl
        have n5 : (wr.alloc (.cells #[.int .i64 ek, .bool eb, .int .i64 ei, .string es, .slice eal enl ecl, .slice eam enm ecm] 25)).cell? ⟨wr.heap.size, 5, none⟩ = some (.slice eam enm ecm) := by rw [cell_of_block nb]; rfl
        go_wp2_with fail
        refine (HA.out R S _ B bv' P _ (HLW.out _ bA) hS (HL.out _ (Bj.out.trans (bA.mono (Nat.le_refl _)))).2 hB3 (by rw [alloc_size]; omega) oA hpj (by omega) (by (try simp only [List.length_append, List.length_cons, List.length_nil]); omega)).mono ?_
        rintro e w3 ⟨v3, rfl, o3, b3⟩
        have B3 : Below B w w3 := (Bj.out.trans bA).trans b3
        clear n0 n1 n2 n3 n4 n5 q0 q1 q2 q3 q4 q5
        go_wp2_with fail
        go_roundw
        case rel => exact ⟨j + 1, v3, by omega, rfl, by go_num, by rw [HT.out]; exact o3, B3⟩
        case measure => simp [RowKit.intOf]; omega
      · have HT : Hid (bs ++ [(91 : UInt8)] ++ jL l (j + 1) = (P ++ [44]) ++ txtV l[j]) := by show _ = _; rw [← HPP.out, HJ2.out j hjl hj0]; simp
        have y2 : (j : Int) > 0 := by omega
        have y3 : (0 : Int) < j := by omega
        have y4 : 0 < j := by omega
        have y5 : decide (0 < j) = true := by simp; omega
        go_wp2_with (at_builtin; go_loud (refine wpl_appG _ rfl (.tmp 19) (.tmp 20) rfl B _ _ rfl (oA.alloc _) (wr.heap.size + 1) 1 1 [44] rfl rfl _ _ (alloc2_new wr _ _) rfl (by (try simp only [List.length_append, List.length_cons, List.length_nil]); omega) (by rw [alloc_size, alloc_size]; omega) ?_))
        intro v2 w2 o2 b2 g2
        have n2' := (g2.block wr.heap.size (by rw [alloc_size, alloc_size]; omega) (fun e => by have := hlt _ e.symm; omega)).trans ((Below.heap_alloc _ _ _ (by omega)).trans nb)
        have B2 : Below B wr w2 := (bA.alloc (by rw [alloc_size]; omega) _).trans b2
        have hz2 := B2.size
        have n0 : w2.cell? ⟨wr.heap.size, 0, none⟩ = some (.int .i64 ek) := by rw [cell_of_block n2']; rfl
        have n1 : w2.cell? ⟨wr.heap.size, 1, none⟩ = some (.bool eb) := by rw [cell_of_block n2']; rfl
        have n2 : w2.cell? ⟨wr.heap.size, 2, none⟩ = some (.int .i64 ei) := by rw [cell_of_block n2']; rfl
        have n3 : w2.cell? ⟨wr.heap.size, 3, none⟩ = some (.string es) := by rw [cell_of_block n2']; rfl
        have n4 : w2.cell? ⟨wr.heap.size, 4, none⟩ = some (.slice eal enl ecl) := by rw [cell_of_block n2']; rfl
        have n5 : w2.cell? ⟨wr.heap.size, 5, none⟩ = some (.slice eam enm ecm) := by rw [cell_of_block n2']; rfl
        clear b2 g2 n2' nb q0 q1 q2 q3 q4 q5
        go_wp2_with fail
        refine (HA.out R S _ B v2 (P ++ [44]) _ (HLW.out _ B2) hS (HL.out _ (Bj.out.trans B2)).2 hB3 (by omega) o2 hpj (by omega) (by (try simp only [List.length_append, List.length_cons, List.length_nil]); omega)).mono ?_
        rintro e w3 ⟨v3, rfl, o3, b3⟩
        have B3 : Below B w w3 := (Bj.out.trans B2).trans b3
        clear n0 n1 n2 n3 n4 n5
        go_wp2_with fail
        go_roundw
        case rel => exact ⟨j + 1, v3, by omega, rfl, by go_num, by rw [HT.out]; exact o3, B3⟩
        case measure => simp [RowKit.intOf]; omega
    · obtain rfl : j = l.length := by omega
      have y1 : ¬ (l.length : Int) < l.length := by omega
      go_wp2_with (at_builtin; go_loud (refine wpl_appG _ rfl (.tmp 26) (.tmp 27) rfl B _ _ rfl (oj.alloc _) wr.heap.size 1 1 [93] rfl rfl _ _ (heap_alloc_new wr _) rfl (by (try simp only [List.length_append, List.length_cons, List.length_nil]); omega) (by rw [alloc_size]; omega) ?_))
      intro v2 w2 o2 b2 g2
      have B2 : Below B w w2 := (Bj.out.trans ((Below.refl B wr).alloc (by omega) _)).trans b2
      go_wp2_with fail
      go_ret
      rw [HE.out, HPP.out]
      exact ⟨_, rfl, o2, B2⟩
end Go.Proofs.YtpmhdcmmlkjjmaaGreatDoor
/- json.appendMap. -/
namespace Go.Proofs.YtpmhdcmmlkjjmaaGreatDoor
open Go.RowKit Go.Lib
set_option maxHeartbeats 4000000 in
set_option maxRecDepth 100000 in
theorem appmap_any (l : List Mem) (ih : ∀ x ∈ l, AppV x.2) (R : Bool) (S : Nat → Prop) (al : Option Addr) (cl bl ol : Nat) (B : Nat) (bv : Value) (bs : List UInt8) (w : World) (hal : Headed al l.length cl bl ol) (hl : liesM R w S l bl ol) (hS : ∀ b, S b → b < B) (td : Tdl w) (hB3 : 9 < B) (hBw : B ≤ w.heap.size) (ho : OwnB B bv bs w) (hp : prM l) (hwt : wtM l ≤ 1114112) (hlen : bs.length + 40 * wtM l + 5 ≤ 1000000000) :
    Calls Tryz.prog 42 #[bv, .slice al l.length cl] w (ApPost B (bs ++ (123 :: (joinB (txtM l) ++ [125]))) w) := by
  have hll := wtM_len l
  have HL : Hid (∀ W, Below B w W → liesM R W S l bl ol ∧ Tdl W) := fun W hb => ⟨liesM_keep (fun h => h) (fun x hx => hb.block x (hS x hx)) (fun _ h => h) _ hl, td.below hb hB3 hb.size⟩
  have HE : Hid (bs ++ (123 :: (joinB (txtM l) ++ [125])) = (bs ++ [(123 : UInt8)] ++ jM l l.length) ++ [125]) := by show _ = _; rw [jM, List.take_length]; simp
  have HN : Hid (∀ j, (jM l j).length ≤ 40 * wtM l) := fun j => Nat.le_trans (jM_len j hp) (Nat.mul_le_mul_left _ (wtM_take l j))
  have HI : Hid (∀ j (h : j < l.length), AppV (l[j]).2 ∧ prV (l[j]).2 ∧ validD (l[j]).1.data.toList = true ∧ (l[j]).1.size ≤ 1048576 ∧ (l[j]).2.wt ≤ wtM l ∧ (Q.qt (l[j]).1.data.toList).length ≤ 2 + 6 * (l[j]).1.size ∧ (jM l j).length + 40 * ((l[j]).1.size + (l[j]).2.wt) ≤ 40 * wtM l) := fun j h => by
    have h1 := jM_len j hp
    have h2 := wtM_app (l.take j) (l.drop j)
    rw [List.take_append_drop, List.drop_eq_getElem_cons h] at h2
    have h3 : wtM (l[j] :: l.drop (j + 1)) = (l[j]).1.size + (l[j]).2.wt + wtM (l.drop (j + 1)) := by
      rcases e : l[j] with ⟨k, x⟩
      rw [wtM]
    exact ⟨ih _ (List.getElem_mem h), (prM_mem hp _ (List.getElem_mem h)).2, (prM_mem hp _ (List.getElem_mem h)).1.1, (prM_mem hp _ (List.getElem_mem h)).1.2, by omega, qt_len _, by omega⟩
  have HJ1 : Hid (∀ h : 0 < l.length, jM l 1 = txtE l[0]) := fun h => jM_one h
  have HJ2 : Hid (∀ j (h : j < l.length), j ≠ 0 → jM l (j + 1) = (jM l j ++ [44]) ++ txtE l[j]) := fun j h h0 => jM_more h h0
  clear hl td
  go_enter Tryz.func42, Tryz.ntmps42
  go_wp2_with (at_builtin; go_loud (refine wpl_appQ _ rfl (.tmp 7) (.tmp 8) rfl B _ _ rfl (ho.alloc _) w.heap.size 123 rfl _ (heap_alloc_new w _) (by omega) (by rw [alloc_size]; omega) ?_))
  intro v1 w1 o1 g1 _
  have B1 : Below B w w1 := ((Below.refl B w).alloc hBw _).trans ((ho.alloc _).belowOf g1 (by rw [alloc_size]; omega))
  clear g1
  go_wp2_with fail
  go_loopw [0, 12] (fun e0 e12 wr => ∃ (j : Nat) (bv' : Value), j ≤ l.length ∧ bv' = e0 ∧ e12 = .int .i64 (j : Int) ∧ OwnB B bv' (bs ++ [(123 : UInt8)] ++ jM l j) wr ∧ Hid (Below B w wr)) (fun _ e _ => l.length - (RowKit.intOf e).toNat)
  case atStart => exact ⟨0, _, by omega, rfl, rfl, by rw [jM_zero, List.append_nil]; exact o1, B1⟩
  case round =>
    clear o1 B1
    obtain ⟨j, bv', hj, rfl, rfl, oj, Bj⟩ := hrel
    have hnj := HN.out j
    obtain ⟨P, hP⟩ : ∃ P, bs ++ [(123 : UInt8)] ++ jM l j = P := ⟨_, rfl⟩
    have HPP : Hid (bs ++ [(123 : UInt8)] ++ jM l j = P) := hP
    have hPl : P.length = bs.length + 1 + (jM l j).length := by rw [← hP]; simp only [List.length_append, List.length_cons, List.length_nil]
    rw [hP] at oj
    clear hP
    have hzr := Bj.out.size
    by_cases hjl : j < l.length
    · have y1 : (j : Int) < l.length := by omega
      obtain rfl : al = some ⟨bl, ol, none⟩ := hal.at_.resolve_left (by omega)
      obtain ⟨hSb, hkm, csj, hrow, hlj⟩ := liesM_get (HL.out wr Bj.out).1 j hjl
      obtain ⟨hA, hpj, hvk, hks, hwj, hql, hlj2⟩ := HI.out j hjl
      have HT1 : Hid (∀ h : j = 0, bs ++ [(123 : UInt8)] ++ jM l (j + 1) = (P ++ Q.qt (l[j]).1.data.toList ++ [58]) ++ txtV (l[j]).2) := fun h => by
        rw [← HPP.out]; subst h; rw [HJ1.out hjl, jM_zero, txtE]; simp
      have HT2 : Hid (∀ h : j ≠ 0, bs ++ [(123 : UInt8)] ++ jM l (j + 1) = ((P ++ [44]) ++ Q.qt (l[j]).1.data.toList ++ [58]) ++ txtV (l[j]).2) := fun h => by
        rw [← HPP.out, HJ2.out j hjl h, txtE]; simp
      obtain ⟨ek, eb, ei, es, eal, enl, ecl, eam, enm, ecm, rfl⟩ := V.ten hlj
      obtain ⟨kj, hkj⟩ : ∃ kj, (l[j]).1 = kj := ⟨_, rfl⟩
      obtain ⟨xj, hxj⟩ : ∃ xj, (l[j]).2 = xj := ⟨_, rfl⟩
      rw [hkj, hxj] at HT1 HT2
      rw [hkj] at hrow hkm hvk hks hql hlj2
      rw [hxj] at hlj hA hpj hwj hlj2
      clear hkj hxj
      obtain ⟨q, q0, q1, q2, q3, q4, q5⟩ := row7 hrow
      have nb := heap_alloc_new wr (.cells #[.string kj, .int .i64 ek, .bool eb, .int .i64 ei, .string es, .slice eal enl ecl, .slice eam enm ecm] 57)
      have hza := alloc_size wr (.cells #[.string kj, .int .i64 ek, .bool eb, .int .i64 ei, .string es, .slice eal enl ecl, .slice eam enm ecm] 57)
      have hlW : ∀ W, Below B wr W → xj.lies R W S [.int .i64 ek, .bool eb, .int .i64 ei, .string es, .slice eal enl ecl, .slice eam enm ecm] := fun W hb => V.lies_keep (fun h => h) (fun x hx => hb.block x (hS x hx)) (fun _ h => h) _ hlj
      have HLW : Hid (∀ W, Below B wr W → xj.lies R W S [.int .i64 ek, .bool eb, .int .i64 ei, .string es, .slice eal enl ecl, .slice eam enm ecm]) := hlW
      have HA : Hid (AppV xj) := hA
      have bA : Below B wr (wr.alloc (.cells #[.string kj, .int .i64 ek, .bool eb, .int .i64 ei, .string es, .slice eal enl ecl, .slice eam enm ecm] 57)) := (Below.refl B wr).alloc (by omega) _
      have oA := oj.alloc (.cells #[.string kj, .int .i64 ek, .bool eb, .int .i64 ei, .string es, .slice eal enl ecl, .slice eam enm ecm] 57)
      have hlt := fun g hg => (oj.lt (g := g) hg).2
      clear hlj hlW hA hrow
      by_cases hj0 : j = 0
      · have HT := HT1.out hj0
        have y2 : ¬ (j : Int) > 0 := by omega
        have y3 : ¬ (0 : Int) < j := by omega
        have y4 : ¬ 0 < j := by omega
        have y5 : decide (0 < j) = false := by simp [hj0]
        clear hj0 HT1 HT2
        have hne : ∀ g, bv'.ownBlock = some g → g ≠ wr.heap.size := fun g hg => by have := hlt g hg; omega
        have k0 : (wr.alloc (.cells #[.string kj, .int .i64 ek, .bool eb, .int .i64 ei, .string es, .slice eal enl ecl, .slice eam enm ecm] 57)).cell? ⟨wr.heap.size, 0, none⟩ = some (.string kj) := by rw [cell_of_block nb]; rfl
        go_wp2_with fail
        refine (appstr_q kj B bv' (P) (wr.alloc (.cells #[.string kj, .int .i64 ek, .bool eb, .int .i64 ei, .string es, .slice eal enl ecl, .slice eam enm ecm] 57)) (HL.out _ (Bj.out.trans (bA))).2 (by have := (bA).size; omega) oA hks hvk (by (try simp only [List.length_append, List.length_cons, List.length_nil]); omega)).mono ?_
        rintro e w3 ⟨v3, rfl, o3, g3, l3⟩
        have nb3 := (g3.block wr.heap.size (by omega) (fun e => hne _ e.symm rfl)).trans nb
        have B3 : Below B wr w3 := (bA).trans ((oA).belowOf g3 (by have := (bA).size; omega))
        have hz5 := g3.size
        have hne3 : ∀ g, v3.ownBlock = some g → g ≠ wr.heap.size := fun g hg => by
          rcases l3 g hg with h | h
          · exact hne g h
          · omega
        have hB3' := B3.size
        clear g3 l3 k0 q q0 q1 q2 q3 q4 q5
        go_wp2_with (at_builtin; go_loud (refine wpl_appQ _ rfl (.tmp 25) (.tmp 26) rfl B _ _ rfl (o3.alloc _) w3.heap.size 58 rfl _ (heap_alloc_new w3 _) (by (try simp only [List.length_append, List.length_cons, List.length_nil]); omega) (by rw [alloc_size]; omega) ?_))
        intro v4 w4 o4 g4 l4
        have nb4 := (g4.block wr.heap.size (by rw [alloc_size]; omega) (fun e => hne3 _ e.symm rfl)).trans ((Below.heap_alloc _ _ _ (by omega)).trans nb3)
        have B4 : Below B wr w4 := (B3.alloc (by omega) _).trans ((o3.alloc _).belowOf g4 (by rw [alloc_size]; omega))
        have hz4 := B4.size
        have o4' : OwnB B v4 (P ++ Q.qt kj.data.toList ++ [58]) w4 := by simp only [List.append_assoc] at o4 ⊢; exact o4
        have n0 : w4.cell? ⟨wr.heap.size, 1, none⟩ = some (.int .i64 ek) := by rw [cell_of_block nb4]; rfl
        have n1 : w4.cell? ⟨wr.heap.size, 2, none⟩ = some (.bool eb) := by rw [cell_of_block nb4]; rfl
        have n2 : w4.cell? ⟨wr.heap.size, 3, none⟩ = some (.int .i64 ei) := by rw [cell_of_block nb4]; rfl
        have n3 : w4.cell? ⟨wr.heap.size, 4, none⟩ = some (.string es) := by rw [cell_of_block nb4]; rfl
        have n4 : w4.cell? ⟨wr.heap.size, 5, none⟩ = some (.slice eal enl ecl) := by rw [cell_of_block nb4]; rfl
        have n5 : w4.cell? ⟨wr.heap.size, 6, none⟩ = some (.slice eam enm ecm) := by rw [cell_of_block nb4]; rfl
        clear g4 l4 nb4 nb3
        go_wp2_with fail
        refine (HA.out R S _ B v4 (P ++ Q.qt kj.data.toList ++ [58]) _ (HLW.out _ B4) hS (HL.out _ (Bj.out.trans B4)).2 hB3 (by omega) o4' hpj (by omega) (by (try simp only [List.length_append, List.length_cons, List.length_nil]); omega)).mono ?_
        rintro e w5 ⟨v5, rfl, o5, b5⟩
        have B5 : Below B w w5 := (Bj.out.trans B4).trans b5
        clear n0 n1 n2 n3 n4 n5
        go_wp2_with fail
        go_roundw
        case rel => exact ⟨j + 1, v5, by omega, rfl, by go_num, by rw [HT]; exact o5, B5⟩
        case measure => simp [RowKit.intOf]; omega
      · have HT := HT2.out hj0
        have y2 : (j : Int) > 0 := by omega
        have y3 : (0 : Int) < j := by omega
        have y4 : 0 < j := by omega
        have y5 : decide (0 < j) = true := by simp; omega
        clear HT1 HT2
        go_wp2_with (at_builtin; go_loud (refine wpl_appQ _ rfl (.tmp 19) (.tmp 20) rfl B _ _ rfl (oA.alloc _) (wr.heap.size + 1) 44 rfl _ (alloc2_new wr _ _) (by omega) (by rw [alloc_size, alloc_size]; omega) ?_))
        intro v2 w2 o2 g2 l2
        have nb2 := (g2.block wr.heap.size (by rw [alloc_size, alloc_size]; omega) (fun e => by have := hlt _ e.symm; omega)).trans ((Below.heap_alloc _ _ _ (by omega)).trans nb)
        have B2 : Below B wr w2 := (bA.alloc (by rw [alloc_size]; omega) _).trans ((oA.alloc _).belowOf g2 (by rw [alloc_size, alloc_size]; omega))
        have hz2 := B2.size
        have hz3 : wr.heap.size + 2 ≤ w2.heap.size := by have := g2.size; (try rw [alloc_size, alloc_size] at this); omega
        have hne : ∀ g, v2.ownBlock = some g → g ≠ wr.heap.size := fun g hg => by
          rcases l2 g hg with h | h
          · have := hlt g h; omega
          · (try rw [alloc_size, alloc_size] at h); omega
        clear g2 l2 nb
        have k0 : (w2).cell? ⟨wr.heap.size, 0, none⟩ = some (.string kj) := by rw [cell_of_block nb2]; rfl
        go_wp2_with fail
        refine (appstr_q kj B v2 (P ++ [44]) (w2) (HL.out _ (Bj.out.trans (B2))).2 (by have := (B2).size; omega) o2 hks hvk (by (try simp only [List.length_append, List.length_cons, List.length_nil]); omega)).mono ?_
        rintro e w3 ⟨v3, rfl, o3, g3, l3⟩
        have nb3 := (g3.block wr.heap.size (by omega) (fun e => hne _ e.symm rfl)).trans nb2
        have B3 : Below B wr w3 := (B2).trans ((o2).belowOf g3 (by have := (B2).size; omega))
        have hz5 := g3.size
        have hne3 : ∀ g, v3.ownBlock = some g → g ≠ wr.heap.size := fun g hg => by
          rcases l3 g hg with h | h
          · exact hne g h
          · omega
        have hB3' := B3.size
        clear g3 l3 k0 q q0 q1 q2 q3 q4 q5
        go_wp2_with (at_builtin; go_loud (refine wpl_appQ _ rfl (.tmp 25) (.tmp 26) rfl B _ _ rfl (o3.alloc _) w3.heap.size 58 rfl _ (heap_alloc_new w3 _) (by (try simp only [List.length_append, List.length_cons, List.length_nil]); omega) (by rw [alloc_size]; omega) ?_))
        intro v4 w4 o4 g4 l4
        have nb4 := (g4.block wr.heap.size (by rw [alloc_size]; omega) (fun e => hne3 _ e.symm rfl)).trans ((Below.heap_alloc _ _ _ (by omega)).trans nb3)
        have B4 : Below B wr w4 := (B3.alloc (by omega) _).trans ((o3.alloc _).belowOf g4 (by rw [alloc_size]; omega))
        have hz4 := B4.size
        have o4' : OwnB B v4 (P ++ [44] ++ Q.qt kj.data.toList ++ [58]) w4 := by simp only [List.append_assoc] at o4 ⊢; exact o4
        have n0 : w4.cell? ⟨wr.heap.size, 1, none⟩ = some (.int .i64 ek) := by rw [cell_of_block nb4]; rfl
        have n1 : w4.cell? ⟨wr.heap.size, 2, none⟩ = some (.bool eb) := by rw [cell_of_block nb4]; rfl
        have n2 : w4.cell? ⟨wr.heap.size, 3, none⟩ = some (.int .i64 ei) := by rw [cell_of_block nb4]; rfl
        have n3 : w4.cell? ⟨wr.heap.size, 4, none⟩ = some (.string es) := by rw [cell_of_block nb4]; rfl
        have n4 : w4.cell? ⟨wr.heap.size, 5, none⟩ = some (.slice eal enl ecl) := by rw [cell_of_block nb4]; rfl
        have n5 : w4.cell? ⟨wr.heap.size, 6, none⟩ = some (.slice eam enm ecm) := by rw [cell_of_block nb4]; rfl
        clear g4 l4 nb4 nb3
        go_wp2_with fail
        refine (HA.out R S _ B v4 (P ++ [44] ++ Q.qt kj.data.toList ++ [58]) _ (HLW.out _ B4) hS (HL.out _ (Bj.out.trans B4)).2 hB3 (by omega) o4' hpj (by omega) (by (try simp only [List.length_append, List.length_cons, List.length_nil]); omega)).mono ?_
        rintro e w5 ⟨v5, rfl, o5, b5⟩
        have B5 : Below B w w5 := (Bj.out.trans B4).trans b5
        clear n0 n1 n2 n3 n4 n5
        go_wp2_with fail
        go_roundw
        case rel => exact ⟨j + 1, v5, by omega, rfl, by go_num, by rw [HT]; exact o5, B5⟩
        case measure => simp [RowKit.intOf]; omega
    · obtain rfl : j = l.length := by omega
      have y1 : ¬ (l.length : Int) < l.length := by omega
      go_wp2_with (at_builtin; go_loud (refine wpl_appQ _ rfl (.tmp 33) (.tmp 34) rfl B _ _ rfl (oj.alloc _) wr.heap.size 125 rfl _ (heap_alloc_new wr _) (by omega) (by rw [alloc_size]; omega) ?_))
      intro v2 w2 o2 g2 l2
      have B2 : Below B w w2 := (Bj.out.trans ((Below.refl B wr).alloc (by omega) _)).trans ((oj.alloc _).belowOf g2 (by rw [alloc_size]; omega))
      go_wp2_with fail
      go_ret
      rw [HE.out, HPP.out]
      exact ⟨_, rfl, o2, B2⟩
end Go.Proofs.YtpmhdcmmlkjjmaaGreatDoor
