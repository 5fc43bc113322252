/- joined: DrdP DrdA -/
import Derived.Test.YtdgfjdhobdfglaaGreatDoorG42
set_option linter.unusedSimpArgs false
set_option linter.unusedVariables false
set_option maxRecDepth 100000
namespace Go.Proofs.YtdgfjdhobdfglaaGreatDoor
open Go.RowKit Go.Lib
theorem tk1_yes {s : ByteArray} {k : Nat} {c : UInt8} (h : k < s.size) (hc : ((s[k]'h).toNat : Int) = c.toNat) : tkB s.data.toList k [c] = true := by
 have e : s[k]'h = c := UInt8.toNat_inj.1 (by omega)
 unfold tkB hasPrefix
 rw [drop_consN s k h, e]
 simp [List.isPrefixOf]
theorem tk1_no {s : ByteArray} {k : Nat} {c : UInt8} (h : k < s.size) (hc : ((s[k]'h).toNat : Int) ≠ c.toNat) : tkB s.data.toList k [c] = false := by
 unfold tkB
 rw [drop_consN s k h]
 exact hp_no _ _ (fun e => hc (by rw [e]))
theorem tk1_end {s : ByteArray} {k : Nat} {c : UInt8} (h : ¬ k < s.size) : tkB s.data.toList k [c] = false := by
 unfold tkB
 rw [drop_endN s k h]
 rfl
theorem quoF_le {s : ByteArray} {k : Nat} {x : ByteArray} {k1 : Nat} (h : quoF s.data.toList k = some (x, k1)) : k1 <= s.size := by
 unfold quoF at h
 split at h
 ·have := (Q.unq_place s (k : Int)).1
  have e := congrArg Prod.snd (Option.some.inj h)
  dsimp only at e
  omega
 ·cases h
theorem namF_le {s : ByteArray} {k : Nat} {x : ByteArray} {k1 : Nat} (h : namF s.data.toList k = some (x, k1)) (hk : k <= s.size) : k1 <= s.size := by
 unfold namF at h
 split at h
 ·have e := congrArg Prod.snd (Option.some.inj h)
  dsimp only at e
  have := (prefN_le (s.data.toList.drop k) 0).2
  rw [List.length_drop] at this
  have hl : s.data.toList.length = s.size := by simp
  omega
 ·exact quoF_le h
theorem tw_len {P : UInt8 -> Bool} : ∀ (l : List UInt8), (l.takeWhile P).length <= l.length
 | [] => by simp
 | c :: t => by
  rw [List.takeWhile_cons]
  split
  ·have := tw_len (P := P) t; simp only [List.length_cons]; omega
  ·simp
theorem dsca_le {s : ByteArray} {k : Nat} {v : V} {k1 : Nat} (h : dscaF s.data.toList k = some (v, k1)) (hk : k <= s.size) : k <= k1 /\ k1 <= s.size := by
 have hl : s.data.toList.length = s.size := by simp
 unfold dscaF at h
 split at h
 ·obtain ⟨x, hx, he⟩ := Option.map_eq_some_iff.1 h
  have e := congrArg Prod.snd he
  dsimp only at e
  have h1 := quoF_ge (x := x.1) (k1 := x.2) hx
  have h2 := quoF_le (x := x.1) (k1 := x.2) hx
  omega
 ·obtain ⟨x, hx, he⟩ := Option.map_eq_some_iff.1 h
  have e := congrArg Prod.snd he
  dsimp only at e
  have := tw_len (P := fun x => wrdB x.toNat) (s.data.toList.drop k)
  rw [List.length_drop] at this
  omega
theorem valP_shape {l : List UInt8} {v : V} {k : Nat} (h : valP l = some (v, k)) : v.wt = 1 := by
 have H : ∀ (a : Int) (b : Bool) (i : Int), (V.mk a b i ⟨#[]⟩ [] []).wt = 1 := fun a b i => by simp [V.wt, wtL, wtM, sz0B]
 unfold valP at h
 split at h
 ·cases h
 ·split at h
  ·split at h
   ·(have e := congrArg Prod.fst (Option.some.inj h); dsimp only at e; rw [<- e]); exact H _ _ _
   ·cases h
  ·split at h
   ·split at h
    ·(have e := congrArg Prod.fst (Option.some.inj h); dsimp only at e; rw [<- e]); exact H _ _ _
    ·cases h
   ·split at h
    ·split at h
     ·(have e := congrArg Prod.fst (Option.some.inj h); dsimp only at e; rw [<- e]); exact H _ _ _
     ·cases h
    ·split at h
     ·obtain ⟨i, hi, he⟩ := Option.map_eq_some_iff.1 h
      (have e := congrArg Prod.fst he; dsimp only at e; rw [<- e])
      exact H _ _ _
     ·cases h
theorem parP_shape {l : List UInt8} {v : V} (h : parP l = some v) : v.wt = 1 := by
 unfold parP at h
 obtain ⟨x, hx, he⟩ := Option.bind_eq_some_iff.1 h
 split at he
 ·rw [<- Option.some.inj he]
  exact valP_shape (k := x.2) hx
 ·cases he
theorem dsca_wt {s : ByteArray} {k : Nat} {v : V} {k1 : Nat} (h : dscaF s.data.toList k = some (v, k1)) : v.wt <= s.size + 1 := by
 unfold dscaF at h
 split at h
 ·obtain ⟨x, hx, he⟩ := Option.map_eq_some_iff.1 h
  have e := congrArg Prod.fst he
  dsimp only at e
  have hs := quoF_size (x := x.1) (k1 := x.2) hx
  rw [<- e]; simp [V.wt, wtL, wtM]; omega
 ·obtain ⟨x, hx, he⟩ := Option.map_eq_some_iff.1 h
  have e := congrArg Prod.fst he
  dsimp only at e
  rw [<- e, parP_shape hx]; omega
theorem dmem_wt {s : ByteArray} {k : Nat} {m : Mem} {k1 : Nat} (h : dmemF s.data.toList k = some (m, k1)) : m.1.size + m.2.wt <= 2 * s.size + 1 := by
 unfold dmemF at h
 split at h
 ·cases h
 ·rename_i n k2 hn
  split at h
  ·obtain ⟨x, hx, he⟩ := Option.map_eq_some_iff.1 h
   have e := congrArg Prod.fst he
   dsimp only at e
   have h1 := dsca_wt (v := x.1) (k1 := x.2) hx
   have h2 := namF_size hn
   rw [<- e]
   dsimp only
   omega
  ·cases h
theorem dkey_wt {s : ByteArray} : ∀ (n k : Nat) (acc m : List Mem) (k1 : Nat), dkeyF s.data.toList n k acc = some (m, k1) -> acc.length <= m.length /\ wtM m <= wtM acc + (m.length - acc.length) * (2 * s.size + 1)
 | 0, k, acc, m, k1, h => by cases h
 | n + 1, k, acc, m, k1, h => by
  unfold dkeyF at h
  split at h
  ·cases h
  ·rename_i x k2 hx
   have hw := dmem_wt hx
   have ha : wtM (acc ++ [x]) = wtM acc + (x.1.size + x.2.wt) := by rw [wtM_app]; simp [wtM]
   have hl : (acc ++ [x]).length = acc.length + 1 := by simp
   split at h
   ·have e := congrArg Prod.fst (Option.some.inj h)
    dsimp only at e
    subst e
    rw [ha, hl, show acc.length + 1 - acc.length = 1 by omega]; omega
   ·split at h
    ·obtain ⟨h1, h2⟩ := dkey_wt n (k2 + 1) (acc ++ [x]) m k1 h
     rw [ha] at h2
     rw [hl] at h1 h2
     have e3 : m.length - acc.length = (m.length - (acc.length + 1)) + 1 := by omega
     rw [e3, Nat.add_mul]
     omega
    ·cases h
theorem dread_wt {s : ByteArray} {k : Nat} {x : El} {k1 : Nat} (h : dreadF s.data.toList k = some (x, k1)) : (∃ m, x = ⟨2, ⟨#[]⟩, m, nilW⟩ /\ 8 < m.length) \/ x.wt <= 16 * s.size + 20 := by
 have H0 : nilW.wt = 1 := by simp [nilW, V.wt, wtL, wtM, sz0B]
 unfold dreadF at h
 split at h
 ·obtain ⟨y, hy, he⟩ := Option.map_eq_some_iff.1 h
  have e := congrArg Prod.fst he
  dsimp only at e
  have := namF_size (x := y.1) (k1 := y.2) hy
  right
  rw [<- e, El.wt]; dsimp only; rw [H0, wtM]; omega
 ·split at h
  ·split at h
   ·split at h
    ·cases h
    ·rename_i v k2 hv
     split at h
     ·have e := congrArg Prod.fst (Option.some.inj h)
      dsimp only at e
      have := dsca_wt hv
      right
      rw [<- e, El.wt]; dsimp only; rw [sz0B, wtM]; omega
     ·cases h
   ·obtain ⟨y, hy, he⟩ := Option.map_eq_some_iff.1 h
    have e := congrArg Prod.fst he
    dsimp only at e
    have hw := (dkey_wt _ _ _ y.1 y.2 hy).2
    by_cases h8 : 8 < y.1.length
    ·exact .inl ⟨y.1, e.symm, h8⟩
    ·right
     have hz : (y.1.length - ([] : List Mem).length) * (2 * s.size + 1) <= 8 * (2 * s.size + 1) := Nat.mul_le_mul_right _ (by simp; omega)
     rw [show wtM ([] : List Mem) = 0 by rw [wtM]] at hw
     rw [<- e, El.wt]; dsimp only; rw [sz0B, H0]; omega
  ·cases h
theorem dmem_1 {l : List UInt8} {k : Nat} (h : namF l k = none) : dmemF l k = none := by rw [dmemF, h]
theorem dmem_2 {l : List UInt8} {k k1 : Nat} {n : ByteArray} (h : namF l k = some (n, k1)) (h2 : tkB l k1 [61] = false) : dmemF l k = none := by rw [dmemF, h]; dsimp only; rw [if_neg (by rw [h2]; decide)]
theorem dmem_3 {l : List UInt8} {k k1 : Nat} {n : ByteArray} (h : namF l k = some (n, k1)) (h2 : tkB l k1 [61] = true) (h3 : dscaF l (k1 + 1) = none) : dmemF l k = none := by rw [dmemF, h]; dsimp only; rw [if_pos h2, h3]; rfl
theorem dmem_4 {l : List UInt8} {k k1 k2 : Nat} {n : ByteArray} {v : V} (h : namF l k = some (n, k1)) (h2 : tkB l k1 [61] = true) (h3 : dscaF l (k1 + 1) = some (v, k2)) : dmemF l k = some ((n, v), k2) := by rw [dmemF, h]; dsimp only; rw [if_pos h2, h3]; rfl
theorem dkey_1 {l : List UInt8} {n k : Nat} {acc : List Mem} (h : dmemF l k = none) : dkeyF l (n + 1) k acc = none := by rw [dkeyF, h]
theorem dkey_2 {l : List UInt8} {n k k1 : Nat} {acc : List Mem} {m : Mem} (h : dmemF l k = some (m, k1)) (h2 : tkB l k1 [93] = true) : dkeyF l (n + 1) k acc = some (acc ++ [m], k1 + 1) := by rw [dkeyF, h]; dsimp only; rw [if_pos h2]
theorem dkey_3 {l : List UInt8} {n k k1 : Nat} {acc : List Mem} {m : Mem} (h : dmemF l k = some (m, k1)) (h2 : tkB l k1 [93] = false) (h3 : tkB l k1 [44] = true) : dkeyF l (n + 1) k acc = dkeyF l n (k1 + 1) (acc ++ [m]) := by rw [dkeyF, h]; dsimp only; rw [if_neg (by rw [h2]; decide), if_pos h3]
theorem dkey_4 {l : List UInt8} {n k k1 : Nat} {acc : List Mem} {m : Mem} (h : dmemF l k = some (m, k1)) (h2 : tkB l k1 [93] = false) (h3 : tkB l k1 [44] = false) : dkeyF l (n + 1) k acc = none := by rw [dkeyF, h]; dsimp only; rw [if_neg (by rw [h2]; decide), if_neg (by rw [h3]; decide)]
theorem drd_1 {l : List UInt8} {k : Nat} (h : tkB l k [46] = true) : dreadF l k = (namF l (k + 1)).map (fun x => (⟨1, x.1, [], nilW⟩, x.2)) := by rw [dreadF, if_pos h]
theorem drd_2 {l : List UInt8} {k : Nat} (h : tkB l k [46] = false) (h2 : tkB l k [91] = false) : dreadF l k = none := by rw [dreadF, if_neg (by rw [h]; decide), if_neg (by rw [h2]; decide)]
theorem drd_3 {l : List UInt8} {k : Nat} (h : tkB l k [46] = false) (h2 : tkB l k [91] = true) (h3 : tkB l (k + 1) [61] = true) (h4 : dscaF l (k + 2) = none) : dreadF l k = none := by rw [dreadF, if_neg (by rw [h]; decide), if_pos h2, if_pos h3, h4]
theorem drd_4 {l : List UInt8} {k k1 : Nat} {v : V} (h : tkB l k [46] = false) (h2 : tkB l k [91] = true) (h3 : tkB l (k + 1) [61] = true) (h4 : dscaF l (k + 2) = some (v, k1)) (h5 : tkB l k1 [93] = true) : dreadF l k = some (⟨3, ⟨#[]⟩, [], v⟩, k1 + 1) := by rw [dreadF, if_neg (by rw [h]; decide), if_pos h2, if_pos h3, h4]; dsimp only; rw [if_pos h5]
theorem drd_5 {l : List UInt8} {k k1 : Nat} {v : V} (h : tkB l k [46] = false) (h2 : tkB l k [91] = true) (h3 : tkB l (k + 1) [61] = true) (h4 : dscaF l (k + 2) = some (v, k1)) (h5 : tkB l k1 [93] = false) : dreadF l k = none := by rw [dreadF, if_neg (by rw [h]; decide), if_pos h2, if_pos h3, h4]; dsimp only; rw [if_neg (by rw [h5]; decide)]
theorem drd_6 {l : List UInt8} {k : Nat} (h : tkB l k [46] = false) (h2 : tkB l k [91] = true) (h3 : tkB l (k + 1) [61] = false) : dreadF l k = (dkeyF l (l.length + 1) (k + 1) []).map (fun x => (⟨2, ⟨#[]⟩, x.1, nilW⟩, x.2)) := by rw [dreadF, if_neg (by rw [h]; decide), if_pos h2, if_neg (by rw [h3]; decide)]
end Go.Proofs.YtdgfjdhobdfglaaGreatDoor
set_option maxRecDepth 100000
set_option maxHeartbeats 64000000
namespace Go.Proofs.YtdgfjdhobdfglaaGreatDoor
open Go.RowKit Go.Lib
def DrP (R : Option (El × Nat)) (k : Nat) (s : ByteArray) (w : World) (e : Ending) (w' : World) : Prop :=
 Below w.heap.size w w' /\ ((∃ (x : El) (k1 : Nat) (cs : List Value), R = some (x, k1) /\ k < k1 /\ k1 <= s.size /\ e = .returned (.tuple #[.agg cs.toArray, .int .i64 (k1 : Int)]) /\ x.lies w' (New w w') cs) \/ (R = none /\ ∃ (x : El) (cs : List Value), e = .returned (.tuple #[.agg cs.toArray, .int .i64 (-1)]) /\ x.lies w' (New w w') cs /\ x.wt <= 1))
theorem zel_wt (k : Int) : El.wt ⟨k, ⟨#[]⟩, [], nilW⟩ <= 1 := by
 have H0 : nilW.wt = 1 := by simp [nilW, V.wt, wtL, wtM, sz0B]
 rw [El.wt]; dsimp only; rw [H0, wtM, sz0B]; omega
theorem lies_zel (w : World) (S : Nat -> Prop) : El.lies w S ⟨0, ⟨#[]⟩, [], nilW⟩ [.int .i64 0, .string ⟨#[]⟩, .slice none 0 0, .int .i64 0, .bool false, .int .i64 0, .string ⟨#[]⟩, .slice none 0 0, .slice none 0 0] :=
 ⟨none, 0, 0, 0, _, rfl, In64.zero, Nat.zero_le _, headN, by show liesM false w S [] 0 0; rw [liesM]; trivial, lies_sca In64.zero In64.zero (Nat.zero_le _) _ _⟩
theorem nat_eq_f {x y : Nat} (h : x ≠ y) : ((x : Int) == (y : Int)) = false := by rw [beq_eq_false_iff_ne]; omega
theorem nat_eq_t {x y : Nat} (h : x = y) : ((x : Int) == (y : Int)) = true := by rw [beq_iff_eq]; omega
def V.kindOf : V -> Int
 | .mk k _ _ _ _ _ => k
theorem valP_kind {l : List UInt8} {v : V} {k : Nat} (h : valP l = some (v, k)) : V.kindOf v = 0 \/ V.kindOf v = 1 \/ V.kindOf v = 2 \/ V.kindOf v = 3 := by
 unfold valP at h
 split at h
 ·cases h
 ·split at h
  ·split at h
   ·(have e := congrArg Prod.fst (Option.some.inj h); dsimp only at e; rw [<- e]); exact .inl rfl
   ·cases h
  ·split at h
   ·split at h
    ·(have e := congrArg Prod.fst (Option.some.inj h); dsimp only at e; rw [<- e]); exact .inr (.inl rfl)
    ·cases h
   ·split at h
    ·split at h
     ·(have e := congrArg Prod.fst (Option.some.inj h); dsimp only at e; rw [<- e]); exact .inr (.inl rfl)
     ·cases h
    ·split at h
     ·obtain ⟨i, hi, he⟩ := Option.map_eq_some_iff.1 h
      (have e := congrArg Prod.fst he; dsimp only at e; rw [<- e])
      exact .inr (.inr (.inl rfl))
     ·cases h
theorem parP_kind {l : List UInt8} {v : V} (h : parP l = some v) : V.kindOf v = 0 \/ V.kindOf v = 1 \/ V.kindOf v = 2 \/ V.kindOf v = 3 := by
 unfold parP at h
 obtain ⟨x, hx, he⟩ := Option.bind_eq_some_iff.1 h
 split at he
 ·rw [<- Option.some.inj he]
  exact valP_kind (k := x.2) hx
 ·cases he
theorem dsca_sz {s : ByteArray} {k : Nat} {vk : Int} {vb : Bool} {vi : Int} {vs : ByteArray} {k1 : Nat} (h : dscaF s.data.toList k = some (.mk vk vb vi vs [] [], k1)) (hs : s.size <= 1048576) : In64 vi /\ vs.size <= maxLen /\ (vk = 0 \/ vk = 1 \/ vk = 2 \/ vk = 3) := by
 have h1 : In64 vi := dscaF_in h
 have h2 := dsca_wt h
 rw [V.wt] at h2
 refine ⟨h1, by unfold maxLen; omega, ?_⟩
 unfold dscaF at h
 split at h
 ·obtain ⟨x, hx, he⟩ := Option.map_eq_some_iff.1 h
  have e := congrArg (fun z => V.kindOf z.1) he
  exact .inr (.inr (.inr e.symm))
 ·obtain ⟨x, hx, he⟩ := Option.map_eq_some_iff.1 h
  have e := congrArg Prod.fst he
  dsimp only at e
  subst e
  exact parP_kind hx
theorem dread_fld (s : ByteArray) (k : Nat) (w : World) (hs : s.size <= 1048576) (hk : k < s.size) (hc : ((s[k]'hk).toNat : Int) = 46) :
 Calls Tryz.prog 35 #[.string s, .int .i64 (k : Int)] w (DrP (dreadF s.data.toList k) k s w) := by
 have hk0 : (0 : Int) <= k := by omega
 have y1 : (k : Int) < s.size := by omega
 have wk : IntKind.i64.wrap ((k : Int) + 1) = (k : Int) + 1 := IntWalk.i64_in _ (by omega)
 have bA : Below w.heap.size w (w.alloc z48) := (Below.refl _ _).alloc (Nat.le_refl _) _
 have nA := heap_alloc_new w z48
 have hzA := alloc_size w z48
 have KA : Hid (∀ W, Below (w.alloc z48).heap.size (w.alloc z48) W -> W.heap[w.heap.size]? = some z48 /\ Below w.heap.size w W) := fun W hW => ⟨(hW.block _ (by omega)).trans nA, bA.trans (hW.mono bA.size)⟩
 have z46' : (((s[k]'hk).toNat : Int) == 46) = true := by rw [beq_iff_eq]; exact hc
 have HD := hmk (drd_1 (tk1_yes (c := 46) hk hc))
 have CW : Hid (∀ W, Calls Tryz.prog 53 #[.string s, .int .i64 ((k : Int) + 1)] W (NwP (namF s.data.toList (k + 1)) W)) := fun W => by
  have h := dwd_any s (k + 1) W (by omega) (by omega)
  rwa [show ((k + 1 : Nat) : Int) = (k : Int) + 1 by omega] at h
 have HNS : Hid (∀ x k1, namF s.data.toList (k + 1) = some (x, k1) -> x.size <= maxLen /\ k < k1 /\ k1 <= s.size) := fun x k1 hx => ⟨by have := namF_size hx; unfold maxLen; omega, by have := namF_ge hx; omega, namF_le hx (by omega)⟩
 clear hc nA bA hzA
 go_enter Tryz.func35, Tryz.ntmps35
 go_wp2_with fail
 refine (CW.out _).mono ?_
 rintro e w1 ⟨b1, ⟨nm, k1, hn, rfl⟩ | ⟨hn, rfl⟩⟩
 ·have HN := hmk hn
  obtain ⟨N1, B1⟩ := KA.out w1 b1
  clear hn b1 KA
  obtain ⟨q0, q1, q2, q3, q4, q5, q6, q7, q8⟩ := cN9 N1
  have kf : ∀ ii, (w1).frozen? ⟨w.heap.size, ii, none⟩ = false := frozen_of_block N1
  have HBF := hmk (belowG B1 (st9_grownZ (w1) w.heap.size (.int .i64 1) (.string nm) (.slice none 0 0) (.int .i64 0) (.bool false) (.int .i64 0) (.string ⟨#[]⟩) (.slice none 0 0) (.slice none 0 0)) (Nat.le_refl _))
  clear N1 B1
  go_wp2_with fail
  (try simp only [Exit.inBlock, Exit.then])
  refine bodyPost_ret (v := .tuple #[.agg #[.int .i64 1, .string nm, .slice none 0 0, .int .i64 0, .bool false, .int .i64 0, .string ⟨#[]⟩, .slice none 0 0, .slice none 0 0], .int .i64 (k1 : Int)]) ?_ rfl ⟨HBF.out, .inl ⟨⟨1, nm, [], nilW⟩, k1, [.int .i64 1, .string nm, .slice none 0 0, .int .i64 0, .bool false, .int .i64 0, .string ⟨#[]⟩, .slice none 0 0, .slice none 0 0], by rw [HD.out, HN.out]; rfl, (HNS.out _ _ HN.out).2.1, (HNS.out _ _ HN.out).2.2, rfl, lies_fld (HNS.out _ _ HN.out).1 _ _⟩⟩
  rw [results_cell_tmp rfl]
  go_simp
 ·have HN := hmk hn
  obtain ⟨N1, B1⟩ := KA.out w1 b1
  clear hn b1 KA
  obtain ⟨q0, q1, q2, q3, q4, q5, q6, q7, q8⟩ := cN9 N1
  have kf : ∀ ii, (w1).frozen? ⟨w.heap.size, ii, none⟩ = false := frozen_of_block N1
  have HBF := hmk (belowG B1 (st9_grownZ (w1) w.heap.size (.int .i64 1) (.string ⟨#[]⟩) (.slice none 0 0) (.int .i64 0) (.bool false) (.int .i64 0) (.string ⟨#[]⟩) (.slice none 0 0) (.slice none 0 0)) (Nat.le_refl _))
  clear N1 B1
  go_wp2_with fail
  (try simp only [Exit.inBlock, Exit.then])
  refine bodyPost_ret (v := .tuple #[.agg #[.int .i64 1, .string ⟨#[]⟩, .slice none 0 0, .int .i64 0, .bool false, .int .i64 0, .string ⟨#[]⟩, .slice none 0 0, .slice none 0 0], .int .i64 (-1)]) ?_ rfl ⟨HBF.out, .inr ⟨by rw [HD.out, HN.out]; rfl, ⟨1, ⟨#[]⟩, [], nilW⟩, [.int .i64 1, .string ⟨#[]⟩, .slice none 0 0, .int .i64 0, .bool false, .int .i64 0, .string ⟨#[]⟩, .slice none 0 0, .slice none 0 0], rfl, lies_fld (Nat.zero_le _) _ _, zel_wt 1⟩⟩
  rw [results_cell_tmp rfl]
  go_simp
theorem dread_bad (s : ByteArray) (k : Nat) (w : World) (hs : s.size <= 1048576) (hk : k < s.size) (hc : ((s[k]'hk).toNat : Int) ≠ 46) (hb : ((s[k]'hk).toNat : Int) ≠ 91) :
 Calls Tryz.prog 35 #[.string s, .int .i64 (k : Int)] w (DrP (dreadF s.data.toList k) k s w) := by
 have hk0 : (0 : Int) <= k := by omega
 have y1 : (k : Int) < s.size := by omega
 have wk : IntKind.i64.wrap ((k : Int) + 1) = (k : Int) + 1 := IntWalk.i64_in _ (by omega)
 have bA : Below w.heap.size w (w.alloc z48) := (Below.refl _ _).alloc (Nat.le_refl _) _
 have nA := heap_alloc_new w z48
 have hzA := alloc_size w z48
 have z46' : (((s[k]'hk).toNat : Int) == 46) = false := by rw [beq_eq_false_iff_ne]; exact hc
 have z91 : (((s[k]'hk).toNat : Int) != 91) = true := by rw [bne_iff_ne]; exact hb
 have HD := hmk (drd_2 (tk1_no (c := 46) hk hc) (tk1_no (c := 91) hk hb))
 clear hc hb hzA
 go_enter Tryz.func35, Tryz.ntmps35
 go_wp2_with fail
 (try simp only [Exit.inBlock, Exit.then])
 refine bodyPost_ret (v := .tuple #[.agg #[.int .i64 0, .string ⟨#[]⟩, .slice none 0 0, .int .i64 0, .bool false, .int .i64 0, .string ⟨#[]⟩, .slice none 0 0, .slice none 0 0], .int .i64 (-1)]) ?_ rfl ⟨bA, .inr ⟨HD.out, ⟨0, ⟨#[]⟩, [], nilW⟩, [.int .i64 0, .string ⟨#[]⟩, .slice none 0 0, .int .i64 0, .bool false, .int .i64 0, .string ⟨#[]⟩, .slice none 0 0, .slice none 0 0], rfl, lies_zel _ _, zel_wt 0⟩⟩
 rw [results_cell_tmp rfl]
 go_simp
theorem dread_itm (s : ByteArray) (k : Nat) (w : World) (hs : s.size <= 1048576) (hk : k < s.size) (hb : ((s[k]'hk).toNat : Int) = 91) (hk1 : k + 1 < s.size) (he : ((s[k + 1]'hk1).toNat : Int) = 61) :
 Calls Tryz.prog 35 #[.string s, .int .i64 (k : Int)] w (DrP (dreadF s.data.toList k) k s w) := by
 have hk0 : (0 : Int) <= k := by omega
 have y1 : (k : Int) < s.size := by omega
 have wk : IntKind.i64.wrap ((k : Int) + 1) = (k : Int) + 1 := IntWalk.i64_in _ (by omega)
 have bA : Below w.heap.size w (w.alloc z48) := (Below.refl _ _).alloc (Nat.le_refl _) _
 have nA := heap_alloc_new w z48
 have hzA := alloc_size w z48
 have KA : Hid (∀ W, Below (w.alloc z48).heap.size (w.alloc z48) W -> W.heap[w.heap.size]? = some z48 /\ Below w.heap.size w W) := fun W hW => ⟨(hW.block _ (by omega)).trans nA, bA.trans (hW.mono bA.size)⟩
 have hc : ((s[k]'hk).toNat : Int) ≠ 46 := by omega
 have z46' : (((s[k]'hk).toNat : Int) == 46) = false := by rw [beq_eq_false_iff_ne]; exact hc
 have z91 : (((s[k]'hk).toNat : Int) != 91) = false := by rw [bne_eq_false_iff_eq]; exact hb
 have y2 : (k : Int) + 1 < s.size := by omega
 have z61 : (((s[k + 1]'hk1).toNat : Int) == 61) = true := by rw [beq_iff_eq]; exact he
 have wk2 : IntKind.i64.wrap ((k : Int) + 1 + 1) = (k : Int) + 1 + 1 := IntWalk.i64_in _ (by omega)
 have T1 := hmk (tk1_no (c := 46) hk hc)
 have T2 := hmk (tk1_yes (c := 91) hk hb)
 have T3 := hmk (tk1_yes (c := 61) hk1 he)
 have CS : Hid (∀ W, Calls Tryz.prog 54 #[.string s, .int .i64 ((k : Int) + 1 + 1)] W (DsP (dscaF s.data.toList (k + 2)) W)) := fun W => by
  have h := dsca_any s (k + 2) W hs (by omega)
  rwa [show ((k + 2 : Nat) : Int) = (k : Int) + 1 + 1 by omega] at h
 have HS : Hid (∀ vk vb vi vs k1, dscaF s.data.toList (k + 2) = some (.mk vk vb vi vs [] [], k1) -> k + 2 <= k1 /\ k1 <= s.size /\ In64 vk /\ In64 vi /\ vs.size <= maxLen) := fun vk vb vi vs k1 hx => by
  obtain ⟨h1, h2, h3⟩ := dsca_sz hx hs
  exact ⟨(dsca_le hx (by omega)).1, (dsca_le hx (by omega)).2, ⟨by omega, by omega⟩, h1, h2⟩
 clear hc hb he nA bA hzA
 go_enter Tryz.func35, Tryz.ntmps35
 go_wp2_with fail
 refine (CS.out _).mono ?_
 rintro e w1 ⟨b1, ⟨vk, vb, vi, vs, k1, hn, rfl⟩ | ⟨hn, rfl⟩⟩
 ·have HN := hmk hn
  obtain ⟨l1, l2, l3, l4, l5⟩ := HS.out _ _ _ _ _ hn
  have HL := hmk (And.intro l3 (And.intro l4 l5))
  have b2 := b1.alloc b1.size (oV vk vb vi vs none 0 0 none 0 0)
  have m2 := heap_alloc_new w1 (oV vk vb vi vs none 0 0 none 0 0)
  obtain ⟨N1, B1⟩ := KA.out _ b2
  clear hn b1 b2 KA HS CS l3 l4 l5
  have a0 : ¬ (k1 : Int) < 0 := by omega
  by_cases h1 : k1 = s.size
  ·have a1 : ((k1 : Int) == (s.size : Int)) = true := nat_eq_t h1
   have HD := hmk (drd_5 T1.out T2.out T3.out HN.out (tk1_end (by omega)))
   clear h1 m2
   obtain ⟨q0, q1, q2, q3, q4, q5, q6, q7, q8⟩ := cN9 N1
   have kf : ∀ ii, (w1.alloc (oV vk vb vi vs none 0 0 none 0 0)).frozen? ⟨w.heap.size, ii, none⟩ = false := frozen_of_block N1
   have HBF := hmk (belowG B1 (st9_grownZ (w1.alloc (oV vk vb vi vs none 0 0 none 0 0)) w.heap.size (.int .i64 0) (.string ⟨#[]⟩) (.slice none 0 0) (.int .i64 0) (.bool false) (.int .i64 0) (.string ⟨#[]⟩) (.slice none 0 0) (.slice none 0 0)) (Nat.le_refl _))
   clear N1 B1
   go_wp2_with fail
   (try simp only [Exit.inBlock, Exit.then])
   refine bodyPost_ret (v := .tuple #[.agg #[.int .i64 0, .string ⟨#[]⟩, .slice none 0 0, .int .i64 0, .bool false, .int .i64 0, .string ⟨#[]⟩, .slice none 0 0, .slice none 0 0], .int .i64 (-1)]) ?_ rfl ⟨HBF.out, .inr ⟨HD.out, ⟨0, ⟨#[]⟩, [], nilW⟩, [.int .i64 0, .string ⟨#[]⟩, .slice none 0 0, .int .i64 0, .bool false, .int .i64 0, .string ⟨#[]⟩, .slice none 0 0, .slice none 0 0], rfl, lies_zel _ _, zel_wt 0⟩⟩
   rw [results_cell_tmp rfl]
   go_simp
  have a1 : ((k1 : Int) == (s.size : Int)) = false := nat_eq_f h1
  have hlt : k1 < s.size := by omega
  have a2 : (k1 : Int) < s.size := by omega
  by_cases h93 : ((s[k1]'hlt).toNat : Int) = 93
  ·have a3 : (((s[k1]'hlt).toNat : Int) != 93) = false := by rw [bne_eq_false_iff_eq]; exact h93
   have HD := hmk (drd_4 T1.out T2.out T3.out HN.out (tk1_yes (c := 93) hlt h93))
   have wk3 : IntKind.i64.wrap ((k1 : Int) + 1) = (k1 : Int) + 1 := IntWalk.i64_in _ (by omega)
   obtain ⟨p0, p1, p2, p3, p4, p5⟩ := cN6 m2
   clear h93 m2 h1
   obtain ⟨q0, q1, q2, q3, q4, q5, q6, q7, q8⟩ := cN9 N1
   have kf : ∀ ii, (w1.alloc (oV vk vb vi vs none 0 0 none 0 0)).frozen? ⟨w.heap.size, ii, none⟩ = false := frozen_of_block N1
   have HBF := hmk (belowG B1 (st9_grownZ (w1.alloc (oV vk vb vi vs none 0 0 none 0 0)) w.heap.size (.int .i64 3) (.string ⟨#[]⟩) (.slice none 0 0) (.int .i64 vk) (.bool vb) (.int .i64 vi) (.string vs) (.slice none 0 0) (.slice none 0 0)) (Nat.le_refl _))
   clear N1 B1
   go_wp2_with fail
   (try simp only [Exit.inBlock, Exit.then])
   refine bodyPost_ret (v := .tuple #[.agg #[.int .i64 3, .string ⟨#[]⟩, .slice none 0 0, .int .i64 vk, .bool vb, .int .i64 vi, .string vs, .slice none 0 0, .slice none 0 0], .int .i64 ((k1 : Int) + 1)]) ?_ rfl ⟨HBF.out, .inl ⟨⟨3, ⟨#[]⟩, [], .mk vk vb vi vs [] []⟩, k1 + 1, [.int .i64 3, .string ⟨#[]⟩, .slice none 0 0, .int .i64 vk, .bool vb, .int .i64 vi, .string vs, .slice none 0 0, .slice none 0 0], HD.out, by omega, by omega, rfl, lies_itm HL.out.1 HL.out.2.1 HL.out.2.2 _ _⟩⟩
   rw [results_cell_tmp rfl]
   go_simp
  ·have a3 : (((s[k1]'hlt).toNat : Int) != 93) = true := by rw [bne_iff_ne]; exact h93
   have HD := hmk (drd_5 T1.out T2.out T3.out HN.out (tk1_no (c := 93) hlt h93))
   clear h93 m2 h1
   obtain ⟨q0, q1, q2, q3, q4, q5, q6, q7, q8⟩ := cN9 N1
   have kf : ∀ ii, (w1.alloc (oV vk vb vi vs none 0 0 none 0 0)).frozen? ⟨w.heap.size, ii, none⟩ = false := frozen_of_block N1
   have HBF := hmk (belowG B1 (st9_grownZ (w1.alloc (oV vk vb vi vs none 0 0 none 0 0)) w.heap.size (.int .i64 0) (.string ⟨#[]⟩) (.slice none 0 0) (.int .i64 0) (.bool false) (.int .i64 0) (.string ⟨#[]⟩) (.slice none 0 0) (.slice none 0 0)) (Nat.le_refl _))
   clear N1 B1
   go_wp2_with fail
   (try simp only [Exit.inBlock, Exit.then])
   refine bodyPost_ret (v := .tuple #[.agg #[.int .i64 0, .string ⟨#[]⟩, .slice none 0 0, .int .i64 0, .bool false, .int .i64 0, .string ⟨#[]⟩, .slice none 0 0, .slice none 0 0], .int .i64 (-1)]) ?_ rfl ⟨HBF.out, .inr ⟨HD.out, ⟨0, ⟨#[]⟩, [], nilW⟩, [.int .i64 0, .string ⟨#[]⟩, .slice none 0 0, .int .i64 0, .bool false, .int .i64 0, .string ⟨#[]⟩, .slice none 0 0, .slice none 0 0], rfl, lies_zel _ _, zel_wt 0⟩⟩
   rw [results_cell_tmp rfl]
   go_simp
 ·have HN := hmk hn
  have HD := hmk (drd_3 T1.out T2.out T3.out HN.out)
  have b2 := b1.alloc b1.size oN
  obtain ⟨N1, B1⟩ := KA.out _ b2
  clear hn b1 b2 KA HS CS
  obtain ⟨q0, q1, q2, q3, q4, q5, q6, q7, q8⟩ := cN9 N1
  have kf : ∀ ii, (w1.alloc oN).frozen? ⟨w.heap.size, ii, none⟩ = false := frozen_of_block N1
  have HBF := hmk (belowG B1 (st9_grownZ (w1.alloc oN) w.heap.size (.int .i64 0) (.string ⟨#[]⟩) (.slice none 0 0) (.int .i64 0) (.bool false) (.int .i64 0) (.string ⟨#[]⟩) (.slice none 0 0) (.slice none 0 0)) (Nat.le_refl _))
  clear N1 B1
  go_wp2_with fail
  (try simp only [Exit.inBlock, Exit.then])
  refine bodyPost_ret (v := .tuple #[.agg #[.int .i64 0, .string ⟨#[]⟩, .slice none 0 0, .int .i64 0, .bool false, .int .i64 0, .string ⟨#[]⟩, .slice none 0 0, .slice none 0 0], .int .i64 (-1)]) ?_ rfl ⟨HBF.out, .inr ⟨HD.out, ⟨0, ⟨#[]⟩, [], nilW⟩, [.int .i64 0, .string ⟨#[]⟩, .slice none 0 0, .int .i64 0, .bool false, .int .i64 0, .string ⟨#[]⟩, .slice none 0 0, .slice none 0 0], rfl, lies_zel _ _, zel_wt 0⟩⟩
  rw [results_cell_tmp rfl]
  go_simp
end Go.Proofs.YtdgfjdhobdfglaaGreatDoor
