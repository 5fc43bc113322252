/- joined: BckQ SrtR CfnR AnqR RspR -/
import Derived.Test.YtdgfjdhobdfglaaGreatDoorG30
import Derived.Shelf.SlSortCmp.Whole1
import Derived.Shelf.SlicesE.Clone
import Derived.Lib.SliceRun
set_option linter.unusedSimpArgs false
set_option linter.unusedVariables false
set_option maxRecDepth 100000
namespace Go.Proofs.YtdgfjdhobdfglaaGreatDoor
open Go.RowKit Go.Lib
def stopD : List UInt8 -> Prop
 | [] => True
 | c :: _ => minDig.contains c = false
theorem run_back (a l t : List UInt8) (h : ∀ c ∈ l, minDig.contains c = true) (ht : stopD t) : runT (a ++ (l ++ t)) a.length = l := by
 unfold runT
 rw [List.drop_left, List.takeWhile_append_of_pos h]
 cases t with
 | nil => simp
 | cons c t =>
  have ht' : minDig.contains c = false := ht
  rw [List.takeWhile_cons, if_neg (by rw [ht']; decide), List.append_nil]
theorem tk_front (a t : List UInt8) (c d : UInt8) (r p : List UInt8) (h : c ≠ d) : tkB (a ++ (c :: r ++ t)) a.length (d :: p) = false := by
 rw [tk_at, List.cons_append, hp_no _ _ h]
theorem itoa_head (i : Int) : ∃ c r, itoa i = c :: r /\ c ≠ 116 /\ c ≠ 102 /\ c ≠ 34 := by
 have hs := itoa_set i
 have hk : ∀ c : UInt8, minDig.contains c = true -> c ≠ 116 /\ c ≠ 102 /\ c ≠ 34 := by
  intro c hc
  refine ⟨?_, ?_, ?_⟩ <;> (rintro rfl; revert hc; decide)
 cases h : itoa i with
 | nil =>
  exfalso
  unfold itoa at h
  split at h
  ·cases h
  ·exact dec_ne _ h
 | cons c r => exact ⟨c, r, rfl, hk c (hs c (by rw [h]; simp))⟩
theorem sca_back (a : List UInt8) {v : V} (t : List UInt8) (h : sizS v = true) (hi : in64V v) (ht : stopD t) : scaF (a ++ (svT v ++ t)) a.length = some (v, a.length + (svT v).length) := by
 rcases sca_cases h with ⟨b, rfl⟩ | ⟨i, rfl⟩ | ⟨s, hv, rfl⟩
 ·cases b with
  | true =>
   have e : svT (V.mk 1 true 0 ⟨#[]⟩ [] []) = [116, 114, 117, 101] := by rw [svT, scT, if_pos rfl, bolT, if_pos rfl]
   rw [e, scaF, if_pos (by rw [tk_at]; exact hp_yes _ _)]; rfl
  | false =>
   have e : svT (V.mk 1 false 0 ⟨#[]⟩ [] []) = [102, 97, 108, 115, 101] := by rw [svT, scT, if_pos rfl, bolT, if_neg (by decide)]
   rw [e, scaF, if_neg (by rw [tk_front _ _ _ _ _ _ (by decide)]; decide), if_pos (by rw [tk_at]; exact hp_yes _ _)]; rfl
 ·have e : svT (V.mk 2 false i ⟨#[]⟩ [] []) = itoa i := by rw [svT, scT, if_neg (by decide), if_pos rfl]
  obtain ⟨c, r, hc, h1, h2, h3⟩ := itoa_head i
  have hr := run_back a (itoa i) t (itoa_set i) ht
  have hp := pi_itoa i hi
  rw [e, scaF, intF, hr, hp]
  rw [hc]
  rw [if_neg (by rw [tk_front _ _ _ _ _ _ h1]; decide), if_neg (by rw [tk_front _ _ _ _ _ _ h2]; decide), if_neg (by rw [tk_front _ _ _ _ _ _ h3]; decide)]
 ·have e : svT (V.mk 3 false 0 s [] []) = Q.qt s.data.toList := by rw [svT, scT, if_neg (by decide), if_neg (by decide)]
  have hq := quo_back a s.data.toList t hv
  have hb : (⟨s.data.toList.toArray⟩ : ByteArray) = s := by simp
  obtain ⟨r, hr⟩ : ∃ r, Q.qt s.data.toList = 34 :: r := ⟨_, rfl⟩
  rw [e, scaF, hq]
  rw [hr]
  rw [if_neg (by rw [tk_front _ _ _ _ _ _ (by decide)]; decide), if_neg (by rw [tk_front _ _ _ _ _ _ (by decide)]; decide), if_pos (by rw [tk_at]; exact hp_yes [34] (r ++ t))]
  rw [Option.map_some, hb]
def GoodM (x : Mem) : Prop := utfB x.1 = true /\ sizS x.2 = true /\ in64V x.2
theorem mem_back (a : List UInt8) {x : Mem} (t : List UInt8) (h : GoodM x) (ht : stopD t) : memF (a ++ (memT x ++ t)) a.length = some (x, a.length + (memT x).length) := by
 obtain ⟨n, v⟩ := x
 have e1 : a ++ (memT (n, v) ++ t) = a ++ (nmT n.data.toList ++ (61 :: (svT v ++ t))) := by simp [memT]
 have e2 : a ++ (nmT n.data.toList ++ (61 :: (svT v ++ t))) = (a ++ nmT n.data.toList) ++ (61 :: (svT v ++ t)) := by simp
 have e3 : a ++ (nmT n.data.toList ++ (61 :: (svT v ++ t))) = (a ++ nmT n.data.toList ++ [61]) ++ (svT v ++ t) := by simp
 have l2 : a.length + (nmT n.data.toList).length = (a ++ nmT n.data.toList).length := by simp
 have l3 : a.length + (nmT n.data.toList).length + 1 = (a ++ nmT n.data.toList ++ [61]).length := by simp [Nat.add_assoc]
 have hn := nam_back a n (61 :: (svT v ++ t)) h.1 (show okR 1 61 = false by decide)
 have htk : tkB (a ++ (nmT n.data.toList ++ (61 :: (svT v ++ t)))) (a.length + (nmT n.data.toList).length) [61] = true := by
  rw [e2, l2, tk_at]; exact hp_yes [61] _
 have hs := sca_back (a ++ nmT n.data.toList ++ [61]) (v := v) t h.2.1 h.2.2 ht
 rw [<- e3, <- l3] at hs
 rw [e1, memF, hn]
 dsimp only
 rw [if_pos htk, hs, Option.map_some]
 have : a.length + (memT (n, v)).length = a.length + (nmT n.data.toList).length + 1 + (svT v).length := by simp [memT]; omega
 rw [this]
theorem key_back : ∀ (l : List Mem) (n : Nat) (a : List UInt8) (acc : List Mem) (t : List UInt8), 0 < l.length -> l.length <= n -> (∀ x ∈ l, GoodM x) -> keyF (a ++ (kyV l ++ 93 :: t)) n a.length acc = some (acc ++ l, a.length + (kyV l).length + 1)
 | [], n, a, acc, t, h0, _, _ => by simp at h0
 | x :: l, 0, a, acc, t, _, h1, _ => by simp at h1
 | [x], n + 1, a, acc, t, _, _, hg => by
  have hm := mem_back a (93 :: t) (hg x (by simp)) (show minDig.contains 93 = false by decide)
  have e : kyV [x] = memT x := by simp [kyV, kyT]
  have htk : tkB (a ++ (memT x ++ 93 :: t)) (a.length + (memT x).length) [93] = true := by
   rw [show a ++ (memT x ++ 93 :: t) = (a ++ memT x) ++ 93 :: t by simp, show a.length + (memT x).length = (a ++ memT x).length by simp, tk_at]; exact hp_yes [93] _
  rw [e, keyF, hm]
  dsimp only
  rw [if_pos htk]
 | x :: y :: l, n + 1, a, acc, t, _, h1, hg => by
  have e : kyV (x :: y :: l) = memT x ++ 44 :: kyV (y :: l) := by simp [kyV, kyT]
  have hm := mem_back a (44 :: (kyV (y :: l) ++ 93 :: t)) (hg x (by simp)) (show minDig.contains 44 = false by decide)
  have e0 : a ++ (kyV (x :: y :: l) ++ 93 :: t) = a ++ (memT x ++ 44 :: (kyV (y :: l) ++ 93 :: t)) := by rw [e]; simp
  have e1 : a ++ (memT x ++ 44 :: (kyV (y :: l) ++ 93 :: t)) = (a ++ memT x) ++ 44 :: (kyV (y :: l) ++ 93 :: t) := by simp
  have e2 : a ++ (memT x ++ 44 :: (kyV (y :: l) ++ 93 :: t)) = (a ++ memT x ++ [44]) ++ (kyV (y :: l) ++ 93 :: t) := by simp
  have l1 : a.length + (memT x).length = (a ++ memT x).length := by simp
  have l2 : a.length + (memT x).length + 1 = (a ++ memT x ++ [44]).length := by simp [Nat.add_assoc]
  have t1 : tkB (a ++ (memT x ++ 44 :: (kyV (y :: l) ++ 93 :: t))) (a.length + (memT x).length) [93] = false := by
   rw [e1, l1, tk_at, hp_no _ _ (by decide)]
  have t2 : tkB (a ++ (memT x ++ 44 :: (kyV (y :: l) ++ 93 :: t))) (a.length + (memT x).length) [44] = true := by
   rw [e1, l1, tk_at]; exact hp_yes [44] _
  have ih := key_back (y :: l) n (a ++ memT x ++ [44]) (acc ++ [x]) t (by simp) (by simpa using h1) (fun z hz => hg z (by simp [List.mem_cons.1 hz]))
  rw [<- e2, <- l2] at ih
  rw [e0, keyF, hm]
  dsimp only
  rw [if_neg (by rw [t1]; decide), if_pos t2, ih]
  have e5 : acc ++ [x] ++ y :: l = acc ++ x :: y :: l := by simp
  rw [e5, e]
  simp only [List.length_append, List.length_cons]
  congr 2
  omega
def stopE : List UInt8 -> Prop
 | [] => True
 | c :: _ => c = 46 \/ c = 91
theorem stopE_N {t : List UInt8} (h : stopE t) : stopN t := by
 cases t with
 | nil => trivial
 | cons c t =>
  rcases (show c = 46 \/ c = 91 from h) with rfl | rfl
  ·exact (show okR 1 46 = false by decide)
  ·exact (show okR 1 91 = false by decide)
theorem elT_front {e : El} (h : elB e = true) : ∃ c r, elT e = c :: r /\ (c = 46 \/ c = 91) := by
 obtain ⟨k, n, m, v⟩ := e
 unfold elT
 dsimp only
 split
 ·exact ⟨46, _, rfl, .inl rfl⟩
 ·split
  ·exact ⟨91, _, rfl, .inr rfl⟩
  ·rename_i h1 h3
   by_cases h2 : k = 2
   ·rw [elB2 h2] at h
    simp only [Bool.and_eq_true] at h
    rw [kyT_kyV 91 (keysB_pos h.2.2)]
    exact ⟨91, _, rfl, .inr rfl⟩
   ·rw [elB0 h1 h2 h3] at h; cases h
theorem elm_back (a : List UInt8) {e : El} (t : List UInt8) (h : elB e = true) (hi : in64E e) (ht : stopE t) : elmF (a ++ (elT e ++ t)) a.length = some (e, a.length + (elT e).length) := by
 obtain ⟨k, n, m, v⟩ := e
 by_cases h1 : k = 1
 ·subst h1
  rw [elB1 rfl] at h
  simp only [Bool.and_eq_true, decide_eq_true_eq] at h
  have hm := List.length_eq_zero_iff.1 h.1
  have hv := nilV_eq h.2.1
  subst hm
  subst hv
  have e : elT ⟨1, n, [], .mk 0 false 0 ⟨#[]⟩ [] []⟩ = 46 :: nmT n.data.toList := by rw [elT]; rfl
  have e2 : a ++ (46 :: nmT n.data.toList ++ t) = (a ++ [46]) ++ (nmT n.data.toList ++ t) := by simp
  have l2 : a.length + 1 = (a ++ [46]).length := by simp
  have hn := nam_back (a ++ [46]) n t h.2.2 (stopE_N ht)
  rw [<- e2, <- l2] at hn
  rw [e, elmF, if_pos (by rw [tk_at]; exact hp_yes [46] _), hn, Option.map_some]
  simp only [List.length_cons]
  rw [show a.length + 1 + (nmT n.data.toList).length = a.length + ((nmT n.data.toList).length + 1) by omega]
  rfl
 by_cases h2 : k = 2
 ·subst h2
  rw [elB2 rfl] at h
  simp only [Bool.and_eq_true, decide_eq_true_eq] at h
  have hn : n = ⟨#[]⟩ := bytes_eq (h.1.trans nil_toList.symm)
  have hv := nilV_eq h.2.1
  subst hn
  subst hv
  have hpos := keysB_pos h.2.2
  have hle : m.length <= 8 := by
   have := h.2.2
   simp only [keysB, Bool.and_eq_true, decide_eq_true_eq] at this
   exact this.1.2
  have hg : ∀ x ∈ m, GoodM x := by
   intro x hx
   obtain ⟨j, hj, rfl⟩ := List.getElem_of_mem hx
   have g := keysB_get h.2.2 hj
   exact ⟨g.1, g.2, hi.2 _ hx⟩
  have e : elT ⟨2, ⟨#[]⟩, m, .mk 0 false 0 ⟨#[]⟩ [] []⟩ = 91 :: (kyV m ++ [93]) := by
   rw [elT]
   dsimp only
   rw [if_neg (by decide), if_neg (by decide), kyT_kyV 91 hpos]; rfl
  have e0 : a ++ (91 :: (kyV m ++ [93]) ++ t) = a ++ (91 :: (kyV m ++ 93 :: t)) := by simp
  have e2 : a ++ (91 :: (kyV m ++ 93 :: t)) = (a ++ [91]) ++ (kyV m ++ 93 :: t) := by simp
  have l2 : a.length + 1 = (a ++ [91]).length := by simp
  have hk := key_back m 8 (a ++ [91]) [] t hpos hle hg
  rw [<- e2, <- l2, List.nil_append] at hk
  obtain ⟨c, r, hc, h61⟩ : ∃ c r, kyV m ++ 93 :: t = c :: r /\ c ≠ 61 := by
   cases m with
   | nil => simp at hpos
   | cons x m =>
    show ∃ c r, memT x ++ kyT 44 m ++ 93 :: t = c :: r /\ c ≠ 61
    have : ∃ c r, memT x = c :: r /\ c ≠ 61 := by
     unfold memT nmT
     split
     ·rename_i hp
      unfold plnN at hp
      cases hd : x.1.data.toList with
      | nil => rw [hd] at hp; simp at hp
      | cons c r =>
       refine ⟨c, _, rfl, ?_⟩
       rw [hd, Bool.and_eq_true, allN, Bool.and_eq_true] at hp
       rintro rfl
       exact absurd hp.2.1 (by decide)
     ·exact ⟨34, _, rfl, by decide⟩
    obtain ⟨c, r, hc, h61⟩ := this
    exact ⟨c, r ++ kyT 44 m ++ 93 :: t, by rw [hc]; simp, h61⟩
  have t1 : tkB (a ++ (91 :: (kyV m ++ 93 :: t))) a.length [46] = false := by rw [tk_at, hp_no _ _ (by decide)]
  have t2 : tkB (a ++ (91 :: (kyV m ++ 93 :: t))) a.length [91, 61] = false := by
   rw [tk_at, hc]
   unfold hasPrefix
   simp [List.isPrefixOf, Ne.symm h61]
  have t3 : tkB (a ++ (91 :: (kyV m ++ 93 :: t))) a.length [91] = true := by rw [tk_at]; exact hp_yes [91] _
  rw [e, e0, elmF, if_neg (by rw [t1]; decide), if_neg (by rw [t2]; decide), if_pos t3, hk, Option.map_some]
  simp only [List.length_cons, List.length_append, List.length_nil]
  rw [show a.length + 1 + (kyV m).length + 1 = a.length + ((kyV m).length + (0 + 1) + 1) by omega]
  rfl
 by_cases h3 : k = 3
 ·subst h3
  rw [elB3 rfl] at h
  simp only [Bool.and_eq_true, decide_eq_true_eq] at h
  have hn : n = ⟨#[]⟩ := bytes_eq (h.1.trans nil_toList.symm)
  have hm := List.length_eq_zero_iff.1 h.2.1
  subst hn
  subst hm
  have e : elT ⟨3, ⟨#[]⟩, [], v⟩ = 91 :: 61 :: (svT v ++ [93]) := by
   rw [elT]
   dsimp only
   rw [if_neg (by decide), if_pos rfl]
  have e0 : a ++ (91 :: 61 :: (svT v ++ [93]) ++ t) = a ++ (91 :: 61 :: (svT v ++ 93 :: t)) := by simp
  have e2 : a ++ (91 :: 61 :: (svT v ++ 93 :: t)) = (a ++ [91, 61]) ++ (svT v ++ 93 :: t) := by simp
  have l2 : a.length + 2 = (a ++ [91, 61]).length := by simp
  have e3 : a ++ (91 :: 61 :: (svT v ++ 93 :: t)) = (a ++ [91, 61] ++ svT v) ++ 93 :: t := by simp
  have l3 : a.length + 2 + (svT v).length = (a ++ [91, 61] ++ svT v).length := by simp; omega
  have hs := sca_back (a ++ [91, 61]) (v := v) (93 :: t) h.2.2 hi.1 (show minDig.contains 93 = false by decide)
  rw [<- e2, <- l2] at hs
  have t1 : tkB (a ++ (91 :: 61 :: (svT v ++ 93 :: t))) a.length [46] = false := by rw [tk_at, hp_no _ _ (by decide)]
  have t2 : tkB (a ++ (91 :: 61 :: (svT v ++ 93 :: t))) a.length [91, 61] = true := by rw [tk_at]; exact hp_yes [91, 61] _
  have t3 : tkB (a ++ (91 :: 61 :: (svT v ++ 93 :: t))) (a.length + 2 + (svT v).length) [93] = true := by rw [e3, l3, tk_at]; exact hp_yes [93] _
  rw [e, e0, elmF, if_neg (by rw [t1]; decide), if_pos t2, hs]
  dsimp only
  rw [if_pos t3]
  simp only [List.length_cons, List.length_append, List.length_nil]
  rw [show a.length + 2 + (svT v).length + 1 = a.length + ((svT v).length + (0 + 1) + 1 + 1) by omega]
 ·rw [elB0 h1 h2 h3] at h; cases h
theorem nxt_back (a : List UInt8) {e : El} (t : List UInt8) (h : elB e = true) (hi : in64E e) (ht : stopE t) : nxtF (a ++ (elT e ++ t)) a.length = some (e, a.length + (elT e).length) := by
 rw [nxtF, elm_back a t h hi ht]
 dsimp only
 rw [if_pos h, if_pos (by rw [List.drop_left, Nat.add_sub_cancel_left, List.take_left])]
theorem txT_stop {p : List El} (h : ∀ x ∈ p, elB x = true) : stopE (txT p) := by
 cases p with
 | nil => trivial
 | cons e p =>
  obtain ⟨c, r, hc, hs⟩ := elT_front (h e (by simp))
  show stopE (elT e ++ txT p)
  rw [hc]
  exact hs
theorem txT_cons (e : El) (p : List El) : txT (e :: p) = elT e ++ txT p := rfl
theorem par_back : ∀ (p : List El) (n : Nat) (a : List UInt8) (acc : List El), (∀ x ∈ p, elB x = true) -> (∀ x ∈ p, in64E x) -> acc.length + p.length <= 32 -> p.length < n -> parF (a ++ txT p) n a.length acc = (acc ++ p, -1, 0)
 | [], n, a, acc, _, _, _, _ => by
  have : txT [] = [] := rfl
  rw [this, List.append_nil, List.append_nil]
  exact par_end (Nat.lt_irrefl _)
 | e :: p, 0, a, acc, _, _, _, h => by simp at h
 | e :: p, n + 1, a, acc, hB, hI, hl, hn => by
  obtain ⟨c, r, hc, _⟩ := elT_front (hB e (by simp))
  have hlt : a.length < (a ++ txT (e :: p)).length := by rw [txT_cons, hc]; simp
  have hb := nxt_back a (txT p) (hB e (by simp)) (hI e (by simp)) (txT_stop (fun x hx => hB x (by simp [hx])))
  have h32 : acc.length ≠ 32 := by rw [List.length_cons] at hl; omega
  rw [<- txT_cons] at hb
  rw [par_yes hlt h32 hb]
  have ih := par_back p n (a ++ elT e) (acc ++ [e]) (fun x hx => hB x (by simp [hx])) (fun x hx => hI x (by simp [hx])) (by rw [List.length_append]; simp only [List.length_cons, List.length_nil] at hl ⊢; omega) (by simpa using hn)
  rw [List.length_append, List.append_assoc, <- txT_cons] at ih
  rw [ih]; simp
theorem par_txT {p : List El} (h : pathB p = true) (hi : ∀ x ∈ p, in64E x) : parF (txT p) 33 0 [] = (p, -1, 0) := by
 have hp := pathB_all h
 have := par_back p 33 [] [] hp.2 hi (by simpa using hp.1) (by omega)
 simpa using this
theorem in64V0 : in64V nilW := In64.zero
theorem scaF_in {l : List UInt8} {k : Nat} {v : V} {k1 : Nat} (h : scaF l k = some (v, k1)) : in64V v := by
 unfold scaF at h
 split at h
 ·have e := congrArg Prod.fst (Option.some.inj h)
  subst e; exact In64.zero
 ·split at h
  ·have e := congrArg Prod.fst (Option.some.inj h)
   subst e; exact In64.zero
  ·split at h
   ·cases hq : quoF l k with
    | none => rw [hq] at h; cases h
    | some y =>
     rw [hq] at h
     have e := congrArg Prod.fst (Option.some.inj h)
     subst e; exact In64.zero
   ·unfold intF at h
    split at h
    ·rename_i v' hv
     have e := congrArg Prod.fst (Option.some.inj h)
     subst e
     exact parse_in64 hv
    ·cases h
theorem memF_in {l : List UInt8} {k : Nat} {m : Mem} {k1 : Nat} (h : memF l k = some (m, k1)) : in64V m.2 := by
 unfold memF at h
 split at h
 ·cases h
 ·rename_i n k2 hn
  split at h
  ·cases hq : scaF l (k2 + 1) with
   | none => rw [hq] at h; cases h
   | some y =>
    rw [hq] at h
    have e := congrArg Prod.fst (Option.some.inj h)
    have h1 := scaF_in (v := y.1) (k1 := y.2) hq
    subst e
    exact h1
  ·cases h
theorem keyF_in {l : List UInt8} : ∀ (n k : Nat) (acc m : List Mem) (k1 : Nat), (∀ x ∈ acc, in64V x.2) -> keyF l n k acc = some (m, k1) -> ∀ x ∈ m, in64V x.2
 | 0, k, acc, m, k1, _, h => by cases h
 | n + 1, k, acc, m, k1, ha, h => by
  unfold keyF at h
  split at h
  ·cases h
  ·rename_i x k2 hx
   have hw := memF_in hx
   have ha' : ∀ y ∈ acc ++ [x], in64V y.2 := by
    intro y hy
    rcases List.mem_append.1 hy with hy | hy
    ·exact ha y hy
    ·rw [List.mem_singleton] at hy; rw [hy]; exact hw
   split at h
   ·have e := congrArg Prod.fst (Option.some.inj h)
    dsimp only at e
    rw [<- e]; exact ha'
   ·split at h
    ·exact keyF_in n (k2 + 1) (acc ++ [x]) m k1 ha' h
    ·cases h
theorem elmF_in {l : List UInt8} {k : Nat} {x : El} {k1 : Nat} (h : elmF l k = some (x, k1)) : in64E x := by
 unfold elmF at h
 split at h
 ·cases hq : namF l (k + 1) with
  | none => rw [hq] at h; cases h
  | some y =>
   rw [hq] at h
   have e := congrArg Prod.fst (Option.some.inj h)
   subst e
   exact ⟨in64V0, fun x hx => by simp at hx⟩
 ·split at h
  ·split at h
   ·cases h
   ·rename_i v k2 hv
    split at h
    ·have e := congrArg Prod.fst (Option.some.inj h)
     subst e
     exact ⟨scaF_in hv, fun x hx => by simp at hx⟩
    ·cases h
  ·split at h
   ·cases hq : keyF l 8 (k + 1) [] with
    | none => rw [hq] at h; cases h
    | some y =>
     rw [hq] at h
     have e := congrArg Prod.fst (Option.some.inj h)
     have h1 := keyF_in 8 (k + 1) [] y.1 y.2 (by simp) hq
     subst e
     exact ⟨in64V0, h1⟩
   ·cases h
theorem par_inv {l : List UInt8} : ∀ (n k : Nat) (acc : List El), acc.length + n = 33 -> acc.length <= 32 -> (∀ x ∈ acc, elB x = true) -> (∀ x ∈ acc, in64E x) -> txT acc = l.take k ->
 (∃ r, parF l n k acc = (r, -1, 0) /\ pathB r = true /\ (∀ x ∈ r, in64E x) /\ txT r = l) \/ (∃ (j : Nat) (r : List El), parF l n k acc = ([], (j : Int), 90) /\ j < l.length /\ pathB r = true /\ (∀ x ∈ r, in64E x) /\ txT r = l.take j)
 | 0, k, acc, h, h', _, _, _ => by omega
 | n + 1, k, acc, h, h', hB, hI, ht => by
  have hpb : pathB acc = true := pathB_true h' (fun q hq => hB _ (List.getElem_mem hq))
  by_cases hk : k < l.length
  ·by_cases h32 : acc.length = 32
   ·exact .inr ⟨k, acc, par_full hk h32, hk, hpb, hI, ht⟩
   ·cases hx : nxtF l k with
    | none => exact .inr ⟨k, acc, par_no hk hx, hk, hpb, hI, ht⟩
    | some y =>
     obtain ⟨x, k1⟩ := y
     rw [par_yes hk h32 hx]
     unfold nxtF at hx
     split at hx
     ·cases hx
     ·rename_i x' k1' he
      split at hx
      ·rename_i hb
       split at hx
       ·rename_i hT
        have e1 := congrArg Prod.fst (Option.some.inj hx)
        have e2 := congrArg Prod.snd (Option.some.inj hx)
        dsimp only at e1 e2
        subst e1
        subst e2
        have hge := elmF_ge he
        refine par_inv n k1' (acc ++ [x']) (by simp; omega) (by simp; omega) ?_ ?_ ?_
        ·intro y hy
         rcases List.mem_append.1 hy with hy | hy
         ·exact hB y hy
         ·rw [List.mem_singleton] at hy; rw [hy]; exact hb
        ·intro y hy
         rcases List.mem_append.1 hy with hy | hy
         ·exact hI y hy
         ·rw [List.mem_singleton] at hy; rw [hy]; exact elmF_in he
        ·rw [txT, List.flatMap_append]
         show txT acc ++ (elT x' ++ []) = _
         rw [List.append_nil, ht, hT, <- List.take_add]
         congr 1
         omega
       ·cases hx
      ·cases hx
  ·refine .inl ⟨acc, par_end hk, hpb, hI, ?_⟩
   rw [ht, List.take_of_length_le (by omega)]
theorem par_says (l : List UInt8) :
 (∃ r, parF l 33 0 [] = (r, -1, 0) /\ pathB r = true /\ (∀ x ∈ r, in64E x) /\ txT r = l) \/ (∃ (j : Nat), parF l 33 0 [] = ([], (j : Int), 90) /\ j < l.length /\ ∃ r, parF (l.take j) 33 0 [] = (r, -1, 0)) := by
 rcases par_inv (l := l) 33 0 [] (by simp) (by simp) (by simp) (by simp) rfl with h | ⟨j, r, h1, h2, h3, h4, h5⟩
 ·exact .inl h
 ·exact .inr ⟨j, h1, h2, r, by rw [<- h5]; exact par_txT h3 h4⟩
end Go.Proofs.YtdgfjdhobdfglaaGreatDoor
namespace Go.Proofs
open Go.Shelf Go.RowKit
namespace YtdgfjdhobdfglaaGreatDoor
open Go.Lib Go.Sort
structure PC (w : World) (S : Nat -> Prop) where
 p : List El
 ao : Option Addr
 cap : Nat
 b : Nat
 o : Nat
 hh : Headed ao p.length cap b o
 hl : liesP w S p b o
instance pcThere (w : World) (S : Nat -> Prop) : Inhabited (PC w S) := ⟨⟨[], none, 0, 0, 0, ⟨Nat.le_refl _, by simp [maxLen], .inl rfl, fun _ => rfl⟩, fun j h => by simp at h⟩⟩
def PC.enc {w : World} {S : Nat -> Prop} (x : PC w S) : Value := .slice x.ao x.p.length x.cap
def PC.cmp {w : World} {S : Nat -> Prop} (x y : PC w S) : Int := lexL oeE x.p y.p
theorem PC.lies {w w' : World} {S S' : Nat -> Prop} (x : PC w S) (hw : ∀ b, S b -> w'.heap[b]? = w.heap[b]?) (hS : ∀ b, S b -> S' b) : Pl.lies w' S' x.p x.enc := ⟨x.ao, x.cap, x.b, x.o, rfl, x.hh, liesP_keep hw hS x.hl⟩
end YtdgfjdhobdfglaaGreatDoor
end Go.Proofs
set_option maxRecDepth 100000
namespace Go.Proofs.YtdgfjdhobdfglaaGreatDoor
open Go.RowKit Go.Lib Go.Sort
section
variable {α : Type} [Inhabited α] (r : α -> α -> Bool) (d : Array α)
def kp (j : Nat) : Bool := decide (j = 0) || !r d[j]! d[j - 1]!
def kpt : Nat -> List α
 | 0 => []
 | j + 1 => if kp r d j = true then kpt j ++ [d[j]!] else kpt j
theorem kpt_yes {j : Nat} (h : kp r d j = true) : kpt r d (j + 1) = kpt r d j ++ [d[j]!] := by rw [kpt, if_pos h]
structure CI (K kk : Nat) (dk : Array α) : Prop where
 size : dk.size = d.size
 len : kk = (kpt r d K).length
 lt : kk < K
 low : ∀ j, j < kk -> dk[j]? = (kpt r d K)[j]?
 high : ∀ j, K - 1 <= j -> dk[j]? = d[j]?
variable {r d}
theorem CI.keep {K kk : Nat} {dk : Array α} (h : CI r d K kk dk) (hK : K < d.size) (h2 : kp r d K = true) : CI r d (K + 1) (kk + 1) (dk.setIfInBounds kk d[K]!) := by
 have e := kpt_yes r d h2
 have hl := h.len
 have hlt := h.lt
 have hs := h.size
 refine ⟨by simp [h.size], by rw [e]; simp; omega, by omega, fun j hj => ?_, fun j hj => ?_⟩
 ·rw [e, Array.getElem?_setIfInBounds]
  by_cases hj' : j = kk
  ·subst hj'
   rw [if_pos rfl, if_pos (by omega), List.getElem?_append_right (by omega), show j - (kpt r d K).length = 0 by omega]
   rfl
  ·rw [if_neg (fun e => hj' e.symm), List.getElem?_append_left (by omega)]
   exact h.low j (by omega)
 ·rw [Array.getElem?_setIfInBounds, if_neg (by omega)]
  exact h.high j (by omega)
end
def Hold {w0 : World} {S : Nat -> Prop} (w : World) (g : Nat) (d : Array (PC w0 S)) : Prop := ∀ j, (hj : j < d.size) -> w.cell? ⟨g, j, none⟩ = some d[j].enc /\ w.frozen? ⟨g, j, none⟩ = false
theorem Hold.below {w0 : World} {S : Nat -> Prop} {w w' : World} {g : Nat} {d : Array (PC w0 S)} (h : Hold w g d) (hg : g < w.heap.size) (hb : Below w.heap.size w w') : Hold w' g d := fun j hj => by
 have e := hb.block g hg
 exact ⟨(World.cell?_of_block (w := w) (a := ⟨g, j, none⟩) e).trans (h j hj).1, (by simp only [World.frozen?]; rw [e]; exact (h j hj).2)⟩
theorem cell_set_other {w : World} {g k j : Nat} {v : Value} (e : k ≠ j) : (w.setCell ⟨g, k, none⟩ v).cell? ⟨g, j, none⟩ = w.cell? ⟨g, j, none⟩ := by
 cases h : w.heap[g]? with
 | none =>
  have hs : w.heap.size <= g := Array.getElem?_eq_none_iff.1 h
  have h2 : (w.setCell ⟨g, k, none⟩ v).heap[g]? = none := Array.getElem?_eq_none (by rw [size_set1]; exact hs)
  simp only [World.cell?, h, h2]
 | some o =>
  cases o with
  | cells c t f => rw [cell_of_block (set_block h k v), cell_of_block h, Array.getElem?_setIfInBounds, if_neg e]
  | _ => simp [World.cell?, World.setCell, Array.getElem?_modify, h]
theorem Hold.set {w0 : World} {S : Nat -> Prop} {w : World} {g : Nat} {d : Array (PC w0 S)} (h : Hold w g d) (k : Nat) (x : PC w0 S) (hk : k < d.size) : Hold (w.setCell ⟨g, k, none⟩ x.enc) g (d.setIfInBounds k x) := fun j hj => by
 have hj' : j < d.size := by simpa using hj
 refine ⟨?_, by rw [World.frozen?_setCell]; exact (h j hj').2⟩
 by_cases e : k = j
 ·subst e
  rw [World.cell?_setCell_same' _ _ _ (by rw [(h k hj').1]; rfl)]
  simp
 ·rw [cell_set_other e, (h j hj').1]
  have h1 : (d.setIfInBounds k x)[j]? = d[j]? := by rw [Array.getElem?_setIfInBounds, if_neg e]
  rw [Array.getElem?_eq_getElem hj, Array.getElem?_eq_getElem hj'] at h1
  rw [Option.some.inj h1]
end Go.Proofs.YtdgfjdhobdfglaaGreatDoor
set_option maxRecDepth 100000
namespace Go.Proofs.YtdgfjdhobdfglaaGreatDoor
open Go.RowKit Go.Lib
theorem scV_sizS {v : V} (hv : sizS v = true) : scV v = v := by
 simp only [sizS, Bool.and_eq_true, decide_eq_true_eq] at hv
 have gv := chkV_allG 40 v 0 _ (okV_true hv.1)
 obtain ⟨k, b, i, s, l, m⟩ := v
 rw [allG] at gv
 have p := goodB_plain gv.1
 have hk := hv.2
 simp only [kindOf] at hk
 have l0 : l = [] := List.length_eq_zero_iff.1 (p.2.2.2.2.2.1.resolve_left (by omega))
 have m0 : m = [] := List.length_eq_zero_iff.1 (p.2.2.2.2.2.2.resolve_left (by omega))
 rw [scV, l0, m0]
theorem scV_nil {v : V} (h : nilV v = true) : scV v = v := by rw [nilV_eq h]; rfl
theorem anE_same {x : El} (hx : elB x = true) : anE x = x := by
 obtain ⟨k, n, m, v⟩ := x
 by_cases h1 : k = 1
 ·rw [elB1 h1] at hx
  simp only [Bool.and_eq_true, decide_eq_true_eq] at hx
  simp only [anE]
  rw [List.length_eq_zero_iff.1 hx.1, scV_nil hx.2.1]; rfl
 by_cases h2 : k = 2
 ·rw [elB2 h2] at hx
  simp only [Bool.and_eq_true, decide_eq_true_eq] at hx
  simp only [anE]
  have em : m.map (fun q => (q.1, scV q.2)) = m := by
   have h : ∀ q ∈ m, (fun q : Mem => (q.1, scV q.2)) q = id q := fun q hq => Prod.ext rfl (scV_sizS (keysB_all hx.2.2 q hq))
   rw [List.map_congr_left h, List.map_id]
  rw [em, scV_nil hx.2.1]
 by_cases h3 : k = 3
 ·rw [elB3 h3] at hx
  simp only [Bool.and_eq_true, decide_eq_true_eq] at hx
  simp only [anE]
  rw [List.length_eq_zero_iff.1 hx.2.1, scV_sizS hx.2.2]; rfl
 ·rw [elB0 h1 h2 h3] at hx; cases hx
theorem anP_same {p : List El} (hp : pathB p = true) : p.map anE = p := by
 have h : ∀ x ∈ p, anE x = id x := fun x hx => anE_same ((pathB_all hp).2 x hx)
 rw [List.map_congr_left h, List.map_id]
end Go.Proofs.YtdgfjdhobdfglaaGreatDoor
set_option maxRecDepth 100000
namespace Go.Proofs.YtdgfjdhobdfglaaGreatDoor
open Go.RowKit Go.Lib Go.Sort
def Rs (l R : List (List El)) : Prop := R.Pairwise (fun a b => lexL oeE a b < 0) /\ ∀ p, p ∈ R ↔ p ∈ l
theorem rise_uniq {α : Type} {f : α -> α -> Int} (hf : Wko f) : ∀ (R R' : List α), R.Pairwise (fun a b => f a b < 0) -> R'.Pairwise (fun a b => f a b < 0) -> (∀ p, p ∈ R ↔ p ∈ R') -> R = R'
 | [], [], _, _, _ => rfl
 | [], y :: t, _, _, h => by have := (h y).2 List.mem_cons_self; cases this
 | x :: t, [], _, _, h => by have := (h x).1 List.mem_cons_self; cases this
 | x :: t, y :: t', h1, h2, h => by
  rw [List.pairwise_cons] at h1 h2
  have hxy : x = y := by
   rcases List.mem_cons.1 ((h x).1 List.mem_cons_self) with e | hx
   ·exact e
   ·rcases List.mem_cons.1 ((h y).2 List.mem_cons_self) with e | hy
    ·exact e.symm
    ·have a := h2.1 x hx
     have b := h1.1 y hy
     have := hf.anti x y
     omega
  subst hxy
  rw [rise_uniq hf t t' h1.2 h2.2 fun p => ⟨fun hp => ?_, fun hp => ?_⟩]
  ·rcases List.mem_cons.1 ((h p).1 (List.mem_cons_of_mem _ hp)) with e | e
   ·subst e; have a := h1.1 _ hp; have := hf.self p; omega
   ·exact e
  ·rcases List.mem_cons.1 ((h p).2 (List.mem_cons_of_mem _ hp)) with e | e
   ·subst e; have a := h2.1 _ hp; have := hf.self p; omega
   ·exact e
theorem Rs.uniq {l R R' : List (List El)} (h : Rs l R) (h' : Rs l R') : R = R' := rise_uniq wk_P R R' h.1 h'.1 (fun p => (h.2 p).trans (h'.2 p).symm)
end Go.Proofs.YtdgfjdhobdfglaaGreatDoor
