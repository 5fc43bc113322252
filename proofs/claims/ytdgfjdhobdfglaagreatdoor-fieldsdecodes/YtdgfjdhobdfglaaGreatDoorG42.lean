/- joined: DbkQ DbkR BckS BckT -/
import Derived.Test.YtdgfjdhobdfglaaGreatDoorG41
set_option linter.unusedSimpArgs false
set_option linter.unusedVariables false
set_option maxRecDepth 100000
namespace Go.Proofs.YtdgfjdhobdfglaaGreatDoor
open Go.RowKit Go.Lib
def stopW : List UInt8 -> Prop
 | [] => True
 | c :: _ => wrdB c.toNat = false
theorem runW_back (a l t : List UInt8) (h : ∀ c ∈ l, wrdB c.toNat = true) (ht : stopW t) : ((a ++ (l ++ t)).drop a.length).takeWhile (fun x => wrdB x.toNat) = l := by
 rw [List.drop_left, List.takeWhile_append_of_pos h]
 cases t with
 | nil => simp
 | cons c t =>
  have ht' : wrdB c.toNat = false := ht
  rw [List.takeWhile_cons, if_neg (by rw [ht']; decide), List.append_nil]
theorem itoa_bytes (i : Int) : ∀ c ∈ itoa i, wrdB c.toNat = true /\ numB c.toNat = true := by
 intro c hc
 have h := itoa_set i c hc
 have key : ∀ d : Fin 256, minDig.contains (UInt8.ofNat d.val) = true -> wrdB (d.val : Int) = true /\ numB (d.val : Int) = true := by decide +kernel
 exact key ⟨c.toNat, c.toNat_lt⟩ (by simpa using h)
theorem tw_all {P : UInt8 -> Bool} : ∀ {l : List UInt8}, (∀ c ∈ l, P c = true) -> l.takeWhile P = l
 | [], _ => rfl
 | c :: t, h => by rw [List.takeWhile_cons, if_pos (h c (by simp)), tw_all (fun x hx => h x (by simp [hx]))]
theorem parP_itoa (i : Int) (h : In64 i) : parP (itoa i) = some (.mk 2 false i ⟨#[]⟩ [] []) := by
 have hb := itoa_bytes i
 obtain ⟨c, r, hc, _⟩ := itoa_head i
 have hn := (hb c (by rw [hc]; simp)).2
 obtain ⟨n1, n2, n3, _⟩ := numB_no hn
 have htw : (itoa i).takeWhile (fun x => numB x.toNat) = itoa i := tw_all (fun c hc => (hb c hc).2)
 have hv : valP (itoa i) = some (.mk 2 false i ⟨#[]⟩ [] [], (itoa i).length) := by
  unfold valP
  rw [htw, dint_itoa i h]
  rw [hc]
  simp only [List.head?_cons]
  rw [if_neg n1, if_neg n2, if_neg n3, if_pos hn]
  rfl
 rw [parP, hv, Option.bind_some, if_pos rfl]
theorem dsca_back (a : List UInt8) {v : V} (t : List UInt8) (h : sizS v = true) (hi : in64V v) (ht : stopW t) : dscaF (a ++ (svT v ++ t)) a.length = some (v, a.length + (svT v).length) := by
 rcases sca_cases h with ⟨b, rfl⟩ | ⟨i, rfl⟩ | ⟨s, hv, rfl⟩
 ·cases b with
  | true =>
   have e : svT (V.mk 1 true 0 ⟨#[]⟩ [] []) = [116, 114, 117, 101] := by rw [svT, scT, if_pos rfl, bolT, if_pos rfl]
   rw [e, dscaF, runW_back a _ t (by decide) ht, if_neg (by rw [List.drop_left]; simp)]
   rfl
  | false =>
   have e : svT (V.mk 1 false 0 ⟨#[]⟩ [] []) = [102, 97, 108, 115, 101] := by rw [svT, scT, if_pos rfl, bolT, if_neg (by decide)]
   rw [e, dscaF, runW_back a _ t (by decide) ht, if_neg (by rw [List.drop_left]; simp)]
   rfl
 ·have e : svT (V.mk 2 false i ⟨#[]⟩ [] []) = itoa i := by rw [svT, scT, if_neg (by decide), if_pos rfl]
  obtain ⟨c, r, hc, _, _, h34⟩ := itoa_head i
  rw [e, dscaF, runW_back a _ t (fun c hc => (itoa_bytes i c hc).1) ht, parP_itoa i hi, if_neg (by
   rw [List.drop_left, hc]
   intro hh
   exact h34 (Option.some.inj hh))]
  rfl
 ·have e : svT (V.mk 3 false 0 s [] []) = Q.qt s.data.toList := by rw [svT, scT, if_neg (by decide), if_neg (by decide)]
  have hq := quo_back a s.data.toList t hv
  have hb : (⟨s.data.toList.toArray⟩ : ByteArray) = s := by simp
  rw [e, dscaF, hq, if_pos (by rw [List.drop_left]; rfl), Option.map_some, hb]
end Go.Proofs.YtdgfjdhobdfglaaGreatDoor
set_option maxRecDepth 100000
namespace Go.Proofs.YtdgfjdhobdfglaaGreatDoor
open Go.RowKit Go.Lib
def dmemF (l : List UInt8) (k : Nat) : Option (Mem × Nat) :=
 match namF l k with
 | none => none
 | some (n, k1) => if tkB l k1 [61] = true then (dscaF l (k1 + 1)).map (fun x => ((n, x.1), x.2)) else none
def dkeyF (l : List UInt8) : Nat -> Nat -> List Mem -> Option (List Mem × Nat)
 | 0, _, _ => none
 | n + 1, k, acc =>
  match dmemF l k with
  | none => none
  | some (m, k1) => if tkB l k1 [93] = true then some (acc ++ [m], k1 + 1) else if tkB l k1 [44] = true then dkeyF l n (k1 + 1) (acc ++ [m]) else none
def dreadF (l : List UInt8) (k : Nat) : Option (El × Nat) :=
 if tkB l k [46] = true then (namF l (k + 1)).map (fun x => (⟨1, x.1, [], nilW⟩, x.2))
 else if tkB l k [91] = true then
  if tkB l (k + 1) [61] = true then
   match dscaF l (k + 2) with
   | none => none
   | some (v, k1) => if tkB l k1 [93] = true then some (⟨3, ⟨#[]⟩, [], v⟩, k1 + 1) else none
  else (dkeyF l (l.length + 1) (k + 1) []).map (fun x => (⟨2, ⟨#[]⟩, x.1, nilW⟩, x.2))
 else none
theorem stopW_N : stopW [93] /\ ∀ t, stopW (93 :: t) /\ stopW (44 :: t) := ⟨(by decide : wrdB 93 = false), fun t => ⟨(by decide : wrdB 93 = false), (by decide : wrdB 44 = false)⟩⟩
theorem memT_pos (x : Mem) : 1 <= (memT x).length := by simp [memT]; omega
theorem kyT_lenL : ∀ (m : List Mem) (b : UInt8), m.length <= (kyT b m).length
 | [], b => by simp [kyT]
 | x :: t, b => by
  have := kyT_lenL t 44
  simp only [kyT, List.length_cons, List.length_append]; omega
theorem kyV_len (m : List Mem) : m.length <= (kyV m).length := by
 cases m with
 | nil => simp
 | cons x t =>
  have h1 := memT_pos x
  have h2 := kyT_lenL t 44
  simp only [kyV, List.length_cons, List.length_append]; omega
theorem dmem_back (a : List UInt8) {x : Mem} (t : List UInt8) (h : GoodM x) (ht : stopW t) : dmemF (a ++ (memT x ++ t)) a.length = some (x, a.length + (memT x).length) := by
 obtain ⟨n, v⟩ := x
 have e1 : a ++ (memT (n, v) ++ t) = a ++ (nmT n.data.toList ++ (61 :: (svT v ++ t))) := by simp [memT]
 have e2 : a ++ (nmT n.data.toList ++ (61 :: (svT v ++ t))) = (a ++ nmT n.data.toList) ++ (61 :: (svT v ++ t)) := by simp
 have e3 : a ++ (nmT n.data.toList ++ (61 :: (svT v ++ t))) = (a ++ nmT n.data.toList ++ [61]) ++ (svT v ++ t) := by simp
 have l2 : a.length + (nmT n.data.toList).length = (a ++ nmT n.data.toList).length := by simp
 have l3 : a.length + (nmT n.data.toList).length + 1 = (a ++ nmT n.data.toList ++ [61]).length := by simp [Nat.add_assoc]
 have hn := nam_back a n (61 :: (svT v ++ t)) h.1 (show okR 1 61 = false by decide)
 have htk : tkB (a ++ (nmT n.data.toList ++ (61 :: (svT v ++ t)))) (a.length + (nmT n.data.toList).length) [61] = true := by
  rw [e2, l2, tk_at]; exact hp_yes [61] _
 have hs := dsca_back (a ++ nmT n.data.toList ++ [61]) (v := v) t h.2.1 h.2.2 ht
 rw [<- e3, <- l3] at hs
 rw [e1, dmemF, hn]
 dsimp only
 rw [if_pos htk, hs, Option.map_some]
 have : a.length + (memT (n, v)).length = a.length + (nmT n.data.toList).length + 1 + (svT v).length := by simp [memT]; omega
 rw [this]
theorem dkey_back : ∀ (l : List Mem) (n : Nat) (a : List UInt8) (acc : List Mem) (t : List UInt8), 0 < l.length -> l.length <= n -> (∀ x ∈ l, GoodM x) -> dkeyF (a ++ (kyV l ++ 93 :: t)) n a.length acc = some (acc ++ l, a.length + (kyV l).length + 1)
 | [], n, a, acc, t, h0, _, _ => by simp at h0
 | x :: l, 0, a, acc, t, _, h1, _ => by simp at h1
 | [x], n + 1, a, acc, t, _, _, hg => by
  have hm := dmem_back a (93 :: t) (hg x (by simp)) ((stopW_N.2 _).1)
  have e : kyV [x] = memT x := by simp [kyV, kyT]
  have htk : tkB (a ++ (memT x ++ 93 :: t)) (a.length + (memT x).length) [93] = true := by
   rw [show a ++ (memT x ++ 93 :: t) = (a ++ memT x) ++ 93 :: t by simp, show a.length + (memT x).length = (a ++ memT x).length by simp, tk_at]; exact hp_yes [93] _
  rw [e, dkeyF, hm]
  dsimp only
  rw [if_pos htk]
 | x :: y :: l, n + 1, a, acc, t, _, h1, hg => by
  have e : kyV (x :: y :: l) = memT x ++ 44 :: kyV (y :: l) := by simp [kyV, kyT]
  have hm := dmem_back a (44 :: (kyV (y :: l) ++ 93 :: t)) (hg x (by simp)) ((stopW_N.2 _).2)
  have e0 : a ++ (kyV (x :: y :: l) ++ 93 :: t) = a ++ (memT x ++ 44 :: (kyV (y :: l) ++ 93 :: t)) := by rw [e]; simp
  have e1 : a ++ (memT x ++ 44 :: (kyV (y :: l) ++ 93 :: t)) = (a ++ memT x) ++ 44 :: (kyV (y :: l) ++ 93 :: t) := by simp
  have e2 : a ++ (memT x ++ 44 :: (kyV (y :: l) ++ 93 :: t)) = (a ++ memT x ++ [44]) ++ (kyV (y :: l) ++ 93 :: t) := by simp
  have l1 : a.length + (memT x).length = (a ++ memT x).length := by simp
  have l2 : a.length + (memT x).length + 1 = (a ++ memT x ++ [44]).length := by simp [Nat.add_assoc]
  have t1 : tkB (a ++ (memT x ++ 44 :: (kyV (y :: l) ++ 93 :: t))) (a.length + (memT x).length) [93] = false := by
   rw [e1, l1, tk_at, hp_no _ _ (by decide)]
  have t2 : tkB (a ++ (memT x ++ 44 :: (kyV (y :: l) ++ 93 :: t))) (a.length + (memT x).length) [44] = true := by
   rw [e1, l1, tk_at]; exact hp_yes [44] _
  have ih := dkey_back (y :: l) n (a ++ memT x ++ [44]) (acc ++ [x]) t (by simp) (by simpa using h1) (fun z hz => hg z (by simp [List.mem_cons.1 hz]))
  rw [<- e2, <- l2] at ih
  rw [e0, dkeyF, hm]
  dsimp only
  rw [if_neg (by rw [t1]; decide), if_pos t2, ih]
  have e5 : acc ++ [x] ++ y :: l = acc ++ x :: y :: l := by simp
  rw [e5, e]
  simp only [List.length_append, List.length_cons]
  congr 2
  omega
end Go.Proofs.YtdgfjdhobdfglaaGreatDoor
set_option maxRecDepth 100000
namespace Go.Proofs.YtdgfjdhobdfglaaGreatDoor
open Go.RowKit Go.Lib
theorem nam_backP (a : List UInt8) (n : ByteArray) (t : List UInt8) (hv : utfB n = true) (ht : plnN n.data.toList = true -> stopN t) : namF (a ++ (nmT n.data.toList ++ t)) a.length = some (n, a.length + (nmT n.data.toList).length) := by
 have hb : (⟨n.data.toList.toArray⟩ : ByteArray) = n := by simp
 unfold namF
 rw [List.drop_left]
 unfold nmT
 by_cases hp : plnN n.data.toList = true
 ·rw [if_pos hp]
  have hp0 := hp
  unfold plnN at hp
  rw [Bool.and_eq_true] at hp
  have hne : 0 < n.data.toList.length := by
   cases h : n.data.toList with
   | nil => rw [h] at hp; simp at hp
   | cons _ _ => simp
  have e := prefN_app n.data.toList 0 t hp.2 (by omega) (ht hp0)
  rw [Nat.zero_add] at e
  rw [e, if_pos hne, List.take_left, hb]
 ·rw [if_neg hp]
  have e : prefN 0 (Q.qt n.data.toList ++ t) = 0 := by
   show prefN 0 (34 :: _) = 0
   rw [prefN, if_neg (by decide)]
  have hv' : validD n.data.toList = true := by simpa [utfB] using hv
  rw [e, if_neg (by omega), quo_back a _ t hv', hb]
theorem elm_backP (a : List UInt8) {e : El} (t : List UInt8) (h : elB e = true) (hi : in64E e) (ht : e.kind = 1 -> plnN e.name.data.toList = true -> stopN t) : elmF (a ++ (elT e ++ t)) a.length = some (e, a.length + (elT e).length) := by
 obtain ⟨k, n, m, v⟩ := e
 by_cases h1 : k = 1
 ·subst h1
  rw [elB1 rfl] at h
  simp only [Bool.and_eq_true, decide_eq_true_eq] at h
  have hm := List.length_eq_zero_iff.1 h.1
  have hv := nilV_eq h.2.1
  subst hm
  subst hv
  have e : elT ⟨1, n, [], .mk 0 false 0 ⟨#[]⟩ [] []⟩ = 46 :: nmT n.data.toList := by rw [elT]; rfl
  have e2 : a ++ (46 :: nmT n.data.toList ++ t) = (a ++ [46]) ++ (nmT n.data.toList ++ t) := by simp
  have l2 : a.length + 1 = (a ++ [46]).length := by simp
  have hn := nam_backP (a ++ [46]) n t h.2.2 (ht rfl)
  rw [<- e2, <- l2] at hn
  rw [e, elmF, if_pos (by rw [tk_at]; exact hp_yes [46] _), hn, Option.map_some]
  simp only [List.length_cons]
  rw [show a.length + 1 + (nmT n.data.toList).length = a.length + ((nmT n.data.toList).length + 1) by omega]
  rfl
 by_cases h2 : k = 2
 ·subst h2
  rw [elB2 rfl] at h
  simp only [Bool.and_eq_true, decide_eq_true_eq] at h
  have hn : n = ⟨#[]⟩ := bytes_eq (h.1.trans nil_toList.symm)
  have hv := nilV_eq h.2.1
  subst hn
  subst hv
  have hpos := keysB_pos h.2.2
  have hle : m.length <= 8 := by
   have := h.2.2
   simp only [keysB, Bool.and_eq_true, decide_eq_true_eq] at this
   exact this.1.2
  have hg : ∀ x ∈ m, GoodM x := by
   intro x hx
   obtain ⟨j, hj, rfl⟩ := List.getElem_of_mem hx
   have g := keysB_get h.2.2 hj
   exact ⟨g.1, g.2, hi.2 _ hx⟩
  have e : elT ⟨2, ⟨#[]⟩, m, .mk 0 false 0 ⟨#[]⟩ [] []⟩ = 91 :: (kyV m ++ [93]) := by
   rw [elT]
   dsimp only
   rw [if_neg (by decide), if_neg (by decide), kyT_kyV 91 hpos]; rfl
  have e0 : a ++ (91 :: (kyV m ++ [93]) ++ t) = a ++ (91 :: (kyV m ++ 93 :: t)) := by simp
  have e2 : a ++ (91 :: (kyV m ++ 93 :: t)) = (a ++ [91]) ++ (kyV m ++ 93 :: t) := by simp
  have l2 : a.length + 1 = (a ++ [91]).length := by simp
  have hk := key_back m 8 (a ++ [91]) [] t hpos hle hg
  rw [<- e2, <- l2, List.nil_append] at hk
  obtain ⟨c, r, hc, h61⟩ : ∃ c r, kyV m ++ 93 :: t = c :: r /\ c ≠ 61 := by
   cases m with
   | nil => simp at hpos
   | cons x m =>
    show ∃ c r, memT x ++ kyT 44 m ++ 93 :: t = c :: r /\ c ≠ 61
    have : ∃ c r, memT x = c :: r /\ c ≠ 61 := by
     unfold memT nmT
     split
     ·rename_i hp
      unfold plnN at hp
      cases hd : x.1.data.toList with
      | nil => rw [hd] at hp; simp at hp
      | cons c r =>
       refine ⟨c, _, rfl, ?_⟩
       rw [hd, Bool.and_eq_true, allN, Bool.and_eq_true] at hp
       rintro rfl
       exact absurd hp.2.1 (by decide)
     ·exact ⟨34, _, rfl, by decide⟩
    obtain ⟨c, r, hc, h61⟩ := this
    exact ⟨c, r ++ kyT 44 m ++ 93 :: t, by rw [hc]; simp, h61⟩
  have t1 : tkB (a ++ (91 :: (kyV m ++ 93 :: t))) a.length [46] = false := by rw [tk_at, hp_no _ _ (by decide)]
  have t2 : tkB (a ++ (91 :: (kyV m ++ 93 :: t))) a.length [91, 61] = false := by
   rw [tk_at, hc]
   unfold hasPrefix
   simp [List.isPrefixOf, Ne.symm h61]
  have t3 : tkB (a ++ (91 :: (kyV m ++ 93 :: t))) a.length [91] = true := by rw [tk_at]; exact hp_yes [91] _
  rw [e, e0, elmF, if_neg (by rw [t1]; decide), if_neg (by rw [t2]; decide), if_pos t3, hk, Option.map_some]
  simp only [List.length_cons, List.length_append, List.length_nil]
  rw [show a.length + 1 + (kyV m).length + 1 = a.length + ((kyV m).length + (0 + 1) + 1) by omega]
  rfl
 by_cases h3 : k = 3
 ·subst h3
  rw [elB3 rfl] at h
  simp only [Bool.and_eq_true, decide_eq_true_eq] at h
  have hn : n = ⟨#[]⟩ := bytes_eq (h.1.trans nil_toList.symm)
  have hm := List.length_eq_zero_iff.1 h.2.1
  subst hn
  subst hm
  have e : elT ⟨3, ⟨#[]⟩, [], v⟩ = 91 :: 61 :: (svT v ++ [93]) := by
   rw [elT]
   dsimp only
   rw [if_neg (by decide), if_pos rfl]
  have e0 : a ++ (91 :: 61 :: (svT v ++ [93]) ++ t) = a ++ (91 :: 61 :: (svT v ++ 93 :: t)) := by simp
  have e2 : a ++ (91 :: 61 :: (svT v ++ 93 :: t)) = (a ++ [91, 61]) ++ (svT v ++ 93 :: t) := by simp
  have l2 : a.length + 2 = (a ++ [91, 61]).length := by simp
  have e3 : a ++ (91 :: 61 :: (svT v ++ 93 :: t)) = (a ++ [91, 61] ++ svT v) ++ 93 :: t := by simp
  have l3 : a.length + 2 + (svT v).length = (a ++ [91, 61] ++ svT v).length := by simp; omega
  have hs := sca_back (a ++ [91, 61]) (v := v) (93 :: t) h.2.2 hi.1 (show minDig.contains 93 = false by decide)
  rw [<- e2, <- l2] at hs
  have t1 : tkB (a ++ (91 :: 61 :: (svT v ++ 93 :: t))) a.length [46] = false := by rw [tk_at, hp_no _ _ (by decide)]
  have t2 : tkB (a ++ (91 :: 61 :: (svT v ++ 93 :: t))) a.length [91, 61] = true := by rw [tk_at]; exact hp_yes [91, 61] _
  have t3 : tkB (a ++ (91 :: 61 :: (svT v ++ 93 :: t))) (a.length + 2 + (svT v).length) [93] = true := by rw [e3, l3, tk_at]; exact hp_yes [93] _
  rw [e, e0, elmF, if_neg (by rw [t1]; decide), if_pos t2, hs]
  dsimp only
  rw [if_pos t3]
  simp only [List.length_cons, List.length_append, List.length_nil]
  rw [show a.length + 2 + (svT v).length + 1 = a.length + ((svT v).length + (0 + 1) + 1 + 1) by omega]
 ·rw [elB0 h1 h2 h3] at h; cases h
theorem dread_backP (a : List UInt8) {e : El} (t : List UInt8) (h : elB e = true) (hi : in64E e) (ht : e.kind = 1 -> plnN e.name.data.toList = true -> stopN t) : dreadF (a ++ (elT e ++ t)) a.length = some (e, a.length + (elT e).length) := by
 obtain ⟨k, n, m, v⟩ := e
 by_cases h1 : k = 1
 ·subst h1
  rw [elB1 rfl] at h
  simp only [Bool.and_eq_true, decide_eq_true_eq] at h
  have hm := List.length_eq_zero_iff.1 h.1
  have hv := nilV_eq h.2.1
  subst hm
  subst hv
  have e : elT ⟨1, n, [], .mk 0 false 0 ⟨#[]⟩ [] []⟩ = 46 :: nmT n.data.toList := by rw [elT]; rfl
  have e2 : a ++ (46 :: nmT n.data.toList ++ t) = (a ++ [46]) ++ (nmT n.data.toList ++ t) := by simp
  have l2 : a.length + 1 = (a ++ [46]).length := by simp
  have hn := nam_backP (a ++ [46]) n t h.2.2 (ht rfl)
  rw [<- e2, <- l2] at hn
  rw [e, dreadF, if_pos (by rw [tk_at]; exact hp_yes [46] _), hn, Option.map_some]
  simp only [List.length_cons]
  rw [show a.length + 1 + (nmT n.data.toList).length = a.length + ((nmT n.data.toList).length + 1) by omega]
  rfl
 by_cases h2 : k = 2
 ·subst h2
  rw [elB2 rfl] at h
  simp only [Bool.and_eq_true, decide_eq_true_eq] at h
  have hn : n = ⟨#[]⟩ := bytes_eq (h.1.trans nil_toList.symm)
  have hv := nilV_eq h.2.1
  subst hn
  subst hv
  have hpos := keysB_pos h.2.2
  have hle : m.length <= 8 := by
   have := h.2.2
   simp only [keysB, Bool.and_eq_true, decide_eq_true_eq] at this
   exact this.1.2
  have hg : ∀ x ∈ m, GoodM x := by
   intro x hx
   obtain ⟨j, hj, rfl⟩ := List.getElem_of_mem hx
   have g := keysB_get h.2.2 hj
   exact ⟨g.1, g.2, hi.2 _ hx⟩
  have e : elT ⟨2, ⟨#[]⟩, m, .mk 0 false 0 ⟨#[]⟩ [] []⟩ = 91 :: (kyV m ++ [93]) := by
   rw [elT]
   dsimp only
   rw [if_neg (by decide), if_neg (by decide), kyT_kyV 91 hpos]; rfl
  have e0 : a ++ (91 :: (kyV m ++ [93]) ++ t) = a ++ (91 :: (kyV m ++ 93 :: t)) := by simp
  have e2 : a ++ (91 :: (kyV m ++ 93 :: t)) = (a ++ [91]) ++ (kyV m ++ 93 :: t) := by simp
  have l2 : a.length + 1 = (a ++ [91]).length := by simp
  have hk := dkey_back m ((a ++ (91 :: (kyV m ++ 93 :: t))).length + 1) (a ++ [91]) [] t hpos (by have := kyV_len m; simp only [List.length_append, List.length_cons]; omega) hg
  rw [<- e2, <- l2, List.nil_append] at hk
  obtain ⟨c, r, hc, h61⟩ : ∃ c r, kyV m ++ 93 :: t = c :: r /\ c ≠ 61 := by
   cases m with
   | nil => simp at hpos
   | cons x m =>
    show ∃ c r, memT x ++ kyT 44 m ++ 93 :: t = c :: r /\ c ≠ 61
    have : ∃ c r, memT x = c :: r /\ c ≠ 61 := by
     unfold memT nmT
     split
     ·rename_i hp
      unfold plnN at hp
      cases hd : x.1.data.toList with
      | nil => rw [hd] at hp; simp at hp
      | cons c r =>
       refine ⟨c, _, rfl, ?_⟩
       rw [hd, Bool.and_eq_true, allN, Bool.and_eq_true] at hp
       rintro rfl
       exact absurd hp.2.1 (by decide)
     ·exact ⟨34, _, rfl, by decide⟩
    obtain ⟨c, r, hc, h61⟩ := this
    exact ⟨c, r ++ kyT 44 m ++ 93 :: t, by rw [hc]; simp, h61⟩
  have t1 : tkB (a ++ (91 :: (kyV m ++ 93 :: t))) a.length [46] = false := by rw [tk_at, hp_no _ _ (by decide)]
  have t2 : tkB (a ++ (91 :: (kyV m ++ 93 :: t))) (a.length + 1) [61] = false := by
   rw [e2, l2, tk_at, hc, hp_no _ _ h61]
  have t3 : tkB (a ++ (91 :: (kyV m ++ 93 :: t))) a.length [91] = true := by rw [tk_at]; exact hp_yes [91] _
  rw [e, e0, dreadF, if_neg (by rw [t1]; decide), if_pos t3, if_neg (by rw [t2]; decide), hk, Option.map_some]
  simp only [List.length_cons, List.length_append, List.length_nil]
  rw [show a.length + 1 + (kyV m).length + 1 = a.length + ((kyV m).length + (0 + 1) + 1) by omega]
  rfl
 by_cases h3 : k = 3
 ·subst h3
  rw [elB3 rfl] at h
  simp only [Bool.and_eq_true, decide_eq_true_eq] at h
  have hn : n = ⟨#[]⟩ := bytes_eq (h.1.trans nil_toList.symm)
  have hm := List.length_eq_zero_iff.1 h.2.1
  subst hn
  subst hm
  have e : elT ⟨3, ⟨#[]⟩, [], v⟩ = 91 :: 61 :: (svT v ++ [93]) := by
   rw [elT]
   dsimp only
   rw [if_neg (by decide), if_pos rfl]
  have e0 : a ++ (91 :: 61 :: (svT v ++ [93]) ++ t) = a ++ (91 :: 61 :: (svT v ++ 93 :: t)) := by simp
  have e2 : a ++ (91 :: 61 :: (svT v ++ 93 :: t)) = (a ++ [91, 61]) ++ (svT v ++ 93 :: t) := by simp
  have l2 : a.length + 2 = (a ++ [91, 61]).length := by simp
  have e3 : a ++ (91 :: 61 :: (svT v ++ 93 :: t)) = (a ++ [91, 61] ++ svT v) ++ 93 :: t := by simp
  have l3 : a.length + 2 + (svT v).length = (a ++ [91, 61] ++ svT v).length := by simp; omega
  have hs := dsca_back (a ++ [91, 61]) (v := v) (93 :: t) h.2.2 hi.1 ((stopW_N.2 _).1)
  rw [<- e2, <- l2] at hs
  have t1 : tkB (a ++ (91 :: 61 :: (svT v ++ 93 :: t))) a.length [46] = false := by rw [tk_at, hp_no _ _ (by decide)]
  have t2 : tkB (a ++ (91 :: 61 :: (svT v ++ 93 :: t))) a.length [91] = true := by rw [tk_at]; exact hp_yes [91] _
  have t4 : tkB (a ++ (91 :: 61 :: (svT v ++ 93 :: t))) (a.length + 1) [61] = true := by
   rw [show a ++ (91 :: 61 :: (svT v ++ 93 :: t)) = (a ++ [91]) ++ (61 :: (svT v ++ 93 :: t)) by simp, show a.length + 1 = (a ++ [91]).length by simp, tk_at]
   exact hp_yes [61] _
  have t3 : tkB (a ++ (91 :: 61 :: (svT v ++ 93 :: t))) (a.length + 2 + (svT v).length) [93] = true := by rw [e3, l3, tk_at]; exact hp_yes [93] _
  rw [e, e0, dreadF, if_neg (by rw [t1]; decide), if_pos t2, if_pos t4, hs]
  dsimp only
  rw [if_pos t3]
  simp only [List.length_cons, List.length_append, List.length_nil]
  rw [show a.length + 2 + (svT v).length + 1 = a.length + ((svT v).length + (0 + 1) + 1 + 1) by omega]
 ·rw [elB0 h1 h2 h3] at h; cases h
theorem prefN_rest : ∀ (l : List UInt8) (i : Nat), 0 < prefN i l -> stopN (l.drop (prefN i l - i))
 | [], i, _ => by simp [stopN]
 | c :: t, i, h => by
  rw [prefN] at h ⊢
  split
  ·rename_i ho
   rw [if_pos ho] at h
   have ih := prefN_rest t (i + 1) h
   have hle := (prefN_le t (i + 1)).1
   rw [show prefN (i + 1) t - i = (prefN (i + 1) t - (i + 1)) + 1 by omega, List.drop_succ_cons]
   exact ih
  ·rename_i ho
   rw [if_neg ho] at h
   rw [Nat.sub_self, List.drop_zero]
   show okR 1 c.toNat = false
   rw [okR_pos 1 _ (by omega), <- okR_pos i _ (by omega)]
   simpa using ho
theorem nam_stop {l : List UInt8} {k k1 : Nat} {n : ByteArray} (hn : namF l (k + 1) = some (n, k1)) (h46 : tkB l k [46] = true) (hp : plnN n.data.toList = true) (hT : 46 :: nmT n.data.toList = (l.drop k).take (k1 - k)) : stopN ((l.drop k).drop (k1 - k)) := by
 have hge := namF_ge hn
 have hd : l.drop k = 46 :: l.drop (k + 1) := by
  unfold tkB hasPrefix at h46
  obtain ⟨t, ht⟩ := List.isPrefixOf_iff_prefix.1 h46
  rw [<- ht]
  have : l.drop (k + 1) = t := by rw [<- List.drop_drop, <- ht]; rfl
  rw [this]; rfl
 have hnm : nmT n.data.toList = n.data.toList := by rw [nmT, if_pos hp]
 rw [hnm, hd, show k1 - k = (k1 - k - 1) + 1 by omega, List.take_succ_cons] at hT
 have hT' : n.data.toList = (l.drop (k + 1)).take (k1 - k - 1) := by injection hT
 unfold namF at hn
 split at hn
 ·rename_i hpos
  have e := congrArg Prod.snd (Option.some.inj hn)
  dsimp only at e
  have hr := prefN_rest (l.drop (k + 1)) 0 hpos
  rw [Nat.sub_zero, List.drop_drop] at hr
  rw [List.drop_drop, show k + (k1 - k) = k + 1 + prefN 0 (l.drop (k + 1)) by omega]
  exact hr
 ·rename_i hneg
  exfalso
  apply hneg
  unfold plnN at hp
  rw [Bool.and_eq_true] at hp
  cases hl : l.drop (k + 1) with
  | nil => rw [hl] at hT'; rw [hT'] at hp; simp at hp
  | cons c t =>
   rw [hl] at hT'
   cases hq : k1 - k - 1 with
   | zero => rw [hq] at hT'; rw [hT'] at hp; simp at hp
   | succ j =>
    rw [hq, List.take_succ_cons] at hT'
    rw [hT', allN, Bool.and_eq_true] at hp
    rw [prefN, if_pos hp.2.1]
    exact Nat.lt_of_lt_of_le (by omega) (prefN_le t (0 + 1)).1
def dnxtF (l : List UInt8) (k : Nat) : Option (El × Nat) :=
 match dreadF l k with
 | none => none
 | some (e, k1) => if elB e = true then (if elT e = (l.drop k).take (k1 - k) then some (e, k1) else none) else none
theorem just_split {l x : List UInt8} {k n : Nat} (hk : k <= l.length) (h : x = (l.drop k).take n) : l = l.take k ++ (x ++ (l.drop k).drop n) /\ (l.take k).length = k := by
 refine ⟨?_, by rw [List.length_take]; omega⟩
 rw [h, List.take_append_drop, List.take_append_drop]
theorem elm_one {l : List UInt8} {k k1 : Nat} {e : El} (h : elmF l k = some (e, k1)) (h1 : e.kind = 1) : tkB l k [46] = true /\ namF l (k + 1) = some (e.name, k1) := by
 unfold elmF at h
 split at h
 ·rename_i h46
  refine ⟨h46, ?_⟩
  cases hq : namF l (k + 1) with
  | none => rw [hq] at h; cases h
  | some y =>
   rw [hq] at h
   have e1 := congrArg Prod.fst (Option.some.inj h)
   have e2 := congrArg Prod.snd (Option.some.inj h)
   dsimp only at e1 e2
   rw [<- e1, <- e2]
 ·exfalso
  split at h
  ·split at h
   ·cases h
   ·split at h
    ·have e1 := congrArg Prod.fst (Option.some.inj h)
     dsimp only at e1
     rw [<- e1] at h1
     exact absurd h1 (by simp)
    ·cases h
  ·split at h
   ·cases hq : keyF l 8 (k + 1) [] with
    | none => rw [hq] at h; cases h
    | some y =>
     rw [hq] at h
     have e1 := congrArg Prod.fst (Option.some.inj h)
     dsimp only at e1
     rw [<- e1] at h1
     exact absurd h1 (by simp)
   ·cases h
theorem nxt_dnxt {l : List UInt8} {k : Nat} (hk : k <= l.length) {e : El} {k1 : Nat} (h : nxtF l k = some (e, k1)) : dnxtF l k = some (e, k1) := by
 unfold nxtF at h
 split at h
 ·cases h
 ·rename_i e' k1' he
  split at h
  ·rename_i hb
   split at h
   ·rename_i hT
    have e1 := congrArg Prod.fst (Option.some.inj h)
    have e2 := congrArg Prod.snd (Option.some.inj h)
    dsimp only at e1 e2
    subst e1
    subst e2
    obtain ⟨hsp, hlen⟩ := just_split hk hT
    have hst : e'.kind = 1 -> plnN e'.name.data.toList = true -> stopN ((l.drop k).drop (k1' - k)) := fun q1 q2 => by
     obtain ⟨h46, hn⟩ := elm_one he q1
     refine nam_stop hn h46 q2 ?_
     rw [<- hT, elT, if_pos q1]
    have a1 := elm_backP (l.take k) ((l.drop k).drop (k1' - k)) hb (elmF_in he) hst
    have a2 := dread_backP (l.take k) ((l.drop k).drop (k1' - k)) hb (elmF_in he) hst
    rw [<- hsp, hlen] at a1 a2
    rw [he] at a1
    have e3 := congrArg Prod.snd (Option.some.inj a1)
    dsimp only at e3
    rw [dnxtF, a2]
    dsimp only
    rw [if_pos hb, <- e3, if_pos hT]
   ·cases h
  ·cases h
end Go.Proofs.YtdgfjdhobdfglaaGreatDoor
set_option maxRecDepth 100000
namespace Go.Proofs.YtdgfjdhobdfglaaGreatDoor
open Go.RowKit Go.Lib
theorem dfin_in {mi : Bool} {n : Nat} {i : Int} (h : dfin mi n = some i) : In64 i := by
 unfold dfin at h
 split at h
 ·rw [<- Option.some.inj h]; exact ⟨by omega, by omega⟩
 ·split at h
  ·cases h
  ·rename_i hn
   rw [<- Option.some.inj h]
   split
   ·exact ⟨by omega, by omega⟩
   ·exact ⟨by omega, by omega⟩
theorem dbody_in {mi : Bool} {b : List UInt8} {i : Int} (h : dbody mi b = some i) : In64 i := by
 unfold dbody at h
 split at h
 ·cases h
 ·obtain ⟨n, _, hn⟩ := Option.bind_eq_some_iff.1 h
  exact dfin_in hn
theorem dint_in {l : List UInt8} {i : Int} (h : dint l = some i) : In64 i := by
 unfold dint at h
 split at h
 ·cases h
 ·split at h
  ·exact dbody_in h
  ·exact dbody_in h
theorem valP_in {l : List UInt8} {v : V} {k : Nat} (h : valP l = some (v, k)) : in64V v := by
 unfold valP at h
 split at h
 ·cases h
 ·split at h
  ·split at h
   ·(have e := congrArg Prod.fst (Option.some.inj h); dsimp only at e; rw [<- e]); exact In64.zero
   ·cases h
  ·split at h
   ·split at h
    ·(have e := congrArg Prod.fst (Option.some.inj h); dsimp only at e; rw [<- e]); exact In64.zero
    ·cases h
   ·split at h
    ·split at h
     ·(have e := congrArg Prod.fst (Option.some.inj h); dsimp only at e; rw [<- e]); exact In64.zero
     ·cases h
    ·split at h
     ·obtain ⟨i, hi, he⟩ := Option.map_eq_some_iff.1 h
      (have e := congrArg Prod.fst he; dsimp only at e; rw [<- e])
      exact dint_in hi
     ·cases h
theorem parP_in {l : List UInt8} {v : V} (h : parP l = some v) : in64V v := by
 unfold parP at h
 obtain ⟨x, hx, he⟩ := Option.bind_eq_some_iff.1 h
 split at he
 ·rw [<- Option.some.inj he]
  exact valP_in (k := x.2) hx
 ·cases he
theorem dscaF_in {l : List UInt8} {k : Nat} {v : V} {k1 : Nat} (h : dscaF l k = some (v, k1)) : in64V v := by
 unfold dscaF at h
 split at h
 ·obtain ⟨x, _, he⟩ := Option.map_eq_some_iff.1 h
  (have e := congrArg Prod.fst he; dsimp only at e; rw [<- e]); exact In64.zero
 ·obtain ⟨x, hx, he⟩ := Option.map_eq_some_iff.1 h
  (have e := congrArg Prod.fst he; dsimp only at e; rw [<- e])
  exact parP_in hx
theorem dmemF_in {l : List UInt8} {k : Nat} {m : Mem} {k1 : Nat} (h : dmemF l k = some (m, k1)) : in64V m.2 := by
 unfold dmemF at h
 split at h
 ·cases h
 ·split at h
  ·obtain ⟨x, hx, he⟩ := Option.map_eq_some_iff.1 h
   (have e := congrArg Prod.fst he; dsimp only at e; rw [<- e])
   exact dscaF_in (k1 := x.2) hx
  ·cases h
theorem dkeyF_in {l : List UInt8} : ∀ (n k : Nat) (acc m : List Mem) (k1 : Nat), (∀ x ∈ acc, in64V x.2) -> dkeyF l n k acc = some (m, k1) -> ∀ x ∈ m, in64V x.2
 | 0, k, acc, m, k1, _, h => by cases h
 | n + 1, k, acc, m, k1, ha, h => by
  unfold dkeyF at h
  split at h
  ·cases h
  ·rename_i x k2 hx
   have hw := dmemF_in hx
   have ha' : ∀ y ∈ acc ++ [x], in64V y.2 := by
    intro y hy
    rcases List.mem_append.1 hy with hy | hy
    ·exact ha y hy
    ·rw [List.mem_singleton] at hy; rw [hy]; exact hw
   split at h
   ·have e := congrArg Prod.fst (Option.some.inj h)
    dsimp only at e
    rw [<- e]; exact ha'
   ·split at h
    ·exact dkeyF_in n (k2 + 1) (acc ++ [x]) m k1 ha' h
    ·cases h
theorem dread_in {l : List UInt8} {k : Nat} {x : El} {k1 : Nat} (h : dreadF l k = some (x, k1)) : in64E x := by
 unfold dreadF at h
 split at h
 ·obtain ⟨y, _, he⟩ := Option.map_eq_some_iff.1 h
  (have e := congrArg Prod.fst he; dsimp only at e; rw [<- e])
  exact ⟨in64V0, fun x hx => by simp at hx⟩
 ·split at h
  ·split at h
   ·split at h
    ·cases h
    ·rename_i v k2 hv
     split at h
     ·(have e := congrArg Prod.fst (Option.some.inj h); dsimp only at e; rw [<- e])
      exact ⟨dscaF_in hv, fun x hx => by simp at hx⟩
     ·cases h
   ·obtain ⟨y, hy, he⟩ := Option.map_eq_some_iff.1 h
    (have e := congrArg Prod.fst he; dsimp only at e; rw [<- e])
    exact ⟨in64V0, dkeyF_in _ (k + 1) [] y.1 y.2 (by simp) hy⟩
  ·cases h
theorem dread_one {l : List UInt8} {k k1 : Nat} {e : El} (h : dreadF l k = some (e, k1)) (h1 : e.kind = 1) : tkB l k [46] = true /\ namF l (k + 1) = some (e.name, k1) := by
 unfold dreadF at h
 split at h
 ·rename_i h46
  refine ⟨h46, ?_⟩
  obtain ⟨y, hy, he⟩ := Option.map_eq_some_iff.1 h
  have e1 := congrArg Prod.fst he
  have e2 := congrArg Prod.snd he
  dsimp only at e1 e2
  rw [<- e1, <- e2]
  exact hy
 ·exfalso
  split at h
  ·split at h
   ·split at h
    ·cases h
    ·split at h
     ·have e1 := congrArg Prod.fst (Option.some.inj h)
      dsimp only at e1
      rw [<- e1] at h1
      exact absurd h1 (by simp)
     ·cases h
   ·obtain ⟨y, hy, he⟩ := Option.map_eq_some_iff.1 h
    have e1 := congrArg Prod.fst he
    dsimp only at e1
    rw [<- e1] at h1
    exact absurd h1 (by simp)
  ·cases h
theorem dnxt_nxt {l : List UInt8} {k : Nat} (hk : k <= l.length) {e : El} {k1 : Nat} (h : dnxtF l k = some (e, k1)) : nxtF l k = some (e, k1) := by
 unfold dnxtF at h
 split at h
 ·cases h
 ·rename_i e' k1' he
  split at h
  ·rename_i hb
   split at h
   ·rename_i hT
    have e1 := congrArg Prod.fst (Option.some.inj h)
    have e2 := congrArg Prod.snd (Option.some.inj h)
    dsimp only at e1 e2
    subst e1
    subst e2
    obtain ⟨hsp, hlen⟩ := just_split hk hT
    have hst : e'.kind = 1 -> plnN e'.name.data.toList = true -> stopN ((l.drop k).drop (k1' - k)) := fun q1 q2 => by
     obtain ⟨h46, hn⟩ := dread_one he q1
     refine nam_stop hn h46 q2 ?_
     rw [<- hT, elT, if_pos q1]
    have a1 := elm_backP (l.take k) ((l.drop k).drop (k1' - k)) hb (dread_in he) hst
    have a2 := dread_backP (l.take k) ((l.drop k).drop (k1' - k)) hb (dread_in he) hst
    rw [<- hsp, hlen] at a1 a2
    rw [he] at a2
    have e3 := congrArg Prod.snd (Option.some.inj a2)
    dsimp only at e3
    rw [nxtF, a1]
    dsimp only
    rw [if_pos hb, <- e3, if_pos hT]
   ·cases h
  ·cases h
theorem dnxt_eq (l : List UInt8) (k : Nat) (hk : k <= l.length) : dnxtF l k = nxtF l k := by
 cases h : nxtF l k with
 | some x => exact nxt_dnxt (e := x.1) (k1 := x.2) hk h
 | none =>
  cases h2 : dnxtF l k with
  | none => rfl
  | some x => rw [dnxt_nxt (e := x.1) (k1 := x.2) hk h2] at h; cases h
end Go.Proofs.YtdgfjdhobdfglaaGreatDoor
