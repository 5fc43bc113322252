/- joined: DbkP DbkQ DbkR -/
import Derived.Test.YtihcggepeadklaaGreatDoorDscA
/- The document's reading of what is written: numbers. -/
set_option linter.unusedSimpArgs false
set_option linter.unusedVariables false
namespace Go.Proofs.YtihcggepeadklaaGreatDoor
open Go.RowKit Go.Lib
theorem dvl_app : ∀ (l : List UInt8) (acc u : Nat) (c : UInt8), dvl acc l = some u → 48 ≤ c.toNat ∧ c.toNat ≤ 57 → dvl acc (l ++ [c]) = some (10 * u + (c.toNat - 48))
  | [], acc, u, c, h, hc => by
    have e : acc = u := Option.some.inj h
    subst e
    rw [List.nil_append, dvl, if_pos hc]; rfl
  | x :: l, acc, u, c, h, hc => by
    rw [dvl] at h
    split at h
    · rename_i hx
      rw [List.cons_append, dvl, if_pos hx]
      exact dvl_app l _ u c h hc
    · cases h
theorem dvl_dec : ∀ (n u : Nat), u ≤ n → dvl 0 (decDigits u) = some u
  | n, u, hn => by
    by_cases h : u < 10
    · rw [decDigits_one h, dvl, if_pos (by have := dig_ofNat u h; omega)]
      have := dig_ofNat u h
      rw [dvl]
      congr 1
      omega
    · rw [decDigits, dif_neg h]
      have e := dig_ofNat (u % 10) (by omega)
      cases n with
      | zero => omega
      | succ n =>
        rw [dvl_app _ 0 (u / 10) _ (dvl_dec n (u / 10) (by omega)) (by omega)]
        congr 1
        omega
theorem dec_len : ∀ (n u : Nat), u < 10 ^ (n + 1) → (decDigits u).length ≤ n + 1
  | n, u, h => by
    by_cases h1 : u < 10
    · rw [decDigits_one h1]; simp
    · rw [decDigits, dif_neg h1, List.length_append]
      cases n with
      | zero => simp at h; omega
      | succ n =>
        have := dec_len n (u / 10) (by rw [Nat.pow_succ] at h; omega)
        simp only [List.length_cons, List.length_nil]
        omega
theorem dec_head : ∀ (n u : Nat), u ≤ n → 0 < u → ∃ c t, decDigits u = c :: t ∧ c ≠ 48
  | n, u, hn, h0 => by
    by_cases h : u < 10
    · refine ⟨_, _, decDigits_one h, ?_⟩
      intro e
      have e1 := dig_ofNat u h
      rw [e] at e1
      have : (48 : UInt8).toNat = 48 := rfl
      omega
    · cases n with
      | zero => omega
      | succ n =>
        obtain ⟨c, t, hc, hne⟩ := dec_head n (u / 10) (by omega) (by omega)
        exact ⟨c, t ++ [UInt8.ofNat (48 + u % 10)], by rw [decDigits, dif_neg h, hc]; rfl, hne⟩
theorem dbody_dec (mi : Bool) (u : Nat) (h : u < 10000000000000000000) : dbody mi (decDigits u) = dfin mi u := by
  have hl := dec_len 18 u h
  have hne := dec_ne u
  rw [dbody_3 (fun e => hne (List.length_eq_zero_iff.1 e)) ?_ (by omega), dvl_dec u u (Nat.le_refl _)]
  · rfl
  · rintro ⟨h1, h2⟩
    by_cases hu : u = 0
    · subst hu
      rw [decDigits_one (by omega)] at h1
      simp at h1
    · obtain ⟨c, t, hc, hn⟩ := dec_head u u (Nat.le_refl _) (by omega)
      rw [hc] at h2
      exact hn (Option.some.inj h2)
/-- the document reads a number's text as the number -/
theorem dint_itoa (i : Int) (h : In64 i) : dint (itoa i) = some i := by
  obtain ⟨h1, h2⟩ := h
  unfold itoa
  by_cases hn : i < 0
  · rw [if_pos hn]
    rw [dint, if_pos rfl, dbody_dec true _ (by omega), dfin]
    by_cases hm : i.natAbs = 9223372036854775808
    · rw [if_pos ⟨rfl, hm⟩]
      congr 1
      omega
    · rw [if_neg (fun h => hm h.2), if_neg (by omega), if_pos rfl]
      congr 1
      omega
  · rw [if_neg hn]
    have hd := dec_dig i.toNat i.toNat (Nat.le_refl _)
    have hb := dbody_dec false i.toNat (by omega)
    cases hc : decDigits i.toNat with
    | nil => exact absurd hc (dec_ne _)
    | cons c t =>
      have h48 := hd c (by rw [hc]; simp)
      rw [dint, if_neg (by
        intro e
        rw [e] at h48
        have : (45 : UInt8).toNat = 45 := rfl
        omega), ← hc, hb, dfin, if_neg (fun h => by cases h.1), if_neg (by omega), if_neg (by decide)]
      congr 1
      omega
end Go.Proofs.YtihcggepeadklaaGreatDoor
/- The document's reading of what is written: scalars. -/
namespace Go.Proofs.YtihcggepeadklaaGreatDoor
open Go.RowKit Go.Lib
/-- no byte of a word or a number stands here -/
def stopW : List UInt8 → Prop
  | [] => True
  | c :: _ => wrdB c.toNat = false
theorem runW_back (a l t : List UInt8) (h : ∀ c ∈ l, wrdB c.toNat = true) (ht : stopW t) : ((a ++ (l ++ t)).drop a.length).takeWhile (fun x => wrdB x.toNat) = l := by
  rw [List.drop_left, List.takeWhile_append_of_pos h]
  cases t with
  | nil => simp
  | cons c t =>
    have ht' : wrdB c.toNat = false := ht
    rw [List.takeWhile_cons, if_neg (by rw [ht']; decide), List.append_nil]
theorem itoa_bytes (i : Int) : ∀ c ∈ itoa i, wrdB c.toNat = true ∧ numB c.toNat = true := by
  intro c hc
  have h := itoa_set i c hc
  have key : ∀ d : Fin 256, minDig.contains (UInt8.ofNat d.val) = true → wrdB (d.val : Int) = true ∧ numB (d.val : Int) = true := by decide +kernel
  exact key ⟨c.toNat, c.toNat_lt⟩ (by simpa using h)
theorem tw_all {P : UInt8 → Bool} : ∀ {l : List UInt8}, (∀ c ∈ l, P c = true) → l.takeWhile P = l
  | [], _ => rfl
  | c :: t, h => by rw [List.takeWhile_cons, if_pos (h c (by simp)), tw_all (fun x hx => h x (by simp [hx]))]
theorem parP_itoa (i : Int) (h : In64 i) : parP (itoa i) = some (.mk 2 false i ⟨#[]⟩ [] []) := by
  have hb := itoa_bytes i
  obtain ⟨c, r, hc, _⟩ := itoa_head i
  have hn := (hb c (by rw [hc]; simp)).2
  obtain ⟨n1, n2, n3, _⟩ := numB_no hn
  have htw : (itoa i).takeWhile (fun x => numB x.toNat) = itoa i := tw_all (fun c hc => (hb c hc).2)
  have hv : valP (itoa i) = some (.mk 2 false i ⟨#[]⟩ [] [], (itoa i).length) := by
    unfold valP
    rw [htw, dint_itoa i h]
    rw [hc]
    simp only [List.head?_cons]
    rw [if_neg n1, if_neg n2, if_neg n3, if_pos hn]
    rfl
  rw [parP, hv, Option.bind_some, if_pos rfl]
theorem dsca_back (a : List UInt8) {v : V} (t : List UInt8) (h : sizS v = true) (hi : in64V v) (ht : stopW t) : dscaF (a ++ (svT v ++ t)) a.length = some (v, a.length + (svT v).length) := by
  rcases sca_cases h with ⟨b, rfl⟩ | ⟨i, rfl⟩ | ⟨s, hv, rfl⟩
  · cases b with
    | true =>
      have e : svT (V.mk 1 true 0 ⟨#[]⟩ [] []) = [116, 114, 117, 101] := by rw [svT, scT, if_pos rfl, bolT, if_pos rfl]
      rw [e, dscaF, runW_back a _ t (by decide) ht, if_neg (by rw [List.drop_left]; simp)]
      rfl
    | false =>
      have e : svT (V.mk 1 false 0 ⟨#[]⟩ [] []) = [102, 97, 108, 115, 101] := by rw [svT, scT, if_pos rfl, bolT, if_neg (by decide)]
      rw [e, dscaF, runW_back a _ t (by decide) ht, if_neg (by rw [List.drop_left]; simp)]
      rfl
  · have e : svT (V.mk 2 false i ⟨#[]⟩ [] []) = itoa i := by rw [svT, scT, if_neg (by decide), if_pos rfl]
    obtain ⟨c, r, hc, _, _, h34⟩ := itoa_head i
    rw [e, dscaF, runW_back a _ t (fun c hc => (itoa_bytes i c hc).1) ht, parP_itoa i hi, if_neg (by
      rw [List.drop_left, hc]
      intro hh
      exact h34 (Option.some.inj hh))]
    rfl
  · have e : svT (V.mk 3 false 0 s [] []) = Q.qt s.data.toList := by rw [svT, scT, if_neg (by decide), if_neg (by decide)]
    have hq := quo_back a s.data.toList t hv
    have hb : (⟨s.data.toList.toArray⟩ : ByteArray) = s := by simp
    rw [e, dscaF, hq, if_pos (by rw [List.drop_left]; rfl), Option.map_some, hb]
end Go.Proofs.YtihcggepeadklaaGreatDoor
/- The document's reading of what is written: elements. -/
namespace Go.Proofs.YtihcggepeadklaaGreatDoor
open Go.RowKit Go.Lib
/-- a member, as the document reads it -/
def dmemF (l : List UInt8) (k : Nat) : Option (Mem × Nat) :=
  match namF l k with
  | none => none
  | some (n, k1) => if tkB l k1 [61] = true then (dscaF l (k1 + 1)).map (fun x => ((n, x.1), x.2)) else none
def dkeyF (l : List UInt8) : Nat → Nat → List Mem → Option (List Mem × Nat)
  | 0, _, _ => none
  | n + 1, k, acc =>
    match dmemF l k with
    | none => none
    | some (m, k1) => if tkB l k1 [93] = true then some (acc ++ [m], k1 + 1) else if tkB l k1 [44] = true then dkeyF l n (k1 + 1) (acc ++ [m]) else none
/-- an element, as the document reads it -/
def dreadF (l : List UInt8) (k : Nat) : Option (El × Nat) :=
  if tkB l k [46] = true then (namF l (k + 1)).map (fun x => (⟨1, x.1, [], nilW⟩, x.2))
  else if tkB l k [91] = true then
    if tkB l (k + 1) [61] = true then
      match dscaF l (k + 2) with
      | none => none
      | some (v, k1) => if tkB l k1 [93] = true then some (⟨3, ⟨#[]⟩, [], v⟩, k1 + 1) else none
    else (dkeyF l (l.length + 1) (k + 1) []).map (fun x => (⟨2, ⟨#[]⟩, x.1, nilW⟩, x.2))
  else none
theorem stopW_N : stopW [93] ∧ ∀ t, stopW (93 :: t) ∧ stopW (44 :: t) := ⟨(by decide : wrdB 93 = false), fun t => ⟨(by decide : wrdB 93 = false), (by decide : wrdB 44 = false)⟩⟩
theorem memT_pos (x : Mem) : 1 ≤ (memT x).length := by simp [memT]; omega
theorem kyT_lenL : ∀ (m : List Mem) (b : UInt8), m.length ≤ (kyT b m).length
  | [], b => by simp [kyT]
  | x :: t, b => by
    have := kyT_lenL t 44
    simp only [kyT, List.length_cons, List.length_append]; omega
theorem kyV_len (m : List Mem) : m.length ≤ (kyV m).length := by
  cases m with
  | nil => simp
  | cons x t =>
    have h1 := memT_pos x
    have h2 := kyT_lenL t 44
    simp only [kyV, List.length_cons, List.length_append]; omega
theorem dmem_back (a : List UInt8) {x : Mem} (t : List UInt8) (h : GoodM x) (ht : stopW t) : dmemF (a ++ (memT x ++ t)) a.length = some (x, a.length + (memT x).length) := by
  obtain ⟨n, v⟩ := x
  have e1 : a ++ (memT (n, v) ++ t) = a ++ (nmT n.data.toList ++ (61 :: (svT v ++ t))) := by simp [memT]
  have e2 : a ++ (nmT n.data.toList ++ (61 :: (svT v ++ t))) = (a ++ nmT n.data.toList) ++ (61 :: (svT v ++ t)) := by simp
  have e3 : a ++ (nmT n.data.toList ++ (61 :: (svT v ++ t))) = (a ++ nmT n.data.toList ++ [61]) ++ (svT v ++ t) := by simp
  have l2 : a.length + (nmT n.data.toList).length = (a ++ nmT n.data.toList).length := by simp
  have l3 : a.length + (nmT n.data.toList).length + 1 = (a ++ nmT n.data.toList ++ [61]).length := by simp [Nat.add_assoc]
  have hn := nam_back a n (61 :: (svT v ++ t)) h.1 (show okR 1 61 = false by decide)
  have htk : tkB (a ++ (nmT n.data.toList ++ (61 :: (svT v ++ t)))) (a.length + (nmT n.data.toList).length) [61] = true := by
    rw [e2, l2, tk_at]; exact hp_yes [61] _
  have hs := dsca_back (a ++ nmT n.data.toList ++ [61]) (v := v) t h.2.1 h.2.2 ht
  rw [← e3, ← l3] at hs
  rw [e1, dmemF, hn]
  dsimp only
  rw [if_pos htk, hs, Option.map_some]
  have : a.length + (memT (n, v)).length = a.length + (nmT n.data.toList).length + 1 + (svT v).length := by simp [memT]; omega
  rw [this]
theorem dkey_back : ∀ (l : List Mem) (n : Nat) (a : List UInt8) (acc : List Mem) (t : List UInt8), 0 < l.length → l.length ≤ n → (∀ x ∈ l, GoodM x) → dkeyF (a ++ (kyV l ++ 93 :: t)) n a.length acc = some (acc ++ l, a.length + (kyV l).length + 1)
  | [], n, a, acc, t, h0, _, _ => by simp at h0
  | x :: l, 0, a, acc, t, _, h1, _ => by simp at h1
  | [x], n + 1, a, acc, t, _, _, hg => by
    have hm := dmem_back a (93 :: t) (hg x (by simp)) ((stopW_N.2 _).1)
    have e : kyV [x] = memT x := by simp [kyV, kyT]
    have htk : tkB (a ++ (memT x ++ 93 :: t)) (a.length + (memT x).length) [93] = true := by
      rw [show a ++ (memT x ++ 93 :: t) = (a ++ memT x) ++ 93 :: t by simp, show a.length + (memT x).length = (a ++ memT x).length by simp, tk_at]; exact hp_yes [93] _
    rw [e, dkeyF, hm]
    dsimp only
    rw [if_pos htk]
  | x :: y :: l, n + 1, a, acc, t, _, h1, hg => by
    have e : kyV (x :: y :: l) = memT x ++ 44 :: kyV (y :: l) := by simp [kyV, kyT]
    have hm := dmem_back a (44 :: (kyV (y :: l) ++ 93 :: t)) (hg x (by simp)) ((stopW_N.2 _).2)
    have e0 : a ++ (kyV (x :: y :: l) ++ 93 :: t) = a ++ (memT x ++ 44 :: (kyV (y :: l) ++ 93 :: t)) := by rw [e]; simp
    have e1 : a ++ (memT x ++ 44 :: (kyV (y :: l) ++ 93 :: t)) = (a ++ memT x) ++ 44 :: (kyV (y :: l) ++ 93 :: t) := by simp
    have e2 : a ++ (memT x ++ 44 :: (kyV (y :: l) ++ 93 :: t)) = (a ++ memT x ++ [44]) ++ (kyV (y :: l) ++ 93 :: t) := by simp
    have l1 : a.length + (memT x).length = (a ++ memT x).length := by simp
    have l2 : a.length + (memT x).length + 1 = (a ++ memT x ++ [44]).length := by simp [Nat.add_assoc]
    have t1 : tkB (a ++ (memT x ++ 44 :: (kyV (y :: l) ++ 93 :: t))) (a.length + (memT x).length) [93] = false := by
      rw [e1, l1, tk_at, hp_no _ _ (by decide)]
    have t2 : tkB (a ++ (memT x ++ 44 :: (kyV (y :: l) ++ 93 :: t))) (a.length + (memT x).length) [44] = true := by
      rw [e1, l1, tk_at]; exact hp_yes [44] _
    have ih := dkey_back (y :: l) n (a ++ memT x ++ [44]) (acc ++ [x]) t (by simp) (by simpa using h1) (fun z hz => hg z (by simp [List.mem_cons.1 hz]))
    rw [← e2, ← l2] at ih
    rw [e0, dkeyF, hm]
    dsimp only
    rw [if_neg (by rw [t1]; decide), if_pos t2, ih]
    have e5 : acc ++ [x] ++ y :: l = acc ++ x :: y :: l := by simp
    rw [e5, e]
    simp only [List.length_append, List.length_cons]
    congr 2
    omega
end Go.Proofs.YtihcggepeadklaaGreatDoor
