/- joined: ShoF ShoD -/
import Derived.Test.YtolekldjbbjmjaaGreatDoorShoC
/- plain: what Simplify answers weighs no more (layer 20). -/
set_option linter.unusedSimpArgs false
set_option linter.unusedVariables false
namespace Go.Proofs.YtolekldjbbjmjaaGreatDoor
open Go.RowKit Go.Lib
theorem wtS_app : ∀ a b : List ByteArray, wtS (a ++ b) = wtS a + wtS b
  | [], b => by simp [wtS]
  | x :: t, b => by have := wtS_app t b; simp only [wtS, List.cons_append]; omega
theorem wtT_app : ∀ a b : List Trm, wtT (a ++ b) = wtT a + wtT b
  | [], b => by simp [wtT]
  | x :: t, b => by have := wtT_app t b; simp only [wtT, List.cons_append]; omega
theorem wtS_sub : ∀ {A B : List ByteArray}, A.Nodup → (∀ x ∈ A, x ∈ B) → wtS A ≤ wtS B
  | [], B, _, _ => by simp [wtS]
  | x :: t, B, hn, hs => by
    rw [List.nodup_cons] at hn
    obtain ⟨p, q, rfl⟩ := List.append_of_mem (hs x (by simp))
    have ih := wtS_sub (A := t) (B := p ++ q) hn.2 (fun y hy => by
      have h1 := hs y (List.mem_cons_of_mem _ hy)
      rw [List.mem_append, List.mem_cons] at h1
      rw [List.mem_append]
      rcases h1 with h1 | rfl | h1
      · exact .inl h1
      · exact absurd hy hn.1
      · exact .inr h1)
    rw [wtS_app] at ih ⊢
    simp only [wtS]
    omega
theorem wtT_flat (k : ByteArray) : ∀ (L : List Trm), (∀ t ∈ L, t.1 = k) → L ≠ [] → 1 + k.size + wtS (L.flatMap (fun t => t.2.2)) ≤ wtT L
  | [], _, h => absurd rfl h
  | x :: t, hk, _ => by
    rw [List.flatMap_cons, wtS_app]
    simp only [wtT]
    have e := hk x (by simp)
    rw [e]
    cases t with
    | nil => simp [wtS, wtT]
    | cons y r =>
      have := wtT_flat k (y :: r) (fun z hz => hk z (List.mem_cons_of_mem _ hz)) (by simp)
      omega
theorem wtT_two {p q r : Trm → Bool} (hp : ∀ t, p t = true → r t = true) (hq : ∀ t, q t = true → r t = true) (hpq : ∀ t, p t = true → q t = true → False) : ∀ l : List Trm, wtT (l.filter p) + wtT (l.filter q) ≤ wtT (l.filter r)
  | [] => by simp [wtT]
  | x :: t => by
    have ih := wtT_two hp hq hpq t
    cases h1 : p x with
    | true =>
      have h2 := hp x h1
      have h3 : q x = false := by
        cases h : q x with
        | false => rfl
        | true => exact (hpq x h1 h).elim
      rw [List.filter_cons_of_pos h1, List.filter_cons_of_neg (by rw [h3]; decide), List.filter_cons_of_pos h2]
      simp only [wtT]
      omega
    | false =>
      rw [List.filter_cons_of_neg (by rw [h1]; decide)]
      cases h3 : q x with
      | true =>
        rw [List.filter_cons_of_pos h3, List.filter_cons_of_pos (hq x h3)]
        simp only [wtT]
        omega
      | false =>
        rw [List.filter_cons_of_neg (by rw [h3]; decide)]
        cases h4 : r x with
        | true => rw [List.filter_cons_of_pos h4]; simp only [wtT]; omega
        | false => rw [List.filter_cons_of_neg (by rw [h4]; decide)]; exact ih
theorem simpT_wt {l : List Trm} {k : ByteArray} {y : List Trm} (h : simpT l k = some y) : wtT y ≤ wtT (l.filter (isKey k)) := by
  have hop : ∀ op, hasOp l k op = true → ∃ t ∈ l.filter (isKey k), t.2.1 = op ∧ t.1 = k := fun op ho => by
    obtain ⟨t, ht, hi⟩ := hasOp_iff.1 ho
    obtain ⟨h1, h2⟩ := isOp_is.1 hi
    exact ⟨t, List.mem_filter.2 ⟨ht, isKey_iff.2 h1⟩, h2, h1⟩
  rcases simpT_form h with ⟨h2, rfl⟩ | ⟨h3, hne, rfl⟩ | ⟨h2, h3, rfl⟩
  · obtain ⟨t, ht, _, e⟩ := hop 2 h2
    have := wtT_mem ht
    rw [e] at this
    simp only [wtT, wtS]; omega
  · obtain ⟨t, ht, e3, e⟩ := hop 3 h3
    have := wtT_mem ht
    rw [e] at this
    have hs := wtS_sub (A := allowV l k (gatV 4 l k) l) (B := t.2.2) (ris_nodup (allowV_ris _ _ _)) (fun x hx => (allowV_mem.1 hx).2.2 t (List.mem_filter.1 ht).1 (isOp_is.2 ⟨e, e3⟩))
    simp only [wtT]; omega
  · have hsub4 : ∀ t, isOp k 4 t = true → isKey k t = true := fun t ht => isKey_iff.2 (isOp_is.1 ht).1
    have hsub1 : ∀ t, isOp k 1 t = true → isKey k t = true := fun t ht => isKey_iff.2 (isOp_is.1 ht).1
    have hdis : ∀ t, isOp k 1 t = true → isOp k 4 t = true → False := fun t a b => by
      have e1 := (isOp_is.1 a).2
      have e2 := (isOp_is.1 b).2
      rw [e1] at e2; cases e2
    have hall := wtT_two hsub1 hsub4 hdis l
    have h1 : wtT (if hasOp l k 1 then [(k, 1, [])] else []) ≤ wtT (l.filter (isOp k 1)) := by
      cases ho : hasOp l k 1 with
      | false => simp [wtT]
      | true =>
        obtain ⟨t, ht, hi⟩ := hasOp_iff.1 ho
        have := wtT_mem (List.mem_filter.2 ⟨ht, hi⟩ : t ∈ l.filter (isOp k 1))
        rw [(isOp_is.1 hi).1] at this
        simp only [if_true, wtT, wtS]; omega
    have h4 : wtT (if (gatV 4 l k).length = 0 then [] else [(k, 4, gatV 4 l k)]) ≤ wtT (l.filter (isOp k 4)) := by
      by_cases hN : (gatV 4 l k).length = 0
      · rw [if_pos hN]; simp [wtT]
      · rw [if_neg hN]
        have hs := wtS_sub (A := gatV 4 l k) (B := (l.filter (isOp k 4)).flatMap (fun t => t.2.2)) (ris_nodup (gatV_ris _ _ _)) (fun x hx => by
          obtain ⟨t, ht, hi, hxt⟩ := gatV_mem.1 hx
          exact List.mem_flatMap.2 ⟨t, List.mem_filter.2 ⟨ht, hi⟩, hxt⟩)
        have hf := wtT_flat k (l.filter (isOp k 4)) (fun t ht => (isOp_is.1 (List.mem_filter.1 ht).2).1) (fun e => by
          obtain ⟨x, hx⟩ := List.exists_mem_of_ne_nil _ (fun e => hN (by rw [e]; rfl) : gatV 4 l k ≠ [])
          obtain ⟨t, ht, hi, _⟩ := gatV_mem.1 hx
          have : t ∈ l.filter (isOp k 4) := List.mem_filter.2 ⟨ht, hi⟩
          rw [e] at this; cases this)
        simp only [wtT]; omega
    rw [wtT_app]
    omega
theorem wt_keys : ∀ (ks : List ByteArray) (l : List Trm), ks.Nodup → (ks.map (fun k => wtT (l.filter (isKey k)))).sum ≤ wtT l
  | [], l, _ => by simp
  | k :: t, l, h => by
    rw [List.nodup_cons] at h
    have ih := wt_keys t (l.filter (fun x => !(isKey k x))) h.2
    have e : t.map (fun q => wtT (l.filter (isKey q))) = t.map (fun q => wtT ((l.filter (fun x => !(isKey k x))).filter (isKey q))) := by
      refine List.map_congr_left fun q hq => ?_
      rw [List.filter_filter]
      congr 1
      refine List.filter_congr fun x _ => ?_
      cases hx : isKey q x with
      | false => simp
      | true =>
        have : isKey k x = false := by
          cases hk : isKey k x with
          | false => rfl
          | true => exact absurd (by rw [← isKey_iff.1 hk, isKey_iff.1 hx]; exact hq) h.1
        simp [this]
    have hs := wtT_two (p := isKey k) (q := fun x => !(isKey k x)) (r := fun _ => true) (fun _ _ => rfl) (fun _ _ => rfl) (fun x a b => by rw [a] at b; cases b) l
    have ht : l.filter (fun _ => true) = l := by simp
    rw [ht] at hs
    rw [List.map_cons, List.sum_cons, e]
    omega
theorem wtT_flatMap (f : ByteArray → List Trm) : ∀ ks : List ByteArray, wtT (ks.flatMap f) = (ks.map (fun k => wtT (f k))).sum
  | [] => rfl
  | k :: t => by rw [List.flatMap_cons, wtT_app, wtT_flatMap f t, List.map_cons, List.sum_cons]
theorem simp_wt {l s : List Trm} (h : simplV l = some s) : wtT s ≤ wtT l := by
  unfold simplV at h
  split at h
  · rename_i hg
    obtain ⟨h1, h2⟩ := simpW_parts l _ _ _ h
    rw [List.nil_append] at h2
    have hc := wt_keys (keysV l) l (ris_nodup (keysV_ris l))
    rw [h2, wtT_flatMap]
    refine Nat.le_trans ?_ hc
    have : ∀ (ks : List ByteArray), (∀ k ∈ ks, ∃ y, simpT l k = some y) → (ks.map (fun k => wtT ((simpT l k).getD []))).sum ≤ (ks.map (fun k => wtT (l.filter (isKey k)))).sum := by
      intro ks
      induction ks with
      | nil => intro _; exact Nat.le_refl _
      | cons k t ih =>
        intro hk
        obtain ⟨y, hy⟩ := hk k (by simp)
        have a1 := simpT_wt hy
        have a2 := ih (fun q hq => hk q (List.mem_cons_of_mem _ hq))
        rw [List.map_cons, List.sum_cons, List.map_cons, List.sum_cons, hy]
        simp only [Option.getD_some]
        omega
    exact this _ h1
  · cases h
end Go.Proofs.YtolekldjbbjmjaaGreatDoor
/- other: a text that is none of these (layer 20's law). -/
namespace Go.Proofs.YtolekldjbbjmjaaGreatDoor
open Go.RowKit Go.Lib
theorem vS_size (n : Nat) : (vS n).size = n := by
  show (List.replicate n (118 : UInt8)).toArray.size = n
  simp
theorem vS_next (n : Nat) : vS n ++ ⟨#[118]⟩ = vS (n + 1) := by
  refine ByteArray.ext (Array.toList_inj.1 ?_)
  rw [ByteArray.data_append]
  unfold vS
  rw [List.replicate_succ']
  simp
theorem few_nat : ∀ (n : Nat) (L : List Nat), (∀ k, k < n → k + 1 ∈ L) → n ≤ L.length
  | 0, L, _ => Nat.zero_le _
  | n + 1, L, h => by
    have hn := h n (by omega)
    have ih := few_nat n (L.erase (n + 1)) (fun k hk => (List.mem_erase_of_ne (by omega)).2 (h k (by omega)))
    rw [List.length_erase_of_mem hn] at ih
    have := List.length_pos_of_mem hn
    omega
theorem vS_few (n : Nat) (l : List ByteArray) (h : ∀ k, k < n → vS (k + 1) ∈ l) : n ≤ l.length := by
  have := few_nat n (l.map ByteArray.size) (fun k hk => List.mem_map.2 ⟨_, h k hk, vS_size _⟩)
  simpa using this
theorem any_next {l : List ByteArray} {s : ByteArray} {k : Nat} (h : k < l.length) : amongB (l.take (k + 1)) s = (amongB (l.take k) s || ((l[k]).toList == s.toList)) := by
  unfold amongB
  rw [List.take_succ_eq_append_getElem h, List.any_append]
  simp
def OtPost (l : List ByteArray) (w : World) (e : Ending) (w' : World) : Prop := (∃ n, e = .returned (.string (vS n)) ∧ n ≤ l.length + 2 ∧ vS n ∉ l) ∧ w' = w
set_option maxHeartbeats 8000000 in
set_option maxRecDepth 100000 in
theorem other_any (l : List ByteArray) (S : Nat → Prop) (a : Option Addr) (c b o : Nat) (w : World) (hh : Headed a l.length c b o) (hl : liesS w S l b o) (hm : l.length ≤ 2147483647) :
    Calls Tryz.prog 35 #[.slice a l.length c] w (OtPost l w) := by
  have HH := hmk hh
  have HL := hmk hl
  clear hh hl
  have hv1 : (⟨#[118]⟩ : ByteArray) = vS 1 := by decide
  go_enter Tryz.func35, Tryz.ntmps35
  go_wp2_with fail
  go_loopw [3, 4] (fun e3 e4 wr => ∃ i : Nat, i ≤ l.length + 1 ∧ e4 = .int .i64 (i : Int) ∧ e3 = .string (vS (i + 1)) ∧ wr = w ∧ Hid (∀ k, k < i → vS (k + 1) ∈ l)) (fun _ e4 _ => l.length + 1 - (RowKit.intOf e4).toNat)
  case atStart => exact ⟨0, by omega, rfl, by first | rfl | rw [hv1], rfl, fun k hk => by omega⟩
  case round =>
    obtain ⟨i, hi, rfl, rfl, rfl, HN⟩ := hrel
    by_cases hil : i ≤ l.length
    · have y1 : (i : Int) ≤ l.length := by omega
      have HNX : Hid (vS (i + 1) ++ vS 1 = vS (i + 2)) := by show _ = _; rw [← hv1]; exact vS_next _
      have hvz : (vS (i + 1)).size = i + 1 := vS_size _
      have hnz : ¬ 9223372036854775807 < (vS (i + 1)).size + (vS 1).size := by rw [hvz, vS_size]; omega
      clear hvz
      generalize hs : vS (i + 1) = s at *
      have HS := hmk hs
      clear hs
      go_wp2_with fail
      go_loopw [5, 6] (fun e5 e6 wq => ∃ k : Nat, k ≤ l.length ∧ e6 = .int .i64 (k : Int) ∧ e5 = .bool (amongB (l.take k) s) ∧ wq = wr) (fun _ e6 _ => l.length - (RowKit.intOf e6).toNat)
      case atStart => exact ⟨0, by omega, rfl, rfl, rfl⟩
      case round =>
        obtain ⟨k, hk, rfl, rfl, rfl⟩ := hrel
        by_cases hkl : k < l.length
        · have y2 : (k : Int) < l.length := by omega
          obtain rfl : a = some ⟨b, o, none⟩ := HH.out.at_.resolve_left (by omega)
          obtain ⟨_, _, q⟩ := HL.out k hkl
          have HT := hmk (any_next (s := s) hkl)
          generalize l[k] = x at *
          cases hf : amongB (l.take k) s with
          | true =>
            rw [hf, Bool.true_or] at HT
            clear hf
            go_wp2_with fail
            go_roundw
            case rel => exact ⟨k + 1, by omega, by go_num, by rw [HT.out], (by first | rfl | trivial)⟩
            case measure => simp [RowKit.intOf]; omega
          | false =>
            rw [hf, Bool.false_or] at HT
            clear hf
            go_wp2_with fail
            go_roundw
            case rel => exact ⟨k + 1, by omega, by go_num, by rw [HT.out], (by first | rfl | trivial)⟩
            case measure => simp [RowKit.intOf]; omega
        · obtain rfl : k = l.length := by omega
          have y2 : ¬ (l.length : Int) < l.length := by omega
          have ht : l.take l.length = l := List.take_length
          rw [ht]
          clear ht
          cases hf : amongB l s with
          | true =>
            have HIN : Hid (∀ k, k < i + 1 → vS (k + 1) ∈ l) := fun k hk => by
              by_cases e : k = i
              · rw [e, HS.out]; exact amongB_iff.1 hf
              · exact HN.out k (by omega)
            clear hf
            go_wp2_with fail
            (try simp only [Exit.inBlock, Exit.then])
            go_wp2_with fail
            go_roundw
            case rel => exact ⟨i + 1, by omega, by go_num, congrArg Value.string HNX.out, (by first | rfl | trivial), HIN⟩
            case measure => simp [RowKit.intOf]; omega
          | false =>
            have HNO : Hid (s ∉ l) := fun h => by rw [amongB_iff.2 h] at hf; cases hf
            clear hf
            go_wp2_with fail
            (try simp only [Exit.inBlock, Exit.then])
            go_wp2_with fail
            go_ret
            exact ⟨⟨i + 1, by rw [HS.out]; rfl, by omega, by rw [HS.out]; exact HNO.out⟩, rfl⟩
    · have hf := vS_few (l.length + 1) l (fun k hk => HN.out k (by omega))
      omega
end Go.Proofs.YtolekldjbbjmjaaGreatDoor
