/- joined: SimN BakA -/
import Derived.Test.YtolekldjbbjmjaaGreatDoorParI
import Derived.Laws.Concat
/- the map of demands: what it says of each key, and the rows that it points to (layer 20). -/
set_option linter.unusedSimpArgs false
set_option linter.unusedVariables false
namespace Go.Proofs.YtolekldjbbjmjaaGreatDoor
open Go.RowKit Go.Lib Go.Maps
def slL (v : Value) : Option (DataW Unit) := match v with
  | .slice none 0 0 => some (.agg [])
  | .slice (some ⟨g, 0, none⟩) n c => some (.agg [.lit (.int .i64 (g : Int)), .lit (.int .i64 (n : Int)), .lit (.int .i64 (c : Int))])
  | _ => none
def datD (d : Pd) (s n : Value) : DataW Unit := .agg [.lit (.bool d.h), .lit (.bool d.hn), .lit (.bool d.i), (slL s).getD (.agg []), (slL n).getD (.agg [])]
abbrev zeroD : DataW Unit := datD pdZ (.slice none 0 0) (.slice none 0 0)
/-- what the map says; where its rows lie -/
structure Gat (w : World) (base : Nat) (l : List Trm) (D : DataW Unit) (sv nv : ByteArray → Value) : Prop where
  im : IsMap D
  at_ : ∀ x, D.atKey (kL x) zeroD = datD (pdOf l x) (sv x) (nv x)
  s : ∀ x, OwnSt w base (fun _ => False) (sv x) (pdOf l x).s
  n : ∀ x, OwnSt w base (fun _ => False) (nv x) (pdOf l x).n
  inj : ∀ x y r, (nv x).ownBlock = some r → (nv y).ownBlock = some r → x = y
  sep : ∀ x y r, (nv x).ownBlock = some r → (sv y).ownBlock ≠ some r
  keys : ∀ x, has D (kL x) = true ↔ ∃ t ∈ l, t.1 = x
theorem Gat.keep {w w' : World} {base : Nat} {l : List Trm} {D : DataW Unit} {sv nv : ByteArray → Value} {row : Option Nat} (h : Gat w base l D sv nv) (hg : w.grownBy w' row) (hr : ∀ r, row = some r → ∀ x, (sv x).ownBlock ≠ some r ∧ (nv x).ownBlock ≠ some r) : Gat w' base l D sv nv :=
  ⟨h.im, h.at_, fun x => (h.s x).keep keepS hg (fun r e => ⟨fun h => h, (hr r e x).1⟩), fun x => (h.n x).keep keepS hg (fun r e => ⟨fun h => h, (hr r e x).2⟩), h.inj, h.sep, h.keys⟩
theorem isKey_iff {k : ByteArray} {t : Trm} : isKey k t = true ↔ t.1 = k := by
  unfold isKey
  rw [beq_iff_eq]
  exact ⟨bytes_ext9, fun h => by rw [h]⟩
/-- one term more -/
theorem Gat.step {w w' w2 : World} {base b : Nat} {l : List Trm} {j : Nat} (hj : j < l.length) {k : ByteArray} (hk : (l[j]).1 = k) {D : DataW Unit} {sv nv : ByteArray → Value} (h : Gat w base (l.take j) D sv nv) {sv' nv' : Value}
    (hs : OwnSt w' base (fun _ => False) sv' ((pdOf (l.take j) k).add l[j]).s) (hn : OwnSt w' base (fun _ => False) nv' ((pdOf (l.take j) k).add l[j]).n) (hg : w.grownBy w' (nv k).ownBlock)
    (h1 : sv' = sv k ∨ ∀ r, sv'.ownBlock = some r → w.heap.size ≤ r) (h2 : nv'.ownBlock = (nv k).ownBlock ∨ ∀ r, nv'.ownBlock = some r → w.heap.size ≤ r) (h3 : ∀ r, nv'.ownBlock = some r → sv'.ownBlock ≠ some r)
    (hg2 : w'.grownBy w2 (some b)) (hb : b < base) :
    Gat w2 base (l.take (j + 1)) (D.put (kL k) (datD ((pdOf (l.take j) k).add l[j]) sv' nv')) (fun x => if x = k then sv' else sv x) (fun x => if x = k then nv' else nv x) := by
  have hpd : ∀ x, pdOf (l.take (j + 1)) x = if x = k then (pdOf (l.take j) x).add l[j] else pdOf (l.take j) x := fun x => by
    rw [pdOf_next hj x]
    by_cases e : x = k
    · rw [if_pos e, if_pos (isKey_iff.2 (by rw [hk, e]))]
    · rw [if_neg e, if_neg (fun h => e (by rw [← isKey_iff.1 h, hk]))]
  have hkeep : ∀ {v : Value} {m : List ByteArray}, OwnSt w' base (fun _ => False) v m → OwnSt w2 base (fun _ => False) v m := fun {v m} hv => hv.keep keepS hg2 (fun r e => ⟨fun h => h, fun e2 => by have := (hv.lt e2).1; have := Option.some.inj e; omega⟩)
  have hlts : ∀ x r, (sv x).ownBlock = some r → r < w.heap.size := fun x r hr => ((h.s x).lt hr).2
  have hltn : ∀ x r, (nv x).ownBlock = some r → r < w.heap.size := fun x r hr => ((h.n x).lt hr).2
  refine ⟨h.im.put _ _, fun x => ?_, fun x => ?_, fun x => ?_, fun x y r hx hy => ?_, fun x y r hx hy => ?_, fun x => ?_⟩
  · rw [hpd x]
    by_cases e : x = k
    · subst e
      rw [atKey_put_same h.im (kl_key _)]
      simp
    · rw [atKey_put_other (fun e2 => e (kl_inj e2)), h.at_ x]
      simp [e]
  · rw [hpd x]
    by_cases e : x = k
    · subst e; simp only [if_true]; exact hkeep hs
    · simp only [e, if_false]
      exact hkeep ((h.s x).keep keepS hg (fun r hr => ⟨fun h => h, h.sep k x r hr⟩))
  · rw [hpd x]
    by_cases e : x = k
    · subst e; simp only [if_true]; exact hkeep hn
    · simp only [e, if_false]
      exact hkeep ((h.n x).keep keepS hg (fun r hr => ⟨fun h => h, fun e2 => e (h.inj x k r e2 hr)⟩))
  · by_cases ex : x = k
    · by_cases ey : y = k
      · rw [ex, ey]
      · simp only [ex, if_true] at hx
        simp only [ey, if_false] at hy
        rcases h2 with h2 | h2
        · rw [h2] at hx; exact absurd (h.inj y k r hy hx) ey
        · have := h2 r hx; have := hltn y r hy; omega
    · simp only [ex, if_false] at hx
      by_cases ey : y = k
      · simp only [ey, if_true] at hy
        rcases h2 with h2 | h2
        · rw [h2] at hy; exact absurd (h.inj x k r hx hy) ex
        · have := h2 r hy; have := hltn x r hx; omega
      · simp only [ey, if_false] at hy
        exact h.inj x y r hx hy
  · by_cases ex : x = k
    · simp only [ex, if_true] at hx
      by_cases ey : y = k
      · simp only [ey, if_true] at hy; exact h3 r hx hy
      · simp only [ey, if_false] at hy
        rcases h2 with h2 | h2
        · rw [h2] at hx; exact h.sep k y r hx hy
        · have := h2 r hx; have := hlts y r hy; omega
    · simp only [ex, if_false] at hx
      by_cases ey : y = k
      · simp only [ey, if_true] at hy
        rcases h1 with h1 | h1
        · rw [h1] at hy; exact h.sep x k r hx hy
        · have := h1 r hy; have := hltn x r hx; omega
      · simp only [ey, if_false] at hy
        exact h.sep x y r hx hy
  · by_cases e : x = k
    · subst e
      rw [has_put_same h.im (kl_key _), List.take_succ_eq_append_getElem hj]
      exact ⟨fun _ => ⟨l[j], List.mem_append_right _ (by simp), hk⟩, fun _ => rfl⟩
    · rw [has_put_other (fun e2 => e (kl_inj e2)), h.keys x, List.take_succ_eq_append_getElem hj]
      constructor
      · rintro ⟨t, ht, e2⟩; exact ⟨t, List.mem_append_left _ ht, e2⟩
      · rintro ⟨t, ht, e2⟩
        rcases List.mem_append.1 ht with ht | ht
        · exact ⟨t, ht, e2⟩
        · rw [List.mem_singleton.1 ht, hk] at e2
          exact absurd e2.symm e
end Go.Proofs.YtolekldjbbjmjaaGreatDoor
/- a selector's text is read as that selector: plain. -/
namespace Go.Proofs.YtolekldjbbjmjaaGreatDoor
open Go.RowKit Go.Lib
/-- what stands at a place, up to the end -/
def At (l : List UInt8) (k : Nat) (u : List UInt8) : Prop := k ≤ l.length ∧ l.drop k = u
theorem At.step {l p u : List UInt8} {k n : Nat} (h : At l k (p ++ u)) (hn : n = k + p.length) : At l n u := by
  subst hn
  have hl := congrArg List.length h.2
  rw [List.length_drop, List.length_append] at hl
  have := h.1
  refine ⟨by omega, ?_⟩
  rw [← List.drop_drop, h.2, List.drop_left]
theorem At.one {l u : List UInt8} {c : UInt8} {k : Nat} (h : At l k (c :: u)) : At l (k + 1) u := At.step (p := [c]) h rfl
theorem At.len {l u : List UInt8} {k : Nat} (h : At l k u) : k + u.length = l.length := by
  have hl := congrArg List.length h.2
  rw [List.length_drop] at hl
  have := h.1
  omega
theorem At.split {l u : List UInt8} {k : Nat} (h : At l k u) : l = l.take k ++ u ∧ (l.take k).length = k := by
  refine ⟨?_, by rw [List.length_take]; have := h.1; omega⟩
  conv => lhs; rw [← List.take_append_drop k l, h.2]
theorem skp_none {l u : List UInt8} {k : Nat} (h : At l k u) (hn : u.head? ≠ some 32) : skp l k = k := by
  unfold skp gapN
  rw [h.2]
  cases u with
  | nil => rfl
  | cons x t =>
    have hx : x ≠ 32 := fun e => hn (by rw [e]; rfl)
    rw [List.takeWhile_cons_of_neg (by simp [hx])]
    rfl
theorem skp_one {l u : List UInt8} {k : Nat} (h : At l k (32 :: u)) : skp l k = skp l (k + 1) := by
  unfold skp gapN
  rw [h.2, h.one.2, List.takeWhile_cons_of_pos (by simp)]
  simp only [List.length_cons]
  omega
theorem tk_at {l u : List UInt8} {k : Nat} (h : At l k u) (p : List UInt8) : tkB l k p = hasPrefix u p := by unfold tkB; rw [h.2]
theorem pln_at {l u : List UInt8} {k : Nat} (h : At l k u) : plnT l k = u.takeWhile (fun c => plainN c.toNat) := by unfold plnT; rw [h.2]
/-- the first byte of a word's text -/
theorem wordL_head (x : ByteArray) : ∃ c t, wordL x = c :: t ∧ (plainN c.toNat = true ∨ c = 34) := by
  unfold wordL
  split
  · rename_i h
    unfold plainW allPlain at h
    rw [Bool.and_eq_true] at h
    have h0 : 0 < x.data.toList.length := by have := of_decide_eq_true h.2; simpa using this
    cases hd : x.data.toList with
    | nil => rw [hd] at h0; cases h0
    | cons c t =>
      refine ⟨c, t, rfl, .inl ?_⟩
      rw [hd, List.all_cons, Bool.and_eq_true] at h
      exact h.1.1
  · exact ⟨34, _, rfl, .inr rfl⟩
theorem head_ne {c : UInt8} (h : plainN c.toNat = true ∨ c = 34) (d : UInt8) (hd : plainN d.toNat = false) (hq : d ≠ 34) : c ≠ d := fun e => by
  subst e
  rcases h with h | h
  · rw [h] at hd; cases hd
  · exact hq h
def NoP (u : List UInt8) : Prop := ∀ c, u.head? = some c → plainN c.toNat = false
theorem noP_cons {c : UInt8} {u : List UInt8} (h : plainN c.toNat = false) : NoP (c :: u) := fun d e => by cases e; exact h
theorem noP_nil : NoP [] := fun d e => by cases e
theorem tw_noP {u : List UInt8} (h : NoP u) : u.takeWhile (fun c => plainN c.toNat) = [] := by
  cases u with
  | nil => rfl
  | cons c t => rw [List.takeWhile_cons_of_neg (by rw [h c rfl]; simp)]
theorem bytes_back (x : ByteArray) : (⟨x.data.toList.toArray⟩ : ByteArray) = x := by cases x; simp
theorem wrd_at {l u : List UInt8} {k least : Nat} {x : ByteArray} (h : At l k (wordL x ++ u)) (hw : wordB x = true) (hl : least ≤ x.size) (hu : NoP u) :
    wrdF l least k = some (x, skp l (k + (wordL x).length)) := by
  have hlen : x.data.toList.length = x.size := by simp
  have hE (n : Nat) : wrdE l least x.data.toList n = some (x, skp l n) := by
    unfold wrdE
    rw [if_pos ⟨by omega, by rw [bytes_back]; exact hw⟩, bytes_back]
  unfold wrdF
  rw [pln_at h]
  cases hp : plainW x with
  | true =>
    have hx : wordL x = x.data.toList := by unfold wordL; rw [if_pos hp]
    unfold plainW allPlain at hp
    rw [Bool.and_eq_true] at hp
    have h0 := of_decide_eq_true hp.2
    rw [hx, List.takeWhile_append_of_pos (fun a ha => List.all_eq_true.1 hp.1 a ha), tw_noP hu, List.append_nil, if_neg (fun e => by rw [e] at hlen; simp at hlen; omega), hE]
  | false =>
    have hx : wordL x = Q.qt x.data.toList := by unfold wordL; rw [if_neg (by rw [hp]; simp)]
    have hv : validD x.data.toList = true := by
      unfold wordB at hw
      rw [Bool.and_eq_true] at hw
      exact hw.2
    obtain ⟨e1, e2⟩ := h.split
    have hq := Q.unq_back x.data.toList (l.take k) u hv
    rw [hx] at e1 ⊢
    rw [← e1, e2] at hq
    have htw : (Q.qt x.data.toList ++ u).takeWhile (fun c => plainN c.toNat) = [] := List.takeWhile_cons_of_neg (by decide)
    rw [htw, if_pos rfl, hq]
    simp only [if_true]
    rw [hE]
end Go.Proofs.YtolekldjbbjmjaaGreatDoor
