/- joined: JsQ JsS -/
import Derived.Test.YtpmhdcmmlkjjmaaGreatDoorJrG
import Derived.Test.YtpmhdcmmlkjjmaaGreatDoorG24
import Derived.Shelf.SlSortCmp.KitK
/- json's reader in plain words: values, lists, members. -/
set_option linter.unusedSimpArgs false
set_option linter.unusedVariables false
namespace Go.Proofs.YtpmhdcmmlkjjmaaGreatDoor
open Go.RowKit Go.Lib
def nulV : V := .mk 0 false 0 ⟨#[]⟩ [] []
/-- members by their keys, rising -/
def insM (x : Mem) : List Mem → List Mem
  | [] => [x]
  | y :: t => if cmpS x.1 y.1 < 0 then x :: y :: t else y :: insM x t
def sortM : List Mem → List Mem
  | [] => []
  | x :: t => insM x (sortM t)
mutual
/-- a value: how much is left to go, how deep it may be, the brackets open, the place, how many began -/
def valJ (l : List UInt8) (D : Nat) : Nat → Nat → Nat → Nat → Except Flt (V × Nat × Nat)
  | 0, _, _, _ => .error (0, 0)
  | f + 1, o, k, n => match nxJ l k with
    | .error e => .error e
    | .ok c => match entJ c D n o k with
      | .error e => .error e
      | .ok n1 =>
        if c = 110 then (match wordJ l k [110, 117, 108, 108] with | .error e => .error e | .ok k1 => .ok (nulV, k1, n1))
        else if c = 116 then (match wordJ l k [116, 114, 117, 101] with | .error e => .error e | .ok k1 => .ok (.mk 1 true 0 ⟨#[]⟩ [] [], k1, n1))
        else if c = 102 then (match wordJ l k [102, 97, 108, 115, 101] with | .error e => .error e | .ok k1 => .ok (.mk 1 false 0 ⟨#[]⟩ [] [], k1, n1))
        else if c = 34 then (match quoJ l k with | .error e => .error e | .ok x => .ok (.mk 3 false 0 x.1 [] [], x.2, n1))
        else if c = 91 then (match lisJ l D f (o + 1) (begunJ l k 93).1 (begunJ l k 93).2 n1 [] with | .error e => .error e | .ok x => .ok (.mk 4 false 0 ⟨#[]⟩ x.1 [], x.2.1, x.2.2))
        else if c = 123 then (match memJ l D f (o + 1) (begunJ l k 125).1 (begunJ l k 125).2 n1 [] with | .error e => .error e | .ok x => .ok (.mk 5 false 0 ⟨#[]⟩ [] (sortM x.1), x.2.1, x.2.2))
        else (match numJ l k with | .error e => .error e | .ok x => .ok (.mk 2 false x.1 ⟨#[]⟩ [] [], x.2, n1))
def lisJ (l : List UInt8) (D : Nat) : Nat → Nat → Bool → Nat → Nat → List V → Except Flt (List V × Nat × Nat)
  | 0, _, _, _, _, _ => .error (0, 0)
  | f + 1, o, more, k, n, acc => if more = false then .ok (acc, k, n) else match valJ l D f o k n with
    | .error e => .error e
    | .ok x => match goesJ l x.2.1 93 with
      | .error e => .error e
      | .ok y => lisJ l D f o y.1 y.2 x.2.2 (acc ++ [x.1])
def memJ (l : List UInt8) (D : Nat) : Nat → Nat → Bool → Nat → Nat → List Mem → Except Flt (List Mem × Nat × Nat)
  | 0, _, _, _, _, _ => .error (0, 0)
  | f + 1, o, more, k, n, acc => if more = false then .ok (acc, k, n) else match keyJ l k (acc.map fun x => x.1.data.toList) with
    | .error e => .error e
    | .ok q => match valJ l D f o q.2 n with
      | .error e => .error e
      | .ok x => match goesJ l x.2.1 125 with
        | .error e => .error e
        | .ok y => memJ l D f o y.1 y.2 x.2.2 (acc ++ [(q.1, x.1)])
end
section
variable {l : List UInt8} {D f o k n : Nat}
theorem lisJ_end {acc : List V} : lisJ l D (f + 1) o false k n acc = .ok (acc, k, n) := by rw [lisJ]; rfl
theorem lisJ_val {acc : List V} {e : Flt} (h : valJ l D f o k n = .error e) : lisJ l D (f + 1) o true k n acc = .error e := by rw [lisJ, if_neg (by decide), h]
theorem lisJ_goes {acc : List V} {e : Flt} {x : V × Nat × Nat} (h : valJ l D f o k n = .ok x) (h2 : goesJ l x.2.1 93 = .error e) : lisJ l D (f + 1) o true k n acc = .error e := by rw [lisJ, if_neg (by decide), h]; dsimp only; rw [h2]
theorem lisJ_on {acc : List V} {x : V × Nat × Nat} {y : Bool × Nat} (h : valJ l D f o k n = .ok x) (h2 : goesJ l x.2.1 93 = .ok y) : lisJ l D (f + 1) o true k n acc = lisJ l D f o y.1 y.2 x.2.2 (acc ++ [x.1]) := by rw [lisJ, if_neg (by decide), h]; dsimp only; rw [h2]
theorem memJ_end {acc : List Mem} : memJ l D (f + 1) o false k n acc = .ok (acc, k, n) := by rw [memJ]; rfl
theorem memJ_key {acc : List Mem} {e : Flt} (h : keyJ l k (acc.map fun x => x.1.data.toList) = .error e) : memJ l D (f + 1) o true k n acc = .error e := by rw [memJ, if_neg (by decide), h]
theorem memJ_val {acc : List Mem} {e : Flt} {q : ByteArray × Nat} (h0 : keyJ l k (acc.map fun x => x.1.data.toList) = .ok q) (h : valJ l D f o q.2 n = .error e) : memJ l D (f + 1) o true k n acc = .error e := by rw [memJ, if_neg (by decide), h0]; dsimp only; rw [h]
theorem memJ_goes {acc : List Mem} {e : Flt} {q : ByteArray × Nat} {x : V × Nat × Nat} (h0 : keyJ l k (acc.map fun x => x.1.data.toList) = .ok q) (h : valJ l D f o q.2 n = .ok x) (h2 : goesJ l x.2.1 125 = .error e) : memJ l D (f + 1) o true k n acc = .error e := by rw [memJ, if_neg (by decide), h0]; dsimp only; rw [h]; dsimp only; rw [h2]
theorem memJ_on {acc : List Mem} {q : ByteArray × Nat} {x : V × Nat × Nat} {y : Bool × Nat} (h0 : keyJ l k (acc.map fun x => x.1.data.toList) = .ok q) (h : valJ l D f o q.2 n = .ok x) (h2 : goesJ l x.2.1 125 = .ok y) : memJ l D (f + 1) o true k n acc = memJ l D f o y.1 y.2 x.2.2 (acc ++ [(q.1, x.1)]) := by rw [memJ, if_neg (by decide), h0]; dsimp only; rw [h]; dsimp only; rw [h2]
end
theorem goesJ_le {l : List UInt8} {k : Nat} {c : UInt8} {y : Bool × Nat} (hk : k ≤ l.length) (h : goesJ l k c = .ok y) : k < y.2 ∧ y.2 ≤ l.length := by
  have hb := blk_le hk
  cases ht : tkJ l (blk l k) 44 with
  | true =>
    rw [goesJ_more ht] at h
    cases h
    have hlt := tkJ_lt ht
    have := blk_le (l := l) (k := blk l k + 1) (by omega)
    dsimp only
    omega
  | false =>
    cases hm : mustJ l (blk l k) c with
    | ok k' =>
      rw [goesJ_end ht hm] at h
      cases h
      obtain ⟨e, hl⟩ := mustJ_le hm
      dsimp only
      omega
    | error f => rw [goesJ_no ht hm] at h; cases h
theorem begunJ_le {l : List UInt8} {k : Nat} {c : UInt8} (hk : k < l.length) : k < (begunJ l k c).2 ∧ (begunJ l k c).2 ≤ l.length := by
  have hb := blk_le (l := l) (k := k + 1) (by omega)
  unfold begunJ
  dsimp only
  split
  · rename_i h
    have := tkJ_lt h
    omega
  · omega
theorem quoJ_in {l : List UInt8} {k : Nat} {x : ByteArray × Nat} (h : quoJ l k = .ok x) : k ≤ x.2 ∧ x.2 ≤ l.length ∧ x.1.size ≤ l.length := by
  have hp := Q.unqAll_inv l (k : Int)
  unfold quoJ at h
  split at h
  · rename_i h0
    cases h
    have := hp.2 h0
    refine ⟨?_, hp.1, ?_⟩
    · dsimp only; omega
    · show Array.size _ ≤ _
      simpa using this.2.2.2.2
  · cases h
theorem numJ_le {l : List UInt8} {k : Nat} {x : Int × Nat} (hk : k ≤ l.length) (h : numJ l k = .ok x) : k ≤ x.2 ∧ x.2 ≤ l.length ∧ In64 x.1 := by
  have hr := runJ_le l k
  cases hi : intJ (runJ l k) with
  | some v =>
    rw [numJ_yes hi] at h
    cases h
    exact ⟨by dsimp only; omega, by dsimp only; omega, intJ_in hi⟩
  | none => rw [numJ_no hi] at h; cases h
theorem keyJ_in {l : List UInt8} {k : Nat} {ks : List (List UInt8)} {q : ByteArray × Nat} (h : keyJ l k ks = .ok q) : k ≤ q.2 ∧ q.2 ≤ l.length ∧ q.1.size ≤ l.length ∧ q.1.data.toList ∉ ks := by
  rcases Nat.lt_or_ge k l.length with hk | hk
  · by_cases e : l[k] = 34
    · cases hq : quoJ l k with
      | error f => rw [keyJ_quo hk e hq] at h; cases h
      | ok x =>
        obtain ⟨x, k1⟩ := x
        have h1 := quoJ_in hq
        dsimp only at h1
        by_cases hx : x.data.toList ∈ ks
        · rw [keyJ_twice hk e hq hx] at h; cases h
        · have hb := blk_le (l := l) (k := k1) h1.2.1
          cases hm : mustJ l (blk l k1) 58 with
          | error f => rw [keyJ_colon hk e hq hx hm] at h; cases h
          | ok k2 =>
            rw [keyJ_ok hk e hq hx hm] at h
            cases h
            obtain ⟨e2, hl⟩ := mustJ_le hm
            have hb2 := blk_le (l := l) (k := k2) (by omega)
            exact ⟨by dsimp only; omega, hb2.2, h1.2.2, hx⟩
    · rw [keyJ_byte hk e] at h; cases h
  · rw [keyJ_end hk] at h; cases h
theorem entJ_le {c : UInt8} {D n o k n1 : Nat} (hn : n ≤ 65536) (h : entJ c D n o k = .ok n1) : n1 = n + 1 ∧ n1 ≤ 65536 ∧ o ≤ D := by
  unfold entJ at h
  split at h
  · cases h
  · split at h
    · cases h
    · split at h
      · cases h
      · cases h
        omega
/-- where the parts end -/
theorem allJ_le (l : List UInt8) (D : Nat) : ∀ f : Nat,
    (∀ o k n x, n ≤ 65536 → valJ l D f o k n = .ok x → k ≤ x.2.1 ∧ x.2.1 ≤ l.length ∧ x.2.2 ≤ 65536) ∧
    (∀ o more k n acc x, k ≤ l.length → n ≤ 65536 → lisJ l D f o more k n acc = .ok x → k ≤ x.2.1 ∧ x.2.1 ≤ l.length ∧ x.2.2 ≤ 65536) ∧
    (∀ o more k n acc x, k ≤ l.length → n ≤ 65536 → memJ l D f o more k n acc = .ok x → k ≤ x.2.1 ∧ x.2.1 ≤ l.length ∧ x.2.2 ≤ 65536)
  | 0 => by
    refine ⟨?_, ?_, ?_⟩
    · intro o k n x _ h; rw [valJ] at h; cases h
    · intro o more k n acc x _ _ h; rw [lisJ] at h; cases h
    · intro o more k n acc x _ _ h; rw [memJ] at h; cases h
  | f + 1 => by
    obtain ⟨hV, hL, hM⟩ := allJ_le l D f
    refine ⟨?_, ?_, ?_⟩
    · intro o k n x hn h
      rw [valJ] at h
      cases hx : nxJ l k with
      | error e => rw [hx] at h; cases h
      | ok c =>
        rw [hx] at h
        dsimp only at h
        have hk : k < l.length := by
          rcases Nat.lt_or_ge k l.length with hk | hk
          · exact hk
          · rw [nxJ, List.getElem?_eq_none hk] at hx; cases hx
        cases he : entJ c D n o k with
        | error e => rw [he] at h; cases h
        | ok n1 =>
          rw [he] at h
          dsimp only at h
          obtain ⟨_, hn1, _⟩ := entJ_le hn he
          split at h
          · cases hw : wordJ l k [110, 117, 108, 108] with
            | error e => rw [hw] at h; cases h
            | ok k1 => rw [hw] at h; cases h; have := wordJ_ok (by omega) hw; exact ⟨this.1, this.2, hn1⟩
          · split at h
            · cases hw : wordJ l k [116, 114, 117, 101] with
              | error e => rw [hw] at h; cases h
              | ok k1 => rw [hw] at h; cases h; have := wordJ_ok (by omega) hw; exact ⟨this.1, this.2, hn1⟩
            · split at h
              · cases hw : wordJ l k [102, 97, 108, 115, 101] with
                | error e => rw [hw] at h; cases h
                | ok k1 => rw [hw] at h; cases h; have := wordJ_ok (by omega) hw; exact ⟨this.1, this.2, hn1⟩
              · split at h
                · cases hw : quoJ l k with
                  | error e => rw [hw] at h; cases h
                  | ok y => rw [hw] at h; cases h; have := quoJ_in hw; exact ⟨this.1, this.2.1, hn1⟩
                · split at h
                  · cases hw : lisJ l D f (o + 1) (begunJ l k 93).1 (begunJ l k 93).2 n1 [] with
                    | error e => rw [hw] at h; cases h
                    | ok y =>
                      rw [hw] at h; cases h
                      have hb := begunJ_le (c := 93) hk
                      have := hL _ _ _ _ _ _ hb.2 hn1 hw
                      exact ⟨by dsimp only; omega, this.2.1, this.2.2⟩
                  · split at h
                    · cases hw : memJ l D f (o + 1) (begunJ l k 125).1 (begunJ l k 125).2 n1 [] with
                      | error e => rw [hw] at h; cases h
                      | ok y =>
                        rw [hw] at h; cases h
                        have hb := begunJ_le (c := 125) hk
                        have := hM _ _ _ _ _ _ hb.2 hn1 hw
                        exact ⟨by dsimp only; omega, this.2.1, this.2.2⟩
                    · cases hw : numJ l k with
                      | error e => rw [hw] at h; cases h
                      | ok y => rw [hw] at h; cases h; have := numJ_le (by omega) hw; exact ⟨this.1, this.2.1, hn1⟩
    · intro o more k n acc x hk hn h
      cases more with
      | false => rw [lisJ_end] at h; cases h; exact ⟨Nat.le_refl _, hk, hn⟩
      | true =>
        cases hv : valJ l D f o k n with
        | error e => rw [lisJ_val hv] at h; cases h
        | ok y =>
          have h1 := hV _ _ _ _ hn hv
          cases hg : goesJ l y.2.1 93 with
          | error e => rw [lisJ_goes hv hg] at h; cases h
          | ok z =>
            rw [lisJ_on hv hg] at h
            have h2 := goesJ_le h1.2.1 hg
            have h3 := hL _ _ _ _ _ _ h2.2 h1.2.2 h
            exact ⟨by omega, h3.2.1, h3.2.2⟩
    · intro o more k n acc x hk hn h
      cases more with
      | false => rw [memJ_end] at h; cases h; exact ⟨Nat.le_refl _, hk, hn⟩
      | true =>
        cases hq : keyJ l k (acc.map fun x => x.1.data.toList) with
        | error e => rw [memJ_key hq] at h; cases h
        | ok q =>
          have h0 := keyJ_in hq
          cases hv : valJ l D f o q.2 n with
          | error e => rw [memJ_val hq hv] at h; cases h
          | ok y =>
            have h1 := hV _ _ _ _ hn hv
            cases hg : goesJ l y.2.1 125 with
            | error e => rw [memJ_goes hq hv hg] at h; cases h
            | ok z =>
              rw [memJ_on hq hv hg] at h
              have h2 := goesJ_le h1.2.1 hg
              have h3 := hM _ _ _ _ _ _ h2.2 h1.2.2 h
              exact ⟨by omega, h3.2.1, h3.2.2⟩
end Go.Proofs.YtpmhdcmmlkjjmaaGreatDoor
/- the order of keys; members sorted. -/
namespace Go.Proofs.YtpmhdcmmlkjjmaaGreatDoor
open Go.RowKit Go.Lib Go.Sort
theorem u8_tri (x y : UInt8) (h1 : ¬ x < y) (h2 : ¬ y < x) : x = y := by
  rcases Nat.lt_trichotomy x.toNat y.toNat with h | h | h
  · exact absurd h h1
  · exact UInt8.toNat_inj.1 h
  · exact absurd h h2
theorem cmp_anti : ∀ a b : List UInt8, compareBytes b a = - compareBytes a b
  | [], [] => by simp [compareBytes]
  | [], _ :: _ => by simp [compareBytes]
  | _ :: _, [] => by simp [compareBytes]
  | x :: t, y :: u => by
    have ih := cmp_anti t u
    rw [compareBytes, compareBytes]
    by_cases h1 : x < y
    · have h2 : ¬ y < x := fun h => Nat.lt_asymm h1 h
      rw [if_neg h2, if_pos h1, if_pos h1]; rfl
    · by_cases h2 : y < x
      · rw [if_pos h2, if_neg h1, if_pos h2]
      · rw [if_neg h2, if_neg h1, if_neg h1, if_neg h2, ih]
theorem cmp_trans : ∀ a b c : List UInt8, compareBytes a b = -1 → compareBytes b c = -1 → compareBytes a c = -1
  | [], [], c, h, _ => by simp [compareBytes] at h
  | [], _ :: _, [], _, h => by simp [compareBytes] at h
  | [], _ :: _, _ :: _, _, _ => by simp [compareBytes]
  | _ :: _, [], c, h, _ => by simp [compareBytes] at h
  | _ :: _, _ :: _, [], _, h => by simp [compareBytes] at h
  | x :: t, y :: u, z :: v, h, h' => by
    rw [compareBytes] at h h' ⊢
    by_cases h1 : x < y
    · by_cases h2 : y < z
      · rw [if_pos (show x < z from Nat.lt_trans h1 h2)]
      · rw [if_neg h2] at h'
        by_cases h3 : z < y
        · rw [if_pos h3] at h'; simp at h'
        · rw [← u8_tri y z h2 h3, if_pos h1]
    · rw [if_neg h1] at h
      by_cases h3 : y < x
      · rw [if_pos h3] at h; simp at h
      · rw [if_neg h3] at h
        have e := u8_tri x y h1 h3
        subst e
        by_cases h2 : x < z
        · rw [if_pos h2]
        · rw [if_neg h2] at h' ⊢
          by_cases h4 : z < x
          · rw [if_pos h4] at h'; simp at h'
          · rw [if_neg h4] at h' ⊢
            exact cmp_trans t u v h h'
theorem cmp_zero : ∀ a b : List UInt8, compareBytes a b = 0 → a = b
  | [], [], _ => rfl
  | [], _ :: _, h => by simp [compareBytes] at h
  | _ :: _, [], h => by simp [compareBytes] at h
  | x :: t, y :: u, h => by
    rw [compareBytes] at h
    by_cases h1 : x < y
    · rw [if_pos h1] at h; simp at h
    · rw [if_neg h1] at h
      by_cases h2 : y < x
      · rw [if_pos h2] at h; simp at h
      · rw [if_neg h2] at h
        rw [u8_tri x y h1 h2, cmp_zero t u h]
theorem kz {a b : ByteArray} (h : cmpS a b = 0) : a = b := by
  have := cmp_zero _ _ h
  cases a; cases b
  exact congrArg ByteArray.mk (Array.toList_inj.1 this)
theorem k_anti (a b : ByteArray) : cmpS b a = - cmpS a b := cmp_anti _ _
theorem k_self (a : ByteArray) : cmpS a a = 0 := by have := k_anti a a; omega
theorem k_one (a b : ByteArray) : cmpS a b = -1 ∨ cmpS a b = 0 ∨ cmpS a b = 1 := cmp_one _ _
theorem k_trans {a b c : ByteArray} (h : cmpS a b < 0) (h2 : cmpS b c < 0) : cmpS a c < 0 := by
  have h1 := k_one a b
  have h3 := k_one b c
  have : cmpS a c = -1 := cmp_trans _ _ _ (show cmpS a b = -1 by omega) (show cmpS b c = -1 by omega)
  omega
theorem k_ntrans {a b c : ByteArray} (h : ¬ cmpS a b < 0) (h2 : ¬ cmpS b c < 0) : ¬ cmpS a c < 0 := by
  intro h3
  have h1 := k_one a b
  by_cases e : cmpS a b = 0
  · rw [kz e] at h3; exact h2 h3
  · have := k_anti a b
    exact h2 (k_trans (a := b) (b := a) (by omega) h3)
def leM (a b : Mem) : Prop := ¬ cmpS b.1 a.1 < 0
theorem insM_mem {x z : Mem} : ∀ {l : List Mem}, z ∈ insM x l ↔ z = x ∨ z ∈ l
  | [] => by simp [insM]
  | y :: t => by
    rw [insM]
    split
    · simp
    · rw [List.mem_cons, insM_mem, List.mem_cons]
      constructor
      · rintro (h | h | h)
        · exact .inr (.inl h)
        · exact .inl h
        · exact .inr (.inr h)
      · rintro (h | h | h)
        · exact .inr (.inl h)
        · exact .inl h
        · exact .inr (.inr h)
theorem insM_perm (x : Mem) : ∀ l : List Mem, (insM x l).Perm (x :: l)
  | [] => by rw [insM]
  | y :: t => by
    rw [insM]
    split
    · exact List.Perm.refl _
    · exact ((insM_perm x t).cons y).trans (List.Perm.swap x y t)
theorem insM_sorted {x : Mem} : ∀ {l : List Mem}, l.Pairwise leM → (insM x l).Pairwise leM
  | [], _ => by simp [insM]
  | y :: t, h => by
    rw [insM]
    rw [List.pairwise_cons] at h
    split
    · rename_i hxy
      have ha := k_anti x.1 y.1
      refine List.pairwise_cons.2 ⟨fun z hz => ?_, List.pairwise_cons.2 h⟩
      rcases List.mem_cons.1 hz with rfl | hz
      · show ¬ cmpS _ _ < 0; omega
      · have := h.1 z hz
        intro q
        exact this (k_trans q hxy)
    · rename_i hxy
      refine List.pairwise_cons.2 ⟨fun z hz => ?_, insM_sorted h.2⟩
      rcases insM_mem.1 hz with rfl | hz
      · exact hxy
      · exact h.1 z hz
theorem sortM_perm : ∀ l : List Mem, (sortM l).Perm l
  | [] => by rw [sortM]
  | x :: t => by
    rw [sortM]
    exact (insM_perm x (sortM t)).trans ((sortM_perm t).cons x)
theorem sortM_sorted : ∀ l : List Mem, (sortM l).Pairwise leM
  | [] => by rw [sortM]; exact List.Pairwise.nil
  | x :: t => by
    rw [sortM]
    exact insM_sorted (sortM_sorted t)
/-- members of different keys have one order -/
theorem sort_one {l d : List Mem} (hn : (l.map fun x => x.1.data.toList).Nodup) (hp : d.Perm l) (hs : d.Pairwise leM) : d = sortM l := by
  refine List.Perm.eq_of_pairwise (le := leM) ?_ hs (sortM_sorted l) (hp.trans (sortM_perm l).symm)
  intro a b ha hb h1 h2
  have ha' : a ∈ l := hp.mem_iff.1 ha
  have hb' : b ∈ l := (sortM_perm l).mem_iff.1 hb
  have e : a.1 = b.1 := by
    refine kz ?_
    have h3 := k_anti a.1 b.1
    have h4 := k_one a.1 b.1
    have h1' : ¬ cmpS b.1 a.1 < 0 := h1
    have h2' : ¬ cmpS a.1 b.1 < 0 := h2
    omega
  obtain ⟨i, hi, rfl⟩ := List.getElem_of_mem ha'
  obtain ⟨j, hj, rfl⟩ := List.getElem_of_mem hb'
  have hij : i = j := by
    have hq := List.pairwise_iff_getElem.1 hn
    rcases Nat.lt_trichotomy i j with h | h | h
    · have hne := hq i j (by simpa using hi) (by simpa using hj) h
      simp only [List.getElem_map] at hne
      exact absurd (by rw [e]) hne
    · exact h
    · have hne := hq j i (by simpa using hj) (by simpa using hi) h
      simp only [List.getElem_map] at hne
      exact absurd (by rw [e]) hne
  subst hij
  rfl
end Go.Proofs.YtpmhdcmmlkjjmaaGreatDoor
