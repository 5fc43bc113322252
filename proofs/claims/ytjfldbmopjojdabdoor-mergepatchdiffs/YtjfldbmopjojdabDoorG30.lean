/- joined: HasD DocP -/
import Derived.Test.YtjfldbmopjojdabDoorG29
set_option linter.unusedSimpArgs false
set_option linter.unusedVariables false
namespace Go.Proofs.YtjfldbmopjojdabDoor
open Go.RowKit Go.Lib
def hasR : List Mem → ByteArray → Bool
 | [], _ => false
 | y :: t, k => if y.1.toList = k.toList then true else hasR t k
theorem hasR_skip {m : List Mem} {key : ByteArray} : ∀ {j : Nat}, (∀ q (h : q < m.length), q < j → ¬ (m[q]).1.toList = key.toList) → hasR m key = hasR (m.drop j) key := by
 induction m with
 | nil => intro j _; simp
 | cons y t ih =>
  intro j h
  cases j with
  | zero => rfl
  | succ j =>
   have h0 : ¬ y.1.toList = key.toList := h 0 (by simp) (by omega)
   rw [hasR, if_neg h0, List.drop_succ_cons]
   exact ih fun q hq hj => h (q + 1) (by simp; omega) (by omega)
theorem hasR_hit {m : List Mem} {key : ByteArray} {j : Nat} (hj : j < m.length) (h : ∀ q (h : q < m.length), q < j → ¬ (m[q]).1.toList = key.toList) (he : (m[j]).1.toList = key.toList) : hasR m key = true := by
 rw [hasR_skip h, List.drop_eq_getElem_cons hj, hasR, if_pos he]
theorem hasR_miss {m : List Mem} {key : ByteArray} (h : ∀ q (h : q < m.length), q < m.length → ¬ (m[q]).1.toList = key.toList) : hasR m key = false := by
 rw [hasR_skip h, List.drop_length]; rfl
set_option maxHeartbeats 8000000 in
set_option maxRecDepth 100000 in
theorem has_any (k : Int) (b : Bool) (i : Int) (s : ByteArray) (l : List V) (m : List Mem) (key : ByteArray) (S : Nat → Prop) (cs : List Value) (w : World) (hv : (V.mk k b i s l m).lies false w S cs) (hS : ∀ b, S b → b < w.heap.size) :
 Calls Tryd.prog 28 #[.agg cs.toArray, .string key] w (BPost (hasR m key) w) := by
 rw [V.lies] at hv
 obtain ⟨al, cl, bl, ol, am, cm, bm, om, rfl, ik, ii, is, hal, ham, hl, hm, _⟩ := hv
 have hml : m.length ≤ 9223372036854775807 := Nat.le_trans ham.le ham.max
 have B2 : Below w.heap.size w (w.alloc (.cells #[.int .i64 k, .bool b, .int .i64 i, .string s, .slice al l.length cl, .slice am m.length cm] 25)) := (Below.refl _ _).alloc (Nat.le_refl _) _
 have hz2 := alloc_size w (.cells #[.int .i64 k, .bool b, .int .i64 i, .string s, .slice al l.length cl, .slice am m.length cm] 25)
 have h0 := heap_alloc_new w (.cells #[.int .i64 k, .bool b, .int .i64 i, .string s, .slice al l.length cl, .slice am m.length cm] 25)
 have HM : Hid (∀ W, Below w.heap.size w W → liesM false W S m bm om) := fun W hb => liesM_keep (fun h => h) (fun x hx => hb.block x (hS x hx)) (fun _ h => h) _ hm
 clear hl hm
 go_enter Tryd.func28, Tryd.ntmps28
 go_wp2_with fail
 generalize (w.alloc (.cells #[.int .i64 k, .bool b, .int .i64 i, .string s, .slice al l.length cl, .slice am m.length cm] 25)) = w2 at *
 go_loopw [5] (fun e wr => ∃ j : Nat, j ≤ m.length ∧ e = .int .i64 (j : Int) ∧ wr = w2 ∧ Hid (∀ q (h : q < m.length), q < j → ¬ (m[q]).1.toList = key.toList)) (fun e _ => m.length - (RowKit.intOf e).toNat)
 case atStart => exact ⟨0, by omega, rfl, rfl, fun q _ h => by omega⟩
 case round =>
  obtain ⟨j, hj, rfl, rfl, HN⟩ := hrel
  have d5 : wr.cell? ⟨w.heap.size, 5, none⟩ = some (.slice am m.length cm) := by rw [cell_of_block h0]; rfl
  by_cases hjl : j < m.length
  ·have y1 : (j : Int) < m.length := by omega
   obtain rfl : am = some ⟨bm, om, none⟩ := ham.at_.resolve_left (by omega)
   obtain ⟨hSb, hks, csj, hrow, hlj⟩ := liesM_get (HM.out wr B2) j hjl
   have HH : Hid ((m[j]).1.toList = key.toList → hasR m key = true) := fun h => hasR_hit hjl HN.out h
   have HX : Hid (¬ (m[j]).1.toList = key.toList → ∀ q (h : q < m.length), q < j + 1 → ¬ (m[q]).1.toList = key.toList) := fun h q hq hj2 => by
    rcases Nat.lt_or_ge q j with h2 | h2
    ·exact HN.out q hq h2
    ·obtain rfl : q = j := by omega
     exact h
   obtain ⟨ek, eb, ei, es, eal, enl, ecl, eam, enm, ecm, rfl⟩ := V.ten hlj
   rcases hxj : m[j] with ⟨ekey, xv⟩
   rw [hxj] at hks hrow HH HX
   simp only at hks hrow HH HX
   obtain ⟨q, q0, q1, q2, q3, q4, q5⟩ := row7 hrow
   clear hlj hxj HN q0 q1 q2 q3 q4 q5
   by_cases he : ekey.toList = key.toList
   ·have ye : (ekey.toList == key.toList) = true := by rw [beq_iff_eq]; exact he
    have HG : Hid (hasR m key = true) := HH.out he
    clear HH HX he hrow
    go_wp2_with fail
    go_ret
    exact ⟨by rw [HG.out]; rfl, B2⟩
   ·have ye : (ekey.toList == key.toList) = false := by rw [beq_eq_false_iff_ne]; exact he
    have HX := hmk (HX.out he)
    clear HH he hrow
    go_wp2_with fail
    go_roundw
    case rel => exact ⟨j + 1, by omega, by go_num, by first | rfl | trivial, HX⟩
    case measure => simp [RowKit.intOf]; omega
  ·obtain rfl : j = m.length := by omega
   have y1 : ¬ (m.length : Int) < m.length := by omega
   have HG : Hid (hasR m key = false) := hasR_miss HN.out
   clear HN
   go_wp2_with fail
   go_ret
   exact ⟨by rw [HG.out]; rfl, B2⟩
set_option maxHeartbeats 8000000 in
set_option maxRecDepth 100000 in
theorem rclean27_any (v : V) : ∀ (S : Nat → Prop) (cs : List Value) (w : World), v.lies false w S cs → (∀ x, S x → x < w.heap.size) → Calls Tryd.prog 27 #[.agg cs.toArray] w (BPost (clnB v) w) := by
 induction v using V.ind_v with
 | h k b i s l m ihl ihm =>
 intro S cs w hl hS
 rw [V.lies] at hl
 obtain ⟨al, cl, bl, ol, am, cm, bm, om, rfl, hk, hi, hs, hal, ham, hl1, hm1, _⟩ := hl
 have HM : Hid (liesM false w S m bm om) := hm1
 clear hl1 hm1
 have hml : m.length ≤ 9223372036854775807 := Nat.le_trans ham.le ham.max
 have B0 : Below w.heap.size w (w.alloc (.cells #[.int .i64 k, .bool b, .int .i64 i, .string s, .slice al l.length cl, .slice am m.length cm] 25)) := (Below.refl _ _).alloc (Nat.le_refl _) _
 have hb := heap_alloc_new w (.cells #[.int .i64 k, .bool b, .int .i64 i, .string s, .slice al l.length cl, .slice am m.length cm] 25)
 have hz0 := alloc_size w (.cells #[.int .i64 k, .bool b, .int .i64 i, .string s, .slice al l.length cl, .slice am m.length cm] 25)
 have c0 : (w.alloc (.cells #[.int .i64 k, .bool b, .int .i64 i, .string s, .slice al l.length cl, .slice am m.length cm] 25)).cell? ⟨w.heap.size, 0, none⟩ = some (.int .i64 k) := by rw [cell_of_block hb]; rfl
 have HE : Hid (clnB (.mk k b i s l m) = (!(k == 0) && clnM m)) := by show _ = _; rw [clnB]
 generalize clnB (.mk k b i s l m) = RR at *
 by_cases hk0 : k = 0
 ·subst hk0
  have HF : Hid (RR = false) := by show _ = _; rw [HE.out]; rfl
  go_enter Tryd.func27, Tryd.ntmps27
  go_wp2_with fail
  go_ret
  exact ⟨by rw [HF.out]; rfl, B0⟩
 ·have yk : (k == 0) = false := beq_eq_false_iff_ne.2 hk0
  have HF : Hid (RR = clnM m) := by show _ = _; rw [HE.out, yk]; rfl
  clear HE
  go_enter Tryd.func27, Tryd.ntmps27
  go_wp2_with fail
  generalize (w.alloc (.cells #[.int .i64 k, .bool b, .int .i64 i, .string s, .slice al l.length cl, .slice am m.length cm] 25)) = w0 at *
  clear c0
  go_loopw [3] (fun e wr => ∃ j : Nat, j ≤ m.length ∧ e = .int .i64 (j : Int) ∧ Below w0.heap.size w0 wr ∧ Hid (RR = clnM (m.drop j))) (fun e _ => m.length - (RowKit.intOf e).toNat)
  case atStart => exact ⟨0, by omega, rfl, Below.refl _ _, HF⟩
  case round =>
   obtain ⟨j, hj, rfl, bj, HJ⟩ := hrel
   have hzr := bj.size
   have hbr := (bj.block w.heap.size (by omega)).trans hb
   have d5 : wr.cell? ⟨w.heap.size, 5, none⟩ = some (.slice am m.length cm) := by rw [cell_of_block hbr]; rfl
   by_cases hjl : j < m.length
   ·have y1 : (j : Int) < m.length := by omega
    obtain ⟨hSb, hks, csj, hrow, hlj⟩ := liesM_get HM.out j hjl
    obtain rfl : am = some ⟨bm, om, none⟩ := ham.at_.resolve_left (by omega)
    have hk1 : ∀ x, S x → wr.heap[x]? = w.heap[x]? := fun x hx => (bj.block x (by have := hS x hx; omega)).trans (B0.block x (hS x hx))
    obtain ⟨ek, eb, ei, es, eal, enl, ecl, eam, enm, ecm, rfl⟩ := V.ten hlj
    obtain ⟨q, q0, q1, q2, q3, q4, q5⟩ := row7 (hrow.keep (hk1 _ hSb))
    have HD := hmk (HJ.out.trans (clnM_drop hjl))
    have IC := ihm m[j] (List.getElem_mem hjl) S _ wr (V.lies_keep (fun h => h) hk1 (fun _ h => h) _ hlj) (fun x hx => by have := hS x hx; omega)
    generalize clnB (m[j]).2 = Z at *
    generalize (m[j]).1 = key at *
    clear hlj hrow HJ hk1
    go_wp2_with fail
    refine IC.mono ?_
    rintro e w3 ⟨rfl, b3⟩
    clear IC
    have b4 : Below w0.heap.size w0 w3 := bj.trans (b3.mono hzr)
    cases Z
    ·have HF : Hid (RR = false) := by show _ = _; rw [HD.out]; rfl
     go_wp2_with fail
     go_ret
     exact ⟨by rw [HF.out]; rfl, B0.trans (b4.mono (by omega))⟩
    ·have HF : Hid (RR = clnM (m.drop (j + 1))) := by show _ = _; rw [HD.out]; rfl
     go_wp2_with fail
     go_roundw
     case rel => exact ⟨j + 1, by omega, by go_num, b4, HF⟩
     case measure => simp [RowKit.intOf]; omega
   ·obtain rfl : j = m.length := by omega
    have y1 : ¬ (m.length : Int) < m.length := by omega
    have HF : Hid (RR = true) := by show _ = _; rw [HJ.out, List.drop_length, clnM]
    go_wp2_with fail
    go_ret
    exact ⟨by rw [HF.out]; rfl, B0.trans (bj.mono (by omega))⟩
end Go.Proofs.YtjfldbmopjojdabDoor
namespace Go.Proofs.YtjfldbmopjojdabDoor
open Go Go.RowKit Go.Lib Go.Shelf
mutual
def ldV : V → V → Bool
 | a, .mk k b i s l m => if k = 5 then (if kindOf a = 5 then ldM (memsOf a) m else clnB (.mk k b i s l m)) else true
def ldM : List Mem → List Mem → Bool
 | _, [] => true
 | o, (k, x) :: t => (if hasR o k = true then (eqlV (getR o k) x || (ldV (getR o k) x && !(kindOf x == 0))) else clnB x) && ldM o t
end
mutual
def bwV : V → V → V
 | a, .mk k b i s l m => if kindOf a = 5 ∧ k = 5 then mapV (bwM (memsOf a) m (nulM (memsOf a) m [])) else .mk k b i s l m
def bwM : List Mem → List Mem → List Mem → List Mem
 | _, [], acc => acc
 | o, (k, x) :: t, acc => bwM o t (if hasR o k = true then (if eqlV (getR o k) x = true then acc else witR acc k (bwV (getR o k) x)) else witR acc k x)
def nulM : List Mem → List Mem → List Mem → List Mem
 | [], _, acc => acc
 | (k, _) :: t, m, acc => nulM t m (if hasR m k = true then acc else witR acc k nullV)
end
theorem has_lk : ∀ (o : List Mem) (k : ByteArray), hasR o k = (lk o k).isSome
 | [], k => rfl
 | y :: t, k => by
  rw [hasR, lk]
  split
  ·rfl
  ·exact has_lk t k
theorem get_lk : ∀ (o : List Mem) (k : ByteArray), getR o k = (lk o k).getD nullV
 | [], k => rfl
 | y :: t, k => by
  rw [getR, lk]
  split
  ·rfl
  ·exact get_lk t k
theorem lk_app {a b : List Mem} {k : ByteArray} (h : ∀ y ∈ a, ¬ y.1.toList = k.toList) : lk (a ++ b) k = lk b k := by
 induction a with
 | nil => rfl
 | cons y t ih =>
  rw [List.cons_append, lk, if_neg (h y (List.mem_cons_self ..))]
  exact ih fun z hz => h z (List.mem_cons_of_mem _ hz)
theorem lk_filt_lt {L : List Mem} {k key : ByteArray} (h : ltB key k = true) : lk (L.filter (fun y => ltB y.1 k)) key = lk L key := by
 induction L with
 | nil => rfl
 | cons y t ih =>
  by_cases hy : ltB y.1 k = true
  ·rw [List.filter_cons_of_pos (by exact hy), lk, lk, ih]
  ·rw [List.filter_cons_of_neg (by exact hy), ih, lk, if_neg]
   intro e
   rw [lt_same e] at hy
   exact hy h
theorem lk_filt_gt {L : List Mem} {k key : ByteArray} (h : ltB k key = true) : lk (L.filter (fun y => ltB k y.1)) key = lk L key := by
 induction L with
 | nil => rfl
 | cons y t ih =>
  by_cases hy : ltB k y.1 = true
  ·rw [List.filter_cons_of_pos (by exact hy), lk, lk, ih]
  ·rw [List.filter_cons_of_neg (by exact hy), ih, lk, if_neg]
   intro e
   rw [lt_same' e] at hy
   exact hy h
theorem lk_wit {L : List Mem} {k key : ByteArray} {x : V} : lk (witR L k x) key = if k.toList = key.toList then some x else lk L key := by
 rw [witR]
 by_cases hk : k.toList = key.toList
 ·rw [if_pos hk, lk_app, lk_hit hk]
  intro y hy e
  have := (List.mem_filter.1 hy).2
  exact lt_ne this (e.trans hk.symm)
 ·rw [if_neg hk]
  by_cases h1 : ltB k key = true
  ·rw [lk_app, lk_no hk, lk_filt_gt h1]
   intro y hy e
   have h2 : ltB y.1 k = true := (List.mem_filter.1 hy).2
   rw [lt_same e, lt_asym h1] at h2
   cases h2
  ·have h2 : ltB key k = true := ltB_tri k key (by simpa using h1) hk
   have e1 : lk ((k, x) :: L.filter (fun y => ltB k y.1)) key = none := by
    rw [lk_no hk]
    refine lk_far fun y hy e => ?_
    have h3 : ltB k y.1 = true := (List.mem_filter.1 hy).2
    rw [lt_same' e] at h3
    exact h1 h3
   have e2 : ∀ A B : List Mem, lk B key = none → lk (A ++ B) key = lk A key := by
    intro A B hB
    induction A with
    | nil => exact hB
    | cons y t ih => rw [List.cons_append, lk, lk, ih]
   rw [e2 _ _ e1, lk_filt_lt h2]
theorem srt_ext : ∀ (l l' : List Mem), Srt l → Srt l' → (∀ key, lk l key = lk l' key) → l = l'
 | [], [], _, _, _ => rfl
 | [], (k, x) :: t, _, _, h => by
  have := h k
  rw [lk_hit rfl] at this
  cases this
 | (k, x) :: t, [], _, _, h => by
  have := h k
  rw [lk_hit rfl] at this
  cases this
 | (k, x) :: t, (k', x') :: t', hs, hs', h => by
  obtain ⟨s1, l1⟩ := srt_tail hs
  obtain ⟨s2, l2⟩ := srt_tail hs'
  have e : k = k' := by
   apply Classical.byContradiction
   intro hn
   have hn : ¬ k.toList = k'.toList := fun e => hn (key_eq e)
   by_cases h1 : ltB k k' = true
   ·have h2 := h k
    rw [lk_hit rfl, lk_lt (fun y hy => by
     rcases List.mem_cons.1 hy with rfl | hy
     ·exact h1
     ·exact ltB_trans h1 (l2 y hy))] at h2
    cases h2
   ·have h1 := ltB_tri k k' (by simpa using h1) hn
    have h2 := h k'
    rw [lk_hit (k := k') rfl, lk_lt (l := (k, x) :: t) (fun y hy => by
     rcases List.mem_cons.1 hy with rfl | hy
     ·exact h1
     ·exact ltB_trans h1 (l1 y hy))] at h2
    cases h2
  subst e
  have hx := h k
  rw [lk_hit rfl, lk_hit rfl] at hx
  cases hx
  rw [srt_ext t t' s1 s2 fun key => ?_]
  by_cases hk : k.toList = key.toList
  ·rw [← key_eq hk, lk_lt l1, lk_lt l2]
  ·have := h key
   rw [lk_no hk, lk_no hk] at this
   exact this
theorem nul_srt : ∀ (a m acc : List Mem), Srt acc → Srt (nulM a m acc)
 | [], m, acc, h => by rw [nulM]; exact h
 | (k, x) :: t, m, acc, h => by
  rw [nulM]
  refine nul_srt t m _ ?_
  split
  ·exact h
  ·exact wit_srt h k nullV
theorem bw_srt : ∀ (m o acc : List Mem), Srt acc → Srt (bwM o m acc)
 | [], o, acc, h => by rw [bwM]; exact h
 | (k, x) :: t, o, acc, h => by
  rw [bwM]
  refine bw_srt t o _ ?_
  split
  ·split
   ·exact h
   ·exact wit_srt h k _
  ·exact wit_srt h k x
theorem lk_nul : ∀ (a m acc : List Mem) (key : ByteArray), lk (nulM a m acc) key = if (lk a key).isSome = true ∧ hasR m key = false then some nullV else lk acc key
 | [], m, acc, key => by rw [nulM, if_neg]; intro h; cases h.1
 | (k, x) :: t, m, acc, key => by
  rw [nulM, lk_nul t m]
  by_cases hk : k.toList = key.toList
  ·have e := key_eq hk
   subst e
   rw [lk_hit rfl]
   by_cases hm : hasR m k = true
   ·rw [if_pos hm, if_neg (fun h => by rw [hm] at h; cases h.2), if_neg (fun h => by rw [hm] at h; cases h.2)]
   ·have hm' : hasR m k = false := by simpa using hm
    rw [if_neg hm, if_pos (⟨rfl, hm'⟩ : (some x).isSome = true ∧ hasR m k = false), lk_wit, if_pos rfl]
    split <;> rfl
  ·rw [lk_no hk]
   by_cases hm : hasR m k = true
   ·rw [if_pos hm]
   ·rw [if_neg hm, lk_wit, if_neg hk]
def bk (o acc : Option V) (z : Option V) : Option V := match z with
 | none => acc
 | some x => match o with
  | none => some x
  | some y => if eqlV y x = true then acc else some (bwV y x)
theorem lk_bw : ∀ (m o acc : List Mem) (key : ByteArray), Srt m → lk (bwM o m acc) key = bk (lk o key) (lk acc key) (lk m key)
 | [], o, acc, key, _ => by rw [bwM, lk, bk]
 | (k, x) :: t, o, acc, key, h => by
  obtain ⟨s1, l1⟩ := srt_tail h
  rw [bwM, lk_bw t o _ key s1]
  by_cases hk : k.toList = key.toList
  ·have e := key_eq hk
   subst e
   rw [lk_lt l1, lk_hit rfl, has_lk, get_lk]
   cases ho : lk o k with
   | none =>
    show lk (if (none : Option V).isSome = true then _ else witR acc k x) k = some x
    rw [if_neg (by simp), lk_wit, if_pos rfl]
   | some y =>
    show lk (if (some y).isSome = true then (if eqlV y x = true then acc else witR acc k (bwV y x)) else witR acc k x) k = if eqlV y x = true then lk acc k else some (bwV y x)
    rw [if_pos (by simp)]
    split
    ·rfl
    ·rw [lk_wit, if_pos rfl]
  ·rw [lk_no hk]
   have e : lk (if hasR o k = true then (if eqlV (getR o k) x = true then acc else witR acc k (bwV (getR o k) x)) else witR acc k x) key = lk acc key := by
    split
    ·split
     ·rfl
     ·rw [lk_wit, if_neg hk]
    ·rw [lk_wit, if_neg hk]
   rw [e]
def sk (f : List Mem → List Mem → Option (List Mem)) (o z : Option V) : Option V := match o, z with
 | none, none => none
 | some _, none => some nullV
 | none, some x => some x
 | some y, some x => if kindOf y = 5 ∧ kindOf x = 5 then (match f (memsOf y) (memsOf x) with | some (u :: t) => some (mapV (u :: t)) | _ => none) else if eqlV y x = true then none else some x
theorem lk_st (f : List Mem → List Mem → Option (List Mem)) : ∀ a b, Srt a → Srt b → ∀ ms, stDs f (tgR (bare a) (bare b)) = some ms → ∀ key, lk ms key = sk f (lk a key) (lk b key) := by
 refine two_ind ?_ ?_ ?_ ?_
 ·intro ms h key
  have h : stDs f (tgR [] []) = some ms := h
  rw [tgR, stDs] at h
  cases h
  rfl
 ·intro k x a b sa sb ka kb ih ms h key
  rw [tg_l kb] at h
  obtain ⟨r, t, hr, ht, rfl⟩ := stDs_cons h
  rw [stD_A] at hr
  cases hr
  have ih := ih t ht key
  show lk ((k, nullV) :: t) key = _
  by_cases hk : k.toList = key.toList
  ·have e := key_eq hk
   subst e
   rw [lk_hit rfl, lk_hit rfl, lk_lt kb]
   rfl
  ·rw [lk_no hk, lk_no hk, ih]
 ·intro k x a b sa sb ka kb ih ms h key
  rw [tg_r ka] at h
  obtain ⟨r, t, hr, ht, rfl⟩ := stDs_cons h
  rw [stD_B] at hr
  by_cases hc : clnB x = true
  ·rw [if_pos hc] at hr
   cases hr
   have ih := ih t ht key
   show lk ((k, x) :: t) key = _
   by_cases hk : k.toList = key.toList
   ·have e := key_eq hk
    subst e
    rw [lk_hit rfl, lk_hit rfl, lk_lt ka]
    rfl
   ·rw [lk_no hk, lk_no hk, ih]
  ·rw [if_neg hc] at hr
   cases hr
 ·intro k x z a b sa sb ka kb ih ms h key
  rw [tg_e] at h
  obtain ⟨r, t, hr, ht, rfl⟩ := stDs_cons h
  rw [stD_E] at hr
  have ih := ih t ht
  have far : ∀ key, k.toList = key.toList → lk t key = none := fun key hk => by
   rw [ih key, ← key_eq hk, lk_lt ka, lk_lt kb]
   rfl
  by_cases hk : k.toList = key.toList
  ·have hf := far key hk
   have e := key_eq hk
   subst e
   rw [lk_hit (k := k) (key := k) rfl, lk_hit (k := k) (key := k) rfl, sk]
   by_cases h5 : kindOf x = 5 ∧ kindOf z = 5
   ·rw [if_pos h5] at hr
    rw [if_pos h5]
    cases hq : f (memsOf x) (memsOf z) with
    | none => rw [hq] at hr; cases hr
    | some l =>
     rw [hq] at hr
     cases l with
     | nil => cases hr; exact hf
     | cons u s => cases hr; exact lk_hit rfl
   ·rw [if_neg h5] at hr
    rw [if_neg h5]
    by_cases he : eqlV x z = true
    ·rw [if_pos he] at hr
     rw [if_pos he]
     cases hr
     exact hf
    ·rw [if_neg he] at hr
     rw [if_neg he]
     by_cases hc : clnB z = true
     ·rw [if_pos hc] at hr
      cases hr
      exact lk_hit rfl
     ·rw [if_neg hc] at hr
      cases hr
  ·have e : lk (r ++ t) key = lk t key := by
    refine lk_app fun y hy => ?_
    have : y.1 = k := by
     by_cases h5 : kindOf x = 5 ∧ kindOf z = 5
     ·rw [if_pos h5] at hr
      cases hq : f (memsOf x) (memsOf z) with
      | none => rw [hq] at hr; cases hr
      | some l =>
       rw [hq] at hr
       cases l with
       | nil => cases hr; cases hy
       | cons u s => cases hr; rw [List.mem_singleton.1 hy]
     ·rw [if_neg h5] at hr
      by_cases he : eqlV x z = true
      ·rw [if_pos he] at hr; cases hr; cases hy
      ·rw [if_neg he] at hr
       by_cases hc : clnB z = true
       ·rw [if_pos hc] at hr; cases hr; rw [List.mem_singleton.1 hy]
       ·rw [if_neg hc] at hr; cases hr
    rw [this]
    exact hk
   rw [e, lk_no hk, lk_no hk, ih key]
end Go.Proofs.YtjfldbmopjojdabDoor
