/- joined: ChpP PtxP -/
import Derived.Test.YtfihgaffiobfhaaDoorRelP
import Derived.Test.YtfihgaffiobfhaaDoorScaA
/- Check. -/
set_option linter.unusedSimpArgs false
set_option linter.unusedVariables false
namespace Go.Proofs.YtfihgaffiobfhaaDoor
open Go.RowKit Go.Lib
/-- is it a path? -/
def pathB (p : List El) : Bool := decide (p.length ≤ 32) && p.all elB
def errP (p : List El) : Nat := if pathB p = true then 0 else 90
theorem pathB_true {p : List El} (h : p.length ≤ 32) (h' : ∀ (q : Nat) (h : q < p.length), elB p[q] = true) : pathB p = true := by
  rw [pathB, decide_eq_true h, Bool.true_and, List.all_eq_true]
  intro x hx
  obtain ⟨q, hq, rfl⟩ := List.getElem_of_mem hx
  exact h' q hq
theorem pathB_all {p : List El} (h : pathB p = true) : p.length ≤ 32 ∧ ∀ x ∈ p, elB x = true := by
  simpa [pathB] using h
theorem errP_ok {p : List El} (h : p.length ≤ 32) (h' : ∀ (q : Nat) (h : q < p.length), elB p[q] = true) : errP p = 0 := by rw [errP, if_pos (pathB_true h h')]
theorem errP_len {p : List El} (h : ¬ p.length ≤ 32) : errP p = 90 := by rw [errP, if_neg]; rw [pathB, decide_eq_false h]; simp
theorem errP_bad {p : List El} {j : Nat} (hj : j < p.length) (h : elB p[j] = false) : errP p = 90 := by
  rw [errP, if_neg]
  intro hp
  have := (pathB_all hp).2 _ (List.getElem_mem hj)
  rw [h] at this
  cases this
set_option maxHeartbeats 4000000 in
set_option maxRecDepth 100000 in
theorem pcheck_any (p : List El) (S : Nat → Prop) (ap : Option Addr) (cp bp op : Nat) (w : World) (t : Tb w) (hap : Headed ap p.length cp bp op) (hp : liesP w S p bp op) (hS : ∀ b, S b → b < w.heap.size) (hwt : wtP p ≤ 2147483647) :
    Calls Tryd.prog 10 #[.slice ap p.length cp] w (NPost (errP p) w) := by
  have HP := hmk hp
  clear hp
  by_cases h32 : p.length ≤ 32
  case neg =>
    have HF := hmk (errP_len h32)
    have y0 : (32 : Int) < p.length := by omega
    go_enter Tryd.func10, Tryd.ntmps10
    go_wp2_with fail
    go_ret
    exact ⟨by rw [HF.out]; rfl, Below.refl _ _⟩
  have y0 : ¬ (32 : Int) < p.length := by omega
  have H32 := hmk h32
  have hlm := wtP_len p
  clear h32
  go_enter Tryd.func10, Tryd.ntmps10
  go_wp2_with fail
  go_loopw [10] (fun e wr => ∃ j : Nat, j ≤ p.length ∧ e = .int .i64 (j : Int) ∧ Below w.heap.size w wr ∧ Hid (∀ (q : Nat) (h : q < j) (h' : q < p.length), elB p[q] = true)) (fun e _ => p.length - (RowKit.intOf e).toNat)
  case atStart => exact ⟨0, by omega, rfl, Below.refl _ _, fun q hq _ => by omega⟩
  case round =>
    obtain ⟨j, hj, rfl, bj, ok⟩ := hrel
    by_cases hjl : j < p.length
    · have y1 : (j : Int) < p.length := by omega
      obtain ⟨hSb, csj, hrow, hlj⟩ := HP.out j hjl
      obtain rfl : ap = some ⟨bp, op, none⟩ := hap.at_.resolve_left (by omega)
      have hwj : (p[j]).wt ≤ 2147483647 := by have := wtP_mem (List.getElem_mem hjl); omega
      obtain ⟨k, s, am, nm, cm, vk, vb, vi, vs, val, vnl, vcl, vam, vnm, vcm, rfl⟩ := El.nine hlj
      obtain ⟨q0, q1, q2, q3, q4, q5, q6, q7, q8⟩ := row9 (hrow.keep (bj.block bp (hS _ hSb)))
      have bA : Below w.heap.size w (wr.alloc (.cells #[.int .i64 k, .string s, .slice am nm cm, .int .i64 vk, .bool vb, .int .i64 vi, .string vs, .slice val vnl vcl, .slice vam vnm vcm] 34)) := bj.alloc bj.size _
      have c := hmk (maybe_any p[j] S _ (wr.alloc (.cells #[.int .i64 k, .string s, .slice am nm cm, .int .i64 vk, .bool vb, .int .i64 vi, .string vs, .slice val vnl vcl, .slice vam vnm vcm] 34)) (t.below bA t.z) (El.lies_keep (fun b hb => bA.block b (hS b hb)) (fun _ h => h) hlj) (fun b hb => Nat.lt_of_lt_of_le (hS b hb) bA.size) hwj)
      have HB := hmk bA
      clear hlj hrow bA hwj
      cases hx : elB p[j] with
      | false =>
        have HF := hmk (errP_bad hjl hx)
        rw [hx] at c
        clear hx
        go_wp2_with fail
        refine c.out.mono ?_
        rintro e w1 ⟨rfl, b1⟩
        go_wp2_with fail
        go_ret
        exact ⟨by rw [HF.out]; rfl, HB.out.trans (b1.mono HB.out.size)⟩
      | true =>
        have HO : Hid (∀ (q : Nat) (h : q < j + 1) (h' : q < p.length), elB p[q] = true) := fun q hq hq' => by
          by_cases hqj : q < j
          · exact ok.out q hqj hq'
          · obtain rfl : q = j := by omega
            exact hx
        rw [hx] at c
        clear hx
        go_wp2_with fail
        refine c.out.mono ?_
        rintro e w1 ⟨rfl, b1⟩
        have HB2 := hmk (HB.out.trans (b1.mono HB.out.size))
        go_wp2_with fail
        go_roundw
        case rel => exact ⟨j + 1, by omega, by go_num, HB2.out, HO⟩
        case measure => simp [RowKit.intOf]; omega
    · obtain rfl : j = p.length := by omega
      have y1 : ¬ (p.length : Int) < p.length := by omega
      have HF := hmk (errP_ok H32.out (fun q hq => ok.out q hq hq))
      have HB := hmk bj
      go_wp2_with fail
      go_ret
      exact ⟨by rw [HF.out]; rfl, HB.out⟩
set_option maxHeartbeats 4000000 in
set_option maxRecDepth 100000 in
theorem rpcheck_any (p : List El) (S : Nat → Prop) (ap : Option Addr) (cp bp op : Nat) (w : World) (hap : Headed ap p.length cp bp op) (hp : liesP w S p bp op) (hS : ∀ b, S b → b < w.heap.size) (hwt : wtP p ≤ 2147483647) :
    Calls Tryd.prog 11 #[.slice ap p.length cp] w (NPost (errP p) w) := by
  have HP := hmk hp
  clear hp
  by_cases h32 : p.length ≤ 32
  case neg =>
    have HF := hmk (errP_len h32)
    have y0 : (32 : Int) < p.length := by omega
    go_enter Tryd.func11, Tryd.ntmps11
    go_wp2_with fail
    go_ret
    exact ⟨by rw [HF.out]; rfl, Below.refl _ _⟩
  have y0 : ¬ (32 : Int) < p.length := by omega
  have H32 := hmk h32
  have hlm := wtP_len p
  clear h32
  go_enter Tryd.func11, Tryd.ntmps11
  go_wp2_with fail
  go_loopw [3] (fun e wr => ∃ j : Nat, j ≤ p.length ∧ e = .int .i64 (j : Int) ∧ Below w.heap.size w wr ∧ Hid (∀ (q : Nat) (h : q < j) (h' : q < p.length), elB p[q] = true)) (fun e _ => p.length - (RowKit.intOf e).toNat)
  case atStart => exact ⟨0, by omega, rfl, Below.refl _ _, fun q hq _ => by omega⟩
  case round =>
    obtain ⟨j, hj, rfl, bj, ok⟩ := hrel
    by_cases hjl : j < p.length
    · have y1 : (j : Int) < p.length := by omega
      obtain ⟨hSb, csj, hrow, hlj⟩ := HP.out j hjl
      obtain rfl : ap = some ⟨bp, op, none⟩ := hap.at_.resolve_left (by omega)
      have hwj : (p[j]).wt ≤ 2147483647 := by have := wtP_mem (List.getElem_mem hjl); omega
      obtain ⟨k, s, am, nm, cm, vk, vb, vi, vs, val, vnl, vcl, vam, vnm, vcm, rfl⟩ := El.nine hlj
      obtain ⟨q0, q1, q2, q3, q4, q5, q6, q7, q8⟩ := row9 (hrow.keep (bj.block bp (hS _ hSb)))
      have bA := bj
      have c := hmk (relem_any p[j] S _ wr (El.lies_keep (fun b hb => bA.block b (hS b hb)) (fun _ h => h) hlj) (fun b hb => Nat.lt_of_lt_of_le (hS b hb) bA.size) hwj)
      have HB := hmk bA
      clear hlj hrow bA hwj
      cases hx : elB p[j] with
      | false =>
        have HF := hmk (errP_bad hjl hx)
        rw [hx] at c
        clear hx
        go_wp2_with fail
        refine c.out.mono ?_
        rintro e w1 ⟨rfl, b1⟩
        go_wp2_with fail
        go_ret
        exact ⟨by rw [HF.out]; rfl, HB.out.trans (b1.mono HB.out.size)⟩
      | true =>
        have HO : Hid (∀ (q : Nat) (h : q < j + 1) (h' : q < p.length), elB p[q] = true) := fun q hq hq' => by
          by_cases hqj : q < j
          · exact ok.out q hqj hq'
          · obtain rfl : q = j := by omega
            exact hx
        rw [hx] at c
        clear hx
        go_wp2_with fail
        refine c.out.mono ?_
        rintro e w1 ⟨rfl, b1⟩
        have HB2 := hmk (HB.out.trans (b1.mono HB.out.size))
        go_wp2_with fail
        go_roundw
        case rel => exact ⟨j + 1, by omega, by go_num, HB2.out, HO⟩
        case measure => simp [RowKit.intOf]; omega
    · obtain rfl : j = p.length := by omega
      have y1 : ¬ (p.length : Int) < p.length := by omega
      have HF := hmk (errP_ok H32.out (fun q hq => ok.out q hq hq))
      have HB := hmk bj
      go_wp2_with fail
      go_ret
      exact ⟨by rw [HF.out]; rfl, HB.out⟩
end Go.Proofs.YtfihgaffiobfhaaDoor
/- A path's text, as plain functions. -/
namespace Go.Proofs.YtfihgaffiobfhaaDoor
open Go.RowKit Go.Lib
def svT : V → List UInt8
  | .mk k b i s _ _ => scT k b i s
def memT (x : Mem) : List UInt8 := nmT x.1.data.toList ++ 61 :: svT x.2
/-- members, each behind a byte: the first behind the one that is named, each other behind a comma -/
def kyT : UInt8 → List Mem → List UInt8
  | _, [] => []
  | a, x :: t => a :: (memT x ++ kyT 44 t)
/-- members with commas between them -/
def kyV : List Mem → List UInt8
  | [] => []
  | x :: t => memT x ++ kyT 44 t
def ahd (a : UInt8) (j : Nat) : UInt8 := if j = 0 then a else 44
theorem kyT_snoc : ∀ (l : List Mem) (a : UInt8) (x : Mem), kyT a (l ++ [x]) = kyT a l ++ ahd a l.length :: memT x
  | [], a, x => by simp [kyT, ahd]
  | y :: t, a, x => by
    have e : ahd 44 t.length = ahd a (t.length + 1) := by unfold ahd; split <;> simp
    rw [List.cons_append, kyT, kyT, kyT_snoc t 44 x, List.length_cons, e]; simp
theorem kyT_take {l : List Mem} {j : Nat} (a : UInt8) (h : j < l.length) : kyT a (l.take (j + 1)) = kyT a (l.take j) ++ ahd a j :: memT l[j] := by
  rw [List.take_succ_eq_append_getElem h, kyT_snoc, List.length_take, Nat.min_eq_left (Nat.le_of_lt h)]
theorem kyT_kyV {l : List Mem} (a : UInt8) (h : 0 < l.length) : kyT a l = a :: kyV l := by
  cases l with
  | nil => simp at h
  | cons x t => rfl
theorem kyV_take0 {l : List Mem} (h : 0 < l.length) : kyV (l.take (0 + 1)) = memT l[0] := by
  cases l with
  | nil => simp at h
  | cons x t => simp [kyV, kyT]
theorem kyV_take {l : List Mem} {j : Nat} (h : j < l.length) (h0 : j ≠ 0) : kyV (l.take (j + 1)) = kyV (l.take j) ++ 44 :: memT l[j] := by
  have h1 := kyT_take 91 h
  rw [kyT_kyV 91 (by rw [List.length_take]; omega), kyT_kyV 91 (by rw [List.length_take]; omega), ahd, if_neg h0, List.cons_append] at h1
  injection h1
def elT (e : El) : List UInt8 :=
  if e.kind = 1 then 46 :: nmT e.name.data.toList
  else if e.kind = 3 then 91 :: 61 :: (svT e.item ++ [93])
  else kyT 91 e.key ++ [93]
def txT (p : List El) : List UInt8 := p.flatMap elT
theorem txT_take {p : List El} {j : Nat} (h : j < p.length) : txT (p.take (j + 1)) = txT (p.take j) ++ elT p[j] := by
  rw [List.take_succ_eq_append_getElem h, txT, List.flatMap_append]; simp [txT]
theorem nmT_len (s : ByteArray) : (nmT s.data.toList).length ≤ 2 + 6 * s.size := by
  rw [nmT]
  split
  · have hl : s.data.toList.length = s.size := by simp
    omega
  · exact qt_lenO s
/-- a number of 64 bits inside -/
def in64V : V → Prop
  | .mk _ _ i _ _ _ => In64 i
theorem svT_len {v : V} (h : in64V v) : (svT v).length ≤ 30 * v.wt := by
  obtain ⟨k, b, i, s, l, m⟩ := v
  have := scT_len (k := k) (b := b) (s := s) (i := i) h
  rw [svT, V.wt]; omega
theorem memT_len {x : Mem} (h : in64V x.2) : (memT x).length + 1 ≤ 40 * (x.1.size + x.2.wt) := by
  have h1 := nmT_len x.1
  have h2 := svT_len h
  have h3 := V.wt_pos x.2
  rw [memT, List.length_append, List.length_cons]; omega
theorem kyT_len : ∀ (l : List Mem) (a : UInt8), (∀ x ∈ l, in64V x.2) → (kyT a l).length ≤ 40 * wtM l
  | [], a, _ => by simp [kyT, wtM]
  | (k, v) :: t, a, h => by
    have h1 := memT_len (x := (k, v)) (h _ (by simp))
    have h2 := kyT_len t 44 (fun x hx => h x (by simp [hx]))
    rw [kyT, wtM, List.length_cons, List.length_append]
    simp only at h1
    omega
def in64E (e : El) : Prop := in64V e.item ∧ ∀ x ∈ e.key, in64V x.2
theorem elT_len {e : El} (h : in64E e) : (elT e).length ≤ 40 * e.wt := by
  have h1 := nmT_len e.name
  have h2 := svT_len h.1
  have h3 := V.wt_pos e.item
  have h4 := kyT_len e.key 91 h.2
  rw [elT, El.wt]
  split
  · rw [List.length_cons]; omega
  split
  · rw [List.length_cons, List.length_cons, List.length_append]; simp only [List.length_cons, List.length_nil]; omega
  · rw [List.length_append]; simp only [List.length_cons, List.length_nil]; omega
theorem txT_len : ∀ (p : List El), (∀ e ∈ p, in64E e) → (txT p).length ≤ 40 * wtP p
  | [], _ => by simp [txT, wtP]
  | e :: t, h => by
    have h1 := elT_len (h e (by simp))
    have h2 := txT_len t (fun x hx => h x (by simp [hx]))
    rw [txT] at h2 ⊢
    rw [List.flatMap_cons, List.length_append, wtP]; omega
theorem in64_lies {R : Bool} {w : World} {S : Nat → Prop} {v : V} {cs : List Value} (h : v.lies R w S cs) : in64V v := by
  obtain ⟨k, b, i, s, l, m⟩ := v
  rw [V.lies] at h
  obtain ⟨al, cl, bl, ol, am, cm, bm, om, _, _, hi, _⟩ := h
  exact hi
theorem in64_liesM {w : World} {S : Nat → Prop} {l : List Mem} {b o : Nat} (h : liesM false w S l b o) : ∀ x ∈ l, in64V x.2 := by
  intro x hx
  obtain ⟨j, hj, rfl⟩ := List.getElem_of_mem hx
  obtain ⟨_, _, cs, _, h2⟩ := liesM_get h j hj
  exact in64_lies h2
theorem in64_liesE {w : World} {S : Nat → Prop} {e : El} {cs : List Value} (h : e.lies w S cs) : in64E e := by
  obtain ⟨am, cm, bm, om, is, h0, h1, h2, h3, h4, h5⟩ := h
  exact ⟨in64_lies h5, in64_liesM h4⟩
theorem in64_liesP {w : World} {S : Nat → Prop} {p : List El} {b o : Nat} (h : liesP w S p b o) : ∀ e ∈ p, in64E e := by
  intro x hx
  obtain ⟨j, hj, rfl⟩ := List.getElem_of_mem hx
  obtain ⟨_, cs, _, h2⟩ := h j hj
  exact in64_liesE h2
end Go.Proofs.YtfihgaffiobfhaaDoor
