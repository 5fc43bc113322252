/- joined: WalksE JpsX RowQ JpsB PrvA JgA -/
import Derived.Test.YtpmhdcmmlkjjmaaGreatDoorRowP
import Derived.Test.YtpmhdcmmlkjjmaaGreatDoorH15
import Derived.Test.YtpmhdcmmlkjjmaaGreatDoorH12
import Derived.Lib.ItoaMem
/- Contract: the document's Quote. -/
set_option linter.unusedSimpArgs false
set_option linter.unusedVariables false
set_option maxRecDepth 100000
namespace Go.Proofs.YtpmhdcmmlkjjmaaGreatDoor
open Go.RowKit Go.Lib
/-- where the byte stands among the seven that have letters; 7: nowhere -/
def Q.idxN (c : Nat) : Nat := if c = 34 then 0 else if c = 92 then 1 else if c = 8 then 2 else if c = 9 then 3 else if c = 10 then 4 else if c = 12 then 5 else if c = 13 then 6 else 7
theorem Q.idxN_le (c : Nat) : Q.idxN c ≤ 7 := by
  unfold Q.idxN
  repeat' split
  all_goals omega
theorem Q.idx_none (c : Nat) (h : ¬ Q.idxN c < 7) : Q.letN c = 0 := by
  revert h
  unfold Q.idxN Q.letN
  repeat' split
  all_goals first | rfl | (intro h; omega)
theorem stand_ne (c : UInt8) (k : Nat) (h : k < Q.idxN c.toNat) (h' : k < (⟨#[34, 92, 8, 9, 10, 12, 13]⟩ : ByteArray).size) : (⟨#[34, 92, 8, 9, 10, 12, 13]⟩ : ByteArray)[k].toNat ≠ c.toNat := by
  have key : ∀ (k : Fin 7), (⟨#[34, 92, 8, 9, 10, 12, 13]⟩ : ByteArray)[k.val]'(k.isLt) = UInt8.ofNat ([34, 92, 8, 9, 10, 12, 13].getD k.val 0) ∧ Q.idxN ([34, 92, 8, 9, 10, 12, 13].getD k.val 0) = k.val ∧ [34, 92, 8, 9, 10, 12, 13].getD k.val 0 < 256 := by decide
  have hk := key ⟨k, h'⟩
  simp only at hk
  intro e
  rw [hk.1] at e
  obtain ⟨_, h2, h3⟩ := hk
  generalize [34, 92, 8, 9, 10, 12, 13].getD k 0 = z at *
  have e2 : z = c.toNat := by
    rw [← e]; simp; omega
  rw [← e2] at h
  omega
theorem stand_eq (c : UInt8) (h : Q.idxN c.toNat < 7) (h' : Q.idxN c.toNat < (⟨#[34, 92, 8, 9, 10, 12, 13]⟩ : ByteArray).size) (h'' : Q.idxN c.toNat < (⟨#[34, 92, 98, 116, 110, 102, 114]⟩ : ByteArray).size) :
    (⟨#[34, 92, 8, 9, 10, 12, 13]⟩ : ByteArray)[Q.idxN c.toNat].toNat = c.toNat ∧ (⟨#[34, 92, 98, 116, 110, 102, 114]⟩ : ByteArray)[Q.idxN c.toNat] = UInt8.ofNat (Q.letN c.toNat) ∧ Q.letN c.toNat ≠ 0 := by
  have key : ∀ c : Fin 256, (hh : Q.idxN c.val < 7) → (⟨#[34, 92, 8, 9, 10, 12, 13]⟩ : ByteArray)[Q.idxN c.val]'(hh) = UInt8.ofNat c.val ∧ (⟨#[34, 92, 98, 116, 110, 102, 114]⟩ : ByteArray)[Q.idxN c.val]'(hh) = UInt8.ofNat (Q.letN c.val) ∧ Q.letN c.val ≠ 0 := by decide +kernel
  have hk := key ⟨c.toNat, c.toNat_lt⟩ h
  refine ⟨?_, hk.2⟩
  rw [hk.1]
  simp
set_option maxRecDepth 100000 in
set_option maxHeartbeats 2000000 in
theorem refQuote_good (s : ByteArray) (w : World) (hs : s.size ≤ 2147483648) (hV : validD s.data.toList = true) :
    Calls Tryz.prog 72 #[.string s] w fun e w' => e = .returned (.tuple #[.string ⟨(Q.qt s.data.toList).toArray⟩, .int .i64 0]) ∧ Below w.heap.size w w' := by
  have c := refValid_anyW s (by omega) w
  rw [hV] at c
  clear hV
  go_enter Tryz.func72, Tryz.ntmps72
  go_wp2_with (go_at_call 95; refine c.mono ?_; rintro e w ⟨rfl, rfl⟩)
  go_loopw [5, 6] (fun v i wr => ∃ k : Nat, k ≤ s.size ∧ i = .int .i64 k ∧ OwnB w.heap.size v (34 :: Q.body (s.data.toList.take k)) wr ∧ Below w.heap.size w wr) (fun _ i _ => s.size - (RowKit.intOf i).toNat)
  case atStart => exact ⟨0, Nat.zero_le _, rfl, OwnB.built w.heap.size w [34] (Nat.le_refl _) (by simp), (Below.refl _ _).alloc (Nat.le_refl _) _⟩
  case round =>
    obtain ⟨k, hk, rfl, ho, bk⟩ := hrel
    have hl0 := Q.sz_le (s.data.toList.take k)
    have hl1 : (s.data.toList.take k).length ≤ k := List.length_take_le _ _
    have hbl : (Q.body (s.data.toList.take k)).length ≤ 12884901888 := by unfold Q.sz at hl0; omega
    have hsk := bk.size
    clear hl0 c
    by_cases hlt : k < s.size
    · have y1 : (k : Int) < s.size := by omega
      have HS : Hid (34 :: Q.body (s.data.toList.take (k + 1)) = (34 :: Q.body (s.data.toList.take k)) ++ Q.esc s[k]) := by
        show _ = _
        rw [take_snoc s k hlt, Q.body_snoc]; rfl
      go_wp2_with fail
      go_loop [8] (fun j => ∃ i : Nat, i ≤ Q.idxN s[k].toNat ∧ j = .int .i64 i) (fun j => 7 - (RowKit.intOf j).toNat)
      case atStart => exact ⟨0, Nat.zero_le _, rfl⟩
      case round =>
        obtain ⟨i, hi, rfl⟩ := hrel
        have hi7 := Q.idxN_le s[k].toNat
        by_cases hii : i < Q.idxN s[k].toNat
        · have z1 : (i : Int) < 7 := by omega
          have hne := stand_ne s[k] i hii (by show i < 7; omega)
          have z2 : ((((⟨#[34, 92, 8, 9, 10, 12, 13]⟩ : ByteArray)[i]'(by show i < 7; omega)).toNat : Int) != (s[k].toNat : Int)) = true := by rw [bne_iff_ne]; omega
          go_wp2
          go_round
          case rel => exact ⟨i + 1, by omega, by go_num⟩
          case measure => simp [RowKit.intOf]; omega
        · obtain rfl : i = Q.idxN s[k].toNat := by omega
          by_cases h7 : Q.idxN s[k].toNat < 7
          · have hse := stand_eq s[k] h7 (by exact h7) (by exact h7)
            have z1 : (Q.idxN s[k].toNat : Int) < 7 := by omega
            have z2 : ((((⟨#[34, 92, 8, 9, 10, 12, 13]⟩ : ByteArray)[Q.idxN s[k].toNat]'(by exact h7)).toNat : Int) != (s[k].toNat : Int)) = false := by rw [bne_eq_false_iff_eq]; omega
            have HE : Hid (Q.esc s[k] = [92, (⟨#[34, 92, 98, 116, 110, 102, 114]⟩ : ByteArray)[Q.idxN s[k].toNat]'(by exact h7)]) := by
              show _ = _
              rw [Q.esc_let _ hse.2.2, hse.2.1]
            clear hse
            generalize Q.idxN s[k].toNat = I at *
            go_wp2_with (at_builtin; refine wpl_app _ rfl (.tmp 40) (.tmp 43) rfl w.heap.size _ _ rfl (ho.alloc _) wr.heap.size 2 2 [92, (⟨#[34, 92, 98, 116, 110, 102, 114]⟩ : ByteArray)[I]'(by exact h7)] rfl rfl _ (0, 0) (heap_alloc_new wr _) rfl (by simp; omega) (by simp; omega) ?_; intro v' w1 ho1 b1)
            go_roundw
            case rel => exact ⟨k + 1, by omega, by go_num, by rw [HS.out, HE.out]; exact ho1, (bk.alloc hsk _).trans b1⟩
            case measure => simp [RowKit.intOf]; omega
          · have z1 : ¬ (Q.idxN s[k].toNat : Int) < 7 := by omega
            have hl := Q.idx_none s[k].toNat h7
            by_cases h32 : s[k].toNat < 32
            · have z3 : (s[k].toNat : Int) < 32 := by omega
              have HE : Hid (Q.esc s[k] = [92, 117, 48, 48, (⟨#[48, 49, 50, 51, 52, 53, 54, 55, 56, 57, 97, 98, 99, 100, 101, 102]⟩ : ByteArray)[s[k].toNat / 16]'(by show _ < 16; omega), (⟨#[48, 49, 50, 51, 52, 53, 54, 55, 56, 57, 97, 98, 99, 100, 101, 102]⟩ : ByteArray)[s[k].toNat % 16]'(by show _ < 16; omega)]) := by
                show _ = _
                rw [Q.esc_low _ hl h32, hexAt _ (by omega), hexAt _ (by omega)]
              clear hl
              have q1 : (0 : Int) ≤ (s[k].toNat : Int) / 16 := by omega
              have q2 : (s[k].toNat : Int) / 16 < 16 := by omega
              have q3 : (0 : Int) ≤ (s[k].toNat : Int) % 16 := by omega
              have q4 : (s[k].toNat : Int) % 16 < 16 := by omega
              have q5 : IntKind.u8.wrap ((s[k].toNat : Int) / 16) = ((s[k].toNat / 16 : Nat) : Int) := by rw [IntKind.wrap_u8]; omega
              have q6 : (s[k].toNat : Int).tmod 16 = ((s[k].toNat % 16 : Nat) : Int) := by rw [Int.tmod_eq_emod_of_nonneg (by omega)]; omega
              have q7 : s[k].toNat / 16 < 16 := by omega
              have q8 : s[k].toNat % 16 < 16 := by omega
              go_wp2_with fail
              go_region_law ((refine step_app _ (by rfl) (.tmp 48) (.tmp 55) (by rfl) w.heap.size _ _ (by rfl) (show OwnB w.heap.size _ (34 :: Q.body (s.data.toList.take k)) _ from ho.alloc _) wr.heap.size 6 6 [92, 117, 48, 48, (⟨#[48, 49, 50, 51, 52, 53, 54, 55, 56, 57, 97, 98, 99, 100, 101, 102]⟩ : ByteArray)[s[k].toNat / 16]'(by show _ < 16; omega), (⟨#[48, 49, 50, 51, 52, 53, 54, 55, 56, 57, 97, 98, 99, 100, 101, 102]⟩ : ByteArray)[s[k].toNat % 16]'(by show _ < 16; omega)] (by rfl) rfl (by decide) _ (0, 0) (by exact heap_alloc_new wr _) (by rfl) (by simp; omega) (by simp; omega) ?_; intro v' w1 ho1 b1))
              all_goals
                go_wp2
                go_roundw
                case rel => exact ⟨k + 1, by omega, by go_num, by rw [HS.out, HE.out]; exact ho1, ((bk.alloc hsk _).drew).trans b1⟩
                case measure => simp [RowKit.intOf]; omega
            · have z3 : ¬ (s[k].toNat : Int) < 32 := by omega
              have HE : Hid (Q.esc s[k] = [s[k]]) := Q.esc_same _ hl h32
              clear hl
              go_wp2_with (at_builtin; refine wpl_app _ rfl (.tmp 33) (.tmp 35) rfl w.heap.size _ _ rfl (ho.alloc _) wr.heap.size 1 1 [s[k]] rfl rfl _ (0, 0) (heap_alloc_new wr _) rfl (by simp; omega) (by simp; omega) ?_; intro v' w1 ho1 b1)
              go_roundw
              case rel => exact ⟨k + 1, by omega, by go_num, by rw [HS.out, HE.out]; exact ho1, (bk.alloc hsk _).trans b1⟩
              case measure => simp [RowKit.intOf]; omega
    · have y1 : ¬ (k : Int) < s.size := by omega
      rw [take_all s k (by omega)] at ho hbl
      go_wp2_with (at_builtin; refine wpl_app _ rfl (.tmp 57) (.tmp 58) rfl w.heap.size _ _ rfl (ho.alloc _) wr.heap.size 1 1 [34] rfl rfl _ (0, 0) (heap_alloc_new wr _) rfl (by simp; omega) (by simp; omega) ?_; intro v' w1 ho1 b1; have hcv := ho1.conv)
      go_ret2
      exact ⟨rfl, (bk.alloc hsk _).trans b1⟩
end Go.Proofs.YtpmhdcmmlkjjmaaGreatDoor
/- what Print reads beside its arguments; appendString. -/
set_option maxRecDepth 100000
namespace Go.Proofs.YtpmhdcmmlkjjmaaGreatDoor
open Go.RowKit Go.Lib
/-- what Print's calls read beside their arguments -/
structure Tdl (w : World) : Prop where
  u : Utf8Tabs 1 2 w
  l : LetTab w
  z : 9 < w.heap.size
  p : PowTab w
theorem Tdl.below {w w' : World} {B : Nat} (h : Tdl w) (hb : Below B w w') (hB : 9 < B) (hs : w.heap.size ≤ w'.heap.size) : Tdl w' :=
  ⟨utab_below h.u hb (by omega), h.l.below hb hB, Nat.lt_of_lt_of_le h.z hs, h.p.below hb hB⟩
set_option maxHeartbeats 1000000 in
set_option maxRecDepth 100000 in
theorem appstr_any (s : ByteArray) (B : Nat) (bv : Value) (bs : List UInt8) (w : World) (td : Tdl w) (hBw : B ≤ w.heap.size) (ho : OwnB B bv bs w) (hs : s.size ≤ 1048576) (hV : validD s.data.toList = true) (hlen : bs.length ≤ 1000000000) :
    Calls Tryz.prog 40 #[bv, .string s] w (ApPost B (bs ++ Q.qt s.data.toList) w) := by
  have c := quote_good s w (by omega) td.u td.l td.z hV
  have hq : (⟨(Q.qt s.data.toList).toArray⟩ : ByteArray).size ≤ 6291458 := by
    have h1 := Q.qt_length s.data.toList
    have h2 := Q.sz_le s.data.toList
    have h3 : s.data.toList.length = s.size := by rw [Array.length_toList]; rfl
    show (Q.qt s.data.toList).toArray.size ≤ _
    rw [List.size_toArray]
    omega
  have HD : Hid ((⟨(Q.qt s.data.toList).toArray⟩ : ByteArray).data.toList = Q.qt s.data.toList) := rfl
  generalize (⟨(Q.qt s.data.toList).toArray⟩ : ByteArray) = qs at *
  go_enter Tryz.func40, Tryz.ntmps40
  go_wp2_with fail
  refine c.mono ?_
  rintro e w1 ⟨rfl, b1⟩
  have ho1 := ho.below b1
  have hz := b1.size
  go_wp2_with (at_builtin; go_loud (refine wpl_str _ rfl (.tmp 12) (.tmp 13) rfl B bv bs rfl ho1 qs rfl (by omega) (by omega) ?_))
  intro v' w2 o2 b2
  go_wp2_with fail
  go_ret
  rw [HD.out] at o2
  exact ⟨_, rfl, o2, (b1.mono hBw).trans b2⟩
end Go.Proofs.YtpmhdcmmlkjjmaaGreatDoor
/- the table of letters, out of a row's list. -/
set_option maxRecDepth 100000
namespace Go.Proofs.YtpmhdcmmlkjjmaaGreatDoor
open Go.Shelf Go.Lib Go.ChangeShapes Go.RowKit
theorem let_eq : Rows.laid_freehold_quote_letterOf = Lib.tabData (H := Unit) .u8 letTab := by kernel_rfl
theorem letTab_of {W : World} (h : VarReads Tryz.prog W "freehold/quote.letterOf" Rows.laid_freehold_quote_letterOf) : LetTab W := by
  rw [let_eq] at h
  intro c hc
  obtain ⟨g, t, cs, fuel, p, hg, hty, hvar, hd⟩ := h
  obtain rfl : g = 4 := Option.some.inj (hg.symm.trans (by kernel_rfl))
  obtain rfl : t = 160 := Option.some.inj (hty.symm.trans (by kernel_rfl))
  have hcs := cells_of_tab Tryz.underlying160 Tryz.underlying5 cellsU5 cellsU160 hd
  have := World.var?_cell hg hvar c
  rw [this, ← Array.getElem?_toList, hcs]
  simp [letTab, hc]
theorem tdl_of {W : World} (t : Td W) (h : VarReads Tryz.prog W "freehold/quote.letterOf" Rows.laid_freehold_quote_letterOf) : Tdl W := ⟨t.u, letTab_of h, t.z, t.p⟩
end Go.Proofs.YtpmhdcmmlkjjmaaGreatDoor
/- the canonical text of a value; json.appendList, appendMap, appendValue. -/
namespace Go.Proofs.YtpmhdcmmlkjjmaaGreatDoor
open Go.RowKit Go.Lib
def joinB : List (List UInt8) → List UInt8
  | [] => []
  | x :: t => x ++ (t.map (fun y => 44 :: y)).flatten
theorem joinB_one (y : List UInt8) : joinB [y] = y := by simp [joinB]
theorem joinB_snoc (xs : List (List UInt8)) (y : List UInt8) (h : xs ≠ []) : joinB (xs ++ [y]) = joinB xs ++ 44 :: y := by
  cases xs with
  | nil => exact absurd rfl h
  | cons x t => simp [joinB]
mutual
def txtV : V → List UInt8
  | .mk k b i s l m =>
    if k = 1 then (if b = true then [116, 114, 117, 101] else [102, 97, 108, 115, 101])
    else if k = 2 then itoa i
    else if k = 3 then Q.qt s.data.toList
    else if k = 4 then 91 :: (joinB (txtL l) ++ [93])
    else if k = 5 then 123 :: (joinB (txtM m) ++ [125])
    else [110, 117, 108, 108]
def txtL : List V → List (List UInt8)
  | [] => []
  | x :: t => txtV x :: txtL t
def txtM : List Mem → List (List UInt8)
  | [] => []
  | (k, x) :: t => (Q.qt k.data.toList ++ 58 :: txtV x) :: txtM t
end
theorem txtL_eq : ∀ l : List V, txtL l = l.map txtV
  | [] => by rw [txtL]; rfl
  | x :: t => by rw [txtL, txtL_eq t]; rfl
def txtE (x : Mem) : List UInt8 := Q.qt x.1.data.toList ++ 58 :: txtV x.2
theorem txtM_eq : ∀ l : List Mem, txtM l = l.map txtE
  | [] => by rw [txtM]; rfl
  | (k, x) :: t => by rw [txtM, txtM_eq t]; rfl
/- strings and keys are UTF-8 -/
mutual
def prV : V → Prop
  | .mk k b i s l m => (In64 i ∧ s.size ≤ 1048576 ∧ 0 ≤ k ∧ k ≤ 5) ∧ validD s.data.toList = true ∧ prL l ∧ prM m
def prL : List V → Prop
  | [] => True
  | x :: t => prV x ∧ prL t
def prM : List Mem → Prop
  | [] => True
  | (k, x) :: t => ((validD k.data.toList = true ∧ k.size ≤ 1048576) ∧ prV x) ∧ prM t
end
theorem prL_mem : ∀ {l : List V}, prL l → ∀ x ∈ l, prV x
  | [], _, x, hx => by cases hx
  | y :: t, h, x, hx => by
    rw [prL] at h
    rcases List.mem_cons.1 hx with rfl | hx
    · exact h.1
    · exact prL_mem h.2 x hx
theorem prM_mem : ∀ {l : List Mem}, prM l → ∀ x ∈ l, (validD x.1.data.toList = true ∧ x.1.size ≤ 1048576) ∧ prV x.2
  | [], _, x, hx => by cases hx
  | (k, y) :: t, h, x, hx => by
    rw [prM] at h
    rcases List.mem_cons.1 hx with rfl | hx
    · exact h.1
    · exact prM_mem h.2 x hx
theorem join_len (xs : List (List UInt8)) : (joinB xs).length ≤ (xs.map List.length).sum + xs.length := by
  cases xs with
  | nil => simp [joinB]
  | cons x t =>
    simp only [joinB, List.length_append, List.length_flatten, List.map_map, List.map_cons, List.sum_cons, List.length_cons]
    have h : (t.map (List.length ∘ fun y => 44 :: y)).sum = (t.map List.length).sum + t.length := by
      induction t with
      | nil => rfl
      | cons y t ih => simp only [List.map_cons, List.sum_cons, Function.comp, List.length_cons] at ih ⊢; omega
    omega
theorem qt_len (s : ByteArray) : (Q.qt s.data.toList).length ≤ 2 + 6 * s.size := by
  have h1 := Q.qt_length s.data.toList
  have h2 := Q.sz_le s.data.toList
  have h3 : s.data.toList.length = s.size := by rw [Array.length_toList]; rfl
  omega
mutual
theorem txtV_len : ∀ v : V, prV v → (txtV v).length + 5 ≤ 40 * v.wt
  | .mk k b i s l m, h => by
    rw [prV] at h
    have h1 := txtL_len l h.2.2.1
    have h2 := txtM_len m h.2.2.2
    have h3 := join_len (txtL l)
    have h4 := join_len (txtM m)
    have h5 := itoa_length_le i h.1.1.1 h.1.1.2
    have h6 := qt_len s
    have h7 : (txtL l).length = l.length := by rw [txtL_eq, List.length_map]
    have h8 : (txtM m).length = m.length := by rw [txtM_eq, List.length_map]
    rw [txtV, V.wt]
    split
    · split <;> simp only [List.length_cons, List.length_nil] <;> omega
    split
    · omega
    split
    · omega
    split
    · simp only [List.length_cons, List.length_append, List.length_nil]; omega
    split
    · simp only [List.length_cons, List.length_append, List.length_nil]; omega
    · simp only [List.length_cons, List.length_nil]; omega
theorem txtL_len : ∀ l : List V, prL l → ((txtL l).map List.length).sum + l.length ≤ 40 * wtL l
  | [], _ => by simp [txtL, wtL]
  | x :: t, h => by
    rw [prL] at h
    have h1 := txtV_len x h.1
    have h2 := txtL_len t h.2
    simp only [txtL, wtL, List.map_cons, List.sum_cons, List.length_cons]
    omega
theorem txtM_len : ∀ l : List Mem, prM l → ((txtM l).map List.length).sum + l.length ≤ 40 * wtM l
  | [], _ => by simp [txtM, wtM]
  | (k, x) :: t, h => by
    rw [prM] at h
    have h1 := txtV_len x h.1.2
    have h2 := txtM_len t h.2
    have h3 := qt_len k
    simp only [txtM, wtM, List.map_cons, List.sum_cons, List.length_cons, List.length_append]
    omega
end
theorem prL_take : ∀ {l : List V} (j : Nat), prL l → prL (l.take j)
  | [], j, h => by rw [List.take_nil]; exact h
  | x :: t, 0, h => by rw [List.take_zero, prL]; trivial
  | x :: t, j + 1, h => by
    rw [prL] at h
    rw [List.take_succ_cons, prL]
    exact ⟨h.1, prL_take j h.2⟩
theorem prM_take : ∀ {l : List Mem} (j : Nat), prM l → prM (l.take j)
  | [], j, h => by rw [List.take_nil]; exact h
  | (k, x) :: t, 0, h => by rw [List.take_zero, prM]; trivial
  | (k, x) :: t, j + 1, h => by
    rw [prM] at h
    rw [List.take_succ_cons, prM]
    exact ⟨h.1, prM_take j h.2⟩
/-- what is written of the first j -/
def jL (l : List V) (j : Nat) : List UInt8 := joinB (txtL (l.take j))
def jM (l : List Mem) (j : Nat) : List UInt8 := joinB (txtM (l.take j))
theorem jL_zero (l : List V) : jL l 0 = [] := by rw [jL, List.take_zero, txtL]; rfl
theorem jM_zero (l : List Mem) : jM l 0 = [] := by rw [jM, List.take_zero, txtM]; rfl
theorem jL_one {l : List V} (h : 0 < l.length) : jL l 1 = txtV l[0] := by
  rw [jL, List.take_succ_eq_append_getElem h, txtL_eq]
  simp [joinB_one]
theorem jL_more {l : List V} {j : Nat} (h : j < l.length) (h0 : j ≠ 0) : jL l (j + 1) = (jL l j ++ [44]) ++ txtV l[j] := by
  rw [jL, jL, List.take_succ_eq_append_getElem h, txtL_eq, List.map_append, List.map_cons, List.map_nil, joinB_snoc _ _ (by
    intro e
    have := congrArg List.length e
    rw [List.length_map, List.length_take, List.length_nil] at this
    omega), txtL_eq]
  simp
theorem jM_one {l : List Mem} (h : 0 < l.length) : jM l 1 = txtE l[0] := by
  rw [jM, List.take_succ_eq_append_getElem h, txtM_eq]
  simp [joinB_one]
theorem jM_more {l : List Mem} {j : Nat} (h : j < l.length) (h0 : j ≠ 0) : jM l (j + 1) = (jM l j ++ [44]) ++ txtE l[j] := by
  rw [jM, jM, List.take_succ_eq_append_getElem h, txtM_eq, List.map_append, List.map_cons, List.map_nil, joinB_snoc _ _ (by
    intro e
    have := congrArg List.length e
    rw [List.length_map, List.length_take, List.length_nil] at this
    omega), txtM_eq]
  simp
theorem wtL_take (l : List V) (j : Nat) : wtL (l.take j) ≤ wtL l := by have := wtL_app (l.take j) (l.drop j); rw [List.take_append_drop] at this; omega
theorem wtM_take (l : List Mem) (j : Nat) : wtM (l.take j) ≤ wtM l := by have := wtM_app (l.take j) (l.drop j); rw [List.take_append_drop] at this; omega
theorem jL_len {l : List V} (j : Nat) (h : prL l) : (jL l j).length ≤ 40 * wtL (l.take j) := by
  have h1 := txtL_len _ (prL_take j h)
  have h2 := join_len (txtL (l.take j))
  have h3 : (txtL (l.take j)).length = (l.take j).length := by rw [txtL_eq, List.length_map]
  rw [jL]
  omega
theorem jM_len {l : List Mem} (j : Nat) (h : prM l) : (jM l j).length ≤ 40 * wtM (l.take j) := by
  have h1 := txtM_len _ (prM_take j h)
  have h2 := join_len (txtM (l.take j))
  have h3 : (txtM (l.take j)).length = (l.take j).length := by rw [txtM_eq, List.length_map]
  rw [jM]
  omega
end Go.Proofs.YtpmhdcmmlkjjmaaGreatDoor
/- what a value that is taken has: strings and keys that are UTF-8, and no more weight than there may be. -/
namespace Go.Proofs.YtpmhdcmmlkjjmaaGreatDoor
open Go.RowKit Go.Lib
theorem entF_wt {D n y d lv : Nat} {g : Bool} {z : Nat} (h : (entF D n y d lv g z).1 = 0) : (entF D n y d lv g z).2.1 + (entF D n y d lv g z).2.2.1 = n + y + 1 + z := by
  unfold entF at *
  split at h
  · simp at h
  split at h
  · simp at h
  split at h
  · simp at h
  split at h
  · simp at h
  · rename_i h1 h2 h3 h4
    rw [if_neg h1, if_neg h2, if_neg h3, if_neg h4]
    show n + 1 + (y + z) = _
    omega
theorem entF_z {D n y d lv : Nat} {g : Bool} {z : Nat} (h : (entF D n y d lv g z).1 = 0) : z ≤ 1048576 ∧ g = true := by
  unfold entF at h
  split at h
  · simp at h
  split at h
  · simp at h
  split at h
  · simp at h
  split at h
  · simp at h
  · rename_i h1 h2 h3 h4
    exact ⟨by omega, by cases g <;> simp_all⟩
mutual
theorem chkV_wt (D : Nat) : ∀ (v : V) (lv : Nat) (st : St), (chkV D v lv st).1 = 0 → (chkV D v lv st).2.1 + (chkV D v lv st).2.2.1 = st.1 + st.2.1 + v.wt
  | .mk k b i s l m, lv, st, h => by
    rw [chkV] at h ⊢
    by_cases h1 : (entF D st.1 st.2.1 st.2.2 lv (goodB k b i s l.length m) (s.size + keyB m)).1 = 0
    · have e1 := entF_wt h1
      simp only [h1, if_true] at h ⊢
      by_cases h2 : (chkL D l (lv + 1) (entF D st.1 st.2.1 st.2.2 lv (goodB k b i s l.length m) (s.size + keyB m)).2).1 = 0
      · simp only [h2, if_true] at h ⊢
        have a1 := chkM_wt D m (lv + 1) _ h
        have a2 := chkL_wt D l (lv + 1) _ h2
        rw [V.wt]
        omega
      · simp only [h2, if_false] at h
    · simp only [h1, if_false] at h
theorem chkL_wt (D : Nat) : ∀ (l : List V) (lv : Nat) (st : St), (chkL D l lv st).1 = 0 → (chkL D l lv st).2.1 + (chkL D l lv st).2.2.1 = st.1 + st.2.1 + wtL l
  | [], lv, st, h => by rw [chkL, wtL]; rfl
  | x :: t, lv, st, h => by
    rw [chkL] at h ⊢
    by_cases h1 : (chkV D x lv st).1 = 0
    · rw [if_pos h1] at h ⊢
      have a1 := chkL_wt D t lv _ h
      have a2 := chkV_wt D x lv st h1
      rw [wtL]
      omega
    · rw [if_neg h1] at h
      exact absurd h h1
theorem chkM_wt (D : Nat) : ∀ (l : List Mem) (lv : Nat) (st : St), (chkM D l lv st).1 = 0 → (chkM D l lv st).2.1 + (chkM D l lv st).2.2.1 + keyB l = st.1 + st.2.1 + wtM l
  | [], lv, st, h => by rw [chkM, wtM, keyB]
  | (k, x) :: t, lv, st, h => by
    rw [chkM] at h ⊢
    by_cases h1 : (chkV D x lv st).1 = 0
    · rw [if_pos h1] at h ⊢
      have a1 := chkM_wt D t lv _ h
      have a2 := chkV_wt D x lv st h1
      simp only [wtM, keyB]
      omega
    · rw [if_neg h1] at h
      exact absurd h h1
end
theorem wt_of_chkD {D : Nat} {v : V} (h : (chkV D v 0 (0, 0, 0)).1 = 0) : v.wt ≤ 1114112 := by
  have a1 := chkV_wt D v 0 (0, 0, 0) h
  have a2 := chkV_bnd D v 0 (0, 0, 0) ⟨by simp, by simp, by simp⟩ h
  have a3 := a2.n
  have a4 := a2.y
  simp only at a1
  omega
theorem key_mem : ∀ {m : List Mem} {x : Mem}, x ∈ m → x.1.size ≤ keyB m
  | y :: t, x, h => by
    rcases List.mem_cons.1 h with rfl | h
    · rw [keyB]; omega
    · have := key_mem h; rw [keyB]; omega
theorem rise_key {m : List Mem} (h : riseB m = true) : ∀ x ∈ m, validD x.1.data.toList = true := by
  intro x hx
  simp only [riseB, List.all_eq_true, List.mem_range] at h
  obtain ⟨j, hj, rfl⟩ := List.getElem_of_mem hx
  have h1 := h j hj
  rw [okAt, Bool.and_eq_true, keyAt_eq hj] at h1
  exact h1.1
mutual
theorem prv_chk (D : Nat) : ∀ (v : V) (lv : Nat) (st : St) (R : Bool) (w : World) (S : Nat → Prop) (cs : List Value), (chkV D v lv st).1 = 0 → v.lies R w S cs → prV v
  | .mk k b i s l m, lv, st, R, w, S, cs, h, hl => by
    rw [chkV] at h
    rw [V.lies] at hl
    obtain ⟨al, cl, bl, ol, am, cm, bm, om, rfl, hk, hi, hs, hal, ham, hl1, hm1, _⟩ := hl
    rw [prV]
    by_cases h1 : (entF D st.1 st.2.1 st.2.2 lv (goodB k b i s l.length m) (s.size + keyB m)).1 = 0
    · simp only [h1, if_true] at h
      obtain ⟨e1, e2⟩ := entF_z h1
      rw [goodB, Bool.and_eq_true, Bool.and_eq_true] at e2
      by_cases h2 : (chkL D l (lv + 1) (entF D st.1 st.2.1 st.2.2 lv (goodB k b i s l.length m) (s.size + keyB m)).2).1 = 0
      · simp only [h2, if_true] at h
        have e3 := of_decide_eq_true e2.1.1
        exact ⟨⟨hi, by omega, e3.1, e3.2.1⟩, e2.1.2, prl_chk D l (lv + 1) _ R w S bl ol h2 hl1, prm_chk D m (lv + 1) _ R w S bm om h hm1 (fun x hx => ⟨rise_key e2.2 x hx, by have := key_mem hx; omega⟩)⟩
      · simp only [h2, if_false] at h
    · simp only [h1, if_false] at h
theorem prl_chk (D : Nat) : ∀ (l : List V) (lv : Nat) (st : St) (R : Bool) (w : World) (S : Nat → Prop) (b o : Nat), (chkL D l lv st).1 = 0 → liesL R w S l b o → prL l
  | [], lv, st, R, w, S, b, o, h, hl => by rw [prL]; trivial
  | x :: t, lv, st, R, w, S, b, o, h, hl => by
    rw [chkL] at h
    rw [liesL] at hl
    obtain ⟨_, ⟨cs, _, hx⟩, ht⟩ := hl
    rw [prL]
    by_cases h1 : (chkV D x lv st).1 = 0
    · rw [if_pos h1] at h
      exact ⟨prv_chk D x lv st R w S cs h1 hx, prl_chk D t lv _ R w S b _ h ht⟩
    · rw [if_neg h1] at h
      exact absurd h h1
theorem prm_chk (D : Nat) : ∀ (l : List Mem) (lv : Nat) (st : St) (R : Bool) (w : World) (S : Nat → Prop) (b o : Nat), (chkM D l lv st).1 = 0 → liesM R w S l b o → (∀ x ∈ l, validD x.1.data.toList = true ∧ x.1.size ≤ 1048576) → prM l
  | [], lv, st, R, w, S, b, o, h, hl, hk => by rw [prM]; trivial
  | (k, x) :: t, lv, st, R, w, S, b, o, h, hl, hk => by
    rw [chkM] at h
    rw [liesM] at hl
    obtain ⟨_, ⟨_, cs, _, hx⟩, ht⟩ := hl
    rw [prM]
    by_cases h1 : (chkV D x lv st).1 = 0
    · rw [if_pos h1] at h
      exact ⟨⟨hk (k, x) (List.mem_cons_self ..), prv_chk D x lv st R w S cs h1 hx⟩, prm_chk D t lv _ R w S b _ h ht (fun y hy => hk y (List.mem_cons_of_mem _ hy))⟩
    · rw [if_neg h1] at h
      exact absurd h h1
end
theorem chkE_pr {R : Bool} {w : World} {S : Nat → Prop} {cs : List Value} {v : V} {depth : Int} (h : chkE v depth = 0) (hl : v.lies R w S cs) : prV v ∧ v.wt ≤ 1114112 := by
  rw [chkE] at h
  split at h
  · cases h
  · exact ⟨prv_chk _ v 0 _ R w S cs h hl, wt_of_chkD h⟩
end Go.Proofs.YtpmhdcmmlkjjmaaGreatDoor
/- what is read is good, and is written no longer than it stood there: plain. -/
set_option maxRecDepth 100000
namespace Go.Proofs.YtpmhdcmmlkjjmaaGreatDoor
open Go.RowKit Go.Lib
mutual
/-- how many values -/
def ndV : V → Nat
  | .mk _ _ _ _ l m => 1 + ndL l + ndM m
def ndL : List V → Nat
  | [] => 0
  | x :: t => ndV x + ndL t
def ndM : List Mem → Nat
  | [] => 0
  | (_, x) :: t => ndV x + ndM t
end
mutual
/-- how many bytes in strings -/
def byV : V → Nat
  | .mk _ _ _ s l m => s.size + keyB m + byL l + byM m
def byL : List V → Nat
  | [] => 0
  | x :: t => byV x + byL t
def byM : List Mem → Nat
  | [] => 0
  | (_, x) :: t => byV x + byM t
end
mutual
/-- good, and no deeper than D, if it stands at this level -/
def okD (D : Nat) : V → Nat → Prop
  | .mk k b i s l m, lv => lv ≤ D ∧ goodB k b i s l.length m = true ∧ In64 i ∧ okDL D l (lv + 1) ∧ okDM D m (lv + 1)
def okDL (D : Nat) : List V → Nat → Prop
  | [], _ => True
  | x :: t, lv => okD D x lv ∧ okDL D t lv
def okDM (D : Nat) : List Mem → Nat → Prop
  | [], _ => True
  | (_, x) :: t, lv => okD D x lv ∧ okDM D t lv
end
theorem okDL_iff {D : Nat} : ∀ {l : List V} {lv : Nat}, okDL D l lv ↔ ∀ x ∈ l, okD D x lv
  | [], lv => by simp [okDL]
  | x :: t, lv => by rw [okDL, okDL_iff]; simp
theorem okDM_iff {D : Nat} : ∀ {l : List Mem} {lv : Nat}, okDM D l lv ↔ ∀ x ∈ l, okD D x.2 lv
  | [], lv => by simp [okDM]
  | (k, x) :: t, lv => by rw [okDM, okDM_iff]; simp
theorem ndM_perm {a b : List Mem} (h : a.Perm b) : ndM a = ndM b := by
  induction h with
  | nil => rfl
  | cons x _ ih => obtain ⟨k, x⟩ := x; simp only [ndM]; omega
  | swap x y l => obtain ⟨k, x⟩ := x; obtain ⟨k', y⟩ := y; simp only [ndM]; omega
  | trans _ _ h1 h2 => omega
theorem byM_perm {a b : List Mem} (h : a.Perm b) : byM a = byM b := by
  induction h with
  | nil => rfl
  | cons x _ ih => obtain ⟨k, x⟩ := x; simp only [byM]; omega
  | swap x y l => obtain ⟨k, x⟩ := x; obtain ⟨k', y⟩ := y; simp only [byM]; omega
  | trans _ _ h1 h2 => omega
theorem keyB_perm {a b : List Mem} (h : a.Perm b) : keyB a = keyB b := by
  induction h with
  | nil => rfl
  | cons x _ ih => simp only [keyB]; omega
  | swap x y l => simp only [keyB]; omega
  | trans _ _ h1 h2 => omega
/-- the text of the members, with a byte behind each -/
def lenM : List Mem → Nat
  | [] => 0
  | x :: t => (txtE x).length + 1 + lenM t
def lenL : List V → Nat
  | [] => 0
  | x :: t => (txtV x).length + 1 + lenL t
theorem lenM_perm {a b : List Mem} (h : a.Perm b) : lenM a = lenM b := by
  induction h with
  | nil => rfl
  | cons x _ ih => simp only [lenM]; omega
  | swap x y l => simp only [lenM]; omega
  | trans _ _ h1 h2 => omega
mutual
theorem chk_ok (D : Nat) : ∀ (v : V) (lv : Nat) (st : St), okD D v lv → st.1 + ndV v ≤ 65536 → st.2.1 + byV v ≤ 1048576 → (chkV D v lv st).1 = 0 ∧ (chkV D v lv st).2.1 = st.1 + ndV v ∧ (chkV D v lv st).2.2.1 = st.2.1 + byV v
  | .mk k b i s l m, lv, st, h, hn, hy => by
    rw [okD] at h
    rw [ndV] at hn
    rw [byV] at hy
    have e : entF D st.1 st.2.1 st.2.2 lv (goodB k b i s l.length m) (s.size + keyB m) = (0, st.1 + 1, st.2.1 + (s.size + keyB m), max st.2.2 lv) := by
      rw [entF, if_neg (by omega), if_neg (by omega), if_neg (by rw [h.2.1]; simp), if_neg (by omega)]
    rw [chkV, e]
    dsimp only
    rw [if_pos rfl]
    have a1 := chkl_ok D l (lv + 1) (st.1 + 1, st.2.1 + (s.size + keyB m), max st.2.2 lv) h.2.2.2.1 (by dsimp only; omega) (by dsimp only; omega)
    rw [if_pos a1.1]
    have a2 := chkm_ok D m (lv + 1) _ h.2.2.2.2 (by rw [a1.2.1]; dsimp only; omega) (by rw [a1.2.2]; dsimp only; omega)
    refine ⟨a2.1, ?_, ?_⟩
    · rw [a2.2.1, a1.2.1, ndV]; dsimp only; omega
    · rw [a2.2.2, a1.2.2, byV]; dsimp only; omega
theorem chkl_ok (D : Nat) : ∀ (l : List V) (lv : Nat) (st : St), okDL D l lv → st.1 + ndL l ≤ 65536 → st.2.1 + byL l ≤ 1048576 → (chkL D l lv st).1 = 0 ∧ (chkL D l lv st).2.1 = st.1 + ndL l ∧ (chkL D l lv st).2.2.1 = st.2.1 + byL l
  | [], lv, st, h, hn, hy => by rw [chkL, ndL, byL]; exact ⟨rfl, rfl, rfl⟩
  | x :: t, lv, st, h, hn, hy => by
    rw [okDL] at h
    rw [ndL] at hn
    rw [byL] at hy
    have a1 := chk_ok D x lv st h.1 (by omega) (by omega)
    rw [chkL, if_pos a1.1]
    have a2 := chkl_ok D t lv _ h.2 (by rw [a1.2.1]; omega) (by rw [a1.2.2]; omega)
    refine ⟨a2.1, ?_, ?_⟩
    · rw [a2.2.1, a1.2.1, ndL]; omega
    · rw [a2.2.2, a1.2.2, byL]; omega
theorem chkm_ok (D : Nat) : ∀ (l : List Mem) (lv : Nat) (st : St), okDM D l lv → st.1 + ndM l ≤ 65536 → st.2.1 + byM l ≤ 1048576 → (chkM D l lv st).1 = 0 ∧ (chkM D l lv st).2.1 = st.1 + ndM l ∧ (chkM D l lv st).2.2.1 = st.2.1 + byM l
  | [], lv, st, h, hn, hy => by rw [chkM, ndM, byM]; exact ⟨rfl, rfl, rfl⟩
  | (_, x) :: t, lv, st, h, hn, hy => by
    rw [okDM] at h
    rw [ndM] at hn
    rw [byM] at hy
    have a1 := chk_ok D x lv st h.1 (by omega) (by omega)
    rw [chkM, if_pos a1.1]
    have a2 := chkm_ok D t lv _ h.2 (by rw [a1.2.1]; omega) (by rw [a1.2.2]; omega)
    refine ⟨a2.1, ?_, ?_⟩
    · rw [a2.2.1, a1.2.1, ndM]; omega
    · rw [a2.2.2, a1.2.2, byM]; omega
end
/-- a number is written no longer than it stood there -/
theorem dig_len {u m : Nat} (h : u < 10 ^ m) (hm : 1 ≤ m) : (decDigits u).length ≤ m := by
  rw [decDigits_length]
  rcases Nat.lt_or_ge u 10 with q | q
  · rw [nDigits_small q]; exact hm
  · rcases Nat.lt_or_ge m (nDigits u) with r | r
    · exfalso
      have h1 := nDigits_pos u
      obtain ⟨k, hk⟩ : ∃ k, nDigits u = k + 1 := ⟨nDigits u - 1, by omega⟩
      have h2 : 10 ^ k ≤ u := by
        rcases Nat.lt_or_ge u (10 ^ k) with z | z
        · exfalso
          have : ∀ k u, u < 10 ^ k → 1 ≤ k → nDigits u ≤ k := by
            intro k
            induction k with
            | zero => intro u _ h; omega
            | succ k ih =>
              intro u hu _
              rcases Nat.lt_or_ge u 10 with a | a
              · rw [nDigits_small a]; omega
              · rw [nDigits_big (by omega)]
                have h5 : u / 10 < 10 ^ k := by
                  rw [Nat.pow_succ] at hu
                  omega
                rcases Nat.eq_zero_or_pos k with b | b
                · subst b; simp at h5; omega
                · have := ih (u / 10) h5 b; omega
          rcases Nat.eq_zero_or_pos k with b | b
          · subst b; simp at z; subst z; rw [nDigits_small (by omega)] at hk; omega
          · have := this k u z b; omega
        · exact z
      have h3 : 10 ^ m ≤ 10 ^ k := Nat.pow_le_pow_right (by decide) (by omega)
      omega
    · exact r
theorem itoa_len {r : List UInt8} {v : Int} (h : intJ r = some v) : (itoa v).length ≤ r.length ∧ 1 ≤ r.length := by
  rw [int_doc, dinJ] at h
  have core : ∀ (d : List UInt8) (u : Nat), uJ d = some u → u < 10 ^ d.length ∧ 1 ≤ d.length := fun d u hu => by
    rw [uJ] at hu
    split at hu
    · cases hu
    · rename_i hc
      have h1 := dv_top hu
      refine ⟨by omega, ?_⟩
      rcases Nat.eq_zero_or_pos d.length with q | q
      · exact absurd (.inl (List.length_eq_zero_iff.1 q)) hc
      · exact q
  have fin : ∀ (minus : Bool) (o : Option Nat), finJ minus o = some v → ∃ u, o = some u ∧ (v = (u : Int) ∨ (minus = true ∧ v = -(u : Int))) := fun minus o ho => by
    cases o with
    | none => cases ho
    | some u =>
      refine ⟨u, rfl, ?_⟩
      rw [finJ] at ho
      split at ho
      · rename_i q; cases ho; right; refine ⟨q.1, ?_⟩; rw [q.2]; rfl
      · split at ho
        · cases ho
        · cases ho
          by_cases hm : minus = true
          · right; exact ⟨hm, by rw [if_pos hm]⟩
          · left; rw [if_neg hm]
  split at h
  · rename_i hh
    obtain ⟨u, hu, hv⟩ := fin true _ h
    obtain ⟨h1, h2⟩ := core _ u hu
    have hl : r.length = r.tail.length + 1 := by
      cases r with
      | nil => cases hh
      | cons c t => simp
    have h3 := dig_len h1 h2
    refine ⟨?_, by omega⟩
    rcases hv with rfl | ⟨_, rfl⟩
    · rw [itoa_nonneg]; omega
    · rcases Nat.eq_zero_or_pos u with q | q
      · subst q
        have : (itoa (-((0 : Nat) : Int))) = decDigits 0 := by rw [show (-((0 : Nat) : Int)) = ((0 : Nat) : Int) from rfl, itoa_nonneg]
        rw [this]; omega
      · rw [itoa_neg u q, List.length_cons]; omega
  · obtain ⟨u, hu, hv⟩ := fin false _ h
    obtain ⟨h1, h2⟩ := core _ u hu
    have h3 := dig_len h1 h2
    refine ⟨?_, h2⟩
    rcases hv with rfl | ⟨q, _⟩
    · rw [itoa_nonneg]; exact h3
    · cases q
end Go.Proofs.YtpmhdcmmlkjjmaaGreatDoor
