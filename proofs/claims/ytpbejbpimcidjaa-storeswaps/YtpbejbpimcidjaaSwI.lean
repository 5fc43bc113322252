/- keys: those with a prefix, from one on, rising. -/
import Derived.Test.YtpbejbpimcidjaaSwH
import Derived.Shelf.Strings.Prefix
import Derived.Shelf.Sort.Plain
import Derived.Sort.KeysCollected
import Derived.Sort.OwnSorted
import Derived.Maps.RangeWalk
import Derived.Maps.AppendAt
set_option linter.unusedSimpArgs false
set_option linter.unusedVariables false
namespace Go.Proofs
open Go.Shelf Go.RowKit
def Try.lays99_ren : Go.Shelf.Ren := ⟨fun | 99 => 38 | 206 => 41 | n => n, fun | 3 => 3 | 4 => 4 | 9 => 9 | n => n, fun  | n => n⟩
set_option maxRecDepth 100000 in
theorem Try.lays99 : Go.Proofs.Lays.n99 Try.prog Try.lays99_ren := {
  mixed := by kernel_rfl
  f99 := Try.func38.trans (congrArg some (by kernel_rfl))
  f206 := Try.func41.trans (congrArg some (by kernel_rfl))
  t3 := Try.underlying3
  a3 := Try.isAgg3
  z3 := Try.sizeOf3
  v3 := Try.zeroValue3
  t4 := Try.underlying4
  a4 := Try.isAgg4
  z4 := Try.sizeOf4
  v4 := Try.zeroValue4
  t9 := Try.underlying9
  a9 := Try.isAgg9
  z9 := Try.sizeOf9
  v9 := Try.zeroValue9 }
def Try.lays190_ren : Go.Shelf.Ren := ⟨fun | 125 => 43 | 128 => 53 | 129 => 54 | 190 => 39 | 258 => 42 | 302 => 44 | 303 => 45 | 304 => 46 | 305 => 47 | 306 => 48 | 307 => 49 | 308 => 50 | 309 => 51 | 310 => 52 | 329 => 56 | 330 => 57 | 333 => 55 | 334 => 58 | 335 => 59 | 336 => 60 | 344 => 61 | n => n, fun | 0 => 0 | 3 => 3 | 4 => 4 | 5 => 5 | 9 => 9 | 31 => 85 | 46 => 96 | 51 => 106 | 53 => 108 | 131 => 103 | 182 => 98 | 183 => 99 | 218 => 109 | 222 => 113 | 228 => 116 | 229 => 117 | n => n, fun  | n => n⟩
set_option maxRecDepth 100000 in
theorem Try.lays190 : Go.Proofs.Lays.n190 Try.prog Try.lays190_ren := {
  mixed := by kernel_rfl
  f125 := Try.func43.trans (congrArg some (by kernel_rfl))
  f128 := Try.func53.trans (congrArg some (by kernel_rfl))
  f129 := Try.func54.trans (congrArg some (by kernel_rfl))
  f190 := Try.func39.trans (congrArg some (by kernel_rfl))
  f258 := Try.func42.trans (congrArg some (by kernel_rfl))
  f302 := Try.func44.trans (congrArg some (by kernel_rfl))
  f303 := Try.func45.trans (congrArg some (by kernel_rfl))
  f304 := Try.func46.trans (congrArg some (by kernel_rfl))
  f305 := Try.func47.trans (congrArg some (by kernel_rfl))
  f306 := Try.func48.trans (congrArg some (by kernel_rfl))
  f307 := Try.func49.trans (congrArg some (by kernel_rfl))
  f308 := Try.func50.trans (congrArg some (by kernel_rfl))
  f309 := Try.func51.trans (congrArg some (by kernel_rfl))
  f310 := Try.func52.trans (congrArg some (by kernel_rfl))
  f329 := Try.func56.trans (congrArg some (by kernel_rfl))
  f330 := Try.func57.trans (congrArg some (by kernel_rfl))
  f333 := Try.func55.trans (congrArg some (by kernel_rfl))
  f334 := Try.func58.trans (congrArg some (by kernel_rfl))
  f335 := Try.func59.trans (congrArg some (by kernel_rfl))
  f336 := Try.func60.trans (congrArg some (by kernel_rfl))
  f344 := Try.func61.trans (congrArg some (by kernel_rfl))
  t0 := Try.underlying0
  a0 := Try.isAgg0
  z0 := Try.sizeOf0
  v0 := Try.zeroValue0
  t3 := Try.underlying3
  a3 := Try.isAgg3
  z3 := Try.sizeOf3
  v3 := Try.zeroValue3
  t4 := Try.underlying4
  a4 := Try.isAgg4
  z4 := Try.sizeOf4
  v4 := Try.zeroValue4
  t5 := Try.underlying5
  a5 := Try.isAgg5
  z5 := Try.sizeOf5
  v5 := Try.zeroValue5
  t9 := Try.underlying9
  a9 := Try.isAgg9
  z9 := Try.sizeOf9
  v9 := Try.zeroValue9
  t31 := Try.underlying85
  a31 := Try.isAgg85
  z31 := Try.sizeOf85
  v31 := Try.zeroValue85
  t46 := Try.underlying96
  a46 := Try.isAgg96
  z46 := Try.sizeOf96
  v46 := Try.zeroValue96
  t51 := Try.underlying106
  a51 := Try.isAgg106
  z51 := Try.sizeOf106
  v51 := Try.zeroValue106
  t53 := Try.underlying108
  a53 := Try.isAgg108
  z53 := Try.sizeOf108
  v53 := Try.zeroValue108
  t131 := Try.underlying103
  a131 := Try.isAgg103
  z131 := Try.sizeOf103
  v131 := Try.zeroValue103
  t182 := Try.underlying98
  a182 := Try.isAgg98
  z182 := Try.sizeOf98
  v182 := Try.zeroValue98
  t183 := Try.underlying99
  a183 := Try.isAgg99
  z183 := Try.sizeOf99
  v183 := Try.zeroValue99
  t218 := Try.underlying109
  a218 := Try.isAgg109
  z218 := Try.sizeOf109
  v218 := Try.zeroValue109
  t222 := Try.underlying113
  a222 := Try.isAgg113
  z222 := Try.sizeOf113
  v222 := Try.zeroValue113
  t228 := Try.underlying116
  a228 := Try.isAgg116
  z228 := Try.sizeOf116
  v228 := Try.zeroValue116
  t229 := Try.underlying117
  a229 := Try.isAgg117
  z229 := Try.sizeOf117
  v229 := Try.zeroValue117 }


namespace Ytpbejbpimcidjaa
open Go Go.Lib Go.RowKit Go.Maps Go.Sort

theorem ins_nil (p : Option Addr) (cap : Nat) (w : World) :
    Calls Try.prog 44 #[.slice p 0 cap, .int .i64 0, .int .i64 0] w fun e w' => e = .returned (.tuple #[]) ∧ w' = w := by
  go_enter Try.func44, Try.ntmps44
  go_wp2
  refine wp_loop_rounds 1 ?_
  rw [rounds_succ]
  go_wp2
  go_end0
  exact ⟨rfl, rfl⟩
set_option maxRecDepth 100000 in
theorem pdq_nil (p : Option Addr) (cap : Nat) (w : World) :
    Calls Try.prog 42 #[.slice p 0 cap, .int .i64 0, .int .i64 0, .int .i64 0] w fun e w' => e = .returned (.tuple #[]) ∧ w' = w := by
  go_enter Try.func42, Try.ntmps42
  go_wp2
  refine wp_loop_rounds 1 ?_
  rw [rounds_succ]
  go_wp2_with (first | (go_at_call 44; refine (ins_nil p cap _).mono ?_; rintro e w' ⟨rfl, rfl⟩))
  refine bodyPost_ret (results_none rfl _ _ _) rfl ?_
  exact ⟨rfl, rfl⟩
set_option maxRecDepth 100000 in
theorem len64_nil (w : World) : Calls Try.prog 54 #[.int .u64 0] w fun e w' => e = .returned (.int .i64 0) ∧ w' = w := by
  go_enter Try.func54, Try.ntmps54
  go_wp2_with fail
  go_ret
  refine ⟨?_, rfl⟩
  show Ending.returned (Value.int .i64 (wrap64 (wrap64 (len8 0)))) = _
  kernel_rfl
set_option maxRecDepth 100000 in
theorem len_nil (w : World) : Calls Try.prog 43 #[.int .u64 0] w fun e w' => e = .returned (.int .i64 0) ∧ w' = w := by
  go_enter Try.func43, Try.ntmps43
  go_wp2_with fail
  refine (len64_nil _).mono ?_
  rintro e w' ⟨rfl, rfl⟩
  go_wp2_with fail
  go_ret
  exact ⟨rfl, rfl⟩
set_option maxRecDepth 100000 in
theorem sort_nil (p : Option Addr) (cap : Nat) (w : World) :
    Calls Try.prog 39 #[.slice p 0 cap] w fun e w' => e = .returned (.tuple #[]) ∧ w' = w := by
  go_enter Try.func39, Try.ntmps39
  go_wp2_with (first
    | (go_at_call 43; refine (len_nil _).mono ?_; rintro e w' ⟨rfl, rfl⟩)
    | (go_at_call 42; refine (pdq_nil p cap _).mono ?_; rintro e w' ⟨rfl, rfl⟩))
  go_end0
  exact ⟨rfl, rfl⟩
/-- a key that is asked for -/
def okK (pre fr : ByteArray) (x : List UInt8) : Bool := hasPrefix x pre.data.toList && !(Op.bytesLess x fr.toList)
/-- the keys met so far that are asked for -/
def Coll (pre fr : ByteArray) (D0 : DataW Unit) (left : Lit → Bool) (ss : List (List UInt8)) : Prop := ss.Nodup ∧ ∀ x, x ∈ ss ↔ (has D0 (.string x) = true ∧ left (.string x) = false ∧ okK pre fr x = true)
theorem Coll.start (pre fr : ByteArray) (D0 : DataW Unit) : Coll pre fr D0 (has D0) [] := ⟨List.nodup_nil, fun x => by cases h : has D0 (.string x) <;> simp⟩
theorem Coll.skip {pre fr : ByteArray} {D0 : DataW Unit} {left : Lit → Bool} {ss : List (List UInt8)} (h : Coll pre fr D0 left ss) {x : List UInt8} (hno : okK pre fr x = false) : Coll pre fr D0 (fun z => left z && !z.sameKey (.string x)) ss := by
  refine ⟨h.1, fun y => ?_⟩
  rw [h.2 y]
  by_cases hy : y = x
  · subst hy; simp [hno]
  · have e : (Lit.string y).sameKey (.string x) = false := sameKey_ne (fun q => hy (Lit.string.inj q))
    simp [e]
theorem Coll.step {pre fr : ByteArray} {D0 : DataW Unit} {left : Lit → Bool} {ss : List (List UInt8)} (h : Coll pre fr D0 left ss) {x : List UInt8} {y : DataW Unit} (hyes : okK pre fr x = true) (hlk : left (.string x) = true) (hat : ∀ zd, D0.atKey (.string x) zd = y) : Coll pre fr D0 (fun z => left z && !z.sameKey (.string x)) (ss ++ [x]) := by
  have hhas : has D0 (.string x) = true := has_true_of_atKey hat
  have hnew : x ∉ ss := fun hx => by have := ((h.2 x).1 hx).2.1; rw [hlk] at this; cases this
  refine ⟨List.nodup_append.2 ⟨h.1, by simp, fun a ha b hb => by simp at hb; subst hb; exact fun e => hnew (e ▸ ha)⟩, fun y => ?_⟩
  rw [List.mem_append, h.2 y, List.mem_singleton]
  by_cases hy : y = x
  · subst hy
    have e : (Lit.string y).sameKey (.string y) = true := by simp [Lit.sameKey]
    simp [e, hhas, hyes]
  · have e : (Lit.string y).sameKey (.string x) = false := sameKey_ne (fun q => hy (Lit.string.inj q))
    simp [e, hy]
/-- the keys that are asked for, rising -/
def KS (pre fr : ByteArray) (D0 : DataW Unit) (ss : List (List UInt8)) : Prop := ss.Nodup ∧ (∀ x, x ∈ ss ↔ (has D0 (.string x) = true ∧ okK pre fr x = true)) ∧ ss.Pairwise (· ≤ ·)
theorem Coll.sorted {pre fr : ByteArray} {D0 : DataW Unit} {left : Lit → Bool} {ss : List (List UInt8)} (h : Coll pre fr D0 left ss) (hl : ∀ k, left k = false) : KS pre fr D0 (ss.mergeSort leB) := by
  have tr : ∀ a b c : List UInt8, leB a b = true → leB b c = true → leB a c = true := fun a b c h1 h2 => by simp only [leB, decide_eq_true_eq] at *; exact List.le_trans h1 h2
  have tt : ∀ a b : List UInt8, (leB a b || leB b a) = true := fun a b => by simp only [leB, Bool.or_eq_true, decide_eq_true_eq]; exact List.le_total a b
  refine ⟨(List.mergeSort_perm ss leB).nodup_iff.2 h.1, fun x => ?_, ?_⟩
  · rw [(List.mergeSort_perm ss leB).mem_iff, h.2 x]; simp [hl]
  · exact (List.pairwise_mergeSort tr tt ss).imp (fun h => by simpa [leB] using h)
def KsPost (pre fr : ByteArray) (D0 : DataW Unit) (w : World) (e : Ending) (w' : World) : Prop := ∃ (v : Value) (ss : List (List UInt8)), e = .returned v ∧ KS pre fr D0 ss ∧ ss.length ≤ Maps.size D0 ∧ w'.ownsRow w.heap.size 9 1 v ss.length (ss.map encStr) ∧ Below w.heap.size w w'
theorem info9 : (Try.prog.info? 9).map (fun i => (i.zero, i.size, i.bytes)) = some (some (.string ⟨#[]⟩), 1, 16) := by kernel_rfl
set_option maxRecDepth 100000 in
set_option maxHeartbeats 4000000 in
theorem keys_any (b n : Nat) (D0 : DataW Unit) (pre fr : ByteArray) (w : World) (hown : w.ownsMap Try.prog 9 oR b n D0) (hmax : Maps.size D0 ≤ 1000000) :
    Calls Try.prog 35 #[.map (some b), .string pre, .string fr] w (KsPost pre fr D0 w) := by
  obtain ⟨i, hi, hz⟩ := Option.map_eq_some_iff.1 info9
  simp only [Prod.mk.injEq] at hz
  obtain ⟨hz0, hz1, hz2⟩ := hz
  have hbl := hown.lt
  have HOWN := hmk hown
  go_enter Try.func35, Try.ntmps35
  go_wp2_with (at_range; refine wpList_range_own _ rfl _ 54 rfl 9 51 law9 Try.underlying54 _ b n _ rfl HOWN.out ?_; intro w0 hrg0 hg0 hs0)
  go_frame
  go_loopw [7] (fun v wr => ∃ (left : Lit → Bool) (cnt : Nat) (ss : List (List UInt8)), Hid (wr.ranges Try.prog 9 oR b w.heap.size n D0 left cnt ∧ ss.length + cnt ≤ Maps.size D0 ∧
      wr.ownsRow w.heap.size 9 1 v ss.length (ss.map encStr) ∧ Coll pre fr D0 left ss ∧ Below w.heap.size w wr))
    (fun _ wr => wr.rangeLeft b w.heap.size)
  case atStart =>
    exact ⟨_, _, [], ⟨hrg0, by simp, World.ownsRow_nil _ _ 9 1, Coll.start _ _ _, (Below.refl _ _).grown hg0 (Nat.le_refl _) (fun j hj => by cases hj)⟩⟩
  case round =>
    obtain ⟨left, cnt, ss, HR⟩ := hrel
    clear hown hrg0 hg0 hs0
    go_wp2_with (at_next; refine wpList_next_ranges _ rfl _ rfl 9 law9 oR encStr (fun p : Int × ByteArray => Value.agg #[.int .i64 p.1, .string p.2]) (fun key kl hk => by obtain ⟨x, hx, _⟩ := Maps.keyOf_str Try.underlying9 hk; exact ⟨x, hx⟩) (fun v y hv => by obtain ⟨a, s, e, _⟩ := oR_shape hv; exact ⟨(a, s), e⟩) b w.heap.size n _ _ _ rfl HR.out.1 ?_ ?_)
    · intro hc0 hl0
      obtain ⟨hrg, hcs, hrow, hC, hnx⟩ := HR.out
      clear HR
      rcases hrow.2 with ⟨hnil, h0⟩ | ⟨g, cap, cur, rfl, hbase, hb, h1, h2, h3, h4⟩
      · have hss : ss = [] := List.length_eq_zero_iff.1 h0
        subst hss
        obtain rfl := hnil
        have HC := hmk hC
        have HX := hmk hnx
        clear hC hnx hrow hrg hcs
        go_wp2_with (go_at_call 39; refine (sort_nil none 0 _).mono ?_; rintro e w' ⟨rfl, rfl⟩)
        go_ret
        exact ⟨_, [], rfl, by have := HC.out.sorted hl0; simpa using this, by simp, World.ownsRow_nil _ _ 9 1, HX.out⟩
      · have hH : Holds encStr wr g 0 ss.toArray := holds_of_block hb (by simpa using h4)
        have hgl : g < wr.heap.size := (Array.getElem?_eq_some_iff.1 hb).1
        have hc := hmk (Any.slices_Sort_string Try.lays190 g 0 cap ss wr hH hgl (by omega))
        have HC := hmk hC
        have HX := hmk hnx
        have HB := hmk (And.intro hbase (And.intro hb (And.intro h1 (And.intro h2 h3))))
        have hsl : ss.length ≤ Maps.size D0 := by omega
        clear hC hnx hrow hrg hcs hbase hb h1 h2 h3 h4 hH
        go_wp2_with (go_at_call 39; refine hc.out.mono ?_; rintro e w' ⟨rfl, nn, os, rfl⟩)
        go_ret
        have hlen : (ss.mergeSort leB).length = ss.length := (List.mergeSort_perm ss leB).length_eq
        obtain ⟨hbase, hb, h1, h2, h3⟩ := HB.out
        have hr := ownsRow_sorted (n := nn) (os := os) hlen hbase hb h1 h2 h3
        refine ⟨_, ss.mergeSort leB, rfl, HC.out.sorted hl0, by omega, ?_, HX.out.grown (grownBy_sorted _) HX.out.size (fun j hj => by cases hj; exact hbase)⟩
        rw [hlen]
        exact hr
    · intro x ca cs kl yd yp w2 cnt2 hkey hlk hv hat hrg2 hlt hg2 hs2 hen
      obtain ⟨x', ex, rfl, _⟩ := Maps.keyOf_str Try.underlying9 hkey
      obtain rfl : x = x' := encStr_inj ex
      obtain ⟨hrg, hcs, hrow, hC, hnx⟩ := HR.out
      have hrow2 := hrow.kept hg2 (Or.inr (row_ne_iter hrow hrg).symm)
      have hn2 : Below w.heap.size w w2 := hnx.grown hg2 hnx.size (fun j hj => by cases hj; exact Nat.le_refl _)
      have hle := hrg.left_eq
      have HC := hmk hC
      have HW := hmk hrow2
      have HN := hmk hn2
      have HG2 := hmk hrg2
      have HLT := hmk hlt
      have HLE := hmk hle
      have HAT := hmk hat
      have HCS := hmk hcs
      clear hs2 HR hrg hcs hrow hC hnx hkey hv ex hrow2 hg2 hn2 hle hrg2 hlt hat
      have CP := hmk (Any.strings_HasPrefix Try.lays99 ⟨x.toArray⟩ pre w2)
      have hxd : (ByteArray.mk x.toArray).toList = x := by rw [toList_data]
      cases hp : hasPrefix x pre.data.toList
      · have hno : okK pre fr x = false := by unfold okK; rw [hp]; rfl
        have hpp : hasPrefix (ByteArray.mk x.toArray).data.toList pre.data.toList = false := hp
        go_wp2_with (first | (go_at_call 38; refine CP.out.mono ?_; rw [hpp]; rintro e w' ⟨rfl, rfl⟩) | fail)
        refine ⟨⟨_, cnt2, ss, ⟨HG2.out, by have := HLT.out; have := HCS.out; omega, HW.out, HC.out.skip hno, HN.out⟩⟩, ?_⟩
        rw [HG2.out.left_eq, HLE.out]
        exact HLT.out
      · have hpp : hasPrefix (ByteArray.mk x.toArray).data.toList pre.data.toList = true := hp
        cases hb : Op.bytesLess x fr.toList
        · have hyes : okK pre fr x = true := by unfold okK; rw [hp, hb]; rfl
          have hge : ∀ W, (binOp .geq 9 (encStr x) (.string fr)).run Try.prog W = .ok (.bool true) W := fun W => by
            show (binOp .geq 9 (.string (ByteArray.mk x.toArray)) (.string fr)).run Try.prog W = _
            simp [binOp, Op.stringOp, hxd, hb]
          clear hxd
          go_wp2_with fail
          refine CP.out.mono ?_
          rw [hpp]
          rintro e w' ⟨rfl, rfl⟩
          clear CP hpp
          go_wp2_with (at_builtin; refine wpList_append_own _ rfl _ _ 85 rfl w.heap.size 9 i (.string ⟨#[]⟩) 1 16 Try.underlying85 hi hz0 hz1 hz2 rfl (by decide) _ _ _ rfl (HW.out.alloc _) ⟨_, 0, none⟩ 1 1 [encStr x] rfl rfl (cell_one_new _ _ _) (by simp [Value.oneCell', encStr]) (by have := HCS.out; unfold maxLen at *; omega) (by have := HCS.out; omega) (by have := HN.out.size; simp; omega) ?_; intro v' w3 hown' hg3 hnil3)
          have hrg3 := (HG2.out.alloc _).kept hg3 (row_ne_low HW.out hbl) (row_ne_iter HW.out HG2.out)
          refine ⟨⟨_, cnt2, ss ++ [x], ⟨hrg3, by have := HLT.out; have := HCS.out; simp; omega, by simpa using hown', HC.out.step hyes hlk HAT.out, ?_⟩⟩, ?_⟩
          · exact (HN.out.alloc HN.out.size _).grown hg3 (by have := HN.out.size; simp; omega) (fun j hj => (HW.out.lt j hj).1)
          · rw [hrg3.left_eq, HLE.out]
            exact HLT.out
        · have hno : okK pre fr x = false := by unfold okK; rw [hp, hb]; rfl
          have hge : ∀ W, (binOp .geq 9 (encStr x) (.string fr)).run Try.prog W = .ok (.bool false) W := fun W => by
            show (binOp .geq 9 (.string (ByteArray.mk x.toArray)) (.string fr)).run Try.prog W = _
            simp [binOp, Op.stringOp, hxd, hb]
          clear hxd
          go_wp2_with fail
          refine CP.out.mono ?_
          rw [hpp]
          rintro e w' ⟨rfl, rfl⟩
          clear CP hpp
          go_wp2_with fail
          refine ⟨⟨_, cnt2, ss, ⟨HG2.out, by have := HLT.out; have := HCS.out; omega, HW.out, HC.out.skip hno, HN.out⟩⟩, ?_⟩
          rw [HG2.out.left_eq, HLE.out]
          exact HLT.out
set_option maxRecDepth 100000 in
set_option maxHeartbeats 4000000 in
theorem keys_nil (pre fr : ByteArray) (w : World) :
    Calls Try.prog 35 #[.map none, .string pre, .string fr] w (KsPost pre fr (.map []) w) := by
  have hrg := run_range_nilMap (P := Try.prog) w 54 9 51 Try.underlying54
  have hnx : ∀ ty, (Instr.next (.pointer (some ⟨w.heap.size, 0, none⟩)) false ty).run Try.prog (w.alloc (.mapIter none 0 #[] 0)) = _ := fun ty => run_next_nilMap _ ty 0 0 #[]
  go_enter Try.func35, Try.ntmps35
  go_wp2_with fail
  refine wp_loop_rounds 1 ?_
  rw [rounds_succ]
  go_wp2_with (go_at_call 39; refine (sort_nil none 0 _).mono ?_; rintro e w' ⟨rfl, rfl⟩)
  go_ret
  exact ⟨_, [], rfl, ⟨List.nodup_nil, fun x => ⟨fun h => (by cases h), fun h => (by cases h.1)⟩, List.Pairwise.nil⟩, by simp, World.ownsRow_nil _ _ 9 1, one_belowG _ _⟩
theorem keys_mpv (v : Value) (n : Nat) (D0 : DataW Unit) (pre fr : ByteArray) (w : World) (h : MpV w v n D0) (hmax : Maps.size D0 ≤ 1000000) :
    Calls Try.prog 35 #[v, .string pre, .string fr] w (KsPost pre fr D0 w) := by
  rcases h with ⟨rfl, rfl⟩ | ⟨b, rfl, h⟩
  · exact keys_nil pre fr w
  · exact keys_any b n D0 pre fr w h hmax
end Ytpbejbpimcidjaa
end Go.Proofs
