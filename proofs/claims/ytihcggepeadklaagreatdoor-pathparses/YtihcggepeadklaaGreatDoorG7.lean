/- joined: NamE ShlI DigA -/
import Derived.Test.YtihcggepeadklaaGreatDoorG6
import Derived.Shelf.Strconv.Itoa3
import Derived.Lib.AppendIntMem
import Derived.Lib.ItoaLen
/- A name's text: the program's and the document's. -/
set_option linter.unusedSimpArgs false
set_option linter.unusedVariables false
namespace Go.Proofs.YtihcggepeadklaaGreatDoor
open Go.RowKit Go.Lib
def SPost (l : List UInt8) (w : World) (e : Ending) (w' : World) : Prop := e = .returned (.string ⟨l.toArray⟩) ∧ Below w.heap.size w w'
set_option maxRecDepth 100000 in
theorem quoted_any (s : ByteArray) (w : World) (hs : s.size ≤ 2147483648) (hU : Utf8Tabs 0 1 w) (hL : LetTab w) (hz : 9 < w.heap.size) (hV : validD s.data.toList = true) :
    Calls Tryz.prog 63 #[.string s] w (SPost (Q.qt s.data.toList) w) := by
  have c := hmkN (quote_good s w hs hU hL hz hV)
  clear hU hL
  go_enter Tryz.func63, Tryz.ntmps63
  go_wp2_with fail
  refine c.out.mono ?_
  rintro e w' ⟨rfl, hb⟩
  go_wp2_with fail
  go_ret
  exact ⟨rfl, hb⟩
theorem ba_back (s : ByteArray) : (⟨s.data.toList.toArray⟩ : ByteArray) = s := by simp
theorem plain_pref {s : ByteArray} (h0 : 0 < s.size) : (prefN 0 s.data.toList = s.size) ↔ plnN s.data.toList = true := by
  have h := prefN_all s.data.toList 0
  have hl : s.data.toList.length = s.size := by simp
  rw [hl, Nat.zero_add] at h
  rw [h, plnN_all h0, List.drop_zero]
set_option maxRecDepth 100000 in
set_option maxHeartbeats 1000000 in
theorem name_any (s : ByteArray) (w : World) (hs : s.size ≤ 2147483648) (hU : Utf8Tabs 0 1 w) (hL : LetTab w) (hz : 9 < w.heap.size) (hV : validD s.data.toList = true) :
    Calls Tryz.prog 38 #[.string s] w (SPost (nmT s.data.toList) w) := by
  by_cases h0 : 0 < s.size
  case neg =>
    have c := hmkN (quoted_any s w hs hU hL hz hV)
    rw [show nmT s.data.toList = Q.qt s.data.toList by rw [nmT, plnN_nil h0]; rfl]
    have e := str_nil h0
    clear hU hL hV
    generalize Q.qt s.data.toList = T at *
    subst e
    go_enter Tryz.func38, Tryz.ntmps38
    go_wp2_with fail
    refine c.out.mono ?_
    rintro e w' ⟨rfl, hb⟩
    go_wp2_with fail
    go_ret
    exact ⟨rfl, hb⟩
  have hne := str_ne h0
  have CA := hmkN (ahead_any s w (by omega))
  have hp := plain_pref h0
  cases hB : plnN s.data.toList with
  | true =>
    rw [hp.2 hB] at CA
    rw [show nmT s.data.toList = s.data.toList by rw [nmT, hB]; rfl]
    have HS := hmkN (ba_back s)
    have yy : ((s.size : Int) == s.size) = true := by simp
    clear hU hL hV hp hB
    generalize s.data.toList = T at *
    go_enter Tryz.func38, Tryz.ntmps38
    go_wp2_with fail
    refine CA.out.mono ?_
    rintro e w' ⟨rfl, hb⟩
    go_wp2_with fail
    go_ret
    exact ⟨by rw [HS.out]; rfl, hb⟩
  | false =>
    have hn : prefN 0 s.data.toList ≠ s.size := fun h => by rw [hp.1 h] at hB; exact absurd hB (by decide)
    have yy : ((prefN 0 s.data.toList : Int) == s.size) = false := by rw [beq_eq_false_iff_ne]; omega
    rw [show nmT s.data.toList = Q.qt s.data.toList by rw [nmT, hB]; rfl]
    have HC : Hid (∀ W, Below w.heap.size w W → Calls Tryz.prog 63 #[.string s] W (SPost (Q.qt s.data.toList) W)) := fun W hb =>
      quoted_any s W hs (utab_below hU hb (by omega)) (hL.below hb (by omega)) (Nat.lt_of_lt_of_le hz hb.size) hV
    generalize prefN 0 s.data.toList = F at *
    generalize Q.qt s.data.toList = T at *
    clear hU hL hV hp hB hn
    go_enter Tryz.func38, Tryz.ntmps38
    go_wp2_with fail
    refine CA.out.mono ?_
    rintro e w' ⟨rfl, hb⟩
    go_wp2_with fail
    refine (HC.out _ hb).mono ?_
    rintro e w2 ⟨rfl, hb2⟩
    go_wp2_with fail
    go_ret
    exact ⟨rfl, hb.trans (hb2.mono hb.size)⟩
set_option maxRecDepth 100000 in
set_option maxHeartbeats 1000000 in
theorem rname_any (s : ByteArray) (w : World) (hs : s.size ≤ 2147483648) (hV : validD s.data.toList = true) :
    Calls Tryz.prog 59 #[.string s] w (SPost (nmT s.data.toList) w) := by
  have CP := hmkN (rplain_any s w (by omega))
  have CQ := hmkN (refQuote_good s w hs hV)
  cases hB : plnN s.data.toList with
  | true =>
    rw [hB] at CP
    rw [show nmT s.data.toList = s.data.toList by rw [nmT, hB]; rfl]
    have HS := hmkN (ba_back s)
    clear CQ hV hB
    generalize s.data.toList = T at *
    go_enter Tryz.func59, Tryz.ntmps59
    go_wp2_with fail
    refine CP.out.mono ?_
    rintro e w' ⟨rfl, rfl⟩
    go_wp2_with fail
    go_ret
    exact ⟨by rw [HS.out]; rfl, Below.refl _ _⟩
  | false =>
    rw [hB] at CP
    rw [show nmT s.data.toList = Q.qt s.data.toList by rw [nmT, hB]; rfl]
    clear hV hB
    generalize Q.qt s.data.toList = T at *
    go_enter Tryz.func59, Tryz.ntmps59
    go_wp2_with fail
    refine CP.out.mono ?_
    rintro e w' ⟨rfl, rfl⟩
    go_wp2_with fail
    refine CQ.out.mono ?_
    rintro e w' ⟨rfl, hb⟩
    go_wp2_with fail
    go_ret
    exact ⟨rfl, hb⟩
end Go.Proofs.YtihcggepeadklaaGreatDoor
/- The library's contract of strconv.Itoa, laid at this program. -/
namespace Go.Proofs
open Go.Shelf Go.RowKit
def Tryz.lays171_ren : Go.Shelf.Ren := ⟨fun | 129 => 88 | 171 => 65 | 243 => 104 | 246 => 130 | 283 => 151 | 284 => 152 | 285 => 153 | 286 => 154 | 317 => 168 | 318 => 169 | 319 => 170 | 320 => 171 | 337 => 185 | 338 => 186 | n => n, fun | 0 => 0 | 2 => 2 | 3 => 3 | 4 => 4 | 5 => 5 | 9 => 9 | 20 => 20 | 37 => 52 | 46 => 91 | 51 => 122 | 53 => 124 | 171 => 185 | 173 => 187 | 212 => 205 | 213 => 206 | 232 => 222 | 233 => 223 | n => n, fun | 17 => 4 | 18 => 7 | 19 => 8 | n => n⟩
set_option maxRecDepth 100000 in
theorem Tryz.lays171 : Go.Proofs.LaysM.n171 Tryz.prog Tryz.lays171_ren := {
  mixed := by kernel_rfl
  f129 := Tryz.func88.trans (congrArg some (by kernel_rfl))
  f171 := Tryz.func65.trans (congrArg some (by kernel_rfl))
  f243 := Tryz.func104.trans (congrArg some (by kernel_rfl))
  f246 := Tryz.func130.trans (congrArg some (by kernel_rfl))
  f283 := Tryz.func151.trans (congrArg some (by kernel_rfl))
  f284 := Tryz.func152.trans (congrArg some (by kernel_rfl))
  f285 := Tryz.func153.trans (congrArg some (by kernel_rfl))
  f286 := Tryz.func154.trans (congrArg some (by kernel_rfl))
  f317 := Tryz.func168.trans (congrArg some (by kernel_rfl))
  f318 := Tryz.func169.trans (congrArg some (by kernel_rfl))
  f319 := Tryz.func170.trans (congrArg some (by kernel_rfl))
  f320 := Tryz.func171.trans (congrArg some (by kernel_rfl))
  f337 := Tryz.func185.trans (congrArg some (by kernel_rfl))
  f338 := Tryz.func186.trans (congrArg some (by kernel_rfl))
  t0 := Tryz.underlying0
  a0 := Tryz.isAgg0
  z0 := Tryz.sizeOf0
  v0 := Tryz.zeroValue0
  t2 := Tryz.underlying2
  a2 := Tryz.isAgg2
  z2 := Tryz.sizeOf2
  v2 := Tryz.zeroValue2
  t3 := Tryz.underlying3
  a3 := Tryz.isAgg3
  z3 := Tryz.sizeOf3
  v3 := Tryz.zeroValue3
  t4 := Tryz.underlying4
  a4 := Tryz.isAgg4
  z4 := Tryz.sizeOf4
  v4 := Tryz.zeroValue4
  t5 := Tryz.underlying5
  a5 := Tryz.isAgg5
  z5 := Tryz.sizeOf5
  v5 := Tryz.zeroValue5
  t9 := Tryz.underlying9
  a9 := Tryz.isAgg9
  z9 := Tryz.sizeOf9
  v9 := Tryz.zeroValue9
  t20 := Tryz.underlying20
  a20 := Tryz.isAgg20
  z20 := Tryz.sizeOf20
  v20 := Tryz.zeroValue20
  t37 := Tryz.underlying52
  a37 := Tryz.isAgg52
  z37 := Tryz.sizeOf52
  v37 := Tryz.zeroValue52
  t46 := Tryz.underlying91
  a46 := Tryz.isAgg91
  z46 := Tryz.sizeOf91
  v46 := Tryz.zeroValue91
  t51 := Tryz.underlying122
  a51 := Tryz.isAgg122
  z51 := Tryz.sizeOf122
  v51 := Tryz.zeroValue122
  t53 := Tryz.underlying124
  a53 := Tryz.isAgg124
  z53 := Tryz.sizeOf124
  v53 := Tryz.zeroValue124
  t171 := Tryz.underlying185
  a171 := Tryz.isAgg185
  z171 := Tryz.sizeOf185
  v171 := Tryz.zeroValue185
  t173 := Tryz.underlying187
  a173 := Tryz.isAgg187
  z173 := Tryz.sizeOf187
  v173 := Tryz.zeroValue187
  t212 := Tryz.underlying205
  a212 := Tryz.isAgg205
  z212 := Tryz.sizeOf205
  v212 := Tryz.zeroValue205
  t213 := Tryz.underlying206
  a213 := Tryz.isAgg206
  z213 := Tryz.sizeOf206
  t232 := Tryz.underlying222
  a232 := Tryz.isAgg222
  z232 := Tryz.sizeOf222
  v232 := Tryz.zeroValue222
  t233 := Tryz.underlying223
  a233 := Tryz.isAgg223
  z233 := Tryz.sizeOf223
  v233 := Tryz.zeroValue223
  g17 := by kernel_rfl
  g18 := by kernel_rfl
  g19 := by kernel_rfl
  i0 := by kernel_rfl
  i2 := by kernel_rfl
  i3 := by kernel_rfl
  i4 := by kernel_rfl
  i5 := by kernel_rfl
  i9 := by kernel_rfl
  i20 := by kernel_rfl
  i37 := by kernel_rfl
  i46 := by kernel_rfl
  i51 := by kernel_rfl
  i53 := by kernel_rfl
  i171 := by kernel_rfl
  i173 := by kernel_rfl
  i212 := by kernel_rfl
  i232 := by kernel_rfl
  i233 := by kernel_rfl
  m17 := by kernel_rfl
  m18 := by kernel_rfl
  m19 := by kernel_rfl }
namespace YtihcggepeadklaaGreatDoor
open Go.Lib
theorem itoa_any (n : Int) (h : In64 n) (w : World) (tp : PowTab w) :
    Calls Tryz.prog 65 #[.int .i64 n] w fun e w' => e = .returned (.string ⟨(itoa n).toArray⟩) ∧ Below w.heap.size w w' := by
  refine (Any.strconv_Itoa Tryz.lays171 n h.1 h.2 w tp).mono ?_
  rintro e w' ⟨he, k, os, rfl⟩
  exact ⟨he, below_grow _ _ (Nat.le_refl _) _ _⟩
end YtihcggepeadklaaGreatDoor
end Go.Proofs
/- freeholdref03.unsigned, digits. -/
namespace Go.Proofs.YtihcggepeadklaaGreatDoor
open Go.RowKit Go.Lib
theorem hmk2 {p : Prop} (h : p) : Hid p := h
def StPost (l : List UInt8) (w : World) (e : Ending) (w' : World) : Prop := e = .returned (.string ⟨l.toArray⟩) ∧ Below w.heap.size w w'
theorem conv_one (W W' : World) (c : UInt8) (x : Int) (hx : x = (c.toNat : Int)) (hb : Below (W.alloc (.cells #[.int .u8 x] 5)).heap.size (W.alloc (.cells #[.int .u8 x] 5)) W') :
    (convert 52 9 (.slice (some ⟨W.heap.size, 0, none⟩) 1 1)).run Tryz.prog W' = .ok (.string ⟨#[c]⟩) W' := by
  subst hx
  have hk : W'.heap[W.heap.size]? = some (.cells #[.int .u8 (c.toNat : Int)] 5) := (hb.block _ (by rw [alloc_size]; omega)).trans (heap_alloc_new W _)
  have ho : OwnB 0 (.slice (some ⟨W.heap.size, 0, none⟩) 1 1) [c] W' := by
    refine ⟨rfl, .inr ⟨W.heap.size, 1, #[.int .u8 (c.toNat : Int)], rfl, Nat.zero_le _, hk, by simp, by simp [maxLen], by simp, by simp [byteCells]⟩⟩
  exact ho.conv
theorem ba_app (E : List UInt8) (c : UInt8) : (⟨E.toArray⟩ : ByteArray) ++ ⟨#[c]⟩ = ⟨(E ++ [c]).toArray⟩ := by
  apply ByteArray.ext
  simp [ByteArray.data_append]
theorem below_drew (w : World) : Below w.heap.size w w.drew := ⟨rfl, rfl, rfl, Nat.le_refl _, fun _ _ => rfl⟩
set_option maxHeartbeats 1000000 in
set_option maxRecDepth 100000 in
theorem uns_any (u : Nat) : ∀ (w : World), u < 18446744073709551616 → Calls Tryz.prog 126 #[.int .u64 (u : Int)] w (StPost (decDigits u) w) := by
  induction u using Nat.strongRecOn with
  | ind u ih =>
  intro w hu
  by_cases h10 : u < 10
  · have y1 : (u : Int) < 10 := by omega
    have HD : Hid (decDigits u = [UInt8.ofNat (48 + u)]) := by show _ = _; rw [decDigits, dif_pos h10]
    have hc := conv_one w _ (UInt8.ofNat (48 + u)) ((u : Int) + 48) (by rw [UInt8.toNat_ofNat']; omega) (Below.refl _ _)
    generalize UInt8.ofNat (48 + u) = c at *
    generalize decDigits u = D at *
    go_enter Tryz.func126, Tryz.ntmps126
    go_wp2_with fail
    go_ret
    exact ⟨by rw [HD.out]; rfl, (Below.refl _ _).alloc (Nat.le_refl _) _⟩
  · have y1 : ¬ (u : Int) < 10 := by omega
    have HD : Hid (decDigits u = decDigits (u / 10) ++ [UInt8.ofNat (48 + u % 10)]) := by show _ = _; rw [decDigits, dif_neg h10]
    have HC : Hid (∀ W, Calls Tryz.prog 126 #[.int .u64 ((u : Int) / 10)] W (StPost (decDigits (u / 10)) W)) := fun W => ih (u / 10) (by omega) W (by omega)
    have CB : ∀ W W' : World, Below (W.alloc (.cells #[.int .u8 ((u : Int) % 10 + 48)] 5)).heap.size (W.alloc (.cells #[.int .u8 ((u : Int) % 10 + 48)] 5)) W' → (convert 52 9 (.slice (some ⟨W.heap.size, 0, none⟩) 1 1)).run Tryz.prog W' = .ok (.string ⟨#[UInt8.ofNat (48 + u % 10)]⟩) W' := fun W W' hb => conv_one W W' _ _ (by rw [UInt8.toNat_ofNat']; omega) hb
    generalize UInt8.ofNat (48 + u % 10) = c at *
    have CA := fun W => CB W _ (Below.refl _ _)
    have HB : Hid (∀ W' : World, Below (w.drew.alloc (.cells #[.int .u8 ((u : Int) % 10 + 48)] 5)).heap.size (w.drew.alloc (.cells #[.int .u8 ((u : Int) % 10 + 48)] 5)) W' → (convert 52 9 (.slice (some ⟨w.heap.size, 0, none⟩) 1 1)).run Tryz.prog W' = .ok (.string ⟨#[c]⟩) W') := fun W' hb => CB w.drew W' hb
    have CA2 : ∀ (w5 : World), Below w.drew.heap.size w.drew w5 → (convert 52 9 (.slice (some ⟨w5.heap.size, 0, none⟩) 1 1)).run Tryz.prog (w5.alloc (.cells #[.int .u8 ((u : Int) % 10 + 48)] 5)) = .ok (.string ⟨#[c]⟩) (w5.alloc (.cells #[.int .u8 ((u : Int) % 10 + 48)] 5)) := fun w5 _ => CB w5 _ (Below.refl _ _)
    have CA3 : (convert 52 9 (.slice (some ⟨w.heap.size, 0, none⟩) 1 1)).run Tryz.prog (w.drew.alloc (.cells #[.int .u8 ((u : Int) % 10 + 48)] 5)) = .ok (.string ⟨#[c]⟩) (w.drew.alloc (.cells #[.int .u8 ((u : Int) % 10 + 48)] 5)) := CB w.drew _ (Below.refl _ _)
    have CA4 : (convert 52 9 (.slice (some ⟨w.heap.size, 0, none⟩) 1 1)).run Tryz.prog (w.alloc (.cells #[.int .u8 ((u : Int) % 10 + 48)] 5)).drew = .ok (.string ⟨#[c]⟩) (w.alloc (.cells #[.int .u8 ((u : Int) % 10 + 48)] 5)).drew := CB w.drew _ (Below.refl _ _)
    clear CB
    have hEl : (decDigits (u / 10)).length ≤ 20 := by rw [decDigits_length]; exact nDigits_le20 _ (by omega)
    have G1 : Hid (∀ W : World, Below w.drew.heap.size w.drew W → Below w.heap.size w W) := fun W h => (below_drew w).trans h
    have G2 : Hid (∀ (o : Obj) (W : World), Below (w.drew.alloc o).heap.size (w.drew.alloc o) W → Below w.heap.size w W) := fun o W h => ((below_drew w).alloc (Nat.le_refl _) o).trans (h.mono (by rw [alloc_size]; show w.heap.size ≤ w.heap.size + 1; omega))
    generalize decDigits u = D at *
    generalize decDigits (u / 10) = E at *
    have hEs : (⟨E.toArray⟩ : ByteArray).size ≤ 20 := by show E.toArray.size ≤ 20; rw [List.size_toArray]; exact hEl
    go_enter Tryz.func126, Tryz.ntmps126
    go_wp2_with fail
    have e1 : IntKind.u64.wrap ((u : Int) / 10) = (u : Int) / 10 := IntWalk.u64_in _ (by omega)
    have e2 : ((u : Int)).tmod 10 = (u : Int) % 10 := by rw [Int.tmod_eq_emod_of_nonneg (by omega)]
    have e3 : IntKind.u8.wrap ((u : Int) % 10) = (u : Int) % 10 := IntWalk.u8_in _ (by omega)
    have e4 : IntKind.u8.wrap ((u : Int) % 10 + 48) = (u : Int) % 10 + 48 := IntWalk.u8_in _ (by omega)
    go_region_with (go_at_call 126; refine (HC.out _).mono ?_; rintro e w5 ⟨rfl, b5⟩; (try have hcv := HB.out _ b5))
    all_goals go_wp2_with fail
    all_goals go_ret
    all_goals refine ⟨?_, ?_⟩
    all_goals first
      | (rw [HD.out, ← ba_app]; rfl)
      | exact (G1.out _ b5).alloc (Nat.le_trans (Nat.le_refl _) b5.size) _
      | exact G2.out _ _ b5
theorem ba_pre (E : List UInt8) (c : UInt8) : (⟨#[c]⟩ : ByteArray) ++ ⟨E.toArray⟩ = ⟨(c :: E).toArray⟩ := by
  apply ByteArray.ext
  simp [ByteArray.data_append]
set_option maxHeartbeats 1000000 in
set_option maxRecDepth 100000 in
theorem digits_any (i : Int) (hi : In64 i) (w : World) : Calls Tryz.prog 98 #[.int .i64 i] w (StPost (itoa i) w) := by
  obtain ⟨hi0, hi1⟩ := hi
  by_cases h0 : i < 0
  · have C := hmk2 (uns_any i.natAbs w (by omega))
    have hEl : (decDigits i.natAbs).length ≤ 20 := by rw [decDigits_length]; exact nDigits_le20 _ (by omega)
    have HD : Hid (itoa i = 45 :: decDigits i.natAbs) := by show _ = _; rw [itoa, if_pos h0]
    have e0 : ((i.natAbs : Nat) : Int) = -i := by omega
    rw [e0] at C
    generalize itoa i = D at *
    generalize decDigits i.natAbs = E at *
    have hEs : (⟨E.toArray⟩ : ByteArray).size ≤ 20 := by show E.toArray.size ≤ 20; rw [List.size_toArray]; exact hEl
    have z1 : (⟨#[45]⟩ : ByteArray).size = 1 := rfl
    have e1 : IntKind.i64.wrap (i + 1) = i + 1 := IntWalk.i64_in _ (by omega)
    have e2 : IntKind.i64.wrap (-(i + 1)) = -(i + 1) := IntWalk.i64_in _ (by omega)
    have e3 : IntKind.u64.wrap (-(i + 1)) = -(i + 1) := IntWalk.u64_in _ (by omega)
    have e4 : IntKind.u64.wrap (-(i + 1) + 1) = -i := by rw [IntWalk.u64_in _ (by omega)]; omega
    have e5 : -(i + 1) + 1 = -i := by omega
    go_enter Tryz.func98, Tryz.ntmps98
    go_wp2_with fail
    (try simp only [e5])
    refine C.out.mono ?_
    rintro e w1 ⟨rfl, b1⟩
    go_wp2_with fail
    go_ret
    exact ⟨by rw [HD.out, ← ba_pre]; rfl, b1⟩
  · have C := hmk2 (uns_any i.toNat w (by omega))
    have HD : Hid (itoa i = decDigits i.toNat) := by show _ = _; rw [itoa, if_neg h0]
    have e0 : ((i.toNat : Nat) : Int) = i := by omega
    rw [e0] at C
    have y1 : ¬ i < 0 := h0
    generalize itoa i = D at *
    generalize decDigits i.toNat = E at *
    have e3 : IntKind.u64.wrap i = i := IntWalk.u64_in _ (by omega)
    go_enter Tryz.func98, Tryz.ntmps98
    go_wp2_with fail
    refine C.out.mono ?_
    rintro e w1 ⟨rfl, b1⟩
    go_wp2_with fail
    go_ret
    exact ⟨by rw [HD.out]; rfl, b1⟩
end Go.Proofs.YtihcggepeadklaaGreatDoor
