/- joined: NamB NamD NamE ShlI AllH CntM -/
import Derived.Test.YtihcggepeadklaaGreatDoorG20
import Derived.LoopTactic
import Derived.Shelf.Strconv.Itoa3
import Derived.Lib.AppendIntMem
/- path.plainAhead. -/
set_option linter.unusedSimpArgs false
set_option linter.unusedVariables false
namespace Go.Proofs.YtihcggepeadklaaGreatDoor
open Go.RowKit Go.Lib
theorem dec_ok (s : ByteArray) (pos : Nat) (h : pos < s.size) (ho : okR pos ((Utf8.decode s pos).1 : Int) = true) : (Utf8.decode s pos).2 = 1 ∧ prefN pos (s.data.toList.drop pos) = prefN (pos + 1) (s.data.toList.drop (pos + 1)) := by
  by_cases ha : (s[pos]'h).toNat < 128
  · rw [decode_ascii s pos h ha] at ho ⊢
    exact ⟨rfl, prefN_yes s pos h ho⟩
  · have := (decode_high s pos h (by omega)).1
    rw [okR_hi _ _ (by omega)] at ho
    exact absurd ho (by decide)
theorem dec_no (s : ByteArray) (pos : Nat) (h : pos < s.size) (ho : okR pos ((Utf8.decode s pos).1 : Int) = false) : prefN pos (s.data.toList.drop pos) = pos := by
  by_cases ha : (s[pos]'h).toNat < 128
  · rw [decode_ascii s pos h ha] at ho
    exact prefN_no s pos h ho
  · exact prefN_no s pos h (okR_hi _ _ (by omega))
theorem below_iter (w : World) (s : ByteArray) (p : Nat) : Below w.heap.size w (w.iter s p) := (Below.refl _ w).alloc (Nat.le_refl _) _
theorem hmkN {p : Prop} (h : p) : Hid p := h
set_option maxRecDepth 100000 in
set_option maxHeartbeats 2000000 in
theorem ahead_any (s : ByteArray) (w : World) (hs : s.size ≤ 281474976710656) :
    Calls Tryz.prog 62 #[.string s] w fun e w' => e = .returned (.int .i64 (prefN 0 s.data.toList)) ∧ Below w.heap.size w w' := by
  have HF : prefN 0 (s.data.toList.drop 0) = prefN 0 s.data.toList := by rw [List.drop_zero]
  generalize prefN 0 s.data.toList = F at *
  go_enter Tryz.func62, Tryz.ntmps62
  go_wp2
  go_loopw [3] (fun _ wr => ∃ pos, wr = w.iter s pos ∧ pos ≤ s.size ∧ prefN pos (s.data.toList.drop pos) = F) (fun _ wr => s.size - wr.iterPos w.heap.size)
  case atStart => exact ⟨0, rfl, Nat.zero_le _, HF⟩
  case round =>
    obtain ⟨pos, rfl, hle, hf⟩ := hrel
    clear HF
    by_cases hp : pos < s.size
    · have hnx : ∀ ty, (Instr.next (.pointer (some ⟨w.heap.size, 0, none⟩)) true ty).run Tryz.prog (w.iter s pos) = _ := fun ty => run_next_any w s pos ty hp
      have HY := hmkN (dec_ok s pos hp)
      have HN := hmkN (dec_no s pos hp)
      generalize (Utf8.decode s pos).1 = r at *
      generalize (Utf8.decode s pos).2 = d at *
      have CL := plet_any r (w.iter s (pos + d))
      have CD := pdig_any r (w.iter s (pos + d))
      cases hL : letR r with
      | true =>
        have HO := hmkN (HY.out (by rw [okR, hL, Bool.true_or]))
        obtain ⟨hd, he⟩ := HO.out
        subst hd
        rw [hL] at CL
        rw [he] at hf
        clear CD HY HN HO hL he
        go_wp2_with (go_at_call 100; refine CL.mono ?_; rintro e w' ⟨rfl, rfl⟩)
        go_roundw
        case rel => exact ⟨pos + 1, rfl, hp, hf⟩
        case measure => simp; omega
      | false =>
        rw [hL] at CL
        by_cases h0 : pos = 0
        · have hr := HN.out (by rw [okR, hL, h0]; rfl)
          rw [hr] at hf
          subst hf
          have hb0 : ((pos : Int) == 0) = true := by rw [h0]; rfl
          clear CD HY HN hL hr hle hs h0
          go_wp2_with (go_at_call 100; refine CL.mono ?_; rintro e w' ⟨rfl, rfl⟩)
          go_ret
          exact ⟨rfl, below_iter _ _ _⟩
        · have hb0 : ((pos : Int) == 0) = false := by rw [beq_eq_false_iff_ne]; omega
          cases hD : digR r with
          | true =>
            obtain ⟨hd, he⟩ := HY.out (by rw [okR_pos _ _ h0, hL, hD]; rfl)
            subst hd
            rw [hD] at CD
            rw [he] at hf
            clear HY HN hL hD he h0
            go_wp2_with (first | (go_at_call 100; refine CL.mono ?_; rintro e w' ⟨rfl, rfl⟩) | (go_at_call 101; refine CD.mono ?_; rintro e w' ⟨rfl, rfl⟩))
            go_roundw
            case rel => exact ⟨pos + 1, rfl, hp, hf⟩
            case measure => simp; omega
          | false =>
            rw [hD] at CD
            by_cases h45 : (r : Int) = 45
            · obtain ⟨hd, he⟩ := HY.out (by rw [okR_pos _ _ h0, hL, hD, h45]; rfl)
              subst hd
              rw [he] at hf
              rw [h45] at CL CD hnx
              clear HY HN hL hD he h0 h45
              go_wp2_with (first | (go_at_call 100; refine CL.mono ?_; rintro e w' ⟨rfl, rfl⟩) | (go_at_call 101; refine CD.mono ?_; rintro e w' ⟨rfl, rfl⟩))
              go_roundw
              case rel => exact ⟨pos + 1, rfl, hp, hf⟩
              case measure => simp; omega
            · have hr := HN.out (by rw [okR_pos _ _ h0, hL, hD]; simp only [Bool.false_or, decide_eq_false_iff_not]; exact h45)
              have hb5 : ((r : Int) == 45) = false := by rw [beq_eq_false_iff_ne]; exact h45
              have hb6 : ((r : Int) != 45) = true := by rw [bne_iff_ne]; exact h45
              rw [hr] at hf
              subst hf
              clear HY HN hL hD hr hle hs h0 h45
              go_wp2_with (first | (go_at_call 100; refine CL.mono ?_; rintro e w' ⟨rfl, rfl⟩) | (go_at_call 101; refine CD.mono ?_; rintro e w' ⟨rfl, rfl⟩))
              go_ret
              exact ⟨rfl, below_iter _ _ _⟩
    · have hnx : ∀ ty, (Instr.next (.pointer (some ⟨w.heap.size, 0, none⟩)) true ty).run Tryz.prog (w.iter s pos) = _ := fun ty => run_next_end w s pos ty hp
      have hq : F = s.size := by rw [← hf, prefN_end s pos hp]; omega
      subst hq
      clear hf
      go_wp2
      go_ret
      exact ⟨rfl, below_iter _ _ _⟩
end Go.Proofs.YtihcggepeadklaaGreatDoor
/- The document's plain; whether a name is plain. -/
namespace Go.Proofs.YtihcggepeadklaaGreatDoor
open Go.RowKit Go.Lib
theorem plnN_nil {s : ByteArray} (h : ¬ 0 < s.size) : plnN s.data.toList = false := by
  have : s.data.toList = [] := by have := drop_endN s 0 h; rwa [List.drop_zero] at this
  rw [this]; rfl
theorem plnN_all {s : ByteArray} (h : 0 < s.size) : plnN s.data.toList = allN 0 (s.data.toList.drop 0) := by
  rw [List.drop_zero]
  have := drop_consN s 0 h
  rw [List.drop_zero] at this
  rw [plnN, this]; rfl
theorem str_nil {s : ByteArray} (h : ¬ 0 < s.size) : s = ⟨#[]⟩ := by
  have : s.data.toList = [] := by have := drop_endN s 0 h; rwa [List.drop_zero] at this
  apply ByteArray.ext
  apply Array.ext'
  rw [this]
theorem str_ne {s : ByteArray} (h : 0 < s.size) : s.toList.isEmpty = false := by
  rw [ByteArray.toList_eq]
  have := drop_consN s 0 h
  rw [List.drop_zero] at this
  rw [this]; rfl
end Go.Proofs.YtihcggepeadklaaGreatDoor
/- A name's text: the program's and the document's. -/
namespace Go.Proofs.YtihcggepeadklaaGreatDoor
open Go.RowKit Go.Lib
def SPost (l : List UInt8) (w : World) (e : Ending) (w' : World) : Prop := e = .returned (.string ⟨l.toArray⟩) ∧ Below w.heap.size w w'
set_option maxRecDepth 100000 in
theorem quoted_any (s : ByteArray) (w : World) (hs : s.size ≤ 2147483648) (hU : Utf8Tabs 0 1 w) (hL : LetTab w) (hz : 9 < w.heap.size) (hV : validD s.data.toList = true) :
    Calls Tryz.prog 63 #[.string s] w (SPost (Q.qt s.data.toList) w) := by
  have c := hmkN (quote_good s w hs hU hL hz hV)
  clear hU hL
  go_enter Tryz.func63, Tryz.ntmps63
  go_wp2_with fail
  refine c.out.mono ?_
  rintro e w' ⟨rfl, hb⟩
  go_wp2_with fail
  go_ret
  exact ⟨rfl, hb⟩
theorem ba_back (s : ByteArray) : (⟨s.data.toList.toArray⟩ : ByteArray) = s := by simp
theorem plain_pref {s : ByteArray} (h0 : 0 < s.size) : (prefN 0 s.data.toList = s.size) ↔ plnN s.data.toList = true := by
  have h := prefN_all s.data.toList 0
  have hl : s.data.toList.length = s.size := by simp
  rw [hl, Nat.zero_add] at h
  rw [h, plnN_all h0, List.drop_zero]
set_option maxRecDepth 100000 in
set_option maxHeartbeats 1000000 in
theorem name_any (s : ByteArray) (w : World) (hs : s.size ≤ 2147483648) (hU : Utf8Tabs 0 1 w) (hL : LetTab w) (hz : 9 < w.heap.size) (hV : validD s.data.toList = true) :
    Calls Tryz.prog 38 #[.string s] w (SPost (nmT s.data.toList) w) := by
  by_cases h0 : 0 < s.size
  case neg =>
    have c := hmkN (quoted_any s w hs hU hL hz hV)
    rw [show nmT s.data.toList = Q.qt s.data.toList by rw [nmT, plnN_nil h0]; rfl]
    have e := str_nil h0
    clear hU hL hV
    generalize Q.qt s.data.toList = T at *
    subst e
    go_enter Tryz.func38, Tryz.ntmps38
    go_wp2_with fail
    refine c.out.mono ?_
    rintro e w' ⟨rfl, hb⟩
    go_wp2_with fail
    go_ret
    exact ⟨rfl, hb⟩
  have hne := str_ne h0
  have CA := hmkN (ahead_any s w (by omega))
  have hp := plain_pref h0
  cases hB : plnN s.data.toList with
  | true =>
    rw [hp.2 hB] at CA
    rw [show nmT s.data.toList = s.data.toList by rw [nmT, hB]; rfl]
    have HS := hmkN (ba_back s)
    have yy : ((s.size : Int) == s.size) = true := by simp
    clear hU hL hV hp hB
    generalize s.data.toList = T at *
    go_enter Tryz.func38, Tryz.ntmps38
    go_wp2_with fail
    refine CA.out.mono ?_
    rintro e w' ⟨rfl, hb⟩
    go_wp2_with fail
    go_ret
    exact ⟨by rw [HS.out]; rfl, hb⟩
  | false =>
    have hn : prefN 0 s.data.toList ≠ s.size := fun h => by rw [hp.1 h] at hB; exact absurd hB (by decide)
    have yy : ((prefN 0 s.data.toList : Int) == s.size) = false := by rw [beq_eq_false_iff_ne]; omega
    rw [show nmT s.data.toList = Q.qt s.data.toList by rw [nmT, hB]; rfl]
    have HC : Hid (∀ W, Below w.heap.size w W → Calls Tryz.prog 63 #[.string s] W (SPost (Q.qt s.data.toList) W)) := fun W hb =>
      quoted_any s W hs (utab_below hU hb (by omega)) (hL.below hb (by omega)) (Nat.lt_of_lt_of_le hz hb.size) hV
    generalize prefN 0 s.data.toList = F at *
    generalize Q.qt s.data.toList = T at *
    clear hU hL hV hp hB hn
    go_enter Tryz.func38, Tryz.ntmps38
    go_wp2_with fail
    refine CA.out.mono ?_
    rintro e w' ⟨rfl, hb⟩
    go_wp2_with fail
    refine (HC.out _ hb).mono ?_
    rintro e w2 ⟨rfl, hb2⟩
    go_wp2_with fail
    go_ret
    exact ⟨rfl, hb.trans (hb2.mono hb.size)⟩
end Go.Proofs.YtihcggepeadklaaGreatDoor
/- The library's contract of strconv.Itoa, laid at this program. -/
namespace Go.Proofs
open Go.Shelf Go.RowKit
def Tryz.lays171_ren : Go.Shelf.Ren := ⟨fun | 129 => 88 | 171 => 65 | 243 => 104 | 246 => 130 | 283 => 151 | 284 => 152 | 285 => 153 | 286 => 154 | 317 => 168 | 318 => 169 | 319 => 170 | 320 => 171 | 337 => 185 | 338 => 186 | n => n, fun | 0 => 0 | 2 => 2 | 3 => 3 | 4 => 4 | 5 => 5 | 9 => 9 | 20 => 20 | 37 => 52 | 46 => 91 | 51 => 122 | 53 => 124 | 171 => 185 | 173 => 187 | 212 => 205 | 213 => 206 | 232 => 222 | 233 => 223 | n => n, fun | 17 => 4 | 18 => 7 | 19 => 8 | n => n⟩
set_option maxRecDepth 100000 in
theorem Tryz.lays171 : Go.Proofs.LaysM.n171 Tryz.prog Tryz.lays171_ren := {
  mixed := by kernel_rfl
  f129 := Tryz.func88.trans (congrArg some (by kernel_rfl))
  f171 := Tryz.func65.trans (congrArg some (by kernel_rfl))
  f243 := Tryz.func104.trans (congrArg some (by kernel_rfl))
  f246 := Tryz.func130.trans (congrArg some (by kernel_rfl))
  f283 := Tryz.func151.trans (congrArg some (by kernel_rfl))
  f284 := Tryz.func152.trans (congrArg some (by kernel_rfl))
  f285 := Tryz.func153.trans (congrArg some (by kernel_rfl))
  f286 := Tryz.func154.trans (congrArg some (by kernel_rfl))
  f317 := Tryz.func168.trans (congrArg some (by kernel_rfl))
  f318 := Tryz.func169.trans (congrArg some (by kernel_rfl))
  f319 := Tryz.func170.trans (congrArg some (by kernel_rfl))
  f320 := Tryz.func171.trans (congrArg some (by kernel_rfl))
  f337 := Tryz.func185.trans (congrArg some (by kernel_rfl))
  f338 := Tryz.func186.trans (congrArg some (by kernel_rfl))
  t0 := Tryz.underlying0
  a0 := Tryz.isAgg0
  z0 := Tryz.sizeOf0
  v0 := Tryz.zeroValue0
  t2 := Tryz.underlying2
  a2 := Tryz.isAgg2
  z2 := Tryz.sizeOf2
  v2 := Tryz.zeroValue2
  t3 := Tryz.underlying3
  a3 := Tryz.isAgg3
  z3 := Tryz.sizeOf3
  v3 := Tryz.zeroValue3
  t4 := Tryz.underlying4
  a4 := Tryz.isAgg4
  z4 := Tryz.sizeOf4
  v4 := Tryz.zeroValue4
  t5 := Tryz.underlying5
  a5 := Tryz.isAgg5
  z5 := Tryz.sizeOf5
  v5 := Tryz.zeroValue5
  t9 := Tryz.underlying9
  a9 := Tryz.isAgg9
  z9 := Tryz.sizeOf9
  v9 := Tryz.zeroValue9
  t20 := Tryz.underlying20
  a20 := Tryz.isAgg20
  z20 := Tryz.sizeOf20
  v20 := Tryz.zeroValue20
  t37 := Tryz.underlying52
  a37 := Tryz.isAgg52
  z37 := Tryz.sizeOf52
  v37 := Tryz.zeroValue52
  t46 := Tryz.underlying91
  a46 := Tryz.isAgg91
  z46 := Tryz.sizeOf91
  v46 := Tryz.zeroValue91
  t51 := Tryz.underlying122
  a51 := Tryz.isAgg122
  z51 := Tryz.sizeOf122
  v51 := Tryz.zeroValue122
  t53 := Tryz.underlying124
  a53 := Tryz.isAgg124
  z53 := Tryz.sizeOf124
  v53 := Tryz.zeroValue124
  t171 := Tryz.underlying185
  a171 := Tryz.isAgg185
  z171 := Tryz.sizeOf185
  v171 := Tryz.zeroValue185
  t173 := Tryz.underlying187
  a173 := Tryz.isAgg187
  z173 := Tryz.sizeOf187
  v173 := Tryz.zeroValue187
  t212 := Tryz.underlying205
  a212 := Tryz.isAgg205
  z212 := Tryz.sizeOf205
  v212 := Tryz.zeroValue205
  t213 := Tryz.underlying206
  a213 := Tryz.isAgg206
  z213 := Tryz.sizeOf206
  t232 := Tryz.underlying222
  a232 := Tryz.isAgg222
  z232 := Tryz.sizeOf222
  v232 := Tryz.zeroValue222
  t233 := Tryz.underlying223
  a233 := Tryz.isAgg223
  z233 := Tryz.sizeOf223
  v233 := Tryz.zeroValue223
  g17 := by kernel_rfl
  g18 := by kernel_rfl
  g19 := by kernel_rfl
  i0 := by kernel_rfl
  i2 := by kernel_rfl
  i3 := by kernel_rfl
  i4 := by kernel_rfl
  i5 := by kernel_rfl
  i9 := by kernel_rfl
  i20 := by kernel_rfl
  i37 := by kernel_rfl
  i46 := by kernel_rfl
  i51 := by kernel_rfl
  i53 := by kernel_rfl
  i171 := by kernel_rfl
  i173 := by kernel_rfl
  i212 := by kernel_rfl
  i232 := by kernel_rfl
  i233 := by kernel_rfl
  m17 := by kernel_rfl
  m18 := by kernel_rfl
  m19 := by kernel_rfl }
namespace YtihcggepeadklaaGreatDoor
open Go.Lib
theorem itoa_any (n : Int) (h : In64 n) (w : World) (tp : PowTab w) :
    Calls Tryz.prog 65 #[.int .i64 n] w fun e w' => e = .returned (.string ⟨(itoa n).toArray⟩) ∧ Below w.heap.size w w' := by
  refine (Any.strconv_Itoa Tryz.lays171 n h.1 h.2 w tp).mono ?_
  rintro e w' ⟨he, k, os, rfl⟩
  exact ⟨he, below_grow _ _ (Nat.le_refl _) _ _⟩
end YtihcggepeadklaaGreatDoor
end Go.Proofs
/- What a scalar that is taken is. -/
namespace Go.Proofs.YtihcggepeadklaaGreatDoor
open Go.RowKit Go.Lib
theorem sizS_good {k : Int} {b : Bool} {i : Int} {s : ByteArray} {l : List V} {m : List Mem} (h : sizS (.mk k b i s l m) = true) : (k = 1 ∨ k = 2 ∨ k = 3) ∧ validD s.data.toList = true ∧ l = [] ∧ m = [] := by
  simp only [sizS, Bool.and_eq_true, decide_eq_true_eq] at h
  have gv := chkV_allG 40 _ 0 _ (okV_true h.1)
  rw [allG] at gv
  have p := goodB_plain gv.1
  have hk := h.2
  simp only [kindOf] at hk
  have l0 : l = [] := List.length_eq_zero_iff.1 (p.2.2.2.2.2.1.resolve_left (by omega))
  have m0 : m = [] := List.length_eq_zero_iff.1 (p.2.2.2.2.2.2.resolve_left (by omega))
  refine ⟨by omega, ?_, l0, m0⟩
  have g := gv.1
  simp [goodB] at g
  simp_all [utfB]
end Go.Proofs.YtihcggepeadklaaGreatDoor
/- whether members are beyond the bound. -/
namespace Go.Proofs.YtihcggepeadklaaGreatDoor
open Go.RowKit
set_option maxHeartbeats 1600000 in
set_option maxRecDepth 100000 in
theorem cmems_any (m : List Mem) (B n : Nat) (S : Nat → Prop) (am : Option Addr) (cm bm om : Nat) (w : World) (ham : Headed am m.length cm bm om) (hm : liesM false w S m bm om) (hS : ∀ b, S b → b ≠ B ∧ b < w.heap.size) (hc : Cnt B n w) (hn : n ≤ 2147483647) :
    Calls Tryz.prog 78 #[.pointer (some ⟨B, 0, none⟩), .slice am m.length cm] w (CntPost B n (wtM m) w) := by
  have HM : Hid (liesM false w S m bm om) := hm
  have hml : m.length ≤ 9223372036854775807 := Nat.le_trans ham.le ham.max
  clear hm
  have hkeep : ∀ wr : World, w.grownBy wr (some B) → ∀ b, S b → wr.heap[b]? = w.heap[b]? := fun wr g b hb => g.block b (hS b hb).2 (fun e => (hS b hb).1 (Option.some.inj e))
  go_enter Tryz.func78, Tryz.ntmps78
  go_wp2_with fail
  go_loopw [5] (fun e wr => ∃ j : Nat, j ≤ m.length ∧ e = .int .i64 (j : Int) ∧ n + wtM (m.take j) ≤ 2147483647 ∧ Cnt B (n + wtM (m.take j)) wr ∧ w.grownBy wr (some B)) (fun e _ => m.length - (RowKit.intOf e).toNat)
  case atStart => exact ⟨0, by omega, rfl, by simpa [wtM] using hn, by simpa [wtM] using hc, World.grownBy.refl w (some B)⟩
  case round =>
    clear hn hc
    obtain ⟨j, hj, rfl, hnj, hcj, gj⟩ := hrel
    by_cases hjl : j < m.length
    · have y1 : (j : Int) < m.length := by omega
      obtain ⟨hSb, hks, csj, hrow, hlj⟩ := liesM_get HM.out j hjl
      obtain rfl : am = some ⟨bm, om, none⟩ := ham.at_.resolve_left (by omega)
      have hrow' := hrow.keep (hkeep wr gj _ hSb)
      have hlj' := V.lies_keep (R' := false) (S' := S) (fun h => h) (hkeep wr gj) (fun _ h => h) _ hlj
      have HT : Hid (wtM (m.take (j + 1)) = wtM (m.take j) + ((m[j]).1.size + (m[j]).2.wt)) := take_succ_wtM hjl
      obtain ⟨ek, eb, ei, es, eal, enl, ecl, eam, enm, ecm, rfl⟩ := V.ten hlj
      generalize hmj : m[j] = mj at *
      obtain ⟨q, q0, q1, q2, q3, q4, q5⟩ := row7 hrow'
      clear hlj hrow hrow'
      go_wp2_with fail
      refine (many_any B _ mj.1.size wr hcj hnj hks).mono ?_
      rintro e w3 ⟨r, rfl, g3, h3⟩
      cases r
      · obtain ⟨hn3, hc3⟩ := h3 rfl
        have g03 := grown_trans gj g3
        have hlj3 := V.lies_keep (R' := false) (S' := S) (fun h => h) (fun b hb => (g3.block b (Nat.lt_of_lt_of_le (hS b hb).2 gj.size) (fun e => (hS b hb).1 (Option.some.inj e)))) (fun _ h => h) _ hlj'
        have ih := cval_any mj.2 B _ 65520 S _ w3 hlj3 (fun b hb => ⟨(hS b hb).1, by have := (hS b hb).2; have := g03.size; omega⟩) hc3 hn3 (by omega)
        have e5 : ((65520 : Nat) : Int) = 65520 := rfl
        rw [e5] at ih
        have hbne : some bm ≠ some B := fun e => (hS bm hSb).1 (Option.some.inj e)
        replace q := g3.cell q hbne
        replace q0 := g3.cell q0 hbne
        replace q1 := g3.cell q1 hbne
        replace q2 := g3.cell q2 hbne
        replace q3 := g3.cell q3 hbne
        replace q4 := g3.cell q4 hbne
        replace q5 := g3.cell q5 hbne
        clear hlj' hlj3 h3
        go_wp2_with fail
        refine ih.mono ?_
        rintro e w4 ⟨r, rfl, g4, h4⟩
        cases r
        · obtain ⟨hn4, hc4⟩ := h4 rfl
          go_wp2_with fail
          go_roundw
          case rel => exact ⟨j + 1, by omega, by go_num, by rw [HT.out]; omega, by rw [HT.out]; simpa only [Nat.add_assoc] using hc4, grown_trans g03 g4⟩
          case measure => simp [RowKit.intOf]; omega
        · go_wp2_with fail
          go_ret
          exact ⟨true, rfl, grown_trans g03 g4, fun h => by cases h⟩
      · go_wp2_with fail
        go_ret
        exact ⟨true, rfl, grown_trans gj g3, fun h => by cases h⟩
    · obtain rfl : j = m.length := by omega
      rw [List.take_length] at hnj hcj
      have y1 : ¬ (m.length : Int) < m.length := by omega
      go_wp2_with fail
      go_ret
      exact ⟨false, rfl, gj, fun _ => ⟨hnj, hcj⟩⟩
end Go.Proofs.YtihcggepeadklaaGreatDoor
