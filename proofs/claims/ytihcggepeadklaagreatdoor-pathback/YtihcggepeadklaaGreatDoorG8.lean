/- joined: NamP NamA NamB NamD NamE -/
import Derived.Laws.RangeAny
import Derived.LoopTactic
import Derived.Test.YtihcggepeadklaaGreatDoorG6
/- Names that need not be quoted, as plain functions. -/
set_option linter.unusedSimpArgs false
set_option linter.unusedVariables false
namespace Go.Proofs.YtihcggepeadklaaGreatDoor
open Go.RowKit Go.Lib
/-- a letter, or an underscore -/
def letR (r : Int) : Bool := (decide (65 ≤ r) && decide (r ≤ 90)) || (decide (97 ≤ r) && decide (r ≤ 122)) || decide (r = 95)
def digR (r : Int) : Bool := decide (48 ≤ r) && decide (r ≤ 57)
/-- may a byte stand at a place of a plain name? -/
def okR (i : Nat) (r : Int) : Bool := letR r || (decide (i ≠ 0) && (digR r || decide (r = 45)))
/-- how many bytes at the front are a plain name -/
def prefN : Nat → List UInt8 → Nat
  | i, [] => i
  | i, c :: t => if okR i c.toNat = true then prefN (i + 1) t else i
def allN : Nat → List UInt8 → Bool
  | _, [] => true
  | i, c :: t => okR i c.toNat && allN (i + 1) t
theorem prefN_le : ∀ (l : List UInt8) (i : Nat), i ≤ prefN i l ∧ prefN i l ≤ i + l.length
  | [], i => by simp [prefN]
  | c :: t, i => by
    have := prefN_le t (i + 1)
    rw [prefN]
    split
    · rw [List.length_cons]; omega
    · rw [List.length_cons]; omega
theorem prefN_all : ∀ (l : List UInt8) (i : Nat), (prefN i l = i + l.length) ↔ allN i l = true
  | [], i => by simp [prefN, allN]
  | c :: t, i => by
    rw [prefN, allN, List.length_cons, Bool.and_eq_true, ← prefN_all t (i + 1)]
    split
    · rename_i h; rw [h]; simp only [true_and]; omega
    · rename_i h
      have h1 : ¬ okR i c.toNat = true := h
      constructor
      · intro h2; omega
      · intro h2; exact absurd h2.1 h1
/-- need the name not be quoted? -/
def plnN (l : List UInt8) : Bool := !l.isEmpty && allN 0 l
/-- a name as it is written -/
def nmT (l : List UInt8) : List UInt8 := if plnN l = true then l else Q.qt l
theorem okR_hi (i : Nat) (r : Int) (h : 128 ≤ r) : okR i r = false := by
  have h1 : decide (r ≤ 90) = false := by rw [decide_eq_false_iff_not]; omega
  have h2 : decide (r ≤ 122) = false := by rw [decide_eq_false_iff_not]; omega
  have h3 : decide (r = 95) = false := by rw [decide_eq_false_iff_not]; omega
  have h4 : decide (r ≤ 57) = false := by rw [decide_eq_false_iff_not]; omega
  have h5 : decide (r = 45) = false := by rw [decide_eq_false_iff_not]; omega
  simp only [okR, letR, digR, h1, h2, h3, h4, h5, Bool.and_false, Bool.or_false]
theorem drop_consN (s : ByteArray) (k : Nat) (h : k < s.size) : s.data.toList.drop k = s[k] :: s.data.toList.drop (k + 1) := by
  rw [List.drop_eq_getElem_cons (by simpa using h)]; rfl
theorem drop_endN (s : ByteArray) (k : Nat) (h : ¬ k < s.size) : s.data.toList.drop k = [] := List.drop_eq_nil_of_le (by simpa using Nat.le_of_not_lt h)
theorem prefN_yes (s : ByteArray) (k : Nat) (h : k < s.size) (ho : okR k (s[k]'h).toNat = true) : prefN k (s.data.toList.drop k) = prefN (k + 1) (s.data.toList.drop (k + 1)) := by
  rw [drop_consN s k h, prefN, if_pos ho]
theorem prefN_no (s : ByteArray) (k : Nat) (h : k < s.size) (ho : okR k (s[k]'h).toNat = false) : prefN k (s.data.toList.drop k) = k := by
  rw [drop_consN s k h, prefN, if_neg (by rw [ho]; decide)]
theorem prefN_end (s : ByteArray) (k : Nat) (h : ¬ k < s.size) : prefN k (s.data.toList.drop k) = k := by rw [drop_endN s k h, prefN]
theorem okR_pos (i : Nat) (r : Int) (h : i ≠ 0) : okR i r = (letR r || digR r || decide (r = 45)) := by simp [okR, h, Bool.or_assoc]
end Go.Proofs.YtihcggepeadklaaGreatDoor
/- Letters, digits, and how much of a text is a plain name; the document's plain. -/
namespace Go.Proofs.YtihcggepeadklaaGreatDoor
open Go.RowKit Go.Lib
theorem letR_up {r : Int} (a : 65 ≤ r) (b : r ≤ 90) : letR r = true := by simp [letR, a, b]
theorem letR_low {r : Int} (a : 97 ≤ r) (b : r ≤ 122) : letR r = true := by simp [letR, a, b]
theorem letR_us : letR 95 = true := by decide
theorem letR_not {r : Int} (a : ¬ (65 ≤ r ∧ r ≤ 90)) (b : ¬ (97 ≤ r ∧ r ≤ 122)) (c : r ≠ 95) : letR r = false := by
  rw [Bool.eq_false_iff]
  simp only [letR, ne_eq, Bool.or_eq_true, Bool.and_eq_true, decide_eq_true_eq]
  rintro ((h | h) | h)
  · exact a h
  · exact b h
  · exact c h
set_option maxHeartbeats 1000000 in
theorem plet_any (r : Int) (w : World) : Calls Tryz.prog 100 #[.int .i32 r] w fun e w' => e = .returned (.bool (letR r)) ∧ w' = w := by
  by_cases h95 : r = 95
  · subst h95
    rw [letR_us]
    go_enter Tryz.func100, Tryz.ntmps100
    go_wp2
    go_ret
    exact ⟨rfl, rfl⟩
  · have hb : (r == 95) = false := by rw [beq_eq_false_iff_ne]; exact h95
    by_cases a : 65 ≤ r
    · by_cases b : r ≤ 90
      · rw [letR_up a b]
        clear h95 hb
        go_enter Tryz.func100, Tryz.ntmps100
        go_wp2
        go_ret
        exact ⟨rfl, rfl⟩
      · by_cases c : 97 ≤ r
        · by_cases d : r ≤ 122
          · rw [letR_low c d]
            clear h95 hb
            go_enter Tryz.func100, Tryz.ntmps100
            go_wp2
            go_ret
            exact ⟨rfl, rfl⟩
          · rw [letR_not (by omega) (by omega) h95]
            clear h95
            go_enter Tryz.func100, Tryz.ntmps100
            go_wp2
            go_ret
            exact ⟨rfl, rfl⟩
        · rw [letR_not (by omega) (by omega) h95]
          clear h95
          go_enter Tryz.func100, Tryz.ntmps100
          go_wp2
          go_ret
          exact ⟨rfl, rfl⟩
    · have c : ¬ 97 ≤ r := by omega
      rw [letR_not (by omega) (by omega) h95]
      clear h95
      go_enter Tryz.func100, Tryz.ntmps100
      go_wp2
      go_ret
      exact ⟨rfl, rfl⟩
theorem pdig_any (r : Int) (w : World) : Calls Tryz.prog 101 #[.int .i32 r] w fun e w' => e = .returned (.bool (digR r)) ∧ w' = w := by
  by_cases a : 48 ≤ r
  · by_cases b : r ≤ 57
    · rw [show digR r = true by simp [digR, a, b]]
      go_enter Tryz.func101, Tryz.ntmps101
      go_wp2
      go_ret
      exact ⟨rfl, rfl⟩
    · rw [show digR r = false by simp [digR, a]; omega]
      go_enter Tryz.func101, Tryz.ntmps101
      go_wp2
      go_ret
      exact ⟨rfl, rfl⟩
  · rw [show digR r = false by simp [digR, a]]
    go_enter Tryz.func101, Tryz.ntmps101
    go_wp2
    go_ret
    exact ⟨rfl, rfl⟩
end Go.Proofs.YtihcggepeadklaaGreatDoor
/- path.plainAhead. -/
namespace Go.Proofs.YtihcggepeadklaaGreatDoor
open Go.RowKit Go.Lib
theorem dec_ok (s : ByteArray) (pos : Nat) (h : pos < s.size) (ho : okR pos ((Utf8.decode s pos).1 : Int) = true) : (Utf8.decode s pos).2 = 1 ∧ prefN pos (s.data.toList.drop pos) = prefN (pos + 1) (s.data.toList.drop (pos + 1)) := by
  by_cases ha : (s[pos]'h).toNat < 128
  · rw [decode_ascii s pos h ha] at ho ⊢
    exact ⟨rfl, prefN_yes s pos h ho⟩
  · have := (decode_high s pos h (by omega)).1
    rw [okR_hi _ _ (by omega)] at ho
    exact absurd ho (by decide)
theorem dec_no (s : ByteArray) (pos : Nat) (h : pos < s.size) (ho : okR pos ((Utf8.decode s pos).1 : Int) = false) : prefN pos (s.data.toList.drop pos) = pos := by
  by_cases ha : (s[pos]'h).toNat < 128
  · rw [decode_ascii s pos h ha] at ho
    exact prefN_no s pos h ho
  · exact prefN_no s pos h (okR_hi _ _ (by omega))
theorem below_iter (w : World) (s : ByteArray) (p : Nat) : Below w.heap.size w (w.iter s p) := (Below.refl _ w).alloc (Nat.le_refl _) _
theorem hmkN {p : Prop} (h : p) : Hid p := h
set_option maxRecDepth 100000 in
set_option maxHeartbeats 2000000 in
theorem ahead_any (s : ByteArray) (w : World) (hs : s.size ≤ 281474976710656) :
    Calls Tryz.prog 62 #[.string s] w fun e w' => e = .returned (.int .i64 (prefN 0 s.data.toList)) ∧ Below w.heap.size w w' := by
  have HF : prefN 0 (s.data.toList.drop 0) = prefN 0 s.data.toList := by rw [List.drop_zero]
  generalize prefN 0 s.data.toList = F at *
  go_enter Tryz.func62, Tryz.ntmps62
  go_wp2
  go_loopw [3] (fun _ wr => ∃ pos, wr = w.iter s pos ∧ pos ≤ s.size ∧ prefN pos (s.data.toList.drop pos) = F) (fun _ wr => s.size - wr.iterPos w.heap.size)
  case atStart => exact ⟨0, rfl, Nat.zero_le _, HF⟩
  case round =>
    obtain ⟨pos, rfl, hle, hf⟩ := hrel
    clear HF
    by_cases hp : pos < s.size
    · have hnx : ∀ ty, (Instr.next (.pointer (some ⟨w.heap.size, 0, none⟩)) true ty).run Tryz.prog (w.iter s pos) = _ := fun ty => run_next_any w s pos ty hp
      have HY := hmkN (dec_ok s pos hp)
      have HN := hmkN (dec_no s pos hp)
      generalize (Utf8.decode s pos).1 = r at *
      generalize (Utf8.decode s pos).2 = d at *
      have CL := plet_any r (w.iter s (pos + d))
      have CD := pdig_any r (w.iter s (pos + d))
      cases hL : letR r with
      | true =>
        have HO := hmkN (HY.out (by rw [okR, hL, Bool.true_or]))
        obtain ⟨hd, he⟩ := HO.out
        subst hd
        rw [hL] at CL
        rw [he] at hf
        clear CD HY HN HO hL he
        go_wp2_with (go_at_call 100; refine CL.mono ?_; rintro e w' ⟨rfl, rfl⟩)
        go_roundw
        case rel => exact ⟨pos + 1, rfl, hp, hf⟩
        case measure => simp; omega
      | false =>
        rw [hL] at CL
        by_cases h0 : pos = 0
        · have hr := HN.out (by rw [okR, hL, h0]; rfl)
          rw [hr] at hf
          subst hf
          have hb0 : ((pos : Int) == 0) = true := by rw [h0]; rfl
          clear CD HY HN hL hr hle hs h0
          go_wp2_with (go_at_call 100; refine CL.mono ?_; rintro e w' ⟨rfl, rfl⟩)
          go_ret
          exact ⟨rfl, below_iter _ _ _⟩
        · have hb0 : ((pos : Int) == 0) = false := by rw [beq_eq_false_iff_ne]; omega
          cases hD : digR r with
          | true =>
            obtain ⟨hd, he⟩ := HY.out (by rw [okR_pos _ _ h0, hL, hD]; rfl)
            subst hd
            rw [hD] at CD
            rw [he] at hf
            clear HY HN hL hD he h0
            go_wp2_with (first | (go_at_call 100; refine CL.mono ?_; rintro e w' ⟨rfl, rfl⟩) | (go_at_call 101; refine CD.mono ?_; rintro e w' ⟨rfl, rfl⟩))
            go_roundw
            case rel => exact ⟨pos + 1, rfl, hp, hf⟩
            case measure => simp; omega
          | false =>
            rw [hD] at CD
            by_cases h45 : (r : Int) = 45
            · obtain ⟨hd, he⟩ := HY.out (by rw [okR_pos _ _ h0, hL, hD, h45]; rfl)
              subst hd
              rw [he] at hf
              rw [h45] at CL CD hnx
              clear HY HN hL hD he h0 h45
              go_wp2_with (first | (go_at_call 100; refine CL.mono ?_; rintro e w' ⟨rfl, rfl⟩) | (go_at_call 101; refine CD.mono ?_; rintro e w' ⟨rfl, rfl⟩))
              go_roundw
              case rel => exact ⟨pos + 1, rfl, hp, hf⟩
              case measure => simp; omega
            · have hr := HN.out (by rw [okR_pos _ _ h0, hL, hD]; simp only [Bool.false_or, decide_eq_false_iff_not]; exact h45)
              have hb5 : ((r : Int) == 45) = false := by rw [beq_eq_false_iff_ne]; exact h45
              have hb6 : ((r : Int) != 45) = true := by rw [bne_iff_ne]; exact h45
              rw [hr] at hf
              subst hf
              clear HY HN hL hD hr hle hs h0 h45
              go_wp2_with (first | (go_at_call 100; refine CL.mono ?_; rintro e w' ⟨rfl, rfl⟩) | (go_at_call 101; refine CD.mono ?_; rintro e w' ⟨rfl, rfl⟩))
              go_ret
              exact ⟨rfl, below_iter _ _ _⟩
    · have hnx : ∀ ty, (Instr.next (.pointer (some ⟨w.heap.size, 0, none⟩)) true ty).run Tryz.prog (w.iter s pos) = _ := fun ty => run_next_end w s pos ty hp
      have hq : F = s.size := by rw [← hf, prefN_end s pos hp]; omega
      subst hq
      clear hf
      go_wp2
      go_ret
      exact ⟨rfl, below_iter _ _ _⟩
end Go.Proofs.YtihcggepeadklaaGreatDoor
/- The document's plain; whether a name is plain. -/
namespace Go.Proofs.YtihcggepeadklaaGreatDoor
open Go.RowKit Go.Lib
theorem plnN_nil {s : ByteArray} (h : ¬ 0 < s.size) : plnN s.data.toList = false := by
  have : s.data.toList = [] := by have := drop_endN s 0 h; rwa [List.drop_zero] at this
  rw [this]; rfl
theorem plnN_all {s : ByteArray} (h : 0 < s.size) : plnN s.data.toList = allN 0 (s.data.toList.drop 0) := by
  rw [List.drop_zero]
  have := drop_consN s 0 h
  rw [List.drop_zero] at this
  rw [plnN, this]; rfl
theorem str_nil {s : ByteArray} (h : ¬ 0 < s.size) : s = ⟨#[]⟩ := by
  have : s.data.toList = [] := by have := drop_endN s 0 h; rwa [List.drop_zero] at this
  apply ByteArray.ext
  apply Array.ext'
  rw [this]
theorem str_ne {s : ByteArray} (h : 0 < s.size) : s.toList.isEmpty = false := by
  rw [ByteArray.toList_eq]
  have := drop_consN s 0 h
  rw [List.drop_zero] at this
  rw [this]; rfl
end Go.Proofs.YtihcggepeadklaaGreatDoor
/- A name's text: the program's and the document's. -/
namespace Go.Proofs.YtihcggepeadklaaGreatDoor
open Go.RowKit Go.Lib
def SPost (l : List UInt8) (w : World) (e : Ending) (w' : World) : Prop := e = .returned (.string ⟨l.toArray⟩) ∧ Below w.heap.size w w'
set_option maxRecDepth 100000 in
theorem quoted_any (s : ByteArray) (w : World) (hs : s.size ≤ 2147483648) (hU : Utf8Tabs 0 1 w) (hL : LetTab w) (hz : 9 < w.heap.size) (hV : validD s.data.toList = true) :
    Calls Tryz.prog 63 #[.string s] w (SPost (Q.qt s.data.toList) w) := by
  have c := hmkN (quote_good s w hs hU hL hz hV)
  clear hU hL
  go_enter Tryz.func63, Tryz.ntmps63
  go_wp2_with fail
  refine c.out.mono ?_
  rintro e w' ⟨rfl, hb⟩
  go_wp2_with fail
  go_ret
  exact ⟨rfl, hb⟩
theorem ba_back (s : ByteArray) : (⟨s.data.toList.toArray⟩ : ByteArray) = s := by simp
theorem plain_pref {s : ByteArray} (h0 : 0 < s.size) : (prefN 0 s.data.toList = s.size) ↔ plnN s.data.toList = true := by
  have h := prefN_all s.data.toList 0
  have hl : s.data.toList.length = s.size := by simp
  rw [hl, Nat.zero_add] at h
  rw [h, plnN_all h0, List.drop_zero]
set_option maxRecDepth 100000 in
set_option maxHeartbeats 1000000 in
theorem name_any (s : ByteArray) (w : World) (hs : s.size ≤ 2147483648) (hU : Utf8Tabs 0 1 w) (hL : LetTab w) (hz : 9 < w.heap.size) (hV : validD s.data.toList = true) :
    Calls Tryz.prog 38 #[.string s] w (SPost (nmT s.data.toList) w) := by
  by_cases h0 : 0 < s.size
  case neg =>
    have c := hmkN (quoted_any s w hs hU hL hz hV)
    rw [show nmT s.data.toList = Q.qt s.data.toList by rw [nmT, plnN_nil h0]; rfl]
    have e := str_nil h0
    clear hU hL hV
    generalize Q.qt s.data.toList = T at *
    subst e
    go_enter Tryz.func38, Tryz.ntmps38
    go_wp2_with fail
    refine c.out.mono ?_
    rintro e w' ⟨rfl, hb⟩
    go_wp2_with fail
    go_ret
    exact ⟨rfl, hb⟩
  have hne := str_ne h0
  have CA := hmkN (ahead_any s w (by omega))
  have hp := plain_pref h0
  cases hB : plnN s.data.toList with
  | true =>
    rw [hp.2 hB] at CA
    rw [show nmT s.data.toList = s.data.toList by rw [nmT, hB]; rfl]
    have HS := hmkN (ba_back s)
    have yy : ((s.size : Int) == s.size) = true := by simp
    clear hU hL hV hp hB
    generalize s.data.toList = T at *
    go_enter Tryz.func38, Tryz.ntmps38
    go_wp2_with fail
    refine CA.out.mono ?_
    rintro e w' ⟨rfl, hb⟩
    go_wp2_with fail
    go_ret
    exact ⟨by rw [HS.out]; rfl, hb⟩
  | false =>
    have hn : prefN 0 s.data.toList ≠ s.size := fun h => by rw [hp.1 h] at hB; exact absurd hB (by decide)
    have yy : ((prefN 0 s.data.toList : Int) == s.size) = false := by rw [beq_eq_false_iff_ne]; omega
    rw [show nmT s.data.toList = Q.qt s.data.toList by rw [nmT, hB]; rfl]
    have HC : Hid (∀ W, Below w.heap.size w W → Calls Tryz.prog 63 #[.string s] W (SPost (Q.qt s.data.toList) W)) := fun W hb =>
      quoted_any s W hs (utab_below hU hb (by omega)) (hL.below hb (by omega)) (Nat.lt_of_lt_of_le hz hb.size) hV
    generalize prefN 0 s.data.toList = F at *
    generalize Q.qt s.data.toList = T at *
    clear hU hL hV hp hB hn
    go_enter Tryz.func38, Tryz.ntmps38
    go_wp2_with fail
    refine CA.out.mono ?_
    rintro e w' ⟨rfl, hb⟩
    go_wp2_with fail
    refine (HC.out _ hb).mono ?_
    rintro e w2 ⟨rfl, hb2⟩
    go_wp2_with fail
    go_ret
    exact ⟨rfl, hb.trans (hb2.mono hb.size)⟩
end Go.Proofs.YtihcggepeadklaaGreatDoor
