/- joined: WalksD Own PrnC PlainU -/
import Derived.Test.YtolekldjbbjmjaaGreatDoorG9
import Derived.Deep.AppendLies
import Derived.Laws.IdiomStrings
import Derived.Laws.BytesArg
import Derived.Lib.UnsafeStr
import Derived.Lib.MapLaws
/- Contracts: Valid, Size, Quote. -/
set_option linter.unusedSimpArgs false
set_option linter.unusedVariables false
namespace Go.Proofs.YtolekldjbbjmjaaGreatDoor
open Go.RowKit Go.Lib
theorem utab_below {B : Nat} {w w' : World} (h : Utf8Tabs 0 1 w) (hb : Below B w w') (hB : 1 < B) : Utf8Tabs 0 1 w' :=
  ⟨fun c hc => (hb.cell (p := ⟨0, c, none⟩) (by show 0 < B; omega)).trans (h.1 c hc), fun i hi => ⟨(hb.cell (p := ⟨1, 2 * i, none⟩) hB).trans (h.2 i hi).1, (hb.cell (p := ⟨1, 2 * i + 1, none⟩) hB).trans (h.2 i hi).2⟩⟩
set_option maxHeartbeats 400000 in
theorem valid_any (s : ByteArray) (w : World) (hs : s.size ≤ 140737488351232) (hU : Utf8Tabs 0 1 w) :
    Calls Tryz.prog 80 #[.string s] w fun e w' => e = .returned (.bool (validD s.data.toList)) ∧ Below w.heap.size w w' := by
  have c := validString_any s w (by omega) hU
  generalize validD s.data.toList = V at *
  clear hU
  go_enter Tryz.func80, Tryz.ntmps80
  go_wp2_with (go_at_call 110; refine c.mono ?_; rintro e w' ⟨rfl, hb⟩)
  go_ret
  exact ⟨rfl, hb⟩
theorem take_snoc (s : ByteArray) (k : Nat) (h : k < s.size) : s.data.toList.take (k + 1) = s.data.toList.take k ++ [s[k]] := by
  rw [List.take_succ_eq_append_getElem (by simpa using h)]; rfl
theorem take_all (s : ByteArray) (k : Nat) (h : s.size ≤ k) : s.data.toList.take k = s.data.toList := List.take_of_length_le (by simpa using h)
theorem alloc_last (w : World) (o : Obj) : (w.alloc o).heap[w.heap.size]? = some o := by
  show (w.heap.push o)[w.heap.size]? = some o
  simp
set_option maxRecDepth 100000 in
set_option maxHeartbeats 1000000 in
theorem size_good (s : ByteArray) (w : World) (hs : s.size ≤ 1048576) (hU : Utf8Tabs 0 1 w) (hL : LetTab w) (hz : 2 < w.heap.size) (hV : validD s.data.toList = true) :
    Calls Tryz.prog 82 #[.string s] w fun e w' => e = .returned (.tuple #[.int .i64 (2 + Q.sz s.data.toList : Nat), .int .i64 0]) ∧ Below w.heap.size w w' := by
  have c := valid_any s w (by omega) hU
  rw [hV] at c
  clear hU hV
  go_enter Tryz.func82, Tryz.ntmps82
  go_wp2_with (go_at_call 80; refine c.mono ?_; rintro e w1 ⟨rfl, hb⟩)
  have hL1 : LetTab w1 := hL.below hb (by omega)
  clear c hL
  go_loop [4, 11] (fun z i => ∃ k : Nat, k ≤ s.size ∧ i = .int .i64 k ∧ z = .int .i64 (2 + Q.sz (s.data.toList.take k) : Nat)) (fun _ i => s.size - (RowKit.intOf i).toNat)
  case atStart => exact ⟨0, Nat.zero_le _, rfl, rfl⟩
  case round =>
    obtain ⟨k, hk, rfl, rfl⟩ := hrel
    have hle := Q.sz_le (s.data.toList.take k)
    have hlt : (s.data.toList.take k).length ≤ k := List.length_take_le _ _
    by_cases hlt2 : k < s.size
    · have y1 : (k : Int) < s.size := by omega
      have cw := width_any s[k].toNat s[k].toNat_lt w1 hL1
      have hw := Q.widN_le s[k].toNat
      have HS : Hid (Q.sz (s.data.toList.take (k + 1)) = Q.sz (s.data.toList.take k) + Q.widN s[k].toNat) := by
        show _ = _
        rw [take_snoc s k hlt2, Q.sz_snoc]; rfl
      generalize Q.widN s[k].toNat = W at *
      go_wp2_with (go_at_call 111; refine cw.mono ?_; rintro e w' ⟨rfl, rfl⟩)
      go_round
      case rel => exact ⟨k + 1, by omega, by go_num, by rw [HS.out]; go_num⟩
      case measure => simp [RowKit.intOf]; omega
    · have y1 : ¬ (k : Int) < s.size := by omega
      rw [take_all s k (by omega)] at *
      go_wp2
      go_ret2
      exact ⟨rfl, hb⟩
set_option maxRecDepth 100000 in
set_option maxHeartbeats 2000000 in
theorem quote_good (s : ByteArray) (w : World) (hs : s.size ≤ 1048576) (hU : Utf8Tabs 0 1 w) (hL : LetTab w) (hz : 2 < w.heap.size) (hV : validD s.data.toList = true) :
    Calls Tryz.prog 65 #[.string s] w fun e w' => e = .returned (.tuple #[.string ⟨(Q.qt s.data.toList).toArray⟩, .int .i64 0]) ∧ Below w.heap.size w w' := by
  have c := size_good s w hs hU hL hz hV
  have hle := Q.sz_le s.data.toList
  have hlen : s.data.toList.length = s.size := by simp
  rw [hlen] at hle
  have hZ : 2 + Q.sz s.data.toList ≤ 281474976710656 := by omega
  clear hU hV hlen
  generalize 2 + Q.sz s.data.toList = Z at *
  go_enter Tryz.func65, Tryz.ntmps65
  go_wp2_with (go_at_call 82; refine c.mono ?_; rintro e w1 ⟨rfl, hb⟩)
  have hL1 : LetTab w1 := hL.below hb (by omega)
  have hs1 := hb.size
  clear c hL
  refine (Tryz.Grow_fresh w1.heap.size w1.heap.size Z _ (Nat.le_refl _) (by exact alloc_last _ _) (by simp) hZ).mono ?_
  rintro e w2 ⟨rfl, g2, b2⟩
  have b2' : Below w1.heap.size w1 w2 := ((Below.refl _ w1).alloc (Nat.le_refl _) _).trans b2
  have hs2 := b2'.size
  have hL2 : LetTab w2 := hL1.below b2' (by omega)
  clear b2
  go_wp2_with fail
  refine (Tryz.WriteByte_k w1.heap.size w1.heap.size [] 34 w2 (.inr (BuilderAtF.of g2)) (by simp) hs2).mono ?_
  rintro e w3 ⟨rfl, g3, b3, -⟩
  have b3' : Below w1.heap.size w1 w3 := b2'.trans b3
  have hs3 := b3'.size
  have hL3 : LetTab w3 := hL1.below b3' (by omega)
  clear b3 b2' g2 hL2
  go_wp2_with fail
  go_loopw [21] (fun i wr => ∃ k : Nat, k ≤ s.size ∧ i = .int .i64 k ∧ IsBuilderF 57 5 w1.heap.size w1.heap.size (byteCells (34 :: Q.body (s.data.toList.take k))) wr ∧ Below w1.heap.size w1 wr) (fun i _ => s.size - (RowKit.intOf i).toNat)
  case atStart => exact ⟨0, Nat.zero_le _, rfl, .inr g3, b3'⟩
  case round =>
    obtain ⟨k, hk, rfl, gk, bk⟩ := hrel
    have hl0 := Q.sz_le (s.data.toList.take k)
    have hl1 : (s.data.toList.take k).length ≤ k := List.length_take_le _ _
    have hbl : (Q.body (s.data.toList.take k)).length ≤ 6291456 := by unfold Q.sz at hl0; omega
    have hsk := bk.size
    clear g3 hl0
    by_cases hlt : k < s.size
    · have y1 : (k : Int) < s.size := by omega
      have HS : Hid (34 :: Q.body (s.data.toList.take (k + 1)) = (34 :: Q.body (s.data.toList.take k)) ++ Q.esc s[k]) := by
        show _ = _
        rw [take_snoc s k hlt, Q.body_snoc]; rfl
      have hLk : LetTab wr := hL1.below bk (by omega)
      go_wp2_with (go_at_call 84; refine (writeByte_any w1.heap.size w1.heap.size _ s[k] _ gk (by simp; omega) hsk (by omega) hLk).mono ?_; rintro e wn ⟨rfl, gn, bn⟩)
      go_roundw
      case rel => exact ⟨k + 1, by omega, by go_num, by rw [HS.out]; exact gn, bk.trans bn⟩
      case measure => simp [RowKit.intOf]; omega
    · have y1 : ¬ (k : Int) < s.size := by omega
      rw [take_all s k (by omega)] at gk hbl
      go_wp2_with fail
      refine (Tryz.WriteByte_k w1.heap.size w1.heap.size _ 34 _ gk (by simp [byteCells_length]; omega) hsk).mono ?_
      rintro e w4 ⟨rfl, g4, b4, -⟩
      have hs4 := b4.size
      have e4 : byteCells (34 :: Q.body s.data.toList) ++ [Value.int .u8 34] = byteCells (Q.qt s.data.toList) := by
        have := byteCells_snoc (34 :: Q.body s.data.toList) 34
        exact this
      rw [e4] at g4
      go_wp2_with fail
      refine (Tryz.String_any_k w1.heap.size w1.heap.size (Q.qt s.data.toList) _ (.inr g4) (by omega)).mono ?_
      rintro e w5 ⟨rfl, -, b5, -⟩
      go_wp2
      go_ret2
      exact ⟨rfl, hb.trans (((bk.trans b4).trans b5).mono hs1)⟩
end Go.Proofs.YtolekldjbbjmjaaGreatDoor
/- Rows of bytes that a call owns: append onto them, and their string. -/
namespace Go.Proofs.YtolekldjbbjmjaaGreatDoor
open Go.RowKit
theorem info5 : (Tryz.prog.info? 5).map (fun i => (i.zero, i.size, i.bytes)) = some (some (.int .u8 0), 1, 1) := by kernel_rfl
/-- the slice v owns the bytes l, in a block from B on -/
def Own (B : Nat) (v : Value) (l : List UInt8) (w : World) : Prop := w.ownsRow B 5 1 v l.length (Lib.byteCells l)
theorem Own.alloc {B : Nat} {v : Value} {l : List UInt8} {w : World} (h : Own B v l w) (o : Obj) : Own B v l (w.alloc o) := World.ownsRow.alloc h o
theorem Own.nil (B : Nat) (w : World) : Own B (.slice none 0 0) [] w := World.ownsRow_nil w B 5 1
end Go.Proofs.YtolekldjbbjmjaaGreatDoor
/- a word's text, on both sides. -/
namespace Go.Proofs.YtolekldjbbjmjaaGreatDoor
open Go.RowKit Go.Lib
/-- what the calls read beside their arguments: the library's tables, and the table of letters -/
structure Tl (w : World) : Prop where
  t : Tb w
  l : LetTab w
  z : 2 < w.heap.size
theorem Tl.below {w w' : World} {B : Nat} (h : Tl w) (hb : Below B w w') (hB : 2 < B) : Tl w' := ⟨h.t.below hb (by omega), h.l.below hb hB, Nat.lt_of_lt_of_le h.z hb.size⟩
def wordL (s : ByteArray) : List UInt8 := if plainW s then s.data.toList else Q.qt s.data.toList
def wordS (s : ByteArray) : ByteArray := ⟨(wordL s).toArray⟩
theorem wordS_plain {s : ByteArray} (h : plainW s = true) : wordS s = s := by
  unfold wordS wordL
  rw [if_pos h]
theorem wordS_quote {s : ByteArray} (h : plainW s = false) : wordS s = ⟨(Q.qt s.data.toList).toArray⟩ := by
  unfold wordS wordL
  rw [if_neg (by rw [h]; simp)]
theorem wordL_len {s : ByteArray} (hs : s.size ≤ 64) : (wordL s).length ≤ 400 := by
  have h0 : s.data.toList.length = s.size := by simp
  unfold wordL
  split
  · omega
  · rw [Q.qt_length]
    have := Q.sz_le s.data.toList
    omega
def WtPost (s : ByteArray) (w : World) (e : Ending) (w' : World) : Prop := e = .returned (.string (wordS s)) ∧ Below w.heap.size w w'
set_option maxHeartbeats 8000000 in
set_option maxRecDepth 100000 in
theorem wordtext_any (s : ByteArray) (hs : s.size ≤ 64) (hu : utfB s = true) (w : World) (hT : Tl w) : Calls Tryz.prog 44 #[.string s] w (WtPost s w) := by
  have HQ := hmk (quote_good s w (by omega) hT.t.u hT.l hT.z hu)
  have HP := hmk (plainahead_any s (by omega) w)
  have hn := @nil_eq s
  by_cases hz : s.size = 0
  · have y0 : (s.toList == []) = true := by rw [hn, decide_eq_true hz]
    have HW := hmk (wordS_quote (s := s) (by unfold plainW; rw [hz]; simp))
    clear hn hz
    go_enter Tryz.func44, Tryz.ntmps44
    go_wp2_with (first | (go_at_call 65; refine HQ.out.mono ?_; rintro e w1 ⟨rfl, B1⟩))
    go_ret
    exact ⟨by rw [HW.out]; rfl, B1⟩
  · have y0 : (s.toList == []) = false := by rw [hn, decide_eq_false hz]
    obtain ⟨t, ht⟩ : ∃ t, allPlain s = t := ⟨_, rfl⟩
    have hpw : plainW s = t := by unfold plainW; rw [ht, decide_eq_true (by omega : 0 < s.size), Bool.and_true]
    rw [ht] at HP
    clear ht hn hz
    cases t with
    | true =>
      have HW := hmk (wordS_plain hpw)
      clear hpw
      go_enter Tryz.func44, Tryz.ntmps44
      go_wp2_with (first | (go_at_call 64; refine HP.out.mono ?_; rintro e w1 ⟨p, rfl, hp, rfl⟩) | (go_at_call 65; refine HQ.out.mono ?_; rintro e w1 ⟨rfl, B1⟩))
      go_ret
      exact ⟨by rw [HW.out]; rfl, Below.refl _ _⟩
    | false =>
      have HW := hmk (wordS_quote hpw)
      clear hpw
      go_enter Tryz.func44, Tryz.ntmps44
      go_wp2_with (first | (go_at_call 64; refine HP.out.mono ?_; rintro e w1 ⟨p, rfl, hp, h1⟩; rw [h1]; clear h1) | (go_at_call 65; refine HQ.out.mono ?_; rintro e w1 ⟨rfl, B1⟩))
      go_ret
      exact ⟨by rw [HW.out]; rfl, B1⟩
end Go.Proofs.YtolekldjbbjmjaaGreatDoor
/- Plain facts on reading: digits, escapes, one step of a reader, the whole of it; how the library's decoder stands to sequences. -/
namespace Go.Proofs.YtolekldjbbjmjaaGreatDoor.Q
theorem dec_bad (b : UInt8) (t : List UInt8) (hb : 128 ≤ b.toNat) (h : (nxt (b :: t)).2 = false) : Lib.decodeL (b :: t) = (65533, 1) := by
  have k := nxt_check b t hb
  rw [h] at k
  rw [Lib.decodeL_N]
  rcases Lib.check_decode (b :: t).length b.toNat (t.getD 0 0).toNat (t.getD 1 0).toNat (t.getD 2 0).toNat (by simp) hb b.toNat_lt (t.getD 0 0).toNat_lt (t.getD 1 0).toNat_lt (t.getD 2 0).toNat_lt with ⟨hc, hd⟩ | ⟨m, hm, hc, hd⟩
  · exact hd
  · rw [List.length_cons, k] at hc
    simp at hc
theorem dec_good (b : UInt8) (t : List UInt8) (hb : 128 ≤ b.toNat) (h : (nxt (b :: t)).2 = true) :
    (Lib.decodeL (b :: t)).2 = (nxt (b :: t)).1 ∧ 2 ≤ (nxt (b :: t)).1 ∧ Lib.encodeRune ((Lib.decodeL (b :: t)).1 : Int) = (b :: t).take (nxt (b :: t)).1 := by
  have k := nxt_check b t hb
  rw [h] at k
  have e : (Lib.decodeL (b :: t)).2 = (nxt (b :: t)).1 ∧ 2 ≤ (nxt (b :: t)).1 := by
    rw [Lib.decodeL_N]
    rcases Lib.check_decode (b :: t).length b.toNat (t.getD 0 0).toNat (t.getD 1 0).toNat (t.getD 2 0).toNat (by simp) hb b.toNat_lt (t.getD 0 0).toNat_lt (t.getD 1 0).toNat_lt (t.getD 2 0).toNat_lt with ⟨hc, hd⟩ | ⟨m, hm, hc, hd⟩
    · rw [List.length_cons, k] at hc
      simp at hc
    · rw [List.length_cons, k] at hc
      simp at hc
      subst hc
      exact ⟨hd, hm⟩
  refine ⟨e.1, e.2, ?_⟩
  rw [← e.1]
  exact Lib.encode_decode (b :: t) (by simp) (by omega)
theorem dec_le (l : List UInt8) : (Lib.decodeL l).1 ≤ 1114111 := by
  rw [Lib.decodeL_N]
  have k0 := (l.getD 0 0).toNat_lt
  unfold Lib.decodeN
  repeat' split
  all_goals simp only
  all_goals omega
/-- utf8.FullRuneInString -/
def full : List UInt8 → Bool
  | [] => false
  | b :: t => decide (Lib.firstT b.toNat % 8 ≤ t.length + 1) || (decide (1 < t.length + 1) && (decide ((t.getD 0 0).toNat < Lib.accLo (Lib.firstT b.toNat / 16)) || decide (Lib.accHi (Lib.firstT b.toNat / 16) < (t.getD 0 0).toNat))) || (decide (2 < t.length + 1) && (decide ((t.getD 1 0).toNat < 128) || decide (191 < (t.getD 1 0).toNat)))
theorem full_nxt (b : UInt8) (t : List UInt8) (hb : 128 ≤ b.toNat) (h : (nxt (b :: t)).2 = false) :
    (∀ j, j < (nxt (b :: t)).1 → full ((b :: t).take (j + 1)) = false) ∧ ((nxt (b :: t)).1 = (b :: t).length ∨ full ((b :: t).take ((nxt (b :: t)).1 + 1)) = true) := by
  obtain ⟨h1, h2, h3⟩ := bnd_tab ⟨b.toNat, b.toNat_lt⟩ hb
  simp only at h1 h2 h3
  rw [nxt_cons] at h ⊢
  generalize hB : bnd b.toNat = B at *
  obtain ⟨n, lo, hi⟩ := B
  simp only at h1 h2 h3 h ⊢
  have hn1 : Lib.firstT b.toNat % 8 = 1 ∨ Lib.firstT b.toNat % 8 = n := by split at h1 <;> omega
  have hn0 : n = 0 → Lib.firstT b.toNat % 8 ≤ 1 := by intro e; split at h1 <;> omega
  have hnn : n ≠ 0 → Lib.firstT b.toNat % 8 = n := by intro e; split at h1 <;> omega
  rcases h2 with rfl | rfl | rfl | rfl
  · have e := hn0 rfl
    simp [full, e]
  · have e := hnn (by omega)
    obtain ⟨rfl, rfl⟩ := h3 (by omega)
    rcases t with _ | ⟨c1, t⟩
    · simp [nxtGo, full, e]
    · by_cases c : c1.toNat < Lib.accLo (Lib.firstT b.toNat / 16) ∨ Lib.accHi (Lib.firstT b.toNat / 16) < c1.toNat
      · simp [nxtGo, c, full, e]
      · exfalso; revert h; cases t <;> simp [nxtGo, c]
  · have e := hnn (by omega)
    obtain ⟨rfl, rfl⟩ := h3 (by omega)
    rcases t with _ | ⟨c1, t⟩
    · simp [nxtGo, full, e]
    · by_cases c : c1.toNat < Lib.accLo (Lib.firstT b.toNat / 16) ∨ Lib.accHi (Lib.firstT b.toNat / 16) < c1.toNat
      · rcases c with c | c <;> simp [nxtGo, c, full, e]
      · have c' := not_or.1 c
        rcases t with _ | ⟨c2, t⟩
        · simp only [nxtGo, c, if_false, List.length_cons, List.length_nil]
          refine ⟨?_, by simp⟩
          intro j hj
          have : j = 0 ∨ j = 1 := by simp at hj; omega
          rcases this with rfl | rfl <;> simp [full, e, c'.1, c'.2] <;> omega
        · by_cases d : c2.toNat < 128 ∨ 191 < c2.toNat
          · simp only [nxtGo, c, d, if_false, if_true, List.length_cons]
            refine ⟨?_, by simp [full, e]⟩
            intro j hj
            have : j = 0 ∨ j = 1 := by simp at hj; omega
            rcases this with rfl | rfl <;> simp [full, e, c'.1, c'.2] <;> omega
          · exfalso; revert h; cases t <;> simp [nxtGo, c, d]
  · have e := hnn (by omega)
    obtain ⟨rfl, rfl⟩ := h3 (by omega)
    rcases t with _ | ⟨c1, t⟩
    · simp [nxtGo, full, e]
    · by_cases c : c1.toNat < Lib.accLo (Lib.firstT b.toNat / 16) ∨ Lib.accHi (Lib.firstT b.toNat / 16) < c1.toNat
      · rcases c with c | c <;> simp [nxtGo, c, full, e]
      · have c' := not_or.1 c
        rcases t with _ | ⟨c2, t⟩
        · simp only [nxtGo, c, if_false, List.length_cons, List.length_nil]
          refine ⟨?_, by simp⟩
          intro j hj
          have : j = 0 ∨ j = 1 := by simp at hj; omega
          rcases this with rfl | rfl <;> simp [full, e, c'.1, c'.2] <;> omega
        · by_cases d : c2.toNat < 128 ∨ 191 < c2.toNat
          · simp only [nxtGo, c, d, if_false, if_true, List.length_cons]
            refine ⟨?_, ?_⟩
            · intro j hj
              have : j = 0 ∨ j = 1 := by simp at hj; omega
              rcases this with rfl | rfl <;> simp [full, e, c'.1, c'.2] <;> omega
            · right; rcases d with d | d <;> simp [full, e, d]
          · have d' := not_or.1 d
            rcases t with _ | ⟨c3, t⟩
            · simp only [nxtGo, c, d, if_false, List.length_cons, List.length_nil]
              refine ⟨?_, by simp⟩
              intro j hj
              have : j = 0 ∨ j = 1 ∨ j = 2 := by simp at hj; omega
              rcases this with rfl | rfl | rfl <;> simp [full, e, c'.1, c'.2, d'.1, d'.2] <;> omega
            · by_cases f : c3.toNat < 128 ∨ 191 < c3.toNat
              · simp only [nxtGo, c, d, f, if_false, if_true, List.length_cons]
                refine ⟨?_, by simp [full, e]⟩
                intro j hj
                have : j = 0 ∨ j = 1 ∨ j = 2 := by simp at hj; omega
                rcases this with rfl | rfl | rfl <;> simp [full, e, c'.1, c'.2, d'.1, d'.2] <;> omega
              · exfalso; revert h; cases t <;> simp [nxtGo, c, d, f]
end Go.Proofs.YtolekldjbbjmjaaGreatDoor.Q
