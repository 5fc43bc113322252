/- joined: WalksD Full Own -/
import Derived.Test.YtpmhdcmmlkjjmaaGreatDoorG1
import Derived.Deep.QuietTactic
import Derived.BigQuiet
import Derived.Deep.AppendLies
import Derived.Laws.IdiomStrings
import Derived.Laws.BytesArg
import Derived.Lib.UnsafeStr
/- Contracts: Valid, Size, Quote. -/
set_option linter.unusedSimpArgs false
set_option linter.unusedVariables false
namespace Go.Proofs.YtpmhdcmmlkjjmaaGreatDoor
open Go.RowKit Go.Lib
theorem utab_below {B : Nat} {w w' : World} (h : Utf8Tabs 1 2 w) (hb : Below B w w') (hB : 2 < B) : Utf8Tabs 1 2 w' :=
  ⟨fun c hc => (hb.cell (p := ⟨1, c, none⟩) (by show 1 < B; omega)).trans (h.1 c hc), fun i hi => ⟨(hb.cell (p := ⟨2, 2 * i, none⟩) hB).trans (h.2 i hi).1, (hb.cell (p := ⟨2, 2 * i + 1, none⟩) hB).trans (h.2 i hi).2⟩⟩
set_option maxHeartbeats 400000 in
theorem valid_any (s : ByteArray) (w : World) (hs : s.size ≤ 140737488351232) (hU : Utf8Tabs 1 2 w) :
    Calls Tryz.prog 103 #[.string s] w fun e w' => e = .returned (.bool (validD s.data.toList)) ∧ Below w.heap.size w w' := by
  have c := validString_any s w (by omega) hU
  generalize validD s.data.toList = V at *
  clear hU
  go_enter Tryz.func103, Tryz.ntmps103
  go_wp2_with (go_at_call 60; refine c.mono ?_; rintro e w' ⟨rfl, hb⟩)
  go_ret
  exact ⟨rfl, hb⟩
theorem take_snoc (s : ByteArray) (k : Nat) (h : k < s.size) : s.data.toList.take (k + 1) = s.data.toList.take k ++ [s[k]] := by
  rw [List.take_succ_eq_append_getElem (by simpa using h)]; rfl
theorem take_all (s : ByteArray) (k : Nat) (h : s.size ≤ k) : s.data.toList.take k = s.data.toList := List.take_of_length_le (by simpa using h)
theorem alloc_last (w : World) (o : Obj) : (w.alloc o).heap[w.heap.size]? = some o := by
  show (w.heap.push o)[w.heap.size]? = some o
  simp
set_option maxRecDepth 100000 in
set_option maxHeartbeats 1000000 in
theorem size_good (s : ByteArray) (w : World) (hs : s.size ≤ 2147483648) (hU : Utf8Tabs 1 2 w) (hL : LetTab w) (hz : 9 < w.heap.size) (hV : validD s.data.toList = true) :
    Calls Tryz.prog 77 #[.string s] w fun e w' => e = .returned (.tuple #[.int .i64 (2 + Q.sz s.data.toList : Nat), .int .i64 0]) ∧ Below w.heap.size w w' := by
  have c := valid_any s w (by omega) hU
  rw [hV] at c
  clear hU hV
  go_enter Tryz.func77, Tryz.ntmps77
  go_wp2_with (go_at_call 103; refine c.mono ?_; rintro e w1 ⟨rfl, hb⟩)
  have hL1 : LetTab w1 := hL.below hb (by omega)
  clear c hL
  go_loop [4, 11] (fun z i => ∃ k : Nat, k ≤ s.size ∧ i = .int .i64 k ∧ z = .int .i64 (2 + Q.sz (s.data.toList.take k) : Nat)) (fun _ i => s.size - (RowKit.intOf i).toNat)
  case atStart => exact ⟨0, Nat.zero_le _, rfl, rfl⟩
  case round =>
    obtain ⟨k, hk, rfl, rfl⟩ := hrel
    have hle := Q.sz_le (s.data.toList.take k)
    have hlt : (s.data.toList.take k).length ≤ k := List.length_take_le _ _
    by_cases hlt2 : k < s.size
    · have y1 : (k : Int) < s.size := by omega
      have cw := width_any s[k].toNat s[k].toNat_lt w1 hL1
      have hw := Q.widN_le s[k].toNat
      have HS : Hid (Q.sz (s.data.toList.take (k + 1)) = Q.sz (s.data.toList.take k) + Q.widN s[k].toNat) := by
        show _ = _
        rw [take_snoc s k hlt2, Q.sz_snoc]; rfl
      generalize Q.widN s[k].toNat = W at *
      go_wp2_with (go_at_call 104; refine cw.mono ?_; rintro e w' ⟨rfl, rfl⟩)
      go_round
      case rel => exact ⟨k + 1, by omega, by go_num, by rw [HS.out]; go_num⟩
      case measure => simp [RowKit.intOf]; omega
    · have y1 : ¬ (k : Int) < s.size := by omega
      rw [take_all s k (by omega)] at *
      go_wp2
      go_ret2
      exact ⟨rfl, hb⟩
set_option maxRecDepth 100000 in
set_option maxHeartbeats 2000000 in
theorem quote_good (s : ByteArray) (w : World) (hs : s.size ≤ 2147483648) (hU : Utf8Tabs 1 2 w) (hL : LetTab w) (hz : 9 < w.heap.size) (hV : validD s.data.toList = true) :
    Calls Tryz.prog 58 #[.string s] w fun e w' => e = .returned (.tuple #[.string ⟨(Q.qt s.data.toList).toArray⟩, .int .i64 0]) ∧ Below w.heap.size w w' := by
  have c := size_good s w hs hU hL hz hV
  have hle := Q.sz_le s.data.toList
  have hlen : s.data.toList.length = s.size := by simp
  rw [hlen] at hle
  have hZ : 2 + Q.sz s.data.toList ≤ 281474976710656 := by omega
  clear hU hV hlen
  generalize 2 + Q.sz s.data.toList = Z at *
  go_enter Tryz.func58, Tryz.ntmps58
  go_wp2_with (go_at_call 77; refine c.mono ?_; rintro e w1 ⟨rfl, hb⟩)
  have hL1 : LetTab w1 := hL.below hb (by omega)
  have hs1 := hb.size
  clear c hL
  refine (Tryz.Grow_fresh w1.heap.size w1.heap.size Z _ (Nat.le_refl _) (by exact alloc_last _ _) (by simp) hZ).mono ?_
  rintro e w2 ⟨rfl, g2, b2⟩
  have b2' : Below w1.heap.size w1 w2 := ((Below.refl _ w1).alloc (Nat.le_refl _) _).trans b2
  have hs2 := b2'.size
  have hL2 : LetTab w2 := hL1.below b2' (by omega)
  clear b2
  go_wp2_with fail
  refine (Tryz.WriteByte_k w1.heap.size w1.heap.size [] 34 w2 (.inr (BuilderAtF.of g2)) (by simp) hs2).mono ?_
  rintro e w3 ⟨rfl, g3, b3, -⟩
  have b3' : Below w1.heap.size w1 w3 := b2'.trans b3
  have hs3 := b3'.size
  have hL3 : LetTab w3 := hL1.below b3' (by omega)
  clear b3 b2' g2 hL2
  go_wp2_with fail
  go_loopw [21] (fun i wr => ∃ k : Nat, k ≤ s.size ∧ i = .int .i64 k ∧ IsBuilderF 111 5 w1.heap.size w1.heap.size (byteCells (34 :: Q.body (s.data.toList.take k))) wr ∧ Below w1.heap.size w1 wr) (fun i _ => s.size - (RowKit.intOf i).toNat)
  case atStart => exact ⟨0, Nat.zero_le _, rfl, .inr g3, b3'⟩
  case round =>
    obtain ⟨k, hk, rfl, gk, bk⟩ := hrel
    have hl0 := Q.sz_le (s.data.toList.take k)
    have hl1 : (s.data.toList.take k).length ≤ k := List.length_take_le _ _
    have hbl : (Q.body (s.data.toList.take k)).length ≤ 12884901888 := by unfold Q.sz at hl0; omega
    have hsk := bk.size
    clear g3 hl0
    by_cases hlt : k < s.size
    · have y1 : (k : Int) < s.size := by omega
      have HS : Hid (34 :: Q.body (s.data.toList.take (k + 1)) = (34 :: Q.body (s.data.toList.take k)) ++ Q.esc s[k]) := by
        show _ = _
        rw [take_snoc s k hlt, Q.body_snoc]; rfl
      have hLk : LetTab wr := hL1.below bk (by omega)
      go_wp2_with (go_at_call 80; refine (writeByte_any w1.heap.size w1.heap.size _ s[k] _ gk (by simp; omega) hsk (by omega) hLk).mono ?_; rintro e wn ⟨rfl, gn, bn⟩)
      go_roundw
      case rel => exact ⟨k + 1, by omega, by go_num, by rw [HS.out]; exact gn, bk.trans bn⟩
      case measure => simp [RowKit.intOf]; omega
    · have y1 : ¬ (k : Int) < s.size := by omega
      rw [take_all s k (by omega)] at gk hbl
      go_wp2_with fail
      refine (Tryz.WriteByte_k w1.heap.size w1.heap.size _ 34 _ gk (by simp [byteCells_length]; omega) hsk).mono ?_
      rintro e w4 ⟨rfl, g4, b4, -⟩
      have hs4 := b4.size
      have e4 : byteCells (34 :: Q.body s.data.toList) ++ [Value.int .u8 34] = byteCells (Q.qt s.data.toList) := by
        have := byteCells_snoc (34 :: Q.body s.data.toList) 34
        exact this
      rw [e4] at g4
      go_wp2_with fail
      refine (Tryz.String_any_k w1.heap.size w1.heap.size (Q.qt s.data.toList) _ (.inr g4) (by omega)).mono ?_
      rintro e w5 ⟨rfl, -, b5, -⟩
      go_wp2
      go_ret2
      exact ⟨rfl, hb.trans (((bk.trans b4).trans b5).mono hs1)⟩
end Go.Proofs.YtpmhdcmmlkjjmaaGreatDoor
/- utf8.FullRuneInString; brokenAt. -/
set_option maxRecDepth 100000
namespace Go.Proofs.YtpmhdcmmlkjjmaaGreatDoor
open Go.RowKit Go.Lib
theorem below_drewN' {B : Nat} {a w : World} (h : Below B a w) : ∀ q, Below B a (w.drewN q)
  | 0 => h
  | q + 1 => (below_drewN' h q).drew
set_option maxHeartbeats 2000000 in
set_option maxRecDepth 100000 in
theorem full_long (s : ByteArray) (w : World) (hU : Utf8Tabs 1 2 w) (h0 : 0 < s.size) (hs : s.size ≤ 281474976710656) (hn : firstT s[0].toNat % 8 ≤ s.size) :
    Calls Tryz.prog 185 #[.string s] w fun e w' => e = .returned (.bool true) ∧ Below w.heap.size w w' := by
  have c0 := hU.1 s[0].toNat s[0].toNat_lt
  have y0 : ((s.size : Int) == 0) = false := by rw [beq_eq_false_iff_ne]; omega
  have y1 : (0 : Int) < s.size := by omega
  have hx : firstT s[0].toNat < 256 := by unfold firstT; repeat' split
                                          all_goals omega
  have ha := and7 ⟨firstT s[0].toNat, hx⟩
  simp only at ha
  have y3 : (s[0].toNat : Int) < 256 := by have := s[0].toNat_lt; omega
  generalize firstT s[0].toNat = X at *
  have y2 : (X : Int) % 8 ≤ s.size := by omega
  clear hU
  go_enter Tryz.func185, Tryz.ntmps185
  go_wp2
  go_ret
  exact ⟨rfl, Below.refl _ _⟩
set_option maxHeartbeats 4000000 in
set_option maxRecDepth 100000 in
theorem full_short (s : ByteArray) (w : World) (hU : Utf8Tabs 1 2 w) (h0 : 0 < s.size) (hs : s.size ≤ 281474976710656) (hn : ¬ firstT s[0].toNat % 8 ≤ s.size) (V : Bool)
    (hV : V = ((decide (1 < s.size) && (decide ((s.data.toList.getD 1 0).toNat < accLo (firstT s[0].toNat / 16)) || decide (accHi (firstT s[0].toNat / 16) < (s.data.toList.getD 1 0).toNat))) || (decide (2 < s.size) && (decide ((s.data.toList.getD 2 0).toNat < 128) || decide (191 < (s.data.toList.getD 2 0).toNat))))) :
    Calls Tryz.prog 185 #[.string s] w fun e w' => e = .returned (.bool V) ∧ Below w.heap.size w w' := by
  have c0 := hU.1 s[0].toNat s[0].toNat_lt
  have y0 : ((s.size : Int) == 0) = false := by rw [beq_eq_false_iff_ne]; omega
  have y1 : (0 : Int) < s.size := by omega
  have hx : firstT s[0].toNat < 256 := by unfold firstT; repeat' split
                                          all_goals omega
  have ha := and7 ⟨firstT s[0].toNat, hx⟩
  simp only at ha
  have y3 : (s[0].toNat : Int) < 256 := by have := s[0].toNat_lt; omega
  generalize firstT s[0].toNat = X at *
  have y2 : ¬ (X : Int) % 8 ≤ s.size := by omega
  have hi16 : X / 16 < 16 := by omega
  have t1 := (hU.2 (X / 16) hi16).1
  have t2 := (hU.2 (X / 16) hi16).2
  rw [Nat.mul_comm] at t1 t2
  have y4 : (X : Int) / 16 < 16 := by omega
  generalize accLo (X / 16) = lo at *
  generalize accHi (X / 16) = hi at *
  clear hU
  by_cases e1 : 1 < s.size
  · have z1 : (1 : Int) < s.size := by omega
    have g1 : s.data.toList.getD 1 0 = s[1] := by
      rw [List.getD_eq_getElem?_getD, List.getElem?_eq_getElem (by simpa using e1)]; rfl
    rw [g1] at hV
    by_cases p1 : s[1].toNat < lo
    · have z3 : (s[1].toNat : Int) < lo := by omega
      obtain rfl : V = true := by rw [hV]; simp [e1, p1]
      clear hV g1
      go_enter Tryz.func185, Tryz.ntmps185
      go_wp2
      go_quiet (fail)
      go_wp2
      go_ret
      exact ⟨rfl, below_drewN' ((Below.refl _ w).alloc (Nat.le_refl _) _) nq⟩
    · have z3 : decide ((s[1].toNat : Int) < lo) = false := by simp; omega
      by_cases p2 : hi < s[1].toNat
      · have z4 : (hi : Int) < s[1].toNat := by omega
        obtain rfl : V = true := by rw [hV]; simp [e1, p2]
        clear hV g1
        go_enter Tryz.func185, Tryz.ntmps185
        go_wp2
        go_quiet (fail)
        go_wp2
        go_ret
        exact ⟨rfl, below_drewN' ((Below.refl _ w).alloc (Nat.le_refl _) _) nq⟩
      · have z4 : decide ((hi : Int) < s[1].toNat) = false := by simp; omega
        by_cases e2 : 2 < s.size
        · have z5 : (2 : Int) < s.size := by omega
          have g2 : s.data.toList.getD 2 0 = s[2] := by
            rw [List.getD_eq_getElem?_getD, List.getElem?_eq_getElem (by simpa using e2)]; rfl
          rw [g2] at hV
          by_cases q1 : s[2].toNat < 128
          · have z6 : (s[2].toNat : Int) < 128 := by omega
            obtain rfl : V = true := by rw [hV]; simp [e2, q1]
            clear hV g1 g2
            go_enter Tryz.func185, Tryz.ntmps185
            go_wp2
            go_quiet (fail)
            go_wp2
            go_ret
            exact ⟨rfl, below_drewN' ((Below.refl _ w).alloc (Nat.le_refl _) _) nq⟩
          · have z6 : ¬ (s[2].toNat : Int) < 128 := by omega
            by_cases q2 : 191 < s[2].toNat
            · have z7 : (191 : Int) < s[2].toNat := by omega
              obtain rfl : V = true := by rw [hV]; simp [e2, q2]
              clear hV g1 g2
              go_enter Tryz.func185, Tryz.ntmps185
              go_wp2
              go_quiet (fail)
              go_wp2
              go_ret
              exact ⟨rfl, below_drewN' ((Below.refl _ w).alloc (Nat.le_refl _) _) nq⟩
            · have z7 : ¬ (191 : Int) < s[2].toNat := by omega
              obtain rfl : V = false := by rw [hV]; simp [p1, p2, q1, q2]
              clear hV g1 g2
              go_enter Tryz.func185, Tryz.ntmps185
              go_wp2
              go_quiet (fail)
              go_wp2
              go_ret
              exact ⟨rfl, below_drewN' ((Below.refl _ w).alloc (Nat.le_refl _) _) nq⟩
        · have z5 : ¬ (2 : Int) < s.size := by omega
          obtain rfl : V = false := by rw [hV]; simp [p1, p2, e2]
          clear hV g1
          go_enter Tryz.func185, Tryz.ntmps185
          go_wp2
          go_quiet (fail)
          go_wp2
          go_ret
          exact ⟨rfl, below_drewN' ((Below.refl _ w).alloc (Nat.le_refl _) _) nq⟩
  · have z1 : decide ((1 : Int) < s.size) = false := by simp; omega
    have z2 : decide ((2 : Int) < s.size) = false := by simp; omega
    have hV' : V = false := by rw [hV]; simp [e1]; omega
    subst hV'
    clear hV
    go_enter Tryz.func185, Tryz.ntmps185
    go_wp2
    go_quiet (fail)
    go_wp2
    go_ret
    exact ⟨rfl, below_drewN' ((Below.refl _ w).alloc (Nat.le_refl _) _) nq⟩
theorem full_any (s : ByteArray) (w : World) (hU : Utf8Tabs 1 2 w) (h0 : 0 < s.size) (hs : s.size ≤ 281474976710656) :
    Calls Tryz.prog 185 #[.string s] w fun e w' => e = .returned (.bool (Q.full s.data.toList)) ∧ Below w.heap.size w w' := by
  have hd := drop_consW s 0 h0
  rw [List.drop_zero] at hd
  have hl : (s.data.toList.drop 1).length + 1 = s.size := by simp; omega
  by_cases hn : firstT s[0].toNat % 8 ≤ s.size
  · have e : Q.full s.data.toList = true := by
      rw [hd, Q.full, hl]; simp [hn]
    rw [e]
    exact full_long s w hU h0 hs hn
  · refine full_short s w hU h0 hs hn _ ?_
    rw [hd, Q.full, hl]
    simp [hn]
end Go.Proofs.YtpmhdcmmlkjjmaaGreatDoor
/- Rows of bytes that a call owns: append onto them, and their string. -/
set_option maxRecDepth 100000
namespace Go.Proofs.YtpmhdcmmlkjjmaaGreatDoor
open Go.RowKit
theorem info5 : (Tryz.prog.info? 5).map (fun i => (i.zero, i.size, i.bytes)) = some (some (.int .u8 0), 1, 1) := by kernel_rfl
/-- the slice v owns the bytes l, in a block from B on -/
def OwnB (B : Nat) (v : Value) (l : List UInt8) (w : World) : Prop := w.ownsRow B 5 1 v l.length (Lib.byteCells l)
theorem OwnB.alloc {B : Nat} {v : Value} {l : List UInt8} {w : World} (h : OwnB B v l w) (o : Obj) : OwnB B v l (w.alloc o) := World.ownsRow.alloc h o
theorem OwnB.nil (B : Nat) (w : World) : OwnB B (.slice none 0 0) [] w := World.ownsRow_nil w B 5 1
theorem OwnB.conv {B : Nat} {v : Value} {l : List UInt8} {w : World} (h : OwnB B v l w) : (convert 28 9 v).run Tryz.prog w = .ok (.string ⟨l.toArray⟩) w := by
  rcases h.2 with ⟨hv, h0⟩ | ⟨g, cap, cur, hv, hb, hg, hn, hm, hs, ht⟩
  · have : l = [] := List.length_eq_zero_iff.1 h0
    subst this
    rw [hv]
    exact run_convert_bytes_nil (P := Tryz.prog) w 28 5 Tryz.underlying28 Tryz.underlying5 0 0 9 Tryz.underlying9
  · rw [hv]
    refine run_convert_bytes_back (P := Tryz.prog) w 28 9 5 ⟨g, 0, none⟩ cap l Tryz.underlying28 Tryz.underlying5 Tryz.underlying9 ?_
    intro j hj
    have hu : (Lib.byteCells l)[j]? = some (.int .u8 (l[j].toNat : Int)) := by simp [Lib.byteCells, hj]
    exact World.ownsRow.cells h (g := g) (by rw [hv]; rfl) j _ hu
theorem bytes_oneCell (l : List UInt8) : ∀ u ∈ Lib.byteCells l, u.oneCell' = true := by
  intro u hu
  simp only [Lib.byteCells, List.mem_map] at hu
  obtain ⟨c, _, rfl⟩ := hu
  rfl
end Go.Proofs.YtpmhdcmmlkjjmaaGreatDoor
