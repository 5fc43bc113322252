/- joined: JdB JdC -/
import Derived.Test.YtpmhdcmmlkjjmaaGreatDoorJdA
import Derived.Test.YtpmhdcmmlkjjmaaGreatDoorH22
/- the document's reader: word, text, more. -/
set_option linter.unusedSimpArgs false
set_option linter.unusedVariables false
set_option maxRecDepth 100000
namespace Go.Proofs.YtpmhdcmmlkjjmaaGreatDoor
open Go.RowKit Go.Lib
set_option maxHeartbeats 8000000 in
theorem dword_any (g : Nat) (s p : ByteArray) (k n D bd : Nat) (w : World) (h : JD g s k n D 0 bd w) (hs : s.size ≤ 281474976710656) (hk : k ≤ s.size) (hp : p.size ≤ 100) :
    Calls Tryz.prog 51 #[.pointer (some ⟨g, 0, none⟩), .string p] w (DP (.tuple #[]) (wordJ s.data.toList k p.data.toList) (fun k' e w' => e = .returned (.tuple #[]) ∧ JD g s k' n D 0 bd w') g s D w) := by
  have hll : s.data.toList.length = s.size := by simp
  have HLL := hmk hll
  have CF : Hid (∀ (W : World) (i er : Nat), JD g s i n D 0 bd W → Calls Tryz.prog 36 #[.pointer (some ⟨g, 0, none⟩), .int .i64 (i : Int), .int .i64 (er : Int)] W fun e w' => e = .returned (.tuple #[]) ∧ JD g s i n D er i w' ∧ W.grownBy w' (some g)) := fun W i er hW => dfail_any g s i n D bd i er W hW
  clear hll
  go_enter Tryz.func51, Tryz.ntmps51
  go_wp2
  go_loopw [4] (fun e4 wr => ∃ i : Nat, i ≤ p.size ∧ e4 = .int .i64 (i : Int) ∧ k + i ≤ s.size ∧ JD g s (k + i) n D 0 bd wr ∧ w.grownBy wr (some g) ∧ Hid (wordJ s.data.toList k p.data.toList = wordJ s.data.toList (k + i) (p.data.toList.drop i))) (fun e4 _ => p.size - (RowKit.intOf e4).toNat)
  case atStart => exact ⟨0, Nat.zero_le _, rfl, hk, h, World.grownBy.refl _ _, hmk rfl⟩
  case round =>
    obtain ⟨i, hi, rfl, hki, R, gr, HW⟩ := hrel
    clear h
    have c0 := R.c0
    have c1 := R.c1
    have f1 := R.fz 1
    have HR := hmk R
    clear R
    by_cases hlt : i < p.size
    · have y1 : (i : Int) < p.size := by omega
      by_cases hks : k + i < s.size
      · have y2 : ((k : Int) + i) < s.size := by omega
        have y3 : (((k + i : Nat) : Int) == (s.size : Int)) = false := by rw [beq_eq_false_iff_ne]; omega
        have y4 : ((k + i : Nat) : Int) < s.size := by omega
        by_cases he : s[k + i] = p[i]
        · have y5 : ((s[k + i].toNat : Int) != (p[i].toNat : Int)) = false := by rw [he]; simp
          have HW3 : Hid (wordJ s.data.toList k p.data.toList = wordJ s.data.toList (k + i + 1) (p.data.toList.drop (i + 1))) := by
            show _ = _
            rw [HW.out, drop_at p i hlt, wordJ_go (mustJ_yes (by rw [HLL.out]; exact hks) he)]
          clear HW
          generalize hK : k + i = K at *
          go_wp2
          go_quiet (fail)
          go_wp2
          go_quiet (fail)
          go_wp2
          go_round
          case measure => simp only [RowKit.intOf]; omega
          case rel => exact ⟨i + 1, by omega, by simp, by omega, by rw [← Nat.add_assoc, hK]; exact (HR.out.drewN _).put (K + 1) _ (by omega), grown_set (grown_drewN gr _) _ _, by rw [← Nat.add_assoc, hK]; exact HW3⟩
        · have y5 : ((s[k + i].toNat : Int) != (p[i].toNat : Int)) = true := by
            rw [bne_iff_ne]
            intro q
            exact he (UInt8.toNat_inj.1 (by omega))
          have HW3 : Hid (wordJ s.data.toList k p.data.toList = .error (k + i, 32)) := by
            show _ = _
            rw [HW.out, drop_at p i hlt, wordJ_no (mustJ_no (by rw [HLL.out]; exact hks) he)]
          clear HW
          generalize hK : k + i = K at *
          go_wp2
          go_quiet (fail)
          go_wp2
          go_quiet (fail)
          go_wp2_with fail
          refine (CF.out _ K 32 (HR.out.drewN _)).mono ?_
          rintro e w2 ⟨rfl, R2, g2⟩
          go_wp2_with fail
          refine bodyPost_ret (v := .tuple #[]) (results_none rfl _ _ _) rfl ?_
          rw [HW3.out]
          exact ⟨⟨_, _, rfl, R2, by simp⟩, grown_trans (grown_drewN gr _) g2⟩
      · have y3 : (((k + i : Nat) : Int) == (s.size : Int)) = true := by rw [beq_iff_eq]; omega
        have HW3 : Hid (wordJ s.data.toList k p.data.toList = .error (k + i, 31)) := by
          show _ = _
          rw [HW.out, drop_at p i hlt, wordJ_no (mustJ_end (by rw [HLL.out]; omega))]
        clear HW
        generalize hK : k + i = K at *
        go_wp2
        go_quiet (fail)
        go_wp2_with fail
        refine (CF.out _ K 31 (HR.out.drewN _)).mono ?_
        rintro e w2 ⟨rfl, R2, g2⟩
        go_wp2_with fail
        refine bodyPost_ret (v := .tuple #[]) (results_none rfl _ _ _) rfl ?_
        rw [HW3.out]
        exact ⟨⟨_, _, rfl, R2, by simp⟩, grown_trans (grown_drewN gr _) g2⟩
    · obtain rfl : i = p.size := by omega
      go_wp2
      go_end0
      have e : p.data.toList.drop p.size = [] := List.drop_eq_nil_of_le (by simp)
      rw [HW.out, e, wordJ]
      exact ⟨⟨rfl, HR.out⟩, gr⟩
set_option maxHeartbeats 4000000 in
theorem dtext_any (g : Nat) (s : ByteArray) (k n D bd : Nat) (w : World) (h : JD g s k n D 0 bd w) (hs : s.size ≤ 100000000) (hk : k < s.size) (h34 : s[k] = 34) :
    Calls Tryz.prog 52 #[.pointer (some ⟨g, 0, none⟩)] w (DP (.string ⟨#[]⟩) (quoJ s.data.toList k) (fun x e w' => e = .returned (.string x.1) ∧ JD g s x.2 n D 0 bd w') g s D w) := by
  have hlt := h.lt
  have X0 : ∀ x : Sub w.heap.size w, x.w.cell? ⟨g, 0, none⟩ = some (.string s) := sub_cell h.c0 hlt
  have X1 : ∀ x : Sub w.heap.size w, x.w.cell? ⟨g, 1, none⟩ = some (.int .i64 (k : Int)) := sub_cell h.c1 hlt
  obtain ⟨r, pl, er, hR⟩ : ∃ r pl er, Q.unqAll s.data.toList (k : Int) = (r, pl, er) := ⟨_, _, _, rfl⟩
  have hhit : hit s k 34 = true := by
    rw [hit, decide_eq_true_eq]
    exact ⟨hk, by rw [h34]; rfl⟩
  have CU : Hid (∀ x : Sub w.heap.size w, Calls Tryz.prog 73 #[.string s, .int .i64 (k : Int)] x.w fun e w'' => e = .returned (.tuple #[.string ⟨r.toArray⟩, .int .i64 (pl : Int), .int .i64 (er : Int)]) ∧ ∃ y : Sub w.heap.size w, w'' = y.w) := fun x => by
    have hu := Q.unqAll_in s k (by omega)
    rw [if_pos hhit, hR] at hu
    have c := refUnquote_yes s k x.w (by omega) hhit (r, pl, er) hu.symm
    refine c.mono ?_
    rintro e w' ⟨rfl, b⟩
    exact ⟨rfl, ⟨w', x.b.trans (b.mono x.b.size)⟩, rfl⟩
  have CF : Hid (∀ W, JD g s k n D 0 bd W → Calls Tryz.prog 36 #[.pointer (some ⟨g, 0, none⟩), .int .i64 (pl : Int), .int .i64 (er : Int)] W fun e w' => e = .returned (.tuple #[]) ∧ JD g s k n D er pl w' ∧ W.grownBy w' (some g)) := fun W hW => dfail_any g s k n D bd pl er W hW
  have HR := hmk hR
  have HH := hmk h
  clear h hR hhit h34
  by_cases h0 : er = 0
  · have y0 : ((er : Int) != 0) = false := by rw [bne_eq_false_iff_eq]; omega
    have HQ := hmk (quoJ_yes HR.out h0)
    clear h0
    go_enter Tryz.func52, Tryz.ntmps52
    go_wp2_with fail
    refine wp_region_sub w.heap.size (by kernel_rfl) (by kernel_rfl) ?_
    repeat (go_big_quiet_step (first | exact CU.out _))
    refine wpQuiet_nil ?_
    rintro wq ⟨⟨wq', bq⟩, hq⟩
    have hq' : wq = wq' := hq
    subst hq'
    clear hq
    have P1 := HH.out.keep bq
    have f1 := P1.fz 1
    have c1 := P1.c1
    go_wp2_with fail
    go_ret
    rw [HQ.out]
    exact ⟨⟨rfl, P1.put pl _ rfl⟩, grown_set (grown_belowS bq g) _ _⟩
  · have y0 : ((er : Int) != 0) = true := by rw [bne_iff_ne]; omega
    have HQ := hmk (quoJ_no HR.out h0)
    have HN0 : Hid (er ≠ 0) := h0
    clear h0
    go_enter Tryz.func52, Tryz.ntmps52
    go_wp2_with fail
    refine wp_region_sub w.heap.size (by kernel_rfl) (by kernel_rfl) ?_
    repeat (go_big_quiet_step (first | exact CU.out _))
    refine wpQuiet_nil ?_
    rintro wq ⟨⟨wq', bq⟩, hq⟩
    have hq' : wq = wq' := hq
    subst hq'
    clear hq
    have P1 := HH.out.keep bq
    go_wp2_with fail
    refine (CF.out _ P1).mono ?_
    rintro e w2 ⟨rfl, R2, g2⟩
    go_wp2_with fail
    go_ret
    rw [HQ.out]
    exact ⟨⟨_, _, rfl, R2, HN0.out⟩, grown_trans (grown_belowS bq g) g2⟩
end Go.Proofs.YtpmhdcmmlkjjmaaGreatDoor
/- the document's reader: more. -/
set_option maxRecDepth 100000
namespace Go.Proofs.YtpmhdcmmlkjjmaaGreatDoor
open Go.RowKit Go.Lib
theorem blk_again {l : List UInt8} {k : Nat} (hk : k ≤ l.length) : blk l (blk l k) = blk l k := by
  have h := blk_le hk
  rcases Nat.lt_or_ge (blk l k) l.length with q | q
  · refine blk_stop q ?_
    cases hb : isBl l[blk l k]
    · rfl
    · exfalso
      have hd : l.drop k = (l.drop k).takeWhile isBl ++ (l.drop k).dropWhile isBl := List.takeWhile_append_dropWhile.symm
      have hl : (l.drop k)[((l.drop k).takeWhile isBl).length]? = some l[blk l k] := by
        rw [List.getElem?_drop]
        exact List.getElem?_eq_getElem q
      rw [hd] at hl
      rw [List.getElem?_append_right (by rw [← hd]; exact Nat.le_refl _)] at hl
      rw [← hd, Nat.sub_self] at hl
      cases hw : (l.drop k).dropWhile isBl with
      | nil => rw [hw] at hl; cases hl
      | cons c t =>
        rw [hw] at hl
        have hc : c = l[blk l k] := by simpa using hl
        have := List.head_dropWhile_not isBl (l := l.drop k) (by rw [hw]; simp)
        simp [hw] at this
        rw [hc, hb] at this
        cases this
  · exact blk_end q
/-- behind an element, as the document says it: the place is right behind the byte -/
def morJ (l : List UInt8) (k : Nat) (c : UInt8) : Except Flt (Bool × Nat) := match l[blk l k]? with
  | none => .error (blk l k, 31)
  | some b => if b = 44 then .ok (true, blk l k + 1) else if b = c then .ok (false, blk l k + 1) else .error (blk l k, 32)
theorem morJ_end {l : List UInt8} {k : Nat} {c : UInt8} (h : l.length ≤ blk l k) : morJ l k c = .error (blk l k, 31) := by rw [morJ, List.getElem?_eq_none h]
theorem morJ_comma {l : List UInt8} {k : Nat} {c : UInt8} (h : blk l k < l.length) (e : l[blk l k] = 44) : morJ l k c = .ok (true, blk l k + 1) := by rw [morJ, List.getElem?_eq_getElem h]; dsimp only; rw [if_pos e]
theorem morJ_close {l : List UInt8} {k : Nat} {c : UInt8} (h : blk l k < l.length) (e : ¬ l[blk l k] = 44) (e2 : l[blk l k] = c) : morJ l k c = .ok (false, blk l k + 1) := by rw [morJ, List.getElem?_eq_getElem h]; dsimp only; rw [if_neg e, if_pos e2]
theorem morJ_byte {l : List UInt8} {k : Nat} {c : UInt8} (h : blk l k < l.length) (e : ¬ l[blk l k] = 44) (e2 : ¬ l[blk l k] = c) : morJ l k c = .error (blk l k, 32) := by rw [morJ, List.getElem?_eq_getElem h]; dsimp only; rw [if_neg e, if_neg e2]
/-- the two say the same -/
theorem goes_mor (l : List UInt8) (k : Nat) (c : UInt8) : goesJ l k c = (match morJ l k c with | .error f => .error f | .ok y => .ok (y.1, if y.1 = true then blk l y.2 else y.2)) := by
  rcases Nat.lt_or_ge (blk l k) l.length with h | h
  · by_cases e : l[blk l k] = 44
    · rw [morJ_comma h e, goesJ_more (by rw [tkJ, List.getElem?_eq_getElem h, e]; rfl)]
      rfl
    · have ht : tkJ l (blk l k) 44 = false := by rw [tkJ, List.getElem?_eq_getElem h]; simp [e]
      by_cases e2 : l[blk l k] = c
      · rw [morJ_close h e e2, goesJ_end ht (mustJ_yes h e2)]
        rfl
      · rw [morJ_byte h e e2, goesJ_no ht (mustJ_no h e2)]
  · have ht : tkJ l (blk l k) 44 = false := by rw [tkJ, List.getElem?_eq_none h]; rfl
    rw [morJ_end h, goesJ_no ht (mustJ_end h)]
set_option maxHeartbeats 8000000 in
theorem dmore_any (g : Nat) (s : ByteArray) (k n D bd : Nat) (c : UInt8) (w : World) (h : JD g s k n D 0 bd w) (hs : s.size ≤ 281474976710656) (hk : k ≤ s.size) :
    Calls Tryz.prog 74 #[.pointer (some ⟨g, 0, none⟩), .int .u8 (c.toNat : Int)] w (DP (.bool false) (morJ s.data.toList k c) (fun x e w' => e = .returned (.bool x.1) ∧ JD g s x.2 n D 0 bd w') g s D w) := by
  have hll : s.data.toList.length = s.size := by simp
  have hb := blk_le (l := s.data.toList) (k := k) (by rw [hll]; exact hk)
  rw [hll] at hb
  by_cases hlt : blk s.data.toList k < s.size
  · have CN := hmk (dnext_yes g s k n D 0 bd w h hs hk hlt)
    have CF : Hid (∀ W, JD g s (blk s.data.toList k) n D 0 bd W → Calls Tryz.prog 36 #[.pointer (some ⟨g, 0, none⟩), .int .i64 ((blk s.data.toList k : Nat) : Int), .int .i64 32] W fun e w' => e = .returned (.tuple #[]) ∧ JD g s (blk s.data.toList k) n D 32 (blk s.data.toList k) w' ∧ W.grownBy w' (some g)) := fun W hW => dfail_any g s _ n D bd _ 32 W hW
    have H1 := hmk (@morJ_comma s.data.toList k c (by rw [hll]; exact hlt))
    have H2 := hmk (@morJ_close s.data.toList k c (by rw [hll]; exact hlt))
    have H3 := hmk (@morJ_byte s.data.toList k c (by rw [hll]; exact hlt))
    have eg : s.data.toList[blk s.data.toList k]'(by rw [hll]; exact hlt) = s[blk s.data.toList k] := rfl
    rw [eg] at H1 H2 H3
    clear eg h
    generalize s[blk s.data.toList k] = b at *
    generalize blk s.data.toList k = K at *
    by_cases e : b = 44
    · have HE := hmk (H1.out e)
      have y1 : ((b.toNat : Int) != 44) = false := by rw [e]; rfl
      have y2 : ((b.toNat : Int) == 44) = true := by rw [e]; rfl
      clear H1 H2 H3 e CF
      go_enter Tryz.func74, Tryz.ntmps74
      go_wp2_with fail
      refine CN.out.mono ?_
      rintro en w1 ⟨rfl, R1, g1⟩
      have c4 := R1.c4
      have c1 := R1.c1
      have f1 := R1.fz 1
      have HR := hmk R1
      clear R1 CN
      go_wp2_with fail
      go_ret
      rw [HE.out]
      exact ⟨⟨rfl, HR.out.put (K + 1) _ (by omega)⟩, grown_set g1 _ _⟩
    · have y1 : ((b.toNat : Int) != 44) = true := by rw [bne_iff_ne]; intro q; exact e (UInt8.toNat_inj.1 (by show b.toNat = 44; omega))
      have y2 : ((b.toNat : Int) == 44) = false := by rw [beq_eq_false_iff_ne]; intro q; exact e (UInt8.toNat_inj.1 (by show b.toNat = 44; omega))
      by_cases e2 : b = c
      · have HE := hmk (H2.out e e2)
        have y3 : ((b.toNat : Int) != (c.toNat : Int)) = false := by rw [e2]; simp
        clear H1 H2 H3 e CF e2
        go_enter Tryz.func74, Tryz.ntmps74
        go_wp2_with fail
        refine CN.out.mono ?_
        rintro en w1 ⟨rfl, R1, g1⟩
        have c4 := R1.c4
        have c1 := R1.c1
        have f1 := R1.fz 1
        have HR := hmk R1
        clear R1 CN
        go_wp2_with fail
        go_ret
        rw [HE.out]
        exact ⟨⟨rfl, HR.out.put (K + 1) _ (by omega)⟩, grown_set g1 _ _⟩
      · have HE := hmk (H3.out e e2)
        have y3 : ((b.toNat : Int) != (c.toNat : Int)) = true := by rw [bne_iff_ne]; intro q; exact e2 (UInt8.toNat_inj.1 (by omega))
        clear H1 H2 H3 e e2
        go_enter Tryz.func74, Tryz.ntmps74
        go_wp2_with fail
        refine CN.out.mono ?_
        rintro en w1 ⟨rfl, R1, g1⟩
        have c4 := R1.c4
        have c1 := R1.c1
        have HR := hmk R1
        clear R1 CN
        go_wp2_with fail
        refine (CF.out _ HR.out).mono ?_
        rintro en w2 ⟨rfl, R2, g2⟩
        go_wp2_with fail
        go_ret
        rw [HE.out]
        exact ⟨⟨_, _, rfl, R2, by simp⟩, grown_trans g1 g2⟩
  · have hbe : blk s.data.toList k = s.size := by omega
    have CN := hmk (dnext_end g s k n D bd w h hs hk hbe)
    have HE : Hid (morJ s.data.toList k c = .error (s.size, 31)) := by
      show _ = _
      rw [morJ_end (by rw [hll]; omega), hbe]
    clear h
    go_enter Tryz.func74, Tryz.ntmps74
    go_wp2_with fail
    refine CN.out.mono ?_
    rintro en w1 ⟨rfl, R1, g1⟩
    have c4 := R1.c4
    have HR := hmk R1
    clear R1 CN
    go_wp2_with fail
    go_ret
    rw [HE.out]
    exact ⟨⟨_, _, rfl, HR.out, by simp⟩, g1⟩
end Go.Proofs.YtpmhdcmmlkjjmaaGreatDoor
