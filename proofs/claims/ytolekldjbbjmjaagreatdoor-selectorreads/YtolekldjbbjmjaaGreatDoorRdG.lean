import Derived.Test.YtolekldjbbjmjaaGreatDoorRdF
/- quote's reader: escape, char. -/
set_option linter.unusedSimpArgs false
set_option linter.unusedVariables false
set_option maxRecDepth 100000
namespace Go.Proofs.YtolekldjbbjmjaaGreatDoor
open Go.RowKit Go.Lib
theorem enc_small (v : Nat) (h : v < 128) : encodeRune (v : Int) = [UInt8.ofNat v] := by
  unfold encodeRune
  rw [encodeRuneZ_one (by omega) (by omega)]
  simp
theorem u8_toNat (v : Nat) (h : v < 256) : (UInt8.ofNat v).toNat = v := by simp; omega
theorem drewN_size (w : World) (q : Nat) : (w.drewN q).heap.size = w.heap.size := by
  induction q with
  | zero => rfl
  | succ q ih => exact ih
theorem SaidT.drewN {w : World} (h : SaidT w) (q : Nat) : SaidT (w.drewN q) := by
  induction q with
  | zero => exact h
  | succ q ih => exact ih
theorem Told.mono {B b : Nat} {s : ByteArray} {l : List UInt8} {w w1 : World} {err q : Nat} {ok : Bool} {bs : List UInt8} {e : Ending} {w' : World} (h : Told B b s l w1 err q ok bs e w') (hb : Below B w w1) : Told B b s l w err q ok bs e w' :=
  ⟨h.1, h.2.1, hb.trans h.2.2⟩
set_option maxHeartbeats 4000000 in
set_option maxRecDepth 100000 in
theorem escape_any (B b : Nat) (s : ByteArray) (k : Nat) (l : List UInt8) (w : World) (h : Rd B b s k l w) (hs : s.size ≤ 281474976710656) (hk : k ≤ s.size) (hlen : l.length + 4 ≤ 140737488355328) (hBw : B ≤ w.heap.size) (hT : SaidT w) (hB4 : 4 < B) :
    Calls Tryz.prog 139 #[.pointer (some ⟨b, 0, none⟩)] w (Told B b s l w 12 (k + (Q.escF (s.data.toList.drop k)).2.1) (Q.escF (s.data.toList.drop k)).2.2 (encodeRune ((Q.escF (s.data.toList.drop k)).1 : Int))) := by
  have ct := take_any B b s k l 117 w h hs hk
  have hB := h.1
  cases h117 : hit s k 117
  · rw [h117] at ct
    simp only [Bool.false_eq_true, if_false] at ct
    by_cases hend : k = s.size
    · have e : Q.escF (s.data.toList.drop k) = (0, 0, false) := by rw [drop_endW s k (by omega)]; rfl
      rw [e]
      have y2 : ((k : Int) == (s.size : Int)) = true := by rw [beq_iff_eq]; omega
      have HE : Hid (k = s.size) := hend
      clear e hend h117 hT
      go_enter Tryz.func139, Tryz.ntmps139
      go_wp2_with (go_at_call 132; refine ct.mono ?_; rintro e w1 ⟨rfl, R1, b1⟩)
      obtain ⟨p, v, hr⟩ := R1.at
      have c0 := hr.c0
      have c1 := hr.c1
      clear hr
      go_quiet (fail)
      go_wp2
      go_ret
      exact ⟨rfl, R1.drewN nq, below_drewN b1 nq⟩
    · have hlt : k < s.size := by omega
      have hx := drop_consW s k hlt
      have hne : s[k].toNat ≠ 117 := hit_no h117 _ _ hx
      have y2 : ((k : Int) == (s.size : Int)) = false := by rw [beq_eq_false_iff_ne]; omega
      have y3 : (k : Int) < s.size := by omega
      have e : Q.escF (s.data.toList.drop k) = if Q.saidN s[k].toNat = 0 then (0, 0, false) else (Q.saidN s[k].toNat, 1, true) := by
        rw [hx, Q.escF_cons, if_neg hne]
      rw [e]
      have csd : Hid (∀ w, SaidT w → Calls Tryz.prog 143 #[.int .u8 (s[k].toNat : Int)] w fun e w' => e = .returned (.int .u8 (Q.saidN s[k].toNat)) ∧ w' = w) := fun w hT => said_any s[k].toNat s[k].toNat_lt w hT
      have hsl := Q.saidN_lt s[k].toNat
      generalize Q.saidN s[k].toNat = S at *
      clear e hend h117 hx hne
      by_cases hS : S = 0
      · subst hS
        rw [if_pos rfl]
        go_enter Tryz.func139, Tryz.ntmps139
        go_wp2_with (go_at_call 132; refine ct.mono ?_; rintro e w1 ⟨rfl, R1, b1⟩)
        have hT1 := hT.below b1 hB4
        obtain ⟨p, v, hr⟩ := R1.at
        have c0 := hr.c0
        have c1 := hr.c1
        clear hr
        go_quiet (fail)
        go_wp2
        go_quiet ((go_at_call 143; exact (csd.out _ (hT1.drewN _)).mono (fun _ _ h => ⟨h.1, _, h.2⟩)))
        go_wp2
        go_ret
        exact ⟨rfl, R1.drewN _, below_drewN b1 _⟩
      · rw [if_neg hS, enc_small S (by omega)]
        have hb : ((S : Int) == 0) = false := by rw [beq_eq_false_iff_ne]; omega
        have eS : (UInt8.ofNat S).toNat = S := u8_toNat S (by omega)
        have WB : Hid (∀ w1, Rd B b s k l w1 → B ≤ w1.heap.size → Calls Tryz.prog 23 #[.pointer (some ⟨b, 2, none⟩), .int .u8 (S : Int)] w1 fun e w' => e = .returned .nilIface ∧ Rd B b s k (l ++ [UInt8.ofNat S]) w' ∧ Below B w1 w') := by
          intro w1 R1 hb1
          have := writeByte_rd B b s k l (UInt8.ofNat S) w1 R1 (by omega) hb1
          rw [eS] at this
          exact this
        generalize UInt8.ofNat S = C at *
        clear eS hlen
        go_enter Tryz.func139, Tryz.ntmps139
        go_wp2_with (go_at_call 132; refine ct.mono ?_; rintro e w1 ⟨rfl, R1, b1⟩)
        have hT1 := hT.below b1 hB4
        have s1 := b1.size
        obtain ⟨p, v, hr⟩ := R1.at
        have c0 := hr.c0
        have c1 := hr.c1
        clear hr
        go_quiet (fail)
        go_wp2
        go_quiet ((go_at_call 143; exact (csd.out _ (hT1.drewN _)).mono (fun _ _ h => ⟨h.1, _, h.2⟩)))
        go_wp2_with fail
        refine (WB.out _ (R1.drewN _) (by rw [drewN_size]; omega)).mono ?_
        rintro e w2 ⟨rfl, R2, b2⟩
        obtain ⟨p2, v2, hr2⟩ := R2.at
        have g1 := hr2.c1
        have f1 := hr2.fz 1
        clear hr2
        go_wp2
        go_ret
        exact ⟨rfl, R2.put1 (k + 1) _ (by omega), ((below_drewN b1 _).trans b2).setCell (p := ⟨b, 1, none⟩) hB _⟩
  · obtain ⟨hlt, he⟩ := hit_yes h117
    rw [h117] at ct
    simp only [if_true] at ct
    have hx := drop_consW s k hlt
    have e : Q.escF (s.data.toList.drop k) = ((Q.numF (s.data.toList.drop (k + 1))).1, 1 + (Q.numF (s.data.toList.drop (k + 1))).2.1, (Q.numF (s.data.toList.drop (k + 1))).2.2) := by
      rw [hx, Q.escF_cons, if_pos he]
    rw [e]
    simp only
    rw [← Nat.add_assoc]
    have CN : Hid (∀ w1, Rd B b s (k + 1) l w1 → B ≤ w1.heap.size → Calls Tryz.prog 142 #[.pointer (some ⟨b, 0, none⟩)] w1 (Told B b s l w1 12 (k + 1 + (Q.numF (s.data.toList.drop (k + 1))).2.1) (Q.numF (s.data.toList.drop (k + 1))).2.2 (encodeRune ((Q.numF (s.data.toList.drop (k + 1))).1 : Int)))) :=
      fun w1 R1 hb1 => number_any B b s (k + 1) l w1 R1 hs (by omega) hlen hb1
    generalize Q.numF (s.data.toList.drop (k + 1)) = F at *
    obtain ⟨f1, f2, f3⟩ := F
    simp only at *
    generalize encodeRune (f1 : Int) = T at *
    clear e hx he h117 hlen hT
    cases f3
    all_goals
      go_enter Tryz.func139, Tryz.ntmps139
      go_wp2_with (go_at_call 132; refine ct.mono ?_; rintro e w1 ⟨rfl, R1, b1⟩)
      refine (CN.out w1 R1 (by have := b1.size; omega)).mono ?_
      rintro e w2 ht
      have ht2 := ht.mono b1
      obtain ⟨rfl, ht3⟩ := ht
      simp only [Bool.false_eq_true, if_false, if_true]
      go_wp2
      go_ret
      exact ⟨rfl, ht2.2.1, ht2.2.2⟩
set_option maxHeartbeats 4000000 in
set_option maxRecDepth 100000 in
theorem char_any (B b : Nat) (s : ByteArray) (k : Nat) (l : List UInt8) (w : World) (h : Rd B b s k l w) (hs : s.size ≤ 281474976710656) (hk : k < s.size) (h32 : 32 ≤ s[k].toNat) (h34 : s[k].toNat ≠ 34) (hlen : l.length + 4 ≤ 140737488355328) (hBw : B ≤ w.heap.size) (hT : SaidT w) (hU : Utf8Tabs 0 1 w) (hB4 : 4 < B) :
    Calls Tryz.prog 133 #[.pointer (some ⟨b, 0, none⟩)] w (Told B b s l w (Q.stp (s.data.toList.drop k)).2.2.2 (k + (Q.stp (s.data.toList.drop k)).2.2.1) (decide ((Q.stp (s.data.toList.drop k)).1 = 2)) (Q.stp (s.data.toList.drop k)).2.1) := by
  have ct := take_any B b s k l 92 w h hs (by omega)
  have hB := h.1
  have hx := drop_consW s k hk
  have est := Q.stp_cons s[k] (s.data.toList.drop (k + 1))
  rw [← hx, if_neg (by omega), if_neg h34] at est
  cases h92 : hit s k 92
  · have hne : s[k].toNat ≠ 92 := hit_no h92 _ _ hx
    rw [h92] at ct
    simp only [Bool.false_eq_true, if_false] at ct
    rw [if_neg hne] at est
    have y3 : (k : Int) < s.size := by omega
    by_cases h128 : s[k].toNat < 128
    · have hn : Q.nxt (s.data.toList.drop k) = (1, true) := by
        rw [hx, Q.nxt_cons]
        have e1 : Q.bnd s[k].toNat = (1, 0, 0) := by simp [Q.bnd, h128]
        rw [e1]
        cases s.data.toList.drop (k + 1) <;> simp [Q.nxtGo]
      rw [hn] at est
      simp only [if_true] at est
      have e2 : (s.data.toList.drop k).take 1 = [s[k]] := by rw [hx]; rfl
      rw [est, e2]
      have y4 : (s[k].toNat : Int) < 128 := by omega
      have WB : Hid (∀ w1, Rd B b s k l w1 → B ≤ w1.heap.size → Calls Tryz.prog 23 #[.pointer (some ⟨b, 2, none⟩), .int .u8 (s[k].toNat : Int)] w1 fun e w' => e = .returned .nilIface ∧ Rd B b s k (l ++ [s[k]]) w' ∧ Below B w1 w') :=
        fun w1 R1 hb1 => writeByte_rd B b s k l s[k] w1 R1 (by omega) hb1
      clear est e2 hn hne h92 hx hlen hT hU
      go_enter Tryz.func133, Tryz.ntmps133
      go_wp2_with (go_at_call 132; refine ct.mono ?_; rintro e w1 ⟨rfl, R1, b1⟩)
      have s1 := b1.size
      obtain ⟨p, v, hr⟩ := R1.at
      have c0 := hr.c0
      have c1 := hr.c1
      clear hr
      go_quiet (fail)
      go_wp2_with fail
      refine (WB.out _ (R1.drewN _) (by rw [drewN_size]; omega)).mono ?_
      rintro e w2 ⟨rfl, R2, b2⟩
      obtain ⟨p2, v2, hr2⟩ := R2.at
      have g1 := hr2.c1
      have f1 := hr2.fz 1
      clear hr2
      go_wp2
      go_ret
      exact ⟨rfl, R2.put1 (k + 1) _ (by omega), ((below_drewN b1 _).trans b2).setCell (p := ⟨b, 1, none⟩) hB _⟩
    · have y4 : ¬ (s[k].toNat : Int) < 128 := by omega
      cases hok : (Q.nxt (s.data.toList.drop k)).2
      · rw [if_neg (by rw [hok]; simp)] at est
        rw [est]
        have CS : Hid (∀ w1, Rd B b s k l w1 → B ≤ w1.heap.size → Utf8Tabs 0 1 w1 → Calls Tryz.prog 140 #[.pointer (some ⟨b, 0, none⟩)] w1 fun e w' => e = .returned (.int .i64 11) ∧ Rd B b s (k + (Q.nxt (s.data.toList.drop k)).1) l w' ∧ Below B w1 w') :=
          fun w1 R1 hb1 hU1 => sequence_bad B b s k l w1 R1 hs hb1 hU1 (by omega) hk (by omega) hok
        clear est hok hne h92 hx hlen hT
        generalize (Q.nxt (s.data.toList.drop k)).1 = N at *
        go_enter Tryz.func133, Tryz.ntmps133
        go_wp2_with (go_at_call 132; refine ct.mono ?_; rintro e w1 ⟨rfl, R1, b1⟩)
        have s1 := b1.size
        have hU1 := utab_below hU b1 (by omega)
        obtain ⟨p, v, hr⟩ := R1.at
        have c0 := hr.c0
        have c1 := hr.c1
        clear hr
        go_quiet (fail)
        go_wp2_with fail
        refine (CS.out _ (R1.drewN _) (by rw [drewN_size]; omega) (utab_below hU1 (below_drewN (Below.refl 5 w1) _) (by omega))).mono ?_
        rintro e w2 ⟨rfl, R2, b2⟩
        go_wp2
        go_ret
        exact ⟨rfl, R2, (below_drewN b1 _).trans b2⟩
      · rw [if_pos hok] at est
        rw [est]
        have CS : Hid (∀ w1, Rd B b s k l w1 → B ≤ w1.heap.size → Utf8Tabs 0 1 w1 → Calls Tryz.prog 140 #[.pointer (some ⟨b, 0, none⟩)] w1 fun e w' => e = .returned (.int .i64 0) ∧ Rd B b s (k + (Q.nxt (s.data.toList.drop k)).1) (l ++ (s.data.toList.drop k).take (Q.nxt (s.data.toList.drop k)).1) w' ∧ Below B w1 w') :=
          fun w1 R1 hb1 hU1 => sequence_good B b s k l w1 R1 hs hlen hb1 hU1 (by omega) hk (by omega) hok
        clear est hok hne h92 hx hlen hT
        generalize (s.data.toList.drop k).take (Q.nxt (s.data.toList.drop k)).1 = T at *
        generalize (Q.nxt (s.data.toList.drop k)).1 = N at *
        go_enter Tryz.func133, Tryz.ntmps133
        go_wp2_with (go_at_call 132; refine ct.mono ?_; rintro e w1 ⟨rfl, R1, b1⟩)
        have s1 := b1.size
        have hU1 := utab_below hU b1 (by omega)
        obtain ⟨p, v, hr⟩ := R1.at
        have c0 := hr.c0
        have c1 := hr.c1
        clear hr
        go_quiet (fail)
        go_wp2_with fail
        refine (CS.out _ (R1.drewN _) (by rw [drewN_size]; omega) (utab_below hU1 (below_drewN (Below.refl 5 w1) _) (by omega))).mono ?_
        rintro e w2 ⟨rfl, R2, b2⟩
        go_wp2
        go_ret
        exact ⟨rfl, R2, (below_drewN b1 _).trans b2⟩
  · obtain ⟨hlt, he⟩ := hit_yes h92
    rw [h92] at ct
    simp only [if_true] at ct
    rw [if_pos he] at est
    have CE : Hid (∀ w1, Rd B b s (k + 1) l w1 → B ≤ w1.heap.size → SaidT w1 → Calls Tryz.prog 139 #[.pointer (some ⟨b, 0, none⟩)] w1 (Told B b s l w1 12 (k + 1 + (Q.escF (s.data.toList.drop (k + 1))).2.1) (Q.escF (s.data.toList.drop (k + 1))).2.2 (encodeRune ((Q.escF (s.data.toList.drop (k + 1))).1 : Int)))) :=
      fun w1 R1 hb1 hT1 => escape_any B b s (k + 1) l w1 R1 hs (by omega) hlen hb1 hT1 hB4
    generalize Q.escF (s.data.toList.drop (k + 1)) = F at *
    obtain ⟨f1, f2, f3⟩ := F
    simp only at *
    generalize encodeRune (f1 : Int) = T at *
    cases f3
    · rw [if_neg (by simp)] at est
      rw [est]
      simp only
      rw [← Nat.add_assoc]
      clear est hx he h92 hlen hU
      go_enter Tryz.func133, Tryz.ntmps133
      go_wp2_with (go_at_call 132; refine ct.mono ?_; rintro e w1 ⟨rfl, R1, b1⟩)
      refine (CE.out w1 R1 (by have := b1.size; omega) (hT.below b1 hB4)).mono ?_
      rintro e w2 ht
      have ht2 := ht.mono b1
      obtain ⟨rfl, ht3⟩ := ht
      simp only [Bool.false_eq_true, if_false, if_true]
      go_wp2
      go_ret
      exact ⟨rfl, ht2.2.1, ht2.2.2⟩
    · rw [if_pos rfl] at est
      rw [est]
      simp only
      rw [← Nat.add_assoc]
      clear est hx he h92 hlen hU
      go_enter Tryz.func133, Tryz.ntmps133
      go_wp2_with (go_at_call 132; refine ct.mono ?_; rintro e w1 ⟨rfl, R1, b1⟩)
      refine (CE.out w1 R1 (by have := b1.size; omega) (hT.below b1 hB4)).mono ?_
      rintro e w2 ht
      have ht2 := ht.mono b1
      obtain ⟨rfl, ht3⟩ := ht
      simp only [Bool.false_eq_true, if_false, if_true]
      go_wp2
      go_ret
      exact ⟨rfl, ht2.2.1, ht2.2.2⟩
end Go.Proofs.YtolekldjbbjmjaaGreatDoor
