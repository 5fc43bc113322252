/- joined: RdG RdH RdrA -/
import Derived.Test.YtdgfjdhobdfglaaGreatDoorG23
import Derived.Deep.LoopGhost
set_option linter.unusedSimpArgs false
set_option linter.unusedVariables false
set_option maxRecDepth 100000
set_option maxHeartbeats 64000000
namespace Go.Proofs.YtdgfjdhobdfglaaGreatDoor
open Go.RowKit Go.Lib
theorem enc_small (v : Nat) (h : v < 128) : encodeRune (v : Int) = [UInt8.ofNat v] := by
 unfold encodeRune
 rw [encodeRuneZ_one (by omega) (by omega)]
 simp
theorem u8_toNat (v : Nat) (h : v < 256) : (UInt8.ofNat v).toNat = v := by simp; omega
theorem drewN_size (w : World) (q : Nat) : (w.drewN q).heap.size = w.heap.size := by
 induction q with
 | zero => rfl
 | succ q ih => exact ih
theorem SaidT.drewN {w : World} (h : SaidT w) (q : Nat) : SaidT (w.drewN q) := by
 induction q with
 | zero => exact h
 | succ q ih => exact ih
theorem Told.mono {B b : Nat} {s : ByteArray} {l : List UInt8} {w w1 : World} {err q : Nat} {ok : Bool} {bs : List UInt8} {e : Ending} {w' : World} (h : Told B b s l w1 err q ok bs e w') (hb : Below B w w1) : Told B b s l w err q ok bs e w' :=
 ⟨h.1, h.2.1, hb.trans h.2.2⟩
theorem escape_any (B b : Nat) (s : ByteArray) (k : Nat) (l : List UInt8) (w : World) (h : Rd B b s k l w) (hs : s.size <= 281474976710656) (hk : k <= s.size) (hlen : l.length + 4 <= 140737488355328) (hBw : B <= w.heap.size) (hT : SaidT w) (hB4 : 9 < B) :
 Calls Tryz.prog 181 #[.pointer (some ⟨b, 0, none⟩)] w (Told B b s l w 12 (k + (Q.escF (s.data.toList.drop k)).2.1) (Q.escF (s.data.toList.drop k)).2.2 (encodeRune ((Q.escF (s.data.toList.drop k)).1 : Int))) := by
 have ct := take_any B b s k l 117 w h hs hk
 have hB := h.1
 cases h117 : hit s k 117
 ·rw [h117] at ct
  simp only [Bool.false_eq_true, if_false] at ct
  by_cases hend : k = s.size
  ·have e : Q.escF (s.data.toList.drop k) = (0, 0, false) := by rw [drop_endW s k (by omega)]; rfl
   rw [e]
   have y2 : ((k : Int) == (s.size : Int)) = true := by rw [beq_iff_eq]; omega
   have HE : Hid (k = s.size) := hend
   clear e hend h117 hT
   go_enter Tryz.func181, Tryz.ntmps181
   go_wp2_with (go_at_call 164; refine ct.mono ?_; rintro e w1 ⟨rfl, R1, b1⟩)
   obtain ⟨p, v, hr⟩ := R1.at
   have c0 := hr.c0
   have c1 := hr.c1
   clear hr
   go_quiet (fail)
   go_wp2
   go_ret
   exact ⟨rfl, R1.drewN nq, below_drewN b1 nq⟩
  ·have hlt : k < s.size := by omega
   have hx := drop_consW s k hlt
   have hne : s[k].toNat ≠ 117 := hit_no h117 _ _ hx
   have y2 : ((k : Int) == (s.size : Int)) = false := by rw [beq_eq_false_iff_ne]; omega
   have y3 : (k : Int) < s.size := by omega
   have e : Q.escF (s.data.toList.drop k) = if Q.saidN s[k].toNat = 0 then (0, 0, false) else (Q.saidN s[k].toNat, 1, true) := by
    rw [hx, Q.escF_cons, if_neg hne]
   rw [e]
   have csd : Hid (∀ w, SaidT w -> Calls Tryz.prog 194 #[.int .u8 (s[k].toNat : Int)] w fun e w' => e = .returned (.int .u8 (Q.saidN s[k].toNat)) /\ w' = w) := fun w hT => said_any s[k].toNat s[k].toNat_lt w hT
   have hsl := Q.saidN_lt s[k].toNat
   generalize Q.saidN s[k].toNat = S at *
   clear e hend h117 hx hne
   by_cases hS : S = 0
   ·subst hS
    rw [if_pos rfl]
    go_enter Tryz.func181, Tryz.ntmps181
    go_wp2_with (go_at_call 164; refine ct.mono ?_; rintro e w1 ⟨rfl, R1, b1⟩)
    have hT1 := hT.below b1 hB4
    obtain ⟨p, v, hr⟩ := R1.at
    have c0 := hr.c0
    have c1 := hr.c1
    clear hr
    go_quiet (fail)
    go_wp2
    go_quiet ((go_at_call 194; exact (csd.out _ (hT1.drewN _)).mono (fun _ _ h => ⟨h.1, _, h.2⟩)))
    go_wp2
    go_ret
    exact ⟨rfl, R1.drewN _, below_drewN b1 _⟩
   ·rw [if_neg hS, enc_small S (by omega)]
    have hb : ((S : Int) == 0) = false := by rw [beq_eq_false_iff_ne]; omega
    have eS : (UInt8.ofNat S).toNat = S := u8_toNat S (by omega)
    have WB : Hid (∀ w1, Rd B b s k l w1 -> B <= w1.heap.size -> Calls Tryz.prog 98 #[.pointer (some ⟨b, 2, none⟩), .int .u8 (S : Int)] w1 fun e w' => e = .returned .nilIface /\ Rd B b s k (l ++ [UInt8.ofNat S]) w' /\ Below B w1 w') := by
     intro w1 R1 hb1
     have := writeByte_rd B b s k l (UInt8.ofNat S) w1 R1 (by omega) hb1
     rw [eS] at this
     exact this
    generalize UInt8.ofNat S = C at *
    clear eS hlen
    go_enter Tryz.func181, Tryz.ntmps181
    go_wp2_with (go_at_call 164; refine ct.mono ?_; rintro e w1 ⟨rfl, R1, b1⟩)
    have hT1 := hT.below b1 hB4
    have s1 := b1.size
    obtain ⟨p, v, hr⟩ := R1.at
    have c0 := hr.c0
    have c1 := hr.c1
    clear hr
    go_quiet (fail)
    go_wp2
    go_quiet ((go_at_call 194; exact (csd.out _ (hT1.drewN _)).mono (fun _ _ h => ⟨h.1, _, h.2⟩)))
    go_wp2_with fail
    refine (WB.out _ (R1.drewN _) (by rw [drewN_size]; omega)).mono ?_
    rintro e w2 ⟨rfl, R2, b2⟩
    obtain ⟨p2, v2, hr2⟩ := R2.at
    have g1 := hr2.c1
    have f1 := hr2.fz 1
    clear hr2
    go_wp2
    go_ret
    exact ⟨rfl, R2.put1 (k + 1) _ (by omega), ((below_drewN b1 _).trans b2).setCell (p := ⟨b, 1, none⟩) hB _⟩
 ·obtain ⟨hlt, he⟩ := hit_yes h117
  rw [h117] at ct
  simp only [if_true] at ct
  have hx := drop_consW s k hlt
  have e : Q.escF (s.data.toList.drop k) = ((Q.numF (s.data.toList.drop (k + 1))).1, 1 + (Q.numF (s.data.toList.drop (k + 1))).2.1, (Q.numF (s.data.toList.drop (k + 1))).2.2) := by
   rw [hx, Q.escF_cons, if_pos he]
  rw [e]
  simp only
  rw [<- Nat.add_assoc]
  have CN : Hid (∀ w1, Rd B b s (k + 1) l w1 -> B <= w1.heap.size -> Calls Tryz.prog 193 #[.pointer (some ⟨b, 0, none⟩)] w1 (Told B b s l w1 12 (k + 1 + (Q.numF (s.data.toList.drop (k + 1))).2.1) (Q.numF (s.data.toList.drop (k + 1))).2.2 (encodeRune ((Q.numF (s.data.toList.drop (k + 1))).1 : Int)))) :=
   fun w1 R1 hb1 => number_any B b s (k + 1) l w1 R1 hs (by omega) hlen hb1
  generalize Q.numF (s.data.toList.drop (k + 1)) = F at *
  obtain ⟨f1, f2, f3⟩ := F
  simp only at *
  generalize encodeRune (f1 : Int) = T at *
  clear e hx he h117 hlen hT
  cases f3
  all_goals
   go_enter Tryz.func181, Tryz.ntmps181
   go_wp2_with (go_at_call 164; refine ct.mono ?_; rintro e w1 ⟨rfl, R1, b1⟩)
   refine (CN.out w1 R1 (by have := b1.size; omega)).mono ?_
   rintro e w2 ht
   have ht2 := ht.mono b1
   obtain ⟨rfl, ht3⟩ := ht
   simp only [Bool.false_eq_true, if_false, if_true]
   go_wp2
   go_ret
   exact ⟨rfl, ht2.2.1, ht2.2.2⟩
theorem char_any (B b : Nat) (s : ByteArray) (k : Nat) (l : List UInt8) (w : World) (h : Rd B b s k l w) (hs : s.size <= 281474976710656) (hk : k < s.size) (h32 : 32 <= s[k].toNat) (h34 : s[k].toNat ≠ 34) (hlen : l.length + 4 <= 140737488355328) (hBw : B <= w.heap.size) (hT : SaidT w) (hU : Utf8Tabs 0 1 w) (hB4 : 9 < B) :
 Calls Tryz.prog 165 #[.pointer (some ⟨b, 0, none⟩)] w (Told B b s l w (Q.stp (s.data.toList.drop k)).2.2.2 (k + (Q.stp (s.data.toList.drop k)).2.2.1) (decide ((Q.stp (s.data.toList.drop k)).1 = 2)) (Q.stp (s.data.toList.drop k)).2.1) := by
 have ct := take_any B b s k l 92 w h hs (by omega)
 have hB := h.1
 have hx := drop_consW s k hk
 have est := Q.stp_cons s[k] (s.data.toList.drop (k + 1))
 rw [<- hx, if_neg (by omega), if_neg h34] at est
 cases h92 : hit s k 92
 ·have hne : s[k].toNat ≠ 92 := hit_no h92 _ _ hx
  rw [h92] at ct
  simp only [Bool.false_eq_true, if_false] at ct
  rw [if_neg hne] at est
  have y3 : (k : Int) < s.size := by omega
  by_cases h128 : s[k].toNat < 128
  ·have hn : Q.nxt (s.data.toList.drop k) = (1, true) := by
    rw [hx, Q.nxt_cons]
    have e1 : Q.bnd s[k].toNat = (1, 0, 0) := by simp [Q.bnd, h128]
    rw [e1]
    cases s.data.toList.drop (k + 1) <;> simp [Q.nxtGo]
   rw [hn] at est
   simp only [if_true] at est
   have e2 : (s.data.toList.drop k).take 1 = [s[k]] := by rw [hx]; rfl
   rw [est, e2]
   have y4 : (s[k].toNat : Int) < 128 := by omega
   have WB : Hid (∀ w1, Rd B b s k l w1 -> B <= w1.heap.size -> Calls Tryz.prog 98 #[.pointer (some ⟨b, 2, none⟩), .int .u8 (s[k].toNat : Int)] w1 fun e w' => e = .returned .nilIface /\ Rd B b s k (l ++ [s[k]]) w' /\ Below B w1 w') :=
    fun w1 R1 hb1 => writeByte_rd B b s k l s[k] w1 R1 (by omega) hb1
   clear est e2 hn hne h92 hx hlen hT hU
   go_enter Tryz.func165, Tryz.ntmps165
   go_wp2_with (go_at_call 164; refine ct.mono ?_; rintro e w1 ⟨rfl, R1, b1⟩)
   have s1 := b1.size
   obtain ⟨p, v, hr⟩ := R1.at
   have c0 := hr.c0
   have c1 := hr.c1
   clear hr
   go_quiet (fail)
   go_wp2_with fail
   refine (WB.out _ (R1.drewN _) (by rw [drewN_size]; omega)).mono ?_
   rintro e w2 ⟨rfl, R2, b2⟩
   obtain ⟨p2, v2, hr2⟩ := R2.at
   have g1 := hr2.c1
   have f1 := hr2.fz 1
   clear hr2
   go_wp2
   go_ret
   exact ⟨rfl, R2.put1 (k + 1) _ (by omega), ((below_drewN b1 _).trans b2).setCell (p := ⟨b, 1, none⟩) hB _⟩
  ·have y4 : ¬ (s[k].toNat : Int) < 128 := by omega
   cases hok : (Q.nxt (s.data.toList.drop k)).2
   focus
    rw [if_neg (by rw [hok]; simp)] at est
    rw [est]
    have CS : Hid (∀ w1, Rd B b s k l w1 -> B <= w1.heap.size -> Utf8Tabs 0 1 w1 -> Calls Tryz.prog 182 #[.pointer (some ⟨b, 0, none⟩)] w1 fun e w' => e = .returned (.int .i64 11) /\ Rd B b s (k + (Q.nxt (s.data.toList.drop k)).1) l w' /\ Below B w1 w') :=
     fun w1 R1 hb1 hU1 => sequence_bad B b s k l w1 R1 hs hb1 hU1 (by omega) hk (by omega) hok
    clear est hok hne h92 hx hlen hT
   rotate_left 1
   focus
    rw [if_pos hok] at est
    rw [est]
    have CS : Hid (∀ w1, Rd B b s k l w1 -> B <= w1.heap.size -> Utf8Tabs 0 1 w1 -> Calls Tryz.prog 182 #[.pointer (some ⟨b, 0, none⟩)] w1 fun e w' => e = .returned (.int .i64 0) /\ Rd B b s (k + (Q.nxt (s.data.toList.drop k)).1) (l ++ (s.data.toList.drop k).take (Q.nxt (s.data.toList.drop k)).1) w' /\ Below B w1 w') :=
     fun w1 R1 hb1 hU1 => sequence_good B b s k l w1 R1 hs hlen hb1 hU1 (by omega) hk (by omega) hok
    clear est hok hne h92 hx hlen hT
    generalize (s.data.toList.drop k).take (Q.nxt (s.data.toList.drop k)).1 = T at *
   rotate_left 1
   all_goals
    generalize (Q.nxt (s.data.toList.drop k)).1 = N at *
    go_enter Tryz.func165, Tryz.ntmps165
    go_wp2_with (go_at_call 164; refine ct.mono ?_; rintro e w1 ⟨rfl, R1, b1⟩)
    have s1 := b1.size
    have hU1 := utab_below hU b1 (by omega)
    obtain ⟨p, v, hr⟩ := R1.at
    have c0 := hr.c0
    have c1 := hr.c1
    clear hr
    go_quiet (fail)
    go_wp2_with fail
    refine (CS.out _ (R1.drewN _) (by rw [drewN_size]; omega) (utab_below hU1 (below_drewN (Below.refl 5 w1) _) (by omega))).mono ?_
    rintro e w2 ⟨rfl, R2, b2⟩
    go_wp2
    go_ret
    exact ⟨rfl, R2, (below_drewN b1 _).trans b2⟩
 ·obtain ⟨hlt, he⟩ := hit_yes h92
  rw [h92] at ct
  simp only [if_true] at ct
  rw [if_pos he] at est
  have CE : Hid (∀ w1, Rd B b s (k + 1) l w1 -> B <= w1.heap.size -> SaidT w1 -> Calls Tryz.prog 181 #[.pointer (some ⟨b, 0, none⟩)] w1 (Told B b s l w1 12 (k + 1 + (Q.escF (s.data.toList.drop (k + 1))).2.1) (Q.escF (s.data.toList.drop (k + 1))).2.2 (encodeRune ((Q.escF (s.data.toList.drop (k + 1))).1 : Int)))) :=
   fun w1 R1 hb1 hT1 => escape_any B b s (k + 1) l w1 R1 hs (by omega) hlen hb1 hT1 hB4
  generalize Q.escF (s.data.toList.drop (k + 1)) = F at *
  obtain ⟨f1, f2, f3⟩ := F
  simp only at *
  generalize encodeRune (f1 : Int) = T at *
  cases f3
  focus
   rw [if_neg (by simp)] at est
  rotate_left 1
  focus
   rw [if_pos rfl] at est
  rotate_left 1
  all_goals
   rw [est]
   simp only
   rw [<- Nat.add_assoc]
   clear est hx he h92 hlen hU
   go_enter Tryz.func165, Tryz.ntmps165
   go_wp2_with (go_at_call 164; refine ct.mono ?_; rintro e w1 ⟨rfl, R1, b1⟩)
   refine (CE.out w1 R1 (by have := b1.size; omega) (hT.below b1 hB4)).mono ?_
   rintro e w2 ht
   have ht2 := ht.mono b1
   obtain ⟨rfl, ht3⟩ := ht
   simp only [Bool.false_eq_true, if_false, if_true]
   go_wp2
   go_ret
   exact ⟨rfl, ht2.2.1, ht2.2.2⟩
end Go.Proofs.YtdgfjdhobdfglaaGreatDoor
set_option maxRecDepth 100000
set_option maxHeartbeats 64000000
namespace Go.Proofs.YtdgfjdhobdfglaaGreatDoor
open Go.RowKit Go.Lib
theorem Q.stp_err (t : List UInt8) (h : (Q.stp t).1 = 0) : (Q.stp t).2.2.2 = 10 \/ (Q.stp t).2.2.2 = 11 \/ (Q.stp t).2.2.2 = 12 := by
 cases t with
 | nil => simp [Q.stp]
 | cons x t =>
  rw [Q.stp_cons] at h ⊢
  split at h
  ·rename_i g; rw [if_pos g]; simp
  ·rename_i g0
   rw [if_neg g0]
   split at h
   ·simp at h
   ·rename_i g1
    rw [if_neg g1]
    split at h
    ·rename_i g2
     rw [if_pos g2]
     split at h
     ·simp at h
     ·rename_i g3; rw [if_neg g3]; simp
    ·rename_i g2
     rw [if_neg g2]
     split at h
     ·simp at h
     ·rename_i g3; rw [if_neg g3]; simp
theorem Q.stp_one (x : UInt8) (t : List UInt8) (h : x.toNat ≠ 34) : (Q.stp (x :: t)).1 ≠ 1 := by
 rw [Q.stp_cons, if_neg h]
 repeat' split
 all_goals simp
theorem Q.stp_low (t : List UInt8) (h : ∀ x r, t = x :: r -> x.toNat < 32) : Q.stp t = (0, [], 0, 10) := by
 cases t with
 | nil => rfl
 | cons x r => rw [Q.stp_cons, if_pos (h x r rfl)]
theorem Q.unq_step (f : Nat) (t : List UInt8) (k : Nat) (out : List UInt8) : Q.unq (f + 1) t k out = if (Q.stp t).1 = 0 then ([], k + (Q.stp t).2.2.1, (Q.stp t).2.2.2) else if (Q.stp t).1 = 1 then (out, k + 1, 0) else Q.unq f (t.drop (Q.stp t).2.2.1) (k + (Q.stp t).2.2.1) (out ++ (Q.stp t).2.1) := rfl
theorem Q.unq_grows : ∀ (f : Nat) (t : List UInt8) (k : Nat) (out : List UInt8), k <= (Q.unq f t k out).2.1 /\ ((Q.unq f t k out).2.2 = 0 -> out.length <= (Q.unq f t k out).1.length)
 | 0, t, k, out => ⟨Nat.le_refl _, fun _ => Nat.le_refl _⟩
 | f + 1, t, k, out => by
  rw [Q.unq_step]
  split
  ·rename_i c
   have := Q.stp_err t c
   refine ⟨Nat.le_add_right _ _, fun h => ?_⟩
   have h' : (Q.stp t).2.2.2 = 0 := h
   omega
  ·split
   ·exact ⟨Nat.le_succ _, fun _ => Nat.le_refl _⟩
   ·have ih := Q.unq_grows f (t.drop (Q.stp t).2.2.1) (k + (Q.stp t).2.2.1) (out ++ (Q.stp t).2.1)
    rw [List.length_append] at ih
    exact ⟨by omega, fun h => by have := ih.2 h; omega⟩
def Q.Borne (R : List UInt8 × Nat × Nat) : Prop := (R.2.2 = 0 -> R.1.length <= 140737488355000) /\ (R.2.2 ≠ 0 -> R.2.1 <= 140737488355000)
def Done (B b : Nat) (s : ByteArray) (w : World) (RES : List UInt8 × Nat × Nat) (e : Ending) (w' : World) : Prop :=
 ∃ l', e = .returned (.int .i64 (RES.2.2 : Int)) /\ Rd B b s RES.2.1 l' w' /\ (RES.2.2 = 0 -> l' = RES.1) /\ Below B w w'
theorem quoted_yes (B b : Nat) (s : ByteArray) (k0 : Nat) (w : World) (h : Rd B b s k0 [] w) (hs : s.size <= 281474976710656) (hBw : B <= w.heap.size) (hT : SaidT w) (hU : Utf8Tabs 0 1 w) (hB4 : 9 < B) (h34 : hit s k0 34 = true) (RES : List UInt8 × Nat × Nat)
 (hR : Q.unq (s.size + 1) (s.data.toList.drop (k0 + 1)) (k0 + 1) [] = RES) (hM : Hid (Q.Borne RES)) :
 Calls Tryz.prog 153 #[.pointer (some ⟨b, 0, none⟩)] w (Done B b s w RES) := by
 obtain ⟨hlt0, he0⟩ := hit_yes h34
 have ct := take_any B b s k0 [] 34 w h hs (by omega)
 rw [h34] at ct
 simp only [if_true] at ct
 have HR : Hid (Q.unq (s.size + 1) (s.data.toList.drop (k0 + 1)) (k0 + 1) [] = RES) := hR
 clear hR h34 he0
 go_enter Tryz.func153, Tryz.ntmps153
 go_wp2_with (go_at_call 164; refine ct.mono ?_; rintro e w1 ⟨rfl, R1, b1⟩)
 clear ct
 go_loopg [3] (s.size + 1) (fun gk e wr => ∃ (k : Nat) (l : List UInt8) (f : Nat), k <= s.size /\ l.length <= k /\ s.size - k < gk /\ Rd B b s k l wr /\ Below B w wr /\ Hid ((s.data.toList.drop k).length < f /\ Q.unq f (s.data.toList.drop k) k l = RES))
 case atStart => exact ⟨k0 + 1, [], s.size + 1, by omega, by simp, by omega, R1, b1, by simp; omega, HR.out⟩
 case round =>
  obtain ⟨k, l, f, hk, hl, hg, Rk, bk, HK⟩ := hrel
  clear HR
  have hl4 : l.length + 4 <= 140737488355328 := by
   have u := Q.unq_grows f (s.data.toList.drop k) k l
   rw [HK.out.2] at u
   have m := hM.out
   by_cases c : RES.2.2 = 0
   ·have := m.1 c; have := u.2 c; omega
   ·have := m.2 c; omega
  clear hM
  have sk := bk.size
  obtain ⟨p, v, hr⟩ := Rk.at
  have c0 := hr.c0
  have c1 := hr.c1
  clear hr
  obtain ⟨f', hf'⟩ : ∃ f', f = f' + 1 := ⟨f - 1, by have := HK.out.1; omega⟩
  by_cases hlt : k < s.size
  ·have y1 : (k : Int) < s.size := by omega
   have hx := drop_consW s k hlt
   by_cases h32 : s[k].toNat < 32
   ·have y2 : decide ((32 : Int) <= (s[k].toNat : Int)) = false := by simp; omega
    have y3 : ¬ (32 : Int) <= (s[k].toNat : Int) := by omega
    obtain rfl : RES = ([], k, 10) := by
     rw [<- HK.out.2, hf', Q.unq_step, Q.stp_low _ (by intro x r e; rw [hx] at e; have := (List.cons.inj e).1; subst this; exact h32)]
     rfl
    clear HK hf' hx
    go_wp2
    go_quiet (fail)
    go_wp2
    go_ret
    exact ⟨l, rfl, Rk.drewN nq, by simp, below_drewN bk nq⟩
   ·have y2 : (32 : Int) <= (s[k].toNat : Int) := by omega
    have c3 : Hid (∀ w, Rd B b s k l w -> Calls Tryz.prog 164 #[.pointer (some ⟨b, 0, none⟩), .int .u8 (34 : Nat)] w fun e w' => e = .returned (.bool (hit s k 34)) /\ Rd B b s (if hit s k 34 then k + 1 else k) l w' /\ Below B w w') := fun w R => take_any B b s k l 34 w R hs hk
    cases h34 : hit s k 34
    ·rw [h34] at c3
     simp only [Bool.false_eq_true, if_false] at c3
     have hne : s[k].toNat ≠ 34 := hit_no h34 _ _ hx
     have cc : Hid (∀ w, Rd B b s k l w -> B <= w.heap.size -> SaidT w -> Utf8Tabs 0 1 w -> Calls Tryz.prog 165 #[.pointer (some ⟨b, 0, none⟩)] w (Told B b s l w (Q.stp (s.data.toList.drop k)).2.2.2 (k + (Q.stp (s.data.toList.drop k)).2.2.1) (decide ((Q.stp (s.data.toList.drop k)).1 = 2)) (Q.stp (s.data.toList.drop k)).2.1)) :=
      fun w R hb hT hU => char_any B b s k l w R hs hlt (by omega) hne (by omega) hb hT hU hB4
     have hle := Q.stp_le (s.data.toList.drop k)
     have hone := Q.stp_one s[k] (s.data.toList.drop (k + 1)) hne
     rw [<- hx] at hone
     have herr := Q.stp_err (s.data.toList.drop k)
     have hlen2 : (s.data.toList.drop k).length = s.size - k := by simp
     rw [hlen2] at hle
     have HU : Hid (s.size - k < f /\ (if (Q.stp (s.data.toList.drop k)).1 = 0 then ([], k + (Q.stp (s.data.toList.drop k)).2.2.1, (Q.stp (s.data.toList.drop k)).2.2.2) else if (Q.stp (s.data.toList.drop k)).1 = 1 then (l, k + 1, 0) else Q.unq f' (s.data.toList.drop (k + (Q.stp (s.data.toList.drop k)).2.2.1)) (k + (Q.stp (s.data.toList.drop k)).2.2.1) (l ++ (Q.stp (s.data.toList.drop k)).2.1)) = RES) := by
      have := HK.out
      rw [hlen2] at this
      refine ⟨this.1, ?_⟩
      rw [<- this.2, hf', Q.unq_step, List.drop_drop]
     have HF : Hid (f = f' + 1) := hf'
     clear HK hf' hx hlen2 h34
     generalize Q.stp (s.data.toList.drop k) = S at *
     obtain ⟨kd, bs, n, er⟩ := S
     simp only at *
     by_cases hkd : kd = 0
     ·subst hkd
      have hern := herr rfl
      obtain rfl : RES = ([], k + n, er) := by rw [<- HU.out.2]; rfl
      have y5 : ((er : Int) != 0) = true := by rw [bne_iff_ne]; omega
      have C0 : Hid (∀ w, Rd B b s k l w -> B <= w.heap.size -> SaidT w -> Utf8Tabs 0 1 w -> Calls Tryz.prog 165 #[.pointer (some ⟨b, 0, none⟩)] w fun e w' => e = .returned (.int .i64 (er : Int)) /\ Rd B b s (k + n) l w' /\ Below B w w') :=
       fun w R hb hT hU => (cc.out w R hb hT hU).mono fun e w' h => ⟨h.1, h.2.1, h.2.2⟩
      have HER : Hid (er ≠ 0) := by show er ≠ 0; omega
      clear HU herr hern cc
      go_wp2
      go_quiet (fail)
      go_wp2_with fail
      refine (c3.out _ (Rk.drewN _)).mono ?_
      rintro e w2 ⟨rfl, R2, b2⟩
      have b2' := (below_drewN bk nq).trans b2
      have s2 := b2'.size
      have hT2 := hT.below b2' hB4
      have hU2 := utab_below hU b2' (by omega)
      go_wp2_with fail
      refine (C0.out w2 R2 (by omega) hT2 hU2).mono ?_
      rintro e w3 ⟨rfl, R3, b3⟩
      go_wp2
      go_ret
      exact ⟨l, rfl, R3, fun e => absurd e HER.out, b2'.trans b3⟩
     ·obtain rfl : kd = 2 := by omega
      have C2 : Hid (∀ w, Rd B b s k l w -> B <= w.heap.size -> SaidT w -> Utf8Tabs 0 1 w -> Calls Tryz.prog 165 #[.pointer (some ⟨b, 0, none⟩)] w fun e w' => e = .returned (.int .i64 0) /\ Rd B b s (k + n) (l ++ bs) w' /\ Below B w w') :=
       fun w R hb hT hU => (cc.out w R hb hT hU).mono fun e w' h => ⟨h.1, h.2.1, h.2.2⟩
      have hn1 := hle.2.1 (by omega)
      have HN : Hid (s.size - k < f /\ Q.unq f' (s.data.toList.drop (k + n)) (k + n) (l ++ bs) = RES) := HU.out
      clear HU herr cc hkd hone
      go_wp2
      go_quiet (fail)
      go_wp2_with fail
      refine (c3.out _ (Rk.drewN _)).mono ?_
      rintro e w2 ⟨rfl, R2, b2⟩
      have b2' := (below_drewN bk nq).trans b2
      have s2 := b2'.size
      have hT2 := hT.below b2' hB4
      have hU2 := utab_below hU b2' (by omega)
      go_wp2_with fail
      refine (C2.out w2 R2 (by omega) hT2 hU2).mono ?_
      rintro e w3 ⟨rfl, R3, b3⟩
      go_wp2
      go_roundg (s.size - (k + n) + 1)
      case measure => omega
      case rel =>
       have hf := HF.out
       have hn := HN.out
       refine ⟨k + n, l ++ bs, f', by omega, by rw [List.length_append]; omega, by omega, R3, b2'.trans b3, by simp; omega, hn.2⟩
    ·rw [h34] at c3
     simp only [if_true] at c3
     obtain ⟨hlt', he'⟩ := hit_yes h34
     obtain rfl : RES = (l, k + 1, 0) := by
      rw [<- HK.out.2, hf', Q.unq_step]
      have e : Q.stp (s.data.toList.drop k) = (1, [], 1, 0) := by
       rw [hx, Q.stp_cons, if_neg h32, if_pos he']
      rw [e]; rfl
     clear HK hf' hx h34 he'
     go_wp2
     go_quiet (fail)
     go_wp2_with fail
     refine (c3.out _ (Rk.drewN _)).mono ?_
     rintro e w2 ⟨rfl, R2, b2⟩
     go_wp2
     go_ret
     exact ⟨l, rfl, R2, fun _ => rfl, (below_drewN bk nq).trans b2⟩
  ·have y1 : decide ((k : Int) < s.size) = false := by simp; omega
   have y1' : ¬ (k : Int) < s.size := by omega
   obtain rfl : RES = ([], k, 10) := by
    rw [<- HK.out.2, hf', Q.unq_step, Q.stp_low _ (by intro x r e; rw [drop_endW s k (by omega)] at e; cases e)]
    rfl
   clear HK hf'
   go_wp2
   go_quiet (fail)
   go_wp2
   go_ret
   exact ⟨l, rfl, Rk.drewN nq, by simp, below_drewN bk nq⟩
theorem quoted_no (B b : Nat) (s : ByteArray) (k0 : Nat) (w : World) (h : Rd B b s k0 [] w) (hs : s.size <= 281474976710656) (hk : k0 <= s.size) (h34 : hit s k0 34 = false) :
 Calls Tryz.prog 153 #[.pointer (some ⟨b, 0, none⟩)] w (Done B b s w ([], k0, 10)) := by
 have ct := take_any B b s k0 [] 34 w h hs hk
 rw [h34] at ct
 simp only [Bool.false_eq_true, if_false] at ct
 clear h34
 go_enter Tryz.func153, Tryz.ntmps153
 go_wp2_with (go_at_call 164; refine ct.mono ?_; rintro e w1 ⟨rfl, R1, b1⟩)
 go_ret
 exact ⟨[], rfl, R1, fun _ => rfl, b1⟩
theorem drop_head (s : ByteArray) (k c : Nat) (x : UInt8) (hx : x.toNat = c) : ((s.data.toList.drop k).head? = some x) = (hit s k c = true) := by
 rw [eq_iff_iff]
 constructor
 ·intro h
  have hk : k < s.size := by
   rcases Nat.lt_or_ge k s.size with h' | h'
   ·exact h'
   ·rw [drop_endW s k h'] at h; cases h
  rw [drop_consW s k hk] at h
  have : s[k] = x := by simpa using h
  simp [hit, hk, this, hx]
 ·intro h
  obtain ⟨hk, he⟩ := hit_yes h
  rw [drop_consW s k hk]
  have : s[k] = x := by apply UInt8.toNat_inj.1; omega
  simp [this]
theorem Q.unq_err : ∀ (f : Nat) (t : List UInt8) (k : Nat) (out : List UInt8), (Q.unq f t k out).2.2 ≠ 0 -> (Q.unq f t k out).1 = []
 | 0, t, k, out, h => by simp [Q.unq] at h
 | f + 1, t, k, out, h => by
  rw [Q.unq_step] at h ⊢
  split
  ·rfl
  ·rename_i g
   rw [if_neg g] at h
   split
   ·rename_i g1
    rw [if_pos g1] at h
    simp at h
   ·rename_i g1
    rw [if_neg g1] at h
    exact Q.unq_err f _ _ _ h
theorem Q.unqAll_err (l : List UInt8) (z : Int) (h : (Q.unqAll l z).2.2 ≠ 0) : (Q.unqAll l z).1 = [] := by
 rw [Q.unqAll] at h ⊢
 split
 ·rfl
 ·rename_i g
  rw [if_neg g] at h
  split
  ·rename_i g1
   rw [if_pos g1] at h
   exact Q.unq_err _ _ _ _ h
  ·rfl
theorem Q.unqAll_in (s : ByteArray) (k : Nat) (hk : k <= s.size) : Q.unqAll s.data.toList (k : Int) = if hit s k 34 = true then Q.unq (s.size + 1) (s.data.toList.drop (k + 1)) (k + 1) [] else ([], k, 10) := by
 have hl : s.data.toList.length = s.size := by simp
 rw [Q.unqAll, if_neg (by omega), Int.toNat_natCast, hl]
 have e := drop_head s k 34 34 rfl
 by_cases h : hit s k 34 = true
 ·rw [if_pos (by rw [e]; exact h), if_pos h]
 ·rw [if_neg (by rw [e]; exact h), if_neg h]
theorem ret_sii {x y : ByteArray} {a b c d : Int} (h0 : x = y) (h : a = b) (h2 : c = d) : Ending.returned (.tuple #[.string x, .int .i64 a, .int .i64 c]) = .returned (.tuple #[.string y, .int .i64 b, .int .i64 d]) := by rw [h0, h, h2]
theorem Rd.new (w : World) (s : ByteArray) (k : Nat) : Rd w.heap.size w.heap.size s k [] (w.alloc (.cells #[.string s, .int .i64 k, .pointer none, .slice none 0 0] 189)) :=
 ⟨Nat.le_refl _, .pointer none, .slice none 0 0, .inl rfl, heap_alloc_new w _, World.ownsRowF_nil _ _ _ _, fun _ => rfl⟩
theorem unquote_in (s : ByteArray) (k : Nat) (w : World) (hs : s.size <= 281474976710656) (hk : k <= s.size) (hT : SaidT w) (hU : Utf8Tabs 0 1 w) (hz : 9 < w.heap.size) (hM : Hid (Q.Borne (Q.unqAll s.data.toList (k : Int)))) :
 Calls Tryz.prog 143 #[.string s, .int .i64 k] w fun e w' => e = .returned (.tuple #[.string ⟨(Q.unqAll s.data.toList (k : Int)).1.toArray⟩, .int .i64 (Q.unqAll s.data.toList (k : Int)).2.1, .int .i64 (Q.unqAll s.data.toList (k : Int)).2.2]) /\ Below w.heap.size w w' := by
 have ea := Q.unqAll_in s k hk
 obtain ⟨RES, hRES⟩ : ∃ RES, RES = Q.unqAll s.data.toList (k : Int) := ⟨_, rfl⟩
 have cq : Hid (∀ w1, Below w.heap.size w w1 -> Rd w.heap.size w.heap.size s k [] w1 -> Calls Tryz.prog 153 #[.pointer (some ⟨w.heap.size, 0, none⟩)] w1 (Done w.heap.size w.heap.size s w1 RES)) := by
  intro w1 b1 R1
  cases h34 : hit s k 34
  ·rw [h34, if_neg (by simp)] at ea
   rw [hRES, ea]
   exact quoted_no _ _ s k w1 R1 hs hk h34
  ·rw [h34, if_pos rfl] at ea
   exact quoted_yes _ _ s k w1 R1 hs b1.size (hT.below b1 hz) (utab_below hU b1 (by omega)) hz h34 RES (by rw [hRES, ea]) (by rw [hRES]; exact hM)
 have herr := Q.unqAll_err s.data.toList (k : Int)
 rw [<- hRES] at herr ⊢
 clear ea hRES hT hU hM
 obtain ⟨l, pl, er⟩ := RES
 simp only at herr ⊢
 have HE : Hid (er ≠ 0 -> l = []) := herr
 clear herr
 have y1 : ¬ (k : Int) < 0 := by omega
 have y2 : ¬ (s.size : Int) < (k : Int) := by omega
 have R0 := Rd.new w s k
 have b0 : Below w.heap.size w (w.alloc (.cells #[.string s, .int .i64 k, .pointer none, .slice none 0 0] 189)) := (Below.refl _ w).alloc (Nat.le_refl _) _
 by_cases her : er = 0
 ·subst her
  go_enter Tryz.func143, Tryz.ntmps143
  go_wp2_with fail
  refine (cq.out _ b0 R0).mono ?_
  rintro e w1 ⟨l', rfl, R1, hl', b1⟩
  simp only at R1
  obtain rfl := hl' rfl
  obtain ⟨p, v, hr⟩ := R1.at
  have c1 := hr.c1
  have hblt := hr.lt
  have CS : Hid (Calls Tryz.prog 66 #[.pointer (some ⟨w.heap.size, 2, none⟩)] w1.drew fun e w' => e = .returned (.string ⟨l'.toArray⟩) /\ w'.heap[w.heap.size]? = w1.heap[w.heap.size]? /\ Below w.heap.size w1.drew w') := string_rd _ _ s pl l' w1.drew R1
  clear hr hl' cq HE
  go_wp2
  go_region_held3 (fun w' => w'.cell? ⟨w.heap.size, 1, none⟩ = some (.int .i64 (pl : Int))) (first | go_keep | assumption) ((go_at_call 66; refine CS.out.mono ?_; rintro e w2 ⟨rfl, hk2, b2⟩; have d1 := (World.cell?_of_block (a := ⟨w.heap.size, 1, none⟩) hk2).trans c1))
  go_wp2
  go_ret3
  exact ⟨rfl, b0.trans (b1.trans (((Below.refl _ w1).drew).trans b2))⟩
 ·obtain rfl := HE.out her
  have y3 : ((er : Int) != 0) = true := by rw [bne_iff_ne]; omega
  clear her HE
  go_enter Tryz.func143, Tryz.ntmps143
  go_wp2_with fail
  refine (cq.out _ b0 R0).mono ?_
  rintro e w1 ⟨l', rfl, R1, hl', b1⟩
  simp only at R1
  obtain ⟨p, v, hr⟩ := R1.at
  have c1 := hr.c1
  clear hr hl' cq
  go_wp2
  go_quiet (fail)
  go_wp2
  go_ret3
  exact ⟨rfl, below_drewN (b0.trans b1) _⟩
end Go.Proofs.YtdgfjdhobdfglaaGreatDoor
set_option maxRecDepth 100000
namespace Go.Proofs.YtdgfjdhobdfglaaGreatDoor
open Go.RowKit Go.Lib
def PB (g : Nat) (s : ByteArray) (k : Nat) (w : World) : Prop := w.heap[g]? = some (.cells #[.string s, .int .i64 (k : Int)] 86 (0, 0))
theorem PB.lt {g : Nat} {s : ByteArray} {k : Nat} {w : World} (h : PB g s k w) : g < w.heap.size := by
 rcases Nat.lt_or_ge g w.heap.size with h' | h'
 ·exact h'
 ·unfold PB at h; rw [Array.getElem?_eq_none h'] at h; cases h
theorem PB.c0 {g : Nat} {s : ByteArray} {k : Nat} {w : World} (h : PB g s k w) : w.cell? ⟨g, 0, none⟩ = some (.string s) := by rw [cell_of_block h]; rfl
theorem PB.c1 {g : Nat} {s : ByteArray} {k : Nat} {w : World} (h : PB g s k w) : w.cell? ⟨g, 1, none⟩ = some (.int .i64 (k : Int)) := by rw [cell_of_block h]; rfl
theorem PB.fz {g : Nat} {s : ByteArray} {k : Nat} {w : World} (h : PB g s k w) (o : Nat) : w.frozen? ⟨g, o, none⟩ = false := frozen_of_block h o
theorem PB.put {g : Nat} {s : ByteArray} {k : Nat} {w : World} (h : PB g s k w) (n : Nat) (z : Int) (hz : z = n) : PB g s n (w.setCell ⟨g, 1, none⟩ (.int .i64 z)) := by
 subst hz
 unfold PB at *
 rw [set_block h]
 rfl
theorem PB.keep {g : Nat} {s : ByteArray} {k : Nat} {w w' : World} (h : PB g s k w) (hb : Below w.heap.size w w') : PB g s k w' := (hb.block g h.lt).trans h
theorem PB.drewN {g : Nat} {s : ByteArray} {k : Nat} {w : World} (h : PB g s k w) (q : Nat) : PB g s k (w.drewN q) := by
 induction q with
 | zero => exact h
 | succ q ih => exact ih
theorem grown_drewN {a w : World} {row : Option Nat} (h : a.grownBy w row) : ∀ q, a.grownBy (w.drewN q) row
 | 0 => h
 | q + 1 => (fun (k : a.grownBy (w.drewN q) row) => (⟨k.os, k.tape, k.output, k.size, k.block⟩ : a.grownBy (w.drewN q).drew row)) (grown_drewN h q)
theorem grown_belowS {w w' : World} (h : Below w.heap.size w w') (g : Nat) : w.grownBy w' (some g) := ⟨h.os, h.tape, h.output, h.size, fun k hk _ => h.block k hk⟩
theorem slice_from (s : ByteArray) (k : Nat) (hk : k <= s.size) (W : World) : (Instr.slice 9 (.string s) (some (.int .i64 (k : Int))) none none).run Tryz.prog W = .ok (.string (s.extract k s.size)) W := hsl_from s k hk W
set_option maxHeartbeats 8000000 in
theorem ptake_any (g : Nat) (s p : ByteArray) (k : Nat) (w : World) (h : PB g s k w) (hs : s.size <= 281474976710656) (hk : k <= s.size) (hp : p.size <= 100) :
 Calls Tryz.prog 90 #[.pointer (some ⟨g, 0, none⟩), .string p] w fun e w' => e = .returned (.bool (tkB s.data.toList k p.data.toList)) /\ PB g s (if tkB s.data.toList k p.data.toList = true then k + p.size else k) w' /\ w.grownBy w' (some g) := by
 have c0 := h.c0
 have c1 := h.c1
 have f1 := h.fz 1
 have hsl := slice_from s k hk
 have CP : ∀ W, Calls Tryz.prog 119 #[.string (s.extract k s.size), .string p] W fun e w' => e = .returned (.bool (tkB s.data.toList k p.data.toList)) /\ w' = W := fun W => by
  have := Any.strings_HasPrefix Tryz.lays99 (s.extract k s.size) p W
  rw [ext_list s k] at this
  exact this
 have HH : Hid (PB g s k w) := h
 clear h
 generalize tkB s.data.toList k p.data.toList = T at *
 cases T with
 | true =>
  go_enter Tryz.func90, Tryz.ntmps90
  go_wp2
  go_quiet ((go_at_call 119; exact Calls.quiet_of_same (CP _)))
  go_wp2
  go_ret
  refine ⟨rfl, ?_, ?_⟩
  ·exact (HH.out.drewN nq).put (k + p.size) _ (by omega)
  ·exact grown_set (grown_drewN (World.grownBy.refl _ _) nq) _ _
 | false =>
  go_enter Tryz.func90, Tryz.ntmps90
  go_wp2
  go_quiet ((go_at_call 119; exact Calls.quiet_of_same (CP _)))
  go_wp2
  go_ret
  refine ⟨rfl, ?_, ?_⟩
  ·exact HH.out.drewN nq
  ·exact grown_drewN (World.grownBy.refl _ _) nq
end Go.Proofs.YtdgfjdhobdfglaaGreatDoor
