/- joined: MbyP RvaP -/
import Derived.Test.YtdgfjdhobdfglaaGreatDoorG11
set_option linter.unusedSimpArgs false
set_option linter.unusedVariables false
set_option maxRecDepth 100000
namespace Go.Proofs.YtdgfjdhobdfglaaGreatDoor
open Go.RowKit Go.Lib
theorem nil_toList : (⟨#[]⟩ : ByteArray).toList = [] := by rw [ByteArray.toList_eq]
def elB (e : El) : Bool :=
 if e.kind = 1 then decide (e.key.length = 0) && (nilV e.item && utfB e.name)
 else if e.kind = 2 then decide (e.name.toList = []) && (nilV e.item && keysB e.key)
 else if e.kind = 3 then decide (e.name.toList = []) && (decide (e.key.length = 0) && sizS e.item) else false
theorem elB1 {k : Int} {nm : ByteArray} {m : List Mem} {v : V} (h : k = 1) : elB ⟨k, nm, m, v⟩ = (decide (m.length = 0) && (nilV v && utfB nm)) := by rw [elB]; dsimp only; rw [if_pos h]
theorem elB2 {k : Int} {nm : ByteArray} {m : List Mem} {v : V} (h : k = 2) : elB ⟨k, nm, m, v⟩ = (decide (nm.toList = []) && (nilV v && keysB m)) := by rw [elB]; dsimp only; rw [if_neg (by omega), if_pos h]
theorem elB3 {k : Int} {nm : ByteArray} {m : List Mem} {v : V} (h : k = 3) : elB ⟨k, nm, m, v⟩ = (decide (nm.toList = []) && (decide (m.length = 0) && sizS v)) := by rw [elB]; dsimp only; rw [if_neg (by omega), if_neg (by omega), if_pos h]
theorem elB0 {k : Int} {nm : ByteArray} {m : List Mem} {v : V} (h1 : k ≠ 1) (h2 : k ≠ 2) (h3 : k ≠ 3) : elB ⟨k, nm, m, v⟩ = false := by rw [elB]; dsimp only; rw [if_neg h1, if_neg h2, if_neg h3]
set_option maxHeartbeats 8000000 in
theorem maybe_any (e : El) (S : Nat -> Prop) (cs : List Value) (w : World) (tb : Tb w) (hl : e.lies w S cs) (hS : ∀ b, S b -> b < w.heap.size) (hwt : e.wt <= 2147483647) :
 Calls Tryz.prog 64 #[.agg cs.toArray] w (BPost (elB e) w) := by
 obtain ⟨k, nm, m, v⟩ := e
 obtain ⟨am, cm, bm, om, is, rfl, hk, hnm, ham, hm, hv⟩ := hl
 dsimp only at hk hnm ham hm hv
 obtain ⟨vk, vb, vi, vs, vl, vm⟩ := v
 have HV := hmk hv
 rw [V.lies] at hv
 obtain ⟨val, vcl, vbl, vol, vam, vcm, vbm, vom, rfl, _⟩ := hv
 have HM := hmk hm
 have HN : Hid (nilV (V.mk vk vb vi vs vl vm) = nilB vk vb vi vs vl.length vm.length) := rfl
 have hw1 : nm.size <= 2147483647 /\ wtM m <= 2147483647 /\ (V.mk vk vb vi vs vl vm).wt <= 2147483647 := by unfold El.wt at hwt; dsimp only at hwt; omega
 have b1 : Below w.heap.size w (w.alloc (.cells #[.int .i64 k, .string nm, .slice am m.length cm, .int .i64 vk, .bool vb, .int .i64 vi, .string vs, .slice val vl.length vcl, .slice vam vm.length vcm] 52)) := (Below.refl _ _).alloc (Nat.le_refl _) _
 have hz1 : (w.alloc (.cells #[.int .i64 k, .string nm, .slice am m.length cm, .int .i64 vk, .bool vb, .int .i64 vi, .string vs, .slice val vl.length vcl, .slice vam vm.length vcm] 52)).heap.size = w.heap.size + 1 := alloc_size _ _
 have hbx := box_row w [.int .i64 k, .string nm, .slice am m.length cm, .int .i64 vk, .bool vb, .int .i64 vi, .string vs, .slice val vl.length vcl, .slice vam vm.length vcm] 52
 obtain ⟨d0, d1, d2, d3, d4, d5, d6, d7, d8⟩ := row9z hbx
 clear hm
 generalize hvv : V.mk vk vb vi vs vl vm = v at *
 clear hvv
 by_cases k1 : k = 1
 ·subst k1
  have HR := hmk (elB1 (nm := nm) (m := m) (v := v) (rfl : (1 : Int) = 1))
  generalize elB ⟨1, nm, m, v⟩ = RR at *
  have HB := hmk b1
  by_cases h0 : m.length = 0
  case neg =>
   have y0 : ((m.length : Int) == 0) = false := by rw [beq_eq_false_iff_ne]; omega
   have HF : Hid (RR = false) := by show _ = _; rw [HR.out, decide_eq_false h0]; rfl
   go_enter Tryz.func64, Tryz.ntmps64
   go_wp2_with fail
   go_ret
   exact ⟨by rw [HF.out]; rfl, HB.out⟩
  have y0 : ((m.length : Int) == 0) = true := by rw [h0]; rfl
  have HR2 : Hid (RR = (nilB vk vb vi vs vl.length vm.length && utfB nm)) := by show _ = _; rw [HR.out, decide_eq_true h0, HN.out]; rfl
  clear h0
  have c1 := hmk (nothing_any vk vb vi vs val vl.length vcl vam vm.length vcm (w.alloc (.cells #[.int .i64 1, .string nm, .slice am m.length cm, .int .i64 vk, .bool vb, .int .i64 vi, .string vs, .slice val vl.length vcl, .slice vam vm.length vcm] 52)))
  go_enter Tryz.func64, Tryz.ntmps64
  go_wp2_with fail
  refine c1.out.mono ?_
  rintro e w1 ⟨rfl, b2⟩
  have hz2 := b2.size
  have hbx2 := hbx.keep (b2.block _ (by omega))
  have tb2 : Tb w1 := (tb.below b1 tb.z).below b2 (by have := tb.z; omega)
  have HB2 := hmk (HB.out.trans (b2.mono (by omega)))
  clear d0 d1 d2 d3 d4 d5 d6 d7 d8 c1
  obtain ⟨d0, d1, d2, d3, d4, d5, d6, d7, d8⟩ := row9z hbx2
  cases hx : nilB vk vb vi vs vl.length vm.length with
  | false =>
   have HF : Hid (RR = false) := by show _ = _; rw [HR2.out, hx]; rfl
   go_wp2_with fail
   go_ret
   exact ⟨by rw [HF.out]; rfl, HB2.out⟩
  | true =>
   have HF : Hid (RR = utfB nm) := by show _ = _; rw [HR2.out, hx]; rfl
   have c2 := hmk (qvalid_any nm w1 tb2 (by omega))
   go_wp2_with fail
   refine c2.out.mono ?_
   rintro e w2 ⟨rfl, b3⟩
   have HB3 := hmk (HB2.out.trans (b3.mono (by omega)))
   go_wp2_with fail
   go_ret
   exact ⟨by rw [HF.out]; rfl, HB3.out⟩
 have z1 : (k == 1) = false := beq_eq_false_iff_ne.2 k1
 by_cases k2 : k = 2
 ·subst k2
  have HR := hmk (elB2 (nm := nm) (m := m) (v := v) (rfl : (2 : Int) = 2))
  generalize elB ⟨2, nm, m, v⟩ = RR at *
  have HB := hmk b1
  by_cases hnn : nm.toList = []
  case neg =>
   have e1 : (nm.toList == (⟨#[]⟩ : ByteArray).toList) = false := by rw [nil_toList, beq_eq_false_iff_ne]; exact hnn
   have e2 : (nm.toList != (⟨#[]⟩ : ByteArray).toList) = true := by rw [nil_toList, bne_iff_ne]; exact hnn
   have e3 : (nm.toList == []) = false := by rw [beq_eq_false_iff_ne]; exact hnn
   have e4 : (nm.toList != []) = true := by rw [bne_iff_ne]; exact hnn
   have e5 : nm.toList.isEmpty = false := by rw [List.isEmpty_eq_false_iff]; exact hnn
   have HF : Hid (RR = false) := by show _ = _; rw [HR.out, decide_eq_false hnn]; rfl
   go_enter Tryz.func64, Tryz.ntmps64
   go_wp2_with fail
   go_ret
   exact ⟨by rw [HF.out]; rfl, HB.out⟩
  obtain rfl : nm = ⟨#[]⟩ := bytes_eq (by rw [hnn, nil_toList])
  have HR2 : Hid (RR = (nilB vk vb vi vs vl.length vm.length && keysB m)) := by show _ = _; rw [HR.out, decide_eq_true hnn, HN.out]; rfl
  have c1 := hmk (nothing_any vk vb vi vs val vl.length vcl vam vm.length vcm (w.alloc (.cells #[.int .i64 2, .string ⟨#[]⟩, .slice am m.length cm, .int .i64 vk, .bool vb, .int .i64 vi, .string vs, .slice val vl.length vcl, .slice vam vm.length vcm] 52)))
  clear hnn
  go_enter Tryz.func64, Tryz.ntmps64
  go_wp2_with fail
  refine c1.out.mono ?_
  rintro e w1 ⟨rfl, b2⟩
  have hz2 := b2.size
  have hbx2 := hbx.keep (b2.block _ (by omega))
  have tb2 : Tb w1 := (tb.below b1 tb.z).below b2 (by have := tb.z; omega)
  have HB2 := hmk (HB.out.trans (b2.mono (by omega)))
  clear d0 d1 d2 d3 d4 d5 d6 d7 d8 c1
  obtain ⟨d0, d1, d2, d3, d4, d5, d6, d7, d8⟩ := row9z hbx2
  cases hx : nilB vk vb vi vs vl.length vm.length with
  | false =>
   have HF : Hid (RR = false) := by show _ = _; rw [HR2.out, hx]; rfl
   go_wp2_with fail
   go_ret
   exact ⟨by rw [HF.out]; rfl, HB2.out⟩
  | true =>
   have HF : Hid (RR = keysB m) := by show _ = _; rw [HR2.out, hx]; rfl
   have c2 := hmk (keymay_any m am cm bm om S w1 tb2 ham (liesM_keep (fun h => h) (fun b hb => HB2.out.block b (hS b hb)) (fun _ h => h) _ HM.out) (fun b hb => Nat.lt_of_lt_of_le (hS b hb) HB2.out.size) (by omega))
   go_wp2_with fail
   refine c2.out.mono ?_
   rintro e w2 ⟨rfl, b3⟩
   have HB3 := hmk (HB2.out.trans (b3.mono (by omega)))
   go_wp2_with fail
   go_ret
   exact ⟨by rw [HF.out]; rfl, HB3.out⟩
 have z2 : (k == 2) = false := beq_eq_false_iff_ne.2 k2
 by_cases k3 : k = 3
 ·subst k3
  have HR := hmk (elB3 (nm := nm) (m := m) (v := v) (rfl : (3 : Int) = 3))
  generalize elB ⟨3, nm, m, v⟩ = RR at *
  have HB := hmk b1
  by_cases hnn : nm.toList = []
  case neg =>
   have e1 : (nm.toList == (⟨#[]⟩ : ByteArray).toList) = false := by rw [nil_toList, beq_eq_false_iff_ne]; exact hnn
   have e2 : (nm.toList != (⟨#[]⟩ : ByteArray).toList) = true := by rw [nil_toList, bne_iff_ne]; exact hnn
   have e3 : (nm.toList == []) = false := by rw [beq_eq_false_iff_ne]; exact hnn
   have e4 : (nm.toList != []) = true := by rw [bne_iff_ne]; exact hnn
   have e5 : nm.toList.isEmpty = false := by rw [List.isEmpty_eq_false_iff]; exact hnn
   have HF : Hid (RR = false) := by show _ = _; rw [HR.out, decide_eq_false hnn]; rfl
   go_enter Tryz.func64, Tryz.ntmps64
   go_wp2_with fail
   go_ret
   exact ⟨by rw [HF.out]; rfl, HB.out⟩
  obtain rfl : nm = ⟨#[]⟩ := bytes_eq (by rw [hnn, nil_toList])
  have HR1 : Hid (RR = (decide (m.length = 0) && sizS v)) := by show _ = _; rw [HR.out, decide_eq_true hnn]; rfl
  clear hnn
  by_cases h0 : m.length = 0
  case neg =>
   have y0 : ((m.length : Int) == 0) = false := by rw [beq_eq_false_iff_ne]; omega
   have HF : Hid (RR = false) := by show _ = _; rw [HR1.out, decide_eq_false h0]; rfl
   go_enter Tryz.func64, Tryz.ntmps64
   go_wp2_with fail
   go_ret
   exact ⟨by rw [HF.out]; rfl, HB.out⟩
  have y0 : ((m.length : Int) == 0) = true := by rw [h0]; rfl
  have HF : Hid (RR = sizS v) := by show _ = _; rw [HR1.out, decide_eq_true h0]; rfl
  clear h0
  have c2 := hmk (scalar_any false v S _ (w.alloc (.cells #[.int .i64 3, .string ⟨#[]⟩, .slice am m.length cm, .int .i64 vk, .bool vb, .int .i64 vi, .string vs, .slice val vl.length vcl, .slice vam vm.length vcm] 52)) (tb.below HB.out tb.z) (V.lies_keep (fun h => h) (fun b hb => HB.out.block b (hS b hb)) (fun _ h => h) _ HV.out) (fun b hb => Nat.lt_of_lt_of_le (hS b hb) HB.out.size) (by omega))
  go_enter Tryz.func64, Tryz.ntmps64
  go_wp2_with fail
  refine c2.out.mono ?_
  rintro e w2 ⟨rfl, b3⟩
  have HB3 := hmk (HB.out.trans (b3.mono (by omega)))
  go_wp2_with fail
  go_ret
  exact ⟨by rw [HF.out]; rfl, HB3.out⟩
 have z3 : (k == 3) = false := beq_eq_false_iff_ne.2 k3
 have HF := hmk (elB0 (nm := nm) (m := m) (v := v) k1 k2 k3)
 have HB := hmk b1
 clear k1 k2 k3
 go_enter Tryz.func64, Tryz.ntmps64
 go_wp2_with fail
 go_ret
 exact ⟨by rw [HF.out]; rfl, HB.out⟩
end Go.Proofs.YtdgfjdhobdfglaaGreatDoor
set_option maxHeartbeats 64000000
namespace Go.Proofs.YtdgfjdhobdfglaaGreatDoor
open Go.RowKit Go.Lib
theorem bounds_any (n : Nat) (hn : n < 256) (w : World) :
 Calls Tryz.prog 115 #[.int .u8 n] w fun e w' => e = .returned (.tuple #[.int .i64 (Q.bnd n).1, .int .u8 (Q.bnd n).2.1, .int .u8 (Q.bnd n).2.2]) /\ w' = w := by
 have key : ∀ a b c : Nat, Q.bnd n = (a, b, c) -> (Calls Tryz.prog 115 #[.int .u8 n] w fun e w' => e = .returned (.tuple #[.int .i64 a, .int .u8 b, .int .u8 c]) /\ w' = w) -> Calls Tryz.prog 115 #[.int .u8 n] w fun e w' => e = .returned (.tuple #[.int .i64 (Q.bnd n).1, .int .u8 (Q.bnd n).2.1, .int .u8 (Q.bnd n).2.2]) /\ w' = w := by
  intro a b c e h
  rw [e]
  exact h
 have c9 : n < 128 \/ (128 <= n /\ n < 194) \/ (194 <= n /\ n < 224) \/ n = 224 \/ n = 237 \/ (224 < n /\ n < 240 /\ n ≠ 237) \/ n = 240 \/ n = 244 \/ (240 < n /\ n < 244) \/ 244 < n := by omega
 rcases c9 with h | h | h | h | h | h | h | h | h | h
 case inr.inr.inr.inl => subst h; refine key 3 160 191 (by decide) ?_; go_enter Tryz.func115, Tryz.ntmps115; go_wp2; go_ret3; exact ⟨rfl, rfl⟩
 case inr.inr.inr.inr.inl => subst h; refine key 3 128 159 (by decide) ?_; go_enter Tryz.func115, Tryz.ntmps115; go_wp2; go_ret3; exact ⟨rfl, rfl⟩
 case inr.inr.inr.inr.inr.inr.inl => subst h; refine key 4 144 191 (by decide) ?_; go_enter Tryz.func115, Tryz.ntmps115; go_wp2; go_ret3; exact ⟨rfl, rfl⟩
 case inr.inr.inr.inr.inr.inr.inr.inl => subst h; refine key 4 128 143 (by decide) ?_; go_enter Tryz.func115, Tryz.ntmps115; go_wp2; go_ret3; exact ⟨rfl, rfl⟩
 ·refine key 1 0 0 (by simp [Q.bnd, h]) ?_
  have z1 : (n : Int) < 128 := by omega
  go_enter Tryz.func115, Tryz.ntmps115
  go_wp2
  go_ret3
  exact ⟨rfl, rfl⟩
 all_goals
  have z1 : ¬ (n : Int) < 128 := by omega
  have b1 : ((n : Int) == 224) = false := by rw [beq_eq_false_iff_ne]; omega
  have b2 : ((n : Int) == 237) = false := by rw [beq_eq_false_iff_ne]; omega
  have b3 : ((n : Int) == 240) = false := by rw [beq_eq_false_iff_ne]; omega
  have b4 : ((n : Int) == 244) = false := by rw [beq_eq_false_iff_ne]; omega
 focus
  refine key 0 0 0 ?_ ?_
  ·unfold Q.bnd; repeat' split
   all_goals first | rfl | (exfalso; omega)
  have d1 : ¬ (194 : Int) <= n := by omega
  have d2 : ¬ (224 : Int) < n := by omega
  have d3 : ¬ (240 : Int) < n := by omega
 rotate_left 1
 focus
  refine key 2 128 191 ?_ ?_
  ·unfold Q.bnd; repeat' split
   all_goals first | rfl | (exfalso; omega)
  have d1 : (194 : Int) <= n := by omega
  have d2 : (n : Int) < 224 := by omega
 rotate_left 1
 focus
  refine key 3 128 191 ?_ ?_
  ·unfold Q.bnd; repeat' split
   all_goals first | rfl | (exfalso; omega)
  have d1 : (194 : Int) <= n := by omega
  have d2 : ¬ (n : Int) < 224 := by omega
  have d3 : (224 : Int) < n := by omega
  have d4 : (n : Int) < 240 := by omega
 rotate_left 1
 focus
  refine key 4 128 191 ?_ ?_
  ·unfold Q.bnd; repeat' split
   all_goals first | rfl | (exfalso; omega)
  have d1 : (194 : Int) <= n := by omega
  have d2 : ¬ (n : Int) < 224 := by omega
  have d3 : (224 : Int) < n := by omega
  have d4 : ¬ (n : Int) < 240 := by omega
  have d5 : (240 : Int) < n := by omega
  have d6 : (n : Int) < 244 := by omega
 rotate_left 1
 focus
  refine key 0 0 0 ?_ ?_
  ·unfold Q.bnd; repeat' split
   all_goals first | rfl | (exfalso; omega)
  have d1 : (194 : Int) <= n := by omega
  have d2 : ¬ (n : Int) < 224 := by omega
  have d3 : (224 : Int) < n := by omega
  have d4 : ¬ (n : Int) < 240 := by omega
  have d5 : (240 : Int) < n := by omega
  have d6 : ¬ (n : Int) < 244 := by omega
 rotate_left 1
 all_goals
  go_enter Tryz.func115, Tryz.ntmps115
  go_wp2
  go_ret3
  exact ⟨rfl, rfl⟩
theorem drop_cons (s : ByteArray) (k : Nat) (h : k < s.size) : s.data.toList.drop k = s[k] :: s.data.toList.drop (k + 1) := by
 rw [List.drop_eq_getElem_cons (by simpa using h)]
 rfl
theorem drop_end (s : ByteArray) (k : Nat) (h : s.size <= k) : s.data.toList.drop k = [] := by
 rw [List.drop_eq_nil_iff]
 simpa using h
theorem ret_ib {a b : Int} {p q : Bool} (h : a = b) (h2 : p = q) : Ending.returned (.tuple #[.int .i64 a, .bool p]) = .returned (.tuple #[.int .i64 b, .bool q]) := by rw [h, h2]
set_option maxRecDepth 100000 in
theorem next_any (s : ByteArray) (a : Int) (k : Nat) (hak : a = k) (hk : k <= s.size) (hs : s.size <= 140737488351232) (w : World) :
 Calls Tryz.prog 84 #[.string s, .int .i64 a] w fun e w' => e = .returned (.tuple #[.int .i64 (k + (Q.nxt (s.data.toList.drop k)).1 : Int), .bool (Q.nxt (s.data.toList.drop k)).2]) /\ w' = w := by
 subst hak
 by_cases h0 : k < s.size
 ·have z0 : (k : Int) < s.size := by omega
  have hd := drop_cons s k h0
  have cb := bounds_any s[k].toNat s[k].toNat_lt w
  have hn4 := Q.bnd_le s[k].toNat
  have hR : Q.nxt (s.data.toList.drop k) = if (Q.bnd s[k].toNat).1 = 0 then (0, false) else Q.nxtGo (Q.bnd s[k].toNat).1 1 (Q.bnd s[k].toNat).2.1 (Q.bnd s[k].toNat).2.2 (s.data.toList.drop (k + 1)) := by
   rw [hd]; rfl
  generalize hR0 : Q.nxt (s.data.toList.drop k) = R at *
  have hlo : (Q.bnd s[k].toNat).2.1 < 256 /\ (Q.bnd s[k].toNat).2.2 < 256 := by
   unfold Q.bnd; repeat' split
   all_goals simp
  generalize Q.bnd s[k].toNat = B at *
  obtain ⟨n, lo, hi⟩ := B
  simp only at cb hn4 hR hlo
  clear hd hR0
  by_cases hz : n = 0
  ·subst hz
   rw [if_pos rfl] at hR
   subst hR
   go_enter Tryz.func84, Tryz.ntmps84
   go_wp2_with (go_at_call 115; refine cb.mono ?_; rintro e w' ⟨rfl, rfl⟩)
   go_ret2
   exact ⟨ret_ib (by simp) rfl, rfl⟩
  ·rw [if_neg hz] at hR
   have HR : Hid (R = Q.nxtGo n 1 lo hi (s.data.toList.drop (k + 1))) := hR
   clear hR
   have bz : ((n : Int) == 0) = false := by rw [beq_eq_false_iff_ne]; omega
   go_enter Tryz.func84, Tryz.ntmps84
   go_wp2_with (go_at_call 115; refine cb.mono ?_; rintro e w' ⟨rfl, rfl⟩)
   go_loop [7, 8, 9] (fun lo' hi' j' => ∃ j l g : Nat, 1 <= j /\ j <= n /\ l < 256 /\ g < 256 /\ lo' = .int .u8 l /\ hi' = .int .u8 g /\ j' = .int .i64 j /\ Hid (R = Q.nxtGo n j l g (s.data.toList.drop (k + j)))) (fun _ _ j' => n - (RowKit.intOf j').toNat)
   case atStart => exact ⟨1, lo, hi, by omega, by omega, hlo.1, hlo.2, rfl, rfl, rfl, HR⟩
   case round =>
    obtain ⟨j, l, g, hj1, hj2, hl, hg, rfl, rfl, rfl, HJ⟩ := hrel
    clear HR hlo cb
    by_cases hjn : j < n
    ·have y1 : (j : Int) < n := by omega
     by_cases hend : k + j < s.size
     ·have y2 : ((k : Int) + j) < s.size := by omega
      have hd := drop_cons s (k + j) hend
      by_cases c1 : s[k + j].toNat < l
      ·have hfin : R = (j, false) := by
        rw [HJ.out, hd, Q.nxtGo, if_neg (by omega), if_pos (Or.inl c1)]
       subst hfin
       have y3 : (s[k + j].toNat : Int) < l := by omega
       clear HJ hd
       go_wp2
       go_ret2
       exact ⟨ret_ib (by simp) rfl, rfl⟩
      ·by_cases c2 : g < s[k + j].toNat
       ·have hfin : R = (j, false) := by
         rw [HJ.out, hd, Q.nxtGo, if_neg (by omega), if_pos (Or.inr c2)]
        subst hfin
        have y3 : ¬ (s[k + j].toNat : Int) < l := by omega
        have y4 : (g : Int) < s[k + j].toNat := by omega
        clear HJ hd
        go_wp2
        go_ret2
        exact ⟨ret_ib (by simp) rfl, rfl⟩
       ·have HN : Hid (R = Q.nxtGo n (j + 1) 128 191 (s.data.toList.drop (k + (j + 1)))) := by
         show R = _
         rw [HJ.out, hd, Q.nxtGo, if_neg (by omega), if_neg (by omega)]
         rfl
        have y3 : ¬ (s[k + j].toNat : Int) < l := by omega
        have y4 : ¬ (g : Int) < s[k + j].toNat := by omega
        clear HJ hd
        go_wp2
        go_round
        case rel => exact ⟨j + 1, 128, 191, by omega, by omega, by omega, by omega, rfl, rfl, by go_num, HN⟩
        case measure => simp [RowKit.intOf]; omega
     ·have hd := drop_end s (k + j) (by omega)
      have hfin : R = (j, false) := by
       rw [HJ.out, hd, Q.nxtGo, if_neg (by omega)]
      subst hfin
      have y2 : (s.size : Int) <= (k : Int) + j := by omega
      clear HJ hd
      go_wp2
      go_ret2
      exact ⟨ret_ib (by simp) rfl, rfl⟩
    ·have hfin : R = (n, true) := by
      rw [HJ.out]
      cases s.data.toList.drop (k + j) <;> rw [Q.nxtGo, if_pos (by omega)]
     subst hfin
     have y1 : ¬ (j : Int) < n := by omega
     clear HJ
     go_wp2
     go_ret2
     exact ⟨ret_ib (by simp) rfl, rfl⟩
 ·have hd := drop_end s k (by omega)
  rw [hd]
  have z0 : ¬ (k : Int) < s.size := by omega
  have z1 : (s.size : Int) <= k := by omega
  clear hd
  go_enter Tryz.func84, Tryz.ntmps84
  go_wp2
  go_ret2
  exact ⟨ret_ib (by simp [Q.nxt]) rfl, rfl⟩
set_option maxRecDepth 100000 in
theorem refValid_any (s : ByteArray) (hs : s.size <= 140737488351232) (w : World) :
 Calls Tryz.prog 55 #[.string s] w fun e w' => e = .returned (.bool (Lib.validD s.data.toList)) /\ w' = w := by
 generalize hV : Lib.validD s.data.toList = V
 have HV : Hid (Lib.validD s.data.toList = V) := hV
 clear hV
 go_enter Tryz.func55, Tryz.ntmps55
 go_wp2
 go_loop [3] (fun a => ∃ k : Nat, k <= s.size /\ a = .int .i64 k /\ Hid (Lib.validD (s.data.toList.drop k) = V)) (fun a => s.size - (RowKit.intOf a).toNat)
 case atStart => exact ⟨0, by omega, rfl, HV⟩
 case round =>
  obtain ⟨k, hk, rfl, HK⟩ := hrel
  by_cases hlt : k < s.size
  ·have y1 : (k : Int) < s.size := by omega
   have hne : s.data.toList.drop k ≠ [] := by rw [drop_cons s k hlt]; simp
   have hst := Q.valid_step (s.data.toList.drop k) hne
   have hle := Q.nxt_le (s.data.toList.drop k)
   have hlen : (s.data.toList.drop k).length = s.size - k := by simp
   rw [hlen] at hle
   have cn := next_any s k k rfl hk hs w
   have HST : Hid (V = if (Q.nxt (s.data.toList.drop k)).2 then Lib.validD (s.data.toList.drop (k + (Q.nxt (s.data.toList.drop k)).1)) else false) := by
    show V = _
    rw [<- HK.out, hst, List.drop_drop]
   clear hst hne hlen HK HV
   generalize Q.nxt (s.data.toList.drop k) = R at *
   obtain ⟨m, b⟩ := R
   simp only at hle cn
   cases b
   ·have hfin : V = false := by rw [HST.out]; rfl
    subst hfin
    clear HST
    go_wp2_with (go_at_call 84; refine cn.mono ?_; rintro e w' ⟨rfl, rfl⟩)
    go_ret
    exact ⟨rfl, rfl⟩
   ·have hm := hle.2.2 rfl
    have HN : Hid (Lib.validD (s.data.toList.drop (k + m)) = V) := by
     show _ = V
     rw [HST.out]; rfl
    clear HST
    go_wp2_with (go_at_call 84; refine cn.mono ?_; rintro e w' ⟨rfl, rfl⟩)
    go_round
    case rel => exact ⟨k + m, by omega, by go_num, HN⟩
    case measure => simp [RowKit.intOf]; omega
  ·have y1 : ¬ (k : Int) < s.size := by omega
   have hfin : V = true := by
    rw [<- HK.out, drop_end s k (by omega)]
    rfl
   subst hfin
   clear HK HV
   go_wp2
   go_ret
   exact ⟨rfl, rfl⟩
end Go.Proofs.YtdgfjdhobdfglaaGreatDoor
