/- joined: DcmH RefA RefB -/
import Derived.Test.YtdgfjdhobdfglaaGreatDoorG38
import Derived.Lib.RuneBytes
set_option linter.unusedSimpArgs false
set_option linter.unusedVariables false
namespace Go
theorem results_ctt {fn : Func} {p q u : Tmp} {ty : TypeId} (h : fn.results = #[.cell p ty, .tmp q, .tmp u]) (tmps : Array Value) (P : Program) (w : World) :
 (results fn tmps).run P w =
  ((asAddr (tmps.getD p undef)).run P w).andThen fun a w₁ => ((loadVar ty a).run P w₁).andThen fun v w₂ => .ok (.tuple #[v, tmps.getD q undef, tmps.getD u undef]) w₂ := by
 simp only [results, h]
 simp [Sem.run_bind, Result.andThen]
end Go
set_option maxRecDepth 100000
namespace Go.Proofs.YtdgfjdhobdfglaaGreatDoor
open Go.RowKit Go.Lib
def wrdB (r : Int) : Bool := latR r || (decide (r = 43) || decide (r = 46))
theorem wrdB_no {c : UInt8} (h : wrdB c.toNat = true) : blkB c.toNat = false /\ c.toNat ≠ 34 /\ c.toNat ≠ 91 /\ c.toNat ≠ 123 := by
 have : ∀ d : Fin 256, wrdB (d.val : Int) = true -> blkB (d.val : Int) = false /\ d.val ≠ 34 /\ d.val ≠ 91 /\ d.val ≠ 123 := by decide +kernel
 exact this ⟨c.toNat, c.toNat_lt⟩ h
def WrdS (s : ByteArray) : Prop := ∀ (j : Nat) (h : j < s.size), wrdB ((s[j]'h).toNat : Int) = true
theorem dval_any (g : Nat) (s : ByteArray) (w : World) (h : RB g s 0 0 0 0 w) (hw : WrdS s) (hs : s.size <= 2147483647) :
 Calls Tryz.prog 112 #[.pointer (some ⟨g, 0, none⟩), .int .i64 0] w (VlP (valP s.data.toList) g s w) := by
 by_cases h0 : s.size = 0
 ·exact dval_end g s w h h0 hs
 have hp : 0 < s.size := by omega
 obtain ⟨hb, n34, n91, n123⟩ := wrdB_no (hw 0 hp)
 by_cases c1 : (s[0]'hp).toNat = 110
 ·exact dval_n g s w h hp c1 hs
 by_cases c2 : (s[0]'hp).toNat = 116
 ·exact dval_t g s w h hp c2 hs
 by_cases c3 : (s[0]'hp).toNat = 102
 ·exact dval_f g s w h hp c3 hs
 cases hn : numB ((s[0]'hp).toNat : Int) with
 | true => exact dval_num g s w h hp hn hs
 | false => exact dval_bad g s w h hp hb hn ⟨c1, c2, c3, n34, n91, n123⟩ hs
def parP (l : List UInt8) : Option V := (valP l).bind (fun x => if x.2 = l.length then some x.1 else none)
def PjP (R : Option V) (w : World) (e : Ending) (w' : World) : Prop :=
 Below w.heap.size w w' /\ ((∃ (vk : Int) (vb : Bool) (vi : Int), R = some (.mk vk vb vi ⟨#[]⟩ [] []) /\ e = .returned (.tuple #[.agg #[.int .i64 vk, .bool vb, .int .i64 vi, .string ⟨#[]⟩, .slice none 0 0, .slice none 0 0], .int .i64 (-1), .int .i64 0])) \/
  (R = none /\ ∃ (bad er : Int), er ≠ 0 /\ e = .returned (.tuple #[.agg #[.int .i64 0, .bool false, .int .i64 0, .string ⟨#[]⟩, .slice none 0 0, .slice none 0 0], .int .i64 bad, .int .i64 er])))
abbrev rdO (s : ByteArray) : Obj := .cells #[.string s, .int .i64 0, .int .i64 0, .int .i64 0, .int .i64 0, .int .i64 0] 162
theorem belowD {w X : World} {n : Nat} (h : Below n w X) : Below n w X.drew := below_drewN h 1
theorem belowG {w W W' : World} {g : Nat} (h : Below w.heap.size w W) (hg : W.grownBy W' (some g)) (hgw : w.heap.size <= g) : Below w.heap.size w W' := h.grown hg h.size (fun k hk => by cases hk; exact hgw)
set_option maxHeartbeats 8000000 in
theorem dparse_any (s : ByteArray) (a : Option Addr) (c : Nat) (w : World) (hw : WrdS s) (hs : s.size <= 1048576) (hcv : ∀ W, Below w.heap.size w W -> (convert 101 9 (.slice a s.size c)).run Tryz.prog W = .ok (.string s) W) :
 Calls Tryz.prog 83 #[.slice a s.size c, .int .i64 0] w (PjP (parP s.data.toList) w) := by
 have hls : s.data.toList.length = s.size := by simp
 have HLS := hmk hls
 have y0 : ¬ (1048576 : Int) < s.size := by omega
 have b1 : Below w.heap.size w (w.alloc z46) := (Below.refl _ _).alloc (Nat.le_refl _) _
 have b2 : Below w.heap.size w ((w.alloc z46).alloc (rdO s)) := b1.alloc (by rw [alloc_size]; omega) _
 have cv1 := hcv _ b1
 have hz1 : (w.alloc z46).heap.size = w.heap.size + 1 := by rw [alloc_size]
 have hz2 : ((w.alloc z46).alloc (rdO s)).heap.size = w.heap.size + 2 := by rw [alloc_size, alloc_size]
 have n1 : ((w.alloc z46).alloc (rdO s)).heap[w.heap.size]? = some z46 := (Below.heap_alloc _ _ _ (by rw [alloc_size]; omega)).trans (heap_alloc_new w _)
 have R2 : RB (w.heap.size + 1) s 0 0 0 0 ((w.alloc z46).alloc (rdO s)) := alloc2_new w _ _
 have CV := hmk (dval_any (w.heap.size + 1) s _ R2 hw (by omega))
 have HB2 := hmk b2
 have HN1 := hmk n1
 have HZ2 := hmk hz2
 have HW := hmk hw
 clear hls hcv hs hw b2 n1 R2 hz2 b1
 go_enter Tryz.func83, Tryz.ntmps83
 go_wp2_with fail
 refine CV.out.mono ?_
 rintro e w3 ⟨vk, vb, vi, k1, nd, er, bad, rfl, hk1, R3, g3, hres⟩
 have hg3 : w.heap.size + 1 < w3.heap.size := Nat.lt_of_lt_of_le (by have := HZ2.out; omega) g3.size
 have B3 := belowG HB2.out g3 (by omega)
 have n3 : w3.heap[w.heap.size]? = some z46 := (g3.block _ (by have := HZ2.out; omega) (fun e => by have := Option.some.inj e; omega)).trans HN1.out
 have R4 := R3.keep ((Below.refl _ w3).alloc (Nat.le_refl _) (.cells #[.int .i64 vk, .bool vb, .int .i64 vi, .string ⟨#[]⟩, .slice none 0 0, .slice none 0 0] 25))
 have B4 : Below w.heap.size w (w3.alloc (.cells #[.int .i64 vk, .bool vb, .int .i64 vi, .string ⟨#[]⟩, .slice none 0 0, .slice none 0 0] 25)) := B3.alloc B3.size _
 have n4 : (w3.alloc (.cells #[.int .i64 vk, .bool vb, .int .i64 vi, .string ⟨#[]⟩, .slice none 0 0, .slice none 0 0] 25)).heap[w.heap.size]? = some z46 := (Below.heap_alloc _ _ _ (by omega)).trans n3
 have m4 := heap_alloc_new w3 (.cells #[.int .i64 vk, .bool vb, .int .i64 vi, .string ⟨#[]⟩, .slice none 0 0, .slice none 0 0] 25)
 have hz4 := alloc_size w3 (.cells #[.int .i64 vk, .bool vb, .int .i64 vi, .string ⟨#[]⟩, .slice none 0 0, .slice none 0 0] 25)
 have CB := hmk (dblanks_none (w.heap.size + 1) s k1 nd er bad _ R4 hk1 (fun h => (wrdB_no (HW.out k1 h)).1))
 have K5 : Hid (∀ W, (w3.alloc (.cells #[.int .i64 vk, .bool vb, .int .i64 vi, .string ⟨#[]⟩, .slice none 0 0, .slice none 0 0] 25)).grownBy W (some (w.heap.size + 1)) -> W.heap[w.heap.size]? = some z46 /\ W.heap[w3.heap.size]? = some (.cells #[.int .i64 vk, .bool vb, .int .i64 vi, .string ⟨#[]⟩, .slice none 0 0, .slice none 0 0] 25) /\ Below w.heap.size w W) := fun W hW =>
  ⟨(hW.block _ (by omega) (fun e => by have := Option.some.inj e; omega)).trans n4, (hW.block _ (by omega) (fun e => by have := Option.some.inj e; omega)).trans m4, belowG B4 hW (by omega)⟩
 have HRES := hmk hres
 clear CV R3 g3 B3 n3 R4 B4 n4 m4 hz4 hres HB2 HN1 HZ2 cv1 hz1
 go_wp2_with fail
 refine CB.out.mono ?_
 rintro e w5 ⟨rfl, R5, g5⟩
 clear CB
 have c0 := R5.c0
 have c1 := R5.c1
 have c4 := R5.c4
 have HR5 := hmk R5
 have HG5 := hmk g5
 clear R5 g5
 rcases HRES.out with ⟨hsome, rfl⟩ | ⟨hnone, her⟩
 ·by_cases hk : k1 < s.size
  ·have x1 : (k1 : Int) < s.size := by omega
   have HV : Hid (parP s.data.toList = none) := by
    show _ = _
    rw [parP, hsome, Option.bind_some, if_neg (by rw [HLS.out]; show k1 ≠ s.size; omega)]
   have HE : Hid ((35 : Int) ≠ 0) := by show _ ≠ _; omega
   clear hsome HRES
   go_wp2_with fail
   go_quiet (fail)
   have c1 : (w5.drewN nq).cell? ⟨w.heap.size + 1, 1, none⟩ = some (.int .i64 (k1 : Int)) := (HR5.out.drewN nq).c1
   have CF := hmk (dfail_any (w.heap.size + 1) s k1 nd bad (k1 : Int) 35 _ (HR5.out.drewN nq))
   have HG6 := hmk (grown_drewN HG5.out nq)
   generalize w5.drewN nq = w6 at *
   clear HR5 HG5 c0 c4
   go_wp2_with fail
   refine CF.out.mono ?_
   rintro e w7 ⟨rfl, RW, g7⟩
   obtain ⟨Na, -, BW⟩ := K5.out w7 (grown_trans HG6.out g7)
   clear g7 CF HG6 K5 c1
   have c4 := RW.c4
   have c5 := RW.c5
   obtain ⟨qa0, qa1, qa2, qa3, qa4, qa5⟩ := cN6 Na
   have kf : ∀ ii, w7.frozen? ⟨w.heap.size, ii, none⟩ = false := frozen_of_block Na
   have sg := st6_grown w7 w.heap.size (.int .i64 0) (.bool false) (.int .i64 0) (.string ⟨#[]⟩) (.slice none 0 0) (.slice none 0 0)
   have HBF := hmk (belowD (belowG BW sg (Nat.le_refl _)))
   clear sg Na RW BW
   go_wp2_with fail
   go_region
   all_goals
    go_wp2_with fail
    (try simp only [Exit.inBlock, Exit.then])
    refine bodyPost_ret (v := .tuple #[.agg #[.int .i64 0, .bool false, .int .i64 0, .string ⟨#[]⟩, .slice none 0 0, .slice none 0 0], .int .i64 k1, .int .i64 35]) ?_ rfl ⟨HBF.out, .inr ⟨HV.out, _, _, HE.out, rfl⟩⟩
    rw [Go.results_ctt rfl]
    go_simp
  ·have x1 : ¬ (k1 : Int) < s.size := by omega
   have HV : Hid (parP s.data.toList = some (.mk vk vb vi ⟨#[]⟩ [] [])) := by
    show _ = _
    rw [parP, hsome, Option.bind_some, if_pos (by rw [HLS.out]; show k1 = s.size; omega)]
   clear hsome HRES
   go_wp2_with fail
   go_quiet (fail)
   have c4 : (w5.drewN nq).cell? ⟨w.heap.size + 1, 4, none⟩ = some (.int .i64 0) := (HR5.out.drewN nq).c4
   obtain ⟨Na, Nb, BW⟩ := K5.out _ (grown_drewN HG5.out nq)
   generalize w5.drewN nq = w6 at *
   clear HR5 HG5 c0 K5
   obtain ⟨qa0, qa1, qa2, qa3, qa4, qa5⟩ := cN6 Na
   obtain ⟨qb0, qb1, qb2, qb3, qb4, qb5⟩ := cN6 Nb
   have kf : ∀ ii, w6.frozen? ⟨w.heap.size, ii, none⟩ = false := frozen_of_block Na
   have sg := st6_grown w6 w.heap.size (.int .i64 vk) (.bool vb) (.int .i64 vi) (.string ⟨#[]⟩) (.slice none 0 0) (.slice none 0 0)
   have HBF := hmk (belowG BW sg (Nat.le_refl _))
   clear sg Na Nb BW
   go_wp2_with fail
   (try simp only [Exit.inBlock, Exit.then])
   refine bodyPost_ret (v := .tuple #[.agg #[.int .i64 vk, .bool vb, .int .i64 vi, .string ⟨#[]⟩, .slice none 0 0, .slice none 0 0], .int .i64 (-1), .int .i64 0]) ?_ rfl ⟨HBF.out, .inl ⟨_, _, _, HV.out, rfl⟩⟩
   rw [Go.results_ctt rfl]
   go_simp
 ·have x0 : (er == 0) = false := by rw [beq_eq_false_iff_ne]; exact her
  have x2 : (er != 0) = true := by rw [bne_iff_ne]; exact her
  have HV : Hid (parP s.data.toList = none) := by
   show _ = _
   rw [parP, hnone]; rfl
  have HE := hmk her
  clear hnone HRES her
  go_wp2_with fail
  go_quiet (fail)
  have RW := HR5.out.drewN nq
  obtain ⟨Na, -, BW⟩ := K5.out _ (grown_drewN HG5.out nq)
  generalize w5.drewN nq = w6 at *
  clear HR5 HG5 c0 c1 c4 K5
  have c4 := RW.c4
  have c5 := RW.c5
  obtain ⟨qa0, qa1, qa2, qa3, qa4, qa5⟩ := cN6 Na
  have kf : ∀ ii, w6.frozen? ⟨w.heap.size, ii, none⟩ = false := frozen_of_block Na
  have sg := st6_grown w6 w.heap.size (.int .i64 0) (.bool false) (.int .i64 0) (.string ⟨#[]⟩) (.slice none 0 0) (.slice none 0 0)
  have HBF := hmk (belowD (belowG BW sg (Nat.le_refl _)))
  clear sg Na RW BW
  go_wp2_with fail
  go_region
  all_goals
   go_wp2_with fail
   (try simp only [Exit.inBlock, Exit.then])
   refine bodyPost_ret (v := .tuple #[.agg #[.int .i64 0, .bool false, .int .i64 0, .string ⟨#[]⟩, .slice none 0 0, .slice none 0 0], .int .i64 bad, .int .i64 er]) ?_ rfl ⟨HBF.out, .inr ⟨HV.out, _, _, HE.out, rfl⟩⟩
   rw [Go.results_ctt rfl]
   go_simp
end Go.Proofs.YtdgfjdhobdfglaaGreatDoor
set_option maxRecDepth 100000
namespace Go.Proofs.YtdgfjdhobdfglaaGreatDoor
open Go.RowKit
theorem ret_iib {a b c d : Int} {p q : Bool} (h : a = b) (h1 : c = d) (h2 : p = q) : Ending.returned (.tuple #[.int .i64 a, .int .i64 c, .bool p]) = .returned (.tuple #[.int .i64 b, .int .i64 d, .bool q]) := by rw [h, h1, h2]
set_option maxHeartbeats 8000000 in
theorem four_any (s : ByteArray) (a : Int) (k : Nat) (hak : a = k) (low : Bool) (hk : k <= s.size) (hs : s.size <= 140737488351232) (w : World) :
 Calls Tryz.prog 131 #[.string s, .int .i64 a, .bool low] w fun e w' => e = .returned (.tuple #[.int .i64 (Q.digs low 4 0 0 (s.data.toList.drop k)).1, .int .i64 ((k + (Q.digs low 4 0 0 (s.data.toList.drop k)).2.1 : Nat) : Int), .bool (Q.digs low 4 0 0 (s.data.toList.drop k)).2.2]) /\ w' = w := by
 subst hak
 obtain ⟨R, hR⟩ : ∃ R, R = Q.digs low 4 0 0 (s.data.toList.drop k) := ⟨_, rfl⟩
 rw [<- hR]
 have HR : Hid (R = Q.digs low 4 0 0 (s.data.toList.drop k)) := hR
 clear hR
 go_enter Tryz.func131, Tryz.ntmps131
 go_wp2
 go_loop [9, 10] (fun c i => ∃ j cN : Nat, j <= 4 /\ i = .int .i64 (j : Int) /\ c = .int .i64 (cN : Int) /\ cN < 16 ^ j /\ k + j <= s.size /\ Hid (low = true -> j = 1 -> cN = 13) /\ Hid (R = Q.digs low (4 - j) j cN (s.data.toList.drop (k + j)))) (fun _ i => 4 - (RowKit.intOf i).toNat)
 case atStart => exact ⟨0, 0, by omega, rfl, rfl, by decide, hk, (fun _ h => by omega), HR⟩
 case round =>
  obtain ⟨j, cN, hj, rfl, rfl, hc, hkj, HINV, HJ⟩ := hrel
  clear HR
  by_cases hj4 : j < 4
  ·have y1 : (j : Int) < 4 := by omega
   have hc4 : cN < 4096 := by
    have : 16 ^ j <= 4096 := by
     have cj : j = 0 \/ j = 1 \/ j = 2 \/ j = 3 := by omega
     rcases cj with rfl | rfl | rfl | rfl <;> decide
    omega
   have hc16 : 16 * cN + 15 < 16 ^ (j + 1) := by rw [Nat.pow_succ]; omega
   by_cases hlt : k + j < s.size
   ·have y2 : ((k : Int) + j) < s.size := by omega
    have hd := drop_consW s (k + j) hlt
    have hdl := Q.dig_le s[k + j].toNat
    obtain ⟨r, hr⟩ : ∃ r, 4 - j = r + 1 := ⟨3 - j, by omega⟩
    have cd : ∀ w, _ := fun w => refDigit_any s[k + j].toNat s[k + j].toNat_lt w
    have HJ2 : Hid (R = if Q.dig s[k + j].toNat < 0 \/ Q.goes cN (Q.dig s[k + j].toNat) j low = false then (0, j, false) else Q.digs low r (j + 1) (16 * cN + (Q.dig s[k + j].toNat).toNat) (s.data.toList.drop (k + (j + 1)))) := by
     show R = _
     rw [HJ.out, hd, hr, Q.digs]
     rfl
    generalize Q.dig s[k + j].toNat = D at *
    have CD : Hid (∀ w : World, Calls Tryz.prog 150 #[.int .u8 (s[k + j].toNat : Int)] w fun e w' => e = .returned (.int .i64 D) /\ w' = w) := cd
    have HD : Hid (4 - j = r + 1) := hr
    clear HJ hd cd hr
    by_cases hneg : D < 0
    ·obtain rfl : R = (0, j, false) := by rw [HJ2.out, if_pos (Or.inl hneg)]
     clear HJ2 HINV
     go_wp2_with (go_at_call 150; refine (CD.out _).mono ?_; rintro e w1 ⟨rfl, rfl⟩)
     go_ret3
     exact ⟨ret_iib rfl (by simp) rfl, rfl⟩
    ·have hnn : 0 <= D := by omega
     have HINV2 : low = true -> j = 1 -> cN = 13 := HINV.out
     have bj0 : j = 0 -> ((j : Int) == 0) = true := by intro h; rw [beq_iff_eq]; omega
     have bj0' : j ≠ 0 -> ((j : Int) == 0) = false := by intro h; rw [beq_eq_false_iff_ne]; omega
     have bj1 : j = 1 -> ((j : Int) == 1) = true := by intro h; rw [beq_iff_eq]; omega
     have bj1' : j ≠ 1 -> ((j : Int) == 1) = false := by intro h; rw [beq_eq_false_iff_ne]; omega
     have bc : cN = 13 -> ((cN : Int) == 13) = true := by intro h; rw [beq_iff_eq]; omega
     have bc' : cN ≠ 13 -> ((cN : Int) == 13) = false := by intro h; rw [beq_eq_false_iff_ne]; omega
     have bd : D = 13 -> (D != 13) = false := by intro h; simpa using h
     have bd' : D ≠ 13 -> (D != 13) = true := by intro h; simpa using h
     cases hG : Q.goes cN D j low
     ·obtain rfl : R = (0, j, false) := by rw [HJ2.out, if_pos (Or.inr hG)]
      clear HJ2 HINV
      have hcase : (j = 0 /\ low = true /\ D ≠ 13) \/ (j = 1 /\ low = false /\ cN = 13 /\ 12 <= D) \/ (j = 1 /\ low = true /\ cN = 13 /\ ¬ 12 <= D) := by
       unfold Q.goes at hG
       by_cases j0 : j = 0
       ·rw [if_pos j0] at hG
        left
        cases low <;> simp at hG ⊢
        exact ⟨j0, hG⟩
       ·rw [if_neg j0] at hG
        by_cases j1 : j = 1
        ·rw [if_pos j1] at hG
         right
         cases low
         ·left
          simp at hG
          exact ⟨j1, rfl, by omega, by omega⟩
         ·right
          have := HINV2 rfl j1
          subst this
          simp at hG
          exact ⟨j1, rfl, rfl, by omega⟩
        ·rw [if_neg j1] at hG
         cases hG
      clear hG HINV2
      rcases hcase with ⟨j0, l0, d0⟩ | ⟨j1, l0, c0, d0⟩ | ⟨j1, l0, c0, d0⟩
      focus
       have e1 := bj0 j0
       have e2 := bd' d0
       subst l0
       have H0 : Hid (j = 0) := j0
       clear bj0 bj0' bj1 bj1' bc bc' bd bd' j0 d0
      rotate_left 1
      focus
       have e1 := bj0' (by omega)
       have e2 := bj1 j1
       have e3 := bc c0
       subst l0
       have H0 : Hid (j = 1) := j1
       clear bj0 bj0' bj1 bj1' bc bc' bd bd' j1 c0
      rotate_left 1
      focus
       have e1 := bj0' (by omega)
       have e2 := bj1 j1
       have e3 := bc c0
       have e4 : decide (12 <= D) = false := by simp; omega
       subst l0
       have H0 : Hid (j = 1) := j1
       clear bj0 bj0' bj1 bj1' bc bc' bd bd' j1 c0
      rotate_left 1
      all_goals
       go_wp2_with (go_at_call 150; refine (CD.out _).mono ?_; rintro e w1 ⟨rfl, rfl⟩)
       go_ret3
       exact ⟨ret_iib rfl (by have := H0.out; omega) rfl, rfl⟩
     ·have HN : Hid (R = Q.digs low r (j + 1) (16 * cN + D.toNat) (s.data.toList.drop (k + (j + 1)))) := by
       show R = _
       rw [HJ2.out, if_neg (by rw [hG]; simp; omega)]
      have hcase : (j = 0 /\ low = false) \/ (j = 0 /\ low = true /\ D = 13) \/ (j = 1 /\ low = false /\ cN = 13 /\ ¬ 12 <= D) \/ (j = 1 /\ low = false /\ cN ≠ 13) \/ (j = 1 /\ low = true /\ cN = 13 /\ 12 <= D) \/ (j ≠ 0 /\ j ≠ 1 /\ low = false) \/ (j ≠ 0 /\ j ≠ 1 /\ low = true) := by
       unfold Q.goes at hG
       by_cases j0 : j = 0
       ·rw [if_pos j0] at hG
        cases low <;> simp at hG ⊢
        ·exact .inl j0
        ·exact .inl ⟨j0, hG⟩
       ·rw [if_neg j0] at hG
        by_cases j1 : j = 1
        ·rw [if_pos j1] at hG
         cases low
         ·simp at hG
          by_cases c13 : cN = 13
          ·exact .inr (.inr (.inl ⟨j1, rfl, c13, by omega⟩))
          ·exact .inr (.inr (.inr (.inl ⟨j1, rfl, c13⟩)))
         ·simp at hG
          exact .inr (.inr (.inr (.inr (.inl ⟨j1, rfl, by omega, by omega⟩))))
        ·cases low
         ·exact .inr (.inr (.inr (.inr (.inr (.inl ⟨j0, j1, rfl⟩)))))
         ·exact .inr (.inr (.inr (.inr (.inr (.inr ⟨j0, j1, rfl⟩)))))
      have HI : Hid (low = true -> j + 1 = 1 -> 16 * cN + D.toNat = 13) := by
       intro hl hj0
       have j0 : j = 0 := by omega
       have h16 : (16 : Nat) ^ 0 = 1 := rfl
       rw [j0, h16] at hc
       rcases hcase with h | h | h | h | h | h | h
       ·rw [h.2] at hl; cases hl
       ·have := h.2.2; omega
       all_goals omega
      clear HJ2 HINV HINV2 hG
      rcases hcase with ⟨j0, l0⟩ | ⟨j0, l0, d0⟩ | ⟨j1, l0, c0, d0⟩ | ⟨j1, l0, c0⟩ | ⟨j1, l0, c0, d0⟩ | ⟨j0, j1, l0⟩ | ⟨j0, j1, l0⟩
      focus
       have e1 := bj0 j0
       have e2 := bj1' (by omega)
       subst l0
       clear bj0 bj0' bj1 bj1' bc bc' bd bd' j0
      rotate_left 1
      focus
       have e1 := bj0 j0
       have e2 := bj1' (by omega)
       have e3 := bd d0
       subst l0
       clear bj0 bj0' bj1 bj1' bc bc' bd bd' j0 d0
      rotate_left 1
      focus
       have e1 := bj0' (by omega)
       have e2 := bj1 j1
       have e3 := bc c0
       subst l0
       clear bj0 bj0' bj1 bj1' bc bc' bd bd' j1 c0
      rotate_left 1
      focus
       have e1 := bj0' (by omega)
       have e2 := bj1 j1
       have e3 := bc' c0
       subst l0
       clear bj0 bj0' bj1 bj1' bc bc' bd bd' j1 c0
      rotate_left 1
      focus
       have e1 := bj0' (by omega)
       have e2 := bj1 j1
       have e3 := bc c0
       subst l0
       clear bj0 bj0' bj1 bj1' bc bc' bd bd' j1 c0
      rotate_left 1
      focus
       have e1 := bj0' j0
       have e2 := bj1' j1
       subst l0
       clear bj0 bj0' bj1 bj1' bc bc' bd bd'
      rotate_left 1
      focus
       have e1 := bj0' j0
       have e2 := bj1' j1
       subst l0
       clear bj0 bj0' bj1 bj1' bc bc' bd bd'
      rotate_left 1
      all_goals
       go_wp2_with (go_at_call 150; refine (CD.out _).mono ?_; rintro e w1 ⟨rfl, rfl⟩)
       go_round
       case rel =>
        have hD : D = (D.toNat : Int) := by omega
        have e2 : 4 - (j + 1) = r := by have := HD.out; omega
        refine ⟨j + 1, 16 * cN + D.toNat, by omega, by go_num, by congr 1; omega, by omega, by omega, HI, ?_⟩
        rw [e2]
        exact HN
       case measure => simp [RowKit.intOf]; omega
   ·have y2 : (s.size : Int) <= (k : Int) + j := by omega
    have hd := drop_endW s (k + j) (by omega)
    obtain ⟨r, hr⟩ : ∃ r, 4 - j = r + 1 := ⟨3 - j, by omega⟩
    obtain rfl : R = (0, j, false) := by rw [HJ.out, hd, hr, Q.digs]
    clear HJ HINV hd hr
    go_wp2
    go_ret3
    exact ⟨ret_iib rfl (by simp) rfl, rfl⟩
  ·have hj4' : j = 4 := by omega
   have y1 : ¬ (j : Int) < 4 := by omega
   have hfin : R = (cN, j, true) := by
    rw [HJ.out]
    have e : 4 - j = 0 := by omega
    rw [e, Q.digs]
   subst hfin
   have H4 : Hid (j = 4) := hj4'
   clear HJ hj4' HINV
   go_wp2
   go_ret3
   exact ⟨ret_iib rfl (by have := H4.out; simp; omega) rfl, rfl⟩
end Go.Proofs.YtdgfjdhobdfglaaGreatDoor
set_option maxRecDepth 100000
namespace Go.Proofs.YtdgfjdhobdfglaaGreatDoor
open Go.RowKit
set_option maxHeartbeats 8000000 in
theorem seq_any (V : Int) (h0 : 0 <= V) (h1 : V <= 1114111) (h2 : ¬ (55296 <= V /\ V <= 57343)) (w : World) :
 Calls Tryz.prog 111 #[.int .i64 V] w fun e w' => e = .returned (.slice (some ⟨w.heap.size, 0, none⟩) (Lib.runeCells V).length (Lib.runeCells V).length) /\ w' = w.alloc (.cells (Lib.runeCells V).toArray 5) := by
 unfold Lib.runeCells
 by_cases c1 : V < 128
 focus
  rw [Lib.encodeRuneZ_one h0 (by omega)]
  have q1 : IntKind.u8.wrap V = V := by rw [IntKind.wrap_u8]; omega
  clear h2 h1
 rotate_left 1
 focus
  by_cases c2 : V < 2048
  focus
   rw [Lib.encodeRuneZ_two (by omega) (by omega)]
   have y0 : (0 : Int) <= V / 64 := by omega
   have y1 : V / 64 < 32 := by omega
   have y2 : (0 : Int) <= V % 64 := by omega
   have y3 : V % 64 < 64 := by omega
   have q1 : IntKind.u8.wrap (192 + V / 64) = 192 + V / 64 := by rw [IntKind.wrap_u8]; omega
   have q2 : IntKind.u8.wrap (128 + V % 64) = 128 + V % 64 := by rw [IntKind.wrap_u8]; omega
   clear h2 h1
  rotate_left 1
  focus
   by_cases c3 : V < 65536
   focus
    rw [Lib.encodeRuneZ_three (by omega)]
    have y0 : (0 : Int) <= V / 4096 := by omega
    have y1 : V / 4096 < 16 := by omega
    have y2 : (0 : Int) <= V / 64 := by omega
    have y3 : V / 64 < 1024 := by omega
    have q1 : IntKind.u8.wrap (224 + V / 4096) = 224 + V / 4096 := by rw [IntKind.wrap_u8]; omega
    have q2 : IntKind.u8.wrap (128 + V / 64 % 64) = 128 + V / 64 % 64 := by rw [IntKind.wrap_u8]; omega
    have q3 : IntKind.u8.wrap (128 + V % 64) = 128 + V % 64 := by rw [IntKind.wrap_u8]; omega
    clear h2 h1
   rotate_left 1
   focus
    rw [Lib.encodeRuneZ_four (by omega) h1]
    have y0 : (0 : Int) <= V / 262144 := by omega
    have y1 : V / 262144 < 5 := by omega
    have y2 : (0 : Int) <= V / 4096 := by omega
    have y3 : V / 4096 < 273 := by omega
    have y4 : (0 : Int) <= V / 64 := by omega
    have y5 : V / 64 < 17408 := by omega
    have q1 : IntKind.u8.wrap (240 + V / 262144) = 240 + V / 262144 := by rw [IntKind.wrap_u8]; omega
    have q2 : IntKind.u8.wrap (128 + V / 4096 % 64) = 128 + V / 4096 % 64 := by rw [IntKind.wrap_u8]; omega
    have q3 : IntKind.u8.wrap (128 + V / 64 % 64) = 128 + V / 64 % 64 := by rw [IntKind.wrap_u8]; omega
    have q4 : IntKind.u8.wrap (128 + V % 64) = 128 + V % 64 := by rw [IntKind.wrap_u8]; omega
    clear h2
   rotate_left 1
  rotate_left 2
 rotate_left 3
 all_goals
  go_enter Tryz.func111, Tryz.ntmps111
  go_wp2
  go_ret
  exact ⟨rfl, rfl⟩
end Go.Proofs.YtdgfjdhobdfglaaGreatDoor
