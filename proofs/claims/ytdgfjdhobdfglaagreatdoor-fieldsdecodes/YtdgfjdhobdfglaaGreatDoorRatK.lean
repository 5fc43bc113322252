import Derived.Test.YtdgfjdhobdfglaaGreatDoorG34
import Derived.Test.YtdgfjdhobdfglaaGreatDoorCtsK
set_option linter.unusedSimpArgs false
set_option linter.unusedVariables false
set_option maxRecDepth 100000
namespace Go.Proofs.YtdgfjdhobdfglaaGreatDoor
open Go.RowKit Go.Lib
def AtC (v : V) : Prop := ∀ (S PS SS : Nat -> Prop) (rb g : Nat) (sv : Value) (p : List El) (A : List (List El)) (cs : List Value) (w : World) (st : St), RdS S PS SS rb g sv p A w -> v.lies false w S cs -> st.2.2 <= 32 -> (chkV 32 v p.length st).1 = 0 -> (∀ e ∈ p, elW e) -> A.length + v.wt <= 4294967295 -> v.wt <= 2147483647 ->
 Calls Tryz.prog 13 #[.pointer (some ⟨rb, 0, none⟩), .slice (some ⟨g, 0, none⟩) p.length 32, .agg cs.toArray] w (RtPost v (dpV (decide (p.length = 0)) p v) SS rb g sv p A w)
theorem p_bound {p : List El} (hl : p.length <= 32) (hp : ∀ e ∈ p, elW e) : pathB p = true /\ wtP p <= 2147483647 := by
 refine ⟨pathB_true hl (fun j hj => (hp _ (List.getElem_mem hj)).1), ?_⟩
 have h3 := wtP_le (fun e he => (hp e he).2)
 have h4 := Nat.mul_le_mul_right 16777236 hl
 omega
theorem elW_snoc {p : List El} {el : El} (hp : ∀ e ∈ p, elW e) (he : elW el) : ∀ e ∈ p ++ [el], elW e := fun e h => by
 rcases List.mem_append.1 h with h | h
 ·exact hp e h
 ·rw [List.mem_singleton] at h; subst h; exact he
structure AtI (S2 PS : Nat -> Prop) (SS : Nat -> Prop) (rb g : Nat) (sv : Value) (p : List El) (A2 : List (List El)) (B' : List (El × V)) (w w2 : World) (i : Nat) (wr : World) : Prop where
 st : ∃ Lp sv3 SS3, RdS S2 PS SS3 rb g sv3 p (A2 ++ Lp) wr /\ (sv3.ownBlock = sv.ownBlock \/ ∀ r, sv3.ownBlock = some r -> w.heap.size <= r) /\ (∀ b, SS3 b -> SS b \/ w.heap.size <= b) /\ CatL p (B'.take i) Lp /\ Lp.length <= wtB (B'.take i)
 fr : Fr rb g p.length sv w wr
 kp : ∀ b, S2 b -> wr.heap[b]? = w2.heap[b]?
 sz : w2.heap.size <= wr.heap.size
theorem row15 {w : World} {b o : Nat} {c0 c1 c2 c3 c4 c5 c6 c7 c8 c9 c10 c11 c12 c13 c14 : Value} (h : rowAt w b o [c0, c1, c2, c3, c4, c5, c6, c7, c8, c9, c10, c11, c12, c13, c14]) :
 w.cell? ⟨b, o, none⟩ = some c0 /\ w.cell? ⟨b, o + 1, none⟩ = some c1 /\ w.cell? ⟨b, o + 2, none⟩ = some c2 /\ w.cell? ⟨b, o + 3, none⟩ = some c3 /\ w.cell? ⟨b, o + 4, none⟩ = some c4 /\ w.cell? ⟨b, o + 5, none⟩ = some c5 /\ w.cell? ⟨b, o + 6, none⟩ = some c6 /\ w.cell? ⟨b, o + 7, none⟩ = some c7 /\ w.cell? ⟨b, o + 8, none⟩ = some c8 /\ w.cell? ⟨b, o + 9, none⟩ = some c9 /\ w.cell? ⟨b, o + 10, none⟩ = some c10 /\ w.cell? ⟨b, o + 11, none⟩ = some c11 /\ w.cell? ⟨b, o + 12, none⟩ = some c12 /\ w.cell? ⟨b, o + 13, none⟩ = some c13 /\ w.cell? ⟨b, o + 14, none⟩ = some c14 :=
 ⟨h 0 _ rfl, h 1 _ rfl, h 2 _ rfl, h 3 _ rfl, h 4 _ rfl, h 5 _ rfl, h 6 _ rfl, h 7 _ rfl, h 8 _ rfl, h 9 _ rfl, h 10 _ rfl, h 11 _ rfl, h 12 _ rfl, h 13 _ rfl, h 14 _ rfl⟩
def ownL (o : Bool) (p : List El) : List (List El) := if o then [p] else []
theorem ownL_len (o : Bool) (p : List El) : (ownL o p).length <= 1 := by cases o <;> simp [ownL]
set_option maxHeartbeats 64000000 in
theorem at_any (v : V) : AtC v := by
 induction v using V.ind_v with
 | h k b i s l m ihl ihm =>
 intro S PS SS rb g sv p A cs w st hr hl hst hc hpw hA hvw
 rw [V.lies] at hl
 obtain ⟨al, cl, bl, ol, am, cm, bm, om, rfl, hk, hi, hs, hal, ham, hl1, hm1, _⟩ := hl
 have hlv := chkV_lv hst hc
 have HR := hmk hr
 have HPW := hmk hpw
 have HWT : Hid ((V.mk k b i s l m).wt = 1 + s.size + wtL l + wtM m) := (by show _ = _; rw [V.wt])
 by_cases hk5 : k = 5
 case neg =>
  have HDV : Hid (dpV (decide (p.length = 0)) p (.mk k b i s l m) = none) := by show _ = _; rw [dpV, if_neg hk5]
  have B0 : Below w.heap.size w (w.alloc (.cells #[.int .i64 k, .bool b, .int .i64 i, .string s, .slice al l.length cl, .slice am m.length cm] 25)) := (Below.refl _ _).alloc (Nat.le_refl _) _
  obtain ⟨e0, e1, e2, e3, e4, e5⟩ := row6z (box_row w [.int .i64 k, .bool b, .int .i64 i, .string s, .slice al l.length cl, .slice am m.length cm] 25)
  clear hl1 hm1 hr ihl ihm hc
  generalize dpV (decide (p.length = 0)) p (.mk k b i s l m) = D at *
  go_enter Tryz.func13, Tryz.ntmps13
  go_wp2_with fail
  go_ret
  exact ⟨Fr.of_below B0, .inl ⟨HDV.out, rfl⟩⟩
 subst hk5
 obtain ⟨hrise, hks, hkids⟩ := chkV_kids hst hc
 have HDP0 := hmk (dp_prog (root := decide (p.length = 0)) (p := p) (b := b) (i := i) (s := s) (l := l) hrise)
 have HKS := hmk hks
 have HKD := hmk hkids
 have HPWM := hmk (cut_pw (rise_pw hrise))
 have HM := hmk hm1
 have hmw := wtM_len m
 have hAw : A.length + 1 + wtM m <= 4294967295 /\ wtM m <= 2147483647 := (by have := HWT.out; omega)
 have HWM : Hid (∀ n, n <= 1 + wtM m -> n <= (V.mk 5 b i s l m).wt) := fun n hn => by have := HWT.out; omega
 have HB0 : Hid (Below w.heap.size w (w.alloc (.cells #[.int .i64 5, .bool b, .int .i64 i, .string s, .slice al l.length cl, .slice am m.length cm] 25))) := (Below.refl _ _).alloc (Nat.le_refl _) _
 have hb0 := box_row w [.int .i64 5, .bool b, .int .i64 i, .string s, .slice al l.length cl, .slice am m.length cm] 25
 have hz0 := alloc_size w (.cells #[.int .i64 5, .bool b, .int .i64 i, .string s, .slice al l.length cl, .slice am m.length cm] 25)
 have hS := HR.out.hS
 have HS := hmk hS
 have hrlt := hr.rlt
 have hglt := hr.glt
 have HSL : Hid (∀ r, sv.ownBlock = some r -> r < w.heap.size) := fun r e => hr.slt e
 have c1 := hmk (cuts_any m S am cm bm om _ ham (liesM_keep (fun h => h) (fun x hx => HB0.out.block x (hS x hx).1) (fun _ h => h) _ hm1) (fun b hb => Nat.lt_of_lt_of_le (hS b hb).1 HB0.out.size))
 have hrest := cut_wt m
 have hrestl := wtM_len (cutF m).2.1
 have HKC := hmk (ksM_cut hks)
 clear hl1 hm1 hr hS hc hrise hks hkids ihl hk hi hs hal HWT
 generalize hD : dpV (decide (p.length = 0)) p (.mk 5 b i s l m) = D at *
 clear hD
 obtain ⟨e0, e1, e2, e3, e4, e5⟩ := row6z hb0
 go_enter Tryz.func13, Tryz.ntmps13
 go_wp2_with fail
 generalize (w.alloc (.cells #[.int .i64 5, .bool b, .int .i64 i, .string s, .slice al l.length cl, .slice am m.length cm] 25)) = w0 at *
 refine c1.out.mono ?_
 rintro e w1 ⟨b1, ra, rc, rbk, ro, rfl, hrh, hrl⟩
 have hz1 := b1.size
 have HB1 := hmk (HB0.out.trans (b1.mono (by omega)))
 have c2 := hmk (branches_any (cutF m).2.1 S ra rc rbk ro w1 (HR.out.td.below HB1.out HR.out.td.z HB1.out.size) hrh hrl (fun b hb => by have := (HS.out b hb).1; omega) HKC.out (by omega))
 have hMM : ∀ y, y ∈ (cutF m).2.1 -> y ∈ m := fun y hy => cut_mem hy
 have HMM := hmk hMM
 clear c1 hrl e0 e1 e2 e3 e4 e5 hMM HKC
 generalize (cutF m).1 = inn at *
 generalize (cutF m).2.2 = okk at *
 generalize (cutF m).2.1 = rest at *
 go_wp2_with fail
 refine c2.out.mono ?_
 clear c2
 rintro e w2 ⟨b2, ⟨hnB, rfl⟩ | ⟨B, B', aB, cB, bB, oB, hBR, hPM, hSR, rfl, hhB, hlB⟩⟩
 ·have HN : Hid (D = none) := by show _ = _; rw [HDP0.out, hnB]; rfl
  have HF : Hid (Fr rb g p.length sv w w2) := Fr.of_below (HB1.out.trans (b2.mono (by omega)))
  clear HDP0
  by_cases hp0 : p.length = 0
  ·have y0 : ¬ (0 : Int) < p.length := by omega
   cases okk
   ·go_wp2_with fail
    go_ret
    exact ⟨HF.out, .inl ⟨HN.out, rfl⟩⟩
   ·go_wp2_with fail
    go_ret
    exact ⟨HF.out, .inl ⟨HN.out, rfl⟩⟩
  ·have y0 : (0 : Int) < p.length := by omega
   cases okk
   ·go_wp2_with fail
    go_ret
    exact ⟨HF.out, .inl ⟨HN.out, rfl⟩⟩
   ·go_wp2_with fail
    go_ret
    exact ⟨HF.out, .inl ⟨HN.out, rfl⟩⟩
 have hz2 := b2.size
 have HBR := hmk hBR
 have HPM := hmk hPM
 have HRS := hmk (br_rise HPWM.out hBR hPM hSR)
 have hBl := hmk hPM.length_eq
 have HLB := hmk hlB
 have HB2 := hmk (HB1.out.trans (b2.mono (by omega)))
 have HDP : Hid (D = (if okk = true /\ ¬ (inn = true /\ decide (p.length = 0) = false /\ B.length = 0) then (catF p B).map (· ++ if inn = true \/ (decide (p.length = 0) = false /\ B.length = 0) then [p] else []) else none)) := by show _ = _; rw [HDP0.out, hBR]; rfl
 have hB' : B'.length <= 9223372036854775807 := Nat.le_trans hhB.le hhB.max
 obtain ⟨S2, hS2⟩ : ∃ S2, S2 = Tw S w1 w2 := ⟨_, rfl⟩
 rw [<- hS2] at HLB hlB
 have HS2 : Hid (∀ b, S2 b -> S b \/ (w.heap.size <= b /\ b < w2.heap.size)) := fun b hb => by
  rw [hS2] at hb
  exact hb.imp id (fun h => ⟨by have := h.1; omega, h.2⟩)
 have HR2 := hmk ((HR.out.below HB2.out).more hrlt hglt HSL.out HS2.out)
 have HNO : Hid (∀ y ∈ B', dpV false (p ++ [y.1]) y.2 = none -> D = none) := fun y hy hn => by
  rw [HDP.out, catF_none ⟨_, HPM.out.mem_iff.1 hy, hn⟩]
  simp
 obtain ⟨al0, hal0⟩ : ∃ al0 : Bool, al0 = (decide (0 < p.length) && decide (B'.length = 0)) := ⟨_, rfl⟩
 have HAL := hmk hal0
 clear hBR hPM hSR hlB HDP0 hS2 hal0 HPWM
 go_upto_region 5 with fail
 go_cut [12] (fun e12 wx => e12 = .bool al0 /\ wx = w2)
 case first =>
  by_cases hp0 : p.length = 0
  focus
   have y0 : ¬ (0 : Int) < p.length := by omega
   have ya : al0 = false := by rw [HAL.out]; simp [hp0]
   clear hp0
  rotate_left 1
  focus
   have y0 : (0 : Int) < p.length := by omega
   by_cases hb0' : B'.length = 0
   focus
    have y1 : ((B'.length : Int) == 0) = true := by rw [hb0']; rfl
    have ya : al0 = true := by rw [HAL.out]; simp [hb0']; omega
    clear hb0'
   rotate_left 1
   focus
    have y1 : ((B'.length : Int) == 0) = false := by rw [beq_eq_false_iff_ne]; omega
    have ya : al0 = false := by rw [HAL.out]; simp [hb0']
   rotate_left 1
  rotate_left 2
  all_goals
   subst ya
   go_wp2_with fail
   go_meet
   exact ⟨rfl, rfl⟩
 case rest =>
  obtain ⟨rfl, rfl⟩ := hcut
  rename World => w2
  by_cases hfail : okk = false \/ (inn = true /\ al0 = true)
  ·have HN : Hid (D = none) := by
    show _ = _
    rw [HDP.out, if_neg ?_]
    rintro ⟨h1, h2⟩
    rcases hfail with h | ⟨h, h'⟩
    ·rw [h] at h1; cases h1
    ·apply h2
     rw [HAL.out, Bool.and_eq_true, decide_eq_true_iff, decide_eq_true_iff] at h'
     exact ⟨h, decide_eq_false (by omega), hBl.out ▸ h'.2⟩
   have HF : Hid (Fr rb g p.length sv w w2) := Fr.of_below HB2.out
   clear HDP HNO
   rcases hfail with rfl | ⟨rfl, rfl⟩
   ·go_wp2_with fail
    go_ret
    exact ⟨HF.out, .inl ⟨HN.out, rfl⟩⟩
   ·cases okk
    ·go_wp2_with fail
     go_ret
     exact ⟨HF.out, .inl ⟨HN.out, rfl⟩⟩
    ·go_wp2_with fail
     go_ret
     exact ⟨HF.out, .inl ⟨HN.out, rfl⟩⟩
  obtain rfl : okk = true := by cases okk <;> simp_all
  have hnia : ¬ (inn = true /\ al0 = true) := fun h => hfail (.inr h)
  clear hfail
  have HDS : Hid (∀ Dc, catF p B = some Dc -> D = some (Dc ++ ownL (inn || al0) p)) := fun Dc hDc => by
   have e1 : (inn = true \/ (decide (p.length = 0) = false /\ B.length = 0)) ↔ (inn || al0) = true := by
    rw [Bool.or_eq_true, HAL.out, Bool.and_eq_true, decide_eq_true_iff, decide_eq_true_iff, decide_eq_false_iff_not, <- hBl.out]
    constructor
    ·rintro (h | ⟨h1, h2⟩)
     ·exact .inl h
     ·exact .inr ⟨by omega, h2⟩
    ·rintro (h | ⟨h1, h2⟩)
     ·exact .inl h
     ·exact .inr ⟨by omega, h2⟩
   have e2 : (if inn = true \/ (decide (p.length = 0) = false /\ B.length = 0) then [p] else []) = ownL (inn || al0) p := by
    unfold ownL
    by_cases h : (inn || al0) = true
    ·rw [if_pos (e1.2 h), if_pos h]
    ·rw [if_neg (fun h' => h (e1.1 h')), if_neg h]
   rw [HDP.out, if_pos ⟨rfl, fun h => hnia ⟨h.1, by
    have h1 := h.2.1
    rw [decide_eq_false_iff_not] at h1
    rw [HAL.out, Bool.and_eq_true, decide_eq_true_iff, decide_eq_true_iff]
    exact ⟨by omega, hBl.out.trans h.2.2⟩⟩⟩, hDc, Option.map_some, e2]
  obtain ⟨ow, how⟩ : ∃ ow : Bool, ow = (inn || al0) := ⟨_, rfl⟩
  rw [<- how] at HDS
  have HOW := hmk how
  clear how
  have hAI : ow = false -> AtI S2 PS SS rb g sv p (A ++ ownL ow p) B' w w2 0 w2 := fun e => by
   subst e
   refine ⟨⟨[], sv, SS, ?_, .inl rfl, fun _ h => .inl h, rfl, Nat.zero_le _⟩, Fr.of_below HB2.out, fun _ _ => rfl, Nat.le_refl _⟩
   simpa [ownL] using HR2.out
  have HAI := hmk hAI
  clear hAI HDP
  go_upto_region 6 with fail
  go_cut [49] (fun e49 wx => e49 = .bool false /\ wx = w2)
  case first =>
   cases inn
   ·go_wp2_with fail
    go_meet
    exact ⟨rfl, rfl⟩
   ·have ya : al0 = false := by cases al0 <;> simp_all
    subst ya
    go_wp2_with fail
    go_meet
    exact ⟨rfl, rfl⟩
  case rest =>
   obtain ⟨rfl, rfl⟩ := hcut
   rename World => w2
   go_upto_region 8 with fail
   go_cut [53] (fun e53 wx => e53 = .bool ow /\ wx = w2)
   case first =>
    cases inn
    ·have ya : ow = al0 := by rw [HOW.out]; rfl
     subst ya
     go_wp2_with fail
     go_meet
     exact ⟨rfl, rfl⟩
    ·have ya : ow = true := by rw [HOW.out]; rfl
     subst ya
     go_wp2_with fail
     go_meet
     exact ⟨rfl, rfl⟩
   case rest =>
    obtain ⟨rfl, rfl⟩ := hcut
    rename World => w2
    clear HOW hnia
    go_upto_if 53 with fail
    go_cut [6] (fun e6 wx => e6 = .bool false /\ AtI S2 PS SS rb g sv p (A ++ ownL ow p) B' w w2 0 wx)
    case first =>
     cases ow
     ·have HA0 := hmk (HAI.out rfl)
      clear HAI
      go_wp2_with fail
      go_meet
      exact ⟨rfl, HA0.out⟩
     ·clear HAI
      obtain ⟨hpb, hpwt⟩ := p_bound hlv HPW.out
      obtain ⟨a0, c0, b0, o0, hve, hh0, hlp⟩ := own_listP (T := fun x => PS x \/ x = g) HR2.out.op (fun b hb => .inl hb) (fun r e => .inr (by have : g = r := (by simpa [pvOf, Value.ownBlock] using e); exact this.symm))
      have hve2 : a0 = some ⟨g, 0, none⟩ /\ c0 = 32 := by
       have hve3 : (Value.slice (some ⟨g, 0, none⟩) p.length 32) = .slice a0 p.length c0 := hve
       injection hve3 with q1 q2 q3
       exact ⟨q1.symm, q3.symm⟩
      obtain ⟨rfl, rfl⟩ := hve2
      have hT : ∀ x, (PS x \/ x = g) -> x < w2.heap.size := fun x hx => hx.elim (fun h => (HR2.out.op.off x h).2.1) (fun h => h ▸ HR2.out.glt)
      have C22 : Hid (∀ W, Below w2.heap.size w2 W -> Calls Tryz.prog 22 #[.slice (some ⟨g, 0, none⟩) p.length 32] W (CyPost p W)) := fun W hb => by
       have h := copy_any p _ _ 32 b0 o0 W hh0 (liesP_keep (fun x hx => hb.block x (hT x hx)) (fun _ h => h) hlp) (fun x hx => Nat.lt_of_lt_of_le (hT x hx) hb.size) hpwt
       rw [anP_same hpb] at h
       exact h
      have CR : Hid (∀ W, Below w2.heap.size w2 W -> W.cell? ⟨rb, 0, none⟩ = some sv) := fun W hb => by rw [cell_of_block ((hb.block _ HR2.out.rlt).trans HR2.out.bx)]; rfl
      have HSV2 : Hid (∀ r, sv.ownBlock = some r -> r < w2.heap.size) := fun r e => HR2.out.slt e
      have hpl : p.length <= maxLen := by simp only [maxLen]; omega
      have HEQ : Hid (∀ (w4 : World) {g4 : Nat}, liesP w4 (New w2.drew w4) p g4 0 -> EQ p w4 (New w2.drew w4) [.slice (some ⟨g4, 0, none⟩) p.length p.length]) := fun w4 g4 h => ⟨_, rfl, some ⟨g4, 0, none⟩, p.length, g4, 0, rfl, ⟨Nat.le_refl _, hpl, .inr rfl, fun e => by cases e⟩, h⟩
      have BD : Hid (Below w2.heap.size w2 w2.drew) := (Below.refl _ _).drew
      clear hve hlp hT hpb hpwt
      go_wp2_with fail
      refine wp_region_held_drew (S := fun _ => True) (by kernel_rfl) trivial (fun hHeld => ?_)
      (refine tjA 0 ?_; (try simp only [Act.put, zA, zB, zC]))
      (refine tjA 1 ?_; (try simp only [Act.put, zA, zB, zC]))
      (refine tjA 2 ?_; (try simp only [Act.put, zA, zB, zC]))
      (refine tjA 3 ?_; (try simp only [Act.put, zA, zB, zC]))
      (refine tjA 5 ?_; (try simp only [Act.put, zA, zB, zC]))
      refine ryA [4, 6] ?_
      refine rA2 (fun K hK => ?_) fun K hK => ?_
      focus
       skip
       have c0 := CR.out _ BD.out
       go_simp
       refine hK.out _ _ trivial (fun hHeld => ?_)
       clear hK K c0
       (try simp only [Act.put, zA, zB, zC])
       refine ryA [6] ?_
       refine rA1 fun K hK => ?_
       go_simp
       refine (C22.out _ BD.out).mono ?_
       rintro e w4 ⟨g4, rfl, l4, b4⟩
       have B4 := hmk (BD.out.trans b4)
       clear b4
       go_wp2_with fail
       refine hK.out _ _ trivial (fun hHeld => ?_)
       clear hK K
       (try simp only [Act.put, zA, zB, zC])
       refine ryA [7] ?_
       refine rA1 fun K hK => ?_
       go_simp
       refine hK.out _ _ trivial (fun hHeld => ?_)
       clear hK K
      rotate_left 1
      focus
       skip
       go_simp
       refine (C22.out _ BD.out).mono ?_
       rintro e w4 ⟨g4, rfl, l4, b4⟩
       have B4 := hmk (BD.out.trans b4)
       clear b4
       go_wp2_with fail
       refine hK.out _ _ trivial (fun hHeld => ?_)
       clear hK K
       (try simp only [Act.put, zA, zB, zC])
       refine ryA [4, 7] ?_
       refine rA2 (fun K hK => ?_) fun K hK => ?_
       focus
        skip
        have c0 := CR.out _ B4.out
        go_simp
        refine hK.out _ _ trivial (fun hHeld => ?_)
        clear hK K c0
        (try simp only [Act.put, zA, zB, zC])
        refine ryA [7] ?_
        refine rA1 fun K hK => ?_
        go_simp
        refine hK.out _ _ trivial (fun hHeld => ?_)
        clear hK K
       rotate_left 1
       focus
        skip
        go_simp
        refine hK.out _ _ trivial (fun hHeld => ?_)
        clear hK K
        (try simp only [Act.put, zA, zB, zC])
        refine ryA [4] ?_
        refine rA1 fun K hK => ?_
        have c0 := CR.out _ (B4.out.alloc B4.out.size (.cells #[.slice (some ⟨g4, 0, none⟩) p.length p.length] 46))
        go_simp
        refine hK.out _ _ trivial (fun hHeld => ?_)
        clear hK K c0
       rotate_left 1
      rotate_left 2
      all_goals
       (try simp only [Act.put, zA, zB, zC])
       refine ryA [8] ?_
       refine rA1 fun K hK => ?_
       refine step_setQ rfl (.tmp 58) (.tmp 61) rfl sv rfl (HR2.out.oq.below keepQ B4.out) 1 rfl (HEQ.out w4 l4) (fun b hb => ⟨hb.2, fun e => by have := HSV2.out b e.symm; have := hb.1; have : w2.drew.heap.size = w2.heap.size := rfl; omega⟩) (by omega) ?_
       intro g5 cap5 w6 o6 gr6 e6
       obtain ⟨bx6, f7, bx7, q7⟩ := set_step HR2.out B4.out o6 gr6 e6
       obtain ⟨r7, hv7⟩ := set_at HR2.out B4.out e6 rfl f7 bx7 q7
       have hz7 := f7.size
       have AI : Hid (AtI S2 PS SS rb g sv p (A ++ ownL true p) B' w w2 0 (w6.setCell ⟨rb, 0, none⟩ (.slice (some ⟨g5, 0, none⟩) (A.length + 1) cap5))) :=
        ⟨⟨[], _, (fun b => SS b \/ New w2 w4 b), (by simpa [ownL] using r7), hv7.imp id (fun h k hk => by have := h k hk; omega), fun b hb => hb.imp id (fun h => by have := h.1; have : w2.drew.heap.size = w2.heap.size := rfl; omega), rfl, Nat.zero_le _⟩, (Fr.of_below HB2.out).trans f7 (.inl rfl), fun b hb => f7.block b (HR2.out.hS b hb).1 (HR2.out.hS b hb).2.1 (HR2.out.hS b hb).2.2.1 (HR2.out.hS b hb).2.2.2, hz7⟩
       have c6 : w6.cell? ⟨rb, 0, none⟩ = some sv := by rw [cell_of_block bx6]; rfl
       have f6 : w6.frozen? ⟨rb, 0, none⟩ = false := frozen_of_block bx6 _
       clear f7 bx7 q7 r7 hv7 o6 gr6 bx6 hz7
       refine hK.out _ _ trivial (fun hHeld => ?_)
       clear hK K
       (try simp only [Act.put, zA, zB, zC])
       (refine tjA 9 ?_; (try simp only [Act.put, zA, zB, zC]))
       (refine tjA 10 ?_; (try simp only [Act.put, zA, zB, zC]))
       refine ryA [11] ?_
       refine rA1 fun K hK => ?_
       go_simp
       refine hK.out _ _ trivial (fun hHeld => ?_)
       clear hK K
       (try simp only [Act.put, zA, zB, zC])
       refine wpAnyH_done (by kernel_rfl) ?_ _
       (try dsimp only [Act.put, List.getElem_toArray, List.getElem_cons_succ, List.getElem_cons_zero, List.setIfInBounds_toArray, List.set_cons_zero, List.set_cons_succ])
       clear hHeld c6 f6
       go_wp2_with fail
       go_meet
       exact ⟨rfl, AI.out⟩
    case rest =>
     obtain ⟨rfl, hAI0⟩ := hcut
     have I0 := hmk hAI0
     clear hAI0 HAI
     go_wp2_with fail
     go_loopw [67] (fun e67 wr => ∃ i_ : Nat, i_ <= B'.length /\ e67 = .int .i64 (i_ : Int) /\ AtI S2 PS SS rb g sv p (A ++ ownL ow p) B' w w2 i_ wr) (fun e _ => B'.length - (RowKit.intOf e).toNat)
     case atStart => exact ⟨0, by omega, rfl, I0.out⟩
     case round =>
      clear I0
      obtain ⟨j, hj, rfl, ij⟩ := hrel
      obtain ⟨Lp, sv3, SS3, r3, hv3, hss3, hcat, hlp⟩ := ij.st
      have f3 := ij.fr
      have hz3 := f3.size
      have hzz := ij.sz
      have hol := ownL_len ow p
      have HOL := hmk hol
      have hwB := wtB_perm HPM.out
      have hwB2 := br_wt HBR.out
      by_cases hjl : j < B'.length
      case neg =>
       obtain rfl : j = B'.length := by omega
       have y1 : ¬ (B'.length : Int) < B'.length := by omega
       rw [List.take_length] at hcat hlp
       have HF := hmk f3
       have HR3 := hmk r3
       have HV := hmk hv3
       have HSS := hmk hss3
       obtain ⟨Dc, hDc, hRs⟩ := cat_rs HPM.out HRS.out hcat ow
       have HDD := hmk (HDS.out Dc hDc)
       have HRs := hmk hRs
       have HLN : Hid ((ownL ow p ++ Lp).length <= (V.mk 5 b i s l m).wt) := HWM.out _ (by rw [List.length_append]; omega)
       clear r3 f3 hv3 hss3 hcat hDc hRs ij hwB hwB2 hlp
       go_wp2_with fail
       go_ret
       refine ⟨HF.out, .inr ⟨_, ownL ow p ++ Lp, sv3, SS3, HDD.out, HRs.out, HLN.out, rfl, HR3.out.bx, ?_, HV.out, HSS.out⟩⟩
       have := HR3.out.oq
       rwa [List.append_assoc] at this
      have y1 : (j : Int) < B'.length := by omega
      obtain ⟨hSb, csj, hrow, ec, vc, rfl, hel, hvx⟩ := HLB.out j hjl
      obtain rfl : aB = some ⟨bB, oB, none⟩ := hhB.at_.resolve_left (by omega)
      have hmem : B'[j] ∈ B' := List.getElem_mem hjl
      obtain ⟨key, hkm, hke⟩ := brF_mem HBR.out _ (HPM.out.mem_iff.1 hmem)
      have hkm' := HMM.out _ hkm
      obtain ⟨st', hst', hcx⟩ := HKD.out _ hkm'
      have hkz : key.size <= 1048576 := by
       obtain ⟨jj, hjj, ejj⟩ := List.getElem_of_mem hkm'
       have := (ksM_get HKS.out hjj).1
       rw [ejj] at this
       exact this
      have HEW : Hid (elW (B'[j]).1) := ⟨(elF_says hke).1, elF_wt hke hkz⟩
      have IC := hmk (ihm _ hkm')
      have hlv1 := chkV_lv hst' hcx
      have HCX := hmk hcx
      have HTK := hmk (wtB_take hjl)
      have HTT : Hid (B'.take (j + 1) = B'.take j ++ [B'[j]]) := List.take_succ_eq_append_getElem hjl
      have hwj : (B'[j]).2.wt + wtB (B'.take j) <= wtM m := by
       have h1 := wtB_take hjl
       have h2 := wtB_tk B' (j + 1)
       omega
      have HNO1 : Hid (dpV false (p ++ [(B'[j]).1]) (B'[j]).2 = none -> D = none) := fun hn => HNO.out _ hmem hn
      have HCS : Hid (∀ D1 L1, dpV false (p ++ [(B'[j]).1]) (B'[j]).2 = some D1 -> Rs D1 L1 -> CatL p (B'.take (j + 1)) (Lp ++ L1)) := fun D1 L1 h1 h2 => by
       rw [HTT.out]
       exact CatL.snoc (e := (B'[j]).1) (x := (B'[j]).2) h1 h2 hcat
      clear hmem hkm hke hkz hcat hkm' hcx HTT hwB hwB2
      generalize (B'[j]).1 = el at *
      generalize (B'[j]).2 = x at *
      obtain ⟨zk, zs, zam, znm, zcm, zvk, zvb, zvi, zvs, zval, zvnl, zvcl, zvam, zvnm, zvcm, rfl⟩ := El.nine hel
      obtain ⟨xk, xb, xi, xs, xal, xnl, xcl, xam, xnm, xcm, rfl⟩ := V.ten hvx
      have hrow' : rowAt wr bB (oB + j * 15) [.int .i64 zk, .string zs, .slice zam znm zcm, .int .i64 zvk, .bool zvb, .int .i64 zvi, .string zvs, .slice zval zvnl zvcl, .slice zvam zvnm zvcm, .int .i64 xk, .bool xb, .int .i64 xi, .string xs, .slice xal xnl xcl, .slice xam xnm xcm] := hrow.keep (ij.kp _ hSb)
      have HEL : Hid (∀ W, (∀ b, S2 b -> W.heap[b]? = wr.heap[b]?) -> EP el W S2 [.int .i64 zk, .string zs, .slice zam znm zcm, .int .i64 zvk, .bool zvb, .int .i64 zvi, .string zvs, .slice zval zvnl zvcl, .slice zvam zvnm zvcm]) := fun W hW => El.lies_keep (fun b hb => (hW b hb).trans (ij.kp b hb)) (fun _ h => h) hel
      have HVX : Hid (∀ W, (∀ b, S2 b -> W.heap[b]? = wr.heap[b]?) -> x.lies false W S2 [.int .i64 xk, .bool xb, .int .i64 xi, .string xs, .slice xal xnl xcl, .slice xam xnm xcm]) := fun W hW => V.lies_keep (fun h => h) (fun b hb => (hW b hb).trans (ij.kp b hb)) (fun _ h => h) _ hvx
      have HKP : Hid (∀ b, S2 b -> wr.heap[b]? = w2.heap[b]?) := ij.kp
      obtain ⟨q0, q1, q2, q3, q4, q5, q6, q7, q8, q9, q10, q11, q12, q13, q14⟩ := row15 hrow'
      have HBX : Hid ((wr.alloc (.cells #[.int .i64 zk, .string zs, .slice zam znm zcm, .int .i64 zvk, .bool zvb, .int .i64 zvi, .string zvs, .slice zval zvnl zvcl, .slice zvam zvnm zvcm, .int .i64 xk, .bool xb, .int .i64 xi, .string xs, .slice xal xnl xcl, .slice xam xnm xcm] 64)).heap[wr.heap.size]? = some (.cells #[.int .i64 zk, .string zs, .slice zam znm zcm, .int .i64 zvk, .bool zvb, .int .i64 zvi, .string zvs, .slice zval zvnl zvcl, .slice zvam zvnm zvcm, .int .i64 xk, .bool xb, .int .i64 xi, .string xs, .slice xal xnl xcl, .slice xam xnm xcm] 64 (0, 0))) := heap_alloc_new wr _
      have ba : Below wr.heap.size wr (wr.alloc (.cells #[.int .i64 zk, .string zs, .slice zam znm zcm, .int .i64 zvk, .bool zvb, .int .i64 zvi, .string zvs, .slice zval zvnl zvcl, .slice zvam zvnm zvcm, .int .i64 xk, .bool xb, .int .i64 xi, .string xs, .slice xal xnl xcl, .slice xam xnm xcm] 64)) := (Below.refl _ _).alloc (Nat.le_refl _) _
      have RA := hmk (r3.below ba)
      have HFA := hmk (f3.trans (Fr.of_below (rb := rb) (g := g) (n := p.length) (sv := sv3) ba) hv3)
      have hza := alloc_size wr (.cells #[.int .i64 zk, .string zs, .slice zam znm zcm, .int .i64 zvk, .bool zvb, .int .i64 zvi, .string zvs, .slice zval zvnl zvcl, .slice zvam zvnm zvcm, .int .i64 xk, .bool xb, .int .i64 xi, .string xs, .slice xal xnl xcl, .slice xam xnm xcm] 64)
      have hrlt3 := r3.rlt
      have hglt3 := r3.glt
      have HSL3 : Hid (∀ r, sv3.ownBlock = some r -> r < wr.heap.size) := fun r e => r3.slt e
      have HKA : Hid (∀ b, S2 b -> (wr.alloc (.cells #[.int .i64 zk, .string zs, .slice zam znm zcm, .int .i64 zvk, .bool zvb, .int .i64 zvi, .string zvs, .slice zval zvnl zvcl, .slice zvam zvnm zvcm, .int .i64 xk, .bool xb, .int .i64 xi, .string xs, .slice xal xnl xcl, .slice xam xnm xcm] 64)).heap[b]? = wr.heap[b]?) := fun b hb => ba.block b (r3.hS b hb).1
      have HS3 : Hid (∀ b, S2 b -> b < wr.heap.size) := fun b hb => (r3.hS b hb).1
      have HA3 : Hid ((A ++ ownL ow p ++ Lp).length + x.wt <= 4294967295 /\ x.wt <= 2147483647) := ⟨by rw [List.length_append, List.length_append]; omega, by omega⟩
      have HV3 := hmk hv3
      have HSS3 := hmk hss3
      have HLP : Hid (∀ L1 : List (List El), L1.length <= x.wt -> (Lp ++ L1).length <= wtB (B'.take (j + 1))) := fun L1 h => by rw [List.length_append, HTK.out]; omega
      clear hrow hrow' hel hvx r3 ba ij f3 hv3 hss3 HTK hlp hwj
      go_wp2_with fail
      clear q0 q1 q2 q3 q4 q5 q6 q7 q8 q9 q10 q11 q12 q13 q14
      generalize wr.alloc (.cells #[.int .i64 zk, .string zs, .slice zam znm zcm, .int .i64 zvk, .bool zvb, .int .i64 zvi, .string zvs, .slice zval zvnl zvcl, .slice zvam zvnm zvcm, .int .i64 xk, .bool xb, .int .i64 xi, .string xs, .slice xal xnl xcl, .slice xam xnm xcm] 64) = wa at *
      have BD : Hid (Below wa.heap.size wa wa.drew) := (Below.refl _ _).drew
      obtain ⟨⟨xs0, o1, o2⟩, o3⟩ := RA.out.op
      have O1 := hmk o1
      have O2 := hmk o2
      clear o1 o2 o3
      refine wp_region_held_drew (S := fun W => W.heap[wr.heap.size]? = some (.cells #[.int .i64 zk, .string zs, .slice zam znm zcm, .int .i64 zvk, .bool zvb, .int .i64 zvi, .string zvs, .slice zval zvnl zvcl, .slice zvam zvnm zvcm, .int .i64 xk, .bool xb, .int .i64 xi, .string xs, .slice xal xnl xcl, .slice xam xnm xcm] 64 (0, 0))) (by kernel_rfl) HBX.out (fun hHeld => ?_)
      (refine tjA 0 ?_; (try simp only [Act.put, zA, zB, zC]))
      (refine tjA 1 ?_; (try simp only [Act.put, zA, zB, zC]))
      (refine tjA 2 ?_; (try simp only [Act.put, zA, zB, zC]))
      (refine tkA 3 ?_ ?_ ?_; rotate_left 1; (intro W0 hSw; obtain ⟨z0, z1, z2, z3, z4, z5, z6, z7, z8, z9, z10, z11, z12, z13, z14⟩ := cN15 hSw; go_simp; (try with_reducible rfl)); (try simp only [Act.put, zA, zB, zC]))
      (refine tjA 6 ?_; (try simp only [Act.put, zA, zB, zC]))
      (refine tkA 7 ?_ ?_ ?_; rotate_left 1; (intro W0 hSw; obtain ⟨z0, z1, z2, z3, z4, z5, z6, z7, z8, z9, z10, z11, z12, z13, z14⟩ := cN15 hSw; go_simp; (try with_reducible rfl)); (try simp only [Act.put, zA, zB, zC]))
      refine ryA [4] ?_
      refine rA1 fun K hK => ?_
      go_simp
      have b5 : Below wa.heap.size wa (wa.alloc (.cells #[.int .i64 zk, .string zs, .slice zam znm zcm, .int .i64 zvk, .bool zvb, .int .i64 zvi, .string zvs, .slice zval zvnl zvcl, .slice zvam zvnm zvcm] 52)).drew := ((Below.refl _ _).alloc (Nat.le_refl _) _).drew
      refine hK.out _ _ ((b5.block _ (by omega)).trans HBX.out) (fun hHeld => ?_)
      clear hK K
      (try simp only [Act.put, zA, zB, zC])
      have HR5 := hmk (RA.out.below b5)
      have hz5 : (wa.alloc (.cells #[.int .i64 zk, .string zs, .slice zam znm zcm, .int .i64 zvk, .bool zvb, .int .i64 zvi, .string zvs, .slice zval zvnl zvcl, .slice zvam zvnm zvcm] 52)).drew.heap.size = wa.heap.size + 1 := alloc_size _ _
      have H5N : Hid ((wa.alloc (.cells #[.int .i64 zk, .string zs, .slice zam znm zcm, .int .i64 zvk, .bool zvb, .int .i64 zvi, .string zvs, .slice zval zvnl zvcl, .slice zvam zvnm zvcm] 52)).drew.heap[wr.heap.size + 1]? = some (.cells #[.int .i64 zk, .string zs, .slice zam znm zcm, .int .i64 zvk, .bool zvb, .int .i64 zvi, .string zvs, .slice zval zvnl zvcl, .slice zvam zvnm zvcm] 52 (0, 0))) := by rw [<- hza]; exact heap_alloc_new wa _
      have HO5 : Hid ((wa.alloc (.cells #[.int .i64 zk, .string zs, .slice zam znm zcm, .int .i64 zvk, .bool zvb, .int .i64 zvi, .string zvs, .slice zval zvnl zvcl, .slice zvam zvnm zvcm] 52)).drew.ownsRow 0 52 9 (pvOf g p.length) p.length xs0) := own_below O1.out b5
      have HE5 : Hid (∀ (j : Nat) (hj : j < p.length), EP p[j] (wa.alloc (.cells #[.int .i64 zk, .string zs, .slice zam znm zcm, .int .i64 zvk, .bool zvb, .int .i64 zvi, .string zvs, .slice zval zvnl zvcl, .slice zvam zvnm zvcm] 52)).drew PS ((xs0.drop (j * 9)).take 9)) := fun j hj => keepP _ _ _ _ _ _ (fun b hb => b5.block b (RA.out.op.off b hb).2.1) (fun _ h => h) (O2.out j hj)
      have HK5 : Hid (∀ b, S2 b -> (wa.alloc (.cells #[.int .i64 zk, .string zs, .slice zam znm zcm, .int .i64 zvk, .bool zvb, .int .i64 zvi, .string zvs, .slice zval zvnl zvcl, .slice zvam zvnm zvcm] 52)).drew.heap[b]? = wr.heap[b]?) := fun b hb => (b5.block b (by have := HS3.out b hb; omega)).trans (HKA.out b hb)
      have HL5 := hmk (HEL.out _ HK5.out)
      have HB5 := hmk ((b5.block _ (by omega)).trans HBX.out)
      have HFB5 : Hid (Fr rb g p.length sv3 wa (wa.alloc (.cells #[.int .i64 zk, .string zs, .slice zam znm zcm, .int .i64 zvk, .bool zvb, .int .i64 zvi, .string zvs, .slice zval zvnl zvcl, .slice zvam zvnm zvcm] 52)).drew) := Fr.of_below b5
      clear b5
      generalize (wa.alloc (.cells #[.int .i64 zk, .string zs, .slice zam znm zcm, .int .i64 zvk, .bool zvb, .int .i64 zvi, .string zvs, .slice zval zvnl zvcl, .slice zvam zvnm zvcm] 52)).drew = w5 at *
      refine ryA [5] ?_
      refine rA1 fun K hK => ?_
      obtain ⟨i0, hi0, hz0, hz1, hz2⟩ := info_parts info35
      refine step_fits rfl (.tmp 72) (.tmp 75) 46 52 i0 9 rfl Tryz.underlying46 hi0 hz1 g p.length 32 xs0 rfl HO5.out (wr.heap.size + 1) 1 [.int .i64 zk, .string zs, .slice zam znm zcm, .int .i64 zvk, .bool zvb, .int .i64 zvi, .string zvs, .slice zval zvnl zvcl, .slice zvam zvnm zvcm] rfl (0, 0) H5N.out rfl nineOne (by omega) ?_
      intro w6 n6 gr6
      clear hi0 hz0 hz1 hz2
      have hz6 := gr6.size
      have r6 := HR5.out.push HO5.out HE5.out n6 gr6 HL5.out rfl (fun _ h => h)
      have HK6 : Hid (∀ b, S2 b -> w6.heap[b]? = wr.heap[b]?) := fun b hb => (gr6.block b (by have := HS3.out b hb; omega) (fun e => (RA.out.hS b hb).2.2.1 (Option.some.inj e))).trans (HK5.out b hb)
      have HB6 : Hid (w6.heap[wr.heap.size]? = some (.cells #[.int .i64 zk, .string zs, .slice zam znm zcm, .int .i64 zvk, .bool zvb, .int .i64 zvi, .string zvs, .slice zval zvnl zvcl, .slice zvam zvnm zvcm, .int .i64 xk, .bool xb, .int .i64 xi, .string xs, .slice xal xnl xcl, .slice xam xnm xcm] 64 (0, 0))) := (gr6.block _ (by omega) (fun e => absurd (Option.some.inj e) (by omega))).trans HB5.out
      refine hK.out _ _ HB6.out (fun hHeld => ?_)
      clear hK K
      (try simp only [Act.put, zA, zB, zC])
      have HC : Hid (Calls Tryz.prog 13 #[.pointer (some ⟨rb, 0, none⟩), .slice (some ⟨g, 0, none⟩) (p.length + 1) 32, .agg #[.int .i64 xk, .bool xb, .int .i64 xi, .string xs, .slice xal xnl xcl, .slice xam xnm xcm]] w6 (RtPost x (dpV false (p ++ [el]) x) SS3 rb g sv3 (p ++ [el]) (A ++ ownL ow p ++ Lp) w6)) := by
       have h := IC.out S2 _ SS3 rb g sv3 (p ++ [el]) _ _ w6 st' r6 (HVX.out w6 HK6.out) hst' (by rw [List.length_append]; exact HCX.out) (elW_snoc HPW.out HEW.out) HA3.out.1 HA3.out.2
       rw [List.length_append, List.length_singleton, decide_eq_false (by omega)] at h
       exact h
      have HFW := hmk (HFB5.out.trans (Fr.push (rb := rb) (sv := sv3) HO5.out n6 gr6) (.inl rfl))
      have HN6 := hmk n6
      have HX0 : Hid (xs0.length = p.length * 9) := O1.out.1
      clear r6 n6 gr6 IC
      refine ryA [8] ?_
      refine rA1 fun K hK => ?_
      go_simp
      refine HC.out.mono ?_
      rintro e w7 ⟨f7, hcase⟩
      clear HC
      have hz7 := f7.size
      rw [List.length_append, List.length_singleton] at f7
      have HF7 := hmk (Fr.down HFW.out HN6.out HX0.out f7 (.inl rfl))
      have HB7 : Hid (w7.heap[wr.heap.size]? = some (.cells #[.int .i64 zk, .string zs, .slice zam znm zcm, .int .i64 zvk, .bool zvb, .int .i64 zvi, .string zvs, .slice zval zvnl zvcl, .slice zvam zvnm zvcm, .int .i64 xk, .bool xb, .int .i64 xi, .string xs, .slice xal xnl xcl, .slice xam xnm xcm] 64 (0, 0))) := (f7.block _ (by omega) (by omega) (by omega) (fun e => by have := HSL3.out _ e.symm; omega)).trans HB6.out
      have HK7 : Hid (∀ b, S2 b -> w7.heap[b]? = wr.heap[b]?) := fun b hb => (f7.block b (by have := HS3.out b hb; omega) (RA.out.hS b hb).2.1 (RA.out.hS b hb).2.2.1 (RA.out.hS b hb).2.2.2).trans (HK6.out b hb)
      have HFE := hmk (HFA.out.trans HF7.out HV3.out)
      clear f7
      rcases hcase with ⟨hn, rfl⟩ | ⟨D1, L1, sv7, SS7, hD1, hR1, hL1, rfl, hb7, hq7, hv7, hss7⟩
      ·have HDN := hmk (HNO1.out hn)
       clear hn
       go_wp2_with fail
       refine hK.out _ _ HB7.out (fun hHeld => ?_)
       clear hK K
       (try simp only [Act.put, zA, zB, zC])
       (refine tjA 9 ?_; (try simp only [Act.put, zA, zB, zC]))
       refine wpAnyH_done (by kernel_rfl) ?_ _
       (try dsimp only [Act.put, List.getElem_toArray, List.getElem_cons_succ, List.getElem_cons_zero, List.setIfInBounds_toArray, List.set_cons_zero, List.set_cons_succ])
       clear hHeld
       go_wp2_with fail
       go_ret
       exact ⟨HFE.out, .inl ⟨HDN.out, rfl⟩⟩
      ·have hv7' : sv7.ownBlock = sv3.ownBlock \/ ∀ r, sv7.ownBlock = some r -> wa.heap.size <= r := hv7.imp id (fun h r e => by have := h r e; omega)
       have R7 := hmk (RA.out.after HF7.out hb7 hq7 hv7' (fun b h => (hss7 b h).imp id (fun h => by omega)))
       have AI : Hid (AtI S2 PS SS rb g sv p (A ++ ownL ow p) B' w w2 (j + 1) w7) := by
        refine ⟨⟨Lp ++ L1, sv7, SS7, ?_, ?_, fun b h => ?_, HCS.out D1 L1 hD1 hR1, HLP.out L1 hL1⟩, HFE.out, fun b h => (HK7.out b h).trans (HKP.out b h), by omega⟩
        ·have := R7.out
         rwa [List.append_assoc] at this
        ·rcases hv7' with e | e
         ·rcases HV3.out with e' | e'
          ·exact .inl (e.trans e')
          ·exact .inr (fun r hr => e' r (e ▸ hr))
         ·exact .inr (fun r hr => by have := e r hr; omega)
        ·rcases hss7 b h with h | h
         ·exact HSS3.out b h
         ·exact .inr (by omega)
       clear hD1 hR1 hL1 hb7 hq7 hv7 hss7 hv7'
       go_wp2_with fail
       refine hK.out _ _ HB7.out (fun hHeld => ?_)
       clear hK K
       (try simp only [Act.put, zA, zB, zC])
       (refine tjA 9 ?_; (try simp only [Act.put, zA, zB, zC]))
       refine wpAnyH_done (by kernel_rfl) ?_ _
       (try dsimp only [Act.put, List.getElem_toArray, List.getElem_cons_succ, List.getElem_cons_zero, List.setIfInBounds_toArray, List.set_cons_zero, List.set_cons_succ])
       clear hHeld
       go_wp2_with fail
       go_roundw
       case rel => exact ⟨j + 1, by omega, by go_num, AI.out⟩
       case measure => simp [RowKit.intOf]; omega
end Go.Proofs.YtdgfjdhobdfglaaGreatDoor
