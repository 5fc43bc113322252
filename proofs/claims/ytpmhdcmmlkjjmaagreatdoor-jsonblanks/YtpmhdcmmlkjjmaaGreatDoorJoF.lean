import Derived.Test.YtpmhdcmmlkjjmaaGreatDoorJoE
import Derived.Test.YtpmhdcmmlkjjmaaGreatDoorG49
import Derived.Deep.DeepCutAuto
/- sign, spread: the program against the plain functions. -/
set_option linter.unusedSimpArgs false
set_option linter.unusedVariables false
set_option maxRecDepth 100000
namespace Go.Proofs.YtpmhdcmmlkjjmaaGreatDoor
open Go.RowKit Go.Lib
set_option maxHeartbeats 4000000 in
theorem sign_any (c : UInt8) (w : World) : Calls Tryz.prog 30 #[.int .u8 (c.toNat : Int)] w (BPost (sgn c) w) := by
  have key : ∀ d : UInt8, c ≠ d → ((c.toNat : Int) == (d.toNat : Int)) = false := fun d h => by
    rw [beq_eq_false_iff_ne]
    intro q
    exact h (UInt8.toNat_inj.1 (by omega))
  by_cases h91 : c = 91
  · subst h91
    go_enter Tryz.func30, Tryz.ntmps30
    go_wp2_with fail
    go_ret
    exact ⟨rfl, Below.refl _ _⟩
  · skip
    by_cases h93 : c = 93
    · subst h93
      go_enter Tryz.func30, Tryz.ntmps30
      go_wp2_with fail
      go_ret
      exact ⟨rfl, Below.refl _ _⟩
    · skip
      by_cases h123 : c = 123
      · subst h123
        go_enter Tryz.func30, Tryz.ntmps30
        go_wp2_with fail
        go_ret
        exact ⟨rfl, Below.refl _ _⟩
      · skip
        by_cases h125 : c = 125
        · subst h125
          go_enter Tryz.func30, Tryz.ntmps30
          go_wp2_with fail
          go_ret
          exact ⟨rfl, Below.refl _ _⟩
        · skip
          by_cases h44 : c = 44
          · subst h44
            go_enter Tryz.func30, Tryz.ntmps30
            go_wp2_with fail
            go_ret
            exact ⟨rfl, Below.refl _ _⟩
          · skip
            by_cases h58 : c = 58
            · subst h58
              go_enter Tryz.func30, Tryz.ntmps30
              go_wp2_with fail
              go_ret
              exact ⟨rfl, Below.refl _ _⟩
            · skip
              have hs : sgn c = false := by simp [sgn, h91, h93, h123, h125, h44, h58]
              rw [hs]
              have y91 : ((c.toNat : Int) == 91) = false := key 91 h91
              have y93 : ((c.toNat : Int) == 93) = false := key 93 h93
              have y123 : ((c.toNat : Int) == 123) = false := key 123 h123
              have y125 : ((c.toNat : Int) == 125) = false := key 125 h125
              have y44 : ((c.toNat : Int) == 44) = false := key 44 h44
              have y58 : ((c.toNat : Int) == 58) = false := key 58 h58
              clear key h91 h93 h123 h125 h44 h58 hs
              generalize (c.toNat : Int) = z at *
              go_enter Tryz.func30, Tryz.ntmps30
              go_wp2_with fail
              go_ret
              exact ⟨rfl, Below.refl _ _⟩
/-- integers that were handed in -/
def Ints (w : World) (v : Value) (l : List Int) : Prop := ∃ ao cap b o, v = .slice ao l.length cap ∧ Headed ao l.length cap b o ∧ ∀ (j : Nat) (h : j < l.length), b < w.heap.size ∧ w.cell? ⟨b, o + j, none⟩ = some (.int .i64 l[j]) ∧ In64 l[j]
theorem Ints.keep {w w' : World} {v : Value} {l : List Int} (h : Ints w v l) (hb : Below w.heap.size w w') : Ints w' v l := by
  obtain ⟨ao, cap, b, o, rfl, hd, hc⟩ := h
  exact ⟨ao, cap, b, o, rfl, hd, fun j hj => ⟨Nat.lt_of_lt_of_le (hc j hj).1 hb.size, (hb.cell (p := ⟨b, o + j, none⟩) (hc j hj).1).trans (hc j hj).2.1, (hc j hj).2.2⟩⟩
def bkJ (n : Nat) : UInt8 := if n % 4 = 0 then 32 else if n % 4 = 1 then 9 else if n % 4 = 2 then 10 else 13
def bksJ (i j : Nat) : List UInt8 := (List.range j).map fun q => bkJ (i + q)
def gpJ (gaps : List Int) (i k : Nat) : List UInt8 := if gaps.length = 0 then [] else bksJ i (min 3 (gaps.getD (k % gaps.length) 0).toNat)
theorem bk_bl (n : Nat) : isBl (bkJ n) = true := by
  unfold bkJ
  repeat' split
  all_goals decide
theorem gp_bl (gaps : List Int) (i k : Nat) : bl (gpJ gaps i k) := by
  unfold gpJ
  split
  · exact bl_nil
  · intro c hc
    obtain ⟨q, _, rfl⟩ := List.mem_map.1 hc
    exact bk_bl _
theorem bks_succ (i j : Nat) : bksJ i (j + 1) = bksJ i j ++ [bkJ (i + j)] := by simp [bksJ, List.range_succ]
theorem bks_len (i j : Nat) : (bksJ i j).length = j := by simp [bksJ]
theorem own_mono {B B' : Nat} {v : Value} {l : List UInt8} {w : World} (h : OwnB B v l w) (hb : B' ≤ B) : OwnB B' v l w := by
  refine ⟨h.1, ?_⟩
  rcases h.2 with q | ⟨g, cap, cur, h1, h2, h3⟩
  · exact .inl q
  · exact .inr ⟨g, cap, cur, h1, Nat.le_trans hb h2, h3⟩
set_option maxHeartbeats 16000000 in
theorem spread_any (b : List UInt8) (bv : Value) (gaps : List Int) (gv : Value) (w : World) (hb : Byt w bv b) (hg : Ints w gv gaps) (hl : b.length ≤ 1048576) (hgl : gaps.length ≤ 140737488355328) :
    Calls Tryz.prog 18 #[bv, gv] w fun e w' => ∃ v', e = .returned v' ∧ OwnB w.heap.size v' (spR (gpJ gaps) (decide (0 < gaps.length)) b 0 0 0 false []) w' ∧ (spR (gpJ gaps) (decide (0 < gaps.length)) b 0 0 0 false []).length ≤ 4 * b.length + 3 ∧ Below w.heap.size w w' := by
  obtain ⟨FIN, hFIN⟩ : ∃ F, spR (gpJ gaps) (decide (0 < gaps.length)) b 0 0 0 false [] = F := ⟨_, rfl⟩
  rw [hFIN]
  have HF := hmk hFIN
  obtain ⟨g0, hg0⟩ : ∃ g0, decide (0 < gaps.length) = g0 := ⟨_, rfl⟩
  rw [hg0] at HF
  have HG0 := hmk hg0
  clear hFIN hg0
  have B0 : Below w.heap.size w (w.alloc (.cells #[.int .u8 32, .int .u8 9, .int .u8 10, .int .u8 13] 5)) := (Below.refl _ _).alloc (Nat.le_refl _) _
  have z0 := alloc_size w (.cells #[.int .u8 32, .int .u8 9, .int .u8 10, .int .u8 13] 5)
  have HK : Hid (∀ W, Below (w.heap.size + 1) (w.alloc (.cells #[.int .u8 32, .int .u8 9, .int .u8 10, .int .u8 13] 5)) W → Byt W bv b ∧ Ints W gv gaps ∧ W.heap[w.heap.size]? = some (.cells #[.int .u8 32, .int .u8 9, .int .u8 10, .int .u8 13] 5) ∧ Below w.heap.size w W) := fun W h => by
    have hW := B0.trans (h.mono (by omega))
    exact ⟨hb.keep hW, hg.keep hW, (h.block _ (by omega)).trans (heap_alloc_new w _), hW⟩
  have hb2 := hb
  have hg2 := hg
  obtain ⟨ba, bc, bb, bo, rfl, hbd, _⟩ := hb2
  obtain ⟨ga, gc, gb, go_, rfl, hgd, _⟩ := hg2
  clear hb hg
  obtain ⟨w1, hw1⟩ : ∃ w1, w1 = w.alloc (.cells #[.int .u8 32, .int .u8 9, .int .u8 10, .int .u8 13] 5) := ⟨_, rfl⟩
  rw [← hw1] at B0 z0 HK
  go_enter Tryz.func18, Tryz.ntmps18
  go_wp2_with fail
  (try rw [← hw1])
  clear hw1
  go_loopw [6, 7, 8, 9] (fun e6 e7 e8 e9 wk => ∃ (i k : Nat) (p : UInt8) (ins : Bool) (out : List UInt8) (x : Value), i ≤ b.length ∧ x = e6 ∧ e7 = .bool ins ∧ e8 = .int .i64 (k : Int) ∧ e9 = .int .i64 (i : Int) ∧ OwnB (w.heap.size + 1) x out wk ∧ Hid (Below (w.heap.size + 1) w1 wk) ∧ Hid (∀ h : 0 < i, ∃ h' : i - 1 < b.length, b[i - 1] = p) ∧ k ≤ i ∧ out.length ≤ 4 * i ∧ Hid (spR (gpJ gaps) g0 (b.drop i) i k p ins out = FIN)) (fun _ _ _ e _ => b.length + 1 - (RowKit.intOf e).toNat)
  case atStart => exact ⟨0, 0, 0, false, [], _, by omega, rfl, rfl, rfl, rfl, OwnB.nil _ _, Below.refl _ _, fun h => by omega, by omega, by simp, by show _ = _; rw [List.drop_zero]; exact HF.out⟩
  case round =>
    obtain ⟨i, k, p, ins, out, x, hi, rfl, rfl, rfl, rfl, ox, Bj, HP, hki, hol, HR⟩ := hrel
    have hzr := Bj.out.size
    have y1 : (i : Int) ≤ b.length := by omega
    have OX := hmk ox
    clear ox
    go_upto_region 8 with fail
    go_cut [10] (fun e10 wx => e10 = .bool (decide (i = 0) || decide (i = b.length)) ∧ wx = wr)
    case first =>
      by_cases h0 : i = 0
      · have y2 : ((i : Int) == 0) = true := by rw [beq_iff_eq]; omega
        have ye : (decide (i = 0) || decide (i = b.length)) = true := by simp [h0]
        have HYE := hmk ye
        clear h0 ye
        go_wp2_with fail
        go_meet
        exact ⟨congrArg Value.bool HYE.out.symm, rfl⟩
      · by_cases h1 : i = b.length
        · have y2 : ((i : Int) == 0) = false := by rw [beq_eq_false_iff_ne]; omega
          have y3 : ((i : Int) == (b.length : Int)) = true := by rw [beq_iff_eq]; omega
          have ye : (decide (i = 0) || decide (i = b.length)) = true := by simp [h1]
          have HYE := hmk ye
          clear h0 h1 ye
          go_wp2_with fail
          go_meet
          exact ⟨congrArg Value.bool HYE.out.symm, rfl⟩
        · have y2 : ((i : Int) == 0) = false := by rw [beq_eq_false_iff_ne]; omega
          have y3 : ((i : Int) == (b.length : Int)) = false := by rw [beq_eq_false_iff_ne]; omega
          have ye : (decide (i = 0) || decide (i = b.length)) = false := by simp [h0, h1]
          have HYE := hmk ye
          clear h0 h1 ye
          go_wp2_with fail
          go_meet
          exact ⟨congrArg Value.bool HYE.out.symm, rfl⟩
    case rest =>
    obtain ⟨rfl, rfl⟩ := hcut
    rename World => wr
    obtain ⟨s0, hs0⟩ : ∃ s0, (decide (i = 0) || decide (i = b.length)) = s0 := ⟨_, rfl⟩
    rw [hs0]
    have HS0 := hmk hs0
    clear hs0
    go_upto_region 9 with fail
    go_cut [33] (fun e33 wx => e33 = .bool (!s0 && !ins) ∧ wx = wr)
    case first =>
      cases s0
      · cases ins
        · go_wp2_with fail
          go_meet
          exact ⟨rfl, rfl⟩
        · go_wp2_with fail
          go_meet
          exact ⟨rfl, rfl⟩
      · go_wp2_with fail
        go_meet
        exact ⟨rfl, rfl⟩
    case rest =>
    obtain ⟨rfl, rfl⟩ := hcut
    rename World => wr
    obtain ⟨q, hq⟩ : ∃ q, (!s0 && !ins) = q := ⟨_, rfl⟩
    rw [hq]
    have HQ := hmk hq
    clear hq
    obtain ⟨c, HC⟩ : ∃ c : UInt8, Hid (∀ h : i < b.length, b[i] = c) := by
      by_cases h : i < b.length
      · exact ⟨b[i], fun _ => rfl⟩
      · exact ⟨0, fun h' => absurd h' h⟩
    have HQI : Hid (q = true → 0 < i ∧ i < b.length) := fun h => by
      have h1 := HQ.out
      rw [h] at h1
      have h2 : s0 = false := by cases s0 <;> simp_all
      have h3 := HS0.out
      rw [h2] at h3
      simp at h3
      omega
    obtain ⟨sm, HSM⟩ : ∃ sm : Bool, Hid (sm = if q = true then (sgn c || sgn p) else s0) := ⟨_, rfl⟩
    go_upto_if 33 with fail
    go_cut [10] (fun e10 wx => e10 = .bool sm ∧ Below wr.heap.size wr wx)
    case first =>
      cases q
      · have ye : sm = s0 := by rw [HSM.out]; rfl
        have HYE := hmk ye
        clear ye HSM
        go_wp2_with fail
        go_meet
        exact ⟨congrArg Value.bool HYE.out.symm, Below.refl _ _⟩
      · obtain ⟨hi0, hib⟩ := HQI.out rfl
        obtain rfl : ba = some ⟨bb, bo, none⟩ := hbd.at_.resolve_left (by omega)
        obtain ⟨⟨ba', bc', bb', bo', e', hbd', hcc⟩, _, _, _⟩ := HK.out wr Bj.out
        injection e' with e1 e2 e3
        have e4 : some (⟨bb, bo, none⟩ : Addr) = some ⟨bb', bo', none⟩ := e1.trans (hbd'.at_.resolve_left (by omega))
        injection e4 with e4
        injection e4 with e5 e6 _
        subst e5 e6
        have c1 : wr.cell? ⟨bb, bo + i, none⟩ = some (.int .u8 (c.toNat : Int)) := by have := (hcc i hib).2; rw [HC.out hib] at this; exact this
        have c0 : wr.cell? ⟨bb, bo + (i - 1), none⟩ = some (.int .u8 (p.toNat : Int)) := by
          obtain ⟨h', e⟩ := HP.out hi0
          have := (hcc (i - 1) h').2
          rw [e] at this
          exact this
        have hbl : bb < wr.heap.size := (hcc i hib).1
        have S1 := hmk (sign_any c wr)
        have yib : (i : Int) < b.length := by omega
        have ei : (i : Int) - 1 = ((i - 1 : Nat) : Int) := by omega
        have yib2 : ((i - 1 : Nat) : Int) < b.length := by omega
        have HYE : Hid (sm = (sgn c || sgn p)) := by show _ = _; rw [HSM.out]; rfl
        clear HSM e1 e2 e3 hcc hbd'
        cases hsc : sgn c
        · rw [hsc] at S1 HYE
          clear hsc
          go_wp2_with fail
          refine S1.out.mono ?_
          rintro e w2 ⟨rfl, b2⟩
          have c0' : w2.cell? ⟨bb, bo + (i - 1), none⟩ = some (.int .u8 (p.toNat : Int)) := (b2.cell (p := ⟨bb, bo + (i - 1), none⟩) hbl).trans c0
          have S2 := hmk (sign_any p w2)
          have z2 := b2.size
          clear c1 c0 S1
          go_wp2_with fail
          refine S2.out.mono ?_
          rintro e w3 ⟨rfl, b3⟩
          have b4 := b2.trans (b3.mono (by omega))
          clear c0' S2
          go_wp2_with fail
          go_meet
          exact ⟨congrArg Value.bool HYE.out.symm, b4⟩
        · rw [hsc] at S1 HYE
          clear hsc c0
          go_wp2_with fail
          refine S1.out.mono ?_
          rintro e w2 ⟨rfl, b2⟩
          clear c1 S1
          go_wp2_with fail
          go_meet
          exact ⟨congrArg Value.bool HYE.out.symm, b2⟩
    case rest =>
    rename World => w4
    obtain ⟨rfl, b4⟩ := hcut
    have z4 := b4.size
    have D4 := hmk (Bj.out.trans (b4.mono (by omega)))
    have O4 := hmk (OX.out.below b4)
    clear OX b4 Bj
    go_upto_region 11 with fail
    go_cut [52] (fun e52 wx => e52 = .bool (sm && g0) ∧ wx = w4)
    case first =>
      cases sm
      · go_wp2_with fail
        go_meet
        exact ⟨rfl, rfl⟩
      · by_cases hg : 0 < gaps.length
        · have yg : (0 : Int) < gaps.length := by omega
          have HYE : Hid ((true && g0) = true) := by show _ = _; rw [← HG0.out]; simp [hg]
          go_wp2_with fail
          go_meet
          exact ⟨congrArg Value.bool HYE.out.symm, rfl⟩
        · have yg : ¬ (0 : Int) < gaps.length := by omega
          have HYE : Hid ((true && g0) = false) := by show _ = _; rw [← HG0.out, decide_eq_false hg]; rfl
          go_wp2_with fail
          go_meet
          exact ⟨congrArg Value.bool HYE.out.symm, rfl⟩
    case rest =>
    obtain ⟨rfl, rfl⟩ := hcut
    rename World => w4
    obtain ⟨sg, hsg⟩ : ∃ sg, (sm && g0) = sg := ⟨_, rfl⟩
    rw [hsg]
    have HSG := hmk hsg
    clear hsg
    have HGP : Hid (gapJ (gpJ gaps) i k sm = if sg = true then bksJ i (min 3 (gaps.getD (k % gaps.length) 0).toNat) else []) := by
      show _ = _
      rw [← HSG.out, ← HG0.out, gapJ, gpJ]
      cases sm
      · simp
      · by_cases h : gaps.length = 0
        · simp [h]
        · simp [h, show 0 < gaps.length by omega]
    have HNK : Hid (nxK g0 k sm = if sg = true then k + 1 else k) := by show _ = _; rw [nxK, HSG.out]
    obtain ⟨G, HGG⟩ : ∃ G, Hid (gapJ (gpJ gaps) i k sm = G) := ⟨_, rfl⟩
    obtain ⟨k', HKK⟩ : ∃ k', Hid (nxK g0 k sm = k') := ⟨_, rfl⟩
    have hGl : G.length ≤ 3 := by
      rw [← HGG.out, HGP.out]
      split
      · rw [bks_len]; omega
      · simp
    have hk' : k' ≤ k + 1 := by rw [← HKK.out, HNK.out]; split <;> omega
    go_upto_if 52 with fail
    go_cut [6, 8] (fun e6 e8 wx => ∃ y : Value, y = e6 ∧ e8 = .int .i64 (k' : Int) ∧ OwnB (w.heap.size + 1) y (out ++ G) wx ∧ Below (w.heap.size + 1) w4 wx)
    case first =>
      cases sg
      · have HYE : Hid (G = []) := by show _ = _; rw [← HGG.out, HGP.out]; rfl
        have HYK : Hid (k' = k) := by show _ = _; rw [← HKK.out, HNK.out]; rfl
        clear HGP HNK HGG HKK
        go_wp2_with fail
        go_meet
        exact ⟨_, rfl, by rw [HYK.out], by rw [HYE.out, List.append_nil]; exact O4.out, Below.refl _ _⟩
      · have hg : 0 < gaps.length := by
          have h1 := HSG.out
          rw [← HG0.out] at h1
          simp at h1
          omega
        obtain rfl : ga = some ⟨gb, go_, none⟩ := hgd.at_.resolve_left (by omega)
        obtain ⟨_, ⟨ga', gc', gb', go', e', hgd', hcc⟩, _, _⟩ := HK.out w4 D4.out
        injection e' with e1 e2 e3
        have e4 : some (⟨gb, go_, none⟩ : Addr) = some ⟨gb', go', none⟩ := e1.trans (hgd'.at_.resolve_left (by omega))
        injection e4 with e4
        injection e4 with e5 e6 _
        subst e5 e6
        obtain ⟨m, hm⟩ : ∃ m : Nat, k % gaps.length = m := ⟨_, rfl⟩
        have hml : m < gaps.length := by rw [← hm]; exact Nat.mod_lt _ hg
        obtain ⟨_, c1, hin⟩ := hcc m hml
        obtain ⟨n, hn⟩ : ∃ n, gaps[m] = n := ⟨_, rfl⟩
        have HN : Hid (gaps.getD (k % gaps.length) 0 = n) := by
          show _ = _
          rw [hm, List.getD_eq_getElem?_getD, List.getElem?_eq_getElem hml]
          exact hn
        rw [hn] at c1 hin
        have ek : (k : Int) % (gaps.length : Int) = (m : Int) := by rw [← hm]; simp
        have ymg : (m : Int) < gaps.length := by omega
        have ygz : ((gaps.length : Int) == 0) = false := by rw [beq_eq_false_iff_ne]; omega
        have HYK : Hid (k' = k + 1) := by show _ = _; rw [← HKK.out, HNK.out]; rfl
        have HGB : Hid (G = bksJ i (min 3 n.toNat)) := by show _ = _; rw [← HGG.out, HGP.out, HN.out]; rfl
        have HM := hmk hm
        clear e1 e2 e3 hcc hgd' hn hm HGP HNK HGG HKK HN
        obtain ⟨w5, hw5⟩ : ∃ w5 : World, w5 = w4 := ⟨_, rfl⟩
        subst hw5
        go_wp2_with fail
        go_loopw [6, 12] (fun e6 e12 wi => ∃ (j : Nat) (y : Value), j ≤ 3 ∧ (j : Int) ≤ max 0 n ∧ y = e6 ∧ e12 = .int .i64 (j : Int) ∧ OwnB (w.heap.size + 1) y (out ++ bksJ i j) wi ∧ Hid (Below (w.heap.size + 1) w5 wi)) (fun _ e _ => 3 - (RowKit.intOf e).toNat)
        case atStart => exact ⟨0, _, by omega, by omega, rfl, rfl, by rw [show bksJ i 0 = [] from rfl, List.append_nil]; exact O4.out, Below.refl _ _⟩
        case round =>
          obtain ⟨j, y, hj, hjn, rfl, rfl, oy, Bi⟩ := hrel
          have OY := hmk oy
          clear oy
          have hzi := Bi.out.size
          have DI := D4.out.trans (Bi.out.mono (Nat.le_refl _))
          by_cases hjn2 : (j : Int) < n
          · by_cases hj3 : j < 3
            · have yj3 : (j : Int) < 3 := by omega
              obtain ⟨m4, hm4⟩ : ∃ m4 : Nat, (i + j) % 4 = m4 := ⟨_, rfl⟩
              have hm44 : m4 < 4 := by omega
              have e4 : ((i : Int) + (j : Int)) % 4 = (m4 : Int) := by omega
              have ym4 : (m4 : Int) < 4 := by omega
              obtain ⟨_, _, hblk, _⟩ := HK.out wr DI
              obtain ⟨d, hd⟩ : ∃ d, bkJ (i + j) = d := ⟨_, rfl⟩
              have c2 : wr.cell? ⟨w.heap.size, m4, none⟩ = some (.int .u8 (d.toNat : Int)) := by
                rw [cell_of_block hblk, ← hd, bkJ, hm4]
                rcases (show m4 = 0 ∨ m4 = 1 ∨ m4 = 2 ∨ m4 = 3 by omega) with rfl | rfl | rfl | rfl <;> rfl
              have HD := hmk hd
              have n1 : Byt (wr.alloc (.cells #[.int .u8 (d.toNat : Int)] 5)) (.slice (some ⟨wr.heap.size, 0, none⟩) 1 1) [d] := Byt.one wr d _
              have bA : Below wr.heap.size wr (wr.alloc (.cells #[.int .u8 (d.toNat : Int)] 5)) := (Below.refl _ _).alloc (Nat.le_refl _) _
              have oA := OY.out.below bA
              have hbl := bks_len i j
              clear hblk hd hm4
              go_wp2_with (at_builtin; go_loud (refine wpl_byt _ rfl (.tmp 71) (.tmp 79) rfl (w.heap.size + 1) y (out ++ bksJ i j) rfl oA _ [d] rfl n1 (by simp only [List.length_append, List.length_cons, List.length_nil]; omega) (by rw [alloc_size]; omega) ?_))
              intro y2 w6 h1 h2 h3
              have zA := bA.size
              have BI : Hid (Below (w.heap.size + 1) w5 w6) := (Bi.out.trans (bA.mono (by omega))).trans (oA.belowOf h2 (by omega))
              have OY2 : Hid (OwnB (w.heap.size + 1) y2 (out ++ bksJ i (j + 1)) w6) := by
                show OwnB _ _ _ _
                rw [bks_succ, HD.out]
                first | exact h1 | (rw [← List.append_assoc]; exact h1)
              clear h1 h2 h3 n1 oA bA c2
              go_wp2_with fail
              go_roundw
              case rel => exact ⟨j + 1, y2, by omega, by omega, rfl, by go_num, OY2.out, BI⟩
              case measure => simp [RowKit.intOf]; omega
            · have yj3 : ¬ (j : Int) < 3 := by omega
              have hje : min 3 n.toNat = j := by omega
              have OYF : Hid (OwnB (w.heap.size + 1) y (out ++ G) wr) := by show OwnB _ _ _ _; rw [HGB.out, hje]; exact OY.out
              clear hje
              go_wp2_with fail
              go_meet
              exact ⟨_, rfl, by rw [HYK.out]; go_num, OYF.out, Bi.out⟩
          · have hje : min 3 n.toNat = j := by omega
            have OYF : Hid (OwnB (w.heap.size + 1) y (out ++ G) wr) := by show OwnB _ _ _ _; rw [HGB.out, hje]; exact OY.out
            clear hje
            go_wp2_with fail
            go_meet
            exact ⟨_, rfl, by rw [HYK.out]; go_num, OYF.out, Bi.out⟩
    case rest =>
    rename World => w6
    obtain ⟨y, rfl, rfl, oy, b6⟩ := hcut
    have z6 := b6.size
    have D6 := hmk (D4.out.trans b6)
    have O6 := hmk oy
    clear oy b6 D4 O4
    have HSE : Hid (¬ i = b.length → sm = seamJ i p ins c) := fun h => by
      show _ = _
      rw [HSM.out, seamJ, ← HQ.out, ← HS0.out]
      by_cases h0 : i = 0
      · simp [h0]
      · simp [h0, h]
        try (cases ins <;> simp)
    have HSE2 : Hid (i = b.length → sm = true) := fun h => by
      show _ = _
      rw [HSM.out, ← HQ.out, ← HS0.out]
      simp [h]
    by_cases hib : i = b.length
    · have y2 : ((i : Int) == (b.length : Int)) = true := by rw [beq_iff_eq]; omega
      have HFF : Hid (FIN = out ++ G) := by
        show _ = _
        rw [← HR.out, hib, List.drop_length, spR_end, ← HGG.out, HSE2.out hib, gapJ, if_pos rfl, hib]
      have OF : Hid (OwnB w.heap.size y FIN w6) := by show OwnB _ _ _ _; rw [HFF.out]; exact own_mono O6.out (by omega)
      have hFl : FIN.length ≤ 4 * b.length + 3 := by rw [HFF.out, List.length_append]; omega
      have BF := (HK.out w6 D6.out).2.2.2
      clear hib HFF
      go_wp2_with fail
      go_ret
      exact ⟨_, rfl, OF.out, hFl, BF⟩
    · have y2 : ((i : Int) == (b.length : Int)) = false := by rw [beq_eq_false_iff_ne]; omega
      have hib2 : i < b.length := by omega
      have hsm := HSE.out hib
      have HSMH := hmk hsm
      clear hsm hib HSE HSE2 HSM HQI HS0 HQ
      obtain rfl : ba = some ⟨bb, bo, none⟩ := hbd.at_.resolve_left (by omega)
      have HBC : Hid (∀ W, Below (w.heap.size + 1) w1 W → ∀ (j : Nat) (h : j < b.length), W.cell? ⟨bb, bo + j, none⟩ = some (.int .u8 ((b[j]).toNat : Int))) := fun W hW j hj => by
        obtain ⟨⟨ba', bc', bb', bo', e', hbd', hcc⟩, _, _, _⟩ := HK.out W hW
        injection e' with e1 e2 e3
        have e4 : some (⟨bb, bo, none⟩ : Addr) = some ⟨bb', bo', none⟩ := e1.trans (hbd'.at_.resolve_left (by omega))
        injection e4 with e4
        injection e4 with e5 e6 _
        subst e5 e6
        exact (hcc j hj).2
      have c1 : w6.cell? ⟨bb, bo + i, none⟩ = some (.int .u8 (c.toNat : Int)) := by have := HBC.out w6 D6.out i hib2; rw [HC.out hib2] at this; exact this
      have yib : (i : Int) < b.length := by omega
      have HR2 : Hid (spR (gpJ gaps) g0 (c :: b.drop (i + 1)) i k p ins out = FIN) := by
        have := HR.out
        rw [List.drop_eq_getElem_cons hib2, HC.out hib2] at this
        exact this
      have HG2 : Hid (gapJ (gpJ gaps) i k (seamJ i p ins c) = G ∧ nxK g0 k (seamJ i p ins c) = k') := ⟨by rw [← HSMH.out]; exact HGG.out, by rw [← HSMH.out]; exact HKK.out⟩
      have HP2 : Hid (∀ h : 0 < i + 1, ∃ h' : i + 1 - 1 < b.length, b[i + 1 - 1] = c) := fun _ => ⟨by omega, by have := HC.out hib2; simpa using this⟩
      have key : ∀ d : UInt8, c ≠ d → ((c.toNat : Int) == (d.toNat : Int)) = false := fun d h => by
        rw [beq_eq_false_iff_ne]
        intro q
        exact h (UInt8.toNat_inj.1 (by omega))
      clear HR HGG HKK HSMH HP HGP HNK HSG HC
      by_cases h34 : c = 34
      · have y34 : ((c.toNat : Int) == 34) = true := by rw [h34]; rfl
        cases ins
        · skip
          have HR3 : Hid (spR (gpJ gaps) g0 (b.drop (i + 1)) (i + 1) k' c true (out ++ G ++ [c]) = FIN) := by
            have := HR2.out
            rw [spR_open h34, HG2.out.1, HG2.out.2] at this
            exact this
          clear h34 key HR2 HG2
          have n8 : Byt (w6.alloc (.cells #[.int .u8 (c.toNat : Int)] 5)) (.slice (some ⟨w6.heap.size, 0, none⟩) 1 1) [c] := Byt.one w6 c _
          have bA8 : Below w6.heap.size w6 (w6.alloc (.cells #[.int .u8 (c.toNat : Int)] 5)) := (Below.refl _ _).alloc (Nat.le_refl _) _
          have oA8 := O6.out.below bA8
          go_wp2_with (at_builtin; go_loud (refine wpl_byt _ rfl (.tmp 124) (.tmp 129) rfl (w.heap.size + 1) y (out ++ G) rfl oA8 _ [c] rfl n8 (by simp only [List.length_append, List.length_cons, List.length_nil]; omega) (by rw [alloc_size]; omega) ?_))
          intro y8 w8 h1 h2 h3
          have zA8 := bA8.size
          have D8 : Hid (Below (w.heap.size + 1) w1 w8) := (D6.out.trans (bA8.mono (by have := D6.out.size; omega))).trans (oA8.belowOf h2 (by omega))
          have O8 : Hid (OwnB (w.heap.size + 1) y8 ((out ++ G) ++ [c]) w8) := by show OwnB _ _ _ _; first | exact h1 | simpa [List.append_assoc] using h1
          have z8 := h2.size
          clear h1 h2 h3 n8 oA8 bA8
          go_wp2_with fail
          go_roundw
          case rel => exact ⟨i + 1, k', c, true, out ++ G ++ [c], y8, by omega, rfl, rfl, rfl, by go_num, O8.out, D8, HP2, by omega, by simp only [List.length_append, List.length_cons, List.length_nil]; omega, HR3⟩
          case measure => (try have hh2 := HI2.out); simp [RowKit.intOf]; omega
        · have y92 : ((c.toNat : Int) == 92) = false := key 92 (by rw [h34]; decide)
          have HR3 : Hid (spR (gpJ gaps) g0 (b.drop (i + 1)) (i + 1) k' c false (out ++ G ++ [c]) = FIN) := by
            have := HR2.out
            rw [spR_close h34, HG2.out.1, HG2.out.2] at this
            exact this
          clear h34 key HR2 HG2
          have n8 : Byt (w6.alloc (.cells #[.int .u8 (c.toNat : Int)] 5)) (.slice (some ⟨w6.heap.size, 0, none⟩) 1 1) [c] := Byt.one w6 c _
          have bA8 : Below w6.heap.size w6 (w6.alloc (.cells #[.int .u8 (c.toNat : Int)] 5)) := (Below.refl _ _).alloc (Nat.le_refl _) _
          have oA8 := O6.out.below bA8
          go_wp2_with (at_builtin; go_loud (refine wpl_byt _ rfl (.tmp 124) (.tmp 129) rfl (w.heap.size + 1) y (out ++ G) rfl oA8 _ [c] rfl n8 (by simp only [List.length_append, List.length_cons, List.length_nil]; omega) (by rw [alloc_size]; omega) ?_))
          intro y8 w8 h1 h2 h3
          have zA8 := bA8.size
          have D8 : Hid (Below (w.heap.size + 1) w1 w8) := (D6.out.trans (bA8.mono (by have := D6.out.size; omega))).trans (oA8.belowOf h2 (by omega))
          have O8 : Hid (OwnB (w.heap.size + 1) y8 ((out ++ G) ++ [c]) w8) := by show OwnB _ _ _ _; first | exact h1 | simpa [List.append_assoc] using h1
          have z8 := h2.size
          clear h1 h2 h3 n8 oA8 bA8
          go_wp2_with fail
          go_roundw
          case rel => exact ⟨i + 1, k', c, false, out ++ G ++ [c], y8, by omega, rfl, rfl, rfl, by go_num, O8.out, D8, HP2, by omega, by simp only [List.length_append, List.length_cons, List.length_nil]; omega, HR3⟩
          case measure => (try have hh2 := HI2.out); simp [RowKit.intOf]; omega
      · have y34 : ((c.toNat : Int) == 34) = false := key 34 h34
        by_cases h92 : c = 92
        · have y92 : ((c.toNat : Int) == 92) = true := by rw [h92]; rfl
          cases ins
          · skip
            have HR3 : Hid (spR (gpJ gaps) g0 (b.drop (i + 1)) (i + 1) k' c false (out ++ G ++ [c]) = FIN) := by
              have := HR2.out
              rw [spR_on h34 (by simp), HG2.out.1, HG2.out.2] at this
              exact this
            clear h34 h92 key HR2 HG2
            have n8 : Byt (w6.alloc (.cells #[.int .u8 (c.toNat : Int)] 5)) (.slice (some ⟨w6.heap.size, 0, none⟩) 1 1) [c] := Byt.one w6 c _
            have bA8 : Below w6.heap.size w6 (w6.alloc (.cells #[.int .u8 (c.toNat : Int)] 5)) := (Below.refl _ _).alloc (Nat.le_refl _) _
            have oA8 := O6.out.below bA8
            go_wp2_with (at_builtin; go_loud (refine wpl_byt _ rfl (.tmp 124) (.tmp 129) rfl (w.heap.size + 1) y (out ++ G) rfl oA8 _ [c] rfl n8 (by simp only [List.length_append, List.length_cons, List.length_nil]; omega) (by rw [alloc_size]; omega) ?_))
            intro y8 w8 h1 h2 h3
            have zA8 := bA8.size
            have D8 : Hid (Below (w.heap.size + 1) w1 w8) := (D6.out.trans (bA8.mono (by have := D6.out.size; omega))).trans (oA8.belowOf h2 (by omega))
            have O8 : Hid (OwnB (w.heap.size + 1) y8 ((out ++ G) ++ [c]) w8) := by show OwnB _ _ _ _; first | exact h1 | simpa [List.append_assoc] using h1
            have z8 := h2.size
            clear h1 h2 h3 n8 oA8 bA8
            go_wp2_with fail
            go_roundw
            case rel => exact ⟨i + 1, k', c, false, out ++ G ++ [c], y8, by omega, rfl, rfl, rfl, by go_num, O8.out, D8, HP2, by omega, by simp only [List.length_append, List.length_cons, List.length_nil]; omega, HR3⟩
            case measure => (try have hh2 := HI2.out); simp [RowKit.intOf]; omega
          · by_cases hlast : i + 1 < b.length
            · have yl : (i : Int) + 1 < b.length := by omega
              obtain ⟨d, hd⟩ : ∃ d, b[i + 1] = d := ⟨_, rfl⟩
              have HR3 : Hid (spR (gpJ gaps) g0 (b.drop (i + 2)) (i + 2) k' d true (out ++ G ++ [c] ++ [d]) = FIN) := by
                have := HR2.out
                rw [List.drop_eq_getElem_cons hlast, hd, spR_two h92, HG2.out.1, HG2.out.2] at this
                exact this
              have HP3 : Hid (∀ h : 0 < i + 2, ∃ h' : i + 2 - 1 < b.length, b[i + 2 - 1] = d) := fun _ => ⟨by omega, by simpa using hd⟩
              have HD := hmk hd
              clear h34 h92 key HR2 HG2 hd HP2
              have n7 : Byt (w6.alloc (.cells #[.int .u8 (c.toNat : Int)] 5)) (.slice (some ⟨w6.heap.size, 0, none⟩) 1 1) [c] := Byt.one w6 c _
              have bA7 : Below w6.heap.size w6 (w6.alloc (.cells #[.int .u8 (c.toNat : Int)] 5)) := (Below.refl _ _).alloc (Nat.le_refl _) _
              have oA7 := O6.out.below bA7
              go_wp2_with (at_builtin; go_loud (refine wpl_byt _ rfl (.tmp 110) (.tmp 115) rfl (w.heap.size + 1) y (out ++ G) rfl oA7 _ [c] rfl n7 (by simp only [List.length_append, List.length_cons, List.length_nil]; omega) (by rw [alloc_size]; omega) ?_))
              intro y7 w7 h1 h2 h3
              have zA7 := bA7.size
              have D7 : Hid (Below (w.heap.size + 1) w1 w7) := (D6.out.trans (bA7.mono (by have := D6.out.size; omega))).trans (oA7.belowOf h2 (by omega))
              have O7 : Hid (OwnB (w.heap.size + 1) y7 ((out ++ G) ++ [c]) w7) := by show OwnB _ _ _ _; first | exact h1 | simpa [List.append_assoc] using h1
              have z7 := h2.size
              clear h1 h2 h3 n7 oA7 bA7
              obtain ⟨i2, hi2⟩ : ∃ i2 : Nat, i2 = i + 1 := ⟨_, rfl⟩
              have c2 : w7.cell? ⟨bb, bo + i2, none⟩ = some (.int .u8 (d.toNat : Int)) := by have := HBC.out w7 D7.out (i + 1) hlast; rw [HD.out, ← hi2] at this; exact this
              have ei : (i : Int) + 1 = (i2 : Int) := by omega
              have yl2 : (i2 : Int) < b.length := by omega
              have HI2 := hmk hi2
              clear c1 hi2 yl
              have n8 : Byt (w7.alloc (.cells #[.int .u8 (d.toNat : Int)] 5)) (.slice (some ⟨w7.heap.size, 0, none⟩) 1 1) [d] := Byt.one w7 d _
              have bA8 : Below w7.heap.size w7 (w7.alloc (.cells #[.int .u8 (d.toNat : Int)] 5)) := (Below.refl _ _).alloc (Nat.le_refl _) _
              have oA8 := O7.out.below bA8
              go_wp2_with (at_builtin; go_loud (refine wpl_byt _ rfl (.tmp 124) (.tmp 129) rfl (w.heap.size + 1) y7 (out ++ G ++ [c]) rfl oA8 _ [d] rfl n8 (by simp only [List.length_append, List.length_cons, List.length_nil]; omega) (by rw [alloc_size]; omega) ?_))
              intro y8 w8 h1 h2 h3
              have zA8 := bA8.size
              have D8 : Hid (Below (w.heap.size + 1) w1 w8) := (D7.out.trans (bA8.mono (by have := D7.out.size; omega))).trans (oA8.belowOf h2 (by omega))
              have O8 : Hid (OwnB (w.heap.size + 1) y8 ((out ++ G ++ [c]) ++ [d]) w8) := by show OwnB _ _ _ _; first | exact h1 | simpa [List.append_assoc] using h1
              have z8 := h2.size
              clear h1 h2 h3 n8 oA8 bA8
              go_wp2_with fail
              go_roundw
              case rel => exact ⟨i + 2, k', d, true, out ++ G ++ [c] ++ [d], y8, by omega, rfl, rfl, rfl, (by have hh := HI2.out; clear ei; subst hh; go_num), O8.out, D8, HP3, by omega, by simp only [List.length_append, List.length_cons, List.length_nil]; omega, HR3⟩
              case measure => (try have hh2 := HI2.out); simp [RowKit.intOf]; omega
            · have yl : ¬ (i : Int) + 1 < b.length := by omega
              have HR3 : Hid (spR (gpJ gaps) g0 (b.drop (i + 1)) (i + 1) k' c true (out ++ G ++ [c]) = FIN) := by
                have := HR2.out
                rw [spR_on h34 (fun q => q.2.2 (List.drop_eq_nil_iff.2 (by omega))), HG2.out.1, HG2.out.2] at this
                exact this
              clear h34 h92 key HR2 HG2
              have n8 : Byt (w6.alloc (.cells #[.int .u8 (c.toNat : Int)] 5)) (.slice (some ⟨w6.heap.size, 0, none⟩) 1 1) [c] := Byt.one w6 c _
              have bA8 : Below w6.heap.size w6 (w6.alloc (.cells #[.int .u8 (c.toNat : Int)] 5)) := (Below.refl _ _).alloc (Nat.le_refl _) _
              have oA8 := O6.out.below bA8
              go_wp2_with (at_builtin; go_loud (refine wpl_byt _ rfl (.tmp 124) (.tmp 129) rfl (w.heap.size + 1) y (out ++ G) rfl oA8 _ [c] rfl n8 (by simp only [List.length_append, List.length_cons, List.length_nil]; omega) (by rw [alloc_size]; omega) ?_))
              intro y8 w8 h1 h2 h3
              have zA8 := bA8.size
              have D8 : Hid (Below (w.heap.size + 1) w1 w8) := (D6.out.trans (bA8.mono (by have := D6.out.size; omega))).trans (oA8.belowOf h2 (by omega))
              have O8 : Hid (OwnB (w.heap.size + 1) y8 ((out ++ G) ++ [c]) w8) := by show OwnB _ _ _ _; first | exact h1 | simpa [List.append_assoc] using h1
              have z8 := h2.size
              clear h1 h2 h3 n8 oA8 bA8
              go_wp2_with fail
              go_roundw
              case rel => exact ⟨i + 1, k', c, true, out ++ G ++ [c], y8, by omega, rfl, rfl, rfl, by go_num, O8.out, D8, HP2, by omega, by simp only [List.length_append, List.length_cons, List.length_nil]; omega, HR3⟩
              case measure => (try have hh2 := HI2.out); simp [RowKit.intOf]; omega
        · have y92 : ((c.toNat : Int) == 92) = false := key 92 h92
          have HR3 : Hid (spR (gpJ gaps) g0 (b.drop (i + 1)) (i + 1) k' c ins (out ++ G ++ [c]) = FIN) := by
            have := HR2.out
            rw [spR_on h34 (fun q => h92 q.1), HG2.out.1, HG2.out.2] at this
            exact this
          clear h34 h92 key HR2 HG2
          have n8 : Byt (w6.alloc (.cells #[.int .u8 (c.toNat : Int)] 5)) (.slice (some ⟨w6.heap.size, 0, none⟩) 1 1) [c] := Byt.one w6 c _
          have bA8 : Below w6.heap.size w6 (w6.alloc (.cells #[.int .u8 (c.toNat : Int)] 5)) := (Below.refl _ _).alloc (Nat.le_refl _) _
          have oA8 := O6.out.below bA8
          go_wp2_with (at_builtin; go_loud (refine wpl_byt _ rfl (.tmp 124) (.tmp 129) rfl (w.heap.size + 1) y (out ++ G) rfl oA8 _ [c] rfl n8 (by simp only [List.length_append, List.length_cons, List.length_nil]; omega) (by rw [alloc_size]; omega) ?_))
          intro y8 w8 h1 h2 h3
          have zA8 := bA8.size
          have D8 : Hid (Below (w.heap.size + 1) w1 w8) := (D6.out.trans (bA8.mono (by have := D6.out.size; omega))).trans (oA8.belowOf h2 (by omega))
          have O8 : Hid (OwnB (w.heap.size + 1) y8 ((out ++ G) ++ [c]) w8) := by show OwnB _ _ _ _; first | exact h1 | simpa [List.append_assoc] using h1
          have z8 := h2.size
          clear h1 h2 h3 n8 oA8 bA8
          go_wp2_with fail
          go_roundw
          case rel => exact ⟨i + 1, k', c, ins, out ++ G ++ [c], y8, by omega, rfl, rfl, rfl, by go_num, O8.out, D8, HP2, by omega, by simp only [List.length_append, List.length_cons, List.length_nil]; omega, HR3⟩
          case measure => (try have hh2 := HI2.out); simp [RowKit.intOf]; omega
end Go.Proofs.YtpmhdcmmlkjjmaaGreatDoor
