/- joined: CfnR RspR -/
import Derived.Test.YtfekgeaopchilaaGreatDoorSrtR
import Derived.Lib.SliceRun
/- slices.CompactFunc over paths. -/
set_option linter.unusedSimpArgs false
set_option linter.unusedVariables false
namespace Go.Proofs.YtfekgeaopchilaaGreatDoor
open Go.RowKit Go.Lib Go.Sort
section
variable {α : Type} [Inhabited α] (r : α → α → Bool) (d : Array α)
/-- is it kept: the first, and each that is unlike the one ahead of it -/
def kp (j : Nat) : Bool := decide (j = 0) || !r d[j]! d[j - 1]!
/-- what is kept of the first j -/
def kpt : Nat → List α
  | 0 => []
  | j + 1 => if kp r d j = true then kpt j ++ [d[j]!] else kpt j
theorem kpt_yes {j : Nat} (h : kp r d j = true) : kpt r d (j + 1) = kpt r d j ++ [d[j]!] := by rw [kpt, if_pos h]
theorem kpt_no {j : Nat} (h : kp r d j = false) : kpt r d (j + 1) = kpt r d j := by rw [kpt, if_neg (by rw [h]; simp)]
theorem kpt_len : ∀ j, (kpt r d j).length ≤ j
  | 0 => Nat.le_refl _
  | j + 1 => by
    have := kpt_len j
    rw [kpt]
    split
    · simp; omega
    · omega
theorem kpt_all : ∀ k, k ≤ d.size → (∀ j, j < k → kp r d j = true) → kpt r d k = d.toList.take k
  | 0, _, _ => by simp [kpt]
  | k + 1, hk, h => by
    rw [kpt_yes r d (h k (by omega)), kpt_all k (by omega) (fun j hj => h j (by omega)), List.take_succ_eq_append_getElem (by simp; omega)]
    rw [getElem!_pos d k (by omega)]; rfl
structure CI (K kk : Nat) (dk : Array α) : Prop where
  size : dk.size = d.size
  len : kk = (kpt r d K).length
  lt : kk < K
  low : ∀ j, j < kk → dk[j]? = (kpt r d K)[j]?
  high : ∀ j, K - 1 ≤ j → dk[j]? = d[j]?
variable {r d}
theorem kp_zero {j : Nat} (h : j = 0) : kp r d j = true := by subst h; rfl
theorem CI.start {k : Nat} (hk : k < d.size) (h : ∀ j, j < k → kp r d j = true) (h2 : kp r d k = false) : CI r d (k + 1) k d := by
  have e : kpt r d (k + 1) = d.toList.take k := by rw [kpt_no r d h2, kpt_all r d k (by omega) h]
  refine ⟨rfl, by rw [e]; simp; omega, by omega, fun j hj => ?_, fun _ _ => rfl⟩
  rw [e, List.getElem?_take, if_pos hj, Array.getElem?_toList]
theorem CI.skip {K kk : Nat} {dk : Array α} (h : CI r d K kk dk) (h2 : kp r d K = false) : CI r d (K + 1) kk dk := by
  have e := kpt_no r d h2
  exact ⟨h.size, by rw [e]; exact h.len, by have := h.lt; omega, fun j hj => by rw [e]; exact h.low j hj, fun j hj => h.high j (by omega)⟩
theorem CI.keep {K kk : Nat} {dk : Array α} (h : CI r d K kk dk) (hK : K < d.size) (h2 : kp r d K = true) : CI r d (K + 1) (kk + 1) (dk.setIfInBounds kk d[K]!) := by
  have e := kpt_yes r d h2
  have hl := h.len
  have hlt := h.lt
  have hs := h.size
  refine ⟨by simp [h.size], by rw [e]; simp; omega, by omega, fun j hj => ?_, fun j hj => ?_⟩
  · rw [e, Array.getElem?_setIfInBounds]
    by_cases hj' : j = kk
    · subst hj'
      rw [if_pos rfl, if_pos (by omega), List.getElem?_append_right (by omega), show j - (kpt r d K).length = 0 by omega]
      rfl
    · rw [if_neg (fun e => hj' e.symm), List.getElem?_append_left (by omega)]
      exact h.low j (by omega)
  · rw [Array.getElem?_setIfInBounds, if_neg (by omega)]
    exact h.high j (by omega)
end
theorem below_setCells {B g : Nat} (hB : B ≤ g) {w : World} : ∀ (vs : List Value) (o : Nat) (wr : World), Below B w wr → Below B w (wr.setCells g o vs)
  | [], o, wr, h => h
  | v :: t, o, wr, h => below_setCells hB t (o + 1) _ (h.setCell (p := ⟨g, o, none⟩) hB v)
/-- what lies in the row -/
def Hold {w0 : World} {S : Nat → Prop} (w : World) (g : Nat) (d : Array (PC w0 S)) : Prop := ∀ j, (hj : j < d.size) → w.cell? ⟨g, j, none⟩ = some d[j].enc ∧ w.frozen? ⟨g, j, none⟩ = false
theorem hold_of {w0 : World} {S : Nat → Prop} {w : World} {g : Nat} {d : Array (PC w0 S)} (h : Holds PC.enc w g 0 d) : Hold w g d := fun j hj => by
  have := h j hj
  rw [Nat.zero_add, getElem!_pos d j hj] at this
  exact this
theorem Hold.below {w0 : World} {S : Nat → Prop} {w w' : World} {g : Nat} {d : Array (PC w0 S)} (h : Hold w g d) (hg : g < w.heap.size) (hb : Below w.heap.size w w') : Hold w' g d := fun j hj => by
  have e := hb.block g hg
  exact ⟨(World.cell?_of_block (w := w) (a := ⟨g, j, none⟩) e).trans (h j hj).1, (by simp only [World.frozen?]; rw [e]; exact (h j hj).2)⟩
theorem cell_set_other {w : World} {g k j : Nat} {v : Value} (e : k ≠ j) : (w.setCell ⟨g, k, none⟩ v).cell? ⟨g, j, none⟩ = w.cell? ⟨g, j, none⟩ := by
  cases h : w.heap[g]? with
  | none =>
    have hs : w.heap.size ≤ g := Array.getElem?_eq_none_iff.1 h
    have h2 : (w.setCell ⟨g, k, none⟩ v).heap[g]? = none := Array.getElem?_eq_none (by rw [size_set1]; exact hs)
    simp only [World.cell?, h, h2]
  | some o =>
    cases o with
    | cells c t f => rw [cell_of_block (set_block h k v), cell_of_block h, Array.getElem?_setIfInBounds, if_neg e]
    | _ => simp [World.cell?, World.setCell, Array.getElem?_modify, h]
theorem Hold.set {w0 : World} {S : Nat → Prop} {w : World} {g : Nat} {d : Array (PC w0 S)} (h : Hold w g d) (k : Nat) (x : PC w0 S) (hk : k < d.size) : Hold (w.setCell ⟨g, k, none⟩ x.enc) g (d.setIfInBounds k x) := fun j hj => by
  have hj' : j < d.size := by simpa using hj
  refine ⟨?_, by rw [World.frozen?_setCell]; exact (h j hj').2⟩
  by_cases e : k = j
  · subst e
    rw [World.cell?_setCell_same' _ _ _ (by rw [(h k hj').1]; rfl)]
    simp
  · rw [cell_set_other e, (h j hj').1]
    have h1 : (d.setIfInBounds k x)[j]? = d[j]? := by rw [Array.getElem?_setIfInBounds, if_neg e]
    rw [Array.getElem?_eq_getElem hj, Array.getElem?_eq_getElem hj'] at h1
    rw [Option.some.inj h1]
def reqB {w0 : World} {S : Nat → Prop} (x y : PC w0 S) : Bool := decide (PC.cmp x y = 0)
set_option maxHeartbeats 4000000 in
theorem peq_any {w0 : World} {S : Nat → Prop} (x y : PC w0 S) (w : World) (hk : ∀ b, S b → w.heap[b]? = w0.heap[b]?) (hsz : ∀ b, S b → b < w.heap.size) : Calls Tryz.prog 79 #[x.enc, y.enc] w (BPost (reqB x y) w) := by
  have c := hmk (opaths_any x.p y.p S S x.ao x.cap x.b x.o y.ao y.cap y.b y.o w x.hh (liesP_keep hk (fun _ h => h) x.hl) y.hh (liesP_keep hk (fun _ h => h) y.hl) hsz hsz)
  have HF : Hid (reqB x y = (lexL oeE x.p y.p == 0)) := by show _ = _; rw [reqB, PC.cmp]; by_cases h : lexL oeE x.p y.p = 0 <;> simp [h]
  generalize reqB x y = ZZ at *
  generalize lexL oeE x.p y.p = RR at *
  simp only [PC.enc]
  go_enter Tryz.func79, Tryz.ntmps79
  go_wp2_with fail
  refine c.out.mono ?_
  rintro e w1 ⟨rfl, b1⟩
  go_wp2_with fail
  go_ret
  exact ⟨by rw [HF.out]; rfl, b1⟩
def CfPost {w0 : World} {S : Nat → Prop} (d : Array (PC w0 S)) (g cap : Nat) (w : World) (e : Ending) (w' : World) : Prop :=
  e = .returned (.slice (some ⟨g, 0, none⟩) (kpt reqB d d.size).length cap) ∧ Hold w' g (kpt reqB d d.size).toArray ∧ g < w'.heap.size ∧ ∀ B, B ≤ g → Below B w w'
set_option maxHeartbeats 8000000 in
set_option maxRecDepth 100000 in
theorem compact_any {w0 : World} {S : Nat → Prop} (hS0 : ∀ b, S b → b < w0.heap.size) (d : Array (PC w0 S)) (g cap : Nat) (w : World) (hw : Below w0.heap.size w0 w) (hg0 : w0.heap.size ≤ g) (hH : Hold w g d) (hg : g < w.heap.size) (hn : d.size ≤ 2147483647) (hcap : d.size ≤ cap) (hmax : cap ≤ maxLen) :
    Calls Tryz.prog 78 #[.slice (some ⟨g, 0, none⟩) d.size cap, .func (.func 79) #[] #[]] w (CfPost d g cap w) := by
  have HH := hmk hH
  have HW := hmk hw
  have HS := hmk hS0
  clear hH hw hS0
  have CE : Hid (∀ (x y : PC w0 S) (W : World), Below w0.heap.size w0 W → Calls Tryz.prog 79 #[x.enc, y.enc] W (BPost (reqB x y) W)) := fun x y W h => peq_any x y W (fun b hb => h.block b (HS.out b hb)) (fun b hb => Nat.lt_of_lt_of_le (HS.out b hb) h.size)
  have hmax' : cap ≤ 9223372036854775807 := Nat.le_trans hmax (by decide)
  have hmm : (maxLen : Nat) ≤ 9223372036854775807 := by decide
  -- all are kept
  have ALL : Hid (∀ W, Below w.heap.size w W → (∀ j, j < d.size → kp reqB d j = true) → CfPost d g cap w (.returned (.slice (some ⟨g, 0, none⟩) d.size cap)) W) := fun W hb h => by
    have e : kpt reqB d d.size = d.toList := by rw [kpt_all reqB d d.size (Nat.le_refl _) h]; exact List.take_of_length_le (by rw [Array.length_toList]; exact Nat.le_refl _)
    refine ⟨by rw [e, Array.length_toList], by rw [e, Array.toArray_toList]; exact HH.out.below hg hb, Nat.lt_of_lt_of_le hg hb.size, fun B hB => hb.mono (by omega)⟩
  by_cases h2 : d.size < 2
  · have y1 : (d.size : Int) < 2 := by omega
    go_enter Tryz.func78, Tryz.ntmps78
    go_wp2_with fail
    go_ret
    exact ALL.out w (Below.refl _ _) (fun j hj => kp_zero (by omega))
  have y1 : ¬ (d.size : Int) < 2 := by omega
  go_enter Tryz.func78, Tryz.ntmps78
  go_wp2_with fail
  go_loopw [5] (fun e wr => ∃ k : Nat, (1 ≤ k ∧ k ≤ d.size) ∧ e = .int .i64 (k : Int) ∧ Below w.heap.size w wr ∧ Hid (∀ j, j < k → kp reqB d j = true)) (fun e _ => d.size - (RowKit.intOf e).toNat)
  case atStart => exact ⟨1, ⟨by omega, by omega⟩, rfl, Below.refl _ _, fun j hj => kp_zero (by omega)⟩
  case round =>
    obtain ⟨k, hk, rfl, bj, HK⟩ := hrel
    have hzr := bj.size
    by_cases hlt : k < d.size
    case neg =>
      obtain rfl : k = d.size := by omega
      have y2 : ¬ (d.size : Int) < d.size := by omega
      go_wp2_with fail
      go_ret
      exact ALL.out wr bj HK.out
    have y2 : (k : Int) < d.size := by omega
    have y3 : ((k - 1 : Nat) : Int) < d.size := by omega
    have hgr : g < wr.heap.size := by omega
    have hHr := HH.out.below hg bj
    have c0 := (hHr k hlt).1
    have c1 := (hHr (k - 1) (by omega)).1
    have p0 : ∀ x : Sub wr.heap.size wr, _ := sub_cell c0 hgr
    have p1 : ∀ x : Sub wr.heap.size wr, _ := sub_cell c1 hgr
    have HX := hmk hHr
    have CI1 : Hid (∀ x : Sub wr.heap.size wr, Calls Tryz.prog 79 #[(d[k]'hlt).enc, (d[k - 1]'(by omega)).enc] x.w fun e w'' => e = .returned (.bool (reqB (d[k]'hlt) (d[k - 1]'(by omega)))) ∧ ∃ y : Sub wr.heap.size wr, w'' = y.w) :=
      sub_call fun w' hb => by
        refine (CE.out _ _ w' (HW.out.trans ((bj.mono HW.out.size).trans (hb.mono (Nat.le_trans HW.out.size hzr))))).mono ?_
        rintro e w'' ⟨he, h2⟩
        exact ⟨he, hb.trans (h2.mono hb.size)⟩
    have HKP : Hid (kp reqB d k = !reqB (d[k]'hlt) (d[k - 1]'(by omega))) := by
      show _ = _
      rw [kp, getElem!_pos d k hlt, getElem!_pos d (k - 1) (by omega)]
      simp only [show ¬ k = 0 by omega, decide_false, Bool.false_or]
    generalize reqB (d[k]'hlt) (d[k - 1]'(by omega)) = Z at *
    generalize (d[k]'hlt).enc = vx at *
    generalize (d[k - 1]'(by omega)).enc = vy at *
    clear c0 c1 hHr
    have hk1 : ((k : Int) - 1) = ((k - 1 : Nat) : Int) := by omega
    go_wp2_with fail
    refine wp_region_sub wr.heap.size (by kernel_rfl) (by kernel_rfl) ?_
    repeat (go_big_quiet_step (exact CI1.out _))
    refine wpQuiet_nil ?_
    rintro wq ⟨⟨wq', bq⟩, hq⟩
    have hq' : wq = wq' := hq
    subst hq'
    clear hq p0 p1 CI1
    have BQ := bj.trans (bq.mono hzr)
    have hHq := HX.out.below hgr bq
    clear HX bq bj
    cases Z
    · go_wp2_with fail
      go_roundw
      case rel =>
        refine ⟨k + 1, ⟨by omega, by omega⟩, by go_num, BQ, fun j hj => ?_⟩
        by_cases e : j = k
        · subst e; rw [HKP.out]; rfl
        · exact HK.out j (by omega)
      case measure => simp [RowKit.intOf]; omega
    have HI : CI reqB d (k + 1) k d := CI.start hlt HK.out (by rw [HKP.out]; rfl)
    have hzq := BQ.size
    clear HK HKP ALL hk1
    have y4 : ((k : Nat) : Int) ≤ d.size := by omega
    have y5 : (d.size : Int) ≤ cap := by omega
    go_wp2_with fail
    go_loopw [5, 7] (fun e5 e7 wr => ∃ (kk k2 : Nat) (dk : Array (PC w0 S)), (1 ≤ k2 ∧ k + k2 ≤ d.size ∧ kk < k + k2) ∧ e5 = .int .i64 (kk : Int) ∧ e7 = .int .i64 (k2 : Int) ∧ Below g w wr ∧ w.heap.size ≤ wr.heap.size ∧ Hid (Hold wr g dk) ∧ Hid (CI reqB d (k + k2) kk dk)) (fun _ e7 _ => d.size - (RowKit.intOf e7).toNat)
    case atStart => exact ⟨k, 1, d, by omega, rfl, rfl, BQ.mono (by omega), hzq, hHq, HI⟩
    case round =>
      clear HI hHq BQ
      obtain ⟨kk, k2, dk, hb2, rfl, rfl, bj, hzr, HD, HI⟩ := hrel
      have hds := HI.out.size
      have hgr : g < wr.heap.size := by omega
      by_cases hlt2 : k + k2 < d.size
      case neg =>
        have hend : k + k2 = d.size := by omega
        have y6 : ¬ (k2 : Int) < (d.size : Int) - k := by omega
        have y7 : ¬ (k2 : Int) < ((d.size - k : Nat) : Int) := by omega
        have y8 : (kk : Int) ≤ d.size := by omega
        have y9 : (kk : Int) ≤ cap := by omega
        have hcl : ∀ ty, (Builtin.clear_ #[23] ty #[.slice (some ⟨g, kk, none⟩) (d.size - kk) (cap - kk)]).run Tryz.prog wr = .ok (.tuple #[]) (wr.setCells g kk (List.replicate (d.size - kk) (.slice none 0 0))) :=
          fun ty => Lib.run_clear_slice wr _ _ ty _ Tryz.underlying23 Tryz.zeroValue25 rfl rfl g kk _ _ (by omega) (fun j hj => by rw [(HD.out (kk + j) (by omega)).1]; rfl) (fun j hj => (HD.out (kk + j) (by omega)).2)
        have HE : Hid (Hold (wr.setCells g kk (List.replicate (d.size - kk) (.slice none 0 0))) g (kpt reqB d d.size).toArray ∧ kk = (kpt reqB d d.size).length ∧ (wr.setCells g kk (List.replicate (d.size - kk) (.slice none 0 0))).heap.size = wr.heap.size ∧ Below g w (wr.setCells g kk (List.replicate (d.size - kk) (.slice none 0 0)))) := by
          have hI := HI.out
          rw [hend] at hI
          have hlen := hI.len
          have hsz : (wr.setCells g kk (List.replicate (d.size - kk) (.slice none 0 0))).heap.size = wr.heap.size := by simp
          refine ⟨fun j hj => ?_, hlen, hsz, below_setCells (Nat.le_refl _) _ _ _ bj⟩
          have hj' : j < kk := by rw [hlen]; simpa using hj
          have hjd : j < dk.size := by omega
          have e := hI.low j hj'
          rw [Array.getElem?_eq_getElem hjd, List.getElem?_eq_getElem (by omega)] at e
          refine ⟨?_, by rw [World.frozen?_setCells]; exact (HD.out j hjd).2⟩
          rw [World.cell?_setCells_out g _ _ _ _ (fun _ _ => Or.inl (by simpa using hj')), (HD.out j hjd).1]
          simp [Option.some.inj e]
        clear HI HD
        go_wp2_with fail
        go_ret
        exact ⟨by rw [← HE.out.2.1]; rfl, HE.out.1, by rw [HE.out.2.2.1]; exact hgr, fun B hB => HE.out.2.2.2.mono hB⟩
      have y6 : (k2 : Int) < (d.size : Int) - k := by omega
      have y7 : (k2 : Int) < ((d.size - k : Nat) : Int) := by omega
      have hc0 := (HD.out (k + k2) (by omega)).1
      have hc1 := (HD.out (k + (k2 - 1)) (by omega)).1
      have hck := HD.out kk (by omega)
      have e0 := HI.out.high (k + k2) (by omega)
      have e1 := HI.out.high (k + (k2 - 1)) (by omega)
      rw [Array.getElem?_eq_getElem (by omega), Array.getElem?_eq_getElem hlt2] at e0
      rw [Array.getElem?_eq_getElem (by omega), Array.getElem?_eq_getElem (by omega)] at e1
      rw [Option.some.inj e0] at hc0
      rw [Option.some.inj e1] at hc1
      obtain ⟨vk, hvk⟩ : ∃ v, wr.cell? ⟨g, kk, none⟩ = some v := ⟨_, hck.1⟩
      have hfk := hck.2
      have p0 : ∀ x : Sub wr.heap.size wr, _ := sub_cell hc0 hgr
      have p1 : ∀ x : Sub wr.heap.size wr, _ := sub_cell hc1 hgr
      have hbw : Below w0.heap.size w0 wr := HW.out.trans (bj.mono hg0)
      have CI1 : Hid (∀ x : Sub wr.heap.size wr, Calls Tryz.prog 79 #[(d[k + k2]'hlt2).enc, (d[k + (k2 - 1)]'(by omega)).enc] x.w fun e w'' => e = .returned (.bool (reqB (d[k + k2]'hlt2) (d[k + (k2 - 1)]'(by omega)))) ∧ ∃ y : Sub wr.heap.size wr, w'' = y.w) :=
        sub_call fun w' hb => by
          refine (CE.out _ _ w' (hbw.trans (hb.mono hbw.size))).mono ?_
          rintro e w'' ⟨he, h2⟩
          exact ⟨he, hb.trans (h2.mono hb.size)⟩
      have HKP : Hid (kp reqB d (k + k2) = !reqB (d[k + k2]'hlt2) (d[k + (k2 - 1)]'(by omega))) := by
        show _ = _
        rw [kp, getElem!_pos d (k + k2) hlt2, show k + k2 - 1 = k + (k2 - 1) by omega, getElem!_pos d (k + (k2 - 1)) (by omega)]
        simp only [show ¬ k + k2 = 0 by omega, decide_false, Bool.false_or]
      have HV : Hid ((d[k + k2]'hlt2).enc = (d[k + k2]!).enc) := by show _ = _; rw [getElem!_pos d (k + k2) hlt2]
      have HX : ∃ a n c, (d[k + k2]'hlt2).enc = .slice a n c := ⟨_, _, _, rfl⟩
      generalize reqB (d[k + k2]'hlt2) (d[k + (k2 - 1)]'(by omega)) = Z at *
      generalize (d[k + k2]'hlt2).enc = vx at *
      generalize (d[k + (k2 - 1)]'(by omega)).enc = vy at *
      obtain ⟨xa, xn, xc, rfl⟩ := HX
      clear hc0 hc1 e0 e1 hck
      have hk1 : ((k2 : Int) - 1) = ((k2 - 1 : Nat) : Int) := by omega
      have y8 : ((k2 - 1 : Nat) : Int) < (d.size : Int) - k := by omega
      have y9 : ((k2 - 1 : Nat) : Int) < ((d.size - k : Nat) : Int) := by omega
      go_wp2_with fail
      refine wp_region_sub wr.heap.size (by kernel_rfl) (by kernel_rfl) ?_
      repeat (go_big_quiet_step (exact CI1.out _))
      refine wpQuiet_nil ?_
      rintro wq ⟨⟨wq', bq⟩, hq⟩
      have hq' : wq = wq' := hq
      subst hq'
      clear hq CI1
      have BQ : Below g w wq := bj.trans (bq.mono (by omega))
      have hHq := hmk (HD.out.below hgr bq)
      have hzq : w.heap.size ≤ wq.heap.size := Nat.le_trans hzr bq.size
      have hc0 : wq.cell? ⟨g, k + k2, none⟩ = some (.slice xa xn xc) := p0 ⟨wq, bq⟩
      have hvk' : wq.cell? ⟨g, kk, none⟩ = some vk := (bq.cell (p := ⟨g, kk, none⟩) hgr).trans hvk
      have hfk' : wq.frozen? ⟨g, kk, none⟩ = false := (hHq.out kk (by omega)).2
      clear p0 p1 HD bj bq hvk hfk hbw
      cases Z
      · have HI2 := hmk (HI.out.keep hlt2 (by rw [HKP.out]; rfl))
        have HH2 : Hid (Hold (wq.setCell ⟨g, kk, none⟩ (.slice xa xn xc)) g (dk.setIfInBounds kk d[k + k2]!)) := by
          have := hHq.out.set kk d[k + k2]! (by omega)
          rw [← HV.out] at this
          exact this
        have HB2 : Hid (Below g w (wq.setCell ⟨g, kk, none⟩ (.slice xa xn xc))) := BQ.setCell (Nat.le_refl _) _
        have hz2 : (wq.setCell ⟨g, kk, none⟩ (.slice xa xn xc)).heap.size = wq.heap.size := size_set1 _ _ _ _
        have y10 : (kk : Int) < d.size := by omega
        clear HI hHq BQ HV
        go_wp2_with fail
        go_roundw
        case rel => exact ⟨kk + 1, k2 + 1, _, by omega, by go_num, by go_num, HB2.out, by omega, HH2.out, HI2.out⟩
        case measure => simp [RowKit.intOf]; omega
      · have HI2 := hmk (HI.out.skip (by rw [HKP.out]; rfl))
        clear HI HV
        go_wp2_with fail
        go_roundw
        case rel => exact ⟨kk, k2 + 1, dk, by omega, rfl, by go_num, BQ, hzq, hHq.out, HI2.out⟩
        case measure => simp [RowKit.intOf]; omega
end Go.Proofs.YtfekgeaopchilaaGreatDoor
/- Lists of paths that rise: they are told by what is in them. -/
namespace Go.Proofs.YtfekgeaopchilaaGreatDoor
open Go.RowKit Go.Lib Go.Sort
/-- R rises, and has just the paths of l -/
def Rs (l R : List (List El)) : Prop := R.Pairwise (fun a b => lexL oeE a b < 0) ∧ ∀ p, p ∈ R ↔ p ∈ l
/-- what is kept of a sorted row rises -/
theorem kpt_rise {w : World} {S : Nat → Prop} {d : Array (PC w S)} (hs : d.toList.Pairwise (fun a b => ¬ lexL oeE b.p a.p < 0)) (hp : ∀ x ∈ d.toList, pathB x.p = true) : ∀ K, K ≤ d.size →
    (kpt reqB d K).Pairwise (fun a b => lexL oeE a.p b.p < 0) ∧ (∀ x ∈ kpt reqB d K, x ∈ d.toList) ∧ (∀ j, (hj : j < d.size) → j < K → ∃ x ∈ kpt reqB d K, x.p = d[j].p) ∧ (∀ x ∈ kpt reqB d K, 0 < K → lexL oeE x.p (d[K - 1]!).p ≤ 0)
  | 0, _ => ⟨by simp [kpt], by simp [kpt], fun j _ h => by omega, by simp [kpt]⟩
  | K + 1, hK => by
    obtain ⟨h1, h2, h3, h4⟩ := kpt_rise hs hp K (by omega)
    have eK : d[K]! = d[K] := getElem!_pos d K (by omega)
    have hmK : d[K] ∈ d.toList := by simp
    have hgo : 0 < K → ∃ y : PC w S, d[K - 1]! = y ∧ y ∈ d.toList ∧ ¬ lexL oeE d[K].p y.p < 0 ∧ reqB d[K] y = decide (lexL oeE d[K].p y.p = 0) := fun h0 => by
      have e1 : d[K - 1]! = d[K - 1] := getElem!_pos d (K - 1) (by omega)
      have := List.pairwise_iff_getElem.1 hs (K - 1) K (by simp; omega) (by simp; omega) (by omega)
      exact ⟨d[K - 1], e1, by simp, by simpa using this, rfl⟩
    cases hk : kp reqB d K with
    | true =>
      rw [kpt_yes reqB d hk, eK]
      have hlt : ∀ x ∈ kpt reqB d K, lexL oeE x.p d[K].p < 0 := fun x hx => by
        by_cases h0 : 0 < K
        · obtain ⟨y, ey, hy, hn, hq⟩ := hgo h0
          rw [kp, eK, ey, hq] at hk
          simp only [show ¬ K = 0 by omega, decide_false, Bool.false_or, Bool.not_eq_true', decide_eq_false_iff_not] at hk
          have a1 := h4 x hx h0
          rw [ey] at a1
          have a2 := wk_P.anti d[K].p y.p
          rcases Int.lt_trichotomy (lexL oeE x.p y.p) 0 with h | h | h
          · exact wk_P.tri _ y.p _ h (by omega)
          · rw [wk_P.cong _ _ _ h]; omega
          · omega
        · obtain rfl : K = 0 := by omega
          simp [kpt] at hx
      refine ⟨?_, ?_, ?_, ?_⟩
      · rw [List.pairwise_append]
        exact ⟨h1, by simp, fun a ha b hb => by rw [List.mem_singleton.1 hb]; exact hlt a ha⟩
      · intro x hx
        rcases List.mem_append.1 hx with hx | hx
        · exact h2 x hx
        · rw [List.mem_singleton.1 hx]; exact hmK
      · intro j hj hjK
        by_cases e : j = K
        · subst e; exact ⟨d[j], by simp, rfl⟩
        · obtain ⟨x, hx, ex⟩ := h3 j hj (by omega)
          exact ⟨x, List.mem_append_left _ hx, ex⟩
      · intro x hx _
        rw [Nat.add_sub_cancel, eK]
        rcases List.mem_append.1 hx with hx | hx
        · have := hlt x hx; omega
        · rw [List.mem_singleton.1 hx, wk_P.self]; omega
    | false =>
      rw [kpt_no reqB d hk]
      have h0 : 0 < K := by
        rcases Nat.eq_zero_or_pos K with rfl | h
        · cases hk
        · exact h
      obtain ⟨y, ey, hy, hn, hq⟩ := hgo h0
      rw [kp, eK, ey, hq] at hk
      simp only [show ¬ K = 0 by omega, decide_false, Bool.false_or, Bool.not_eq_false', decide_eq_true_iff] at hk
      have e : d[K].p = y.p := (path_same (hp _ hmK) (hp _ hy)).1 hk
      refine ⟨h1, h2, ?_, ?_⟩
      · intro j hj hjK
        by_cases ej : j = K
        · subst ej
          obtain ⟨x, hx, ex⟩ := h3 (j - 1) (by omega) (by omega)
          refine ⟨x, hx, ?_⟩
          rw [ex, e, ← ey, getElem!_pos d (j - 1) (by omega)]
        · exact h3 j hj (by omega)
      · intro x hx _
        rw [Nat.add_sub_cancel, eK, e, ← ey]
        exact h4 x hx h0
theorem kpt_rs {w : World} {S : Nat → Prop} {d : Array (PC w S)} {l : List (List El)} (hs : d.toList.Pairwise (fun a b => ¬ lexL oeE b.p a.p < 0)) (hp : ∀ p ∈ l, pathB p = true) (hm : ∀ p, p ∈ d.toList.map PC.p ↔ p ∈ l) : Rs l ((kpt reqB d d.size).map PC.p) := by
  obtain ⟨h1, h2, h3, _⟩ := kpt_rise hs (fun x hx => hp _ ((hm _).1 (List.mem_map_of_mem hx))) d.size (Nat.le_refl _)
  refine ⟨List.pairwise_map.2 h1, fun p => ⟨fun h => ?_, fun h => ?_⟩⟩
  · obtain ⟨x, hx, rfl⟩ := List.mem_map.1 h
    exact (hm _).1 (List.mem_map_of_mem (h2 x hx))
  · obtain ⟨x, hx, rfl⟩ := List.mem_map.1 ((hm p).2 h)
    obtain ⟨j, hj, rfl⟩ := List.getElem_of_mem hx
    obtain ⟨y, hy, ey⟩ := h3 j (by simpa using hj) (by simpa using hj)
    exact List.mem_map.2 ⟨y, hy, by rw [ey]; rfl⟩
end Go.Proofs.YtfekgeaopchilaaGreatDoor
