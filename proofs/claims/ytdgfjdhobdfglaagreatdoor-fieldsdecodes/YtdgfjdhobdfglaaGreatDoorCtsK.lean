import Derived.Test.YtdgfjdhobdfglaaGreatDoorG32
set_option linter.unusedSimpArgs false
set_option linter.unusedVariables false
set_option maxRecDepth 100000
set_option maxHeartbeats 64000000
namespace Go.Proofs.YtdgfjdhobdfglaaGreatDoor
open Go.RowKit Go.Lib
theorem dotK : (⟨#[46]⟩ : ByteArray).toList = [46] := by simp [ByteArray.toList, ByteArray.toList.loop, ByteArray.get!, ByteArray.size]
theorem hd_addM {a : Option Addr} {n c b o i k t : Nat} (h : Headed a n c b o) (hit : i <= t) (htn : t <= n) (hc : ¬ c = i) : Headed (a.map (fun x : Addr => x.add (i * k))) (t - i) (c - i) b (o + i * k) := by
 have hle := h.le
 have hmx := h.max
 refine ⟨by omega, by omega, ?_, ?_⟩
 ·rcases h.at_ with e | e
  ·exact .inl (by omega)
  ·exact .inr (by rw [e, Option.map_some, Go.WideShapes.add_plain])
 ·intro e
  have e2 : a = none := by simpa using e
  have := h.nil e2
  omega
theorem slM1 (a : Option Addr) (n c b o : Nat) (h : Headed a (n + 1) c b o) : ∃ a' c', (∀ W, (Instr.slice 23 (.slice a (n + 1) c) (some (.int .i64 1)) none none).run Tryz.prog W = .ok (.slice a' n c') W) /\ Headed a' n c' b (o + 7) := by
 have hle := h.le
 have hmx := h.max
 have h2 : (1 : Int) <= (n : Int) + 1 := by omega
 have h3 : (n : Int) + 1 <= c := by omega
 by_cases hc : c = 1
 ·refine ⟨a, 0, fun W => ?_, ⟨by omega, Nat.zero_le _, .inl (by omega), fun _ => rfl⟩⟩
  obtain rfl : n = 0 := by omega
  subst hc
  go_simp
 ·refine ⟨a.map (fun x : Addr => x.add (1 * 7)), c - 1, fun W => ?_, hd_addM (k := 7) h (by omega) (Nat.le_refl _) hc⟩
  go_simp
  all_goals (try (first | rfl | omega))
def CtPost (m : List Mem) (S : Nat -> Prop) (w : World) (e : Ending) (w' : World) : Prop :=
 Below w.heap.size w w' /\ ∃ a c b o, e = .returned (.tuple #[.bool (cutF m).1, .slice a (cutF m).2.1.length c, .bool (cutF m).2.2]) /\ Headed a (cutF m).2.1.length c b o /\ liesM false w' S (cutF m).2.1 b o
theorem cuts_any (m : List Mem) (S : Nat -> Prop) (am : Option Addr) (cm bm om : Nat) (w : World) (ham : Headed am m.length cm bm om) (hm : liesM false w S m bm om) (hS : ∀ b, S b -> b < w.heap.size) :
 Calls Tryz.prog 20 #[.slice am m.length cm] w (CtPost m S w) := by
 cases m with
 | nil =>
  have HM := hmk hm
  clear hm
  go_enter Tryz.func20, Tryz.ntmps20
  go_wp2_with fail
  go_ret3
  exact ⟨Below.refl _ _, am, cm, bm, om, rfl, ham, HM.out⟩
 | cons y t =>
  obtain ⟨key, x⟩ := y
  have hml : t.length + 1 <= 9223372036854775807 := by have := Nat.le_trans ham.le ham.max; simpa [maxLen] using this
  have hcm : cm <= 9223372036854775807 := ham.max
  have hle : t.length + 1 <= cm := by simpa using ham.le
  obtain rfl : am = some ⟨bm, om, none⟩ := ham.at_.resolve_left (by simp)
  have HM := hmk hm
  rw [liesM] at hm
  obtain ⟨hSb, ⟨hks, cs, hrow, hlx⟩, ht⟩ := hm
  have HT := hmk ht
  have HX := hmk hlx
  obtain ⟨xk, xb, xi, xs, xl, xm⟩ := x
  rw [V.lies] at hlx
  obtain ⟨xal, xcl, xbl, xol, xam, xcm, xbm, xom, rfl, _⟩ := hlx
  obtain ⟨q, q0, q1, q2, q3, q4, q5⟩ := row7 hrow
  have y0 : ¬ ((t.length : Int) + 1 = 0) := by omega
  by_cases hk : key.toList = [46]
  case neg =>
   have yK : (key.toList == [46]) = false := by rw [beq_eq_false_iff_ne]; exact hk
   have yK2 : (key.toList == (⟨#[46]⟩ : ByteArray).toList) = false := by rw [dotK]; exact yK
   have HC : Hid (cutF ((key, .mk xk xb xi xs xl xm) :: t) = (false, (key, .mk xk xb xi xs xl xm) :: t, true)) := by show _ = _; rw [cutF, if_neg hk]
   unfold CtPost
   rw [HC.out]
   clear ht hrow
   go_enter Tryz.func20, Tryz.ntmps20
   go_wp2_with fail
   go_ret3
   exact ⟨Below.refl _ _, _, cm, bm, om, rfl, ham, HM.out⟩
  have yK : (key.toList == [46]) = true := by rw [beq_iff_eq]; exact hk
  have yK2 : (key.toList == (⟨#[46]⟩ : ByteArray).toList) = true := by rw [dotK]; exact yK
  have HC : Hid (cutF ((key, .mk xk xb xi xs xl xm) :: t) = (true, t, decide (xk = 5) && decide (xm.length = 0))) := by show _ = _; rw [cutF, if_pos hk]; rfl
  have B1 : Below w.heap.size w (w.alloc (.cells #[.int .i64 xk, .bool xb, .int .i64 xi, .string xs, .slice xal xl.length xcl, .slice xam xm.length xcm] 25)) := (Below.refl _ _).alloc (Nat.le_refl _) _
  have hxb := box_row w [.int .i64 xk, .bool xb, .int .i64 xi, .string xs, .slice xal xl.length xcl, .slice xam xm.length xcm] 25
  have hza := alloc_size w (.cells #[.int .i64 xk, .bool xb, .int .i64 xi, .string xs, .slice xal xl.length xcl, .slice xam xm.length xcm] 25)
  clear ht hrow HX
  generalize hvv : (V.mk xk xb xi xs xl xm) = vv at *
  clear hvv
  go_enter Tryz.func20, Tryz.ntmps20
  go_wp2_with fail
  clear q q0 q1 q2 q3 q4 q5
  generalize w.alloc (.cells #[.int .i64 xk, .bool xb, .int .i64 xi, .string xs, .slice xal xl.length xcl, .slice xam xm.length xcm] 25) = w1 at *
  obtain ⟨a', c', hsl, hh'⟩ := slM1 _ t.length cm bm om ham
  have HH := hmk hh'
  have HTT := hmk (liesM_keep (S' := S) (fun h => h) (fun x hx => B1.block x (hS x hx)) (fun _ h => h) _ HT.out)
  obtain ⟨d0, d1, d2, d3, d4, d5⟩ := row6z hxb
  have x0 : ∀ x : Sub w1.heap.size w1, _ := sub_cell d0 (by omega)
  have x5 : ∀ x : Sub w1.heap.size w1, _ := sub_cell d5 (by omega)
  clear d0 d1 d2 d3 d4 d5 hxb HM HT hh'
  generalize xm.length = xn at *
  by_cases h5 : xk = 5
  ·subst h5
   by_cases h0 : xn = 0
   ·subst h0
    refine wp_region_sub w1.heap.size (by kernel_rfl) (by kernel_rfl) ?_
    repeat (go_big_quiet_step (fail))
    refine wpQuiet_nil ?_
    rintro wq ⟨⟨wq', bq⟩, hq⟩
    have hq' : wq = wq' := hq
    subst hq'
    clear hq
    go_wp2_with fail
    go_ret3
    refine ⟨B1.trans (bq.mono (by omega)), ?_⟩
    rw [HC.out]
    exact ⟨a', c', bm, om + 7, rfl, HH.out, liesM_keep (fun h => h) (fun x hx => bq.block x (by have := hS x hx; omega)) (fun _ h => h) _ HTT.out⟩
   ·have y5 : ¬ (xn : Int) = 0 := by omega
    have e5 : decide (xn = 0) = false := decide_eq_false h0
    have yb : ((xn : Int) == 0) = false := by rw [beq_eq_false_iff_ne]; exact y5
    refine wp_region_sub w1.heap.size (by kernel_rfl) (by kernel_rfl) ?_
    repeat (go_big_quiet_step (fail))
    refine wpQuiet_nil ?_
    rintro wq ⟨⟨wq', bq⟩, hq⟩
    have hq' : wq = wq' := hq
    subst hq'
    clear hq
    go_wp2_with fail
    go_ret3
    refine ⟨B1.trans (bq.mono (by omega)), ?_⟩
    rw [HC.out]
    exact ⟨a', c', bm, om + 7, by rw [e5]; rfl, HH.out, liesM_keep (fun h => h) (fun x hx => bq.block x (by have := hS x hx; omega)) (fun _ h => h) _ HTT.out⟩
  ·have e5 : decide (xk = 5) = false := decide_eq_false h5
   have yb : (xk == 5) = false := by rw [beq_eq_false_iff_ne]; exact h5
   ·skip
    refine wp_region_sub w1.heap.size (by kernel_rfl) (by kernel_rfl) ?_
    repeat (go_big_quiet_step (fail))
    refine wpQuiet_nil ?_
    rintro wq ⟨⟨wq', bq⟩, hq⟩
    have hq' : wq = wq' := hq
    subst hq'
    clear hq
    go_wp2_with fail
    go_ret3
    refine ⟨B1.trans (bq.mono (by omega)), ?_⟩
    rw [HC.out]
    exact ⟨a', c', bm, om + 7, by rw [e5]; rfl, HH.out, liesM_keep (fun h => h) (fun x hx => bq.block x (by have := hS x hx; omega)) (fun _ h => h) _ HTT.out⟩
end Go.Proofs.YtdgfjdhobdfglaaGreatDoor
