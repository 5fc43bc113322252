/- joined: RfE SizA KmbP -/
import Derived.Test.YtdgfjdhobdfglaaGreatDoorRfD
set_option linter.unusedSimpArgs false
set_option linter.unusedVariables false
set_option maxRecDepth 100000
namespace Go.Proofs.YtdgfjdhobdfglaaGreatDoor
open Go.RowKit Go.Lib
set_option maxHeartbeats 8000000 in
theorem rcheck_wide (R : Bool) (v : V) (depth : Int) (S : Nat -> Prop) (cs : List Value) (w : World) (hl : v.lies R w S cs) (hS : ∀ b, S b -> b < w.heap.size) (hwt : v.wt <= 281474976710656) :
 Calls Tryz.prog 14 #[.agg cs.toArray, .int .i64 depth] w (NPost (chkE v depth) w) := by
 obtain ⟨k, b, i, s, al, nl, cl, am, nm, cm, rfl⟩ := V.ten hl
 by_cases h1 : depth < 0
 ·have HF : Hid (chkE v depth = 2) := by show _ = _; simp [chkE, h1]
  go_enter Tryz.func14, Tryz.ntmps14
  go_wp2_with fail
  go_ret
  rw [HF.out]
  exact ⟨rfl, (Below.refl _ _).alloc (Nat.le_refl _) _⟩
 by_cases h2 : 40 < depth
 ·have HF : Hid (chkE v depth = 2) := by show _ = _; simp [chkE, h2]
  go_enter Tryz.func14, Tryz.ntmps14
  go_wp2_with fail
  go_ret
  rw [HF.out]
  exact ⟨rfl, (Below.refl _ _).alloc (Nat.le_refl _) _⟩
 obtain ⟨D, rfl⟩ : ∃ D : Nat, depth = (D : Int) := ⟨depth.toNat, by omega⟩
 have hD : D <= 40 := by omega
 have HF : Hid (chkE v (D : Int) = (chkV D v 0 (0, 0, 0)).1) := by show _ = _; rw [chkE, if_neg (by omega)]; rfl
 have ga : w.grownBy (w.alloc (.cells #[.int .i64 k, .bool b, .int .i64 i, .string s, .slice al nl cl, .slice am nm cm] 25)) none := World.grownBy_alloc _ _ _
 have c := rwalk_wide v R D 0 0 0 0 S _ _ (V.lies_keep (fun h => h) (fun x hx => ga.block x (hS x hx) (by simp)) (fun _ h => h) _ hl) (fun x hx => Nat.lt_of_lt_of_le (hS x hx) ga.size) hwt ⟨by simp, by simp, by simp⟩ hD (by omega)
 go_enter Tryz.func14, Tryz.ntmps14
 go_wp2_with fail
 refine c.mono ?_
 rintro e w1 ⟨a, d, rfl, _, b1⟩
 go_wp2_with fail
 go_ret
 rw [HF.out]
 exact ⟨rfl, (below_of_grown ga).trans ((b1.mono ga.size).alloc (by have := b1.size; have := ga.size; omega) _)⟩
theorem rcheck_any (R : Bool) (v : V) (depth : Int) (S : Nat -> Prop) (cs : List Value) (w : World) (hl : v.lies R w S cs) (hS : ∀ b, S b -> b < w.heap.size) (hwt : v.wt <= 1099511627776) :
 Calls Tryz.prog 14 #[.agg cs.toArray, .int .i64 depth] w (NPost (chkE v depth) w) := rcheck_wide R v depth S cs w hl hS (by omega)
end Go.Proofs.YtdgfjdhobdfglaaGreatDoor
set_option maxRecDepth 100000
set_option maxHeartbeats 64000000
namespace Go.Proofs.YtdgfjdhobdfglaaGreatDoor
open Go.RowKit Go.Lib
def okV (v : V) : Bool := decide ((chkV 40 v 0 (0, 0, 0)).1 = 0)
def kindOf : V -> Int
 | .mk k _ _ _ _ _ => k
def sizS (v : V) : Bool := okV v && (decide (1 <= kindOf v) && decide (kindOf v <= 3))
theorem chkE40 (v : V) : chkE v 40 = (chkV 40 v 0 (0, 0, 0)).1 := by rw [chkE, if_neg (by omega)]; rfl
theorem okV_true {v : V} (h : okV v = true) : (chkV 40 v 0 (0, 0, 0)).1 = 0 := of_decide_eq_true h
theorem taken_any (R : Bool) (v : V) (S : Nat -> Prop) (cs : List Value) (w : World) (t : Tb w) (hl : v.lies R w S cs) (hS : ∀ b, S b -> b < w.heap.size) (hwt : v.wt <= 1099511627776) :
 Calls Tryz.prog 125 #[.agg cs.toArray] w (BPost (okV v) w) := by
 obtain ⟨k, b, i, s, al, nl, cl, am, nm, cm, rfl⟩ := V.ten hl
 have ga : w.grownBy (w.alloc (.cells #[.int .i64 k, .bool b, .int .i64 i, .string s, .slice al nl cl, .slice am nm cm] 25)) none := World.grownBy_alloc _ _ _
 have c := check_any R v 40 S _ _ (t.grown ga (fun r e => by cases e)) (V.lies_keep (fun h => h) (fun x hx => ga.block x (hS x hx) (by simp)) (fun _ h => h) _ hl) (fun x hx => Nat.lt_of_lt_of_le (hS x hx) ga.size) hwt
 rw [chkE40] at c
 have HF : Hid (okV v = ((((chkV 40 v 0 (0, 0, 0)).1 : Nat) : Int) == 0)) := by
  show _ = _
  rw [okV, Bool.eq_iff_iff, decide_eq_true_iff, beq_iff_eq]
  omega
 generalize (chkV 40 v 0 (0, 0, 0)).1 = z at *
 go_enter Tryz.func125, Tryz.ntmps125
 go_wp2_with fail
 refine c.mono ?_
 rintro e w1 ⟨rfl, b1⟩
 go_wp2_with fail
 go_ret
 refine ⟨?_, (below_of_grown ga).trans (b1.mono ga.size)⟩
 rw [HF.out]
 rfl
theorem rtaken_any (R : Bool) (v : V) (S : Nat -> Prop) (cs : List Value) (w : World) (hl : v.lies R w S cs) (hS : ∀ b, S b -> b < w.heap.size) (hwt : v.wt <= 1099511627776) :
 Calls Tryz.prog 85 #[.agg cs.toArray] w (BPost (okV v) w) := by
 obtain ⟨k, b, i, s, al, nl, cl, am, nm, cm, rfl⟩ := V.ten hl
 have ga : w.grownBy (w.alloc (.cells #[.int .i64 k, .bool b, .int .i64 i, .string s, .slice al nl cl, .slice am nm cm] 25)) none := World.grownBy_alloc _ _ _
 have c := rcheck_any R v 40 S _ _ (V.lies_keep (fun h => h) (fun x hx => ga.block x (hS x hx) (by simp)) (fun _ h => h) _ hl) (fun x hx => Nat.lt_of_lt_of_le (hS x hx) ga.size) hwt
 rw [chkE40] at c
 have HF : Hid (okV v = ((((chkV 40 v 0 (0, 0, 0)).1 : Nat) : Int) == 0)) := by
  show _ = _
  rw [okV, Bool.eq_iff_iff, decide_eq_true_iff, beq_iff_eq]
  omega
 generalize (chkV 40 v 0 (0, 0, 0)).1 = z at *
 go_enter Tryz.func85, Tryz.ntmps85
 go_wp2_with fail
 refine c.mono ?_
 rintro e w1 ⟨rfl, b1⟩
 go_wp2_with fail
 go_ret
 refine ⟨?_, (below_of_grown ga).trans (b1.mono ga.size)⟩
 rw [HF.out]
 rfl
theorem scalar_any (R : Bool) (v : V) (S : Nat -> Prop) (cs : List Value) (w : World) (t : Tb w) (hl : v.lies R w S cs) (hS : ∀ b, S b -> b < w.heap.size) (hwt : v.wt <= 1099511627776) :
 Calls Tryz.prog 97 #[.agg cs.toArray] w (BPost (sizS v) w) := by
 have hl0 := hl
 obtain ⟨k, b, i, s, l, m⟩ := v
 rw [V.lies] at hl
 obtain ⟨al, cl, bl, ol, am, cm, bm, om, rfl, hk, hi, hs, hal, ham, _⟩ := hl
 have ga : w.grownBy (w.alloc (.cells #[.int .i64 k, .bool b, .int .i64 i, .string s, .slice al l.length cl, .slice am m.length cm] 25)) none := World.grownBy_alloc _ _ _
 have c := taken_any R _ S _ _ (t.grown ga (fun r e => by cases e)) (V.lies_keep (fun h => h) (fun x hx => ga.block x (hS x hx) (by simp)) (fun _ h => h) _ hl0) (fun x hx => Nat.lt_of_lt_of_le (hS x hx) ga.size) hwt
 clear hl0 hwt
 by_cases h3 : k = 1 \/ k = 2 \/ k = 3
 ·have HF : Hid (sizS (V.mk k b i s l m) = okV (V.mk k b i s l m)) := by
   show _ = _
   rw [sizS, kindOf, decide_eq_true (show 1 <= k by omega), decide_eq_true (show k <= 3 by omega)]; simp
  generalize okV (V.mk k b i s l m) = z at *
  rcases h3 with rfl | rfl | rfl
  all_goals
   go_enter Tryz.func97, Tryz.ntmps97
   go_wp2_with fail
   refine c.mono ?_
   rintro e w1 ⟨rfl, b1⟩
   go_wp2_with fail
   go_ret
   rw [HF.out]
   exact ⟨rfl, (below_of_grown ga).trans (b1.mono ga.size)⟩
 ·have HF : Hid (sizS (V.mk k b i s l m) = false) := by
   show _ = _
   rw [sizS, kindOf]
   by_cases h1 : 1 <= k
   ·rw [decide_eq_false (show ¬ k <= 3 by omega)]; simp
   ·rw [decide_eq_false h1]; simp
  have y1 : ¬ k = 1 := by omega
  have y2 : ¬ k = 2 := by omega
  have y3 : ¬ k = 3 := by omega
  clear c
  go_enter Tryz.func97, Tryz.ntmps97
  go_wp2_with fail
  go_ret
  rw [HF.out]
  exact ⟨rfl, below_of_grown ga⟩
theorem rscal_any (R : Bool) (v : V) (S : Nat -> Prop) (cs : List Value) (w : World) (hl : v.lies R w S cs) (hS : ∀ b, S b -> b < w.heap.size) (hwt : v.wt <= 1099511627776) :
 Calls Tryz.prog 57 #[.agg cs.toArray] w (BPost (sizS v) w) := by
 have hl0 := hl
 obtain ⟨k, b, i, s, l, m⟩ := v
 rw [V.lies] at hl
 obtain ⟨al, cl, bl, ol, am, cm, bm, om, rfl, hk, hi, hs, hal, ham, _⟩ := hl
 have hb0 := box_row w [.int .i64 k, .bool b, .int .i64 i, .string s, .slice al l.length cl, .slice am m.length cm] 25
 have hz0 := alloc_size w (.cells #[.int .i64 k, .bool b, .int .i64 i, .string s, .slice al l.length cl, .slice am m.length cm] 25)
 have ga : w.grownBy (w.alloc (.cells #[.int .i64 k, .bool b, .int .i64 i, .string s, .slice al l.length cl, .slice am m.length cm] 25)) none := World.grownBy_alloc _ _ _
 have c := rtaken_any R _ S _ _ (V.lies_keep (fun h => h) (fun x hx => ga.block x (hS x hx) (by simp)) (fun _ h => h) _ hl0) (fun x hx => Nat.lt_of_lt_of_le (hS x hx) ga.size) hwt
 have HF : Hid (sizS (V.mk k b i s l m) = (okV (V.mk k b i s l m) && (decide (1 <= k) && decide (k <= 3)))) := rfl
 have BA := below_of_grown ga
 clear hl0 ga hwt
 generalize okV (V.mk k b i s l m) = z at *
 go_enter Tryz.func57, Tryz.ntmps57
 go_wp2_with fail
 generalize (w.alloc (.cells #[.int .i64 k, .bool b, .int .i64 i, .string s, .slice al l.length cl, .slice am m.length cm] 25)) = w0 at *
 refine c.mono ?_
 rintro e w1 ⟨rfl, b1⟩
 have hz1 := b1.size
 obtain ⟨d0, d1, d2, d3, d4, d5⟩ := row6z (hb0.keep (b1.block _ (by omega)))
 cases z with
 | false =>
  go_wp2_with fail
  go_ret
  rw [HF.out]
  exact ⟨by simp, BA.trans (b1.mono (by omega))⟩
 | true =>
  by_cases h1 : 1 <= k
  ·have y1 : k ≥ 1 := h1
   by_cases h2 : k <= 3
   ·go_wp2_with fail
    go_ret
    rw [HF.out]
    exact ⟨by simp [h1, h2], BA.trans (b1.mono (by omega))⟩
   ·go_wp2_with fail
    go_ret
    rw [HF.out]
    exact ⟨by simp [h1, h2], BA.trans (b1.mono (by omega))⟩
  ·have y1 : ¬ k ≥ 1 := h1
   go_wp2_with fail
   go_ret
   rw [HF.out]
   exact ⟨by simp; omega, BA.trans (b1.mono (by omega))⟩
end Go.Proofs.YtdgfjdhobdfglaaGreatDoor
set_option maxRecDepth 100000
set_option maxHeartbeats 64000000
namespace Go.Proofs.YtdgfjdhobdfglaaGreatDoor
open Go.RowKit Go.Lib
def nilB (k : Int) (b : Bool) (i : Int) (s : ByteArray) (nl nm : Nat) : Bool := decide (k = 0 /\ b = false /\ i = 0 /\ s.toList = [] /\ nl = 0 /\ nm = 0)
def nilV : V -> Bool
 | .mk k b i s l m => nilB k b i s l.length m.length
theorem nothing_any (k : Int) (b : Bool) (i : Int) (s : ByteArray) (al : Option Addr) (nl cl : Nat) (am : Option Addr) (nm cm : Nat) (w : World) :
 Calls Tryz.prog 94 #[.agg #[.int .i64 k, .bool b, .int .i64 i, .string s, .slice al nl cl, .slice am nm cm]] w (BPost (nilB k b i s nl nm) w) := by
 go_enter Tryz.func94, Tryz.ntmps94
 go_wp2
 all_goals go_ret
 all_goals refine ⟨?_, (Below.refl _ _).alloc (Nat.le_refl _) _⟩
 all_goals show Ending.returned (Value.bool _) = Ending.returned (Value.bool _)
 all_goals refine congrArg (fun r => Ending.returned (Value.bool r)) ?_
 all_goals rw [Bool.eq_iff_iff]
 all_goals simp_all [nilB]
theorem rnull_any (k : Int) (b : Bool) (i : Int) (s : ByteArray) (al : Option Addr) (nl cl : Nat) (am : Option Addr) (nm cm : Nat) (w : World) :
 Calls Tryz.prog 56 #[.agg #[.int .i64 k, .bool b, .int .i64 i, .string s, .slice al nl cl, .slice am nm cm]] w (BPost (nilB k b i s nl nm) w) := by
 go_enter Tryz.func56, Tryz.ntmps56
 go_wp2
 all_goals go_ret
 all_goals refine ⟨?_, (Below.refl _ _).alloc (Nat.le_refl _) _⟩
 all_goals show Ending.returned (Value.bool _) = Ending.returned (Value.bool _)
 all_goals refine congrArg (fun r => Ending.returned (Value.bool r)) ?_
 all_goals rw [Bool.eq_iff_iff]
 all_goals simp_all [nilB]
theorem qvalid_any (s : ByteArray) (w : World) (tb : Tb w) (hs : s.size <= 281474976710656) : Calls Tryz.prog 95 #[.string s] w (BPost (utfB s) w) := by
 have c := hmk (validString_any s w hs tb.u)
 go_enter Tryz.func95, Tryz.ntmps95
 go_wp2_with fail
 refine c.out.mono ?_
 rintro e w1 ⟨rfl, b1⟩
 go_wp2_with fail
 go_ret
 exact ⟨rfl, b1⟩
def valAt (l : List Mem) (j : Nat) : V := match l[j]? with | some x => x.2 | none => .mk 0 false 0 ⟨#[]⟩ [] []
theorem valAt_eq {l : List Mem} {j : Nat} (h : j < l.length) : valAt l j = (l[j]).2 := by simp [valAt, h]
def okK (l : List Mem) (j : Nat) : Bool := okAt l j && sizS (valAt l j)
def keysB (l : List Mem) : Bool := decide (1 <= l.length /\ l.length <= 8) && (List.range l.length).all (okK l)
theorem keysB_true {l : List Mem} (h1 : 1 <= l.length /\ l.length <= 8) (h : ∀ j, j < l.length -> okK l j = true) : keysB l = true := by
 rw [keysB, decide_eq_true h1]; simp only [Bool.true_and, List.all_eq_true, List.mem_range]; exact h
theorem keysB_false {l : List Mem} {j : Nat} (hj : j < l.length) (h : okK l j = false) : keysB l = false := by
 have : (List.range l.length).all (okK l) = false := by rw [List.all_eq_false]; exact ⟨j, by simpa using hj, by simp [h]⟩
 rw [keysB, this]; simp
theorem keysB_len {l : List Mem} (h1 : ¬ (1 <= l.length /\ l.length <= 8)) : keysB l = false := by rw [keysB, decide_eq_false h1]; rfl
theorem keymay_any (l : List Mem) (am : Option Addr) (cm bm om : Nat) (S : Nat -> Prop) (w : World) (t : Tb w) (ham : Headed am l.length cm bm om) (hl : liesM false w S l bm om) (hS : ∀ b, S b -> b < w.heap.size) (hwt : wtM l <= 2147483647) :
 Calls Tryz.prog 96 #[.slice am l.length cm] w (BPost (keysB l) w) := by
 have HL := hmk hl
 clear hl
 by_cases h18 : 1 <= l.length /\ l.length <= 8
 case neg =>
  have HF := hmk (keysB_len h18)
  by_cases h0 : l.length = 0
  focus
   have y0 : ((l.length : Int) == 0) = true := by rw [h0]; rfl
  rotate_left 1
  focus
   have y0 : ((l.length : Int) == 0) = false := by rw [beq_eq_false_iff_ne]; omega
   have y1 : (8 : Int) < l.length := by omega
  rotate_left 1
  all_goals
   go_enter Tryz.func96, Tryz.ntmps96
   go_wp2_with fail
   go_ret
   exact ⟨by rw [HF.out]; rfl, Below.refl _ _⟩
 have y0 : ((l.length : Int) == 0) = false := by rw [beq_eq_false_iff_ne]; omega
 have y01 : ¬ (8 : Int) < l.length := by omega
 have H18 := hmk h18
 clear h18
 have hlen := wtM_len l
 go_enter Tryz.func96, Tryz.ntmps96
 go_wp2_with fail
 go_loopw [15] (fun e wr => ∃ j : Nat, j <= l.length /\ e = .int .i64 (j : Int) /\ Below w.heap.size w wr /\ Hid (∀ q, q < j -> okK l q = true)) (fun e _ => l.length - (RowKit.intOf e).toNat)
 case atStart => exact ⟨0, by omega, rfl, Below.refl _ _, fun q hq => by omega⟩
 case round =>
  obtain ⟨j, hj, rfl, bj, ok⟩ := hrel
  by_cases hjl : j < l.length
  ·have y1 : (j : Int) < l.length := by omega
   obtain ⟨hSb, hks, csj, hrow, hlj⟩ := liesM_get HL.out j hjl
   obtain rfl : am = some ⟨bm, om, none⟩ := ham.at_.resolve_left (by omega)
   have hrow' := hrow.keep (bj.block _ (hS _ hSb))
   have hlj' := V.lies_keep (R' := false) (S' := S) (fun h => h) (fun b hb => bj.block b (hS b hb)) (fun _ h => h) _ hlj
   obtain ⟨ek, eb, ei, es, eal, enl, ecl, eam, enm, ecm, rfl⟩ := V.ten hlj
   obtain ⟨q, q0, q1, q2, q3, q4, q5⟩ := row7 hrow'
   clear hlj hrow hrow'
   have hkz : (l[j]).1.size <= 281474976710656 /\ (l[j]).2.wt <= 1099511627776 := by have := wtM_mem (List.getElem_mem hjl); omega
   have HK : Hid (keyAt l j = (l[j]).1) := keyAt_eq hjl
   have HVA : Hid (valAt l j = (l[j]).2) := valAt_eq hjl
   generalize (l[j]).1 = key at *
   generalize (l[j]).2 = xv at *
   have tj : Tb wr := t.below bj (by have := t.z; omega)
   have hz : wr.heap.size ≥ w.heap.size := bj.size
   let oB : Obj := .cells #[.string key, .int .i64 ek, .bool eb, .int .i64 ei, .string es, .slice eal enl ecl, .slice eam enm ecm] 40
   have hzo : (wr.alloc oB).heap.size = wr.heap.size + 1 := alloc_size wr oB
   have C31 : Hid (∀ x : Sub (wr.heap.size + 1) (wr.alloc oB), Calls Tryz.prog 95 #[.string key] x.w fun e w'' => e = .returned (.bool (utfB key)) /\ ∃ y : Sub (wr.heap.size + 1) (wr.alloc oB), w'' = y.w) :=
    sub_call fun w' hb => by
     have t1 : Tb w' := (tj.grown (World.grownBy_alloc wr oB none) (fun r e => by cases e)).below hb (by have := tj.z; omega)
     exact (qvalid_any key w' t1 hkz.1).mono fun e w'' ⟨he, h2⟩ => ⟨he, hb.trans (h2.mono (by rw [<- hzo]; exact hb.size))⟩
   have C33 : Hid (∀ x : Sub (wr.heap.size + 1) (wr.alloc oB), Calls Tryz.prog 97 #[.agg #[.int .i64 ek, .bool eb, .int .i64 ei, .string es, .slice eal enl ecl, .slice eam enm ecm]] x.w fun e w'' => e = .returned (.bool (sizS xv)) /\ ∃ y : Sub (wr.heap.size + 1) (wr.alloc oB), w'' = y.w) :=
    sub_call fun w' hb => by
     have t1 : Tb w' := (tj.grown (World.grownBy_alloc wr oB none) (fun r e => by cases e)).below hb (by have := tj.z; omega)
     have hbs := hb.size
     exact (scalar_any false xv S _ w' t1 (V.lies_keep (fun h => h) (fun b hb' => (hb.block b (by have := hS b hb'; omega)).trans (Below.heap_alloc wr oB b (by have := hS b hb'; omega))) (fun _ h => h) _ hlj') (fun b hb' => by have := hS b hb'; omega) hkz.2).mono fun e w'' ⟨he, h2⟩ => ⟨he, hb.trans (h2.mono (by rw [<- hzo]; exact hb.size))⟩
   have x0 : ∀ x : Sub (wr.heap.size + 1) (wr.alloc oB), _ := sub_cell (box_row wr [.string key, .int .i64 ek, .bool eb, .int .i64 ei, .string es, .slice eal enl ecl, .slice eam enm ecm] 40 0 _ rfl) (by omega)
   have x1 : ∀ x : Sub (wr.heap.size + 1) (wr.alloc oB), _ := sub_cell (box_row wr [.string key, .int .i64 ek, .bool eb, .int .i64 ei, .string es, .slice eal enl ecl, .slice eam enm ecm] 40 1 _ rfl) (by omega)
   have x2 : ∀ x : Sub (wr.heap.size + 1) (wr.alloc oB), _ := sub_cell (box_row wr [.string key, .int .i64 ek, .bool eb, .int .i64 ei, .string es, .slice eal enl ecl, .slice eam enm ecm] 40 2 _ rfl) (by omega)
   have x3 : ∀ x : Sub (wr.heap.size + 1) (wr.alloc oB), _ := sub_cell (box_row wr [.string key, .int .i64 ek, .bool eb, .int .i64 ei, .string es, .slice eal enl ecl, .slice eam enm ecm] 40 3 _ rfl) (by omega)
   have x4 : ∀ x : Sub (wr.heap.size + 1) (wr.alloc oB), _ := sub_cell (box_row wr [.string key, .int .i64 ek, .bool eb, .int .i64 ei, .string es, .slice eal enl ecl, .slice eam enm ecm] 40 4 _ rfl) (by omega)
   have x5 : ∀ x : Sub (wr.heap.size + 1) (wr.alloc oB), _ := sub_cell (box_row wr [.string key, .int .i64 ek, .bool eb, .int .i64 ei, .string es, .slice eal enl ecl, .slice eam enm ecm] 40 5 _ rfl) (by omega)
   have x6 : ∀ x : Sub (wr.heap.size + 1) (wr.alloc oB), _ := sub_cell (box_row wr [.string key, .int .i64 ek, .bool eb, .int .i64 ei, .string es, .slice eal enl ecl, .slice eam enm ecm] 40 6 _ rfl) (by omega)
   simp only [Nat.zero_add] at x0 x1 x2 x3 x4 x5 x6
   have hback : ∀ wq, Below (wr.heap.size + 1) (wr.alloc oB) wq -> Below w.heap.size w wq := fun wq h => (bj.alloc (by omega) oB).trans (h.mono (by omega))
   clear hlj' hkz
   by_cases hj0 : j = 0
   ·have yj : decide ((0 : Int) < (j : Int)) = false := by simp [hj0]
    have yk : decide (0 < j) = false := by simp [hj0]
    have HJ := hmk hj0
    clear hj0
    cases hV : utfB key with
    | false =>
     have C31b : Hid (∀ x : Sub (wr.heap.size + 1) (wr.alloc oB), Calls Tryz.prog 95 #[.string key] x.w fun e w'' => e = .returned (.bool false) /\ ∃ y : Sub (wr.heap.size + 1) (wr.alloc oB), w'' = y.w) := by rw [<- hV]; exact C31.out
     have HW : Hid (okK l j = false) := by show _ = _; simp [okK, okAt, HK.out, hV]
     clear hV
     go_wp2_with fail
     refine wp_region_sub (wr.heap.size + 1) (by kernel_rfl) (by kernel_rfl) ?_
     repeat (go_big_quiet_step (first | exact C31b.out _))
     refine wpQuiet_nil ?_
     rintro wq ⟨⟨wq', bq⟩, hq⟩
     have hq' : wq = wq' := hq
     subst hq'
     clear hq
     have HB := hmk (hback _ bq)
     go_wp2_with fail
     go_ret
     exact ⟨by rw [keysB_false hjl HW.out]; rfl, HB.out⟩
    | true =>
     have C31b : Hid (∀ x : Sub (wr.heap.size + 1) (wr.alloc oB), Calls Tryz.prog 95 #[.string key] x.w fun e w'' => e = .returned (.bool true) /\ ∃ y : Sub (wr.heap.size + 1) (wr.alloc oB), w'' = y.w) := by rw [<- hV]; exact C31.out
     cases hZ : sizS xv with
     | false =>
      have C33b : Hid (∀ x : Sub (wr.heap.size + 1) (wr.alloc oB), Calls Tryz.prog 97 #[.agg #[.int .i64 ek, .bool eb, .int .i64 ei, .string es, .slice eal enl ecl, .slice eam enm ecm]] x.w fun e w'' => e = .returned (.bool false) /\ ∃ y : Sub (wr.heap.size + 1) (wr.alloc oB), w'' = y.w) := by rw [<- hZ]; exact C33.out
      have HW : Hid (okK l j = false) := by show _ = _; rw [okK, HVA.out, hZ]; simp
      clear hV hZ
      go_wp2_with fail
      refine wp_region_sub (wr.heap.size + 1) (by kernel_rfl) (by kernel_rfl) ?_
      repeat (go_big_quiet_step (first | exact C31b.out _ | exact C33b.out _))
      refine wpQuiet_nil ?_
      rintro wq ⟨⟨wq', bq⟩, hq⟩
      have hq' : wq = wq' := hq
      subst hq'
      clear hq
      have HB := hmk (hback _ bq)
      go_wp2_with fail
      go_ret
      exact ⟨by rw [keysB_false hjl HW.out]; rfl, HB.out⟩
     | true =>
      have C33b : Hid (∀ x : Sub (wr.heap.size + 1) (wr.alloc oB), Calls Tryz.prog 97 #[.agg #[.int .i64 ek, .bool eb, .int .i64 ei, .string es, .slice eal enl ecl, .slice eam enm ecm]] x.w fun e w'' => e = .returned (.bool true) /\ ∃ y : Sub (wr.heap.size + 1) (wr.alloc oB), w'' = y.w) := by rw [<- hZ]; exact C33.out
      have HW : Hid (okK l j = true) := by show _ = _; rw [okK, HVA.out, hZ, okAt, HK.out, hV]; simp [HJ.out]
      have HO : Hid (∀ q, q < j + 1 -> okK l q = true) := fun q hq => by
       by_cases hqj : q < j
       ·exact ok.out q hqj
       ·obtain rfl : q = j := by omega
        exact HW.out
      clear hV hZ HW
      go_wp2_with fail
      refine wp_region_sub (wr.heap.size + 1) (by kernel_rfl) (by kernel_rfl) ?_
      repeat (go_big_quiet_step (first | exact C31b.out _ | exact C33b.out _))
      refine wpQuiet_nil ?_
      rintro wq ⟨⟨wq', bq⟩, hq⟩
      have hq' : wq = wq' := hq
      subst hq'
      clear hq
      have HB := hmk (hback _ bq)
      go_wp2_with fail
      go_roundw
      case rel => exact ⟨j + 1, by omega, by go_num, HB.out, HO⟩
      case measure => simp [RowKit.intOf]; omega
   ·obtain ⟨p, rfl⟩ : ∃ p, j = p + 1 := ⟨j - 1, by omega⟩
    obtain ⟨hSb', hks', csp, hrowp, _⟩ := liesM_get HL.out p (by omega)
    have hrowp' := hrowp.keep (bj.block _ (hS _ hSb'))
    have p0 : wr.cell? ⟨bm, om + p * 7, none⟩ = some (.string (l[p]'(by omega)).1) := hrowp' 0 _ rfl
    have HP : Hid (keyAt l p = (l[p]'(by omega)).1) := keyAt_eq (by omega)
    generalize (l[p]'(by omega)).1 = prev at *
    have hbb : bm < wr.heap.size := World.block_lt_of_cell? wr _ p0
    have p1 : (wr.alloc oB).cell? ⟨bm, om + p * 7, none⟩ = some (.string prev) := (World.cell?_of_block (w := wr) (a := ⟨bm, om + p * 7, none⟩) (Below.heap_alloc wr oB bm hbb)).trans p0
    have xp : ∀ x : Sub (wr.heap.size + 1) (wr.alloc oB), x.w.cell? ⟨bm, om + p * 7, none⟩ = some (.string prev) := sub_cell p1 (by omega)
    have y2 : (p : Int) < l.length := by omega
    have y3 : decide ((0 : Int) < (p : Int) + 1) = true := by simp
    clear hrowp hrowp' p0 p1
    cases hL : Op.bytesLess prev.toList key.toList
    ·have HW : Hid (okK l (p + 1) = false) := by show _ = _; rw [okK, okAt, HK.out, Nat.add_sub_cancel, HP.out]; simp [ltB, hL]
     have C31b : Hid True := trivial
     go_wp2_with fail
     refine wp_region_sub (wr.heap.size + 1) (by kernel_rfl) (by kernel_rfl) ?_
     repeat (go_big_quiet_step (first | exact C31.out _))
     refine wpQuiet_nil ?_
     rintro wq ⟨⟨wq', bq⟩, hq⟩
     have hq' : wq = wq' := hq
     subst hq'
     clear hq
     have HB := hmk (hback _ bq)
     go_wp2_with fail
     go_ret
     exact ⟨by rw [keysB_false hjl HW.out]; rfl, HB.out⟩
    ·have HLT := hmk hL
     cases hV : utfB key with
     | false =>
      have C31b : Hid (∀ x : Sub (wr.heap.size + 1) (wr.alloc oB), Calls Tryz.prog 95 #[.string key] x.w fun e w'' => e = .returned (.bool false) /\ ∃ y : Sub (wr.heap.size + 1) (wr.alloc oB), w'' = y.w) := by rw [<- hV]; exact C31.out
      have HW : Hid (okK l (p + 1) = false) := by show _ = _; simp [okK, okAt, HK.out, hV]
      clear hV
      go_wp2_with fail
      refine wp_region_sub (wr.heap.size + 1) (by kernel_rfl) (by kernel_rfl) ?_
      repeat (go_big_quiet_step (first | exact C31b.out _))
      refine wpQuiet_nil ?_
      rintro wq ⟨⟨wq', bq⟩, hq⟩
      have hq' : wq = wq' := hq
      subst hq'
      clear hq
      have HB := hmk (hback _ bq)
      go_wp2_with fail
      go_ret
      exact ⟨by rw [keysB_false hjl HW.out]; rfl, HB.out⟩
     | true =>
      have C31b : Hid (∀ x : Sub (wr.heap.size + 1) (wr.alloc oB), Calls Tryz.prog 95 #[.string key] x.w fun e w'' => e = .returned (.bool true) /\ ∃ y : Sub (wr.heap.size + 1) (wr.alloc oB), w'' = y.w) := by rw [<- hV]; exact C31.out
      cases hZ : sizS xv with
      | false =>
       have C33b : Hid (∀ x : Sub (wr.heap.size + 1) (wr.alloc oB), Calls Tryz.prog 97 #[.agg #[.int .i64 ek, .bool eb, .int .i64 ei, .string es, .slice eal enl ecl, .slice eam enm ecm]] x.w fun e w'' => e = .returned (.bool false) /\ ∃ y : Sub (wr.heap.size + 1) (wr.alloc oB), w'' = y.w) := by rw [<- hZ]; exact C33.out
       have HW : Hid (okK l (p + 1) = false) := by show _ = _; rw [okK, HVA.out, hZ]; simp
       clear hV hZ
       go_wp2_with fail
       refine wp_region_sub (wr.heap.size + 1) (by kernel_rfl) (by kernel_rfl) ?_
       repeat (go_big_quiet_step (first | exact C31b.out _ | exact C33b.out _))
       refine wpQuiet_nil ?_
       rintro wq ⟨⟨wq', bq⟩, hq⟩
       have hq' : wq = wq' := hq
       subst hq'
       clear hq
       have HB := hmk (hback _ bq)
       go_wp2_with fail
       go_ret
       exact ⟨by rw [keysB_false hjl HW.out]; rfl, HB.out⟩
      | true =>
       have C33b : Hid (∀ x : Sub (wr.heap.size + 1) (wr.alloc oB), Calls Tryz.prog 97 #[.agg #[.int .i64 ek, .bool eb, .int .i64 ei, .string es, .slice eal enl ecl, .slice eam enm ecm]] x.w fun e w'' => e = .returned (.bool true) /\ ∃ y : Sub (wr.heap.size + 1) (wr.alloc oB), w'' = y.w) := by rw [<- hZ]; exact C33.out
       have HW : Hid (okK l (p + 1) = true) := by show _ = _; rw [okK, HVA.out, hZ, okAt, HK.out, hV]; rw [Nat.add_sub_cancel, HP.out]; simp [ltB, HLT.out]
       have HO : Hid (∀ q, q < p + 1 + 1 -> okK l q = true) := fun q hq => by
        by_cases hqj : q < p + 1
        ·exact ok.out q hqj
        ·obtain rfl : q = p + 1 := by omega
         exact HW.out
       clear hV hZ HW
       go_wp2_with fail
       refine wp_region_sub (wr.heap.size + 1) (by kernel_rfl) (by kernel_rfl) ?_
       repeat (go_big_quiet_step (first | exact C31b.out _ | exact C33b.out _))
       refine wpQuiet_nil ?_
       rintro wq ⟨⟨wq', bq⟩, hq⟩
       have hq' : wq = wq' := hq
       subst hq'
       clear hq
       have HB := hmk (hback _ bq)
       go_wp2_with fail
       go_roundw
       case rel => exact ⟨p + 1 + 1, by omega, by go_num, HB.out, HO⟩
       case measure => simp [RowKit.intOf]; omega
  ·obtain rfl : j = l.length := by omega
   have y1 : ¬ (l.length : Int) < l.length := by omega
   have HF := hmk (keysB_true H18.out (fun q hq => ok.out q hq))
   have HB := hmk bj
   go_wp2_with fail
   go_ret
   exact ⟨by rw [HF.out]; rfl, HB.out⟩
end Go.Proofs.YtdgfjdhobdfglaaGreatDoor
