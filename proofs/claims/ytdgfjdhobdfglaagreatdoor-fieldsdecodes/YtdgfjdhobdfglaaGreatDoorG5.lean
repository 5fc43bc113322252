/- joined: PlainU PlainV JpsA RowK PthA -/
import Derived.Lib.MapLaws
import Derived.Test.YtdgfjdhobdfglaaGreatDoorG4
import Derived.Lib.AppendStr
import Derived.Lib.LaidTab
import Derived.Lib.ItoaNum
import Derived.LaidLaws
import Derived.Shelf.Vars
set_option linter.unusedSimpArgs false
set_option linter.unusedVariables false
namespace Go.Proofs.YtdgfjdhobdfglaaGreatDoor.Q
theorem dec_bad (b : UInt8) (t : List UInt8) (hb : 128 <= b.toNat) (h : (nxt (b :: t)).2 = false) : Lib.decodeL (b :: t) = (65533, 1) := by
 have k := nxt_check b t hb
 rw [h] at k
 rw [Lib.decodeL_N]
 rcases Lib.check_decode (b :: t).length b.toNat (t.getD 0 0).toNat (t.getD 1 0).toNat (t.getD 2 0).toNat (by simp) hb b.toNat_lt (t.getD 0 0).toNat_lt (t.getD 1 0).toNat_lt (t.getD 2 0).toNat_lt with ⟨hc, hd⟩ | ⟨m, hm, hc, hd⟩
 ·exact hd
 ·rw [List.length_cons, k] at hc
  simp at hc
theorem dec_good (b : UInt8) (t : List UInt8) (hb : 128 <= b.toNat) (h : (nxt (b :: t)).2 = true) :
 (Lib.decodeL (b :: t)).2 = (nxt (b :: t)).1 /\ 2 <= (nxt (b :: t)).1 /\ Lib.encodeRune ((Lib.decodeL (b :: t)).1 : Int) = (b :: t).take (nxt (b :: t)).1 := by
 have k := nxt_check b t hb
 rw [h] at k
 have e : (Lib.decodeL (b :: t)).2 = (nxt (b :: t)).1 /\ 2 <= (nxt (b :: t)).1 := by
  rw [Lib.decodeL_N]
  rcases Lib.check_decode (b :: t).length b.toNat (t.getD 0 0).toNat (t.getD 1 0).toNat (t.getD 2 0).toNat (by simp) hb b.toNat_lt (t.getD 0 0).toNat_lt (t.getD 1 0).toNat_lt (t.getD 2 0).toNat_lt with ⟨hc, hd⟩ | ⟨m, hm, hc, hd⟩
  ·rw [List.length_cons, k] at hc
   simp at hc
  ·rw [List.length_cons, k] at hc
   simp at hc
   subst hc
   exact ⟨hd, hm⟩
 refine ⟨e.1, e.2, ?_⟩
 rw [<- e.1]
 exact Lib.encode_decode (b :: t) (by simp) (by omega)
theorem dec_le (l : List UInt8) : (Lib.decodeL l).1 <= 1114111 := by
 rw [Lib.decodeL_N]
 have k0 := (l.getD 0 0).toNat_lt
 unfold Lib.decodeN
 repeat' split
 all_goals simp only
 all_goals omega
def full : List UInt8 -> Bool
 | [] => false
 | b :: t => decide (Lib.firstT b.toNat % 8 <= t.length + 1) || (decide (1 < t.length + 1) && (decide ((t.getD 0 0).toNat < Lib.accLo (Lib.firstT b.toNat / 16)) || decide (Lib.accHi (Lib.firstT b.toNat / 16) < (t.getD 0 0).toNat))) || (decide (2 < t.length + 1) && (decide ((t.getD 1 0).toNat < 128) || decide (191 < (t.getD 1 0).toNat)))
theorem full_nxt (b : UInt8) (t : List UInt8) (hb : 128 <= b.toNat) (h : (nxt (b :: t)).2 = false) :
 (∀ j, j < (nxt (b :: t)).1 -> full ((b :: t).take (j + 1)) = false) /\ ((nxt (b :: t)).1 = (b :: t).length \/ full ((b :: t).take ((nxt (b :: t)).1 + 1)) = true) := by
 obtain ⟨h1, h2, h3⟩ := bnd_tab ⟨b.toNat, b.toNat_lt⟩ hb
 simp only at h1 h2 h3
 rw [nxt_cons] at h ⊢
 generalize hB : bnd b.toNat = B at *
 obtain ⟨n, lo, hi⟩ := B
 simp only at h1 h2 h3 h ⊢
 have hn1 : Lib.firstT b.toNat % 8 = 1 \/ Lib.firstT b.toNat % 8 = n := by split at h1 <;> omega
 have hn0 : n = 0 -> Lib.firstT b.toNat % 8 <= 1 := by intro e; split at h1 <;> omega
 have hnn : n ≠ 0 -> Lib.firstT b.toNat % 8 = n := by intro e; split at h1 <;> omega
 rcases h2 with rfl | rfl | rfl | rfl
 ·have e := hn0 rfl
  simp [full, e]
 ·have e := hnn (by omega)
  obtain ⟨rfl, rfl⟩ := h3 (by omega)
  rcases t with _ | ⟨c1, t⟩
  ·simp [nxtGo, full, e]
  ·by_cases c : c1.toNat < Lib.accLo (Lib.firstT b.toNat / 16) \/ Lib.accHi (Lib.firstT b.toNat / 16) < c1.toNat
   ·simp [nxtGo, c, full, e]
   ·exfalso; revert h; cases t <;> simp [nxtGo, c]
 ·have e := hnn (by omega)
  obtain ⟨rfl, rfl⟩ := h3 (by omega)
  rcases t with _ | ⟨c1, t⟩
  ·simp [nxtGo, full, e]
  ·by_cases c : c1.toNat < Lib.accLo (Lib.firstT b.toNat / 16) \/ Lib.accHi (Lib.firstT b.toNat / 16) < c1.toNat
   ·rcases c with c | c <;> simp [nxtGo, c, full, e]
   ·have c' := not_or.1 c
    rcases t with _ | ⟨c2, t⟩
    ·simp only [nxtGo, c, if_false, List.length_cons, List.length_nil]
     refine ⟨?_, by simp⟩
     intro j hj
     have : j = 0 \/ j = 1 := by simp at hj; omega
     rcases this with rfl | rfl <;> simp [full, e, c'.1, c'.2] <;> omega
    ·by_cases d : c2.toNat < 128 \/ 191 < c2.toNat
     ·simp only [nxtGo, c, d, if_false, if_true, List.length_cons]
      refine ⟨?_, by simp [full, e]⟩
      intro j hj
      have : j = 0 \/ j = 1 := by simp at hj; omega
      rcases this with rfl | rfl <;> simp [full, e, c'.1, c'.2] <;> omega
     ·exfalso; revert h; cases t <;> simp [nxtGo, c, d]
 ·have e := hnn (by omega)
  obtain ⟨rfl, rfl⟩ := h3 (by omega)
  rcases t with _ | ⟨c1, t⟩
  ·simp [nxtGo, full, e]
  ·by_cases c : c1.toNat < Lib.accLo (Lib.firstT b.toNat / 16) \/ Lib.accHi (Lib.firstT b.toNat / 16) < c1.toNat
   ·rcases c with c | c <;> simp [nxtGo, c, full, e]
   ·have c' := not_or.1 c
    rcases t with _ | ⟨c2, t⟩
    ·simp only [nxtGo, c, if_false, List.length_cons, List.length_nil]
     refine ⟨?_, by simp⟩
     intro j hj
     have : j = 0 \/ j = 1 := by simp at hj; omega
     rcases this with rfl | rfl <;> simp [full, e, c'.1, c'.2] <;> omega
    ·by_cases d : c2.toNat < 128 \/ 191 < c2.toNat
     ·simp only [nxtGo, c, d, if_false, if_true, List.length_cons]
      refine ⟨?_, ?_⟩
      ·intro j hj
       have : j = 0 \/ j = 1 := by simp at hj; omega
       rcases this with rfl | rfl <;> simp [full, e, c'.1, c'.2] <;> omega
      ·right; rcases d with d | d <;> simp [full, e, d]
     ·have d' := not_or.1 d
      rcases t with _ | ⟨c3, t⟩
      ·simp only [nxtGo, c, d, if_false, List.length_cons, List.length_nil]
       refine ⟨?_, by simp⟩
       intro j hj
       have : j = 0 \/ j = 1 \/ j = 2 := by simp at hj; omega
       rcases this with rfl | rfl | rfl <;> simp [full, e, c'.1, c'.2, d'.1, d'.2] <;> omega
      ·by_cases f : c3.toNat < 128 \/ 191 < c3.toNat
       ·simp only [nxtGo, c, d, f, if_false, if_true, List.length_cons]
        refine ⟨?_, by simp [full, e]⟩
        intro j hj
        have : j = 0 \/ j = 1 \/ j = 2 := by simp at hj; omega
        rcases this with rfl | rfl | rfl <;> simp [full, e, c'.1, c'.2, d'.1, d'.2] <;> omega
       ·exfalso; revert h; cases t <;> simp [nxtGo, c, d, f]
end Go.Proofs.YtdgfjdhobdfglaaGreatDoor.Q
namespace Go.Proofs.YtdgfjdhobdfglaaGreatDoor.Q
def dig (c : Nat) : Int := if 48 <= c /\ c <= 57 then (c : Int) - 48 else if 97 <= c /\ c <= 102 then (c : Int) - 87 else if 65 <= c /\ c <= 70 then (c : Int) - 55 else -1
theorem dig_le (c : Nat) : -1 <= dig c /\ dig c <= 15 := by
 unfold dig
 repeat' split
 all_goals omega
def goes (c d : Int) (i : Nat) (aw : Bool) : Bool := if i = 0 then (!aw || d == 13) else if i = 1 then ((c == 13 && decide (12 <= d)) == aw) else true
def digs (aw : Bool) : Nat -> Nat -> Nat -> List UInt8 -> Nat × Nat × Bool
 | 0, i, c, t => (c, i, true)
 | r + 1, i, c, [] => (0, i, false)
 | r + 1, i, c, x :: t => if dig x.toNat < 0 \/ goes c (dig x.toNat) i aw = false then (0, i, false) else digs aw r (i + 1) (16 * c + (dig x.toNat).toNat) t
theorem digs_le (aw : Bool) : ∀ (r i c : Nat) (t : List UInt8), (digs aw r i c t).2.1 <= i + t.length /\ (digs aw r i c t).2.1 <= i + r /\ i <= (digs aw r i c t).2.1 /\ ((digs aw r i c t).2.2 = true -> (digs aw r i c t).2.1 = i + r)
 | 0, i, c, t => by simp [digs]
 | r + 1, i, c, [] => by simp [digs]
 | r + 1, i, c, x :: t => by
  unfold digs
  split
  ·simp
  ·have := digs_le aw r (i + 1) (16 * c + (dig x.toNat).toNat) t
   simp only [List.length_cons]
   refine ⟨by omega, by omega, by omega, fun h => ?_⟩
   have := this.2.2.2 h
   omega
theorem digs_range (aw : Bool) (t : List UInt8) (h : (digs aw 4 0 0 t).2.2 = true) :
 (digs aw 4 0 0 t).1 < 65536 /\ (aw = true -> 56320 <= (digs aw 4 0 0 t).1 /\ (digs aw 4 0 0 t).1 <= 57343) /\ (aw = false -> ¬ (56320 <= (digs aw 4 0 0 t).1 /\ (digs aw 4 0 0 t).1 <= 57343)) := by
 rcases t with _ | ⟨x0, t⟩
 ·simp [digs] at h
 rw [digs] at h ⊢
 split at h
 ·simp at h
 rename_i g0
 rw [if_neg g0]
 rcases t with _ | ⟨x1, t⟩
 ·simp [digs] at h
 rw [digs] at h ⊢
 split at h
 ·simp at h
 rename_i g1
 rw [if_neg g1]
 rcases t with _ | ⟨x2, t⟩
 ·simp [digs] at h
 rw [digs] at h ⊢
 split at h
 ·simp at h
 rename_i g2
 rw [if_neg g2]
 rcases t with _ | ⟨x3, t⟩
 ·simp [digs] at h
 rw [digs] at h ⊢
 split at h
 ·simp at h
 rename_i g3
 rw [if_neg g3, digs]
 have b0 := dig_le x0.toNat
 have b1 := dig_le x1.toNat
 have b2 := dig_le x2.toNat
 have b3 := dig_le x3.toNat
 generalize dig x0.toNat = d0 at *
 generalize dig x1.toNat = d1 at *
 generalize dig x2.toNat = d2 at *
 generalize dig x3.toNat = d3 at *
 have n0 := not_or.1 g0
 have n1 := not_or.1 g1
 have n2 := not_or.1 g2
 have n3 := not_or.1 g3
 simp only [goes] at n0 n1
 refine ⟨by simp only; omega, ?_, ?_⟩
 ·rintro rfl
  simp at n0 n1
  simp only
  omega
 ·rintro rfl
  simp at n0 n1
  simp only
  omega
def saidN (c : Nat) : Nat := if c = 34 then 34 else if c = 92 then 92 else if c = 47 then 47 else if c = 98 then 8 else if c = 102 then 12 else if c = 110 then 10 else if c = 114 then 13 else if c = 116 then 9 else 0
theorem saidN_lt (c : Nat) : saidN c < 128 := by
 unfold saidN
 repeat' split
 all_goals omega
def numF (t : List UInt8) : Nat × Nat × Bool :=
 if (digs false 4 0 0 t).2.2 = false then (0, (digs false 4 0 0 t).2.1, false)
 else if 55296 <= (digs false 4 0 0 t).1 /\ (digs false 4 0 0 t).1 < 56320 then
  (match t.drop 4 with
   | [] => (0, 4, false)
   | x :: r => if x.toNat ≠ 92 then (0, 4, false) else
    match r with
    | [] => (0, 5, false)
    | y :: r2 => if y.toNat ≠ 117 then (0, 5, false) else
     if (digs true 4 0 0 r2).2.2 = false then (0, 6 + (digs true 4 0 0 r2).2.1, false)
     else (65536 + 1024 * ((digs false 4 0 0 t).1 - 55296) + ((digs true 4 0 0 r2).1 - 56320), 10, true))
 else ((digs false 4 0 0 t).1, 4, true)
theorem numF_le (t : List UInt8) : (numF t).2.1 <= t.length /\ ((numF t).2.2 = true -> 4 <= (numF t).2.1 /\ (numF t).1 <= 1114111 /\ ¬ (55296 <= (numF t).1 /\ (numF t).1 <= 57343)) := by
 have h0 := digs_le false 4 0 0 t
 unfold numF
 split
 ·simp; omega
 ·rename_i g
  have g' : (digs false 4 0 0 t).2.2 = true := by simpa using g
  have r0 := digs_range false t g'
  have e0 := h0.2.2.2 g'
  have l0 : 4 <= t.length := by omega
  split
  ·rename_i c
   split
   ·simp; omega
   ·rename_i x r hx
    have lx : r.length + 5 = t.length := by have := congrArg List.length hx; simp at this; omega
    split
    ·simp; omega
    ·split
     ·simp at lx; simp; omega
     ·rename_i y r2
      simp at lx
      split
      ·simp; omega
      ·have h1 := digs_le true 4 0 0 r2
       split
       ·simp; omega
       ·rename_i g2
        have g2' : (digs true 4 0 0 r2).2.2 = true := by simpa using g2
        have r1 := (digs_range true r2 g2').2.1 rfl
        have e1 := h1.2.2.2 g2'
        simp only
        refine ⟨by omega, fun _ => ⟨by omega, by omega, by omega⟩⟩
  ·rename_i c
   simp only
   have := r0.2.2 rfl
   refine ⟨by omega, fun _ => ⟨by omega, by omega, by omega⟩⟩
def escF : List UInt8 -> Nat × Nat × Bool
 | [] => (0, 0, false)
 | x :: t => if x.toNat = 117 then ((numF t).1, 1 + (numF t).2.1, (numF t).2.2) else if saidN x.toNat = 0 then (0, 0, false) else (saidN x.toNat, 1, true)
theorem escF_cons (x : UInt8) (t : List UInt8) : escF (x :: t) = if x.toNat = 117 then ((numF t).1, 1 + (numF t).2.1, (numF t).2.2) else if saidN x.toNat = 0 then (0, 0, false) else (saidN x.toNat, 1, true) := rfl
theorem escF_le (t : List UInt8) : (escF t).2.1 <= t.length /\ ((escF t).2.2 = true -> (escF t).1 <= 1114111 /\ ¬ (55296 <= (escF t).1 /\ (escF t).1 <= 57343) /\ 1 <= (escF t).2.1 /\ ((escF t).1 < 128 \/ 4 <= (escF t).2.1)) := by
 cases t with
 | nil => simp [escF]
 | cons x t =>
  have h := numF_le t
  have hs := saidN_lt x.toNat
  rw [escF_cons]
  split
  ·simp only [List.length_cons]
   refine ⟨by omega, fun g => ?_⟩
   have := h.2 g
   omega
  ·split
   ·simp
   ·simp only [List.length_cons]
    omega
theorem enc_len (v : Nat) : (Lib.encodeRune (v : Int)).length <= 4 /\ 1 <= (Lib.encodeRune (v : Int)).length /\ (v < 128 -> (Lib.encodeRune (v : Int)).length = 1) := by
 have h := Lib.encodeRuneZ_length (v : Int)
 unfold Lib.encodeRune
 rw [List.length_map]
 refine ⟨h.2, h.1, fun hv => ?_⟩
 rw [Lib.encodeRuneZ_one (by omega) (by omega)]
 rfl
def stp : List UInt8 -> Nat × List UInt8 × Nat × Nat
 | [] => (0, [], 0, 10)
 | x :: t => if x.toNat < 32 then (0, [], 0, 10) else if x.toNat = 34 then (1, [], 1, 0)
  else if x.toNat = 92 then (if (escF t).2.2 = true then (2, Lib.encodeRune ((escF t).1 : Int), 1 + (escF t).2.1, 0) else (0, [], 1 + (escF t).2.1, 12))
  else if (nxt (x :: t)).2 = true then (2, (x :: t).take (nxt (x :: t)).1, (nxt (x :: t)).1, 0) else (0, [], (nxt (x :: t)).1, 11)
theorem stp_cons (x : UInt8) (t : List UInt8) : stp (x :: t) = if x.toNat < 32 then (0, [], 0, 10) else if x.toNat = 34 then (1, [], 1, 0)
 else if x.toNat = 92 then (if (escF t).2.2 = true then (2, Lib.encodeRune ((escF t).1 : Int), 1 + (escF t).2.1, 0) else (0, [], 1 + (escF t).2.1, 12))
 else if (nxt (x :: t)).2 = true then (2, (x :: t).take (nxt (x :: t)).1, (nxt (x :: t)).1, 0) else (0, [], (nxt (x :: t)).1, 11) := rfl
theorem stp_le (t : List UInt8) : (stp t).2.2.1 <= t.length /\ ((stp t).1 ≠ 0 -> 1 <= (stp t).2.2.1) /\ (stp t).2.1.length <= (stp t).2.2.1 /\ (stp t).1 <= 2 := by
 cases t with
 | nil => simp [stp]
 | cons x t =>
  have he := escF_le t
  have hn := nxt_le (x :: t)
  rw [stp_cons]
  split
  ·simp
  ·split
   ·simp
   ·split
    ·split
     ·rename_i g
      have := he.2 g
      have hl := enc_len (escF t).1
      simp only [List.length_cons]
      refine ⟨by omega, by omega, ?_, by omega⟩
      rcases this.2.2.2 with h | h
      ·have := hl.2.2 h; omega
      ·omega
     ·simp only [List.length_cons]
      refine ⟨by omega, by omega, by simp, by omega⟩
    ·split
     ·rename_i g
      simp only
      have := hn.2.2 g
      refine ⟨hn.1, fun _ => this, List.length_take_le _ _, by omega⟩
     ·simp only
      refine ⟨hn.1, by omega, by simp, by omega⟩
def unq : Nat -> List UInt8 -> Nat -> List UInt8 -> List UInt8 × Nat × Nat
 | 0, t, k, out => (out, k, 0)
 | f + 1, t, k, out => if (stp t).1 = 0 then ([], k + (stp t).2.2.1, (stp t).2.2.2) else if (stp t).1 = 1 then (out, k + 1, 0) else unq f (t.drop (stp t).2.2.1) (k + (stp t).2.2.1) (out ++ (stp t).2.1)
def unqAll (l : List UInt8) (at' : Int) : List UInt8 × Nat × Nat :=
 if at' < 0 \/ (l.length : Int) < at' then ([], 0, 2)
 else if (l.drop at'.toNat).head? = some 34 then unq (l.length + 1) (l.drop (at'.toNat + 1)) (at'.toNat + 1) []
 else ([], at'.toNat, 10)
end Go.Proofs.YtdgfjdhobdfglaaGreatDoor.Q
set_option maxRecDepth 100000
namespace Go.Proofs.YtdgfjdhobdfglaaGreatDoor
open Go.RowKit Go.Lib
def PowTab (w : World) : Prop := TabIs Tryz.prog w "internal/strconv.uint64pow10" .u64 pow10Tab
theorem PowTab.below {w w' : World} {B : Nat} (h : PowTab w) (hb : Below B w w') (hB : 9 < B) : PowTab w' := by
 unfold PowTab TabIs World.var? at *
 have hg : Tryz.prog.globalNamed "internal/strconv.uint64pow10" = some 6 := by kernel_rfl
 simp only [hg, Option.bind_some] at h ⊢
 rw [hb.block 6 (by omega)]
 exact h
def SaidT (w : World) : Prop := ∀ c : Nat, c < 128 -> w.cell? ⟨7, c, none⟩ = some (.int .u8 (Q.saidN c))
theorem SaidT.below {B : Nat} {w w' : World} (h : SaidT w) (hb : Below B w w') (hB : 9 < B) : SaidT w' :=
 fun c hc => (hb.cell (p := ⟨7, c, none⟩) (by show 7 < B; omega)).trans (h c hc)
def ErrT (w : World) : Prop := ∃ t5 p5 t6 p6, w.cell? ⟨3, 0, none⟩ = some (.iface t5 p5) /\ w.cell? ⟨4, 0, none⟩ = some (.iface t6 p6)
theorem ErrT.below {B : Nat} {w w' : World} (h : ErrT w) (hb : Below B w w') (hB : 9 < B) : ErrT w' := by
 obtain ⟨t5, p5, t6, p6, h5, h6⟩ := h
 exact ⟨t5, p5, t6, p6, (hb.cell (p := ⟨3, 0, none⟩) (by show 3 < B; omega)).trans h5, (hb.cell (p := ⟨4, 0, none⟩) (by show 4 < B; omega)).trans h6⟩
structure Td (w : World) : Prop where
 u : Utf8Tabs 0 1 w
 l : LetTab w
 z : 9 < w.heap.size
 p : PowTab w
 s : SaidT w
 e : ErrT w
theorem Td.below {w w' : World} {B : Nat} (h : Td w) (hb : Below B w w') (hB : 9 < B) (hs : w.heap.size <= w'.heap.size) : Td w' :=
 ⟨utab_below h.u hb (by omega), h.l.below hb hB, Nat.lt_of_lt_of_le h.z hs, h.p.below hb hB, h.s.below hb hB, h.e.below hb hB⟩
theorem OwnB.below {B : Nat} {v : Value} {l : List UInt8} {w w' : World} (h : OwnB B v l w) (hb : Below w.heap.size w w') : OwnB B v l w' :=
 World.ownsRow.kept h (grown_of_below hb) (Classical.em _)
theorem wpl_str {ops : Array Oper} {rest : List Oper} {o : Oper} {a : Act} {Q : Exit -> Act -> World -> Prop} (w : World) (hgd : o.guard = none) (s x : Operand)
 (ho : o.op = .call { callee := .builtin .append, args := #[s, x], argTypes := #[101, 9] }) (B : Nat) (v : Value) (l : List UInt8) (hs : a.eval s = v) (hown : OwnB B v l w)
 (t : ByteArray) (hx : a.eval x = .string t) (hlen : l.length + t.size <= 140737488355328) (hbase : B <= w.heap.size)
 (h : ∀ v' w', OwnB B v' (l ++ t.data.toList) w' -> Below B w w' -> wpList Tryz.prog ops Q rest (a.put o.dst v') w') : wpList Tryz.prog ops Q (o :: rest) a w := by
 obtain ⟨i0, hi, hz0, hz1, hz2⟩ := info_parts info5
 refine wpList_append_own_string w hgd s x 101 9 ho B 5 i0 Tryz.underlying101 Tryz.underlying9 hi hz0 hz1 hz2 v l.length (byteCells l) hs hown t hx (by unfold maxLen; omega) (by omega) hbase ?_
 intro v' w' h1 h2 _
 refine h v' w' ?_ ((Below.refl B w).grown h2 hbase (fun k hk => (World.ownsRow.lt hown k hk).1))
 show w'.ownsRow B 5 1 v' (l ++ t.data.toList).length (byteCells (l ++ t.data.toList))
 have e : byteCells (l ++ t.data.toList) = byteCells l ++ strCells t := by simp [byteCells, strCells]
 have e2 : t.data.toList.length = t.size := by rw [Array.length_toList]; rfl
 rw [e, List.length_append, e2]
 exact h1
end Go.Proofs.YtdgfjdhobdfglaaGreatDoor
namespace Go.Proofs.YtdgfjdhobdfglaaGreatDoor
open Go.Shelf Go.Lib Go.ChangeShapes Go.RowKit
def letTab : List Int := (List.range 128).map fun c => (Q.letN c : Int)
theorem let_eq : Rows.laid_freehold_quote_letterOf = Lib.tabData (H := Unit) .u8 letTab := by kernel_rfl
def saidTab : List Int := (List.range 128).map fun c => (Q.saidN c : Int)
theorem said_eq : Rows.laid_freehold_quote_saidBy = Lib.tabData (H := Unit) .u8 saidTab := by kernel_rfl
theorem pow_eq : Rows.laid_internal_strconv_uint64pow10 = Lib.tabData (H := Unit) .u64 Lib.pow10Tab := by kernel_rfl
theorem cellsU5 : Tryz.prog.cellsOf 5 = 1 := by kernel_rfl
theorem cellsU124 : Tryz.prog.cellsOf 125 = 1 := by kernel_rfl
theorem cellsU205 : Tryz.prog.cellsOf 226 = 20 := by kernel_rfl
theorem cellsU202 : Tryz.prog.cellsOf 223 = 128 := by kernel_rfl
theorem letTab_of {W : World} (h : VarReads Tryz.prog W "freehold/quote.letterOf" Rows.laid_freehold_quote_letterOf) : LetTab W := by
 rw [let_eq] at h
 intro c hc
 obtain ⟨g, t, cs, fuel, p, hg, hty, hvar, hd⟩ := h
 obtain rfl : g = 5 := Option.some.inj (hg.symm.trans (by kernel_rfl))
 obtain rfl : t = 223 := Option.some.inj (hty.symm.trans (by kernel_rfl))
 have hcs := cells_of_tab Tryz.underlying223 Tryz.underlying5 cellsU5 cellsU202 hd
 have := World.var?_cell hg hvar c
 rw [this, <- Array.getElem?_toList, hcs]
 simp [letTab, hc]
theorem saidT_of {W : World} (h : VarReads Tryz.prog W "freehold/quote.saidBy" Rows.laid_freehold_quote_saidBy) : SaidT W := by
 rw [said_eq] at h
 intro c hc
 obtain ⟨g, t, cs, fuel, p, hg, hty, hvar, hd⟩ := h
 obtain rfl : g = 7 := Option.some.inj (hg.symm.trans (by kernel_rfl))
 obtain rfl : t = 223 := Option.some.inj (hty.symm.trans (by kernel_rfl))
 have hcs := cells_of_tab Tryz.underlying223 Tryz.underlying5 cellsU5 cellsU202 hd
 have := World.var?_cell hg hvar c
 rw [this, <- Array.getElem?_toList, hcs]
 simp [saidTab, hc]
theorem powTab_of {W : World} (h : VarReads Tryz.prog W "internal/strconv.uint64pow10" Rows.laid_internal_strconv_uint64pow10) : PowTab W := by
 rw [pow_eq] at h
 obtain ⟨g, t, cs, fuel, p, hg, hty, hvar, hd⟩ := h
 obtain rfl : g = 6 := Option.some.inj (hg.symm.trans (by kernel_rfl))
 obtain rfl : t = 226 := Option.some.inj (hty.symm.trans (by kernel_rfl))
 have hcs := cells_of_tab Tryz.underlying226 Tryz.underlying125 cellsU124 cellsU205 hd
 unfold PowTab TabIs
 rw [hvar]
 exact congrArg some (Array.ext' (by rw [hcs]))
theorem errSyn_of {W : World} (h : VarReads Tryz.prog W "strconv.ErrSyntax" Rows.laid_strconv_ErrSyntax) : ∃ t p, W.cell? ⟨3, 0, none⟩ = some (.iface t p) := by
 obtain ⟨g, t, cs, fuel, p, hg, hty, hvar, hd⟩ := h
 obtain rfl : g = 3 := Option.some.inj (hg.symm.trans (by kernel_rfl))
 obtain rfl : t = 143 := Option.some.inj (hty.symm.trans (by kernel_rfl))
 obtain ⟨_, u, v, hcs, _, _⟩ := iface_of_trod Tryz.underlying143 hd
 have := World.var?_cell hg hvar 0
 exact ⟨u, v, by rw [this, <- Array.getElem?_toList, hcs]; rfl⟩
theorem errRng_of {W : World} (h : VarReads Tryz.prog W "strconv.ErrRange" Rows.laid_strconv_ErrRange) : ∃ t p, W.cell? ⟨4, 0, none⟩ = some (.iface t p) := by
 obtain ⟨g, t, cs, fuel, p, hg, hty, hvar, hd⟩ := h
 obtain rfl : g = 4 := Option.some.inj (hg.symm.trans (by kernel_rfl))
 obtain rfl : t = 143 := Option.some.inj (hty.symm.trans (by kernel_rfl))
 obtain ⟨_, u, v, hcs, _, _⟩ := iface_of_trod Tryz.underlying143 hd
 have := World.var?_cell hg hvar 0
 exact ⟨u, v, by rw [this, <- Array.getElem?_toList, hcs]; rfl⟩
def t32 : List Int := [0,1,28,2,29,14,24,3,30,22,20,15,25,17,4,8,31,27,13,23,21,19,16,7,26,12,18,6,11,5,10,9]
def t64 : List Int := [0,1,56,2,57,49,28,3,61,58,42,50,38,29,17,4,62,47,59,36,45,43,51,22,53,39,33,30,24,18,12,5,63,55,48,27,60,41,37,16,46,35,44,21,52,32,23,11,54,26,40,15,34,20,31,10,25,14,19,9,13,8,7,6]
theorem d64_eq : Rows.laid_math_bits_deBruijn64tab = Lib.tabData (H := Unit) .u8 t64 := by kernel_rfl
theorem cellsU237 : Tryz.prog.cellsOf 237 = 64 := by kernel_rfl
theorem d64_lt {W : World} (h : VarReads Tryz.prog W "math/bits.deBruijn64tab" Rows.laid_math_bits_deBruijn64tab) : 9 < W.heap.size := by
 rw [d64_eq] at h
 obtain ⟨g, t, cs, fuel, p, hg, hty, hvar, hd⟩ := h
 obtain rfl : g = 9 := Option.some.inj (hg.symm.trans (by kernel_rfl))
 obtain rfl : t = 237 := Option.some.inj (hty.symm.trans (by kernel_rfl))
 have hcs := cells_of_tab Tryz.underlying237 Tryz.underlying5 cellsU5 cellsU237 hd
 have := World.var?_cell hg hvar 0
 rw [<- Array.getElem?_toList, hcs] at this
 exact block_lt (v := .int .u8 0) (by rw [this]; rfl)
theorem td_of {W : World} (h1 : VarReads Tryz.prog W "math/bits.deBruijn64tab" Rows.laid_math_bits_deBruijn64tab) (h2 : VarReads Tryz.prog W "internal/strconv.uint64pow10" Rows.laid_internal_strconv_uint64pow10) (h3 : VarReads Tryz.prog W "unicode/utf8.acceptRanges" Rows.laid_unicode_utf8_acceptRanges) (h4 : VarReads Tryz.prog W "strconv.ErrRange" Rows.laid_strconv_ErrRange) (h5 : VarReads Tryz.prog W "strconv.ErrSyntax" Rows.laid_strconv_ErrSyntax) (h6 : VarReads Tryz.prog W "freehold/quote.letterOf" Rows.laid_freehold_quote_letterOf) (h7 : VarReads Tryz.prog W "freehold/quote.saidBy" Rows.laid_freehold_quote_saidBy) (h8 : VarReads Tryz.prog W "unicode/utf8.first" Rows.laid_unicode_utf8_first) : Td W := by
 have hs := saidT_of h7
 obtain ⟨t5, p5, e5⟩ := errSyn_of h5
 obtain ⟨t6, p6, e6⟩ := errRng_of h4
 exact ⟨utabs_of h8 h3, letTab_of h6, d64_lt h1, powTab_of h2, hs, t5, p5, t6, p6, e5, e6⟩
abbrev synS : ByteArray := ⟨#[105, 110, 118, 97, 108, 105, 100, 32, 115, 121, 110, 116, 97, 120]⟩
abbrev rngS : ByteArray := ⟨#[118, 97, 108, 117, 101, 32, 111, 117, 116, 32, 111, 102, 32, 114, 97, 110, 103, 101]⟩
noncomputable def low : Nat := (World.holding Tryz.prog default ⟨#[], #[], []⟩).heap.size
noncomputable def laidWorldZ (os : Os) : World :=
 let w0 := World.holding Tryz.prog os ⟨#[.cells #[.string synS] 232, .cells #[.string rngS] 232], #[], []⟩
 { w0 with heap := (((((((((w0.heap.modify 0 (putCells (Lib.firstTab.map fun z => Value.int .u8 z).toArray)).modify 1
  (putCells ((List.range 16).flatMap fun i => [Value.int .u8 (Lib.accLo i), Value.int .u8 (Lib.accHi i)]).toArray)).modify 6 (putCells (Lib.pow10Tab.map fun z => Value.int .u64 z).toArray)).modify 3 (putCells #[.iface 230 (.pointer (some ⟨low, 0, none⟩))])).modify 4 (putCells #[.iface 230 (.pointer (some ⟨low + 1, 0, none⟩))])).modify 8 (putCells (t32.map fun z => Value.int .u8 z).toArray)).modify 9 (putCells (t64.map fun z => Value.int .u8 z).toArray)).modify 5 (putCells (letTab.map fun z => Value.int .u8 z).toArray)).modify 7 (putCells (saidTab.map fun z => Value.int .u8 z).toArray)) }
end Go.Proofs.YtdgfjdhobdfglaaGreatDoor
namespace Go.Proofs.YtdgfjdhobdfglaaGreatDoor
open Go.ChangeShapes Go.WideShapes Go.Deep
structure El where
 kind : Int
 name : ByteArray
 key : List Mem
 item : V
theorem hmk {P : Prop} (h : P) : Go.RowKit.Hid P := h
def El.lies (w : World) (S : Nat -> Prop) (e : El) (cs : List Value) : Prop :=
 ∃ am cm bm om is, cs = .int .i64 e.kind :: .string e.name :: .slice am e.key.length cm :: is /\ In64 e.kind /\ e.name.size <= maxLen /\ Headed am e.key.length cm bm om /\ liesM false w S e.key bm om /\ e.item.lies false w S is
def liesP (w : World) (S : Nat -> Prop) (p : List El) (b o : Nat) : Prop := ∀ (j : Nat) (h : j < p.length), S b /\ ∃ cs, rowAt w b (o + j * 9) cs /\ (p[j]).lies w S cs
theorem El.lies_keep {w w' : World} {S S' : Nat -> Prop} (hw : ∀ b, S b -> w'.heap[b]? = w.heap[b]?) (hS : ∀ b, S b -> S' b) {e : El} {cs : List Value} (h : e.lies w S cs) : e.lies w' S' cs := by
 obtain ⟨am, cm, bm, om, is, h0, h1, h2, h3, h4, h5⟩ := h
 exact ⟨am, cm, bm, om, is, h0, h1, h2, h3, liesM_keep (fun h => h) hw hS _ h4, V.lies_keep (fun h => h) hw hS _ h5⟩
theorem liesP_keep {w w' : World} {S S' : Nat -> Prop} (hw : ∀ b, S b -> w'.heap[b]? = w.heap[b]?) (hS : ∀ b, S b -> S' b) {p : List El} {b o : Nat} (h : liesP w S p b o) : liesP w' S' p b o := fun j hj => by
 obtain ⟨h1, cs, h2, h3⟩ := h j hj
 exact ⟨hS _ h1, cs, h2.keep (hw _ h1), El.lies_keep hw hS h3⟩
theorem El.nine {w : World} {S : Nat -> Prop} {e : El} {cs : List Value} (h : e.lies w S cs) : ∃ k s am nm cm vk vb vi vs val vnl vcl vam vnm vcm, cs = [.int .i64 k, .string s, .slice am nm cm, .int .i64 vk, .bool vb, .int .i64 vi, .string vs, .slice val vnl vcl, .slice vam vnm vcm] := by
 obtain ⟨am, cm, bm, om, is, rfl, _, _, _, _, h5⟩ := h
 obtain ⟨k, n, ky, v⟩ := e
 obtain ⟨vk, vb, vi, vs, vl, vm⟩ := v
 rw [V.lies] at h5
 obtain ⟨al, cl, bl, ol, am', cm', bm', om', rfl, _⟩ := h5
 exact ⟨_, _, _, _, _, _, _, _, _, _, _, _, _, _, _, rfl⟩
theorem row9 {w : World} {b o : Nat} {c0 c1 c2 c3 c4 c5 c6 c7 c8 : Value} (h : rowAt w b o [c0, c1, c2, c3, c4, c5, c6, c7, c8]) :
 w.cell? ⟨b, o, none⟩ = some c0 /\ w.cell? ⟨b, o + 1, none⟩ = some c1 /\ w.cell? ⟨b, o + 2, none⟩ = some c2 /\ w.cell? ⟨b, o + 3, none⟩ = some c3 /\ w.cell? ⟨b, o + 4, none⟩ = some c4 /\ w.cell? ⟨b, o + 5, none⟩ = some c5 /\ w.cell? ⟨b, o + 6, none⟩ = some c6 /\ w.cell? ⟨b, o + 7, none⟩ = some c7 /\ w.cell? ⟨b, o + 8, none⟩ = some c8 :=
 ⟨h 0 _ rfl, h 1 _ rfl, h 2 _ rfl, h 3 _ rfl, h 4 _ rfl, h 5 _ rfl, h 6 _ rfl, h 7 _ rfl, h 8 _ rfl⟩
theorem row9z {w : World} {b : Nat} {c0 c1 c2 c3 c4 c5 c6 c7 c8 : Value} (h : rowAt w b 0 [c0, c1, c2, c3, c4, c5, c6, c7, c8]) :
 w.cell? ⟨b, 0, none⟩ = some c0 /\ w.cell? ⟨b, 1, none⟩ = some c1 /\ w.cell? ⟨b, 2, none⟩ = some c2 /\ w.cell? ⟨b, 3, none⟩ = some c3 /\ w.cell? ⟨b, 4, none⟩ = some c4 /\ w.cell? ⟨b, 5, none⟩ = some c5 /\ w.cell? ⟨b, 6, none⟩ = some c6 /\ w.cell? ⟨b, 7, none⟩ = some c7 /\ w.cell? ⟨b, 8, none⟩ = some c8 := by
 have := row9 h
 simpa using this
def El.wt (e : El) : Nat := e.item.wt + e.name.size + wtM e.key
def wtP : List El -> Nat
 | [] => 0
 | e :: t => e.wt + wtP t
theorem El.wt_pos (e : El) : 1 <= e.wt := by have := V.wt_pos e.item; unfold El.wt; omega
theorem wtP_len : ∀ p : List El, p.length <= wtP p
 | [] => by simp [wtP]
 | e :: t => by have := El.wt_pos e; have := wtP_len t; simp only [wtP, List.length_cons]; omega
theorem wtP_mem : ∀ {p : List El} {e : El}, e ∈ p -> e.wt <= wtP p
 | [], e, h => by cases h
 | y :: t, e, h => by
  rcases List.mem_cons.1 h with rfl | h
  ·simp only [wtP]; omega
  ·have := wtP_mem h; simp only [wtP]; omega
section
variable {H : Type} {enc : TypeId × Value -> H} {w : World} {spare : Nat -> Bool} {held : Bool}
end
end Go.Proofs.YtdgfjdhobdfglaaGreatDoor
