/- joined: IdxP GidA LedA HedA -/
import Derived.Lib.AtoiAll
import Derived.Lib.ItoaNum
import Derived.Test.YtnakligbogkmbaaGreatDoorG16
import Derived.Lib.SmallJoins
import Derived.Lib.AppendIntMem
set_option linter.unusedSimpArgs false
set_option linter.unusedVariables false
namespace Go.Proofs.YtnakligbogkmbaaGreatDoor
open Go.Lib
theorem pu_snoc : ∀ (a : List UInt8) (acc u : Nat) (c : UInt8), parseUint10 acc a = .ok u → 48 ≤ c.toNat → c.toNat ≤ 57 → u < 1844674407370955162 → u * 10 + (c.toNat - 48) < 18446744073709551616 → parseUint10 acc (a ++ [c]) = .ok (u * 10 + (c.toNat - 48))
 | [], acc, u, c, h, h1, h2, h3, h4 => by
  simp only [parseUint10] at h
  injection h with h
  subst h
  simp only [List.nil_append, parseUint10]
  rw [if_pos ⟨h1, h2⟩, if_neg (by omega), if_neg (by omega)]
 | x :: t, acc, u, c, h, h1, h2, h3, h4 => by
  simp only [parseUint10, List.cons_append] at h ⊢
  split at h
  ·rename_i hx
   rw [if_pos hx]
   split at h
   ·cases h
   ·rename_i hy
    rw [if_neg hy]
    split at h
    ·cases h
    ·rename_i hz
     rw [if_neg hz]
     exact pu_snoc t _ u c h h1 h2 h3 h4
  ·cases h
theorem pu_dec (u : Nat) : u < 9223372036854775808 → parseUint10 0 (decDigits u) = .ok u := by
 induction u using Nat.strongRecOn with
 | ind u ih =>
 intro hu
 by_cases h : u < 10
 ·rw [decDigits, dif_pos h]
  have e : (UInt8.ofNat (48 + u)).toNat = 48 + u := by rw [UInt8.toNat_ofNat']; omega
  simp only [parseUint10, e]
  rw [if_pos (by omega), if_neg (by omega), if_neg (by omega)]
  congr 1
  omega
 ·rw [decDigits, dif_neg h]
  have e : (UInt8.ofNat (48 + u % 10)).toNat = 48 + u % 10 := by rw [UInt8.toNat_ofNat']; omega
  have := pu_snoc _ 0 (u / 10) (UInt8.ofNat (48 + u % 10)) (ih (u / 10) (by omega) (by omega)) (by omega) (by omega) (by omega) (by omega)
  rw [this, e]
  congr 1
  omega
theorem dec_digit (u : Nat) : ∀ b ∈ decDigits u, 48 ≤ b.toNat ∧ b.toNat ≤ 57 := by
 induction u using Nat.strongRecOn with
 | ind u ih =>
 intro b hb
 rw [decDigits] at hb
 split at hb
 ·rw [List.mem_singleton] at hb
  rw [hb, UInt8.toNat_ofNat']
  omega
 ·rcases List.mem_append.1 hb with hb | hb
  ·exact ih (u / 10) (by omega) b hb
  ·rw [List.mem_singleton] at hb
   rw [hb, UInt8.toNat_ofNat']
   omega
theorem dec_ne (u : Nat) : decDigits u ≠ [] := by
 rw [decDigits]
 split <;> simp
theorem atoi_dec (u : Nat) (hu : u < 9223372036854775808) : atoiAll (decDigits u) = .ok (u : Int) := by
 have h1 := pu_dec u hu
 have h2 := dec_digit u
 have h3 := dec_ne u
 generalize decDigits u = l at *
 cases l with
 | nil => exact absurd rfl h3
 | cons c r =>
  have hc := h2 c (List.mem_cons_self ..)
  unfold atoiAll
  simp only
  rw [if_neg (by omega), parseMag, if_neg (by simp), h1]
  simp only
  rw [if_neg (by omega), if_neg (by omega), if_neg (by omega)]
theorem dec_inj {a b : Nat} (ha : a < 9223372036854775808) (hb : b < 9223372036854775808) (h : decDigits a = decDigits b) : a = b := by
 have h1 := atoi_dec a ha
 have h2 := atoi_dec b hb
 rw [h, h2] at h1
 injection h1 with h1
 omega
def idxF (tok : List UInt8) (n : Nat) : Option Nat := (List.range n).find? (fun i => decDigits i == tok)
theorem idxF_some {tok : List UInt8} {n i : Nat} (hn : n < 9223372036854775808) (hi : i < n) (h : decDigits i = tok) : idxF tok n = some i := by
 cases hf : idxF tok n with
 | none =>
  rw [idxF, List.find?_eq_none] at hf
  exact absurd (by simp [h]) (hf i (List.mem_range.2 hi))
 | some j =>
  rw [idxF] at hf
  have h1 := List.find?_some hf
  have h2 := List.mem_of_find?_eq_some hf
  rw [List.mem_range] at h2
  have h3 : decDigits j = tok := by simpa using h1
  rw [dec_inj (by omega) (by omega) (h3.trans h.symm)]
theorem idxF_none {tok : List UInt8} {n : Nat} (h : ∀ i, i < n → decDigits i ≠ tok) : idxF tok n = none := by
 rw [idxF, List.find?_eq_none]
 intro i hi
 rw [List.mem_range] at hi
 simpa using h i hi
theorem idxF_prog (tok : List UInt8) (n : Nat) (hn : n < 9223372036854775808) : idxF tok n = (match atoiAll tok with
 | .ok v => if 0 ≤ v ∧ v < n ∧ itoa v = tok then some v.toNat else none
 | _ => none) := by
 cases ha : atoiAll tok with
 | ok v =>
  simp only
  split
  ·rename_i h
   obtain ⟨u, rfl⟩ : ∃ u : Nat, v = u := ⟨v.toNat, by omega⟩
   have h3 := h.2.2
   rw [itoa, if_neg (by omega)] at h3
   simp only [Int.toNat_natCast] at h3 ⊢
   exact idxF_some hn (by omega) h3
  ·rename_i h
   refine idxF_none fun i hi e => h ?_
   have h1 := atoi_dec i (by omega)
   rw [e, ha] at h1
   injection h1 with h1
   subst h1
   refine ⟨by omega, by omega, ?_⟩
   rw [itoa, if_neg (by omega)]
   simpa using e
 | «syntax» =>
  refine idxF_none fun i hi e => ?_
  have h1 := atoi_dec i (by omega)
  rw [e, ha] at h1
  cases h1
 | range =>
  refine idxF_none fun i hi e => ?_
  have h1 := atoi_dec i (by omega)
  rw [e, ha] at h1
  cases h1
end Go.Proofs.YtnakligbogkmbaaGreatDoor
namespace Go.Proofs.YtnakligbogkmbaaGreatDoor
open Go.RowKit Go.Lib
def ErrAt (g : Nat) (w : World) : Prop := ∃ ev, w.cell? ⟨g, 0, none⟩ = some ev ∧ (ev = .nilIface ∨ ∃ te pe, ev = .iface te pe)
def PowTab (w : World) : Prop := TabIs Tryz.prog w "internal/strconv.uint64pow10" .u64 pow10Tab
theorem PowTab.below {w w' : World} {B : Nat} (h : PowTab w) (hb : Below B w w') (hB : 7 < B) : PowTab w' := by
 unfold PowTab TabIs World.var? at *
 have hg : Tryz.prog.globalNamed "internal/strconv.uint64pow10" = some 5 := by kernel_rfl
 simp only [hg, Option.bind_some] at h ⊢
 rw [hb.block 5 (by omega)]
 exact h
structure Tg (w : World) : Prop where
 t : Tp w
 y : ErrAt 3 w
 r : ErrAt 4 w
 p : PowTab w
 z : 7 < w.heap.size
theorem ErrAt.below {g : Nat} {w w' : World} {B : Nat} (h : ErrAt g w) (hb : Below B w w') (hB : g < B) : ErrAt g w' := by
 obtain ⟨ev, h1, h2⟩ := h
 exact ⟨ev, (hb.cell (p := ⟨g, 0, none⟩) hB).trans h1, h2⟩
theorem Tg.below {w w' : World} {B : Nat} (h : Tg w) (hb : Below B w w') (hB : 7 < B) : Tg w' :=
 ⟨h.t.below hb (by omega), h.y.below hb (by omega), h.r.below hb (by omega), h.p.below hb hB, Nat.lt_of_lt_of_le h.z hb.size⟩
theorem atoi_any (s : ByteArray) (w : World) (hs : s.size ≤ 281474976710656) (tg : Tg w) :
 Calls Tryz.prog 59 #[.string s] w fun e w' => (∃ n ev, e = .returned (.tuple #[.int .i64 n, ev]) ∧ ((∃ v, atoiAll s.data.toList = .ok v ∧ n = v ∧ ev = .nilIface) ∨ ((∀ v, atoiAll s.data.toList ≠ .ok v) ∧ ∃ N, ev = .iface 116 (.pointer (some ⟨N, 0, none⟩))))) ∧ Below w.heap.size w w' := by
 cases ha : atoiAll s.data.toList with
 | ok v =>
  refine (Any.strconv_Atoi_ok Tryz.lays172 s (by omega) v ha w).mono ?_
  rintro e w' ⟨he, hw⟩
  refine ⟨⟨v, .nilIface, he, .inl ⟨v, rfl, rfl, rfl⟩⟩, ?_⟩
  rcases hw with rfl | ⟨t, rfl⟩
  ·exact Below.refl _ _
  ·exact Go.Joins.below_bytesWorld _ _ _ _ (Nat.le_refl _)
 | «syntax» =>
  obtain ⟨ev, h1, h2⟩ := tg.y
  refine (Any.strconv_Atoi_syntax Tryz.lays172 s hs ha ev w h1 h2).mono ?_
  rintro e w' ⟨N, he, _, _, hb⟩
  exact ⟨⟨_, _, he, .inr ⟨(fun v h => by cases h), N, rfl⟩⟩, hb⟩
 | range =>
  obtain ⟨ev, h1, h2⟩ := tg.r
  refine (Any.strconv_Atoi_range Tryz.lays172 s hs ha ev w h1 h2).mono ?_
  rintro e w' ⟨N, he, _, _, hb⟩
  exact ⟨⟨_, _, he, .inr ⟨(fun v h => by cases h), N, rfl⟩⟩, hb⟩
theorem itoa_any (n : Int) (h : -9223372036854775808 ≤ n ∧ n ≤ 9223372036854775807) (w : World) (tg : Tg w) :
 Calls Tryz.prog 60 #[.int .i64 n] w fun e w' => e = .returned (.string ⟨(itoa n).toArray⟩) ∧ Below w.heap.size w w' := by
 refine (Any.strconv_Itoa Tryz.lays171 n h.1 h.2 w tg.p).mono ?_
 rintro e w' ⟨he, k, os, rfl⟩
 exact ⟨he, below_grow _ _ (Nat.le_refl _) _ _⟩
def IxPost (o : Option Nat) (w : World) (e : Ending) (w' : World) : Prop := e = .returned (.tuple #[.int .i64 ((o.getD 0 : Nat) : Int), .bool o.isSome]) ∧ Below w.heap.size w w'
set_option maxHeartbeats 8000000 in
set_option maxRecDepth 100000 in
theorem index_any (s : ByteArray) (n : Nat) (w : World) (hs : s.size ≤ 281474976710656) (hn : n < 9223372036854775808) (tg : Tg w) : Calls Tryz.prog 38 #[.string s, .int .i64 (n : Int)] w (IxPost (idxF s.data.toList n) w) := by
 have CA := hmk (atoi_any s w hs tg)
 have HI := hmk (idxF_prog s.data.toList n hn)
 have HT : Hid (∀ W, Below w.heap.size w W → Tg W) := fun W hb => tg.below hb tg.z
 generalize idxF s.data.toList n = O at *
 clear tg
 go_enter Tryz.func38, Tryz.ntmps38
 go_wp2_with fail
 refine CA.out.mono ?_
 rintro e w1 ⟨⟨m, ev, rfl, hcase⟩, b1⟩
 rcases hcase with ⟨v, ha, rfl, rfl⟩ | ⟨ha, N, rfl⟩
 ·rw [ha] at HI
  by_cases h0 : m < 0
  ·have HR : Hid (O = none) := by show _ = _; rw [HI.out]; simp only; rw [if_neg (fun h => by omega)]
   go_wp2_with fail
   go_ret2
   exact ⟨by rw [HR.out]; rfl, b1⟩
  ·by_cases h1 : (n : Int) ≤ m
   ·have HR : Hid (O = none) := by show _ = _; rw [HI.out]; simp only; rw [if_neg (fun h => by omega)]
    have y1 : ¬ m < 0 := h0
    have y2 : m ≥ n := h1
    go_wp2_with fail
    go_ret2
    exact ⟨by rw [HR.out]; rfl, b1⟩
   ·obtain ⟨u, rfl⟩ : ∃ u : Nat, m = u := ⟨m.toNat, by omega⟩
    have y1 : ¬ (u : Int) < 0 := h0
    have y2 : ¬ (u : Int) ≥ n := by omega
    have y3 : (u : Int) < n := by omega
    have CI := hmk (itoa_any (u : Int) (by omega) w1 (HT.out w1 b1))
    have hz1 := b1.size
    by_cases hq : itoa (u : Int) = s.data.toList
    focus
     have HR : Hid (O = some u) := by show _ = _; rw [HI.out]; simp only; rw [if_pos ⟨by omega, by omega, hq⟩]; simp
     have eq : (⟨(itoa (u : Int)).toArray⟩ : ByteArray) = s := by rw [hq]
     rw [eq] at CI
     have yq : (s.toList != s.toList) = false := by simp
    rotate_left 1
    focus
     have HR : Hid (O = none) := by show _ = _; rw [HI.out]; simp only; rw [if_neg (fun h => hq h.2.2)]
     have yq : ((⟨(itoa (u : Int)).toArray⟩ : ByteArray).toList == s.toList) = false := by
      rw [beq_eq_false_iff_ne, ByteArray.toList_eq, ByteArray.toList_eq]; exact hq
     generalize (⟨(itoa (u : Int)).toArray⟩ : ByteArray) = qi at *
     have yq2 : (qi.toList != s.toList) = true := by simp [bne, yq]
     have yq3 : ¬ qi.toList = s.toList := by simpa using yq
    rotate_left 1
    all_goals
     go_wp2_with fail
     refine CI.out.mono ?_
     rintro e w2 ⟨rfl, b2⟩
     go_wp2_with fail
     go_ret2
     exact ⟨by rw [HR.out]; rfl, b1.trans (b2.mono hz1)⟩
 ·have HR : Hid (O = none) := by
   show _ = _
   rw [HI.out]
   cases hx : atoiAll s.data.toList with
   | ok v => exact absurd hx (ha v)
   | «syntax» => rfl
   | range => rfl
  go_wp2_with fail
  go_ret2
  exact ⟨by rw [HR.out]; rfl, b1⟩
end Go.Proofs.YtnakligbogkmbaaGreatDoor
namespace Go.Proofs.YtnakligbogkmbaaGreatDoor
open Go.RowKit Go.Lib
def kindOf : V → Int
 | .mk k _ _ _ _ _ => k
def listOf : V → List V
 | .mk _ _ _ _ l _ => l
def memsOf : V → List Mem
 | .mk _ _ _ _ _ m => m
def ledF (v : V) (t : ByteArray) : Nat × Int :=
 if kindOf v = 5 then (if keyIs t (memsOf v)[posF (memsOf v) t]? = true then (posF (memsOf v) t, 0) else (0, 41))
 else if kindOf v = 4 then ((idxF t.data.toList (listOf v).length).getD 0, if (idxF t.data.toList (listOf v).length).isSome = true then 0 else 42)
 else (0, 41)
def kid (v : V) (j : Nat) : V := if kindOf v = 4 then (listOf v).getD j nullV else ((memsOf v).getD j (⟨#[]⟩, nullV)).2
def kidAt (v : V) (j : Nat) : Prop := (kindOf v = 4 ∧ j < (listOf v).length) ∨ (kindOf v = 5 ∧ j < (memsOf v).length)
theorem oBw (w : World) (o : Obj) : Below w.heap.size w (w.alloc o) := (Below.refl _ _).alloc (Nat.le_refl _) _
theorem idxF_lt {s : List UInt8} {n p : Nat} (h : idxF s n = some p) : p < n := by
 exact List.mem_range.1 (List.mem_of_find?_eq_some h)
theorem led_kid {v : V} {t : ByteArray} (h : (ledF v t).2 = 0) : kidAt v (ledF v t).1 := by
 unfold ledF at h ⊢
 split
 ·rename_i hk
  rw [if_pos hk] at h
  split
  ·rename_i hq
   refine .inr ⟨hk, ?_⟩
   show posF (memsOf v) t < _
   rcases Nat.lt_or_ge (posF (memsOf v) t) (memsOf v).length with h1 | h1
   ·exact h1
   ·rw [List.getElem?_eq_none h1] at hq; simp [keyIs] at hq
  ·rename_i hq
   rw [if_neg hq] at h; simp at h
 ·rename_i hk
  rw [if_neg hk] at h
  split
  ·rename_i hk4
   rw [if_pos hk4] at h
   refine .inl ⟨hk4, ?_⟩
   cases hx : idxF t.data.toList (listOf v).length with
   | none => rw [hx] at h; simp at h
   | some p => exact idxF_lt hx
  ·rename_i hk4
   rw [if_neg hk4] at h; simp at h
def LdPost (p : Nat × Int) (w : World) (e : Ending) (w' : World) : Prop := e = .returned (.tuple #[.int .i64 (p.1 : Int), .int .i64 p.2]) ∧ Below w.heap.size w w'
set_option maxHeartbeats 8000000 in
set_option maxRecDepth 100000 in
theorem lead_any (v : V) (key : ByteArray) (S : Nat → Prop) (cs : List Value) (w : World) (tg : Tg w) (hv : v.lies false w S cs) (hS : ∀ b, S b → b < w.heap.size) (hwt : v.wt ≤ 1099511627776) (hk : key.size ≤ 281474976710656) (hsr : Srt (memsOf v)) :
 Calls Tryz.prog 23 #[.agg cs.toArray, .string key] w (LdPost (ledF v key) w) := by
 obtain ⟨k, b, i, s, l, m⟩ := v
 rw [V.lies] at hv
 obtain ⟨al, cl, bl, ol, am, cm, bm, om, rfl, _, _, _, hal, ham, _, hm, _⟩ := hv
 have hz2 : (w.alloc (oV k b i s al l.length cl am m.length cm)).heap.size = w.heap.size + 1 := by rw [aSz]
 have hz2 := hz2; dsimp only [oV, oN] at hz2
 have B0 : Below w.heap.size w (w.alloc (oV k b i s al l.length cl am m.length cm)) := oBw w _
 have h0 : (w.alloc (oV k b i s al l.length cl am m.length cm)).heap[w.heap.size]? = _ := heap_alloc_new w _
 have HT : Hid (∀ W, Below w.heap.size w W → Tg W) := fun W hb => tg.below hb tg.z
 have hml : m.length ≤ 1099511627776 := by have := wtM_len m; simp only [V.wt] at hwt; omega
 have hll : l.length ≤ 1099511627776 := by have := wtL_len l; simp only [V.wt] at hwt; omega
 have HM : Hid (∀ W, Below w.heap.size w W → Calls Tryz.prog 34 #[.slice am m.length cm, .string key] W (fun e w' => e = .returned (.tuple #[.int .i64 (posF m key : Int), .bool (keyIs key m[posF m key]?)]) ∧ Below W.heap.size W w')) := fun W hb => find_any m key false S am cm bm om W ham (lMk (fun h => h) (fun x hx => hb.block x (hS x hx)) (fun _ h => h) _ hm) (fun x hx => Nat.lt_of_lt_of_le (hS x hx) hb.size) hsr hml
 have HX : Hid (∀ W, Below w.heap.size w W → Calls Tryz.prog 38 #[.string key, .int .i64 (l.length : Int)] W (IxPost (idxF key.data.toList l.length) W)) := fun W hb => index_any key l.length W hk (by omega) (tg.below hb tg.z)
 have HF : Hid (ledF (.mk k b i s l m) key = if k = 5 then (if keyIs key m[posF m key]? = true then (posF m key, 0) else (0, 41)) else if k = 4 then ((idxF key.data.toList l.length).getD 0, if (idxF key.data.toList l.length).isSome = true then 0 else 42) else (0, 41)) := by show _ = _; rfl
 generalize ledF (.mk k b i s l m) key = F at *
 generalize posF m key = p at *
 generalize keyIs key m[p]? = q at *
 generalize idxF key.data.toList l.length = O at *
 obtain ⟨r0, r1, r2, r3, r4, r5⟩ := sixC h0
 clear hm tg hsr hS hwt
 by_cases hk5 : k = 5
 ·subst hk5
  go_enter Tryz.func23, Tryz.ntmps23
  go_wp2_with fail
  refine (HM.out _ B0).mono ?_
  rintro e w1 ⟨rfl, b1⟩
  have hz1 := b1.size
  have B1 := B0.trans (b1.mono (by omega))
  cases q with
  | true =>
   have HR : Hid (F = (p, 0)) := by show _ = _; rw [HF.out]; simp
   go_wp2_with fail
   go_ret2
   exact ⟨by rw [HR.out]; rfl, B1⟩
  | false =>
   have HR : Hid (F = (0, 41)) := by show _ = _; rw [HF.out]; simp
   go_wp2_with fail
   go_ret2
   exact ⟨by rw [HR.out]; rfl, B1⟩
 ·by_cases hk4 : k = 4
  ·subst hk4
   go_enter Tryz.func23, Tryz.ntmps23
   go_wp2_with fail
   refine (HX.out _ B0).mono ?_
   rintro e w1 ⟨rfl, b1⟩
   have hz1 := b1.size
   have B1 := B0.trans (b1.mono (by omega))
   cases O with
   | some x =>
    have HR : Hid (F = (x, 0)) := by show _ = _; rw [HF.out]; simp
    go_wp2_with fail
    go_ret2
    exact ⟨by rw [HR.out]; rfl, B1⟩
   | none =>
    have HR : Hid (F = (0, 42)) := by show _ = _; rw [HF.out]; simp
    go_wp2_with fail
    go_ret2
    exact ⟨by rw [HR.out]; rfl, B1⟩
  ·have HR : Hid (F = (0, 41)) := by show _ = _; rw [HF.out, if_neg hk5, if_neg hk4]
   go_enter Tryz.func23, Tryz.ntmps23
   go_wp2_with fail
   go_ret2
   exact ⟨by rw [HR.out]; rfl, B0⟩
end Go.Proofs.YtnakligbogkmbaaGreatDoor
namespace Go.Proofs.YtnakligbogkmbaaGreatDoor
open Go.RowKit Go.Lib
def HdPost (x : V) (S : Nat → Prop) (w : World) (e : Ending) (w' : World) : Prop := ∃ cs : List Value, e = .returned (.agg cs.toArray) ∧ x.lies false w' S cs ∧ Below w.heap.size w w'
theorem lBw {v : V} {S : Nat → Prop} {cs : List Value} {w W : World} (h : v.lies false w S cs) (hS : ∀ b, S b → b < w.heap.size) (hb : Below w.heap.size w W) : v.lies false W S cs := V.lies_keep (fun h => h) (fun x hx => hb.block x (hS x hx)) (fun _ h => h) _ h
set_option maxHeartbeats 8000000 in
set_option maxRecDepth 100000 in
theorem held_any (v : V) (j : Nat) (S : Nat → Prop) (cs : List Value) (w : World) (hv : v.lies false w S cs) (hS : ∀ b, S b → b < w.heap.size) (hwt : v.wt ≤ 1099511627776) (hj : kidAt v j) :
 Calls Tryz.prog 24 #[.agg cs.toArray, .int .i64 (j : Int)] w (HdPost (kid v j) S w) := by
 obtain ⟨k, b, i, s, l, m⟩ := v
 rw [V.lies] at hv
 obtain ⟨al, cl, bl, ol, am, cm, bm, om, rfl, _, _, _, hal, ham, hl, hm, _⟩ := hv
 have hml : m.length ≤ 1099511627776 := by have := wtM_len m; simp only [V.wt] at hwt; omega
 have hll : l.length ≤ 1099511627776 := by have := wtL_len l; simp only [V.wt] at hwt; omega
 have hz2 : ((w.alloc (oV k b i s al l.length cl am m.length cm)).alloc oN).heap.size = w.heap.size + 2 := by rw [aSz, aSz]
 have hz2 := hz2; dsimp only [oV, oN] at hz2
 have B0 : Below w.heap.size w ((w.alloc (oV k b i s al l.length cl am m.length cm)).alloc oN) := tBw w _ _
 have h0 := a2k w (oV k b i s al l.length cl am m.length cm) oN
 have h1 := a2n w (oV k b i s al l.length cl am m.length cm) oN
 have rf : ∀ i', ((w.alloc (oV k b i s al l.length cl am m.length cm)).alloc oN).frozen? ⟨w.heap.size + 1, i', none⟩ = false := fBk h1
 obtain ⟨r0, r1, r2, r3, r4, r5⟩ := sixC h0
 obtain ⟨z0, z1, z2, z3, z4, z5⟩ := sixC h1
 clear hwt h0 h1
 rcases hj with ⟨hk, hj⟩ | ⟨hk, hj⟩
 focus
  obtain rfl : k = 4 := hk
  have hj' : j < l.length := hj
  have y1 : (j : Int) < l.length := by omega
  obtain ⟨hSb, csj, hrow, hlj⟩ := liesL_get hl j hj'
  obtain rfl : al = some ⟨bl, ol, none⟩ := hal.at_.resolve_left (by omega)
  have HK : Hid (kid (.mk 4 b i s l m) j = l[j]) := by
   show _ = _
   show (l.getD j nullV) = _
   rw [List.getD_eq_getElem?_getD, List.getElem?_eq_getElem hj']; rfl
  have HJ := hmk hlj
  generalize l[j] = X at *
  obtain ⟨ek, eb, ei, es, eal, enl, ecl, eam, enm, ecm, rfl⟩ := V.ten hlj
  obtain ⟨g0, g1, g2, g3, g4, g5⟩ := row6 (fun q u hu => (B0.cell (p := ⟨bl, _, none⟩) (hS _ hSb)).trans (hrow q u hu))
  clear hrow hlj hl hm
 rotate_left 1
 focus
  obtain rfl : k = 5 := hk
  have hj' : j < m.length := hj
  have y1 : (j : Int) < m.length := by omega
  obtain ⟨hSb, hks, csj, hrow, hlj⟩ := liesM_get hm j hj'
  obtain rfl : am = some ⟨bm, om, none⟩ := ham.at_.resolve_left (by omega)
  have HK : Hid (kid (.mk 5 b i s l m) j = (m[j]).2) := by
   show _ = _
   show (m.getD j (⟨#[]⟩, nullV)).2 = _
   rw [List.getD_eq_getElem?_getD, List.getElem?_eq_getElem hj']; rfl
  have HJ := hmk hlj
  obtain ⟨ekey, hek⟩ : ∃ ekey, (m[j]).1 = ekey := ⟨_, rfl⟩
  rw [hek] at hrow
  generalize (m[j]).2 = X at *
  obtain ⟨ek, eb, ei, es, eal, enl, ecl, eam, enm, ecm, rfl⟩ := V.ten hlj
  obtain ⟨g, g0, g1, g2, g3, g4, g5⟩ := row7 (fun q u hu => (B0.cell (p := ⟨bm, _, none⟩) (hS _ hSb)).trans (hrow q u hu))
  clear hrow hlj hl hm hek
 rotate_left 1
 all_goals
  go_enter Tryz.func24, Tryz.ntmps24
  go_wp2_with fail
  (try simp only [Exit.inBlock, Exit.then])
  refine bodyPost_ret (v := .agg #[.int .i64 ek, .bool eb, .int .i64 ei, .string es, .slice eal enl ecl, .slice eam enm ecm]) ?_ rfl ?_
  rotate_left
  ·rw [HK.out]
   refine ⟨[.int .i64 ek, .bool eb, .int .i64 ei, .string es, .slice eal enl ecl, .slice eam enm ecm], rfl, ?_⟩
   exact ⟨lBw HJ.out hS (tBw w _ _), tBw w _ _⟩
  rw [results_cell1 rfl]
  go_simp
end Go.Proofs.YtnakligbogkmbaaGreatDoor
