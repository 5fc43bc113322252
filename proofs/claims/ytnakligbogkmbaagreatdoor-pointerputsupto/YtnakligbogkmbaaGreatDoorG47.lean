/- joined: DonG PtrE LdgA AskA -/
import Derived.Test.YtnakligbogkmbaaGreatDoorDonD
import Derived.Test.YtnakligbogkmbaaGreatDoorDonF
import Derived.Laws.AppendOwn
set_option linter.unusedSimpArgs false
set_option linter.unusedVariables false
namespace Go.Proofs.YtnakligbogkmbaaGreatDoor
open Go.RowKit Go.Lib
theorem tok_tail {w W : World} {t : ByteArray} {ts : List ByteArray} {g o c : Nat} (hc : (t :: ts).length ≤ c) (hg : g < w.heap.size) (hr : ∀ j (h : j < (t :: ts).length), w.cell? ⟨g, o + j, none⟩ = some (.string (t :: ts)[j])) (hb : Below w.heap.size w W) : TokAt W (.slice (if c = 1 then some ⟨g, o, none⟩ else some ⟨g, o + 1, none⟩) ts.length (c - 1)) ts := by
 cases ts with
 | nil => exact .inl ⟨rfl, _, _, rfl⟩
 | cons t1 ts1 =>
  have h1 : (t :: t1 :: ts1).length = ts1.length + 2 := rfl
  have h2 : (t1 :: ts1).length = ts1.length + 1 := rfl
  refine .inr ⟨by simp, g, o + 1, c - 1, by rw [if_neg (by omega)], by omega, Nat.lt_of_lt_of_le hg hb.size, fun j hj => ?_⟩
  have h3 := hr (j + 1) (by omega)
  rw [← Nat.add_assoc, Nat.add_right_comm] at h3
  exact (hb.cell (p := ⟨g, _, none⟩) hg).trans h3
theorem led_le {v : V} {t : ByteArray} (h : (ledF v t).2 = 0) (hwt : v.wt ≤ 1114112) : (ledF v t).1 ≤ 2000000 := by
 obtain ⟨k, b, i, s, l, m⟩ := v
 have hml := wtM_len m
 have hll := wtL_len l
 simp only [V.wt] at hwt
 rcases led_kid h with ⟨_, hj⟩ | ⟨_, hj⟩
 ·have hj' : (ledF (.mk k b i s l m) t).1 < l.length := hj
  omega
 ·have hj' : (ledF (.mk k b i s l m) t).1 < m.length := hj
  omega
theorem done_any (what : Nat) (x : V) (S : Nat → Prop) (ds : List Value) : ∀ (ts : List ByteArray) (v : V) (cs : List Value) (tv : Value) (w : World), v.lies false w S cs → x.lies false w S ds → (∀ b, S b → b < w.heap.size) → v.wt ≤ 1114112 → allG v → TokAt w tv ts → (∀ t ∈ ts, t.size ≤ 281474976710656) →
 Calls Tryz.prog 28 #[.int .i64 (what : Int), .agg cs.toArray, tv, .agg ds.toArray] w (DnPost (doneF what x v ts) S w) := by
 intro ts
 induction ts with
 | nil =>
  intro v cs tv w hv hx hS hwt hg ht _
  have ht' : ∃ a c, tv = .slice a 0 c := by
   rcases ht with h | h
   ·exact h.2
   ·exact absurd h.1 (by simp)
  obtain ⟨a, c, rfl⟩ := ht'
  obtain ⟨k, b, i, s, al, nl, cl, am, nm, cm, rfl⟩ := V.ten hv
  obtain ⟨xk, xb, xi, xs, xal, xnl, xcl, xam, xnm, xcm, rfl⟩ := V.ten hx
  rw [doneF]
  by_cases h3 : what = 3
  ·subst h3
   rw [if_pos rfl]
   exact done_nil3 v x S k b i s al nl cl am nm cm xk xb xi xs xal xnl xcl xam xnm xcm a c w hv hx hS
  ·rw [if_neg h3]
   exact done_nil (what : Int) (by omega) v x S k b i s al nl cl am nm cm xk xb xi xs xal xnl xcl xam xnm xcm a c w hv hx hS
 | cons t ts ih =>
  intro v cs tv w hv hx hS hwt hg ht hts
  have ht' : ∃ g o c, tv = .slice (some ⟨g, o, none⟩) (t :: ts).length c ∧ (t :: ts).length ≤ c ∧ g < w.heap.size ∧ ∀ j (h : j < (t :: ts).length), w.cell? ⟨g, o + j, none⟩ = some (.string (t :: ts)[j]) := by
   rcases ht with h | h
   ·exact absurd h.1 (by simp)
   ·exact h.2
  obtain ⟨g, o, c, rfl, hc, hgw, hr⟩ := ht'
  have htok : w.cell? ⟨g, o, none⟩ = some (.string t) := hr 0 (by simp)
  have htz := hts t (List.mem_cons_self ..)
  have hsr := allG_srt hg
  have IH : (ledF v t).2 = 0 → ∀ W, Below w.heap.size w W → ∀ cs', (kid v (ledF v t).1).lies false W S cs' → Calls Tryz.prog 28 #[.int .i64 (what : Int), .agg cs'.toArray, .slice (if c = 1 then some ⟨g, o, none⟩ else some ⟨g, o + 1, none⟩) ts.length (c - 1), .agg ds.toArray] W (DnPost (doneF what x (kid v (ledF v t).1) ts) S W) := fun h0 W hb cs' hk =>
   ih _ cs' _ W hk (lBw hx hS hb) (fun y hy => Nat.lt_of_lt_of_le (hS y hy) hb.size) (Nat.le_trans (kid_wt (led_kid h0)) hwt) (allG_kid hg (led_kid h0)) (tok_tail hc hgw hr hb) (fun u hu => hts u (List.mem_cons_of_mem _ hu))
  obtain ⟨k, b, i, s, al, nl, cl, am, nm, cm, rfl⟩ := V.ten hv
  obtain ⟨xk, xb, xi, xs, xal, xnl, xcl, xam, xnm, xcm, rfl⟩ := V.ten hx
  by_cases hA : ts = [] ∧ what = 2
  ·rw [doneF, if_pos hA]
   obtain ⟨rfl, rfl⟩ := hA
   exact donA_ v x S k b i s al nl cl am nm cm xk xb xi xs xal xnl xcl xam xnm xcm t g o c w hv hx hS hgw htok htz hwt hsr hc
  ·by_cases h0 : (ledF v t).2 = 0
   ·by_cases hT : ts = [] ∧ what = 3
    ·rw [doneF, if_neg hA, if_pos h0, if_pos hT]
     obtain ⟨rfl, rfl⟩ := hT
     exact donT_ v x S k b i s al nl cl am nm cm xk xb xi xs xal xnl xcl xam xnm xcm t g o c w hv hx hS hgw htok htz hwt hsr hc h0 (led_le h0 hwt)
    ·have hQ : doneF what x v (t :: ts) = if (doneF what x (kid v (ledF v t).1) ts).2.2 = 0 then (withR v (ledF v t).1 (doneF what x (kid v (ledF v t).1) ts).1, (doneF what x (kid v (ledF v t).1) ts).2.1, 0) else (nullV, nullV, (doneF what x (kid v (ledF v t).1) ts).2.2) := by rw [doneF, if_neg hA, if_pos h0, if_neg hT]
     cases ts with
     | nil =>
      exact done_more_b v x S k b i s al nl cl am nm cm xk xb xi xs xal xnl xcl xam xnm xcm t g o c w hv hx hS hgw htok htz hwt hsr (what : Int) (fun h => hA ⟨rfl, by omega⟩) (fun h => hT ⟨rfl, by omega⟩) hc h0 (led_le h0 hwt) _ _ hQ (IH h0)
     | cons t1 ts1 =>
      exact done_more_a v x S k b i s al nl cl am nm cm xk xb xi xs xal xnl xcl xam xnm xcm t g o c w hv hx hS hgw htok htz hwt hsr (what : Int) (t :: t1 :: ts1).length (by simp) hc h0 (led_le h0 hwt) _ _ hQ (IH h0)
   ·rw [doneF, if_neg hA, if_neg h0]
    cases ts with
    | nil => exact done_fail_b v x S k b i s al nl cl am nm cm xk xb xi xs xal xnl xcl xam xnm xcm t g o c w hv hx hS hgw htok htz hwt hsr (what : Int) (fun h => hA ⟨rfl, by omega⟩) hc h0
    | cons t1 ts1 => exact done_fail_a v x S k b i s al nl cl am nm cm xk xb xi xs xal xnl xcl xam xnm xcm t g o c w hv hx hS hgw htok htz hwt hsr (what : Int) (t :: t1 :: ts1).length (by simp) hc h0
theorem ba_data (a b : ByteArray) : (a ++ b).data.toList = a.data.toList ++ b.data.toList := by simp [ByteArray.data_append]
theorem ba_appsize (a b : ByteArray) : (a ++ b).size = a.size + b.size := by
 rw [← toList_size, ba_data, List.length_append, toList_size, toList_size]
theorem ext_at (x : ByteArray) (k : Nat) (h : k < x.size) : (x.extract k (k + 1)).data.toList = [x[k]] := by
 rw [ByteArray.data_extract, Array.toList_extract, List.extract_eq_take_drop, Nat.add_sub_cancel_left]
 have h2 : k < x.data.toList.length := by rw [toList_size]; exact h
 rw [List.drop_eq_getElem_cons h2, List.take_succ_cons, List.take_zero]
 rfl
def strs (l : List ByteArray) : List Value := l.map Value.string
def OwnS (B : Nat) (v : Value) (l : List ByteArray) (w : World) : Prop := w.ownsRow B 9 1 v l.length (strs l)
theorem info9 : (Tryz.prog.info? 9).map (fun i => (i.zero, i.size, i.bytes)) = some (some (.string ⟨#[]⟩), 1, 16) := by kernel_rfl
theorem OwnS.lies {B : Nat} {v : Value} {l : List ByteArray} {w : World} (h : OwnS B v l w) : LiesS w v l := by
 have h' := h
 rcases h.2 with ⟨rfl, e⟩ | ⟨g, cap, cur, rfl, _, _, hle, _⟩
 ·exact ⟨⟨none, 0, by rw [e]⟩, fun h0 => by omega⟩
 ·refine ⟨⟨_, _, rfl⟩, fun h0 => ⟨g, 0, cap, rfl, hle, (World.ownsRow.lt h' g rfl).2, fun j hj => ?_⟩⟩
  have := World.ownsRow.cells h' (g := g) rfl j (.string l[j]) (by simp [strs, hj])
  rw [Go.WideShapes.add_plain] at this
  simpa using this
theorem wpl_appS {ops : Array Oper} {rest : List Oper} {o : Oper} {a : Act} {Q : Exit → Act → World → Prop} (w : World) (hgd : o.guard = none) (s x : Operand)
 (ho : o.op = .call { callee := .builtin .append, args := #[s, x], argTypes := #[40, 40] }) (B : Nat) (v : Value) (l : List ByteArray) (hs : a.eval s = v) (hown : OwnS B v l w)
 (g : Nat) (t : ByteArray) (hx : a.eval x = .slice (some ⟨g, 0, none⟩) 1 1) (hblk : w.heap[g]? = some (.cells #[.string t] 9))
 (hlen : l.length ≤ 4000000) (hbase : B ≤ w.heap.size)
 (h : ∀ v' w', OwnS B v' (l ++ [t]) w' → Below B w w' → wpList Tryz.prog ops Q rest (a.put o.dst v') w') : wpList Tryz.prog ops Q (o :: rest) a w := by
 obtain ⟨i0, hi, hz0, hz1, hz2⟩ := info_parts info9
 refine wpList_append_own w hgd s x 40 ho B 9 i0 (.string ⟨#[]⟩) 1 16 Tryz.underlying40 hi hz0 hz1 hz2 rfl (by decide) v l.length (strs l) hs hown ⟨g, 0, none⟩ 1 1 [.string t] hx
  rfl (World.news_of_block hblk) (fun u hu => by rw [List.mem_singleton.1 hu]; rfl) (by unfold maxLen; omega) (by omega) hbase ?_
 intro v' w' h1 h2 _
 refine h v' w' ?_ ((Below.refl B w).grown h2 hbase (fun k hk => (World.ownsRow.lt hown k hk).1))
 show w'.ownsRow B 9 1 v' (l ++ [t]).length (strs (l ++ [t]))
 have e : strs (l ++ [t]) = strs l ++ [.string t] := by simp [strs]
 rw [e, List.length_append]
 exact h1
theorem OwnS.alloc {B : Nat} {v : Value} {l : List ByteArray} {w : World} (h : OwnS B v l w) (o : Obj) : OwnS B v l (w.alloc o) :=
 World.ownsRow.kept h (World.grownBy_alloc w o none) (by cases v.ownBlock <;> simp)
theorem dat_snoc (ts : List ByteArray) (t : ByteArray) : dat (ts ++ [t]) = dat ts ++ [t.data.toList] := by simp [dat]
theorem rpF_nil (tok : List UInt8) : rpF tok [] = if validD tok = true then some [tok] else none := by rw [rpF]
theorem rpF_slash (tok t : List UInt8) : rpF tok (47 :: t) = if validD tok = true then (rpF [] t).map (tok :: ·) else none := by rw [rpF.eq_def]; simp
theorem rpF_plain (tok t : List UInt8) (x : UInt8) (h1 : ¬ x = 47) (h2 : ¬ x = 126) : rpF tok (x :: t) = rpF (tok ++ [x]) t := by rw [rpF.eq_def]; simp only [if_neg h1, if_neg h2]
theorem rpF_end (tok : List UInt8) : rpF tok [126] = none := by rw [rpF.eq_def]; simp
theorem rpF_tilde (tok u : List UInt8) (y : UInt8) : rpF tok (126 :: y :: u) = if y = 48 then rpF (tok ++ [126]) u else if y = 49 then rpF (tok ++ [47]) u else none := by rw [rpF.eq_def]; simp
theorem drop_at (p : ByteArray) (i : Nat) (h : i < p.size) : p.data.toList.drop i = p[i] :: p.data.toList.drop (i + 1) := by
 rw [List.drop_eq_getElem_cons (by rw [toList_size]; exact h)]
 rfl
def PaOwn (o : Option (List (List UInt8))) (w : World) (e : Ending) (w' : World) : Prop := ∃ (v : Value) (l : List ByteArray), e = .returned (.tuple #[v, .int .i64 (if o.isSome then 0 else 40)]) ∧ dat l = o.getD [] ∧ OwnS w.heap.size v l w' ∧ Below w.heap.size w w'
set_option maxHeartbeats 8000000 in
set_option maxRecDepth 100000 in
theorem rparse_own (p : ByteArray) (w : World) (hp : p.size ≤ 1100000) : Calls Tryz.prog 41 #[.string p] w (PaOwn (parF p.data.toList) w) := by
 have hpl := toList_size p
 obtain ⟨O, hO⟩ : ∃ O, parF p.data.toList = O := ⟨_, rfl⟩
 rw [hO]
 cases hd : p.data.toList with
 | nil =>
  rw [hd] at hO hpl
  obtain rfl : p = ⟨#[]⟩ := by
   rcases p with ⟨⟨q⟩⟩
   simp only at hd
   rw [hd]
  have HR : Hid (O = some []) := by show _ = _; rw [← hO, parF]
  clear hO
  go_enter Tryz.func41, Tryz.ntmps41
  go_wp2_with fail
  go_ret2
  exact ⟨_, [], by rw [HR.out]; rfl, by rw [HR.out]; rfl, World.ownsRow_nil _ _ 9 1, Below.refl _ _⟩
 | cons x q =>
  rw [hd] at hO hpl
  have hne : p.toList ≠ [] := by rw [ByteArray.toList_eq, hd]; simp
  have e0 : (p.toList == []) = false := by simpa using hne
  have hs0 : 0 < p.size := by rw [← hpl]; simp
  have hx0 : p[0] = x := by
   have : p.data.toList[0]? = some x := by rw [hd]; rfl
   rw [Array.getElem?_toList] at this
   exact Option.some.inj ((Array.getElem?_eq_getElem (xs := p.data) hs0).symm.trans this)
  have hx0n : (p[0]).toNat = x.toNat := by rw [hx0]
  clear hx0 hne
  by_cases h47 : x = 47
  ·subst h47
   have hx47 : ((p[0]).toNat : Int) = 47 := by rw [hx0n]; rfl
   have HO0 : Hid (O = rpF [] (p.data.toList.drop 1)) := by show _ = _; rw [← hO, par_rp, hd]; rfl
   have HDr : Hid (∀ i (h : i < p.size), p.data.toList.drop i = p[i] :: p.data.toList.drop (i + 1)) := fun i h => drop_at p i h
   have HDe : Hid (p.data.toList.drop p.size = []) := by show _ = _; rw [List.drop_eq_nil_iff, toList_size]; exact Nat.le_refl _
   clear hpl hx0n hd hO
   have z1 : (⟨#[126]⟩ : ByteArray).size = 1 := rfl
   have z2 : (⟨#[47]⟩ : ByteArray).size = 1 := rfl
   go_enter Tryz.func41, Tryz.ntmps41
   go_wp2_with fail
   go_loopw [4, 5, 6] (fun e4 e5 e6 wr => ∃ (i : Nat) (tok : ByteArray) (ts : List ByteArray) (bv : Value), bv = e4 ∧ e5 = .string tok ∧ e6 = .int .i64 (i : Int) ∧ 1 ≤ i ∧ i ≤ p.size + 1 ∧ ts.length ≤ i ∧ tok.size ≤ i ∧ OwnS w.heap.size bv ts wr ∧ Hid (Below w.heap.size w wr) ∧ Hid ((i ≤ p.size → O = (rpF tok.data.toList (p.data.toList.drop i)).map (dat ts ++ ·)) ∧ (i = p.size + 1 → O = some (dat ts)))) (fun _ _ e _ => p.size + 1 - (RowKit.intOf e).toNat)
   case atStart => exact ⟨1, ⟨#[]⟩, [], _, rfl, rfl, rfl, by omega, by omega, by simp, by show 0 ≤ 1; omega, World.ownsRow_nil _ _ 9 1, Below.refl _ _, ⟨fun _ => by rw [HO0.out]; simp [dat], fun h => by omega⟩⟩
   case round =>
    clear HO0
    obtain ⟨i, tok, ts, bv, rfl, rfl, rfl, hi1, hi2, htl, htk, hown, HB, HI⟩ := hrel
    have hzr := HB.out.size
    have CV := hmk (refValid_any tok (by omega) wr)
    by_cases hle : i ≤ p.size
    ·have y1 : (i : Int) ≤ p.size := by omega
     have HJ : Hid (O = (rpF tok.data.toList (p.data.toList.drop i)).map (dat ts ++ ·)) := HI.out.1 hle
     clear HI
     by_cases hie : i = p.size
     ·have y2 : (i : Int) = p.size := by omega
      have HVN : Hid (validD tok.data.toList = false → O = none) := fun h => by
       rw [HJ.out, hie, HDe.out, rpF_nil, if_neg (by simp [h])]; rfl
      have HVY : Hid (validD tok.data.toList = true → O = some (dat (ts ++ [tok]))) := fun h => by
       rw [HJ.out, hie, HDe.out, rpF_nil, if_pos h, dat_snoc]; rfl
      generalize validD tok.data.toList = V at *
      clear HJ
      go_wp2_with fail
      refine CV.out.mono ?_
      rintro e w1 ⟨rfl, rfl⟩
      cases V with
      | false =>
       have HR : Hid (O = none) := HVN.out (by first | trivial | rfl)
       go_wp2_with fail
       go_ret2
       exact ⟨_, [], by rw [HR.out]; rfl, by rw [HR.out]; rfl, World.ownsRow_nil _ _ 9 1, HB.out⟩
      | true =>
       go_wp2_with (at_builtin; go_loud (refine wpl_appS _ rfl (.tmp 35) (.tmp 37) rfl w.heap.size _ _ rfl (hown.alloc _) w1.heap.size tok rfl (alloc_last w1 _) (by omega) (by rw [aSz]; omega) ?_))
       intro v2 w2 o2 b2
       have B2 := (HB.out.alloc hzr _).trans b2
       go_wp2_with fail
       go_roundw
       case rel => exact ⟨i + 1, ⟨#[]⟩, ts ++ [tok], v2, rfl, rfl, by go_num, by omega, by omega, by simp; omega, by (show 0 ≤ _; omega), o2, B2, ⟨fun h => by omega, fun _ => HVY.out (by first | trivial | rfl)⟩⟩
       case measure => simp [RowKit.intOf]; omega
     ·have hil : i < p.size := by omega
      have y2 : ¬ (i : Int) = p.size := by omega
      have y3 : (i : Int) < p.size := by omega
      have hdr := HDr.out i hil
      by_cases c47 : p[i] = 47
      ·have ci : ((p[i]).toNat : Int) = 47 := by rw [c47]; rfl
       have HVN : Hid (validD tok.data.toList = false → O = none) := fun h => by
        rw [HJ.out, hdr, c47, rpF_slash, if_neg (by simp [h])]; rfl
       have HVY : Hid (validD tok.data.toList = true → O = (rpF [] (p.data.toList.drop (i + 1))).map (dat (ts ++ [tok]) ++ ·)) := fun h => by
        rw [HJ.out, hdr, c47, rpF_slash, if_pos h, dat_snoc, Option.map_map]
        congr 1
        funext z
        simp
       generalize validD tok.data.toList = V at *
       clear HJ hdr
       go_wp2_with fail
       refine CV.out.mono ?_
       rintro e w1 ⟨rfl, rfl⟩
       cases V with
       | false =>
        have HR : Hid (O = none) := HVN.out (by first | trivial | rfl)
        go_wp2_with fail
        go_ret2
        exact ⟨_, [], by rw [HR.out]; rfl, by rw [HR.out]; rfl, World.ownsRow_nil _ _ 9 1, HB.out⟩
       | true =>
        go_wp2_with (at_builtin; go_loud (refine wpl_appS _ rfl (.tmp 35) (.tmp 37) rfl w.heap.size _ _ rfl (hown.alloc _) w1.heap.size tok rfl (alloc_last w1 _) (by omega) (by rw [aSz]; omega) ?_))
        intro v2 w2 o2 b2
        have B2 := (HB.out.alloc hzr _).trans b2
        go_wp2_with fail
        go_roundw
        case rel => exact ⟨i + 1, ⟨#[]⟩, ts ++ [tok], v2, rfl, rfl, by go_num, by omega, by omega, by simp; omega, by (show 0 ≤ _; omega), o2, B2, ⟨fun _ => HVY.out (by first | trivial | rfl), fun h => by omega⟩⟩
        case measure => simp [RowKit.intOf]; omega
      ·have ci : ¬ ((p[i]).toNat : Int) = 47 := by have := neN p[i] 47 c47; simpa using this
       by_cases c126 : p[i] = 126
       ·have di : ((p[i]).toNat : Int) = 126 := by rw [c126]; rfl
        by_cases hil2 : i + 1 < p.size
        ·have y4 : (i : Int) + 1 < p.size := by omega
         have hdr2 := HDr.out (i + 1) hil2
         have HT : Hid (O = (if p[i + 1] = 48 then rpF (tok.data.toList ++ [126]) (p.data.toList.drop (i + 2)) else if p[i + 1] = 49 then rpF (tok.data.toList ++ [47]) (p.data.toList.drop (i + 2)) else none).map (dat ts ++ ·)) := by
          show _ = _
          rw [HJ.out, hdr, c126, hdr2, rpF_tilde]
         by_cases c48 : p[i + 1] = 48
         ·have ei : ((p[i + 1]).toNat : Int) = 48 := by rw [c48]; rfl
          have HN : Hid (O = (rpF (tok ++ ⟨#[126]⟩).data.toList (p.data.toList.drop (i + 2))).map (dat ts ++ ·)) := by show _ = _; rw [HT.out, if_pos c48, ba_data]
          have hsz := ba_appsize tok ⟨#[126]⟩
          clear HT HJ hdr hdr2
          go_wp2_with fail
          go_roundw
          case rel => exact ⟨i + 2, tok ++ ⟨#[126]⟩, ts, bv, rfl, rfl, by go_num, by omega, by omega, by omega, by omega, hown, HB, ⟨fun _ => HN.out, fun h => by omega⟩⟩
          case measure => simp [RowKit.intOf]; omega
         ·have ei : ¬ ((p[i + 1]).toNat : Int) = 48 := by have := neN p[i + 1] 48 c48; simpa using this
          by_cases c49 : p[i + 1] = 49
          ·have fi : ((p[i + 1]).toNat : Int) = 49 := by rw [c49]; rfl
           have HN : Hid (O = (rpF (tok ++ ⟨#[47]⟩).data.toList (p.data.toList.drop (i + 2))).map (dat ts ++ ·)) := by show _ = _; rw [HT.out, if_neg c48, if_pos c49, ba_data]
           have hsz := ba_appsize tok ⟨#[47]⟩
           clear HT HJ hdr hdr2
           go_wp2_with fail
           go_roundw
           case rel => exact ⟨i + 2, tok ++ ⟨#[47]⟩, ts, bv, rfl, rfl, by go_num, by omega, by omega, by omega, by omega, hown, HB, ⟨fun _ => HN.out, fun h => by omega⟩⟩
           case measure => simp [RowKit.intOf]; omega
          ·have fi : ¬ ((p[i + 1]).toNat : Int) = 49 := by have := neN p[i + 1] 49 c49; simpa using this
           have HR : Hid (O = none) := by show _ = _; rw [HT.out, if_neg c48, if_neg c49]; rfl
           clear HT HJ hdr hdr2
           go_wp2_with fail
           go_ret2
           exact ⟨_, [], by rw [HR.out]; rfl, by rw [HR.out]; rfl, World.ownsRow_nil _ _ 9 1, HB.out⟩
        ·have y4 : ¬ (i : Int) + 1 < p.size := by omega
         have HR : Hid (O = none) := by
          show _ = _
          have e1 : i + 1 = p.size := by omega
          rw [HJ.out, hdr, c126, e1, HDe.out, rpF_end]; rfl
         clear HJ hdr
         go_wp2_with fail
         go_ret2
         exact ⟨_, [], by rw [HR.out]; rfl, by rw [HR.out]; rfl, World.ownsRow_nil _ _ 9 1, HB.out⟩
       ·have di : ¬ ((p[i]).toNat : Int) = 126 := by have := neN p[i] 126 c126; simpa using this
        have HN : Hid (O = (rpF (tok ++ p.extract i (i + 1)).data.toList (p.data.toList.drop (i + 1))).map (dat ts ++ ·)) := by
         show _ = _
         rw [HJ.out, hdr, rpF_plain _ _ _ c47 c126, ba_data, ext_at p i hil]
        have hxs : (p.extract i (i + 1)).size = 1 := by rw [← toList_size, ext_at p i hil]; rfl
        have hsz := ba_appsize tok (p.extract i (i + 1))
        have y5 : (i : Int) + 1 ≤ p.size := by omega
        have hsl : (Instr.slice 9 (.string p) (some (.int .i64 (i : Int))) (some (.int .i64 ((i : Int) + 1))) none).run Tryz.prog wr = .ok (.string (p.extract i (i + 1))) wr := by
         rw [run_slice_string wr 9 p .i64 .i64 (i : Int) ((i : Int) + 1) Tryz.underlying9 (by omega) (by omega) (by omega)]
         rfl
        have b1 : ((i : Int) == (p.size : Int)) = false := by rw [beq_eq_false_iff_ne]; exact y2
        have b2 : (((p[i]).toNat : Int) == 47) = false := by rw [beq_eq_false_iff_ne]; exact ci
        have b3 : (((p[i]).toNat : Int) == 126) = false := by rw [beq_eq_false_iff_ne]; exact di
        have b4 : (((p[i]).toNat : Int) != 126) = true := by rw [bne_iff_ne]; exact di
        clear HJ hdr
        go_wp2_with fail
        go_roundw
        case rel => exact ⟨i + 1, tok ++ p.extract i (i + 1), ts, bv, rfl, rfl, by go_num, by omega, by omega, by omega, by omega, hown, HB, ⟨fun _ => HN.out, fun h => by omega⟩⟩
        case measure => simp [RowKit.intOf]; omega
    ·have y1 : ¬ (i : Int) ≤ p.size := by omega
     have HR : Hid (O = some (dat ts)) := HI.out.2 (by omega)
     have HL := hmk hown
     go_wp2_with fail
     go_ret2
     exact ⟨bv, ts, by rw [HR.out]; rfl, by rw [HR.out]; rfl, HL.out, HB.out⟩
  ·have HR : Hid (O = none) := by show _ = _; rw [← hO, parF, if_neg (fun h => h47 h.1)]
   have hxi : ¬ ((p[0]).toNat : Int) = 47 := by rw [hx0n]; have := neN x 47 h47; simpa using this
   clear hO
   go_enter Tryz.func41, Tryz.ntmps41
   go_wp2_with fail
   go_ret2
   exact ⟨_, [], by rw [HR.out]; rfl, by rw [HR.out]; rfl, World.ownsRow_nil _ _ 9 1, Below.refl _ _⟩
theorem grownBy_none {w w' : World} (hb : Below w.heap.size w w') : w.grownBy w' none := ⟨hb.os, hb.tape, hb.output, hb.size, fun k hk _ => hb.block k hk⟩
theorem OwnS.below {B : Nat} {v : Value} {l : List ByteArray} {w w' : World} (h : OwnS B v l w) (hb : Below w.heap.size w w') : OwnS B v l w' :=
 World.ownsRow.kept h (grownBy_none hb) (by cases v.ownBlock <;> simp)
def AkPost (rd : Int) (o : Option (List (List UInt8))) (w : World) (e : Ending) (w' : World) : Prop := ∃ (B : Nat) (tv : Value) (l : List ByteArray), w.heap.size ≤ B ∧ e = .returned (.tuple #[tv, .int .i64 rd]) ∧ (rd = 0 → dat l = o.getD []) ∧ OwnS B tv l w' ∧ Below w.heap.size w w'
set_option maxHeartbeats 8000000 in
set_option maxRecDepth 100000 in
theorem asked_any (v : V) (p : ByteArray) (S : Nat → Prop) (cs : List Value) (w : World) (hv : v.lies false w S cs) (hS : ∀ b, S b → b < w.heap.size) (hwt : v.wt ≤ 1099511627776) (hp : p.size ≤ 1100000) : Calls Tryz.prog 27 #[.agg cs.toArray, .string p] w (AkPost (rdF v p) (parF p.data.toList) w) := by
 have HV := hmk hv
 obtain ⟨k, b, i, s, al, nl, cl, am, nm, cm, rfl⟩ := V.ten hv
 clear hv
 have B0 : Below w.heap.size w (w.alloc (oV k b i s al nl cl am nm cm)) := oBw w _
 have hz0 : w.heap.size < (w.alloc (oV k b i s al nl cl am nm cm)).heap.size := by rw [aSz]; omega
 have hz0 := hz0; dsimp only [oV, oN] at hz0
 have h0 : (w.alloc (oV k b i s al nl cl am nm cm)).heap[w.heap.size]? = _ := heap_alloc_new w _
 have HC := hmk (rcheck_any false v 40 S _ (w.alloc (oV k b i s al nl cl am nm cm)) (lBw HV.out hS B0) (fun x hx => Nat.lt_of_lt_of_le (hS x hx) B0.size) hwt)
 have HP : Hid (∀ W, Calls Tryz.prog 41 #[.string p] W (PaOwn (parF p.data.toList) W)) := fun W => rparse_own p W hp
 have HR : Hid (rdF v p = if chkE v 40 = 0 then (if (parF p.data.toList).isSome then 0 else 40) else (chkE v 40 : Int)) := by show _ = _; rfl
 generalize rdF v p = rd at *
 generalize chkE v 40 = ce at *
 generalize parF p.data.toList = O at *
 clear hwt
 obtain ⟨r0, r1, r2, r3, r4, r5⟩ := sixC h0
 go_enter Tryz.func27, Tryz.ntmps27
 go_wp2_with fail
 clear r0 r1 r2 r3 r4 r5
 generalize (w.alloc (oV k b i s al nl cl am nm cm)) = w0 at *
 refine HC.out.mono ?_
 rintro e w1 ⟨rfl, b1⟩
 have hz1 := b1.size
 have B1 := B0.trans (b1.mono (by omega))
 by_cases hce : ce = 0
 ·subst hce
  go_wp2_with fail
  refine (HP.out w1).mono ?_
  rintro e w2 ⟨tv, l, rfl, hd, hl, b2⟩
  have hz2 := b2.size
  have B2 := B1.trans (b2.mono (by omega))
  cases O with
  | none =>
   have HN : Hid (rd = 40) := by show _ = _; rw [HR.out]; simp
   go_wp2_with fail
   go_ret2
   exact ⟨w1.heap.size, tv, l, by omega, by rw [HN.out]; rfl, (fun h => by rw [HN.out] at h; omega), hl, B2⟩
  | some o =>
   have HN : Hid (rd = 0) := by show _ = _; rw [HR.out]; simp
   go_wp2_with fail
   go_ret2
   exact ⟨w1.heap.size, tv, l, by omega, by rw [HN.out]; rfl, (fun _ => hd), hl, B2⟩
 ·have HN : Hid (rd = (ce : Int)) := by show _ = _; rw [HR.out, if_neg hce]
  have y1 : ¬ (ce : Int) = 0 := by omega
  go_wp2_with fail
  go_ret2
  exact ⟨w.heap.size, _, [], by omega, by rw [HN.out]; rfl, (fun h => by rw [HN.out] at h; omega), World.ownsRow_nil _ _ 9 1, B1⟩
end Go.Proofs.YtnakligbogkmbaaGreatDoor
