import Derived.Test.YtgnofbigggmilaaGreatDoorG40
import Derived.Test.YtgnofbigggmilaaGreatDoorPrnA
import Derived.Maps.AppendAt
set_option linter.unusedSimpArgs false
set_option linter.unusedVariables false
namespace Go.Proofs.YtgnofbigggmilaaGreatDoor
open Go.RowKit Go.Lib
set_option maxRecDepth 100000 in
theorem wpl_appT {ops : Array Oper} {rest : List Oper} {o : Oper} {a : Act} {Q : Exit → Act → World → Prop} (w : World) (hgd : o.guard = none) (s x : Operand)
 (ho : o.op = .call { callee := .builtin .append, args := #[s, x], argTypes := #[42, 42] }) (B : Nat) (v : Value) (l : List ByteArray) (hs : a.eval s = v) (hown : OwnS B v l w)
 (g : Nat) (t : ByteArray) (hx : a.eval x = .slice (some ⟨g, 0, none⟩) 1 1) (hblk : w.heap[g]? = some (.cells #[.string t] 9))
 (hlen : l.length ≤ 4000000) (hbase : B ≤ w.heap.size)
 (h : ∀ v' w', OwnS B v' (l ++ [t]) w' → w.grownBy w' v.ownBlock → (v'.ownBlock = v.ownBlock ∨ v'.ownBlock = some w.heap.size) → wpList Tryz.prog ops Q rest (a.put o.dst v') w') : wpList Tryz.prog ops Q (o :: rest) a w := by
 obtain ⟨i0, hi, hz0, hz1, hz2⟩ := info_parts info9
 refine wpList_append_own_at w hgd s x 42 ho B 9 i0 (.string ⟨#[]⟩) 1 16 Tryz.underlying42 hi hz0 hz1 hz2 rfl (by decide) v l.length (strs l) hs hown ⟨g, 0, none⟩ 1 1 [.string t] hx
  rfl (World.news_of_block hblk) (fun u hu => by rw [List.mem_singleton.1 hu]; rfl) (by unfold maxLen; omega) (by omega) hbase ?_
 intro v' w' h1 h2 _ h3
 refine h v' w' ?_ h2 h3
 show w'.ownsRow B 9 1 v' (l ++ [t]).length (strs (l ++ [t]))
 have e : strs (l ++ [t]) = strs l ++ [.string t] := by simp [strs]
 rw [e, List.length_append]
 exact h1
def Pls (v : V) (l : List ByteArray) : Prop := 0 < l.length ∧ l.length ≤ 60 ∧ ∀ q ∈ l, ∃ ts, Place v q ts
def PlPost (v : V) (w : World) (e : Ending) (w' : World) : Prop := ∃ (sv : Value) (l : List ByteArray), e = .returned sv ∧ LiesS w' sv l ∧ Pls v l ∧ Below w.heap.size w w'
theorem kds_place {v : V} {p : ByteArray} {ts : List ByteArray} (hc : chkE v 40 = 0) (h : Place v p ts) : kdsF v p = (ldgF (rgW v ts).1, 0) := by
 have e := get_place hc h
 rw [get_rg] at e
 rw [kdsF, e, if_pos rfl]
theorem kid_size {v x : V} {key p : ByteArray} {ts : List ByteArray} (h : Mv v x key) (hp : Place v p ts) {t : ByteArray} (ht : t ∈ ldgF (rgW v ts).1) : t.size ≤ 1003000 := by
 have hq := (place_kid (q := ⟨(p.data.toList ++ 47 :: esp t.data.toList).toArray⟩) h hp ht (by simp)).1
 have hr := hq.r
 rw [rg_snoc t ts v hp.r] at hr
 have hl : (ledF (rgW v ts).1 t).2 = 0 := by
  rw [rgW] at hr
  by_cases h0 : (ledF (rgW v ts).1 t).2 = 0
  ·exact h0
  ·rw [if_neg h0] at hr; exact absurd hr h0
 have a := tok_by hl
 have b := by_rg ts v hp.r
 have c := nd_rg ts v hp.r
 have := h.n
 have := h.b
 omega
theorem kids_at {v x : V} {key p : ByteArray} {ts : List ByteArray} (h : Mv v x key) (hp : Place v p ts) (S : Nat → Prop) (cs : List Value) (w : World) (tg : Tg w) (hv : v.lies false w S cs) (hS : ∀ b, S b → b < w.heap.size) (hwt : v.wt ≤ 2147483648) :
 Calls Tryz.prog 31 #[.agg cs.toArray, .string p] w (fun e w' => ∃ tv, e = .returned (.tuple #[tv, .int .i64 0]) ∧ OwnS w.heap.size tv (ldgF (rgW v ts).1) w' ∧ Below w.heap.size w w') := by
 have hps := place_size h hp
 have c := kids_own v p S cs w tg hv hS (by omega) (by omega)
 have e := kds_place h.cv hp
 unfold KoPost at c
 rw [e] at c
 exact c
theorem kids_are {v x : V} {key p : ByteArray} {ts : List ByteArray} (h : Mv v x key) (hp : Place v p ts) (t : ByteArray) (ht : t ∈ ldgF (rgW v ts).1) : t.size ≤ 1003000 ∧ validD t.data.toList = true ∧ ∀ q : ByteArray, q.data.toList = p.data.toList ++ 47 :: esp t.data.toList → ∃ us, Place v q us :=
 ⟨kid_size h hp ht, (place_kid (q := ⟨(p.data.toList ++ 47 :: esp t.data.toList).toArray⟩) h hp ht (by simp)).2, fun q hq => ⟨_, (place_kid h hp ht hq).1⟩⟩
theorem root_place (v : V) : Place v ⟨#[]⟩ [] := ⟨rfl, rfl, rfl⟩
set_option maxHeartbeats 8000000 in
set_option maxRecDepth 100000 in
theorem places_at (v x : V) (key : ByteArray) (S : Nat → Prop) (cs : List Value) (w : World) (tg : Tg w) (hm : Mv v x key) (hv : v.lies false w S cs) (hS : ∀ b, S b → b < w.heap.size) (hwt : v.wt ≤ 2147483648) :
 Calls Tryz.prog 23 #[.agg cs.toArray, .int .i64 60] w (PlPost v w) := by
 obtain ⟨k, b, i, s, al, nl, cl, am, nm, cm, rfl⟩ := V.ten hv
 have HL : Hid (∀ W, Below w.heap.size w W → v.lies false W S [.int .i64 k, .bool b, .int .i64 i, .string s, .slice al nl cl, .slice am nm cm] ∧ (∀ b, S b → b < W.heap.size) ∧ Tg W) := fun W hb =>
  ⟨V.lies_keep (fun h => h) (fun y hy => hb.block y (hS y hy)) (fun _ h => h) _ hv, fun y hy => Nat.lt_of_lt_of_le (hS y hy) hb.size, tg.below hb tg.z⟩
 have B0 : Below w.heap.size w (w.alloc (.cells #[.int .i64 k, .bool b, .int .i64 i, .string s, .slice al nl cl, .slice am nm cm] 25)) := one_belowG _ _
 have hz0 : (w.alloc (.cells #[.int .i64 k, .bool b, .int .i64 i, .string s, .slice al nl cl, .slice am nm cm] 25)).heap.size = w.heap.size + 1 := alloc_size _ _
 have hbx := heap_alloc_new w (.cells #[.int .i64 k, .bool b, .int .i64 i, .string s, .slice al nl cl, .slice am nm cm] 25)
 have b1 : Below (w.alloc (.cells #[.int .i64 k, .bool b, .int .i64 i, .string s, .slice al nl cl, .slice am nm cm] 25)).heap.size (w.alloc (.cells #[.int .i64 k, .bool b, .int .i64 i, .string s, .slice al nl cl, .slice am nm cm] 25)) ((w.alloc (.cells #[.int .i64 k, .bool b, .int .i64 i, .string s, .slice al nl cl, .slice am nm cm] 25)).alloc (.cells #[.string ⟨#[]⟩] 9)) := one_belowG _ _
 have hz1 : ((w.alloc (.cells #[.int .i64 k, .bool b, .int .i64 i, .string s, .slice al nl cl, .slice am nm cm] 25)).alloc (.cells #[.string ⟨#[]⟩] 9)).heap.size = w.heap.size + 2 := by simp only [alloc_size]
 have own0 : OwnS (w.heap.size + 1) (.slice (some ⟨w.heap.size + 1, 0, none⟩) 1 1) [⟨#[]⟩] ((w.alloc (.cells #[.int .i64 k, .bool b, .int .i64 i, .string s, .slice al nl cl, .slice am nm cm] 25)).alloc (.cells #[.string ⟨#[]⟩] 9)) := by
  have hn := alloc2_new w (.cells #[.int .i64 k, .bool b, .int .i64 i, .string s, .slice al nl cl, .slice am nm cm] 25) (.cells #[.string ⟨#[]⟩] 9)
  exact ⟨rfl, .inr ⟨w.heap.size + 1, 1, #[.string ⟨#[]⟩], rfl, Nat.le_refl _, hn, Nat.le_refl _, by unfold maxLen; omega, rfl, rfl⟩⟩
 clear hv tg
 go_enter Tryz.func23, Tryz.ntmps23
 go_wp2_with fail
 generalize ((w.alloc (.cells #[.int .i64 k, .bool b, .int .i64 i, .string s, .slice al nl cl, .slice am nm cm] 25)).alloc (.cells #[.string ⟨#[]⟩] 9)) = w1 at *
 generalize (w.alloc (.cells #[.int .i64 k, .bool b, .int .i64 i, .string s, .slice al nl cl, .slice am nm cm] 25)) = w0 at *
 go_loopw [5, 6] (fun e5 e6 wr => ∃ (L : List ByteArray) (jj : Nat), e6 = .int .i64 (jj : Int) ∧ jj ≤ 60 ∧ OwnS (w.heap.size + 1) e5 L wr ∧ Hid (Pls v L) ∧ Hid (Below (w.heap.size + 1) w0 wr)) (fun _ e6 _ => 60 - (RowKit.intOf e6).toNat)
 case atStart => exact ⟨[⟨#[]⟩], 0, rfl, by omega, own0, ⟨by simp, by simp, fun q hq => ⟨[], by rw [List.mem_singleton.1 hq]; exact root_place v⟩⟩, by have e : w0.heap.size = w.heap.size + 1 := hz0; rw [← e]; exact b1⟩
 case round =>
  clear own0 b1
  obtain ⟨L, jj, rfl, hi60, own, HP, HB⟩ := hrel
  obtain ⟨hp0, hp60, hpl⟩ := HP.out
  have hzr := HB.out.size
  have hli := own.lies
  have Bw : Below w.heap.size w wr := B0.trans (HB.out.mono (by omega))
  obtain ⟨g, o, c, rfl, hgc, hg, hcell⟩ := hli.2 hp0
  by_cases hil : jj < L.length
  ·have y1 : (jj : Int) < L.length := by omega
   by_cases hL : L.length < 60
   ·have y2 : (L.length : Int) < 60 := by omega
    obtain ⟨ts, hpt⟩ := hpl L[jj] (List.getElem_mem hil)
    have hci := hcell jj hil
    have hps := place_size hm hpt
    have hbr := (HB.out.block w.heap.size (by omega)).trans hbx
    have hgi : L[jj]? = some L[jj] := List.getElem?_eq_getElem hil
    have HPK := hmk (kids_are hm hpt)
    have HK0 := hmk (kids_at hm hpt S [.int .i64 k, .bool b, .int .i64 i, .string s, .slice al nl cl, .slice am nm cm])
    generalize L[jj] = p0 at *
    have HKD : Hid (∀ W, Below wr.heap.size wr W → Calls Tryz.prog 31 #[.agg #[.int .i64 k, .bool b, .int .i64 i, .string s, .slice al nl cl, .slice am nm cm], .string p0] W (fun e w' => ∃ tv, e = .returned (.tuple #[tv, .int .i64 0]) ∧ OwnS wr.heap.size tv (ldgF (rgW v ts).1) w' ∧ Below wr.heap.size wr w')) := fun W hb => by
     have q := HL.out W (Bw.trans (hb.mono Bw.size))
     exact (HK0.out W q.2.2 q.1 q.2.1 hwt).mono fun e w' ⟨tv, he, ow, h2⟩ => ⟨tv, he, ow.low hb.size, hb.trans (h2.mono hb.size)⟩
    have hKl : (ldgF (rgW v ts).1).length ≤ 2147483648 := Nat.le_trans (ldg_len _) (Nat.le_trans (rgW_wt ts v) hwt)
    generalize ldgF (rgW v ts).1 = KL at *
    have own' := hmk own
    have hj60 : jj < 60 := by omega
    clear hpl hcell own hpt
    go_wp2_with fail
    refine wp_region_held_drew (S := fun W => Below wr.heap.size wr W) (by kernel_rfl) ((Below.refl _ _).drew) (fun hHeld => ?_)
    (refine tkA 0 ?_ ?_ ?_; rotate_left 1; (intro W0 hSw; (obtain ⟨e0, e1, e2, e3, e4, e5⟩ := sixC ((hSw.block w.heap.size (by omega)).trans hbr)); go_simp; (try with_reducible rfl)); (try simp only [Act.put, zA, zB, zC]))
    (refine tjA 1 ?_; (try simp only [Act.put, zA, zB, zC]))
    (refine tjA 2 ?_; (try simp only [Act.put, zA, zB, zC]))
    (refine tjA 3 ?_; (try simp only [Act.put, zA, zB, zC]))
    (refine tkA 4 ?_ ?_ ?_; rotate_left 1; (intro W0 hSw; (have e4 := (hSw.cell (p := ⟨g, o + jj, none⟩) hg).trans hci); go_simp; (try with_reducible rfl)); (try simp only [Act.put, zA, zB, zC]))
    refine ryA [5] ?_
    refine rA1 fun K hK => ?_
    go_simp
    refine (HKD.out _ hHeld).mono ?_
    rintro e wk ⟨kv, rfl, kown, bk⟩
    go_simp
    refine hK.out _ _ bk (fun hHeld => ?_)
    clear hK K
    (try simp only [Act.put, zA, zB, zC])
    (refine tjA 6 ?_; (try simp only [Act.put, zA, zB, zC]))
    (refine tjA 7 ?_; (try simp only [Act.put, zA, zB, zC]))
    (refine tjA 8 ?_; (try simp only [Act.put, zA, zB, zC]))
    (refine tjA 9 ?_; (try simp only [Act.put, zA, zB, zC]))
    (refine tjA 10 ?_; (try simp only [Act.put, zA, zB, zC]))
    refine wpAnyH_done (by kernel_rfl) ?_ _
    (try dsimp only [Act.put, List.getElem_toArray, List.getElem_cons_succ, List.getElem_cons_zero, List.setIfInBounds_toArray, List.set_cons_zero, List.set_cons_succ])
    clear hHeld hbr
    have hzk := bk.size
    have HBk : Hid (Below (w.heap.size + 1) w0 wk) := HB.out.trans (bk.mono (by omega))
    obtain ⟨ka, kc, rfl⟩ := kown.lies.1
    have kown' := hmk kown
    have own1 : OwnS (w.heap.size + 1) (.slice (some ⟨g, o, none⟩) L.length c) L wk := own'.out.move fun y h1 h2 => bk.block y h2
    clear kown HKD HK0 hci
    obtain ⟨wO, hwO⟩ : ∃ z : World, z = wr := ⟨wr, rfl⟩
    subst hwO
    go_wp2_with fail
    go_loopw [5, 9] (fun e5 e9 wr => ∃ (M : List ByteArray) (n : Nat), e9 = .int .i64 (n : Int) ∧ n ≤ KL.length ∧ OwnS (w.heap.size + 1) e5 M wr ∧ M[jj]? = some p0 ∧ Hid (Pls v M) ∧ Hid (Below (w.heap.size + 1) w0 wr) ∧ Hid (∀ y, wO.heap.size ≤ y → y < wk.heap.size → wr.heap[y]? = wk.heap[y]?) ∧ wk.heap.size ≤ wr.heap.size ∧ Hid (∀ r, e5.ownBlock = some r → r < wO.heap.size ∨ wk.heap.size ≤ r)) (fun _ e9 _ => KL.length - (RowKit.intOf e9).toNat)
    case atStart => exact ⟨L, 0, rfl, by omega, own1, hgi, HP, HBk, fun _ _ _ => rfl, Nat.le_refl _, fun r hr => .inl (by have e : g = r := (by simpa [Value.ownBlock] using hr); omega)⟩
    case round =>
     clear own1 HP HB HBk own' hgi hp0 hp60 hil hL y1 y2
     obtain ⟨M, n, rfl, hn, own, hMj, HP, HB, HK, hzz, HO⟩ := hrel
     obtain ⟨wz, hwz⟩ : ∃ z : World, z = wr := ⟨wr, rfl⟩
     subst hwz
     obtain ⟨hp0, hp60, hpl⟩ := HP.out
     have hjM : jj < M.length := by
      rcases Nat.lt_or_ge jj M.length with h | h
      ·exact h
      ·rw [List.getElem?_eq_none h] at hMj; cases hMj
     obtain ⟨mg, mo, mc, rfl, hmc, hmg, hmcell⟩ := own.lies.2 hp0
     have kz : OwnS wO.heap.size (.slice ka KL.length kc) KL wz := kown'.out.move fun y h1 h2 => HK.out y h1 h2
     by_cases hnK : n < KL.length
     ·have y1 : (n : Int) < KL.length := by omega
      by_cases hM : M.length < 60
      ·have y2 : (M.length : Int) < 60 := by omega
       obtain ⟨kg, ko, kc2, ek, hkc, hkg, hkcell⟩ := kz.lies.2 (by omega)
       cases ek
       have ct := hkcell n hnK
       have cp := hmcell jj hjM
       have ep : M[jj] = p0 := by rw [List.getElem?_eq_getElem hjM] at hMj; exact Option.some.inj hMj
       rw [ep] at cp
       obtain ⟨t1, t2, t3⟩ := HPK.out KL[n] (List.getElem_mem hnK)
       have HT3 := hmk t3
       have Bz : Below w.heap.size w wz := B0.trans (HB.out.mono (by omega))
       have HN : Hid (n < KL.length) := hnK
       generalize KL[n] = t at *
       have ba : Below wz.heap.size wz (wz.alloc (.cells #[.string t] 9)) := one_belowG _ _
       have hza : (wz.alloc (.cells #[.string t] 9)).heap.size = wz.heap.size + 1 := alloc_size _ _
       have hn1 := heap_alloc_new wz (.cells #[.string t] 9)
       have lt : LiesS (wz.alloc (.cells #[.string t] 9)) (.slice (some ⟨wz.heap.size, 0, none⟩) 1 1) [t] := ⟨⟨_, _, rfl⟩, fun _ => ⟨wz.heap.size, 0, 1, rfl, Nat.le_refl _, by omega, fun q hq => by
        have : q = 0 := by simpa using hq
        subst this
        rw [cell_of_block hn1]; rfl⟩⟩
       have CP := pprint_any [t] _ (wz.alloc (.cells #[.string t] 9)) lt (by simp [totS]; omega) (HL.out _ (Bz.trans (ba.mono Bz.size))).2.2.t
       have epr : prA (dat [t]) = some (47 :: esp t.data.toList) := by
        rw [prA, if_pos (by simpa [dat] using t2)]
        simp [dat, prT]
       rw [epr] at CP
       have CP : Hid (Calls Tryz.prog 29 #[.slice (some ⟨wz.heap.size, 0, none⟩) 1 1] (wz.alloc (.cells #[.string t] 9)) (fun e w' => e = .returned (.tuple #[.string ⟨(47 :: esp t.data.toList).toArray⟩, .int .i64 0]) ∧ Below (wz.alloc (.cells #[.string t] 9)).heap.size (wz.alloc (.cells #[.string t] 9)) w')) := CP
       have HS : Hid ((⟨(47 :: esp t.data.toList).toArray⟩ : ByteArray).data.toList = 47 :: esp t.data.toList) := by show _ = _; simp
       have hpss : (⟨(47 :: esp t.data.toList).toArray⟩ : ByteArray).size ≤ 2006001 := by
        have := esp_len t.data.toList
        rw [toList_size] at this
        rw [ba_size, List.length_cons]; omega
       generalize (⟨(47 :: esp t.data.toList).toArray⟩ : ByteArray) = ps at *
       have y7 : ¬ 9223372036854775807 < p0.size + ps.size := by omega
       clear lt epr hmcell hkcell
       go_wp2_with fail
       generalize (wz.alloc (.cells #[.string t] 9)) = wa at *
       refine CP.out.mono ?_
       rintro e wp ⟨rfl, bp⟩
       have hzp := bp.size
       have hzp' : wz.heap.size ≤ wp.heap.size := by omega
       have bzp : Below wz.heap.size wz wp := ba.trans (bp.mono (by omega))
       have cp' := (bzp.cell (p := ⟨mg, mo + jj, none⟩) hmg).trans cp
       have ownp : OwnS (w.heap.size + 1) (.slice (some ⟨mg, mo, none⟩) M.length mc) M wp := own.move fun y h1 h2 => bzp.block y h2
       have ownq := ownp.alloc (.cells #[.string (p0 ++ ps)] 9)
       have hn2 := heap_alloc_new wp (.cells #[.string (p0 ++ ps)] 9)
       have hzq : (wp.alloc (.cells #[.string (p0 ++ ps)] 9)).heap.size = wp.heap.size + 1 := alloc_size _ _
       have bq : Below wp.heap.size wp (wp.alloc (.cells #[.string (p0 ++ ps)] 9)) := one_belowG _ _
       have HB1 := HB.out
       clear CP ba bp
       go_wp2_with (at_builtin; go_loud (refine wpl_appT _ rfl (.tmp 59) (.tmp 66) rfl (w.heap.size + 1) (.slice (some ⟨mg, mo, none⟩) M.length mc) M rfl ownq wp.heap.size (p0 ++ ps) rfl hn2 (by omega) (by omega) ?_))
       intro v' w' ow' g' lnd
       have hzw := g'.size
       have BB : Below (w.heap.size + 1) w0 w' := (HB1.trans ((bzp.trans (bq.mono hzp')).mono (by omega))).trans ((Below.refl (w.heap.size + 1) _).grown g' (by omega) (fun q hq => (World.ownsRow.lt ownq q hq).1))
       have hmgO := HO.out mg rfl
       have HK2 : Hid (∀ y, wO.heap.size ≤ y → y < wk.heap.size → w'.heap[y]? = wk.heap[y]?) := fun y h1 h2 => by
        refine (g'.block y (by omega) (fun e => ?_)).trans ((bq.block y (by omega)).trans ((bzp.block y (by omega)).trans (HK.out y h1 h2)))
        have e' : y = mg := Option.some.inj e
        omega
       have HO2 : Hid (∀ r, v'.ownBlock = some r → r < wO.heap.size ∨ wk.heap.size ≤ r) := fun r hr => by
        rcases lnd with e | e
        ·rw [e] at hr
         exact HO.out r hr
        ·rw [e] at hr
         have e' := Option.some.inj hr
         exact .inr (by omega)
       have HP2 : Hid (Pls v (M ++ [p0 ++ ps])) := ⟨by simp, by simp; omega, fun q hq => by
        rcases List.mem_append.1 hq with hq | hq
        ·exact hpl q hq
        ·rw [List.mem_singleton.1 hq]
         refine HT3.out _ ?_
         rw [← HS.out, ByteArray.data_append]
         simp⟩
       have hM2 : (M ++ [p0 ++ ps])[jj]? = some p0 := by rw [List.getElem?_append_left hjM]; exact hMj
       clear hpl HT3 HS lnd
       go_wp2_with fail
       go_roundw
       case rel => exact ⟨M ++ [p0 ++ ps], n + 1, by go_num, by have := HN.out; omega, ow', hM2, HP2, BB, HK2, by omega, HO2⟩
       case measure => have := HN.out; simp [RowKit.intOf]; omega
      ·have y2 : ¬ (M.length : Int) < 60 := by omega
       clear hpl
       go_wp2_with fail
       go_roundw
       case rel => exact ⟨M, jj + 1, by go_num, by omega, own, HP, HB⟩
       case measure => simp [RowKit.intOf]; omega
     ·have y1 : ¬ (n : Int) < KL.length := by omega
      clear hpl
      go_wp2_with fail
      go_roundw
      case rel => exact ⟨M, jj + 1, by go_num, by omega, own, HP, HB⟩
      case measure => simp [RowKit.intOf]; omega
   ·have y2 : ¬ (L.length : Int) < 60 := by omega
    go_wp2_with fail
    go_ret
    exact ⟨_, L, rfl, hli, HP.out, Bw⟩
  ·have y1 : ¬ (jj : Int) < L.length := by omega
   go_wp2_with fail
   go_ret
   exact ⟨_, L, rfl, hli, HP.out, Bw⟩
end Go.Proofs.YtgnofbigggmilaaGreatDoor
