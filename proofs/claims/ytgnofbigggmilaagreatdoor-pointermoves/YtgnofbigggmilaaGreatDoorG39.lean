/- joined: PlcP StrA StrB LdgA -/
import Derived.Test.YtgnofbigggmilaaGreatDoorG38
import Derived.Laws.AppendOwn
set_option linter.unusedSimpArgs false
set_option linter.unusedVariables false
namespace Go.Proofs.YtgnofbigggmilaaGreatDoor
open Go.RowKit Go.Lib
theorem dec_len (n : Nat) : ∀ u, u ≤ n → (decDigits u).length ≤ u + 1 := by
 induction n with
 | zero =>
  intro u hu
  obtain rfl : u = 0 := by omega
  rw [decDigits, dif_pos (by omega)]
  simp
 | succ n ih =>
  intro u hu
  rw [decDigits]
  by_cases h : u < 10
  ·rw [dif_pos h]; simp
  ·rw [dif_neg h]
   have := ih (u / 10) (by omega)
   simp only [List.length_append, List.length_cons, List.length_nil]
   omega
theorem ndL_len : ∀ l : List V, l.length ≤ ndL l
 | [] => Nat.le_refl _
 | x :: t => by have := ndL_len t; have := nd_pos x; rw [ndL, List.length_cons]; omega
theorem keyB_mem {m : List Mem} {x : Mem} (h : x ∈ m) : x.1.size ≤ keyB m := by
 obtain ⟨a, b, rfl⟩ := List.append_of_mem h
 rw [keyB_app, keyB]; omega
theorem byM_mem {m : List Mem} {x : Mem} (h : x ∈ m) : byV x.2 ≤ byM m := by
 obtain ⟨a, b, rfl⟩ := List.append_of_mem h
 obtain ⟨k, y⟩ := x
 rw [byM_app, byM]; simp only; omega
theorem byL_mem {l : List V} {x : V} (h : x ∈ l) : byV x ≤ byL l := by
 obtain ⟨a, b, rfl⟩ := List.append_of_mem h
 rw [byL_app, byL]; omega
theorem ba_of {a b : ByteArray} (e : a.toList = b.toList) : a = b := by
 rw [ByteArray.toList_eq, ByteArray.toList_eq] at e
 rcases a with ⟨⟨x⟩⟩
 rcases b with ⟨⟨y⟩⟩
 have e' : x = y := e
 rw [e']
theorem nd_kid {v : V} {j : Nat} (hj : kidAt v j) : ndV (kid v j) ≤ ndV v := by
 have := nd_repl hj nullV
 have := nd_pos (replV v j nullV)
 have e : ndV nullV = 1 := by kernel_rfl
 omega
theorem tok_by {v : V} {t : ByteArray} (h : (ledF v t).2 = 0) : t.size + byV (kid v (ledF v t).1) ≤ byV v + ndV v := by
 obtain ⟨k, b, i, s, l, m⟩ := v
 have hj := led_kid h
 by_cases h5 : k = 5
 ·subst h5
  rw [led5] at h ⊢
  by_cases hk : keyIs t m[posF m t]? = true
  ·rw [if_pos hk]
   have hlt : posF m t < m.length := by
    rcases Nat.lt_or_ge (posF m t) m.length with h | h
    ·exact h
    ·rw [List.getElem?_eq_none h] at hk; cases hk
   rw [List.getElem?_eq_getElem hlt] at hk
   have e : (m[posF m t]).1 = t := ba_of (by simpa [keyIs] using hk)
   have a1 := keyB_mem (List.getElem_mem hlt)
   have a2 := byM_mem (List.getElem_mem hlt)
   rw [e] at a1
   simp only
   rw [kid_map hlt, byV]; omega
  ·rw [if_neg hk] at h; cases h
 ·by_cases h4 : k = 4
  ·subst h4
   rw [led4] at h ⊢
   cases e1 : idxF t.data.toList l.length with
   | none => rw [e1] at h; cases h
   | some a =>
    have hlt := idxF_lt e1
    have p1 : decDigits a = t.data.toList := by simpa using List.find?_some e1
    have hl := dec_len a a (Nat.le_refl _)
    rw [p1, toList_size] at hl
    have a2 := byL_mem (List.getElem_mem hlt)
    have a3 := ndL_len l
    simp only [Option.getD_some]
    rw [kid_list hlt, byV, ndV]; omega
  ·rw [ledF, if_neg (show ¬ kindOf (V.mk k b i s l m) = 5 from h5), if_neg (show ¬ kindOf (V.mk k b i s l m) = 4 from h4)] at h
   cases h
theorem tot_path : ∀ (ts : List ByteArray) (v : V), (rgW v ts).2 = 0 → totS ts ≤ byV v + ts.length * (ndV v + 1)
 | [], v, _ => by simp [totS]
 | t :: ts, v, h => by
  obtain ⟨h0, h1, _⟩ := rg_cons h
  have ih := tot_path ts _ h1
  have a := tok_by h0
  have c := nd_kid (led_kid h0)
  have e : totS (t :: ts) = t.size + 1 + totS ts := by simp [totS]
  have m1 : ts.length * (ndV (kid v (ledF v t).1) + 1) ≤ ts.length * (ndV v + 1) := Nat.mul_le_mul_left _ (by omega)
  rw [e, List.length_cons, Nat.add_mul]
  omega
theorem place_size {v x : V} {key p : ByteArray} {ts : List ByteArray} (h : Mv v x key) (hp : Place v p ts) : p.size + 2 * (byV x + key.size) ≤ 2300000 := by
 have a := tot_path ts v hp.r
 have b := prT_len ts
 rw [← hp.p, toList_size] at b
 have c := dp_rg ts v hp.r
 have d := h.d
 have e := h.n
 have f := h.b
 have m1 : ts.length * (ndV v + 1) ≤ 38 * 3001 := Nat.mul_le_mul (by omega) (by omega)
 omega
theorem place_kid {v x : V} {key p q : ByteArray} {ts : List ByteArray} (h : Mv v x key) (hp : Place v p ts) {t : ByteArray} (ht : t ∈ ldgF (rgW v ts).1) (hq : q.data.toList = p.data.toList ++ 47 :: esp t.data.toList) : Place v q (ts ++ [t]) ∧ validD t.data.toList = true := by
 have hg := all_rg ts v h.g hp.r
 have hn := nd_rg ts v hp.r
 have hnv := h.n
 have key2 : validD t.data.toList = true ∧ (ledF (rgW v ts).1 t).2 = 0 := by
  revert ht hg hn
  generalize (rgW v ts).1 = o
  obtain ⟨k, b, i, s, l, m⟩ := o
  intro ht hg hn
  rw [ldgF] at ht
  rw [allG] at hg
  have hgd := hg.1
  simp only [goodB, Bool.and_eq_true, plainB, decide_eq_true_iff] at hgd
  rcases List.mem_append.1 ht with ht | ht
  ·have hl0 : (listOf (V.mk k b i s l m)).length = l.length := rfl
   rw [digs, hl0] at ht
   obtain ⟨j, hj, rfl⟩ := List.mem_map.1 ht
   have hjl : j < l.length := List.mem_range.1 hj
   have hk4 : k = 4 := by
    rcases hgd.1.1.2.2.2.2.2.1 with e | e
    ·exact e
    ·omega
   subst hk4
   rw [ndV] at hn
   have := ndL_len l
   rw [led_dig hjl (by omega)]
   exact ⟨dec_valid j, rfl⟩
  ·obtain ⟨y, hy, rfl⟩ := List.mem_map.1 ht
   have hy' : y ∈ m := hy
   have hk5 : k = 5 := by
    rcases hgd.1.1.2.2.2.2.2.2 with e | e
    ·exact e
    ·have : m = [] := List.length_eq_zero_iff.1 (by omega)
     rw [this] at hy'; cases hy'
   subst hk5
   refine ⟨rise_utf hgd.2 y hy', ?_⟩
   obtain ⟨j, hj, rfl⟩ := List.getElem_of_mem hy'
   have hs := srt_rise hgd.2
   have q1 : ltB (m[j]).1 (m[j]).1 = false := by
    cases hb : ltB (m[j]).1 (m[j]).1 with
    | false => rfl
    | true =>
     have h1 := (ltB_cmp _ _).1 hb
     have h2 := (cmpS_zero (m[j]).1 (m[j]).1).2 rfl
     rw [h2] at h1
     cases h1
   rw [pos_less hs hj] at q1
   have q2 := of_decide_eq_false q1
   have q3 : j ≤ posF m (m[j]).1 := by
    rcases Nat.eq_zero_or_pos j with h0 | h0
    ·omega
    ·have hp := (List.pairwise_iff_getElem.1 hs) (j - 1) j (by omega) hj (by omega)
     rw [pos_less hs (by omega)] at hp
     have := of_decide_eq_true hp
     omega
   have q4 : posF m (m[j]).1 = j := by omega
   rw [led5, q4, List.getElem?_eq_getElem hj, if_pos (by simp [keyIs])]
 refine ⟨⟨snoc_p hp.p hq, snoc_u hp.u key2.1, ?_⟩, key2.1⟩
 rw [rg_snoc t ts v hp.r, rg_one key2.2]
def strs (l : List ByteArray) : List Value := l.map Value.string
def OwnS (B : Nat) (v : Value) (l : List ByteArray) (w : World) : Prop := w.ownsRow B 9 1 v l.length (strs l)
theorem info9 : (Tryz.prog.info? 9).map (fun i => (i.zero, i.size, i.bytes)) = some (some (.string ⟨#[]⟩), 1, 16) := by kernel_rfl
theorem OwnS.lies {B : Nat} {v : Value} {l : List ByteArray} {w : World} (h : OwnS B v l w) : LiesS w v l := by
 have h' := h
 rcases h.2 with ⟨rfl, e⟩ | ⟨g, cap, cur, rfl, _, _, hle, _⟩
 ·exact ⟨⟨none, 0, by rw [e]⟩, fun h0 => by omega⟩
 ·refine ⟨⟨_, _, rfl⟩, fun h0 => ⟨g, 0, cap, rfl, hle, (World.ownsRow.lt h' g rfl).2, fun j hj => ?_⟩⟩
  have := World.ownsRow.cells h' (g := g) rfl j (.string l[j]) (by simp [strs, hj])
  rw [Go.WideShapes.add_plain] at this
  simpa using this
theorem wpl_appS {ops : Array Oper} {rest : List Oper} {o : Oper} {a : Act} {Q : Exit → Act → World → Prop} (w : World) (hgd : o.guard = none) (s x : Operand)
 (ho : o.op = .call { callee := .builtin .append, args := #[s, x], argTypes := #[42, 42] }) (B : Nat) (v : Value) (l : List ByteArray) (hs : a.eval s = v) (hown : OwnS B v l w)
 (g : Nat) (t : ByteArray) (hx : a.eval x = .slice (some ⟨g, 0, none⟩) 1 1) (hblk : w.heap[g]? = some (.cells #[.string t] 9))
 (hlen : l.length ≤ 4000000) (hbase : B ≤ w.heap.size)
 (h : ∀ v' w', OwnS B v' (l ++ [t]) w' → Below B w w' → wpList Tryz.prog ops Q rest (a.put o.dst v') w') : wpList Tryz.prog ops Q (o :: rest) a w := by
 obtain ⟨i0, hi, hz0, hz1, hz2⟩ := info_parts info9
 refine wpList_append_own w hgd s x 42 ho B 9 i0 (.string ⟨#[]⟩) 1 16 Tryz.underlying42 hi hz0 hz1 hz2 rfl (by decide) v l.length (strs l) hs hown ⟨g, 0, none⟩ 1 1 [.string t] hx
  rfl (World.news_of_block hblk) (fun u hu => by rw [List.mem_singleton.1 hu]; rfl) (by unfold maxLen; omega) (by omega) hbase ?_
 intro v' w' h1 h2 _
 refine h v' w' ?_ ((Below.refl B w).grown h2 hbase (fun k hk => (World.ownsRow.lt hown k hk).1))
 show w'.ownsRow B 9 1 v' (l ++ [t]).length (strs (l ++ [t]))
 have e : strs (l ++ [t]) = strs l ++ [.string t] := by simp [strs]
 rw [e, List.length_append]
 exact h1
theorem OwnS.alloc {B : Nat} {v : Value} {l : List ByteArray} {w : World} (h : OwnS B v l w) (o : Obj) : OwnS B v l (w.alloc o) :=
 World.ownsRow.kept h (World.grownBy_alloc w o none) (by cases v.ownBlock <;> simp)
theorem grownBy_none {w w' : World} (hb : Below w.heap.size w w') : w.grownBy w' none := ⟨hb.os, hb.tape, hb.output, hb.size, fun k hk _ => hb.block k hk⟩
theorem OwnS.below {B : Nat} {v : Value} {l : List ByteArray} {w w' : World} (h : OwnS B v l w) (hb : Below w.heap.size w w') : OwnS B v l w' :=
 World.ownsRow.kept h (grownBy_none hb) (by cases v.ownBlock <;> simp)
theorem itoa_dig (j : Nat) : (⟨(itoa (j : Int)).toArray⟩ : ByteArray) = digB j := by
 rw [digB, itoa, if_neg (by omega), Int.toNat_natCast]
def LgPost (l : List ByteArray) (w : World) (e : Ending) (w' : World) : Prop := ∃ (B : Nat) (tv : Value), w.heap.size ≤ B ∧ e = .returned tv ∧ OwnS B tv l w' ∧ Below w.heap.size w w'
set_option maxHeartbeats 8000000 in
set_option maxRecDepth 100000 in
theorem leading_any (v : V) (S : Nat → Prop) (cs : List Value) (w : World) (tg : Tg w) (hv : v.lies false w S cs) (hS : ∀ b, S b → b < w.heap.size) (hwt : v.wt ≤ 1114112) : Calls Tryz.prog 60 #[.agg cs.toArray] w (LgPost (ldgF v) w) := by
 obtain ⟨k, b, i, s, l, m⟩ := v
 rw [V.lies] at hv
 obtain ⟨al, cl, bl, ol, am, cm, bm, om, rfl, _, _, _, hal, ham, hl, hm, _⟩ := hv
 have HM := hmk hm
 have hml : m.length ≤ 1114112 := by have := wtM_len m; simp only [V.wt] at hwt; omega
 have hll : l.length ≤ 1114112 := by have := wtL_len l; simp only [V.wt] at hwt; omega
 have B0 : Below w.heap.size w (w.alloc (.cells #[.int .i64 k, .bool b, .int .i64 i, .string s, .slice al l.length cl, .slice am m.length cm] 25)) := one_belowG w _
 have hz0 : w.heap.size < (w.alloc (.cells #[.int .i64 k, .bool b, .int .i64 i, .string s, .slice al l.length cl, .slice am m.length cm] 25)).heap.size := by rw [alloc_size]; omega
 have h0 := heap_alloc_new w (.cells #[.int .i64 k, .bool b, .int .i64 i, .string s, .slice al l.length cl, .slice am m.length cm] 25)
 have HT : Hid (∀ W, Below w.heap.size w W → Tg W) := fun W hb => tg.below hb tg.z
 have HF : Hid (ldgF (.mk k b i s l m) = digs l.length ++ keysB m) := rfl
 have r4 : (w.alloc (.cells #[.int .i64 k, .bool b, .int .i64 i, .string s, .slice al l.length cl, .slice am m.length cm] 25)).cell? ⟨w.heap.size, 4, none⟩ = some (.slice al l.length cl) := by rw [cell_of_block h0]; rfl
 clear hwt hl hm tg
 generalize ldgF (.mk k b i s l m) = LF at *
 go_enter Tryz.func60, Tryz.ntmps60
 go_wp2_with fail
 clear r4
 generalize (w.alloc (.cells #[.int .i64 k, .bool b, .int .i64 i, .string s, .slice al l.length cl, .slice am m.length cm] 25)) = w0 at *
 go_loopw [3, 10] (fun e3 e10 wr => ∃ (j : Nat) (bv : Value), bv = e3 ∧ e10 = .int .i64 (j : Int) ∧ j ≤ l.length ∧ OwnS w0.heap.size bv (digs j) wr ∧ Below w0.heap.size w0 wr) (fun _ e _ => l.length - (RowKit.intOf e).toNat)
 case atStart => exact ⟨0, _, rfl, rfl, by omega, World.ownsRow_nil _ _ 9 1, Below.refl _ _⟩
 case round =>
  obtain ⟨j, bv, rfl, rfl, hj, own, bj⟩ := hrel
  have hzr := bj.size
  by_cases hjl : j < l.length
  ·have y1 : (j : Int) < l.length := by omega
   have CI := hmk (itoa_any (j : Int) (by omega) wr (HT.out wr (B0.trans (bj.mono (by omega)))))
   rw [itoa_dig] at CI
   have HS : Hid (digs (j + 1) = digs j ++ [digB j]) := digs_succ j
   have hdl := digs_len j
   generalize digB j = t at *
   generalize digs j = dj at *
   go_wp2_with fail
   refine CI.out.mono ?_
   rintro e w1 ⟨rfl, b1⟩
   have hz1 := b1.size
   have own1 := own.below b1
   go_wp2_with (at_builtin; go_loud (refine wpl_appS _ rfl (.tmp 13) (.tmp 16) rfl w0.heap.size _ _ rfl (own1.alloc _) w1.heap.size t rfl (alloc_last w1 _) (by omega) (by rw [alloc_size]; omega) ?_))
   intro v2 w2 o2 b2
   have B2 := ((bj.trans (b1.mono hzr)).alloc (by omega) _).trans b2
   go_wp2_with fail
   go_roundw
   case rel => exact ⟨j + 1, v2, rfl, by go_num, by omega, by rw [HS.out]; exact o2, B2⟩
   case measure => simp [RowKit.intOf]; omega
  ·obtain rfl : j = l.length := by omega
   have y1 : ¬ (l.length : Int) < l.length := by omega
   have t0 := (bj.block w.heap.size (by omega)).trans h0
   have r5 : wr.cell? ⟨w.heap.size, 5, none⟩ = some (.slice am m.length cm) := by rw [cell_of_block t0]; rfl
   go_wp2_with fail
   clear r5 t0
   have Bz : Below w.heap.size w wr := B0.trans (bj.mono (by omega))
   have hdl := digs_len l.length
   generalize digs l.length = dl at *
   rename World => wA
   go_loopw [3, 22] (fun e3 e22 wr => ∃ (j : Nat) (bv : Value), bv = e3 ∧ e22 = .int .i64 (j : Int) ∧ j ≤ m.length ∧ OwnS w0.heap.size bv (dl ++ keysB (m.take j)) wr ∧ Below w0.heap.size w0 wr) (fun _ e _ => m.length - (RowKit.intOf e).toNat)
   case atStart => exact ⟨0, _, rfl, rfl, by omega, by simpa [keysB] using own, bj⟩
   case round =>
    clear own bj Bz
    obtain ⟨j, bv, rfl, rfl, hj, own, bj⟩ := hrel
    have hzr := bj.size
    have Bz : Below w.heap.size w wr := B0.trans (bj.mono (by omega))
    by_cases hjl : j < m.length
    ·have y1 : (j : Int) < m.length := by omega
     obtain ⟨hSb, hks, csj, hrow, hlj⟩ := liesM_get HM.out j hjl
     obtain rfl : am = some ⟨bm, om, none⟩ := ham.at_.resolve_left (by omega)
     obtain ⟨ek, eb, ei, es, eal, enl, ecl, eam, enm, ecm, rfl⟩ := V.ten hlj
     obtain ⟨x, q0, q1, q2, q3, q4, q5⟩ := row7 (fun q u hu => (Bz.cell (p := ⟨bm, _, none⟩) (hS _ hSb)).trans (hrow q u hu))
     have HS : Hid (keysB (m.take (j + 1)) = keysB (m.take j) ++ [(m[j]).1]) := keys_succ m j hjl
     have hkl : (dl ++ keysB (m.take j)).length = l.length + j := by rw [List.length_append, hdl, keys_len, List.length_take]; omega
     generalize (m[j]).1 = key at *
     generalize keysB (m.take j) = kj at *
     clear hlj hrow hks
     go_wp2_with (at_builtin; go_loud (refine wpl_appS _ rfl (.tmp 26) (.tmp 29) rfl w0.heap.size _ _ rfl ((own.alloc _).alloc _) (wr.heap.size + 1) key rfl (alloc2_new wr _ _) (by omega) (by rw [alloc_size, alloc_size]; omega) ?_))
     intro v2 w2 o2 b2
     have B2 := ((bj.alloc hzr _).alloc (by rw [alloc_size]; omega) _).trans b2
     go_wp2_with fail
     go_roundw
     case rel => exact ⟨j + 1, v2, rfl, by go_num, by omega, by rw [HS.out]; exact o2, B2⟩
     case measure => simp [RowKit.intOf]; omega
    ·obtain rfl : j = m.length := by omega
     have y1 : ¬ (m.length : Int) < m.length := by omega
     have HO : Hid (OwnS w0.heap.size bv LF wr) := by show OwnS _ _ _ _; rw [HF.out]; simpa [List.take_length] using own
     clear own
     go_wp2_with fail
     go_ret
     exact ⟨w0.heap.size, bv, by omega, rfl, HO.out, Bz⟩
end Go.Proofs.YtgnofbigggmilaaGreatDoor
