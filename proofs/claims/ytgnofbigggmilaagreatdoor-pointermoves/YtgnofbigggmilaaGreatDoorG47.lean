/- joined: UndA ChsA LngA -/
import Derived.Test.YtgnofbigggmilaaGreatDoorG39
set_option linter.unusedSimpArgs false
set_option linter.unusedVariables false
namespace Go.Proofs.YtgnofbigggmilaaGreatDoor
open Go.RowKit Go.Lib
def undB (p q : List UInt8) : Bool := q.isPrefixOf p && (p.length == q.length || p[q.length]? == some 47)
theorem und_pre {ts us : List ByteArray} (h : us <+: ts) : undB (prT (dat ts)) (prT (dat us)) = true := by
 obtain ⟨r, rfl⟩ := h
 have e : dat (us ++ r) = dat us ++ dat r := by simp [dat]
 have e2 : prT (dat us ++ dat r) = prT (dat us) ++ prT (dat r) := by simp [prT]
 rw [e, e2, undB, Bool.and_eq_true]
 refine ⟨by simp, ?_⟩
 cases r with
 | nil => simp [dat, prT]
 | cons t r =>
  have e3 : prT (dat (t :: r)) = 47 :: (esp t.data.toList ++ prT (dat r)) := prT_cons _ _
  rw [e3]
  simp
theorem und_apart {ts us : List ByteArray} (h1 : ¬ undB (prT (dat us)) (prT (dat ts)) = true) (h2 : ¬ undB (prT (dat ts)) (prT (dat us)) = true) : Apart ts us := by
 constructor
 ·intro h
  exact h1 (und_pre h)
 ·intro h
  exact h2 (und_pre h)
theorem und_take {p q : List UInt8} (h : undB p q = true) : q.length ≤ p.length ∧ p.take q.length = q ∧ (p.length = q.length ∨ p[q.length]? = some 47) := by
 rw [undB, Bool.and_eq_true, Bool.or_eq_true] at h
 obtain ⟨r, rfl⟩ := List.isPrefixOf_iff_prefix.1 h.1
 refine ⟨by simp, by simp, ?_⟩
 rcases h.2 with h | h
 ·exact .inl (by simpa using h)
 ·exact .inr (by simpa using h)
theorem ext_take (p : ByteArray) (n : Nat) : (p.extract 0 n).toList = p.data.toList.take n := by
 rw [ByteArray.toList_eq, ByteArray.data_extract]
 simp
def UnPostW (p q : ByteArray) (w : World) (e : Ending) (w' : World) : Prop := ∃ r : Bool, e = .returned (.bool r) ∧ Below w.heap.size w w' ∧ (undB p.data.toList q.data.toList = true → r = true)
set_option maxHeartbeats 8000000 in
set_option maxRecDepth 100000 in
theorem under_any (p q : ByteArray) (w : World) (hp : p.size ≤ 4000000) (hq : q.size ≤ 4000000) : Calls Tryz.prog 25 #[.string p, .string q] w (UnPostW p q w) := by
 have HU : Hid (undB p.data.toList q.data.toList = true → q.size ≤ p.size ∧ (p.extract 0 q.size).toList = q.toList ∧ (p.size = q.size ∨ p.data.toList[q.size]? = some 47)) := fun h => by
  have := und_take h
  rw [toList_size, toList_size] at this
  exact ⟨this.1, by rw [ext_take, ByteArray.toList_eq]; exact this.2.1, this.2.2⟩
 unfold UnPostW
 generalize undB p.data.toList q.data.toList = U at *
 by_cases h1 : q.size ≤ p.size
 ·by_cases h2 : (p.extract 0 q.size).toList = q.toList
  ·by_cases h3 : p.size = q.size
   ·have y3 : (p.size : Int) = q.size := by omega
    clear h3
    go_enter Tryz.func25, Tryz.ntmps25
    go_wp2_with fail
    go_ret
    exact ⟨true, rfl, Below.refl _ _, fun _ => rfl⟩
   ·have y3 : ¬ (p.size : Int) = q.size := by omega
    have hlt : q.size < p.size := by omega
    have HX : Hid (U = true → p[q.size] = 47) := fun h => by
     rcases (HU.out h).2.2 with e | e
     ·exact absurd e h3
     ·rw [List.getElem?_eq_getElem (by rw [toList_size]; exact hlt)] at e
      have h5 : p.data.toList[q.size]'(by rw [toList_size]; exact hlt) = 47 := Option.some.inj e
      rw [Array.getElem_toList] at h5
      exact h5
    clear h3
    go_enter Tryz.func25, Tryz.ntmps25
    go_wp2_with fail
    go_ret
    refine ⟨_, rfl, Below.refl _ _, fun h => ?_⟩
    have e := HX.out h
    simp [e]
  ·have h2' := h2
   go_enter Tryz.func25, Tryz.ntmps25
   go_wp2_with fail
   go_ret
   exact ⟨false, rfl, Below.refl _ _, fun h => absurd (HU.out h).2.1 h2'⟩
 ·go_enter Tryz.func25, Tryz.ntmps25
  go_wp2_with fail
  go_ret
  exact ⟨false, rfl, Below.refl _ _, fun h => absurd (HU.out h).1 h1⟩
def ChPost (l : List ByteArray) (w : World) (e : Ending) (w' : World) : Prop := ∃ (j : Nat) (h : j < l.length), e = .returned (.string l[j]) ∧ Below w.heap.size w w'
set_option maxHeartbeats 8000000 in
set_option maxRecDepth 100000 in
theorem chosen_any (l : List ByteArray) (v : Value) (at_ : Int) (w : World) (hv : LiesS w v l) (h0 : 0 < l.length) (hl : l.length ≤ 1000) : Calls Tryz.prog 24 #[v, .int .i64 at_] w (ChPost l w) := by
 obtain ⟨g, o, c, rfl, hc, hg, hcell⟩ := hv.2 h0
 have hn : ¬ (l.length : Int) = 0 := by omega
 have r1 : Int.tmod at_ l.length < l.length := Int.tmod_lt_of_pos _ (by omega)
 have r2 : -(l.length : Int) < Int.tmod at_ l.length := by
  exact Int.lt_tmod_of_pos at_ (by omega)
 go_enter Tryz.func24, Tryz.ntmps24
 go_wp2_with fail
 all_goals go_ret
 all_goals exact ⟨_, _, rfl, Below.refl _ _⟩
theorem byL_take {l : List V} {j : Nat} (h : j < l.length) : byL (l.take (j + 1)) = byL (l.take j) + byV l[j] := by
 rw [List.take_succ_eq_append_getElem h, byL_app, byL, byL]; omega
theorem byM_take {l : List Mem} {j : Nat} (h : j < l.length) : keyB (l.take (j + 1)) + byM (l.take (j + 1)) = keyB (l.take j) + byM (l.take j) + (l[j]).1.size + byV (l[j]).2 := by
 have e : byM [l[j]] = byV (l[j]).2 + 0 := by rcases l[j] with ⟨k, x⟩; rw [byM, byM]
 rw [List.take_succ_eq_append_getElem h, byM_app, keyB_app, e, keyB, keyB]; omega
theorem byL_le (l : List V) (j : Nat) : byL (l.take j) ≤ byL l := by
 conv => rhs; rw [← List.take_append_drop j l, byL_app]
 omega
theorem byM_le (l : List Mem) (j : Nat) : keyB (l.take j) + byM (l.take j) ≤ keyB l + byM l := by
 conv => rhs; rw [← List.take_append_drop j l, byM_app, keyB_app]
 omega
mutual
theorem by_wt : ∀ v : V, byV v ≤ v.wt
 | .mk k b i s l m => by
  have := byL_wt l; have := byM_wt m
  rw [byV, V.wt]; omega
theorem byL_wt : ∀ l : List V, byL l ≤ wtL l
 | [] => Nat.le_refl _
 | x :: t => by have := by_wt x; have := byL_wt t; rw [byL, wtL]; omega
theorem byM_wt : ∀ l : List Mem, keyB l + byM l ≤ wtM l
 | [] => Nat.le_refl _
 | (k, x) :: t => by have := by_wt x; have := byM_wt t; rw [keyB, byM, wtM]; simp only; omega
end
set_option maxHeartbeats 8000000 in
set_option maxRecDepth 100000 in
theorem long_any (v : V) : ∀ (S : Nat → Prop) (cs : List Value) (w : World), v.lies false w S cs → (∀ b, S b → b < w.heap.size) → v.wt ≤ 4294967296 → Calls Tryz.prog 22 #[.agg cs.toArray] w (IPost (byV v : Int) w) := by
 refine V.ind_v (P := fun v => ∀ (S : Nat → Prop) (cs : List Value) (w : World), v.lies false w S cs → (∀ b, S b → b < w.heap.size) → v.wt ≤ 4294967296 → Calls Tryz.prog 22 #[.agg cs.toArray] w (IPost (byV v : Int) w)) ?_ v
 intro k b i s l m ihl ihm S cs w hv hS hwt
 rw [V.lies] at hv
 obtain ⟨al, cl, bl, ol, am, cm, bm, om, rfl, _, _, _, hal, ham, hl, hm, _⟩ := hv
 have HL := hmk hl
 have HM := hmk hm
 clear hl hm
 rw [V.wt] at hwt
 have hw1 := byL_wt l
 have hw2 := byM_wt m
 have hll := wtL_len l
 have hml := wtM_len m
 have HB : Hid (byV (.mk k b i s l m) = s.size + byL l + (keyB m + byM m)) := by show _ = _; rw [byV]; omega
 have B0 : Below w.heap.size w (w.alloc (.cells #[.int .i64 k, .bool b, .int .i64 i, .string s, .slice al l.length cl, .slice am m.length cm] 25)) := one_belowG _ _
 have hz0 : (w.alloc (.cells #[.int .i64 k, .bool b, .int .i64 i, .string s, .slice al l.length cl, .slice am m.length cm] 25)).heap.size = w.heap.size + 1 := alloc_size _ _
 have hb0 := box_row w [.int .i64 k, .bool b, .int .i64 i, .string s, .slice al l.length cl, .slice am m.length cm] 25
 have hb1 : rowAt (w.alloc (.cells #[.int .i64 k, .bool b, .int .i64 i, .string s, .slice al l.length cl, .slice am m.length cm] 25)) w.heap.size 0 [.int .i64 k, .bool b, .int .i64 i, .string s, .slice al l.length cl, .slice am m.length cm] := hb0
 have z3 : (w.alloc (.cells #[.int .i64 k, .bool b, .int .i64 i, .string s, .slice al l.length cl, .slice am m.length cm] 25)).cell? ⟨w.heap.size, 3, none⟩ = some (.string s) := by have := hb1 3 (.string s) rfl; rwa [Nat.zero_add] at this
 clear hb0
 generalize byV (.mk k b i s l m) = BY at *
 go_enter Tryz.func22, Tryz.ntmps22
 go_wp2_with fail
 clear z3
 generalize (w.alloc (.cells #[.int .i64 k, .bool b, .int .i64 i, .string s, .slice al l.length cl, .slice am m.length cm] 25)) = w0 at *
 go_loopw [3, 4] (fun e3 e4 wr => ∃ j : Nat, j ≤ l.length ∧ e4 = .int .i64 (j : Int) ∧ e3 = .int .i64 ((s.size + byL (l.take j) : Nat) : Int) ∧ Below w0.heap.size w0 wr) (fun _ e4 _ => l.length - (RowKit.intOf e4).toNat)
 case atStart => exact ⟨0, by omega, rfl, by simp [byL], Below.refl _ _⟩
 case round =>
  obtain ⟨j, hj, rfl, rfl, bj⟩ := hrel
  obtain ⟨d0, d1, d2, d3, d4, d5⟩ := row6z (hb1.keep (bj.block _ (by omega)))
  by_cases hjl : j < l.length
  ·have y1 : (j : Int) < l.length := by omega
   obtain ⟨hSb, csj, hrow, hlj⟩ := liesL_get HL.out j hjl
   obtain rfl : al = some ⟨bl, ol, none⟩ := hal.at_.resolve_left (by omega)
   have hk0 : ∀ x, S x → wr.heap[x]? = w.heap[x]? := fun x hx => (bj.block x (by have := hS x hx; omega)).trans (B0.block x (hS x hx))
   obtain ⟨ek, eb, ei, es, eal, enl, ecl, eam, enm, ecm, rfl⟩ := V.ten hlj
   have rw0 := row6 (hrow.keep (hk0 _ hSb))
   have hzr := bj.size
   have ht1 := byL_take hjl
   have ht2 := byL_le l (j + 1)
   have hwj := wtL_mem (List.getElem_mem hjl)
   have CI := hmk (ihl l[j] (List.getElem_mem hjl) S _ wr (V.lies_keep (fun h => h) hk0 (fun _ h => h) _ hlj) (fun x hx => by have := hS x hx; omega) (by omega))
   have HT := hmk ht1
   have hAZ : byL (l.take j) + byV l[j] ≤ byL l := by omega
   generalize byL (l.take j) = A at *
   generalize byV l[j] = Z at *
   obtain ⟨r0, r1, r2, r3, r4, r5⟩ := rw0
   clear hlj hrow ht1 hal
   go_wp2_with fail
   refine CI.out.mono ?_
   rintro e w1 ⟨rfl, b1⟩
   have y9 : (-9223372036854775808 : Int) ≤ ((s.size + A : Nat) : Int) + (Z : Int) ∧ ((s.size + A : Nat) : Int) + (Z : Int) ≤ 9223372036854775807 := by omega
   go_wp2_with fail
   go_roundw
   case rel => exact ⟨j + 1, by omega, by go_num, by rw [HT.out]; go_num, bj.trans (b1.mono hzr)⟩
   case measure => simp [RowKit.intOf]; omega
  ·obtain rfl : j = l.length := by omega
   have y1 : ¬ (l.length : Int) < l.length := by omega
   rw [List.take_length]
   go_wp2_with fail
   rename World => wA
   go_loopw [3, 5] (fun e3 e5 wr => ∃ j : Nat, j ≤ m.length ∧ e5 = .int .i64 (j : Int) ∧ e3 = .int .i64 ((s.size + byL l + (keyB (m.take j) + byM (m.take j)) : Nat) : Int) ∧ Below w0.heap.size w0 wr) (fun _ e5 _ => m.length - (RowKit.intOf e5).toNat)
   case atStart => exact ⟨0, by omega, rfl, by simp [keyB, byM], bj⟩
   case round =>
    clear bj d0 d1 d2 d3 d4 d5
    obtain ⟨j, hj, rfl, rfl, bj⟩ := hrel
    obtain ⟨d0, d1, d2, d3, d4, d5⟩ := row6z (hb1.keep (bj.block _ (by omega)))
    by_cases hjl : j < m.length
    ·have y1 : (j : Int) < m.length := by omega
     obtain ⟨hSb, hks, csj, hrow, hlj⟩ := liesM_get HM.out j hjl
     obtain rfl : am = some ⟨bm, om, none⟩ := ham.at_.resolve_left (by omega)
     have hk0 : ∀ x, S x → wr.heap[x]? = w.heap[x]? := fun x hx => (bj.block x (by have := hS x hx; omega)).trans (B0.block x (hS x hx))
     obtain ⟨ek, eb, ei, es, eal, enl, ecl, eam, enm, ecm, rfl⟩ := V.ten hlj
     have rw0 := row7 (hrow.keep (hk0 _ hSb))
     have hbl : bm < wr.heap.size := World.block_lt_of_cell? wr _ rw0.1
     have hzr := bj.size
     have ht1 := byM_take hjl
     have ht2 := byM_le m (j + 1)
     have hwj := wtM_mem (List.getElem_mem hjl)
     have IH := ihm m[j] (List.getElem_mem hjl) S
     have hS0 := fun (w' : World) (hb : Below wr.heap.size wr w') => V.lies_keep (w' := w') (S' := S) (fun h => h) (fun x hx => (hb.block x (by have := hS x hx; omega)).trans (hk0 x hx)) (fun _ h => h) _ hlj
     have p0 : ∀ x : Sub wr.heap.size wr, _ := sub_cell rw0.1 hbl
     have p1 : ∀ x : Sub wr.heap.size wr, _ := sub_cell rw0.2.1 hbl
     have p2 : ∀ x : Sub wr.heap.size wr, _ := sub_cell rw0.2.2.1 hbl
     have p3 : ∀ x : Sub wr.heap.size wr, _ := sub_cell rw0.2.2.2.1 hbl
     have p4 : ∀ x : Sub wr.heap.size wr, _ := sub_cell rw0.2.2.2.2.1 hbl
     have p5 : ∀ x : Sub wr.heap.size wr, _ := sub_cell rw0.2.2.2.2.2.1 hbl
     have p6 : ∀ x : Sub wr.heap.size wr, _ := sub_cell rw0.2.2.2.2.2.2 hbl
     have u5 : ∀ x : Sub wr.heap.size wr, _ := sub_cell d5 (by omega)
     have CI : Hid (∀ x : Sub wr.heap.size wr, Calls Tryz.prog 22 #[.agg #[.int .i64 ek, .bool eb, .int .i64 ei, .string es, .slice eal enl ecl, .slice eam enm ecm]] x.w fun e w'' => e = .returned (.int .i64 (byV (m[j]).2 : Int)) ∧ ∃ y : Sub wr.heap.size wr, w'' = y.w) :=
      sub_call fun w' hb => by
       refine (IH _ w' (hS0 w' hb) (fun x hx => by have := hS x hx; have := hb.size; omega) (by omega)).mono ?_
       rintro e w'' ⟨he, h2⟩
       exact ⟨he, hb.trans (h2.mono hb.size)⟩
     have HT := hmk ht1
     have hAZ : keyB (m.take j) + byM (m.take j) + (m[j]).1.size + byV (m[j]).2 ≤ keyB m + byM m := by omega
     generalize keyB (m.take j) + byM (m.take j) = A at *
     generalize byV (m[j]).2 = Z at *
     generalize (m[j]).1 = key at *
     have y8 : (-9223372036854775808 : Int) ≤ ((s.size + byL l + A : Nat) : Int) + (key.size : Int) ∧ ((s.size + byL l + A : Nat) : Int) + (key.size : Int) ≤ 9223372036854775807 := by omega
     have y9 : (-9223372036854775808 : Int) ≤ ((s.size + byL l + A : Nat) : Int) + (key.size : Int) + (Z : Int) ∧ ((s.size + byL l + A : Nat) : Int) + (key.size : Int) + (Z : Int) ≤ 9223372036854775807 := by omega
     clear hlj hrow ht1 ham rw0 IH hS0
     go_wp2_with fail
     refine wp_region_sub wr.heap.size (by kernel_rfl) (by kernel_rfl) ?_
     repeat (go_big_quiet_step (exact CI.out _))
     refine wpQuiet_nil ?_
     rintro _ ⟨⟨wq, bq⟩, rfl⟩
     go_wp2_with fail
     go_roundw
     case rel => exact ⟨j + 1, by omega, by go_num, by rw [Nat.add_assoc, HT.out]; go_num, bj.trans (bq.mono hzr)⟩
     case measure => simp [RowKit.intOf]; omega
    ·obtain rfl : j = m.length := by omega
     have y1 : ¬ (m.length : Int) < m.length := by omega
     rw [List.take_length]
     go_wp2_with fail
     go_ret
     rw [HB.out]
     exact ⟨rfl, B0.trans (bj.mono (by omega))⟩
end Go.Proofs.YtgnofbigggmilaaGreatDoor
