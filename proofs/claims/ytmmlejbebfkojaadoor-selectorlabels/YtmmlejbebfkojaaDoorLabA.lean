import Derived.Test.YtmmlejbebfkojaaDoorRgtA
/- Labels. -/
set_option linter.unusedSimpArgs false
set_option linter.unusedVariables false
namespace Go.Proofs.YtmmlejbebfkojaaDoor
open Go.RowKit Go.Lib
theorem hmk {p : Prop} (h : p) : Hid p := h
abbrev lbK : ByteArray := ⟨#[108, 97, 98, 101, 108, 115]⟩
def kindV : V → Int
  | .mk k _ _ _ _ _ => k
def isStr (x : Mem) : Bool := kindV x.2 == 3
/-- what lies under the key labels -/
def undr (v : V) : List Mem := memsOf (getV v lbK).1
/-- the labels of a value -/
def labV (v : V) : List Mem := if chkE v 32 = 0 then (undr v).filter isStr else []
def LbPost (l : List Mem) (w : World) (e : Ending) (w' : World) : Prop := ∃ a c b o, e = .returned (.slice a l.length c) ∧ Headed a l.length c b o ∧ liesM false w' (New w w') l b o ∧ Below w.heap.size w w'
theorem lb_nil (w w' : World) (h : Below w.heap.size w w') : LbPost [] w (.returned (.slice none 0 0)) w' := ⟨none, 0, 0, 0, rfl, headed_nil, by rw [liesM]; trivial, h⟩
theorem filter_take {l : List Mem} {j : Nat} (h : j < l.length) : (l.take (j + 1)).filter isStr = (l.take j).filter isStr ++ (if isStr l[j] then [l[j]] else []) := by
  rw [List.take_succ_eq_append_getElem h, List.filter_append]
  congr 1
  simp only [List.filter_cons, List.filter_nil]
theorem atKey_wt (m : List Mem) (key : ByteArray) : (atKey m key).1.wt ≤ wtM m + 1 := by
  unfold atKey
  split
  · rename_i h
    rcases Nat.lt_or_ge (posF m key) m.length with h1 | h1
    · have h2 := wtM_mem (List.getElem_mem h1 : m[posF m key] ∈ m)
      simp only [List.getD_eq_getElem?_getD, List.getElem?_eq_getElem h1, Option.getD_some]
      omega
    · rw [List.getElem?_eq_none h1] at h; simp [keyIs] at h
  · show nullV.wt ≤ _
    have : nullV.wt = 1 := by unfold nullV; simp [V.wt, wtL, wtM]; decide
    omega
theorem undr_wt (v : V) : (getV v lbK).1.wt ≤ v.wt := by
  obtain ⟨k, b, i, s, l, m⟩ := v
  unfold getV
  split
  · have := atKey_wt m lbK
    simp only [memsOf, V.wt]
    omega
  · show nullV.wt ≤ _
    have h1 : nullV.wt = 1 := by unfold nullV; simp [V.wt, wtL, wtM]; decide
    have := V.wt_pos (V.mk k b i s l m)
    omega
theorem cs_row {w : World} {b : Nat} {c0 c1 c2 c3 c4 c5 : Value} {t : TypeId} {fz : Nat × Nat} (h : w.heap[b]? = some (.cells #[c0, c1, c2, c3, c4, c5] t fz)) : rowAt w b 0 [c0, c1, c2, c3, c4, c5] := fun j u hu => by
  rw [Nat.zero_add, cell_of_block h]
  simpa using hu
theorem lt_blk {W : World} {y : Nat} {o : Obj} (e : W.heap[y]? = some o) : y < W.heap.size := (Array.getElem?_eq_some_iff.1 e).1
set_option maxHeartbeats 8000000 in
set_option maxRecDepth 100000 in
theorem labels_any (v : V) (R : Bool) (S : Nat → Prop) (cs : List Value) (w : World) (tb : Tb w) (hv : v.lies R w S cs) (hS : ∀ b, S b → b < w.heap.size) (hwt : v.wt ≤ 2147483648) :
    Calls Tryd.prog 7 #[.agg cs.toArray] w (LbPost (labV v) w) := by
  obtain ⟨k, b, i, s, al, nl, cl, am, nm, cm, rfl⟩ := V.ten hv
  have b0 := (Below.refl w.heap.size w).alloc (Nat.le_refl _) (.cells #[.int .i64 k, .bool b, .int .i64 i, .string s, .slice al nl cl, .slice am nm cm] 25)
  have hX := heap_alloc_new w (.cells #[.int .i64 k, .bool b, .int .i64 i, .string s, .slice al nl cl, .slice am nm cm] 25)
  have hzX : (w.alloc (.cells #[.int .i64 k, .bool b, .int .i64 i, .string s, .slice al nl cl, .slice am nm cm] 25)).heap.size = w.heap.size + 1 := alloc_size _ _
  have HV : Hid (∀ W, Below w.heap.size w W → v.lies R W S [.int .i64 k, .bool b, .int .i64 i, .string s, .slice al nl cl, .slice am nm cm] ∧ (∀ b, S b → b < W.heap.size)) := fun W hb => ⟨V.lies_keep (fun h => h) (fun x hx => hb.block x (hS x hx)) (fun _ h => h) _ hv, fun x hx => Nat.lt_of_lt_of_le (hS x hx) hb.size⟩
  have HB : Hid (∀ W, Below w.heap.size w W → Tb W) := fun W hb => tb.below hb tb.z
  obtain ⟨r0, r1, r2, r3, r4, r5⟩ := row6z (cs_row hX)
  clear hv tb
  go_enter Tryd.func7, Tryd.ntmps7
  go_wp2_with fail
  clear r0 r1 r2 r3 r4 r5
  generalize (w.alloc (.cells #[.int .i64 k, .bool b, .int .i64 i, .string s, .slice al nl cl, .slice am nm cm] 25)) = w0 at *
  refine (check_any R v 32 S _ w0 (HB.out w0 b0) (HV.out w0 b0).1 (HV.out w0 b0).2 (by omega)).mono ?_
  rintro e w1 ⟨rfl, b1⟩
  have hz1 := b1.size
  have B1 := b0.trans (b1.mono (by omega))
  have hX1 := (b1.block w.heap.size (by omega)).trans hX
  clear hX b1 b0
  by_cases hc : chkE v 32 = 0
  · have HL : Hid (labV v = (undr v).filter isStr) := by show _ = _; unfold labV; rw [if_pos hc]
    rw [hc]
    obtain ⟨r0, r1, r2, r3, r4, r5⟩ := row6z (cs_row hX1)
    have CG := hmk (get_any v lbK R S _ w1 (HB.out w1 B1) (HV.out w1 B1).1 (HV.out w1 B1).2 (by omega))
    have hu : memsOf (getV v lbK).1 = undr v := rfl
    have hug := undr_wt v
    clear hc
    go_wp2_with fail
    clear r0 r1 r2 r3 r4 r5
    refine CG.out.mono ?_
    clear CG
    rintro e w2 ⟨cg, rfl, hg, b2⟩
    have hz2 := b2.size
    have B2 := B1.trans (b2.mono (by omega))
    generalize getV v lbK = gp at *
    obtain ⟨⟨uk, ub, ui, us, ul, um⟩, uok⟩ := gp
    rw [← hu] at HL
    have hg' := hg
    rw [V.lies] at hg'
    obtain ⟨ual, ucl, ubl, uol, uam, ucm, ubm, uom, rfl, _, _, _, _, ham, _, hml, _⟩ := hg'
    simp only [memsOf] at HL
    clear hu hX1
    have hM : um.length ≤ 2147483648 := by have h1 := wtM_len um; simp only [V.wt] at hug; omega
    have hml3 : Hid (liesM false w2 (New w1 w2) um ubm uom) := hml
    have HAM := hmk ham
    have B3 : Below w.heap.size w (w2.alloc (.cells #[.int .i64 uk, .bool ub, .int .i64 ui, .string us, .slice ual ul.length ucl, .slice uam um.length ucm] 25)) := B2.alloc (by omega) _
    have K3 : Below w2.heap.size w2 (w2.alloc (.cells #[.int .i64 uk, .bool ub, .int .i64 ui, .string us, .slice ual ul.length ucl, .slice uam um.length ucm] 25)) := (Below.refl _ _).alloc (Nat.le_refl _) _
    have hX3 := heap_alloc_new w2 (.cells #[.int .i64 uk, .bool ub, .int .i64 ui, .string us, .slice ual ul.length ucl, .slice uam um.length ucm] 25)
    obtain ⟨i1, hi1, hy⟩ := Option.map_eq_some_iff.1 info44
    simp only [Prod.mk.injEq] at hy
    obtain ⟨hy0, hy1, hy2⟩ := hy
    have hJ : Hid (Tryd.prog.info? 32 = some i1 ∧ i1.zero = some (.agg #[.string ⟨#[]⟩, .int .i64 0, .bool false, .int .i64 0, .string ⟨#[]⟩, .slice none 0 0, .slice none 0 0]) ∧ i1.size = 7 ∧ i1.bytes = 104) := ⟨hi1, hy0, hy1, hy2⟩
    clear hi1 hy0 hy1 hy2 hml ham B2 hug hg
    go_wp2_with fail
    generalize (w2.alloc (.cells #[.int .i64 uk, .bool ub, .int .i64 ui, .string us, .slice ual ul.length ucl, .slice uam um.length ucm] 25)) = w3 at *
    go_loopw [5, 19] (fun e5 e19 wr => ∃ (j : Nat) (SM : Nat → Prop), j ≤ um.length ∧ e19 = .int .i64 (j : Int) ∧ Below w.heap.size w wr ∧ Below w2.heap.size w2 wr ∧ Hid (wr.heap[w2.heap.size]? = some (.cells #[.int .i64 uk, .bool ub, .int .i64 ui, .string us, .slice ual ul.length ucl, .slice uam um.length ucm] 25)) ∧ Hid (OwnM false wr w1.heap.size SM e5 (((um.take j).filter isStr).map some)) ∧ Hid (∀ r, e5.ownBlock = some r → w2.heap.size ≤ r ∧ w2.heap.size ≠ r) ∧ Hid (∀ b, SM b → w1.heap.size ≤ b ∧ b < w2.heap.size)) (fun e5 e19 _ => um.length - (RowKit.intOf e19).toNat)
    case atStart => exact ⟨0, fun _ => False, by omega, rfl, B3, K3, hX3, (by show OwnM false w3 w1.heap.size _ _ (((um.take 0).filter isStr).map some); simpa using OwnR.nil _ _), fun r hr => by simp [Value.ownBlock] at hr, fun b hb => hb.elim⟩
    case round =>
      clear B3 K3 hX3
      obtain ⟨j, SM, hj, rfl, Bj, Kj, HXj, HO, HOB, HSM⟩ := hrel
      have hzr := Kj.size
      have c5 : wr.cell? ⟨w2.heap.size, 5, none⟩ = some (.slice uam um.length ucm) := by rw [cell_of_block HXj.out]; rfl
      by_cases hjl : j < um.length
      · have y1 : (j : Int) < um.length := by omega
        obtain ⟨hSb, hks, csj, hrow, hlj⟩ := liesM_get hml3.out j hjl
        obtain rfl : uam = some ⟨ubm, uom, none⟩ := HAM.out.at_.resolve_left (by omega)
        have hrow' := hrow.keep (Kj.block _ hSb.2)
        have hlj' : (um[j]).2.lies false wr (New w1 w2) csj := V.lies_keep (fun h => h) (fun b hb => Kj.block b hb.2) (fun _ h => h) _ hlj
        have HF := filter_take hjl
        obtain ⟨xm, hxm⟩ : ∃ xm, um[j] = xm := ⟨_, rfl⟩
        rw [hxm] at HF hlj' hrow' hks
        obtain ⟨xk, xv⟩ := xm
        have hkx : ∃ kk b i s l m, xv = V.mk kk b i s l m := by cases xv; exact ⟨_, _, _, _, _, _, rfl⟩
        obtain ⟨kk, kb, ki, ks, kl, km, rfl⟩ := hkx
        have hlk := hlj'
        rw [V.lies] at hlk
        obtain ⟨eal, ecl, _, _, eam, ecm, _, _, rfl, _⟩ := hlk
        obtain ⟨q, q0, q1, q2, q3, q4, q5⟩ := row7 hrow'
        have HE : Hid (∀ W, Below wr.heap.size wr W → EM false (some (xk, V.mk kk kb ki ks kl km)) W (New w1 w2) [.string xk, .int .i64 kk, .bool kb, .int .i64 ki, .string ks, .slice eal kl.length ecl, .slice eam km.length ecm]) := fun W hb => ⟨_, rfl, hks, V.lies_keep (fun h => h) (fun b hh => hb.block b (by have := hh.2; omega)) (fun _ h => h) _ hlj'⟩
        have HLL : Hid ((((um.take j).filter isStr).map some).length ≤ 4294967296) := by
          have h1 := List.length_filter_le isStr (um.take j)
          have h2 : (um.take j).length ≤ um.length := List.length_take_le' _ _
          show (List.map some _).length ≤ _
          rw [List.length_map]
          omega
        have HFF := hmk HF
        have hbr := hSb.2
        clear hrow hrow' hlj hlj' hxm HF hks
        by_cases hk : kk = 3
        · have hkb : (kk == 3) = true := by rw [hk]; rfl
          have hst : isStr (xk, V.mk kk kb ki ks kl km) = true := hkb
          have HF2 : Hid (((um.take (j + 1)).filter isStr).map some = ((um.take j).filter isStr).map some ++ [some (xk, V.mk kk kb ki ks kl km)]) := by show _ = _; rw [HFF.out, if_pos hst, List.map_append]; rfl
          clear HFF hst hk
          have hmA : Below wr.heap.size wr (wr.alloc (.cells #[.string xk, .int .i64 kk, .bool kb, .int .i64 ki, .string ks, .slice eal kl.length ecl, .slice eam km.length ecm] 32)) := (Below.refl _ _).alloc (Nat.le_refl _) _
          have hszA : (wr.alloc (.cells #[.string xk, .int .i64 kk, .bool kb, .int .i64 ki, .string ks, .slice eal kl.length ecl, .slice eam km.length ecm] 32)).heap.size = wr.heap.size + 1 := alloc_size _ _
          have hmX := heap_alloc_new wr (.cells #[.string xk, .int .i64 kk, .bool kb, .int .i64 ki, .string ks, .slice eal kl.length ecl, .slice eam km.length ecm] 32)
          have z1 : (wr.alloc (.cells #[.string xk, .int .i64 kk, .bool kb, .int .i64 ki, .string ks, .slice eal kl.length ecl, .slice eam km.length ecm] 32)).cell? ⟨wr.heap.size, 1, none⟩ = some (.int .i64 kk) := by rw [cell_of_block hmX]; rfl
          have z0 : (wr.alloc (.cells #[.string xk, .int .i64 kk, .bool kb, .int .i64 ki, .string ks, .slice eal kl.length ecl, .slice eam km.length ecm] 32)).cell? ⟨wr.heap.size, 0, none⟩ = some (.string xk) := by rw [cell_of_block hmX]; rfl
          have z2 : (wr.alloc (.cells #[.string xk, .int .i64 kk, .bool kb, .int .i64 ki, .string ks, .slice eal kl.length ecl, .slice eam km.length ecm] 32)).cell? ⟨wr.heap.size, 2, none⟩ = some (.bool kb) := by rw [cell_of_block hmX]; rfl
          have z3 : (wr.alloc (.cells #[.string xk, .int .i64 kk, .bool kb, .int .i64 ki, .string ks, .slice eal kl.length ecl, .slice eam km.length ecm] 32)).cell? ⟨wr.heap.size, 3, none⟩ = some (.int .i64 ki) := by rw [cell_of_block hmX]; rfl
          have z4 : (wr.alloc (.cells #[.string xk, .int .i64 kk, .bool kb, .int .i64 ki, .string ks, .slice eal kl.length ecl, .slice eam km.length ecm] 32)).cell? ⟨wr.heap.size, 4, none⟩ = some (.string ks) := by rw [cell_of_block hmX]; rfl
          have z5 : (wr.alloc (.cells #[.string xk, .int .i64 kk, .bool kb, .int .i64 ki, .string ks, .slice eal kl.length ecl, .slice eam km.length ecm] 32)).cell? ⟨wr.heap.size, 5, none⟩ = some (.slice eal kl.length ecl) := by rw [cell_of_block hmX]; rfl
          have z6 : (wr.alloc (.cells #[.string xk, .int .i64 kk, .bool kb, .int .i64 ki, .string ks, .slice eal kl.length ecl, .slice eam km.length ecm] 32)).cell? ⟨wr.heap.size, 6, none⟩ = some (.slice eam km.length ecm) := by rw [cell_of_block hmX]; rfl
          have hXA := (hmA.block w2.heap.size (lt_blk HXj.out)).trans HXj.out
          have hOA := HO.out.alloc (keepM false) (.cells #[.string xk, .int .i64 kk, .bool kb, .int .i64 ki, .string ks, .slice eal kl.length ecl, .slice eam km.length ecm] 32)
          go_wp2_with (at_builtin; go_loud (refine wpl_push (keepM false) _ rfl (.tmp 27) (.tmp 29) 23 rfl w1.heap.size i1 _ 104 Tryd.underlying23 hJ.out.1 hJ.out.2.1 hJ.out.2.2.1 hJ.out.2.2.2 rfl (by decide) (by decide) _ (some (xk, V.mk kk kb ki ks kl km)) rfl (hOA.alloc (keepM false) _) (wr.heap.size + 1) 1 (0, 0) rfl (alloc2_new wr _ _) rfl one7 (HE.out _ (two_below wr _ _)) (fun b hb => ⟨hb.1, by rw [alloc_size, alloc_size]; have := hb.2; omega, fun e => by have := (HOB.out b e.symm).1; have := hb.2; omega⟩) HLL.out (by rw [alloc_size, alloc_size]; omega) ?_))
          intro g cap w5 o5 g5 e5
          have hg : w2.heap.size ≤ g ∧ w2.heap.size ≠ g := by
            rcases e5 with e | e
            · exact HOB.out g e
            · have := hszA; exact ⟨by omega, by omega⟩
          have hown : ∀ r, u5.ownBlock = some r → w2.heap.size ≤ r ∧ w2.heap.size ≠ r := HOB.out
          have B5 : Below w.heap.size w w5 := ((Bj.alloc (by omega) _).alloc (by rw [alloc_size]; omega) _).grown g5 (by rw [alloc_size, alloc_size]; omega) (fun r e => by have := (hown r e).1; omega)
          have K5 : Below w2.heap.size w2 w5 := ((Kj.alloc (by omega) _).alloc (by rw [alloc_size]; omega) _).grown g5 (by rw [alloc_size, alloc_size]; omega) (fun r e => (hown r e).1)
          have X5 := hmk ((g5.block w2.heap.size (by rw [alloc_size, alloc_size]; omega) (fun e => (hown _ e.symm).2 rfl)).trans (((two_below wr _ _).block w2.heap.size (lt_blk HXj.out)).trans HXj.out))
          clear Bj Kj HXj HO
          go_wp2_with fail
          go_roundw
          case rel => exact ⟨j + 1, _, by omega, by go_num, B5, K5, X5, by rw [HF2.out]; exact o5, fun r hr => by
            have : r = g := by simpa [Value.ownBlock] using hr.symm
            rw [this]; exact hg, fun b hb => by
            rcases hb with hb | hb
            · exact HSM.out b hb
            · exact hb⟩
          case measure => simp [RowKit.intOf]; omega
        · have hkb : (kk == 3) = false := by rw [beq_eq_false_iff_ne]; exact hk
          have hst : isStr (xk, V.mk kk kb ki ks kl km) = false := hkb
          have HF2 : Hid (((um.take (j + 1)).filter isStr).map some = ((um.take j).filter isStr).map some) := by show _ = _; rw [HFF.out, hst]; simp
          clear HFF hst
          have hmA : Below wr.heap.size wr (wr.alloc (.cells #[.string xk, .int .i64 kk, .bool kb, .int .i64 ki, .string ks, .slice eal kl.length ecl, .slice eam km.length ecm] 32)) := (Below.refl _ _).alloc (Nat.le_refl _) _
          have hszA : (wr.alloc (.cells #[.string xk, .int .i64 kk, .bool kb, .int .i64 ki, .string ks, .slice eal kl.length ecl, .slice eam km.length ecm] 32)).heap.size = wr.heap.size + 1 := alloc_size _ _
          have hmX := heap_alloc_new wr (.cells #[.string xk, .int .i64 kk, .bool kb, .int .i64 ki, .string ks, .slice eal kl.length ecl, .slice eam km.length ecm] 32)
          have z1 : (wr.alloc (.cells #[.string xk, .int .i64 kk, .bool kb, .int .i64 ki, .string ks, .slice eal kl.length ecl, .slice eam km.length ecm] 32)).cell? ⟨wr.heap.size, 1, none⟩ = some (.int .i64 kk) := by rw [cell_of_block hmX]; rfl
          have z0 : (wr.alloc (.cells #[.string xk, .int .i64 kk, .bool kb, .int .i64 ki, .string ks, .slice eal kl.length ecl, .slice eam km.length ecm] 32)).cell? ⟨wr.heap.size, 0, none⟩ = some (.string xk) := by rw [cell_of_block hmX]; rfl
          have z2 : (wr.alloc (.cells #[.string xk, .int .i64 kk, .bool kb, .int .i64 ki, .string ks, .slice eal kl.length ecl, .slice eam km.length ecm] 32)).cell? ⟨wr.heap.size, 2, none⟩ = some (.bool kb) := by rw [cell_of_block hmX]; rfl
          have z3 : (wr.alloc (.cells #[.string xk, .int .i64 kk, .bool kb, .int .i64 ki, .string ks, .slice eal kl.length ecl, .slice eam km.length ecm] 32)).cell? ⟨wr.heap.size, 3, none⟩ = some (.int .i64 ki) := by rw [cell_of_block hmX]; rfl
          have z4 : (wr.alloc (.cells #[.string xk, .int .i64 kk, .bool kb, .int .i64 ki, .string ks, .slice eal kl.length ecl, .slice eam km.length ecm] 32)).cell? ⟨wr.heap.size, 4, none⟩ = some (.string ks) := by rw [cell_of_block hmX]; rfl
          have z5 : (wr.alloc (.cells #[.string xk, .int .i64 kk, .bool kb, .int .i64 ki, .string ks, .slice eal kl.length ecl, .slice eam km.length ecm] 32)).cell? ⟨wr.heap.size, 5, none⟩ = some (.slice eal kl.length ecl) := by rw [cell_of_block hmX]; rfl
          have z6 : (wr.alloc (.cells #[.string xk, .int .i64 kk, .bool kb, .int .i64 ki, .string ks, .slice eal kl.length ecl, .slice eam km.length ecm] 32)).cell? ⟨wr.heap.size, 6, none⟩ = some (.slice eam km.length ecm) := by rw [cell_of_block hmX]; rfl
          have hXA := (hmA.block w2.heap.size (lt_blk HXj.out)).trans HXj.out
          have hOA := HO.out.alloc (keepM false) (.cells #[.string xk, .int .i64 kk, .bool kb, .int .i64 ki, .string ks, .slice eal kl.length ecl, .slice eam km.length ecm] 32)
          go_wp2_with fail
          go_roundw
          case rel => exact ⟨j + 1, SM, by omega, by go_num, Bj.alloc (by omega) _, Kj.alloc (by omega) _, hXA, by rw [HF2.out]; exact hOA, HOB, HSM⟩
          case measure => simp [RowKit.intOf]; omega
      · obtain rfl : j = um.length := by omega
        have y1 : ¬ (um.length : Int) < um.length := by omega
        have hfin := HO.out
        rw [List.take_of_length_le (Nat.le_refl _)] at hfin
        obtain ⟨ra, rc, rb, ro, rfl, rh, rl⟩ := own_listM hfin
        have HRL := hmk rl
        have HRH := hmk rh
        clear hfin rl rh HO
        go_wp2_with fail
        (try simp only [Exit.inBlock, Exit.then])
        go_ret
        show LbPost (labV _) w _ _
        rw [HL.out]
        exact ⟨ra, rc, rb, ro, rfl, HRH.out, liesM_keep (fun h => h) (fun _ _ => rfl) (fun x hx => ⟨by have := hx.1; omega, hx.2⟩) _ HRL.out, Bj⟩
  · have HL : Hid (labV v = []) := by show _ = _; unfold labV; rw [if_neg hc]
    have hcb : ((chkE v 32 : Int) == 0) = false := by rw [beq_eq_false_iff_ne]; omega
    generalize hcc0 : chkE v 32 = cc at *
    clear hcc0
    have hcc : ¬ (cc : Int) = 0 := by omega
    go_wp2_with fail
    go_ret
    show LbPost (labV _) w _ _
    rw [HL.out]
    exact lb_nil w _ B1
set_option maxHeartbeats 8000000 in
set_option maxRecDepth 100000 in
theorem rlabels_any (v : V) (R : Bool) (S : Nat → Prop) (cs : List Value) (w : World) (tb : Tb w) (hv : v.lies R w S cs) (hS : ∀ b, S b → b < w.heap.size) (hwt : v.wt ≤ 2147483648) :
    Calls Tryd.prog 8 #[.agg cs.toArray] w (LbPost (labV v) w) := by
  obtain ⟨k, b, i, s, al, nl, cl, am, nm, cm, rfl⟩ := V.ten hv
  have b0 := (Below.refl w.heap.size w).alloc (Nat.le_refl _) (.cells #[.int .i64 k, .bool b, .int .i64 i, .string s, .slice al nl cl, .slice am nm cm] 25)
  have hX := heap_alloc_new w (.cells #[.int .i64 k, .bool b, .int .i64 i, .string s, .slice al nl cl, .slice am nm cm] 25)
  have hzX : (w.alloc (.cells #[.int .i64 k, .bool b, .int .i64 i, .string s, .slice al nl cl, .slice am nm cm] 25)).heap.size = w.heap.size + 1 := alloc_size _ _
  have HV : Hid (∀ W, Below w.heap.size w W → v.lies R W S [.int .i64 k, .bool b, .int .i64 i, .string s, .slice al nl cl, .slice am nm cm] ∧ (∀ b, S b → b < W.heap.size)) := fun W hb => ⟨V.lies_keep (fun h => h) (fun x hx => hb.block x (hS x hx)) (fun _ h => h) _ hv, fun x hx => Nat.lt_of_lt_of_le (hS x hx) hb.size⟩
  have HB : Hid (∀ W, Below w.heap.size w W → Tb W) := fun W hb => tb.below hb tb.z
  obtain ⟨r0, r1, r2, r3, r4, r5⟩ := row6z (cs_row hX)
  clear hv tb
  go_enter Tryd.func8, Tryd.ntmps8
  go_wp2_with fail
  clear r0 r1 r2 r3 r4 r5
  generalize (w.alloc (.cells #[.int .i64 k, .bool b, .int .i64 i, .string s, .slice al nl cl, .slice am nm cm] 25)) = w0 at *
  refine (rcheck_any R v 32 S _ w0 (HV.out w0 b0).1 (HV.out w0 b0).2 (by omega)).mono ?_
  rintro e w1 ⟨rfl, b1⟩
  have hz1 := b1.size
  have B1 := b0.trans (b1.mono (by omega))
  have hX1 := (b1.block w.heap.size (by omega)).trans hX
  clear hX b1 b0
  by_cases hc : chkE v 32 = 0
  · have HL : Hid (labV v = (undr v).filter isStr) := by show _ = _; unfold labV; rw [if_pos hc]
    rw [hc]
    obtain ⟨r0, r1, r2, r3, r4, r5⟩ := row6z (cs_row hX1)
    have CG := hmk (rget_any v lbK R S _ w1 (HV.out w1 B1).1 (HV.out w1 B1).2 (by omega))
    have hu : memsOf (getV v lbK).1 = undr v := rfl
    have hug := undr_wt v
    clear hc
    go_wp2_with fail
    clear r0 r1 r2 r3 r4 r5
    refine CG.out.mono ?_
    clear CG
    rintro e w2 ⟨cg, rfl, hg, b2⟩
    have hz2 := b2.size
    have B2 := B1.trans (b2.mono (by omega))
    generalize getV v lbK = gp at *
    obtain ⟨⟨uk, ub, ui, us, ul, um⟩, uok⟩ := gp
    rw [← hu] at HL
    have hg' := hg
    rw [V.lies] at hg'
    obtain ⟨ual, ucl, ubl, uol, uam, ucm, ubm, uom, rfl, _, _, _, _, ham, _, hml, _⟩ := hg'
    simp only [memsOf] at HL
    clear hu hX1
    have hM : um.length ≤ 2147483648 := by have h1 := wtM_len um; simp only [V.wt] at hug; omega
    have hml3 : Hid (liesM false w2 (New w1 w2) um ubm uom) := hml
    have HAM := hmk ham
    have B3 : Below w.heap.size w (w2.alloc (.cells #[.int .i64 uk, .bool ub, .int .i64 ui, .string us, .slice ual ul.length ucl, .slice uam um.length ucm] 25)) := B2.alloc (by omega) _
    have K3 : Below w2.heap.size w2 (w2.alloc (.cells #[.int .i64 uk, .bool ub, .int .i64 ui, .string us, .slice ual ul.length ucl, .slice uam um.length ucm] 25)) := (Below.refl _ _).alloc (Nat.le_refl _) _
    have hX3 := heap_alloc_new w2 (.cells #[.int .i64 uk, .bool ub, .int .i64 ui, .string us, .slice ual ul.length ucl, .slice uam um.length ucm] 25)
    obtain ⟨i1, hi1, hy⟩ := Option.map_eq_some_iff.1 info44
    simp only [Prod.mk.injEq] at hy
    obtain ⟨hy0, hy1, hy2⟩ := hy
    have hJ : Hid (Tryd.prog.info? 32 = some i1 ∧ i1.zero = some (.agg #[.string ⟨#[]⟩, .int .i64 0, .bool false, .int .i64 0, .string ⟨#[]⟩, .slice none 0 0, .slice none 0 0]) ∧ i1.size = 7 ∧ i1.bytes = 104) := ⟨hi1, hy0, hy1, hy2⟩
    clear hi1 hy0 hy1 hy2 hml ham B2 hug hg
    go_wp2_with fail
    generalize (w2.alloc (.cells #[.int .i64 uk, .bool ub, .int .i64 ui, .string us, .slice ual ul.length ucl, .slice uam um.length ucm] 25)) = w3 at *
    go_loopw [6, 7] (fun e5 e19 wr => ∃ (j : Nat) (SM : Nat → Prop), j ≤ um.length ∧ e19 = .int .i64 (j : Int) ∧ Below w.heap.size w wr ∧ Below w2.heap.size w2 wr ∧ Hid (wr.heap[w2.heap.size]? = some (.cells #[.int .i64 uk, .bool ub, .int .i64 ui, .string us, .slice ual ul.length ucl, .slice uam um.length ucm] 25)) ∧ Hid (OwnM false wr w1.heap.size SM e5 (((um.take j).filter isStr).map some)) ∧ Hid (∀ r, e5.ownBlock = some r → w2.heap.size ≤ r ∧ w2.heap.size ≠ r) ∧ Hid (∀ b, SM b → w1.heap.size ≤ b ∧ b < w2.heap.size)) (fun e5 e19 _ => um.length - (RowKit.intOf e19).toNat)
    case atStart => exact ⟨0, fun _ => False, by omega, rfl, B3, K3, hX3, (by show OwnM false w3 w1.heap.size _ _ (((um.take 0).filter isStr).map some); simpa using OwnR.nil _ _), fun r hr => by simp [Value.ownBlock] at hr, fun b hb => hb.elim⟩
    case round =>
      clear B3 K3 hX3
      obtain ⟨j, SM, hj, rfl, Bj, Kj, HXj, HO, HOB, HSM⟩ := hrel
      have hzr := Kj.size
      have c5 : wr.cell? ⟨w2.heap.size, 5, none⟩ = some (.slice uam um.length ucm) := by rw [cell_of_block HXj.out]; rfl
      by_cases hjl : j < um.length
      · have y1 : (j : Int) < um.length := by omega
        obtain ⟨hSb, hks, csj, hrow, hlj⟩ := liesM_get hml3.out j hjl
        obtain rfl : uam = some ⟨ubm, uom, none⟩ := HAM.out.at_.resolve_left (by omega)
        have hrow' := hrow.keep (Kj.block _ hSb.2)
        have hlj' : (um[j]).2.lies false wr (New w1 w2) csj := V.lies_keep (fun h => h) (fun b hb => Kj.block b hb.2) (fun _ h => h) _ hlj
        have HF := filter_take hjl
        obtain ⟨xm, hxm⟩ : ∃ xm, um[j] = xm := ⟨_, rfl⟩
        rw [hxm] at HF hlj' hrow' hks
        obtain ⟨xk, xv⟩ := xm
        have hkx : ∃ kk b i s l m, xv = V.mk kk b i s l m := by cases xv; exact ⟨_, _, _, _, _, _, rfl⟩
        obtain ⟨kk, kb, ki, ks, kl, km, rfl⟩ := hkx
        have hlk := hlj'
        rw [V.lies] at hlk
        obtain ⟨eal, ecl, _, _, eam, ecm, _, _, rfl, _⟩ := hlk
        obtain ⟨q, q0, q1, q2, q3, q4, q5⟩ := row7 hrow'
        have HE : Hid (∀ W, Below wr.heap.size wr W → EM false (some (xk, V.mk kk kb ki ks kl km)) W (New w1 w2) [.string xk, .int .i64 kk, .bool kb, .int .i64 ki, .string ks, .slice eal kl.length ecl, .slice eam km.length ecm]) := fun W hb => ⟨_, rfl, hks, V.lies_keep (fun h => h) (fun b hh => hb.block b (by have := hh.2; omega)) (fun _ h => h) _ hlj'⟩
        have HLL : Hid ((((um.take j).filter isStr).map some).length ≤ 4294967296) := by
          have h1 := List.length_filter_le isStr (um.take j)
          have h2 : (um.take j).length ≤ um.length := List.length_take_le' _ _
          show (List.map some _).length ≤ _
          rw [List.length_map]
          omega
        have HFF := hmk HF
        have hbr := hSb.2
        clear hrow hrow' hlj hlj' hxm HF hks
        by_cases hk : kk = 3
        · have hkb : (kk == 3) = true := by rw [hk]; rfl
          have hst : isStr (xk, V.mk kk kb ki ks kl km) = true := hkb
          have HF2 : Hid (((um.take (j + 1)).filter isStr).map some = ((um.take j).filter isStr).map some ++ [some (xk, V.mk kk kb ki ks kl km)]) := by show _ = _; rw [HFF.out, if_pos hst, List.map_append]; rfl
          clear HFF hst hk
          have hszA := alloc_size wr (.cells #[.string xk, .int .i64 kk, .bool kb, .int .i64 ki, .string ks, .slice eal kl.length ecl, .slice eam km.length ecm] 32)
          go_wp2_with (at_builtin; go_loud (refine wpl_push (keepM false) _ rfl (.tmp 32) (.tmp 38) 23 rfl w1.heap.size i1 _ 104 Tryd.underlying23 hJ.out.1 hJ.out.2.1 hJ.out.2.2.1 hJ.out.2.2.2 rfl (by decide) (by decide) _ (some (xk, V.mk kk kb ki ks kl km)) rfl (HO.out.alloc (keepM false) _) wr.heap.size 1 (0, 0) rfl (heap_alloc_new wr _) rfl one7 (HE.out _ ((Below.refl _ _).alloc (Nat.le_refl _) _)) (fun b hb => ⟨hb.1, by rw [alloc_size]; have := hb.2; omega, fun e => by have := (HOB.out b e.symm).1; have := hb.2; omega⟩) HLL.out (by rw [alloc_size]; omega) ?_))
          intro g cap w5 o5 g5 e5
          have hg : w2.heap.size ≤ g ∧ w2.heap.size ≠ g := by
            rcases e5 with e | e
            · exact HOB.out g e
            · have := hszA; exact ⟨by omega, by omega⟩
          have hown : ∀ r, u6.ownBlock = some r → w2.heap.size ≤ r ∧ w2.heap.size ≠ r := HOB.out
          have B5 : Below w.heap.size w w5 := (Bj.alloc (by omega) _).grown g5 (by rw [alloc_size]; omega) (fun r e => by have := (hown r e).1; omega)
          have K5 : Below w2.heap.size w2 w5 := (Kj.alloc (by omega) _).grown g5 (by rw [alloc_size]; omega) (fun r e => (hown r e).1)
          have X5 := hmk ((g5.block w2.heap.size (by rw [alloc_size]; omega) (fun e => (hown _ e.symm).2 rfl)).trans ((((Below.refl wr.heap.size wr).alloc (Nat.le_refl _) _).block w2.heap.size (lt_blk HXj.out)).trans HXj.out))
          clear Bj Kj HXj HO
          go_wp2_with fail
          go_roundw
          case rel => exact ⟨j + 1, _, by omega, by go_num, B5, K5, X5, by rw [HF2.out]; exact o5, fun r hr => by
            have : r = g := by simpa [Value.ownBlock] using hr.symm
            rw [this]; exact hg, fun b hb => by
            rcases hb with hb | hb
            · exact HSM.out b hb
            · exact hb⟩
          case measure => simp [RowKit.intOf]; omega
        · have hkb : (kk == 3) = false := by rw [beq_eq_false_iff_ne]; exact hk
          have hst : isStr (xk, V.mk kk kb ki ks kl km) = false := hkb
          have HF2 : Hid (((um.take (j + 1)).filter isStr).map some = ((um.take j).filter isStr).map some) := by show _ = _; rw [HFF.out, hst]; simp
          clear HFF hst
          skip
          go_wp2_with fail
          go_roundw
          case rel => exact ⟨j + 1, SM, by omega, by go_num, Bj, Kj, HXj, by rw [HF2.out]; exact HO.out, HOB, HSM⟩
          case measure => simp [RowKit.intOf]; omega
      · obtain rfl : j = um.length := by omega
        have y1 : ¬ (um.length : Int) < um.length := by omega
        have hfin := HO.out
        rw [List.take_of_length_le (Nat.le_refl _)] at hfin
        obtain ⟨ra, rc, rb, ro, rfl, rh, rl⟩ := own_listM hfin
        have HRL := hmk rl
        have HRH := hmk rh
        clear hfin rl rh HO
        go_wp2_with fail
        (try simp only [Exit.inBlock, Exit.then])
        go_ret
        show LbPost (labV _) w _ _
        rw [HL.out]
        exact ⟨ra, rc, rb, ro, rfl, HRH.out, liesM_keep (fun h => h) (fun _ _ => rfl) (fun x hx => ⟨by have := hx.1; omega, hx.2⟩) _ HRL.out, Bj⟩
  · have HL : Hid (labV v = []) := by show _ = _; unfold labV; rw [if_neg hc]
    have hcb : ((chkE v 32 : Int) == 0) = false := by rw [beq_eq_false_iff_ne]; omega
    generalize hcc0 : chkE v 32 = cc at *
    clear hcc0
    have hcc : ¬ (cc : Int) = 0 := by omega
    go_wp2_with fail
    go_ret
    show LbPost (labV _) w _ _
    rw [HL.out]
    exact lb_nil w _ B1
end Go.Proofs.YtmmlejbebfkojaaDoor
