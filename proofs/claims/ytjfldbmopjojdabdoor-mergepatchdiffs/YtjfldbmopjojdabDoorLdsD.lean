import Derived.Test.YtjfldbmopjojdabDoorDocQ
import Derived.Test.YtjfldbmopjojdabDoorEqlR
set_option linter.unusedSimpArgs false
set_option linter.unusedVariables false
namespace Go.Proofs.YtjfldbmopjojdabDoor
open Go.RowKit Go.Lib
theorem has_v (v : V) (key : ByteArray) (S : Nat → Prop) (cs : List Value) (w : World) (hv : v.lies false w S cs) (hS : ∀ b, S b → b < w.heap.size) : Calls Tryd.prog 28 #[.agg cs.toArray, .string key] w (BPost (hasR (memsOf v) key) w) := by
 obtain ⟨k, b, i, s, l, m⟩ := v
 exact has_any k b i s l m key S cs w hv hS
theorem get_v (v : V) (key : ByteArray) (S : Nat → Prop) (cs : List Value) (w : World) (hv : v.lies false w S cs) (hS : ∀ b, S b → b < w.heap.size) (hwt : v.wt ≤ 2147483648) : Calls Tryd.prog 30 #[.agg cs.toArray, .string key] w (RpPost (getR (memsOf v) key) S w) := by
 obtain ⟨k, b, i, s, l, m⟩ := v
 exact rget05_any k b i s l m key S cs w hv hS hwt
theorem Ok.getv {v : V} (h : Ok v) (key : ByteArray) : Ok (getR (memsOf v) key) := by
 obtain ⟨k, b, i, s, l, m⟩ := v
 exact h.get key
def ldG (o : List Mem) (k : ByteArray) (x : V) : Bool := if hasR o k = true then (eqlV (getR o k) x || (ldV (getR o k) x && !(kindOf x == 0))) else clnB x
theorem ldM_drop {o m : List Mem} {j : Nat} (h : j < m.length) : ldM o (m.drop j) = (ldG o (m[j]).1 (m[j]).2 && ldM o (m.drop (j + 1))) := by
 rw [List.drop_eq_getElem_cons h]
 rcases m[j] with ⟨k, x⟩
 rw [ldM]
 rfl
set_option maxHeartbeats 8000000 in
set_option maxRecDepth 100000 in
theorem leads_any (p : V) : ∀ (t : V) (S : Nat → Prop) (cs ds : List Value) (w : World), Ok t → Ok p → t.lies false w S cs → p.lies false w S ds → (∀ b, S b → b < w.heap.size) → Calls Tryd.prog 18 #[.agg cs.toArray, .agg ds.toArray] w (BPost (ldV t p) w) := by
 induction p using V.ind_v with
 | h k b i s l m ihl ihm =>
 intro t S cs ds w ot op hv hx hS
 have hwt := ot.wt
 obtain ⟨tk, tb, ti, ts, tal, tnl, tcl, tam, tnm, tcm, rfl⟩ := V.ten hv
 have hkt := kind_lies hv
 have HL : Hid (∀ W, Below w.heap.size w W → t.lies false W S [.int .i64 tk, .bool tb, .int .i64 ti, .string ts, .slice tal tnl tcl, .slice tam tnm tcm] ∧ (∀ b, S b → b < W.heap.size)) := fun W hB => ⟨V.lies_keep (fun h => h) (fun x hx => hB.block x (hS x hx)) (fun x hx => hx) _ hv, fun x hx => Nat.lt_of_lt_of_le (hS x hx) hB.size⟩
 have hx0 := hx
 rw [V.lies] at hx
 obtain ⟨al, cl, bl, ol, am, cm, bm, om, rfl, ik, ii, is, hal, ham, hl, hm, _⟩ := hx
 have HX : Hid (∀ W, Below w.heap.size w W → (V.mk k b i s l m).lies false W S [.int .i64 k, .bool b, .int .i64 i, .string s, .slice al l.length cl, .slice am m.length cm]) := fun W hB => V.lies_keep (fun h => h) (fun x hx => hB.block x (hS x hx)) (fun x hx => hx) _ hx0
 have HM : Hid (∀ W, Below w.heap.size w W → liesM false W S m bm om) := fun W hb => liesM_keep (fun h => h) (fun x hx => hb.block x (hS x hx)) (fun _ h => h) _ hm
 have hml : m.length ≤ 9223372036854775807 := Nat.le_trans ham.le ham.max
 have HOM : Hid (∀ y ∈ m, Ok y.2) := fun y hy => op.mem hy
 have HOG : Hid (∀ key, Ok (getR (memsOf t) key)) := fun key => ot.getv key
 have Bww2 : Below w.heap.size w ((w.alloc (.cells #[.int .i64 tk, .bool tb, .int .i64 ti, .string ts, .slice tal tnl tcl, .slice tam tnm tcm] 25)).alloc (.cells #[.int .i64 k, .bool b, .int .i64 i, .string s, .slice al l.length cl, .slice am m.length cm] 25)) := two_below w _ _
 have hz2 : ((w.alloc (.cells #[.int .i64 tk, .bool tb, .int .i64 ti, .string ts, .slice tal tnl tcl, .slice tam tnm tcm] 25)).alloc (.cells #[.int .i64 k, .bool b, .int .i64 i, .string s, .slice al l.length cl, .slice am m.length cm] 25)).heap.size = w.heap.size + 2 := by rw [alloc_size, alloc_size]
 have htw2 := alloc2_keep1 w (.cells #[.int .i64 tk, .bool tb, .int .i64 ti, .string ts, .slice tal tnl tcl, .slice tam tnm tcm] 25) (.cells #[.int .i64 k, .bool b, .int .i64 i, .string s, .slice al l.length cl, .slice am m.length cm] 25)
 have hpw2 := alloc2_new w (.cells #[.int .i64 tk, .bool tb, .int .i64 ti, .string ts, .slice tal tnl tcl, .slice tam tnm tcm] 25) (.cells #[.int .i64 k, .bool b, .int .i64 i, .string s, .slice al l.length cl, .slice am m.length cm] 25)
 clear hx0 hl hm hv
 have cp0 : ((w.alloc (.cells #[.int .i64 tk, .bool tb, .int .i64 ti, .string ts, .slice tal tnl tcl, .slice tam tnm tcm] 25)).alloc (.cells #[.int .i64 k, .bool b, .int .i64 i, .string s, .slice al l.length cl, .slice am m.length cm] 25)).cell? ⟨w.heap.size + 1, 0, none⟩ = some (.int .i64 k) := by rw [cell_of_block hpw2]; rfl
 have ct0 : ((w.alloc (.cells #[.int .i64 tk, .bool tb, .int .i64 ti, .string ts, .slice tal tnl tcl, .slice tam tnm tcm] 25)).alloc (.cells #[.int .i64 k, .bool b, .int .i64 i, .string s, .slice al l.length cl, .slice am m.length cm] 25)).cell? ⟨w.heap.size, 0, none⟩ = some (.int .i64 tk) := by rw [cell_of_block htw2]; rfl
 by_cases hk : k = 5
 rotate_left
 ·have HP : Hid (ldV t (.mk k b i s l m) = true) := ldV_flat (b := .mk k b i s l m) hk
  have yk : (k == 5) = false := beq_eq_false_iff_ne.2 hk
  have yn : (k != 5) = true := by simp [hk]
  go_enter Tryd.func18, Tryd.ntmps18
  go_wp2_with fail
  go_ret
  exact ⟨by rw [HP.out]; rfl, Bww2⟩
 subst hk
 by_cases ht5 : tk = 5
 rotate_left
 ·have HP : Hid (ldV t (.mk 5 b i s l m) = clnB (.mk 5 b i s l m)) := ldV_new (b := .mk 5 b i s l m) (fun h => ht5 (hkt.symm.trans h)) rfl
  have yt : (tk == 5) = false := beq_eq_false_iff_ne.2 ht5
  have ytn : (tk != 5) = true := by simp [ht5]
  have cq0 : ((w.alloc (.cells #[.int .i64 tk, .bool tb, .int .i64 ti, .string ts, .slice tal tnl tcl, .slice tam tnm tcm] 25)).alloc (.cells #[.int .i64 5, .bool b, .int .i64 i, .string s, .slice al l.length cl, .slice am m.length cm] 25)).cell? ⟨w.heap.size + 1, 0, none⟩ = some (.int .i64 5) := by rw [cell_of_block hpw2]; rfl
  have cq1 : ((w.alloc (.cells #[.int .i64 tk, .bool tb, .int .i64 ti, .string ts, .slice tal tnl tcl, .slice tam tnm tcm] 25)).alloc (.cells #[.int .i64 5, .bool b, .int .i64 i, .string s, .slice al l.length cl, .slice am m.length cm] 25)).cell? ⟨w.heap.size + 1, 1, none⟩ = some (.bool b) := by rw [cell_of_block hpw2]; rfl
  have cq2 : ((w.alloc (.cells #[.int .i64 tk, .bool tb, .int .i64 ti, .string ts, .slice tal tnl tcl, .slice tam tnm tcm] 25)).alloc (.cells #[.int .i64 5, .bool b, .int .i64 i, .string s, .slice al l.length cl, .slice am m.length cm] 25)).cell? ⟨w.heap.size + 1, 2, none⟩ = some (.int .i64 i) := by rw [cell_of_block hpw2]; rfl
  have cq3 : ((w.alloc (.cells #[.int .i64 tk, .bool tb, .int .i64 ti, .string ts, .slice tal tnl tcl, .slice tam tnm tcm] 25)).alloc (.cells #[.int .i64 5, .bool b, .int .i64 i, .string s, .slice al l.length cl, .slice am m.length cm] 25)).cell? ⟨w.heap.size + 1, 3, none⟩ = some (.string s) := by rw [cell_of_block hpw2]; rfl
  have cq4 : ((w.alloc (.cells #[.int .i64 tk, .bool tb, .int .i64 ti, .string ts, .slice tal tnl tcl, .slice tam tnm tcm] 25)).alloc (.cells #[.int .i64 5, .bool b, .int .i64 i, .string s, .slice al l.length cl, .slice am m.length cm] 25)).cell? ⟨w.heap.size + 1, 4, none⟩ = some (.slice al l.length cl) := by rw [cell_of_block hpw2]; rfl
  have cq5 : ((w.alloc (.cells #[.int .i64 tk, .bool tb, .int .i64 ti, .string ts, .slice tal tnl tcl, .slice tam tnm tcm] 25)).alloc (.cells #[.int .i64 5, .bool b, .int .i64 i, .string s, .slice al l.length cl, .slice am m.length cm] 25)).cell? ⟨w.heap.size + 1, 5, none⟩ = some (.slice am m.length cm) := by rw [cell_of_block hpw2]; rfl
  go_enter Tryd.func18, Tryd.ntmps18
  go_wp2_with fail
  clear cq0 cq1 cq2 cq3 cq4 cq5 cp0 ct0
  generalize ((w.alloc (.cells #[.int .i64 tk, .bool tb, .int .i64 ti, .string ts, .slice tal tnl tcl, .slice tam tnm tcm] 25)).alloc (.cells #[.int .i64 5, .bool b, .int .i64 i, .string s, .slice al l.length cl, .slice am m.length cm] 25)) = w2 at *
  refine (rclean27_any (.mk 5 b i s l m) S _ w2 (HX.out w2 Bww2) (HL.out w2 Bww2).2).mono ?_
  rintro e w3 ⟨rfl, b3⟩
  go_wp2_with fail
  go_ret
  exact ⟨by rw [HP.out]; rfl, Bww2.trans (b3.mono (by omega))⟩
 subst ht5
 have HP : Hid (ldV t (.mk 5 b i s l m) = ldM (memsOf t) m) := ldV_map (b := .mk 5 b i s l m) hkt rfl
 generalize ldV t (.mk 5 b i s l m) = RR at *
 go_enter Tryd.func18, Tryd.ntmps18
 go_wp2_with fail
 clear cp0 ct0
 generalize ((w.alloc (.cells #[.int .i64 5, .bool tb, .int .i64 ti, .string ts, .slice tal tnl tcl, .slice tam tnm tcm] 25)).alloc (.cells #[.int .i64 5, .bool b, .int .i64 i, .string s, .slice al l.length cl, .slice am m.length cm] 25)) = w2 at *
 go_loopw [5] (fun e wr => ∃ j : Nat, j ≤ m.length ∧ e = .int .i64 (j : Int) ∧ Below w2.heap.size w2 wr ∧ Hid (RR = ldM (memsOf t) (m.drop j))) (fun e _ => m.length - (RowKit.intOf e).toNat)
 case atStart => exact ⟨0, by omega, rfl, Below.refl _ _, HP⟩
 case round =>
  clear HP
  obtain ⟨j, hj, rfl, bj, HJ⟩ := hrel
  have hzwr := bj.size
  have htwr := (bj.block (w.heap.size) (by omega)).trans htw2
  have hpwr := (bj.block (w.heap.size + 1) (by omega)).trans hpw2
  have Bwwr := Bww2.trans (bj.mono (by omega))
  have cq0 : wr.cell? ⟨w.heap.size + 1, 0, none⟩ = some (.int .i64 5) := by rw [cell_of_block hpwr]; rfl
  have cq1 : wr.cell? ⟨w.heap.size + 1, 1, none⟩ = some (.bool b) := by rw [cell_of_block hpwr]; rfl
  have cq2 : wr.cell? ⟨w.heap.size + 1, 2, none⟩ = some (.int .i64 i) := by rw [cell_of_block hpwr]; rfl
  have cq3 : wr.cell? ⟨w.heap.size + 1, 3, none⟩ = some (.string s) := by rw [cell_of_block hpwr]; rfl
  have cq4 : wr.cell? ⟨w.heap.size + 1, 4, none⟩ = some (.slice al l.length cl) := by rw [cell_of_block hpwr]; rfl
  have cq5 : wr.cell? ⟨w.heap.size + 1, 5, none⟩ = some (.slice am m.length cm) := by rw [cell_of_block hpwr]; rfl
  clear cq0 cq1 cq2 cq3 cq4
  by_cases hjl : j < m.length
  rotate_left
  ·obtain rfl : j = m.length := by omega
   have y1 : ¬ (m.length : Int) < m.length := by omega
   have HF : Hid (RR = true) := by show _ = _; rw [HJ.out, List.drop_length, ldM]
   go_wp2_with fail
   go_ret
   exact ⟨by rw [HF.out]; rfl, Bwwr⟩
  have y1 : (j : Int) < m.length := by omega
  obtain rfl : am = some ⟨bm, om, none⟩ := ham.at_.resolve_left (by omega)
  obtain ⟨hSb, hks, csj, hrow, hlj⟩ := liesM_get (HM.out wr Bwwr) j hjl
  have HIH := hmk (ihm m[j] (List.getElem_mem hjl))
  have HOJ := hmk (HOM.out m[j] (List.getElem_mem hjl))
  have HD := hmk (HJ.out.trans (ldM_drop hjl))
  obtain ⟨ek, eb, ei, es, eal, enl, ecl, eam, enm, ecm, rfl⟩ := V.ten hlj
  have hke := kind_lies hlj
  have HE : Hid (∀ W, Below w.heap.size w W → (m[j]).2.lies false W S [.int .i64 ek, .bool eb, .int .i64 ei, .string es, .slice eal enl ecl, .slice eam enm ecm]) := fun W hB => V.lies_keep (fun h => h) (fun x hx => (hB.block x (hS x hx)).trans (Bwwr.block x (hS x hx)).symm) (fun x hx => hx) _ hlj
  rcases hxj : m[j] with ⟨ekey, xv⟩
  rw [hxj] at hks hrow HIH HOJ HD hke HE
  simp only at hks hrow HIH HOJ HD hke HE
  obtain ⟨qk, q0, q1, q2, q3, q4, q5⟩ := row7 hrow
  have hwx := HOJ.out.wt
  have hwg := (HOG.out ekey).wt
  have B2r := hmk bj
  clear hlj hxj hrow HJ bj
  have bzwa : Below wr.heap.size wr (wr.alloc (.cells #[.int .i64 ek, .bool eb, .int .i64 ei, .string es, .slice eal enl ecl, .slice eam enm ecm] 25)) := one_belowG _ _
  have hltwa : wr.heap.size < (wr.alloc (.cells #[.int .i64 ek, .bool eb, .int .i64 ei, .string es, .slice eal enl ecl, .slice eam enm ecm] 25)).heap.size := by rw [alloc_size]; omega
  have htwa := (bzwa.block (w.heap.size) (by omega)).trans htwr
  have hpwa := (bzwa.block (w.heap.size + 1) (by omega)).trans hpwr
  have Bwwa := Bwwr.trans (bzwa.mono (by omega))
  have hxwa := heap_alloc_new wr (.cells #[.int .i64 ek, .bool eb, .int .i64 ei, .string es, .slice eal enl ecl, .slice eam enm ecm] 25)
  have ct0 : (wr.alloc (.cells #[.int .i64 ek, .bool eb, .int .i64 ei, .string es, .slice eal enl ecl, .slice eam enm ecm] 25)).cell? ⟨w.heap.size, 0, none⟩ = some (.int .i64 5) := by rw [cell_of_block htwa]; rfl
  have ct1 : (wr.alloc (.cells #[.int .i64 ek, .bool eb, .int .i64 ei, .string es, .slice eal enl ecl, .slice eam enm ecm] 25)).cell? ⟨w.heap.size, 1, none⟩ = some (.bool tb) := by rw [cell_of_block htwa]; rfl
  have ct2 : (wr.alloc (.cells #[.int .i64 ek, .bool eb, .int .i64 ei, .string es, .slice eal enl ecl, .slice eam enm ecm] 25)).cell? ⟨w.heap.size, 2, none⟩ = some (.int .i64 ti) := by rw [cell_of_block htwa]; rfl
  have ct3 : (wr.alloc (.cells #[.int .i64 ek, .bool eb, .int .i64 ei, .string es, .slice eal enl ecl, .slice eam enm ecm] 25)).cell? ⟨w.heap.size, 3, none⟩ = some (.string ts) := by rw [cell_of_block htwa]; rfl
  have ct4 : (wr.alloc (.cells #[.int .i64 ek, .bool eb, .int .i64 ei, .string es, .slice eal enl ecl, .slice eam enm ecm] 25)).cell? ⟨w.heap.size, 4, none⟩ = some (.slice tal tnl tcl) := by rw [cell_of_block htwa]; rfl
  have ct5 : (wr.alloc (.cells #[.int .i64 ek, .bool eb, .int .i64 ei, .string es, .slice eal enl ecl, .slice eam enm ecm] 25)).cell? ⟨w.heap.size, 5, none⟩ = some (.slice tam tnm tcm) := by rw [cell_of_block htwa]; rfl
  go_wp2_with fail
  clear ct0 ct1 ct2 ct3 ct4 ct5 qk q0 q1 q2 q3 q4 q5 cq5
  generalize (wr.alloc (.cells #[.int .i64 ek, .bool eb, .int .i64 ei, .string es, .slice eal enl ecl, .slice eam enm ecm] 25)) = wa at *
  refine (has_v t ekey S _ wa (HL.out wa Bwwa).1 (HL.out wa Bwwa).2).mono ?_
  rintro e wb ⟨rfl, bb⟩
  have hzwb := bb.size
  have htwb := (bb.block (w.heap.size) (by omega)).trans htwa
  have hpwb := (bb.block (w.heap.size + 1) (by omega)).trans hpwa
  have hxwb := (bb.block (wr.heap.size) (by omega)).trans hxwa
  have Bwwb := Bwwa.trans (bb.mono (by omega))
  have B2b := hmk (B2r.out.trans ((bzwa.trans (bb.mono (by omega))).mono (by omega)))
  clear bb bzwa B2r
  cases hh : hasR (memsOf t) ekey with
  | false =>
   have HG : Hid (ldG (memsOf t) ekey xv = clnB xv) := by show _ = _; rw [ldG, if_neg (by rw [hh]; simp)]
   have cx0 : wb.cell? ⟨wr.heap.size, 0, none⟩ = some (.int .i64 ek) := by rw [cell_of_block hxwb]; rfl
   have cx1 : wb.cell? ⟨wr.heap.size, 1, none⟩ = some (.bool eb) := by rw [cell_of_block hxwb]; rfl
   have cx2 : wb.cell? ⟨wr.heap.size, 2, none⟩ = some (.int .i64 ei) := by rw [cell_of_block hxwb]; rfl
   have cx3 : wb.cell? ⟨wr.heap.size, 3, none⟩ = some (.string es) := by rw [cell_of_block hxwb]; rfl
   have cx4 : wb.cell? ⟨wr.heap.size, 4, none⟩ = some (.slice eal enl ecl) := by rw [cell_of_block hxwb]; rfl
   have cx5 : wb.cell? ⟨wr.heap.size, 5, none⟩ = some (.slice eam enm ecm) := by rw [cell_of_block hxwb]; rfl
   go_wp2_with fail
   clear cx0 cx1 cx2 cx3 cx4 cx5
   refine (rclean27_any xv S _ wb (HE.out wb Bwwb) (HL.out wb Bwwb).2).mono ?_
   rintro e wc ⟨rfl, bc⟩
   have hzwc := bc.size
   have htwc := (bc.block (w.heap.size) (by omega)).trans htwb
   have hpwc := (bc.block (w.heap.size + 1) (by omega)).trans hpwb
   have hxwc := (bc.block (wr.heap.size) (by omega)).trans hxwb
   have Bwwc := Bwwb.trans (bc.mono (by omega))
   cases hc : clnB xv with
   | false =>
    have HF : Hid (RR = false) := by show _ = _; rw [HD.out, HG.out, hc]; rfl
    go_wp2_with fail
    go_ret
    exact ⟨by rw [HF.out]; rfl, Bwwc⟩
   | true =>
    have HF : Hid (RR = ldM (memsOf t) (m.drop (j + 1))) := by show _ = _; rw [HD.out, HG.out, hc]; rfl
    have HB := hmk (B2b.out.trans (bc.mono (by omega)))
    go_wp2_with fail
    go_roundw
    case rel => exact ⟨j + 1, by omega, by go_num, HB.out, HF⟩
    case measure => simp [RowKit.intOf]; omega
  | true =>
   have HG : Hid (ldG (memsOf t) ekey xv = (eqlV (getR (memsOf t) ekey) xv || (ldV (getR (memsOf t) ekey) xv && !(kindOf xv == 0)))) := by show _ = _; rw [ldG, if_pos hh]
   go_wp2_with fail
   refine wp_region_held_drew (S := fun W => Below wb.heap.size wb W) (by kernel_rfl) ((Below.refl _ _).drew) (fun hHeld => ?_)
   (refine wpAnyH_take (i := 0) (v := ?_) rfl (by kernel_rfl) (by kernel_rfl) (by kernel_rfl) (fun _ _ _ h => h) (Or.inl ⟨by kernel_rfl, ?_⟩) (by assumption) ?_; rotate_left 1; (intro W0 hSw; (have HB := (hSw.block (w.heap.size) (by omega)).trans htwb); (have x0 : W0.cell? ⟨w.heap.size, 0, none⟩ = some (.int .i64 5) := by rw [cell_of_block HB]; rfl); (have x1 : W0.cell? ⟨w.heap.size, 1, none⟩ = some (.bool tb) := by rw [cell_of_block HB]; rfl); (have x2 : W0.cell? ⟨w.heap.size, 2, none⟩ = some (.int .i64 ti) := by rw [cell_of_block HB]; rfl); (have x3 : W0.cell? ⟨w.heap.size, 3, none⟩ = some (.string ts) := by rw [cell_of_block HB]; rfl); (have x4 : W0.cell? ⟨w.heap.size, 4, none⟩ = some (.slice tal tnl tcl) := by rw [cell_of_block HB]; rfl); (have x5 : W0.cell? ⟨w.heap.size, 5, none⟩ = some (.slice tam tnm tcm) := by rw [cell_of_block HB]; rfl); go_simp; (try with_reducible rfl)); (try simp only [Act.put, List.setIfInBounds_toArray, List.set_cons_zero, List.set_cons_succ]))
   (refine wpAnyH_take (i := 1) (v := ?_) rfl (by kernel_rfl) (by kernel_rfl) (by kernel_rfl) (fun _ _ _ h => h) (Or.inl ⟨by kernel_rfl, ?_⟩) (by assumption) ?_; rotate_left 1; (intro W0 hSw; (try dsimp only at hSw); go_simp; (try with_reducible rfl)); (try simp only [Act.put, List.setIfInBounds_toArray, List.set_cons_zero, List.set_cons_succ]))
   (refine wpAnyH_take (i := 3) (v := ?_) rfl (by kernel_rfl) (by kernel_rfl) (by kernel_rfl) (fun _ _ _ h => h) (Or.inl ⟨by kernel_rfl, ?_⟩) (by assumption) ?_; rotate_left 1; (intro W0 hSw; (have HB := (hSw.block (wr.heap.size) (by omega)).trans hxwb); (have x0 : W0.cell? ⟨wr.heap.size, 0, none⟩ = some (.int .i64 ek) := by rw [cell_of_block HB]; rfl); (have x1 : W0.cell? ⟨wr.heap.size, 1, none⟩ = some (.bool eb) := by rw [cell_of_block HB]; rfl); (have x2 : W0.cell? ⟨wr.heap.size, 2, none⟩ = some (.int .i64 ei) := by rw [cell_of_block HB]; rfl); (have x3 : W0.cell? ⟨wr.heap.size, 3, none⟩ = some (.string es) := by rw [cell_of_block HB]; rfl); (have x4 : W0.cell? ⟨wr.heap.size, 4, none⟩ = some (.slice eal enl ecl) := by rw [cell_of_block HB]; rfl); (have x5 : W0.cell? ⟨wr.heap.size, 5, none⟩ = some (.slice eam enm ecm) := by rw [cell_of_block HB]; rfl); go_simp; (try with_reducible rfl)); (try simp only [Act.put, List.setIfInBounds_toArray, List.set_cons_zero, List.set_cons_succ]))
   refine wpAnyH_ready (rs := [2]) (by kernel_rfl) (by simp) ?_
   refine AllReadyH.cons rfl (fun K hK => ?_) AllReadyH.nil
   go_simp
   have bdr : Below w.heap.size w wb.drew := Bwwb.drew
   refine (get_v t ekey S _ wb.drew (HL.out _ bdr).1 (HL.out _ bdr).2 (by omega)).mono ?_
   rintro e wcg ⟨csg, rfl, hlg, bg0⟩
   have bg : Below wb.heap.size wb wcg := ⟨bg0.os, bg0.tape, bg0.output, bg0.size, bg0.block⟩
   clear bg0 bdr
   obtain ⟨gk, gb, gi, gs, gal, gnl, gcl, gam, gnm, gcm, rfl⟩ := V.ten hlg
   have hzg := bg.size
   have Bwg := Bwwb.trans (bg.mono (by omega))
   go_simp
   refine hK.out _ _ bg (fun hHeld => ?_)
   clear hK K
   (try simp only [Act.put, List.setIfInBounds_toArray, List.set_cons_zero, List.set_cons_succ])
   refine wpAnyH_ready (rs := [4]) (by kernel_rfl) (by simp) ?_
   refine AllReadyH.cons rfl (fun K hK => ?_) AllReadyH.nil
   go_simp
   refine (requal_any (getR (memsOf t) ekey) xv false false (OrNew S wb.drew wcg) S _ _ wcg hlg (HE.out wcg Bwg) (fun y hy => by rcases hy with h | h <;> first | exact (HL.out wcg Bwg).2 y h | exact h.2) (HL.out wcg Bwg).2 (by omega) (by omega)).mono ?_
   rintro e wc ⟨rfl, bq⟩
   have bwc := bg.trans (bq.mono (by omega))
   clear bq
   go_simp
   refine hK.out _ _ bwc (fun hHeld => ?_)
   clear hK K
   (try simp only [Act.put, List.setIfInBounds_toArray, List.set_cons_zero, List.set_cons_succ])
   refine wpAnyH_done (by kernel_rfl) ?_ _
   (try dsimp only [Act.put, List.getElem_toArray, List.getElem_cons_succ, List.getElem_cons_zero, List.setIfInBounds_toArray, List.set_cons_zero, List.set_cons_succ])
   clear hHeld hlg bg Bwg hzg
   have hzwc := bwc.size
   have htwc := (bwc.block (w.heap.size) (by omega)).trans htwb
   have hpwc := (bwc.block (w.heap.size + 1) (by omega)).trans hpwb
   have hxwc := (bwc.block (wr.heap.size) (by omega)).trans hxwb
   have Bwwc := Bwwb.trans (bwc.mono (by omega))
   cases he : eqlV (getR (memsOf t) ekey) xv with
   | true =>
    have HF : Hid (RR = ldM (memsOf t) (m.drop (j + 1))) := by show _ = _; rw [HD.out, HG.out, he]; rfl
    have HB := hmk (B2b.out.trans (bwc.mono (by omega)))
    go_wp2_with fail
    go_roundw
    case rel => exact ⟨j + 1, by omega, by go_num, HB.out, HF⟩
    case measure => simp [RowKit.intOf]; omega
   | false =>
    have B2c := hmk (B2b.out.trans (bwc.mono (by omega)))
    clear bwc B2b
    go_wp2_with fail
    refine wp_region_held_drew (S := fun W => Below wc.heap.size wc W) (by kernel_rfl) ((Below.refl _ _).drew) (fun hHeld => ?_)
    (refine wpAnyH_take (i := 0) (v := ?_) rfl (by kernel_rfl) (by kernel_rfl) (by kernel_rfl) (fun _ _ _ h => h) (Or.inl ⟨by kernel_rfl, ?_⟩) (by assumption) ?_; rotate_left 1; (intro W0 hSw; (have HB := (hSw.block (w.heap.size) (by omega)).trans htwc); (have x0 : W0.cell? ⟨w.heap.size, 0, none⟩ = some (.int .i64 5) := by rw [cell_of_block HB]; rfl); (have x1 : W0.cell? ⟨w.heap.size, 1, none⟩ = some (.bool tb) := by rw [cell_of_block HB]; rfl); (have x2 : W0.cell? ⟨w.heap.size, 2, none⟩ = some (.int .i64 ti) := by rw [cell_of_block HB]; rfl); (have x3 : W0.cell? ⟨w.heap.size, 3, none⟩ = some (.string ts) := by rw [cell_of_block HB]; rfl); (have x4 : W0.cell? ⟨w.heap.size, 4, none⟩ = some (.slice tal tnl tcl) := by rw [cell_of_block HB]; rfl); (have x5 : W0.cell? ⟨w.heap.size, 5, none⟩ = some (.slice tam tnm tcm) := by rw [cell_of_block HB]; rfl); go_simp; (try with_reducible rfl)); (try simp only [Act.put, List.setIfInBounds_toArray, List.set_cons_zero, List.set_cons_succ]))
    (refine wpAnyH_take (i := 1) (v := ?_) rfl (by kernel_rfl) (by kernel_rfl) (by kernel_rfl) (fun _ _ _ h => h) (Or.inl ⟨by kernel_rfl, ?_⟩) (by assumption) ?_; rotate_left 1; (intro W0 hSw; (try dsimp only at hSw); go_simp; (try with_reducible rfl)); (try simp only [Act.put, List.setIfInBounds_toArray, List.set_cons_zero, List.set_cons_succ]))
    (refine wpAnyH_take (i := 3) (v := ?_) rfl (by kernel_rfl) (by kernel_rfl) (by kernel_rfl) (fun _ _ _ h => h) (Or.inl ⟨by kernel_rfl, ?_⟩) (by assumption) ?_; rotate_left 1; (intro W0 hSw; (have HB := (hSw.block (wr.heap.size) (by omega)).trans hxwc); (have x0 : W0.cell? ⟨wr.heap.size, 0, none⟩ = some (.int .i64 ek) := by rw [cell_of_block HB]; rfl); (have x1 : W0.cell? ⟨wr.heap.size, 1, none⟩ = some (.bool eb) := by rw [cell_of_block HB]; rfl); (have x2 : W0.cell? ⟨wr.heap.size, 2, none⟩ = some (.int .i64 ei) := by rw [cell_of_block HB]; rfl); (have x3 : W0.cell? ⟨wr.heap.size, 3, none⟩ = some (.string es) := by rw [cell_of_block HB]; rfl); (have x4 : W0.cell? ⟨wr.heap.size, 4, none⟩ = some (.slice eal enl ecl) := by rw [cell_of_block HB]; rfl); (have x5 : W0.cell? ⟨wr.heap.size, 5, none⟩ = some (.slice eam enm ecm) := by rw [cell_of_block HB]; rfl); go_simp; (try with_reducible rfl)); (try simp only [Act.put, List.setIfInBounds_toArray, List.set_cons_zero, List.set_cons_succ]))
    refine wpAnyH_ready (rs := [2]) (by kernel_rfl) (by simp) ?_
    refine AllReadyH.cons rfl (fun K hK => ?_) AllReadyH.nil
    go_simp
    have bdr : Below w.heap.size w wc.drew := Bwwc.drew
    refine (get_v t ekey S _ wc.drew (HL.out _ bdr).1 (HL.out _ bdr).2 (by omega)).mono ?_
    rintro e wdg ⟨csg, rfl, hlg, bg0⟩
    have bg : Below wc.heap.size wc wdg := ⟨bg0.os, bg0.tape, bg0.output, bg0.size, bg0.block⟩
    clear bg0 bdr
    obtain ⟨gk, gb, gi, gs, gal, gnl, gcl, gam, gnm, gcm, rfl⟩ := V.ten hlg
    have hzg := bg.size
    have Bwg := Bwwc.trans (bg.mono (by omega))
    go_simp
    refine hK.out _ _ bg (fun hHeld => ?_)
    clear hK K
    (try simp only [Act.put, List.setIfInBounds_toArray, List.set_cons_zero, List.set_cons_succ])
    refine wpAnyH_ready (rs := [4]) (by kernel_rfl) (by simp) ?_
    refine AllReadyH.cons rfl (fun K hK => ?_) AllReadyH.nil
    go_simp
    refine (HIH.out (getR (memsOf t) ekey) (OrNew S wc.drew wdg) _ _ wdg (HOG.out ekey) HOJ.out hlg (V.lies_keep (fun h => h) (fun _ _ => rfl) (fun y hy => .inl hy) _ (HE.out wdg Bwg)) (fun y hy => by rcases hy with h | h <;> first | exact (HL.out wdg Bwg).2 y h | exact h.2)).mono ?_
    rintro e wd ⟨rfl, bq⟩
    have bwd := bg.trans (bq.mono (by omega))
    clear bq
    go_simp
    refine hK.out _ _ bwd (fun hHeld => ?_)
    clear hK K
    (try simp only [Act.put, List.setIfInBounds_toArray, List.set_cons_zero, List.set_cons_succ])
    (refine wpAnyH_take (i := 5) (v := ?_) rfl (by kernel_rfl) (by kernel_rfl) (by kernel_rfl) (fun _ _ _ h => h) (Or.inl ⟨by kernel_rfl, ?_⟩) (by assumption) ?_; rotate_left 1; (intro W0 hSw; (try dsimp only at hSw); go_simp; (try with_reducible rfl)); (try simp only [Act.put, List.setIfInBounds_toArray, List.set_cons_zero, List.set_cons_succ]))
    refine wpAnyH_done (by kernel_rfl) ?_ _
    (try dsimp only [Act.put, List.getElem_toArray, List.getElem_cons_succ, List.getElem_cons_zero, List.setIfInBounds_toArray, List.set_cons_zero, List.set_cons_succ])
    clear hHeld hlg bg Bwg hzg
    have hzwd := bwd.size
    have htwd := (bwd.block (w.heap.size) (by omega)).trans htwc
    have hpwd := (bwd.block (w.heap.size + 1) (by omega)).trans hpwc
    have hxwd := (bwd.block (wr.heap.size) (by omega)).trans hxwc
    have Bwwd := Bwwc.trans (bwd.mono (by omega))
    have B2d := hmk (B2c.out.trans (bwd.mono (by omega)))
    clear bwd B2c
    have cx0 : wd.cell? ⟨wr.heap.size, 0, none⟩ = some (.int .i64 ek) := by rw [cell_of_block hxwd]; rfl
    cases hv : ldV (getR (memsOf t) ekey) xv with
    | false =>
     have HF : Hid (RR = false) := by show _ = _; rw [HD.out, HG.out, he, hv]; rfl
     go_wp2_with fail
     go_ret
     exact ⟨by rw [HF.out]; rfl, Bwwd⟩
    | true =>
     by_cases h0 : ek = 0
     ·have HF : Hid (RR = false) := by show _ = _; rw [HD.out, HG.out, he, hv, hke, h0]; rfl
      subst h0
      go_wp2_with fail
      go_ret
      exact ⟨by rw [HF.out]; rfl, Bwwd⟩
     ·have y0 : (ek == 0) = false := beq_eq_false_iff_ne.2 h0
      have HF : Hid (RR = ldM (memsOf t) (m.drop (j + 1))) := by show _ = _; rw [HD.out, HG.out, he, hv, hke, y0]; rfl
      go_wp2_with fail
      go_roundw
      case rel => exact ⟨j + 1, by omega, by go_num, B2d.out, HF⟩
      case measure => simp [RowKit.intOf]; omega
end Go.Proofs.YtjfldbmopjojdabDoor
