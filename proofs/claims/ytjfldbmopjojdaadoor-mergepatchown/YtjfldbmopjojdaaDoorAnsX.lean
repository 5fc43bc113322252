import Derived.Test.YtjfldbmopjojdaaDoorAppX
import Derived.Test.YtjfldbmopjojdaaDoorG37
set_option linter.unusedSimpArgs false
set_option linter.unusedVariables false
namespace Go.Proofs.YtjfldbmopjojdaaDoor
open Go.RowKit Go.Lib
def AnsPost (l : List V) (w : World) (e : Ending) (w' : World) : Prop := ∃ g e1 e2 : Nat, e = .returned (.slice (some ⟨g, 0, none⟩) l.length l.length) ∧ w.heap.size ≤ e1 ∧ e1 ≤ e2 ∧ e2 ≤ g ∧ g < w'.heap.size ∧ apE w' l e1 e2 g 0 ∧ Blk g 25 (l.length * 6) w' ∧ Below w.heap.size w w'
def ansL (t p : V) : List V := [(aplF t p).1, (clnF p).1, (dffF t p).1, (dffF t (aplF t p).1).1]
theorem fin_wt (v : V) : (finF v).1.wt ≤ 2147483648 := by
 unfold finF
 by_cases h : chkE v 32 = 0
 ·rw [if_pos h]; have := (ok_chk (D := 32) (by omega) h).wt; simp only; omega
 ·rw [if_neg h]; simp only; rw [nullV_wt]; omega
theorem apl_wt (t p : V) : (aplF t p).1.wt ≤ 2147483648 := by
 by_cases h : bothE t p = 0
 ·rw [apl_fin h]; exact fin_wt _
 ·rw [apl_both h]; simp only; rw [nullV_wt]; omega
theorem four_end {w W : World} {a b c d : V} {l1 h1 l2 h2 l3 h3 l4 h4 : Nat} {gk gi mk mi jk ji nk ni : Int} {gb mb jb nb : Bool} {gs ms js ns : ByteArray} {gal gam mal mam jal jam nal nam : Option Addr} {gnl gcl gnm gcm mnl mcl mnm mcm jnl jcl jnm jcm nnl ncl nnm ncm : Nat}
 (ha : a.ap W l1 h1 [.int .i64 gk, .bool gb, .int .i64 gi, .string gs, .slice gal gnl gcl, .slice gam gnm gcm]) (hb : b.ap W l2 h2 [.int .i64 mk, .bool mb, .int .i64 mi, .string ms, .slice mal mnl mcl, .slice mam mnm mcm]) (hc : c.ap W l3 h3 [.int .i64 jk, .bool jb, .int .i64 ji, .string js, .slice jal jnl jcl, .slice jam jnm jcm]) (hd : d.ap W l4 h4 [.int .i64 nk, .bool nb, .int .i64 ni, .string ns, .slice nal nnl ncl, .slice nam nnm ncm]) (hB : Below w.heap.size w W) (o1 : w.heap.size ≤ l1) (p1 : l1 ≤ h1) (o2 : h1 ≤ l2) (p2 : l2 ≤ h2) (o3 : h2 ≤ l3) (p3 : l3 ≤ h3) (o4 : h3 ≤ l4) (p4 : l4 ≤ h4) (o5 : h4 ≤ W.heap.size) :
 AnsPost [a, b, c, d] w (.returned (.slice (some ⟨W.heap.size, 0, none⟩) 4 4)) (W.alloc (.cells #[.int .i64 gk, .bool gb, .int .i64 gi, .string gs, .slice gal gnl gcl, .slice gam gnm gcm, .int .i64 mk, .bool mb, .int .i64 mi, .string ms, .slice mal mnl mcl, .slice mam mnm mcm, .int .i64 jk, .bool jb, .int .i64 ji, .string js, .slice jal jnl jcl, .slice jam jnm jcm, .int .i64 nk, .bool nb, .int .i64 ni, .string ns, .slice nal nnl ncl, .slice nam nnm ncm] 25)) := by
 have hk : ∀ {x : V} {lo hi : Nat} {cs : List Value}, hi ≤ W.heap.size → x.ap W lo hi cs → x.ap (W.alloc (.cells #[.int .i64 gk, .bool gb, .int .i64 gi, .string gs, .slice gal gnl gcl, .slice gam gnm gcm, .int .i64 mk, .bool mb, .int .i64 mi, .string ms, .slice mal mnl mcl, .slice mam mnm mcm, .int .i64 jk, .bool jb, .int .i64 ji, .string js, .slice jal jnl jcl, .slice jam jnm jcm, .int .i64 nk, .bool nb, .int .i64 ni, .string ns, .slice nal nnl ncl, .slice nam nnm ncm] 25)) lo hi cs := fun h1 h => V.ap_keep _ (fun y y1 y2 => Below.heap_alloc _ _ _ (by omega)) h
 refine ⟨W.heap.size, w.heap.size, W.heap.size, rfl, Nat.le_refl _, by omega, Nat.le_refl _, by rw [alloc_size]; omega, ?_, ⟨_, heap_alloc_new W _, rfl⟩, hB.trans ((one_belowG W _).mono hB.size)⟩
 rw [apE]
 refine ⟨h1, by omega, by omega, ?_, ?_⟩
 ·refine ⟨[.int .i64 gk, .bool gb, .int .i64 gi, .string gs, .slice gal gnl gcl, .slice gam gnm gcm], fun j u hu => ?_, V.ap_wide (hk (by omega) ha) o1 (Nat.le_refl _)⟩
  rw [cell_of_block (heap_alloc_new W _)]
  rcases j with _ | _ | _ | _ | _ | _ | j <;> first | (simp at hu; done) | (simp at hu; subst hu; rfl)
 rw [apE]
 refine ⟨h2, by omega, by omega, ?_, ?_⟩
 ·refine ⟨[.int .i64 mk, .bool mb, .int .i64 mi, .string ms, .slice mal mnl mcl, .slice mam mnm mcm], fun j u hu => ?_, V.ap_wide (hk (by omega) hb) o2 (Nat.le_refl _)⟩
  rw [cell_of_block (heap_alloc_new W _)]
  rcases j with _ | _ | _ | _ | _ | _ | j <;> first | (simp at hu; done) | (simp at hu; subst hu; rfl)
 rw [apE]
 refine ⟨h3, by omega, by omega, ?_, ?_⟩
 ·refine ⟨[.int .i64 jk, .bool jb, .int .i64 ji, .string js, .slice jal jnl jcl, .slice jam jnm jcm], fun j u hu => ?_, V.ap_wide (hk (by omega) hc) o3 (Nat.le_refl _)⟩
  rw [cell_of_block (heap_alloc_new W _)]
  rcases j with _ | _ | _ | _ | _ | _ | j <;> first | (simp at hu; done) | (simp at hu; subst hu; rfl)
 rw [apE]
 refine ⟨W.heap.size, by omega, by omega, ?_, ?_⟩
 ·refine ⟨[.int .i64 nk, .bool nb, .int .i64 ni, .string ns, .slice nal nnl ncl, .slice nam nnm ncm], fun j u hu => ?_, V.ap_wide (hk (by omega) hd) o4 o5⟩
  rw [cell_of_block (heap_alloc_new W _)]
  rcases j with _ | _ | _ | _ | _ | _ | j <;> first | (simp at hu; done) | (simp at hu; subst hu; rfl)
 rw [apE]
 trivial
set_option maxHeartbeats 8000000 in
set_option maxRecDepth 100000 in
theorem answers_ap (low : Addr) (t p : V) (S : Nat → Prop) (cs ds : List Value) (w : World) (tb : Tb w) (hE : ErrAt low w) (hv : t.lies false w S cs) (hx : p.lies false w S ds) (hS : ∀ b, S b → b < w.heap.size) (hwt : t.wt ≤ 2147483648) (hwp : p.wt ≤ 2147483648) :
 Calls Tryd.prog 25 #[.agg cs.toArray, .agg ds.toArray] w (AnsPost (ansL t p) w) := by
 obtain ⟨tk, tbb, ti, ts, tal, tnl, tcl, tam, tnm, tcm, rfl⟩ := V.ten hv
 obtain ⟨pk, pb, pi, ps, pal, pnl, pcl, pam, pnm, pcm, rfl⟩ := V.ten hx
 have HL : Hid (∀ W, Below w.heap.size w W → t.lies false W S [.int .i64 tk, .bool tbb, .int .i64 ti, .string ts, .slice tal tnl tcl, .slice tam tnm tcm]) := fun W hB => V.lies_keep (fun h => h) (fun x hx => hB.block x (hS x hx)) (fun x hx => hx) _ hv
 have HP : Hid (∀ W, Below w.heap.size w W → p.lies false W S [.int .i64 pk, .bool pb, .int .i64 pi, .string ps, .slice pal pnl pcl, .slice pam pnm pcm]) := fun W hB => V.lies_keep (fun h => h) (fun x hx => hB.block x (hS x hx)) (fun x hx => hx) _ hx
 have HO : Hid (∀ W, Below w.heap.size w W → ∀ b, S b → b < W.heap.size) := fun W hB b hb => Nat.lt_of_lt_of_le (hS b hb) hB.size
 have HT : Hid (∀ W, Below w.heap.size w W → Tb W) := fun W hb => tb.below hb tb.z
 have HE : Hid (∀ W, Below w.heap.size w W → ErrAt low W) := fun W hb => hE.below hb hE.z
 have haw := apl_wt t p
 have Bww0 : Below w.heap.size w ((w.alloc (.cells #[.int .i64 tk, .bool tbb, .int .i64 ti, .string ts, .slice tal tnl tcl, .slice tam tnm tcm] 25)).alloc (.cells #[.int .i64 pk, .bool pb, .int .i64 pi, .string ps, .slice pal pnl pcl, .slice pam pnm pcm] 25)) := two_below w _ _
 have hz0 : ((w.alloc (.cells #[.int .i64 tk, .bool tbb, .int .i64 ti, .string ts, .slice tal tnl tcl, .slice tam tnm tcm] 25)).alloc (.cells #[.int .i64 pk, .bool pb, .int .i64 pi, .string ps, .slice pal pnl pcl, .slice pam pnm pcm] 25)).heap.size = w.heap.size + 2 := by rw [alloc_size, alloc_size]
 have htw0 := alloc2_keep1 w (.cells #[.int .i64 tk, .bool tbb, .int .i64 ti, .string ts, .slice tal tnl tcl, .slice tam tnm tcm] 25) (.cells #[.int .i64 pk, .bool pb, .int .i64 pi, .string ps, .slice pal pnl pcl, .slice pam pnm pcm] 25)
 have hpw0 := alloc2_new w (.cells #[.int .i64 tk, .bool tbb, .int .i64 ti, .string ts, .slice tal tnl tcl, .slice tam tnm tcm] 25) (.cells #[.int .i64 pk, .bool pb, .int .i64 pi, .string ps, .slice pal pnl pcl, .slice pam pnm pcm] 25)
 obtain ⟨ct0, ct1, ct2, ct3, ct4, ct5⟩ := sixC htw0
 obtain ⟨cp0, cp1, cp2, cp3, cp4, cp5⟩ := sixC hpw0
 clear hv hx tb hE
 have HF : Hid (ansL t p = [(aplF t p).1, (clnF p).1, (dffF t p).1, (dffF t (aplF t p).1).1]) := rfl
 generalize ansL t p = RR at *
 go_enter Tryd.func25, Tryd.ntmps25
 go_wp2_with fail
 clear ct0 ct1 ct2 ct3 ct4 ct5 cp0 cp1 cp2 cp3 cp4 cp5
 generalize ((w.alloc (.cells #[.int .i64 tk, .bool tbb, .int .i64 ti, .string ts, .slice tal tnl tcl, .slice tam tnm tcm] 25)).alloc (.cells #[.int .i64 pk, .bool pb, .int .i64 pi, .string ps, .slice pal pnl pcl, .slice pam pnm pcm] 25)) = w0 at *
 have CA := apply_ap t p S _ _ w0 (HT.out _ Bww0) (HL.out _ Bww0) (HP.out _ Bww0) (HO.out _ Bww0) hwt hwp
 obtain ⟨⟨fa, ea⟩, hfa⟩ : ∃ q, aplF t p = q := ⟨_, rfl⟩
 rw [hfa] at CA haw HF
 clear hfa
 simp only at haw
 refine (CA).mono ?_
 rintro e_ w1 ⟨cg_, rfl, lg_, bw1⟩
 try simp only at lg_
 obtain ⟨gk, gb, gi, gs, gal, gnl, gcl, gam, gnm, gcm, rfl⟩ := V.ten (V.ap_lies _ lg_)
 have hzw1 := bw1.size
 have htw1 := (bw1.block (w.heap.size) (by omega)).trans htw0
 have hpw1 := (bw1.block (w.heap.size + 1) (by omega)).trans hpw0
 have Bww1 := Bww0.trans (bw1.mono (by omega))
 have Lgw1 := hmk lg_
 clear lg_ bw1
 clear CA
 have bzw2 : Below w1.heap.size w1 (w1.alloc (.cells #[.int .i64 gk, .bool gb, .int .i64 gi, .string gs, .slice gal gnl gcl, .slice gam gnm gcm] 25)) := one_belowG _ _
 have hltw2 : w1.heap.size < (w1.alloc (.cells #[.int .i64 gk, .bool gb, .int .i64 gi, .string gs, .slice gal gnl gcl, .slice gam gnm gcm] 25)).heap.size := by rw [alloc_size]; omega
 have htw2 := (bzw2.block (w.heap.size) (by omega)).trans htw1
 have hpw2 := (bzw2.block (w.heap.size + 1) (by omega)).trans hpw1
 have Bww2 := Bww1.trans (bzw2.mono (by omega))
 have hgw2 := heap_alloc_new w1 (.cells #[.int .i64 gk, .bool gb, .int .i64 gi, .string gs, .slice gal gnl gcl, .slice gam gnm gcm] 25)
 have Lgw2 := hmk (V.ap_keep _ (fun y y1 y2 => (fun (hy : w0.heap.size ≤ y ∧ y < w1.heap.size) => bzw2.block y (by have := hy.2; omega)) ⟨y1, y2⟩) Lgw1.out)
 clear Lgw1
 obtain ⟨cp0, cp1, cp2, cp3, cp4, cp5⟩ := sixC hpw2
 go_wp2_with fail
 clear cp0 cp1 cp2 cp3 cp4 cp5
 generalize (w1.alloc (.cells #[.int .i64 gk, .bool gb, .int .i64 gi, .string gs, .slice gal gnl gcl, .slice gam gnm gcm] 25)) = w2 at *
 have CA := clean_ap p S _ w2 (HT.out _ Bww2) (HP.out _ Bww2) (HO.out _ Bww2) hwp
 obtain ⟨⟨fb, eb⟩, hfa⟩ : ∃ q, clnF p = q := ⟨_, rfl⟩
 rw [hfa] at CA HF
 clear hfa
 refine (CA).mono ?_
 rintro e_ w3 ⟨cm_, rfl, lm_, bw3⟩
 try simp only at lm_
 obtain ⟨mk, mb, mi, ms, mal, mnl, mcl, mam, mnm, mcm, rfl⟩ := V.ten (V.ap_lies _ lm_)
 have hzw3 := bw3.size
 have htw3 := (bw3.block (w.heap.size) (by omega)).trans htw2
 have hpw3 := (bw3.block (w.heap.size + 1) (by omega)).trans hpw2
 have hgw3 := (bw3.block (w1.heap.size) (by omega)).trans hgw2
 have Bww3 := Bww2.trans (bw3.mono (by omega))
 have Lgw3 := hmk (V.ap_keep _ (fun y y1 y2 => (fun (hy : w0.heap.size ≤ y ∧ y < w1.heap.size) => bw3.block y (by have := hy.2; omega)) ⟨y1, y2⟩) Lgw2.out)
 clear Lgw2
 have Lmw3 := hmk lm_
 clear lm_ bw3
 clear CA
 have bzw4 : Below w3.heap.size w3 (w3.alloc (.cells #[.int .i64 mk, .bool mb, .int .i64 mi, .string ms, .slice mal mnl mcl, .slice mam mnm mcm] 25)) := one_belowG _ _
 have hltw4 : w3.heap.size < (w3.alloc (.cells #[.int .i64 mk, .bool mb, .int .i64 mi, .string ms, .slice mal mnl mcl, .slice mam mnm mcm] 25)).heap.size := by rw [alloc_size]; omega
 have htw4 := (bzw4.block (w.heap.size) (by omega)).trans htw3
 have hpw4 := (bzw4.block (w.heap.size + 1) (by omega)).trans hpw3
 have hgw4 := (bzw4.block (w1.heap.size) (by omega)).trans hgw3
 have Bww4 := Bww3.trans (bzw4.mono (by omega))
 have hmw4 := heap_alloc_new w3 (.cells #[.int .i64 mk, .bool mb, .int .i64 mi, .string ms, .slice mal mnl mcl, .slice mam mnm mcm] 25)
 have Lgw4 := hmk (V.ap_keep _ (fun y y1 y2 => (fun (hy : w0.heap.size ≤ y ∧ y < w1.heap.size) => bzw4.block y (by have := hy.2; omega)) ⟨y1, y2⟩) Lgw3.out)
 have Lmw4 := hmk (V.ap_keep _ (fun y y1 y2 => (fun (hy : w2.heap.size ≤ y ∧ y < w3.heap.size) => bzw4.block y (by have := hy.2; omega)) ⟨y1, y2⟩) Lmw3.out)
 clear Lgw3 Lmw3
 obtain ⟨ct0, ct1, ct2, ct3, ct4, ct5⟩ := sixC htw4
 obtain ⟨cp0, cp1, cp2, cp3, cp4, cp5⟩ := sixC hpw4
 go_wp2_with fail
 clear ct0 ct1 ct2 ct3 ct4 ct5 cp0 cp1 cp2 cp3 cp4 cp5
 generalize (w3.alloc (.cells #[.int .i64 mk, .bool mb, .int .i64 mi, .string ms, .slice mal mnl mcl, .slice mam mnm mcm] 25)) = w4 at *
 have CA := diff_ap low t p S _ _ w4 (HT.out _ Bww4) (HE.out _ Bww4) (HL.out _ Bww4) (HP.out _ Bww4) (HO.out _ Bww4) hwt hwp
 obtain ⟨⟨fc, tc, ec⟩, hfa⟩ : ∃ q, dffF t p = q := ⟨_, rfl⟩
 rw [hfa] at CA HF
 clear hfa
 refine (CA).mono ?_
 rintro e_ w5 ⟨cj_, rfl, lj_, bw5⟩
 try simp only at lj_
 obtain ⟨jk, jb, ji, js, jal, jnl, jcl, jam, jnm, jcm, rfl⟩ := V.ten (V.ap_lies _ lj_)
 have hzw5 := bw5.size
 have htw5 := (bw5.block (w.heap.size) (by omega)).trans htw4
 have hpw5 := (bw5.block (w.heap.size + 1) (by omega)).trans hpw4
 have hgw5 := (bw5.block (w1.heap.size) (by omega)).trans hgw4
 have hmw5 := (bw5.block (w3.heap.size) (by omega)).trans hmw4
 have Bww5 := Bww4.trans (bw5.mono (by omega))
 have Lgw5 := hmk (V.ap_keep _ (fun y y1 y2 => (fun (hy : w0.heap.size ≤ y ∧ y < w1.heap.size) => bw5.block y (by have := hy.2; omega)) ⟨y1, y2⟩) Lgw4.out)
 have Lmw5 := hmk (V.ap_keep _ (fun y y1 y2 => (fun (hy : w2.heap.size ≤ y ∧ y < w3.heap.size) => bw5.block y (by have := hy.2; omega)) ⟨y1, y2⟩) Lmw4.out)
 clear Lgw4 Lmw4
 have Ljw5 := hmk lj_
 clear lj_ bw5
 clear CA
 have bzw6 : Below w5.heap.size w5 (w5.alloc (.cells #[.int .i64 jk, .bool jb, .int .i64 ji, .string js, .slice jal jnl jcl, .slice jam jnm jcm] 25)) := one_belowG _ _
 have hltw6 : w5.heap.size < (w5.alloc (.cells #[.int .i64 jk, .bool jb, .int .i64 ji, .string js, .slice jal jnl jcl, .slice jam jnm jcm] 25)).heap.size := by rw [alloc_size]; omega
 have htw6 := (bzw6.block (w.heap.size) (by omega)).trans htw5
 have hpw6 := (bzw6.block (w.heap.size + 1) (by omega)).trans hpw5
 have hgw6 := (bzw6.block (w1.heap.size) (by omega)).trans hgw5
 have hmw6 := (bzw6.block (w3.heap.size) (by omega)).trans hmw5
 have Bww6 := Bww5.trans (bzw6.mono (by omega))
 have hjw6 := heap_alloc_new w5 (.cells #[.int .i64 jk, .bool jb, .int .i64 ji, .string js, .slice jal jnl jcl, .slice jam jnm jcm] 25)
 have Lgw6 := hmk (V.ap_keep _ (fun y y1 y2 => (fun (hy : w0.heap.size ≤ y ∧ y < w1.heap.size) => bzw6.block y (by have := hy.2; omega)) ⟨y1, y2⟩) Lgw5.out)
 have Lmw6 := hmk (V.ap_keep _ (fun y y1 y2 => (fun (hy : w2.heap.size ≤ y ∧ y < w3.heap.size) => bzw6.block y (by have := hy.2; omega)) ⟨y1, y2⟩) Lmw5.out)
 have Ljw6 := hmk (V.ap_keep _ (fun y y1 y2 => (fun (hy : w4.heap.size ≤ y ∧ y < w5.heap.size) => bzw6.block y (by have := hy.2; omega)) ⟨y1, y2⟩) Ljw5.out)
 clear Lgw5 Lmw5 Ljw5
 obtain ⟨ct0, ct1, ct2, ct3, ct4, ct5⟩ := sixC htw6
 obtain ⟨cg0, cg1, cg2, cg3, cg4, cg5⟩ := sixC hgw6
 go_wp2_with fail
 clear ct0 ct1 ct2 ct3 ct4 ct5 cg0 cg1 cg2 cg3 cg4 cg5
 generalize (w5.alloc (.cells #[.int .i64 jk, .bool jb, .int .i64 ji, .string js, .slice jal jnl jcl, .slice jam jnm jcm] 25)) = w6 at *
 have hLt : t.lies false w6 (fun y => S y ∨ (w0.heap.size ≤ y ∧ y < w1.heap.size)) _ := V.lies_keep (fun h => h) (fun _ _ => rfl) (fun _ h => .inl h) _ (HL.out _ Bww6)
 have hLg : fa.lies false w6 (fun y => S y ∨ (w0.heap.size ≤ y ∧ y < w1.heap.size)) _ := V.lies_keep (fun h => h) (fun _ _ => rfl) (fun _ h => .inr h) _ (V.ap_lies _ Lgw6.out)
 have hLo : ∀ y, (fun y => S y ∨ (w0.heap.size ≤ y ∧ y < w1.heap.size)) y → y < w6.heap.size := fun y hy => hy.elim (fun h => (HO.out _ Bww6 y h)) (fun h => by have := h.2; omega)
 have CA := diff_ap low t fa (fun y => S y ∨ (w0.heap.size ≤ y ∧ y < w1.heap.size)) _ _ w6 (HT.out _ Bww6) (HE.out _ Bww6) hLt hLg hLo hwt haw
 clear hLt hLg hLo
 obtain ⟨⟨fd, td, ed⟩, hfa⟩ : ∃ q, dffF t fa = q := ⟨_, rfl⟩
 try simp only at HF
 rw [hfa] at CA HF
 clear hfa
 refine (CA).mono ?_
 rintro e_ w7 ⟨cn_, rfl, ln_, bw7⟩
 try simp only at ln_
 obtain ⟨nk, nb, ni, ns, nal, nnl, ncl, nam, nnm, ncm, rfl⟩ := V.ten (V.ap_lies _ ln_)
 have hzw7 := bw7.size
 have htw7 := (bw7.block (w.heap.size) (by omega)).trans htw6
 have hpw7 := (bw7.block (w.heap.size + 1) (by omega)).trans hpw6
 have hgw7 := (bw7.block (w1.heap.size) (by omega)).trans hgw6
 have hmw7 := (bw7.block (w3.heap.size) (by omega)).trans hmw6
 have hjw7 := (bw7.block (w5.heap.size) (by omega)).trans hjw6
 have Bww7 := Bww6.trans (bw7.mono (by omega))
 have Lgw7 := hmk (V.ap_keep _ (fun y y1 y2 => (fun (hy : w0.heap.size ≤ y ∧ y < w1.heap.size) => bw7.block y (by have := hy.2; omega)) ⟨y1, y2⟩) Lgw6.out)
 have Lmw7 := hmk (V.ap_keep _ (fun y y1 y2 => (fun (hy : w2.heap.size ≤ y ∧ y < w3.heap.size) => bw7.block y (by have := hy.2; omega)) ⟨y1, y2⟩) Lmw6.out)
 have Ljw7 := hmk (V.ap_keep _ (fun y y1 y2 => (fun (hy : w4.heap.size ≤ y ∧ y < w5.heap.size) => bw7.block y (by have := hy.2; omega)) ⟨y1, y2⟩) Ljw6.out)
 clear Lgw6 Lmw6 Ljw6
 have Lnw7 := hmk ln_
 clear ln_ bw7
 clear CA
 have bzw8 : Below w7.heap.size w7 (w7.alloc (.cells #[.int .i64 nk, .bool nb, .int .i64 ni, .string ns, .slice nal nnl ncl, .slice nam nnm ncm] 25)) := one_belowG _ _
 have hltw8 : w7.heap.size < (w7.alloc (.cells #[.int .i64 nk, .bool nb, .int .i64 ni, .string ns, .slice nal nnl ncl, .slice nam nnm ncm] 25)).heap.size := by rw [alloc_size]; omega
 have htw8 := (bzw8.block (w.heap.size) (by omega)).trans htw7
 have hpw8 := (bzw8.block (w.heap.size + 1) (by omega)).trans hpw7
 have hgw8 := (bzw8.block (w1.heap.size) (by omega)).trans hgw7
 have hmw8 := (bzw8.block (w3.heap.size) (by omega)).trans hmw7
 have hjw8 := (bzw8.block (w5.heap.size) (by omega)).trans hjw7
 have Bww8 := Bww7.trans (bzw8.mono (by omega))
 have hnw8 := heap_alloc_new w7 (.cells #[.int .i64 nk, .bool nb, .int .i64 ni, .string ns, .slice nal nnl ncl, .slice nam nnm ncm] 25)
 have Lgw8 := hmk (V.ap_keep _ (fun y y1 y2 => (fun (hy : w0.heap.size ≤ y ∧ y < w1.heap.size) => bzw8.block y (by have := hy.2; omega)) ⟨y1, y2⟩) Lgw7.out)
 have Lmw8 := hmk (V.ap_keep _ (fun y y1 y2 => (fun (hy : w2.heap.size ≤ y ∧ y < w3.heap.size) => bzw8.block y (by have := hy.2; omega)) ⟨y1, y2⟩) Lmw7.out)
 have Ljw8 := hmk (V.ap_keep _ (fun y y1 y2 => (fun (hy : w4.heap.size ≤ y ∧ y < w5.heap.size) => bzw8.block y (by have := hy.2; omega)) ⟨y1, y2⟩) Ljw7.out)
 have Lnw8 := hmk (V.ap_keep _ (fun y y1 y2 => (fun (hy : w6.heap.size ≤ y ∧ y < w7.heap.size) => bzw8.block y (by have := hy.2; omega)) ⟨y1, y2⟩) Lnw7.out)
 clear Lgw7 Lmw7 Ljw7 Lnw7
 obtain ⟨cg0, cg1, cg2, cg3, cg4, cg5⟩ := sixC hgw8
 obtain ⟨cm0, cm1, cm2, cm3, cm4, cm5⟩ := sixC hmw8
 obtain ⟨cj0, cj1, cj2, cj3, cj4, cj5⟩ := sixC hjw8
 obtain ⟨cn0, cn1, cn2, cn3, cn4, cn5⟩ := sixC hnw8
 have HZ0 := four_end (w := w) Lgw8.out Lmw8.out Ljw8.out Lnw8.out Bww8 (by omega) (by omega) (by omega) (by omega) (by omega) (by omega) (by omega) (by omega) (by omega)
 rw [alloc_size] at HZ0
 have HZ := hmk HZ0
 clear HZ0
 clear Lgw8 Lmw8 Ljw8 Lnw8
 go_wp2_with fail
 go_ret
 rw [HF.out]
 exact HZ.out
end Go.Proofs.YtjfldbmopjojdaaDoor
