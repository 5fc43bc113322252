import Derived.Test.YthgfomblodhoaaaDoorWitY
import Derived.Test.YthgfomblodhoaaaDoorWotY
import Derived.Test.YthgfomblodhoaaaDoorGetY
import Derived.Test.YthgfomblodhoaaaDoorG37
/- freeholdlaw02.answers: five answers, each list and map in a block of its own. -/
set_option linter.unusedSimpArgs false
set_option linter.unusedVariables false
namespace Go.Proofs.YthgfomblodhoaaaDoor
open Go.RowKit Go.Lib
/-- a row of values in the block g, what they hold in [e1, e2) below it -/
def AnsPost (l : List V) (w : World) (e : Ending) (w' : World) : Prop := ∃ g e1 e2 : Nat, e = .returned (.slice (some ⟨g, 0, none⟩) l.length l.length) ∧ w.heap.size ≤ e1 ∧ e1 ≤ e2 ∧ e2 ≤ g ∧ g < w'.heap.size ∧ apE w' l e1 e2 g 0 ∧ Blk g 25 (l.length * 6) w' ∧ Below w.heap.size w w'
def key2 (key : ByteArray) : ByteArray := key ++ (⟨#[50]⟩ : ByteArray)
theorem key2_size (key : ByteArray) : (key2 key).size = key.size + 1 := by unfold key2; rw [ByteArray.size_append]; rfl
noncomputable def ansL (v : V) (key : ByteArray) (x : V) : List V := [clnV v, (getV v key).1, withV v key x, woutV v key, (bvV [(key, x), (key2 key, v)]).1]
theorem five_end {w W : World} {a b c d f : V} {l1 h1 l2 h2 l3 h3 l4 h4 l5 h5 : Nat} {gk gi mk mi jk ji nk ni ok oi : Int} {gb mb jb nb ob : Bool} {gs ms js ns os : ByteArray} {gal gam mal mam jal jam nal nam oal oam : Option Addr} {gnl gcl gnm gcm mnl mcl mnm mcm jnl jcl jnm jcm nnl ncl nnm ncm onl ocl onm ocm : Nat}
    (ha : a.ap W l1 h1 [.int .i64 gk, .bool gb, .int .i64 gi, .string gs, .slice gal gnl gcl, .slice gam gnm gcm]) (hb : b.ap W l2 h2 [.int .i64 mk, .bool mb, .int .i64 mi, .string ms, .slice mal mnl mcl, .slice mam mnm mcm]) (hc : c.ap W l3 h3 [.int .i64 jk, .bool jb, .int .i64 ji, .string js, .slice jal jnl jcl, .slice jam jnm jcm]) (hd : d.ap W l4 h4 [.int .i64 nk, .bool nb, .int .i64 ni, .string ns, .slice nal nnl ncl, .slice nam nnm ncm]) (hf : f.ap W l5 h5 [.int .i64 ok, .bool ob, .int .i64 oi, .string os, .slice oal onl ocl, .slice oam onm ocm]) (hB : Below w.heap.size w W) (o1 : w.heap.size ≤ l1) (p1 : l1 ≤ h1) (o2 : h1 ≤ l2) (p2 : l2 ≤ h2) (o3 : h2 ≤ l3) (p3 : l3 ≤ h3) (o4 : h3 ≤ l4) (p4 : l4 ≤ h4) (o5 : h4 ≤ l5) (p5 : l5 ≤ h5) (o6 : h5 ≤ W.heap.size) :
    AnsPost [a, b, c, d, f] w (.returned (.slice (some ⟨W.heap.size, 0, none⟩) 5 5)) (W.alloc (.cells #[.int .i64 gk, .bool gb, .int .i64 gi, .string gs, .slice gal gnl gcl, .slice gam gnm gcm, .int .i64 mk, .bool mb, .int .i64 mi, .string ms, .slice mal mnl mcl, .slice mam mnm mcm, .int .i64 jk, .bool jb, .int .i64 ji, .string js, .slice jal jnl jcl, .slice jam jnm jcm, .int .i64 nk, .bool nb, .int .i64 ni, .string ns, .slice nal nnl ncl, .slice nam nnm ncm, .int .i64 ok, .bool ob, .int .i64 oi, .string os, .slice oal onl ocl, .slice oam onm ocm] 25)) := by
  have hk : ∀ {x : V} {lo hi : Nat} {cs : List Value}, hi ≤ W.heap.size → x.ap W lo hi cs → x.ap (W.alloc (.cells #[.int .i64 gk, .bool gb, .int .i64 gi, .string gs, .slice gal gnl gcl, .slice gam gnm gcm, .int .i64 mk, .bool mb, .int .i64 mi, .string ms, .slice mal mnl mcl, .slice mam mnm mcm, .int .i64 jk, .bool jb, .int .i64 ji, .string js, .slice jal jnl jcl, .slice jam jnm jcm, .int .i64 nk, .bool nb, .int .i64 ni, .string ns, .slice nal nnl ncl, .slice nam nnm ncm, .int .i64 ok, .bool ob, .int .i64 oi, .string os, .slice oal onl ocl, .slice oam onm ocm] 25)) lo hi cs := fun h1 h => V.ap_keep _ (fun y y1 y2 => Below.heap_alloc _ _ _ (by omega)) h
  refine ⟨W.heap.size, w.heap.size, W.heap.size, rfl, Nat.le_refl _, by omega, Nat.le_refl _, by rw [alloc_size]; omega, ?_, ⟨_, heap_alloc_new W _, rfl⟩, hB.trans ((one_belowG W _).mono hB.size)⟩
  rw [apE]
  refine ⟨h1, by omega, by omega, ?_, ?_⟩
  · refine ⟨[.int .i64 gk, .bool gb, .int .i64 gi, .string gs, .slice gal gnl gcl, .slice gam gnm gcm], fun j u hu => ?_, V.ap_wide (hk (by omega) ha) o1 (Nat.le_refl _)⟩
    rw [cell_of_block (heap_alloc_new W _)]
    rcases j with _ | _ | _ | _ | _ | _ | j <;> first | (simp at hu; done) | (simp at hu; subst hu; rfl)
  rw [apE]
  refine ⟨h2, by omega, by omega, ?_, ?_⟩
  · refine ⟨[.int .i64 mk, .bool mb, .int .i64 mi, .string ms, .slice mal mnl mcl, .slice mam mnm mcm], fun j u hu => ?_, V.ap_wide (hk (by omega) hb) o2 (Nat.le_refl _)⟩
    rw [cell_of_block (heap_alloc_new W _)]
    rcases j with _ | _ | _ | _ | _ | _ | j <;> first | (simp at hu; done) | (simp at hu; subst hu; rfl)
  rw [apE]
  refine ⟨h3, by omega, by omega, ?_, ?_⟩
  · refine ⟨[.int .i64 jk, .bool jb, .int .i64 ji, .string js, .slice jal jnl jcl, .slice jam jnm jcm], fun j u hu => ?_, V.ap_wide (hk (by omega) hc) o3 (Nat.le_refl _)⟩
    rw [cell_of_block (heap_alloc_new W _)]
    rcases j with _ | _ | _ | _ | _ | _ | j <;> first | (simp at hu; done) | (simp at hu; subst hu; rfl)
  rw [apE]
  refine ⟨h4, by omega, by omega, ?_, ?_⟩
  · refine ⟨[.int .i64 nk, .bool nb, .int .i64 ni, .string ns, .slice nal nnl ncl, .slice nam nnm ncm], fun j u hu => ?_, V.ap_wide (hk (by omega) hd) o4 (Nat.le_refl _)⟩
    rw [cell_of_block (heap_alloc_new W _)]
    rcases j with _ | _ | _ | _ | _ | _ | j <;> first | (simp at hu; done) | (simp at hu; subst hu; rfl)
  rw [apE]
  refine ⟨W.heap.size, by omega, by omega, ?_, ?_⟩
  · refine ⟨[.int .i64 ok, .bool ob, .int .i64 oi, .string os, .slice oal onl ocl, .slice oam onm ocm], fun j u hu => ?_, V.ap_wide (hk (by omega) hf) o5 o6⟩
    rw [cell_of_block (heap_alloc_new W _)]
    rcases j with _ | _ | _ | _ | _ | _ | j <;> first | (simp at hu; done) | (simp at hu; subst hu; rfl)
  rw [apE]
  trivial
theorem two_mem {W : World} {S : Nat → Prop} {x v : V} {k1 k2 : ByteArray} {g : Nat} {pk pi tk ti : Int} {pb tbb : Bool} {ps ts : ByteArray} {pal pam tal tam : Option Addr} {pnl pcl pnm pcm tnl tcl tnm tcm : Nat} (hx : x.lies false W S [.int .i64 pk, .bool pb, .int .i64 pi, .string ps, .slice pal pnl pcl, .slice pam pnm pcm]) (hv : v.lies false W S [.int .i64 tk, .bool tbb, .int .i64 ti, .string ts, .slice tal tnl tcl, .slice tam tnm tcm]) (h1 : k1.size ≤ maxLen) (h2 : k2.size ≤ maxLen) (hg : S g)
    (hb : W.heap[g]? = some (.cells #[.string k1, .int .i64 pk, .bool pb, .int .i64 pi, .string ps, .slice pal pnl pcl, .slice pam pnm pcm, .string k2, .int .i64 tk, .bool tbb, .int .i64 ti, .string ts, .slice tal tnl tcl, .slice tam tnm tcm] 38)) : liesM false W S [(k1, x), (k2, v)] g 0 := by
  rw [liesM, liesM, liesM]
  refine ⟨hg, ⟨h1, [.int .i64 pk, .bool pb, .int .i64 pi, .string ps, .slice pal pnl pcl, .slice pam pnm pcm], fun j u hu => ?_, hx⟩, hg, ⟨h2, [.int .i64 tk, .bool tbb, .int .i64 ti, .string ts, .slice tal tnl tcl, .slice tam tnm tcm], fun j u hu => ?_, hv⟩, trivial⟩
  · rw [cell_of_block hb]
    rcases j with _ | _ | _ | _ | _ | _ | _ | j <;> first | (simp at hu; done) | (simp at hu; subst hu; rfl)
  · rw [cell_of_block hb]
    rcases j with _ | _ | _ | _ | _ | _ | _ | j <;> first | (simp at hu; done) | (simp at hu; subst hu; rfl)
set_option maxHeartbeats 8000000 in
set_option maxRecDepth 100000 in
theorem answers_ap (v x : V) (key : ByteArray) (S : Nat → Prop) (cs ds : List Value) (w : World) (tb : Tb w) (hv : v.lies false w S cs) (hx : x.lies false w S ds) (hS : ∀ b, S b → b < w.heap.size) (hkey : key.size ≤ 140737488351232) (hwt : v.wt ≤ 2147483648) (hwx : x.wt ≤ 2147483648) :
    Calls Tryd.prog 19 #[.agg cs.toArray, .string key, .agg ds.toArray] w (AnsPost (ansL v key x) w) := by
  obtain ⟨tk, tbb, ti, ts, tal, tnl, tcl, tam, tnm, tcm, rfl⟩ := V.ten hv
  obtain ⟨pk, pb, pi, ps, pal, pnl, pcl, pam, pnm, pcm, rfl⟩ := V.ten hx
  have HL : Hid (∀ W, Below w.heap.size w W → v.lies false W S [.int .i64 tk, .bool tbb, .int .i64 ti, .string ts, .slice tal tnl tcl, .slice tam tnm tcm]) := fun W hB => V.lies_keep (fun h => h) (fun x hx => hB.block x (hS x hx)) (fun x hx => hx) _ hv
  have HP : Hid (∀ W, Below w.heap.size w W → x.lies false W S [.int .i64 pk, .bool pb, .int .i64 pi, .string ps, .slice pal pnl pcl, .slice pam pnm pcm]) := fun W hB => V.lies_keep (fun h => h) (fun x hx => hB.block x (hS x hx)) (fun x hx => hx) _ hx
  have HO : Hid (∀ W, Below w.heap.size w W → ∀ b, S b → b < W.heap.size) := fun W hB b hb => Nat.lt_of_lt_of_le (hS b hb) hB.size
  have HT : Hid (∀ W, Below w.heap.size w W → Tb W) := fun W hb => tb.below hb tb.z
  have Bww0 : Below w.heap.size w ((w.alloc (.cells #[.int .i64 tk, .bool tbb, .int .i64 ti, .string ts, .slice tal tnl tcl, .slice tam tnm tcm] 25)).alloc (.cells #[.int .i64 pk, .bool pb, .int .i64 pi, .string ps, .slice pal pnl pcl, .slice pam pnm pcm] 25)) := two_below w _ _
  have hz0 : ((w.alloc (.cells #[.int .i64 tk, .bool tbb, .int .i64 ti, .string ts, .slice tal tnl tcl, .slice tam tnm tcm] 25)).alloc (.cells #[.int .i64 pk, .bool pb, .int .i64 pi, .string ps, .slice pal pnl pcl, .slice pam pnm pcm] 25)).heap.size = w.heap.size + 2 := by rw [alloc_size, alloc_size]
  have htw0 := alloc2_keep1 w (.cells #[.int .i64 tk, .bool tbb, .int .i64 ti, .string ts, .slice tal tnl tcl, .slice tam tnm tcm] 25) (.cells #[.int .i64 pk, .bool pb, .int .i64 pi, .string ps, .slice pal pnl pcl, .slice pam pnm pcm] 25)
  have hpw0 := alloc2_new w (.cells #[.int .i64 tk, .bool tbb, .int .i64 ti, .string ts, .slice tal tnl tcl, .slice tam tnm tcm] 25) (.cells #[.int .i64 pk, .bool pb, .int .i64 pi, .string ps, .slice pal pnl pcl, .slice pam pnm pcm] 25)
  have ct0 : ((w.alloc (.cells #[.int .i64 tk, .bool tbb, .int .i64 ti, .string ts, .slice tal tnl tcl, .slice tam tnm tcm] 25)).alloc (.cells #[.int .i64 pk, .bool pb, .int .i64 pi, .string ps, .slice pal pnl pcl, .slice pam pnm pcm] 25)).cell? ⟨w.heap.size, 0, none⟩ = some (.int .i64 tk) := by rw [cell_of_block htw0]; rfl
  have ct1 : ((w.alloc (.cells #[.int .i64 tk, .bool tbb, .int .i64 ti, .string ts, .slice tal tnl tcl, .slice tam tnm tcm] 25)).alloc (.cells #[.int .i64 pk, .bool pb, .int .i64 pi, .string ps, .slice pal pnl pcl, .slice pam pnm pcm] 25)).cell? ⟨w.heap.size, 1, none⟩ = some (.bool tbb) := by rw [cell_of_block htw0]; rfl
  have ct2 : ((w.alloc (.cells #[.int .i64 tk, .bool tbb, .int .i64 ti, .string ts, .slice tal tnl tcl, .slice tam tnm tcm] 25)).alloc (.cells #[.int .i64 pk, .bool pb, .int .i64 pi, .string ps, .slice pal pnl pcl, .slice pam pnm pcm] 25)).cell? ⟨w.heap.size, 2, none⟩ = some (.int .i64 ti) := by rw [cell_of_block htw0]; rfl
  have ct3 : ((w.alloc (.cells #[.int .i64 tk, .bool tbb, .int .i64 ti, .string ts, .slice tal tnl tcl, .slice tam tnm tcm] 25)).alloc (.cells #[.int .i64 pk, .bool pb, .int .i64 pi, .string ps, .slice pal pnl pcl, .slice pam pnm pcm] 25)).cell? ⟨w.heap.size, 3, none⟩ = some (.string ts) := by rw [cell_of_block htw0]; rfl
  have ct4 : ((w.alloc (.cells #[.int .i64 tk, .bool tbb, .int .i64 ti, .string ts, .slice tal tnl tcl, .slice tam tnm tcm] 25)).alloc (.cells #[.int .i64 pk, .bool pb, .int .i64 pi, .string ps, .slice pal pnl pcl, .slice pam pnm pcm] 25)).cell? ⟨w.heap.size, 4, none⟩ = some (.slice tal tnl tcl) := by rw [cell_of_block htw0]; rfl
  have ct5 : ((w.alloc (.cells #[.int .i64 tk, .bool tbb, .int .i64 ti, .string ts, .slice tal tnl tcl, .slice tam tnm tcm] 25)).alloc (.cells #[.int .i64 pk, .bool pb, .int .i64 pi, .string ps, .slice pal pnl pcl, .slice pam pnm pcm] 25)).cell? ⟨w.heap.size, 5, none⟩ = some (.slice tam tnm tcm) := by rw [cell_of_block htw0]; rfl
  clear hv hx tb
  have HF : Hid (ansL v key x = [clnV v, (getV v key).1, withV v key x, woutV v key, (bvV [(key, x), (key2 key, v)]).1]) := rfl
  generalize ansL v key x = RR at *
  go_enter Tryd.func19, Tryd.ntmps19
  go_wp2_with fail
  clear ct0 ct1 ct2 ct3 ct4 ct5
  generalize ((w.alloc (.cells #[.int .i64 tk, .bool tbb, .int .i64 ti, .string ts, .slice tal tnl tcl, .slice tam tnm tcm] 25)).alloc (.cells #[.int .i64 pk, .bool pb, .int .i64 pi, .string ps, .slice pal pnl pcl, .slice pam pnm pcm] 25)) = w0 at *
  have CA := clone_ap v false S _ w0 (HT.out _ Bww0) (HL.out _ Bww0) (HO.out _ Bww0) (by omega)
  obtain ⟨fa, hfa⟩ : ∃ q, clnV v = q := ⟨_, rfl⟩
  rw [hfa] at CA HF
  clear hfa
  refine (CA).mono ?_
  rintro e_ w1 ⟨cg_, rfl, lg_, bw1⟩
  try simp only at lg_
  obtain ⟨gk, gb, gi, gs, gal, gnl, gcl, gam, gnm, gcm, rfl⟩ := V.ten (V.ap_lies _ lg_)
  have hzw1 := bw1.size
  have htw1 := (bw1.block (w.heap.size) (by omega)).trans htw0
  have hpw1 := (bw1.block (w.heap.size + 1) (by omega)).trans hpw0
  have Bww1 := Bww0.trans (bw1.mono (by omega))
  have Lgw1 := hmk lg_
  clear lg_ bw1
  clear CA
  have bzw2 : Below w1.heap.size w1 (w1.alloc (.cells #[.int .i64 gk, .bool gb, .int .i64 gi, .string gs, .slice gal gnl gcl, .slice gam gnm gcm] 25)) := one_belowG _ _
  have hltw2 : w1.heap.size < (w1.alloc (.cells #[.int .i64 gk, .bool gb, .int .i64 gi, .string gs, .slice gal gnl gcl, .slice gam gnm gcm] 25)).heap.size := by rw [alloc_size]; omega
  have htw2 := (bzw2.block (w.heap.size) (by omega)).trans htw1
  have hpw2 := (bzw2.block (w.heap.size + 1) (by omega)).trans hpw1
  have Bww2 := Bww1.trans (bzw2.mono (by omega))
  have hgw2 := heap_alloc_new w1 (.cells #[.int .i64 gk, .bool gb, .int .i64 gi, .string gs, .slice gal gnl gcl, .slice gam gnm gcm] 25)
  have Lgw2 := hmk (V.ap_keep _ (fun y y1 y2 => (fun (hy : w0.heap.size ≤ y ∧ y < w1.heap.size) => bzw2.block y (by have := hy.2; omega)) ⟨y1, y2⟩) Lgw1.out)
  clear Lgw1
  have ct0 : (w1.alloc (.cells #[.int .i64 gk, .bool gb, .int .i64 gi, .string gs, .slice gal gnl gcl, .slice gam gnm gcm] 25)).cell? ⟨w.heap.size, 0, none⟩ = some (.int .i64 tk) := by rw [cell_of_block htw2]; rfl
  have ct1 : (w1.alloc (.cells #[.int .i64 gk, .bool gb, .int .i64 gi, .string gs, .slice gal gnl gcl, .slice gam gnm gcm] 25)).cell? ⟨w.heap.size, 1, none⟩ = some (.bool tbb) := by rw [cell_of_block htw2]; rfl
  have ct2 : (w1.alloc (.cells #[.int .i64 gk, .bool gb, .int .i64 gi, .string gs, .slice gal gnl gcl, .slice gam gnm gcm] 25)).cell? ⟨w.heap.size, 2, none⟩ = some (.int .i64 ti) := by rw [cell_of_block htw2]; rfl
  have ct3 : (w1.alloc (.cells #[.int .i64 gk, .bool gb, .int .i64 gi, .string gs, .slice gal gnl gcl, .slice gam gnm gcm] 25)).cell? ⟨w.heap.size, 3, none⟩ = some (.string ts) := by rw [cell_of_block htw2]; rfl
  have ct4 : (w1.alloc (.cells #[.int .i64 gk, .bool gb, .int .i64 gi, .string gs, .slice gal gnl gcl, .slice gam gnm gcm] 25)).cell? ⟨w.heap.size, 4, none⟩ = some (.slice tal tnl tcl) := by rw [cell_of_block htw2]; rfl
  have ct5 : (w1.alloc (.cells #[.int .i64 gk, .bool gb, .int .i64 gi, .string gs, .slice gal gnl gcl, .slice gam gnm gcm] 25)).cell? ⟨w.heap.size, 5, none⟩ = some (.slice tam tnm tcm) := by rw [cell_of_block htw2]; rfl
  go_wp2_with fail
  clear ct0 ct1 ct2 ct3 ct4 ct5
  generalize (w1.alloc (.cells #[.int .i64 gk, .bool gb, .int .i64 gi, .string gs, .slice gal gnl gcl, .slice gam gnm gcm] 25)) = w2 at *
  have CA := get_ap v key false S _ w2 (HT.out _ Bww2) (HL.out _ Bww2) (HO.out _ Bww2) (by omega)
  obtain ⟨⟨fb, eb⟩, hfa⟩ : ∃ q, getV v key = q := ⟨_, rfl⟩
  rw [hfa] at CA HF
  clear hfa
  try simp only at HF
  refine (CA).mono ?_
  rintro e_ w3 ⟨cm_, rfl, lm_, bw3⟩
  try simp only at lm_
  obtain ⟨mk, mb, mi, ms, mal, mnl, mcl, mam, mnm, mcm, rfl⟩ := V.ten (V.ap_lies _ lm_)
  have hzw3 := bw3.size
  have htw3 := (bw3.block (w.heap.size) (by omega)).trans htw2
  have hpw3 := (bw3.block (w.heap.size + 1) (by omega)).trans hpw2
  have hgw3 := (bw3.block (w1.heap.size) (by omega)).trans hgw2
  have Bww3 := Bww2.trans (bw3.mono (by omega))
  have Lgw3 := hmk (V.ap_keep _ (fun y y1 y2 => (fun (hy : w0.heap.size ≤ y ∧ y < w1.heap.size) => bw3.block y (by have := hy.2; omega)) ⟨y1, y2⟩) Lgw2.out)
  clear Lgw2
  have Lmw3 := hmk lm_
  clear lm_ bw3
  clear CA
  have bzw4 : Below w3.heap.size w3 (w3.alloc (.cells #[.int .i64 mk, .bool mb, .int .i64 mi, .string ms, .slice mal mnl mcl, .slice mam mnm mcm] 25)) := one_belowG _ _
  have hltw4 : w3.heap.size < (w3.alloc (.cells #[.int .i64 mk, .bool mb, .int .i64 mi, .string ms, .slice mal mnl mcl, .slice mam mnm mcm] 25)).heap.size := by rw [alloc_size]; omega
  have htw4 := (bzw4.block (w.heap.size) (by omega)).trans htw3
  have hpw4 := (bzw4.block (w.heap.size + 1) (by omega)).trans hpw3
  have hgw4 := (bzw4.block (w1.heap.size) (by omega)).trans hgw3
  have Bww4 := Bww3.trans (bzw4.mono (by omega))
  have hmw4 := heap_alloc_new w3 (.cells #[.int .i64 mk, .bool mb, .int .i64 mi, .string ms, .slice mal mnl mcl, .slice mam mnm mcm] 25)
  have Lgw4 := hmk (V.ap_keep _ (fun y y1 y2 => (fun (hy : w0.heap.size ≤ y ∧ y < w1.heap.size) => bzw4.block y (by have := hy.2; omega)) ⟨y1, y2⟩) Lgw3.out)
  have Lmw4 := hmk (V.ap_keep _ (fun y y1 y2 => (fun (hy : w2.heap.size ≤ y ∧ y < w3.heap.size) => bzw4.block y (by have := hy.2; omega)) ⟨y1, y2⟩) Lmw3.out)
  clear Lgw3 Lmw3
  have ct0 : (w3.alloc (.cells #[.int .i64 mk, .bool mb, .int .i64 mi, .string ms, .slice mal mnl mcl, .slice mam mnm mcm] 25)).cell? ⟨w.heap.size, 0, none⟩ = some (.int .i64 tk) := by rw [cell_of_block htw4]; rfl
  have ct1 : (w3.alloc (.cells #[.int .i64 mk, .bool mb, .int .i64 mi, .string ms, .slice mal mnl mcl, .slice mam mnm mcm] 25)).cell? ⟨w.heap.size, 1, none⟩ = some (.bool tbb) := by rw [cell_of_block htw4]; rfl
  have ct2 : (w3.alloc (.cells #[.int .i64 mk, .bool mb, .int .i64 mi, .string ms, .slice mal mnl mcl, .slice mam mnm mcm] 25)).cell? ⟨w.heap.size, 2, none⟩ = some (.int .i64 ti) := by rw [cell_of_block htw4]; rfl
  have ct3 : (w3.alloc (.cells #[.int .i64 mk, .bool mb, .int .i64 mi, .string ms, .slice mal mnl mcl, .slice mam mnm mcm] 25)).cell? ⟨w.heap.size, 3, none⟩ = some (.string ts) := by rw [cell_of_block htw4]; rfl
  have ct4 : (w3.alloc (.cells #[.int .i64 mk, .bool mb, .int .i64 mi, .string ms, .slice mal mnl mcl, .slice mam mnm mcm] 25)).cell? ⟨w.heap.size, 4, none⟩ = some (.slice tal tnl tcl) := by rw [cell_of_block htw4]; rfl
  have ct5 : (w3.alloc (.cells #[.int .i64 mk, .bool mb, .int .i64 mi, .string ms, .slice mal mnl mcl, .slice mam mnm mcm] 25)).cell? ⟨w.heap.size, 5, none⟩ = some (.slice tam tnm tcm) := by rw [cell_of_block htw4]; rfl
  have cp0 : (w3.alloc (.cells #[.int .i64 mk, .bool mb, .int .i64 mi, .string ms, .slice mal mnl mcl, .slice mam mnm mcm] 25)).cell? ⟨w.heap.size + 1, 0, none⟩ = some (.int .i64 pk) := by rw [cell_of_block hpw4]; rfl
  have cp1 : (w3.alloc (.cells #[.int .i64 mk, .bool mb, .int .i64 mi, .string ms, .slice mal mnl mcl, .slice mam mnm mcm] 25)).cell? ⟨w.heap.size + 1, 1, none⟩ = some (.bool pb) := by rw [cell_of_block hpw4]; rfl
  have cp2 : (w3.alloc (.cells #[.int .i64 mk, .bool mb, .int .i64 mi, .string ms, .slice mal mnl mcl, .slice mam mnm mcm] 25)).cell? ⟨w.heap.size + 1, 2, none⟩ = some (.int .i64 pi) := by rw [cell_of_block hpw4]; rfl
  have cp3 : (w3.alloc (.cells #[.int .i64 mk, .bool mb, .int .i64 mi, .string ms, .slice mal mnl mcl, .slice mam mnm mcm] 25)).cell? ⟨w.heap.size + 1, 3, none⟩ = some (.string ps) := by rw [cell_of_block hpw4]; rfl
  have cp4 : (w3.alloc (.cells #[.int .i64 mk, .bool mb, .int .i64 mi, .string ms, .slice mal mnl mcl, .slice mam mnm mcm] 25)).cell? ⟨w.heap.size + 1, 4, none⟩ = some (.slice pal pnl pcl) := by rw [cell_of_block hpw4]; rfl
  have cp5 : (w3.alloc (.cells #[.int .i64 mk, .bool mb, .int .i64 mi, .string ms, .slice mal mnl mcl, .slice mam mnm mcm] 25)).cell? ⟨w.heap.size + 1, 5, none⟩ = some (.slice pam pnm pcm) := by rw [cell_of_block hpw4]; rfl
  go_wp2_with fail
  clear ct0 ct1 ct2 ct3 ct4 ct5 cp0 cp1 cp2 cp3 cp4 cp5
  generalize (w3.alloc (.cells #[.int .i64 mk, .bool mb, .int .i64 mi, .string ms, .slice mal mnl mcl, .slice mam mnm mcm] 25)) = w4 at *
  have CA := with_ap v x key false false S S _ _ w4 (HT.out _ Bww4) (HL.out _ Bww4) (HP.out _ Bww4) (HO.out _ Bww4) (HO.out _ Bww4) (by omega) (by omega) (by omega)
  obtain ⟨fc, hfa⟩ : ∃ q, withV v key x = q := ⟨_, rfl⟩
  rw [hfa] at CA HF
  clear hfa
  generalize withE v key x = ec at CA
  refine (CA).mono ?_
  rintro e_ w5 ⟨cj_, rfl, lj_, bw5⟩
  try simp only at lj_
  obtain ⟨jk, jb, ji, js, jal, jnl, jcl, jam, jnm, jcm, rfl⟩ := V.ten (V.ap_lies _ lj_)
  have hzw5 := bw5.size
  have htw5 := (bw5.block (w.heap.size) (by omega)).trans htw4
  have hpw5 := (bw5.block (w.heap.size + 1) (by omega)).trans hpw4
  have hgw5 := (bw5.block (w1.heap.size) (by omega)).trans hgw4
  have hmw5 := (bw5.block (w3.heap.size) (by omega)).trans hmw4
  have Bww5 := Bww4.trans (bw5.mono (by omega))
  have Lgw5 := hmk (V.ap_keep _ (fun y y1 y2 => (fun (hy : w0.heap.size ≤ y ∧ y < w1.heap.size) => bw5.block y (by have := hy.2; omega)) ⟨y1, y2⟩) Lgw4.out)
  have Lmw5 := hmk (V.ap_keep _ (fun y y1 y2 => (fun (hy : w2.heap.size ≤ y ∧ y < w3.heap.size) => bw5.block y (by have := hy.2; omega)) ⟨y1, y2⟩) Lmw4.out)
  clear Lgw4 Lmw4
  have Ljw5 := hmk lj_
  clear lj_ bw5
  clear CA
  have bzw6 : Below w5.heap.size w5 (w5.alloc (.cells #[.int .i64 jk, .bool jb, .int .i64 ji, .string js, .slice jal jnl jcl, .slice jam jnm jcm] 25)) := one_belowG _ _
  have hltw6 : w5.heap.size < (w5.alloc (.cells #[.int .i64 jk, .bool jb, .int .i64 ji, .string js, .slice jal jnl jcl, .slice jam jnm jcm] 25)).heap.size := by rw [alloc_size]; omega
  have htw6 := (bzw6.block (w.heap.size) (by omega)).trans htw5
  have hpw6 := (bzw6.block (w.heap.size + 1) (by omega)).trans hpw5
  have hgw6 := (bzw6.block (w1.heap.size) (by omega)).trans hgw5
  have hmw6 := (bzw6.block (w3.heap.size) (by omega)).trans hmw5
  have Bww6 := Bww5.trans (bzw6.mono (by omega))
  have hjw6 := heap_alloc_new w5 (.cells #[.int .i64 jk, .bool jb, .int .i64 ji, .string js, .slice jal jnl jcl, .slice jam jnm jcm] 25)
  have Lgw6 := hmk (V.ap_keep _ (fun y y1 y2 => (fun (hy : w0.heap.size ≤ y ∧ y < w1.heap.size) => bzw6.block y (by have := hy.2; omega)) ⟨y1, y2⟩) Lgw5.out)
  have Lmw6 := hmk (V.ap_keep _ (fun y y1 y2 => (fun (hy : w2.heap.size ≤ y ∧ y < w3.heap.size) => bzw6.block y (by have := hy.2; omega)) ⟨y1, y2⟩) Lmw5.out)
  have Ljw6 := hmk (V.ap_keep _ (fun y y1 y2 => (fun (hy : w4.heap.size ≤ y ∧ y < w5.heap.size) => bzw6.block y (by have := hy.2; omega)) ⟨y1, y2⟩) Ljw5.out)
  clear Lgw5 Lmw5 Ljw5
  have ct0 : (w5.alloc (.cells #[.int .i64 jk, .bool jb, .int .i64 ji, .string js, .slice jal jnl jcl, .slice jam jnm jcm] 25)).cell? ⟨w.heap.size, 0, none⟩ = some (.int .i64 tk) := by rw [cell_of_block htw6]; rfl
  have ct1 : (w5.alloc (.cells #[.int .i64 jk, .bool jb, .int .i64 ji, .string js, .slice jal jnl jcl, .slice jam jnm jcm] 25)).cell? ⟨w.heap.size, 1, none⟩ = some (.bool tbb) := by rw [cell_of_block htw6]; rfl
  have ct2 : (w5.alloc (.cells #[.int .i64 jk, .bool jb, .int .i64 ji, .string js, .slice jal jnl jcl, .slice jam jnm jcm] 25)).cell? ⟨w.heap.size, 2, none⟩ = some (.int .i64 ti) := by rw [cell_of_block htw6]; rfl
  have ct3 : (w5.alloc (.cells #[.int .i64 jk, .bool jb, .int .i64 ji, .string js, .slice jal jnl jcl, .slice jam jnm jcm] 25)).cell? ⟨w.heap.size, 3, none⟩ = some (.string ts) := by rw [cell_of_block htw6]; rfl
  have ct4 : (w5.alloc (.cells #[.int .i64 jk, .bool jb, .int .i64 ji, .string js, .slice jal jnl jcl, .slice jam jnm jcm] 25)).cell? ⟨w.heap.size, 4, none⟩ = some (.slice tal tnl tcl) := by rw [cell_of_block htw6]; rfl
  have ct5 : (w5.alloc (.cells #[.int .i64 jk, .bool jb, .int .i64 ji, .string js, .slice jal jnl jcl, .slice jam jnm jcm] 25)).cell? ⟨w.heap.size, 5, none⟩ = some (.slice tam tnm tcm) := by rw [cell_of_block htw6]; rfl
  go_wp2_with fail
  clear ct0 ct1 ct2 ct3 ct4 ct5
  generalize (w5.alloc (.cells #[.int .i64 jk, .bool jb, .int .i64 ji, .string js, .slice jal jnl jcl, .slice jam jnm jcm] 25)) = w6 at *
  have CA := without_ap v key false S _ w6 (HT.out _ Bww6) (HL.out _ Bww6) (HO.out _ Bww6) (by omega)
  obtain ⟨fd, hfa⟩ : ∃ q, woutV v key = q := ⟨_, rfl⟩
  rw [hfa] at CA HF
  clear hfa
  refine (CA).mono ?_
  rintro e_ w7 ⟨cn_, rfl, ln_, bw7⟩
  try simp only at ln_
  obtain ⟨nk, nb, ni, ns, nal, nnl, ncl, nam, nnm, ncm, rfl⟩ := V.ten (V.ap_lies _ ln_)
  have hzw7 := bw7.size
  have htw7 := (bw7.block (w.heap.size) (by omega)).trans htw6
  have hpw7 := (bw7.block (w.heap.size + 1) (by omega)).trans hpw6
  have hgw7 := (bw7.block (w1.heap.size) (by omega)).trans hgw6
  have hmw7 := (bw7.block (w3.heap.size) (by omega)).trans hmw6
  have hjw7 := (bw7.block (w5.heap.size) (by omega)).trans hjw6
  have Bww7 := Bww6.trans (bw7.mono (by omega))
  have Lgw7 := hmk (V.ap_keep _ (fun y y1 y2 => (fun (hy : w0.heap.size ≤ y ∧ y < w1.heap.size) => bw7.block y (by have := hy.2; omega)) ⟨y1, y2⟩) Lgw6.out)
  have Lmw7 := hmk (V.ap_keep _ (fun y y1 y2 => (fun (hy : w2.heap.size ≤ y ∧ y < w3.heap.size) => bw7.block y (by have := hy.2; omega)) ⟨y1, y2⟩) Lmw6.out)
  have Ljw7 := hmk (V.ap_keep _ (fun y y1 y2 => (fun (hy : w4.heap.size ≤ y ∧ y < w5.heap.size) => bw7.block y (by have := hy.2; omega)) ⟨y1, y2⟩) Ljw6.out)
  clear Lgw6 Lmw6 Ljw6
  have Lnw7 := hmk ln_
  clear ln_ bw7
  clear CA
  have bzw8 : Below w7.heap.size w7 (w7.alloc (.cells #[.int .i64 nk, .bool nb, .int .i64 ni, .string ns, .slice nal nnl ncl, .slice nam nnm ncm] 25)) := one_belowG _ _
  have hltw8 : w7.heap.size < (w7.alloc (.cells #[.int .i64 nk, .bool nb, .int .i64 ni, .string ns, .slice nal nnl ncl, .slice nam nnm ncm] 25)).heap.size := by rw [alloc_size]; omega
  have htw8 := (bzw8.block (w.heap.size) (by omega)).trans htw7
  have hpw8 := (bzw8.block (w.heap.size + 1) (by omega)).trans hpw7
  have hgw8 := (bzw8.block (w1.heap.size) (by omega)).trans hgw7
  have hmw8 := (bzw8.block (w3.heap.size) (by omega)).trans hmw7
  have hjw8 := (bzw8.block (w5.heap.size) (by omega)).trans hjw7
  have Bww8 := Bww7.trans (bzw8.mono (by omega))
  have hnw8 := heap_alloc_new w7 (.cells #[.int .i64 nk, .bool nb, .int .i64 ni, .string ns, .slice nal nnl ncl, .slice nam nnm ncm] 25)
  have Lgw8 := hmk (V.ap_keep _ (fun y y1 y2 => (fun (hy : w0.heap.size ≤ y ∧ y < w1.heap.size) => bzw8.block y (by have := hy.2; omega)) ⟨y1, y2⟩) Lgw7.out)
  have Lmw8 := hmk (V.ap_keep _ (fun y y1 y2 => (fun (hy : w2.heap.size ≤ y ∧ y < w3.heap.size) => bzw8.block y (by have := hy.2; omega)) ⟨y1, y2⟩) Lmw7.out)
  have Ljw8 := hmk (V.ap_keep _ (fun y y1 y2 => (fun (hy : w4.heap.size ≤ y ∧ y < w5.heap.size) => bzw8.block y (by have := hy.2; omega)) ⟨y1, y2⟩) Ljw7.out)
  have Lnw8 := hmk (V.ap_keep _ (fun y y1 y2 => (fun (hy : w6.heap.size ≤ y ∧ y < w7.heap.size) => bzw8.block y (by have := hy.2; omega)) ⟨y1, y2⟩) Lnw7.out)
  clear Lgw7 Lmw7 Ljw7 Lnw7
  have ct0 : (w7.alloc (.cells #[.int .i64 nk, .bool nb, .int .i64 ni, .string ns, .slice nal nnl ncl, .slice nam nnm ncm] 25)).cell? ⟨w.heap.size, 0, none⟩ = some (.int .i64 tk) := by rw [cell_of_block htw8]; rfl
  have ct1 : (w7.alloc (.cells #[.int .i64 nk, .bool nb, .int .i64 ni, .string ns, .slice nal nnl ncl, .slice nam nnm ncm] 25)).cell? ⟨w.heap.size, 1, none⟩ = some (.bool tbb) := by rw [cell_of_block htw8]; rfl
  have ct2 : (w7.alloc (.cells #[.int .i64 nk, .bool nb, .int .i64 ni, .string ns, .slice nal nnl ncl, .slice nam nnm ncm] 25)).cell? ⟨w.heap.size, 2, none⟩ = some (.int .i64 ti) := by rw [cell_of_block htw8]; rfl
  have ct3 : (w7.alloc (.cells #[.int .i64 nk, .bool nb, .int .i64 ni, .string ns, .slice nal nnl ncl, .slice nam nnm ncm] 25)).cell? ⟨w.heap.size, 3, none⟩ = some (.string ts) := by rw [cell_of_block htw8]; rfl
  have ct4 : (w7.alloc (.cells #[.int .i64 nk, .bool nb, .int .i64 ni, .string ns, .slice nal nnl ncl, .slice nam nnm ncm] 25)).cell? ⟨w.heap.size, 4, none⟩ = some (.slice tal tnl tcl) := by rw [cell_of_block htw8]; rfl
  have ct5 : (w7.alloc (.cells #[.int .i64 nk, .bool nb, .int .i64 ni, .string ns, .slice nal nnl ncl, .slice nam nnm ncm] 25)).cell? ⟨w.heap.size, 5, none⟩ = some (.slice tam tnm tcm) := by rw [cell_of_block htw8]; rfl
  have cp0 : (w7.alloc (.cells #[.int .i64 nk, .bool nb, .int .i64 ni, .string ns, .slice nal nnl ncl, .slice nam nnm ncm] 25)).cell? ⟨w.heap.size + 1, 0, none⟩ = some (.int .i64 pk) := by rw [cell_of_block hpw8]; rfl
  have cp1 : (w7.alloc (.cells #[.int .i64 nk, .bool nb, .int .i64 ni, .string ns, .slice nal nnl ncl, .slice nam nnm ncm] 25)).cell? ⟨w.heap.size + 1, 1, none⟩ = some (.bool pb) := by rw [cell_of_block hpw8]; rfl
  have cp2 : (w7.alloc (.cells #[.int .i64 nk, .bool nb, .int .i64 ni, .string ns, .slice nal nnl ncl, .slice nam nnm ncm] 25)).cell? ⟨w.heap.size + 1, 2, none⟩ = some (.int .i64 pi) := by rw [cell_of_block hpw8]; rfl
  have cp3 : (w7.alloc (.cells #[.int .i64 nk, .bool nb, .int .i64 ni, .string ns, .slice nal nnl ncl, .slice nam nnm ncm] 25)).cell? ⟨w.heap.size + 1, 3, none⟩ = some (.string ps) := by rw [cell_of_block hpw8]; rfl
  have cp4 : (w7.alloc (.cells #[.int .i64 nk, .bool nb, .int .i64 ni, .string ns, .slice nal nnl ncl, .slice nam nnm ncm] 25)).cell? ⟨w.heap.size + 1, 4, none⟩ = some (.slice pal pnl pcl) := by rw [cell_of_block hpw8]; rfl
  have cp5 : (w7.alloc (.cells #[.int .i64 nk, .bool nb, .int .i64 ni, .string ns, .slice nal nnl ncl, .slice nam nnm ncm] 25)).cell? ⟨w.heap.size + 1, 5, none⟩ = some (.slice pam pnm pcm) := by rw [cell_of_block hpw8]; rfl
  have hk2 : Hid (key2 key = key ++ (⟨#[50]⟩ : ByteArray)) := rfl
  have HS8 : Hid ((w7.alloc (.cells #[.int .i64 nk, .bool nb, .int .i64 ni, .string ns, .slice nal nnl ncl, .slice nam nnm ncm] 25)).heap.size = w7.heap.size + 1) := alloc_size _ _
  go_wp2_with fail
  clear ct0 ct1 ct2 ct3 ct4 ct5 cp0 cp1 cp2 cp3 cp4 cp5
  generalize (w7.alloc (.cells #[.int .i64 nk, .bool nb, .int .i64 ni, .string ns, .slice nal nnl ncl, .slice nam nnm ncm] 25)) = w8 at *
  rw [← hk2.out]
  have hk2s := key2_size key
  have bM : Below w8.heap.size w8 (w8.alloc (.cells #[.string key, .int .i64 pk, .bool pb, .int .i64 pi, .string ps, .slice pal pnl pcl, .slice pam pnm pcm, .string (key2 key), .int .i64 tk, .bool tbb, .int .i64 ti, .string ts, .slice tal tnl tcl, .slice tam tnm tcm] 38)) := one_belowG _ _
  have hMb := heap_alloc_new w8 (.cells #[.string key, .int .i64 pk, .bool pb, .int .i64 pi, .string ps, .slice pal pnl pcl, .slice pam pnm pcm, .string (key2 key), .int .i64 tk, .bool tbb, .int .i64 ti, .string ts, .slice tal tnl tcl, .slice tam tnm tcm] 38)
  have hzwM : _ ≤ _ := bM.size
  have htwM := (bM.block (w.heap.size) (by omega)).trans htw8
  have hpwM := (bM.block (w.heap.size + 1) (by omega)).trans hpw8
  have hgwM := (bM.block (w1.heap.size) (by omega)).trans hgw8
  have hmwM := (bM.block (w3.heap.size) (by omega)).trans hmw8
  have hjwM := (bM.block (w5.heap.size) (by omega)).trans hjw8
  have hnwM := (bM.block (w7.heap.size) (by omega)).trans hnw8
  have BwwM := Bww8.trans (bM.mono (by omega))
  have LgwM := hmk (V.ap_keep _ (fun y y1 y2 => (fun (hy : w0.heap.size ≤ y ∧ y < w1.heap.size) => bM.block y (by have := hy.2; omega)) ⟨y1, y2⟩) Lgw8.out)
  have LmwM := hmk (V.ap_keep _ (fun y y1 y2 => (fun (hy : w2.heap.size ≤ y ∧ y < w3.heap.size) => bM.block y (by have := hy.2; omega)) ⟨y1, y2⟩) Lmw8.out)
  have LjwM := hmk (V.ap_keep _ (fun y y1 y2 => (fun (hy : w4.heap.size ≤ y ∧ y < w5.heap.size) => bM.block y (by have := hy.2; omega)) ⟨y1, y2⟩) Ljw8.out)
  have LnwM := hmk (V.ap_keep _ (fun y y1 y2 => (fun (hy : w6.heap.size ≤ y ∧ y < w7.heap.size) => bM.block y (by have := hy.2; omega)) ⟨y1, y2⟩) Lnw8.out)
  clear Lgw8 Lmw8 Ljw8 Lnw8
  have hltM : w8.heap.size < (w8.alloc (.cells #[.string key, .int .i64 pk, .bool pb, .int .i64 pi, .string ps, .slice pal pnl pcl, .slice pam pnm pcm, .string (key2 key), .int .i64 tk, .bool tbb, .int .i64 ti, .string ts, .slice tal tnl tcl, .slice tam tnm tcm] 38)).heap.size := by rw [alloc_size]; omega
  generalize (w8.alloc (.cells #[.string key, .int .i64 pk, .bool pb, .int .i64 pi, .string ps, .slice pal pnl pcl, .slice pam pnm pcm, .string (key2 key), .int .i64 tk, .bool tbb, .int .i64 ti, .string ts, .slice tal tnl tcl, .slice tam tnm tcm] 38)) = wM at *
  have hLx : x.lies false wM (fun y => S y ∨ y = w8.heap.size) _ := V.lies_keep (fun h => h) (fun _ _ => rfl) (fun _ h => .inl h) _ (HP.out _ BwwM)
  have hLv : v.lies false wM (fun y => S y ∨ y = w8.heap.size) _ := V.lies_keep (fun h => h) (fun _ _ => rfl) (fun _ h => .inl h) _ (HL.out _ BwwM)
  have hLo : ∀ y, (fun y => S y ∨ y = w8.heap.size) y → y < wM.heap.size := fun y hy => hy.elim (fun h => (HO.out _ BwwM y h)) (fun h => by omega)
  have hm : maxLen = 9223372036854775807 := rfl
  have CB := build_ap [(key, x), (key2 key, v)] false (fun y => S y ∨ y = w8.heap.size) (some ⟨w8.heap.size, 0, none⟩) 2 w8.heap.size 0 wM (HT.out _ BwwM) rfl (two_mem hLx hLv (by omega) (by omega) (.inr rfl) hMb) hLo (by simp only [wtM]; omega) (fun y hy => by rcases List.mem_cons.1 hy with rfl | hy; (show key.size ≤ _; omega); (rw [List.mem_singleton.1 hy]; show (key2 key).size ≤ _; omega)) (fun y hy => by rcases List.mem_cons.1 hy with rfl | hy; (show x.wt ≤ _; omega); (rw [List.mem_singleton.1 hy]; show v.wt ≤ _; omega)) (by simp)
  have CA : Calls Tryd.prog 10 #[.slice (some ⟨w8.heap.size, 0, none⟩) 2 2] wM (VaPost (bvV [(key, x), (key2 key, v)]).1 (bvV [(key, x), (key2 key, v)]).2 wM) := CB.mono (fun e_ w_ h => bu_val (bu_of_bld h))
  clear CB hLx hLv hLo hMb hm
  obtain ⟨⟨ff, ef⟩, hfa⟩ : ∃ q, bvV [(key, x), (key2 key, v)] = q := ⟨_, rfl⟩
  rw [hfa] at CA HF
  clear hfa
  try simp only at HF
  generalize key2 key = K2 at *
  rw [HS8.out] at CA
  clear HS8
  refine (CA).mono ?_
  rintro e_ w9 ⟨co_, rfl, lo_, bw9⟩
  try simp only at lo_
  obtain ⟨ok, ob, oi, os, oal, onl, ocl, oam, onm, ocm, rfl⟩ := V.ten (V.ap_lies _ lo_)
  have hzw9 := bw9.size
  have htw9 := (bw9.block (w.heap.size) (by omega)).trans htwM
  have hpw9 := (bw9.block (w.heap.size + 1) (by omega)).trans hpwM
  have hgw9 := (bw9.block (w1.heap.size) (by omega)).trans hgwM
  have hmw9 := (bw9.block (w3.heap.size) (by omega)).trans hmwM
  have hjw9 := (bw9.block (w5.heap.size) (by omega)).trans hjwM
  have hnw9 := (bw9.block (w7.heap.size) (by omega)).trans hnwM
  have Bww9 := BwwM.trans (bw9.mono (by omega))
  have Lgw9 := hmk (V.ap_keep _ (fun y y1 y2 => (fun (hy : w0.heap.size ≤ y ∧ y < w1.heap.size) => bw9.block y (by have := hy.2; omega)) ⟨y1, y2⟩) LgwM.out)
  have Lmw9 := hmk (V.ap_keep _ (fun y y1 y2 => (fun (hy : w2.heap.size ≤ y ∧ y < w3.heap.size) => bw9.block y (by have := hy.2; omega)) ⟨y1, y2⟩) LmwM.out)
  have Ljw9 := hmk (V.ap_keep _ (fun y y1 y2 => (fun (hy : w4.heap.size ≤ y ∧ y < w5.heap.size) => bw9.block y (by have := hy.2; omega)) ⟨y1, y2⟩) LjwM.out)
  have Lnw9 := hmk (V.ap_keep _ (fun y y1 y2 => (fun (hy : w6.heap.size ≤ y ∧ y < w7.heap.size) => bw9.block y (by have := hy.2; omega)) ⟨y1, y2⟩) LnwM.out)
  clear LgwM LmwM LjwM LnwM
  have Low9 := hmk lo_
  clear lo_ bw9
  clear CA
  have bzw10 : Below w9.heap.size w9 (w9.alloc (.cells #[.int .i64 ok, .bool ob, .int .i64 oi, .string os, .slice oal onl ocl, .slice oam onm ocm] 25)) := one_belowG _ _
  have hltw10 : w9.heap.size < (w9.alloc (.cells #[.int .i64 ok, .bool ob, .int .i64 oi, .string os, .slice oal onl ocl, .slice oam onm ocm] 25)).heap.size := by rw [alloc_size]; omega
  have htw10 := (bzw10.block (w.heap.size) (by omega)).trans htw9
  have hpw10 := (bzw10.block (w.heap.size + 1) (by omega)).trans hpw9
  have hgw10 := (bzw10.block (w1.heap.size) (by omega)).trans hgw9
  have hmw10 := (bzw10.block (w3.heap.size) (by omega)).trans hmw9
  have hjw10 := (bzw10.block (w5.heap.size) (by omega)).trans hjw9
  have hnw10 := (bzw10.block (w7.heap.size) (by omega)).trans hnw9
  have Bww10 := Bww9.trans (bzw10.mono (by omega))
  have how10 := heap_alloc_new w9 (.cells #[.int .i64 ok, .bool ob, .int .i64 oi, .string os, .slice oal onl ocl, .slice oam onm ocm] 25)
  have Lgw10 := hmk (V.ap_keep _ (fun y y1 y2 => (fun (hy : w0.heap.size ≤ y ∧ y < w1.heap.size) => bzw10.block y (by have := hy.2; omega)) ⟨y1, y2⟩) Lgw9.out)
  have Lmw10 := hmk (V.ap_keep _ (fun y y1 y2 => (fun (hy : w2.heap.size ≤ y ∧ y < w3.heap.size) => bzw10.block y (by have := hy.2; omega)) ⟨y1, y2⟩) Lmw9.out)
  have Ljw10 := hmk (V.ap_keep _ (fun y y1 y2 => (fun (hy : w4.heap.size ≤ y ∧ y < w5.heap.size) => bzw10.block y (by have := hy.2; omega)) ⟨y1, y2⟩) Ljw9.out)
  have Lnw10 := hmk (V.ap_keep _ (fun y y1 y2 => (fun (hy : w6.heap.size ≤ y ∧ y < w7.heap.size) => bzw10.block y (by have := hy.2; omega)) ⟨y1, y2⟩) Lnw9.out)
  have Low10 := hmk (V.ap_keep _ (fun y y1 y2 => (fun (hy : wM.heap.size ≤ y ∧ y < w9.heap.size) => bzw10.block y (by have := hy.2; omega)) ⟨y1, y2⟩) Low9.out)
  clear Lgw9 Lmw9 Ljw9 Lnw9 Low9
  have cg0 : (w9.alloc (.cells #[.int .i64 ok, .bool ob, .int .i64 oi, .string os, .slice oal onl ocl, .slice oam onm ocm] 25)).cell? ⟨w1.heap.size, 0, none⟩ = some (.int .i64 gk) := by rw [cell_of_block hgw10]; rfl
  have cg1 : (w9.alloc (.cells #[.int .i64 ok, .bool ob, .int .i64 oi, .string os, .slice oal onl ocl, .slice oam onm ocm] 25)).cell? ⟨w1.heap.size, 1, none⟩ = some (.bool gb) := by rw [cell_of_block hgw10]; rfl
  have cg2 : (w9.alloc (.cells #[.int .i64 ok, .bool ob, .int .i64 oi, .string os, .slice oal onl ocl, .slice oam onm ocm] 25)).cell? ⟨w1.heap.size, 2, none⟩ = some (.int .i64 gi) := by rw [cell_of_block hgw10]; rfl
  have cg3 : (w9.alloc (.cells #[.int .i64 ok, .bool ob, .int .i64 oi, .string os, .slice oal onl ocl, .slice oam onm ocm] 25)).cell? ⟨w1.heap.size, 3, none⟩ = some (.string gs) := by rw [cell_of_block hgw10]; rfl
  have cg4 : (w9.alloc (.cells #[.int .i64 ok, .bool ob, .int .i64 oi, .string os, .slice oal onl ocl, .slice oam onm ocm] 25)).cell? ⟨w1.heap.size, 4, none⟩ = some (.slice gal gnl gcl) := by rw [cell_of_block hgw10]; rfl
  have cg5 : (w9.alloc (.cells #[.int .i64 ok, .bool ob, .int .i64 oi, .string os, .slice oal onl ocl, .slice oam onm ocm] 25)).cell? ⟨w1.heap.size, 5, none⟩ = some (.slice gam gnm gcm) := by rw [cell_of_block hgw10]; rfl
  have cm0 : (w9.alloc (.cells #[.int .i64 ok, .bool ob, .int .i64 oi, .string os, .slice oal onl ocl, .slice oam onm ocm] 25)).cell? ⟨w3.heap.size, 0, none⟩ = some (.int .i64 mk) := by rw [cell_of_block hmw10]; rfl
  have cm1 : (w9.alloc (.cells #[.int .i64 ok, .bool ob, .int .i64 oi, .string os, .slice oal onl ocl, .slice oam onm ocm] 25)).cell? ⟨w3.heap.size, 1, none⟩ = some (.bool mb) := by rw [cell_of_block hmw10]; rfl
  have cm2 : (w9.alloc (.cells #[.int .i64 ok, .bool ob, .int .i64 oi, .string os, .slice oal onl ocl, .slice oam onm ocm] 25)).cell? ⟨w3.heap.size, 2, none⟩ = some (.int .i64 mi) := by rw [cell_of_block hmw10]; rfl
  have cm3 : (w9.alloc (.cells #[.int .i64 ok, .bool ob, .int .i64 oi, .string os, .slice oal onl ocl, .slice oam onm ocm] 25)).cell? ⟨w3.heap.size, 3, none⟩ = some (.string ms) := by rw [cell_of_block hmw10]; rfl
  have cm4 : (w9.alloc (.cells #[.int .i64 ok, .bool ob, .int .i64 oi, .string os, .slice oal onl ocl, .slice oam onm ocm] 25)).cell? ⟨w3.heap.size, 4, none⟩ = some (.slice mal mnl mcl) := by rw [cell_of_block hmw10]; rfl
  have cm5 : (w9.alloc (.cells #[.int .i64 ok, .bool ob, .int .i64 oi, .string os, .slice oal onl ocl, .slice oam onm ocm] 25)).cell? ⟨w3.heap.size, 5, none⟩ = some (.slice mam mnm mcm) := by rw [cell_of_block hmw10]; rfl
  have cj0 : (w9.alloc (.cells #[.int .i64 ok, .bool ob, .int .i64 oi, .string os, .slice oal onl ocl, .slice oam onm ocm] 25)).cell? ⟨w5.heap.size, 0, none⟩ = some (.int .i64 jk) := by rw [cell_of_block hjw10]; rfl
  have cj1 : (w9.alloc (.cells #[.int .i64 ok, .bool ob, .int .i64 oi, .string os, .slice oal onl ocl, .slice oam onm ocm] 25)).cell? ⟨w5.heap.size, 1, none⟩ = some (.bool jb) := by rw [cell_of_block hjw10]; rfl
  have cj2 : (w9.alloc (.cells #[.int .i64 ok, .bool ob, .int .i64 oi, .string os, .slice oal onl ocl, .slice oam onm ocm] 25)).cell? ⟨w5.heap.size, 2, none⟩ = some (.int .i64 ji) := by rw [cell_of_block hjw10]; rfl
  have cj3 : (w9.alloc (.cells #[.int .i64 ok, .bool ob, .int .i64 oi, .string os, .slice oal onl ocl, .slice oam onm ocm] 25)).cell? ⟨w5.heap.size, 3, none⟩ = some (.string js) := by rw [cell_of_block hjw10]; rfl
  have cj4 : (w9.alloc (.cells #[.int .i64 ok, .bool ob, .int .i64 oi, .string os, .slice oal onl ocl, .slice oam onm ocm] 25)).cell? ⟨w5.heap.size, 4, none⟩ = some (.slice jal jnl jcl) := by rw [cell_of_block hjw10]; rfl
  have cj5 : (w9.alloc (.cells #[.int .i64 ok, .bool ob, .int .i64 oi, .string os, .slice oal onl ocl, .slice oam onm ocm] 25)).cell? ⟨w5.heap.size, 5, none⟩ = some (.slice jam jnm jcm) := by rw [cell_of_block hjw10]; rfl
  have cn0 : (w9.alloc (.cells #[.int .i64 ok, .bool ob, .int .i64 oi, .string os, .slice oal onl ocl, .slice oam onm ocm] 25)).cell? ⟨w7.heap.size, 0, none⟩ = some (.int .i64 nk) := by rw [cell_of_block hnw10]; rfl
  have cn1 : (w9.alloc (.cells #[.int .i64 ok, .bool ob, .int .i64 oi, .string os, .slice oal onl ocl, .slice oam onm ocm] 25)).cell? ⟨w7.heap.size, 1, none⟩ = some (.bool nb) := by rw [cell_of_block hnw10]; rfl
  have cn2 : (w9.alloc (.cells #[.int .i64 ok, .bool ob, .int .i64 oi, .string os, .slice oal onl ocl, .slice oam onm ocm] 25)).cell? ⟨w7.heap.size, 2, none⟩ = some (.int .i64 ni) := by rw [cell_of_block hnw10]; rfl
  have cn3 : (w9.alloc (.cells #[.int .i64 ok, .bool ob, .int .i64 oi, .string os, .slice oal onl ocl, .slice oam onm ocm] 25)).cell? ⟨w7.heap.size, 3, none⟩ = some (.string ns) := by rw [cell_of_block hnw10]; rfl
  have cn4 : (w9.alloc (.cells #[.int .i64 ok, .bool ob, .int .i64 oi, .string os, .slice oal onl ocl, .slice oam onm ocm] 25)).cell? ⟨w7.heap.size, 4, none⟩ = some (.slice nal nnl ncl) := by rw [cell_of_block hnw10]; rfl
  have cn5 : (w9.alloc (.cells #[.int .i64 ok, .bool ob, .int .i64 oi, .string os, .slice oal onl ocl, .slice oam onm ocm] 25)).cell? ⟨w7.heap.size, 5, none⟩ = some (.slice nam nnm ncm) := by rw [cell_of_block hnw10]; rfl
  have co0 : (w9.alloc (.cells #[.int .i64 ok, .bool ob, .int .i64 oi, .string os, .slice oal onl ocl, .slice oam onm ocm] 25)).cell? ⟨w9.heap.size, 0, none⟩ = some (.int .i64 ok) := by rw [cell_of_block how10]; rfl
  have co1 : (w9.alloc (.cells #[.int .i64 ok, .bool ob, .int .i64 oi, .string os, .slice oal onl ocl, .slice oam onm ocm] 25)).cell? ⟨w9.heap.size, 1, none⟩ = some (.bool ob) := by rw [cell_of_block how10]; rfl
  have co2 : (w9.alloc (.cells #[.int .i64 ok, .bool ob, .int .i64 oi, .string os, .slice oal onl ocl, .slice oam onm ocm] 25)).cell? ⟨w9.heap.size, 2, none⟩ = some (.int .i64 oi) := by rw [cell_of_block how10]; rfl
  have co3 : (w9.alloc (.cells #[.int .i64 ok, .bool ob, .int .i64 oi, .string os, .slice oal onl ocl, .slice oam onm ocm] 25)).cell? ⟨w9.heap.size, 3, none⟩ = some (.string os) := by rw [cell_of_block how10]; rfl
  have co4 : (w9.alloc (.cells #[.int .i64 ok, .bool ob, .int .i64 oi, .string os, .slice oal onl ocl, .slice oam onm ocm] 25)).cell? ⟨w9.heap.size, 4, none⟩ = some (.slice oal onl ocl) := by rw [cell_of_block how10]; rfl
  have co5 : (w9.alloc (.cells #[.int .i64 ok, .bool ob, .int .i64 oi, .string os, .slice oal onl ocl, .slice oam onm ocm] 25)).cell? ⟨w9.heap.size, 5, none⟩ = some (.slice oam onm ocm) := by rw [cell_of_block how10]; rfl
  have HZ0 := five_end (w := w) Lgw10.out Lmw10.out Ljw10.out Lnw10.out Low10.out Bww10 (by omega) (by omega) (by omega) (by omega) (by omega) (by omega) (by omega) (by omega) (by omega) (by omega) (by omega)
  rw [alloc_size] at HZ0
  have HZ := hmk HZ0
  clear HZ0
  clear Lgw10 Lmw10 Ljw10 Lnw10 Low10
  go_wp2_with fail
  go_ret
  rw [HF.out]
  exact HZ.out
end Go.Proofs.YthgfomblodhoaaaDoor
