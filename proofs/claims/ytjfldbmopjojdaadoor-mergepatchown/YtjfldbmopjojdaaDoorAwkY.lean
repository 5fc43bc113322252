import Derived.Test.YtjfldbmopjojdaaDoorG39
import Derived.Test.YtjfldbmopjojdaaDoorG46
set_option linter.unusedSimpArgs false
set_option linter.unusedVariables false
namespace Go.Proofs.YtjfldbmopjojdaaDoor
open Go.RowKit Go.Lib
theorem diff_twoE (low : Addr) (ka kb : ByteArray) (xa xb : V) (S : Nat → Prop) (cs ds : List Value) (w : World) (hT : Tb w) (hE : ErrAt low w) (hlt : ltB ka kb = true) (hc : clnB xb = true) (h1 : bothE (V.mk 5 false 0 ⟨#[]⟩ [] [(ka, xa)]) (V.mk 5 false 0 ⟨#[]⟩ [] [(kb, xb)]) = 0) (h2 : chkE (V.mk 5 false 0 ⟨#[]⟩ [] [(ka, nullV), (kb, xb)]) 32 = 0) (hwt : (V.mk 5 false 0 ⟨#[]⟩ [] [(ka, xa)]).wt ≤ 2147483648) (hwp : (V.mk 5 false 0 ⟨#[]⟩ [] [(kb, xb)]).wt ≤ 2147483648) (hv : (V.mk 5 false 0 ⟨#[]⟩ [] [(ka, xa)]).lies false w S cs) (hx : (V.mk 5 false 0 ⟨#[]⟩ [] [(kb, xb)]).lies false w S ds) (hS : ∀ b, S b → b < w.heap.size) :
 Calls Tryd.prog 20 #[.agg cs.toArray, .agg ds.toArray] w (DfPost (V.mk 5 false 0 ⟨#[]⟩ [] [(ka, nullV), (kb, xb)]) w) := by
 have C := diff_any low (V.mk 5 false 0 ⟨#[]⟩ [] [(ka, xa)]) (V.mk 5 false 0 ⟨#[]⟩ [] [(kb, xb)]) S cs ds w hT hE hv hx hS hwt hwp
 have e : btwV 41 (V.mk 5 false 0 ⟨#[]⟩ [] [(ka, xa)]) (V.mk 5 false 0 ⟨#[]⟩ [] [(kb, xb)]) = some (V.mk 5 false 0 ⟨#[]⟩ [] [(ka, nullV), (kb, xb)]) := by
  rw [btwV, if_pos ⟨rfl, rfl⟩, btwM]
  show Option.map mapV (stDs (btwM 40) (tgR (bare ((ka, xa) :: [])) (bare [(kb, xb)]))) = _
  rw [tg_l (fun y hy => by rw [List.mem_singleton.1 hy]; exact hlt), tg_r (fun y hy => by cases hy)]
  rw [stDs_mk (stD_A (btwM 40) ka xa) (stDs_mk (show stD (btwM 40) (pB ((kb, xb), [])) = some [(kb, xb)] from by rw [stD_B, if_pos hc]) (show stDs (btwM 40) (tgR (bare []) (bare [])) = some [] from by rw [show bare [] = [] from rfl, tgR, stDs]))]
  rfl
 obtain ⟨k1, k2⟩ := both_two h1
 rw [dff_some k1 k2 e h2] at C
 exact C
structure OneMid (v : V) (wc wx : World) (A : Nat) (gk : Int) (gb : Bool) (gi : Int) (gs : ByteArray) (gal : Option Addr) (gnl gcl : Nat) (gam : Option Addr) (gnm gcm : Nat) : Prop where
 bel : Below wc.heap.size wc wx
 bA : wx.heap[A]? = some (.cells #[.int .i64 gk, .bool gb, .int .i64 gi, .string gs, .slice gal gnl gcl, .slice gam gnm gcm] 25)
 lo : wc.heap.size ≤ A ∧ A < wx.heap.size
 l1 : v.lies false wx (New wc wx) [.int .i64 gk, .bool gb, .int .i64 gi, .string gs, .slice gal gnl gcl, .slice gam gnm gcm]
theorem one_mid {v : V} {wc wq : World} {A lo hi : Nat} {gk : Int} {gb : Bool} {gi : Int} {gs : ByteArray} {gal : Option Addr} {gnl gcl : Nat} {gam : Option Addr} {gnm gcm : Nat} (bel : Below wc.heap.size wc wq) (hA : wc.heap.size ≤ A) (hA' : A < lo ∨ hi ≤ A) (hlo : wc.heap.size ≤ lo) (hhi : hi ≤ wq.heap.size)
 (mA : wq.heap[A]? = some (.cells #[.int .i64 0, .bool false, .int .i64 0, .string ⟨#[]⟩, .slice none 0 0, .slice none 0 0] 25)) (l1 : v.lies false wq (fun y => lo ≤ y ∧ y < hi) [.int .i64 gk, .bool gb, .int .i64 gi, .string gs, .slice gal gnl gcl, .slice gam gnm gcm]) : OneMid v wc ((((((wq.setCell ⟨A, 0, none⟩ (.int .i64 gk)).setCell ⟨A, 1, none⟩ (.bool gb)).setCell ⟨A, 2, none⟩ (.int .i64 gi)).setCell ⟨A, 3, none⟩ (.string gs)).setCell ⟨A, 4, none⟩ (.slice gal gnl gcl)).setCell ⟨A, 5, none⟩ (.slice gam gnm gcm)) A gk gb gi gs gal gnl gcl gam gnm gcm := by
 have zA : A < wq.heap.size := (Array.getElem?_eq_some_iff.1 mA).1
 have oA := six_o wq A (.int .i64 gk) (.bool gb) (.int .i64 gi) (.string gs) (.slice gal gnl gcl) (.slice gam gnm gcm)
 have xA := box_six mA (.int .i64 gk) (.bool gb) (.int .i64 gi) (.string gs) (.slice gal gnl gcl) (.slice gam gnm gcm)
 have gA : wq.grownBy ((((((wq.setCell ⟨A, 0, none⟩ (.int .i64 gk)).setCell ⟨A, 1, none⟩ (.bool gb)).setCell ⟨A, 2, none⟩ (.int .i64 gi)).setCell ⟨A, 3, none⟩ (.string gs)).setCell ⟨A, 4, none⟩ (.slice gal gnl gcl)).setCell ⟨A, 5, none⟩ (.slice gam gnm gcm)) (some A) := grown_set (grown_set (grown_set (grown_set (grown_set (grown_set (World.grownBy.refl wq _) 0 _) 1 _) 2 _) 3 _) 4 _) 5 _
 have sA : ((((((wq.setCell ⟨A, 0, none⟩ (.int .i64 gk)).setCell ⟨A, 1, none⟩ (.bool gb)).setCell ⟨A, 2, none⟩ (.int .i64 gi)).setCell ⟨A, 3, none⟩ (.string gs)).setCell ⟨A, 4, none⟩ (.slice gal gnl gcl)).setCell ⟨A, 5, none⟩ (.slice gam gnm gcm)).heap.size = wq.heap.size := by simp only [size_set1]
 generalize ((((((wq.setCell ⟨A, 0, none⟩ (.int .i64 gk)).setCell ⟨A, 1, none⟩ (.bool gb)).setCell ⟨A, 2, none⟩ (.int .i64 gi)).setCell ⟨A, 3, none⟩ (.string gs)).setCell ⟨A, 4, none⟩ (.slice gal gnl gcl)).setCell ⟨A, 5, none⟩ (.slice gam gnm gcm)) = wx at *
 have hz := bel.size
 exact ⟨⟨gA.os.trans bel.os, gA.tape.trans bel.tape, gA.output.trans bel.output, by omega, fun z hz => (oA z (by omega)).trans (bel.block z (by omega))⟩, xA, ⟨by omega, by omega⟩, V.lies_keep (fun h => h) (fun z hz => oA z (by omega)) (fun z hz => ⟨by omega, by omega⟩) _ l1⟩
def n1V : V := .mk 2 false 1 ⟨#[]⟩ [] []
def aP : V := .mk 5 false 0 ⟨#[]⟩ [] [(⟨#[97]⟩, nullV), (⟨#[98]⟩, n1V)]
theorem aw_apl : aplF (oneV ⟨#[97]⟩ n1V) aP = (oneV ⟨#[98]⟩ n1V, 0) := by kernel_rfl
theorem aw_both : bothE (oneV ⟨#[97]⟩ n1V) (oneV ⟨#[98]⟩ n1V) = 0 := by kernel_rfl
theorem aw_chk : chkE aP 32 = 0 := by kernel_rfl
theorem aw_lt : ltB ⟨#[97]⟩ ⟨#[98]⟩ = true := by kernel_rfl
theorem aw_cln : clnB n1V = true := by kernel_rfl
theorem n1_lies (W : World) (S : Nat → Prop) : n1V.lies false W S [.int .i64 2, .bool false, .int .i64 1, .string ⟨#[]⟩, .slice none 0 0, .slice none 0 0] := by rw [n1V, V.lies]; exact ⟨none, 0, 0, 0, none, 0, 0, 0, rfl, ⟨by decide, by decide⟩, ⟨by decide, by decide⟩, by decide, headed_nil, headed_nil, by rw [liesL]; trivial, by rw [liesM]; trivial, fun h => by cases h⟩
theorem aP_lies {W w : World} (h : W.heap[w.heap.size + 1]? = some (.cells #[.string ⟨#[97]⟩, .int .i64 0, .bool false, .int .i64 0, .string ⟨#[]⟩, .slice none 0 0, .slice none 0 0, .string ⟨#[98]⟩, .int .i64 2, .bool false, .int .i64 1, .string ⟨#[]⟩, .slice none 0 0, .slice none 0 0] 57)) : aP.lies false W (fun b => b = w.heap.size + 1) [.int .i64 5, .bool false, .int .i64 0, .string ⟨#[]⟩, .slice none 0 0, .slice (some ⟨w.heap.size + 1, 0, none⟩) 2 2] := by
 rw [aP, V.lies]
 refine ⟨none, 0, 0, 0, some ⟨w.heap.size + 1, 0, none⟩, 2, w.heap.size + 1, 0, rfl, ⟨by decide, by decide⟩, ⟨by decide, by decide⟩, by decide, headed_nil, ⟨Nat.le_refl _, by decide, .inr rfl, fun e => by cases e⟩, by rw [liesL]; trivial, ?_, fun e => by cases e⟩
 rw [liesM, liesM, liesM]
 refine ⟨rfl, ⟨by decide, [.int .i64 0, .bool false, .int .i64 0, .string ⟨#[]⟩, .slice none 0 0, .slice none 0 0], ?_, null_lies _ _⟩, rfl, ⟨by decide, [.int .i64 2, .bool false, .int .i64 1, .string ⟨#[]⟩, .slice none 0 0, .slice none 0 0], ?_, n1_lies _ _⟩, trivial⟩
 ·intro q u hu
  rw [cell_of_block h]
  rcases q with _ | _ | _ | _ | _ | _ | _ | q <;> simp at hu <;> first | (subst hu; rfl) | skip
 ·intro q u hu
  rw [cell_of_block h]
  rcases q with _ | _ | _ | _ | _ | _ | _ | q <;> simp at hu <;> first | (subst hu; rfl) | skip
set_option maxHeartbeats 8000000 in
set_option maxRecDepth 100000 in
theorem awake_any (low : Addr) (w : World) (tb : Tb w) (hE : ErrAt low w) : Calls Tryd.prog 19 #[] w (BPost true w) := by
 have Bw3 : Below w.heap.size w (((w.alloc (.cells #[.int .i64 2, .bool false, .int .i64 1, .string ⟨#[]⟩, .slice none 0 0, .slice none 0 0] 25)).alloc (.cells #[.string ⟨#[97]⟩, .int .i64 0, .bool false, .int .i64 0, .string ⟨#[]⟩, .slice none 0 0, .slice none 0 0, .string ⟨#[98]⟩, .int .i64 2, .bool false, .int .i64 1, .string ⟨#[]⟩, .slice none 0 0, .slice none 0 0] 57)).alloc (.cells #[.int .i64 5, .bool false, .int .i64 0, .string ⟨#[]⟩, .slice none 0 0, .slice (some ⟨w.heap.size + 1, 0, none⟩) 2 2] 25)) := three_below w _ _ _
 have hz3 : (((w.alloc (.cells #[.int .i64 2, .bool false, .int .i64 1, .string ⟨#[]⟩, .slice none 0 0, .slice none 0 0] 25)).alloc (.cells #[.string ⟨#[97]⟩, .int .i64 0, .bool false, .int .i64 0, .string ⟨#[]⟩, .slice none 0 0, .slice none 0 0, .string ⟨#[98]⟩, .int .i64 2, .bool false, .int .i64 1, .string ⟨#[]⟩, .slice none 0 0, .slice none 0 0] 57)).alloc (.cells #[.int .i64 5, .bool false, .int .i64 0, .string ⟨#[]⟩, .slice none 0 0, .slice (some ⟨w.heap.size + 1, 0, none⟩) 2 2] 25)).heap.size = w.heap.size + 3 := by rw [alloc_size, alloc_size, alloc_size]
 obtain ⟨h1, h2, h3⟩ := three_allocs w (.cells #[.int .i64 2, .bool false, .int .i64 1, .string ⟨#[]⟩, .slice none 0 0, .slice none 0 0] 25) (.cells #[.string ⟨#[97]⟩, .int .i64 0, .bool false, .int .i64 0, .string ⟨#[]⟩, .slice none 0 0, .slice none 0 0, .string ⟨#[98]⟩, .int .i64 2, .bool false, .int .i64 1, .string ⟨#[]⟩, .slice none 0 0, .slice none 0 0] 57) (.cells #[.int .i64 5, .bool false, .int .i64 0, .string ⟨#[]⟩, .slice none 0 0, .slice (some ⟨w.heap.size + 1, 0, none⟩) 2 2] 25)
 have c1 := heap_alloc_new w (.cells #[.int .i64 2, .bool false, .int .i64 1, .string ⟨#[]⟩, .slice none 0 0, .slice none 0 0] 25)
 obtain ⟨ck0, ck1, ck2, ck3, ck4, ck5⟩ := sixC c1
 have HTb0 : Hid (∀ W, Below w.heap.size w W → Tb W) := fun W hb => tb.below hb tb.z
 have HEb0 : Hid (∀ W, Below w.heap.size w W → ErrAt low W) := fun W hb => hE.below hb hE.z
 clear tb c1
 go_enter Tryd.func19, Tryd.ntmps19
 go_wp2_with fail
 clear ck0 ck1 ck2 ck3 ck4 ck5
 generalize (((w.alloc (.cells #[.int .i64 2, .bool false, .int .i64 1, .string ⟨#[]⟩, .slice none 0 0, .slice none 0 0] 25)).alloc (.cells #[.string ⟨#[97]⟩, .int .i64 0, .bool false, .int .i64 0, .string ⟨#[]⟩, .slice none 0 0, .slice none 0 0, .string ⟨#[98]⟩, .int .i64 2, .bool false, .int .i64 1, .string ⟨#[]⟩, .slice none 0 0, .slice none 0 0] 57)).alloc (.cells #[.int .i64 5, .bool false, .int .i64 0, .string ⟨#[]⟩, .slice none 0 0, .slice (some ⟨w.heap.size + 1, 0, none⟩) 2 2] 25)) = w3 at *
 have HS : Hid (∀ X, Below w3.heap.size w3 X → X.heap[w.heap.size]? = some (.cells #[.int .i64 2, .bool false, .int .i64 1, .string ⟨#[]⟩, .slice none 0 0, .slice none 0 0] 25) ∧ X.heap[w.heap.size + 2]? = some (.cells #[.int .i64 5, .bool false, .int .i64 0, .string ⟨#[]⟩, .slice none 0 0, .slice (some ⟨w.heap.size + 1, 0, none⟩) 2 2] 25)) := fun X hb => ⟨(hb.block _ (by omega)).trans h1, (hb.block _ (by omega)).trans h3⟩
 have HPl : Hid (∀ X, Below w3.heap.size w3 X → aP.lies false X (fun b => b = w.heap.size + 1) [.int .i64 5, .bool false, .int .i64 0, .string ⟨#[]⟩, .slice none 0 0, .slice (some ⟨w.heap.size + 1, 0, none⟩) 2 2]) := fun X hb => aP_lies ((hb.block _ (by omega)).trans h2)
 have HTb : Hid (∀ X, Below w3.heap.size w3 X → Tb X) := fun X hb => HTb0.out X (Bw3.trans (hb.mono (by omega)))
 have HEb : Hid (∀ X, Below w3.heap.size w3 X → ErrAt low X) := fun X hb => HEb0.out X (Bw3.trans (hb.mono (by omega)))
 have B0 : Below w3.heap.size w3 w3.drew := (Below.refl _ _).drew
 clear h1 h2 h3 HTb0 HEb0
 go_cut [3, 4] (fun e3 e4 wx => ∃ (A_ : Nat) (gk : Int) (gb : Bool) (gi : Int) (gs : ByteArray) (gal : Option Addr) (gnl gcl : Nat) (gam : Option Addr) (gnm gcm : Nat), e3 = .pointer (some ⟨A_, 0, none⟩) ∧ e4 = .int .i64 0 ∧ OneMid (oneV ⟨#[98]⟩ n1V) w3 wx A_ gk gb gi gs gal gnl gcl gam gnm gcm)
 case first =>
  refine wp_region_held_drew (S := (fun X => X.heap[w.heap.size]? = some (.cells #[.int .i64 2, .bool false, .int .i64 1, .string ⟨#[]⟩, .slice none 0 0, .slice none 0 0] 25) ∧ X.heap[w.heap.size + 2]? = some (.cells #[.int .i64 5, .bool false, .int .i64 0, .string ⟨#[]⟩, .slice none 0 0, .slice (some ⟨w.heap.size + 1, 0, none⟩) 2 2] 25))) (by kernel_rfl) (HS.out _ B0) (fun hHeld => ?_)
  (refine tkA 0 ?_ ?_ ?_; rotate_left 1; (intro W0 hSw; (have o0 : W0.cell? ⟨w.heap.size, 0, none⟩ = some (.int .i64 2) := (by rw [cell_of_block hSw.1]; rfl); have o1 : W0.cell? ⟨w.heap.size, 1, none⟩ = some (.bool false) := (by rw [cell_of_block hSw.1]; rfl); have o2 : W0.cell? ⟨w.heap.size, 2, none⟩ = some (.int .i64 1) := (by rw [cell_of_block hSw.1]; rfl); have o3 : W0.cell? ⟨w.heap.size, 3, none⟩ = some (.string ⟨#[]⟩) := (by rw [cell_of_block hSw.1]; rfl); have o4 : W0.cell? ⟨w.heap.size, 4, none⟩ = some (.slice none 0 0) := (by rw [cell_of_block hSw.1]; rfl); have o5 : W0.cell? ⟨w.heap.size, 5, none⟩ = some (.slice none 0 0) := (by rw [cell_of_block hSw.1]; rfl)); go_simp; (try with_reducible rfl)); (try simp only [Act.put, zA, zB, zC]))
  (refine tkA 2 ?_ ?_ ?_; rotate_left 1; (intro W0 hSw; (have o0 : W0.cell? ⟨w.heap.size + 2, 0, none⟩ = some (.int .i64 5) := (by rw [cell_of_block hSw.2]; rfl); have o1 : W0.cell? ⟨w.heap.size + 2, 1, none⟩ = some (.bool false) := (by rw [cell_of_block hSw.2]; rfl); have o2 : W0.cell? ⟨w.heap.size + 2, 2, none⟩ = some (.int .i64 0) := (by rw [cell_of_block hSw.2]; rfl); have o3 : W0.cell? ⟨w.heap.size + 2, 3, none⟩ = some (.string ⟨#[]⟩) := (by rw [cell_of_block hSw.2]; rfl); have o4 : W0.cell? ⟨w.heap.size + 2, 4, none⟩ = some (.slice none 0 0) := (by rw [cell_of_block hSw.2]; rfl); have o5 : W0.cell? ⟨w.heap.size + 2, 5, none⟩ = some (.slice (some ⟨w.heap.size + 1, 0, none⟩) 2 2) := (by rw [cell_of_block hSw.2]; rfl)); go_simp; (try with_reducible rfl)); (try simp only [Act.put, zA, zB, zC]))
  have Bw3d : Below w3.heap.size w3 w3.drew := (Below.refl _ _).drew
  generalize w3.drew = w3d at *
  have hltw3d := Bw3d.size
  refine ryA [1, 7] ?_
  refine rA2 (fun K hK => ?_) fun K hK => ?_
  ·skip
   go_simp
   refine (one_any ⟨#[97]⟩ n1V (fun _ => False) _ w3d (by decide) (n1_lies _ _) (fun _ h => h.elim)).mono ?_
   rintro e_ wz1 ⟨cs_, rfl, hlc, bc⟩
   obtain ⟨uk, ub, ui, us, ual, unl, ucl, uam, unm, ucm, rfl⟩ := V.ten hlc
   have Gu : Hid (∀ W, Below wz1.heap.size wz1 W → (oneV ⟨#[97]⟩ n1V).lies false W (fun y => w3d.heap.size ≤ y ∧ y < wz1.heap.size) [.int .i64 uk, .bool ub, .int .i64 ui, .string us, .slice ual unl ucl, .slice uam unm ucm]) := fun W hb => V.lies_keep (fun h => h) (fun x hx => hb.block x (hx.elim (fun h => h.elim) (fun h => h.2))) (fun x hx => hx.elim (fun h => h.elim) (fun h => h)) _ hlc
   have hltwz1 : w3d.heap.size ≤ wz1.heap.size := bc.size
   have Bwz1 : Below w3.heap.size w3 wz1 := Bw3d.trans (bc.mono (by omega))
   have Auwz1 : Below wz1.heap.size wz1 wz1 := Below.refl _ _
   refine hK.out _ _ (HS.out _ Bwz1) (fun hHeld => ?_)
   clear hK K hlc bc
   (try simp only [Act.put, zA, zB, zC])
   refine ryA [3, 7] ?_
   refine rA2 (fun K hK => ?_) fun K hK => ?_
   ·skip
    go_simp
    obtain ⟨Su, hSu, lu⟩ : ∃ Su : Nat → Prop, (∀ y, Su y → y < wz1.heap.size) ∧ (oneV ⟨#[97]⟩ n1V).lies false wz1 Su [.int .i64 uk, .bool ub, .int .i64 ui, .string us, .slice ual unl ucl, .slice uam unm ucm] := ⟨_, fun y hy => Nat.lt_of_lt_of_le hy.2 Auwz1.size, Gu.out wz1 Auwz1⟩
    have CA := apply_any (oneV ⟨#[97]⟩ n1V) aP (fun y => Su y ∨ y = w.heap.size + 1) _ _ wz1 (HTb.out _ Bwz1) (V.lies_keep (fun h => h) (fun _ _ => rfl) (fun y hy => .inl hy) _ lu) (V.lies_keep (fun h => h) (fun _ _ => rfl) (fun y hy => .inr hy) _ (HPl.out _ Bwz1)) (fun y hy => by rcases hy with hy | hy <;> first | exact hSu y hy | omega) (of_decide_eq_true (by kernel_rfl)) (of_decide_eq_true (by kernel_rfl))
    rw [aw_apl] at CA
    refine CA.mono ?_
    rintro e_ wz2 ⟨cs_, rfl, hlc, bc⟩
    clear CA lu hSu
    simp only at hlc
    obtain ⟨gk, gb, gi, gs, gal, gnl, gcl, gam, gnm, gcm, rfl⟩ := V.ten hlc
    have hltwz2 : wz1.heap.size ≤ wz2.heap.size := bc.size
    have Bwz2 : Below w3.heap.size w3 wz2 := Bwz1.trans (bc.mono (by omega))
    have Auwz2 : Below wz1.heap.size wz1 wz2 := Auwz1.trans (bc.mono (by omega))
    have l1wz2 : (oneV ⟨#[98]⟩ n1V).lies false wz2 (fun y => wz1.heap.size ≤ y ∧ y < wz2.heap.size) [.int .i64 gk, .bool gb, .int .i64 gi, .string gs, .slice gal gnl gcl, .slice gam gnm gcm] := hlc
    refine hK.out _ _ (HS.out _ Bwz2) (fun hHeld => ?_)
    clear hK K hlc bc
    (try simp only [Act.put, zA, zB, zC])
    (refine tjA 4 ?_; (try simp only [Act.put, zA, zB, zC]))
    (refine tjA 5 ?_; (try simp only [Act.put, zA, zB, zC]))
    (refine tjA 6 ?_; (try simp only [Act.put, zA, zB, zC]))
    refine ryA [7] ?_
    refine rA1 fun K hK => ?_
    ·skip
     have bz : Below wz2.heap.size wz2 (wz2.alloc (.cells #[.int .i64 0, .bool false, .int .i64 0, .string ⟨#[]⟩, .slice none 0 0, .slice none 0 0] 25)) := (Below.refl _ _).alloc (Nat.le_refl _) _
     have hltwz3 : wz2.heap.size < (wz2.alloc (.cells #[.int .i64 0, .bool false, .int .i64 0, .string ⟨#[]⟩, .slice none 0 0, .slice none 0 0] 25)).heap.size := by rw [alloc_size]; omega
     have mbwz3 : (wz2.alloc (.cells #[.int .i64 0, .bool false, .int .i64 0, .string ⟨#[]⟩, .slice none 0 0, .slice none 0 0] 25)).heap[wz2.heap.size]? = some (.cells #[.int .i64 0, .bool false, .int .i64 0, .string ⟨#[]⟩, .slice none 0 0, .slice none 0 0] 25) := heap_alloc_new wz2 (.cells #[.int .i64 0, .bool false, .int .i64 0, .string ⟨#[]⟩, .slice none 0 0, .slice none 0 0] 25)
     have Bwz3 : Below w3.heap.size w3 (wz2.alloc (.cells #[.int .i64 0, .bool false, .int .i64 0, .string ⟨#[]⟩, .slice none 0 0, .slice none 0 0] 25)) := Bwz2.trans (bz.mono (by omega))
     have Auwz3 : Below wz1.heap.size wz1 (wz2.alloc (.cells #[.int .i64 0, .bool false, .int .i64 0, .string ⟨#[]⟩, .slice none 0 0, .slice none 0 0] 25)) := Auwz2.trans (bz.mono (by omega))
     have l1wz3 : (oneV ⟨#[98]⟩ n1V).lies false (wz2.alloc (.cells #[.int .i64 0, .bool false, .int .i64 0, .string ⟨#[]⟩, .slice none 0 0, .slice none 0 0] 25)) (fun y => wz1.heap.size ≤ y ∧ y < wz2.heap.size) [.int .i64 gk, .bool gb, .int .i64 gi, .string gs, .slice gal gnl gcl, .slice gam gnm gcm] := V.lies_keep (fun h => h) (fun y hy => bz.block y (by omega)) (fun _ h => h) _ l1wz2
     go_simp
     refine hK.out _ _ (HS.out _ Bwz3) (fun hHeld => ?_)
     clear hK K bz
     (try simp only [Act.put, zA, zB, zC])
     generalize (wz2.alloc (.cells #[.int .i64 0, .bool false, .int .i64 0, .string ⟨#[]⟩, .slice none 0 0, .slice none 0 0] 25)) = wz3 at *
     have RM := one_mid Bwz3 (A := wz2.heap.size) (by omega) (by omega) (by omega) (by omega) mbwz3 l1wz3
     have hs_ := HS.out _ Bwz3
     have na0 : w.heap.size ≠ wz2.heap.size := by omega
     have na1 : w.heap.size + 2 ≠ wz2.heap.size := by omega
     have kb := mbwz3
     generalize wz2.heap.size = A_ at RM kb na0 na1 ⊢
     obtain ⟨p0, p1, p2, p3, p4, p5⟩ := sixC kb
     have fp := frozen_of_block kb
     have oA := six_o wz3 A_ (.int .i64 gk) (.bool gb) (.int .i64 gi) (.string gs) (.slice gal gnl gcl) (.slice gam gnm gcm)
     have u0_ := (oA _ na0).trans hs_.1
     have u1_ := (oA _ na1).trans hs_.2
     refine ryA [8] ?_
     refine rA1 fun K hK => ?_
     go_simp
     refine hK.out _ _ ⟨u0_, u1_⟩ (fun hHeld => ?_)
     clear hK K
     (try simp only [Act.put, zA, zB, zC])
     (refine tjA 9 ?_; (try simp only [Act.put, zA, zB, zC]))
     refine wpAnyH_done (by kernel_rfl) ?_ _
     (try dsimp only [Act.put, List.getElem_toArray, List.getElem_cons_succ, List.getElem_cons_zero, List.setIfInBounds_toArray, List.set_cons_zero, List.set_cons_succ])
     clear hHeld u0_ u1_ oA
     (try go_wp2_with fail)
     go_meet
     case rel => exact ⟨_, _, _, _, _, _, _, _, _, _, _, rfl, rfl, RM⟩
   ·skip
    have bz : Below wz1.heap.size wz1 (wz1.alloc (.cells #[.int .i64 0, .bool false, .int .i64 0, .string ⟨#[]⟩, .slice none 0 0, .slice none 0 0] 25)) := (Below.refl _ _).alloc (Nat.le_refl _) _
    have hltwz2 : wz1.heap.size < (wz1.alloc (.cells #[.int .i64 0, .bool false, .int .i64 0, .string ⟨#[]⟩, .slice none 0 0, .slice none 0 0] 25)).heap.size := by rw [alloc_size]; omega
    have mbwz2 : (wz1.alloc (.cells #[.int .i64 0, .bool false, .int .i64 0, .string ⟨#[]⟩, .slice none 0 0, .slice none 0 0] 25)).heap[wz1.heap.size]? = some (.cells #[.int .i64 0, .bool false, .int .i64 0, .string ⟨#[]⟩, .slice none 0 0, .slice none 0 0] 25) := heap_alloc_new wz1 (.cells #[.int .i64 0, .bool false, .int .i64 0, .string ⟨#[]⟩, .slice none 0 0, .slice none 0 0] 25)
    have Bwz2 : Below w3.heap.size w3 (wz1.alloc (.cells #[.int .i64 0, .bool false, .int .i64 0, .string ⟨#[]⟩, .slice none 0 0, .slice none 0 0] 25)) := Bwz1.trans (bz.mono (by omega))
    have Auwz2 : Below wz1.heap.size wz1 (wz1.alloc (.cells #[.int .i64 0, .bool false, .int .i64 0, .string ⟨#[]⟩, .slice none 0 0, .slice none 0 0] 25)) := Auwz1.trans (bz.mono (by omega))
    go_simp
    refine hK.out _ _ (HS.out _ Bwz2) (fun hHeld => ?_)
    clear hK K bz
    (try simp only [Act.put, zA, zB, zC])
    generalize (wz1.alloc (.cells #[.int .i64 0, .bool false, .int .i64 0, .string ⟨#[]⟩, .slice none 0 0, .slice none 0 0] 25)) = wz2 at *
    refine ryA [3] ?_
    refine rA1 fun K hK => ?_
    ·skip
     go_simp
     obtain ⟨Su, hSu, lu⟩ : ∃ Su : Nat → Prop, (∀ y, Su y → y < wz2.heap.size) ∧ (oneV ⟨#[97]⟩ n1V).lies false wz2 Su [.int .i64 uk, .bool ub, .int .i64 ui, .string us, .slice ual unl ucl, .slice uam unm ucm] := ⟨_, fun y hy => Nat.lt_of_lt_of_le hy.2 Auwz2.size, Gu.out wz2 Auwz2⟩
     have CA := apply_any (oneV ⟨#[97]⟩ n1V) aP (fun y => Su y ∨ y = w.heap.size + 1) _ _ wz2 (HTb.out _ Bwz2) (V.lies_keep (fun h => h) (fun _ _ => rfl) (fun y hy => .inl hy) _ lu) (V.lies_keep (fun h => h) (fun _ _ => rfl) (fun y hy => .inr hy) _ (HPl.out _ Bwz2)) (fun y hy => by rcases hy with hy | hy <;> first | exact hSu y hy | omega) (of_decide_eq_true (by kernel_rfl)) (of_decide_eq_true (by kernel_rfl))
     rw [aw_apl] at CA
     refine CA.mono ?_
     rintro e_ wz3 ⟨cs_, rfl, hlc, bc⟩
     clear CA lu hSu
     simp only at hlc
     obtain ⟨gk, gb, gi, gs, gal, gnl, gcl, gam, gnm, gcm, rfl⟩ := V.ten hlc
     have hltwz3 : wz2.heap.size ≤ wz3.heap.size := bc.size
     have mbwz3 := (bc.block (wz1.heap.size) (by omega)).trans mbwz2
     have Bwz3 : Below w3.heap.size w3 wz3 := Bwz2.trans (bc.mono (by omega))
     have Auwz3 : Below wz1.heap.size wz1 wz3 := Auwz2.trans (bc.mono (by omega))
     have l1wz3 : (oneV ⟨#[98]⟩ n1V).lies false wz3 (fun y => wz2.heap.size ≤ y ∧ y < wz3.heap.size) [.int .i64 gk, .bool gb, .int .i64 gi, .string gs, .slice gal gnl gcl, .slice gam gnm gcm] := hlc
     refine hK.out _ _ (HS.out _ Bwz3) (fun hHeld => ?_)
     clear hK K hlc bc
     (try simp only [Act.put, zA, zB, zC])
     (refine tjA 4 ?_; (try simp only [Act.put, zA, zB, zC]))
     (refine tjA 5 ?_; (try simp only [Act.put, zA, zB, zC]))
     (refine tjA 6 ?_; (try simp only [Act.put, zA, zB, zC]))
     have RM := one_mid Bwz3 (A := wz1.heap.size) (by omega) (by omega) (by omega) (by omega) mbwz3 l1wz3
     have hs_ := HS.out _ Bwz3
     have na0 : w.heap.size ≠ wz1.heap.size := by omega
     have na1 : w.heap.size + 2 ≠ wz1.heap.size := by omega
     have kb := mbwz3
     generalize wz1.heap.size = A_ at RM kb na0 na1 ⊢
     obtain ⟨p0, p1, p2, p3, p4, p5⟩ := sixC kb
     have fp := frozen_of_block kb
     have oA := six_o wz3 A_ (.int .i64 gk) (.bool gb) (.int .i64 gi) (.string gs) (.slice gal gnl gcl) (.slice gam gnm gcm)
     have u0_ := (oA _ na0).trans hs_.1
     have u1_ := (oA _ na1).trans hs_.2
     refine ryA [8] ?_
     refine rA1 fun K hK => ?_
     go_simp
     refine hK.out _ _ ⟨u0_, u1_⟩ (fun hHeld => ?_)
     clear hK K
     (try simp only [Act.put, zA, zB, zC])
     (refine tjA 9 ?_; (try simp only [Act.put, zA, zB, zC]))
     refine wpAnyH_done (by kernel_rfl) ?_ _
     (try dsimp only [Act.put, List.getElem_toArray, List.getElem_cons_succ, List.getElem_cons_zero, List.setIfInBounds_toArray, List.set_cons_zero, List.set_cons_succ])
     clear hHeld u0_ u1_ oA
     (try go_wp2_with fail)
     go_meet
     case rel => exact ⟨_, _, _, _, _, _, _, _, _, _, _, rfl, rfl, RM⟩
  ·skip
   have bz : Below w3d.heap.size w3d (w3d.alloc (.cells #[.int .i64 0, .bool false, .int .i64 0, .string ⟨#[]⟩, .slice none 0 0, .slice none 0 0] 25)) := (Below.refl _ _).alloc (Nat.le_refl _) _
   have hltwz1 : w3d.heap.size < (w3d.alloc (.cells #[.int .i64 0, .bool false, .int .i64 0, .string ⟨#[]⟩, .slice none 0 0, .slice none 0 0] 25)).heap.size := by rw [alloc_size]; omega
   have mbwz1 : (w3d.alloc (.cells #[.int .i64 0, .bool false, .int .i64 0, .string ⟨#[]⟩, .slice none 0 0, .slice none 0 0] 25)).heap[w3d.heap.size]? = some (.cells #[.int .i64 0, .bool false, .int .i64 0, .string ⟨#[]⟩, .slice none 0 0, .slice none 0 0] 25) := heap_alloc_new w3d (.cells #[.int .i64 0, .bool false, .int .i64 0, .string ⟨#[]⟩, .slice none 0 0, .slice none 0 0] 25)
   have Bwz1 : Below w3.heap.size w3 (w3d.alloc (.cells #[.int .i64 0, .bool false, .int .i64 0, .string ⟨#[]⟩, .slice none 0 0, .slice none 0 0] 25)) := Bw3d.trans (bz.mono (by omega))
   go_simp
   refine hK.out _ _ (HS.out _ Bwz1) (fun hHeld => ?_)
   clear hK K bz
   (try simp only [Act.put, zA, zB, zC])
   generalize (w3d.alloc (.cells #[.int .i64 0, .bool false, .int .i64 0, .string ⟨#[]⟩, .slice none 0 0, .slice none 0 0] 25)) = wz1 at *
   refine ryA [1] ?_
   refine rA1 fun K hK => ?_
   ·skip
    go_simp
    refine (one_any ⟨#[97]⟩ n1V (fun _ => False) _ wz1 (by decide) (n1_lies _ _) (fun _ h => h.elim)).mono ?_
    rintro e_ wz2 ⟨cs_, rfl, hlc, bc⟩
    obtain ⟨uk, ub, ui, us, ual, unl, ucl, uam, unm, ucm, rfl⟩ := V.ten hlc
    have Gu : Hid (∀ W, Below wz2.heap.size wz2 W → (oneV ⟨#[97]⟩ n1V).lies false W (fun y => wz1.heap.size ≤ y ∧ y < wz2.heap.size) [.int .i64 uk, .bool ub, .int .i64 ui, .string us, .slice ual unl ucl, .slice uam unm ucm]) := fun W hb => V.lies_keep (fun h => h) (fun x hx => hb.block x (hx.elim (fun h => h.elim) (fun h => h.2))) (fun x hx => hx.elim (fun h => h.elim) (fun h => h)) _ hlc
    have hltwz2 : wz1.heap.size ≤ wz2.heap.size := bc.size
    have mbwz2 := (bc.block (w3d.heap.size) (by omega)).trans mbwz1
    have Bwz2 : Below w3.heap.size w3 wz2 := Bwz1.trans (bc.mono (by omega))
    have Auwz2 : Below wz2.heap.size wz2 wz2 := Below.refl _ _
    refine hK.out _ _ (HS.out _ Bwz2) (fun hHeld => ?_)
    clear hK K hlc bc
    (try simp only [Act.put, zA, zB, zC])
    refine ryA [3] ?_
    refine rA1 fun K hK => ?_
    ·skip
     go_simp
     obtain ⟨Su, hSu, lu⟩ : ∃ Su : Nat → Prop, (∀ y, Su y → y < wz2.heap.size) ∧ (oneV ⟨#[97]⟩ n1V).lies false wz2 Su [.int .i64 uk, .bool ub, .int .i64 ui, .string us, .slice ual unl ucl, .slice uam unm ucm] := ⟨_, fun y hy => Nat.lt_of_lt_of_le hy.2 Auwz2.size, Gu.out wz2 Auwz2⟩
     have CA := apply_any (oneV ⟨#[97]⟩ n1V) aP (fun y => Su y ∨ y = w.heap.size + 1) _ _ wz2 (HTb.out _ Bwz2) (V.lies_keep (fun h => h) (fun _ _ => rfl) (fun y hy => .inl hy) _ lu) (V.lies_keep (fun h => h) (fun _ _ => rfl) (fun y hy => .inr hy) _ (HPl.out _ Bwz2)) (fun y hy => by rcases hy with hy | hy <;> first | exact hSu y hy | omega) (of_decide_eq_true (by kernel_rfl)) (of_decide_eq_true (by kernel_rfl))
     rw [aw_apl] at CA
     refine CA.mono ?_
     rintro e_ wz3 ⟨cs_, rfl, hlc, bc⟩
     clear CA lu hSu
     simp only at hlc
     obtain ⟨gk, gb, gi, gs, gal, gnl, gcl, gam, gnm, gcm, rfl⟩ := V.ten hlc
     have hltwz3 : wz2.heap.size ≤ wz3.heap.size := bc.size
     have mbwz3 := (bc.block (w3d.heap.size) (by omega)).trans mbwz2
     have Bwz3 : Below w3.heap.size w3 wz3 := Bwz2.trans (bc.mono (by omega))
     have Auwz3 : Below wz2.heap.size wz2 wz3 := Auwz2.trans (bc.mono (by omega))
     have l1wz3 : (oneV ⟨#[98]⟩ n1V).lies false wz3 (fun y => wz2.heap.size ≤ y ∧ y < wz3.heap.size) [.int .i64 gk, .bool gb, .int .i64 gi, .string gs, .slice gal gnl gcl, .slice gam gnm gcm] := hlc
     refine hK.out _ _ (HS.out _ Bwz3) (fun hHeld => ?_)
     clear hK K hlc bc
     (try simp only [Act.put, zA, zB, zC])
     (refine tjA 4 ?_; (try simp only [Act.put, zA, zB, zC]))
     (refine tjA 5 ?_; (try simp only [Act.put, zA, zB, zC]))
     (refine tjA 6 ?_; (try simp only [Act.put, zA, zB, zC]))
     have RM := one_mid Bwz3 (A := w3d.heap.size) (by omega) (by omega) (by omega) (by omega) mbwz3 l1wz3
     have hs_ := HS.out _ Bwz3
     have na0 : w.heap.size ≠ w3d.heap.size := by omega
     have na1 : w.heap.size + 2 ≠ w3d.heap.size := by omega
     have kb := mbwz3
     generalize w3d.heap.size = A_ at RM kb na0 na1 ⊢
     obtain ⟨p0, p1, p2, p3, p4, p5⟩ := sixC kb
     have fp := frozen_of_block kb
     have oA := six_o wz3 A_ (.int .i64 gk) (.bool gb) (.int .i64 gi) (.string gs) (.slice gal gnl gcl) (.slice gam gnm gcm)
     have u0_ := (oA _ na0).trans hs_.1
     have u1_ := (oA _ na1).trans hs_.2
     refine ryA [8] ?_
     refine rA1 fun K hK => ?_
     go_simp
     refine hK.out _ _ ⟨u0_, u1_⟩ (fun hHeld => ?_)
     clear hK K
     (try simp only [Act.put, zA, zB, zC])
     (refine tjA 9 ?_; (try simp only [Act.put, zA, zB, zC]))
     refine wpAnyH_done (by kernel_rfl) ?_ _
     (try dsimp only [Act.put, List.getElem_toArray, List.getElem_cons_succ, List.getElem_cons_zero, List.setIfInBounds_toArray, List.set_cons_zero, List.set_cons_succ])
     clear hHeld u0_ u1_ oA
     (try go_wp2_with fail)
     go_meet
     case rel => exact ⟨_, _, _, _, _, _, _, _, _, _, _, rfl, rfl, RM⟩
 case rest =>
  rename World => wk
  obtain ⟨A3, fk, fb, fi, fs, fal, fnl, fcl, fam, fnm, fcm, rfl, rfl, M3⟩ := hcut
  have hwk := M3.bel.size
  have HS4 : Hid (∀ X, Below wk.heap.size wk X → X.heap[w.heap.size]? = some (.cells #[.int .i64 2, .bool false, .int .i64 1, .string ⟨#[]⟩, .slice none 0 0, .slice none 0 0] 25) ∧ X.heap[w.heap.size + 2]? = some (.cells #[.int .i64 5, .bool false, .int .i64 0, .string ⟨#[]⟩, .slice none 0 0, .slice (some ⟨w.heap.size + 1, 0, none⟩) 2 2] 25)) := fun X hb => HS.out X (M3.bel.trans (hb.mono hwk))
  have HPl4 : Hid (∀ X, Below wk.heap.size wk X → aP.lies false X (fun b => b = w.heap.size + 1) [.int .i64 5, .bool false, .int .i64 0, .string ⟨#[]⟩, .slice none 0 0, .slice (some ⟨w.heap.size + 1, 0, none⟩) 2 2]) := fun X hb => HPl.out X (M3.bel.trans (hb.mono hwk))
  have HTb4 : Hid (∀ X, Below wk.heap.size wk X → Tb X) := fun X hb => HTb.out X (M3.bel.trans (hb.mono hwk))
  have HEb4 : Hid (∀ X, Below wk.heap.size wk X → ErrAt low X) := fun X hb => HEb.out X (M3.bel.trans (hb.mono hwk))
  have HA3 : Hid (∀ X, Below wk.heap.size wk X → X.heap[A3]? = some (.cells #[.int .i64 fk, .bool fb, .int .i64 fi, .string fs, .slice fal fnl fcl, .slice fam fnm fcm] 25) ∧ (oneV ⟨#[98]⟩ n1V).lies false X (New w3 wk) [.int .i64 fk, .bool fb, .int .i64 fi, .string fs, .slice fal fnl fcl, .slice fam fnm fcm]) := fun X hb => ⟨(hb.block _ M3.lo.2).trans M3.bA, V.lies_keep (fun h => h) (fun y hy => hb.block y hy.2) (fun _ h => h) _ M3.l1⟩
  have hA3 := M3.lo
  have Bwk := Bw3.trans (M3.bel.mono (by omega))
  clear M3 HS HPl HTb HEb B0
  rename Hid (∀ X, Below wk.heap.size wk X → X.heap[w.heap.size]? = some (.cells #[.int .i64 2, .bool false, .int .i64 1, .string ⟨#[]⟩, .slice none 0 0, .slice none 0 0] 25) ∧ X.heap[w.heap.size + 2]? = some (.cells #[.int .i64 5, .bool false, .int .i64 0, .string ⟨#[]⟩, .slice none 0 0, .slice (some ⟨w.heap.size + 1, 0, none⟩) 2 2] 25)) => HS
  rename Hid (∀ X, Below wk.heap.size wk X → Tb X) => HTb
  rename Hid (∀ X, Below wk.heap.size wk X → ErrAt low X) => HEb
  have B0 : Below wk.heap.size wk wk.drew := (Below.refl _ _).drew
  go_wp2_with fail
  go_cut [5, 6, 7] (fun e5 e6 e7 wx => ∃ (A_ : Nat) (gk : Int) (gb : Bool) (gi : Int) (gs : ByteArray) (gal : Option Addr) (gnl gcl : Nat) (gam : Option Addr) (gnm gcm : Nat), e5 = .pointer (some ⟨A_, 0, none⟩) ∧ e6 = .bool true ∧ e7 = .int .i64 0 ∧ OneMid aP wk wx A_ gk gb gi gs gal gnl gcl gam gnm gcm)
  case first =>
   refine wp_region_held_drew (S := (fun X => X.heap[w.heap.size]? = some (.cells #[.int .i64 2, .bool false, .int .i64 1, .string ⟨#[]⟩, .slice none 0 0, .slice none 0 0] 25) ∧ X.heap[w.heap.size + 2]? = some (.cells #[.int .i64 5, .bool false, .int .i64 0, .string ⟨#[]⟩, .slice none 0 0, .slice (some ⟨w.heap.size + 1, 0, none⟩) 2 2] 25))) (by kernel_rfl) (HS.out _ B0) (fun hHeld => ?_)
   (refine tkA 0 ?_ ?_ ?_; rotate_left 1; (intro W0 hSw; (have o0 : W0.cell? ⟨w.heap.size, 0, none⟩ = some (.int .i64 2) := (by rw [cell_of_block hSw.1]; rfl); have o1 : W0.cell? ⟨w.heap.size, 1, none⟩ = some (.bool false) := (by rw [cell_of_block hSw.1]; rfl); have o2 : W0.cell? ⟨w.heap.size, 2, none⟩ = some (.int .i64 1) := (by rw [cell_of_block hSw.1]; rfl); have o3 : W0.cell? ⟨w.heap.size, 3, none⟩ = some (.string ⟨#[]⟩) := (by rw [cell_of_block hSw.1]; rfl); have o4 : W0.cell? ⟨w.heap.size, 4, none⟩ = some (.slice none 0 0) := (by rw [cell_of_block hSw.1]; rfl); have o5 : W0.cell? ⟨w.heap.size, 5, none⟩ = some (.slice none 0 0) := (by rw [cell_of_block hSw.1]; rfl)); go_simp; (try with_reducible rfl)); (try simp only [Act.put, zA, zB, zC]))
   (refine tkA 2 ?_ ?_ ?_; rotate_left 1; (intro W0 hSw; (have o0 : W0.cell? ⟨w.heap.size, 0, none⟩ = some (.int .i64 2) := (by rw [cell_of_block hSw.1]; rfl); have o1 : W0.cell? ⟨w.heap.size, 1, none⟩ = some (.bool false) := (by rw [cell_of_block hSw.1]; rfl); have o2 : W0.cell? ⟨w.heap.size, 2, none⟩ = some (.int .i64 1) := (by rw [cell_of_block hSw.1]; rfl); have o3 : W0.cell? ⟨w.heap.size, 3, none⟩ = some (.string ⟨#[]⟩) := (by rw [cell_of_block hSw.1]; rfl); have o4 : W0.cell? ⟨w.heap.size, 4, none⟩ = some (.slice none 0 0) := (by rw [cell_of_block hSw.1]; rfl); have o5 : W0.cell? ⟨w.heap.size, 5, none⟩ = some (.slice none 0 0) := (by rw [cell_of_block hSw.1]; rfl)); go_simp; (try with_reducible rfl)); (try simp only [Act.put, zA, zB, zC]))
   have Bwkd : Below wk.heap.size wk wk.drew := (Below.refl _ _).drew
   generalize wk.drew = wkd at *
   have hltwkd := Bwkd.size
   refine ryA [1, 9] ?_
   refine rA2 (fun K hK => ?_) fun K hK => ?_
   ·skip
    go_simp
    refine (one_any ⟨#[97]⟩ n1V (fun _ => False) _ wkd (by decide) (n1_lies _ _) (fun _ h => h.elim)).mono ?_
    rintro e_ wz1 ⟨cs_, rfl, hlc, bc⟩
    obtain ⟨uk, ub, ui, us, ual, unl, ucl, uam, unm, ucm, rfl⟩ := V.ten hlc
    have Gu : Hid (∀ W, Below wz1.heap.size wz1 W → (oneV ⟨#[97]⟩ n1V).lies false W (fun y => wkd.heap.size ≤ y ∧ y < wz1.heap.size) [.int .i64 uk, .bool ub, .int .i64 ui, .string us, .slice ual unl ucl, .slice uam unm ucm]) := fun W hb => V.lies_keep (fun h => h) (fun x hx => hb.block x (hx.elim (fun h => h.elim) (fun h => h.2))) (fun x hx => hx.elim (fun h => h.elim) (fun h => h)) _ hlc
    have hltwz1 : wkd.heap.size ≤ wz1.heap.size := bc.size
    have Bwz1 : Below wk.heap.size wk wz1 := Bwkd.trans (bc.mono (by omega))
    have Auwz1 : Below wz1.heap.size wz1 wz1 := Below.refl _ _
    refine hK.out _ _ (HS.out _ Bwz1) (fun hHeld => ?_)
    clear hK K hlc bc
    (try simp only [Act.put, zA, zB, zC])
    refine ryA [3, 9] ?_
    refine rA2 (fun K hK => ?_) fun K hK => ?_
    ·skip
     go_simp
     refine (one_any ⟨#[98]⟩ n1V (fun _ => False) _ wz1 (by decide) (n1_lies _ _) (fun _ h => h.elim)).mono ?_
     rintro e_ wz2 ⟨cs_, rfl, hlc, bc⟩
     obtain ⟨vk, vb, vi, vs, val, vnl, vcl, vam, vnm, vcm, rfl⟩ := V.ten hlc
     have Gv : Hid (∀ W, Below wz2.heap.size wz2 W → (oneV ⟨#[98]⟩ n1V).lies false W (fun y => wz1.heap.size ≤ y ∧ y < wz2.heap.size) [.int .i64 vk, .bool vb, .int .i64 vi, .string vs, .slice val vnl vcl, .slice vam vnm vcm]) := fun W hb => V.lies_keep (fun h => h) (fun x hx => hb.block x (hx.elim (fun h => h.elim) (fun h => h.2))) (fun x hx => hx.elim (fun h => h.elim) (fun h => h)) _ hlc
     have hltwz2 : wz1.heap.size ≤ wz2.heap.size := bc.size
     have Bwz2 : Below wk.heap.size wk wz2 := Bwz1.trans (bc.mono (by omega))
     have Auwz2 : Below wz1.heap.size wz1 wz2 := Auwz1.trans (bc.mono (by omega))
     have Avwz2 : Below wz2.heap.size wz2 wz2 := Below.refl _ _
     refine hK.out _ _ (HS.out _ Bwz2) (fun hHeld => ?_)
     clear hK K hlc bc
     (try simp only [Act.put, zA, zB, zC])
     refine ryA [4, 9] ?_
     refine rA2 (fun K hK => ?_) fun K hK => ?_
     ·skip
      go_simp
      obtain ⟨Su, hSu, lu⟩ : ∃ Su : Nat → Prop, (∀ y, Su y → y < wz2.heap.size) ∧ (oneV ⟨#[97]⟩ n1V).lies false wz2 Su [.int .i64 uk, .bool ub, .int .i64 ui, .string us, .slice ual unl ucl, .slice uam unm ucm] := ⟨_, fun y hy => Nat.lt_of_lt_of_le hy.2 Auwz2.size, Gu.out wz2 Auwz2⟩
      obtain ⟨Sv, hSv, lv⟩ : ∃ Su : Nat → Prop, (∀ y, Su y → y < wz2.heap.size) ∧ (oneV ⟨#[98]⟩ n1V).lies false wz2 Su [.int .i64 vk, .bool vb, .int .i64 vi, .string vs, .slice val vnl vcl, .slice vam vnm vcm] := ⟨_, fun y hy => Nat.lt_of_lt_of_le hy.2 Avwz2.size, Gv.out wz2 Avwz2⟩
      refine (diff_twoE low ⟨#[97]⟩ ⟨#[98]⟩ n1V n1V (fun y => Su y ∨ Sv y) _ _ wz2 (HTb.out _ Bwz2) (HEb.out _ Bwz2) aw_lt aw_cln aw_both aw_chk (of_decide_eq_true (by kernel_rfl)) (of_decide_eq_true (by kernel_rfl)) (V.lies_keep (fun h => h) (fun _ _ => rfl) (fun y hy => .inl hy) _ lu) (V.lies_keep (fun h => h) (fun _ _ => rfl) (fun y hy => .inr hy) _ lv) (fun y hy => by rcases hy with hy | hy <;> first | exact hSu y hy | exact hSv y hy)).mono ?_
      rintro e_ wz3 ⟨cs_, rfl, hlc, bc⟩
      clear lu hSu lv hSv
      obtain ⟨gk, gb, gi, gs, gal, gnl, gcl, gam, gnm, gcm, rfl⟩ := V.ten hlc
      have hltwz3 : wz2.heap.size ≤ wz3.heap.size := bc.size
      have Bwz3 : Below wk.heap.size wk wz3 := Bwz2.trans (bc.mono (by omega))
      have Auwz3 : Below wz1.heap.size wz1 wz3 := Auwz2.trans (bc.mono (by omega))
      have Avwz3 : Below wz2.heap.size wz2 wz3 := Avwz2.trans (bc.mono (by omega))
      have l1wz3 : aP.lies false wz3 (fun y => wz2.heap.size ≤ y ∧ y < wz3.heap.size) [.int .i64 gk, .bool gb, .int .i64 gi, .string gs, .slice gal gnl gcl, .slice gam gnm gcm] := hlc
      refine hK.out _ _ (HS.out _ Bwz3) (fun hHeld => ?_)
      clear hK K hlc bc
      (try simp only [Act.put, zA, zB, zC])
      (refine tjA 5 ?_; (try simp only [Act.put, zA, zB, zC]))
      (refine tjA 6 ?_; (try simp only [Act.put, zA, zB, zC]))
      (refine tjA 7 ?_; (try simp only [Act.put, zA, zB, zC]))
      (refine tjA 8 ?_; (try simp only [Act.put, zA, zB, zC]))
      refine ryA [9] ?_
      refine rA1 fun K hK => ?_
      ·skip
       have bz : Below wz3.heap.size wz3 (wz3.alloc (.cells #[.int .i64 0, .bool false, .int .i64 0, .string ⟨#[]⟩, .slice none 0 0, .slice none 0 0] 25)) := (Below.refl _ _).alloc (Nat.le_refl _) _
       have hltwz4 : wz3.heap.size < (wz3.alloc (.cells #[.int .i64 0, .bool false, .int .i64 0, .string ⟨#[]⟩, .slice none 0 0, .slice none 0 0] 25)).heap.size := by rw [alloc_size]; omega
       have mbwz4 : (wz3.alloc (.cells #[.int .i64 0, .bool false, .int .i64 0, .string ⟨#[]⟩, .slice none 0 0, .slice none 0 0] 25)).heap[wz3.heap.size]? = some (.cells #[.int .i64 0, .bool false, .int .i64 0, .string ⟨#[]⟩, .slice none 0 0, .slice none 0 0] 25) := heap_alloc_new wz3 (.cells #[.int .i64 0, .bool false, .int .i64 0, .string ⟨#[]⟩, .slice none 0 0, .slice none 0 0] 25)
       have Bwz4 : Below wk.heap.size wk (wz3.alloc (.cells #[.int .i64 0, .bool false, .int .i64 0, .string ⟨#[]⟩, .slice none 0 0, .slice none 0 0] 25)) := Bwz3.trans (bz.mono (by omega))
       have Auwz4 : Below wz1.heap.size wz1 (wz3.alloc (.cells #[.int .i64 0, .bool false, .int .i64 0, .string ⟨#[]⟩, .slice none 0 0, .slice none 0 0] 25)) := Auwz3.trans (bz.mono (by omega))
       have Avwz4 : Below wz2.heap.size wz2 (wz3.alloc (.cells #[.int .i64 0, .bool false, .int .i64 0, .string ⟨#[]⟩, .slice none 0 0, .slice none 0 0] 25)) := Avwz3.trans (bz.mono (by omega))
       have l1wz4 : aP.lies false (wz3.alloc (.cells #[.int .i64 0, .bool false, .int .i64 0, .string ⟨#[]⟩, .slice none 0 0, .slice none 0 0] 25)) (fun y => wz2.heap.size ≤ y ∧ y < wz3.heap.size) [.int .i64 gk, .bool gb, .int .i64 gi, .string gs, .slice gal gnl gcl, .slice gam gnm gcm] := V.lies_keep (fun h => h) (fun y hy => bz.block y (by omega)) (fun _ h => h) _ l1wz3
       go_simp
       refine hK.out _ _ (HS.out _ Bwz4) (fun hHeld => ?_)
       clear hK K bz
       (try simp only [Act.put, zA, zB, zC])
       generalize (wz3.alloc (.cells #[.int .i64 0, .bool false, .int .i64 0, .string ⟨#[]⟩, .slice none 0 0, .slice none 0 0] 25)) = wz4 at *
       have RM := one_mid Bwz4 (A := wz3.heap.size) (by omega) (by omega) (by omega) (by omega) mbwz4 l1wz4
       have hs_ := HS.out _ Bwz4
       have na0 : w.heap.size ≠ wz3.heap.size := by omega
       have na1 : w.heap.size + 2 ≠ wz3.heap.size := by omega
       have kb := mbwz4
       generalize wz3.heap.size = A_ at RM kb na0 na1 ⊢
       obtain ⟨p0, p1, p2, p3, p4, p5⟩ := sixC kb
       have fp := frozen_of_block kb
       have oA := six_o wz4 A_ (.int .i64 gk) (.bool gb) (.int .i64 gi) (.string gs) (.slice gal gnl gcl) (.slice gam gnm gcm)
       have u0_ := (oA _ na0).trans hs_.1
       have u1_ := (oA _ na1).trans hs_.2
       refine ryA [10] ?_
       refine rA1 fun K hK => ?_
       go_simp
       refine hK.out _ _ ⟨u0_, u1_⟩ (fun hHeld => ?_)
       clear hK K
       (try simp only [Act.put, zA, zB, zC])
       (refine tjA 11 ?_; (try simp only [Act.put, zA, zB, zC]))
       (refine tjA 12 ?_; (try simp only [Act.put, zA, zB, zC]))
       refine wpAnyH_done (by kernel_rfl) ?_ _
       (try dsimp only [Act.put, List.getElem_toArray, List.getElem_cons_succ, List.getElem_cons_zero, List.setIfInBounds_toArray, List.set_cons_zero, List.set_cons_succ])
       clear hHeld u0_ u1_ oA
       (try go_wp2_with fail)
       go_meet
       case rel => exact ⟨_, _, _, _, _, _, _, _, _, _, _, rfl, rfl, rfl, RM⟩
     ·skip
      have bz : Below wz2.heap.size wz2 (wz2.alloc (.cells #[.int .i64 0, .bool false, .int .i64 0, .string ⟨#[]⟩, .slice none 0 0, .slice none 0 0] 25)) := (Below.refl _ _).alloc (Nat.le_refl _) _
      have hltwz3 : wz2.heap.size < (wz2.alloc (.cells #[.int .i64 0, .bool false, .int .i64 0, .string ⟨#[]⟩, .slice none 0 0, .slice none 0 0] 25)).heap.size := by rw [alloc_size]; omega
      have mbwz3 : (wz2.alloc (.cells #[.int .i64 0, .bool false, .int .i64 0, .string ⟨#[]⟩, .slice none 0 0, .slice none 0 0] 25)).heap[wz2.heap.size]? = some (.cells #[.int .i64 0, .bool false, .int .i64 0, .string ⟨#[]⟩, .slice none 0 0, .slice none 0 0] 25) := heap_alloc_new wz2 (.cells #[.int .i64 0, .bool false, .int .i64 0, .string ⟨#[]⟩, .slice none 0 0, .slice none 0 0] 25)
      have Bwz3 : Below wk.heap.size wk (wz2.alloc (.cells #[.int .i64 0, .bool false, .int .i64 0, .string ⟨#[]⟩, .slice none 0 0, .slice none 0 0] 25)) := Bwz2.trans (bz.mono (by omega))
      have Auwz3 : Below wz1.heap.size wz1 (wz2.alloc (.cells #[.int .i64 0, .bool false, .int .i64 0, .string ⟨#[]⟩, .slice none 0 0, .slice none 0 0] 25)) := Auwz2.trans (bz.mono (by omega))
      have Avwz3 : Below wz2.heap.size wz2 (wz2.alloc (.cells #[.int .i64 0, .bool false, .int .i64 0, .string ⟨#[]⟩, .slice none 0 0, .slice none 0 0] 25)) := Avwz2.trans (bz.mono (by omega))
      go_simp
      refine hK.out _ _ (HS.out _ Bwz3) (fun hHeld => ?_)
      clear hK K bz
      (try simp only [Act.put, zA, zB, zC])
      generalize (wz2.alloc (.cells #[.int .i64 0, .bool false, .int .i64 0, .string ⟨#[]⟩, .slice none 0 0, .slice none 0 0] 25)) = wz3 at *
      refine ryA [4] ?_
      refine rA1 fun K hK => ?_
      ·skip
       go_simp
       obtain ⟨Su, hSu, lu⟩ : ∃ Su : Nat → Prop, (∀ y, Su y → y < wz3.heap.size) ∧ (oneV ⟨#[97]⟩ n1V).lies false wz3 Su [.int .i64 uk, .bool ub, .int .i64 ui, .string us, .slice ual unl ucl, .slice uam unm ucm] := ⟨_, fun y hy => Nat.lt_of_lt_of_le hy.2 Auwz3.size, Gu.out wz3 Auwz3⟩
       obtain ⟨Sv, hSv, lv⟩ : ∃ Su : Nat → Prop, (∀ y, Su y → y < wz3.heap.size) ∧ (oneV ⟨#[98]⟩ n1V).lies false wz3 Su [.int .i64 vk, .bool vb, .int .i64 vi, .string vs, .slice val vnl vcl, .slice vam vnm vcm] := ⟨_, fun y hy => Nat.lt_of_lt_of_le hy.2 Avwz3.size, Gv.out wz3 Avwz3⟩
       refine (diff_twoE low ⟨#[97]⟩ ⟨#[98]⟩ n1V n1V (fun y => Su y ∨ Sv y) _ _ wz3 (HTb.out _ Bwz3) (HEb.out _ Bwz3) aw_lt aw_cln aw_both aw_chk (of_decide_eq_true (by kernel_rfl)) (of_decide_eq_true (by kernel_rfl)) (V.lies_keep (fun h => h) (fun _ _ => rfl) (fun y hy => .inl hy) _ lu) (V.lies_keep (fun h => h) (fun _ _ => rfl) (fun y hy => .inr hy) _ lv) (fun y hy => by rcases hy with hy | hy <;> first | exact hSu y hy | exact hSv y hy)).mono ?_
       rintro e_ wz4 ⟨cs_, rfl, hlc, bc⟩
       clear lu hSu lv hSv
       obtain ⟨gk, gb, gi, gs, gal, gnl, gcl, gam, gnm, gcm, rfl⟩ := V.ten hlc
       have hltwz4 : wz3.heap.size ≤ wz4.heap.size := bc.size
       have mbwz4 := (bc.block (wz2.heap.size) (by omega)).trans mbwz3
       have Bwz4 : Below wk.heap.size wk wz4 := Bwz3.trans (bc.mono (by omega))
       have Auwz4 : Below wz1.heap.size wz1 wz4 := Auwz3.trans (bc.mono (by omega))
       have Avwz4 : Below wz2.heap.size wz2 wz4 := Avwz3.trans (bc.mono (by omega))
       have l1wz4 : aP.lies false wz4 (fun y => wz3.heap.size ≤ y ∧ y < wz4.heap.size) [.int .i64 gk, .bool gb, .int .i64 gi, .string gs, .slice gal gnl gcl, .slice gam gnm gcm] := hlc
       refine hK.out _ _ (HS.out _ Bwz4) (fun hHeld => ?_)
       clear hK K hlc bc
       (try simp only [Act.put, zA, zB, zC])
       (refine tjA 5 ?_; (try simp only [Act.put, zA, zB, zC]))
       (refine tjA 6 ?_; (try simp only [Act.put, zA, zB, zC]))
       (refine tjA 7 ?_; (try simp only [Act.put, zA, zB, zC]))
       (refine tjA 8 ?_; (try simp only [Act.put, zA, zB, zC]))
       have RM := one_mid Bwz4 (A := wz2.heap.size) (by omega) (by omega) (by omega) (by omega) mbwz4 l1wz4
       have hs_ := HS.out _ Bwz4
       have na0 : w.heap.size ≠ wz2.heap.size := by omega
       have na1 : w.heap.size + 2 ≠ wz2.heap.size := by omega
       have kb := mbwz4
       generalize wz2.heap.size = A_ at RM kb na0 na1 ⊢
       obtain ⟨p0, p1, p2, p3, p4, p5⟩ := sixC kb
       have fp := frozen_of_block kb
       have oA := six_o wz4 A_ (.int .i64 gk) (.bool gb) (.int .i64 gi) (.string gs) (.slice gal gnl gcl) (.slice gam gnm gcm)
       have u0_ := (oA _ na0).trans hs_.1
       have u1_ := (oA _ na1).trans hs_.2
       refine ryA [10] ?_
       refine rA1 fun K hK => ?_
       go_simp
       refine hK.out _ _ ⟨u0_, u1_⟩ (fun hHeld => ?_)
       clear hK K
       (try simp only [Act.put, zA, zB, zC])
       (refine tjA 11 ?_; (try simp only [Act.put, zA, zB, zC]))
       (refine tjA 12 ?_; (try simp only [Act.put, zA, zB, zC]))
       refine wpAnyH_done (by kernel_rfl) ?_ _
       (try dsimp only [Act.put, List.getElem_toArray, List.getElem_cons_succ, List.getElem_cons_zero, List.setIfInBounds_toArray, List.set_cons_zero, List.set_cons_succ])
       clear hHeld u0_ u1_ oA
       (try go_wp2_with fail)
       go_meet
       case rel => exact ⟨_, _, _, _, _, _, _, _, _, _, _, rfl, rfl, rfl, RM⟩
    ·skip
     have bz : Below wz1.heap.size wz1 (wz1.alloc (.cells #[.int .i64 0, .bool false, .int .i64 0, .string ⟨#[]⟩, .slice none 0 0, .slice none 0 0] 25)) := (Below.refl _ _).alloc (Nat.le_refl _) _
     have hltwz2 : wz1.heap.size < (wz1.alloc (.cells #[.int .i64 0, .bool false, .int .i64 0, .string ⟨#[]⟩, .slice none 0 0, .slice none 0 0] 25)).heap.size := by rw [alloc_size]; omega
     have mbwz2 : (wz1.alloc (.cells #[.int .i64 0, .bool false, .int .i64 0, .string ⟨#[]⟩, .slice none 0 0, .slice none 0 0] 25)).heap[wz1.heap.size]? = some (.cells #[.int .i64 0, .bool false, .int .i64 0, .string ⟨#[]⟩, .slice none 0 0, .slice none 0 0] 25) := heap_alloc_new wz1 (.cells #[.int .i64 0, .bool false, .int .i64 0, .string ⟨#[]⟩, .slice none 0 0, .slice none 0 0] 25)
     have Bwz2 : Below wk.heap.size wk (wz1.alloc (.cells #[.int .i64 0, .bool false, .int .i64 0, .string ⟨#[]⟩, .slice none 0 0, .slice none 0 0] 25)) := Bwz1.trans (bz.mono (by omega))
     have Auwz2 : Below wz1.heap.size wz1 (wz1.alloc (.cells #[.int .i64 0, .bool false, .int .i64 0, .string ⟨#[]⟩, .slice none 0 0, .slice none 0 0] 25)) := Auwz1.trans (bz.mono (by omega))
     go_simp
     refine hK.out _ _ (HS.out _ Bwz2) (fun hHeld => ?_)
     clear hK K bz
     (try simp only [Act.put, zA, zB, zC])
     generalize (wz1.alloc (.cells #[.int .i64 0, .bool false, .int .i64 0, .string ⟨#[]⟩, .slice none 0 0, .slice none 0 0] 25)) = wz2 at *
     refine ryA [3] ?_
     refine rA1 fun K hK => ?_
     ·skip
      go_simp
      refine (one_any ⟨#[98]⟩ n1V (fun _ => False) _ wz2 (by decide) (n1_lies _ _) (fun _ h => h.elim)).mono ?_
      rintro e_ wz3 ⟨cs_, rfl, hlc, bc⟩
      obtain ⟨vk, vb, vi, vs, val, vnl, vcl, vam, vnm, vcm, rfl⟩ := V.ten hlc
      have Gv : Hid (∀ W, Below wz3.heap.size wz3 W → (oneV ⟨#[98]⟩ n1V).lies false W (fun y => wz2.heap.size ≤ y ∧ y < wz3.heap.size) [.int .i64 vk, .bool vb, .int .i64 vi, .string vs, .slice val vnl vcl, .slice vam vnm vcm]) := fun W hb => V.lies_keep (fun h => h) (fun x hx => hb.block x (hx.elim (fun h => h.elim) (fun h => h.2))) (fun x hx => hx.elim (fun h => h.elim) (fun h => h)) _ hlc
      have hltwz3 : wz2.heap.size ≤ wz3.heap.size := bc.size
      have mbwz3 := (bc.block (wz1.heap.size) (by omega)).trans mbwz2
      have Bwz3 : Below wk.heap.size wk wz3 := Bwz2.trans (bc.mono (by omega))
      have Auwz3 : Below wz1.heap.size wz1 wz3 := Auwz2.trans (bc.mono (by omega))
      have Avwz3 : Below wz3.heap.size wz3 wz3 := Below.refl _ _
      refine hK.out _ _ (HS.out _ Bwz3) (fun hHeld => ?_)
      clear hK K hlc bc
      (try simp only [Act.put, zA, zB, zC])
      refine ryA [4] ?_
      refine rA1 fun K hK => ?_
      ·skip
       go_simp
       obtain ⟨Su, hSu, lu⟩ : ∃ Su : Nat → Prop, (∀ y, Su y → y < wz3.heap.size) ∧ (oneV ⟨#[97]⟩ n1V).lies false wz3 Su [.int .i64 uk, .bool ub, .int .i64 ui, .string us, .slice ual unl ucl, .slice uam unm ucm] := ⟨_, fun y hy => Nat.lt_of_lt_of_le hy.2 Auwz3.size, Gu.out wz3 Auwz3⟩
       obtain ⟨Sv, hSv, lv⟩ : ∃ Su : Nat → Prop, (∀ y, Su y → y < wz3.heap.size) ∧ (oneV ⟨#[98]⟩ n1V).lies false wz3 Su [.int .i64 vk, .bool vb, .int .i64 vi, .string vs, .slice val vnl vcl, .slice vam vnm vcm] := ⟨_, fun y hy => Nat.lt_of_lt_of_le hy.2 Avwz3.size, Gv.out wz3 Avwz3⟩
       refine (diff_twoE low ⟨#[97]⟩ ⟨#[98]⟩ n1V n1V (fun y => Su y ∨ Sv y) _ _ wz3 (HTb.out _ Bwz3) (HEb.out _ Bwz3) aw_lt aw_cln aw_both aw_chk (of_decide_eq_true (by kernel_rfl)) (of_decide_eq_true (by kernel_rfl)) (V.lies_keep (fun h => h) (fun _ _ => rfl) (fun y hy => .inl hy) _ lu) (V.lies_keep (fun h => h) (fun _ _ => rfl) (fun y hy => .inr hy) _ lv) (fun y hy => by rcases hy with hy | hy <;> first | exact hSu y hy | exact hSv y hy)).mono ?_
       rintro e_ wz4 ⟨cs_, rfl, hlc, bc⟩
       clear lu hSu lv hSv
       obtain ⟨gk, gb, gi, gs, gal, gnl, gcl, gam, gnm, gcm, rfl⟩ := V.ten hlc
       have hltwz4 : wz3.heap.size ≤ wz4.heap.size := bc.size
       have mbwz4 := (bc.block (wz1.heap.size) (by omega)).trans mbwz3
       have Bwz4 : Below wk.heap.size wk wz4 := Bwz3.trans (bc.mono (by omega))
       have Auwz4 : Below wz1.heap.size wz1 wz4 := Auwz3.trans (bc.mono (by omega))
       have Avwz4 : Below wz3.heap.size wz3 wz4 := Avwz3.trans (bc.mono (by omega))
       have l1wz4 : aP.lies false wz4 (fun y => wz3.heap.size ≤ y ∧ y < wz4.heap.size) [.int .i64 gk, .bool gb, .int .i64 gi, .string gs, .slice gal gnl gcl, .slice gam gnm gcm] := hlc
       refine hK.out _ _ (HS.out _ Bwz4) (fun hHeld => ?_)
       clear hK K hlc bc
       (try simp only [Act.put, zA, zB, zC])
       (refine tjA 5 ?_; (try simp only [Act.put, zA, zB, zC]))
       (refine tjA 6 ?_; (try simp only [Act.put, zA, zB, zC]))
       (refine tjA 7 ?_; (try simp only [Act.put, zA, zB, zC]))
       (refine tjA 8 ?_; (try simp only [Act.put, zA, zB, zC]))
       have RM := one_mid Bwz4 (A := wz1.heap.size) (by omega) (by omega) (by omega) (by omega) mbwz4 l1wz4
       have hs_ := HS.out _ Bwz4
       have na0 : w.heap.size ≠ wz1.heap.size := by omega
       have na1 : w.heap.size + 2 ≠ wz1.heap.size := by omega
       have kb := mbwz4
       generalize wz1.heap.size = A_ at RM kb na0 na1 ⊢
       obtain ⟨p0, p1, p2, p3, p4, p5⟩ := sixC kb
       have fp := frozen_of_block kb
       have oA := six_o wz4 A_ (.int .i64 gk) (.bool gb) (.int .i64 gi) (.string gs) (.slice gal gnl gcl) (.slice gam gnm gcm)
       have u0_ := (oA _ na0).trans hs_.1
       have u1_ := (oA _ na1).trans hs_.2
       refine ryA [10] ?_
       refine rA1 fun K hK => ?_
       go_simp
       refine hK.out _ _ ⟨u0_, u1_⟩ (fun hHeld => ?_)
       clear hK K
       (try simp only [Act.put, zA, zB, zC])
       (refine tjA 11 ?_; (try simp only [Act.put, zA, zB, zC]))
       (refine tjA 12 ?_; (try simp only [Act.put, zA, zB, zC]))
       refine wpAnyH_done (by kernel_rfl) ?_ _
       (try dsimp only [Act.put, List.getElem_toArray, List.getElem_cons_succ, List.getElem_cons_zero, List.setIfInBounds_toArray, List.set_cons_zero, List.set_cons_succ])
       clear hHeld u0_ u1_ oA
       (try go_wp2_with fail)
       go_meet
       case rel => exact ⟨_, _, _, _, _, _, _, _, _, _, _, rfl, rfl, rfl, RM⟩
   ·skip
    have bz : Below wkd.heap.size wkd (wkd.alloc (.cells #[.int .i64 0, .bool false, .int .i64 0, .string ⟨#[]⟩, .slice none 0 0, .slice none 0 0] 25)) := (Below.refl _ _).alloc (Nat.le_refl _) _
    have hltwz1 : wkd.heap.size < (wkd.alloc (.cells #[.int .i64 0, .bool false, .int .i64 0, .string ⟨#[]⟩, .slice none 0 0, .slice none 0 0] 25)).heap.size := by rw [alloc_size]; omega
    have mbwz1 : (wkd.alloc (.cells #[.int .i64 0, .bool false, .int .i64 0, .string ⟨#[]⟩, .slice none 0 0, .slice none 0 0] 25)).heap[wkd.heap.size]? = some (.cells #[.int .i64 0, .bool false, .int .i64 0, .string ⟨#[]⟩, .slice none 0 0, .slice none 0 0] 25) := heap_alloc_new wkd (.cells #[.int .i64 0, .bool false, .int .i64 0, .string ⟨#[]⟩, .slice none 0 0, .slice none 0 0] 25)
    have Bwz1 : Below wk.heap.size wk (wkd.alloc (.cells #[.int .i64 0, .bool false, .int .i64 0, .string ⟨#[]⟩, .slice none 0 0, .slice none 0 0] 25)) := Bwkd.trans (bz.mono (by omega))
    go_simp
    refine hK.out _ _ (HS.out _ Bwz1) (fun hHeld => ?_)
    clear hK K bz
    (try simp only [Act.put, zA, zB, zC])
    generalize (wkd.alloc (.cells #[.int .i64 0, .bool false, .int .i64 0, .string ⟨#[]⟩, .slice none 0 0, .slice none 0 0] 25)) = wz1 at *
    refine ryA [1] ?_
    refine rA1 fun K hK => ?_
    ·skip
     go_simp
     refine (one_any ⟨#[97]⟩ n1V (fun _ => False) _ wz1 (by decide) (n1_lies _ _) (fun _ h => h.elim)).mono ?_
     rintro e_ wz2 ⟨cs_, rfl, hlc, bc⟩
     obtain ⟨uk, ub, ui, us, ual, unl, ucl, uam, unm, ucm, rfl⟩ := V.ten hlc
     have Gu : Hid (∀ W, Below wz2.heap.size wz2 W → (oneV ⟨#[97]⟩ n1V).lies false W (fun y => wz1.heap.size ≤ y ∧ y < wz2.heap.size) [.int .i64 uk, .bool ub, .int .i64 ui, .string us, .slice ual unl ucl, .slice uam unm ucm]) := fun W hb => V.lies_keep (fun h => h) (fun x hx => hb.block x (hx.elim (fun h => h.elim) (fun h => h.2))) (fun x hx => hx.elim (fun h => h.elim) (fun h => h)) _ hlc
     have hltwz2 : wz1.heap.size ≤ wz2.heap.size := bc.size
     have mbwz2 := (bc.block (wkd.heap.size) (by omega)).trans mbwz1
     have Bwz2 : Below wk.heap.size wk wz2 := Bwz1.trans (bc.mono (by omega))
     have Auwz2 : Below wz2.heap.size wz2 wz2 := Below.refl _ _
     refine hK.out _ _ (HS.out _ Bwz2) (fun hHeld => ?_)
     clear hK K hlc bc
     (try simp only [Act.put, zA, zB, zC])
     refine ryA [3] ?_
     refine rA1 fun K hK => ?_
     ·skip
      go_simp
      refine (one_any ⟨#[98]⟩ n1V (fun _ => False) _ wz2 (by decide) (n1_lies _ _) (fun _ h => h.elim)).mono ?_
      rintro e_ wz3 ⟨cs_, rfl, hlc, bc⟩
      obtain ⟨vk, vb, vi, vs, val, vnl, vcl, vam, vnm, vcm, rfl⟩ := V.ten hlc
      have Gv : Hid (∀ W, Below wz3.heap.size wz3 W → (oneV ⟨#[98]⟩ n1V).lies false W (fun y => wz2.heap.size ≤ y ∧ y < wz3.heap.size) [.int .i64 vk, .bool vb, .int .i64 vi, .string vs, .slice val vnl vcl, .slice vam vnm vcm]) := fun W hb => V.lies_keep (fun h => h) (fun x hx => hb.block x (hx.elim (fun h => h.elim) (fun h => h.2))) (fun x hx => hx.elim (fun h => h.elim) (fun h => h)) _ hlc
      have hltwz3 : wz2.heap.size ≤ wz3.heap.size := bc.size
      have mbwz3 := (bc.block (wkd.heap.size) (by omega)).trans mbwz2
      have Bwz3 : Below wk.heap.size wk wz3 := Bwz2.trans (bc.mono (by omega))
      have Auwz3 : Below wz2.heap.size wz2 wz3 := Auwz2.trans (bc.mono (by omega))
      have Avwz3 : Below wz3.heap.size wz3 wz3 := Below.refl _ _
      refine hK.out _ _ (HS.out _ Bwz3) (fun hHeld => ?_)
      clear hK K hlc bc
      (try simp only [Act.put, zA, zB, zC])
      refine ryA [4] ?_
      refine rA1 fun K hK => ?_
      ·skip
       go_simp
       obtain ⟨Su, hSu, lu⟩ : ∃ Su : Nat → Prop, (∀ y, Su y → y < wz3.heap.size) ∧ (oneV ⟨#[97]⟩ n1V).lies false wz3 Su [.int .i64 uk, .bool ub, .int .i64 ui, .string us, .slice ual unl ucl, .slice uam unm ucm] := ⟨_, fun y hy => Nat.lt_of_lt_of_le hy.2 Auwz3.size, Gu.out wz3 Auwz3⟩
       obtain ⟨Sv, hSv, lv⟩ : ∃ Su : Nat → Prop, (∀ y, Su y → y < wz3.heap.size) ∧ (oneV ⟨#[98]⟩ n1V).lies false wz3 Su [.int .i64 vk, .bool vb, .int .i64 vi, .string vs, .slice val vnl vcl, .slice vam vnm vcm] := ⟨_, fun y hy => Nat.lt_of_lt_of_le hy.2 Avwz3.size, Gv.out wz3 Avwz3⟩
       refine (diff_twoE low ⟨#[97]⟩ ⟨#[98]⟩ n1V n1V (fun y => Su y ∨ Sv y) _ _ wz3 (HTb.out _ Bwz3) (HEb.out _ Bwz3) aw_lt aw_cln aw_both aw_chk (of_decide_eq_true (by kernel_rfl)) (of_decide_eq_true (by kernel_rfl)) (V.lies_keep (fun h => h) (fun _ _ => rfl) (fun y hy => .inl hy) _ lu) (V.lies_keep (fun h => h) (fun _ _ => rfl) (fun y hy => .inr hy) _ lv) (fun y hy => by rcases hy with hy | hy <;> first | exact hSu y hy | exact hSv y hy)).mono ?_
       rintro e_ wz4 ⟨cs_, rfl, hlc, bc⟩
       clear lu hSu lv hSv
       obtain ⟨gk, gb, gi, gs, gal, gnl, gcl, gam, gnm, gcm, rfl⟩ := V.ten hlc
       have hltwz4 : wz3.heap.size ≤ wz4.heap.size := bc.size
       have mbwz4 := (bc.block (wkd.heap.size) (by omega)).trans mbwz3
       have Bwz4 : Below wk.heap.size wk wz4 := Bwz3.trans (bc.mono (by omega))
       have Auwz4 : Below wz2.heap.size wz2 wz4 := Auwz3.trans (bc.mono (by omega))
       have Avwz4 : Below wz3.heap.size wz3 wz4 := Avwz3.trans (bc.mono (by omega))
       have l1wz4 : aP.lies false wz4 (fun y => wz3.heap.size ≤ y ∧ y < wz4.heap.size) [.int .i64 gk, .bool gb, .int .i64 gi, .string gs, .slice gal gnl gcl, .slice gam gnm gcm] := hlc
       refine hK.out _ _ (HS.out _ Bwz4) (fun hHeld => ?_)
       clear hK K hlc bc
       (try simp only [Act.put, zA, zB, zC])
       (refine tjA 5 ?_; (try simp only [Act.put, zA, zB, zC]))
       (refine tjA 6 ?_; (try simp only [Act.put, zA, zB, zC]))
       (refine tjA 7 ?_; (try simp only [Act.put, zA, zB, zC]))
       (refine tjA 8 ?_; (try simp only [Act.put, zA, zB, zC]))
       have RM := one_mid Bwz4 (A := wkd.heap.size) (by omega) (by omega) (by omega) (by omega) mbwz4 l1wz4
       have hs_ := HS.out _ Bwz4
       have na0 : w.heap.size ≠ wkd.heap.size := by omega
       have na1 : w.heap.size + 2 ≠ wkd.heap.size := by omega
       have kb := mbwz4
       generalize wkd.heap.size = A_ at RM kb na0 na1 ⊢
       obtain ⟨p0, p1, p2, p3, p4, p5⟩ := sixC kb
       have fp := frozen_of_block kb
       have oA := six_o wz4 A_ (.int .i64 gk) (.bool gb) (.int .i64 gi) (.string gs) (.slice gal gnl gcl) (.slice gam gnm gcm)
       have u0_ := (oA _ na0).trans hs_.1
       have u1_ := (oA _ na1).trans hs_.2
       refine ryA [10] ?_
       refine rA1 fun K hK => ?_
       go_simp
       refine hK.out _ _ ⟨u0_, u1_⟩ (fun hHeld => ?_)
       clear hK K
       (try simp only [Act.put, zA, zB, zC])
       (refine tjA 11 ?_; (try simp only [Act.put, zA, zB, zC]))
       (refine tjA 12 ?_; (try simp only [Act.put, zA, zB, zC]))
       refine wpAnyH_done (by kernel_rfl) ?_ _
       (try dsimp only [Act.put, List.getElem_toArray, List.getElem_cons_succ, List.getElem_cons_zero, List.setIfInBounds_toArray, List.set_cons_zero, List.set_cons_succ])
       clear hHeld u0_ u1_ oA
       (try go_wp2_with fail)
       go_meet
       case rel => exact ⟨_, _, _, _, _, _, _, _, _, _, _, rfl, rfl, rfl, RM⟩
  case rest =>
   rename World => wl
   obtain ⟨A5, gk, gb, gi, gs, gal, gnl, gcl, gam, gnm, gcm, rfl, rfl, rfl, M5⟩ := hcut
   have hwl := M5.bel.size
   have HX : Hid (∀ X, Below wl.heap.size wl X → X.heap[w.heap.size]? = some (.cells #[.int .i64 2, .bool false, .int .i64 1, .string ⟨#[]⟩, .slice none 0 0, .slice none 0 0] 25) ∧ X.heap[w.heap.size + 2]? = some (.cells #[.int .i64 5, .bool false, .int .i64 0, .string ⟨#[]⟩, .slice none 0 0, .slice (some ⟨w.heap.size + 1, 0, none⟩) 2 2] 25) ∧ X.heap[A3]? = some (.cells #[.int .i64 fk, .bool fb, .int .i64 fi, .string fs, .slice fal fnl fcl, .slice fam fnm fcm] 25) ∧ X.heap[A5]? = some (.cells #[.int .i64 gk, .bool gb, .int .i64 gi, .string gs, .slice gal gnl gcl, .slice gam gnm gcm] 25)) := fun X hb => ⟨(HS.out X (M5.bel.trans (hb.mono hwl))).1, (HS.out X (M5.bel.trans (hb.mono hwl))).2, (HA3.out X (M5.bel.trans (hb.mono hwl))).1, (hb.block _ M5.lo.2).trans M5.bA⟩
   have HF : Hid (∀ X, Below wl.heap.size wl X → (oneV ⟨#[98]⟩ n1V).lies false X (New w3 wk) [.int .i64 fk, .bool fb, .int .i64 fi, .string fs, .slice fal fnl fcl, .slice fam fnm fcm]) := fun X hb => (HA3.out X (M5.bel.trans (hb.mono hwl))).2
   have HG : Hid (∀ X, Below wl.heap.size wl X → aP.lies false X (New wk wl) [.int .i64 gk, .bool gb, .int .i64 gi, .string gs, .slice gal gnl gcl, .slice gam gnm gcm]) := fun X hb => V.lies_keep (fun h => h) (fun y hy => hb.block y hy.2) (fun _ h => h) _ M5.l1
   have HQ : Hid (∀ X, Below wl.heap.size wl X → aP.lies false X (fun b => b = w.heap.size + 1) [.int .i64 5, .bool false, .int .i64 0, .string ⟨#[]⟩, .slice none 0 0, .slice (some ⟨w.heap.size + 1, 0, none⟩) 2 2]) := fun X hb => HPl4.out X (M5.bel.trans (hb.mono hwl))
   have Bwl := Bwk.trans (M5.bel.mono (by omega))
   clear M5 HS HA3 HPl4 HTb HEb B0
   have B0 : Below wl.heap.size wl wl.drew := (Below.refl _ _).drew
   go_wp2_with fail
   refine wp_region_held_drew (S := (fun X => X.heap[w.heap.size]? = some (.cells #[.int .i64 2, .bool false, .int .i64 1, .string ⟨#[]⟩, .slice none 0 0, .slice none 0 0] 25) ∧ X.heap[w.heap.size + 2]? = some (.cells #[.int .i64 5, .bool false, .int .i64 0, .string ⟨#[]⟩, .slice none 0 0, .slice (some ⟨w.heap.size + 1, 0, none⟩) 2 2] 25) ∧ X.heap[A3]? = some (.cells #[.int .i64 fk, .bool fb, .int .i64 fi, .string fs, .slice fal fnl fcl, .slice fam fnm fcm] 25) ∧ X.heap[A5]? = some (.cells #[.int .i64 gk, .bool gb, .int .i64 gi, .string gs, .slice gal gnl gcl, .slice gam gnm gcm] 25))) (by kernel_rfl) (HX.out _ B0) (fun hHeld => ?_)
   have Bwld := B0
   generalize wl.drew = wld at *
   have hltwld := Bwld.size
   (refine tjA 0 ?_; (try simp only [Act.put, zA, zB, zC]))
   refine ryA [1] ?_
   refine rA1 fun K hK => ?_
   go_simp
   refine (num_any 0 wld).mono ?_
   rintro e_ wy1 ⟨rfl, bc⟩
   have Bwy1 := Bwld.trans (bc.mono (by omega))
   have hltwy1 := bc.size
   refine hK.out _ _ (HX.out _ Bwy1) (fun hHeld => ?_)
   clear hK K
   (try simp only [Act.put, zA, zB, zC])
   clear bc
   (refine tjA 2 ?_; (try simp only [Act.put, zA, zB, zC]))
   (refine tjA 3 ?_; (try simp only [Act.put, zA, zB, zC]))
   (refine tjA 4 ?_; (try simp only [Act.put, zA, zB, zC]))
   refine ryA [5] ?_
   refine rA1 fun K hK => ?_
   go_simp
   refine (num_any 0 wy1).mono ?_
   rintro e_ wy2 ⟨rfl, bc⟩
   have Bwy2 := Bwy1.trans (bc.mono (by omega))
   have hltwy2 := bc.size
   refine hK.out _ _ (HX.out _ Bwy2) (fun hHeld => ?_)
   clear hK K
   (try simp only [Act.put, zA, zB, zC])
   clear bc
   (refine tjA 6 ?_; (try simp only [Act.put, zA, zB, zC]))
   (refine tjA 7 ?_; (try simp only [Act.put, zA, zB, zC]))
   (refine tjA 8 ?_; (try simp only [Act.put, zA, zB, zC]))
   (refine tjA 9 ?_; (try simp only [Act.put, zA, zB, zC]))
   (refine tjA 10 ?_; (try simp only [Act.put, zA, zB, zC]))
   (refine tjA 11 ?_; (try simp only [Act.put, zA, zB, zC]))
   (refine tkA 12 ?_ ?_ ?_; rotate_left 1; (intro W0 hSw; (have o0 : W0.cell? ⟨A3, 0, none⟩ = some (.int .i64 fk) := (by rw [cell_of_block hSw.2.2.1]; rfl); have o1 : W0.cell? ⟨A3, 1, none⟩ = some (.bool fb) := (by rw [cell_of_block hSw.2.2.1]; rfl); have o2 : W0.cell? ⟨A3, 2, none⟩ = some (.int .i64 fi) := (by rw [cell_of_block hSw.2.2.1]; rfl); have o3 : W0.cell? ⟨A3, 3, none⟩ = some (.string fs) := (by rw [cell_of_block hSw.2.2.1]; rfl); have o4 : W0.cell? ⟨A3, 4, none⟩ = some (.slice fal fnl fcl) := (by rw [cell_of_block hSw.2.2.1]; rfl); have o5 : W0.cell? ⟨A3, 5, none⟩ = some (.slice fam fnm fcm) := (by rw [cell_of_block hSw.2.2.1]; rfl)); go_simp; (try with_reducible rfl)); (try simp only [Act.put, zA, zB, zC]))
   (refine tkA 13 ?_ ?_ ?_; rotate_left 1; (intro W0 hSw; (have o0 : W0.cell? ⟨w.heap.size, 0, none⟩ = some (.int .i64 2) := (by rw [cell_of_block hSw.1]; rfl); have o1 : W0.cell? ⟨w.heap.size, 1, none⟩ = some (.bool false) := (by rw [cell_of_block hSw.1]; rfl); have o2 : W0.cell? ⟨w.heap.size, 2, none⟩ = some (.int .i64 1) := (by rw [cell_of_block hSw.1]; rfl); have o3 : W0.cell? ⟨w.heap.size, 3, none⟩ = some (.string ⟨#[]⟩) := (by rw [cell_of_block hSw.1]; rfl); have o4 : W0.cell? ⟨w.heap.size, 4, none⟩ = some (.slice none 0 0) := (by rw [cell_of_block hSw.1]; rfl); have o5 : W0.cell? ⟨w.heap.size, 5, none⟩ = some (.slice none 0 0) := (by rw [cell_of_block hSw.1]; rfl)); go_simp; (try with_reducible rfl)); (try simp only [Act.put, zA, zB, zC]))
   refine ryA [14] ?_
   refine rA1 fun K hK => ?_
   go_simp
   refine (one_any ⟨#[98]⟩ n1V (fun _ => False) _ wy2 (by decide) (n1_lies _ _) (fun _ h => h.elim)).mono ?_
   rintro e_ wy3 ⟨cs_, rfl, hlc, bc⟩
   obtain ⟨uk, ub, ui, us, ual, unl, ucl, uam, unm, ucm, rfl⟩ := V.ten hlc
   have Bwy3 := Bwy2.trans (bc.mono (by omega))
   have hltwy3 := bc.size
   refine hK.out _ _ (HX.out _ Bwy3) (fun hHeld => ?_)
   clear hK K
   (try simp only [Act.put, zA, zB, zC])
   clear bc
   refine ryA [15] ?_
   refine rA1 fun K hK => ?_
   go_simp
   have CS := same_any (oneV ⟨#[98]⟩ n1V) false false (oneV ⟨#[98]⟩ n1V) (New w3 wk) (OrNew (fun _ => False) wy2 wy3) _ _ wy3 (HF.out _ Bwy3) hlc (fun y hy => by have := hy.2; omega) (fun y hy => hy.elim (fun h => h.elim) (fun h => h.2))
   rw [V.eqB_refl] at CS
   refine CS.mono ?_
   rintro e_ wy4 ⟨rfl, bc⟩
   clear CS hlc
   have Bwy4 := Bwy3.trans (bc.mono (by omega))
   have hltwy4 := bc.size
   refine hK.out _ _ (HX.out _ Bwy4) (fun hHeld => ?_)
   clear hK K
   (try simp only [Act.put, zA, zB, zC])
   clear bc
   (refine tjA 16 ?_; (try simp only [Act.put, zA, zB, zC]))
   (refine tjA 17 ?_; (try simp only [Act.put, zA, zB, zC]))
   (refine tkA 18 ?_ ?_ ?_; rotate_left 1; (intro W0 hSw; (have o0 : W0.cell? ⟨A5, 0, none⟩ = some (.int .i64 gk) := (by rw [cell_of_block hSw.2.2.2]; rfl); have o1 : W0.cell? ⟨A5, 1, none⟩ = some (.bool gb) := (by rw [cell_of_block hSw.2.2.2]; rfl); have o2 : W0.cell? ⟨A5, 2, none⟩ = some (.int .i64 gi) := (by rw [cell_of_block hSw.2.2.2]; rfl); have o3 : W0.cell? ⟨A5, 3, none⟩ = some (.string gs) := (by rw [cell_of_block hSw.2.2.2]; rfl); have o4 : W0.cell? ⟨A5, 4, none⟩ = some (.slice gal gnl gcl) := (by rw [cell_of_block hSw.2.2.2]; rfl); have o5 : W0.cell? ⟨A5, 5, none⟩ = some (.slice gam gnm gcm) := (by rw [cell_of_block hSw.2.2.2]; rfl)); go_simp; (try with_reducible rfl)); (try simp only [Act.put, zA, zB, zC]))
   (refine tkA 19 ?_ ?_ ?_; rotate_left 1; (intro W0 hSw; (have o0 : W0.cell? ⟨w.heap.size + 2, 0, none⟩ = some (.int .i64 5) := (by rw [cell_of_block hSw.2.1]; rfl); have o1 : W0.cell? ⟨w.heap.size + 2, 1, none⟩ = some (.bool false) := (by rw [cell_of_block hSw.2.1]; rfl); have o2 : W0.cell? ⟨w.heap.size + 2, 2, none⟩ = some (.int .i64 0) := (by rw [cell_of_block hSw.2.1]; rfl); have o3 : W0.cell? ⟨w.heap.size + 2, 3, none⟩ = some (.string ⟨#[]⟩) := (by rw [cell_of_block hSw.2.1]; rfl); have o4 : W0.cell? ⟨w.heap.size + 2, 4, none⟩ = some (.slice none 0 0) := (by rw [cell_of_block hSw.2.1]; rfl); have o5 : W0.cell? ⟨w.heap.size + 2, 5, none⟩ = some (.slice (some ⟨w.heap.size + 1, 0, none⟩) 2 2) := (by rw [cell_of_block hSw.2.1]; rfl)); go_simp; (try with_reducible rfl)); (try simp only [Act.put, zA, zB, zC]))
   refine ryA [20] ?_
   refine rA1 fun K hK => ?_
   go_simp
   have CS := same_any aP false false aP (New wk wl) (fun b => b = w.heap.size + 1) _ _ wy4 (HG.out _ Bwy4) (HQ.out _ Bwy4) (fun y hy => by have := hy.2; omega) (fun y hy => by omega)
   rw [V.eqB_refl] at CS
   refine CS.mono ?_
   rintro e_ wy5 ⟨rfl, bc⟩
   clear CS
   have Bwy5 := Bwy4.trans (bc.mono (by omega))
   have hltwy5 := bc.size
   refine hK.out _ _ (HX.out _ Bwy5) (fun hHeld => ?_)
   clear hK K
   (try simp only [Act.put, zA, zB, zC])
   clear bc
   (refine tjA 21 ?_; (try simp only [Act.put, zA, zB, zC]))
   (refine tjA 22 ?_; (try simp only [Act.put, zA, zB, zC]))
   refine wpAnyH_done (by kernel_rfl) ?_ _
   (try dsimp only [Act.put, List.getElem_toArray, List.getElem_cons_succ, List.getElem_cons_zero, List.setIfInBounds_toArray, List.set_cons_zero, List.set_cons_succ])
   go_wp2_with fail
   go_ret
   exact ⟨rfl, Bwl.trans (Bwy5.mono (by omega))⟩
end Go.Proofs.YtjfldbmopjojdaaDoor
