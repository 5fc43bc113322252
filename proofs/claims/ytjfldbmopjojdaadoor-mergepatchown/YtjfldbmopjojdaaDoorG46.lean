/- joined: OwlP DifB TwcQ DifQ DifR LwxP -/
import Derived.Test.YtjfldbmopjojdaaDoorApaX
import Derived.Test.YtjfldbmopjojdaaDoorAnsX
set_option linter.unusedSimpArgs false
set_option linter.unusedVariables false
namespace Go.Proofs.YtjfldbmopjojdaaDoor
open Go Go.RowKit Go.Lib
theorem fin_wt2 (v : V) : (finF v).1.wt ≤ 1114112 := by
 unfold finF
 by_cases h : chkE v 32 = 0
 ·rw [if_pos h]; exact (ok_chk (D := 32) (by omega) h).wt
 ·rw [if_neg h]; simp only; rw [nullV_wt]; omega
theorem apl_wt2 (t p : V) : (aplF t p).1.wt ≤ 1114112 := by
 by_cases h : bothE t p = 0
 ·rw [apl_fin h]; exact fin_wt2 _
 ·rw [apl_both h]; simp only; rw [nullV_wt]; omega
theorem cln_wt2 (v : V) : (clnF v).1.wt ≤ 1114112 := by
 unfold clnF
 by_cases h : chkE v 32 = 0
 ·rw [if_pos h]; exact (ok_chk (D := 32) (by omega) (chk_clean h)).wt
 ·rw [if_neg h]; simp only; rw [nullV_wt]; omega
theorem dff_wt2 (a b : V) : (dffF a b).1.wt ≤ 1114112 := by
 unfold dffF
 by_cases h : bothE a b = 0
 ·rw [if_pos h]
  cases e : btwV 41 a b with
  | none => simp only; rw [nullV_wt]; omega
  | some d => exact fin_wt2 d
 ·rw [if_neg h]; simp only; rw [nullV_wt]; omega
theorem ans_wt (t p : V) : wtL (ansL t p) ≤ 5000000 := by
 have h1 := apl_wt2 t p
 have h2 := cln_wt2 p
 have h3 := dff_wt2 t p
 have h4 := dff_wt2 t (aplF t p).1
 simp only [ansL, wtL]
 omega
mutual
theorem tk_len {w : World} {S : Nat → Prop} : ∀ (v : V) {cs xs ys : List Value}, v.tk w S cs xs ys → xs.length ≤ v.wt
 | .mk k b i s l m, cs, xs, ys, h => by
  rw [V.tk] at h
  obtain ⟨al, cl, bl, ol, am, cm, bm, om, x1, y1, x2, y2, e, h1, h2, h3, h4, rfl, rfl⟩ := h
  have a1 := tkE_len l h3
  have a2 := tkF_len m h4
  rw [V.wt]
  simp only [List.length_append, List.length_singleton]
  omega
theorem tkE_len {w : World} {S : Nat → Prop} : ∀ (l : List V) {b o : Nat} {xs ys : List Value}, tkE w S l b o xs ys → xs.length ≤ wtL l
 | [], b, o, xs, ys, h => by rw [tkE] at h; rw [h.1]; exact Nat.zero_le _
 | x :: t, b, o, xs, ys, h => by
  rw [tkE] at h
  obtain ⟨_, cs, x1, y1, x2, y2, r, h1, h2, rfl, rfl⟩ := h
  have a1 := tk_len x h1
  have a2 := tkE_len t h2
  rw [wtL, List.length_append]
  omega
theorem tkF_len {w : World} {S : Nat → Prop} : ∀ (l : List Mem) {b o : Nat} {xs ys : List Value}, tkF w S l b o xs ys → xs.length ≤ wtM l
 | [], b, o, xs, ys, h => by rw [tkF] at h; rw [h.1]; exact Nat.zero_le _
 | (k, x) :: t, b, o, xs, ys, h => by
  rw [tkF] at h
  obtain ⟨_, cs, x1, y1, x2, y2, r, h1, h2, rfl, rfl⟩ := h
  have a1 := tk_len x h1
  have a2 := tkF_len t h2
  rw [wtM, List.length_append]
  omega
end
theorem fm_inj {f : Value → Option Nat} : ∀ (l : List Value), (l.filterMap f).Nodup → ∀ (k k2 b : Nat) (h : k < l.length) (h2 : k2 < l.length), f l[k] = some b → f l[k2] = some b → k = k2
 | [], _, k, k2, b, h, _, _, _ => by simp at h
 | x :: t, hn, k, k2, b, h, h2, e, e2 => by
  have ht : (t.filterMap f).Nodup := by
   cases hx : f x with
   | none => rwa [List.filterMap_cons_none hx] at hn
   | some y => rw [List.filterMap_cons_some hx, List.nodup_cons] at hn; exact hn.2
  have hm : ∀ (j : Nat) (hj : j < t.length), f x = some b → f t[j] = some b → False := fun j hj q q' => by
   rw [List.filterMap_cons_some q, List.nodup_cons] at hn
   exact hn.1 (List.mem_filterMap.2 ⟨_, List.getElem_mem hj, q'⟩)
  cases k with
  | zero =>
   cases k2 with
   | zero => rfl
   | succ j => exact (hm j (by simpa using h2) (by simpa using e) (by simpa using e2)).elim
  | succ i =>
   cases k2 with
   | zero => exact (hm i (by simpa using h) (by simpa using e2) (by simpa using e)).elim
   | succ j => rw [fm_inj t ht i j b (by simpa using h) (by simpa using h2) (by simpa using e) (by simpa using e2)]
theorem Unl.dst {w : World} {S : Nat → Prop} {xs ys : List Value} (h : Unl w S xs ys) : Dst xs ys := by
 have hn := h.n
 unfold blks at hn
 rw [List.nodup_append] at hn
 exact ⟨fun k k2 b h1 h2 e e2 => fm_inj xs hn.1 k k2 b h1 h2 e e2, fun k k2 b h1 h2 e e2 => fm_inj ys hn.2.1 k k2 b h1 h2 e e2,
  fun k k2 b h1 h2 e e2 => hn.2.2 b (List.mem_filterMap.2 ⟨_, List.getElem_mem h1, e⟩) b (List.mem_filterMap.2 ⟨_, List.getElem_mem h2, e2⟩) rfl⟩
theorem Unl.fl {w : World} {S P : Nat → Prop} {xs ys : List Value} (h : Unl w S xs ys) (hP : ∀ b, S b → P b) : ∀ s ∈ xs, FL w P s :=
 fun s hs => ⟨h.l s hs, fun b e => hP b (h.r b (mem_blks.2 (.inl (List.mem_filterMap.2 ⟨s, hs, e⟩))))⟩
theorem Unl.fm {w : World} {S P : Nat → Prop} {xs ys : List Value} (h : Unl w S xs ys) (hP : ∀ b, S b → P b) : ∀ s ∈ ys, FM w P s :=
 fun s hs => ⟨h.m s hs, fun b e => hP b (h.r b (mem_blks.2 (.inr (List.mem_filterMap.2 ⟨s, hs, e⟩))))⟩
theorem TkR.ch {M B : Nat} {sl sm sl' sm' : Value} {ls ms : List Value} {W W' : World} (h : TkR M sl sm sl' sm' W W') (r : RowsAt M B sl sm ls ms W) : Ch (fun y => y = M ∨ B ≤ y) W W' :=
 ⟨h.os, h.tape, h.output, h.size, fun y hy hn => h.blk y hy (fun e => hn (.inl e)) (fun e => hn (.inr (owns_at r.l e).1)) (fun e => hn (.inr (owns_at r.m e).1))⟩
theorem rows_new (W : World) (B : Nat) : RowsAt W.heap.size B (.slice none 0 0) (.slice none 0 0) [] [] (W.alloc (.cells #[.slice none 0 0, .slice none 0 0] 49)) :=
 ⟨heap_alloc_new W _, World.ownsRow_nil _ _ _ _, World.ownsRow_nil _ _ _ _⟩
theorem below_grown {n : Nat} {w w' : World} {row : Option Nat} (h : w.grownBy w' row) (hn : n ≤ w.heap.size) (hr : ∀ r, row = some r → n ≤ r) : Below n w w' :=
 ⟨h.os, h.tape, h.output, h.size, fun k hk => h.block k (by omega) (fun e => by have := hr k e.symm; omega)⟩
structure T2 (M1 M2 B : Nat) (sl1 sm1 sl2 sm2 : Value) (ls1 ms1 ls2 ms2 : List Value) (W : World) : Prop where
 r1 : RowsAt M1 B sl1 sm1 ls1 ms1 W
 r2 : RowsAt M2 B sl2 sm2 ls2 ms2 W
 nl : ∀ g, sl1.ownBlock = some g → sl2.ownBlock ≠ some g
 nm : ∀ g, sm1.ownBlock = some g → sm2.ownBlock ≠ some g
theorem T2.swap {M1 M2 B : Nat} {sl1 sm1 sl2 sm2 : Value} {ls1 ms1 ls2 ms2 : List Value} {W : World} (h : T2 M1 M2 B sl1 sm1 sl2 sm2 ls1 ms1 ls2 ms2 W) : T2 M2 M1 B sl2 sm2 sl1 sm1 ls2 ms2 ls1 ms1 W :=
 ⟨h.r2, h.r1, fun g e e' => h.nl g e' e, fun g e e' => h.nm g e' e⟩
theorem owns_two {W : World} {B e e' : Nat} {v v' : Value} {n n' : Nat} {xs xs' : List Value} (h : W.ownsRow B e 1 v n xs) (h' : W.ownsRow B e' 1 v' n' xs') (hne : e ≠ e') {g : Nat} (h1 : v.ownBlock = some g) (h2 : v'.ownBlock = some g) : False := by
 obtain ⟨_, c1, e1⟩ := owns_at h h1
 obtain ⟨_, c2, e2⟩ := owns_at h' h2
 rw [e1] at e2
 simp only [Option.some.injEq, Obj.cells.injEq] at e2
 exact hne e2.2.1
theorem T2.take {M1 M2 B : Nat} {sl sm c d sl' sm' : Value} {ls ms ls' ms' ls2 ms2 : List Value} {W W' : World} (h : T2 M1 M2 B sl sm c d ls ms ls' ms' W) (hne : M1 ≠ M2) (h1 : M1 < B) (h2 : M2 < B) (k : TkR M1 sl sm sl' sm' W W') (r : RowsAt M1 B sl' sm' ls2 ms2 W') : T2 M1 M2 B sl' sm' c d ls2 ms2 ls' ms' W' := by
 have lt2 := heap_lt h.r2.b
 refine ⟨r, ⟨(k.blk M2 lt2 hne.symm (fun e => ?_) (fun e => ?_)).trans h.r2.b, owns_keep h.r2.l fun g e => k.blk g (heap_lt (owns_at h.r2.l e).2.choose_spec) (fun q => ?_) (fun q => h.nl g q e) (fun q => owns_two h.r1.m h.r2.l (by decide) q e), owns_keep h.r2.m fun g e => k.blk g (heap_lt (owns_at h.r2.m e).2.choose_spec) (fun q => ?_) (fun q => owns_two h.r1.l h.r2.m (by decide) q e) (fun q => h.nm g q e)⟩, fun g e1 e2 => ?_, fun g e1 e2 => ?_⟩
 ·have := (owns_at h.r1.l e).1; omega
 ·have := (owns_at h.r1.m e).1; omega
 ·have := (owns_at h.r2.l e).1; omega
 ·have := (owns_at h.r2.m e).1; omega
 ·rcases k.l with q | q
  ·exact h.nl g (by rw [← q]; exact e1) e2
  ·have := q g e1
   have := heap_lt (owns_at h.r2.l e2).2.choose_spec
   omega
 ·rcases k.m with q | q
  ·exact h.nm g (by rw [← q]; exact e1) e2
  ·have := q g e1
   have := heap_lt (owns_at h.r2.m e2).2.choose_spec
   omega
theorem RowsAt.ch {F : Nat → Prop} {M B : Nat} {sl sm : Value} {ls ms : List Value} {W W' : World} (h : RowsAt M B sl sm ls ms W) (c : Ch F W W') (hF : ∀ y, F y → y < B ∧ y ≠ M) : RowsAt M B sl sm ls ms W' := by
 refine ⟨(c.blk M (heap_lt h.b) (fun q => (hF M q).2 rfl)).trans h.b, owns_keep h.l fun g e => c.blk g (heap_lt (owns_at h.l e).2.choose_spec) (fun q => ?_), owns_keep h.m fun g e => c.blk g (heap_lt (owns_at h.m e).2.choose_spec) (fun q => ?_)⟩
 ·have := (hF g q).1; have := (owns_at h.l e).1; omega
 ·have := (hF g q).1; have := (owns_at h.m e).1; omega
structure AR (W : World) (l : List V) (g lo hi : Nat) (XS YS : List Value) : Prop where
 lies : liesL false W (fun y => lo ≤ y ∧ y < hi) l g 0
 tk : tkE W (fun y => lo ≤ y ∧ y < hi) l g 0 XS YS
 un : Unl W (fun y => lo ≤ y ∧ y < hi) XS YS
 hg : lo ≤ g ∧ g < hi
 lt : hi ≤ W.heap.size
theorem AR.keep {W W' : World} {l : List V} {g lo hi : Nat} {XS YS : List Value} (h : AR W l g lo hi XS YS) (k : ∀ y, lo ≤ y ∧ y < hi → W'.heap[y]? = W.heap[y]?) (hs : W.heap.size ≤ W'.heap.size) : AR W' l g lo hi XS YS :=
 ⟨liesL_keep (fun h => h) k (fun _ h => h) _ h.lies, tkE_keep k (fun _ h => h) _ h.tk, h.un.keep k, h.hg, Nat.le_trans h.lt hs⟩
theorem AR.below {W W' : World} {l : List V} {g lo hi : Nat} {XS YS : List Value} (h : AR W l g lo hi XS YS) (b : Below W.heap.size W W') : AR W' l g lo hi XS YS := h.keep (fun y hy => b.block y (by have := h.lt; omega)) b.size
theorem AR.ch {F : Nat → Prop} {W W' : World} {l : List V} {g lo hi : Nat} {XS YS : List Value} (h : AR W l g lo hi XS YS) (c : Ch F W W') (hF : ∀ y, F y → y < lo ∨ hi ≤ y) : AR W' l g lo hi XS YS :=
 h.keep (fun y hy => c.blk y (by have := h.lt; omega) (fun q => by have := hF y q; omega)) c.size
theorem AR.of {W : World} {l : List V} {n e1 e2 g : Nat} (h : apE W l e1 e2 g 0) (h1 : n ≤ e1) (h2 : e1 ≤ e2) (h3 : e2 ≤ g) (h4 : g < W.heap.size) (hw : wtL l ≤ 4294967296) : ∃ XS YS, AR W l g n W.heap.size XS YS := by
 have a := apE_lies (lo := n) (hi := W.heap.size) l (fun _ => ⟨by omega, h4⟩) h1 (by omega) h
 obtain ⟨XS, YS, t, u⟩ := apE_tk (lo := n) (hi := W.heap.size) l hw (fun _ => ⟨by omega, h4⟩) h1 (by omega) h
 exact ⟨XS, YS, a, t, u.mono (fun y hy => ⟨by omega, by omega⟩), ⟨by omega, h4⟩, Nat.le_refl _⟩
structure Wa (W : World) (l : List V) (a : Option Addr) (c b lo hi : Nat) : Prop where
 hd : ∃ o, Headed a l.length c b o ∧ liesL false W (fun y => lo ≤ y ∧ y < hi) l b o
 lt : hi ≤ W.heap.size
theorem Wa.keep {W W' : World} {l : List V} {a : Option Addr} {c b lo hi : Nat} (h : Wa W l a c b lo hi) (k : ∀ y, lo ≤ y ∧ y < hi → W'.heap[y]? = W.heap[y]?) (hs : W.heap.size ≤ W'.heap.size) : Wa W' l a c b lo hi := by
 obtain ⟨o, h1, h2⟩ := h.hd
 exact ⟨⟨o, h1, liesL_keep (fun h => h) k (fun _ h => h) _ h2⟩, Nat.le_trans h.lt hs⟩
theorem Wa.below {W W' : World} {l : List V} {a : Option Addr} {c b lo hi : Nat} (h : Wa W l a c b lo hi) (q : Below W.heap.size W W') : Wa W' l a c b lo hi := h.keep (fun y hy => q.block y (by have := h.lt; omega)) q.size
theorem Wa.ch {F : Nat → Prop} {W W' : World} {l : List V} {a : Option Addr} {c b lo hi : Nat} (h : Wa W l a c b lo hi) (q : Ch F W W') (hF : ∀ y, F y → y < lo ∨ hi ≤ y) : Wa W' l a c b lo hi :=
 h.keep (fun y hy => q.blk y (by have := h.lt; omega) (fun z => by have := hF y z; omega)) q.size
structure Lp (RR : List V) (Wb : World) (M1 M2 B g1 lo1 hi1 g2 lo2 hi2 : Nat) (X1 Y1 X2 Y2 : List Value) (j : Nat) (sl1 sm1 sl2 sm2 : Value) (a1 b1 a2 b2 : List Value) (W : World) : Prop where
 t : T2 M1 M2 B sl1 sm1 sl2 sm2 a1 b1 a2 b2 W
 c : Ch (fun y => y = M1 ∨ y = M2 ∨ B ≤ y) Wb W
 k1 : ∃ x y, tkE Wb (fun y => lo1 ≤ y ∧ y < hi1) (RR.drop j) g1 (j * 6) x y ∧ X1 = a1 ++ x ∧ Y1 = b1 ++ y
 k2 : ∃ x y, tkE Wb (fun y => lo2 ≤ y ∧ y < hi2) (RR.drop j) g2 (j * 6) x y ∧ X2 = a2 ++ x ∧ Y2 = b2 ++ y
theorem tkE_next {w : World} {S : Nat → Prop} {RR : List V} {j b o : Nat} {x y : List Value} (hj : j < RR.length) (h : tkE w S (RR.drop j) b o x y) : S b ∧ ∃ cs x1 y1 x2 y2, rowAt w b o cs ∧ (RR[j]).tk w S cs x1 y1 ∧ tkE w S (RR.drop (j + 1)) b (o + 6) x2 y2 ∧ x = x1 ++ x2 ∧ y = y1 ++ y2 := by
 rw [List.drop_eq_getElem_cons hj, tkE] at h
 exact h
theorem tkE_none {w : World} {S : Nat → Prop} {RR : List V} {b o : Nat} {x y : List Value} (h : tkE w S (RR.drop RR.length) b o x y) : x = [] ∧ y = [] := by
 rw [List.drop_length, tkE] at h
 exact h
end Go.Proofs.YtjfldbmopjojdaaDoor
namespace Go.Proofs.YtjfldbmopjojdaaDoor
open Go.RowKit Go.Lib
theorem diff_any (low : Addr) (a b : V) (S : Nat → Prop) (cs ds : List Value) (w : World) (hT : Tb w) (hE : ErrAt low w) (hv : a.lies false w S cs) (hx : b.lies false w S ds) (hS : ∀ b, S b → b < w.heap.size) (hwt : a.wt ≤ 2147483648) (hwp : b.wt ≤ 2147483648) :
 Calls Tryd.prog 20 #[.agg cs.toArray, .agg ds.toArray] w (DgPost (dffF a b) w) :=
 (diff_ap low a b S cs ds w hT hE hv hx hS hwt hwp).mono fun e w' ⟨c, he, ha, hb⟩ => ⟨c, he, V.ap_lies _ ha, hb⟩
end Go.Proofs.YtjfldbmopjojdaaDoor
namespace Go.Proofs.YtjfldbmopjojdaaDoor
open Go.RowKit Go.Lib
def C3 (n : Nat) : Prop := n = 0 ∨ n = 22 ∨ n = 23
def pk (f : V → V → V) (a b : Option V) : Option V := match b with
 | none => a
 | some x => if kindOf x = 0 then none else some (f (a.getD nullV) x)
end Go.Proofs.YtjfldbmopjojdaaDoor
namespace Go.Proofs.YtjfldbmopjojdaaDoor
open Go Go.RowKit Go.Lib Go.Shelf
theorem tg_l {k : ByteArray} {x : V} {a b : List Mem} (h : ∀ y ∈ b, ltB k y.1 = true) : tgR (bare ((k, x) :: a)) (bare b) = pA ((k, x), []) :: tgR (bare a) (bare b) := by
 cases b with
 | nil => show tgR (((k, x), []) :: bare a) [] = _; rw [tgR]; rfl
 | cons z t =>
  show tgR (((k, x), []) :: bare a) ((z, []) :: bare t) = _
  rw [tgR]
  show (if ltB k z.1 = true then _ else _) = _
  rw [if_pos (h z (List.mem_cons_self ..))]
  rfl
theorem tg_r {k : ByteArray} {x : V} {a b : List Mem} (h : ∀ y ∈ a, ltB k y.1 = true) : tgR (bare a) (bare ((k, x) :: b)) = pB ((k, x), []) :: tgR (bare a) (bare b) := by
 cases a with
 | nil => show tgR [] (((k, x), []) :: bare b) = _; rw [tgR]; rfl
 | cons z t =>
  have hz := h z (List.mem_cons_self ..)
  show tgR ((z, []) :: bare t) (((k, x), []) :: bare b) = _
  rw [tgR]
  show (if ltB z.1 k = true then _ else if ltB k z.1 = true then _ else _) = _
  rw [if_neg (by rw [lt_asym hz]; simp), if_pos hz]
  rfl
theorem stDs_mk {f : List Mem → List Mem → Option (List Mem)} {x : Pr} {t : List Pr} {a b : List Mem} (h1 : stD f x = some a) (h2 : stDs f t = some b) : stDs f (x :: t) = some (a ++ b) := by rw [stDs, h1, h2]
theorem stD_A (f : List Mem → List Mem → Option (List Mem)) (k : ByteArray) (x : V) : stD f (pA ((k, x), [])) = some [(k, nullV)] := by rw [stD, if_pos (show (pA ((k, x), [])).g = false from rfl)]; rfl
theorem stD_B (f : List Mem → List Mem → Option (List Mem)) (k : ByteArray) (x : V) : stD f (pB ((k, x), [])) = if clnB x = true then some [(k, x)] else none := by
 rw [stD, if_neg (show ¬ (pB ((k, x), [])).g = false from by intro h; cases h), if_neg (show ¬ (kindOf (pB ((k, x), [])).va = 5 ∧ kindOf (pB ((k, x), [])).vb = 5) from fun h => absurd h.1 (show ¬ kindOf nullV = 5 from by decide)), if_neg (show ¬ ((pB ((k, x), [])).f = true ∧ eqlV (pB ((k, x), [])).va (pB ((k, x), [])).vb = true) from fun h => by cases h.1)]
 rfl
end Go.Proofs.YtjfldbmopjojdaaDoor
namespace Go.Proofs.YtjfldbmopjojdaaDoor
open Go Go.RowKit Go.Lib Go.Shelf
structure Led (a b ms : List Mem) : Prop where
 m : mrgM pchV a ms = b
 g : GM ms
 k : ∀ K, (∀ y ∈ a, ltB K y.1 = true) → (∀ y ∈ b, ltB K y.1 = true) → ∀ y ∈ ms, ltB K y.1 = true
 d : dpM ms ≤ max (dpM a) (dpM b)
def Less (r q : List Mem) : Prop := ∀ μ α c, Mu μ α c → smM (fun k x => α k + μ x) r ≤ smM (fun k x => α k + μ x) q
def Fnd (f : List Mem → List Mem → Option (List Mem)) (a q : List Mem) : Prop := ∃ r, stDs f (tgR (bare a) (bare (mrgM pchV a q))) = some r ∧ Less r q
end Go.Proofs.YtjfldbmopjojdaaDoor
namespace Go.Proofs.YtjfldbmopjojdaaDoor
open Go Go.RowKit Go.Lib Go.Shelf
theorem both_zero {a b : V} (ha : chkE a 32 = 0) (hb : chkE b 32 = 0) : bothE a b = 0 := by rw [bothE, if_pos ha]; exact hb
theorem dff_some {a b d : V} (ha : chkE a 32 = 0) (hb : chkE b 32 = 0) (h : btwV 41 a b = some d) (hd : chkE d 32 = 0) : dffF a b = (d, true, 0) := by
 have e : dffF a b = ((finF d).1, ((finF d).2 == 0), (finF d).2) := by rw [dffF, if_pos (both_zero ha hb), h]
 rw [e, finF, if_pos hd]
 rfl
end Go.Proofs.YtjfldbmopjojdaaDoor
