/- joined: OwlP AnsW -/
import Derived.Test.YthgfomblodhoaaaDoorNewP
import Derived.Test.YthgfomblodhoaaaDoorApaX
import Derived.Test.YthgfomblodhoaaaDoorAnsV
/- Rows of answers, two books of rows side by side: plain. -/
set_option linter.unusedSimpArgs false
set_option linter.unusedVariables false
namespace Go.Proofs.YthgfomblodhoaaaDoor
open Go Go.RowKit Go.Lib
mutual
theorem tk_len {w : World} {S : Nat → Prop} : ∀ (v : V) {cs xs ys : List Value}, v.tk w S cs xs ys → xs.length ≤ v.wt
  | .mk k b i s l m, cs, xs, ys, h => by
    rw [V.tk] at h
    obtain ⟨al, cl, bl, ol, am, cm, bm, om, x1, y1, x2, y2, e, h1, h2, h3, h4, rfl, rfl⟩ := h
    have a1 := tkE_len l h3
    have a2 := tkF_len m h4
    rw [V.wt]
    simp only [List.length_append, List.length_singleton]
    omega
theorem tkE_len {w : World} {S : Nat → Prop} : ∀ (l : List V) {b o : Nat} {xs ys : List Value}, tkE w S l b o xs ys → xs.length ≤ wtL l
  | [], b, o, xs, ys, h => by rw [tkE] at h; rw [h.1]; exact Nat.zero_le _
  | x :: t, b, o, xs, ys, h => by
    rw [tkE] at h
    obtain ⟨_, cs, x1, y1, x2, y2, r, h1, h2, rfl, rfl⟩ := h
    have a1 := tk_len x h1
    have a2 := tkE_len t h2
    rw [wtL, List.length_append]
    omega
theorem tkF_len {w : World} {S : Nat → Prop} : ∀ (l : List Mem) {b o : Nat} {xs ys : List Value}, tkF w S l b o xs ys → xs.length ≤ wtM l
  | [], b, o, xs, ys, h => by rw [tkF] at h; rw [h.1]; exact Nat.zero_le _
  | (k, x) :: t, b, o, xs, ys, h => by
    rw [tkF] at h
    obtain ⟨_, cs, x1, y1, x2, y2, r, h1, h2, rfl, rfl⟩ := h
    have a1 := tk_len x h1
    have a2 := tkF_len t h2
    rw [wtM, List.length_append]
    omega
end
theorem fm_inj {f : Value → Option Nat} : ∀ (l : List Value), (l.filterMap f).Nodup → ∀ (k k2 b : Nat) (h : k < l.length) (h2 : k2 < l.length), f l[k] = some b → f l[k2] = some b → k = k2
  | [], _, k, k2, b, h, _, _, _ => by simp at h
  | x :: t, hn, k, k2, b, h, h2, e, e2 => by
    have ht : (t.filterMap f).Nodup := by
      cases hx : f x with
      | none => rwa [List.filterMap_cons_none hx] at hn
      | some y => rw [List.filterMap_cons_some hx, List.nodup_cons] at hn; exact hn.2
    have hm : ∀ (j : Nat) (hj : j < t.length), f x = some b → f t[j] = some b → False := fun j hj q q' => by
      rw [List.filterMap_cons_some q, List.nodup_cons] at hn
      exact hn.1 (List.mem_filterMap.2 ⟨_, List.getElem_mem hj, q'⟩)
    cases k with
    | zero =>
      cases k2 with
      | zero => rfl
      | succ j => exact (hm j (by simpa using h2) (by simpa using e) (by simpa using e2)).elim
    | succ i =>
      cases k2 with
      | zero => exact (hm i (by simpa using h) (by simpa using e2) (by simpa using e)).elim
      | succ j => rw [fm_inj t ht i j b (by simpa using h) (by simpa using h2) (by simpa using e) (by simpa using e2)]
theorem Unl.dst {w : World} {S : Nat → Prop} {xs ys : List Value} (h : Unl w S xs ys) : Dst xs ys := by
  have hn := h.n
  unfold blks at hn
  rw [List.nodup_append] at hn
  exact ⟨fun k k2 b h1 h2 e e2 => fm_inj xs hn.1 k k2 b h1 h2 e e2, fun k k2 b h1 h2 e e2 => fm_inj ys hn.2.1 k k2 b h1 h2 e e2,
    fun k k2 b h1 h2 e e2 => hn.2.2 b (List.mem_filterMap.2 ⟨_, List.getElem_mem h1, e⟩) b (List.mem_filterMap.2 ⟨_, List.getElem_mem h2, e2⟩) rfl⟩
theorem Unl.fl {w : World} {S P : Nat → Prop} {xs ys : List Value} (h : Unl w S xs ys) (hP : ∀ b, S b → P b) : ∀ s ∈ xs, FL w P s :=
  fun s hs => ⟨h.l s hs, fun b e => hP b (h.r b (mem_blks.2 (.inl (List.mem_filterMap.2 ⟨s, hs, e⟩))))⟩
theorem Unl.fm {w : World} {S P : Nat → Prop} {xs ys : List Value} (h : Unl w S xs ys) (hP : ∀ b, S b → P b) : ∀ s ∈ ys, FM w P s :=
  fun s hs => ⟨h.m s hs, fun b e => hP b (h.r b (mem_blks.2 (.inr (List.mem_filterMap.2 ⟨s, hs, e⟩))))⟩
theorem TkR.ch {M B : Nat} {sl sm sl' sm' : Value} {ls ms : List Value} {W W' : World} (h : TkR M sl sm sl' sm' W W') (r : RowsAt M B sl sm ls ms W) : Ch (fun y => y = M ∨ B ≤ y) W W' :=
  ⟨h.os, h.tape, h.output, h.size, fun y hy hn => h.blk y hy (fun e => hn (.inl e)) (fun e => hn (.inr (owns_at r.l e).1)) (fun e => hn (.inr (owns_at r.m e).1))⟩
theorem rows_new (W : World) (B : Nat) : RowsAt W.heap.size B (.slice none 0 0) (.slice none 0 0) [] [] (W.alloc (.cells #[.slice none 0 0, .slice none 0 0] 49)) :=
  ⟨heap_alloc_new W _, World.ownsRow_nil _ _ _ _, World.ownsRow_nil _ _ _ _⟩
theorem below_grown {n : Nat} {w w' : World} {row : Option Nat} (h : w.grownBy w' row) (hn : n ≤ w.heap.size) (hr : ∀ r, row = some r → n ≤ r) : Below n w w' :=
  ⟨h.os, h.tape, h.output, h.size, fun k hk => h.block k (by omega) (fun e => by have := hr k e.symm; omega)⟩
/-- two books of rows, side by side -/
structure T2 (M1 M2 B : Nat) (sl1 sm1 sl2 sm2 : Value) (ls1 ms1 ls2 ms2 : List Value) (W : World) : Prop where
  r1 : RowsAt M1 B sl1 sm1 ls1 ms1 W
  r2 : RowsAt M2 B sl2 sm2 ls2 ms2 W
  nl : ∀ g, sl1.ownBlock = some g → sl2.ownBlock ≠ some g
  nm : ∀ g, sm1.ownBlock = some g → sm2.ownBlock ≠ some g
theorem T2.swap {M1 M2 B : Nat} {sl1 sm1 sl2 sm2 : Value} {ls1 ms1 ls2 ms2 : List Value} {W : World} (h : T2 M1 M2 B sl1 sm1 sl2 sm2 ls1 ms1 ls2 ms2 W) : T2 M2 M1 B sl2 sm2 sl1 sm1 ls2 ms2 ls1 ms1 W :=
  ⟨h.r2, h.r1, fun g e e' => h.nl g e' e, fun g e e' => h.nm g e' e⟩
theorem owns_two {W : World} {B e e' : Nat} {v v' : Value} {n n' : Nat} {xs xs' : List Value} (h : W.ownsRow B e 1 v n xs) (h' : W.ownsRow B e' 1 v' n' xs') (hne : e ≠ e') {g : Nat} (h1 : v.ownBlock = some g) (h2 : v'.ownBlock = some g) : False := by
  obtain ⟨_, c1, e1⟩ := owns_at h h1
  obtain ⟨_, c2, e2⟩ := owns_at h' h2
  rw [e1] at e2
  simp only [Option.some.injEq, Obj.cells.injEq] at e2
  exact hne e2.2.1
theorem T2.take {M1 M2 B : Nat} {sl sm c d sl' sm' : Value} {ls ms ls' ms' ls2 ms2 : List Value} {W W' : World} (h : T2 M1 M2 B sl sm c d ls ms ls' ms' W) (hne : M1 ≠ M2) (h1 : M1 < B) (h2 : M2 < B) (k : TkR M1 sl sm sl' sm' W W') (r : RowsAt M1 B sl' sm' ls2 ms2 W') : T2 M1 M2 B sl' sm' c d ls2 ms2 ls' ms' W' := by
  have lt2 := heap_lt h.r2.b
  refine ⟨r, ⟨(k.blk M2 lt2 hne.symm (fun e => ?_) (fun e => ?_)).trans h.r2.b, owns_keep h.r2.l fun g e => k.blk g (heap_lt (owns_at h.r2.l e).2.choose_spec) (fun q => ?_) (fun q => h.nl g q e) (fun q => owns_two h.r1.m h.r2.l (by decide) q e), owns_keep h.r2.m fun g e => k.blk g (heap_lt (owns_at h.r2.m e).2.choose_spec) (fun q => ?_) (fun q => owns_two h.r1.l h.r2.m (by decide) q e) (fun q => h.nm g q e)⟩, fun g e1 e2 => ?_, fun g e1 e2 => ?_⟩
  · have := (owns_at h.r1.l e).1; omega
  · have := (owns_at h.r1.m e).1; omega
  · have := (owns_at h.r2.l e).1; omega
  · have := (owns_at h.r2.m e).1; omega
  · rcases k.l with q | q
    · exact h.nl g (by rw [← q]; exact e1) e2
    · have := q g e1
      have := heap_lt (owns_at h.r2.l e2).2.choose_spec
      omega
  · rcases k.m with q | q
    · exact h.nm g (by rw [← q]; exact e1) e2
    · have := q g e1
      have := heap_lt (owns_at h.r2.m e2).2.choose_spec
      omega
theorem RowsAt.ch {F : Nat → Prop} {M B : Nat} {sl sm : Value} {ls ms : List Value} {W W' : World} (h : RowsAt M B sl sm ls ms W) (c : Ch F W W') (hF : ∀ y, F y → y < B ∧ y ≠ M) : RowsAt M B sl sm ls ms W' := by
  refine ⟨(c.blk M (heap_lt h.b) (fun q => (hF M q).2 rfl)).trans h.b, owns_keep h.l fun g e => c.blk g (heap_lt (owns_at h.l e).2.choose_spec) (fun q => ?_), owns_keep h.m fun g e => c.blk g (heap_lt (owns_at h.m e).2.choose_spec) (fun q => ?_)⟩
  · have := (hF g q).1; have := (owns_at h.l e).1; omega
  · have := (hF g q).1; have := (owns_at h.m e).1; omega
/-- a row of answers, apart -/
structure AR (W : World) (l : List V) (g lo hi : Nat) (XS YS : List Value) : Prop where
  lies : liesL false W (fun y => lo ≤ y ∧ y < hi) l g 0
  tk : tkE W (fun y => lo ≤ y ∧ y < hi) l g 0 XS YS
  un : Unl W (fun y => lo ≤ y ∧ y < hi) XS YS
  hg : lo ≤ g ∧ g < hi
  lt : hi ≤ W.heap.size
theorem AR.keep {W W' : World} {l : List V} {g lo hi : Nat} {XS YS : List Value} (h : AR W l g lo hi XS YS) (k : ∀ y, lo ≤ y ∧ y < hi → W'.heap[y]? = W.heap[y]?) (hs : W.heap.size ≤ W'.heap.size) : AR W' l g lo hi XS YS :=
  ⟨liesL_keep (fun h => h) k (fun _ h => h) _ h.lies, tkE_keep k (fun _ h => h) _ h.tk, h.un.keep k, h.hg, Nat.le_trans h.lt hs⟩
theorem AR.below {W W' : World} {l : List V} {g lo hi : Nat} {XS YS : List Value} (h : AR W l g lo hi XS YS) (b : Below W.heap.size W W') : AR W' l g lo hi XS YS := h.keep (fun y hy => b.block y (by have := h.lt; omega)) b.size
theorem AR.ch {F : Nat → Prop} {W W' : World} {l : List V} {g lo hi : Nat} {XS YS : List Value} (h : AR W l g lo hi XS YS) (c : Ch F W W') (hF : ∀ y, F y → y < lo ∨ hi ≤ y) : AR W' l g lo hi XS YS :=
  h.keep (fun y hy => c.blk y (by have := h.lt; omega) (fun q => by have := hF y q; omega)) c.size
theorem AR.of {W : World} {l : List V} {n e1 e2 g : Nat} (h : apE W l e1 e2 g 0) (h1 : n ≤ e1) (h2 : e1 ≤ e2) (h3 : e2 ≤ g) (h4 : g < W.heap.size) (hw : wtL l ≤ 4294967296) : ∃ XS YS, AR W l g n W.heap.size XS YS := by
  have a := apE_lies (lo := n) (hi := W.heap.size) l (fun _ => ⟨by omega, h4⟩) h1 (by omega) h
  obtain ⟨XS, YS, t, u⟩ := apE_tk (lo := n) (hi := W.heap.size) l hw (fun _ => ⟨by omega, h4⟩) h1 (by omega) h
  exact ⟨XS, YS, a, t, u.mono (fun y hy => ⟨by omega, by omega⟩), ⟨by omega, h4⟩, Nat.le_refl _⟩
/-- a row of values, somewhere -/
structure Wa (W : World) (l : List V) (a : Option Addr) (c b lo hi : Nat) : Prop where
  hd : ∃ o, Headed a l.length c b o ∧ liesL false W (fun y => lo ≤ y ∧ y < hi) l b o
  lt : hi ≤ W.heap.size
theorem Wa.keep {W W' : World} {l : List V} {a : Option Addr} {c b lo hi : Nat} (h : Wa W l a c b lo hi) (k : ∀ y, lo ≤ y ∧ y < hi → W'.heap[y]? = W.heap[y]?) (hs : W.heap.size ≤ W'.heap.size) : Wa W' l a c b lo hi := by
  obtain ⟨o, h1, h2⟩ := h.hd
  exact ⟨⟨o, h1, liesL_keep (fun h => h) k (fun _ h => h) _ h2⟩, Nat.le_trans h.lt hs⟩
theorem Wa.below {W W' : World} {l : List V} {a : Option Addr} {c b lo hi : Nat} (h : Wa W l a c b lo hi) (q : Below W.heap.size W W') : Wa W' l a c b lo hi := h.keep (fun y hy => q.block y (by have := h.lt; omega)) q.size
theorem Wa.ch {F : Nat → Prop} {W W' : World} {l : List V} {a : Option Addr} {c b lo hi : Nat} (h : Wa W l a c b lo hi) (q : Ch F W W') (hF : ∀ y, F y → y < lo ∨ hi ≤ y) : Wa W' l a c b lo hi :=
  h.keep (fun y hy => q.blk y (by have := h.lt; omega) (fun z => by have := hF y z; omega)) q.size
/-- so many answers have been taken down, in both books -/
structure Lp (RR : List V) (Wb : World) (M1 M2 B g1 lo1 hi1 g2 lo2 hi2 : Nat) (X1 Y1 X2 Y2 : List Value) (j : Nat) (sl1 sm1 sl2 sm2 : Value) (a1 b1 a2 b2 : List Value) (W : World) : Prop where
  t : T2 M1 M2 B sl1 sm1 sl2 sm2 a1 b1 a2 b2 W
  c : Ch (fun y => y = M1 ∨ y = M2 ∨ B ≤ y) Wb W
  k1 : ∃ x y, tkE Wb (fun y => lo1 ≤ y ∧ y < hi1) (RR.drop j) g1 (j * 6) x y ∧ X1 = a1 ++ x ∧ Y1 = b1 ++ y
  k2 : ∃ x y, tkE Wb (fun y => lo2 ≤ y ∧ y < hi2) (RR.drop j) g2 (j * 6) x y ∧ X2 = a2 ++ x ∧ Y2 = b2 ++ y
theorem tkE_next {w : World} {S : Nat → Prop} {RR : List V} {j b o : Nat} {x y : List Value} (hj : j < RR.length) (h : tkE w S (RR.drop j) b o x y) : S b ∧ ∃ cs x1 y1 x2 y2, rowAt w b o cs ∧ (RR[j]).tk w S cs x1 y1 ∧ tkE w S (RR.drop (j + 1)) b (o + 6) x2 y2 ∧ x = x1 ++ x2 ∧ y = y1 ++ y2 := by
  rw [List.drop_eq_getElem_cons hj, tkE] at h
  exact h
theorem tkE_none {w : World} {S : Nat → Prop} {RR : List V} {b o : Nat} {x y : List Value} (h : tkE w S (RR.drop RR.length) b o x y) : x = [] ∧ y = [] := by
  rw [List.drop_length, tkE] at h
  exact h
end Go.Proofs.YthgfomblodhoaaaDoor
/- ValueOwn: what the answers weigh. -/
namespace Go.Proofs.YthgfomblodhoaaaDoor
open Go Go.RowKit Go.Lib
theorem null_wt : nullV.wt = 1 := by rw [nullV, V.wt, wtL, wtM]; rfl
theorem ok_wt {v : V} (h : okV v = true) : v.wt ≤ 1114112 := wt_of_chk (okV_true h)
theorem map_wt (l : List Mem) : (mapV l).wt ≤ 1114112 := by
  unfold mapV
  by_cases h : mapE l = 0
  · rw [if_pos h]; unfold mapE at h; rw [chkE40] at h; exact wt_of_chk h
  · rw [if_neg h, null_wt]; omega
theorem cln_wt (v : V) : (clnV v).wt ≤ 1114112 := by
  unfold clnV
  by_cases h : okV v = true
  · rw [if_pos h]; exact ok_wt h
  · rw [if_neg h, null_wt]; omega
theorem get_wt (v : V) (key : ByteArray) : (getV v key).1.wt ≤ 1114112 := by
  unfold getV
  by_cases h : okV v = true
  · rw [if_pos h]
    have hw := ok_wt h
    unfold atKey
    by_cases hk : keyIs key (memsOf v)[posF (memsOf v) key]? = true
    · rw [if_pos hk]
      simp only
      obtain ⟨k, b, i, s, l, m⟩ := v
      simp only [memsOf] at hk ⊢
      rw [V.wt] at hw
      rw [List.getD_eq_getElem?_getD]
      cases e : m[posF m key]? with
      | none => simp only [Option.getD_none]; rw [null_wt]; omega
      | some y =>
        simp only [Option.getD_some]
        have := wtM_mem (List.mem_of_getElem? e)
        omega
    · rw [if_neg hk]; simp only; rw [null_wt]; omega
  · rw [if_neg h]; simp only; rw [null_wt]; omega
theorem with_wt (v : V) (key : ByteArray) (x : V) : (withV v key x).wt ≤ 1114112 := by
  obtain ⟨k, b, i, s, l, m⟩ := v
  simp only [withV]
  by_cases h : k = 5 ∧ okV (.mk k b i s l m) = true ∧ okV x = true
  · rw [if_pos h]; exact map_wt _
  · rw [if_neg h, null_wt]; omega
theorem wtM_split : ∀ (m : List Mem) (n : Nat), wtM (m.take n ++ m.drop (n + 1)) ≤ wtM m
  | [], n => by simp
  | (k, x) :: t, 0 => by simp [wtM]
  | (k, x) :: t, n + 1 => by have := wtM_split t n; simp only [List.take_succ_cons, List.drop_succ_cons, List.cons_append, wtM]; omega
theorem wout_wt (v : V) (key : ByteArray) : (woutV v key).wt ≤ 1114112 := by
  obtain ⟨k, b, i, s, l, m⟩ := v
  simp only [woutV]
  by_cases h : okV (.mk k b i s l m) = true
  · rw [if_pos h]
    have hw := ok_wt h
    rw [V.wt] at hw ⊢
    unfold woutM
    by_cases hk : keyIs key m[posF m key]? = true
    · rw [if_pos hk]; have := wtM_split m (posF m key); omega
    · rw [if_neg hk]; exact hw
  · rw [if_neg h, null_wt]; omega
theorem bv_wt (l : List Mem) : (bvV l).1.wt ≤ 1114112 := by
  unfold bvV
  split
  · exact map_wt _
  · simp only; rw [null_wt]; omega
theorem ans_wt (v : V) (key : ByteArray) (x : V) : wtL (ansL v key x) ≤ 20000000 := by
  have h1 := cln_wt v
  have h2 := get_wt v key
  have h3 := with_wt v key x
  have h4 := wout_wt v key
  have h5 := bv_wt [(key, x), (key2 key, v)]
  simp only [ansL, wtL]
  omega
end Go.Proofs.YthgfomblodhoaaaDoor
