import Derived.Test.YtaecmgkckefgoaaDoorKndA
import Derived.Test.YtaecmgkckefgoaaDoorTwnA
import Derived.Laws.AppendOwnNone
/- twinType: the same type in memory of its own. -/
set_option linter.unusedSimpArgs false
set_option linter.unusedVariables false
namespace Go.Proofs.YtaecmgkckefgoaaDoor
open Go.RowKit
section
variable {P : Program}
/-- append of a slice to nothing -/
theorem wpl_spread {w : World} {ops : Array Oper} {rest : List Oper} {o : Oper} {a : Act} {Q : Exit → Act → World → Prop} (hgd : o.guard = none) (s x : Operand) (t : TypeId)
    (ho : o.op = .call { callee := .builtin .append, args := #[s, x], argTypes := #[t, t] })
    (e : TypeId) (i : TypeInfo) (z : Value) (size bytes : Nat) (ht : P.underlying t = some (.slice e)) (hi : P.info? e = some i) (hz : i.zero = some z)
    (hsize : i.size = size) (hby : i.bytes = bytes) (hzs : z.cells.size = size) (hsz : 0 < size) (hb200 : bytes ≤ 200)
    (hs : a.eval s = .slice none 0 0) (ao : Option Addr) (m c b q : Nat) (hx : a.eval x = .slice ao m c) (hd : Headed ao m c b q) (news : List Value) (hl : news.length = m * size)
    (hnews : ∀ j u, news[j]? = some u → w.cell? ⟨b, q + j, none⟩ = some u) (h1 : ∀ u ∈ news, u.oneCell' = true) (hm : m ≤ 2147483647)
    (h : ∀ v' w', w'.ownsRow w.heap.size e size v' m news → w.grownBy w' none → wpList P ops Q rest (a.put o.dst v') w') : wpList P ops Q (o :: rest) a w := by
  cases ao with
  | none =>
    have hc := hd.nil rfl
    have hm0 : m = 0 := by have := hd.le; omega
    subst hm0 hc
    have hn0 : news = [] := List.eq_nil_of_length_eq_zero (by simpa using hl)
    subst hn0
    exact wpList_append_own_none hgd s x t ho w.heap.size e i size ht hi (.slice none 0 0) 0 [] hs (World.ownsRow_nil w _ e size) hx (h _ _ (World.ownsRow_nil w _ e size) (World.grownBy.refl _ _))
  | some ad =>
    refine wpList_append_own w hgd s x t ho w.heap.size e i z size bytes ht hi hz hsize hby hzs hsz (.slice none 0 0) 0 [] hs (World.ownsRow_nil w _ e size) ad m c news hx hl ?_ h1 (by simp only [maxLen]; omega) ?_ (Nat.le_refl _) ?_
    · intro j u hu
      rcases hd.at_ with h0 | h0
      · subst h0
        have hn0 : news = [] := List.eq_nil_of_length_eq_zero (by simpa using hl)
        subst hn0
        simp at hu
      · have := Option.some.inj h0
        subst this
        rw [Go.WideShapes.add_plain]
        exact hnews j u hu
    · have := Nat.mul_le_mul (show 0 + m ≤ 2147483647 by omega) hb200
      omega
    · intro v' w' r1 r2 _
      rw [Nat.zero_add, List.nil_append] at r1
      exact h v' w' r1 r2
end
def flatF (F : List (ByteArray × ByteArray)) : List Value := F.flatMap fun f => [Value.string f.1, Value.string f.2]
theorem flatF_len (F : List (ByteArray × ByteArray)) : (flatF F).length = F.length * 2 := by
  induction F with
  | nil => rfl
  | cons f t ih => rw [flatF, List.flatMap_cons, List.length_append, ← flatF, ih]; simp; omega
theorem flatF_get : ∀ (F : List (ByteArray × ByteArray)) (j : Nat) (h : j < F.length), ((flatF F).drop (j * 2)).take 2 = [Value.string (F[j]).1, Value.string (F[j]).2]
  | [], j, h => by simp at h
  | f :: t, 0, h => by simp [flatF]
  | f :: t, j + 1, h => by
    have ih := flatF_get t j (by simpa using h)
    rw [show (j + 1) * 2 = j * 2 + 1 + 1 by omega, flatF, List.flatMap_cons]
    simpa [flatF] using ih
theorem flatF_cells {w : World} {S : Nat → Prop} {b : Nat} : ∀ (F : List (ByteArray × ByteArray)) (q : Nat), liesF w S F b q → ∀ j u, (flatF F)[j]? = some u → w.cell? ⟨b, q + j, none⟩ = some u
  | [], q, h, j, u, hu => by simp [flatF] at hu
  | f :: t, q, h, 0, u, hu => by
    obtain ⟨_, _, _, hr⟩ := h 0 (by simp)
    simp [flatF] at hu
    subst hu
    have := (row2 hr).1
    simpa using this
  | f :: t, q, h, 1, u, hu => by
    obtain ⟨_, _, _, hr⟩ := h 0 (by simp)
    simp [flatF] at hu
    subst hu
    have := (row2 hr).2
    simpa using this
  | f :: t, q, h, j + 2, u, hu => by
    have ih := flatF_cells t (q + 2) (fun i hi => by
      have := h (i + 1) (by simpa using hi)
      rw [show q + (i + 1) * 2 = q + 2 + i * 2 by omega] at this
      simpa using this) j u (by simpa [flatF] using hu)
    rw [show q + (j + 2) = q + 2 + j by omega]
    exact ih
theorem keys_cells {w : World} {S : Nat → Prop} {b q : Nat} {K : List ByteArray} (h : liesK w S K b q) : ∀ j u, (K.map Value.string)[j]? = some u → w.cell? ⟨b, q + j, none⟩ = some u := by
  intro j u hu
  rw [List.getElem?_map] at hu
  obtain ⟨x, hx, rfl⟩ := Option.map_eq_some_iff.1 hu
  obtain ⟨hj, rfl⟩ := List.getElem?_eq_some_iff.1 hx
  have := (h j hj).2.2 0 _ rfl
  simpa using this
theorem headed_row {g n cap : Nat} (h1 : n ≤ cap) (h2 : cap ≤ maxLen) : Headed (some ⟨g, 0, none⟩) n cap g 0 := ⟨h1, h2, .inr rfl, fun h => by cases h⟩
theorem headed_none : Headed none 0 0 0 0 := ⟨Nat.le_refl _, by simp [maxLen], .inl rfl, fun _ => rfl⟩
theorem own_fields {w : World} {N : Nat} {v : Value} {F : List (ByteArray × ByteArray)} (h : w.ownsRow N 47 2 v F.length (flatF F)) (hs : ∀ (j : Nat) (h : j < F.length), (F[j]).1.size ≤ maxLen ∧ (F[j]).2.size ≤ maxLen) :
    ∃ a c g, v = .slice a F.length c ∧ Headed a F.length c g 0 ∧ liesF w (fun x => N ≤ x ∧ x < w.heap.size) F g 0 := by
  rcases h.2 with ⟨rfl, e⟩ | ⟨g, cap, cur, rfl, hb, hg, hc1, hc2, _⟩
  · obtain rfl : F = [] := List.length_eq_zero_iff.1 e
    exact ⟨none, 0, 0, rfl, headed_none, fun j hj => by simp at hj⟩
  · refine ⟨_, cap, g, rfl, headed_row hc1 hc2, fun j hj => ⟨⟨hb, (Array.getElem?_eq_some_iff.1 hg).1⟩, (hs j hj).1, (hs j hj).2, ?_⟩⟩
    have := rowAt_of_own h j
    rwa [flatF_get F j hj] at this
theorem own_keys {w : World} {N : Nat} {v : Value} {K : List ByteArray} (h : w.ownsRow N 9 1 v K.length (K.map Value.string)) (hs : ∀ (j : Nat) (h : j < K.length), (K[j]).size ≤ maxLen) :
    ∃ a c g, v = .slice a K.length c ∧ Headed a K.length c g 0 ∧ liesK w (fun x => N ≤ x ∧ x < w.heap.size) K g 0 := by
  rcases h.2 with ⟨rfl, e⟩ | ⟨g, cap, cur, rfl, hb, hg, hc1, hc2, _⟩
  · obtain rfl : K = [] := List.length_eq_zero_iff.1 e
    exact ⟨none, 0, 0, rfl, headed_none, fun j hj => by simp at hj⟩
  · refine ⟨_, cap, g, rfl, headed_row hc1 hc2, fun j hj => ⟨⟨hb, (Array.getElem?_eq_some_iff.1 hg).1⟩, hs j hj, ?_⟩⟩
    have := rowAt_of_own h j
    have e : ((K.map Value.string).drop (j * 1)).take 1 = [Value.string K[j]] := by
      rw [Nat.mul_one, List.drop_eq_getElem_cons (by simpa using hj)]
      simp
    rwa [e] at this
/-- the three blocks of the call -/
structure TyF (w : World) (box loc : Array Value) (wr : World) : Prop where
  below : Below w.heap.size w wr
  b0 : wr.heap[w.heap.size]? = some (.cells box 26 (0, 0))
  b1 : wr.heap[w.heap.size + 1]? = some (.cells #[.string ⟨#[]⟩, .int .i64 0, .bool false, .slice none 0 0, .string ⟨#[]⟩, .int .i64 0, .slice none 0 0, .slice none 0 0] 26 (0, 0))
  b2 : wr.heap[w.heap.size + 1 + 1]? = some (.cells loc 26 (0, 0))
theorem TyF.lt {w : World} {box loc : Array Value} {wr : World} (h : TyF w box loc wr) : w.heap.size + 3 ≤ wr.heap.size := (Array.getElem?_eq_some_iff.1 h.b2).1
theorem TyF.grown {w : World} {box loc : Array Value} {wr wr' : World} (h : TyF w box loc wr) {row : Option Nat} (g : wr.grownBy wr' row) (hr : ∀ r, row = some r → w.heap.size + 3 ≤ r) : TyF w box loc wr' := by
  have hs := h.lt
  have hn : ∀ q, q < w.heap.size + 3 → some q ≠ row := fun q hq e => by have := hr q e.symm; omega
  exact ⟨h.below.grown g (by omega) (fun r e => by have := hr r e; omega), (g.block _ (by omega) (hn _ (by omega))).trans h.b0, (g.block _ (by omega) (hn _ (by omega))).trans h.b1, (g.block _ (by omega) (hn _ (by omega))).trans h.b2⟩
theorem TyF.set {w : World} {box loc loc' : Array Value} {wr : World} (h : TyF w box loc wr) (i : Nat) (u : Value) (e : loc.setIfInBounds i u = loc') : TyF w box loc' (wr.setCell ⟨w.heap.size + 1 + 1, i, none⟩ u) := by
  have hs := h.lt
  have g := grown_set1 wr (w.heap.size + 1 + 1) i u
  have hn : ∀ q, q < w.heap.size + 2 → some q ≠ some (w.heap.size + 1 + 1) := fun q hq e => by have := Option.some.inj e; omega
  refine ⟨h.below.grown g (by omega) (fun r e => by cases e; omega), (g.block _ (by omega) (hn _ (by omega))).trans h.b0, (g.block _ (by omega) (hn _ (by omega))).trans h.b1, ?_⟩
  rw [set_block h.b2, e]
theorem Below.set8 {B M : Nat} {a w : World} (h : Below B a w) (hM : B ≤ M) (i1 i2 i3 i4 i5 i6 i7 i8 : Nat) (u1 u2 u3 u4 u5 u6 u7 u8 : Value) :
    Below B a ((((((((w.setCell ⟨M, i1, none⟩ u1).setCell ⟨M, i2, none⟩ u2).setCell ⟨M, i3, none⟩ u3).setCell ⟨M, i4, none⟩ u4).setCell ⟨M, i5, none⟩ u5).setCell ⟨M, i6, none⟩ u6).setCell ⟨M, i7, none⟩ u7).setCell ⟨M, i8, none⟩ u8) := by
  repeat (refine Below.setCell ?_ (by assumption) _)
  exact h
theorem tlies_set8 {w : World} {M : Nat} {T : Nat → Prop} {t : Ty} {cs : List Value} (h : t.lies w T cs) (hM : ¬ T M) (i1 i2 i3 i4 i5 i6 i7 i8 : Nat) (u1 u2 u3 u4 u5 u6 u7 u8 : Value) :
    t.lies ((((((((w.setCell ⟨M, i1, none⟩ u1).setCell ⟨M, i2, none⟩ u2).setCell ⟨M, i3, none⟩ u3).setCell ⟨M, i4, none⟩ u4).setCell ⟨M, i5, none⟩ u5).setCell ⟨M, i6, none⟩ u6).setCell ⟨M, i7, none⟩ u7).setCell ⟨M, i8, none⟩ u8) T cs :=
  Ty.lies_keep (fun x hx => by have : x ≠ M := (fun e => hM (e ▸ hx)); repeat (rw [set_other this])) (fun x hx => hx) h
theorem grown_new {a b c : World} {M : Nat} {row : Option Nat} (h : a.grownBy b (some M)) (g : b.grownBy c row) (hr : ∀ r, row = some r → a.heap.size ≤ r) : a.grownBy c (some M) :=
  ⟨g.os.trans h.os, g.tape.trans h.tape, g.output.trans h.output, Nat.le_trans h.size g.size, fun i hi hn => (g.block i (Nat.lt_of_lt_of_le hi h.size) (fun e => by have := hr i e.symm; omega)).trans (h.block i hi hn)⟩
theorem info47 : (Tryd.prog.info? 47).map (fun i => (i.zero, i.size, i.bytes)) = some (some (.agg #[.string ⟨#[]⟩, .string ⟨#[]⟩]), 2, 32) := by kernel_rfl
theorem info9 : (Tryd.prog.info? 9).map (fun i => (i.zero, i.size, i.bytes)) = some (some (.string ⟨#[]⟩), 1, 16) := by kernel_rfl
def TtPost (t : Ty) (S : Nat → Prop) (w : World) (e : Ending) (w' : World) : Prop := ∃ cs : List Value, e = .returned (.agg cs.toArray) ∧ t.lies w' (Tw S w w') cs ∧ Below w.heap.size w w'
set_option maxHeartbeats 4000000 in
set_option maxRecDepth 100000 in
theorem twintype_any (t : Ty) (S : Nat → Prop) (cs : List Value) (w : World) (hl : t.lies w S cs) (hS : ∀ b, S b → b < w.heap.size) (hfew : t.few) :
    Calls Tryd.prog 6 #[.agg cs.toArray] w (TtPost t S w) := by
  obtain ⟨nm, k, a, F, el, rl, K, E⟩ := t
  obtain ⟨af, cf, bf, qf, ak, ck, bk, qk, ae, ce, be, qe, rfl, hk, hr, hnm, hel, haf, hak, hae, hF, hK, hE⟩ := hl
  obtain ⟨fw1, fw2, fw3⟩ := hfew
  dsimp only at hk hr hnm hel haf hak hae hF hK hE fw1 fw2 fw3 ⊢
  have HF := hmk hF
  have HK := hmk hK
  have HE := hmk hE
  have HS := hmk hS
  clear hF hK hE
  have hlm := wtL_len E
  have hle : E.length ≤ 2147483647 := by omega
  obtain ⟨iF, hiF, hzF0, hzF1, hzF2⟩ := info_parts info47
  obtain ⟨iK, hiK, hzK0, hzK1, hzK2⟩ := info_parts info9
  obtain ⟨i0, hi0, hz0, hz1, hz2⟩ := info_parts info25
  have HIF : Hid (Tryd.prog.info? 47 = some iF ∧ iF.zero = some (.agg #[.string ⟨#[]⟩, .string ⟨#[]⟩]) ∧ iF.size = 2 ∧ iF.bytes = 32) := ⟨hiF, hzF0, hzF1, hzF2⟩
  have HIK : Hid (Tryd.prog.info? 9 = some iK ∧ iK.zero = some (.string ⟨#[]⟩) ∧ iK.size = 1 ∧ iK.bytes = 16) := ⟨hiK, hzK0, hzK1, hzK2⟩
  have hI : Hid (Tryd.prog.info? 29 = some i0 ∧ i0.zero = some (.agg #[.int .i64 0, .bool false, .int .i64 0, .string ⟨#[]⟩, .slice none 0 0, .slice none 0 0]) ∧ i0.size = 6 ∧ i0.bytes = 88) := ⟨hi0, hz0, hz1, hz2⟩
  clear hi0 hz0 hz1 hz2 hiF hzF0 hzF1 hzF2 hiK hzK0 hzK1 hzK2
  have t0 : TyF w #[.string nm, .int .i64 k, .bool a, .slice af F.length cf, .string el, .int .i64 rl, .slice ak K.length ck, .slice ae E.length ce] #[.string nm, .int .i64 k, .bool a, .slice none 0 0, .string el, .int .i64 rl, .slice none 0 0, .slice none 0 0] (((w.alloc (.cells #[.string nm, .int .i64 k, .bool a, .slice af F.length cf, .string el, .int .i64 rl, .slice ak K.length ck, .slice ae E.length ce] 26)).alloc (.cells #[.string ⟨#[]⟩, .int .i64 0, .bool false, .slice none 0 0, .string ⟨#[]⟩, .int .i64 0, .slice none 0 0, .slice none 0 0] 26)).alloc (.cells #[.string nm, .int .i64 k, .bool a, .slice none 0 0, .string el, .int .i64 rl, .slice none 0 0, .slice none 0 0] 26)) := ⟨three_below w _ _ _, (three_allocs w _ _ _).1, (three_allocs w _ _ _).2.1, (three_allocs w _ _ _).2.2⟩
  have z0 : (((w.alloc (.cells #[.string nm, .int .i64 k, .bool a, .slice af F.length cf, .string el, .int .i64 rl, .slice ak K.length ck, .slice ae E.length ce] 26)).alloc (.cells #[.string ⟨#[]⟩, .int .i64 0, .bool false, .slice none 0 0, .string ⟨#[]⟩, .int .i64 0, .slice none 0 0, .slice none 0 0] 26)).alloc (.cells #[.string nm, .int .i64 k, .bool a, .slice none 0 0, .string el, .int .i64 rl, .slice none 0 0, .slice none 0 0] 26)).heap.size = w.heap.size + 1 + 1 + 1 := by rw [alloc_size, alloc_size, alloc_size]
  have HF1 : Hid (∀ u ∈ flatF F, u.oneCell' = true) := fun u hu => by
    simp only [flatF, List.mem_flatMap] at hu
    obtain ⟨f, _, hu⟩ := hu
    simp at hu
    rcases hu with rfl | rfl <;> rfl
  have HK1 : Hid (∀ u ∈ K.map Value.string, u.oneCell' = true) := fun u hu => by
    obtain ⟨x, _, rfl⟩ := List.mem_map.1 hu
    rfl
  have HFc : Hid (∀ j u, (flatF F)[j]? = some u → (((w.alloc (.cells #[.string nm, .int .i64 k, .bool a, .slice af F.length cf, .string el, .int .i64 rl, .slice ak K.length ck, .slice ae E.length ce] 26)).alloc (.cells #[.string ⟨#[]⟩, .int .i64 0, .bool false, .slice none 0 0, .string ⟨#[]⟩, .int .i64 0, .slice none 0 0, .slice none 0 0] 26)).alloc (.cells #[.string nm, .int .i64 k, .bool a, .slice none 0 0, .string el, .int .i64 rl, .slice none 0 0, .slice none 0 0] 26)).cell? ⟨bf, qf + j, none⟩ = some u) := flatF_cells F qf (liesF_keep (fun x hx => t0.below.block x (HS.out x hx)) (fun _ h => h) HF.out)
  have T0 := hmk t0
  clear t0
  go_enter Tryd.func6, Tryd.ntmps6
  go_wp2_with (at_builtin; go_loud (refine wpl_spread rfl (.tmp 18) (.tmp 20) 22 rfl 47 iF _ 2 32 Tryd.underlying22 HIF.out.1 HIF.out.2.1 HIF.out.2.2.1 HIF.out.2.2.2 rfl (by decide) (by decide) rfl af F.length cf bf qf rfl haf (flatF F) (flatF_len F) HFc.out HF1.out fw1 ?_))
  intro fv w1 of1 g1
  have t1 := T0.out.grown g1 (fun r e => by cases e)
  clear HFc
  generalize (((w.alloc (.cells #[.string nm, .int .i64 k, .bool a, .slice af F.length cf, .string el, .int .i64 rl, .slice ak K.length ck, .slice ae E.length ce] 26)).alloc (.cells #[.string ⟨#[]⟩, .int .i64 0, .bool false, .slice none 0 0, .string ⟨#[]⟩, .int .i64 0, .slice none 0 0, .slice none 0 0] 26)).alloc (.cells #[.string nm, .int .i64 k, .bool a, .slice none 0 0, .string el, .int .i64 rl, .slice none 0 0, .slice none 0 0] 26)) = W0 at *
  obtain ⟨fa, fc, fg, rfl, hdF, hlF⟩ := own_fields of1 (fun j hj => ⟨(HF.out j hj).2.1, (HF.out j hj).2.2.1⟩)
  clear of1
  have c3 : w1.cell? ⟨w.heap.size + 1 + 1, 3, none⟩ = some (.slice none 0 0) := by rw [cell_of_block t1.b2]; rfl
  have c3f : w1.frozen? ⟨w.heap.size + 1 + 1, 3, none⟩ = false := frozen_of_block t1.b2 3
  have t2 := t1.set 3 (.slice fa F.length fc) rfl
  have hz1 := g1.size
  have HlF : Hid (liesF (w1.setCell ⟨w.heap.size + 1 + 1, 3, none⟩ (.slice fa F.length fc)) (fun x => w.heap.size + 3 ≤ x ∧ x < (w1.setCell ⟨w.heap.size + 1 + 1, 3, none⟩ (.slice fa F.length fc)).heap.size) F fg 0) := liesF_keep (fun x hx => set_other (by have := hx.1; omega)) (fun x hx => ⟨by have := hx.1; omega, by rw [size_set1]; exact hx.2⟩) hlF
  have HKc : Hid (∀ j u, (K.map Value.string)[j]? = some u → (w1.setCell ⟨w.heap.size + 1 + 1, 3, none⟩ (.slice fa F.length fc)).cell? ⟨bk, qk + j, none⟩ = some u) := keys_cells (liesK_keep (fun x hx => t2.below.block x (HS.out x hx)) (fun _ h => h) HK.out)
  have c6 : (w1.setCell ⟨w.heap.size + 1 + 1, 3, none⟩ (.slice fa F.length fc)).cell? ⟨w.heap.size + 1 + 1, 6, none⟩ = some (.slice none 0 0) := by rw [cell_of_block t2.b2]; rfl
  have c6' : (w1.setCell ⟨w.heap.size + 1 + 1, 3, none⟩ (.slice fa F.length fc)).cell? ⟨w.heap.size, 6, none⟩ = some (.slice ak K.length ck) := by rw [cell_of_block t2.b0]; rfl
  have T2 := hmk t2
  clear hlF t1 t2 g1
  go_wp2_with (at_builtin; go_loud (refine wpl_spread rfl (.tmp 24) (.tmp 26) 23 rfl 9 iK _ 1 16 Tryd.underlying23 HIK.out.1 HIK.out.2.1 HIK.out.2.2.1 HIK.out.2.2.2 rfl (by decide) (by decide) rfl ak K.length ck bk qk rfl hak (K.map Value.string) (by simp) HKc.out HK1.out fw2 ?_))
  intro kv w2 ok2 g2
  clear c3 c3f HKc c6 c6' HK1 HF1
  generalize w1.setCell ⟨w.heap.size + 1 + 1, 3, none⟩ (.slice fa F.length fc) = W1 at *
  have t3 := T2.out.grown g2 (fun r e => by cases e)
  have z2 := T2.out.lt
  have hz2 := g2.size
  obtain ⟨ka, kc, kg, rfl, hdK, hlK⟩ := own_keys ok2 (fun j hj => (HK.out j hj).2.1)
  clear ok2
  have c6 : w2.cell? ⟨w.heap.size + 1 + 1, 6, none⟩ = some (.slice none 0 0) := by rw [cell_of_block t3.b2]; rfl
  have c6f : w2.frozen? ⟨w.heap.size + 1 + 1, 6, none⟩ = false := frozen_of_block t3.b2 6
  have t4 := t3.set 6 (.slice ka K.length kc) rfl
  have HlF2 : Hid (liesF (w2.setCell ⟨w.heap.size + 1 + 1, 6, none⟩ (.slice ka K.length kc)) (fun x => w.heap.size + 3 ≤ x ∧ x < (w2.setCell ⟨w.heap.size + 1 + 1, 6, none⟩ (.slice ka K.length kc)).heap.size) F fg 0) := liesF_keep (fun x hx => (set_other (by have := hx.1; omega)).trans (g2.block x hx.2 (by simp))) (fun x hx => ⟨hx.1, by rw [size_set1]; have := hx.2; omega⟩) HlF.out
  have HlK : Hid (liesK (w2.setCell ⟨w.heap.size + 1 + 1, 6, none⟩ (.slice ka K.length kc)) (fun x => w.heap.size + 3 ≤ x ∧ x < (w2.setCell ⟨w.heap.size + 1 + 1, 6, none⟩ (.slice ka K.length kc)).heap.size) K kg 0) := liesK_keep (fun x hx => set_other (by have := hx.1; omega)) (fun x hx => ⟨by have := hx.1; omega, by rw [size_set1]; exact hx.2⟩) hlK
  have T4 := hmk t4
  clear hlK t3 t4 g2 HlF T2 HF HK
  go_wp2_with fail
  clear c6 c6f
  generalize w2.setCell ⟨w.heap.size + 1 + 1, 6, none⟩ (.slice ka K.length kc) = wA at *
  have zA := T4.out.lt
  clear z2 hz2 hz1
  go_loopw [4] (fun e wr => ∃ (j : Nat) (sev : Value) (SE : Nat → Prop), j ≤ E.length ∧ e = .int .i64 (j : Int) ∧ TyF w #[.string nm, .int .i64 k, .bool a, .slice af F.length cf, .string el, .int .i64 rl, .slice ak K.length ck, .slice ae E.length ce] #[.string nm, .int .i64 k, .bool a, .slice fa F.length fc, .string el, .int .i64 rl, .slice ka K.length kc, sev] wr ∧ wA.grownBy wr (some (w.heap.size + 1 + 1)) ∧ OwnL false wr 0 SE sev ((E.map some).take j) ∧ Hid (∀ r, sev.ownBlock = some r → wA.heap.size ≤ r) ∧ Hid (∀ b, SE b → S b ∨ wA.heap.size ≤ b)) (fun e _ => E.length - (RowKit.intOf e).toNat)
  case atStart => exact ⟨0, _, _, by omega, rfl, T4.out, World.grownBy.refl _ _, by simpa using OwnR.nil _ _, fun r h => by simp [Value.ownBlock] at h, fun b (h : False) => h.elim⟩
  case round =>
    obtain ⟨j, sev, SE, hj, rfl, tj, gj, oj, HO, HSE⟩ := hrel
    have d7 : wr.cell? ⟨w.heap.size, 7, none⟩ = some (.slice ae E.length ce) := by rw [cell_of_block tj.b0]; rfl
    have hwr : w.heap.size + 3 ≤ wr.heap.size := tj.lt
    have hAr := gj.size
    by_cases hjl : j < E.length
    · have y3 : (j : Int) < E.length := by omega
      obtain ⟨hSb, csj, hrow, hlj⟩ := liesL_get HE.out j hjl
      obtain rfl : ae = some ⟨be, qe, none⟩ := hae.at_.resolve_left (by omega)
      have hkw : ∀ b, S b → wr.heap[b]? = w.heap[b]? := fun b hb => tj.below.block b (hS b hb)
      have hrow' := hrow.keep (hkw _ hSb)
      have hlj' := V.lies_keep (R' := false) (S' := S) (fun h => h) hkw (fun _ h => h) _ hlj
      have hwj : (E[j]).wt ≤ 2147483648 := by have := wtL_mem (List.getElem_mem hjl); omega
      have ih := hmk (twin_any E[j] S csj wr hlj' (fun b hb => Nat.lt_of_lt_of_le (hS b hb) tj.below.size) hwj)
      have HT : Hid ((E.map some).take (j + 1) = (E.map some).take j ++ [some E[j]]) := by show _ = _; rw [List.take_succ_eq_append_getElem (by simpa using hjl), List.getElem_map]
      obtain ⟨ek, eb, ei, es, eal, enl, ecl, eam, enm, ecm, rfl⟩ := V.ten hlj'
      obtain ⟨q0, q1, q2, q3, q4, q5⟩ := row6 hrow'
      have hll : ((E.map some).take j).length = j := by simp; omega
      obtain ⟨xv, hxv⟩ : ∃ xv, E[j] = xv := ⟨_, rfl⟩
      rw [hxv] at ih HT
      clear hlj hrow hrow' hlj' hxv hwj
      go_wp2_with fail
      refine ih.out.mono ?_
      rintro e w3 ⟨csu, rfl, hx3, bl3⟩
      obtain ⟨uk, ub, ui, us, ual, unl, ucl, uam, unm, ucm, rfl⟩ := V.ten hx3
      have t3 := tj.grown (grown_of_below bl3) (fun r e => by cases e)
      have o3 := oj.below (keepL false) bl3
      have g3 := grown_new gj (grown_of_below bl3) (fun r e => by cases e)
      have e4 : ∀ o, (w3.alloc o).cell? ⟨w.heap.size + 1 + 1, 7, none⟩ = some sev := fun o => by rw [cell_of_block (t3.grown (World.grownBy_alloc w3 o none) (fun r e => by cases e)).b2]; rfl
      have hw3 : w.heap.size + 3 ≤ w3.heap.size := t3.lt
      have hz3 := bl3.size
      have hown : ∀ r, sev.ownBlock = some r → wA.heap.size ≤ r ∧ r < wr.heap.size := fun r hr => ⟨HO.out r hr, (oj.lt hr).2⟩
      have HKk : Hid (∀ b, Tw S wr w3 b → 0 ≤ b ∧ b < w3.heap.size ∧ some b ≠ sev.ownBlock) := fun b hb => by
        rcases hb with hb | hb
        · have := HS.out b hb
          exact ⟨Nat.zero_le _, by omega, fun e => by have := (hown b e.symm).1; omega⟩
        · exact ⟨Nat.zero_le _, hb.2, fun e => by have := (hown b e.symm).2; omega⟩
      go_wp2_with (at_builtin; go_loud (refine wpl_push (keepL false) _ rfl (.tmp 43) (.tmp 45) 24 rfl 0 i0 _ 88 Tryd.underlying24 hI.out.1 hI.out.2.1 hI.out.2.2.1 hI.out.2.2.2 rfl (by decide) (by decide) sev (some xv) rfl ((o3.alloc (keepL false) _).alloc (keepL false) _) (w3.heap.size + 1) 1 (0, 0) rfl (alloc2_new w3 _ _) rfl one6 (keepL false _ _ _ _ _ _ (fun b hb => alloc2_keep w3 _ _ (HKk.out b hb).2.1) (fun _ h => h) hx3) (fun b hb => alloc2_off (HKk.out b hb)) (by rw [hll]; omega) (Nat.zero_le _) ?_))
      intro g cap w5 o5 g5 e5
      have t5 := ((t3.grown (World.grownBy_alloc w3 _ none) (fun r e => by cases e)).grown (World.grownBy_alloc _ _ none) (fun r e => by cases e)).grown g5 (fun r e => by have := (hown r e).1; omega)
      have G5 := grown_new (grown_new (grown_new g3 (World.grownBy_alloc w3 _ none) (fun r e => by cases e)) (World.grownBy_alloc _ _ none) (fun r e => by cases e)) g5 (fun r e => (hown r e).1)
      have hg : wA.heap.size ≤ g := by
        rcases e5 with e | e
        · exact (hown g e).1
        · (try rw [alloc_size, alloc_size] at e); omega
      have HS5 : Hid (∀ b, SE b ∨ Tw S wr w3 b → S b ∨ wA.heap.size ≤ b) := fun b hb => by
        rcases hb with hb | hb | hb
        · exact HSE.out b hb
        · exact .inl hb
        · exact .inr (by have := hb.1; omega)
      have HN5 : Hid (¬ (SE (w.heap.size + 1 + 1) ∨ Tw S wr w3 (w.heap.size + 1 + 1))) := fun hb => by
        rcases HS5.out _ hb with h | h
        · have := HS.out _ h; omega
        · omega
      have e6 : w5.cell? ⟨w.heap.size + 1 + 1, 7, none⟩ = some sev := by rw [cell_of_block t5.b2]; rfl
      have e7 : w5.frozen? ⟨w.heap.size + 1 + 1, 7, none⟩ = false := frozen_of_block t5.b2 7
      go_wp2_with fail
      go_roundw
      case rel => exact ⟨j + 1, _, _, by omega, by go_num, t5.set 7 _ rfl, grown_set G5 _ _, by rw [HT.out]; exact o5.set0 (keepL false) HN5.out (fun e => by simp [Value.ownBlock] at e; omega) _ _, fun r e => by (simp [Value.ownBlock] at e; omega), HS5.out⟩
      case measure => simp [RowKit.intOf]; omega
    · obtain rfl : j = E.length := by omega
      have hlt : (E.map some).take E.length = E.map some := by rw [List.take_of_length_le (by simp)]
      rw [hlt] at oj
      clear hlt
      have y3 : ¬ (E.length : Int) < E.length := by omega
      obtain ⟨sa, sc, sb, so, rfl, hdl, hLs⟩ := own_listL0 (T := fun b => S b ∨ (w.heap.size + 3 ≤ b ∧ b < wr.heap.size)) oj (fun b hb => (HSE.out b hb).imp id (fun h => ⟨by omega, (oj.off b hb).2.1⟩)) (fun g hg => .inr ⟨by have := HO.out g hg; omega, (oj.lt hg).2⟩)
      have HL : Hid (Ty.lies wr (fun b => S b ∨ (w.heap.size + 3 ≤ b ∧ b < wr.heap.size)) ⟨nm, k, a, F, el, rl, K, E⟩ [.string nm, .int .i64 k, .bool a, .slice fa F.length fc, .string el, .int .i64 rl, .slice ka K.length kc, .slice sa E.length sc]) :=
        ⟨fa, fc, fg, 0, ka, kc, kg, 0, sa, sc, sb, so, rfl, hk, hr, hnm, hel, hdF, hdK, hdl, liesF_keep (fun x hx => gj.block x hx.2 (fun e => by have := Option.some.inj e; have := hx.1; omega)) (fun x hx => .inr ⟨hx.1, by have := hx.2; omega⟩) HlF2.out, liesK_keep (fun x hx => gj.block x hx.2 (fun e => by have := Option.some.inj e; have := hx.1; omega)) (fun x hx => .inr ⟨hx.1, by have := hx.2; omega⟩) HlK.out, hLs⟩
      have x0 : wr.cell? ⟨w.heap.size + 1 + 1, 0, none⟩ = some (.string nm) := by rw [cell_of_block tj.b2]; rfl
      have x1 : wr.cell? ⟨w.heap.size + 1 + 1, 1, none⟩ = some (.int .i64 k) := by rw [cell_of_block tj.b2]; rfl
      have x2 : wr.cell? ⟨w.heap.size + 1 + 1, 2, none⟩ = some (.bool a) := by rw [cell_of_block tj.b2]; rfl
      have x3 : wr.cell? ⟨w.heap.size + 1 + 1, 3, none⟩ = some (.slice fa F.length fc) := by rw [cell_of_block tj.b2]; rfl
      have x4 : wr.cell? ⟨w.heap.size + 1 + 1, 4, none⟩ = some (.string el) := by rw [cell_of_block tj.b2]; rfl
      have x5 : wr.cell? ⟨w.heap.size + 1 + 1, 5, none⟩ = some (.int .i64 rl) := by rw [cell_of_block tj.b2]; rfl
      have x6 : wr.cell? ⟨w.heap.size + 1 + 1, 6, none⟩ = some (.slice ka K.length kc) := by rw [cell_of_block tj.b2]; rfl
      have x7 : wr.cell? ⟨w.heap.size + 1 + 1, 7, none⟩ = some (.slice sa E.length sc) := by rw [cell_of_block tj.b2]; rfl
      have r0 : wr.cell? ⟨w.heap.size + 1, 0, none⟩ = some (.string ⟨#[]⟩) := by rw [cell_of_block tj.b1]; rfl
      have r1 : wr.cell? ⟨w.heap.size + 1, 1, none⟩ = some (.int .i64 0) := by rw [cell_of_block tj.b1]; rfl
      have r2 : wr.cell? ⟨w.heap.size + 1, 2, none⟩ = some (.bool false) := by rw [cell_of_block tj.b1]; rfl
      have r3 : wr.cell? ⟨w.heap.size + 1, 3, none⟩ = some (.slice none 0 0) := by rw [cell_of_block tj.b1]; rfl
      have r4 : wr.cell? ⟨w.heap.size + 1, 4, none⟩ = some (.string ⟨#[]⟩) := by rw [cell_of_block tj.b1]; rfl
      have r5 : wr.cell? ⟨w.heap.size + 1, 5, none⟩ = some (.int .i64 0) := by rw [cell_of_block tj.b1]; rfl
      have r6 : wr.cell? ⟨w.heap.size + 1, 6, none⟩ = some (.slice none 0 0) := by rw [cell_of_block tj.b1]; rfl
      have r7 : wr.cell? ⟨w.heap.size + 1, 7, none⟩ = some (.slice none 0 0) := by rw [cell_of_block tj.b1]; rfl
      have rf : ∀ i, wr.frozen? ⟨w.heap.size + 1, i, none⟩ = false := frozen_of_block tj.b1
      have hB7 := tj.below
      clear oj tj hLs HE T4 HlF2 HlK gj
      go_wp2_with fail
      (try simp only [Exit.inBlock, Exit.then])
      refine bodyPost_ret (v := .agg #[.string nm, .int .i64 k, .bool a, .slice fa F.length fc, .string el, .int .i64 rl, .slice ka K.length kc, .slice sa E.length sc]) ?_ rfl ?_
      · rw [results_cell1 rfl]
        go_simp
      · refine ⟨[.string nm, .int .i64 k, .bool a, .slice fa F.length fc, .string el, .int .i64 rl, .slice ka K.length kc, .slice sa E.length sc], rfl, ?_, Below.set8 hB7 (by omega) _ _ _ _ _ _ _ _ _ _ _ _ _ _ _ _⟩
        exact Ty.lies_keep (fun _ _ => rfl) (fun x hx => hx.imp id (fun h => ⟨by have := h.1; omega, by simp only [size_set1]; exact h.2⟩)) (tlies_set8 HL.out (fun h => by
          rcases h with h | h
          · have := HS.out _ h; omega
          · have := h.1; omega) _ _ _ _ _ _ _ _ _ _ _ _ _ _ _ _)
end Go.Proofs.YtaecmgkckefgoaaDoor
