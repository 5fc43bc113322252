/- joined: TwcR BtwB -/
import Derived.Test.YtjfldbmopjojdaaDoorTwcQ
/- MergepatchTwice: what Get tells of a patch, a value and what comes out. -/
set_option linter.unusedSimpArgs false
set_option linter.unusedVariables false
namespace Go.Proofs.YtjfldbmopjojdaaDoor
open Go.RowKit Go.Lib
theorem lk_at : ∀ {l : List Mem} {key : ByteArray} {p : Nat} (h : p < l.length), Srt l → (l[p]).1.toList = key.toList → lk l key = some (l[p]).2
  | [], key, p, h, _, _ => by simp at h
  | y :: t, key, 0, h, hs, e => by
    obtain ⟨k, x⟩ := y
    exact lk_hit e
  | y :: t, key, p + 1, h, hs, e => by
    obtain ⟨k, x⟩ := y
    obtain ⟨s1, s2⟩ := srt_tail hs
    have hp : p < t.length := by simpa using h
    have e' : (t[p]).1.toList = key.toList := e
    have hne : ¬ k.toList = key.toList := fun q => lt_ne (s2 t[p] (List.getElem_mem hp)) (q.trans e'.symm)
    rw [lk_no hne]
    exact lk_at hp s1 e'
theorem at_lk {l : List Mem} {key : ByteArray} (hs : Srt l) : atKey l key = (match lk l key with | some x => (x, true) | none => (nullV, false)) := by
  by_cases hp : posF l key < l.length
  · by_cases hk : (l[posF l key]).1.toList = key.toList
    · have h1 : keyIs key l[posF l key]? = true := by rw [List.getElem?_eq_getElem hp]; simp [keyIs, hk]
      rw [atKey, if_pos h1, lk_at hp hs hk]
      simp [List.getD, List.getElem?_eq_getElem hp]
    · have h1 : ¬ keyIs key l[posF l key]? = true := by rw [List.getElem?_eq_getElem hp]; simp [keyIs, hk]
      have h2 : lk l key = none := lk_far fun y hy e => by
        obtain ⟨j, hj, rfl⟩ := List.getElem_of_mem hy
        have h3 := pos_less (key := key) hs hj
        rcases Nat.lt_trichotomy j (posF l key) with h | h | h
        · rw [decide_eq_true h] at h3
          exact lt_ne h3 e
        · subst h
          exact hk e
        · have h4 := (List.pairwise_iff_getElem.1 hs) (posF l key) j hp hj h
          have h5 := pos_less (key := key) hs hp
          rw [decide_eq_false (Nat.lt_irrefl _)] at h5
          rw [lt_same' e] at h4
          rw [h5] at h4
          cases h4
      rw [atKey, if_neg h1, h2]
  · have h1 : ¬ keyIs key l[posF l key]? = true := by rw [List.getElem?_eq_none (by omega)]; simp [keyIs]
    have h2 : lk l key = none := lk_far fun y hy e => by
      obtain ⟨j, hj, rfl⟩ := List.getElem_of_mem hy
      have h3 := pos_less (key := key) hs hj
      rw [decide_eq_true (by omega)] at h3
      exact lt_ne h3 e
    rw [atKey, if_neg h1, h2]
def gk (o : Option V) : V × Bool := match o with
  | some x => (x, true)
  | none => (nullV, false)
theorem get_lk {v : V} (h : chkE v 32 = 0) (key : ByteArray) : getV v key = gk (lk (memsOf v) key) := by
  have ok := ok_chk (D := 32) (by omega) h
  rw [getV, if_pos ok.ok, at_lk (gm_mems ok.g).s]
  rfl
theorem lk_chk {v : V} (h : chkE v 32 = 0) (key : ByteArray) : chkE ((lk (memsOf v) key).getD nullV) 32 = 0 := by
  cases hl : lk (memsOf v) key with
  | none => exact chk_null
  | some x =>
    obtain ⟨y, hy, rfl⟩ := lk_mem hl
    exact chk_mem h hy
/-- what the law asks of a key -/
structure TwkF (t p : V) (key : ByteArray) : Prop where
  no : (getV p key).2 = false → getV (pchV t p) key = getV t key
  nul : (getV p key).2 = true → kindOf (getV p key).1 = 0 → (getV (pchV t p) key).2 = false
  yes : (getV p key).2 = true → ¬ kindOf (getV p key).1 = 0 → (getV (pchV t p) key).2 = true ∧ aplF (getV t key).1 (getV p key).1 = ((getV (pchV t p) key).1, 0)
theorem twc_facts {t p : V} (key : ByteArray) (ht : chkE t 32 = 0) (hp : chkE p 32 = 0) (hv : chkE (pchV t p) 32 = 0) (h5 : kindOf p = 5) : TwkF t p key := by
  have h1 := (chk32 t).1 ht
  have h2 := (chk32 p).1 hp
  have e : lk (memsOf (pchV t p)) key = pk pchV (lk (memsOf t) key) (lk (memsOf p) key) := by
    obtain ⟨k, b, i, s, l, m⟩ := p
    obtain rfl : k = 5 := h5
    rw [pch_map h1.1 h2.1]
    exact lk_mrg _ _ (gm_mems h1.1).s (gm_mems h2.1).s
  have c1 := lk_chk ht key
  have c2 := lk_chk hp key
  have c3 := lk_chk hv key
  rw [e] at c3
  refine ⟨?_, ?_, ?_⟩
  all_goals simp only [get_lk ht, get_lk hp, get_lk hv, e]
  all_goals generalize lk (memsOf t) key = a at *
  all_goals generalize lk (memsOf p) key = b at *
  · intro h
    cases b with
    | none => rfl
    | some x => cases h
  · intro h hx
    cases b with
    | none => cases h
    | some x =>
      have hx' : kindOf x = 0 := hx
      rw [pk, if_pos hx']; rfl
  · intro h hx
    cases b with
    | none => cases h
    | some x =>
      have hx' : ¬ kindOf x = 0 := hx
      rw [pk, if_neg hx'] at c3 ⊢
      refine ⟨rfl, ?_⟩
      have ea : (gk a).1 = a.getD nullV := by cases a <;> rfl
      have c2' : chkE x 32 = 0 := c2
      have c3' : chkE (pchV (a.getD nullV) x) 32 = 0 := c3
      show aplF (gk a).1 x = (pchV (a.getD nullV) x, 0)
      rw [ea, aplF, if_pos c1, if_pos c2', if_pos c3']
/-- the second time -/
theorem apl_twice {t p : V} (ht : chkE t 32 = 0) (hp : chkE p 32 = 0) (hv : chkE (pchV t p) 32 = 0) : aplF (pchV t p) p = (pchV t p, 0) := by
  have h1 := (chk32 t).1 ht
  have h2 := (chk32 p).1 hp
  rw [aplF, if_pos hv, if_pos hp, pch_twice p t h1.1 h2.1, if_pos hv]
end Go.Proofs.YtjfldbmopjojdaaDoor
/- a row of the call's own within a range over a function: one round, the end; for whatever places of the boxes. -/
namespace Go.Proofs.YtjfldbmopjojdaaDoor
open Go Go.RowKit Go.Lib Go.Shelf
theorem round_at {S : Nat → Prop} {M B g N cap : Nat} {ps : List (Mem × List Value)} {sl : Value} {W W2 w5 We w6 : World} {x : Mem} {c0 c1 c2 c3 c4 c5 c6 : Value} {ms : List Mem} (hMB : M < B) (hS : ∀ y, S y → y < M) (h6 : w6.heap.size = B) (hB : Below M w6 W) (hps : ps.map (fun q => q.1) = ms) (hN : ps.length = N)
    (ho : OwnC B 57 7 sl (ps.map (fun q => q.2)) W) (hp : ∀ q ∈ ps, PM W (Sq S B sl W) q) (hb : Below W.heap.size W W2) (hx : PM W2 (fun y => S y ∨ (W.heap.size ≤ y ∧ y < W2.heap.size)) (x, [c0, c1, c2, c3, c4, c5, c6]))
    (h5 : w5.ownsRow B 57 7 (.slice (some ⟨g, 0, none⟩) (N + 1) cap) (N + 1) ((ps.map (fun q => q.2)).flatten ++ nul7)) (g5 : W2.grownBy w5 sl.ownBlock) (l5 : sl.ownBlock = some g ∨ W2.heap.size ≤ g)
    (hE : EndP w5 We g M N (.slice (some ⟨g, 0, none⟩) (N + 1) cap) c0 c1 c2 c3 c4 c5 c6) :
    KeepsFrom B W We ∧ Kx B M W We ∧ ∃ sl', We.heap[M]? = some (.cells #[.int .i64 5, .bool false, .int .i64 0, .string ⟨#[]⟩, .slice none 0 0, sl'] 25) ∧ AccK S B (ms ++ [x]) sl' We ∧ Below M w6 We := by
  have hz := hB.size
  have hz2 := hb.size
  have hz5 := g5.size
  have hzE := hE.z_
  have hgB := (World.ownsRow.lt h5 g rfl).1
  have hown : ∀ r, sl.ownBlock = some r → B ≤ r ∧ r < W.heap.size := World.ownsRow.lt ho
  have hcell : ∀ r, sl.ownBlock = some r → ∃ o : Obj, W.heap[r]? = some o ∧ o.isCells = true := fun r hr => by
    rcases ho.2 with ⟨rfl, _⟩ | ⟨g', cap', cur, rfl, _, hg, _⟩
    · cases hr
    · have e : g' = r := Option.some.inj hr
      rw [← e]
      exact ⟨_, hg, rfl⟩
  have hlow : ∀ k, k < W.heap.size → k ≠ M → sl.ownBlock ≠ some k → We.heap[k]? = W.heap[k]? := fun k hk hM hne => by
    have hkg : k ≠ g := by
      rcases l5 with l5 | l5
      · exact fun e => hne (by rw [e]; exact l5)
      · omega
    exact (hE.o_ k hkg hM).trans ((g5.block k (by omega) (fun e => hne e.symm)).trans (hb.block k hk))
  refine ⟨⟨by omega, fun k o hk ho' hc => ?_⟩, ⟨?_, ?_, ?_, by omega, fun k hk hM => hlow k (by omega) hM (fun e => by have := (hown k e).1; omega)⟩, _, hE.m_, ?_, ?_⟩
  · refine (hlow k (Array.getElem?_eq_some_iff.1 ho').1 (by omega) (fun e => ?_)).trans ho'
    obtain ⟨o', h1, h2⟩ := hcell k e
    rw [h1] at ho'
    cases ho'
    rw [h2] at hc; cases hc
  · exact hE.s_.trans (g5.os.trans hb.os)
  · exact hE.t_.trans (g5.tape.trans hb.tape)
  · exact hE.p_.trans (g5.output.trans hb.output)
  · rw [← hps]
    refine AccK.push (w := W2) (fun y hy => by have := hS y hy; omega) (by omega) (fun h => by have := hS _ h; omega) hN (ho.below hb) (fun q hq => (hp q hq).keep (fun b hb' => hb.block b ?_) (fun b hb' => ?_)) (by omega) (hx.keep (fun _ _ => rfl) (fun y hy => ?_)) h5 g5 l5 hE
    · rcases hb' with h | h
      · have := hS b h; omega
      · exact h.2.1
    · exact hb'.elim .inl (fun h => .inr ⟨h.1, by omega, h.2.2⟩)
    · exact hy.elim .inl (fun h => .inr ⟨by omega, h.2, fun e => by have := (hown y e).2; omega⟩)
  · exact hB.trans ⟨hE.s_.trans (g5.os.trans hb.os), hE.t_.trans (g5.tape.trans hb.tape), hE.p_.trans (g5.output.trans hb.output), by omega, fun k hk => hlow k (by omega) (by omega) (fun e => by have := (hown k e).1; omega)⟩
theorem fin_at {S : Nat → Prop} {ms : List Mem} {sl d0 d1 d2 d3 d4 d5 : Value} {ty : TypeId} {W Wf w w6 : World} {D M B R : Nat} (hS : ∀ y, S y → y < w.heap.size) (hw : w.heap.size ≤ R) (hRM : R < M) (hMB : M < B) (bw6 : Below w.heap.size w w6) (h6 : w6.heap.size = B) (bW : Below M w6 W) (acc : AccK S B ms sl W) (hD : B ≤ D) (hK : W.heap[D]? = some (.deferred (some [])))
    (hf : FinP W Wf R D d0 d1 d2 d3 d4 d5 ty) : (V.mk 5 false 0 ⟨#[]⟩ [] ms).lies false Wf (OrNew S w Wf) [.int .i64 5, .bool false, .int .i64 0, .string ⟨#[]⟩, .slice none 0 0, sl] ∧ Below w.heap.size w Wf := by
  have hz := bW.size
  have hzf := hf.z_
  refine ⟨V.lies_keep (fun h => h) (fun y hy => hf.o_ y ?_ ?_) (fun y hy => ?_) _ (lies_cells rfl _ (acc.lies (fun y hy => by have := hS y hy; omega))), ?_⟩
  · rcases hy.1 with h | h
    · have := hS y h; omega
    · omega
  · intro e
    obtain ⟨o, h1, h2⟩ := hy.2
    rw [e, hK] at h1
    cases h1
    cases h2
  · rcases hy.1 with h | h
    · exact .inl h
    · exact .inr ⟨by omega, by omega⟩
  · exact ⟨hf.s_.trans (bW.os.trans bw6.os), hf.t_.trans (bW.tape.trans bw6.tape), hf.p_.trans (bW.output.trans bw6.output), by have := bw6.size; omega, fun k hk => (hf.o_ k (by omega) (by omega)).trans ((bW.block k (by omega)).trans (bw6.block k hk))⟩
end Go.Proofs.YtjfldbmopjojdaaDoor
