/- joined: SpnQ SpnR -/
import Derived.Test.YthgfomblodhoaaaDoorG18
/- spun: what its loops keep. -/
set_option linter.unusedSimpArgs false
set_option linter.unusedVariables false
namespace Go.Proofs.YthgfomblodhoaaaDoor
open Go Go.RowKit Go.Lib
/-- six cells stored at place o of a block -/
structure St6 (g o sz ty : Nat) (W W' : World) (cs : List Value) : Prop where
  h3 : W'.os = W.os ∧ W'.tape = W.tape ∧ W'.output = W.output
  k : Blk g ty sz W'
  size : W'.heap.size = W.heap.size
  o_ : ∀ y, y ≠ g → W'.heap[y]? = W.heap[y]?
  c_ : ∀ q, q < o ∨ o + 6 ≤ q → W'.cell? ⟨g, q, none⟩ = W.cell? ⟨g, q, none⟩
  r : rowAt W' g o cs
theorem st6 {W : World} {g sz o ty : Nat} {c0 c1 c2 c3 c4 c5 : Value} (h : Blk g ty sz W) (ho : o + 6 ≤ sz) : St6 g o sz ty W ((((((W.setCell ⟨g, o, none⟩ c0).setCell ⟨g, o + 1, none⟩ c1).setCell ⟨g, o + 2, none⟩ c2).setCell ⟨g, o + 3, none⟩ c3).setCell ⟨g, o + 4, none⟩ c4).setCell ⟨g, o + 5, none⟩ c5) [c0, c1, c2, c3, c4, c5] := by
  have b0 := h.set o c0
  have b1 := b0.set (o + 1) c1
  have b2 := b1.set (o + 2) c2
  have b3 := b2.set (o + 3) c3
  have b4 := b3.set (o + 4) c4
  have b5 := b4.set (o + 5) c5
  refine ⟨⟨by simp only [set_os], by simp only [set_tape], by simp only [set_output]⟩, b5, by simp only [size_set1], fun y hy => by repeat (rw [set_other hy]), fun q hq => ?_, ?_⟩
  · repeat (rw [cell_set_off (by omega)])
  · intro j u hj
    match j with
    | 0 =>
      obtain rfl : c0 = u := by simpa using hj
      rw [Nat.add_zero]
      repeat (rw [cell_set_off (by omega)])
      exact h.at_ c0 (by omega)
    | 1 =>
      obtain rfl : c1 = u := by simpa using hj
      rw [cell_set_off (by omega), cell_set_off (by omega), cell_set_off (by omega), cell_set_off (by omega)]
      exact b0.at_ c1 (by omega)
    | 2 =>
      obtain rfl : c2 = u := by simpa using hj
      rw [cell_set_off (by omega), cell_set_off (by omega), cell_set_off (by omega)]
      exact b1.at_ c2 (by omega)
    | 3 =>
      obtain rfl : c3 = u := by simpa using hj
      rw [cell_set_off (by omega), cell_set_off (by omega)]
      exact b2.at_ c3 (by omega)
    | 4 =>
      obtain rfl : c4 = u := by simpa using hj
      rw [cell_set_off (by omega)]
      exact b3.at_ c4 (by omega)
    | 5 =>
      obtain rfl : c5 = u := by simpa using hj
      exact b4.at_ c5 (by omega)
    | j + 6 => simp at hj
theorem St6.drew {g o sz ty : Nat} {W W' : World} {cs : List Value} (h : St6 g o sz ty W W' cs) : St6 g o sz ty W W'.drew cs := ⟨h.h3, h.k, h.size, h.o_, h.c_, h.r⟩
theorem St6.ch {g o sz ty : Nat} {W W' : World} {cs : List Value} (h : St6 g o sz ty W W' cs) {S : Nat → Prop} (hg : S g) : Ch S W W' := ⟨h.h3.1, h.h3.2.1, h.h3.2.2, by rw [h.size]; exact Nat.le_refl _, fun y _ hn => h.o_ y (fun e => hn (by rw [e]; exact hg))⟩
theorem St6.row {g o sz ty p : Nat} {W W' : World} {cs ds : List Value} (h : St6 g o sz ty W W' cs) (r : rowAt W g p ds) (hp : p + ds.length ≤ o ∨ o + 6 ≤ p) : rowAt W' g p ds := fun j u hj => by
  have hl : j < ds.length := by
    rcases Nat.lt_or_ge j ds.length with h | h
    · exact h
    · rw [List.getElem?_eq_none h] at hj; cases hj
  rw [h.c_ _ (by omega)]
  exact r j u hj
/-- blocks of the elements: unlike, and old -/
structure SpC (l : List V) (m : List Mem) (ff gf : Nat → List Nat) (N : Nat) : Prop where
  p2 : ∀ i j, i < l.length → j < l.length → i ≠ j → ∀ x ∈ ff i, x ∉ ff j
  r2 : ∀ i j, i < m.length → j < m.length → i ≠ j → ∀ x ∈ gf i, x ∉ gf j
  d : ∀ i j, i < l.length → j < m.length → ∀ x ∈ ff i, x ∉ gf j
  pn : ∀ i, i < l.length → ∀ x ∈ ff i, x < N
  rn : ∀ i, i < m.length → ∀ x ∈ gf i, x < N
/-- so many elements and members have been spun -/
structure Sp1 (l : List V) (m : List Mem) (cf df : Nat → List Value) (ff gf : Nat → List Nat) (F : Nat → Prop) (W0 : World) (j1 j2 : Nat) (l' : List V) (m' : List Mem) (wr : World) : Prop where
  ch : Ch F W0 wr
  ll : l'.length = l.length
  lw : wtL l' = wtL l
  le : ∀ (i : Nat) (h : i < l'.length), i < j1 → (l'[i]).lies false wr (· ∈ ff i) (cf i)
  lt : ∀ (i : Nat) (h : i < l.length) (h' : i < l'.length), j1 ≤ i → (l[i]).sp wr (cf i) (ff i) ∧ l'[i] = l[i]
  ml : m'.length = m.length
  mw : wtM m' = wtM m
  mk_ : ∀ (i : Nat) (h : i < m.length) (h' : i < m'.length), (m'[i]).1 = (m[i]).1
  me : ∀ (i : Nat) (h : i < m'.length), i < j2 → (m'[i]).2.lies false wr (· ∈ gf i) (df i)
  mt : ∀ (i : Nat) (h : i < m.length) (h' : i < m'.length), j2 ≤ i → (m[i]).2.sp wr (df i) (gf i) ∧ m'[i] = m[i]
theorem Sp1.nextL {l : List V} {m : List Mem} {cf df : Nat → List Value} {ff gf : Nat → List Nat} {F : Nat → Prop} {W0 wr w' : World} {N j1 j2 : Nat} {l' : List V} {m' : List Mem} {v' : V} (h : Sp1 l m cf df ff gf F W0 j1 j2 l' m' wr) (C : SpC l m ff gf N) (hN : N ≤ W0.heap.size) (hj : j1 < l.length) (hF : ∀ x ∈ ff j1, F x) (c : Ch (· ∈ ff j1) wr w') (hw : v'.wt = (l[j1]).wt) (hv : v'.lies false w' (· ∈ ff j1) (cf j1)) : Sp1 l m cf df ff gf F W0 (j1 + 1) j2 (l'.set j1 v') m' w' := by
  have hNr := h.ch.size
  have hll := h.ll
  have kl : ∀ i, i < l.length → i ≠ j1 → ∀ x ∈ ff i, w'.heap[x]? = wr.heap[x]? := fun i hi hn x hx => c.blk x (by have := C.pn i hi x hx; omega) (C.p2 i j1 hi hj hn x hx)
  have km : ∀ i, i < m.length → ∀ x ∈ gf i, w'.heap[x]? = wr.heap[x]? := fun i hi x hx => c.blk x (by have := C.rn i hi x hx; omega) (fun q => C.d j1 i hj hi x q hx)
  refine ⟨h.ch.trans (c.mono hF), by rw [List.length_set]; exact h.ll, ?_, ?_, ?_, h.ml, h.mw, h.mk_, ?_, ?_⟩
  · have := wtL_set l' j1 (by omega) v'
    have e := (h.lt j1 hj (by omega) (Nat.le_refl _)).2
    rw [e] at this
    have := h.lw
    omega
  · intro i hi hij
    rw [List.length_set] at hi
    by_cases e : i = j1
    · subst e
      rw [List.getElem_set_self]
      exact hv
    · rw [List.getElem_set_ne (fun q => e q.symm)]
      exact V.lies_keep (fun h => h) (kl i (by omega) e) (fun _ h => h) _ (h.le i hi (by omega))
  · intro i hi hi' hij
    rw [List.length_set] at hi'
    have := h.lt i hi hi' (by omega)
    rw [List.getElem_set_ne (by omega)]
    exact ⟨V.sp_keep _ (kl i hi (by omega)) this.1, this.2⟩
  · intro i hi hij
    exact V.lies_keep (fun h => h) (km i (by have := h.ml; omega)) (fun _ h => h) _ (h.me i hi hij)
  · intro i hi hi' hij
    have := h.mt i hi hi' hij
    exact ⟨V.sp_keep _ (km i hi) this.1, this.2⟩
theorem Sp1.nextM {l : List V} {m : List Mem} {cf df : Nat → List Value} {ff gf : Nat → List Nat} {F : Nat → Prop} {W0 wr w' : World} {N j1 j2 : Nat} {l' : List V} {m' : List Mem} {v' : V} (h : Sp1 l m cf df ff gf F W0 j1 j2 l' m' wr) (C : SpC l m ff gf N) (hN : N ≤ W0.heap.size) (hj : j2 < m.length) (hF : ∀ x ∈ gf j2, F x) (c : Ch (· ∈ gf j2) wr w') (hw : v'.wt = (m[j2]).2.wt) (hv : v'.lies false w' (· ∈ gf j2) (df j2)) : ∃ m'', Sp1 l m cf df ff gf F W0 j1 (j2 + 1) l' m'' w' := by
  have hNr := h.ch.size
  have hml := h.ml
  have hj' : j2 < m'.length := by omega
  have kl : ∀ i, i < l.length → ∀ x ∈ ff i, w'.heap[x]? = wr.heap[x]? := fun i hi x hx => c.blk x (by have := C.pn i hi x hx; omega) (fun q => C.d i j2 hi hj x hx q)
  have km : ∀ i, i < m.length → i ≠ j2 → ∀ x ∈ gf i, w'.heap[x]? = wr.heap[x]? := fun i hi hn x hx => c.blk x (by have := C.rn i hi x hx; omega) (C.r2 i j2 hi hj hn x hx)
  refine ⟨m'.set j2 ((m'[j2]).1, v'), h.ch.trans (c.mono hF), h.ll, h.lw, ?_, ?_, by rw [List.length_set]; exact h.ml, ?_, ?_, ?_, ?_⟩
  · intro i hi hij
    exact V.lies_keep (fun h => h) (kl i (by have := h.ll; omega)) (fun _ h => h) _ (h.le i hi hij)
  · intro i hi hi' hij
    have := h.lt i hi hi' hij
    exact ⟨V.sp_keep _ (kl i hi) this.1, this.2⟩
  · have := wtM_set m' j2 hj' v'
    have e := (h.mt j2 hj hj' (Nat.le_refl _)).2
    rw [e] at this ⊢
    have := h.mw
    omega
  · intro i hi hi'
    rw [List.length_set] at hi'
    by_cases e : i = j2
    · subst e
      rw [List.getElem_set_self]
      exact h.mk_ i hi hj'
    · rw [List.getElem_set_ne (fun q => e q.symm)]
      exact h.mk_ i hi hi'
  · intro i hi hij
    rw [List.length_set] at hi
    by_cases e : i = j2
    · subst e
      rw [List.getElem_set_self]
      exact hv
    · rw [List.getElem_set_ne (fun q => e q.symm)]
      exact V.lies_keep (fun h => h) (km i (by omega) e) (fun _ h => h) _ (h.me i hi (by omega))
  · intro i hi hi' hij
    rw [List.length_set] at hi'
    have := h.mt i hi hi' (by omega)
    rw [List.getElem_set_ne (by omega)]
    exact ⟨V.sp_keep _ (km i hi (by omega)) this.1, this.2⟩
/-- a list's elements, in whatever order, in its block -/
structure Sp3 (n b cl : Nat) (wl : Nat) (F : Nat → Prop) (w2 : World) (l' : List V) (cg : Nat → List Value) (wr : World) : Prop where
  ch : Ch (fun y => 0 < n ∧ y = b) w2 wr
  k : 0 < n → Blk b 25 (cl * 6) wr
  ll : l'.length = n
  lw : wtL l' = wl
  le : ∀ (i : Nat) (h : i < l'.length), rowAt wr b (i * 6) (cg i) ∧ (l'[i]).lies false w2 F (cg i)
theorem Sp3.swap {n b cl wl a z : Nat} {F : Nat → Prop} {w2 wr wx w3 w4 : World} {l' : List V} {cg : Nat → List Value} (h : Sp3 n b cl wl F w2 l' cg wr) (hcl : n ≤ cl) (haz : a < z) (hz : z < n) (bx : Below wr.heap.size wr wx) (hb : b < wr.heap.size) (s1 : St6 b (a * 6) (cl * 6) 25 wx w3 (cg z)) (s2 : St6 b (z * 6) (cl * 6) 25 w3 w4 (cg a)) : ∃ l'', Sp3 n b cl wl F w2 l'' (fun i => if i = a then cg z else if i = z then cg a else cg i) w4 := by
  have hll := h.ll
  have ha' : a < l'.length := by omega
  have hz' : z < l'.length := by omega
  refine ⟨(l'.set a l'[z]).set z l'[a], (h.ch.trans (Ch.below bx)).trans ((s1.ch ⟨by omega, rfl⟩).trans (s2.ch ⟨by omega, rfl⟩)), fun _ => s2.k, by rw [List.length_set, List.length_set]; exact h.ll, ?_, ?_⟩
  · have e1 := wtL_set l' a ha' l'[z]
    have e2 := wtL_set (l'.set a l'[z]) z (by rw [List.length_set]; omega) l'[a]
    rw [List.getElem_set_ne (by omega)] at e2
    have := h.lw
    omega
  · intro i hi
    rw [List.length_set, List.length_set] at hi
    by_cases e1 : i = z
    · subst e1
      rw [List.getElem_set_self]
      simp only [show ¬ i = a by omega, if_false, if_true]
      exact ⟨s2.r, (h.le a ha').2⟩
    · rw [List.getElem_set_ne (fun q => e1 q.symm)]
      by_cases e2 : i = a
      · subst e2
        rw [List.getElem_set_self]
        simp only [if_true]
        refine ⟨s2.row s1.r (.inl ?_), (h.le z hz').2⟩
        obtain ⟨_, _, _, _, _, _, _, _, _, _, e⟩ := V.ten (h.le z hz').2
        rw [e]; simp; omega
      · rw [List.getElem_set_ne (fun q => e2 q.symm)]
        simp only [e1, e2, if_false]
        have hi2 := h.le i hi
        obtain ⟨_, _, _, _, _, _, _, _, _, _, e⟩ := V.ten hi2.2
        have hc : (cg i).length = 6 := by rw [e]; rfl
        exact ⟨s2.row (s1.row (hi2.1.keep (bx.block b hb)) (by omega)) (by omega), hi2.2⟩
end Go.Proofs.YthgfomblodhoaaaDoor
/- spun: the members' exchange, and the end. -/
namespace Go.Proofs.YthgfomblodhoaaaDoor
open Go Go.RowKit Go.Lib
/-- a map's members, their values in whatever order, in its block -/
structure Sp4 (n b cm : Nat) (wm : Nat) (F : Nat → Prop) (w2 w3 : World) (m' : List Mem) (dg : Nat → List Value) (wr : World) : Prop where
  ch : Ch (fun y => 0 < n ∧ y = b) w3 wr
  k : 0 < n → Blk b 38 (cm * 7) wr
  ml : m'.length = n
  mw : wtM m' = wm
  me : ∀ (i : Nat) (h : i < m'.length), (m'[i]).1.size ≤ maxLen ∧ rowAt wr b (i * 7) (.string (m'[i]).1 :: dg i) ∧ (m'[i]).2.lies false w2 F (dg i)
theorem Sp4.swap {n b cm wm z : Nat} {F : Nat → Prop} {w2 w3 wr wx w5 w6 : World} {m' : List Mem} {dg : Nat → List Value} (h : Sp4 n b cm wm F w2 w3 m' dg wr) (hcm : n ≤ cm) (h0 : 0 < z) (hz : z < n) (bx : Below wr.heap.size wr wx) (hb : b < wr.heap.size) (s1 : St6 b 1 (cm * 7) 38 wx w5 (dg z)) (s2 : St6 b (z * 7 + 1) (cm * 7) 38 w5 w6 (dg 0)) : ∃ m'', Sp4 n b cm wm F w2 w3 m'' (fun i => if i = 0 then dg z else if i = z then dg 0 else dg i) w6 := by
  have hml := h.ml
  have h0' : 0 < m'.length := by omega
  have hz' : z < m'.length := by omega
  have H : ∀ {p : Nat} {key : ByteArray} {cs : List Value} {W : World}, rowAt W b p (.string key :: cs) → W.cell? ⟨b, p, none⟩ = some (.string key) ∧ rowAt W b (p + 1) cs := fun {p key cs W} r => ⟨by simpa using r 0 _ rfl, fun j u hj => by rw [show p + 1 + j = p + (j + 1) by omega]; exact r (j + 1) u (by simpa using hj)⟩
  have J : ∀ {p : Nat} {key : ByteArray} {cs : List Value} {W : World}, W.cell? ⟨b, p, none⟩ = some (.string key) → rowAt W b (p + 1) cs → rowAt W b p (.string key :: cs) := fun {p key cs W} h1 h2 j u hj => by
    cases j with
    | zero =>
      obtain rfl : Value.string key = u := by simpa using hj
      exact h1
    | succ j =>
      rw [show p + (j + 1) = p + 1 + j by omega]
      exact h2 j u (by simpa using hj)
  have L : ∀ (i : Nat) (hi : i < m'.length), (dg i).length = 6 := fun i hi => by
    obtain ⟨_, _, _, _, _, _, _, _, _, _, e⟩ := V.ten (h.me i hi).2.2
    rw [e]; rfl
  have K : ∀ (i : Nat) (hi : i < m'.length), w6.cell? ⟨b, i * 7, none⟩ = some (.string (m'[i]).1) := fun i hi => by
    rw [s2.c_ _ (by omega), s1.c_ _ (by omega), World.cell?_of_block (w := wr) (a := ⟨b, i * 7, none⟩) (bx.block b hb)]
    exact (H (h.me i hi).2.1).1
  refine ⟨(m'.set 0 ((m'[0]).1, (m'[z]).2)).set z ((m'[z]).1, (m'[0]).2), h.ch.trans ((Ch.below bx).trans ((s1.ch ⟨by omega, rfl⟩).trans (s2.ch ⟨by omega, rfl⟩))), fun _ => s2.k, by rw [List.length_set, List.length_set]; exact h.ml, ?_, ?_⟩
  · have e1 := wtM_set m' 0 h0' (m'[z]).2
    have e2 := wtM_set (m'.set 0 ((m'[0]).1, (m'[z]).2)) z (by rw [List.length_set]; omega) (m'[0]).2
    rw [List.getElem_set_ne (by omega)] at e2
    have := h.mw
    omega
  · intro i hi
    rw [List.length_set, List.length_set] at hi
    by_cases e1 : i = z
    · subst e1
      rw [List.getElem_set_self]
      simp only [show ¬ i = 0 by omega, if_false, if_true]
      exact ⟨(h.me i hz').1, J (K i hz') s2.r, (h.me 0 h0').2.2⟩
    · rw [List.getElem_set_ne (fun q => e1 q.symm)]
      by_cases e2 : i = 0
      · subst e2
        rw [List.getElem_set_self]
        simp only [if_true]
        refine ⟨(h.me 0 h0').1, J (K 0 h0') ?_, (h.me z hz').2.2⟩
        refine s2.row (by simpa using s1.r) (.inl ?_)
        rw [L z hz']; omega
      · rw [List.getElem_set_ne (fun q => e2 q.symm)]
        simp only [e1, e2, if_false]
        refine ⟨(h.me i hi).1, J (K i hi) ?_, (h.me i hi).2.2⟩
        have hl := L i hi
        exact s2.row (s1.row ((H (h.me i hi).2.1).2.keep (bx.block b hb)) (by omega)) (by omega)
def SpPost (v : V) (cs : List Value) (F : List Nat) (w : World) (e : Ending) (w' : World) : Prop := e = .returned (.tuple #[]) ∧ Ch (· ∈ F) w w' ∧ ∃ v' : V, v'.wt = v.wt ∧ v'.lies false w' (· ∈ F) cs
theorem spn_end {k : Int} {b : Bool} {i : Int} {s : ByteArray} {l l' : List V} {m m' : List Mem} {al am : Option Addr} {cl bl cm bm : Nat} {F1 F2 : List Nat} {w w2 w3 wf : World} {cg dg : Nat → List Value} (hk : In64 k) (hi : In64 i) (hs : s.size ≤ maxLen) (hal : Headed al l.length cl bl 0) (ham : Headed am m.length cm bm 0)
    (hF : ∀ x ∈ F1 ++ F2 ++ ob l.length bl ++ ob m.length bm, x < w.heap.size) (hn : (F1 ++ F2 ++ ob l.length bl ++ ob m.length bm).Nodup) (c2 : Ch (· ∈ F1 ++ F2) w w2)
    (h3 : Sp3 l.length bl cl (wtL l) (· ∈ F1) w2 l' cg w3) (h4 : Sp4 m.length bm cm (wtM m) (· ∈ F2) w2 w3 m' dg wf) :
    SpPost (.mk k b i s l m) [.int .i64 k, .bool b, .int .i64 i, .string s, .slice al l.length cl, .slice am m.length cm] (F1 ++ F2 ++ ob l.length bl ++ ob m.length bm) w (.returned (.tuple #[])) wf := by
  have z2 := c2.size
  have z3 := h3.ch.size
  have z4 := h4.ch.size
  have hlt : ∀ x ∈ F1 ++ F2, x < w.heap.size ∧ (0 < l.length → x ≠ bl) ∧ (0 < m.length → x ≠ bm) := fun x hx => by
    rw [List.append_assoc, List.nodup_append] at hn
    refine ⟨hF x (by rw [List.append_assoc]; exact List.mem_append_left _ hx), fun h e => ?_, fun h e => ?_⟩
    · exact hn.2.2 x hx bl (List.mem_append_left _ (mem_ob.2 ⟨h, rfl⟩)) e
    · exact hn.2.2 x hx bm (List.mem_append_right _ (mem_ob.2 ⟨h, rfl⟩)) e
  have hne : 0 < l.length → 0 < m.length → bl ≠ bm := fun a b e => by
    rw [List.nodup_append] at hn
    exact hn.2.2 bl (List.mem_append_right _ (mem_ob.2 ⟨a, rfl⟩)) bm (mem_ob.2 ⟨b, rfl⟩) e
  have kk : ∀ x ∈ F1 ++ F2, wf.heap[x]? = w2.heap[x]? := fun x hx => by
    obtain ⟨a, b, c⟩ := hlt x hx
    exact (h4.ch.blk x (by omega) (fun q => c q.1 q.2)).trans (h3.ch.blk x (by omega) (fun q => b q.1 q.2))
  have hl := h3.ll
  have hm := h4.ml
  have S1 : ∀ x, x ∈ F1 → x ∈ F1 ++ F2 ++ ob l.length bl ++ ob m.length bm := fun x hx => by simp [hx]
  have S2 : ∀ x, x ∈ F2 → x ∈ F1 ++ F2 ++ ob l.length bl ++ ob m.length bm := fun x hx => by simp [hx]
  refine ⟨rfl, ?_, .mk k b i s l' m', ?_, ?_⟩
  · refine (c2.mono (fun y hy => ?_)).trans ((h3.ch.mono (fun y hy => ?_)).trans (h4.ch.mono (fun y hy => ?_)))
    · rw [List.append_assoc]; exact List.mem_append_left _ hy
    · rw [List.append_assoc]; exact List.mem_append_right _ (List.mem_append_left _ (mem_ob.2 hy))
    · exact List.mem_append_right _ (mem_ob.2 hy)
  · rw [V.wt, V.wt, h3.lw, h4.mw]
  · rw [V.lies]
    refine ⟨al, cl, bl, 0, am, cm, bm, 0, by rw [hl, hm], hk, hi, hs, by rw [hl]; exact hal, by rw [hm]; exact ham, liesL_mk fun j hj => ?_, liesM_mk fun j hj => ?_, fun h => by cases h⟩
    · have hp : 0 < l.length := by omega
      refine ⟨List.mem_append_left _ (List.mem_append_right _ (mem_ob.2 ⟨hp, rfl⟩)), cg j, ?_, V.lies_keep (fun h => h) (fun x hx => kk x (List.mem_append_left _ hx)) S1 _ (h3.le j hj).2⟩
      rw [Nat.zero_add]
      refine (h3.le j hj).1.keep (h4.ch.blk bl ?_ (fun q => hne hp q.1 q.2))
      have := hF bl (List.mem_append_left _ (List.mem_append_right _ (mem_ob.2 ⟨hp, rfl⟩)))
      omega
    · have hp : 0 < m.length := by omega
      refine ⟨List.mem_append_right _ (mem_ob.2 ⟨hp, rfl⟩), (h4.me j hj).1, dg j, ?_, V.lies_keep (fun h => h) (fun x hx => kk x (List.mem_append_right _ hx)) S2 _ (h4.me j hj).2.2⟩
      rw [Nat.zero_add]
      exact (h4.me j hj).2.1
end Go.Proofs.YthgfomblodhoaaaDoor
