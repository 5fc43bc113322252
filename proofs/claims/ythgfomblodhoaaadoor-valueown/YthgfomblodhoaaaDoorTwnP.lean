import Derived.Test.YthgfomblodhoaaaDoorG13
/- Values whose lists and maps lie in unlike blocks; rows of such. -/
set_option linter.unusedSimpArgs false
set_option linter.unusedVariables false
namespace Go.Proofs.YthgfomblodhoaaaDoor
open Go Go.RowKit Go.Lib
/-- the value's lists and maps are in unlike blocks of S, each with its own room -/
def Unm (w : World) (S : Nat → Prop) (v : V) (cs : List Value) : Prop := ∃ xs ys, v.tk w S cs xs ys ∧ Unl w S xs ys
theorem Unl.keep {w w' : World} {S : Nat → Prop} {xs ys : List Value} (h : Unl w S xs ys) (k : ∀ b, S b → w'.heap[b]? = w.heap[b]?) : Unl w' S xs ys :=
  ⟨h.len, fun s hs => (h.l s hs).keep fun b e => k b (h.r b (mem_blks.2 (.inl (List.mem_filterMap.2 ⟨s, hs, e⟩)))), fun s hs => (h.m s hs).keep fun b e => k b (h.r b (mem_blks.2 (.inr (List.mem_filterMap.2 ⟨s, hs, e⟩)))), h.r, h.n⟩
theorem Unm.keep {w w' : World} {S S' : Nat → Prop} {v : V} {cs : List Value} (h : Unm w S v cs) (k : ∀ b, S b → w'.heap[b]? = w.heap[b]?) (hS : ∀ b, S b → S' b) : Unm w' S' v cs := by
  obtain ⟨xs, ys, h1, h2⟩ := h
  exact ⟨xs, ys, V.tk_keep k hS v h1, (h2.keep k).mono hS⟩
def EU (x : Option (V × Nat × Nat)) (w : World) (S : Nat → Prop) (cs : List Value) : Prop :=
  match x with
  | some e => e.1.lies false w S cs ∧ Unm w (fun y => e.2.1 ≤ y ∧ y < e.2.2) e.1 cs ∧ ∀ y, e.2.1 ≤ y → y < e.2.2 → S y
  | none => True
def EW (x : Option (ByteArray × V × Nat × Nat)) (w : World) (S : Nat → Prop) (cs : List Value) : Prop :=
  match x with
  | some e => ∃ cs', cs = .string e.1 :: cs' ∧ e.1.size ≤ maxLen ∧ e.2.1.lies false w S cs' ∧ Unm w (fun y => e.2.2.1 ≤ y ∧ y < e.2.2.2) e.2.1 cs' ∧ ∀ y, e.2.2.1 ≤ y → y < e.2.2.2 → S y
  | none => True
theorem keepU : KeepE EU := by
  intro x w w' S S' cs hw hS h
  cases x with
  | none => trivial
  | some e =>
    obtain ⟨h1, h2, h3⟩ := h
    exact ⟨V.lies_keep (fun h => h) hw hS _ h1, h2.keep (fun b hb => hw b (h3 b hb.1 hb.2)) (fun _ h => h), fun y a b => hS y (h3 y a b)⟩
theorem keepW : KeepE EW := by
  intro x w w' S S' cs hw hS h
  cases x with
  | none => trivial
  | some e =>
    obtain ⟨cs', e0, hk, h1, h2, h3⟩ := h
    exact ⟨cs', e0, hk, V.lies_keep (fun h => h) hw hS _ h1, h2.keep (fun b hb => hw b (h3 b hb.1 hb.2)) (fun _ h => h), fun y a b => hS y (h3 y a b)⟩
/-- ranges that follow one another -/
def Rg (q : List (V × Nat × Nat)) (lo hi : Nat) : Prop := q.Pairwise (fun a b => a.2.2 ≤ b.2.1) ∧ ∀ e ∈ q, lo ≤ e.2.1 ∧ e.2.2 ≤ hi
theorem Rg.nil (lo hi : Nat) : Rg [] lo hi := ⟨List.Pairwise.nil, fun e h => by simp at h⟩
theorem Rg.push {q : List (V × Nat × Nat)} {lo hi a b hi' : Nat} {v : V} (h : Rg q lo hi) (h1 : hi ≤ a) (h0 : lo ≤ a) (h2 : b ≤ hi') (h3 : hi ≤ hi') : Rg (q ++ [(v, a, b)]) lo hi' := by
  refine ⟨List.pairwise_append.2 ⟨h.1, List.pairwise_singleton _ _, fun x hx y hy => ?_⟩, fun e he => ?_⟩
  · rw [List.mem_singleton] at hy
    subst hy
    have := (h.2 x hx).2
    show x.2.2 ≤ a
    omega
  · rcases List.mem_append.1 he with he | he
    · have := h.2 e he; omega
    · rw [List.mem_singleton] at he
      subst he
      exact ⟨h0, h2⟩
theorem tkE_un {w : World} {T : Nat → Prop} {g : Nat} (hg : T g) : ∀ (q : List (V × Nat × Nat)) (o : Nat), (∀ (j : Nat) (h : j < q.length), ∃ cs, rowAt w g (o + j * 6) cs ∧ Unm w (fun y => q[j].2.1 ≤ y ∧ y < q[j].2.2) q[j].1 cs) → q.Pairwise (fun a b => a.2.2 ≤ b.2.1) → (∀ e ∈ q, ∀ y, e.2.1 ≤ y → y < e.2.2 → T y) →
    ∃ xs ys, tkE w T (q.map (·.1)) g o xs ys ∧ Unl w (fun y => ∃ e ∈ q, e.2.1 ≤ y ∧ y < e.2.2) xs ys
  | [], o, _, _, _ => ⟨[], [], by rw [List.map_nil, tkE]; exact ⟨rfl, rfl⟩, Unl.nil _ _⟩
  | x :: t, o, h, hp, hT => by
    obtain ⟨cs, r, x1, y1, t1, u1⟩ := h 0 (by simp)
    simp only [List.getElem_cons_zero] at t1 u1
    rw [List.pairwise_cons] at hp
    obtain ⟨x2, y2, t2, u2⟩ := tkE_un hg t (o + 6) (fun j hj => by
      have := h (j + 1) (by simp; omega)
      rw [show o + (j + 1) * 6 = o + 6 + j * 6 by omega] at this
      simpa using this) hp.2 (fun e he => hT e (List.mem_cons_of_mem _ he))
    refine ⟨x1 ++ x2, y1 ++ y2, ?_, (u1.app u2 (fun b p ⟨e, he, q⟩ => by have := hp.1 e he; omega)).mono (fun b p => ?_)⟩
    · rw [List.map_cons, tkE]
      exact ⟨hg, cs, x1, y1, x2, y2, by simpa using r, V.tk_keep (fun _ _ => rfl) (fun y p => hT x (List.mem_cons_self ..) y p.1 p.2) _ t1, t2, rfl, rfl⟩
    · rcases p with p | ⟨e, he, p⟩
      · exact ⟨x, List.mem_cons_self .., p⟩
      · exact ⟨e, List.mem_cons_of_mem _ he, p⟩
theorem tkF_un {w : World} {T : Nat → Prop} {g : Nat} (hg : T g) : ∀ (q : List (ByteArray × V × Nat × Nat)) (o : Nat), (∀ (j : Nat) (h : j < q.length), ∃ cs, rowAt w g (o + j * 7) (.string q[j].1 :: cs) ∧ Unm w (fun y => q[j].2.2.1 ≤ y ∧ y < q[j].2.2.2) q[j].2.1 cs) → (q.map (·.2)).Pairwise (fun a b => a.2.2 ≤ b.2.1) → (∀ e ∈ q, ∀ y, e.2.2.1 ≤ y → y < e.2.2.2 → T y) →
    ∃ xs ys, tkF w T (q.map (fun e => (e.1, e.2.1))) g o xs ys ∧ Unl w (fun y => ∃ e ∈ q, e.2.2.1 ≤ y ∧ y < e.2.2.2) xs ys
  | [], o, _, _, _ => ⟨[], [], by rw [List.map_nil, tkF]; exact ⟨rfl, rfl⟩, Unl.nil _ _⟩
  | x :: t, o, h, hp, hT => by
    obtain ⟨cs, r, x1, y1, t1, u1⟩ := h 0 (by simp)
    simp only [List.getElem_cons_zero] at t1 u1 r
    rw [List.map_cons, List.pairwise_cons] at hp
    obtain ⟨x2, y2, t2, u2⟩ := tkF_un hg t (o + 7) (fun j hj => by
      have := h (j + 1) (by simp; omega)
      rw [show o + (j + 1) * 7 = o + 7 + j * 7 by omega] at this
      simpa using this) hp.2 (fun e he => hT e (List.mem_cons_of_mem _ he))
    refine ⟨x1 ++ x2, y1 ++ y2, ?_, (u1.app u2 (fun b p ⟨e, he, q⟩ => by have := hp.1 e.2 (List.mem_map_of_mem he); omega)).mono (fun b p => ?_)⟩
    · rw [List.map_cons, tkF]
      exact ⟨hg, cs, x1, y1, x2, y2, by simpa using r, V.tk_keep (fun _ _ => rfl) (fun y p => hT x (List.mem_cons_self ..) y p.1 p.2) _ t1, t2, rfl, rfl⟩
    · rcases p with p | ⟨e, he, p⟩
      · exact ⟨x, List.mem_cons_self .., p⟩
      · exact ⟨e, List.mem_cons_of_mem _ he, p⟩
/-- what a twin is -/
theorem twn_un {k : Int} {b : Bool} {i : Int} {s : ByteArray} {q : List (V × Nat × Nat)} {p : List (ByteArray × V × Nat × Nat)} {w : World} {gl cl gm cm N A nl nm : Nat} {SL SM : Nat → Prop} (hk : In64 k) (hi : In64 i) (hs : s.size ≤ maxLen)
    (hL : OwnR EU 25 6 w N SL (.slice (some ⟨gl, 0, none⟩) (nl + 1) cl) (q.map some ++ [none])) (hM : OwnR EW 38 7 w N SM (.slice (some ⟨gm, 0, none⟩) (nm + 1) cm) (p.map some ++ [none])) (hq : nl = q.length) (hp : nm = p.length) (rq : Rg q N A) (rp : Rg (p.map (·.2)) A w.heap.size) (n1 : ¬ SL gm) (n2 : ¬ SM gl) (n3 : gl ≠ gm) (b1 : nl ≤ 4294967296) (b2 : nm ≤ 4294967296) :
    (V.mk k b i s (q.map (·.1)) (p.map (fun e => (e.1, e.2.1)))).lies false w (fun x => N ≤ x ∧ x < w.heap.size) [.int .i64 k, .bool b, .int .i64 i, .string s, .slice (some ⟨gl, 0, none⟩) nl cl, .slice (some ⟨gm, 0, none⟩) nm cm] ∧
    Unm w (fun x => N ≤ x ∧ x < w.heap.size) (V.mk k b i s (q.map (·.1)) (p.map (fun e => (e.1, e.2.1)))) [.int .i64 k, .bool b, .int .i64 i, .string s, .slice (some ⟨gl, 0, none⟩) nl cl, .slice (some ⟨gm, 0, none⟩) nm cm] := by
  have hl1 := hL.le
  have hm1 := hM.le
  have hgl := hL.lt (g := gl) rfl
  have hgm := hM.lt (g := gm) rfl
  simp at hl1 hm1
  have EL : ∀ (j : Nat) (h : j < q.length), ∃ cs, rowAt w gl (0 + j * 6) cs ∧ EU (some q[j]) w SL cs := fun j hj => by
    obtain ⟨cs, h1, h2⟩ := hL.at (by simp; omega) j (by simp; omega)
    rw [List.getElem_append_left (by simpa using hj), List.getElem_map] at h2
    exact ⟨cs, h1, h2⟩
  have EM : ∀ (j : Nat) (h : j < p.length), ∃ cs, rowAt w gm (0 + j * 7) cs ∧ EW (some p[j]) w SM cs := fun j hj => by
    obtain ⟨cs, h1, h2⟩ := hM.at (by simp; omega) j (by simp; omega)
    rw [List.getElem_append_left (by simpa using hj), List.getElem_map] at h2
    exact ⟨cs, h1, h2⟩
  have HS : ∀ y, SL y → N ≤ y ∧ y < w.heap.size := fun y hy => ⟨(hL.off y hy).1, (hL.off y hy).2.1⟩
  have HS' : ∀ y, SM y → N ≤ y ∧ y < w.heap.size := fun y hy => ⟨(hM.off y hy).1, (hM.off y hy).2.1⟩
  have IL : ∀ e ∈ q, ∀ y, e.2.1 ≤ y → y < e.2.2 → SL y := fun e he y a b => by
    obtain ⟨j, hj, rfl⟩ := List.getElem_of_mem he
    obtain ⟨cs, _, h⟩ := EL j hj
    exact h.2.2 y a b
  have IM : ∀ e ∈ p, ∀ y, e.2.2.1 ≤ y → y < e.2.2.2 → SM y := fun e he y a b => by
    obtain ⟨j, hj, rfl⟩ := List.getElem_of_mem he
    obtain ⟨cs, _, cs', _, _, h⟩ := EM j hj
    exact h.2.2 y a b
  constructor
  · rw [V.lies]
    refine ⟨_, _, gl, 0, _, _, gm, 0, by simp [hq, hp], hk, hi, hs, ⟨by simp; omega, hl1.2, .inr rfl, fun h => by cases h⟩, ⟨by simp; omega, hm1.2, .inr rfl, fun h => by cases h⟩, liesL_mk fun j hj => ⟨hgl, ?_⟩, liesM_mk fun j hj => ?_, fun h => by cases h⟩
    · obtain ⟨cs, h1, h2⟩ := EL j (by simpa using hj)
      refine ⟨cs, h1, ?_⟩
      rw [List.getElem_map]
      exact V.lies_keep (fun h => h) (fun _ _ => rfl) HS _ h2.1
    · obtain ⟨cs, h1, cs', rfl, hks, h3, _⟩ := EM j (by simpa using hj)
      rw [List.getElem_map]
      exact ⟨hgm, hks, cs', h1, V.lies_keep (fun h => h) (fun _ _ => rfl) HS' _ h3⟩
  · obtain ⟨x1, y1, t1, u1⟩ := tkE_un (T := fun x => N ≤ x ∧ x < w.heap.size) hgl q 0 (fun j hj => by
      obtain ⟨cs, h1, h2⟩ := EL j hj
      exact ⟨cs, h1, h2.2.1⟩) rq.1 (fun e he y a b => HS y (IL e he y a b))
    obtain ⟨x2, y2, t2, u2⟩ := tkF_un (T := fun x => N ≤ x ∧ x < w.heap.size) hgm p 0 (fun j hj => by
      obtain ⟨cs, h1, cs', rfl, _, _, h2, _⟩ := EM j hj
      exact ⟨cs', h1, h2⟩) rp.1 (fun e he y a b => HS' y (IM e he y a b))
    have S1 : SlR w 25 6 (.slice (some ⟨gl, 0, none⟩) nl cl) := by
      obtain ⟨⟨xs, o, _⟩, _⟩ := hL
      rcases o.2 with ⟨e, _⟩ | ⟨g', cap', cur, e, _, hg, h1, h2, h3, _⟩
      · simp at e
      · simp only [Value.slice.injEq, Option.some.injEq, Addr.mk.injEq, and_true] at e
        obtain ⟨rfl, e2, rfl⟩ := e
        exact ⟨_, _, _, gl, rfl, by omega, h2, b1, .inr ⟨rfl, cur, hg, h3⟩⟩
    have S2 : SlR w 38 7 (.slice (some ⟨gm, 0, none⟩) nm cm) := by
      obtain ⟨⟨xs, o, _⟩, _⟩ := hM
      rcases o.2 with ⟨e, _⟩ | ⟨g', cap', cur, e, _, hg, h1, h2, h3, _⟩
      · simp at e
      · simp only [Value.slice.injEq, Option.some.injEq, Addr.mk.injEq, and_true] at e
        obtain ⟨rfl, e2, rfl⟩ := e
        exact ⟨_, _, _, gm, rfl, by omega, h2, b2, .inr ⟨rfl, cur, hg, h3⟩⟩
    have u3 := Unl.two (S := fun y => y = gl ∨ y = gm) S1 S2 (fun b e => .inl (sblk_inj e).symm) (fun b e => .inr (sblk_inj e).symm) (fun b e1 e2 => n3 ((sblk_inj e1).trans (sblk_inj e2).symm))
    refine ⟨x1 ++ x2 ++ [.slice (some ⟨gl, 0, none⟩) nl cl], y1 ++ y2 ++ [.slice (some ⟨gm, 0, none⟩) nm cm], ?_, ((u1.app u2 ?_).app u3 ?_).mono ?_⟩
    · rw [V.tk]
      exact ⟨_, _, gl, 0, _, _, gm, 0, x1, y1, x2, y2, by simp [hq, hp], ⟨by simp; omega, hl1.2, .inr rfl, fun h => by cases h⟩, ⟨by simp; omega, hm1.2, .inr rfl, fun h => by cases h⟩, t1, t2, by simp [hq], by simp [hp]⟩
    · rintro b ⟨e, he, a1, a2⟩ ⟨e', he', a3, a4⟩
      have := (rq.2 e he).2
      have := (rp.2 e'.2 (List.mem_map_of_mem he')).1
      omega
    · rintro b (⟨e, he, a1, a2⟩ | ⟨e, he, a1, a2⟩) (rfl | rfl)
      · exact (hL.off _ (IL e he _ a1 a2)).2.2 rfl
      · exact n1 (IL e he _ a1 a2)
      · exact n2 (IM e he _ a1 a2)
      · exact (hM.off _ (IM e he _ a1 a2)).2.2 rfl
    · rintro b ((⟨e, he, a1, a2⟩ | ⟨e, he, a1, a2⟩) | (rfl | rfl))
      · exact HS b (IL e he b a1 a2)
      · exact HS' b (IM e he b a1 a2)
      · exact hgl
      · exact hgm
end Go.Proofs.YthgfomblodhoaaaDoor
