/- joined: SpnP FulP -/
import Derived.Test.YthgfomblodhoaaaDoorTwnP
import Derived.Test.YthgfomblodhoaaaDoorTakX
/- Values whose lists and maps lie in unlike blocks, by their blocks; what turns only in some. -/
set_option linter.unusedSimpArgs false
set_option linter.unusedVariables false
namespace Go.Proofs.YthgfomblodhoaaaDoor
open Go Go.RowKit Go.Lib
def ob (n b : Nat) : List Nat := if 0 < n then [b] else []
theorem mem_ob {n b x : Nat} : x ∈ ob n b ↔ 0 < n ∧ x = b := by unfold ob; split <;> simp [*]
theorem ob_nodup (n b : Nat) : (ob n b).Nodup := by unfold ob; split <;> simp
mutual
/-- the value lies there, its lists and maps in the blocks of F -/
def V.sp (w : World) : V → List Value → List Nat → Prop
  | .mk k b i s l m, cs, F => ∃ al cl bl am cm bm F1 F2, cs = [.int .i64 k, .bool b, .int .i64 i, .string s, .slice al l.length cl, .slice am m.length cm] ∧ In64 k ∧ In64 i ∧ s.size ≤ maxLen ∧ Headed al l.length cl bl 0 ∧ Headed am m.length cm bm 0 ∧
      (0 < l.length → Blk bl 25 (cl * 6) w) ∧ (0 < m.length → Blk bm 38 (cm * 7) w) ∧ spE w l bl 0 F1 ∧ spF w m bm 0 F2 ∧ F = F1 ++ F2 ++ ob l.length bl ++ ob m.length bm
def spE (w : World) : List V → Nat → Nat → List Nat → Prop
  | [], _, _, F => F = []
  | x :: t, b, o, F => ∃ cs F1 F2, rowAt w b o cs ∧ x.sp w cs F1 ∧ spE w t b (o + 6) F2 ∧ F = F1 ++ F2
def spF (w : World) : List Mem → Nat → Nat → List Nat → Prop
  | [], _, _, F => F = []
  | (k, x) :: t, b, o, F => ∃ cs F1 F2, k.size ≤ maxLen ∧ rowAt w b o (.string k :: cs) ∧ x.sp w cs F1 ∧ spF w t b (o + 7) F2 ∧ F = F1 ++ F2
end
mutual
theorem V.sp_keep {w w' : World} : ∀ (v : V) {cs : List Value} {F : List Nat}, (∀ b ∈ F, w'.heap[b]? = w.heap[b]?) → v.sp w cs F → v.sp w' cs F
  | .mk k b i s l m, cs, F, hw, h => by
    rw [V.sp] at h ⊢
    obtain ⟨al, cl, bl, am, cm, bm, F1, F2, e, h1, h2, h0, h3, h4, h5, h6, h7, h8, rfl⟩ := h
    have kl : 0 < l.length → w'.heap[bl]? = w.heap[bl]? := fun h => hw bl (by simp [mem_ob, h])
    have km : 0 < m.length → w'.heap[bm]? = w.heap[bm]? := fun h => hw bm (by simp [mem_ob, h])
    exact ⟨al, cl, bl, am, cm, bm, F1, F2, e, h1, h2, h0, h3, h4, fun h => (h5 h).keep (kl h), fun h => (h6 h).keep (km h), spE_keep l kl (fun b hb => hw b (by simp [hb])) h7, spF_keep m km (fun b hb => hw b (by simp [hb])) h8, rfl⟩
theorem spE_keep {w w' : World} : ∀ (l : List V) {b o : Nat} {F : List Nat}, (0 < l.length → w'.heap[b]? = w.heap[b]?) → (∀ b ∈ F, w'.heap[b]? = w.heap[b]?) → spE w l b o F → spE w' l b o F
  | [], b, o, F, _, _, h => by rw [spE] at h ⊢; exact h
  | x :: t, b, o, F, hb, hw, h => by
    rw [spE] at h ⊢
    obtain ⟨cs, F1, F2, r, h1, h2, rfl⟩ := h
    exact ⟨cs, F1, F2, r.keep (hb (by simp)), V.sp_keep x (fun b hb => hw b (by simp [hb])) h1, spE_keep t (fun _ => hb (by simp)) (fun b hb => hw b (by simp [hb])) h2, rfl⟩
theorem spF_keep {w w' : World} : ∀ (l : List Mem) {b o : Nat} {F : List Nat}, (0 < l.length → w'.heap[b]? = w.heap[b]?) → (∀ b ∈ F, w'.heap[b]? = w.heap[b]?) → spF w l b o F → spF w' l b o F
  | [], b, o, F, _, _, h => by rw [spF] at h ⊢; exact h
  | (k, x) :: t, b, o, F, hb, hw, h => by
    rw [spF] at h ⊢
    obtain ⟨cs, F1, F2, hk, r, h1, h2, rfl⟩ := h
    exact ⟨cs, F1, F2, hk, r.keep (hb (by simp)), V.sp_keep x (fun b hb => hw b (by simp [hb])) h1, spF_keep t (fun _ => hb (by simp)) (fun b hb => hw b (by simp [hb])) h2, rfl⟩
end
theorem sp_ten {v : V} {w : World} {cs : List Value} {F : List Nat} (h : v.sp w cs F) : ∃ k b i s al nl cl am nm cm, cs = [.int .i64 k, .bool b, .int .i64 i, .string s, .slice al nl cl, .slice am nm cm] := by
  obtain ⟨k, b, i, s, l, m⟩ := v
  rw [V.sp] at h
  obtain ⟨al, cl, bl, am, cm, bm, F1, F2, e, _⟩ := h
  exact ⟨_, _, _, _, _, _, _, _, _, _, e⟩
/-- the elements, each with its row and its blocks -/
theorem spE_open {w : World} : ∀ (l : List V) {b o : Nat} {F : List Nat}, spE w l b o F → F.Nodup → ∃ (cf : Nat → List Value) (ff : Nat → List Nat), (∀ (i : Nat) (h : i < l.length), rowAt w b (o + i * 6) (cf i) ∧ (l[i]).sp w (cf i) (ff i) ∧ (ff i).Nodup) ∧ (∀ i j, i < l.length → j < l.length → i ≠ j → ∀ x ∈ ff i, x ∉ ff j) ∧ (∀ i, i < l.length → ∀ x ∈ ff i, x ∈ F)
  | [], b, o, F, h, _ => ⟨fun _ => [], fun _ => [], fun i h => by simp at h, fun i j h => by simp at h, fun i h => by simp at h⟩
  | x :: t, b, o, F, h, hn => by
    rw [spE] at h
    obtain ⟨cs, F1, F2, r, h1, h2, rfl⟩ := h
    rw [List.nodup_append] at hn
    obtain ⟨cf, ff, p1, p2, p3⟩ := spE_open t h2 hn.2.1
    refine ⟨fun | 0 => cs | i + 1 => cf i, fun | 0 => F1 | i + 1 => ff i, ?_, ?_, ?_⟩
    · intro i hi
      cases i with
      | zero => exact ⟨by simpa using r, h1, hn.1⟩
      | succ i =>
        have := p1 i (by simpa using hi)
        rw [show o + 6 + i * 6 = o + (i + 1) * 6 by omega] at this
        exact this
    · intro i j hi hj hij y hy hy'
      cases i with
      | zero =>
        cases j with
        | zero => exact hij rfl
        | succ j => exact hn.2.2 y hy y (p3 j (by simpa using hj) y hy') rfl
      | succ i =>
        cases j with
        | zero => exact hn.2.2 y hy' y (p3 i (by simpa using hi) y hy) rfl
        | succ j => exact p2 i j (by simpa using hi) (by simpa using hj) (by omega) y hy hy'
    · intro i hi y hy
      cases i with
      | zero => exact List.mem_append_left _ hy
      | succ i => exact List.mem_append_right _ (p3 i (by simpa using hi) y hy)
theorem spF_open {w : World} : ∀ (l : List Mem) {b o : Nat} {F : List Nat}, spF w l b o F → F.Nodup → ∃ (cf : Nat → List Value) (ff : Nat → List Nat), (∀ (i : Nat) (h : i < l.length), (l[i]).1.size ≤ maxLen ∧ rowAt w b (o + i * 7) (.string (l[i]).1 :: cf i) ∧ (l[i]).2.sp w (cf i) (ff i) ∧ (ff i).Nodup) ∧ (∀ i j, i < l.length → j < l.length → i ≠ j → ∀ x ∈ ff i, x ∉ ff j) ∧ (∀ i, i < l.length → ∀ x ∈ ff i, x ∈ F)
  | [], b, o, F, h, _ => ⟨fun _ => [], fun _ => [], fun i h => by simp at h, fun i j h => by simp at h, fun i h => by simp at h⟩
  | (k, x) :: t, b, o, F, h, hn => by
    rw [spF] at h
    obtain ⟨cs, F1, F2, hk, r, h1, h2, rfl⟩ := h
    rw [List.nodup_append] at hn
    obtain ⟨cf, ff, p1, p2, p3⟩ := spF_open t h2 hn.2.1
    refine ⟨fun | 0 => cs | i + 1 => cf i, fun | 0 => F1 | i + 1 => ff i, ?_, ?_, ?_⟩
    · intro i hi
      cases i with
      | zero => exact ⟨hk, by simpa using r, h1, hn.1⟩
      | succ i =>
        have := p1 i (by simpa using hi)
        rw [show o + 7 + i * 7 = o + (i + 1) * 7 by omega] at this
        exact this
    · intro i j hi hj hij y hy hy'
      cases i with
      | zero =>
        cases j with
        | zero => exact hij rfl
        | succ j => exact hn.2.2 y hy y (p3 j (by simpa using hj) y hy') rfl
      | succ i =>
        cases j with
        | zero => exact hn.2.2 y hy' y (p3 i (by simpa using hi) y hy) rfl
        | succ j => exact p2 i j (by simpa using hi) (by simpa using hj) (by omega) y hy hy'
    · intro i hi y hy
      cases i with
      | zero => exact List.mem_append_left _ hy
      | succ i => exact List.mem_append_right _ (p3 i (by simpa using hi) y hy)
theorem rowAt_eq {w : World} {b o : Nat} {cs cs' : List Value} (h : rowAt w b o cs) (h' : rowAt w b o cs') (e : cs.length = cs'.length) : cs = cs' := by
  refine List.ext_getElem e fun i h1 h2 => ?_
  have a := h i _ (List.getElem?_eq_getElem h1)
  have b := h' i _ (List.getElem?_eq_getElem h2)
  rw [a] at b
  exact Option.some.inj b
/-- a block that is the first of a slice with room -/
theorem slr_head {w : World} {ty sz : Nat} {a : Option Addr} {n c b o : Nat} (h : SlR w ty sz (.slice a n c)) (hd : Headed a n c b o) (hn : 0 < n) : o = 0 ∧ sblk (.slice a n c) = some b ∧ Blk b ty (c * sz) w := by
  have := hd.le
  obtain ⟨x, e1, e2, e3⟩ := h.room (by omega)
  have e4 := hd.at_.resolve_left (by omega)
  rw [e2] at e4
  simp only [Option.some.injEq, Addr.mk.injEq] at e4
  obtain ⟨rfl, rfl, _⟩ := e4
  exact ⟨rfl, e1, e3⟩
theorem headed_zero {a : Option Addr} {n c b o : Nat} (h : Headed a n c b o) (ho : 0 < n → o = 0) : Headed a n c b 0 := ⟨h.le, h.max, by
  rcases h.at_ with e | e
  · exact .inl e
  · by_cases hn : n = 0
    · exact .inl hn
    · rw [ho (by omega)] at e; exact .inr e, h.nil⟩
theorem blks_split {x1 x2 y1 y2 : List Value} (h : (blks (x1 ++ x2) (y1 ++ y2)).Nodup) : (blks x1 y1).Nodup ∧ (blks x2 y2).Nodup ∧ ∀ b ∈ blks x1 y1, b ∉ blks x2 y2 := by
  unfold blks at h ⊢
  rw [List.filterMap_append, List.filterMap_append] at h
  have p : List.Perm (x1.filterMap sblk ++ x2.filterMap sblk ++ (y1.filterMap sblk ++ y2.filterMap sblk)) (x1.filterMap sblk ++ y1.filterMap sblk ++ (x2.filterMap sblk ++ y2.filterMap sblk)) := by
    rw [List.append_assoc, List.append_assoc]
    refine List.Perm.append_left _ ?_
    rw [← List.append_assoc, ← List.append_assoc]
    exact List.Perm.append_right _ List.perm_append_comm
  rw [p.nodup_iff, List.nodup_append] at h
  exact ⟨h.1, h.2.1, fun b hb hb' => h.2.2 b hb b hb' rfl⟩
theorem blks_mem {x1 x2 y1 y2 : List Value} {b : Nat} : b ∈ blks (x1 ++ x2) (y1 ++ y2) ↔ b ∈ blks x1 y1 ∨ b ∈ blks x2 y2 := by
  simp only [blks, List.filterMap_append, List.mem_append]
  constructor
  · rintro ((h | h) | (h | h)) <;> simp [h]
  · rintro ((h | h) | (h | h)) <;> simp [h]
mutual
/-- what lies, its lists and maps in unlike blocks -/
theorem sp_of {w : World} {S T : Nat → Prop} : ∀ (v : V) {cs xs ys : List Value}, v.lies false w S cs → v.tk w T cs xs ys → (∀ s ∈ xs, SlR w 25 6 s) → (∀ s ∈ ys, SlR w 38 7 s) → (blks xs ys).Nodup → ∃ F, v.sp w cs F ∧ F.Nodup ∧ ∀ b ∈ F, b ∈ blks xs ys
  | .mk k b i s l m, cs, xs, ys, hl, ht, hx, hy, hn => by
    rw [V.lies] at hl
    rw [V.tk] at ht
    obtain ⟨al, cl, bl, ol, am, cm, bm, om, rfl, h1, h2, h3, h4, h5, h6, h7, _⟩ := hl
    obtain ⟨al', cl', bl', ol', am', cm', bm', om', x1, y1, x2, y2, e, g1, g2, g3, g4, rfl, rfl⟩ := ht
    simp only [List.cons.injEq, Value.slice.injEq, true_and, and_true] at e
    obtain ⟨⟨rfl, rfl⟩, rfl, rfl⟩ := e
    have sl := hx (.slice al l.length cl) (by simp)
    have sm := hy (.slice am m.length cm) (by simp)
    have q1 : 0 < l.length → ol = 0 ∧ sblk (.slice al l.length cl) = some bl ∧ Blk bl 25 (cl * 6) w := slr_head sl h4
    have q2 : 0 < m.length → om = 0 ∧ sblk (.slice am m.length cm) = some bm ∧ Blk bm 38 (cm * 7) w := slr_head sm h5
    have q3 : 0 < l.length → bl' = bl ∧ ol' = ol := fun h => by
      have a := h4.at_.resolve_left (by omega)
      have b := g1.at_.resolve_left (by omega)
      rw [a] at b
      simp only [Option.some.injEq, Addr.mk.injEq] at b
      exact ⟨b.1.symm, b.2.1.symm⟩
    have q4 : 0 < m.length → bm' = bm ∧ om' = om := fun h => by
      have a := h5.at_.resolve_left (by omega)
      have b := g2.at_.resolve_left (by omega)
      rw [a] at b
      simp only [Option.some.injEq, Addr.mk.injEq] at b
      exact ⟨b.1.symm, b.2.1.symm⟩
    obtain ⟨n1, n2, n3⟩ := blks_split hn
    obtain ⟨n4, n5, n6⟩ := blks_split n1
    obtain ⟨F1, s1, u1, v1⟩ := spE_of l (b := bl) (o := 0) (fun h => by rw [← (q1 h).1]; exact h6) (fun h => by rw [← (q3 h).1, ← (q1 h).1, ← (q3 h).2]; exact g3) (fun h => by
      have := g3
      subst h
      rw [tkE] at this
      exact this) (fun s hs => hx s (by simp [hs])) (fun s hs => hy s (by simp [hs])) n4
    obtain ⟨F2, s2, u2, v2⟩ := spF_of m (b := bm) (o := 0) (fun h => by rw [← (q2 h).1]; exact h7) (fun h => by rw [← (q4 h).1, ← (q2 h).1, ← (q4 h).2]; exact g4) (fun h => by
      have := g4
      subst h
      rw [tkF] at this
      exact this) (fun s hs => hx s (by simp [hs])) (fun s hs => hy s (by simp [hs])) n5
    have w1 : ∀ b ∈ ob l.length bl, sblk (.slice al l.length cl) = some b := fun b hb => by
      obtain ⟨h, rfl⟩ := mem_ob.1 hb
      exact (q1 h).2.1
    have w2 : ∀ b ∈ ob m.length bm, sblk (.slice am m.length cm) = some b := fun b hb => by
      obtain ⟨h, rfl⟩ := mem_ob.1 hb
      exact (q2 h).2.1
    have w3 : ∀ b ∈ ob l.length bl ++ ob m.length bm, b ∈ blks [.slice al l.length cl] [.slice am m.length cm] := fun b hb => by
      rcases List.mem_append.1 hb with h | h
      · simp [blks, w1 b h]
      · simp [blks, w2 b h]
    have w4 : (ob l.length bl ++ ob m.length bm).Nodup := by
      rw [List.nodup_append]
      refine ⟨ob_nodup _ _, ob_nodup _ _, fun a ha b hb e => ?_⟩
      subst e
      have e1 := w1 a ha
      have e2 := w2 a hb
      simp [blks, e1, e2] at n2
    refine ⟨F1 ++ F2 ++ ob l.length bl ++ ob m.length bm, ?_, ?_, ?_⟩
    · rw [V.sp]
      exact ⟨al, cl, bl, am, cm, bm, F1, F2, rfl, h1, h2, h3, headed_zero h4 (fun h => (q1 h).1), headed_zero h5 (fun h => (q2 h).1), fun h => (q1 h).2.2, fun h => (q2 h).2.2, s1, s2, rfl⟩
    · rw [List.append_assoc, List.nodup_append]
      refine ⟨?_, w4, fun a ha b hb e => ?_⟩
      · rw [List.nodup_append]
        exact ⟨u1, u2, fun a ha b hb e => n6 a (v1 a ha) (by rw [e]; exact v2 b hb)⟩
      · refine n3 a ?_ (by rw [e]; exact w3 b hb)
        rcases List.mem_append.1 ha with h | h
        · exact blks_mem.2 (.inl (v1 a h))
        · exact blks_mem.2 (.inr (v2 a h))
    · intro b hb
      rw [List.append_assoc] at hb
      rcases List.mem_append.1 hb with h | h
      · refine blks_mem.2 (.inl ?_)
        rcases List.mem_append.1 h with h | h
        · exact blks_mem.2 (.inl (v1 b h))
        · exact blks_mem.2 (.inr (v2 b h))
      · exact blks_mem.2 (.inr (w3 b h))
theorem spE_of {w : World} {S T : Nat → Prop} : ∀ (l : List V) {b o : Nat} {xs ys : List Value}, (0 < l.length → liesL false w S l b o) → (0 < l.length → tkE w T l b o xs ys) → (l = [] → xs = [] ∧ ys = []) → (∀ s ∈ xs, SlR w 25 6 s) → (∀ s ∈ ys, SlR w 38 7 s) → (blks xs ys).Nodup → ∃ F, spE w l b o F ∧ F.Nodup ∧ ∀ b ∈ F, b ∈ blks xs ys
  | [], b, o, xs, ys, _, _, _, _, _, _ => ⟨[], by rw [spE], List.nodup_nil, fun b hb => by simp at hb⟩
  | x :: t, b, o, xs, ys, h1, h2, _, hx, hy, hn => by
    have h1 := h1 (by simp)
    have h2 := h2 (by simp)
    rw [liesL] at h1
    rw [tkE] at h2
    obtain ⟨_, ⟨cs, r, l1⟩, l2⟩ := h1
    obtain ⟨_, cs', x1, y1, x2, y2, r', t1, t2, rfl, rfl⟩ := h2
    obtain rfl : cs = cs' := rowAt_eq r r' (by
      obtain ⟨_, _, _, _, _, _, _, _, _, _, rfl⟩ := V.ten l1
      obtain ⟨_, _, _, _, _, _, _, _, _, _, rfl⟩ := tk_ten t1
      rfl)
    obtain ⟨n1, n2, n3⟩ := blks_split hn
    obtain ⟨F1, s1, u1, v1⟩ := sp_of x l1 t1 (fun s hs => hx s (by simp [hs])) (fun s hs => hy s (by simp [hs])) n1
    obtain ⟨F2, s2, u2, v2⟩ := spE_of t (fun _ => l2) (fun _ => t2) (fun e => by subst e; rw [tkE] at t2; exact t2) (fun s hs => hx s (by simp [hs])) (fun s hs => hy s (by simp [hs])) n2
    refine ⟨F1 ++ F2, by rw [spE]; exact ⟨cs, F1, F2, r, s1, s2, rfl⟩, ?_, fun b hb => ?_⟩
    · rw [List.nodup_append]
      exact ⟨u1, u2, fun a ha b hb e => n3 a (v1 a ha) (by rw [e]; exact v2 b hb)⟩
    · rcases List.mem_append.1 hb with h | h
      · exact blks_mem.2 (.inl (v1 b h))
      · exact blks_mem.2 (.inr (v2 b h))
theorem spF_of {w : World} {S T : Nat → Prop} : ∀ (l : List Mem) {b o : Nat} {xs ys : List Value}, (0 < l.length → liesM false w S l b o) → (0 < l.length → tkF w T l b o xs ys) → (l = [] → xs = [] ∧ ys = []) → (∀ s ∈ xs, SlR w 25 6 s) → (∀ s ∈ ys, SlR w 38 7 s) → (blks xs ys).Nodup → ∃ F, spF w l b o F ∧ F.Nodup ∧ ∀ b ∈ F, b ∈ blks xs ys
  | [], b, o, xs, ys, _, _, _, _, _, _ => ⟨[], by rw [spF], List.nodup_nil, fun b hb => by simp at hb⟩
  | (k, x) :: t, b, o, xs, ys, h1, h2, _, hx, hy, hn => by
    have h1 := h1 (by simp)
    have h2 := h2 (by simp)
    rw [liesM] at h1
    rw [tkF] at h2
    obtain ⟨_, ⟨hk, cs, r, l1⟩, l2⟩ := h1
    obtain ⟨_, cs', x1, y1, x2, y2, r', t1, t2, rfl, rfl⟩ := h2
    obtain rfl : cs = cs' := by
      have := rowAt_eq r r' (by
        obtain ⟨_, _, _, _, _, _, _, _, _, _, rfl⟩ := V.ten l1
        obtain ⟨_, _, _, _, _, _, _, _, _, _, rfl⟩ := tk_ten t1
        rfl)
      exact (List.cons.inj this).2
    obtain ⟨n1, n2, n3⟩ := blks_split hn
    obtain ⟨F1, s1, u1, v1⟩ := sp_of x l1 t1 (fun s hs => hx s (by simp [hs])) (fun s hs => hy s (by simp [hs])) n1
    obtain ⟨F2, s2, u2, v2⟩ := spF_of t (fun _ => l2) (fun _ => t2) (fun e => by subst e; rw [tkF] at t2; exact t2) (fun s hs => hx s (by simp [hs])) (fun s hs => hy s (by simp [hs])) n2
    refine ⟨F1 ++ F2, by rw [spF]; exact ⟨cs, F1, F2, hk, r, s1, s2, rfl⟩, ?_, fun b hb => ?_⟩
    · rw [List.nodup_append]
      exact ⟨u1, u2, fun a ha b hb e => n3 a (v1 a ha) (by rw [e]; exact v2 b hb)⟩
    · rcases List.mem_append.1 hb with h | h
      · exact blks_mem.2 (.inl (v1 b h))
      · exact blks_mem.2 (.inr (v2 b h))
end
theorem Unm.sp {w : World} {S : Nat → Prop} {v : V} {cs : List Value} (h : Unm w S v cs) {T : Nat → Prop} (hl : v.lies false w T cs) : ∃ F, v.sp w cs F ∧ F.Nodup ∧ ∀ b ∈ F, S b := by
  obtain ⟨xs, ys, h1, h2⟩ := h
  obtain ⟨F, a, b, c⟩ := sp_of v hl h1 h2.l h2.m h2.n
  exact ⟨F, a, b, fun x hx => h2.r x (c x hx)⟩
/-- only blocks of F turned, and more was made -/
structure Ch (F : Nat → Prop) (w w' : World) : Prop where
  os : w'.os = w.os
  tape : w'.tape = w.tape
  output : w'.output = w.output
  size : w.heap.size ≤ w'.heap.size
  blk : ∀ y, y < w.heap.size → ¬ F y → w'.heap[y]? = w.heap[y]?
theorem Ch.refl (F : Nat → Prop) (w : World) : Ch F w w := ⟨rfl, rfl, rfl, Nat.le_refl _, fun _ _ _ => rfl⟩
theorem Ch.trans {F : Nat → Prop} {a b c : World} (h : Ch F a b) (h' : Ch F b c) : Ch F a c := ⟨h'.os.trans h.os, h'.tape.trans h.tape, h'.output.trans h.output, Nat.le_trans h.size h'.size, fun y hy hn => (h'.blk y (Nat.lt_of_lt_of_le hy h.size) hn).trans (h.blk y hy hn)⟩
theorem Ch.mono {F G : Nat → Prop} {a b : World} (h : Ch F a b) (k : ∀ y, F y → G y) : Ch G a b := ⟨h.os, h.tape, h.output, h.size, fun y hy hn => h.blk y hy (fun q => hn (k y q))⟩
theorem Ch.below {F : Nat → Prop} {a b : World} (h : Below a.heap.size a b) : Ch F a b := ⟨h.os, h.tape, h.output, h.size, fun y hy _ => h.block y hy⟩
theorem wtL_set : ∀ (l : List V) (i : Nat) (h : i < l.length) (x : V), wtL (l.set i x) + (l[i]).wt = wtL l + x.wt
  | [], i, h, x => by simp at h
  | a :: t, 0, h, x => by simp only [List.set_cons_zero, wtL, List.getElem_cons_zero]; omega
  | a :: t, i + 1, h, x => by
    have := wtL_set t i (by simpa using h) x
    simp only [List.set_cons_succ, wtL, List.getElem_cons_succ]
    omega
theorem wtM_set : ∀ (l : List Mem) (i : Nat) (h : i < l.length) (x : V), wtM (l.set i ((l[i]).1, x)) + (l[i]).2.wt = wtM l + x.wt
  | [], i, h, x => by simp at h
  | (k, a) :: t, 0, h, x => by simp only [List.set_cons_zero, wtM, List.getElem_cons_zero]; omega
  | (k, a) :: t, i + 1, h, x => by
    have := wtM_set t i (by simpa using h) x
    simp only [List.set_cons_succ, wtM, List.getElem_cons_succ]
    omega
end Go.Proofs.YthgfomblodhoaaaDoor
/- A value or a member stored into a row. -/
namespace Go.Proofs.YthgfomblodhoaaaDoor
open Go Go.RowKit Go.Lib Go.Shelf
theorem Blk.set {g ty n : Nat} {w : World} (h : Blk g ty n w) (i : Nat) (u : Value) : Blk g ty n (w.setCell ⟨g, i, none⟩ u) := by
  obtain ⟨arr, e, hs⟩ := h
  exact ⟨arr.setIfInBounds i u, set_block e i u, by rw [Array.size_setIfInBounds]; exact hs⟩
theorem Blk.at_ {g ty n : Nat} {w : World} (h : Blk g ty n w) {i : Nat} (u : Value) (hi : i < n) : (w.setCell ⟨g, i, none⟩ u).cell? ⟨g, i, none⟩ = some u := by
  obtain ⟨v, hv⟩ := h.cell i hi
  exact World.cell?_setCell_same' w _ u (by rw [hv]; rfl)
theorem cell_set_off {w : World} {g i j : Nat} {u : Value} (h : j ≠ i) : (w.setCell ⟨g, i, none⟩ u).cell? ⟨g, j, none⟩ = w.cell? ⟨g, j, none⟩ :=
  World.cell?_setCell_other _ _ _ _ (fun e => h (Addr.mk.inj e).2.1.symm)
theorem set_os (w : World) (g i : Nat) (u : Value) : (w.setCell ⟨g, i, none⟩ u).os = w.os := (grown_set1 w g i u).os
theorem set_tape (w : World) (g i : Nat) (u : Value) : (w.setCell ⟨g, i, none⟩ u).tape = w.tape := (grown_set1 w g i u).tape
theorem set_output (w : World) (g i : Nat) (u : Value) : (w.setCell ⟨g, i, none⟩ u).output = w.output := (grown_set1 w g i u).output
/-- a value stored at place i of a list's block: c is its kind -/
structure Put6 (g i sz ty : Nat) (W W' : World) (c : Value) : Prop where
  h3 : W'.os = W.os ∧ W'.tape = W.tape ∧ W'.output = W.output
  k : Blk g ty sz W'
  size : W'.heap.size = W.heap.size
  o_ : ∀ y, y ≠ g → W'.heap[y]? = W.heap[y]?
  c_ : ∀ q, q < i * 6 ∨ i * 6 + 6 ≤ q → W'.cell? ⟨g, q, none⟩ = W.cell? ⟨g, q, none⟩
  at_ : W'.cell? ⟨g, i * 6, none⟩ = some c
/-- a member stored at place i of a map's block: c is its value's kind -/
structure Put7 (g i sz ty : Nat) (W W' : World) (c : Value) : Prop where
  h3 : W'.os = W.os ∧ W'.tape = W.tape ∧ W'.output = W.output
  k : Blk g ty sz W'
  size : W'.heap.size = W.heap.size
  o_ : ∀ y, y ≠ g → W'.heap[y]? = W.heap[y]?
  c_ : ∀ q, q < i * 7 ∨ i * 7 + 7 ≤ q → W'.cell? ⟨g, q, none⟩ = W.cell? ⟨g, q, none⟩
  at_ : W'.cell? ⟨g, i * 7 + 1, none⟩ = some c
theorem put6 {W : World} {g sz i : Nat} {c0 c1 c2 c3 c4 c5 : Value} (h : Blk g 25 sz W) (hi : i * 6 + 6 ≤ sz) : Put6 g i sz 25 W ((((((W.setCell ⟨g, i * 6, none⟩ c0).setCell ⟨g, i * 6 + 1, none⟩ c1).setCell ⟨g, i * 6 + 2, none⟩ c2).setCell ⟨g, i * 6 + 3, none⟩ c3).setCell ⟨g, i * 6 + 4, none⟩ c4).setCell ⟨g, i * 6 + 5, none⟩ c5) c0 := by
  have b0 := h.set (i * 6) c0
  have b1 := b0.set (i * 6 + 1) c1
  have b2 := b1.set (i * 6 + 2) c2
  have b3 := b2.set (i * 6 + 3) c3
  have b4 := b3.set (i * 6 + 4) c4
  have b5 := b4.set (i * 6 + 5) c5
  refine ⟨⟨by simp only [set_os], by simp only [set_tape], by simp only [set_output]⟩, b5, by simp only [size_set1], fun y hy => by repeat (rw [set_other hy]), fun q hq => ?_, ?_⟩
  · repeat (rw [cell_set_off (by omega)])
  · rw [cell_set_off (by omega)]
    rw [cell_set_off (by omega)]
    rw [cell_set_off (by omega)]
    rw [cell_set_off (by omega)]
    rw [cell_set_off (by omega)]
    exact h.at_ c0 (by omega)
theorem put7 {W : World} {g sz i : Nat} {c0 c1 c2 c3 c4 c5 c6 : Value} (h : Blk g 38 sz W) (hi : i * 7 + 7 ≤ sz) : Put7 g i sz 38 W (((((((W.setCell ⟨g, i * 7, none⟩ c0).setCell ⟨g, i * 7 + 1, none⟩ c1).setCell ⟨g, i * 7 + 2, none⟩ c2).setCell ⟨g, i * 7 + 3, none⟩ c3).setCell ⟨g, i * 7 + 4, none⟩ c4).setCell ⟨g, i * 7 + 5, none⟩ c5).setCell ⟨g, i * 7 + 6, none⟩ c6) c1 := by
  have b0 := h.set (i * 7) c0
  have b1 := b0.set (i * 7 + 1) c1
  have b2 := b1.set (i * 7 + 2) c2
  have b3 := b2.set (i * 7 + 3) c3
  have b4 := b3.set (i * 7 + 4) c4
  have b5 := b4.set (i * 7 + 5) c5
  have b6 := b5.set (i * 7 + 6) c6
  refine ⟨⟨by simp only [set_os], by simp only [set_tape], by simp only [set_output]⟩, b6, by simp only [size_set1], fun y hy => by repeat (rw [set_other hy]), fun q hq => ?_, ?_⟩
  · repeat (rw [cell_set_off (by omega)])
  · rw [cell_set_off (by omega)]
    rw [cell_set_off (by omega)]
    rw [cell_set_off (by omega)]
    rw [cell_set_off (by omega)]
    rw [cell_set_off (by omega)]
    exact b0.at_ c1 (by omega)
end Go.Proofs.YthgfomblodhoaaaDoor
