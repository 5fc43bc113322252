import Derived.Test.YtpmhdcmmlkjjmaaGreatDoorJoD
/- what spread makes of a text: plain. -/
set_option linter.unusedSimpArgs false
set_option linter.unusedVariables false
set_option maxRecDepth 100000
namespace Go.Proofs.YtpmhdcmmlkjjmaaGreatDoor
open Go.RowKit Go.Lib
/-- a bracket, a comma, a colon -/
def sgn (c : UInt8) : Bool := c == 91 || c == 93 || c == 123 || c == 125 || c == 44 || c == 58
def seamJ (i : Nat) (p : UInt8) (ins : Bool) (c : UInt8) : Bool := i == 0 || (!ins && (sgn c || sgn p))
def gapJ (gp : Nat → Nat → List UInt8) (i k : Nat) (s : Bool) : List UInt8 := if s = true then gp i k else []
def nxK (g0 : Bool) (k : Nat) (s : Bool) : Nat := if (s && g0) = true then k + 1 else k
/-- the rest of the text, spread, behind what is out (es: the byte stands behind a backslash) -/
def spX (gp : Nat → Nat → List UInt8) (g0 : Bool) : List UInt8 → Nat → Nat → UInt8 → Bool → Bool → List UInt8 → List UInt8
  | [], i, k, p, ins, es, out => out ++ gp i k
  | c :: t, i, k, p, ins, es, out =>
    if es = true then spX gp g0 t (i + 1) k c ins false (out ++ [c])
    else if c = 34 ∧ ins = false then spX gp g0 t (i + 1) (nxK g0 k (seamJ i p ins c)) c true false (out ++ gapJ gp i k (seamJ i p ins c) ++ [c])
    else if c = 92 ∧ ins = true ∧ t ≠ [] then spX gp g0 t (i + 1) (nxK g0 k (seamJ i p ins c)) c ins true (out ++ gapJ gp i k (seamJ i p ins c) ++ [c])
    else if c = 34 then spX gp g0 t (i + 1) (nxK g0 k (seamJ i p ins c)) c false false (out ++ gapJ gp i k (seamJ i p ins c) ++ [c])
    else spX gp g0 t (i + 1) (nxK g0 k (seamJ i p ins c)) c ins false (out ++ gapJ gp i k (seamJ i p ins c) ++ [c])
def spR (gp : Nat → Nat → List UInt8) (g0 : Bool) (rest : List UInt8) (i k : Nat) (p : UInt8) (ins : Bool) (out : List UInt8) : List UInt8 := spX gp g0 rest i k p ins false out
section
variable {gp : Nat → Nat → List UInt8} {g0 : Bool}
theorem spR_end (i k : Nat) (p : UInt8) (ins : Bool) (out : List UInt8) : spR gp g0 [] i k p ins out = out ++ gp i k := by rw [spR, spX]
theorem spR_open {c : UInt8} {t : List UInt8} {i k : Nat} {p : UInt8} {out : List UInt8} (h : c = 34) : spR gp g0 (c :: t) i k p false out = spR gp g0 t (i + 1) (nxK g0 k (seamJ i p false c)) c true (out ++ gapJ gp i k (seamJ i p false c) ++ [c]) := by rw [spR, spX, if_neg (by decide), if_pos ⟨h, rfl⟩, spR]
theorem spR_two {c d : UInt8} {t : List UInt8} {i k : Nat} {p : UInt8} {out : List UInt8} (h : c = 92) : spR gp g0 (c :: d :: t) i k p true out = spR gp g0 t (i + 2) (nxK g0 k (seamJ i p true c)) d true (out ++ gapJ gp i k (seamJ i p true c) ++ [c] ++ [d]) := by rw [spR, spX, if_neg (by decide), if_neg (by simp), if_pos ⟨h, rfl, by simp⟩, spX, if_pos rfl, spR]
theorem spR_close {c : UInt8} {t : List UInt8} {i k : Nat} {p : UInt8} {out : List UInt8} (h : c = 34) : spR gp g0 (c :: t) i k p true out = spR gp g0 t (i + 1) (nxK g0 k (seamJ i p true c)) c false (out ++ gapJ gp i k (seamJ i p true c) ++ [c]) := by rw [spR, spX, if_neg (by decide), if_neg (by simp), if_neg (by rw [h]; simp), if_pos h, spR]
theorem spR_on {c : UInt8} {t : List UInt8} {i k : Nat} {p : UInt8} {ins : Bool} {out : List UInt8} (h : c ≠ 34) (h2 : ¬ (c = 92 ∧ ins = true ∧ t ≠ [])) : spR gp g0 (c :: t) i k p ins out = spR gp g0 t (i + 1) (nxK g0 k (seamJ i p ins c)) c ins (out ++ gapJ gp i k (seamJ i p ins c) ++ [c]) := by rw [spR, spX, if_neg (by decide), if_neg (fun q => h q.1), if_neg h2, if_neg h, spR]
theorem gap_bl (hgp : ∀ i k, bl (gp i k)) (i k : Nat) (s : Bool) : bl (gapJ gp i k s) := by
  unfold gapJ
  split
  · exact hgp i k
  · exact bl_nil
end
section
variable {gp : Nat → Nat → List UInt8} {g0 : Bool}
theorem seam_in (i : Nat) (p c : UInt8) (hi : i ≠ 0) : seamJ i p true c = false := by simp [seamJ, hi]
theorem seam_no (i : Nat) (p c : UInt8) (hi : i ≠ 0) (hp : sgn p = false) (hc : sgn c = false) : seamJ i p false c = false := by simp [seamJ, hi, hp, hc]
theorem gap_no (i k : Nat) : gapJ gp i k false = [] := rfl
theorem nxK_no (k : Nat) : nxK g0 k false = k := by simp [nxK]
/-- what stands in no string and is no sign goes as it is -/
theorem spr_copy : ∀ (X t : List UInt8) (i k : Nat) (p : UInt8) (out : List UInt8), (∀ c ∈ X, sgn c = false ∧ c ≠ 34) → i ≠ 0 → sgn p = false → ∃ p', spR gp g0 (X ++ t) i k p false out = spR gp g0 t (i + X.length) k p' false (out ++ X)
  | [], t, i, k, p, out, _, _, _ => ⟨p, by simp⟩
  | c :: X, t, i, k, p, out, h, hi, hp => by
    have hc := h c (List.mem_cons_self ..)
    obtain ⟨p', e⟩ := spr_copy X t (i + 1) k c (out ++ [c]) (fun d hd => h d (List.mem_cons_of_mem _ hd)) (by omega) hc.1
    refine ⟨p', ?_⟩
    rw [List.cons_append, spR_on hc.2 (by simp), seam_no i p c hi hp hc.1, gap_no, nxK_no, List.append_nil, e, List.length_cons]
    congr 1
    · omega
    · simp
theorem spr_plain (hgp : ∀ i k, bl (gp i k)) (X t : List UInt8) (i k : Nat) (p : UInt8) (out : List UInt8) (h : ∀ c ∈ X, sgn c = false ∧ c ≠ 34) (h0 : X ≠ []) : ∃ G k' p', bl G ∧ spR gp g0 (X ++ t) i k p false out = spR gp g0 t (i + X.length) k' p' false (out ++ (G ++ X)) := by
  obtain ⟨c, X, rfl⟩ := List.exists_cons_of_ne_nil h0
  have hc := h c (List.mem_cons_self ..)
  obtain ⟨p', e⟩ := spr_copy (gp := gp) (g0 := g0) X t (i + 1) (nxK g0 k (seamJ i p false c)) c (out ++ gapJ gp i k (seamJ i p false c) ++ [c]) (fun d hd => h d (List.mem_cons_of_mem _ hd)) (by omega) hc.1
  refine ⟨gapJ gp i k (seamJ i p false c), nxK g0 k (seamJ i p false c), p', gap_bl hgp _ _ _, ?_⟩
  rw [List.cons_append, spR_on hc.2 (by simp), e, List.length_cons]
  congr 1
  · omega
  · simp
theorem spr_sign (hgp : ∀ i k, bl (gp i k)) (c : UInt8) (t : List UInt8) (i k : Nat) (p : UInt8) (out : List UInt8) (h : c ≠ 34) : ∃ G k', bl G ∧ spR gp g0 (c :: t) i k p false out = spR gp g0 t (i + 1) k' c false (out ++ (G ++ [c])) :=
  ⟨gapJ gp i k (seamJ i p false c), _, gap_bl hgp _ _ _, by rw [spR_on h (by simp), List.append_assoc]⟩
theorem spr_in : ∀ (X t : List UInt8) (i k : Nat) (p : UInt8) (out : List UInt8), (∀ c ∈ X, c ≠ 34 ∧ c ≠ 92) → i ≠ 0 → ∃ p', spR gp g0 (X ++ t) i k p true out = spR gp g0 t (i + X.length) k p' true (out ++ X)
  | [], t, i, k, p, out, _, _ => ⟨p, by simp⟩
  | c :: X, t, i, k, p, out, h, hi => by
    have hc := h c (List.mem_cons_self ..)
    obtain ⟨p', e⟩ := spr_in X t (i + 1) k c (out ++ [c]) (fun d hd => h d (List.mem_cons_of_mem _ hd)) (by omega)
    refine ⟨p', ?_⟩
    rw [List.cons_append, spR_on hc.1 (fun q => hc.2 q.1), seam_in i p c hi, gap_no, nxK_no, List.append_nil, e, List.length_cons]
    congr 1
    · omega
    · simp
theorem esc_form : ∀ c : Fin 256, (∃ d : UInt8, ∃ r : List UInt8, (Q.escN c.val).map UInt8.ofNat = 92 :: d :: r ∧ ∀ x ∈ r, x ≠ 34 ∧ x ≠ 92) ∨ ((Q.escN c.val).map UInt8.ofNat = [UInt8.ofNat c.val] ∧ UInt8.ofNat c.val ≠ 34 ∧ UInt8.ofNat c.val ≠ 92) := by
  intro c
  by_cases h1 : Q.letN c.val = 0
  · by_cases h2 : c.val < 32
    · left
      refine ⟨117, [48, 48, UInt8.ofNat (Q.hexN (c.val / 16)), UInt8.ofNat (Q.hexN (c.val % 16))], ?_, ?_⟩
      · rw [Q.escN, if_neg (by simpa using h1), if_pos h2]; rfl
      · have hx : ∀ d : Fin 16, UInt8.ofNat (Q.hexN d.val) ≠ 34 ∧ UInt8.ofNat (Q.hexN d.val) ≠ 92 := by decide +kernel
        intro x hx'
        simp only [List.mem_cons, List.mem_nil_iff, or_false] at hx'
        rcases hx' with rfl | rfl | rfl | rfl
        · decide
        · decide
        · exact hx ⟨c.val / 16, by omega⟩
        · exact hx ⟨c.val % 16, by omega⟩
    · right
      have hno : ∀ c : Fin 256, Q.letN c.val = 0 → UInt8.ofNat c.val ≠ 34 ∧ UInt8.ofNat c.val ≠ 92 := by decide +kernel
      exact ⟨by rw [Q.escN, if_neg (by simpa using h1), if_neg h2]; rfl, hno c h1⟩
  · left
    exact ⟨UInt8.ofNat (Q.letN c.val), [], by rw [Q.escN, if_pos h1]; rfl, fun x hx => by cases hx⟩
theorem spr_body : ∀ (s t : List UInt8) (i k : Nat) (p : UInt8) (out : List UInt8), i ≠ 0 → ∃ p', spR gp g0 (Q.body s ++ t) i k p true out = spR gp g0 t (i + (Q.body s).length) k p' true (out ++ Q.body s)
  | [], t, i, k, p, out, _ => ⟨p, by simp [Q.body]⟩
  | c :: s, t, i, k, p, out, hi => by
    have hb : Q.body (c :: s) = Q.esc c ++ Q.body s := by simp [Q.body]
    have hf := esc_form ⟨c.toNat, c.toNat_lt⟩
    have he : ∃ p', spR gp g0 (Q.esc c ++ (Q.body s ++ t)) i k p true out = spR gp g0 (Q.body s ++ t) (i + (Q.esc c).length) k p' true (out ++ Q.esc c) := by
      rcases hf with ⟨d, r, e, hr⟩ | ⟨e, h1, h2⟩
      · have e' : Q.esc c = 92 :: d :: r := e
        rw [e']
        obtain ⟨p', e2⟩ := spr_in (gp := gp) (g0 := g0) r (Q.body s ++ t) (i + 2) k d (out ++ [92] ++ [d]) hr (by omega)
        refine ⟨p', ?_⟩
        rw [List.cons_append, List.cons_append, spR_two rfl, seam_in i p _ hi, gap_no, nxK_no, List.append_nil, e2]
        congr 1
        · simp; omega
        · simp
      · have e' : Q.esc c = [UInt8.ofNat c.toNat] := e
        rw [e']
        refine ⟨UInt8.ofNat c.toNat, ?_⟩
        rw [List.cons_append, List.nil_append, spR_on h1 (fun q => h2 q.1), seam_in i p _ hi, gap_no, nxK_no, List.append_nil]
        rfl
    obtain ⟨p1, e1⟩ := he
    obtain ⟨p2, e2⟩ := spr_body s t (i + (Q.esc c).length) k p1 (out ++ Q.esc c) (by omega)
    refine ⟨p2, ?_⟩
    rw [hb, List.append_assoc, e1, e2, List.length_append]
    congr 1
    · omega
    · simp
theorem spr_str (hgp : ∀ i k, bl (gp i k)) (s t : List UInt8) (i k : Nat) (p : UInt8) (out : List UInt8) : ∃ G k' p', bl G ∧ spR gp g0 (Q.qt s ++ t) i k p false out = spR gp g0 t (i + (Q.qt s).length) k' p' false (out ++ (G ++ Q.qt s)) := by
  obtain ⟨p1, e1⟩ := spr_body (gp := gp) (g0 := g0) s (34 :: t) (i + 1) (nxK g0 k (seamJ i p false 34)) 34 (out ++ gapJ gp i k (seamJ i p false 34) ++ [34]) (by omega)
  refine ⟨gapJ gp i k (seamJ i p false 34), nxK g0 k (seamJ i p false 34), 34, gap_bl hgp _ _ _, ?_⟩
  have e0 : Q.qt s ++ t = 34 :: (Q.body s ++ 34 :: t) := by simp [Q.qt]
  rw [e0, spR_open rfl, e1, spR_close rfl, seam_in _ _ _ (by omega), gap_no, nxK_no, List.append_nil, Q.qt_length]
  congr 1
  · show i + 1 + Q.sz s + 1 = _; omega
  · simp [Q.qt]
end
theorem itoa_plain (i : Int) : ∀ c ∈ itoa i, sgn c = false ∧ c ≠ 34 := fun c hc => by
  have h := itoa_num i c hc
  have hx : ∀ d : UInt8, numC d = false → ¬ c = d := fun d hd e => by rw [e, hd] at h; cases h
  refine ⟨?_, hx _ (by decide)⟩
  simp [sgn, hx 91 (by decide), hx 93 (by decide), hx 123 (by decide), hx 125 (by decide), hx 44 (by decide), hx 58 (by decide)]
theorem itoa_ne (i : Int) : itoa i ≠ [] := by
  unfold itoa
  split
  · simp
  · exact dec_ne _
mutual
theorem sprV {gp : Nat → Nat → List UInt8} {g0 : Bool} (hgp : ∀ i k, bl (gp i k)) : ∀ (v : V) (t : List UInt8) (i k : Nat) (p : UInt8) (out : List UInt8), ∃ G W k' p', bl G ∧ WV v W ∧ spR gp g0 (txtV v ++ t) i k p false out = spR gp g0 t (i + (txtV v).length) k' p' false (out ++ (G ++ W))
  | .mk kk b ii s l m, t, i, k, p, out => by
    have hL := sprL (g0 := g0) hgp l
    have hM := sprM (g0 := g0) hgp m
    by_cases h4 : kk = 4
    · subst h4
      have ht : txtV (V.mk 4 b ii s l m) = 91 :: (joinB (txtL l) ++ [93]) := by rw [txtV]; simp
      obtain ⟨G, k1, hG, e1⟩ := spr_sign (g0 := g0) hgp 91 (joinB (txtL l) ++ ([93] ++ t)) i k p out (by decide)
      obtain ⟨G2, T, k2, p2, hG2, hT, e2⟩ := hL t (i + 1) k1 91 (out ++ (G ++ [91]))
      refine ⟨G, 91 :: (G2 ++ T), k2, p2, hG, by rw [WV, if_pos rfl]; exact ⟨G2, T, rfl, hG2, hT⟩, ?_⟩
      rw [ht, List.cons_append, List.append_assoc, e1]
      have e2' : spR gp g0 (joinB (txtL l) ++ ([93] ++ t)) (i + 1) k1 91 false (out ++ (G ++ [91])) = _ := e2
      rw [e2']
      congr 1
      · simp; omega
      · simp
    · by_cases h5 : kk = 5
      · subst h5
        have ht : txtV (V.mk 5 b ii s l m) = 123 :: (joinB (txtM m) ++ [125]) := by rw [txtV]; simp
        obtain ⟨G, k1, hG, e1⟩ := spr_sign (g0 := g0) hgp 123 (joinB (txtM m) ++ ([125] ++ t)) i k p out (by decide)
        obtain ⟨G2, T, k2, p2, hG2, hT, e2⟩ := hM t (i + 1) k1 123 (out ++ (G ++ [123]))
        refine ⟨G, 123 :: (G2 ++ T), k2, p2, hG, by rw [WV, if_neg (by decide), if_pos rfl]; exact ⟨G2, T, rfl, hG2, hT⟩, ?_⟩
        rw [ht, List.cons_append, List.append_assoc, e1]
        have e2' : spR gp g0 (joinB (txtM m) ++ ([125] ++ t)) (i + 1) k1 123 false (out ++ (G ++ [123])) = _ := e2
        rw [e2']
        congr 1
        · simp; omega
        · simp
      · have hW : WV (V.mk kk b ii s l m) (txtV (V.mk kk b ii s l m)) := by rw [WV, if_neg h4, if_neg h5]
        have fin : (∃ G k' p', bl G ∧ spR gp g0 (txtV (V.mk kk b ii s l m) ++ t) i k p false out = spR gp g0 t (i + (txtV (V.mk kk b ii s l m)).length) k' p' false (out ++ (G ++ txtV (V.mk kk b ii s l m)))) → ∃ G W k' p', bl G ∧ WV (V.mk kk b ii s l m) W ∧ spR gp g0 (txtV (V.mk kk b ii s l m) ++ t) i k p false out = spR gp g0 t (i + (txtV (V.mk kk b ii s l m)).length) k' p' false (out ++ (G ++ W)) :=
          fun ⟨G, k', p', h1, h2⟩ => ⟨G, _, k', p', h1, hW, h2⟩
        apply fin
        by_cases h3 : kk = 3
        · subst h3
          have ht : txtV (V.mk 3 b ii s l m) = Q.qt s.data.toList := by rw [txtV]; simp
          rw [ht]
          exact spr_str hgp _ t i k p out
        · by_cases h2 : kk = 2
          · subst h2
            have ht : txtV (V.mk 2 b ii s l m) = itoa ii := by rw [txtV]; simp
            rw [ht]
            exact spr_plain hgp _ t i k p out (itoa_plain ii) (itoa_ne ii)
          · have hp : (∀ c ∈ txtV (V.mk kk b ii s l m), sgn c = false ∧ c ≠ 34) ∧ txtV (V.mk kk b ii s l m) ≠ [] := by
              rw [txtV]
              split
              · split
                · exact ⟨by decide, by simp⟩
                · exact ⟨by decide, by simp⟩
              · (try rw [if_neg h2, if_neg h3, if_neg h4, if_neg h5])
                exact ⟨by decide, by simp⟩
            exact spr_plain hgp _ t i k p out hp.1 hp.2
theorem sprL {gp : Nat → Nat → List UInt8} {g0 : Bool} (hgp : ∀ i k, bl (gp i k)) : ∀ (l : List V) (t : List UInt8) (i k : Nat) (p : UInt8) (out : List UInt8), ∃ G T k' p', bl G ∧ WL l T ∧ spR gp g0 (joinB (txtL l) ++ 93 :: t) i k p false out = spR gp g0 t (i + (joinB (txtL l)).length + 1) k' p' false (out ++ (G ++ T))
  | [], t, i, k, p, out => by
    obtain ⟨G, k1, hG, e1⟩ := spr_sign (g0 := g0) hgp 93 t i k p out (by decide)
    refine ⟨G, [93], k1, 93, hG, by rw [WL], ?_⟩
    rw [txtL, joinB, List.nil_append, e1]
    rfl
  | x :: l, t, i, k, p, out => by
    have hX := sprV (g0 := g0) hgp x
    have hL := sprL (g0 := g0) hgp l
    by_cases hl : l = []
    · subst hl
      obtain ⟨G, X, k1, p1, hG, hWX, e1⟩ := hX (93 :: t) i k p out
      obtain ⟨G2, k2, hG2, e2⟩ := spr_sign (g0 := g0) hgp 93 t (i + (txtV x).length) k1 p1 (out ++ (G ++ X)) (by decide)
      refine ⟨G, X ++ (G2 ++ [93]), k2, 93, hG, by rw [WL]; exact ⟨X, G2, hWX, hG2, .inl ⟨rfl, rfl⟩⟩, ?_⟩
      rw [txtL, txtL, joinB_one, e1, e2]
      congr 1
      simp
    · obtain ⟨y, l', rfl⟩ := List.exists_cons_of_ne_nil hl
      have hj : joinB (txtL (x :: y :: l')) = txtV x ++ 44 :: joinB (txtL (y :: l')) := by rw [txtL, txtL, joinB_cons2, ← txtL]
      obtain ⟨G, X, k1, p1, hG, hWX, e1⟩ := hX (44 :: (joinB (txtL (y :: l')) ++ 93 :: t)) i k p out
      obtain ⟨G2, k2, hG2, e2⟩ := spr_sign (g0 := g0) hgp 44 (joinB (txtL (y :: l')) ++ 93 :: t) (i + (txtV x).length) k1 p1 (out ++ (G ++ X)) (by decide)
      obtain ⟨G3, T, k3, p3, hG3, hT, e3⟩ := hL t (i + (txtV x).length + 1) k2 44 (out ++ (G ++ X) ++ (G2 ++ [44]))
      refine ⟨G, X ++ (G2 ++ 44 :: (G3 ++ T)), k3, p3, hG, by rw [WL]; exact ⟨X, G2, hWX, hG2, .inr ⟨G3, T, by simp, rfl, hG3, hT⟩⟩, ?_⟩
      rw [hj, List.append_assoc, List.cons_append, e1, e2, e3]
      congr 1
      · simp; omega
      · simp
theorem sprM {gp : Nat → Nat → List UInt8} {g0 : Bool} (hgp : ∀ i k, bl (gp i k)) : ∀ (l : List Mem) (t : List UInt8) (i k : Nat) (p : UInt8) (out : List UInt8), ∃ G T k' p', bl G ∧ WM l T ∧ spR gp g0 (joinB (txtM l) ++ 125 :: t) i k p false out = spR gp g0 t (i + (joinB (txtM l)).length + 1) k' p' false (out ++ (G ++ T))
  | [], t, i, k, p, out => by
    obtain ⟨G, k1, hG, e1⟩ := spr_sign (g0 := g0) hgp 125 t i k p out (by decide)
    refine ⟨G, [125], k1, 125, hG, by rw [WM], ?_⟩
    rw [txtM, joinB, List.nil_append, e1]
    rfl
  | (key, x) :: l, t, i, k, p, out => by
    have hX := sprV (g0 := g0) hgp x
    have hL := sprM (g0 := g0) hgp l
    by_cases hl : l = []
    · subst hl
      obtain ⟨G, k0, p0, hG, e0⟩ := spr_str (g0 := g0) hgp key.data.toList (58 :: (txtV x ++ 125 :: t)) i k p out
      obtain ⟨G1, k1, hG1, e1⟩ := spr_sign (g0 := g0) hgp 58 (txtV x ++ 125 :: t) (i + (Q.qt key.data.toList).length) k0 p0 (out ++ (G ++ Q.qt key.data.toList)) (by decide)
      obtain ⟨G2, X, k2, p2, hG2, hWX, e2⟩ := hX (125 :: t) (i + (Q.qt key.data.toList).length + 1) k1 58 (out ++ (G ++ Q.qt key.data.toList) ++ (G1 ++ [58]))
      obtain ⟨G3, k3, hG3, e3⟩ := spr_sign (g0 := g0) hgp 125 t (i + (Q.qt key.data.toList).length + 1 + (txtV x).length) k2 p2 (out ++ (G ++ Q.qt key.data.toList) ++ (G1 ++ [58]) ++ (G2 ++ X)) (by decide)
      refine ⟨G, Q.qt key.data.toList ++ (G1 ++ 58 :: (G2 ++ (X ++ (G3 ++ [125])))), k3, 125, hG, by rw [WM]; exact ⟨G1, G2, X, G3, hWX, hG1, hG2, hG3, .inl ⟨rfl, rfl⟩⟩, ?_⟩
      rw [txtM, txtM, joinB_one, List.append_assoc, List.cons_append, e0, e1, e2, e3]
      congr 1
      · simp; omega
      · simp
    · obtain ⟨y, l', rfl⟩ := List.exists_cons_of_ne_nil hl
      have hj : joinB (txtM ((key, x) :: y :: l')) = (Q.qt key.data.toList ++ 58 :: txtV x) ++ 44 :: joinB (txtM (y :: l')) := by rw [txtM_eq, txtM_eq, List.map_cons, List.map_cons, joinB_cons2]; rfl
      obtain ⟨G, k0, p0, hG, e0⟩ := spr_str (g0 := g0) hgp key.data.toList (58 :: (txtV x ++ 44 :: (joinB (txtM (y :: l')) ++ 125 :: t))) i k p out
      obtain ⟨G1, k1, hG1, e1⟩ := spr_sign (g0 := g0) hgp 58 (txtV x ++ 44 :: (joinB (txtM (y :: l')) ++ 125 :: t)) (i + (Q.qt key.data.toList).length) k0 p0 (out ++ (G ++ Q.qt key.data.toList)) (by decide)
      obtain ⟨G2, X, k2, p2, hG2, hWX, e2⟩ := hX (44 :: (joinB (txtM (y :: l')) ++ 125 :: t)) (i + (Q.qt key.data.toList).length + 1) k1 58 (out ++ (G ++ Q.qt key.data.toList) ++ (G1 ++ [58]))
      obtain ⟨G3, k3, hG3, e3⟩ := spr_sign (g0 := g0) hgp 44 (joinB (txtM (y :: l')) ++ 125 :: t) (i + (Q.qt key.data.toList).length + 1 + (txtV x).length) k2 p2 (out ++ (G ++ Q.qt key.data.toList) ++ (G1 ++ [58]) ++ (G2 ++ X)) (by decide)
      obtain ⟨G4, T, k4, p4, hG4, hT, e4⟩ := hL t (i + (Q.qt key.data.toList).length + 1 + (txtV x).length + 1) k3 44 (out ++ (G ++ Q.qt key.data.toList) ++ (G1 ++ [58]) ++ (G2 ++ X) ++ (G3 ++ [44]))
      refine ⟨G, Q.qt key.data.toList ++ (G1 ++ 58 :: (G2 ++ (X ++ (G3 ++ 44 :: (G4 ++ T))))), k4, p4, hG, by rw [WM]; exact ⟨G1, G2, X, G3, hWX, hG1, hG2, hG3, .inr ⟨G4, T, by simp, rfl, hG4, hT⟩⟩, ?_⟩
      rw [hj, List.append_assoc, List.append_assoc, List.cons_append, List.cons_append, e0, e1, e2, e3, e4]
      congr 1
      · simp; omega
      · simp
end
/-- the whole text, spread -/
theorem spr_all {gp : Nat → Nat → List UInt8} {g0 : Bool} (hgp : ∀ i k, bl (gp i k)) (v : V) : ∃ B W B', bl B ∧ WV v W ∧ bl B' ∧ spR gp g0 (txtV v) 0 0 0 false [] = B ++ (W ++ B') := by
  obtain ⟨G, W, k, p, hG, hW, e⟩ := sprV (g0 := g0) hgp v [] 0 0 0 []
  rw [List.append_nil, spR_end] at e
  exact ⟨G, W, gp (0 + (txtV v).length) k, hG, hW, hgp _ _, by rw [e]; simp⟩
end Go.Proofs.YtpmhdcmmlkjjmaaGreatDoor
