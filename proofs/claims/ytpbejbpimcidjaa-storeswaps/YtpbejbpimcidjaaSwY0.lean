/- put. -/
import Derived.Test.YtpbejbpimcidjaaSwO
set_option linter.unusedSimpArgs false
set_option linter.unusedVariables false
namespace Go.Proofs.Ytpbejbpimcidjaa
open Go Go.Lib Go.RowKit Go.Maps Go.Sort

theorem SnC.form {w : World} {s : Sn} {a b c : Value} (h : SnC w s a b c) : ∃ (x : Bool) (r : Int) (ad : Option Addr) (n cp : Nat), a = .bool x ∧ b = .int .i64 r ∧ c = .slice ad n cp := by
  cases s with
  | none => exact ⟨_, _, _, _, _, h.1, h.2.1, h.2.2⟩
  | some x =>
    obtain ⟨a3, c3, e⟩ := h.2.2.1.form
    exact ⟨_, _, _, _, _, h.1, h.2.1, e⟩
/-- behind the call of the store -/
def Mid (w0 Wb : World) (S : Nat) (first : Int) (hh : List He) (fl k : Nat) (d dold : ByteArray) (e11 e12 e13 e14 : Value) (wx : World) : Prop :=
  (∃ x want kd : Int, e11 = .int .i64 0 ∧ e12 = .int .i64 x ∧ e13 = .int .i64 kd ∧ e14 = .int .i64 want ∧ ¬ x = 0 ∧ ((want = 0 ∧ first + (hh.length : Int) = mx ∧ x = 194) ∨ (¬ want = 0 ∧ x = want)) ∧ StX w0 wx S first hh fl ∧ Kb Wb wx) ∨
  (∃ (kd : Int) (dk : ByteArray), e11 = .int .i64 (first + (hh.length : Int) + 1) ∧ e12 = .int .i64 0 ∧ e13 = .int .i64 kd ∧ e14 = .int .i64 0 ∧ first + (hh.length : Int) < mx ∧ ((kd = 3 ∧ dk = dold) ∨ ((kd = 1 ∨ kd = 2) ∧ dk = d)) ∧ StX w0 wx S first (hh ++ [(kd, k, dk)]) fl ∧ Kb Wb wx)
theorem Kb.trans {a b c : World} (h : Kb a b) (k : Kb b c) : Kb a c := fun y cs t fr e ht => (k y cs t fr ((h y cs t fr e ht).trans e) ht).trans (h y cs t fr e ht)
/-- what stands ahead of the two appends -/
def TailP (w0 wc : World) (S B : Nat) (first : Int) (hh : List He) (fl k : Nat) (kd : Int) (dk : ByteArray) (sv evv : Value) (X : Nat) (wx : World) : Prop := ∃ row2 dv2, wx.heap[B]? = some (.cells (bbx (first + (hh.length : Int) + 1) row2 sv evv) 37) ∧ wx.heap[X]? = some (.cells #[.int .i64 (first + (hh.length : Int) + 1), .int .i64 kd, .string (nm k), dv2] 70) ∧ Kn wc wx ∧ StX w0 wx S first (hh ++ [(kd, k, dk)]) fl ∧ Byt wx dv2 dk ∧ dk.size ≤ 4096 ∧ Row15 wx (runA A0 first (hh ++ [(kd, k, dk)])) row2 ∧ row2.length = 15
/-- behind the first of them -/
def Tail2 (w0 : World) (S B : Nat) (first : Int) (hh : List He) (fl k : Nat) (kd : Int) (dk : ByteArray) (sv : Value) (R : List (List Value)) (wx : World) (row2 : List Value) : Prop := ∃ evv2, wx.heap[B]? = some (.cells (bbx (first + (hh.length : Int) + 1) row2 sv evv2) 37) ∧ StX w0 wx S first (hh ++ [(kd, k, dk)]) fl ∧ Row15 wx (runA A0 first (hh ++ [(kd, k, dk)])) row2 ∧ row2.length = 15 ∧ (R.length = hh.length + 1 ∧ wx.ownsRow w0.heap.size 33 15 sv (hh.length + 1) R.flatten ∧ ∀ (i : Nat) (rw : List Value), R[i]? = some rw → Row15 wx (runA A0 first (hh.take i)) rw) ∧ (∃ L : List (He × Value), L.map Prod.fst = hh ++ [(kd, k, dk)] ∧ wx.ownsRow w0.heap.size 70 4 evv2 (hh.length + 1) (ebs first L) ∧ ∀ x ∈ L, Byt wx x.2 x.1.2.2) ∧ w0.heap.size ≤ B ∧ ∀ e ∈ hh ++ [(kd, k, dk)], Hok e
theorem Fr.grownO {F : Nat → Prop} {w0 w w' : World} {o : Option Nat} (h : Fr F w0 w) (k : w.grownBy w' o) (ho : ∀ g, o = some g → ¬ F g) : Fr F w0 w' := by
  cases o with
  | none => exact h.below ⟨k.os, k.tape, k.output, k.size, fun y hy => k.block y hy (by simp)⟩
  | some g => exact h.grown k (ho g rfl)
theorem tail2_mk {w0 wc W6 W7 : World} {S B : Nat} {first : Int} {hh : List He} {fl k : Nat} {kd : Int} {dk : ByteArray} {sv evv evv2 dv2 : Value} {row2 : List Value} {R : List (List Value)} {L : List (He × Value)}
    (hBB : wc.heap[B]? = some (.cells (bbx (first + (hh.length : Int) + 1) row2 sv evv) 37)) (hst : StX w0 wc S first (hh ++ [(kd, k, dk)]) fl) (hrow : Row15 wc (runA A0 first (hh ++ [(kd, k, dk)])) row2) (hl2 : row2.length = 15) (hby : Byt wc dv2 dk)
    (r1 : R.length = hh.length + 1) (r2 : wc.ownsRow w0.heap.size 33 15 sv (hh.length + 1) R.flatten) (r3 : ∀ (i : Nat) (rw : List Value), R[i]? = some rw → Row15 wc (runA A0 first (hh.take i)) rw)
    (l1 : L.map Prod.fst = hh) (hev : wc.ownsRow w0.heap.size 70 4 evv hh.length (ebs first L)) (l3 : ∀ x ∈ L, Byt wc x.2 x.1.2.2) (hb : w0.heap.size ≤ B) (hok : ∀ e ∈ hh, Hok e) (hok1 : Hok (kd, k, dk))
    (b6 : Below wc.heap.size wc W6) (q1 : W7.ownsRow w0.heap.size 70 4 evv2 (hh.length + 1) (ebs first L ++ ebc (first + (hh.length : Int) + 1) (kd, k, dk) dv2)) (q2 : W6.grownBy W7 evv.ownBlock) :
    Tail2 w0 S B first hh fl k kd dk sv R (W7.setCell ⟨B, 17, none⟩ evv2) row2 := by
  have hgt : ∀ (y : Nat) (o : Obj), wc.heap[y]? = some o → (∀ c t fr, o = Obj.cells c t fr → t ≠ 70) → some y ≠ evv.ownBlock := fun y o e hne q => by
    rcases hev.2 with ⟨e2, _⟩ | ⟨g', cap, cur, e2, _, p2, _⟩
    · rw [e2] at q; simp [Value.ownBlock] at q
    · rw [e2] at q
      have : y = g' := by simpa [Value.ownBlock] using q
      rw [this, p2] at e
      exact hne _ _ _ (Option.some.inj e).symm rfl
  have k7 : ∀ (y : Nat) (o : Obj), wc.heap[y]? = some o → (∀ c t fr, o = Obj.cells c t fr → t ≠ 70) → W7.heap[y]? = wc.heap[y]? := fun y o e hne => (q2.block y (Nat.lt_of_lt_of_le (lt_of_block e) b6.size) (hgt y o e hne)).trans (b6.block y (lt_of_block e))
  have hB7 := (k7 B _ hBB (fun c t fr e => by simp only [Obj.cells.injEq] at e; rw [← e.2.1]; decide)).trans hBB
  have k8 : ∀ (y : Nat) (o : Obj), wc.heap[y]? = some o → (∀ c t fr, o = Obj.cells c t fr → t ≠ 70 ∧ t ≠ 37) → (W7.setCell ⟨B, 17, none⟩ evv2).heap[y]? = wc.heap[y]? := fun y o e hne => by
    refine (set_other (fun q => ?_)).trans (k7 y o e (fun c t fr e => (hne c t fr e).1))
    rw [q, hBB] at e
    exact (hne _ _ _ (Option.some.inj e).symm).2 rfl
  have kt : ∀ (t0 : TypeId), t0 ≠ 70 → t0 ≠ 37 → ∀ (y : Nat) (c : Array Value) (fr : Nat × Nat), wc.heap[y]? = some (Obj.cells c t0 fr) → (W7.setCell ⟨B, 17, none⟩ evv2).heap[y]? = wc.heap[y]? := fun t0 h1 h2 y c fr e => k8 y _ e (fun c' t' fr' e' => by simp only [Obj.cells.injEq] at e'; rw [← e'.2.1]; exact ⟨h1, h2⟩)
  have hlen : L.length = hh.length := by rw [← l1, List.length_map]
  refine ⟨evv2, ?_, ?_, hrow.keep (kt 5 (by decide) (by decide)), hl2, ⟨r1, row_keep r2 (kt 33 (by decide) (by decide)), fun i rw hi => (r3 i rw hi).keep (kt 5 (by decide) (by decide))⟩, ⟨L ++ [((kd, k, dk), dv2)], by rw [List.map_append, l1]; rfl, ?_, ?_⟩, hb, ?_⟩
  · have := set_block hB7 17 evv2
    rw [bbx_set17 _ _ _ _ _ hl2] at this
    exact this
  · refine hst.keepB (((hst.bel.below b6).grownO q2 (fun g hg => ?_)).grown (grown_set1 W7 B 17 evv2) (fun q => by unfold F0 at q; omega)) (fun y o e hne => k8 y o e (fun c t fr he => ⟨(hne c t fr he).2.2.1, (hne c t fr he).1⟩))
    have := (hev.lt g hg).1
    intro q
    unfold F0 at q
    omega
  · rw [ebs_snoc, hlen]
    exact row_keep q1 (fun y c fr e => set_other (fun q => by rw [q, hB7] at e; simp at e))
  · intro x hx
    rcases List.mem_append.1 hx with hx | hx
    · exact (l3 x hx).keep (kt 5 (by decide) (by decide))
    · rw [List.mem_singleton.1 hx]; exact hby.keep (kt 5 (by decide) (by decide))
  · intro e he
    rcases List.mem_append.1 he with he | he
    · exact hok e he
    · rw [List.mem_singleton.1 he]; exact hok1
theorem row_one {w : World} {A : An} {cs : List Value} (h : Row15 w A cs) : ∀ u ∈ cs, u.oneCell' = true := fun u hu => by
  obtain ⟨j, hj, rfl⟩ := List.getElem_of_mem hu
  have hj15 : j < 15 := by have := h.1; omega
  obtain ⟨a, b, c, h1, h2, h3, h4⟩ := h.2 (j / 3) (by omega)
  obtain ⟨x, r, ad, n, cp, rfl, rfl, rfl⟩ := h4.form
  have hjj : j = j / 3 * 3 ∨ j = j / 3 * 3 + 1 ∨ j = j / 3 * 3 + 2 := by omega
  have hg : cs[j]? = some cs[j] := List.getElem?_eq_getElem hj
  rcases hjj with e | e | e
  · rw [← e, hg] at h1; rw [Option.some.inj h1]; rfl
  · rw [← e, hg] at h2; rw [Option.some.inj h2]; rfl
  · rw [← e, hg] at h3; rw [Option.some.inj h3]; rfl
theorem fin_mk {w0 wc W6 W7 : World} {S B : Nat} {first : Int} {hh : List He} {fl k : Nat} {kd : Int} {dk : ByteArray} {sv sv2 evv2 : Value} {row2 : List Value} {R : List (List Value)} {L : List (He × Value)}
    (hBB : wc.heap[B]? = some (.cells (bbx (first + (hh.length : Int) + 1) row2 sv evv2) 37)) (hst : StX w0 wc S first (hh ++ [(kd, k, dk)]) fl) (hrow : Row15 wc (runA A0 first (hh ++ [(kd, k, dk)])) row2) (hl2 : row2.length = 15)
    (r1 : R.length = hh.length + 1) (r2 : wc.ownsRow w0.heap.size 33 15 sv (hh.length + 1) R.flatten) (r3 : ∀ (i : Nat) (rw : List Value), R[i]? = some rw → Row15 wc (runA A0 first (hh.take i)) rw)
    (l1 : L.map Prod.fst = hh ++ [(kd, k, dk)]) (hev : wc.ownsRow w0.heap.size 70 4 evv2 (hh.length + 1) (ebs first L)) (l3 : ∀ x ∈ L, Byt wc x.2 x.1.2.2) (hb : w0.heap.size ≤ B) (hok : ∀ e ∈ hh ++ [(kd, k, dk)], Hok e)
    (b6 : Below wc.heap.size wc W6) (q1 : W7.ownsRow w0.heap.size 33 15 sv2 (hh.length + 1 + 1) (R.flatten ++ row2)) (q2 : W6.grownBy W7 sv.ownBlock) :
    StX w0 (W7.setCell ⟨B, 16, none⟩ sv2) S first (hh ++ [(kd, k, dk)]) fl ∧ Bok w0 (W7.setCell ⟨B, 16, none⟩ sv2) B (first + ((hh ++ [(kd, k, dk)]).length : Int)) first (hh ++ [(kd, k, dk)]) row2 sv2 evv2 := by
  have hgt : ∀ (y : Nat) (o : Obj), wc.heap[y]? = some o → (∀ c t fr, o = Obj.cells c t fr → t ≠ 33) → some y ≠ sv.ownBlock := fun y o e hne q => by
    rcases r2.2 with ⟨e2, _⟩ | ⟨g', cap, cur, e2, _, p2, _⟩
    · rw [e2] at q; simp [Value.ownBlock] at q
    · rw [e2] at q
      have : y = g' := by simpa [Value.ownBlock] using q
      rw [this, p2] at e
      exact hne _ _ _ (Option.some.inj e).symm rfl
  have k7 : ∀ (y : Nat) (o : Obj), wc.heap[y]? = some o → (∀ c t fr, o = Obj.cells c t fr → t ≠ 33) → W7.heap[y]? = wc.heap[y]? := fun y o e hne => (q2.block y (Nat.lt_of_lt_of_le (lt_of_block e) b6.size) (hgt y o e hne)).trans (b6.block y (lt_of_block e))
  have hB7 := (k7 B _ hBB (fun c t fr e => by simp only [Obj.cells.injEq] at e; rw [← e.2.1]; decide)).trans hBB
  have k8 : ∀ (y : Nat) (o : Obj), wc.heap[y]? = some o → (∀ c t fr, o = Obj.cells c t fr → t ≠ 33 ∧ t ≠ 37) → (W7.setCell ⟨B, 16, none⟩ sv2).heap[y]? = wc.heap[y]? := fun y o e hne => by
    refine (set_other (fun q => ?_)).trans (k7 y o e (fun c t fr e => (hne c t fr e).1))
    rw [q, hBB] at e
    exact (hne _ _ _ (Option.some.inj e).symm).2 rfl
  have kt : ∀ (t0 : TypeId), t0 ≠ 33 → t0 ≠ 37 → ∀ (y : Nat) (c : Array Value) (fr : Nat × Nat), wc.heap[y]? = some (Obj.cells c t0 fr) → (W7.setCell ⟨B, 16, none⟩ sv2).heap[y]? = wc.heap[y]? := fun t0 h1 h2 y c fr e => k8 y _ e (fun c' t' fr' e' => by simp only [Obj.cells.injEq] at e'; rw [← e'.2.1]; exact ⟨h1, h2⟩)
  have k5 := kt 5 (by decide) (by decide)
  have hlen : ((hh ++ [(kd, k, dk)]).length : Int) = (hh.length : Int) + 1 := by rw [List.length_append, List.length_singleton]; omega
  have hlen2 : (hh ++ [(kd, k, dk)]).length = hh.length + 1 := by rw [List.length_append, List.length_singleton]
  refine ⟨?_, ⟨?_, hrow.keep k5, ⟨R ++ [row2], by rw [List.length_append, r1, hlen2]; rfl, ?_, fun i rw hi => ?_⟩, ⟨L, l1, by rw [hlen2]; exact row_keep hev (kt 70 (by decide) (by decide)), fun x hx => (l3 x hx).keep k5⟩, hb, hok⟩⟩
  · refine hst.keepB (((hst.bel.below b6).grownO q2 (fun g hg => ?_)).grown (grown_set1 W7 B 16 sv2) (fun q => by unfold F0 at q; omega)) (fun y o e hne => k8 y o e (fun c t fr he => ⟨(hne c t fr he).2.1, (hne c t fr he).1⟩))
    have := (r2.lt g hg).1
    intro q
    unfold F0 at q
    omega
  · have := set_block hB7 16 sv2
    rw [bbx_set16 _ _ _ _ _ hl2] at this
    rw [hlen, ← Int.add_assoc]
    exact this
  · rw [hlen2, List.flatten_append]
    have := row_keep q1 (fun y c fr e => set_other (w := W7) (g := B) (o := 16) (u := sv2) (fun q => by rw [q, hB7] at e; simp at e))
    simpa using this
  · rcases Nat.lt_or_ge i R.length with h | h
    · rw [List.getElem?_append_left h] at hi
      rw [List.take_append_of_le_length (by omega)]
      exact (r3 i rw hi).keep k5
    · rw [List.getElem?_append_right h] at hi
      have h0 : i - R.length = 0 := by
        rcases Nat.eq_zero_or_pos (i - R.length) with h | h
        · exact h
        · rw [List.getElem?_eq_none (by simp; omega)] at hi; cases hi
      rw [h0] at hi
      obtain rfl : row2 = rw := by simpa using hi
      rw [List.take_of_length_le (by omega)]
      exact hrow.keep k5
theorem info33 : (Try.prog.info? 33).map (fun i => (i.zero, i.size, i.bytes)) = some (some (.agg #[.bool false, .int .i64 0, .slice none 0 0, .bool false, .int .i64 0, .slice none 0 0, .bool false, .int .i64 0, .slice none 0 0, .bool false, .int .i64 0, .slice none 0 0, .bool false, .int .i64 0, .slice none 0 0]), 15, 200) := by kernel_rfl
theorem crW_ne (s : Sn) (h : ¬ crW s = 0) : crW s = 191 := by unfold crW at *; split <;> simp_all
end Go.Proofs.Ytpbejbpimcidjaa
