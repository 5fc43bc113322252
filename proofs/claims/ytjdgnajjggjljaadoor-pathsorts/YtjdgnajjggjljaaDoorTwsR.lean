import Derived.Test.YtjdgnajjggjljaaDoorPlsR
import Derived.Test.YtjdgnajjggjljaaDoorTwpA
/- Paths, twins: lists of paths that are not beyond the bound, and their twins. -/
set_option linter.unusedSimpArgs false
set_option linter.unusedVariables false
namespace Go.Proofs.YtjdgnajjggjljaaDoor
open Go.RowKit Go.Lib
def CpPost (l : List (List El)) (w : World) (e : Ending) (w' : World) : Prop := ∃ r, e = .returned (.bool r) ∧ (r = false → l.length + wtQ l ≤ 2147483647) ∧ Below w.heap.size w w'
set_option maxHeartbeats 4000000 in
set_option maxRecDepth 100000 in
theorem bpathsQ_any (l : List (List El)) (S : Nat → Prop) (al : Option Addr) (cl bl ol : Nat) (w : World) (hal : Headed al l.length cl bl ol) (hl : liesQ w S l bl ol) (hS : ∀ b, S b → b < w.heap.size) :
    Calls Tryd.prog 13 #[.slice al l.length cl] w (CpPost l w) := by
  have ga : w.grownBy (w.alloc (.cells #[.int .i64 0] 52)) none := World.grownBy_alloc _ _ _
  have hn := heap_alloc_new w (.cells #[.int .i64 0] 52)
  have hC : Cnt w.heap.size 0 (w.alloc (.cells #[.int .i64 0] 52)) := ⟨by rw [cell_of_block hn]; rfl, frozen_of_block hn 0⟩
  have c := hmk (cpathsQ_any l w.heap.size 0 S al cl bl ol (w.alloc (.cells #[.int .i64 0] 52)) hal (liesQ_keep (fun x hx => ga.block x (hS x hx) (by simp)) (fun _ h => h) hl) (fun x hx => ⟨by have := hS x hx; omega, Nat.lt_of_lt_of_le (hS x hx) ga.size⟩) hC (by omega))
  have HG := hmk ga
  clear hl hn hC ga
  go_enter Tryd.func13, Tryd.ntmps13
  go_wp2_with fail
  refine c.out.mono ?_
  rintro e w1 ⟨r, rfl, g1, h1⟩
  go_wp2_with fail
  go_ret
  exact ⟨r, rfl, h1, (below_of_grown HG.out).grown g1 HG.out.size (fun q e => by cases e; omega)⟩
def EQ (p : List El) (w : World) (S : Nat → Prop) (cs : List Value) : Prop := ∃ v, cs = [v] ∧ Pl.lies w S p v
theorem keepQ : KeepE EQ := fun x w w' S S' cs hw hS h => by
  obtain ⟨v, e, h⟩ := h
  exact ⟨v, e, Pl.keep hw hS h⟩
abbrev OwnQ := OwnR EQ 23 1
theorem info33 : (Tryd.prog.info? 23).map (fun i => (i.zero, i.size, i.bytes)) = some (some (.slice none 0 0), 1, 24) := by kernel_rfl
theorem oneQ {p : Option Addr} {n c : Nat} : ∀ u ∈ [Value.slice p n c], u.oneCell' = true := by
  intro u hu
  simp at hu
  rw [hu]; rfl
def TrPost (l : List (List El)) (S : Nat → Prop) (w : World) (e : Ending) (w' : World) : Prop := ∃ a c b o, e = .returned (.slice a l.length c) ∧ Headed a l.length c b o ∧ liesQ w' (Tw S w w') l b o ∧ Below w.heap.size w w'
theorem own_listQ {w : World} {N : Nat} {S T : Nat → Prop} {v : Value} {l : List (List El)} (h : OwnQ w N S v l) (hT : ∀ b, S b → T b) (hv : ∀ g, v.ownBlock = some g → T g) : ∃ a c b o, v = .slice a l.length c ∧ Headed a l.length c b o ∧ liesQ w T l b o := by
  have h' := h
  obtain ⟨⟨xs, h1, h2⟩, h3⟩ := h'
  rcases h1.2 with ⟨rfl, e⟩ | ⟨g, cap, cur, rfl, _⟩
  · have : l = [] := List.length_eq_zero_iff.1 e
    subst this
    exact ⟨none, 0, 0, 0, rfl, ⟨Nat.le_refl _, by simp [maxLen], .inl rfl, fun _ => rfl⟩, fun j hj => by simp at hj⟩
  · have hle := h.le
    refine ⟨_, cap, g, 0, rfl, ⟨hle.1, hle.2, .inr rfl, fun h => by cases h⟩, fun j hj => ⟨hv g rfl, ?_⟩⟩
    obtain ⟨cs, k1, u, rfl, k2⟩ := h.at rfl j hj
    refine ⟨u, ?_, Pl.keep (fun _ _ => rfl) hT k2⟩
    have := k1 0 _ rfl
    simpa using this
set_option maxHeartbeats 4000000 in
set_option maxRecDepth 100000 in
theorem twins_any (l : List (List El)) (S : Nat → Prop) (al : Option Addr) (cl bl ol : Nat) (w : World) (hal : Headed al l.length cl bl ol) (hl : liesQ w S l bl ol) (hS : ∀ b, S b → b < w.heap.size) (hwt : l.length + wtQ l ≤ 2147483647) :
    Calls Tryd.prog 14 #[.slice al l.length cl] w (TrPost l S w) := by
  have HL := hmk hl
  have HS : Hid (∀ b, S b → b < w.heap.size) := hS
  clear hl
  obtain ⟨i0, hi0, hz0, hz1, hz2⟩ := info_parts info33
  have hI : Hid (Tryd.prog.info? 23 = some i0 ∧ i0.zero = some (.slice none 0 0) ∧ i0.size = 1 ∧ i0.bytes = 24) := ⟨hi0, hz0, hz1, hz2⟩
  clear hi0 hz0 hz1 hz2
  go_enter Tryd.func14, Tryd.ntmps14
  go_wp2_with fail
  go_loopw [3, 4] (fun e3 e wr => ∃ (j : Nat) (pv : Value) (SP : Nat → Prop), j ≤ l.length ∧ e = .int .i64 (j : Int) ∧ e3 = pv ∧ Below w.heap.size w wr ∧ OwnQ wr 0 SP pv (l.take j) ∧ Hid (∀ r, pv.ownBlock = some r → w.heap.size ≤ r) ∧ Hid (∀ b, SP b → S b ∨ w.heap.size ≤ b)) (fun _ e _ => l.length - (RowKit.intOf e).toNat)
  case atStart => exact ⟨0, _, _, by omega, rfl, rfl, Below.refl _ _, by simpa using OwnR.nil _ _, fun r h => by simp [Value.ownBlock] at h, fun b (h : False) => h.elim⟩
  case round =>
    obtain ⟨j, pv, SP, hj, rfl, rfl, bO, oO, HO, HSP⟩ := hrel
    have hzO := bO.size
    by_cases hjl : j < l.length
    · have y3 : (j : Int) < l.length := by omega
      obtain ⟨hSb, v, hv, ap, cp, bp, op, rfl, hap, hlp⟩ := HL.out j hjl
      obtain rfl : al = some ⟨bl, ol, none⟩ := hal.at_.resolve_left (by omega)
      have hkw : ∀ b, S b → wr.heap[b]? = w.heap[b]? := fun b hb => bO.block b (hS b hb)
      have r0 : wr.cell? ⟨bl, ol + j, none⟩ = some (.slice ap (l[j]).length cp) := (World.cell?_of_block (w := w) (a := ⟨bl, ol + j, none⟩) (hkw _ hSb)).trans hv
      have hwj : wtP l[j] ≤ 2147483647 := by have := wtQ_mem (List.getElem_mem hjl); omega
      have HTP : Hid (l.take (j + 1) = l.take j ++ [l[j]]) := by show _ = _; rw [List.take_succ_eq_append_getElem hjl]
      have c := hmk (twp_any l[j] S ap cp bp op wr hap (liesP_keep hkw (fun _ h => h) hlp) (fun b hb => Nat.lt_of_lt_of_le (hS b hb) hzO) hwj)
      have hll : (l.take j).length = j := by simp; omega
      clear hv hlp hkw hwj hap
      generalize l[j] = p at *
      go_wp2_with fail
      refine c.out.mono ?_
      rintro e w2 ⟨qa, qc, qb, qo, rfl, hhq, hlq, b2⟩
      have hz2 := b2.size
      have o2 := oO.below keepQ b2
      have hown : ∀ r, u3.ownBlock = some r → w.heap.size ≤ r ∧ r < wr.heap.size := fun r hr => ⟨HO.out r hr, (oO.lt hr).2⟩
      have HX : Hid (EQ p w2 (Tw S wr w2) [.slice qa p.length qc]) := ⟨_, rfl, qa, qc, qb, qo, rfl, hhq, hlq⟩
      have HKk : Hid (∀ b, Tw S wr w2 b → 0 ≤ b ∧ b < w2.heap.size ∧ some b ≠ u3.ownBlock) := fun b hb => by
        rcases hb with hb | hb
        · have := HS.out b hb
          exact ⟨Nat.zero_le _, by omega, fun e => by have := (hown b e.symm).1; omega⟩
        · exact ⟨Nat.zero_le _, hb.2, fun e => by have := (hown b e.symm).2; omega⟩
      have HO2 := hmk o2
      have B2 := hmk (bO.trans (b2.mono hzO))
      clear hlq o2 b2 c r0
      go_wp2_with (at_builtin; go_loud (refine wpl_push keepQ _ rfl (.tmp 17) (.tmp 19) 28 rfl 0 i0 _ 24 Tryd.underlying28 hI.out.1 hI.out.2.1 hI.out.2.2.1 hI.out.2.2.2 rfl (by decide) (by decide) u3 p rfl (HO2.out.alloc keepQ _) w2.heap.size 1 (0, 0) rfl (heap_alloc_new w2 _) rfl oneQ (keepQ _ _ _ _ _ _ (fun b hb => Below.heap_alloc w2 _ b (HKk.out b hb).2.1) (fun _ h => h) HX.out) (fun b hb => ⟨(HKk.out b hb).1, by rw [alloc_size]; have := (HKk.out b hb).2.1; omega, (HKk.out b hb).2.2⟩) (by rw [hll]; omega) (Nat.zero_le _) ?_))
      intro g cap w5 o5 g5 e5
      have hg : w.heap.size ≤ g := by
        rcases e5 with e | e
        · exact (hown g e).1
        · (try rw [alloc_size] at e); omega
      have b5 : Below w.heap.size w w5 := (B2.out.alloc (by omega) _).grown g5 (by rw [alloc_size]; omega) (fun r e => (hown r e).1)
      go_wp2_with fail
      go_roundw
      case rel => exact ⟨j + 1, _, _, by omega, by go_num, rfl, b5, by rw [HTP.out]; simpa [hll] using o5, fun r e => by (simp [Value.ownBlock] at e; omega), fun b hb => by
        rcases hb with hb | hb | hb
        · exact HSP.out b hb
        · exact .inl hb
        · exact .inr (by have := hb.1; omega)⟩
      case measure => simp [RowKit.intOf]; omega
    · obtain rfl : j = l.length := by omega
      have y3 : ¬ (l.length : Int) < l.length := by omega
      rw [List.take_length] at oO
      obtain ⟨sa, sc, sb, so, rfl, hdl, hLs⟩ := own_listQ (T := Tw S w wr) oO (fun b hb => (HSP.out b hb).imp id (fun h => ⟨h, (oO.off b hb).2.1⟩)) (fun g hg => .inr ⟨HO.out g hg, (oO.lt hg).2⟩)
      have HB := hmk bO
      have HLs := hmk hLs
      clear oO hLs bO
      go_wp2_with fail
      go_ret
      exact ⟨sa, sc, sb, so, rfl, hdl, HLs.out, HB.out⟩
end Go.Proofs.YtjdgnajjggjljaaDoor
