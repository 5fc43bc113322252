/- the document's Good and Match; labels, tagged, members. -/
import Derived.Test.YtagjbphadakifaaDoorTrmU
import Derived.Test.YtagjbphadakifaaDoorTrmO
set_option linter.unusedSimpArgs false
set_option linter.unusedVariables false
namespace Go.Proofs.YtagjbphadakifaaDoor
open Go.RowKit Go.Lib
theorem rgood_any (l : List Trm) (R : Bool) (S : Nat → Prop) (al : Option Addr) (cl bl ol : Nat) (w : World)
    (hh : Headed al l.length cl bl ol) (hl : liesT R w S l bl ol) (hS : ∀ y, S y → y < w.heap.size) :
    Calls Tryd.prog 27 #[.slice al l.length cl] w (BPost (l.all goodB) w) :=
  rgood_of goodB l R S al cl bl ol w hh hl hS (fun W hW t a c b o ht h1 h2 => by
    obtain ⟨j, hj, rfl⟩ := List.mem_iff_getElem.1 ht
    obtain ⟨_, cs, _, t1⟩ := hl j hj
    obtain ⟨_, _, _, _, _, _, hks, _⟩ := t1
    exact rgoodt_any _ _ _ S a c b o W h1 h2 (fun y hy => Nat.lt_of_lt_of_le (hS y hy) hW.size) hks)
theorem rmatch_any (l : List Trm) (m : List Mem) (R R2 : Bool) (S S2 : Nat → Prop) (al : Option Addr) (cl bl ol : Nat) (am : Option Addr) (cm bm om : Nat) (w : World)
    (hh : Headed al l.length cl bl ol) (hl : liesT R w S l bl ol) (hS : ∀ y, S y → y < w.heap.size) (hh2 : Headed am m.length cm bm om) (hl2 : liesM R2 w S2 m bm om) (hS2 : ∀ y, S2 y → y < w.heap.size) :
    Calls Tryd.prog 11 #[.slice al l.length cl, .slice am m.length cm] w (BPost (matchB l m) w) :=
  rmatch_of l m R R2 S S2 al cl bl ol am cm bm om w (l.all goodB) hh hl hS hh2 hl2 hS2 (fun W hW => rgood_any l R S al cl bl ol W hh (hl.keep (fun h => h) (fun y hy => hW.block y (hS y hy)) (fun _ h => h)) (fun y hy => Nat.lt_of_lt_of_le (hS y hy) hW.size))
abbrev Lab := ByteArray × ByteArray × Int
def Lab.ok (x : Lab) : Prop := x.1.size ≤ 140737488355328 ∧ x.2.1.size ≤ 140737488355328 ∧ In64 x.2.2
def EB (x : Lab) (w : World) (S : Nat → Prop) (cs : List Value) : Prop := cs = [.string x.1, .string x.2.1, .int .i64 x.2.2] ∧ x.ok
theorem keepB9 : KeepE EB := fun x w w' S S' cs _ _ h => h
abbrev OwnB := OwnR EB 54 3
def liesB (w : World) (S : Nat → Prop) (l : List Lab) (b o : Nat) : Prop := ∀ j (h : j < l.length), S b ∧ rowAt w b (o + j * 3) [.string (l[j]).1, .string (l[j]).2.1, .int .i64 (l[j]).2.2] ∧ (l[j]).ok
theorem liesB.keep {w w' : World} {S S' : Nat → Prop} {l : List Lab} {b o : Nat} (h : liesB w S l b o) (hw : ∀ b, S b → w'.heap[b]? = w.heap[b]?) (hS : ∀ b, S b → S' b) : liesB w' S' l b o := fun j hj => by
  obtain ⟨h1, h2, h3⟩ := h j hj
  exact ⟨hS _ h1, h2.keep (hw _ h1), h3⟩
theorem info54 : (Tryd.prog.info? 54).map (fun i => (i.zero, i.size, i.bytes)) = some (some (.agg #[.string ⟨#[]⟩, .string ⟨#[]⟩, .int .i64 0]), 3, 40) := by kernel_rfl
theorem own_labs {w w' : World} {SM : Nat → Prop} {v : Value} {l : List Lab} (h : OwnB w' w.heap.size SM v l) : ∃ a c b o, v = .slice a l.length c ∧ Headed a l.length c b o ∧ liesB w' (New w w') l b o := by
  obtain ⟨a, c, rfl⟩ := own_slice h
  cases l with
  | nil =>
    have h' := h
    obtain ⟨⟨xs, h1, _⟩, _⟩ := h'
    rcases h1.2 with ⟨e, e2⟩ | ⟨g, cap, cur, e, _⟩
    · simp only [Value.slice.injEq] at e
      obtain ⟨rfl, _, rfl⟩ := e
      exact ⟨none, 0, 0, 0, rfl, head_nilS, fun j hj => by simp at hj⟩
    · simp only [Value.slice.injEq] at e
      obtain ⟨rfl, _, rfl⟩ := e
      have h2 := h.le
      exact ⟨_, _, g, 0, rfl, ⟨h2.1, h2.2, .inr rfl, fun h => by cases h⟩, fun j hj => by simp at hj⟩
  | cons x t =>
    obtain ⟨g, cap, hv, hc1, hc2, hg1, hg2⟩ := own_some h (by simp)
    simp only [Value.slice.injEq] at hv
    obtain ⟨rfl, _, rfl⟩ := hv
    refine ⟨_, _, g, 0, rfl, ⟨hc1, hc2, .inr rfl, fun h => by cases h⟩, fun j hj => ⟨⟨hg1, hg2⟩, ?_⟩⟩
    obtain ⟨cs, h1, h2⟩ := h.at rfl j hj
    obtain ⟨rfl, h3⟩ := h2
    exact ⟨h1, h3⟩
def tagT (x : Lab) : Lab := (fewV ((x.1.size % 4 : Nat) : Int), fewV (numS x.2.1), Int.tmod x.2.2 3)
def taggedV (l : List Lab) : List Lab := (l.take 8).map tagT
theorem tagT_ok {x : Lab} (h : x.ok) : (tagT x).ok := by
  refine ⟨Nat.le_trans (fewV_size _) (by decide), Nat.le_trans (fewV_size _) (by decide), ?_⟩
  have h3 := h.2.2
  show In64 (Int.tmod x.2.2 3)
  have h1 : Int.tmod x.2.2 3 < 3 := Int.tmod_lt_of_pos _ (by omega)
  have h2 : -3 < Int.tmod x.2.2 3 := by
    rcases Int.natAbs_eq x.2.2 with e | e
    · rw [e]
      have : 0 ≤ Int.tmod (x.2.2.natAbs : Int) 3 := Int.tmod_nonneg _ (by omega)
      omega
    · rw [e, Int.neg_tmod]
      have : Int.tmod (x.2.2.natAbs : Int) 3 < 3 := Int.tmod_lt_of_pos _ (by omega)
      omega
  unfold In64; omega
theorem one3b {s t : ByteArray} {i : Int} : ∀ u ∈ [Value.string s, .string t, .int .i64 i], u.oneCell' = true := fun u hu => by
  simp only [List.mem_cons, List.mem_nil_iff, or_false] at hu
  rcases hu with rfl | rfl | rfl <;> rfl
def TgPost (l : List Lab) (w : World) (e : Ending) (w' : World) : Prop := ∃ a c b o, e = .returned (.slice a (taggedV l).length c) ∧ Headed a (taggedV l).length c b o ∧ liesB w' (New w w') (taggedV l) b o ∧ Below w.heap.size w w'
set_option maxHeartbeats 8000000 in
set_option maxRecDepth 100000 in
theorem tagged_any (l : List Lab) (S : Nat → Prop) (a : Option Addr) (c b o : Nat) (w : World) (hh : Headed a l.length c b o) (hl : liesB w S l b o) (hS : ∀ y, S y → y < w.heap.size) :
    Calls Tryd.prog 8 #[.slice a l.length c] w (TgPost l w) := by
  have HH := hmk hh
  have HL := hmk hl
  have hm : l.length ≤ 9223372036854775807 := Nat.le_trans hh.le hh.max
  obtain ⟨i5, hi5, hz5⟩ := Option.map_eq_some_iff.1 info54
  simp only [Prod.mk.injEq] at hz5
  have hJ := hmk (And.intro hi5 hz5)
  clear hh hl hi5 hz5
  go_enter Tryd.func8, Tryd.ntmps8
  go_wp2_with fail
  go_loopw [3, 4] (fun e3 e4 wr => ∃ (j : Nat), j ≤ l.length ∧ j ≤ 8 ∧ e4 = .int .i64 (j : Int) ∧ Below w.heap.size w wr ∧ Hid (OwnB wr w.heap.size (fun _ => False) e3 ((l.take j).map tagT))) (fun e3 e4 _ => l.length - (RowKit.intOf e4).toNat)
  case atStart => exact ⟨0, by omega, by omega, rfl, Below.refl _ _, (by show OwnB _ _ _ _ _; simpa using OwnR.nil _ _)⟩
  case round =>
    obtain ⟨j, hj, hj8, rfl, Bj, HO⟩ := hrel
    have hzr := Bj.size
    by_cases hjl : j < l.length ∧ j < 8
    · obtain ⟨hjl, hjl8⟩ := hjl
      have y1 : (j : Int) < l.length := by omega
      have y8 : (j : Int) < 8 := by omega
      obtain ⟨hSb, hrow, hok⟩ := HL.out j hjl
      obtain rfl : a = some ⟨b, o, none⟩ := HH.out.at_.resolve_left (by omega)
      obtain ⟨q, q0, q1⟩ := row3 (hrow.keep (Bj.block _ (hS _ hSb)))
      have hbl := hS _ hSb
      have HT : Hid ((l.map tagT).take (j + 1) = (l.map tagT).take j ++ [tagT l[j]]) := by show _ = _; rw [List.take_succ_eq_append_getElem (by simpa using hjl), List.getElem_map]
      have hok2 := tagT_ok hok
      obtain ⟨⟨key, x, ot⟩, hx⟩ : ∃ x, l[j] = x := ⟨_, rfl⟩
      rw [hx] at q q0 q1 HT hok hok2
      simp only at q q0 q1
      have hks : key.size ≤ 140737488355328 := hok.1
      have hxs : x.size ≤ 140737488355328 := hok.2.1
      have HNM : Hid (In64 (numS x)) := numS_in hxs
      have HOK2 := hmk hok2
      clear hx hrow hok hok2
      go_upto_if 23 with fail
      go_cut [5] (fun e8 wx => e8 = .int .i64 (numS x) ∧ wx = wr)
      case first =>
        by_cases hx0 : 0 < x.size
        · have z4 : (0 : Int) < x.size := by omega
          have hb : (x[0]).toNat < 256 := UInt8.toNat_lt _
          have z5 : IntKind.i64.wrap ((x[0]).toNat : Int) = ((x[0]).toNat : Int) := by rw [IntKind.wrap_i64]; omega
          have z6 : IntKind.i64.wrap ((x.size : Int) + ((x[0]).toNat : Int)) = (x.size : Int) + ((x[0]).toNat : Int) := by rw [IntKind.wrap_i64]; omega
          have HV : Hid (numS x = (x.size : Int) + ((x[0]).toNat : Int)) := by show _ = _; unfold numS; rw [dif_pos hx0]
          go_wp2_with fail
          go_meet
          exact ⟨by rw [HV.out], rfl⟩
        · have z4 : ¬ (0 : Int) < x.size := by omega
          have HV : Hid (numS x = 0) := by show _ = _; unfold numS; rw [dif_neg hx0]
          have z5 : x.size = 0 := by omega
          go_wp2_with fail
          go_meet
          exact ⟨by first | (rw [HV.out]; done) | (rw [HV.out, z5]; done) | (rw [HV.out, z5]; rfl), rfl⟩
      case rest =>
        obtain ⟨rfl, rfl⟩ := hcut
        obtain ⟨kk, hkk⟩ : ∃ kk, key.size % 4 = kk := ⟨_, rfl⟩
        have FWK : Hid (∀ W : World, Calls Tryd.prog 22 #[.int .i64 (kk : Int)] W (FwPost (kk : Int) W)) := fun W => few_any _ (by unfold In64; omega) W
        have FWV : Hid (∀ W : World, Calls Tryd.prog 22 #[.int .i64 (numS x)] W (FwPost (numS x) W)) := fun W => few_any _ HNM.out W
        have yk : Int.tmod (key.size : Int) 4 = (kk : Int) := by rw [← hkk]; rfl
        have yk2 : (key.size : Int) % 4 = (kk : Int) := by omega
        have HTG : Hid (tagT (key, x, ot) = (fewV (kk : Int), fewV (numS x), Int.tmod ot 3)) := by show _ = _; unfold tagT; rw [hkk]
        rw [HTG.out] at HT HOK2
        clear hkk HNM
        go_wp2_with fail
        refine wp_region_held_drew (S := fun Y => Y.cell? ⟨b, o + j * 3, none⟩ = some (.string key) ∧ Y.cell? ⟨b, o + j * 3 + 2, none⟩ = some (.int .i64 ot)) (by kernel_rfl) ⟨q, q1⟩ (fun hHeld => ?_)
        (refine wpAnyH_take (i := 0) (v := ?_) rfl (by kernel_rfl) (by kernel_rfl) (by kernel_rfl) (fun _ _ _ h => h) (Or.inl ⟨by kernel_rfl, ?_⟩) (by assumption) ?_; rotate_left 1; (intro W0 hSw; (obtain ⟨hA, hB⟩ := hSw); go_simp; (try with_reducible rfl)); (try simp only [Act.put, List.setIfInBounds_toArray, List.set_cons_zero, List.set_cons_succ]))
        (refine wpAnyH_take (i := 1) (v := ?_) rfl (by kernel_rfl) (by kernel_rfl) (by kernel_rfl) (fun _ _ _ h => h) (Or.inl ⟨by kernel_rfl, ?_⟩) (by assumption) ?_; rotate_left 1; (intro W0 hSw; (obtain ⟨hA, hB⟩ := hSw); go_simp; (try with_reducible rfl)); (try simp only [Act.put, List.setIfInBounds_toArray, List.set_cons_zero, List.set_cons_succ]))
        (refine wpAnyH_take (i := 2) (v := ?_) rfl (by kernel_rfl) (by kernel_rfl) (by kernel_rfl) (fun _ _ _ h => h) (Or.inl ⟨by kernel_rfl, ?_⟩) (by assumption) ?_; rotate_left 1; (intro W0 hSw; (obtain ⟨hA, hB⟩ := hSw); go_simp; (try with_reducible rfl)); (try simp only [Act.put, List.setIfInBounds_toArray, List.set_cons_zero, List.set_cons_succ]))
        (refine wpAnyH_take (i := 3) (v := ?_) rfl (by kernel_rfl) (by kernel_rfl) (by kernel_rfl) (fun _ _ _ h => h) (Or.inl ⟨by kernel_rfl, ?_⟩) (by assumption) ?_; rotate_left 1; (intro W0 hSw; (obtain ⟨hA, hB⟩ := hSw); go_simp; (try with_reducible rfl)); (try simp only [Act.put, List.setIfInBounds_toArray, List.set_cons_zero, List.set_cons_succ]))
        (refine wpAnyH_take (i := 4) (v := ?_) rfl (by kernel_rfl) (by kernel_rfl) (by kernel_rfl) (fun _ _ _ h => h) (Or.inl ⟨by kernel_rfl, ?_⟩) (by assumption) ?_; rotate_left 1; (intro W0 hSw; (obtain ⟨hA, hB⟩ := hSw); go_simp; (try with_reducible rfl)); (try simp only [Act.put, List.setIfInBounds_toArray, List.set_cons_zero, List.set_cons_succ]))
        (refine wpAnyH_take (i := 5) (v := ?_) rfl (by kernel_rfl) (by kernel_rfl) (by kernel_rfl) (fun _ _ _ h => h) (Or.inl ⟨by kernel_rfl, ?_⟩) (by assumption) ?_; rotate_left 1; (intro W0 hSw; (obtain ⟨hA, hB⟩ := hSw); go_simp; (try with_reducible rfl)); (try simp only [Act.put, List.setIfInBounds_toArray, List.set_cons_zero, List.set_cons_succ]))
        (refine wpAnyH_take (i := 6) (v := ?_) rfl (by kernel_rfl) (by kernel_rfl) (by kernel_rfl) (fun _ _ _ h => h) (Or.inl ⟨by kernel_rfl, ?_⟩) (by assumption) ?_; rotate_left 1; (intro W0 hSw; (obtain ⟨hA, hB⟩ := hSw); go_simp; (try with_reducible rfl)); (try simp only [Act.put, List.setIfInBounds_toArray, List.set_cons_zero, List.set_cons_succ]))
        (refine wpAnyH_take (i := 7) (v := ?_) rfl (by kernel_rfl) (by kernel_rfl) (by kernel_rfl) (fun _ _ _ h => h) (Or.inl ⟨by kernel_rfl, ?_⟩) (by assumption) ?_; rotate_left 1; (intro W0 hSw; (obtain ⟨hA, hB⟩ := hSw); go_simp; (try with_reducible rfl)); (try simp only [Act.put, List.setIfInBounds_toArray, List.set_cons_zero, List.set_cons_succ]))
        (refine wpAnyH_take (i := 9) (v := ?_) rfl (by kernel_rfl) (by kernel_rfl) (by kernel_rfl) (fun _ _ _ h => h) (Or.inl ⟨by kernel_rfl, ?_⟩) (by assumption) ?_; rotate_left 1; (intro W0 hSw; (obtain ⟨hA, hB⟩ := hSw); go_simp; (try with_reducible rfl)); (try simp only [Act.put, List.setIfInBounds_toArray, List.set_cons_zero, List.set_cons_succ]))
        (refine wpAnyH_take (i := 11) (v := ?_) rfl (by kernel_rfl) (by kernel_rfl) (by kernel_rfl) (fun _ _ _ h => h) (Or.inl ⟨by kernel_rfl, ?_⟩) (by assumption) ?_; rotate_left 1; (intro W0 hSw; (obtain ⟨hA, hB⟩ := hSw); go_simp; (try with_reducible rfl)); (try simp only [Act.put, List.setIfInBounds_toArray, List.set_cons_zero, List.set_cons_succ]))
        (refine wpAnyH_take (i := 12) (v := ?_) rfl (by kernel_rfl) (by kernel_rfl) (by kernel_rfl) (fun _ _ _ h => h) (Or.inl ⟨by kernel_rfl, ?_⟩) (by assumption) ?_; rotate_left 1; (intro W0 hSw; (obtain ⟨hA, hB⟩ := hSw); go_simp; (try with_reducible rfl)); (try simp only [Act.put, List.setIfInBounds_toArray, List.set_cons_zero, List.set_cons_succ]))
        (refine wpAnyH_take (i := 13) (v := ?_) rfl (by kernel_rfl) (by kernel_rfl) (by kernel_rfl) (fun _ _ _ h => h) (Or.inl ⟨by kernel_rfl, ?_⟩) (by assumption) ?_; rotate_left 1; (intro W0 hSw; (obtain ⟨hA, hB⟩ := hSw); go_simp; (try with_reducible rfl)); (try simp only [Act.put, List.setIfInBounds_toArray, List.set_cons_zero, List.set_cons_succ]))
        (refine wpAnyH_take (i := 14) (v := ?_) rfl (by kernel_rfl) (by kernel_rfl) (by kernel_rfl) (fun _ _ _ h => h) (Or.inl ⟨by kernel_rfl, ?_⟩) (by assumption) ?_; rotate_left 1; (intro W0 hSw; (obtain ⟨hA, hB⟩ := hSw); go_simp; (try with_reducible rfl)); (try simp only [Act.put, List.setIfInBounds_toArray, List.set_cons_zero, List.set_cons_succ]))
        (refine wpAnyH_take (i := 15) (v := ?_) rfl (by kernel_rfl) (by kernel_rfl) (by kernel_rfl) (fun _ _ _ h => h) (Or.inl ⟨by kernel_rfl, ?_⟩) (by assumption) ?_; rotate_left 1; (intro W0 hSw; (obtain ⟨hA, hB⟩ := hSw); go_simp; (try with_reducible rfl)); (try simp only [Act.put, List.setIfInBounds_toArray, List.set_cons_zero, List.set_cons_succ]))
        (refine wpAnyH_take (i := 16) (v := ?_) rfl (by kernel_rfl) (by kernel_rfl) (by kernel_rfl) (fun _ _ _ h => h) (Or.inl ⟨by kernel_rfl, ?_⟩) (by assumption) ?_; rotate_left 1; (intro W0 hSw; (obtain ⟨hA, hB⟩ := hSw); go_simp; (try with_reducible rfl)); (try simp only [Act.put, List.setIfInBounds_toArray, List.set_cons_zero, List.set_cons_succ]))
        refine wpAnyH_ready (rs := [8]) (by kernel_rfl) (by simp) ?_
        refine AllReadyH.cons rfl (fun K hK => ?_) AllReadyH.nil
        go_simp
        refine (FWK.out _).mono ?_
        rintro e wz ⟨rfl, rfl⟩
        refine hK.out _ _ ⟨q, q1⟩ (fun _ => ?_)
        clear hK K
        (try simp only [Act.put, List.setIfInBounds_toArray, List.set_cons_zero, List.set_cons_succ])
        refine wpAnyH_ready (rs := [10]) (by kernel_rfl) (by simp) ?_
        refine AllReadyH.cons rfl (fun K hK => ?_) AllReadyH.nil
        go_simp
        refine (FWV.out _).mono ?_
        rintro e wz ⟨rfl, rfl⟩
        refine hK.out _ _ ⟨q, q1⟩ (fun _ => ?_)
        clear hK K
        (try simp only [Act.put, List.setIfInBounds_toArray, List.set_cons_zero, List.set_cons_succ])
        (refine wpAnyH_take (i := 17) (v := ?_) rfl (by kernel_rfl) (by kernel_rfl) (by kernel_rfl) (fun _ _ _ h => h) (Or.inl ⟨by kernel_rfl, ?_⟩) (by assumption) ?_; rotate_left 1; (intro W0 hSw; skip; go_simp; (try with_reducible rfl)); (try simp only [Act.put, List.setIfInBounds_toArray, List.set_cons_zero, List.set_cons_succ]))
        refine wpAnyH_ready (rs := [18]) (by kernel_rfl) (by simp) ?_
        refine AllReadyH.cons rfl (fun K hK => ?_) AllReadyH.nil
        go_simp
        have aA : Below wc.heap.size wc (wc.alloc (.cells #[.string (fewV (kk : Int)), .string (fewV (numS x)), .int .i64 (Int.tmod ot 3)] 54)).drew := ((Below.refl _ _).alloc (Nat.le_refl _) _).drew
        have hT : (wc.alloc (.cells #[.string (fewV (kk : Int)), .string (fewV (numS x)), .int .i64 (Int.tmod ot 3)] 54)).drew.heap[wc.heap.size]? = some (.cells #[.string (fewV (kk : Int)), .string (fewV (numS x)), .int .i64 (Int.tmod ot 3)] 54) := heap_alloc_new wc (.cells #[.string (fewV (kk : Int)), .string (fewV (numS x)), .int .i64 (Int.tmod ot 3)] 54)
        have hzA : (wc.alloc (.cells #[.string (fewV (kk : Int)), .string (fewV (numS x)), .int .i64 (Int.tmod ot 3)] 54)).drew.heap.size = wc.heap.size + 1 := alloc_size wc (.cells #[.string (fewV (kk : Int)), .string (fewV (numS x)), .int .i64 (Int.tmod ot 3)] 54)
        have HAL : Hid (OwnB (wc.alloc (.cells #[.string (fewV (kk : Int)), .string (fewV (numS x)), .int .i64 (Int.tmod ot 3)] 54)).drew w.heap.size (fun _ => False) u3 ((l.take j).map tagT)) := HO.out.below keepB9 aA
        have qa := (aA.cell (p := ⟨b, o + j * 3, none⟩) (by show b < _; omega)).trans q
        have qb := (aA.cell (p := ⟨b, o + j * 3 + 2, none⟩) (by show b < _; omega)).trans q1
        have hob : ∀ r, u3.ownBlock = some r → w.heap.size ≤ r := fun r hr => (HO.out.lt hr).1
        refine hK.out _ _ ⟨qa, qb⟩ (fun _ => ?_)
        clear hK K
        (try simp only [Act.put, List.setIfInBounds_toArray, List.set_cons_zero, List.set_cons_succ])
        refine wpAnyH_ready (rs := [19]) (by kernel_rfl) (by simp) ?_
        refine AllReadyH.cons rfl (fun K hK => ?_) AllReadyH.nil
        refine step_push keepB9 rfl (.tmp 33) (.tmp 51) 23 rfl w.heap.size i5 _ 40 Tryd.underlying23 hJ.out.1 hJ.out.2.1 hJ.out.2.2.1 hJ.out.2.2.2 rfl (by decide) (by decide) (Sx := fun _ => False) u3 (fewV (kk : Int), fewV (numS x), Int.tmod ot 3) rfl HAL.out wc.heap.size 1 (0, 0) rfl hT rfl one3b ⟨rfl, HOK2.out⟩ (fun b hb => hb.elim) (by simp; omega) (by omega) ?_
        intro g cap w5 o5 g5 e5
        have hne : ∀ r, u3.ownBlock = some r → b ≠ r := fun r hr => by have := hob r hr; omega
        have kb := g5.block b (by omega) (fun e => hne b e.symm rfl)
        have B5 : Below w.heap.size w w5 := (Bj.trans (aA.mono (by omega))).grown g5 (by omega) (fun r hr => hob r hr)
        refine hK.out _ _ ⟨(World.cell?_of_block (w := (wc.alloc (.cells #[.string (fewV (kk : Int)), .string (fewV (numS x)), .int .i64 (Int.tmod ot 3)] 54)).drew) (a := ⟨b, o + j * 3, none⟩) kb).trans qa, (World.cell?_of_block (w := (wc.alloc (.cells #[.string (fewV (kk : Int)), .string (fewV (numS x)), .int .i64 (Int.tmod ot 3)] 54)).drew) (a := ⟨b, o + j * 3 + 2, none⟩) kb).trans qb⟩ (fun _ => ?_)
        clear hK K
        (try simp only [Act.put, List.setIfInBounds_toArray, List.set_cons_zero, List.set_cons_succ])
        (refine wpAnyH_take (i := 20) (v := ?_) rfl (by kernel_rfl) (by kernel_rfl) (by kernel_rfl) (fun _ _ _ h => h) (Or.inl ⟨by kernel_rfl, ?_⟩) (by assumption) ?_; rotate_left 1; (intro W0 hSw; skip; go_simp; (try with_reducible rfl)); (try simp only [Act.put, List.setIfInBounds_toArray, List.set_cons_zero, List.set_cons_succ]))
        refine wpAnyH_done (by kernel_rfl) ?_ _
        (try dsimp only [Act.put, List.getElem_toArray, List.getElem_cons_succ, List.getElem_cons_zero, List.setIfInBounds_toArray, List.set_cons_zero, List.set_cons_succ])
        have HO5 : Hid (OwnB w5 w.heap.size (fun _ => False) (.slice (some ⟨g, 0, none⟩) (j + 1) cap) ((l.take (j + 1)).map tagT)) := by
          show OwnB _ _ _ _ _
          rw [List.map_take, HT.out, ← List.map_take]
          have hlj : ((l.take j).map tagT).length = j := by simp; omega
          have := o5
          rw [hlj] at this
          simpa using this
        clear hHeld aA hT HAL qa qb g5 o5 kb HO q q0 q1
        go_wp2_with fail
        go_roundw
        case rel => exact ⟨j + 1, by omega, by omega, by go_num, B5, HO5⟩
        case measure => simp [RowKit.intOf]; omega
    · have hT8 : l.take j = l.take 8 := by
        by_cases h8 : j = 8
        · rw [h8]
        · have : j = l.length := by omega
          rw [this, List.take_length, List.take_of_length_le (by omega)]
      rw [hT8] at HO
      obtain ⟨ra, rc, rb, ro, rfl, h1, h2⟩ := own_labs (l := taggedV l) HO.out
      have H1 := hmk h1
      have H2 := hmk h2
      clear HO h1 h2 hT8
      by_cases hj1 : j < l.length
      · have z1 : (j : Int) < l.length := by omega
        have z2 : ¬ (j : Int) < 8 := by omega
        clear hjl
        go_wp2_with fail
        (try simp only [Exit.inBlock, Exit.then])
        go_ret
        exact ⟨ra, rc, rb, ro, rfl, H1.out, H2.out, Bj⟩
      · have z1 : ¬ (j : Int) < l.length := by omega
        clear hjl
        go_wp2_with fail
        (try simp only [Exit.inBlock, Exit.then])
        go_ret
        exact ⟨ra, rc, rb, ro, rfl, H1.out, H2.out, Bj⟩
end Go.Proofs.YtagjbphadakifaaDoor
