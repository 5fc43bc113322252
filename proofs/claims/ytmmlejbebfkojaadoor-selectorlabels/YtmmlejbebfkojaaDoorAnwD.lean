import Derived.Test.YtmmlejbebfkojaaDoorAnwC
/- value.anew: the same value in memory of its own. -/
set_option linter.unusedSimpArgs false
set_option linter.unusedVariables false
namespace Go.Proofs.YtmmlejbebfkojaaDoor
open Go.RowKit Go.Lib
theorem liesL_setA {w : World} {B M : Nat} {l : List V} {b o : Nat} (h : liesL false w (From B w) l b o) (hM : M < B) (i : Nat) (u : Value) : liesL false (w.setCell ⟨M, i, none⟩ u) (From B (w.setCell ⟨M, i, none⟩ u)) l b o :=
  liesL_keep (fun h => h) (fun x hx => set_other (by have := hx.1; omega)) (fun x hx => ⟨hx.1, by rw [size_set1]; exact hx.2⟩) l h
theorem liesL_set6A {w : World} {B M : Nat} {l : List V} {b o : Nat} (h : liesL false w (From B w) l b o) (hM : M < B) (i1 i2 i3 i4 i5 i6 : Nat) (u1 u2 u3 u4 u5 u6 : Value) :
    liesL false ((((((w.setCell ⟨M, i1, none⟩ u1).setCell ⟨M, i2, none⟩ u2).setCell ⟨M, i3, none⟩ u3).setCell ⟨M, i4, none⟩ u4).setCell ⟨M, i5, none⟩ u5).setCell ⟨M, i6, none⟩ u6) (From B ((((((w.setCell ⟨M, i1, none⟩ u1).setCell ⟨M, i2, none⟩ u2).setCell ⟨M, i3, none⟩ u3).setCell ⟨M, i4, none⟩ u4).setCell ⟨M, i5, none⟩ u5).setCell ⟨M, i6, none⟩ u6)) l b o :=
  liesL_setA (liesL_setA (liesL_setA (liesL_setA (liesL_setA (liesL_setA h hM i1 u1) hM i2 u2) hM i3 u3) hM i4 u4) hM i5 u5) hM i6 u6
theorem liesL_below {w w' : World} {B : Nat} {l : List V} {b o : Nat} (h : liesL false w (From B w) l b o) (hb : Below w.heap.size w w') : liesL false w' (From B w') l b o :=
  liesL_keep (fun h => h) (fun x hx => hb.block x hx.2) (fun x hx => ⟨hx.1, Nat.lt_of_lt_of_le hx.2 hb.size⟩) l h
theorem an_fin {w W : World} {B : Nat} {k i : Int} {b : Bool} {s : ByteArray} {l : List V} {m : List Mem} {al am : Option Addr} {nl nm cl bl ol cm bm om : Nat} (hk : In64 k) (hi : In64 i) (hs : s.size ≤ maxLen) (hal : Headed al nl cl bl ol) (ham : Headed am nm cm bm om) (hb : w.heap.size ≤ B) (hl : liesL false W (From B W) l bl ol) (hm : liesM false W (From B W) m bm om) (hB : Below w.heap.size w W) (e1 : nl = l.length := by rfl) (e2 : nm = m.length := by rfl) :
    AnPost (V.mk k b i s l m) w (.returned (.agg #[.int .i64 k, .bool b, .int .i64 i, .string s, .slice al nl cl, .slice am nm cm])) W :=
  ⟨[.int .i64 k, .bool b, .int .i64 i, .string s, .slice al nl cl, .slice am nm cm], rfl, lies_S hk hi hs hal ham (liesL_keep (fun h => h) (fun _ _ => rfl) (fun x hx => ⟨Nat.le_trans hb hx.1, hx.2⟩) _ hl) (liesM_keep (fun h => h) (fun _ _ => rfl) (fun x hx => ⟨Nat.le_trans hb hx.1, hx.2⟩) _ hm) e1 e2, hB⟩
theorem headed_new (g n : Nat) (h : n ≤ maxLen) : Headed (some ⟨g, 0, none⟩) n n g 0 := ⟨Nat.le_refl _, h, .inr rfl, fun h => by cases h⟩
set_option maxHeartbeats 1000000 in
set_option maxRecDepth 100000 in
theorem anew_any (v : V) : ∀ (R : Bool) (S : Nat → Prop) (cs : List Value) (w : World), v.lies R w S cs → (∀ b, S b → b < w.heap.size) → v.wt ≤ 1099511627776 → Calls Tryd.prog 19 #[.agg cs.toArray] w (AnPost v w) := by
  induction v using V.ind_v with
  | h k b i s l m ihl ihm =>
  intro R S cs w hv hS hwt
  rw [V.lies] at hv
  obtain ⟨al, cl, bl, ol, am, cm, bm, om, rfl, hk, hi, hs, hal, ham, hl1, hm1, _⟩ := hv
  rw [V.wt] at hwt
  have hz2 : ((w.alloc (.cells #[.int .i64 k, .bool b, .int .i64 i, .string s, .slice al l.length cl, .slice am m.length cm] 25)).alloc (.cells #[.int .i64 0, .bool false, .int .i64 0, .string ⟨#[]⟩, .slice none 0 0, .slice none 0 0] 25)).heap.size = w.heap.size + 2 := by rw [alloc_size, alloc_size]
  have B0 : Below w.heap.size w ((w.alloc (.cells #[.int .i64 k, .bool b, .int .i64 i, .string s, .slice al l.length cl, .slice am m.length cm] 25)).alloc (.cells #[.int .i64 0, .bool false, .int .i64 0, .string ⟨#[]⟩, .slice none 0 0, .slice none 0 0] 25)) := two_below w _ _
  have h0 := alloc2_keep1 w (.cells #[.int .i64 k, .bool b, .int .i64 i, .string s, .slice al l.length cl, .slice am m.length cm] 25) (.cells #[.int .i64 0, .bool false, .int .i64 0, .string ⟨#[]⟩, .slice none 0 0, .slice none 0 0] 25)
  have h1 := alloc2_new w (.cells #[.int .i64 k, .bool b, .int .i64 i, .string s, .slice al l.length cl, .slice am m.length cm] 25) (.cells #[.int .i64 0, .bool false, .int .i64 0, .string ⟨#[]⟩, .slice none 0 0, .slice none 0 0] 25)
  have hlm : l.length ≤ maxLen := Nat.le_trans hal.le hal.max
  have hmm : m.length ≤ maxLen := Nat.le_trans ham.le ham.max
  have CL : Hid (∀ W, Below w.heap.size w W → Calls Tryd.prog 27 #[.slice al l.length cl] W (AnLPost l W)) := fun W hb =>
    anewL_any l R S al cl bl ol W hal (liesL_keep (fun h => h) (fun x hx => hb.block x (hS x hx)) (fun _ h => h) _ hl1) (fun x hx => Nat.lt_of_lt_of_le (hS x hx) hb.size) (by omega) (fun j h cs W2 h1 h2 => ihl l[j] (List.getElem_mem h) R S cs W2 h1 h2 (by have := wtL_mem (List.getElem_mem h); omega))
  have CM : Hid (∀ W, Below w.heap.size w W → Calls Tryd.prog 28 #[.slice am m.length cm] W (AnMPost m W)) := fun W hb =>
    anewM_any m R S am cm bm om W ham (liesM_keep (fun h => h) (fun x hx => hb.block x (hS x hx)) (fun _ h => h) _ hm1) (fun x hx => Nat.lt_of_lt_of_le (hS x hx) hb.size) (by omega) (fun j h cs W2 h1 h2 => ihm m[j] (List.getElem_mem h) R S cs W2 h1 h2 (by have := wtM_mem (List.getElem_mem h); omega))
  clear hl1 hm1 ihl ihm hal ham
  clear h0 h1
  by_cases e1 : l.length = 0
  · obtain rfl : l = [] := List.length_eq_zero_iff.1 e1
    by_cases e2 : m.length = 0
    · obtain rfl : m = [] := List.length_eq_zero_iff.1 e2
      go_enter Tryd.func19, Tryd.ntmps19
      go_wp2_with fail
      (try simp only [Exit.inBlock, Exit.then])
      refine bodyPost_ret (v := .agg #[.int .i64 k, .bool b, .int .i64 i, .string s, .slice none 0 0, .slice none 0 0]) (by rw [results_cell1 rfl]; go_simp) rfl ?_
      exact an_fin (B := w.heap.size) hk hi hs headed_nil headed_nil (Nat.le_refl _) (by rw [liesL]; trivial) (by rw [liesM]; trivial) (two_below w _ _)
    · have y2 : ¬ (m.length : Int) = 0 := by omega
      go_enter Tryd.func19, Tryd.ntmps19
      go_wp2_with fail
      refine (CM.out _ (two_below w _ _)).mono ?_
      rintro e w3 ⟨gM, rfl, hl3, b3⟩
      have hz3 := b3.size
      have t0 := (b3.block w.heap.size (by rw [alloc_size, alloc_size]; omega)).trans (alloc2_keep1 w _ _)
      have t1 := (b3.block (w.heap.size + 1) (by rw [alloc_size, alloc_size]; omega)).trans (alloc2_new w _ _)
      have HM : Hid (liesM false w3 (From (w.heap.size + 2) w3) m gM 0) := liesM_keep (fun h => h) (fun _ _ => rfl) (fun x hx => ⟨by have := hx.1; rw [alloc_size, alloc_size] at this; exact this, hx.2⟩) _ hl3
      have HB : Hid (Below w.heap.size w w3) := (two_below w _ _).trans (b3.mono (by rw [alloc_size, alloc_size]; omega))
      rw [alloc_size, alloc_size] at hz3
      clear hl3 b3
      have u0 : (w3.setCell ⟨w.heap.size, 5, none⟩ (.slice (some ⟨gM, 0, none⟩) m.length m.length)).heap[w.heap.size]? = some (.cells #[.int .i64 k, .bool b, .int .i64 i, .string s, .slice none 0 0, .slice (some ⟨gM, 0, none⟩) m.length m.length] 25 (0, 0)) := by rw [set_block t0]; rfl
      have u1 := (set_other (w := w3) (g := w.heap.size) (o := 5) (u := .slice (some ⟨gM, 0, none⟩) m.length m.length) (x := w.heap.size + 1) (by omega)).trans t1
      have ad0 : w3.cell? ⟨w.heap.size, 0, none⟩ = some (.int .i64 k) := by rw [cell_of_block t0]; rfl
      have ad1 : w3.cell? ⟨w.heap.size, 1, none⟩ = some (.bool b) := by rw [cell_of_block t0]; rfl
      have ad2 : w3.cell? ⟨w.heap.size, 2, none⟩ = some (.int .i64 i) := by rw [cell_of_block t0]; rfl
      have ad3 : w3.cell? ⟨w.heap.size, 3, none⟩ = some (.string s) := by rw [cell_of_block t0]; rfl
      have ad4 : w3.cell? ⟨w.heap.size, 4, none⟩ = some (.slice none 0 0) := by rw [cell_of_block t0]; rfl
      have ad5 : w3.cell? ⟨w.heap.size, 5, none⟩ = some (.slice am m.length cm) := by rw [cell_of_block t0]; rfl
      have ar0 : w3.cell? ⟨w.heap.size + 1, 0, none⟩ = some (.int .i64 0) := by rw [cell_of_block t1]; rfl
      have ar1 : w3.cell? ⟨w.heap.size + 1, 1, none⟩ = some (.bool false) := by rw [cell_of_block t1]; rfl
      have ar2 : w3.cell? ⟨w.heap.size + 1, 2, none⟩ = some (.int .i64 0) := by rw [cell_of_block t1]; rfl
      have ar3 : w3.cell? ⟨w.heap.size + 1, 3, none⟩ = some (.string ⟨#[]⟩) := by rw [cell_of_block t1]; rfl
      have ar4 : w3.cell? ⟨w.heap.size + 1, 4, none⟩ = some (.slice none 0 0) := by rw [cell_of_block t1]; rfl
      have ar5 : w3.cell? ⟨w.heap.size + 1, 5, none⟩ = some (.slice none 0 0) := by rw [cell_of_block t1]; rfl
      have af0 : ∀ i, w3.frozen? ⟨w.heap.size, i, none⟩ = false := frozen_of_block t0
      have af1 : ∀ i, w3.frozen? ⟨w.heap.size + 1, i, none⟩ = false := frozen_of_block t1
      have bd0 : (w3.setCell ⟨w.heap.size, 5, none⟩ (.slice (some ⟨gM, 0, none⟩) m.length m.length)).cell? ⟨w.heap.size, 0, none⟩ = some (.int .i64 k) := by rw [cell_of_block u0]; rfl
      have bd1 : (w3.setCell ⟨w.heap.size, 5, none⟩ (.slice (some ⟨gM, 0, none⟩) m.length m.length)).cell? ⟨w.heap.size, 1, none⟩ = some (.bool b) := by rw [cell_of_block u0]; rfl
      have bd2 : (w3.setCell ⟨w.heap.size, 5, none⟩ (.slice (some ⟨gM, 0, none⟩) m.length m.length)).cell? ⟨w.heap.size, 2, none⟩ = some (.int .i64 i) := by rw [cell_of_block u0]; rfl
      have bd3 : (w3.setCell ⟨w.heap.size, 5, none⟩ (.slice (some ⟨gM, 0, none⟩) m.length m.length)).cell? ⟨w.heap.size, 3, none⟩ = some (.string s) := by rw [cell_of_block u0]; rfl
      have bd4 : (w3.setCell ⟨w.heap.size, 5, none⟩ (.slice (some ⟨gM, 0, none⟩) m.length m.length)).cell? ⟨w.heap.size, 4, none⟩ = some (.slice none 0 0) := by rw [cell_of_block u0]; rfl
      have bd5 : (w3.setCell ⟨w.heap.size, 5, none⟩ (.slice (some ⟨gM, 0, none⟩) m.length m.length)).cell? ⟨w.heap.size, 5, none⟩ = some (.slice (some ⟨gM, 0, none⟩) m.length m.length) := by rw [cell_of_block u0]; rfl
      have br0 : (w3.setCell ⟨w.heap.size, 5, none⟩ (.slice (some ⟨gM, 0, none⟩) m.length m.length)).cell? ⟨w.heap.size + 1, 0, none⟩ = some (.int .i64 0) := by rw [cell_of_block u1]; rfl
      have br1 : (w3.setCell ⟨w.heap.size, 5, none⟩ (.slice (some ⟨gM, 0, none⟩) m.length m.length)).cell? ⟨w.heap.size + 1, 1, none⟩ = some (.bool false) := by rw [cell_of_block u1]; rfl
      have br2 : (w3.setCell ⟨w.heap.size, 5, none⟩ (.slice (some ⟨gM, 0, none⟩) m.length m.length)).cell? ⟨w.heap.size + 1, 2, none⟩ = some (.int .i64 0) := by rw [cell_of_block u1]; rfl
      have br3 : (w3.setCell ⟨w.heap.size, 5, none⟩ (.slice (some ⟨gM, 0, none⟩) m.length m.length)).cell? ⟨w.heap.size + 1, 3, none⟩ = some (.string ⟨#[]⟩) := by rw [cell_of_block u1]; rfl
      have br4 : (w3.setCell ⟨w.heap.size, 5, none⟩ (.slice (some ⟨gM, 0, none⟩) m.length m.length)).cell? ⟨w.heap.size + 1, 4, none⟩ = some (.slice none 0 0) := by rw [cell_of_block u1]; rfl
      have br5 : (w3.setCell ⟨w.heap.size, 5, none⟩ (.slice (some ⟨gM, 0, none⟩) m.length m.length)).cell? ⟨w.heap.size + 1, 5, none⟩ = some (.slice none 0 0) := by rw [cell_of_block u1]; rfl
      have bf0 : ∀ i, (w3.setCell ⟨w.heap.size, 5, none⟩ (.slice (some ⟨gM, 0, none⟩) m.length m.length)).frozen? ⟨w.heap.size, i, none⟩ = false := frozen_of_block u0
      have bf1 : ∀ i, (w3.setCell ⟨w.heap.size, 5, none⟩ (.slice (some ⟨gM, 0, none⟩) m.length m.length)).frozen? ⟨w.heap.size + 1, i, none⟩ = false := frozen_of_block u1
      have HMx : Hid (liesM false (w3.setCell ⟨w.heap.size, 5, none⟩ (.slice (some ⟨gM, 0, none⟩) m.length m.length)) (From (w.heap.size + 2) (w3.setCell ⟨w.heap.size, 5, none⟩ (.slice (some ⟨gM, 0, none⟩) m.length m.length))) m gM 0) := liesM_set HM.out (by omega) _ _
      have HBx : Hid (Below w.heap.size w (w3.setCell ⟨w.heap.size, 5, none⟩ (.slice (some ⟨gM, 0, none⟩) m.length m.length))) := HB.out.setCell (p := ⟨w.heap.size, 5, none⟩) (Nat.le_refl _) _
      clear HB HM
      have HB := HBx
      clear t0 t1 u0 u1
      go_wp2_with fail
      (try simp only [Exit.inBlock, Exit.then])
      refine bodyPost_ret (v := .agg #[.int .i64 k, .bool b, .int .i64 i, .string s, .slice none 0 0, .slice (some ⟨gM, 0, none⟩) m.length m.length]) (by rw [results_cell1 rfl]; go_simp) rfl ?_
      exact an_fin (B := w.heap.size + 2) hk hi hs headed_nil (headed_new gM _ hmm) (by omega) (by rw [liesL]; trivial) (liesM_set6 HMx.out (by omega) _ _ _ _ _ _ _ _ _ _ _ _) (Below.set6 HB.out (by omega) _ _ _ _ _ _ _ _ _ _ _ _)
  · have y1 : ¬ (l.length : Int) = 0 := by omega
    go_enter Tryd.func19, Tryd.ntmps19
    go_wp2_with fail
    refine (CL.out _ (two_below w _ _)).mono ?_
    rintro e w3 ⟨gL, rfl, hl3, b3⟩
    have hz3 := b3.size
    have t0 := (b3.block w.heap.size (by rw [alloc_size, alloc_size]; omega)).trans (alloc2_keep1 w _ _)
    have t1 := (b3.block (w.heap.size + 1) (by rw [alloc_size, alloc_size]; omega)).trans (alloc2_new w _ _)
    have HL3 : liesL false w3 (From (w.heap.size + 2) w3) l gL 0 := liesL_keep (fun h => h) (fun _ _ => rfl) (fun x hx => ⟨by have := hx.1; rw [alloc_size, alloc_size] at this; exact this, hx.2⟩) _ hl3
    have B3 : Below w.heap.size w w3 := (two_below w _ _).trans (b3.mono (by rw [alloc_size, alloc_size]; omega))
    rw [alloc_size, alloc_size] at hz3
    clear hl3 b3
    have u0 : (w3.setCell ⟨w.heap.size, 4, none⟩ (.slice (some ⟨gL, 0, none⟩) l.length l.length)).heap[w.heap.size]? = some (.cells #[.int .i64 k, .bool b, .int .i64 i, .string s, .slice (some ⟨gL, 0, none⟩) l.length l.length, .slice am m.length cm] 25 (0, 0)) := by rw [set_block t0]; rfl
    have u1 := (set_other (w := w3) (g := w.heap.size) (o := 4) (u := .slice (some ⟨gL, 0, none⟩) l.length l.length) (x := w.heap.size + 1) (by omega)).trans t1
    have HL4 : Hid (liesL false (w3.setCell ⟨w.heap.size, 4, none⟩ (.slice (some ⟨gL, 0, none⟩) l.length l.length)) (From (w.heap.size + 2) (w3.setCell ⟨w.heap.size, 4, none⟩ (.slice (some ⟨gL, 0, none⟩) l.length l.length))) l gL 0) := liesL_setA HL3 (by omega) _ _
    have HB : Hid (Below w.heap.size w (w3.setCell ⟨w.heap.size, 4, none⟩ (.slice (some ⟨gL, 0, none⟩) l.length l.length))) := B3.setCell (p := ⟨w.heap.size, 4, none⟩) (Nat.le_refl _) _
    have hz4 : w.heap.size + 2 ≤ (w3.setCell ⟨w.heap.size, 4, none⟩ (.slice (some ⟨gL, 0, none⟩) l.length l.length)).heap.size := by rw [size_set1]; exact hz3
    have ad0 : w3.cell? ⟨w.heap.size, 0, none⟩ = some (.int .i64 k) := by rw [cell_of_block t0]; rfl
    have ad1 : w3.cell? ⟨w.heap.size, 1, none⟩ = some (.bool b) := by rw [cell_of_block t0]; rfl
    have ad2 : w3.cell? ⟨w.heap.size, 2, none⟩ = some (.int .i64 i) := by rw [cell_of_block t0]; rfl
    have ad3 : w3.cell? ⟨w.heap.size, 3, none⟩ = some (.string s) := by rw [cell_of_block t0]; rfl
    have ad4 : w3.cell? ⟨w.heap.size, 4, none⟩ = some (.slice al l.length cl) := by rw [cell_of_block t0]; rfl
    have ad5 : w3.cell? ⟨w.heap.size, 5, none⟩ = some (.slice am m.length cm) := by rw [cell_of_block t0]; rfl
    have ar0 : w3.cell? ⟨w.heap.size + 1, 0, none⟩ = some (.int .i64 0) := by rw [cell_of_block t1]; rfl
    have ar1 : w3.cell? ⟨w.heap.size + 1, 1, none⟩ = some (.bool false) := by rw [cell_of_block t1]; rfl
    have ar2 : w3.cell? ⟨w.heap.size + 1, 2, none⟩ = some (.int .i64 0) := by rw [cell_of_block t1]; rfl
    have ar3 : w3.cell? ⟨w.heap.size + 1, 3, none⟩ = some (.string ⟨#[]⟩) := by rw [cell_of_block t1]; rfl
    have ar4 : w3.cell? ⟨w.heap.size + 1, 4, none⟩ = some (.slice none 0 0) := by rw [cell_of_block t1]; rfl
    have ar5 : w3.cell? ⟨w.heap.size + 1, 5, none⟩ = some (.slice none 0 0) := by rw [cell_of_block t1]; rfl
    have af0 : ∀ i, w3.frozen? ⟨w.heap.size, i, none⟩ = false := frozen_of_block t0
    have af1 : ∀ i, w3.frozen? ⟨w.heap.size + 1, i, none⟩ = false := frozen_of_block t1
    have bd0 : (w3.setCell ⟨w.heap.size, 4, none⟩ (.slice (some ⟨gL, 0, none⟩) l.length l.length)).cell? ⟨w.heap.size, 0, none⟩ = some (.int .i64 k) := by rw [cell_of_block u0]; rfl
    have bd1 : (w3.setCell ⟨w.heap.size, 4, none⟩ (.slice (some ⟨gL, 0, none⟩) l.length l.length)).cell? ⟨w.heap.size, 1, none⟩ = some (.bool b) := by rw [cell_of_block u0]; rfl
    have bd2 : (w3.setCell ⟨w.heap.size, 4, none⟩ (.slice (some ⟨gL, 0, none⟩) l.length l.length)).cell? ⟨w.heap.size, 2, none⟩ = some (.int .i64 i) := by rw [cell_of_block u0]; rfl
    have bd3 : (w3.setCell ⟨w.heap.size, 4, none⟩ (.slice (some ⟨gL, 0, none⟩) l.length l.length)).cell? ⟨w.heap.size, 3, none⟩ = some (.string s) := by rw [cell_of_block u0]; rfl
    have bd4 : (w3.setCell ⟨w.heap.size, 4, none⟩ (.slice (some ⟨gL, 0, none⟩) l.length l.length)).cell? ⟨w.heap.size, 4, none⟩ = some (.slice (some ⟨gL, 0, none⟩) l.length l.length) := by rw [cell_of_block u0]; rfl
    have bd5 : (w3.setCell ⟨w.heap.size, 4, none⟩ (.slice (some ⟨gL, 0, none⟩) l.length l.length)).cell? ⟨w.heap.size, 5, none⟩ = some (.slice am m.length cm) := by rw [cell_of_block u0]; rfl
    have br0 : (w3.setCell ⟨w.heap.size, 4, none⟩ (.slice (some ⟨gL, 0, none⟩) l.length l.length)).cell? ⟨w.heap.size + 1, 0, none⟩ = some (.int .i64 0) := by rw [cell_of_block u1]; rfl
    have br1 : (w3.setCell ⟨w.heap.size, 4, none⟩ (.slice (some ⟨gL, 0, none⟩) l.length l.length)).cell? ⟨w.heap.size + 1, 1, none⟩ = some (.bool false) := by rw [cell_of_block u1]; rfl
    have br2 : (w3.setCell ⟨w.heap.size, 4, none⟩ (.slice (some ⟨gL, 0, none⟩) l.length l.length)).cell? ⟨w.heap.size + 1, 2, none⟩ = some (.int .i64 0) := by rw [cell_of_block u1]; rfl
    have br3 : (w3.setCell ⟨w.heap.size, 4, none⟩ (.slice (some ⟨gL, 0, none⟩) l.length l.length)).cell? ⟨w.heap.size + 1, 3, none⟩ = some (.string ⟨#[]⟩) := by rw [cell_of_block u1]; rfl
    have br4 : (w3.setCell ⟨w.heap.size, 4, none⟩ (.slice (some ⟨gL, 0, none⟩) l.length l.length)).cell? ⟨w.heap.size + 1, 4, none⟩ = some (.slice none 0 0) := by rw [cell_of_block u1]; rfl
    have br5 : (w3.setCell ⟨w.heap.size, 4, none⟩ (.slice (some ⟨gL, 0, none⟩) l.length l.length)).cell? ⟨w.heap.size + 1, 5, none⟩ = some (.slice none 0 0) := by rw [cell_of_block u1]; rfl
    have bf0 : ∀ i, (w3.setCell ⟨w.heap.size, 4, none⟩ (.slice (some ⟨gL, 0, none⟩) l.length l.length)).frozen? ⟨w.heap.size, i, none⟩ = false := frozen_of_block u0
    have bf1 : ∀ i, (w3.setCell ⟨w.heap.size, 4, none⟩ (.slice (some ⟨gL, 0, none⟩) l.length l.length)).frozen? ⟨w.heap.size + 1, i, none⟩ = false := frozen_of_block u1
    by_cases e2 : m.length = 0
    · obtain rfl : m = [] := List.length_eq_zero_iff.1 e2
      have x0 : ((w3.setCell ⟨w.heap.size, 4, none⟩ (.slice (some ⟨gL, 0, none⟩) l.length l.length)).setCell ⟨w.heap.size, 5, none⟩ (.slice none 0 0)).heap[w.heap.size]? = some (.cells #[.int .i64 k, .bool b, .int .i64 i, .string s, .slice (some ⟨gL, 0, none⟩) l.length l.length, .slice none 0 0] 25 (0, 0)) := by rw [set_block u0]; rfl
      have x1 := (set_other (w := w3.setCell ⟨w.heap.size, 4, none⟩ (.slice (some ⟨gL, 0, none⟩) l.length l.length)) (g := w.heap.size) (o := 5) (u := .slice none 0 0) (x := w.heap.size + 1) (by omega)).trans u1
      have cd0 : ((w3.setCell ⟨w.heap.size, 4, none⟩ (.slice (some ⟨gL, 0, none⟩) l.length l.length)).setCell ⟨w.heap.size, 5, none⟩ (.slice none 0 0)).cell? ⟨w.heap.size, 0, none⟩ = some (.int .i64 k) := by rw [cell_of_block x0]; rfl
      have cd1 : ((w3.setCell ⟨w.heap.size, 4, none⟩ (.slice (some ⟨gL, 0, none⟩) l.length l.length)).setCell ⟨w.heap.size, 5, none⟩ (.slice none 0 0)).cell? ⟨w.heap.size, 1, none⟩ = some (.bool b) := by rw [cell_of_block x0]; rfl
      have cd2 : ((w3.setCell ⟨w.heap.size, 4, none⟩ (.slice (some ⟨gL, 0, none⟩) l.length l.length)).setCell ⟨w.heap.size, 5, none⟩ (.slice none 0 0)).cell? ⟨w.heap.size, 2, none⟩ = some (.int .i64 i) := by rw [cell_of_block x0]; rfl
      have cd3 : ((w3.setCell ⟨w.heap.size, 4, none⟩ (.slice (some ⟨gL, 0, none⟩) l.length l.length)).setCell ⟨w.heap.size, 5, none⟩ (.slice none 0 0)).cell? ⟨w.heap.size, 3, none⟩ = some (.string s) := by rw [cell_of_block x0]; rfl
      have cd4 : ((w3.setCell ⟨w.heap.size, 4, none⟩ (.slice (some ⟨gL, 0, none⟩) l.length l.length)).setCell ⟨w.heap.size, 5, none⟩ (.slice none 0 0)).cell? ⟨w.heap.size, 4, none⟩ = some (.slice (some ⟨gL, 0, none⟩) l.length l.length) := by rw [cell_of_block x0]; rfl
      have cd5 : ((w3.setCell ⟨w.heap.size, 4, none⟩ (.slice (some ⟨gL, 0, none⟩) l.length l.length)).setCell ⟨w.heap.size, 5, none⟩ (.slice none 0 0)).cell? ⟨w.heap.size, 5, none⟩ = some (.slice none 0 0) := by rw [cell_of_block x0]; rfl
      have cr0 : ((w3.setCell ⟨w.heap.size, 4, none⟩ (.slice (some ⟨gL, 0, none⟩) l.length l.length)).setCell ⟨w.heap.size, 5, none⟩ (.slice none 0 0)).cell? ⟨w.heap.size + 1, 0, none⟩ = some (.int .i64 0) := by rw [cell_of_block x1]; rfl
      have cr1 : ((w3.setCell ⟨w.heap.size, 4, none⟩ (.slice (some ⟨gL, 0, none⟩) l.length l.length)).setCell ⟨w.heap.size, 5, none⟩ (.slice none 0 0)).cell? ⟨w.heap.size + 1, 1, none⟩ = some (.bool false) := by rw [cell_of_block x1]; rfl
      have cr2 : ((w3.setCell ⟨w.heap.size, 4, none⟩ (.slice (some ⟨gL, 0, none⟩) l.length l.length)).setCell ⟨w.heap.size, 5, none⟩ (.slice none 0 0)).cell? ⟨w.heap.size + 1, 2, none⟩ = some (.int .i64 0) := by rw [cell_of_block x1]; rfl
      have cr3 : ((w3.setCell ⟨w.heap.size, 4, none⟩ (.slice (some ⟨gL, 0, none⟩) l.length l.length)).setCell ⟨w.heap.size, 5, none⟩ (.slice none 0 0)).cell? ⟨w.heap.size + 1, 3, none⟩ = some (.string ⟨#[]⟩) := by rw [cell_of_block x1]; rfl
      have cr4 : ((w3.setCell ⟨w.heap.size, 4, none⟩ (.slice (some ⟨gL, 0, none⟩) l.length l.length)).setCell ⟨w.heap.size, 5, none⟩ (.slice none 0 0)).cell? ⟨w.heap.size + 1, 4, none⟩ = some (.slice none 0 0) := by rw [cell_of_block x1]; rfl
      have cr5 : ((w3.setCell ⟨w.heap.size, 4, none⟩ (.slice (some ⟨gL, 0, none⟩) l.length l.length)).setCell ⟨w.heap.size, 5, none⟩ (.slice none 0 0)).cell? ⟨w.heap.size + 1, 5, none⟩ = some (.slice none 0 0) := by rw [cell_of_block x1]; rfl
      have cf0 : ∀ i, ((w3.setCell ⟨w.heap.size, 4, none⟩ (.slice (some ⟨gL, 0, none⟩) l.length l.length)).setCell ⟨w.heap.size, 5, none⟩ (.slice none 0 0)).frozen? ⟨w.heap.size, i, none⟩ = false := frozen_of_block x0
      have cf1 : ∀ i, ((w3.setCell ⟨w.heap.size, 4, none⟩ (.slice (some ⟨gL, 0, none⟩) l.length l.length)).setCell ⟨w.heap.size, 5, none⟩ (.slice none 0 0)).frozen? ⟨w.heap.size + 1, i, none⟩ = false := frozen_of_block x1
      have HLx : Hid (liesL false ((w3.setCell ⟨w.heap.size, 4, none⟩ (.slice (some ⟨gL, 0, none⟩) l.length l.length)).setCell ⟨w.heap.size, 5, none⟩ (.slice none 0 0)) (From (w.heap.size + 2) ((w3.setCell ⟨w.heap.size, 4, none⟩ (.slice (some ⟨gL, 0, none⟩) l.length l.length)).setCell ⟨w.heap.size, 5, none⟩ (.slice none 0 0))) l gL 0) := liesL_setA HL4.out (by omega) _ _
      have HBx : Hid (Below w.heap.size w ((w3.setCell ⟨w.heap.size, 4, none⟩ (.slice (some ⟨gL, 0, none⟩) l.length l.length)).setCell ⟨w.heap.size, 5, none⟩ (.slice none 0 0))) := HB.out.setCell (p := ⟨w.heap.size, 5, none⟩) (Nat.le_refl _) _
      clear HB HL4
      have HB := HBx
      clear t0 t1 u0 u1 x0 x1
      go_wp2_with fail
      (try simp only [Exit.inBlock, Exit.then])
      refine bodyPost_ret (v := .agg #[.int .i64 k, .bool b, .int .i64 i, .string s, .slice (some ⟨gL, 0, none⟩) l.length l.length, .slice none 0 0]) (by rw [results_cell1 rfl]; go_simp) rfl ?_
      exact an_fin (B := w.heap.size + 2) hk hi hs (headed_new gL _ hlm) headed_nil (by omega) (liesL_set6A HLx.out (by omega) _ _ _ _ _ _ _ _ _ _ _ _) (by rw [liesM]; trivial) (Below.set6 HB.out (by omega) _ _ _ _ _ _ _ _ _ _ _ _)
    · have y2 : ¬ (m.length : Int) = 0 := by omega
      clear t0 t1
      go_wp2_with fail
      generalize (w3.setCell ⟨w.heap.size, 4, none⟩ (.slice (some ⟨gL, 0, none⟩) l.length l.length)) = w4 at *
      refine (CM.out w4 HB.out).mono ?_
      rintro e w5 ⟨gM, rfl, hl5, b5⟩
      have hz5 := b5.size
      have t0 := (b5.block w.heap.size (by omega)).trans u0
      have t1 := (b5.block (w.heap.size + 1) (by omega)).trans u1
      have HM : Hid (liesM false w5 (From (w.heap.size + 2) w5) m gM 0) := liesM_keep (fun h => h) (fun _ _ => rfl) (fun x hx => ⟨by have := hx.1; omega, hx.2⟩) _ hl5
      have HL5 : Hid (liesL false w5 (From (w.heap.size + 2) w5) l gL 0) := liesL_below HL4.out b5
      have HB5 : Hid (Below w.heap.size w w5) := HB.out.trans (b5.mono (by omega))
      clear HB HL4
      have HB := HB5
      have u0' : (w5.setCell ⟨w.heap.size, 5, none⟩ (.slice (some ⟨gM, 0, none⟩) m.length m.length)).heap[w.heap.size]? = some (.cells #[.int .i64 k, .bool b, .int .i64 i, .string s, .slice (some ⟨gL, 0, none⟩) l.length l.length, .slice (some ⟨gM, 0, none⟩) m.length m.length] 25 (0, 0)) := by rw [set_block t0]; rfl
      have u1' := (set_other (w := w5) (g := w.heap.size) (o := 5) (u := .slice (some ⟨gM, 0, none⟩) m.length m.length) (x := w.heap.size + 1) (by omega)).trans t1
      clear ad0 ar0 ad1 ar1 ad2 ar2 ad3 ar3 ad4 ar4 ad5 ar5 af0 af1
      clear bd0 br0 bd1 br1 bd2 br2 bd3 br3 bd4 br4 bd5 br5 bf0 bf1
      have ad0 : w5.cell? ⟨w.heap.size, 0, none⟩ = some (.int .i64 k) := by rw [cell_of_block t0]; rfl
      have ad1 : w5.cell? ⟨w.heap.size, 1, none⟩ = some (.bool b) := by rw [cell_of_block t0]; rfl
      have ad2 : w5.cell? ⟨w.heap.size, 2, none⟩ = some (.int .i64 i) := by rw [cell_of_block t0]; rfl
      have ad3 : w5.cell? ⟨w.heap.size, 3, none⟩ = some (.string s) := by rw [cell_of_block t0]; rfl
      have ad4 : w5.cell? ⟨w.heap.size, 4, none⟩ = some (.slice (some ⟨gL, 0, none⟩) l.length l.length) := by rw [cell_of_block t0]; rfl
      have ad5 : w5.cell? ⟨w.heap.size, 5, none⟩ = some (.slice am m.length cm) := by rw [cell_of_block t0]; rfl
      have ar0 : w5.cell? ⟨w.heap.size + 1, 0, none⟩ = some (.int .i64 0) := by rw [cell_of_block t1]; rfl
      have ar1 : w5.cell? ⟨w.heap.size + 1, 1, none⟩ = some (.bool false) := by rw [cell_of_block t1]; rfl
      have ar2 : w5.cell? ⟨w.heap.size + 1, 2, none⟩ = some (.int .i64 0) := by rw [cell_of_block t1]; rfl
      have ar3 : w5.cell? ⟨w.heap.size + 1, 3, none⟩ = some (.string ⟨#[]⟩) := by rw [cell_of_block t1]; rfl
      have ar4 : w5.cell? ⟨w.heap.size + 1, 4, none⟩ = some (.slice none 0 0) := by rw [cell_of_block t1]; rfl
      have ar5 : w5.cell? ⟨w.heap.size + 1, 5, none⟩ = some (.slice none 0 0) := by rw [cell_of_block t1]; rfl
      have af0 : ∀ i, w5.frozen? ⟨w.heap.size, i, none⟩ = false := frozen_of_block t0
      have af1 : ∀ i, w5.frozen? ⟨w.heap.size + 1, i, none⟩ = false := frozen_of_block t1
      have bd0 : (w5.setCell ⟨w.heap.size, 5, none⟩ (.slice (some ⟨gM, 0, none⟩) m.length m.length)).cell? ⟨w.heap.size, 0, none⟩ = some (.int .i64 k) := by rw [cell_of_block u0']; rfl
      have bd1 : (w5.setCell ⟨w.heap.size, 5, none⟩ (.slice (some ⟨gM, 0, none⟩) m.length m.length)).cell? ⟨w.heap.size, 1, none⟩ = some (.bool b) := by rw [cell_of_block u0']; rfl
      have bd2 : (w5.setCell ⟨w.heap.size, 5, none⟩ (.slice (some ⟨gM, 0, none⟩) m.length m.length)).cell? ⟨w.heap.size, 2, none⟩ = some (.int .i64 i) := by rw [cell_of_block u0']; rfl
      have bd3 : (w5.setCell ⟨w.heap.size, 5, none⟩ (.slice (some ⟨gM, 0, none⟩) m.length m.length)).cell? ⟨w.heap.size, 3, none⟩ = some (.string s) := by rw [cell_of_block u0']; rfl
      have bd4 : (w5.setCell ⟨w.heap.size, 5, none⟩ (.slice (some ⟨gM, 0, none⟩) m.length m.length)).cell? ⟨w.heap.size, 4, none⟩ = some (.slice (some ⟨gL, 0, none⟩) l.length l.length) := by rw [cell_of_block u0']; rfl
      have bd5 : (w5.setCell ⟨w.heap.size, 5, none⟩ (.slice (some ⟨gM, 0, none⟩) m.length m.length)).cell? ⟨w.heap.size, 5, none⟩ = some (.slice (some ⟨gM, 0, none⟩) m.length m.length) := by rw [cell_of_block u0']; rfl
      have br0 : (w5.setCell ⟨w.heap.size, 5, none⟩ (.slice (some ⟨gM, 0, none⟩) m.length m.length)).cell? ⟨w.heap.size + 1, 0, none⟩ = some (.int .i64 0) := by rw [cell_of_block u1']; rfl
      have br1 : (w5.setCell ⟨w.heap.size, 5, none⟩ (.slice (some ⟨gM, 0, none⟩) m.length m.length)).cell? ⟨w.heap.size + 1, 1, none⟩ = some (.bool false) := by rw [cell_of_block u1']; rfl
      have br2 : (w5.setCell ⟨w.heap.size, 5, none⟩ (.slice (some ⟨gM, 0, none⟩) m.length m.length)).cell? ⟨w.heap.size + 1, 2, none⟩ = some (.int .i64 0) := by rw [cell_of_block u1']; rfl
      have br3 : (w5.setCell ⟨w.heap.size, 5, none⟩ (.slice (some ⟨gM, 0, none⟩) m.length m.length)).cell? ⟨w.heap.size + 1, 3, none⟩ = some (.string ⟨#[]⟩) := by rw [cell_of_block u1']; rfl
      have br4 : (w5.setCell ⟨w.heap.size, 5, none⟩ (.slice (some ⟨gM, 0, none⟩) m.length m.length)).cell? ⟨w.heap.size + 1, 4, none⟩ = some (.slice none 0 0) := by rw [cell_of_block u1']; rfl
      have br5 : (w5.setCell ⟨w.heap.size, 5, none⟩ (.slice (some ⟨gM, 0, none⟩) m.length m.length)).cell? ⟨w.heap.size + 1, 5, none⟩ = some (.slice none 0 0) := by rw [cell_of_block u1']; rfl
      have bf0 : ∀ i, (w5.setCell ⟨w.heap.size, 5, none⟩ (.slice (some ⟨gM, 0, none⟩) m.length m.length)).frozen? ⟨w.heap.size, i, none⟩ = false := frozen_of_block u0'
      have bf1 : ∀ i, (w5.setCell ⟨w.heap.size, 5, none⟩ (.slice (some ⟨gM, 0, none⟩) m.length m.length)).frozen? ⟨w.heap.size + 1, i, none⟩ = false := frozen_of_block u1'
      have HMx : Hid (liesM false (w5.setCell ⟨w.heap.size, 5, none⟩ (.slice (some ⟨gM, 0, none⟩) m.length m.length)) (From (w.heap.size + 2) (w5.setCell ⟨w.heap.size, 5, none⟩ (.slice (some ⟨gM, 0, none⟩) m.length m.length))) m gM 0) := liesM_set HM.out (by omega) _ _
      have HLx : Hid (liesL false (w5.setCell ⟨w.heap.size, 5, none⟩ (.slice (some ⟨gM, 0, none⟩) m.length m.length)) (From (w.heap.size + 2) (w5.setCell ⟨w.heap.size, 5, none⟩ (.slice (some ⟨gM, 0, none⟩) m.length m.length))) l gL 0) := liesL_setA HL5.out (by omega) _ _
      have HBx : Hid (Below w.heap.size w (w5.setCell ⟨w.heap.size, 5, none⟩ (.slice (some ⟨gM, 0, none⟩) m.length m.length))) := HB.out.setCell (p := ⟨w.heap.size, 5, none⟩) (Nat.le_refl _) _
      clear HB HB5 HM HL5
      have HB := HBx
      clear t0 t1 u0 u1 u0' u1' hl5 b5
      go_wp2_with fail
      (try simp only [Exit.inBlock, Exit.then])
      refine bodyPost_ret (v := .agg #[.int .i64 k, .bool b, .int .i64 i, .string s, .slice (some ⟨gL, 0, none⟩) l.length l.length, .slice (some ⟨gM, 0, none⟩) m.length m.length]) (by rw [results_cell1 rfl]; go_simp) rfl ?_
      exact an_fin (B := w.heap.size + 2) hk hi hs (headed_new gL _ hlm) (headed_new gM _ hmm) (by omega) (liesL_set6A HLx.out (by omega) _ _ _ _ _ _ _ _ _ _ _ _) (liesM_set6 HMx.out (by omega) _ _ _ _ _ _ _ _ _ _ _ _) (Below.set6 HB.out (by omega) _ _ _ _ _ _ _ _ _ _ _ _)
end Go.Proofs.YtmmlejbebfkojaaDoor
