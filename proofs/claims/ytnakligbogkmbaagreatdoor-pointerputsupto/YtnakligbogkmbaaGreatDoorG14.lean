/- joined: AnwD ClnA MpfA -/
import Derived.Test.YtnakligbogkmbaaGreatDoorAnwC
set_option linter.unusedSimpArgs false
set_option linter.unusedVariables false
namespace Go.Proofs.YtnakligbogkmbaaGreatDoor
open Go.RowKit Go.Lib
theorem liesL_setA {w : World} {B M : Nat} {l : List V} {b o : Nat} (h : liesL false w (From B w) l b o) (hM : M < B) (i : Nat) (u : Value) : liesL false (w.setCell ⟨M, i, none⟩ u) (From B (w.setCell ⟨M, i, none⟩ u)) l b o :=
 lLk (fun h => h) (fun x hx => sOt (by have := hx.1; omega)) (fun x hx => ⟨hx.1, by rw [sz1]; exact hx.2⟩) l h
theorem liesL_set6A {w : World} {B M : Nat} {l : List V} {b o : Nat} (h : liesL false w (From B w) l b o) (hM : M < B) (i1 i2 i3 i4 i5 i6 : Nat) (u1 u2 u3 u4 u5 u6 : Value) :
 liesL false ((((((w.setCell ⟨M, i1, none⟩ u1).setCell ⟨M, i2, none⟩ u2).setCell ⟨M, i3, none⟩ u3).setCell ⟨M, i4, none⟩ u4).setCell ⟨M, i5, none⟩ u5).setCell ⟨M, i6, none⟩ u6) (From B ((((((w.setCell ⟨M, i1, none⟩ u1).setCell ⟨M, i2, none⟩ u2).setCell ⟨M, i3, none⟩ u3).setCell ⟨M, i4, none⟩ u4).setCell ⟨M, i5, none⟩ u5).setCell ⟨M, i6, none⟩ u6)) l b o :=
 liesL_setA (liesL_setA (liesL_setA (liesL_setA (liesL_setA (liesL_setA h hM i1 u1) hM i2 u2) hM i3 u3) hM i4 u4) hM i5 u5) hM i6 u6
theorem liesL_below {w w' : World} {B : Nat} {l : List V} {b o : Nat} (h : liesL false w (From B w) l b o) (hb : Below w.heap.size w w') : liesL false w' (From B w') l b o :=
 lLk (fun h => h) (fun x hx => hb.block x hx.2) (fun x hx => ⟨hx.1, Nat.lt_of_lt_of_le hx.2 hb.size⟩) l h
theorem an_fin {w W : World} {B : Nat} {k i : Int} {b : Bool} {s : ByteArray} {l : List V} {m : List Mem} {al am : Option Addr} {nl nm cl bl ol cm bm om : Nat} (hk : In64 k) (hi : In64 i) (hs : s.size ≤ maxLen) (hal : Headed al nl cl bl ol) (ham : Headed am nm cm bm om) (hb : w.heap.size ≤ B) (hl : liesL false W (From B W) l bl ol) (hm : liesM false W (From B W) m bm om) (hB : Below w.heap.size w W) (e1 : nl = l.length := by rfl) (e2 : nm = m.length := by rfl) :
 AnPost (V.mk k b i s l m) w (.returned (.agg #[.int .i64 k, .bool b, .int .i64 i, .string s, .slice al nl cl, .slice am nm cm])) W :=
 ⟨[.int .i64 k, .bool b, .int .i64 i, .string s, .slice al nl cl, .slice am nm cm], rfl, lies_S hk hi hs hal ham (lLk (fun h => h) (fun _ _ => rfl) (fun x hx => ⟨Nat.le_trans hb hx.1, hx.2⟩) _ hl) (lMk (fun h => h) (fun _ _ => rfl) (fun x hx => ⟨Nat.le_trans hb hx.1, hx.2⟩) _ hm) e1 e2, hB⟩
theorem headed_new (g n : Nat) (h : n ≤ maxLen) : Headed (some ⟨g, 0, none⟩) n n g 0 := ⟨Nat.le_refl _, h, .inr rfl, fun h => by cases h⟩
set_option maxHeartbeats 8000000 in
set_option maxRecDepth 100000 in
theorem anew_any (v : V) : ∀ (R : Bool) (S : Nat → Prop) (cs : List Value) (w : World), v.lies R w S cs → (∀ b, S b → b < w.heap.size) → v.wt ≤ 1099511627776 → Calls Tryz.prog 40 #[.agg cs.toArray] w (AnPost v w) := by
 induction v using V.ind_v with
 | h k b i s l m ihl ihm =>
 intro R S cs w hv hS hwt
 rw [V.lies] at hv
 obtain ⟨al, cl, bl, ol, am, cm, bm, om, rfl, hk, hi, hs, hal, ham, hl1, hm1, _⟩ := hv
 rw [V.wt] at hwt
 have hz2 : ((w.alloc (oV k b i s al l.length cl am m.length cm)).alloc oN).heap.size = w.heap.size + 2 := by rw [aSz, aSz]
 have hz2 := hz2; dsimp only [oV, oN] at hz2
 have B0 : Below w.heap.size w ((w.alloc (oV k b i s al l.length cl am m.length cm)).alloc oN) := tBw w _ _
 have h0 := a2k w (oV k b i s al l.length cl am m.length cm) oN
 have h1 := a2n w (oV k b i s al l.length cl am m.length cm) oN
 have hlm : l.length ≤ maxLen := Nat.le_trans hal.le hal.max
 have hmm : m.length ≤ maxLen := Nat.le_trans ham.le ham.max
 have CL : Hid (∀ W, Below w.heap.size w W → Calls Tryz.prog 61 #[.slice al l.length cl] W (AnLPost l W)) := fun W hb =>
  anewL_any l R S al cl bl ol W hal (lLk (fun h => h) (fun x hx => hb.block x (hS x hx)) (fun _ h => h) _ hl1) (fun x hx => Nat.lt_of_lt_of_le (hS x hx) hb.size) (by omega) (fun j h cs W2 h1 h2 => ihl l[j] (List.getElem_mem h) R S cs W2 h1 h2 (by have := wtL_mem (List.getElem_mem h); omega))
 have CM : Hid (∀ W, Below w.heap.size w W → Calls Tryz.prog 62 #[.slice am m.length cm] W (AnMPost m W)) := fun W hb =>
  anewM_any m R S am cm bm om W ham (lMk (fun h => h) (fun x hx => hb.block x (hS x hx)) (fun _ h => h) _ hm1) (fun x hx => Nat.lt_of_lt_of_le (hS x hx) hb.size) (by omega) (fun j h cs W2 h1 h2 => ihm m[j] (List.getElem_mem h) R S cs W2 h1 h2 (by have := wtM_mem (List.getElem_mem h); omega))
 clear hl1 hm1 ihl ihm hal ham
 clear h0 h1
 by_cases e1 : l.length = 0
 ·obtain rfl : l = [] := List.length_eq_zero_iff.1 e1
  by_cases e2 : m.length = 0
  ·obtain rfl : m = [] := List.length_eq_zero_iff.1 e2
   go_enter Tryz.func40, Tryz.ntmps40
   go_wp2_with fail
   (try simp only [Exit.inBlock, Exit.then])
   refine bodyPost_ret (v := .agg #[.int .i64 k, .bool b, .int .i64 i, .string s, .slice none 0 0, .slice none 0 0]) (by rw [results_cell1 rfl]; go_simp) rfl ?_
   exact an_fin (B := w.heap.size) hk hi hs headed_nil headed_nil (Nat.le_refl _) (by rw [liesL]; trivial) (by rw [liesM]; trivial) (tBw w _ _)
  ·have y2 : ¬ (m.length : Int) = 0 := by omega
   go_enter Tryz.func40, Tryz.ntmps40
   go_wp2_with fail
   refine (CM.out _ (tBw w _ _)).mono ?_
   rintro e w3 ⟨gM, rfl, hl3, b3⟩
   have hz3 := b3.size
   have t0 := (b3.block w.heap.size (by rw [aSz, aSz]; omega)).trans (a2k w _ _)
   have t1 := (b3.block (w.heap.size + 1) (by rw [aSz, aSz]; omega)).trans (a2n w _ _)
   have HM : Hid (liesM false w3 (From (w.heap.size + 2) w3) m gM 0) := lMk (fun h => h) (fun _ _ => rfl) (fun x hx => ⟨by have := hx.1; rw [aSz, aSz] at this; exact this, hx.2⟩) _ hl3
   have HB : Hid (Below w.heap.size w w3) := (tBw w _ _).trans (b3.mono (by rw [aSz, aSz]; omega))
   rw [aSz, aSz] at hz3
   clear hl3 b3
   have u0 : (w3.setCell ⟨w.heap.size, 5, none⟩ (.slice (some ⟨gM, 0, none⟩) m.length m.length)).heap[w.heap.size]? = some (.cells #[.int .i64 k, .bool b, .int .i64 i, .string s, .slice none 0 0, .slice (some ⟨gM, 0, none⟩) m.length m.length] 25 (0, 0)) := by rw [sBk t0]; rfl
   have u1 := (sOt (w := w3) (g := w.heap.size) (o := 5) (u := .slice (some ⟨gM, 0, none⟩) m.length m.length) (x := w.heap.size + 1) (by omega)).trans t1
   obtain ⟨ad0, ad1, ad2, ad3, ad4, ad5⟩ := sixC t0
   obtain ⟨ar0, ar1, ar2, ar3, ar4, ar5⟩ := sixC t1
   have af0 : ∀ i, w3.frozen? ⟨w.heap.size, i, none⟩ = false := fBk t0
   have af1 : ∀ i, w3.frozen? ⟨w.heap.size + 1, i, none⟩ = false := fBk t1
   obtain ⟨bd0, bd1, bd2, bd3, bd4, bd5⟩ := sixC u0
   obtain ⟨br0, br1, br2, br3, br4, br5⟩ := sixC u1
   have bf0 : ∀ i, (w3.setCell ⟨w.heap.size, 5, none⟩ (.slice (some ⟨gM, 0, none⟩) m.length m.length)).frozen? ⟨w.heap.size, i, none⟩ = false := fBk u0
   have bf1 : ∀ i, (w3.setCell ⟨w.heap.size, 5, none⟩ (.slice (some ⟨gM, 0, none⟩) m.length m.length)).frozen? ⟨w.heap.size + 1, i, none⟩ = false := fBk u1
   have HMx : Hid (liesM false (w3.setCell ⟨w.heap.size, 5, none⟩ (.slice (some ⟨gM, 0, none⟩) m.length m.length)) (From (w.heap.size + 2) (w3.setCell ⟨w.heap.size, 5, none⟩ (.slice (some ⟨gM, 0, none⟩) m.length m.length))) m gM 0) := liesM_set HM.out (by omega) _ _
   have HBx : Hid (Below w.heap.size w (w3.setCell ⟨w.heap.size, 5, none⟩ (.slice (some ⟨gM, 0, none⟩) m.length m.length))) := HB.out.setCell (p := ⟨w.heap.size, 5, none⟩) (Nat.le_refl _) _
   clear HB HM
   have HB := HBx
   clear t0 t1 u0 u1
   go_wp2_with fail
   (try simp only [Exit.inBlock, Exit.then])
   refine bodyPost_ret (v := .agg #[.int .i64 k, .bool b, .int .i64 i, .string s, .slice none 0 0, .slice (some ⟨gM, 0, none⟩) m.length m.length]) (by rw [results_cell1 rfl]; go_simp) rfl ?_
   exact an_fin (B := w.heap.size + 2) hk hi hs headed_nil (headed_new gM _ hmm) (by omega) (by rw [liesL]; trivial) (liesM_set6 HMx.out (by omega) _ _ _ _ _ _ _ _ _ _ _ _) (Below.set6 HB.out (by omega) _ _ _ _ _ _ _ _ _ _ _ _)
 ·have y1 : ¬ (l.length : Int) = 0 := by omega
  go_enter Tryz.func40, Tryz.ntmps40
  go_wp2_with fail
  refine (CL.out _ (tBw w _ _)).mono ?_
  rintro e w3 ⟨gL, rfl, hl3, b3⟩
  have hz3 := b3.size
  have t0 := (b3.block w.heap.size (by rw [aSz, aSz]; omega)).trans (a2k w _ _)
  have t1 := (b3.block (w.heap.size + 1) (by rw [aSz, aSz]; omega)).trans (a2n w _ _)
  have HL3 : liesL false w3 (From (w.heap.size + 2) w3) l gL 0 := lLk (fun h => h) (fun _ _ => rfl) (fun x hx => ⟨by have := hx.1; rw [aSz, aSz] at this; exact this, hx.2⟩) _ hl3
  have B3 : Below w.heap.size w w3 := (tBw w _ _).trans (b3.mono (by rw [aSz, aSz]; omega))
  rw [aSz, aSz] at hz3
  clear hl3 b3
  have u0 : (w3.setCell ⟨w.heap.size, 4, none⟩ (.slice (some ⟨gL, 0, none⟩) l.length l.length)).heap[w.heap.size]? = some (.cells #[.int .i64 k, .bool b, .int .i64 i, .string s, .slice (some ⟨gL, 0, none⟩) l.length l.length, .slice am m.length cm] 25 (0, 0)) := by rw [sBk t0]; rfl
  have u1 := (sOt (w := w3) (g := w.heap.size) (o := 4) (u := .slice (some ⟨gL, 0, none⟩) l.length l.length) (x := w.heap.size + 1) (by omega)).trans t1
  have HL4 : Hid (liesL false (w3.setCell ⟨w.heap.size, 4, none⟩ (.slice (some ⟨gL, 0, none⟩) l.length l.length)) (From (w.heap.size + 2) (w3.setCell ⟨w.heap.size, 4, none⟩ (.slice (some ⟨gL, 0, none⟩) l.length l.length))) l gL 0) := liesL_setA HL3 (by omega) _ _
  have HB : Hid (Below w.heap.size w (w3.setCell ⟨w.heap.size, 4, none⟩ (.slice (some ⟨gL, 0, none⟩) l.length l.length))) := B3.setCell (p := ⟨w.heap.size, 4, none⟩) (Nat.le_refl _) _
  have hz4 : w.heap.size + 2 ≤ (w3.setCell ⟨w.heap.size, 4, none⟩ (.slice (some ⟨gL, 0, none⟩) l.length l.length)).heap.size := by rw [sz1]; exact hz3
  obtain ⟨ad0, ad1, ad2, ad3, ad4, ad5⟩ := sixC t0
  obtain ⟨ar0, ar1, ar2, ar3, ar4, ar5⟩ := sixC t1
  have af0 : ∀ i, w3.frozen? ⟨w.heap.size, i, none⟩ = false := fBk t0
  have af1 : ∀ i, w3.frozen? ⟨w.heap.size + 1, i, none⟩ = false := fBk t1
  obtain ⟨bd0, bd1, bd2, bd3, bd4, bd5⟩ := sixC u0
  obtain ⟨br0, br1, br2, br3, br4, br5⟩ := sixC u1
  have bf0 : ∀ i, (w3.setCell ⟨w.heap.size, 4, none⟩ (.slice (some ⟨gL, 0, none⟩) l.length l.length)).frozen? ⟨w.heap.size, i, none⟩ = false := fBk u0
  have bf1 : ∀ i, (w3.setCell ⟨w.heap.size, 4, none⟩ (.slice (some ⟨gL, 0, none⟩) l.length l.length)).frozen? ⟨w.heap.size + 1, i, none⟩ = false := fBk u1
  by_cases e2 : m.length = 0
  ·obtain rfl : m = [] := List.length_eq_zero_iff.1 e2
   have x0 : ((w3.setCell ⟨w.heap.size, 4, none⟩ (.slice (some ⟨gL, 0, none⟩) l.length l.length)).setCell ⟨w.heap.size, 5, none⟩ (.slice none 0 0)).heap[w.heap.size]? = some (.cells #[.int .i64 k, .bool b, .int .i64 i, .string s, .slice (some ⟨gL, 0, none⟩) l.length l.length, .slice none 0 0] 25 (0, 0)) := by rw [sBk u0]; rfl
   have x1 := (sOt (w := w3.setCell ⟨w.heap.size, 4, none⟩ (.slice (some ⟨gL, 0, none⟩) l.length l.length)) (g := w.heap.size) (o := 5) (u := .slice none 0 0) (x := w.heap.size + 1) (by omega)).trans u1
   obtain ⟨cd0, cd1, cd2, cd3, cd4, cd5⟩ := sixC x0
   obtain ⟨cr0, cr1, cr2, cr3, cr4, cr5⟩ := sixC x1
   have cf0 : ∀ i, ((w3.setCell ⟨w.heap.size, 4, none⟩ (.slice (some ⟨gL, 0, none⟩) l.length l.length)).setCell ⟨w.heap.size, 5, none⟩ (.slice none 0 0)).frozen? ⟨w.heap.size, i, none⟩ = false := fBk x0
   have cf1 : ∀ i, ((w3.setCell ⟨w.heap.size, 4, none⟩ (.slice (some ⟨gL, 0, none⟩) l.length l.length)).setCell ⟨w.heap.size, 5, none⟩ (.slice none 0 0)).frozen? ⟨w.heap.size + 1, i, none⟩ = false := fBk x1
   have HLx : Hid (liesL false ((w3.setCell ⟨w.heap.size, 4, none⟩ (.slice (some ⟨gL, 0, none⟩) l.length l.length)).setCell ⟨w.heap.size, 5, none⟩ (.slice none 0 0)) (From (w.heap.size + 2) ((w3.setCell ⟨w.heap.size, 4, none⟩ (.slice (some ⟨gL, 0, none⟩) l.length l.length)).setCell ⟨w.heap.size, 5, none⟩ (.slice none 0 0))) l gL 0) := liesL_setA HL4.out (by omega) _ _
   have HBx : Hid (Below w.heap.size w ((w3.setCell ⟨w.heap.size, 4, none⟩ (.slice (some ⟨gL, 0, none⟩) l.length l.length)).setCell ⟨w.heap.size, 5, none⟩ (.slice none 0 0))) := HB.out.setCell (p := ⟨w.heap.size, 5, none⟩) (Nat.le_refl _) _
   clear HB HL4
   have HB := HBx
   clear t0 t1 u0 u1 x0 x1
   go_wp2_with fail
   (try simp only [Exit.inBlock, Exit.then])
   refine bodyPost_ret (v := .agg #[.int .i64 k, .bool b, .int .i64 i, .string s, .slice (some ⟨gL, 0, none⟩) l.length l.length, .slice none 0 0]) (by rw [results_cell1 rfl]; go_simp) rfl ?_
   exact an_fin (B := w.heap.size + 2) hk hi hs (headed_new gL _ hlm) headed_nil (by omega) (liesL_set6A HLx.out (by omega) _ _ _ _ _ _ _ _ _ _ _ _) (by rw [liesM]; trivial) (Below.set6 HB.out (by omega) _ _ _ _ _ _ _ _ _ _ _ _)
  ·have y2 : ¬ (m.length : Int) = 0 := by omega
   clear t0 t1
   go_wp2_with fail
   generalize (w3.setCell ⟨w.heap.size, 4, none⟩ (.slice (some ⟨gL, 0, none⟩) l.length l.length)) = w4 at *
   refine (CM.out w4 HB.out).mono ?_
   rintro e w5 ⟨gM, rfl, hl5, b5⟩
   have hz5 := b5.size
   have t0 := (b5.block w.heap.size (by omega)).trans u0
   have t1 := (b5.block (w.heap.size + 1) (by omega)).trans u1
   have HM : Hid (liesM false w5 (From (w.heap.size + 2) w5) m gM 0) := lMk (fun h => h) (fun _ _ => rfl) (fun x hx => ⟨by have := hx.1; omega, hx.2⟩) _ hl5
   have HL5 : Hid (liesL false w5 (From (w.heap.size + 2) w5) l gL 0) := liesL_below HL4.out b5
   have HB5 : Hid (Below w.heap.size w w5) := HB.out.trans (b5.mono (by omega))
   clear HB HL4
   have HB := HB5
   have u0' : (w5.setCell ⟨w.heap.size, 5, none⟩ (.slice (some ⟨gM, 0, none⟩) m.length m.length)).heap[w.heap.size]? = some (.cells #[.int .i64 k, .bool b, .int .i64 i, .string s, .slice (some ⟨gL, 0, none⟩) l.length l.length, .slice (some ⟨gM, 0, none⟩) m.length m.length] 25 (0, 0)) := by rw [sBk t0]; rfl
   have u1' := (sOt (w := w5) (g := w.heap.size) (o := 5) (u := .slice (some ⟨gM, 0, none⟩) m.length m.length) (x := w.heap.size + 1) (by omega)).trans t1
   clear ad0 ar0 ad1 ar1 ad2 ar2 ad3 ar3 ad4 ar4 ad5 ar5 af0 af1
   clear bd0 br0 bd1 br1 bd2 br2 bd3 br3 bd4 br4 bd5 br5 bf0 bf1
   obtain ⟨ad0, ad1, ad2, ad3, ad4, ad5⟩ := sixC t0
   obtain ⟨ar0, ar1, ar2, ar3, ar4, ar5⟩ := sixC t1
   have af0 : ∀ i, w5.frozen? ⟨w.heap.size, i, none⟩ = false := fBk t0
   have af1 : ∀ i, w5.frozen? ⟨w.heap.size + 1, i, none⟩ = false := fBk t1
   obtain ⟨bd0, bd1, bd2, bd3, bd4, bd5⟩ := sixC u0'
   obtain ⟨br0, br1, br2, br3, br4, br5⟩ := sixC u1'
   have bf0 : ∀ i, (w5.setCell ⟨w.heap.size, 5, none⟩ (.slice (some ⟨gM, 0, none⟩) m.length m.length)).frozen? ⟨w.heap.size, i, none⟩ = false := fBk u0'
   have bf1 : ∀ i, (w5.setCell ⟨w.heap.size, 5, none⟩ (.slice (some ⟨gM, 0, none⟩) m.length m.length)).frozen? ⟨w.heap.size + 1, i, none⟩ = false := fBk u1'
   have HMx : Hid (liesM false (w5.setCell ⟨w.heap.size, 5, none⟩ (.slice (some ⟨gM, 0, none⟩) m.length m.length)) (From (w.heap.size + 2) (w5.setCell ⟨w.heap.size, 5, none⟩ (.slice (some ⟨gM, 0, none⟩) m.length m.length))) m gM 0) := liesM_set HM.out (by omega) _ _
   have HLx : Hid (liesL false (w5.setCell ⟨w.heap.size, 5, none⟩ (.slice (some ⟨gM, 0, none⟩) m.length m.length)) (From (w.heap.size + 2) (w5.setCell ⟨w.heap.size, 5, none⟩ (.slice (some ⟨gM, 0, none⟩) m.length m.length))) l gL 0) := liesL_setA HL5.out (by omega) _ _
   have HBx : Hid (Below w.heap.size w (w5.setCell ⟨w.heap.size, 5, none⟩ (.slice (some ⟨gM, 0, none⟩) m.length m.length))) := HB.out.setCell (p := ⟨w.heap.size, 5, none⟩) (Nat.le_refl _) _
   clear HB HB5 HM HL5
   have HB := HBx
   clear t0 t1 u0 u1 u0' u1' hl5 b5
   go_wp2_with fail
   (try simp only [Exit.inBlock, Exit.then])
   refine bodyPost_ret (v := .agg #[.int .i64 k, .bool b, .int .i64 i, .string s, .slice (some ⟨gL, 0, none⟩) l.length l.length, .slice (some ⟨gM, 0, none⟩) m.length m.length]) (by rw [results_cell1 rfl]; go_simp) rfl ?_
   exact an_fin (B := w.heap.size + 2) hk hi hs (headed_new gL _ hlm) (headed_new gM _ hmm) (by omega) (liesL_set6A HLx.out (by omega) _ _ _ _ _ _ _ _ _ _ _ _) (liesM_set6 HMx.out (by omega) _ _ _ _ _ _ _ _ _ _ _ _) (Below.set6 HB.out (by omega) _ _ _ _ _ _ _ _ _ _ _ _)
def nullV : V := .mk 0 false 0 ⟨#[]⟩ [] []
def clnV (v : V) : V := if okV v = true then v else nullV
theorem null_lies (W : World) (S : Nat → Prop) : nullV.lies false W S [.int .i64 0, .bool false, .int .i64 0, .string ⟨#[]⟩, .slice none 0 0, .slice none 0 0] :=
 lies_S (by constructor <;> omega) (by constructor <;> omega) (by decide) headed_nil headed_nil (by rw [liesL]; trivial) (by rw [liesM]; trivial)
theorem lies_set6A {w : World} {B M : Nat} {v : V} {cs : List Value} (h : v.lies false w (From B w) cs) (hM : M < B) (i1 i2 i3 i4 i5 i6 : Nat) (u1 u2 u3 u4 u5 u6 : Value) :
 v.lies false ((((((w.setCell ⟨M, i1, none⟩ u1).setCell ⟨M, i2, none⟩ u2).setCell ⟨M, i3, none⟩ u3).setCell ⟨M, i4, none⟩ u4).setCell ⟨M, i5, none⟩ u5).setCell ⟨M, i6, none⟩ u6) (From B ((((((w.setCell ⟨M, i1, none⟩ u1).setCell ⟨M, i2, none⟩ u2).setCell ⟨M, i3, none⟩ u3).setCell ⟨M, i4, none⟩ u4).setCell ⟨M, i5, none⟩ u5).setCell ⟨M, i6, none⟩ u6)) cs :=
 V.lies_keep (fun h => h) (fun x hx => by have := hx.1; repeat (rw [sOt (show x ≠ M by omega)])) (fun x hx => ⟨hx.1, by simp only [sz1]; exact hx.2⟩) _ h
set_option maxHeartbeats 8000000 in
set_option maxRecDepth 100000 in
theorem clone_any (v : V) (R : Bool) (S : Nat → Prop) (cs : List Value) (w : World) (tb : Tb w) (hv : v.lies R w S cs) (hS : ∀ b, S b → b < w.heap.size) (hwt : v.wt ≤ 1099511627776) : Calls Tryz.prog 26 #[.agg cs.toArray] w (AnPost (clnV v) w) := by
 obtain ⟨k, b, i, s, al, nl, cl, am, nm, cm, rfl⟩ := V.ten hv
 have hz2 : ((w.alloc (oV k b i s al nl cl am nm cm)).alloc oN).heap.size = w.heap.size + 2 := by rw [aSz, aSz]
 have hz2 := hz2; dsimp only [oV, oN] at hz2
 have B0 : Below w.heap.size w ((w.alloc (oV k b i s al nl cl am nm cm)).alloc oN) := tBw w _ _
 have h0 := a2k w (oV k b i s al nl cl am nm cm) oN
 have h1 := a2n w (oV k b i s al nl cl am nm cm) oN
 have HV : Hid (∀ W, Below w.heap.size w W → v.lies R W S [.int .i64 k, .bool b, .int .i64 i, .string s, .slice al nl cl, .slice am nm cm] ∧ (∀ b, S b → b < W.heap.size)) := fun W hb => ⟨V.lies_keep (fun h => h) (fun x hx => hb.block x (hS x hx)) (fun _ h => h) _ hv, fun x hx => Nat.lt_of_lt_of_le (hS x hx) hb.size⟩
 have HB : Hid (∀ W, Below w.heap.size w W → Tb W) := fun W hb => tb.below hb tb.z
 obtain ⟨d0, d1, d2, d3, d4, d5⟩ := sixC h0
 clear hv
 go_enter Tryz.func26, Tryz.ntmps26
 go_wp2_with fail
 clear d0 d1 d2 d3 d4 d5
 generalize ((w.alloc (oV k b i s al nl cl am nm cm)).alloc oN) = w0 at *
 refine (taken_any R v S _ w0 (HB.out w0 B0) (HV.out w0 B0).1 (HV.out w0 B0).2 hwt).mono ?_
 rintro e w1 ⟨rfl, b1⟩
 have hz1 := b1.size
 have B1 := B0.trans (b1.mono (by omega))
 have t0 := (b1.block w.heap.size (by omega)).trans h0
 have t1 := (b1.block (w.heap.size + 1) (by omega)).trans h1
 obtain ⟨d0, d1, d2, d3, d4, d5⟩ := sixC t0
 obtain ⟨r0, r1, r2, r3, r4, r5⟩ := sixC t1
 have rf : ∀ i, w1.frozen? ⟨w.heap.size + 1, i, none⟩ = false := fBk t1
 cases ho : okV v with
 | false =>
  have HF : Hid (clnV v = nullV) := by show _ = _; rw [clnV, if_neg (by simp [ho])]
  clear t0 t1 h0 h1
  go_wp2_with fail
  (try simp only [Exit.inBlock, Exit.then])
  refine bodyPost_ret (v := .agg #[.int .i64 0, .bool false, .int .i64 0, .string ⟨#[]⟩, .slice none 0 0, .slice none 0 0]) (by rw [results_cell1 rfl]; go_simp) rfl ?_
  rw [HF.out]
  exact ⟨[.int .i64 0, .bool false, .int .i64 0, .string ⟨#[]⟩, .slice none 0 0, .slice none 0 0], rfl, null_lies _ _, Below.set6 B1 (by omega) _ _ _ _ _ _ _ _ _ _ _ _⟩
 | true =>
  have HF : Hid (clnV v = v) := by show _ = _; rw [clnV, if_pos ho]
  go_wp2_with fail
  refine (anew_any v R S _ w1 (HV.out w1 B1).1 (HV.out w1 B1).2 hwt).mono ?_
  rintro e w2 ⟨csu, rfl, hlu, b2⟩
  obtain ⟨uk, ub, ui, us, ual, unl, ucl, uam, unm, ucm, rfl⟩ := V.ten hlu
  have hz3 := b2.size
  have B2 := B1.trans (b2.mono (by omega))
  have t1' := (b2.block (w.heap.size + 1) (by omega)).trans t1
  have HU : Hid (v.lies false w2 (From (w.heap.size + 2) w2) [.int .i64 uk, .bool ub, .int .i64 ui, .string us, .slice ual unl ucl, .slice uam unm ucm]) := V.lies_keep (fun h => h) (fun _ _ => rfl) (fun x hx => ⟨by have := hx.1; omega, hx.2⟩) _ hlu
  clear d0 d1 d2 d3 d4 d5 r0 r1 r2 r3 r4 r5 rf hlu b2 t0 t1 h0 h1
  obtain ⟨r0, r1, r2, r3, r4, r5⟩ := sixC t1'
  have rf : ∀ i, w2.frozen? ⟨w.heap.size + 1, i, none⟩ = false := fBk t1'
  clear t1'
  go_wp2_with fail
  (try simp only [Exit.inBlock, Exit.then])
  refine bodyPost_ret (v := .agg #[.int .i64 uk, .bool ub, .int .i64 ui, .string us, .slice ual unl ucl, .slice uam unm ucm]) (by rw [results_cell1 rfl]; go_simp) rfl ?_
  rw [HF.out]
  refine ⟨[.int .i64 uk, .bool ub, .int .i64 ui, .string us, .slice ual unl ucl, .slice uam unm ucm], rfl, V.lies_keep (fun h => h) (fun _ _ => rfl) (fun x hx => ⟨by have := hx.1; omega, hx.2⟩) _ (lies_set6A HU.out (show w.heap.size + 1 < w.heap.size + 2 by omega) _ _ _ _ _ _ _ _ _ _ _ _), Below.set6 B2 (by omega) _ _ _ _ _ _ _ _ _ _ _ _⟩
theorem entF_wt {D n y d lv : Nat} {g : Bool} {z : Nat} (h : (entF D n y d lv g z).1 = 0) : (entF D n y d lv g z).2.1 + (entF D n y d lv g z).2.2.1 = n + y + 1 + z := by
 unfold entF at *
 split at h
 ·simp at h
 split at h
 ·simp at h
 split at h
 ·simp at h
 split at h
 ·simp at h
 ·rename_i h1 h2 h3 h4
  rw [if_neg h1, if_neg h2, if_neg h3, if_neg h4]
  show n + 1 + (y + z) = _
  omega
mutual
theorem chkV_wt (D : Nat) : ∀ (v : V) (lv : Nat) (st : St), (chkV D v lv st).1 = 0 → (chkV D v lv st).2.1 + (chkV D v lv st).2.2.1 = st.1 + st.2.1 + v.wt
 | .mk k b i s l m, lv, st, h => by
  rw [chkV] at h ⊢
  by_cases h1 : (entF D st.1 st.2.1 st.2.2 lv (goodB k b i s l.length m) (s.size + keyB m)).1 = 0
  ·have e1 := entF_wt h1
   simp only [h1, if_true] at h ⊢
   by_cases h2 : (chkL D l (lv + 1) (entF D st.1 st.2.1 st.2.2 lv (goodB k b i s l.length m) (s.size + keyB m)).2).1 = 0
   ·simp only [h2, if_true] at h ⊢
    have a1 := chkM_wt D m (lv + 1) _ h
    have a2 := chkL_wt D l (lv + 1) _ h2
    rw [V.wt]
    omega
   ·simp only [h2, if_false] at h
  ·simp only [h1, if_false] at h
theorem chkL_wt (D : Nat) : ∀ (l : List V) (lv : Nat) (st : St), (chkL D l lv st).1 = 0 → (chkL D l lv st).2.1 + (chkL D l lv st).2.2.1 = st.1 + st.2.1 + wtL l
 | [], lv, st, h => by rw [chkL, wtL]; rfl
 | x :: t, lv, st, h => by
  rw [chkL] at h ⊢
  by_cases h1 : (chkV D x lv st).1 = 0
  ·rw [if_pos h1] at h ⊢
   have a1 := chkL_wt D t lv _ h
   have a2 := chkV_wt D x lv st h1
   rw [wtL]
   omega
  ·rw [if_neg h1] at h
   exact absurd h h1
theorem chkM_wt (D : Nat) : ∀ (l : List Mem) (lv : Nat) (st : St), (chkM D l lv st).1 = 0 → (chkM D l lv st).2.1 + (chkM D l lv st).2.2.1 + keyB l = st.1 + st.2.1 + wtM l
 | [], lv, st, h => by rw [chkM, wtM, keyB]
 | (k, x) :: t, lv, st, h => by
  rw [chkM] at h ⊢
  by_cases h1 : (chkV D x lv st).1 = 0
  ·rw [if_pos h1] at h ⊢
   have a1 := chkM_wt D t lv _ h
   have a2 := chkV_wt D x lv st h1
   simp only [wtM, keyB]
   omega
  ·rw [if_neg h1] at h
   exact absurd h h1
end
theorem wt_of_chk {v : V} (h : (chkV 40 v 0 (0, 0, 0)).1 = 0) : v.wt ≤ 1114112 := by
 have a1 := chkV_wt 40 v 0 (0, 0, 0) h
 have a2 := chkV_bnd 40 v 0 (0, 0, 0) ⟨by simp, by simp, by simp⟩ h
 have a3 := a2.n
 have a4 := a2.y
 simp only at a1
 omega
end Go.Proofs.YtnakligbogkmbaaGreatDoor
