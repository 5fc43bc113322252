import Derived.Test.YthgfomblodhoaaaDoorAnxM
/- value.anew: each list and map in a block of its own. -/
set_option linter.unusedSimpArgs false
set_option linter.unusedVariables false
namespace Go.Proofs.YthgfomblodhoaaaDoor
open Go.RowKit Go.Lib
/-- a list in the block g and what it holds behind it, all in [B, H) -/
def LA (l : List V) (g B H : Nat) (W : World) : Prop := ∃ e1, B ≤ g ∧ g < e1 ∧ e1 ≤ H ∧ H ≤ W.heap.size ∧ Blk g 25 (l.length * 6) W ∧ apE W l e1 H g 0
def MA (l : List Mem) (g B H : Nat) (W : World) : Prop := ∃ e1, B ≤ g ∧ g < e1 ∧ e1 ≤ H ∧ H ≤ W.heap.size ∧ Blk g 38 (l.length * 7) W ∧ apF W l e1 H g 0
theorem LA.keep {l : List V} {g B H : Nat} {W W' : World} (h : LA l g B H W) (hw : ∀ b, B ≤ b → b < H → W'.heap[b]? = W.heap[b]?) (hs : W.heap.size ≤ W'.heap.size) : LA l g B H W' := by
  obtain ⟨e1, h1, h2, h3, h4, hk, h5⟩ := h
  exact ⟨e1, h1, h2, h3, by omega, hk.keep (hw g h1 (by omega)), apE_keep l (fun _ => hw g h1 (by omega)) (fun y y1 y2 => hw y (by omega) y2) h5⟩
theorem MA.keep {l : List Mem} {g B H : Nat} {W W' : World} (h : MA l g B H W) (hw : ∀ b, B ≤ b → b < H → W'.heap[b]? = W.heap[b]?) (hs : W.heap.size ≤ W'.heap.size) : MA l g B H W' := by
  obtain ⟨e1, h1, h2, h3, h4, hk, h5⟩ := h
  exact ⟨e1, h1, h2, h3, by omega, hk.keep (hw g h1 (by omega)), apF_keep l (fun _ => hw g h1 (by omega)) (fun y y1 y2 => hw y (by omega) y2) h5⟩
theorem LA.set {l : List V} {g B H M : Nat} {W : World} (h : LA l g B H W) (hM : M < B) (i : Nat) (u : Value) : LA l g B H (W.setCell ⟨M, i, none⟩ u) := h.keep (fun b b1 b2 => set_other (by omega)) (by rw [size_set1]; exact Nat.le_refl _)
theorem MA.set {l : List Mem} {g B H M : Nat} {W : World} (h : MA l g B H W) (hM : M < B) (i : Nat) (u : Value) : MA l g B H (W.setCell ⟨M, i, none⟩ u) := h.keep (fun b b1 b2 => set_other (by omega)) (by rw [size_set1]; exact Nat.le_refl _)
theorem LA.set6 {l : List V} {g B H M : Nat} {W : World} (h : LA l g B H W) (hM : M < B) (i1 i2 i3 i4 i5 i6 : Nat) (u1 u2 u3 u4 u5 u6 : Value) : LA l g B H ((((((W.setCell ⟨M, i1, none⟩ u1).setCell ⟨M, i2, none⟩ u2).setCell ⟨M, i3, none⟩ u3).setCell ⟨M, i4, none⟩ u4).setCell ⟨M, i5, none⟩ u5).setCell ⟨M, i6, none⟩ u6) :=
  (((((h.set hM i1 u1).set hM i2 u2).set hM i3 u3).set hM i4 u4).set hM i5 u5).set hM i6 u6
theorem MA.set6 {l : List Mem} {g B H M : Nat} {W : World} (h : MA l g B H W) (hM : M < B) (i1 i2 i3 i4 i5 i6 : Nat) (u1 u2 u3 u4 u5 u6 : Value) : MA l g B H ((((((W.setCell ⟨M, i1, none⟩ u1).setCell ⟨M, i2, none⟩ u2).setCell ⟨M, i3, none⟩ u3).setCell ⟨M, i4, none⟩ u4).setCell ⟨M, i5, none⟩ u5).setCell ⟨M, i6, none⟩ u6) :=
  (((((h.set hM i1 u1).set hM i2 u2).set hM i3 u3).set hM i4 u4).set hM i5 u5).set hM i6 u6
theorem LA.below {l : List V} {g B H : Nat} {W W' : World} (h : LA l g B H W) (hb : Below W.heap.size W W') : LA l g B H W' := h.keep (fun b b1 b2 => hb.block b (by obtain ⟨_, _, _, _, h4, _⟩ := h; omega)) hb.size
def ApL2 (l : List V) (w : World) (e : Ending) (w' : World) : Prop := ∃ g : Nat, e = .returned (.slice (some ⟨g, 0, none⟩) l.length l.length) ∧ LA l g w.heap.size w'.heap.size w' ∧ Below w.heap.size w w'
def ApM2 (l : List Mem) (w : World) (e : Ending) (w' : World) : Prop := ∃ g : Nat, e = .returned (.slice (some ⟨g, 0, none⟩) l.length l.length) ∧ MA l g w.heap.size w'.heap.size w' ∧ Below w.heap.size w w'
theorem ap_00 {w W : World} {k i : Int} {b : Bool} {s : ByteArray} (hk : In64 k) (hi : In64 i) (hs : s.size ≤ maxLen) (hB : Below w.heap.size w W) : ApPost (V.mk k b i s [] []) w (.returned (.agg #[.int .i64 k, .bool b, .int .i64 i, .string s, .slice none 0 0, .slice none 0 0])) W := by
  have hsz := hB.size
  refine ⟨[.int .i64 k, .bool b, .int .i64 i, .string s, .slice none 0 0, .slice none 0 0], rfl, ?_, hB⟩
  rw [V.ap]
  exact ⟨none, 0, 0, none, 0, 0, w.heap.size, w.heap.size, w.heap.size, w.heap.size, w.heap.size, w.heap.size, w.heap.size, w.heap.size, rfl, hk, hi, hs, headed_nil, headed_nil, ⟨rfl, fun h => by simp at h⟩, ⟨rfl, fun h => by simp at h⟩, by omega, by omega, by omega, by omega, by omega, by omega, by omega, by omega, by omega, fun h => by simp at h, fun h => by simp at h, by rw [apE]; trivial, by rw [apF]; trivial⟩
theorem ap_0M {w W : World} {B H g : Nat} {k i : Int} {b : Bool} {s : ByteArray} {m : List Mem} (hk : In64 k) (hi : In64 i) (hs : s.size ≤ maxLen) (hn : m.length ≤ maxLen) (hb : w.heap.size ≤ B) (hm : MA m g B H W) (hB : Below w.heap.size w W) : ApPost (V.mk k b i s [] m) w (.returned (.agg #[.int .i64 k, .bool b, .int .i64 i, .string s, .slice none 0 0, .slice (some ⟨g, 0, none⟩) m.length m.length])) W := by
  have hsz := hB.size
  obtain ⟨y1, b1, b2, b3, b4, bk, b5⟩ := hm
  refine ⟨[.int .i64 k, .bool b, .int .i64 i, .string s, .slice none 0 0, .slice (some ⟨g, 0, none⟩) m.length m.length], rfl, ?_, hB⟩
  rw [V.ap]
  exact ⟨none, 0, 0, some ⟨g, 0, none⟩, m.length, g, w.heap.size, w.heap.size, B, H, w.heap.size, w.heap.size, y1, H, rfl, hk, hi, hs, headed_nil, headed_new g _ hn, ⟨rfl, fun h => by simp at h⟩, ⟨rfl, fun _ => bk⟩, by omega, by omega, by omega, by omega, by omega, by omega, by omega, by omega, by omega, fun h => by simp at h, fun _ => ⟨by omega, by omega, by omega⟩, by rw [apE]; trivial, b5⟩
theorem ap_L0 {w W : World} {B H g : Nat} {k i : Int} {b : Bool} {s : ByteArray} {l : List V} (hk : In64 k) (hi : In64 i) (hs : s.size ≤ maxLen) (hn : l.length ≤ maxLen) (hb : w.heap.size ≤ B) (hl : LA l g B H W) (hB : Below w.heap.size w W) : ApPost (V.mk k b i s l []) w (.returned (.agg #[.int .i64 k, .bool b, .int .i64 i, .string s, .slice (some ⟨g, 0, none⟩) l.length l.length, .slice none 0 0])) W := by
  have hsz := hB.size
  obtain ⟨y1, b1, b2, b3, b4, bk, b5⟩ := hl
  refine ⟨[.int .i64 k, .bool b, .int .i64 i, .string s, .slice (some ⟨g, 0, none⟩) l.length l.length, .slice none 0 0], rfl, ?_, hB⟩
  rw [V.ap]
  exact ⟨some ⟨g, 0, none⟩, l.length, g, none, 0, 0, B, H, H, H, y1, H, H, H, rfl, hk, hi, hs, headed_new g _ hn, headed_nil, ⟨rfl, fun _ => bk⟩, ⟨rfl, fun h => by simp at h⟩, by omega, by omega, by omega, by omega, by omega, by omega, by omega, by omega, by omega, fun _ => ⟨by omega, by omega, by omega⟩, fun h => by simp at h, b5, by rw [apF]; trivial⟩
theorem ap_LM {w W : World} {B H g C K g' : Nat} {k i : Int} {b : Bool} {s : ByteArray} {l : List V} {m : List Mem} (hk : In64 k) (hi : In64 i) (hs : s.size ≤ maxLen) (hn : l.length ≤ maxLen) (hn' : m.length ≤ maxLen) (hb : w.heap.size ≤ B) (hl : LA l g B H W) (hm : MA m g' C K W) (hc : H ≤ C) (hB : Below w.heap.size w W) : ApPost (V.mk k b i s l m) w (.returned (.agg #[.int .i64 k, .bool b, .int .i64 i, .string s, .slice (some ⟨g, 0, none⟩) l.length l.length, .slice (some ⟨g', 0, none⟩) m.length m.length])) W := by
  have hsz := hB.size
  obtain ⟨x1, a1, a2, a3, a4, ak, a5⟩ := hl
  obtain ⟨y1, b1, b2, b3, b4, bk, b5⟩ := hm
  refine ⟨[.int .i64 k, .bool b, .int .i64 i, .string s, .slice (some ⟨g, 0, none⟩) l.length l.length, .slice (some ⟨g', 0, none⟩) m.length m.length], rfl, ?_, hB⟩
  rw [V.ap]
  exact ⟨some ⟨g, 0, none⟩, l.length, g, some ⟨g', 0, none⟩, m.length, g', B, H, C, K, x1, H, y1, K, rfl, hk, hi, hs, headed_new g _ hn, headed_new g' _ hn', ⟨rfl, fun _ => ak⟩, ⟨rfl, fun _ => bk⟩, by omega, by omega, by omega, by omega, by omega, by omega, by omega, by omega, by omega, fun _ => ⟨by omega, by omega, by omega⟩, fun _ => ⟨by omega, by omega, by omega⟩, a5, b5⟩
theorem hmkX {P : Prop} (h : P) : Hid P := h
set_option maxHeartbeats 1000000 in
set_option maxRecDepth 100000 in
theorem anew_ap (v : V) : ∀ (R : Bool) (S : Nat → Prop) (cs : List Value) (w : World), v.lies R w S cs → (∀ b, S b → b < w.heap.size) → v.wt ≤ 1099511627776 → Calls Tryd.prog 37 #[.agg cs.toArray] w (ApPost v w) := by
  induction v using V.ind_v with
  | h k b i s l m ihl ihm =>
  intro R S cs w hv hS hwt
  rw [V.lies] at hv
  obtain ⟨al, cl, bl, ol, am, cm, bm, om, rfl, hk, hi, hs, hal, ham, hl1, hm1, _⟩ := hv
  rw [V.wt] at hwt
  have hz2 : ((w.alloc (.cells #[.int .i64 k, .bool b, .int .i64 i, .string s, .slice al l.length cl, .slice am m.length cm] 25)).alloc (.cells #[.int .i64 0, .bool false, .int .i64 0, .string ⟨#[]⟩, .slice none 0 0, .slice none 0 0] 25)).heap.size = w.heap.size + 2 := by rw [alloc_size, alloc_size]
  have B0 : Below w.heap.size w ((w.alloc (.cells #[.int .i64 k, .bool b, .int .i64 i, .string s, .slice al l.length cl, .slice am m.length cm] 25)).alloc (.cells #[.int .i64 0, .bool false, .int .i64 0, .string ⟨#[]⟩, .slice none 0 0, .slice none 0 0] 25)) := two_below w _ _
  have h0 := alloc2_keep1 w (.cells #[.int .i64 k, .bool b, .int .i64 i, .string s, .slice al l.length cl, .slice am m.length cm] 25) (.cells #[.int .i64 0, .bool false, .int .i64 0, .string ⟨#[]⟩, .slice none 0 0, .slice none 0 0] 25)
  have h1 := alloc2_new w (.cells #[.int .i64 k, .bool b, .int .i64 i, .string s, .slice al l.length cl, .slice am m.length cm] 25) (.cells #[.int .i64 0, .bool false, .int .i64 0, .string ⟨#[]⟩, .slice none 0 0, .slice none 0 0] 25)
  have hlm : l.length ≤ maxLen := Nat.le_trans hal.le hal.max
  have hmm : m.length ≤ maxLen := Nat.le_trans ham.le ham.max
  have CL : Hid (∀ W, Below w.heap.size w W → Calls Tryd.prog 52 #[.slice al l.length cl] W (ApL2 l W)) := fun W hb =>
    (anewL_ap l R S al cl bl ol W hal (liesL_keep (fun h => h) (fun x hx => hb.block x (hS x hx)) (fun _ h => h) _ hl1) (fun x hx => Nat.lt_of_lt_of_le (hS x hx) hb.size) (by omega) (fun j h cs W2 h1 h2 => ihl l[j] (List.getElem_mem h) R S cs W2 h1 h2 (by have := wtL_mem (List.getElem_mem h); omega))).mono fun e w' ⟨e1, h1, h2, h3, h4, hk, h5⟩ => ⟨W.heap.size, h1, ⟨e1, Nat.le_refl _, h2, h3, Nat.le_refl _, hk, h4⟩, h5⟩
  have CM : Hid (∀ W, Below w.heap.size w W → Calls Tryd.prog 53 #[.slice am m.length cm] W (ApM2 m W)) := fun W hb =>
    (anewM_ap m R S am cm bm om W ham (liesM_keep (fun h => h) (fun x hx => hb.block x (hS x hx)) (fun _ h => h) _ hm1) (fun x hx => Nat.lt_of_lt_of_le (hS x hx) hb.size) (by omega) (fun j h cs W2 h1 h2 => ihm m[j] (List.getElem_mem h) R S cs W2 h1 h2 (by have := wtM_mem (List.getElem_mem h); omega))).mono fun e w' ⟨e1, h1, h2, h3, h4, hk, h5⟩ => ⟨W.heap.size, h1, ⟨e1, Nat.le_refl _, h2, h3, Nat.le_refl _, hk, h4⟩, h5⟩
  clear hl1 hm1 ihl ihm hal ham
  clear h0 h1
  by_cases e1 : l.length = 0
  · obtain rfl : l = [] := List.length_eq_zero_iff.1 e1
    by_cases e2 : m.length = 0
    · obtain rfl : m = [] := List.length_eq_zero_iff.1 e2
      go_enter Tryd.func37, Tryd.ntmps37
      go_wp2_with fail
      (try simp only [Exit.inBlock, Exit.then])
      refine bodyPost_ret (v := .agg #[.int .i64 k, .bool b, .int .i64 i, .string s, .slice none 0 0, .slice none 0 0]) (by rw [results_cell1 rfl]; go_simp) rfl ?_
      exact ap_00 hk hi hs (two_below w _ _)
    · have y2 : ¬ (m.length : Int) = 0 := by omega
      go_enter Tryd.func37, Tryd.ntmps37
      go_wp2_with fail
      refine (CM.out _ (two_below w _ _)).mono ?_
      rintro e w3 ⟨gM, rfl, hl3, b3⟩
      have hz3 := b3.size
      have t0 := (b3.block w.heap.size (by rw [alloc_size, alloc_size]; omega)).trans (alloc2_keep1 w _ _)
      have t1 := (b3.block (w.heap.size + 1) (by rw [alloc_size, alloc_size]; omega)).trans (alloc2_new w _ _)
      obtain ⟨H3, hH3⟩ : ∃ H, w3.heap.size = H := ⟨_, rfl⟩
      have HM : Hid (MA m gM (w.heap.size + 2) H3 w3) := by show MA _ _ _ _ _; rw [← hH3]; have h := hl3; simp only [alloc_size] at h; exact h
      clear hH3
      have HB : Hid (Below w.heap.size w w3) := (two_below w _ _).trans (b3.mono (by rw [alloc_size, alloc_size]; omega))
      rw [alloc_size, alloc_size] at hz3
      clear hl3 b3
      have u0 : (w3.setCell ⟨w.heap.size, 5, none⟩ (.slice (some ⟨gM, 0, none⟩) m.length m.length)).heap[w.heap.size]? = some (.cells #[.int .i64 k, .bool b, .int .i64 i, .string s, .slice none 0 0, .slice (some ⟨gM, 0, none⟩) m.length m.length] 25 (0, 0)) := by rw [set_block t0]; rfl
      have u1 := (set_other (w := w3) (g := w.heap.size) (o := 5) (u := .slice (some ⟨gM, 0, none⟩) m.length m.length) (x := w.heap.size + 1) (by omega)).trans t1
      have ad0 : w3.cell? ⟨w.heap.size, 0, none⟩ = some (.int .i64 k) := by rw [cell_of_block t0]; rfl
      have ad1 : w3.cell? ⟨w.heap.size, 1, none⟩ = some (.bool b) := by rw [cell_of_block t0]; rfl
      have ad2 : w3.cell? ⟨w.heap.size, 2, none⟩ = some (.int .i64 i) := by rw [cell_of_block t0]; rfl
      have ad3 : w3.cell? ⟨w.heap.size, 3, none⟩ = some (.string s) := by rw [cell_of_block t0]; rfl
      have ad4 : w3.cell? ⟨w.heap.size, 4, none⟩ = some (.slice none 0 0) := by rw [cell_of_block t0]; rfl
      have ad5 : w3.cell? ⟨w.heap.size, 5, none⟩ = some (.slice am m.length cm) := by rw [cell_of_block t0]; rfl
      have ar0 : w3.cell? ⟨w.heap.size + 1, 0, none⟩ = some (.int .i64 0) := by rw [cell_of_block t1]; rfl
      have ar1 : w3.cell? ⟨w.heap.size + 1, 1, none⟩ = some (.bool false) := by rw [cell_of_block t1]; rfl
      have ar2 : w3.cell? ⟨w.heap.size + 1, 2, none⟩ = some (.int .i64 0) := by rw [cell_of_block t1]; rfl
      have ar3 : w3.cell? ⟨w.heap.size + 1, 3, none⟩ = some (.string ⟨#[]⟩) := by rw [cell_of_block t1]; rfl
      have ar4 : w3.cell? ⟨w.heap.size + 1, 4, none⟩ = some (.slice none 0 0) := by rw [cell_of_block t1]; rfl
      have ar5 : w3.cell? ⟨w.heap.size + 1, 5, none⟩ = some (.slice none 0 0) := by rw [cell_of_block t1]; rfl
      have af0 : ∀ i, w3.frozen? ⟨w.heap.size, i, none⟩ = false := frozen_of_block t0
      have af1 : ∀ i, w3.frozen? ⟨w.heap.size + 1, i, none⟩ = false := frozen_of_block t1
      have bd0 : (w3.setCell ⟨w.heap.size, 5, none⟩ (.slice (some ⟨gM, 0, none⟩) m.length m.length)).cell? ⟨w.heap.size, 0, none⟩ = some (.int .i64 k) := by rw [cell_of_block u0]; rfl
      have bd1 : (w3.setCell ⟨w.heap.size, 5, none⟩ (.slice (some ⟨gM, 0, none⟩) m.length m.length)).cell? ⟨w.heap.size, 1, none⟩ = some (.bool b) := by rw [cell_of_block u0]; rfl
      have bd2 : (w3.setCell ⟨w.heap.size, 5, none⟩ (.slice (some ⟨gM, 0, none⟩) m.length m.length)).cell? ⟨w.heap.size, 2, none⟩ = some (.int .i64 i) := by rw [cell_of_block u0]; rfl
      have bd3 : (w3.setCell ⟨w.heap.size, 5, none⟩ (.slice (some ⟨gM, 0, none⟩) m.length m.length)).cell? ⟨w.heap.size, 3, none⟩ = some (.string s) := by rw [cell_of_block u0]; rfl
      have bd4 : (w3.setCell ⟨w.heap.size, 5, none⟩ (.slice (some ⟨gM, 0, none⟩) m.length m.length)).cell? ⟨w.heap.size, 4, none⟩ = some (.slice none 0 0) := by rw [cell_of_block u0]; rfl
      have bd5 : (w3.setCell ⟨w.heap.size, 5, none⟩ (.slice (some ⟨gM, 0, none⟩) m.length m.length)).cell? ⟨w.heap.size, 5, none⟩ = some (.slice (some ⟨gM, 0, none⟩) m.length m.length) := by rw [cell_of_block u0]; rfl
      have br0 : (w3.setCell ⟨w.heap.size, 5, none⟩ (.slice (some ⟨gM, 0, none⟩) m.length m.length)).cell? ⟨w.heap.size + 1, 0, none⟩ = some (.int .i64 0) := by rw [cell_of_block u1]; rfl
      have br1 : (w3.setCell ⟨w.heap.size, 5, none⟩ (.slice (some ⟨gM, 0, none⟩) m.length m.length)).cell? ⟨w.heap.size + 1, 1, none⟩ = some (.bool false) := by rw [cell_of_block u1]; rfl
      have br2 : (w3.setCell ⟨w.heap.size, 5, none⟩ (.slice (some ⟨gM, 0, none⟩) m.length m.length)).cell? ⟨w.heap.size + 1, 2, none⟩ = some (.int .i64 0) := by rw [cell_of_block u1]; rfl
      have br3 : (w3.setCell ⟨w.heap.size, 5, none⟩ (.slice (some ⟨gM, 0, none⟩) m.length m.length)).cell? ⟨w.heap.size + 1, 3, none⟩ = some (.string ⟨#[]⟩) := by rw [cell_of_block u1]; rfl
      have br4 : (w3.setCell ⟨w.heap.size, 5, none⟩ (.slice (some ⟨gM, 0, none⟩) m.length m.length)).cell? ⟨w.heap.size + 1, 4, none⟩ = some (.slice none 0 0) := by rw [cell_of_block u1]; rfl
      have br5 : (w3.setCell ⟨w.heap.size, 5, none⟩ (.slice (some ⟨gM, 0, none⟩) m.length m.length)).cell? ⟨w.heap.size + 1, 5, none⟩ = some (.slice none 0 0) := by rw [cell_of_block u1]; rfl
      have bf0 : ∀ i, (w3.setCell ⟨w.heap.size, 5, none⟩ (.slice (some ⟨gM, 0, none⟩) m.length m.length)).frozen? ⟨w.heap.size, i, none⟩ = false := frozen_of_block u0
      have bf1 : ∀ i, (w3.setCell ⟨w.heap.size, 5, none⟩ (.slice (some ⟨gM, 0, none⟩) m.length m.length)).frozen? ⟨w.heap.size + 1, i, none⟩ = false := frozen_of_block u1
      have HMx : Hid (MA m gM (w.heap.size + 2) H3 (w3.setCell ⟨w.heap.size, 5, none⟩ (.slice (some ⟨gM, 0, none⟩) m.length m.length))) := HM.out.set (by omega) _ _
      have HBx : Hid (Below w.heap.size w (w3.setCell ⟨w.heap.size, 5, none⟩ (.slice (some ⟨gM, 0, none⟩) m.length m.length))) := HB.out.setCell (p := ⟨w.heap.size, 5, none⟩) (Nat.le_refl _) _
      clear HB HM
      have HB := HBx
      clear t0 t1 u0 u1
      go_wp2_with fail
      (try simp only [Exit.inBlock, Exit.then])
      refine bodyPost_ret (v := .agg #[.int .i64 k, .bool b, .int .i64 i, .string s, .slice none 0 0, .slice (some ⟨gM, 0, none⟩) m.length m.length]) (by rw [results_cell1 rfl]; go_simp) rfl ?_
      exact ap_0M hk hi hs hmm (by omega) (HMx.out.set6 (by omega) _ _ _ _ _ _ _ _ _ _ _ _) (Below.set6 HB.out (by omega) _ _ _ _ _ _ _ _ _ _ _ _)
  · have y1 : ¬ (l.length : Int) = 0 := by omega
    go_enter Tryd.func37, Tryd.ntmps37
    go_wp2_with fail
    refine (CL.out _ (two_below w _ _)).mono ?_
    rintro e w3 ⟨gL, rfl, hl3, b3⟩
    have hz3 := b3.size
    have t0 := (b3.block w.heap.size (by rw [alloc_size, alloc_size]; omega)).trans (alloc2_keep1 w _ _)
    have t1 := (b3.block (w.heap.size + 1) (by rw [alloc_size, alloc_size]; omega)).trans (alloc2_new w _ _)
    obtain ⟨H3, hH3⟩ : ∃ H, w3.heap.size = H := ⟨_, rfl⟩
    have HH3 := hmkX hH3
    have HL3 : LA l gL (w.heap.size + 2) H3 w3 := by rw [← hH3]; have h := hl3; simp only [alloc_size] at h; exact h
    clear hH3
    have B3 : Below w.heap.size w w3 := (two_below w _ _).trans (b3.mono (by rw [alloc_size, alloc_size]; omega))
    rw [alloc_size, alloc_size] at hz3
    clear hl3 b3
    have u0 : (w3.setCell ⟨w.heap.size, 4, none⟩ (.slice (some ⟨gL, 0, none⟩) l.length l.length)).heap[w.heap.size]? = some (.cells #[.int .i64 k, .bool b, .int .i64 i, .string s, .slice (some ⟨gL, 0, none⟩) l.length l.length, .slice am m.length cm] 25 (0, 0)) := by rw [set_block t0]; rfl
    have u1 := (set_other (w := w3) (g := w.heap.size) (o := 4) (u := .slice (some ⟨gL, 0, none⟩) l.length l.length) (x := w.heap.size + 1) (by omega)).trans t1
    have HL4 : Hid (LA l gL (w.heap.size + 2) H3 (w3.setCell ⟨w.heap.size, 4, none⟩ (.slice (some ⟨gL, 0, none⟩) l.length l.length))) := HL3.set (by omega) _ _
    have HZ4 : Hid ((w3.setCell ⟨w.heap.size, 4, none⟩ (.slice (some ⟨gL, 0, none⟩) l.length l.length)).heap.size = H3) := by show _ = _; rw [size_set1]; exact HH3.out
    clear HH3
    have HB : Hid (Below w.heap.size w (w3.setCell ⟨w.heap.size, 4, none⟩ (.slice (some ⟨gL, 0, none⟩) l.length l.length))) := B3.setCell (p := ⟨w.heap.size, 4, none⟩) (Nat.le_refl _) _
    have hz4 : w.heap.size + 2 ≤ (w3.setCell ⟨w.heap.size, 4, none⟩ (.slice (some ⟨gL, 0, none⟩) l.length l.length)).heap.size := by rw [size_set1]; exact hz3
    have ad0 : w3.cell? ⟨w.heap.size, 0, none⟩ = some (.int .i64 k) := by rw [cell_of_block t0]; rfl
    have ad1 : w3.cell? ⟨w.heap.size, 1, none⟩ = some (.bool b) := by rw [cell_of_block t0]; rfl
    have ad2 : w3.cell? ⟨w.heap.size, 2, none⟩ = some (.int .i64 i) := by rw [cell_of_block t0]; rfl
    have ad3 : w3.cell? ⟨w.heap.size, 3, none⟩ = some (.string s) := by rw [cell_of_block t0]; rfl
    have ad4 : w3.cell? ⟨w.heap.size, 4, none⟩ = some (.slice al l.length cl) := by rw [cell_of_block t0]; rfl
    have ad5 : w3.cell? ⟨w.heap.size, 5, none⟩ = some (.slice am m.length cm) := by rw [cell_of_block t0]; rfl
    have ar0 : w3.cell? ⟨w.heap.size + 1, 0, none⟩ = some (.int .i64 0) := by rw [cell_of_block t1]; rfl
    have ar1 : w3.cell? ⟨w.heap.size + 1, 1, none⟩ = some (.bool false) := by rw [cell_of_block t1]; rfl
    have ar2 : w3.cell? ⟨w.heap.size + 1, 2, none⟩ = some (.int .i64 0) := by rw [cell_of_block t1]; rfl
    have ar3 : w3.cell? ⟨w.heap.size + 1, 3, none⟩ = some (.string ⟨#[]⟩) := by rw [cell_of_block t1]; rfl
    have ar4 : w3.cell? ⟨w.heap.size + 1, 4, none⟩ = some (.slice none 0 0) := by rw [cell_of_block t1]; rfl
    have ar5 : w3.cell? ⟨w.heap.size + 1, 5, none⟩ = some (.slice none 0 0) := by rw [cell_of_block t1]; rfl
    have af0 : ∀ i, w3.frozen? ⟨w.heap.size, i, none⟩ = false := frozen_of_block t0
    have af1 : ∀ i, w3.frozen? ⟨w.heap.size + 1, i, none⟩ = false := frozen_of_block t1
    have bd0 : (w3.setCell ⟨w.heap.size, 4, none⟩ (.slice (some ⟨gL, 0, none⟩) l.length l.length)).cell? ⟨w.heap.size, 0, none⟩ = some (.int .i64 k) := by rw [cell_of_block u0]; rfl
    have bd1 : (w3.setCell ⟨w.heap.size, 4, none⟩ (.slice (some ⟨gL, 0, none⟩) l.length l.length)).cell? ⟨w.heap.size, 1, none⟩ = some (.bool b) := by rw [cell_of_block u0]; rfl
    have bd2 : (w3.setCell ⟨w.heap.size, 4, none⟩ (.slice (some ⟨gL, 0, none⟩) l.length l.length)).cell? ⟨w.heap.size, 2, none⟩ = some (.int .i64 i) := by rw [cell_of_block u0]; rfl
    have bd3 : (w3.setCell ⟨w.heap.size, 4, none⟩ (.slice (some ⟨gL, 0, none⟩) l.length l.length)).cell? ⟨w.heap.size, 3, none⟩ = some (.string s) := by rw [cell_of_block u0]; rfl
    have bd4 : (w3.setCell ⟨w.heap.size, 4, none⟩ (.slice (some ⟨gL, 0, none⟩) l.length l.length)).cell? ⟨w.heap.size, 4, none⟩ = some (.slice (some ⟨gL, 0, none⟩) l.length l.length) := by rw [cell_of_block u0]; rfl
    have bd5 : (w3.setCell ⟨w.heap.size, 4, none⟩ (.slice (some ⟨gL, 0, none⟩) l.length l.length)).cell? ⟨w.heap.size, 5, none⟩ = some (.slice am m.length cm) := by rw [cell_of_block u0]; rfl
    have br0 : (w3.setCell ⟨w.heap.size, 4, none⟩ (.slice (some ⟨gL, 0, none⟩) l.length l.length)).cell? ⟨w.heap.size + 1, 0, none⟩ = some (.int .i64 0) := by rw [cell_of_block u1]; rfl
    have br1 : (w3.setCell ⟨w.heap.size, 4, none⟩ (.slice (some ⟨gL, 0, none⟩) l.length l.length)).cell? ⟨w.heap.size + 1, 1, none⟩ = some (.bool false) := by rw [cell_of_block u1]; rfl
    have br2 : (w3.setCell ⟨w.heap.size, 4, none⟩ (.slice (some ⟨gL, 0, none⟩) l.length l.length)).cell? ⟨w.heap.size + 1, 2, none⟩ = some (.int .i64 0) := by rw [cell_of_block u1]; rfl
    have br3 : (w3.setCell ⟨w.heap.size, 4, none⟩ (.slice (some ⟨gL, 0, none⟩) l.length l.length)).cell? ⟨w.heap.size + 1, 3, none⟩ = some (.string ⟨#[]⟩) := by rw [cell_of_block u1]; rfl
    have br4 : (w3.setCell ⟨w.heap.size, 4, none⟩ (.slice (some ⟨gL, 0, none⟩) l.length l.length)).cell? ⟨w.heap.size + 1, 4, none⟩ = some (.slice none 0 0) := by rw [cell_of_block u1]; rfl
    have br5 : (w3.setCell ⟨w.heap.size, 4, none⟩ (.slice (some ⟨gL, 0, none⟩) l.length l.length)).cell? ⟨w.heap.size + 1, 5, none⟩ = some (.slice none 0 0) := by rw [cell_of_block u1]; rfl
    have bf0 : ∀ i, (w3.setCell ⟨w.heap.size, 4, none⟩ (.slice (some ⟨gL, 0, none⟩) l.length l.length)).frozen? ⟨w.heap.size, i, none⟩ = false := frozen_of_block u0
    have bf1 : ∀ i, (w3.setCell ⟨w.heap.size, 4, none⟩ (.slice (some ⟨gL, 0, none⟩) l.length l.length)).frozen? ⟨w.heap.size + 1, i, none⟩ = false := frozen_of_block u1
    by_cases e2 : m.length = 0
    · obtain rfl : m = [] := List.length_eq_zero_iff.1 e2
      have x0 : ((w3.setCell ⟨w.heap.size, 4, none⟩ (.slice (some ⟨gL, 0, none⟩) l.length l.length)).setCell ⟨w.heap.size, 5, none⟩ (.slice none 0 0)).heap[w.heap.size]? = some (.cells #[.int .i64 k, .bool b, .int .i64 i, .string s, .slice (some ⟨gL, 0, none⟩) l.length l.length, .slice none 0 0] 25 (0, 0)) := by rw [set_block u0]; rfl
      have x1 := (set_other (w := w3.setCell ⟨w.heap.size, 4, none⟩ (.slice (some ⟨gL, 0, none⟩) l.length l.length)) (g := w.heap.size) (o := 5) (u := .slice none 0 0) (x := w.heap.size + 1) (by omega)).trans u1
      have cd0 : ((w3.setCell ⟨w.heap.size, 4, none⟩ (.slice (some ⟨gL, 0, none⟩) l.length l.length)).setCell ⟨w.heap.size, 5, none⟩ (.slice none 0 0)).cell? ⟨w.heap.size, 0, none⟩ = some (.int .i64 k) := by rw [cell_of_block x0]; rfl
      have cd1 : ((w3.setCell ⟨w.heap.size, 4, none⟩ (.slice (some ⟨gL, 0, none⟩) l.length l.length)).setCell ⟨w.heap.size, 5, none⟩ (.slice none 0 0)).cell? ⟨w.heap.size, 1, none⟩ = some (.bool b) := by rw [cell_of_block x0]; rfl
      have cd2 : ((w3.setCell ⟨w.heap.size, 4, none⟩ (.slice (some ⟨gL, 0, none⟩) l.length l.length)).setCell ⟨w.heap.size, 5, none⟩ (.slice none 0 0)).cell? ⟨w.heap.size, 2, none⟩ = some (.int .i64 i) := by rw [cell_of_block x0]; rfl
      have cd3 : ((w3.setCell ⟨w.heap.size, 4, none⟩ (.slice (some ⟨gL, 0, none⟩) l.length l.length)).setCell ⟨w.heap.size, 5, none⟩ (.slice none 0 0)).cell? ⟨w.heap.size, 3, none⟩ = some (.string s) := by rw [cell_of_block x0]; rfl
      have cd4 : ((w3.setCell ⟨w.heap.size, 4, none⟩ (.slice (some ⟨gL, 0, none⟩) l.length l.length)).setCell ⟨w.heap.size, 5, none⟩ (.slice none 0 0)).cell? ⟨w.heap.size, 4, none⟩ = some (.slice (some ⟨gL, 0, none⟩) l.length l.length) := by rw [cell_of_block x0]; rfl
      have cd5 : ((w3.setCell ⟨w.heap.size, 4, none⟩ (.slice (some ⟨gL, 0, none⟩) l.length l.length)).setCell ⟨w.heap.size, 5, none⟩ (.slice none 0 0)).cell? ⟨w.heap.size, 5, none⟩ = some (.slice none 0 0) := by rw [cell_of_block x0]; rfl
      have cr0 : ((w3.setCell ⟨w.heap.size, 4, none⟩ (.slice (some ⟨gL, 0, none⟩) l.length l.length)).setCell ⟨w.heap.size, 5, none⟩ (.slice none 0 0)).cell? ⟨w.heap.size + 1, 0, none⟩ = some (.int .i64 0) := by rw [cell_of_block x1]; rfl
      have cr1 : ((w3.setCell ⟨w.heap.size, 4, none⟩ (.slice (some ⟨gL, 0, none⟩) l.length l.length)).setCell ⟨w.heap.size, 5, none⟩ (.slice none 0 0)).cell? ⟨w.heap.size + 1, 1, none⟩ = some (.bool false) := by rw [cell_of_block x1]; rfl
      have cr2 : ((w3.setCell ⟨w.heap.size, 4, none⟩ (.slice (some ⟨gL, 0, none⟩) l.length l.length)).setCell ⟨w.heap.size, 5, none⟩ (.slice none 0 0)).cell? ⟨w.heap.size + 1, 2, none⟩ = some (.int .i64 0) := by rw [cell_of_block x1]; rfl
      have cr3 : ((w3.setCell ⟨w.heap.size, 4, none⟩ (.slice (some ⟨gL, 0, none⟩) l.length l.length)).setCell ⟨w.heap.size, 5, none⟩ (.slice none 0 0)).cell? ⟨w.heap.size + 1, 3, none⟩ = some (.string ⟨#[]⟩) := by rw [cell_of_block x1]; rfl
      have cr4 : ((w3.setCell ⟨w.heap.size, 4, none⟩ (.slice (some ⟨gL, 0, none⟩) l.length l.length)).setCell ⟨w.heap.size, 5, none⟩ (.slice none 0 0)).cell? ⟨w.heap.size + 1, 4, none⟩ = some (.slice none 0 0) := by rw [cell_of_block x1]; rfl
      have cr5 : ((w3.setCell ⟨w.heap.size, 4, none⟩ (.slice (some ⟨gL, 0, none⟩) l.length l.length)).setCell ⟨w.heap.size, 5, none⟩ (.slice none 0 0)).cell? ⟨w.heap.size + 1, 5, none⟩ = some (.slice none 0 0) := by rw [cell_of_block x1]; rfl
      have cf0 : ∀ i, ((w3.setCell ⟨w.heap.size, 4, none⟩ (.slice (some ⟨gL, 0, none⟩) l.length l.length)).setCell ⟨w.heap.size, 5, none⟩ (.slice none 0 0)).frozen? ⟨w.heap.size, i, none⟩ = false := frozen_of_block x0
      have cf1 : ∀ i, ((w3.setCell ⟨w.heap.size, 4, none⟩ (.slice (some ⟨gL, 0, none⟩) l.length l.length)).setCell ⟨w.heap.size, 5, none⟩ (.slice none 0 0)).frozen? ⟨w.heap.size + 1, i, none⟩ = false := frozen_of_block x1
      have HLx : Hid (LA l gL (w.heap.size + 2) H3 ((w3.setCell ⟨w.heap.size, 4, none⟩ (.slice (some ⟨gL, 0, none⟩) l.length l.length)).setCell ⟨w.heap.size, 5, none⟩ (.slice none 0 0))) := HL4.out.set (by omega) _ _
      have HBx : Hid (Below w.heap.size w ((w3.setCell ⟨w.heap.size, 4, none⟩ (.slice (some ⟨gL, 0, none⟩) l.length l.length)).setCell ⟨w.heap.size, 5, none⟩ (.slice none 0 0))) := HB.out.setCell (p := ⟨w.heap.size, 5, none⟩) (Nat.le_refl _) _
      clear HB HL4
      have HB := HBx
      clear t0 t1 u0 u1 x0 x1
      go_wp2_with fail
      (try simp only [Exit.inBlock, Exit.then])
      refine bodyPost_ret (v := .agg #[.int .i64 k, .bool b, .int .i64 i, .string s, .slice (some ⟨gL, 0, none⟩) l.length l.length, .slice none 0 0]) (by rw [results_cell1 rfl]; go_simp) rfl ?_
      exact ap_L0 hk hi hs hlm (by omega) (HLx.out.set6 (by omega) _ _ _ _ _ _ _ _ _ _ _ _) (Below.set6 HB.out (by omega) _ _ _ _ _ _ _ _ _ _ _ _)
    · have y2 : ¬ (m.length : Int) = 0 := by omega
      clear t0 t1
      go_wp2_with fail
      generalize (w3.setCell ⟨w.heap.size, 4, none⟩ (.slice (some ⟨gL, 0, none⟩) l.length l.length)) = w4 at *
      refine (CM.out w4 HB.out).mono ?_
      rintro e w5 ⟨gM, rfl, hl5, b5⟩
      have hz5 := b5.size
      have t0 := (b5.block w.heap.size (by omega)).trans u0
      have t1 := (b5.block (w.heap.size + 1) (by omega)).trans u1
      obtain ⟨H5, hH5⟩ : ∃ H, w5.heap.size = H := ⟨_, rfl⟩
      have h3le : w.heap.size + 2 ≤ H3 := by obtain ⟨x1, a1, a2, a3, a4, a5⟩ := HL4.out; omega
      have HM : Hid (MA m gM H3 H5 w5) := by show MA _ _ _ _ _; rw [← hH5, ← HZ4.out]; exact hl5
      clear hH5 HZ4
      have HL5 : Hid (LA l gL (w.heap.size + 2) H3 w5) := HL4.out.below b5
      have HB5 : Hid (Below w.heap.size w w5) := HB.out.trans (b5.mono (by omega))
      clear HB HL4
      have HB := HB5
      have u0' : (w5.setCell ⟨w.heap.size, 5, none⟩ (.slice (some ⟨gM, 0, none⟩) m.length m.length)).heap[w.heap.size]? = some (.cells #[.int .i64 k, .bool b, .int .i64 i, .string s, .slice (some ⟨gL, 0, none⟩) l.length l.length, .slice (some ⟨gM, 0, none⟩) m.length m.length] 25 (0, 0)) := by rw [set_block t0]; rfl
      have u1' := (set_other (w := w5) (g := w.heap.size) (o := 5) (u := .slice (some ⟨gM, 0, none⟩) m.length m.length) (x := w.heap.size + 1) (by omega)).trans t1
      clear ad0 ar0 ad1 ar1 ad2 ar2 ad3 ar3 ad4 ar4 ad5 ar5 af0 af1
      clear bd0 br0 bd1 br1 bd2 br2 bd3 br3 bd4 br4 bd5 br5 bf0 bf1
      have ad0 : w5.cell? ⟨w.heap.size, 0, none⟩ = some (.int .i64 k) := by rw [cell_of_block t0]; rfl
      have ad1 : w5.cell? ⟨w.heap.size, 1, none⟩ = some (.bool b) := by rw [cell_of_block t0]; rfl
      have ad2 : w5.cell? ⟨w.heap.size, 2, none⟩ = some (.int .i64 i) := by rw [cell_of_block t0]; rfl
      have ad3 : w5.cell? ⟨w.heap.size, 3, none⟩ = some (.string s) := by rw [cell_of_block t0]; rfl
      have ad4 : w5.cell? ⟨w.heap.size, 4, none⟩ = some (.slice (some ⟨gL, 0, none⟩) l.length l.length) := by rw [cell_of_block t0]; rfl
      have ad5 : w5.cell? ⟨w.heap.size, 5, none⟩ = some (.slice am m.length cm) := by rw [cell_of_block t0]; rfl
      have ar0 : w5.cell? ⟨w.heap.size + 1, 0, none⟩ = some (.int .i64 0) := by rw [cell_of_block t1]; rfl
      have ar1 : w5.cell? ⟨w.heap.size + 1, 1, none⟩ = some (.bool false) := by rw [cell_of_block t1]; rfl
      have ar2 : w5.cell? ⟨w.heap.size + 1, 2, none⟩ = some (.int .i64 0) := by rw [cell_of_block t1]; rfl
      have ar3 : w5.cell? ⟨w.heap.size + 1, 3, none⟩ = some (.string ⟨#[]⟩) := by rw [cell_of_block t1]; rfl
      have ar4 : w5.cell? ⟨w.heap.size + 1, 4, none⟩ = some (.slice none 0 0) := by rw [cell_of_block t1]; rfl
      have ar5 : w5.cell? ⟨w.heap.size + 1, 5, none⟩ = some (.slice none 0 0) := by rw [cell_of_block t1]; rfl
      have af0 : ∀ i, w5.frozen? ⟨w.heap.size, i, none⟩ = false := frozen_of_block t0
      have af1 : ∀ i, w5.frozen? ⟨w.heap.size + 1, i, none⟩ = false := frozen_of_block t1
      have bd0 : (w5.setCell ⟨w.heap.size, 5, none⟩ (.slice (some ⟨gM, 0, none⟩) m.length m.length)).cell? ⟨w.heap.size, 0, none⟩ = some (.int .i64 k) := by rw [cell_of_block u0']; rfl
      have bd1 : (w5.setCell ⟨w.heap.size, 5, none⟩ (.slice (some ⟨gM, 0, none⟩) m.length m.length)).cell? ⟨w.heap.size, 1, none⟩ = some (.bool b) := by rw [cell_of_block u0']; rfl
      have bd2 : (w5.setCell ⟨w.heap.size, 5, none⟩ (.slice (some ⟨gM, 0, none⟩) m.length m.length)).cell? ⟨w.heap.size, 2, none⟩ = some (.int .i64 i) := by rw [cell_of_block u0']; rfl
      have bd3 : (w5.setCell ⟨w.heap.size, 5, none⟩ (.slice (some ⟨gM, 0, none⟩) m.length m.length)).cell? ⟨w.heap.size, 3, none⟩ = some (.string s) := by rw [cell_of_block u0']; rfl
      have bd4 : (w5.setCell ⟨w.heap.size, 5, none⟩ (.slice (some ⟨gM, 0, none⟩) m.length m.length)).cell? ⟨w.heap.size, 4, none⟩ = some (.slice (some ⟨gL, 0, none⟩) l.length l.length) := by rw [cell_of_block u0']; rfl
      have bd5 : (w5.setCell ⟨w.heap.size, 5, none⟩ (.slice (some ⟨gM, 0, none⟩) m.length m.length)).cell? ⟨w.heap.size, 5, none⟩ = some (.slice (some ⟨gM, 0, none⟩) m.length m.length) := by rw [cell_of_block u0']; rfl
      have br0 : (w5.setCell ⟨w.heap.size, 5, none⟩ (.slice (some ⟨gM, 0, none⟩) m.length m.length)).cell? ⟨w.heap.size + 1, 0, none⟩ = some (.int .i64 0) := by rw [cell_of_block u1']; rfl
      have br1 : (w5.setCell ⟨w.heap.size, 5, none⟩ (.slice (some ⟨gM, 0, none⟩) m.length m.length)).cell? ⟨w.heap.size + 1, 1, none⟩ = some (.bool false) := by rw [cell_of_block u1']; rfl
      have br2 : (w5.setCell ⟨w.heap.size, 5, none⟩ (.slice (some ⟨gM, 0, none⟩) m.length m.length)).cell? ⟨w.heap.size + 1, 2, none⟩ = some (.int .i64 0) := by rw [cell_of_block u1']; rfl
      have br3 : (w5.setCell ⟨w.heap.size, 5, none⟩ (.slice (some ⟨gM, 0, none⟩) m.length m.length)).cell? ⟨w.heap.size + 1, 3, none⟩ = some (.string ⟨#[]⟩) := by rw [cell_of_block u1']; rfl
      have br4 : (w5.setCell ⟨w.heap.size, 5, none⟩ (.slice (some ⟨gM, 0, none⟩) m.length m.length)).cell? ⟨w.heap.size + 1, 4, none⟩ = some (.slice none 0 0) := by rw [cell_of_block u1']; rfl
      have br5 : (w5.setCell ⟨w.heap.size, 5, none⟩ (.slice (some ⟨gM, 0, none⟩) m.length m.length)).cell? ⟨w.heap.size + 1, 5, none⟩ = some (.slice none 0 0) := by rw [cell_of_block u1']; rfl
      have bf0 : ∀ i, (w5.setCell ⟨w.heap.size, 5, none⟩ (.slice (some ⟨gM, 0, none⟩) m.length m.length)).frozen? ⟨w.heap.size, i, none⟩ = false := frozen_of_block u0'
      have bf1 : ∀ i, (w5.setCell ⟨w.heap.size, 5, none⟩ (.slice (some ⟨gM, 0, none⟩) m.length m.length)).frozen? ⟨w.heap.size + 1, i, none⟩ = false := frozen_of_block u1'
      have HMx : Hid (MA m gM H3 H5 (w5.setCell ⟨w.heap.size, 5, none⟩ (.slice (some ⟨gM, 0, none⟩) m.length m.length))) := HM.out.set (by omega) _ _
      have HLx : Hid (LA l gL (w.heap.size + 2) H3 (w5.setCell ⟨w.heap.size, 5, none⟩ (.slice (some ⟨gM, 0, none⟩) m.length m.length))) := HL5.out.set (by omega) _ _
      have HBx : Hid (Below w.heap.size w (w5.setCell ⟨w.heap.size, 5, none⟩ (.slice (some ⟨gM, 0, none⟩) m.length m.length))) := HB.out.setCell (p := ⟨w.heap.size, 5, none⟩) (Nat.le_refl _) _
      clear HB HB5 HM HL5
      have HB := HBx
      clear t0 t1 u0 u1 u0' u1' hl5 b5
      go_wp2_with fail
      (try simp only [Exit.inBlock, Exit.then])
      refine bodyPost_ret (v := .agg #[.int .i64 k, .bool b, .int .i64 i, .string s, .slice (some ⟨gL, 0, none⟩) l.length l.length, .slice (some ⟨gM, 0, none⟩) m.length m.length]) (by rw [results_cell1 rfl]; go_simp) rfl ?_
      exact ap_LM hk hi hs hlm hmm (by omega) (HLx.out.set6 (by omega) _ _ _ _ _ _ _ _ _ _ _ _) (HMx.out.set6 (by omega) _ _ _ _ _ _ _ _ _ _ _ _) (Nat.le_refl _) (Below.set6 HB.out (by omega) _ _ _ _ _ _ _ _ _ _ _ _)
end Go.Proofs.YthgfomblodhoaaaDoor
