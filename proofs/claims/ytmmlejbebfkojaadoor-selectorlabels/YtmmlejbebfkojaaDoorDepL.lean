import Derived.Test.YtmmlejbebfkojaaDoorLabA
/- deep. -/
set_option linter.unusedSimpArgs false
set_option linter.unusedVariables false
namespace Go.Proofs.YtmmlejbebfkojaaDoor
open Go.RowKit Go.Lib
/-- a number within so many lists -/
def nestV (n : Int) : Nat → V
  | 0 => .mk 2 false n ⟨#[]⟩ [] []
  | j + 1 => .mk 4 false 0 ⟨#[]⟩ [nestV n j] []
theorem nest_wt (n : Int) (j : Nat) : (nestV n j).wt = 1 + j := by
  induction j with
  | zero => unfold nestV; simp [V.wt, wtL, wtM]; decide
  | succ j ih =>
    unfold nestV
    rw [V.wt, wtL, wtL, wtM, ih]
    have : (ByteArray.mk #[]).size = 0 := by decide
    omega
abbrev cV : V := .mk 3 false 0 ⟨#[99]⟩ [] []
abbrev bM : Mem := (⟨#[98]⟩, cV)
abbrev laV : V := .mk 5 false 0 ⟨#[]⟩ [] [bM]
def deepV (x : V) : V := .mk 5 false 0 ⟨#[]⟩ [] [(⟨#[97]⟩, x), (lbK, laV)]
theorem deep_wt (x : V) : (deepV x).wt = x.wt + 12 := by
  unfold deepV
  have h0 : (ByteArray.mk #[]).size = 0 := by decide
  have h1 : (ByteArray.mk #[97]).size = 1 := by decide
  have h2 : (ByteArray.mk #[98]).size = 1 := by decide
  have h3 : (ByteArray.mk #[99]).size = 1 := by decide
  have h4 : lbK.size = 6 := by decide
  simp only [V.wt, wtL, wtM, h0, h1, h2, h3, h4]
  omega
theorem deep_lab (x : V) : labV (deepV x) = [] ∨ labV (deepV x) = [bM] := by
  unfold labV
  split
  · unfold undr getV
    split
    · rename_i h
      have hs : Srt [((⟨#[97]⟩ : ByteArray), x), (lbK, laV)] := srt_ok h
      have ha : atKey (memsOf (deepV x)) lbK = (laV, true) := at_hit (j := 1) hs (by simp) rfl
      rw [ha]
      exact .inr rfl
    · exact .inl rfl
  · exact .inl rfl
theorem headed_at {g n : Nat} (h : n ≤ 100) : Headed (some ⟨g, 0, none⟩) n n g 0 := ⟨Nat.le_refl _, by unfold maxLen; omega, .inr rfl, fun h => by cases h⟩
theorem row_left {w : World} {b : Nat} {A B : List Value} {t : TypeId} {fz : Nat × Nat} (h : w.heap[b]? = some (.cells (A ++ B).toArray t fz)) : rowAt w b 0 A := fun j u hu => by
  rw [Nat.zero_add, cell_of_block h, List.getElem?_toArray, List.getElem?_append_left (List.getElem?_eq_some_iff.1 hu).1]
  exact hu
theorem row_right {w : World} {b : Nat} {A B : List Value} {t : TypeId} {fz : Nat × Nat} (h : w.heap[b]? = some (.cells (A ++ B).toArray t fz)) : rowAt w b A.length B := fun j u hu => by
  rw [cell_of_block h, List.getElem?_toArray, List.getElem?_append_right (by omega), Nat.add_sub_cancel_left]
  exact hu
set_option maxHeartbeats 8000000 in
set_option maxRecDepth 100000 in
theorem deep_any (n : Nat) (hn : n ≤ 40) (w : World) (tb : Tb w) : Calls Tryd.prog 5 #[.int .i64 (n : Int)] w (BPost true w) := by
  have HB : Hid (∀ W, Below w.heap.size w W → Tb W) := fun W hb => tb.below hb tb.z
  have b0 := (Below.refl w.heap.size w).alloc (Nat.le_refl _) (.cells #[.int .i64 2, .bool false, .int .i64 (n : Int), .string ⟨#[]⟩, .slice none 0 0, .slice none 0 0] 25)
  have hX := heap_alloc_new w (.cells #[.int .i64 2, .bool false, .int .i64 (n : Int), .string ⟨#[]⟩, .slice none 0 0, .slice none 0 0] 25)
  have hin : In64 (n : Int) := by constructor <;> omega
  clear tb
  go_enter Tryd.func5, Tryd.ntmps5
  go_wp2_with fail
  generalize (w.alloc (.cells #[.int .i64 2, .bool false, .int .i64 (n : Int), .string ⟨#[]⟩, .slice none 0 0, .slice none 0 0] 25)) = w0 at *
  go_loopw [4] (fun e4 wr => ∃ (j : Nat) (k : Int) (i : Int) (al : Option Addr) (nl cl : Nat), j ≤ n ∧ e4 = .int .i64 (j : Int) ∧ Below w.heap.size w wr ∧ Hid (wr.heap[w.heap.size]? = some (.cells #[.int .i64 k, .bool false, .int .i64 i, .string ⟨#[]⟩, .slice al nl cl, .slice none 0 0] 25)) ∧ Hid ((nestV (n : Int) j).lies false wr (fun b => w.heap.size < b ∧ b < wr.heap.size) [.int .i64 k, .bool false, .int .i64 i, .string ⟨#[]⟩, .slice al nl cl, .slice none 0 0])) (fun e4 _ => n - (RowKit.intOf e4).toNat)
  case atStart =>
    refine ⟨0, 2, n, none, 0, 0, by omega, rfl, b0, hX, ?_⟩
    show (V.mk 2 false (n : Int) ⟨#[]⟩ [] []).lies false _ _ _
    exact lies_S (by constructor <;> omega) hin (by decide) headed_nil headed_nil (by rw [liesL]; trivial) (by rw [liesM]; trivial)
  case round =>
    clear b0 hX
    obtain ⟨j, k, i, al, nl, cl, hj, rfl, Bj, HX, HL⟩ := hrel
    have hzr := lt_blk HX.out
    obtain ⟨r0, r1, r2, r3, r4, r5⟩ := row6z (cs_row HX.out)
    by_cases hjn : (j : Int) < (n : Int)
    · have fX : ∀ ii, wr.frozen? ⟨w.heap.size, ii, none⟩ = false := frozen_of_block HX.out
      go_wp2_with fail
      clear r0 r1 r2 r3 r4 r5 fX
      go_roundw
      case rel =>
        have hoff : ∀ b, b ≠ w.heap.size → ((((((wr.setCell ⟨w.heap.size, 0, none⟩ (.int .i64 4)).setCell ⟨w.heap.size, 1, none⟩ (.bool false)).setCell ⟨w.heap.size, 2, none⟩ (.int .i64 0)).setCell ⟨w.heap.size, 3, none⟩ (.string ⟨#[]⟩)).setCell ⟨w.heap.size, 4, none⟩ (.slice (some ⟨wr.heap.size, 0, none⟩) 1 1)).setCell ⟨w.heap.size, 5, none⟩ (.slice none 0 0)).heap[b]? = wr.heap[b]? := fun b hb => (((((set_other hb).trans (set_other hb)).trans (set_other hb)).trans (set_other hb)).trans (set_other hb)).trans (set_other hb)
        have hbox := set_block (set_block (set_block (set_block (set_block (set_block HX.out 0 (.int .i64 4)) 1 (.bool false)) 2 (.int .i64 0)) 3 (.string ⟨#[]⟩)) 4 (.slice (some ⟨wr.heap.size, 0, none⟩) 1 1)) 5 (.slice none 0 0)
        have hsz : ((((((wr.setCell ⟨w.heap.size, 0, none⟩ (.int .i64 4)).setCell ⟨w.heap.size, 1, none⟩ (.bool false)).setCell ⟨w.heap.size, 2, none⟩ (.int .i64 0)).setCell ⟨w.heap.size, 3, none⟩ (.string ⟨#[]⟩)).setCell ⟨w.heap.size, 4, none⟩ (.slice (some ⟨wr.heap.size, 0, none⟩) 1 1)).setCell ⟨w.heap.size, 5, none⟩ (.slice none 0 0)).heap.size = wr.heap.size := by simp [World.setCell]
        have hB6 : Below w.heap.size w ((((((wr.setCell ⟨w.heap.size, 0, none⟩ (.int .i64 4)).setCell ⟨w.heap.size, 1, none⟩ (.bool false)).setCell ⟨w.heap.size, 2, none⟩ (.int .i64 0)).setCell ⟨w.heap.size, 3, none⟩ (.string ⟨#[]⟩)).setCell ⟨w.heap.size, 4, none⟩ (.slice (some ⟨wr.heap.size, 0, none⟩) 1 1)).setCell ⟨w.heap.size, 5, none⟩ (.slice none 0 0)) := Below.set6 Bj (by omega) _ _ _ _ _ _ _ _ _ _ _ _
        have hL6 : (nestV (n : Int) j).lies false ((((((wr.setCell ⟨w.heap.size, 0, none⟩ (.int .i64 4)).setCell ⟨w.heap.size, 1, none⟩ (.bool false)).setCell ⟨w.heap.size, 2, none⟩ (.int .i64 0)).setCell ⟨w.heap.size, 3, none⟩ (.string ⟨#[]⟩)).setCell ⟨w.heap.size, 4, none⟩ (.slice (some ⟨wr.heap.size, 0, none⟩) 1 1)).setCell ⟨w.heap.size, 5, none⟩ (.slice none 0 0)) (fun b => w.heap.size < b ∧ b < wr.heap.size) [.int .i64 k, .bool false, .int .i64 i, .string ⟨#[]⟩, .slice al nl cl, .slice none 0 0] := V.lies_keep (fun h => h) (fun b hb => hoff b (by have := hb.1; omega)) (fun _ h => h) _ HL.out
        clear hoff
        generalize ((((((wr.setCell ⟨w.heap.size, 0, none⟩ (.int .i64 4)).setCell ⟨w.heap.size, 1, none⟩ (.bool false)).setCell ⟨w.heap.size, 2, none⟩ (.int .i64 0)).setCell ⟨w.heap.size, 3, none⟩ (.string ⟨#[]⟩)).setCell ⟨w.heap.size, 4, none⟩ (.slice (some ⟨wr.heap.size, 0, none⟩) 1 1)).setCell ⟨w.heap.size, 5, none⟩ (.slice none 0 0)) = w6 at *
        have hA6 := (Below.refl w6.heap.size w6).alloc (Nat.le_refl _) (.cells #[.int .i64 k, .bool false, .int .i64 i, .string ⟨#[]⟩, .slice al nl cl, .slice none 0 0] 25)
        have hY : (w6.alloc (.cells #[.int .i64 k, .bool false, .int .i64 i, .string ⟨#[]⟩, .slice al nl cl, .slice none 0 0] 25)).heap[wr.heap.size]? = some (.cells #[.int .i64 k, .bool false, .int .i64 i, .string ⟨#[]⟩, .slice al nl cl, .slice none 0 0] 25) := by rw [← hsz]; exact heap_alloc_new w6 _
        have hza := alloc_size w6 (.cells #[.int .i64 k, .bool false, .int .i64 i, .string ⟨#[]⟩, .slice al nl cl, .slice none 0 0] 25)
        refine ⟨j + 1, 4, 0, some ⟨wr.heap.size, 0, none⟩, 1, 1, by omega, by go_num, hB6.alloc (by omega) _, (hA6.block _ (by omega)).trans hbox, ?_⟩
        have hin2 : liesL false (w6.alloc (.cells #[.int .i64 k, .bool false, .int .i64 i, .string ⟨#[]⟩, .slice al nl cl, .slice none 0 0] 25)) (fun b => w.heap.size < b ∧ b < (w6.alloc (.cells #[.int .i64 k, .bool false, .int .i64 i, .string ⟨#[]⟩, .slice al nl cl, .slice none 0 0] 25)).heap.size) [nestV (n : Int) j] wr.heap.size 0 := by
          rw [liesL, liesL]
          exact ⟨⟨by omega, by omega⟩, ⟨_, cs_row hY, V.lies_keep (fun h => h) (fun b hb => hA6.block b (by have := hb.2; omega)) (fun b hb => ⟨hb.1, by have := hb.2; omega⟩) _ hL6⟩, trivial⟩
        show (V.mk 4 false 0 ⟨#[]⟩ [nestV (n : Int) j] []).lies false _ _ _
        exact lies_S (by constructor <;> omega) (by constructor <;> omega) (by decide) (headed_at (by omega)) headed_nil hin2 (by rw [liesM]; trivial)
      case measure => simp [RowKit.intOf]; omega
    · obtain rfl : j = n := by omega
      have hz1 := alloc_size wr (.cells #[.string ⟨#[98]⟩, .int .i64 3, .bool false, .int .i64 0, .string ⟨#[99]⟩, .slice none 0 0, .slice none 0 0] 32)
      have hz2 := alloc_size (wr.alloc (.cells #[.string ⟨#[98]⟩, .int .i64 3, .bool false, .int .i64 0, .string ⟨#[99]⟩, .slice none 0 0, .slice none 0 0] 32)) (.cells #[.string ⟨#[97]⟩, .int .i64 k, .bool false, .int .i64 i, .string ⟨#[]⟩, .slice al nl cl, .slice none 0 0, .string lbK, .int .i64 5, .bool false, .int .i64 0, .string ⟨#[]⟩, .slice none 0 0, .slice (some ⟨wr.heap.size, 0, none⟩) 1 1] 32)
      have hz3 := alloc_size ((wr.alloc (.cells #[.string ⟨#[98]⟩, .int .i64 3, .bool false, .int .i64 0, .string ⟨#[99]⟩, .slice none 0 0, .slice none 0 0] 32)).alloc (.cells #[.string ⟨#[97]⟩, .int .i64 k, .bool false, .int .i64 i, .string ⟨#[]⟩, .slice al nl cl, .slice none 0 0, .string lbK, .int .i64 5, .bool false, .int .i64 0, .string ⟨#[]⟩, .slice none 0 0, .slice (some ⟨wr.heap.size, 0, none⟩) 1 1] 32)) (.cells #[.int .i64 5, .bool false, .int .i64 0, .string ⟨#[]⟩, .slice none 0 0, .slice (some ⟨wr.heap.size + 1, 0, none⟩) 2 2] 25)
      have a1 : Below wr.heap.size wr (wr.alloc (.cells #[.string ⟨#[98]⟩, .int .i64 3, .bool false, .int .i64 0, .string ⟨#[99]⟩, .slice none 0 0, .slice none 0 0] 32)) := (Below.refl _ _).alloc (Nat.le_refl _) _
      have a2 : Below (wr.heap.size + 1) (wr.alloc (.cells #[.string ⟨#[98]⟩, .int .i64 3, .bool false, .int .i64 0, .string ⟨#[99]⟩, .slice none 0 0, .slice none 0 0] 32)) ((wr.alloc (.cells #[.string ⟨#[98]⟩, .int .i64 3, .bool false, .int .i64 0, .string ⟨#[99]⟩, .slice none 0 0, .slice none 0 0] 32)).alloc (.cells #[.string ⟨#[97]⟩, .int .i64 k, .bool false, .int .i64 i, .string ⟨#[]⟩, .slice al nl cl, .slice none 0 0, .string lbK, .int .i64 5, .bool false, .int .i64 0, .string ⟨#[]⟩, .slice none 0 0, .slice (some ⟨wr.heap.size, 0, none⟩) 1 1] 32)) := (Below.refl _ _).alloc (by omega) _
      have a3 : Below (wr.heap.size + 1 + 1) ((wr.alloc (.cells #[.string ⟨#[98]⟩, .int .i64 3, .bool false, .int .i64 0, .string ⟨#[99]⟩, .slice none 0 0, .slice none 0 0] 32)).alloc (.cells #[.string ⟨#[97]⟩, .int .i64 k, .bool false, .int .i64 i, .string ⟨#[]⟩, .slice al nl cl, .slice none 0 0, .string lbK, .int .i64 5, .bool false, .int .i64 0, .string ⟨#[]⟩, .slice none 0 0, .slice (some ⟨wr.heap.size, 0, none⟩) 1 1] 32)) (((wr.alloc (.cells #[.string ⟨#[98]⟩, .int .i64 3, .bool false, .int .i64 0, .string ⟨#[99]⟩, .slice none 0 0, .slice none 0 0] 32)).alloc (.cells #[.string ⟨#[97]⟩, .int .i64 k, .bool false, .int .i64 i, .string ⟨#[]⟩, .slice al nl cl, .slice none 0 0, .string lbK, .int .i64 5, .bool false, .int .i64 0, .string ⟨#[]⟩, .slice none 0 0, .slice (some ⟨wr.heap.size, 0, none⟩) 1 1] 32)).alloc (.cells #[.int .i64 5, .bool false, .int .i64 0, .string ⟨#[]⟩, .slice none 0 0, .slice (some ⟨wr.heap.size + 1, 0, none⟩) 2 2] 25)) := (Below.refl _ _).alloc (by omega) _
      have k1 : (((wr.alloc (.cells #[.string ⟨#[98]⟩, .int .i64 3, .bool false, .int .i64 0, .string ⟨#[99]⟩, .slice none 0 0, .slice none 0 0] 32)).alloc (.cells #[.string ⟨#[97]⟩, .int .i64 k, .bool false, .int .i64 i, .string ⟨#[]⟩, .slice al nl cl, .slice none 0 0, .string lbK, .int .i64 5, .bool false, .int .i64 0, .string ⟨#[]⟩, .slice none 0 0, .slice (some ⟨wr.heap.size, 0, none⟩) 1 1] 32)).alloc (.cells #[.int .i64 5, .bool false, .int .i64 0, .string ⟨#[]⟩, .slice none 0 0, .slice (some ⟨wr.heap.size + 1, 0, none⟩) 2 2] 25)).heap[wr.heap.size]? = some (.cells #[.string ⟨#[98]⟩, .int .i64 3, .bool false, .int .i64 0, .string ⟨#[99]⟩, .slice none 0 0, .slice none 0 0] 32) := ((a3.block _ (by omega)).trans (a2.block _ (by omega))).trans (heap_alloc_new wr _)
      have k2 : (((wr.alloc (.cells #[.string ⟨#[98]⟩, .int .i64 3, .bool false, .int .i64 0, .string ⟨#[99]⟩, .slice none 0 0, .slice none 0 0] 32)).alloc (.cells #[.string ⟨#[97]⟩, .int .i64 k, .bool false, .int .i64 i, .string ⟨#[]⟩, .slice al nl cl, .slice none 0 0, .string lbK, .int .i64 5, .bool false, .int .i64 0, .string ⟨#[]⟩, .slice none 0 0, .slice (some ⟨wr.heap.size, 0, none⟩) 1 1] 32)).alloc (.cells #[.int .i64 5, .bool false, .int .i64 0, .string ⟨#[]⟩, .slice none 0 0, .slice (some ⟨wr.heap.size + 1, 0, none⟩) 2 2] 25)).heap[wr.heap.size + 1]? = some (.cells #[.string ⟨#[97]⟩, .int .i64 k, .bool false, .int .i64 i, .string ⟨#[]⟩, .slice al nl cl, .slice none 0 0, .string lbK, .int .i64 5, .bool false, .int .i64 0, .string ⟨#[]⟩, .slice none 0 0, .slice (some ⟨wr.heap.size, 0, none⟩) 1 1] 32) := (a3.block _ (by omega)).trans (by rw [← hz1]; exact heap_alloc_new _ _)
      have k3 : (((wr.alloc (.cells #[.string ⟨#[98]⟩, .int .i64 3, .bool false, .int .i64 0, .string ⟨#[99]⟩, .slice none 0 0, .slice none 0 0] 32)).alloc (.cells #[.string ⟨#[97]⟩, .int .i64 k, .bool false, .int .i64 i, .string ⟨#[]⟩, .slice al nl cl, .slice none 0 0, .string lbK, .int .i64 5, .bool false, .int .i64 0, .string ⟨#[]⟩, .slice none 0 0, .slice (some ⟨wr.heap.size, 0, none⟩) 1 1] 32)).alloc (.cells #[.int .i64 5, .bool false, .int .i64 0, .string ⟨#[]⟩, .slice none 0 0, .slice (some ⟨wr.heap.size + 1, 0, none⟩) 2 2] 25)).heap[wr.heap.size + 1 + 1]? = some (.cells #[.int .i64 5, .bool false, .int .i64 0, .string ⟨#[]⟩, .slice none 0 0, .slice (some ⟨wr.heap.size + 1, 0, none⟩) 2 2] 25) := by rw [← hz1, ← hz2]; exact heap_alloc_new _ _
      have B3 : Below wr.heap.size wr (((wr.alloc (.cells #[.string ⟨#[98]⟩, .int .i64 3, .bool false, .int .i64 0, .string ⟨#[99]⟩, .slice none 0 0, .slice none 0 0] 32)).alloc (.cells #[.string ⟨#[97]⟩, .int .i64 k, .bool false, .int .i64 i, .string ⟨#[]⟩, .slice al nl cl, .slice none 0 0, .string lbK, .int .i64 5, .bool false, .int .i64 0, .string ⟨#[]⟩, .slice none 0 0, .slice (some ⟨wr.heap.size, 0, none⟩) 1 1] 32)).alloc (.cells #[.int .i64 5, .bool false, .int .i64 0, .string ⟨#[]⟩, .slice none 0 0, .slice (some ⟨wr.heap.size + 1, 0, none⟩) 2 2] 25)) := ((Below.refl _ _).alloc (Nat.le_refl _) _ |>.alloc (by omega) _).alloc (by omega) _
      have HX3 : (nestV (j : Int) j).lies false (((wr.alloc (.cells #[.string ⟨#[98]⟩, .int .i64 3, .bool false, .int .i64 0, .string ⟨#[99]⟩, .slice none 0 0, .slice none 0 0] 32)).alloc (.cells #[.string ⟨#[97]⟩, .int .i64 k, .bool false, .int .i64 i, .string ⟨#[]⟩, .slice al nl cl, .slice none 0 0, .string lbK, .int .i64 5, .bool false, .int .i64 0, .string ⟨#[]⟩, .slice none 0 0, .slice (some ⟨wr.heap.size, 0, none⟩) 1 1] 32)).alloc (.cells #[.int .i64 5, .bool false, .int .i64 0, .string ⟨#[]⟩, .slice none 0 0, .slice (some ⟨wr.heap.size + 1, 0, none⟩) 2 2] 25)) (fun b => w.heap.size < b ∧ b < (((wr.alloc (.cells #[.string ⟨#[98]⟩, .int .i64 3, .bool false, .int .i64 0, .string ⟨#[99]⟩, .slice none 0 0, .slice none 0 0] 32)).alloc (.cells #[.string ⟨#[97]⟩, .int .i64 k, .bool false, .int .i64 i, .string ⟨#[]⟩, .slice al nl cl, .slice none 0 0, .string lbK, .int .i64 5, .bool false, .int .i64 0, .string ⟨#[]⟩, .slice none 0 0, .slice (some ⟨wr.heap.size, 0, none⟩) 1 1] 32)).alloc (.cells #[.int .i64 5, .bool false, .int .i64 0, .string ⟨#[]⟩, .slice none 0 0, .slice (some ⟨wr.heap.size + 1, 0, none⟩) 2 2] 25)).heap.size) [.int .i64 k, .bool false, .int .i64 i, .string ⟨#[]⟩, .slice al nl cl, .slice none 0 0] := V.lies_keep (fun h => h) (fun b hb => B3.block b hb.2) (fun b hb => ⟨hb.1, by have := hb.2; omega⟩) _ HL.out
      have hcV : cV.lies false (((wr.alloc (.cells #[.string ⟨#[98]⟩, .int .i64 3, .bool false, .int .i64 0, .string ⟨#[99]⟩, .slice none 0 0, .slice none 0 0] 32)).alloc (.cells #[.string ⟨#[97]⟩, .int .i64 k, .bool false, .int .i64 i, .string ⟨#[]⟩, .slice al nl cl, .slice none 0 0, .string lbK, .int .i64 5, .bool false, .int .i64 0, .string ⟨#[]⟩, .slice none 0 0, .slice (some ⟨wr.heap.size, 0, none⟩) 1 1] 32)).alloc (.cells #[.int .i64 5, .bool false, .int .i64 0, .string ⟨#[]⟩, .slice none 0 0, .slice (some ⟨wr.heap.size + 1, 0, none⟩) 2 2] 25)) (fun b => w.heap.size < b ∧ b < (((wr.alloc (.cells #[.string ⟨#[98]⟩, .int .i64 3, .bool false, .int .i64 0, .string ⟨#[99]⟩, .slice none 0 0, .slice none 0 0] 32)).alloc (.cells #[.string ⟨#[97]⟩, .int .i64 k, .bool false, .int .i64 i, .string ⟨#[]⟩, .slice al nl cl, .slice none 0 0, .string lbK, .int .i64 5, .bool false, .int .i64 0, .string ⟨#[]⟩, .slice none 0 0, .slice (some ⟨wr.heap.size, 0, none⟩) 1 1] 32)).alloc (.cells #[.int .i64 5, .bool false, .int .i64 0, .string ⟨#[]⟩, .slice none 0 0, .slice (some ⟨wr.heap.size + 1, 0, none⟩) 2 2] 25)).heap.size) [.int .i64 3, .bool false, .int .i64 0, .string ⟨#[99]⟩, .slice none 0 0, .slice none 0 0] := lies_S (by constructor <;> omega) (by constructor <;> omega) (by decide) headed_nil headed_nil (by rw [liesL]; trivial) (by rw [liesM]; trivial)
      have hla : laV.lies false (((wr.alloc (.cells #[.string ⟨#[98]⟩, .int .i64 3, .bool false, .int .i64 0, .string ⟨#[99]⟩, .slice none 0 0, .slice none 0 0] 32)).alloc (.cells #[.string ⟨#[97]⟩, .int .i64 k, .bool false, .int .i64 i, .string ⟨#[]⟩, .slice al nl cl, .slice none 0 0, .string lbK, .int .i64 5, .bool false, .int .i64 0, .string ⟨#[]⟩, .slice none 0 0, .slice (some ⟨wr.heap.size, 0, none⟩) 1 1] 32)).alloc (.cells #[.int .i64 5, .bool false, .int .i64 0, .string ⟨#[]⟩, .slice none 0 0, .slice (some ⟨wr.heap.size + 1, 0, none⟩) 2 2] 25)) (fun b => w.heap.size < b ∧ b < (((wr.alloc (.cells #[.string ⟨#[98]⟩, .int .i64 3, .bool false, .int .i64 0, .string ⟨#[99]⟩, .slice none 0 0, .slice none 0 0] 32)).alloc (.cells #[.string ⟨#[97]⟩, .int .i64 k, .bool false, .int .i64 i, .string ⟨#[]⟩, .slice al nl cl, .slice none 0 0, .string lbK, .int .i64 5, .bool false, .int .i64 0, .string ⟨#[]⟩, .slice none 0 0, .slice (some ⟨wr.heap.size, 0, none⟩) 1 1] 32)).alloc (.cells #[.int .i64 5, .bool false, .int .i64 0, .string ⟨#[]⟩, .slice none 0 0, .slice (some ⟨wr.heap.size + 1, 0, none⟩) 2 2] 25)).heap.size) [.int .i64 5, .bool false, .int .i64 0, .string ⟨#[]⟩, .slice none 0 0, .slice (some ⟨wr.heap.size, 0, none⟩) 1 1] := lies_S (by constructor <;> omega) (by constructor <;> omega) (by decide) headed_nil (headed_at (by omega)) (by rw [liesL]; trivial) (by
        rw [liesM, liesM]
        exact ⟨⟨by omega, by omega⟩, ⟨by decide, _, row_left (A := [.string ⟨#[98]⟩, .int .i64 3, .bool false, .int .i64 0, .string ⟨#[99]⟩, .slice none 0 0, .slice none 0 0]) (B := []) k1, hcV⟩, trivial⟩)
      have HD : Hid ((deepV (nestV (j : Int) j)).lies false (((wr.alloc (.cells #[.string ⟨#[98]⟩, .int .i64 3, .bool false, .int .i64 0, .string ⟨#[99]⟩, .slice none 0 0, .slice none 0 0] 32)).alloc (.cells #[.string ⟨#[97]⟩, .int .i64 k, .bool false, .int .i64 i, .string ⟨#[]⟩, .slice al nl cl, .slice none 0 0, .string lbK, .int .i64 5, .bool false, .int .i64 0, .string ⟨#[]⟩, .slice none 0 0, .slice (some ⟨wr.heap.size, 0, none⟩) 1 1] 32)).alloc (.cells #[.int .i64 5, .bool false, .int .i64 0, .string ⟨#[]⟩, .slice none 0 0, .slice (some ⟨wr.heap.size + 1, 0, none⟩) 2 2] 25)) (fun b => w.heap.size < b ∧ b < (((wr.alloc (.cells #[.string ⟨#[98]⟩, .int .i64 3, .bool false, .int .i64 0, .string ⟨#[99]⟩, .slice none 0 0, .slice none 0 0] 32)).alloc (.cells #[.string ⟨#[97]⟩, .int .i64 k, .bool false, .int .i64 i, .string ⟨#[]⟩, .slice al nl cl, .slice none 0 0, .string lbK, .int .i64 5, .bool false, .int .i64 0, .string ⟨#[]⟩, .slice none 0 0, .slice (some ⟨wr.heap.size, 0, none⟩) 1 1] 32)).alloc (.cells #[.int .i64 5, .bool false, .int .i64 0, .string ⟨#[]⟩, .slice none 0 0, .slice (some ⟨wr.heap.size + 1, 0, none⟩) 2 2] 25)).heap.size) [.int .i64 5, .bool false, .int .i64 0, .string ⟨#[]⟩, .slice none 0 0, .slice (some ⟨wr.heap.size + 1, 0, none⟩) 2 2]) := lies_S (by constructor <;> omega) (by constructor <;> omega) (by decide) headed_nil (headed_at (by omega)) (by rw [liesL]; trivial) (by
        rw [liesM, liesM, liesM]
        exact ⟨⟨by omega, by omega⟩, ⟨by decide, _, row_left (A := [.string ⟨#[97]⟩, .int .i64 k, .bool false, .int .i64 i, .string ⟨#[]⟩, .slice al nl cl, .slice none 0 0]) (B := [.string lbK, .int .i64 5, .bool false, .int .i64 0, .string ⟨#[]⟩, .slice none 0 0, .slice (some ⟨wr.heap.size, 0, none⟩) 1 1]) k2, HX3⟩, ⟨by omega, by omega⟩, ⟨by decide, _, row_right (A := [.string ⟨#[97]⟩, .int .i64 k, .bool false, .int .i64 i, .string ⟨#[]⟩, .slice al nl cl, .slice none 0 0]) k2, hla⟩, trivial⟩)
      have BW : Below w.heap.size w (((wr.alloc (.cells #[.string ⟨#[98]⟩, .int .i64 3, .bool false, .int .i64 0, .string ⟨#[99]⟩, .slice none 0 0, .slice none 0 0] 32)).alloc (.cells #[.string ⟨#[97]⟩, .int .i64 k, .bool false, .int .i64 i, .string ⟨#[]⟩, .slice al nl cl, .slice none 0 0, .string lbK, .int .i64 5, .bool false, .int .i64 0, .string ⟨#[]⟩, .slice none 0 0, .slice (some ⟨wr.heap.size, 0, none⟩) 1 1] 32)).alloc (.cells #[.int .i64 5, .bool false, .int .i64 0, .string ⟨#[]⟩, .slice none 0 0, .slice (some ⟨wr.heap.size + 1, 0, none⟩) 2 2] 25)) := Bj.trans (B3.mono (by omega))
      have hwt : (deepV (nestV (j : Int) j)).wt ≤ 2147483648 := by rw [deep_wt, nest_wt]; omega
      have hK3 := hmk k3
      have hzz : (((wr.alloc (.cells #[.string ⟨#[98]⟩, .int .i64 3, .bool false, .int .i64 0, .string ⟨#[99]⟩, .slice none 0 0, .slice none 0 0] 32)).alloc (.cells #[.string ⟨#[97]⟩, .int .i64 k, .bool false, .int .i64 i, .string ⟨#[]⟩, .slice al nl cl, .slice none 0 0, .string lbK, .int .i64 5, .bool false, .int .i64 0, .string ⟨#[]⟩, .slice none 0 0, .slice (some ⟨wr.heap.size, 0, none⟩) 1 1] 32)).alloc (.cells #[.int .i64 5, .bool false, .int .i64 0, .string ⟨#[]⟩, .slice none 0 0, .slice (some ⟨wr.heap.size + 1, 0, none⟩) 2 2] 25)).heap.size = wr.heap.size + 3 := by rw [hz3, hz2, hz1]
      obtain ⟨z0, z1, z2, z3, z4, z5⟩ := row6z (cs_row k3)
      clear a1 a2 a3 k1 k2 B3 HX3 hcV hla HL HX hz1 hz2 hz3
      go_wp2_with fail
      clear r0 r1 r2 r3 r4 r5 z0 z1 z2 z3 z4 z5 k3
      generalize hW3 : (((wr.alloc (.cells #[.string ⟨#[98]⟩, .int .i64 3, .bool false, .int .i64 0, .string ⟨#[99]⟩, .slice none 0 0, .slice none 0 0] 32)).alloc (.cells #[.string ⟨#[97]⟩, .int .i64 k, .bool false, .int .i64 i, .string ⟨#[]⟩, .slice al nl cl, .slice none 0 0, .string lbK, .int .i64 5, .bool false, .int .i64 0, .string ⟨#[]⟩, .slice none 0 0, .slice (some ⟨wr.heap.size, 0, none⟩) 1 1] 32)).alloc (.cells #[.int .i64 5, .bool false, .int .i64 0, .string ⟨#[]⟩, .slice none 0 0, .slice (some ⟨wr.heap.size + 1, 0, none⟩) 2 2] 25)) = w3 at *
      clear hW3
      obtain ⟨L, hLe, hL2⟩ : ∃ L, labV (deepV (nestV (j : Int) j)) = L ∧ (L = [] ∨ L = [bM]) := ⟨_, rfl, deep_lab _⟩
      have C1 := labels_any (deepV (nestV (j : Int) j)) false _ _ w3 (HB.out w3 BW) HD.out (fun b hb => hb.2) hwt
      rw [hLe] at C1
      refine C1.mono ?_
      rintro e w4 ⟨a, c, lb, lo, rfl, hh, hl, b4⟩
      have C2 := rlabels_any (deepV (nestV (j : Int) j)) false _ _ w4 (HB.out w4 (BW.trans (b4.mono (by omega)))) (V.lies_keep (fun h => h) (fun b hb => b4.block b hb.2) (fun _ h => h) _ HD.out) (fun b hb => Nat.lt_of_lt_of_le hb.2 b4.size) hwt
      rw [hLe] at C2
      have HC2 := hmk C2
      have k4 := (b4.block _ (by omega)).trans hK3.out
      obtain ⟨z0, z1, z2, z3, z4, z5⟩ := row6z (cs_row k4)
      have HH := hmk hh
      have HLL := hmk hl
      have hz4 := b4.size
      have B4 := BW.trans (b4.mono (by omega))
      clear C1 C2 hh hl hLe HD hK3 b4 k4
      rcases hL2 with rfl | rfl
      · go_wp2_with fail
        refine HC2.out.mono ?_
        rintro e w5 ⟨a', c', lb', lo', rfl, _, _, b5⟩
        clear z0 z1 z2 z3 z4 z5
        go_wp2_with fail
        go_ret
        exact ⟨rfl, B4.trans (b5.mono (by omega))⟩
      · go_wp2_with fail
        refine HC2.out.mono ?_
        rintro e w5 ⟨a', c', lb', lo', rfl, _, _, b5⟩
        clear z0 z1 z2 z3 z4 z5
        obtain rfl : a = some ⟨lb, lo, none⟩ := HH.out.at_.resolve_left (by simp)
        have hle := HH.out.le
        have hl4 := HLL.out
        rw [liesM, liesM] at hl4
        obtain ⟨hSb, ⟨_, cs', hrow, hcv⟩, _⟩ := hl4
        rw [V.lies] at hcv
        obtain ⟨_, _, _, _, _, _, _, _, rfl, _⟩ := hcv
        obtain ⟨q, q0, q1, q2, q3, q4, q5⟩ := row7 (hrow.keep (b5.block _ hSb.2))
        have BF := B4.trans (b5.mono (by omega))
        clear hrow hSb b5 HH HLL
        go_wp2_with fail
        go_ret
        exact ⟨rfl, BF⟩
end Go.Proofs.YtmmlejbebfkojaaDoor
