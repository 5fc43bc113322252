/- follow, of a row of events. -/
import Derived.Test.YtpbejbpimcidjaaSwI
set_option linter.unusedSimpArgs false
set_option linter.unusedVariables false
namespace Go.Proofs.Ytpbejbpimcidjaa
open Go Go.Lib Go.RowKit Go.Maps

def fol (D : DataW Unit) (rev : Int) : List Evt → DataW Unit
  | [] => D
  | e :: t => fol (wr D e.1 e.2.1 (rev + 1) e.2.2) (rev + 1) t
theorem fol_app (D : DataW Unit) (rev : Int) (l m : List Evt) : fol D rev (l ++ m) = fol (fol D rev l) (rev + (l.length : Int)) m := by
  induction l generalizing D rev with
  | nil => simp [fol]
  | cons e t ih =>
    show fol (wr D e.1 e.2.1 (rev + 1) e.2.2) (rev + 1) (t ++ m) = _
    rw [ih]
    simp only [fol, List.length_cons]
    rw [show rev + 1 + (t.length : Int) = rev + ((t.length + 1 : Nat) : Int) by omega]
theorem fol_snoc (D : DataW Unit) (rev : Int) (l : List Evt) (e : Evt) : fol D rev (l ++ [e]) = wr (fol D rev l) e.1 e.2.1 (rev + (l.length : Int) + 1) e.2.2 := by rw [fol_app]; rfl
theorem evs_at {l : List Evt} {k : Nat} {e : Evt} (h : l[k]? = some e) : (evs l)[k * 3]? = some (.int .i64 e.1) ∧ (evs l)[k * 3 + 1]? = some (.string e.2.1) ∧ (evs l)[k * 3 + 2]? = some (.string e.2.2) := by
  induction l generalizing k with
  | nil => simp at h
  | cons x t ih =>
    have hc : evs (x :: t) = ev x.1 x.2.1 x.2.2 ++ evs t := by unfold evs; rw [List.flatMap_cons]
    have hl : (ev x.1 x.2.1 x.2.2).length = 3 := rfl
    rw [hc]
    rcases k with _ | k
    · simp only [List.getElem?_cons_zero, Option.some.injEq] at h
      subst h
      exact ⟨rfl, rfl, rfl⟩
    · rw [List.getElem?_cons_succ] at h
      obtain ⟨h1, h2, h3⟩ := ih h
      refine ⟨?_, ?_, ?_⟩
      · rw [List.getElem?_append_right (by omega), hl, show (k + 1) * 3 - 3 = k * 3 by omega]; exact h1
      · rw [List.getElem?_append_right (by omega), hl, show (k + 1) * 3 + 1 - 3 = k * 3 + 1 by omega]; exact h2
      · rw [List.getElem?_append_right (by omega), hl, show (k + 1) * 3 + 2 - 3 = k * 3 + 2 by omega]; exact h3
theorem wr_put (D : DataW Unit) (k : ByteArray) (r : Int) (d : ByteArray) : wr D 1 k r d = D.put (kL k) (dat r d) := by unfold wr; rw [if_neg (by decide)]
theorem wr_del (D : DataW Unit) (k : ByteArray) (r : Int) (d : ByteArray) : wr D 3 k r d = D.del (kL k) := by unfold wr; rw [if_pos rfl]
theorem follow_none (v : Value) (rev : Int) (a : Option Addr) (c : Nat) (w : World) : Calls Try.prog 32 #[v, .int .i64 rev, .slice a 0 c] w fun e w' => e = .returned (.tuple #[]) ∧ w' = w := by
  go_enter Try.func32, Try.ntmps32
  go_wp2_with fail
  refine wp_loop_rounds 1 ?_
  rw [rounds_succ]
  go_wp2_with fail
  go_end0
  exact ⟨rfl, rfl⟩
set_option maxHeartbeats 8000000 in
set_option maxRecDepth 100000 in
theorem follow_many (b n : Nat) (D : DataW Unit) (rev : Int) (l : List Evt) (g o c : Nat) (w : World) (hm : w.ownsMap Try.prog 9 oR b n D) (hn : n < 500000) (hll : l.length < 400000) (hr : 0 ≤ rev ∧ rev + (l.length : Int) ≤ 9007199254740991) (hlok : ∀ e ∈ l, (e.1 = 1 ∨ e.1 = 2 ∨ e.1 = 3) ∧ e.2.1.size ≤ 1000)
    (hg : g < w.heap.size) (hgb : g ≠ b) (hc : ∀ j u, (evs l)[j]? = some u → w.cell? ⟨g, o + j, none⟩ = some u) :
    Calls Try.prog 32 #[.map (some b), .int .i64 rev, .slice (some ⟨g, o, none⟩) l.length c] w (FoPost b (n + l.length) (fol D rev l) w) := by
  have hb := hm.lt
  have HM := hmk hm
  have HC := hmk hc
  have HL := hmk hlok
  clear hm hc hlok
  go_enter Try.func32, Try.ntmps32
  go_wp2_with fail
  go_loopw [1, 10] (fun e1 e10 wr => ∃ k : Nat, e1 = .int .i64 (rev + (k : Int)) ∧ e10 = .int .i64 (k : Int) ∧ k ≤ l.length ∧ Hid (wr.ownsMap Try.prog 9 oR b (n + k) (fol D rev (l.take k)) ∧ w.grownBy wr (some b))) (fun _ e10 _ => l.length - (RowKit.intOf e10).toNat)
  case atStart => exact ⟨0, congrArg (Value.int .i64) (by omega), rfl, by omega, HM.out, World.grownBy.refl _ _⟩
  case round =>
    obtain ⟨k, rfl, rfl, hk, HI⟩ := hrel
    by_cases hlt : (k : Int) < (l.length : Int)
    · have hkl : k < l.length := by omega
      obtain ⟨⟨kd, key, d⟩, hx⟩ : ∃ e, l[k]? = some e := ⟨l[k], List.getElem?_eq_getElem hkl⟩
      obtain ⟨h1, h2, h3⟩ := evs_at hx
      have hkc : ∀ a : Nat, wr.cell? ⟨g, a, none⟩ = w.cell? ⟨g, a, none⟩ := fun a => World.cell?_of_block (w := w) (a := ⟨g, a, none⟩) (HI.out.2.block g hg (fun e => hgb (Option.some.inj e)))
      have c0 : wr.cell? ⟨g, o + k * 3, none⟩ = some (.int .i64 kd) := (hkc _).trans (HC.out _ _ h1)
      have c1 : wr.cell? ⟨g, o + k * 3 + 1, none⟩ = some (.string key) := (hkc _).trans (HC.out _ _ h2)
      have c2 : wr.cell? ⟨g, o + k * 3 + 2, none⟩ = some (.string d) := (hkc _).trans (HC.out _ _ h3)
      have hmem := HL.out _ (List.mem_of_getElem? hx)
      have hfol : fol D rev (l.take (k + 1)) = Go.Proofs.Ytpbejbpimcidjaa.wr (fol D rev (l.take k)) kd key (rev + (k : Int) + 1) d := by
        rw [List.take_add_one, hx, Option.toList_some, fol_snoc, List.length_take, Nat.min_eq_left (by omega)]
      have HF := hmk hfol
      have HK0 := hmk (key_of key (by have hk2 : key.size ≤ 1000 := hmem.2; unfold maxLen; omega))
      have hL : Hid ((wr.alloc (.cells #[.int .i64 kd, .string key, .string d] 60)).ownsMap Try.prog 9 oR b (n + k) (fol D rev (l.take k))) := HI.out.1.alloc _
      have HG := hmk HI.out.2
      have hB := heap_alloc_new wr (.cells #[.int .i64 kd, .string key, .string d] 60)
      by_cases h3k : kd = 3
      · subst h3k
        rw [wr_del] at HF
        clear HI hkc h1 h2 h3 hmem hfol
        go_wp2_with (at_delete; refine wpList_delete_own _ rfl _ _ 54 9 rfl 51 law9 Try.underlying54 oR b (n + k) _ rfl hL.out _ (kL key) rfl HK0.out ?_; intro w3 K3 g3)
        have HK : Hid (w3.ownsMap Try.prog 9 oR b (n + (k + 1)) (fol D rev (l.take (k + 1))) ∧ w.grownBy w3 (some b)) := ⟨by rw [HF.out]; exact K3.mono (by omega), grown_trans HG.out (grown_trans (World.grownBy_alloc wr _ (some b)) g3.grown)⟩
        go_wp2_with fail
        refine ⟨⟨k + 1, congrArg (Value.int .i64) (by omega), congrArg (Value.int .i64) (by omega), by omega, HK⟩, ?_⟩
        simp only [RowKit.intOf]
        omega
      · have HD : Hid (oR (.agg #[.int .i64 (rev + (k : Int) + 1), .string d]) = some (dat (rev + (k : Int) + 1) d, [])) := oR_mk _ _
        have hw : Go.Proofs.Ytpbejbpimcidjaa.wr (fol D rev (l.take k)) kd key (rev + (k : Int) + 1) d = (fol D rev (l.take k)).put (kL key) (dat (rev + (k : Int) + 1) d) := by unfold Go.Proofs.Ytpbejbpimcidjaa.wr; rw [if_neg h3k]
        rw [hw] at HF
        have y3' : (kd == 3) = false := by rw [beq_eq_false_iff_ne]; exact h3k
        clear HI hkc h1 h2 h3 hmem hw hfol
        go_wp2_with (at_mapUpdate; refine wpList_mapUpdate_own _ rfl _ _ _ 54 rfl 9 51 law9 Try.underlying54 oR b (n + k) _ rfl hL.out (by unfold maxLen; omega) _ _ (kL key) rfl rfl HK0.out _ [] HD.out ?_; intro w3 K3 g3)
        have HK : Hid (w3.ownsMap Try.prog 9 oR b (n + (k + 1)) (fol D rev (l.take (k + 1))) ∧ w.grownBy w3 (some b)) := ⟨by rw [HF.out]; exact K3, grown_trans HG.out (grown_trans (World.grownBy_alloc wr _ (some b)) g3)⟩
        go_wp2_with fail
        refine ⟨⟨k + 1, congrArg (Value.int .i64) (by omega), congrArg (Value.int .i64) (by omega), by omega, HK⟩, ?_⟩
        simp only [RowKit.intOf]
        omega
    · obtain rfl : k = l.length := by omega
      have HQ := HI
      rw [List.take_length] at HQ
      clear HI
      go_wp2_with fail
      (try simp only [Exit.inBlock, Exit.then])
      refine bodyPost_ret (v := .tuple #[]) (results_none rfl _ _ _) rfl ?_
      exact ⟨rfl, HQ.out⟩
end Go.Proofs.Ytpbejbpimcidjaa
