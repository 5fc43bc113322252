/- QuoteScalars: the statement at every size, and its card. -/
import Derived.Test.YtcoamnmgkhlahaaDoorCards
import Derived.Test.YtcoamnmgkhlahaaDoorTie
import Derived.Test.YtcoamnmgkhlahaaDoorLaid
import Derived.Test.YtcoamnmgkhlahaaDoorScB
import Derived.ProofKit
import Derived.OpenShut
import Derived.SizedLaws
import Derived.Deep.DeepHandedRow
namespace Go.Proofs.YtcoamnmgkhlahaaDoor.quoteScalars
open Go.ChangeShapes Go.WideShapes Go.ChangeAt Go.RowKit Go.Lib

theorem own : ownKnob Tryd.prog.godebug = none := by kernel_rfl

theorem i64_in {n : Int} (h : (Lit.int .i64 n).wf = true) : -9223372036854775808 ≤ n ∧ n ≤ 9223372036854775807 := by
  simp [Lit.wf, IntKind.min, IntKind.max, IntKind.signed, IntKind.bits] at h
  exact h

theorem eight : Tryd.prog.bytesOf 3 = 8 := by kernel_rfl

theorem contract (H : Type) (enc : TypeId × Value → H) (W : World) (base : Nat) (args : Array Value) (ds gs : List (DataW H)) (before : List MemPlace)
    (hval : ∀ (j : Nat) t v, Tryd.f7.params[j]? = some t → args[j]? = some v → Value.okWide Tryd.prog W .any base t v)
    (hW : DataW.Whole enc Tryd.prog Tryd.f7.params.toList Rows.quoteScalarsSpec.vars false W args.toList ds gs before) 
    (hsz : (DataW.weightsEach Tryd.prog (Tryd.f7.params.toList ++ (OpenSpec.ofChange Rows.quoteScalarsSpec).bare.plain.varTypes Tryd.prog) (ds ++ gs)).all (· ≤ reachBytes) = true) (hL : laidMet Tryd.prog Rows.quoteScalarsRow.laid W) :
    Calls Tryd.prog 7 args W fun e W' => ∃ v, e = .returned v ∧ Rows.quoteScalarsSpec.post enc Tryd.prog Tryd.f7 false true false false W args v W' := by
  have hW' := hW
  obtain ⟨p, q, hA0, hV, rfl, hfz, hnd⟩ := hW
  have hA : DataW.TrodAll enc Tryd.prog W 0 (fun _ => true) true Tryd.f7.params.toList args.toList ds p := hA0
  rw [Tryd.params7] at hA hval hsz
  obtain ⟨v0, vs0, d0, ds0, p0, q0, hargs, rfl, rfl, h0, r0⟩ := trodAll_cons hA
  obtain ⟨v1, vs1, d1, ds1, p1, q1, hargs1, rfl, rfl, h1, r1⟩ := trodAll_cons r0
  obtain ⟨rfl, rfl, rfl⟩ := trodAll_nil r1
  obtain rfl : args = #[v0, v1] := by cases args; simp_all
  obtain ⟨rfl, rfl⟩ := trodVars_none hV
  go_open 1 g
  go_open 0 xs
  all_goals clear hA0
  all_goals simp only [List.append_nil] at hW'
  all_goals
    have hU : Utf8Tabs 0 1 W := utabs_of (Lib.laidMet.reads hL (.tail _ (.tail _ (.tail _ (.head _))))) (Lib.laidMet.reads hL (.head _))
    have hLt : LetTab W := letTab_of (Lib.laidMet.reads hL (.tail _ (.head _)))
    have hT : SaidT W := saidTab_of (Lib.laidMet.reads hL (.tail _ (.tail _ (.head _))))
    have h4 : 4 < W.heap.size := block_lt (hT 0 (by omega))
  · have hle : xs_len ≤ xs.length := by omega
    have hn : xs_len ≤ 17592186043904 := by
      have h := sized_slice hsz (j := 0) (t := 35) rfl rfl Tryd.underlying35
      have hr : reachBytes = 140737488351232 := by decide
      rw [eight, hr] at h
      simp only [lits, List.length_map, List.length_take, List.length_drop] at h
      omega
    have hcell : ∀ i, i < xs_len → ∃ b off, some xs_a = some (⟨b, off, none⟩ : Addr) ∧ b < W.heap.size ∧ W.cell? ⟨b, off + i, none⟩ = some (.int .i64 (xs.getD i 0)) ∧ -9223372036854775808 ≤ xs.getD i 0 ∧ xs.getD i 0 ≤ 9223372036854775807 := by
      intro i hi
      obtain ⟨b, off, rfl, hc⟩ := ints_at cell_xs (by omega)
      have hci := hc i (by omega)
      have hm : xs.getD i 0 ∈ xs := by
        have e : xs.getD i 0 = xs[i]'(by omega) := by simp [List.getD, show i < xs.length by omega]
        rw [e]; exact List.getElem_mem _
      have hz := i64_in (wf_xs _ hm)
      exact ⟨b, off, rfl, block_lt hci, hci, hz.1, hz.2⟩
    refine (scal_walk (some xs_a) xs_len xs_cap xs g W ⟨hU, hLt, hT, h4⟩ hn hcell).mono fun e W' ⟨he, hg⟩ => ?_
    subst he
    have e1 : Rows.quoteScalarsSpec.fn H ([.slice (lits .i64 (xs.take xs_len)) (lits .i64 (xs.drop xs_len)), .lit (.bool g)] ++ []) = { results := [.lit (.bool true)], args := [.slice (lits .i64 (xs.take xs_len)) (lits .i64 (xs.drop xs_len)), .lit (.bool g)] } := rfl
    have hblk : ∀ i, i < xs.length → xs_a.block < W.heap.size := fun i hi => by
      have := World.block_lt_of_cell? W (xs_a.add i) (cell_xs i hi)
      simp only [Addr.add] at this
      split at this <;> exact this
    have hcl : ∀ i, i < xs.length → W'.cell? (xs_a.add i) = some (.int .i64 (xs.getD i 0)) := fun i hi =>
      (hg.cell (p := xs_a.add i) (World.block_lt_of_cell? W (xs_a.add i) (cell_xs i hi))).trans (cell_xs i hi)
    have hz : xs.length = if decide (xs_a.block < W.heap.size) = true then xs_cap else xs_len := by
      by_cases hp : 0 < xs.length
      · rw [if_pos (decide_eq_true (hblk 0 hp))]; exact xs_all
      · split <;> omega
    have hback : ∃ pa, DataW.TrodAll enc Tryd.prog W' 0 (fun b => decide (b < W.heap.size)) true Tryd.f7.params.toList [Value.slice (some xs_a) xs_len xs_cap, .bool g] [.slice (lits .i64 (xs.take xs_len)) (lits .i64 (xs.drop xs_len)), .lit (.bool g)] pa := by
      rw [Tryd.params7]
      exact ⟨_, trodAll_cons_mk ⟨_, shut_ints 0 Tryd.underlying35 Tryd.underlying3 (by kernel_rfl) (Nat.zero_le _) xs_le xs_max hz hcl wf_xs⟩ (trodAll_cons_mk (shut_bool Tryd.underlying4 _) trodAll_mk0)⟩
    obtain ⟨pa, hpa⟩ := hback
    refine ⟨_, rfl, _, _, _, [], pa, [], hW', ?_, ?_, ?_, hg.frame _, fun h => by cases h⟩
    · rw [e1]; exact trodAll_cons_mk (shut_bool Tryd.underlying4 _) trodAll_mk0
    · rw [e1]; exact hpa
    · rw [e1]; rfl
  · refine (scal_walk none 0 0 [] g W ⟨hU, hLt, hT, h4⟩ (by omega) (fun i hi => absurd hi (by omega))).mono fun e W' ⟨he, hg⟩ => ?_
    subst he
    have e1 : Rows.quoteScalarsSpec.fn H ([.nil, .lit (.bool g)] ++ []) = { results := [.lit (.bool true)], args := [.nil, .lit (.bool g)] } := rfl
    refine ⟨_, rfl, _, _, _, [], [], [], hW', ?_, ?_, ?_, hg.frame _, fun h => by cases h⟩
    · rw [e1]; exact trodAll_cons_mk (shut_bool Tryd.underlying4 _) trodAll_mk0
    · rw [e1]; exact trodAll_cons_mk (shut_slice_nil Tryd.underlying35) (trodAll_cons_mk (shut_bool Tryd.underlying4 _) trodAll_mk0)
    · rw [e1]; rfl

theorem laid_met (os : Os) : laidMet Tryd.prog Rows.quoteScalarsRow.laid ((laidWorldOf Tryd.prog os).forCall (fun _ _ => 0) ⟨#[], #[.slice none 0 0, .bool false], []⟩).memory :=
  (LaidIn.of_run (l := Rows.quoteScalarsRow.laid) [0, 1, 2, 4] 8 (by kernel_rfl) (by kernel_rfl) (by kernel_rfl) (by kernel_rfl)).met
theorem reads (os : Os) {H : Type} (enc : TypeId × Value → H) : ∃ places, DataW.whole enc Tryd.prog ((laidWorldOf Tryd.prog os).forCall (fun _ _ => 0) ⟨#[], #[.slice none 0 0, .bool false], []⟩).memory Tryd.f7.params.toList Rows.quoteScalarsSpec.vars false #[Value.slice none 0 0, .bool false].toList 8 = some ([.nil, .lit (.bool false)], [], places) :=
  ⟨[], by kernel_rfl⟩

set_option maxRecDepth 100000 in
theorem lifted (os : Os) (started : os.Started) (H : Type) (enc : TypeId × Value → H) (F : Stop.Interp) :
    ReturnsInHanded {} Tryd.checked os 7 .any ((OpenSpec.ofChange Rows.quoteScalarsSpec).preRow enc Tryd.prog Tryd.f7 Rows.quoteScalarsRow.domain false Rows.quoteScalarsRow.laid) (((OpenSpec.ofChange Rows.quoteScalarsSpec).at F).post enc Tryd.prog Tryd.f7 false true false false) := by
  obtain ⟨places, hx⟩ := reads os enc
  refine returnsInHanded_of_row (C := Tryd.checked) (s := OpenSpec.ofChange Rows.quoteScalarsSpec) own started (by kernel_rfl) Tryd.func7
    (witness_row_at (enc := enc) (C := Tryd.checked) false (laidWorldOf Tryd.prog os) #[.slice none 0 0, .bool false] rfl (by kernel_rfl) (by kernel_rfl) (by kernel_rfl)
      (OpenSpec.preRow_of_cond 8 hx (by kernel_rfl) (fun k hk => by cases hk) (by kernel_rfl) (laid_met os))) ?_
  intro W base args ds gs before hval hW _ _ hsz hL _ _
  exact contract H enc W base args ds gs before hval hW hsz hL

theorem said : Rows.QuoteScalarsSaid :=
  OpenClaim.holds_of_cond 7 Tryd.f7 rfl rfl rfl rfl rfl rfl rfl ⟨rfl, rfl, rfl, rfl, rfl⟩ rfl rfl rfl rfl rfl (by kernel_rfl) Tryd.func7 (by kernel_rfl)
    (of_decide_eq_true (by kernel_rfl)) (by unfold Func.isWrapper; first | (rw [if_pos (by decide +kernel)]; kernel_rfl) | (rw [if_neg (by decide +kernel)]; exact ⟨rfl, rfl⟩))
    (fun os started H enc _ F => by rw [OpenClaim.pre_eq_preRow]; exact lifted os started H enc F)

theorem plain (f : FuncId) (fn : Func) (hf : Tryd.pinned.checked.prog.funcNamed Tryd.f7.name = some f) (hfn : Tryd.pinned.checked.prog.funcs[f]? = some fn) :
    false = Tryd.pinned.checked.prog.looks [] ∧ ∀ (j : Nat) t, fn.params[j]? = some t → Tryd.pinned.checked.prog.wantsStandIn t = false := by
  obtain rfl : f = 7 := Option.some.inj ((show Tryd.prog.funcNamed Tryd.f7.name = some 7 by kernel_rfl).symm.trans hf) |>.symm
  obtain rfl : fn = Tryd.f7 := (Option.some.inj (Tryd.func7.symm.trans hfn)).symm
  refine ⟨by kernel_rfl, fun j t ht => ?_⟩
  rw [Tryd.params7] at ht
  have hm : t = 35 ∨ t = 4 := by
    have := Array.mem_of_getElem? ht
    simp at this
    omega
  rcases hm with rfl | rfl
  · exact (show Tryd.prog.wantsStandIn 35 = false by kernel_rfl)
  · exact (show Tryd.prog.wantsStandIn 4 = false by kernel_rfl)

theorem card : Rows.QuoteScalarsCardSaid :=
  Claim7.holds_tied_plain_at .later [] _ _ _ _ said (fun _ h => by cases h) (by kernel_rfl) (fun _ h => by cases h) quoteScalars_row_tie rfl ⟨rfl, rfl⟩ (by kernel_rfl) rfl plain (by kernel_rfl)
end Go.Proofs.YtcoamnmgkhlahaaDoor.quoteScalars
