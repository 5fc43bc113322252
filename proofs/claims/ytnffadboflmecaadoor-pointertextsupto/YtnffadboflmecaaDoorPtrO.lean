/- PointerTexts: the second form's statement and its card. -/
import Derived.Test.YtnffadboflmecaaDoorCards
import Derived.Test.YtnffadboflmecaaDoorTie
import Derived.Test.YtnffadboflmecaaDoorPtrW
import Derived.Lib.LaidIn
import Derived.Lib.LaidU8T
import Derived.WideKeyArgs
import Derived.ProofKit
import Derived.OpenShut
import Derived.Shelf.Vars
import Derived.Deep.DeepHandedRow
namespace Go.Proofs.YtnffadboflmecaaDoor.pointerTexts
open Go.Shelf Go.ChangeShapes Go.WideShapes Go.ChangeAt Go.RowKit Go.Lib
open Go.ChangeMaps (open_string shut_string)

theorem own : ownKnob Tryd.prog.godebug = none := by kernel_rfl
theorem laidOut' : laidOutB Tryd.prog = true := by kernel_rfl
theorem accept_eq : Rows.laid_unicode_utf8_acceptRanges = Lib.acceptData := by kernel_rfl
theorem first_eq : Rows.laid_unicode_utf8_first = Lib.firstData := by kernel_rfl
theorem utabs_of {W : World} (h3 : VarReads Tryd.prog W "unicode/utf8.first" Rows.laid_unicode_utf8_first) (h4 : VarReads Tryd.prog W "unicode/utf8.acceptRanges" Rows.laid_unicode_utf8_acceptRanges) : Utf8Tabs 0 1 W := by
  rw [first_eq] at h3
  rw [accept_eq] at h4
  exact utf8Tabs_of_readsT (U8Types.of196 Tryd.lays196) ⟨by kernel_rfl, by kernel_rfl, by kernel_rfl, by kernel_rfl, by kernel_rfl, by kernel_rfl, by kernel_rfl⟩ h3 h4
theorem max_of {W : World} (h : W.ShapedOpen Tryd.prog) : MaxIs W :=
  Go.Proofs.cell_of_shapedOpen_int (zero := #[.int .i64 0]) (t := 3) h (of_decide_eq_true (by kernel_rfl)) (by kernel_rfl) rfl (by kernel_rfl) (by kernel_rfl) Tryd.underlying3
theorem block_lt {W : World} {b o : Nat} {v : Value} (h : W.cell? ⟨b, o, none⟩ = some v) : b < W.heap.size := World.block_lt_of_cell? W ⟨b, o, none⟩ h
def putCells (cs : Array Value) : Obj → Obj
  | .cells _ t frozen => .cells cs t frozen
  | o => o
/-- A world for the witness: the settled one, the variables holding what their initialisers lay. -/
def laidWorldOf (P : Program) (os : Os) : World :=
  { World.holding P os ⟨#[], #[], []⟩ with heap := (((World.holding P os ⟨#[], #[], []⟩).heap.modify 0 (putCells (Lib.firstTab.map fun z => Value.int .u8 z).toArray)).modify 1
      (putCells ((List.range 16).flatMap fun i => [Value.int .u8 (Lib.accLo i), Value.int .u8 (Lib.accHi i)]).toArray)) }
theorem below_same {B : Nat} {w w' : World} (h : Below B w w') : ∀ {p : MemPlace}, p.block < B → w.sameAt w' p
  | .cell b off, hp => by
    show w'.cell? ⟨b, off, none⟩ = w.cell? ⟨b, off, none⟩
    exact h.cell (p := ⟨b, off, none⟩) hp
  | .map b, hp => h.block b hp
theorem cells9 : Tryd.prog.cellsOf 9 = 1 := by kernel_rfl

section
variable {H : Type} {enc : TypeId × Value → H}
def strOf : DataW H → ByteArray
  | .lit (.string b) => ⟨b.toArray⟩
  | _ => ⟨#[]⟩
theorem tot_le : ∀ es : List (DataW H), (∀ e ∈ es, ∃ s : ByteArray, e = .lit (.string s.data.toList)) → totS (es.map strOf) ≤ Rows.uptoBulkAll es
  | [], _ => by simp [totS, Rows.uptoBulkAll]
  | e :: t, h => by
    have ih := tot_le t (fun x hx => h x (List.mem_cons_of_mem _ hx))
    obtain ⟨s, rfl⟩ := h e (List.mem_cons_self ..)
    have e1 : totS ((DataW.lit (H := H) (.string s.data.toList) :: t).map strOf) = (s.data.toList.length + 1) + totS (t.map strOf) := by
      simp [totS, strOf]
    rw [e1]
    simp only [Rows.uptoBulkAll, Rows.uptoBulk]
    omega
theorem open22 {W : World} {spare : Nat → Bool} {held : Bool} {v : Value} {d : DataW H} {p : List MemPlace} (hsl : ∃ a n c, v = .slice a n c) (h : DataW.Trod enc Tryd.prog W 0 spare held 22 v d p) :
    ∃ l : List ByteArray, LiesS W v l ∧ ((∃ ad c, v = .slice (some ad) l.length c) ∨ v = .slice none 0 0) ∧ totS l ≤ Rows.uptoBulk d := by
  obtain ⟨n, hn⟩ := h
  obtain ⟨a0, n0, c0, rfl⟩ := hsl
  rcases DataW.trod_slice Tryd.underlying22 hn with ⟨e, e2⟩ | ⟨a, len, cap, elems, rest, n', hn', e, e2, _, hlc, hcm, hlen, hel, _⟩
  · have hvv : (Value.slice a0 n0 c0) = .slice none 0 0 := by simpa [Value.cells] using e
    rw [hvv]
    exact ⟨[], liesS_nil W, .inr rfl, by simp [totS]⟩
  · have hvv : (Value.slice a0 n0 c0) = .slice (some a) len cap := by simpa [Value.cells] using e
    rw [hvv]
    rw [cells9] at hel
    have hall : ∀ i (hi : i < elems.length), ∃ s : ByteArray, W.cells? 0 (a.add (i * 1)) 1 = some [.string s] ∧ (elems[i]).1 = .lit (.string s.data.toList) := fun i hi => by
      have he := hel i (by omega)
      rw [List.getElem?_eq_getElem hi] at he
      obtain ⟨cs, h1, h2⟩ := Option.bind_eq_some_iff.1 he
      obtain ⟨s, rfl, e3, _⟩ := DataW.trod_string Tryd.underlying9 h2
      exact ⟨s, h1, by rw [e3]⟩
    have hd : d = .slice (elems.map (·.1)) (rest.map (·.1)) := congrArg Prod.fst e2
    have hes : ∀ x ∈ elems.map (·.1), ∃ s : ByteArray, x = .lit (.string s.data.toList) := fun x hx => by
      obtain ⟨y, hy, rfl⟩ := List.mem_map.1 hx
      obtain ⟨i, hi, rfl⟩ := List.getElem_of_mem hy
      obtain ⟨s, _, hs⟩ := hall i hi
      exact ⟨s, hs⟩
    have hlen2 : ((elems.map (·.1)).map strOf).length = len := by simp [hlen]
    refine ⟨(elems.map (·.1)).map strOf, ⟨⟨some a, cap, by rw [hlen2]⟩, fun h0 => ?_⟩, .inl ⟨a, cap, by rw [hlen2]⟩, ?_⟩
    · rw [hlen2] at h0
      have hcell : ∀ i (hi : i < elems.length), W.cell? (a.add i) = some (.string (strOf (elems[i]).1)) := fun i hi => by
        obtain ⟨s, h1, h2⟩ := hall i hi
        obtain ⟨_, _, hc⟩ := World.cells?_some h1
        have := hc 0 (by omega)
        rw [h2]
        have es : strOf (H := H) (.lit (.string s.data.toList)) = s := by rcases s with ⟨⟨q⟩⟩; rfl
        rw [es]
        simpa [Addr.add] using this
      obtain ⟨b, o, sp⟩ := a
      have h00 := hcell 0 (by omega)
      have hsp : sp = none := by simpa [Addr.add] using World.cell?_spot h00
      subst hsp
      refine ⟨b, o, cap, by rw [hlen2], by simpa [Addr.add] using World.block_lt_of_cell? W _ h00, fun j hj => ?_⟩
      rw [hlen2] at hj
      have := hcell j (by omega)
      rw [Go.WideShapes.add_plain] at this
      simpa using this
    · rw [hd]
      simp only [Rows.uptoBulk]
      have := tot_le _ hes
      omega
theorem back22 {W W' : World} {v : Value} {d : DataW H} {p : List MemPlace} (h : DataW.Trod enc Tryd.prog W 0 (fun _ => true) true 22 v d p) (hlt : ∀ x ∈ p, x.block < W.heap.size) (hb : Below W.heap.size W W') :
    DataW.Trod enc Tryd.prog W' 0 (fun b => decide (b < W.heap.size)) true 22 v d p :=
  WideElems.Trod_stays (P := Tryd.prog) laidOut' (by kernel_rfl) (of_decide_eq_true (by kernel_rfl)) h (fun x hx => below_same hb (hlt x hx)) (fun x hx => by simpa using hlt x hx)
end

set_option maxRecDepth 100000 in
theorem contract (H : Type) (enc : TypeId × Value → H) (W : World) (base : Nat) (args : Array Value) (ds gs : List (DataW H)) (before : List MemPlace)
    (hval : ∀ (j : Nat) t v, Tryd.f3.params[j]? = some t → args[j]? = some v → Value.okWide Tryd.prog W .any base t v)
    (hW : DataW.Whole enc Tryd.prog Tryd.f3.params.toList Rows.pointerTextsSpec.vars false W args.toList ds gs before) (hk : Rows.uptoSmall H (ds ++ gs) = true) (hL : laidMet Tryd.prog Rows.pointerTextsUptoRow.laid W) (hsh : W.ShapedOpen Tryd.prog) :
    Calls Tryd.prog 3 args W fun e W' => ∃ v, e = .returned v ∧ Rows.pointerTextsSpec.post enc Tryd.prog Tryd.f3 false true false false W args v W' := by
  have hW' := hW
  obtain ⟨p, q, hA0, hV, rfl, hfz, hnd⟩ := hW
  have hA : DataW.TrodAll enc Tryd.prog W 0 (fun _ => true) true Tryd.f3.params.toList args.toList ds p := hA0
  rw [Tryd.params3] at hA hval
  obtain ⟨v0, vs0, d0, ds0, p0, q0, hargs, rfl, rfl, h0, r0⟩ := trodAll_cons hA
  obtain ⟨v1, vs1, d1, ds1, p1, q1, hargs1, rfl, rfl, h1, r1⟩ := trodAll_cons r0
  obtain ⟨rfl, rfl, rfl⟩ := trodAll_nil r1
  obtain rfl : args = #[v0, v1] := by cases args; simp_all
  obtain ⟨rfl, rfl⟩ := trodVars_none hV
  obtain ⟨s, rfl, rfl, rfl, hmax⟩ := open_string Tryd.underlying9 (hval 0 9 v0 rfl rfl) h0
  obtain ⟨l, hl, hnil, htot⟩ := open22 (okWide_slice Tryd.underlying22 (hval 1 22 v1 rfl rfl)) h1
  clear hA0
  simp only [List.append_nil] at hW' hk
  have hbulk : Rows.uptoBulkAll [DataW.lit (H := H) (.string s.data.toList), d1] ≤ 1048576 := of_decide_eq_true hk
  simp only [Rows.uptoBulkAll, Rows.uptoBulk] at hbulk
  rw [toList_size] at hbulk
  have hU : Utf8Tabs 0 1 W := utabs_of (Lib.laidMet.reads hL (.tail _ (.head _))) (Lib.laidMet.reads hL (.head _))
  have hm : MaxIs W := max_of hsh
  have hz : 2 < W.heap.size := by obtain ⟨m, hm⟩ := hm; exact block_lt hm
  refine (texts_walk s l v1 W hl hnil (by omega) (by omega) ⟨hU, hm, hz⟩).mono fun e W' ⟨he, hg⟩ => ?_
  subst he
  have hlt : ∀ y ∈ p1, y.block < W.heap.size := fun y hy => hW'.lt y (by simp [hy])
  have e1 : Rows.pointerTextsSpec.fn H ([.lit (.string s.data.toList), d1] ++ []) = { results := [.lit (.bool true)], args := [.lit (.string s.data.toList), d1] } := rfl
  have hback : ∃ pa, DataW.TrodAll enc Tryd.prog W' 0 (fun b => decide (b < W.heap.size)) true Tryd.f3.params.toList [.string s, v1] [.lit (.string s.data.toList), d1] pa := by
    rw [Tryd.params3]
    exact ⟨_, trodAll_cons_mk (shut_string Tryd.underlying9 hmax) (trodAll_cons_mk (back22 h1 hlt hg) trodAll_mk0)⟩
  obtain ⟨pa, hpa⟩ := hback
  refine ⟨_, rfl, _, _, _, [], pa, [], hW', ?_, ?_, ?_, hg.frame _, fun h => by cases h⟩
  · rw [e1]; exact trodAll_cons_mk (shut_bool Tryd.underlying4 _) trodAll_mk0
  · rw [e1]; exact hpa
  · rw [e1]; rfl

def wit : Array Value := #[.string ⟨#[]⟩, .slice none 0 0]
set_option maxRecDepth 100000 in
theorem laid_met (os : Os) : laidMet Tryd.prog Rows.pointerTextsUptoRow.laid ((laidWorldOf Tryd.prog os).forCall (fun _ _ => 0) ⟨#[], wit, []⟩).memory :=
  (LaidIn.of_run (l := Rows.pointerTextsUptoRow.laid) [1, 0] 8 (by kernel_rfl) (by kernel_rfl) (by kernel_rfl) (by kernel_rfl)).met
set_option maxRecDepth 100000 in
theorem reads (os : Os) {H : Type} (enc : TypeId × Value → H) : ∃ places, DataW.whole enc Tryd.prog ((laidWorldOf Tryd.prog os).forCall (fun _ _ => 0) ⟨#[], wit, []⟩).memory Tryd.f3.params.toList Rows.pointerTextsSpec.vars false wit.toList 8 = some ([.lit (.string []), .nil], [], places) :=
  ⟨[], by kernel_rfl⟩

set_option maxRecDepth 100000 in
theorem liftedUpto (os : Os) (started : os.Started) (H : Type) (enc : TypeId × Value → H) (F : Stop.Interp) :
    ReturnsInHanded {} Tryd.checked os 3 .any ((Rows.OpenSpec.upto Rows.pointerTextsSpec).preRow enc Tryd.prog Tryd.f3 Rows.pointerTextsUptoRow.domain false Rows.pointerTextsUptoRow.laid) (((Rows.OpenSpec.upto Rows.pointerTextsSpec).at F).post enc Tryd.prog Tryd.f3 false true false false) := by
  obtain ⟨places, hx⟩ := reads os enc
  refine returnsInHanded_of_row (C := Tryd.checked) (s := Rows.OpenSpec.upto Rows.pointerTextsSpec) own started (by kernel_rfl) Tryd.func3
    (witness_row_at (enc := enc) (C := Tryd.checked) false (laidWorldOf Tryd.prog os) wit rfl (by kernel_rfl) (by kernel_rfl) (by kernel_rfl)
      (OpenSpec.preRow_of_cond 8 hx (by kernel_rfl) (fun k hk => by cases hk; kernel_rfl) (by kernel_rfl) (laid_met os))) ?_
  intro W base args ds gs before hval hW _ hcond _ hL hsh _
  exact contract H enc W base args ds gs before hval hW (hcond _ rfl) hL hsh

set_option maxRecDepth 100000 in
theorem saidUpto : Rows.PointerTextsUptoSaid :=
  OpenClaim.holds_of_cond 3 Tryd.f3 rfl rfl rfl rfl rfl rfl rfl ⟨rfl, rfl, rfl, rfl, rfl⟩ rfl rfl rfl rfl rfl (by kernel_rfl) Tryd.func3 (by kernel_rfl)
    (of_decide_eq_true (by kernel_rfl)) (by unfold Func.isWrapper; first | (rw [if_pos (by decide +kernel)]; kernel_rfl) | (rw [if_neg (by decide +kernel)]; exact ⟨rfl, rfl⟩))
    (fun os started H enc _ F => by rw [OpenClaim.pre_eq_preRow]; exact liftedUpto os started H enc F)

set_option maxRecDepth 100000 in
theorem plain (f : FuncId) (fn : Func) (hf : Tryd.pinned.checked.prog.funcNamed Tryd.f3.name = some f) (hfn : Tryd.pinned.checked.prog.funcs[f]? = some fn) :
    false = Tryd.pinned.checked.prog.looks [] ∧ ∀ (j : Nat) t, fn.params[j]? = some t → Tryd.pinned.checked.prog.wantsStandIn t = false := by
  obtain rfl : f = 3 := Option.some.inj ((show Tryd.prog.funcNamed Tryd.f3.name = some 3 by kernel_rfl).symm.trans hf) |>.symm
  obtain rfl : fn = Tryd.f3 := (Option.some.inj (Tryd.func3.symm.trans hfn)).symm
  refine ⟨by kernel_rfl, fun j t ht => ?_⟩
  rw [Tryd.params3] at ht
  have hm : t = 9 ∨ t = 22 := by
    have := Array.mem_of_getElem? ht
    simp at this
    omega
  rcases hm with rfl | rfl
  · exact (show Tryd.prog.wantsStandIn 9 = false by kernel_rfl)
  · exact (show Tryd.prog.wantsStandIn 22 = false by kernel_rfl)

set_option maxRecDepth 100000 in
theorem cardUpto : Rows.PointerTextsUptoCardSaid :=
  Claim7.holds_tied_plain_at .later [] _ _ _ _ saidUpto (fun _ h => by cases h) (by kernel_rfl) (fun _ h => by cases h) pointerTextsUpto_row_tie rfl ⟨rfl, rfl⟩ (by kernel_rfl) rfl plain (by kernel_rfl)
end Go.Proofs.YtnffadboflmecaaDoor.pointerTexts
