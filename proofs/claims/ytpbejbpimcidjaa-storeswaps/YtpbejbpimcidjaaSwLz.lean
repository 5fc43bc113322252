/- StoreSwaps: the row. -/
import Derived.Test.YtpbejbpimcidjaaRows
import Derived.Test.YtpbejbpimcidjaaSwK2
import Derived.WalkKit
import Derived.ProofKit
import Derived.OpenShut
import Derived.SizedLaws
import Derived.Deep.DeepHandedRow
import Derived.ChangeArms
namespace Go.Proofs.Ytpbejbpimcidjaa.storeSwaps
open Go Go.ChangeShapes Go.WideShapes Go.ChangeAt Go.RowKit
set_option linter.unusedVariables false
set_option linter.unusedSimpArgs false

theorem own : ownKnob Try.prog.godebug = none := by kernel_rfl
theorem laidOut' : laidOutB Try.prog = true := by kernel_rfl
theorem cells5 : Try.prog.cellsOf 5 = 1 := by kernel_rfl
theorem cells3 : Try.prog.cellsOf 3 = 1 := by kernel_rfl
theorem cells30 : Try.prog.cellsOf 30 = 1 := by kernel_rfl
theorem cells42 : Try.prog.cellsOf 42 = 4 := by kernel_rfl
theorem bytes5 : Try.prog.bytesOf 5 = 1 := by kernel_rfl
theorem below_same {B : Nat} {w w' : World} (h : Below B w w') : ∀ {p : MemPlace}, p.block < B → w.sameAt w' p
  | .cell b off, hp => by
    show w'.cell? ⟨b, off, none⟩ = w.cell? ⟨b, off, none⟩
    exact h.cell (p := ⟨b, off, none⟩) hp
  | .map b, hp => h.block b hp
theorem len4 {α : Type} {l : List α} (h : l.length = 4) : ∃ c0 c1 c2 c3, l = [c0, c1, c2, c3] := by
  match l, h with
  | [c0, c1, c2, c3], _ => exact ⟨_, _, _, _, rfl⟩
section
variable {H : Type} {enc : TypeId × Value → H}
def intIn : DataW H → Int
  | .lit (.int _ n) => n
  | _ => 0
theorem mem_all {P : Program} {e : TypeId} : ∀ {l : List (DataW H)} {d : DataW H}, d ∈ l → ∀ n ∈ d.weights P e, n ∈ DataW.weightsAll P e l
  | x :: t, d, hd, n, hn => by
    rw [DataW.weightsAll, List.mem_append]
    rcases List.mem_cons.1 hd with rfl | h
    · exact .inl hn
    · exact .inr (mem_all h n hn)
theorem open_bytes {w : World} {spare : Nat → Bool} {held : Bool} {n r : Nat} {cs : List Value} {x} (h : DataW.trod enc Try.prog w 0 spare held n 30 cs = some x) (hr : ∀ m ∈ x.1.weights Try.prog 30, m ≤ r) : ∃ (a : Option Addr) (k c : Nat) (dd : ByteArray), cs = [.slice a k c] ∧ BytA w (.slice a k c) dd ∧ dd.size ≤ r := by
  rcases DataW.trod_slice Try.underlying30 h with ⟨rfl, _⟩ | ⟨a, len, cap, elems, rest, n', hn, rfl, hx, _, hlc, hcm, hlen, hel, _⟩
  · exact ⟨none, 0, 0, ByteArray.empty, rfl, .inl ⟨none, 0, rfl, rfl⟩, Nat.zero_le _⟩
  rw [cells5] at hel
  have hsz : len ≤ r := by
    have := hr ((elems.length + rest.length) * Try.prog.bytesOf 5) (by rw [hx]; simp [DataW.weights, Try.underlying30])
    rw [bytes5] at this
    omega
  have hall : ∀ i (hi : i < elems.length), w.cell? (a.add i) = some (.int .u8 (intIn (elems[i]).1)) ∧ 0 ≤ intIn (elems[i]).1 ∧ intIn (elems[i]).1 < 256 := fun i hi => by
    have he := hel i (by omega)
    rw [List.getElem?_eq_getElem hi] at he
    obtain ⟨cs, h1, h2⟩ := Option.bind_eq_some_iff.1 he
    obtain ⟨v, rfl, e3, hw⟩ := DataW.trod_int Try.underlying5 h2
    have hc := cell_of_cells?_one h1
    rw [Nat.mul_one] at hc
    rw [e3]
    simp [Lit.wf, IntKind.min, IntKind.max, IntKind.signed, IntKind.bits] at hw
    exact ⟨hc, hw.1, by show v < 256; omega⟩
  let dd : ByteArray := ⟨(elems.map (fun y => UInt8.ofNat (intIn y.1).toNat)).toArray⟩
  have hdz : dd.size = elems.length := by show (List.toArray _).size = _; simp
  refine ⟨some a, len, cap, dd, rfl, ?_, by omega⟩
  refine .inr ⟨a, cap, by rw [hdz, hlen], trivial, fun j hj => ?_⟩
  have hj2 : j < elems.length := by omega
  obtain ⟨h1, h2, h3⟩ := hall j hj2
  rw [h1]
  have e1 : dd[j] = UInt8.ofNat (intIn (elems[j]).1).toNat := by
    show (List.toArray _)[j] = _
    simp
  rw [e1, UInt8.toNat_ofNat']
  exact congrArg (fun z => some (Value.int .u8 z)) (by omega)
theorem open_wish {w : World} {spare : Nat → Bool} {held : Bool} {n r : Nat} {cs : List Value} {x} (h : DataW.trod enc Try.prog w 0 spare held n 42 cs = some x) (hr : ∀ m ∈ x.1.weights Try.prog 42, m ≤ r) : ∃ (pk pkd pr : Int) (a : Option Addr) (k c : Nat) (dd : ByteArray), cs = [.int .i64 pk, .int .i64 pkd, .int .i64 pr, .slice a k c] ∧ BytA w (.slice a k c) dd ∧ dd.size ≤ r := by
  obtain ⟨xs, n', hn, hx, hl, hlen, hf⟩ := DataW.trod_struct Try.underlying42 h
  rw [cells42] at hl
  have h4 : xs.length = 4 := hlen
  obtain ⟨c0, c1, c2, c3, rfl⟩ := len4 hl
  obtain ⟨x0, x1, x2, x3, rfl⟩ := len4 h4
  have f0 := hf 0 _ rfl
  have f1 := hf 1 _ rfl
  have f2 := hf 2 _ rfl
  have f3 := hf 3 _ rfl
  simp [cells3, cells30] at f0 f1 f2 f3
  obtain ⟨pk, e0, _⟩ := DataW.trod_int Try.underlying3 f0
  obtain ⟨pkd, e1, _⟩ := DataW.trod_int Try.underlying3 f1
  obtain ⟨pr, e2, _⟩ := DataW.trod_int Try.underlying3 f2
  obtain ⟨a, k, c, dd, e3, hb, hs⟩ := open_bytes (r := r) f3 (fun m hm => hr m (by
    rw [hx, DataW.weights, Try.underlying42]
    exact DataW.weights_mem_each (j := 3) rfl rfl m hm))
  simp only [List.cons.injEq, and_true] at e0 e1 e2 e3
  subst e0 e1 e2 e3
  exact ⟨pk, pkd, pr, a, k, c, dd, rfl, hb, hs⟩
theorem open_puts {W : World} {spare : Nat → Bool} {held : Bool} {r : Nat} {v : Value} {d : DataW H} {p : List MemPlace} (hsl : ∃ a n c, v = .slice a n c) (h : DataW.Trod enc Try.prog W 0 spare held 22 v d p) (hr : ∀ m ∈ d.weights Try.prog 22, m ≤ r) (hr2 : r ≤ 140737488351232) : ∃ (ao : Option Addr) (nw cw : Nat), v = .slice ao nw cw ∧ ∀ i, i < nw → ∃ b o, ao = some ⟨b, o, none⟩ ∧ WshAt W b (o + i * 4) := by
  obtain ⟨n, hn⟩ := h
  obtain ⟨a0, n0, c0, rfl⟩ := hsl
  rcases DataW.trod_slice Try.underlying22 hn with ⟨e, _⟩ | ⟨a, len, cap, elems, rest, n', _, e, hx, _, hlc, hcm, hlen, hel, _⟩
  · have hvv : (Value.slice a0 n0 c0) = .slice none 0 0 := by simpa [Value.cells] using e
    rw [hvv]
    exact ⟨none, 0, 0, rfl, fun i hi => by omega⟩
  · have hvv : (Value.slice a0 n0 c0) = .slice (some a) len cap := by simpa [Value.cells] using e
    rw [hvv]
    rw [cells42] at hel
    have hd : d = .slice (elems.map (·.1)) (rest.map (·.1)) := congrArg Prod.fst hx
    refine ⟨some a, len, cap, rfl, fun i hi => ?_⟩
    have he := hel i hi
    rw [List.getElem?_eq_getElem (by omega)] at he
    obtain ⟨cs, h1, h2⟩ := Option.bind_eq_some_iff.1 he
    obtain ⟨pk, pkd, pr, aa, k, c, dd, rfl, hb, hs⟩ := open_wish (r := r) h2 (fun m hm => hr m (by
      rw [hd, DataW.weights, Try.underlying22]
      exact List.mem_cons_of_mem _ (List.mem_append_left _ (mem_all (List.mem_map.2 ⟨_, List.getElem_mem _, rfl⟩) m hm))))
    have hc := (World.cells?_some h1).2.2
    obtain ⟨b, o, sp⟩ := a
    have c0 := hc 0 (by omega)
    have c1 := hc 1 (by omega)
    have c2 := hc 2 (by omega)
    have c3 := hc 3 (by omega)
    have hsp : sp = none := by
      have he0 := hel 0 (by omega)
      rw [List.getElem?_eq_getElem (by omega)] at he0
      obtain ⟨cs0, g1, _⟩ := Option.bind_eq_some_iff.1 he0
      have q0 := (World.cells?_some g1).2
      have q1 := q0.2 0 (by omega)
      rw [List.getElem?_eq_getElem (by have := q0.1; omega)] at q1
      simpa [Addr.add] using World.cell?_spot q1
    subst hsp
    simp only [add_plain] at c0 c1 c2 c3
    exact ⟨b, o, rfl, pk, pkd, pr, aa, k, c, dd, by simpa using c0, by simpa using c1, by simpa using c2, by simpa using c3, hb, by omega⟩
theorem back22 {W W' : World} {v : Value} {d : DataW H} {p : List MemPlace} (h : DataW.Trod enc Try.prog W 0 (fun _ => true) true 22 v d p) (hlt : ∀ x ∈ p, x.block < W.heap.size) (hb : Below W.heap.size W W') :
    DataW.Trod enc Try.prog W' 0 (fun b => decide (b < W.heap.size)) true 22 v d p :=
  WideElems.Trod_stays (P := Try.prog) laidOut' (by kernel_rfl) (of_decide_eq_true (by kernel_rfl)) h (fun x hx => below_same hb (hlt x hx)) (fun x hx => by simpa using hlt x hx)
end
set_option maxRecDepth 100000 in
theorem lifted (os : Os) (started : os.Started) (H : Type) (enc : TypeId × Value → H) :
    ReturnsInHanded {} Try.checked os 3 .any (Rows.storeSwapsSpec.pre6 enc Try.prog Try.f3 Rows.storeSwapsRow.domain false) (Rows.storeSwapsSpec.post enc Try.prog Try.f3 false true false false) := by
  refine returnsInHanded_of_change_sized (C := Try.checked) own started (by kernel_rfl) Try.func3
    (ChangeSpec.witness6 (enc := enc) (C := Try.checked) false ⟨#[], #[.int .i64 0, .bool false, .slice none 0 0, .int .i64 0], []⟩ 8 (by kernel_rfl) (by kernel_rfl) (by kernel_rfl) (by kernel_rfl)) ?_
  intro W base args ds gs before hval0 hW _ hsz _
  have hval : ∀ (j : Nat) t v, Try.f3.params[j]? = some t → args[j]? = some v → Value.okWide Try.prog W .any base t v := hval0
  have hW' := hW
  obtain ⟨p, q, hA0, hV, rfl, hfz, hnd⟩ := hW
  have hA : DataW.TrodAll enc Try.prog W 0 (fun _ => true) true Try.f3.params.toList args.toList ds p := hA0
  rw [Try.params3] at hA hval hsz
  obtain ⟨v0, vs0, d0, ds0, p0, q0, hargs, rfl, rfl, h0, r0⟩ := trodAll_cons hA
  obtain ⟨v1, vs1, d1, ds1, p1, q1, rfl, rfl, rfl, h1, r1⟩ := trodAll_cons r0
  obtain ⟨v2, vs2, d2, ds2, p2, q2, rfl, rfl, rfl, h2, r2⟩ := trodAll_cons r1
  obtain ⟨v3, vs3, d3, ds3, p3, q3, rfl, rfl, rfl, h3, r3⟩ := trodAll_cons r2
  obtain ⟨rfl, rfl, rfl⟩ := trodAll_nil r3
  obtain rfl : args = #[v0, v1, v2, v3] := by cases args; simp_all
  obtain ⟨rfl, rfl⟩ := trodVars_none hV
  have hw2 : ∀ m ∈ d2.weights Try.prog 22, m ≤ reachBytes := fun m hm => by
    have := List.all_eq_true.1 hsz m (DataW.weights_mem_each (j := 2) (t := 22) rfl rfl m hm)
    simpa using this
  obtain ⟨a0, rfl, rfl, rfl, w0⟩ := open_int Try.underlying3 (hval 0 3 v0 rfl rfl) h0
  obtain ⟨a1, rfl, rfl, rfl⟩ := open_bool Try.underlying4 (hval 1 4 v1 rfl rfl) h1
  obtain ⟨ao, nw, cw, rfl, hws⟩ := open_puts (okWide_slice Try.underlying22 (hval 2 22 v2 rfl rfl)) h2 hw2 (by decide)
  obtain ⟨a3, rfl, rfl, rfl, w3⟩ := open_int Try.underlying3 (hval 3 3 v3 rfl rfl) h3
  clear hA0 hval0
  refine (law_any a0 a1 ao nw cw a3 W hws).mono fun e W' ⟨he, hg⟩ => ?_
  subst he
  have hlt : ∀ y ∈ p2, y.block < W.heap.size := fun y hy => hW'.lt y (by simp [hy])
  have e1 : Rows.storeSwapsSpec.fn H ([.lit (.int .i64 a0), .lit (.bool a1), d2, .lit (.int .i64 a3)] ++ []) = { results := [.lit (.bool true)], args := [.lit (.int .i64 a0), .lit (.bool a1), d2, .lit (.int .i64 a3)] } := rfl
  have hback : ∃ pa, DataW.TrodAll enc Try.prog W' 0 (fun b => decide (b < W.heap.size)) true Try.f3.params.toList [.int .i64 a0, .bool a1, .slice ao nw cw, .int .i64 a3] [.lit (.int .i64 a0), .lit (.bool a1), d2, .lit (.int .i64 a3)] pa := by
    rw [Try.params3]
    exact ⟨_, trodAll_cons_mk (shut_int Try.underlying3 w0) (trodAll_cons_mk (shut_bool Try.underlying4 _) (trodAll_cons_mk (back22 h2 hlt hg) (trodAll_cons_mk (shut_int Try.underlying3 w3) trodAll_mk0)))⟩
  obtain ⟨pa, hpa⟩ := hback
  refine ⟨_, rfl, _, _, _, [], pa, [], hW', ?_, ?_, ?_, hg.frame _, fun h => by cases h⟩
  · rw [e1]; exact trodAll_cons_mk (shut_bool Try.underlying4 _) trodAll_mk0
  · rw [e1]; exact hpa
  · rw [e1]; rfl

theorem over : Rows.storeSwapsRow.holds Try.pinned (OpenSpec.ofChange Rows.storeSwapsSpec) :=
  OpenClaim.holds_of_wide 3 Try.f3 rfl rfl rfl rfl rfl rfl rfl ⟨rfl, rfl, rfl, rfl, rfl⟩ rfl rfl rfl rfl rfl (by kernel_rfl) Try.func3 (by kernel_rfl)
    (of_decide_eq_true (by kernel_rfl)) (by unfold Func.isWrapper; first | (rw [if_pos (by decide +kernel)]; kernel_rfl) | (rw [if_neg (by decide +kernel)]; exact ⟨rfl, rfl⟩))
    (fun os started H enc _ => lifted os started H enc)

/-- ████ THE STATEMENT ████ -/
theorem proved : Rows.StoreSwapsSaid :=
  over
end Go.Proofs.Ytpbejbpimcidjaa.storeSwaps
