import Derived.Test.YtfbmmilphcnolaaDoorChkS
/- pathset.Has: the program's and the document's. -/
set_option linter.unusedSimpArgs false
set_option linter.unusedVariables false
namespace Go.Proofs.YtfbmmilphcnolaaDoor
open Go.RowKit Go.Lib
/-- is the path among these -/
def memB (l : List (List El)) (p : List El) : Bool := l.any (fun q => decide (lexL oeE q p = 0))
theorem memB_yes {l : List (List El)} {p : List El} {j : Nat} (h : j < l.length) (e : lexL oeE l[j] p = 0) : memB l p = true := by
  rw [memB, List.any_eq_true]
  exact ⟨l[j], List.getElem_mem h, by simpa using e⟩
theorem memB_no {l : List (List El)} {p : List El} (h : ∀ i, (hi : i < l.length) → lexL oeE l[i] p ≠ 0) : memB l p = false := by
  rw [Bool.eq_false_iff]
  intro hm
  rw [memB, List.any_eq_true] at hm
  obtain ⟨q, hq, e⟩ := hm
  obtain ⟨i, hi, rfl⟩ := List.getElem_of_mem hq
  exact h i hi (by simpa using e)
set_option maxHeartbeats 8000000 in
set_option maxRecDepth 100000 in
theorem rin_any (l : List (List El)) (p : List El) (S S' : Nat → Prop) (al : Option Addr) (cl bl ol : Nat) (ap : Option Addr) (cp bp op : Nat) (w : World) (hal : Headed al l.length cl bl ol) (hl : liesQ w S l bl ol) (hap : Headed ap p.length cp bp op) (hp : liesP w S' p bp op) (hS : ∀ b, S b → b < w.heap.size) (hS' : ∀ b, S' b → b < w.heap.size) (hwt : l.length + wtQ l ≤ 2147483647) (hwp : wtP p ≤ 2147483647) (hg : ∀ q ∈ l, pathB q = true) (hpp : pathB p = true) :
    Calls Tryd.prog 55 #[.slice al l.length cl, .slice ap p.length cp] w (BPost (memB l p) w) := by
  have HL := hmk hl
  have HP := hmk hp
  have HG := hmk hg
  have HPP := hmk hpp
  clear hl hp hg hpp
  have hlen : l.length ≤ 9223372036854775807 := by omega
  have HM1 : Hid (∀ j, (h : j < l.length) → lexL oeE l[j] p = 0 → memB l p = true) := fun j h e => memB_yes h e
  have HM2 : Hid ((∀ i, (hi : i < l.length) → lexL oeE l[i] p ≠ 0) → memB l p = false) := memB_no
  generalize memB l p = RR at *
  go_enter Tryd.func55, Tryd.ntmps55
  go_wp2_with fail
  go_loopw [5] (fun e wr => ∃ j : Nat, j ≤ l.length ∧ e = .int .i64 (j : Int) ∧ Below w.heap.size w wr ∧ Hid (∀ i, (hi : i < l.length) → i < j → lexL oeE l[i] p ≠ 0)) (fun e _ => l.length - (RowKit.intOf e).toNat)
  case atStart => exact ⟨0, by omega, rfl, Below.refl _ _, fun i hi h => by omega⟩
  case round =>
    obtain ⟨j, hj, rfl, bj, HN⟩ := hrel
    have hzr := bj.size
    by_cases hjl : j < l.length
    case neg =>
      obtain rfl : j = l.length := by omega
      have y1 : ¬ (l.length : Int) < l.length := by omega
      have HF := hmk (HM2.out (fun i hi => HN.out i hi hi))
      go_wp2_with fail
      go_ret
      exact ⟨by rw [HF.out]; rfl, bj⟩
    have y1 : (j : Int) < l.length := by omega
    obtain ⟨hSb, v, hv, aq, cq, bq, oq, rfl, hhq, hlq⟩ := HL.out j hjl
    obtain rfl : al = some ⟨bl, ol, none⟩ := hal.at_.resolve_left (by omega)
    have hk0 : ∀ x, S x → wr.heap[x]? = w.heap[x]? := fun x hx => bj.block x (hS x hx)
    have r0 : wr.cell? ⟨bl, ol + j, none⟩ = some (.slice aq (l[j]).length cq) := (World.cell?_of_block (w := w) (a := ⟨bl, ol + j, none⟩) (hk0 _ hSb)).trans hv
    have hwx : wtP l[j] ≤ 2147483647 := by have := wtQ_mem (List.getElem_mem hjl); omega
    have c0 := rcmpP_any l[j] p S S' aq cq bq oq ap cp bp op wr hhq (liesP_keep hk0 (fun _ h => h) hlq) hap (liesP_keep (fun x hx => bj.block x (hS' x hx)) (fun _ h => h) HP.out) (fun x hx => Nat.lt_of_lt_of_le (hS x hx) hzr) (fun x hx => Nat.lt_of_lt_of_le (hS' x hx) hzr) hwx hwp
    rw [cmpP_oe (HG.out _ (List.getElem_mem hjl)) HPP.out] at c0
    have c := hmk c0
    have HX1 := hmk (HM1.out j hjl)
    have HX2 : Hid (lexL oeE l[j] p ≠ 0 → ∀ i, (hi : i < l.length) → i < j + 1 → lexL oeE l[i] p ≠ 0) := fun h i hi hij => by
      by_cases e : i = j
      · subst e; exact h
      · exact HN.out i hi (by omega)
    generalize lexL oeE l[j] p = Z at *
    clear c0 hlq hv hk0 HN HM1 HM2 hwx hhq
    generalize l[j] = pj at *
    go_wp2_with fail
    refine c.out.mono ?_
    rintro e w1 ⟨rfl, b1⟩
    have B1 := bj.trans (b1.mono hzr)
    by_cases hZ : Z = 0
    · have y2 : (Z == 0) = true := by rw [hZ]; rfl
      have HF := hmk (HX1.out hZ)
      clear hZ HX1 HX2
      go_wp2_with fail
      go_ret
      exact ⟨by rw [HF.out]; rfl, B1⟩
    · have y2 : (Z == 0) = false := beq_eq_false_iff_ne.2 hZ
      have HF := hmk (HX2.out hZ)
      clear hZ HX1 HX2
      go_wp2_with fail
      go_roundw
      case rel => exact ⟨j + 1, by omega, by go_num, B1, HF⟩
      case measure => simp [RowKit.intOf]; omega
end Go.Proofs.YtfbmmilphcnolaaDoor
