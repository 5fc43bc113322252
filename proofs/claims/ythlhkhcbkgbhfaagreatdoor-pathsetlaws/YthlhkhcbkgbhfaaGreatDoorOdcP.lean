import Derived.Test.YthlhkhcbkgbhfaaGreatDoorG15
/- Compare, Above: the program's and the document's. -/
set_option linter.unusedSimpArgs false
set_option linter.unusedVariables false
namespace Go.Proofs.YthlhkhcbkgbhfaaGreatDoor
open Go.RowKit Go.Lib
theorem errP_yes {p : List El} (h : pathB p = true) : errP p = 0 := by rw [errP, if_pos h]
theorem errP_no {p : List El} (h : pathB p = false) : errP p = 90 := by rw [errP, if_neg (by rw [h]; simp)]
/-- the order of two paths -/
def cmpP (a b : List El) : Int := if pathB a = true ∧ pathB b = true then lexL reE a b else 0
theorem cmpP_no {a b : List El} (h : ¬ (pathB a = true ∧ pathB b = true)) : cmpP a b = 0 := by rw [cmpP, if_neg h]
theorem cmpP_yes {a b : List El} (h : pathB a = true) (h' : pathB b = true) : cmpP a b = lexL reE a b := by rw [cmpP, if_pos ⟨h, h'⟩]
set_option maxHeartbeats 8000000 in
set_option maxRecDepth 100000 in
theorem cmpP_any (a b : List El) (S S' : Nat → Prop) (aa : Option Addr) (ca ba oa : Nat) (ab : Option Addr) (cb bb ob : Nat) (w : World) (tb : Tb w) (hha : Headed aa a.length ca ba oa) (hla : liesP w S a ba oa) (hhb : Headed ab b.length cb bb ob) (hlb : liesP w S' b bb ob) (hS : ∀ x, S x → x < w.heap.size) (hS' : ∀ x, S' x → x < w.heap.size) (hwa : wtP a ≤ 2147483647) (hwb : wtP b ≤ 2147483647) :
    Calls Tryz.prog 35 #[.slice aa a.length ca, .slice ab b.length cb] w (JPost (cmpP a b) w) := by
  have HA := hmk hla
  have HB := hmk hlb
  clear hla hlb
  have ca_ := hmk (pcheck_any a S aa ca ba oa w tb hha HA.out hS hwa)
  cases ha : pathB a with
  | false =>
    have ya : (((errP a : Nat) : Int) != 0) = true := by rw [errP_no ha]; rfl
    generalize errP a = Ea at *
    go_enter Tryz.func35, Tryz.ntmps35
    go_wp2_with fail
    refine ca_.out.mono ?_
    rintro e w1 ⟨rfl, b1⟩
    go_wp2_with fail
    go_ret
    exact ⟨by rw [cmpP_no (by rw [ha]; simp)]; rfl, b1⟩
  | true =>
  cases hb : pathB b with
  | false =>
    have ya : (((errP a : Nat) : Int) != 0) = false := by rw [errP_yes ha]; rfl
    have yb : (((errP b : Nat) : Int) != 0) = true := by rw [errP_no hb]; rfl
    have cb_ : Hid (∀ W, Below w.heap.size w W → Calls Tryz.prog 21 #[.slice ab b.length cb] W (NPost (errP b) W)) := fun W h => pcheck_any b S' ab cb bb ob W (tb.below h tb.z) hhb (liesP_keep (fun x hx => h.block x (hS' x hx)) (fun _ h => h) HB.out) (fun x hx => Nat.lt_of_lt_of_le (hS' x hx) h.size) hwb
    generalize errP a = Ea at *
    generalize errP b = Eb at *
    go_enter Tryz.func35, Tryz.ntmps35
    go_wp2_with fail
    refine ca_.out.mono ?_
    rintro e w1 ⟨rfl, b1⟩
    go_wp2_with fail
    refine (cb_.out w1 b1).mono ?_
    rintro e w2 ⟨rfl, b2⟩
    have b2' := b1.trans (b2.mono b1.size)
    go_wp2_with fail
    go_ret
    exact ⟨by rw [cmpP_no (by rw [hb]; simp)]; rfl, b2'⟩
  | true =>
    have ya : (((errP a : Nat) : Int) != 0) = false := by rw [errP_yes ha]; rfl
    have yb : (((errP b : Nat) : Int) != 0) = false := by rw [errP_yes hb]; rfl
    have cb_ : Hid (∀ W, Below w.heap.size w W → Calls Tryz.prog 21 #[.slice ab b.length cb] W (NPost (errP b) W)) := fun W h => pcheck_any b S' ab cb bb ob W (tb.below h tb.z) hhb (liesP_keep (fun x hx => h.block x (hS' x hx)) (fun _ h => h) HB.out) (fun x hx => Nat.lt_of_lt_of_le (hS' x hx) h.size) hwb
    generalize errP a = Ea at *
    generalize errP b = Eb at *
    go_enter Tryz.func35, Tryz.ntmps35
    go_wp2_with fail
    refine ca_.out.mono ?_
    rintro e w1 ⟨rfl, b1⟩
    go_wp2_with fail
    refine (cb_.out w1 b1).mono ?_
    rintro e w2 ⟨rfl, b2⟩
    have b2' := b1.trans (b2.mono b1.size)
    clear b1 b2 ca_ cb_
    have HC : Hid (cmpP a b = lexL oeE a b) := by show _ = _; rw [cmpP_yes ha hb, op_rp (pathB_all ha).2 (pathB_all hb).2]
    have c := hmk (opaths_any a b S S' aa ca ba oa ab cb bb ob w2 hha (liesP_keep (fun x hx => b2'.block x (hS x hx)) (fun _ h => h) HA.out) hhb (liesP_keep (fun x hx => b2'.block x (hS' x hx)) (fun _ h => h) HB.out) (fun x hx => Nat.lt_of_lt_of_le (hS x hx) b2'.size) (fun x hx => Nat.lt_of_lt_of_le (hS' x hx) b2'.size))
    generalize cmpP a b = RR at *
    generalize lexL oeE a b = ZZ at *
    clear ha hb
    go_wp2_with fail
    refine c.out.mono ?_
    rintro e w3 ⟨rfl, b3⟩
    go_wp2_with fail
    go_ret
    exact ⟨by rw [HC.out]; rfl, b2'.trans (b3.mono b2'.size)⟩
end Go.Proofs.YthlhkhcbkgbhfaaGreatDoor
