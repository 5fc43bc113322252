/- StoreSwaps: the law. -/
import Derived.Test.YtpbejbpimcidjaaSwK1
import Derived.Test.YtpbejbpimcidjaaSwZ
set_option linter.unusedSimpArgs false
set_option linter.unusedVariables false
namespace Go.Proofs.Ytpbejbpimcidjaa
open Go Go.Lib Go.RowKit Go.Maps Go.Sort

/-- behind the store's first calls -/
def Bg (w0 : World) (S B : Nat) (wx : World) : Prop := ∃ first, 0 ≤ first ∧ Lp w0 S B first 0 wx
theorem bok_re {w0 W : World} {B : Nat} {first first' : Int} {row : List Value} {sv evv : Value} (h : Bok w0 W B first first [] row sv evv) : Bok w0 (W.setCell ⟨B, 0, none⟩ (.int .i64 first')) B first' first' [] row sv evv := by
  have hbox : W.heap[B]? = some (.cells (bbx first row sv evv) 37) := h.box
  have hk : Kn W (W.setCell ⟨B, 0, none⟩ (.int .i64 first')) := Kn.of_block (fun y hy => set_other hy) hbox
  obtain ⟨R, r1, r2, r3⟩ := h.states
  obtain ⟨L, l1, l2, l3⟩ := h.events
  obtain rfl : L = [] := List.map_eq_nil_iff.1 l1
  refine ⟨?_, h.now.keep hk.b5, ⟨R, r1, row_keep r2 (fun y c fr e => hk y c 33 fr e (by decide)), fun i rw hi => ?_⟩, ⟨[], rfl, row_keep l2 (fun y c fr e => hk y c 70 fr e (by decide)), fun x hx => (by cases hx)⟩, h.b, h.ok⟩
  · have := set_block hbox 0 (.int .i64 first')
    rw [bbx_set0] at this
    exact this
  · have := (r3 i rw hi).keep hk.b5
    rw [List.take_nil] at this ⊢
    exact this
theorem lp_new {w0 W : World} {S B : Nat} {first : Int} {row : List Value} {sv evv : Value} (hr : first ≤ 9007199254740991) (hs : StX w0 W S first [] 0) (hb : Bok w0 W B first first [] row sv evv) : Lp w0 S B first 0 W := by
  refine ⟨[], row, sv, evv, Nat.le_refl _, by simpa using hr, hs, ?_⟩
  have e0 : first + ((([] : List He).length : Nat) : Int) = first := by simp
  rw [e0]
  exact hb
set_option maxHeartbeats 8000000 in
set_option maxRecDepth 100000 in
theorem law_any (z : Int) (far : Bool) (ao : Option Addr) (nw cw : Nat) (flr : Int) (w : World) (hw : ∀ i, i < nw → ∃ b o, ao = some ⟨b, o, none⟩ ∧ WshAt w b (o + i * 4)) :
    Calls Try.prog 3 #[.int .i64 z, .bool far, .slice ao nw cw, .int .i64 flr] w (LawPost w) := by
  have CB := hmk (begun_any z far w)
  have HW := hmk hw
  clear hw
  go_enter Try.func3, Try.ntmps3
  go_wp2_with fail
  refine CB.out.mono ?_
  clear CB
  rintro e w1 ⟨S, B, first, row, sv, rfl, h0, h1, hbox, hS, hbk, hbel⟩
  have b1 := one_belowG w1 (.cells #[.int .u8 1] 5)
  have hX := heap_alloc_new w1 (.cells #[.int .u8 1] 5)
  have HBX := hmk ((b1.block S (lt_of_block hbox)).trans hbox)
  have HBK := hmk (hbk.keep (Kb.of_below b1))
  have HFR : Hid (Fr (F0 w) w (w1.alloc (.cells #[.int .u8 1] 5))) := by
    have f0 : Fr (F0 w) w w1 := ⟨hbel.os, hbel.tape, hbel.output, hbel.size, fun y hy => hbel.block y hy, fun y hy => hy⟩
    exact f0.below b1
  have HX := hmk hX
  have HS := hmk hS
  have HB1 : Hid (Below w.heap.size w (w1.alloc (.cells #[.int .u8 1] 5))) := hbel.trans (b1.mono hbel.size)
  clear hbox hS hbk hbel b1 hX
  go_upto_region 4 with fail
  rcases Int.lt_or_eq_of_le h1 with hlt | hm
  · have CC := hmk (other_create (w1.alloc (.cells #[.int .u8 1] 5)) S first HBX.out h0 hlt w1.heap.size HX.out)
    have hlb : decide (first < 9007199254740991) = true := decide_eq_true hlt
    go_wp2_with fail
    generalize (w1.alloc (.cells #[.int .u8 1] 5)) = W at *
    refine CC.out.mono ?_
    rintro e W1 ⟨rfl, bb, bn, pv, hst⟩
    have hb := HBK.out.keep (kb_of_fo hst.bel HBX.out)
    have c0 := hb.c0
    have HB := hmk hb
    have HST := hmk hst
    have hBl := lt_of_block hb.box
    clear CC hb hst HX
    have yne : (first + 1 == first + 1) = true := beq_self_eq_true _
    go_upto_if 50 with fail
    clear c0
    go_cut [] (fun wx => Hid (Bg w S B wx))
    case first =>
      by_cases h2 : first + 1 < 9007199254740991
      · have CR := hmk (other_remove HST.out h0 h2)
        have hne : (first + 1 == 9007199254740991) = false := by rw [beq_eq_false_iff_ne]; omega
        go_wp2_with fail
        refine CR.out.mono ?_
        rintro e W2 ⟨rfl, pv2, h3⟩
        have CP := hmk (other_compact h3 h0 h2)
        have HK := hmk (kb_of_fo h3.bel HBX.out)
        clear CR h3 HST
        go_wp2_with fail
        refine CP.out.mono ?_
        rintro e W3 ⟨rfl, pv3, h4⟩
        have hb3 := HBK.out.keep (kb_of_fo h4.bel HBX.out)
        have c0 := hb3.c0
        have f0 : W3.frozen? ⟨B, 0, none⟩ = false := frozen_of_block hb3.box 0
        have hs3 := stx_new h4 HFR.out HS.out
        have hod : ∀ y, y ≠ B → (W3.setCell ⟨B, 0, none⟩ (.int .i64 (first + 1 + 1))).heap[y]? = W3.heap[y]? := fun y hy => set_other hy
        have hB0 : ¬ F0 w B := fun q => by have := hb3.b; unfold F0 at q; omega
        have HLP : Hid (Lp w S B (first + 1 + 1) 0 (W3.setCell ⟨B, 0, none⟩ (.int .i64 (first + 1 + 1)))) := lp_new (by omega) (hs3.keepB (hs3.bel.grown (grown_set1 W3 B 0 (.int .i64 (first + 1 + 1))) hB0) (Ks.of_block hod hb3.box (.inl rfl))) (bok_re hb3)
        clear CP HK h4 hb3 hs3 hod
        go_wp2_with fail
        go_meet
        exact ⟨_, by omega, HLP.out⟩
      · have CR := hmk (other_last HST.out (by omega))
        have hne : (first + 1 == 9007199254740991) = true := by simp; omega
        go_wp2_with fail
        refine CR.out.mono ?_
        rintro e W2 ⟨rfl, b2⟩
        have cf := ((HFR.out.trans HST.out.bel (fun y hy => ⟨Nat.lt_of_lt_of_le hy HFR.out.size, fun q => by have := HS.out; unfold F0 at hy; omega⟩)).below b2).bel0
        go_wp2_with fail
        go_ret
        exact ⟨rfl, cf⟩
    case rest =>
      obtain ⟨f, hf, HL⟩ := hcut.out
      refine (‹∀ (a : Act) (w : World), Code.wp Try.prog _ _ a w → _› _ _ ?_)
      exact law_tail w wc S B z far ao nw cw flr f hf HW (hmk HL) _ _ _ _ _ _ _ _ _ _ _ _ _ _ _ _ _ _ _ _ _ _ _ _ _ _ _ _ _ _ _ _ _ _ _ _ _ _ _ _ _ _ _ _ _ _ _ _ _ _ _ _ _ _ _ _ _ _ _ _ _ _ _ _ _ _ _ _ _ _ _ _ _ _ _ _ _ _ _ _ _ _ _ _ _ _ _ _ _ _ _ _ _ _ _ _ _ _ _ _ _ _ _ _ _ _ _ _ _ _ _ _ _ _ _ _ _ _ _ _ _ _ _ _ _ _ _ _ _ _ _ _ _ _ _ _ _ _ _ _ _ _ _ _ _ _ _ _ _ _ _ _ _
  · have CC := hmk (other_worn (w1.alloc (.cells #[.int .u8 1] 5)) S first HBX.out (by omega) w1.heap.size HX.out)
    have hlb : decide (first < 9007199254740991) = false := decide_eq_false (by omega)
    have hnl : ¬ first < 9007199254740991 := by omega
    go_wp2_with fail
    generalize (w1.alloc (.cells #[.int .u8 1] 5)) = W at *
    refine CC.out.mono ?_
    rintro e W1 ⟨rfl, b2⟩
    have hb := HBK.out.keep (Kb.of_below b2)
    have c0 := hb.c0
    have HB := hmk hb
    have HB2 := hmk b2
    have HLP : Hid (Lp w S B first 0 W1) := lp_new (by omega) (stx_worn ((b2.block S (lt_of_block HBX.out)).trans HBX.out) hm (HFR.out.below b2) HS.out) hb
    clear CC HBK hb HX b2
    go_upto_if 50 with fail
    clear c0
    go_cut [] (fun wx => Hid (Bg w S B wx))
    case first =>
      go_wp2_with fail
      go_meet
      exact ⟨_, h0, HLP.out⟩
    case rest =>
      obtain ⟨f, hf, HL⟩ := hcut.out
      refine (‹∀ (a : Act) (w : World), Code.wp Try.prog _ _ a w → _› _ _ ?_)
      exact law_tail w wc S B z far ao nw cw flr f hf HW (hmk HL) _ _ _ _ _ _ _ _ _ _ _ _ _ _ _ _ _ _ _ _ _ _ _ _ _ _ _ _ _ _ _ _ _ _ _ _ _ _ _ _ _ _ _ _ _ _ _ _ _ _ _ _ _ _ _ _ _ _ _ _ _ _ _ _ _ _ _ _ _ _ _ _ _ _ _ _ _ _ _ _ _ _ _ _ _ _ _ _ _ _ _ _ _ _ _ _ _ _ _ _ _ _ _ _ _ _ _ _ _ _ _ _ _ _ _ _ _ _ _ _ _ _ _ _ _ _ _ _ _ _ _ _ _ _ _ _ _ _ _ _ _ _ _ _ _ _ _ _ _ _ _ _ _
end Go.Proofs.Ytpbejbpimcidjaa
