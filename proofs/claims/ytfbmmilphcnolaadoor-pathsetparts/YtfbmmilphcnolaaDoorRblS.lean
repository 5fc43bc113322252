import Derived.Test.YtfbmmilphcnolaaDoorSamS
import Derived.Test.YtfbmmilphcnolaaDoorG44
/- The document's Below and Ends. -/
set_option linter.unusedSimpArgs false
set_option linter.unusedVariables false
namespace Go.Proofs.YtfbmmilphcnolaaDoor
open Go.RowKit Go.Lib
/-- what is answered: a list and an error -/
def BwPost (R : List (List El)) (er : Nat) (S : Nat → Prop) (w : World) (e : Ending) (w' : World) : Prop := ∃ a c b o, e = .returned (.tuple #[.slice a R.length c, .int .i64 (er : Int)]) ∧ Headed a R.length c b o ∧ liesQ w' (Tw S w w') R b o ∧ Below w.heap.size w w'
theorem bw_nil {er : Nat} {S : Nat → Prop} {w w' : World} (hb : Below w.heap.size w w') {e : Ending} (he : e = .returned (.tuple #[.slice none 0 0, .int .i64 (er : Int)])) : BwPost [] er S w e w' :=
  ⟨none, 0, 0, 0, he, ⟨Nat.le_refl _, by simp [maxLen], .inl rfl, fun _ => rfl⟩, fun j hj => by simp at hj, hb⟩
def errB (l : List (List El)) (p : List El) : Nat := if errS l = 0 then errP p else errS l
def belL (l : List (List El)) (p : List El) : List (List El) := if errB l p = 0 then l.filter (isB p) else []
def endL (l : List (List El)) : List (List El) := if errS l = 0 then l.filter (endB l) else []
set_option maxHeartbeats 4000000 in
theorem rbelow_any (q p : List El) (S S' : Nat → Prop) (aq : Option Addr) (cq bq oq : Nat) (ap : Option Addr) (cp bp op : Nat) (w : World) (haq : Headed aq q.length cq bq oq) (hq : liesP w S q bq oq) (hap : Headed ap p.length cp bp op) (hp : liesP w S' p bp op) (hS : ∀ x, S x → x < w.heap.size) (hS' : ∀ x, S' x → x < w.heap.size) (hwq : wtP q ≤ 2147483647) (hwp : wtP p ≤ 2147483647) (h1 : pathB q = true) (h2 : pathB p = true) :
    Calls Tryd.prog 33 #[.slice aq q.length cq, .slice ap p.length cp] w (BPost (isB p q) w) := by
  have c := hmk (rabvP_any p q S' S ap cp bp op aq cq bq oq w hap hp haq hq hS' hS hwp hwq)
  rw [abvP_cab h2 h1] at c
  clear hq hp
  have hnq : q.length ≤ 9223372036854775807 := Nat.le_trans haq.le haq.max
  have hnp : p.length ≤ 9223372036854775807 := Nat.le_trans hap.le hap.max
  by_cases hlen : p.length < q.length
  · have y1 : (p.length : Int) < q.length := by omega
    have HF : Hid (isB p q = cabP p q) := by show _ = _; rw [isB]; simp [hlen]
    generalize isB p q = RR at *
    generalize cabP p q = ZZ at *
    go_enter Tryd.func33, Tryd.ntmps33
    go_wp2_with fail
    refine c.out.mono ?_
    rintro e w1 ⟨rfl, b1⟩
    go_wp2_with fail
    go_ret
    exact ⟨by rw [HF.out]; rfl, b1⟩
  · have y1 : ¬ (p.length : Int) < q.length := by omega
    have HF : Hid (isB p q = false) := by show _ = _; rw [isB]; simp [hlen]
    generalize isB p q = RR at *
    go_enter Tryd.func33, Tryd.ntmps33
    go_wp2_with fail
    go_ret
    exact ⟨by rw [HF.out]; rfl, Below.refl _ _⟩
set_option maxHeartbeats 16000000 in
set_option maxRecDepth 100000 in
theorem rbel_any (l : List (List El)) (p : List El) (S : Nat → Prop) (al : Option Addr) (cl bl ol : Nat) (ap : Option Addr) (cp bp op : Nat) (w : World) (hal : Headed al l.length cl bl ol) (hl : liesQ w S l bl ol) (hap : Headed ap p.length cp bp op) (hp : liesP w S p bp op) (hS : ∀ b, S b → b < w.heap.size) (hwt : l.length + wtQ l ≤ 2147483647) (hwp : wtP p ≤ 2147483647) :
    Calls Tryd.prog 10 #[.slice al l.length cl, .slice ap p.length cp] w (BwPost (belL l p) (errB l p) S w) := by
  have HL := hmk hl
  have HP := hmk hp
  have HS := hmk hS
  clear hl hp
  have c1 := hmk (rschk_any l S al cl bl ol w hal HL.out hS hwt)
  have C2 : Hid (∀ W, Below w.heap.size w W → Calls Tryd.prog 32 #[.slice ap p.length cp] W (NPost (errP p) W)) := fun W hb => rpcheck_any p S ap cp bp op W hap (liesP_keep (fun x hx => hb.block x (hS x hx)) (fun _ h => h) HP.out) (fun x hx => Nat.lt_of_lt_of_le (hS x hx) hb.size) hwp
  have hlen : l.length ≤ 9223372036854775807 := by omega
  by_cases h0 : errS l = 0
  case neg =>
    have y1 : (((errS l : Nat) : Int) != 0) = true := by rw [bne_iff_ne]; omega
    have HE : Hid (errB l p = errS l ∧ belL l p = []) := by
      have e : errB l p = errS l := by rw [errB, if_neg h0]
      exact ⟨e, by rw [belL, e, if_neg h0]⟩
    generalize errB l p = Eb at *
    generalize belL l p = RB at *
    generalize errS l = Es at *
    clear h0 C2
    go_enter Tryd.func10, Tryd.ntmps10
    go_wp2_with fail
    refine c1.out.mono ?_
    rintro e w1 ⟨rfl, b1⟩
    go_wp2_with fail
    go_ret2
    rw [HE.out.2]
    exact bw_nil b1 (by rw [HE.out.1]; rfl)
  have y1 : (((errS l : Nat) : Int) != 0) = false := by rw [h0]; rfl
  have HZ := hmk (setC_zero h0)
  cases hpb : pathB p with
  | false =>
    have ya : (((errP p : Nat) : Int) != 0) = true := by rw [errP_no hpb]; rfl
    have HE : Hid (errB l p = 90 ∧ belL l p = []) := by
      have e : errB l p = 90 := by rw [errB, if_pos h0, errP_no hpb]
      exact ⟨e, by rw [belL, e]; rfl⟩
    generalize errB l p = Eb at *
    generalize belL l p = RB at *
    generalize errS l = Es at *
    generalize errP p = Ea at *
    clear h0 hpb HZ
    go_enter Tryd.func10, Tryd.ntmps10
    go_wp2_with fail
    refine c1.out.mono ?_
    rintro e w1 ⟨rfl, b1⟩
    have c2 := hmk (C2.out w1 b1)
    go_wp2_with fail
    refine c2.out.mono ?_
    rintro e w2 ⟨rfl, b2⟩
    go_wp2_with fail
    go_ret2
    rw [HE.out.2]
    exact bw_nil (b1.trans (b2.mono b1.size)) (by rw [HE.out.1]; rfl)
  | true =>
  have ya : (((errP p : Nat) : Int) != 0) = false := by rw [errP_yes hpb]; rfl
  have HE : Hid (errB l p = 0 ∧ belL l p = l.filter (isB p)) := by
    have e : errB l p = 0 := by rw [errB, if_pos h0, errP_yes hpb]
    exact ⟨e, by rw [belL, e]; rfl⟩
  have CQ : Hid (∀ (j : Nat) (hj : j < l.length), ∃ (X : PC w S) (aq : Option Addr) (cq : Nat), (X.p = l[j] ∧ X.enc = .slice aq (l[j]).length cq) ∧ (∀ W, Below w.heap.size w W → W.cell? ⟨bl, ol + j, none⟩ = some (.slice aq (l[j]).length cq)) ∧ ∀ W, Below w.heap.size w W → Calls Tryd.prog 33 #[.slice aq (l[j]).length cq, .slice ap p.length cp] W (BPost (isB p l[j]) W)) := fun j hj => by
    obtain ⟨hSb, v, hv, aq, cq, bq, oq, rfl, hhq, hlq⟩ := HL.out j hj
    exact ⟨⟨l[j], aq, cq, bq, oq, hhq, hlq⟩, aq, cq, ⟨rfl, rfl⟩, fun W hb => (World.cell?_of_block (w := w) (a := ⟨bl, ol + j, none⟩) (hb.block _ (HS.out _ hSb))).trans hv, fun W hb => rbelow_any l[j] p S S aq cq bq oq ap cp bp op W hhq (liesP_keep (fun x hx => hb.block x (HS.out x hx)) (fun _ h => h) hlq) hap (liesP_keep (fun x hx => hb.block x (HS.out x hx)) (fun _ h => h) HP.out) (fun x hx => Nat.lt_of_lt_of_le (HS.out x hx) hb.size) (fun x hx => Nat.lt_of_lt_of_le (HS.out x hx) hb.size) (by have := wtQ_mem (List.getElem_mem hj); omega) hwp (HZ.out.1 _ (List.getElem_mem hj)) hpb⟩
  generalize errB l p = Eb at *
  generalize belL l p = RB at *
  generalize errS l = Es at *
  generalize errP p = Ea at *
  clear h0 hpb
  obtain ⟨i0, hi0, hz0, hz1, hz2⟩ := info_parts info33
  have hI : Hid (Tryd.prog.info? 24 = some i0 ∧ i0.zero = some (.slice none 0 0) ∧ i0.size = 1 ∧ i0.bytes = 24) := ⟨hi0, hz0, hz1, hz2⟩
  clear hi0 hz0 hz1 hz2
  go_enter Tryd.func10, Tryd.ntmps10
  go_wp2_with fail
  refine c1.out.mono ?_
  rintro e w1 ⟨rfl, b1⟩
  have c2 := hmk (C2.out w1 b1)
  go_wp2_with fail
  refine c2.out.mono ?_
  rintro e w2 ⟨rfl, b2⟩
  have B2 := b1.trans (b2.mono b1.size)
  clear b1 b2 c1 c2 C2
  go_wp2_with fail
  go_loopw [8, 9] (fun e8 e9 wr => ∃ (j : Nat) (R : List (PC w S)) (ov : Value), j ≤ l.length ∧ e8 = ov ∧ e9 = .int .i64 (j : Int) ∧ Below w.heap.size w wr ∧ Hid (R.map PC.p = (l.take j).filter (isB p)) ∧ Hid (wr.ownsRow w.heap.size 24 1 ov R.length (R.map PC.enc)) ∧ R.length ≤ j) (fun _ e9 _ => l.length - (RowKit.intOf e9).toNat)
  case atStart => exact ⟨0, [], _, by omega, rfl, rfl, B2, (by show _ = _; simp), World.ownsRow_nil _ _ _ _, Nat.le_refl _⟩
  case round =>
    clear B2
    obtain ⟨j, R, ov, hj, rfl, rfl, bj, HR, OR, hRj⟩ := hrel
    have hzr := bj.size
    by_cases hjl : j < l.length
    case neg =>
      obtain rfl : j = l.length := by omega
      have y3 : ¬ (l.length : Int) < l.length := by omega
      have HRE : Hid (R.map PC.p = RB) := by show _ = _; rw [HR.out, List.take_length, HE.out.2]
      obtain ⟨sa, sc, sb, so, rfl, hdl, hLs⟩ := own_lies (T := Tw S w wr) OR.out (fun b hb => bj.block b (hS b hb)) (fun b hb => .inl hb) (fun g h1 h2 => .inr ⟨h1, h2⟩)
      rw [HRE.out] at hdl hLs ⊢
      have HLs := hmk hLs
      have HHd := hmk hdl
      clear hLs OR HR hdl
      go_wp2_with fail
      go_ret2
      exact ⟨sa, sc, sb, so, by rw [HE.out.1]; rfl, HHd.out, HLs.out, bj⟩
    have y3 : (j : Int) < l.length := by omega
    obtain ⟨X, aq, cq, hX, hcell, hcall⟩ := CQ.out j hjl
    obtain rfl : al = some ⟨bl, ol, none⟩ := hal.at_.resolve_left (by omega)
    have HX := hmk hX
    have RC := hmk hcell
    have c := hmk (hcall wr bj)
    have rq := hcell wr bj
    have HTP : Hid ((l.take (j + 1)).filter (isB p) = (l.take j).filter (isB p) ++ (if isB p l[j] = true then [l[j]] else [])) := by
      show _ = _
      rw [List.take_succ_eq_append_getElem hjl, List.filter_append]
      congr 1
      by_cases h : isB p l[j] = true <;> simp [h]
    clear hX hcell hcall
    cases hb : isB p l[j] with
    | false =>
      rw [hb] at c HTP
      have HR2 : Hid (R.map PC.p = (l.take (j + 1)).filter (isB p)) := by show _ = _; rw [HTP.out, HR.out]; simp
      clear hb HTP HR HX
      generalize l[j] = pj at *
      go_wp2_with fail
      refine c.out.mono ?_
      rintro e w3 ⟨rfl, b3⟩
      have O3 := hmk (own_below OR.out b3)
      go_wp2_with fail
      go_roundw
      case rel => exact ⟨j + 1, R, _, by omega, rfl, by go_num, bj.trans (b3.mono hzr), HR2, O3, by omega⟩
      case measure => simp [RowKit.intOf]; omega
    | true =>
      rw [hb] at c HTP
      have HR2 : Hid ((R ++ [X]).map PC.p = (l.take (j + 1)).filter (isB p)) := by show _ = _; rw [HTP.out, List.map_append, HR.out]; simp [HX.out.1]
      clear hb HTP HR
      generalize l[j] = pj at *
      go_wp2_with fail
      refine c.out.mono ?_
      rintro e w2 ⟨rfl, b2⟩
      have BB := bj.trans (b2.mono hzr)
      have OW := hmk (own_below OR.out b2)
      have rq2 := RC.out w2 BB
      have hz2 := BB.size
      clear c rq b2 bj OR
      have hal1 := alloc_size w2 (.cells #[.slice aq pj.length cq] 24)
      have hne1 := heap_alloc_new w2 (.cells #[.slice aq pj.length cq] 24)
      have CLX : Hid (∀ j u, [Value.slice aq pj.length cq][j]? = some u → (w2.alloc (.cells #[.slice aq pj.length cq] 24)).cell? ⟨w2.heap.size, 0 + j, none⟩ = some u) := fun j u hu => by
        rw [Nat.zero_add, cell_of_block hne1]
        rw [← hu]
        rw [← Array.getElem?_toList]
      have gal : Hid (w2.grownBy (w2.alloc (.cells #[.slice aq pj.length cq] 24)) none) := World.grownBy_alloc _ _ _
      have hvr : Hid (∀ r, u8.ownBlock = some r → w.heap.size ≤ r ∧ r < w2.heap.size) := fun r hr => OW.out.lt r hr
      go_wp2_with (at_builtin; go_loud (refine wpl_catP rfl (.tmp 31) (.tmp 36) 22 rfl w.heap.size 24 i0 _ 1 24 Tryd.underlying22 hI.out.1 hI.out.2.1 hI.out.2.2.1 hI.out.2.2.2 rfl (by decide) (by decide) u8 _ _ rfl (own_keep OW.out gal.out (fun r e => by cases e)) (some ⟨w2.heap.size, 0, none⟩) 1 1 w2.heap.size 0 rfl ⟨Nat.le_refl _, by simp [maxLen], .inr rfl, fun h => by cases h⟩ [.slice aq pj.length cq] rfl CLX.out oneQ (by omega) (by omega) ?_))
      intro v3 w3 o3 g3
      have hz3 := g3.size
      have B3 : Hid (Below w.heap.size w w3) := (BB.grown gal.out (by omega) (fun r e => by cases e)).grown g3 (by omega) (fun r e => by have := (hvr.out r e).1; omega)
      have O3 : Hid (w3.ownsRow w.heap.size 24 1 v3 (R ++ [X]).length ((R ++ [X]).map PC.enc)) := by
        have e1 : (R ++ [X]).length = R.length + 1 := by simp
        have e2 : (R ++ [X]).map PC.enc = R.map PC.enc ++ [.slice aq pj.length cq] := by simp [HX.out.2]
        show World.ownsRow _ _ _ _ _ _ _
        rw [e1, e2]
        exact o3
      have hlen2 : (R ++ [X]).length ≤ j + 1 := by simp; omega
      clear o3 g3 OW
      go_wp2_with fail
      go_roundw
      case rel => exact ⟨j + 1, R ++ [X], _, by omega, rfl, by go_num, B3.out, HR2, O3, hlen2⟩
      case measure => simp [RowKit.intOf]; omega
set_option maxHeartbeats 16000000 in
set_option maxRecDepth 100000 in
theorem rends_any (l : List (List El)) (S : Nat → Prop) (al : Option Addr) (cl bl ol : Nat) (w : World) (hal : Headed al l.length cl bl ol) (hl : liesQ w S l bl ol) (hS : ∀ b, S b → b < w.heap.size) (hwt : l.length + wtQ l ≤ 2147483647) :
    Calls Tryd.prog 13 #[.slice al l.length cl] w (BwPost (endL l) (errS l) S w) := by
  have HL := hmk hl
  have HS := hmk hS
  clear hl
  have c1 := hmk (rschk_any l S al cl bl ol w hal HL.out hS hwt)
  have hlen : l.length ≤ 9223372036854775807 := by omega
  by_cases h0 : errS l = 0
  case neg =>
    have y1 : (((errS l : Nat) : Int) != 0) = true := by rw [bne_iff_ne]; omega
    have HE : Hid (endL l = []) := by show _ = _; rw [endL, if_neg h0]
    generalize endL l = RB at *
    generalize errS l = Es at *
    clear h0
    go_enter Tryd.func13, Tryd.ntmps13
    go_wp2_with fail
    refine c1.out.mono ?_
    rintro e w1 ⟨rfl, b1⟩
    go_wp2_with fail
    go_ret2
    rw [HE.out]
    exact bw_nil b1 rfl
  have y1 : (((errS l : Nat) : Int) != 0) = false := by rw [h0]; rfl
  have HZ := hmk (setC_zero h0)
  have HE : Hid (endL l = l.filter (endB l)) := by show _ = _; rw [endL, if_pos h0]
  have HE0 := hmk h0
  have CQ : Hid (∀ (j : Nat) (hj : j < l.length), ∃ (X : PC w S) (aq : Option Addr) (cq : Nat), (X.p = l[j] ∧ X.enc = .slice aq (l[j]).length cq) ∧ (∀ W, Below w.heap.size w W → W.cell? ⟨bl, ol + j, none⟩ = some (.slice aq (l[j]).length cq)) ∧ ∀ (k : Nat) (hk : k < l.length) W, Below w.heap.size w W → ∃ (ak : Option Addr) (ck : Nat), W.cell? ⟨bl, ol + k, none⟩ = some (.slice ak (l[k]).length ck) ∧ ∀ W', Below w.heap.size w W' → Calls Tryd.prog 33 #[.slice ak (l[k]).length ck, .slice aq (l[j]).length cq] W' (BPost (isB l[j] l[k]) W')) := fun j hj => by
    obtain ⟨hSb, v, hv, aq, cq, bq, oq, rfl, hhq, hlq⟩ := HL.out j hj
    refine ⟨⟨l[j], aq, cq, bq, oq, hhq, hlq⟩, aq, cq, ⟨rfl, rfl⟩, fun W hb => (World.cell?_of_block (w := w) (a := ⟨bl, ol + j, none⟩) (hb.block _ (HS.out _ hSb))).trans hv, fun k hk W hb => ?_⟩
    obtain ⟨hSk, vk, hvk, ak, ck, bk, ok_, rfl, hhk, hlk⟩ := HL.out k hk
    exact ⟨ak, ck, (World.cell?_of_block (w := w) (a := ⟨bl, ol + k, none⟩) (hb.block _ (HS.out _ hSk))).trans hvk, fun W' hb' => rbelow_any l[k] l[j] S S ak ck bk ok_ aq cq bq oq W' hhk (liesP_keep (fun x hx => hb'.block x (HS.out x hx)) (fun _ h => h) hlk) hhq (liesP_keep (fun x hx => hb'.block x (HS.out x hx)) (fun _ h => h) hlq) (fun x hx => Nat.lt_of_lt_of_le (HS.out x hx) hb'.size) (fun x hx => Nat.lt_of_lt_of_le (HS.out x hx) hb'.size) (by have := wtQ_mem (List.getElem_mem hk); omega) (by have := wtQ_mem (List.getElem_mem hj); omega) (HZ.out.1 _ (List.getElem_mem hk)) (HZ.out.1 _ (List.getElem_mem hj))⟩
  generalize endL l = RB at *
  generalize errS l = Es at *
  clear h0
  obtain ⟨i0, hi0, hz0, hz1, hz2⟩ := info_parts info33
  have hI : Hid (Tryd.prog.info? 24 = some i0 ∧ i0.zero = some (.slice none 0 0) ∧ i0.size = 1 ∧ i0.bytes = 24) := ⟨hi0, hz0, hz1, hz2⟩
  clear hi0 hz0 hz1 hz2
  go_enter Tryd.func13, Tryd.ntmps13
  go_wp2_with fail
  refine c1.out.mono ?_
  rintro e w1 ⟨rfl, b1⟩
  clear c1
  go_wp2_with fail
  go_loopw [5, 6] (fun e5 e6 wr => ∃ (j : Nat) (R : List (PC w S)) (ov : Value), j ≤ l.length ∧ e5 = ov ∧ e6 = .int .i64 (j : Int) ∧ Below w.heap.size w wr ∧ Hid (R.map PC.p = (l.take j).filter (endB l)) ∧ Hid (wr.ownsRow w.heap.size 24 1 ov R.length (R.map PC.enc)) ∧ R.length ≤ j) (fun _ e6 _ => l.length - (RowKit.intOf e6).toNat)
  case atStart => exact ⟨0, [], _, by omega, rfl, rfl, b1, (by show _ = _; simp), World.ownsRow_nil _ _ _ _, Nat.le_refl _⟩
  case round =>
    clear b1
    obtain ⟨j, R, ov, hj, rfl, rfl, bj, HR, OR, hRj⟩ := hrel
    rename World => wO
    have hzr := bj.size
    by_cases hjl : j < l.length
    case neg =>
      obtain rfl : j = l.length := by omega
      have y3 : ¬ (l.length : Int) < l.length := by omega
      have HRE : Hid (R.map PC.p = RB) := by show _ = _; rw [HR.out, List.take_length, HE.out]
      obtain ⟨sa, sc, sb, so, rfl, hdl, hLs⟩ := own_lies (T := Tw S w wO) OR.out (fun b hb => bj.block b (hS b hb)) (fun b hb => .inl hb) (fun g h1 h2 => .inr ⟨h1, h2⟩)
      rw [HRE.out] at hdl hLs ⊢
      have HLs := hmk hLs
      have HHd := hmk hdl
      clear hLs OR HR hdl
      go_wp2_with fail
      go_ret2
      exact ⟨sa, sc, sb, so, by rw [HE0.out]; rfl, HHd.out, HLs.out, bj⟩
    have y3 : (j : Int) < l.length := by omega
    obtain ⟨X, aq, cq, hX, hcell, hcall⟩ := CQ.out j hjl
    obtain rfl : al = some ⟨bl, ol, none⟩ := hal.at_.resolve_left (by omega)
    have HX := hmk hX
    have RC := hmk hcell
    have KC := hmk hcall
    have HTP : Hid ((l.take (j + 1)).filter (endB l) = (l.take j).filter (endB l) ++ (if endB l l[j] = true then [l[j]] else [])) := by
      show _ = _
      rw [List.take_succ_eq_append_getElem hjl, List.filter_append]
      congr 1
      by_cases h : endB l l[j] = true <;> simp [h]
    have HEB : Hid (endB l l[j] = !(l.take l.length).any (isB l[j])) := by show _ = _; rw [endB, List.take_length]
    have HST : Hid (∀ k (hk : k < l.length), (l.take (k + 1)).any (isB l[j]) = ((l.take k).any (isB l[j]) || isB l[j] l[k])) := fun k hk => by
      rw [List.take_succ_eq_append_getElem hk, List.any_append]; simp
    have HT1 : Hid (endB l l[j] = true → (R ++ [X]).map PC.p = (l.take (j + 1)).filter (endB l)) := fun h => by rw [HTP.out, h, List.map_append, HR.out]; simp [HX.out.1]
    have HT0 : Hid (endB l l[j] = false → R.map PC.p = (l.take (j + 1)).filter (endB l)) := fun h => by rw [HTP.out, h, HR.out]; simp
    clear hX hcell hcall CQ HZ HTP
    generalize endB l l[j] = EE at *
    generalize l[j] = pj at *
    go_wp2_with fail
    go_loopw [7, 8] (fun e7 e8 wq => ∃ (k : Nat), k ≤ l.length ∧ e7 = .bool (!(l.take k).any (isB pj)) ∧ e8 = .int .i64 (k : Int) ∧ Below wO.heap.size wO wq) (fun _ e8 _ => l.length - (RowKit.intOf e8).toNat)
    case atStart => exact ⟨0, by omega, by simp, rfl, Below.refl _ _⟩
    case round =>
      obtain ⟨k, hk, rfl, rfl, bk⟩ := hrel
      have BK := bj.trans (bk.mono hzr)
      have hzk := bk.size
      have OW := hmk (own_below OR.out bk)
      by_cases hkl : k < l.length
      case neg =>
        obtain rfl : k = l.length := by omega
        have y4 : ¬ (l.length : Int) < l.length := by omega
        rw [← HEB.out]
        cases EE with
        | false =>
          have HR2 := hmk (HT0.out rfl)
          clear HT0 HT1 HEB HST
          go_wp2_with fail
          go_roundw
          case rel => exact ⟨j + 1, R, _, by omega, rfl, by go_num, BK, HR2, OW, by omega⟩
          case measure => simp [RowKit.intOf]; omega
        | true =>
          have HR2 := hmk (HT1.out rfl)
          have rq2 := RC.out wr BK
          have hz2 := BK.size
          clear HT0 HT1 HEB HST bk
          have hal1 := alloc_size wr (.cells #[.slice aq pj.length cq] 24)
          have hne1 := heap_alloc_new wr (.cells #[.slice aq pj.length cq] 24)
          have CLX : Hid (∀ j u, [Value.slice aq pj.length cq][j]? = some u → (wr.alloc (.cells #[.slice aq pj.length cq] 24)).cell? ⟨wr.heap.size, 0 + j, none⟩ = some u) := fun j u hu => by
            rw [Nat.zero_add, cell_of_block hne1]
            rw [← hu]
            rw [← Array.getElem?_toList]
          have gal : Hid (wr.grownBy (wr.alloc (.cells #[.slice aq pj.length cq] 24)) none) := World.grownBy_alloc _ _ _
          have hvr : Hid (∀ r, u5.ownBlock = some r → w.heap.size ≤ r ∧ r < wr.heap.size) := fun r hr => OW.out.lt r hr
          go_wp2_with (at_builtin; go_loud (refine wpl_catP rfl (.tmp 36) (.tmp 41) 22 rfl w.heap.size 24 i0 _ 1 24 Tryd.underlying22 hI.out.1 hI.out.2.1 hI.out.2.2.1 hI.out.2.2.2 rfl (by decide) (by decide) u5 _ _ rfl (own_keep OW.out gal.out (fun r e => by cases e)) (some ⟨wr.heap.size, 0, none⟩) 1 1 wr.heap.size 0 rfl ⟨Nat.le_refl _, by simp [maxLen], .inr rfl, fun h => by cases h⟩ [.slice aq pj.length cq] rfl CLX.out oneQ (by omega) (by omega) ?_))
          intro v3 w3 o3 g3
          have hz3 := g3.size
          have B3 : Hid (Below w.heap.size w w3) := (BK.grown gal.out (by omega) (fun r e => by cases e)).grown g3 (by omega) (fun r e => by have := (hvr.out r e).1; omega)
          have O3 : Hid (w3.ownsRow w.heap.size 24 1 v3 (R ++ [X]).length ((R ++ [X]).map PC.enc)) := by
            have e1 : (R ++ [X]).length = R.length + 1 := by simp
            have e2 : (R ++ [X]).map PC.enc = R.map PC.enc ++ [.slice aq pj.length cq] := by simp [HX.out.2]
            show World.ownsRow _ _ _ _ _ _ _
            rw [e1, e2]
            exact o3
          have hlen2 : (R ++ [X]).length ≤ j + 1 := by simp; omega
          clear o3 g3 OW
          go_wp2_with fail
          go_roundw
          case rel => exact ⟨j + 1, R ++ [X], _, by omega, rfl, by go_num, B3.out, HR2, O3, hlen2⟩
          case measure => simp [RowKit.intOf]; omega
      have y4 : (k : Int) < l.length := by omega
      obtain ⟨ak, ck, hck, hcl⟩ := KC.out k hkl wr BK
      have hcj := RC.out wr BK
      have HS2 := hmk (HST.out k hkl)
      have p0 : ∀ x : Sub wr.heap.size wr, _ := sub_cell hck (World.block_lt_of_cell? wr _ hck)
      have p1 : ∀ x : Sub wr.heap.size wr, _ := sub_cell hcj (World.block_lt_of_cell? wr _ hcj)
      have CI : Hid (∀ x : Sub wr.heap.size wr, Calls Tryd.prog 33 #[.slice ak (l[k]).length ck, .slice aq pj.length cq] x.w fun e w'' => e = .returned (.bool (isB pj l[k])) ∧ ∃ y : Sub wr.heap.size wr, w'' = y.w) := sub_call fun w' hb => (hcl w' (BK.trans (hb.mono BK.size))).mono fun e w'' h => ⟨h.1, hb.trans (h.2.mono hb.size)⟩
      generalize isB pj l[k] = ZZ at *
      generalize l[k] = pk at *
      clear hck hcj hcl
      go_wp2_with fail
      refine wp_region_sub wr.heap.size (by kernel_rfl) (by kernel_rfl) ?_
      repeat (go_big_quiet_step (exact CI.out _))
      refine wpQuiet_nil ?_
      rintro wq ⟨⟨wq', bq⟩, hq⟩
      have hq' : wq = wq' := hq
      subst hq'
      clear hq p0 p1 CI
      have BQ := bk.trans (bq.mono hzk)
      cases ZZ
      · have HV : Hid ((!(l.take (k + 1)).any (isB pj)) = !(l.take k).any (isB pj)) := by show _ = _; rw [HS2.out, Bool.or_false]
        generalize (!(l.take k).any (isB pj)) = VV at *
        go_wp2_with fail
        go_roundw
        case rel => exact ⟨k + 1, by omega, by rw [HV.out], by go_num, BQ⟩
        case measure => simp [RowKit.intOf]; omega
      · have HV : Hid ((!(l.take (k + 1)).any (isB pj)) = false) := by show _ = _; rw [HS2.out]; simp
        go_wp2_with fail
        go_roundw
        case rel => exact ⟨k + 1, by omega, by rw [HV.out], by go_num, BQ⟩
        case measure => simp [RowKit.intOf]; omega
end Go.Proofs.YtfbmmilphcnolaaDoor
