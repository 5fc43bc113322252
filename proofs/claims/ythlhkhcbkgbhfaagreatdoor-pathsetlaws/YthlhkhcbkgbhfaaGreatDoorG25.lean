/- joined: RsrP RsrR ChkS -/
import Derived.Test.YthlhkhcbkgbhfaaGreatDoorSrxR
import Derived.Laws.AppendOwnNone
/- Rows that are put together: appends of slices; a path put in where it belongs. -/
set_option linter.unusedSimpArgs false
set_option linter.unusedVariables false
namespace Go.Proofs.YthlhkhcbkgbhfaaGreatDoor
open Go.RowKit Go.Lib
section
variable {P : Program}
/-- append of a slice to a row of one's own -/
theorem wpl_catP {w : World} {ops : Array Oper} {rest : List Oper} {o : Oper} {a : Act} {Q : Exit → Act → World → Prop} (hgd : o.guard = none) (s x : Operand) (t : TypeId)
    (ho : o.op = .call { callee := .builtin .append, args := #[s, x], argTypes := #[t, t] })
    (base : Nat) (e : TypeId) (i : TypeInfo) (z : Value) (size bytes : Nat) (ht : P.underlying t = some (.slice e)) (hi : P.info? e = some i) (hz : i.zero = some z)
    (hsize : i.size = size) (hby : i.bytes = bytes) (hzs : z.cells.size = size) (hsz : 0 < size) (hb200 : bytes ≤ 200)
    (v : Value) (n : Nat) (xs : List Value) (hs : a.eval s = v) (hown : w.ownsRow base e size v n xs) (ao : Option Addr) (m c b q : Nat) (hx : a.eval x = .slice ao m c) (hd : Headed ao m c b q) (news : List Value) (hl : news.length = m * size)
    (hnews : ∀ j u, news[j]? = some u → w.cell? ⟨b, q + j, none⟩ = some u) (h1 : ∀ u ∈ news, u.oneCell' = true) (hm : n + m ≤ 17179869184) (hbase : base ≤ w.heap.size)
    (h : ∀ v' w', w'.ownsRow base e size v' (n + m) (xs ++ news) → w.grownBy w' v.ownBlock → wpList P ops Q rest (a.put o.dst v') w') : wpList P ops Q (o :: rest) a w := by
  cases ao with
  | none =>
    have hc := hd.nil rfl
    have hm0 : m = 0 := by have := hd.le; omega
    subst hm0 hc
    have hn0 : news = [] := List.eq_nil_of_length_eq_zero (by simpa using hl)
    subst hn0
    exact wpList_append_own_none hgd s x t ho base e i size ht hi v n xs hs hown hx (h _ _ (by simpa using hown) (World.grownBy.refl _ _))
  | some ad =>
    refine wpList_append_own w hgd s x t ho base e i z size bytes ht hi hz hsize hby hzs hsz v n xs hs hown ad m c news hx hl ?_ h1 (by simp only [maxLen]; omega) ?_ hbase ?_
    · intro j u hu
      rcases hd.at_ with h0 | h0
      · subst h0
        have hn0 : news = [] := List.eq_nil_of_length_eq_zero (by simpa using hl)
        subst hn0
        simp at hu
      · have := Option.some.inj h0
        subst this
        rw [Go.WideShapes.add_plain]
        exact hnews j u hu
    · have := Nat.mul_le_mul (show n + m ≤ 17179869184 by omega) hb200
      omega
    · intro v' w' r1 r2 _
      exact h v' w' r1 r2
end
theorem own_keep {w w' : World} {base e size n : Nat} {v : Value} {xs : List Value} {row : Option Nat} (h : w.ownsRow base e size v n xs) (hg : w.grownBy w' row) (hne : ∀ r, row = some r → v.ownBlock ≠ some r) : w'.ownsRow base e size v n xs := by
  refine h.kept hg ?_
  cases hv : v.ownBlock with
  | none => exact .inl rfl
  | some g =>
    refine .inr fun e => ?_
    exact hne g e.symm hv
theorem own_cell {w : World} {base e g n cap : Nat} {xs : List Value} (h : w.ownsRow base e 1 (.slice (some ⟨g, 0, none⟩) n cap) n xs) {j : Nat} {u : Value} (hu : xs[j]? = some u) : w.cell? ⟨g, j, none⟩ = some u := by
  obtain ⟨hl, ⟨e, _⟩ | ⟨g', cap', cur, e, _, hb, _, _, _, hp⟩⟩ := h
  · cases e
  · cases e
    have hj : j < xs.length := (List.getElem?_eq_some_iff.1 hu).1
    rw [cell_of_block hb, ← Array.getElem?_toList, ← hu, ← hp, List.getElem?_take, if_pos (by omega)]
theorem own_facts {w : World} {base e g n cap : Nat} {xs : List Value} (h : w.ownsRow base e 1 (.slice (some ⟨g, 0, none⟩) n cap) n xs) : base ≤ g ∧ g < w.heap.size ∧ n ≤ cap ∧ cap ≤ maxLen := by
  obtain ⟨hl, ⟨e, _⟩ | ⟨g', cap', cur, e, hb0, hb, h1, h2, _, hp⟩⟩ := h
  · cases e
  · cases e
    exact ⟨hb0, (Array.getElem?_eq_some_iff.1 hb).1, h1, h2⟩
theorem own_form {w : World} {base e size n : Nat} {v : Value} {xs : List Value} (h : w.ownsRow base e size v n xs) : (v = .slice none 0 0 ∧ n = 0) ∨ ∃ g cap, v = .slice (some ⟨g, 0, none⟩) n cap := by
  rcases h.2 with h | ⟨g, cap, cur, e, _⟩
  · exact .inl h
  · exact .inr ⟨g, cap, e⟩
theorem enc_one {w0 : World} {S : Nat → Prop} {R : List (PC w0 S)} : ∀ u ∈ R.map PC.enc, u.oneCell' = true := fun u hu => by
  obtain ⟨x, _, rfl⟩ := List.mem_map.1 hu
  rfl
end Go.Proofs.YthlhkhcbkgbhfaaGreatDoor
/- The document's Sort. -/
namespace Go.Proofs.YthlhkhcbkgbhfaaGreatDoor
open Go.RowKit Go.Lib
theorem cmpP_oe {a b : List El} (ha : pathB a = true) (hb : pathB b = true) : cmpP a b = lexL oeE a b := by rw [cmpP_yes ha hb, op_rp (pathB_all ha).2 (pathB_all hb).2]
end Go.Proofs.YthlhkhcbkgbhfaaGreatDoor
/- pathset.Check: the program's and the document's. -/
namespace Go.Proofs.YthlhkhcbkgbhfaaGreatDoor
open Go.RowKit Go.Lib
def okPv (pv : Option (List El)) (p : List El) : Bool := match pv with | none => true | some q => decide (lexL oeE q p < 0)
/-- is it a set: 0, or what is wrong first -/
def setC : Option (List El) → List (List El) → Nat
  | _, [] => 0
  | pv, p :: t => if pathB p = true then (if okPv pv p = true then setC (some p) t else 100) else 90
def errS (l : List (List El)) : Nat := setC none l
def pvAt (l : List (List El)) (j : Nat) : Option (List El) := if j = 0 then none else l[j - 1]?
theorem setC_step {l : List (List El)} {j : Nat} (h : j < l.length) (pv : Option (List El)) : setC pv (l.drop j) = if pathB l[j] = true then (if okPv pv l[j] = true then setC (some l[j]) (l.drop (j + 1)) else 100) else 90 := by
  rw [List.drop_eq_getElem_cons h, setC]
theorem pvAt_succ {l : List (List El)} {j : Nat} (h : j < l.length) : pvAt l (j + 1) = some l[j] := by
  rw [pvAt, if_neg (by omega), Nat.add_sub_cancel, List.getElem?_eq_getElem h]
theorem pvAt_zero {l : List (List El)} : pvAt l 0 = none := rfl
theorem pvAt_pos {l : List (List El)} {j : Nat} (h : j < l.length) (h0 : 0 < j) : pvAt l j = some l[j - 1] := by
  rw [pvAt, if_neg (by omega), List.getElem?_eq_getElem (by omega)]
theorem setC_zero : ∀ {l : List (List El)} {pv : Option (List El)}, setC pv l = 0 → (∀ p ∈ l, pathB p = true) ∧ l.Pairwise (fun a b => lexL oeE a b < 0) ∧ ∀ q, pv = some q → ∀ p ∈ l, lexL oeE q p < 0
  | [], pv, _ => ⟨by simp, by simp, by simp⟩
  | p :: t, pv, h => by
    rw [setC] at h
    split at h
    · rename_i hp
      split at h
      · rename_i hok
        obtain ⟨h1, h2, h3⟩ := setC_zero h
        refine ⟨fun q hq => ?_, List.pairwise_cons.2 ⟨fun b hb => h3 p rfl b hb, h2⟩, fun q hq x hx => ?_⟩
        · rcases List.mem_cons.1 hq with rfl | hq
          · exact hp
          · exact h1 q hq
        · subst hq
          have hq0 : lexL oeE q p < 0 := by simpa [okPv] using hok
          rcases List.mem_cons.1 hx with rfl | hx
          · exact hq0
          · exact wk_P.tri _ _ _ hq0 (h3 p rfl x hx)
      · cases h
    · cases h
/-- a list of paths that is not too great: how many, and how great each -/
def BqL (l : List (List El)) : Prop := l.length ≤ 8589934592 ∧ ∀ p ∈ l, wtP p ≤ 2147483647
theorem bq_of {l : List (List El)} (h : l.length + wtQ l ≤ 2147483647) : BqL l := ⟨by omega, fun p hp => by have := wtQ_mem hp; omega⟩
set_option maxHeartbeats 8000000 in
set_option maxRecDepth 100000 in
theorem schkQ_any (l : List (List El)) (S : Nat → Prop) (al : Option Addr) (cl bl ol : Nat) (w : World) (tb : Tb w) (hal : Headed al l.length cl bl ol) (hl : liesQ w S l bl ol) (hS : ∀ b, S b → b < w.heap.size) (hwt : BqL l) :
    Calls Tryz.prog 13 #[.slice al l.length cl] w (NPost (errS l) w) := by
  have hwl := hwt.1
  have HL := hmk hl
  have HT := hmk tb
  clear tb
  clear hl
  have hlen : l.length ≤ 9223372036854775807 := by omega
  have HE : Hid (errS l = setC (pvAt l 0) (l.drop 0)) := rfl
  generalize errS l = RR at *
  go_enter Tryz.func13, Tryz.ntmps13
  go_wp2_with fail
  go_loopw [8] (fun e wr => ∃ j : Nat, j ≤ l.length ∧ e = .int .i64 (j : Int) ∧ Below w.heap.size w wr ∧ Hid (RR = setC (pvAt l j) (l.drop j)) ∧ Hid (∀ p ∈ l.take j, pathB p = true)) (fun e _ => l.length - (RowKit.intOf e).toNat)
  case atStart => exact ⟨0, by omega, rfl, Below.refl _ _, HE, by intro p hp; simp at hp⟩
  case round =>
    clear HE
    obtain ⟨j, hj, rfl, bj, HE, HG⟩ := hrel
    have hzr := bj.size
    by_cases hjl : j < l.length
    case neg =>
      obtain rfl : j = l.length := by omega
      have y1 : ¬ (l.length : Int) < l.length := by omega
      have HF : Hid (RR = 0) := by show _ = _; rw [HE.out, List.drop_length]; cases pvAt l l.length <;> rfl
      go_wp2_with fail
      go_ret
      exact ⟨by rw [HF.out]; rfl, bj⟩
    have y1 : (j : Int) < l.length := by omega
    obtain ⟨hSb, v, hv, aq, cq, bq, oq, rfl, hhq, hlq⟩ := HL.out j hjl
    obtain rfl : al = some ⟨bl, ol, none⟩ := hal.at_.resolve_left (by omega)
    have hk0 : ∀ x, S x → wr.heap[x]? = w.heap[x]? := fun x hx => bj.block x (hS x hx)
    have r0 : wr.cell? ⟨bl, ol + j, none⟩ = some (.slice aq (l[j]).length cq) := (World.cell?_of_block (w := w) (a := ⟨bl, ol + j, none⟩) (hk0 _ hSb)).trans hv
    have hwx : wtP l[j] ≤ 2147483647 := hwt.2 _ (List.getElem_mem hjl)
    have c := hmk (pcheck_any l[j] S aq cq bq oq wr (HT.out.below bj HT.out.z) hhq (liesP_keep hk0 (fun _ h => h) hlq) (fun x hx => Nat.lt_of_lt_of_le (hS x hx) hzr) hwx)
    have HST := hmk (setC_step hjl (pvAt l j))
    have KH : Hid (∀ W, Below w.heap.size w W → liesP W S l[j] bq oq ∧ ∀ x, S x → x < W.heap.size) := fun W hb => ⟨liesP_keep (fun x hx => hb.block x (hS x hx)) (fun _ h => h) hlq, fun x hx => Nat.lt_of_lt_of_le (hS x hx) hb.size⟩
    clear hlq hv hk0
    cases hp : pathB l[j] with
    | false =>
      have ya : (((errP l[j] : Nat) : Int) != 0) = true := by rw [errP_no hp]; rfl
      have HN : Hid (errP l[j] = 90) := errP_no hp
      have HF : Hid (RR = 90) := by show _ = _; rw [HE.out, HST.out, if_neg (by rw [hp]; simp)]
      generalize errP l[j] = Ea at *
      clear hp HE HST HG KH
      generalize l[j] = pj at *
      go_wp2_with fail
      refine c.out.mono ?_
      rintro e w1 ⟨rfl, b1⟩
      go_wp2_with fail
      go_ret
      exact ⟨by rw [HF.out, HN.out]; rfl, bj.trans (b1.mono hzr)⟩
    | true =>
    have ya : (((errP l[j] : Nat) : Int) != 0) = false := by rw [errP_yes hp]; rfl
    have HG2 : Hid (∀ p ∈ l.take (j + 1), pathB p = true) := fun p h => by
      rw [List.take_succ_eq_append_getElem hjl, List.mem_append, List.mem_singleton] at h
      rcases h with h | rfl
      · exact HG.out p h
      · exact hp
    have HP1 := hmk hp
    have HSU := hmk (pvAt_succ hjl)
    have HF0 : Hid (RR = if okPv (pvAt l j) l[j] = true then setC (some l[j]) (l.drop (j + 1)) else 100) := by show _ = _; rw [HE.out, HST.out, if_pos hp]
    by_cases hj0 : 0 < j
    case neg =>
      obtain rfl : j = 0 := by omega
      rw [Nat.add_zero] at r0
      have HF : Hid (RR = setC (pvAt l (0 + 1)) (l.drop (0 + 1))) := by show _ = _; rw [HSU.out, HF0.out, pvAt_zero]; rfl
      generalize errP l[0] = Ea at *
      clear hp HE HST HG HF0 HSU KH HP1
      generalize l[0] = pj at *
      go_wp2_with fail
      refine c.out.mono ?_
      rintro e w1 ⟨rfl, b1⟩
      have B1 := bj.trans (b1.mono hzr)
      go_wp2_with fail
      go_roundw
      case rel => exact ⟨0 + 1, by omega, by go_num, B1, HF, HG2⟩
      case measure => simp [RowKit.intOf]; omega
    have hj1 : j - 1 < l.length := by omega
    obtain ⟨hSb1, v1, hv1, ap, cp, bp, op, rfl, hhp, hlp⟩ := HL.out (j - 1) hj1
    have HPV := hmk (pvAt_pos hjl hj0)
    have hwp : wtP l[j - 1] ≤ 2147483647 := hwt.2 _ (List.getElem_mem hj1)
    have HP0 : Hid (pathB l[j - 1] = true) := HG.out _ (by rw [List.mem_take_iff_getElem]; exact ⟨j - 1, by omega, rfl⟩)
    have RC : Hid (∀ W, Below w.heap.size w W → W.cell? ⟨bl, ol + (j - 1), none⟩ = some (.slice ap (l[j - 1]).length cp)) := fun W hb => (World.cell?_of_block (w := w) (a := ⟨bl, ol + (j - 1), none⟩) (hb.block _ (hS _ hSb1))).trans hv1
    have CC : Hid (∀ W, Below w.heap.size w W → Calls Tryz.prog 36 #[.slice ap (l[j - 1]).length cp, .slice aq (l[j]).length cq] W (JPost (lexL oeE l[j - 1] l[j]) W)) := fun W hb =>
      opaths_any l[j - 1] l[j] S S ap cp bp op aq cq bq oq W hhp (liesP_keep (fun x hx => hb.block x (hS x hx)) (fun _ h => h) hlp) hhq (KH.out W hb).1 (KH.out W hb).2 (KH.out W hb).2
    have HF1 : Hid (lexL oeE l[j - 1] l[j] < 0 → RR = setC (pvAt l (j + 1)) (l.drop (j + 1))) := fun h => by rw [HSU.out, HF0.out, HPV.out, okPv, if_pos (by simpa using h)]
    have HF2 : Hid (¬ lexL oeE l[j - 1] l[j] < 0 → RR = 100) := fun h => by rw [HF0.out, HPV.out, okPv, if_neg (by simpa using h)]
    generalize errP l[j] = Ea at *
    clear hp HE HST HG HF0 HSU KH HP1 HPV HP0 hlp hv1 hwp hwx hhp hhq
    generalize lexL oeE l[j - 1] l[j] = Z at *
    generalize l[j] = pj at *
    generalize l[j - 1] = pi at *
    have y5 : (0 : Int) < (j : Int) := by omega
    have y6 : ((j : Int) - 1) = ((j - 1 : Nat) : Int) := by omega
    have y7 : ((j - 1 : Nat) : Int) < (l.length : Int) := by omega
    go_wp2_with fail
    refine c.out.mono ?_
    rintro e w1 ⟨rfl, b1⟩
    have B1 := bj.trans (b1.mono hzr)
    have r1 := RC.out w1 B1
    have c2 := hmk (CC.out w1 B1)
    clear bj b1 r0 RC c
    go_wp2_with fail
    refine c2.out.mono ?_
    rintro e wq ⟨rfl, bq⟩
    have BQ := B1.trans (bq.mono B1.size)
    by_cases hZ : Z < 0
    · have HF := hmk (HF1.out hZ)
      have y8 : ¬ (0 : Int) ≤ Z := by omega
      go_wp2_with fail
      go_roundw
      case rel => exact ⟨j + 1, by omega, by go_num, BQ, HF, HG2⟩
      case measure => simp [RowKit.intOf]; omega
    · have HF := hmk (HF2.out (by omega))
      have y8 : (0 : Int) ≤ Z := by omega
      clear HF1 HF2
      go_wp2_with fail
      go_ret
      exact ⟨by rw [HF.out]; rfl, BQ⟩
theorem schk_any (l : List (List El)) (S : Nat → Prop) (al : Option Addr) (cl bl ol : Nat) (w : World) (tb : Tb w) (hal : Headed al l.length cl bl ol) (hl : liesQ w S l bl ol) (hS : ∀ b, S b → b < w.heap.size) (hwt : l.length + wtQ l ≤ 2147483647) :
    Calls Tryz.prog 13 #[.slice al l.length cl] w (NPost (errS l) w) := schkQ_any l S al cl bl ol w tb hal hl hS (bq_of hwt)
end Go.Proofs.YthlhkhcbkgbhfaaGreatDoor
