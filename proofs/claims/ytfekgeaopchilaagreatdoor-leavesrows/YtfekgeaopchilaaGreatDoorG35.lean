/- joined: LefG PlnT LefH -/
import Derived.Test.YtfekgeaopchilaaGreatDoorG34
/- leaves.search, leaves.Under. -/
set_option linter.unusedSimpArgs false
set_option linter.unusedVariables false
namespace Go.Proofs.YtfekgeaopchilaaGreatDoor
open Go.RowKit Go.Lib
set_option maxHeartbeats 8000000 in
set_option maxRecDepth 100000 in
theorem sea1_any (p q : List El) (S S' : Nat → Prop) (ap : Option Addr) (cp bp op : Nat) (aq : Option Addr) (cq bq oq : Nat) (vk : Int) (vb : Bool) (vi : Int) (vs : ByteArray) (val : Option Addr) (vnl vcl : Nat) (vam : Option Addr) (vnm vcm : Nat) (w : World) (hh : Headed ap p.length cp bp op) (hp : liesP w S p bp op) (hhq : Headed aq q.length cq bq oq) (hq : liesP w S' q bq oq) (hS : ∀ b, S b → b < w.heap.size) (hS' : ∀ b, S' b → b < w.heap.size) :
    Calls Tryz.prog 49 #[.agg #[.slice ap p.length cp, .int .i64 vk, .bool vb, .int .i64 vi, .string vs, .slice val vnl vcl, .slice vam vnm vcm], .slice aq q.length cq] w (JPost (lexL oeE p q) w) := by
  have nb := heap_alloc_new w (.cells #[.slice ap p.length cp, .int .i64 vk, .bool vb, .int .i64 vi, .string vs, .slice val vnl vcl, .slice vam vnm vcm] 50)
  have ba : Below w.heap.size w (w.alloc (.cells #[.slice ap p.length cp, .int .i64 vk, .bool vb, .int .i64 vi, .string vs, .slice val vnl vcl, .slice vam vnm vcm] 50)) := (Below.refl _ _).alloc (Nat.le_refl _) _
  have c0 : (w.alloc (.cells #[.slice ap p.length cp, .int .i64 vk, .bool vb, .int .i64 vi, .string vs, .slice val vnl vcl, .slice vam vnm vcm] 50)).cell? ⟨w.heap.size, 0, none⟩ = some (.slice ap p.length cp) := cell_of_block nb 0
  have C := hmk (opaths_any p q S S' ap cp bp op aq cq bq oq (w.alloc (.cells #[.slice ap p.length cp, .int .i64 vk, .bool vb, .int .i64 vi, .string vs, .slice val vnl vcl, .slice vam vnm vcm] 50)) hh (liesP_keep (fun b hb => ba.block b (hS b hb)) (fun _ h => h) hp) hhq (liesP_keep (fun b hb => ba.block b (hS' b hb)) (fun _ h => h) hq) (fun b hb => Nat.lt_of_lt_of_le (hS b hb) ba.size) (fun b hb => Nat.lt_of_lt_of_le (hS' b hb) ba.size))
  have HB := hmk ba
  clear nb hp hq ba
  generalize lexL oeE p q = Z at *
  go_enter Tryz.func49, Tryz.ntmps49
  go_wp2_with fail
  refine C.out.mono ?_
  rintro e w1 ⟨rfl, b1⟩
  clear C
  go_wp2_with fail
  go_ret
  exact ⟨rfl, HB.out.trans (b1.mono HB.out.size)⟩
/-- where a path is, or would be, among leaves -/
structure PlF (l : List Lf) (p : List El) (i : Nat) (r : Bool) : Prop where
  le : i ≤ l.length
  lo : ∀ (k : Nat) (h : k < l.length), k < i → lexL oeE (l[k]).1 p < 0
  hi : ∀ (k : Nat) (h : k < l.length), i ≤ k → 0 ≤ lexL oeE (l[k]).1 p
  yes : r = true → ∃ h : i < l.length, lexL oeE (l[i]).1 p = 0
  no : r = false → ∀ h : i < l.length, lexL oeE (l[i]).1 p ≠ 0
def BsF (l : List Lf) (p : List El) (w : World) (e : Ending) (w' : World) : Prop := ∃ (i : Nat) (r : Bool), e = .returned (.tuple #[.int .i64 (i : Int), .bool r]) ∧ PlF l p i r ∧ Below w.heap.size w w'
theorem Rl.lt {l : List Lf} (h : Rl l) : ∀ (i j : Nat) (hi : i < l.length) (hj : j < l.length), i < j → lexL oeE (l[i]).1 (l[j]).1 < 0
  | i, 0, hi, hj, hij => by omega
  | i, j + 1, hi, hj, hij => by
    by_cases e : i = j
    · subst e; exact h.up i hj
    · exact wk_P.tri _ _ _ (Rl.lt h i j hi (by omega) (by omega)) (h.up j hj)
set_option maxHeartbeats 8000000 in
set_option maxRecDepth 100000 in
theorem bsF_any (l : List Lf) (p : List El) (S : Nat → Prop) (al : Option Addr) (cl bl ol : Nat) (ap : Option Addr) (cp bp op : Nat) (w : World) (hal : Headed al l.length cl bl ol) (hl : liesF w S l bl ol) (hap : Headed ap p.length cp bp op) (hp : liesP w S p bp op) (hS : ∀ b, S b → b < w.heap.size) (hr : Rl l) (hlen' : l.length ≤ 2147483647) :
    Calls Tryz.prog 48 #[.slice al l.length cl, .slice ap p.length cp, .func (.func 49) #[] #[]] w (BsF l p w) := by
  have HL := hmk hl
  have HP := hmk hp
  have HR : Hid (∀ i j, (hi : i < l.length) → (hj : j < l.length) → i < j → lexL oeE (l[i]).1 (l[j]).1 < 0) := fun i j hi hj hij => hr.lt i j hi hj hij
  clear hl hp hr
  have hlen : l.length ≤ 9223372036854775807 := by omega
  have CC : Hid (∀ (h : Nat) (hh : h < l.length), ∃ aq cq vk vb vi vs val vnl vcl vam vnm vcm, (∀ W, Below w.heap.size w W → rowAt W bl (ol + h * 7) [.slice aq (l[h]).1.length cq, .int .i64 vk, .bool vb, .int .i64 vi, .string vs, .slice val vnl vcl, .slice vam vnm vcm]) ∧ ∀ W, Below w.heap.size w W → Calls Tryz.prog 49 #[.agg #[.slice aq (l[h]).1.length cq, .int .i64 vk, .bool vb, .int .i64 vi, .string vs, .slice val vnl vcl, .slice vam vnm vcm], .slice ap p.length cp] W (JPost (lexL oeE (l[h]).1 p) W)) := fun h hh => by
    obtain ⟨hSb, cs, hrow, v, is, rfl, ⟨aq, cq, bq, oq, rfl, hhq, hlq⟩, hv⟩ := HL.out h hh
    obtain ⟨vk, vb, vi, vs, val, vnl, vcl, vam, vnm, vcm, rfl⟩ := V.ten hv
    exact ⟨aq, cq, vk, vb, vi, vs, val, vnl, vcl, vam, vnm, vcm, fun W hb => hrow.keep (hb.block _ (hS _ hSb)), fun W hb => sea1_any (l[h]).1 p S S aq cq bq oq ap cp bp op vk vb vi vs val vnl vcl vam vnm vcm W hhq (liesP_keep (fun x hx => hb.block x (hS x hx)) (fun _ h => h) hlq) hap (liesP_keep (fun x hx => hb.block x (hS x hx)) (fun _ h => h) HP.out) (fun x hx => Nat.lt_of_lt_of_le (hS x hx) hb.size) (fun x hx => Nat.lt_of_lt_of_le (hS x hx) hb.size)⟩
  go_enter Tryz.func48, Tryz.ntmps48
  go_wp2_with fail
  go_loopw [9, 10] (fun e9 e10 wr => ∃ i j : Nat, i ≤ j ∧ j ≤ l.length ∧ e9 = .int .i64 (i : Int) ∧ e10 = .int .i64 (j : Int) ∧ Below w.heap.size w wr ∧ Hid (∀ k, (hk : k < l.length) → k < i → lexL oeE (l[k]).1 p < 0) ∧ Hid (∀ k, (hk : k < l.length) → j ≤ k → 0 ≤ lexL oeE (l[k]).1 p)) (fun e9 e10 _ => (RowKit.intOf e10).toNat - (RowKit.intOf e9).toNat)
  case atStart => exact ⟨0, l.length, by omega, by omega, rfl, rfl, Below.refl _ _, fun k hk h => by omega, fun k hk h => by omega⟩
  case round =>
    obtain ⟨i, j, hij0, hjl, rfl, rfl, bj, HLO, HHI⟩ := hrel
    have hzr := bj.size
    by_cases hij : i < j
    · have y1 : (i : Int) < j := by omega
      obtain ⟨h, hh, hh1, hh2⟩ : ∃ h : Nat, ((i : Int) + (j : Int)) / 2 = (h : Int) ∧ i ≤ h ∧ h < j := ⟨(i + j) / 2, by omega, by omega, by omega⟩
      have hhl : h < l.length := by omega
      have y2 : (h : Int) < l.length := by omega
      obtain ⟨aq, cq, vk, vb, vi, vs, val, vnl, vcl, vam, vnm, vcm, hrow, hcall⟩ := CC.out h hhl
      obtain rfl : al = some ⟨bl, ol, none⟩ := hal.at_.resolve_left (by omega)
      obtain ⟨q, q0, q1, q2, q3, q4, q5⟩ := row7 (hrow wr bj)
      have c := hmk (hcall wr bj)
      have HX1 : Hid (lexL oeE (l[h]).1 p < 0 → ∀ k, (hk : k < l.length) → k < h + 1 → lexL oeE (l[k]).1 p < 0) := fun e k hk hkh => by
        by_cases ek : k = h
        · subst ek; exact e
        · exact wk_P.tri _ _ _ (HR.out k h hk hhl (by omega)) e
      have HX2 : Hid (0 ≤ lexL oeE (l[h]).1 p → ∀ k, (hk : k < l.length) → h ≤ k → 0 ≤ lexL oeE (l[k]).1 p) := fun e k hk hkh => by
        by_cases ek : k = h
        · subst ek; exact e
        · by_cases e2 : lexL oeE (l[k]).1 p < 0
          · have := wk_P.tri _ _ _ (HR.out h k hhl hk (by omega)) e2
            omega
          · omega
      generalize lexL oeE (l[h]).1 p = Z at *
      clear hrow hcall
      generalize (l[h]).1 = ph at *
      by_cases hZ : Z < 0
      · have HF := hmk (HX1.out hZ)
        clear HX1 HX2
        go_wp2_with fail
        refine c.out.mono ?_
        rintro e w3 ⟨rfl, b3⟩
        clear c q q0 q1 q2 q3 q4 q5
        go_wp2_with fail
        go_roundw
        case rel => exact ⟨h + 1, j, by omega, by omega, by go_num, rfl, bj.trans (b3.mono hzr), HF, HHI⟩
        case measure => simp [RowKit.intOf]; omega
      · have HF := hmk (HX2.out (by omega))
        clear HX1 HX2
        go_wp2_with fail
        refine c.out.mono ?_
        rintro e w3 ⟨rfl, b3⟩
        clear c q q0 q1 q2 q3 q4 q5
        go_wp2_with fail
        go_roundw
        case rel => exact ⟨i, h, by omega, by omega, rfl, rfl, bj.trans (b3.mono hzr), HLO, HF⟩
        case measure => simp [RowKit.intOf]; omega
    · obtain rfl : i = j := by omega
      have y1 : ¬ (i : Int) < i := by omega
      by_cases hpos : i < l.length
      · have y2 : (i : Int) < l.length := by omega
        obtain ⟨aq, cq, vk, vb, vi, vs, val, vnl, vcl, vam, vnm, vcm, hrow, hcall⟩ := CC.out i hpos
        obtain rfl : al = some ⟨bl, ol, none⟩ := hal.at_.resolve_left (by omega)
        obtain ⟨q, q0, q1, q2, q3, q4, q5⟩ := row7 (hrow wr bj)
        have c := hmk (hcall wr bj)
        have HPL : Hid (PlF l p i (lexL oeE (l[i]).1 p == 0)) := ⟨by omega, HLO.out, HHI.out, fun h => ⟨hpos, by simpa using h⟩, fun h _ => by simpa using h⟩
        generalize lexL oeE (l[i]).1 p = Z at *
        clear hrow hcall HR
        generalize (l[i]).1 = ph at *
        go_wp2_with fail
        refine c.out.mono ?_
        rintro e w3 ⟨rfl, b3⟩
        clear c q q0 q1 q2 q3 q4 q5
        go_wp2_with fail
        go_ret2
        exact ⟨i, _, rfl, HPL.out, bj.trans (b3.mono hzr)⟩
      · have y2 : ¬ (i : Int) < l.length := by omega
        have HPL : Hid (PlF l p i false) := ⟨by omega, HLO.out, HHI.out, (fun h => by cases h), fun _ h => absurd h hpos⟩
        clear HR
        go_wp2_with fail
        go_ret2
        exact ⟨i, false, rfl, HPL.out, bj⟩
set_option maxHeartbeats 8000000 in
set_option maxRecDepth 100000 in
theorem search_any (l : List Lf) (p : List El) (S : Nat → Prop) (al : Option Addr) (cl bl ol : Nat) (ap : Option Addr) (cp bp op : Nat) (w : World) (hal : Headed al l.length cl bl ol) (hl : liesF w S l bl ol) (hap : Headed ap p.length cp bp op) (hp : liesP w S p bp op) (hS : ∀ b, S b → b < w.heap.size) (hr : Rl l) (hlen' : l.length ≤ 2147483647) :
    Calls Tryz.prog 31 #[.slice al l.length cl, .slice ap p.length cp] w (BsF l p w) := by
  have c := hmk (bsF_any l p S al cl bl ol ap cp bp op w hal hl hap hp hS hr hlen')
  clear hl hp hr
  go_enter Tryz.func31, Tryz.ntmps31
  go_wp2_with fail
  refine c.out.mono ?_
  rintro e w1 ⟨i, r, rfl, hp, b1⟩
  clear c
  go_wp2_with fail
  go_ret2
  exact ⟨i, r, rfl, hp, b1⟩
end Go.Proofs.YtfekgeaopchilaaGreatDoor
/- What lies below a path in a set stands together; what ends are. -/
namespace Go.Proofs.YtfekgeaopchilaaGreatDoor
open Go.RowKit Go.Lib
theorem cab_cons {a b : El} {p q : List El} : cabP (a :: p) (b :: q) = (decide (oeE a b = 0) && cabP p q) := by
  rw [cabP, cabP, List.length_cons, List.length_cons, List.take_succ_cons, lexL]
  by_cases h : oeE a b = 0
  · simp [h]
  · simp [h]
theorem cab_nil {q : List El} : cabP [] q = true := by simp [cabP, lexL, cmpI]
theorem cab_nil_r {a : El} {p : List El} : cabP (a :: p) [] = false := by simp [cabP]
/-- what is above is not greater -/
theorem cab_le : ∀ {p q : List El}, cabP p q = true → lexL oeE p q ≤ 0
  | [], q, _ => by rw [lex_nil_l]; unfold cmpI; split <;> (try split) <;> omega
  | a :: p, [], h => by rw [cab_nil_r] at h; cases h
  | a :: p, b :: q, h => by
    rw [cab_cons, Bool.and_eq_true, decide_eq_true_iff] at h
    rw [lexL, if_pos h.1]
    exact cab_le h.2
/-- what lies between is below too -/
theorem cab_between : ∀ {p x q : List El}, cabP p q = true → lexL oeE p x < 0 → lexL oeE x q < 0 → cabP p x = true
  | [], x, q, _, _, _ => cab_nil
  | a :: p, x, [], h, _, _ => by rw [cab_nil_r] at h; cases h
  | a :: p, [], b :: q, h, h1, _ => by rw [lex_nil_r, List.length_cons, cmpI_s0] at h1; omega
  | a :: p, c :: x, b :: q, h, h1, h2 => by
    rw [cab_cons, Bool.and_eq_true, decide_eq_true_iff] at h ⊢
    rw [lexL] at h1 h2
    have e1 := wk_E.cong a b c h.1
    have e2 := wk_E.anti b c
    by_cases hc : oeE a c = 0
    · rw [if_pos hc] at h1
      rw [if_pos (by omega)] at h2
      exact ⟨hc, cab_between h.2 h1 h2⟩
    · rw [if_neg hc] at h1
      rw [if_neg (by omega)] at h2
      omega
end Go.Proofs.YtfekgeaopchilaaGreatDoor
/- leaves.Under. -/
namespace Go.Proofs.YtfekgeaopchilaaGreatDoor
open Go.RowKit Go.Lib
theorem cab_self (p : List El) : cabP p p = true := by
  rw [cabP, List.take_length, wk_P.self]; simp
theorem cab_of_same {p q : List El} (h : lexL oeE p q = 0) (hp : pathB p = true) (hq : pathB q = true) : cabP p q = true := by
  rw [(path_same hp hq).1 h]; exact cab_self q
/-- what lies at and below a path stands together -/
theorem und_run {l : List Lf} {p : List El} {i t : Nat} {r : Bool} (hr : Rl l) (hp : pathB p = true) (hf : PlF l p i r) (hit : i ≤ t) (htl : t ≤ l.length) (h2 : ∀ (k : Nat) (hk : k < l.length), i ≤ k → k < t → cabP p (l[k]).1 = true) (h3 : ∀ h : t < l.length, cabP p (l[t]).1 = false) :
    l.filter (fun x => abvP p x.1) = (l.take t).drop i := by
  have e : l = l.take i ++ ((l.take t).drop i ++ l.drop t) := by
    rw [← List.append_assoc]
    have : l.take i ++ (l.take t).drop i = l.take t := by
      have := List.take_append_drop i (l.take t)
      rwa [List.take_take, Nat.min_eq_left hit] at this
    rw [this, List.take_append_drop]
  have hab : ∀ (k : Nat) (hk : k < l.length), abvP p (l[k]).1 = cabP p (l[k]).1 := fun k hk => abvP_cab hp (hr.ok k hk)
  have f1 : (l.take i).filter (fun x => abvP p x.1) = [] := by
    rw [List.filter_eq_nil_iff]
    intro q hq hb
    obtain ⟨k, hk, rfl⟩ := List.getElem_of_mem hq
    rw [List.length_take] at hk
    rw [List.getElem_take, hab k (by omega)] at hb
    have h1 := cab_le hb
    have h4 := hf.lo k (by omega) (by omega)
    have := wk_P.anti p (l[k]).1
    omega
  have f2 : ((l.take t).drop i).filter (fun x => abvP p x.1) = (l.take t).drop i := by
    rw [List.filter_eq_self]
    intro q hq
    obtain ⟨k, hk, rfl⟩ := List.getElem_of_mem hq
    rw [List.length_drop, List.length_take] at hk
    rw [List.getElem_drop, List.getElem_take, hab (i + k) (by omega)]
    exact h2 (i + k) (by omega) (by omega) (by omega)
  have f3 : (l.drop t).filter (fun x => abvP p x.1) = [] := by
    rw [List.filter_eq_nil_iff]
    intro q hq hb
    obtain ⟨k, hk, rfl⟩ := List.getElem_of_mem hq
    rw [List.length_drop] at hk
    rw [List.getElem_drop, hab (t + k) (by omega)] at hb
    have ht : t < l.length := by omega
    have hn := h3 ht
    by_cases hk0 : k = 0
    · subst hk0
      have hb' : cabP p (l[t]).1 = true := by simpa using hb
      rw [hb'] at hn; cases hn
    · have hge := hf.hi t ht hit
      have han := wk_P.anti p (l[t]).1
      have hlt := hr.lt t (t + k) ht (by omega) (by omega)
      by_cases h0 : lexL oeE p (l[t]).1 = 0
      · rw [cab_of_same h0 hp (hr.ok t ht)] at hn; cases hn
      · rw [cab_between hb (by omega) hlt] at hn; cases hn
  conv => lhs; rw [e]
  rw [List.filter_append, List.filter_append, f1, f2, f3, List.nil_append, List.append_nil]
theorem und_bad {l : List Lf} {p : List El} (hp : pathB p = false) : l.filter (fun x => abvP p x.1) = [] := by
  rw [List.filter_eq_nil_iff]
  intro x _
  rw [abvP_no (fun h => by rw [hp] at h; cases h.1)]; decide
theorem wtF_sub {l : List Lf} (i t : Nat) : wtF ((l.take t).drop i) ≤ wtF l := by
  have h1 := wtF_app (l.take t) (l.drop t)
  rw [List.take_append_drop] at h1
  have h2 := wtF_app ((l.take t).take i) ((l.take t).drop i)
  rw [List.take_append_drop] at h2
  omega
set_option maxHeartbeats 8000000 in
set_option maxRecDepth 100000 in
theorem under_any (l : List Lf) (S : Nat → Prop) (al : Option Addr) (cl bl ol : Nat) (w : World) (hal : Headed al l.length cl bl ol) (hl : liesF w S l bl ol) (hS : ∀ b, S b → b < w.heap.size) (hwt : wtF l ≤ 2147483647) (tb : Tb w) (hr : Rl l) (hok : ∀ x ∈ l, pathB x.1 = true ∧ okV x.2 = true) (p : List El) (a2 : Option Addr) (c2 b2 o2 : Nat) (h2 : Headed a2 p.length c2 b2 o2) (hp : liesP w S p b2 o2) (hwp : wtP p ≤ 2147483647) :
    Calls Tryz.prog 19 #[.slice al l.length cl, .slice a2 p.length c2] w (TfPost (l.filter (fun x => abvP p x.1)) S w) := by
  have HL := hmk hl
  have HP := hmk hp
  have hlm := wtF_len l
  have HR := hmk hr
  have HOK := hmk hok
  have HTB := hmk tb
  have kb : Hid (∀ W, Below w.heap.size w W → (∀ b, S b → W.heap[b]? = w.heap[b]?) ∧ (∀ b, S b → b < W.heap.size)) := fun W hb => ⟨fun b h => hb.block b (hS b h), fun b h => Nat.lt_of_lt_of_le (hS b h) hb.size⟩
  have C30 := hmk (pcheck_any p S a2 c2 b2 o2 w tb h2 hp hS hwp)
  clear hl hp hr hok tb
  cases hB : pathB p with
  | false =>
    have e90 : errP p = 90 := by rw [errP, hB]; rfl
    have HN := hmk (und_bad (l := l) hB)
    rw [e90] at C30
    clear e90 hB
    go_enter Tryz.func19, Tryz.ntmps19
    go_wp2_with fail
    refine C30.out.mono ?_
    rintro e w1 ⟨rfl, b1⟩
    clear C30
    go_wp2_with fail
    go_ret
    rw [HN.out]
    exact ⟨none, 0, 0, 0, rfl, ⟨Nat.le_refl _, by simp [maxLen], .inl rfl, fun _ => rfl⟩, liesF_nil _ _ _ _, b1⟩
  | true =>
    have e0 : errP p = 0 := by rw [errP, hB]; rfl
    rw [e0] at C30
    have HPB := hmk hB
    clear e0 hB
    go_enter Tryz.func19, Tryz.ntmps19
    go_wp2_with fail
    refine C30.out.mono ?_
    rintro e w1 ⟨rfl, b1⟩
    have CS := hmk (search_any l p S al cl bl ol a2 c2 b2 o2 w1 hal (liesF_keep (kb.out w1 b1).1 (fun _ h => h) HL.out) h2 (liesP_keep (kb.out w1 b1).1 (fun _ h => h) HP.out) (kb.out w1 b1).2 HR.out (by omega))
    clear C30
    go_wp2_with fail
    refine CS.out.mono ?_
    rintro e w2 ⟨i, r, rfl, hf, b2'⟩
    have B2 := b1.trans (b2'.mono b1.size)
    have HF := hmk hf
    have hil := hf.le
    clear CS hf b1 b2'
    go_wp2_with fail
    go_loopw [7] (fun e wr => ∃ t : Nat, i ≤ t ∧ t ≤ l.length ∧ e = .int .i64 (t : Int) ∧ Below w.heap.size w wr ∧ Hid (∀ (k : Nat) (hk : k < l.length), i ≤ k → k < t → cabP p (l[k]).1 = true)) (fun e _ => l.length - (RowKit.intOf e).toNat)
    case atStart => exact ⟨i, Nat.le_refl _, hil, rfl, B2, fun k hk h1 h2 => by omega⟩
    case round =>
      clear B2
      obtain ⟨t, hit, htl, rfl, bj, HC⟩ := hrel
      have FIN : Hid ((∀ h : t < l.length, cabP p (l[t]).1 = false) → l.filter (fun x => abvP p x.1) = (l.take t).drop i) := fun h => und_run HR.out HPB.out HF.out hit htl HC.out h
      obtain ⟨a', c', hsl, hhd⟩ := slF al l.length cl bl ol i t hal hit htl
      have hlen : ((l.take t).drop i).length = t - i := by rw [List.length_drop, List.length_take]; omega
      have CP : Hid (∀ W, Below w.heap.size w W → Calls Tryz.prog 34 #[.slice a' (t - i) c'] W (TfPost ((l.take t).drop i) S W)) := fun W hb => by
        have h := copied_any ((l.take t).drop i) S a' c' bl (ol + i * 7) W (by rw [hlen]; exact hhd) (liesF_drop (liesF_take (liesF_keep (kb.out W hb).1 (fun _ h => h) HL.out) t) i) (kb.out W hb).2 (Nat.le_trans (wtF_sub i t) hwt) (HTB.out.below hb HTB.out.z) (fun x hx => HOK.out x (List.mem_of_mem_take (List.mem_of_mem_drop hx)))
        rw [hlen] at h
        exact h
      have TF : Hid (∀ W (L : List Lf) e w', Below w.heap.size w W → TfPost L S W e w' → TfPost L S w e w') := fun W L e w' hb h => by
        obtain ⟨a, c, b, o, rfl, hd, hls, b3⟩ := h
        exact ⟨a, c, b, o, rfl, hd, liesF_keep (fun _ _ => rfl) (fun b hb' => hb'.imp id (fun h => ⟨Nat.le_trans hb.size h.1, h.2⟩)) hls, hb.trans (b3.mono hb.size)⟩
      clear hlen hhd
      by_cases hlt : t < l.length
      · have y1 : (t : Int) < l.length := by omega
        obtain ⟨hSb, cs, hrow, v, is, rfl, ⟨ap, cp, bp, op, rfl, hh, hlp⟩, hv⟩ := HL.out t hlt
        obtain rfl : al = some ⟨bl, ol, none⟩ := hal.at_.resolve_left (by omega)
        have C37 := hmk (cabP_any p (l[t]).1 S S a2 c2 b2 o2 ap cp bp op wr h2 (liesP_keep (kb.out wr bj).1 (fun _ h => h) HP.out) hh (liesP_keep (kb.out wr bj).1 (fun _ h => h) hlp) (kb.out wr bj).2 (kb.out wr bj).2)
        obtain ⟨vk, vb, vi, vs, val, vnl, vcl, vam, vnm, vcm, rfl⟩ := V.ten hv
        obtain ⟨q, q0, q1, q2, q3, q4, q5⟩ := row7 (hrow.keep ((kb.out wr bj).1 _ hSb))
        clear hrow hlp hv
        cases hq : cabP p (l[t]).1 with
        | true =>
          have HN : Hid (∀ (k : Nat) (hk : k < l.length), i ≤ k → k < t + 1 → cabP p (l[k]).1 = true) := fun k hk h1 h3 => by
            by_cases e : k = t
            · subst e; exact hq
            · exact HC.out k hk h1 (by omega)
          rw [hq] at C37
          clear hq CP hsl TF FIN
          go_wp2_with fail
          refine C37.out.mono ?_
          rintro e w3 ⟨rfl, b3⟩
          have B3 := bj.trans (b3.mono bj.size)
          clear C37 q q0 q1 q2 q3 q4 q5
          go_wp2_with fail
          go_roundw
          case rel => exact ⟨t + 1, by omega, by omega, by go_num, B3, HN⟩
          case measure => simp [RowKit.intOf]; omega
        | false =>
          have HE := hmk (FIN.out (fun _ => hq))
          rw [hq] at C37
          clear hq FIN
          go_wp2_with fail
          refine C37.out.mono ?_
          rintro e w3 ⟨rfl, b3⟩
          have B3 := bj.trans (b3.mono bj.size)
          have CF := hmk (CP.out w3 B3)
          clear C37 CP q q0 q1 q2 q3 q4 q5
          go_wp2_with fail
          refine CF.out.mono ?_
          rintro e w4 h4
          have h5 := TF.out _ _ _ _ B3 h4
          rw [← HE.out] at h5
          obtain ⟨a, c, b, o, rfl, hd, hls, b4⟩ := h5
          have HLS := hmk hls
          clear CF h4 hls
          go_wp2_with fail
          go_ret
          exact ⟨a, c, b, o, rfl, hd, HLS.out, b4⟩
      · have y1 : ¬ (t : Int) < l.length := by omega
        have HE := hmk (FIN.out (fun h => absurd h hlt))
        have CF := hmk (CP.out wr bj)
        clear FIN CP
        go_wp2_with fail
        refine CF.out.mono ?_
        rintro e w4 h4
        have h5 := TF.out _ _ _ _ bj h4
        rw [← HE.out] at h5
        obtain ⟨a, c, b, o, rfl, hd, hls, b4⟩ := h5
        have HLS := hmk hls
        clear CF h4 hls
        go_wp2_with fail
        go_ret
        exact ⟨a, c, b, o, rfl, hd, HLS.out, b4⟩
end Go.Proofs.YtfekgeaopchilaaGreatDoor
