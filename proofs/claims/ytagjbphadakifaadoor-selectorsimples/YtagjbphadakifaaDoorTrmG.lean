import Derived.Test.YtagjbphadakifaaDoorTrmF
/- put. -/
set_option linter.unusedSimpArgs false
set_option linter.unusedVariables false
namespace Go.Proofs.YtagjbphadakifaaDoor
open Go.RowKit Go.Lib
theorem own_row9 {w : World} {base : Nat} {S : Nat → Prop} {v : Value} {l : List ByteArray} (h : OwnSt w base S v l) : w.ownsRow base 9 1 v l.length (l.map Value.string) := by
  obtain ⟨⟨xs, h1, h2⟩, _⟩ := h
  have e : xs = l.map Value.string := by
    apply List.ext_getElem
    · have := h1.1; simp; omega
    · intro j h3 h4
      have hj : j < l.length := by simpa using h4
      have h5 : (xs.drop (j * 1)).take 1 = [.string l[j]] := h2 j hj
      rw [Nat.mul_one, List.drop_eq_getElem_cons h3, List.take_succ_cons, List.take_zero] at h5
      injection h5 with h6 _
      rw [h6]; simp
  rw [← e]; exact h1
theorem run_cat9 (rt : TypeId) {W : World} {base : Nat} {v : Value} {l0 r : List ByteArray} (hown : OwnSt W base (fun _ => False) v l0) (a' : Option Addr) (c' : Nat) (hc : ∀ k (h : k < r.length), ∃ ad, a' = some ad ∧ W.cell? (ad.add k) = some (.string r[k]))
    (hz0 : a' = none → c' = 0) (hlen : l0.length + r.length ≤ 4294967296) (hbase : base ≤ W.heap.size) :
    ∃ v' w', (Builtin.append_ #[48, 48] rt #[v, .slice a' r.length c']).run Tryd.prog W = .ok v' w' ∧ OwnSt w' base (fun _ => False) v' (l0 ++ r) ∧ W.grownBy w' v.ownBlock := by
  obtain ⟨i, hi, hz⟩ := Option.map_eq_some_iff.1 info9
  simp only [Prod.mk.injEq] at hz
  obtain ⟨z1, z2, z3⟩ := hz
  have hn := own_row9 hown
  cases a' with
  | none =>
    have h0 : r = [] := by
      cases r with
      | nil => rfl
      | cons x t => obtain ⟨ad, e, _⟩ := hc 0 (by simp); cases e
    subst h0
    rw [hz0 rfl]
    exact ⟨_, W, run_append_owned_none (P := Tryd.prog) (w := W) base 48 rt 9 i 1 Tryd.underlying48 hi _ l0.length _ hn, (by simpa using hown), World.grownBy.refl _ _⟩
  | some ad =>
    have hnews : ∀ j u, (r.map Value.string)[j]? = some u → W.cell? (ad.add j) = some u := fun j u hu => by
      have hj : j < r.length := by have := (List.getElem?_eq_some_iff.1 hu).1; simpa using this
      obtain ⟨ad', e, hc⟩ := hc j hj
      obtain rfl := Option.some.inj e
      rw [hc]
      rw [List.getElem?_map, List.getElem?_eq_getElem hj] at hu
      simpa using hu
    obtain ⟨v', w', hrun, r1, r2, _⟩ := run_append_own (P := Tryd.prog) W base 48 rt 9 i _ 1 16 Tryd.underlying48 hi z1 z2 z3 rfl (by decide) v l0.length _ hn ad r.length c' (r.map Value.string) (by simp) hnews (fun u hu => by
      obtain ⟨s, _, rfl⟩ := List.mem_map.1 hu
      rfl) (by unfold maxLen; omega) (by omega) hbase
    exact ⟨v', w', hrun, own_strs (by simpa using r1), r2⟩
theorem wpl_cat9 (w : World) {ops : Array Oper} {rest : List Oper} {o : Oper} {act : Act} {Q : Exit → Act → World → Prop} (hgd : o.guard = none) (s x : Operand)
    (ho : o.op = .call { callee := .builtin .append, args := #[s, x], argTypes := #[48, 48] }) (base : Nat) {v : Value} {l0 r : List ByteArray} (hs : act.eval s = v) (hown : OwnSt w base (fun _ => False) v l0)
    (a' : Option Addr) (n c' : Nat) (hx : act.eval x = .slice a' n c') (hn : n = r.length) (hc : ∀ k (h : k < r.length), ∃ ad, a' = some ad ∧ w.cell? (ad.add k) = some (.string r[k])) (hz0 : a' = none → c' = 0) (hlen : l0.length + r.length ≤ 4294967296) (hbase : base ≤ w.heap.size)
    (h : ∀ v' w', OwnSt w' base (fun _ => False) v' (l0 ++ r) → w.grownBy w' v.ownBlock → wpList Tryd.prog ops Q rest (act.put o.dst v') w') : wpList Tryd.prog ops Q (o :: rest) act w := by
  subst hn
  refine wpList_plain hgd fun K' hK' => ?_
  obtain ⟨v', w', hrun, r1, r2⟩ := run_cat9 o.type hown a' c' hc hz0 hlen hbase
  unfold Oper.wp
  simp [execOp, ho, resolve, invoke, builtin, hs, hx, hrun, Result.andThen]
  exact hK' _ _ (h v' w' r1 r2)
theorem bytes_ext9 {a b : ByteArray} (h : a.toList = b.toList) : a = b := by
  rw [ByteArray.toList_eq, ByteArray.toList_eq] at h
  exact ByteArray.ext (Array.toList_inj.mp h)
def putI (l : List ByteArray) (x : ByteArray) : Nat := (l.takeWhile (fun s => Op.bytesLess s.toList x.toList)).length
def putS (l : List ByteArray) (x : ByteArray) (m : Bool) : List ByteArray := l.take (putI l x) ++ (if putI l x = l.length ∨ l[putI l x]? ≠ some x ∨ m = true then [x] else []) ++ l.drop (putI l x)
def PtPost (l : List ByteArray) (x : ByteArray) (m : Bool) (w : World) (e : Ending) (w' : World) : Prop := ∃ v, e = .returned v ∧ OwnSt w' w.heap.size (fun _ => False) v (putS l x m) ∧ Below w.heap.size w w'
theorem putI_at {l : List ByteArray} {x : ByteArray} {j : Nat} (hj : j ≤ l.length) (hlt : ∀ k (h : k < j), Op.bytesLess (l[k]).toList x.toList = true) (hge : ∀ h : j < l.length, Op.bytesLess (l[j]).toList x.toList = false) : putI l x = j := by
  induction l generalizing j with
  | nil => simp at hj; subst hj; rfl
  | cons s t ih =>
    cases j with
    | zero =>
      have := hge (by simp)
      simp only [List.getElem_cons_zero] at this
      simp [putI, this]
    | succ j =>
      have h0 := hlt 0 (by omega)
      simp only [List.getElem_cons_zero] at h0
      have := ih (j := j) (by simpa using hj) (fun k h => by have := hlt (k + 1) (by omega); simpa using this) (fun h => by have := hge (by simpa using h); simpa using this)
      unfold putI at this ⊢
      simp [h0, this]
set_option maxHeartbeats 8000000 in
set_option maxRecDepth 100000 in
theorem put_any (l : List ByteArray) (x : ByteArray) (m : Bool) (S : Nat → Prop) (a : Option Addr) (c b o : Nat) (w : World) (hh : Headed a l.length c b o) (hl : liesS w S l b o) (hS : ∀ y, S y → y < w.heap.size) (hlen : l.length ≤ 2147483647) :
    Calls Tryd.prog 23 #[.slice a l.length c, .string x, .bool m] w (PtPost l x m w) := by
  have HH := hmk hh
  have HL := hmk hl
  obtain ⟨i9, hi9, hz9⟩ := Option.map_eq_some_iff.1 info9
  simp only [Prod.mk.injEq] at hz9
  have hI := hmk (And.intro hi9 hz9)
  clear hh hl hi9 hz9
  go_enter Tryd.func23, Tryd.ntmps23
  go_wp2_with fail
  go_loopw [7, 8] (fun e7 e8 wr => ∃ (j : Nat) (hj : j ≤ l.length), e8 = .int .i64 (j : Int) ∧ Below w.heap.size w wr ∧ Hid (OwnSt wr w.heap.size (fun _ => False) e7 (l.take j)) ∧ Hid (∀ k (h : k < j), Op.bytesLess (l[k]).toList x.toList = true)) (fun _ e8 _ => l.length - (RowKit.intOf e8).toNat)
  case atStart => exact ⟨0, by omega, rfl, Below.refl _ _, (by show OwnSt _ _ _ _ _; simpa using OwnR.nil _ _), fun k h => by omega⟩
  case round =>
    obtain ⟨j, hj, rfl, Bj, HO, HLT⟩ := hrel
    have hzr := Bj.size
    obtain ⟨sa, sn, hv⟩ := own_slice HO.out
    have hlt0 : (l.take j).length = j := by simp; omega
    rw [hlt0] at hv
    by_cases hjl : j < l.length
    · have y1 : (j : Int) < l.length := by omega
      obtain rfl : a = some ⟨b, o, none⟩ := HH.out.at_.resolve_left (by omega)
      obtain ⟨s1, _, q1⟩ := HL.out j hjl
      have q := (Bj.cell (p := ⟨b, o + j, none⟩) (hS _ s1)).trans q1
      have HQ : Hid (∀ W : World, Below w.heap.size w W → ∀ k (h : k < (l.drop j).length), ∃ ad, some (⟨b, o + j, none⟩ : Addr) = some ad ∧ W.cell? (ad.add k) = some (.string (l.drop j)[k])) := fun W hW k hk => by
        have hk' : j + k < l.length := by simp at hk; omega
        obtain ⟨s2, _, q2⟩ := HL.out (j + k) hk'
        refine ⟨_, rfl, ?_⟩
        rw [Go.WideShapes.add_plain, List.getElem_drop, Nat.add_assoc]
        exact (hW.cell (p := ⟨b, o + (j + k), none⟩) (hS _ s2)).trans q2
      by_cases hlt : Op.bytesLess (l[j]).toList x.toList = true
      · have HT : Hid (l.take (j + 1) = l.take j ++ [l[j]]) := by show _ = _; rw [List.take_succ_eq_append_getElem hjl]
        have HLT1 : Hid (∀ k (h : k < j + 1), Op.bytesLess (l[k]).toList x.toList = true) := fun k hk => by
          by_cases e : k = j
          · subst e; exact hlt
          · exact HLT.out k (by omega)
        have hT := heap_alloc_new wr (.cells #[.string l[j]] 9)
        have HAL : Hid (OwnSt (wr.alloc (.cells #[.string l[j]] 9)) w.heap.size (fun _ => False) u7 (l.take j)) := HO.out.alloc keepS _
        have HLN : Hid ((l.take j).length ≤ 4294967296) := by show _ ≤ _; rw [hlt0]; omega
        have HBS : Hid (w.heap.size ≤ (wr.alloc (.cells #[.string l[j]] 9)).heap.size) := by show _ ≤ _; simp; omega
        clear HQ hv HLT
        go_wp2_with (at_builtin; go_loud (refine wpl_push keepS _ rfl (.tmp 21) (.tmp 26) 48 rfl w.heap.size i9 _ 16 Tryd.underlying48 hI.out.1 hI.out.2.1 hI.out.2.2.1 hI.out.2.2.2 rfl (by decide) (by decide) (Sx := fun _ => False) _ l[j] rfl HAL.out wr.heap.size 1 (0, 0) rfl hT rfl oneS (es_mk _ _ _) (fun b hb => hb.elim) HLN.out HBS.out ?_))
        intro g2 cap2 w8 o8 g8 e8
        have hob : ∀ r, u7.ownBlock = some r → w.heap.size ≤ r := fun r hr => (HO.out.lt hr).1
        have B8 : Below w.heap.size w w8 := (Bj.alloc (by omega) _).grown g8 HBS.out (fun r hr => hob r hr)
        have HO8 : Hid (OwnSt w8 w.heap.size (fun _ => False) (.slice (some ⟨g2, 0, none⟩) (j + 1) cap2) (l.take (j + 1))) := by show OwnSt _ _ _ _ _; rw [HT.out]; simpa [hlt0] using o8
        clear HAL hT o8 HO
        go_wp2_with fail
        go_roundw
        case rel => exact ⟨j + 1, by omega, by go_num, B8, HO8, HLT1⟩
        case measure => simp [RowKit.intOf]; omega
      · have hlt' : Op.bytesLess (l[j]).toList x.toList = false := by simpa using hlt
        have hI' := putI_at hj HLT.out (fun _ => hlt')
        have HLN0 : Hid ((l.take j).length + (l.drop j).length ≤ 4294967296) := by show _ ≤ _; simp; omega
        have HLN1 : Hid ((l.take j ++ [x]).length + (l.drop j).length ≤ 4294967296) := by show _ ≤ _; simp; omega
        have ycj : ¬ c = j := by have := HH.out.le; omega
        have ye : ((j : Int) == (l.length : Int)) = false := by rw [beq_eq_false_iff_ne]; omega
        have yle : (j : Int) ≤ (l.length : Int) := by omega
        clear HLT hv
        by_cases hx : l[j] = x
        · have yx : ((l[j]).toList == x.toList) = true := by rw [hx]; simp
          have hxx : Op.bytesLess x.toList x.toList = false := by rw [hx] at hlt'; exact hlt'
          have hPf : putS l x false = l.take j ++ l.drop j := by unfold putS; rw [hI', if_neg (by rw [List.getElem?_eq_getElem hjl, hx]; simp; omega)]; simp
          clear hx hlt
          cases m with
          | false =>
            have hP := hPf
            go_wp2_with (at_builtin; go_loud (refine wpl_cat9 _ rfl (.tmp 49) (.tmp 52) rfl w.heap.size (r := l.drop j) rfl HO.out _ _ _ rfl (by simp) (HQ.out _ Bj) (fun e => by cases e) HLN0.out hzr ?_))
            intro v9 w9 o9 g9
            have B9 : Below w.heap.size w w9 := Bj.grown g9 hzr (fun r hr => (HO.out.lt hr).1)
            clear HO g9 HQ
            go_wp2_with fail
            go_ret
            exact ⟨v9, rfl, by rw [hP]; simpa using o9, B9⟩
          | true =>
            have hP : putS l x true = l.take j ++ [x] ++ l.drop j := by unfold putS; rw [hI', if_pos (by simp)]
            have hT := heap_alloc_new wr (.cells #[.string x] 9)
            have HAL : Hid (OwnSt (wr.alloc (.cells #[.string x] 9)) w.heap.size (fun _ => False) u7 (l.take j)) := HO.out.alloc keepS _
            have HLN : Hid ((l.take j).length ≤ 4294967296) := by show _ ≤ _; rw [hlt0]; omega
            have HBS : Hid (w.heap.size ≤ (wr.alloc (.cells #[.string x] 9)).heap.size) := by show _ ≤ _; simp; omega
            go_wp2_with (at_builtin; go_loud (refine wpl_push keepS _ rfl (.tmp 45) (.tmp 47) 48 rfl w.heap.size i9 _ 16 Tryd.underlying48 hI.out.1 hI.out.2.1 hI.out.2.2.1 hI.out.2.2.2 rfl (by decide) (by decide) (Sx := fun _ => False) _ x rfl HAL.out wr.heap.size 1 (0, 0) rfl hT rfl oneS (es_mk _ _ _) (fun b hb => hb.elim) HLN.out HBS.out ?_))
            intro g2 cap2 w8 o8 g8 e8
            have B8 : Below w.heap.size w w8 := (Bj.alloc (by omega) _).grown g8 HBS.out (fun r hr => (HO.out.lt hr).1)
            have HO8 : Hid (OwnSt w8 w.heap.size (fun _ => False) (.slice (some ⟨g2, 0, none⟩) (j + 1) cap2) (l.take j ++ [x])) := by show OwnSt _ _ _ _ _; simpa [hlt0] using o8
            have HZ8 : Hid (w.heap.size ≤ w8.heap.size) := B8.size
            clear HAL hT o8 HO g8
            go_wp2_with (at_builtin; go_loud (refine wpl_cat9 _ rfl (.tmp 49) (.tmp 52) rfl w.heap.size (r := l.drop j) rfl HO8.out _ _ _ rfl (by simp) (HQ.out _ B8) (fun e => by cases e) HLN1.out HZ8.out ?_))
            intro v9 w9 o9 g9
            have B9 : Below w.heap.size w w9 := B8.grown g9 HZ8.out (fun r hr => (HO8.out.lt hr).1)
            clear HO8 g9 HQ
            go_wp2_with fail
            go_ret
            exact ⟨v9, rfl, by rw [hP]; simpa using o9, B9⟩
        · have yx : ((l[j]).toList == x.toList) = false := by
            rw [beq_eq_false_iff_ne]; intro e; exact hx (bytes_ext9 e)
          have hP : putS l x m = l.take j ++ [x] ++ l.drop j := by unfold putS; rw [hI', if_pos (by rw [List.getElem?_eq_getElem hjl]; simp [hx])]
          clear hx hlt
          cases m with
          | false =>
            have hT := heap_alloc_new wr (.cells #[.string x] 9)
            have HAL : Hid (OwnSt (wr.alloc (.cells #[.string x] 9)) w.heap.size (fun _ => False) u7 (l.take j)) := HO.out.alloc keepS _
            have HLN : Hid ((l.take j).length ≤ 4294967296) := by show _ ≤ _; rw [hlt0]; omega
            have HBS : Hid (w.heap.size ≤ (wr.alloc (.cells #[.string x] 9)).heap.size) := by show _ ≤ _; simp; omega
            go_wp2_with (at_builtin; go_loud (refine wpl_push keepS _ rfl (.tmp 45) (.tmp 47) 48 rfl w.heap.size i9 _ 16 Tryd.underlying48 hI.out.1 hI.out.2.1 hI.out.2.2.1 hI.out.2.2.2 rfl (by decide) (by decide) (Sx := fun _ => False) _ x rfl HAL.out wr.heap.size 1 (0, 0) rfl hT rfl oneS (es_mk _ _ _) (fun b hb => hb.elim) HLN.out HBS.out ?_))
            intro g2 cap2 w8 o8 g8 e8
            have B8 : Below w.heap.size w w8 := (Bj.alloc (by omega) _).grown g8 HBS.out (fun r hr => (HO.out.lt hr).1)
            have HO8 : Hid (OwnSt w8 w.heap.size (fun _ => False) (.slice (some ⟨g2, 0, none⟩) (j + 1) cap2) (l.take j ++ [x])) := by show OwnSt _ _ _ _ _; simpa [hlt0] using o8
            have HZ8 : Hid (w.heap.size ≤ w8.heap.size) := B8.size
            clear HAL hT o8 HO g8
            go_wp2_with (at_builtin; go_loud (refine wpl_cat9 _ rfl (.tmp 49) (.tmp 52) rfl w.heap.size (r := l.drop j) rfl HO8.out _ _ _ rfl (by simp) (HQ.out _ B8) (fun e => by cases e) HLN1.out HZ8.out ?_))
            intro v9 w9 o9 g9
            have B9 : Below w.heap.size w w9 := B8.grown g9 HZ8.out (fun r hr => (HO8.out.lt hr).1)
            clear HO8 g9 HQ
            go_wp2_with fail
            go_ret
            exact ⟨v9, rfl, by rw [hP]; simpa using o9, B9⟩
          | true =>
            have hT := heap_alloc_new wr (.cells #[.string x] 9)
            have HAL : Hid (OwnSt (wr.alloc (.cells #[.string x] 9)) w.heap.size (fun _ => False) u7 (l.take j)) := HO.out.alloc keepS _
            have HLN : Hid ((l.take j).length ≤ 4294967296) := by show _ ≤ _; rw [hlt0]; omega
            have HBS : Hid (w.heap.size ≤ (wr.alloc (.cells #[.string x] 9)).heap.size) := by show _ ≤ _; simp; omega
            go_wp2_with (at_builtin; go_loud (refine wpl_push keepS _ rfl (.tmp 45) (.tmp 47) 48 rfl w.heap.size i9 _ 16 Tryd.underlying48 hI.out.1 hI.out.2.1 hI.out.2.2.1 hI.out.2.2.2 rfl (by decide) (by decide) (Sx := fun _ => False) _ x rfl HAL.out wr.heap.size 1 (0, 0) rfl hT rfl oneS (es_mk _ _ _) (fun b hb => hb.elim) HLN.out HBS.out ?_))
            intro g2 cap2 w8 o8 g8 e8
            have B8 : Below w.heap.size w w8 := (Bj.alloc (by omega) _).grown g8 HBS.out (fun r hr => (HO.out.lt hr).1)
            have HO8 : Hid (OwnSt w8 w.heap.size (fun _ => False) (.slice (some ⟨g2, 0, none⟩) (j + 1) cap2) (l.take j ++ [x])) := by show OwnSt _ _ _ _ _; simpa [hlt0] using o8
            have HZ8 : Hid (w.heap.size ≤ w8.heap.size) := B8.size
            clear HAL hT o8 HO g8
            go_wp2_with (at_builtin; go_loud (refine wpl_cat9 _ rfl (.tmp 49) (.tmp 52) rfl w.heap.size (r := l.drop j) rfl HO8.out _ _ _ rfl (by simp) (HQ.out _ B8) (fun e => by cases e) HLN1.out HZ8.out ?_))
            intro v9 w9 o9 g9
            have B9 : Below w.heap.size w w9 := B8.grown g9 HZ8.out (fun r hr => (HO8.out.lt hr).1)
            clear HO8 g9 HQ
            go_wp2_with fail
            go_ret
            exact ⟨v9, rfl, by rw [hP]; simpa using o9, B9⟩
    · obtain rfl : j = l.length := by omega
      have hI' := putI_at (Nat.le_refl _) HLT.out (fun h => by omega)
      have hP : putS l x m = l.take l.length ++ [x] ++ l.drop l.length := by unfold putS; rw [hI', if_pos (by simp)]
      rw [List.take_length] at HO
      have hT := heap_alloc_new wr (.cells #[.string x] 9)
      have HAL : Hid (OwnSt (wr.alloc (.cells #[.string x] 9)) w.heap.size (fun _ => False) u7 l) := HO.out.alloc keepS _
      have HLN : Hid (l.length ≤ 4294967296) := by show _ ≤ _; omega
      have HLN1 : Hid ((l ++ [x]).length + ([] : List ByteArray).length ≤ 4294967296) := by show _ ≤ _; simp; omega
      have HBS : Hid (w.heap.size ≤ (wr.alloc (.cells #[.string x] 9)).heap.size) := by show _ ≤ _; simp; omega
      have yle : (l.length : Int) ≤ (c : Int) := by have := HH.out.le; omega
      have yn : ¬ (l.length : Int) < (l.length : Int) := by omega
      clear HLT hv hlt0 hI' hjl
      cases a with
      | none =>
        have hc0 := HH.out.nil rfl
        have hl0 : l.length = 0 := by omega
        subst hc0
        obtain rfl := List.length_eq_zero_iff.1 hl0
        clear yle hl0 hj yn HLN1 HL HH
        have HAL' : Hid (OwnSt (wr.alloc (.cells #[.string x] 9)) w.heap.size (fun _ => False) u7 []) := HAL.out
        go_wp2_with (at_builtin; go_loud (refine wpl_push keepS _ rfl (.tmp 45) (.tmp 47) 48 rfl w.heap.size i9 _ 16 Tryd.underlying48 hI.out.1 hI.out.2.1 hI.out.2.2.1 hI.out.2.2.2 rfl (by decide) (by decide) (Sx := fun _ => False) _ x rfl HAL'.out wr.heap.size 1 (0, 0) rfl hT rfl oneS (es_mk _ _ _) (fun b hb => hb.elim) (by decide) HBS.out ?_))
        intro g2 cap2 w8 o8 g8 e8
        have B8 : Below w.heap.size w w8 := (Bj.alloc (by omega) _).grown g8 HBS.out (fun r hr => (HO.out.lt hr).1)
        have HO8 : Hid (OwnSt w8 w.heap.size (fun _ => False) (.slice (some ⟨g2, 0, none⟩) 1 cap2) [x]) := by show OwnSt _ _ _ _ _; simpa using o8
        have HZ8 : Hid (w.heap.size ≤ w8.heap.size) := B8.size
        clear HAL HAL' hT o8 HO g8
        go_wp2_with (at_builtin; go_loud (refine wpl_cat9 _ rfl (.tmp 49) (.tmp 52) rfl w.heap.size (r := []) rfl HO8.out _ _ _ rfl (by simp) (fun k hk => by simp at hk) (fun e => by first | rfl | cases e) (by simp) HZ8.out ?_))
        intro v9 w9 o9 g9
        have B9 : Below w.heap.size w w9 := B8.grown g9 HZ8.out (fun r hr => (HO8.out.lt hr).1)
        clear HO8 g9
        go_wp2_with fail
        go_ret
        exact ⟨v9, rfl, by rw [hP]; simpa using o9, B9⟩
      | some ad =>
        by_cases hcl : c = l.length
        · subst hcl
          go_wp2_with (at_builtin; go_loud (refine wpl_push keepS _ rfl (.tmp 45) (.tmp 47) 48 rfl w.heap.size i9 _ 16 Tryd.underlying48 hI.out.1 hI.out.2.1 hI.out.2.2.1 hI.out.2.2.2 rfl (by decide) (by decide) (Sx := fun _ => False) _ x rfl HAL.out wr.heap.size 1 (0, 0) rfl hT rfl oneS (es_mk _ _ _) (fun b hb => hb.elim) HLN.out HBS.out ?_))
          intro g2 cap2 w8 o8 g8 e8
          have B8 : Below w.heap.size w w8 := (Bj.alloc (by omega) _).grown g8 HBS.out (fun r hr => (HO.out.lt hr).1)
          have HO8 : Hid (OwnSt w8 w.heap.size (fun _ => False) (.slice (some ⟨g2, 0, none⟩) (l.length + 1) cap2) (l ++ [x])) := by show OwnSt _ _ _ _ _; simpa using o8
          have HZ8 : Hid (w.heap.size ≤ w8.heap.size) := B8.size
          clear HAL hT o8 HO g8
          go_wp2_with (at_builtin; go_loud (refine wpl_cat9 _ rfl (.tmp 49) (.tmp 52) rfl w.heap.size (r := []) rfl HO8.out _ _ _ rfl (by simp) (fun k hk => by simp at hk) (fun e => by first | rfl | cases e) HLN1.out HZ8.out ?_))
          intro v9 w9 o9 g9
          have B9 : Below w.heap.size w w9 := B8.grown g9 HZ8.out (fun r hr => (HO8.out.lt hr).1)
          clear HO8 g9
          go_wp2_with fail
          go_ret
          exact ⟨v9, rfl, by rw [hP]; simpa using o9, B9⟩
        · have hcl' : ¬ c = l.length := hcl
          go_wp2_with (at_builtin; go_loud (refine wpl_push keepS _ rfl (.tmp 45) (.tmp 47) 48 rfl w.heap.size i9 _ 16 Tryd.underlying48 hI.out.1 hI.out.2.1 hI.out.2.2.1 hI.out.2.2.2 rfl (by decide) (by decide) (Sx := fun _ => False) _ x rfl HAL.out wr.heap.size 1 (0, 0) rfl hT rfl oneS (es_mk _ _ _) (fun b hb => hb.elim) HLN.out HBS.out ?_))
          intro g2 cap2 w8 o8 g8 e8
          have B8 : Below w.heap.size w w8 := (Bj.alloc (by omega) _).grown g8 HBS.out (fun r hr => (HO.out.lt hr).1)
          have HO8 : Hid (OwnSt w8 w.heap.size (fun _ => False) (.slice (some ⟨g2, 0, none⟩) (l.length + 1) cap2) (l ++ [x])) := by show OwnSt _ _ _ _ _; simpa using o8
          have HZ8 : Hid (w.heap.size ≤ w8.heap.size) := B8.size
          clear HAL hT o8 HO g8
          go_wp2_with (at_builtin; go_loud (refine wpl_cat9 _ rfl (.tmp 49) (.tmp 52) rfl w.heap.size (r := []) rfl HO8.out _ _ _ rfl (by simp) (fun k hk => by simp at hk) (fun e => by first | rfl | cases e) HLN1.out HZ8.out ?_))
          intro v9 w9 o9 g9
          have B9 : Below w.heap.size w w9 := B8.grown g9 HZ8.out (fun r hr => (HO8.out.lt hr).1)
          clear HO8 g9
          go_wp2_with fail
          go_ret
          exact ⟨v9, rfl, by rw [hP]; simpa using o9, B9⟩
end Go.Proofs.YtagjbphadakifaaDoor
