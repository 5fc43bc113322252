import Derived.Test.YtljgofmmihmmfabDoorRclA
import Derived.Test.YtljgofmmihmmfabDoorCntM
import Derived.Test.YtljgofmmihmmfabDoorBldQ
/- the law's turned: the members in another order; mapOf. -/
set_option linter.unusedSimpArgs false
set_option linter.unusedVariables false
namespace Go.Proofs.YtljgofmmihmmfabDoor
open Go.RowKit Go.Lib

def trnK (n : Int) (len : Nat) : Nat := min n.toNat len
def trnL (l : List Mem) (n : Int) : List Mem := l.drop (trnK n l.length) ++ (l.take (trnK n l.length)).reverse
theorem trn_perm (l : List Mem) (n : Int) : (trnL l n).Perm l := by
  have h := ((List.reverse_perm (l.take (trnK n l.length))).append_left (l.drop (trnK n l.length))).trans List.perm_append_comm
  rw [List.take_append_drop] at h
  exact h
theorem trn_ge {n : Int} {len i : Nat} (hi : i < len) : (i : Int) ≥ n ↔ trnK n len ≤ i := by unfold trnK; omega
theorem trn_up {l : List Mem} {k j : Nat} (hj : j < l.length) (hk : k ≤ j) : (l.take (j + 1)).drop k = (l.take j).drop k ++ [l[j]] := by
  rw [List.take_succ_eq_append_getElem hj, List.drop_append_of_le_length (by rw [List.length_take]; omega)]
theorem trn_no {l : List Mem} {k j : Nat} (hk : j < k) : (l.take (j + 1)).drop k = (l.take j).drop k := by
  rw [List.drop_eq_nil_of_le (by rw [List.length_take]; omega), List.drop_eq_nil_of_le (by rw [List.length_take]; omega)]
theorem trn_dn {l : List Mem} {k p : Nat} (hp : p < l.length) (hk : p < k) : ((l.take k).drop p).reverse = ((l.take k).drop (p + 1)).reverse ++ [l[p]] := by
  rw [List.drop_eq_getElem_cons (show p < (l.take k).length by rw [List.length_take]; omega), List.reverse_cons, List.getElem_take]
theorem trn_dno {l : List Mem} {k p : Nat} (hk : k ≤ p) : (l.take k).drop p = (l.take k).drop (p + 1) := by
  rw [List.drop_eq_nil_of_le (by rw [List.length_take]; omega), List.drop_eq_nil_of_le (by rw [List.length_take]; omega)]

def TrnPost (l : List Mem) (n : Int) (w : World) (e : Ending) (w' : World) : Prop := ∃ a c b o, e = .returned (.slice a l.length c) ∧ Headed a l.length c b o ∧ liesM false w' (Old w') (trnL l n) b o ∧ Below w.heap.size w w'

set_option maxHeartbeats 2000000 in
set_option maxRecDepth 100000 in
theorem turned_any (l : List Mem) (n : Int) (S : Nat → Prop) (am : Option Addr) (cm bm om : Nat) (w : World) (ham : Headed am l.length cm bm om) (hl : liesM false w S l bm om) (hS : ∀ b, S b → b < w.heap.size) (hwt : l.length ≤ 2147483648) :
    Calls Tryd.prog 11 #[.slice am l.length cm, .int .i64 n] w (TrnPost l n w) := by
  have HL : Hid (∀ W, Below w.heap.size w W → liesM false W S l bm om) := fun W hb => liesM_keep (fun h => h) (fun x hx => hb.block x (hS x hx)) (fun _ h => h) _ hl
  obtain ⟨i1, hi1, hy0, hy1, hy2⟩ := info_parts info44
  have hJ : Hid (Tryd.prog.info? 38 = some i1 ∧ i1.zero = some (.agg #[.string ⟨#[]⟩, .int .i64 0, .bool false, .int .i64 0, .string ⟨#[]⟩, .slice none 0 0, .slice none 0 0]) ∧ i1.size = 7 ∧ i1.bytes = 104) := ⟨hi1, hy0, hy1, hy2⟩
  obtain ⟨k, hk⟩ : ∃ k, trnK n l.length = k := ⟨_, rfl⟩
  have HG : Hid (∀ i : Nat, i < l.length → ((i : Int) ≥ n ↔ k ≤ i)) := fun i hi => by rw [← hk]; exact trn_ge hi
  have HTL : Hid (trnL l n = l.drop k ++ (l.take k).reverse) := by show _ = _; rw [trnL, hk]
  have hkl : k ≤ l.length := by rw [← hk]; unfold trnK; omega
  clear hl hi1 hy0 hy1 hy2 hk
  go_enter Tryd.func11, Tryd.ntmps11
  go_wp2_with fail
  go_loopw [5, 6] (fun e5 e6 wq => ∃ (j : Nat) (smv : Value) (SM : Nat → Prop), j ≤ l.length ∧ smv = e5 ∧ e6 = .int .i64 (j : Int) ∧ Below w.heap.size w wq ∧ (∀ r, smv.ownBlock = some r → w.heap.size ≤ r) ∧ OwnM false wq 0 SM smv (((l.take j).drop k).map some)) (fun _ e6 _ => l.length - (RowKit.intOf e6).toNat)
  case atStart => exact ⟨0, _, _, by omega, rfl, rfl, Below.refl _ _, (fun r h => by cases h), by simpa using OwnR.nil _ _⟩
  case round =>
    obtain ⟨j, smv, SM, hj, rfl, rfl, bj, ho, oj⟩ := hrel
    by_cases hjl : j < l.length
    · have y1 : (j : Int) < l.length := by omega
      by_cases hkj : k ≤ j
      · have y2 : (j : Int) ≥ n := (HG.out j hjl).2 hkj
        obtain rfl : am = some ⟨bm, om, none⟩ := ham.at_.resolve_left (by omega)
        obtain ⟨hSb, hks, csj, hrow, hlj⟩ := liesM_get (HL.out wr bj) j hjl
        have HJ : Hid ((l[j]).2.lies false wr S csj) := hlj
        obtain ⟨ek, eb, ei, es, eal, enl, ecl, eam, enm, ecm, rfl⟩ := V.ten hlj
        have HT : Hid (((l.take (j + 1)).drop k).map some = ((l.take j).drop k).map some ++ [some l[j]]) := by show _ = _; rw [trn_up hjl hkj, List.map_append]; rfl
        have hll : (((l.take j).drop k).map some).length ≤ 4294967296 := by rw [List.length_map, List.length_drop, List.length_take]; omega
        rcases hxj : l[j] with ⟨key, xv⟩
        rw [hxj] at hks hrow HT HJ
        obtain ⟨X, hX⟩ : ∃ X, ((l.take j).drop k).map some = X := ⟨_, rfl⟩
        rw [hX] at oj HT hll
        clear hX
        obtain ⟨q, q0, q1, q2, q3, q4, q5⟩ := row7 hrow
        have ba : ∀ o, Below wr.heap.size wr (wr.alloc o) := fun o => (Below.refl _ _).alloc (Nat.le_refl _) _
        have hE : ∀ o, EM false (some (key, xv)) (wr.alloc o) S [.string key, .int .i64 ek, .bool eb, .int .i64 ei, .string es, .slice eal enl ecl, .slice eam enm ecm] := fun o => ⟨_, rfl, hks, V.lies_keep (fun h => h) (fun x hx => (ba o).block x (Nat.lt_of_lt_of_le (hS x hx) bj.size)) (fun _ h => h) _ HJ.out⟩
        have hSx : ∀ o b, S b → 0 ≤ b ∧ b < (wr.alloc o).heap.size ∧ some b ≠ smv.ownBlock := fun o b hb => ⟨Nat.zero_le _, by rw [alloc_size]; have := hS b hb; have := bj.size; omega, fun e => by have := ho b e.symm; have := hS b hb; omega⟩
        clear hlj hrow hxj HJ
        go_wp2_with (at_builtin; go_loud (refine wpl_push (keepM false) _ rfl (.tmp 17) (.tmp 22) 23 rfl 0 i1 _ 104 Tryd.underlying23 hJ.out.1 hJ.out.2.1 hJ.out.2.2.1 hJ.out.2.2.2 rfl (by decide) (by decide) smv (some (key, xv)) rfl (oj.alloc (keepM false) _) wr.heap.size 1 (0, 0) rfl (heap_alloc_new wr _) rfl one7 (hE _) (hSx _) hll (Nat.zero_le _) ?_))
        intro g cap w5 o5 g5 e5
        have B5 : Below w.heap.size w w5 := (bj.trans ((ba _).mono bj.size)).grown g5 (by rw [alloc_size]; have := bj.size; omega) (fun r e => ho r e)
        have hog : ∀ r, (Value.slice (some ⟨g, 0, none⟩) (X.length + 1) cap).ownBlock = some r → w.heap.size ≤ r := fun r hr => by
          have e : g = r := Option.some.inj hr
          subst e
          rcases e5 with h | h
          · exact ho g h
          · have := bj.size; (try rw [alloc_size] at h); omega
        clear q q0 q1 q2 q3 q4 q5 hE hSx
        go_wp2_with fail
        go_roundw
        case rel => exact ⟨j + 1, _, _, by omega, rfl, by go_num, B5, hog, by rw [HT.out]; exact o5⟩
        case measure => simp [RowKit.intOf]; omega
      · have y2 : ¬ (j : Int) ≥ n := fun h => hkj ((HG.out j hjl).1 h)
        have HT : Hid ((l.take (j + 1)).drop k = (l.take j).drop k) := trn_no (by omega)
        go_wp2_with fail
        go_roundw
        case rel => exact ⟨j + 1, _, _, by omega, rfl, by go_num, bj, ho, by rw [HT.out]; exact oj⟩
        case measure => simp [RowKit.intOf]; omega
    · obtain rfl : j = l.length := by omega
      have y1 : ¬ (l.length : Int) < l.length := by omega
      rw [List.take_length] at oj
      go_wp2_with fail
      go_loopw [5, 7] (fun e5 e7 wq => ∃ (q : Int) (smv : Value) (SM : Nat → Prop), -1 ≤ q ∧ q < l.length ∧ smv = e5 ∧ e7 = .int .i64 q ∧ Below w.heap.size w wq ∧ (∀ r, smv.ownBlock = some r → w.heap.size ≤ r) ∧ OwnM false wq 0 SM smv ((l.drop k ++ ((l.take k).drop (q + 1).toNat).reverse).map some)) (fun _ e7 _ => (RowKit.intOf e7 + 1).toNat)
      case atStart => exact ⟨(l.length : Int) - 1, _, _, by omega, by omega, rfl, by go_num, bj, ho, by
        have e : ((l.length : Int) - 1 + 1).toNat = l.length := by omega
        have e2 : (l.take k).drop l.length = [] := List.drop_eq_nil_of_le (by rw [List.length_take]; omega)
        rw [e, e2, List.reverse_nil, List.append_nil]
        exact oj⟩
      case round =>
        clear oj ho bj
        obtain ⟨q, smv, SM, hq, hql, rfl, rfl, bj, ho, oj⟩ := hrel
        by_cases hq0 : 0 ≤ q
        · obtain ⟨p, rfl⟩ : ∃ p : Nat, q = p := ⟨q.toNat, by omega⟩
          have y2 : (p : Int) ≥ 0 := by omega
          have hpl : p < l.length := by omega
          have e1 : ((p : Int) + 1).toNat = p + 1 := by omega
          have e2 : ((p : Int) - 1 + 1).toNat = p := by omega
          rw [e1] at oj
          have y3 : (p : Int) < l.length := by omega
          by_cases hkp : p < k
          · have y4 : (p : Int) < n := by
              have := HG.out p hpl
              exact Int.not_le.1 fun h => by have := this.1 h; omega
            obtain rfl : am = some ⟨bm, om, none⟩ := ham.at_.resolve_left (by omega)
            obtain ⟨hSb, hks, csj, hrow, hlj⟩ := liesM_get (HL.out wr bj) p hpl
            have HJ : Hid ((l[p]).2.lies false wr S csj) := hlj
            obtain ⟨ek, eb, ei, es, eal, enl, ecl, eam, enm, ecm, rfl⟩ := V.ten hlj
            have HT : Hid ((l.drop k ++ ((l.take k).drop p).reverse).map some = (l.drop k ++ ((l.take k).drop (p + 1)).reverse).map some ++ [some l[p]]) := by show _ = _; rw [trn_dn hpl hkp, ← List.append_assoc, List.map_append]; rfl
            have hll : ((l.drop k ++ ((l.take k).drop (p + 1)).reverse).map some).length ≤ 4294967296 := by simp; omega
            rcases hxj : l[p] with ⟨key, xv⟩
            rw [hxj] at hks hrow HT HJ
            obtain ⟨X, hX⟩ : ∃ X, (l.drop k ++ ((l.take k).drop (p + 1)).reverse).map some = X := ⟨_, rfl⟩
            rw [hX] at oj HT hll
            clear hX
            obtain ⟨c, c0, c1, c2, c3, c4, c5⟩ := row7 hrow
            have ba : ∀ o, Below wr.heap.size wr (wr.alloc o) := fun o => (Below.refl _ _).alloc (Nat.le_refl _) _
            have hE : ∀ o, EM false (some (key, xv)) (wr.alloc o) S [.string key, .int .i64 ek, .bool eb, .int .i64 ei, .string es, .slice eal enl ecl, .slice eam enm ecm] := fun o => ⟨_, rfl, hks, V.lies_keep (fun h => h) (fun x hx => (ba o).block x (Nat.lt_of_lt_of_le (hS x hx) bj.size)) (fun _ h => h) _ HJ.out⟩
            have hSx : ∀ o b, S b → 0 ≤ b ∧ b < (wr.alloc o).heap.size ∧ some b ≠ smv.ownBlock := fun o b hb => ⟨Nat.zero_le _, by rw [alloc_size]; have := hS b hb; have := bj.size; omega, fun e => by have := ho b e.symm; have := hS b hb; omega⟩
            clear hlj hrow hxj HJ e1
            go_wp2_with (at_builtin; go_loud (refine wpl_push (keepM false) _ rfl (.tmp 34) (.tmp 39) 23 rfl 0 i1 _ 104 Tryd.underlying23 hJ.out.1 hJ.out.2.1 hJ.out.2.2.1 hJ.out.2.2.2 rfl (by decide) (by decide) smv (some (key, xv)) rfl (oj.alloc (keepM false) _) wr.heap.size 1 (0, 0) rfl (heap_alloc_new wr _) rfl one7 (hE _) (hSx _) hll (Nat.zero_le _) ?_))
            intro g cap w5 o5 g5 e5
            have B5 : Below w.heap.size w w5 := (bj.trans ((ba _).mono bj.size)).grown g5 (by rw [alloc_size]; have := bj.size; omega) (fun r e => ho r e)
            have hog : ∀ r, (Value.slice (some ⟨g, 0, none⟩) (X.length + 1) cap).ownBlock = some r → w.heap.size ≤ r := fun r hr => by
              have e : g = r := Option.some.inj hr
              subst e
              rcases e5 with h | h
              · exact ho g h
              · have := bj.size; (try rw [alloc_size] at h); omega
            have HE2 : Hid (((p : Int) - 1 + 1).toNat = p) := e2
            clear c c0 c1 c2 c3 c4 c5 hE hSx e2
            go_wp2_with fail
            go_roundw
            case rel => exact ⟨(p : Int) - 1, _, _, by omega, by omega, rfl, by go_num, B5, hog, by rw [HE2.out, HT.out]; exact o5⟩
            case measure => simp [RowKit.intOf] <;> omega
          · have y4 : ¬ (p : Int) < n := fun h => by
              have := (HG.out p hpl).2 (by omega)
              omega
            have HT : Hid ((l.take k).drop p = (l.take k).drop (p + 1)) := trn_dno (by omega)
            have HE2 : Hid (((p : Int) - 1 + 1).toNat = p) := e2
            clear e1 e2
            go_wp2_with fail
            go_roundw
            case rel => exact ⟨(p : Int) - 1, _, _, by omega, by omega, rfl, by go_num, bj, ho, by rw [HE2.out, HT.out]; exact oj⟩
            case measure => simp [RowKit.intOf] <;> omega
        · obtain rfl : q = -1 := by omega
          have e1 : ((-1 : Int) + 1).toNat = 0 := by decide
          rw [e1, List.drop_zero, ← HTL.out] at oj
          have hlen : (trnL l n).length = l.length := (trn_perm l n).length_eq
          obtain ⟨sa, sc, sb, so, rfl, hd, hls⟩ := own_listM oj
          rw [hlen] at hd ⊢
          have HLS : Hid (liesM false wr (Old wr) (trnL l n) sb so) := liesM_keep (fun h => h) (fun _ _ => rfl) (fun x hx => hx.2) _ hls
          clear oj hls e1
          go_wp2_with fail
          go_ret
          exact ⟨sa, sc, sb, so, rfl, hd, HLS.out, bj⟩

def mapB (v : V) : Bool := decide (kindOf v = 5) && okV v
set_option maxHeartbeats 1000000 in
set_option maxRecDepth 100000 in
theorem lmapOf_any (R : Bool) (v : V) (S : Nat → Prop) (cs : List Value) (w : World) (t : Tb w) (hl : v.lies R w S cs) (hS : ∀ b, S b → b < w.heap.size) (hwt : v.wt ≤ 1099511627776) :
    Calls Tryd.prog 9 #[.agg cs.toArray] w (BPost (mapB v) w) := by
  obtain ⟨k, b, i, s, l, m⟩ := v
  have hl0 := hl
  rw [V.lies] at hl
  obtain ⟨al, cl, bl, ol, am, cm, bm, om, rfl, _⟩ := hl
  have ga : Below w.heap.size w (w.alloc (.cells #[.int .i64 k, .bool b, .int .i64 i, .string s, .slice al l.length cl, .slice am m.length cm] 25)) := (Below.refl _ _).alloc (Nat.le_refl _) _
  have c := ltaken_any R (V.mk k b i s l m) S _ _ (t.below ga t.z) (V.lies_keep (fun h => h) (fun x hx => ga.block x (hS x hx)) (fun _ h => h) _ hl0) (fun x hx => Nat.lt_of_lt_of_le (hS x hx) ga.size) hwt
  clear hl0
  by_cases hk : k = 5
  · subst hk
    have HF : Hid (mapB (V.mk 5 b i s l m) = okV (V.mk 5 b i s l m)) := by show _ = _; simp [mapB, kindOf]
    generalize okV (V.mk 5 b i s l m) = r at *
    go_enter Tryd.func9, Tryd.ntmps9
    go_wp2_with fail
    refine c.mono ?_
    rintro e w1 ⟨rfl, b1⟩
    go_wp2_with fail
    go_ret
    rw [HF.out]
    exact ⟨rfl, ga.trans (b1.mono ga.size)⟩
  · have HF : Hid (mapB (V.mk k b i s l m) = false) := by show _ = _; simp [mapB, kindOf, hk]
    go_enter Tryd.func9, Tryd.ntmps9
    go_wp2_with fail
    go_ret
    rw [HF.out]
    exact ⟨rfl, ga⟩
end Go.Proofs.YtljgofmmihmmfabDoor
