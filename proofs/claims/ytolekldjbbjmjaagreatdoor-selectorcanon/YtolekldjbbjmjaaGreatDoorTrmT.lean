import Derived.Test.YtolekldjbbjmjaaGreatDoorG5
import Derived.Maps.OwnSet
import Derived.Maps.Own
import Derived.StringKeys
import Derived.Lib.SmallJoins
/- byKey: the first text of each key, in a map. -/
set_option linter.unusedSimpArgs false
set_option linter.unusedVariables false
namespace Go.Proofs.YtolekldjbbjmjaaGreatDoor
open Go.RowKit Go.Lib Go.Maps
def oL (l : List Value) : Option (DataW Unit × List MemPlace) := match l with
  | [.int .i64 k, .bool _, .int .i64 _, .string s, .slice _ _ _, .slice _ _ _] => some (.agg [.lit (.int .i64 k), .lit (.string s.data.toList)], [])
  | _ => none
def oR (v : Value) : Option (DataW Unit × List MemPlace) := match v with
  | .agg c => oL c.toList
  | _ => none
def dat (k : Int) (s : ByteArray) : DataW Unit := .agg [.lit (.int .i64 k), .lit (.string s.data.toList)]
theorem dat_inj {a b : Int} {s t : ByteArray} (h : dat a s = dat b t) : a = b ∧ s = t := by
  unfold dat at h
  simp only [DataW.agg.injEq, List.cons.injEq, DataW.lit.injEq, Lit.int.injEq, Lit.string.injEq, and_true, true_and] at h
  exact ⟨h.1, ByteArray.ext (Array.toList_inj.1 h.2)⟩
theorem oR_shape {v : Value} {d : DataW Unit} {ps : List MemPlace} (h : oR v = some (d, ps)) : ∃ k b i s a n c a2 n2 c2, v = .agg #[.int .i64 k, .bool b, .int .i64 i, .string s, .slice a n c, .slice a2 n2 c2] ∧ d = dat k s := by
  unfold oR at h
  split at h
  · rename_i c
    obtain ⟨c⟩ := c
    simp only at h
    unfold oL at h
    split at h
    · simp only [Option.some.injEq, Prod.mk.injEq] at h
      obtain ⟨rfl, _⟩ := h
      exact ⟨_, _, _, _, _, _, _, _, _, _, rfl, rfl⟩
    · cases h
  · cases h
theorem law9 : Maps.Keyed Tryz.prog 9 := Maps.string_keyed Tryz.underlying9
abbrev zero6 : Value := .agg #[.int .i64 0, .bool false, .int .i64 0, .string ⟨#[]⟩, .slice none 0 0, .slice none 0 0]
theorem zero32 (w : World) : (zeroValue 51).run Tryz.prog w = .ok zero6 w := by kernel_rfl
abbrev kL (k : ByteArray) : Lit := .string k.data.toList
theorem key_of (k : ByteArray) (h : k.size ≤ maxLen) : keyOf Tryz.prog 9 (.string k) = some (kL k) := by
  simp only [keyOf, Tryz.underlying9, mapKey]
  simp [h]
theorem kl_inj {a b : ByteArray} (h : kL a = kL b) : a = b := by
  have h1 : a.data.toList = b.data.toList := Lit.string.inj h
  have h2 : a.data = b.data := Array.toList_inj.1 h1
  cases a; cases b; cases h2; rfl
theorem kl_key (k : ByteArray) : WideAt.IsKeyLit (kL k) := trivial
/-- the map says of each key what the first labels say -/
def Says (m : List Mem) (D : DataW Unit) : Prop := IsMap D ∧ ∀ x, D.atKey (kL x) (dat 0 ⟨#[]⟩) = dat (if (labF m x).2 then 3 else 0) (labF m x).1
theorem labF_next {m : List Mem} {j : Nat} (h : j < m.length) (x : ByteArray) : labF (m.take (j + 1)) x = if (labF (m.take j) x).2 then labF (m.take j) x else if isLab x m[j] then (vStr (m[j]).2, true) else (⟨#[]⟩, false) := by
  rw [List.take_succ_eq_append_getElem h]
  unfold labF
  rw [List.find?_append]
  cases (m.take j).find? (isLab x) with
  | some p => simp
  | none =>
    cases hi : isLab x m[j] with
    | true => simp [hi]
    | false => simp [hi]
theorem labF_not {m : List Mem} {x : ByteArray} (h : (labF m x).2 = false) : labF m x = (⟨#[]⟩, false) := by
  unfold labF at h ⊢
  split at h
  · cases h
  · rfl
theorem says_nil : Says [] (.map []) := ⟨isMap_empty, fun x => rfl⟩
theorem says_same {m : List Mem} {D : DataW Unit} {j : Nat} (h : j < m.length) (hs : Says (m.take j) D) (hno : vKind (m[j]).2 = 3 → (labF (m.take j) (m[j]).1).2 = true) : Says (m.take (j + 1)) D := by
  refine ⟨hs.1, fun x => ?_⟩
  rw [hs.2 x, labF_next h x]
  cases hf : (labF (m.take j) x).2 with
  | true => simp [hf]
  | false =>
    have hi : isLab x m[j] = false := by
      unfold isLab
      by_cases h3 : vKind (m[j]).2 = 3
      · have h4 := hno h3
        by_cases hx : (m[j]).1 = x
        · rw [hx, hf] at h4; cases h4
        · have : ((m[j]).1.toList == x.toList) = false := by
            rw [beq_eq_false_iff_ne]; intro e; exact hx (bytes_ext9 e)
          rw [this, Bool.false_and]
      · have : (vKind (m[j]).2 == 3) = false := by rw [beq_eq_false_iff_ne]; exact h3
        rw [this, Bool.and_false]
    rw [hi, labF_not hf]
    simp
theorem says_put {m : List Mem} {D : DataW Unit} {j : Nat} (h : j < m.length) (hs : Says (m.take j) D) (h3 : vKind (m[j]).2 = 3) (hn : (labF (m.take j) (m[j]).1).2 = false) : Says (m.take (j + 1)) (D.put (kL (m[j]).1) (dat 3 (vStr (m[j]).2))) := by
  refine ⟨hs.1.put _ _, fun x => ?_⟩
  rw [labF_next h x]
  by_cases hx : (m[j]).1 = x
  · subst hx
    have hi : isLab (m[j]).1 m[j] = true := by unfold isLab; rw [h3]; simp
    rw [atKey_put_same hs.1 (kl_key _), hn, hi]
    simp
  · have hi : isLab x m[j] = false := by
      unfold isLab
      have : ((m[j]).1.toList == x.toList) = false := by
        rw [beq_eq_false_iff_ne]; intro e; exact hx (bytes_ext9 e)
      rw [this, Bool.false_and]
    rw [atKey_put_other (fun e => hx (kl_inj e).symm), hs.2 x, hi]
    cases hf : (labF (m.take j) x).2 with
    | true => simp [hf]
    | false => rw [labF_not hf]; simp
def ByPost (m : List Mem) (w : World) (e : Ending) (w' : World) : Prop := ∃ b n D, e = .returned (.map (some b)) ∧ w'.ownsMap Tryz.prog 9 oR b n D ∧ Says m D ∧ Below w.heap.size w w'
/-- a lookup in such a map -/
theorem says_look {m : List Mem} {D : DataW Unit} {w : World} {b n : Nat} (h : w.ownsMap Tryz.prog 9 oR b n D) (hs : Says m D) (x : ByteArray) (hx : x.size ≤ maxLen) :
    ∃ vb vi a n c a2 n2 c2, (Instr.lookup 65 (.map (some b)) (.string x) false).run Tryz.prog w = .ok (.agg #[.int .i64 (if (labF m x).2 then 3 else 0), .bool vb, .int .i64 vi, .string (labF m x).1, .slice a n c, .slice a2 n2 c2]) w := by
  obtain ⟨v, ps, hrun, hR⟩ := h.lookup law9 Tryz.underlying65 (zero32 _) (zd := dat 0 ⟨#[]⟩) (zp := []) rfl (key_of x hx)
  obtain ⟨k, vb, vi, s, a, n, c, a2, n2, c2, rfl, hd⟩ := oR_shape hR
  rw [hs.2 x] at hd
  obtain ⟨rfl, rfl⟩ := dat_inj hd
  exact ⟨_, _, _, _, _, _, _, _, hrun⟩
theorem fld0 (k : Int) (b : Bool) (i : Int) (s : ByteArray) (v4 v5 : Value) (w : World) : (Instr.field 51 (.agg #[.int .i64 k, .bool b, .int .i64 i, .string s, v4, v5]) 0).run Tryz.prog w = .ok (.int .i64 k) w := by kernel_rfl
theorem mk55 (n : Int) (w : World) : (Instr.makeMap 65 (some (.int .i64 n))).run Tryz.prog w = .ok (.map (some w.heap.size)) (w.alloc (.map #[] 0)) := by kernel_rfl
set_option maxHeartbeats 8000000 in
set_option maxRecDepth 100000 in
theorem bykey_any (m : List Mem) (R : Bool) (S : Nat → Prop) (a : Option Addr) (c b o : Nat) (w : World) (hh : Headed a m.length c b o) (hl : liesM R w S m b o) (hS : ∀ y, S y → y < w.heap.size) (hlm : m.length ≤ 2147483647) :
    Calls Tryz.prog 26 #[.slice a m.length c] w (ByPost m w) := by
  have HH := hmk hh
  have HL := hmk hl
  have hmk55 := mk55 (m.length : Int) w
  have hE := World.ownsMap_made w Tryz.prog 9 oR
  have hB0 : Below w.heap.size w (w.alloc (.map #[] 0)) := (Below.refl _ _).alloc (Nat.le_refl _) _
  have HE : Hid ((w.alloc (.map #[] 0)).ownsMap Tryz.prog 9 oR w.heap.size 0 (.map [])) := hE
  have HB0 := hmk hB0
  clear hh hl hE hB0
  go_enter Tryz.func26, Tryz.ntmps26
  go_wp2_with fail
  clear hmk55
  go_loopw [11] (fun e11 wr => ∃ (j n : Nat) (D : DataW Unit), j ≤ m.length ∧ n ≤ j ∧ e11 = .int .i64 (j : Int) ∧ Hid (Below w.heap.size w wr) ∧ Hid (wr.ownsMap Tryz.prog 9 oR w.heap.size n D) ∧ Hid (Says (m.take j) D)) (fun e11 _ => m.length - (RowKit.intOf e11).toNat)
  case atStart => exact ⟨0, 0, .map [], by omega, by omega, rfl, HB0, HE, says_nil⟩
  case round =>
    clear HE HB0
    obtain ⟨j, n, D, hj, hn, rfl, HB, HM, HS⟩ := hrel
    by_cases hjl : j < m.length
    · have y1 : (j : Int) < m.length := by omega
      obtain rfl : a = some ⟨b, o, none⟩ := HH.out.at_.resolve_left (by omega)
      obtain ⟨s1, hks, cs, hrow0, hv⟩ := liesM_get HL.out j hjl
      have hbl := hS _ s1
      have hrow := hrow0.keep (HB.out.block _ hbl)
      have HSA : Hid (∀ D', Says (m.take j) D' → (vKind (m[j]).2 = 3 → (labF (m.take j) (m[j]).1).2 = true) → Says (m.take (j + 1)) D') := fun D' h h2 => says_same hjl h h2
      have HPU : Hid (∀ D', Says (m.take j) D' → vKind (m[j]).2 = 3 → (labF (m.take j) (m[j]).1).2 = false → Says (m.take (j + 1)) (D'.put (kL (m[j]).1) (dat 3 (vStr (m[j]).2)))) := fun D' h h2 h3 => says_put hjl h h2 h3
      obtain ⟨⟨key, v⟩, hx⟩ : ∃ p, m[j] = p := ⟨_, rfl⟩
      rw [hx] at hrow hv hks HSA HPU
      obtain ⟨kk, vb, vi, vs, vl, vm⟩ := v
      rw [V.lies] at hv
      obtain ⟨al, cl, bl, ol, am, cm, bm, om, rfl, _⟩ := hv
      obtain ⟨q, q0, q1, q2, q3, q4, q5⟩ := row7 hrow
      have HX3 := hmk (heap_alloc_new wr (.cells #[.string key, .int .i64 kk, .bool vb, .int .i64 vi, .string vs, .slice al vl.length cl, .slice am vm.length cm] 53))
      have HA : Hid (Below wr.heap.size wr (wr.alloc (.cells #[.string key, .int .i64 kk, .bool vb, .int .i64 vi, .string vs, .slice al vl.length cl, .slice am vm.length cm] 53))) := (Below.refl _ _).alloc (Nat.le_refl _) _
      have HBA : Hid (Below w.heap.size w (wr.alloc (.cells #[.string key, .int .i64 kk, .bool vb, .int .i64 vi, .string vs, .slice al vl.length cl, .slice am vm.length cm] 53))) := HB.out.alloc HB.out.size _
      have HMA : Hid ((wr.alloc (.cells #[.string key, .int .i64 kk, .bool vb, .int .i64 vi, .string vs, .slice al vl.length cl, .slice am vm.length cm] 53)).ownsMap Tryz.prog 9 oR w.heap.size n D) := HM.out.alloc _
      obtain ⟨ub, ui, ua, un, uc, ua2, un2, uc2, hlk⟩ := says_look HMA.out HS.out key hks
      have HLK := hmk hlk
      clear hrow hrow0 hx hlk
      by_cases h3 : kk = 3
      · subst h3
        have hk3 : vKind (V.mk 3 vb vi vs vl vm) = 3 := rfl
        cases hf : (labF (m.take j) key).2 with
        | true =>
          have HS2 := hmk (HSA.out D HS.out (fun _ => hf))
          have hlk := HLK.out
          rw [hf] at hlk
          simp only [if_true] at hlk
          have hfl := fld0 3 ub ui (labF (m.take j) key).1 (.slice ua un uc) (.slice ua2 un2 uc2) (wr.alloc (.cells #[.string key, .int .i64 3, .bool vb, .int .i64 vi, .string vs, .slice al vl.length cl, .slice am vm.length cm] 53))
          clear HLK HPU HSA hk3 hf
          go_wp2_with fail
          go_roundw
          case rel => exact ⟨j + 1, n, D, by omega, by omega, by go_num, HBA, HMA, HS2⟩
          case measure => simp [RowKit.intOf]; omega
        | false =>
          have HS2 := hmk (HPU.out D HS.out hk3 hf)
          have hlk := HLK.out
          rw [hf] at hlk
          simp only [Bool.false_eq_true, if_false] at hlk
          have hfl := fld0 0 ub ui (labF (m.take j) key).1 (.slice ua un uc) (.slice ua2 un2 uc2) (wr.alloc (.cells #[.string key, .int .i64 3, .bool vb, .int .i64 vi, .string vs, .slice al vl.length cl, .slice am vm.length cm] 53))
          have HD : Hid (oR (.agg #[.int .i64 3, .bool vb, .int .i64 vi, .string vs, .slice al vl.length cl, .slice am vm.length cm]) = some (dat 3 vs, [])) := rfl
          have HKO := hmk (key_of key hks)
          clear HLK HPU HSA hk3 hf
          go_wp2_with (at_mapUpdate; refine wpList_mapUpdate_own _ rfl _ _ _ 65 rfl 9 51 law9 Tryz.underlying65 oR w.heap.size n D rfl HMA.out (by unfold maxLen; omega) _ _ (kL key) rfl rfl HKO.out _ [] HD.out ?_)
          intro w3 K3 g3
          have HB3 : Hid (Below w.heap.size w w3) := HBA.out.grown g3 HBA.out.size (fun r hr => by have := Option.some.inj hr; omega)
          have HK3 : Hid (w3.ownsMap Tryz.prog 9 oR w.heap.size (n + 1) (D.put (kL key) (dat 3 vs))) := K3
          clear K3 g3 hlk
          go_wp2_with fail
          go_roundw
          case rel => exact ⟨j + 1, n + 1, _, by omega, by omega, by go_num, HB3, HK3, HS2⟩
          case measure => simp [RowKit.intOf]; omega
      · have HS2 := hmk (HSA.out D HS.out (fun h => absurd h h3))
        have h3' : (kk == 3) = false := by rw [beq_eq_false_iff_ne]; exact h3
        clear HLK HPU HSA h3
        go_wp2_with fail
        go_roundw
        case rel => exact ⟨j + 1, n, D, by omega, by omega, by go_num, HBA, HMA, HS2⟩
        case measure => simp [RowKit.intOf]; omega
    · obtain rfl : j = m.length := by omega
      rw [List.take_length] at HS
      have y1 : ¬ (m.length : Int) < m.length := by omega
      go_wp2_with fail
      (try simp only [Exit.inBlock, Exit.then])
      go_ret
      exact ⟨_, n, D, rfl, HM.out, HS.out, HB.out⟩
end Go.Proofs.YtolekldjbbjmjaaGreatDoor
