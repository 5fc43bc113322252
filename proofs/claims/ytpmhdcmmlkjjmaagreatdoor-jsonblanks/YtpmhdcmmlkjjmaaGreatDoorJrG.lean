import Derived.Test.YtpmhdcmmlkjjmaaGreatDoorG20
import Derived.Maps.OwnSet
import Derived.Maps.Own
import Derived.StringKeys
/- the reader's key: the keys that are known lie in a map. -/
set_option linter.unusedSimpArgs false
set_option linter.unusedVariables false
set_option maxRecDepth 100000
namespace Go.Proofs.YtpmhdcmmlkjjmaaGreatDoor
open Go.RowKit Go.Lib
/-- the keys that are known -/
def KnM (w : World) (b : Nat) (ks : List (List UInt8)) : Prop := w.ownsMap Tryz.prog 9 (unitElem (H := Unit)) b ks.length (Maps.setOf (.agg []) (ks.map Lit.string))
theorem law9 : Maps.Keyed Tryz.prog 9 := Maps.string_keyed Tryz.underlying9
theorem zero164 (w : World) : (zeroValue 164).run Tryz.prog w = .ok (.agg #[]) w := by kernel_rfl
theorem kn_has (ks : List (List UInt8)) (x : List UInt8) : Maps.has (Maps.setOf (H := Unit) (.agg []) (ks.map Lit.string)) (.string x) = decide (x ∈ ks) := by
  rw [Maps.has_setOf]
  · rw [Bool.eq_iff_iff, List.any_map, List.any_eq_true, decide_eq_true_eq]
    constructor
    · rintro ⟨y, hy, h⟩
      have : y = x := by simpa [Lit.sameKey] using h
      exact this ▸ hy
    · intro h
      exact ⟨x, h, by simp [Lit.sameKey]⟩
  · intro y hy
    obtain ⟨z, _, rfl⟩ := List.mem_map.1 hy
    simp [WideAt.IsKeyLit]
/-- all blocks stand but two -/
structure G2 (g b : Nat) (w w' : World) : Prop where
  os : w'.os = w.os
  tape : w'.tape = w.tape
  output : w'.output = w.output
  size : w.heap.size ≤ w'.heap.size
  block : ∀ k, k < w.heap.size → k ≠ g → k ≠ b → w'.heap[k]? = w.heap[k]?
theorem G2.of {g b : Nat} {w w' : World} (h : w.grownBy w' (some g)) : G2 g b w w' := ⟨h.os, h.tape, h.output, h.size, fun k hk h1 _ => h.block k hk (fun e => h1 (Option.some.inj e))⟩
theorem G2.ofb {g b : Nat} {w w' : World} (h : w.grownBy w' (some b)) : G2 g b w w' := ⟨h.os, h.tape, h.output, h.size, fun k hk _ h2 => h.block k hk (fun e => h2 (Option.some.inj e))⟩
theorem G2.trans {g b : Nat} {w w1 w2 : World} (h : G2 g b w w1) (h2 : G2 g b w1 w2) : G2 g b w w2 :=
  ⟨h2.os.trans h.os, h2.tape.trans h.tape, h2.output.trans h.output, Nat.le_trans h.size h2.size, fun k hk a c => (h2.block k (Nat.lt_of_lt_of_le hk h.size) a c).trans (h.block k hk a c)⟩
theorem G2.grown {g b : Nat} {w0 w w' : World} (h0 : w0.grownBy w (some g)) (hb : w0.heap.size ≤ b) (h : G2 g b w w') : w0.grownBy w' (some g) :=
  ⟨h.os.trans h0.os, h.tape.trans h0.tape, h.output.trans h0.output, Nat.le_trans h0.size h.size, fun k hk hne => (h.block k (Nat.lt_of_lt_of_le hk h0.size) (fun e => hne (by rw [e])) (by omega)).trans (h0.block k hk hne)⟩
/-- a key and what stands between it and its value -/
def keyJ (l : List UInt8) (k : Nat) (ks : List (List UInt8)) : Except Flt (ByteArray × Nat) := match nxJ l k with
  | .error f => .error f
  | .ok c => if c = 34 then (match quoJ l k with
    | .error f => .error f
    | .ok (x, k1) => if x.data.toList ∈ ks then .error (k, 34) else match mustJ l (blk l k1) 58 with
      | .error f => .error f
      | .ok k2 => .ok (x, blk l k2))
    else .error (k, 32)
theorem keyJ_end {l : List UInt8} {k : Nat} {ks : List (List UInt8)} (h : l.length ≤ k) : keyJ l k ks = .error (k, 31) := by
  rw [keyJ, nxJ, List.getElem?_eq_none h]
theorem keyJ_byte {l : List UInt8} {k : Nat} {ks : List (List UInt8)} (h : k < l.length) (e : ¬ l[k] = 34) : keyJ l k ks = .error (k, 32) := by
  rw [keyJ, nxJ, List.getElem?_eq_getElem h]
  simp only [if_neg e]
theorem keyJ_quo {l : List UInt8} {k : Nat} {f : Flt} {ks : List (List UInt8)} (h : k < l.length) (e : l[k] = 34) (hq : quoJ l k = .error f) : keyJ l k ks = .error f := by
  rw [keyJ, nxJ, List.getElem?_eq_getElem h]
  simp only [if_pos e, hq]
theorem keyJ_twice {l : List UInt8} {k k1 : Nat} {x : ByteArray} {ks : List (List UInt8)} (h : k < l.length) (e : l[k] = 34) (hq : quoJ l k = .ok (x, k1)) (hx : x.data.toList ∈ ks) : keyJ l k ks = .error (k, 34) := by
  rw [keyJ, nxJ, List.getElem?_eq_getElem h]
  simp only [if_pos e, hq, if_pos hx]
theorem keyJ_colon {l : List UInt8} {k k1 : Nat} {x : ByteArray} {f : Flt} {ks : List (List UInt8)} (h : k < l.length) (e : l[k] = 34) (hq : quoJ l k = .ok (x, k1)) (hx : x.data.toList ∉ ks) (hm : mustJ l (blk l k1) 58 = .error f) : keyJ l k ks = .error f := by
  rw [keyJ, nxJ, List.getElem?_eq_getElem h]
  simp only [if_pos e, hq, if_neg hx, hm]
theorem keyJ_ok {l : List UInt8} {k k1 k2 : Nat} {x : ByteArray} {ks : List (List UInt8)} (h : k < l.length) (e : l[k] = 34) (hq : quoJ l k = .ok (x, k1)) (hx : x.data.toList ∉ ks) (hm : mustJ l (blk l k1) 58 = .ok k2) : keyJ l k ks = .ok (x, blk l k2) := by
  rw [keyJ, nxJ, List.getElem?_eq_getElem h]
  simp only [if_pos e, hq, if_neg hx, hm]
theorem quoJ_le {s : ByteArray} {k k1 : Nat} {x : ByteArray} (h : quoJ s.data.toList k = .ok (x, k1)) : k1 ≤ s.size ∧ x.size ≤ s.size := by
  have hp := Q.unq_place s (k : Int)
  unfold quoJ at h
  split at h
  · rename_i h0
    cases h
    refine ⟨hp.1, ?_⟩
    have := hp.2 h0
    show Array.size _ ≤ _
    simpa using this
  · cases h
/-- what key does -/
def KyP (R : Except Flt (ByteArray × Nat)) (g b : Nat) (s : ByteArray) (D n : Nat) (ks : List (List UInt8)) (w : World) (e : Ending) (w' : World) : Prop :=
  match R with
  | .ok x => (e = .returned (.string x.1) ∧ JR g s x.2 D n w' ∧ KnM w' b (ks ++ [x.1.data.toList])) ∧ G2 g b w w'
  | .error f => e = flt f ∧ G2 g b w w'
set_option maxHeartbeats 8000000 in
theorem jkey_any (g b : Nat) (s : ByteArray) (k D n : Nat) (ks : List (List UInt8)) (w : World) (h : JR g s k D n w) (hm : KnM w b ks) (t : Td w) (hg9 : 9 < g) (hgb : b ≠ g) (hs : s.size ≤ 100000000) (hk : k ≤ s.size) (hks : ks.length ≤ 100000000) :
    Calls Tryz.prog 115 #[.pointer (some ⟨g, 0, none⟩), .map (some b)] w (KyP (keyJ s.data.toList k ks) g b s D n ks w) := by
  have hll : s.data.toList.length = s.size := by simp
  have c1 := h.c1
  have hlt := h.lt
  have hzz := t.z
  by_cases hks2 : k < s.size
  · have CN := hmk (jnext_yes g s k D n w h (by omega) hks2)
    by_cases e34 : s[k] = 34
    · have y0 : ((s[k].toNat : Int) != 34) = false := by rw [e34]; rfl
      have CQ : Hid (∀ q, Calls Tryz.prog 87 #[.pointer (some ⟨g, 0, none⟩)] (w.drewN q) (JP (quoJ s.data.toList k) (fun x e w' => e = .returned (.string x.1) ∧ JR g s x.2 D n w') g (w.drewN q))) := fun q =>
        jquo_any g s k D n _ (h.drewN q) (t.grown (drewN_grown w q g) hg9) (by omega) hk
      cases hq : quoJ s.data.toList k with
      | error f =>
        have HR : Hid (keyJ s.data.toList k ks = .error f) := keyJ_quo (by rw [hll]; exact hks2) e34 hq
        rw [hq] at CQ
        clear hq h t hm
        go_enter Tryz.func115, Tryz.ntmps115
        go_wp2_with fail
        refine CN.out.mono ?_
        rintro e w1 ⟨rfl, q, rfl⟩
        go_wp2_with fail
        refine (CQ.out q).mono ?_
        rintro e w2 ⟨he, g2⟩
        unfold flt at he
        subst he
        go_wp2_with fail
        refine ⟨rfl, ?_⟩
        rw [HR.out]
        exact ⟨rfl, G2.of (grown_trans (drewN_grown _ _ _) g2)⟩
      | ok xk =>
        obtain ⟨x, k1⟩ := xk
        rw [hq] at CQ
        obtain ⟨hk1, hxs⟩ := quoJ_le hq
        have hbl := blk_le (l := s.data.toList) (k := k1) (by rw [hll]; exact hk1)
        rw [hll] at hbl
        have hkey : keyOf Tryz.prog 9 (.string x) = some (.string x.data.toList) := Go.WideMaps.keyOf_string_mk Tryz.underlying9 (by unfold maxLen; omega)
        have KM : Hid (∀ W, w.grownBy W (some g) → KnM W b ks) := fun W hW => World.ownsMap.kept hm hW (fun e => hgb (Option.some.inj e))
        have hbs := World.ownsMap.lt hm
        by_cases hx : x.data.toList ∈ ks
        · have HR : Hid (keyJ s.data.toList k ks = .error (k, 34)) := keyJ_twice (by rw [hll]; exact hks2) e34 hq hx
          have hh : Maps.has (Maps.setOf (H := Unit) (.agg []) (ks.map Lit.string)) (.string x.data.toList) = true := by rw [kn_has]; exact decide_eq_true hx
          clear hq h t hm hx
          go_enter Tryz.func115, Tryz.ntmps115
          go_wp2_with fail
          refine CN.out.mono ?_
          rintro e w1 ⟨rfl, q, rfl⟩
          go_wp2_with fail
          refine (CQ.out q).mono ?_
          rintro e w2 ⟨⟨rfl, R2⟩, g2⟩
          have g2' := grown_trans (drewN_grown w q g) g2
          have K2 := KM.out w2 g2'
          unfold KnM at K2
          generalize Maps.setOf (H := Unit) (.agg []) (ks.map Lit.string) = M at *
          go_wp2_with (first
            | (at_lookup; refine wpList_lookup_own_unit _ rfl _ _ 146 rfl 9 164 law9 Tryz.underlying146 (zero164 _) b ks.length _ rfl K2 _ _ rfl hkey ?_)
            | (go_at_call 64; refine (giveup_any _ k 34 _).mono ?_; rintro e w' ⟨he, hw⟩; rw [hw]; clear hw; unfold flt at he; subst he))
          refine ⟨rfl, ?_⟩
          rw [HR.out]
          exact ⟨rfl, G2.of (grown_trans g2' (World.grownBy_alloc _ _ _))⟩
        · have hh : Maps.has (Maps.setOf (H := Unit) (.agg []) (ks.map Lit.string)) (.string x.data.toList) = false := by rw [kn_has]; exact decide_eq_false hx
          have HM : Hid (∀ W, W.ownsMap Tryz.prog 9 (unitElem (H := Unit)) b (ks.length + 1) ((Maps.setOf (.agg []) (ks.map Lit.string)).put (.string x.data.toList) (.agg [])) → KnM W b (ks ++ [x.data.toList])) := fun W h => by
            unfold KnM
            rw [List.map_append, List.map_cons, List.map_nil, Maps.setOf_snoc, List.length_append]
            exact h
          have CB : Hid (∀ W, JR g s k1 D n W → Calls Tryz.prog 62 #[.pointer (some ⟨g, 0, none⟩)] W fun e w' => e = .returned (.tuple #[]) ∧ JR g s (blk s.data.toList k1) D n w' ∧ W.grownBy w' (some g)) := fun W hW => jblanks_any g s k1 D n W hW (by omega) hk1
          have CM : Hid (∀ W, JR g s (blk s.data.toList k1) D n W → Calls Tryz.prog 111 #[.pointer (some ⟨g, 0, none⟩), .int .u8 58] W (JP (mustJ s.data.toList (blk s.data.toList k1) 58) (fun k' e w' => e = .returned (.tuple #[]) ∧ JR g s k' D n w') g W)) := fun W hW => jmust_any g s _ D n 58 W hW (by omega) hbl.2
          cases hmu : mustJ s.data.toList (blk s.data.toList k1) 58 with
          | error f =>
            have HR : Hid (keyJ s.data.toList k ks = .error f) := keyJ_colon (by rw [hll]; exact hks2) e34 hq hx hmu
            rw [hmu] at CM
            clear hq h t hm hx hmu
            go_enter Tryz.func115, Tryz.ntmps115
            go_wp2_with fail
            refine CN.out.mono ?_
            rintro e w1 ⟨rfl, q, rfl⟩
            go_wp2_with fail
            refine (CQ.out q).mono ?_
            rintro e w2 ⟨⟨rfl, R2⟩, g2⟩
            have g2' := grown_trans (drewN_grown w q g) g2
            have K2 := KM.out w2 g2'
            unfold KnM at K2
            generalize Maps.setOf (H := Unit) (.agg []) (ks.map Lit.string) = M at *
            have hs2 := g2'.size
            go_wp2_with (first
              | (at_lookup; refine wpList_lookup_own_unit _ rfl _ _ 146 rfl 9 164 law9 Tryz.underlying146 (zero164 _) b ks.length _ rfl K2 _ _ rfl hkey ?_)
              | (at_mapUpdate; refine wpList_mapUpdate_own _ rfl _ _ _ 146 rfl 9 164 law9 Tryz.underlying146 (unitElem (H := Unit)) b ks.length _ rfl (K2.alloc _) (by unfold maxLen; omega) _ _ _ rfl rfl hkey _ [] unitElem_mk ?_; intro w3 K3 g3))
            have R3 : JR g s k1 D n w3 := (g3.block g (by rw [alloc_size]; omega) (fun e => hgb (Option.some.inj e).symm)).trans ((Below.heap_alloc w2 _ g (by omega)).trans R2)
            have G3 : G2 g b w w3 := (G2.of (grown_trans g2' (World.grownBy_alloc _ _ _))).trans (G2.ofb g3)
            refine (CB.out w3 R3).mono ?_
            rintro e w4 ⟨rfl, R4, g4⟩
            have K4 := World.ownsMap.kept (HM.out w3 K3) g4 (fun e => hgb (Option.some.inj e))
            have G4 := G3.trans (G2.of g4)
            go_wp2_with fail
            refine (CM.out w4 R4).mono ?_
            rintro e w5 ⟨he, g5⟩
            unfold flt at he
            subst he
            go_wp2_with fail
            refine ⟨rfl, ?_⟩
            rw [HR.out]
            exact ⟨rfl, G4.trans (G2.of g5)⟩
          | ok k2 =>
            have HR : Hid (keyJ s.data.toList k ks = .ok (x, blk s.data.toList k2)) := keyJ_ok (by rw [hll]; exact hks2) e34 hq hx hmu
            obtain ⟨e2, hl2⟩ := mustJ_le hmu
            rw [hll] at hl2
            have CB2 : Hid (∀ W, JR g s k2 D n W → Calls Tryz.prog 62 #[.pointer (some ⟨g, 0, none⟩)] W fun e w' => e = .returned (.tuple #[]) ∧ JR g s (blk s.data.toList k2) D n w' ∧ W.grownBy w' (some g)) := fun W hW => jblanks_any g s k2 D n W hW (by omega) (by omega)
            rw [hmu] at CM
            clear hq h t hm hx hmu e2 hl2
            go_enter Tryz.func115, Tryz.ntmps115
            go_wp2_with fail
            refine CN.out.mono ?_
            rintro e w1 ⟨rfl, q, rfl⟩
            go_wp2_with fail
            refine (CQ.out q).mono ?_
            rintro e w2 ⟨⟨rfl, R2⟩, g2⟩
            have g2' := grown_trans (drewN_grown w q g) g2
            have K2 := KM.out w2 g2'
            unfold KnM at K2
            generalize Maps.setOf (H := Unit) (.agg []) (ks.map Lit.string) = M at *
            have hs2 := g2'.size
            go_wp2_with (first
              | (at_lookup; refine wpList_lookup_own_unit _ rfl _ _ 146 rfl 9 164 law9 Tryz.underlying146 (zero164 _) b ks.length _ rfl K2 _ _ rfl hkey ?_)
              | (at_mapUpdate; refine wpList_mapUpdate_own _ rfl _ _ _ 146 rfl 9 164 law9 Tryz.underlying146 (unitElem (H := Unit)) b ks.length _ rfl (K2.alloc _) (by unfold maxLen; omega) _ _ _ rfl rfl hkey _ [] unitElem_mk ?_; intro w3 K3 g3))
            have R3 : JR g s k1 D n w3 := (g3.block g (by rw [alloc_size]; omega) (fun e => hgb (Option.some.inj e).symm)).trans ((Below.heap_alloc w2 _ g (by omega)).trans R2)
            have G3 : G2 g b w w3 := (G2.of (grown_trans g2' (World.grownBy_alloc _ _ _))).trans (G2.ofb g3)
            refine (CB.out w3 R3).mono ?_
            rintro e w4 ⟨rfl, R4, g4⟩
            have K4 := World.ownsMap.kept (HM.out w3 K3) g4 (fun e => hgb (Option.some.inj e))
            have G4 := G3.trans (G2.of g4)
            go_wp2_with fail
            refine (CM.out w4 R4).mono ?_
            rintro e w5 ⟨⟨rfl, R5⟩, g5⟩
            go_wp2_with fail
            refine (CB2.out w5 R5).mono ?_
            rintro e w6 ⟨rfl, R6, g6⟩
            go_wp2_with fail
            go_ret
            rw [HR.out]
            exact ⟨⟨rfl, R6, World.ownsMap.kept (World.ownsMap.kept K4 g5 (fun e => hgb (Option.some.inj e))) g6 (fun e => hgb (Option.some.inj e))⟩, G4.trans (G2.of (grown_trans g5 g6))⟩
    · have HR : Hid (keyJ s.data.toList k ks = .error (k, 32)) := keyJ_byte (by rw [hll]; exact hks2) e34
      have y0 : ((s[k].toNat : Int) != 34) = true := by
        rw [bne_iff_ne]
        intro q
        exact e34 (UInt8.toNat_inj.1 (by show s[k].toNat = 34; omega))
      clear h t hm
      go_enter Tryz.func115, Tryz.ntmps115
      go_wp2_with fail
      refine CN.out.mono ?_
      rintro e w1 ⟨rfl, q, rfl⟩
      go_wp2_with (go_at_call 64; refine (giveup_any _ k 32 _).mono ?_; rintro e w' ⟨he, hw⟩; rw [hw]; clear hw; unfold flt at he; subst he)
      refine ⟨rfl, ?_⟩
      rw [HR.out]
      exact ⟨rfl, G2.of (drewN_grown _ _ _)⟩
  · obtain rfl : k = s.size := by omega
    have HR : Hid (keyJ s.data.toList s.size ks = .error (s.size, 31)) := keyJ_end (by rw [hll]; omega)
    have CN := hmk (jnext_end g s D n w h (by omega))
    clear h t hm
    go_enter Tryz.func115, Tryz.ntmps115
    go_wp2_with fail
    refine CN.out.mono ?_
    rintro e w1 ⟨he, g1⟩
    unfold flt at he
    subst he
    go_wp2_with fail
    refine ⟨rfl, ?_⟩
    rw [HR.out]
    exact ⟨rfl, G2.of g1⟩
end Go.Proofs.YtpmhdcmmlkjjmaaGreatDoor
