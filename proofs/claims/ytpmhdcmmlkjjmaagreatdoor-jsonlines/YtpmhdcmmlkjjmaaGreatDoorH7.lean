/- joined: JrG ChkB ChkC ChkD ChkE OrdP ShlC -/
import Derived.Test.YtpmhdcmmlkjjmaaGreatDoorH5
import Derived.Maps.OwnSet
import Derived.Maps.Own
import Derived.StringKeys
import Derived.Laws.Cover1
import Derived.Lib.Bytealg
/- the reader's key: the keys that are known lie in a map. -/
set_option linter.unusedSimpArgs false
set_option linter.unusedVariables false
set_option maxRecDepth 100000
namespace Go.Proofs.YtpmhdcmmlkjjmaaGreatDoor
open Go.RowKit Go.Lib
/-- the keys that are known -/
def KnM (w : World) (b : Nat) (ks : List (List UInt8)) : Prop := w.ownsMap Tryz.prog 9 (unitElem (H := Unit)) b ks.length (Maps.setOf (.agg []) (ks.map Lit.string))
theorem law9 : Maps.Keyed Tryz.prog 9 := Maps.string_keyed Tryz.underlying9
theorem zero164 (w : World) : (zeroValue 164).run Tryz.prog w = .ok (.agg #[]) w := by kernel_rfl
theorem kn_has (ks : List (List UInt8)) (x : List UInt8) : Maps.has (Maps.setOf (H := Unit) (.agg []) (ks.map Lit.string)) (.string x) = decide (x ∈ ks) := by
  rw [Maps.has_setOf]
  · rw [Bool.eq_iff_iff, List.any_map, List.any_eq_true, decide_eq_true_eq]
    constructor
    · rintro ⟨y, hy, h⟩
      have : y = x := by simpa [Lit.sameKey] using h
      exact this ▸ hy
    · intro h
      exact ⟨x, h, by simp [Lit.sameKey]⟩
  · intro y hy
    obtain ⟨z, _, rfl⟩ := List.mem_map.1 hy
    simp [WideAt.IsKeyLit]
/-- all blocks stand but two -/
structure G2 (g b : Nat) (w w' : World) : Prop where
  os : w'.os = w.os
  tape : w'.tape = w.tape
  output : w'.output = w.output
  size : w.heap.size ≤ w'.heap.size
  block : ∀ k, k < w.heap.size → k ≠ g → k ≠ b → w'.heap[k]? = w.heap[k]?
theorem G2.of {g b : Nat} {w w' : World} (h : w.grownBy w' (some g)) : G2 g b w w' := ⟨h.os, h.tape, h.output, h.size, fun k hk h1 _ => h.block k hk (fun e => h1 (Option.some.inj e))⟩
theorem G2.ofb {g b : Nat} {w w' : World} (h : w.grownBy w' (some b)) : G2 g b w w' := ⟨h.os, h.tape, h.output, h.size, fun k hk _ h2 => h.block k hk (fun e => h2 (Option.some.inj e))⟩
theorem G2.trans {g b : Nat} {w w1 w2 : World} (h : G2 g b w w1) (h2 : G2 g b w1 w2) : G2 g b w w2 :=
  ⟨h2.os.trans h.os, h2.tape.trans h.tape, h2.output.trans h.output, Nat.le_trans h.size h2.size, fun k hk a c => (h2.block k (Nat.lt_of_lt_of_le hk h.size) a c).trans (h.block k hk a c)⟩
theorem G2.grown {g b : Nat} {w0 w w' : World} (h0 : w0.grownBy w (some g)) (hb : w0.heap.size ≤ b) (h : G2 g b w w') : w0.grownBy w' (some g) :=
  ⟨h.os.trans h0.os, h.tape.trans h0.tape, h.output.trans h0.output, Nat.le_trans h0.size h.size, fun k hk hne => (h.block k (Nat.lt_of_lt_of_le hk h0.size) (fun e => hne (by rw [e])) (by omega)).trans (h0.block k hk hne)⟩
/-- a key and what stands between it and its value -/
def keyJ (l : List UInt8) (k : Nat) (ks : List (List UInt8)) : Except Flt (ByteArray × Nat) := match nxJ l k with
  | .error f => .error f
  | .ok c => if c = 34 then (match quoJ l k with
    | .error f => .error f
    | .ok (x, k1) => if x.data.toList ∈ ks then .error (k, 34) else match mustJ l (blk l k1) 58 with
      | .error f => .error f
      | .ok k2 => .ok (x, blk l k2))
    else .error (k, 32)
theorem keyJ_end {l : List UInt8} {k : Nat} {ks : List (List UInt8)} (h : l.length ≤ k) : keyJ l k ks = .error (k, 31) := by
  rw [keyJ, nxJ, List.getElem?_eq_none h]
theorem keyJ_byte {l : List UInt8} {k : Nat} {ks : List (List UInt8)} (h : k < l.length) (e : ¬ l[k] = 34) : keyJ l k ks = .error (k, 32) := by
  rw [keyJ, nxJ, List.getElem?_eq_getElem h]
  simp only [if_neg e]
theorem keyJ_quo {l : List UInt8} {k : Nat} {f : Flt} {ks : List (List UInt8)} (h : k < l.length) (e : l[k] = 34) (hq : quoJ l k = .error f) : keyJ l k ks = .error f := by
  rw [keyJ, nxJ, List.getElem?_eq_getElem h]
  simp only [if_pos e, hq]
theorem keyJ_twice {l : List UInt8} {k k1 : Nat} {x : ByteArray} {ks : List (List UInt8)} (h : k < l.length) (e : l[k] = 34) (hq : quoJ l k = .ok (x, k1)) (hx : x.data.toList ∈ ks) : keyJ l k ks = .error (k, 34) := by
  rw [keyJ, nxJ, List.getElem?_eq_getElem h]
  simp only [if_pos e, hq, if_pos hx]
theorem keyJ_colon {l : List UInt8} {k k1 : Nat} {x : ByteArray} {f : Flt} {ks : List (List UInt8)} (h : k < l.length) (e : l[k] = 34) (hq : quoJ l k = .ok (x, k1)) (hx : x.data.toList ∉ ks) (hm : mustJ l (blk l k1) 58 = .error f) : keyJ l k ks = .error f := by
  rw [keyJ, nxJ, List.getElem?_eq_getElem h]
  simp only [if_pos e, hq, if_neg hx, hm]
theorem keyJ_ok {l : List UInt8} {k k1 k2 : Nat} {x : ByteArray} {ks : List (List UInt8)} (h : k < l.length) (e : l[k] = 34) (hq : quoJ l k = .ok (x, k1)) (hx : x.data.toList ∉ ks) (hm : mustJ l (blk l k1) 58 = .ok k2) : keyJ l k ks = .ok (x, blk l k2) := by
  rw [keyJ, nxJ, List.getElem?_eq_getElem h]
  simp only [if_pos e, hq, if_neg hx, hm]
theorem quoJ_le {s : ByteArray} {k k1 : Nat} {x : ByteArray} (h : quoJ s.data.toList k = .ok (x, k1)) : k1 ≤ s.size ∧ x.size ≤ s.size := by
  have hp := Q.unq_place s (k : Int)
  unfold quoJ at h
  split at h
  · rename_i h0
    cases h
    refine ⟨hp.1, ?_⟩
    have := hp.2 h0
    show Array.size _ ≤ _
    simpa using this
  · cases h
/-- what key does -/
def KyP (R : Except Flt (ByteArray × Nat)) (g b : Nat) (s : ByteArray) (D n : Nat) (ks : List (List UInt8)) (w : World) (e : Ending) (w' : World) : Prop :=
  match R with
  | .ok x => (e = .returned (.string x.1) ∧ JR g s x.2 D n w' ∧ KnM w' b (ks ++ [x.1.data.toList])) ∧ G2 g b w w'
  | .error f => e = flt f ∧ G2 g b w w'
set_option maxHeartbeats 8000000 in
theorem jkey_any (g b : Nat) (s : ByteArray) (k D n : Nat) (ks : List (List UInt8)) (w : World) (h : JR g s k D n w) (hm : KnM w b ks) (t : Td w) (hg9 : 9 < g) (hgb : b ≠ g) (hs : s.size ≤ 100000000) (hk : k ≤ s.size) (hks : ks.length ≤ 100000000) :
    Calls Tryz.prog 115 #[.pointer (some ⟨g, 0, none⟩), .map (some b)] w (KyP (keyJ s.data.toList k ks) g b s D n ks w) := by
  have hll : s.data.toList.length = s.size := by simp
  have c1 := h.c1
  have hlt := h.lt
  have hzz := t.z
  by_cases hks2 : k < s.size
  · have CN := hmk (jnext_yes g s k D n w h (by omega) hks2)
    by_cases e34 : s[k] = 34
    · have y0 : ((s[k].toNat : Int) != 34) = false := by rw [e34]; rfl
      have CQ : Hid (∀ q, Calls Tryz.prog 87 #[.pointer (some ⟨g, 0, none⟩)] (w.drewN q) (JP (quoJ s.data.toList k) (fun x e w' => e = .returned (.string x.1) ∧ JR g s x.2 D n w') g (w.drewN q))) := fun q =>
        jquo_any g s k D n _ (h.drewN q) (t.grown (drewN_grown w q g) hg9) (by omega) hk
      cases hq : quoJ s.data.toList k with
      | error f =>
        have HR : Hid (keyJ s.data.toList k ks = .error f) := keyJ_quo (by rw [hll]; exact hks2) e34 hq
        rw [hq] at CQ
        clear hq h t hm
        go_enter Tryz.func115, Tryz.ntmps115
        go_wp2_with fail
        refine CN.out.mono ?_
        rintro e w1 ⟨rfl, q, rfl⟩
        go_wp2_with fail
        refine (CQ.out q).mono ?_
        rintro e w2 ⟨he, g2⟩
        unfold flt at he
        subst he
        go_wp2_with fail
        refine ⟨rfl, ?_⟩
        rw [HR.out]
        exact ⟨rfl, G2.of (grown_trans (drewN_grown _ _ _) g2)⟩
      | ok xk =>
        obtain ⟨x, k1⟩ := xk
        rw [hq] at CQ
        obtain ⟨hk1, hxs⟩ := quoJ_le hq
        have hbl := blk_le (l := s.data.toList) (k := k1) (by rw [hll]; exact hk1)
        rw [hll] at hbl
        have hkey : keyOf Tryz.prog 9 (.string x) = some (.string x.data.toList) := Go.WideMaps.keyOf_string_mk Tryz.underlying9 (by unfold maxLen; omega)
        have KM : Hid (∀ W, w.grownBy W (some g) → KnM W b ks) := fun W hW => World.ownsMap.kept hm hW (fun e => hgb (Option.some.inj e))
        have hbs := World.ownsMap.lt hm
        by_cases hx : x.data.toList ∈ ks
        · have HR : Hid (keyJ s.data.toList k ks = .error (k, 34)) := keyJ_twice (by rw [hll]; exact hks2) e34 hq hx
          have hh : Maps.has (Maps.setOf (H := Unit) (.agg []) (ks.map Lit.string)) (.string x.data.toList) = true := by rw [kn_has]; exact decide_eq_true hx
          clear hq h t hm hx
          go_enter Tryz.func115, Tryz.ntmps115
          go_wp2_with fail
          refine CN.out.mono ?_
          rintro e w1 ⟨rfl, q, rfl⟩
          go_wp2_with fail
          refine (CQ.out q).mono ?_
          rintro e w2 ⟨⟨rfl, R2⟩, g2⟩
          have g2' := grown_trans (drewN_grown w q g) g2
          have K2 := KM.out w2 g2'
          unfold KnM at K2
          generalize Maps.setOf (H := Unit) (.agg []) (ks.map Lit.string) = M at *
          go_wp2_with (first
            | (at_lookup; refine wpList_lookup_own_unit _ rfl _ _ 146 rfl 9 164 law9 Tryz.underlying146 (zero164 _) b ks.length _ rfl K2 _ _ rfl hkey ?_)
            | (go_at_call 64; refine (giveup_any _ k 34 _).mono ?_; rintro e w' ⟨he, hw⟩; rw [hw]; clear hw; unfold flt at he; subst he))
          refine ⟨rfl, ?_⟩
          rw [HR.out]
          exact ⟨rfl, G2.of (grown_trans g2' (World.grownBy_alloc _ _ _))⟩
        · have hh : Maps.has (Maps.setOf (H := Unit) (.agg []) (ks.map Lit.string)) (.string x.data.toList) = false := by rw [kn_has]; exact decide_eq_false hx
          have HM : Hid (∀ W, W.ownsMap Tryz.prog 9 (unitElem (H := Unit)) b (ks.length + 1) ((Maps.setOf (.agg []) (ks.map Lit.string)).put (.string x.data.toList) (.agg [])) → KnM W b (ks ++ [x.data.toList])) := fun W h => by
            unfold KnM
            rw [List.map_append, List.map_cons, List.map_nil, Maps.setOf_snoc, List.length_append]
            exact h
          have CB : Hid (∀ W, JR g s k1 D n W → Calls Tryz.prog 62 #[.pointer (some ⟨g, 0, none⟩)] W fun e w' => e = .returned (.tuple #[]) ∧ JR g s (blk s.data.toList k1) D n w' ∧ W.grownBy w' (some g)) := fun W hW => jblanks_any g s k1 D n W hW (by omega) hk1
          have CM : Hid (∀ W, JR g s (blk s.data.toList k1) D n W → Calls Tryz.prog 111 #[.pointer (some ⟨g, 0, none⟩), .int .u8 58] W (JP (mustJ s.data.toList (blk s.data.toList k1) 58) (fun k' e w' => e = .returned (.tuple #[]) ∧ JR g s k' D n w') g W)) := fun W hW => jmust_any g s _ D n 58 W hW (by omega) hbl.2
          cases hmu : mustJ s.data.toList (blk s.data.toList k1) 58 with
          | error f =>
            have HR : Hid (keyJ s.data.toList k ks = .error f) := keyJ_colon (by rw [hll]; exact hks2) e34 hq hx hmu
            rw [hmu] at CM
            clear hq h t hm hx hmu
            go_enter Tryz.func115, Tryz.ntmps115
            go_wp2_with fail
            refine CN.out.mono ?_
            rintro e w1 ⟨rfl, q, rfl⟩
            go_wp2_with fail
            refine (CQ.out q).mono ?_
            rintro e w2 ⟨⟨rfl, R2⟩, g2⟩
            have g2' := grown_trans (drewN_grown w q g) g2
            have K2 := KM.out w2 g2'
            unfold KnM at K2
            generalize Maps.setOf (H := Unit) (.agg []) (ks.map Lit.string) = M at *
            have hs2 := g2'.size
            go_wp2_with (first
              | (at_lookup; refine wpList_lookup_own_unit _ rfl _ _ 146 rfl 9 164 law9 Tryz.underlying146 (zero164 _) b ks.length _ rfl K2 _ _ rfl hkey ?_)
              | (at_mapUpdate; refine wpList_mapUpdate_own _ rfl _ _ _ 146 rfl 9 164 law9 Tryz.underlying146 (unitElem (H := Unit)) b ks.length _ rfl (K2.alloc _) (by unfold maxLen; omega) _ _ _ rfl rfl hkey _ [] unitElem_mk ?_; intro w3 K3 g3))
            have R3 : JR g s k1 D n w3 := (g3.block g (by rw [alloc_size]; omega) (fun e => hgb (Option.some.inj e).symm)).trans ((Below.heap_alloc w2 _ g (by omega)).trans R2)
            have G3 : G2 g b w w3 := (G2.of (grown_trans g2' (World.grownBy_alloc _ _ _))).trans (G2.ofb g3)
            refine (CB.out w3 R3).mono ?_
            rintro e w4 ⟨rfl, R4, g4⟩
            have K4 := World.ownsMap.kept (HM.out w3 K3) g4 (fun e => hgb (Option.some.inj e))
            have G4 := G3.trans (G2.of g4)
            go_wp2_with fail
            refine (CM.out w4 R4).mono ?_
            rintro e w5 ⟨he, g5⟩
            unfold flt at he
            subst he
            go_wp2_with fail
            refine ⟨rfl, ?_⟩
            rw [HR.out]
            exact ⟨rfl, G4.trans (G2.of g5)⟩
          | ok k2 =>
            have HR : Hid (keyJ s.data.toList k ks = .ok (x, blk s.data.toList k2)) := keyJ_ok (by rw [hll]; exact hks2) e34 hq hx hmu
            obtain ⟨e2, hl2⟩ := mustJ_le hmu
            rw [hll] at hl2
            have CB2 : Hid (∀ W, JR g s k2 D n W → Calls Tryz.prog 62 #[.pointer (some ⟨g, 0, none⟩)] W fun e w' => e = .returned (.tuple #[]) ∧ JR g s (blk s.data.toList k2) D n w' ∧ W.grownBy w' (some g)) := fun W hW => jblanks_any g s k2 D n W hW (by omega) (by omega)
            rw [hmu] at CM
            clear hq h t hm hx hmu e2 hl2
            go_enter Tryz.func115, Tryz.ntmps115
            go_wp2_with fail
            refine CN.out.mono ?_
            rintro e w1 ⟨rfl, q, rfl⟩
            go_wp2_with fail
            refine (CQ.out q).mono ?_
            rintro e w2 ⟨⟨rfl, R2⟩, g2⟩
            have g2' := grown_trans (drewN_grown w q g) g2
            have K2 := KM.out w2 g2'
            unfold KnM at K2
            generalize Maps.setOf (H := Unit) (.agg []) (ks.map Lit.string) = M at *
            have hs2 := g2'.size
            go_wp2_with (first
              | (at_lookup; refine wpList_lookup_own_unit _ rfl _ _ 146 rfl 9 164 law9 Tryz.underlying146 (zero164 _) b ks.length _ rfl K2 _ _ rfl hkey ?_)
              | (at_mapUpdate; refine wpList_mapUpdate_own _ rfl _ _ _ 146 rfl 9 164 law9 Tryz.underlying146 (unitElem (H := Unit)) b ks.length _ rfl (K2.alloc _) (by unfold maxLen; omega) _ _ _ rfl rfl hkey _ [] unitElem_mk ?_; intro w3 K3 g3))
            have R3 : JR g s k1 D n w3 := (g3.block g (by rw [alloc_size]; omega) (fun e => hgb (Option.some.inj e).symm)).trans ((Below.heap_alloc w2 _ g (by omega)).trans R2)
            have G3 : G2 g b w w3 := (G2.of (grown_trans g2' (World.grownBy_alloc _ _ _))).trans (G2.ofb g3)
            refine (CB.out w3 R3).mono ?_
            rintro e w4 ⟨rfl, R4, g4⟩
            have K4 := World.ownsMap.kept (HM.out w3 K3) g4 (fun e => hgb (Option.some.inj e))
            have G4 := G3.trans (G2.of g4)
            go_wp2_with fail
            refine (CM.out w4 R4).mono ?_
            rintro e w5 ⟨⟨rfl, R5⟩, g5⟩
            go_wp2_with fail
            refine (CB2.out w5 R5).mono ?_
            rintro e w6 ⟨rfl, R6, g6⟩
            go_wp2_with fail
            go_ret
            rw [HR.out]
            exact ⟨⟨rfl, R6, World.ownsMap.kept (World.ownsMap.kept K4 g5 (fun e => hgb (Option.some.inj e))) g6 (fun e => hgb (Option.some.inj e))⟩, G4.trans (G2.of (grown_trans g5 g6))⟩
    · have HR : Hid (keyJ s.data.toList k ks = .error (k, 32)) := keyJ_byte (by rw [hll]; exact hks2) e34
      have y0 : ((s[k].toNat : Int) != 34) = true := by
        rw [bne_iff_ne]
        intro q
        exact e34 (UInt8.toNat_inj.1 (by show s[k].toNat = 34; omega))
      clear h t hm
      go_enter Tryz.func115, Tryz.ntmps115
      go_wp2_with fail
      refine CN.out.mono ?_
      rintro e w1 ⟨rfl, q, rfl⟩
      go_wp2_with (go_at_call 64; refine (giveup_any _ k 32 _).mono ?_; rintro e w' ⟨he, hw⟩; rw [hw]; clear hw; unfold flt at he; subst he)
      refine ⟨rfl, ?_⟩
      rw [HR.out]
      exact ⟨rfl, G2.of (drewN_grown _ _ _)⟩
  · obtain rfl : k = s.size := by omega
    have HR : Hid (keyJ s.data.toList s.size ks = .error (s.size, 31)) := keyJ_end (by rw [hll]; omega)
    have CN := hmk (jnext_end g s D n w h (by omega))
    clear h t hm
    go_enter Tryz.func115, Tryz.ntmps115
    go_wp2_with fail
    refine CN.out.mono ?_
    rintro e w1 ⟨he, g1⟩
    unfold flt at he
    subst he
    go_wp2_with fail
    refine ⟨rfl, ?_⟩
    rw [HR.out]
    exact ⟨rfl, G2.of g1⟩
end Go.Proofs.YtpmhdcmmlkjjmaaGreatDoor
/- value.rising. -/
set_option maxRecDepth 100000
namespace Go.Proofs.YtpmhdcmmlkjjmaaGreatDoor
open Go.RowKit Go.Lib
def keyAt (l : List Mem) (j : Nat) : ByteArray := match l[j]? with | some x => x.1 | none => ⟨#[]⟩
theorem keyAt_eq {l : List Mem} {j : Nat} (h : j < l.length) : keyAt l j = (l[j]).1 := by simp [keyAt, h]
def utfB (s : ByteArray) : Bool := validD s.data.toList
def ltB (a b : ByteArray) : Bool := Op.bytesLess a.toList b.toList
def okAt (l : List Mem) (j : Nat) : Bool := utfB (keyAt l j) && (decide (j = 0) || ltB (keyAt l (j - 1)) (keyAt l j))
def riseB (l : List Mem) : Bool := (List.range l.length).all (okAt l)
theorem riseB_true {l : List Mem} (h : ∀ j, j < l.length → okAt l j = true) : riseB l = true := by
  simp only [riseB, List.all_eq_true, List.mem_range]; exact h
theorem riseB_false {l : List Mem} {j : Nat} (hj : j < l.length) (h : okAt l j = false) : riseB l = false := by
  rw [riseB, List.all_eq_false]; exact ⟨j, by simpa using hj, by simp [h]⟩
theorem V.ten {R : Bool} {w : World} {S : Nat → Prop} {v : V} {cs : List Value} (h : v.lies R w S cs) : ∃ k b i s al nl cl am nm cm, cs = [.int .i64 k, .bool b, .int .i64 i, .string s, .slice al nl cl, .slice am nm cm] := by
  cases v
  rw [V.lies] at h
  obtain ⟨al, cl, bl, ol, am, cm, bm, om, e, _⟩ := h
  exact ⟨_, _, _, _, _, _, _, _, _, _, e⟩
end Go.Proofs.YtpmhdcmmlkjjmaaGreatDoor
/- value.walk.enter. -/
set_option maxRecDepth 100000
namespace Go.Proofs.YtpmhdcmmlkjjmaaGreatDoor
open Go.RowKit Go.Lib
structure Wk (B D n y d : Nat) (w : World) : Prop where
  b : w.heap[B]? = some (.cells #[.int .i64 (D : Int), .int .i64 (n : Int), .int .i64 (y : Int), .int .i64 (d : Int)] 59 (0, 0))
theorem Wk.lt {B D n y d : Nat} {w : World} (h : Wk B D n y d w) : B < w.heap.size := (Array.getElem?_eq_some_iff.1 h.b).1
theorem Wk.keep {B D n y d : Nat} {w w' : World} (h : Wk B D n y d w) (hb : w'.heap[B]? = w.heap[B]?) : Wk B D n y d w' := ⟨hb.trans h.b⟩
def keyB : List Mem → Nat
  | [] => 0
  | x :: t => x.1.size + keyB t
theorem keyB_le : ∀ m : List Mem, keyB m ≤ wtM m
  | [] => by simp [keyB, wtM]
  | (k, x) :: t => by have := keyB_le t; simp only [keyB, wtM]; omega
theorem keyB_app : ∀ a b : List Mem, keyB (a ++ b) = keyB a + keyB b
  | [], b => by simp [keyB]
  | x :: t, b => by have := keyB_app t b; simp only [keyB, List.cons_append]; omega
theorem keyB_take {m : List Mem} {j : Nat} (h : j < m.length) : keyB (m.take (j + 1)) = keyB (m.take j) + (m[j]).1.size := by
  rw [List.take_succ_eq_append_getElem h, keyB_app]; simp [keyB]
theorem keyB_take_le (m : List Mem) (j : Nat) : keyB (m.take j) ≤ keyB m := by
  have := keyB_app (m.take j) (m.drop j)
  rw [List.take_append_drop] at this
  omega
def goodB (k : Int) (b : Bool) (i : Int) (s : ByteArray) (nl : Nat) (m : List Mem) : Bool := plainB k b i s nl m.length && utfB s && riseB m
/-- what 'enter' answers and counts -/
def entF (D n y d lv : Nat) (g : Bool) (z : Nat) : Nat × Nat × Nat × Nat :=
  if 65536 ≤ n then (22, n, y, d) else if D < lv then (21, n, y, d) else if g = false then (20, n, y, d) else if 1048576 < y + z then (23, n + 1, y + z, max d lv) else (0, n + 1, y + z, max d lv)
end Go.Proofs.YtpmhdcmmlkjjmaaGreatDoor
/- value.walk.visit, value.Check. -/
set_option maxRecDepth 100000
namespace Go.Proofs.YtpmhdcmmlkjjmaaGreatDoor
open Go.RowKit Go.Lib
abbrev St := Nat × Nat × Nat
mutual
/-- the walk over a value: the first fault, and what was counted -/
def chkV (D : Nat) : V → Nat → St → Nat × St
  | .mk k b i s l m, lv, st =>
    let r := entF D st.1 st.2.1 st.2.2 lv (goodB k b i s l.length m) (s.size + keyB m)
    if r.1 = 0 then
      let q := chkL D l (lv + 1) r.2
      if q.1 = 0 then chkM D m (lv + 1) q.2 else q
    else r
def chkL (D : Nat) : List V → Nat → St → Nat × St
  | [], _, st => (0, st)
  | x :: t, lv, st => if (chkV D x lv st).1 = 0 then chkL D t lv (chkV D x lv st).2 else chkV D x lv st
def chkM (D : Nat) : List Mem → Nat → St → Nat × St
  | [], _, st => (0, st)
  | (_, x) :: t, lv, st => if (chkV D x lv st).1 = 0 then chkM D t lv (chkV D x lv st).2 else chkV D x lv st
end
structure Bnd (D : Nat) (st : St) : Prop where
  n : st.1 ≤ 65536
  y : st.2.1 ≤ 1048576
  d : st.2.2 ≤ D
theorem entF_ok {D n y d lv : Nat} {g : Bool} {z : Nat} (hd : d ≤ D) (h : (entF D n y d lv g z).1 = 0) : Bnd D (entF D n y d lv g z).2 ∧ lv ≤ D := by
  unfold entF at *
  split at h
  · simp at h
  split at h
  · simp at h
  split at h
  · simp at h
  split at h
  · simp at h
  · rename_i h1 h2 h3 h4
    rw [if_neg h1, if_neg h2, if_neg h3, if_neg h4]
    exact ⟨⟨by show n + 1 ≤ 65536; omega, by show y + z ≤ 1048576; omega, by show max d lv ≤ D; omega⟩, by omega⟩
mutual
theorem chkV_bnd (D : Nat) : ∀ (v : V) (lv : Nat) (st : St), Bnd D st → (chkV D v lv st).1 = 0 → Bnd D (chkV D v lv st).2
  | .mk k b i s l m, lv, st, hb, h => by
    rw [chkV] at h ⊢
    by_cases h1 : (entF D st.1 st.2.1 st.2.2 lv (goodB k b i s l.length m) (s.size + keyB m)).1 = 0
    · have b1 := (entF_ok hb.d h1).1
      simp only [h1, if_true] at h ⊢
      by_cases h2 : (chkL D l (lv + 1) (entF D st.1 st.2.1 st.2.2 lv (goodB k b i s l.length m) (s.size + keyB m)).2).1 = 0
      · simp only [h2, if_true] at h ⊢
        exact chkM_bnd D m (lv + 1) _ (chkL_bnd D l (lv + 1) _ b1 h2) h
      · simp only [h2, if_false] at h
    · simp only [h1, if_false] at h
theorem chkL_bnd (D : Nat) : ∀ (l : List V) (lv : Nat) (st : St), Bnd D st → (chkL D l lv st).1 = 0 → Bnd D (chkL D l lv st).2
  | [], lv, st, hb, h => by rw [chkL]; exact hb
  | x :: t, lv, st, hb, h => by
    rw [chkL] at h ⊢
    by_cases h1 : (chkV D x lv st).1 = 0
    · rw [if_pos h1] at h ⊢
      exact chkL_bnd D t lv _ (chkV_bnd D x lv st hb h1) h
    · rw [if_neg h1] at h
      exact absurd h h1
theorem chkM_bnd (D : Nat) : ∀ (l : List Mem) (lv : Nat) (st : St), Bnd D st → (chkM D l lv st).1 = 0 → Bnd D (chkM D l lv st).2
  | [], lv, st, hb, h => by rw [chkM]; exact hb
  | (_, x) :: t, lv, st, hb, h => by
    rw [chkM] at h ⊢
    by_cases h1 : (chkV D x lv st).1 = 0
    · rw [if_pos h1] at h ⊢
      exact chkM_bnd D t lv _ (chkV_bnd D x lv st hb h1) h
    · rw [if_neg h1] at h
      exact absurd h h1
end
theorem chkL_drop {D : Nat} {l : List V} {j : Nat} (h : j < l.length) (lv : Nat) (st : St) : chkL D (l.drop j) lv st = if (chkV D l[j] lv st).1 = 0 then chkL D (l.drop (j + 1)) lv (chkV D l[j] lv st).2 else chkV D l[j] lv st := by
  rw [List.drop_eq_getElem_cons h, chkL]
theorem chkM_drop {D : Nat} {l : List Mem} {j : Nat} (h : j < l.length) (lv : Nat) (st : St) : chkM D (l.drop j) lv st = if (chkV D (l[j]).2 lv st).1 = 0 then chkM D (l.drop (j + 1)) lv (chkV D (l[j]).2 lv st).2 else chkV D (l[j]).2 lv st := by
  rw [List.drop_eq_getElem_cons h]
  rcases hx : l[j] with ⟨k, x⟩
  rw [chkM]
end Go.Proofs.YtpmhdcmmlkjjmaaGreatDoor
/- value.Check. -/
set_option maxRecDepth 100000
namespace Go.Proofs.YtpmhdcmmlkjjmaaGreatDoor
open Go.RowKit Go.Lib
/-- what Check answers -/
def chkE (v : V) (depth : Int) : Nat := if depth < 0 ∨ 40 < depth then 2 else (chkV depth.toNat v 0 (0, 0, 0)).1
def NPost (r : Nat) (w : World) (e : Ending) (w' : World) : Prop := e = .returned (.int .i64 (r : Int)) ∧ Below w.heap.size w w'
end Go.Proofs.YtpmhdcmmlkjjmaaGreatDoor
/- The order of values, and the document's, as plain functions. -/
set_option maxRecDepth 100000
namespace Go.Proofs.YtpmhdcmmlkjjmaaGreatDoor
open Go.RowKit Go.Lib
def cmpS (a b : ByteArray) : Int := Lib.compareBytes a.data.toList b.data.toList
theorem cmp_one (a b : List UInt8) : compareBytes a b = -1 ∨ compareBytes a b = 0 ∨ compareBytes a b = 1 := by
  induction a generalizing b with
  | nil => cases b <;> simp [compareBytes]
  | cons x t ih =>
    cases b with
    | nil => simp [compareBytes]
    | cons y u =>
      rw [compareBytes]
      split
      · simp
      · split
        · simp
        · exact ih u
end Go.Proofs.YtpmhdcmmlkjjmaaGreatDoor
/- strings.Compare by its contract, laid at this program; cmp.Compare of integers, the order of bools. -/
namespace Go.Proofs
open Go.Shelf Go.RowKit
def Tryz.lays106_ren : Go.Shelf.Ren := ⟨fun | 106 => 118 | 213 => 135 | 265 => 154 | n => n, fun | 3 => 3 | 9 => 9 | n => n, fun | n => n⟩
theorem Tryz.lays106 : Go.Proofs.Lays.n106 Tryz.prog Tryz.lays106_ren := {
  mixed := by kernel_rfl
  f106 := Tryz.func118.trans (congrArg some (by kernel_rfl))
  f213 := Tryz.func135.trans (congrArg some (by kernel_rfl))
  f265 := Tryz.func154.trans (congrArg some (by kernel_rfl))
  t3 := Tryz.underlying3
  a3 := Tryz.isAgg3
  z3 := Tryz.sizeOf3
  v3 := Tryz.zeroValue3
  t9 := Tryz.underlying9
  a9 := Tryz.isAgg9
  z9 := Tryz.sizeOf9
  v9 := Tryz.zeroValue9 }
namespace YtpmhdcmmlkjjmaaGreatDoor
open Go.Lib
end YtpmhdcmmlkjjmaaGreatDoor
end Go.Proofs
