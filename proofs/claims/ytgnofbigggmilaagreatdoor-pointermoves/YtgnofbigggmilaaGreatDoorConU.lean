import Derived.Shelf.Spec.SlicesGrow
import Derived.Laws.AppendOwnNone
import Derived.Test.YtgnofbigggmilaaGreatDoorRepP
set_option linter.unusedSimpArgs false
set_option linter.unusedVariables false
namespace Go.Proofs
open Go.Shelf Go.RowKit
def Tryz.growV_ren : Go.Shelf.Ren := ⟨fun | 4 => 87 | n => n, fun | 0 => 0 | 3 => 3 | 4 => 4 | 9 => 9 | 20 => 20 | 22 => 22 | 25 => 25 | n => n, fun | n => n⟩
theorem Tryz.growV : Go.Proofs.Lays8.n4 Tryz.prog Tryz.growV_ren := {
 mixed := by kernel_rfl
 f4 := ⟨Tryz.f87.name, by kernel_rfl, Tryz.func87.trans (congrArg some (by kernel_rfl))⟩
 t0 := Tryz.underlying0
 a0 := Tryz.isAgg0
 z0 := Tryz.sizeOf0
 v0 := Tryz.zeroValue0
 t3 := Tryz.underlying3
 a3 := Tryz.isAgg3
 z3 := Tryz.sizeOf3
 v3 := Tryz.zeroValue3
 t4 := Tryz.underlying4
 a4 := Tryz.isAgg4
 z4 := Tryz.sizeOf4
 v4 := Tryz.zeroValue4
 t9 := Tryz.underlying9
 a9 := Tryz.isAgg9
 z9 := Tryz.sizeOf9
 v9 := Tryz.zeroValue9
 t20 := Tryz.underlying20
 a20 := Tryz.isAgg20
 z20 := Tryz.sizeOf20
 v20 := Tryz.zeroValue20
 t22 := Tryz.underlying22
 a22 := Tryz.isAgg22
 z22 := Tryz.sizeOf22
 v22 := Tryz.zeroValue22 }
def Tryz.growM_ren : Go.Shelf.Ren := ⟨fun | 4 => 86 | n => n, fun | 0 => 0 | 3 => 3 | 4 => 4 | 9 => 9 | 20 => 20 | 22 => 23 | 25 => 64 | n => n, fun | n => n⟩
theorem Tryz.growM : Go.Proofs.Lays8.n4 Tryz.prog Tryz.growM_ren := {
 mixed := by kernel_rfl
 f4 := ⟨Tryz.f86.name, by kernel_rfl, Tryz.func86.trans (congrArg some (by kernel_rfl))⟩
 t0 := Tryz.underlying0
 a0 := Tryz.isAgg0
 z0 := Tryz.sizeOf0
 v0 := Tryz.zeroValue0
 t3 := Tryz.underlying3
 a3 := Tryz.isAgg3
 z3 := Tryz.sizeOf3
 v3 := Tryz.zeroValue3
 t4 := Tryz.underlying4
 a4 := Tryz.isAgg4
 z4 := Tryz.sizeOf4
 v4 := Tryz.zeroValue4
 t9 := Tryz.underlying9
 a9 := Tryz.isAgg9
 z9 := Tryz.sizeOf9
 v9 := Tryz.zeroValue9
 t20 := Tryz.underlying20
 a20 := Tryz.isAgg20
 z20 := Tryz.sizeOf20
 v20 := Tryz.zeroValue20
 t22 := Tryz.underlying23
 a22 := Tryz.isAgg23
 z22 := Tryz.sizeOf23
 v22 := Tryz.zeroValue23 }
end Go.Proofs
namespace Go.Proofs.YtgnofbigggmilaaGreatDoor
open Go.RowKit Go.Lib
def OwnC (B e c : Nat) (v : Value) (css : List (List Value)) (w : World) : Prop := w.ownsRow B e c v css.length css.flatten
structure SegR where
 a : Option Addr
 css : List (List Value)
 c : Nat
 b : Nat
 o : Nat
def SegR.val (g : SegR) : Value := .slice g.a g.css.length g.c
def catR (gs : List SegR) : List (List Value) := gs.flatMap (fun g => g.css)
theorem catR_take {gs : List SegR} {i : Nat} (h : i < gs.length) : catR (gs.take (i + 1)) = catR (gs.take i) ++ (gs[i]).css := by
 rw [catR, List.take_succ_eq_append_getElem h, List.flatMap_append]; simp [catR]
theorem catR_le {gs : List SegR} {i : Nat} (h : i ≤ gs.length) : (catR (gs.take i)).length ≤ (catR gs).length := by
 have : catR gs = catR (gs.take i) ++ catR (gs.drop i) := by rw [catR, catR, catR, ← List.flatMap_append, List.take_append_drop]
 rw [this, List.length_append]; omega
structure SegAt (c : Nat) (w : World) (S : Nat → Prop) (g : SegR) : Prop where
 hd : Headed g.a g.css.length g.c g.b g.o
 rw_ : RowsOf w g.b g.o c g.css
 ins : 0 < g.css.length → S g.b
theorem SegAt.below {c : Nat} {w w' : World} {S : Nat → Prop} {g : SegR} (h : SegAt c w S g) (hS : ∀ b, S b → b < w.heap.size) (hb : Below w.heap.size w w') : SegAt c w' S g :=
 ⟨h.hd, ⟨h.rw_.len, h.rw_.one, fun j hj => (h.rw_.row j hj).keep (hb.block _ (hS _ (h.ins (by omega))))⟩, h.ins⟩
theorem SegAt.news {c : Nat} (hc : 0 < c) {w : World} {S : Nat → Prop} {g : SegR} (h : SegAt c w S g) {ad : Addr} (ha : g.a = some ad) : ∀ j u, g.css.flatten[j]? = some u → w.cell? (ad.add j) = some u := by
 intro j u hu
 obtain ⟨i, r, hi, hr, rfl, h1⟩ := flat_at h.rw_.len hc hu
 have h2 := h.hd.at_.resolve_left (by omega)
 rw [ha] at h2
 cases h2
 rw [Go.WideShapes.add_plain]
 have := h.rw_.row i hi r u h1
 simpa [Nat.add_assoc] using this
theorem ones {c : Nat} {w : World} {b o : Nat} {css : List (List Value)} (h : RowsOf w b o c css) : ∀ u ∈ css.flatten, u.oneCell' = true := fun u hu => by
 obtain ⟨x, hx, hu⟩ := List.mem_flatten.1 hu
 exact h.one x hx u hu
def CnPost (e c : Nat) (css : List (List Value)) (w : World) (r : Ending) (w' : World) : Prop := ∃ v, r = .returned v ∧ OwnC w.heap.size e c v css w' ∧ Below w.heap.size w w'
theorem infoVU : (Tryz.prog.info? 25).map (fun i => (i.zero, i.size, i.bytes)) = some (some (.agg #[.int .i64 0, .bool false, .int .i64 0, .string ⟨#[]⟩, .slice none 0 0, .slice none 0 0]), 6, 88) := by kernel_rfl
theorem growV_any (n : Nat) (w : World) (hn : n ≤ 4294967296) : Calls Tryz.prog 87 #[.slice none 0 0, .int .i64 (n : Int)] w (CnPost 25 6 [] w) := by
 obtain ⟨i0, hi0, hz0, hz1, hz2⟩ := info_parts infoVU
 by_cases h0 : n = 0
 ·subst h0
  have h := Any8.slices_Grow_room Tryz.growV none 0 0 0 w (by omega) (by omega) (by omega) (by omega)
  change Calls Tryz.prog 87 _ _ _ at h
  exact h.mono fun e w' ⟨he, hw⟩ => ⟨_, he, World.ownsRow_nil _ _ _ _, hw ▸ Below.refl _ _⟩
 ·have h := Any8.slices_Grow_grow Tryz.growV i0 _ hi0 hz0 (by rw [hz1]; omega) none 0 0 n [] w (by omega) (by omega) (by rw [hz2]; omega) (by omega) (by rw [hz1]; rfl) (fun _ => rfl) (fun a h => by cases h)
  change Calls Tryz.prog 87 _ _ _ at h
  refine h.mono fun e w' ⟨he, hw⟩ => ⟨_, he, ?_, ?_⟩
  ·rw [hw]
   have hg := grownCap_ge w (0 + n) 0 25
   have hm := grownCap_le_maxLen w (0 + n) 0 25 (by simp only [maxLen]; omega)
   refine ⟨by simp, .inr ⟨w.heap.size, _, _, rfl, Nat.le_refl _, heap_alloc_new w.drew _, Nat.zero_le _, hm, ?_, by simp⟩⟩
   simp only [Array.size_append, size_zeroCells, List.size_toArray, List.length_nil]
   show 0 + (0 + n - 0) * 6 + (grownCap w (0 + n) 0 25 - (0 + n)) * 6 = grownCap w (0 + n) 0 25 * 6
   omega
  ·rw [hw]; exact ((Below.refl _ _).drew).alloc (by show w.heap.size ≤ w.drew.heap.size; exact Nat.le_refl _) _
set_option maxHeartbeats 8000000 in
set_option maxRecDepth 100000 in
theorem concatV_any (gs : List SegR) (S : Nat → Prop) (ob oo oc : Nat) (w : World) (hrow : ∀ (i : Nat) (h : i < gs.length), w.cell? ⟨ob, oo + i, none⟩ = some (gs[i]).val) (hob : ob < w.heap.size) (hng : gs.length ≤ 1000) (hd : ∀ g ∈ gs, SegAt 6 w S g) (hS : ∀ b, S b → b < w.heap.size) (hlen : (catR gs).length ≤ 8000000) :
 Calls Tryz.prog 67 #[.slice (some ⟨ob, oo, none⟩) gs.length oc] w (CnPost 25 6 (catR gs) w) := by
 have HR : Hid (∀ W, Below w.heap.size w W → ∀ (i : Nat) (h : i < gs.length), W.cell? ⟨ob, oo + i, none⟩ = some (gs[i]).val) := fun W hb i h => (hb.cell (p := ⟨ob, oo + i, none⟩) hob).trans (hrow i h)
 have HD : Hid (∀ W, Below w.heap.size w W → ∀ g ∈ gs, SegAt 6 W S g) := fun W hb g hg => (hd g hg).below hS hb
 obtain ⟨i1, hi1, hy0, hy1, hy2⟩ := info_parts infoVU
 have hJ : Hid (Tryz.prog.info? 25 = some i1 ∧ i1.zero = some (.agg #[.int .i64 0, .bool false, .int .i64 0, .string ⟨#[]⟩, .slice none 0 0, .slice none 0 0]) ∧ i1.size = 6 ∧ i1.bytes = 88) := ⟨hi1, hy0, hy1, hy2⟩
 clear hrow hd hi1 hy0 hy1 hy2
 go_enter Tryz.func67, Tryz.ntmps67
 go_wp2_with fail
 go_loopw [3, 11] (fun e3 e11 wq => ∃ i : Nat, i ≤ gs.length ∧ e3 = .int .i64 ((catR (gs.take i)).length : Int) ∧ e11 = .int .i64 (i : Int) ∧ wq = w) (fun _ e11 _ => gs.length - (RowKit.intOf e11).toNat)
 case atStart => exact ⟨0, by omega, by simp [catR], rfl, rfl⟩
 case round =>
  obtain ⟨i, hi, rfl, rfl, hww⟩ := hrel
  subst hww
  by_cases hil : i < gs.length
  ·have y1 : (i : Int) < gs.length := by omega
   have q := HR.out wr (Below.refl _ _) i hil
   rw [SegR.val] at q
   have HT : Hid ((catR (gs.take (i + 1))).length = (catR (gs.take i)).length + (gs[i]).css.length) := by show _ = _; rw [catR_take hil, List.length_append]
   have h1 := catR_le (gs := gs) (i := i + 1) (by omega)
   rw [HT.out] at h1
   generalize (catR (gs.take i)).length = tot at *
   generalize (gs[i]).css.length = ln at *
   generalize (gs[i]).a = sa at *
   generalize (gs[i]).c = sc at *
   have y2 : ¬ ((tot : Int) + (ln : Int)) < 0 := by omega
   go_wp2_with fail
   go_roundw
   case rel => exact ⟨i + 1, by omega, by rw [HT.out]; go_num, by go_num, by first | rfl | trivial⟩
   case measure => simp [RowKit.intOf]; omega
  ·obtain rfl : i = gs.length := by omega
   have y1 : ¬ (gs.length : Int) < gs.length := by omega
   rw [List.take_length]
   have cG := growV_any (catR gs).length wr (by omega)
   go_wp2_with fail
   refine cG.mono ?_
   rintro e w1 ⟨v0, rfl, o0, B1⟩
   have hz1 := B1.size
   clear cG
   go_wp2_with fail
   go_loopw [6, 27] (fun e6 e27 wq => ∃ (i : Nat) (bv : Value), bv = e6 ∧ i ≤ gs.length ∧ e27 = .int .i64 (i : Int) ∧ Below wr.heap.size wr wq ∧ OwnC wr.heap.size 25 6 bv (catR (gs.take i)) wq) (fun _ e27 _ => gs.length - (RowKit.intOf e27).toNat)
   case atStart => exact ⟨0, _, rfl, by omega, rfl, B1, by simpa [catR] using o0⟩
   case round =>
    rename World => wx
    clear o0 B1 hz1
    obtain ⟨i, bv, rfl, hi, rfl, bx, oj⟩ := hrel
    have hzx := bx.size
    by_cases hil : i < gs.length
    ·have y1 : (i : Int) < gs.length := by omega
     have q := HR.out wx bx i hil
     rw [SegR.val] at q
     have hsg := HD.out wx bx gs[i] (List.getElem_mem hil)
     have HT : Hid (catR (gs.take (i + 1)) = catR (gs.take i) ++ (gs[i]).css) := by show _ = _; rw [catR_take hil]
     have h1 := catR_le (gs := gs) (i := i + 1) (by omega)
     rw [HT.out, List.length_append] at h1
     generalize catR (gs.take i) = X at *
     generalize gs[i] = sg at *
     obtain ⟨sa, sc, cap, sb, so⟩ := sg
     simp only at *
     cases sa with
     | none =>
      have hcz := hsg.hd.nil rfl
      have hle := hsg.hd.le
      simp only at hcz hle
      have hsc : sc = [] := List.length_eq_zero_iff.1 (by omega)
      subst hsc
      subst hcz
      rw [List.append_nil] at HT
      go_wp2_with (at_builtin; refine wpList_append_own_none rfl (.tmp 31) (.tmp 32) 22 rfl wr.heap.size 25 i1 6 Tryz.underlying22 hJ.out.1 bv X.length X.flatten rfl oj rfl ?_)
      go_wp2_with fail
      go_roundw
      case rel => exact ⟨i + 1, bv, rfl, by omega, by go_num, bx, by rw [HT.out]; exact oj⟩
      case measure => simp [RowKit.intOf]; omega
     | some ad =>
      have hnw := hsg.news (by omega) (ad := ad) rfl
      have hon := ones hsg.rw_
      have hfl := flat_len hsg.rw_.len
      simp only at hnw hon hfl
      go_wp2_with (at_builtin; go_loud (refine wpList_append_own _ rfl (.tmp 31) (.tmp 32) 22 rfl wr.heap.size 25 i1 _ 6 88 Tryz.underlying22 hJ.out.1 hJ.out.2.1 hJ.out.2.2.1 hJ.out.2.2.2 rfl (by decide) bv X.length X.flatten rfl oj ad sc.length cap sc.flatten rfl hfl hnw hon (by unfold maxLen; omega) (by omega) hzx ?_))
      intro v' w5 hown hgrow _
      have b5 : Below wr.heap.size wr w5 := bx.grown hgrow hzx (fun r e => (World.ownsRow.lt oj r e).1)
      have HO : Hid (OwnC wr.heap.size 25 6 v' (X ++ sc) w5) := by
       show w5.ownsRow _ _ _ v' (X ++ sc).length (X ++ sc).flatten
       rw [List.flatten_append, List.length_append]
       exact hown
      clear hown hgrow oj hnw hon hfl
      go_wp2_with fail
      go_roundw
      case rel => exact ⟨i + 1, v', rfl, by omega, by go_num, b5, by rw [HT.out]; exact HO.out⟩
      case measure => simp [RowKit.intOf]; omega
    ·obtain rfl : i = gs.length := by omega
     have y1 : ¬ (gs.length : Int) < gs.length := by omega
     rw [List.take_length] at oj
     have HO : Hid (OwnC wr.heap.size 25 6 bv (catR gs) wx) := oj
     clear oj
     go_wp2_with fail
     go_ret
     exact ⟨bv, rfl, HO.out, bx⟩
theorem infoMU : (Tryz.prog.info? 64).map (fun i => (i.zero, i.size, i.bytes)) = some (some (.agg #[.string ⟨#[]⟩, .int .i64 0, .bool false, .int .i64 0, .string ⟨#[]⟩, .slice none 0 0, .slice none 0 0]), 7, 104) := by kernel_rfl
theorem growM_any (n : Nat) (w : World) (hn : n ≤ 4294967296) : Calls Tryz.prog 86 #[.slice none 0 0, .int .i64 (n : Int)] w (CnPost 64 7 [] w) := by
 obtain ⟨i0, hi0, hz0, hz1, hz2⟩ := info_parts infoMU
 by_cases h0 : n = 0
 ·subst h0
  have h := Any8.slices_Grow_room Tryz.growM none 0 0 0 w (by omega) (by omega) (by omega) (by omega)
  change Calls Tryz.prog 86 _ _ _ at h
  exact h.mono fun e w' ⟨he, hw⟩ => ⟨_, he, World.ownsRow_nil _ _ _ _, hw ▸ Below.refl _ _⟩
 ·have h := Any8.slices_Grow_grow Tryz.growM i0 _ hi0 hz0 (by rw [hz1]; omega) none 0 0 n [] w (by omega) (by omega) (by rw [hz2]; omega) (by omega) (by rw [hz1]; rfl) (fun _ => rfl) (fun a h => by cases h)
  change Calls Tryz.prog 86 _ _ _ at h
  refine h.mono fun e w' ⟨he, hw⟩ => ⟨_, he, ?_, ?_⟩
  ·rw [hw]
   have hg := grownCap_ge w (0 + n) 0 64
   have hm := grownCap_le_maxLen w (0 + n) 0 64 (by simp only [maxLen]; omega)
   refine ⟨by simp, .inr ⟨w.heap.size, _, _, rfl, Nat.le_refl _, heap_alloc_new w.drew _, Nat.zero_le _, hm, ?_, by simp⟩⟩
   simp only [Array.size_append, size_zeroCells, List.size_toArray, List.length_nil]
   show 0 + (0 + n - 0) * 7 + (grownCap w (0 + n) 0 64 - (0 + n)) * 7 = grownCap w (0 + n) 0 64 * 7
   omega
  ·rw [hw]; exact ((Below.refl _ _).drew).alloc (by show w.heap.size ≤ w.drew.heap.size; exact Nat.le_refl _) _
set_option maxHeartbeats 8000000 in
set_option maxRecDepth 100000 in
theorem concatM_any (gs : List SegR) (S : Nat → Prop) (ob oo oc : Nat) (w : World) (hrow : ∀ (i : Nat) (h : i < gs.length), w.cell? ⟨ob, oo + i, none⟩ = some (gs[i]).val) (hob : ob < w.heap.size) (hng : gs.length ≤ 1000) (hd : ∀ g ∈ gs, SegAt 7 w S g) (hS : ∀ b, S b → b < w.heap.size) (hlen : (catR gs).length ≤ 8000000) :
 Calls Tryz.prog 65 #[.slice (some ⟨ob, oo, none⟩) gs.length oc] w (CnPost 64 7 (catR gs) w) := by
 have HR : Hid (∀ W, Below w.heap.size w W → ∀ (i : Nat) (h : i < gs.length), W.cell? ⟨ob, oo + i, none⟩ = some (gs[i]).val) := fun W hb i h => (hb.cell (p := ⟨ob, oo + i, none⟩) hob).trans (hrow i h)
 have HD : Hid (∀ W, Below w.heap.size w W → ∀ g ∈ gs, SegAt 7 W S g) := fun W hb g hg => (hd g hg).below hS hb
 obtain ⟨i1, hi1, hy0, hy1, hy2⟩ := info_parts infoMU
 have hJ : Hid (Tryz.prog.info? 64 = some i1 ∧ i1.zero = some (.agg #[.string ⟨#[]⟩, .int .i64 0, .bool false, .int .i64 0, .string ⟨#[]⟩, .slice none 0 0, .slice none 0 0]) ∧ i1.size = 7 ∧ i1.bytes = 104) := ⟨hi1, hy0, hy1, hy2⟩
 clear hrow hd hi1 hy0 hy1 hy2
 go_enter Tryz.func65, Tryz.ntmps65
 go_wp2_with fail
 go_loopw [3, 11] (fun e3 e11 wq => ∃ i : Nat, i ≤ gs.length ∧ e3 = .int .i64 ((catR (gs.take i)).length : Int) ∧ e11 = .int .i64 (i : Int) ∧ wq = w) (fun _ e11 _ => gs.length - (RowKit.intOf e11).toNat)
 case atStart => exact ⟨0, by omega, by simp [catR], rfl, rfl⟩
 case round =>
  obtain ⟨i, hi, rfl, rfl, hww⟩ := hrel
  subst hww
  by_cases hil : i < gs.length
  ·have y1 : (i : Int) < gs.length := by omega
   have q := HR.out wr (Below.refl _ _) i hil
   rw [SegR.val] at q
   have HT : Hid ((catR (gs.take (i + 1))).length = (catR (gs.take i)).length + (gs[i]).css.length) := by show _ = _; rw [catR_take hil, List.length_append]
   have h1 := catR_le (gs := gs) (i := i + 1) (by omega)
   rw [HT.out] at h1
   generalize (catR (gs.take i)).length = tot at *
   generalize (gs[i]).css.length = ln at *
   generalize (gs[i]).a = sa at *
   generalize (gs[i]).c = sc at *
   have y2 : ¬ ((tot : Int) + (ln : Int)) < 0 := by omega
   go_wp2_with fail
   go_roundw
   case rel => exact ⟨i + 1, by omega, by rw [HT.out]; go_num, by go_num, by first | rfl | trivial⟩
   case measure => simp [RowKit.intOf]; omega
  ·obtain rfl : i = gs.length := by omega
   have y1 : ¬ (gs.length : Int) < gs.length := by omega
   rw [List.take_length]
   have cG := growM_any (catR gs).length wr (by omega)
   go_wp2_with fail
   refine cG.mono ?_
   rintro e w1 ⟨v0, rfl, o0, B1⟩
   have hz1 := B1.size
   clear cG
   go_wp2_with fail
   go_loopw [6, 27] (fun e6 e27 wq => ∃ (i : Nat) (bv : Value), bv = e6 ∧ i ≤ gs.length ∧ e27 = .int .i64 (i : Int) ∧ Below wr.heap.size wr wq ∧ OwnC wr.heap.size 64 7 bv (catR (gs.take i)) wq) (fun _ e27 _ => gs.length - (RowKit.intOf e27).toNat)
   case atStart => exact ⟨0, _, rfl, by omega, rfl, B1, by simpa [catR] using o0⟩
   case round =>
    rename World => wx
    clear o0 B1 hz1
    obtain ⟨i, bv, rfl, hi, rfl, bx, oj⟩ := hrel
    have hzx := bx.size
    by_cases hil : i < gs.length
    ·have y1 : (i : Int) < gs.length := by omega
     have q := HR.out wx bx i hil
     rw [SegR.val] at q
     have hsg := HD.out wx bx gs[i] (List.getElem_mem hil)
     have HT : Hid (catR (gs.take (i + 1)) = catR (gs.take i) ++ (gs[i]).css) := by show _ = _; rw [catR_take hil]
     have h1 := catR_le (gs := gs) (i := i + 1) (by omega)
     rw [HT.out, List.length_append] at h1
     generalize catR (gs.take i) = X at *
     generalize gs[i] = sg at *
     obtain ⟨sa, sc, cap, sb, so⟩ := sg
     simp only at *
     cases sa with
     | none =>
      have hcz := hsg.hd.nil rfl
      have hle := hsg.hd.le
      simp only at hcz hle
      have hsc : sc = [] := List.length_eq_zero_iff.1 (by omega)
      subst hsc
      subst hcz
      rw [List.append_nil] at HT
      go_wp2_with (at_builtin; refine wpList_append_own_none rfl (.tmp 31) (.tmp 32) 23 rfl wr.heap.size 64 i1 7 Tryz.underlying23 hJ.out.1 bv X.length X.flatten rfl oj rfl ?_)
      go_wp2_with fail
      go_roundw
      case rel => exact ⟨i + 1, bv, rfl, by omega, by go_num, bx, by rw [HT.out]; exact oj⟩
      case measure => simp [RowKit.intOf]; omega
     | some ad =>
      have hnw := hsg.news (by omega) (ad := ad) rfl
      have hon := ones hsg.rw_
      have hfl := flat_len hsg.rw_.len
      simp only at hnw hon hfl
      go_wp2_with (at_builtin; go_loud (refine wpList_append_own _ rfl (.tmp 31) (.tmp 32) 23 rfl wr.heap.size 64 i1 _ 7 104 Tryz.underlying23 hJ.out.1 hJ.out.2.1 hJ.out.2.2.1 hJ.out.2.2.2 rfl (by decide) bv X.length X.flatten rfl oj ad sc.length cap sc.flatten rfl hfl hnw hon (by unfold maxLen; omega) (by omega) hzx ?_))
      intro v' w5 hown hgrow _
      have b5 : Below wr.heap.size wr w5 := bx.grown hgrow hzx (fun r e => (World.ownsRow.lt oj r e).1)
      have HO : Hid (OwnC wr.heap.size 64 7 v' (X ++ sc) w5) := by
       show w5.ownsRow _ _ _ v' (X ++ sc).length (X ++ sc).flatten
       rw [List.flatten_append, List.length_append]
       exact hown
      clear hown hgrow oj hnw hon hfl
      go_wp2_with fail
      go_roundw
      case rel => exact ⟨i + 1, v', rfl, by omega, by go_num, b5, by rw [HT.out]; exact HO.out⟩
      case measure => simp [RowKit.intOf]; omega
    ·obtain rfl : i = gs.length := by omega
     have y1 : ¬ (gs.length : Int) < gs.length := by omega
     rw [List.take_length] at oj
     have HO : Hid (OwnC wr.heap.size 64 7 bv (catR gs) wx) := oj
     clear oj
     go_wp2_with fail
     go_ret
     exact ⟨bv, rfl, HO.out, bx⟩
end Go.Proofs.YtgnofbigggmilaaGreatDoor
