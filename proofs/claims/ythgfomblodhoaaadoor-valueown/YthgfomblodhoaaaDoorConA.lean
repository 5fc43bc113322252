import Derived.Shelf.Spec.SlicesGrow
import Derived.Test.YthgfomblodhoaaaDoorG24
/- slices.Grow of nil; slices.Concat of members. -/
set_option linter.unusedSimpArgs false
set_option linter.unusedVariables false
namespace Go.Proofs
open Go.Shelf Go.RowKit
def Tryd.grow80_ren : Go.Shelf.Ren := ⟨fun | 4 => 54 | n => n, fun | 0 => 0 | 3 => 3 | 4 => 4 | 9 => 9 | 20 => 20 | 22 => 23 | 25 => 38 | n => n, fun | n => n⟩
theorem Tryd.grow80 : Go.Proofs.Lays8.n4 Tryd.prog Tryd.grow80_ren := {
  mixed := by kernel_rfl
  f4 := ⟨Tryd.f54.name, by kernel_rfl, Tryd.func54.trans (congrArg some (by kernel_rfl))⟩
  t0 := Tryd.underlying0
  a0 := Tryd.isAgg0
  z0 := Tryd.sizeOf0
  v0 := Tryd.zeroValue0
  t3 := Tryd.underlying3
  a3 := Tryd.isAgg3
  z3 := Tryd.sizeOf3
  v3 := Tryd.zeroValue3
  t4 := Tryd.underlying4
  a4 := Tryd.isAgg4
  z4 := Tryd.sizeOf4
  v4 := Tryd.zeroValue4
  t9 := Tryd.underlying9
  a9 := Tryd.isAgg9
  z9 := Tryd.sizeOf9
  v9 := Tryd.zeroValue9
  t20 := Tryd.underlying20
  a20 := Tryd.isAgg20
  z20 := Tryd.sizeOf20
  v20 := Tryd.zeroValue20
  t22 := Tryd.underlying23
  a22 := Tryd.isAgg23
  z22 := Tryd.sizeOf23
  v22 := Tryd.zeroValue23 }
namespace YthgfomblodhoaaaDoor
open Go.Lib Go.Sort
/-- room for n members -/
def GrwPost (n : Nat) (w : World) (e : Ending) (w' : World) : Prop :=
  (n = 0 ∧ e = .returned (.slice none 0 0) ∧ w' = w) ∨ (0 < n ∧ ∃ cap, e = .returned (.slice (some ⟨w.heap.size, 0, none⟩) 0 cap) ∧ OwnM false w' 0 (fun _ => False) (.slice (some ⟨w.heap.size, 0, none⟩) 0 cap) [] ∧ Below w.heap.size w w' ∧ w.heap.size < w'.heap.size)
theorem grow_any (n : Nat) (w : World) (hn : n ≤ 4294967296) : Calls Tryd.prog 54 #[.slice none 0 0, .int .i64 (n : Int)] w (GrwPost n w) := by
  obtain ⟨i0, hi0, hz0, hz1, hz2⟩ := info_parts info44
  by_cases h0 : n = 0
  · subst h0
    have h := Any8.slices_Grow_room Tryd.grow80 none 0 0 0 w (by omega) (by omega) (by omega) (by omega)
    change Calls Tryd.prog 54 _ _ _ at h
    exact h.mono fun e w' ⟨he, hw⟩ => .inl ⟨rfl, he, hw⟩
  · have h := Any8.slices_Grow_grow Tryd.grow80 i0 _ hi0 hz0 (by rw [hz1]; omega) none 0 0 n [] w (by omega) (by omega) (by rw [hz2]; omega) (by omega) (by rw [hz1]; rfl) (fun _ => rfl) (fun a h => by cases h)
    change Calls Tryd.prog 54 _ _ _ at h
    refine h.mono fun e w' ⟨he, hw⟩ => .inr ⟨by omega, _, he, ?_, ?_, ?_⟩
    · rw [hw]
      have hg := grownCap_ge w (0 + n) 0 38
      have hm := grownCap_le_maxLen w (0 + n) 0 38 (by simp only [maxLen]; omega)
      refine ⟨⟨[], ⟨by simp, .inr ⟨w.heap.size, _, _, rfl, Nat.zero_le _, heap_alloc_new w.drew _, Nat.zero_le _, hm, ?_, by simp⟩⟩, fun j hj => by simp at hj⟩, fun b hb => hb.elim⟩
      simp only [Array.size_append, size_zeroCells, List.size_toArray, List.length_nil]
      show 0 + (0 + n - 0) * 7 + (grownCap w (0 + n) 0 38 - (0 + n)) * 7 = grownCap w (0 + n) 0 38 * 7
      omega
    · rw [hw]; exact ((Below.refl _ _).drew).alloc (by show w.heap.size ≤ w.drew.heap.size; exact Nat.le_refl _) _
    · rw [hw, alloc_size]; exact Nat.lt_succ_self _
structure Seg where
  a : Option Addr
  l : List Mem
  c : Nat
  b : Nat
  o : Nat
def Seg.val (g : Seg) : Value := .slice g.a g.l.length g.c
def catL (gs : List Seg) : List Mem := gs.flatMap (fun g => g.l)
theorem cat_take {gs : List Seg} {i : Nat} (h : i < gs.length) : catL (gs.take (i + 1)) = catL (gs.take i) ++ (gs[i]).l := by
  rw [catL, List.take_succ_eq_append_getElem h, List.flatMap_append]; simp [catL]
theorem cat_le {gs : List Seg} {i : Nat} (h : i ≤ gs.length) : (catL (gs.take i)).length ≤ (catL gs).length := by
  have : catL gs = catL (gs.take i) ++ catL (gs.drop i) := by rw [catL, catL, catL, ← List.flatMap_append, List.take_append_drop]
  rw [this, List.length_append]; omega
theorem cat_part {gs : List Seg} {i : Nat} (h : i < gs.length) : (gs[i]).l.length ≤ (catL gs).length := by
  have h1 := cat_le (gs := gs) (i := i + 1) (by omega)
  rw [cat_take h, List.length_append] at h1
  omega
def ConPost (S : Nat → Prop) (L : List Mem) (w : World) (e : Ending) (w' : World) : Prop := ∃ a c b o, e = .returned (.slice a L.length c) ∧ Headed a L.length c b o ∧ liesM false w' (fun x => S x ∨ New w w' x) L b o ∧ Below w.heap.size w w'
theorem own_listS {w : World} {N : Nat} {S : Nat → Prop} {v : Value} {l : List Mem} (h : OwnM false w N S v (l.map some)) : ∃ a c b o, v = .slice a l.length c ∧ Headed a l.length c b o ∧ liesM false w (fun x => S x ∨ v.ownBlock = some x) l b o := by
  have h' := h
  obtain ⟨⟨xs, h1, h2⟩, h3⟩ := h'
  rcases h1.2 with ⟨rfl, e⟩ | ⟨g, cap, cur, rfl, _⟩
  · have e0 : l.length = 0 := by simpa using e
    have : l = [] := List.length_eq_zero_iff.1 e0
    subst this
    exact ⟨none, 0, 0, 0, rfl, headed_nil, by rw [liesM]; trivial⟩
  · have hle := h.le
    simp only [List.length_map] at hle ⊢
    refine ⟨_, cap, g, 0, rfl, ⟨hle.1, hle.2, .inr rfl, fun h => by cases h⟩, liesM_mk fun j hj => ?_⟩
    obtain ⟨cs, k1, k2⟩ := h.at (by simp) j (by simpa using hj)
    rw [List.getElem_map] at k2
    obtain ⟨cs', rfl, hks, k3⟩ := k2
    exact ⟨.inr rfl, hks, cs', k1, V.lies_keep (fun h => h) (fun _ _ => rfl) (fun b hb => .inl hb) _ k3⟩
/-- the cells of a segment -/
theorem seg_cells {w : World} {S : Nat → Prop} {l : List Mem} {a : Option Addr} {c b o : Nat} (hd : Headed a l.length c b o) (hl : liesM false w S l b o) : ∃ cx : List Value, cx.length = l.length * 7 ∧ (a = none → l.length = 0 ∧ c = 0) ∧ (∀ ad, a = some ad → ∀ j u, cx[j]? = some u → w.cell? (ad.add j) = some u) ∧ (∀ u ∈ cx, u.oneCell' = true) ∧ (∀ (j : Nat) (h : j < l.length), EM false (some l[j]) w S ((cx.drop (j * 7)).take 7)) := by
  obtain ⟨d, hd1, hd2, hd3⟩ := mc_of hl
  have hdl : d.length = l.length := by rw [← hd1]; simp
  have hlen : (flatK MC.enc 7 d.toArray).toList.length = d.length * 7 := by simp
  refine ⟨(flatK MC.enc 7 d.toArray).toList, by rw [hlen, hdl], fun h => ?_, fun ad h j u hu => ?_, flat_one, fun j hj => ?_⟩
  · subst h
    have h0 := hd.nil rfl
    exact ⟨by have := hd.le; omega, h0⟩
  · have hj : j < d.length * 7 := by rw [← hlen]; exact (List.getElem?_eq_some_iff.1 hu).1
    have h1 : a = some ⟨b, o, none⟩ := hd.at_.resolve_left (by omega)
    rw [h] at h1
    cases h1
    have := flat_row hd3 j u hu
    rw [Go.WideShapes.add_plain]
    exact this
  · have hj' : j < d.length := by omega
    have e1 : l[j] = MC.mem d[j] := by simp only [← hd1, List.getElem_map]
    have e2 : ((flatK MC.enc 7 d.toArray).toList.drop (j * 7)).take 7 = (d[j]).enc := by
      apply List.ext_getElem?
      intro t
      by_cases ht : t < 7
      · rw [List.getElem?_take, if_pos ht, List.getElem?_drop]
        have hlt : j * 7 + t < (flatK MC.enc 7 d.toArray).size := by simp; omega
        rw [Array.getElem?_toList, Array.getElem?_eq_getElem hlt, ← getElem!_pos (flatK MC.enc 7 d.toArray) (j * 7 + t) hlt, get_flatK _ _ _ _ (by simpa using hlt)]
        rw [show (j * 7 + t) / 7 = j by omega, show (j * 7 + t) % 7 = t by omega, get_arr hj', getElem!_pos (d[j]).enc t (by rw [MC.len]; exact ht), List.getElem?_eq_getElem (by rw [MC.len]; exact ht)]
      · rw [List.getElem?_eq_none (by rw [List.length_take]; omega), List.getElem?_eq_none (by rw [MC.len]; omega)]
    rw [e1, e2]
    have := hd2 d[j] (List.getElem_mem hj')
    exact ⟨(d[j]).cs, rfl, this.1, this.2⟩
set_option maxHeartbeats 2000000 in
set_option maxRecDepth 100000 in
theorem concat_any (gs : List Seg) (S : Nat → Prop) (ob oo oc : Nat) (w : World) (hrow : ∀ (i : Nat) (h : i < gs.length), w.cell? ⟨ob, oo + i, none⟩ = some (gs[i]).val) (hob : ob < w.heap.size) (hng : gs.length ≤ 1000) (hd : ∀ g ∈ gs, Headed g.a g.l.length g.c g.b g.o ∧ liesM false w S g.l g.b g.o) (hS : ∀ b, S b → b < w.heap.size) (hlen : (catL gs).length ≤ 4294967296) :
    Calls Tryd.prog 38 #[.slice (some ⟨ob, oo, none⟩) gs.length oc] w (ConPost S (catL gs) w) := by
  have HR : Hid (∀ W, Below w.heap.size w W → ∀ (i : Nat) (h : i < gs.length), W.cell? ⟨ob, oo + i, none⟩ = some (gs[i]).val) := fun W hb i h => (hb.cell (p := ⟨ob, oo + i, none⟩) hob).trans (hrow i h)
  have HD : Hid (∀ W, Below w.heap.size w W → ∀ g ∈ gs, Headed g.a g.l.length g.c g.b g.o ∧ liesM false W S g.l g.b g.o) := fun W hb g hg => ⟨(hd g hg).1, liesM_keep (fun h => h) (fun x hx => hb.block x (hS x hx)) (fun _ h => h) _ (hd g hg).2⟩
  obtain ⟨i1, hi1, hy0, hy1, hy2⟩ := info_parts info44
  have hJ : Hid (Tryd.prog.info? 38 = some i1 ∧ i1.zero = some (.agg #[.string ⟨#[]⟩, .int .i64 0, .bool false, .int .i64 0, .string ⟨#[]⟩, .slice none 0 0, .slice none 0 0]) ∧ i1.size = 7 ∧ i1.bytes = 104) := ⟨hi1, hy0, hy1, hy2⟩
  clear hrow hd hi1 hy0 hy1 hy2
  go_enter Tryd.func38, Tryd.ntmps38
  go_wp2_with fail
  go_loopw [3, 11] (fun e3 e11 wq => ∃ i : Nat, i ≤ gs.length ∧ e3 = .int .i64 ((catL (gs.take i)).length : Int) ∧ e11 = .int .i64 (i : Int) ∧ wq = w) (fun _ e11 _ => gs.length - (RowKit.intOf e11).toNat)
  case atStart => exact ⟨0, by omega, by simp [catL], rfl, rfl⟩
  case round =>
    obtain ⟨i, hi, rfl, rfl, hww⟩ := hrel
    subst hww
    by_cases hil : i < gs.length
    · have y1 : (i : Int) < gs.length := by omega
      have q := HR.out wr (Below.refl _ _) i hil
      rw [Seg.val] at q
      have HT : Hid ((catL (gs.take (i + 1))).length = (catL (gs.take i)).length + (gs[i]).l.length) := by show _ = _; rw [cat_take hil, List.length_append]
      have h1 := cat_le (gs := gs) (i := i + 1) (by omega)
      rw [HT.out] at h1
      generalize (catL (gs.take i)).length = tot at *
      generalize (gs[i]).l.length = ln at *
      generalize (gs[i]).a = sa at *
      generalize (gs[i]).c = sc at *
      have y2 : ¬ ((tot : Int) + (ln : Int)) < 0 := by omega
      go_wp2_with fail
      go_roundw
      case rel => exact ⟨i + 1, by omega, by rw [HT.out]; go_num, by go_num, by first | rfl | trivial⟩
      case measure => simp [RowKit.intOf]; omega
    · obtain rfl : i = gs.length := by omega
      have y1 : ¬ (gs.length : Int) < gs.length := by omega
      rw [List.take_length]
      have cG := grow_any (catL gs).length wr hlen
      go_wp2_with fail
      refine cG.mono ?_
      rintro e w1 hG
      rcases hG with ⟨h0, rfl, hw1⟩ | ⟨hpos, cap0, rfl, o0, B1, hlt⟩
      · subst hw1
        have hnil : catL gs = [] := List.length_eq_zero_iff.1 h0
        have HN : Hid (catL gs = []) := hnil
        have HZ : Hid (∀ (i : Nat) (h : i < gs.length), (gs[i]).l.length = 0) := fun i h => by have := cat_part h; omega
        clear hnil h0 cG
        go_wp2_with fail
        go_loopw [6, 27] (fun e6 e27 wq => ∃ i : Nat, i ≤ gs.length ∧ e6 = .slice none 0 0 ∧ e27 = .int .i64 (i : Int) ∧ Below w1.heap.size w1 wq) (fun _ e27 _ => gs.length - (RowKit.intOf e27).toNat)
        case atStart => exact ⟨0, by omega, rfl, rfl, Below.refl _ _⟩
        case round =>
          rename World => wx
          obtain ⟨i, hi, rfl, rfl, bx⟩ := hrel
          by_cases hil : i < gs.length
          · have y1 : (i : Int) < gs.length := by omega
            have q := HR.out wx bx i hil
            rw [Seg.val, HZ.out i hil] at q
            have hdn := (HD.out wx bx gs[i] (List.getElem_mem hil)).1.nil
            generalize (gs[i]).a = sa at *
            generalize (gs[i]).c = sc at *
            cases sa with
            | none =>
              obtain rfl : sc = 0 := hdn rfl
              go_wp2_with (at_builtin; refine wpList_append_own_none rfl (.tmp 31) (.tmp 32) 23 rfl wx.heap.size 38 i1 7 Tryd.underlying23 hJ.out.1 (.slice none 0 0) 0 [] rfl (World.ownsRow_nil _ _ _ _) rfl ?_)
              go_wp2_with fail
              go_roundw
              case rel => exact ⟨i + 1, by omega, rfl, by go_num, bx⟩
              case measure => simp [RowKit.intOf]; omega
            | some ad =>
              go_wp2_with (at_builtin; refine wpList_append_own _ rfl (.tmp 31) (.tmp 32) 23 rfl wx.heap.size 38 i1 _ 7 104 Tryd.underlying23 hJ.out.1 hJ.out.2.1 hJ.out.2.2.1 hJ.out.2.2.2 rfl (by decide) (.slice none 0 0) 0 [] rfl (World.ownsRow_nil _ _ _ _) ad 0 sc [] rfl rfl (fun j u hj => by simp at hj) (fun u hu => by simp at hu) (by decide) (by decide) (Nat.le_refl _) ?_)
              intro v' w5 hown hgrow hnil
              obtain rfl : v' = .slice none 0 0 := by first | exact hnil | exact hnil.2 ⟨rfl, rfl⟩
              have b5 : Below w1.heap.size w1 w5 := bx.grown hgrow bx.size (fun r e => by cases e)
              clear hown hgrow hnil
              go_wp2_with fail
              go_roundw
              case rel => exact ⟨i + 1, by omega, rfl, by go_num, b5⟩
              case measure => simp [RowKit.intOf]; omega
          · obtain rfl : i = gs.length := by omega
            have y1 : ¬ (gs.length : Int) < gs.length := by omega
            go_wp2_with fail
            go_ret
            rw [HN.out]
            exact ⟨none, 0, 0, 0, rfl, headed_nil, by rw [liesM]; trivial, bx⟩
      · have hz1 := B1.size
        clear cG
        go_wp2_with fail
        go_loopw [6, 27] (fun e6 e27 wq => ∃ (i g cap : Nat) (SM : Nat → Prop), i ≤ gs.length ∧ e6 = .slice (some ⟨g, 0, none⟩) (catL (gs.take i)).length cap ∧ e27 = .int .i64 (i : Int) ∧ Below wr.heap.size wr wq ∧ wr.heap.size ≤ g ∧ (∀ x, SM x → S x) ∧ OwnM false wq 0 SM (.slice (some ⟨g, 0, none⟩) (catL (gs.take i)).length cap) ((catL (gs.take i)).map some)) (fun _ e27 _ => gs.length - (RowKit.intOf e27).toNat)
        case atStart => exact ⟨0, _, _, (fun _ => False), by omega, rfl, rfl, B1, Nat.le_refl _, (fun x h => h.elim), o0⟩
        case round =>
          rename World => wx
          clear o0 B1
          obtain ⟨i, g, cap, SM, hi, rfl, rfl, bx, hg, hSM, oj⟩ := hrel
          have hzx := bx.size
          by_cases hil : i < gs.length
          · have y1 : (i : Int) < gs.length := by omega
            have q := HR.out wx bx i hil
            rw [Seg.val] at q
            obtain ⟨hdh, hll⟩ := HD.out wx bx gs[i] (List.getElem_mem hil)
            obtain ⟨cx, x1, x2, x3, x4, x5⟩ := seg_cells hdh hll
            have HT : Hid ((catL (gs.take (i + 1))).length = (catL (gs.take i)).length + (gs[i]).l.length) := by show _ = _; rw [cat_take hil, List.length_append]
            have HTm : Hid ((catL (gs.take (i + 1))).map some = (catL (gs.take i)).map some ++ ((gs[i]).l).map some) := by show _ = _; rw [cat_take hil, List.map_append]
            have h1 := cat_le (gs := gs) (i := i + 1) (by omega)
            rw [HT.out] at h1
            obtain ⟨X, hX⟩ : ∃ X, (catL (gs.take i)).map some = X := ⟨_, rfl⟩
            have hXl : (catL (gs.take i)).length = X.length := by rw [← hX, List.length_map]
            obtain ⟨Y, hY⟩ : ∃ Y, ((gs[i]).l).map some = Y := ⟨_, rfl⟩
            have hYl : (gs[i]).l.length = Y.length := by rw [← hY, List.length_map]
            have x5' : ∀ (j : Nat) (h : j < Y.length), EM false Y[j] wx S ((cx.drop (j * 7)).take 7) := fun j h => by
              have h' : j < (gs[i]).l.length := by omega
              have e : Y[j] = some (gs[i]).l[j] := by simp only [← hY, List.getElem_map]
              rw [e]
              exact x5 j h'
            rw [hX] at oj HTm
            rw [hY] at HTm
            have x1' : cx.length = Y.length * 7 := by rw [x1, hYl]
            have x2' : (gs[i]).a = none → Y.length = 0 ∧ (gs[i]).c = 0 := fun h => by have := x2 h; exact ⟨by omega, this.2⟩
            have hSx : ∀ b, S b → b < wx.heap.size ∧ b ≠ g := fun b hb => ⟨by have := hS b hb; omega, fun e => by have := hS b hb; omega⟩
            clear hX hY x1 x2 x5 hdh hll
            generalize (catL (gs.take i)).length = tot at *
            generalize (gs[i]).l.length = ln at *
            generalize (gs[i]).a = sa at *
            generalize (gs[i]).c = sc at *
            have HXl : Hid (tot = X.length) := hXl
            have HYl : Hid (ln = Y.length) := hYl
            have hbd : X.length + Y.length ≤ 4294967296 := by omega
            clear hXl hYl
            go_wp2_with (at_builtin; go_loud (refine wpl_pushes (keepM false) _ _ rfl (.tmp 31) (.tmp 32) 23 rfl i1 _ 104 Tryd.underlying23 hJ.out.1 hJ.out.2.1 hJ.out.2.2.1 hJ.out.2.2.2 rfl (by decide) (by decide) (Sx := S) (ys := Y) (cx := cx) HXl.out rfl oj sa ln sc HYl.out rfl x1' x2' x3 x4 x5' hSx hbd ?_))
            intro g' cap' w5 o5 g5 e5
            have b5 : Below wr.heap.size wr w5 := bx.grown g5 hzx (fun r e => by cases e; omega)
            have hg' : wr.heap.size ≤ g' := by rcases e5 with h | h <;> omega
            have HO : Hid (OwnM false w5 0 (fun b => SM b ∨ S b) (.slice (some ⟨g', 0, none⟩) (tot + ln) cap') (X ++ Y)) := o5
            clear o5 g5 e5 oj x3 x4 x5' x1' x2' hSx
            go_wp2_with fail
            go_roundw
            case rel => exact ⟨i + 1, g', cap', (fun b => SM b ∨ S b), by omega, by rw [HT.out], by go_num, b5, hg', (fun x h => Or.elim h (hSM x) (fun h => h)), by rw [HT.out, HTm.out]; exact HO.out⟩
            case measure => simp [RowKit.intOf]; omega
          · obtain rfl : i = gs.length := by omega
            have y1 : ¬ (gs.length : Int) < gs.length := by omega
            rw [List.take_length] at oj ⊢
            have hgl := (oj.lt (g := g) rfl).2
            obtain ⟨sa, sc, sb, so, he, hdd, hls⟩ := own_listS oj
            cases he
            have HLS : Hid (liesM false wx (fun x => S x ∨ New wr wx x) (catL gs) sb so) := liesM_keep (fun h => h) (fun _ _ => rfl) (fun x hx => hx.elim (fun h => .inl (hSM x h)) (fun h => by cases h; exact .inr ⟨hg, hgl⟩)) _ hls
            clear oj hls
            go_wp2_with fail
            go_ret
            exact ⟨_, _, sb, so, rfl, hdd, HLS.out, bx⟩
end YthgfomblodhoaaaDoor
end Go.Proofs
