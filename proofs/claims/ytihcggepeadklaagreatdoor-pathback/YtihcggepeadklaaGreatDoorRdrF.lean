import Derived.Test.YtihcggepeadklaaGreatDoorRdrE
/- path's reader: key. -/
set_option linter.unusedSimpArgs false
set_option linter.unusedVariables false
namespace Go.Proofs.YtihcggepeadklaaGreatDoor
open Go.RowKit Go.Lib
theorem RdP.own {g : Nat} {s : ByteArray} {w W W' : World} {k : Nat} {row : Option Nat} (h : RdP g s w W k) (hg : g < w.heap.size) (gr : W.grownBy W' row) (hr : ∀ r, row = some r → w.heap.size ≤ r) : RdP g s w W' k :=
  ⟨h.le, (gr.block g h.pb.lt (fun e => by have := hr g e.symm; omega)).trans h.pb, gr.os.trans h.gr.os, gr.tape.trans h.gr.tape, gr.output.trans h.gr.output, Nat.le_trans h.gr.size gr.size, fun i hi hne => (gr.block i (Nat.lt_of_lt_of_le hi h.gr.size) (fun e => by have := hr i e.symm; omega)).trans (h.gr.block i hi hne)⟩
theorem RdP.allo {g : Nat} {s : ByteArray} {w W : World} {k : Nat} (h : RdP g s w W k) (o : Obj) : RdP g s w (W.alloc o) k :=
  have b : Below W.heap.size W (W.alloc o) := (Below.refl _ _).alloc (Nat.le_refl _) _
  ⟨h.le, h.pb.keep b, grown_trans h.gr (grown_belowS b g)⟩
/-- members were read, or not -/
def KeP (R : Option (List Mem × Nat)) (g : Nat) (s : ByteArray) (w : World) (e : Ending) (w' : World) : Prop :=
  (∃ m k1 am cm bm om, R = some (m, k1) ∧ e = .returned (.tuple #[.slice am m.length cm, .bool true]) ∧ Headed am m.length cm bm om ∧ liesM false w' (New w w') m bm om ∧ RdP g s w w' k1) ∨ (R = none ∧ ∃ k1, e = .returned (.tuple #[.slice none 0 0, .bool false]) ∧ RdP g s w w' k1)
theorem key_1 {l : List UInt8} {n k : Nat} {acc : List Mem} (h : memF l k = none) : keyF l (n + 1) k acc = none := by rw [keyF, h]
theorem key_2 {l : List UInt8} {n k k1 : Nat} {acc : List Mem} {m : Mem} (h : memF l k = some (m, k1)) (h2 : tkB l k1 [93] = true) : keyF l (n + 1) k acc = some (acc ++ [m], k1 + 1) := by rw [keyF, h]; dsimp only; rw [if_pos h2]
theorem key_3 {l : List UInt8} {n k k1 : Nat} {acc : List Mem} {m : Mem} (h : memF l k = some (m, k1)) (h2 : tkB l k1 [93] = false) (h3 : tkB l k1 [44] = true) : keyF l (n + 1) k acc = keyF l n (k1 + 1) (acc ++ [m]) := by rw [keyF, h]; dsimp only; rw [if_neg (by rw [h2]; decide), if_pos h3]
theorem key_4 {l : List UInt8} {n k k1 : Nat} {acc : List Mem} {m : Mem} (h : memF l k = some (m, k1)) (h2 : tkB l k1 [93] = false) (h3 : tkB l k1 [44] = false) : keyF l (n + 1) k acc = none := by rw [keyF, h]; dsimp only; rw [if_neg (by rw [h2]; decide), if_neg (by rw [h3]; decide)]
theorem lies_sca {vk : Int} {vb : Bool} {vi : Int} {vs : ByteArray} (h1 : In64 vk) (h2 : In64 vi) (h3 : vs.size ≤ maxLen) (w : World) (S : Nat → Prop) : V.lies false w S (.mk vk vb vi vs [] []) [.int .i64 vk, .bool vb, .int .i64 vi, .string vs, .slice none 0 0, .slice none 0 0] := by
  have H : Headed none 0 0 0 0 := ⟨Nat.le_refl _, Nat.zero_le _, .inl rfl, fun _ => rfl⟩
  rw [V.lies]
  exact ⟨none, 0, 0, 0, none, 0, 0, 0, rfl, h1, h2, h3, H, H, by rw [liesL]; trivial, by rw [liesM]; trivial, fun h => by cases h⟩
set_option maxHeartbeats 8000000 in
set_option maxRecDepth 100000 in
theorem pkey_any (g : Nat) (s : ByteArray) (k : Nat) (w : World) (h : PB g s k w) (t : Td w) (hs : s.size ≤ 140737488355000) (hk : k ≤ s.size) (hg : 9 < g) :
    Calls Tryz.prog 71 #[.pointer (some ⟨g, 0, none⟩)] w (KeP (keyF s.data.toList 8 k []) g s w) := by
  have hlt := h.lt
  have HT := hmk t
  have HTd : Hid (∀ W k', RdP g s w W k' → Td W) := fun W k' r => HT.out.grown r.gr hg
  have CM : Hid (∀ W k1, PB g s k1 W → Td W → k1 ≤ s.size → Calls Tryz.prog 111 #[.pointer (some ⟨g, 0, none⟩)] W (MeP (memF s.data.toList k1) g s W)) := fun W k1 hW tW hk1 => pmember_any g s k1 W hW tW hs hk1 hg
  have CB : Hid (∀ W k1, PB g s k1 W → k1 ≤ s.size → Calls Tryz.prog 68 #[.pointer (some ⟨g, 0, none⟩), .string ⟨#[93]⟩] W (TkP s.data.toList k1 [93] 1 g s W)) := fun W k1 hW hk1 => ptk g s _ k1 _ 1 W hW hs hk1 rfl rfl (by decide) (by decide)
  have CC : Hid (∀ W k1, PB g s k1 W → k1 ≤ s.size → Calls Tryz.prog 68 #[.pointer (some ⟨g, 0, none⟩), .string ⟨#[44]⟩] W (TkP s.data.toList k1 [44] 1 g s W)) := fun W k1 hW hk1 => ptk g s _ k1 _ 1 W hW hs hk1 rfl rfl (by decide) (by decide)
  obtain ⟨i1, hi1, hy0, hy1, hy2⟩ := info_parts info44
  have hJ : Hid (Tryz.prog.info? 50 = some i1 ∧ i1.zero = some (.agg #[.string ⟨#[]⟩, .int .i64 0, .bool false, .int .i64 0, .string ⟨#[]⟩, .slice none 0 0, .slice none 0 0]) ∧ i1.size = 7 ∧ i1.bytes = 104) := ⟨hi1, hy0, hy1, hy2⟩
  have HKG : Hid (∀ (W W' : World) (S : Nat → Prop) (v : Value) (l : List (Option Mem)), OwnM false W w.heap.size S v l → W.grownBy W' (some g) → OwnM false W' w.heap.size S v l) := fun W W' S v l o gr => o.keep (keepM false) gr (fun r e => by
    cases e
    exact ⟨fun hS => by have := (o.off g hS).1; omega, fun e => by have := (o.lt e).1; omega⟩)
  have r0 : RdP g s w w k := ⟨hk, h, World.grownBy.refl _ _⟩
  clear h t hi1 hy0 hy1 hy2 HT
  go_enter Tryz.func71, Tryz.ntmps71
  go_wp2_with fail
  go_loopw [4, 7] (fun e4 e7 wq => ∃ (i : Nat) (acc : List Mem) (kk : Nat) (smv : Value) (SM : Nat → Prop), i ≤ 8 ∧ acc.length = i ∧ e7 = .int .i64 (i : Int) ∧ e4 = smv ∧ Hid (keyF s.data.toList 8 k [] = keyF s.data.toList (8 - i) kk acc) ∧ RdP g s w wq kk ∧ OwnM false wq w.heap.size SM smv (acc.map some)) (fun _ e7 _ => 8 - (RowKit.intOf e7).toNat)
  case atStart => exact ⟨0, [], k, _, _, by omega, rfl, rfl, rfl, hmk rfl, r0, OwnR.nil _ _⟩
  case round =>
    clear r0
    obtain ⟨i, acc, kk, smv, SM, hi, hacc, rfl, rfl, HF, rj, oj⟩ := hrel
    have HAC := hmk hacc
    clear hacc
    by_cases hil : i < 8
    · have y8 : (i : Int) < 8 := by omega
      have e8 : 8 - i = (7 - i) + 1 := by omega
      rw [e8] at HF
      clear e8
      go_wp2_with fail
      refine (CM.out _ _ rj.pb (HTd.out _ _ rj) rj.le).mono ?_
      rintro e w1 (⟨nm, vk, vb, vi, vs, k1, hm, rfl, i0, i1', i2, i3, r1⟩ | ⟨hm, nm, vk, vb, vi, vs, k1, rfl, r1⟩)
      case inr =>
        have R2 := (rj.trans r1).allo (.cells #[.string nm, .int .i64 vk, .bool vb, .int .i64 vi, .string vs, .slice none 0 0, .slice none 0 0] 50)
        have HM := hmk hm
        clear hm rj r1 oj
        go_wp2_with fail
        go_ret2
        exact .inr ⟨by rw [HF.out, key_1 HM.out], k1, rfl, R2⟩
      have HM := hmk hm
      have HEM : Hid (∀ W, EM false (some (nm, V.mk vk vb vi vs [] [])) W (fun _ => False) [.string nm, .int .i64 vk, .bool vb, .int .i64 vi, .string vs, .slice none 0 0, .slice none 0 0]) := fun W => ⟨_, rfl, i0, lies_sca i1' i2 i3 _ _⟩
      have R2 := ((rj.trans r1).allo (.cells #[.string nm, .int .i64 vk, .bool vb, .int .i64 vi, .string vs, .slice none 0 0, .slice none 0 0] 50)).allo (.cells #[.string nm, .int .i64 vk, .bool vb, .int .i64 vi, .string vs, .slice none 0 0, .slice none 0 0] 50)
      have o2 := ((HKG.out _ _ _ _ _ oj r1.gr).alloc (keepM false) (.cells #[.string nm, .int .i64 vk, .bool vb, .int .i64 vi, .string vs, .slice none 0 0, .slice none 0 0] 50)).alloc (keepM false) (.cells #[.string nm, .int .i64 vk, .bool vb, .int .i64 vi, .string vs, .slice none 0 0, .slice none 0 0] 50)
      have hb2 : w.heap.size ≤ ((w1.alloc (.cells #[.string nm, .int .i64 vk, .bool vb, .int .i64 vi, .string vs, .slice none 0 0, .slice none 0 0] 50)).alloc (.cells #[.string nm, .int .i64 vk, .bool vb, .int .i64 vi, .string vs, .slice none 0 0, .slice none 0 0] 50)).heap.size := R2.gr.size
      have hrow : ∀ r, u4.ownBlock = some r → w.heap.size ≤ r := fun r e => (oj.lt e).1
      clear hm i0 i1' i2 i3 oj
      go_wp2_with (at_builtin; go_loud (refine wpl_push (keepM false) _ rfl (.tmp 16) (.tmp 18) 43 rfl w.heap.size i1 _ 104 Tryz.underlying43 hJ.out.1 hJ.out.2.1 hJ.out.2.2.1 hJ.out.2.2.2 rfl (by decide) (by decide) u4 (some (nm, V.mk vk vb vi vs [] [])) rfl o2 (w1.heap.size + 1) 1 (0, 0) rfl (alloc2_new w1 _ _) rfl one7 (HEM.out _) (fun b hb => False.elim hb) (by rw [List.length_map]; have := HAC.out; omega) hb2 ?_))
      intro g' cap w5 o5 g5 e5
      have R5 := R2.own hlt g5 hrow
      have HA5 : Hid (acc.map some ++ [some (nm, V.mk vk vb vi vs [] [])] = (acc ++ [(nm, V.mk vk vb vi vs [] [])]).map some) := by show _ = _; rw [List.map_append]; rfl
      rw [HA5.out] at o5
      clear o2 R2 g5 e5 rj r1 hb2 hrow
      go_wp2_with fail
      refine (CB.out _ _ R5.pb R5.le).mono ?_
      rintro e w6 (⟨hT, rfl, r6⟩ | ⟨hT, rfl, r6⟩)
      · have HB := hmk hT
        have R6 := R5.trans r6
        have o6 := HKG.out _ _ _ _ _ o5 r6.gr
        obtain ⟨sa, sc, sb, so, hu, hd, hls⟩ := own_listM0 (T := New w w6) o6 (fun b hb => ⟨(o6.off b hb).1, (o6.off b hb).2.1⟩) (fun g hg => o6.lt hg)
        have HU := hmk hu
        have HD := hmk hd
        have HL := hmk hls
        clear hT r6 R5 o5 o6 hu hd hls
        go_wp2_with fail
        go_ret2
        exact .inl ⟨acc ++ [(nm, V.mk vk vb vi vs [] [])], k1 + 1, sa, sc, sb, so, by rw [HF.out, key_2 HM.out HB.out], by rw [HU.out]; rfl, HD.out, HL.out, R6⟩
      have HB := hmk hT
      have R6 := R5.trans r6
      have o6 := HKG.out _ _ _ _ _ o5 r6.gr
      clear hT r6 R5 o5
      go_wp2_with fail
      refine (CC.out _ _ R6.pb R6.le).mono ?_
      rintro e w7 (⟨hT, rfl, r7⟩ | ⟨hT, rfl, r7⟩)
      · have HC := hmk hT
        have R7 := R6.trans r7
        have o7 := HKG.out _ _ _ _ _ o6 r7.gr
        clear hT r7 R6 o6
        go_wp2_with fail
        go_roundw
        case rel => exact ⟨i + 1, acc ++ [(nm, V.mk vk vb vi vs [] [])], k1 + 1, _, _, by omega, by rw [List.length_append, HAC.out]; rfl, by go_num, rfl, hmk (by rw [HF.out, key_3 HM.out HB.out HC.out]; congr 1; omega), R7, o7⟩
        case measure => simp [RowKit.intOf]; omega
      · have HC := hmk hT
        have R7 := R6.trans r7
        clear hT r7 R6 o6
        go_wp2_with fail
        go_ret2
        exact .inr ⟨by rw [HF.out, key_4 HM.out HB.out HC.out], k1, rfl, R7⟩
    · obtain rfl : i = 8 := by omega
      clear oj
      go_wp2_with fail
      go_ret2
      exact .inr ⟨HF.out, kk, rfl, rj⟩
end Go.Proofs.YtihcggepeadklaaGreatDoor
