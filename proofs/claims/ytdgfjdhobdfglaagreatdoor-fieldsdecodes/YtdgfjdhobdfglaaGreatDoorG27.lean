/- joined: RdrF RdrG -/
import Derived.Test.YtdgfjdhobdfglaaGreatDoorG26
set_option linter.unusedSimpArgs false
set_option linter.unusedVariables false
set_option maxRecDepth 100000
namespace Go.Proofs.YtdgfjdhobdfglaaGreatDoor
open Go.RowKit Go.Lib
theorem RdP.own {g : Nat} {s : ByteArray} {w W W' : World} {k : Nat} {row : Option Nat} (h : RdP g s w W k) (hg : g < w.heap.size) (gr : W.grownBy W' row) (hr : ∀ r, row = some r -> w.heap.size <= r) : RdP g s w W' k :=
 ⟨h.le, (gr.block g h.pb.lt (fun e => by have := hr g e.symm; omega)).trans h.pb, gr.os.trans h.gr.os, gr.tape.trans h.gr.tape, gr.output.trans h.gr.output, Nat.le_trans h.gr.size gr.size, fun i hi hne => (gr.block i (Nat.lt_of_lt_of_le hi h.gr.size) (fun e => by have := hr i e.symm; omega)).trans (h.gr.block i hi hne)⟩
theorem RdP.allo {g : Nat} {s : ByteArray} {w W : World} {k : Nat} (h : RdP g s w W k) (o : Obj) : RdP g s w (W.alloc o) k :=
 have b : Below W.heap.size W (W.alloc o) := (Below.refl _ _).alloc (Nat.le_refl _) _
 ⟨h.le, h.pb.keep b, grown_trans h.gr (grown_belowS b g)⟩
def KeP (R : Option (List Mem × Nat)) (g : Nat) (s : ByteArray) (w : World) (e : Ending) (w' : World) : Prop :=
 (∃ m k1 am cm bm om, R = some (m, k1) /\ e = .returned (.tuple #[.slice am m.length cm, .bool true]) /\ Headed am m.length cm bm om /\ liesM false w' (New w w') m bm om /\ RdP g s w w' k1) \/ (R = none /\ ∃ k1, e = .returned (.tuple #[.slice none 0 0, .bool false]) /\ RdP g s w w' k1)
theorem key_1 {l : List UInt8} {n k : Nat} {acc : List Mem} (h : memF l k = none) : keyF l (n + 1) k acc = none := by rw [keyF, h]
theorem key_2 {l : List UInt8} {n k k1 : Nat} {acc : List Mem} {m : Mem} (h : memF l k = some (m, k1)) (h2 : tkB l k1 [93] = true) : keyF l (n + 1) k acc = some (acc ++ [m], k1 + 1) := by rw [keyF, h]; dsimp only; rw [if_pos h2]
theorem key_3 {l : List UInt8} {n k k1 : Nat} {acc : List Mem} {m : Mem} (h : memF l k = some (m, k1)) (h2 : tkB l k1 [93] = false) (h3 : tkB l k1 [44] = true) : keyF l (n + 1) k acc = keyF l n (k1 + 1) (acc ++ [m]) := by rw [keyF, h]; dsimp only; rw [if_neg (by rw [h2]; decide), if_pos h3]
theorem key_4 {l : List UInt8} {n k k1 : Nat} {acc : List Mem} {m : Mem} (h : memF l k = some (m, k1)) (h2 : tkB l k1 [93] = false) (h3 : tkB l k1 [44] = false) : keyF l (n + 1) k acc = none := by rw [keyF, h]; dsimp only; rw [if_neg (by rw [h2]; decide), if_neg (by rw [h3]; decide)]
theorem lies_sca {vk : Int} {vb : Bool} {vi : Int} {vs : ByteArray} (h1 : In64 vk) (h2 : In64 vi) (h3 : vs.size <= maxLen) (w : World) (S : Nat -> Prop) : V.lies false w S (.mk vk vb vi vs [] []) [.int .i64 vk, .bool vb, .int .i64 vi, .string vs, .slice none 0 0, .slice none 0 0] := by
 have H : Headed none 0 0 0 0 := ⟨Nat.le_refl _, Nat.zero_le _, .inl rfl, fun _ => rfl⟩
 rw [V.lies]
 exact ⟨none, 0, 0, 0, none, 0, 0, 0, rfl, h1, h2, h3, H, H, by rw [liesL]; trivial, by rw [liesM]; trivial, fun h => by cases h⟩
set_option maxHeartbeats 8000000 in
theorem pkey_any (g : Nat) (s : ByteArray) (k : Nat) (w : World) (h : PB g s k w) (t : Td w) (hs : s.size <= 140737488355000) (hk : k <= s.size) (hg : 9 < g) :
 Calls Tryz.prog 93 #[.pointer (some ⟨g, 0, none⟩)] w (KeP (keyF s.data.toList 8 k []) g s w) := by
 have hlt := h.lt
 have HT := hmk t
 have HTd : Hid (∀ W k', RdP g s w W k' -> Td W) := fun W k' r => HT.out.grown r.gr hg
 have CM : Hid (∀ W k1, PB g s k1 W -> Td W -> k1 <= s.size -> Calls Tryz.prog 124 #[.pointer (some ⟨g, 0, none⟩)] W (MeP (memF s.data.toList k1) g s W)) := fun W k1 hW tW hk1 => pmember_any g s k1 W hW tW hs hk1 hg
 have CB : Hid (∀ W k1, PB g s k1 W -> k1 <= s.size -> Calls Tryz.prog 90 #[.pointer (some ⟨g, 0, none⟩), .string ⟨#[93]⟩] W (TkP s.data.toList k1 [93] 1 g s W)) := fun W k1 hW hk1 => ptk g s _ k1 _ 1 W hW hs hk1 rfl rfl (by decide) (by decide)
 have CC : Hid (∀ W k1, PB g s k1 W -> k1 <= s.size -> Calls Tryz.prog 90 #[.pointer (some ⟨g, 0, none⟩), .string ⟨#[44]⟩] W (TkP s.data.toList k1 [44] 1 g s W)) := fun W k1 hW hk1 => ptk g s _ k1 _ 1 W hW hs hk1 rfl rfl (by decide) (by decide)
 obtain ⟨i1, hi1, hy0, hy1, hy2⟩ := info_parts info44
 have hJ : Hid (Tryz.prog.info? 40 = some i1 /\ i1.zero = some (.agg #[.string ⟨#[]⟩, .int .i64 0, .bool false, .int .i64 0, .string ⟨#[]⟩, .slice none 0 0, .slice none 0 0]) /\ i1.size = 7 /\ i1.bytes = 104) := ⟨hi1, hy0, hy1, hy2⟩
 have HKG : Hid (∀ (W W' : World) (S : Nat -> Prop) (v : Value) (l : List (Option Mem)), OwnM false W w.heap.size S v l -> W.grownBy W' (some g) -> OwnM false W' w.heap.size S v l) := fun W W' S v l o gr => o.keep (keepM false) gr (fun r e => by
  cases e
  exact ⟨fun hS => by have := (o.off g hS).1; omega, fun e => by have := (o.lt e).1; omega⟩)
 have r0 : RdP g s w w k := ⟨hk, h, World.grownBy.refl _ _⟩
 clear h t hi1 hy0 hy1 hy2 HT
 go_enter Tryz.func93, Tryz.ntmps93
 go_wp2_with fail
 go_loopw [4, 7] (fun e4 e7 wq => ∃ (i : Nat) (acc : List Mem) (kk : Nat) (smv : Value) (SM : Nat -> Prop), i <= 8 /\ acc.length = i /\ e7 = .int .i64 (i : Int) /\ e4 = smv /\ Hid (keyF s.data.toList 8 k [] = keyF s.data.toList (8 - i) kk acc) /\ RdP g s w wq kk /\ OwnM false wq w.heap.size SM smv (acc.map some)) (fun _ e7 _ => 8 - (RowKit.intOf e7).toNat)
 case atStart => exact ⟨0, [], k, _, _, by omega, rfl, rfl, rfl, hmk rfl, r0, OwnR.nil _ _⟩
 case round =>
  clear r0
  obtain ⟨i, acc, kk, smv, SM, hi, hacc, rfl, rfl, HF, rj, oj⟩ := hrel
  have HAC := hmk hacc
  clear hacc
  by_cases hil : i < 8
  ·have y8 : (i : Int) < 8 := by omega
   have e8 : 8 - i = (7 - i) + 1 := by omega
   rw [e8] at HF
   clear e8
   go_wp2_with fail
   refine (CM.out _ _ rj.pb (HTd.out _ _ rj) rj.le).mono ?_
   rintro e w1 (⟨nm, vk, vb, vi, vs, k1, hm, rfl, i0, i1', i2, i3, r1⟩ | ⟨hm, nm, vk, vb, vi, vs, k1, rfl, r1⟩)
   case inr =>
    have R2 := (rj.trans r1).allo (.cells #[.string nm, .int .i64 vk, .bool vb, .int .i64 vi, .string vs, .slice none 0 0, .slice none 0 0] 40)
    have HM := hmk hm
    clear hm rj r1 oj
    go_wp2_with fail
    go_ret2
    exact .inr ⟨by rw [HF.out, key_1 HM.out], k1, rfl, R2⟩
   have HM := hmk hm
   have HEM : Hid (∀ W, EM false (some (nm, V.mk vk vb vi vs [] [])) W (fun _ => False) [.string nm, .int .i64 vk, .bool vb, .int .i64 vi, .string vs, .slice none 0 0, .slice none 0 0]) := fun W => ⟨_, rfl, i0, lies_sca i1' i2 i3 _ _⟩
   have R2 := ((rj.trans r1).allo (.cells #[.string nm, .int .i64 vk, .bool vb, .int .i64 vi, .string vs, .slice none 0 0, .slice none 0 0] 40)).allo (.cells #[.string nm, .int .i64 vk, .bool vb, .int .i64 vi, .string vs, .slice none 0 0, .slice none 0 0] 40)
   have o2 := ((HKG.out _ _ _ _ _ oj r1.gr).alloc (keepM false) (.cells #[.string nm, .int .i64 vk, .bool vb, .int .i64 vi, .string vs, .slice none 0 0, .slice none 0 0] 40)).alloc (keepM false) (.cells #[.string nm, .int .i64 vk, .bool vb, .int .i64 vi, .string vs, .slice none 0 0, .slice none 0 0] 40)
   have hb2 : w.heap.size <= ((w1.alloc (.cells #[.string nm, .int .i64 vk, .bool vb, .int .i64 vi, .string vs, .slice none 0 0, .slice none 0 0] 40)).alloc (.cells #[.string nm, .int .i64 vk, .bool vb, .int .i64 vi, .string vs, .slice none 0 0, .slice none 0 0] 40)).heap.size := R2.gr.size
   have hrow : ∀ r, u4.ownBlock = some r -> w.heap.size <= r := fun r e => (oj.lt e).1
   clear hm i0 i1' i2 i3 oj
   go_wp2_with (at_builtin; go_loud (refine wpl_push (keepM false) _ rfl (.tmp 16) (.tmp 18) 23 rfl w.heap.size i1 _ 104 Tryz.underlying23 hJ.out.1 hJ.out.2.1 hJ.out.2.2.1 hJ.out.2.2.2 rfl (by decide) (by decide) u4 (some (nm, V.mk vk vb vi vs [] [])) rfl o2 (w1.heap.size + 1) 1 (0, 0) rfl (alloc2_new w1 _ _) rfl one7 (HEM.out _) (fun b hb => False.elim hb) (by rw [List.length_map]; have := HAC.out; omega) hb2 ?_))
   intro g' cap w5 o5 g5 e5
   have R5 := R2.own hlt g5 hrow
   have HA5 : Hid (acc.map some ++ [some (nm, V.mk vk vb vi vs [] [])] = (acc ++ [(nm, V.mk vk vb vi vs [] [])]).map some) := by show _ = _; rw [List.map_append]; rfl
   rw [HA5.out] at o5
   clear o2 R2 g5 e5 rj r1 hb2 hrow
   go_wp2_with fail
   refine (CB.out _ _ R5.pb R5.le).mono ?_
   rintro e w6 (⟨hT, rfl, r6⟩ | ⟨hT, rfl, r6⟩)
   ·have HB := hmk hT
    have R6 := R5.trans r6
    have o6 := HKG.out _ _ _ _ _ o5 r6.gr
    obtain ⟨sa, sc, sb, so, hu, hd, hls⟩ := own_listM0 (T := New w w6) o6 (fun b hb => ⟨(o6.off b hb).1, (o6.off b hb).2.1⟩) (fun g hg => o6.lt hg)
    have HU := hmk hu
    have HD := hmk hd
    have HL := hmk hls
    clear hT r6 R5 o5 o6 hu hd hls
    go_wp2_with fail
    go_ret2
    exact .inl ⟨acc ++ [(nm, V.mk vk vb vi vs [] [])], k1 + 1, sa, sc, sb, so, by rw [HF.out, key_2 HM.out HB.out], by rw [HU.out]; rfl, HD.out, HL.out, R6⟩
   have HB := hmk hT
   have R6 := R5.trans r6
   have o6 := HKG.out _ _ _ _ _ o5 r6.gr
   clear hT r6 R5 o5
   go_wp2_with fail
   refine (CC.out _ _ R6.pb R6.le).mono ?_
   rintro e w7 (⟨hT, rfl, r7⟩ | ⟨hT, rfl, r7⟩)
   ·have HC := hmk hT
    have R7 := R6.trans r7
    have o7 := HKG.out _ _ _ _ _ o6 r7.gr
    clear hT r7 R6 o6
    go_wp2_with fail
    go_roundw
    case rel => exact ⟨i + 1, acc ++ [(nm, V.mk vk vb vi vs [] [])], k1 + 1, _, _, by omega, by rw [List.length_append, HAC.out]; rfl, by go_num, rfl, hmk (by rw [HF.out, key_3 HM.out HB.out HC.out]; congr 1; omega), R7, o7⟩
    case measure => simp [RowKit.intOf]; omega
   ·have HC := hmk hT
    have R7 := R6.trans r7
    clear hT r7 R6 o6
    go_wp2_with fail
    go_ret2
    exact .inr ⟨by rw [HF.out, key_4 HM.out HB.out HC.out], k1, rfl, R7⟩
  ·obtain rfl : i = 8 := by omega
   clear oj
   go_wp2_with fail
   go_ret2
   exact .inr ⟨HF.out, kk, rfl, rj⟩
end Go.Proofs.YtdgfjdhobdfglaaGreatDoor
set_option maxRecDepth 100000
namespace Go.Proofs.YtdgfjdhobdfglaaGreatDoor
open Go.RowKit Go.Lib
abbrev z48 : Obj := .cells #[.int .i64 0, .string ⟨#[]⟩, .slice none 0 0, .int .i64 0, .bool false, .int .i64 0, .string ⟨#[]⟩, .slice none 0 0, .slice none 0 0] 52
def EmP (R : Option (El × Nat)) (g : Nat) (s : ByteArray) (w : World) (e : Ending) (w' : World) : Prop :=
 (∃ x k1 cs, R = some (x, k1) /\ e = .returned (.tuple #[.agg cs.toArray, .bool true]) /\ x.lies w' (New w w') cs /\ RdP g s w w' k1) \/ (R = none /\ ∃ ek es ea en ec fk fb fi fs fa fn fc ga gn gc k1, e = .returned (.tuple #[.agg #[.int .i64 ek, .string es, .slice ea en ec, .int .i64 fk, .bool fb, .int .i64 fi, .string fs, .slice fa fn fc, .slice ga gn gc], .bool false]) /\ RdP g s w w' k1)
theorem st9_grownZ (W : World) (g : Nat) (v0 v1 v2 v3 v4 v5 v6 v7 v8 : Value) : W.grownBy (((((((((W.setCell ⟨g, 0, none⟩ v0).setCell ⟨g, 1, none⟩ v1).setCell ⟨g, 2, none⟩ v2).setCell ⟨g, 3, none⟩ v3).setCell ⟨g, 4, none⟩ v4).setCell ⟨g, 5, none⟩ v5).setCell ⟨g, 6, none⟩ v6).setCell ⟨g, 7, none⟩ v7).setCell ⟨g, 8, none⟩ v8) (some g) :=
 grown_set (grown_set (grown_set (grown_set (grown_set (grown_set (grown_set (grown_set (grown_set (World.grownBy.refl _ _) _ _) _ _) _ _) _ _) _ _) _ _) _ _) _ _) _ _
theorem RdP.box9 {g : Nat} {s : ByteArray} {w W : World} {k r : Nat} (h : RdP g s w W k) (hr : w.heap.size <= r) (hg : g < w.heap.size) (v0 v1 v2 v3 v4 v5 v6 v7 v8 : Value) : RdP g s w (((((((((W.setCell ⟨r, 0, none⟩ v0).setCell ⟨r, 1, none⟩ v1).setCell ⟨r, 2, none⟩ v2).setCell ⟨r, 3, none⟩ v3).setCell ⟨r, 4, none⟩ v4).setCell ⟨r, 5, none⟩ v5).setCell ⟨r, 6, none⟩ v6).setCell ⟨r, 7, none⟩ v7).setCell ⟨r, 8, none⟩ v8) k :=
 h.far hr hg (st9_grownZ W r v0 v1 v2 v3 v4 v5 v6 v7 v8)
theorem headN : Headed none 0 0 0 0 := ⟨Nat.le_refl _, Nat.zero_le _, .inl rfl, fun _ => rfl⟩
theorem lies_fld {nm : ByteArray} (h : nm.size <= maxLen) (w : World) (S : Nat -> Prop) : El.lies w S ⟨1, nm, [], nilW⟩ [.int .i64 1, .string nm, .slice none 0 0, .int .i64 0, .bool false, .int .i64 0, .string ⟨#[]⟩, .slice none 0 0, .slice none 0 0] :=
 ⟨none, 0, 0, 0, _, rfl, ⟨by show (-9223372036854775808 : Int) <= 1; omega, by show (1 : Int) <= 9223372036854775807; omega⟩, h, headN, by show liesM false w S [] 0 0; rw [liesM]; trivial, lies_sca In64.zero In64.zero (Nat.zero_le _) _ _⟩
theorem lies_itm {vk : Int} {vb : Bool} {vi : Int} {vs : ByteArray} (h1 : In64 vk) (h2 : In64 vi) (h3 : vs.size <= maxLen) (w : World) (S : Nat -> Prop) : El.lies w S ⟨3, ⟨#[]⟩, [], .mk vk vb vi vs [] []⟩ [.int .i64 3, .string ⟨#[]⟩, .slice none 0 0, .int .i64 vk, .bool vb, .int .i64 vi, .string vs, .slice none 0 0, .slice none 0 0] :=
 ⟨none, 0, 0, 0, _, rfl, ⟨by show (-9223372036854775808 : Int) <= 3; omega, by show (3 : Int) <= 9223372036854775807; omega⟩, Nat.zero_le _, headN, by show liesM false w S [] 0 0; rw [liesM]; trivial, lies_sca h1 h2 h3 _ _⟩
theorem lies_key {m : List Mem} {am : Option Addr} {cm bm om : Nat} {w : World} {S : Nat -> Prop} (h1 : Headed am m.length cm bm om) (h2 : liesM false w S m bm om) : El.lies w S ⟨2, ⟨#[]⟩, m, nilW⟩ [.int .i64 2, .string ⟨#[]⟩, .slice am m.length cm, .int .i64 0, .bool false, .int .i64 0, .string ⟨#[]⟩, .slice none 0 0, .slice none 0 0] :=
 ⟨am, cm, bm, om, _, rfl, ⟨by show (-9223372036854775808 : Int) <= 2; omega, by show (2 : Int) <= 9223372036854775807; omega⟩, Nat.zero_le _, h1, h2, lies_sca In64.zero In64.zero (Nat.zero_le _) _ _⟩
theorem elm_1 {l : List UInt8} {k : Nat} (h : tkB l k [46] = true) : elmF l k = (namF l (k + 1)).map (fun x => (⟨1, x.1, [], nilW⟩, x.2)) := by rw [elmF, if_pos h]
theorem elm_2 {l : List UInt8} {k : Nat} (h : tkB l k [46] = false) (h2 : tkB l k [91, 61] = true) (h3 : scaF l (k + 2) = none) : elmF l k = none := by rw [elmF, if_neg (by rw [h]; decide), if_pos h2, h3]
theorem elm_3 {l : List UInt8} {k k1 : Nat} {v : V} (h : tkB l k [46] = false) (h2 : tkB l k [91, 61] = true) (h3 : scaF l (k + 2) = some (v, k1)) (h4 : tkB l k1 [93] = true) : elmF l k = some (⟨3, ⟨#[]⟩, [], v⟩, k1 + 1) := by rw [elmF, if_neg (by rw [h]; decide), if_pos h2, h3]; dsimp only; rw [if_pos h4]
theorem elm_4 {l : List UInt8} {k k1 : Nat} {v : V} (h : tkB l k [46] = false) (h2 : tkB l k [91, 61] = true) (h3 : scaF l (k + 2) = some (v, k1)) (h4 : tkB l k1 [93] = false) : elmF l k = none := by rw [elmF, if_neg (by rw [h]; decide), if_pos h2, h3]; dsimp only; rw [if_neg (by rw [h4]; decide)]
theorem elm_5 {l : List UInt8} {k : Nat} (h : tkB l k [46] = false) (h2 : tkB l k [91, 61] = false) (h3 : tkB l k [91] = true) : elmF l k = (keyF l 8 (k + 1) []).map (fun x => (⟨2, ⟨#[]⟩, x.1, nilW⟩, x.2)) := by rw [elmF, if_neg (by rw [h]; decide), if_neg (by rw [h2]; decide), if_pos h3]
theorem elm_6 {l : List UInt8} {k : Nat} (h : tkB l k [46] = false) (h2 : tkB l k [91, 61] = false) (h3 : tkB l k [91] = false) : elmF l k = none := by rw [elmF, if_neg (by rw [h]; decide), if_neg (by rw [h2]; decide), if_neg (by rw [h3]; decide)]
theorem liesM_far {w W : World} {m : List Mem} {bm om : Nat} {w1 W' : World} {r : Nat} (h : liesM false W (New w1 W) m bm om) (h0 : w.heap.size <= w1.heap.size) (hr : r < w1.heap.size) (gr : W.grownBy W' (some r)) : liesM false W' (New w W') m bm om :=
 liesM_keep (fun h => h) (fun b hb => gr.block b hb.2 (fun e => by have := Option.some.inj e; have := hb.1; omega)) (fun b hb => ⟨Nat.le_trans h0 hb.1, Nat.lt_of_lt_of_le hb.2 gr.size⟩) _ h
set_option maxHeartbeats 8000000 in
theorem pelem_any (g : Nat) (s : ByteArray) (k : Nat) (w : World) (h : PB g s k w) (t : Td w) (hs : s.size <= 140737488355000) (hk : k <= s.size) (hg : 9 < g) :
 Calls Tryz.prog 63 #[.pointer (some ⟨g, 0, none⟩)] w (EmP (elmF s.data.toList k) g s w) := by
 have hlt := h.lt
 have bA : Below w.heap.size w (w.alloc z48) := (Below.refl _ _).alloc (Nat.le_refl _) _
 have nb := heap_alloc_new w z48
 have hbsz : w.heap.size < (w.alloc z48).heap.size := by rw [alloc_size]; omega
 have RA : RdP g s w (w.alloc z48) k := ⟨hk, h.keep bA, grown_belowS bA g⟩
 have HT := hmk t
 have KA : Hid (∀ W k', RdP g s (w.alloc z48) W k' -> RdP g s w W k' /\ W.heap[w.heap.size]? = some z48 /\ Td W /\ w.heap.size < W.heap.size) := fun W k' r =>
  ⟨RA.trans r, (r.gr.block _ hbsz (fun e => by have := Option.some.inj e; omega)).trans nb, HT.out.grown (RA.trans r).gr hg, Nat.lt_of_lt_of_le hbsz r.gr.size⟩
 have CD : Hid (∀ W, PB g s k W -> Calls Tryz.prog 90 #[.pointer (some ⟨g, 0, none⟩), .string ⟨#[46]⟩] W (TkP s.data.toList k [46] 1 g s W)) := fun W hW => ptk g s _ k _ 1 W hW hs hk rfl rfl (by decide) (by decide)
 have CE : Hid (∀ W, PB g s k W -> Calls Tryz.prog 90 #[.pointer (some ⟨g, 0, none⟩), .string ⟨#[91, 61]⟩] W (TkP s.data.toList k [91, 61] 2 g s W)) := fun W hW => ptk g s _ k _ 2 W hW hs hk rfl rfl (by decide) (by decide)
 have CO : Hid (∀ W, PB g s k W -> Calls Tryz.prog 90 #[.pointer (some ⟨g, 0, none⟩), .string ⟨#[91]⟩] W (TkP s.data.toList k [91] 1 g s W)) := fun W hW => ptk g s _ k _ 1 W hW hs hk rfl rfl (by decide) (by decide)
 have CB : Hid (∀ W k1, PB g s k1 W -> k1 <= s.size -> Calls Tryz.prog 90 #[.pointer (some ⟨g, 0, none⟩), .string ⟨#[93]⟩] W (TkP s.data.toList k1 [93] 1 g s W)) := fun W k1 hW hk1 => ptk g s _ k1 _ 1 W hW hs hk1 rfl rfl (by decide) (by decide)
 have CN : Hid (∀ W k1, PB g s k1 W -> Td W -> k1 <= s.size -> Calls Tryz.prog 91 #[.pointer (some ⟨g, 0, none⟩)] W (StP (namF s.data.toList k1) g s W)) := fun W k1 hW tW hk1 => pname_any g s k1 W hW tW hs hk1 hg
 have CS : Hid (∀ W k1, PB g s k1 W -> Td W -> k1 <= s.size -> Calls Tryz.prog 92 #[.pointer (some ⟨g, 0, none⟩)] W (ScP (scaF s.data.toList k1) g s W)) := fun W k1 hW tW hk1 => pscalar_any g s k1 W hW tW hs hk1 hg
 have CK : Hid (∀ W k1, PB g s k1 W -> Td W -> k1 <= s.size -> Calls Tryz.prog 93 #[.pointer (some ⟨g, 0, none⟩)] W (KeP (keyF s.data.toList 8 k1 []) g s W)) := fun W k1 hW tW hk1 => pkey_any g s k1 W hW tW hs hk1 hg
 have HNS : Hid (∀ x k0 k1, namF s.data.toList k0 = some (x, k1) -> x.size <= maxLen) := fun x k0 k1 hx => by have := namF_size hx; unfold maxLen; omega
 have PA := RA.pb
 clear h t bA RA nb hbsz
 go_enter Tryz.func63, Tryz.ntmps63
 go_wp2_with fail
 refine (CD.out _ PA).mono ?_
 rintro e w1 (⟨hT1, rfl, r1⟩ | ⟨hT1, rfl, r1⟩)
 ·have H1 := hmk hT1
  obtain ⟨R1, N1, t1, z1⟩ := KA.out w1 _ r1
  have P1 := R1.pb
  have l1 := R1.le
  clear hT1 R1 N1
  go_wp2_with fail
  refine (CN.out _ _ P1 t1 l1).mono ?_
  rintro e w2 (⟨nm, k1, hn, rfl, r2⟩ | ⟨hn, k1, rfl, r2⟩)
  ·have HN := hmk hn
   obtain ⟨R2, N2, t2, z2⟩ := KA.out w2 _ (r1.trans r2)
   clear hn r1 r2 P1 t1
   obtain ⟨q0, q1, q2, q3, q4, q5, q6, q7, q8⟩ := cN9 N2
   have kf : ∀ ii, w2.frozen? ⟨w.heap.size, ii, none⟩ = false := frozen_of_block N2
   have RF := hmk (R2.box9 (Nat.le_refl _) hlt (.int .i64 1) (.string nm) (.slice none 0 0) (.int .i64 0) (.bool false) (.int .i64 0) (.string ⟨#[]⟩) (.slice none 0 0) (.slice none 0 0))
   go_wp2_with fail
   (try simp only [Exit.inBlock, Exit.then])
   refine bodyPost_ret (v := .tuple #[.agg #[.int .i64 1, .string nm, .slice none 0 0, .int .i64 0, .bool false, .int .i64 0, .string ⟨#[]⟩, .slice none 0 0, .slice none 0 0], .bool true]) ?_ rfl (.inl ⟨⟨1, nm, [], nilW⟩, k1, [.int .i64 1, .string nm, .slice none 0 0, .int .i64 0, .bool false, .int .i64 0, .string ⟨#[]⟩, .slice none 0 0, .slice none 0 0], by rw [elm_1 H1.out, HN.out]; rfl, rfl, lies_fld (HNS.out nm _ k1 HN.out) _ _, RF.out⟩)
   rw [results_cell_tmp rfl]
   go_simp
  ·have HN := hmk hn
   obtain ⟨R2, N2, t2, z2⟩ := KA.out w2 _ (r1.trans r2)
   clear hn r1 r2 P1 t1
   obtain ⟨q0, q1, q2, q3, q4, q5, q6, q7, q8⟩ := cN9 N2
   have kf : ∀ ii, w2.frozen? ⟨w.heap.size, ii, none⟩ = false := frozen_of_block N2
   have RF := hmk (R2.box9 (Nat.le_refl _) hlt (.int .i64 1) (.string ⟨#[]⟩) (.slice none 0 0) (.int .i64 0) (.bool false) (.int .i64 0) (.string ⟨#[]⟩) (.slice none 0 0) (.slice none 0 0))
   go_wp2_with fail
   (try simp only [Exit.inBlock, Exit.then])
   refine bodyPost_ret (v := .tuple #[.agg #[.int .i64 1, .string ⟨#[]⟩, .slice none 0 0, .int .i64 0, .bool false, .int .i64 0, .string ⟨#[]⟩, .slice none 0 0, .slice none 0 0], .bool false]) ?_ rfl (.inr ⟨by rw [elm_1 H1.out, HN.out]; rfl, 1, ⟨#[]⟩, none, 0, 0, 0, false, 0, ⟨#[]⟩, none, 0, 0, none, 0, 0, k1, rfl, RF.out⟩)
   rw [results_cell_tmp rfl]
   go_simp
 have H1 := hmk hT1
 have P1 := r1.pb
 clear hT1 PA
 go_wp2_with fail
 refine (CE.out _ P1).mono ?_
 rintro e w2 (⟨hT2, rfl, r2⟩ | ⟨hT2, rfl, r2⟩)
 ·have H2 := hmk hT2
  obtain ⟨R2, N2, t2, z2⟩ := KA.out w2 _ (r1.trans r2)
  have P2 := R2.pb
  have l2 := R2.le
  clear hT2 R2 N2 P1
  go_wp2_with fail
  refine (CS.out _ _ P2 t2 l2).mono ?_
  rintro e w3 (⟨vk, vb, vi, vs, k3, hq, rfl, i1, i2, i3, r3⟩ | ⟨hq, vk, vb, vi, vs, k3, rfl, r3⟩)
  ·have HQ := hmk hq
   have HI := hmk (And.intro i1 (And.intro i2 i3))
   have r4 := (r1.trans r2).trans (r3.allo (.cells #[.int .i64 vk, .bool vb, .int .i64 vi, .string vs, .slice none 0 0, .slice none 0 0] 25))
   have nB := heap_alloc_new w3 (.cells #[.int .i64 vk, .bool vb, .int .i64 vi, .string vs, .slice none 0 0, .slice none 0 0] 25)
   have HZ3a := hmk (KA.out _ _ ((r1.trans r2).trans r3)).1.gr.size
   clear hq i1 i2 i3 r1 r2 r3 P2 t2
   go_wp2_with fail
   generalize (w3.alloc (.cells #[.int .i64 vk, .bool vb, .int .i64 vi, .string vs, .slice none 0 0, .slice none 0 0] 25)) = w4 at *
   have hw34 : w3.heap.size < w4.heap.size := by
    rcases Nat.lt_or_ge w3.heap.size w4.heap.size with h | h
    ·exact h
    ·rw [Array.getElem?_eq_none h] at nB; cases nB
   have HR4 := hmk r4
   have HZ3 : Hid (g < w3.heap.size) := Nat.lt_of_lt_of_le hlt HZ3a.out
   obtain ⟨R4, N4, t4, z4⟩ := KA.out _ _ r4
   obtain ⟨x0, x1, x2, x3, x4, x5⟩ := cN6 nB
   obtain ⟨q0, q1, q2, q3, q4, q5, q6, q7, q8⟩ := cN9 N4
   have kf : ∀ ii, w4.frozen? ⟨w.heap.size, ii, none⟩ = false := frozen_of_block N4
   clear r4 R4 N4 t4 z4
   cases hT : tkB s.data.toList k3 [93] with
   | true =>
    have HB := hmk hT
    have C5 : Hid (∀ W, PB g s k3 W -> Calls Tryz.prog 90 #[.pointer (some ⟨g, 0, none⟩), .string ⟨#[93]⟩] W fun e w' => e = .returned (.bool true) /\ RdP g s W w' (k3 + 1)) := fun W hW => (CB.out W k3 hW HR4.out.le).mono (by
     rintro e w' (⟨h1, h2, h3⟩ | ⟨h1, h2, h3⟩)
     ·exact ⟨h2, h3⟩
     ·rw [HB.out] at h1; cases h1)
    clear hT
    go_region_with (go_at_call 90; refine (C5.out _ HR4.out.drew.pb).mono ?_; rintro e w5 ⟨rfl, r5⟩; have hr5 := (HR4.out.drew).trans r5; obtain ⟨R5, N5, t5, z5⟩ := KA.out w5 _ hr5; have n5 : w5.heap[w3.heap.size]? = some (.cells #[.int .i64 vk, .bool vb, .int .i64 vi, .string vs, .slice none 0 0, .slice none 0 0] 25 (0, 0)) := (r5.gr.block _ hw34 (fun e => by have := Option.some.inj e; have := HZ3.out; omega)).trans nB; have y0 : w5.cell? ⟨w3.heap.size, 0, none⟩ = some (.int .i64 vk) := cell_of_block n5 0; have y1 : w5.cell? ⟨w3.heap.size, 1, none⟩ = some (.bool vb) := cell_of_block n5 1; have y2 : w5.cell? ⟨w3.heap.size, 2, none⟩ = some (.int .i64 vi) := cell_of_block n5 2; have y3 : w5.cell? ⟨w3.heap.size, 3, none⟩ = some (.string vs) := cell_of_block n5 3; have y4 : w5.cell? ⟨w3.heap.size, 4, none⟩ = some (.slice none 0 0) := cell_of_block n5 4; have y5 : w5.cell? ⟨w3.heap.size, 5, none⟩ = some (.slice none 0 0) := cell_of_block n5 5; have p0 : w5.cell? ⟨w.heap.size, 0, none⟩ = some (.int .i64 0) := cell_of_block N5 0; have p1 : w5.cell? ⟨w.heap.size, 1, none⟩ = some (.string ⟨#[]⟩) := cell_of_block N5 1; have p2 : w5.cell? ⟨w.heap.size, 2, none⟩ = some (.slice none 0 0) := cell_of_block N5 2; have p3 : w5.cell? ⟨w.heap.size, 3, none⟩ = some (.int .i64 0) := cell_of_block N5 3; have p4 : w5.cell? ⟨w.heap.size, 4, none⟩ = some (.bool false) := cell_of_block N5 4; have p5 : w5.cell? ⟨w.heap.size, 5, none⟩ = some (.int .i64 0) := cell_of_block N5 5; have p6 : w5.cell? ⟨w.heap.size, 6, none⟩ = some (.string ⟨#[]⟩) := cell_of_block N5 6; have p7 : w5.cell? ⟨w.heap.size, 7, none⟩ = some (.slice none 0 0) := cell_of_block N5 7; have p8 : w5.cell? ⟨w.heap.size, 8, none⟩ = some (.slice none 0 0) := cell_of_block N5 8; have kf5 : ∀ ii, w5.frozen? ⟨w.heap.size, ii, none⟩ = false := frozen_of_block N5)
    all_goals
     have RF := hmk (R5.box9 (Nat.le_refl _) hlt (.int .i64 3) (.string ⟨#[]⟩) (.slice none 0 0) (.int .i64 vk) (.bool vb) (.int .i64 vi) (.string vs) (.slice none 0 0) (.slice none 0 0))
     go_wp2_with fail
     (try simp only [Exit.inBlock, Exit.then])
     refine bodyPost_ret (v := .tuple #[.agg #[.int .i64 3, .string ⟨#[]⟩, .slice none 0 0, .int .i64 vk, .bool vb, .int .i64 vi, .string vs, .slice none 0 0, .slice none 0 0], .bool true]) ?_ rfl (.inl ⟨⟨3, ⟨#[]⟩, [], .mk vk vb vi vs [] []⟩, k3 + 1, [.int .i64 3, .string ⟨#[]⟩, .slice none 0 0, .int .i64 vk, .bool vb, .int .i64 vi, .string vs, .slice none 0 0, .slice none 0 0], elm_3 H1.out H2.out HQ.out HB.out, rfl, lies_itm HI.out.1 HI.out.2.1 HI.out.2.2 _ _, RF.out⟩)
     rw [results_cell_tmp rfl]
     go_simp
   | false =>
    have HB := hmk hT
    have C5 : Hid (∀ W, PB g s k3 W -> Calls Tryz.prog 90 #[.pointer (some ⟨g, 0, none⟩), .string ⟨#[93]⟩] W fun e w' => e = .returned (.bool false) /\ RdP g s W w' (k3)) := fun W hW => (CB.out W k3 hW HR4.out.le).mono (by
     rintro e w' (⟨h1, h2, h3⟩ | ⟨h1, h2, h3⟩)
     ·rw [HB.out] at h1; cases h1
     ·exact ⟨h2, h3⟩)
    clear hT
    go_region_with (go_at_call 90; refine (C5.out _ HR4.out.drew.pb).mono ?_; rintro e w5 ⟨rfl, r5⟩; have hr5 := (HR4.out.drew).trans r5; obtain ⟨R5, N5, t5, z5⟩ := KA.out w5 _ hr5; have n5 : w5.heap[w3.heap.size]? = some (.cells #[.int .i64 vk, .bool vb, .int .i64 vi, .string vs, .slice none 0 0, .slice none 0 0] 25 (0, 0)) := (r5.gr.block _ hw34 (fun e => by have := Option.some.inj e; have := HZ3.out; omega)).trans nB; have y0 : w5.cell? ⟨w3.heap.size, 0, none⟩ = some (.int .i64 vk) := cell_of_block n5 0; have y1 : w5.cell? ⟨w3.heap.size, 1, none⟩ = some (.bool vb) := cell_of_block n5 1; have y2 : w5.cell? ⟨w3.heap.size, 2, none⟩ = some (.int .i64 vi) := cell_of_block n5 2; have y3 : w5.cell? ⟨w3.heap.size, 3, none⟩ = some (.string vs) := cell_of_block n5 3; have y4 : w5.cell? ⟨w3.heap.size, 4, none⟩ = some (.slice none 0 0) := cell_of_block n5 4; have y5 : w5.cell? ⟨w3.heap.size, 5, none⟩ = some (.slice none 0 0) := cell_of_block n5 5; have p0 : w5.cell? ⟨w.heap.size, 0, none⟩ = some (.int .i64 0) := cell_of_block N5 0; have p1 : w5.cell? ⟨w.heap.size, 1, none⟩ = some (.string ⟨#[]⟩) := cell_of_block N5 1; have p2 : w5.cell? ⟨w.heap.size, 2, none⟩ = some (.slice none 0 0) := cell_of_block N5 2; have p3 : w5.cell? ⟨w.heap.size, 3, none⟩ = some (.int .i64 0) := cell_of_block N5 3; have p4 : w5.cell? ⟨w.heap.size, 4, none⟩ = some (.bool false) := cell_of_block N5 4; have p5 : w5.cell? ⟨w.heap.size, 5, none⟩ = some (.int .i64 0) := cell_of_block N5 5; have p6 : w5.cell? ⟨w.heap.size, 6, none⟩ = some (.string ⟨#[]⟩) := cell_of_block N5 6; have p7 : w5.cell? ⟨w.heap.size, 7, none⟩ = some (.slice none 0 0) := cell_of_block N5 7; have p8 : w5.cell? ⟨w.heap.size, 8, none⟩ = some (.slice none 0 0) := cell_of_block N5 8; have kf5 : ∀ ii, w5.frozen? ⟨w.heap.size, ii, none⟩ = false := frozen_of_block N5)
    all_goals
     have RF := hmk (R5.box9 (Nat.le_refl _) hlt (.int .i64 3) (.string ⟨#[]⟩) (.slice none 0 0) (.int .i64 vk) (.bool vb) (.int .i64 vi) (.string vs) (.slice none 0 0) (.slice none 0 0))
     go_wp2_with fail
     (try simp only [Exit.inBlock, Exit.then])
     refine bodyPost_ret (v := .tuple #[.agg #[.int .i64 3, .string ⟨#[]⟩, .slice none 0 0, .int .i64 vk, .bool vb, .int .i64 vi, .string vs, .slice none 0 0, .slice none 0 0], .bool false]) ?_ rfl (.inr ⟨elm_4 H1.out H2.out HQ.out HB.out, 3, ⟨#[]⟩, none, 0, 0, vk, vb, vi, vs, none, 0, 0, none, 0, 0, k3, rfl, RF.out⟩)
     rw [results_cell_tmp rfl]
     go_simp
  ·have HQ := hmk hq
   have r4 := (r1.trans r2).trans (r3.allo (.cells #[.int .i64 vk, .bool vb, .int .i64 vi, .string vs, .slice none 0 0, .slice none 0 0] 25))
   obtain ⟨R4, N4, t4, z4⟩ := KA.out _ _ r4
   have nB := heap_alloc_new w3 (.cells #[.int .i64 vk, .bool vb, .int .i64 vi, .string vs, .slice none 0 0, .slice none 0 0] 25)
   clear hq r1 r2 r3 P2 t2
   go_wp2_with fail
   generalize (w3.alloc (.cells #[.int .i64 vk, .bool vb, .int .i64 vi, .string vs, .slice none 0 0, .slice none 0 0] 25)) = w4 at *
   obtain ⟨x0, x1, x2, x3, x4, x5⟩ := cN6 nB
   obtain ⟨q0, q1, q2, q3, q4, q5, q6, q7, q8⟩ := cN9 N4
   have kf : ∀ ii, w4.frozen? ⟨w.heap.size, ii, none⟩ = false := frozen_of_block N4
   have RF := hmk ((R4.box9 (Nat.le_refl _) hlt (.int .i64 3) (.string ⟨#[]⟩) (.slice none 0 0) (.int .i64 vk) (.bool vb) (.int .i64 vi) (.string vs) (.slice none 0 0) (.slice none 0 0)).drew)
   go_region
   all_goals
    go_wp2_with fail
    (try simp only [Exit.inBlock, Exit.then])
    refine bodyPost_ret (v := .tuple #[.agg #[.int .i64 3, .string ⟨#[]⟩, .slice none 0 0, .int .i64 vk, .bool vb, .int .i64 vi, .string vs, .slice none 0 0, .slice none 0 0], .bool false]) ?_ rfl (.inr ⟨elm_2 H1.out H2.out HQ.out, 3, ⟨#[]⟩, none, 0, 0, vk, vb, vi, vs, none, 0, 0, none, 0, 0, k3, rfl, RF.out⟩)
    rw [results_cell_tmp rfl]
    go_simp
 have H2 := hmk hT2
 have r12 := r1.trans r2
 have P2 := r12.pb
 clear hT2 P1 r1 r2
 go_wp2_with fail
 refine (CO.out _ P2).mono ?_
 rintro e w3 (⟨hT3, rfl, r3⟩ | ⟨hT3, rfl, r3⟩)
 ·have H3 := hmk hT3
  obtain ⟨R3, N3, t3, z3⟩ := KA.out w3 _ (r12.trans r3)
  have P3 := R3.pb
  have l3 := R3.le
  have HZ := hmk R3.gr.size
  clear hT3 R3 N3 P2
  go_wp2_with fail
  refine (CK.out _ _ P3 t3 l3).mono ?_
  rintro e w4 (⟨m, k1, am, cm, bm, om, hn, rfl, hd, hm, r4⟩ | ⟨hn, k1, rfl, r4⟩)
  ·have HN := hmk hn
   have HD := hmk hd
   have HM := hmk hm
   obtain ⟨R4, N4, t4, z4⟩ := KA.out w4 _ ((r12.trans r3).trans r4)
   clear hn hd hm r12 r3 r4 P3 t3
   obtain ⟨q0, q1, q2, q3, q4, q5, q6, q7, q8⟩ := cN9 N4
   have kf : ∀ ii, w4.frozen? ⟨w.heap.size, ii, none⟩ = false := frozen_of_block N4
   have RF := hmk (R4.box9 (Nat.le_refl _) hlt (.int .i64 2) (.string ⟨#[]⟩) (.slice am m.length cm) (.int .i64 0) (.bool false) (.int .i64 0) (.string ⟨#[]⟩) (.slice none 0 0) (.slice none 0 0))
   go_wp2_with fail
   (try simp only [Exit.inBlock, Exit.then])
   refine bodyPost_ret (v := .tuple #[.agg #[.int .i64 2, .string ⟨#[]⟩, .slice am m.length cm, .int .i64 0, .bool false, .int .i64 0, .string ⟨#[]⟩, .slice none 0 0, .slice none 0 0], .bool true]) ?_ rfl (.inl ⟨⟨2, ⟨#[]⟩, m, nilW⟩, k1, [.int .i64 2, .string ⟨#[]⟩, .slice am m.length cm, .int .i64 0, .bool false, .int .i64 0, .string ⟨#[]⟩, .slice none 0 0, .slice none 0 0], by rw [elm_5 H1.out H2.out H3.out, HN.out]; rfl, rfl, lies_key HD.out (liesM_far HM.out HZ.out z3 (st9_grownZ _ _ (.int .i64 2) (.string ⟨#[]⟩) (.slice am m.length cm) (.int .i64 0) (.bool false) (.int .i64 0) (.string ⟨#[]⟩) (.slice none 0 0) (.slice none 0 0))), RF.out⟩)
   rw [results_cell_tmp rfl]
   go_simp
  ·have HN := hmk hn
   obtain ⟨R4, N4, t4, z4⟩ := KA.out w4 _ ((r12.trans r3).trans r4)
   clear hn r12 r3 r4 P3 t3
   obtain ⟨q0, q1, q2, q3, q4, q5, q6, q7, q8⟩ := cN9 N4
   have kf : ∀ ii, w4.frozen? ⟨w.heap.size, ii, none⟩ = false := frozen_of_block N4
   have RF := hmk (R4.box9 (Nat.le_refl _) hlt (.int .i64 2) (.string ⟨#[]⟩) (.slice none 0 0) (.int .i64 0) (.bool false) (.int .i64 0) (.string ⟨#[]⟩) (.slice none 0 0) (.slice none 0 0))
   go_wp2_with fail
   (try simp only [Exit.inBlock, Exit.then])
   refine bodyPost_ret (v := .tuple #[.agg #[.int .i64 2, .string ⟨#[]⟩, .slice none 0 0, .int .i64 0, .bool false, .int .i64 0, .string ⟨#[]⟩, .slice none 0 0, .slice none 0 0], .bool false]) ?_ rfl (.inr ⟨by rw [elm_5 H1.out H2.out H3.out, HN.out]; rfl, 2, ⟨#[]⟩, none, 0, 0, 0, false, 0, ⟨#[]⟩, none, 0, 0, none, 0, 0, k1, rfl, RF.out⟩)
   rw [results_cell_tmp rfl]
   go_simp
 ·have H3 := hmk hT3
  obtain ⟨R3, N3, t3, z3⟩ := KA.out w3 _ (r12.trans r3)
  clear hT3 P2 r12 r3
  obtain ⟨q0, q1, q2, q3, q4, q5, q6, q7, q8⟩ := cN9 N3
  have kf : ∀ ii, w3.frozen? ⟨w.heap.size, ii, none⟩ = false := frozen_of_block N3
  have RF := hmk (R3.box9 (Nat.le_refl _) hlt (.int .i64 0) (.string ⟨#[]⟩) (.slice none 0 0) (.int .i64 0) (.bool false) (.int .i64 0) (.string ⟨#[]⟩) (.slice none 0 0) (.slice none 0 0))
  go_wp2_with fail
  (try simp only [Exit.inBlock, Exit.then])
  refine bodyPost_ret (v := .tuple #[.agg #[.int .i64 0, .string ⟨#[]⟩, .slice none 0 0, .int .i64 0, .bool false, .int .i64 0, .string ⟨#[]⟩, .slice none 0 0, .slice none 0 0], .bool false]) ?_ rfl (.inr ⟨elm_6 H1.out H2.out H3.out, 0, ⟨#[]⟩, none, 0, 0, 0, false, 0, ⟨#[]⟩, none, 0, 0, none, 0, 0, k, rfl, RF.out⟩)
  rw [results_cell_tmp rfl]
  go_simp
end Go.Proofs.YtdgfjdhobdfglaaGreatDoor
