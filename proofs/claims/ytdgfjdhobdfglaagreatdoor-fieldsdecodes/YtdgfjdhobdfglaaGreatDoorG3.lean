/- joined: ShlV ChkA QSub ChkB RowA Utf Plain WalksA -/
import Derived.Test.YtdgfjdhobdfglaaGreatDoorG2
import Derived.Shelf.Unicode.ValidAny
import Derived.Deep.RegionWith
import Derived.Laws.Cover1
import Derived.Test.YtdgfjdhobdfglaaGreatDoorRows
import Derived.Lib.LaidIn
import Derived.Lib.LaidU8T
import Derived.WideKeyArgs
import Derived.OpenShut
import Derived.Deep.DeepHandedRow
import Derived.Lib.ValidLaws
import Derived.WalkMore
namespace Go.Proofs
open Go.Shelf Go.RowKit
def Tryz.lays196_ren : Go.Shelf.Ren := ⟨fun | 196 => 41 | 259 => 62 | n => n, fun | 0 => 0 | 3 => 3 | 4 => 4 | 5 => 5 | 9 => 9 | 12 => 12 | 46 => 91 | 53 => 125 | 119 => 104 | 138 => 106 | 139 => 107 | n => n, fun | 3 => 0 | 4 => 1 | n => n⟩
theorem Tryz.lays196 : Go.Proofs.Lays.n196 Tryz.prog Tryz.lays196_ren := {
 mixed := by kernel_rfl
 f196 := Tryz.func41.trans (congrArg some (by kernel_rfl))
 f259 := Tryz.func62.trans (congrArg some (by kernel_rfl))
 t0 := Tryz.underlying0
 a0 := Tryz.isAgg0
 z0 := Tryz.sizeOf0
 v0 := Tryz.zeroValue0
 t3 := Tryz.underlying3
 a3 := Tryz.isAgg3
 z3 := Tryz.sizeOf3
 v3 := Tryz.zeroValue3
 t4 := Tryz.underlying4
 a4 := Tryz.isAgg4
 z4 := Tryz.sizeOf4
 v4 := Tryz.zeroValue4
 t5 := Tryz.underlying5
 a5 := Tryz.isAgg5
 z5 := Tryz.sizeOf5
 v5 := Tryz.zeroValue5
 t9 := Tryz.underlying9
 a9 := Tryz.isAgg9
 z9 := Tryz.sizeOf9
 v9 := Tryz.zeroValue9
 t12 := Tryz.underlying12
 a12 := Tryz.isAgg12
 z12 := Tryz.sizeOf12
 v12 := Tryz.zeroValue12
 t46 := Tryz.underlying91
 a46 := Tryz.isAgg91
 z46 := Tryz.sizeOf91
 v46 := Tryz.zeroValue91
 t53 := Tryz.underlying125
 a53 := Tryz.isAgg125
 z53 := Tryz.sizeOf125
 v53 := Tryz.zeroValue125
 t119 := Tryz.underlying104
 a119 := Tryz.isAgg104
 z119 := Tryz.sizeOf104
 t138 := Tryz.underlying106
 a138 := Tryz.isAgg106
 z138 := Tryz.sizeOf106
 v138 := Tryz.zeroValue106
 t139 := Tryz.underlying107
 a139 := Tryz.isAgg107
 z139 := Tryz.sizeOf107
 v139 := Tryz.zeroValue107
 g3 := by kernel_rfl
 g4 := by kernel_rfl }
namespace YtdgfjdhobdfglaaGreatDoor
open Go.Lib
theorem validString_any (s : ByteArray) (w : World) (hs : s.size <= 281474976710656) (hU : Utf8Tabs 0 1 w) :
 Calls Tryz.prog 41 #[.string s] w fun e w' => e = .returned (.bool (validD s.data.toList)) /\ Below w.heap.size w w' :=
 Any.utf8_ValidString Tryz.lays196 s w (by omega) hU
end YtdgfjdhobdfglaaGreatDoor
end Go.Proofs
set_option linter.unusedSimpArgs false
set_option linter.unusedVariables false
set_option maxRecDepth 100000
namespace Go.Proofs.YtdgfjdhobdfglaaGreatDoor
open Go.RowKit Go.Lib
theorem utab_grown {w w' : World} {row : Option Nat} (h : Utf8Tabs 0 1 w) (hb : w.grownBy w' row) (h2 : 1 < w.heap.size) (hr : ∀ r, row = some r -> 1 < r) : Utf8Tabs 0 1 w' := by
 have hn : ∀ q, q <= 1 -> some q ≠ row := fun q hq e => by have := hr q e.symm; omega
 have k1 := hb.block 0 (by omega) (hn 0 (by omega))
 have k2 := hb.block 1 (by omega) (hn 1 (by omega))
 exact ⟨fun c hc => (World.cell?_of_block (w := w) (a := ⟨0, c, none⟩) k1).trans (h.1 c hc), fun i hi => ⟨(World.cell?_of_block (w := w) (a := ⟨1, 2 * i, none⟩) k2).trans (h.2 i hi).1, (World.cell?_of_block (w := w) (a := ⟨1, 2 * i + 1, none⟩) k2).trans (h.2 i hi).2⟩⟩
structure Tb (w : World) : Prop where
 u : Utf8Tabs 0 1 w
 z : 1 < w.heap.size
theorem Tb.grown {w w' : World} {row : Option Nat} (h : Tb w) (hb : w.grownBy w' row) (hr : ∀ r, row = some r -> 1 < r) : Tb w' := ⟨utab_grown h.u hb h.z hr, Nat.lt_of_lt_of_le h.z hb.size⟩
theorem Tb.below {w w' : World} {B : Nat} (h : Tb w) (hb : Below B w w') (hB : 1 < B) : Tb w' := by
 refine ⟨?_, Nat.lt_of_lt_of_le h.z hb.size⟩
 exact ⟨fun c hc => (hb.cell (p := ⟨0, c, none⟩) (by show 0 < B; omega)).trans (h.u.1 c hc), fun i hi => ⟨(hb.cell (p := ⟨1, 2 * i, none⟩) hB).trans (h.u.2 i hi).1, (hb.cell (p := ⟨1, 2 * i + 1, none⟩) hB).trans (h.u.2 i hi).2⟩⟩
def plainB (k : Int) (b : Bool) (i : Int) (s : ByteArray) (nl nm : Nat) : Bool :=
 decide (0 <= k /\ k <= 5 /\ (k = 1 \/ b = false) /\ (k = 2 \/ i = 0) /\ (k = 3 \/ s.toList.isEmpty = true) /\ (k = 4 \/ nl = 0) /\ (k = 5 \/ nm = 0))
def BPost (r : Bool) (w : World) (e : Ending) (w' : World) : Prop := e = .returned (.bool r) /\ Below w.heap.size w w'
set_option maxHeartbeats 8000000 in
theorem plain_any (k : Int) (b : Bool) (i : Int) (s : ByteArray) (nl nm : Nat) (al am : Option Addr) (cl cm : Nat) (w : World) :
 Calls Tryz.prog 40 #[.agg #[.int .i64 k, .bool b, .int .i64 i, .string s, .slice al nl cl, .slice am nm cm]] w (BPost (plainB k b i s nl nm) w) := by
 go_enter Tryz.func40, Tryz.ntmps40
 go_wp2
 all_goals go_ret
 all_goals refine ⟨?_, (Below.refl _ _).alloc (Nat.le_refl _) _⟩
 all_goals show Ending.returned (Value.bool _) = Ending.returned (Value.bool _)
 all_goals refine congrArg (fun r => Ending.returned (Value.bool r)) ?_
 all_goals rw [Bool.eq_iff_iff]
 all_goals simp only [plainB, decide_eq_true_eq, beq_iff_eq, Bool.not_eq_true', Bool.false_eq_true, false_iff, true_iff]
 all_goals simp_all
 all_goals omega
end Go.Proofs.YtdgfjdhobdfglaaGreatDoor
set_option maxRecDepth 100000
namespace Go.Proofs.YtdgfjdhobdfglaaGreatDoor
open Go.RowKit
structure Sub (N : Nat) (w0 : World) where
 w : World
 b : Below N w0 w
instance subThere (N : Nat) (w0 : World) : Inhabited (Sub N w0) := ⟨⟨w0, Below.refl N w0⟩⟩
theorem wp_region_sub {P : Program} (N : Nat) {id : Nat} {Q : Exit -> Act -> World -> Prop} {a : Act} {w : World} {l : List Oper} (hm : P.follows .mixedOrders = true) (hB : Region.lexB .any l.toArray = true)
 (h : wpQuiet P l.toArray (fun w' => ∃ x : Sub N w, w' = x.w) (fun a' => ∀ w', (∃ x : Sub N w, w' = x.w) -> Q .normal a' w') l a) : (Code.region id l.toArray true).wp P Q a w :=
 wp_region_quiet (C := fun w' => ∃ x : Sub N w, w' = x.w) hm hB ⟨⟨w.drew, (Below.refl N w).drew⟩, rfl⟩ (by simpa using h)
theorem sub_call {P : Program} {f : FuncId} {args : Array Value} {N : Nat} {w0 : World} {v : Value} (h : ∀ w', Below N w0 w' -> Calls P f args w' fun e w'' => e = .returned v /\ Below N w0 w'') (x : Sub N w0) :
 Calls P f args x.w fun e w'' => e = .returned v /\ ∃ y : Sub N w0, w'' = y.w :=
 (h x.w x.b).mono fun e w'' ⟨he, hb⟩ => ⟨he, ⟨w'', hb⟩, rfl⟩
theorem sub_cell {N : Nat} {w0 : World} {b o : Nat} {v : Value} (h : w0.cell? ⟨b, o, none⟩ = some v) (hb : b < N) (x : Sub N w0) : x.w.cell? ⟨b, o, none⟩ = some v :=
 (x.b.cell (p := ⟨b, o, none⟩) hb).trans h
end Go.Proofs.YtdgfjdhobdfglaaGreatDoor
set_option maxRecDepth 100000
namespace Go.Proofs.YtdgfjdhobdfglaaGreatDoor
open Go.RowKit Go.Lib
def keyAt (l : List Mem) (j : Nat) : ByteArray := match l[j]? with | some x => x.1 | none => ⟨#[]⟩
theorem keyAt_eq {l : List Mem} {j : Nat} (h : j < l.length) : keyAt l j = (l[j]).1 := by simp [keyAt, h]
def utfB (s : ByteArray) : Bool := validD s.data.toList
def ltB (a b : ByteArray) : Bool := Op.bytesLess a.toList b.toList
def okAt (l : List Mem) (j : Nat) : Bool := utfB (keyAt l j) && (decide (j = 0) || ltB (keyAt l (j - 1)) (keyAt l j))
def riseB (l : List Mem) : Bool := (List.range l.length).all (okAt l)
theorem riseB_true {l : List Mem} (h : ∀ j, j < l.length -> okAt l j = true) : riseB l = true := by
 simp only [riseB, List.all_eq_true, List.mem_range]; exact h
theorem riseB_false {l : List Mem} {j : Nat} (hj : j < l.length) (h : okAt l j = false) : riseB l = false := by
 rw [riseB, List.all_eq_false]; exact ⟨j, by simpa using hj, by simp [h]⟩
theorem V.ten {R : Bool} {w : World} {S : Nat -> Prop} {v : V} {cs : List Value} (h : v.lies R w S cs) : ∃ k b i s al nl cl am nm cm, cs = [.int .i64 k, .bool b, .int .i64 i, .string s, .slice al nl cl, .slice am nm cm] := by
 cases v
 rw [V.lies] at h
 obtain ⟨al, cl, bl, ol, am, cm, bm, om, e, _⟩ := h
 exact ⟨_, _, _, _, _, _, _, _, _, _, e⟩
set_option maxHeartbeats 8000000 in
theorem rising_any (R : Bool) (l : List Mem) (am : Option Addr) (cm bm om : Nat) (S : Nat -> Prop) (w : World) (t : Tb w) (ham : Headed am l.length cm bm om) (hl : liesM R w S l bm om) (hS : ∀ b, S b -> b < w.heap.size) (hwt : wtM l <= 281474976710656) :
 Calls Tryz.prog 42 #[.slice am l.length cm] w (BPost (riseB l) w) := by
 have HL : Hid (liesM R w S l bm om) := hl
 clear hl
 have hlen := wtM_len l
 go_enter Tryz.func42, Tryz.ntmps42
 go_wp2_with fail
 go_loopw [7] (fun e wr => ∃ j : Nat, j <= l.length /\ e = .int .i64 (j : Int) /\ Below w.heap.size w wr /\ Hid (∀ q, q < j -> okAt l q = true)) (fun e _ => l.length - (RowKit.intOf e).toNat)
 case atStart => exact ⟨0, by omega, rfl, Below.refl _ _, fun q hq => by omega⟩
 case round =>
  obtain ⟨j, hj, rfl, bj, ok⟩ := hrel
  by_cases hjl : j < l.length
  ·have y1 : (j : Int) < l.length := by omega
   obtain ⟨hSb, hks, csj, hrow, hlj⟩ := liesM_get HL.out j hjl
   obtain rfl : am = some ⟨bm, om, none⟩ := ham.at_.resolve_left (by omega)
   have hrow' := hrow.keep (bj.block _ (hS _ hSb))
   obtain ⟨ek, eb, ei, es, eal, enl, ecl, eam, enm, ecm, rfl⟩ := V.ten hlj
   obtain ⟨q, q0, q1, q2, q3, q4, q5⟩ := row7 hrow'
   clear hlj hrow hrow'
   have hkz : (l[j]).1.size <= 281474976710656 := by have := wtM_mem (List.getElem_mem hjl); omega
   have HK : Hid (keyAt l j = (l[j]).1) := keyAt_eq hjl
   generalize (l[j]).1 = key at *
   have tj : Tb wr := t.below bj (by have := t.z; omega)
   have hz : wr.heap.size ≥ w.heap.size := bj.size
   let oB : Obj := .cells #[.string key, .int .i64 ek, .bool eb, .int .i64 ei, .string es, .slice eal enl ecl, .slice eam enm ecm] 40
   have hzo : (wr.alloc oB).heap.size = wr.heap.size + 1 := alloc_size wr oB
   have cv : ∀ x : Sub (wr.heap.size + 1) (wr.alloc oB), Calls Tryz.prog 41 #[.string key] x.w fun e w'' => e = .returned (.bool (validD key.data.toList)) /\ ∃ y : Sub (wr.heap.size + 1) (wr.alloc oB), w'' = y.w :=
    sub_call fun w' hb => by
     have t1 : Tb w' := (tj.grown (World.grownBy_alloc wr oB none) (fun r e => by cases e)).below hb (by have := tj.z; omega)
     refine (validString_any key w' hkz t1.u).mono fun e w'' ⟨he, h2⟩ => ⟨he, hb.trans (h2.mono (by rw [<- hzo]; exact hb.size))⟩
   have x0 : ∀ x : Sub (wr.heap.size + 1) (wr.alloc oB), x.w.cell? ⟨wr.heap.size, 0, none⟩ = some (.string key) := sub_cell (box_row wr [.string key, .int .i64 ek, .bool eb, .int .i64 ei, .string es, .slice eal enl ecl, .slice eam enm ecm] 40 0 _ rfl) (by omega)
   have CV : Hid _ := cv
   have hback : ∀ wq, Below (wr.heap.size + 1) (wr.alloc oB) wq -> Below w.heap.size w wq := fun wq h => (bj.alloc (by omega) oB).trans (h.mono (by omega))
   clear cv
   cases hV : validD key.data.toList
   ·have HV : Hid (okAt l j = false) := by show _ = _; simp [okAt, HK.out, utfB, hV]
    have CF : Hid (∀ x : Sub (wr.heap.size + 1) (wr.alloc oB), Calls Tryz.prog 41 #[.string key] x.w fun e w'' => e = .returned (.bool false) /\ ∃ y : Sub (wr.heap.size + 1) (wr.alloc oB), w'' = y.w) := by rw [<- hV]; exact CV.out
    clear hV CV
    go_wp2_with fail
    refine wp_region_sub (wr.heap.size + 1) (by kernel_rfl) (by kernel_rfl) ?_
    repeat (go_big_quiet_step (exact CF.out _))
    refine wpQuiet_nil ?_
    rintro _ ⟨⟨wq, bq⟩, rfl⟩
    go_wp2_with fail
    go_ret
    exact ⟨by rw [riseB_false hjl HV.out]; rfl, hback _ bq⟩
   ·have CF : Hid (∀ x : Sub (wr.heap.size + 1) (wr.alloc oB), Calls Tryz.prog 41 #[.string key] x.w fun e w'' => e = .returned (.bool true) /\ ∃ y : Sub (wr.heap.size + 1) (wr.alloc oB), w'' = y.w) := by rw [<- hV]; exact CV.out
    by_cases hj0 : j = 0
    ·have HV : Hid (okAt l j = true) := by show _ = _; rw [okAt, HK.out]; simp [utfB, hV, hj0]
     have HO : Hid (∀ q, q < j + 1 -> okAt l q = true) := fun q hq => by
      by_cases hqj : q < j
      ·exact ok.out q hqj
      ·obtain rfl : q = j := by omega
       exact HV.out
     have yj : decide ((0 : Int) < (j : Int)) = false := by simp [hj0]
     have yk : decide (0 < j) = false := by simp [hj0]
     clear hV CV hj0 HV
     go_wp2_with fail
     refine wp_region_sub (wr.heap.size + 1) (by kernel_rfl) (by kernel_rfl) ?_
     repeat (go_big_quiet_step (exact CF.out _))
     refine wpQuiet_nil ?_
     rintro _ ⟨⟨wq, bq⟩, rfl⟩
     go_wp2_with fail
     go_roundw
     case rel => exact ⟨j + 1, by omega, by go_num, hback _ bq, HO⟩
     case measure => simp [RowKit.intOf]; omega
    ·obtain ⟨p, rfl⟩ : ∃ p, j = p + 1 := ⟨j - 1, by omega⟩
     obtain ⟨hSb', hks', csp, hrowp, _⟩ := liesM_get HL.out p (by omega)
     have hrowp' := hrowp.keep (bj.block _ (hS _ hSb'))
     have p0 : wr.cell? ⟨bm, om + p * 7, none⟩ = some (.string (l[p]'(by omega)).1) := hrowp' 0 _ rfl
     have HP : Hid (keyAt l p = (l[p]'(by omega)).1) := keyAt_eq (by omega)
     generalize (l[p]'(by omega)).1 = prev at *
     have hbb : bm < wr.heap.size := World.block_lt_of_cell? wr _ p0
     have p1 : (wr.alloc oB).cell? ⟨bm, om + p * 7, none⟩ = some (.string prev) := (World.cell?_of_block (w := wr) (a := ⟨bm, om + p * 7, none⟩) (Below.heap_alloc wr oB bm hbb)).trans p0
     have x1 : ∀ x : Sub (wr.heap.size + 1) (wr.alloc oB), x.w.cell? ⟨bm, om + p * 7, none⟩ = some (.string prev) := sub_cell p1 (by omega)
     have y2 : (p : Int) < l.length := by omega
     have y3 : decide ((0 : Int) < (p : Int) + 1) = true := by simp
     clear hrowp hrowp'
     cases hL : Op.bytesLess prev.toList key.toList
     ·have HV : Hid (okAt l (p + 1) = false) := by show _ = _; rw [okAt, HK.out, Nat.add_sub_cancel, HP.out]; simp [utfB, ltB, hL]
      clear hV CV HK HP
      go_wp2_with fail
      refine wp_region_sub (wr.heap.size + 1) (by kernel_rfl) (by kernel_rfl) ?_
      repeat (go_big_quiet_step (exact CF.out _))
      refine wpQuiet_nil ?_
      rintro _ ⟨⟨wq, bq⟩, rfl⟩
      go_wp2_with fail
      go_ret
      exact ⟨by rw [riseB_false hjl HV.out]; rfl, hback _ bq⟩
     ·have HV : Hid (okAt l (p + 1) = true) := by show _ = _; rw [okAt, HK.out, Nat.add_sub_cancel, HP.out]; simp [utfB, ltB, hL, hV]
      have HO : Hid (∀ q, q < p + 1 + 1 -> okAt l q = true) := fun q hq => by
       by_cases hqj : q < p + 1
       ·exact ok.out q hqj
       ·obtain rfl : q = p + 1 := by omega
        exact HV.out
      clear hV CV HK HP HV
      go_wp2_with fail
      refine wp_region_sub (wr.heap.size + 1) (by kernel_rfl) (by kernel_rfl) ?_
      repeat (go_big_quiet_step (exact CF.out _))
      refine wpQuiet_nil ?_
      rintro _ ⟨⟨wq, bq⟩, rfl⟩
      go_wp2_with fail
      go_roundw
      case rel => exact ⟨p + 1 + 1, by omega, by go_num, hback _ bq, HO⟩
      case measure => simp [RowKit.intOf]; omega
  ·obtain rfl : j = l.length := by omega
   have y1 : ¬ (l.length : Int) < l.length := by omega
   go_wp2_with fail
   go_ret
   exact ⟨by rw [riseB_true ok.out]; rfl, bj⟩
end Go.Proofs.YtdgfjdhobdfglaaGreatDoor
set_option maxRecDepth 100000
namespace Go.Proofs.YtdgfjdhobdfglaaGreatDoor
open Go.Shelf Go.Lib Go.ChangeShapes Go.RowKit
theorem accept_eq : Rows.laid_unicode_utf8_acceptRanges = Lib.acceptData := by kernel_rfl
theorem first_eq : Rows.laid_unicode_utf8_first = Lib.firstData := by kernel_rfl
theorem utabs_of {W : World} (h3 : VarReads Tryz.prog W "unicode/utf8.first" Rows.laid_unicode_utf8_first) (h4 : VarReads Tryz.prog W "unicode/utf8.acceptRanges" Rows.laid_unicode_utf8_acceptRanges) : Utf8Tabs 0 1 W := by
 rw [first_eq] at h3
 rw [accept_eq] at h4
 exact utf8Tabs_of_readsT (U8Types.of196 Tryz.lays196) ⟨by kernel_rfl, by kernel_rfl, by kernel_rfl, by kernel_rfl, by kernel_rfl, by kernel_rfl, by kernel_rfl⟩ h3 h4
theorem laidOut' : laidOutB Tryz.prog = true := by kernel_rfl
theorem own : ownKnob Tryz.prog.godebug = none := by kernel_rfl
def putCells (cs : Array Value) : Obj -> Obj
 | .cells _ t frozen => .cells cs t frozen
 | o => o
theorem below_same {B : Nat} {w w' : World} (h : Below B w w') : ∀ {p : MemPlace}, p.block < B -> w.sameAt w' p
 | .cell b off, hp => by
  show w'.cell? ⟨b, off, none⟩ = w.cell? ⟨b, off, none⟩
  exact h.cell (p := ⟨b, off, none⟩) hp
 | .map b, hp => h.block b hp
variable {H : Type} {enc : TypeId × Value -> H}
theorem open25 {W : World} {spare : Nat -> Bool} {held : Bool} {v : Value} {d : DataW H} {p : List MemPlace} (h : DataW.Trod enc Tryz.prog W 0 spare held 25 v d p) : ∃ (x : V) (cs : List Value), v = .agg cs.toArray /\ x.lies false W (Old W) cs := by
 obtain ⟨n, hn⟩ := h
 obtain ⟨x, hx⟩ := (open_all n).1 _ _ hn
 have hx' := hx
 obtain ⟨k, b, i, s, al, nl, cl, am, nm, cm, e⟩ := V.ten hx'
 cases v with
 | agg a => exact ⟨x, a.toList, by simp, hx⟩
 | _ => simp [Value.cells] at e
theorem back25 {W W' : World} {v : Value} {d : DataW H} {p : List MemPlace} (h : DataW.Trod enc Tryz.prog W 0 (fun _ => true) true 25 v d p) (hlt : ∀ x ∈ p, x.block < W.heap.size) (hb : Below W.heap.size W W') :
 DataW.Trod enc Tryz.prog W' 0 (fun b => decide (b < W.heap.size)) true 25 v d p :=
 WideElems.Trod_stays (P := Tryz.prog) laidOut' (by kernel_rfl) (of_decide_eq_true (by kernel_rfl)) h (fun x hx => below_same hb (hlt x hx)) (fun x hx => by simpa using hlt x hx)
theorem block_lt {W : World} {b o : Nat} {v : Value} (h : W.cell? ⟨b, o, none⟩ = some v) : b < W.heap.size := World.block_lt_of_cell? W ⟨b, o, none⟩ h
end Go.Proofs.YtdgfjdhobdfglaaGreatDoor
namespace Go.Proofs.YtdgfjdhobdfglaaGreatDoor.Q
def bnd (b : Nat) : Nat × Nat × Nat :=
 if b < 128 then (1, 0, 0) else if 194 <= b /\ b < 224 then (2, 128, 191) else if b = 224 then (3, 160, 191) else if b = 237 then (3, 128, 159)
 else if 224 < b /\ b < 240 then (3, 128, 191) else if b = 240 then (4, 144, 191) else if b = 244 then (4, 128, 143) else if 240 < b /\ b < 244 then (4, 128, 191) else (0, 0, 0)
def nxtGo (n : Nat) : Nat -> Nat -> Nat -> List UInt8 -> Nat × Bool
 | k, lo, hi, [] => if n <= k then (n, true) else (k, false)
 | k, lo, hi, c :: t => if n <= k then (n, true) else if c.toNat < lo \/ hi < c.toNat then (k, false) else nxtGo n (k + 1) 128 191 t
def nxt : List UInt8 -> Nat × Bool
 | [] => (0, false)
 | b :: t => if (bnd b.toNat).1 = 0 then (0, false) else nxtGo (bnd b.toNat).1 1 (bnd b.toNat).2.1 (bnd b.toNat).2.2 t
theorem nxt_cons (b : UInt8) (t : List UInt8) : nxt (b :: t) = if (bnd b.toNat).1 = 0 then (0, false) else nxtGo (bnd b.toNat).1 1 (bnd b.toNat).2.1 (bnd b.toNat).2.2 t := rfl
theorem nxtGo_le (n : Nat) : ∀ (t : List UInt8) (k lo hi : Nat), 1 <= k -> k <= n -> k <= (nxtGo n k lo hi t).1 /\ (nxtGo n k lo hi t).1 <= k + t.length /\ (nxtGo n k lo hi t).1 <= n /\ ((nxtGo n k lo hi t).2 = true -> (nxtGo n k lo hi t).1 = n)
 | [], k, lo, hi, h, hn => by
  unfold nxtGo
  split <;> simp <;> omega
 | c :: t, k, lo, hi, h, hn => by
  unfold nxtGo
  split
  ·simp; omega
  ·split
   ·simp; omega
   ·have := nxtGo_le n t (k + 1) 128 191 (by omega) (by omega)
    simp only [List.length_cons]
    refine ⟨by omega, by omega, this.2.2⟩
theorem bnd_le (b : Nat) : (bnd b).1 <= 4 := by
 unfold bnd
 repeat' split
 all_goals simp
theorem nxt_le (l : List UInt8) : (nxt l).1 <= l.length /\ (nxt l).1 <= 4 /\ ((nxt l).2 = true -> 1 <= (nxt l).1) := by
 cases l with
 | nil => simp [nxt]
 | cons b t =>
  rw [nxt_cons]
  split
  ·simp
  ·have := nxtGo_le (bnd b.toNat).1 t 1 (bnd b.toNat).2.1 (bnd b.toNat).2.2 (by omega) (by omega)
   have hb := bnd_le b.toNat
   simp only [List.length_cons]
   refine ⟨by omega, by omega, fun _ => by omega⟩
theorem bnd_tab : ∀ b : Fin 256, 128 <= b.val -> (bnd b.val).1 = (if Lib.firstT b.val % 8 = 1 then 0 else Lib.firstT b.val % 8) /\ ((bnd b.val).1 = 0 \/ (bnd b.val).1 = 2 \/ (bnd b.val).1 = 3 \/ (bnd b.val).1 = 4) /\ ((bnd b.val).1 ≠ 0 -> (bnd b.val).2.1 = Lib.accLo (Lib.firstT b.val / 16) /\ (bnd b.val).2.2 = Lib.accHi (Lib.firstT b.val / 16)) := by decide +kernel
theorem nxt_check (b : UInt8) (t : List UInt8) (hb : 128 <= b.toNat) :
 Lib.checkN (t.length + 1) (t.getD 0 0).toNat (t.getD 1 0).toNat (t.getD 2 0).toNat (Lib.firstT b.toNat % 8) (Lib.accLo (Lib.firstT b.toNat / 16)) (Lib.accHi (Lib.firstT b.toNat / 16)) = (if (nxt (b :: t)).2 then some (nxt (b :: t)).1 else none) := by
 obtain ⟨h1, h2, h3⟩ := bnd_tab ⟨b.toNat, b.toNat_lt⟩ hb
 simp only at h1 h2 h3
 rw [nxt_cons]
 generalize bnd b.toNat = B at *
 obtain ⟨n, lo, hi⟩ := B
 simp only at h1 h2 h3 ⊢
 rcases h2 with rfl | rfl | rfl | rfl
 ·have e : Lib.firstT b.toNat % 8 = 1 \/ Lib.firstT b.toNat % 8 = 0 := by split at h1 <;> omega
  rcases e with e | e <;> simp [Lib.checkN, e]
 ·have e : Lib.firstT b.toNat % 8 = 2 := by split at h1 <;> omega
  obtain ⟨rfl, rfl⟩ := h3 (by omega)
  rw [e]
  rcases t with _ | ⟨c1, t⟩
  ·simp [Lib.checkN, nxtGo]
  ·simp only [Lib.checkN, nxtGo, List.length_cons, List.getD_cons_zero]
   by_cases c : c1.toNat < Lib.accLo (Lib.firstT b.toNat / 16) \/ Lib.accHi (Lib.firstT b.toNat / 16) < c1.toNat
   ·simp [c]
   ·cases t <;> simp [c, nxtGo]
 ·have e : Lib.firstT b.toNat % 8 = 3 := by split at h1 <;> omega
  obtain ⟨rfl, rfl⟩ := h3 (by omega)
  rw [e]
  generalize Lib.accLo (Lib.firstT b.toNat / 16) = lo
  generalize Lib.accHi (Lib.firstT b.toNat / 16) = hi
  rcases t with _ | ⟨c1, t⟩
  ·simp [Lib.checkN, nxtGo]
  ·by_cases c : c1.toNat < lo \/ hi < c1.toNat
   ·simp only [Lib.checkN, nxtGo, List.length_cons, List.getD_cons_zero]
    rcases c with c | c <;> simp [c]
   ·have c' := not_or.1 c
    rcases t with _ | ⟨c2, t⟩
    ·simp [Lib.checkN, nxtGo, c]
    ·by_cases d : c2.toNat < 128 \/ 191 < c2.toNat
     ·rcases d with d | d <;> simp [Lib.checkN, nxtGo, c, c'.1, c'.2, d]
     ·have d' := not_or.1 d
      cases t <;> simp [Lib.checkN, nxtGo, c, d, c'.1, c'.2, d'.1, d'.2]
 ·have e : Lib.firstT b.toNat % 8 = 4 := by split at h1 <;> omega
  obtain ⟨rfl, rfl⟩ := h3 (by omega)
  rw [e]
  generalize Lib.accLo (Lib.firstT b.toNat / 16) = lo
  generalize Lib.accHi (Lib.firstT b.toNat / 16) = hi
  rcases t with _ | ⟨c1, t⟩
  ·simp [Lib.checkN, nxtGo]
  ·by_cases c : c1.toNat < lo \/ hi < c1.toNat
   ·simp only [Lib.checkN, nxtGo, List.length_cons, List.getD_cons_zero]
    rcases c with c | c <;> simp [c]
   ·have c' := not_or.1 c
    rcases t with _ | ⟨c2, t⟩
    ·simp [Lib.checkN, nxtGo, c]
    ·by_cases d : c2.toNat < 128 \/ 191 < c2.toNat
     ·rcases d with d | d <;> simp [Lib.checkN, nxtGo, c, c'.1, c'.2, d]
     ·have d' := not_or.1 d
      rcases t with _ | ⟨c3, t⟩
      ·simp [Lib.checkN, nxtGo, c, d]
      ·by_cases f : c3.toNat < 128 \/ 191 < c3.toNat
       ·rcases f with f | f <;> simp [Lib.checkN, nxtGo, c, d, c'.1, c'.2, d'.1, d'.2, f]
       ·have f' := not_or.1 f
        cases t <;> simp [Lib.checkN, nxtGo, c, d, f, c'.1, c'.2, d'.1, d'.2, f'.1, f'.2]
theorem valid_step (l : List UInt8) (hne : l ≠ []) : Lib.validD l = (if (nxt l).2 then Lib.validD (l.drop (nxt l).1) else false) := by
 cases l with
 | nil => exact absurd rfl hne
 | cons b t =>
  by_cases hb : b.toNat < 128
  ·rw [Lib.validD_cons b t hb]
   have e : nxt (b :: t) = (1, true) := by
    have : bnd b.toNat = (1, 0, 0) := by simp [bnd, hb]
    cases t <;> simp [nxt_cons, this, nxtGo]
   rw [e]
   rfl
  ·have h := Lib.validD_lead (b :: t) hne (by simpa using (by omega : 128 <= b.toNat))
   rw [h]
   have k := nxt_check b t (by omega)
   simp only [List.getD_cons_zero, List.getD_cons_succ, List.length_cons] at k ⊢
   rw [k]
   by_cases g : (nxt (b :: t)).2 = true
   ·simp [g]
   ·simp [g]
end Go.Proofs.YtdgfjdhobdfglaaGreatDoor.Q
namespace Go.Proofs.YtdgfjdhobdfglaaGreatDoor.Q
def letN (c : Nat) : Nat :=
 if c = 34 then 34 else if c = 92 then 92 else if c = 8 then 98 else if c = 9 then 116 else if c = 10 then 110 else if c = 12 then 102 else if c = 13 then 114 else 0
def hexN (d : Nat) : Nat := if d < 10 then 48 + d else 87 + d
def widN (c : Nat) : Nat := if letN c ≠ 0 then 2 else if c < 32 then 6 else 1
def escN (c : Nat) : List Nat :=
 if letN c ≠ 0 then [92, letN c] else if c < 32 then [92, 117, 48, 48, hexN (c / 16), hexN (c % 16)] else [c]
theorem escN_length (c : Nat) : (escN c).length = widN c := by
 unfold escN widN
 split
 ·rfl
 ·split <;> rfl
theorem widN_le (c : Nat) : 1 <= widN c /\ widN c <= 6 := by
 unfold widN
 split
 ·omega
 ·split <;> omega
def esc (c : UInt8) : List UInt8 := (escN c.toNat).map UInt8.ofNat
def wid (c : UInt8) : Nat := widN c.toNat
theorem esc_length (c : UInt8) : (esc c).length = wid c := by
 unfold esc wid
 rw [List.length_map, escN_length]
def body (l : List UInt8) : List UInt8 := l.flatMap esc
def sz (l : List UInt8) : Nat := (body l).length
theorem body_snoc (l : List UInt8) (c : UInt8) : body (l ++ [c]) = body l ++ esc c := by
 simp [body]
theorem sz_snoc (l : List UInt8) (c : UInt8) : sz (l ++ [c]) = sz l + wid c := by
 simp only [sz, body_snoc, List.length_append, esc_length]
theorem sz_le (l : List UInt8) : sz l <= 6 * l.length := by
 induction l with
 | nil => simp [sz, body]
 | cons c t ih =>
  have h : sz (c :: t) = wid c + sz t := by simp [sz, body, esc_length]
  have := (widN_le c.toNat).2
  have hw : wid c <= 6 := this
  rw [h, List.length_cons]
  omega
def qt (l : List UInt8) : List UInt8 := 34 :: (body l ++ [34])
theorem qt_length (l : List UInt8) : (qt l).length = 2 + sz l := by
 simp [qt, sz]; omega
end Go.Proofs.YtdgfjdhobdfglaaGreatDoor.Q
set_option maxHeartbeats 64000000
namespace Go.Proofs.YtdgfjdhobdfglaaGreatDoor
open Go.RowKit Go.Lib
def LetTab (w : World) : Prop := ∀ c : Nat, c < 128 -> w.cell? ⟨5, c, none⟩ = some (.int .u8 (Q.letN c))
theorem Q.letN_hi (n : Nat) (h : 128 <= n) : Q.letN n = 0 := by
 unfold Q.letN
 repeat' split
 all_goals first | omega | rfl
set_option maxRecDepth 100000 in
theorem letter_any (n : Nat) (hn : n < 256) (w : World) (hT : LetTab w) :
 Calls Tryz.prog 176 #[.int .u8 n] w fun e w' => e = .returned (.int .u8 (Q.letN n)) /\ w' = w := by
 by_cases h : n < 128
 ·have hc := hT n h
  have hz : (n : Int) < 128 := by omega
  generalize Q.letN n = L at *
  clear hT
  go_enter Tryz.func176, Tryz.ntmps176
  go_wp2
  go_ret
  exact ⟨rfl, rfl⟩
 ·have hz : (128 : Int) <= n := by omega
  rw [Q.letN_hi n (by omega)]
  clear hT
  go_enter Tryz.func176, Tryz.ntmps176
  go_wp2
  go_ret
  exact ⟨rfl, rfl⟩
theorem width_any (n : Nat) (hn : n < 256) (w : World) (hT : LetTab w) :
 Calls Tryz.prog 174 #[.int .u8 n] w fun e w' => e = .returned (.int .i64 (Q.widN n)) /\ w' = w := by
 have c := letter_any n hn w hT
 clear hT
 by_cases h : Q.letN n = 0
 focus
  rw [h] at c
  by_cases h2 : n < 32
  focus
   have e : Q.widN n = 6 := by simp [Q.widN, h, h2]
   rw [e]
   have hz : (n : Int) < 32 := by omega
   clear e h
  rotate_left 1
  focus
   have e : Q.widN n = 1 := by simp [Q.widN, h, h2]
   rw [e]
   have hz : ¬ (n : Int) < 32 := by omega
   clear e h
  rotate_left 1
 rotate_left 2
 focus
  have e : Q.widN n = 2 := by simp [Q.widN, h]
  rw [e]
  have hb : ((Q.letN n : Int) == 0) = false := by rw [beq_eq_false_iff_ne]; omega
  have hb2 : ((Q.letN n : Int) != 0) = true := by rw [bne_iff_ne]; omega
  clear e
  generalize Q.letN n = L at *
 rotate_left 1
 all_goals
  go_enter Tryz.func174, Tryz.ntmps174
  go_wp2_with (go_at_call 176; refine c.mono ?_; rintro e w' ⟨rfl, rfl⟩)
  go_ret
  exact ⟨rfl, rfl⟩
theorem bounds_anyW (n : Nat) (hn : n < 256) (w : World) :
 Calls Tryz.prog 115 #[.int .u8 n] w fun e w' => e = .returned (.tuple #[.int .i64 (Q.bnd n).1, .int .u8 (Q.bnd n).2.1, .int .u8 (Q.bnd n).2.2]) /\ w' = w := by
 have key : ∀ a b c : Nat, Q.bnd n = (a, b, c) -> (Calls Tryz.prog 115 #[.int .u8 n] w fun e w' => e = .returned (.tuple #[.int .i64 a, .int .u8 b, .int .u8 c]) /\ w' = w) -> Calls Tryz.prog 115 #[.int .u8 n] w fun e w' => e = .returned (.tuple #[.int .i64 (Q.bnd n).1, .int .u8 (Q.bnd n).2.1, .int .u8 (Q.bnd n).2.2]) /\ w' = w := by
  intro a b c e h
  rw [e]
  exact h
 have c9 : n < 128 \/ (128 <= n /\ n < 194) \/ (194 <= n /\ n < 224) \/ n = 224 \/ n = 237 \/ (224 < n /\ n < 240 /\ n ≠ 237) \/ n = 240 \/ n = 244 \/ (240 < n /\ n < 244) \/ 244 < n := by omega
 rcases c9 with h | h | h | h | h | h | h | h | h | h
 case inr.inr.inr.inl => subst h; refine key 3 160 191 (by decide) ?_; go_enter Tryz.func115, Tryz.ntmps115; go_wp2; go_ret3; exact ⟨rfl, rfl⟩
 case inr.inr.inr.inr.inl => subst h; refine key 3 128 159 (by decide) ?_; go_enter Tryz.func115, Tryz.ntmps115; go_wp2; go_ret3; exact ⟨rfl, rfl⟩
 case inr.inr.inr.inr.inr.inr.inl => subst h; refine key 4 144 191 (by decide) ?_; go_enter Tryz.func115, Tryz.ntmps115; go_wp2; go_ret3; exact ⟨rfl, rfl⟩
 case inr.inr.inr.inr.inr.inr.inr.inl => subst h; refine key 4 128 143 (by decide) ?_; go_enter Tryz.func115, Tryz.ntmps115; go_wp2; go_ret3; exact ⟨rfl, rfl⟩
 ·refine key 1 0 0 (by simp [Q.bnd, h]) ?_
  have z1 : (n : Int) < 128 := by omega
  go_enter Tryz.func115, Tryz.ntmps115
  go_wp2
  go_ret3
  exact ⟨rfl, rfl⟩
 all_goals
  have z1 : ¬ (n : Int) < 128 := by omega
  have b1 : ((n : Int) == 224) = false := by rw [beq_eq_false_iff_ne]; omega
  have b2 : ((n : Int) == 237) = false := by rw [beq_eq_false_iff_ne]; omega
  have b3 : ((n : Int) == 240) = false := by rw [beq_eq_false_iff_ne]; omega
  have b4 : ((n : Int) == 244) = false := by rw [beq_eq_false_iff_ne]; omega
 focus
  refine key 0 0 0 ?_ ?_
  ·unfold Q.bnd; repeat' split
   all_goals first | rfl | (exfalso; omega)
  have d1 : ¬ (194 : Int) <= n := by omega
  have d2 : ¬ (224 : Int) < n := by omega
  have d3 : ¬ (240 : Int) < n := by omega
 rotate_left 1
 focus
  refine key 2 128 191 ?_ ?_
  ·unfold Q.bnd; repeat' split
   all_goals first | rfl | (exfalso; omega)
  have d1 : (194 : Int) <= n := by omega
  have d2 : (n : Int) < 224 := by omega
 rotate_left 1
 focus
  refine key 3 128 191 ?_ ?_
  ·unfold Q.bnd; repeat' split
   all_goals first | rfl | (exfalso; omega)
  have d1 : (194 : Int) <= n := by omega
  have d2 : ¬ (n : Int) < 224 := by omega
  have d3 : (224 : Int) < n := by omega
  have d4 : (n : Int) < 240 := by omega
 rotate_left 1
 focus
  refine key 4 128 191 ?_ ?_
  ·unfold Q.bnd; repeat' split
   all_goals first | rfl | (exfalso; omega)
  have d1 : (194 : Int) <= n := by omega
  have d2 : ¬ (n : Int) < 224 := by omega
  have d3 : (224 : Int) < n := by omega
  have d4 : ¬ (n : Int) < 240 := by omega
  have d5 : (240 : Int) < n := by omega
  have d6 : (n : Int) < 244 := by omega
 rotate_left 1
 focus
  refine key 0 0 0 ?_ ?_
  ·unfold Q.bnd; repeat' split
   all_goals first | rfl | (exfalso; omega)
  have d1 : (194 : Int) <= n := by omega
  have d2 : ¬ (n : Int) < 224 := by omega
  have d3 : (224 : Int) < n := by omega
  have d4 : ¬ (n : Int) < 240 := by omega
  have d5 : (240 : Int) < n := by omega
  have d6 : ¬ (n : Int) < 244 := by omega
 rotate_left 1
 all_goals
  go_enter Tryz.func115, Tryz.ntmps115
  go_wp2
  go_ret3
  exact ⟨rfl, rfl⟩
theorem drop_consW (s : ByteArray) (k : Nat) (h : k < s.size) : s.data.toList.drop k = s[k] :: s.data.toList.drop (k + 1) := by
 rw [List.drop_eq_getElem_cons (by simpa using h)]
 rfl
theorem drop_endW (s : ByteArray) (k : Nat) (h : s.size <= k) : s.data.toList.drop k = [] := by
 rw [List.drop_eq_nil_iff]
 simpa using h
theorem ret_ibW {a b : Int} {p q : Bool} (h : a = b) (h2 : p = q) : Ending.returned (.tuple #[.int .i64 a, .bool p]) = .returned (.tuple #[.int .i64 b, .bool q]) := by rw [h, h2]
end Go.Proofs.YtdgfjdhobdfglaaGreatDoor
