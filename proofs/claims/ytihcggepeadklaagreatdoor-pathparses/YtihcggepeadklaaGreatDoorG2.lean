/- joined: ChkB RowA PthA Utf Plain -/
import Derived.Test.YtihcggepeadklaaGreatDoorG1
import Derived.Laws.Cover1
import Derived.Test.YtihcggepeadklaaGreatDoorRows
import Derived.Lib.LaidIn
import Derived.Lib.LaidU8T
import Derived.WideKeyArgs
import Derived.OpenShut
import Derived.Deep.DeepHandedRow
import Derived.Lib.ValidLaws
/- value.rising. -/
set_option linter.unusedSimpArgs false
set_option linter.unusedVariables false
namespace Go.Proofs.YtihcggepeadklaaGreatDoor
open Go.RowKit Go.Lib
def keyAt (l : List Mem) (j : Nat) : ByteArray := match l[j]? with | some x => x.1 | none => ⟨#[]⟩
theorem keyAt_eq {l : List Mem} {j : Nat} (h : j < l.length) : keyAt l j = (l[j]).1 := by simp [keyAt, h]
def utfB (s : ByteArray) : Bool := validD s.data.toList
def ltB (a b : ByteArray) : Bool := Op.bytesLess a.toList b.toList
def okAt (l : List Mem) (j : Nat) : Bool := utfB (keyAt l j) && (decide (j = 0) || ltB (keyAt l (j - 1)) (keyAt l j))
def riseB (l : List Mem) : Bool := (List.range l.length).all (okAt l)
theorem riseB_true {l : List Mem} (h : ∀ j, j < l.length → okAt l j = true) : riseB l = true := by
  simp only [riseB, List.all_eq_true, List.mem_range]; exact h
theorem riseB_false {l : List Mem} {j : Nat} (hj : j < l.length) (h : okAt l j = false) : riseB l = false := by
  rw [riseB, List.all_eq_false]; exact ⟨j, by simpa using hj, by simp [h]⟩
theorem V.ten {R : Bool} {w : World} {S : Nat → Prop} {v : V} {cs : List Value} (h : v.lies R w S cs) : ∃ k b i s al nl cl am nm cm, cs = [.int .i64 k, .bool b, .int .i64 i, .string s, .slice al nl cl, .slice am nm cm] := by
  cases v
  rw [V.lies] at h
  obtain ⟨al, cl, bl, ol, am, cm, bm, om, e, _⟩ := h
  exact ⟨_, _, _, _, _, _, _, _, _, _, e⟩
set_option maxHeartbeats 4000000 in
set_option maxRecDepth 100000 in
theorem rising_any (R : Bool) (l : List Mem) (am : Option Addr) (cm bm om : Nat) (S : Nat → Prop) (w : World) (t : Tb w) (ham : Headed am l.length cm bm om) (hl : liesM R w S l bm om) (hS : ∀ b, S b → b < w.heap.size) (hwt : wtM l ≤ 281474976710656) :
    Calls Tryz.prog 173 #[.slice am l.length cm] w (BPost (riseB l) w) := by
  have HL : Hid (liesM R w S l bm om) := hl
  clear hl
  have hlen := wtM_len l
  go_enter Tryz.func173, Tryz.ntmps173
  go_wp2_with fail
  go_loopw [7] (fun e wr => ∃ j : Nat, j ≤ l.length ∧ e = .int .i64 (j : Int) ∧ Below w.heap.size w wr ∧ Hid (∀ q, q < j → okAt l q = true)) (fun e _ => l.length - (RowKit.intOf e).toNat)
  case atStart => exact ⟨0, by omega, rfl, Below.refl _ _, fun q hq => by omega⟩
  case round =>
    obtain ⟨j, hj, rfl, bj, ok⟩ := hrel
    by_cases hjl : j < l.length
    · have y1 : (j : Int) < l.length := by omega
      obtain ⟨hSb, hks, csj, hrow, hlj⟩ := liesM_get HL.out j hjl
      obtain rfl : am = some ⟨bm, om, none⟩ := ham.at_.resolve_left (by omega)
      have hrow' := hrow.keep (bj.block _ (hS _ hSb))
      obtain ⟨ek, eb, ei, es, eal, enl, ecl, eam, enm, ecm, rfl⟩ := V.ten hlj
      obtain ⟨q, q0, q1, q2, q3, q4, q5⟩ := row7 hrow'
      clear hlj hrow hrow'
      have hkz : (l[j]).1.size ≤ 281474976710656 := by have := wtM_mem (List.getElem_mem hjl); omega
      have HK : Hid (keyAt l j = (l[j]).1) := keyAt_eq hjl
      generalize (l[j]).1 = key at *
      have tj : Tb wr := t.below bj (by have := t.z; omega)
      have hz : wr.heap.size ≥ w.heap.size := bj.size
      let oB : Obj := .cells #[.string key, .int .i64 ek, .bool eb, .int .i64 ei, .string es, .slice eal enl ecl, .slice eam enm ecm] 50
      have hzo : (wr.alloc oB).heap.size = wr.heap.size + 1 := alloc_size wr oB
      have cv : ∀ x : Sub (wr.heap.size + 1) (wr.alloc oB), Calls Tryz.prog 66 #[.string key] x.w fun e w'' => e = .returned (.bool (validD key.data.toList)) ∧ ∃ y : Sub (wr.heap.size + 1) (wr.alloc oB), w'' = y.w :=
        sub_call fun w' hb => by
          have t1 : Tb w' := (tj.grown (World.grownBy_alloc wr oB none) (fun r e => by cases e)).below hb (by have := tj.z; omega)
          refine (validString_any key w' hkz t1.u).mono fun e w'' ⟨he, h2⟩ => ⟨he, hb.trans (h2.mono (by rw [← hzo]; exact hb.size))⟩
      have x0 : ∀ x : Sub (wr.heap.size + 1) (wr.alloc oB), x.w.cell? ⟨wr.heap.size, 0, none⟩ = some (.string key) := sub_cell (box_row wr [.string key, .int .i64 ek, .bool eb, .int .i64 ei, .string es, .slice eal enl ecl, .slice eam enm ecm] 50 0 _ rfl) (by omega)
      have CV : Hid _ := cv
      have hback : ∀ wq, Below (wr.heap.size + 1) (wr.alloc oB) wq → Below w.heap.size w wq := fun wq h => (bj.alloc (by omega) oB).trans (h.mono (by omega))
      clear cv
      cases hV : validD key.data.toList
      · have HV : Hid (okAt l j = false) := by show _ = _; simp [okAt, HK.out, utfB, hV]
        have CF : Hid (∀ x : Sub (wr.heap.size + 1) (wr.alloc oB), Calls Tryz.prog 66 #[.string key] x.w fun e w'' => e = .returned (.bool false) ∧ ∃ y : Sub (wr.heap.size + 1) (wr.alloc oB), w'' = y.w) := by rw [← hV]; exact CV.out
        clear hV CV
        go_wp2_with fail
        refine wp_region_sub (wr.heap.size + 1) (by kernel_rfl) (by kernel_rfl) ?_
        repeat (go_big_quiet_step (exact CF.out _))
        refine wpQuiet_nil ?_
        rintro _ ⟨⟨wq, bq⟩, rfl⟩
        go_wp2_with fail
        go_ret
        exact ⟨by rw [riseB_false hjl HV.out]; rfl, hback _ bq⟩
      · have CF : Hid (∀ x : Sub (wr.heap.size + 1) (wr.alloc oB), Calls Tryz.prog 66 #[.string key] x.w fun e w'' => e = .returned (.bool true) ∧ ∃ y : Sub (wr.heap.size + 1) (wr.alloc oB), w'' = y.w) := by rw [← hV]; exact CV.out
        by_cases hj0 : j = 0
        · have HV : Hid (okAt l j = true) := by show _ = _; rw [okAt, HK.out]; simp [utfB, hV, hj0]
          have HO : Hid (∀ q, q < j + 1 → okAt l q = true) := fun q hq => by
            by_cases hqj : q < j
            · exact ok.out q hqj
            · obtain rfl : q = j := by omega
              exact HV.out
          have yj : decide ((0 : Int) < (j : Int)) = false := by simp [hj0]
          have yk : decide (0 < j) = false := by simp [hj0]
          clear hV CV hj0 HV
          go_wp2_with fail
          refine wp_region_sub (wr.heap.size + 1) (by kernel_rfl) (by kernel_rfl) ?_
          repeat (go_big_quiet_step (exact CF.out _))
          refine wpQuiet_nil ?_
          rintro _ ⟨⟨wq, bq⟩, rfl⟩
          go_wp2_with fail
          go_roundw
          case rel => exact ⟨j + 1, by omega, by go_num, hback _ bq, HO⟩
          case measure => simp [RowKit.intOf]; omega
        · obtain ⟨p, rfl⟩ : ∃ p, j = p + 1 := ⟨j - 1, by omega⟩
          obtain ⟨hSb', hks', csp, hrowp, _⟩ := liesM_get HL.out p (by omega)
          have hrowp' := hrowp.keep (bj.block _ (hS _ hSb'))
          have p0 : wr.cell? ⟨bm, om + p * 7, none⟩ = some (.string (l[p]'(by omega)).1) := hrowp' 0 _ rfl
          have HP : Hid (keyAt l p = (l[p]'(by omega)).1) := keyAt_eq (by omega)
          generalize (l[p]'(by omega)).1 = prev at *
          have hbb : bm < wr.heap.size := World.block_lt_of_cell? wr _ p0
          have p1 : (wr.alloc oB).cell? ⟨bm, om + p * 7, none⟩ = some (.string prev) := (World.cell?_of_block (w := wr) (a := ⟨bm, om + p * 7, none⟩) (Below.heap_alloc wr oB bm hbb)).trans p0
          have x1 : ∀ x : Sub (wr.heap.size + 1) (wr.alloc oB), x.w.cell? ⟨bm, om + p * 7, none⟩ = some (.string prev) := sub_cell p1 (by omega)
          have y2 : (p : Int) < l.length := by omega
          have y3 : decide ((0 : Int) < (p : Int) + 1) = true := by simp
          clear hrowp hrowp'
          cases hL : Op.bytesLess prev.toList key.toList
          · have HV : Hid (okAt l (p + 1) = false) := by show _ = _; rw [okAt, HK.out, Nat.add_sub_cancel, HP.out]; simp [utfB, ltB, hL]
            clear hV CV HK HP
            go_wp2_with fail
            refine wp_region_sub (wr.heap.size + 1) (by kernel_rfl) (by kernel_rfl) ?_
            repeat (go_big_quiet_step (exact CF.out _))
            refine wpQuiet_nil ?_
            rintro _ ⟨⟨wq, bq⟩, rfl⟩
            go_wp2_with fail
            go_ret
            exact ⟨by rw [riseB_false hjl HV.out]; rfl, hback _ bq⟩
          · have HV : Hid (okAt l (p + 1) = true) := by show _ = _; rw [okAt, HK.out, Nat.add_sub_cancel, HP.out]; simp [utfB, ltB, hL, hV]
            have HO : Hid (∀ q, q < p + 1 + 1 → okAt l q = true) := fun q hq => by
              by_cases hqj : q < p + 1
              · exact ok.out q hqj
              · obtain rfl : q = p + 1 := by omega
                exact HV.out
            clear hV CV HK HP HV
            go_wp2_with fail
            refine wp_region_sub (wr.heap.size + 1) (by kernel_rfl) (by kernel_rfl) ?_
            repeat (go_big_quiet_step (exact CF.out _))
            refine wpQuiet_nil ?_
            rintro _ ⟨⟨wq, bq⟩, rfl⟩
            go_wp2_with fail
            go_roundw
            case rel => exact ⟨p + 1 + 1, by omega, by go_num, hback _ bq, HO⟩
            case measure => simp [RowKit.intOf]; omega
    · obtain rfl : j = l.length := by omega
      have y1 : ¬ (l.length : Int) < l.length := by omega
      go_wp2_with fail
      go_ret
      exact ⟨by rw [riseB_true ok.out]; rfl, bj⟩
end Go.Proofs.YtihcggepeadklaaGreatDoor
/- What the rows need: the tables, the arguments opened and given back, a world for the witness. -/
namespace Go.Proofs.YtihcggepeadklaaGreatDoor
open Go.Shelf Go.Lib Go.ChangeShapes Go.RowKit
theorem accept_eq : Rows.laid_unicode_utf8_acceptRanges = Lib.acceptData := by kernel_rfl
theorem first_eq : Rows.laid_unicode_utf8_first = Lib.firstData := by kernel_rfl
theorem utabs_of {W : World} (h3 : VarReads Tryz.prog W "unicode/utf8.first" Rows.laid_unicode_utf8_first) (h4 : VarReads Tryz.prog W "unicode/utf8.acceptRanges" Rows.laid_unicode_utf8_acceptRanges) : Utf8Tabs 0 1 W := by
  rw [first_eq] at h3
  rw [accept_eq] at h4
  exact utf8Tabs_of_readsT (U8Types.of196 Tryz.lays196) ⟨by kernel_rfl, by kernel_rfl, by kernel_rfl, by kernel_rfl, by kernel_rfl, by kernel_rfl, by kernel_rfl⟩ h3 h4
theorem own : ownKnob Tryz.prog.godebug = none := by kernel_rfl
def putCells (cs : Array Value) : Obj → Obj
  | .cells _ t frozen => .cells cs t frozen
  | o => o
variable {H : Type} {enc : TypeId × Value → H}
theorem block_lt {W : World} {b o : Nat} {v : Value} (h : W.cell? ⟨b, o, none⟩ = some v) : b < W.heap.size := World.block_lt_of_cell? W ⟨b, o, none⟩ h
end Go.Proofs.YtihcggepeadklaaGreatDoor
/- Elements and paths: what they are, how they lie in memory, how an argument is opened. -/
namespace Go.Proofs.YtihcggepeadklaaGreatDoor
open Go.ChangeShapes Go.WideShapes Go.Deep
structure El where
  kind : Int
  name : ByteArray
  key : List Mem
  item : V
theorem hmk {P : Prop} (h : P) : Go.RowKit.Hid P := h
/-- the element lies in these nine cells, and below in blocks of S -/
def El.lies (w : World) (S : Nat → Prop) (e : El) (cs : List Value) : Prop :=
  ∃ am cm bm om is, cs = .int .i64 e.kind :: .string e.name :: .slice am e.key.length cm :: is ∧ In64 e.kind ∧ e.name.size ≤ maxLen ∧ Headed am e.key.length cm bm om ∧ liesM false w S e.key bm om ∧ e.item.lies false w S is
def liesP (w : World) (S : Nat → Prop) (p : List El) (b o : Nat) : Prop := ∀ (j : Nat) (h : j < p.length), S b ∧ ∃ cs, rowAt w b (o + j * 9) cs ∧ (p[j]).lies w S cs
theorem El.lies_keep {w w' : World} {S S' : Nat → Prop} (hw : ∀ b, S b → w'.heap[b]? = w.heap[b]?) (hS : ∀ b, S b → S' b) {e : El} {cs : List Value} (h : e.lies w S cs) : e.lies w' S' cs := by
  obtain ⟨am, cm, bm, om, is, h0, h1, h2, h3, h4, h5⟩ := h
  exact ⟨am, cm, bm, om, is, h0, h1, h2, h3, liesM_keep (fun h => h) hw hS _ h4, V.lies_keep (fun h => h) hw hS _ h5⟩
theorem liesP_keep {w w' : World} {S S' : Nat → Prop} (hw : ∀ b, S b → w'.heap[b]? = w.heap[b]?) (hS : ∀ b, S b → S' b) {p : List El} {b o : Nat} (h : liesP w S p b o) : liesP w' S' p b o := fun j hj => by
  obtain ⟨h1, cs, h2, h3⟩ := h j hj
  exact ⟨hS _ h1, cs, h2.keep (hw _ h1), El.lies_keep hw hS h3⟩
/-- the nine cells -/
theorem El.nine {w : World} {S : Nat → Prop} {e : El} {cs : List Value} (h : e.lies w S cs) : ∃ k s am nm cm vk vb vi vs val vnl vcl vam vnm vcm, cs = [.int .i64 k, .string s, .slice am nm cm, .int .i64 vk, .bool vb, .int .i64 vi, .string vs, .slice val vnl vcl, .slice vam vnm vcm] := by
  obtain ⟨am, cm, bm, om, is, rfl, _, _, _, _, h5⟩ := h
  obtain ⟨k, n, ky, v⟩ := e
  obtain ⟨vk, vb, vi, vs, vl, vm⟩ := v
  rw [V.lies] at h5
  obtain ⟨al, cl, bl, ol, am', cm', bm', om', rfl, _⟩ := h5
  exact ⟨_, _, _, _, _, _, _, _, _, _, _, _, _, _, _, rfl⟩
theorem row9 {w : World} {b o : Nat} {c0 c1 c2 c3 c4 c5 c6 c7 c8 : Value} (h : rowAt w b o [c0, c1, c2, c3, c4, c5, c6, c7, c8]) :
    w.cell? ⟨b, o, none⟩ = some c0 ∧ w.cell? ⟨b, o + 1, none⟩ = some c1 ∧ w.cell? ⟨b, o + 2, none⟩ = some c2 ∧ w.cell? ⟨b, o + 3, none⟩ = some c3 ∧ w.cell? ⟨b, o + 4, none⟩ = some c4 ∧ w.cell? ⟨b, o + 5, none⟩ = some c5 ∧ w.cell? ⟨b, o + 6, none⟩ = some c6 ∧ w.cell? ⟨b, o + 7, none⟩ = some c7 ∧ w.cell? ⟨b, o + 8, none⟩ = some c8 :=
  ⟨h 0 _ rfl, h 1 _ rfl, h 2 _ rfl, h 3 _ rfl, h 4 _ rfl, h 5 _ rfl, h 6 _ rfl, h 7 _ rfl, h 8 _ rfl⟩
theorem row9z {w : World} {b : Nat} {c0 c1 c2 c3 c4 c5 c6 c7 c8 : Value} (h : rowAt w b 0 [c0, c1, c2, c3, c4, c5, c6, c7, c8]) :
    w.cell? ⟨b, 0, none⟩ = some c0 ∧ w.cell? ⟨b, 1, none⟩ = some c1 ∧ w.cell? ⟨b, 2, none⟩ = some c2 ∧ w.cell? ⟨b, 3, none⟩ = some c3 ∧ w.cell? ⟨b, 4, none⟩ = some c4 ∧ w.cell? ⟨b, 5, none⟩ = some c5 ∧ w.cell? ⟨b, 6, none⟩ = some c6 ∧ w.cell? ⟨b, 7, none⟩ = some c7 ∧ w.cell? ⟨b, 8, none⟩ = some c8 := by
  have := row9 h
  simpa using this
/-- how many bytes and values -/
def El.wt (e : El) : Nat := e.item.wt + e.name.size + wtM e.key
theorem El.wt_pos (e : El) : 1 ≤ e.wt := by have := V.wt_pos e.item; unfold El.wt; omega
section
variable {H : Type} {enc : TypeId × Value → H} {w : World} {spare : Nat → Bool} {held : Bool}
end
end Go.Proofs.YtihcggepeadklaaGreatDoor
/- Plain facts on UTF-8, sequence by sequence. -/
namespace Go.Proofs.YtihcggepeadklaaGreatDoor.Q
/-- the first byte of a sequence: how many bytes, the least and the greatest second byte -/
def bnd (b : Nat) : Nat × Nat × Nat :=
  if b < 128 then (1, 0, 0) else if 194 ≤ b ∧ b < 224 then (2, 128, 191) else if b = 224 then (3, 160, 191) else if b = 237 then (3, 128, 159)
  else if 224 < b ∧ b < 240 then (3, 128, 191) else if b = 240 then (4, 144, 191) else if b = 244 then (4, 128, 143) else if 240 < b ∧ b < 244 then (4, 128, 191) else (0, 0, 0)
/-- from the k-th byte of a sequence of n on -/
def nxtGo (n : Nat) : Nat → Nat → Nat → List UInt8 → Nat × Bool
  | k, lo, hi, [] => if n ≤ k then (n, true) else (k, false)
  | k, lo, hi, c :: t => if n ≤ k then (n, true) else if c.toNat < lo ∨ hi < c.toNat then (k, false) else nxtGo n (k + 1) 128 191 t
/-- the sequence at the head: how far it goes, and whether it is whole -/
def nxt : List UInt8 → Nat × Bool
  | [] => (0, false)
  | b :: t => if (bnd b.toNat).1 = 0 then (0, false) else nxtGo (bnd b.toNat).1 1 (bnd b.toNat).2.1 (bnd b.toNat).2.2 t
theorem nxt_cons (b : UInt8) (t : List UInt8) : nxt (b :: t) = if (bnd b.toNat).1 = 0 then (0, false) else nxtGo (bnd b.toNat).1 1 (bnd b.toNat).2.1 (bnd b.toNat).2.2 t := rfl
theorem nxtGo_le (n : Nat) : ∀ (t : List UInt8) (k lo hi : Nat), 1 ≤ k → k ≤ n → k ≤ (nxtGo n k lo hi t).1 ∧ (nxtGo n k lo hi t).1 ≤ k + t.length ∧ (nxtGo n k lo hi t).1 ≤ n ∧ ((nxtGo n k lo hi t).2 = true → (nxtGo n k lo hi t).1 = n)
  | [], k, lo, hi, h, hn => by
    unfold nxtGo
    split <;> simp <;> omega
  | c :: t, k, lo, hi, h, hn => by
    unfold nxtGo
    split
    · simp; omega
    · split
      · simp; omega
      · have := nxtGo_le n t (k + 1) 128 191 (by omega) (by omega)
        simp only [List.length_cons]
        refine ⟨by omega, by omega, this.2.2⟩
theorem bnd_le (b : Nat) : (bnd b).1 ≤ 4 := by
  unfold bnd
  repeat' split
  all_goals simp
theorem nxt_le (l : List UInt8) : (nxt l).1 ≤ l.length ∧ (nxt l).1 ≤ 4 ∧ ((nxt l).2 = true → 1 ≤ (nxt l).1) := by
  cases l with
  | nil => simp [nxt]
  | cons b t =>
    rw [nxt_cons]
    split
    · simp
    · have := nxtGo_le (bnd b.toNat).1 t 1 (bnd b.toNat).2.1 (bnd b.toNat).2.2 (by omega) (by omega)
      have hb := bnd_le b.toNat
      simp only [List.length_cons]
      refine ⟨by omega, by omega, fun _ => by omega⟩
theorem bnd_tab : ∀ b : Fin 256, 128 ≤ b.val → (bnd b.val).1 = (if Lib.firstT b.val % 8 = 1 then 0 else Lib.firstT b.val % 8) ∧ ((bnd b.val).1 = 0 ∨ (bnd b.val).1 = 2 ∨ (bnd b.val).1 = 3 ∨ (bnd b.val).1 = 4) ∧ ((bnd b.val).1 ≠ 0 → (bnd b.val).2.1 = Lib.accLo (Lib.firstT b.val / 16) ∧ (bnd b.val).2.2 = Lib.accHi (Lib.firstT b.val / 16)) := by decide +kernel
theorem nxt_check (b : UInt8) (t : List UInt8) (hb : 128 ≤ b.toNat) :
    Lib.checkN (t.length + 1) (t.getD 0 0).toNat (t.getD 1 0).toNat (t.getD 2 0).toNat (Lib.firstT b.toNat % 8) (Lib.accLo (Lib.firstT b.toNat / 16)) (Lib.accHi (Lib.firstT b.toNat / 16)) = (if (nxt (b :: t)).2 then some (nxt (b :: t)).1 else none) := by
  obtain ⟨h1, h2, h3⟩ := bnd_tab ⟨b.toNat, b.toNat_lt⟩ hb
  simp only at h1 h2 h3
  rw [nxt_cons]
  generalize bnd b.toNat = B at *
  obtain ⟨n, lo, hi⟩ := B
  simp only at h1 h2 h3 ⊢
  rcases h2 with rfl | rfl | rfl | rfl
  · have e : Lib.firstT b.toNat % 8 = 1 ∨ Lib.firstT b.toNat % 8 = 0 := by split at h1 <;> omega
    rcases e with e | e <;> simp [Lib.checkN, e]
  · have e : Lib.firstT b.toNat % 8 = 2 := by split at h1 <;> omega
    obtain ⟨rfl, rfl⟩ := h3 (by omega)
    rw [e]
    rcases t with _ | ⟨c1, t⟩
    · simp [Lib.checkN, nxtGo]
    · simp only [Lib.checkN, nxtGo, List.length_cons, List.getD_cons_zero]
      by_cases c : c1.toNat < Lib.accLo (Lib.firstT b.toNat / 16) ∨ Lib.accHi (Lib.firstT b.toNat / 16) < c1.toNat
      · simp [c]
      · cases t <;> simp [c, nxtGo]
  · have e : Lib.firstT b.toNat % 8 = 3 := by split at h1 <;> omega
    obtain ⟨rfl, rfl⟩ := h3 (by omega)
    rw [e]
    generalize Lib.accLo (Lib.firstT b.toNat / 16) = lo
    generalize Lib.accHi (Lib.firstT b.toNat / 16) = hi
    rcases t with _ | ⟨c1, t⟩
    · simp [Lib.checkN, nxtGo]
    · by_cases c : c1.toNat < lo ∨ hi < c1.toNat
      · simp only [Lib.checkN, nxtGo, List.length_cons, List.getD_cons_zero]
        rcases c with c | c <;> simp [c]
      · have c' := not_or.1 c
        rcases t with _ | ⟨c2, t⟩
        · simp [Lib.checkN, nxtGo, c]
        · by_cases d : c2.toNat < 128 ∨ 191 < c2.toNat
          · rcases d with d | d <;> simp [Lib.checkN, nxtGo, c, c'.1, c'.2, d]
          · have d' := not_or.1 d
            cases t <;> simp [Lib.checkN, nxtGo, c, d, c'.1, c'.2, d'.1, d'.2]
  · have e : Lib.firstT b.toNat % 8 = 4 := by split at h1 <;> omega
    obtain ⟨rfl, rfl⟩ := h3 (by omega)
    rw [e]
    generalize Lib.accLo (Lib.firstT b.toNat / 16) = lo
    generalize Lib.accHi (Lib.firstT b.toNat / 16) = hi
    rcases t with _ | ⟨c1, t⟩
    · simp [Lib.checkN, nxtGo]
    · by_cases c : c1.toNat < lo ∨ hi < c1.toNat
      · simp only [Lib.checkN, nxtGo, List.length_cons, List.getD_cons_zero]
        rcases c with c | c <;> simp [c]
      · have c' := not_or.1 c
        rcases t with _ | ⟨c2, t⟩
        · simp [Lib.checkN, nxtGo, c]
        · by_cases d : c2.toNat < 128 ∨ 191 < c2.toNat
          · rcases d with d | d <;> simp [Lib.checkN, nxtGo, c, c'.1, c'.2, d]
          · have d' := not_or.1 d
            rcases t with _ | ⟨c3, t⟩
            · simp [Lib.checkN, nxtGo, c, d]
            · by_cases f : c3.toNat < 128 ∨ 191 < c3.toNat
              · rcases f with f | f <;> simp [Lib.checkN, nxtGo, c, d, c'.1, c'.2, d'.1, d'.2, f]
              · have f' := not_or.1 f
                cases t <;> simp [Lib.checkN, nxtGo, c, d, f, c'.1, c'.2, d'.1, d'.2, f'.1, f'.2]
/-- 'valid', sequence by sequence. -/
theorem valid_step (l : List UInt8) (hne : l ≠ []) : Lib.validD l = (if (nxt l).2 then Lib.validD (l.drop (nxt l).1) else false) := by
  cases l with
  | nil => exact absurd rfl hne
  | cons b t =>
    by_cases hb : b.toNat < 128
    · rw [Lib.validD_cons b t hb]
      have e : nxt (b :: t) = (1, true) := by
        have : bnd b.toNat = (1, 0, 0) := by simp [bnd, hb]
        cases t <;> simp [nxt_cons, this, nxtGo]
      rw [e]
      rfl
    · have h := Lib.validD_lead (b :: t) hne (by simpa using (by omega : 128 ≤ b.toNat))
      rw [h]
      have k := nxt_check b t (by omega)
      simp only [List.getD_cons_zero, List.getD_cons_succ, List.length_cons] at k ⊢
      rw [k]
      by_cases g : (nxt (b :: t)).2 = true
      · simp [g]
      · simp [g]
end Go.Proofs.YtihcggepeadklaaGreatDoor.Q
/- Plain facts on bytes for layer 1 (quote): letters, quoted texts, sequences. Nothing of the program here. -/
namespace Go.Proofs.YtihcggepeadklaaGreatDoor.Q
/-- the letter that a backslash writes a byte with; 0: none -/
def letN (c : Nat) : Nat :=
  if c = 34 then 34 else if c = 92 then 92 else if c = 8 then 98 else if c = 9 then 116 else if c = 10 then 110 else if c = 12 then 102 else if c = 13 then 114 else 0
def hexN (d : Nat) : Nat := if d < 10 then 48 + d else 87 + d
def widN (c : Nat) : Nat := if letN c ≠ 0 then 2 else if c < 32 then 6 else 1
/-- what is written for one byte, as numbers -/
def escN (c : Nat) : List Nat :=
  if letN c ≠ 0 then [92, letN c] else if c < 32 then [92, 117, 48, 48, hexN (c / 16), hexN (c % 16)] else [c]
theorem escN_length (c : Nat) : (escN c).length = widN c := by
  unfold escN widN
  split
  · rfl
  · split <;> rfl
theorem widN_le (c : Nat) : 1 ≤ widN c ∧ widN c ≤ 6 := by
  unfold widN
  split
  · omega
  · split <;> omega
def esc (c : UInt8) : List UInt8 := (escN c.toNat).map UInt8.ofNat
def wid (c : UInt8) : Nat := widN c.toNat
theorem esc_length (c : UInt8) : (esc c).length = wid c := by
  unfold esc wid
  rw [List.length_map, escN_length]
def body (l : List UInt8) : List UInt8 := l.flatMap esc
def sz (l : List UInt8) : Nat := (body l).length
theorem body_snoc (l : List UInt8) (c : UInt8) : body (l ++ [c]) = body l ++ esc c := by
  simp [body]
theorem sz_snoc (l : List UInt8) (c : UInt8) : sz (l ++ [c]) = sz l + wid c := by
  simp only [sz, body_snoc, List.length_append, esc_length]
theorem sz_le (l : List UInt8) : sz l ≤ 6 * l.length := by
  induction l with
  | nil => simp [sz, body]
  | cons c t ih =>
    have h : sz (c :: t) = wid c + sz t := by simp [sz, body, esc_length]
    have := (widN_le c.toNat).2
    have hw : wid c ≤ 6 := this
    rw [h, List.length_cons]
    omega
def qt (l : List UInt8) : List UInt8 := 34 :: (body l ++ [34])
theorem qt_length (l : List UInt8) : (qt l).length = 2 + sz l := by
  simp [qt, sz]; omega
end Go.Proofs.YtihcggepeadklaaGreatDoor.Q
