/- joined: BorP TrmB SimA SimB SimC SimD -/
import Derived.Test.YtolekldjbbjmjaaGreatDoorRdH
import Derived.Test.YtolekldjbbjmjaaGreatDoorG8
/- What is unquoted is no longer than the text. -/
namespace Go.Proofs.YtolekldjbbjmjaaGreatDoor
open Go.RowKit Go.Lib
theorem Q.borne_of (s : ByteArray) (z : Int) (hs : s.size ≤ 140737488355000) : Q.Borne (Q.unqAll s.data.toList z) := by
  have h := Q.unqAll_inv s.data.toList z
  have hl : s.data.toList.length = s.size := by simp
  rw [hl] at h
  refine ⟨fun c => ?_, fun _ => by omega⟩
  have := (h.2 c).2.2.2.2
  omega
theorem Q.unq_place (s : ByteArray) (z : Int) : (Q.unqAll s.data.toList z).2.1 ≤ s.size ∧ ((Q.unqAll s.data.toList z).2.2 = 0 → (Q.unqAll s.data.toList z).1.length ≤ s.size) := by
  have h := Q.unqAll_inv s.data.toList z
  have hl : s.data.toList.length = s.size := by simp
  rw [hl] at h
  refine ⟨by omega, fun c => ?_⟩
  have := (h.2 c).2.2.2.2
  omega
end Go.Proofs.YtolekldjbbjmjaaGreatDoor
/- Terms: the guard. -/
set_option linter.unusedSimpArgs false
set_option linter.unusedVariables false
namespace Go.Proofs.YtolekldjbbjmjaaGreatDoor
open Go.RowKit
def BeyT (l : List Trm) (w : World) (e : Ending) (w' : World) : Prop := ∃ r, e = .returned (.bool r) ∧ (r = false → wtT l ≤ 2147483647) ∧ Below w.heap.size w w'
set_option maxHeartbeats 8000000 in
set_option maxRecDepth 100000 in
theorem terms_any (l : List Trm) (R : Bool) (S : Nat → Prop) (al : Option Addr) (cl bl ol : Nat) (w : World) (hh : Headed al l.length cl bl ol) (hl : liesT R w S l bl ol) (hS : ∀ b, S b → b < w.heap.size) :
    Calls Tryz.prog 8 #[.slice al l.length cl] w (BeyT l w) := by
  have hX := heap_alloc_new w (.cells #[.int .i64 0] 47)
  have hz : (w.alloc (.cells #[.int .i64 0] 47)).heap.size = w.heap.size + 1 := by simp
  have HL := hmk hl
  have HH := hmk hh
  have hm : l.length ≤ 9223372036854775807 := Nat.le_trans hh.le hh.max
  have hC : Cnt w.heap.size 0 (w.alloc (.cells #[.int .i64 0] 47)) := ⟨by rw [cell_of_block hX]; rfl, frozen_of_block hX 0⟩
  have hG : w.grownBy (w.alloc (.cells #[.int .i64 0] 47)) (some w.heap.size) := World.grownBy_alloc _ _ _
  clear hh hl hX
  go_enter Tryz.func8, Tryz.ntmps8
  go_wp2_with fail
  generalize (w.alloc (.cells #[.int .i64 0] 47)) = w0 at *
  go_loopw [4] (fun e4 wr => ∃ j : Nat, j ≤ l.length ∧ e4 = .int .i64 (j : Int) ∧ wtT (l.take j) ≤ 2147483647 ∧ Hid (Cnt w.heap.size (wtT (l.take j)) wr) ∧ Hid (w.grownBy wr (some w.heap.size))) (fun e4 _ => l.length - (RowKit.intOf e4).toNat)
  case atStart => exact ⟨0, by omega, rfl, by simp [wtT], (by show Cnt _ _ _; simpa [wtT] using hC), hG⟩
  case round =>
    clear hC hG
    obtain ⟨j, hj, rfl, hw, HC, HG⟩ := hrel
    by_cases hjl : j < l.length
    · have y1 : (j : Int) < l.length := by omega
      obtain ⟨hSb, cs, hrow, ht⟩ := HL.out j hjl
      obtain ⟨a, c, tb, to', rfl, hop, hks, htd, hts, _⟩ := ht
      obtain rfl : al = some ⟨bl, ol, none⟩ := HH.out.at_.resolve_left (by omega)
      have hne : ∀ b, S b → some b ≠ some w.heap.size := fun b hb e => by have := hS b hb; have := Option.some.inj e; omega
      have hk : ∀ b, S b → wr.heap[b]? = w.heap[b]? := fun b hb => HG.out.block b (hS b hb) (hne b hb)
      obtain ⟨q, q0, q1⟩ := row3 (hrow.keep (hk _ hSb))
      have hwt := wtT_take hjl
      have HR : Hid (∀ W, w.grownBy W (some w.heap.size) → W.cell? ⟨bl, ol + j * 3 + 2, none⟩ = some (.slice a (l[j]).2.2.length c)) := fun W hW => (row3 (hrow.keep (hW.block _ (hS _ hSb) (hne _ hSb)))).2.2
      obtain ⟨⟨key, op, vs⟩, hx⟩ : ∃ x, l[j] = x := ⟨_, rfl⟩
      rw [hx] at hwt hts hks htd HR q q0 q1
      simp only at hwt hts hks htd HR q q0 q1
      have HTS := hmk hts
      have HTD := hmk htd
      have hvl : vs.length ≤ 9223372036854775807 := Nat.le_trans htd.le htd.max
      have CM := hmk (many_any w.heap.size (wtT (l.take j)) (1 + key.size) wr HC.out hw (by unfold maxLen; omega))
      have hkz : IntKind.i64.wrap (1 + (key.size : Int)) = 1 + (key.size : Int) := wrap_small _ (by omega) (by omega)
      have hcast : ((1 + key.size : Nat) : Int) = 1 + (key.size : Int) := by omega
      rw [hcast] at CM
      clear hrow hop hts htd hx HC
      generalize hWj : wtT (l.take j) = wj at *
      generalize hWk : wtT (l.take (j + 1)) = wk at *
      go_wp2_with fail
      refine CM.out.mono ?_
      rintro e w1 ⟨r, rfl, g1, hr⟩
      have HG1 := hmk (grown_trans HG.out g1)
      clear CM HG g1 q q0 q1
      cases r with
      | true =>
        go_wp2_with fail
        go_ret
        exact ⟨true, rfl, (fun h => by cases h), HG1.out.os, HG1.out.tape, HG1.out.output, HG1.out.size, fun b hb => HG1.out.block b hb (fun e => by have := Option.some.inj e; omega)⟩
      | false =>
        obtain ⟨hn1, hc1⟩ := hr rfl
        have HC1 := hmk hc1
        clear hr hc1
        go_wp2_with fail
        go_loopw [6] (fun e6 wq => ∃ k : Nat, k ≤ vs.length ∧ e6 = .int .i64 (k : Int) ∧ wj + (1 + key.size) + wtS (vs.take k) ≤ 2147483647 ∧ Hid (Cnt w.heap.size (wj + (1 + key.size) + wtS (vs.take k)) wq) ∧ Hid (w.grownBy wq (some w.heap.size))) (fun e6 _ => vs.length - (RowKit.intOf e6).toNat)
        case atStart => exact ⟨0, by omega, rfl, by simpa [wtS] using hn1, (by show Cnt _ _ _; simpa [wtS] using HC1.out), HG1⟩
        case round =>
          clear HC1 HG1
          obtain ⟨k, hk', rfl, hw', HC2, HG2⟩ := hrel
          have p2 := HR.out wr HG2.out
          by_cases hkl : k < vs.length
          · have y2 : (k : Int) < vs.length := by omega
            obtain ⟨hSv, hsz, hcell⟩ := HTS.out k hkl
            obtain rfl : a = some ⟨tb, to', none⟩ := HTD.out.at_.resolve_left (by omega)
            have p3 : wr.cell? ⟨tb, to' + k, none⟩ = some (.string vs[k]) := (World.cell?_of_block (w := w) (a := ⟨tb, to' + k, none⟩) (HG2.out.block _ (hS _ hSv) (hne _ hSv))).trans hcell
            have hws := wtS_take hkl
            generalize vs[k] = sk at *
            generalize hWS : wtS (vs.take k) = ws at *
            generalize hWT : wtS (vs.take (k + 1)) = ws' at *
            have CM := hmk (many_any w.heap.size (wj + (1 + key.size) + ws) (1 + sk.size) wr HC2.out hw' (by unfold maxLen; omega))
            have hsz2 : IntKind.i64.wrap (1 + (sk.size : Int)) = 1 + (sk.size : Int) := wrap_small _ (by omega) (by omega)
            have hcast : ((1 + sk.size : Nat) : Int) = 1 + (sk.size : Int) := by omega
            rw [hcast] at CM
            clear hcell HC2
            go_wp2_with fail
            refine CM.out.mono ?_
            rintro e w3 ⟨r, rfl, g3, hr⟩
            have HG3 := hmk (grown_trans HG2.out g3)
            clear CM HG2 g3 p2 p3
            cases r with
            | true =>
              go_wp2_with fail
              go_ret
              exact ⟨true, rfl, (fun h => by cases h), HG3.out.os, HG3.out.tape, HG3.out.output, HG3.out.size, fun b hb => HG3.out.block b hb (fun e => by have := Option.some.inj e; omega)⟩
            | false =>
              obtain ⟨hn3, hc3⟩ := hr rfl
              have HC3 := hmk hc3
              clear hr hc3
              go_wp2_with fail
              go_roundw
              case rel => exact ⟨k + 1, by omega, by go_num, by rw [hWT, hws]; omega, by rw [hWT, hws]; simpa [Nat.add_assoc] using HC3, HG3⟩
              case measure => simp [RowKit.intOf]; omega
          · obtain rfl : k = vs.length := by omega
            have y2 : ¬ (vs.length : Int) < vs.length := by omega
            rw [List.take_of_length_le (Nat.le_refl _)] at hw' HC2
            have hwk : wk = wj + (1 + key.size) + wtS vs := by omega
            go_wp2_with fail
            go_roundw
            case rel => exact ⟨j + 1, by omega, by go_num, by rw [hWk, hwk]; exact hw', by rw [hWk, hwk]; exact HC2, HG2⟩
            case measure => simp [RowKit.intOf]; omega
    · obtain rfl : j = l.length := by omega
      have y1 : ¬ (l.length : Int) < l.length := by omega
      rw [List.take_of_length_le (Nat.le_refl _)] at hw
      go_wp2_with fail
      go_ret
      exact ⟨false, rfl, fun _ => hw, HG.out.os, HG.out.tape, HG.out.output, HG.out.size, fun b hb => HG.out.block b hb (fun e => by have := Option.some.inj e; omega)⟩
end Go.Proofs.YtolekldjbbjmjaaGreatDoor
/- the document's has and add (layer 20). -/
namespace Go.Proofs.YtolekldjbbjmjaaGreatDoor
open Go.RowKit Go.Lib
def isOp (key : ByteArray) (op : Int) (t : Trm) : Bool := (t.1.toList == key.toList) && (t.2.1 == op)
def hasOp (l : List Trm) (key : ByteArray) (op : Int) : Bool := l.any (isOp key op)
end Go.Proofs.YtolekldjbbjmjaaGreatDoor
/- the document's add (layer 20). -/
namespace Go.Proofs.YtolekldjbbjmjaaGreatDoor
open Go.RowKit Go.Lib
/-- the first place behind which the text belongs -/
def addI (l : List ByteArray) (s : ByteArray) : Nat := (l.takeWhile (fun x => !(Op.bytesLess s.toList x.toList))).length
def addV (l : List ByteArray) (s : ByteArray) : List ByteArray := if amongB l s then l else l.take (addI l s) ++ [s] ++ l.drop (addI l s)
theorem addI_le (l : List ByteArray) (s : ByteArray) : addI l s ≤ l.length := (List.takeWhile_sublist _).length_le
theorem addI_lt : ∀ {l : List ByteArray} {s : ByteArray} {t : Nat} (h : t < addI l s), Op.bytesLess s.toList (l[t]'(Nat.lt_of_lt_of_le h (addI_le l s))).toList = false
  | [], s, t, h => by simp [addI] at h
  | x :: r, s, t, h => by
    unfold addI at h
    rw [List.takeWhile_cons] at h
    split at h
    · rename_i hs
      cases t with
      | zero => simpa using hs
      | succ t => exact addI_lt (l := r) (s := s) (t := t) (by simpa [addI] using h)
    · simp at h
theorem addI_stop : ∀ {l : List ByteArray} {s : ByteArray} (h : addI l s < l.length), Op.bytesLess s.toList (l[addI l s]).toList = true
  | [], s, h => by simp at h
  | x :: r, s, h => by
    by_cases hs : (!(Op.bytesLess s.toList x.toList)) = true
    · have e : addI (x :: r) s = addI r s + 1 := by unfold addI; rw [List.takeWhile_cons, if_pos hs]; rfl
      have h2 : addI r s < r.length := by rw [e] at h; simpa using h
      have := addI_stop (l := r) (s := s) h2
      simp only [e, List.getElem_cons_succ]
      exact this
    · have e : addI (x :: r) s = 0 := by unfold addI; rw [List.takeWhile_cons, if_neg hs]; rfl
      simp only [e, List.getElem_cons_zero]
      simpa using hs
end Go.Proofs.YtolekldjbbjmjaaGreatDoor
/- the document's barred (layer 20). -/
namespace Go.Proofs.YtolekldjbbjmjaaGreatDoor
open Go.RowKit Go.Lib
def SmallS (l : List ByteArray) : Prop := ∀ s ∈ l, s.size ≤ 140737488355328
theorem addV_mem {l : List ByteArray} {s x : ByteArray} (h : x ∈ addV l s) : x ∈ l ∨ x = s := by
  unfold addV at h
  split at h
  · exact .inl h
  · rw [List.mem_append, List.mem_append] at h
    rcases h with (h | h) | h
    · exact .inl (List.mem_of_mem_take h)
    · exact .inr (by simpa using h)
    · exact .inl (List.mem_of_mem_drop h)
theorem addV_len (l : List ByteArray) (s : ByteArray) : (addV l s).length ≤ l.length + 1 := by
  unfold addV
  split
  · omega
  · rw [List.length_append, List.length_append, List.length_take, List.length_drop]; simp only [List.length_singleton]; have := addI_le l s; omega
def addsV (acc vs : List ByteArray) : List ByteArray := vs.foldl addV acc
theorem addsV_len : ∀ (vs acc : List ByteArray), (addsV acc vs).length ≤ acc.length + vs.length
  | [], acc => by simp [addsV]
  | x :: t, acc => by
    have h1 := addsV_len t (addV acc x)
    have h2 := addV_len acc x
    have e : addsV acc (x :: t) = addsV (addV acc x) t := rfl
    rw [e, List.length_cons]; omega
theorem wtT_part (l : List Trm) (i : Nat) (hi : i ≤ l.length) : wtT (l.take i) ≤ wtT l := by
  have : ∀ k, i + k ≤ l.length → wtT (l.take i) ≤ wtT (l.take (i + k)) := by
    intro k
    induction k with
    | zero => intro _; exact Nat.le_refl _
    | succ k ih =>
      intro hk
      have h1 := ih (by omega)
      have h2 := wtT_take (show i + k < l.length by omega)
      rw [← Nat.add_assoc, h2]
      omega
  have h := this (l.length - i) (by omega)
  rw [show i + (l.length - i) = l.length by omega, List.take_length] at h
  exact h
def gatV (op : Int) (l : List Trm) (key : ByteArray) : List ByteArray := l.foldl (fun acc t => if isOp key op t then addsV acc t.2.2 else acc) []
end Go.Proofs.YtolekldjbbjmjaaGreatDoor
/- the document's allowed (layer 20). -/
namespace Go.Proofs.YtolekldjbbjmjaaGreatDoor
open Go.RowKit Go.Lib
/-- does an In of the key let the text through? -/
def letQ (key s : ByteArray) (t : Trm) : Bool := !(isOp key 3 t) || amongB t.2.2 s
def okS (l : List Trm) (key : ByteArray) (no : List ByteArray) (s : ByteArray) : Bool := !(amongB no s) && l.all (letQ key s)
def pickL (l : List Trm) (key : ByteArray) (no acc vs : List ByteArray) : List ByteArray := vs.foldl (fun acc s => if okS l key no s then addV acc s else acc) acc
def allowV (l : List Trm) (key : ByteArray) (no : List ByteArray) (k : List Trm) : List ByteArray := k.foldl (fun acc t => if isOp key 3 t then pickL l key no acc t.2.2 else acc) []
end Go.Proofs.YtolekldjbbjmjaaGreatDoor
