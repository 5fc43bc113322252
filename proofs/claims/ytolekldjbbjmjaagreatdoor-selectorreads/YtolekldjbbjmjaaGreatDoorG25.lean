/- joined: SimC SimE ParA -/
import Derived.Test.YtolekldjbbjmjaaGreatDoorSimB
import Derived.Test.YtolekldjbbjmjaaGreatDoorShlZ
import Derived.Test.YtolekldjbbjmjaaGreatDoorBorP
/- the document's barred (layer 20). -/
set_option linter.unusedSimpArgs false
set_option linter.unusedVariables false
namespace Go.Proofs.YtolekldjbbjmjaaGreatDoor
open Go.RowKit Go.Lib
def SmallS (l : List ByteArray) : Prop := ∀ s ∈ l, s.size ≤ 140737488355328
theorem addV_mem {l : List ByteArray} {s x : ByteArray} (h : x ∈ addV l s) : x ∈ l ∨ x = s := by
  unfold addV at h
  split at h
  · exact .inl h
  · rw [List.mem_append, List.mem_append] at h
    rcases h with (h | h) | h
    · exact .inl (List.mem_of_mem_take h)
    · exact .inr (by simpa using h)
    · exact .inl (List.mem_of_mem_drop h)
theorem addV_small {l : List ByteArray} {s : ByteArray} (h : SmallS l) (hs : s.size ≤ 140737488355328) : SmallS (addV l s) := fun x hx => by
  rcases addV_mem hx with h1 | h1
  · exact h x h1
  · rw [h1]; exact hs
theorem own_add (acc : List ByteArray) (s : ByteArray) (v : Value) (base : Nat) (w : World) (ho : OwnSt w base (fun _ => False) v acc) (hb : base ≤ w.heap.size) (hsm : SmallS acc) (hlen : acc.length ≤ 2147483647) :
    Calls Tryz.prog 79 #[v, .string s] w (fun e w' => ∃ v', e = .returned v' ∧ OwnSt w' base (fun _ => False) v' (addV acc s) ∧ Below w.heap.size w w') := by
  have ho' := ho
  obtain ⟨a, c, b, o, rfl, hh, hl⟩ := own_read ho hsm
  refine (radd_any acc s _ a c b o w hh hl (fun y hy => hy.2) hlen).mono ?_
  rintro e w1 ⟨v1, rfl, h, b1⟩
  rcases h with ⟨rfl, hin⟩ | ⟨h, hin⟩
  · refine ⟨_, rfl, ?_, b1⟩
    have : addV acc s = acc := by unfold addV; rw [hin, if_pos rfl]
    rw [this]
    exact ho'.below keepS b1
  · exact ⟨_, rfl, h.base hb, b1⟩
end Go.Proofs.YtolekldjbbjmjaaGreatDoor
/- a term is put behind others; plain: what Simplify answers (layer 20). -/
namespace Go.Proofs.YtolekldjbbjmjaaGreatDoor
open Go.RowKit Go.Lib
theorem grown_below {w w' : World} {row : Option Nat} (h : Below w.heap.size w w') : w.grownBy w' row := ⟨h.os, h.tape, h.output, h.size, fun k hk _ => h.block k hk⟩
set_option maxRecDepth 100000 in
theorem wpl_termL (W : World) {ops : Array Oper} {rest : List Oper} {o : Oper} {act : Act} {Q : Exit → Act → World → Prop} (hgd : o.guard = none) (s x : Operand)
    (ho : o.op = .call { callee := .builtin .append, args := #[s, x], argTypes := #[22, 22] }) (base : Nat) {S Sx : Nat → Prop} {u : Value} {out : List Trm} (hs : act.eval s = u) (hown : OwnF W base S u out)
    (key : ByteArray) (op : Int) {a : Option Addr} {c b oo : Nat} {vs : List ByteArray} (hd : Headed a vs.length c b oo) (hl : liesS W Sx vs b oo) (hlt : ∀ r, Sx r → r < W.heap.size) (hop : In64 op) (hk : key.size ≤ 140737488355328) (hsep : ∀ r, Sx r → base ≤ r ∧ some r ≠ u.ownBlock)
    (hx : act.eval x = .slice (some ⟨W.heap.size, 0, none⟩) 1 1) (hlen : out.length ≤ 4294967296) (hbase : base ≤ W.heap.size)
    (h : ∀ g cap w', OwnF w' base (fun b => S b ∨ Sx b) (.slice (some ⟨g, 0, none⟩) (out.length + 1) cap) (out ++ [(key, op, vs)]) → W.grownBy w' u.ownBlock → (u.ownBlock = some g ∨ W.heap.size ≤ g) → wpList Tryz.prog ops Q rest (act.put o.dst (.slice (some ⟨g, 0, none⟩) (out.length + 1) cap)) w') :
    wpList Tryz.prog ops Q (o :: rest) act (W.alloc (.cells #[.string key, .int .i64 op, .slice a vs.length c] 35)) := by
  obtain ⟨i5, hi5, hz5⟩ := Option.map_eq_some_iff.1 info50
  simp only [Prod.mk.injEq] at hz5
  have hbw : Below W.heap.size W (W.alloc (.cells #[.string key, .int .i64 op, .slice a vs.length c] 35)) := (Below.refl _ _).alloc (Nat.le_refl _) _
  have hT := heap_alloc_new W (.cells #[.string key, .int .i64 op, .slice a vs.length c] 35)
  refine wpl_push keepF _ hgd s x 22 ho base i5 _ 48 Tryz.underlying22 hi5 hz5.1 hz5.2.1 hz5.2.2 rfl (by decide) (by decide) (Sx := Sx) _ (key, op, vs) hs (hown.alloc keepF _) W.heap.size 1 (0, 0) hx hT rfl one3 ?_ ?_ hlen (by rw [alloc_size]; omega) ?_
  · exact ⟨a, c, b, oo, rfl, hop, hk, hd, hl.keep (fun y hy => hbw.block y (hlt y hy)) (fun _ h => h), fun h => by cases h⟩
  · intro y hy
    have h1 := hsep y hy
    have h2 := hlt y hy
    exact ⟨h1.1, by rw [alloc_size]; omega, h1.2⟩
  · intro g cap w' o1 g1 e1
    refine h g cap w' o1 (grown_trans (World.grownBy_alloc W _ _) g1) (e1.imp id (fun hh => ?_))
    rw [alloc_size] at hh; omega
/- plain -/
end Go.Proofs.YtolekldjbbjmjaaGreatDoor
/- the selector's reader: its box, rest, TrimLeft, HasPrefix, Clone, plainAhead. -/
namespace Go.Proofs.YtolekldjbbjmjaaGreatDoor
open Go.RowKit Go.Lib
/-- the reader's box: the text and the place -/
def PB (g : Nat) (s : ByteArray) (k : Nat) (w : World) : Prop := w.heap[g]? = some (.cells #[.string s, .int .i64 (k : Int)] 82 (0, 0))
theorem PB.lt {g : Nat} {s : ByteArray} {k : Nat} {w : World} (h : PB g s k w) : g < w.heap.size := by
  rcases Nat.lt_or_ge g w.heap.size with h' | h'
  · exact h'
  · unfold PB at h; rw [Array.getElem?_eq_none h'] at h; cases h
theorem PB.c0 {g : Nat} {s : ByteArray} {k : Nat} {w : World} (h : PB g s k w) : w.cell? ⟨g, 0, none⟩ = some (.string s) := by rw [cell_of_block h]; rfl
theorem PB.c1 {g : Nat} {s : ByteArray} {k : Nat} {w : World} (h : PB g s k w) : w.cell? ⟨g, 1, none⟩ = some (.int .i64 (k : Int)) := by rw [cell_of_block h]; rfl
theorem PB.fz {g : Nat} {s : ByteArray} {k : Nat} {w : World} (h : PB g s k w) (o : Nat) : w.frozen? ⟨g, o, none⟩ = false := frozen_of_block h o
theorem PB.put {g : Nat} {s : ByteArray} {k : Nat} {w : World} (h : PB g s k w) (n : Nat) (z : Int) (hz : z = n) : PB g s n (w.setCell ⟨g, 1, none⟩ (.int .i64 z)) := by
  subst hz
  unfold PB at *
  rw [set_block h]
  rfl
theorem PB.keep {g : Nat} {s : ByteArray} {k : Nat} {w w' : World} (h : PB g s k w) (hb : Below w.heap.size w w') : PB g s k w' := (hb.block g h.lt).trans h
theorem PB.drewN {g : Nat} {s : ByteArray} {k : Nat} {w : World} (h : PB g s k w) (q : Nat) : PB g s k (w.drewN q) := by
  induction q with
  | zero => exact h
  | succ q ih => exact ih
theorem grown_drewN {a w : World} {row : Option Nat} (h : a.grownBy w row) : ∀ q, a.grownBy (w.drewN q) row
  | 0 => h
  | q + 1 => (fun (k : a.grownBy (w.drewN q) row) => (⟨k.os, k.tape, k.output, k.size, k.block⟩ : a.grownBy (w.drewN q).drew row)) (grown_drewN h q)
theorem slice_from (s : ByteArray) (k : Nat) (hk : k ≤ s.size) (W : World) : (Instr.slice 9 (.string s) (some (.int .i64 (k : Int))) none none).run Tryz.prog W = .ok (.string (s.extract k s.size)) W := hsl_from s k hk W
/-- the reader behind a call -/
structure RdP (g : Nat) (s : ByteArray) (w w' : World) (k : Nat) : Prop where
  le : k ≤ s.size
  pb : PB g s k w'
  gr : w.grownBy w' (some g)
theorem RdP.trans {g : Nat} {s : ByteArray} {w w1 w2 : World} {k k2 : Nat} (h : RdP g s w w1 k) (h2 : RdP g s w1 w2 k2) : RdP g s w w2 k2 := ⟨h2.le, h2.pb, grown_trans h.gr h2.gr⟩
theorem RdP.refl {g : Nat} {s : ByteArray} {w : World} {k : Nat} (h : PB g s k w) (hk : k ≤ s.size) : RdP g s w w k := ⟨hk, h, World.grownBy.refl _ _⟩
theorem RdP.below {g : Nat} {s : ByteArray} {w w1 w2 : World} {k : Nat} (h : RdP g s w w1 k) (b : Below w1.heap.size w1 w2) : RdP g s w w2 k := ⟨h.le, h.pb.keep b, grown_trans h.gr (grown_below b)⟩
/-- what the calls read beside the reader -/
structure Tq (w : World) : Prop where
  t : Tl w
  s : SaidT w
  z : 4 < w.heap.size
theorem Tq.below {B : Nat} {w w' : World} (h : Tq w) (hb : Below B w w') (hB : 4 < B) : Tq w' := ⟨h.t.below hb (by omega), h.s.below hb hB, Nat.lt_of_lt_of_le h.z hb.size⟩
theorem Tq.grown {w w' : World} {g : Nat} (t : Tq w) (h : w.grownBy w' (some g)) (hg : 4 < g) : Tq w' := by
  have hz := t.z
  have b : Below 5 w w' := (Below.refl 5 w).grown h (by omega) (fun k hk => by cases hk; omega)
  exact t.below b (by omega)
/-- blanks -/
def gapN (l : List UInt8) (k : Nat) : Nat := ((l.drop k).takeWhile (fun c => ([32] : List UInt8).contains c)).length
def skp (l : List UInt8) (k : Nat) : Nat := k + gapN l k
theorem skp_le {l : List UInt8} {k : Nat} (h : k ≤ l.length) : skp l k ≤ l.length := by
  unfold skp gapN
  have := (List.takeWhile_prefix (fun b => ([32] : List UInt8).contains b) (l := l.drop k)).length_le
  rw [List.length_drop] at this
  omega
theorem skp_ge (l : List UInt8) (k : Nat) : k ≤ skp l k := by unfold skp; omega
theorem gap_drop (l : List UInt8) (k : Nat) : (((l.drop k).dropWhile (fun c => ([32] : List UInt8).contains c)).length : Int) = (l.drop k).length - gapN l k := by
  unfold gapN
  have h := List.takeWhile_append_dropWhile (p := fun c => ([32] : List UInt8).contains c) (l := l.drop k)
  have hl := congrArg List.length h
  rw [List.length_append] at hl
  omega
theorem cut_ascii : ∀ (j : Nat) b, (⟨#[32]⟩ : ByteArray).data.toList[j]? = some b → b.toNat < 128 := ascii_of_all (by decide)
theorem trim_any (s : ByteArray) (w : World) :
    Calls Tryz.prog 72 #[.string s, .string ⟨#[32]⟩] w fun e w' => e = .returned (.string ⟨(s.data.toList.dropWhile (fun c => ([32] : List UInt8).contains c)).toArray⟩) ∧ Below w.heap.size w w' :=
  Any.strings_TrimLeft_laid Tryz.lays161 (by kernel_rfl) s _ w (by decide) cut_ascii
theorem sclone_any (s : ByteArray) (w : World) (hs : s.size ≤ 281474976710656) : Calls Tryz.prog 101 #[.string s] w fun e w' => e = .returned (.string s) ∧ Below w.heap.size w w' := by
  have c := hmk (Any.stringslite_Clone Tryz.lays316 s w hs)
  go_enter Tryz.func101, Tryz.ntmps101
  go_wp2_with fail
  refine c.out.mono ?_
  rintro e w' ⟨rfl, b⟩
  go_wp2_with fail
  go_ret
  exact ⟨rfl, b⟩
theorem pre_any (s p : ByteArray) (w : World) : Calls Tryz.prog 75 #[.string s, .string p] w fun e w' => e = .returned (.bool (hasPrefix s.data.toList p.data.toList)) ∧ w' = w :=
  Any.strings_HasPrefix Tryz.lays99 s p w
set_option maxHeartbeats 2000000 in
set_option maxRecDepth 100000 in
theorem rest_any (g : Nat) (s : ByteArray) (k : Nat) (w : World) (h : PB g s k w) (hk : k ≤ s.size) :
    Calls Tryz.prog 55 #[.pointer (some ⟨g, 0, none⟩)] w fun e w' => e = .returned (.string (s.extract k s.size)) ∧ ∃ q, w' = w.drewN q := by
  have c0 := h.c0
  have c1 := h.c1
  have hsl := slice_from s k hk
  clear h
  go_enter Tryz.func55, Tryz.ntmps55
  go_wp2
  go_quiet (fail)
  go_wp2
  go_ret
  exact ⟨rfl, nq, rfl⟩
/-- the plain word -/
def plnT (l : List UInt8) (k : Nat) : List UInt8 := (l.drop k).takeWhile (fun c => plainN c.toNat)
theorem tw_take {l : List UInt8} {p : UInt8 → Bool} : ∀ {j : Nat} (hj : j < l.length), (∀ k (hk : k < l.length), k < j → p l[k] = true) → p l[j] = false → l.takeWhile p = l.take j := by
  induction l with
  | nil => intro j hj; simp at hj
  | cons x t ih =>
    intro j hj h hn
    cases j with
    | zero =>
      have hn : p x = false := hn
      rw [List.takeWhile_cons, hn]; rfl
    | succ j =>
      have hx : p x = true := h 0 (by simp) (by omega)
      rw [List.takeWhile_cons, hx, List.take_succ_cons]
      simp only [if_true]
      rw [ih (j := j) (by simpa using hj) (fun k hk hkj => h (k + 1) (by simpa using hk) (by omega)) hn]
theorem tw_all {l : List UInt8} {p : UInt8 → Bool} (h : ∀ k (hk : k < l.length), p l[k] = true) : l.takeWhile p = l := by
  induction l with
  | nil => rfl
  | cons x t ih =>
    have hx : p x = true := h 0 (by simp)
    rw [List.takeWhile_cons, hx]
    simp only [if_true]
    rw [ih (fun k hk => h (k + 1) (by simpa using hk))]
theorem ext_take (s : ByteArray) (j : Nat) : s.extract 0 j = ⟨(s.data.toList.take j).toArray⟩ := by
  apply ByteArray.ext
  apply Array.ext'
  simp [ByteArray.data_extract, Array.toList_extract, List.extract]
set_option maxHeartbeats 8000000 in
set_option maxRecDepth 100000 in
theorem plainpre_any (s : ByteArray) (hs : s.size ≤ 140737488355328) (w : World) : Calls Tryz.prog 64 #[.string s] w (fun e w' => e = .returned (.string ⟨(plnT s.data.toList 0).toArray⟩) ∧ w' = w) := by
  have HL : Hid (s.data.toList.length = s.size) := by show _ = _; simp
  have HEL : Hid (∀ k (hk : k < s.size) (hk' : k < s.data.toList.length), s.data.toList[k] = s[k]) := fun k hk hk' => by rw [Array.getElem_toList]; rfl
  go_enter Tryz.func64, Tryz.ntmps64
  go_wp2_with fail
  go_loopw [6] (fun e6 wr => ∃ j : Nat, j ≤ s.size ∧ e6 = .int .i64 (j : Int) ∧ wr = w ∧ Hid (∀ k (h : k < s.size), k < j → plainN (s[k]).toNat = true)) (fun e6 _ => s.size - (RowKit.intOf e6).toNat)
  case atStart => exact ⟨0, by omega, rfl, rfl, fun k _ h => by omega⟩
  case round =>
    obtain ⟨j, hj, rfl, rfl, HN⟩ := hrel
    by_cases hjl : j < s.size
    · have y1 : (j : Int) < s.size := by omega
      have y2 : (j : Int) ≤ s.size := by omega
      have HP := hmk (fun W => plain_any (s[j]).toNat (UInt8.toNat_lt _) W)
      obtain ⟨t, ht⟩ : ∃ t, plainN (s[j]).toNat = t := ⟨_, rfl⟩
      rw [ht] at HP
      cases t with
      | false =>
        have HE : Hid (s.extract 0 j = ⟨(plnT s.data.toList 0).toArray⟩) := by
          show _ = _
          rw [ext_take]
          have hjl' : j < s.data.toList.length := by rw [HL.out]; exact hjl
          have := tw_take (l := s.data.toList) (p := fun c => plainN c.toNat) hjl' (fun k hk hkj => by
            have hk' : k < s.size := by rw [← HL.out]; exact hk
            rw [HEL.out k hk' hk]; exact HN.out k hk' hkj) (by rw [HEL.out j hjl hjl']; exact ht)
          unfold plnT
          rw [List.drop_zero, this]
        clear ht HN
        go_wp2_with (first | (go_at_call 81; refine (HP.out _).mono ?_; rintro e w1 ⟨rfl, rfl⟩))
        go_ret
        exact ⟨congrArg (fun r => Ending.returned (.string r)) HE.out, rfl⟩
      | true =>
        have HY : Hid (∀ k (h : k < s.size), k < j + 1 → plainN (s[k]).toNat = true) := fun k hk h => by
          by_cases e : k = j
          · subst e; exact ht
          · exact HN.out k hk (by omega)
        clear ht HN
        go_wp2_with (first | (go_at_call 81; refine (HP.out _).mono ?_; rintro e w1 ⟨rfl, rfl⟩))
        go_roundw
        case rel => exact ⟨j + 1, by omega, by go_num, (by first | trivial | rfl), HY.out⟩
        case measure => simp [RowKit.intOf]; omega
    · obtain rfl : j = s.size := by omega
      have y1 : ¬ (s.size : Int) < s.size := by omega
      have HA : Hid ((⟨(plnT s.data.toList 0).toArray⟩ : ByteArray) = s) := by
        show _ = _
        unfold plnT
        rw [List.drop_zero, tw_all (fun k hk => by
          have hk' : k < s.size := by rw [← HL.out]; exact hk
          rw [HEL.out k hk' hk]; exact HN.out k hk' hk')]
      go_wp2_with fail
      (try simp only [Exit.inBlock, Exit.then])
      go_ret
      exact ⟨congrArg (fun r => Ending.returned (.string r)) HA.out.symm, rfl⟩
end Go.Proofs.YtolekldjbbjmjaaGreatDoor
