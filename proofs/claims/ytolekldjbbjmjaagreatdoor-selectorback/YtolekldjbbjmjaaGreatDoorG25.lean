/- joined: SimE ParA -/
import Derived.Test.YtolekldjbbjmjaaGreatDoorG24
import Derived.Test.YtolekldjbbjmjaaGreatDoorG13
/- a term is put behind others; plain: what Simplify answers (layer 20). -/
set_option linter.unusedSimpArgs false
set_option linter.unusedVariables false
namespace Go.Proofs.YtolekldjbbjmjaaGreatDoor
open Go.RowKit Go.Lib
theorem grown_below {w w' : World} {row : Option Nat} (h : Below w.heap.size w w') : w.grownBy w' row := ⟨h.os, h.tape, h.output, h.size, fun k hk _ => h.block k hk⟩
theorem own_read1 {w : World} {base : Nat} {S : Nat → Prop} {v : Value} {l : List ByteArray} (h : OwnSt w base S v l) (hs : SmallS l) : ∃ a c b o, v = .slice a l.length c ∧ Headed a l.length c b o ∧ liesS w (fun y => v.ownBlock = some y) l b o := by
  obtain ⟨a, c, rfl⟩ := own_slice h
  cases l with
  | nil =>
    have h' := h
    obtain ⟨⟨xs, h1, _⟩, _⟩ := h'
    rcases h1.2 with ⟨e, e2⟩ | ⟨g, cap, cur, e, _⟩
    · simp only [Value.slice.injEq] at e
      obtain ⟨rfl, _, rfl⟩ := e
      exact ⟨none, 0, 0, 0, rfl, head_nilS, fun j hj => by simp at hj⟩
    · simp only [Value.slice.injEq] at e
      obtain ⟨rfl, _, rfl⟩ := e
      have h2 := h.le
      exact ⟨_, _, g, 0, rfl, ⟨h2.1, h2.2, .inr rfl, fun h => by cases h⟩, fun j hj => by simp at hj⟩
  | cons x t =>
    obtain ⟨g, cap, hv, hc1, hc2, hg1, hg2⟩ := own_some h (by simp)
    simp only [Value.slice.injEq] at hv
    obtain ⟨rfl, _, rfl⟩ := hv
    refine ⟨_, _, g, 0, rfl, ⟨hc1, hc2, .inr rfl, fun h => by cases h⟩, fun j hj => ⟨rfl, hs _ (List.getElem_mem hj), ?_⟩⟩
    have := own_str h rfl j hj
    exact this
set_option maxRecDepth 100000 in
theorem wpl_termL (W : World) {ops : Array Oper} {rest : List Oper} {o : Oper} {act : Act} {Q : Exit → Act → World → Prop} (hgd : o.guard = none) (s x : Operand)
    (ho : o.op = .call { callee := .builtin .append, args := #[s, x], argTypes := #[22, 22] }) (base : Nat) {S Sx : Nat → Prop} {u : Value} {out : List Trm} (hs : act.eval s = u) (hown : OwnF W base S u out)
    (key : ByteArray) (op : Int) {a : Option Addr} {c b oo : Nat} {vs : List ByteArray} (hd : Headed a vs.length c b oo) (hl : liesS W Sx vs b oo) (hlt : ∀ r, Sx r → r < W.heap.size) (hop : In64 op) (hk : key.size ≤ 140737488355328) (hsep : ∀ r, Sx r → base ≤ r ∧ some r ≠ u.ownBlock)
    (hx : act.eval x = .slice (some ⟨W.heap.size, 0, none⟩) 1 1) (hlen : out.length ≤ 4294967296) (hbase : base ≤ W.heap.size)
    (h : ∀ g cap w', OwnF w' base (fun b => S b ∨ Sx b) (.slice (some ⟨g, 0, none⟩) (out.length + 1) cap) (out ++ [(key, op, vs)]) → W.grownBy w' u.ownBlock → (u.ownBlock = some g ∨ W.heap.size ≤ g) → wpList Tryz.prog ops Q rest (act.put o.dst (.slice (some ⟨g, 0, none⟩) (out.length + 1) cap)) w') :
    wpList Tryz.prog ops Q (o :: rest) act (W.alloc (.cells #[.string key, .int .i64 op, .slice a vs.length c] 35)) := by
  obtain ⟨i5, hi5, hz5⟩ := Option.map_eq_some_iff.1 info50
  simp only [Prod.mk.injEq] at hz5
  have hbw : Below W.heap.size W (W.alloc (.cells #[.string key, .int .i64 op, .slice a vs.length c] 35)) := (Below.refl _ _).alloc (Nat.le_refl _) _
  have hT := heap_alloc_new W (.cells #[.string key, .int .i64 op, .slice a vs.length c] 35)
  refine wpl_push keepF _ hgd s x 22 ho base i5 _ 48 Tryz.underlying22 hi5 hz5.1 hz5.2.1 hz5.2.2 rfl (by decide) (by decide) (Sx := Sx) _ (key, op, vs) hs (hown.alloc keepF _) W.heap.size 1 (0, 0) hx hT rfl one3 ?_ ?_ hlen (by rw [alloc_size]; omega) ?_
  · exact ⟨a, c, b, oo, rfl, hop, hk, hd, hl.keep (fun y hy => hbw.block y (hlt y hy)) (fun _ h => h), fun h => by cases h⟩
  · intro y hy
    have h1 := hsep y hy
    have h2 := hlt y hy
    exact ⟨h1.1, by rw [alloc_size]; omega, h1.2⟩
  · intro g cap w' o1 g1 e1
    refine h g cap w' o1 (grown_trans (World.grownBy_alloc W _ _) g1) (e1.imp id (fun hh => ?_))
    rw [alloc_size] at hh; omega
/- plain -/
def keysV (l : List Trm) : List ByteArray := addsV [] (l.map (·.1))
def simpT (l : List Trm) (k : ByteArray) : Option (List Trm) :=
  if hasOp l k 2 then (if hasOp l k 1 || hasOp l k 3 then none else some [(k, 2, [])])
  else if hasOp l k 3 then (if (allowV l k (gatV 4 l k) l).length = 0 then none else some [(k, 3, allowV l k (gatV 4 l k) l)])
  else some ((if hasOp l k 1 then [(k, 1, [])] else []) ++ (if (gatV 4 l k).length = 0 then [] else [(k, 4, gatV 4 l k)]))
def simpS (l : List Trm) (acc : Option (List Trm)) (k : ByteArray) : Option (List Trm) := match acc, simpT l k with
  | some o, some x => some (o ++ x)
  | _, _ => none
def simpW (l : List Trm) (ks : List ByteArray) : Option (List Trm) := ks.foldl (simpS l) (some [])
def simplV (l : List Trm) : Option (List Trm) := if l.all goodB then simpW l (keysV l) else none
theorem simpS_none (l : List Trm) (ks : List ByteArray) : ks.foldl (simpS l) none = none := by
  induction ks with
  | nil => rfl
  | cons k t ih => exact ih
theorem simpW_next {l : List Trm} {ks : List ByteArray} {i : Nat} (h : i < ks.length) : simpW l (ks.take (i + 1)) = simpS l (simpW l (ks.take i)) ks[i] := by
  unfold simpW
  rw [List.take_succ_eq_append_getElem h, List.foldl_append]
  rfl
theorem simpW_stop {l : List Trm} {ks : List ByteArray} {i : Nat} (h : i < ks.length) (hn : simpT l ks[i] = none) : simpW l ks = none := by
  have e : ks = ks.take i ++ ks[i] :: ks.drop (i + 1) := by rw [← List.drop_eq_getElem_cons h, List.take_append_drop]
  unfold simpW
  rw [e, List.foldl_append, List.foldl_cons]
  have : simpS l (List.foldl (simpS l) (some []) (ks.take i)) ks[i] = none := by
    unfold simpS
    rw [hn]
    split <;> first | rfl | (rename_i h; cases h)
  rw [this, simpS_none]
theorem simpT_len {l : List Trm} {k : ByteArray} {x : List Trm} (h : simpT l k = some x) : x.length ≤ 2 := by
  unfold simpT at h
  split at h
  · split at h
    · cases h
    · cases h; simp
  · split at h
    · split at h
      · cases h
      · cases h; simp
    · cases h
      rw [List.length_append]
      split <;> split <;> simp
theorem simpW_go {l : List Trm} {ks : List ByteArray} {i : Nat} {o x : List Trm} (h : i < ks.length) (h1 : simpW l (ks.take i) = some o) (h2 : simpT l ks[i] = some x) : simpW l (ks.take (i + 1)) = some (o ++ x) := by
  rw [simpW_next h, h1]
  unfold simpS
  rw [h2]
def SmPost (r : Option (List Trm)) (w : World) (e : Ending) (w' : World) : Prop := ∃ a c b o, e = .returned (.tuple #[.slice a (r.getD []).length c, .bool r.isSome]) ∧ Headed a (r.getD []).length c b o ∧ liesT false w' (New w w') (r.getD []) b o ∧ Below w.heap.size w w'
theorem sm_none {w w' : World} (h : Below w.heap.size w w') : SmPost none w (.returned (.tuple #[.slice none 0 0, .bool false])) w' := ⟨none, 0, 0, 0, rfl, head_nilS, fun j hj => by simp at hj, h⟩
theorem sm_some {w w' : World} {SM : Nat → Prop} {v : Value} {out : List Trm} (ho : OwnF w' w.heap.size SM v out) (h : Below w.heap.size w w') : SmPost (some out) w (.returned (.tuple #[v, .bool true])) w' := by
  obtain ⟨a, c, b, o, rfl, h1, h2⟩ := own_terms ho
  exact ⟨a, c, b, o, rfl, h1, h2, h⟩
end Go.Proofs.YtolekldjbbjmjaaGreatDoor
/- the selector's reader: its box, rest, TrimLeft, HasPrefix, Clone, plainAhead. -/
namespace Go.Proofs.YtolekldjbbjmjaaGreatDoor
open Go.RowKit Go.Lib
/-- the reader's box: the text and the place -/
def PB (g : Nat) (s : ByteArray) (k : Nat) (w : World) : Prop := w.heap[g]? = some (.cells #[.string s, .int .i64 (k : Int)] 82 (0, 0))
theorem PB.lt {g : Nat} {s : ByteArray} {k : Nat} {w : World} (h : PB g s k w) : g < w.heap.size := by
  rcases Nat.lt_or_ge g w.heap.size with h' | h'
  · exact h'
  · unfold PB at h; rw [Array.getElem?_eq_none h'] at h; cases h
theorem PB.c0 {g : Nat} {s : ByteArray} {k : Nat} {w : World} (h : PB g s k w) : w.cell? ⟨g, 0, none⟩ = some (.string s) := by rw [cell_of_block h]; rfl
theorem PB.c1 {g : Nat} {s : ByteArray} {k : Nat} {w : World} (h : PB g s k w) : w.cell? ⟨g, 1, none⟩ = some (.int .i64 (k : Int)) := by rw [cell_of_block h]; rfl
theorem PB.fz {g : Nat} {s : ByteArray} {k : Nat} {w : World} (h : PB g s k w) (o : Nat) : w.frozen? ⟨g, o, none⟩ = false := frozen_of_block h o
theorem PB.put {g : Nat} {s : ByteArray} {k : Nat} {w : World} (h : PB g s k w) (n : Nat) (z : Int) (hz : z = n) : PB g s n (w.setCell ⟨g, 1, none⟩ (.int .i64 z)) := by
  subst hz
  unfold PB at *
  rw [set_block h]
  rfl
theorem PB.keep {g : Nat} {s : ByteArray} {k : Nat} {w w' : World} (h : PB g s k w) (hb : Below w.heap.size w w') : PB g s k w' := (hb.block g h.lt).trans h
theorem PB.drewN {g : Nat} {s : ByteArray} {k : Nat} {w : World} (h : PB g s k w) (q : Nat) : PB g s k (w.drewN q) := by
  induction q with
  | zero => exact h
  | succ q ih => exact ih
theorem grown_drewN {a w : World} {row : Option Nat} (h : a.grownBy w row) : ∀ q, a.grownBy (w.drewN q) row
  | 0 => h
  | q + 1 => (fun (k : a.grownBy (w.drewN q) row) => (⟨k.os, k.tape, k.output, k.size, k.block⟩ : a.grownBy (w.drewN q).drew row)) (grown_drewN h q)
theorem slice_from (s : ByteArray) (k : Nat) (hk : k ≤ s.size) (W : World) : (Instr.slice 9 (.string s) (some (.int .i64 (k : Int))) none none).run Tryz.prog W = .ok (.string (s.extract k s.size)) W := hsl_from s k hk W
/-- the reader behind a call -/
structure RdP (g : Nat) (s : ByteArray) (w w' : World) (k : Nat) : Prop where
  le : k ≤ s.size
  pb : PB g s k w'
  gr : w.grownBy w' (some g)
theorem RdP.trans {g : Nat} {s : ByteArray} {w w1 w2 : World} {k k2 : Nat} (h : RdP g s w w1 k) (h2 : RdP g s w1 w2 k2) : RdP g s w w2 k2 := ⟨h2.le, h2.pb, grown_trans h.gr h2.gr⟩
theorem RdP.refl {g : Nat} {s : ByteArray} {w : World} {k : Nat} (h : PB g s k w) (hk : k ≤ s.size) : RdP g s w w k := ⟨hk, h, World.grownBy.refl _ _⟩
theorem RdP.below {g : Nat} {s : ByteArray} {w w1 w2 : World} {k : Nat} (h : RdP g s w w1 k) (b : Below w1.heap.size w1 w2) : RdP g s w w2 k := ⟨h.le, h.pb.keep b, grown_trans h.gr (grown_below b)⟩
/-- what the calls read beside the reader -/
structure Tq (w : World) : Prop where
  t : Tl w
  s : SaidT w
  z : 4 < w.heap.size
theorem Tq.below {B : Nat} {w w' : World} (h : Tq w) (hb : Below B w w') (hB : 4 < B) : Tq w' := ⟨h.t.below hb (by omega), h.s.below hb hB, Nat.lt_of_lt_of_le h.z hb.size⟩
theorem Tq.grown {w w' : World} {g : Nat} (t : Tq w) (h : w.grownBy w' (some g)) (hg : 4 < g) : Tq w' := by
  have hz := t.z
  have b : Below 5 w w' := (Below.refl 5 w).grown h (by omega) (fun k hk => by cases hk; omega)
  exact t.below b (by omega)
/-- blanks -/
def gapN (l : List UInt8) (k : Nat) : Nat := ((l.drop k).takeWhile (fun c => ([32] : List UInt8).contains c)).length
def skp (l : List UInt8) (k : Nat) : Nat := k + gapN l k
theorem skp_le {l : List UInt8} {k : Nat} (h : k ≤ l.length) : skp l k ≤ l.length := by
  unfold skp gapN
  have := (List.takeWhile_prefix (fun b => ([32] : List UInt8).contains b) (l := l.drop k)).length_le
  rw [List.length_drop] at this
  omega
theorem skp_ge (l : List UInt8) (k : Nat) : k ≤ skp l k := by unfold skp; omega
theorem gap_drop (l : List UInt8) (k : Nat) : (((l.drop k).dropWhile (fun c => ([32] : List UInt8).contains c)).length : Int) = (l.drop k).length - gapN l k := by
  unfold gapN
  have h := List.takeWhile_append_dropWhile (p := fun c => ([32] : List UInt8).contains c) (l := l.drop k)
  have hl := congrArg List.length h
  rw [List.length_append] at hl
  omega
theorem cut_ascii : ∀ (j : Nat) b, (⟨#[32]⟩ : ByteArray).data.toList[j]? = some b → b.toNat < 128 := ascii_of_all (by decide)
theorem trim_any (s : ByteArray) (w : World) :
    Calls Tryz.prog 72 #[.string s, .string ⟨#[32]⟩] w fun e w' => e = .returned (.string ⟨(s.data.toList.dropWhile (fun c => ([32] : List UInt8).contains c)).toArray⟩) ∧ Below w.heap.size w w' :=
  Any.strings_TrimLeft_laid Tryz.lays161 (by kernel_rfl) s _ w (by decide) cut_ascii
theorem sclone_any (s : ByteArray) (w : World) (hs : s.size ≤ 281474976710656) : Calls Tryz.prog 101 #[.string s] w fun e w' => e = .returned (.string s) ∧ Below w.heap.size w w' := by
  have c := hmk (Any.stringslite_Clone Tryz.lays316 s w hs)
  go_enter Tryz.func101, Tryz.ntmps101
  go_wp2_with fail
  refine c.out.mono ?_
  rintro e w' ⟨rfl, b⟩
  go_wp2_with fail
  go_ret
  exact ⟨rfl, b⟩
theorem pre_any (s p : ByteArray) (w : World) : Calls Tryz.prog 75 #[.string s, .string p] w fun e w' => e = .returned (.bool (hasPrefix s.data.toList p.data.toList)) ∧ w' = w :=
  Any.strings_HasPrefix Tryz.lays99 s p w
set_option maxHeartbeats 2000000 in
set_option maxRecDepth 100000 in
theorem rest_any (g : Nat) (s : ByteArray) (k : Nat) (w : World) (h : PB g s k w) (hk : k ≤ s.size) :
    Calls Tryz.prog 55 #[.pointer (some ⟨g, 0, none⟩)] w fun e w' => e = .returned (.string (s.extract k s.size)) ∧ ∃ q, w' = w.drewN q := by
  have c0 := h.c0
  have c1 := h.c1
  have hsl := slice_from s k hk
  clear h
  go_enter Tryz.func55, Tryz.ntmps55
  go_wp2
  go_quiet (fail)
  go_wp2
  go_ret
  exact ⟨rfl, nq, rfl⟩
/-- the plain word -/
def plnT (l : List UInt8) (k : Nat) : List UInt8 := (l.drop k).takeWhile (fun c => plainN c.toNat)
theorem tw_take {l : List UInt8} {p : UInt8 → Bool} : ∀ {j : Nat} (hj : j < l.length), (∀ k (hk : k < l.length), k < j → p l[k] = true) → p l[j] = false → l.takeWhile p = l.take j := by
  induction l with
  | nil => intro j hj; simp at hj
  | cons x t ih =>
    intro j hj h hn
    cases j with
    | zero =>
      have hn : p x = false := hn
      rw [List.takeWhile_cons, hn]; rfl
    | succ j =>
      have hx : p x = true := h 0 (by simp) (by omega)
      rw [List.takeWhile_cons, hx, List.take_succ_cons]
      simp only [if_true]
      rw [ih (j := j) (by simpa using hj) (fun k hk hkj => h (k + 1) (by simpa using hk) (by omega)) hn]
theorem tw_all {l : List UInt8} {p : UInt8 → Bool} (h : ∀ k (hk : k < l.length), p l[k] = true) : l.takeWhile p = l := by
  induction l with
  | nil => rfl
  | cons x t ih =>
    have hx : p x = true := h 0 (by simp)
    rw [List.takeWhile_cons, hx]
    simp only [if_true]
    rw [ih (fun k hk => h (k + 1) (by simpa using hk))]
theorem ext_take (s : ByteArray) (j : Nat) : s.extract 0 j = ⟨(s.data.toList.take j).toArray⟩ := by
  apply ByteArray.ext
  apply Array.ext'
  simp [ByteArray.data_extract, Array.toList_extract, List.extract]
set_option maxHeartbeats 8000000 in
set_option maxRecDepth 100000 in
theorem plainpre_any (s : ByteArray) (hs : s.size ≤ 140737488355328) (w : World) : Calls Tryz.prog 64 #[.string s] w (fun e w' => e = .returned (.string ⟨(plnT s.data.toList 0).toArray⟩) ∧ w' = w) := by
  have HL : Hid (s.data.toList.length = s.size) := by show _ = _; simp
  have HEL : Hid (∀ k (hk : k < s.size) (hk' : k < s.data.toList.length), s.data.toList[k] = s[k]) := fun k hk hk' => by rw [Array.getElem_toList]; rfl
  go_enter Tryz.func64, Tryz.ntmps64
  go_wp2_with fail
  go_loopw [6] (fun e6 wr => ∃ j : Nat, j ≤ s.size ∧ e6 = .int .i64 (j : Int) ∧ wr = w ∧ Hid (∀ k (h : k < s.size), k < j → plainN (s[k]).toNat = true)) (fun e6 _ => s.size - (RowKit.intOf e6).toNat)
  case atStart => exact ⟨0, by omega, rfl, rfl, fun k _ h => by omega⟩
  case round =>
    obtain ⟨j, hj, rfl, rfl, HN⟩ := hrel
    by_cases hjl : j < s.size
    · have y1 : (j : Int) < s.size := by omega
      have y2 : (j : Int) ≤ s.size := by omega
      have HP := hmk (fun W => plain_any (s[j]).toNat (UInt8.toNat_lt _) W)
      obtain ⟨t, ht⟩ : ∃ t, plainN (s[j]).toNat = t := ⟨_, rfl⟩
      rw [ht] at HP
      cases t with
      | false =>
        have HE : Hid (s.extract 0 j = ⟨(plnT s.data.toList 0).toArray⟩) := by
          show _ = _
          rw [ext_take]
          have hjl' : j < s.data.toList.length := by rw [HL.out]; exact hjl
          have := tw_take (l := s.data.toList) (p := fun c => plainN c.toNat) hjl' (fun k hk hkj => by
            have hk' : k < s.size := by rw [← HL.out]; exact hk
            rw [HEL.out k hk' hk]; exact HN.out k hk' hkj) (by rw [HEL.out j hjl hjl']; exact ht)
          unfold plnT
          rw [List.drop_zero, this]
        clear ht HN
        go_wp2_with (first | (go_at_call 81; refine (HP.out _).mono ?_; rintro e w1 ⟨rfl, rfl⟩))
        go_ret
        exact ⟨congrArg (fun r => Ending.returned (.string r)) HE.out, rfl⟩
      | true =>
        have HY : Hid (∀ k (h : k < s.size), k < j + 1 → plainN (s[k]).toNat = true) := fun k hk h => by
          by_cases e : k = j
          · subst e; exact ht
          · exact HN.out k hk (by omega)
        clear ht HN
        go_wp2_with (first | (go_at_call 81; refine (HP.out _).mono ?_; rintro e w1 ⟨rfl, rfl⟩))
        go_roundw
        case rel => exact ⟨j + 1, by omega, by go_num, (by first | trivial | rfl), HY.out⟩
        case measure => simp [RowKit.intOf]; omega
    · obtain rfl : j = s.size := by omega
      have y1 : ¬ (s.size : Int) < s.size := by omega
      have HA : Hid ((⟨(plnT s.data.toList 0).toArray⟩ : ByteArray) = s) := by
        show _ = _
        unfold plnT
        rw [List.drop_zero, tw_all (fun k hk => by
          have hk' : k < s.size := by rw [← HL.out]; exact hk
          rw [HEL.out k hk' hk]; exact HN.out k hk' hk')]
      go_wp2_with fail
      (try simp only [Exit.inBlock, Exit.then])
      go_ret
      exact ⟨congrArg (fun r => Ending.returned (.string r)) HA.out.symm, rfl⟩
end Go.Proofs.YtolekldjbbjmjaaGreatDoor
