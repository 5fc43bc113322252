/- joined: GidA LedA HedA RepP RepA WlkP WlkA WlkQ -/
import Derived.Test.YtejcfkkkbnnmcaaGreatDoorJF
import Derived.Test.YtejcfkkkbnnmcaaGreatDoorIdxP
import Derived.Lib.SmallJoins
import Derived.Lib.AppendIntMem
import Derived.Test.YtejcfkkkbnnmcaaGreatDoorJE
import Derived.Shelf.SlicesE.Clone
/- pointer.index. -/
set_option linter.unusedSimpArgs false
set_option linter.unusedVariables false
namespace Go.Proofs.YtejcfkkkbnnmcaaGreatDoor
open Go.RowKit Go.Lib

/-- a variable that holds an error -/
def ErrAt (g : Nat) (w : World) : Prop := ∃ ev, w.cell? ⟨g, 0, none⟩ = some ev ∧ (ev = .nilIface ∨ ∃ te pe, ev = .iface te pe)
def PowTab (w : World) : Prop := TabIs Tryz.prog w "internal/strconv.uint64pow10" .u64 pow10Tab
theorem PowTab.below {w w' : World} {B : Nat} (h : PowTab w) (hb : Below B w w') (hB : 7 < B) : PowTab w' := by
  unfold PowTab TabIs World.var? at *
  have hg : Tryz.prog.globalNamed "internal/strconv.uint64pow10" = some 3 := by kernel_rfl
  simp only [hg, Option.bind_some] at h ⊢
  rw [hb.block 3 (by omega)]
  exact h
/-- what the calls read beside their arguments -/
structure Tg (w : World) : Prop where
  t : Tp w
  y : ErrAt 4 w
  r : ErrAt 5 w
  p : PowTab w
  z : 7 < w.heap.size
theorem ErrAt.below {g : Nat} {w w' : World} {B : Nat} (h : ErrAt g w) (hb : Below B w w') (hB : g < B) : ErrAt g w' := by
  obtain ⟨ev, h1, h2⟩ := h
  exact ⟨ev, (hb.cell (p := ⟨g, 0, none⟩) hB).trans h1, h2⟩
theorem Tg.below {w w' : World} {B : Nat} (h : Tg w) (hb : Below B w w') (hB : 7 < B) : Tg w' :=
  ⟨h.t.below hb (by omega), h.y.below hb (by omega), h.r.below hb (by omega), h.p.below hb hB, Nat.lt_of_lt_of_le h.z hb.size⟩
/-- strconv.Atoi: a number and no error, or some error -/
theorem atoi_any (s : ByteArray) (w : World) (hs : s.size ≤ 281474976710656) (tg : Tg w) :
    Calls Tryz.prog 58 #[.string s] w fun e w' => (∃ n ev, e = .returned (.tuple #[.int .i64 n, ev]) ∧ ((∃ v, atoiAll s.data.toList = .ok v ∧ n = v ∧ ev = .nilIface) ∨ ((∀ v, atoiAll s.data.toList ≠ .ok v) ∧ ∃ N, ev = .iface 120 (.pointer (some ⟨N, 0, none⟩))))) ∧ Below w.heap.size w w' := by
  cases ha : atoiAll s.data.toList with
  | ok v =>
    refine (Any.strconv_Atoi_ok Tryz.lays172 s (by omega) v ha w).mono ?_
    rintro e w' ⟨he, hw⟩
    refine ⟨⟨v, .nilIface, he, .inl ⟨v, rfl, rfl, rfl⟩⟩, ?_⟩
    rcases hw with rfl | ⟨t, rfl⟩
    · exact Below.refl _ _
    · exact Go.Joins.below_bytesWorld _ _ _ _ (Nat.le_refl _)
  | «syntax» =>
    obtain ⟨ev, h1, h2⟩ := tg.y
    refine (Any.strconv_Atoi_syntax Tryz.lays172 s hs ha ev w h1 h2).mono ?_
    rintro e w' ⟨N, he, _, _, hb⟩
    exact ⟨⟨_, _, he, .inr ⟨(fun v h => by cases h), N, rfl⟩⟩, hb⟩
  | range =>
    obtain ⟨ev, h1, h2⟩ := tg.r
    refine (Any.strconv_Atoi_range Tryz.lays172 s hs ha ev w h1 h2).mono ?_
    rintro e w' ⟨N, he, _, _, hb⟩
    exact ⟨⟨_, _, he, .inr ⟨(fun v h => by cases h), N, rfl⟩⟩, hb⟩
theorem itoa_any (n : Int) (h : -9223372036854775808 ≤ n ∧ n ≤ 9223372036854775807) (w : World) (tg : Tg w) :
    Calls Tryz.prog 33 #[.int .i64 n] w fun e w' => e = .returned (.string ⟨(itoa n).toArray⟩) ∧ Below w.heap.size w w' := by
  refine (Any.strconv_Itoa Tryz.lays171 n h.1 h.2 w tg.p).mono ?_
  rintro e w' ⟨he, k, os, rfl⟩
  exact ⟨he, below_grow _ _ (Nat.le_refl _) _ _⟩

def IxPost (o : Option Nat) (w : World) (e : Ending) (w' : World) : Prop := e = .returned (.tuple #[.int .i64 ((o.getD 0 : Nat) : Int), .bool o.isSome]) ∧ Below w.heap.size w w'
set_option maxHeartbeats 2000000 in
set_option maxRecDepth 100000 in
theorem index_any (s : ByteArray) (n : Nat) (w : World) (hs : s.size ≤ 281474976710656) (hn : n < 9223372036854775808) (tg : Tg w) : Calls Tryz.prog 39 #[.string s, .int .i64 (n : Int)] w (IxPost (idxF s.data.toList n) w) := by
  have CA := hmk (atoi_any s w hs tg)
  have HI := hmk (idxF_prog s.data.toList n hn)
  have HT : Hid (∀ W, Below w.heap.size w W → Tg W) := fun W hb => tg.below hb tg.z
  generalize idxF s.data.toList n = O at *
  clear tg
  go_enter Tryz.func39, Tryz.ntmps39
  go_wp2_with fail
  refine CA.out.mono ?_
  rintro e w1 ⟨⟨m, ev, rfl, hcase⟩, b1⟩
  rcases hcase with ⟨v, ha, rfl, rfl⟩ | ⟨ha, N, rfl⟩
  · rw [ha] at HI
    by_cases h0 : m < 0
    · have HR : Hid (O = none) := by show _ = _; rw [HI.out]; simp only; rw [if_neg (fun h => by omega)]
      go_wp2_with fail
      go_ret2
      exact ⟨by rw [HR.out]; rfl, b1⟩
    · by_cases h1 : (n : Int) ≤ m
      · have HR : Hid (O = none) := by show _ = _; rw [HI.out]; simp only; rw [if_neg (fun h => by omega)]
        have y1 : ¬ m < 0 := h0
        have y2 : m ≥ n := h1
        go_wp2_with fail
        go_ret2
        exact ⟨by rw [HR.out]; rfl, b1⟩
      · obtain ⟨u, rfl⟩ : ∃ u : Nat, m = u := ⟨m.toNat, by omega⟩
        have y1 : ¬ (u : Int) < 0 := h0
        have y2 : ¬ (u : Int) ≥ n := by omega
        have y3 : (u : Int) < n := by omega
        have CI := hmk (itoa_any (u : Int) (by omega) w1 (HT.out w1 b1))
        have hz1 := b1.size
        by_cases hq : itoa (u : Int) = s.data.toList
        · have HR : Hid (O = some u) := by show _ = _; rw [HI.out]; simp only; rw [if_pos ⟨by omega, by omega, hq⟩]; simp
          have eq : (⟨(itoa (u : Int)).toArray⟩ : ByteArray) = s := by rw [hq]
          rw [eq] at CI
          have yq : (s.toList != s.toList) = false := by simp
          go_wp2_with fail
          refine CI.out.mono ?_
          rintro e w2 ⟨rfl, b2⟩
          go_wp2_with fail
          go_ret2
          exact ⟨by rw [HR.out]; rfl, b1.trans (b2.mono hz1)⟩
        · have HR : Hid (O = none) := by show _ = _; rw [HI.out]; simp only; rw [if_neg (fun h => hq h.2.2)]
          have yq : ((⟨(itoa (u : Int)).toArray⟩ : ByteArray).toList == s.toList) = false := by
            rw [beq_eq_false_iff_ne, ByteArray.toList_eq, ByteArray.toList_eq]; exact hq
          generalize (⟨(itoa (u : Int)).toArray⟩ : ByteArray) = qi at *
          have yq2 : (qi.toList != s.toList) = true := by simp [bne, yq]
          have yq3 : ¬ qi.toList = s.toList := by simpa using yq
          go_wp2_with fail
          refine CI.out.mono ?_
          rintro e w2 ⟨rfl, b2⟩
          go_wp2_with fail
          go_ret2
          exact ⟨by rw [HR.out]; rfl, b1.trans (b2.mono hz1)⟩
  · have HR : Hid (O = none) := by
      show _ = _
      rw [HI.out]
      cases hx : atoiAll s.data.toList with
      | ok v => exact absurd hx (ha v)
      | «syntax» => rfl
      | range => rfl
    go_wp2_with fail
    go_ret2
    exact ⟨by rw [HR.out]; rfl, b1⟩
end Go.Proofs.YtejcfkkkbnnmcaaGreatDoor

/- pointer.lead, pointer.held. -/
set_option linter.unusedSimpArgs false
set_option linter.unusedVariables false
namespace Go.Proofs.YtejcfkkkbnnmcaaGreatDoor
open Go.RowKit Go.Lib

def kindOf : V → Int
  | .mk k _ _ _ _ _ => k
def listOf : V → List V
  | .mk _ _ _ _ l _ => l
def memsOf : V → List Mem
  | .mk _ _ _ _ _ m => m
/-- where a token leads: an index, or the error's number -/
def ledF (v : V) (t : ByteArray) : Nat × Int :=
  if kindOf v = 5 then (if keyIs t (memsOf v)[posF (memsOf v) t]? = true then (posF (memsOf v) t, 0) else (0, 41))
  else if kindOf v = 4 then ((idxF t.data.toList (listOf v).length).getD 0, if (idxF t.data.toList (listOf v).length).isSome = true then 0 else 42)
  else (0, 41)
/-- the how manieth of what a value holds -/
def kid (v : V) (j : Nat) : V := if kindOf v = 4 then (listOf v).getD j nullV else ((memsOf v).getD j (⟨#[]⟩, nullV)).2
/-- there is such a one -/
def kidAt (v : V) (j : Nat) : Prop := (kindOf v = 4 ∧ j < (listOf v).length) ∨ (kindOf v = 5 ∧ j < (memsOf v).length)

theorem one_belowG (w : World) (o : Obj) : Below w.heap.size w (w.alloc o) := (Below.refl _ _).alloc (Nat.le_refl _) _
theorem idxF_lt {s : List UInt8} {n p : Nat} (h : idxF s n = some p) : p < n := by
  exact List.mem_range.1 (List.mem_of_find?_eq_some h)
theorem led_kid {v : V} {t : ByteArray} (h : (ledF v t).2 = 0) : kidAt v (ledF v t).1 := by
  unfold ledF at h ⊢
  split
  · rename_i hk
    rw [if_pos hk] at h
    split
    · rename_i hq
      refine .inr ⟨hk, ?_⟩
      show posF (memsOf v) t < _
      rcases Nat.lt_or_ge (posF (memsOf v) t) (memsOf v).length with h1 | h1
      · exact h1
      · rw [List.getElem?_eq_none h1] at hq; simp [keyIs] at hq
    · rename_i hq
      rw [if_neg hq] at h; simp at h
  · rename_i hk
    rw [if_neg hk] at h
    split
    · rename_i hk4
      rw [if_pos hk4] at h
      refine .inl ⟨hk4, ?_⟩
      cases hx : idxF t.data.toList (listOf v).length with
      | none => rw [hx] at h; simp at h
      | some p => exact idxF_lt hx
    · rename_i hk4
      rw [if_neg hk4] at h; simp at h

def LdPost (p : Nat × Int) (w : World) (e : Ending) (w' : World) : Prop := e = .returned (.tuple #[.int .i64 (p.1 : Int), .int .i64 p.2]) ∧ Below w.heap.size w w'
set_option maxHeartbeats 1600000 in
set_option maxRecDepth 100000 in
theorem lead_any (v : V) (key : ByteArray) (S : Nat → Prop) (cs : List Value) (w : World) (tg : Tg w) (hv : v.lies false w S cs) (hS : ∀ b, S b → b < w.heap.size) (hwt : v.wt ≤ 1099511627776) (hk : key.size ≤ 281474976710656) (hsr : Srt (memsOf v)) :
    Calls Tryz.prog 25 #[.agg cs.toArray, .string key] w (LdPost (ledF v key) w) := by
  obtain ⟨k, b, i, s, l, m⟩ := v
  rw [V.lies] at hv
  obtain ⟨al, cl, bl, ol, am, cm, bm, om, rfl, _, _, _, hal, ham, _, hm, _⟩ := hv
  have hz2 : (w.alloc (.cells #[.int .i64 k, .bool b, .int .i64 i, .string s, .slice al l.length cl, .slice am m.length cm] 25)).heap.size = w.heap.size + 1 := by rw [alloc_size]
  have B0 : Below w.heap.size w (w.alloc (.cells #[.int .i64 k, .bool b, .int .i64 i, .string s, .slice al l.length cl, .slice am m.length cm] 25)) := one_belowG w _
  have h0 : (w.alloc (.cells #[.int .i64 k, .bool b, .int .i64 i, .string s, .slice al l.length cl, .slice am m.length cm] 25)).heap[w.heap.size]? = _ := heap_alloc_new w _
  have HT : Hid (∀ W, Below w.heap.size w W → Tg W) := fun W hb => tg.below hb tg.z
  have hml : m.length ≤ 1099511627776 := by have := wtM_len m; simp only [V.wt] at hwt; omega
  have hll : l.length ≤ 1099511627776 := by have := wtL_len l; simp only [V.wt] at hwt; omega
  have HM : Hid (∀ W, Below w.heap.size w W → Calls Tryz.prog 38 #[.slice am m.length cm, .string key] W (fun e w' => e = .returned (.tuple #[.int .i64 (posF m key : Int), .bool (keyIs key m[posF m key]?)]) ∧ Below W.heap.size W w')) := fun W hb => find_any m key false S am cm bm om W ham (liesM_keep (fun h => h) (fun x hx => hb.block x (hS x hx)) (fun _ h => h) _ hm) (fun x hx => Nat.lt_of_lt_of_le (hS x hx) hb.size) hsr hml
  have HX : Hid (∀ W, Below w.heap.size w W → Calls Tryz.prog 39 #[.string key, .int .i64 (l.length : Int)] W (IxPost (idxF key.data.toList l.length) W)) := fun W hb => index_any key l.length W hk (by omega) (tg.below hb tg.z)
  have HF : Hid (ledF (.mk k b i s l m) key = if k = 5 then (if keyIs key m[posF m key]? = true then (posF m key, 0) else (0, 41)) else if k = 4 then ((idxF key.data.toList l.length).getD 0, if (idxF key.data.toList l.length).isSome = true then 0 else 42) else (0, 41)) := by show _ = _; rfl
  generalize ledF (.mk k b i s l m) key = F at *
  generalize posF m key = p at *
  generalize keyIs key m[p]? = q at *
  generalize idxF key.data.toList l.length = O at *
  have r0 : (w.alloc (.cells #[.int .i64 k, .bool b, .int .i64 i, .string s, .slice al l.length cl, .slice am m.length cm] 25)).cell? ⟨w.heap.size, 0, none⟩ = some (.int .i64 k) := by rw [cell_of_block h0]; rfl
  have r1 : (w.alloc (.cells #[.int .i64 k, .bool b, .int .i64 i, .string s, .slice al l.length cl, .slice am m.length cm] 25)).cell? ⟨w.heap.size, 1, none⟩ = some (.bool b) := by rw [cell_of_block h0]; rfl
  have r2 : (w.alloc (.cells #[.int .i64 k, .bool b, .int .i64 i, .string s, .slice al l.length cl, .slice am m.length cm] 25)).cell? ⟨w.heap.size, 2, none⟩ = some (.int .i64 i) := by rw [cell_of_block h0]; rfl
  have r3 : (w.alloc (.cells #[.int .i64 k, .bool b, .int .i64 i, .string s, .slice al l.length cl, .slice am m.length cm] 25)).cell? ⟨w.heap.size, 3, none⟩ = some (.string s) := by rw [cell_of_block h0]; rfl
  have r4 : (w.alloc (.cells #[.int .i64 k, .bool b, .int .i64 i, .string s, .slice al l.length cl, .slice am m.length cm] 25)).cell? ⟨w.heap.size, 4, none⟩ = some (.slice al l.length cl) := by rw [cell_of_block h0]; rfl
  have r5 : (w.alloc (.cells #[.int .i64 k, .bool b, .int .i64 i, .string s, .slice al l.length cl, .slice am m.length cm] 25)).cell? ⟨w.heap.size, 5, none⟩ = some (.slice am m.length cm) := by rw [cell_of_block h0]; rfl
  clear hm tg hsr hS hwt
  by_cases hk5 : k = 5
  · subst hk5
    go_enter Tryz.func25, Tryz.ntmps25
    go_wp2_with fail
    refine (HM.out _ B0).mono ?_
    rintro e w1 ⟨rfl, b1⟩
    have hz1 := b1.size
    have B1 := B0.trans (b1.mono (by omega))
    cases q with
    | true =>
      have HR : Hid (F = (p, 0)) := by show _ = _; rw [HF.out]; simp
      go_wp2_with fail
      go_ret2
      exact ⟨by rw [HR.out]; rfl, B1⟩
    | false =>
      have HR : Hid (F = (0, 41)) := by show _ = _; rw [HF.out]; simp
      go_wp2_with fail
      go_ret2
      exact ⟨by rw [HR.out]; rfl, B1⟩
  · by_cases hk4 : k = 4
    · subst hk4
      go_enter Tryz.func25, Tryz.ntmps25
      go_wp2_with fail
      refine (HX.out _ B0).mono ?_
      rintro e w1 ⟨rfl, b1⟩
      have hz1 := b1.size
      have B1 := B0.trans (b1.mono (by omega))
      cases O with
      | some x =>
        have HR : Hid (F = (x, 0)) := by show _ = _; rw [HF.out]; simp
        go_wp2_with fail
        go_ret2
        exact ⟨by rw [HR.out]; rfl, B1⟩
      | none =>
        have HR : Hid (F = (0, 42)) := by show _ = _; rw [HF.out]; simp
        go_wp2_with fail
        go_ret2
        exact ⟨by rw [HR.out]; rfl, B1⟩
    · have HR : Hid (F = (0, 41)) := by show _ = _; rw [HF.out, if_neg hk5, if_neg hk4]
      go_enter Tryz.func25, Tryz.ntmps25
      go_wp2_with fail
      go_ret2
      exact ⟨by rw [HR.out]; rfl, B0⟩
end Go.Proofs.YtejcfkkkbnnmcaaGreatDoor

/- pointer.held. -/
set_option linter.unusedSimpArgs false
set_option linter.unusedVariables false
namespace Go.Proofs.YtejcfkkkbnnmcaaGreatDoor
open Go.RowKit Go.Lib

/-- a part of a value, in the memory that it lies in -/
def HdPost (x : V) (S : Nat → Prop) (w : World) (e : Ending) (w' : World) : Prop := ∃ cs : List Value, e = .returned (.agg cs.toArray) ∧ x.lies false w' S cs ∧ Below w.heap.size w w'
theorem lies_below {v : V} {S : Nat → Prop} {cs : List Value} {w W : World} (h : v.lies false w S cs) (hS : ∀ b, S b → b < w.heap.size) (hb : Below w.heap.size w W) : v.lies false W S cs := V.lies_keep (fun h => h) (fun x hx => hb.block x (hS x hx)) (fun _ h => h) _ h
set_option maxHeartbeats 1600000 in
set_option maxRecDepth 100000 in
theorem held_any (v : V) (j : Nat) (S : Nat → Prop) (cs : List Value) (w : World) (hv : v.lies false w S cs) (hS : ∀ b, S b → b < w.heap.size) (hwt : v.wt ≤ 1099511627776) (hj : kidAt v j) :
    Calls Tryz.prog 26 #[.agg cs.toArray, .int .i64 (j : Int)] w (HdPost (kid v j) S w) := by
  obtain ⟨k, b, i, s, l, m⟩ := v
  rw [V.lies] at hv
  obtain ⟨al, cl, bl, ol, am, cm, bm, om, rfl, _, _, _, hal, ham, hl, hm, _⟩ := hv
  have hml : m.length ≤ 1099511627776 := by have := wtM_len m; simp only [V.wt] at hwt; omega
  have hll : l.length ≤ 1099511627776 := by have := wtL_len l; simp only [V.wt] at hwt; omega
  have hz2 : ((w.alloc (.cells #[.int .i64 k, .bool b, .int .i64 i, .string s, .slice al l.length cl, .slice am m.length cm] 25)).alloc (.cells #[.int .i64 0, .bool false, .int .i64 0, .string ⟨#[]⟩, .slice none 0 0, .slice none 0 0] 25)).heap.size = w.heap.size + 2 := by rw [alloc_size, alloc_size]
  have B0 : Below w.heap.size w ((w.alloc (.cells #[.int .i64 k, .bool b, .int .i64 i, .string s, .slice al l.length cl, .slice am m.length cm] 25)).alloc (.cells #[.int .i64 0, .bool false, .int .i64 0, .string ⟨#[]⟩, .slice none 0 0, .slice none 0 0] 25)) := two_below w _ _
  have h0 := alloc2_keep1 w (.cells #[.int .i64 k, .bool b, .int .i64 i, .string s, .slice al l.length cl, .slice am m.length cm] 25) (.cells #[.int .i64 0, .bool false, .int .i64 0, .string ⟨#[]⟩, .slice none 0 0, .slice none 0 0] 25)
  have h1 := alloc2_new w (.cells #[.int .i64 k, .bool b, .int .i64 i, .string s, .slice al l.length cl, .slice am m.length cm] 25) (.cells #[.int .i64 0, .bool false, .int .i64 0, .string ⟨#[]⟩, .slice none 0 0, .slice none 0 0] 25)
  have rf : ∀ i', ((w.alloc (.cells #[.int .i64 k, .bool b, .int .i64 i, .string s, .slice al l.length cl, .slice am m.length cm] 25)).alloc (.cells #[.int .i64 0, .bool false, .int .i64 0, .string ⟨#[]⟩, .slice none 0 0, .slice none 0 0] 25)).frozen? ⟨w.heap.size + 1, i', none⟩ = false := frozen_of_block h1
  have r0 : ((w.alloc (.cells #[.int .i64 k, .bool b, .int .i64 i, .string s, .slice al l.length cl, .slice am m.length cm] 25)).alloc (.cells #[.int .i64 0, .bool false, .int .i64 0, .string ⟨#[]⟩, .slice none 0 0, .slice none 0 0] 25)).cell? ⟨w.heap.size, 0, none⟩ = some (.int .i64 k) := by rw [cell_of_block h0]; rfl
  have r1 : ((w.alloc (.cells #[.int .i64 k, .bool b, .int .i64 i, .string s, .slice al l.length cl, .slice am m.length cm] 25)).alloc (.cells #[.int .i64 0, .bool false, .int .i64 0, .string ⟨#[]⟩, .slice none 0 0, .slice none 0 0] 25)).cell? ⟨w.heap.size, 1, none⟩ = some (.bool b) := by rw [cell_of_block h0]; rfl
  have r2 : ((w.alloc (.cells #[.int .i64 k, .bool b, .int .i64 i, .string s, .slice al l.length cl, .slice am m.length cm] 25)).alloc (.cells #[.int .i64 0, .bool false, .int .i64 0, .string ⟨#[]⟩, .slice none 0 0, .slice none 0 0] 25)).cell? ⟨w.heap.size, 2, none⟩ = some (.int .i64 i) := by rw [cell_of_block h0]; rfl
  have r3 : ((w.alloc (.cells #[.int .i64 k, .bool b, .int .i64 i, .string s, .slice al l.length cl, .slice am m.length cm] 25)).alloc (.cells #[.int .i64 0, .bool false, .int .i64 0, .string ⟨#[]⟩, .slice none 0 0, .slice none 0 0] 25)).cell? ⟨w.heap.size, 3, none⟩ = some (.string s) := by rw [cell_of_block h0]; rfl
  have r4 : ((w.alloc (.cells #[.int .i64 k, .bool b, .int .i64 i, .string s, .slice al l.length cl, .slice am m.length cm] 25)).alloc (.cells #[.int .i64 0, .bool false, .int .i64 0, .string ⟨#[]⟩, .slice none 0 0, .slice none 0 0] 25)).cell? ⟨w.heap.size, 4, none⟩ = some (.slice al l.length cl) := by rw [cell_of_block h0]; rfl
  have r5 : ((w.alloc (.cells #[.int .i64 k, .bool b, .int .i64 i, .string s, .slice al l.length cl, .slice am m.length cm] 25)).alloc (.cells #[.int .i64 0, .bool false, .int .i64 0, .string ⟨#[]⟩, .slice none 0 0, .slice none 0 0] 25)).cell? ⟨w.heap.size, 5, none⟩ = some (.slice am m.length cm) := by rw [cell_of_block h0]; rfl
  have z0 : ((w.alloc (.cells #[.int .i64 k, .bool b, .int .i64 i, .string s, .slice al l.length cl, .slice am m.length cm] 25)).alloc (.cells #[.int .i64 0, .bool false, .int .i64 0, .string ⟨#[]⟩, .slice none 0 0, .slice none 0 0] 25)).cell? ⟨w.heap.size + 1, 0, none⟩ = some (.int .i64 0) := by rw [cell_of_block h1]; rfl
  have z1 : ((w.alloc (.cells #[.int .i64 k, .bool b, .int .i64 i, .string s, .slice al l.length cl, .slice am m.length cm] 25)).alloc (.cells #[.int .i64 0, .bool false, .int .i64 0, .string ⟨#[]⟩, .slice none 0 0, .slice none 0 0] 25)).cell? ⟨w.heap.size + 1, 1, none⟩ = some (.bool false) := by rw [cell_of_block h1]; rfl
  have z2 : ((w.alloc (.cells #[.int .i64 k, .bool b, .int .i64 i, .string s, .slice al l.length cl, .slice am m.length cm] 25)).alloc (.cells #[.int .i64 0, .bool false, .int .i64 0, .string ⟨#[]⟩, .slice none 0 0, .slice none 0 0] 25)).cell? ⟨w.heap.size + 1, 2, none⟩ = some (.int .i64 0) := by rw [cell_of_block h1]; rfl
  have z3 : ((w.alloc (.cells #[.int .i64 k, .bool b, .int .i64 i, .string s, .slice al l.length cl, .slice am m.length cm] 25)).alloc (.cells #[.int .i64 0, .bool false, .int .i64 0, .string ⟨#[]⟩, .slice none 0 0, .slice none 0 0] 25)).cell? ⟨w.heap.size + 1, 3, none⟩ = some (.string ⟨#[]⟩) := by rw [cell_of_block h1]; rfl
  have z4 : ((w.alloc (.cells #[.int .i64 k, .bool b, .int .i64 i, .string s, .slice al l.length cl, .slice am m.length cm] 25)).alloc (.cells #[.int .i64 0, .bool false, .int .i64 0, .string ⟨#[]⟩, .slice none 0 0, .slice none 0 0] 25)).cell? ⟨w.heap.size + 1, 4, none⟩ = some (.slice none 0 0) := by rw [cell_of_block h1]; rfl
  have z5 : ((w.alloc (.cells #[.int .i64 k, .bool b, .int .i64 i, .string s, .slice al l.length cl, .slice am m.length cm] 25)).alloc (.cells #[.int .i64 0, .bool false, .int .i64 0, .string ⟨#[]⟩, .slice none 0 0, .slice none 0 0] 25)).cell? ⟨w.heap.size + 1, 5, none⟩ = some (.slice none 0 0) := by rw [cell_of_block h1]; rfl
  clear hwt h0 h1
  rcases hj with ⟨hk, hj⟩ | ⟨hk, hj⟩
  · obtain rfl : k = 4 := hk
    have hj' : j < l.length := hj
    have y1 : (j : Int) < l.length := by omega
    obtain ⟨hSb, csj, hrow, hlj⟩ := liesL_get hl j hj'
    obtain rfl : al = some ⟨bl, ol, none⟩ := hal.at_.resolve_left (by omega)
    have HK : Hid (kid (.mk 4 b i s l m) j = l[j]) := by
      show _ = _
      show (l.getD j nullV) = _
      rw [List.getD_eq_getElem?_getD, List.getElem?_eq_getElem hj']; rfl
    have HJ := hmk hlj
    generalize l[j] = X at *
    obtain ⟨ek, eb, ei, es, eal, enl, ecl, eam, enm, ecm, rfl⟩ := V.ten hlj
    obtain ⟨g0, g1, g2, g3, g4, g5⟩ := row6 (fun q u hu => (B0.cell (p := ⟨bl, _, none⟩) (hS _ hSb)).trans (hrow q u hu))
    clear hrow hlj hl hm
    go_enter Tryz.func26, Tryz.ntmps26
    go_wp2_with fail
    (try simp only [Exit.inBlock, Exit.then])
    refine bodyPost_ret (v := .agg #[.int .i64 ek, .bool eb, .int .i64 ei, .string es, .slice eal enl ecl, .slice eam enm ecm]) ?_ rfl ?_
    rotate_left
    · rw [HK.out]
      refine ⟨[.int .i64 ek, .bool eb, .int .i64 ei, .string es, .slice eal enl ecl, .slice eam enm ecm], rfl, ?_⟩
      exact ⟨lies_below HJ.out hS (two_below w _ _), two_below w _ _⟩
    rw [results_cell1 rfl]
    go_simp
  · obtain rfl : k = 5 := hk
    have hj' : j < m.length := hj
    have y1 : (j : Int) < m.length := by omega
    obtain ⟨hSb, hks, csj, hrow, hlj⟩ := liesM_get hm j hj'
    obtain rfl : am = some ⟨bm, om, none⟩ := ham.at_.resolve_left (by omega)
    have HK : Hid (kid (.mk 5 b i s l m) j = (m[j]).2) := by
      show _ = _
      show (m.getD j (⟨#[]⟩, nullV)).2 = _
      rw [List.getD_eq_getElem?_getD, List.getElem?_eq_getElem hj']; rfl
    have HJ := hmk hlj
    obtain ⟨ekey, hek⟩ : ∃ ekey, (m[j]).1 = ekey := ⟨_, rfl⟩
    rw [hek] at hrow
    generalize (m[j]).2 = X at *
    obtain ⟨ek, eb, ei, es, eal, enl, ecl, eam, enm, ecm, rfl⟩ := V.ten hlj
    obtain ⟨g, g0, g1, g2, g3, g4, g5⟩ := row7 (fun q u hu => (B0.cell (p := ⟨bm, _, none⟩) (hS _ hSb)).trans (hrow q u hu))
    clear hrow hlj hl hm hek
    go_enter Tryz.func26, Tryz.ntmps26
    go_wp2_with fail
    (try simp only [Exit.inBlock, Exit.then])
    refine bodyPost_ret (v := .agg #[.int .i64 ek, .bool eb, .int .i64 ei, .string es, .slice eal enl ecl, .slice eam enm ecm]) ?_ rfl ?_
    rotate_left
    · rw [HK.out]
      refine ⟨[.int .i64 ek, .bool eb, .int .i64 ei, .string es, .slice eal enl ecl, .slice eam enm ecm], rfl, ?_⟩
      exact ⟨lies_below HJ.out hS (two_below w _ _), two_below w _ _⟩
    rw [results_cell1 rfl]
    go_simp
end Go.Proofs.YtejcfkkkbnnmcaaGreatDoor

/- Rows of cells, and slices.Clone of them. -/
set_option linter.unusedSimpArgs false
set_option linter.unusedVariables false
namespace Go.Proofs
def Tryz.clone40_ren : Go.Shelf.Ren := ⟨fun | 41 => 40 | n => n, fun | 4 => 4 | 22 => 22 | 23 => 25 | n => n, fun | n => n⟩
theorem Tryz.clone40 : Go.Proofs.SlLaysE0.n41 Tryz.prog Tryz.clone40_ren := {
  mixed := by kernel_rfl
  f41 := ⟨Tryz.f40.name, by kernel_rfl, Tryz.func40.trans (congrArg some (by kernel_rfl))⟩
  t4 := Tryz.underlying4
  a4 := Tryz.isAgg4
  z4 := Tryz.sizeOf4
  v4 := Tryz.zeroValue4
  t22 := Tryz.underlying22
  a22 := Tryz.isAgg22
  z22 := Tryz.sizeOf22
  v22 := Tryz.zeroValue22 }
def Tryz.clone41_ren : Go.Shelf.Ren := ⟨fun | 41 => 41 | n => n, fun | 4 => 4 | 22 => 23 | 23 => 42 | n => n, fun | n => n⟩
theorem Tryz.clone41 : Go.Proofs.SlLaysE0.n41 Tryz.prog Tryz.clone41_ren := {
  mixed := by kernel_rfl
  f41 := ⟨Tryz.f41.name, by kernel_rfl, Tryz.func41.trans (congrArg some (by kernel_rfl))⟩
  t4 := Tryz.underlying4
  a4 := Tryz.isAgg4
  z4 := Tryz.sizeOf4
  v4 := Tryz.zeroValue4
  t22 := Tryz.underlying23
  a22 := Tryz.isAgg23
  z22 := Tryz.sizeOf23
  v22 := Tryz.zeroValue23 }
end Go.Proofs
namespace Go.Proofs.YtejcfkkkbnnmcaaGreatDoor
open Go.RowKit Go.Lib

/-- rows of c cells each, one behind the other -/
structure RowsOf (w : World) (b o c : Nat) (css : List (List Value)) : Prop where
  len : ∀ x ∈ css, x.length = c
  one : ∀ x ∈ css, ∀ u ∈ x, u.oneCell' = true
  row : ∀ (j : Nat) (h : j < css.length), rowAt w b (o + j * c) css[j]

theorem flat_len {c : Nat} : ∀ {css : List (List Value)}, (∀ x ∈ css, x.length = c) → css.flatten.length = css.length * c
  | [], _ => by simp
  | x :: t, h => by
    have := flat_len (css := t) (fun y hy => h y (List.mem_cons_of_mem _ hy))
    rw [List.flatten_cons, List.length_append, this, h x List.mem_cons_self, List.length_cons, Nat.add_mul]; omega
theorem flat_get {c : Nat} : ∀ {css : List (List Value)}, (∀ x ∈ css, x.length = c) → ∀ (j r : Nat) (hr : r < c) (hj : j < css.length), css.flatten[j * c + r]? = (css[j])[r]?
  | [], _, j, r, hr, hj => by simp at hj
  | x :: t, h, 0, r, hr, hj => by
    rw [List.flatten_cons, Nat.zero_mul, Nat.zero_add, List.getElem?_append_left (by rw [h x List.mem_cons_self]; exact hr)]
    rfl
  | x :: t, h, j + 1, r, hr, hj => by
    have hx := h x List.mem_cons_self
    have := flat_get (css := t) (fun y hy => h y (List.mem_cons_of_mem _ hy)) j r hr (by simpa using hj)
    have e : (j + 1) * c + r = c + (j * c + r) := by rw [Nat.add_mul]; omega
    rw [List.flatten_cons, e, List.getElem?_append_right (by omega), hx, Nat.add_sub_cancel_left, this]
    rfl
theorem flat_at {c : Nat} {css : List (List Value)} (h : ∀ x ∈ css, x.length = c) (hc : 0 < c) {p : Nat} {u : Value} (hu : css.flatten[p]? = some u) : ∃ j r, ∃ (hj : j < css.length), r < c ∧ p = j * c + r ∧ (css[j])[r]? = some u := by
  have hp : p < css.length * c := by
    rcases Nat.lt_or_ge p css.flatten.length with h1 | h1
    · rwa [flat_len h] at h1
    · rw [List.getElem?_eq_none h1] at hu; cases hu
  have hj : p / c < css.length := (Nat.div_lt_iff_lt_mul hc).2 hp
  have hr := Nat.mod_lt p hc
  have e : p = p / c * c + p % c := by have := Nat.div_add_mod p c; rw [Nat.mul_comm] at this; exact this.symm
  refine ⟨p / c, p % c, hj, hr, e, ?_⟩
  rw [← flat_get h _ _ hr hj, ← e]
  exact hu
theorem RowsOf.flat {w : World} {b o c : Nat} {css : List (List Value)} (h : RowsOf w b o c css) (hc : 0 < c) (p : Nat) (u : Value) (hu : css.flatten[p]? = some u) : w.cell? ⟨b, o + p, none⟩ = some u := by
  obtain ⟨j, r, hj, hr, rfl, h1⟩ := flat_at h.len hc hu
  have := h.row j hj r u h1
  rw [← Nat.add_assoc]
  exact this
theorem RowsOf.flat1 {w : World} {b o c : Nat} {css : List (List Value)} (h : RowsOf w b o c css) : ∀ u ∈ css.flatten, u.oneCell' = true := fun u hu => by
  obtain ⟨x, hx, hu⟩ := List.mem_flatten.1 hu
  exact h.one x hx u hu
theorem one_of_lies {v : V} {w : World} {S : Nat → Prop} {cs : List Value} (h : v.lies false w S cs) : cs.length = 6 ∧ ∀ u ∈ cs, u.oneCell' = true := by
  obtain ⟨k, b, i, s, al, nl, cl, am, nm, cm, rfl⟩ := V.ten h
  refine ⟨rfl, fun u hu => ?_⟩
  simp only [List.mem_cons, List.not_mem_nil, or_false] at hu
  rcases hu with rfl | rfl | rfl | rfl | rfl | rfl <;> rfl
theorem rowsL_of {w : World} {S : Nat → Prop} : ∀ {l : List V} {b o : Nat}, liesL false w S l b o → ∃ css : List (List Value), css.length = l.length ∧ RowsOf w b o 6 css ∧ ∀ (j : Nat) (h : j < l.length) (h' : j < css.length), (l[j]).lies false w S css[j]
  | [], b, o, _ => ⟨[], rfl, ⟨by simp, by simp, by intro j h; simp at h⟩, by intro j h; simp at h⟩
  | x :: t, b, o, hl => by
    rw [liesL] at hl
    obtain ⟨hS, ⟨cs, hr, hx⟩, ht⟩ := hl
    obtain ⟨css, h1, h2, h3⟩ := rowsL_of ht
    have ho := one_of_lies hx
    refine ⟨cs :: css, by simp [h1], ⟨?_, ?_, ?_⟩, ?_⟩
    · intro y hy
      rcases List.mem_cons.1 hy with rfl | hy
      · exact ho.1
      · exact h2.len y hy
    · intro y hy
      rcases List.mem_cons.1 hy with rfl | hy
      · exact ho.2
      · exact h2.one y hy
    · intro j hj
      cases j with
      | zero => simpa using hr
      | succ j =>
        have := h2.row j (by simpa using hj)
        rw [show o + 6 + j * 6 = o + (j + 1) * 6 by omega] at this
        simpa using this
    · intro j hj hj'
      cases j with
      | zero => simpa using hx
      | succ j => simpa using h3 j (by simpa using hj) (by simpa using hj')
theorem rowsM_of {w : World} {S : Nat → Prop} : ∀ {l : List Mem} {b o : Nat}, liesM false w S l b o → ∃ css : List (List Value), css.length = l.length ∧ RowsOf w b o 7 css ∧ ∀ (j : Nat) (h : j < l.length) (h' : j < css.length), ∃ cs, css[j] = .string (l[j]).1 :: cs ∧ (l[j]).1.size ≤ maxLen ∧ (l[j]).2.lies false w S cs
  | [], b, o, _ => ⟨[], rfl, ⟨by simp, by simp, by intro j h; simp at h⟩, by intro j h; simp at h⟩
  | (k, x) :: t, b, o, hl => by
    rw [liesM] at hl
    obtain ⟨hS, ⟨hk, cs, hr, hx⟩, ht⟩ := hl
    obtain ⟨css, h1, h2, h3⟩ := rowsM_of ht
    have ho := one_of_lies hx
    refine ⟨(.string k :: cs) :: css, by simp [h1], ⟨?_, ?_, ?_⟩, ?_⟩
    · intro y hy
      rcases List.mem_cons.1 hy with rfl | hy
      · simp [ho.1]
      · exact h2.len y hy
    · intro y hy
      rcases List.mem_cons.1 hy with rfl | hy
      · intro u hu
        rcases List.mem_cons.1 hu with rfl | hu
        · rfl
        · exact ho.2 u hu
      · exact h2.one y hy
    · intro j hj
      cases j with
      | zero => simpa using hr
      | succ j =>
        have := h2.row j (by simpa using hj)
        rw [show o + 7 + j * 7 = o + (j + 1) * 7 by omega] at this
        simpa using this
    · intro j hj hj'
      cases j with
      | zero => exact ⟨cs, by simp, by simpa using hk, by simpa using hx⟩
      | succ j => simpa using h3 j (by simpa using hj) (by simpa using hj')

/-- a new block that holds these rows -/
structure NewRows (w w' : World) (g cap ty c : Nat) (css : List (List Value)) (cur : Array Value) : Prop where
  lo : w.heap.size ≤ g
  hi : g < w'.heap.size
  le : css.length ≤ cap
  max : cap ≤ maxLen
  blk : w'.heap[g]? = some (.cells cur ty (0, 0))
  size : css.length * c ≤ cur.size
  rows : RowsOf w' g 0 c css
theorem newRows_mk {w w' : World} {ty c : Nat} {css : List (List Value)} {v' : Value} (hc : 0 < c) (hr : ∀ x ∈ css, x.length = c) (h1 : ∀ x ∈ css, ∀ u ∈ x, u.oneCell' = true) (ho : w'.ownsRow w.heap.size ty c v' css.length css.flatten) (hne : v' ≠ .slice none 0 0) : ∃ g cap cur, v' = .slice (some ⟨g, 0, none⟩) css.length cap ∧ NewRows w w' g cap ty c css cur := by
  obtain ⟨_, ho⟩ := ho
  rcases ho with ⟨rfl, _⟩ | ⟨g, cap, cur, rfl, hg, hblk, hle, hm, hcs, hpre⟩
  · exact absurd rfl hne
  · have hlt : g < w'.heap.size := by
      rcases Nat.lt_or_ge g w'.heap.size with h | h
      · exact h
      · rw [Array.getElem?_eq_none h] at hblk; cases hblk
    refine ⟨g, cap, cur, rfl, hg, hlt, hle, hm, hblk, ?_, hr, h1, fun j hj q u hu => ?_⟩
    · have := congrArg List.length hpre
      rw [List.length_take, flat_len hr] at this
      have h2 : cur.toList.length = cur.size := by simp
      omega
    · have hq : q < c := by
        rcases Nat.lt_or_ge q c with h | h
        · exact h
        · rw [List.getElem?_eq_none (by rw [hr _ (List.getElem_mem hj)]; exact h)] at hu; cases hu
      have hlt2 : j * c + q < css.length * c := by
        have : (j + 1) * c ≤ css.length * c := Nat.mul_le_mul_right c hj
        rw [Nat.add_mul] at this
        omega
      rw [Nat.zero_add, cell_of_block hblk, ← Array.getElem?_toList]
      have e1 : cur.toList[j * c + q]? = (cur.toList.take (css.length * c))[j * c + q]? := by rw [List.getElem?_take, if_pos hlt2]
      rw [e1, hpre, flat_get hr j q hq hj]
      exact hu
theorem vclone_any (css : List (List Value)) (b off c : Nat) (w : World) (hr : RowsOf w b off 6 css) (hn : css.length ≤ 1099511627776) :
    Calls Tryz.prog 40 #[.slice (some ⟨b, off, none⟩) css.length c] w fun e w' => ∃ g cap cur, e = .returned (.slice (some ⟨g, 0, none⟩) css.length cap) ∧ NewRows w w' g cap 25 6 css cur ∧ Below w.heap.size w w' := by
  obtain ⟨i0, hi0, hz0, hz1, hz2⟩ := info_parts info25
  have hmax : css.length ≤ maxLen := Nat.le_trans hn (by decide)
  have hcon := AnyE.slices_Clone Tryz.clone40 i0 _ 6 88 hi0 hz0 hz1 hz2 rfl (by omega) Tryz.sizeOf25 b off css.length c css.flatten w (flat_len hr.len) hmax (by omega) (fun j u hu => hr.flat (by omega) j u hu) hr.flat1
  change Calls Tryz.prog 40 _ _ _ at hcon
  refine hcon.mono ?_
  rintro e w' ⟨v', rfl, ho, hne, hb⟩
  obtain ⟨g, cap, cur, rfl, hN⟩ := newRows_mk (by omega) hr.len hr.one ho hne
  exact ⟨g, cap, cur, rfl, hN, hb⟩
theorem mclone_any (css : List (List Value)) (b off c : Nat) (w : World) (hr : RowsOf w b off 7 css) (hn : css.length ≤ 1099511627776) :
    Calls Tryz.prog 41 #[.slice (some ⟨b, off, none⟩) css.length c] w fun e w' => ∃ g cap cur, e = .returned (.slice (some ⟨g, 0, none⟩) css.length cap) ∧ NewRows w w' g cap 42 7 css cur ∧ Below w.heap.size w w' := by
  obtain ⟨i0, hi0, hz0, hz1, hz2⟩ := info_parts info44
  have hmax : css.length ≤ maxLen := Nat.le_trans hn (by decide)
  have hcon := AnyE.slices_Clone Tryz.clone41 i0 _ 7 104 hi0 hz0 hz1 hz2 rfl (by omega) Tryz.sizeOf42 b off css.length c css.flatten w (flat_len hr.len) hmax (by omega) (fun j u hu => hr.flat (by omega) j u hu) hr.flat1
  change Calls Tryz.prog 41 _ _ _ at hcon
  refine hcon.mono ?_
  rintro e w' ⟨v', rfl, ho, hne, hb⟩
  obtain ⟨g, cap, cur, rfl, hN⟩ := newRows_mk (by omega) hr.len hr.one ho hne
  exact ⟨g, cap, cur, rfl, hN, hb⟩
end Go.Proofs.YtejcfkkkbnnmcaaGreatDoor

/- pointer.replaced. -/
set_option linter.unusedSimpArgs false
set_option linter.unusedVariables false
namespace Go.Proofs.YtejcfkkkbnnmcaaGreatDoor
open Go.RowKit Go.Lib

/-- a value with another as the j-th of what it holds -/
def replV : V → Nat → V → V
  | .mk k b i s l m, j, y => if k = 4 then .mk k b i s (l.set j y) m else .mk k b i s l (m.set j ((m.getD j (⟨#[]⟩, nullV)).1, y))
/-- what lay there before, or is new -/
def OrNew (S : Nat → Prop) (w w' : World) (x : Nat) : Prop := S x ∨ New w w' x
def RpPost (x : V) (S : Nat → Prop) (w : World) (e : Ending) (w' : World) : Prop := ∃ cs : List Value, e = .returned (.agg cs.toArray) ∧ x.lies false w' (OrNew S w w') cs ∧ Below w.heap.size w w'
theorem liesL_setG {w Wf : World} {S : Nat → Prop} {g j : Nat} {css : List (List Value)} {l : List V} {y : V} {ds : List Value} (hcl : css.length = l.length) (hlies : ∀ (q : Nat) (h : q < l.length) (h' : q < css.length), (l[q]).lies false w S css[q]) (hy : y.lies false w S ds)
    (h1 : ∀ (q : Nat) (h : q < css.length), q ≠ j → rowAt Wf g (0 + q * 6) css[q]) (h2 : rowAt Wf g (0 + j * 6) ds) (h3 : ∀ x, S x → Wf.heap[x]? = w.heap[x]?) (h4 : w.heap.size ≤ g) (h5 : g < Wf.heap.size) : liesL false Wf (OrNew S w Wf) (l.set j y) g 0 := by
  refine liesL_mk fun q hq => ⟨.inr ⟨h4, h5⟩, ?_⟩
  have hq' : q < l.length := by simpa using hq
  by_cases e : q = j
  · subst e
    exact ⟨ds, h2, by rw [List.getElem_set_self]; exact V.lies_keep (fun h => h) h3 (fun x hx => .inl hx) _ hy⟩
  · exact ⟨css[q], h1 q (by omega) e, by rw [List.getElem_set_ne (fun h => e h.symm)]; exact V.lies_keep (fun h => h) h3 (fun x hx => .inl hx) _ (hlies q hq' (by omega))⟩
theorem liesM_setG {w Wf : World} {S : Nat → Prop} {g j : Nat} {css : List (List Value)} {l : List Mem} {y : V} {ds : List Value} (hcl : css.length = l.length) (hlies : ∀ (q : Nat) (h : q < l.length) (h' : q < css.length), ∃ cs, css[q] = .string (l[q]).1 :: cs ∧ (l[q]).1.size ≤ maxLen ∧ (l[q]).2.lies false w S cs) (hy : y.lies false w S ds) (hj : j < l.length)
    (h1 : ∀ (q : Nat) (h : q < css.length), q ≠ j → rowAt Wf g (0 + q * 7) css[q]) (h2 : rowAt Wf g (0 + j * 7) (.string (l[j]).1 :: ds)) (h3 : ∀ x, S x → Wf.heap[x]? = w.heap[x]?) (h4 : w.heap.size ≤ g) (h5 : g < Wf.heap.size) : liesM false Wf (OrNew S w Wf) (l.set j ((l.getD j (⟨#[]⟩, nullV)).1, y)) g 0 := by
  have hk : (l.getD j (⟨#[]⟩, nullV)).1 = (l[j]).1 := by rw [List.getD_eq_getElem?_getD, List.getElem?_eq_getElem hj]; rfl
  rw [hk]
  refine liesM_mk fun q hq => ⟨.inr ⟨h4, h5⟩, ?_⟩
  have hq' : q < l.length := by simpa using hq
  obtain ⟨cs, e1, e2, e3⟩ := hlies q hq' (by omega)
  by_cases e : q = j
  · subst e
    rw [List.getElem_set_self]
    exact ⟨e2, ds, h2, V.lies_keep (fun h => h) h3 (fun x hx => .inl hx) _ hy⟩
  · rw [List.getElem_set_ne (fun h => e h.symm)]
    refine ⟨e2, cs, ?_, V.lies_keep (fun h => h) h3 (fun x hx => .inl hx) _ e3⟩
    rw [← e1]
    exact h1 q (by omega) e
theorem set6_far {w : World} {g o : Nat} {arr : Array Value} {ty : TypeId} (h : w.heap[g]? = some (.cells arr ty (0, 0))) (c0 c1 c2 c3 c4 c5 : Value) (p : Nat) (hp : p < o ∨ o + 6 ≤ p) :
    ((((((w.setCell ⟨g, o, none⟩ c0).setCell ⟨g, o + 1, none⟩ c1).setCell ⟨g, o + 2, none⟩ c2).setCell ⟨g, o + 3, none⟩ c3).setCell ⟨g, o + 4, none⟩ c4).setCell ⟨g, o + 5, none⟩ c5).cell? ⟨g, p, none⟩ = arr[p]? := by
  rw [cell_of_block (set_block (set_block (set_block (set_block (set_block (set_block h o c0) (o + 1) c1) (o + 2) c2) (o + 3) c3) (o + 4) c4) (o + 5) c5)]
  simp only [Array.getElem?_setIfInBounds]
  repeat (rw [if_neg (by omega)])
/-- six stores into a new row, among stores into the call's own boxes -/
theorem stores_end {w w0 w1 : World} {S : Nat → Prop} {g cap ty c o : Nat} {css : List (List Value)} {cur : Array Value} (hN : NewRows w0 w1 g cap ty c css cur) (hg : w.heap.size + 3 ≤ g) (B1 : Below w.heap.size w w1) (hS : ∀ b, S b → b < w.heap.size) (ho : o + 6 ≤ cur.size) (i0 : Nat) (u c0 c1 c2 c3 c4 c5 z0 z1 z2 z3 z4 z5 : Value) :
    ∃ Wf, Wf = (((((((((((((w1.setCell ⟨w.heap.size, i0, none⟩ u).setCell ⟨g, o, none⟩ c0).setCell ⟨g, o + 1, none⟩ c1).setCell ⟨g, o + 2, none⟩ c2).setCell ⟨g, o + 3, none⟩ c3).setCell ⟨g, o + 4, none⟩ c4).setCell ⟨g, o + 5, none⟩ c5).setCell ⟨w.heap.size + 1 + 1, 0, none⟩ z0).setCell ⟨w.heap.size + 1 + 1, 1, none⟩ z1).setCell ⟨w.heap.size + 1 + 1, 2, none⟩ z2).setCell ⟨w.heap.size + 1 + 1, 3, none⟩ z3).setCell ⟨w.heap.size + 1 + 1, 4, none⟩ z4).setCell ⟨w.heap.size + 1 + 1, 5, none⟩ z5) ∧
      (∃ arr', Wf.heap[g]? = some (.cells arr' ty (0, 0)) ∧ (∀ p, p < o ∨ o + 6 ≤ p → arr'[p]? = cur[p]?)) ∧ rowAt Wf g o [c0, c1, c2, c3, c4, c5] ∧ (∀ x, S x → Wf.heap[x]? = w.heap[x]?) ∧ g < Wf.heap.size ∧ Below w.heap.size w Wf := by
  have hs0 : (w1.setCell ⟨w.heap.size, i0, none⟩ u).heap[g]? = some (.cells cur ty (0, 0)) := by rw [set_other (show g ≠ w.heap.size by omega)]; exact hN.blk
  obtain ⟨arr', e1, e2, _, e4, e5, e6⟩ := set6_row hs0 ho c0 c1 c2 c3 c4 c5
  have e3 := set6_far (o := o) hs0 c0 c1 c2 c3 c4 c5
  have bB := Below.set6 (Below.set6 (B1.setCell (Nat.le_refl _) (p := ⟨w.heap.size, i0, none⟩) u) (show w.heap.size ≤ g by omega) o (o + 1) (o + 2) (o + 3) (o + 4) (o + 5) c0 c1 c2 c3 c4 c5) (show w.heap.size ≤ w.heap.size + 1 + 1 by omega) 0 1 2 3 4 5 z0 z1 z2 z3 z4 z5
  refine ⟨_, rfl, ?_⟩
  have hz : (w1.setCell ⟨w.heap.size, i0, none⟩ u).heap.size = w1.heap.size := size_set1 _ _ _ _
  generalize (w1.setCell ⟨w.heap.size, i0, none⟩ u) = ws at *
  generalize ((((((ws.setCell ⟨g, o, none⟩ c0).setCell ⟨g, o + 1, none⟩ c1).setCell ⟨g, o + 2, none⟩ c2).setCell ⟨g, o + 3, none⟩ c3).setCell ⟨g, o + 4, none⟩ c4).setCell ⟨g, o + 5, none⟩ c5) = W7 at *
  have hgb : ((((((W7.setCell ⟨w.heap.size + 1 + 1, 0, none⟩ z0).setCell ⟨w.heap.size + 1 + 1, 1, none⟩ z1).setCell ⟨w.heap.size + 1 + 1, 2, none⟩ z2).setCell ⟨w.heap.size + 1 + 1, 3, none⟩ z3).setCell ⟨w.heap.size + 1 + 1, 4, none⟩ z4).setCell ⟨w.heap.size + 1 + 1, 5, none⟩ z5).heap[g]? = W7.heap[g]? := by
    repeat (rw [set_other (show g ≠ w.heap.size + 1 + 1 by omega)])
  have hzf : ((((((W7.setCell ⟨w.heap.size + 1 + 1, 0, none⟩ z0).setCell ⟨w.heap.size + 1 + 1, 1, none⟩ z1).setCell ⟨w.heap.size + 1 + 1, 2, none⟩ z2).setCell ⟨w.heap.size + 1 + 1, 3, none⟩ z3).setCell ⟨w.heap.size + 1 + 1, 4, none⟩ z4).setCell ⟨w.heap.size + 1 + 1, 5, none⟩ z5).heap.size = W7.heap.size := by simp only [size_set1]
  generalize ((((((W7.setCell ⟨w.heap.size + 1 + 1, 0, none⟩ z0).setCell ⟨w.heap.size + 1 + 1, 1, none⟩ z1).setCell ⟨w.heap.size + 1 + 1, 2, none⟩ z2).setCell ⟨w.heap.size + 1 + 1, 3, none⟩ z3).setCell ⟨w.heap.size + 1 + 1, 4, none⟩ z4).setCell ⟨w.heap.size + 1 + 1, 5, none⟩ z5) = Wf at *
  refine ⟨⟨arr', hgb.trans e1, fun p hp => by rw [← e3 p hp, cell_of_block e1]⟩, e4.keep hgb, fun x hx => bB.block x (hS x hx), ?_, bB⟩
  have := hN.hi
  omega
theorem row_kept {w0 w1 Wf : World} {g cap ty c : Nat} {css : List (List Value)} {cur arr' : Array Value} (hN : NewRows w0 w1 g cap ty c css cur) (h : Wf.heap[g]? = some (.cells arr' ty (0, 0))) (q : Nat) (hq : q < css.length) (e : ∀ r, r < c → arr'[0 + q * c + r]? = cur[0 + q * c + r]?) : rowAt Wf g (0 + q * c) css[q] := fun r u hu => by
  have hr : r < c := by
    rcases Nat.lt_or_ge r c with h | h
    · exact h
    · rw [List.getElem?_eq_none (by rw [hN.rows.len _ (List.getElem_mem hq)]; exact h)] at hu; cases hu
  have := hN.rows.row q hq r u hu
  rw [cell_of_block hN.blk] at this
  rw [cell_of_block h, e r hr]
  exact this
set_option maxHeartbeats 1600000 in
set_option maxRecDepth 100000 in
theorem replaced_any (v y : V) (j : Nat) (S : Nat → Prop) (cs ds : List Value) (w : World) (hv : v.lies false w S cs) (hy : y.lies false w S ds) (hS : ∀ b, S b → b < w.heap.size) (hwt : v.wt ≤ 1099511627776) (hj : kidAt v j) :
    Calls Tryz.prog 27 #[.agg cs.toArray, .int .i64 (j : Int), .agg ds.toArray] w (RpPost (replV v j y) S w) := by
  obtain ⟨k, b, i, s, l, m⟩ := v
  rw [V.lies] at hv
  obtain ⟨al, cl, bl, ol, am, cm, bm, om, rfl, ik, ii, is, hal, ham, hl, hm, _⟩ := hv
  obtain ⟨ek, eb, ei, es, eal, enl, ecl, eam, enm, ecm, rfl⟩ := V.ten hy
  have hml : m.length ≤ 1099511627776 := by have := wtM_len m; simp only [V.wt] at hwt; omega
  have hll : l.length ≤ 1099511627776 := by have := wtL_len l; simp only [V.wt] at hwt; omega
  have HY := hmk hy
  clear hy hwt
  rcases hj with ⟨hk, hj⟩ | ⟨hk, hj⟩
  · obtain rfl : k = 4 := hk
    have hj' : j < l.length := hj
    obtain rfl : al = some ⟨bl, ol, none⟩ := hal.at_.resolve_left (by omega)
    obtain ⟨css, hcl, hrows, hlies⟩ := rowsL_of hl
    have y1 : (j : Int) < l.length := by omega
    have HC : Hid (∀ W, (∀ x, S x → W.heap[x]? = w.heap[x]?) → Calls Tryz.prog 40 #[.slice (some ⟨bl, ol, none⟩) l.length cl] W fun e w' => ∃ g cap cur, e = .returned (.slice (some ⟨g, 0, none⟩) l.length cap) ∧ NewRows W w' g cap 25 6 css cur ∧ Below W.heap.size W w') := fun W hW => by
      rw [← hcl]
      refine vclone_any css bl ol cl W ⟨hrows.len, hrows.one, fun q hq => ?_⟩ (by omega)
      have hSb := (liesL_get hl 0 (by omega)).1
      exact (hrows.row q hq).keep (hW _ hSb)
    clear hl hrows
    have HB : Hid (Below w.heap.size w (((w.alloc (.cells #[.int .i64 4, .bool b, .int .i64 i, .string s, .slice (some ⟨bl, ol, none⟩) l.length cl, .slice am m.length cm] 25)).alloc (.cells #[.int .i64 ek, .bool eb, .int .i64 ei, .string es, .slice eal enl ecl, .slice eam enm ecm] 25)).alloc (.cells #[.int .i64 0, .bool false, .int .i64 0, .string ⟨#[]⟩, .slice none 0 0, .slice none 0 0] 25))) := (two_below w _ _).alloc (by rw [alloc_size, alloc_size]; omega) _
    have hz3 : (((w.alloc (.cells #[.int .i64 4, .bool b, .int .i64 i, .string s, .slice (some ⟨bl, ol, none⟩) l.length cl, .slice am m.length cm] 25)).alloc (.cells #[.int .i64 ek, .bool eb, .int .i64 ei, .string es, .slice eal enl ecl, .slice eam enm ecm] 25)).alloc (.cells #[.int .i64 0, .bool false, .int .i64 0, .string ⟨#[]⟩, .slice none 0 0, .slice none 0 0] 25)).heap.size = w.heap.size + 3 := by rw [alloc_size, alloc_size, alloc_size]
    obtain ⟨p0, p1, p2⟩ := three_allocs w (.cells #[.int .i64 4, .bool b, .int .i64 i, .string s, .slice (some ⟨bl, ol, none⟩) l.length cl, .slice am m.length cm] 25) (.cells #[.int .i64 ek, .bool eb, .int .i64 ei, .string es, .slice eal enl ecl, .slice eam enm ecm] 25) (.cells #[.int .i64 0, .bool false, .int .i64 0, .string ⟨#[]⟩, .slice none 0 0, .slice none 0 0] 25)
    have hcl := HC.out (((w.alloc (.cells #[.int .i64 4, .bool b, .int .i64 i, .string s, .slice (some ⟨bl, ol, none⟩) l.length cl, .slice am m.length cm] 25)).alloc (.cells #[.int .i64 ek, .bool eb, .int .i64 ei, .string es, .slice eal enl ecl, .slice eam enm ecm] 25)).alloc (.cells #[.int .i64 0, .bool false, .int .i64 0, .string ⟨#[]⟩, .slice none 0 0, .slice none 0 0] 25)) (fun x hx => HB.out.block x (hS x hx))
    go_enter Tryz.func27, Tryz.ntmps27
    go_wp2_with fail
    generalize (((w.alloc (.cells #[.int .i64 4, .bool b, .int .i64 i, .string s, .slice (some ⟨bl, ol, none⟩) l.length cl, .slice am m.length cm] 25)).alloc (.cells #[.int .i64 ek, .bool eb, .int .i64 ei, .string es, .slice eal enl ecl, .slice eam enm ecm] 25)).alloc (.cells #[.int .i64 0, .bool false, .int .i64 0, .string ⟨#[]⟩, .slice none 0 0, .slice none 0 0] 25)) = w0 at *
    refine hcl.mono ?_
    rintro e w1 ⟨g, cap, cur, rfl, hN, b1⟩
    have hg3 : w.heap.size + 3 ≤ g := by have := hN.lo; omega
    have B1 := HB.out.trans (b1.mono (by omega))
    have t0 := (b1.block w.heap.size (by omega)).trans p0
    have t1 := (b1.block (w.heap.size + 1) (by omega)).trans p1
    have t2 := (b1.block (w.heap.size + 2) (by omega)).trans p2
    have t2' : w1.heap[w.heap.size + 1 + 1]? = _ := t2
    clear p0 p1 p2 HC hcl HB
    have a0 : w1.cell? ⟨w.heap.size, 0, none⟩ = some (.int .i64 4) := by rw [cell_of_block t0]; rfl
    have a1 : w1.cell? ⟨w.heap.size, 1, none⟩ = some (.bool b) := by rw [cell_of_block t0]; rfl
    have a2 : w1.cell? ⟨w.heap.size, 2, none⟩ = some (.int .i64 i) := by rw [cell_of_block t0]; rfl
    have a3 : w1.cell? ⟨w.heap.size, 3, none⟩ = some (.string s) := by rw [cell_of_block t0]; rfl
    have a4 : w1.cell? ⟨w.heap.size, 4, none⟩ = some (.slice (some ⟨bl, ol, none⟩) l.length cl) := by rw [cell_of_block t0]; rfl
    have a5 : w1.cell? ⟨w.heap.size, 5, none⟩ = some (.slice am m.length cm) := by rw [cell_of_block t0]; rfl
    have c0 : w1.cell? ⟨w.heap.size + 1, 0, none⟩ = some (.int .i64 ek) := by rw [cell_of_block t1]; rfl
    have c1 : w1.cell? ⟨w.heap.size + 1, 1, none⟩ = some (.bool eb) := by rw [cell_of_block t1]; rfl
    have c2 : w1.cell? ⟨w.heap.size + 1, 2, none⟩ = some (.int .i64 ei) := by rw [cell_of_block t1]; rfl
    have c3 : w1.cell? ⟨w.heap.size + 1, 3, none⟩ = some (.string es) := by rw [cell_of_block t1]; rfl
    have c4 : w1.cell? ⟨w.heap.size + 1, 4, none⟩ = some (.slice eal enl ecl) := by rw [cell_of_block t1]; rfl
    have c5 : w1.cell? ⟨w.heap.size + 1, 5, none⟩ = some (.slice eam enm ecm) := by rw [cell_of_block t1]; rfl
    have d0 : w1.cell? ⟨w.heap.size + 1 + 1, 0, none⟩ = some (.int .i64 0) := by rw [cell_of_block t2']; rfl
    have d1 : w1.cell? ⟨w.heap.size + 1 + 1, 1, none⟩ = some (.bool false) := by rw [cell_of_block t2']; rfl
    have d2 : w1.cell? ⟨w.heap.size + 1 + 1, 2, none⟩ = some (.int .i64 0) := by rw [cell_of_block t2']; rfl
    have d3 : w1.cell? ⟨w.heap.size + 1 + 1, 3, none⟩ = some (.string ⟨#[]⟩) := by rw [cell_of_block t2']; rfl
    have d4 : w1.cell? ⟨w.heap.size + 1 + 1, 4, none⟩ = some (.slice none 0 0) := by rw [cell_of_block t2']; rfl
    have d5 : w1.cell? ⟨w.heap.size + 1 + 1, 5, none⟩ = some (.slice none 0 0) := by rw [cell_of_block t2']; rfl
    have f0 := frozen_of_block t0
    have f2 := frozen_of_block t2'
    have fg := frozen_of_block hN.blk
    have HNR := hmk hN
    have hsz := hN.size
    have hn0 : ¬ g = w.heap.size := by omega
    have hn1 : ¬ g = w.heap.size + 1 := by omega
    have hn2 : ¬ g = w.heap.size + 1 + 1 := by omega
    have hcz : j * 6 + 6 ≤ cur.size := by omega
    obtain ⟨v0, k0⟩ : ∃ v, w1.cell? ⟨g, j * 6, none⟩ = some v := ⟨_, by rw [cell_of_block hN.blk]; exact Array.getElem?_eq_getElem (by omega)⟩
    obtain ⟨v1, k1⟩ : ∃ v, w1.cell? ⟨g, j * 6 + 1, none⟩ = some v := ⟨_, by rw [cell_of_block hN.blk]; exact Array.getElem?_eq_getElem (by omega)⟩
    obtain ⟨v2, k2⟩ : ∃ v, w1.cell? ⟨g, j * 6 + 2, none⟩ = some v := ⟨_, by rw [cell_of_block hN.blk]; exact Array.getElem?_eq_getElem (by omega)⟩
    obtain ⟨v3, k3⟩ : ∃ v, w1.cell? ⟨g, j * 6 + 3, none⟩ = some v := ⟨_, by rw [cell_of_block hN.blk]; exact Array.getElem?_eq_getElem (by omega)⟩
    obtain ⟨v4, k4⟩ : ∃ v, w1.cell? ⟨g, j * 6 + 4, none⟩ = some v := ⟨_, by rw [cell_of_block hN.blk]; exact Array.getElem?_eq_getElem (by omega)⟩
    obtain ⟨v5, k5⟩ : ∃ v, w1.cell? ⟨g, j * 6 + 5, none⟩ = some v := ⟨_, by rw [cell_of_block hN.blk]; exact Array.getElem?_eq_getElem (by omega)⟩
    obtain ⟨Wf, hWf, HE⟩ := stores_end (o := j * 6) hN hg3 B1 hS hcz 4 (.slice (some ⟨g, 0, none⟩) l.length cap) (.int .i64 ek) (.bool eb) (.int .i64 ei) (.string es) (.slice eal enl ecl) (.slice eam enm ecm) (.int .i64 4) (.bool b) (.int .i64 i) (.string s) (.slice (some ⟨g, 0, none⟩) l.length cap) (.slice am m.length cm)
    have HE' := hmk HE
    have HM := hmk hm
    clear hN HE hm
    go_wp2_with fail
    (try simp only [Exit.inBlock, Exit.then])
    refine bodyPost_ret (v := .agg #[.int .i64 4, .bool b, .int .i64 i, .string s, .slice (some ⟨g, 0, none⟩) l.length cap, .slice am m.length cm]) ?_ rfl ?_
    rotate_left
    · rw [← hWf]
      obtain ⟨⟨arr', q1, q2⟩, q3, q4, q5, q6⟩ := HE'.out
      refine ⟨[.int .i64 4, .bool b, .int .i64 i, .string s, .slice (some ⟨g, 0, none⟩) l.length cap, .slice am m.length cm], rfl, ?_, q6⟩
      show (V.mk 4 b i s (l.set j y) m).lies false Wf _ _
      refine lies_S ik ii is ⟨by have := HNR.out.le; omega, HNR.out.max, .inr rfl, (fun h => by cases h)⟩ ham (liesL_setG hcl hlies HY.out (fun q hq hne => row_kept HNR.out q1 q hq (fun r hr => q2 _ ?_)) (by rw [Nat.zero_add]; exact q3) q4 (by omega) q5) (liesM_keep (fun h => h) q4 (fun x hx => .inl hx) _ HM.out) (by simp) rfl
      rcases Nat.lt_or_gt_of_ne hne with h | h
      · left; have : (q + 1) * 6 ≤ j * 6 := Nat.mul_le_mul_right 6 h; omega
      · right; have : (j + 1) * 6 ≤ q * 6 := Nat.mul_le_mul_right 6 h; omega
    · rw [results_cell1 rfl]
      go_simp
  · obtain rfl : k = 5 := hk
    have hj' : j < m.length := hj
    obtain rfl : am = some ⟨bm, om, none⟩ := ham.at_.resolve_left (by omega)
    obtain ⟨css, hcl, hrows, hlies⟩ := rowsM_of hm
    have y1 : (j : Int) < m.length := by omega
    have HC : Hid (∀ W, (∀ x, S x → W.heap[x]? = w.heap[x]?) → Calls Tryz.prog 41 #[.slice (some ⟨bm, om, none⟩) m.length cm] W fun e w' => ∃ g cap cur, e = .returned (.slice (some ⟨g, 0, none⟩) m.length cap) ∧ NewRows W w' g cap 42 7 css cur ∧ Below W.heap.size W w') := fun W hW => by
      rw [← hcl]
      refine mclone_any css bm om cm W ⟨hrows.len, hrows.one, fun q hq => ?_⟩ (by omega)
      have hSb := (liesM_get hm 0 (by omega)).1
      exact (hrows.row q hq).keep (hW _ hSb)
    clear hm hrows
    have HB : Hid (Below w.heap.size w (((w.alloc (.cells #[.int .i64 5, .bool b, .int .i64 i, .string s, .slice al l.length cl, .slice (some ⟨bm, om, none⟩) m.length cm] 25)).alloc (.cells #[.int .i64 ek, .bool eb, .int .i64 ei, .string es, .slice eal enl ecl, .slice eam enm ecm] 25)).alloc (.cells #[.int .i64 0, .bool false, .int .i64 0, .string ⟨#[]⟩, .slice none 0 0, .slice none 0 0] 25))) := (two_below w _ _).alloc (by rw [alloc_size, alloc_size]; omega) _
    have hz3 : (((w.alloc (.cells #[.int .i64 5, .bool b, .int .i64 i, .string s, .slice al l.length cl, .slice (some ⟨bm, om, none⟩) m.length cm] 25)).alloc (.cells #[.int .i64 ek, .bool eb, .int .i64 ei, .string es, .slice eal enl ecl, .slice eam enm ecm] 25)).alloc (.cells #[.int .i64 0, .bool false, .int .i64 0, .string ⟨#[]⟩, .slice none 0 0, .slice none 0 0] 25)).heap.size = w.heap.size + 3 := by rw [alloc_size, alloc_size, alloc_size]
    obtain ⟨p0, p1, p2⟩ := three_allocs w (.cells #[.int .i64 5, .bool b, .int .i64 i, .string s, .slice al l.length cl, .slice (some ⟨bm, om, none⟩) m.length cm] 25) (.cells #[.int .i64 ek, .bool eb, .int .i64 ei, .string es, .slice eal enl ecl, .slice eam enm ecm] 25) (.cells #[.int .i64 0, .bool false, .int .i64 0, .string ⟨#[]⟩, .slice none 0 0, .slice none 0 0] 25)
    have hcl := HC.out (((w.alloc (.cells #[.int .i64 5, .bool b, .int .i64 i, .string s, .slice al l.length cl, .slice (some ⟨bm, om, none⟩) m.length cm] 25)).alloc (.cells #[.int .i64 ek, .bool eb, .int .i64 ei, .string es, .slice eal enl ecl, .slice eam enm ecm] 25)).alloc (.cells #[.int .i64 0, .bool false, .int .i64 0, .string ⟨#[]⟩, .slice none 0 0, .slice none 0 0] 25)) (fun x hx => HB.out.block x (hS x hx))
    go_enter Tryz.func27, Tryz.ntmps27
    go_wp2_with fail
    generalize (((w.alloc (.cells #[.int .i64 5, .bool b, .int .i64 i, .string s, .slice al l.length cl, .slice (some ⟨bm, om, none⟩) m.length cm] 25)).alloc (.cells #[.int .i64 ek, .bool eb, .int .i64 ei, .string es, .slice eal enl ecl, .slice eam enm ecm] 25)).alloc (.cells #[.int .i64 0, .bool false, .int .i64 0, .string ⟨#[]⟩, .slice none 0 0, .slice none 0 0] 25)) = w0 at *
    refine hcl.mono ?_
    rintro e w1 ⟨g, cap, cur, rfl, hN, b1⟩
    have hg3 : w.heap.size + 3 ≤ g := by have := hN.lo; omega
    have B1 := HB.out.trans (b1.mono (by omega))
    have t0 := (b1.block w.heap.size (by omega)).trans p0
    have t1 := (b1.block (w.heap.size + 1) (by omega)).trans p1
    have t2 := (b1.block (w.heap.size + 2) (by omega)).trans p2
    have t2' : w1.heap[w.heap.size + 1 + 1]? = _ := t2
    clear p0 p1 p2 HC hcl HB
    have a0 : w1.cell? ⟨w.heap.size, 0, none⟩ = some (.int .i64 5) := by rw [cell_of_block t0]; rfl
    have a1 : w1.cell? ⟨w.heap.size, 1, none⟩ = some (.bool b) := by rw [cell_of_block t0]; rfl
    have a2 : w1.cell? ⟨w.heap.size, 2, none⟩ = some (.int .i64 i) := by rw [cell_of_block t0]; rfl
    have a3 : w1.cell? ⟨w.heap.size, 3, none⟩ = some (.string s) := by rw [cell_of_block t0]; rfl
    have a4 : w1.cell? ⟨w.heap.size, 4, none⟩ = some (.slice al l.length cl) := by rw [cell_of_block t0]; rfl
    have a5 : w1.cell? ⟨w.heap.size, 5, none⟩ = some (.slice (some ⟨bm, om, none⟩) m.length cm) := by rw [cell_of_block t0]; rfl
    have c0 : w1.cell? ⟨w.heap.size + 1, 0, none⟩ = some (.int .i64 ek) := by rw [cell_of_block t1]; rfl
    have c1 : w1.cell? ⟨w.heap.size + 1, 1, none⟩ = some (.bool eb) := by rw [cell_of_block t1]; rfl
    have c2 : w1.cell? ⟨w.heap.size + 1, 2, none⟩ = some (.int .i64 ei) := by rw [cell_of_block t1]; rfl
    have c3 : w1.cell? ⟨w.heap.size + 1, 3, none⟩ = some (.string es) := by rw [cell_of_block t1]; rfl
    have c4 : w1.cell? ⟨w.heap.size + 1, 4, none⟩ = some (.slice eal enl ecl) := by rw [cell_of_block t1]; rfl
    have c5 : w1.cell? ⟨w.heap.size + 1, 5, none⟩ = some (.slice eam enm ecm) := by rw [cell_of_block t1]; rfl
    have d0 : w1.cell? ⟨w.heap.size + 1 + 1, 0, none⟩ = some (.int .i64 0) := by rw [cell_of_block t2']; rfl
    have d1 : w1.cell? ⟨w.heap.size + 1 + 1, 1, none⟩ = some (.bool false) := by rw [cell_of_block t2']; rfl
    have d2 : w1.cell? ⟨w.heap.size + 1 + 1, 2, none⟩ = some (.int .i64 0) := by rw [cell_of_block t2']; rfl
    have d3 : w1.cell? ⟨w.heap.size + 1 + 1, 3, none⟩ = some (.string ⟨#[]⟩) := by rw [cell_of_block t2']; rfl
    have d4 : w1.cell? ⟨w.heap.size + 1 + 1, 4, none⟩ = some (.slice none 0 0) := by rw [cell_of_block t2']; rfl
    have d5 : w1.cell? ⟨w.heap.size + 1 + 1, 5, none⟩ = some (.slice none 0 0) := by rw [cell_of_block t2']; rfl
    have f0 := frozen_of_block t0
    have f2 := frozen_of_block t2'
    have fg := frozen_of_block hN.blk
    have HNR := hmk hN
    have hsz := hN.size
    have hn0 : ¬ g = w.heap.size := by omega
    have hn1 : ¬ g = w.heap.size + 1 := by omega
    have hn2 : ¬ g = w.heap.size + 1 + 1 := by omega
    have hcz : j * 7 + 7 ≤ cur.size := by omega
    obtain ⟨v0, k0⟩ : ∃ v, w1.cell? ⟨g, j * 7 + 1, none⟩ = some v := ⟨_, by rw [cell_of_block hN.blk]; exact Array.getElem?_eq_getElem (by omega)⟩
    obtain ⟨v1, k1⟩ : ∃ v, w1.cell? ⟨g, j * 7 + 2, none⟩ = some v := ⟨_, by rw [cell_of_block hN.blk]; exact Array.getElem?_eq_getElem (by omega)⟩
    obtain ⟨v2, k2⟩ : ∃ v, w1.cell? ⟨g, j * 7 + 3, none⟩ = some v := ⟨_, by rw [cell_of_block hN.blk]; exact Array.getElem?_eq_getElem (by omega)⟩
    obtain ⟨v3, k3⟩ : ∃ v, w1.cell? ⟨g, j * 7 + 4, none⟩ = some v := ⟨_, by rw [cell_of_block hN.blk]; exact Array.getElem?_eq_getElem (by omega)⟩
    obtain ⟨v4, k4⟩ : ∃ v, w1.cell? ⟨g, j * 7 + 5, none⟩ = some v := ⟨_, by rw [cell_of_block hN.blk]; exact Array.getElem?_eq_getElem (by omega)⟩
    obtain ⟨v5, k5⟩ : ∃ v, w1.cell? ⟨g, j * 7 + 6, none⟩ = some v := ⟨_, by rw [cell_of_block hN.blk]; exact Array.getElem?_eq_getElem (by omega)⟩
    obtain ⟨Wf, hWf, HE⟩ := stores_end (o := j * 7 + 1) hN hg3 B1 hS (by omega) 5 (.slice (some ⟨g, 0, none⟩) m.length cap) (.int .i64 ek) (.bool eb) (.int .i64 ei) (.string es) (.slice eal enl ecl) (.slice eam enm ecm) (.int .i64 5) (.bool b) (.int .i64 i) (.string s) (.slice al l.length cl) (.slice (some ⟨g, 0, none⟩) m.length cap)
    have HE' := hmk HE
    have HL := hmk hl
    clear hN HE hl
    go_wp2_with fail
    (try simp only [Exit.inBlock, Exit.then])
    refine bodyPost_ret (v := .agg #[.int .i64 5, .bool b, .int .i64 i, .string s, .slice al l.length cl, .slice (some ⟨g, 0, none⟩) m.length cap]) ?_ rfl ?_
    rotate_left
    · rw [← hWf]
      obtain ⟨⟨arr', q1, q2⟩, q3, q4, q5, q6⟩ := HE'.out
      refine ⟨[.int .i64 5, .bool b, .int .i64 i, .string s, .slice al l.length cl, .slice (some ⟨g, 0, none⟩) m.length cap], rfl, ?_, q6⟩
      show (V.mk 5 b i s l (m.set j ((m.getD j (⟨#[]⟩, nullV)).1, y))).lies false Wf _ _
      refine lies_S ik ii is hal ⟨by have := HNR.out.le; omega, HNR.out.max, .inr rfl, (fun h => by cases h)⟩ (liesL_keep (fun h => h) q4 (fun x hx => .inl hx) _ HL.out) (liesM_setG hcl hlies HY.out hj' (fun q hq hne => row_kept HNR.out q1 q hq (fun r hr => q2 _ ?_)) (fun r u hu => ?_) q4 (by omega) q5) rfl (by simp)
      · rcases Nat.lt_or_gt_of_ne hne with h | h
        · left; have : (q + 1) * 7 ≤ j * 7 := Nat.mul_le_mul_right 7 h; omega
        · right; have : (j + 1) * 7 ≤ q * 7 := Nat.mul_le_mul_right 7 h; omega
      · cases r with
        | zero =>
          obtain ⟨cs', e1, _, _⟩ := hlies j hj' (by omega)
          have := HNR.out.rows.row j (by omega) 0 (.string (m[j]).1) (by rw [e1]; rfl)
          rw [cell_of_block HNR.out.blk] at this
          rw [cell_of_block q1, q2 _ (by omega), this]
          exact hu
        | succ r =>
          have := q3 r u (by simpa using hu)
          rw [show 0 + j * 7 + (r + 1) = j * 7 + 1 + r by omega]
          exact this
    · rw [results_cell1 rfl]
      go_simp
end Go.Proofs.YtejcfkkkbnnmcaaGreatDoor

/- pointer.walk. -/
set_option linter.unusedSimpArgs false
set_option linter.unusedVariables false
namespace Go.Proofs.YtejcfkkkbnnmcaaGreatDoor
open Go.RowKit Go.Lib

/-- what a walk answers: the value, the error's number, and what was found -/
def wkV (F : V → V × Int) : V → List ByteArray → V × Int × Option V
  | v, [] => ((F v).1, (F v).2, some v)
  | v, t :: ts => if (ledF v t).2 = 0 then (if (wkV F (kid v (ledF v t).1) ts).2.1 = 0 then (replV v (ledF v t).1 (wkV F (kid v (ledF v t).1) ts).1, 0, (wkV F (kid v (ledF v t).1) ts).2.2) else (nullV, (wkV F (kid v (ledF v t).1) ts).2.1, (wkV F (kid v (ledF v t).1) ts).2.2)) else (nullV, (ledF v t).2, none)
/-- what was there is still there but for one block -/
def DoC (f : Nat) (cap : Value) (F : V → V × Int) (S : Nat → Prop) (G : Nat) (D : V → World → World → Prop) (w : World) : Prop := ∀ (W : World) (x : V) (cs : List Value), Below w.heap.size w W → x.wt ≤ 1114112 → x.lies false W S cs → Calls Tryz.prog f #[.agg cs.toArray, cap] W (fun e W' => ∃ ds : List Value, e = .returned (.tuple #[.agg ds.toArray, .int .i64 (F x).2]) ∧ (F x).1.lies false W' (OrNew S W W') ds ∧ W.grownBy W' (some G) ∧ D x W W')
theorem DoC.below {f : Nat} {cap : Value} {F : V → V × Int} {S : Nat → Prop} {G : Nat} {D : V → World → World → Prop} {w W : World} (h : DoC f cap F S G D w) (hb : Below w.heap.size w W) : DoC f cap F S G D W := fun W' x cs b' hwx hx => h W' x cs (hb.trans (b'.mono hb.size)) hwx hx
/-- what the call of the function handed in left, and what has stayed of it -/
def Left (x : V) (S : Nat → Prop) (G : Nat) (D : V → World → World → Prop) (w w' : World) : Prop := ∃ W0 W1, Below w.heap.size w W0 ∧ D x W0 W1 ∧ W1.heap.size ≤ w'.heap.size ∧ ∀ b, (S b ∨ b = G ∨ New W0 W1 b) → w'.heap[b]? = W1.heap[b]?
def WkPost (r : V × Int × Option V) (S : Nat → Prop) (G : Nat) (D : V → World → World → Prop) (w : World) (e : Ending) (w' : World) : Prop :=
  ∃ cs : List Value, e = .returned (.tuple #[.agg cs.toArray, .int .i64 r.2.1]) ∧ r.1.lies false w' (OrNew S w w') cs ∧ w.grownBy w' (some G) ∧ (∀ x, r.2.2 = some x → Left x S G D w w') ∧ (r.2.2 = none → Below w.heap.size w w')

theorem allGL_get : ∀ {l : List V}, allGL l → ∀ (j : Nat) (h : j < l.length), allG l[j]
  | [], _, j, h => by simp at h
  | x :: t, ha, 0, h => by rw [allGL] at ha; exact ha.1
  | x :: t, ha, j + 1, h => by rw [allGL] at ha; exact allGL_get ha.2 j (by simpa using h)
theorem allGM_get : ∀ {l : List Mem}, allGM l → ∀ (j : Nat) (h : j < l.length), allG (l[j]).2
  | [], _, j, h => by simp at h
  | (_, x) :: t, ha, 0, h => by rw [allGM] at ha; exact ha.1
  | (_, x) :: t, ha, j + 1, h => by rw [allGM] at ha; exact allGM_get ha.2 j (by simpa using h)
theorem allG_srt {v : V} (h : allG v) : Srt (memsOf v) := by
  obtain ⟨k, b, i, s, l, m⟩ := v
  rw [allG] at h
  have hg := h.1
  simp only [goodB, Bool.and_eq_true] at hg
  exact srt_rise hg.2
theorem allG_kid {v : V} {j : Nat} (h : allG v) (hj : kidAt v j) : allG (kid v j) := by
  obtain ⟨k, b, i, s, l, m⟩ := v
  rw [allG] at h
  rcases hj with ⟨hk, hj⟩ | ⟨hk, hj⟩
  · have hk' : k = 4 := hk
    subst hk'
    have hj' : j < l.length := hj
    show allG (l.getD j nullV)
    rw [List.getD_eq_getElem?_getD, List.getElem?_eq_getElem hj']
    exact allGL_get h.2.1 j hj'
  · have hk' : k = 5 := hk
    subst hk'
    have hj' : j < m.length := hj
    show allG (m.getD j (⟨#[]⟩, nullV)).2
    rw [List.getD_eq_getElem?_getD, List.getElem?_eq_getElem hj']
    exact allGM_get h.2.2 j hj'
theorem kid_wt {v : V} {j : Nat} (hj : kidAt v j) : (kid v j).wt ≤ v.wt := by
  obtain ⟨k, b, i, s, l, m⟩ := v
  rcases hj with ⟨hk, hj⟩ | ⟨hk, hj⟩
  · have hk' : k = 4 := hk
    subst hk'
    have hj' : j < l.length := hj
    show (l.getD j nullV).wt ≤ _
    rw [List.getD_eq_getElem?_getD, List.getElem?_eq_getElem hj', V.wt]
    have := wtL_mem (List.getElem_mem hj')
    simp only [Option.getD_some]; omega
  · have hk' : k = 5 := hk
    subst hk'
    have hj' : j < m.length := hj
    show (m.getD j (⟨#[]⟩, nullV)).2.wt ≤ _
    rw [List.getD_eq_getElem?_getD, List.getElem?_eq_getElem hj', V.wt]
    have := wtM_mem (List.getElem_mem hj')
    simp only [Option.getD_some]; omega
theorem grown_below {w w' : World} {G : Nat} (h : Below w.heap.size w w') : w.grownBy w' (some G) := ⟨h.os, h.tape, h.output, h.size, fun k hk _ => h.block k hk⟩
/-- six stores into a box of the call's own, behind the function's call -/
theorem box_end {w W0 W1 : World} {x y : V} {S : Nat → Prop} {G : Nat} {D : V → World → World → Prop} {ds : List Value} (B0 : Below w.heap.size w W0) (hM : w.heap.size + 1 < W0.heap.size) (hS : ∀ b, S b → b < w.heap.size) (hG : G < w.heap.size) (hy : y.lies false W1 (OrNew S W0 W1) ds) (hg : W0.grownBy W1 (some G)) (hD : D x W0 W1) (i1 i2 i3 i4 i5 i6 : Nat) (u1 u2 u3 u4 u5 u6 : Value) :
    y.lies false ((((((W1.setCell ⟨w.heap.size + 1, i1, none⟩ u1).setCell ⟨w.heap.size + 1, i2, none⟩ u2).setCell ⟨w.heap.size + 1, i3, none⟩ u3).setCell ⟨w.heap.size + 1, i4, none⟩ u4).setCell ⟨w.heap.size + 1, i5, none⟩ u5).setCell ⟨w.heap.size + 1, i6, none⟩ u6) (OrNew S w ((((((W1.setCell ⟨w.heap.size + 1, i1, none⟩ u1).setCell ⟨w.heap.size + 1, i2, none⟩ u2).setCell ⟨w.heap.size + 1, i3, none⟩ u3).setCell ⟨w.heap.size + 1, i4, none⟩ u4).setCell ⟨w.heap.size + 1, i5, none⟩ u5).setCell ⟨w.heap.size + 1, i6, none⟩ u6)) ds ∧
    w.grownBy ((((((W1.setCell ⟨w.heap.size + 1, i1, none⟩ u1).setCell ⟨w.heap.size + 1, i2, none⟩ u2).setCell ⟨w.heap.size + 1, i3, none⟩ u3).setCell ⟨w.heap.size + 1, i4, none⟩ u4).setCell ⟨w.heap.size + 1, i5, none⟩ u5).setCell ⟨w.heap.size + 1, i6, none⟩ u6) (some G) ∧
    Left x S G D w ((((((W1.setCell ⟨w.heap.size + 1, i1, none⟩ u1).setCell ⟨w.heap.size + 1, i2, none⟩ u2).setCell ⟨w.heap.size + 1, i3, none⟩ u3).setCell ⟨w.heap.size + 1, i4, none⟩ u4).setCell ⟨w.heap.size + 1, i5, none⟩ u5).setCell ⟨w.heap.size + 1, i6, none⟩ u6) := by
  have hsz : ((((((W1.setCell ⟨w.heap.size + 1, i1, none⟩ u1).setCell ⟨w.heap.size + 1, i2, none⟩ u2).setCell ⟨w.heap.size + 1, i3, none⟩ u3).setCell ⟨w.heap.size + 1, i4, none⟩ u4).setCell ⟨w.heap.size + 1, i5, none⟩ u5).setCell ⟨w.heap.size + 1, i6, none⟩ u6).heap.size = W1.heap.size := by simp only [size_set1]
  have hot : ∀ x, x ≠ w.heap.size + 1 → ((((((W1.setCell ⟨w.heap.size + 1, i1, none⟩ u1).setCell ⟨w.heap.size + 1, i2, none⟩ u2).setCell ⟨w.heap.size + 1, i3, none⟩ u3).setCell ⟨w.heap.size + 1, i4, none⟩ u4).setCell ⟨w.heap.size + 1, i5, none⟩ u5).setCell ⟨w.heap.size + 1, i6, none⟩ u6).heap[x]? = W1.heap[x]? := fun x hx => by
    repeat (rw [set_other hx])
  have hgs : W1.grownBy ((((((W1.setCell ⟨w.heap.size + 1, i1, none⟩ u1).setCell ⟨w.heap.size + 1, i2, none⟩ u2).setCell ⟨w.heap.size + 1, i3, none⟩ u3).setCell ⟨w.heap.size + 1, i4, none⟩ u4).setCell ⟨w.heap.size + 1, i5, none⟩ u5).setCell ⟨w.heap.size + 1, i6, none⟩ u6) (some (w.heap.size + 1)) := grown_set (grown_set (grown_set (grown_set (grown_set (grown_set (World.grownBy.refl W1 _) i1 u1) i2 u2) i3 u3) i4 u4) i5 u5) i6 u6
  generalize ((((((W1.setCell ⟨w.heap.size + 1, i1, none⟩ u1).setCell ⟨w.heap.size + 1, i2, none⟩ u2).setCell ⟨w.heap.size + 1, i3, none⟩ u3).setCell ⟨w.heap.size + 1, i4, none⟩ u4).setCell ⟨w.heap.size + 1, i5, none⟩ u5).setCell ⟨w.heap.size + 1, i6, none⟩ u6) = Wf at *
  have hs0 := B0.size
  have hs1 := hg.size
  refine ⟨V.lies_keep (fun h => h) (fun z hz => hot z ?_) (fun z hz => ?_) _ hy, ⟨?_, ?_, ?_, ?_, fun z hz hne => ?_⟩, W0, W1, B0, hD, by omega, fun z hz => hot z ?_⟩
  · rcases hz with hz | hz
    · have := hS z hz; omega
    · have := hz.1; omega
  · rcases hz with hz | hz
    · exact .inl hz
    · exact .inr ⟨by have := hz.1; omega, by have := hz.2; omega⟩
  · exact hgs.os.trans (hg.os.trans B0.os)
  · exact hgs.tape.trans (hg.tape.trans B0.tape)
  · exact hgs.output.trans (hg.output.trans B0.output)
  · omega
  · rw [hot z (by omega), hg.block z (by omega) hne, B0.block z hz]
  · rcases hz with hz | hz | hz
    · have := hS z hz; omega
    · omega
    · have := hz.1; omega
end Go.Proofs.YtejcfkkkbnnmcaaGreatDoor

/- pointer.walk. -/
set_option linter.unusedSimpArgs false
set_option linter.unusedVariables false
namespace Go.Proofs.YtejcfkkkbnnmcaaGreatDoor
open Go.RowKit Go.Lib

/-- tokens that lie in memory, with their room -/
def TokAt (w : World) (tv : Value) (ts : List ByteArray) : Prop := (ts = [] ∧ ∃ a c, tv = .slice a 0 c) ∨ (0 < ts.length ∧ ∃ g o c, tv = .slice (some ⟨g, o, none⟩) ts.length c ∧ ts.length ≤ c ∧ g < w.heap.size ∧ ∀ j (h : j < ts.length), w.cell? ⟨g, o + j, none⟩ = some (.string ts[j]))
theorem TokAt.below {w w' : World} {tv : Value} {ts : List ByteArray} (h : TokAt w tv ts) (hb : Below w.heap.size w w') : TokAt w' tv ts := by
  rcases h with h | ⟨h0, g, o, c, e, hc, hg, hr⟩
  · exact .inl h
  · exact .inr ⟨h0, g, o, c, e, hc, Nat.lt_of_lt_of_le hg hb.size, fun j hj => (hb.cell (p := ⟨g, o + j, none⟩) hg).trans (hr j hj)⟩
theorem TokAt.of_lies {w : World} {tv : Value} {ts : List ByteArray} (h : LiesS w tv ts) : TokAt w tv ts := by
  cases ts with
  | nil => obtain ⟨⟨a, c, e⟩, _⟩ := h; exact .inl ⟨rfl, a, c, e⟩
  | cons t ts => obtain ⟨g, o, c, e, hle, hg, hc⟩ := h.2 (by simp); exact .inr ⟨by simp, g, o, c, e, hle, hg, hc⟩
set_option maxHeartbeats 1600000 in
set_option maxRecDepth 100000 in
theorem walk_nil (f : Nat) (cap : Value) (F : V → V × Int) (S : Nat → Prop) (G : Nat) (D : V → World → World → Prop) (eg : ∀ args w, (callFunc f args).run Tryz.prog w = .ok (.enter f args) w) (v : V) (cs : List Value) (tv : Value) (w : World) (hv : v.lies false w S cs) (hS : ∀ b, S b → b < w.heap.size) (hG : G < w.heap.size) (hwt : v.wt ≤ 1114112) (ht : TokAt w tv []) (hd : DoC f cap F S G D w) :
    Calls Tryz.prog 14 #[.agg cs.toArray, tv, .func (.func f) #[] #[cap]] w (WkPost (wkV F v []) S G D w) := by
  obtain ⟨ta, tc, rfl⟩ : ∃ a c, tv = .slice a 0 c := by
    rcases ht with ⟨_, h⟩ | ⟨h, _⟩
    · exact h
    · simp at h
  have HV := hmk hv
  obtain ⟨k, b, i, s, al, nl, cl, am, nm, cm, rfl⟩ := V.ten hv
  clear hv
  have B0 : Below w.heap.size w ((w.alloc (.cells #[.int .i64 k, .bool b, .int .i64 i, .string s, .slice al nl cl, .slice am nm cm] 25)).alloc (.cells #[.int .i64 0, .bool false, .int .i64 0, .string ⟨#[]⟩, .slice none 0 0, .slice none 0 0] 25)) := two_below w _ _
  have hz0 : ((w.alloc (.cells #[.int .i64 k, .bool b, .int .i64 i, .string s, .slice al nl cl, .slice am nm cm] 25)).alloc (.cells #[.int .i64 0, .bool false, .int .i64 0, .string ⟨#[]⟩, .slice none 0 0, .slice none 0 0] 25)).heap.size = w.heap.size + 2 := by rw [alloc_size, alloc_size]
  have h1 := alloc2_new w (.cells #[.int .i64 k, .bool b, .int .i64 i, .string s, .slice al nl cl, .slice am nm cm] 25) (.cells #[.int .i64 0, .bool false, .int .i64 0, .string ⟨#[]⟩, .slice none 0 0, .slice none 0 0] 25)
  have hc := hd ((w.alloc (.cells #[.int .i64 k, .bool b, .int .i64 i, .string s, .slice al nl cl, .slice am nm cm] 25)).alloc (.cells #[.int .i64 0, .bool false, .int .i64 0, .string ⟨#[]⟩, .slice none 0 0, .slice none 0 0] 25)) v _ B0 hwt (lies_below HV.out hS B0)
  clear hd ht
  go_enter Tryz.func14, Tryz.ntmps14
  go_wp2_with fail
  generalize ((w.alloc (.cells #[.int .i64 k, .bool b, .int .i64 i, .string s, .slice al nl cl, .slice am nm cm] 25)).alloc (.cells #[.int .i64 0, .bool false, .int .i64 0, .string ⟨#[]⟩, .slice none 0 0, .slice none 0 0] 25)) = w0 at *
  refine hc.mono ?_
  rintro e w1 ⟨ds, rfl, hy, hg, hD⟩
  obtain ⟨ek, eb, ei, es, eal, enl, ecl, eam, enm, ecm, rfl⟩ := V.ten hy
  have HE := hmk (box_end B0 (by omega) hS hG hy hg hD 0 1 2 3 4 5 (.int .i64 ek) (.bool eb) (.int .i64 ei) (.string es) (.slice eal enl ecl) (.slice eam enm ecm))
  have t1 := (hg.block (w.heap.size + 1) (by omega) (fun e => by have := Option.some.inj e; omega)).trans h1
  have z0 : w1.cell? ⟨w.heap.size + 1, 0, none⟩ = some (.int .i64 0) := by rw [cell_of_block t1]; rfl
  have z1 : w1.cell? ⟨w.heap.size + 1, 1, none⟩ = some (.bool false) := by rw [cell_of_block t1]; rfl
  have z2 : w1.cell? ⟨w.heap.size + 1, 2, none⟩ = some (.int .i64 0) := by rw [cell_of_block t1]; rfl
  have z3 : w1.cell? ⟨w.heap.size + 1, 3, none⟩ = some (.string ⟨#[]⟩) := by rw [cell_of_block t1]; rfl
  have z4 : w1.cell? ⟨w.heap.size + 1, 4, none⟩ = some (.slice none 0 0) := by rw [cell_of_block t1]; rfl
  have z5 : w1.cell? ⟨w.heap.size + 1, 5, none⟩ = some (.slice none 0 0) := by rw [cell_of_block t1]; rfl
  have rf := frozen_of_block t1
  clear hy hg hD hc t1 h1
  go_wp2_with fail
  (try simp only [Exit.inBlock, Exit.then])
  refine bodyPost_ret (v := .tuple #[.agg #[.int .i64 ek, .bool eb, .int .i64 ei, .string es, .slice eal enl ecl, .slice eam enm ecm], .int .i64 (F v).2]) ?_ rfl ?_
  rotate_left
  · exact ⟨[.int .i64 ek, .bool eb, .int .i64 ei, .string es, .slice eal enl ecl, .slice eam enm ecm], rfl, HE.out.1, HE.out.2.1, (fun x hx => by cases hx; exact HE.out.2.2), (fun h => by cases h)⟩
  · rw [results_cell_tmp rfl]
    go_simp
end Go.Proofs.YtejcfkkkbnnmcaaGreatDoor

/- pointer.walk: what the region leaves. -/
set_option linter.unusedSimpArgs false
set_option linter.unusedVariables false
namespace Go.Proofs.YtejcfkkkbnnmcaaGreatDoor
open Go.RowKit Go.Lib

/-- behind the walk below and the making of x's box X, ahead of the store -/
structure MidF (S : Nat → Prop) (G : Nat) (D : V → World → World → Prop) (w wy : World) (X : Nat) (y : V) (rx : Option V) (es : List Value) (vb : Obj) : Prop where
  g : w.grownBy wy (some G)
  lo : w.heap.size + 2 ≤ X
  hi : X < wy.heap.size
  bx : wy.heap[X]? = some (.cells #[.int .i64 0, .bool false, .int .i64 0, .string ⟨#[]⟩, .slice none 0 0, .slice none 0 0] 25)
  vb : wy.heap[w.heap.size]? = some vb
  rb : wy.heap[w.heap.size + 1]? = some (.cells #[.int .i64 0, .bool false, .int .i64 0, .string ⟨#[]⟩, .slice none 0 0, .slice none 0 0] 25)
  ly : y.lies false wy (fun x => S x ∨ (w.heap.size + 2 ≤ x ∧ x ≠ X ∧ x < wy.heap.size)) es
  lf : ∀ x, rx = some x → ∃ W0 W1, Below w.heap.size w W0 ∧ w.heap.size + 2 ≤ W0.heap.size ∧ D x W0 W1 ∧ W1.heap.size ≤ wy.heap.size ∧ (∀ b, (S b ∨ b = G ∨ New W0 W1 b) → wy.heap[b]? = W1.heap[b]? ∧ b ≠ X)
  nn : rx = none → Below w.heap.size w wy
/-- behind the store -/
structure EndF (S : Nat → Prop) (G : Nat) (D : V → World → World → Prop) (w wz : World) (X : Nat) (y : V) (rx : Option V) (es : List Value) (vb : Obj) : Prop where
  g : w.grownBy wz (some G)
  lo : w.heap.size + 2 ≤ X
  hi : X < wz.heap.size
  vb : wz.heap[w.heap.size]? = some vb
  rb : wz.heap[w.heap.size + 1]? = some (.cells #[.int .i64 0, .bool false, .int .i64 0, .string ⟨#[]⟩, .slice none 0 0, .slice none 0 0] 25)
  xr : rowAt wz X 0 es
  ly : y.lies false wz (fun x => S x ∨ (w.heap.size + 2 ≤ x ∧ x < wz.heap.size)) es
  lf : ∀ x, rx = some x → ∃ W0 W1, Below w.heap.size w W0 ∧ w.heap.size + 2 ≤ W0.heap.size ∧ D x W0 W1 ∧ W1.heap.size ≤ wz.heap.size ∧ (∀ b, (S b ∨ b = G ∨ New W0 W1 b) → wz.heap[b]? = W1.heap[b]?)
  nn : rx = none → Below w.heap.size w wz

theorem grown_of {w wh ww : World} {G : Nat} (BH : Below w.heap.size w wh) (gw : wh.grownBy ww (some G)) : w.grownBy ww (some G) :=
  ⟨gw.os.trans BH.os, gw.tape.trans BH.tape, gw.output.trans BH.output, Nat.le_trans BH.size gw.size, fun k hk hne => (gw.block k (Nat.lt_of_lt_of_le hk BH.size) hne).trans (BH.block k hk)⟩
/-- the box was made ahead of the walk below -/
theorem mid_before {S : Nat → Prop} {G : Nat} {D : V → World → World → Prop} {w wh ww : World} {X : Nat} {y : V} {rx : Option V} {es : List Value} {vb : Obj} (hS : ∀ b, S b → b < w.heap.size) (hG : G < w.heap.size) (BH : Below w.heap.size w wh) (h2 : w.heap.size + 2 ≤ X) (h3 : X < wh.heap.size)
    (bx : wh.heap[X]? = some (.cells #[.int .i64 0, .bool false, .int .i64 0, .string ⟨#[]⟩, .slice none 0 0, .slice none 0 0] 25)) (vb0 : wh.heap[w.heap.size]? = some vb) (rb0 : wh.heap[w.heap.size + 1]? = some (.cells #[.int .i64 0, .bool false, .int .i64 0, .string ⟨#[]⟩, .slice none 0 0, .slice none 0 0] 25))
    (hl : y.lies false ww (OrNew S wh ww) es) (gw : wh.grownBy ww (some G)) (lw : ∀ x, rx = some x → Left x S G D wh ww) (nw : rx = none → Below wh.heap.size wh ww) : MidF S G D w ww X y rx es vb := by
  have hs := gw.size
  have ne : ∀ b, w.heap.size ≤ b → some b ≠ some G := fun b hb e => by have := Option.some.inj e; omega
  refine ⟨grown_of BH gw, h2, by omega, (gw.block X h3 (by intro e; have := Option.some.inj e; omega)).trans bx, (gw.block _ (by omega) (by intro e; have := Option.some.inj e; omega)).trans vb0, (gw.block _ (by omega) (by intro e; have := Option.some.inj e; omega)).trans rb0, V.lies_keep (fun h => h) (fun _ _ => rfl) (fun x hx => ?_) _ hl, fun x hx => ?_, fun hn => BH.trans ((nw hn).mono BH.size)⟩
  · rcases hx with hx | hx
    · exact .inl hx
    · exact .inr ⟨by have := hx.1; omega, by have := hx.1; omega, hx.2⟩
  · obtain ⟨W0, W1, b0, d, sz, hb⟩ := lw x hx
    have hs0 := b0.size
    refine ⟨W0, W1, BH.trans (b0.mono BH.size), by omega, d, sz, fun b h => ⟨hb b h, ?_⟩⟩
    rcases h with h | h | h
    · have := hS b h; omega
    · omega
    · have := h.1; omega
/-- the box was made behind the walk below -/
theorem mid_after {S : Nat → Prop} {G : Nat} {D : V → World → World → Prop} {w wh ww : World} {y : V} {rx : Option V} {es : List Value} {vb : Obj} (hS : ∀ b, S b → b < w.heap.size) (hG : G < w.heap.size) (BH : Below w.heap.size w wh) (h3 : w.heap.size + 2 ≤ wh.heap.size)
    (vb0 : wh.heap[w.heap.size]? = some vb) (rb0 : wh.heap[w.heap.size + 1]? = some (.cells #[.int .i64 0, .bool false, .int .i64 0, .string ⟨#[]⟩, .slice none 0 0, .slice none 0 0] 25))
    (hl : y.lies false ww (OrNew S wh ww) es) (gw : wh.grownBy ww (some G)) (lw : ∀ x, rx = some x → Left x S G D wh ww) (nw : rx = none → Below wh.heap.size wh ww) : MidF S G D w (ww.alloc (.cells #[.int .i64 0, .bool false, .int .i64 0, .string ⟨#[]⟩, .slice none 0 0, .slice none 0 0] 25)) ww.heap.size y rx es vb := by
  have hs := gw.size
  have ba : Below ww.heap.size ww (ww.alloc (.cells #[.int .i64 0, .bool false, .int .i64 0, .string ⟨#[]⟩, .slice none 0 0, .slice none 0 0] 25)) := one_belowG _ _
  have hz : (ww.alloc (.cells #[.int .i64 0, .bool false, .int .i64 0, .string ⟨#[]⟩, .slice none 0 0, .slice none 0 0] 25)).heap.size = ww.heap.size + 1 := alloc_size _ _
  have hn := heap_alloc_new ww (.cells #[.int .i64 0, .bool false, .int .i64 0, .string ⟨#[]⟩, .slice none 0 0, .slice none 0 0] 25)
  generalize (ww.alloc (.cells #[.int .i64 0, .bool false, .int .i64 0, .string ⟨#[]⟩, .slice none 0 0, .slice none 0 0] 25)) = wy at *
  refine ⟨⟨ba.os.trans (grown_of BH gw).os, ba.tape.trans (grown_of BH gw).tape, ba.output.trans (grown_of BH gw).output, by have := (grown_of BH gw).size; omega, fun k hk hne => (ba.block k (by have := (grown_of BH gw).size; omega)).trans ((grown_of BH gw).block k hk hne)⟩, by omega, by omega, hn, (ba.block _ (by omega)).trans ((gw.block _ (by omega) (by intro e; have := Option.some.inj e; omega)).trans vb0), (ba.block _ (by omega)).trans ((gw.block _ (by omega) (by intro e; have := Option.some.inj e; omega)).trans rb0), V.lies_keep (fun h => h) (fun x hx => ba.block x ?_) (fun x hx => ?_) _ hl, fun x hx => ?_, fun hn => ?_⟩
  · rcases hx with hx | hx
    · have := hS x hx; omega
    · exact hx.2
  · rcases hx with hx | hx
    · exact .inl hx
    · exact .inr ⟨by have := hx.1; omega, by have := hx.2; omega, by have := hx.2; omega⟩
  · obtain ⟨W0, W1, b0, d, sz, hb⟩ := lw x hx
    have hs0 := b0.size
    refine ⟨W0, W1, BH.trans (b0.mono BH.size), by omega, d, by omega, fun b h => ?_⟩
    have hbw : b < ww.heap.size := by
      rcases h with h | h | h
      · have := hS b h; omega
      · omega
      · have := h.2; omega
    exact ⟨(ba.block b hbw).trans (hb b h), by omega⟩
  · have := BH.trans ((nw hn).mono BH.size)
    exact this.trans (ba.mono this.size)
theorem end_of_mid {S : Nat → Prop} {G : Nat} {D : V → World → World → Prop} {w wy : World} {X : Nat} {y : V} {rx : Option V} {vb : Obj} {c0 c1 c2 c3 c4 c5 : Value} (hS : ∀ b, S b → b < w.heap.size) (hG : G < w.heap.size) (h : MidF S G D w wy X y rx [c0, c1, c2, c3, c4, c5] vb) : EndF S G D w ((((((wy.setCell ⟨X, 0, none⟩ c0).setCell ⟨X, 1, none⟩ c1).setCell ⟨X, 2, none⟩ c2).setCell ⟨X, 3, none⟩ c3).setCell ⟨X, 4, none⟩ c4).setCell ⟨X, 5, none⟩ c5) X y rx [c0, c1, c2, c3, c4, c5] vb := by
  obtain ⟨arr', e1, e2, _, e4, e5, e6⟩ := set6_row (o := 0) h.bx (by decide) c0 c1 c2 c3 c4 c5
  have bb : rx = none → Below w.heap.size w ((((((wy.setCell ⟨X, 0, none⟩ c0).setCell ⟨X, 1, none⟩ c1).setCell ⟨X, 2, none⟩ c2).setCell ⟨X, 3, none⟩ c3).setCell ⟨X, 4, none⟩ c4).setCell ⟨X, 5, none⟩ c5) := fun hn => Below.set6 (h.nn hn) (by have := h.lo; omega) 0 1 2 3 4 5 c0 c1 c2 c3 c4 c5
  have gg : wy.grownBy ((((((wy.setCell ⟨X, 0, none⟩ c0).setCell ⟨X, 1, none⟩ c1).setCell ⟨X, 2, none⟩ c2).setCell ⟨X, 3, none⟩ c3).setCell ⟨X, 4, none⟩ c4).setCell ⟨X, 5, none⟩ c5) (some X) := grown_set (grown_set (grown_set (grown_set (grown_set (grown_set (World.grownBy.refl wy _) 0 c0) 1 c1) 2 c2) 3 c3) 4 c4) 5 c5
  simp only [Nat.zero_add] at e1 e4 e5 e6
  generalize ((((((wy.setCell ⟨X, 0, none⟩ c0).setCell ⟨X, 1, none⟩ c1).setCell ⟨X, 2, none⟩ c2).setCell ⟨X, 3, none⟩ c3).setCell ⟨X, 4, none⟩ c4).setCell ⟨X, 5, none⟩ c5) = wz at *
  have lo := h.lo
  have hi := h.hi
  refine ⟨⟨gg.os.trans h.g.os, gg.tape.trans h.g.tape, gg.output.trans h.g.output, Nat.le_trans h.g.size gg.size, fun k hk hne => (e5 k (by omega)).trans (h.g.block k hk hne)⟩, lo, by omega, (e5 _ (by omega)).trans h.vb, (e5 _ (by omega)).trans h.rb, e4, V.lies_keep (fun h => h) (fun x hx => e5 x ?_) (fun x hx => ?_) _ h.ly, fun x hx => ?_, bb⟩
  · rcases hx with hx | hx
    · have := hS x hx; omega
    · exact hx.2.1
  · rcases hx with hx | hx
    · exact .inl hx
    · exact .inr ⟨hx.1, by have := hx.2.2; omega⟩
  · obtain ⟨W0, W1, b0, b1, d, sz, hb⟩ := h.lf x hx
    exact ⟨W0, W1, b0, b1, d, by omega, fun b hb' => (e5 b (hb b hb').2).trans (hb b hb').1⟩
/-- the answer, stored into its box -/
theorem fin_of_end {S : Nat → Prop} {G : Nat} {D : V → World → World → Prop} {w wz wv : World} {X : Nat} {y z : V} {rx : Option V} {es ds : List Value} {vb : Obj} (hS : ∀ b, S b → b < w.heap.size) (hG : G < w.heap.size) (h : EndF S G D w wz X y rx es vb) (bv : Below wz.heap.size wz wv) (hz : z.lies false wv (OrNew (fun x => S x ∨ (w.heap.size + 2 ≤ x ∧ x < wz.heap.size)) wz wv) ds) (er : Int) (u0 u1 u2 u3 u4 u5 : Value) :
    WkPost (z, er, rx) S G D w (.returned (.tuple #[.agg ds.toArray, .int .i64 er])) ((((((wv.setCell ⟨w.heap.size + 1, 0, none⟩ u0).setCell ⟨w.heap.size + 1, 1, none⟩ u1).setCell ⟨w.heap.size + 1, 2, none⟩ u2).setCell ⟨w.heap.size + 1, 3, none⟩ u3).setCell ⟨w.heap.size + 1, 4, none⟩ u4).setCell ⟨w.heap.size + 1, 5, none⟩ u5) := by
  have hot : ∀ x, x ≠ w.heap.size + 1 → ((((((wv.setCell ⟨w.heap.size + 1, 0, none⟩ u0).setCell ⟨w.heap.size + 1, 1, none⟩ u1).setCell ⟨w.heap.size + 1, 2, none⟩ u2).setCell ⟨w.heap.size + 1, 3, none⟩ u3).setCell ⟨w.heap.size + 1, 4, none⟩ u4).setCell ⟨w.heap.size + 1, 5, none⟩ u5).heap[x]? = wv.heap[x]? := fun x hx => by
    repeat (rw [set_other hx])
  have bb : Below w.heap.size w wv → Below w.heap.size w ((((((wv.setCell ⟨w.heap.size + 1, 0, none⟩ u0).setCell ⟨w.heap.size + 1, 1, none⟩ u1).setCell ⟨w.heap.size + 1, 2, none⟩ u2).setCell ⟨w.heap.size + 1, 3, none⟩ u3).setCell ⟨w.heap.size + 1, 4, none⟩ u4).setCell ⟨w.heap.size + 1, 5, none⟩ u5) := fun hn => Below.set6 hn (by omega) 0 1 2 3 4 5 u0 u1 u2 u3 u4 u5
  have gg : wv.grownBy ((((((wv.setCell ⟨w.heap.size + 1, 0, none⟩ u0).setCell ⟨w.heap.size + 1, 1, none⟩ u1).setCell ⟨w.heap.size + 1, 2, none⟩ u2).setCell ⟨w.heap.size + 1, 3, none⟩ u3).setCell ⟨w.heap.size + 1, 4, none⟩ u4).setCell ⟨w.heap.size + 1, 5, none⟩ u5) (some (w.heap.size + 1)) := grown_set (grown_set (grown_set (grown_set (grown_set (grown_set (World.grownBy.refl wv _) 0 u0) 1 u1) 2 u2) 3 u3) 4 u4) 5 u5
  have hsz : ((((((wv.setCell ⟨w.heap.size + 1, 0, none⟩ u0).setCell ⟨w.heap.size + 1, 1, none⟩ u1).setCell ⟨w.heap.size + 1, 2, none⟩ u2).setCell ⟨w.heap.size + 1, 3, none⟩ u3).setCell ⟨w.heap.size + 1, 4, none⟩ u4).setCell ⟨w.heap.size + 1, 5, none⟩ u5).heap.size = wv.heap.size := by simp only [size_set1]
  generalize ((((((wv.setCell ⟨w.heap.size + 1, 0, none⟩ u0).setCell ⟨w.heap.size + 1, 1, none⟩ u1).setCell ⟨w.heap.size + 1, 2, none⟩ u2).setCell ⟨w.heap.size + 1, 3, none⟩ u3).setCell ⟨w.heap.size + 1, 4, none⟩ u4).setCell ⟨w.heap.size + 1, 5, none⟩ u5) = wf at *
  have s1 := h.g.size
  have s2 := bv.size
  have lo := h.lo
  have hi := h.hi
  refine ⟨ds, rfl, V.lies_keep (fun h => h) (fun x hx => hot x ?_) (fun x hx => ?_) _ hz, ⟨gg.os.trans (bv.os.trans h.g.os), gg.tape.trans (bv.tape.trans h.g.tape), gg.output.trans (bv.output.trans h.g.output), by omega, fun k hk hne => (hot k (by omega)).trans ((bv.block k (by omega)).trans (h.g.block k hk hne))⟩, fun x hx => ?_, fun hn => bb ((h.nn hn).trans (bv.mono (h.nn hn).size))⟩
  · rcases hx with (hx | hx) | hx
    · have := hS x hx; omega
    · have := hx.1; omega
    · have := hx.1; omega
  · rcases hx with (hx | hx) | hx
    · exact .inl hx
    · exact .inr ⟨by have := hx.1; omega, by have := hx.2; omega⟩
    · exact .inr ⟨by have := hx.1; omega, by have := hx.2; omega⟩
  · obtain ⟨W0, W1, b0, b1, d, sz, hb⟩ := h.lf x hx
    refine ⟨W0, W1, b0, d, by omega, fun b hb' => ?_⟩
    have hbz : b < wz.heap.size ∧ b ≠ w.heap.size + 1 := by
      rcases hb' with h | h | h
      · have := hS b h; exact ⟨by omega, by omega⟩
      · exact ⟨by omega, by omega⟩
      · have h1 := h.1; have h2 := h.2; exact ⟨by omega, by omega⟩
    exact (hot b hbz.2).trans ((bv.block b hbz.1).trans (hb b hb'))
end Go.Proofs.YtejcfkkkbnnmcaaGreatDoor
