/- joined: LedA HedA -/
import Derived.Test.YtgnofbigggmilaaGreatDoorG15
set_option linter.unusedSimpArgs false
set_option linter.unusedVariables false
namespace Go.Proofs.YtgnofbigggmilaaGreatDoor
open Go.RowKit Go.Lib
def kindOf : V → Int
 | .mk k _ _ _ _ _ => k
def listOf : V → List V
 | .mk _ _ _ _ l _ => l
def memsOf : V → List Mem
 | .mk _ _ _ _ _ m => m
def ledF (v : V) (t : ByteArray) : Nat × Int :=
 if kindOf v = 5 then (if keyIs t (memsOf v)[posF (memsOf v) t]? = true then (posF (memsOf v) t, 0) else (0, 41))
 else if kindOf v = 4 then ((idxF t.data.toList (listOf v).length).getD 0, if (idxF t.data.toList (listOf v).length).isSome = true then 0 else 42)
 else (0, 41)
def kid (v : V) (j : Nat) : V := if kindOf v = 4 then (listOf v).getD j nullV else ((memsOf v).getD j (⟨#[]⟩, nullV)).2
def kidAt (v : V) (j : Nat) : Prop := (kindOf v = 4 ∧ j < (listOf v).length) ∨ (kindOf v = 5 ∧ j < (memsOf v).length)
theorem one_belowG (w : World) (o : Obj) : Below w.heap.size w (w.alloc o) := (Below.refl _ _).alloc (Nat.le_refl _) _
theorem idxF_lt {s : List UInt8} {n p : Nat} (h : idxF s n = some p) : p < n := by
 exact List.mem_range.1 (List.mem_of_find?_eq_some h)
theorem led_kid {v : V} {t : ByteArray} (h : (ledF v t).2 = 0) : kidAt v (ledF v t).1 := by
 unfold ledF at h ⊢
 split
 ·rename_i hk
  rw [if_pos hk] at h
  split
  ·rename_i hq
   refine .inr ⟨hk, ?_⟩
   show posF (memsOf v) t < _
   rcases Nat.lt_or_ge (posF (memsOf v) t) (memsOf v).length with h1 | h1
   ·exact h1
   ·rw [List.getElem?_eq_none h1] at hq; simp [keyIs] at hq
  ·rename_i hq
   rw [if_neg hq] at h; simp at h
 ·rename_i hk
  rw [if_neg hk] at h
  split
  ·rename_i hk4
   rw [if_pos hk4] at h
   refine .inl ⟨hk4, ?_⟩
   cases hx : idxF t.data.toList (listOf v).length with
   | none => rw [hx] at h; simp at h
   | some p => exact idxF_lt hx
  ·rename_i hk4
   rw [if_neg hk4] at h; simp at h
def LdPost (p : Nat × Int) (w : World) (e : Ending) (w' : World) : Prop := e = .returned (.tuple #[.int .i64 (p.1 : Int), .int .i64 p.2]) ∧ Below w.heap.size w w'
set_option maxHeartbeats 8000000 in
set_option maxRecDepth 100000 in
theorem lead_any (v : V) (key : ByteArray) (S : Nat → Prop) (cs : List Value) (w : World) (tg : Tg w) (hv : v.lies false w S cs) (hS : ∀ b, S b → b < w.heap.size) (hwt : v.wt ≤ 1099511627776) (hk : key.size ≤ 281474976710656) (hsr : Srt (memsOf v)) :
 Calls Tryz.prog 44 #[.agg cs.toArray, .string key] w (LdPost (ledF v key) w) := by
 obtain ⟨k, b, i, s, l, m⟩ := v
 rw [V.lies] at hv
 obtain ⟨al, cl, bl, ol, am, cm, bm, om, rfl, _, _, _, hal, ham, _, hm, _⟩ := hv
 have hz2 : (w.alloc (.cells #[.int .i64 k, .bool b, .int .i64 i, .string s, .slice al l.length cl, .slice am m.length cm] 25)).heap.size = w.heap.size + 1 := by rw [alloc_size]
 have B0 : Below w.heap.size w (w.alloc (.cells #[.int .i64 k, .bool b, .int .i64 i, .string s, .slice al l.length cl, .slice am m.length cm] 25)) := one_belowG w _
 have h0 : (w.alloc (.cells #[.int .i64 k, .bool b, .int .i64 i, .string s, .slice al l.length cl, .slice am m.length cm] 25)).heap[w.heap.size]? = _ := heap_alloc_new w _
 have HT : Hid (∀ W, Below w.heap.size w W → Tg W) := fun W hb => tg.below hb tg.z
 have hml : m.length ≤ 1099511627776 := by have := wtM_len m; simp only [V.wt] at hwt; omega
 have hll : l.length ≤ 1099511627776 := by have := wtL_len l; simp only [V.wt] at hwt; omega
 have HM : Hid (∀ W, Below w.heap.size w W → Calls Tryz.prog 64 #[.slice am m.length cm, .string key] W (fun e w' => e = .returned (.tuple #[.int .i64 (posF m key : Int), .bool (keyIs key m[posF m key]?)]) ∧ Below W.heap.size W w')) := fun W hb => find_any m key false S am cm bm om W ham (liesM_keep (fun h => h) (fun x hx => hb.block x (hS x hx)) (fun _ h => h) _ hm) (fun x hx => Nat.lt_of_lt_of_le (hS x hx) hb.size) hsr hml
 have HX : Hid (∀ W, Below w.heap.size w W → Calls Tryz.prog 68 #[.string key, .int .i64 (l.length : Int)] W (IxPost (idxF key.data.toList l.length) W)) := fun W hb => index_any key l.length W hk (by omega) (tg.below hb tg.z)
 have HF : Hid (ledF (.mk k b i s l m) key = if k = 5 then (if keyIs key m[posF m key]? = true then (posF m key, 0) else (0, 41)) else if k = 4 then ((idxF key.data.toList l.length).getD 0, if (idxF key.data.toList l.length).isSome = true then 0 else 42) else (0, 41)) := by show _ = _; rfl
 generalize ledF (.mk k b i s l m) key = F at *
 generalize posF m key = p at *
 generalize keyIs key m[p]? = q at *
 generalize idxF key.data.toList l.length = O at *
 have r0 : (w.alloc (.cells #[.int .i64 k, .bool b, .int .i64 i, .string s, .slice al l.length cl, .slice am m.length cm] 25)).cell? ⟨w.heap.size, 0, none⟩ = some (.int .i64 k) := by rw [cell_of_block h0]; rfl
 have r1 : (w.alloc (.cells #[.int .i64 k, .bool b, .int .i64 i, .string s, .slice al l.length cl, .slice am m.length cm] 25)).cell? ⟨w.heap.size, 1, none⟩ = some (.bool b) := by rw [cell_of_block h0]; rfl
 have r2 : (w.alloc (.cells #[.int .i64 k, .bool b, .int .i64 i, .string s, .slice al l.length cl, .slice am m.length cm] 25)).cell? ⟨w.heap.size, 2, none⟩ = some (.int .i64 i) := by rw [cell_of_block h0]; rfl
 have r3 : (w.alloc (.cells #[.int .i64 k, .bool b, .int .i64 i, .string s, .slice al l.length cl, .slice am m.length cm] 25)).cell? ⟨w.heap.size, 3, none⟩ = some (.string s) := by rw [cell_of_block h0]; rfl
 have r4 : (w.alloc (.cells #[.int .i64 k, .bool b, .int .i64 i, .string s, .slice al l.length cl, .slice am m.length cm] 25)).cell? ⟨w.heap.size, 4, none⟩ = some (.slice al l.length cl) := by rw [cell_of_block h0]; rfl
 have r5 : (w.alloc (.cells #[.int .i64 k, .bool b, .int .i64 i, .string s, .slice al l.length cl, .slice am m.length cm] 25)).cell? ⟨w.heap.size, 5, none⟩ = some (.slice am m.length cm) := by rw [cell_of_block h0]; rfl
 clear hm tg hsr hS hwt
 by_cases hk5 : k = 5
 ·subst hk5
  go_enter Tryz.func44, Tryz.ntmps44
  go_wp2_with fail
  refine (HM.out _ B0).mono ?_
  rintro e w1 ⟨rfl, b1⟩
  have hz1 := b1.size
  have B1 := B0.trans (b1.mono (by omega))
  cases q with
  | true =>
   have HR : Hid (F = (p, 0)) := by show _ = _; rw [HF.out]; simp
   go_wp2_with fail
   go_ret2
   exact ⟨by rw [HR.out]; rfl, B1⟩
  | false =>
   have HR : Hid (F = (0, 41)) := by show _ = _; rw [HF.out]; simp
   go_wp2_with fail
   go_ret2
   exact ⟨by rw [HR.out]; rfl, B1⟩
 ·by_cases hk4 : k = 4
  ·subst hk4
   go_enter Tryz.func44, Tryz.ntmps44
   go_wp2_with fail
   refine (HX.out _ B0).mono ?_
   rintro e w1 ⟨rfl, b1⟩
   have hz1 := b1.size
   have B1 := B0.trans (b1.mono (by omega))
   cases O with
   | some x =>
    have HR : Hid (F = (x, 0)) := by show _ = _; rw [HF.out]; simp
    go_wp2_with fail
    go_ret2
    exact ⟨by rw [HR.out]; rfl, B1⟩
   | none =>
    have HR : Hid (F = (0, 42)) := by show _ = _; rw [HF.out]; simp
    go_wp2_with fail
    go_ret2
    exact ⟨by rw [HR.out]; rfl, B1⟩
  ·have HR : Hid (F = (0, 41)) := by show _ = _; rw [HF.out, if_neg hk5, if_neg hk4]
   go_enter Tryz.func44, Tryz.ntmps44
   go_wp2_with fail
   go_ret2
   exact ⟨by rw [HR.out]; rfl, B0⟩
def HdPost (x : V) (S : Nat → Prop) (w : World) (e : Ending) (w' : World) : Prop := ∃ cs : List Value, e = .returned (.agg cs.toArray) ∧ x.lies false w' S cs ∧ Below w.heap.size w w'
theorem lies_below {v : V} {S : Nat → Prop} {cs : List Value} {w W : World} (h : v.lies false w S cs) (hS : ∀ b, S b → b < w.heap.size) (hb : Below w.heap.size w W) : v.lies false W S cs := V.lies_keep (fun h => h) (fun x hx => hb.block x (hS x hx)) (fun _ h => h) _ h
set_option maxHeartbeats 8000000 in
set_option maxRecDepth 100000 in
theorem held_any (v : V) (j : Nat) (S : Nat → Prop) (cs : List Value) (w : World) (hv : v.lies false w S cs) (hS : ∀ b, S b → b < w.heap.size) (hwt : v.wt ≤ 1099511627776) (hj : kidAt v j) :
 Calls Tryz.prog 45 #[.agg cs.toArray, .int .i64 (j : Int)] w (HdPost (kid v j) S w) := by
 obtain ⟨k, b, i, s, l, m⟩ := v
 rw [V.lies] at hv
 obtain ⟨al, cl, bl, ol, am, cm, bm, om, rfl, _, _, _, hal, ham, hl, hm, _⟩ := hv
 have hml : m.length ≤ 1099511627776 := by have := wtM_len m; simp only [V.wt] at hwt; omega
 have hll : l.length ≤ 1099511627776 := by have := wtL_len l; simp only [V.wt] at hwt; omega
 have hz2 : ((w.alloc (.cells #[.int .i64 k, .bool b, .int .i64 i, .string s, .slice al l.length cl, .slice am m.length cm] 25)).alloc (.cells #[.int .i64 0, .bool false, .int .i64 0, .string ⟨#[]⟩, .slice none 0 0, .slice none 0 0] 25)).heap.size = w.heap.size + 2 := by rw [alloc_size, alloc_size]
 have B0 : Below w.heap.size w ((w.alloc (.cells #[.int .i64 k, .bool b, .int .i64 i, .string s, .slice al l.length cl, .slice am m.length cm] 25)).alloc (.cells #[.int .i64 0, .bool false, .int .i64 0, .string ⟨#[]⟩, .slice none 0 0, .slice none 0 0] 25)) := two_below w _ _
 have h0 := alloc2_keep1 w (.cells #[.int .i64 k, .bool b, .int .i64 i, .string s, .slice al l.length cl, .slice am m.length cm] 25) (.cells #[.int .i64 0, .bool false, .int .i64 0, .string ⟨#[]⟩, .slice none 0 0, .slice none 0 0] 25)
 have h1 := alloc2_new w (.cells #[.int .i64 k, .bool b, .int .i64 i, .string s, .slice al l.length cl, .slice am m.length cm] 25) (.cells #[.int .i64 0, .bool false, .int .i64 0, .string ⟨#[]⟩, .slice none 0 0, .slice none 0 0] 25)
 have rf : ∀ i', ((w.alloc (.cells #[.int .i64 k, .bool b, .int .i64 i, .string s, .slice al l.length cl, .slice am m.length cm] 25)).alloc (.cells #[.int .i64 0, .bool false, .int .i64 0, .string ⟨#[]⟩, .slice none 0 0, .slice none 0 0] 25)).frozen? ⟨w.heap.size + 1, i', none⟩ = false := frozen_of_block h1
 have r0 : ((w.alloc (.cells #[.int .i64 k, .bool b, .int .i64 i, .string s, .slice al l.length cl, .slice am m.length cm] 25)).alloc (.cells #[.int .i64 0, .bool false, .int .i64 0, .string ⟨#[]⟩, .slice none 0 0, .slice none 0 0] 25)).cell? ⟨w.heap.size, 0, none⟩ = some (.int .i64 k) := by rw [cell_of_block h0]; rfl
 have r1 : ((w.alloc (.cells #[.int .i64 k, .bool b, .int .i64 i, .string s, .slice al l.length cl, .slice am m.length cm] 25)).alloc (.cells #[.int .i64 0, .bool false, .int .i64 0, .string ⟨#[]⟩, .slice none 0 0, .slice none 0 0] 25)).cell? ⟨w.heap.size, 1, none⟩ = some (.bool b) := by rw [cell_of_block h0]; rfl
 have r2 : ((w.alloc (.cells #[.int .i64 k, .bool b, .int .i64 i, .string s, .slice al l.length cl, .slice am m.length cm] 25)).alloc (.cells #[.int .i64 0, .bool false, .int .i64 0, .string ⟨#[]⟩, .slice none 0 0, .slice none 0 0] 25)).cell? ⟨w.heap.size, 2, none⟩ = some (.int .i64 i) := by rw [cell_of_block h0]; rfl
 have r3 : ((w.alloc (.cells #[.int .i64 k, .bool b, .int .i64 i, .string s, .slice al l.length cl, .slice am m.length cm] 25)).alloc (.cells #[.int .i64 0, .bool false, .int .i64 0, .string ⟨#[]⟩, .slice none 0 0, .slice none 0 0] 25)).cell? ⟨w.heap.size, 3, none⟩ = some (.string s) := by rw [cell_of_block h0]; rfl
 have r4 : ((w.alloc (.cells #[.int .i64 k, .bool b, .int .i64 i, .string s, .slice al l.length cl, .slice am m.length cm] 25)).alloc (.cells #[.int .i64 0, .bool false, .int .i64 0, .string ⟨#[]⟩, .slice none 0 0, .slice none 0 0] 25)).cell? ⟨w.heap.size, 4, none⟩ = some (.slice al l.length cl) := by rw [cell_of_block h0]; rfl
 have r5 : ((w.alloc (.cells #[.int .i64 k, .bool b, .int .i64 i, .string s, .slice al l.length cl, .slice am m.length cm] 25)).alloc (.cells #[.int .i64 0, .bool false, .int .i64 0, .string ⟨#[]⟩, .slice none 0 0, .slice none 0 0] 25)).cell? ⟨w.heap.size, 5, none⟩ = some (.slice am m.length cm) := by rw [cell_of_block h0]; rfl
 have z0 : ((w.alloc (.cells #[.int .i64 k, .bool b, .int .i64 i, .string s, .slice al l.length cl, .slice am m.length cm] 25)).alloc (.cells #[.int .i64 0, .bool false, .int .i64 0, .string ⟨#[]⟩, .slice none 0 0, .slice none 0 0] 25)).cell? ⟨w.heap.size + 1, 0, none⟩ = some (.int .i64 0) := by rw [cell_of_block h1]; rfl
 have z1 : ((w.alloc (.cells #[.int .i64 k, .bool b, .int .i64 i, .string s, .slice al l.length cl, .slice am m.length cm] 25)).alloc (.cells #[.int .i64 0, .bool false, .int .i64 0, .string ⟨#[]⟩, .slice none 0 0, .slice none 0 0] 25)).cell? ⟨w.heap.size + 1, 1, none⟩ = some (.bool false) := by rw [cell_of_block h1]; rfl
 have z2 : ((w.alloc (.cells #[.int .i64 k, .bool b, .int .i64 i, .string s, .slice al l.length cl, .slice am m.length cm] 25)).alloc (.cells #[.int .i64 0, .bool false, .int .i64 0, .string ⟨#[]⟩, .slice none 0 0, .slice none 0 0] 25)).cell? ⟨w.heap.size + 1, 2, none⟩ = some (.int .i64 0) := by rw [cell_of_block h1]; rfl
 have z3 : ((w.alloc (.cells #[.int .i64 k, .bool b, .int .i64 i, .string s, .slice al l.length cl, .slice am m.length cm] 25)).alloc (.cells #[.int .i64 0, .bool false, .int .i64 0, .string ⟨#[]⟩, .slice none 0 0, .slice none 0 0] 25)).cell? ⟨w.heap.size + 1, 3, none⟩ = some (.string ⟨#[]⟩) := by rw [cell_of_block h1]; rfl
 have z4 : ((w.alloc (.cells #[.int .i64 k, .bool b, .int .i64 i, .string s, .slice al l.length cl, .slice am m.length cm] 25)).alloc (.cells #[.int .i64 0, .bool false, .int .i64 0, .string ⟨#[]⟩, .slice none 0 0, .slice none 0 0] 25)).cell? ⟨w.heap.size + 1, 4, none⟩ = some (.slice none 0 0) := by rw [cell_of_block h1]; rfl
 have z5 : ((w.alloc (.cells #[.int .i64 k, .bool b, .int .i64 i, .string s, .slice al l.length cl, .slice am m.length cm] 25)).alloc (.cells #[.int .i64 0, .bool false, .int .i64 0, .string ⟨#[]⟩, .slice none 0 0, .slice none 0 0] 25)).cell? ⟨w.heap.size + 1, 5, none⟩ = some (.slice none 0 0) := by rw [cell_of_block h1]; rfl
 clear hwt h0 h1
 rcases hj with ⟨hk, hj⟩ | ⟨hk, hj⟩
 ·obtain rfl : k = 4 := hk
  have hj' : j < l.length := hj
  have y1 : (j : Int) < l.length := by omega
  obtain ⟨hSb, csj, hrow, hlj⟩ := liesL_get hl j hj'
  obtain rfl : al = some ⟨bl, ol, none⟩ := hal.at_.resolve_left (by omega)
  have HK : Hid (kid (.mk 4 b i s l m) j = l[j]) := by
   show _ = _
   show (l.getD j nullV) = _
   rw [List.getD_eq_getElem?_getD, List.getElem?_eq_getElem hj']; rfl
  have HJ := hmk hlj
  generalize l[j] = X at *
  obtain ⟨ek, eb, ei, es, eal, enl, ecl, eam, enm, ecm, rfl⟩ := V.ten hlj
  obtain ⟨g0, g1, g2, g3, g4, g5⟩ := row6 (fun q u hu => (B0.cell (p := ⟨bl, _, none⟩) (hS _ hSb)).trans (hrow q u hu))
  clear hrow hlj hl hm
  go_enter Tryz.func45, Tryz.ntmps45
  go_wp2_with fail
  (try simp only [Exit.inBlock, Exit.then])
  refine bodyPost_ret (v := .agg #[.int .i64 ek, .bool eb, .int .i64 ei, .string es, .slice eal enl ecl, .slice eam enm ecm]) ?_ rfl ?_
  rotate_left
  ·rw [HK.out]
   refine ⟨[.int .i64 ek, .bool eb, .int .i64 ei, .string es, .slice eal enl ecl, .slice eam enm ecm], rfl, ?_⟩
   exact ⟨lies_below HJ.out hS (two_below w _ _), two_below w _ _⟩
  rw [results_cell1 rfl]
  go_simp
 ·obtain rfl : k = 5 := hk
  have hj' : j < m.length := hj
  have y1 : (j : Int) < m.length := by omega
  obtain ⟨hSb, hks, csj, hrow, hlj⟩ := liesM_get hm j hj'
  obtain rfl : am = some ⟨bm, om, none⟩ := ham.at_.resolve_left (by omega)
  have HK : Hid (kid (.mk 5 b i s l m) j = (m[j]).2) := by
   show _ = _
   show (m.getD j (⟨#[]⟩, nullV)).2 = _
   rw [List.getD_eq_getElem?_getD, List.getElem?_eq_getElem hj']; rfl
  have HJ := hmk hlj
  obtain ⟨ekey, hek⟩ : ∃ ekey, (m[j]).1 = ekey := ⟨_, rfl⟩
  rw [hek] at hrow
  generalize (m[j]).2 = X at *
  obtain ⟨ek, eb, ei, es, eal, enl, ecl, eam, enm, ecm, rfl⟩ := V.ten hlj
  obtain ⟨g, g0, g1, g2, g3, g4, g5⟩ := row7 (fun q u hu => (B0.cell (p := ⟨bm, _, none⟩) (hS _ hSb)).trans (hrow q u hu))
  clear hrow hlj hl hm hek
  go_enter Tryz.func45, Tryz.ntmps45
  go_wp2_with fail
  (try simp only [Exit.inBlock, Exit.then])
  refine bodyPost_ret (v := .agg #[.int .i64 ek, .bool eb, .int .i64 ei, .string es, .slice eal enl ecl, .slice eam enm ecm]) ?_ rfl ?_
  rotate_left
  ·rw [HK.out]
   refine ⟨[.int .i64 ek, .bool eb, .int .i64 ei, .string es, .slice eal enl ecl, .slice eam enm ecm], rfl, ?_⟩
   exact ⟨lies_below HJ.out hS (two_below w _ _), two_below w _ _⟩
  rw [results_cell1 rfl]
  go_simp
end Go.Proofs.YtgnofbigggmilaaGreatDoor
