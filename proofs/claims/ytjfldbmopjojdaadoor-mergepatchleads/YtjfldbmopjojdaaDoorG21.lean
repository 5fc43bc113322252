/- joined: CleA RapX -/
import Derived.Test.YtjfldbmopjojdaaDoorG20
set_option linter.unusedSimpArgs false
set_option linter.unusedVariables false
namespace Go.Proofs.YtjfldbmopjojdaaDoor
open Go.RowKit Go.Lib
mutual
def clnB : V → Bool
 | .mk k _ _ _ _ m => !(k == 0) && clnM m
def clnM : List Mem → Bool
 | [] => true
 | (_, x) :: t => clnB x && clnM t
end
theorem clnM_drop {m : List Mem} {j : Nat} (h : j < m.length) : clnM (m.drop j) = (clnB (m[j]).2 && clnM (m.drop (j + 1))) := by
 rw [List.drop_eq_getElem_cons h]
 rcases m[j] with ⟨k, x⟩
 rw [clnM]
set_option maxHeartbeats 8000000 in
set_option maxRecDepth 100000 in
theorem clean67_any (v : V) : ∀ (S : Nat → Prop) (cs : List Value) (w : World), v.lies false w S cs → (∀ x, S x → x < w.heap.size) → Calls Tryd.prog 67 #[.agg cs.toArray] w (BPost (clnB v) w) := by
 induction v using V.ind_v with
 | h k b i s l m ihl ihm =>
 intro S cs w hl hS
 rw [V.lies] at hl
 obtain ⟨al, cl, bl, ol, am, cm, bm, om, rfl, hk, hi, hs, hal, ham, hl1, hm1, _⟩ := hl
 have HM : Hid (liesM false w S m bm om) := hm1
 clear hl1 hm1
 have hml : m.length ≤ 9223372036854775807 := Nat.le_trans ham.le ham.max
 have B0 : Below w.heap.size w (w.alloc (.cells #[.int .i64 k, .bool b, .int .i64 i, .string s, .slice al l.length cl, .slice am m.length cm] 25)) := (Below.refl _ _).alloc (Nat.le_refl _) _
 have hb := heap_alloc_new w (.cells #[.int .i64 k, .bool b, .int .i64 i, .string s, .slice al l.length cl, .slice am m.length cm] 25)
 have hz0 := alloc_size w (.cells #[.int .i64 k, .bool b, .int .i64 i, .string s, .slice al l.length cl, .slice am m.length cm] 25)
 have c0 : (w.alloc (.cells #[.int .i64 k, .bool b, .int .i64 i, .string s, .slice al l.length cl, .slice am m.length cm] 25)).cell? ⟨w.heap.size, 0, none⟩ = some (.int .i64 k) := by rw [cell_of_block hb]; rfl
 have c5 : (w.alloc (.cells #[.int .i64 k, .bool b, .int .i64 i, .string s, .slice al l.length cl, .slice am m.length cm] 25)).cell? ⟨w.heap.size, 5, none⟩ = some (.slice am m.length cm) := by rw [cell_of_block hb]; rfl
 have HE : Hid (clnB (.mk k b i s l m) = (!(k == 0) && clnM m)) := by show _ = _; rw [clnB]
 generalize clnB (.mk k b i s l m) = RR at *
 by_cases hk0 : k = 0
 ·subst hk0
  have HF : Hid (RR = false) := by show _ = _; rw [HE.out]; rfl
  go_enter Tryd.func67, Tryd.ntmps67
  go_wp2_with fail
  go_ret
  exact ⟨by rw [HF.out]; rfl, B0⟩
 ·have yk : (k == 0) = false := beq_eq_false_iff_ne.2 hk0
  have HF : Hid (RR = clnM m) := by show _ = _; rw [HE.out, yk]; rfl
  clear HE
  go_enter Tryd.func67, Tryd.ntmps67
  go_wp2_with fail
  generalize (w.alloc (.cells #[.int .i64 k, .bool b, .int .i64 i, .string s, .slice al l.length cl, .slice am m.length cm] 25)) = w0 at *
  clear c0 c5
  go_loopw [11] (fun e wr => ∃ j : Nat, j ≤ m.length ∧ e = .int .i64 (j : Int) ∧ Below w0.heap.size w0 wr ∧ Hid (RR = clnM (m.drop j))) (fun e _ => m.length - (RowKit.intOf e).toNat)
  case atStart => exact ⟨0, by omega, rfl, Below.refl _ _, HF⟩
  case round =>
   obtain ⟨j, hj, rfl, bj, HJ⟩ := hrel
   have hzr := bj.size
   by_cases hjl : j < m.length
   ·have y1 : (j : Int) < m.length := by omega
    obtain ⟨hSb, hks, csj, hrow, hlj⟩ := liesM_get HM.out j hjl
    obtain rfl : am = some ⟨bm, om, none⟩ := ham.at_.resolve_left (by omega)
    have hk1 : ∀ x, S x → wr.heap[x]? = w.heap[x]? := fun x hx => (bj.block x (by have := hS x hx; omega)).trans (B0.block x (hS x hx))
    obtain ⟨ek, eb, ei, es, eal, enl, ecl, eam, enm, ecm, rfl⟩ := V.ten hlj
    obtain ⟨q, q0, q1, q2, q3, q4, q5⟩ := row7 (hrow.keep (hk1 _ hSb))
    have HD := hmk (HJ.out.trans (clnM_drop hjl))
    have IH := ihm m[j] (List.getElem_mem hjl) S
    generalize (m[j]).1 = key at *
    have na := heap_alloc_new wr (.cells #[.string key, .int .i64 ek, .bool eb, .int .i64 ei, .string es, .slice eal enl ecl, .slice eam enm ecm] 57)
    have ba : Below wr.heap.size wr (wr.alloc (.cells #[.string key, .int .i64 ek, .bool eb, .int .i64 ei, .string es, .slice eal enl ecl, .slice eam enm ecm] 57)) := (Below.refl _ _).alloc (Nat.le_refl _) _
    have a0 : (wr.alloc (.cells #[.string key, .int .i64 ek, .bool eb, .int .i64 ei, .string es, .slice eal enl ecl, .slice eam enm ecm] 57)).cell? ⟨wr.heap.size, 1, none⟩ = some (.int .i64 ek) := by rw [cell_of_block na]; rfl
    have a1 : (wr.alloc (.cells #[.string key, .int .i64 ek, .bool eb, .int .i64 ei, .string es, .slice eal enl ecl, .slice eam enm ecm] 57)).cell? ⟨wr.heap.size, 2, none⟩ = some (.bool eb) := by rw [cell_of_block na]; rfl
    have a2 : (wr.alloc (.cells #[.string key, .int .i64 ek, .bool eb, .int .i64 ei, .string es, .slice eal enl ecl, .slice eam enm ecm] 57)).cell? ⟨wr.heap.size, 3, none⟩ = some (.int .i64 ei) := by rw [cell_of_block na]; rfl
    have a3 : (wr.alloc (.cells #[.string key, .int .i64 ek, .bool eb, .int .i64 ei, .string es, .slice eal enl ecl, .slice eam enm ecm] 57)).cell? ⟨wr.heap.size, 4, none⟩ = some (.string es) := by rw [cell_of_block na]; rfl
    have a4 : (wr.alloc (.cells #[.string key, .int .i64 ek, .bool eb, .int .i64 ei, .string es, .slice eal enl ecl, .slice eam enm ecm] 57)).cell? ⟨wr.heap.size, 5, none⟩ = some (.slice eal enl ecl) := by rw [cell_of_block na]; rfl
    have a5 : (wr.alloc (.cells #[.string key, .int .i64 ek, .bool eb, .int .i64 ei, .string es, .slice eal enl ecl, .slice eam enm ecm] 57)).cell? ⟨wr.heap.size, 6, none⟩ = some (.slice eam enm ecm) := by rw [cell_of_block na]; rfl
    have IC := IH _ (wr.alloc (.cells #[.string key, .int .i64 ek, .bool eb, .int .i64 ei, .string es, .slice eal enl ecl, .slice eam enm ecm] 57)) (V.lies_keep (fun h => h) (fun x hx => (ba.block x (by have := hS x hx; omega)).trans (hk1 x hx)) (fun _ h => h) _ hlj) (fun x hx => by have := hS x hx; rw [alloc_size]; omega)
    generalize clnB (m[j]).2 = Z at *
    clear hlj hrow HJ IH hk1
    go_wp2_with fail
    refine IC.mono ?_
    rintro e w3 ⟨rfl, b3⟩
    clear IC
    have b4 : Below w0.heap.size w0 w3 := bj.trans ((ba.trans (b3.mono ba.size)).mono hzr)
    cases Z
    ·have HF : Hid (RR = false) := by show _ = _; rw [HD.out]; rfl
     go_wp2_with fail
     go_ret
     exact ⟨by rw [HF.out]; rfl, B0.trans (b4.mono (by omega))⟩
    ·have HF : Hid (RR = clnM (m.drop (j + 1))) := by show _ = _; rw [HD.out]; rfl
     go_wp2_with fail
     go_roundw
     case rel => exact ⟨j + 1, by omega, by go_num, b4, HF⟩
     case measure => simp [RowKit.intOf]; omega
   ·obtain rfl : j = m.length := by omega
    have y1 : ¬ (m.length : Int) < m.length := by omega
    have HF : Hid (RR = true) := by show _ = _; rw [HJ.out, List.drop_length, clnM]
    go_wp2_with fail
    go_ret
    exact ⟨by rw [HF.out]; rfl, B0.trans (bj.mono (by omega))⟩
set_option maxHeartbeats 8000000 in
set_option maxRecDepth 100000 in
theorem putin_any (v : V) (S : Nat → Prop) (cs : List Value) (w : World) (hc : clnB v = true) (hv : v.lies false w S cs) (hS : ∀ x, S x → x < w.heap.size) : Calls Tryd.prog 57 #[.agg cs.toArray] w (RpPost v S w) := by
 obtain ⟨ek, eb, ei, es, eal, enl, ecl, eam, enm, ecm, rfl⟩ := V.ten hv
 have B2 : Below w.heap.size w ((w.alloc (.cells #[.int .i64 ek, .bool eb, .int .i64 ei, .string es, .slice eal enl ecl, .slice eam enm ecm] 25)).alloc (.cells #[.int .i64 0, .bool false, .int .i64 0, .string ⟨#[]⟩, .slice none 0 0, .slice none 0 0] 25)) := two_below w _ _
 have hz2 : ((w.alloc (.cells #[.int .i64 ek, .bool eb, .int .i64 ei, .string es, .slice eal enl ecl, .slice eam enm ecm] 25)).alloc (.cells #[.int .i64 0, .bool false, .int .i64 0, .string ⟨#[]⟩, .slice none 0 0, .slice none 0 0] 25)).heap.size = w.heap.size + 2 := by rw [alloc_size, alloc_size]
 have h1 := alloc2_keep1 w (.cells #[.int .i64 ek, .bool eb, .int .i64 ei, .string es, .slice eal enl ecl, .slice eam enm ecm] 25) (.cells #[.int .i64 0, .bool false, .int .i64 0, .string ⟨#[]⟩, .slice none 0 0, .slice none 0 0] 25)
 have h2 := alloc2_new w (.cells #[.int .i64 ek, .bool eb, .int .i64 ei, .string es, .slice eal enl ecl, .slice eam enm ecm] 25) (.cells #[.int .i64 0, .bool false, .int .i64 0, .string ⟨#[]⟩, .slice none 0 0, .slice none 0 0] 25)
 have a0 : ((w.alloc (.cells #[.int .i64 ek, .bool eb, .int .i64 ei, .string es, .slice eal enl ecl, .slice eam enm ecm] 25)).alloc (.cells #[.int .i64 0, .bool false, .int .i64 0, .string ⟨#[]⟩, .slice none 0 0, .slice none 0 0] 25)).cell? ⟨w.heap.size, 0, none⟩ = some (.int .i64 ek) := by rw [cell_of_block h1]; rfl
 have a1 : ((w.alloc (.cells #[.int .i64 ek, .bool eb, .int .i64 ei, .string es, .slice eal enl ecl, .slice eam enm ecm] 25)).alloc (.cells #[.int .i64 0, .bool false, .int .i64 0, .string ⟨#[]⟩, .slice none 0 0, .slice none 0 0] 25)).cell? ⟨w.heap.size, 1, none⟩ = some (.bool eb) := by rw [cell_of_block h1]; rfl
 have a2 : ((w.alloc (.cells #[.int .i64 ek, .bool eb, .int .i64 ei, .string es, .slice eal enl ecl, .slice eam enm ecm] 25)).alloc (.cells #[.int .i64 0, .bool false, .int .i64 0, .string ⟨#[]⟩, .slice none 0 0, .slice none 0 0] 25)).cell? ⟨w.heap.size, 2, none⟩ = some (.int .i64 ei) := by rw [cell_of_block h1]; rfl
 have a3 : ((w.alloc (.cells #[.int .i64 ek, .bool eb, .int .i64 ei, .string es, .slice eal enl ecl, .slice eam enm ecm] 25)).alloc (.cells #[.int .i64 0, .bool false, .int .i64 0, .string ⟨#[]⟩, .slice none 0 0, .slice none 0 0] 25)).cell? ⟨w.heap.size, 3, none⟩ = some (.string es) := by rw [cell_of_block h1]; rfl
 have a4 : ((w.alloc (.cells #[.int .i64 ek, .bool eb, .int .i64 ei, .string es, .slice eal enl ecl, .slice eam enm ecm] 25)).alloc (.cells #[.int .i64 0, .bool false, .int .i64 0, .string ⟨#[]⟩, .slice none 0 0, .slice none 0 0] 25)).cell? ⟨w.heap.size, 4, none⟩ = some (.slice eal enl ecl) := by rw [cell_of_block h1]; rfl
 have a5 : ((w.alloc (.cells #[.int .i64 ek, .bool eb, .int .i64 ei, .string es, .slice eal enl ecl, .slice eam enm ecm] 25)).alloc (.cells #[.int .i64 0, .bool false, .int .i64 0, .string ⟨#[]⟩, .slice none 0 0, .slice none 0 0] 25)).cell? ⟨w.heap.size, 5, none⟩ = some (.slice eam enm ecm) := by rw [cell_of_block h1]; rfl
 go_enter Tryd.func57, Tryd.ntmps57
 go_wp2_with fail
 clear a0 a1 a2 a3 a4 a5
 generalize ((w.alloc (.cells #[.int .i64 ek, .bool eb, .int .i64 ei, .string es, .slice eal enl ecl, .slice eam enm ecm] 25)).alloc (.cells #[.int .i64 0, .bool false, .int .i64 0, .string ⟨#[]⟩, .slice none 0 0, .slice none 0 0] 25)) = w2 at *
 have CC := clean67_any v S _ w2 (V.lies_keep (fun h => h) (fun x hx => B2.block x (hS x hx)) (fun _ h => h) _ hv) (fun x hx => by have := hS x hx; omega)
 rw [hc] at CC
 refine CC.mono ?_
 rintro e w3 ⟨rfl, b3⟩
 clear CC
 have B3 := B2.trans (b3.mono (by omega))
 have hz3 := b3.size
 have g1 := (b3.block w.heap.size (by omega)).trans h1
 have g2 := (b3.block (w.heap.size + 1) (by omega)).trans h2
 have a0 : w3.cell? ⟨w.heap.size, 0, none⟩ = some (.int .i64 ek) := by rw [cell_of_block g1]; rfl
 have a1 : w3.cell? ⟨w.heap.size, 1, none⟩ = some (.bool eb) := by rw [cell_of_block g1]; rfl
 have a2 : w3.cell? ⟨w.heap.size, 2, none⟩ = some (.int .i64 ei) := by rw [cell_of_block g1]; rfl
 have a3 : w3.cell? ⟨w.heap.size, 3, none⟩ = some (.string es) := by rw [cell_of_block g1]; rfl
 have a4 : w3.cell? ⟨w.heap.size, 4, none⟩ = some (.slice eal enl ecl) := by rw [cell_of_block g1]; rfl
 have a5 : w3.cell? ⟨w.heap.size, 5, none⟩ = some (.slice eam enm ecm) := by rw [cell_of_block g1]; rfl
 have z0 : w3.cell? ⟨w.heap.size + 1, 0, none⟩ = some (.int .i64 0) := by rw [cell_of_block g2]; rfl
 have z1 : w3.cell? ⟨w.heap.size + 1, 1, none⟩ = some (.bool false) := by rw [cell_of_block g2]; rfl
 have z2 : w3.cell? ⟨w.heap.size + 1, 2, none⟩ = some (.int .i64 0) := by rw [cell_of_block g2]; rfl
 have z3 : w3.cell? ⟨w.heap.size + 1, 3, none⟩ = some (.string ⟨#[]⟩) := by rw [cell_of_block g2]; rfl
 have z4 : w3.cell? ⟨w.heap.size + 1, 4, none⟩ = some (.slice none 0 0) := by rw [cell_of_block g2]; rfl
 have z5 : w3.cell? ⟨w.heap.size + 1, 5, none⟩ = some (.slice none 0 0) := by rw [cell_of_block g2]; rfl
 have fz := frozen_of_block g2
 have HE := hmk (wo_fin (M := w.heap.size + 1) (S := S) (by omega) hS B3 (V.lies_keep (S' := fun y => S y ∨ (w.heap.size ≤ y ∧ y ≠ w.heap.size + 1 ∧ y < w3.heap.size)) (fun h => h) (fun x hx => B3.block x (hS x hx)) (fun x hx => .inl hx) _ hv))
 go_wp2_with fail
 (try simp only [Exit.inBlock, Exit.then])
 refine bodyPost_ret (v := .agg #[.int .i64 ek, .bool eb, .int .i64 ei, .string es, .slice eal enl ecl, .slice eam enm ecm]) ?_ rfl ?_
 rotate_left
 ·exact ⟨[.int .i64 ek, .bool eb, .int .i64 ei, .string es, .slice eal enl ecl, .slice eam enm ecm], rfl, HE.out.1, HE.out.2⟩
 ·rw [results_cell1 rfl]
  go_simp
def NwPost (p : V × Int) (w : World) (e : Ending) (w' : World) : Prop := ∃ cs : List Value, e = .returned (.tuple #[.agg cs.toArray, .int .i64 p.2]) ∧ p.1.lies false w' (New w w') cs ∧ Below w.heap.size w w'
def aplF (t p : V) : V × Int := if chkE t 32 = 0 then (if chkE p 32 = 0 then (if chkE (pchV t p) 32 = 0 then (pchV t p, 0) else (nullV, (chkE (pchV t p) 32 : Int))) else (nullV, (chkE p 32 : Int))) else (nullV, (chkE t 32 : Int))
theorem pch_wt2 {t p : V} (ht : Ok t) (hp : Ok p) : (pchV t p).wt ≤ 2228224 := by
 have h1 := pch_wt t p
 have h2 := mems_wt t
 have h3 := ht.wt
 have h4 := hp.wt
 omega
end Go.Proofs.YtjfldbmopjojdaaDoor
