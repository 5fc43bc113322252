/- joined: JgF JgG JlA -/
import Derived.Test.YtpmhdcmmlkjjmaaGreatDoorJgE
import Derived.Lib.SlBytesConst
import Derived.Shelf.Bytes.SlIndexAt
/- the two texts that must be read and written. -/
set_option linter.unusedSimpArgs false
set_option linter.unusedVariables false
set_option maxRecDepth 100000
namespace Go.Proofs.YtpmhdcmmlkjjmaaGreatDoor
open Go.RowKit Go.Lib
def liv1 : List UInt8 := [32, 123, 34, 98, 34, 58, 91, 49, 44, 45, 48, 44, 34, 120, 34, 93, 44, 34, 97, 34, 58, 123, 125, 125, 32]
def liv2 : List UInt8 := [91, 49, 44, 93]
def numV (i : Int) : V := .mk 2 false i ⟨#[]⟩ [] []
def livL : V := .mk 4 false 0 ⟨#[]⟩ [numV 1, numV 0, .mk 3 false 0 ⟨#[120]⟩ [] []] []
def livV : V := .mk 5 false 0 ⟨#[]⟩ [] [(⟨#[97]⟩, .mk 5 false 0 ⟨#[]⟩ [] []), (⟨#[98]⟩, livL)]
theorem liv1_par : parJ liv1 32 = (livV, -1, 0) := by kernel_rfl
theorem liv2_par : parJ liv2 32 = (nulV, 3, 32) := by kernel_rfl
theorem liv_txt : txtV livV = [123, 34, 97, 34, 58, 123, 125, 44, 34, 98, 34, 58, 91, 49, 44, 48, 44, 34, 120, 34, 93, 125] := by kernel_rfl
theorem liv_chk : chkE livV 32 = 0 := by
  have h := par_good (l := liv1) (z := 32) (by rw [liv1_par])
  rw [liv1_par] at h
  exact h.2.2.2.2.2.1
theorem liv_prF : prF livV 32 = (0, [123, 34, 97, 34, 58, 123, 125, 44, 34, 98, 34, 58, 91, 49, 44, 48, 44, 34, 120, 34, 93, 125]) := by
  have h := par_good (l := liv1) (z := 32) (by rw [liv1_par])
  rw [liv1_par] at h
  dsimp only at h
  rw [prF, if_neg (by simp [h.2.2.2.2.2.1]), liv_txt, if_neg (by decide)]
theorem byt_lit (w : World) (l : List UInt8) (cs : Array Value) (fz : Nat × Nat) (hc : cs = (byteCells l).toArray) (n : Nat) (hn : n = l.length) (hl : l.length ≤ maxLen) : Byt (w.alloc (.cells cs 5 fz)) (.slice (some ⟨w.heap.size, 0, none⟩) n n) l := by
  subst hc hn
  refine ⟨_, _, w.heap.size, 0, rfl, ⟨Nat.le_refl _, hl, .inr rfl, fun h => by cases h⟩, fun j hj => ⟨by rw [alloc_size]; omega, ?_⟩⟩
  rw [Nat.zero_add, cell_of_block (heap_alloc_new w _)]
  simp [byteCells, hj]
set_option maxHeartbeats 8000000 in
theorem alive_any (w : World) (t : Td w) (td : Tdl w) : Calls Tryz.prog 10 #[] w (BPost true w) := by
  have HB1 : Hid (Byt (w.alloc (.cells #[.int .u8 32, .int .u8 123, .int .u8 34, .int .u8 98, .int .u8 34, .int .u8 58, .int .u8 91, .int .u8 49, .int .u8 44, .int .u8 45, .int .u8 48, .int .u8 44, .int .u8 34, .int .u8 120, .int .u8 34, .int .u8 93, .int .u8 44, .int .u8 34, .int .u8 97, .int .u8 34, .int .u8 58, .int .u8 123, .int .u8 125, .int .u8 125, .int .u8 32] 5 (25, 26))) (.slice (some ⟨w.heap.size, 0, none⟩) 25 25) liv1) := byt_lit w liv1 _ _ (by rfl) 25 rfl (by decide)
  have bA : Below w.heap.size w (w.alloc (.cells #[.int .u8 32, .int .u8 123, .int .u8 34, .int .u8 98, .int .u8 34, .int .u8 58, .int .u8 91, .int .u8 49, .int .u8 44, .int .u8 45, .int .u8 48, .int .u8 44, .int .u8 34, .int .u8 120, .int .u8 34, .int .u8 93, .int .u8 44, .int .u8 34, .int .u8 97, .int .u8 34, .int .u8 58, .int .u8 123, .int .u8 125, .int .u8 125, .int .u8 32] 5 (25, 26))) := (Below.refl _ _).alloc (Nat.le_refl _) _
  have zA := alloc_size w (.cells #[.int .u8 32, .int .u8 123, .int .u8 34, .int .u8 98, .int .u8 34, .int .u8 58, .int .u8 91, .int .u8 49, .int .u8 44, .int .u8 45, .int .u8 48, .int .u8 44, .int .u8 34, .int .u8 120, .int .u8 34, .int .u8 93, .int .u8 44, .int .u8 34, .int .u8 97, .int .u8 34, .int .u8 58, .int .u8 123, .int .u8 125, .int .u8 125, .int .u8 32] 5 (25, 26))
  have CP := parse_any liv1 _ 32 _ HB1.out.bys (t.below bA (by have := t.z; omega) bA.size) ⟨by omega, by omega⟩ (by decide)
  rw [liv1_par] at CP
  have CPH := hmk CP
  have HT : Hid (∀ W, Below w.heap.size w W → Td W ∧ Tdl W) := fun W h => ⟨t.below h (by have := t.z; omega) h.size, td.below h (by have := td.z; omega) h.size⟩
  clear CP t td HB1
  have hcc1 : (convert 28 28 (.slice (some ⟨w.heap.size, 0, none⟩) 25 25)).run Tryz.prog (w.alloc (.cells #[.int .u8 32, .int .u8 123, .int .u8 34, .int .u8 98, .int .u8 34, .int .u8 58, .int .u8 91, .int .u8 49, .int .u8 44, .int .u8 45, .int .u8 48, .int .u8 44, .int .u8 34, .int .u8 120, .int .u8 34, .int .u8 93, .int .u8 44, .int .u8 34, .int .u8 97, .int .u8 34, .int .u8 58, .int .u8 123, .int .u8 125, .int .u8 125, .int .u8 32] 5)) = .ok (.slice (some ⟨w.heap.size, 0, none⟩) 25 25) (w.alloc (.cells #[.int .u8 32, .int .u8 123, .int .u8 34, .int .u8 98, .int .u8 34, .int .u8 58, .int .u8 91, .int .u8 49, .int .u8 44, .int .u8 45, .int .u8 48, .int .u8 44, .int .u8 34, .int .u8 120, .int .u8 34, .int .u8 93, .int .u8 44, .int .u8 34, .int .u8 97, .int .u8 34, .int .u8 58, .int .u8 123, .int .u8 125, .int .u8 125, .int .u8 32] 5 (25, 26))) := run_convert_bytes_const w 28 5 _ 25 25 Tryz.underlying28 Tryz.underlying5
  go_enter Tryz.func10, Tryz.ntmps10
  go_wp2_with fail
  refine CPH.out.mono ?_
  rintro e w1 ⟨cs, rfl, hl1, b1⟩
  dsimp only at hl1
  have HL1 := hmk hl1
  obtain ⟨k, b, i, s, al, nl, cl, am, nm, cm, rfl⟩ := V.ten hl1
  clear hl1 CPH
  have z1 := b1.size
  have B1 := bA.trans (b1.mono (by omega))
  have bC : Below w1.heap.size w1 (w1.alloc (.cells #[.int .i64 k, .bool b, .int .i64 i, .string s, .slice al nl cl, .slice am nm cm] 25)) := (Below.refl _ _).alloc (Nat.le_refl _) _
  have zC := alloc_size w1 (.cells #[.int .i64 k, .bool b, .int .i64 i, .string s, .slice al nl cl, .slice am nm cm] 25)
  have B2 := B1.trans (bC.mono (by omega))
  have N8 := heap_alloc_new w1 (.cells #[.int .i64 k, .bool b, .int .i64 i, .string s, .slice al nl cl, .slice am nm cm] 25)
  have a0 := cell_of_block N8 0
  have a1 := cell_of_block N8 1
  have a2 := cell_of_block N8 2
  have a3 := cell_of_block N8 3
  have a4 := cell_of_block N8 4
  have a5 := cell_of_block N8 5
  simp only [List.getElem?_toArray, List.getElem?_cons_zero, List.getElem?_cons_succ] at a0 a1 a2 a3 a4 a5
  have CR := print_any livV 32 _ _ (w1.alloc (.cells #[.int .i64 k, .bool b, .int .i64 i, .string s, .slice al nl cl, .slice am nm cm] 25)) (HT.out _ B2).2 (V.lies_keep (fun h => h) (fun x hx => bC.block x hx.2) (fun _ h => h) _ HL1.out) (fun x hx => by rw [zC]; have := hx.2; omega) (by have := (chkE_pr (depth := 32) liv_chk HL1.out).2; omega)
  unfold PrPost at CR
  rw [liv_prF] at CR
  have CRH := hmk CR
  clear CR HL1 bC N8 bA b1
  go_wp2_with fail
  refine CRH.out.mono ?_
  rintro e w3 ⟨bv, B, rfl, ho, _, b3⟩
  have hbv := byt_ownB ho
  obtain ⟨ua, un, uc, rfl⟩ : ∃ a n c, bv = .slice a n c := by
    obtain ⟨ao, cap, b, o, rfl, _⟩ := hbv
    exact ⟨_, _, _, rfl⟩
  have z3 := b3.size
  have B3 := B2.trans (b3.mono (by omega))
  have HB2 : Hid (Byt (w3.alloc (.cells #[.int .u8 91, .int .u8 49, .int .u8 44, .int .u8 93] 5 (4, 5))) (.slice (some ⟨w3.heap.size, 0, none⟩) 4 4) liv2) := byt_lit w3 liv2 _ _ (by rfl) 4 rfl (by decide)
  have bD : Below w3.heap.size w3 (w3.alloc (.cells #[.int .u8 91, .int .u8 49, .int .u8 44, .int .u8 93] 5 (4, 5))) := (Below.refl _ _).alloc (Nat.le_refl _) _
  have zD := alloc_size w3 (.cells #[.int .u8 91, .int .u8 49, .int .u8 44, .int .u8 93] 5 (4, 5))
  have B4 := B3.trans (bD.mono (by omega))
  have CQ := parse_any liv2 _ 32 _ HB2.out.bys (HT.out _ B4).1 ⟨by omega, by omega⟩ (by decide)
  rw [liv2_par] at CQ
  have CQH := hmk CQ
  have HBV := hmk (hbv.keep bD)
  have hcc2 : (convert 28 28 (.slice (some ⟨w3.heap.size, 0, none⟩) 4 4)).run Tryz.prog (w3.alloc (.cells #[.int .u8 91, .int .u8 49, .int .u8 44, .int .u8 93] 5)) = .ok (.slice (some ⟨w3.heap.size, 0, none⟩) 4 4) (w3.alloc (.cells #[.int .u8 91, .int .u8 49, .int .u8 44, .int .u8 93] 5 (4, 5))) := run_convert_bytes_const w3 28 5 _ 4 4 Tryz.underlying28 Tryz.underlying5
  clear CQ HB2 CRH ho hbv a0 a1 a2 a3 a4 a5 bD
  go_wp2_with fail
  refine CQH.out.mono ?_
  rintro e w5 ⟨ds, rfl, hl5, b5⟩
  dsimp only at hl5
  obtain ⟨k', b', i', s', al', nl', cl', am', nm', cm', rfl⟩ := V.ten hl5
  have z5 := b5.size
  have B5 := B4.trans (b5.mono (by omega))
  have bE : Below w5.heap.size w5 (w5.alloc (.cells #[.int .i64 k', .bool b', .int .i64 i', .string s', .slice al' nl' cl', .slice am' nm' cm'] 25)) := (Below.refl _ _).alloc (Nat.le_refl _) _
  have B6 := hmk (B5.trans (bE.mono (by omega)))
  have hcv := ((HBV.out.keep b5).bys).conv bE
  clear CQH hl5 HBV b5 B5 B4 B3 B2 B1 bE HT
  go_wp2_with fail
  go_ret
  exact ⟨rfl, B6.out⟩
end Go.Proofs.YtpmhdcmmlkjjmaaGreatDoor
/- JsonCanon: the law's walk. -/
set_option maxRecDepth 100000
namespace Go.Proofs.YtpmhdcmmlkjjmaaGreatDoor
open Go.RowKit Go.Lib
theorem par_back {v : V} {z : Int} (h0 : 0 ≤ z) (h1 : z ≤ 40) (ho : okD z.toNat v 0) (hn : ndV v ≤ 65536) (hl : (txtV v).length ≤ 1048576) : parJ (txtV v) z = (v, -1, 0) :=
  parJ_ok (by omega) (by omega) (who_back ho hn)
end Go.Proofs.YtpmhdcmmlkjjmaaGreatDoor
/- bytes.Cut at a line's end. -/
set_option maxRecDepth 100000
namespace Go.Proofs
open Go.Shelf Go.RowKit
def Tryz.lays187_ren : Go.Shelf.Ren := ⟨fun | 187 => 65 | 255 => 91 | n => n, fun | 3 => 3 | 5 => 5 | 37 => 28 | n => n, fun | n => n⟩
theorem Tryz.lays187 : Go.Proofs.Lays.n187 Tryz.prog Tryz.lays187_ren := {
  mixed := by kernel_rfl
  f187 := Tryz.func65.trans (congrArg some (by kernel_rfl))
  f255 := Tryz.func91.trans (congrArg some (by kernel_rfl))
  t3 := Tryz.underlying3
  a3 := Tryz.isAgg3
  z3 := Tryz.sizeOf3
  v3 := Tryz.zeroValue3
  t5 := Tryz.underlying5
  a5 := Tryz.isAgg5
  z5 := Tryz.sizeOf5
  v5 := Tryz.zeroValue5
  t37 := Tryz.underlying28
  a37 := Tryz.isAgg28
  z37 := Tryz.sizeOf28
  v37 := Tryz.zeroValue28 }
namespace YtpmhdcmmlkjjmaaGreatDoor
open Go.Lib
def lineJ (l : List UInt8) : List UInt8 := l.takeWhile fun c => c != 10
def restJ (l : List UInt8) : List UInt8 := (l.dropWhile fun c => c != 10).tail
theorem ix_cases : ∀ l : List UInt8, (∃ i : Nat, indexByte l 10 = (i : Int) ∧ i < l.length ∧ lineJ l = l.take i ∧ restJ l = l.drop (i + 1)) ∨ (indexByte l 10 = -1 ∧ lineJ l = l ∧ restJ l = [])
  | [] => .inr ⟨rfl, rfl, rfl⟩
  | b :: l => by
    rw [indexByte]
    by_cases h : b = 10
    · subst h
      left
      refine ⟨0, by simp, by simp, by simp [lineJ], by simp [restJ]⟩
    · have hb : (b == 10) = false := by simp [h]
      have hn : (b != 10) = true := by simp [h]
      have e1 : lineJ (b :: l) = b :: lineJ l := by simp [lineJ, List.takeWhile_cons, hn]
      have e2 : restJ (b :: l) = restJ l := by simp [restJ, List.dropWhile_cons, hn]
      rw [e1, e2]
      rcases ix_cases l with ⟨i, h1, h2, h3, h4⟩ | ⟨h1, h2, h3⟩
      · left
        refine ⟨i + 1, ?_, by simp; omega, by rw [h3]; rfl, by rw [h4]; rfl⟩
        rw [h1]
        simp only [hb]
        simp
        try omega
      · right
        refine ⟨?_, by rw [h2], h3⟩
        rw [h1]
        simp [hb]
theorem rest_len {l : List UInt8} (h : l ≠ []) : (restJ l).length < l.length := by
  rcases ix_cases l with ⟨i, _, h2, _, h4⟩ | ⟨_, _, h3⟩
  · rw [h4, List.length_drop]; omega
  · rw [h3]; exact List.length_pos_iff.2 h
theorem line_len (l : List UInt8) : (lineJ l).length ≤ l.length := (List.takeWhile_prefix _).length_le
theorem bytesOf_map (l : List UInt8) : Lib.bytesOf (l.map fun c => (c.toNat : Int)) = l := by
  unfold Lib.bytesOf
  rw [List.map_map]
  conv => rhs; rw [← List.map_id l]
  refine List.map_congr_left fun c _ => ?_
  simp
theorem ixb_bytes (l : List UInt8) (b o cap : Nat) (w : World) (hc : ∀ (j : Nat) (h : j < l.length), b < w.heap.size ∧ w.cell? ⟨b, o + j, none⟩ = some (.int .u8 ((l[j]).toNat : Int))) :
    Calls Tryz.prog 65 #[.slice (some ⟨b, o, none⟩) l.length cap, .int .u8 10] w fun e w' => e = .returned (.int .i64 (indexByte l 10)) ∧ w' = w := by
  have h := Any.bytes_IndexByte_at Tryz.lays187 ⟨b, o, none⟩ l.length cap (l.map fun c => (c.toNat : Int)) 10 w (by simp) (fun i hi => by
    rw [Go.WideShapes.add_plain, (hc i hi).2]
    simp [List.getD, hi])
  rw [bytesOf_map] at h
  exact h
set_option maxHeartbeats 4000000 in
theorem index_bytes (l : List UInt8) (b o cap g : Nat) (w : World) (hl : l.length ≤ 140737488355328) (hc : ∀ (j : Nat) (h : j < l.length), b < w.heap.size ∧ w.cell? ⟨b, o + j, none⟩ = some (.int .u8 ((l[j]).toNat : Int))) (hg : w.cell? ⟨g, 0, none⟩ = some (.int .u8 10)) :
    Calls Tryz.prog 46 #[.slice (some ⟨b, o, none⟩) l.length cap, .slice (some ⟨g, 0, none⟩) 1 1] w fun e w' => e = .returned (.int .i64 (indexByte l 10)) ∧ w' = w := by
  have C := hmk (ixb_bytes l b o cap w hc)
  clear hc
  go_enter Tryz.func46, Tryz.ntmps46
  go_wp2_with fail
  refine C.out.mono ?_
  rintro e w1 ⟨rfl, hw⟩
  subst hw
  go_wp2_with fail
  go_ret
  exact ⟨rfl, rfl⟩
set_option maxHeartbeats 1000000 in
theorem slB_hi (a : Option Addr) (n c b o t : Nat) (h : Headed a n c b o) (htn : t ≤ n) : (∀ W, (Instr.slice 28 (.slice a n c) none (some (.int .i64 (t : Int))) none).run Tryz.prog W = .ok (.slice a t c) W) ∧ Headed a t c b o := by
  have hle := h.le
  have hmx := h.max
  have h1 : (0 : Int) ≤ t := by omega
  have h3 : (t : Int) ≤ c := by omega
  refine ⟨fun W => ?_, ⟨by omega, hmx, h.at_.elim (fun e => .inl (by omega)) .inr, h.nil⟩⟩
  go_simp
set_option maxHeartbeats 1000000 in
theorem slB_lo (a : Option Addr) (n c b o i : Nat) (h : Headed a n c b o) (hin : i ≤ n) : ∃ a' c', (∀ W, (Instr.slice 28 (.slice a n c) (some (.int .i64 (i : Int))) none none).run Tryz.prog W = .ok (.slice a' (n - i) c') W) ∧ Headed a' (n - i) c' b (o + i * 1) := by
  have hle := h.le
  have hmx := h.max
  have h1 : (0 : Int) ≤ i := by omega
  have h2 : (i : Int) ≤ n := by omega
  have h3 : (i : Int) ≤ c := by omega
  by_cases hc : c = i
  · refine ⟨a, 0, fun W => ?_, ⟨by omega, Nat.zero_le _, .inl (by omega), fun _ => rfl⟩⟩
    go_simp
    all_goals (intro h; omega)
  · refine ⟨a.map (fun x : Addr => x.add (i * 1)), c - i, fun W => ?_, hd_add h hin (Nat.le_refl _) hc⟩
    go_simp
    all_goals (try (first | rfl | omega))
end YtpmhdcmmlkjjmaaGreatDoor
end Go.Proofs
