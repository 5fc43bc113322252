/- joined: JgF JgG JmG JlA -/
import Derived.Test.YtpmhdcmmlkjjmaaGreatDoorJgE
import Derived.Lib.SlBytesConst
import Derived.Shelf.Bytes.SlIndexAt
/- the two texts that must be read and written. -/
set_option linter.unusedSimpArgs false
set_option linter.unusedVariables false
set_option maxRecDepth 100000
namespace Go.Proofs.YtpmhdcmmlkjjmaaGreatDoor
open Go.RowKit Go.Lib
def liv1 : List UInt8 := [32, 123, 34, 98, 34, 58, 91, 49, 44, 45, 48, 44, 34, 120, 34, 93, 44, 34, 97, 34, 58, 123, 125, 125, 32]
def liv2 : List UInt8 := [91, 49, 44, 93]
def numV (i : Int) : V := .mk 2 false i ⟨#[]⟩ [] []
def livL : V := .mk 4 false 0 ⟨#[]⟩ [numV 1, numV 0, .mk 3 false 0 ⟨#[120]⟩ [] []] []
def livV : V := .mk 5 false 0 ⟨#[]⟩ [] [(⟨#[97]⟩, .mk 5 false 0 ⟨#[]⟩ [] []), (⟨#[98]⟩, livL)]
theorem liv1_par : parJ liv1 32 = (livV, -1, 0) := by kernel_rfl
theorem liv2_par : parJ liv2 32 = (nulV, 3, 32) := by kernel_rfl
theorem liv_txt : txtV livV = [123, 34, 97, 34, 58, 123, 125, 44, 34, 98, 34, 58, 91, 49, 44, 48, 44, 34, 120, 34, 93, 125] := by kernel_rfl
theorem liv_chk : chkE livV 32 = 0 := by
  have h := par_good (l := liv1) (z := 32) (by rw [liv1_par])
  rw [liv1_par] at h
  exact h.2.2.2.2.2.1
theorem liv_prF : prF livV 32 = (0, [123, 34, 97, 34, 58, 123, 125, 44, 34, 98, 34, 58, 91, 49, 44, 48, 44, 34, 120, 34, 93, 125]) := by
  have h := par_good (l := liv1) (z := 32) (by rw [liv1_par])
  rw [liv1_par] at h
  dsimp only at h
  rw [prF, if_neg (by simp [h.2.2.2.2.2.1]), liv_txt, if_neg (by decide)]
theorem byt_lit (w : World) (l : List UInt8) (cs : Array Value) (fz : Nat × Nat) (hc : cs = (byteCells l).toArray) (n : Nat) (hn : n = l.length) (hl : l.length ≤ maxLen) : Byt (w.alloc (.cells cs 5 fz)) (.slice (some ⟨w.heap.size, 0, none⟩) n n) l := by
  subst hc hn
  refine ⟨_, _, w.heap.size, 0, rfl, ⟨Nat.le_refl _, hl, .inr rfl, fun h => by cases h⟩, fun j hj => ⟨by rw [alloc_size]; omega, ?_⟩⟩
  rw [Nat.zero_add, cell_of_block (heap_alloc_new w _)]
  simp [byteCells, hj]
set_option maxHeartbeats 8000000 in
theorem alive_any (w : World) (t : Td w) (td : Tdl w) : Calls Tryz.prog 10 #[] w (BPost true w) := by
  have HB1 : Hid (Byt (w.alloc (.cells #[.int .u8 32, .int .u8 123, .int .u8 34, .int .u8 98, .int .u8 34, .int .u8 58, .int .u8 91, .int .u8 49, .int .u8 44, .int .u8 45, .int .u8 48, .int .u8 44, .int .u8 34, .int .u8 120, .int .u8 34, .int .u8 93, .int .u8 44, .int .u8 34, .int .u8 97, .int .u8 34, .int .u8 58, .int .u8 123, .int .u8 125, .int .u8 125, .int .u8 32] 5 (25, 26))) (.slice (some ⟨w.heap.size, 0, none⟩) 25 25) liv1) := byt_lit w liv1 _ _ (by rfl) 25 rfl (by decide)
  have bA : Below w.heap.size w (w.alloc (.cells #[.int .u8 32, .int .u8 123, .int .u8 34, .int .u8 98, .int .u8 34, .int .u8 58, .int .u8 91, .int .u8 49, .int .u8 44, .int .u8 45, .int .u8 48, .int .u8 44, .int .u8 34, .int .u8 120, .int .u8 34, .int .u8 93, .int .u8 44, .int .u8 34, .int .u8 97, .int .u8 34, .int .u8 58, .int .u8 123, .int .u8 125, .int .u8 125, .int .u8 32] 5 (25, 26))) := (Below.refl _ _).alloc (Nat.le_refl _) _
  have zA := alloc_size w (.cells #[.int .u8 32, .int .u8 123, .int .u8 34, .int .u8 98, .int .u8 34, .int .u8 58, .int .u8 91, .int .u8 49, .int .u8 44, .int .u8 45, .int .u8 48, .int .u8 44, .int .u8 34, .int .u8 120, .int .u8 34, .int .u8 93, .int .u8 44, .int .u8 34, .int .u8 97, .int .u8 34, .int .u8 58, .int .u8 123, .int .u8 125, .int .u8 125, .int .u8 32] 5 (25, 26))
  have CP := parse_any liv1 _ 32 _ HB1.out.bys (t.below bA (by have := t.z; omega) bA.size) ⟨by omega, by omega⟩ (by decide)
  rw [liv1_par] at CP
  have CPH := hmk CP
  have HT : Hid (∀ W, Below w.heap.size w W → Td W ∧ Tdl W) := fun W h => ⟨t.below h (by have := t.z; omega) h.size, td.below h (by have := td.z; omega) h.size⟩
  clear CP t td HB1
  have hcc1 : (convert 28 28 (.slice (some ⟨w.heap.size, 0, none⟩) 25 25)).run Tryz.prog (w.alloc (.cells #[.int .u8 32, .int .u8 123, .int .u8 34, .int .u8 98, .int .u8 34, .int .u8 58, .int .u8 91, .int .u8 49, .int .u8 44, .int .u8 45, .int .u8 48, .int .u8 44, .int .u8 34, .int .u8 120, .int .u8 34, .int .u8 93, .int .u8 44, .int .u8 34, .int .u8 97, .int .u8 34, .int .u8 58, .int .u8 123, .int .u8 125, .int .u8 125, .int .u8 32] 5)) = .ok (.slice (some ⟨w.heap.size, 0, none⟩) 25 25) (w.alloc (.cells #[.int .u8 32, .int .u8 123, .int .u8 34, .int .u8 98, .int .u8 34, .int .u8 58, .int .u8 91, .int .u8 49, .int .u8 44, .int .u8 45, .int .u8 48, .int .u8 44, .int .u8 34, .int .u8 120, .int .u8 34, .int .u8 93, .int .u8 44, .int .u8 34, .int .u8 97, .int .u8 34, .int .u8 58, .int .u8 123, .int .u8 125, .int .u8 125, .int .u8 32] 5 (25, 26))) := run_convert_bytes_const w 28 5 _ 25 25 Tryz.underlying28 Tryz.underlying5
  go_enter Tryz.func10, Tryz.ntmps10
  go_wp2_with fail
  refine CPH.out.mono ?_
  rintro e w1 ⟨cs, rfl, hl1, b1⟩
  dsimp only at hl1
  have HL1 := hmk hl1
  obtain ⟨k, b, i, s, al, nl, cl, am, nm, cm, rfl⟩ := V.ten hl1
  clear hl1 CPH
  have z1 := b1.size
  have B1 := bA.trans (b1.mono (by omega))
  have bC : Below w1.heap.size w1 (w1.alloc (.cells #[.int .i64 k, .bool b, .int .i64 i, .string s, .slice al nl cl, .slice am nm cm] 25)) := (Below.refl _ _).alloc (Nat.le_refl _) _
  have zC := alloc_size w1 (.cells #[.int .i64 k, .bool b, .int .i64 i, .string s, .slice al nl cl, .slice am nm cm] 25)
  have B2 := B1.trans (bC.mono (by omega))
  have N8 := heap_alloc_new w1 (.cells #[.int .i64 k, .bool b, .int .i64 i, .string s, .slice al nl cl, .slice am nm cm] 25)
  have a0 := cell_of_block N8 0
  have a1 := cell_of_block N8 1
  have a2 := cell_of_block N8 2
  have a3 := cell_of_block N8 3
  have a4 := cell_of_block N8 4
  have a5 := cell_of_block N8 5
  simp only [List.getElem?_toArray, List.getElem?_cons_zero, List.getElem?_cons_succ] at a0 a1 a2 a3 a4 a5
  have CR := print_any livV 32 _ _ (w1.alloc (.cells #[.int .i64 k, .bool b, .int .i64 i, .string s, .slice al nl cl, .slice am nm cm] 25)) (HT.out _ B2).2 (V.lies_keep (fun h => h) (fun x hx => bC.block x hx.2) (fun _ h => h) _ HL1.out) (fun x hx => by rw [zC]; have := hx.2; omega) (by have := (chkE_pr (depth := 32) liv_chk HL1.out).2; omega)
  unfold PrPost at CR
  rw [liv_prF] at CR
  have CRH := hmk CR
  clear CR HL1 bC N8 bA b1
  go_wp2_with fail
  refine CRH.out.mono ?_
  rintro e w3 ⟨bv, B, rfl, ho, _, b3⟩
  have hbv := byt_ownB ho
  obtain ⟨ua, un, uc, rfl⟩ : ∃ a n c, bv = .slice a n c := by
    obtain ⟨ao, cap, b, o, rfl, _⟩ := hbv
    exact ⟨_, _, _, rfl⟩
  have z3 := b3.size
  have B3 := B2.trans (b3.mono (by omega))
  have HB2 : Hid (Byt (w3.alloc (.cells #[.int .u8 91, .int .u8 49, .int .u8 44, .int .u8 93] 5 (4, 5))) (.slice (some ⟨w3.heap.size, 0, none⟩) 4 4) liv2) := byt_lit w3 liv2 _ _ (by rfl) 4 rfl (by decide)
  have bD : Below w3.heap.size w3 (w3.alloc (.cells #[.int .u8 91, .int .u8 49, .int .u8 44, .int .u8 93] 5 (4, 5))) := (Below.refl _ _).alloc (Nat.le_refl _) _
  have zD := alloc_size w3 (.cells #[.int .u8 91, .int .u8 49, .int .u8 44, .int .u8 93] 5 (4, 5))
  have B4 := B3.trans (bD.mono (by omega))
  have CQ := parse_any liv2 _ 32 _ HB2.out.bys (HT.out _ B4).1 ⟨by omega, by omega⟩ (by decide)
  rw [liv2_par] at CQ
  have CQH := hmk CQ
  have HBV := hmk (hbv.keep bD)
  have hcc2 : (convert 28 28 (.slice (some ⟨w3.heap.size, 0, none⟩) 4 4)).run Tryz.prog (w3.alloc (.cells #[.int .u8 91, .int .u8 49, .int .u8 44, .int .u8 93] 5)) = .ok (.slice (some ⟨w3.heap.size, 0, none⟩) 4 4) (w3.alloc (.cells #[.int .u8 91, .int .u8 49, .int .u8 44, .int .u8 93] 5 (4, 5))) := run_convert_bytes_const w3 28 5 _ 4 4 Tryz.underlying28 Tryz.underlying5
  clear CQ HB2 CRH ho hbv a0 a1 a2 a3 a4 a5 bD
  go_wp2_with fail
  refine CQH.out.mono ?_
  rintro e w5 ⟨ds, rfl, hl5, b5⟩
  dsimp only at hl5
  obtain ⟨k', b', i', s', al', nl', cl', am', nm', cm', rfl⟩ := V.ten hl5
  have z5 := b5.size
  have B5 := B4.trans (b5.mono (by omega))
  have bE : Below w5.heap.size w5 (w5.alloc (.cells #[.int .i64 k', .bool b', .int .i64 i', .string s', .slice al' nl' cl', .slice am' nm' cm'] 25)) := (Below.refl _ _).alloc (Nat.le_refl _) _
  have B6 := hmk (B5.trans (bE.mono (by omega)))
  have hcv := ((HBV.out.keep b5).bys).conv bE
  clear CQH hl5 HBV b5 B5 B4 B3 B2 B1 bE HT
  go_wp2_with fail
  go_ret
  exact ⟨rfl, B6.out⟩
end Go.Proofs.YtpmhdcmmlkjjmaaGreatDoor
/- JsonCanon: the law's walk. -/
set_option maxRecDepth 100000
namespace Go.Proofs.YtpmhdcmmlkjjmaaGreatDoor
open Go.RowKit Go.Lib
theorem par_back {v : V} {z : Int} (h0 : 0 ≤ z) (h1 : z ≤ 40) (ho : okD z.toNat v 0) (hn : ndV v ≤ 65536) (hl : (txtV v).length ≤ 1048576) : parJ (txtV v) z = (v, -1, 0) :=
  parJ_ok (by omega) (by omega) (who_back ho hn)
end Go.Proofs.YtpmhdcmmlkjjmaaGreatDoor
/- what Check lets by: plain. -/
set_option maxRecDepth 100000
namespace Go.Proofs.YtpmhdcmmlkjjmaaGreatDoor
open Go.RowKit Go.Lib
mutual
/-- every number fits -/
def inV : V → Prop
  | .mk _ _ i _ l m => In64 i ∧ inL l ∧ inM m
def inL : List V → Prop
  | [] => True
  | x :: t => inV x ∧ inL t
def inM : List Mem → Prop
  | [] => True
  | (_, x) :: t => inV x ∧ inM t
end
theorem inL_iff : ∀ {l : List V}, inL l ↔ ∀ x ∈ l, inV x
  | [] => by simp [inL]
  | x :: t => by rw [inL, inL_iff]; simp
theorem inM_iff : ∀ {l : List Mem}, inM l ↔ ∀ x ∈ l, inV x.2
  | [] => by simp [inM]
  | (k, x) :: t => by rw [inM, inM_iff]; simp
theorem lies_in (v : V) : ∀ {R : Bool} {w : World} {S : Nat → Prop} {cs : List Value}, v.lies R w S cs → inV v := by
  induction v using V.ind_v with
  | h k b i s l m ihl ihm =>
  intro R w S cs hl
  rw [V.lies] at hl
  obtain ⟨al, cl, bl, ol, am, cm, bm, om, rfl, hk, hi, hs, hal, ham, hl1, hm1, _⟩ := hl
  rw [inV]
  refine ⟨hi, inL_iff.2 fun x hx => ?_, inM_iff.2 fun x hx => ?_⟩
  · obtain ⟨j, hj, rfl⟩ := List.getElem_of_mem hx
    obtain ⟨_, cs, _, h⟩ := liesL_get hl1 j hj
    exact ihl _ (List.getElem_mem hj) h
  · obtain ⟨j, hj, rfl⟩ := List.getElem_of_mem hx
    obtain ⟨_, _, cs, _, h⟩ := liesM_get hm1 j hj
    exact ihm _ (List.getElem_mem hj) h
theorem entF_inv {D n y d lv : Nat} {g : Bool} {z : Nat} (h : (entF D n y d lv g z).1 = 0) : n < 65536 ∧ lv ≤ D ∧ g = true ∧ y + z ≤ 1048576 ∧ entF D n y d lv g z = (0, n + 1, y + z, max d lv) := by
  unfold entF at *
  split at h
  · simp at h
  · split at h
    · simp at h
    · split at h
      · simp at h
      · split at h
        · simp at h
        · rename_i h1 h2 h3 h4
          refine ⟨by omega, by omega, by simpa using h3, by omega, ?_⟩
          rw [if_neg h1, if_neg h2, if_neg h3, if_neg h4]
mutual
theorem chk_inv (D : Nat) : ∀ (v : V) (lv : Nat) (st : St), inV v → (chkV D v lv st).1 = 0 → okD D v lv ∧ (chkV D v lv st).2.1 = st.1 + ndV v ∧ (chkV D v lv st).2.2.1 = st.2.1 + byV v ∧ (chkV D v lv st).2.2.2 = max st.2.2 (lv + htV v) ∧ st.1 + ndV v ≤ 65536
  | .mk k b i s l m, lv, st, hi, h => by
    rw [inV] at hi
    rw [chkV] at h ⊢
    dsimp only at h ⊢
    split at h
    · rename_i he
      rw [if_pos he]
      obtain ⟨e1, e2, e3, e4, e5⟩ := entF_inv he
      rw [e5] at h ⊢
      dsimp only at h ⊢
      split at h
      · rename_i hq
        rw [if_pos hq]
        obtain ⟨a1, a2, a3, a4, a5⟩ := chkl_inv D l lv _ hi.2.1 (by dsimp only; omega) (by dsimp only; omega) hq
        obtain ⟨b1, b2, b3, b4, b5⟩ := chkm_inv D m lv _ hi.2.2 (by rw [a4]; dsimp only; omega) (by rw [a2]; omega) h
        dsimp only at a2 a3 a4 a5
        refine ⟨?_, ?_, ?_, ?_, ?_⟩
        · rw [okD]; exact ⟨e2, e3, hi.1, a1, b1⟩
        · rw [b2, a2, ndV]; omega
        · rw [b3, a3, byV]; omega
        · rw [b4, a4, htV]; omega
        · rw [ndV]; rw [a2] at b5; omega
      · rename_i hq; exact absurd h hq
    · rename_i he; exact absurd h he
theorem chkl_inv (D : Nat) : ∀ (l : List V) (lv : Nat) (st : St), inL l → lv ≤ st.2.2 → st.1 ≤ 65536 → (chkL D l (lv + 1) st).1 = 0 → okDL D l (lv + 1) ∧ (chkL D l (lv + 1) st).2.1 = st.1 + ndL l ∧ (chkL D l (lv + 1) st).2.2.1 = st.2.1 + byL l ∧ (chkL D l (lv + 1) st).2.2.2 = max st.2.2 (lv + htL l) ∧ st.1 + ndL l ≤ 65536
  | [], lv, st, hi, hd, hn, h => by
    rw [chkL, okDL, ndL, byL, htL]
    exact ⟨trivial, rfl, rfl, by dsimp only; omega, by omega⟩
  | x :: t, lv, st, hi, hd, hn, h => by
    rw [inL] at hi
    rw [chkL] at h ⊢
    split at h
    · rename_i he
      rw [if_pos he]
      obtain ⟨a1, a2, a3, a4, a5⟩ := chk_inv D x (lv + 1) st hi.1 he
      obtain ⟨b1, b2, b3, b4, b5⟩ := chkl_inv D t lv _ hi.2 (by rw [a4]; omega) (by rw [a2]; omega) h
      refine ⟨?_, ?_, ?_, ?_, ?_⟩
      · rw [okDL]; exact ⟨a1, b1⟩
      · rw [b2, a2, ndL]; omega
      · rw [b3, a3, byL]; omega
      · rw [b4, a4, htL]; omega
      · rw [ndL]; rw [a2] at b5; omega
    · rename_i he; exact absurd h he
theorem chkm_inv (D : Nat) : ∀ (l : List Mem) (lv : Nat) (st : St), inM l → lv ≤ st.2.2 → st.1 ≤ 65536 → (chkM D l (lv + 1) st).1 = 0 → okDM D l (lv + 1) ∧ (chkM D l (lv + 1) st).2.1 = st.1 + ndM l ∧ (chkM D l (lv + 1) st).2.2.1 = st.2.1 + byM l ∧ (chkM D l (lv + 1) st).2.2.2 = max st.2.2 (lv + htM l) ∧ st.1 + ndM l ≤ 65536
  | [], lv, st, hi, hd, hn, h => by
    rw [chkM, okDM, ndM, byM, htM]
    exact ⟨trivial, rfl, rfl, by dsimp only; omega, by omega⟩
  | (k, x) :: t, lv, st, hi, hd, hn, h => by
    rw [inM] at hi
    rw [chkM] at h ⊢
    split at h
    · rename_i he
      rw [if_pos he]
      obtain ⟨a1, a2, a3, a4, a5⟩ := chk_inv D x (lv + 1) st hi.1 he
      obtain ⟨b1, b2, b3, b4, b5⟩ := chkm_inv D t lv _ hi.2 (by rw [a4]; omega) (by rw [a2]; omega) h
      refine ⟨?_, ?_, ?_, ?_, ?_⟩
      · rw [okDM]; exact ⟨a1, b1⟩
      · rw [b2, a2, ndM]; omega
      · rw [b3, a3, byM]; omega
      · rw [b4, a4, htM]; omega
      · rw [ndM]; rw [a2] at b5; omega
    · rename_i he; exact absurd h he
end
end Go.Proofs.YtpmhdcmmlkjjmaaGreatDoor
/- bytes.Cut at a line's end. -/
set_option maxRecDepth 100000
namespace Go.Proofs
open Go.Shelf Go.RowKit
namespace YtpmhdcmmlkjjmaaGreatDoor
open Go.Lib
set_option maxHeartbeats 1000000 in
theorem slB_hi (a : Option Addr) (n c b o t : Nat) (h : Headed a n c b o) (htn : t ≤ n) : (∀ W, (Instr.slice 28 (.slice a n c) none (some (.int .i64 (t : Int))) none).run Tryz.prog W = .ok (.slice a t c) W) ∧ Headed a t c b o := by
  have hle := h.le
  have hmx := h.max
  have h1 : (0 : Int) ≤ t := by omega
  have h3 : (t : Int) ≤ c := by omega
  refine ⟨fun W => ?_, ⟨by omega, hmx, h.at_.elim (fun e => .inl (by omega)) .inr, h.nil⟩⟩
  go_simp
end YtpmhdcmmlkjjmaaGreatDoor
end Go.Proofs
