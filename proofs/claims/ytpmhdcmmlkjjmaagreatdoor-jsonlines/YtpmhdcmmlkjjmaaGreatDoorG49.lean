/- joined: JgC JlA -/
import Derived.Test.YtpmhdcmmlkjjmaaGreatDoorJgB
import Derived.Test.YtpmhdcmmlkjjmaaGreatDoorG48
import Derived.Shelf.Bytes.SlIndexAt
import Derived.Lib.SlBytesConst
/- Canon, the program's and the document's. -/
set_option linter.unusedSimpArgs false
set_option linter.unusedVariables false
set_option maxRecDepth 100000
namespace Go.Proofs.YtpmhdcmmlkjjmaaGreatDoor
open Go.RowKit Go.Lib
theorem who_good {l : List UInt8} {D F : Nat} {v : V} (h : whoJ l D F = .ok v) (hl : l.length ≤ 1048576) : okD D v 0 ∧ (chkV D v 0 (0, 0, 0)).1 = 0 ∧ (txtV v).length ≤ l.length := by
  cases hv : valJ l D F 0 (blk l 0) 0 with
  | error f => rw [whoJ_val hv] at h; cases h
  | ok x =>
    have h1 := (allJ_le l D F).1 _ _ _ _ (by omega) hv
    have h2 := (allJ_good l D F).1 _ _ _ _ (by omega) hv
    by_cases hb : blk l x.2.1 < l.length
    · rw [whoJ_more hv hb] at h; cases h
    · rw [whoJ_ok hv hb] at h
      cases h
      refine ⟨h2.1, (chk_ok D _ 0 (0, 0, 0) h2.1 ?_ ?_).1, by omega⟩
      · dsimp only; omega
      · dsimp only; omega
/-- a fault has a number -/
theorem quoJ_no0 {l : List UInt8} {k : Nat} {f : Flt} (h : quoJ l k = .error f) : f.2 ≠ 0 := by
  unfold quoJ at h
  split at h
  · cases h
  · rename_i h0; cases h; exact h0
theorem mustJ_no0 {l : List UInt8} {k : Nat} {c : UInt8} {f : Flt} (h : mustJ l k c = .error f) : f.2 ≠ 0 := by
  rw [mustJ] at h
  split at h
  · cases h; simp
  · split at h
    · cases h
    · cases h; simp
theorem wordJ_no0 {l : List UInt8} {f : Flt} : ∀ {p : List UInt8} {k : Nat}, wordJ l k p = .error f → f.2 ≠ 0
  | [], k, h => by rw [wordJ] at h; cases h
  | c :: p, k, h => by
    rw [wordJ] at h
    cases hm : mustJ l k c with
    | error f => rw [hm] at h; cases h; exact mustJ_no0 hm
    | ok k1 => rw [hm] at h; exact wordJ_no0 h
theorem goesJ_no0 {l : List UInt8} {k : Nat} {c : UInt8} {f : Flt} (h : goesJ l k c = .error f) : f.2 ≠ 0 := by
  rw [goesJ] at h
  split at h
  · cases h
  · split at h
    · cases h
    · rename_i g hm; cases h; exact mustJ_no0 hm
theorem keyJ_no0 {l : List UInt8} {k : Nat} {ks : List (List UInt8)} {f : Flt} (h : keyJ l k ks = .error f) : f.2 ≠ 0 := by
  rcases Nat.lt_or_ge k l.length with hk | hk
  · by_cases e : l[k] = 34
    · cases hq : quoJ l k with
      | error f => rw [keyJ_quo hk e hq] at h; cases h; exact quoJ_no0 hq
      | ok x =>
        obtain ⟨x, k1⟩ := x
        by_cases hx : x.data.toList ∈ ks
        · rw [keyJ_twice hk e hq hx] at h; cases h; simp
        · cases hm : mustJ l (blk l k1) 58 with
          | error f => rw [keyJ_colon hk e hq hx hm] at h; cases h; exact mustJ_no0 hm
          | ok k2 => rw [keyJ_ok hk e hq hx hm] at h; cases h
    · rw [keyJ_byte hk e] at h; cases h; simp
  · rw [keyJ_end hk] at h; cases h; simp
theorem entJ_no0 {c : UInt8} {D n o k : Nat} {f : Flt} (h : entJ c D n o k = .error f) : f.2 ≠ 0 := by
  unfold entJ at h
  split at h
  · cases h; simp
  · split at h
    · cases h; simp
    · split at h
      · cases h; simp
      · cases h
theorem numJ_no0 {l : List UInt8} {k : Nat} {f : Flt} (h : numJ l k = .error f) : f.2 ≠ 0 := by
  rw [numJ] at h
  split at h
  · cases h
  · cases h; simp
theorem allJ_no0 (l : List UInt8) (D : Nat) : ∀ F : Nat,
    (∀ o k n f, n ≤ 65536 → k ≤ l.length → 2 * (l.length - k) + 1 ≤ F → valJ l D F o k n = .error f → f.2 ≠ 0) ∧
    (∀ o more k n acc f, n ≤ 65536 → k ≤ l.length → 2 * (l.length - k) + 2 ≤ F → lisJ l D F o more k n acc = .error f → f.2 ≠ 0) ∧
    (∀ o more k n acc f, n ≤ 65536 → k ≤ l.length → 2 * (l.length - k) + 2 ≤ F → memJ l D F o more k n acc = .error f → f.2 ≠ 0)
  | 0 => by
    refine ⟨?_, ?_, ?_⟩
    · intro o k n f _ _ h; omega
    · intro o more k n acc f _ _ h; omega
    · intro o more k n acc f _ _ h; omega
  | F + 1 => by
    obtain ⟨hV, hL, hM⟩ := allJ_no0 l D F
    obtain ⟨lV, lL, lM⟩ := allJ_le l D F
    refine ⟨?_, ?_, ?_⟩
    · intro o k n f hn hk hF h
      rcases Nat.lt_or_ge k l.length with hk | hk
      · cases he : entJ l[k] D n o k with
        | error e => rw [valJ_ent hk he] at h; cases h; exact entJ_no0 he
        | ok n1 =>
          rw [valJ_in hk he] at h
          obtain ⟨_, hn1, _⟩ := entJ_le hn he
          unfold swJ at h
          split at h
          · cases hw : wordJ l k [110, 117, 108, 108] with
            | error e => rw [hw] at h; cases h; exact wordJ_no0 hw
            | ok k1 => rw [hw] at h; cases h
          · split at h
            · cases hw : wordJ l k [116, 114, 117, 101] with
              | error e => rw [hw] at h; cases h; exact wordJ_no0 hw
              | ok k1 => rw [hw] at h; cases h
            · split at h
              · cases hw : wordJ l k [102, 97, 108, 115, 101] with
                | error e => rw [hw] at h; cases h; exact wordJ_no0 hw
                | ok k1 => rw [hw] at h; cases h
              · split at h
                · cases hw : quoJ l k with
                  | error e => rw [hw] at h; cases h; exact quoJ_no0 hw
                  | ok y => rw [hw] at h; cases h
                · split at h
                  · have hb := begunJ_le (c := 93) hk
                    cases hw : lisJ l D F (o + 1) (begunJ l k 93).1 (begunJ l k 93).2 n1 [] with
                    | error e => rw [hw] at h; cases h; exact hL _ _ _ _ _ _ hn1 hb.2 (by omega) hw
                    | ok y => rw [hw] at h; cases h
                  · split at h
                    · have hb := begunJ_le (c := 125) hk
                      cases hw : memJ l D F (o + 1) (begunJ l k 125).1 (begunJ l k 125).2 n1 [] with
                      | error e => rw [hw] at h; cases h; exact hM _ _ _ _ _ _ hn1 hb.2 (by omega) hw
                      | ok y => rw [hw] at h; cases h
                    · cases hw : numJ l k with
                      | error e => rw [hw] at h; cases h; exact numJ_no0 hw
                      | ok y => rw [hw] at h; cases h
      · rw [valJ_end hk] at h; cases h; simp
    · intro o more k n acc f hn hk hF h
      cases more with
      | false => rw [lisJ_end] at h; cases h
      | true =>
        cases hv : valJ l D F o k n with
        | error e => rw [lisJ_val hv] at h; cases h; exact hV _ _ _ _ hn hk (by omega) hv
        | ok y =>
          have h1 := lV _ _ _ _ hn hv
          cases hg : goesJ l y.2.1 93 with
          | error e => rw [lisJ_goes hv hg] at h; cases h; exact goesJ_no0 hg
          | ok z =>
            rw [lisJ_on hv hg] at h
            have h2 := goesJ_le h1.2.1 hg
            exact hL _ _ _ _ _ _ h1.2.2 h2.2 (by omega) h
    · intro o more k n acc f hn hk hF h
      cases more with
      | false => rw [memJ_end] at h; cases h
      | true =>
        cases hq : keyJ l k (acc.map fun x => x.1.data.toList) with
        | error e => rw [memJ_key hq] at h; cases h; exact keyJ_no0 hq
        | ok q =>
          have h0 := keyJ_in hq
          cases hv : valJ l D F o q.2 n with
          | error e => rw [memJ_val hq hv] at h; cases h; exact hV _ _ _ _ hn h0.2.1 (by omega) hv
          | ok y =>
            have h1 := lV _ _ _ _ hn hv
            cases hg : goesJ l y.2.1 125 with
            | error e => rw [memJ_goes hq hv hg] at h; cases h; exact goesJ_no0 hg
            | ok z =>
              rw [memJ_on hq hv hg] at h
              have h2 := goesJ_le h1.2.1 hg
              exact hM _ _ _ _ _ _ h1.2.2 h2.2 (by omega) h
theorem who_no {l : List UInt8} {D : Nat} {f : Flt} (h : whoJ l D (2 * l.length + 1) = .error f) : f.2 ≠ 0 := by
  have hb := blk_le (l := l) (k := 0) (Nat.zero_le _)
  cases hv : valJ l D (2 * l.length + 1) 0 (blk l 0) 0 with
  | error g => rw [whoJ_val hv] at h; cases h; exact (allJ_no0 l D _).1 _ _ _ _ (by omega) hb.2 (by omega) hv
  | ok x =>
    by_cases hm : blk l x.2.1 < l.length
    · rw [whoJ_more hv hm] at h; cases h; simp
    · rw [whoJ_ok hv hm] at h; cases h
theorem par_good {l : List UInt8} {z : Int} (h : (parJ l z).2.2 = 0) : 0 ≤ z ∧ z ≤ 40 ∧ l.length ≤ 1048576 ∧ (parJ l z).2.1 = -1 ∧ okD z.toNat (parJ l z).1 0 ∧ chkE (parJ l z).1 z = 0 ∧ (txtV (parJ l z).1).length ≤ l.length := by
  by_cases h1 : z < 0 ∨ 40 < z
  · rw [parJ_arg h1] at h; cases h
  · by_cases h2 : 1048576 < l.length
    · rw [parJ_long h1 h2] at h; cases h
    · cases hw : whoJ l z.toNat (2 * l.length + 1) with
      | error f =>
        rw [parJ_bad h1 h2 hw] at h
        exfalso
        exact who_no hw (by simpa using h)
      | ok v =>
        have hg := who_good hw (by omega)
        rw [parJ_ok h1 h2 hw]
        exact ⟨by omega, by omega, by omega, rfl, hg.1, by rw [chkE, if_neg h1]; exact hg.2.1, hg.2.2⟩
/-- what Canon answers -/
def canJ (l : List UInt8) : List UInt8 × Int × Int := if (parJ l 32).2.2 = 0 then (txtV (parJ l 32).1, -1, 0) else ([], (parJ l 32).2.1, (parJ l 32).2.2)
def CaP (R : List UInt8 × Int × Int) (w : World) (e : Ending) (w' : World) : Prop := ∃ bv, e = .returned (.tuple #[bv, .int .i64 R.2.1, .int .i64 R.2.2]) ∧ Byt w' bv R.1 ∧ Below w.heap.size w w'
theorem byt_nil (w : World) : Byt w (.slice none 0 0) [] := ⟨none, 0, 0, 0, rfl, headed_nil, fun j hj => by simp at hj⟩
theorem byt_ownB {w : World} {B : Nat} {v : Value} {l : List UInt8} (h : OwnB B v l w) : Byt w v l := byt_own h rfl
set_option maxHeartbeats 8000000 in
theorem canon_any (l : List UInt8) (v : Value) (w : World) (hb : Byt w v l) (t : Td w) (td : Tdl w) (hl : l.length ≤ 140737488355328) : Calls Tryz.prog 17 #[v] w (CaP (canJ l) w) := by
  have CP := hmk (parse_any l v 32 w hb.bys t ⟨by omega, by omega⟩ hl)
  have HG : Hid ((parJ l 32).2.2 = 0 → chkE (parJ l 32).1 32 = 0) := fun h => (par_good h).2.2.2.2.2.1
  have HC : Hid (canJ l = if (parJ l 32).2.2 = 0 then (txtV (parJ l 32).1, -1, 0) else ([], (parJ l 32).2.1, (parJ l 32).2.2)) := rfl
  obtain ⟨va, vn, vc, rfl⟩ : ∃ a n c, v = .slice a n c := by
    obtain ⟨ao, cap, b, o, rfl, _⟩ := hb
    exact ⟨_, _, _, rfl⟩
  clear hb t
  generalize parJ l 32 = R at *
  obtain ⟨X, at_, er⟩ := R
  dsimp only at *
  go_enter Tryz.func17, Tryz.ntmps17
  go_wp2_with fail
  refine CP.out.mono ?_
  rintro e w1 ⟨cs, rfl, hl1, b1⟩
  dsimp only at hl1
  have HL1 := hmk hl1
  obtain ⟨k, b, i, s, al, nl, cl, am, nm, cm, rfl⟩ := V.ten hl1
  clear hl1 CP
  have bA : Below w1.heap.size w1 (w1.alloc (.cells #[.int .i64 k, .bool b, .int .i64 i, .string s, .slice al nl cl, .slice am nm cm] 25)) := (Below.refl _ _).alloc (Nat.le_refl _) _
  have z1 := b1.size
  have za := alloc_size w1 (.cells #[.int .i64 k, .bool b, .int .i64 i, .string s, .slice al nl cl, .slice am nm cm] 25)
  have BA := b1.trans (bA.mono z1)
  have HBA := hmk BA
  by_cases h0 : er = 0
  · subst h0
    have HE : Hid (canJ l = (txtV X, -1, 0)) := by show _ = _; rw [HC.out, if_pos rfl]
    have hch := HG.out rfl
    obtain ⟨hpr, hwt⟩ := chkE_pr hch HL1.out
    have HLA : Hid (X.lies false (w1.alloc (.cells #[.int .i64 k, .bool b, .int .i64 i, .string s, .slice al nl cl, .slice am nm cm] 25)) (New w w1) [.int .i64 k, .bool b, .int .i64 i, .string s, .slice al nl cl, .slice am nm cm]) := V.lies_keep (fun h => h) (fun x hx => bA.block x hx.2) (fun _ h => h) _ HL1.out
    have tdA := td.below BA (by have := td.z; omega) BA.size
    have CA := hmk (appval_any X false (New w w1) _ w1.heap.size (.slice none 0 0) [] (w1.alloc (.cells #[.int .i64 k, .bool b, .int .i64 i, .string s, .slice al nl cl, .slice am nm cm] 25)) HLA.out (fun x hx => hx.2) tdA (by have := td.z; omega) (by omega) (World.ownsRow_nil _ _ 5 1) hpr hwt (by simp only [List.length_nil]; omega))
    rw [List.nil_append] at CA
    have N8 := heap_alloc_new w1 (.cells #[.int .i64 k, .bool b, .int .i64 i, .string s, .slice al nl cl, .slice am nm cm] 25)
    have a0 := cell_of_block N8 0
    have a1 := cell_of_block N8 1
    have a2 := cell_of_block N8 2
    have a3 := cell_of_block N8 3
    have a4 := cell_of_block N8 4
    have a5 := cell_of_block N8 5
    simp only [List.getElem?_toArray, List.getElem?_cons_zero, List.getElem?_cons_succ] at a0 a1 a2 a3 a4 a5
    clear HC HG hch hpr HL1 tdA td N8 bA BA HLA
    go_wp2_with fail
    refine CA.out.mono ?_
    rintro e w2 ⟨bv, rfl, ho, b2⟩
    have HB := hmk (byt_ownB ho)
    have HW : Hid (Below w.heap.size w w2) := HBA.out.trans (b2.mono z1)
    clear ho b2
    go_wp2_with fail
    go_ret3
    rw [HE.out]
    exact ⟨_, rfl, HB.out, HW.out⟩
  · have HE : Hid (canJ l = ([], at_, er)) := by show _ = _; rw [HC.out, if_neg h0]
    have y0 : (er != 0) = true := by rw [bne_iff_ne]; exact h0
    clear HC HG HL1 td bA BA
    go_wp2_with fail
    go_ret3
    rw [HE.out]
    exact ⟨_, rfl, byt_nil _, HBA.out⟩
set_option maxHeartbeats 8000000 in
theorem dcanon_any (l : List UInt8) (v : Value) (w : World) (hb : Byt w v l) (hl : l.length ≤ 140737488355328) : Calls Tryz.prog 23 #[v] w (CaP (canJ l) w) := by
  have CP := hmk (dparse_any l v 32 w hb.bys ⟨by omega, by omega⟩ hl)
  have HG : Hid ((parJ l 32).2.2 = 0 → chkE (parJ l 32).1 32 = 0 ∧ (txtV (parJ l 32).1).length ≤ 1048576) := fun h => ⟨(par_good h).2.2.2.2.2.1, Nat.le_trans (par_good h).2.2.2.2.2.2 (par_good h).2.2.1⟩
  have HC : Hid (canJ l = if (parJ l 32).2.2 = 0 then (txtV (parJ l 32).1, -1, 0) else ([], (parJ l 32).2.1, (parJ l 32).2.2)) := rfl
  obtain ⟨va, vn, vc, rfl⟩ : ∃ a n c, v = .slice a n c := by
    obtain ⟨ao, cap, b, o, rfl, _⟩ := hb
    exact ⟨_, _, _, rfl⟩
  clear hb
  generalize parJ l 32 = R at *
  obtain ⟨X, at_, er⟩ := R
  dsimp only at *
  go_enter Tryz.func23, Tryz.ntmps23
  go_wp2_with fail
  refine CP.out.mono ?_
  rintro e w1 ⟨cs, rfl, hl1, b1⟩
  dsimp only at hl1
  have HL1 := hmk hl1
  obtain ⟨k, b, i, s, al, nl, cl, am, nm, cm, rfl⟩ := V.ten hl1
  clear hl1 CP
  have bA : Below w1.heap.size w1 (w1.alloc (.cells #[.int .i64 k, .bool b, .int .i64 i, .string s, .slice al nl cl, .slice am nm cm] 25)) := (Below.refl _ _).alloc (Nat.le_refl _) _
  have z1 := b1.size
  have za := alloc_size w1 (.cells #[.int .i64 k, .bool b, .int .i64 i, .string s, .slice al nl cl, .slice am nm cm] 25)
  have BA := b1.trans (bA.mono z1)
  have HBA := hmk BA
  by_cases h0 : er = 0
  · subst h0
    have HE : Hid (canJ l = (txtV X, -1, 0)) := by show _ = _; rw [HC.out, if_pos rfl]
    have hch := HG.out rfl
    obtain ⟨hpr, hwt⟩ := chkE_pr hch.1 HL1.out
    have HPF : Hid (prF X 32 = (0, txtV X)) := by show _ = _; rw [prF, if_neg (by simp [hch.1]), if_neg (by omega)]
    have CA := hmk (rprint_any X 32 (New w w1) _ (w1.alloc (.cells #[.int .i64 k, .bool b, .int .i64 i, .string s, .slice al nl cl, .slice am nm cm] 25)) (V.lies_keep (fun h => h) (fun x hx => bA.block x hx.2) (fun _ h => h) _ HL1.out) (fun x hx => by rw [za]; have := hx.2; omega) (by omega))
    have N8 := heap_alloc_new w1 (.cells #[.int .i64 k, .bool b, .int .i64 i, .string s, .slice al nl cl, .slice am nm cm] 25)
    have a0 := cell_of_block N8 0
    have a1 := cell_of_block N8 1
    have a2 := cell_of_block N8 2
    have a3 := cell_of_block N8 3
    have a4 := cell_of_block N8 4
    have a5 := cell_of_block N8 5
    simp only [List.getElem?_toArray, List.getElem?_cons_zero, List.getElem?_cons_succ] at a0 a1 a2 a3 a4 a5
    unfold PrPost at CA
    rw [HPF.out] at CA
    clear HC HG hch hpr HL1 N8 bA BA
    go_wp2_with fail
    refine CA.out.mono ?_
    rintro e w2 ⟨bv, B, rfl, ho, _, b2⟩
    have HB := hmk (byt_ownB ho)
    have HW : Hid (Below w.heap.size w w2) := HBA.out.trans (b2.mono (by omega))
    clear ho b2
    go_wp2_with fail
    go_ret3
    rw [HE.out]
    exact ⟨_, rfl, HB.out, HW.out⟩
  · have HE : Hid (canJ l = ([], at_, er)) := by show _ = _; rw [HC.out, if_neg h0]
    have y0 : (er != 0) = true := by rw [bne_iff_ne]; exact h0
    clear HC HG HL1 bA BA
    go_wp2_with fail
    go_ret3
    rw [HE.out]
    exact ⟨_, rfl, byt_nil _, HBA.out⟩
end Go.Proofs.YtpmhdcmmlkjjmaaGreatDoor
/- bytes.Cut at a line's end. -/
set_option maxRecDepth 100000
namespace Go.Proofs
open Go.Shelf Go.RowKit
def Tryz.lays187_ren : Go.Shelf.Ren := ⟨fun | 187 => 65 | 255 => 91 | n => n, fun | 3 => 3 | 5 => 5 | 37 => 28 | n => n, fun | n => n⟩
theorem Tryz.lays187 : Go.Proofs.Lays.n187 Tryz.prog Tryz.lays187_ren := {
  mixed := by kernel_rfl
  f187 := Tryz.func65.trans (congrArg some (by kernel_rfl))
  f255 := Tryz.func91.trans (congrArg some (by kernel_rfl))
  t3 := Tryz.underlying3
  a3 := Tryz.isAgg3
  z3 := Tryz.sizeOf3
  v3 := Tryz.zeroValue3
  t5 := Tryz.underlying5
  a5 := Tryz.isAgg5
  z5 := Tryz.sizeOf5
  v5 := Tryz.zeroValue5
  t37 := Tryz.underlying28
  a37 := Tryz.isAgg28
  z37 := Tryz.sizeOf28
  v37 := Tryz.zeroValue28 }
namespace YtpmhdcmmlkjjmaaGreatDoor
open Go.Lib
def lineJ (l : List UInt8) : List UInt8 := l.takeWhile fun c => c != 10
def restJ (l : List UInt8) : List UInt8 := (l.dropWhile fun c => c != 10).tail
theorem ix_cases : ∀ l : List UInt8, (∃ i : Nat, indexByte l 10 = (i : Int) ∧ i < l.length ∧ lineJ l = l.take i ∧ restJ l = l.drop (i + 1)) ∨ (indexByte l 10 = -1 ∧ lineJ l = l ∧ restJ l = [])
  | [] => .inr ⟨rfl, rfl, rfl⟩
  | b :: l => by
    rw [indexByte]
    by_cases h : b = 10
    · subst h
      left
      refine ⟨0, by simp, by simp, by simp [lineJ], by simp [restJ]⟩
    · have hb : (b == 10) = false := by simp [h]
      have hn : (b != 10) = true := by simp [h]
      have e1 : lineJ (b :: l) = b :: lineJ l := by simp [lineJ, List.takeWhile_cons, hn]
      have e2 : restJ (b :: l) = restJ l := by simp [restJ, List.dropWhile_cons, hn]
      rw [e1, e2]
      rcases ix_cases l with ⟨i, h1, h2, h3, h4⟩ | ⟨h1, h2, h3⟩
      · left
        refine ⟨i + 1, ?_, by simp; omega, by rw [h3]; rfl, by rw [h4]; rfl⟩
        rw [h1]
        simp only [hb]
        simp
        try omega
      · right
        refine ⟨?_, by rw [h2], h3⟩
        rw [h1]
        simp [hb]
theorem rest_len {l : List UInt8} (h : l ≠ []) : (restJ l).length < l.length := by
  rcases ix_cases l with ⟨i, _, h2, _, h4⟩ | ⟨_, _, h3⟩
  · rw [h4, List.length_drop]; omega
  · rw [h3]; exact List.length_pos_iff.2 h
theorem line_len (l : List UInt8) : (lineJ l).length ≤ l.length := (List.takeWhile_prefix _).length_le
theorem bytesOf_map (l : List UInt8) : Lib.bytesOf (l.map fun c => (c.toNat : Int)) = l := by
  unfold Lib.bytesOf
  rw [List.map_map]
  conv => rhs; rw [← List.map_id l]
  refine List.map_congr_left fun c _ => ?_
  simp
theorem ixb_bytes (l : List UInt8) (b o cap : Nat) (w : World) (hc : ∀ (j : Nat) (h : j < l.length), b < w.heap.size ∧ w.cell? ⟨b, o + j, none⟩ = some (.int .u8 ((l[j]).toNat : Int))) :
    Calls Tryz.prog 65 #[.slice (some ⟨b, o, none⟩) l.length cap, .int .u8 10] w fun e w' => e = .returned (.int .i64 (indexByte l 10)) ∧ w' = w := by
  have h := Any.bytes_IndexByte_at Tryz.lays187 ⟨b, o, none⟩ l.length cap (l.map fun c => (c.toNat : Int)) 10 w (by simp) (fun i hi => by
    rw [Go.WideShapes.add_plain, (hc i hi).2]
    simp [List.getD, hi])
  rw [bytesOf_map] at h
  exact h
set_option maxHeartbeats 4000000 in
theorem index_bytes (l : List UInt8) (b o cap g : Nat) (w : World) (hl : l.length ≤ 140737488355328) (hc : ∀ (j : Nat) (h : j < l.length), b < w.heap.size ∧ w.cell? ⟨b, o + j, none⟩ = some (.int .u8 ((l[j]).toNat : Int))) (hg : w.cell? ⟨g, 0, none⟩ = some (.int .u8 10)) :
    Calls Tryz.prog 46 #[.slice (some ⟨b, o, none⟩) l.length cap, .slice (some ⟨g, 0, none⟩) 1 1] w fun e w' => e = .returned (.int .i64 (indexByte l 10)) ∧ w' = w := by
  have C := hmk (ixb_bytes l b o cap w hc)
  clear hc
  go_enter Tryz.func46, Tryz.ntmps46
  go_wp2_with fail
  refine C.out.mono ?_
  rintro e w1 ⟨rfl, hw⟩
  subst hw
  go_wp2_with fail
  go_ret
  exact ⟨rfl, rfl⟩
set_option maxHeartbeats 1000000 in
theorem slB_hi (a : Option Addr) (n c b o t : Nat) (h : Headed a n c b o) (htn : t ≤ n) : (∀ W, (Instr.slice 28 (.slice a n c) none (some (.int .i64 (t : Int))) none).run Tryz.prog W = .ok (.slice a t c) W) ∧ Headed a t c b o := by
  have hle := h.le
  have hmx := h.max
  have h1 : (0 : Int) ≤ t := by omega
  have h3 : (t : Int) ≤ c := by omega
  refine ⟨fun W => ?_, ⟨by omega, hmx, h.at_.elim (fun e => .inl (by omega)) .inr, h.nil⟩⟩
  go_simp
set_option maxHeartbeats 1000000 in
theorem slB_lo (a : Option Addr) (n c b o i : Nat) (h : Headed a n c b o) (hin : i ≤ n) : ∃ a' c', (∀ W, (Instr.slice 28 (.slice a n c) (some (.int .i64 (i : Int))) none none).run Tryz.prog W = .ok (.slice a' (n - i) c') W) ∧ Headed a' (n - i) c' b (o + i * 1) := by
  have hle := h.le
  have hmx := h.max
  have h1 : (0 : Int) ≤ i := by omega
  have h2 : (i : Int) ≤ n := by omega
  have h3 : (i : Int) ≤ c := by omega
  by_cases hc : c = i
  · refine ⟨a, 0, fun W => ?_, ⟨by omega, Nat.zero_le _, .inl (by omega), fun _ => rfl⟩⟩
    go_simp
    all_goals (intro h; omega)
  · refine ⟨a.map (fun x : Addr => x.add (i * 1)), c - i, fun W => ?_, hd_add h hin (Nat.le_refl _) hc⟩
    go_simp
    all_goals (try (first | rfl | omega))
set_option maxHeartbeats 1000000 in
theorem slB_in (a : Option Addr) (n c b o i t : Nat) (h : Headed a n c b o) (hit : i ≤ t) (htn : t ≤ n) : ∃ a' c', (∀ W, (Instr.slice 28 (.slice a n c) (some (.int .i64 (i : Int))) (some (.int .i64 (t : Int))) none).run Tryz.prog W = .ok (.slice a' (t - i) c') W) ∧ Headed a' (t - i) c' b (o + i * 1) := by
  have hle := h.le
  have hmx := h.max
  have h1 : (0 : Int) ≤ i := by omega
  have h2 : (i : Int) ≤ t := by omega
  have h3 : (t : Int) ≤ c := by omega
  by_cases hc : c = i
  · refine ⟨a, 0, fun W => ?_, ⟨by omega, Nat.zero_le _, .inl (by omega), fun _ => rfl⟩⟩
    go_simp
    all_goals (intro h; omega)
  · refine ⟨a.map (fun x : Addr => x.add (i * 1)), c - i, fun W => ?_, hd_add h hit htn hc⟩
    go_simp
    all_goals (try (first | rfl | omega))
end YtpmhdcmmlkjjmaaGreatDoor
end Go.Proofs
