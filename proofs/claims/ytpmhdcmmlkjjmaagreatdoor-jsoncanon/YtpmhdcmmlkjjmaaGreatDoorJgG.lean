import Derived.Test.YtpmhdcmmlkjjmaaGreatDoorJgF
/- JsonCanon: the law's walk. -/
set_option linter.unusedSimpArgs false
set_option linter.unusedVariables false
set_option maxRecDepth 100000
namespace Go.Proofs.YtpmhdcmmlkjjmaaGreatDoor
open Go.RowKit Go.Lib
/-- a fault stands at a place of the text -/
theorem quoJ_place {l : List UInt8} {k : Nat} {f : Flt} (h : quoJ l k = .error f) : f.1 ≤ l.length := by
  have hp := Q.unqAll_inv l (k : Int)
  unfold quoJ at h
  split at h
  · cases h
  · cases h; exact hp.1
theorem mustJ_place {l : List UInt8} {k : Nat} {c : UInt8} {f : Flt} (hk : k ≤ l.length) (h : mustJ l k c = .error f) : f.1 ≤ l.length := by
  rw [mustJ] at h
  split at h
  · cases h; exact hk
  · split at h
    · cases h
    · cases h; exact hk
theorem wordJ_place {l : List UInt8} {f : Flt} : ∀ {p : List UInt8} {k : Nat}, k ≤ l.length → wordJ l k p = .error f → f.1 ≤ l.length
  | [], k, hk, h => by rw [wordJ] at h; cases h
  | c :: p, k, hk, h => by
    rw [wordJ] at h
    cases hm : mustJ l k c with
    | error f => rw [hm] at h; cases h; exact mustJ_place hk hm
    | ok k1 => rw [hm] at h; obtain ⟨rfl, hl⟩ := mustJ_le hm; exact wordJ_place (by omega) h
theorem goesJ_place {l : List UInt8} {k : Nat} {c : UInt8} {f : Flt} (hk : k ≤ l.length) (h : goesJ l k c = .error f) : f.1 ≤ l.length := by
  have hb := blk_le hk
  rw [goesJ] at h
  split at h
  · cases h
  · split at h
    · cases h
    · rename_i g hm; cases h; exact mustJ_place hb.2 hm
theorem keyJ_place {l : List UInt8} {k : Nat} {ks : List (List UInt8)} {f : Flt} (hk0 : k ≤ l.length) (h : keyJ l k ks = .error f) : f.1 ≤ l.length := by
  rcases Nat.lt_or_ge k l.length with hk | hk
  · by_cases e : l[k] = 34
    · cases hq : quoJ l k with
      | error f => rw [keyJ_quo hk e hq] at h; cases h; exact quoJ_place hq
      | ok x =>
        obtain ⟨x, k1⟩ := x
        have h2 := quoJ_in hq
        by_cases hx : x.data.toList ∈ ks
        · rw [keyJ_twice hk e hq hx] at h; cases h; exact hk0
        · have hb := blk_le (l := l) (k := k1) h2.2.1
          cases hm : mustJ l (blk l k1) 58 with
          | error f => rw [keyJ_colon hk e hq hx hm] at h; cases h; exact mustJ_place hb.2 hm
          | ok k2 => rw [keyJ_ok hk e hq hx hm] at h; cases h
    · rw [keyJ_byte hk e] at h; cases h; exact hk0
  · rw [keyJ_end hk] at h; cases h; exact hk0
theorem entJ_place {c : UInt8} {D n o k : Nat} {f : Flt} (h : entJ c D n o k = .error f) : f.1 = k := by
  unfold entJ at h
  split at h
  · cases h; rfl
  · split at h
    · cases h; rfl
    · split at h
      · cases h; rfl
      · cases h
theorem numJ_place {l : List UInt8} {k : Nat} {f : Flt} (h : numJ l k = .error f) : f.1 = k := by
  rw [numJ] at h
  split at h
  · cases h
  · cases h; rfl
theorem allJ_place (l : List UInt8) (D : Nat) : ∀ F : Nat,
    (∀ o k n f, n ≤ 65536 → k ≤ l.length → valJ l D F o k n = .error f → f.1 ≤ l.length) ∧
    (∀ o more k n acc f, n ≤ 65536 → k ≤ l.length → lisJ l D F o more k n acc = .error f → f.1 ≤ l.length) ∧
    (∀ o more k n acc f, n ≤ 65536 → k ≤ l.length → memJ l D F o more k n acc = .error f → f.1 ≤ l.length)
  | 0 => by
    refine ⟨?_, ?_, ?_⟩
    · intro o k n f _ _ h; rw [valJ] at h; cases h; exact Nat.zero_le _
    · intro o more k n acc f _ _ h; rw [lisJ] at h; cases h; exact Nat.zero_le _
    · intro o more k n acc f _ _ h; rw [memJ] at h; cases h; exact Nat.zero_le _
  | F + 1 => by
    obtain ⟨hV, hL, hM⟩ := allJ_place l D F
    obtain ⟨lV, lL, lM⟩ := allJ_le l D F
    refine ⟨?_, ?_, ?_⟩
    · intro o k n f hn hk0 h
      rcases Nat.lt_or_ge k l.length with hk | hk
      · cases he : entJ l[k] D n o k with
        | error e => rw [valJ_ent hk he] at h; cases h; rw [entJ_place he]; exact hk0
        | ok n1 =>
          rw [valJ_in hk he] at h
          obtain ⟨_, hn1, _⟩ := entJ_le hn he
          unfold swJ at h
          split at h
          · cases hw : wordJ l k [110, 117, 108, 108] with
            | error e => rw [hw] at h; cases h; exact wordJ_place hk0 hw
            | ok k1 => rw [hw] at h; cases h
          · split at h
            · cases hw : wordJ l k [116, 114, 117, 101] with
              | error e => rw [hw] at h; cases h; exact wordJ_place hk0 hw
              | ok k1 => rw [hw] at h; cases h
            · split at h
              · cases hw : wordJ l k [102, 97, 108, 115, 101] with
                | error e => rw [hw] at h; cases h; exact wordJ_place hk0 hw
                | ok k1 => rw [hw] at h; cases h
              · split at h
                · cases hw : quoJ l k with
                  | error e => rw [hw] at h; cases h; exact quoJ_place hw
                  | ok y => rw [hw] at h; cases h
                · split at h
                  · have hb := begunJ_le (c := 93) hk
                    cases hw : lisJ l D F (o + 1) (begunJ l k 93).1 (begunJ l k 93).2 n1 [] with
                    | error e => rw [hw] at h; cases h; exact hL _ _ _ _ _ _ hn1 hb.2 hw
                    | ok y => rw [hw] at h; cases h
                  · split at h
                    · have hb := begunJ_le (c := 125) hk
                      cases hw : memJ l D F (o + 1) (begunJ l k 125).1 (begunJ l k 125).2 n1 [] with
                      | error e => rw [hw] at h; cases h; exact hM _ _ _ _ _ _ hn1 hb.2 hw
                      | ok y => rw [hw] at h; cases h
                    · cases hw : numJ l k with
                      | error e => rw [hw] at h; cases h; rw [numJ_place hw]; exact hk0
                      | ok y => rw [hw] at h; cases h
      · rw [valJ_end hk] at h; cases h; exact hk0
    · intro o more k n acc f hn hk h
      cases more with
      | false => rw [lisJ_end] at h; cases h
      | true =>
        cases hv : valJ l D F o k n with
        | error e => rw [lisJ_val hv] at h; cases h; exact hV _ _ _ _ hn hk hv
        | ok y =>
          have h1 := lV _ _ _ _ hn hv
          cases hg : goesJ l y.2.1 93 with
          | error e => rw [lisJ_goes hv hg] at h; cases h; exact goesJ_place h1.2.1 hg
          | ok z =>
            rw [lisJ_on hv hg] at h
            have h2 := goesJ_le h1.2.1 hg
            exact hL _ _ _ _ _ _ h1.2.2 h2.2 h
    · intro o more k n acc f hn hk h
      cases more with
      | false => rw [memJ_end] at h; cases h
      | true =>
        cases hq : keyJ l k (acc.map fun x => x.1.data.toList) with
        | error e => rw [memJ_key hq] at h; cases h; exact keyJ_place hk hq
        | ok q =>
          have h0 := keyJ_in hq
          cases hv : valJ l D F o q.2 n with
          | error e => rw [memJ_val hq hv] at h; cases h; exact hV _ _ _ _ hn h0.2.1 hv
          | ok y =>
            have h1 := lV _ _ _ _ hn hv
            cases hg : goesJ l y.2.1 125 with
            | error e => rw [memJ_goes hq hv hg] at h; cases h; exact goesJ_place h1.2.1 hg
            | ok z =>
              rw [memJ_on hq hv hg] at h
              have h2 := goesJ_le h1.2.1 hg
              exact hM _ _ _ _ _ _ h1.2.2 h2.2 h
theorem par_fault {l : List UInt8} {z : Int} (h : ¬ (parJ l z).2.2 = 0) : (parJ l z).1 = nulV ∧ 0 ≤ (parJ l z).2.1 ∧ (parJ l z).2.1 ≤ l.length := by
  by_cases h1 : z < 0 ∨ 40 < z
  · rw [parJ_arg h1]; exact ⟨rfl, Int.le_refl _, by dsimp only; omega⟩
  · by_cases h2 : 1048576 < l.length
    · rw [parJ_long h1 h2]; exact ⟨rfl, Int.le_refl _, by dsimp only; omega⟩
    · cases hw : whoJ l z.toNat (2 * l.length + 1) with
      | ok v => rw [parJ_ok h1 h2 hw] at h; exact absurd rfl h
      | error f =>
        rw [parJ_bad h1 h2 hw]
        have hb := blk_le (l := l) (k := 0) (Nat.zero_le _)
        have hp : f.1 ≤ l.length := by
          cases hv : valJ l z.toNat (2 * l.length + 1) 0 (blk l 0) 0 with
          | error g => rw [whoJ_val hv] at hw; cases hw; exact (allJ_place l _ _).1 _ _ _ _ (by omega) hb.2 hv
          | ok x =>
            by_cases hm : blk l x.2.1 < l.length
            · rw [whoJ_more hv hm] at hw; cases hw; dsimp only; omega
            · rw [whoJ_ok hv hm] at hw; cases hw
        exact ⟨rfl, by dsimp only; omega, by dsimp only; omega⟩
theorem par_back {v : V} {z : Int} (h0 : 0 ≤ z) (h1 : z ≤ 40) (ho : okD z.toNat v 0) (hn : ndV v ≤ 65536) (hl : (txtV v).length ≤ 1048576) : parJ (txtV v) z = (v, -1, 0) :=
  parJ_ok (by omega) (by omega) (who_back ho hn)
theorem nd_of {D : Nat} {v : V} {l : List UInt8} {F : Nat} (h : whoJ l D F = .ok v) : ndV v ≤ 65536 := by
  cases hv : valJ l D F 0 (blk l 0) 0 with
  | error f => rw [whoJ_val hv] at h; cases h
  | ok x =>
    have h1 := (allJ_le l D F).1 _ _ _ _ (by omega) hv
    have h2 := (allJ_good l D F).1 _ _ _ _ (by omega) hv
    by_cases hb : blk l x.2.1 < l.length
    · rw [whoJ_more hv hb] at h; cases h
    · rw [whoJ_ok hv hb] at h
      cases h
      omega
theorem par_nd {l : List UInt8} {z : Int} (h : (parJ l z).2.2 = 0) : ndV (parJ l z).1 ≤ 65536 := by
  by_cases h1 : z < 0 ∨ 40 < z
  · rw [parJ_arg h1] at h; cases h
  · by_cases h2 : 1048576 < l.length
    · rw [parJ_long h1 h2] at h; cases h
    · cases hw : whoJ l z.toNat (2 * l.length + 1) with
      | error f => rw [parJ_bad h1 h2 hw] at h; exact absurd (by simpa using h) (who_no hw)
      | ok v => rw [parJ_ok h1 h2 hw]; exact nd_of hw
/-- what was read is written as a text that is read so again -/
theorem par_again {l : List UInt8} (h : (parJ l 32).2.2 = 0) : parJ (txtV (parJ l 32).1) 32 = ((parJ l 32).1, -1, 0) ∧ canJ (txtV (parJ l 32).1) = (txtV (parJ l 32).1, -1, 0) ∧ prF (parJ l 32).1 32 = (0, txtV (parJ l 32).1) := by
  have hg := par_good h
  have e := par_back (z := 32) (by omega) (by omega) hg.2.2.2.2.1 (par_nd h) (by omega)
  refine ⟨e, ?_, ?_⟩
  · rw [canJ, e]; rfl
  · rw [prF, if_neg (by simp [hg.2.2.2.2.2.1]), if_neg (by omega)]
set_option maxHeartbeats 16000000 in
theorem canonlaw_walk (l : List UInt8) (v : Value) (w : World) (hb : Byt w v l) (t : Td w) (td : Tdl w) (hl : l.length ≤ 140737488355328) : Calls Tryz.prog 4 #[v] w (BPost true w) := by
  have CAL := hmk (alive_any w t td)
  have HT : Hid (∀ W, Below w.heap.size w W → Td W ∧ Tdl W ∧ Byt W v l) := fun W h => ⟨t.below h (by have := t.z; omega) h.size, td.below h (by have := td.z; omega) h.size, hb.keep h⟩
  obtain ⟨va, vc, rfl⟩ : ∃ a c, v = .slice a l.length c := by
    obtain ⟨ao, cap, b, o, rfl, _⟩ := hb
    exact ⟨_, _, rfl⟩
  have HPF : Hid (¬ (parJ l 32).2.2 = 0 → (parJ l 32).1 = nulV ∧ 0 ≤ (parJ l 32).2.1 ∧ (parJ l 32).2.1 ≤ l.length) := par_fault
  have HPG : Hid ((parJ l 32).2.2 = 0 → (parJ l 32).2.1 = -1 ∧ chkE (parJ l 32).1 32 = 0 ∧ (txtV (parJ l 32).1).length ≤ l.length) := fun h => ⟨(par_good h).2.2.2.1, (par_good h).2.2.2.2.2.1, (par_good h).2.2.2.2.2.2⟩
  have HPA : Hid ((parJ l 32).2.2 = 0 → parJ (txtV (parJ l 32).1) 32 = ((parJ l 32).1, -1, 0) ∧ canJ (txtV (parJ l 32).1) = (txtV (parJ l 32).1, -1, 0) ∧ prF (parJ l 32).1 32 = (0, txtV (parJ l 32).1)) := par_again
  have HCJ : Hid (canJ l = if (parJ l 32).2.2 = 0 then (txtV (parJ l 32).1, -1, 0) else ([], (parJ l 32).2.1, (parJ l 32).2.2)) := rfl
  have CP : Hid (∀ W, Below w.heap.size w W → Calls Tryz.prog 15 #[.slice va l.length vc, .int .i64 32] W (PrP (parJ l 32) W)) := fun W h => parse_any l _ 32 W (hb.keep h).bys (t.below h (by have := t.z; omega) h.size) ⟨by omega, by omega⟩ hl
  have CC : Hid (∀ W, Below w.heap.size w W → Calls Tryz.prog 17 #[.slice va l.length vc] W (CaP (canJ l) W)) := fun W h => canon_any l _ W (hb.keep h) (t.below h (by have := t.z; omega) h.size) (td.below h (by have := td.z; omega) h.size) hl
  clear hb t td
  generalize parJ l 32 = R at *
  obtain ⟨X, at_, er⟩ := R
  dsimp only at *
  generalize canJ l = CJ at *
  go_enter Tryz.func4, Tryz.ntmps4
  go_wp2_with fail
  refine CAL.out.mono ?_
  rintro e w0 ⟨rfl, b0⟩
  clear CAL
  go_wp2_with fail
  refine (CP.out w0 b0).mono ?_
  rintro e w1 ⟨cs, rfl, hl1, b1⟩
  dsimp only at hl1
  have HL1 := hmk hl1
  obtain ⟨k, b, i, s, al, nl, cl, am, nm, cm, rfl⟩ := V.ten hl1
  clear hl1 CP
  have z0 := b0.size
  have z1 := b1.size
  have B1 := b0.trans (b1.mono z0)
  have bC : Below w1.heap.size w1 (w1.alloc (.cells #[.int .i64 k, .bool b, .int .i64 i, .string s, .slice al nl cl, .slice am nm cm] 25)) := (Below.refl _ _).alloc (Nat.le_refl _) _
  have zC := alloc_size w1 (.cells #[.int .i64 k, .bool b, .int .i64 i, .string s, .slice al nl cl, .slice am nm cm] 25)
  have B2 := B1.trans (bC.mono (by omega))
  have N8 := heap_alloc_new w1 (.cells #[.int .i64 k, .bool b, .int .i64 i, .string s, .slice al nl cl, .slice am nm cm] 25)
  have HK : Hid (∀ W, Below (w1.alloc (.cells #[.int .i64 k, .bool b, .int .i64 i, .string s, .slice al nl cl, .slice am nm cm] 25)).heap.size (w1.alloc (.cells #[.int .i64 k, .bool b, .int .i64 i, .string s, .slice al nl cl, .slice am nm cm] 25)) W → W.heap[w1.heap.size]? = some (.cells #[.int .i64 k, .bool b, .int .i64 i, .string s, .slice al nl cl, .slice am nm cm] 25) ∧ X.lies false W (New w0 w1) [.int .i64 k, .bool b, .int .i64 i, .string s, .slice al nl cl, .slice am nm cm] ∧ Below w.heap.size w W) := fun W h => ⟨(h.block _ (by rw [zC]; omega)).trans N8, V.lies_keep (fun h => h) (fun x hx => (h.block x (by rw [zC]; have := hx.2; omega)).trans (bC.block x hx.2)) (fun _ h => h) _ HL1.out, B2.trans (h.mono (by rw [zC]; omega))⟩
  have CCH := hmk (CC.out _ B2)
  clear CC HL1 N8 bC B1 b0 b1
  go_wp2_with fail
  refine CCH.out.mono ?_
  rintro e w2 ⟨bv, rfl, hbv, b2⟩
  have HBV := hmk hbv
  obtain ⟨ua, uc, rfl⟩ : ∃ a c, bv = .slice a CJ.1.length c := by
    obtain ⟨ao, cap, b, o, rfl, _⟩ := hbv
    exact ⟨_, _, rfl⟩
  have z2 := b2.size
  obtain ⟨N2, L2, B3⟩ := HK.out w2 b2
  clear hbv CCH B2
  by_cases h0 : er = 0
  · subst h0
    obtain ⟨rfl, hch, hlen⟩ := HPG.out rfl
    obtain ⟨hp1, hp2, hp3⟩ := HPA.out rfl
    rw [if_pos rfl] at HCJ
    have hcj := HCJ.out
    subst hcj
    have hwt := (chkE_pr hch L2).2
    have CR := print_any X 32 _ _ w2 (HT.out _ B3).2.1 L2 (fun x hx => by have := hx.2; omega) (by omega)
    unfold PrPost at CR
    rw [hp3] at CR
    have CRH := hmk CR
    have HTL : Hid ((txtV X).length ≤ l.length) := hlen
    have HCH := hmk hch
    have HP1 := hmk hp1
    have HP2 := hmk hp2
    have HWT := hmk hwt
    have hlt : ((txtV X).length : Int) ≤ l.length := by omega
    dsimp only at HBV ⊢
    clear CR HPF HPG HPA HCJ hp1 hp2 hp3 hch L2 hwt
    generalize hTX : txtV X = TX at *
    have a0 := cell_of_block N2 0
    have a1 := cell_of_block N2 1
    have a2 := cell_of_block N2 2
    have a3 := cell_of_block N2 3
    have a4 := cell_of_block N2 4
    have a5 := cell_of_block N2 5
    simp only [List.getElem?_toArray, List.getElem?_cons_zero, List.getElem?_cons_succ] at a0 a1 a2 a3 a4 a5
    go_wp2_with fail
    refine CRH.out.mono ?_
    rintro e w3 ⟨dv, B, rfl, ho, _, b3⟩
    have HDV := hmk (byt_ownB ho)
    obtain ⟨da, dc, rfl⟩ : ∃ a c, dv = .slice a TX.length c := by
      obtain ⟨ao, cap, b, o, rfl, _⟩ := byt_ownB ho
      exact ⟨_, _, rfl⟩
    have z3 := b3.size
    have b3' := b2.trans (b3.mono (by omega))
    obtain ⟨N3, L3, B4⟩ := HK.out w3 b3'
    have HBV3 := hmk (HBV.out.keep b3)
    clear CRH ho a0 a1 a2 a3 a4 a5 N2 HBV
    have CB := hmk (bytes_same TX _ _ w3 HBV3.out HDV.out (by omega))
    have a0 := cell_of_block N3 0
    have a1 := cell_of_block N3 1
    have a2 := cell_of_block N3 2
    have a3 := cell_of_block N3 3
    have a4 := cell_of_block N3 4
    have a5 := cell_of_block N3 5
    simp only [List.getElem?_toArray, List.getElem?_cons_zero, List.getElem?_cons_succ] at a0 a1 a2 a3 a4 a5
    go_wp2_with fail
    refine CB.out.mono ?_
    rintro e w4 ⟨rfl, b4⟩
    have z4 := b4.size
    have b4' := b3'.trans (b4.mono (by omega))
    obtain ⟨N4, L4, B5⟩ := HK.out w4 b4'
    have HBV4 := hmk (HBV3.out.keep b4)
    clear CB a0 a1 a2 a3 a4 a5 N3 HBV3 L3 HDV B4
    have CK := hmk (check_wide false X 32 _ _ w4 ⟨(HT.out _ B5).1.u, by have := (HT.out _ B5).1.z; omega⟩ L4 (fun x hx => by have := hx.2; omega) (by have := HWT.out; omega))
    rw [HCH.out] at CK
    have a0 := cell_of_block N4 0
    have a1 := cell_of_block N4 1
    have a2 := cell_of_block N4 2
    have a3 := cell_of_block N4 3
    have a4 := cell_of_block N4 4
    have a5 := cell_of_block N4 5
    simp only [List.getElem?_toArray, List.getElem?_cons_zero, List.getElem?_cons_succ] at a0 a1 a2 a3 a4 a5
    go_wp2_with fail
    refine CK.out.mono ?_
    rintro e w5 ⟨rfl, b5⟩
    have z5 := b5.size
    have b5' := b4'.trans (b5.mono (by omega))
    obtain ⟨N5, L5, B6⟩ := HK.out w5 b5'
    have HBV5 := hmk (HBV4.out.keep b5)
    clear CK a0 a1 a2 a3 a4 a5 N4 HBV4 L4 B5
    have CP2 := parse_any TX _ 32 w5 HBV5.out.bys (HT.out _ B6).1 ⟨by omega, by omega⟩ (by omega)
    rw [HP1.out] at CP2
    have CP2H := hmk CP2
    clear CP2
    go_wp2_with fail
    refine CP2H.out.mono ?_
    rintro e w6 ⟨ds, rfl, hl6, b6⟩
    dsimp only at hl6
    have HL6 := hmk hl6
    obtain ⟨k', b', i', s', al', nl', cl', am', nm', cm', rfl⟩ := V.ten hl6
    clear hl6 CP2H
    have z6 := b6.size
    have bD : Below w6.heap.size w6 (w6.alloc (.cells #[.int .i64 k', .bool b', .int .i64 i', .string s', .slice al' nl' cl', .slice am' nm' cm'] 25)) := (Below.refl _ _).alloc (Nat.le_refl _) _
    have zD := alloc_size w6 (.cells #[.int .i64 k', .bool b', .int .i64 i', .string s', .slice al' nl' cl', .slice am' nm' cm'] 25)
    have b6' := (b5'.trans (b6.mono (by omega))).trans (bD.mono (by omega))
    have HBV6 := hmk ((HBV5.out.keep b6).keep bD)
    have ND := heap_alloc_new w6 (.cells #[.int .i64 k', .bool b', .int .i64 i', .string s', .slice al' nl' cl', .slice am' nm' cm'] 25)
    obtain ⟨_, _, B7⟩ := HK.out _ b6'
    have CC2 := canon_any TX _ _ HBV6.out (HT.out _ B7).1 (HT.out _ B7).2.1 (by omega)
    rw [HP2.out] at CC2
    have CC2H := hmk CC2
    clear CC2 N5 L5 HBV5
    go_wp2_with fail
    refine CC2H.out.mono ?_
    rintro e w7 ⟨ev, rfl, hev, b7⟩
    dsimp only at hev ⊢
    have HEV := hmk hev
    obtain ⟨ea, ec, rfl⟩ : ∃ a c, ev = .slice a TX.length c := by
      obtain ⟨ao, cap, b, o, rfl, _⟩ := hev
      exact ⟨_, _, rfl⟩
    have z7 := b7.size
    have b7' := b6'.trans (b7.mono (by omega))
    obtain ⟨N7, L7, B8⟩ := HK.out _ b7'
    have HBV7 := hmk (HBV6.out.keep b7)
    have ND7 := (b7.block w6.heap.size (by rw [zD]; omega)).trans ND
    have CS := hmk (samv_any X 0 (New w0 w1) (New w5 w6) _ _ w7 (by omega) (by omega) L7 (V.lies_keep (fun h => h) (fun x hx => (b7.block x (by rw [zD]; have := hx.2; omega)).trans (bD.block x hx.2)) (fun _ h => h) _ HL6.out) (fun x hx => by have := hx.2; omega) (fun x hx => by have := hx.2; omega))
    clear CC2H hev HBV6 ND HL6 bD L7
    have a0 := cell_of_block N7 0
    have a1 := cell_of_block N7 1
    have a2 := cell_of_block N7 2
    have a3 := cell_of_block N7 3
    have a4 := cell_of_block N7 4
    have a5 := cell_of_block N7 5
    simp only [List.getElem?_toArray, List.getElem?_cons_zero, List.getElem?_cons_succ] at a0 a1 a2 a3 a4 a5
    have d0 := cell_of_block ND7 0
    have d1 := cell_of_block ND7 1
    have d2 := cell_of_block ND7 2
    have d3 := cell_of_block ND7 3
    have d4 := cell_of_block ND7 4
    have d5 := cell_of_block ND7 5
    simp only [List.getElem?_toArray, List.getElem?_cons_zero, List.getElem?_cons_succ] at d0 d1 d2 d3 d4 d5
    go_wp2_with fail
    refine CS.out.mono ?_
    rintro e w8 ⟨rfl, b8⟩
    have CB2 := hmk (bytes_same TX _ _ w8 (HEV.out.keep b8) (HBV7.out.keep b8) (by omega))
    have z8 := b8.size
    have B9 := hmk (B8.trans (b8.mono (by omega)))
    clear CS a0 a1 a2 a3 a4 a5 d0 d1 d2 d3 d4 d5 N7 ND7
    go_wp2_with fail
    refine CB2.out.mono ?_
    rintro e w9 ⟨rfl, b9⟩
    have B10 := hmk (B9.out.trans (b9.mono (by have := B9.out.size; omega)))
    go_wp2_with fail
    go_ret
    exact ⟨rfl, B10.out⟩
  · obtain ⟨rfl, hat0, hat1⟩ := HPF.out h0
    rw [if_neg h0] at HCJ
    have hcj := HCJ.out
    subst hcj
    have y0 : (er != 0) = true := by rw [bne_iff_ne]; exact h0
    have CS := hmk (samv_any nulV 0 (New w0 w1) (fun _ => False) _ _ w2 (by omega) (by omega) L2 (nul_lies w2 _) (fun x hx => by have := hx.2; omega) (fun x hx => hx.elim))
    dsimp only at HBV ⊢
    have HB3 := hmk B3
    clear HPF HPG HPA HCJ L2 HBV h0 B3
    have a0 := cell_of_block N2 0
    have a1 := cell_of_block N2 1
    have a2 := cell_of_block N2 2
    have a3 := cell_of_block N2 3
    have a4 := cell_of_block N2 4
    have a5 := cell_of_block N2 5
    simp only [List.getElem?_toArray, List.getElem?_cons_zero, List.getElem?_cons_succ] at a0 a1 a2 a3 a4 a5
    go_wp2_with fail
    refine CS.out.mono ?_
    rintro e w3 ⟨rfl, b3⟩
    go_wp2_with fail
    go_ret
    exact ⟨rfl, HB3.out.trans (b3.mono (by have := HB3.out.size; omega))⟩
end Go.Proofs.YtpmhdcmmlkjjmaaGreatDoor
