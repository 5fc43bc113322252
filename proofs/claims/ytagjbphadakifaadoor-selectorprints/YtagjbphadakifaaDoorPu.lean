/- joined: PrnF PrnG PrnH PrnI -/
import Derived.Test.YtagjbphadakifaaDoorPt
import Derived.Test.YtagjbphadakifaaDoorTrmX
/- writing values to a builder. -/
set_option linter.unusedSimpArgs false
set_option linter.unusedVariables false
namespace Go.Proofs.YtagjbphadakifaaDoor
open Go.RowKit Go.Lib
abbrev Bd (B b : Nat) (L : List UInt8) (w : World) : Prop := IsBuilderF 62 5 B b (byteCells L) w
theorem bf_below {B b : Nat} {p : Value} {xs : List Value} {w w' : World} (h : BuilderAtF 62 5 B b p xs w) (hb : Below w.heap.size w w') : BuilderAtF 62 5 B b p xs w' := by
  have hlt := h.lt
  obtain ⟨hB, v, hk, hown, hne⟩ := h
  exact ⟨hB, v, (hb.block b hlt).trans hk, hown.kept (row := none) (grown_of_below hb) (by cases hv : v.ownBlock <;> simp), hne⟩
theorem Bd.below {B b : Nat} {L : List UInt8} {w w' : World} (h : Bd B b L w) (hb : Below w.heap.size w w') : Bd B b L w' := h.imp (fun h => bf_below h hb) (fun h => bf_below h hb)
theorem ok_below {b : Option Nat} {w w' : World} (h : Below w.heap.size w w') : OthersKept 5 b w w' := fun k _ hk _ _ => (h.block k (lt_blk hk)).trans hk
theorem ws_any (B b : Nat) (L x : List UInt8) (w : World) (h : Bd B b L w) (hlen : L.length + x.length ≤ 140737488355328) (hB : B ≤ w.heap.size) :
    Calls Tryd.prog 50 #[.pointer (some ⟨b, 0, none⟩), .string (bs x)] w (fun e w' => e = .returned (.tuple #[.int .i64 (bs x).size, .nilIface]) ∧ Bd B b (L ++ x) w' ∧ Below B w w' ∧ OthersKept 5 (some b) w w') := by
  refine (Tryd.WriteString_k B b (byteCells L) (bs x) w h (by rw [byteCells_length, bs_size]; exact hlen) hB).mono ?_
  rintro e w1 ⟨rfl, h1, b1, k1⟩
  refine ⟨rfl, .inr ?_, b1, k1⟩
  have e : byteCells (L ++ x) = byteCells L ++ strCells (bs x) := by simp [byteCells, strCells, bs]
  rw [e]; exact h1
theorem wb_any (B b : Nat) (L : List UInt8) (c : Nat) (hc : c < 256) (w : World) (h : Bd B b L w) (hlen : L.length + 1 ≤ 140737488355328) (hB : B ≤ w.heap.size) :
    Calls Tryd.prog 29 #[.pointer (some ⟨b, 0, none⟩), .int .u8 (c : Int)] w (fun e w' => e = .returned .nilIface ∧ Bd B b (L ++ [UInt8.ofNat c]) w' ∧ Below B w w' ∧ OthersKept 5 (some b) w w') := by
  refine (Tryd.WriteByte_k B b (byteCells L) (c : Int) w h (by rw [byteCells_length]; exact hlen) hB).mono ?_
  rintro e w1 ⟨rfl, h1, b1, k1⟩
  refine ⟨rfl, .inr ?_, b1, k1⟩
  rw [cell_ofNat c hc, byteCells_snoc] at h1
  exact h1
def valsT (sg nm : List UInt8) (l : List ByteArray) : List UInt8 := if l.length = 1 then sg ++ joinI l 1 else nm ++ joinI l l.length ++ [41]
set_option maxHeartbeats 8000000 in
set_option maxRecDepth 100000 in
theorem writevals_any (B b : Nat) (L sg nm : List UInt8) (l : List ByteArray) (S : Nat → Prop) (a : Option Addr) (c bb o : Nat) (w : World) (h : Bd B b L w) (hB : B ≤ w.heap.size) (hB2 : 2 < B) (hT : Tl w)
    (hh : Headed a l.length c bb o) (hl : liesS w S l bb o) (hS : ∀ y, S y → y < B) (hf : Fine l) (hm : l.length ≤ 2147483647) (hp : 0 < l.length) (hL : L.length ≤ 1000000000000) (hs : sg.length ≤ 8) (hn : nm.length ≤ 8) :
    Calls Tryd.prog 52 #[.pointer (some ⟨b, 0, none⟩), .slice a l.length c, .string (bs sg), .string (bs nm)] w (fun e w' => e = .returned (.tuple #[]) ∧ Bd B b (L ++ valsT sg nm l) w' ∧ Below B w w' ∧ OthersKept 5 (some b) w w') := by
  have HF := hmk hf
  have HL : Hid (∀ W, Below B w W → liesS W S l bb o) := fun W hW => hl.keep (fun y hy => hW.block y (hS y hy)) (fun _ h => h)
  have HT : Hid (∀ W, Below B w W → Tl W) := fun W hW => hT.below hW hB2
  obtain rfl : a = some ⟨bb, o, none⟩ := hh.at_.resolve_left (by omega)
  have HH := hmk hh
  have hmx : l.length ≤ 9223372036854775807 := Nat.le_trans hh.le hh.max
  have HVT : Hid (valsT sg nm l = if l.length = 1 then sg ++ joinI l 1 else nm ++ joinI l l.length ++ [41]) := rfl
  obtain ⟨V, hV⟩ : ∃ V, valsT sg nm l = V := ⟨_, rfl⟩
  rw [hV] at HVT ⊢
  clear hV hf hT hh
  by_cases hl1 : l.length = 1
  · rw [if_pos hl1] at HVT
    obtain ⟨s1, _, q0⟩ := hl 0 (by omega)
    rw [Nat.add_zero] at q0
    have hb0 := hS _ s1
    have hx := HF.out _ (List.getElem_mem (show 0 < l.length by omega))
    have HX := hmk (fun W (hW : Tl W) => wordtext_any l[0] hx.1 hx.2 W hW)
    have HXS : Hid (wordS l[0] = bs (wordL l[0])) := rfl
    have hj1 : joinI l 1 = wordL l[0] := by rw [joinI_next (by omega)]; simp [joinI]
    have hwl := wordL_len hx.1
    rw [hj1] at HVT
    have HQ0 : Hid (∀ W, Below B w W → W.cell? ⟨bb, o, none⟩ = some (.string l[0])) := fun W hW => (hW.cell (p := ⟨bb, o, none⟩) hb0).trans q0
    have y1 : ((l.length : Int) == 1) = true := by rw [beq_iff_eq]; omega
    have y2 : (0 : Int) < l.length := by omega
    clear hx hj1 q0
    generalize wordL l[0] = xw at *
    generalize l[0] = x at *
    clear hl1 hl
    have C1 := hmk (ws_any B b L sg w h (by omega) hB)
    go_enter Tryd.func52, Tryd.ntmps52
    go_wp2_with fail
    refine C1.out.mono ?_
    rintro e w1 ⟨rfl, h1, b1, k1⟩
    have hz1 := b1.size
    have z3 := HQ0.out _ b1
    have C2 := hmk (HX.out w1 (HT.out _ b1))
    go_wp2_with fail
    refine C2.out.mono ?_
    rintro e w2 ⟨rfl, b2⟩
    rw [HXS.out]
    have hz2 := b2.size
    have b2' : Below B w w2 := b1.trans (b2.mono (by omega))
    have C3 := hmk (ws_any B b (L ++ sg) xw w2 (Bd.below h1 b2) (by simp; omega) (by omega))
    clear C1 C2 h1
    go_wp2_with fail
    refine C3.out.mono ?_
    rintro e w3 ⟨rfl, h3, b3, k3⟩
    go_wp2_with fail
    refine bodyPost_ret (v := .tuple #[]) (results_none rfl _ _ _) rfl ?_
    exact ⟨rfl, by rw [HVT.out, ← List.append_assoc]; exact h3, b2'.trans b3, (k1.trans (ok_below b2)).trans k3⟩
  · rw [if_neg hl1] at HVT
    have y1 : ((l.length : Int) == 1) = false := by rw [beq_eq_false_iff_ne]; omega
    clear hl1 hl
    go_enter Tryd.func52, Tryd.ntmps52
    go_wp2_with fail
    go_loopw [8, 26] (fun e8 e26 wr => ∃ (i : Nat) (X : List UInt8), i ≤ l.length ∧ e26 = .int .i64 (i : Int) ∧ e8 = .string (bs (if i = 0 then nm else [44])) ∧ Hid (X = if i = 0 then L else L ++ nm ++ joinI l i) ∧ Hid (Bd B b X wr) ∧ Below B w wr ∧ OthersKept 5 (some b) w wr) (fun _ e26 _ => l.length - (RowKit.intOf e26).toNat)
    case atStart => exact ⟨0, L, by omega, rfl, by simp, by show _ = _; rfl, h, Below.refl _ _, OthersKept.refl _ _ _⟩
    case round =>
      clear h
      obtain ⟨i, X, hi, rfl, rfl, HX, HBd, Bi, Ki⟩ := hrel
      have hzi := Bi.size
      have hjl := joinI_len HF.out i hi
      have hXl : X.length ≤ 2000000000000 := by
        rw [HX.out]
        split
        · omega
        · rw [List.length_append, List.length_append]; omega
      obtain ⟨op, hop⟩ : ∃ op, (if i = 0 then nm else [44]) = op := ⟨_, rfl⟩
      have hol : op.length ≤ 8 := by rw [← hop]; split; exact hn; simp
      rw [hop]
      by_cases hil : i < l.length
      · have y3 : (i : Int) < l.length := by omega
        obtain ⟨s1, _, q0⟩ := HL.out _ Bi i hil
        have hx := HF.out _ (List.getElem_mem hil)
        have HXC := hmk (fun W (hW : Tl W) => wordtext_any l[i] hx.1 hx.2 W hW)
        have HXS : Hid (wordS l[i] = bs (wordL l[i])) := rfl
        have hwl := wordL_len hx.1
        have HJ := hmk (joinI_next hil)
        clear hx
        have HXN : Hid (X ++ op ++ wordL l[i] = if i + 1 = 0 then L else L ++ nm ++ joinI l (i + 1)) := by
          show _ = _
          rw [if_neg (by omega), HX.out, ← hop, HJ.out]
          by_cases hi0 : i = 0
          · subst hi0; simp [joinI]
          · rw [if_neg hi0, if_neg hi0, if_pos (by omega)]; simp
        generalize wordL l[i] = xw at *
        generalize l[i] = x at *
        have C1 := hmk (ws_any B b X op wr HBd.out (by omega) (by omega))
        clear HX HBd hop HJ
        go_wp2_with fail
        refine C1.out.mono ?_
        rintro e w1 ⟨rfl, h1, b1, k1⟩
        have hz1 := b1.size
        have b1' : Below B w w1 := Bi.trans b1
        have C2 := hmk (HXC.out w1 (HT.out _ b1'))
        go_wp2_with fail
        refine C2.out.mono ?_
        rintro e w2 ⟨rfl, b2⟩
        rw [HXS.out]
        have hz2 := b2.size
        have b2' : Below B w w2 := b1'.trans (b2.mono (by omega))
        have C3 := hmk (ws_any B b (X ++ op) xw w2 (Bd.below h1 b2) (by simp; omega) (by omega))
        clear C1 C2 h1
        go_wp2_with fail
        refine C3.out.mono ?_
        rintro e w3 ⟨rfl, h3, b3, k3⟩
        have K3 := ((Ki.trans k1).trans (ok_below b2)).trans k3
        have H3 : Hid (Bd B b (X ++ op ++ xw) w3) := h3
        have B3 := b2'.trans b3
        clear h3 C3
        go_wp2_with fail
        go_roundw
        case rel => exact ⟨i + 1, _, by omega, by go_num, by simp, HXN, H3, B3, K3⟩
        case measure => simp [RowKit.intOf]; omega
      · obtain rfl : i = l.length := by omega
        have y3 : ¬ (l.length : Int) < l.length := by omega
        have C4 := hmk (wb_any B b X 41 (by omega) wr HBd.out (by omega) (by omega))
        have HE : Hid (X ++ [41] = L ++ V) := by show _ = _; rw [HVT.out, HX.out, if_neg (by omega)]; simp
        clear HX HBd hop
        go_wp2_with fail
        (try simp only [Exit.inBlock, Exit.then])
        go_wp2_with fail
        refine C4.out.mono ?_
        rintro e w4 ⟨rfl, h4, b4, k4⟩
        go_wp2_with fail
        go_end0
        exact ⟨rfl, by rw [← HE.out]; exact h4, Bi.trans b4, Ki.trans k4⟩
end Go.Proofs.YtagjbphadakifaaDoor
/- writing a term to a builder. -/
namespace Go.Proofs.YtagjbphadakifaaDoor
open Go.RowKit Go.Lib
theorem good_op {t : Trm} (h : goodB t = true) : ((t.2.1 = 1 ∨ t.2.1 = 2) ∧ t.2.2.length = 0) ∨ ((t.2.1 = 3 ∨ t.2.1 = 4) ∧ 0 < t.2.2.length) := by
  unfold goodB at h
  rw [Bool.and_eq_true] at h
  have h2 := h.2
  split at h2
  · rename_i h3; exact .inl ⟨h3, of_decide_eq_true h2⟩
  · split at h2
    · rename_i h3
      rw [Bool.and_eq_true] at h2
      exact .inr ⟨h3, of_decide_eq_true h2.1⟩
    · cases h2
theorem box_kept {b X : Nat} {cs : Array Value} {w w' : World} (k : OthersKept 5 (some b) w w') (h : w.heap[X]? = some (.cells cs 50)) (hX : X ≠ b) : w'.heap[X]? = some (.cells cs 50) :=
  k X _ h (fun e => hX (Option.some.inj e)) (fun c fz e => by simp at e)
theorem termL_vals {key : ByteArray} {op : Int} {l : List ByteArray} (h1 : op ≠ 1) (h2 : op ≠ 2) : termL (key, op, l) = wordL key ++ valsT (signL op) (nameL op) l := by
  unfold termL valsT
  simp only
  rw [if_neg h1, if_neg h2]
  split <;> simp
set_option maxHeartbeats 8000000 in
set_option maxRecDepth 100000 in
theorem writeterm_any (B b : Nat) (L : List UInt8) (key : ByteArray) (op : Int) (l : List ByteArray) (S : Nat → Prop) (a : Option Addr) (c bb o : Nat) (w : World) (h : Bd B b L w) (hB : B ≤ w.heap.size) (hB2 : 2 < B) (hbw : b < w.heap.size) (hT : Tl w)
    (hh : Headed a l.length c bb o) (hl : liesS w S l bb o) (hS : ∀ y, S y → y < B) (hg : goodB (key, op, l) = true) (hm : l.length ≤ 2147483647) (hL : L.length ≤ 900000000000) :
    Calls Tryd.prog 30 #[.pointer (some ⟨b, 0, none⟩), .agg #[.string key, .int .i64 op, .slice a l.length c]] w (fun e w' => e = .returned (.tuple #[]) ∧ Bd B b (L ++ termL (key, op, l)) w' ∧ Below B w w' ∧ OthersKept 5 (some b) w w') := by
  obtain ⟨hk, hf⟩ := good_fine hg
  dsimp only at hk hf
  have hops := good_op hg
  dsimp only at hops
  have HWT := hmk (fun W (hW : Tl W) => wordtext_any key hk.1 hk.2 W hW)
  have HWK : Hid (wordS key = bs (wordL key)) := rfl
  have hkl := wordL_len hk.1
  have b0 : Below B w (w.alloc (.cells #[.string key, .int .i64 op, .slice a l.length c] 50)) := (Below.refl _ _).alloc (by omega) _
  have k0 : OthersKept 5 (some b) w (w.alloc (.cells #[.string key, .int .i64 op, .slice a l.length c] 50)) := (OthersKept.refl _ _ _).alloc _
  have HP0 : Hid (Bd B b L (w.alloc (.cells #[.string key, .int .i64 op, .slice a l.length c] 50))) := Bd.below h ((Below.refl _ _).alloc (Nat.le_refl _) _)
  have hx0 := heap_alloc_new w (.cells #[.string key, .int .i64 op, .slice a l.length c] 50)
  have XB : Hid (∀ W : World, OthersKept 5 (some b) (w.alloc (.cells #[.string key, .int .i64 op, .slice a l.length c] 50)) W → W.cell? ⟨w.heap.size, 0, none⟩ = some (.string key) ∧ W.cell? ⟨w.heap.size, 1, none⟩ = some (.int .i64 op) ∧ W.cell? ⟨w.heap.size, 2, none⟩ = some (.slice a l.length c)) := fun W hW => by
    have hx := box_kept hW hx0 (by omega)
    exact ⟨by rw [cell_of_block hx]; rfl, by rw [cell_of_block hx]; rfl, by rw [cell_of_block hx]; rfl⟩
  have HT : Hid (∀ W, Below B w W → Tl W) := fun W hW => hT.below hW hB2
  have CV : Hid (∀ W L', Below B w W → Bd B b L' W → L'.length ≤ 1000000000000 → 0 < l.length → ∀ sg nm : List UInt8, sg.length ≤ 8 → nm.length ≤ 8 → Calls Tryd.prog 52 #[.pointer (some ⟨b, 0, none⟩), .slice a l.length c, .string (bs sg), .string (bs nm)] W (fun e w' => e = .returned (.tuple #[]) ∧ Bd B b (L' ++ valsT sg nm l) w' ∧ Below B W w' ∧ OthersKept 5 (some b) W w')) := fun W L' hW hb hl' hp sg nm hs hn =>
    writevals_any B b L' sg nm l S a c bb o W hb (Nat.le_trans hB hW.size) hB2 (HT.out W hW) hh (hl.keep (fun y hy => hW.block y (hS y hy)) (fun _ h => h)) hS hf hm hp hl' hs hn
  obtain ⟨v0, v1, v2⟩ := XB.out _ (OthersKept.refl _ _ _)
  obtain ⟨kw, hkw⟩ : ∃ kw, wordL key = kw := ⟨_, rfl⟩
  have HB0 := hmk b0
  have HK0 := hmk k0
  rcases hops with ⟨rfl | rfl, hlz⟩ | ⟨rfl | rfl, hlp⟩
  · have HTM : Hid (termL (key, 1, l) = kw) := by show _ = _; rw [← hkw]; rfl
    rw [hkw] at HWK hkl
    clear hkw b0 k0 hx0 h hh hl hS hf hk hg hlz
    have KP := OthersKept.refl 5 (some b) (w.alloc (.cells #[.string key, .int .i64 1, .slice a l.length c] 50))
    have HP := HP0.out
    go_enter Tryd.func30, Tryd.ntmps30
    have C1 := hmk (HWT.out (w.alloc (.cells #[.string key, .int .i64 1, .slice a l.length c] 50)) (HT.out _ HB0.out))
    go_wp2_with fail
    refine C1.out.mono ?_
    rintro e w2 ⟨rfl, b2⟩
    rw [HWK.out]
    have hz2 := b2.size
    have B2 : Below B w w2 := HB0.out.trans (b2.mono (by have := HB0.out.size; omega))
    have K2 := KP.trans (ok_below (b := some b) b2)
    have C2 := hmk (ws_any B b L kw w2 (Bd.below HP b2) (by omega) (by have := B2.size; omega))
    clear C1
    go_wp2_with fail
    refine C2.out.mono ?_
    rintro e w3 ⟨rfl, h3, b3, k3⟩
    have B3 : Below B w w3 := B2.trans b3
    have K3 := K2.trans k3
    obtain ⟨v0, v1, v2⟩ := XB.out _ K3
    clear C2
    go_wp2_with fail
    go_end0
    exact ⟨rfl, by rw [HTM.out]; exact h3, B3, HK0.out.trans K3⟩
  · have HTM : Hid (termL (key, 2, l) = [33] ++ kw) := by show _ = _; rw [← hkw]; rfl
    rw [hkw] at HWK hkl
    clear hkw b0 k0 hx0 h hh hl hS hf hk hg hlz
    have C0 := hmk (wb_any B b L 33 (by omega) (w.alloc (.cells #[.string key, .int .i64 2, .slice a l.length c] 50)) HP0.out (by omega) (by rw [alloc_size]; omega))
    go_enter Tryd.func30, Tryd.ntmps30
    go_wp2_with fail
    refine C0.out.mono ?_
    rintro e w1 ⟨rfl, h1, b1, k1⟩
    have B1 : Below B w w1 := HB0.out.trans b1
    have KP := (OthersKept.refl 5 (some b) (w.alloc (.cells #[.string key, .int .i64 2, .slice a l.length c] 50))).trans k1
    have HP := h1
    obtain ⟨z0, z1, z2⟩ := XB.out _ KP
    have C1 := hmk (HWT.out w1 (HT.out _ B1))
    go_wp2_with fail
    refine C1.out.mono ?_
    rintro e w2 ⟨rfl, b2⟩
    rw [HWK.out]
    have hz2 := b2.size
    have B2 : Below B w w2 := B1.trans (b2.mono (by have := B1.size; omega))
    have K2 := KP.trans (ok_below (b := some b) b2)
    have C2 := hmk (ws_any B b (L ++ [33]) kw w2 (Bd.below HP b2) (by simp; omega) (by have := B2.size; omega))
    clear C1
    go_wp2_with fail
    refine C2.out.mono ?_
    rintro e w3 ⟨rfl, h3, b3, k3⟩
    have B3 : Below B w w3 := B2.trans b3
    have K3 := K2.trans k3
    obtain ⟨v0, v1, v2⟩ := XB.out _ K3
    clear C2
    go_wp2_with fail
    go_end0
    exact ⟨rfl, by rw [HTM.out, ← List.append_assoc]; exact h3, B3, HK0.out.trans K3⟩
  · have HTM : Hid (termL (key, 3, l) = kw ++ valsT [61] [32, 105, 110, 32, 40] l) := by show _ = _; rw [← hkw]; exact termL_vals (by decide) (by decide)
    rw [hkw] at HWK hkl
    clear hkw b0 k0 hx0 h hh hl hS hf hk hg
    have KP := OthersKept.refl 5 (some b) (w.alloc (.cells #[.string key, .int .i64 3, .slice a l.length c] 50))
    have HP := HP0.out
    go_enter Tryd.func30, Tryd.ntmps30
    have C1 := hmk (HWT.out (w.alloc (.cells #[.string key, .int .i64 3, .slice a l.length c] 50)) (HT.out _ HB0.out))
    go_wp2_with fail
    refine C1.out.mono ?_
    rintro e w2 ⟨rfl, b2⟩
    rw [HWK.out]
    have hz2 := b2.size
    have B2 : Below B w w2 := HB0.out.trans (b2.mono (by have := HB0.out.size; omega))
    have K2 := KP.trans (ok_below (b := some b) b2)
    have C2 := hmk (ws_any B b L kw w2 (Bd.below HP b2) (by omega) (by have := B2.size; omega))
    clear C1
    go_wp2_with fail
    refine C2.out.mono ?_
    rintro e w3 ⟨rfl, h3, b3, k3⟩
    have B3 : Below B w w3 := B2.trans b3
    have K3 := K2.trans k3
    obtain ⟨v0, v1, v2⟩ := XB.out _ K3
    clear C2
    have C3 := hmk (CV.out w3 (L ++ kw) B3 h3 (by simp; omega) hlp [61] [32, 105, 110, 32, 40] (by decide) (by decide))
    go_wp2_with fail
    refine C3.out.mono ?_
    rintro e w4 ⟨rfl, h4, b4, k4⟩
    go_wp2_with fail
    go_end0
    exact ⟨rfl, by rw [HTM.out, ← List.append_assoc]; exact h4, B3.trans b4, HK0.out.trans (K3.trans k4)⟩
  · have HTM : Hid (termL (key, 4, l) = kw ++ valsT [33, 61] [32, 110, 111, 116, 105, 110, 32, 40] l) := by show _ = _; rw [← hkw]; exact termL_vals (by decide) (by decide)
    rw [hkw] at HWK hkl
    clear hkw b0 k0 hx0 h hh hl hS hf hk hg
    have KP := OthersKept.refl 5 (some b) (w.alloc (.cells #[.string key, .int .i64 4, .slice a l.length c] 50))
    have HP := HP0.out
    go_enter Tryd.func30, Tryd.ntmps30
    have C1 := hmk (HWT.out (w.alloc (.cells #[.string key, .int .i64 4, .slice a l.length c] 50)) (HT.out _ HB0.out))
    go_wp2_with fail
    refine C1.out.mono ?_
    rintro e w2 ⟨rfl, b2⟩
    rw [HWK.out]
    have hz2 := b2.size
    have B2 : Below B w w2 := HB0.out.trans (b2.mono (by have := HB0.out.size; omega))
    have K2 := KP.trans (ok_below (b := some b) b2)
    have C2 := hmk (ws_any B b L kw w2 (Bd.below HP b2) (by omega) (by have := B2.size; omega))
    clear C1
    go_wp2_with fail
    refine C2.out.mono ?_
    rintro e w3 ⟨rfl, h3, b3, k3⟩
    have B3 : Below B w w3 := B2.trans b3
    have K3 := K2.trans k3
    obtain ⟨v0, v1, v2⟩ := XB.out _ K3
    clear C2
    have C3 := hmk (CV.out w3 (L ++ kw) B3 h3 (by simp; omega) hlp [33, 61] [32, 110, 111, 116, 105, 110, 32, 40] (by decide) (by decide))
    go_wp2_with fail
    refine C3.out.mono ?_
    rintro e w4 ⟨rfl, h4, b4, k4⟩
    go_wp2_with fail
    go_end0
    exact ⟨rfl, by rw [HTM.out, ← List.append_assoc]; exact h4, B3.trans b4, HK0.out.trans (K3.trans k4)⟩
end Go.Proofs.YtagjbphadakifaaDoor
/- the program's Print. -/
namespace Go.Proofs.YtagjbphadakifaaDoor
open Go.RowKit Go.Lib
theorem bd_new (w : World) : Bd w.heap.size w.heap.size [] (w.alloc (.cells #[.pointer none, .slice none 0 0] 62)) :=
  .inl ⟨Nat.le_refl _, .slice none 0 0, heap_alloc_new w _, World.ownsRowF_nil _ _ _ _, by simp [Value.ownBlock]⟩
set_option maxHeartbeats 8000000 in
set_option maxRecDepth 100000 in
theorem print_any (l : List Trm) (R : Bool) (S : Nat → Prop) (al : Option Addr) (cl bl ol : Nat) (w : World)
    (hh : Headed al l.length cl bl ol) (hl : liesT R w S l bl ol) (hS : ∀ y, S y → y < w.heap.size) (hwt : wtT l ≤ 2147483647) (hT : Tl w) :
    Calls Tryd.prog 16 #[.slice al l.length cl] w (PnPost l w) := by
  have HH := hmk hh
  have HL := hmk hl
  have HG := hmk (issel_any l R S al cl bl ol w hh hl hS hT.t)
  have hm : l.length ≤ 2147483647 := Nat.le_trans (wtT_len l) hwt
  have HTX : Hid (textL l = if l.all goodB then bs (printI l l.length) else ⟨#[]⟩) := rfl
  have HER : Hid (errN l = if l.all goodB then 0 else 200) := rfl
  obtain ⟨tx, htx⟩ : ∃ tx, textL l = tx := ⟨_, rfl⟩
  obtain ⟨er, her⟩ : ∃ er, errN l = er := ⟨_, rfl⟩
  unfold PnPost
  rw [htx] at HTX ⊢
  rw [her] at HER ⊢
  clear hh hl htx her
  cases hg : l.all goodB with
  | false =>
    rw [hg] at HG HTX HER
    clear hg
    go_enter Tryd.func16, Tryd.ntmps16
    go_wp2_with (first | (go_at_call 24; refine HG.out.mono ?_; rintro e w1 ⟨rfl, B1⟩))
    go_ret2
    exact ⟨by rw [HTX.out, HER.out]; rfl, B1⟩
  | true =>
    rw [hg] at HG HTX HER
    simp only [if_true] at HTX HER
    have HGJ : Hid (∀ t ∈ l, goodB t = true) := fun t ht => by
      rw [List.all_eq_true] at hg
      exact hg t ht
    have HLW : Hid (∀ i, i ≤ l.length → (printI l i).length ≤ 884763262564) := fun i hi => by
      have h1 := printI_len HGJ.out i hi
      have h2 := wtT_take_le l i hi
      omega
    clear hg
    go_enter Tryd.func16, Tryd.ntmps16
    go_wp2_with (first | (go_at_call 24; refine HG.out.mono ?_; rintro e w1 ⟨rfl, B1⟩))
    have hz1 := B1.size
    have HT1 : Hid (∀ W, Below w1.heap.size w1 W → Tl W) := fun W hW => (hT.below B1 hT.z).below hW (by have := hT.z; omega)
    have hB2 : 2 < w1.heap.size := by have := hT.z; omega
    have HN : Hid (Bd w1.heap.size w1.heap.size [] (w1.alloc (.cells #[.pointer none, .slice none 0 0] 62))) := bd_new w1
    have HBn : Hid (Below w1.heap.size w1 (w1.alloc (.cells #[.pointer none, .slice none 0 0] 62))) := (Below.refl _ _).alloc (Nat.le_refl _) _
    have hzn : w1.heap.size < (w1.alloc (.cells #[.pointer none, .slice none 0 0] 62)).heap.size := by rw [alloc_size]; omega
    have HZN := hmk hzn
    clear hzn
    go_loopw [12] (fun e12 wr => ∃ (i : Nat) (X : List UInt8), i ≤ l.length ∧ e12 = .int .i64 (i : Int) ∧ Hid (X = printI l i) ∧ Hid (Bd w1.heap.size w1.heap.size X wr) ∧ Hid (Below w1.heap.size w1 wr) ∧ w1.heap.size < wr.heap.size) (fun e12 _ => l.length - (RowKit.intOf e12).toNat)
    case atStart => exact ⟨0, [], by omega, rfl, by show _ = _; rfl, HN, HBn, HZN.out⟩
    case round =>
      clear HN HBn HZN
      obtain ⟨i, X, hi, rfl, HX, HBd, HBi, hzi⟩ := hrel
      have hXl : X.length ≤ 884763262564 := by rw [HX.out]; exact HLW.out i hi
      by_cases hil : i < l.length
      · have y3 : (i : Int) < l.length := by omega
        obtain rfl : al = some ⟨bl, ol, none⟩ := HH.out.at_.resolve_left (by omega)
        obtain ⟨s1, cs, row1, t1⟩ := HL.out i hil
        obtain ⟨ta, tc, tb, to', rfl, _, hks, hd1, ts1, _⟩ := t1
        have Bw : Below w.heap.size w wr := B1.trans (HBi.out.mono hz1)
        obtain ⟨q, q0, q1⟩ := row3 (row1.keep (Bw.block _ (hS _ s1)))
        have hgi := HGJ.out _ (List.getElem_mem hil)
        have hwi := wtT_mem (List.getElem_mem hil)
        have hvl := wtS_len (l[i]).2.2
        have HJ := hmk (printI_next hil)
        have aA : Below w1.heap.size w1 (wr.alloc (.cells #[.string (l[i]).1, .int .i64 (l[i]).2.1, .slice ta (l[i]).2.2.length tc] 50)) := HBi.out.alloc (by omega) _
        have hxA := heap_alloc_new wr (.cells #[.string (l[i]).1, .int .i64 (l[i]).2.1, .slice ta (l[i]).2.2.length tc] 50)
        have HBA : Hid (Bd w1.heap.size w1.heap.size X (wr.alloc (.cells #[.string (l[i]).1, .int .i64 (l[i]).2.1, .slice ta (l[i]).2.2.length tc] 50))) := Bd.below HBd.out ((Below.refl _ _).alloc (Nat.le_refl _) _)
        have HXB : Hid (∀ W : World, OthersKept 5 (some w1.heap.size) (wr.alloc (.cells #[.string (l[i]).1, .int .i64 (l[i]).2.1, .slice ta (l[i]).2.2.length tc] 50)) W → W.cell? ⟨wr.heap.size, 0, none⟩ = some (.string (l[i]).1) ∧ W.cell? ⟨wr.heap.size, 1, none⟩ = some (.int .i64 (l[i]).2.1) ∧ W.cell? ⟨wr.heap.size, 2, none⟩ = some (.slice ta (l[i]).2.2.length tc)) := fun W hW => by
          have hx := box_kept hW hxA (by omega)
          exact ⟨by rw [cell_of_block hx]; rfl, by rw [cell_of_block hx]; rfl, by rw [cell_of_block hx]; rfl⟩
        have CT : Hid (∀ W L', Below w1.heap.size w1 W → Bd w1.heap.size w1.heap.size L' W → w1.heap.size < W.heap.size → L'.length ≤ 900000000000 → Calls Tryd.prog 30 #[.pointer (some ⟨w1.heap.size, 0, none⟩), .agg #[.string (l[i]).1, .int .i64 (l[i]).2.1, .slice ta (l[i]).2.2.length tc]] W (fun e w' => e = .returned (.tuple #[]) ∧ Bd w1.heap.size w1.heap.size (L' ++ termL l[i]) w' ∧ Below w1.heap.size W w' ∧ OthersKept 5 (some w1.heap.size) W w')) := fun W L' hW hb hlt hl' => by
          have hBW : Below w.heap.size w W := B1.trans (hW.mono hz1)
          exact writeterm_any w1.heap.size w1.heap.size L' (l[i]).1 (l[i]).2.1 (l[i]).2.2 S ta tc tb to' W hb (by omega) hB2 hlt (HT1.out W hW) hd1 (ts1.keep (fun y hy => hBW.block y (hS y hy)) (fun _ h => h)) (fun y hy => Nat.lt_of_lt_of_le (hS y hy) hz1) hgi (by omega) hl'
        obtain ⟨v0, v1, v2⟩ := HXB.out _ (OthersKept.refl _ _ _)
        have HAA := hmk aA
        have hza : w1.heap.size < (wr.alloc (.cells #[.string (l[i]).1, .int .i64 (l[i]).2.1, .slice ta (l[i]).2.2.length tc] 50)).heap.size := by rw [alloc_size]; omega
        have HZA := hmk hza
        clear row1 hd1 ts1 hgi hks hwi hvl hxA aA hza Bw
        obtain ⟨xt, hxt⟩ : ∃ xt, termL l[i] = xt := ⟨_, rfl⟩
        rw [hxt] at CT HJ
        clear hxt
        generalize l[i] = t at *
        by_cases hi0 : i = 0
        · have y4 : ¬ (0 : Int) < (i : Int) := by omega
          have HY : Hid (X ++ xt = printI l (i + 1)) := by show _ = _; rw [HX.out, HJ.out, if_neg (by omega)]; simp
          have C2 := hmk (CT.out _ X HAA.out HBA.out HZA.out (by omega))
          clear HX hXl hi0 CT HXB HBA HBd
          go_wp2_with fail
          refine C2.out.mono ?_
          rintro e w3 ⟨rfl, h3, b3, k3⟩
          have H3 := hmk h3
          have B3 : Hid (Below w1.heap.size w1 w3) := HAA.out.trans b3
          have hz3 : w1.heap.size < w3.heap.size := Nat.lt_of_lt_of_le HZA.out b3.size
          clear h3 b3 k3 C2
          go_wp2_with fail
          go_roundw
          case rel => exact ⟨i + 1, _, by omega, by go_num, HY, H3, B3, hz3⟩
          case measure => simp [RowKit.intOf]; omega
        · have y4 : (0 : Int) < (i : Int) := by omega
          have HY : Hid (X ++ [44] ++ xt = printI l (i + 1)) := by show _ = _; rw [HX.out, HJ.out, if_pos (by omega)]
          have C1 := hmk (wb_any w1.heap.size w1.heap.size X 44 (by omega) _ HBA.out (by omega) (Nat.le_of_lt HZA.out))
          clear HX hi0 HBA HBd
          go_wp2_with fail
          refine C1.out.mono ?_
          rintro e w2 ⟨rfl, h2, b2, k2⟩
          obtain ⟨z0, z1, z2⟩ := HXB.out _ k2
          have B2 : Hid (Below w1.heap.size w1 w2) := HAA.out.trans b2
          have hz2 : w1.heap.size < w2.heap.size := Nat.lt_of_lt_of_le HZA.out b2.size
          have C2 := hmk (CT.out w2 (X ++ [44]) B2.out h2 hz2 (by simp; omega))
          clear C1 h2 b2 k2 CT HXB hXl
          go_wp2_with fail
          refine C2.out.mono ?_
          rintro e w3 ⟨rfl, h3, b3, k3⟩
          have H3 := hmk h3
          have B3 : Hid (Below w1.heap.size w1 w3) := B2.out.trans b3
          have hz3 : w1.heap.size < w3.heap.size := Nat.lt_of_lt_of_le hz2 b3.size
          clear h3 b3 k3 C2
          go_wp2_with fail
          go_roundw
          case rel => exact ⟨i + 1, _, by omega, by go_num, HY, H3, B3, hz3⟩
          case measure => simp [RowKit.intOf]; omega
      · obtain rfl : i = l.length := by omega
        have y3 : ¬ (l.length : Int) < l.length := by omega
        have HE : Hid (tx = bs X) := by show _ = _; rw [HTX.out, HX.out]
        have CS := hmk (Tryd.String_any_k w1.heap.size w1.heap.size X wr HBd.out (Nat.le_of_lt hzi))
        clear HX hXl HBd
        go_wp2_with fail
        (try simp only [Exit.inBlock, Exit.then])
        go_wp2_with fail
        refine CS.out.mono ?_
        rintro e w4 ⟨rfl, _, b4, _⟩
        have HF : Hid (Below w.heap.size w w4) := B1.trans ((HBi.out.trans b4).mono hz1)
        go_wp2_with fail
        go_ret2
        exact ⟨by rw [HE.out, HER.out]; rfl, HF.out⟩
end Go.Proofs.YtagjbphadakifaaDoor
/- SelectorPrints: the law's own walk. -/
namespace Go.Proofs.YtagjbphadakifaaDoor
open Go.RowKit Go.Lib
set_option maxHeartbeats 8000000 in
set_option maxRecDepth 100000 in
theorem prints_walk (l : List Trm) (al : Option Addr) (cl bl ol : Nat) (w : World) (hT : Tl w)
    (hh : Headed al l.length cl bl ol) (hl : liesT false w (Old w) l bl ol) :
    Calls Tryd.prog 4 #[.slice al l.length cl] w (BPost true w) := by
  have HH := hmk hh
  have HL : Hid (∀ W, Below w.heap.size w W → liesT false W (Old w) l bl ol) := fun W hW => hl.keep (fun h => h) (fun y hy => hW.block y hy) (fun _ h => h)
  have HTB : Hid (∀ W, Below w.heap.size w W → Tl W) := fun W hW => hT.below hW hT.z
  have HOLD : Hid (∀ W, Below w.heap.size w W → ∀ y, Old w y → y < W.heap.size) := fun W hW y hy => Nat.lt_of_lt_of_le hy hW.size
  have H0 := hmk (terms_any l false (Old w) al cl bl ol w hh hl (fun y hy => hy))
  clear hh hl hT
  go_enter Tryd.func4, Tryd.ntmps4
  go_wp2_with fail
  refine H0.out.mono ?_
  rintro e w1 ⟨r, rfl, hr, b1⟩
  have B1 := hmk b1
  cases r with
  | true =>
    go_wp2_with fail
    go_ret
    exact ⟨rfl, B1.out⟩
  | false =>
    have hwt := hr rfl
    clear hr b1 H0
    have C1 := hmk (roomyT_any l (Old w) al cl bl ol w1 HH.out (HL.out _ B1.out) (HOLD.out _ B1.out) hwt)
    go_wp2_with fail
    refine C1.out.mono ?_
    rintro e w2 ⟨g, cap, rfl, hc1, hc2, hg1, hg2, hR, hRm, b2⟩
    have B2 : Hid (Below w.heap.size w w2) := B1.out.trans (b2.mono B1.out.size)
    have HRT : Hid (∀ W, Below w2.heap.size w2 W → liesT true W (New w1 w2) l g 0 ∧ (∀ k, k < 70 → W.cell? ⟨g, (l.length + k) * 3 + 1, none⟩ = some (.int .i64 (-9))) ∧ (∀ y, New w1 w2 y → y < W.heap.size) ∧ g < W.heap.size) := fun W hW => ⟨hR.keep (fun h => h) (fun y hy => hW.block y hy.2) (fun _ h => h), fun k hk => (hW.cell (p := ⟨g, (l.length + k) * 3 + 1, none⟩) hg2).trans (hRm k hk), fun y hy => Nat.lt_of_lt_of_le hy.2 hW.size, Nat.lt_of_lt_of_le hg2 hW.size⟩
    have hhg : Headed (some ⟨g, 0, none⟩) l.length cap g 0 := ⟨by omega, hc2, .inr rfl, fun h => by cases h⟩
    have HCAP : Hid (l.length + 70 ≤ cap ∧ cap ≤ maxLen) := ⟨hc1, hc2⟩
    have h2 := HRT.out w2 (Below.refl _ _)
    have C2 : Hid (Calls Tryd.prog 16 #[.slice (some ⟨g, 0, none⟩) l.length cap] w2 (PnPost l w2)) := print_any l true (New w1 w2) (some ⟨g, 0, none⟩) cap g 0 w2 hhg h2.1 h2.2.2.1 hwt (HTB.out _ B2.out)
    clear hR hRm b2 hc1 hc2 hg1 hg2 hhg C1 h2
    unfold PnPost at C2
    obtain ⟨tx, htx⟩ : ∃ tx, textL l = tx := ⟨_, rfl⟩
    obtain ⟨er, her⟩ : ∃ er, errN l = er := ⟨_, rfl⟩
    rw [htx, her] at C2
    go_wp2_with fail
    refine C2.out.mono ?_
    rintro e w3 ⟨rfl, b3⟩
    have B23 : Hid (Below w2.heap.size w2 w3) := b3
    have B3 : Hid (Below w.heap.size w w3) := B2.out.trans (b3.mono B2.out.size)
    have C3 := hmk (rprint_any l false (Old w) al cl bl ol w3 HH.out (HL.out _ B3.out) (HOLD.out _ B3.out) hwt)
    unfold PnPost at C3
    rw [htx, her] at C3
    clear b3 C2 htx her
    go_wp2_with fail
    refine C3.out.mono ?_
    rintro e w4 ⟨rfl, b4⟩
    have B24 : Hid (Below w2.heap.size w2 w4) := B23.out.trans (b4.mono B23.out.size)
    have B4 : Hid (Below w.heap.size w w4) := B3.out.trans (b4.mono B3.out.size)
    have h4 := HRT.out w4 B24.out
    have C4 : Hid (Calls Tryd.prog 13 #[.slice (some ⟨g, 0, none⟩) l.length cap, .slice al l.length cl] w4 (BPost true w4)) := keptT_any l (New w1 w2) (Old w) al g cap cl bl ol w4 HCAP.out.1 HCAP.out.2 h4.1 h4.2.1 h4.2.2.2 HH.out (HL.out _ B4.out) h4.2.2.1 (HOLD.out _ B4.out) hwt
    clear b4 C3 h4
    go_wp2_with fail
    refine C4.out.mono ?_
    rintro e w5 ⟨rfl, b5⟩
    have B5 : Hid (Below w.heap.size w w5) := B4.out.trans (b5.mono B4.out.size)
    have CSH : Hid (∀ W, Below w.heap.size w W → Calls Tryd.prog 7 #[.slice al l.length cl] W (ShPost l W)) := fun W hW => shaped_any l (Old w) al cl bl ol W HH.out (HL.out _ hW) (HOLD.out _ hW) hwt
    have XS := shaped_small l
    have hwX : wtT (shapedV l) ≤ 2147483647 := by have := wtT_le XS.2; omega
    have CPX : Hid (∀ W Wa, Below w.heap.size w Wa → Below Wa.heap.size Wa W → ∀ (a : Option Addr) (c b o : Nat), Headed a (shapedV l).length c b o → liesT false W (New Wa W) (shapedV l) b o → Calls Tryd.prog 16 #[.slice a (shapedV l).length c] W (PnPost (shapedV l) W)) := fun W Wa hWa hW a c b o h1 h2 =>
      print_any (shapedV l) false (New Wa W) a c b o W h1 h2 (fun y hy => hy.2) hwX (HTB.out W (hWa.trans (hW.mono hWa.size)))
    have CRX : Hid (∀ W Wa, Below Wa.heap.size Wa W → ∀ (a : Option Addr) (c b o : Nat), Headed a (shapedV l).length c b o → liesT false W (New Wa W) (shapedV l) b o → Calls Tryd.prog 17 #[.slice a (shapedV l).length c] W (PnPost (shapedV l) W)) := fun W Wa hW a c b o h1 h2 =>
      rprint_any (shapedV l) false (New Wa W) a c b o W h1 h2 (fun y hy => hy.2) hwX
    clear XS hwX b5 C4 HRT HCAP B23 B24
    unfold ShPost at CSH
    unfold PnPost at CPX CRX
    generalize textL (shapedV l) = tx2 at *
    generalize errN (shapedV l) = er2 at *
    generalize shapedV l = X at *
    have C6 := hmk (CSH.out w5 B5.out)
    go_wp2_with fail
    refine C6.out.mono ?_
    rintro e w6 ⟨xa, xc, xb, xo, rfl, hXh, hXl, b6⟩
    have B6 : Hid (Below w.heap.size w w6) := B5.out.trans (b6.mono B5.out.size)
    have C7 := hmk (CPX.out w6 w5 B5.out b6 xa xc xb xo hXh hXl)
    clear hXh hXl b6 C6
    go_wp2_with fail
    refine C7.out.mono ?_
    rintro e w7 ⟨rfl, b7⟩
    have B7 : Hid (Below w.heap.size w w7) := B6.out.trans (b7.mono B6.out.size)
    have C8 := hmk (CSH.out w7 B7.out)
    clear b7 C7
    go_wp2_with fail
    refine C8.out.mono ?_
    rintro e w8 ⟨za, zc, zb, zo, rfl, hZh, hZl, b8⟩
    have B8 : Hid (Below w.heap.size w w8) := B7.out.trans (b8.mono B7.out.size)
    have C9 := hmk (CRX.out w8 w7 b8 za zc zb zo hZh hZl)
    clear hZh hZl b8 C8
    go_wp2_with fail
    refine C9.out.mono ?_
    rintro e w9 ⟨rfl, b9⟩
    have B9 : Hid (Below w.heap.size w w9) := B8.out.trans (b9.mono B8.out.size)
    clear b9 C9
    go_wp2_with fail
    go_ret
    exact ⟨rfl, B9.out⟩
end Go.Proofs.YtagjbphadakifaaDoor
