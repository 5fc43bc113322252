import Derived.Test.YtolekldjbbjmjaaGreatDoorG43
/- writing values to a builder. -/
set_option linter.unusedSimpArgs false
set_option linter.unusedVariables false
namespace Go.Proofs.YtolekldjbbjmjaaGreatDoor
open Go.RowKit Go.Lib
abbrev Bd (B b : Nat) (L : List UInt8) (w : World) : Prop := IsBuilderF 57 5 B b (byteCells L) w
theorem bf_below {B b : Nat} {p : Value} {xs : List Value} {w w' : World} (h : BuilderAtF 57 5 B b p xs w) (hb : Below w.heap.size w w') : BuilderAtF 57 5 B b p xs w' := by
  have hlt := h.lt
  obtain ⟨hB, v, hk, hown, hne⟩ := h
  exact ⟨hB, v, (hb.block b hlt).trans hk, hown.kept (row := none) (grown_of_below hb) (by cases hv : v.ownBlock <;> simp), hne⟩
theorem Bd.below {B b : Nat} {L : List UInt8} {w w' : World} (h : Bd B b L w) (hb : Below w.heap.size w w') : Bd B b L w' := h.imp (fun h => bf_below h hb) (fun h => bf_below h hb)
theorem ok_below {b : Option Nat} {w w' : World} (h : Below w.heap.size w w') : OthersKept 5 b w w' := fun k _ hk _ _ => (h.block k (lt_blk hk)).trans hk
theorem ws_any (B b : Nat) (L x : List UInt8) (w : World) (h : Bd B b L w) (hlen : L.length + x.length ≤ 140737488355328) (hB : B ≤ w.heap.size) :
    Calls Tryz.prog 43 #[.pointer (some ⟨b, 0, none⟩), .string (bsP x)] w (fun e w' => e = .returned (.tuple #[.int .i64 (bsP x).size, .nilIface]) ∧ Bd B b (L ++ x) w' ∧ Below B w w' ∧ OthersKept 5 (some b) w w') := by
  refine (Tryz.WriteString_k B b (byteCells L) (bsP x) w h (by rw [byteCells_length, bs_size]; exact hlen) hB).mono ?_
  rintro e w1 ⟨rfl, h1, b1, k1⟩
  refine ⟨rfl, .inr ?_, b1, k1⟩
  have e : byteCells (L ++ x) = byteCells L ++ strCells (bsP x) := by simp [byteCells, strCells, bsP]
  rw [e]; exact h1
theorem wb_any (B b : Nat) (L : List UInt8) (c : Nat) (hc : c < 256) (w : World) (h : Bd B b L w) (hlen : L.length + 1 ≤ 140737488355328) (hB : B ≤ w.heap.size) :
    Calls Tryz.prog 23 #[.pointer (some ⟨b, 0, none⟩), .int .u8 (c : Int)] w (fun e w' => e = .returned .nilIface ∧ Bd B b (L ++ [UInt8.ofNat c]) w' ∧ Below B w w' ∧ OthersKept 5 (some b) w w') := by
  refine (Tryz.WriteByte_k B b (byteCells L) (c : Int) w h (by rw [byteCells_length]; exact hlen) hB).mono ?_
  rintro e w1 ⟨rfl, h1, b1, k1⟩
  refine ⟨rfl, .inr ?_, b1, k1⟩
  rw [cell_ofNat c hc, byteCells_snoc] at h1
  exact h1
def valsT (sg nm : List UInt8) (l : List ByteArray) : List UInt8 := if l.length = 1 then sg ++ joinI l 1 else nm ++ joinI l l.length ++ [41]
set_option maxHeartbeats 8000000 in
set_option maxRecDepth 100000 in
theorem writevals_any (B b : Nat) (L sg nm : List UInt8) (l : List ByteArray) (S : Nat → Prop) (a : Option Addr) (c bb o : Nat) (w : World) (h : Bd B b L w) (hB : B ≤ w.heap.size) (hB2 : 2 < B) (hT : Tl w)
    (hh : Headed a l.length c bb o) (hl : liesS w S l bb o) (hS : ∀ y, S y → y < B) (hf : Fine l) (hm : l.length ≤ 2147483647) (hp : 0 < l.length) (hL : L.length ≤ 1000000000000) (hs : sg.length ≤ 8) (hn : nm.length ≤ 8) :
    Calls Tryz.prog 45 #[.pointer (some ⟨b, 0, none⟩), .slice a l.length c, .string (bsP sg), .string (bsP nm)] w (fun e w' => e = .returned (.tuple #[]) ∧ Bd B b (L ++ valsT sg nm l) w' ∧ Below B w w' ∧ OthersKept 5 (some b) w w') := by
  have HF := hmk hf
  have HL : Hid (∀ W, Below B w W → liesS W S l bb o) := fun W hW => hl.keep (fun y hy => hW.block y (hS y hy)) (fun _ h => h)
  have HT : Hid (∀ W, Below B w W → Tl W) := fun W hW => hT.below hW hB2
  obtain rfl : a = some ⟨bb, o, none⟩ := hh.at_.resolve_left (by omega)
  have HH := hmk hh
  have hmx : l.length ≤ 9223372036854775807 := Nat.le_trans hh.le hh.max
  have HVT : Hid (valsT sg nm l = if l.length = 1 then sg ++ joinI l 1 else nm ++ joinI l l.length ++ [41]) := rfl
  obtain ⟨V, hV⟩ : ∃ V, valsT sg nm l = V := ⟨_, rfl⟩
  rw [hV] at HVT ⊢
  clear hV hf hT hh
  by_cases hl1 : l.length = 1
  · rw [if_pos hl1] at HVT
    obtain ⟨s1, _, q0⟩ := hl 0 (by omega)
    rw [Nat.add_zero] at q0
    have hb0 := hS _ s1
    have hx := HF.out _ (List.getElem_mem (show 0 < l.length by omega))
    have HX := hmk (fun W (hW : Tl W) => wordtext_any l[0] hx.1 hx.2 W hW)
    have HXS : Hid (wordS l[0] = bsP (wordL l[0])) := rfl
    have hj1 : joinI l 1 = wordL l[0] := by rw [joinI_next (by omega)]; simp [joinI]
    have hwl := wordL_len hx.1
    rw [hj1] at HVT
    have HQ0 : Hid (∀ W, Below B w W → W.cell? ⟨bb, o, none⟩ = some (.string l[0])) := fun W hW => (hW.cell (p := ⟨bb, o, none⟩) hb0).trans q0
    have y1 : ((l.length : Int) == 1) = true := by rw [beq_iff_eq]; omega
    have y2 : (0 : Int) < l.length := by omega
    clear hx hj1 q0
    generalize wordL l[0] = xw at *
    generalize l[0] = x at *
    clear hl1 hl
    have C1 := hmk (ws_any B b L sg w h (by omega) hB)
    go_enter Tryz.func45, Tryz.ntmps45
    go_wp2_with fail
    refine C1.out.mono ?_
    rintro e w1 ⟨rfl, h1, b1, k1⟩
    have hz1 := b1.size
    have z3 := HQ0.out _ b1
    have C2 := hmk (HX.out w1 (HT.out _ b1))
    go_wp2_with fail
    refine C2.out.mono ?_
    rintro e w2 ⟨rfl, b2⟩
    rw [HXS.out]
    have hz2 := b2.size
    have b2' : Below B w w2 := b1.trans (b2.mono (by omega))
    have C3 := hmk (ws_any B b (L ++ sg) xw w2 (Bd.below h1 b2) (by simp; omega) (by omega))
    clear C1 C2 h1
    go_wp2_with fail
    refine C3.out.mono ?_
    rintro e w3 ⟨rfl, h3, b3, k3⟩
    go_wp2_with fail
    refine bodyPost_ret (v := .tuple #[]) (results_none rfl _ _ _) rfl ?_
    exact ⟨rfl, by rw [HVT.out, ← List.append_assoc]; exact h3, b2'.trans b3, (k1.trans (ok_below b2)).trans k3⟩
  · rw [if_neg hl1] at HVT
    have y1 : ((l.length : Int) == 1) = false := by rw [beq_eq_false_iff_ne]; omega
    clear hl1 hl
    go_enter Tryz.func45, Tryz.ntmps45
    go_wp2_with fail
    go_loopw [8, 26] (fun e8 e26 wr => ∃ (i : Nat) (X : List UInt8), i ≤ l.length ∧ e26 = .int .i64 (i : Int) ∧ e8 = .string (bsP (if i = 0 then nm else [44])) ∧ Hid (X = if i = 0 then L else L ++ nm ++ joinI l i) ∧ Hid (Bd B b X wr) ∧ Below B w wr ∧ OthersKept 5 (some b) w wr) (fun _ e26 _ => l.length - (RowKit.intOf e26).toNat)
    case atStart => exact ⟨0, L, by omega, rfl, by simp, by show _ = _; rfl, h, Below.refl _ _, OthersKept.refl _ _ _⟩
    case round =>
      clear h
      obtain ⟨i, X, hi, rfl, rfl, HX, HBd, Bi, Ki⟩ := hrel
      have hzi := Bi.size
      have hjl := joinI_len HF.out i hi
      have hXl : X.length ≤ 2000000000000 := by
        rw [HX.out]
        split
        · omega
        · rw [List.length_append, List.length_append]; omega
      obtain ⟨op, hop⟩ : ∃ op, (if i = 0 then nm else [44]) = op := ⟨_, rfl⟩
      have hol : op.length ≤ 8 := by rw [← hop]; split; exact hn; simp
      rw [hop]
      by_cases hil : i < l.length
      · have y3 : (i : Int) < l.length := by omega
        obtain ⟨s1, _, q0⟩ := HL.out _ Bi i hil
        have hx := HF.out _ (List.getElem_mem hil)
        have HXC := hmk (fun W (hW : Tl W) => wordtext_any l[i] hx.1 hx.2 W hW)
        have HXS : Hid (wordS l[i] = bsP (wordL l[i])) := rfl
        have hwl := wordL_len hx.1
        have HJ := hmk (joinI_next hil)
        clear hx
        have HXN : Hid (X ++ op ++ wordL l[i] = if i + 1 = 0 then L else L ++ nm ++ joinI l (i + 1)) := by
          show _ = _
          rw [if_neg (by omega), HX.out, ← hop, HJ.out]
          by_cases hi0 : i = 0
          · subst hi0; simp [joinI]
          · rw [if_neg hi0, if_neg hi0, if_pos (by omega)]; simp
        generalize wordL l[i] = xw at *
        generalize l[i] = x at *
        have C1 := hmk (ws_any B b X op wr HBd.out (by omega) (by omega))
        clear HX HBd hop HJ
        go_wp2_with fail
        refine C1.out.mono ?_
        rintro e w1 ⟨rfl, h1, b1, k1⟩
        have hz1 := b1.size
        have b1' : Below B w w1 := Bi.trans b1
        have C2 := hmk (HXC.out w1 (HT.out _ b1'))
        go_wp2_with fail
        refine C2.out.mono ?_
        rintro e w2 ⟨rfl, b2⟩
        rw [HXS.out]
        have hz2 := b2.size
        have b2' : Below B w w2 := b1'.trans (b2.mono (by omega))
        have C3 := hmk (ws_any B b (X ++ op) xw w2 (Bd.below h1 b2) (by simp; omega) (by omega))
        clear C1 C2 h1
        go_wp2_with fail
        refine C3.out.mono ?_
        rintro e w3 ⟨rfl, h3, b3, k3⟩
        have K3 := ((Ki.trans k1).trans (ok_below b2)).trans k3
        have H3 : Hid (Bd B b (X ++ op ++ xw) w3) := h3
        have B3 := b2'.trans b3
        clear h3 C3
        go_wp2_with fail
        go_roundw
        case rel => exact ⟨i + 1, _, by omega, by go_num, by simp, HXN, H3, B3, K3⟩
        case measure => simp [RowKit.intOf]; omega
      · obtain rfl : i = l.length := by omega
        have y3 : ¬ (l.length : Int) < l.length := by omega
        have C4 := hmk (wb_any B b X 41 (by omega) wr HBd.out (by omega) (by omega))
        have HE : Hid (X ++ [41] = L ++ V) := by show _ = _; rw [HVT.out, HX.out, if_neg (by omega)]; simp
        clear HX HBd hop
        go_wp2_with fail
        (try simp only [Exit.inBlock, Exit.then])
        go_wp2_with fail
        refine C4.out.mono ?_
        rintro e w4 ⟨rfl, h4, b4, k4⟩
        go_wp2_with fail
        go_end0
        exact ⟨rfl, by rw [← HE.out]; exact h4, Bi.trans b4, Ki.trans k4⟩
end Go.Proofs.YtolekldjbbjmjaaGreatDoor
