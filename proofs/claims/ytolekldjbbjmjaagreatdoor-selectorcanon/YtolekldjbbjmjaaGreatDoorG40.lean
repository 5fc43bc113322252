/- joined: CanA PrnF -/
import Derived.Test.YtolekldjbbjmjaaGreatDoorG39
/- what was read of a text is read of it with anything behind: plain. -/
set_option linter.unusedSimpArgs false
set_option linter.unusedVariables false
namespace Go.Proofs.YtolekldjbbjmjaaGreatDoor.Q
theorem digs_app (aw : Bool) (u : List UInt8) : ∀ (r i c : Nat) (t : List UInt8), (digs aw r i c t).2.2 = true → digs aw r i c (t ++ u) = digs aw r i c t
  | 0, i, c, t, _ => by simp [digs]
  | r + 1, i, c, [], h => by simp [digs] at h
  | r + 1, i, c, x :: t, h => by
    rw [digs] at h
    split at h
    · cases h
    · rename_i g
      rw [List.cons_append, digs, digs, if_neg g, if_neg g]
      exact digs_app aw u r (i + 1) _ t h
theorem numF_app (u t : List UInt8) (h : (numF t).2.2 = true) : numF (t ++ u) = numF t := by
  have h0 := digs_le false 4 0 0 t
  unfold numF at h ⊢
  by_cases g : (digs false 4 0 0 t).2.2 = false
  · rw [if_pos g] at h; cases h
  have g' : (digs false 4 0 0 t).2.2 = true := by simpa using g
  have l0 : 4 ≤ t.length := by have := h0.2.2.2 g'; omega
  rw [if_neg g] at h
  rw [digs_app false u 4 0 0 t g', if_neg g, if_neg g]
  by_cases c : 55296 ≤ (digs false 4 0 0 t).1 ∧ (digs false 4 0 0 t).1 < 56320
  · rw [if_pos c] at h
    rw [if_pos c, if_pos c, List.drop_append_of_le_length l0]
    cases hx : t.drop 4 with
    | nil => rw [hx] at h; cases h
    | cons x r =>
      rw [hx] at h
      simp only [List.cons_append] at h ⊢
      by_cases hx2 : x.toNat ≠ 92
      · rw [if_pos hx2] at h; cases h
      · rw [if_neg hx2] at h
        rw [if_neg hx2, if_neg hx2]
        cases r with
        | nil => cases h
        | cons y r2 =>
          simp only [List.cons_append] at h ⊢
          by_cases hy : y.toNat ≠ 117
          · rw [if_pos hy] at h; cases h
          · rw [if_neg hy] at h
            rw [if_neg hy, if_neg hy]
            by_cases hd : (digs true 4 0 0 r2).2.2 = false
            · rw [if_pos hd] at h; cases h
            · rw [digs_app true u 4 0 0 r2 (by simpa using hd)]
  · rw [if_neg c, if_neg c]
theorem escF_app (u t : List UInt8) (h : (escF t).2.2 = true) : escF (t ++ u) = escF t := by
  cases t with
  | nil => cases h
  | cons x t =>
    rw [escF_cons] at h
    rw [List.cons_append, escF_cons, escF_cons]
    by_cases c : x.toNat = 117
    · rw [if_pos c] at h
      rw [if_pos c, if_pos c, numF_app u t h]
    · rw [if_neg c, if_neg c]
theorem nxtGo_app (n : Nat) (u : List UInt8) : ∀ (t : List UInt8) (k lo hi : Nat), (nxtGo n k lo hi t).2 = true → nxtGo n k lo hi (t ++ u) = nxtGo n k lo hi t
  | [], k, lo, hi, h => by
    by_cases c : n ≤ k
    · rw [nxtGo_full _ _ _ _ c, nxtGo_full _ _ _ _ c]
    · unfold nxtGo at h; rw [if_neg c] at h; cases h
  | x :: t, k, lo, hi, h => by
    by_cases c : n ≤ k
    · rw [nxtGo_full _ _ _ _ c, nxtGo_full _ _ _ _ c]
    · rw [nxtGo, if_neg c] at h
      rw [List.cons_append, nxtGo, nxtGo, if_neg c, if_neg c]
      by_cases d : x.toNat < lo ∨ hi < x.toNat
      · rw [if_pos d] at h; cases h
      · rw [if_neg d] at h
        rw [if_neg d, if_neg d]
        exact nxtGo_app n u t (k + 1) 128 191 h
theorem nxt_app (u : List UInt8) (x : UInt8) (t : List UInt8) (h : (nxt (x :: t)).2 = true) : nxt (x :: t ++ u) = nxt (x :: t) := by
  rw [nxt_cons] at h
  rw [List.cons_append, nxt_cons, nxt_cons]
  by_cases c : (bnd x.toNat).1 = 0
  · rw [if_pos c] at h; cases h
  · rw [if_neg c] at h
    rw [if_neg c, if_neg c]
    exact nxtGo_app _ u t _ _ _ h
theorem stp_app (u t : List UInt8) (h : (stp t).1 ≠ 0) : stp (t ++ u) = stp t := by
  cases t with
  | nil => exact absurd rfl h
  | cons x t =>
    rw [stp_cons] at h
    rw [List.cons_append, stp_cons, stp_cons]
    by_cases c0 : x.toNat < 32
    · rw [if_pos c0] at h; exact absurd rfl h
    rw [if_neg c0] at h
    rw [if_neg c0, if_neg c0]
    by_cases c1 : x.toNat = 34
    · rw [if_pos c1, if_pos c1]
    rw [if_neg c1] at h
    rw [if_neg c1, if_neg c1]
    by_cases c2 : x.toNat = 92
    · rw [if_pos c2] at h
      rw [if_pos c2, if_pos c2]
      by_cases c3 : (escF t).2.2 = true
      · rw [escF_app u t c3]
      · rw [if_neg c3] at h; exact absurd rfl h
    · rw [if_neg c2] at h
      rw [if_neg c2, if_neg c2]
      by_cases c3 : (nxt (x :: t)).2 = true
      · have e := nxt_app u x t c3
        rw [List.cons_append] at e
        have hl := (nxt_le (x :: t)).1
        rw [e, if_pos c3, if_pos c3, ← List.cons_append, List.take_append_of_le_length hl]
      · rw [if_neg c3] at h; exact absurd rfl h
theorem stp_fault (t : List UInt8) (h : (stp t).1 = 0) : (stp t).2.2.2 ≠ 0 := by
  cases t with
  | nil => simp [stp]
  | cons x t =>
    rw [stp_cons] at h ⊢
    repeat' split
    all_goals first | (simp; done) | (simp_all; done)
theorem unq_app (u : List UInt8) (d : Nat) : ∀ (f : Nat) (t : List UInt8) (k : Nat) (out : List UInt8) (f' : Nat), t.length < f → f ≤ f' → (unq f t k out).2.2 = 0 →
    unq f' (t ++ u) (k + d) out = ((unq f t k out).1, (unq f t k out).2.1 + d, 0)
  | 0, t, k, out, f', hf, hff, h => by omega
  | f + 1, t, k, out, 0, hf, hff, h => by omega
  | f + 1, t, k, out, f' + 1, hf, hff, h => by
    have hs := stp_le t
    by_cases c0 : (stp t).1 = 0
    · rw [unq, if_pos c0] at h
      exact absurd h (stp_fault t c0)
    have e := stp_app u t c0
    have h1 := hs.2.1 c0
    rw [unq, if_neg c0] at h
    by_cases c1 : (stp t).1 = 1
    · rw [unq, unq, e, if_neg c0, if_neg c0, if_pos c1, if_pos c1]
      simp only
      refine Prod.ext rfl (Prod.ext ?_ rfl)
      simp only
      omega
    · rw [if_neg c1] at h
      have hl : (t.drop (stp t).2.2.1).length = t.length - (stp t).2.2.1 := by simp
      have ih := unq_app u d f (t.drop (stp t).2.2.1) (k + (stp t).2.2.1) (out ++ (stp t).2.1) f' (by omega) (by omega) h
      rw [unq, unq, e, if_neg c0, if_neg c0, if_neg c1, if_neg c1, List.drop_append_of_le_length hs.1, ← ih]
      congr 1
      omega
end Go.Proofs.YtolekldjbbjmjaaGreatDoor.Q
namespace Go.Proofs.YtolekldjbbjmjaaGreatDoor
open Go.RowKit Go.Lib
theorem unqAll_app {l l' t v : List UInt8} {k k' : Nat} (h : At l k t) (h' : At l' k' (t ++ v)) (hk : k ≤ k') (hl : l.length ≤ l'.length) (h0 : (Q.unqAll l (k : Int)).2.2 = 0) :
    Q.unqAll l' (k' : Int) = ((Q.unqAll l (k : Int)).1, (Q.unqAll l (k : Int)).2.1 + (k' - k), 0) := by
  have e1 : ¬ ((k : Int) < 0 ∨ (l.length : Int) < k) := by have := h.1; omega
  have e2 : ¬ ((k' : Int) < 0 ∨ (l'.length : Int) < k') := by have := h'.1; omega
  unfold Q.unqAll at h0 ⊢
  rw [if_neg e1, Int.toNat_natCast] at h0
  rw [if_neg e2, if_neg e1, Int.toNat_natCast, Int.toNat_natCast]
  rw [h.2] at h0
  rw [h.2, h'.2]
  by_cases c : t.head? = some 34
  · rw [if_pos c] at h0
    cases t with
    | nil => cases c
    | cons x t =>
      have c' : (x :: t ++ v).head? = some 34 := c
      rw [if_pos c, if_pos c']
      have a1 : l.drop (k + 1) = t := h.one.2
      have a2 : l'.drop (k' + 1) = t ++ v := (At.one (c := x) (u := t ++ v) h').2
      rw [a1] at h0
      rw [a1, a2]
      have hn := h.len
      rw [List.length_cons] at hn
      have := Q.unq_app v (k' - k) (l.length + 1) t (k + 1) [] (l'.length + 1) (by omega) (by omega) h0
      rw [show k + 1 + (k' - k) = k' + 1 by omega] at this
      exact this
  · rw [if_neg c] at h0; cases h0
end Go.Proofs.YtolekldjbbjmjaaGreatDoor
/- writing values to a builder. -/
namespace Go.Proofs.YtolekldjbbjmjaaGreatDoor
open Go.RowKit Go.Lib
abbrev Bd (B b : Nat) (L : List UInt8) (w : World) : Prop := IsBuilderF 57 5 B b (byteCells L) w
theorem bf_below {B b : Nat} {p : Value} {xs : List Value} {w w' : World} (h : BuilderAtF 57 5 B b p xs w) (hb : Below w.heap.size w w') : BuilderAtF 57 5 B b p xs w' := by
  have hlt := h.lt
  obtain ⟨hB, v, hk, hown, hne⟩ := h
  exact ⟨hB, v, (hb.block b hlt).trans hk, hown.kept (row := none) (grown_of_below hb) (by cases hv : v.ownBlock <;> simp), hne⟩
theorem Bd.below {B b : Nat} {L : List UInt8} {w w' : World} (h : Bd B b L w) (hb : Below w.heap.size w w') : Bd B b L w' := h.imp (fun h => bf_below h hb) (fun h => bf_below h hb)
theorem ok_below {b : Option Nat} {w w' : World} (h : Below w.heap.size w w') : OthersKept 5 b w w' := fun k _ hk _ _ => (h.block k (lt_blk hk)).trans hk
theorem ws_any (B b : Nat) (L x : List UInt8) (w : World) (h : Bd B b L w) (hlen : L.length + x.length ≤ 140737488355328) (hB : B ≤ w.heap.size) :
    Calls Tryz.prog 43 #[.pointer (some ⟨b, 0, none⟩), .string (bsP x)] w (fun e w' => e = .returned (.tuple #[.int .i64 (bsP x).size, .nilIface]) ∧ Bd B b (L ++ x) w' ∧ Below B w w' ∧ OthersKept 5 (some b) w w') := by
  refine (Tryz.WriteString_k B b (byteCells L) (bsP x) w h (by rw [byteCells_length, bs_size]; exact hlen) hB).mono ?_
  rintro e w1 ⟨rfl, h1, b1, k1⟩
  refine ⟨rfl, .inr ?_, b1, k1⟩
  have e : byteCells (L ++ x) = byteCells L ++ strCells (bsP x) := by simp [byteCells, strCells, bsP]
  rw [e]; exact h1
theorem wb_any (B b : Nat) (L : List UInt8) (c : Nat) (hc : c < 256) (w : World) (h : Bd B b L w) (hlen : L.length + 1 ≤ 140737488355328) (hB : B ≤ w.heap.size) :
    Calls Tryz.prog 23 #[.pointer (some ⟨b, 0, none⟩), .int .u8 (c : Int)] w (fun e w' => e = .returned .nilIface ∧ Bd B b (L ++ [UInt8.ofNat c]) w' ∧ Below B w w' ∧ OthersKept 5 (some b) w w') := by
  refine (Tryz.WriteByte_k B b (byteCells L) (c : Int) w h (by rw [byteCells_length]; exact hlen) hB).mono ?_
  rintro e w1 ⟨rfl, h1, b1, k1⟩
  refine ⟨rfl, .inr ?_, b1, k1⟩
  rw [cell_ofNat c hc, byteCells_snoc] at h1
  exact h1
def valsT (sg nm : List UInt8) (l : List ByteArray) : List UInt8 := if l.length = 1 then sg ++ joinI l 1 else nm ++ joinI l l.length ++ [41]
set_option maxHeartbeats 8000000 in
set_option maxRecDepth 100000 in
theorem writevals_any (B b : Nat) (L sg nm : List UInt8) (l : List ByteArray) (S : Nat → Prop) (a : Option Addr) (c bb o : Nat) (w : World) (h : Bd B b L w) (hB : B ≤ w.heap.size) (hB2 : 2 < B) (hT : Tl w)
    (hh : Headed a l.length c bb o) (hl : liesS w S l bb o) (hS : ∀ y, S y → y < B) (hf : Fine l) (hm : l.length ≤ 2147483647) (hp : 0 < l.length) (hL : L.length ≤ 1000000000000) (hs : sg.length ≤ 8) (hn : nm.length ≤ 8) :
    Calls Tryz.prog 45 #[.pointer (some ⟨b, 0, none⟩), .slice a l.length c, .string (bsP sg), .string (bsP nm)] w (fun e w' => e = .returned (.tuple #[]) ∧ Bd B b (L ++ valsT sg nm l) w' ∧ Below B w w' ∧ OthersKept 5 (some b) w w') := by
  have HF := hmk hf
  have HL : Hid (∀ W, Below B w W → liesS W S l bb o) := fun W hW => hl.keep (fun y hy => hW.block y (hS y hy)) (fun _ h => h)
  have HT : Hid (∀ W, Below B w W → Tl W) := fun W hW => hT.below hW hB2
  obtain rfl : a = some ⟨bb, o, none⟩ := hh.at_.resolve_left (by omega)
  have HH := hmk hh
  have hmx : l.length ≤ 9223372036854775807 := Nat.le_trans hh.le hh.max
  have HVT : Hid (valsT sg nm l = if l.length = 1 then sg ++ joinI l 1 else nm ++ joinI l l.length ++ [41]) := rfl
  obtain ⟨V, hV⟩ : ∃ V, valsT sg nm l = V := ⟨_, rfl⟩
  rw [hV] at HVT ⊢
  clear hV hf hT hh
  by_cases hl1 : l.length = 1
  · rw [if_pos hl1] at HVT
    obtain ⟨s1, _, q0⟩ := hl 0 (by omega)
    rw [Nat.add_zero] at q0
    have hb0 := hS _ s1
    have hx := HF.out _ (List.getElem_mem (show 0 < l.length by omega))
    have HX := hmk (fun W (hW : Tl W) => wordtext_any l[0] hx.1 hx.2 W hW)
    have HXS : Hid (wordS l[0] = bsP (wordL l[0])) := rfl
    have hj1 : joinI l 1 = wordL l[0] := by rw [joinI_next (by omega)]; simp [joinI]
    have hwl := wordL_len hx.1
    rw [hj1] at HVT
    have HQ0 : Hid (∀ W, Below B w W → W.cell? ⟨bb, o, none⟩ = some (.string l[0])) := fun W hW => (hW.cell (p := ⟨bb, o, none⟩) hb0).trans q0
    have y1 : ((l.length : Int) == 1) = true := by rw [beq_iff_eq]; omega
    have y2 : (0 : Int) < l.length := by omega
    clear hx hj1 q0
    generalize wordL l[0] = xw at *
    generalize l[0] = x at *
    clear hl1 hl
    have C1 := hmk (ws_any B b L sg w h (by omega) hB)
    go_enter Tryz.func45, Tryz.ntmps45
    go_wp2_with fail
    refine C1.out.mono ?_
    rintro e w1 ⟨rfl, h1, b1, k1⟩
    have hz1 := b1.size
    have z3 := HQ0.out _ b1
    have C2 := hmk (HX.out w1 (HT.out _ b1))
    go_wp2_with fail
    refine C2.out.mono ?_
    rintro e w2 ⟨rfl, b2⟩
    rw [HXS.out]
    have hz2 := b2.size
    have b2' : Below B w w2 := b1.trans (b2.mono (by omega))
    have C3 := hmk (ws_any B b (L ++ sg) xw w2 (Bd.below h1 b2) (by simp; omega) (by omega))
    clear C1 C2 h1
    go_wp2_with fail
    refine C3.out.mono ?_
    rintro e w3 ⟨rfl, h3, b3, k3⟩
    go_wp2_with fail
    refine bodyPost_ret (v := .tuple #[]) (results_none rfl _ _ _) rfl ?_
    exact ⟨rfl, by rw [HVT.out, ← List.append_assoc]; exact h3, b2'.trans b3, (k1.trans (ok_below b2)).trans k3⟩
  · rw [if_neg hl1] at HVT
    have y1 : ((l.length : Int) == 1) = false := by rw [beq_eq_false_iff_ne]; omega
    clear hl1 hl
    go_enter Tryz.func45, Tryz.ntmps45
    go_wp2_with fail
    go_loopw [8, 26] (fun e8 e26 wr => ∃ (i : Nat) (X : List UInt8), i ≤ l.length ∧ e26 = .int .i64 (i : Int) ∧ e8 = .string (bsP (if i = 0 then nm else [44])) ∧ Hid (X = if i = 0 then L else L ++ nm ++ joinI l i) ∧ Hid (Bd B b X wr) ∧ Below B w wr ∧ OthersKept 5 (some b) w wr) (fun _ e26 _ => l.length - (RowKit.intOf e26).toNat)
    case atStart => exact ⟨0, L, by omega, rfl, by simp, by show _ = _; rfl, h, Below.refl _ _, OthersKept.refl _ _ _⟩
    case round =>
      clear h
      obtain ⟨i, X, hi, rfl, rfl, HX, HBd, Bi, Ki⟩ := hrel
      have hzi := Bi.size
      have hjl := joinI_len HF.out i hi
      have hXl : X.length ≤ 2000000000000 := by
        rw [HX.out]
        split
        · omega
        · rw [List.length_append, List.length_append]; omega
      obtain ⟨op, hop⟩ : ∃ op, (if i = 0 then nm else [44]) = op := ⟨_, rfl⟩
      have hol : op.length ≤ 8 := by rw [← hop]; split; exact hn; simp
      rw [hop]
      by_cases hil : i < l.length
      · have y3 : (i : Int) < l.length := by omega
        obtain ⟨s1, _, q0⟩ := HL.out _ Bi i hil
        have hx := HF.out _ (List.getElem_mem hil)
        have HXC := hmk (fun W (hW : Tl W) => wordtext_any l[i] hx.1 hx.2 W hW)
        have HXS : Hid (wordS l[i] = bsP (wordL l[i])) := rfl
        have hwl := wordL_len hx.1
        have HJ := hmk (joinI_next hil)
        clear hx
        have HXN : Hid (X ++ op ++ wordL l[i] = if i + 1 = 0 then L else L ++ nm ++ joinI l (i + 1)) := by
          show _ = _
          rw [if_neg (by omega), HX.out, ← hop, HJ.out]
          by_cases hi0 : i = 0
          · subst hi0; simp [joinI]
          · rw [if_neg hi0, if_neg hi0, if_pos (by omega)]; simp
        generalize wordL l[i] = xw at *
        generalize l[i] = x at *
        have C1 := hmk (ws_any B b X op wr HBd.out (by omega) (by omega))
        clear HX HBd hop HJ
        go_wp2_with fail
        refine C1.out.mono ?_
        rintro e w1 ⟨rfl, h1, b1, k1⟩
        have hz1 := b1.size
        have b1' : Below B w w1 := Bi.trans b1
        have C2 := hmk (HXC.out w1 (HT.out _ b1'))
        go_wp2_with fail
        refine C2.out.mono ?_
        rintro e w2 ⟨rfl, b2⟩
        rw [HXS.out]
        have hz2 := b2.size
        have b2' : Below B w w2 := b1'.trans (b2.mono (by omega))
        have C3 := hmk (ws_any B b (X ++ op) xw w2 (Bd.below h1 b2) (by simp; omega) (by omega))
        clear C1 C2 h1
        go_wp2_with fail
        refine C3.out.mono ?_
        rintro e w3 ⟨rfl, h3, b3, k3⟩
        have K3 := ((Ki.trans k1).trans (ok_below b2)).trans k3
        have H3 : Hid (Bd B b (X ++ op ++ xw) w3) := h3
        have B3 := b2'.trans b3
        clear h3 C3
        go_wp2_with fail
        go_roundw
        case rel => exact ⟨i + 1, _, by omega, by go_num, by simp, HXN, H3, B3, K3⟩
        case measure => simp [RowKit.intOf]; omega
      · obtain rfl : i = l.length := by omega
        have y3 : ¬ (l.length : Int) < l.length := by omega
        have C4 := hmk (wb_any B b X 41 (by omega) wr HBd.out (by omega) (by omega))
        have HE : Hid (X ++ [41] = L ++ V) := by show _ = _; rw [HVT.out, HX.out, if_neg (by omega)]; simp
        clear HX HBd hop
        go_wp2_with fail
        (try simp only [Exit.inBlock, Exit.then])
        go_wp2_with fail
        refine C4.out.mono ?_
        rintro e w4 ⟨rfl, h4, b4, k4⟩
        go_wp2_with fail
        go_end0
        exact ⟨rfl, by rw [← HE.out]; exact h4, Bi.trans b4, Ki.trans k4⟩
end Go.Proofs.YtolekldjbbjmjaaGreatDoor
