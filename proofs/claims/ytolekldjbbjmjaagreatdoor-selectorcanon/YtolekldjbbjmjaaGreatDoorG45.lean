/- joined: PrnH AwkA -/
import Derived.Test.YtolekldjbbjmjaaGreatDoorPrnG
/- the program's Print. -/
set_option linter.unusedSimpArgs false
set_option linter.unusedVariables false
namespace Go.Proofs.YtolekldjbbjmjaaGreatDoor
open Go.RowKit Go.Lib
theorem bd_new (w : World) : Bd w.heap.size w.heap.size [] (w.alloc (.cells #[.pointer none, .slice none 0 0] 57)) :=
  .inl ⟨Nat.le_refl _, .slice none 0 0, heap_alloc_new w _, World.ownsRowF_nil _ _ _ _, by simp [Value.ownBlock]⟩
set_option maxHeartbeats 8000000 in
set_option maxRecDepth 100000 in
theorem print_any (l : List Trm) (R : Bool) (S : Nat → Prop) (al : Option Addr) (cl bl ol : Nat) (w : World)
    (hh : Headed al l.length cl bl ol) (hl : liesT R w S l bl ol) (hS : ∀ y, S y → y < w.heap.size) (hwt : wtT l ≤ 2147483647) (hT : Tl w) :
    Calls Tryz.prog 10 #[.slice al l.length cl] w (PnPost l w) := by
  have HH := hmk hh
  have HL := hmk hl
  have HG := hmk (issel_any l R S al cl bl ol w hh hl hS hT.t)
  have hm : l.length ≤ 2147483647 := Nat.le_trans (wtT_len l) hwt
  have HTX : Hid (textL l = if l.all goodB then bsP (printI l l.length) else ⟨#[]⟩) := rfl
  have HER : Hid (errN l = if l.all goodB then 0 else 200) := rfl
  obtain ⟨tx, htx⟩ : ∃ tx, textL l = tx := ⟨_, rfl⟩
  obtain ⟨er, her⟩ : ∃ er, errN l = er := ⟨_, rfl⟩
  unfold PnPost
  rw [htx] at HTX ⊢
  rw [her] at HER ⊢
  clear hh hl htx her
  cases hg : l.all goodB with
  | false =>
    rw [hg] at HG HTX HER
    clear hg
    go_enter Tryz.func10, Tryz.ntmps10
    go_wp2_with (first | (go_at_call 22; refine HG.out.mono ?_; rintro e w1 ⟨rfl, B1⟩))
    go_ret2
    exact ⟨by rw [HTX.out, HER.out]; rfl, B1⟩
  | true =>
    rw [hg] at HG HTX HER
    simp only [if_true] at HTX HER
    have HGJ : Hid (∀ t ∈ l, goodB t = true) := fun t ht => by
      rw [List.all_eq_true] at hg
      exact hg t ht
    have HLW : Hid (∀ i, i ≤ l.length → (printI l i).length ≤ 884763262564) := fun i hi => by
      have h1 := printI_len HGJ.out i hi
      have h2 := wtT_take_le l i hi
      omega
    clear hg
    go_enter Tryz.func10, Tryz.ntmps10
    go_wp2_with (first | (go_at_call 22; refine HG.out.mono ?_; rintro e w1 ⟨rfl, B1⟩))
    have hz1 := B1.size
    have HT1 : Hid (∀ W, Below w1.heap.size w1 W → Tl W) := fun W hW => (hT.below B1 hT.z).below hW (by have := hT.z; omega)
    have hB2 : 2 < w1.heap.size := by have := hT.z; omega
    have HN : Hid (Bd w1.heap.size w1.heap.size [] (w1.alloc (.cells #[.pointer none, .slice none 0 0] 57))) := bd_new w1
    have HBn : Hid (Below w1.heap.size w1 (w1.alloc (.cells #[.pointer none, .slice none 0 0] 57))) := (Below.refl _ _).alloc (Nat.le_refl _) _
    have hzn : w1.heap.size < (w1.alloc (.cells #[.pointer none, .slice none 0 0] 57)).heap.size := by rw [alloc_size]; omega
    have HZN := hmk hzn
    clear hzn
    go_loopw [12] (fun e12 wr => ∃ (i : Nat) (X : List UInt8), i ≤ l.length ∧ e12 = .int .i64 (i : Int) ∧ Hid (X = printI l i) ∧ Hid (Bd w1.heap.size w1.heap.size X wr) ∧ Hid (Below w1.heap.size w1 wr) ∧ w1.heap.size < wr.heap.size) (fun e12 _ => l.length - (RowKit.intOf e12).toNat)
    case atStart => exact ⟨0, [], by omega, rfl, by show _ = _; rfl, HN, HBn, HZN.out⟩
    case round =>
      clear HN HBn HZN
      obtain ⟨i, X, hi, rfl, HX, HBd, HBi, hzi⟩ := hrel
      have hXl : X.length ≤ 884763262564 := by rw [HX.out]; exact HLW.out i hi
      by_cases hil : i < l.length
      · have y3 : (i : Int) < l.length := by omega
        obtain rfl : al = some ⟨bl, ol, none⟩ := HH.out.at_.resolve_left (by omega)
        obtain ⟨s1, cs, row1, t1⟩ := HL.out i hil
        obtain ⟨ta, tc, tb, to', rfl, _, hks, hd1, ts1, _⟩ := t1
        have Bw : Below w.heap.size w wr := B1.trans (HBi.out.mono hz1)
        obtain ⟨q, q0, q1⟩ := row3 (row1.keep (Bw.block _ (hS _ s1)))
        have hgi := HGJ.out _ (List.getElem_mem hil)
        have hwi := wtT_mem (List.getElem_mem hil)
        have hvl := wtS_len (l[i]).2.2
        have HJ := hmk (printI_next hil)
        have aA : Below w1.heap.size w1 (wr.alloc (.cells #[.string (l[i]).1, .int .i64 (l[i]).2.1, .slice ta (l[i]).2.2.length tc] 35)) := HBi.out.alloc (by omega) _
        have hxA := heap_alloc_new wr (.cells #[.string (l[i]).1, .int .i64 (l[i]).2.1, .slice ta (l[i]).2.2.length tc] 35)
        have HBA : Hid (Bd w1.heap.size w1.heap.size X (wr.alloc (.cells #[.string (l[i]).1, .int .i64 (l[i]).2.1, .slice ta (l[i]).2.2.length tc] 35))) := Bd.below HBd.out ((Below.refl _ _).alloc (Nat.le_refl _) _)
        have HXB : Hid (∀ W : World, OthersKept 5 (some w1.heap.size) (wr.alloc (.cells #[.string (l[i]).1, .int .i64 (l[i]).2.1, .slice ta (l[i]).2.2.length tc] 35)) W → W.cell? ⟨wr.heap.size, 0, none⟩ = some (.string (l[i]).1) ∧ W.cell? ⟨wr.heap.size, 1, none⟩ = some (.int .i64 (l[i]).2.1) ∧ W.cell? ⟨wr.heap.size, 2, none⟩ = some (.slice ta (l[i]).2.2.length tc)) := fun W hW => by
          have hx := box_kept hW hxA (by omega)
          exact ⟨by rw [cell_of_block hx]; rfl, by rw [cell_of_block hx]; rfl, by rw [cell_of_block hx]; rfl⟩
        have CT : Hid (∀ W L', Below w1.heap.size w1 W → Bd w1.heap.size w1.heap.size L' W → w1.heap.size < W.heap.size → L'.length ≤ 900000000000 → Calls Tryz.prog 24 #[.pointer (some ⟨w1.heap.size, 0, none⟩), .agg #[.string (l[i]).1, .int .i64 (l[i]).2.1, .slice ta (l[i]).2.2.length tc]] W (fun e w' => e = .returned (.tuple #[]) ∧ Bd w1.heap.size w1.heap.size (L' ++ termL l[i]) w' ∧ Below w1.heap.size W w' ∧ OthersKept 5 (some w1.heap.size) W w')) := fun W L' hW hb hlt hl' => by
          have hBW : Below w.heap.size w W := B1.trans (hW.mono hz1)
          exact writeterm_any w1.heap.size w1.heap.size L' (l[i]).1 (l[i]).2.1 (l[i]).2.2 S ta tc tb to' W hb (by omega) hB2 hlt (HT1.out W hW) hd1 (ts1.keep (fun y hy => hBW.block y (hS y hy)) (fun _ h => h)) (fun y hy => Nat.lt_of_lt_of_le (hS y hy) hz1) hgi (by omega) hl'
        obtain ⟨v0, v1, v2⟩ := HXB.out _ (OthersKept.refl _ _ _)
        have HAA := hmk aA
        have hza : w1.heap.size < (wr.alloc (.cells #[.string (l[i]).1, .int .i64 (l[i]).2.1, .slice ta (l[i]).2.2.length tc] 35)).heap.size := by rw [alloc_size]; omega
        have HZA := hmk hza
        clear row1 hd1 ts1 hgi hks hwi hvl hxA aA hza Bw
        obtain ⟨xt, hxt⟩ : ∃ xt, termL l[i] = xt := ⟨_, rfl⟩
        rw [hxt] at CT HJ
        clear hxt
        generalize l[i] = t at *
        by_cases hi0 : i = 0
        · have y4 : ¬ (0 : Int) < (i : Int) := by omega
          have HY : Hid (X ++ xt = printI l (i + 1)) := by show _ = _; rw [HX.out, HJ.out, if_neg (by omega)]; simp
          have C2 := hmk (CT.out _ X HAA.out HBA.out HZA.out (by omega))
          clear HX hXl hi0 CT HXB HBA HBd
          go_wp2_with fail
          refine C2.out.mono ?_
          rintro e w3 ⟨rfl, h3, b3, k3⟩
          have H3 := hmk h3
          have B3 : Hid (Below w1.heap.size w1 w3) := HAA.out.trans b3
          have hz3 : w1.heap.size < w3.heap.size := Nat.lt_of_lt_of_le HZA.out b3.size
          clear h3 b3 k3 C2
          go_wp2_with fail
          go_roundw
          case rel => exact ⟨i + 1, _, by omega, by go_num, HY, H3, B3, hz3⟩
          case measure => simp [RowKit.intOf]; omega
        · have y4 : (0 : Int) < (i : Int) := by omega
          have HY : Hid (X ++ [44] ++ xt = printI l (i + 1)) := by show _ = _; rw [HX.out, HJ.out, if_pos (by omega)]
          have C1 := hmk (wb_any w1.heap.size w1.heap.size X 44 (by omega) _ HBA.out (by omega) (Nat.le_of_lt HZA.out))
          clear HX hi0 HBA HBd
          go_wp2_with fail
          refine C1.out.mono ?_
          rintro e w2 ⟨rfl, h2, b2, k2⟩
          obtain ⟨z0, z1, z2⟩ := HXB.out _ k2
          have B2 : Hid (Below w1.heap.size w1 w2) := HAA.out.trans b2
          have hz2 : w1.heap.size < w2.heap.size := Nat.lt_of_lt_of_le HZA.out b2.size
          have C2 := hmk (CT.out w2 (X ++ [44]) B2.out h2 hz2 (by simp; omega))
          clear C1 h2 b2 k2 CT HXB hXl
          go_wp2_with fail
          refine C2.out.mono ?_
          rintro e w3 ⟨rfl, h3, b3, k3⟩
          have H3 := hmk h3
          have B3 : Hid (Below w1.heap.size w1 w3) := B2.out.trans b3
          have hz3 : w1.heap.size < w3.heap.size := Nat.lt_of_lt_of_le hz2 b3.size
          clear h3 b3 k3 C2
          go_wp2_with fail
          go_roundw
          case rel => exact ⟨i + 1, _, by omega, by go_num, HY, H3, B3, hz3⟩
          case measure => simp [RowKit.intOf]; omega
      · obtain rfl : i = l.length := by omega
        have y3 : ¬ (l.length : Int) < l.length := by omega
        have HE : Hid (tx = bsP X) := by show _ = _; rw [HTX.out, HX.out]
        have CS := hmk (Tryz.String_any_k w1.heap.size w1.heap.size X wr HBd.out (Nat.le_of_lt hzi))
        clear HX hXl HBd
        go_wp2_with fail
        (try simp only [Exit.inBlock, Exit.then])
        go_wp2_with fail
        refine CS.out.mono ?_
        rintro e w4 ⟨rfl, _, b4, _⟩
        have HF : Hid (Below w.heap.size w w4) := B1.trans ((HBi.out.trans b4).mono hz1)
        go_wp2_with fail
        go_ret2
        exact ⟨by rw [HE.out, HER.out]; rfl, HF.out⟩
end Go.Proofs.YtolekldjbbjmjaaGreatDoor
/- what awake asks; plain. -/
namespace Go.Proofs.YtolekldjbbjmjaaGreatDoor
open Go.RowKit Go.Lib
abbrev awT : ByteArray := ⟨#[97, 32, 105, 110, 32, 40, 121, 44, 32, 120, 41, 44, 97, 33, 61, 120, 32, 44, 32, 34, 98, 32, 99, 34]⟩
abbrev awL : List Trm := [(⟨#[97]⟩, 3, [⟨#[120]⟩, ⟨#[121]⟩]), (⟨#[97]⟩, 4, [⟨#[120]⟩]), (⟨#[98, 32, 99]⟩, 1, [])]
abbrev awS : List Trm := [(⟨#[97]⟩, 3, [⟨#[121]⟩])]
abbrev awM (s : ByteArray) : List Mem := [(⟨#[97]⟩, .mk 3 false 0 s [] [])]
set_option maxRecDepth 100000 in
theorem aw_sort : sortB [⟨#[121]⟩, ⟨#[120]⟩] = [⟨#[120]⟩, ⟨#[121]⟩] := by
  have h : ¬ (([121] : List UInt8) ≤ [120]) := by decide
  simp [sortB, List.mergeSort, List.merge, bs, ofB, h]
set_option maxRecDepth 100000 in
theorem aw_text : textL awL = ⟨#[97, 32, 105, 110, 32, 40, 120, 44, 121, 41, 44, 97, 33, 61, 120, 44, 34, 98, 32, 99, 34]⟩ := by kernel_rfl
set_option maxRecDepth 100000 in
theorem aw_err : errN awL = 0 := by kernel_rfl
set_option maxRecDepth 100000 in
theorem aw_simp : simplV (awL.take 2) = some awS := by kernel_rfl
set_option maxRecDepth 100000 in
theorem aw_text2 : textL awS = ⟨#[97, 61, 121]⟩ := by kernel_rfl
set_option maxRecDepth 100000 in
theorem aw_err2 : errN awS = 0 := by kernel_rfl
set_option maxRecDepth 100000 in
theorem aw_yes : matchB awS (awM ⟨#[121]⟩) = true := by kernel_rfl
set_option maxRecDepth 100000 in
theorem aw_no : matchB awL (awM ⟨#[120]⟩) = false := by kernel_rfl
set_option maxRecDepth 100000 in
theorem aw_comp : compB (sortB [⟨#[121]⟩, ⟨#[120]⟩]) = [⟨#[120]⟩, ⟨#[121]⟩] := by rw [aw_sort]; kernel_rfl
set_option maxRecDepth 100000 in
theorem aw_par0 : parF awT.data.toList = (some [(⟨#[97]⟩, 3, compB (sortB [⟨#[121]⟩, ⟨#[120]⟩])), (⟨#[97]⟩, 4, [⟨#[120]⟩]), (⟨#[98, 32, 99]⟩, 1, [])], 24) := by kernel_rfl
theorem aw_par : parF awT.data.toList = (some awL, 24) := by rw [aw_par0, aw_comp]
end Go.Proofs.YtolekldjbbjmjaaGreatDoor
