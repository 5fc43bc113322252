import Derived.Test.YtjgbjhahmgegiaaGreatDoorPtrC
import Derived.Laws.AppendOwn
import Derived.Deep.AppendLies
/- freeholdref04.Parse. -/
set_option linter.unusedSimpArgs false
set_option linter.unusedVariables false
namespace Go.Proofs.YtjgbjhahmgegiaaGreatDoor
open Go.RowKit Go.Lib
theorem ba_data (a b : ByteArray) : (a ++ b).data.toList = a.data.toList ++ b.data.toList := by simp [ByteArray.data_append]
theorem ba_appsize (a b : ByteArray) : (a ++ b).size = a.size + b.size := by
  rw [← toList_size, ba_data, List.length_append, toList_size, toList_size]
theorem ext_at (x : ByteArray) (k : Nat) (h : k < x.size) : (x.extract k (k + 1)).data.toList = [x[k]] := by
  rw [ByteArray.data_extract, Array.toList_extract, List.extract_eq_take_drop, Nat.add_sub_cancel_left]
  have h2 : k < x.data.toList.length := by rw [toList_size]; exact h
  rw [List.drop_eq_getElem_cons h2, List.take_succ_cons, List.take_zero]
  rfl
def strs (l : List ByteArray) : List Value := l.map Value.string
/-- a row of strings of the call's own -/
def OwnS (B : Nat) (v : Value) (l : List ByteArray) (w : World) : Prop := w.ownsRow B 9 1 v l.length (strs l)
theorem info9 : (Tryz.prog.info? 9).map (fun i => (i.zero, i.size, i.bytes)) = some (some (.string ⟨#[]⟩), 1, 16) := by kernel_rfl
theorem OwnS.lies {B : Nat} {v : Value} {l : List ByteArray} {w : World} (h : OwnS B v l w) : LiesS w v l := by
  have h' := h
  rcases h.2 with ⟨rfl, e⟩ | ⟨g, cap, cur, rfl, _, _, hle, _⟩
  · exact ⟨⟨none, 0, by rw [e]⟩, fun h0 => by omega⟩
  · refine ⟨⟨_, _, rfl⟩, fun h0 => ⟨g, 0, cap, rfl, hle, (World.ownsRow.lt h' g rfl).2, fun j hj => ?_⟩⟩
    have := World.ownsRow.cells h' (g := g) rfl j (.string l[j]) (by simp [strs, hj])
    rw [Go.WideShapes.add_plain] at this
    simpa using this
theorem wpl_appS {ops : Array Oper} {rest : List Oper} {o : Oper} {a : Act} {Q : Exit → Act → World → Prop} (w : World) (hgd : o.guard = none) (s x : Operand)
    (ho : o.op = .call { callee := .builtin .append, args := #[s, x], argTypes := #[75, 75] }) (B : Nat) (v : Value) (l : List ByteArray) (hs : a.eval s = v) (hown : OwnS B v l w)
    (g : Nat) (t : ByteArray) (hx : a.eval x = .slice (some ⟨g, 0, none⟩) 1 1) (hblk : w.heap[g]? = some (.cells #[.string t] 9))
    (hlen : l.length ≤ 4294967296) (hbase : B ≤ w.heap.size)
    (h : ∀ v' w', OwnS B v' (l ++ [t]) w' → Below B w w' → wpList Tryz.prog ops Q rest (a.put o.dst v') w') : wpList Tryz.prog ops Q (o :: rest) a w := by
  obtain ⟨i0, hi, hz0, hz1, hz2⟩ := info_parts info9
  refine wpList_append_own w hgd s x 75 ho B 9 i0 (.string ⟨#[]⟩) 1 16 Tryz.underlying75 hi hz0 hz1 hz2 rfl (by decide) v l.length (strs l) hs hown ⟨g, 0, none⟩ 1 1 [.string t] hx
    rfl (World.news_of_block hblk) (fun u hu => by rw [List.mem_singleton.1 hu]; rfl) (by unfold maxLen; omega) (by omega) hbase ?_
  intro v' w' h1 h2 _
  refine h v' w' ?_ ((Below.refl B w).grown h2 hbase (fun k hk => (World.ownsRow.lt hown k hk).1))
  show w'.ownsRow B 9 1 v' (l ++ [t]).length (strs (l ++ [t]))
  have e : strs (l ++ [t]) = strs l ++ [.string t] := by simp [strs]
  rw [e, List.length_append]
  exact h1
theorem OwnS.alloc {B : Nat} {v : Value} {l : List ByteArray} {w : World} (h : OwnS B v l w) (o : Obj) : OwnS B v l (w.alloc o) :=
  World.ownsRow.kept h (World.grownBy_alloc w o none) (by cases v.ownBlock <;> simp)
theorem dat_snoc (ts : List ByteArray) (t : ByteArray) : dat (ts ++ [t]) = dat ts ++ [t.data.toList] := by simp [dat]
theorem rpF_nil (tok : List UInt8) : rpF tok [] = if validD tok = true then some [tok] else none := by rw [rpF]
theorem rpF_slash (tok t : List UInt8) : rpF tok (47 :: t) = if validD tok = true then (rpF [] t).map (tok :: ·) else none := by rw [rpF.eq_def]; simp
theorem rpF_plain (tok t : List UInt8) (x : UInt8) (h1 : ¬ x = 47) (h2 : ¬ x = 126) : rpF tok (x :: t) = rpF (tok ++ [x]) t := by rw [rpF.eq_def]; simp only [if_neg h1, if_neg h2]
theorem rpF_end (tok : List UInt8) : rpF tok [126] = none := by rw [rpF.eq_def]; simp
theorem rpF_tilde (tok u : List UInt8) (y : UInt8) : rpF tok (126 :: y :: u) = if y = 48 then rpF (tok ++ [126]) u else if y = 49 then rpF (tok ++ [47]) u else none := by rw [rpF.eq_def]; simp
theorem drop_at (p : ByteArray) (i : Nat) (h : i < p.size) : p.data.toList.drop i = p[i] :: p.data.toList.drop (i + 1) := by
  rw [List.drop_eq_getElem_cons (by rw [toList_size]; exact h)]
  rfl
/-- the tokens in memory of the call's own -/
def PaOwn (o : Option (List (List UInt8))) (w : World) (e : Ending) (w' : World) : Prop := ∃ (v : Value) (l : List ByteArray), e = .returned (.tuple #[v, .int .i64 (if o.isSome then 0 else 40)]) ∧ dat l = o.getD [] ∧ OwnS w.heap.size v l w' ∧ Below w.heap.size w w'
set_option maxHeartbeats 4000000 in
set_option maxRecDepth 100000 in
theorem rparse_own (p : ByteArray) (w : World) (hp : p.size ≤ 2147483648) : Calls Tryz.prog 53 #[.string p] w (PaOwn (parF p.data.toList) w) := by
  have hpl := toList_size p
  obtain ⟨O, hO⟩ : ∃ O, parF p.data.toList = O := ⟨_, rfl⟩
  rw [hO]
  cases hd : p.data.toList with
  | nil =>
    rw [hd] at hO hpl
    obtain rfl : p = ⟨#[]⟩ := by
      rcases p with ⟨⟨q⟩⟩
      simp only at hd
      rw [hd]
    have HR : Hid (O = some []) := by show _ = _; rw [← hO, parF]
    clear hO
    go_enter Tryz.func53, Tryz.ntmps53
    go_wp2_with fail
    go_ret2
    exact ⟨_, [], by rw [HR.out]; rfl, by rw [HR.out]; rfl, World.ownsRow_nil _ _ 9 1, Below.refl _ _⟩
  | cons x q =>
    rw [hd] at hO hpl
    have hne : p.toList ≠ [] := by rw [ByteArray.toList_eq, hd]; simp
    have e0 : (p.toList == []) = false := by simpa using hne
    have hs0 : 0 < p.size := by rw [← hpl]; simp
    have hx0 : p[0] = x := by
      have : p.data.toList[0]? = some x := by rw [hd]; rfl
      rw [Array.getElem?_toList] at this
      exact Option.some.inj ((Array.getElem?_eq_getElem (xs := p.data) hs0).symm.trans this)
    have hx0n : (p[0]).toNat = x.toNat := by rw [hx0]
    clear hx0 hne
    by_cases h47 : x = 47
    · subst h47
      have hx47 : ((p[0]).toNat : Int) = 47 := by rw [hx0n]; rfl
      have HO0 : Hid (O = rpF [] (p.data.toList.drop 1)) := by show _ = _; rw [← hO, par_rp, hd]; rfl
      have HDr : Hid (∀ i (h : i < p.size), p.data.toList.drop i = p[i] :: p.data.toList.drop (i + 1)) := fun i h => drop_at p i h
      have HDe : Hid (p.data.toList.drop p.size = []) := by show _ = _; rw [List.drop_eq_nil_iff, toList_size]; exact Nat.le_refl _
      clear hpl hx0n hd hO
      have z1 : (⟨#[126]⟩ : ByteArray).size = 1 := rfl
      have z2 : (⟨#[47]⟩ : ByteArray).size = 1 := rfl
      go_enter Tryz.func53, Tryz.ntmps53
      go_wp2_with fail
      go_loopw [4, 5, 6] (fun e4 e5 e6 wr => ∃ (i : Nat) (tok : ByteArray) (ts : List ByteArray) (bv : Value), bv = e4 ∧ e5 = .string tok ∧ e6 = .int .i64 (i : Int) ∧ 1 ≤ i ∧ i ≤ p.size + 1 ∧ ts.length ≤ i ∧ tok.size ≤ i ∧ OwnS w.heap.size bv ts wr ∧ Hid (Below w.heap.size w wr) ∧ Hid ((i ≤ p.size → O = (rpF tok.data.toList (p.data.toList.drop i)).map (dat ts ++ ·)) ∧ (i = p.size + 1 → O = some (dat ts)))) (fun _ _ e _ => p.size + 1 - (RowKit.intOf e).toNat)
      case atStart => exact ⟨1, ⟨#[]⟩, [], _, rfl, rfl, rfl, by omega, by omega, by simp, by show 0 ≤ 1; omega, World.ownsRow_nil _ _ 9 1, Below.refl _ _, ⟨fun _ => by rw [HO0.out]; simp [dat], fun h => by omega⟩⟩
      case round =>
        clear HO0
        obtain ⟨i, tok, ts, bv, rfl, rfl, rfl, hi1, hi2, htl, htk, hown, HB, HI⟩ := hrel
        have hzr := HB.out.size
        have CV := hmk (refValid_any tok (by omega) wr)
        by_cases hle : i ≤ p.size
        · have y1 : (i : Int) ≤ p.size := by omega
          have HJ : Hid (O = (rpF tok.data.toList (p.data.toList.drop i)).map (dat ts ++ ·)) := HI.out.1 hle
          clear HI
          by_cases hie : i = p.size
          · have y2 : (i : Int) = p.size := by omega
            have HVN : Hid (validD tok.data.toList = false → O = none) := fun h => by
              rw [HJ.out, hie, HDe.out, rpF_nil, if_neg (by simp [h])]; rfl
            have HVY : Hid (validD tok.data.toList = true → O = some (dat (ts ++ [tok]))) := fun h => by
              rw [HJ.out, hie, HDe.out, rpF_nil, if_pos h, dat_snoc]; rfl
            generalize validD tok.data.toList = V at *
            clear HJ
            go_wp2_with fail
            refine CV.out.mono ?_
            rintro e w1 ⟨rfl, rfl⟩
            cases V with
            | false =>
              have HR : Hid (O = none) := HVN.out (by first | trivial | rfl)
              go_wp2_with fail
              go_ret2
              exact ⟨_, [], by rw [HR.out]; rfl, by rw [HR.out]; rfl, World.ownsRow_nil _ _ 9 1, HB.out⟩
            | true =>
              go_wp2_with (at_builtin; go_loud (refine wpl_appS _ rfl (.tmp 35) (.tmp 37) rfl w.heap.size _ _ rfl (hown.alloc _) w1.heap.size tok rfl (alloc_last w1 _) (by omega) (by rw [alloc_size]; omega) ?_))
              intro v2 w2 o2 b2
              have B2 := (HB.out.alloc hzr _).trans b2
              go_wp2_with fail
              go_roundw
              case rel => exact ⟨i + 1, ⟨#[]⟩, ts ++ [tok], v2, rfl, rfl, by go_num, by omega, by omega, by simp; omega, by (show 0 ≤ _; omega), o2, B2, ⟨fun h => by omega, fun _ => HVY.out (by first | trivial | rfl)⟩⟩
              case measure => simp [RowKit.intOf]; omega
          · have hil : i < p.size := by omega
            have y2 : ¬ (i : Int) = p.size := by omega
            have y3 : (i : Int) < p.size := by omega
            have hdr := HDr.out i hil
            by_cases c47 : p[i] = 47
            · have ci : ((p[i]).toNat : Int) = 47 := by rw [c47]; rfl
              have HVN : Hid (validD tok.data.toList = false → O = none) := fun h => by
                rw [HJ.out, hdr, c47, rpF_slash, if_neg (by simp [h])]; rfl
              have HVY : Hid (validD tok.data.toList = true → O = (rpF [] (p.data.toList.drop (i + 1))).map (dat (ts ++ [tok]) ++ ·)) := fun h => by
                rw [HJ.out, hdr, c47, rpF_slash, if_pos h, dat_snoc, Option.map_map]
                congr 1
                funext z
                simp
              generalize validD tok.data.toList = V at *
              clear HJ hdr
              go_wp2_with fail
              refine CV.out.mono ?_
              rintro e w1 ⟨rfl, rfl⟩
              cases V with
              | false =>
                have HR : Hid (O = none) := HVN.out (by first | trivial | rfl)
                go_wp2_with fail
                go_ret2
                exact ⟨_, [], by rw [HR.out]; rfl, by rw [HR.out]; rfl, World.ownsRow_nil _ _ 9 1, HB.out⟩
              | true =>
                go_wp2_with (at_builtin; go_loud (refine wpl_appS _ rfl (.tmp 35) (.tmp 37) rfl w.heap.size _ _ rfl (hown.alloc _) w1.heap.size tok rfl (alloc_last w1 _) (by omega) (by rw [alloc_size]; omega) ?_))
                intro v2 w2 o2 b2
                have B2 := (HB.out.alloc hzr _).trans b2
                go_wp2_with fail
                go_roundw
                case rel => exact ⟨i + 1, ⟨#[]⟩, ts ++ [tok], v2, rfl, rfl, by go_num, by omega, by omega, by simp; omega, by (show 0 ≤ _; omega), o2, B2, ⟨fun _ => HVY.out (by first | trivial | rfl), fun h => by omega⟩⟩
                case measure => simp [RowKit.intOf]; omega
            · have ci : ¬ ((p[i]).toNat : Int) = 47 := by have := neN p[i] 47 c47; simpa using this
              by_cases c126 : p[i] = 126
              · have di : ((p[i]).toNat : Int) = 126 := by rw [c126]; rfl
                by_cases hil2 : i + 1 < p.size
                · have y4 : (i : Int) + 1 < p.size := by omega
                  have hdr2 := HDr.out (i + 1) hil2
                  have HT : Hid (O = (if p[i + 1] = 48 then rpF (tok.data.toList ++ [126]) (p.data.toList.drop (i + 2)) else if p[i + 1] = 49 then rpF (tok.data.toList ++ [47]) (p.data.toList.drop (i + 2)) else none).map (dat ts ++ ·)) := by
                    show _ = _
                    rw [HJ.out, hdr, c126, hdr2, rpF_tilde]
                  by_cases c48 : p[i + 1] = 48
                  · have ei : ((p[i + 1]).toNat : Int) = 48 := by rw [c48]; rfl
                    have HN : Hid (O = (rpF (tok ++ ⟨#[126]⟩).data.toList (p.data.toList.drop (i + 2))).map (dat ts ++ ·)) := by show _ = _; rw [HT.out, if_pos c48, ba_data]
                    have hsz := ba_appsize tok ⟨#[126]⟩
                    clear HT HJ hdr hdr2
                    go_wp2_with fail
                    go_roundw
                    case rel => exact ⟨i + 2, tok ++ ⟨#[126]⟩, ts, bv, rfl, rfl, by go_num, by omega, by omega, by omega, by omega, hown, HB, ⟨fun _ => HN.out, fun h => by omega⟩⟩
                    case measure => simp [RowKit.intOf]; omega
                  · have ei : ¬ ((p[i + 1]).toNat : Int) = 48 := by have := neN p[i + 1] 48 c48; simpa using this
                    by_cases c49 : p[i + 1] = 49
                    · have fi : ((p[i + 1]).toNat : Int) = 49 := by rw [c49]; rfl
                      have HN : Hid (O = (rpF (tok ++ ⟨#[47]⟩).data.toList (p.data.toList.drop (i + 2))).map (dat ts ++ ·)) := by show _ = _; rw [HT.out, if_neg c48, if_pos c49, ba_data]
                      have hsz := ba_appsize tok ⟨#[47]⟩
                      clear HT HJ hdr hdr2
                      go_wp2_with fail
                      go_roundw
                      case rel => exact ⟨i + 2, tok ++ ⟨#[47]⟩, ts, bv, rfl, rfl, by go_num, by omega, by omega, by omega, by omega, hown, HB, ⟨fun _ => HN.out, fun h => by omega⟩⟩
                      case measure => simp [RowKit.intOf]; omega
                    · have fi : ¬ ((p[i + 1]).toNat : Int) = 49 := by have := neN p[i + 1] 49 c49; simpa using this
                      have HR : Hid (O = none) := by show _ = _; rw [HT.out, if_neg c48, if_neg c49]; rfl
                      clear HT HJ hdr hdr2
                      go_wp2_with fail
                      go_ret2
                      exact ⟨_, [], by rw [HR.out]; rfl, by rw [HR.out]; rfl, World.ownsRow_nil _ _ 9 1, HB.out⟩
                · have y4 : ¬ (i : Int) + 1 < p.size := by omega
                  have HR : Hid (O = none) := by
                    show _ = _
                    have e1 : i + 1 = p.size := by omega
                    rw [HJ.out, hdr, c126, e1, HDe.out, rpF_end]; rfl
                  clear HJ hdr
                  go_wp2_with fail
                  go_ret2
                  exact ⟨_, [], by rw [HR.out]; rfl, by rw [HR.out]; rfl, World.ownsRow_nil _ _ 9 1, HB.out⟩
              · have di : ¬ ((p[i]).toNat : Int) = 126 := by have := neN p[i] 126 c126; simpa using this
                have HN : Hid (O = (rpF (tok ++ p.extract i (i + 1)).data.toList (p.data.toList.drop (i + 1))).map (dat ts ++ ·)) := by
                  show _ = _
                  rw [HJ.out, hdr, rpF_plain _ _ _ c47 c126, ba_data, ext_at p i hil]
                have hxs : (p.extract i (i + 1)).size = 1 := by rw [← toList_size, ext_at p i hil]; rfl
                have hsz := ba_appsize tok (p.extract i (i + 1))
                have y5 : (i : Int) + 1 ≤ p.size := by omega
                have hsl : (Instr.slice 9 (.string p) (some (.int .i64 (i : Int))) (some (.int .i64 ((i : Int) + 1))) none).run Tryz.prog wr = .ok (.string (p.extract i (i + 1))) wr := by
                  rw [run_slice_string wr 9 p .i64 .i64 (i : Int) ((i : Int) + 1) Tryz.underlying9 (by omega) (by omega) (by omega)]
                  rfl
                have b1 : ((i : Int) == (p.size : Int)) = false := by rw [beq_eq_false_iff_ne]; exact y2
                have b2 : (((p[i]).toNat : Int) == 47) = false := by rw [beq_eq_false_iff_ne]; exact ci
                have b3 : (((p[i]).toNat : Int) == 126) = false := by rw [beq_eq_false_iff_ne]; exact di
                have b4 : (((p[i]).toNat : Int) != 126) = true := by rw [bne_iff_ne]; exact di
                clear HJ hdr
                go_wp2_with fail
                go_roundw
                case rel => exact ⟨i + 1, tok ++ p.extract i (i + 1), ts, bv, rfl, rfl, by go_num, by omega, by omega, by omega, by omega, hown, HB, ⟨fun _ => HN.out, fun h => by omega⟩⟩
                case measure => simp [RowKit.intOf]; omega
        · have y1 : ¬ (i : Int) ≤ p.size := by omega
          have HR : Hid (O = some (dat ts)) := HI.out.2 (by omega)
          have HL := hmk hown
          go_wp2_with fail
          go_ret2
          exact ⟨bv, ts, by rw [HR.out]; rfl, by rw [HR.out]; rfl, HL.out, HB.out⟩
    · have HR : Hid (O = none) := by show _ = _; rw [← hO, parF, if_neg (fun h => h47 h.1)]
      have hxi : ¬ ((p[0]).toNat : Int) = 47 := by rw [hx0n]; have := neN x 47 h47; simpa using this
      clear hO
      go_enter Tryz.func53, Tryz.ntmps53
      go_wp2_with fail
      go_ret2
      exact ⟨_, [], by rw [HR.out]; rfl, by rw [HR.out]; rfl, World.ownsRow_nil _ _ 9 1, Below.refl _ _⟩
theorem rparse_any (p : ByteArray) (w : World) (hp : p.size ≤ 2147483648) : Calls Tryz.prog 53 #[.string p] w (PaPost (parF p.data.toList) w) :=
  (rparse_own p w hp).mono fun e w' ⟨v, l, h1, h2, h3, h4⟩ => ⟨v, l, h1, h2, h3.lies, h4⟩
end Go.Proofs.YtjgbjhahmgegiaaGreatDoor
