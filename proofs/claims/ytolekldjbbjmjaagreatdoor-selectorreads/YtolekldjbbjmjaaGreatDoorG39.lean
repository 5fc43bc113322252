/- joined: RefD RefE -/
import Derived.Test.YtolekldjbbjmjaaGreatDoorRefC
import Derived.Test.YtolekldjbbjmjaaGreatDoorRdH
/- Contracts: the document's Unquote. -/
set_option linter.unusedSimpArgs false
set_option linter.unusedVariables false
set_option maxRecDepth 100000
namespace Go.Proofs.YtolekldjbbjmjaaGreatDoor
open Go.RowKit Go.Lib
theorem Own.drewN {B : Nat} {v : Value} {l : List UInt8} {w : World} (h : Own B v l w) (q : Nat) : Own B v l (w.drewN q) := by
  induction q with
  | zero => exact h
  | succ q ih => exact ih
/-- append of a string's bytes -/
theorem wpl_app_str {ops : Array Oper} {rest : List Oper} {o : Oper} {a : Act} {Q : Exit → Act → World → Prop} (w : World) (hgd : o.guard = none) (s x : Operand)
    (ho : o.op = .call { callee := .builtin .append, args := #[s, x], argTypes := #[55, 9] }) (B : Nat) (v : Value) (l : List UInt8) (hs : a.eval s = v) (hown : Own B v l w)
    (t : ByteArray) (hx : a.eval x = .string t) (hlen : l.length + t.size ≤ 140737488355328) (hbase : B ≤ w.heap.size)
    (h : ∀ v' w', Own B v' (l ++ t.data.toList) w' → Below B w w' → wpList Tryz.prog ops Q rest (a.put o.dst v') w') : wpList Tryz.prog ops Q (o :: rest) a w := by
  obtain ⟨i0, hi, hz⟩ := Option.map_eq_some_iff.1 info5
  have hz0 : i0.zero = some (.int .u8 0) := congrArg Prod.fst hz
  have hz1 : i0.size = 1 := congrArg (fun x => x.2.1) hz
  have hz2 : i0.bytes = 1 := congrArg (fun x => x.2.2) hz
  refine Lib.wpList_append_own_string w hgd s x 55 9 ho B 5 i0 Tryz.underlying55 Tryz.underlying9 hi hz0 hz1 hz2 v l.length (Lib.byteCells l) hs hown t hx (by unfold maxLen; omega) (by omega) hbase ?_
  intro v' w' h1 h2 _
  refine h v' w' ?_ ((Below.refl B w).grown h2 hbase (fun k hk => (World.ownsRow.lt hown k hk).1))
  show w'.ownsRow B 5 1 v' (l ++ t.data.toList).length (Lib.byteCells (l ++ t.data.toList))
  have e : Lib.byteCells (l ++ t.data.toList) = Lib.byteCells l ++ Lib.strCells t := by simp [Lib.byteCells, Lib.strCells]
  have e2 : t.data.toList.length = t.size := by simp
  rw [e, List.length_append, e2]
  exact h1
end Go.Proofs.YtolekldjbbjmjaaGreatDoor
/- Contracts: the document's Unquote: the loop. -/
set_option maxRecDepth 100000
namespace Go.Proofs.YtolekldjbbjmjaaGreatDoor
open Go.RowKit Go.Lib
/-- what the document's Unquote tells -/
def Read (w : World) (RES : List UInt8 × Nat × Nat) (e : Ending) (w' : World) : Prop :=
  e = .returned (.tuple #[.string ⟨RES.1.toArray⟩, .int .i64 (RES.2.1 : Int), .int .i64 (RES.2.2 : Int)]) ∧ Below w.heap.size w w'
theorem escape_all (s : ByteArray) (k : Nat) (hk : k ≤ s.size) (hs : s.size ≤ 140737488351232) (w : World) : Calls Tryz.prog 107 #[.string s, .int .i64 (k : Int)] w (Esc k (Q.escF (s.data.toList.drop k)) w) := by
  cases h : hit s k 117
  · exact refEscape_short s k hk hs w h
  · obtain ⟨hlt, he⟩ := hit_yes h
    exact refEscape_u s k hs w hlt he
theorem nxt_take (s : ByteArray) (k n : Nat) (hkn : k + n ≤ s.size) : (s.extract k (k + n)).data.toList = (s.data.toList.drop k).take n ∧ (s.extract k (k + n)).size = n := by
  have e : (s.extract k (k + n)).data.toList = (s.data.toList.drop k).take n := by
    rw [extract_data]; congr 1; omega
  refine ⟨e, ?_⟩
  rw [size_eq, e]; simp; omega
set_option maxHeartbeats 8000000 in
set_option maxRecDepth 100000 in
theorem refUnquote_yes (s : ByteArray) (k0 : Nat) (w : World) (hs : s.size ≤ 140737488351232) (h34 : hit s k0 34 = true) (RES : List UInt8 × Nat × Nat)
    (hR : Q.unq (s.size + 1) (s.data.toList.drop (k0 + 1)) (k0 + 1) [] = RES) :
    Calls Tryz.prog 76 #[.string s, .int .i64 (k0 : Int)] w (Read w RES) := by
  obtain ⟨hlt0, he0⟩ := hit_yes h34
  have HR : Hid (Q.unq (s.size + 1) (s.data.toList.drop (k0 + 1)) (k0 + 1) [] = RES) := hR
  have p1 : ¬ (k0 : Int) < 0 := by omega
  have p2 : ¬ (s.size : Int) < (k0 : Int) := by omega
  have p3 : ((k0 : Int) == (s.size : Int)) = false := by rw [beq_eq_false_iff_ne]; omega
  have p4 : (k0 : Int) < s.size := by omega
  have p5 : ((s[k0].toNat : Int) != 34) = false := by rw [bne_eq_false_iff_eq]; omega
  clear hR h34 he0
  go_enter Tryz.func76, Tryz.ntmps76
  go_wp2
  go_loopw [7, 8] (fun v p wr => ∃ (k : Nat) (l : List UInt8) (f : Nat), k ≤ s.size ∧ l.length ≤ k ∧ p = .int .i64 (k : Int) ∧ Own w.heap.size v l wr ∧ Below w.heap.size w wr ∧ Hid ((s.data.toList.drop k).length < f ∧ Q.unq f (s.data.toList.drop k) k l = RES)) (fun _ p _ => s.size + 1 - (RowKit.intOf p).toNat)
  case atStart => exact ⟨k0 + 1, [], s.size + 1, by omega, by simp, by go_num, Own.nil _ _, Below.refl _ _, by simp; omega, HR.out⟩
  case round =>
    obtain ⟨k, l, f, hk, hl, rfl, ho, bk, HK⟩ := hrel
    clear HR
    have sk := bk.size
    obtain ⟨f', hf'⟩ : ∃ f', f = f' + 1 := ⟨f - 1, by have := HK.out.1; omega⟩
    by_cases hlt : k < s.size
    · have y1 : (k : Int) < s.size := by omega
      have hx := drop_consW s k hlt
      by_cases h32 : s[k].toNat < 32
      · have y3 : (s[k].toNat : Int) < 32 := by omega
        obtain rfl : RES = ([], k, 10) := by
          rw [← HK.out.2, hf', Q.unq_step, Q.stp_low _ (by intro x r e; rw [hx] at e; have := (List.cons.inj e).1; subst this; exact h32)]
          rfl
        clear HK hf' hx
        go_wp2
        go_ret3
        exact ⟨rfl, bk⟩
      · have y3 : ¬ (s[k].toNat : Int) < 32 := by omega
        by_cases e34 : s[k].toNat = 34
        · have y4 : ((s[k].toNat : Int) == 34) = true := by rw [beq_iff_eq]; omega
          obtain rfl : RES = (l, k + 1, 0) := by
            rw [← HK.out.2, hf', Q.unq_step]
            have e : Q.stp (s.data.toList.drop k) = (1, [], 1, 0) := by
              rw [hx, Q.stp_cons, if_neg h32, if_pos e34]
            rw [e]; rfl
          have hcv := ho.conv
          clear HK hf' hx e34
          go_wp2
          go_ret3
          exact ⟨ret_sii rfl (by simp) rfl, bk⟩
        · have y4 : ((s[k].toNat : Int) == 34) = false := by rw [beq_eq_false_iff_ne]; omega
          have est := Q.stp_cons s[k] (s.data.toList.drop (k + 1))
          rw [← hx, if_neg h32, if_neg e34] at est
          have hle := Q.stp_le (s.data.toList.drop k)
          have hlen2 : (s.data.toList.drop k).length = s.size - k := by simp
          rw [hlen2] at hle
          have HU : Hid (s.size - k < f ∧ (if (Q.stp (s.data.toList.drop k)).1 = 0 then ([], k + (Q.stp (s.data.toList.drop k)).2.2.1, (Q.stp (s.data.toList.drop k)).2.2.2) else if (Q.stp (s.data.toList.drop k)).1 = 1 then (l, k + 1, 0) else Q.unq f' (s.data.toList.drop (k + (Q.stp (s.data.toList.drop k)).2.2.1)) (k + (Q.stp (s.data.toList.drop k)).2.2.1) (l ++ (Q.stp (s.data.toList.drop k)).2.1)) = RES) := by
            have := HK.out
            rw [hlen2] at this
            refine ⟨this.1, ?_⟩
            rw [← this.2, hf', Q.unq_step, List.drop_drop]
          have HF : Hid (f = f' + 1) := hf'
          clear HK hf'
          by_cases e92 : s[k].toNat = 92
          · have y5 : ((s[k].toNat : Int) == 92) = true := by rw [beq_iff_eq]; omega
            rw [if_pos e92] at est
            have ce : Hid (∀ w1, Calls Tryz.prog 107 #[.string s, .int .i64 ((k : Int) + 1)] w1 (Esc (k + 1) (Q.escF (s.data.toList.drop (k + 1))) w1)) := fun w1 => escape_all s (k + 1) (by omega) hs w1
            have hfl := Q.escF_le (s.data.toList.drop (k + 1))
            have hlen3 : (s.data.toList.drop (k + 1)).length = s.size - (k + 1) := by simp
            rw [hlen3] at hfl
            generalize Q.escF (s.data.toList.drop (k + 1)) = F at *
            obtain ⟨f1, f2, f3⟩ := F
            simp only at *
            cases f3
            · rw [if_neg (by simp)] at est
              rw [est] at HU
              obtain rfl : RES = ([], k + (1 + f2), 12) := by rw [← HU.out.2]; rfl
              clear est HU hle hx e34 e92 hlen2 hlen3 hfl
              go_wp2_with (go_at_call 107; refine (ce.out _).mono ?_; rintro e w1 ⟨⟨v, rfl, -⟩, n, rfl⟩)
              go_ret3
              exact ⟨ret_sii rfl (by simp only; omega) rfl, below_drewN bk n⟩
            · rw [if_pos rfl] at est
              rw [est] at HU hle
              simp only at hle
              have hv := hfl.2 rfl
              have HN : Hid (s.size - k < f ∧ Q.unq f' (s.data.toList.drop (k + (1 + f2))) (k + (1 + f2)) (l ++ encodeRune (f1 : Int)) = RES) := HU.out
              obtain ⟨V, hV⟩ : ∃ V : Int, V = (f1 : Int) := ⟨_, rfl⟩
              have cs : Hid (∀ w1, Calls Tryz.prog 108 #[.int .i64 V] w1 fun e w' => e = .returned (.slice (some ⟨w1.heap.size, 0, none⟩) (encodeRune V).length (encodeRune V).length) ∧ w' = w1.alloc (.cells (byteCells (encodeRune V)).toArray 5)) := by
                intro w1
                have := seq_any V (by omega) (by omega) (by omega) w1
                rw [← byteCells_encodeRune, byteCells_length] at this
                exact this
              rw [← hV] at HN hle
              have HV : Hid (V = (f1 : Int)) := hV
              clear est HU hx e34 e92 hlen2 hlen3 hfl hv hV
              generalize encodeRune V = T at *
              go_wp2_with fail
              refine (ce.out _).mono ?_
              rintro e w1 ⟨⟨v, rfl, hv⟩, n, rfl⟩
              obtain rfl : v = V := (hv rfl).trans HV.out.symm
              clear hv
              go_wp2_with fail
              refine (cs.out _).mono ?_
              rintro e w1 ⟨rfl, rfl⟩
              have ho1 := (ho.drewN n).alloc (.cells (byteCells T).toArray 5)
              have hz1 := drewN_size wr n
              go_wp2_with (at_builtin; refine wpl_appQ _ rfl (.tmp 69) (.tmp 71) rfl w.heap.size _ _ rfl ho1 (wr.drewN n).heap.size _ _ T rfl rfl _ (0, 0) (heap_alloc_new (wr.drewN n) _) (by simp) (by omega) (by simp; omega) ?_; intro v' w2 ho2 b2)
              go_roundw
              case rel => exact ⟨k + (1 + f2), l ++ T, f', by omega, by rw [List.length_append]; omega, by go_num, ho2, ((below_drewN bk n).alloc (by omega) _).trans b2, by have := HN.out; have := HF.out; simp; omega, HN.out.2⟩
              case measure => simp [RowKit.intOf]; omega
          · have y5 : ((s[k].toNat : Int) == 92) = false := by rw [beq_eq_false_iff_ne]; omega
            rw [if_neg e92] at est
            have cn : Hid (∀ w1, Calls Tryz.prog 109 #[.string s, .int .i64 (k : Int)] w1 fun e w' => e = .returned (.tuple #[.int .i64 (k + (Q.nxt (s.data.toList.drop k)).1 : Int), .bool (Q.nxt (s.data.toList.drop k)).2]) ∧ w' = w1) := fun w1 => next_any s k k rfl hk (by omega) w1
            have hnl := (Q.nxt_le (s.data.toList.drop k)).1
            rw [hlen2] at hnl
            cases hok : (Q.nxt (s.data.toList.drop k)).2
            · rw [if_neg (by rw [hok]; simp)] at est
              rw [est] at HU
              rw [hok] at cn
              obtain rfl : RES = ([], k + (Q.nxt (s.data.toList.drop k)).1, 11) := by rw [← HU.out.2]; rfl
              clear est HU hle hx e34 e92 hlen2 hok
              generalize (Q.nxt (s.data.toList.drop k)).1 = N at *
              go_wp2_with (go_at_call 109; refine (cn.out _).mono ?_; rintro e w1 ⟨rfl, rfl⟩)
              go_ret3
              exact ⟨ret_sii rfl (by simp) rfl, bk⟩
            · rw [if_pos hok] at est
              rw [est] at HU hle
              simp only at hle
              rw [hok] at cn
              have HN : Hid (s.size - k < f ∧ Q.unq f' (s.data.toList.drop (k + (Q.nxt (s.data.toList.drop k)).1)) (k + (Q.nxt (s.data.toList.drop k)).1) (l ++ (s.data.toList.drop k).take (Q.nxt (s.data.toList.drop k)).1) = RES) := HU.out
              have hn1 := (Q.nxt_le (s.data.toList.drop k)).2.2 hok
              have htk := nxt_take s k (Q.nxt (s.data.toList.drop k)).1 (by omega)
              clear est HU hx e34 e92 hlen2 hok
              generalize hN : (Q.nxt (s.data.toList.drop k)).1 = N at *
              rw [← htk.1] at HN
              have hsz := htk.2
              have hsl : ∀ W : World, (Instr.slice 9 (.string s) (some (.int .i64 (k : Int))) (some (.int .i64 ((k : Int) + N))) none).run Tryz.prog W = .ok (.string (s.extract k (k + N))) W := by
                intro W
                have h := run_slice_string (P := Tryz.prog) W 9 s .i64 .i64 (k : Int) ((k : Int) + N) Tryz.underlying9 (by omega) (by omega) (by omega)
                have e1 : (k : Int).toNat = k := by omega
                have e2 : ((k : Int) + N).toNat = k + N := by omega
                rw [e1, e2] at h
                exact h
              clear htk hN hle
              generalize s.extract k (k + N) = X at *
              have hXl : X.data.toList.length = X.size := by simp
              go_wp2_with (first | (go_at_call 109; refine (cn.out _).mono ?_; rintro e w1 ⟨rfl, rfl⟩) | (at_builtin; refine wpl_app_str _ rfl (.tmp 83) (.tmp 87) rfl w.heap.size _ _ rfl ho X rfl (by omega) (by omega) ?_; intro v' w2 ho2 b2))
              go_roundw
              case rel => exact ⟨k + N, l ++ X.data.toList, f', by omega, by rw [List.length_append, hXl]; omega, by go_num, ho2, bk.trans b2, by have := HN.out; have := HF.out; simp; omega, HN.out.2⟩
              case measure => simp [RowKit.intOf]; omega
    · have y1 : (s.size : Int) ≤ k := by omega
      obtain rfl : RES = ([], k, 10) := by
        rw [← HK.out.2, hf', Q.unq_step, Q.stp_low _ (by intro x r e; rw [drop_endW s k (by omega)] at e; cases e)]
        rfl
      clear HK hf'
      go_wp2
      go_ret3
      exact ⟨rfl, bk⟩
end Go.Proofs.YtolekldjbbjmjaaGreatDoor
