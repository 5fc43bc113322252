/- joined: JrC JrD -/
import Derived.Test.YtpmhdcmmlkjjmaaGreatDoorJrB
import Derived.Test.YtpmhdcmmlkjjmaaGreatDoorG18
/- json's reader: a string, brackets begun and gone on with. -/
set_option linter.unusedSimpArgs false
set_option linter.unusedVariables false
set_option maxRecDepth 100000
namespace Go.Proofs.YtpmhdcmmlkjjmaaGreatDoor
open Go.RowKit Go.Lib
theorem Td.grown {w w' : World} {g : Nat} (t : Td w) (h : w.grownBy w' (some g)) (hg : 9 < g) : Td w' := by
  have hz := t.z
  have b : Below 10 w w' := (Below.refl 10 w).grown h (by omega) (fun k hk => by cases hk; omega)
  exact t.below b (by omega) b.size
theorem quoJ_yes {l : List UInt8} {k : Nat} {r : List UInt8} {pl er : Nat} (h : Q.unqAll l (k : Int) = (r, pl, er)) (h0 : er = 0) : quoJ l k = .ok (⟨r.toArray⟩, pl) := by rw [quoJ, h, if_pos h0]
theorem quoJ_no {l : List UInt8} {k : Nat} {r : List UInt8} {pl er : Nat} (h : Q.unqAll l (k : Int) = (r, pl, er)) (h0 : er ≠ 0) : quoJ l k = .error (pl, er) := by rw [quoJ, h, if_neg h0]
set_option maxHeartbeats 4000000 in
theorem jquo_any (g : Nat) (s : ByteArray) (k D n : Nat) (w : World) (h : JR g s k D n w) (t : Td w) (hs : s.size ≤ 140737488355000) (hk : k ≤ s.size) :
    Calls Tryz.prog 87 #[.pointer (some ⟨g, 0, none⟩)] w (JP (quoJ s.data.toList k) (fun x e w' => e = .returned (.string x.1) ∧ JR g s x.2 D n w') g w) := by
  have hlt := h.lt
  have X0 : ∀ x : Sub w.heap.size w, x.w.cell? ⟨g, 0, none⟩ = some (.string s) := sub_cell h.c0 hlt
  have X1 : ∀ x : Sub w.heap.size w, x.w.cell? ⟨g, 1, none⟩ = some (.int .i64 (k : Int)) := sub_cell h.c1 hlt
  obtain ⟨r, pl, er, hR⟩ : ∃ r pl er, Q.unqAll s.data.toList (k : Int) = (r, pl, er) := ⟨_, _, _, rfl⟩
  have CU : Hid (∀ x : Sub w.heap.size w, Calls Tryz.prog 112 #[.string s, .int .i64 (k : Int)] x.w fun e w'' => e = .returned (.tuple #[.string ⟨r.toArray⟩, .int .i64 (pl : Int), .int .i64 (er : Int)]) ∧ ∃ y : Sub w.heap.size w, w'' = y.w) := fun x => by
    have hx := t.below x.b t.z x.b.size
    have c := unquote_in s k x.w (by omega) hk hx.s hx.u hx.z (Q.borne_of s k hs)
    rw [hR] at c
    refine c.mono ?_
    rintro e w' ⟨rfl, b⟩
    exact ⟨rfl, ⟨w', x.b.trans (b.mono x.b.size)⟩, rfl⟩
  have HR := hmk hR
  have HH := hmk h
  clear h hR t
  by_cases h0 : er = 0
  · have y0 : ((er : Int) != 0) = false := by rw [bne_eq_false_iff_eq]; omega
    have HQ := hmk (quoJ_yes HR.out h0)
    clear h0
    go_enter Tryz.func87, Tryz.ntmps87
    go_wp2_with fail
    refine wp_region_sub w.heap.size (by kernel_rfl) (by kernel_rfl) ?_
    repeat (go_big_quiet_step (first | exact CU.out _))
    refine wpQuiet_nil ?_
    rintro wq ⟨⟨wq', bq⟩, hq⟩
    have hq' : wq = wq' := hq
    subst hq'
    clear hq
    have P1 := HH.out.keep bq
    have f1 := P1.fz 1
    have c1 := P1.c1
    go_wp2_with fail
    go_ret
    rw [HQ.out]
    exact ⟨⟨rfl, P1.put pl _ rfl⟩, grown_set (grown_belowS bq g) _ _⟩
  · have y0 : ((er : Int) != 0) = true := by rw [bne_iff_ne]; omega
    have HQ := hmk (quoJ_no HR.out h0)
    clear h0
    go_enter Tryz.func87, Tryz.ntmps87
    go_wp2_with fail
    refine wp_region_sub w.heap.size (by kernel_rfl) (by kernel_rfl) ?_
    repeat (go_big_quiet_step (first | exact CU.out _))
    refine wpQuiet_nil ?_
    rintro wq ⟨⟨wq', bq⟩, hq⟩
    have hq' : wq = wq' := hq
    subst hq'
    clear hq
    go_wp2_with (go_at_call 64; refine (giveup_any _ pl er _).mono ?_; rintro e w' ⟨he, rfl⟩; unfold flt at he; subst he)
    refine ⟨rfl, ?_⟩
    rw [HQ.out]
    exact ⟨rfl, grown_belowS bq g⟩
/-- behind an opening bracket: where it goes on, or where it ended -/
def begunJ (l : List UInt8) (k : Nat) (c : UInt8) : Bool × Nat := (! tkJ l (blk l (k + 1)) c, if tkJ l (blk l (k + 1)) c = true then blk l (k + 1) + 1 else blk l (k + 1))
/-- behind something within brackets: more of it, or the end -/
def goesJ (l : List UInt8) (k : Nat) (c : UInt8) : Except Flt (Bool × Nat) :=
  if tkJ l (blk l k) 44 = true then .ok (true, blk l (blk l k + 1))
  else match mustJ l (blk l k) c with
    | .ok k' => .ok (false, k')
    | .error f => .error f
theorem goesJ_more {l : List UInt8} {k : Nat} {c : UInt8} (h : tkJ l (blk l k) 44 = true) : goesJ l k c = .ok (true, blk l (blk l k + 1)) := by rw [goesJ, if_pos h]
theorem goesJ_end {l : List UInt8} {k k' : Nat} {c : UInt8} (h : tkJ l (blk l k) 44 = false) (h2 : mustJ l (blk l k) c = .ok k') : goesJ l k c = .ok (false, k') := by rw [goesJ, if_neg (by rw [h]; simp), h2]
theorem goesJ_no {l : List UInt8} {k : Nat} {f : Flt} {c : UInt8} (h : tkJ l (blk l k) 44 = false) (h2 : mustJ l (blk l k) c = .error f) : goesJ l k c = .error f := by rw [goesJ, if_neg (by rw [h]; simp), h2]
theorem tkJ_lt {l : List UInt8} {k : Nat} {c : UInt8} (h : tkJ l k c = true) : k < l.length := by
  rcases Nat.lt_or_ge k l.length with hk | hk
  · exact hk
  · rw [tkJ, List.getElem?_eq_none hk] at h; cases h
set_option maxHeartbeats 4000000 in
theorem jbegun_any (g : Nat) (s : ByteArray) (k D n : Nat) (c : UInt8) (w : World) (h : JR g s k D n w) (hs : s.size ≤ 281474976710656) (hk : k < s.size) :
    Calls Tryz.prog 113 #[.pointer (some ⟨g, 0, none⟩), .int .u8 (c.toNat : Int)] w fun e w' => e = .returned (.bool (begunJ s.data.toList k c).1) ∧ JR g s (begunJ s.data.toList k c).2 D n w' ∧ w.grownBy w' (some g) := by
  have hll : s.data.toList.length = s.size := by simp
  have hbl := blk_le (l := s.data.toList) (k := k + 1) (by rw [hll]; omega)
  rw [hll] at hbl
  have R1 : JR g s (k + 1) D n (w.setCell ⟨g, 1, none⟩ (.int .i64 ((k : Int) + 1))) := h.put (k + 1) _ (by omega)
  have CB := hmk (jblanks_any g s (k + 1) D n _ R1 hs (by omega))
  have CT : Hid (∀ W, JR g s (blk s.data.toList (k + 1)) D n W → Calls Tryz.prog 132 #[.pointer (some ⟨g, 0, none⟩), .int .u8 (c.toNat : Int)] W fun e w' => e = .returned (.bool (tkJ s.data.toList (blk s.data.toList (k + 1)) c)) ∧ JR g s (if tkJ s.data.toList (blk s.data.toList (k + 1)) c = true then blk s.data.toList (k + 1) + 1 else blk s.data.toList (k + 1)) D n w' ∧ W.grownBy w' (some g)) := fun W hW => jtake_any g s _ D n c W hW hs hbl.2
  have c1 := h.c1
  have f1 := h.fz 1
  clear h R1 hll
  simp only [begunJ]
  generalize blk s.data.toList (k + 1) = K at *
  generalize tkJ s.data.toList K c = T at *
  go_enter Tryz.func113, Tryz.ntmps113
  go_wp2_with fail
  refine CB.out.mono ?_
  rintro e w1 ⟨rfl, R1, g1⟩
  clear CB
  cases T <;> simp only [Bool.false_eq_true, if_false, if_true] at CT ⊢
  all_goals go_wp2_with fail
  all_goals refine (CT.out w1 R1).mono ?_
  all_goals rintro e w2 ⟨rfl, R2, g2⟩
  all_goals go_wp2_with fail
  all_goals go_ret
  all_goals exact ⟨rfl, R2, grown_trans (grown_trans (grown_set (World.grownBy.refl _ _) _ _) g1) g2⟩
set_option maxHeartbeats 4000000 in
theorem jgoes_any (g : Nat) (s : ByteArray) (k D n : Nat) (c : UInt8) (w : World) (h : JR g s k D n w) (hs : s.size ≤ 281474976710656) (hk : k ≤ s.size) :
    Calls Tryz.prog 114 #[.pointer (some ⟨g, 0, none⟩), .int .u8 (c.toNat : Int)] w (JP (goesJ s.data.toList k c) (fun x e w' => e = .returned (.bool x.1) ∧ JR g s x.2 D n w') g w) := by
  have hll : s.data.toList.length = s.size := by simp
  have hbl := blk_le (l := s.data.toList) (k := k) (by rw [hll]; omega)
  rw [hll] at hbl
  have CB := hmk (jblanks_any g s k D n w h hs hk)
  have CT : Hid (∀ W, JR g s (blk s.data.toList k) D n W → Calls Tryz.prog 132 #[.pointer (some ⟨g, 0, none⟩), .int .u8 ((44 : UInt8).toNat : Int)] W fun e w' => e = .returned (.bool (tkJ s.data.toList (blk s.data.toList k) 44)) ∧ JR g s (if tkJ s.data.toList (blk s.data.toList k) 44 = true then blk s.data.toList k + 1 else blk s.data.toList k) D n w' ∧ W.grownBy w' (some g)) := fun W hW => jtake_any g s _ D n 44 W hW hs hbl.2
  clear h
  cases ht : tkJ s.data.toList (blk s.data.toList k) 44 with
  | true =>
    have hlt := tkJ_lt ht
    rw [hll] at hlt
    rw [goesJ_more ht]
    rw [ht] at CT
    simp only [if_true] at CT
    have CB2 : Hid (∀ W, JR g s (blk s.data.toList k + 1) D n W → Calls Tryz.prog 62 #[.pointer (some ⟨g, 0, none⟩)] W fun e w' => e = .returned (.tuple #[]) ∧ JR g s (blk s.data.toList (blk s.data.toList k + 1)) D n w' ∧ W.grownBy w' (some g)) := fun W hW => jblanks_any g s _ D n W hW hs (by omega)
    clear ht hll
    generalize blk s.data.toList (blk s.data.toList k + 1) = K2 at *
    generalize blk s.data.toList k = K at *
    go_enter Tryz.func114, Tryz.ntmps114
    go_wp2_with fail
    refine CB.out.mono ?_
    rintro e w1 ⟨rfl, R1, g1⟩
    clear CB
    go_wp2_with fail
    refine (CT.out w1 R1).mono ?_
    rintro e w2 ⟨rfl, R2, g2⟩
    clear CT
    go_wp2_with fail
    refine (CB2.out w2 R2).mono ?_
    rintro e w3 ⟨rfl, R3, g3⟩
    go_wp2_with fail
    go_ret
    exact ⟨⟨rfl, R3⟩, grown_trans (grown_trans g1 g2) g3⟩
  | false =>
    rw [ht] at CT
    simp only [Bool.false_eq_true, if_false] at CT
    have CM : Hid (∀ W, JR g s (blk s.data.toList k) D n W → Calls Tryz.prog 111 #[.pointer (some ⟨g, 0, none⟩), .int .u8 (c.toNat : Int)] W (JP (mustJ s.data.toList (blk s.data.toList k) c) (fun k' e w' => e = .returned (.tuple #[]) ∧ JR g s k' D n w') g W)) := fun W hW => jmust_any g s _ D n c W hW hs hbl.2
    cases hm : mustJ s.data.toList (blk s.data.toList k) c with
    | ok k1 =>
      rw [goesJ_end ht hm]
      rw [hm] at CM
      clear ht hm hll hbl
      generalize blk s.data.toList k = K at *
      go_enter Tryz.func114, Tryz.ntmps114
      go_wp2_with fail
      refine CB.out.mono ?_
      rintro e w1 ⟨rfl, R1, g1⟩
      clear CB
      go_wp2_with fail
      refine (CT.out w1 R1).mono ?_
      rintro e w2 ⟨rfl, R2, g2⟩
      clear CT
      go_wp2_with fail
      refine (CM.out w2 R2).mono ?_
      rintro e w3 ⟨⟨rfl, R3⟩, g3⟩
      go_wp2_with fail
      go_ret
      exact ⟨⟨rfl, R3⟩, grown_trans (grown_trans g1 g2) g3⟩
    | error f =>
      rw [goesJ_no ht hm]
      rw [hm] at CM
      clear ht hm hll hbl
      generalize blk s.data.toList k = K at *
      go_enter Tryz.func114, Tryz.ntmps114
      go_wp2_with fail
      refine CB.out.mono ?_
      rintro e w1 ⟨rfl, R1, g1⟩
      clear CB
      go_wp2_with fail
      refine (CT.out w1 R1).mono ?_
      rintro e w2 ⟨rfl, R2, g2⟩
      clear CT
      go_wp2_with fail
      refine (CM.out w2 R2).mono ?_
      rintro e w3 ⟨he, g3⟩
      unfold flt at he
      subst he
      go_wp2_with fail
      exact ⟨rfl, rfl, grown_trans (grown_trans g1 g2) g3⟩
end Go.Proofs.YtpmhdcmmlkjjmaaGreatDoor
/- json.integer: strconv.ParseInt, and what it takes too much. -/
set_option maxRecDepth 100000
namespace Go.Proofs
open Go.Shelf Go.RowKit
def Tryz.lays101_ren : Go.Shelf.Ren := ⟨fun | 101 => 136 | 206 => 156 | 208 => 155 | n => n, fun | 3 => 3 | 4 => 4 | 9 => 9 | n => n, fun | n => n⟩
theorem Tryz.lays101 : Go.Proofs.Lays.n101 Tryz.prog Tryz.lays101_ren := {
  mixed := by kernel_rfl
  f101 := Tryz.func136.trans (congrArg some (by kernel_rfl))
  f206 := Tryz.func156.trans (congrArg some (by kernel_rfl))
  f208 := Tryz.func155.trans (congrArg some (by kernel_rfl))
  t3 := Tryz.underlying3
  a3 := Tryz.isAgg3
  z3 := Tryz.sizeOf3
  v3 := Tryz.zeroValue3
  t4 := Tryz.underlying4
  a4 := Tryz.isAgg4
  z4 := Tryz.sizeOf4
  v4 := Tryz.zeroValue4
  t9 := Tryz.underlying9
  a9 := Tryz.isAgg9
  z9 := Tryz.sizeOf9
  v9 := Tryz.zeroValue9 }
namespace YtpmhdcmmlkjjmaaGreatDoor
open Go.Lib
theorem In64.zero : In64 0 := ⟨by omega, by omega⟩
theorem parse_in64 {l : List UInt8} {v : Int} (h : parseIntB 64 l = .ok v) : In64 v := by
  unfold parseIntB at h
  split at h
  · cases h
  · rename_i c r
    dsimp only at h
    split at h
    · cases h
    · cases h
    · rename_i u hu
      split at h
      · cases h
      · rename_i h1
        split at h
        · cases h
        · rename_i h2
          have e := NumEnd.ok.inj h
          subst e
          by_cases hn : c.toNat = 45
          · rw [if_pos hn]
            have h2' : ¬ 2 ^ 63 < u := fun q => h2 ⟨hn, q⟩
            refine ⟨?_, ?_⟩ <;> omega
          · rw [if_neg hn]
            have h1' : ¬ 2 ^ 63 ≤ u := fun q => h1 ⟨hn, q⟩
            refine ⟨?_, ?_⟩ <;> omega
/-- the number that strconv.ParseInt answers, an error beside it or not -/
def pvJ (l : List UInt8) : Int := match parseIntB 64 l with
  | .ok v => v
  | .syntax => 0
  | .range => intSat 64 l
/-- what strconv.ParseInt answers: the number, and whether there is no error -/
theorem pint_any (s : ByteArray) (w : World) (t : Td w) (hs : s.size ≤ 281474976710656) :
    Calls Tryz.prog 138 #[.string s, .int .i64 10, .int .i64 64] w fun e w' => ∃ (v : Int) (er : Value), e = .returned (.tuple #[.int .i64 v, er]) ∧ v = pvJ s.data.toList ∧ Below w.heap.size w w' ∧ ((parseIntB 64 s.data.toList = .ok v ∧ er = .nilIface) ∨ ((∀ u, parseIntB 64 s.data.toList ≠ .ok u) ∧ ∃ te pe, er = .iface te pe)) := by
  obtain ⟨t5, p5, t6, p6, h5, h6⟩ := t.e
  cases hp : parseIntB 64 s.data.toList with
  | ok v =>
    refine (Any.strconv_ParseInt_10_at64_ok Tryz.lays174 s (by omega) v hp w).mono ?_
    rintro e w' ⟨rfl, h⟩
    refine ⟨v, .nilIface, rfl, by rw [pvJ, hp], ?_, .inl ⟨rfl, rfl⟩⟩
    rcases h with rfl | ⟨u, rfl⟩
    · exact Below.refl _ _
    · exact bytesWorld_below w 5 u
  | «syntax» =>
    refine (Any.strconv_ParseInt_10_at64_syntax Tryz.lays174 s hs hp _ w h5 (.inr ⟨_, _, rfl⟩)).mono ?_
    rintro e w' ⟨N, rfl, _, _, b⟩
    exact ⟨_, _, rfl, by rw [pvJ, hp], b, .inr ⟨(fun u h => by cases h), _, _, rfl⟩⟩
  | range =>
    refine (Any.strconv_ParseInt_10_at64_range Tryz.lays174 s hs hp _ w h6 (.inr ⟨_, _, rfl⟩)).mono ?_
    rintro e w' ⟨N, rfl, _, _, b⟩
    exact ⟨_, _, rfl, by rw [pvJ, hp], b, .inr ⟨(fun u h => by cases h), _, _, rfl⟩⟩
theorem tw_split (l : List UInt8) (p : UInt8 → Bool) : l.length - (l.dropWhile p).length = (l.takeWhile p).length ∧ l.take (l.takeWhile p).length = l.takeWhile p := by
  have h := List.takeWhile_append_dropWhile (p := p) (l := l)
  have hl := congrArg List.length h
  rw [List.length_append] at hl
  refine ⟨by omega, ?_⟩
  exact (List.prefix_iff_eq_take.1 (List.takeWhile_prefix p)).symm
end YtpmhdcmmlkjjmaaGreatDoor
end Go.Proofs
