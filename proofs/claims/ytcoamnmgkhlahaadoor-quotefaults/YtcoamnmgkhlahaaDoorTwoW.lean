/- The law QuoteTwoWay, out of the contracts. -/
import Derived.Test.YtcoamnmgkhlahaaDoorGives
set_option linter.unusedSimpArgs false
set_option linter.unusedVariables false
namespace Go.Proofs.YtcoamnmgkhlahaaDoor
open Go.RowKit Go.Lib

theorem qt_arr (l : List UInt8) : (⟨(Q.qt l).toArray⟩ : ByteArray).size = 2 + Q.sz l ∧ (⟨(Q.qt l).toArray⟩ : ByteArray).data.toList = Q.qt l := by
  refine ⟨?_, rfl⟩
  rw [← Q.qt_length]; rfl
theorem bapp (a b : ByteArray) : (a ++ b).data.toList = a.data.toList ++ b.data.toList := by simp [ByteArray.data_append]

set_option maxHeartbeats 8000000 in
set_option maxRecDepth 100000 in
theorem two_ge (s ahead behind text : ByteArray) (z : Int) (w : World) (t0 : Tb w) (hz1 : -9223372036854775808 ≤ z) (hz2 : z ≤ 9223372036854775807) (hs : s.size ≤ 1048576) (ha : ahead.size ≤ 1048576) (hb : behind.size ≤ 1048576) (ht : text.size ≤ 1048576)
    (hV : validD s.data.toList = true) (R : List UInt8 × Nat × Nat) (hR : Q.unqAll text.data.toList z = R) (her : R.2.2 ≠ 0) :
    Calls Tryd.prog 6 #[.string s, .string ahead, .string behind, .string text, .int .i64 z] w fun e w' => e = .returned (.bool true) ∧ Below w.heap.size w w' := by
  obtain ⟨r, p, er⟩ := R
  simp only at her
  have hinv := Q.unqAll_inv text.data.toList z
  have herr := Q.unqAll_err text.data.toList z
  rw [hR] at hinv herr
  simp only at hinv herr
  have hlt : text.data.toList.length = text.size := by simp
  rw [hlt] at hinv
  have g13 := gives_unquote text z hz1 hz2 (by omega) r p er hR
  have c15 : Hid (Gives 15 #[] (.bool true)) := gives_awake
  have gq := gives_quote s hs hV
  have gz := gives_size s hs hV
  have gv := gives_valid s (by omega)
  rw [hV] at gv
  have hq := qt_arr s.data.toList
  have hszl := Q.sz_le s.data.toList
  have hsl : s.data.toList.length = s.size := by simp
  have hub := Q.unq_back s.data.toList ahead.data.toList behind.data.toList hV
  have hal : ahead.data.toList.length = ahead.size := by simp
  rw [hal, Q.qt_length] at hub
  rw [← hq.2] at hub
  obtain ⟨T, hT⟩ : ∃ T : ByteArray, T = ⟨(Q.qt s.data.toList).toArray⟩ := ⟨_, rfl⟩
  rw [← hT] at gq hq hub
  obtain ⟨Z, hZ⟩ : ∃ Z : Nat, Z = 2 + Q.sz s.data.toList := ⟨_, rfl⟩
  rw [← hZ] at gz hq hub
  have hZb : Z ≤ 6291458 := by rw [hZ]; omega
  have hub2 : Q.unqAll (ahead ++ T ++ behind).data.toList (ahead.size : Int) = (s.data.toList, ahead.size + Z, 0) := by
    rw [bapp, bapp, List.append_assoc]
    exact hub
  have hA : (ahead ++ T ++ behind).size = ahead.size + T.size + behind.size := by simp [ByteArray.size_append]
  have ga := gives_unquote (ahead ++ T ++ behind) (ahead.size : Int) (by omega) (by omega) (by rw [hA]; omega) _ _ _ hub2
  have hss : (⟨s.data.toList.toArray⟩ : ByteArray) = s := by simp
  rw [hss] at ga
  have c8 : Hid (Gives 8 #[.string s] (.tuple #[.string T, .int .i64 0])) := gq
  have c9 : Hid (Gives 9 #[.string s] (.tuple #[.int .i64 (Z : Int), .int .i64 0])) := gz
  have c11 : Hid (Gives 11 #[.string s] (.bool true)) := gv
  have c13a : Hid (Gives 13 #[.string (ahead ++ T ++ behind), .int .i64 (ahead.size : Int)] (.tuple #[.string s, .int .i64 ((ahead.size + Z : Nat) : Int), .int .i64 0])) := ga
  have q1 : ((Z : Int) != (T.size : Int)) = false := by rw [bne_eq_false_iff_eq]; omega
  have q2 : ¬ 9223372036854775807 < ahead.size + T.size := by omega
  have q3 : ¬ 9223372036854775807 < ahead.size + T.size + behind.size := by omega
  have q4 : (((ahead.size + Z : Nat) : Int) != (ahead.size : Int) + (T.size : Int)) = false := by rw [bne_eq_false_iff_eq]; omega
  have q5 : (((ahead.size : Int) + (Z : Int)) != (ahead.size : Int) + (T.size : Int)) = false := by rw [bne_eq_false_iff_eq]; omega
  have q6 : T.size ≤ 6291458 := by omega
  have q7 : (T.size : Int) ≤ 6291458 := by omega
  have q8 : (ahead.size : Int) ≤ 1048576 := by omega
  obtain rfl : r = [] := herr her
  have hp := hinv.1
  have c13 : Hid (Gives 13 #[.string text, .int .i64 z] (.tuple #[.string ⟨#[]⟩, .int .i64 (p : Int), .int .i64 (er : Int)])) := g13
  have r1 : ((er : Int) != 0) = true := by rw [bne_iff_ne]; omega
  have r2 : (0 : Int) ≤ (p : Int) := by omega
  have r3 : (p : Int) ≤ (text.size : Int) := by omega
  clear g13 hinv herr her hR hlt hp
  clear hub hub2 hA ga hss gq gz gv hq hszl hsl hal hT hZ hZb hV
  have b0 := Below.refl w.heap.size w
  go_enter Tryd.func6, Tryd.ntmps6
  go_wp2_with fail
  refine (c15.out w _ b0 t0).mono ?_
  rintro e w1 ⟨rfl, b1, t1⟩
  go_wp2_with fail
  refine (c8.out w _ b1 t1).mono ?_
  rintro e w2 ⟨rfl, b2, t2⟩
  go_wp2_with fail
  refine (c9.out w _ b2 t2).mono ?_
  rintro e w3 ⟨rfl, b3, t3⟩
  go_wp2_with fail
  refine (c11.out w _ b3 t3).mono ?_
  rintro e w4 ⟨rfl, b4, t4⟩
  go_wp2_with fail
  refine (c13a.out w _ b4 t4).mono ?_
  rintro e w5 ⟨rfl, b5, t5⟩
  go_wp2_with fail
  refine (c13.out w _ b5 t5).mono ?_
  rintro e w6 ⟨rfl, b6, t6⟩
  go_wp2
  go_ret
  exact ⟨rfl, b6⟩

set_option maxHeartbeats 8000000 in
set_option maxRecDepth 100000 in
theorem two_go (s ahead behind text : ByteArray) (z : Int) (w : World) (t0 : Tb w) (hz1 : -9223372036854775808 ≤ z) (hz2 : z ≤ 9223372036854775807) (hs : s.size ≤ 1048576) (ha : ahead.size ≤ 1048576) (hb : behind.size ≤ 1048576) (ht : text.size ≤ 1048576)
    (hV : validD s.data.toList = true) (R : List UInt8 × Nat × Nat) (hR : Q.unqAll text.data.toList z = R) (her : R.2.2 = 0) :
    Calls Tryd.prog 6 #[.string s, .string ahead, .string behind, .string text, .int .i64 z] w fun e w' => e = .returned (.bool true) ∧ Below w.heap.size w w' := by
  obtain ⟨r, p, er⟩ := R
  simp only at her
  have hinv := Q.unqAll_inv text.data.toList z
  have herr := Q.unqAll_err text.data.toList z
  rw [hR] at hinv herr
  simp only at hinv herr
  have hlt : text.data.toList.length = text.size := by simp
  rw [hlt] at hinv
  have g13 := gives_unquote text z hz1 hz2 (by omega) r p er hR
  have c15 : Hid (Gives 15 #[] (.bool true)) := gives_awake
  have gq := gives_quote s hs hV
  have gz := gives_size s hs hV
  have gv := gives_valid s (by omega)
  rw [hV] at gv
  have hq := qt_arr s.data.toList
  have hszl := Q.sz_le s.data.toList
  have hsl : s.data.toList.length = s.size := by simp
  have hub := Q.unq_back s.data.toList ahead.data.toList behind.data.toList hV
  have hal : ahead.data.toList.length = ahead.size := by simp
  rw [hal, Q.qt_length] at hub
  rw [← hq.2] at hub
  obtain ⟨T, hT⟩ : ∃ T : ByteArray, T = ⟨(Q.qt s.data.toList).toArray⟩ := ⟨_, rfl⟩
  rw [← hT] at gq hq hub
  obtain ⟨Z, hZ⟩ : ∃ Z : Nat, Z = 2 + Q.sz s.data.toList := ⟨_, rfl⟩
  rw [← hZ] at gz hq hub
  have hZb : Z ≤ 6291458 := by rw [hZ]; omega
  have hub2 : Q.unqAll (ahead ++ T ++ behind).data.toList (ahead.size : Int) = (s.data.toList, ahead.size + Z, 0) := by
    rw [bapp, bapp, List.append_assoc]
    exact hub
  have hA : (ahead ++ T ++ behind).size = ahead.size + T.size + behind.size := by simp [ByteArray.size_append]
  have ga := gives_unquote (ahead ++ T ++ behind) (ahead.size : Int) (by omega) (by omega) (by rw [hA]; omega) _ _ _ hub2
  have hss : (⟨s.data.toList.toArray⟩ : ByteArray) = s := by simp
  rw [hss] at ga
  have c8 : Hid (Gives 8 #[.string s] (.tuple #[.string T, .int .i64 0])) := gq
  have c9 : Hid (Gives 9 #[.string s] (.tuple #[.int .i64 (Z : Int), .int .i64 0])) := gz
  have c11 : Hid (Gives 11 #[.string s] (.bool true)) := gv
  have c13a : Hid (Gives 13 #[.string (ahead ++ T ++ behind), .int .i64 (ahead.size : Int)] (.tuple #[.string s, .int .i64 ((ahead.size + Z : Nat) : Int), .int .i64 0])) := ga
  have q1 : ((Z : Int) != (T.size : Int)) = false := by rw [bne_eq_false_iff_eq]; omega
  have q2 : ¬ 9223372036854775807 < ahead.size + T.size := by omega
  have q3 : ¬ 9223372036854775807 < ahead.size + T.size + behind.size := by omega
  have q4 : (((ahead.size + Z : Nat) : Int) != (ahead.size : Int) + (T.size : Int)) = false := by rw [bne_eq_false_iff_eq]; omega
  have q5 : (((ahead.size : Int) + (Z : Int)) != (ahead.size : Int) + (T.size : Int)) = false := by rw [bne_eq_false_iff_eq]; omega
  have q6 : T.size ≤ 6291458 := by omega
  have q7 : (T.size : Int) ≤ 6291458 := by omega
  have q8 : (ahead.size : Int) ≤ 1048576 := by omega
  subst her
  have hi := hinv.2 rfl
  have hp := hinv.1
  obtain ⟨X, hX⟩ : ∃ X : ByteArray, X = ⟨r.toArray⟩ := ⟨_, rfl⟩
  have hXl : X.data.toList = r := by rw [hX]
  have hXs : X.size = r.length := by rw [hX]; rfl
  have gqr := gives_quote X (by omega) (by rw [hXl]; exact hi.1)
  rw [hXl] at gqr
  have hqr := qt_arr r
  obtain ⟨U, hU⟩ : ∃ U : ByteArray, U = ⟨(Q.qt r).toArray⟩ := ⟨_, rfl⟩
  rw [← hU] at gqr hqr
  have hszr := Q.sz_le r
  have hubr := Q.unq_back r [] [] hi.1
  simp only [List.nil_append, List.append_nil, List.length_nil] at hubr
  rw [← hqr.2] at hubr
  have gur := gives_unquote U 0 (by omega) (by omega) (by omega) _ _ _ hubr
  rw [← hX] at g13 gur
  have c13 : Hid (Gives 13 #[.string text, .int .i64 z] (.tuple #[.string X, .int .i64 (p : Int), .int .i64 0])) := g13
  have c8r : Hid (Gives 8 #[.string X] (.tuple #[.string U, .int .i64 0])) := gqr
  have hUl : U.data.toList.length = U.size := by simp
  have c13u : Hid (Gives 13 #[.string U, .int .i64 0] (.tuple #[.string X, .int .i64 ((0 + U.data.toList.length : Nat) : Int), .int .i64 0])) := gur
  rw [hUl, Nat.zero_add] at c13u
  have hql := Q.qt_length r
  have r1 : z + 1 < (p : Int) := by omega
  have r2 : (p : Int) ≤ (text.size : Int) := by omega
  have r3 : (U.size : Int) ≤ (p : Int) - z := by omega
  have r4 : (0 : Int) ≤ z := by omega
  have r5 : (p : Int) ≤ 1048576 := by omega
  clear g13 hinv herr hR hlt hp hi gqr hqr hszr hubr gur hX hXl hXs hU hUl hql
  clear hub hub2 hA ga hss gq gz gv hq hszl hsl hal hT hZ hZb hV
  have b0 := Below.refl w.heap.size w
  go_enter Tryd.func6, Tryd.ntmps6
  go_wp2_with fail
  refine (c15.out w _ b0 t0).mono ?_
  rintro e w1 ⟨rfl, b1, t1⟩
  go_wp2_with fail
  refine (c8.out w _ b1 t1).mono ?_
  rintro e w2 ⟨rfl, b2, t2⟩
  go_wp2_with fail
  refine (c9.out w _ b2 t2).mono ?_
  rintro e w3 ⟨rfl, b3, t3⟩
  go_wp2_with fail
  refine (c11.out w _ b3 t3).mono ?_
  rintro e w4 ⟨rfl, b4, t4⟩
  go_wp2_with fail
  refine (c13a.out w _ b4 t4).mono ?_
  rintro e w5 ⟨rfl, b5, t5⟩
  go_wp2_with fail
  refine (c13.out w _ b5 t5).mono ?_
  rintro e w6 ⟨rfl, b6, t6⟩
  go_wp2_with fail
  refine (c8r.out w _ b6 t6).mono ?_
  rintro e w7 ⟨rfl, b7, t7⟩
  go_wp2_with fail
  refine (c13u.out w _ b7 t7).mono ?_
  rintro e w8 ⟨rfl, b8, t8⟩
  go_wp2
  go_ret
  exact ⟨rfl, b8⟩

set_option maxHeartbeats 8000000 in
set_option maxRecDepth 100000 in
theorem two_be (s ahead behind text : ByteArray) (z : Int) (w : World) (t0 : Tb w) (hz1 : -9223372036854775808 ≤ z) (hz2 : z ≤ 9223372036854775807) (hs : s.size ≤ 1048576) (ha : ahead.size ≤ 1048576) (hb : behind.size ≤ 1048576) (ht : text.size ≤ 1048576)
    (hV : validD s.data.toList = false) (R : List UInt8 × Nat × Nat) (hR : Q.unqAll text.data.toList z = R) (her : R.2.2 ≠ 0) :
    Calls Tryd.prog 6 #[.string s, .string ahead, .string behind, .string text, .int .i64 z] w fun e w' => e = .returned (.bool true) ∧ Below w.heap.size w w' := by
  obtain ⟨r, p, er⟩ := R
  simp only at her
  have hinv := Q.unqAll_inv text.data.toList z
  have herr := Q.unqAll_err text.data.toList z
  rw [hR] at hinv herr
  simp only at hinv herr
  have hlt : text.data.toList.length = text.size := by simp
  rw [hlt] at hinv
  have g13 := gives_unquote text z hz1 hz2 (by omega) r p er hR
  have c15 : Hid (Gives 15 #[] (.bool true)) := gives_awake
  have gq := gives_quote_bad s hs hV
  have gz := gives_size_bad s hs hV
  have gv := gives_valid s (by omega)
  rw [hV] at gv
  have c8 : Hid (Gives 8 #[.string s] (.tuple #[.string ⟨#[]⟩, .int .i64 11])) := gq
  have c9 : Hid (Gives 9 #[.string s] (.tuple #[.int .i64 0, .int .i64 11])) := gz
  have c11 : Hid (Gives 11 #[.string s] (.bool false)) := gv
  obtain rfl : r = [] := herr her
  have hp := hinv.1
  have c13 : Hid (Gives 13 #[.string text, .int .i64 z] (.tuple #[.string ⟨#[]⟩, .int .i64 (p : Int), .int .i64 (er : Int)])) := g13
  have r1 : ((er : Int) != 0) = true := by rw [bne_iff_ne]; omega
  have r2 : (0 : Int) ≤ (p : Int) := by omega
  have r3 : (p : Int) ≤ (text.size : Int) := by omega
  clear g13 hinv herr her hR hlt hp
  clear gq gz gv hV
  have b0 := Below.refl w.heap.size w
  go_enter Tryd.func6, Tryd.ntmps6
  go_wp2_with fail
  refine (c15.out w _ b0 t0).mono ?_
  rintro e w1 ⟨rfl, b1, t1⟩
  go_wp2_with fail
  refine (c8.out w _ b1 t1).mono ?_
  rintro e w2 ⟨rfl, b2, t2⟩
  go_wp2_with fail
  refine (c9.out w _ b2 t2).mono ?_
  rintro e w3 ⟨rfl, b3, t3⟩
  go_wp2_with fail
  refine (c11.out w _ b3 t3).mono ?_
  rintro e w4 ⟨rfl, b4, t4⟩
  go_wp2_with fail
  refine (c13.out w _ b4 t4).mono ?_
  rintro e w5 ⟨rfl, b5, t5⟩
  go_wp2
  go_ret
  exact ⟨rfl, b5⟩

set_option maxHeartbeats 8000000 in
set_option maxRecDepth 100000 in
theorem two_bo (s ahead behind text : ByteArray) (z : Int) (w : World) (t0 : Tb w) (hz1 : -9223372036854775808 ≤ z) (hz2 : z ≤ 9223372036854775807) (hs : s.size ≤ 1048576) (ha : ahead.size ≤ 1048576) (hb : behind.size ≤ 1048576) (ht : text.size ≤ 1048576)
    (hV : validD s.data.toList = false) (R : List UInt8 × Nat × Nat) (hR : Q.unqAll text.data.toList z = R) (her : R.2.2 = 0) :
    Calls Tryd.prog 6 #[.string s, .string ahead, .string behind, .string text, .int .i64 z] w fun e w' => e = .returned (.bool true) ∧ Below w.heap.size w w' := by
  obtain ⟨r, p, er⟩ := R
  simp only at her
  have hinv := Q.unqAll_inv text.data.toList z
  have herr := Q.unqAll_err text.data.toList z
  rw [hR] at hinv herr
  simp only at hinv herr
  have hlt : text.data.toList.length = text.size := by simp
  rw [hlt] at hinv
  have g13 := gives_unquote text z hz1 hz2 (by omega) r p er hR
  have c15 : Hid (Gives 15 #[] (.bool true)) := gives_awake
  have gq := gives_quote_bad s hs hV
  have gz := gives_size_bad s hs hV
  have gv := gives_valid s (by omega)
  rw [hV] at gv
  have c8 : Hid (Gives 8 #[.string s] (.tuple #[.string ⟨#[]⟩, .int .i64 11])) := gq
  have c9 : Hid (Gives 9 #[.string s] (.tuple #[.int .i64 0, .int .i64 11])) := gz
  have c11 : Hid (Gives 11 #[.string s] (.bool false)) := gv
  subst her
  have hi := hinv.2 rfl
  have hp := hinv.1
  obtain ⟨X, hX⟩ : ∃ X : ByteArray, X = ⟨r.toArray⟩ := ⟨_, rfl⟩
  have hXl : X.data.toList = r := by rw [hX]
  have hXs : X.size = r.length := by rw [hX]; rfl
  have gqr := gives_quote X (by omega) (by rw [hXl]; exact hi.1)
  rw [hXl] at gqr
  have hqr := qt_arr r
  obtain ⟨U, hU⟩ : ∃ U : ByteArray, U = ⟨(Q.qt r).toArray⟩ := ⟨_, rfl⟩
  rw [← hU] at gqr hqr
  have hszr := Q.sz_le r
  have hubr := Q.unq_back r [] [] hi.1
  simp only [List.nil_append, List.append_nil, List.length_nil] at hubr
  rw [← hqr.2] at hubr
  have gur := gives_unquote U 0 (by omega) (by omega) (by omega) _ _ _ hubr
  rw [← hX] at g13 gur
  have c13 : Hid (Gives 13 #[.string text, .int .i64 z] (.tuple #[.string X, .int .i64 (p : Int), .int .i64 0])) := g13
  have c8r : Hid (Gives 8 #[.string X] (.tuple #[.string U, .int .i64 0])) := gqr
  have hUl : U.data.toList.length = U.size := by simp
  have c13u : Hid (Gives 13 #[.string U, .int .i64 0] (.tuple #[.string X, .int .i64 ((0 + U.data.toList.length : Nat) : Int), .int .i64 0])) := gur
  rw [hUl, Nat.zero_add] at c13u
  have hql := Q.qt_length r
  have r1 : z + 1 < (p : Int) := by omega
  have r2 : (p : Int) ≤ (text.size : Int) := by omega
  have r3 : (U.size : Int) ≤ (p : Int) - z := by omega
  have r4 : (0 : Int) ≤ z := by omega
  have r5 : (p : Int) ≤ 1048576 := by omega
  clear g13 hinv herr hR hlt hp hi gqr hqr hszr hubr gur hX hXl hXs hU hUl hql
  clear gq gz gv hV
  have b0 := Below.refl w.heap.size w
  go_enter Tryd.func6, Tryd.ntmps6
  go_wp2_with fail
  refine (c15.out w _ b0 t0).mono ?_
  rintro e w1 ⟨rfl, b1, t1⟩
  go_wp2_with fail
  refine (c8.out w _ b1 t1).mono ?_
  rintro e w2 ⟨rfl, b2, t2⟩
  go_wp2_with fail
  refine (c9.out w _ b2 t2).mono ?_
  rintro e w3 ⟨rfl, b3, t3⟩
  go_wp2_with fail
  refine (c11.out w _ b3 t3).mono ?_
  rintro e w4 ⟨rfl, b4, t4⟩
  go_wp2_with fail
  refine (c13.out w _ b4 t4).mono ?_
  rintro e w5 ⟨rfl, b5, t5⟩
  go_wp2_with fail
  refine (c8r.out w _ b5 t5).mono ?_
  rintro e w6 ⟨rfl, b6, t6⟩
  go_wp2_with fail
  refine (c13u.out w _ b6 t6).mono ?_
  rintro e w7 ⟨rfl, b7, t7⟩
  go_wp2
  go_ret
  exact ⟨rfl, b7⟩

theorem two_walk (s ahead behind text : ByteArray) (z : Int) (w : World) (t0 : Tb w) (hz1 : -9223372036854775808 ≤ z) (hz2 : z ≤ 9223372036854775807) (hs : s.size ≤ 1048576) (ha : ahead.size ≤ 1048576) (hb : behind.size ≤ 1048576) (ht : text.size ≤ 1048576) :
    Calls Tryd.prog 6 #[.string s, .string ahead, .string behind, .string text, .int .i64 z] w fun e w' => e = .returned (.bool true) ∧ Below w.heap.size w w' := by
  by_cases h : (Q.unqAll text.data.toList z).2.2 = 0
  · cases hV : validD s.data.toList
    · exact two_bo s ahead behind text z w t0 hz1 hz2 hs ha hb ht hV _ rfl h
    · exact two_go s ahead behind text z w t0 hz1 hz2 hs ha hb ht hV _ rfl h
  · cases hV : validD s.data.toList
    · exact two_be s ahead behind text z w t0 hz1 hz2 hs ha hb ht hV _ rfl h
    · exact two_ge s ahead behind text z w t0 hz1 hz2 hs ha hb ht hV _ rfl h
end Go.Proofs.YtcoamnmgkhlahaaDoor
