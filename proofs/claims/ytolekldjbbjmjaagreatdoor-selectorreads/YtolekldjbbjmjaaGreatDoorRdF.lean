import Derived.Test.YtolekldjbbjmjaaGreatDoorRdE
/- quote's reader: said, number. -/
set_option linter.unusedSimpArgs false
set_option linter.unusedVariables false
set_option maxRecDepth 100000
namespace Go.Proofs.YtolekldjbbjmjaaGreatDoor
open Go.RowKit Go.Lib
/-- the said letters' table, cell by cell -/
theorem Q.saidN_hi (n : Nat) (h : 128 ≤ n) : Q.saidN n = 0 := by
  unfold Q.saidN
  repeat' split
  all_goals first | omega | rfl
set_option maxRecDepth 100000 in
set_option maxHeartbeats 400000 in
theorem said_any (n : Nat) (hn : n < 256) (w : World) (hT : SaidT w) :
    Calls Tryz.prog 143 #[.int .u8 n] w fun e w' => e = .returned (.int .u8 (Q.saidN n)) ∧ w' = w := by
  by_cases h : n < 128
  · have hc := hT n h
    have hz : (n : Int) < 128 := by omega
    generalize Q.saidN n = L at *
    clear hT
    go_enter Tryz.func143, Tryz.ntmps143
    go_wp2
    go_ret
    exact ⟨rfl, rfl⟩
  · have hz : (128 : Int) ≤ n := by omega
    rw [Q.saidN_hi n (by omega)]
    clear hT
    go_enter Tryz.func143, Tryz.ntmps143
    go_wp2
    go_ret
    exact ⟨rfl, rfl⟩
theorem hit_yes {s : ByteArray} {k c : Nat} (h : hit s k c = true) : ∃ hk : k < s.size, s[k].toNat = c := by simpa [hit] using h
theorem hit_no {s : ByteArray} {k c : Nat} (h : hit s k c = false) (x : UInt8) (r : List UInt8) (hd : s.data.toList.drop k = x :: r) : x.toNat ≠ c := by
  intro e
  have hk : k < s.size := by
    rcases Nat.lt_or_ge k s.size with h' | h'
    · exact h'
    · rw [drop_endW s k h'] at hd; cases hd
  rw [drop_consW s k hk] at hd
  have : s[k] = x := (List.cons.inj hd).1
  simp [hit, hk, this, e] at h
theorem numF_pre (t : List UInt8) (h : (Q.digs false 4 0 0 t).2.2 = false) : Q.numF t = (0, (Q.digs false 4 0 0 t).2.1, false) := by
  rw [Q.numF, if_pos h]
theorem numF_plain (t : List UInt8) (h : (Q.digs false 4 0 0 t).2.2 = true) (hc : ¬ (55296 ≤ (Q.digs false 4 0 0 t).1 ∧ (Q.digs false 4 0 0 t).1 < 56320)) : Q.numF t = ((Q.digs false 4 0 0 t).1, 4, true) := by
  rw [Q.numF, if_neg (by rw [h]; simp), if_neg hc]
theorem numF_p1 (t : List UInt8) (h : (Q.digs false 4 0 0 t).2.2 = true) (hc : 55296 ≤ (Q.digs false 4 0 0 t).1 ∧ (Q.digs false 4 0 0 t).1 < 56320) (h2 : ∀ x r, t.drop 4 = x :: r → x.toNat ≠ 92) : Q.numF t = (0, 4, false) := by
  rw [Q.numF, if_neg (by rw [h]; simp), if_pos hc]
  split
  · rfl
  · rename_i x r hx
    rw [if_pos (h2 x r hx)]
theorem numF_p2 (t : List UInt8) (h : (Q.digs false 4 0 0 t).2.2 = true) (hc : 55296 ≤ (Q.digs false 4 0 0 t).1 ∧ (Q.digs false 4 0 0 t).1 < 56320) (x : UInt8) (r : List UInt8) (hx : t.drop 4 = x :: r) (h92 : x.toNat = 92) (h2 : ∀ y r2, r = y :: r2 → y.toNat ≠ 117) : Q.numF t = (0, 5, false) := by
  rw [Q.numF, if_neg (by rw [h]; simp), if_pos hc, hx]
  simp only
  rw [if_neg (by omega)]
  split
  · rfl
  · rename_i y r2
    rw [if_pos (h2 y r2 rfl)]
theorem numF_p3 (t : List UInt8) (h : (Q.digs false 4 0 0 t).2.2 = true) (hc : 55296 ≤ (Q.digs false 4 0 0 t).1 ∧ (Q.digs false 4 0 0 t).1 < 56320) (x y : UInt8) (r : List UInt8) (hx : t.drop 4 = x :: y :: r) (h92 : x.toNat = 92) (h117 : y.toNat = 117) :
    Q.numF t = if (Q.digs true 4 0 0 r).2.2 = false then (0, 6 + (Q.digs true 4 0 0 r).2.1, false) else (65536 + 1024 * ((Q.digs false 4 0 0 t).1 - 55296) + ((Q.digs true 4 0 0 r).1 - 56320), 10, true) := by
  rw [Q.numF, if_neg (by rw [h]; simp), if_pos hc, hx]
  simp only
  rw [if_neg (by omega), if_neg (by omega)]
/-- what number, escape and char tell: with ok the bytes are written -/
def Told (B b : Nat) (s : ByteArray) (l : List UInt8) (w : World) (err : Nat) (q : Nat) (ok : Bool) (bs : List UInt8) (e : Ending) (w' : World) : Prop :=
  e = .returned (.int .i64 (if ok then 0 else err)) ∧ Rd B b s q (if ok then l ++ bs else l) w' ∧ Below B w w'
set_option maxHeartbeats 4000000 in
set_option maxRecDepth 100000 in
theorem number_pair (B b : Nat) (s : ByteArray) (k : Nat) (l : List UInt8) (w : World) (h : Rd B b s k l w) (hs : s.size ≤ 281474976710656) (hk : k ≤ s.size) (hlen : l.length + 4 ≤ 140737488355328) (hBw : B ≤ w.heap.size)
    (hok : (Q.digs false 4 0 0 (s.data.toList.drop k)).2.2 = true) (hc : 55296 ≤ (Q.digs false 4 0 0 (s.data.toList.drop k)).1 ∧ (Q.digs false 4 0 0 (s.data.toList.drop k)).1 < 56320) :
    Calls Tryz.prog 142 #[.pointer (some ⟨b, 0, none⟩)] w (Told B b s l w 12 (k + (Q.numF (s.data.toList.drop k)).2.1) (Q.numF (s.data.toList.drop k)).2.2 (encodeRune ((Q.numF (s.data.toList.drop k)).1 : Int))) := by
  have cd := qdigits_any B b s k l false w h hs hk
  have hdl := Q.digs_le false 4 0 0 (s.data.toList.drop k)
  have hlen2 : (s.data.toList.drop k).length = s.size - k := by simp
  rw [hlen2] at hdl
  have hn4 := hdl.2.2.2 hok
  rw [hok, hn4, Nat.zero_add] at cd
  have hk4 : k + 4 ≤ s.size := by omega
  have hd4 : (s.data.toList.drop k).drop 4 = s.data.toList.drop (k + 4) := by rw [List.drop_drop]
  obtain ⟨v, hv⟩ : ∃ v, v = (Q.digs false 4 0 0 (s.data.toList.drop k)).1 := ⟨_, rfl⟩
  have CD : Hid (Calls Tryz.prog 147 #[.pointer (some ⟨b, 0, none⟩), .bool false] w fun e w' => e = .returned (.tuple #[.int .i32 (v : Int), .bool true]) ∧ Rd B b s (k + 4) l w' ∧ Below B w w') := by
    rw [hv]; exact cd
  have hc' := hc
  rw [← hv] at hc'
  have y1 : (55296 : Int) ≤ (v : Int) := by omega
  have y2 : (v : Int) < 56320 := by omega
  cases h92 : hit s (k + 4) 92
  · rw [numF_p1 _ hok hc (by intro x r hx; rw [hd4] at hx; exact hit_no h92 x r hx)]
    clear hdl hlen2 hn4 cd hc hc' hok hd4 hv
    generalize (v : Int) = V at *
    go_enter Tryz.func142, Tryz.ntmps142
    go_wp2_with fail
    refine CD.out.mono ?_
    rintro e w1 ⟨rfl, R1, b1⟩
    go_wp2_with fail
    refine (take_any B b s (k + 4) l 92 w1 R1 hs hk4).mono ?_
    rw [h92]
    rintro e w2 ⟨rfl, R2, b2⟩
    go_wp2
    go_ret
    exact ⟨rfl, R2, b1.trans b2⟩
  · obtain ⟨hk5, he92⟩ := hit_yes h92
    have hx4 := drop_consW s (k + 4) hk5
    have hk5' : k + 5 ≤ s.size := by omega
    cases h117 : hit s (k + 5) 117
    · rw [numF_p2 _ hok hc s[k + 4] _ (by rw [hd4]; exact hx4) he92 (by intro y r2 hy; exact hit_no h117 y r2 hy)]
      clear hdl hlen2 hn4 cd hc hc' hok hd4 hv hx4 he92
      generalize (v : Int) = V at *
      go_enter Tryz.func142, Tryz.ntmps142
      go_wp2_with fail
      refine CD.out.mono ?_
      rintro e w1 ⟨rfl, R1, b1⟩
      go_wp2_with fail
      refine (take_any B b s (k + 4) l 92 w1 R1 hs hk4).mono ?_
      rw [h92]
      rintro e w2 ⟨rfl, R2, b2⟩
      go_wp2_with fail
      refine (take_any B b s (k + 5) l 117 w2 R2 hs hk5').mono ?_
      rw [h117]
      rintro e w3 ⟨rfl, R3, b3⟩
      go_wp2
      go_ret
      exact ⟨rfl, R3, (b1.trans b2).trans b3⟩
    · obtain ⟨hk6, he117⟩ := hit_yes h117
      have hx5 := drop_consW s (k + 5) hk6
      rw [hx5] at hx4
      have hk6' : k + 6 ≤ s.size := by omega
      have hF := numF_p3 _ hok hc s[k + 4] s[k + 5] _ (by rw [hd4]; exact hx4) he92 he117
      rw [hF]
      have ct := fun w2 (R2 : Rd B b s (k + 6) l w2) => qdigits_any B b s (k + 6) l true w2 R2 hs hk6'
      have htl := Q.digs_le true 4 0 0 (s.data.toList.drop (k + 6))
      rw [← hv]
      cases hok2 : (Q.digs true 4 0 0 (s.data.toList.drop (k + 6))).2.2
      · rw [if_pos rfl]
        have CT : Hid (∀ w2, Rd B b s (k + 6) l w2 → Calls Tryz.prog 147 #[.pointer (some ⟨b, 0, none⟩), .bool true] w2 fun e w' => e = .returned (.tuple #[.int .i32 (Q.digs true 4 0 0 (s.data.toList.drop (k + 6))).1, .bool false]) ∧ Rd B b s (k + 6 + (Q.digs true 4 0 0 (s.data.toList.drop (k + 6))).2.1) l w' ∧ Below B w2 w') := by
          intro w2 R2
          have := ct w2 R2
          rw [hok2] at this
          exact this
        have e6 : k + (6 + (Q.digs true 4 0 0 (s.data.toList.drop (k + 5 + 1))).2.1) = k + 6 + (Q.digs true 4 0 0 (s.data.toList.drop (k + 6))).2.1 := by
          show k + (6 + (Q.digs true 4 0 0 (s.data.toList.drop (k + 6))).2.1) = _
          omega
        simp only
        rw [e6]
        clear hdl hlen2 hn4 cd hc hc' hok hd4 hv hx4 he92 he117 hF ct htl hok2 e6 hx5
        generalize Q.digs true 4 0 0 (s.data.toList.drop (k + 6)) = D at *
        generalize (v : Int) = V at *
        obtain ⟨v2, n2, o2⟩ := D
        simp only at *
        go_enter Tryz.func142, Tryz.ntmps142
        go_wp2_with fail
        refine CD.out.mono ?_
        rintro e w1 ⟨rfl, R1, b1⟩
        go_wp2_with fail
        refine (take_any B b s (k + 4) l 92 w1 R1 hs hk4).mono ?_
        rw [h92]
        rintro e w2 ⟨rfl, R2, b2⟩
        go_wp2_with fail
        refine (take_any B b s (k + 5) l 117 w2 R2 hs hk5').mono ?_
        rw [h117]
        rintro e w3 ⟨rfl, R3, b3⟩
        go_wp2_with fail
        refine (CT.out w3 R3).mono ?_
        rintro e w4 ⟨rfl, R4, b4⟩
        go_wp2
        go_ret
        exact ⟨rfl, R4, ((b1.trans b2).trans b3).trans b4⟩
      · rw [if_neg (by simp)]
        have hr2 := (Q.digs_range true _ hok2).2.1 rfl
        have hm := htl.2.2.2 hok2
        have CT : Hid (∀ w2, Rd B b s (k + 6) l w2 → Calls Tryz.prog 147 #[.pointer (some ⟨b, 0, none⟩), .bool true] w2 fun e w' => e = .returned (.tuple #[.int .i32 (Q.digs true 4 0 0 (s.data.toList.drop (k + 6))).1, .bool true]) ∧ Rd B b s (k + 10) l w' ∧ Below B w2 w') := by
          intro w2 R2
          have := ct w2 R2
          rw [hok2, hm] at this
          exact this
        have e6 : (Q.digs true 4 0 0 (s.data.toList.drop (k + 5 + 1))).1 = (Q.digs true 4 0 0 (s.data.toList.drop (k + 6))).1 := rfl
        simp only
        rw [e6]
        clear hdl hlen2 hn4 cd hc hok hd4 hv hx4 he92 he117 hF ct htl hok2 e6 hx5 hm
        generalize (Q.digs true 4 0 0 (s.data.toList.drop (k + 6))).1 = u at *
        obtain ⟨V, hV⟩ : ∃ V : Int, V = (v : Int) := ⟨_, rfl⟩
        obtain ⟨U, hU⟩ : ∃ U : Int, U = (u : Int) := ⟨_, rfl⟩
        have e7 : ((65536 + 1024 * (v - 55296) + (u - 56320) : Nat) : Int) = 65536 + (V - 55296) * 1024 + (U - 56320) := by omega
        have y3 : (56320 : Int) ≤ U := by omega
        have y4 : U ≤ 57343 := by omega
        have WR : Hid (∀ w1, Rd B b s (k + 10) l w1 → B ≤ w1.heap.size → Calls Tryz.prog 145 #[.pointer (some ⟨b, 2, none⟩), .int .i32 (65536 + (V - 55296) * 1024 + (U - 56320))] w1 fun e w' => (∃ m : Int, e = .returned (.tuple #[.int .i64 m, .nilIface])) ∧ Rd B b s (k + 10) (l ++ encodeRune (65536 + (V - 55296) * 1024 + (U - 56320))) w' ∧ Below B w1 w') :=
          fun w1 R1 hb => writeRune_rd B b s (k + 10) l _ (by omega) (by omega) w1 R1 hlen hb
        rw [e7]
        rw [← hV] at CD y1 y2
        rw [← hU] at CT
        clear e7 hV hU hc' hr2 hlen
        generalize hT : encodeRune (65536 + (V - 55296) * 1024 + (U - 56320)) = T at *
        clear hT
        go_enter Tryz.func142, Tryz.ntmps142
        go_wp2_with fail
        refine CD.out.mono ?_
        rintro e w1 ⟨rfl, R1, b1⟩
        go_wp2_with fail
        refine (take_any B b s (k + 4) l 92 w1 R1 hs hk4).mono ?_
        rw [h92]
        rintro e w2 ⟨rfl, R2, b2⟩
        go_wp2_with fail
        refine (take_any B b s (k + 5) l 117 w2 R2 hs hk5').mono ?_
        rw [h117]
        rintro e w3 ⟨rfl, R3, b3⟩
        go_wp2_with fail
        refine (CT.out w3 R3).mono ?_
        rintro e w4 ⟨rfl, R4, b4⟩
        have s4 := (((b1.trans b2).trans b3).trans b4).size
        go_wp2_with fail
        refine (WR.out w4 R4 (by omega)).mono ?_
        rintro e w5 ⟨⟨m, rfl⟩, R5, b5⟩
        go_wp2
        go_ret
        exact ⟨rfl, R5, (((b1.trans b2).trans b3).trans b4).trans b5⟩
set_option maxHeartbeats 4000000 in
set_option maxRecDepth 100000 in
theorem number_any (B b : Nat) (s : ByteArray) (k : Nat) (l : List UInt8) (w : World) (h : Rd B b s k l w) (hs : s.size ≤ 281474976710656) (hk : k ≤ s.size) (hlen : l.length + 4 ≤ 140737488355328) (hBw : B ≤ w.heap.size) :
    Calls Tryz.prog 142 #[.pointer (some ⟨b, 0, none⟩)] w (Told B b s l w 12 (k + (Q.numF (s.data.toList.drop k)).2.1) (Q.numF (s.data.toList.drop k)).2.2 (encodeRune ((Q.numF (s.data.toList.drop k)).1 : Int))) := by
  have cd := qdigits_any B b s k l false w h hs hk
  have hdl := Q.digs_le false 4 0 0 (s.data.toList.drop k)
  have hlen2 : (s.data.toList.drop k).length = s.size - k := by simp
  rw [hlen2] at hdl
  cases hok : (Q.digs false 4 0 0 (s.data.toList.drop k)).2.2
  · rw [numF_pre _ hok]
    rw [hok] at cd
    generalize Q.digs false 4 0 0 (s.data.toList.drop k) = D at *
    obtain ⟨v, n, ok⟩ := D
    simp only at *
    clear hok
    go_enter Tryz.func142, Tryz.ntmps142
    go_wp2_with (go_at_call 147; refine cd.mono ?_; rintro e w1 ⟨rfl, R1, b1⟩)
    go_ret
    exact ⟨rfl, R1, b1⟩
  · have hrg := Q.digs_range false _ hok
    have hn4 := hdl.2.2.2 hok
    rw [hok, hn4] at cd
    by_cases hc : 55296 ≤ (Q.digs false 4 0 0 (s.data.toList.drop k)).1 ∧ (Q.digs false 4 0 0 (s.data.toList.drop k)).1 < 56320
    · exact number_pair B b s k l w h hs hk hlen hBw hok hc
    · rw [numF_plain _ hok hc]
      generalize Q.digs false 4 0 0 (s.data.toList.drop k) = D at *
      obtain ⟨v, n, ok⟩ := D
      simp only at *
      have hv := hrg.1
      have CD : Hid (Calls Tryz.prog 147 #[.pointer (some ⟨b, 0, none⟩), .bool false] w fun e w' => e = .returned (.tuple #[.int .i32 (v : Int), .bool true]) ∧ Rd B b s (k + 4) l w' ∧ Below B w w') := by
        rw [Nat.zero_add] at cd
        exact cd
      have WR : Hid (∀ w1, Rd B b s (k + 4) l w1 → B ≤ w1.heap.size → Calls Tryz.prog 145 #[.pointer (some ⟨b, 2, none⟩), .int .i32 (v : Int)] w1 fun e w' => (∃ m : Int, e = .returned (.tuple #[.int .i64 m, .nilIface])) ∧ Rd B b s (k + 4) (l ++ encodeRune (v : Int)) w' ∧ Below B w1 w') :=
        fun w1 R1 hb => writeRune_rd B b s (k + 4) l (v : Int) (by omega) (by omega) w1 R1 hlen hb
      generalize encodeRune (v : Int) = T at *
      have hcase : (v : Int) < 55296 ∨ (55296 ≤ (v : Int) ∧ 56320 ≤ (v : Int)) := by omega
      clear hok hrg cd hc hdl hn4 hlen2 hlen hv
      generalize (v : Int) = V at *
      rcases hcase with hlo | hlo
      · have y1 : ¬ (55296 : Int) ≤ V := by omega
        clear hlo
        go_enter Tryz.func142, Tryz.ntmps142
        go_wp2_with (go_at_call 147; refine CD.out.mono ?_; rintro e w1 ⟨rfl, R1, b1⟩)
        refine (WR.out _ R1 (by have := b1.size; omega)).mono ?_
        rintro e w2 ⟨⟨m, rfl⟩, R2, b2⟩
        go_wp2
        go_ret
        exact ⟨rfl, R2, b1.trans b2⟩
      · have y1 : (55296 : Int) ≤ V := by omega
        have y2 : ¬ V < 56320 := by omega
        clear hlo
        go_enter Tryz.func142, Tryz.ntmps142
        go_wp2_with (go_at_call 147; refine CD.out.mono ?_; rintro e w1 ⟨rfl, R1, b1⟩)
        refine (WR.out _ R1 (by have := b1.size; omega)).mono ?_
        rintro e w2 ⟨⟨m, rfl⟩, R2, b2⟩
        go_wp2
        go_ret
        exact ⟨rfl, R2, b1.trans b2⟩
end Go.Proofs.YtolekldjbbjmjaaGreatDoor
