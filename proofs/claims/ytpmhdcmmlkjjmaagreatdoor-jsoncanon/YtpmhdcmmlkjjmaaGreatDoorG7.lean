/- joined: PlainV Dig -/
import Derived.Test.YtpmhdcmmlkjjmaaGreatDoorG1
import Derived.Handy
/- Plain facts on reading: digits, escapes, one step of a reader, the whole of it. -/
set_option linter.unusedSimpArgs false
set_option linter.unusedVariables false
namespace Go.Proofs.YtpmhdcmmlkjjmaaGreatDoor.Q
def dig (c : Nat) : Int := if 48 ≤ c ∧ c ≤ 57 then (c : Int) - 48 else if 97 ≤ c ∧ c ≤ 102 then (c : Int) - 87 else if 65 ≤ c ∧ c ≤ 70 then (c : Int) - 55 else -1
theorem dig_le (c : Nat) : -1 ≤ dig c ∧ dig c ≤ 15 := by
  unfold dig
  repeat' split
  all_goals omega
def goes (c d : Int) (i : Nat) (aw : Bool) : Bool := if i = 0 then (!aw || d == 13) else if i = 1 then ((c == 13 && decide (12 ≤ d)) == aw) else true
/-- r digits more, behind i that made c: the number, how many digits went well, whether all did -/
def digs (aw : Bool) : Nat → Nat → Nat → List UInt8 → Nat × Nat × Bool
  | 0, i, c, t => (c, i, true)
  | r + 1, i, c, [] => (0, i, false)
  | r + 1, i, c, x :: t => if dig x.toNat < 0 ∨ goes c (dig x.toNat) i aw = false then (0, i, false) else digs aw r (i + 1) (16 * c + (dig x.toNat).toNat) t
theorem digs_le (aw : Bool) : ∀ (r i c : Nat) (t : List UInt8), (digs aw r i c t).2.1 ≤ i + t.length ∧ (digs aw r i c t).2.1 ≤ i + r ∧ i ≤ (digs aw r i c t).2.1 ∧ ((digs aw r i c t).2.2 = true → (digs aw r i c t).2.1 = i + r)
  | 0, i, c, t => by simp [digs]
  | r + 1, i, c, [] => by simp [digs]
  | r + 1, i, c, x :: t => by
    unfold digs
    split
    · simp
    · have := digs_le aw r (i + 1) (16 * c + (dig x.toNat).toNat) t
      simp only [List.length_cons]
      refine ⟨by omega, by omega, by omega, fun h => ?_⟩
      have := this.2.2.2 h
      omega
/-- four digits: the number lies where it must -/
theorem digs_range (aw : Bool) (t : List UInt8) (h : (digs aw 4 0 0 t).2.2 = true) :
    (digs aw 4 0 0 t).1 < 65536 ∧ (aw = true → 56320 ≤ (digs aw 4 0 0 t).1 ∧ (digs aw 4 0 0 t).1 ≤ 57343) ∧ (aw = false → ¬ (56320 ≤ (digs aw 4 0 0 t).1 ∧ (digs aw 4 0 0 t).1 ≤ 57343)) := by
  rcases t with _ | ⟨x0, t⟩
  · simp [digs] at h
  rw [digs] at h ⊢
  split at h
  · simp at h
  rename_i g0
  rw [if_neg g0]
  rcases t with _ | ⟨x1, t⟩
  · simp [digs] at h
  rw [digs] at h ⊢
  split at h
  · simp at h
  rename_i g1
  rw [if_neg g1]
  rcases t with _ | ⟨x2, t⟩
  · simp [digs] at h
  rw [digs] at h ⊢
  split at h
  · simp at h
  rename_i g2
  rw [if_neg g2]
  rcases t with _ | ⟨x3, t⟩
  · simp [digs] at h
  rw [digs] at h ⊢
  split at h
  · simp at h
  rename_i g3
  rw [if_neg g3, digs]
  have b0 := dig_le x0.toNat
  have b1 := dig_le x1.toNat
  have b2 := dig_le x2.toNat
  have b3 := dig_le x3.toNat
  generalize dig x0.toNat = d0 at *
  generalize dig x1.toNat = d1 at *
  generalize dig x2.toNat = d2 at *
  generalize dig x3.toNat = d3 at *
  have n0 := not_or.1 g0
  have n1 := not_or.1 g1
  have n2 := not_or.1 g2
  have n3 := not_or.1 g3
  simp only [goes] at n0 n1
  refine ⟨by simp only; omega, ?_, ?_⟩
  · rintro rfl
    simp at n0 n1
    simp only
    omega
  · rintro rfl
    simp at n0 n1
    simp only
    omega
def saidN (c : Nat) : Nat := if c = 34 then 34 else if c = 92 then 92 else if c = 47 then 47 else if c = 98 then 8 else if c = 102 then 12 else if c = 110 then 10 else if c = 114 then 13 else if c = 116 then 9 else 0
theorem saidN_lt (c : Nat) : saidN c < 128 := by
  unfold saidN
  repeat' split
  all_goals omega
/-- behind 'u': the scalar value, how far, whether it is one -/
def numF (t : List UInt8) : Nat × Nat × Bool :=
  if (digs false 4 0 0 t).2.2 = false then (0, (digs false 4 0 0 t).2.1, false)
  else if 55296 ≤ (digs false 4 0 0 t).1 ∧ (digs false 4 0 0 t).1 < 56320 then
    (match t.drop 4 with
     | [] => (0, 4, false)
     | x :: r => if x.toNat ≠ 92 then (0, 4, false) else
       match r with
       | [] => (0, 5, false)
       | y :: r2 => if y.toNat ≠ 117 then (0, 5, false) else
         if (digs true 4 0 0 r2).2.2 = false then (0, 6 + (digs true 4 0 0 r2).2.1, false)
         else (65536 + 1024 * ((digs false 4 0 0 t).1 - 55296) + ((digs true 4 0 0 r2).1 - 56320), 10, true))
  else ((digs false 4 0 0 t).1, 4, true)
theorem numF_le (t : List UInt8) : (numF t).2.1 ≤ t.length ∧ ((numF t).2.2 = true → 4 ≤ (numF t).2.1 ∧ (numF t).1 ≤ 1114111 ∧ ¬ (55296 ≤ (numF t).1 ∧ (numF t).1 ≤ 57343)) := by
  have h0 := digs_le false 4 0 0 t
  unfold numF
  split
  · simp; omega
  · rename_i g
    have g' : (digs false 4 0 0 t).2.2 = true := by simpa using g
    have r0 := digs_range false t g'
    have e0 := h0.2.2.2 g'
    have l0 : 4 ≤ t.length := by omega
    split
    · rename_i c
      split
      · simp; omega
      · rename_i x r hx
        have lx : r.length + 5 = t.length := by have := congrArg List.length hx; simp at this; omega
        split
        · simp; omega
        · split
          · simp at lx; simp; omega
          · rename_i y r2
            simp at lx
            split
            · simp; omega
            · have h1 := digs_le true 4 0 0 r2
              split
              · simp; omega
              · rename_i g2
                have g2' : (digs true 4 0 0 r2).2.2 = true := by simpa using g2
                have r1 := (digs_range true r2 g2').2.1 rfl
                have e1 := h1.2.2.2 g2'
                simp only
                refine ⟨by omega, fun _ => ⟨by omega, by omega, by omega⟩⟩
    · rename_i c
      simp only
      have := r0.2.2 rfl
      refine ⟨by omega, fun _ => ⟨by omega, by omega, by omega⟩⟩
/-- behind a backslash: the scalar value, how far, whether it is one -/
def escF : List UInt8 → Nat × Nat × Bool
  | [] => (0, 0, false)
  | x :: t => if x.toNat = 117 then ((numF t).1, 1 + (numF t).2.1, (numF t).2.2) else if saidN x.toNat = 0 then (0, 0, false) else (saidN x.toNat, 1, true)
theorem escF_cons (x : UInt8) (t : List UInt8) : escF (x :: t) = if x.toNat = 117 then ((numF t).1, 1 + (numF t).2.1, (numF t).2.2) else if saidN x.toNat = 0 then (0, 0, false) else (saidN x.toNat, 1, true) := rfl
theorem escF_le (t : List UInt8) : (escF t).2.1 ≤ t.length ∧ ((escF t).2.2 = true → (escF t).1 ≤ 1114111 ∧ ¬ (55296 ≤ (escF t).1 ∧ (escF t).1 ≤ 57343) ∧ 1 ≤ (escF t).2.1 ∧ ((escF t).1 < 128 ∨ 4 ≤ (escF t).2.1)) := by
  cases t with
  | nil => simp [escF]
  | cons x t =>
    have h := numF_le t
    have hs := saidN_lt x.toNat
    rw [escF_cons]
    split
    · simp only [List.length_cons]
      refine ⟨by omega, fun g => ?_⟩
      have := h.2 g
      omega
    · split
      · simp
      · simp only [List.length_cons]
        omega
theorem enc_len (v : Nat) : (Lib.encodeRune (v : Int)).length ≤ 4 ∧ 1 ≤ (Lib.encodeRune (v : Int)).length ∧ (v < 128 → (Lib.encodeRune (v : Int)).length = 1) := by
  have h := Lib.encodeRuneZ_length (v : Int)
  unfold Lib.encodeRune
  rw [List.length_map]
  refine ⟨h.2, h.1, fun hv => ?_⟩
  rw [Lib.encodeRuneZ_one (by omega) (by omega)]
  rfl
/-- one step inside the quotes: 0 a fault, 1 the end, 2 on; the bytes; how far; the error -/
def stp : List UInt8 → Nat × List UInt8 × Nat × Nat
  | [] => (0, [], 0, 10)
  | x :: t => if x.toNat < 32 then (0, [], 0, 10) else if x.toNat = 34 then (1, [], 1, 0)
    else if x.toNat = 92 then (if (escF t).2.2 = true then (2, Lib.encodeRune ((escF t).1 : Int), 1 + (escF t).2.1, 0) else (0, [], 1 + (escF t).2.1, 12))
    else if (nxt (x :: t)).2 = true then (2, (x :: t).take (nxt (x :: t)).1, (nxt (x :: t)).1, 0) else (0, [], (nxt (x :: t)).1, 11)
theorem stp_cons (x : UInt8) (t : List UInt8) : stp (x :: t) = if x.toNat < 32 then (0, [], 0, 10) else if x.toNat = 34 then (1, [], 1, 0)
    else if x.toNat = 92 then (if (escF t).2.2 = true then (2, Lib.encodeRune ((escF t).1 : Int), 1 + (escF t).2.1, 0) else (0, [], 1 + (escF t).2.1, 12))
    else if (nxt (x :: t)).2 = true then (2, (x :: t).take (nxt (x :: t)).1, (nxt (x :: t)).1, 0) else (0, [], (nxt (x :: t)).1, 11) := rfl
theorem stp_le (t : List UInt8) : (stp t).2.2.1 ≤ t.length ∧ ((stp t).1 ≠ 0 → 1 ≤ (stp t).2.2.1) ∧ (stp t).2.1.length ≤ (stp t).2.2.1 ∧ (stp t).1 ≤ 2 := by
  cases t with
  | nil => simp [stp]
  | cons x t =>
    have he := escF_le t
    have hn := nxt_le (x :: t)
    rw [stp_cons]
    split
    · simp
    · split
      · simp
      · split
        · split
          · rename_i g
            have := he.2 g
            have hl := enc_len (escF t).1
            simp only [List.length_cons]
            refine ⟨by omega, by omega, ?_, by omega⟩
            rcases this.2.2.2 with h | h
            · have := hl.2.2 h; omega
            · omega
          · simp only [List.length_cons]
            refine ⟨by omega, by omega, by simp, by omega⟩
        · split
          · rename_i g
            simp only
            have := hn.2.2 g
            refine ⟨hn.1, fun _ => this, List.length_take_le _ _, by omega⟩
          · simp only
            refine ⟨hn.1, by omega, by simp, by omega⟩
/-- fuel, what is left, the place, the bytes so far: the string, the place, the error -/
def unq : Nat → List UInt8 → Nat → List UInt8 → List UInt8 × Nat × Nat
  | 0, t, k, out => (out, k, 0)
  | f + 1, t, k, out => if (stp t).1 = 0 then ([], k + (stp t).2.2.1, (stp t).2.2.2) else if (stp t).1 = 1 then (out, k + 1, 0) else unq f (t.drop (stp t).2.2.1) (k + (stp t).2.2.1) (out ++ (stp t).2.1)
/-- Unquote -/
def unqAll (l : List UInt8) (at' : Int) : List UInt8 × Nat × Nat :=
  if at' < 0 ∨ (l.length : Int) < at' then ([], 0, 2)
  else if (l.drop at'.toNat).head? = some 34 then unq (l.length + 1) (l.drop (at'.toNat + 1)) (at'.toNat + 1) []
  else ([], at'.toNat, 10)
end Go.Proofs.YtpmhdcmmlkjjmaaGreatDoor.Q
/- Contracts: the two digit functions; goesOn. -/
namespace Go.Proofs.YtpmhdcmmlkjjmaaGreatDoor
open Go.RowKit
theorem ret_int {k : IntKind} {a b : Int} (h : a = b) : Ending.returned (.int k a) = .returned (.int k b) := by rw [h]
set_option maxHeartbeats 1000000 in
theorem digit_any (n : Nat) (hn : n < 256) (w : World) :
    Calls Tryz.prog 188 #[.int .u8 n] w fun e w' => e = .returned (.int .i32 (Q.dig n)) ∧ w' = w := by
  have c7 : (48 ≤ n ∧ n ≤ 57) ∨ (97 ≤ n ∧ n ≤ 102) ∨ (65 ≤ n ∧ n ≤ 70) ∨ (n < 48) ∨ (58 ≤ n ∧ n ≤ 64) ∨ (71 ≤ n ∧ n ≤ 96) ∨ (103 ≤ n) := by omega
  rcases c7 with h | h | h | h | h | h | h
  · have e : Q.dig n = (n : Int) - 48 := by
      unfold Q.dig; repeat' split
      all_goals first | rfl | (exfalso; omega)
    rw [e]
    clear e
    have f0 : (48 : Int) ≤ n := by omega
    have f1 : (n : Int) ≤ 57 := by omega
    go_enter Tryz.func188, Tryz.ntmps188
    go_wp2
    go_ret
    exact ⟨ret_int (by first | rfl | omega | go_arith), rfl⟩
  · have e : Q.dig n = (n : Int) - 87 := by
      unfold Q.dig; repeat' split
      all_goals first | rfl | (exfalso; omega)
    rw [e]
    clear e
    have f0 : (48 : Int) ≤ n := by omega
    have f1 : ¬ (n : Int) ≤ 57 := by omega
    have f2 : (97 : Int) ≤ n := by omega
    have f3 : (n : Int) ≤ 102 := by omega
    go_enter Tryz.func188, Tryz.ntmps188
    go_wp2
    go_ret
    exact ⟨ret_int (by first | rfl | omega | go_arith), rfl⟩
  · have e : Q.dig n = (n : Int) - 55 := by
      unfold Q.dig; repeat' split
      all_goals first | rfl | (exfalso; omega)
    rw [e]
    clear e
    have f0 : (48 : Int) ≤ n := by omega
    have f1 : ¬ (n : Int) ≤ 57 := by omega
    have f2 : ¬ (97 : Int) ≤ n := by omega
    have f3 : (65 : Int) ≤ n := by omega
    have f4 : (n : Int) ≤ 70 := by omega
    go_enter Tryz.func188, Tryz.ntmps188
    go_wp2
    go_ret
    exact ⟨ret_int (by first | rfl | omega | go_arith), rfl⟩
  · have e : Q.dig n = -1 := by
      unfold Q.dig; repeat' split
      all_goals first | rfl | (exfalso; omega)
    rw [e]
    clear e
    have f0 : ¬ (48 : Int) ≤ n := by omega
    have f1 : ¬ (97 : Int) ≤ n := by omega
    have f2 : ¬ (65 : Int) ≤ n := by omega
    go_enter Tryz.func188, Tryz.ntmps188
    go_wp2
    go_ret
    exact ⟨ret_int (by first | rfl | omega | go_arith), rfl⟩
  · have e : Q.dig n = -1 := by
      unfold Q.dig; repeat' split
      all_goals first | rfl | (exfalso; omega)
    rw [e]
    clear e
    have f0 : (48 : Int) ≤ n := by omega
    have f1 : ¬ (n : Int) ≤ 57 := by omega
    have f2 : ¬ (97 : Int) ≤ n := by omega
    have f3 : ¬ (65 : Int) ≤ n := by omega
    go_enter Tryz.func188, Tryz.ntmps188
    go_wp2
    go_ret
    exact ⟨ret_int (by first | rfl | omega | go_arith), rfl⟩
  · have e : Q.dig n = -1 := by
      unfold Q.dig; repeat' split
      all_goals first | rfl | (exfalso; omega)
    rw [e]
    clear e
    have f0 : (48 : Int) ≤ n := by omega
    have f1 : ¬ (n : Int) ≤ 57 := by omega
    have f2 : ¬ (97 : Int) ≤ n := by omega
    have f3 : (65 : Int) ≤ n := by omega
    have f4 : ¬ (n : Int) ≤ 70 := by omega
    go_enter Tryz.func188, Tryz.ntmps188
    go_wp2
    go_ret
    exact ⟨ret_int (by first | rfl | omega | go_arith), rfl⟩
  · have e : Q.dig n = -1 := by
      unfold Q.dig; repeat' split
      all_goals first | rfl | (exfalso; omega)
    rw [e]
    clear e
    have f0 : (48 : Int) ≤ n := by omega
    have f1 : ¬ (n : Int) ≤ 57 := by omega
    have f2 : (97 : Int) ≤ n := by omega
    have f3 : ¬ (n : Int) ≤ 102 := by omega
    have f4 : (65 : Int) ≤ n := by omega
    have f5 : ¬ (n : Int) ≤ 70 := by omega
    go_enter Tryz.func188, Tryz.ntmps188
    go_wp2
    go_ret
    exact ⟨ret_int (by first | rfl | omega | go_arith), rfl⟩
set_option maxHeartbeats 1000000 in
theorem goesOn_any (c d : Int) (hc0 : 0 ≤ c) (hc : c ≤ 65535) (hd0 : 0 ≤ d) (hd : d ≤ 15) (i : Nat) (hi : i < 4) (aw : Bool) (w : World) :
    Calls Tryz.prog 189 #[.int .i32 c, .int .i32 d, .int .i64 i, .bool aw] w fun e w' => e = .returned (.bool (Q.goes c d i aw)) ∧ w' = w := by
  have ci : i = 0 ∨ i = 1 ∨ i = 2 ∨ i = 3 := by omega
  rcases ci with rfl | rfl | rfl | rfl
  · cases aw
    · go_enter Tryz.func189, Tryz.ntmps189
      go_wp2
      go_ret
      exact ⟨by simp [Q.goes], rfl⟩
    · go_enter Tryz.func189, Tryz.ntmps189
      go_wp2
      go_ret
      exact ⟨by simp [Q.goes], rfl⟩
  · by_cases h13 : c = 13
    · subst h13
      cases aw
      · go_enter Tryz.func189, Tryz.ntmps189
        go_wp2
        go_ret
        exact ⟨by simp [Q.goes], rfl⟩
      · go_enter Tryz.func189, Tryz.ntmps189
        go_wp2
        go_ret
        exact ⟨by simp [Q.goes], rfl⟩
    · have hb : (c == 13) = false := by simpa using h13
      cases aw
      · go_enter Tryz.func189, Tryz.ntmps189
        go_wp2
        go_ret
        exact ⟨by simp [Q.goes, hb], rfl⟩
      · go_enter Tryz.func189, Tryz.ntmps189
        go_wp2
        go_ret
        exact ⟨by simp [Q.goes, hb], rfl⟩
  · go_enter Tryz.func189, Tryz.ntmps189
    go_wp2
    go_ret
    exact ⟨rfl, rfl⟩
  · go_enter Tryz.func189, Tryz.ntmps189
    go_wp2
    go_ret
    exact ⟨rfl, rfl⟩
end Go.Proofs.YtpmhdcmmlkjjmaaGreatDoor
