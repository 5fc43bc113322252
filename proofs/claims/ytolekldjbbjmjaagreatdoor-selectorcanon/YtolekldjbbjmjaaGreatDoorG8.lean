/- joined: PrnA PrnB Plain WalksA -/
import Derived.Test.YtolekldjbbjmjaaGreatDoorG5
/- plain bytes. -/
set_option linter.unusedSimpArgs false
set_option linter.unusedVariables false
namespace Go.Proofs.YtolekldjbbjmjaaGreatDoor
open Go.RowKit Go.Lib
def plainN (n : Nat) : Bool := decide ((65 ≤ n ∧ n ≤ 90) ∨ (97 ≤ n ∧ n ≤ 122) ∨ (48 ≤ n ∧ n ≤ 57) ∨ n = 45 ∨ n = 95 ∨ n = 46 ∨ n = 47)
set_option maxHeartbeats 8000000 in
set_option maxRecDepth 100000 in
theorem plain_any (n : Nat) (hn : n < 256) (w : World) : Calls Tryz.prog 81 #[.int .u8 (n : Int)] w (fun e w' => e = .returned (.bool (plainN n)) ∧ w' = w) := by
  have hc : (0 ≤ n ∧ n ≤ 44) ∨ (45 ≤ n ∧ n ≤ 45) ∨ (46 ≤ n ∧ n ≤ 46) ∨ (47 ≤ n ∧ n ≤ 47) ∨ (48 ≤ n ∧ n ≤ 57) ∨ (58 ≤ n ∧ n ≤ 64) ∨ (65 ≤ n ∧ n ≤ 90) ∨ (91 ≤ n ∧ n ≤ 94) ∨ (95 ≤ n ∧ n ≤ 95) ∨ (96 ≤ n ∧ n ≤ 96) ∨ (97 ≤ n ∧ n ≤ 122) ∨ (123 ≤ n ∧ n ≤ 255) := by omega
  rcases hc with hc | hc | hc | hc | hc | hc | hc | hc | hc | hc | hc | hc
  · have HB : Hid (plainN n = false) := by
      show _ = _
      unfold plainN
      rw [decide_eq_false (by omega)]
    have g0 : ¬ (65 : Int) ≤ (n : Int) := by omega
    have g1 : ¬ (97 : Int) ≤ (n : Int) := by omega
    have g2 : ¬ (48 : Int) ≤ (n : Int) := by omega
    have g3 : (n : Int) ≤ 90 := by omega
    have g4 : (n : Int) ≤ 122 := by omega
    have g5 : (n : Int) ≤ 57 := by omega
    have g6 : ((n : Int) == 45) = false := by rw [beq_eq_false_iff_ne]; omega
    have g7 : ((n : Int) == 95) = false := by rw [beq_eq_false_iff_ne]; omega
    have g8 : ((n : Int) == 46) = false := by rw [beq_eq_false_iff_ne]; omega
    have g9 : ((n : Int) == 47) = false := by rw [beq_eq_false_iff_ne]; omega
    clear hc hn
    go_enter Tryz.func81, Tryz.ntmps81
    go_wp2_with fail
    go_ret
    exact ⟨congrArg (fun r => Ending.returned (.bool r)) HB.out.symm, rfl⟩
  · have HB : Hid (plainN n = true) := by
      show _ = _
      unfold plainN
      rw [decide_eq_true (by omega)]
    have g0 : ¬ (65 : Int) ≤ (n : Int) := by omega
    have g1 : ¬ (97 : Int) ≤ (n : Int) := by omega
    have g2 : ¬ (48 : Int) ≤ (n : Int) := by omega
    have g3 : (n : Int) ≤ 90 := by omega
    have g4 : (n : Int) ≤ 122 := by omega
    have g5 : (n : Int) ≤ 57 := by omega
    have g6 : ((n : Int) == 45) = true := by rw [beq_iff_eq]; omega
    have g7 : ((n : Int) == 95) = false := by rw [beq_eq_false_iff_ne]; omega
    have g8 : ((n : Int) == 46) = false := by rw [beq_eq_false_iff_ne]; omega
    have g9 : ((n : Int) == 47) = false := by rw [beq_eq_false_iff_ne]; omega
    clear hc hn
    go_enter Tryz.func81, Tryz.ntmps81
    go_wp2_with fail
    go_ret
    exact ⟨congrArg (fun r => Ending.returned (.bool r)) HB.out.symm, rfl⟩
  · have HB : Hid (plainN n = true) := by
      show _ = _
      unfold plainN
      rw [decide_eq_true (by omega)]
    have g0 : ¬ (65 : Int) ≤ (n : Int) := by omega
    have g1 : ¬ (97 : Int) ≤ (n : Int) := by omega
    have g2 : ¬ (48 : Int) ≤ (n : Int) := by omega
    have g3 : (n : Int) ≤ 90 := by omega
    have g4 : (n : Int) ≤ 122 := by omega
    have g5 : (n : Int) ≤ 57 := by omega
    have g6 : ((n : Int) == 45) = false := by rw [beq_eq_false_iff_ne]; omega
    have g7 : ((n : Int) == 95) = false := by rw [beq_eq_false_iff_ne]; omega
    have g8 : ((n : Int) == 46) = true := by rw [beq_iff_eq]; omega
    have g9 : ((n : Int) == 47) = false := by rw [beq_eq_false_iff_ne]; omega
    clear hc hn
    go_enter Tryz.func81, Tryz.ntmps81
    go_wp2_with fail
    go_ret
    exact ⟨congrArg (fun r => Ending.returned (.bool r)) HB.out.symm, rfl⟩
  · have HB : Hid (plainN n = true) := by
      show _ = _
      unfold plainN
      rw [decide_eq_true (by omega)]
    have g0 : ¬ (65 : Int) ≤ (n : Int) := by omega
    have g1 : ¬ (97 : Int) ≤ (n : Int) := by omega
    have g2 : ¬ (48 : Int) ≤ (n : Int) := by omega
    have g3 : (n : Int) ≤ 90 := by omega
    have g4 : (n : Int) ≤ 122 := by omega
    have g5 : (n : Int) ≤ 57 := by omega
    have g6 : ((n : Int) == 45) = false := by rw [beq_eq_false_iff_ne]; omega
    have g7 : ((n : Int) == 95) = false := by rw [beq_eq_false_iff_ne]; omega
    have g8 : ((n : Int) == 46) = false := by rw [beq_eq_false_iff_ne]; omega
    have g9 : ((n : Int) == 47) = true := by rw [beq_iff_eq]; omega
    clear hc hn
    go_enter Tryz.func81, Tryz.ntmps81
    go_wp2_with fail
    go_ret
    exact ⟨congrArg (fun r => Ending.returned (.bool r)) HB.out.symm, rfl⟩
  · have HB : Hid (plainN n = true) := by
      show _ = _
      unfold plainN
      rw [decide_eq_true (by omega)]
    have g0 : ¬ (65 : Int) ≤ (n : Int) := by omega
    have g1 : ¬ (97 : Int) ≤ (n : Int) := by omega
    have g2 : (48 : Int) ≤ (n : Int) := by omega
    have g3 : (n : Int) ≤ 90 := by omega
    have g4 : (n : Int) ≤ 122 := by omega
    have g5 : (n : Int) ≤ 57 := by omega
    have g6 : ((n : Int) == 45) = false := by rw [beq_eq_false_iff_ne]; omega
    have g7 : ((n : Int) == 95) = false := by rw [beq_eq_false_iff_ne]; omega
    have g8 : ((n : Int) == 46) = false := by rw [beq_eq_false_iff_ne]; omega
    have g9 : ((n : Int) == 47) = false := by rw [beq_eq_false_iff_ne]; omega
    clear hc hn
    go_enter Tryz.func81, Tryz.ntmps81
    go_wp2_with fail
    go_ret
    exact ⟨congrArg (fun r => Ending.returned (.bool r)) HB.out.symm, rfl⟩
  · have HB : Hid (plainN n = false) := by
      show _ = _
      unfold plainN
      rw [decide_eq_false (by omega)]
    have g0 : ¬ (65 : Int) ≤ (n : Int) := by omega
    have g1 : ¬ (97 : Int) ≤ (n : Int) := by omega
    have g2 : (48 : Int) ≤ (n : Int) := by omega
    have g3 : (n : Int) ≤ 90 := by omega
    have g4 : (n : Int) ≤ 122 := by omega
    have g5 : ¬ (n : Int) ≤ 57 := by omega
    have g6 : ((n : Int) == 45) = false := by rw [beq_eq_false_iff_ne]; omega
    have g7 : ((n : Int) == 95) = false := by rw [beq_eq_false_iff_ne]; omega
    have g8 : ((n : Int) == 46) = false := by rw [beq_eq_false_iff_ne]; omega
    have g9 : ((n : Int) == 47) = false := by rw [beq_eq_false_iff_ne]; omega
    clear hc hn
    go_enter Tryz.func81, Tryz.ntmps81
    go_wp2_with fail
    go_ret
    exact ⟨congrArg (fun r => Ending.returned (.bool r)) HB.out.symm, rfl⟩
  · have HB : Hid (plainN n = true) := by
      show _ = _
      unfold plainN
      rw [decide_eq_true (by omega)]
    have g0 : (65 : Int) ≤ (n : Int) := by omega
    have g1 : ¬ (97 : Int) ≤ (n : Int) := by omega
    have g2 : (48 : Int) ≤ (n : Int) := by omega
    have g3 : (n : Int) ≤ 90 := by omega
    have g4 : (n : Int) ≤ 122 := by omega
    have g5 : ¬ (n : Int) ≤ 57 := by omega
    have g6 : ((n : Int) == 45) = false := by rw [beq_eq_false_iff_ne]; omega
    have g7 : ((n : Int) == 95) = false := by rw [beq_eq_false_iff_ne]; omega
    have g8 : ((n : Int) == 46) = false := by rw [beq_eq_false_iff_ne]; omega
    have g9 : ((n : Int) == 47) = false := by rw [beq_eq_false_iff_ne]; omega
    clear hc hn
    go_enter Tryz.func81, Tryz.ntmps81
    go_wp2_with fail
    go_ret
    exact ⟨congrArg (fun r => Ending.returned (.bool r)) HB.out.symm, rfl⟩
  · have HB : Hid (plainN n = false) := by
      show _ = _
      unfold plainN
      rw [decide_eq_false (by omega)]
    have g0 : (65 : Int) ≤ (n : Int) := by omega
    have g1 : ¬ (97 : Int) ≤ (n : Int) := by omega
    have g2 : (48 : Int) ≤ (n : Int) := by omega
    have g3 : ¬ (n : Int) ≤ 90 := by omega
    have g4 : (n : Int) ≤ 122 := by omega
    have g5 : ¬ (n : Int) ≤ 57 := by omega
    have g6 : ((n : Int) == 45) = false := by rw [beq_eq_false_iff_ne]; omega
    have g7 : ((n : Int) == 95) = false := by rw [beq_eq_false_iff_ne]; omega
    have g8 : ((n : Int) == 46) = false := by rw [beq_eq_false_iff_ne]; omega
    have g9 : ((n : Int) == 47) = false := by rw [beq_eq_false_iff_ne]; omega
    clear hc hn
    go_enter Tryz.func81, Tryz.ntmps81
    go_wp2_with fail
    go_ret
    exact ⟨congrArg (fun r => Ending.returned (.bool r)) HB.out.symm, rfl⟩
  · have HB : Hid (plainN n = true) := by
      show _ = _
      unfold plainN
      rw [decide_eq_true (by omega)]
    have g0 : (65 : Int) ≤ (n : Int) := by omega
    have g1 : ¬ (97 : Int) ≤ (n : Int) := by omega
    have g2 : (48 : Int) ≤ (n : Int) := by omega
    have g3 : ¬ (n : Int) ≤ 90 := by omega
    have g4 : (n : Int) ≤ 122 := by omega
    have g5 : ¬ (n : Int) ≤ 57 := by omega
    have g6 : ((n : Int) == 45) = false := by rw [beq_eq_false_iff_ne]; omega
    have g7 : ((n : Int) == 95) = true := by rw [beq_iff_eq]; omega
    have g8 : ((n : Int) == 46) = false := by rw [beq_eq_false_iff_ne]; omega
    have g9 : ((n : Int) == 47) = false := by rw [beq_eq_false_iff_ne]; omega
    clear hc hn
    go_enter Tryz.func81, Tryz.ntmps81
    go_wp2_with fail
    go_ret
    exact ⟨congrArg (fun r => Ending.returned (.bool r)) HB.out.symm, rfl⟩
  · have HB : Hid (plainN n = false) := by
      show _ = _
      unfold plainN
      rw [decide_eq_false (by omega)]
    have g0 : (65 : Int) ≤ (n : Int) := by omega
    have g1 : ¬ (97 : Int) ≤ (n : Int) := by omega
    have g2 : (48 : Int) ≤ (n : Int) := by omega
    have g3 : ¬ (n : Int) ≤ 90 := by omega
    have g4 : (n : Int) ≤ 122 := by omega
    have g5 : ¬ (n : Int) ≤ 57 := by omega
    have g6 : ((n : Int) == 45) = false := by rw [beq_eq_false_iff_ne]; omega
    have g7 : ((n : Int) == 95) = false := by rw [beq_eq_false_iff_ne]; omega
    have g8 : ((n : Int) == 46) = false := by rw [beq_eq_false_iff_ne]; omega
    have g9 : ((n : Int) == 47) = false := by rw [beq_eq_false_iff_ne]; omega
    clear hc hn
    go_enter Tryz.func81, Tryz.ntmps81
    go_wp2_with fail
    go_ret
    exact ⟨congrArg (fun r => Ending.returned (.bool r)) HB.out.symm, rfl⟩
  · have HB : Hid (plainN n = true) := by
      show _ = _
      unfold plainN
      rw [decide_eq_true (by omega)]
    have g0 : (65 : Int) ≤ (n : Int) := by omega
    have g1 : (97 : Int) ≤ (n : Int) := by omega
    have g2 : (48 : Int) ≤ (n : Int) := by omega
    have g3 : ¬ (n : Int) ≤ 90 := by omega
    have g4 : (n : Int) ≤ 122 := by omega
    have g5 : ¬ (n : Int) ≤ 57 := by omega
    have g6 : ((n : Int) == 45) = false := by rw [beq_eq_false_iff_ne]; omega
    have g7 : ((n : Int) == 95) = false := by rw [beq_eq_false_iff_ne]; omega
    have g8 : ((n : Int) == 46) = false := by rw [beq_eq_false_iff_ne]; omega
    have g9 : ((n : Int) == 47) = false := by rw [beq_eq_false_iff_ne]; omega
    clear hc hn
    go_enter Tryz.func81, Tryz.ntmps81
    go_wp2_with fail
    go_ret
    exact ⟨congrArg (fun r => Ending.returned (.bool r)) HB.out.symm, rfl⟩
  · have HB : Hid (plainN n = false) := by
      show _ = _
      unfold plainN
      rw [decide_eq_false (by omega)]
    have g0 : (65 : Int) ≤ (n : Int) := by omega
    have g1 : (97 : Int) ≤ (n : Int) := by omega
    have g2 : (48 : Int) ≤ (n : Int) := by omega
    have g3 : ¬ (n : Int) ≤ 90 := by omega
    have g4 : ¬ (n : Int) ≤ 122 := by omega
    have g5 : ¬ (n : Int) ≤ 57 := by omega
    have g6 : ((n : Int) == 45) = false := by rw [beq_eq_false_iff_ne]; omega
    have g7 : ((n : Int) == 95) = false := by rw [beq_eq_false_iff_ne]; omega
    have g8 : ((n : Int) == 46) = false := by rw [beq_eq_false_iff_ne]; omega
    have g9 : ((n : Int) == 47) = false := by rw [beq_eq_false_iff_ne]; omega
    clear hc hn
    go_enter Tryz.func81, Tryz.ntmps81
    go_wp2_with fail
    go_ret
    exact ⟨congrArg (fun r => Ending.returned (.bool r)) HB.out.symm, rfl⟩
end Go.Proofs.YtolekldjbbjmjaaGreatDoor
/- plain words. -/
namespace Go.Proofs.YtolekldjbbjmjaaGreatDoor
open Go.RowKit Go.Lib
def allPlain (s : ByteArray) : Bool := s.data.toList.all (fun c => plainN c.toNat)
theorem ap_no {s : ByteArray} {j : Nat} (hj : j < s.size) (h : plainN (s[j]).toNat = false) : allPlain s = false := by
  unfold allPlain
  rw [List.all_eq_false]
  refine ⟨s[j], ?_, by rw [h]; simp⟩
  have hj' : j < s.data.toList.length := by simpa using hj
  have e : s.data.toList[j] = s[j] := by rw [Array.getElem_toList]; rfl
  rw [← e]
  exact List.getElem_mem hj'
theorem ap_yes {s : ByteArray} (h : ∀ j (hj : j < s.size), plainN (s[j]).toNat = true) : allPlain s = true := by
  unfold allPlain
  rw [List.all_eq_true]
  intro c hc
  obtain ⟨j, hj, rfl⟩ := List.mem_iff_getElem.1 hc
  have hj' : j < s.size := by simpa using hj
  have e : s.data.toList[j] = s[j] := by rw [Array.getElem_toList]; rfl
  rw [e]
  exact h j hj'
theorem ext_ne {s : ByteArray} {j : Nat} (hj : j < s.size) : ((s.extract 0 j).toList == s.toList) = false := by
  rw [beq_eq_false_iff_ne]
  intro e
  have := congrArg ByteArray.size (bytes_ext9 e)
  rw [ByteArray.size_extract] at this
  omega
set_option maxHeartbeats 8000000 in
set_option maxRecDepth 100000 in
theorem plainahead_any (s : ByteArray) (hs : s.size ≤ 140737488355328) (w : World) : Calls Tryz.prog 64 #[.string s] w (fun e w' => ∃ p, e = .returned (.string p) ∧ (p.toList == s.toList) = allPlain s ∧ w' = w) := by
  go_enter Tryz.func64, Tryz.ntmps64
  go_wp2_with fail
  go_loopw [6] (fun e6 wr => ∃ j : Nat, j ≤ s.size ∧ e6 = .int .i64 (j : Int) ∧ wr = w ∧ Hid (∀ k (h : k < s.size), k < j → plainN (s[k]).toNat = true)) (fun e6 _ => s.size - (RowKit.intOf e6).toNat)
  case atStart => exact ⟨0, by omega, rfl, rfl, fun k _ h => by omega⟩
  case round =>
    obtain ⟨j, hj, rfl, rfl, HN⟩ := hrel
    by_cases hjl : j < s.size
    · have y1 : (j : Int) < s.size := by omega
      have y2 : (j : Int) ≤ s.size := by omega
      have HP := hmk (fun W => plain_any (s[j]).toNat (UInt8.toNat_lt _) W)
      obtain ⟨t, ht⟩ : ∃ t, plainN (s[j]).toNat = t := ⟨_, rfl⟩
      rw [ht] at HP
      cases t with
      | false =>
        have HE := hmk (ext_ne hjl)
        have HA := hmk (ap_no hjl ht)
        clear ht HN
        go_wp2_with (first | (go_at_call 81; refine (HP.out _).mono ?_; rintro e w1 ⟨rfl, rfl⟩))
        go_ret
        exact ⟨_, rfl, by rw [HA.out]; exact HE.out, rfl⟩
      | true =>
        have HY : Hid (∀ k (h : k < s.size), k < j + 1 → plainN (s[k]).toNat = true) := fun k hk h => by
          by_cases e : k = j
          · subst e; exact ht
          · exact HN.out k hk (by omega)
        clear ht HN
        go_wp2_with (first | (go_at_call 81; refine (HP.out _).mono ?_; rintro e w1 ⟨rfl, rfl⟩))
        go_roundw
        case rel => exact ⟨j + 1, by omega, by go_num, (by first | trivial | rfl), HY.out⟩
        case measure => simp [RowKit.intOf]; omega
    · obtain rfl : j = s.size := by omega
      have y1 : ¬ (s.size : Int) < s.size := by omega
      have HA := hmk (ap_yes fun k hk => HN.out k hk hk)
      go_wp2_with fail
      (try simp only [Exit.inBlock, Exit.then])
      go_ret
      exact ⟨s, rfl, by rw [HA.out]; simp, rfl⟩
def plainW (s : ByteArray) : Bool := allPlain s && decide (0 < s.size)
end Go.Proofs.YtolekldjbbjmjaaGreatDoor
/- Plain facts on bytes for layer 1 (quote): letters, quoted texts, sequences. Nothing of the program here. -/
namespace Go.Proofs.YtolekldjbbjmjaaGreatDoor.Q
/-- the letter that a backslash writes a byte with; 0: none -/
def letN (c : Nat) : Nat :=
  if c = 34 then 34 else if c = 92 then 92 else if c = 8 then 98 else if c = 9 then 116 else if c = 10 then 110 else if c = 12 then 102 else if c = 13 then 114 else 0
def hexN (d : Nat) : Nat := if d < 10 then 48 + d else 87 + d
def widN (c : Nat) : Nat := if letN c ≠ 0 then 2 else if c < 32 then 6 else 1
/-- what is written for one byte, as numbers -/
def escN (c : Nat) : List Nat :=
  if letN c ≠ 0 then [92, letN c] else if c < 32 then [92, 117, 48, 48, hexN (c / 16), hexN (c % 16)] else [c]
theorem escN_length (c : Nat) : (escN c).length = widN c := by
  unfold escN widN
  split
  · rfl
  · split <;> rfl
theorem widN_le (c : Nat) : 1 ≤ widN c ∧ widN c ≤ 6 := by
  unfold widN
  split
  · omega
  · split <;> omega
def esc (c : UInt8) : List UInt8 := (escN c.toNat).map UInt8.ofNat
def wid (c : UInt8) : Nat := widN c.toNat
theorem esc_length (c : UInt8) : (esc c).length = wid c := by
  unfold esc wid
  rw [List.length_map, escN_length]
def body (l : List UInt8) : List UInt8 := l.flatMap esc
def sz (l : List UInt8) : Nat := (body l).length
theorem body_snoc (l : List UInt8) (c : UInt8) : body (l ++ [c]) = body l ++ esc c := by
  simp [body]
theorem sz_snoc (l : List UInt8) (c : UInt8) : sz (l ++ [c]) = sz l + wid c := by
  simp only [sz, body_snoc, List.length_append, esc_length]
theorem sz_le (l : List UInt8) : sz l ≤ 6 * l.length := by
  induction l with
  | nil => simp [sz, body]
  | cons c t ih =>
    have h : sz (c :: t) = wid c + sz t := by simp [sz, body, esc_length]
    have := (widN_le c.toNat).2
    have hw : wid c ≤ 6 := this
    rw [h, List.length_cons]
    omega
def qt (l : List UInt8) : List UInt8 := 34 :: (body l ++ [34])
theorem qt_length (l : List UInt8) : (qt l).length = 2 + sz l := by
  simp [qt, sz]; omega
end Go.Proofs.YtolekldjbbjmjaaGreatDoor.Q
/- Contracts: letter, width, bounds, Next, the document's Valid. -/
namespace Go.Proofs.YtolekldjbbjmjaaGreatDoor
open Go.RowKit Go.Lib
/-- the letters' table, cell by cell -/
def LetTab (w : World) : Prop := ∀ c : Nat, c < 128 → w.cell? ⟨2, c, none⟩ = some (.int .u8 (Q.letN c))
theorem Q.letN_hi (n : Nat) (h : 128 ≤ n) : Q.letN n = 0 := by
  unfold Q.letN
  repeat' split
  all_goals first | omega | rfl
set_option maxRecDepth 100000 in
set_option maxHeartbeats 400000 in
theorem letter_any (n : Nat) (hn : n < 256) (w : World) (hT : LetTab w) :
    Calls Tryz.prog 113 #[.int .u8 n] w fun e w' => e = .returned (.int .u8 (Q.letN n)) ∧ w' = w := by
  by_cases h : n < 128
  · have hc := hT n h
    have hz : (n : Int) < 128 := by omega
    generalize Q.letN n = L at *
    clear hT
    go_enter Tryz.func113, Tryz.ntmps113
    go_wp2
    go_ret
    exact ⟨rfl, rfl⟩
  · have hz : (128 : Int) ≤ n := by omega
    rw [Q.letN_hi n (by omega)]
    clear hT
    go_enter Tryz.func113, Tryz.ntmps113
    go_wp2
    go_ret
    exact ⟨rfl, rfl⟩
set_option maxHeartbeats 400000 in
theorem width_any (n : Nat) (hn : n < 256) (w : World) (hT : LetTab w) :
    Calls Tryz.prog 111 #[.int .u8 n] w fun e w' => e = .returned (.int .i64 (Q.widN n)) ∧ w' = w := by
  have c := letter_any n hn w hT
  clear hT
  by_cases h : Q.letN n = 0
  · rw [h] at c
    by_cases h2 : n < 32
    · have e : Q.widN n = 6 := by simp [Q.widN, h, h2]
      rw [e]
      have hz : (n : Int) < 32 := by omega
      clear e h
      go_enter Tryz.func111, Tryz.ntmps111
      go_wp2_with (go_at_call 113; refine c.mono ?_; rintro e w' ⟨rfl, rfl⟩)
      go_ret
      exact ⟨rfl, rfl⟩
    · have e : Q.widN n = 1 := by simp [Q.widN, h, h2]
      rw [e]
      have hz : ¬ (n : Int) < 32 := by omega
      clear e h
      go_enter Tryz.func111, Tryz.ntmps111
      go_wp2_with (go_at_call 113; refine c.mono ?_; rintro e w' ⟨rfl, rfl⟩)
      go_ret
      exact ⟨rfl, rfl⟩
  · have e : Q.widN n = 2 := by simp [Q.widN, h]
    rw [e]
    have hb : ((Q.letN n : Int) == 0) = false := by rw [beq_eq_false_iff_ne]; omega
    have hb2 : ((Q.letN n : Int) != 0) = true := by rw [bne_iff_ne]; omega
    clear e
    generalize Q.letN n = L at *
    go_enter Tryz.func111, Tryz.ntmps111
    go_wp2_with (go_at_call 113; refine c.mono ?_; rintro e w' ⟨rfl, rfl⟩)
    go_ret
    exact ⟨rfl, rfl⟩
end Go.Proofs.YtolekldjbbjmjaaGreatDoor
