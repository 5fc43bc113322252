/- joined: DocG DocH DocI -/
import Derived.Test.YtolekldjbbjmjaaGreatDoorDocF
/- SelectorReads: a piece. -/
set_option linter.unusedSimpArgs false
set_option linter.unusedVariables false
namespace Go.Proofs.YtolekldjbbjmjaaGreatDoor
open Go.RowKit Go.Lib
def pieceT : List ByteArray := [⟨#[97]⟩, ⟨#[97]⟩, ⟨#[97]⟩, ⟨#[97]⟩, ⟨#[122]⟩, ⟨#[65]⟩, ⟨#[90]⟩, ⟨#[48]⟩, ⟨#[57]⟩, ⟨#[45]⟩, ⟨#[95]⟩, ⟨#[46]⟩, ⟨#[47]⟩, ⟨#[58]⟩, ⟨#[64]⟩, ⟨#[91]⟩, ⟨#[96]⟩, ⟨#[123]⟩, ⟨#[34, 34]⟩, ⟨#[34, 98, 32, 99, 34]⟩, ⟨#[34, 97, 34]⟩, ⟨#[61]⟩, ⟨#[61]⟩, ⟨#[61]⟩, ⟨#[61, 61]⟩, ⟨#[33, 61]⟩, ⟨#[33]⟩, ⟨#[44]⟩, ⟨#[44]⟩, ⟨#[44]⟩, ⟨#[32]⟩, ⟨#[32]⟩, ⟨#[32, 105, 110, 32, 40]⟩, ⟨#[32, 105, 110, 32, 40]⟩, ⟨#[32, 110, 111, 116, 105, 110, 32, 40]⟩, ⟨#[32, 105, 110, 120, 32, 40]⟩, ⟨#[32, 110, 111, 116, 105, 110, 120, 40]⟩, ⟨#[32, 105, 110]⟩, ⟨#[32, 110, 111, 116, 105, 110]⟩, ⟨#[40]⟩, ⟨#[41]⟩, ⟨#[41]⟩, ⟨#[41]⟩, ⟨#[41]⟩]
def pieceF (n : Nat) : ByteArray := pieceT.getD (n % 44) ⟨#[]⟩
theorem pieceF_is {n j : Nat} (h : n % 44 = j) {x : ByteArray} (hx : pieceT.getD j ⟨#[]⟩ = x) : pieceF n = x := by unfold pieceF; rw [h, hx]
set_option maxRecDepth 100000 in
theorem pieceF_size (n : Nat) : (pieceF n).size ≤ 100 := by
  have : ∀ j, j < 44 → (pieceT.getD j ⟨#[]⟩).size ≤ 100 := by decide
  exact this _ (Nat.mod_lt _ (by decide))
set_option maxHeartbeats 8000000 in
set_option maxRecDepth 100000 in
theorem piece_any (n : Nat) (hn : n < 256) (w : World) : Calls Tryz.prog 40 #[.int .i64 (n : Int)] w (fun e w' => e = .returned (.string (pieceF n)) ∧ w' = w) := by
  obtain ⟨j, hj, hm, hj2⟩ : ∃ j : Nat, j < 44 ∧ (n : Int).tmod 44 = (j : Int) ∧ n % 44 = j := ⟨n % 44, Nat.mod_lt _ (by decide), by rw [Int.tmod_eq_emod_of_nonneg (by omega)]; omega, rfl⟩
  obtain rfl | rfl | rfl | rfl | rfl | rfl | rfl | rfl | rfl | rfl | rfl | rfl | rfl | rfl | rfl | rfl | rfl | rfl | rfl | rfl | rfl | rfl | rfl | rfl | rfl | rfl | rfl | rfl | rfl | rfl | rfl | rfl | rfl | rfl | rfl | rfl | rfl | rfl | rfl | rfl | rfl | rfl | rfl | rfl : j = 0 ∨ j = 1 ∨ j = 2 ∨ j = 3 ∨ j = 4 ∨ j = 5 ∨ j = 6 ∨ j = 7 ∨ j = 8 ∨ j = 9 ∨ j = 10 ∨ j = 11 ∨ j = 12 ∨ j = 13 ∨ j = 14 ∨ j = 15 ∨ j = 16 ∨ j = 17 ∨ j = 18 ∨ j = 19 ∨ j = 20 ∨ j = 21 ∨ j = 22 ∨ j = 23 ∨ j = 24 ∨ j = 25 ∨ j = 26 ∨ j = 27 ∨ j = 28 ∨ j = 29 ∨ j = 30 ∨ j = 31 ∨ j = 32 ∨ j = 33 ∨ j = 34 ∨ j = 35 ∨ j = 36 ∨ j = 37 ∨ j = 38 ∨ j = 39 ∨ j = 40 ∨ j = 41 ∨ j = 42 ∨ j = 43 := by omega
  · rw [pieceF_is hj2 (x := ⟨#[97]⟩) rfl]
    clear hj2
    go_enter Tryz.func40, Tryz.ntmps40
    go_wp2_with fail
    go_ret
    exact ⟨rfl, rfl⟩
  · rw [pieceF_is hj2 (x := ⟨#[97]⟩) rfl]
    clear hj2
    go_enter Tryz.func40, Tryz.ntmps40
    go_wp2_with fail
    go_ret
    exact ⟨rfl, rfl⟩
  · rw [pieceF_is hj2 (x := ⟨#[97]⟩) rfl]
    clear hj2
    go_enter Tryz.func40, Tryz.ntmps40
    go_wp2_with fail
    go_ret
    exact ⟨rfl, rfl⟩
  · rw [pieceF_is hj2 (x := ⟨#[97]⟩) rfl]
    clear hj2
    go_enter Tryz.func40, Tryz.ntmps40
    go_wp2_with fail
    go_ret
    exact ⟨rfl, rfl⟩
  · rw [pieceF_is hj2 (x := ⟨#[122]⟩) rfl]
    clear hj2
    go_enter Tryz.func40, Tryz.ntmps40
    go_wp2_with fail
    go_ret
    exact ⟨rfl, rfl⟩
  · rw [pieceF_is hj2 (x := ⟨#[65]⟩) rfl]
    clear hj2
    go_enter Tryz.func40, Tryz.ntmps40
    go_wp2_with fail
    go_ret
    exact ⟨rfl, rfl⟩
  · rw [pieceF_is hj2 (x := ⟨#[90]⟩) rfl]
    clear hj2
    go_enter Tryz.func40, Tryz.ntmps40
    go_wp2_with fail
    go_ret
    exact ⟨rfl, rfl⟩
  · rw [pieceF_is hj2 (x := ⟨#[48]⟩) rfl]
    clear hj2
    go_enter Tryz.func40, Tryz.ntmps40
    go_wp2_with fail
    go_ret
    exact ⟨rfl, rfl⟩
  · rw [pieceF_is hj2 (x := ⟨#[57]⟩) rfl]
    clear hj2
    go_enter Tryz.func40, Tryz.ntmps40
    go_wp2_with fail
    go_ret
    exact ⟨rfl, rfl⟩
  · rw [pieceF_is hj2 (x := ⟨#[45]⟩) rfl]
    clear hj2
    go_enter Tryz.func40, Tryz.ntmps40
    go_wp2_with fail
    go_ret
    exact ⟨rfl, rfl⟩
  · rw [pieceF_is hj2 (x := ⟨#[95]⟩) rfl]
    clear hj2
    go_enter Tryz.func40, Tryz.ntmps40
    go_wp2_with fail
    go_ret
    exact ⟨rfl, rfl⟩
  · rw [pieceF_is hj2 (x := ⟨#[46]⟩) rfl]
    clear hj2
    go_enter Tryz.func40, Tryz.ntmps40
    go_wp2_with fail
    go_ret
    exact ⟨rfl, rfl⟩
  · rw [pieceF_is hj2 (x := ⟨#[47]⟩) rfl]
    clear hj2
    go_enter Tryz.func40, Tryz.ntmps40
    go_wp2_with fail
    go_ret
    exact ⟨rfl, rfl⟩
  · rw [pieceF_is hj2 (x := ⟨#[58]⟩) rfl]
    clear hj2
    go_enter Tryz.func40, Tryz.ntmps40
    go_wp2_with fail
    go_ret
    exact ⟨rfl, rfl⟩
  · rw [pieceF_is hj2 (x := ⟨#[64]⟩) rfl]
    clear hj2
    go_enter Tryz.func40, Tryz.ntmps40
    go_wp2_with fail
    go_ret
    exact ⟨rfl, rfl⟩
  · rw [pieceF_is hj2 (x := ⟨#[91]⟩) rfl]
    clear hj2
    go_enter Tryz.func40, Tryz.ntmps40
    go_wp2_with fail
    go_ret
    exact ⟨rfl, rfl⟩
  · rw [pieceF_is hj2 (x := ⟨#[96]⟩) rfl]
    clear hj2
    go_enter Tryz.func40, Tryz.ntmps40
    go_wp2_with fail
    go_ret
    exact ⟨rfl, rfl⟩
  · rw [pieceF_is hj2 (x := ⟨#[123]⟩) rfl]
    clear hj2
    go_enter Tryz.func40, Tryz.ntmps40
    go_wp2_with fail
    go_ret
    exact ⟨rfl, rfl⟩
  · rw [pieceF_is hj2 (x := ⟨#[34, 34]⟩) rfl]
    clear hj2
    go_enter Tryz.func40, Tryz.ntmps40
    go_wp2_with fail
    go_ret
    exact ⟨rfl, rfl⟩
  · rw [pieceF_is hj2 (x := ⟨#[34, 98, 32, 99, 34]⟩) rfl]
    clear hj2
    go_enter Tryz.func40, Tryz.ntmps40
    go_wp2_with fail
    go_ret
    exact ⟨rfl, rfl⟩
  · rw [pieceF_is hj2 (x := ⟨#[34, 97, 34]⟩) rfl]
    clear hj2
    go_enter Tryz.func40, Tryz.ntmps40
    go_wp2_with fail
    go_ret
    exact ⟨rfl, rfl⟩
  · rw [pieceF_is hj2 (x := ⟨#[61]⟩) rfl]
    clear hj2
    go_enter Tryz.func40, Tryz.ntmps40
    go_wp2_with fail
    go_ret
    exact ⟨rfl, rfl⟩
  · rw [pieceF_is hj2 (x := ⟨#[61]⟩) rfl]
    clear hj2
    go_enter Tryz.func40, Tryz.ntmps40
    go_wp2_with fail
    go_ret
    exact ⟨rfl, rfl⟩
  · rw [pieceF_is hj2 (x := ⟨#[61]⟩) rfl]
    clear hj2
    go_enter Tryz.func40, Tryz.ntmps40
    go_wp2_with fail
    go_ret
    exact ⟨rfl, rfl⟩
  · rw [pieceF_is hj2 (x := ⟨#[61, 61]⟩) rfl]
    clear hj2
    go_enter Tryz.func40, Tryz.ntmps40
    go_wp2_with fail
    go_ret
    exact ⟨rfl, rfl⟩
  · rw [pieceF_is hj2 (x := ⟨#[33, 61]⟩) rfl]
    clear hj2
    go_enter Tryz.func40, Tryz.ntmps40
    go_wp2_with fail
    go_ret
    exact ⟨rfl, rfl⟩
  · rw [pieceF_is hj2 (x := ⟨#[33]⟩) rfl]
    clear hj2
    go_enter Tryz.func40, Tryz.ntmps40
    go_wp2_with fail
    go_ret
    exact ⟨rfl, rfl⟩
  · rw [pieceF_is hj2 (x := ⟨#[44]⟩) rfl]
    clear hj2
    go_enter Tryz.func40, Tryz.ntmps40
    go_wp2_with fail
    go_ret
    exact ⟨rfl, rfl⟩
  · rw [pieceF_is hj2 (x := ⟨#[44]⟩) rfl]
    clear hj2
    go_enter Tryz.func40, Tryz.ntmps40
    go_wp2_with fail
    go_ret
    exact ⟨rfl, rfl⟩
  · rw [pieceF_is hj2 (x := ⟨#[44]⟩) rfl]
    clear hj2
    go_enter Tryz.func40, Tryz.ntmps40
    go_wp2_with fail
    go_ret
    exact ⟨rfl, rfl⟩
  · rw [pieceF_is hj2 (x := ⟨#[32]⟩) rfl]
    clear hj2
    go_enter Tryz.func40, Tryz.ntmps40
    go_wp2_with fail
    go_ret
    exact ⟨rfl, rfl⟩
  · rw [pieceF_is hj2 (x := ⟨#[32]⟩) rfl]
    clear hj2
    go_enter Tryz.func40, Tryz.ntmps40
    go_wp2_with fail
    go_ret
    exact ⟨rfl, rfl⟩
  · rw [pieceF_is hj2 (x := ⟨#[32, 105, 110, 32, 40]⟩) rfl]
    clear hj2
    go_enter Tryz.func40, Tryz.ntmps40
    go_wp2_with fail
    go_ret
    exact ⟨rfl, rfl⟩
  · rw [pieceF_is hj2 (x := ⟨#[32, 105, 110, 32, 40]⟩) rfl]
    clear hj2
    go_enter Tryz.func40, Tryz.ntmps40
    go_wp2_with fail
    go_ret
    exact ⟨rfl, rfl⟩
  · rw [pieceF_is hj2 (x := ⟨#[32, 110, 111, 116, 105, 110, 32, 40]⟩) rfl]
    clear hj2
    go_enter Tryz.func40, Tryz.ntmps40
    go_wp2_with fail
    go_ret
    exact ⟨rfl, rfl⟩
  · rw [pieceF_is hj2 (x := ⟨#[32, 105, 110, 120, 32, 40]⟩) rfl]
    clear hj2
    go_enter Tryz.func40, Tryz.ntmps40
    go_wp2_with fail
    go_ret
    exact ⟨rfl, rfl⟩
  · rw [pieceF_is hj2 (x := ⟨#[32, 110, 111, 116, 105, 110, 120, 40]⟩) rfl]
    clear hj2
    go_enter Tryz.func40, Tryz.ntmps40
    go_wp2_with fail
    go_ret
    exact ⟨rfl, rfl⟩
  · rw [pieceF_is hj2 (x := ⟨#[32, 105, 110]⟩) rfl]
    clear hj2
    go_enter Tryz.func40, Tryz.ntmps40
    go_wp2_with fail
    go_ret
    exact ⟨rfl, rfl⟩
  · rw [pieceF_is hj2 (x := ⟨#[32, 110, 111, 116, 105, 110]⟩) rfl]
    clear hj2
    go_enter Tryz.func40, Tryz.ntmps40
    go_wp2_with fail
    go_ret
    exact ⟨rfl, rfl⟩
  · rw [pieceF_is hj2 (x := ⟨#[40]⟩) rfl]
    clear hj2
    go_enter Tryz.func40, Tryz.ntmps40
    go_wp2_with fail
    go_ret
    exact ⟨rfl, rfl⟩
  · rw [pieceF_is hj2 (x := ⟨#[41]⟩) rfl]
    clear hj2
    go_enter Tryz.func40, Tryz.ntmps40
    go_wp2_with fail
    go_ret
    exact ⟨rfl, rfl⟩
  · rw [pieceF_is hj2 (x := ⟨#[41]⟩) rfl]
    clear hj2
    go_enter Tryz.func40, Tryz.ntmps40
    go_wp2_with fail
    go_ret
    exact ⟨rfl, rfl⟩
  · rw [pieceF_is hj2 (x := ⟨#[41]⟩) rfl]
    clear hj2
    go_enter Tryz.func40, Tryz.ntmps40
    go_wp2_with fail
    go_ret
    exact ⟨rfl, rfl⟩
  · rw [pieceF_is hj2 (x := ⟨#[41]⟩) rfl]
    clear hj2
    go_enter Tryz.func40, Tryz.ntmps40
    go_wp2_with fail
    go_ret
    exact ⟨rfl, rfl⟩
end Go.Proofs.YtolekldjbbjmjaaGreatDoor
/- SelectorReads: a text of pieces. -/
namespace Go.Proofs.YtolekldjbbjmjaaGreatDoor
open Go.RowKit Go.Lib
theorem add_pc (x y : ByteArray) (h : x.size + y.size ≤ 9223372036854775807) (W : World) : (Op.stringOp .add x y).run Tryz.prog W = .ok (.string (x ++ y)) W :=
  run_string_add_sum (P := Tryz.prog) W x y h
/-- the first i pieces -/
def pcsF (s : ByteArray) : Nat → ByteArray
  | 0 => ⟨#[]⟩
  | i + 1 => pcsF s i ++ pieceF (s.data.toList.getD i 0).toNat
theorem pcsF_size (s : ByteArray) : ∀ i, (pcsF s i).size ≤ 100 * i
  | 0 => Nat.zero_le _
  | i + 1 => by
    have h1 := pcsF_size s i
    have h2 := pieceF_size (s.data.toList.getD i 0).toNat
    rw [pcsF, ByteArray.size_append]
    omega
theorem pcsF_next {s : ByteArray} {i : Nat} (h : i < s.size) : pcsF s (i + 1) = pcsF s i ++ pieceF (s[i]).toNat := by
  rw [pcsF, List.getD_eq_getElem?_getD, List.getElem?_eq_getElem (by simpa using h)]
  rfl
def pcdF (s : ByteArray) : ByteArray := pcsF s (min 30 s.size)
set_option maxHeartbeats 8000000 in
set_option maxRecDepth 100000 in
theorem pieced_any (s : ByteArray) (w : World) (hs : s.size ≤ 140737488355328) : Calls Tryz.prog 20 #[.string s] w (fun e w' => e = .returned (.string (pcdF s)) ∧ w' = w) := by
  go_enter Tryz.func20, Tryz.ntmps20
  go_wp2_with fail
  go_loopw [3, 4] (fun e3 e4 wr => ∃ (i : Nat) (t : ByteArray), i ≤ s.size ∧ i ≤ 30 ∧ e4 = .int .i64 (i : Int) ∧ e3 = .string t ∧ Hid (pcsF s i = t) ∧ wr = w) (fun _ e4 _ => 31 - (RowKit.intOf e4).toNat)
  case atStart => exact ⟨0, ⟨#[]⟩, by omega, by omega, rfl, rfl, rfl, rfl⟩
  case round =>
    obtain ⟨i, t, hi, hi3, rfl, rfl, HT, rfl⟩ := hrel
    have ht : t.size ≤ 3000 := by have := pcsF_size s i; rw [HT.out] at this; omega
    by_cases hl : i < s.size
    · have y : (i : Int) < s.size := by omega
      by_cases h3 : i < 30
      · have y3 : (i : Int) < 30 := by omega
        have yw := wrap64_u8 s[i]
        have hx := pieceF_size (s[i]).toNat
        have HX : Hid (pcsF s (i + 1) = t ++ pieceF (s[i]).toNat) := by show _ = _; rw [pcsF_next hl, HT.out]
        have HP := hmk (fun W => piece_any (s[i]).toNat (UInt8.toNat_lt _) W)
        generalize pieceF (s[i]).toNat = x at *
        have A := add_pc t x (by omega)
        go_wp2_with (go_at_call 40; refine (HP.out _).mono ?_; rintro e w1 ⟨rfl, rfl⟩)
        go_roundw
        case rel => exact ⟨i + 1, _, by omega, by omega, by go_num, rfl, HX.out, by first | trivial | rfl⟩
        case measure => simp [RowKit.intOf]; omega
      · have y3 : ¬ (i : Int) < 30 := by omega
        have HE : Hid (t = pcdF s) := by show _ = _; unfold pcdF; rw [← HT.out, show min 30 s.size = i by omega]
        go_wp2_with fail
        (try simp only [Exit.inBlock, Exit.then])
        go_ret
        exact ⟨congrArg (fun r => Ending.returned (.string r)) HE.out, rfl⟩
    · have y : ¬ (i : Int) < s.size := by omega
      have HE : Hid (t = pcdF s) := by show _ = _; unfold pcdF; rw [← HT.out, show min 30 s.size = i by omega]
      go_wp2_with fail
      (try simp only [Exit.inBlock, Exit.then])
      go_ret
      exact ⟨congrArg (fun r => Ending.returned (.string r)) HE.out, rfl⟩
end Go.Proofs.YtolekldjbbjmjaaGreatDoor
/- SelectorReads: the greatest text: plain. -/
namespace Go.Proofs.YtolekldjbbjmjaaGreatDoor
open Go.RowKit Go.Lib
theorem skp_rep {l : List UInt8} : ∀ (n k : Nat), At l k (List.replicate n 32) → skp l k = k + n
  | 0, k, h => by rw [skp_none h (by simp)]; rfl
  | n + 1, k, h => by
    have h : At l k (32 :: List.replicate n 32) := h
    rw [skp_one h, skp_rep n (k + 1) h.one]
    omega
theorem par_spaces (n : Nat) (hn : n + 1 ≤ 1048576) : (parF (97 :: List.replicate n 32)).1 = some [(⟨#[97]⟩, 1, [])] := by
  obtain ⟨l, hl⟩ : ∃ l : List UInt8, 97 :: List.replicate n 32 = l := ⟨_, rfl⟩
  have hlen : l.length = n + 1 := by rw [← hl]; simp
  have hw : wordL ⟨#[97]⟩ = [97] := by decide
  have h0 : At l 0 (wordL ⟨#[97]⟩ ++ List.replicate n 32) := ⟨Nat.zero_le _, by rw [hw]; exact hl.symm⟩
  have hu : NoP (List.replicate n 32) := by
    cases n with
    | zero => exact noP_nil
    | succ n => exact noP_cons (by decide)
  have h1 := wrd_at (least := 1) h0 (by decide) (by decide) hu
  have h2 : At l (0 + (wordL ⟨#[97]⟩).length) (List.replicate n 32) := h0.step rfl
  have hs : skp l (0 + (wordL ⟨#[97]⟩).length) = l.length := by rw [skp_rep n _ h2, hw, hlen]; simp; omega
  rw [hs] at h1
  have h3 : At l l.length [] := ⟨Nat.le_refl _, by simp⟩
  have h4 := cond_end h3 (.inl rfl)
  have ht : tkB l 0 [33] = false := by rw [tk_at h0, hw]; rfl
  have hn2 : tkN l 0 [33] = 0 := by unfold tkN; rw [ht]; rfl
  have h5 : termF l 0 = (some (⟨#[97]⟩, 1, []), l.length) := by rw [termF_some (by rw [hn2]; exact h1) ht (by rw [h4]), h4]
  have h6 : skp l 0 = 0 := skp_none h0 (word_nob _ _)
  rw [hl]
  unfold parF
  rw [if_neg (by omega)]
  unfold tersF
  rw [h6, if_neg (by omega), terF_end (by rw [h5]) (by rw [h5])]
  rw [h5]
  rfl
end Go.Proofs.YtolekldjbbjmjaaGreatDoor
