import Derived.Test.YtolekldjbbjmjaaGreatDoorRefB
import Derived.Test.YtolekldjbbjmjaaGreatDoorRdF
/- Contracts: the document's escape. -/
set_option linter.unusedSimpArgs false
set_option linter.unusedVariables false
set_option maxRecDepth 100000
namespace Go.Proofs.YtolekldjbbjmjaaGreatDoor
open Go.RowKit
/-- where the letter stands among the seven; 7: nowhere -/
def Q.lidN (c : Nat) : Nat := if c = 34 then 0 else if c = 92 then 1 else if c = 98 then 2 else if c = 116 then 3 else if c = 110 then 4 else if c = 102 then 5 else if c = 114 then 6 else 7
theorem Q.lidN_le (c : Nat) : Q.lidN c ≤ 7 := by
  unfold Q.lidN
  repeat' split
  all_goals omega
theorem lid_none (c : Nat) (h : ¬ Q.lidN c < 7) (h47 : c ≠ 47) : Q.saidN c = 0 := by
  revert h
  unfold Q.lidN Q.saidN
  repeat' split
  all_goals first | rfl | (intro h; omega)
theorem lid_ne (c : UInt8) (k : Nat) (h : k < Q.lidN c.toNat) (h' : k < (⟨#[34, 92, 98, 116, 110, 102, 114]⟩ : ByteArray).size) : (⟨#[34, 92, 98, 116, 110, 102, 114]⟩ : ByteArray)[k].toNat ≠ c.toNat := by
  have key : ∀ (k : Fin 7), (⟨#[34, 92, 98, 116, 110, 102, 114]⟩ : ByteArray)[k.val]'(k.isLt) = UInt8.ofNat ([34, 92, 98, 116, 110, 102, 114].getD k.val 0) ∧ Q.lidN ([34, 92, 98, 116, 110, 102, 114].getD k.val 0) = k.val ∧ [34, 92, 98, 116, 110, 102, 114].getD k.val 0 < 256 := by decide
  have hk := key ⟨k, h'⟩
  simp only at hk
  intro e
  rw [hk.1] at e
  obtain ⟨_, h2, h3⟩ := hk
  generalize [34, 92, 98, 116, 110, 102, 114].getD k 0 = z at *
  have e2 : z = c.toNat := by
    rw [← e]; simp; omega
  rw [← e2] at h
  omega
theorem lid_eq (c : UInt8) (h : Q.lidN c.toNat < 7) (h' : Q.lidN c.toNat < (⟨#[34, 92, 98, 116, 110, 102, 114]⟩ : ByteArray).size) (h'' : Q.lidN c.toNat < (⟨#[34, 92, 8, 9, 10, 12, 13]⟩ : ByteArray).size) :
    (⟨#[34, 92, 98, 116, 110, 102, 114]⟩ : ByteArray)[Q.lidN c.toNat].toNat = c.toNat ∧ (⟨#[34, 92, 8, 9, 10, 12, 13]⟩ : ByteArray)[Q.lidN c.toNat].toNat = Q.saidN c.toNat ∧ Q.saidN c.toNat ≠ 0 ∧ c.toNat ≠ 117 := by
  have key : ∀ c : Fin 256, (hh : Q.lidN c.val < 7) → ((⟨#[34, 92, 98, 116, 110, 102, 114]⟩ : ByteArray)[Q.lidN c.val]'(hh)).toNat = c.val ∧ ((⟨#[34, 92, 8, 9, 10, 12, 13]⟩ : ByteArray)[Q.lidN c.val]'(hh)).toNat = Q.saidN c.val ∧ Q.saidN c.val ≠ 0 ∧ c.val ≠ 117 := by decide +kernel
  exact key ⟨c.toNat, c.toNat_lt⟩ h
theorem wrap64_u8 (x : UInt8) : wrap64 (x.toNat : Int) = (x.toNat : Int) := by
  have := x.toNat_lt
  simp only [wrap64, IntKind.wrap_i64]
  omega
/-- what the document's escape tells -/
def Esc (k : Nat) (F : Nat × Nat × Bool) (w : World) (e : Ending) (w' : World) : Prop :=
  (∃ v : Int, e = .returned (.tuple #[.int .i64 v, .int .i64 ((k + F.2.1 : Nat) : Int), .bool F.2.2]) ∧ (F.2.2 = true → v = (F.1 : Int))) ∧ ∃ n, w' = w.drewN n
set_option maxHeartbeats 4000000 in
set_option maxRecDepth 100000 in
theorem refEscape_short (s : ByteArray) (k : Nat) (hk : k ≤ s.size) (hs : s.size ≤ 140737488351232) (w : World) (hu : hit s k 117 = false) :
    Calls Tryz.prog 107 #[.string s, .int .i64 k] w (Esc k (Q.escF (s.data.toList.drop k)) w) := by
  by_cases hlt : k < s.size
  · have y1 : (k : Int) < s.size := by omega
    have hx := drop_consW s k hlt
    have hne : s[k].toNat ≠ 117 := hit_no hu _ _ hx
    have e : Q.escF (s.data.toList.drop k) = if Q.saidN s[k].toNat = 0 then (0, 0, false) else (Q.saidN s[k].toNat, 1, true) := by
      rw [hx, Q.escF_cons, if_neg hne]
    rw [e]
    by_cases h47 : s[k].toNat = 47
    · have e47 : Q.saidN s[k].toNat = 47 := by rw [h47]; rfl
      rw [e47, if_neg (by omega)]
      have b47 : ((s[k].toNat : Int) == 47) = true := by rw [beq_iff_eq]; omega
      clear e e47 h47 hne hx hu
      go_enter Tryz.func107, Tryz.ntmps107
      go_wp2
      go_ret3
      exact ⟨⟨_, ret_iib rfl (by simp) rfl, fun _ => rfl⟩, 0, rfl⟩
    · have b47 : ((s[k].toNat : Int) == 47) = false := by rw [beq_eq_false_iff_ne]; omega
      have bne : ((s[k].toNat : Int) != 117) = true := by rw [bne_iff_ne]; omega
      have hl7 := Q.lidN_le s[k].toNat
      have hnone := lid_none s[k].toNat
      have hse := fun h : Q.lidN s[k].toNat < 7 => lid_eq s[k] h (by exact h) (by exact h)
      have hsn := lid_ne s[k]
      obtain ⟨I, hI⟩ : ∃ I, I = Q.lidN s[k].toNat := ⟨_, rfl⟩
      obtain ⟨S, hS⟩ : ∃ S, S = Q.saidN s[k].toNat := ⟨_, rfl⟩
      rw [← hS]
      have HNONE : Hid (¬ I < 7 → S = 0) := by rw [hI, hS]; exact fun h => hnone h h47
      have HSE : Hid (∀ h : I < 7, ((⟨#[34, 92, 98, 116, 110, 102, 114]⟩ : ByteArray)[I]'(by exact h)).toNat = s[k].toNat ∧ ((⟨#[34, 92, 8, 9, 10, 12, 13]⟩ : ByteArray)[I]'(by exact h)).toNat = S ∧ S ≠ 0) := by
        subst hI
        rw [hS]
        intro h
        exact ⟨(hse h).1, (hse h).2.1, (hse h).2.2.1⟩
      have HSN : Hid (∀ i, (h : i < I) → (h' : i < 7) → ((⟨#[34, 92, 98, 116, 110, 102, 114]⟩ : ByteArray)[i]'(by exact h')).toNat ≠ s[k].toNat) := by
        subst hI
        intro i h h'
        exact hsn i h h'
      rw [← hI] at hl7
      obtain ⟨F, hF⟩ : ∃ F : Nat × Nat × Bool, F = if S = 0 then (0, 0, false) else (S, 1, true) := ⟨_, rfl⟩
      rw [← hF]
      have HF : Hid (F = if S = 0 then (0, 0, false) else (S, 1, true)) := hF
      clear hF
      clear hnone hse hsn hI hS e h47 hne hx hu
      go_enter Tryz.func107, Tryz.ntmps107
      go_wp2
      go_loopw [7] (fun j wr => ∃ i : Nat, i ≤ I ∧ j = .int .i64 i ∧ ∃ n, wr = w.drewN n) (fun j _ => 7 - (RowKit.intOf j).toNat)
      case atStart => exact ⟨0, Nat.zero_le _, rfl, 0, rfl⟩
      case round =>
        obtain ⟨i, hi, rfl, n, rfl⟩ := hrel
        by_cases hii : i < I
        · have z1 : (i : Int) < 7 := by omega
          have hne := HSN.out i hii (by omega)
          have z2 : ((((⟨#[34, 92, 98, 116, 110, 102, 114]⟩ : ByteArray)[i]'(by show i < 7; omega)).toNat : Int) == (s[k].toNat : Int)) = false := by rw [beq_eq_false_iff_ne]; omega
          clear hne
          go_wp2
          go_quiet (fail)
          go_wp2
          go_roundw
          case rel => exact ⟨i + 1, by omega, by go_num, _, rfl⟩
          case measure => simp [RowKit.intOf]; omega
        · obtain rfl : i = I := by omega
          by_cases h7 : i < 7
          · have hse := HSE.out h7
            have z1 : (i : Int) < 7 := by omega
            have z2 : ((((⟨#[34, 92, 98, 116, 110, 102, 114]⟩ : ByteArray)[i]'(by exact h7)).toNat : Int) == (s[k].toNat : Int)) = true := by rw [beq_iff_eq]; omega
            obtain rfl : F = (S, 1, true) := by rw [HF.out, if_neg hse.2.2]
            have HV : Hid ((((⟨#[34, 92, 8, 9, 10, 12, 13]⟩ : ByteArray)[i]'(by exact h7)).toNat : Int) = (S : Int)) := by show _ = _; omega
            clear hse HSE HSN HNONE HF
            go_wp2
            go_quiet (fail)
            go_wp2
            go_ret3
            exact ⟨⟨_, ret_iib rfl (by simp) rfl, fun _ => (wrap64_u8 _).trans HV.out⟩, _, rfl⟩
          · have z1 : ¬ (i : Int) < 7 := by omega
            obtain rfl : F = (0, 0, false) := by rw [HF.out, if_pos (HNONE.out h7)]
            clear HSE HSN HNONE HF
            go_wp2
            go_ret3
            exact ⟨⟨_, ret_iib rfl (by simp) rfl, fun h => by cases h⟩, _, rfl⟩
  · have y1 : (s.size : Int) ≤ k := by omega
    have e : Q.escF (s.data.toList.drop k) = (0, 0, false) := by rw [drop_endW s k (by omega)]; rfl
    rw [e]
    clear e hu
    go_enter Tryz.func107, Tryz.ntmps107
    go_wp2
    go_ret3
    exact ⟨⟨_, ret_iib rfl (by simp) rfl, fun h => by cases h⟩, 0, rfl⟩
set_option maxHeartbeats 8000000 in
set_option maxRecDepth 100000 in
theorem refEscape_u (s : ByteArray) (k : Nat) (hs : s.size ≤ 140737488351232) (w : World) (hlt : k < s.size) (he : s[k].toNat = 117) :
    Calls Tryz.prog 107 #[.string s, .int .i64 k] w (Esc k (Q.escF (s.data.toList.drop k)) w) := by
  have y1 : (k : Int) < s.size := by omega
  have hx := drop_consW s k hlt
  have eF : Q.escF (s.data.toList.drop k) = ((Q.numF (s.data.toList.drop (k + 1))).1, 1 + (Q.numF (s.data.toList.drop (k + 1))).2.1, (Q.numF (s.data.toList.drop (k + 1))).2.2) := by
    rw [hx, Q.escF_cons, if_pos he]
  obtain ⟨F, hF⟩ : ∃ F, F = Q.escF (s.data.toList.drop k) := ⟨_, rfl⟩
  rw [← hF]
  rw [← hF] at eF
  have EF : Hid (F = ((Q.numF (s.data.toList.drop (k + 1))).1, 1 + (Q.numF (s.data.toList.drop (k + 1))).2.1, (Q.numF (s.data.toList.drop (k + 1))).2.2)) := eF
  have b47 : ((s[k].toNat : Int) == 47) = false := by rw [beq_eq_false_iff_ne]; omega
  have bne : ((s[k].toNat : Int) != 117) = false := by rw [bne_eq_false_iff_eq]; omega
  have HSN : Hid (∀ i, (h' : i < 7) → ((⟨#[34, 92, 98, 116, 110, 102, 114]⟩ : ByteArray)[i]'(by exact h')).toNat ≠ s[k].toNat) := by
    intro i h'
    have e7 : Q.lidN s[k].toNat = 7 := by rw [he]; rfl
    exact lid_ne s[k] i (by omega) h'
  have C4 : Hid (∀ w1 : World, Calls Tryz.prog 125 #[.string s, .int .i64 ((k : Int) + 1), .bool false] w1 fun e w' => e = .returned (.tuple #[.int .i64 ((Q.digs false 4 0 0 (s.data.toList.drop (k + 1))).1 : Int), .int .i64 ((k + 1 + (Q.digs false 4 0 0 (s.data.toList.drop (k + 1))).2.1 : Nat) : Int), .bool (Q.digs false 4 0 0 (s.data.toList.drop (k + 1))).2.2]) ∧ w' = w1) :=
    fun w1 => four_any s _ (k + 1) (by omega) false (by omega) hs w1
  clear hF eF hx he
  go_enter Tryz.func107, Tryz.ntmps107
  go_wp2
  go_loopw [7] (fun j wr => ∃ i : Nat, i ≤ 7 ∧ j = .int .i64 i ∧ ∃ n, wr = w.drewN n) (fun j _ => 7 - (RowKit.intOf j).toNat)
  case atStart => exact ⟨0, Nat.zero_le _, rfl, 0, rfl⟩
  case round =>
    obtain ⟨i, hi, rfl, n, rfl⟩ := hrel
    by_cases hii : i < 7
    · have z1 : (i : Int) < 7 := by omega
      have hne := HSN.out i hii
      have z2 : ((((⟨#[34, 92, 98, 116, 110, 102, 114]⟩ : ByteArray)[i]'(by exact hii)).toNat : Int) == (s[k].toNat : Int)) = false := by rw [beq_eq_false_iff_ne]; omega
      clear hne
      go_wp2
      go_quiet (fail)
      go_wp2
      go_roundw
      case rel => exact ⟨i + 1, by omega, by go_num, _, rfl⟩
      case measure => simp [RowKit.intOf]; omega
    · have z1 : ¬ (i : Int) < 7 := by omega
      clear HSN
      have hdl := Q.digs_le false 4 0 0 (s.data.toList.drop (k + 1))
      have hlen2 : (s.data.toList.drop (k + 1)).length = s.size - (k + 1) := by simp
      rw [hlen2] at hdl
      cases hok : (Q.digs false 4 0 0 (s.data.toList.drop (k + 1))).2.2
      · obtain rfl : F = (0, 1 + (Q.digs false 4 0 0 (s.data.toList.drop (k + 1))).2.1, false) := by rw [EF.out, numF_pre _ hok]
        rw [hok] at C4
        generalize Q.digs false 4 0 0 (s.data.toList.drop (k + 1)) = D at *
        obtain ⟨v, m, o⟩ := D
        simp only at *
        clear EF hok hlen2
        go_wp2_with (go_at_call 125; refine (C4.out _).mono ?_; rintro e w1 ⟨rfl, rfl⟩)
        go_ret3
        exact ⟨⟨_, ret_iib rfl (by simp only; omega) rfl, fun h => by cases h⟩, n, rfl⟩
      · have hn4 := hdl.2.2.2 hok
        have hrg := Q.digs_range false _ hok
        rw [hok, hn4, Nat.zero_add] at C4
        by_cases hc : 55296 ≤ (Q.digs false 4 0 0 (s.data.toList.drop (k + 1))).1 ∧ (Q.digs false 4 0 0 (s.data.toList.drop (k + 1))).1 < 56320
        · have hd4 : (s.data.toList.drop (k + 1)).drop 4 = s.data.toList.drop (k + 5) := by rw [List.drop_drop]
          have hk5 : k + 5 ≤ s.size := by omega
          obtain ⟨v, hv⟩ : ∃ v, v = (Q.digs false 4 0 0 (s.data.toList.drop (k + 1))).1 := ⟨_, rfl⟩
          obtain ⟨V, hV⟩ : ∃ V : Int, V = (v : Int) := ⟨_, rfl⟩
          have hc' := hc
          rw [← hv] at C4 hc'
          rw [← hV] at C4
          have v1 : ¬ V < 55296 := by omega
          have v2 : ¬ (56319 : Int) < V := by omega
          have v3 : (55296 : Int) ≤ V := by omega
          have v4 : V < 56320 := by omega
          have HV : Hid (V = (v : Int)) := hV
          cases h92 : hit s (k + 5) 92
          · obtain rfl : F = (0, 5, false) := by
              rw [EF.out, numF_p1 _ hok hc (by intro x r hx; rw [hd4] at hx; exact hit_no h92 x r hx)]
              rfl
            have C4' : Hid (∀ w1 : World, Calls Tryz.prog 125 #[.string s, .int .i64 ((k : Int) + 1), .bool false] w1 fun e w' => e = .returned (.tuple #[.int .i64 V, .int .i64 ((k + 5 : Nat) : Int), .bool true]) ∧ w' = w1) := C4
            by_cases hlt5 : k + 5 < s.size
            · have q1 : ((k + 5 : Nat) : Int) < s.size := by omega
              have q1' : (k : Int) + 5 < s.size := by omega
              have hne5 := hit_no h92 _ _ (drop_consW s (k + 5) hlt5)
              have q2 : ((s[k + 5].toNat : Int) != 92) = true := by rw [bne_iff_ne]; omega
              clear EF hok hlen2 hc hrg hdl hn4 hV C4 hd4 hv hc' h92 hne5
              go_wp2_with (go_at_call 125; refine (C4'.out _).mono ?_; rintro e w1 ⟨rfl, rfl⟩)
              go_ret3
              exact ⟨⟨_, ret_iib rfl (by simp only; omega) rfl, fun h => by cases h⟩, n, rfl⟩
            · have q1 : (s.size : Int) ≤ ((k + 5 : Nat) : Int) := by omega
              have q1' : (s.size : Int) ≤ (k : Int) + 5 := by omega
              clear EF hok hlen2 hc hrg hdl hn4 hV C4 hd4 hv hc' h92
              go_wp2_with (go_at_call 125; refine (C4'.out _).mono ?_; rintro e w1 ⟨rfl, rfl⟩)
              go_ret3
              exact ⟨⟨_, ret_iib rfl (by simp only; omega) rfl, fun h => by cases h⟩, n, rfl⟩
          · obtain ⟨hlt5, he92⟩ := hit_yes h92
            have hx5 := drop_consW s (k + 5) hlt5
            have C4' : Hid (∀ w1 : World, Calls Tryz.prog 125 #[.string s, .int .i64 ((k : Int) + 1), .bool false] w1 fun e w' => e = .returned (.tuple #[.int .i64 V, .int .i64 ((k + 5 : Nat) : Int), .bool true]) ∧ w' = w1) := C4
            have q1 : ((k + 5 : Nat) : Int) < s.size := by omega
            have q1' : (k : Int) + 5 < s.size := by omega
            have q2 : ((s[k + 5].toNat : Int) != 92) = false := by rw [bne_eq_false_iff_eq]; omega
            cases h117 : hit s (k + 6) 117
            · obtain rfl : F = (0, 6, false) := by
                rw [EF.out, numF_p2 _ hok hc s[k + 5] _ (by rw [hd4]; exact hx5) he92 (by intro y r2 hy; exact hit_no h117 y r2 hy)]
                rfl
              by_cases hlt6 : k + 6 < s.size
              · have q3 : ((k + 5 : Nat) : Int) + 1 < s.size := by omega
                have q3' : (k : Int) + 5 + 1 < s.size := by omega
                have q3'' : (k : Int) + 6 < s.size := by omega
                have hne6 := hit_no h117 _ _ (drop_consW s (k + 6) hlt6)
                have q4 : ((s[k + 6].toNat : Int) != 117) = true := by rw [bne_iff_ne]; omega
                have q4' : ((s[k + 5 + 1].toNat : Int) != 117) = true := q4
                clear EF hok hlen2 hc hrg hdl hn4 hV C4 hd4 hv hc' h92 h117 hne6 hx5 he92
                go_wp2_with (go_at_call 125; refine (C4'.out _).mono ?_; rintro e w1 ⟨rfl, rfl⟩)
                go_ret3
                exact ⟨⟨_, ret_iib rfl (by simp only; omega) rfl, fun h => by cases h⟩, n, rfl⟩
              · have q3 : (s.size : Int) ≤ ((k + 5 : Nat) : Int) + 1 := by omega
                have q3' : (s.size : Int) ≤ (k : Int) + 5 + 1 := by omega
                have q3'' : (s.size : Int) ≤ (k : Int) + 6 := by omega
                clear EF hok hlen2 hc hrg hdl hn4 hV C4 hd4 hv hc' h92 h117 hx5 he92
                go_wp2_with (go_at_call 125; refine (C4'.out _).mono ?_; rintro e w1 ⟨rfl, rfl⟩)
                go_ret3
                exact ⟨⟨_, ret_iib rfl (by simp only; omega) rfl, fun h => by cases h⟩, n, rfl⟩
            · obtain ⟨hlt6, he117⟩ := hit_yes h117
              have hx6 := drop_consW s (k + 6) hlt6
              have hx5' : s.data.toList.drop (k + 5) = s[k + 5] :: s[k + 6] :: s.data.toList.drop (k + 7) := by rw [hx5]; congr 1
              have hFF : F = ((if (Q.digs true 4 0 0 (s.data.toList.drop (k + 7))).2.2 = false then (0, 6 + (Q.digs true 4 0 0 (s.data.toList.drop (k + 7))).2.1, false) else (65536 + 1024 * (v - 55296) + ((Q.digs true 4 0 0 (s.data.toList.drop (k + 7))).1 - 56320), 10, true) : Nat × Nat × Bool).1, 1 + (if (Q.digs true 4 0 0 (s.data.toList.drop (k + 7))).2.2 = false then (0, 6 + (Q.digs true 4 0 0 (s.data.toList.drop (k + 7))).2.1, false) else (65536 + 1024 * (v - 55296) + ((Q.digs true 4 0 0 (s.data.toList.drop (k + 7))).1 - 56320), 10, true) : Nat × Nat × Bool).2.1, (if (Q.digs true 4 0 0 (s.data.toList.drop (k + 7))).2.2 = false then (0, 6 + (Q.digs true 4 0 0 (s.data.toList.drop (k + 7))).2.1, false) else (65536 + 1024 * (v - 55296) + ((Q.digs true 4 0 0 (s.data.toList.drop (k + 7))).1 - 56320), 10, true) : Nat × Nat × Bool).2.2) := by
                rw [EF.out, numF_p3 _ hok hc s[k + 5] s[k + 6] _ (by rw [hd4]; exact hx5') he92 he117, hv]
              have C5 : Hid (∀ (a : Int) (w1 : World), a = ((k + 7 : Nat) : Int) → Calls Tryz.prog 125 #[.string s, .int .i64 a, .bool true] w1 fun e w' => e = .returned (.tuple #[.int .i64 ((Q.digs true 4 0 0 (s.data.toList.drop (k + 7))).1 : Int), .int .i64 ((k + 7 + (Q.digs true 4 0 0 (s.data.toList.drop (k + 7))).2.1 : Nat) : Int), .bool (Q.digs true 4 0 0 (s.data.toList.drop (k + 7))).2.2]) ∧ w' = w1) :=
                fun a w1 ha => four_any s a (k + 7) ha true (by omega) hs w1
              have htl := Q.digs_le true 4 0 0 (s.data.toList.drop (k + 7))
              have hrt := Q.digs_range true (s.data.toList.drop (k + 7))
              have q3 : ((k + 5 : Nat) : Int) + 1 < s.size := by omega
              have q3' : (k : Int) + 5 + 1 < s.size := by omega
              have q3'' : (k : Int) + 6 < s.size := by omega
              have q4 : ((s[k + 6].toNat : Int) != 117) = false := by rw [bne_eq_false_iff_eq]; omega
              have q4' : ((s[k + 5 + 1].toNat : Int) != 117) = false := q4
              generalize Q.digs true 4 0 0 (s.data.toList.drop (k + 7)) = E at *
              obtain ⟨u, m2, o2⟩ := E
              simp only at *
              have hm2 := htl.2.1
              cases o2
              · obtain rfl : F = (0, 7 + m2, false) := by rw [hFF, if_pos rfl]; simp; omega
                obtain ⟨U, hU⟩ : ∃ U : Int, U = (u : Int) := ⟨_, rfl⟩
                rw [← hU] at C5
                have hU0 : 0 ≤ U := by omega
                have HU1 : Hid (0 ≤ U) := hU0
                clear EF hok hlen2 hc hrg hdl hn4 hV C4 hd4 hv hc' h92 h117 hx5 hx6 hx5' he92 he117 hFF htl hrt hU
                go_wp2_with fail
                refine (C4'.out _).mono ?_
                rintro e w1 ⟨rfl, rfl⟩
                go_wp2_with fail
                refine (C5.out _ _ (by omega)).mono ?_
                rintro e w1 ⟨rfl, rfl⟩
                go_wp2
                go_ret3
                exact ⟨⟨_, ret_iib rfl (by simp only; omega) rfl, fun h => by cases h⟩, n, rfl⟩
              · have hr := (hrt rfl).2.1 trivial
                have hm4 := htl.2.2.2 rfl
                obtain rfl : F = (65536 + 1024 * (v - 55296) + (u - 56320), 11, true) := by rw [hFF, if_neg (by simp)]; rfl
                obtain ⟨U, hU⟩ : ∃ U : Int, U = (u : Int) := ⟨_, rfl⟩
                rw [← hU] at C5
                have u1 : (56320 : Int) ≤ U := by omega
                have u2 : U ≤ 57343 := by omega
                have HRES : Hid (65536 + 1024 * (V - 55296) + U - 56320 = ((65536 + 1024 * (v - 55296) + (u - 56320) : Nat) : Int)) := by show _ = _; omega
                have HM : Hid (m2 = 4) := by show m2 = 4; omega
                clear EF hok hlen2 hc hrg hdl hn4 hV C4 hd4 hv hc' h92 h117 hx5 hx6 hx5' he92 he117 hFF htl hrt hU hr hm4 hm2
                go_wp2_with fail
                refine (C4'.out _).mono ?_
                rintro e w1 ⟨rfl, rfl⟩
                go_wp2_with fail
                refine (C5.out _ _ (by omega)).mono ?_
                rintro e w1 ⟨rfl, rfl⟩
                go_wp2
                go_ret3
                exact ⟨⟨_, ret_iib rfl (by have := HM.out; simp only; omega) rfl, fun _ => HRES.out⟩, n, rfl⟩
        · obtain rfl : F = ((Q.digs false 4 0 0 (s.data.toList.drop (k + 1))).1, 5, true) := by rw [EF.out, numF_plain _ hok hc]; rfl
          generalize Q.digs false 4 0 0 (s.data.toList.drop (k + 1)) = D at *
          obtain ⟨v, m, o⟩ := D
          simp only at *
          have hcase : (v : Int) < 55296 ∨ (¬ (v : Int) < 55296 ∧ (56319 : Int) < (v : Int)) := by omega
          obtain ⟨V, hV⟩ : ∃ V : Int, V = (v : Int) := ⟨_, rfl⟩
          rw [← hV] at C4 hcase
          have HV : Hid (V = (v : Int)) := hV
          clear EF hok hlen2 hc hrg hdl hn4 hV
          rcases hcase with h1 | ⟨h1, h2⟩
          · go_wp2_with (go_at_call 125; refine (C4.out _).mono ?_; rintro e w1 ⟨rfl, rfl⟩)
            go_ret3
            exact ⟨⟨_, ret_iib rfl (by simp only; omega) rfl, fun _ => HV.out⟩, n, rfl⟩
          · go_wp2_with (go_at_call 125; refine (C4.out _).mono ?_; rintro e w1 ⟨rfl, rfl⟩)
            go_ret3
            exact ⟨⟨_, ret_iib rfl (by simp only; omega) rfl, fun _ => HV.out⟩, n, rfl⟩
end Go.Proofs.YtolekldjbbjmjaaGreatDoor
