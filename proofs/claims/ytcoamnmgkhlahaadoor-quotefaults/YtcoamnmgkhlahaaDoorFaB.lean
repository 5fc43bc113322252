/- The law QuoteFaults, out of the contracts: error 11. -/
import Derived.Test.YtcoamnmgkhlahaaDoorFaA
set_option linter.unusedSimpArgs false
set_option linter.unusedVariables false
namespace Go.Proofs.YtcoamnmgkhlahaaDoor
open Go.RowKit Go.Lib

set_option maxHeartbeats 4000000 in
set_option maxRecDepth 100000 in
theorem f11l (text behind : ByteArray) (z : Int) (w : World) (t0 : Tb w) (hz1 : -9223372036854775808 ≤ z) (hz2 : z ≤ 9223372036854775807) (ht : text.size ≤ 140737488351232) (hb : behind.size ≤ 140737488351232)
    (r : List UInt8) (p : Nat) (hR : Q.unqAll text.data.toList z = (r, p, 11)) (hp : p < text.size) :
    Calls Tryd.prog 5 #[.string text, .int .i64 z, .string behind] w fun e w' => e = .returned (.bool true) ∧ Below w.heap.size w w' := by
  have hF := Q.unqAll_fault text.data.toList z (by rw [hR]; simp)
  have herr := Q.unqAll_err text.data.toList z (by rw [hR]; simp)
  rw [hR] at hF herr
  obtain rfl : r = [] := herr
  obtain ⟨f1, f2, f3, f4, f5, f6⟩ := hF
  have f2' : z ≤ (p : Int) := f2
  have hlt : text.data.toList.length = text.size := by simp
  have f3' : p ≤ text.size := by rw [← hlt]; exact f3
  have f4' : p < text.data.toList.length → ∀ u, Q.unqAll (text.data.toList.take (p + 1) ++ u) z = ([], p, 11) := f4
  have f6' : ((p : Nat) : Int) ≠ z → ∃ y ∈ Q.allEnds, (Q.unqAll (text.data.toList.take p ++ (y ++ [34])) z).2.2 = 0 := f6
  have f5' : ((p : Nat) : Int) = z → 11 = 10 := f5
  rw [hlt] at f4'
  clear f2 f3 f4 f5 f6
  have c15 : Hid (Gives 15 #[] (.bool true)) := gives_awake
  have c13 : Hid (Gives 13 #[.string text, .int .i64 z] (.tuple #[.string ⟨#[]⟩, .int .i64 (p : Int), .int .i64 11])) := gives_unquote text z hz1 hz2 (by omega) [] p 11 hR
  have y1 : ¬ (p : Int) < z := by omega
  have y2 : ¬ (text.size : Int) < (p : Int) := by omega
  have y2' : (p : Int) ≤ text.size := by omega
  clear hR hlt
  have b0 := Below.refl w.heap.size w
  have y3 : (p : Int) < text.size := by omega
  have hsl := slice_to text (p + 1) (by omega)
  have e1 : ((p + 1 : Nat) : Int) = (p : Int) + 1 := by omega
  rw [e1] at hsl
  have hX := ext_list text (p + 1)
  have hu := f4' hp behind.data.toList
  rw [← hX, ← bapp] at hu
  have hXs : (text.extract 0 (p + 1)).size ≤ 140737488351232 := by rw [size_eq, hX, List.length_take]; omega
  generalize text.extract 0 (p + 1) = X at *
  have c13x : Hid (Gives 13 #[.string (X ++ behind), .int .i64 z] (.tuple #[.string ⟨#[]⟩, .int .i64 (p : Int), .int .i64 11])) := gives_unquote_long (X ++ behind) z hz1 hz2 (by rw [ByteArray.size_append]; omega) [] p 11 hu ⟨fun h => by simp at h, fun _ => by show p ≤ _; omega⟩
  have s1 : ¬ 9223372036854775807 < X.size + behind.size := by omega
  clear hX hu f4'
  go_enter Tryd.func5, Tryd.ntmps5
  go_wp2_with fail
  refine (c15.out w _ b0 t0).mono ?_
  rintro e w1 ⟨rfl, b1, t1⟩
  go_wp2_with fail
  refine (c13.out w _ b1 t1).mono ?_
  rintro e w2 ⟨rfl, b2, t2⟩
  go_wp2_with fail
  refine (c13x.out w _ b2 t2).mono ?_
  rintro e w3 ⟨rfl, b3, t3⟩
  by_cases hpz : (p : Int) = z
  · exact absurd (f5' hpz) (by decide)
  · obtain ⟨y, hy1, hy2⟩ := f6' hpz
    obtain ⟨K, hK, hKe⟩ := Q.ends_at y hy1
    have hKu : (Q.unqAll (text.data.toList.take p ++ (Q.endS K).data.toList) z).2.2 = 0 := by rw [hKe]; exact hy2
    clear hy1 hy2 hKe f5' f6'
    have y5 : ((p : Int) == z) = false := by rw [beq_eq_false_iff_ne]; exact hpz
    have hsl2 := slice_to text p f3'
    have hX2 := ext_list text p
    have hXs2 : (text.extract 0 p).size ≤ 140737488351232 := by rw [size_eq, hX2, List.length_take]; omega
    rw [← hX2] at hKu
    generalize text.extract 0 p = Y at *
    clear hX2 hpz
    have ba : Below w.heap.size w (w3.alloc (.cells Q.cellsE 9)) := b3.alloc b3.size _
    have ta : Tb (w3.alloc (.cells Q.cellsE 9)) := t3.below ((Below.refl _ w3).alloc (Nat.le_refl _) _)
    have hca : ∀ k, k < 22 → (w3.alloc (.cells Q.cellsE 9)).cell? ⟨w3.heap.size, k, none⟩ = some (.string (Q.endS k)) := fun k hk => by
      rw [World.cell?_alloc_at _ _ _ _ rfl]; exact Q.cellsE_at k hk
    have hsa : w3.heap.size < (w3.alloc (.cells Q.cellsE 9)).heap.size := World.block_lt_of_cell? _ ⟨w3.heap.size, 0, none⟩ (hca 0 (by omega))
    unfold Q.cellsE at ba ta hca hsa
    go_wp2_with fail
    generalize (w3.alloc (.cells #[Value.string ⟨#[34]⟩, Value.string ⟨#[110, 34]⟩, Value.string ⟨#[48, 48, 48, 48, 34]⟩, Value.string ⟨#[92, 117, 100, 99, 48, 48, 34]⟩, Value.string ⟨#[117, 100, 99, 48, 48, 34]⟩, Value.string ⟨#[48, 48, 48, 34]⟩, Value.string ⟨#[48, 48, 34]⟩, Value.string ⟨#[48, 34]⟩, Value.string ⟨#[100, 99, 48, 48, 34]⟩, Value.string ⟨#[99, 48, 48, 34]⟩, Value.string ⟨#[128, 34]⟩, Value.string ⟨#[128, 128, 34]⟩, Value.string ⟨#[128, 128, 128, 34]⟩, Value.string ⟨#[160, 128, 34]⟩, Value.string ⟨#[144, 128, 128, 34]⟩, Value.string ⟨#[48, 92, 117, 100, 99, 48, 48, 34]⟩, Value.string ⟨#[48, 48, 92, 117, 100, 99, 48, 48, 34]⟩, Value.string ⟨#[56, 48, 48, 92, 117, 100, 99, 48, 48, 34]⟩, Value.string ⟨#[56, 48, 48, 34]⟩, Value.string ⟨#[160, 34]⟩, Value.string ⟨#[144, 128, 34]⟩, Value.string ⟨#[143, 128, 128, 34]⟩] 9)) = wa at *
    have hbs := ba.size
    go_loopw [14] (fun i wr => ∃ k : Nat, k ≤ K ∧ i = .int .i64 k ∧ Below wa.heap.size wa wr ∧ Tb wr) (fun i _ => 22 - (RowKit.intOf i).toNat)
    case atStart => exact ⟨0, Nat.zero_le _, rfl, Below.refl _ _, ta⟩
    case round =>
      obtain ⟨k, hk, rfl, bk, tk⟩ := hrel
      have hk22 : (k : Int) < 22 := by omega
      have hck : wr.cell? ⟨w3.heap.size, k, none⟩ = some (.string (Q.endS k)) := (bk.cell (p := ⟨w3.heap.size, k, none⟩) hsa).trans (hca k (by omega))
      have hEs := Q.endS_size ⟨k, by omega⟩
      have hkK : k = K → (Q.unqAll (Y.data.toList ++ (Q.endS k).data.toList) z).2.2 = 0 := fun e => by rw [e]; exact hKu
      simp only at hEs
      clear hca hKu
      generalize Q.endS k = E at *
      rw [← bapp] at hkK
      obtain ⟨lk, pk, ek, hr⟩ : ∃ lk pk ek, Q.unqAll (Y ++ E).data.toList z = (lk, pk, ek) := ⟨_, _, _, rfl⟩
      rw [hr] at hkK
      have hkK' : k = K → ek = 0 := hkK
      have ck : Hid (Gives 13 #[.string (Y ++ E), .int .i64 z] (.tuple #[.string ⟨lk.toArray⟩, .int .i64 (pk : Int), .int .i64 (ek : Int)])) := gives_unquote (Y ++ E) z hz1 hz2 (by rw [ByteArray.size_append]; omega) lk pk ek hr
      have s2 : ¬ 9223372036854775807 < Y.size + E.size := by omega
      clear hr hkK hEs
      by_cases he : ek = 0
      · subst he
        have q0 : (((0 : Nat) : Int) == 0) = true := rfl
        go_wp2_with fail
        go_region_with (go_at_call 13; refine (ck.out wa _ ?_ ?_).mono ?_; exact bk.drew; exact tk.below ((Below.refl _ wr).drew); rintro e w5 ⟨rfl, b5, t5⟩)
        all_goals
          go_wp2
          go_ret
          exact ⟨rfl, ba.trans (b5.mono hbs)⟩
      · have q0 : ((ek : Int) == 0) = false := by rw [beq_eq_false_iff_ne]; omega
        have hlt2 : k < K := by
          rcases Nat.lt_or_ge k K with h | h
          · exact h
          · exact absurd (hkK' (by omega)) he
        clear he hkK'
        go_wp2_with fail
        go_region_with (go_at_call 13; refine (ck.out wa _ ?_ ?_).mono ?_; exact bk.drew; exact tk.below ((Below.refl _ wr).drew); rintro e w5 ⟨rfl, b5, t5⟩)
        all_goals
          go_wp2
          go_roundw
          case rel => exact ⟨k + 1, by omega, by go_num, b5, t5⟩
          case measure => simp [RowKit.intOf]; omega

set_option maxHeartbeats 4000000 in
set_option maxRecDepth 100000 in
theorem f11e (text behind : ByteArray) (z : Int) (w : World) (t0 : Tb w) (hz1 : -9223372036854775808 ≤ z) (hz2 : z ≤ 9223372036854775807) (ht : text.size ≤ 140737488351232) (hb : behind.size ≤ 140737488351232)
    (r : List UInt8) (p : Nat) (hR : Q.unqAll text.data.toList z = (r, p, 11)) (hp : p = text.size) :
    Calls Tryd.prog 5 #[.string text, .int .i64 z, .string behind] w fun e w' => e = .returned (.bool true) ∧ Below w.heap.size w w' := by
  have hF := Q.unqAll_fault text.data.toList z (by rw [hR]; simp)
  have herr := Q.unqAll_err text.data.toList z (by rw [hR]; simp)
  rw [hR] at hF herr
  obtain rfl : r = [] := herr
  obtain ⟨f1, f2, f3, f4, f5, f6⟩ := hF
  have f2' : z ≤ (p : Int) := f2
  have hlt : text.data.toList.length = text.size := by simp
  have f3' : p ≤ text.size := by rw [← hlt]; exact f3
  have f4' : p < text.data.toList.length → ∀ u, Q.unqAll (text.data.toList.take (p + 1) ++ u) z = ([], p, 11) := f4
  have f6' : ((p : Nat) : Int) ≠ z → ∃ y ∈ Q.allEnds, (Q.unqAll (text.data.toList.take p ++ (y ++ [34])) z).2.2 = 0 := f6
  have f5' : ((p : Nat) : Int) = z → 11 = 10 := f5
  rw [hlt] at f4'
  clear f2 f3 f4 f5 f6
  have c15 : Hid (Gives 15 #[] (.bool true)) := gives_awake
  have c13 : Hid (Gives 13 #[.string text, .int .i64 z] (.tuple #[.string ⟨#[]⟩, .int .i64 (p : Int), .int .i64 11])) := gives_unquote text z hz1 hz2 (by omega) [] p 11 hR
  have y1 : ¬ (p : Int) < z := by omega
  have y2 : ¬ (text.size : Int) < (p : Int) := by omega
  have y2' : (p : Int) ≤ text.size := by omega
  clear hR hlt
  have b0 := Below.refl w.heap.size w
  have y3 : ¬ (p : Int) < text.size := by omega
  have y3d : decide (p < text.size) = false := by simp; omega
  have y2d : decide (text.size < p) = false := by simp; omega
  have y3e : decide ((p : Int) < (text.size : Int)) = false := by simp; omega
  have y2e : decide ((text.size : Int) < (p : Int)) = false := by simp; omega
  clear hp
  go_enter Tryd.func5, Tryd.ntmps5
  go_wp2_with fail
  refine (c15.out w _ b0 t0).mono ?_
  rintro e w1 ⟨rfl, b1, t1⟩
  go_wp2_with fail
  refine (c13.out w _ b1 t1).mono ?_
  rintro e w2 ⟨rfl, b2, t2⟩
  by_cases hpz : (p : Int) = z
  · exact absurd (f5' hpz) (by decide)
  · obtain ⟨y, hy1, hy2⟩ := f6' hpz
    obtain ⟨K, hK, hKe⟩ := Q.ends_at y hy1
    have hKu : (Q.unqAll (text.data.toList.take p ++ (Q.endS K).data.toList) z).2.2 = 0 := by rw [hKe]; exact hy2
    clear hy1 hy2 hKe f5' f6'
    have y5 : ((p : Int) == z) = false := by rw [beq_eq_false_iff_ne]; exact hpz
    have hsl2 := slice_to text p f3'
    have hX2 := ext_list text p
    have hXs2 : (text.extract 0 p).size ≤ 140737488351232 := by rw [size_eq, hX2, List.length_take]; omega
    rw [← hX2] at hKu
    generalize text.extract 0 p = Y at *
    clear hX2 hpz
    have ba : Below w.heap.size w (w2.alloc (.cells Q.cellsE 9)) := b2.alloc b2.size _
    have ta : Tb (w2.alloc (.cells Q.cellsE 9)) := t2.below ((Below.refl _ w2).alloc (Nat.le_refl _) _)
    have hca : ∀ k, k < 22 → (w2.alloc (.cells Q.cellsE 9)).cell? ⟨w2.heap.size, k, none⟩ = some (.string (Q.endS k)) := fun k hk => by
      rw [World.cell?_alloc_at _ _ _ _ rfl]; exact Q.cellsE_at k hk
    have hsa : w2.heap.size < (w2.alloc (.cells Q.cellsE 9)).heap.size := World.block_lt_of_cell? _ ⟨w2.heap.size, 0, none⟩ (hca 0 (by omega))
    unfold Q.cellsE at ba ta hca hsa
    go_wp2_with fail
    generalize (w2.alloc (.cells #[Value.string ⟨#[34]⟩, Value.string ⟨#[110, 34]⟩, Value.string ⟨#[48, 48, 48, 48, 34]⟩, Value.string ⟨#[92, 117, 100, 99, 48, 48, 34]⟩, Value.string ⟨#[117, 100, 99, 48, 48, 34]⟩, Value.string ⟨#[48, 48, 48, 34]⟩, Value.string ⟨#[48, 48, 34]⟩, Value.string ⟨#[48, 34]⟩, Value.string ⟨#[100, 99, 48, 48, 34]⟩, Value.string ⟨#[99, 48, 48, 34]⟩, Value.string ⟨#[128, 34]⟩, Value.string ⟨#[128, 128, 34]⟩, Value.string ⟨#[128, 128, 128, 34]⟩, Value.string ⟨#[160, 128, 34]⟩, Value.string ⟨#[144, 128, 128, 34]⟩, Value.string ⟨#[48, 92, 117, 100, 99, 48, 48, 34]⟩, Value.string ⟨#[48, 48, 92, 117, 100, 99, 48, 48, 34]⟩, Value.string ⟨#[56, 48, 48, 92, 117, 100, 99, 48, 48, 34]⟩, Value.string ⟨#[56, 48, 48, 34]⟩, Value.string ⟨#[160, 34]⟩, Value.string ⟨#[144, 128, 34]⟩, Value.string ⟨#[143, 128, 128, 34]⟩] 9)) = wa at *
    have hbs := ba.size
    go_loopw [14] (fun i wr => ∃ k : Nat, k ≤ K ∧ i = .int .i64 k ∧ Below wa.heap.size wa wr ∧ Tb wr) (fun i _ => 22 - (RowKit.intOf i).toNat)
    case atStart => exact ⟨0, Nat.zero_le _, rfl, Below.refl _ _, ta⟩
    case round =>
      obtain ⟨k, hk, rfl, bk, tk⟩ := hrel
      have hk22 : (k : Int) < 22 := by omega
      have hck : wr.cell? ⟨w2.heap.size, k, none⟩ = some (.string (Q.endS k)) := (bk.cell (p := ⟨w2.heap.size, k, none⟩) hsa).trans (hca k (by omega))
      have hEs := Q.endS_size ⟨k, by omega⟩
      have hkK : k = K → (Q.unqAll (Y.data.toList ++ (Q.endS k).data.toList) z).2.2 = 0 := fun e => by rw [e]; exact hKu
      simp only at hEs
      clear hca hKu
      generalize Q.endS k = E at *
      rw [← bapp] at hkK
      obtain ⟨lk, pk, ek, hr⟩ : ∃ lk pk ek, Q.unqAll (Y ++ E).data.toList z = (lk, pk, ek) := ⟨_, _, _, rfl⟩
      rw [hr] at hkK
      have hkK' : k = K → ek = 0 := hkK
      have ck : Hid (Gives 13 #[.string (Y ++ E), .int .i64 z] (.tuple #[.string ⟨lk.toArray⟩, .int .i64 (pk : Int), .int .i64 (ek : Int)])) := gives_unquote (Y ++ E) z hz1 hz2 (by rw [ByteArray.size_append]; omega) lk pk ek hr
      have s2 : ¬ 9223372036854775807 < Y.size + E.size := by omega
      clear hr hkK hEs
      by_cases he : ek = 0
      · subst he
        have q0 : (((0 : Nat) : Int) == 0) = true := rfl
        go_wp2_with fail
        go_region_with (go_at_call 13; refine (ck.out wa _ ?_ ?_).mono ?_; exact bk.drew; exact tk.below ((Below.refl _ wr).drew); rintro e w5 ⟨rfl, b5, t5⟩)
        all_goals
          go_wp2
          go_ret
          exact ⟨rfl, ba.trans (b5.mono hbs)⟩
      · have q0 : ((ek : Int) == 0) = false := by rw [beq_eq_false_iff_ne]; omega
        have hlt2 : k < K := by
          rcases Nat.lt_or_ge k K with h | h
          · exact h
          · exact absurd (hkK' (by omega)) he
        clear he hkK'
        go_wp2_with fail
        go_region_with (go_at_call 13; refine (ck.out wa _ ?_ ?_).mono ?_; exact bk.drew; exact tk.below ((Below.refl _ wr).drew); rintro e w5 ⟨rfl, b5, t5⟩)
        all_goals
          go_wp2
          go_roundw
          case rel => exact ⟨k + 1, by omega, by go_num, b5, t5⟩
          case measure => simp [RowKit.intOf]; omega
end Go.Proofs.YtcoamnmgkhlahaaDoor
