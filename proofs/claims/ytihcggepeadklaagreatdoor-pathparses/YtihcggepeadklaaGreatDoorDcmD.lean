import Derived.Test.YtihcggepeadklaaGreatDoorG34
/- The document's reader: word. -/
set_option linter.unusedSimpArgs false
set_option linter.unusedVariables false
namespace Go.Proofs.YtihcggepeadklaaGreatDoor
open Go.RowKit Go.Lib
def AtP (m k j : Nat) : Prop := m = k + j
def WdP (g : Nat) (s : ByteArray) (k nd n : Nat) (b : Bool) (w : World) (e : Ending) (w' : World) : Prop :=
  e = .returned (.tuple #[]) ∧ w.grownBy w' (some g) ∧ ((b = true ∧ ∃ bad, RB g s (k + n) nd 0 bad w') ∨ (b = false ∧ ∃ k' er bad, k' ≤ s.size ∧ er ≠ 0 ∧ RB g s k' nd er bad w'))
theorem hp_end {l : List UInt8} {k : Nat} {c : UInt8} {p : List UInt8} (h : l.length ≤ k) : hasPrefix (l.drop k) (c :: p) = false := by
  rw [List.drop_eq_nil_of_le h]; rfl
theorem hp_cons {c d : UInt8} {t p : List UInt8} (h : c = d) : hasPrefix (c :: t) (d :: p) = hasPrefix t p := by
  unfold hasPrefix; simp [List.isPrefixOf, h]
theorem hp_ne {c d : UInt8} {t p : List UInt8} (h : c ≠ d) : hasPrefix (c :: t) (d :: p) = false := by
  unfold hasPrefix; simp [List.isPrefixOf, Ne.symm h]
set_option maxHeartbeats 4000000 in
set_option maxRecDepth 100000 in
theorem dword_any (g : Nat) (s p : ByteArray) (k nd : Nat) (bad : Int) (w : World) (h : RB g s k nd 0 bad w) (hk : k ≤ s.size) (hs : s.size ≤ 2147483647) (hp : p.size ≤ 100) :
    Calls Tryz.prog 142 #[.pointer (some ⟨g, 0, none⟩), .string p] w (WdP g s k nd p.size (tkB s.data.toList k p.data.toList) w) := by
  have HH := hmk h
  have hls : s.data.toList.length = s.size := by simp
  have HLS := hmk hls
  obtain ⟨T, hT⟩ : ∃ T : Bool, Hid (tkB s.data.toList k p.data.toList = T) := ⟨_, rfl⟩
  rw [hT.out]
  clear h hls
  go_enter Tryz.func142, Tryz.ntmps142
  go_wp2_with fail
  go_loopw [4] (fun i wr => ∃ j m : Nat, j ≤ p.size ∧ m ≤ s.size ∧ AtP m k j ∧ i = .int .i64 (j : Int) ∧ RB g s m nd 0 bad wr ∧ w.grownBy wr (some g) ∧ Hid (hasPrefix (s.data.toList.drop m) (p.data.toList.drop j) = T)) (fun i _ => p.size - (RowKit.intOf i).toNat)
  case atStart => exact ⟨0, k, Nat.zero_le _, hk, (rfl : k = k + 0), rfl, HH.out, World.grownBy.refl _ _, hT.out⟩
  case round =>
    clear HH hT
    obtain ⟨j, m, hj, hkj, HM, rfl, hr, gr, HT⟩ := hrel
    have c0 := hr.c0
    have c1 := hr.c1
    have HR := hmk hr
    have HG := hmk gr
    clear hr gr
    by_cases hjp : j < p.size
    · have y1 : (j : Int) < p.size := by omega
      have ep := hmk (drop_consN p j hjp)
      by_cases hend : m = s.size
      · subst hend
        have HF : Hid (T = false) := by
          show T = false
          have := HT.out
          rw [ep.out, hp_end (by rw [HLS.out]; omega)] at this
          exact this.symm
        clear HT ep
        go_wp2_with fail
        go_quiet (fail)
        have c1 : (wr.drewN nq).cell? ⟨g, 1, none⟩ = some (.int .i64 (s.size : Int)) := (HR.out.drewN nq).c1
        have CF := hmk (dfail_any g s s.size nd bad (s.size : Int) 31 _ (HR.out.drewN nq))
        have HG2 := hmk (grown_drewN HG.out nq)
        generalize wr.drewN nq = w2 at *
        go_wp2_with fail
        refine CF.out.mono ?_
        rintro e w3 ⟨rfl, h3, g3⟩
        have HR3 := hmk h3
        have HG3 := hmk (grown_trans HG2.out g3)
        clear h3 g3
        go_wp2_with fail
        go_end0
        exact ⟨rfl, HG3.out, .inr ⟨HF.out, _, 31, _, Nat.le_refl _, by omega, HR3.out⟩⟩
      · have y2 : ((m : Int) == (s.size : Int)) = false := by rw [beq_eq_false_iff_ne]; omega
        have hlt : m < s.size := by omega
        have y3 : (m : Int) < s.size := by omega
        have es := hmk (drop_consN s (m) hlt)
        by_cases hc : s[m]'hlt = p[j]'hjp
        · have y4 : (((s[m]'hlt).toNat : Int) != ((p[j]'hjp).toNat : Int)) = false := by rw [bne_eq_false_iff_eq, hc]
          have HF : Hid (hasPrefix (s.data.toList.drop (m + 1)) (p.data.toList.drop (j + 1)) = T) := by
            show _ = T
            have := HT.out
            rw [ep.out, es.out, hp_cons hc] at this
            exact this
          clear HT ep es hc
          go_wp2_with fail
          go_quiet (fail)
          have c0 : (wr.drewN nq).cell? ⟨g, 0, none⟩ = some (.string s) := (HR.out.drewN nq).c0
          have c1 : (wr.drewN nq).cell? ⟨g, 1, none⟩ = some (.int .i64 (m : Int)) := (HR.out.drewN nq).c1
          have HR2 := hmk (HR.out.drewN nq)
          have HG2 := hmk (grown_drewN HG.out nq)
          generalize wr.drewN nq = w2 at *
          clear HR HG
          go_wp2_with fail
          go_quiet (fail)
          have c0 : (w2.drewN nq).cell? ⟨g, 0, none⟩ = some (.string s) := (HR2.out.drewN nq).c0
          have c1 : (w2.drewN nq).cell? ⟨g, 1, none⟩ = some (.int .i64 (m : Int)) := (HR2.out.drewN nq).c1
          have f1 := (HR2.out.drewN nq).fz 1
          have HR3 := hmk (HR2.out.drewN nq)
          have HG3 := hmk (grown_drewN HG2.out nq)
          generalize w2.drewN nq = w3 at *
          clear HR2 HG2
          go_wp2_with fail
          go_roundw
          case rel => exact ⟨j + 1, m + 1, by omega, by omega, (by have : m = k + j := HM; show m + 1 = k + (j + 1); omega), by go_num, HR3.out.put1 (m + 1) _ (by omega), grown_set HG3.out _ _, HF⟩
          case measure => simp [RowKit.intOf]; omega
        · have y4 : (((s[m]'hlt).toNat : Int) != ((p[j]'hjp).toNat : Int)) = true := by rw [bne_iff_ne]; exact fun h => hc (UInt8.toNat_inj.1 (by omega))
          have HF : Hid (T = false) := by
            show T = false
            have := HT.out
            rw [ep.out, es.out, hp_ne hc] at this
            exact this.symm
          clear HT ep es hc
          go_wp2_with fail
          go_quiet (fail)
          have c0 : (wr.drewN nq).cell? ⟨g, 0, none⟩ = some (.string s) := (HR.out.drewN nq).c0
          have c1 : (wr.drewN nq).cell? ⟨g, 1, none⟩ = some (.int .i64 (m : Int)) := (HR.out.drewN nq).c1
          have HR2 := hmk (HR.out.drewN nq)
          have HG2 := hmk (grown_drewN HG.out nq)
          generalize wr.drewN nq = w2 at *
          clear HR HG
          go_wp2_with fail
          go_quiet (fail)
          have c1 : (w2.drewN nq).cell? ⟨g, 1, none⟩ = some (.int .i64 (m : Int)) := (HR2.out.drewN nq).c1
          have CF := hmk (dfail_any g s (m) nd bad (m : Int) 32 _ (HR2.out.drewN nq))
          have HG3 := hmk (grown_drewN HG2.out nq)
          generalize w2.drewN nq = w3 at *
          clear HR2 HG2
          go_wp2_with fail
          refine CF.out.mono ?_
          rintro e w4 ⟨rfl, h4, g4⟩
          have HR4 := hmk h4
          have HG4 := hmk (grown_trans HG3.out g4)
          clear h4 g4
          go_wp2_with fail
          go_end0
          exact ⟨rfl, HG4.out, .inr ⟨HF.out, _, 32, _, hkj, by omega, HR4.out⟩⟩
    · have y1 : ¬ (j : Int) < p.size := by omega
      obtain rfl : j = p.size := by omega
      have HF : Hid (T = true) := by
        show T = true
        have := HT.out
        rw [drop_endN p p.size (Nat.lt_irrefl _)] at this
        rw [← this]
        unfold hasPrefix; simp
      clear HT
      go_wp2_with fail
      go_end0
      exact ⟨rfl, HG.out, .inl ⟨HF.out, _, by have e : m = k + p.size := HM; rw [← e]; exact HR.out⟩⟩
end Go.Proofs.YtihcggepeadklaaGreatDoor
