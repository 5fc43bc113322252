/- label. -/
import Derived.Test.YtagjbphadakifaaDoorTrmH
set_option linter.unusedSimpArgs false
set_option linter.unusedVariables false
namespace Go.Proofs.YtagjbphadakifaaDoor
open Go.RowKit Go.Lib
def vKind : V → Int
  | .mk k _ _ _ _ _ => k
def vStr : V → ByteArray
  | .mk _ _ _ s _ _ => s
def isLab (x : ByteArray) (p : Mem) : Bool := (p.1.toList == x.toList) && (vKind p.2 == 3)
def labF (m : List Mem) (x : ByteArray) : ByteArray × Bool := match m.find? (isLab x) with
  | some p => (vStr p.2, true)
  | none => (⟨#[]⟩, false)
theorem labF_yes {m : List Mem} {x : ByteArray} {j : Nat} (hj : j < m.length) (hn : ∀ k (hk : k < m.length), k < j → isLab x m[k] = false) (hy : isLab x m[j] = true) : labF m x = (vStr (m[j]).2, true) := by
  have : m.find? (isLab x) = some m[j] := by
    rw [List.find?_eq_some_iff_getElem]
    exact ⟨hy, j, hj, rfl, fun k hk => by rw [hn k (by omega) hk]; rfl⟩
  unfold labF; rw [this]
theorem labF_no {m : List Mem} {x : ByteArray} (hn : ∀ k (hk : k < m.length), isLab x m[k] = false) : labF m x = (⟨#[]⟩, false) := by
  have : m.find? (isLab x) = none := by
    rw [List.find?_eq_none]
    intro p hp
    obtain ⟨k, hk, rfl⟩ := List.mem_iff_getElem.1 hp
    rw [hn k hk]; simp
  unfold labF; rw [this]
def LfPost (m : List Mem) (x : ByteArray) (w : World) (e : Ending) (w' : World) : Prop := e = .returned (.tuple #[.string (labF m x).1, .bool (labF m x).2]) ∧ w' = w
set_option maxHeartbeats 8000000 in
set_option maxRecDepth 100000 in
theorem label_any (m : List Mem) (x : ByteArray) (R : Bool) (S : Nat → Prop) (a : Option Addr) (c b o : Nat) (w : World) (hh : Headed a m.length c b o) (hl : liesM R w S m b o) :
    Calls Tryd.prog 47 #[.slice a m.length c, .string x] w (LfPost m x w) := by
  have HH := hmk hh
  have HL := hmk hl
  have hm : m.length ≤ 9223372036854775807 := Nat.le_trans hh.le hh.max
  clear hh hl
  go_enter Tryd.func47, Tryd.ntmps47
  go_wp2_with fail
  go_loopw [6] (fun e6 wr => ∃ j : Nat, j ≤ m.length ∧ e6 = .int .i64 (j : Int) ∧ wr = w ∧ Hid (∀ k (h : k < m.length), k < j → isLab x m[k] = false)) (fun e6 _ => m.length - (RowKit.intOf e6).toNat)
  case atStart => exact ⟨0, by omega, rfl, rfl, fun k _ h => by omega⟩
  case round =>
    obtain ⟨j, hj, rfl, rfl, HN⟩ := hrel
    by_cases hjl : j < m.length
    · have y1 : (j : Int) < m.length := by omega
      obtain rfl : a = some ⟨b, o, none⟩ := HH.out.at_.resolve_left (by omega)
      obtain ⟨s1, _, cs, hrow, hv⟩ := liesM_get HL.out j hjl
      obtain ⟨⟨key, v⟩, hx⟩ : ∃ p, m[j] = p := ⟨_, rfl⟩
      rw [hx] at hrow hv
      obtain ⟨kk, vb, vi, vs, vl, vm⟩ := v
      rw [V.lies] at hv
      obtain ⟨al, cl, bl, ol, am, cm, bm, om, rfl, _⟩ := hv
      have q0 := hrow 0 _ rfl
      have q1 := hrow 1 _ rfl
      have q4 := hrow 4 _ rfl
      have q4' : wr.cell? ⟨b, o + j * 7 + 1 + 3, none⟩ = some (.string vs) := q4
      simp only [Nat.add_zero] at q0
      have HX := hmk hx
      have HN1 : Hid (isLab x (key, .mk kk vb vi vs vl vm) = false → ∀ k (h : k < m.length), k < j + 1 → isLab x m[k] = false) := fun hf k hk h => by
        by_cases e : k = j
        · subst e; rw [HX.out]; exact hf
        · exact HN.out k hk (by omega)
      have HY : Hid (isLab x (key, .mk kk vb vi vs vl vm) = true → labF m x = (vs, true)) := fun hy => by
        have := labF_yes hjl HN.out (by rw [HX.out]; exact hy)
        rw [HX.out] at this
        exact this
      clear hrow hx HN
      by_cases hk : (key.toList == x.toList) = true
      · by_cases h3 : kk = 3
        · subst h3
          have hF := hmk (HY.out (by unfold isLab vKind; simp only [hk]; rfl))
          go_wp2_with fail
          go_ret2
          refine ⟨?_, rfl⟩
          rw [hF.out]; rfl
        · have h3' : (kk == 3) = false := by rw [beq_eq_false_iff_ne]; exact h3
          have HN2 := hmk (HN1.out (by unfold isLab vKind; simp only [hk, h3']; rfl))
          clear HN1 HY
          go_wp2_with fail
          go_roundw
          case rel => exact ⟨j + 1, by omega, by go_num, (by first | trivial | rfl), HN2.out⟩
          case measure => simp [RowKit.intOf]; omega
      · have hk' : (key.toList == x.toList) = false := by simpa using hk
        have HN2 := hmk (HN1.out (by unfold isLab; simp only [hk']; rfl))
        clear HN1 HY hk
        go_wp2_with fail
        go_roundw
        case rel => exact ⟨j + 1, by omega, by go_num, (by first | trivial | rfl), HN2.out⟩
        case measure => simp [RowKit.intOf]; omega
    · obtain rfl : j = m.length := by omega
      have y1 : ¬ (m.length : Int) < m.length := by omega
      have hF := hmk (labF_no fun k hk => HN.out k hk hk)
      go_wp2_with fail
      (try simp only [Exit.inBlock, Exit.then])
      go_ret2
      refine ⟨?_, rfl⟩
      rw [hF.out]; rfl
end Go.Proofs.YtagjbphadakifaaDoor
