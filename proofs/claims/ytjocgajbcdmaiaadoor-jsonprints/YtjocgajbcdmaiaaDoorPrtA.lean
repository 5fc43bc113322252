/- json.Print. -/
import Derived.Test.YtjocgajbcdmaiaaDoorJpsG
import Derived.Test.YtjocgajbcdmaiaaDoorPrvA
set_option linter.unusedSimpArgs false
set_option linter.unusedVariables false
namespace Go.Proofs.YtjocgajbcdmaiaaDoor
open Go.RowKit Go.Lib

/-- what Print answers: the error's number, and the bytes -/
def prF (v : V) (depth : Int) : Nat × List UInt8 := if chkE v depth ≠ 0 then (chkE v depth, []) else if 1048576 < (txtV v).length then (30, []) else (0, txtV v)
def PrPost (v : V) (depth : Int) (w : World) (e : Ending) (w' : World) : Prop := ∃ bv B, e = .returned (.tuple #[bv, .int .i64 ((prF v depth).1 : Int)]) ∧ Own B bv (prF v depth).2 w' ∧ w.heap.size ≤ B ∧ Below w.heap.size w w'
theorem own_none (B : Nat) (w : World) : Own B (.slice none 0 0) [] w := World.ownsRow_nil w B 5 1
theorem own_slice {B : Nat} {bv : Value} {l : List UInt8} {w : World} (h : Own B bv l w) : ∃ a c, bv = .slice a l.length c := by
  rcases h.2 with ⟨rfl, e⟩ | ⟨g, cap, cur, rfl, _⟩
  · rw [e]; exact ⟨_, _, rfl⟩
  · exact ⟨_, _, rfl⟩

set_option maxHeartbeats 1000000 in
set_option maxRecDepth 100000 in
theorem print_any (v : V) (depth : Int) (S : Nat → Prop) (cs : List Value) (w : World) (td : Td w) (hv : v.lies false w S cs) (hS : ∀ b, S b → b < w.heap.size) (hwt : v.wt ≤ 2147483648) :
    Calls Tryd.prog 6 #[.agg cs.toArray, .int .i64 depth] w (PrPost v depth w) := by
  obtain ⟨k, b, i, s, al, nl, cl, am, nm, cm, rfl⟩ := V.ten hv
  have hb0 := box_row w [.int .i64 k, .bool b, .int .i64 i, .string s, .slice al nl cl, .slice am nm cm] 25
  have hz0 := alloc_size w (.cells #[.int .i64 k, .bool b, .int .i64 i, .string s, .slice al nl cl, .slice am nm cm] 25)
  have B0 : Below w.heap.size w (w.alloc (.cells #[.int .i64 k, .bool b, .int .i64 i, .string s, .slice al nl cl, .slice am nm cm] 25)) := (Below.refl _ _).alloc (Nat.le_refl _) _
  have HV : Hid (∀ W, Below w.heap.size w W → v.lies false W S [.int .i64 k, .bool b, .int .i64 i, .string s, .slice al nl cl, .slice am nm cm] ∧ (∀ b, S b → b < W.heap.size) ∧ Td W) := fun W hb => ⟨V.lies_keep (fun h => h) (fun x hx => hb.block x (hS x hx)) (fun _ h => h) _ hv, fun x hx => Nat.lt_of_lt_of_le (hS x hx) hb.size, td.below hb td.z hb.size⟩
  have HP : Hid (chkE v depth = 0 → prV v ∧ v.wt ≤ 1114112 ∧ (txtV v).length + 5 ≤ 40 * v.wt) := fun h => by
    obtain ⟨h1, h2⟩ := chkE_pr h hv
    exact ⟨h1, h2, txtV_len v h1⟩
  have HF : Hid (prF v depth = if chkE v depth ≠ 0 then (chkE v depth, []) else if 1048576 < (txtV v).length then (30, []) else (0, txtV v)) := rfl
  have hz3 := td.z
  clear hv td hS
  go_enter Tryd.func6, Tryd.ntmps6
  go_wp2_with fail
  generalize (w.alloc (.cells #[.int .i64 k, .bool b, .int .i64 i, .string s, .slice al nl cl, .slice am nm cm] 25)) = w0 at *
  refine (check_any false v depth S _ w0 ⟨(HV.out w0 B0).2.2.u, by omega⟩ (HV.out w0 B0).1 (HV.out w0 B0).2.1 (by omega)).mono ?_
  rintro e w1 ⟨rfl, b1⟩
  have hz1 := b1.size
  have B1 := B0.trans (b1.mono (by omega))
  obtain ⟨d0, d1, d2, d3, d4, d5⟩ := row6z (hb0.keep (b1.block _ (by omega)))
  clear hb0
  obtain ⟨F, hFE⟩ : ∃ F, prF v depth = F := ⟨_, rfl⟩
  have HFE : Hid (prF v depth = F) := hFE
  rw [hFE] at HF
  clear hFE
  generalize chkE v depth = r at *
  by_cases hr : r = 0
  · subst hr
    obtain ⟨hp, hw, htl⟩ := HP.out rfl
    have HA : Hid (AppV v) := appval_any v
    have CA := hmk (HA.out false S _ w1.heap.size (.slice none 0 0) [] w1 (HV.out w1 B1).1 (HV.out w1 B1).2.1 (HV.out w1 B1).2.2 (by omega) (Nat.le_refl _) (own_none _ _) hp hw (by simp only [List.length_nil]; omega))
    rw [List.nil_append] at CA
    have HF2 : Hid (F = if 1048576 < (txtV v).length then (30, []) else (0, txtV v)) := hmk (by rw [HF.out, if_neg (by simp)])
    clear HF HP HA
    generalize txtV v = T at *
    go_wp2_with fail
    refine CA.out.mono ?_
    rintro e w2 ⟨bv, rfl, o2, b2⟩
    have hz2 := b2.size
    have B2 := B1.trans (b2.mono (by omega))
    obtain ⟨a, c, rfl⟩ := own_slice o2
    clear d0 d1 d2 d3 d4 d5 CA
    by_cases hT : 1048576 < T.length
    · have y1 : (T.length : Int) > 1048576 := by omega
      have y2 : (1048576 : Int) < T.length := by omega
      have e : F = (30, []) := HF2.out.trans (if_pos hT)
      subst e
      clear HF2 hT
      go_wp2_with fail
      go_ret2
      exact ⟨_, w2.heap.size, by rw [HFE.out]; rfl, by rw [HFE.out]; exact own_none _ _, by omega, B2⟩
    · have y1 : ¬ (T.length : Int) > 1048576 := by omega
      have y2 : ¬ (1048576 : Int) < T.length := by omega
      have e : F = (0, T) := HF2.out.trans (if_neg hT)
      subst e
      clear HF2 hT
      go_wp2_with fail
      go_ret2
      exact ⟨_, w1.heap.size, by rw [HFE.out]; rfl, by rw [HFE.out]; exact o2, by omega, B2⟩
  · have y1 : ((r : Int) != 0) = true := by simp [hr]
    have y2 : ¬ (r : Int) = 0 := by omega
    have e : F = (r, []) := HF.out.trans (if_pos hr)
    subst e
    clear HF HP hr
    go_wp2_with fail
    go_ret2
    exact ⟨_, w1.heap.size, by rw [HFE.out]; rfl, by rw [HFE.out]; exact own_none _ _, by omega, B1⟩
end Go.Proofs.YtjocgajbcdmaiaaDoor
