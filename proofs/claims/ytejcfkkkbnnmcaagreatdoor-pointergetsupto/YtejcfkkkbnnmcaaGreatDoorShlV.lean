/- utf8.ValidString, strings.Split, Cut, HasPrefix, strconv.Itoa, Atoi: their contracts at this program. -/
import Derived.Test.YtejcfkkkbnnmcaaGreatDoorShlG
import Derived.Test.YtejcfkkkbnnmcaaGreatDoorPtrP
namespace Go.Proofs.YtejcfkkkbnnmcaaGreatDoor
open Go.Lib Go.RowKit
theorem validString_any (s : ByteArray) (w : World) (hs : s.size ≤ 281474976710656) (hU : Utf8Tabs 0 1 w) :
    Calls Tryz.prog 48 #[.string s] w fun e w' => e = .returned (.bool (validD s.data.toList)) ∧ Below w.heap.size w w' :=
  Any.utf8_ValidString Tryz.lays196 s w (by omega) hU
/-- the greatest length that the machine's search is for: whatever it is, it is there -/
def MaxIs (w : World) : Prop := ∃ m : Int, w.cell? ⟨2, 0, none⟩ = some (.int .i64 m)
theorem split_any (s : ByteArray) (w : World) (hs : s.size < 4294967281) (hm : MaxIs w) :
    Calls Tryz.prog 36 #[.string s, .string ⟨#[47]⟩] w fun e w' => ∃ l : List ByteArray, l.map (·.data.toList) = spl 47 s.data.toList ∧ e = .returned (.slice (some ⟨w.heap.size, 0, none⟩) l.length l.length) ∧ w' = w.alloc (.cells (l.map Value.string).toArray 9) := by
  obtain ⟨m, hm⟩ := hm
  refine (Any.strings_Split Tryz.lays146 (by kernel_rfl) s ⟨#[47]⟩ m w hs hm (by decide)).mono ?_
  rintro e w' ⟨he, hw⟩
  have hl := splitB_all ⟨#[47]⟩ (by decide) 0 _ s rfl
  refine ⟨splitB ⟨#[47]⟩ 0 (countB s ⟨#[47]⟩) s, ?_, by rw [hl]; exact he, hw⟩
  rw [splitB_data]
  exact split_spl 47 _ _ (Nat.le_refl _)
theorem cut_any (s : ByteArray) (w : World) (hs : s.size < 4294967281) (hm : MaxIs w) :
    Calls Tryz.prog 50 #[.string s, .string ⟨#[126]⟩] w fun e w' => e = .returned (.tuple #[.string ⟨(cut s.data.toList [126]).1.toArray⟩, .string ⟨(cut s.data.toList [126]).2.1.toArray⟩, .bool (cut s.data.toList [126]).2.2]) ∧ Below w.heap.size w w' := by
  obtain ⟨m, hm⟩ := hm
  refine (Any.strings_Cut Tryz.lays145 s ⟨#[126]⟩ m w hs hm).mono ?_
  rintro e w' ⟨he, n, rfl⟩
  exact ⟨he, ⟨rfl, rfl, rfl, Nat.le_refl _, fun _ _ => rfl⟩⟩
theorem pre_any (s p : ByteArray) (w : World) : Calls Tryz.prog 53 #[.string s, .string p] w fun e w' => e = .returned (.bool (hasPrefix s.data.toList p.data.toList)) ∧ w' = w :=
  Any.strings_HasPrefix Tryz.lays99 s p w
end Go.Proofs.YtejcfkkkbnnmcaaGreatDoor
