/- joined: JdP JpB -/
import Derived.Test.YtpmhdcmmlkjjmaaGreatDoorJdJ
import Derived.Test.YtpmhdcmmlkjjmaaGreatDoorH26
import Derived.Test.YtpmhdcmmlkjjmaaGreatDoorJdN
import Derived.Test.YtpmhdcmmlkjjmaaGreatDoorJdO
import Derived.Test.YtpmhdcmmlkjjmaaGreatDoorSamV
import Derived.Test.YtpmhdcmmlkjjmaaGreatDoorJdQ
/- the document's value, whole. -/
set_option linter.unusedSimpArgs false
set_option linter.unusedVariables false
set_option maxRecDepth 100000
namespace Go.Proofs.YtpmhdcmmlkjjmaaGreatDoor
open Go.RowKit Go.Lib
theorem dvalue_step (g : Nat) (s : ByteArray) (D F : Nat) (hs : s.size ≤ 100000000) (hD : D ≤ 900) (HV : ∀ f, f < F → ValD g s D f) : ValD g s D F := by
  intro w o k n h hk hF hn ho
  obtain ⟨f, rfl⟩ : ∃ f, F = f + 1 := ⟨F - 1, by omega⟩
  by_cases hK : blk s.data.toList k = s.size
  · exact dval_end g s D f o k n w h hs hk hK
  have hb := blk_le (l := s.data.toList) (k := k) (by simpa using hk)
  have hll : s.data.toList.length = s.size := by simp
  rw [hll] at hb
  have hK' : blk s.data.toList k < s.size := by omega
  by_cases h110 : s[blk s.data.toList k] = 110
  · exact dval_n g s D f o k n w h hs hk hn ho hD hK' h110
  by_cases h116 : s[blk s.data.toList k] = 116
  · exact dval_t g s D f o k n w h hs hk hn ho hD hK' h116
  by_cases h102 : s[blk s.data.toList k] = 102
  · exact dval_f g s D f o k n w h hs hk hn ho hD hK' h102
  by_cases h34 : s[blk s.data.toList k] = 34
  · exact dval_q g s D f o k n w h hs hk hn ho hD hK' h34
  by_cases h91 : s[blk s.data.toList k] = 91
  · exact dval_l g s D f o k n w h hs hk hn ho hD hK' h91 (fun W hW hoD hn1 => dlist_any g s D f (fun f' hf' => HV f' (by omega)) o (blk s.data.toList k) (n + 1) W hW hs hK' (by omega) hn1 hoD (by omega))
  by_cases h123 : s[blk s.data.toList k] = 123
  · exact dval_m g s D f o k n w h hs hk hn ho hD hK' h123 (fun W hW hoD hn1 => dmembers_any g s D f (fun f' hf' => HV f' (by omega)) o (blk s.data.toList k) (n + 1) W hW hs hK' (by omega) hn1 hoD (by omega))
  exact dval_o g s D f o k n w h hs hk hn ho hD hK' h110 h116 h102 h34 h91 h123
theorem dvalue_all (g : Nat) (s : ByteArray) (D : Nat) (hs : s.size ≤ 100000000) (hD : D ≤ 900) : ∀ F, ValD g s D F := fun F => Nat.strongRecOn F fun F ih => dvalue_step g s D F hs hD ih
end Go.Proofs.YtpmhdcmmlkjjmaaGreatDoor
/- JsonParses: the law's walk. -/
set_option maxRecDepth 100000
namespace Go.Proofs.YtpmhdcmmlkjjmaaGreatDoor
open Go.RowKit Go.Lib
theorem dparse_any (l : List UInt8) (v : Value) (z : Int) (w : World) (hb : Bys w v l) (hz : In64 z) (hl : l.length ≤ 140737488355328) : Calls Tryz.prog 25 #[v, .int .i64 z] w (PrP (parJ l z) w) :=
  dparse_of l v z w hb hz hl (fun g s D hs hD F => dvalue_all g s D hs hD F)
end Go.Proofs.YtpmhdcmmlkjjmaaGreatDoor
