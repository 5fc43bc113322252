/- joined: JdP JpB -/
import Derived.Test.YtpmhdcmmlkjjmaaGreatDoorJdJ
import Derived.Test.YtpmhdcmmlkjjmaaGreatDoorJdL
import Derived.Test.YtpmhdcmmlkjjmaaGreatDoorJdM
import Derived.Test.YtpmhdcmmlkjjmaaGreatDoorJdN
import Derived.Test.YtpmhdcmmlkjjmaaGreatDoorJdO
import Derived.Test.YtpmhdcmmlkjjmaaGreatDoorSamV
import Derived.Test.YtpmhdcmmlkjjmaaGreatDoorJdQ
/- the document's value, whole. -/
set_option linter.unusedSimpArgs false
set_option linter.unusedVariables false
set_option maxRecDepth 100000
namespace Go.Proofs.YtpmhdcmmlkjjmaaGreatDoor
open Go.RowKit Go.Lib
theorem dvalue_step (g : Nat) (s : ByteArray) (D F : Nat) (hs : s.size ≤ 100000000) (hD : D ≤ 900) (HV : ∀ f, f < F → ValD g s D f) : ValD g s D F := by
  intro w o k n h hk hF hn ho
  obtain ⟨f, rfl⟩ : ∃ f, F = f + 1 := ⟨F - 1, by omega⟩
  by_cases hK : blk s.data.toList k = s.size
  · exact dval_end g s D f o k n w h hs hk hK
  have hb := blk_le (l := s.data.toList) (k := k) (by simpa using hk)
  have hll : s.data.toList.length = s.size := by simp
  rw [hll] at hb
  have hK' : blk s.data.toList k < s.size := by omega
  by_cases h110 : s[blk s.data.toList k] = 110
  · exact dval_n g s D f o k n w h hs hk hn ho hD hK' h110
  by_cases h116 : s[blk s.data.toList k] = 116
  · exact dval_t g s D f o k n w h hs hk hn ho hD hK' h116
  by_cases h102 : s[blk s.data.toList k] = 102
  · exact dval_f g s D f o k n w h hs hk hn ho hD hK' h102
  by_cases h34 : s[blk s.data.toList k] = 34
  · exact dval_q g s D f o k n w h hs hk hn ho hD hK' h34
  by_cases h91 : s[blk s.data.toList k] = 91
  · exact dval_l g s D f o k n w h hs hk hn ho hD hK' h91 (fun W hW hoD hn1 => dlist_any g s D f (fun f' hf' => HV f' (by omega)) o (blk s.data.toList k) (n + 1) W hW hs hK' (by omega) hn1 hoD (by omega))
  by_cases h123 : s[blk s.data.toList k] = 123
  · exact dval_m g s D f o k n w h hs hk hn ho hD hK' h123 (fun W hW hoD hn1 => dmembers_any g s D f (fun f' hf' => HV f' (by omega)) o (blk s.data.toList k) (n + 1) W hW hs hK' (by omega) hn1 hoD (by omega))
  exact dval_o g s D f o k n w h hs hk hn ho hD hK' h110 h116 h102 h34 h91 h123
theorem dvalue_all (g : Nat) (s : ByteArray) (D : Nat) (hs : s.size ≤ 100000000) (hD : D ≤ 900) : ∀ F, ValD g s D F := fun F => Nat.strongRecOn F fun F ih => dvalue_step g s D F hs hD ih
end Go.Proofs.YtpmhdcmmlkjjmaaGreatDoor
/- JsonParses: the law's walk. -/
set_option maxRecDepth 100000
namespace Go.Proofs.YtpmhdcmmlkjjmaaGreatDoor
open Go.RowKit Go.Lib
theorem dparse_any (l : List UInt8) (v : Value) (z : Int) (w : World) (hb : Bys w v l) (hz : In64 z) (hl : l.length ≤ 140737488355328) : Calls Tryz.prog 25 #[v, .int .i64 z] w (PrP (parJ l z) w) :=
  dparse_of l v z w hb hz hl (fun g s D hs hD F => dvalue_all g s D hs hD F)
set_option maxHeartbeats 8000000 in
theorem parses_walk (l : List UInt8) (v : Value) (z : Int) (w : World) (hb : Byt w v l) (t : Td w) (hz : In64 z) (hl : l.length ≤ 140737488355328) : Calls Tryz.prog 8 #[v, .int .i64 z] w (BPost true w) := by
  have CT := hmk (twin_bytes l v w hb hl)
  have CP : Hid (∀ W, Below w.heap.size w W → Calls Tryz.prog 15 #[v, .int .i64 z] W (PrP (parJ l z) W)) := fun W h => parse_any l v z W (hb.keep h).bys (t.below h (by have := t.z; omega) h.size) hz hl
  have CD : Hid (∀ W v', Byt W v' l → Calls Tryz.prog 25 #[v', .int .i64 z] W (PrP (parJ l z) W)) := fun W v' h => dparse_any l v' z W h.bys hz hl
  have CB : Hid (∀ W v', Below w.heap.size w W → Byt W v' l → Calls Tryz.prog 12 #[v, v'] W (BPost true W)) := fun W v' h h2 => bytes_same l v v' W (hb.keep h) h2 hl
  obtain ⟨⟨X, at_, er⟩, hP⟩ : ∃ R, R = parJ l z := ⟨_, rfl⟩
  rw [← hP] at CP CD
  have hsl : ∃ ao n c, v = .slice ao n c := by
    obtain ⟨ao, cap, b, o, rfl, _⟩ := hb
    exact ⟨_, _, _, rfl⟩
  obtain ⟨va, vn, vc, rfl⟩ := hsl
  clear hb t hP
  go_enter Tryz.func8, Tryz.ntmps8
  go_wp2_with fail
  refine CT.out.mono ?_
  rintro e w1 ⟨v', rfl, hb1, b1⟩
  obtain ⟨ua, un, uc, rfl⟩ : ∃ a n c, v' = .slice a n c := by
    obtain ⟨ao, cap, b, o, rfl, _⟩ := hb1
    exact ⟨_, _, _, rfl⟩
  clear CT
  go_wp2_with fail
  refine (CP.out w1 b1).mono ?_
  rintro e w2 ⟨cs, rfl, hl2, b2⟩
  dsimp only at hl2
  have HL2 := hmk hl2
  obtain ⟨k, b, i, s, al, nl, cl, am, nm, cm, rfl⟩ := V.ten hl2
  clear hl2 CP
  have bA : Below w2.heap.size w2 (w2.alloc (.cells #[.int .i64 k, .bool b, .int .i64 i, .string s, .slice al nl cl, .slice am nm cm] 25)) := (Below.refl _ _).alloc (Nat.le_refl _) _
  have z1 := b1.size
  have z2 := b2.size
  have za := alloc_size w2 (.cells #[.int .i64 k, .bool b, .int .i64 i, .string s, .slice al nl cl, .slice am nm cm] 25)
  have B2 := b1.trans (b2.mono z1)
  have B3 := B2.trans (bA.mono (by omega))
  have hb3 := (hb1.keep b2).keep bA
  have N8 := heap_alloc_new w2 (.cells #[.int .i64 k, .bool b, .int .i64 i, .string s, .slice al nl cl, .slice am nm cm] 25)
  have CDD := hmk (CD.out _ _ hb3)
  clear CD
  go_wp2_with fail
  refine CDD.out.mono ?_
  rintro e w4 ⟨ds, rfl, hl4, b4⟩
  dsimp only at hl4
  have HL4 := hmk hl4
  obtain ⟨k', b', i', s', al', nl', cl', am', nm', cm', rfl⟩ := V.ten hl4
  clear hl4 CDD
  have bB : Below w4.heap.size w4 (w4.alloc (.cells #[.int .i64 k', .bool b', .int .i64 i', .string s', .slice al' nl' cl', .slice am' nm' cm'] 25)) := (Below.refl _ _).alloc (Nat.le_refl _) _
  have z4 := b4.size
  have zb := alloc_size w4 (.cells #[.int .i64 k', .bool b', .int .i64 i', .string s', .slice al' nl' cl', .slice am' nm' cm'] 25)
  have B4 := B3.trans (b4.mono (by omega))
  have B5 := B4.trans (bB.mono (by omega))
  have hb5 := (hb3.keep b4).keep bB
  have N8' := ((bB.mono (Nat.le_refl _)).block w2.heap.size (by omega)).trans ((b4.block w2.heap.size (by rw [za]; omega)).trans N8)
  have N9 := heap_alloc_new w4 (.cells #[.int .i64 k', .bool b', .int .i64 i', .string s', .slice al' nl' cl', .slice am' nm' cm'] 25)
  have a0 := cell_of_block N8' 0
  have a1 := cell_of_block N8' 1
  have a2 := cell_of_block N8' 2
  have a3 := cell_of_block N8' 3
  have a4 := cell_of_block N8' 4
  have a5 := cell_of_block N8' 5
  have d0 := cell_of_block N9 0
  have d1 := cell_of_block N9 1
  have d2 := cell_of_block N9 2
  have d3 := cell_of_block N9 3
  have d4 := cell_of_block N9 4
  have d5 := cell_of_block N9 5
  simp only [List.getElem?_toArray, List.getElem?_cons_zero, List.getElem?_cons_succ] at a0 a1 a2 a3 a4 a5 d0 d1 d2 d3 d4 d5
  have CS := hmk (samv_any X 0 (New w1 w2) (New (w2.alloc (.cells #[.int .i64 k, .bool b, .int .i64 i, .string s, .slice al nl cl, .slice am nm cm] 25)) w4) _ _ (w4.alloc (.cells #[.int .i64 k', .bool b', .int .i64 i', .string s', .slice al' nl' cl', .slice am' nm' cm'] 25)) (by omega) (by omega)
    (V.lies_keep (fun h => h) (fun x hx => (bB.block x (by have := hx.2; omega)).trans ((b4.block x (by rw [za]; have := hx.2; omega)).trans (bA.block x hx.2))) (fun _ h => h) _ HL2.out)
    (V.lies_keep (fun h => h) (fun x hx => bB.block x hx.2) (fun _ h => h) _ HL4.out)
    (fun x hx => by rw [zb]; have := hx.2; omega) (fun x hx => by rw [zb]; have := hx.2; omega))
  have CBB : Hid (∀ W, Below (w4.alloc (.cells #[.int .i64 k', .bool b', .int .i64 i', .string s', .slice al' nl' cl', .slice am' nm' cm'] 25)).heap.size (w4.alloc (.cells #[.int .i64 k', .bool b', .int .i64 i', .string s', .slice al' nl' cl', .slice am' nm' cm'] 25)) W → Calls Tryz.prog 12 #[.slice va vn vc, .slice ua un uc] W (BPost true W)) := fun W h => CB.out W _ (B5.trans (h.mono (by rw [zb]; omega))) (hb5.keep h)
  have HB5 := hmk B5
  clear CB N8 N8' N9 bA bB b1 b2 b4 B2 B3 B4 B5 hb1 hb3 hb5 HL2 HL4
  go_wp2_with fail
  refine CS.out.mono ?_
  rintro e w6 ⟨rfl, b6⟩
  clear CS
  go_wp2_with fail
  refine (CBB.out w6 b6).mono ?_
  rintro e w7 ⟨rfl, b7⟩
  go_wp2_with fail
  go_ret
  exact ⟨rfl, HB5.out.trans ((b6.trans (b7.mono b6.size)).mono (by rw [zb]; omega))⟩
end Go.Proofs.YtpmhdcmmlkjjmaaGreatDoor
