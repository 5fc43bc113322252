import Derived.Test.YtljgofmmihmmfaaDoorRfE
import Derived.Test.YtljgofmmihmmfaaDoorTwinB
/- faulty: some value. -/
set_option linter.unusedSimpArgs false
set_option linter.unusedVariables false
namespace Go.Proofs.YtljgofmmihmmfaaDoor
open Go.RowKit

def FaPost (B : Nat) (w : World) (e : Ending) (w' : World) : Prop := ∃ (u : V) (cs : List Value), e = .returned (.agg cs.toArray) ∧ u.lies false w' (Old w') cs ∧ u.wt ≤ B ∧ Below w.heap.size w w'

def vOne : V := .mk 2 false 1 ⟨#[]⟩ [] []
theorem headed_nil : Headed none ([] : List V).length 0 0 0 := ⟨Nat.le_refl _, by simp [maxLen], .inl rfl, fun _ => rfl⟩
theorem headed_row (g n : Nat) (h : n ≤ 100 := by omega) : Headed (some ⟨g, 0, none⟩) n n g 0 := ⟨Nat.le_refl _, by simp [maxLen]; omega, .inr rfl, fun h => by cases h⟩
theorem lies_of {W : World} {k i : Int} {b : Bool} {s : ByteArray} {l : List V} {m : List Mem} {al am : Option Addr} {cl bl ol cm bm om nl nm : Nat} (hk : In64 k) (hi : In64 i) (hs : s.size ≤ maxLen) (hal : Headed al nl cl bl ol) (ham : Headed am nm cm bm om) (hl : liesL false W (Old W) l bl ol) (hm : liesM false W (Old W) m bm om) (e1 : nl = l.length := by rfl) (e2 : nm = m.length := by rfl) :
    (V.mk k b i s l m).lies false W (Old W) [.int .i64 k, .bool b, .int .i64 i, .string s, .slice al nl cl, .slice am nm cm] := by
  subst e1 e2
  rw [V.lies]
  exact ⟨al, cl, bl, ol, am, cm, bm, om, rfl, hk, hi, hs, hal, ham, hl, hm, fun h => by cases h⟩
theorem one_lies (W : World) : vOne.lies false W (Old W) [.int .i64 2, .bool false, .int .i64 1, .string ⟨#[]⟩, .slice none 0 0, .slice none 0 0] :=
  lies_of (by constructor <;> omega) (by constructor <;> omega) (by decide) headed_nil headed_nil (by rw [liesL]; trivial) (by rw [liesM]; trivial)
theorem row_sub {W : World} {g : Nat} {xs : List Value} {t : TypeId} {f : Nat × Nat} (h : W.heap[g]? = some (.cells xs.toArray t f)) (o n : Nat) : rowAt W g (0 + o) ((xs.drop o).take n) := by
  intro j u hu
  rw [List.getElem?_take] at hu
  split at hu
  · rw [List.getElem?_drop] at hu
    rw [cell_of_block h]
    simpa [Nat.add_assoc] using hu
  · cases hu
theorem rowL {W : World} {g : Nat} {xs : List Value} {f : Nat × Nat} {l : List V} (h : W.heap[g]? = some (.cells xs.toArray 25 f)) (_ : True = True) (he : ∀ (j : Nat) (hj : j < l.length), (l[j]).lies false W (Old W) ((xs.drop (j * 6)).take 6)) : liesL false W (Old W) l g 0 :=
  liesL_mk fun j hj => ⟨(Array.getElem?_eq_some_iff.1 h).1, _, row_sub h (j * 6) 6, he j hj⟩
theorem rowM {W : World} {g : Nat} {xs : List Value} {f : Nat × Nat} {l : List Mem} (h : W.heap[g]? = some (.cells xs.toArray 44 f)) (_ : True = True) (he : ∀ (j : Nat) (hj : j < l.length), (l[j]).1.size ≤ maxLen ∧ ∃ cs, (xs.drop (j * 7)).take 7 = .string (l[j]).1 :: cs ∧ (l[j]).2.lies false W (Old W) cs) : liesM false W (Old W) l g 0 :=
  liesM_mk fun j hj => by
    obtain ⟨h1, cs, h2, h3⟩ := he j hj
    exact ⟨(Array.getElem?_eq_some_iff.1 h).1, h1, cs, h2 ▸ row_sub h (j * 7) 7, h3⟩
theorem four_allocs (w : World) (o0 o1 o2 o3 : Obj) : Below w.heap.size w ((((w.alloc o0).alloc o1).alloc o2).alloc o3) ∧ True :=
  ⟨(three_below w o0 o1 o2).alloc (by have := (three_below w o0 o1 o2).size; omega) _, trivial⟩
theorem five_allocs (w : World) (o0 o1 o2 o3 o4 : Obj) : Below w.heap.size w (((((w.alloc o0).alloc o1).alloc o2).alloc o3).alloc o4) ∧ (((((w.alloc o0).alloc o1).alloc o2).alloc o3).alloc o4).heap[w.heap.size + 1 + 1 + 1 + 1]? = some o4 := by
  have h := (four_allocs w o0 o1 o2 o3).1
  refine ⟨h.alloc h.size _, ?_⟩
  have := heap_alloc_new ((((w.alloc o0).alloc o1).alloc o2).alloc o3) o4
  rwa [alloc_size, alloc_size, alloc_size, alloc_size] at this
theorem six_allocs (w : World) (o0 o1 o2 o3 o4 o5 : Obj) : Below w.heap.size w ((((((w.alloc o0).alloc o1).alloc o2).alloc o3).alloc o4).alloc o5) ∧ ((((((w.alloc o0).alloc o1).alloc o2).alloc o3).alloc o4).alloc o5).heap[w.heap.size + 1 + 1 + 1 + 1]? = some o4 ∧ ((((((w.alloc o0).alloc o1).alloc o2).alloc o3).alloc o4).alloc o5).heap[w.heap.size + 1 + 1 + 1 + 1 + 1]? = some o5 := by
  have h := five_allocs w o0 o1 o2 o3 o4
  refine ⟨h.1.alloc h.1.size _, ?_, ?_⟩
  · rw [Below.heap_alloc _ _ _ (by rw [alloc_size, alloc_size, alloc_size, alloc_size, alloc_size]; omega)]
    exact h.2
  · have := heap_alloc_new (((((w.alloc o0).alloc o1).alloc o2).alloc o3).alloc o4) o5
    rwa [alloc_size, alloc_size, alloc_size, alloc_size, alloc_size] at this

theorem small {b : ByteArray} (h : b.size ≤ 10) : b.size ≤ maxLen := by simp only [maxLen]; omega
theorem fa_fin {w W : World} {bound : Nat} {u : V} {cs : List Value} (B : Below w.heap.size w W) (h : Below w.heap.size w W → u.lies false W (Old W) cs) (hw : u.wt ≤ bound) : FaPost bound w (.returned (.agg cs.toArray)) W := ⟨u, cs, rfl, h B, hw, B⟩

set_option maxHeartbeats 8000000 in
set_option maxRecDepth 100000 in
theorem faulty_any (v : V) (n : Nat) (cs : List Value) (w : World) (hv : v.lies false w (Old w) cs) (hn : n < 14) (hwt : v.wt ≤ 1073741824) : Calls Tryd.prog 15 #[.agg cs.toArray, .int .i64 (n : Int)] w (FaPost (2 * v.wt + 30) w) := by
  have hv0 := hv
  obtain ⟨k, b, i, s, l, m⟩ := v
  rw [V.lies] at hv
  obtain ⟨al, cl, bl, ol, am, cm, bm, om, rfl, hk, hi, hs, hal, ham, hl1, hm1, _⟩ := hv
  have hVW : ∀ W, Below w.heap.size w W → (V.mk k b i s l m).lies false W (Old W) [.int .i64 k, .bool b, .int .i64 i, .string s, .slice al l.length cl, .slice am m.length cm] := fun W hB => V.lies_keep (fun h => h) (fun x hx => hB.block x hx) (fun x hx => Nat.lt_of_lt_of_le hx hB.size) _ hv0
  have hL : ∀ W, Below w.heap.size w W → liesL false W (Old W) l bl ol := fun W hB => liesL_keep (fun h => h) (fun x hx => hB.block x hx) (fun x hx => Nat.lt_of_lt_of_le hx hB.size) _ hl1
  have hM : ∀ W, Below w.heap.size w W → liesM false W (Old W) m bm om := fun W hB => liesM_keep (fun h => h) (fun x hx => hB.block x hx) (fun x hx => Nat.lt_of_lt_of_le hx hB.size) _ hm1
  have hs9 : (s ++ (⟨#[195]⟩ : ByteArray)).size ≤ maxLen := by
    have : (s ++ (⟨#[195]⟩ : ByteArray)).size = s.size + 1 := by rw [ByteArray.size_append]; rfl
    rw [V.wt] at hwt
    rw [this]; simp only [maxLen]; omega
  have hw9 : (s ++ (⟨#[195]⟩ : ByteArray)).size = s.size + 1 := by rw [ByteArray.size_append]; rfl
  have hsb : s.size ≤ 1073741824 := by rw [V.wt] at hwt; omega
  have HH : Hid ((V.mk k b i s l m).wt = 1 + s.size + wtL l + wtM m) := by show _ = _; rw [V.wt]
  have H1 : Hid (∀ W, Below w.heap.size w W → (V.mk k b i s l m).lies false W (Old W) [.int .i64 k, .bool b, .int .i64 i, .string s, .slice al l.length cl, .slice am m.length cm]) := hVW
  have H2 : Hid (∀ W, Below w.heap.size w W → liesL false W (Old W) l bl ol) := hL
  have H3 : Hid (∀ W, Below w.heap.size w W → liesM false W (Old W) m bm om) := hM
  have HS : Hid (s.size ≤ maxLen ∧ (s ++ (⟨#[195]⟩ : ByteArray)).size ≤ maxLen ∧ (s ++ (⟨#[195]⟩ : ByteArray)).size = s.size + 1) := ⟨hs, hs9, hw9⟩
  clear hv0 hl1 hm1 hVW hL hM hs hs9 hw9 hwt
  have hc : n = 0 ∨ n = 1 ∨ n = 2 ∨ n = 3 ∨ n = 4 ∨ n = 5 ∨ n = 6 ∨ n = 7 ∨ n = 8 ∨ n = 9 ∨ n = 10 ∨ n = 11 ∨ n = 12 ∨ n = 13 := by omega
  rcases hc with rfl | rfl | rfl | rfl | rfl | rfl | rfl | rfl | rfl | rfl | rfl | rfl | rfl | rfl
  · go_enter Tryd.func15, Tryd.ntmps15
    go_wp2_with fail
    (try simp only [Exit.inBlock, Exit.then])
    refine bodyPost_ret (v := .agg #[.int .i64 k, .bool b, .int .i64 i, .string s, .slice al l.length cl, .slice am m.length cm]) ?_ rfl ?_
    · rw [results_cell1 rfl]
      go_simp
    · have hVW := H1.out
      have hL := H2.out
      have hM := H3.out
      obtain ⟨hs, hs9, hw9⟩ := HS.out
      refine fa_fin (u := V.mk (k) b (i) s l m) (cs := [.int .i64 k, .bool b, .int .i64 i, .string s, .slice al l.length cl, .slice am m.length cm]) (four_allocs _ _ _ _ _).1 (fun B => lies_of hk hi hs hal ham (hL _ B) (hM _ B)) ?_
      rw [HH.out]
      first | simp only [V.wt, wtL, wtM, vOne] | skip
      have z0 : (⟨#[]⟩ : ByteArray).size = 0 := rfl
      have z1 : (⟨#[120]⟩ : ByteArray).size = 1 := rfl
      have z2 : (⟨#[97]⟩ : ByteArray).size = 1 := rfl
      have z3 : (⟨#[98]⟩ : ByteArray).size = 1 := rfl
      have z4 : (⟨#[99]⟩ : ByteArray).size = 1 := rfl
      have z5 : (⟨#[97, 255]⟩ : ByteArray).size = 2 := rfl
      omega
  · go_enter Tryd.func15, Tryd.ntmps15
    go_wp2_with fail
    (try simp only [Exit.inBlock, Exit.then])
    refine bodyPost_ret (v := .agg #[.int .i64 6, .bool b, .int .i64 i, .string s, .slice al l.length cl, .slice am m.length cm]) ?_ rfl ?_
    · rw [results_cell1 rfl]
      go_simp
    · have hVW := H1.out
      have hL := H2.out
      have hM := H3.out
      obtain ⟨hs, hs9, hw9⟩ := HS.out
      refine fa_fin (u := V.mk (6) b (i) s l m) (cs := [.int .i64 6, .bool b, .int .i64 i, .string s, .slice al l.length cl, .slice am m.length cm]) (four_allocs _ _ _ _ _).1 (fun B => lies_of (by constructor <;> omega) hi hs hal ham (hL _ B) (hM _ B)) ?_
      rw [HH.out]
      first | simp only [V.wt, wtL, wtM, vOne] | skip
      have z0 : (⟨#[]⟩ : ByteArray).size = 0 := rfl
      have z1 : (⟨#[120]⟩ : ByteArray).size = 1 := rfl
      have z2 : (⟨#[97]⟩ : ByteArray).size = 1 := rfl
      have z3 : (⟨#[98]⟩ : ByteArray).size = 1 := rfl
      have z4 : (⟨#[99]⟩ : ByteArray).size = 1 := rfl
      have z5 : (⟨#[97, 255]⟩ : ByteArray).size = 2 := rfl
      omega
  · go_enter Tryd.func15, Tryd.ntmps15
    go_wp2_with fail
    (try simp only [Exit.inBlock, Exit.then])
    refine bodyPost_ret (v := .agg #[.int .i64 (-1), .bool b, .int .i64 i, .string s, .slice al l.length cl, .slice am m.length cm]) ?_ rfl ?_
    · rw [results_cell1 rfl]
      go_simp
    · have hVW := H1.out
      have hL := H2.out
      have hM := H3.out
      obtain ⟨hs, hs9, hw9⟩ := HS.out
      refine fa_fin (u := V.mk (-1) b (i) s l m) (cs := [.int .i64 (-1), .bool b, .int .i64 i, .string s, .slice al l.length cl, .slice am m.length cm]) (four_allocs _ _ _ _ _).1 (fun B => lies_of (by constructor <;> omega) hi hs hal ham (hL _ B) (hM _ B)) ?_
      rw [HH.out]
      first | simp only [V.wt, wtL, wtM, vOne] | skip
      have z0 : (⟨#[]⟩ : ByteArray).size = 0 := rfl
      have z1 : (⟨#[120]⟩ : ByteArray).size = 1 := rfl
      have z2 : (⟨#[97]⟩ : ByteArray).size = 1 := rfl
      have z3 : (⟨#[98]⟩ : ByteArray).size = 1 := rfl
      have z4 : (⟨#[99]⟩ : ByteArray).size = 1 := rfl
      have z5 : (⟨#[97, 255]⟩ : ByteArray).size = 2 := rfl
      omega
  · go_enter Tryd.func15, Tryd.ntmps15
    go_wp2_with fail
    (try simp only [Exit.inBlock, Exit.then])
    refine bodyPost_ret (v := .agg #[.int .i64 3, .bool true, .int .i64 0, .string s, .slice none 0 0, .slice none 0 0]) ?_ rfl ?_
    · rw [results_cell1 rfl]
      go_simp
    · have hVW := H1.out
      have hL := H2.out
      have hM := H3.out
      obtain ⟨hs, hs9, hw9⟩ := HS.out
      refine fa_fin (u := V.mk (3) true (0) s [] []) (cs := [.int .i64 3, .bool true, .int .i64 0, .string s, .slice none 0 0, .slice none 0 0]) (four_allocs _ _ _ _ _).1 (fun B => lies_of (by constructor <;> omega) (by constructor <;> omega) hs headed_nil headed_nil (by rw [liesL]; trivial) (by rw [liesM]; trivial)) ?_
      rw [HH.out]
      first | simp only [V.wt, wtL, wtM, vOne] | skip
      have z0 : (⟨#[]⟩ : ByteArray).size = 0 := rfl
      have z1 : (⟨#[120]⟩ : ByteArray).size = 1 := rfl
      have z2 : (⟨#[97]⟩ : ByteArray).size = 1 := rfl
      have z3 : (⟨#[98]⟩ : ByteArray).size = 1 := rfl
      have z4 : (⟨#[99]⟩ : ByteArray).size = 1 := rfl
      have z5 : (⟨#[97, 255]⟩ : ByteArray).size = 2 := rfl
      omega
  · go_enter Tryd.func15, Tryd.ntmps15
    go_wp2_with fail
    (try simp only [Exit.inBlock, Exit.then])
    refine bodyPost_ret (v := .agg #[.int .i64 1, .bool true, .int .i64 1, .string ⟨#[]⟩, .slice none 0 0, .slice none 0 0]) ?_ rfl ?_
    · rw [results_cell1 rfl]
      go_simp
    · have hVW := H1.out
      have hL := H2.out
      have hM := H3.out
      obtain ⟨hs, hs9, hw9⟩ := HS.out
      refine fa_fin (u := V.mk (1) true (1) ⟨#[]⟩ [] []) (cs := [.int .i64 1, .bool true, .int .i64 1, .string ⟨#[]⟩, .slice none 0 0, .slice none 0 0]) (four_allocs _ _ _ _ _).1 (fun B => lies_of (by constructor <;> omega) (by constructor <;> omega) (by decide) headed_nil headed_nil (by rw [liesL]; trivial) (by rw [liesM]; trivial)) ?_
      rw [HH.out]
      first | simp only [V.wt, wtL, wtM, vOne] | skip
      have z0 : (⟨#[]⟩ : ByteArray).size = 0 := rfl
      have z1 : (⟨#[120]⟩ : ByteArray).size = 1 := rfl
      have z2 : (⟨#[97]⟩ : ByteArray).size = 1 := rfl
      have z3 : (⟨#[98]⟩ : ByteArray).size = 1 := rfl
      have z4 : (⟨#[99]⟩ : ByteArray).size = 1 := rfl
      have z5 : (⟨#[97, 255]⟩ : ByteArray).size = 2 := rfl
      omega
  · go_enter Tryd.func15, Tryd.ntmps15
    go_wp2_with fail
    (try simp only [Exit.inBlock, Exit.then])
    refine bodyPost_ret (v := .agg #[.int .i64 2, .bool false, .int .i64 i, .string ⟨#[120]⟩, .slice none 0 0, .slice none 0 0]) ?_ rfl ?_
    · rw [results_cell1 rfl]
      go_simp
    · have hVW := H1.out
      have hL := H2.out
      have hM := H3.out
      obtain ⟨hs, hs9, hw9⟩ := HS.out
      refine fa_fin (u := V.mk (2) false (i) ⟨#[120]⟩ [] []) (cs := [.int .i64 2, .bool false, .int .i64 i, .string ⟨#[120]⟩, .slice none 0 0, .slice none 0 0]) (four_allocs _ _ _ _ _).1 (fun B => lies_of (by constructor <;> omega) hi (by decide) headed_nil headed_nil (by rw [liesL]; trivial) (by rw [liesM]; trivial)) ?_
      rw [HH.out]
      first | simp only [V.wt, wtL, wtM, vOne] | skip
      have z0 : (⟨#[]⟩ : ByteArray).size = 0 := rfl
      have z1 : (⟨#[120]⟩ : ByteArray).size = 1 := rfl
      have z2 : (⟨#[97]⟩ : ByteArray).size = 1 := rfl
      have z3 : (⟨#[98]⟩ : ByteArray).size = 1 := rfl
      have z4 : (⟨#[99]⟩ : ByteArray).size = 1 := rfl
      have z5 : (⟨#[97, 255]⟩ : ByteArray).size = 2 := rfl
      omega
  · go_enter Tryd.func15, Tryd.ntmps15
    go_wp2_with fail
    (try simp only [Exit.inBlock, Exit.then])
    refine bodyPost_ret (v := .agg #[.int .i64 3, .bool false, .int .i64 0, .string s, .slice (some ⟨w.heap.size + 1 + 1 + 1 + 1, 0, none⟩) 1 1, .slice none 0 0]) ?_ rfl ?_
    · rw [results_cell1 rfl]
      go_simp
    · have hVW := H1.out
      have hL := H2.out
      have hM := H3.out
      obtain ⟨hs, hs9, hw9⟩ := HS.out
      refine fa_fin (u := V.mk (3) false (0) s [vOne] []) (cs := [.int .i64 3, .bool false, .int .i64 0, .string s, .slice (some ⟨w.heap.size + 1 + 1 + 1 + 1, 0, none⟩) 1 1, .slice none 0 0]) (five_allocs _ _ _ _ _ _).1 (fun B => lies_of (by constructor <;> omega) (by constructor <;> omega) hs (headed_row _ 1) headed_nil (rowL (five_allocs _ _ _ _ _ _).2 rfl (fun j hj => by simp at hj; subst hj; exact one_lies _)) (by rw [liesM]; trivial)) ?_
      rw [HH.out]
      first | simp only [V.wt, wtL, wtM, vOne] | skip
      have z0 : (⟨#[]⟩ : ByteArray).size = 0 := rfl
      have z1 : (⟨#[120]⟩ : ByteArray).size = 1 := rfl
      have z2 : (⟨#[97]⟩ : ByteArray).size = 1 := rfl
      have z3 : (⟨#[98]⟩ : ByteArray).size = 1 := rfl
      have z4 : (⟨#[99]⟩ : ByteArray).size = 1 := rfl
      have z5 : (⟨#[97, 255]⟩ : ByteArray).size = 2 := rfl
      omega
  · go_enter Tryd.func15, Tryd.ntmps15
    go_wp2_with fail
    (try simp only [Exit.inBlock, Exit.then])
    refine bodyPost_ret (v := .agg #[.int .i64 4, .bool false, .int .i64 0, .string ⟨#[]⟩, .slice al l.length cl, .slice (some ⟨w.heap.size + 1 + 1 + 1 + 1, 0, none⟩) 1 1]) ?_ rfl ?_
    · rw [results_cell1 rfl]
      go_simp
    · have hVW := H1.out
      have hL := H2.out
      have hM := H3.out
      obtain ⟨hs, hs9, hw9⟩ := HS.out
      refine fa_fin (u := V.mk (4) false (0) ⟨#[]⟩ l [(⟨#[97]⟩, vOne)]) (cs := [.int .i64 4, .bool false, .int .i64 0, .string ⟨#[]⟩, .slice al l.length cl, .slice (some ⟨w.heap.size + 1 + 1 + 1 + 1, 0, none⟩) 1 1]) (five_allocs _ _ _ _ _ _).1 (fun B => lies_of (by constructor <;> omega) (by constructor <;> omega) (by decide) hal (headed_row _ 1) (hL _ B) (rowM (five_allocs _ _ _ _ _ _).2 rfl (fun j hj => by simp at hj; subst hj; exact ⟨(by first | exact small (b := ⟨#[97]⟩) (by decide) | exact small (b := ⟨#[98]⟩) (by decide) | exact small (b := ⟨#[99]⟩) (by decide) | exact small (b := ⟨#[97, 255]⟩) (by decide)), _, rfl, one_lies _⟩))) ?_
      rw [HH.out]
      first | simp only [V.wt, wtL, wtM, vOne] | skip
      have z0 : (⟨#[]⟩ : ByteArray).size = 0 := rfl
      have z1 : (⟨#[120]⟩ : ByteArray).size = 1 := rfl
      have z2 : (⟨#[97]⟩ : ByteArray).size = 1 := rfl
      have z3 : (⟨#[98]⟩ : ByteArray).size = 1 := rfl
      have z4 : (⟨#[99]⟩ : ByteArray).size = 1 := rfl
      have z5 : (⟨#[97, 255]⟩ : ByteArray).size = 2 := rfl
      omega
  · go_enter Tryd.func15, Tryd.ntmps15
    go_wp2_with fail
    (try simp only [Exit.inBlock, Exit.then])
    refine bodyPost_ret (v := .agg #[.int .i64 5, .bool false, .int .i64 0, .string ⟨#[120]⟩, .slice none 0 0, .slice am m.length cm]) ?_ rfl ?_
    · rw [results_cell1 rfl]
      go_simp
    · have hVW := H1.out
      have hL := H2.out
      have hM := H3.out
      obtain ⟨hs, hs9, hw9⟩ := HS.out
      refine fa_fin (u := V.mk (5) false (0) ⟨#[120]⟩ [] m) (cs := [.int .i64 5, .bool false, .int .i64 0, .string ⟨#[120]⟩, .slice none 0 0, .slice am m.length cm]) (four_allocs _ _ _ _ _).1 (fun B => lies_of (by constructor <;> omega) (by constructor <;> omega) (by decide) headed_nil ham (by rw [liesL]; trivial) (hM _ B)) ?_
      rw [HH.out]
      first | simp only [V.wt, wtL, wtM, vOne] | skip
      have z0 : (⟨#[]⟩ : ByteArray).size = 0 := rfl
      have z1 : (⟨#[120]⟩ : ByteArray).size = 1 := rfl
      have z2 : (⟨#[97]⟩ : ByteArray).size = 1 := rfl
      have z3 : (⟨#[98]⟩ : ByteArray).size = 1 := rfl
      have z4 : (⟨#[99]⟩ : ByteArray).size = 1 := rfl
      have z5 : (⟨#[97, 255]⟩ : ByteArray).size = 2 := rfl
      omega
  · go_enter Tryd.func15, Tryd.ntmps15
    go_wp2_with fail
    (try simp only [Exit.inBlock, Exit.then])
    refine bodyPost_ret (v := .agg #[.int .i64 3, .bool false, .int .i64 0, .string (s ++ ⟨#[195]⟩), .slice none 0 0, .slice none 0 0]) ?_ rfl ?_
    · rw [results_cell1 rfl]
      go_simp
    · have hVW := H1.out
      have hL := H2.out
      have hM := H3.out
      obtain ⟨hs, hs9, hw9⟩ := HS.out
      refine fa_fin (u := V.mk (3) false (0) (s ++ ⟨#[195]⟩) [] []) (cs := [.int .i64 3, .bool false, .int .i64 0, .string (s ++ ⟨#[195]⟩), .slice none 0 0, .slice none 0 0]) (four_allocs _ _ _ _ _).1 (fun B => lies_of (by constructor <;> omega) (by constructor <;> omega) hs9 headed_nil headed_nil (by rw [liesL]; trivial) (by rw [liesM]; trivial)) ?_
      rw [HH.out]
      first | simp only [V.wt, wtL, wtM, vOne] | skip
      have z0 : (⟨#[]⟩ : ByteArray).size = 0 := rfl
      have z1 : (⟨#[120]⟩ : ByteArray).size = 1 := rfl
      have z2 : (⟨#[97]⟩ : ByteArray).size = 1 := rfl
      have z3 : (⟨#[98]⟩ : ByteArray).size = 1 := rfl
      have z4 : (⟨#[99]⟩ : ByteArray).size = 1 := rfl
      have z5 : (⟨#[97, 255]⟩ : ByteArray).size = 2 := rfl
      omega
  · go_enter Tryd.func15, Tryd.ntmps15
    go_wp2_with fail
    (try simp only [Exit.inBlock, Exit.then])
    refine bodyPost_ret (v := .agg #[.int .i64 5, .bool false, .int .i64 0, .string ⟨#[]⟩, .slice none 0 0, .slice (some ⟨w.heap.size + 1 + 1 + 1 + 1, 0, none⟩) 1 1]) ?_ rfl ?_
    · rw [results_cell1 rfl]
      go_simp
    · have hVW := H1.out
      have hL := H2.out
      have hM := H3.out
      obtain ⟨hs, hs9, hw9⟩ := HS.out
      refine fa_fin (u := V.mk (5) false (0) ⟨#[]⟩ [] [(⟨#[97, 255]⟩, vOne)]) (cs := [.int .i64 5, .bool false, .int .i64 0, .string ⟨#[]⟩, .slice none 0 0, .slice (some ⟨w.heap.size + 1 + 1 + 1 + 1, 0, none⟩) 1 1]) (five_allocs _ _ _ _ _ _).1 (fun B => lies_of (by constructor <;> omega) (by constructor <;> omega) (by decide) headed_nil (headed_row _ 1) (by rw [liesL]; trivial) (rowM (five_allocs _ _ _ _ _ _).2 rfl (fun j hj => by simp at hj; subst hj; exact ⟨(by first | exact small (b := ⟨#[97]⟩) (by decide) | exact small (b := ⟨#[98]⟩) (by decide) | exact small (b := ⟨#[99]⟩) (by decide) | exact small (b := ⟨#[97, 255]⟩) (by decide)), _, rfl, one_lies _⟩))) ?_
      rw [HH.out]
      first | simp only [V.wt, wtL, wtM, vOne] | skip
      have z0 : (⟨#[]⟩ : ByteArray).size = 0 := rfl
      have z1 : (⟨#[120]⟩ : ByteArray).size = 1 := rfl
      have z2 : (⟨#[97]⟩ : ByteArray).size = 1 := rfl
      have z3 : (⟨#[98]⟩ : ByteArray).size = 1 := rfl
      have z4 : (⟨#[99]⟩ : ByteArray).size = 1 := rfl
      have z5 : (⟨#[97, 255]⟩ : ByteArray).size = 2 := rfl
      omega
  · go_enter Tryd.func15, Tryd.ntmps15
    go_wp2_with fail
    (try simp only [Exit.inBlock, Exit.then])
    refine bodyPost_ret (v := .agg #[.int .i64 5, .bool false, .int .i64 0, .string ⟨#[]⟩, .slice none 0 0, .slice (some ⟨w.heap.size + 1 + 1 + 1 + 1, 0, none⟩) 2 2]) ?_ rfl ?_
    · rw [results_cell1 rfl]
      go_simp
    · have hVW := H1.out
      have hL := H2.out
      have hM := H3.out
      obtain ⟨hs, hs9, hw9⟩ := HS.out
      refine fa_fin (u := V.mk (5) false (0) ⟨#[]⟩ [] [(⟨#[97]⟩, V.mk k b i s l m), (⟨#[97]⟩, V.mk k b i s l m)]) (cs := [.int .i64 5, .bool false, .int .i64 0, .string ⟨#[]⟩, .slice none 0 0, .slice (some ⟨w.heap.size + 1 + 1 + 1 + 1, 0, none⟩) 2 2]) (five_allocs _ _ _ _ _ _).1 (fun B => lies_of (by constructor <;> omega) (by constructor <;> omega) (by decide) headed_nil (headed_row _ 2) (by rw [liesL]; trivial) (rowM (five_allocs _ _ _ _ _ _).2 rfl (fun j hj => by simp at hj; rcases (show j = 0 ∨ j = 1 by omega) with rfl | rfl <;> exact ⟨(by first | exact small (b := ⟨#[97]⟩) (by decide) | exact small (b := ⟨#[98]⟩) (by decide) | exact small (b := ⟨#[99]⟩) (by decide) | exact small (b := ⟨#[97, 255]⟩) (by decide)), _, rfl, hVW _ B⟩))) ?_
      rw [HH.out]
      first | simp only [V.wt, wtL, wtM, vOne] | skip
      have z0 : (⟨#[]⟩ : ByteArray).size = 0 := rfl
      have z1 : (⟨#[120]⟩ : ByteArray).size = 1 := rfl
      have z2 : (⟨#[97]⟩ : ByteArray).size = 1 := rfl
      have z3 : (⟨#[98]⟩ : ByteArray).size = 1 := rfl
      have z4 : (⟨#[99]⟩ : ByteArray).size = 1 := rfl
      have z5 : (⟨#[97, 255]⟩ : ByteArray).size = 2 := rfl
      omega
  · go_enter Tryd.func15, Tryd.ntmps15
    go_wp2_with fail
    (try simp only [Exit.inBlock, Exit.then])
    refine bodyPost_ret (v := .agg #[.int .i64 5, .bool false, .int .i64 0, .string ⟨#[]⟩, .slice none 0 0, .slice (some ⟨w.heap.size + 1 + 1 + 1 + 1, 0, none⟩) 2 2]) ?_ rfl ?_
    · rw [results_cell1 rfl]
      go_simp
    · have hVW := H1.out
      have hL := H2.out
      have hM := H3.out
      obtain ⟨hs, hs9, hw9⟩ := HS.out
      refine fa_fin (u := V.mk (5) false (0) ⟨#[]⟩ [] [(⟨#[98]⟩, V.mk k b i s l m), (⟨#[97]⟩, V.mk k b i s l m)]) (cs := [.int .i64 5, .bool false, .int .i64 0, .string ⟨#[]⟩, .slice none 0 0, .slice (some ⟨w.heap.size + 1 + 1 + 1 + 1, 0, none⟩) 2 2]) (five_allocs _ _ _ _ _ _).1 (fun B => lies_of (by constructor <;> omega) (by constructor <;> omega) (by decide) headed_nil (headed_row _ 2) (by rw [liesL]; trivial) (rowM (five_allocs _ _ _ _ _ _).2 rfl (fun j hj => by simp at hj; rcases (show j = 0 ∨ j = 1 by omega) with rfl | rfl <;> exact ⟨(by first | exact small (b := ⟨#[97]⟩) (by decide) | exact small (b := ⟨#[98]⟩) (by decide) | exact small (b := ⟨#[99]⟩) (by decide) | exact small (b := ⟨#[97, 255]⟩) (by decide)), _, rfl, hVW _ B⟩))) ?_
      rw [HH.out]
      first | simp only [V.wt, wtL, wtM, vOne] | skip
      have z0 : (⟨#[]⟩ : ByteArray).size = 0 := rfl
      have z1 : (⟨#[120]⟩ : ByteArray).size = 1 := rfl
      have z2 : (⟨#[97]⟩ : ByteArray).size = 1 := rfl
      have z3 : (⟨#[98]⟩ : ByteArray).size = 1 := rfl
      have z4 : (⟨#[99]⟩ : ByteArray).size = 1 := rfl
      have z5 : (⟨#[97, 255]⟩ : ByteArray).size = 2 := rfl
      omega
  · go_enter Tryd.func15, Tryd.ntmps15
    go_wp2_with fail
    (try simp only [Exit.inBlock, Exit.then])
    refine bodyPost_ret (v := .agg #[.int .i64 4, .bool false, .int .i64 0, .string ⟨#[]⟩, .slice (some ⟨w.heap.size + 1 + 1 + 1 + 1 + 1, 0, none⟩) 2 2, .slice none 0 0]) ?_ rfl ?_
    · rw [results_cell1 rfl]
      go_simp
    · have hVW := H1.out
      have hL := H2.out
      have hM := H3.out
      obtain ⟨hs, hs9, hw9⟩ := HS.out
      refine fa_fin (u := V.mk (4) false (0) ⟨#[]⟩ [V.mk k b i s l m, V.mk 5 false 0 ⟨#[]⟩ [] [(⟨#[97]⟩, vOne), (⟨#[99]⟩, vOne), (⟨#[98]⟩, vOne)]] []) (cs := [.int .i64 4, .bool false, .int .i64 0, .string ⟨#[]⟩, .slice (some ⟨w.heap.size + 1 + 1 + 1 + 1 + 1, 0, none⟩) 2 2, .slice none 0 0]) (six_allocs _ _ _ _ _ _ _).1 (fun B => lies_of (by constructor <;> omega) (by constructor <;> omega) (by decide) (headed_row _ 2) headed_nil (rowL (six_allocs _ _ _ _ _ _ _).2.2 rfl (fun j hj => by simp at hj; rcases (show j = 0 ∨ j = 1 by omega) with rfl | rfl; exact hVW _ B; exact lies_of (by constructor <;> omega) (by constructor <;> omega) (by decide) headed_nil (headed_row _ 3) (by rw [liesL]; trivial) (rowM (six_allocs _ _ _ _ _ _ _).2.1 rfl (fun j hj => by simp at hj; rcases (show j = 0 ∨ j = 1 ∨ j = 2 by omega) with rfl | rfl | rfl <;> exact ⟨(by first | exact small (b := ⟨#[97]⟩) (by decide) | exact small (b := ⟨#[98]⟩) (by decide) | exact small (b := ⟨#[99]⟩) (by decide) | exact small (b := ⟨#[97, 255]⟩) (by decide)), _, rfl, one_lies _⟩)))) (by rw [liesM]; trivial)) ?_
      rw [HH.out]
      first | simp only [V.wt, wtL, wtM, vOne] | skip
      have z0 : (⟨#[]⟩ : ByteArray).size = 0 := rfl
      have z1 : (⟨#[120]⟩ : ByteArray).size = 1 := rfl
      have z2 : (⟨#[97]⟩ : ByteArray).size = 1 := rfl
      have z3 : (⟨#[98]⟩ : ByteArray).size = 1 := rfl
      have z4 : (⟨#[99]⟩ : ByteArray).size = 1 := rfl
      have z5 : (⟨#[97, 255]⟩ : ByteArray).size = 2 := rfl
      omega
end Go.Proofs.YtljgofmmihmmfaaDoor
