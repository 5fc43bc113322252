/- joined: SamV CatJ -/
import Derived.Test.YtpmhdcmmlkjjmaaGreatDoorG14
import Derived.Laws.AppendOwnNone
/- same, of a value and its twin. -/
set_option linter.unusedSimpArgs false
set_option linter.unusedVariables false
namespace Go.Proofs.YtpmhdcmmlkjjmaaGreatDoor
open Go.RowKit
theorem two_below (w : World) (o o' : Obj) : Below w.heap.size w ((w.alloc o).alloc o') := ((Below.refl w.heap.size w).alloc (Nat.le_refl _) _).alloc (by rw [alloc_size]; omega) _
set_option maxHeartbeats 4000000 in
set_option maxRecDepth 100000 in
theorem samv_any (a : V) : ∀ (lv : Int) (S S' : Nat → Prop) (cs ds : List Value) (w : World), 0 ≤ lv → lv ≤ 61 → a.lies false w S cs → a.lies false w S' ds → (∀ x, S x → x < w.heap.size) → (∀ x, S' x → x < w.heap.size) →
    Calls Tryz.prog 13 #[.agg cs.toArray, .agg ds.toArray, .int .i64 lv] w (BPost true w) := by
  induction a using V.ind_v with
  | h k b i s l m ihl ihm =>
  intro lv S S' cs ds w hv0 hv1 hl hl' hS hS'
  rw [V.lies] at hl hl'
  obtain ⟨al, cl, bl, ol, am, cm, bm, om, rfl, hk, hi, hs, hal, ham, hl1, hm1, _⟩ := hl
  obtain ⟨al', cl', bl', ol', am', cm', bm', om', rfl, hk', hi', hs', hal', ham', hl1', hm1', _⟩ := hl'
  have HL : Hid (liesL false w S l bl ol) := hl1
  have HM : Hid (liesM false w S m bm om) := hm1
  have HL' : Hid (liesL false w S' l bl' ol') := hl1'
  have HM' : Hid (liesM false w S' m bm' om') := hm1'
  clear hl1 hm1 hl1' hm1'
  have hll : l.length ≤ 9223372036854775807 := Nat.le_trans hal.le hal.max
  have hml : m.length ≤ 9223372036854775807 := Nat.le_trans ham.le ham.max
  have hb0 := box_row w [.int .i64 k, .bool b, .int .i64 i, .string s, .slice al l.length cl, .slice am m.length cm] 25
  have hb1 : rowAt ((w.alloc (.cells #[.int .i64 k, .bool b, .int .i64 i, .string s, .slice al l.length cl, .slice am m.length cm] 25)).alloc (.cells #[.int .i64 k, .bool b, .int .i64 i, .string s, .slice al' l.length cl', .slice am' m.length cm'] 25)) w.heap.size 0 [.int .i64 k, .bool b, .int .i64 i, .string s, .slice al l.length cl, .slice am m.length cm] := hb0.keep (Below.heap_alloc _ _ _ (by rw [alloc_size]; omega))
  have hb2 : rowAt ((w.alloc (.cells #[.int .i64 k, .bool b, .int .i64 i, .string s, .slice al l.length cl, .slice am m.length cm] 25)).alloc (.cells #[.int .i64 k, .bool b, .int .i64 i, .string s, .slice al' l.length cl', .slice am' m.length cm'] 25)) (w.heap.size + 1) 0 [.int .i64 k, .bool b, .int .i64 i, .string s, .slice al' l.length cl', .slice am' m.length cm'] := by
    have := box_row (w.alloc (.cells #[.int .i64 k, .bool b, .int .i64 i, .string s, .slice al l.length cl, .slice am m.length cm] 25)) [.int .i64 k, .bool b, .int .i64 i, .string s, .slice al' l.length cl', .slice am' m.length cm'] 25
    rwa [alloc_size] at this
  have B0 := two_below w (.cells #[.int .i64 k, .bool b, .int .i64 i, .string s, .slice al l.length cl, .slice am m.length cm] 25) (.cells #[.int .i64 k, .bool b, .int .i64 i, .string s, .slice al' l.length cl', .slice am' m.length cm'] 25)
  have hz0 : ((w.alloc (.cells #[.int .i64 k, .bool b, .int .i64 i, .string s, .slice al l.length cl, .slice am m.length cm] 25)).alloc (.cells #[.int .i64 k, .bool b, .int .i64 i, .string s, .slice al' l.length cl', .slice am' m.length cm'] 25)).heap.size = w.heap.size + 1 + 1 := by rw [alloc_size, alloc_size]
  clear hb0
  by_cases hlv : 60 < lv
  · have y1 : lv > 60 := hlv
    have y2 : decide (60 < lv) = true := by simp [hlv]
    go_enter Tryz.func13, Tryz.ntmps13
    go_wp2_with fail
    go_ret
    exact ⟨rfl, B0⟩
  have y1 : ¬ lv > 60 := hlv
  have y2 : decide (60 < lv) = false := by simp [hlv]
  go_enter Tryz.func13, Tryz.ntmps13
  go_wp2_with fail
  generalize ((w.alloc (.cells #[.int .i64 k, .bool b, .int .i64 i, .string s, .slice al l.length cl, .slice am m.length cm] 25)).alloc (.cells #[.int .i64 k, .bool b, .int .i64 i, .string s, .slice al' l.length cl', .slice am' m.length cm'] 25)) = w0 at *
  go_loopw [7] (fun e wr => ∃ j : Nat, j ≤ l.length ∧ e = .int .i64 (j : Int) ∧ Below w0.heap.size w0 wr) (fun e _ => l.length - (RowKit.intOf e).toNat)
  case atStart => exact ⟨0, by omega, rfl, Below.refl _ _⟩
  case round =>
    obtain ⟨j, hj, rfl, bj⟩ := hrel
    obtain ⟨d0, d1, d2, d3, d4, d5⟩ := row6z (hb1.keep (bj.block _ (by omega)))
    obtain ⟨f0, f1, f2, f3, f4, f5⟩ := row6z (hb2.keep (bj.block _ (by omega)))
    by_cases hjl : j < l.length
    · have y3 : (j : Int) < l.length := by omega
      obtain ⟨hSb, csj, hrow, hlj⟩ := liesL_get HL.out j hjl
      obtain ⟨hSb', dsj, hrow', hlj'⟩ := liesL_get HL'.out j hjl
      obtain rfl : al = some ⟨bl, ol, none⟩ := hal.at_.resolve_left (by omega)
      obtain rfl : al' = some ⟨bl', ol', none⟩ := hal'.at_.resolve_left (by omega)
      have hk0 : ∀ x, S x → wr.heap[x]? = w.heap[x]? := fun x hx => (bj.block x (by have := hS x hx; omega)).trans (B0.block x (hS x hx))
      have hk1 : ∀ x, S' x → wr.heap[x]? = w.heap[x]? := fun x hx => (bj.block x (by have := hS' x hx; omega)).trans (B0.block x (hS' x hx))
      obtain ⟨ek, eb, ei, es, eal, enl, ecl, eam, enm, ecm, rfl⟩ := V.ten hlj
      obtain ⟨ek', eb', ei', es', eal', enl', ecl', eam', enm', ecm', rfl⟩ := V.ten hlj'
      have rw0 := row6 (hrow.keep (hk0 _ hSb))
      have rw1 := row6 (hrow'.keep (hk1 _ hSb'))
      have hbl : bl < wr.heap.size := World.block_lt_of_cell? wr _ rw0.1
      have hbl' : bl' < wr.heap.size := World.block_lt_of_cell? wr _ rw1.1
      have hzr := bj.size
      have p0 : ∀ x : Sub wr.heap.size wr, _ := sub_cell rw0.1 hbl
      have p1 : ∀ x : Sub wr.heap.size wr, _ := sub_cell rw0.2.1 hbl
      have p2 : ∀ x : Sub wr.heap.size wr, _ := sub_cell rw0.2.2.1 hbl
      have p3 : ∀ x : Sub wr.heap.size wr, _ := sub_cell rw0.2.2.2.1 hbl
      have p4 : ∀ x : Sub wr.heap.size wr, _ := sub_cell rw0.2.2.2.2.1 hbl
      have p5 : ∀ x : Sub wr.heap.size wr, _ := sub_cell rw0.2.2.2.2.2 hbl
      have q0 : ∀ x : Sub wr.heap.size wr, _ := sub_cell rw1.1 hbl'
      have q1 : ∀ x : Sub wr.heap.size wr, _ := sub_cell rw1.2.1 hbl'
      have q2 : ∀ x : Sub wr.heap.size wr, _ := sub_cell rw1.2.2.1 hbl'
      have q3 : ∀ x : Sub wr.heap.size wr, _ := sub_cell rw1.2.2.2.1 hbl'
      have q4 : ∀ x : Sub wr.heap.size wr, _ := sub_cell rw1.2.2.2.2.1 hbl'
      have q5 : ∀ x : Sub wr.heap.size wr, _ := sub_cell rw1.2.2.2.2.2 hbl'
      have u4 : ∀ x : Sub wr.heap.size wr, _ := sub_cell d4 (by omega)
      have v4 : ∀ x : Sub wr.heap.size wr, _ := sub_cell f4 (by omega)
      have CI : Hid (∀ x : Sub wr.heap.size wr, Calls Tryz.prog 13 #[.agg #[.int .i64 ek, .bool eb, .int .i64 ei, .string es, .slice eal enl ecl, .slice eam enm ecm], .agg #[.int .i64 ek', .bool eb', .int .i64 ei', .string es', .slice eal' enl' ecl', .slice eam' enm' ecm'], .int .i64 (lv + 1)] x.w fun e w'' => e = .returned (.bool true) ∧ ∃ y : Sub wr.heap.size wr, w'' = y.w) :=
        sub_call fun w' hb => by
          refine (ihl l[j] (List.getElem_mem hjl) (lv + 1) S S' _ _ w' (by omega) (by omega) (V.lies_keep (fun h => h) (fun x hx => (hb.block x (by have := hS x hx; omega)).trans (hk0 x hx)) (fun _ h => h) _ hlj) (V.lies_keep (fun h => h) (fun x hx => (hb.block x (by have := hS' x hx; omega)).trans (hk1 x hx)) (fun _ h => h) _ hlj') (fun x hx => by have := hS x hx; have := hb.size; omega) (fun x hx => by have := hS' x hx; have := hb.size; omega)).mono ?_
          rintro e w'' ⟨he, h2⟩
          exact ⟨he, hb.trans (h2.mono hb.size)⟩
      clear hlj hlj' hrow hrow' rw0 rw1 hk0 hk1
      go_wp2_with fail
      refine wp_region_sub wr.heap.size (by kernel_rfl) (by kernel_rfl) ?_
      repeat (go_big_quiet_step (exact CI.out _))
      refine wpQuiet_nil ?_
      rintro _ ⟨⟨wq, bq⟩, rfl⟩
      go_wp2_with fail
      go_roundw
      case rel => exact ⟨j + 1, by omega, by go_num, bj.trans (bq.mono hzr)⟩
      case measure => simp [RowKit.intOf]; omega
    · obtain rfl : j = l.length := by omega
      have y3 : ¬ (l.length : Int) < l.length := by omega
      go_wp2_with fail
      rename World => wA
      go_loopw [8] (fun e wr => ∃ j : Nat, j ≤ m.length ∧ e = .int .i64 (j : Int) ∧ Below w0.heap.size w0 wr) (fun e _ => m.length - (RowKit.intOf e).toNat)
      case atStart => exact ⟨0, by omega, rfl, bj⟩
      case round =>
        clear bj d0 d1 d2 d3 d4 d5 f0 f1 f2 f3 f4 f5
        obtain ⟨j, hj, rfl, bj⟩ := hrel
        obtain ⟨d0, d1, d2, d3, d4, d5⟩ := row6z (hb1.keep (bj.block _ (by omega)))
        obtain ⟨f0, f1, f2, f3, f4, f5⟩ := row6z (hb2.keep (bj.block _ (by omega)))
        by_cases hjl : j < m.length
        · have y4 : (j : Int) < m.length := by omega
          obtain ⟨hSb, hks, csj, hrow, hlj⟩ := liesM_get HM.out j hjl
          obtain ⟨hSb', hks', dsj, hrow', hlj'⟩ := liesM_get HM'.out j hjl
          obtain rfl : am = some ⟨bm, om, none⟩ := ham.at_.resolve_left (by omega)
          obtain rfl : am' = some ⟨bm', om', none⟩ := ham'.at_.resolve_left (by omega)
          have hk0 : ∀ x, S x → wr.heap[x]? = w.heap[x]? := fun x hx => (bj.block x (by have := hS x hx; omega)).trans (B0.block x (hS x hx))
          have hk1 : ∀ x, S' x → wr.heap[x]? = w.heap[x]? := fun x hx => (bj.block x (by have := hS' x hx; omega)).trans (B0.block x (hS' x hx))
          obtain ⟨ek, eb, ei, es, eal, enl, ecl, eam, enm, ecm, rfl⟩ := V.ten hlj
          obtain ⟨ek', eb', ei', es', eal', enl', ecl', eam', enm', ecm', rfl⟩ := V.ten hlj'
          have rw0 := row7 (hrow.keep (hk0 _ hSb))
          have rw1 := row7 (hrow'.keep (hk1 _ hSb'))
          have hbl : bm < wr.heap.size := World.block_lt_of_cell? wr _ rw0.1
          have hbl' : bm' < wr.heap.size := World.block_lt_of_cell? wr _ rw1.1
          have hzr := bj.size
          have k0 : ∀ x : Sub wr.heap.size wr, _ := sub_cell rw0.1 hbl
          have k1 : ∀ x : Sub wr.heap.size wr, _ := sub_cell rw1.1 hbl'
          have u5 : ∀ x : Sub wr.heap.size wr, _ := sub_cell d5 (by omega)
          have v5 : ∀ x : Sub wr.heap.size wr, _ := sub_cell f5 (by omega)
          have p0 : ∀ x : Sub wr.heap.size wr, _ := sub_cell rw0.2.1 hbl
          have p1 : ∀ x : Sub wr.heap.size wr, _ := sub_cell rw0.2.2.1 hbl
          have p2 : ∀ x : Sub wr.heap.size wr, _ := sub_cell rw0.2.2.2.1 hbl
          have p3 : ∀ x : Sub wr.heap.size wr, _ := sub_cell rw0.2.2.2.2.1 hbl
          have p4 : ∀ x : Sub wr.heap.size wr, _ := sub_cell rw0.2.2.2.2.2.1 hbl
          have p5 : ∀ x : Sub wr.heap.size wr, _ := sub_cell rw0.2.2.2.2.2.2 hbl
          have q0 : ∀ x : Sub wr.heap.size wr, _ := sub_cell rw1.2.1 hbl'
          have q1 : ∀ x : Sub wr.heap.size wr, _ := sub_cell rw1.2.2.1 hbl'
          have q2 : ∀ x : Sub wr.heap.size wr, _ := sub_cell rw1.2.2.2.1 hbl'
          have q3 : ∀ x : Sub wr.heap.size wr, _ := sub_cell rw1.2.2.2.2.1 hbl'
          have q4 : ∀ x : Sub wr.heap.size wr, _ := sub_cell rw1.2.2.2.2.2.1 hbl'
          have q5 : ∀ x : Sub wr.heap.size wr, _ := sub_cell rw1.2.2.2.2.2.2 hbl'
          have CI : Hid (∀ x : Sub wr.heap.size wr, Calls Tryz.prog 13 #[.agg #[.int .i64 ek, .bool eb, .int .i64 ei, .string es, .slice eal enl ecl, .slice eam enm ecm], .agg #[.int .i64 ek', .bool eb', .int .i64 ei', .string es', .slice eal' enl' ecl', .slice eam' enm' ecm'], .int .i64 (lv + 1)] x.w fun e w'' => e = .returned (.bool true) ∧ ∃ y : Sub wr.heap.size wr, w'' = y.w) :=
            sub_call fun w' hb => by
              refine (ihm m[j] (List.getElem_mem hjl) (lv + 1) S S' _ _ w' (by omega) (by omega) (V.lies_keep (fun h => h) (fun x hx => (hb.block x (by have := hS x hx; omega)).trans (hk0 x hx)) (fun _ h => h) _ hlj) (V.lies_keep (fun h => h) (fun x hx => (hb.block x (by have := hS' x hx; omega)).trans (hk1 x hx)) (fun _ h => h) _ hlj') (fun x hx => by have := hS x hx; have := hb.size; omega) (fun x hx => by have := hS' x hx; have := hb.size; omega)).mono ?_
              rintro e w'' ⟨he, h2⟩
              exact ⟨he, hb.trans (h2.mono hb.size)⟩
          generalize (m[j]).1 = key at *
          have yK : (key.toList == key.toList) = true := by simp
          have yK2 : (key.toList != key.toList) = false := by simp
          clear hlj hlj' hrow hrow' rw0 rw1 hk0 hk1
          go_wp2_with fail
          refine wp_region_sub wr.heap.size (by kernel_rfl) (by kernel_rfl) ?_
          repeat (go_big_quiet_step (exact CI.out _))
          refine wpQuiet_nil ?_
          rintro _ ⟨⟨wq, bq⟩, rfl⟩
          go_wp2_with fail
          go_roundw
          case rel => exact ⟨j + 1, by omega, by go_num, bj.trans (bq.mono hzr)⟩
          case measure => simp [RowKit.intOf]; omega
        · obtain rfl : j = m.length := by omega
          have y4 : ¬ (m.length : Int) < m.length := by omega
          go_wp2_with fail
          go_ret
          exact ⟨rfl, B0.trans (bj.mono (by omega))⟩
end Go.Proofs.YtpmhdcmmlkjjmaaGreatDoor
/- append of a whole slice to a row of one's own, by what its elements are. -/
set_option maxRecDepth 100000
namespace Go.Proofs.YtpmhdcmmlkjjmaaGreatDoor
open Go.RowKit
/-- rows beside one another, as one row of cells -/
theorem flatG {w : World} {sz b : Nat} : ∀ (L : List (List Value)) (o : Nat), (∀ (j : Nat) (h : j < L.length), rowAt w b (o + j * sz) L[j]) → (∀ x ∈ L, x.length = sz) →
    (∀ j u, L.flatten[j]? = some u → w.cell? ⟨b, o + j, none⟩ = some u) ∧ L.flatten.length = L.length * sz ∧ ∀ (j : Nat) (h : j < L.length), (L.flatten.drop (j * sz)).take sz = L[j]
  | [], o, _, _ => ⟨fun j u h => by simp at h, by simp, fun j h => by simp at h⟩
  | x :: t, o, hr, hl => by
    have hx : x.length = sz := hl x (List.mem_cons_self ..)
    obtain ⟨h1, h2, h3⟩ := flatG t (o + sz) (fun j h => by
      have := hr (j + 1) (by simp; omega)
      rw [List.getElem_cons_succ] at this
      have e : o + (j + 1) * sz = o + sz + j * sz := by rw [Nat.succ_mul]; omega
      rwa [e] at this) (fun y hy => hl y (List.mem_cons_of_mem _ hy))
    refine ⟨fun j u hu => ?_, by rw [List.flatten_cons, List.length_append, h2, hx, List.length_cons, Nat.succ_mul]; omega, fun j hj => ?_⟩
    · rw [List.flatten_cons] at hu
      by_cases hjx : j < x.length
      · rw [List.getElem?_append_left hjx] at hu
        have := hr 0 (by simp) j u hu
        simpa using this
      · rw [List.getElem?_append_right (by omega)] at hu
        have := h1 (j - x.length) u hu
        rwa [show o + sz + (j - x.length) = o + j by omega] at this
    · cases j with
      | zero => simp [← hx]
      | succ j =>
        have := h3 j (by simpa using hj)
        rw [List.flatten_cons, List.getElem_cons_succ, ← this, show (j + 1) * sz = x.length + j * sz by rw [Nat.succ_mul]; omega]
        congr 1
        simp [List.drop_append]
section
variable {α : Type} {E : α → World → (Nat → Prop) → List Value → Prop} {ty sz : Nat} {P : Program}
theorem chunk_right {xs cx : List Value} {n j sz : Nat} (hl : xs.length = n * sz) (hj : n ≤ j) : ((xs ++ cx).drop (j * sz)).take sz = (cx.drop ((j - n) * sz)).take sz := by
  have e : j * sz = xs.length + (j - n) * sz := by rw [hl, ← Nat.add_mul]; congr 1; omega
  rw [e]
  congr 1
  simp [List.drop_append]
theorem OwnR.cat (K : KeepE E) {w w' : World} {base : Nat} {S Sx : Nat → Prop} {v v' : Value} {l ys : List α} {news xs : List Value}
    (h3 : ∀ b, S b → base ≤ b ∧ b < w.heap.size ∧ some b ≠ v.ownBlock) (h1 : w.ownsRow base ty sz v l.length xs) (h2 : ∀ (j : Nat) (h : j < l.length), E l[j] w S ((xs.drop (j * sz)).take sz))
    (hE : ∀ (j : Nat) (h : j < ys.length), E ys[j] w Sx ((news.drop (j * sz)).take sz)) (hSx : ∀ b, Sx b → base ≤ b ∧ b < w.heap.size ∧ some b ≠ v.ownBlock)
    (ho : w'.ownsRow base ty sz v' (l.length + ys.length) (xs ++ news)) (hg : w.grownBy w' v.ownBlock) (hn : v.ownBlock = v'.ownBlock ∨ ∀ g, v'.ownBlock = some g → w.heap.size ≤ g) :
    OwnR E ty sz w' base (fun b => S b ∨ Sx b) v' (l ++ ys) := by
  have hall : ∀ b, S b ∨ Sx b → base ≤ b ∧ b < w.heap.size ∧ some b ≠ v.ownBlock := fun b hb => hb.elim (h3 b) (hSx b)
  have hb : ∀ b, S b ∨ Sx b → w'.heap[b]? = w.heap[b]? := fun b hb => hg.block b (hall b hb).2.1 (hall b hb).2.2
  refine ⟨⟨xs ++ news, by simpa using ho, fun j hj => ?_⟩, fun b hS => ⟨(hall b hS).1, Nat.lt_of_lt_of_le (hall b hS).2.1 hg.size, ?_⟩⟩
  · by_cases hjl : j < l.length
    · rw [List.getElem_append_left hjl, chunk_left h1.1 hjl]
      exact K _ _ _ _ _ _ (fun b h => hb b (.inl h)) (fun _ h => .inl h) (h2 j hjl)
    · have hj' : j - l.length < ys.length := by simp at hj; omega
      rw [chunk_right h1.1 (by omega), List.getElem_append_right (by omega)]
      exact K _ _ _ _ _ _ (fun b h => hb b (.inr h)) (fun _ h => .inr h) (hE _ hj')
  · rcases hn with e | e
    · rw [← e]; exact (hall b hS).2.2
    · intro h
      have := e b h.symm
      have := (hall b hS).2.1
      omega
/-- append(row, xs...) -/
theorem wpl_catO (K : KeepE E) (W : World) {ops : Array Oper} {rest : List Oper} {o : Oper} {a : Act} {Q : Exit → Act → World → Prop} (hgd : o.guard = none) (s x : Operand) (t : TypeId)
    (ho : o.op = .call { callee := .builtin .append, args := #[s, x], argTypes := #[t, t] })
    (base : Nat) (i : TypeInfo) (z : Value) (bytes : Nat) (ht : P.underlying t = some (.slice ty)) (hi : P.info? ty = some i) (hz : i.zero = some z)
    (hsize : i.size = sz) (hby : i.bytes = bytes) (hzs : z.cells.size = sz) (hsz : 0 < sz) (hb200 : bytes ≤ 200)
    {S T : Nat → Prop} (v : Value) {l : List α} (ys : List α) (hs : a.eval s = v) (hown : OwnR E ty sz W base S v l)
    (ao : Option Addr) (c b q : Nat) (hx : a.eval x = .slice ao ys.length c) (hd : Headed ao ys.length c b q) (L : List (List Value)) (hL : L.length = ys.length)
    (hrow : ∀ (j : Nat) (h : j < L.length), rowAt W b (q + j * sz) L[j]) (hlL : ∀ x ∈ L, x.length = sz ∧ ∀ u ∈ x, u.oneCell' = true) (hE : ∀ (j : Nat) (h : j < ys.length), E ys[j] W T (L[j]'(by omega)))
    (hT : ∀ b, T b → base ≤ b ∧ b < W.heap.size ∧ some b ≠ v.ownBlock) (hlen : l.length + ys.length ≤ 4294967296) (hbase : base ≤ W.heap.size)
    (h : ∀ v' w', OwnR E ty sz w' base (fun b => S b ∨ T b) v' (l ++ ys) → W.grownBy w' v.ownBlock → (v.ownBlock = v'.ownBlock ∨ ∀ g, v'.ownBlock = some g → W.heap.size ≤ g) → wpList P ops Q rest (a.put o.dst v') w') : wpList P ops Q (o :: rest) a W := by
  obtain ⟨⟨xs, h1, h2⟩, h3⟩ := hown
  obtain ⟨f1, f2, f3⟩ := flatG L q hrow (fun x hx => (hlL x hx).1)
  have f4 : ∀ u ∈ L.flatten, u.oneCell' = true := fun u hu => by
    obtain ⟨y, hy, hu'⟩ := List.mem_flatten.1 hu
    exact (hlL y hy).2 u hu'
  have hEE : ∀ (j : Nat) (h : j < ys.length), E ys[j] W T ((L.flatten.drop (j * sz)).take sz) := fun j hj => by
    rw [f3 j (by omega)]; exact hE j hj
  rw [hL] at f2
  have fin : ∀ v' w', w'.ownsRow base ty sz v' (l.length + ys.length) (xs ++ L.flatten) → W.grownBy w' v.ownBlock → (v.ownBlock = v'.ownBlock ∨ ∀ g, v'.ownBlock = some g → W.heap.size ≤ g) → wpList P ops Q rest (a.put o.dst v') w' := fun v' w' r1 r2 r3 =>
    h v' w' (OwnR.cat K h3 h1 h2 hEE hT r1 r2 r3) r2 r3
  by_cases hy : ys.length = 0
  · have hn0 : L.flatten = [] := List.eq_nil_of_length_eq_zero (by rw [f2, hy]; simp)
    rw [hn0, hy] at fin
    rw [hy] at hx hd
    cases ao with
    | none =>
      have hc := hd.nil rfl
      subst hc
      exact wpList_append_own_none hgd s x t ho base ty i sz ht hi v l.length xs hs h1 hx (fin _ _ (by simpa using h1) (World.grownBy.refl _ _) (.inl rfl))
    | some ad =>
      rcases h1.2 with ⟨rfl, e0⟩ | ⟨g, cap, cur, rfl, hb, hg, hc1, hc2, hc3, hc4⟩
      · refine wpList_append_own W hgd s x t ho base ty i z sz bytes ht hi hz hsize hby hzs hsz _ l.length xs hs h1 ad 0 c [] hx (by simp) (fun j u hu => by simp at hu) (fun u hu => by simp at hu) (by simp only [maxLen]; omega) (by have := Nat.mul_le_mul (show l.length + 0 ≤ 4294967296 by omega) hb200; omega) hbase ?_
        intro v' w' r1 r2 r3
        obtain rfl := r3.2 ⟨rfl, rfl⟩
        exact fin _ _ r1 r2 (.inl rfl)
      · obtain ⟨w', hrun, r1, r2⟩ := run_append_fits (P := P) W base t o.type ty i sz ht hi hsize g l.length cap xs h1 ad 0 c [] (by simp) (fun j u hu => by simp at hu) (fun u hu => by simp at hu) (by omega)
        refine wpList_plain hgd fun K' hK' => ?_
        unfold Oper.wp
        simp [execOp, ho, resolve, invoke, builtin, hs, hx, hrun, Result.andThen]
        exact hK' _ _ (fin _ _ r1 r2 (.inl rfl))
  · obtain rfl : ao = some ⟨b, q, none⟩ := hd.at_.resolve_left hy
    obtain ⟨g, cap, w', hrun, r1, r2, r3⟩ := run_append_new (P := P) W base t o.type ty i z sz bytes ht hi hz hsize hby hzs hsz v l.length xs h1 ⟨b, q, none⟩ ys.length c L.flatten f2 (fun j u hu => by rw [Go.WideShapes.add_plain]; exact f1 j u hu) f4 (by simp only [maxLen]; omega) (by have := Nat.mul_le_mul hlen hb200; omega) hbase (by omega)
    refine wpList_plain hgd fun K' hK' => ?_
    unfold Oper.wp
    simp [execOp, ho, resolve, invoke, builtin, hs, hx, hrun, Result.andThen]
    refine hK' _ _ (fin _ _ r1 r2 ?_)
    rcases r3 with e | e
    · exact .inl (by rw [e]; simp [Value.ownBlock])
    · exact .inr (fun g' hg' => by have : g = g' := by simpa [Value.ownBlock] using hg'
                                   omega)
end
end Go.Proofs.YtpmhdcmmlkjjmaaGreatDoor
