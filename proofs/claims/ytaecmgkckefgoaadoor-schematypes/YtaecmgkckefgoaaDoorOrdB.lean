import Derived.Test.YtaecmgkckefgoaaDoorOrdA
/- value.order, value.orderMembers. -/
set_option linter.unusedSimpArgs false
set_option linter.unusedVariables false
namespace Go.Proofs.YtaecmgkckefgoaaDoor
open Go.RowKit Go.Lib
set_option maxHeartbeats 4000000 in
set_option maxRecDepth 100000 in
theorem orderMem_any (p q : Mem) (cs cs' : List Value) (w : World) (h6 : ∃ ek eb ei es eal enl ecl eam enm ecm, cs = [.int .i64 ek, .bool eb, .int .i64 ei, .string es, .slice eal enl ecl, .slice eam enm ecm]) (h6' : ∃ fk fb fi fs fal fnl fcl fam fnm fcm, cs' = [.int .i64 fk, .bool fb, .int .i64 fi, .string fs, .slice fal fnl fcl, .slice fam fnm fcm])
    (ih : ∀ W, Below w.heap.size w W → Calls Tryd.prog 28 #[.agg cs.toArray, .agg cs'.toArray] W (JPost (ordV p.2 q.2) W)) :
    Calls Tryd.prog 38 #[.agg (.string p.1 :: cs).toArray, .agg (.string q.1 :: cs').toArray] w (JPost (ordE p q) w) := by
  obtain ⟨ek, eb, ei, es, eal, enl, ecl, eam, enm, ecm, rfl⟩ := h6
  obtain ⟨fk, fb, fi, fs, fal, fnl, fcl, fam, fnm, fcm, rfl⟩ := h6'
  obtain ⟨pk, x⟩ := p
  obtain ⟨qk, y⟩ := q
  have B2 : Below w.heap.size w ((w.alloc (.cells #[.string pk, .int .i64 ek, .bool eb, .int .i64 ei, .string es, .slice eal enl ecl, .slice eam enm ecm] 51)).alloc (.cells #[.string qk, .int .i64 fk, .bool fb, .int .i64 fi, .string fs, .slice fal fnl fcl, .slice fam fnm fcm] 51)) := ((Below.refl _ _).alloc (Nat.le_refl _) _).alloc (by rw [alloc_size]; omega) _
  have hz2 : ((w.alloc (.cells #[.string pk, .int .i64 ek, .bool eb, .int .i64 ei, .string es, .slice eal enl ecl, .slice eam enm ecm] 51)).alloc (.cells #[.string qk, .int .i64 fk, .bool fb, .int .i64 fi, .string fs, .slice fal fnl fcl, .slice fam fnm fcm] 51)).heap.size = w.heap.size + 2 := by rw [alloc_size, alloc_size]
  have g1 := alloc2_keep1 w (.cells #[.string pk, .int .i64 ek, .bool eb, .int .i64 ei, .string es, .slice eal enl ecl, .slice eam enm ecm] 51) (.cells #[.string qk, .int .i64 fk, .bool fb, .int .i64 fi, .string fs, .slice fal fnl fcl, .slice fam fnm fcm] 51)
  have m0 : ((w.alloc (.cells #[.string pk, .int .i64 ek, .bool eb, .int .i64 ei, .string es, .slice eal enl ecl, .slice eam enm ecm] 51)).alloc (.cells #[.string qk, .int .i64 fk, .bool fb, .int .i64 fi, .string fs, .slice fal fnl fcl, .slice fam fnm fcm] 51)).cell? ⟨w.heap.size, 0, none⟩ = some (.string pk) := by rw [cell_of_block g1]; rfl
  have m1 : ((w.alloc (.cells #[.string pk, .int .i64 ek, .bool eb, .int .i64 ei, .string es, .slice eal enl ecl, .slice eam enm ecm] 51)).alloc (.cells #[.string qk, .int .i64 fk, .bool fb, .int .i64 fi, .string fs, .slice fal fnl fcl, .slice fam fnm fcm] 51)).cell? ⟨w.heap.size, 1, none⟩ = some (.int .i64 ek) := by rw [cell_of_block g1]; rfl
  have m2 : ((w.alloc (.cells #[.string pk, .int .i64 ek, .bool eb, .int .i64 ei, .string es, .slice eal enl ecl, .slice eam enm ecm] 51)).alloc (.cells #[.string qk, .int .i64 fk, .bool fb, .int .i64 fi, .string fs, .slice fal fnl fcl, .slice fam fnm fcm] 51)).cell? ⟨w.heap.size, 2, none⟩ = some (.bool eb) := by rw [cell_of_block g1]; rfl
  have m3 : ((w.alloc (.cells #[.string pk, .int .i64 ek, .bool eb, .int .i64 ei, .string es, .slice eal enl ecl, .slice eam enm ecm] 51)).alloc (.cells #[.string qk, .int .i64 fk, .bool fb, .int .i64 fi, .string fs, .slice fal fnl fcl, .slice fam fnm fcm] 51)).cell? ⟨w.heap.size, 3, none⟩ = some (.int .i64 ei) := by rw [cell_of_block g1]; rfl
  have m4 : ((w.alloc (.cells #[.string pk, .int .i64 ek, .bool eb, .int .i64 ei, .string es, .slice eal enl ecl, .slice eam enm ecm] 51)).alloc (.cells #[.string qk, .int .i64 fk, .bool fb, .int .i64 fi, .string fs, .slice fal fnl fcl, .slice fam fnm fcm] 51)).cell? ⟨w.heap.size, 4, none⟩ = some (.string es) := by rw [cell_of_block g1]; rfl
  have m5 : ((w.alloc (.cells #[.string pk, .int .i64 ek, .bool eb, .int .i64 ei, .string es, .slice eal enl ecl, .slice eam enm ecm] 51)).alloc (.cells #[.string qk, .int .i64 fk, .bool fb, .int .i64 fi, .string fs, .slice fal fnl fcl, .slice fam fnm fcm] 51)).cell? ⟨w.heap.size, 5, none⟩ = some (.slice eal enl ecl) := by rw [cell_of_block g1]; rfl
  have m6 : ((w.alloc (.cells #[.string pk, .int .i64 ek, .bool eb, .int .i64 ei, .string es, .slice eal enl ecl, .slice eam enm ecm] 51)).alloc (.cells #[.string qk, .int .i64 fk, .bool fb, .int .i64 fi, .string fs, .slice fal fnl fcl, .slice fam fnm fcm] 51)).cell? ⟨w.heap.size, 6, none⟩ = some (.slice eam enm ecm) := by rw [cell_of_block g1]; rfl
  have hc := ih _ B2
  clear ih g1
  simp only at hc
  by_cases hk : pk.toList = qk.toList
  · have HF : Hid (ordE (pk, x) (qk, y) = ordV x y) := by show _ = _; simp [ordE, hk]
    have yK : (pk.toList == qk.toList) = true := by rw [beq_iff_eq]; exact hk
    clear hk
    generalize ordV x y = c at *
    go_enter Tryd.func38, Tryd.ntmps38
    go_wp2_with fail
    refine hc.mono ?_
    rintro e w3 ⟨rfl, b3⟩
    go_wp2_with fail
    go_ret
    rw [HF.out]
    exact ⟨rfl, B2.trans (b3.mono (by omega))⟩
  · have HF : Hid (ordE (pk, x) (qk, y) = cmpS pk qk) := by show _ = _; simp [ordE, hk]
    have yK : (pk.toList == qk.toList) = false := by rw [beq_eq_false_iff_ne]; exact hk
    have hc2 := scompare_any pk qk ((w.alloc (.cells #[.string pk, .int .i64 ek, .bool eb, .int .i64 ei, .string es, .slice eal enl ecl, .slice eam enm ecm] 51)).alloc (.cells #[.string qk, .int .i64 fk, .bool fb, .int .i64 fi, .string fs, .slice fal fnl fcl, .slice fam fnm fcm] 51))
    generalize cmpS pk qk = c at *
    clear hc
    go_enter Tryd.func38, Tryd.ntmps38
    go_wp2_with fail
    refine hc2.mono ?_
    rintro e w3 ⟨rfl, b3⟩
    go_wp2_with fail
    go_ret
    rw [HF.out]
    exact ⟨rfl, B2.trans (b3.mono (by omega))⟩
set_option maxHeartbeats 4000000 in
set_option maxRecDepth 100000 in
theorem order_any (v : V) : ∀ (u : V) (R R' : Bool) (S S' : Nat → Prop) (cs cs' : List Value) (w : World), v.lies R w S cs → u.lies R' w S' cs' → (∀ b, S b → b < w.heap.size) → (∀ b, S' b → b < w.heap.size) →
    Calls Tryd.prog 28 #[.agg cs.toArray, .agg cs'.toArray] w (JPost (ordV v u) w) := by
  induction v using V.ind_v with
  | h k b i s l m ihl ihm =>
  intro u R R' S S' cs cs' w hv hu hS hS'
  obtain ⟨k', b', i', s', l', m'⟩ := u
  rw [V.lies] at hv hu
  obtain ⟨al, cl, bl, ol, am, cm, bm, om, rfl, hk, hi, hs, hal, ham, hl1, hm1, _⟩ := hv
  obtain ⟨al', cl', bl', ol', am', cm', bm', om', rfl, hk', hi', hs', hal', ham', hl1', hm1', _⟩ := hu
  have B2 : Below w.heap.size w ((w.alloc (.cells #[.int .i64 k, .bool b, .int .i64 i, .string s, .slice al l.length cl, .slice am m.length cm] 29)).alloc (.cells #[.int .i64 k', .bool b', .int .i64 i', .string s', .slice al' l'.length cl', .slice am' m'.length cm'] 29)) := ((Below.refl _ _).alloc (Nat.le_refl _) _).alloc (by rw [alloc_size]; omega) _
  have hz2 : ((w.alloc (.cells #[.int .i64 k, .bool b, .int .i64 i, .string s, .slice al l.length cl, .slice am m.length cm] 29)).alloc (.cells #[.int .i64 k', .bool b', .int .i64 i', .string s', .slice al' l'.length cl', .slice am' m'.length cm'] 29)).heap.size = w.heap.size + 2 := by rw [alloc_size, alloc_size]
  have g1 := alloc2_keep1 w (.cells #[.int .i64 k, .bool b, .int .i64 i, .string s, .slice al l.length cl, .slice am m.length cm] 29) (.cells #[.int .i64 k', .bool b', .int .i64 i', .string s', .slice al' l'.length cl', .slice am' m'.length cm'] 29)
  have m0 : ((w.alloc (.cells #[.int .i64 k, .bool b, .int .i64 i, .string s, .slice al l.length cl, .slice am m.length cm] 29)).alloc (.cells #[.int .i64 k', .bool b', .int .i64 i', .string s', .slice al' l'.length cl', .slice am' m'.length cm'] 29)).cell? ⟨w.heap.size, 0, none⟩ = some (.int .i64 k) := by rw [cell_of_block g1]; rfl
  have m1 : ((w.alloc (.cells #[.int .i64 k, .bool b, .int .i64 i, .string s, .slice al l.length cl, .slice am m.length cm] 29)).alloc (.cells #[.int .i64 k', .bool b', .int .i64 i', .string s', .slice al' l'.length cl', .slice am' m'.length cm'] 29)).cell? ⟨w.heap.size, 1, none⟩ = some (.bool b) := by rw [cell_of_block g1]; rfl
  have m2 : ((w.alloc (.cells #[.int .i64 k, .bool b, .int .i64 i, .string s, .slice al l.length cl, .slice am m.length cm] 29)).alloc (.cells #[.int .i64 k', .bool b', .int .i64 i', .string s', .slice al' l'.length cl', .slice am' m'.length cm'] 29)).cell? ⟨w.heap.size, 2, none⟩ = some (.int .i64 i) := by rw [cell_of_block g1]; rfl
  have m3 : ((w.alloc (.cells #[.int .i64 k, .bool b, .int .i64 i, .string s, .slice al l.length cl, .slice am m.length cm] 29)).alloc (.cells #[.int .i64 k', .bool b', .int .i64 i', .string s', .slice al' l'.length cl', .slice am' m'.length cm'] 29)).cell? ⟨w.heap.size, 3, none⟩ = some (.string s) := by rw [cell_of_block g1]; rfl
  have m4 : ((w.alloc (.cells #[.int .i64 k, .bool b, .int .i64 i, .string s, .slice al l.length cl, .slice am m.length cm] 29)).alloc (.cells #[.int .i64 k', .bool b', .int .i64 i', .string s', .slice al' l'.length cl', .slice am' m'.length cm'] 29)).cell? ⟨w.heap.size, 4, none⟩ = some (.slice al l.length cl) := by rw [cell_of_block g1]; rfl
  have m5 : ((w.alloc (.cells #[.int .i64 k, .bool b, .int .i64 i, .string s, .slice al l.length cl, .slice am m.length cm] 29)).alloc (.cells #[.int .i64 k', .bool b', .int .i64 i', .string s', .slice al' l'.length cl', .slice am' m'.length cm'] 29)).cell? ⟨w.heap.size, 5, none⟩ = some (.slice am m.length cm) := by rw [cell_of_block g1]; rfl
  have HL : Hid (liesL R ((w.alloc (.cells #[.int .i64 k, .bool b, .int .i64 i, .string s, .slice al l.length cl, .slice am m.length cm] 29)).alloc (.cells #[.int .i64 k', .bool b', .int .i64 i', .string s', .slice al' l'.length cl', .slice am' m'.length cm'] 29)) S l bl ol) := liesL_keep (fun h => h) (fun x hx => B2.block x (hS x hx)) (fun _ h => h) _ hl1
  have HL' : Hid (liesL R' ((w.alloc (.cells #[.int .i64 k, .bool b, .int .i64 i, .string s, .slice al l.length cl, .slice am m.length cm] 29)).alloc (.cells #[.int .i64 k', .bool b', .int .i64 i', .string s', .slice al' l'.length cl', .slice am' m'.length cm'] 29)) S' l' bl' ol') := liesL_keep (fun h => h) (fun x hx => B2.block x (hS' x hx)) (fun _ h => h) _ hl1'
  have HM : Hid (liesM R ((w.alloc (.cells #[.int .i64 k, .bool b, .int .i64 i, .string s, .slice al l.length cl, .slice am m.length cm] 29)).alloc (.cells #[.int .i64 k', .bool b', .int .i64 i', .string s', .slice al' l'.length cl', .slice am' m'.length cm'] 29)) S m bm om) := liesM_keep (fun h => h) (fun x hx => B2.block x (hS x hx)) (fun _ h => h) _ hm1
  have HM' : Hid (liesM R' ((w.alloc (.cells #[.int .i64 k, .bool b, .int .i64 i, .string s, .slice al l.length cl, .slice am m.length cm] 29)).alloc (.cells #[.int .i64 k', .bool b', .int .i64 i', .string s', .slice al' l'.length cl', .slice am' m'.length cm'] 29)) S' m' bm' om') := liesM_keep (fun h => h) (fun x hx => B2.block x (hS' x hx)) (fun _ h => h) _ hm1'
  have HS : Hid ((∀ x, S x → x < ((w.alloc (.cells #[.int .i64 k, .bool b, .int .i64 i, .string s, .slice al l.length cl, .slice am m.length cm] 29)).alloc (.cells #[.int .i64 k', .bool b', .int .i64 i', .string s', .slice al' l'.length cl', .slice am' m'.length cm'] 29)).heap.size) ∧ (∀ x, S' x → x < ((w.alloc (.cells #[.int .i64 k, .bool b, .int .i64 i, .string s, .slice al l.length cl, .slice am m.length cm] 29)).alloc (.cells #[.int .i64 k', .bool b', .int .i64 i', .string s', .slice al' l'.length cl', .slice am' m'.length cm'] 29)).heap.size)) := ⟨fun x hx => by have := hS x hx; omega, fun x hx => by have := hS' x hx; omega⟩
  obtain ⟨WW, hWW⟩ : ∃ WW, WW = ((w.alloc (.cells #[.int .i64 k, .bool b, .int .i64 i, .string s, .slice al l.length cl, .slice am m.length cm] 29)).alloc (.cells #[.int .i64 k', .bool b', .int .i64 i', .string s', .slice al' l'.length cl', .slice am' m'.length cm'] 29)) := ⟨_, rfl⟩
  have IHL : Hid _ := ihl
  have IHM : Hid _ := ihm
  clear hl1 hl1' hm1 hm1' ihl ihm hS hS' g1
  by_cases hkk : k = k'
  · subst hkk
    by_cases h1 : k = 1
    · have hc := bcompare_any b b' WW
      subst h1
      have HF : Hid (ordV (V.mk 1 b i s l m) (V.mk 1 b' i' s' l' m') = cmpB b b') := by show _ = _; simp [ordV]
      subst hWW
      generalize cmpB b b' = c at *
      go_enter Tryd.func28, Tryd.ntmps28
      go_wp2_with fail
      refine hc.mono ?_
      rintro e w3 ⟨rfl, b3⟩
      go_wp2_with fail
      go_ret
      rw [HF.out]
      exact ⟨rfl, B2.trans (b3.mono (by omega))⟩
    by_cases h2 : k = 2
    · have hc := icompare_any i i' WW
      subst h2
      have HF : Hid (ordV (V.mk 2 b i s l m) (V.mk 2 b' i' s' l' m') = cmpI i i') := by show _ = _; simp [ordV]
      subst hWW
      generalize cmpI i i' = c at *
      go_enter Tryd.func28, Tryd.ntmps28
      go_wp2_with fail
      refine hc.mono ?_
      rintro e w3 ⟨rfl, b3⟩
      go_wp2_with fail
      go_ret
      rw [HF.out]
      exact ⟨rfl, B2.trans (b3.mono (by omega))⟩
    by_cases h3 : k = 3
    · have hc := scompare_any s s' WW
      subst h3
      have HF : Hid (ordV (V.mk 3 b i s l m) (V.mk 3 b' i' s' l' m') = cmpS s s') := by show _ = _; simp [ordV]
      subst hWW
      generalize cmpS s s' = c at *
      go_enter Tryd.func28, Tryd.ntmps28
      go_wp2_with fail
      refine hc.mono ?_
      rintro e w3 ⟨rfl, b3⟩
      go_wp2_with fail
      go_ret
      rw [HF.out]
      exact ⟨rfl, B2.trans (b3.mono (by omega))⟩
    by_cases h4 : k = 4
    · have hc := cmpfL l l' R R' S S' al al' cl cl' bl ol bl' ol' _ hal hal' HL.out HL'.out HS.out.1 HS.out.2 (fun j h h' cs cs' W h1 h2 h3 h4 => IHL.out l[j] (List.getElem_mem h) l'[j] R R' S S' cs cs' W h1 h2 h3 h4)
      subst h4
      have HF : Hid (ordV (V.mk 4 b i s l m) (V.mk 4 b' i' s' l' m') = ordL l l') := by show _ = _; simp [ordV]
      subst hWW
      generalize ordL l l' = c at *
      go_enter Tryd.func28, Tryd.ntmps28
      go_wp2_with fail
      refine hc.mono ?_
      rintro e w3 ⟨rfl, b3⟩
      go_wp2_with fail
      go_ret
      rw [HF.out]
      exact ⟨rfl, B2.trans (b3.mono (by omega))⟩
    by_cases h5 : k = 5
    · have hc := cmpfM m m' R R' S S' am am' cm cm' bm om bm' om' _ ham ham' HM.out HM'.out HS.out.1 HS.out.2 (fun j h h' cs cs' W h1 h2 h3 h4 => orderMem_any m[j] m'[j] cs cs' W (V.ten h1) (V.ten h2) (fun W2 hb => IHM.out m[j] (List.getElem_mem h) (m'[j]).2 R R' S S' cs cs' W2 (V.lies_keep (fun h => h) (fun x hx => hb.block x (h3 x hx)) (fun _ h => h) _ h1) (V.lies_keep (fun h => h) (fun x hx => hb.block x (h4 x hx)) (fun _ h => h) _ h2) (fun x hx => Nat.lt_of_lt_of_le (h3 x hx) hb.size) (fun x hx => Nat.lt_of_lt_of_le (h4 x hx) hb.size)))
      subst h5
      have HF : Hid (ordV (V.mk 5 b i s l m) (V.mk 5 b' i' s' l' m') = ordM m m') := by show _ = _; simp [ordV]
      subst hWW
      generalize ordM m m' = c at *
      go_enter Tryd.func28, Tryd.ntmps28
      go_wp2_with fail
      refine hc.mono ?_
      rintro e w3 ⟨rfl, b3⟩
      go_wp2_with fail
      go_ret
      rw [HF.out]
      exact ⟨rfl, B2.trans (b3.mono (by omega))⟩
    have HF : Hid (ordV (V.mk k b i s l m) (V.mk k b' i' s' l' m') = 0) := by show _ = _; simp [ordV, h1, h2, h3, h4, h5]
    go_enter Tryd.func28, Tryd.ntmps28
    go_wp2_with fail
    go_ret
    rw [HF.out]
    exact ⟨rfl, B2⟩
  · have HF : Hid (ordV (V.mk k b i s l m) (V.mk k' b' i' s' l' m') = cmpI k k') := by show _ = _; simp [ordV, hkk]
    have hc := icompare_any k k' WW
    subst hWW
    generalize cmpI k k' = c at *
    go_enter Tryd.func28, Tryd.ntmps28
    go_wp2_with fail
    refine hc.mono ?_
    rintro e w3 ⟨rfl, b3⟩
    go_wp2_with fail
    go_ret
    rw [HF.out]
    exact ⟨rfl, B2.trans (b3.mono (by omega))⟩
end Go.Proofs.YtaecmgkckefgoaaDoor
