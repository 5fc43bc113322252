/- joined: OrdB AllG BytA -/
import Derived.Test.YthgfomblodhoaaaDoorOrdA
import Derived.Deep.AppendLies
import Derived.Laws.IdiomStrings
import Derived.Laws.BytesArg
import Derived.Lib.UnsafeStr
/- value.order, value.orderMembers. -/
set_option linter.unusedSimpArgs false
set_option linter.unusedVariables false
namespace Go.Proofs.YthgfomblodhoaaaDoor
open Go.RowKit Go.Lib
set_option maxHeartbeats 4000000 in
set_option maxRecDepth 100000 in
theorem orderMem_any (p q : Mem) (cs cs' : List Value) (w : World) (h6 : ∃ ek eb ei es eal enl ecl eam enm ecm, cs = [.int .i64 ek, .bool eb, .int .i64 ei, .string es, .slice eal enl ecl, .slice eam enm ecm]) (h6' : ∃ fk fb fi fs fal fnl fcl fam fnm fcm, cs' = [.int .i64 fk, .bool fb, .int .i64 fi, .string fs, .slice fal fnl fcl, .slice fam fnm fcm])
    (ih : ∀ W, Below w.heap.size w W → Calls Tryd.prog 46 #[.agg cs.toArray, .agg cs'.toArray] W (JPost (ordV p.2 q.2) W)) :
    Calls Tryd.prog 60 #[.agg (.string p.1 :: cs).toArray, .agg (.string q.1 :: cs').toArray] w (JPost (ordE p q) w) := by
  obtain ⟨ek, eb, ei, es, eal, enl, ecl, eam, enm, ecm, rfl⟩ := h6
  obtain ⟨fk, fb, fi, fs, fal, fnl, fcl, fam, fnm, fcm, rfl⟩ := h6'
  obtain ⟨pk, x⟩ := p
  obtain ⟨qk, y⟩ := q
  have B2 : Below w.heap.size w ((w.alloc (.cells #[.string pk, .int .i64 ek, .bool eb, .int .i64 ei, .string es, .slice eal enl ecl, .slice eam enm ecm] 38)).alloc (.cells #[.string qk, .int .i64 fk, .bool fb, .int .i64 fi, .string fs, .slice fal fnl fcl, .slice fam fnm fcm] 38)) := ((Below.refl _ _).alloc (Nat.le_refl _) _).alloc (by rw [alloc_size]; omega) _
  have hz2 : ((w.alloc (.cells #[.string pk, .int .i64 ek, .bool eb, .int .i64 ei, .string es, .slice eal enl ecl, .slice eam enm ecm] 38)).alloc (.cells #[.string qk, .int .i64 fk, .bool fb, .int .i64 fi, .string fs, .slice fal fnl fcl, .slice fam fnm fcm] 38)).heap.size = w.heap.size + 2 := by rw [alloc_size, alloc_size]
  have g1 := alloc2_keep1 w (.cells #[.string pk, .int .i64 ek, .bool eb, .int .i64 ei, .string es, .slice eal enl ecl, .slice eam enm ecm] 38) (.cells #[.string qk, .int .i64 fk, .bool fb, .int .i64 fi, .string fs, .slice fal fnl fcl, .slice fam fnm fcm] 38)
  have m0 : ((w.alloc (.cells #[.string pk, .int .i64 ek, .bool eb, .int .i64 ei, .string es, .slice eal enl ecl, .slice eam enm ecm] 38)).alloc (.cells #[.string qk, .int .i64 fk, .bool fb, .int .i64 fi, .string fs, .slice fal fnl fcl, .slice fam fnm fcm] 38)).cell? ⟨w.heap.size, 0, none⟩ = some (.string pk) := by rw [cell_of_block g1]; rfl
  have m1 : ((w.alloc (.cells #[.string pk, .int .i64 ek, .bool eb, .int .i64 ei, .string es, .slice eal enl ecl, .slice eam enm ecm] 38)).alloc (.cells #[.string qk, .int .i64 fk, .bool fb, .int .i64 fi, .string fs, .slice fal fnl fcl, .slice fam fnm fcm] 38)).cell? ⟨w.heap.size, 1, none⟩ = some (.int .i64 ek) := by rw [cell_of_block g1]; rfl
  have m2 : ((w.alloc (.cells #[.string pk, .int .i64 ek, .bool eb, .int .i64 ei, .string es, .slice eal enl ecl, .slice eam enm ecm] 38)).alloc (.cells #[.string qk, .int .i64 fk, .bool fb, .int .i64 fi, .string fs, .slice fal fnl fcl, .slice fam fnm fcm] 38)).cell? ⟨w.heap.size, 2, none⟩ = some (.bool eb) := by rw [cell_of_block g1]; rfl
  have m3 : ((w.alloc (.cells #[.string pk, .int .i64 ek, .bool eb, .int .i64 ei, .string es, .slice eal enl ecl, .slice eam enm ecm] 38)).alloc (.cells #[.string qk, .int .i64 fk, .bool fb, .int .i64 fi, .string fs, .slice fal fnl fcl, .slice fam fnm fcm] 38)).cell? ⟨w.heap.size, 3, none⟩ = some (.int .i64 ei) := by rw [cell_of_block g1]; rfl
  have m4 : ((w.alloc (.cells #[.string pk, .int .i64 ek, .bool eb, .int .i64 ei, .string es, .slice eal enl ecl, .slice eam enm ecm] 38)).alloc (.cells #[.string qk, .int .i64 fk, .bool fb, .int .i64 fi, .string fs, .slice fal fnl fcl, .slice fam fnm fcm] 38)).cell? ⟨w.heap.size, 4, none⟩ = some (.string es) := by rw [cell_of_block g1]; rfl
  have m5 : ((w.alloc (.cells #[.string pk, .int .i64 ek, .bool eb, .int .i64 ei, .string es, .slice eal enl ecl, .slice eam enm ecm] 38)).alloc (.cells #[.string qk, .int .i64 fk, .bool fb, .int .i64 fi, .string fs, .slice fal fnl fcl, .slice fam fnm fcm] 38)).cell? ⟨w.heap.size, 5, none⟩ = some (.slice eal enl ecl) := by rw [cell_of_block g1]; rfl
  have m6 : ((w.alloc (.cells #[.string pk, .int .i64 ek, .bool eb, .int .i64 ei, .string es, .slice eal enl ecl, .slice eam enm ecm] 38)).alloc (.cells #[.string qk, .int .i64 fk, .bool fb, .int .i64 fi, .string fs, .slice fal fnl fcl, .slice fam fnm fcm] 38)).cell? ⟨w.heap.size, 6, none⟩ = some (.slice eam enm ecm) := by rw [cell_of_block g1]; rfl
  have hc := ih _ B2
  clear ih g1
  simp only at hc
  by_cases hk : pk.toList = qk.toList
  · have HF : Hid (ordE (pk, x) (qk, y) = ordV x y) := by show _ = _; simp [ordE, hk]
    have yK : (pk.toList == qk.toList) = true := by rw [beq_iff_eq]; exact hk
    clear hk
    generalize ordV x y = c at *
    go_enter Tryd.func60, Tryd.ntmps60
    go_wp2_with fail
    refine hc.mono ?_
    rintro e w3 ⟨rfl, b3⟩
    go_wp2_with fail
    go_ret
    rw [HF.out]
    exact ⟨rfl, B2.trans (b3.mono (by omega))⟩
  · have HF : Hid (ordE (pk, x) (qk, y) = cmpS pk qk) := by show _ = _; simp [ordE, hk]
    have yK : (pk.toList == qk.toList) = false := by rw [beq_eq_false_iff_ne]; exact hk
    have hc2 := scompare_any pk qk ((w.alloc (.cells #[.string pk, .int .i64 ek, .bool eb, .int .i64 ei, .string es, .slice eal enl ecl, .slice eam enm ecm] 38)).alloc (.cells #[.string qk, .int .i64 fk, .bool fb, .int .i64 fi, .string fs, .slice fal fnl fcl, .slice fam fnm fcm] 38))
    generalize cmpS pk qk = c at *
    clear hc
    go_enter Tryd.func60, Tryd.ntmps60
    go_wp2_with fail
    refine hc2.mono ?_
    rintro e w3 ⟨rfl, b3⟩
    go_wp2_with fail
    go_ret
    rw [HF.out]
    exact ⟨rfl, B2.trans (b3.mono (by omega))⟩
set_option maxHeartbeats 4000000 in
set_option maxRecDepth 100000 in
theorem order_any (v : V) : ∀ (u : V) (R R' : Bool) (S S' : Nat → Prop) (cs cs' : List Value) (w : World), v.lies R w S cs → u.lies R' w S' cs' → (∀ b, S b → b < w.heap.size) → (∀ b, S' b → b < w.heap.size) →
    Calls Tryd.prog 46 #[.agg cs.toArray, .agg cs'.toArray] w (JPost (ordV v u) w) := by
  induction v using V.ind_v with
  | h k b i s l m ihl ihm =>
  intro u R R' S S' cs cs' w hv hu hS hS'
  obtain ⟨k', b', i', s', l', m'⟩ := u
  rw [V.lies] at hv hu
  obtain ⟨al, cl, bl, ol, am, cm, bm, om, rfl, hk, hi, hs, hal, ham, hl1, hm1, _⟩ := hv
  obtain ⟨al', cl', bl', ol', am', cm', bm', om', rfl, hk', hi', hs', hal', ham', hl1', hm1', _⟩ := hu
  have B2 : Below w.heap.size w ((w.alloc (.cells #[.int .i64 k, .bool b, .int .i64 i, .string s, .slice al l.length cl, .slice am m.length cm] 25)).alloc (.cells #[.int .i64 k', .bool b', .int .i64 i', .string s', .slice al' l'.length cl', .slice am' m'.length cm'] 25)) := ((Below.refl _ _).alloc (Nat.le_refl _) _).alloc (by rw [alloc_size]; omega) _
  have hz2 : ((w.alloc (.cells #[.int .i64 k, .bool b, .int .i64 i, .string s, .slice al l.length cl, .slice am m.length cm] 25)).alloc (.cells #[.int .i64 k', .bool b', .int .i64 i', .string s', .slice al' l'.length cl', .slice am' m'.length cm'] 25)).heap.size = w.heap.size + 2 := by rw [alloc_size, alloc_size]
  have g1 := alloc2_keep1 w (.cells #[.int .i64 k, .bool b, .int .i64 i, .string s, .slice al l.length cl, .slice am m.length cm] 25) (.cells #[.int .i64 k', .bool b', .int .i64 i', .string s', .slice al' l'.length cl', .slice am' m'.length cm'] 25)
  have m0 : ((w.alloc (.cells #[.int .i64 k, .bool b, .int .i64 i, .string s, .slice al l.length cl, .slice am m.length cm] 25)).alloc (.cells #[.int .i64 k', .bool b', .int .i64 i', .string s', .slice al' l'.length cl', .slice am' m'.length cm'] 25)).cell? ⟨w.heap.size, 0, none⟩ = some (.int .i64 k) := by rw [cell_of_block g1]; rfl
  have m1 : ((w.alloc (.cells #[.int .i64 k, .bool b, .int .i64 i, .string s, .slice al l.length cl, .slice am m.length cm] 25)).alloc (.cells #[.int .i64 k', .bool b', .int .i64 i', .string s', .slice al' l'.length cl', .slice am' m'.length cm'] 25)).cell? ⟨w.heap.size, 1, none⟩ = some (.bool b) := by rw [cell_of_block g1]; rfl
  have m2 : ((w.alloc (.cells #[.int .i64 k, .bool b, .int .i64 i, .string s, .slice al l.length cl, .slice am m.length cm] 25)).alloc (.cells #[.int .i64 k', .bool b', .int .i64 i', .string s', .slice al' l'.length cl', .slice am' m'.length cm'] 25)).cell? ⟨w.heap.size, 2, none⟩ = some (.int .i64 i) := by rw [cell_of_block g1]; rfl
  have m3 : ((w.alloc (.cells #[.int .i64 k, .bool b, .int .i64 i, .string s, .slice al l.length cl, .slice am m.length cm] 25)).alloc (.cells #[.int .i64 k', .bool b', .int .i64 i', .string s', .slice al' l'.length cl', .slice am' m'.length cm'] 25)).cell? ⟨w.heap.size, 3, none⟩ = some (.string s) := by rw [cell_of_block g1]; rfl
  have m4 : ((w.alloc (.cells #[.int .i64 k, .bool b, .int .i64 i, .string s, .slice al l.length cl, .slice am m.length cm] 25)).alloc (.cells #[.int .i64 k', .bool b', .int .i64 i', .string s', .slice al' l'.length cl', .slice am' m'.length cm'] 25)).cell? ⟨w.heap.size, 4, none⟩ = some (.slice al l.length cl) := by rw [cell_of_block g1]; rfl
  have m5 : ((w.alloc (.cells #[.int .i64 k, .bool b, .int .i64 i, .string s, .slice al l.length cl, .slice am m.length cm] 25)).alloc (.cells #[.int .i64 k', .bool b', .int .i64 i', .string s', .slice al' l'.length cl', .slice am' m'.length cm'] 25)).cell? ⟨w.heap.size, 5, none⟩ = some (.slice am m.length cm) := by rw [cell_of_block g1]; rfl
  have HL : Hid (liesL R ((w.alloc (.cells #[.int .i64 k, .bool b, .int .i64 i, .string s, .slice al l.length cl, .slice am m.length cm] 25)).alloc (.cells #[.int .i64 k', .bool b', .int .i64 i', .string s', .slice al' l'.length cl', .slice am' m'.length cm'] 25)) S l bl ol) := liesL_keep (fun h => h) (fun x hx => B2.block x (hS x hx)) (fun _ h => h) _ hl1
  have HL' : Hid (liesL R' ((w.alloc (.cells #[.int .i64 k, .bool b, .int .i64 i, .string s, .slice al l.length cl, .slice am m.length cm] 25)).alloc (.cells #[.int .i64 k', .bool b', .int .i64 i', .string s', .slice al' l'.length cl', .slice am' m'.length cm'] 25)) S' l' bl' ol') := liesL_keep (fun h => h) (fun x hx => B2.block x (hS' x hx)) (fun _ h => h) _ hl1'
  have HM : Hid (liesM R ((w.alloc (.cells #[.int .i64 k, .bool b, .int .i64 i, .string s, .slice al l.length cl, .slice am m.length cm] 25)).alloc (.cells #[.int .i64 k', .bool b', .int .i64 i', .string s', .slice al' l'.length cl', .slice am' m'.length cm'] 25)) S m bm om) := liesM_keep (fun h => h) (fun x hx => B2.block x (hS x hx)) (fun _ h => h) _ hm1
  have HM' : Hid (liesM R' ((w.alloc (.cells #[.int .i64 k, .bool b, .int .i64 i, .string s, .slice al l.length cl, .slice am m.length cm] 25)).alloc (.cells #[.int .i64 k', .bool b', .int .i64 i', .string s', .slice al' l'.length cl', .slice am' m'.length cm'] 25)) S' m' bm' om') := liesM_keep (fun h => h) (fun x hx => B2.block x (hS' x hx)) (fun _ h => h) _ hm1'
  have HS : Hid ((∀ x, S x → x < ((w.alloc (.cells #[.int .i64 k, .bool b, .int .i64 i, .string s, .slice al l.length cl, .slice am m.length cm] 25)).alloc (.cells #[.int .i64 k', .bool b', .int .i64 i', .string s', .slice al' l'.length cl', .slice am' m'.length cm'] 25)).heap.size) ∧ (∀ x, S' x → x < ((w.alloc (.cells #[.int .i64 k, .bool b, .int .i64 i, .string s, .slice al l.length cl, .slice am m.length cm] 25)).alloc (.cells #[.int .i64 k', .bool b', .int .i64 i', .string s', .slice al' l'.length cl', .slice am' m'.length cm'] 25)).heap.size)) := ⟨fun x hx => by have := hS x hx; omega, fun x hx => by have := hS' x hx; omega⟩
  obtain ⟨WW, hWW⟩ : ∃ WW, WW = ((w.alloc (.cells #[.int .i64 k, .bool b, .int .i64 i, .string s, .slice al l.length cl, .slice am m.length cm] 25)).alloc (.cells #[.int .i64 k', .bool b', .int .i64 i', .string s', .slice al' l'.length cl', .slice am' m'.length cm'] 25)) := ⟨_, rfl⟩
  have IHL : Hid _ := ihl
  have IHM : Hid _ := ihm
  clear hl1 hl1' hm1 hm1' ihl ihm hS hS' g1
  by_cases hkk : k = k'
  · subst hkk
    by_cases h1 : k = 1
    · have hc := bcompare_any b b' WW
      subst h1
      have HF : Hid (ordV (V.mk 1 b i s l m) (V.mk 1 b' i' s' l' m') = cmpB b b') := by show _ = _; simp [ordV]
      subst hWW
      generalize cmpB b b' = c at *
      go_enter Tryd.func46, Tryd.ntmps46
      go_wp2_with fail
      refine hc.mono ?_
      rintro e w3 ⟨rfl, b3⟩
      go_wp2_with fail
      go_ret
      rw [HF.out]
      exact ⟨rfl, B2.trans (b3.mono (by omega))⟩
    by_cases h2 : k = 2
    · have hc := icompare_any i i' WW
      subst h2
      have HF : Hid (ordV (V.mk 2 b i s l m) (V.mk 2 b' i' s' l' m') = cmpI i i') := by show _ = _; simp [ordV]
      subst hWW
      generalize cmpI i i' = c at *
      go_enter Tryd.func46, Tryd.ntmps46
      go_wp2_with fail
      refine hc.mono ?_
      rintro e w3 ⟨rfl, b3⟩
      go_wp2_with fail
      go_ret
      rw [HF.out]
      exact ⟨rfl, B2.trans (b3.mono (by omega))⟩
    by_cases h3 : k = 3
    · have hc := scompare_any s s' WW
      subst h3
      have HF : Hid (ordV (V.mk 3 b i s l m) (V.mk 3 b' i' s' l' m') = cmpS s s') := by show _ = _; simp [ordV]
      subst hWW
      generalize cmpS s s' = c at *
      go_enter Tryd.func46, Tryd.ntmps46
      go_wp2_with fail
      refine hc.mono ?_
      rintro e w3 ⟨rfl, b3⟩
      go_wp2_with fail
      go_ret
      rw [HF.out]
      exact ⟨rfl, B2.trans (b3.mono (by omega))⟩
    by_cases h4 : k = 4
    · have hc := cmpfL l l' R R' S S' al al' cl cl' bl ol bl' ol' _ hal hal' HL.out HL'.out HS.out.1 HS.out.2 (fun j h h' cs cs' W h1 h2 h3 h4 => IHL.out l[j] (List.getElem_mem h) l'[j] R R' S S' cs cs' W h1 h2 h3 h4)
      subst h4
      have HF : Hid (ordV (V.mk 4 b i s l m) (V.mk 4 b' i' s' l' m') = ordL l l') := by show _ = _; simp [ordV]
      subst hWW
      generalize ordL l l' = c at *
      go_enter Tryd.func46, Tryd.ntmps46
      go_wp2_with fail
      refine hc.mono ?_
      rintro e w3 ⟨rfl, b3⟩
      go_wp2_with fail
      go_ret
      rw [HF.out]
      exact ⟨rfl, B2.trans (b3.mono (by omega))⟩
    by_cases h5 : k = 5
    · have hc := cmpfM m m' R R' S S' am am' cm cm' bm om bm' om' _ ham ham' HM.out HM'.out HS.out.1 HS.out.2 (fun j h h' cs cs' W h1 h2 h3 h4 => orderMem_any m[j] m'[j] cs cs' W (V.ten h1) (V.ten h2) (fun W2 hb => IHM.out m[j] (List.getElem_mem h) (m'[j]).2 R R' S S' cs cs' W2 (V.lies_keep (fun h => h) (fun x hx => hb.block x (h3 x hx)) (fun _ h => h) _ h1) (V.lies_keep (fun h => h) (fun x hx => hb.block x (h4 x hx)) (fun _ h => h) _ h2) (fun x hx => Nat.lt_of_lt_of_le (h3 x hx) hb.size) (fun x hx => Nat.lt_of_lt_of_le (h4 x hx) hb.size)))
      subst h5
      have HF : Hid (ordV (V.mk 5 b i s l m) (V.mk 5 b' i' s' l' m') = ordM m m') := by show _ = _; simp [ordV]
      subst hWW
      generalize ordM m m' = c at *
      go_enter Tryd.func46, Tryd.ntmps46
      go_wp2_with fail
      refine hc.mono ?_
      rintro e w3 ⟨rfl, b3⟩
      go_wp2_with fail
      go_ret
      rw [HF.out]
      exact ⟨rfl, B2.trans (b3.mono (by omega))⟩
    have HF : Hid (ordV (V.mk k b i s l m) (V.mk k b' i' s' l' m') = 0) := by show _ = _; simp [ordV, h1, h2, h3, h4, h5]
    go_enter Tryd.func46, Tryd.ntmps46
    go_wp2_with fail
    go_ret
    rw [HF.out]
    exact ⟨rfl, B2⟩
  · have HF : Hid (ordV (V.mk k b i s l m) (V.mk k' b' i' s' l' m') = cmpI k k') := by show _ = _; simp [ordV, hkk]
    have hc := icompare_any k k' WW
    subst hWW
    generalize cmpI k k' = c at *
    go_enter Tryd.func46, Tryd.ntmps46
    go_wp2_with fail
    refine hc.mono ?_
    rintro e w3 ⟨rfl, b3⟩
    go_wp2_with fail
    go_ret
    rw [HF.out]
    exact ⟨rfl, B2.trans (b3.mono (by omega))⟩
end Go.Proofs.YthgfomblodhoaaaDoor
/- What a value that is taken is, all the way down; there the two orders are one. -/
namespace Go.Proofs.YthgfomblodhoaaaDoor
open Go.RowKit Go.Lib
mutual
def allG : V → Prop
  | .mk k b i s l m => goodB k b i s l.length m = true ∧ allGL l ∧ allGM m
def allGL : List V → Prop
  | [] => True
  | x :: t => allG x ∧ allGL t
def allGM : List Mem → Prop
  | [] => True
  | (_, x) :: t => allG x ∧ allGM t
end
theorem entF_good {D n y d lv : Nat} {g : Bool} {z : Nat} (h : (entF D n y d lv g z).1 = 0) : g = true := by
  unfold entF at h
  split at h
  · simp at h
  split at h
  · simp at h
  split at h
  · simp at h
  · rename_i h3; cases g <;> simp_all
mutual
theorem chkV_allG (D : Nat) : ∀ (v : V) (lv : Nat) (st : St), (chkV D v lv st).1 = 0 → allG v
  | .mk k b i s l m, lv, st, h => by
    rw [chkV] at h
    rw [allG]
    by_cases h1 : (entF D st.1 st.2.1 st.2.2 lv (goodB k b i s l.length m) (s.size + keyB m)).1 = 0
    · simp only [h1, if_true] at h
      by_cases h2 : (chkL D l (lv + 1) (entF D st.1 st.2.1 st.2.2 lv (goodB k b i s l.length m) (s.size + keyB m)).2).1 = 0
      · simp only [h2, if_true] at h
        exact ⟨entF_good h1, chkL_allG D l (lv + 1) _ h2, chkM_allG D m (lv + 1) _ h⟩
      · simp only [h2, if_false] at h
    · simp only [h1, if_false] at h
theorem chkL_allG (D : Nat) : ∀ (l : List V) (lv : Nat) (st : St), (chkL D l lv st).1 = 0 → allGL l
  | [], lv, st, h => by rw [allGL]; trivial
  | x :: t, lv, st, h => by
    rw [chkL] at h
    rw [allGL]
    by_cases h1 : (chkV D x lv st).1 = 0
    · rw [if_pos h1] at h
      exact ⟨chkV_allG D x lv st h1, chkL_allG D t lv _ h⟩
    · rw [if_neg h1] at h
      exact absurd h h1
theorem chkM_allG (D : Nat) : ∀ (l : List Mem) (lv : Nat) (st : St), (chkM D l lv st).1 = 0 → allGM l
  | [], lv, st, h => by rw [allGM]; trivial
  | (_, x) :: t, lv, st, h => by
    rw [chkM] at h
    rw [allGM]
    by_cases h1 : (chkV D x lv st).1 = 0
    · rw [if_pos h1] at h
      exact ⟨chkV_allG D x lv st h1, chkM_allG D t lv _ h⟩
    · rw [if_neg h1] at h
      exact absurd h h1
end
theorem toList_data (a : ByteArray) : a.toList = a.data.toList := ByteArray.toList_eq a
theorem less_cmp : ∀ a b : List UInt8, Op.bytesLess a b = decide (compareBytes a b = -1)
  | [], [] => by simp [Op.bytesLess, compareBytes]
  | [], _ :: _ => by simp [Op.bytesLess, compareBytes]
  | _ :: _, [] => by simp [Op.bytesLess, compareBytes]
  | x :: t, y :: u => by
    have ih := less_cmp t u
    simp only [Op.bytesLess, compareBytes]
    by_cases h1 : x < y
    · simp [h1]
    · by_cases h2 : y < x
      · have hne : x ≠ y := fun e => by subst e; exact h1 h2
        simp [h1, h2, hne]
      · have he : x = y := by
          rcases Nat.lt_trichotomy x.toNat y.toNat with h | h | h
          · exact absurd h h1
          · exact UInt8.toNat_inj.1 h
          · exact absurd h h2
        subst he
        simp [h1, ih]
theorem cmp_zero : ∀ a b : List UInt8, compareBytes a b = 0 ↔ a = b
  | [], [] => by simp [compareBytes]
  | [], _ :: _ => by simp [compareBytes]
  | _ :: _, [] => by simp [compareBytes]
  | x :: t, y :: u => by
    have ih := cmp_zero t u
    rw [compareBytes]
    by_cases h1 : x < y
    · rw [if_pos h1]
      constructor
      · intro h; simp at h
      · intro h; cases h; exact absurd h1 (Nat.lt_irrefl _)
    · rw [if_neg h1]
      by_cases h2 : y < x
      · rw [if_pos h2]
        constructor
        · intro h; simp at h
        · intro h; cases h; exact absurd h2 (Nat.lt_irrefl _)
      · rw [if_neg h2, ih]
        have he : x = y := by
          rcases Nat.lt_trichotomy x.toNat y.toNat with h | h | h
          · exact absurd h h1
          · exact UInt8.toNat_inj.1 h
          · exact absurd h h2
        simp [he]
theorem cmpS_zero (a b : ByteArray) : cmpS a b = 0 ↔ a.toList = b.toList := by rw [cmpS, toList_data, toList_data]; exact cmp_zero _ _
end Go.Proofs.YthgfomblodhoaaaDoor
/- Rows of bytes that a call owns: append onto them, and their string. -/
namespace Go.Proofs.YthgfomblodhoaaaDoor
open Go.RowKit
/-- the slice v owns the bytes l, in a block from B on -/
def Own (B : Nat) (v : Value) (l : List UInt8) (w : World) : Prop := w.ownsRow B 5 1 v l.length (Lib.byteCells l)
theorem Own.alloc {B : Nat} {v : Value} {l : List UInt8} {w : World} (h : Own B v l w) (o : Obj) : Own B v l (w.alloc o) := World.ownsRow.alloc h o
theorem Own.nil (B : Nat) (w : World) : Own B (.slice none 0 0) [] w := World.ownsRow_nil w B 5 1
end Go.Proofs.YthgfomblodhoaaaDoor
