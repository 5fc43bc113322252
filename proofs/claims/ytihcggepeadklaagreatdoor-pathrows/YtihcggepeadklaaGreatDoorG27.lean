/- joined: SmzC TwsR PssZ -/
import Derived.Test.YtihcggepeadklaaGreatDoorSmzB
/- pathSame of two paths that may be. -/
set_option linter.unusedSimpArgs false
set_option linter.unusedVariables false
namespace Go.Proofs.YtihcggepeadklaaGreatDoor
open Go.RowKit Go.Lib
theorem ecmp_any (x y : El) (hgx : elB x = true) (hgy : elB y = true) (S S' : Nat → Prop) (cs ds : List Value) (w : World) (hl : x.lies w S cs) (hl' : y.lies w S' ds) (hS : ∀ x, S x → x < w.heap.size) (hS' : ∀ x, S' x → x < w.heap.size) (E : Bool) (hE : E = true ↔ x = y) :
    Calls Tryz.prog 24 #[.agg cs.toArray, .agg ds.toArray] w (BPost E w) := by
  cases E with
  | true =>
    obtain rfl := hE.1 rfl
    exact esame_any x S S' cs ds w hl hl' hS hS'
  | false => exact ediff_any x y hgx hgy (fun h => Bool.noConfusion (hE.2 h)) S S' cs ds w hl hl' hS hS'
set_option maxHeartbeats 8000000 in
set_option maxRecDepth 100000 in
theorem pdiff_any (p q : List El) (hgp : ∀ x ∈ p, elB x = true) (hgq : ∀ x ∈ q, elB x = true) (hne : p ≠ q) (S S' : Nat → Prop) (ap : Option Addr) (cp bp op : Nat) (ap' : Option Addr) (cp' bp' op' : Nat) (w : World) (hap : Headed ap p.length cp bp op) (hp : liesP w S p bp op) (hap' : Headed ap' q.length cp' bp' op') (hp' : liesP w S' q bp' op') (hS : ∀ x, S x → x < w.heap.size) (hS' : ∀ x, S' x → x < w.heap.size) :
    Calls Tryz.prog 12 #[.slice ap p.length cp, .slice ap' q.length cp'] w (BPost false w) := by
  have HP := hmk hp
  have HP' := hmk hp'
  have HNE := hmk hne
  have HGP := hmk hgp
  have HGQ := hmk hgq
  clear hp hp' hne hgp hgq
  have hlp : p.length ≤ 9223372036854775807 := Nat.le_trans hap.le hap.max
  have hlq : q.length ≤ 9223372036854775807 := Nat.le_trans hap'.le hap'.max
  by_cases e2 : p.length = q.length
  rotate_left
  · have y0 : ((p.length : Int) != (q.length : Int)) = true := bne_iff_ne.2 (by omega)
    clear e2
    go_enter Tryz.func12, Tryz.ntmps12
    go_wp2_with fail
    go_ret
    exact ⟨rfl, Below.refl _ _⟩
  have yl : ((p.length : Int) != (q.length : Int)) = false := by rw [bne_eq_false_iff_eq]; omega
  have HE2 := hmk e2
  clear e2
  go_enter Tryz.func12, Tryz.ntmps12
  go_wp2_with fail
  go_loopw [5] (fun e wr => ∃ j : Nat, j ≤ p.length ∧ e = .int .i64 (j : Int) ∧ Hid (p.take j = q.take j) ∧ Below w.heap.size w wr) (fun e _ => p.length - (RowKit.intOf e).toNat)
  case atStart => exact ⟨0, by omega, rfl, hmk rfl, Below.refl _ _⟩
  case round =>
    obtain ⟨j, hj, rfl, HTK, bj⟩ := hrel
    have hzr := bj.size
    by_cases hjl : j < p.length
    · have hjl2 : j < q.length := by have := HE2.out; omega
      have y2 : (j : Int) < p.length := by omega
      have y3 : (j : Int) < q.length := by omega
      obtain ⟨hSb, csj, hrow, hlj⟩ := HP.out j hjl
      obtain ⟨hSb', dsj, hrow', hlj'⟩ := HP'.out j hjl2
      obtain rfl : ap = some ⟨bp, op, none⟩ := hap.at_.resolve_left (by omega)
      obtain rfl : ap' = some ⟨bp', op', none⟩ := hap'.at_.resolve_left (by omega)
      have hk0 : ∀ x, S x → wr.heap[x]? = w.heap[x]? := fun x hx => bj.block x (hS x hx)
      have hk1 : ∀ x, S' x → wr.heap[x]? = w.heap[x]? := fun x hx => bj.block x (hS' x hx)
      obtain ⟨k, s, am, nm, cm, vk, vb, vi, vs, val, vnl, vcl, vam, vnm, vcm, rfl⟩ := El.nine hlj
      obtain ⟨k', s', am', nm', cm', vk', vb', vi', vs', val', vnl', vcl', vam', vnm', vcm', rfl⟩ := El.nine hlj'
      have rw0 := row9 (hrow.keep (hk0 _ hSb))
      have rw1 := row9 (hrow'.keep (hk1 _ hSb'))
      have hbl : bp < wr.heap.size := World.block_lt_of_cell? wr _ rw0.1
      have hbl' : bp' < wr.heap.size := World.block_lt_of_cell? wr _ rw1.1
      have p0 : ∀ x : Sub wr.heap.size wr, _ := sub_cell rw0.1 hbl
      have p1 : ∀ x : Sub wr.heap.size wr, _ := sub_cell rw0.2.1 hbl
      have p2 : ∀ x : Sub wr.heap.size wr, _ := sub_cell rw0.2.2.1 hbl
      have p3 : ∀ x : Sub wr.heap.size wr, _ := sub_cell rw0.2.2.2.1 hbl
      have p4 : ∀ x : Sub wr.heap.size wr, _ := sub_cell rw0.2.2.2.2.1 hbl
      have p5 : ∀ x : Sub wr.heap.size wr, _ := sub_cell rw0.2.2.2.2.2.1 hbl
      have p6 : ∀ x : Sub wr.heap.size wr, _ := sub_cell rw0.2.2.2.2.2.2.1 hbl
      have p7 : ∀ x : Sub wr.heap.size wr, _ := sub_cell rw0.2.2.2.2.2.2.2.1 hbl
      have p8 : ∀ x : Sub wr.heap.size wr, _ := sub_cell rw0.2.2.2.2.2.2.2.2 hbl
      have q0 : ∀ x : Sub wr.heap.size wr, _ := sub_cell rw1.1 hbl'
      have q1 : ∀ x : Sub wr.heap.size wr, _ := sub_cell rw1.2.1 hbl'
      have q2 : ∀ x : Sub wr.heap.size wr, _ := sub_cell rw1.2.2.1 hbl'
      have q3 : ∀ x : Sub wr.heap.size wr, _ := sub_cell rw1.2.2.2.1 hbl'
      have q4 : ∀ x : Sub wr.heap.size wr, _ := sub_cell rw1.2.2.2.2.1 hbl'
      have q5 : ∀ x : Sub wr.heap.size wr, _ := sub_cell rw1.2.2.2.2.2.1 hbl'
      have q6 : ∀ x : Sub wr.heap.size wr, _ := sub_cell rw1.2.2.2.2.2.2.1 hbl'
      have q7 : ∀ x : Sub wr.heap.size wr, _ := sub_cell rw1.2.2.2.2.2.2.2.1 hbl'
      have q8 : ∀ x : Sub wr.heap.size wr, _ := sub_cell rw1.2.2.2.2.2.2.2.2 hbl'
      by_cases heq : p[j] = q[j]
      rotate_left
      · have CI : Hid (∀ x : Sub wr.heap.size wr, Calls Tryz.prog 24 #[.agg #[.int .i64 k, .string s, .slice am nm cm, .int .i64 vk, .bool vb, .int .i64 vi, .string vs, .slice val vnl vcl, .slice vam vnm vcm], .agg #[.int .i64 k', .string s', .slice am' nm' cm', .int .i64 vk', .bool vb', .int .i64 vi', .string vs', .slice val' vnl' vcl', .slice vam' vnm' vcm']] x.w fun e w'' => e = .returned (.bool false) ∧ ∃ y : Sub wr.heap.size wr, w'' = y.w) :=
          sub_call fun w' hb => by
            refine (ecmp_any p[j] q[j] (HGP.out _ (List.getElem_mem hjl)) (HGQ.out _ (List.getElem_mem hjl2)) S S' _ _ w' (El.lies_keep (fun x hx => (hb.block x (by have := hS x hx; omega)).trans (hk0 x hx)) (fun _ h => h) hlj) (El.lies_keep (fun x hx => (hb.block x (by have := hS' x hx; omega)).trans (hk1 x hx)) (fun _ h => h) hlj') (fun x hx => by have := hS x hx; have := hb.size; omega) (fun x hx => by have := hS' x hx; have := hb.size; omega) false (by simp [heq])).mono ?_
            rintro e w'' ⟨he, h2⟩
            exact ⟨he, hb.trans (h2.mono hb.size)⟩
        clear hlj hlj' hrow hrow' rw0 rw1 hk0 hk1 heq
        go_wp2_with fail
        refine wp_region_sub wr.heap.size (by kernel_rfl) (by kernel_rfl) ?_
        repeat (go_big_quiet_step (exact CI.out _))
        refine wpQuiet_nil ?_
        rintro wq ⟨⟨wq', bq⟩, hq⟩
        have hq' : wq = wq' := hq
        subst hq'
        clear hq
        have HBQ := hmk (bj.trans (bq.mono hzr))
        go_wp2_with fail
        go_ret
        exact ⟨rfl, HBQ.out⟩
      have HNX : Hid (p.take (j + 1) = q.take (j + 1)) := by show _ = _; rw [List.take_succ_eq_append_getElem hjl, List.take_succ_eq_append_getElem hjl2, HTK.out, heq]
      have CI : Hid (∀ x : Sub wr.heap.size wr, Calls Tryz.prog 24 #[.agg #[.int .i64 k, .string s, .slice am nm cm, .int .i64 vk, .bool vb, .int .i64 vi, .string vs, .slice val vnl vcl, .slice vam vnm vcm], .agg #[.int .i64 k', .string s', .slice am' nm' cm', .int .i64 vk', .bool vb', .int .i64 vi', .string vs', .slice val' vnl' vcl', .slice vam' vnm' vcm']] x.w fun e w'' => e = .returned (.bool true) ∧ ∃ y : Sub wr.heap.size wr, w'' = y.w) :=
        sub_call fun w' hb => by
          refine (ecmp_any p[j] q[j] (HGP.out _ (List.getElem_mem hjl)) (HGQ.out _ (List.getElem_mem hjl2)) S S' _ _ w' (El.lies_keep (fun x hx => (hb.block x (by have := hS x hx; omega)).trans (hk0 x hx)) (fun _ h => h) hlj) (El.lies_keep (fun x hx => (hb.block x (by have := hS' x hx; omega)).trans (hk1 x hx)) (fun _ h => h) hlj') (fun x hx => by have := hS x hx; have := hb.size; omega) (fun x hx => by have := hS' x hx; have := hb.size; omega) true (by simp [heq])).mono ?_
          rintro e w'' ⟨he, h2⟩
          exact ⟨he, hb.trans (h2.mono hb.size)⟩
      clear hlj hlj' hrow hrow' rw0 rw1 hk0 hk1 heq
      go_wp2_with fail
      refine wp_region_sub wr.heap.size (by kernel_rfl) (by kernel_rfl) ?_
      repeat (go_big_quiet_step (exact CI.out _))
      refine wpQuiet_nil ?_
      rintro wq ⟨⟨wq', bq⟩, hq⟩
      have hq' : wq = wq' := hq
      subst hq'
      clear hq
      go_wp2_with fail
      go_roundw
      case rel => exact ⟨j + 1, by omega, by go_num, HNX, bj.trans (bq.mono hzr)⟩
      case measure => simp [RowKit.intOf]; omega
    · obtain rfl : j = p.length := by omega
      exact absurd (by
        have h1 := HTK.out
        rw [List.take_of_length_le (Nat.le_refl _), List.take_of_length_le (by rw [HE2.out]; exact Nat.le_refl _)] at h1
        exact h1) HNE.out
theorem pcmp_any (p q : List El) (hgp : pathB p = true) (hgq : pathB q = true) (S S' : Nat → Prop) (ap : Option Addr) (cp bp op : Nat) (ap' : Option Addr) (cp' bp' op' : Nat) (w : World) (hap : Headed ap p.length cp bp op) (hp : liesP w S p bp op) (hap' : Headed ap' q.length cp' bp' op') (hp' : liesP w S' q bp' op') (hS : ∀ x, S x → x < w.heap.size) (hS' : ∀ x, S' x → x < w.heap.size) (E : Bool) (hE : E = true ↔ p = q) :
    Calls Tryz.prog 12 #[.slice ap p.length cp, .slice ap' q.length cp'] w (BPost E w) := by
  cases E with
  | true =>
    obtain rfl := hE.1 rfl
    exact psame_any p S S' ap cp bp op ap' cp' bp' op' w hap hp hap' hp' hS hS'
  | false => exact pdiff_any p q (pathB_all hgp).2 (pathB_all hgq).2 (fun h => Bool.noConfusion (hE.2 h)) S S' ap cp bp op ap' cp' bp' op' w hap hp hap' hp' hS hS'
end Go.Proofs.YtihcggepeadklaaGreatDoor
/- Paths, twins: lists of paths that are not beyond the bound, and their twins. -/
namespace Go.Proofs.YtihcggepeadklaaGreatDoor
open Go.RowKit Go.Lib
def CpPost (l : List (List El)) (w : World) (e : Ending) (w' : World) : Prop := ∃ r, e = .returned (.bool r) ∧ (r = false → l.length + wtQ l ≤ 2147483647) ∧ Below w.heap.size w w'
set_option maxHeartbeats 4000000 in
set_option maxRecDepth 100000 in
theorem bpathsQ_any (l : List (List El)) (S : Nat → Prop) (al : Option Addr) (cl bl ol : Nat) (w : World) (hal : Headed al l.length cl bl ol) (hl : liesQ w S l bl ol) (hS : ∀ b, S b → b < w.heap.size) :
    Calls Tryz.prog 15 #[.slice al l.length cl] w (CpPost l w) := by
  have ga : w.grownBy (w.alloc (.cells #[.int .i64 0] 65)) none := World.grownBy_alloc _ _ _
  have hn := heap_alloc_new w (.cells #[.int .i64 0] 65)
  have hC : Cnt w.heap.size 0 (w.alloc (.cells #[.int .i64 0] 65)) := ⟨by rw [cell_of_block hn]; rfl, frozen_of_block hn 0⟩
  have c := hmk (cpathsQ_any l w.heap.size 0 S al cl bl ol (w.alloc (.cells #[.int .i64 0] 65)) hal (liesQ_keep (fun x hx => ga.block x (hS x hx) (by simp)) (fun _ h => h) hl) (fun x hx => ⟨by have := hS x hx; omega, Nat.lt_of_lt_of_le (hS x hx) ga.size⟩) hC (by omega))
  have HG := hmk ga
  clear hl hn hC ga
  go_enter Tryz.func15, Tryz.ntmps15
  go_wp2_with fail
  refine c.out.mono ?_
  rintro e w1 ⟨r, rfl, g1, h1⟩
  go_wp2_with fail
  go_ret
  exact ⟨r, rfl, h1, (below_of_grown HG.out).grown g1 HG.out.size (fun q e => by cases e; omega)⟩
def EQ (p : List El) (w : World) (S : Nat → Prop) (cs : List Value) : Prop := ∃ v, cs = [v] ∧ Pl.lies w S p v
theorem keepQ : KeepE EQ := fun x w w' S S' cs hw hS h => by
  obtain ⟨v, e, h⟩ := h
  exact ⟨v, e, Pl.keep hw hS h⟩
abbrev OwnQ := OwnR EQ 23 1
theorem info33 : (Tryz.prog.info? 23).map (fun i => (i.zero, i.size, i.bytes)) = some (some (.slice none 0 0), 1, 24) := by kernel_rfl
theorem oneQ {p : Option Addr} {n c : Nat} : ∀ u ∈ [Value.slice p n c], u.oneCell' = true := by
  intro u hu
  simp at hu
  rw [hu]; rfl
theorem own_listQ {w : World} {N : Nat} {S T : Nat → Prop} {v : Value} {l : List (List El)} (h : OwnQ w N S v l) (hT : ∀ b, S b → T b) (hv : ∀ g, v.ownBlock = some g → T g) : ∃ a c b o, v = .slice a l.length c ∧ Headed a l.length c b o ∧ liesQ w T l b o := by
  have h' := h
  obtain ⟨⟨xs, h1, h2⟩, h3⟩ := h'
  rcases h1.2 with ⟨rfl, e⟩ | ⟨g, cap, cur, rfl, _⟩
  · have : l = [] := List.length_eq_zero_iff.1 e
    subst this
    exact ⟨none, 0, 0, 0, rfl, ⟨Nat.le_refl _, by simp [maxLen], .inl rfl, fun _ => rfl⟩, fun j hj => by simp at hj⟩
  · have hle := h.le
    refine ⟨_, cap, g, 0, rfl, ⟨hle.1, hle.2, .inr rfl, fun h => by cases h⟩, fun j hj => ⟨hv g rfl, ?_⟩⟩
    obtain ⟨cs, k1, u, rfl, k2⟩ := h.at rfl j hj
    refine ⟨u, ?_, Pl.keep (fun _ _ => rfl) hT k2⟩
    have := k1 0 _ rfl
    simpa using this
end Go.Proofs.YtihcggepeadklaaGreatDoor
/- pathsSame of a list and its like; within. -/
namespace Go.Proofs.YtihcggepeadklaaGreatDoor
open Go.RowKit Go.Lib
set_option maxHeartbeats 4000000 in
set_option maxRecDepth 100000 in
theorem pssame_any (l : List (List El)) (S S' : Nat → Prop) (ap : Option Addr) (cp bp op : Nat) (ap' : Option Addr) (cp' bp' op' : Nat) (w : World) (hap : Headed ap l.length cp bp op) (hp : liesQ w S l bp op) (hap' : Headed ap' l.length cp' bp' op') (hp' : liesQ w S' l bp' op') (hS : ∀ x, S x → x < w.heap.size) (hS' : ∀ x, S' x → x < w.heap.size) :
    Calls Tryz.prog 17 #[.slice ap l.length cp, .slice ap' l.length cp'] w (BPost true w) := by
  have HP := hmk hp
  have HP' := hmk hp'
  clear hp hp'
  have hlp : l.length ≤ 9223372036854775807 := Nat.le_trans hap.le hap.max
  go_enter Tryz.func17, Tryz.ntmps17
  go_wp2_with fail
  go_loopw [5] (fun e wr => ∃ j : Nat, j ≤ l.length ∧ e = .int .i64 (j : Int) ∧ Below w.heap.size w wr) (fun e _ => l.length - (RowKit.intOf e).toNat)
  case atStart => exact ⟨0, by omega, rfl, Below.refl _ _⟩
  case round =>
    obtain ⟨j, hj, rfl, bj⟩ := hrel
    have hzr := bj.size
    by_cases hjl : j < l.length
    · have y2 : (j : Int) < l.length := by omega
      obtain ⟨hSb, v, hv, aq, cq, bq, oq, rfl, hhq, hlq⟩ := HP.out j hjl
      obtain ⟨hSb', v', hv', aq', cq', bq', oq', rfl, hhq', hlq'⟩ := HP'.out j hjl
      obtain rfl : ap = some ⟨bp, op, none⟩ := hap.at_.resolve_left (by omega)
      obtain rfl : ap' = some ⟨bp', op', none⟩ := hap'.at_.resolve_left (by omega)
      have hk0 : ∀ x, S x → wr.heap[x]? = w.heap[x]? := fun x hx => bj.block x (hS x hx)
      have hk1 : ∀ x, S' x → wr.heap[x]? = w.heap[x]? := fun x hx => bj.block x (hS' x hx)
      have r0 : wr.cell? ⟨bp, op + j, none⟩ = some (.slice aq (l[j]).length cq) := (World.cell?_of_block (w := w) (a := ⟨bp, op + j, none⟩) (hk0 _ hSb)).trans hv
      have r1 : wr.cell? ⟨bp', op' + j, none⟩ = some (.slice aq' (l[j]).length cq') := (World.cell?_of_block (w := w) (a := ⟨bp', op' + j, none⟩) (hk1 _ hSb')).trans hv'
      have hbl : bp < wr.heap.size := World.block_lt_of_cell? wr _ r0
      have hbl' : bp' < wr.heap.size := World.block_lt_of_cell? wr _ r1
      have p0 : ∀ x : Sub wr.heap.size wr, _ := sub_cell r0 hbl
      have q0 : ∀ x : Sub wr.heap.size wr, _ := sub_cell r1 hbl'
      have CI : Hid (∀ x : Sub wr.heap.size wr, Calls Tryz.prog 12 #[.slice aq (l[j]).length cq, .slice aq' (l[j]).length cq'] x.w fun e w'' => e = .returned (.bool true) ∧ ∃ y : Sub wr.heap.size wr, w'' = y.w) :=
        sub_call fun w' hb => by
          refine (psame_any l[j] S S' aq cq bq oq aq' cq' bq' oq' w' hhq (liesP_keep (fun x hx => (hb.block x (by have := hS x hx; omega)).trans (hk0 x hx)) (fun _ h => h) hlq) hhq' (liesP_keep (fun x hx => (hb.block x (by have := hS' x hx; omega)).trans (hk1 x hx)) (fun _ h => h) hlq') (fun x hx => by have := hS x hx; have := hb.size; omega) (fun x hx => by have := hS' x hx; have := hb.size; omega)).mono ?_
          rintro e w'' ⟨he, h2⟩
          exact ⟨he, hb.trans (h2.mono hb.size)⟩
      clear hlq hlq' hv hv' r0 r1 hk0 hk1 hhq hhq'
      generalize (l[j]).length = nj at *
      go_wp2_with fail
      refine wp_region_sub wr.heap.size (by kernel_rfl) (by kernel_rfl) ?_
      repeat (go_big_quiet_step (exact CI.out _))
      refine wpQuiet_nil ?_
      rintro wq ⟨⟨wq', bq⟩, hq⟩
      have hq' : wq = wq' := hq
      subst hq'
      clear hq
      go_wp2_with fail
      go_roundw
      case rel => exact ⟨j + 1, by omega, by go_num, bj.trans (bq.mono hzr)⟩
      case measure => simp [RowKit.intOf]; omega
    · obtain rfl : j = l.length := by omega
      have y2 : ¬ (l.length : Int) < l.length := by omega
      have HB := hmk bj
      go_wp2_with fail
      go_ret
      exact ⟨rfl, HB.out⟩
set_option maxHeartbeats 8000000 in
set_option maxRecDepth 100000 in
theorem within_any (l : List (List El)) (p : List El) (hgl : ∀ x ∈ l, pathB x = true) (hgp : pathB p = true) (S S' : Nat → Prop) (al : Option Addr) (cl bl ol : Nat) (ap : Option Addr) (cp bp op : Nat) (w : World) (hal : Headed al l.length cl bl ol) (hl : liesQ w S l bl ol) (hap : Headed ap p.length cp bp op) (hp : liesP w S' p bp op) (hS : ∀ x, S x → x < w.heap.size) (hS' : ∀ x, S' x → x < w.heap.size) (hin : p ∈ l) :
    Calls Tryz.prog 18 #[.slice al l.length cl, .slice ap p.length cp] w (BPost true w) := by
  have HL := hmk hl
  have HP := hmk hp
  have HIN := hmk hin
  have HGL := hmk hgl
  clear hl hp hin hgl
  have hll : l.length ≤ 9223372036854775807 := Nat.le_trans hal.le hal.max
  go_enter Tryz.func18, Tryz.ntmps18
  go_wp2_with fail
  go_loopw [5] (fun e wr => ∃ j : Nat, j ≤ l.length ∧ e = .int .i64 (j : Int) ∧ Hid (∀ i, (h : i < l.length) → i < j → l[i] ≠ p) ∧ Below w.heap.size w wr) (fun e _ => l.length - (RowKit.intOf e).toNat)
  case atStart => exact ⟨0, by omega, rfl, hmk (fun i h h2 => by omega), Below.refl _ _⟩
  case round =>
    obtain ⟨j, hj, rfl, HNO, bj⟩ := hrel
    have hzr := bj.size
    by_cases hjl : j < l.length
    · have y2 : (j : Int) < l.length := by omega
      obtain ⟨hSb, v, hv, aq, cq, bq, oq, rfl, hhq, hlq⟩ := HL.out j hjl
      obtain rfl : al = some ⟨bl, ol, none⟩ := hal.at_.resolve_left (by omega)
      have hk0 : ∀ x, S x → wr.heap[x]? = w.heap[x]? := fun x hx => bj.block x (hS x hx)
      have hk1 : ∀ x, S' x → wr.heap[x]? = w.heap[x]? := fun x hx => bj.block x (hS' x hx)
      have r0 : wr.cell? ⟨bl, ol + j, none⟩ = some (.slice aq (l[j]).length cq) := (World.cell?_of_block (w := w) (a := ⟨bl, ol + j, none⟩) (hk0 _ hSb)).trans hv
      have C : ∀ E : Bool, (E = true ↔ l[j] = p) → Calls Tryz.prog 12 #[.slice aq (l[j]).length cq, .slice ap p.length cp] wr (BPost E wr) := fun E hE =>
        pcmp_any l[j] p (HGL.out _ (List.getElem_mem hjl)) hgp S S' aq cq bq oq ap cp bp op wr hhq (liesP_keep hk0 (fun _ h => h) hlq) hap (liesP_keep hk1 (fun _ h => h) HP.out) (fun x hx => Nat.lt_of_lt_of_le (hS x hx) bj.size) (fun x hx => Nat.lt_of_lt_of_le (hS' x hx) bj.size) E hE
      by_cases heq : l[j] = p
      · have c := hmk (C true (by simp [heq]))
        have HB := hmk bj
        clear C hlq hv hk0 hk1 hhq heq
        generalize (l[j]).length = nj at *
        go_wp2_with fail
        refine c.out.mono ?_
        rintro e w2 ⟨rfl, b2⟩
        go_wp2_with fail
        go_ret
        exact ⟨rfl, HB.out.trans (b2.mono HB.out.size)⟩
      · have c := hmk (C false (by simp [heq]))
        have HNX : Hid (∀ i, (h : i < l.length) → i < j + 1 → l[i] ≠ p) := fun i h h2 => by
          by_cases hij : i < j
          · exact HNO.out i h hij
          · obtain rfl : i = j := by omega
            exact heq
        clear C hlq hv hk0 hk1 hhq heq
        generalize (l[j]).length = nj at *
        go_wp2_with fail
        refine c.out.mono ?_
        rintro e w2 ⟨rfl, b2⟩
        have b3 := bj.trans (b2.mono bj.size)
        clear b2
        go_wp2_with fail
        go_roundw
        case rel => exact ⟨j + 1, by omega, by go_num, HNX, b3⟩
        case measure => simp [RowKit.intOf]; omega
    · obtain rfl : j = l.length := by omega
      obtain ⟨i, hi, he⟩ := List.getElem_of_mem HIN.out
      exact absurd he (HNO.out i hi hi)
end Go.Proofs.YtihcggepeadklaaGreatDoor
