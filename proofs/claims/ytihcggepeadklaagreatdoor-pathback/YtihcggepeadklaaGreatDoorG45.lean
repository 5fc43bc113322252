/- joined: SmzC AlvP -/
import Derived.Test.YtihcggepeadklaaGreatDoorSmzB
/- pathSame of two paths that may be. -/
set_option linter.unusedSimpArgs false
set_option linter.unusedVariables false
namespace Go.Proofs.YtihcggepeadklaaGreatDoor
open Go.RowKit Go.Lib
theorem ecmp_any (x y : El) (hgx : elB x = true) (hgy : elB y = true) (S S' : Nat → Prop) (cs ds : List Value) (w : World) (hl : x.lies w S cs) (hl' : y.lies w S' ds) (hS : ∀ x, S x → x < w.heap.size) (hS' : ∀ x, S' x → x < w.heap.size) (E : Bool) (hE : E = true ↔ x = y) :
    Calls Tryz.prog 24 #[.agg cs.toArray, .agg ds.toArray] w (BPost E w) := by
  cases E with
  | true =>
    obtain rfl := hE.1 rfl
    exact esame_any x S S' cs ds w hl hl' hS hS'
  | false => exact ediff_any x y hgx hgy (fun h => Bool.noConfusion (hE.2 h)) S S' cs ds w hl hl' hS hS'
set_option maxHeartbeats 8000000 in
set_option maxRecDepth 100000 in
theorem pdiff_any (p q : List El) (hgp : ∀ x ∈ p, elB x = true) (hgq : ∀ x ∈ q, elB x = true) (hne : p ≠ q) (S S' : Nat → Prop) (ap : Option Addr) (cp bp op : Nat) (ap' : Option Addr) (cp' bp' op' : Nat) (w : World) (hap : Headed ap p.length cp bp op) (hp : liesP w S p bp op) (hap' : Headed ap' q.length cp' bp' op') (hp' : liesP w S' q bp' op') (hS : ∀ x, S x → x < w.heap.size) (hS' : ∀ x, S' x → x < w.heap.size) :
    Calls Tryz.prog 12 #[.slice ap p.length cp, .slice ap' q.length cp'] w (BPost false w) := by
  have HP := hmk hp
  have HP' := hmk hp'
  have HNE := hmk hne
  have HGP := hmk hgp
  have HGQ := hmk hgq
  clear hp hp' hne hgp hgq
  have hlp : p.length ≤ 9223372036854775807 := Nat.le_trans hap.le hap.max
  have hlq : q.length ≤ 9223372036854775807 := Nat.le_trans hap'.le hap'.max
  by_cases e2 : p.length = q.length
  rotate_left
  · have y0 : ((p.length : Int) != (q.length : Int)) = true := bne_iff_ne.2 (by omega)
    clear e2
    go_enter Tryz.func12, Tryz.ntmps12
    go_wp2_with fail
    go_ret
    exact ⟨rfl, Below.refl _ _⟩
  have yl : ((p.length : Int) != (q.length : Int)) = false := by rw [bne_eq_false_iff_eq]; omega
  have HE2 := hmk e2
  clear e2
  go_enter Tryz.func12, Tryz.ntmps12
  go_wp2_with fail
  go_loopw [5] (fun e wr => ∃ j : Nat, j ≤ p.length ∧ e = .int .i64 (j : Int) ∧ Hid (p.take j = q.take j) ∧ Below w.heap.size w wr) (fun e _ => p.length - (RowKit.intOf e).toNat)
  case atStart => exact ⟨0, by omega, rfl, hmk rfl, Below.refl _ _⟩
  case round =>
    obtain ⟨j, hj, rfl, HTK, bj⟩ := hrel
    have hzr := bj.size
    by_cases hjl : j < p.length
    · have hjl2 : j < q.length := by have := HE2.out; omega
      have y2 : (j : Int) < p.length := by omega
      have y3 : (j : Int) < q.length := by omega
      obtain ⟨hSb, csj, hrow, hlj⟩ := HP.out j hjl
      obtain ⟨hSb', dsj, hrow', hlj'⟩ := HP'.out j hjl2
      obtain rfl : ap = some ⟨bp, op, none⟩ := hap.at_.resolve_left (by omega)
      obtain rfl : ap' = some ⟨bp', op', none⟩ := hap'.at_.resolve_left (by omega)
      have hk0 : ∀ x, S x → wr.heap[x]? = w.heap[x]? := fun x hx => bj.block x (hS x hx)
      have hk1 : ∀ x, S' x → wr.heap[x]? = w.heap[x]? := fun x hx => bj.block x (hS' x hx)
      obtain ⟨k, s, am, nm, cm, vk, vb, vi, vs, val, vnl, vcl, vam, vnm, vcm, rfl⟩ := El.nine hlj
      obtain ⟨k', s', am', nm', cm', vk', vb', vi', vs', val', vnl', vcl', vam', vnm', vcm', rfl⟩ := El.nine hlj'
      have rw0 := row9 (hrow.keep (hk0 _ hSb))
      have rw1 := row9 (hrow'.keep (hk1 _ hSb'))
      have hbl : bp < wr.heap.size := World.block_lt_of_cell? wr _ rw0.1
      have hbl' : bp' < wr.heap.size := World.block_lt_of_cell? wr _ rw1.1
      have p0 : ∀ x : Sub wr.heap.size wr, _ := sub_cell rw0.1 hbl
      have p1 : ∀ x : Sub wr.heap.size wr, _ := sub_cell rw0.2.1 hbl
      have p2 : ∀ x : Sub wr.heap.size wr, _ := sub_cell rw0.2.2.1 hbl
      have p3 : ∀ x : Sub wr.heap.size wr, _ := sub_cell rw0.2.2.2.1 hbl
      have p4 : ∀ x : Sub wr.heap.size wr, _ := sub_cell rw0.2.2.2.2.1 hbl
      have p5 : ∀ x : Sub wr.heap.size wr, _ := sub_cell rw0.2.2.2.2.2.1 hbl
      have p6 : ∀ x : Sub wr.heap.size wr, _ := sub_cell rw0.2.2.2.2.2.2.1 hbl
      have p7 : ∀ x : Sub wr.heap.size wr, _ := sub_cell rw0.2.2.2.2.2.2.2.1 hbl
      have p8 : ∀ x : Sub wr.heap.size wr, _ := sub_cell rw0.2.2.2.2.2.2.2.2 hbl
      have q0 : ∀ x : Sub wr.heap.size wr, _ := sub_cell rw1.1 hbl'
      have q1 : ∀ x : Sub wr.heap.size wr, _ := sub_cell rw1.2.1 hbl'
      have q2 : ∀ x : Sub wr.heap.size wr, _ := sub_cell rw1.2.2.1 hbl'
      have q3 : ∀ x : Sub wr.heap.size wr, _ := sub_cell rw1.2.2.2.1 hbl'
      have q4 : ∀ x : Sub wr.heap.size wr, _ := sub_cell rw1.2.2.2.2.1 hbl'
      have q5 : ∀ x : Sub wr.heap.size wr, _ := sub_cell rw1.2.2.2.2.2.1 hbl'
      have q6 : ∀ x : Sub wr.heap.size wr, _ := sub_cell rw1.2.2.2.2.2.2.1 hbl'
      have q7 : ∀ x : Sub wr.heap.size wr, _ := sub_cell rw1.2.2.2.2.2.2.2.1 hbl'
      have q8 : ∀ x : Sub wr.heap.size wr, _ := sub_cell rw1.2.2.2.2.2.2.2.2 hbl'
      by_cases heq : p[j] = q[j]
      rotate_left
      · have CI : Hid (∀ x : Sub wr.heap.size wr, Calls Tryz.prog 24 #[.agg #[.int .i64 k, .string s, .slice am nm cm, .int .i64 vk, .bool vb, .int .i64 vi, .string vs, .slice val vnl vcl, .slice vam vnm vcm], .agg #[.int .i64 k', .string s', .slice am' nm' cm', .int .i64 vk', .bool vb', .int .i64 vi', .string vs', .slice val' vnl' vcl', .slice vam' vnm' vcm']] x.w fun e w'' => e = .returned (.bool false) ∧ ∃ y : Sub wr.heap.size wr, w'' = y.w) :=
          sub_call fun w' hb => by
            refine (ecmp_any p[j] q[j] (HGP.out _ (List.getElem_mem hjl)) (HGQ.out _ (List.getElem_mem hjl2)) S S' _ _ w' (El.lies_keep (fun x hx => (hb.block x (by have := hS x hx; omega)).trans (hk0 x hx)) (fun _ h => h) hlj) (El.lies_keep (fun x hx => (hb.block x (by have := hS' x hx; omega)).trans (hk1 x hx)) (fun _ h => h) hlj') (fun x hx => by have := hS x hx; have := hb.size; omega) (fun x hx => by have := hS' x hx; have := hb.size; omega) false (by simp [heq])).mono ?_
            rintro e w'' ⟨he, h2⟩
            exact ⟨he, hb.trans (h2.mono hb.size)⟩
        clear hlj hlj' hrow hrow' rw0 rw1 hk0 hk1 heq
        go_wp2_with fail
        refine wp_region_sub wr.heap.size (by kernel_rfl) (by kernel_rfl) ?_
        repeat (go_big_quiet_step (exact CI.out _))
        refine wpQuiet_nil ?_
        rintro wq ⟨⟨wq', bq⟩, hq⟩
        have hq' : wq = wq' := hq
        subst hq'
        clear hq
        have HBQ := hmk (bj.trans (bq.mono hzr))
        go_wp2_with fail
        go_ret
        exact ⟨rfl, HBQ.out⟩
      have HNX : Hid (p.take (j + 1) = q.take (j + 1)) := by show _ = _; rw [List.take_succ_eq_append_getElem hjl, List.take_succ_eq_append_getElem hjl2, HTK.out, heq]
      have CI : Hid (∀ x : Sub wr.heap.size wr, Calls Tryz.prog 24 #[.agg #[.int .i64 k, .string s, .slice am nm cm, .int .i64 vk, .bool vb, .int .i64 vi, .string vs, .slice val vnl vcl, .slice vam vnm vcm], .agg #[.int .i64 k', .string s', .slice am' nm' cm', .int .i64 vk', .bool vb', .int .i64 vi', .string vs', .slice val' vnl' vcl', .slice vam' vnm' vcm']] x.w fun e w'' => e = .returned (.bool true) ∧ ∃ y : Sub wr.heap.size wr, w'' = y.w) :=
        sub_call fun w' hb => by
          refine (ecmp_any p[j] q[j] (HGP.out _ (List.getElem_mem hjl)) (HGQ.out _ (List.getElem_mem hjl2)) S S' _ _ w' (El.lies_keep (fun x hx => (hb.block x (by have := hS x hx; omega)).trans (hk0 x hx)) (fun _ h => h) hlj) (El.lies_keep (fun x hx => (hb.block x (by have := hS' x hx; omega)).trans (hk1 x hx)) (fun _ h => h) hlj') (fun x hx => by have := hS x hx; have := hb.size; omega) (fun x hx => by have := hS' x hx; have := hb.size; omega) true (by simp [heq])).mono ?_
          rintro e w'' ⟨he, h2⟩
          exact ⟨he, hb.trans (h2.mono hb.size)⟩
      clear hlj hlj' hrow hrow' rw0 rw1 hk0 hk1 heq
      go_wp2_with fail
      refine wp_region_sub wr.heap.size (by kernel_rfl) (by kernel_rfl) ?_
      repeat (go_big_quiet_step (exact CI.out _))
      refine wpQuiet_nil ?_
      rintro wq ⟨⟨wq', bq⟩, hq⟩
      have hq' : wq = wq' := hq
      subst hq'
      clear hq
      go_wp2_with fail
      go_roundw
      case rel => exact ⟨j + 1, by omega, by go_num, HNX, bj.trans (bq.mono hzr)⟩
      case measure => simp [RowKit.intOf]; omega
    · obtain rfl : j = p.length := by omega
      exact absurd (by
        have h1 := HTK.out
        rw [List.take_of_length_le (Nat.le_refl _), List.take_of_length_le (by rw [HE2.out]; exact Nat.le_refl _)] at h1
        exact h1) HNE.out
theorem pcmp_any (p q : List El) (hgp : pathB p = true) (hgq : pathB q = true) (S S' : Nat → Prop) (ap : Option Addr) (cp bp op : Nat) (ap' : Option Addr) (cp' bp' op' : Nat) (w : World) (hap : Headed ap p.length cp bp op) (hp : liesP w S p bp op) (hap' : Headed ap' q.length cp' bp' op') (hp' : liesP w S' q bp' op') (hS : ∀ x, S x → x < w.heap.size) (hS' : ∀ x, S' x → x < w.heap.size) (E : Bool) (hE : E = true ↔ p = q) :
    Calls Tryz.prog 12 #[.slice ap p.length cp, .slice ap' q.length cp'] w (BPost E w) := by
  cases E with
  | true =>
    obtain rfl := hE.1 rfl
    exact psame_any p S S' ap cp bp op ap' cp' bp' op' w hap hp hap' hp' hS hS'
  | false => exact pdiff_any p q (pathB_all hgp).2 (pathB_all hgq).2 (fun h => Bool.noConfusion (hE.2 h)) S S' ap cp bp op ap' cp' bp' op' w hap hp hap' hp' hS hS'
end Go.Proofs.YtihcggepeadklaaGreatDoor
/- What the law's alive asks, at its path. -/
namespace Go.Proofs.YtihcggepeadklaaGreatDoor
open Go.RowKit Go.Lib
def alA : El := ⟨1, ⟨#[115, 112, 101, 99]⟩, [], nilW⟩
def alB : El := ⟨1, ⟨#[97, 32, 98]⟩, [], nilW⟩
def alC : El := ⟨2, ⟨#[]⟩, [(⟨#[105, 100]⟩, .mk 2 false 1 ⟨#[]⟩ [] [])], nilW⟩
def alD : El := ⟨3, ⟨#[]⟩, [], .mk 3 false 0 ⟨#[113]⟩ [] []⟩
def alP : List El := [alA, alB, alC, alD]
def alT : List UInt8 := [46, 115, 112, 101, 99, 46, 34, 97, 32, 98, 34, 91, 105, 100, 61, 49, 93, 91, 61, 34, 113, 34, 93]
theorem al_itoa : itoa 1 = [49] := by
  have : decDigits 1 = [49] := by rw [decDigits]; rfl
  rw [itoa, if_neg (by decide)]
  exact this
theorem al_A : elB alA = true := by kernel_rfl
theorem al_B : elB alB = true := by kernel_rfl
theorem al_C : elB alC = true := by kernel_rfl
theorem al_D : elB alD = true := by kernel_rfl
theorem al_tA : elT alA = [46, 115, 112, 101, 99] := by kernel_rfl
theorem al_tB : elT alB = [46, 34, 97, 32, 98, 34] := by kernel_rfl
theorem al_tC : elT alC = [91, 105, 100, 61, 49, 93] := by
  have h : elT alC = 91 :: ([105, 100] ++ 61 :: (itoa 1 ++ [93])) := by kernel_rfl
  rw [h, al_itoa]; rfl
theorem al_tD : elT alD = [91, 61, 34, 113, 34, 93] := by kernel_rfl
theorem al_path : pathB alP = true := by
  rw [pathB]
  simp [alP, al_A, al_B, al_C, al_D]
theorem al_err : errP alP = 0 := by rw [errP, al_path]; rfl
theorem al_text : tT alP = alT := by
  rw [tT, al_path, if_pos rfl]
  show elT alA ++ (elT alB ++ (elT alC ++ (elT alD ++ []))) = alT
  rw [al_tA, al_tB, al_tC, al_tD]; rfl
theorem al_n1 : elmF alT 0 = some (alA, 5) := by kernel_rfl
theorem al_n2 : elmF alT 5 = some (alB, 11) := by kernel_rfl
theorem al_n3 : elmF alT 11 = some (alC, 17) := by kernel_rfl
theorem al_n4 : elmF alT 17 = some (alD, 23) := by kernel_rfl
theorem al_read : parF alT 33 0 [] = (alP, -1, 0) := by
  rw [par_yes (by decide) (by decide) (nxt_3 al_n1 al_A (by rw [al_tA]; rfl)), par_yes (by decide) (by decide) (nxt_3 al_n2 al_B (by rw [al_tB]; rfl)), par_yes (by decide) (by decide) (nxt_3 al_n3 al_C (by rw [al_tC]; rfl)), par_yes (by decide) (by decide) (nxt_3 al_n4 al_D (by rw [al_tD]; rfl)), par_end (by decide)]
  rfl
theorem al_m1 : elmF [46, 97, 46] 0 = some (⟨1, ⟨#[97]⟩, [], nilW⟩, 2) := by kernel_rfl
theorem al_m2 : elmF [46, 97, 46] 2 = none := by kernel_rfl
theorem al_bad : parF [46, 97, 46] 33 0 [] = ([], 2, 90) := by
  rw [par_yes (by decide) (by decide) (nxt_3 al_m1 (by kernel_rfl) (by kernel_rfl)), par_no (by decide) (nxt_1 al_m2)]
  rfl
theorem al_cmp : cmpP (alP.take 1) alP = -1 := by kernel_rfl
theorem al_abv : abvP (alP.take 2) alP = true := by kernel_rfl
theorem al_wt : wtP alP ≤ 2147483647 := by
  have : wtP alP = 15 := by kernel_rfl
  omega
end Go.Proofs.YtihcggepeadklaaGreatDoor
