/- joined: SmzC PrsP -/
import Derived.Test.YtihcggepeadklaaGreatDoorSmzB
import Derived.Lib.ParseIntB
import Derived.Lib.SlTrimSet
/- pathSame of two paths that may be. -/
set_option linter.unusedSimpArgs false
set_option linter.unusedVariables false
namespace Go.Proofs.YtihcggepeadklaaGreatDoor
open Go.RowKit Go.Lib
theorem ecmp_any (x y : El) (hgx : elB x = true) (hgy : elB y = true) (S S' : Nat → Prop) (cs ds : List Value) (w : World) (hl : x.lies w S cs) (hl' : y.lies w S' ds) (hS : ∀ x, S x → x < w.heap.size) (hS' : ∀ x, S' x → x < w.heap.size) (E : Bool) (hE : E = true ↔ x = y) :
    Calls Tryz.prog 24 #[.agg cs.toArray, .agg ds.toArray] w (BPost E w) := by
  cases E with
  | true =>
    obtain rfl := hE.1 rfl
    exact esame_any x S S' cs ds w hl hl' hS hS'
  | false => exact ediff_any x y hgx hgy (fun h => Bool.noConfusion (hE.2 h)) S S' cs ds w hl hl' hS hS'
set_option maxHeartbeats 8000000 in
set_option maxRecDepth 100000 in
theorem pdiff_any (p q : List El) (hgp : ∀ x ∈ p, elB x = true) (hgq : ∀ x ∈ q, elB x = true) (hne : p ≠ q) (S S' : Nat → Prop) (ap : Option Addr) (cp bp op : Nat) (ap' : Option Addr) (cp' bp' op' : Nat) (w : World) (hap : Headed ap p.length cp bp op) (hp : liesP w S p bp op) (hap' : Headed ap' q.length cp' bp' op') (hp' : liesP w S' q bp' op') (hS : ∀ x, S x → x < w.heap.size) (hS' : ∀ x, S' x → x < w.heap.size) :
    Calls Tryz.prog 12 #[.slice ap p.length cp, .slice ap' q.length cp'] w (BPost false w) := by
  have HP := hmk hp
  have HP' := hmk hp'
  have HNE := hmk hne
  have HGP := hmk hgp
  have HGQ := hmk hgq
  clear hp hp' hne hgp hgq
  have hlp : p.length ≤ 9223372036854775807 := Nat.le_trans hap.le hap.max
  have hlq : q.length ≤ 9223372036854775807 := Nat.le_trans hap'.le hap'.max
  by_cases e2 : p.length = q.length
  rotate_left
  · have y0 : ((p.length : Int) != (q.length : Int)) = true := bne_iff_ne.2 (by omega)
    clear e2
    go_enter Tryz.func12, Tryz.ntmps12
    go_wp2_with fail
    go_ret
    exact ⟨rfl, Below.refl _ _⟩
  have yl : ((p.length : Int) != (q.length : Int)) = false := by rw [bne_eq_false_iff_eq]; omega
  have HE2 := hmk e2
  clear e2
  go_enter Tryz.func12, Tryz.ntmps12
  go_wp2_with fail
  go_loopw [5] (fun e wr => ∃ j : Nat, j ≤ p.length ∧ e = .int .i64 (j : Int) ∧ Hid (p.take j = q.take j) ∧ Below w.heap.size w wr) (fun e _ => p.length - (RowKit.intOf e).toNat)
  case atStart => exact ⟨0, by omega, rfl, hmk rfl, Below.refl _ _⟩
  case round =>
    obtain ⟨j, hj, rfl, HTK, bj⟩ := hrel
    have hzr := bj.size
    by_cases hjl : j < p.length
    · have hjl2 : j < q.length := by have := HE2.out; omega
      have y2 : (j : Int) < p.length := by omega
      have y3 : (j : Int) < q.length := by omega
      obtain ⟨hSb, csj, hrow, hlj⟩ := HP.out j hjl
      obtain ⟨hSb', dsj, hrow', hlj'⟩ := HP'.out j hjl2
      obtain rfl : ap = some ⟨bp, op, none⟩ := hap.at_.resolve_left (by omega)
      obtain rfl : ap' = some ⟨bp', op', none⟩ := hap'.at_.resolve_left (by omega)
      have hk0 : ∀ x, S x → wr.heap[x]? = w.heap[x]? := fun x hx => bj.block x (hS x hx)
      have hk1 : ∀ x, S' x → wr.heap[x]? = w.heap[x]? := fun x hx => bj.block x (hS' x hx)
      obtain ⟨k, s, am, nm, cm, vk, vb, vi, vs, val, vnl, vcl, vam, vnm, vcm, rfl⟩ := El.nine hlj
      obtain ⟨k', s', am', nm', cm', vk', vb', vi', vs', val', vnl', vcl', vam', vnm', vcm', rfl⟩ := El.nine hlj'
      have rw0 := row9 (hrow.keep (hk0 _ hSb))
      have rw1 := row9 (hrow'.keep (hk1 _ hSb'))
      have hbl : bp < wr.heap.size := World.block_lt_of_cell? wr _ rw0.1
      have hbl' : bp' < wr.heap.size := World.block_lt_of_cell? wr _ rw1.1
      have p0 : ∀ x : Sub wr.heap.size wr, _ := sub_cell rw0.1 hbl
      have p1 : ∀ x : Sub wr.heap.size wr, _ := sub_cell rw0.2.1 hbl
      have p2 : ∀ x : Sub wr.heap.size wr, _ := sub_cell rw0.2.2.1 hbl
      have p3 : ∀ x : Sub wr.heap.size wr, _ := sub_cell rw0.2.2.2.1 hbl
      have p4 : ∀ x : Sub wr.heap.size wr, _ := sub_cell rw0.2.2.2.2.1 hbl
      have p5 : ∀ x : Sub wr.heap.size wr, _ := sub_cell rw0.2.2.2.2.2.1 hbl
      have p6 : ∀ x : Sub wr.heap.size wr, _ := sub_cell rw0.2.2.2.2.2.2.1 hbl
      have p7 : ∀ x : Sub wr.heap.size wr, _ := sub_cell rw0.2.2.2.2.2.2.2.1 hbl
      have p8 : ∀ x : Sub wr.heap.size wr, _ := sub_cell rw0.2.2.2.2.2.2.2.2 hbl
      have q0 : ∀ x : Sub wr.heap.size wr, _ := sub_cell rw1.1 hbl'
      have q1 : ∀ x : Sub wr.heap.size wr, _ := sub_cell rw1.2.1 hbl'
      have q2 : ∀ x : Sub wr.heap.size wr, _ := sub_cell rw1.2.2.1 hbl'
      have q3 : ∀ x : Sub wr.heap.size wr, _ := sub_cell rw1.2.2.2.1 hbl'
      have q4 : ∀ x : Sub wr.heap.size wr, _ := sub_cell rw1.2.2.2.2.1 hbl'
      have q5 : ∀ x : Sub wr.heap.size wr, _ := sub_cell rw1.2.2.2.2.2.1 hbl'
      have q6 : ∀ x : Sub wr.heap.size wr, _ := sub_cell rw1.2.2.2.2.2.2.1 hbl'
      have q7 : ∀ x : Sub wr.heap.size wr, _ := sub_cell rw1.2.2.2.2.2.2.2.1 hbl'
      have q8 : ∀ x : Sub wr.heap.size wr, _ := sub_cell rw1.2.2.2.2.2.2.2.2 hbl'
      by_cases heq : p[j] = q[j]
      rotate_left
      · have CI : Hid (∀ x : Sub wr.heap.size wr, Calls Tryz.prog 24 #[.agg #[.int .i64 k, .string s, .slice am nm cm, .int .i64 vk, .bool vb, .int .i64 vi, .string vs, .slice val vnl vcl, .slice vam vnm vcm], .agg #[.int .i64 k', .string s', .slice am' nm' cm', .int .i64 vk', .bool vb', .int .i64 vi', .string vs', .slice val' vnl' vcl', .slice vam' vnm' vcm']] x.w fun e w'' => e = .returned (.bool false) ∧ ∃ y : Sub wr.heap.size wr, w'' = y.w) :=
          sub_call fun w' hb => by
            refine (ecmp_any p[j] q[j] (HGP.out _ (List.getElem_mem hjl)) (HGQ.out _ (List.getElem_mem hjl2)) S S' _ _ w' (El.lies_keep (fun x hx => (hb.block x (by have := hS x hx; omega)).trans (hk0 x hx)) (fun _ h => h) hlj) (El.lies_keep (fun x hx => (hb.block x (by have := hS' x hx; omega)).trans (hk1 x hx)) (fun _ h => h) hlj') (fun x hx => by have := hS x hx; have := hb.size; omega) (fun x hx => by have := hS' x hx; have := hb.size; omega) false (by simp [heq])).mono ?_
            rintro e w'' ⟨he, h2⟩
            exact ⟨he, hb.trans (h2.mono hb.size)⟩
        clear hlj hlj' hrow hrow' rw0 rw1 hk0 hk1 heq
        go_wp2_with fail
        refine wp_region_sub wr.heap.size (by kernel_rfl) (by kernel_rfl) ?_
        repeat (go_big_quiet_step (exact CI.out _))
        refine wpQuiet_nil ?_
        rintro wq ⟨⟨wq', bq⟩, hq⟩
        have hq' : wq = wq' := hq
        subst hq'
        clear hq
        have HBQ := hmk (bj.trans (bq.mono hzr))
        go_wp2_with fail
        go_ret
        exact ⟨rfl, HBQ.out⟩
      have HNX : Hid (p.take (j + 1) = q.take (j + 1)) := by show _ = _; rw [List.take_succ_eq_append_getElem hjl, List.take_succ_eq_append_getElem hjl2, HTK.out, heq]
      have CI : Hid (∀ x : Sub wr.heap.size wr, Calls Tryz.prog 24 #[.agg #[.int .i64 k, .string s, .slice am nm cm, .int .i64 vk, .bool vb, .int .i64 vi, .string vs, .slice val vnl vcl, .slice vam vnm vcm], .agg #[.int .i64 k', .string s', .slice am' nm' cm', .int .i64 vk', .bool vb', .int .i64 vi', .string vs', .slice val' vnl' vcl', .slice vam' vnm' vcm']] x.w fun e w'' => e = .returned (.bool true) ∧ ∃ y : Sub wr.heap.size wr, w'' = y.w) :=
        sub_call fun w' hb => by
          refine (ecmp_any p[j] q[j] (HGP.out _ (List.getElem_mem hjl)) (HGQ.out _ (List.getElem_mem hjl2)) S S' _ _ w' (El.lies_keep (fun x hx => (hb.block x (by have := hS x hx; omega)).trans (hk0 x hx)) (fun _ h => h) hlj) (El.lies_keep (fun x hx => (hb.block x (by have := hS' x hx; omega)).trans (hk1 x hx)) (fun _ h => h) hlj') (fun x hx => by have := hS x hx; have := hb.size; omega) (fun x hx => by have := hS' x hx; have := hb.size; omega) true (by simp [heq])).mono ?_
          rintro e w'' ⟨he, h2⟩
          exact ⟨he, hb.trans (h2.mono hb.size)⟩
      clear hlj hlj' hrow hrow' rw0 rw1 hk0 hk1 heq
      go_wp2_with fail
      refine wp_region_sub wr.heap.size (by kernel_rfl) (by kernel_rfl) ?_
      repeat (go_big_quiet_step (exact CI.out _))
      refine wpQuiet_nil ?_
      rintro wq ⟨⟨wq', bq⟩, hq⟩
      have hq' : wq = wq' := hq
      subst hq'
      clear hq
      go_wp2_with fail
      go_roundw
      case rel => exact ⟨j + 1, by omega, by go_num, HNX, bj.trans (bq.mono hzr)⟩
      case measure => simp [RowKit.intOf]; omega
    · obtain rfl : j = p.length := by omega
      exact absurd (by
        have h1 := HTK.out
        rw [List.take_of_length_le (Nat.le_refl _), List.take_of_length_le (by rw [HE2.out]; exact Nat.le_refl _)] at h1
        exact h1) HNE.out
theorem pcmp_any (p q : List El) (hgp : pathB p = true) (hgq : pathB q = true) (S S' : Nat → Prop) (ap : Option Addr) (cp bp op : Nat) (ap' : Option Addr) (cp' bp' op' : Nat) (w : World) (hap : Headed ap p.length cp bp op) (hp : liesP w S p bp op) (hap' : Headed ap' q.length cp' bp' op') (hp' : liesP w S' q bp' op') (hS : ∀ x, S x → x < w.heap.size) (hS' : ∀ x, S' x → x < w.heap.size) (E : Bool) (hE : E = true ↔ p = q) :
    Calls Tryz.prog 12 #[.slice ap p.length cp, .slice ap' q.length cp'] w (BPost E w) := by
  cases E with
  | true =>
    obtain rfl := hE.1 rfl
    exact psame_any p S S' ap cp bp op ap' cp' bp' op' w hap hp hap' hp' hS hS'
  | false => exact pdiff_any p q (pathB_all hgp).2 (pathB_all hgq).2 (fun h => Bool.noConfusion (hE.2 h)) S S' ap cp bp op ap' cp' bp' op' w hap hp hap' hp' hS hS'
end Go.Proofs.YtihcggepeadklaaGreatDoor
/- What path.Parse reads, as plain functions: what is read at a place, and the place behind it. -/
namespace Go.Proofs.YtihcggepeadklaaGreatDoor
open Go.RowKit Go.Lib
/-- do these bytes stand at a place? -/
def tkB (l : List UInt8) (k : Nat) (p : List UInt8) : Bool := hasPrefix (l.drop k) p
/-- a quoted string -/
def quoF (l : List UInt8) (k : Nat) : Option (ByteArray × Nat) :=
  if (Q.unqAll l (k : Int)).2.2 = 0 then some (⟨(Q.unqAll l (k : Int)).1.toArray⟩, (Q.unqAll l (k : Int)).2.1) else none
def namF (l : List UInt8) (k : Nat) : Option (ByteArray × Nat) :=
  if 0 < prefN 0 (l.drop k) then some (⟨((l.drop k).take (prefN 0 (l.drop k))).toArray⟩, k + prefN 0 (l.drop k)) else quoF l k
def minDig : List UInt8 := [45, 48, 49, 50, 51, 52, 53, 54, 55, 56, 57]
/-- signs and digits -/
def runT (l : List UInt8) (k : Nat) : List UInt8 := (l.drop k).takeWhile (minDig.contains ·)
def intF (l : List UInt8) (k : Nat) : Option (V × Nat) :=
  match parseIntB 64 (runT l k) with
  | .ok v => some (.mk 2 false v ⟨#[]⟩ [] [], k + (runT l k).length)
  | _ => none
def scaF (l : List UInt8) (k : Nat) : Option (V × Nat) :=
  if tkB l k [116, 114, 117, 101] = true then some (.mk 1 true 0 ⟨#[]⟩ [] [], k + 4)
  else if tkB l k [102, 97, 108, 115, 101] = true then some (.mk 1 false 0 ⟨#[]⟩ [] [], k + 5)
  else if tkB l k [34] = true then (quoF l k).map (fun x => (.mk 3 false 0 x.1 [] [], x.2))
  else intF l k
def memF (l : List UInt8) (k : Nat) : Option (Mem × Nat) :=
  match namF l k with
  | none => none
  | some (n, k1) => if tkB l k1 [61] = true then (scaF l (k1 + 1)).map (fun x => ((n, x.1), x.2)) else none
def keyF (l : List UInt8) : Nat → Nat → List Mem → Option (List Mem × Nat)
  | 0, _, _ => none
  | n + 1, k, acc =>
    match memF l k with
    | none => none
    | some (m, k1) => if tkB l k1 [93] = true then some (acc ++ [m], k1 + 1) else if tkB l k1 [44] = true then keyF l n (k1 + 1) (acc ++ [m]) else none
def nilW : V := .mk 0 false 0 ⟨#[]⟩ [] []
def elmF (l : List UInt8) (k : Nat) : Option (El × Nat) :=
  if tkB l k [46] = true then (namF l (k + 1)).map (fun x => (⟨1, x.1, [], nilW⟩, x.2))
  else if tkB l k [91, 61] = true then
    match scaF l (k + 2) with
    | none => none
    | some (v, k1) => if tkB l k1 [93] = true then some (⟨3, ⟨#[]⟩, [], v⟩, k1 + 1) else none
  else if tkB l k [91] = true then (keyF l 8 (k + 1) []).map (fun x => (⟨2, ⟨#[]⟩, x.1, nilW⟩, x.2))
  else none
/-- an element that may be, and is written just so -/
def nxtF (l : List UInt8) (k : Nat) : Option (El × Nat) :=
  match elmF l k with
  | none => none
  | some (e, k1) => if elB e = true then (if elT e = (l.drop k).take (k1 - k) then some (e, k1) else none) else none
/-- the whole text: the path, the place of a fault, the error -/
def parF (l : List UInt8) : Nat → Nat → List El → List El × Int × Nat
  | 0, k, acc => (acc, -1, 0)
  | n + 1, k, acc =>
    if k < l.length then
      if acc.length = 32 then ([], (k : Int), 90) else
      match nxtF l k with
      | none => ([], (k : Int), 90)
      | some (e, k1) => parF l n k1 (acc ++ [e])
    else (acc, -1, 0)
/-! the places lie within the text -/
theorem tkB_le {l : List UInt8} {k : Nat} {p : List UInt8} (h : tkB l k p = true) (h0 : 0 < p.length) : k + p.length ≤ l.length := by
  unfold tkB hasPrefix at h
  have := (List.isPrefixOf_iff_prefix.1 h).length_le
  rw [List.length_drop] at this
  omega
theorem runT_le (l : List UInt8) (k : Nat) : (runT l k).length ≤ l.length - k := by
  unfold runT
  have := (List.takeWhile_prefix (fun b => minDig.contains b) (l := l.drop k)).length_le
  rw [List.length_drop] at this
  exact this
end Go.Proofs.YtihcggepeadklaaGreatDoor
