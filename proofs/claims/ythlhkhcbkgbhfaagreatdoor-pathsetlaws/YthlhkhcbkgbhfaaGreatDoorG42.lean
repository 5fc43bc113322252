/- joined: LawE ChoJ LwsP SetL -/
import Derived.Test.YthlhkhcbkgbhfaaGreatDoorG33
import Derived.Test.YthlhkhcbkgbhfaaGreatDoorAwkL
/- PathsetEnds: the law's own walk. -/
set_option linter.unusedSimpArgs false
set_option linter.unusedVariables false
namespace Go.Proofs.YthlhkhcbkgbhfaaGreatDoor
open Go Go.RowKit Go.Lib
theorem setC_ok : ∀ (l : List (List El)) (pv : Option (List El)), (∀ p ∈ l, pathB p = true) → l.Pairwise (fun a b => lexL oeE a b < 0) → (∀ q, pv = some q → ∀ p ∈ l, lexL oeE q p < 0) → setC pv l = 0
  | [], pv, _, _, _ => rfl
  | p :: t, pv, h1, h2, h3 => by
    rw [List.pairwise_cons] at h2
    have hok : okPv pv p = true := by
      cases pv with
      | none => rfl
      | some q => exact decide_eq_true (h3 q rfl p List.mem_cons_self)
    rw [setC, if_pos (h1 p List.mem_cons_self), if_pos hok]
    exact setC_ok t (some p) (fun q hq => h1 q (List.mem_cons_of_mem _ hq)) h2.2 (fun q hq x hx => by cases hq; exact h2.1 x hx)
end Go.Proofs.YthlhkhcbkgbhfaaGreatDoor
/- The document's Union, Meet, Minus and Within. -/
namespace Go.Proofs.YthlhkhcbkgbhfaaGreatDoor
open Go Go.RowKit Go.Lib Go.Shelf
/-- whether all are in it, and the error -/
def wiB (a b : List (List El)) : Bool := decide (errJ a b = 0) && decide ((joL tN a b).length = 0)
def WiPost (r : Bool) (er : Nat) (w : World) (e : Ending) (w' : World) : Prop := e = .returned (.tuple #[.bool r, .int .i64 (er : Int)]) ∧ Below w.heap.size w w'
end Go.Proofs.YthlhkhcbkgbhfaaGreatDoor
/- Sets joined: the laws of sets. -/
namespace Go.Proofs.YthlhkhcbkgbhfaaGreatDoor
open Go.RowKit Go.Lib
/-- a set: paths that may be, rising -/
def SetP (l : List (List El)) : Prop := (∀ p ∈ l, pathB p = true) ∧ l.Pairwise (fun a b => lexL oeE a b < 0)
theorem SetP.ok {l : List (List El)} (h : SetP l) : errS l = 0 := setC_ok l none h.1 h.2 (fun q h => by cases h)
theorem errJ_ok {x y : List (List El)} (hx : SetP x) (hy : SetP y) : errJ x y = 0 := by rw [errJ, if_pos hx.ok, hy.ok]
theorem set_ext {x y : List (List El)} (hx : SetP x) (hy : SetP y) (h : ∀ p, p ∈ x ↔ p ∈ y) : x = y := rise_uniq wk_P x y hx.2 hy.2 h
theorem jo_mem {t : Bool → Bool → Bool} {x y : List (List El)} (hx : SetP x) (hy : SetP y) (p : List El) : p ∈ joL t x y ↔ wkM t x y p := by
  rw [joL, if_pos (errJ_ok hx hy)]
  exact (wk_two t (errJ_ok hx hy)).2 p
theorem jo_set {t : Bool → Bool → Bool} {x y : List (List El)} (hx : SetP x) (hy : SetP y) : SetP (joL t x y) := by
  refine ⟨fun p hp => ?_, ?_⟩
  · rw [joL, if_pos (errJ_ok hx hy)] at hp
    exact (wk_mem _ _ _ _ p hp).elim (hx.1 p) (hy.1 p)
  · rw [joL, if_pos (errJ_ok hx hy)]
    exact (wk_two t (errJ_ok hx hy)).1
theorem jo_len {t : Bool → Bool → Bool} (x y : List (List El)) : (joL t x y).length ≤ x.length + y.length := by
  rw [joL]
  split
  · exact wk_len _ _ _ _
  · simp
theorem jo_bq {t : Bool → Bool → Bool} {x y : List (List El)} (hx : SetP x) (hy : SetP y) (bx : ∀ p ∈ x, wtP p ≤ 2147483647) (by_ : ∀ p ∈ y, wtP p ≤ 2147483647) : ∀ p ∈ joL t x y, wtP p ≤ 2147483647 := fun p hp => by
  rw [joL, if_pos (errJ_ok hx hy)] at hp
  exact (wk_mem _ _ _ _ p hp).elim (bx p) (by_ p)
theorem un_mem {x y : List (List El)} (hx : SetP x) (hy : SetP y) (p : List El) : p ∈ joL tU x y ↔ p ∈ x ∨ p ∈ y := by
  rw [jo_mem hx hy, wkM]; simp only [tU]; grind
theorem me_mem {x y : List (List El)} (hx : SetP x) (hy : SetP y) (p : List El) : p ∈ joL tM x y ↔ p ∈ x ∧ p ∈ y := by
  rw [jo_mem hx hy, wkM]; simp [tM]
theorem mi_mem {x y : List (List El)} (hx : SetP x) (hy : SetP y) (p : List El) : p ∈ joL tN x y ↔ p ∈ x ∧ p ∉ y := by
  rw [jo_mem hx hy, wkM]; simp [tN]
theorem law_comm {x y : List (List El)} (hx : SetP x) (hy : SetP y) : joL tU y x = joL tU x y := set_ext (jo_set hy hx) (jo_set hx hy) fun p => by rw [un_mem hy hx, un_mem hx hy]; exact Or.comm
theorem law_meet {x y : List (List El)} (hx : SetP x) (hy : SetP y) : joL tM y x = joL tM x y := set_ext (jo_set hy hx) (jo_set hx hy) fun p => by rw [me_mem hy hx, me_mem hx hy]; exact And.comm
theorem law_both {x y : List (List El)} (hx : SetP x) (hy : SetP y) : joL tU (joL tM x y) (joL tN x y) = x := set_ext (jo_set (jo_set hx hy) (jo_set hx hy)) hx fun p => by
  rw [un_mem (jo_set hx hy) (jo_set hx hy), me_mem hx hy, mi_mem hx hy]
  grind
theorem law_none {x y : List (List El)} (hx : SetP x) (hy : SetP y) : joL tM (joL tM x y) (joL tN x y) = [] := set_ext (jo_set (jo_set hx hy) (jo_set hx hy)) ⟨by simp, by simp⟩ fun p => by
  rw [me_mem (jo_set hx hy) (jo_set hx hy), me_mem hx hy, mi_mem hx hy]
  simp only [List.not_mem_nil, iff_false]
  grind
theorem law_assoc {x y z : List (List El)} (hx : SetP x) (hy : SetP y) (hz : SetP z) : joL tU x (joL tU y z) = joL tU (joL tU x y) z := set_ext (jo_set hx (jo_set hy hz)) (jo_set (jo_set hx hy) hz) fun p => by
  rw [un_mem hx (jo_set hy hz), un_mem hy hz, un_mem (jo_set hx hy) hz, un_mem hx hy]
  exact or_assoc.symm
theorem wi_len {x y : List (List El)} (hx : SetP x) (hy : SetP y) : wiB x y = decide ((joL tN x y).length = 0) := by
  rw [wiB, decide_eq_true (errJ_ok hx hy), Bool.true_and]
theorem rs_set {a x : List (List El)} (ha : ∀ p ∈ a, pathB p = true) (h : Rs a x) : SetP x := ⟨fun p hp => ha p ((h.2 p).1 hp), h.1⟩
theorem rs_memB {a x : List (List El)} (ha : ∀ p ∈ a, pathB p = true) (h : Rs a x) {p : List El} (hp : pathB p = true) : memB x p = memB a p := by
  have h1 := mem_memB (l := x) (rs_set ha h).1 hp
  have h2 := mem_memB (l := a) ha hp
  rw [Bool.eq_iff_iff, h1, h2]
  exact h.2 p
theorem rs_hasB {a x : List (List El)} (ha : ∀ p ∈ a, pathB p = true) (h : Rs a x) {p : List El} (hp : pathB p = true) : hasB x p = memB a p := by
  rw [hasB, decide_eq_true (rs_set ha h).ok, hp, rs_memB ha h hp]; simp
theorem jo_memB {t : Bool → Bool → Bool} {x y : List (List El)} (hx : SetP x) (hy : SetP y) {p : List El} (hp : pathB p = true) (r : Bool) (h : p ∈ joL t x y ↔ r = true) : memB (joL t x y) p = r := by
  rw [Bool.eq_iff_iff, mem_memB (jo_set hx hy).1 hp, h]
theorem un_memB {x y : List (List El)} (hx : SetP x) (hy : SetP y) {p : List El} (hp : pathB p = true) : memB (joL tU x y) p = (memB x p || memB y p) := jo_memB hx hy hp _ (by rw [un_mem hx hy, Bool.or_eq_true, mem_memB hx.1 hp, mem_memB hy.1 hp])
theorem me_memB {x y : List (List El)} (hx : SetP x) (hy : SetP y) {p : List El} (hp : pathB p = true) : memB (joL tM x y) p = (memB x p && memB y p) := jo_memB hx hy hp _ (by rw [me_mem hx hy, Bool.and_eq_true, mem_memB hx.1 hp, mem_memB hy.1 hp])
theorem mi_memB {x y : List (List El)} (hx : SetP x) (hy : SetP y) {p : List El} (hp : pathB p = true) : memB (joL tN x y) p = (memB x p && !memB y p) := jo_memB hx hy hp _ (by
  have h1 := mem_memB hx.1 hp
  have h2 := mem_memB hy.1 hp
  rw [mi_mem hx hy, Bool.and_eq_true, Bool.not_eq_true', ← h1, ← h2]
  simp)
end Go.Proofs.YthlhkhcbkgbhfaaGreatDoor
/- sets of the statements of layer 10: the sets of three lists. -/
namespace Go.Proofs.YthlhkhcbkgbhfaaGreatDoor
open Go Go.RowKit Go.Lib
theorem results_tmp4 {fn : Func} {t u v x : Tmp} (h : fn.results = #[.tmp t, .tmp u, .tmp v, .tmp x]) (tmps : Array Value) (P : Program) (w : World) :
    (results fn tmps).run P w = .ok (.tuple #[tmps.getD t undef, tmps.getD u undef, tmps.getD v undef, tmps.getD x undef]) w := by
  simp [results, h]
def Good (l : List (List El)) : Prop := ∀ p ∈ l, pathB p = true
/-- what Of answered: a set that lies, or an error -/
def OfR (l : List (List El)) (w : World) (va : Option Addr) (vn vc : Nat) (er : Int) : Prop := (Good l ∧ er = 0 ∧ ∃ (R : List (List El)) (b o : Nat), vn = R.length ∧ Rs l R ∧ Headed va R.length vc b o ∧ liesQ w (Old w) R b o) ∨ (¬ Good l ∧ er = 90)
theorem OfR.next {l : List (List El)} {w w' : World} {va : Option Addr} {vn vc : Nat} {er : Int} (h : OfR l w va vn vc er) (hb : Below w.heap.size w w') : OfR l w' va vn vc er := by
  rcases h with ⟨h1, h2, R, b, o, h3, h4, h5, h6⟩ | h
  · exact .inl ⟨h1, h2, R, b, o, h3, h4, h5, liesQ_old hb h6⟩
  · exact .inr h
theorem so_out {l : List (List El)} {w : World} {e : Ending} {w' : World} (h : SoPost l w e w') : ∃ va vn vc er, e = .returned (.tuple #[.slice va vn vc, .int .i64 er]) ∧ OfR l w' va vn vc er ∧ Below w.heap.size w w' := by
  obtain ⟨h1, h2⟩ := h
  rcases h2 with ⟨hg, R, a, c, b, o, hR, rfl, hd, hl⟩ | ⟨hn, rfl⟩
  · exact ⟨a, R.length, c, 0, rfl, .inl ⟨hg, rfl, R, b, o, rfl, hR, hd, liesQ_keep (fun _ _ => rfl) (fun x hx => hx.2) hl⟩, h1⟩
  · exact ⟨none, 0, 0, 90, rfl, .inr ⟨hn, rfl⟩, h1⟩
def SePost (a b c : List (List El)) (w : World) (e : Ending) (w' : World) : Prop := Below w.heap.size w w' ∧
  (((Good a ∧ Good b ∧ Good c) ∧ ∃ (x y z : List (List El)) (xa : Option Addr) (xc xb xo : Nat) (ya : Option Addr) (yc yb yo : Nat) (za : Option Addr) (zc zb zo : Nat), (Rs a x ∧ Rs b y ∧ Rs c z) ∧ e = .returned (.tuple #[.slice xa x.length xc, .slice ya y.length yc, .slice za z.length zc, .bool true]) ∧ (Headed xa x.length xc xb xo ∧ liesQ w' (Old w') x xb xo) ∧ (Headed ya y.length yc yb yo ∧ liesQ w' (Old w') y yb yo) ∧ (Headed za z.length zc zb zo ∧ liesQ w' (Old w') z zb zo))
  ∨ (¬ (Good a ∧ Good b ∧ Good c) ∧ ∃ X Y Z, e = .returned (.tuple #[X, Y, Z, .bool false])))
set_option maxHeartbeats 8000000 in
set_option maxRecDepth 100000 in
theorem sets_any (a b c : List (List El)) (aa : Option Addr) (ca ba oa : Nat) (ab : Option Addr) (cb bb ob : Nat) (ac : Option Addr) (cc bc oc : Nat) (w : World) (tb : Tb w) (hha : Headed aa a.length ca ba oa) (hla : liesQ w (Old w) a ba oa) (hhb : Headed ab b.length cb bb ob) (hlb : liesQ w (Old w) b bb ob) (hhc : Headed ac c.length cc bc oc) (hlc : liesQ w (Old w) c bc oc) (hwa : a.length + wtQ a ≤ 2147483647) (hwb : b.length + wtQ b ≤ 2147483647) (hwc : c.length + wtQ c ≤ 2147483647) :
    Calls Tryz.prog 7 #[.slice aa a.length ca, .slice ab b.length cb, .slice ac c.length cc] w (SePost a b c w) := by
  have HT := hmk tb
  have H0b := hmk hlb
  have H0c := hmk hlc
  have c1 := hmk (twinq_any a (Old w) aa ca ba oa w hha hla (old_lt w) hwa)
  clear hla hlb hlc tb
  go_enter Tryz.func7, Tryz.ntmps7
  go_wp2_with fail
  refine c1.out.mono ?_
  rintro e w1 ⟨ta, tc, tb', to', rfl, hd1, hl1, b1⟩
  have c2 := hmk (of_any a (Old w1) ta tc tb' to' w1 (HT.out.below b1 HT.out.z) hd1 (liesQ_tw b1 hl1) (old_lt w1) hwa)
  clear c1 hl1
  go_wp2_with fail
  refine c2.out.mono ?_
  intro e w2 hp
  obtain ⟨xa, xn, xc, xe, rfl, hX, b2⟩ := so_out hp
  have B2 := b1.trans (b2.mono b1.size)
  have H2b := hmk (liesQ_old B2 H0b.out)
  have HX := hmk hX
  clear hp hX c2 b1 b2 H0b hd1
  have c3 := hmk (twinq_any b (Old w2) ab cb bb ob w2 hhb H2b.out (old_lt w2) hwb)
  go_wp2_with fail
  refine c3.out.mono ?_
  rintro e w3 ⟨ta, tc, tb', to', rfl, hd1, hl1, b3⟩
  have B3 := B2.trans (b3.mono B2.size)
  have c4 := hmk (of_any b (Old w3) ta tc tb' to' w3 (HT.out.below B3 HT.out.z) hd1 (liesQ_tw b3 hl1) (old_lt w3) hwb)
  clear c3 hl1 H2b
  go_wp2_with fail
  refine c4.out.mono ?_
  intro e w4 hp
  obtain ⟨ya, yn, yc, ye, rfl, hY, b4⟩ := so_out hp
  have b24 := b3.trans (b4.mono b3.size)
  have B4 := B2.trans (b24.mono B2.size)
  have H4c := hmk (liesQ_old B4 H0c.out)
  have HX4 := hmk (HX.out.next b24)
  have HY := hmk hY
  clear hp hY c4 b3 b4 b24 H0c hd1 HX B2 B3
  have c5 := hmk (twinq_any c (Old w4) ac cc bc oc w4 hhc H4c.out (old_lt w4) hwc)
  go_wp2_with fail
  refine c5.out.mono ?_
  rintro e w5 ⟨ta, tc, tb', to', rfl, hd1, hl1, b5⟩
  have B5 := B4.trans (b5.mono B4.size)
  have c6 := hmk (of_any c (Old w5) ta tc tb' to' w5 (HT.out.below B5 HT.out.z) hd1 (liesQ_tw b5 hl1) (old_lt w5) hwc)
  clear c5 hl1 H4c
  go_wp2_with fail
  refine c6.out.mono ?_
  intro e w6 hp
  obtain ⟨za, zn, zc, ze, rfl, hZ, b6⟩ := so_out hp
  have b46 := b5.trans (b6.mono b5.size)
  have B6 := B4.trans (b46.mono B4.size)
  have hX6 := HX4.out.next b46
  have hY6 := HY.out.next b46
  clear hp c6 b5 b6 b46 hd1 HX4 HY B4 B5
  rcases hX6 with ⟨ga, rfl, x, xb, xo, rfl, rx, hx, lx⟩ | ⟨ga, rfl⟩
  rotate_left
  · have HN : Hid (¬ (Good a ∧ Good b ∧ Good c)) := fun h => ga h.1
    clear hY6 hZ ga
    go_wp2_with fail
    (try simp only [Exit.inBlock, Exit.then])
    refine bodyPost_ret (results_tmp4 rfl _ _ _) rfl ?_
    exact ⟨B6, .inr ⟨HN.out, _, _, _, rfl⟩⟩
  rcases hY6 with ⟨gb, rfl, y, yb, yo, rfl, ry, hy, ly⟩ | ⟨gb, rfl⟩
  rotate_left
  · have HN : Hid (¬ (Good a ∧ Good b ∧ Good c)) := fun h => gb h.2.1
    clear hZ gb lx rx ga
    go_wp2_with fail
    (try simp only [Exit.inBlock, Exit.then])
    refine bodyPost_ret (results_tmp4 rfl _ _ _) rfl ?_
    exact ⟨B6, .inr ⟨HN.out, _, _, _, rfl⟩⟩
  rcases hZ with ⟨gc, rfl, z, zb, zo, rfl, rz, hz, lz⟩ | ⟨gc, rfl⟩
  rotate_left
  · have HN : Hid (¬ (Good a ∧ Good b ∧ Good c)) := fun h => gc h.2.2
    clear gc lx rx ga ly ry gb
    go_wp2_with fail
    (try simp only [Exit.inBlock, Exit.then])
    refine bodyPost_ret (results_tmp4 rfl _ _ _) rfl ?_
    exact ⟨B6, .inr ⟨HN.out, _, _, _, rfl⟩⟩
  have HG : Hid ((Good a ∧ Good b ∧ Good c) ∧ (Rs a x ∧ Rs b y ∧ Rs c z)) := ⟨⟨ga, gb, gc⟩, rx, ry, rz⟩
  have HLX := hmk lx
  have HLY := hmk ly
  have HLZ := hmk lz
  clear ga gb gc rx ry rz lx ly lz
  go_wp2_with fail
  (try simp only [Exit.inBlock, Exit.then])
  refine bodyPost_ret (results_tmp4 rfl _ _ _) rfl ?_
  exact ⟨B6, .inl ⟨HG.out.1, x, y, z, xa, xc, xb, xo, ya, yc, yb, yo, za, zc, zb, zo, HG.out.2, rfl, ⟨hx, HLX.out⟩, ⟨hy, HLY.out⟩, ⟨hz, HLZ.out⟩⟩⟩
end Go.Proofs.YthlhkhcbkgbhfaaGreatDoor
