import Derived.Test.YthlhkhcbkgbhfaaGreatDoorG37
/- pathset.first, checkBoth, walk and what they take; the document's two. -/
set_option linter.unusedSimpArgs false
set_option linter.unusedVariables false
namespace Go.Proofs.YthlhkhcbkgbhfaaGreatDoor
open Go Go.RowKit Go.Lib Go.Shelf
theorem RdR.drop {w0 : World} {S : Nat → Prop} {W : World} {T : Nat → Prop} {a : Option Addr} {c b o : Nat} {R : List (PC w0 S)} (h : RdR W T a c b o R) (i : Nat) (hi : i ≤ R.length) (hc : ¬ c = i) : RdR W T (a.map (fun x => x.add i)) (c - i) b (o + i) (R.drop i) := by
  refine ⟨⟨?_, ?_, ?_, ?_⟩, fun j hj => ?_, fun h0 => h.in_ ?_⟩
  · rw [List.length_drop]; have := h.hd.le; omega
  · have := h.hd.max; omega
  · rcases h.hd.at_ with e | e
    · exact .inl (by rw [List.length_drop]; omega)
    · exact .inr (by rw [e, Option.map_some, Go.WideShapes.add_plain])
  · intro e
    have e2 : a = none := by simpa using e
    have := h.hd.nil e2; omega
  · rw [List.length_drop] at hj
    rw [List.getElem_drop, Nat.add_assoc]
    exact h.cell (i + j) (by omega)
  · rw [List.length_drop] at h0; omega
theorem RdR.done {w0 : World} {S : Nat → Prop} {W : World} {T : Nat → Prop} {a : Option Addr} {c b o : Nat} {R : List (PC w0 S)} (h : RdR W T a c b o R) {i : Nat} (hi : R.length ≤ i) : RdR W T a 0 b o (R.drop i) := by
  have e : R.drop i = [] := List.drop_eq_nil_of_le hi
  rw [e]
  exact ⟨⟨Nat.le_refl _, Nat.zero_le _, .inl rfl, fun _ => rfl⟩, fun j hj => by simp at hj, fun h0 => by simp at h0⟩
theorem map_cons {α β : Type} {f : α → β} {l : List α} {y : β} {t : List β} (h : l.map f = y :: t) : ∃ x r, l = x :: r ∧ f x = y ∧ r.map f = t := by
  cases l with
  | nil => simp at h
  | cons x r => rw [List.map_cons] at h; injection h with h1 h2; exact ⟨x, r, rfl, h1, h2⟩
set_option maxHeartbeats 4000000 in
theorem fstp_any {w0 : World} {S T : Nat → Prop} (xa xb : List (PC w0 S)) (aa : Option Addr) (ca ba oa : Nat) (ab : Option Addr) (cb bb ob : Nat) (w : World) (ha : RdR w T aa ca ba oa xa) (hb : RdR w T ab cb bb ob xb) (hw : ∀ x, S x → w.heap[x]? = w0.heap[x]?) (hS : ∀ x, S x → x < w.heap.size) :
    Calls Tryz.prog 57 #[.slice aa xa.length ca, .slice ab xb.length cb] w (JPost (fstC PC.cmp xa xb) w) := by
  have hna : xa.length ≤ 9223372036854775807 := Nat.le_trans ha.hd.le (Nat.le_trans ha.hd.max (by decide))
  have hnb : xb.length ≤ 9223372036854775807 := Nat.le_trans hb.hd.le (Nat.le_trans hb.hd.max (by decide))
  cases xb with
  | nil =>
    show Calls Tryz.prog 57 #[.slice aa xa.length ca, .slice ab 0 cb] w (JPost (-1) w)
    clear ha hb
    go_enter Tryz.func57, Tryz.ntmps57
    go_wp2_with fail
    go_ret
    exact ⟨rfl, Below.refl _ _⟩
  | cons y tb =>
  cases xa with
  | nil =>
    have y1 : ((((y :: tb).length : Nat) : Int) == 0) = false := beq_eq_false_iff_ne.2 (by rw [List.length_cons]; omega)
    show Calls Tryz.prog 57 #[.slice aa 0 ca, .slice ab (y :: tb).length cb] w (JPost 1 w)
    clear ha hb
    generalize (y :: tb).length = nb at *
    go_enter Tryz.func57, Tryz.ntmps57
    go_wp2_with fail
    go_ret
    exact ⟨rfl, Below.refl _ _⟩
  | cons x ta =>
  have y1 : ((((y :: tb).length : Nat) : Int) == 0) = false := beq_eq_false_iff_ne.2 (by rw [List.length_cons]; omega)
  have y2 : ((((x :: ta).length : Nat) : Int) == 0) = false := beq_eq_false_iff_ne.2 (by rw [List.length_cons]; omega)
  have y3 : (0 : Int) < (((x :: ta).length : Nat) : Int) := by rw [List.length_cons]; omega
  have y4 : (0 : Int) < (((y :: tb).length : Nat) : Int) := by rw [List.length_cons]; omega
  obtain rfl : aa = some ⟨ba, oa, none⟩ := ha.hd.at_.resolve_left (by rw [List.length_cons]; omega)
  obtain rfl : ab = some ⟨bb, ob, none⟩ := hb.hd.at_.resolve_left (by rw [List.length_cons]; omega)
  have c1 : w.cell? ⟨ba, oa, none⟩ = some (.slice x.ao x.p.length x.cap) := ha.cell 0 (by rw [List.length_cons]; omega)
  have c2 : w.cell? ⟨bb, ob, none⟩ = some (.slice y.ao y.p.length y.cap) := hb.cell 0 (by rw [List.length_cons]; omega)
  have p0 : ∀ z : Sub w.heap.size w, _ := sub_cell c1 (World.block_lt_of_cell? w _ c1)
  have p1 : ∀ z : Sub w.heap.size w, _ := sub_cell c2 (World.block_lt_of_cell? w _ c2)
  have CI : Hid (∀ z : Sub w.heap.size w, Calls Tryz.prog 36 #[.slice x.ao x.p.length x.cap, .slice y.ao y.p.length y.cap] z.w fun e w'' => e = .returned (.int .i64 (lexL oeE x.p y.p)) ∧ ∃ q : Sub w.heap.size w, w'' = q.w) := sub_call fun w' hbb => by
    have hk : ∀ b, S b → w'.heap[b]? = w0.heap[b]? := fun b h => (hbb.block b (hS b h)).trans (hw b h)
    have hlt : ∀ b, S b → b < w'.heap.size := fun b h => Nat.lt_of_lt_of_le (hS b h) hbb.size
    refine (opaths_any x.p y.p S S x.ao x.cap x.b x.o y.ao y.cap y.b y.o w' x.hh (liesP_keep hk (fun _ h => h) x.hl) y.hh (liesP_keep hk (fun _ h => h) y.hl) hlt hlt).mono fun e w'' h => ⟨h.1, hbb.trans (h.2.mono hbb.size)⟩
  show Calls Tryz.prog 57 #[.slice (some ⟨ba, oa, none⟩) (x :: ta).length ca, .slice (some ⟨bb, ob, none⟩) (y :: tb).length cb] w (JPost (lexL oeE x.p y.p) w)
  clear ha hb c1 c2
  generalize (x :: ta).length = na at *
  generalize (y :: tb).length = nb at *
  generalize lexL oeE x.p y.p = Z at *
  generalize x.p.length = nx at *
  generalize y.p.length = ny at *
  generalize x.ao = ax at *
  generalize y.ao = ay at *
  generalize x.cap = cx at *
  generalize y.cap = cy at *
  go_enter Tryz.func57, Tryz.ntmps57
  go_wp2_with fail
  refine wp_region_sub w.heap.size (by kernel_rfl) (by kernel_rfl) ?_
  repeat (go_big_quiet_step (exact CI.out _))
  refine wpQuiet_nil ?_
  rintro wq ⟨⟨wq', bq⟩, hq⟩
  have hq' : wq = wq' := hq
  subst hq'
  clear hq p0 p1 CI
  go_wp2_with fail
  go_ret
  exact ⟨rfl, bq⟩
set_option maxHeartbeats 4000000 in
theorem both_any (a b : List (List El)) (S : Nat → Prop) (aa : Option Addr) (ca ba oa : Nat) (ab : Option Addr) (cb bb ob : Nat) (w : World) (tb : Tb w) (hha : Headed aa a.length ca ba oa) (hla : liesQ w S a ba oa) (hhb : Headed ab b.length cb bb ob) (hlb : liesQ w S b bb ob) (hS : ∀ b, S b → b < w.heap.size) (hwa : BqL a) (hwb : BqL b) :
    Calls Tryz.prog 38 #[.slice aa a.length ca, .slice ab b.length cb] w (NPost (errJ a b) w) := by
  have c1 := hmk (schkQ_any a S aa ca ba oa w tb hha hla hS hwa)
  have C2 : Hid (∀ W, Below w.heap.size w W → Calls Tryz.prog 13 #[.slice ab b.length cb] W (NPost (errS b) W)) := fun W h => schkQ_any b S ab cb bb ob W (tb.below h tb.z) hhb (liesQ_keep (fun x hx => h.block x (hS x hx)) (fun _ h => h) hlb) (fun x hx => Nat.lt_of_lt_of_le (hS x hx) h.size) hwb
  clear hla hlb tb
  by_cases h0 : errS a = 0
  · have y1 : (((errS a : Nat) : Int) != 0) = false := by rw [h0]; rfl
    have HE : Hid (errJ a b = errS b) := by show _ = _; rw [errJ, if_pos h0]
    generalize errJ a b = Ej at *
    generalize errS a = Ea at *
    generalize errS b = Eb at *
    go_enter Tryz.func38, Tryz.ntmps38
    go_wp2_with fail
    refine c1.out.mono ?_
    rintro e w1 ⟨rfl, b1⟩
    have c2 := hmk (C2.out w1 b1)
    go_wp2_with fail
    refine c2.out.mono ?_
    rintro e w2 ⟨rfl, b2⟩
    go_wp2_with fail
    go_ret
    exact ⟨by rw [HE.out]; rfl, b1.trans (b2.mono b1.size)⟩
  · have y1 : (((errS a : Nat) : Int) != 0) = true := by rw [bne_iff_ne]; omega
    have HE : Hid (errJ a b = errS a) := by show _ = _; rw [errJ, if_neg h0]
    generalize errJ a b = Ej at *
    generalize errS a = Ea at *
    go_enter Tryz.func38, Tryz.ntmps38
    go_wp2_with fail
    refine c1.out.mono ?_
    rintro e w1 ⟨rfl, b1⟩
    go_wp2_with fail
    go_ret
    exact ⟨by rw [HE.out]; rfl, b1⟩
theorem takeU_any (x y : Bool) (w : World) : Calls Tryz.prog 32 #[.bool x, .bool y] w fun e w' => e = .returned (.bool (tU x y)) ∧ w' = w := by
  go_enter Tryz.func32, Tryz.ntmps32
  go_wp2_with fail
  go_ret
  exact ⟨rfl, rfl⟩
theorem takeM_any (x y : Bool) (w : World) : Calls Tryz.prog 33 #[.bool x, .bool y] w fun e w' => e = .returned (.bool (tM x y)) ∧ w' = w := by
  cases x <;> cases y <;> (go_enter Tryz.func33, Tryz.ntmps33; go_wp2_with fail; go_ret; exact ⟨rfl, rfl⟩)
theorem takeN_any (x y : Bool) (w : World) : Calls Tryz.prog 34 #[.bool x, .bool y] w fun e w' => e = .returned (.bool (tN x y)) ∧ w' = w := by
  cases x <;> cases y <;> (go_enter Tryz.func34, Tryz.ntmps34; go_wp2_with fail; go_ret; exact ⟨rfl, rfl⟩)
theorem walk_any (aa : Option Addr) (na ca : Nat) (ab : Option Addr) (nb cb : Nat) (tf : Nat) (w : World) :
    Calls Tryz.prog 39 #[.slice aa na ca, .slice ab nb cb, .func (.func tf) #[] #[]] w fun e w' => e = .returned (.func (.func 56) #[] #[.pointer (some ⟨w.heap.size, 0, none⟩), .pointer (some ⟨w.heap.size + 1, 0, none⟩), .pointer (some ⟨w.heap.size + 2, 0, none⟩)]) ∧ w' = ((w.alloc (.cells #[.slice aa na ca] 22)).alloc (.cells #[.slice ab nb cb] 22)).alloc (.cells #[.func (.func tf) #[] #[]] 52) := by
  have e1 := alloc_size w (.cells #[.slice aa na ca] 22)
  have e2 := alloc_size (w.alloc (.cells #[.slice aa na ca] 22)) (.cells #[.slice ab nb cb] 22)
  go_enter Tryz.func39, Tryz.ntmps39
  go_wp2_with fail
  go_ret
  first
  | exact ⟨rfl, rfl⟩
  | (simp only [e1, e2, Nat.add_assoc]; exact ⟨rfl, rfl⟩)
end Go.Proofs.YthlhkhcbkgbhfaaGreatDoor
