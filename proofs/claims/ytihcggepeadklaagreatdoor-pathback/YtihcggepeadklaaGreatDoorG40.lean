/- joined: CmpA OdrP BytA PutB PtoP OdcP -/
import Derived.Test.YtihcggepeadklaaGreatDoorOdlP
import Derived.Test.YtihcggepeadklaaGreatDoorG17
/- Compare, Equal and the document's; cleared. -/
set_option linter.unusedSimpArgs false
set_option linter.unusedVariables false
namespace Go.Proofs.YtihcggepeadklaaGreatDoor
open Go.RowKit Go.Lib
def cmpV (v u : V) : Int := if okV v = true ∧ okV u = true then ordV v u else 0
end Go.Proofs.YtihcggepeadklaaGreatDoor
/- The document's order of elements and paths; they are one. -/
namespace Go.Proofs.YtihcggepeadklaaGreatDoor
open Go.RowKit Go.Lib
def rmM (x y : Mem) : Int := if cmpS x.1 y.1 = 0 then cmpV x.2 y.2 else cmpS x.1 y.1
def reE (x y : El) : Int := if x.kind = y.kind then (if x.kind = 1 then cmpS x.name y.name else if x.kind = 3 then cmpV x.item y.item else lexL rmM x.key y.key) else cmpI x.kind y.kind
theorem cmpS_nul (a b : ByteArray) : cmpS a b = 0 ↔ a.toList = b.toList := by rw [cmpS, cmp_zero, toList_data, toList_data]
theorem cmpS_self (a : ByteArray) : cmpS a a = 0 := (cmpS_nul a a).2 rfl
theorem os_cmp {v u : V} (hv : sizS v = true) (hu : sizS u = true) : osV v u = cmpV v u := by
  simp only [sizS, Bool.and_eq_true, decide_eq_true_eq] at hv hu
  rw [cmpV, if_pos ⟨hv.1, hu.1⟩]
  have gv := chkV_allG 40 v 0 _ (okV_true hv.1)
  have gu := chkV_allG 40 u 0 _ (okV_true hu.1)
  obtain ⟨k, b, i, s, l, m⟩ := v
  obtain ⟨k', b', i', s', l', m'⟩ := u
  rw [allG] at gv gu
  have p := goodB_plain gv.1
  have q := goodB_plain gu.1
  have hk := hv.2
  have hk' := hu.2
  simp only [kindOf] at hk hk'
  rw [osV, osB, ordV]
  by_cases e : k = k'
  · subst e
    rw [if_pos rfl, if_pos rfl]
    have es : k ≠ 3 → s = ⟨#[]⟩ ∧ s' = ⟨#[]⟩ := fun h3 => by
      have a1 := p.2.2.2.2.1.resolve_left h3
      have a2 := q.2.2.2.2.1.resolve_left h3
      exact ⟨bytes_eq (by rw [nil_toList]; simpa using a1), bytes_eq (by rw [nil_toList]; simpa using a2)⟩
    have hk3 : k = 1 ∨ k = 2 ∨ k = 3 := by omega
    rcases hk3 with rfl | rfl | rfl
    · obtain ⟨rfl, rfl⟩ := es (by omega)
      have a1 : i = 0 := p.2.2.2.1.resolve_left (by omega)
      have a2 : i' = 0 := q.2.2.2.1.resolve_left (by omega)
      rw [a1, a2, if_pos rfl, cmpB, cmpS_self, if_pos rfl]
    · obtain ⟨rfl, rfl⟩ := es (by omega)
      have a1 : b = false := p.2.2.1.resolve_left (by omega)
      have a2 : b' = false := q.2.2.1.resolve_left (by omega)
      rw [a1, a2, if_pos rfl, cmpS_self]
      by_cases hi : i = i'
      · rw [if_pos hi, if_neg (by omega), if_pos rfl, hi, cmpI]; simp
      · rw [if_neg hi, if_neg (by omega), if_pos rfl]
    · have a1 : b = false := p.2.2.1.resolve_left (by omega)
      have a2 : b' = false := q.2.2.1.resolve_left (by omega)
      have a3 : i = 0 := p.2.2.2.1.resolve_left (by omega)
      have a4 : i' = 0 := q.2.2.2.1.resolve_left (by omega)
      rw [a1, a2, a3, a4, if_pos rfl, if_pos rfl, if_neg (by omega), if_neg (by omega), if_pos rfl]
  · rw [if_neg e, if_neg e]
theorem lex_congr {α : Type} {f g : α → α → Int} : ∀ (a b : List α), (∀ x ∈ a, ∀ y ∈ b, f x y = g x y) → lexL f a b = lexL g a b
  | x :: a, y :: b, h => by
    rw [lexL, lexL, h x (by simp) y (by simp), lex_congr a b (fun x' hx y' hy => h x' (by simp [hx]) y' (by simp [hy]))]
  | [], b, _ => by cases b <;> rfl
  | x :: a, [], _ => rfl
theorem keysB_all {l : List Mem} (h : keysB l = true) : ∀ x ∈ l, sizS x.2 = true := by
  intro x hx
  obtain ⟨j, hj, rfl⟩ := List.getElem_of_mem hx
  simp only [keysB, Bool.and_eq_true, List.all_eq_true, List.mem_range] at h
  have := h.2 j hj
  simp only [okK, Bool.and_eq_true] at this
  rw [← valAt_eq hj]
  exact this.2
theorem oe_re {x y : El} (hx : elB x = true) (hy : elB y = true) : oeE x y = reE x y := by
  obtain ⟨k, n, m, v⟩ := x
  obtain ⟨k', n', m', v'⟩ := y
  rw [oeE, reE]
  dsimp only
  by_cases e : k = k'
  · subst e
    rw [if_pos rfl, if_pos rfl]
    by_cases h1 : k = 1
    · rw [if_pos h1, if_pos h1]
    rw [if_neg h1, if_neg h1]
    by_cases h2 : k = 2
    · rw [if_pos h2, if_neg (by omega)]
      rw [elB2 h2] at hx hy
      simp only [Bool.and_eq_true] at hx hy
      refine lex_congr m m' fun a ha b hb => ?_
      rw [omM, rmM, os_cmp (keysB_all hx.2.2 a ha) (keysB_all hy.2.2 b hb)]
      by_cases hz : a.1.toList = b.1.toList
      · rw [if_pos hz, if_pos ((cmpS_nul _ _).2 hz)]
      · rw [if_neg hz, if_neg (fun h => hz ((cmpS_nul _ _).1 h))]
    · by_cases h3 : k = 3
      · rw [if_neg h2, if_pos h3]
        rw [elB3 h3] at hx hy
        simp only [Bool.and_eq_true] at hx hy
        exact os_cmp hx.2.2 hy.2.2
      · rw [elB0 h1 h2 h3] at hx; cases hx
  · rw [if_neg e, if_neg e]
theorem op_rp {p q : List El} (hp : ∀ x ∈ p, elB x = true) (hq : ∀ x ∈ q, elB x = true) : lexL oeE p q = lexL reE p q :=
  lex_congr p q fun x hx y hy => oe_re (hp x hx) (hq y hy)
end Go.Proofs.YtihcggepeadklaaGreatDoor
/- Rows of bytes that a call owns: append onto them, and their string. -/
namespace Go.Proofs.YtihcggepeadklaaGreatDoor
open Go.RowKit
/-- the slice v owns the bytes l, in a block from B on -/
def Own (B : Nat) (v : Value) (l : List UInt8) (w : World) : Prop := w.ownsRow B 5 1 v l.length (Lib.byteCells l)
theorem Own.alloc {B : Nat} {v : Value} {l : List UInt8} {w : World} (h : Own B v l w) (o : Obj) : Own B v l (w.alloc o) := World.ownsRow.alloc h o
theorem Own.nil (B : Nat) (w : World) : Own B (.slice none 0 0) [] w := World.ownsRow_nil w B 5 1
end Go.Proofs.YtihcggepeadklaaGreatDoor
/- freeholdlaw02.put: some members. -/
namespace Go.Proofs.YtihcggepeadklaaGreatDoor
open Go.RowKit
theorem OwnM.out {w w0 : World} {S T : Nat → Prop} {g n cap : Nat} {l : List Mem} (h : OwnM false w 0 S (.slice (some ⟨g, 0, none⟩) n cap) (l.map some)) (hn : n = l.length) (hST : ∀ x, S x → T x) (hg : w0.heap.size ≤ g) : Headed (some ⟨g, 0, none⟩) l.length cap g 0 ∧ liesM false w (fun y => T y ∨ (w0.heap.size ≤ y ∧ y < w.heap.size)) l g 0 := by
  have h1 := h.le
  have h2 := h.lt (g := g) rfl
  simp only [List.length_map] at h1
  refine ⟨⟨h1.1, h1.2, .inr rfl, fun h => by cases h⟩, liesM_mk fun j hj => ?_⟩
  obtain ⟨cs, r1, r2⟩ := h.at (by simp [hn]) j (by simpa using hj)
  rw [List.getElem_map] at r2
  obtain ⟨cs', rfl, hk, r3⟩ := r2
  exact ⟨.inr ⟨hg, h2.2⟩, hk, cs', r1, V.lies_keep (fun h => h) (fun _ _ => rfl) (fun b hb => .inl (hST b hb)) _ r3⟩
end Go.Proofs.YtihcggepeadklaaGreatDoor
/- The order of paths is one: turned round it is turned round, what is smaller than smaller is smaller, and of paths that may be nothing is the same but the same. -/
namespace Go.Proofs.YtihcggepeadklaaGreatDoor
open Go.RowKit Go.Lib
/-- an order, of which more than one may be the same -/
structure Wko {α : Type} (f : α → α → Int) : Prop where
  anti : ∀ x y, f x y = - f y x
  cong : ∀ x y z, f x y = 0 → f x z = f y z
  tri : ∀ x y z, f x y < 0 → f y z < 0 → f x z < 0
theorem Wko.sym {α : Type} {f : α → α → Int} (h : Wko f) {x y : α} (e : f x y = 0) : f y x = 0 := by have := h.anti y x; omega
theorem Wko.congR {α : Type} {f : α → α → Int} (h : Wko f) {x y : α} (e : f x y = 0) (z : α) : f z x = f z y := by
  rw [h.anti z x, h.anti z y, h.cong x y z e]
theorem Wko.of {α β : Type} {f : α → α → Int} (h : Wko f) (k : β → α) : Wko (fun x y => f (k x) (k y)) :=
  ⟨fun x y => h.anti _ _, fun x y z e => h.cong _ _ _ e, fun x y z a b => h.tri _ _ _ a b⟩
/-- the first, and where it has no say the second, that may hang on what the first looked at -/
theorem Wko.dep {α κ : Type} {f : α → α → Int} {g : κ → α → α → Int} {k : α → κ} (h : Wko f) (hg : ∀ c, Wko (g c)) (hk : ∀ x y, f x y = 0 → k x = k y) : Wko (fun x y => if f x y = 0 then g (k x) x y else f x y) := by
  refine ⟨fun x y => ?_, fun x y z e => ?_, fun x y z a b => ?_⟩
  · skip
    by_cases e : f x y = 0
    · rw [if_pos e, if_pos (h.sym e), hk x y e]; exact (hg _).anti x y
    · rw [if_neg e, if_neg (fun e' => e (h.sym e'))]; exact h.anti x y
  · skip
    by_cases e1 : f x y = 0
    · rw [if_pos e1] at e
      rw [h.cong x y z e1, hk x y e1]
      rw [hk x y e1] at e
      by_cases e2 : f y z = 0
      · rw [if_pos e2, if_pos e2]; exact (hg _).cong x y z e
      · rw [if_neg e2, if_neg e2]
    · rw [if_neg e1] at e; exact absurd e e1
  · skip
    by_cases e1 : f x y = 0
    · rw [if_pos e1, hk x y e1] at a
      rw [h.cong x y z e1, hk x y e1]
      by_cases e2 : f y z = 0
      · rw [if_pos e2] at b ⊢; exact (hg _).tri x y z a b
      · rw [if_neg e2] at b ⊢; exact b
    · rw [if_neg e1] at a
      by_cases e2 : f y z = 0
      · rw [← h.congR e2 x, if_neg e1]; exact a
      · rw [if_neg e2] at b
        have c := h.tri x y z a b
        rw [if_neg (by omega)]; exact c
theorem Wko.then {α : Type} {f g : α → α → Int} (h : Wko f) (hg : Wko g) : Wko (fun x y => if f x y = 0 then g x y else f x y) :=
  Wko.dep (κ := Unit) (g := fun _ => g) (k := fun _ => ()) h (fun _ => hg) (fun _ _ _ => rfl)
theorem nilV_eq {v : V} (h : nilV v = true) : v = .mk 0 false 0 ⟨#[]⟩ [] [] := by
  obtain ⟨k, b, i, s, l, m⟩ := v
  simp only [nilV, nilB, decide_eq_true_eq] at h
  obtain ⟨h1, h2, h3, h4, h5, h6⟩ := h
  rw [h1, h2, h3, bytes_eq (h4.trans nil_toList.symm), List.length_eq_zero_iff.1 h5, List.length_eq_zero_iff.1 h6]
end Go.Proofs.YtihcggepeadklaaGreatDoor
/- Compare, Above: the program's and the document's. -/
namespace Go.Proofs.YtihcggepeadklaaGreatDoor
open Go.RowKit Go.Lib
theorem errP_yes {p : List El} (h : pathB p = true) : errP p = 0 := by rw [errP, if_pos h]
theorem errP_no {p : List El} (h : pathB p = false) : errP p = 90 := by rw [errP, if_neg (by rw [h]; simp)]
/-- the order of two paths -/
def cmpP (a b : List El) : Int := if pathB a = true ∧ pathB b = true then lexL reE a b else 0
def abvP (a b : List El) : Bool := if pathB a = true ∧ pathB b = true ∧ a.length ≤ b.length then decide (lexL reE a (b.take a.length) = 0) else false
theorem cmpP_no {a b : List El} (h : ¬ (pathB a = true ∧ pathB b = true)) : cmpP a b = 0 := by rw [cmpP, if_neg h]
theorem cmpP_yes {a b : List El} (h : pathB a = true) (h' : pathB b = true) : cmpP a b = lexL reE a b := by rw [cmpP, if_pos ⟨h, h'⟩]
theorem abvP_no {a b : List El} (h : ¬ (pathB a = true ∧ pathB b = true)) : abvP a b = false := by rw [abvP, if_neg (fun h2 => h ⟨h2.1, h2.2.1⟩)]
theorem abvP_len {a b : List El} (h : ¬ a.length ≤ b.length) : abvP a b = false := by rw [abvP, if_neg (fun h2 => h h2.2.2)]
theorem abvP_yes {a b : List El} (h : pathB a = true) (h' : pathB b = true) (h2 : a.length ≤ b.length) : abvP a b = decide (lexL reE a (b.take a.length) = 0) := by rw [abvP, if_pos ⟨h, h', h2⟩]
set_option maxHeartbeats 8000000 in
set_option maxRecDepth 100000 in
theorem cmpP_any (a b : List El) (S S' : Nat → Prop) (aa : Option Addr) (ca ba oa : Nat) (ab : Option Addr) (cb bb ob : Nat) (w : World) (tb : Tb w) (hha : Headed aa a.length ca ba oa) (hla : liesP w S a ba oa) (hhb : Headed ab b.length cb bb ob) (hlb : liesP w S' b bb ob) (hS : ∀ x, S x → x < w.heap.size) (hS' : ∀ x, S' x → x < w.heap.size) (hwa : wtP a ≤ 2147483647) (hwb : wtP b ≤ 2147483647) :
    Calls Tryz.prog 13 #[.slice aa a.length ca, .slice ab b.length cb] w (JPost (cmpP a b) w) := by
  have HA := hmk hla
  have HB := hmk hlb
  clear hla hlb
  have ca_ := hmk (pcheck_any a S aa ca ba oa w tb hha HA.out hS hwa)
  cases ha : pathB a with
  | false =>
    have ya : (((errP a : Nat) : Int) != 0) = true := by rw [errP_no ha]; rfl
    generalize errP a = Ea at *
    go_enter Tryz.func13, Tryz.ntmps13
    go_wp2_with fail
    refine ca_.out.mono ?_
    rintro e w1 ⟨rfl, b1⟩
    go_wp2_with fail
    go_ret
    exact ⟨by rw [cmpP_no (by rw [ha]; simp)]; rfl, b1⟩
  | true =>
  cases hb : pathB b with
  | false =>
    have ya : (((errP a : Nat) : Int) != 0) = false := by rw [errP_yes ha]; rfl
    have yb : (((errP b : Nat) : Int) != 0) = true := by rw [errP_no hb]; rfl
    have cb_ : Hid (∀ W, Below w.heap.size w W → Calls Tryz.prog 10 #[.slice ab b.length cb] W (NPost (errP b) W)) := fun W h => pcheck_any b S' ab cb bb ob W (tb.below h tb.z) hhb (liesP_keep (fun x hx => h.block x (hS' x hx)) (fun _ h => h) HB.out) (fun x hx => Nat.lt_of_lt_of_le (hS' x hx) h.size) hwb
    generalize errP a = Ea at *
    generalize errP b = Eb at *
    go_enter Tryz.func13, Tryz.ntmps13
    go_wp2_with fail
    refine ca_.out.mono ?_
    rintro e w1 ⟨rfl, b1⟩
    go_wp2_with fail
    refine (cb_.out w1 b1).mono ?_
    rintro e w2 ⟨rfl, b2⟩
    have b2' := b1.trans (b2.mono b1.size)
    go_wp2_with fail
    go_ret
    exact ⟨by rw [cmpP_no (by rw [hb]; simp)]; rfl, b2'⟩
  | true =>
    have ya : (((errP a : Nat) : Int) != 0) = false := by rw [errP_yes ha]; rfl
    have yb : (((errP b : Nat) : Int) != 0) = false := by rw [errP_yes hb]; rfl
    have cb_ : Hid (∀ W, Below w.heap.size w W → Calls Tryz.prog 10 #[.slice ab b.length cb] W (NPost (errP b) W)) := fun W h => pcheck_any b S' ab cb bb ob W (tb.below h tb.z) hhb (liesP_keep (fun x hx => h.block x (hS' x hx)) (fun _ h => h) HB.out) (fun x hx => Nat.lt_of_lt_of_le (hS' x hx) h.size) hwb
    generalize errP a = Ea at *
    generalize errP b = Eb at *
    go_enter Tryz.func13, Tryz.ntmps13
    go_wp2_with fail
    refine ca_.out.mono ?_
    rintro e w1 ⟨rfl, b1⟩
    go_wp2_with fail
    refine (cb_.out w1 b1).mono ?_
    rintro e w2 ⟨rfl, b2⟩
    have b2' := b1.trans (b2.mono b1.size)
    clear b1 b2 ca_ cb_
    have HC : Hid (cmpP a b = lexL oeE a b) := by show _ = _; rw [cmpP_yes ha hb, op_rp (pathB_all ha).2 (pathB_all hb).2]
    have c := hmk (opaths_any a b S S' aa ca ba oa ab cb bb ob w2 hha (liesP_keep (fun x hx => b2'.block x (hS x hx)) (fun _ h => h) HA.out) hhb (liesP_keep (fun x hx => b2'.block x (hS' x hx)) (fun _ h => h) HB.out) (fun x hx => Nat.lt_of_lt_of_le (hS x hx) b2'.size) (fun x hx => Nat.lt_of_lt_of_le (hS' x hx) b2'.size))
    generalize cmpP a b = RR at *
    generalize lexL oeE a b = ZZ at *
    clear ha hb
    go_wp2_with fail
    refine c.out.mono ?_
    rintro e w3 ⟨rfl, b3⟩
    go_wp2_with fail
    go_ret
    exact ⟨by rw [HC.out]; rfl, b2'.trans (b3.mono b2'.size)⟩
end Go.Proofs.YtihcggepeadklaaGreatDoor
