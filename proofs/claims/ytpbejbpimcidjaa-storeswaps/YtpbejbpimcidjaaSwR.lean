/- The store behind a row of writes: what each call answers, in plain terms. -/
import Derived.Test.YtpbejbpimcidjaaSwQ
set_option linter.unusedSimpArgs false
set_option linter.unusedVariables false
namespace Go.Proofs.Ytpbejbpimcidjaa
open Go Go.Lib Go.RowKit Go.Maps Go.Sort

abbrev mx : Int := 9007199254740991
def F0 (w0 : World) : Nat → Prop := fun y => y < w0.heap.size
theorem F0.refl (w : World) : Fr (F0 w) w w := Fr.refl (fun _ h => h)
theorem Fr.bel0 {w0 W : World} (h : Fr (F0 w0) w0 W) : Below w0.heap.size w0 W := ⟨h.os, h.tape, h.output, h.size, fun y hy => h.block y hy⟩
def FS (w0 W : World) (S bb bn : Nat) (pv : Value) : Nat → Prop := fun y => y < W.heap.size ∧ (y < w0.heap.size ∨ (y ≠ S ∧ y ≠ bb ∧ y ≠ bn ∧ ∀ a m c, pv ≠ .slice (some ⟨y, a, none⟩) m c))
theorem Sto.enter {w0 W : World} {S : Nat} {rev floor : Int} {bb bn n : Nat} {D DN : DataW Unit} {pv : Value} {l : List Evt} (h : Sto (F0 w0) w0 W S rev floor bb bn n D DN pv l) : Sto (FS w0 W S bb bn pv) W W S rev floor bb bn n D DN pv l := by
  refine ⟨Fr.refl (fun y hy => hy.1), h.box, h.base, h.now, ?_, fun hy => ?_, fun hy => ?_, fun hy => ?_, h.ne, h.ok⟩
  · rcases h.past.p with q | ⟨g, o, c, sz, rfl, p1, p2, p3, p4⟩
    · exact ⟨.inl q⟩
    · refine ⟨.inr ⟨g, o, c, sz, rfl, p1, p2, fun hy => ?_, p4⟩⟩
      rcases hy.2 with h1 | ⟨_, _, _, h2⟩
      · exact p3 h1
      · exact h2 _ _ _ rfl
  · rcases hy.2 with h1 | ⟨h2, _⟩
    · exact h.s h1
    · exact h2 rfl
  · rcases hy.2 with h1 | ⟨_, h2, _⟩
    · exact h.b1 h1
    · exact h2 rfl
  · rcases hy.2 with h1 | ⟨_, _, h2, _⟩
    · exact h.b2 h1
    · exact h2 rfl
theorem Sto.leave {w0 W W' : World} {S : Nat} {rev floor rev' floor' : Int} {bb bn n n' : Nat} {D DN D' DN' : DataW Unit} {pv pv' : Value} {l l' : List Evt} (h : Sto (F0 w0) w0 W S rev floor bb bn n D DN pv l) (h' : Sto (FS w0 W S bb bn pv) W W' S rev' floor' bb bn n' D' DN' pv' l') : Sto (F0 w0) w0 W' S rev' floor' bb bn n' D' DN' pv' l' ∧ Kb W W' := by
  have hz := h.bel.size
  have hsub : ∀ y, F0 w0 y → FS w0 W S bb bn pv y := fun y hy => ⟨Nat.lt_of_lt_of_le hy hz, .inl hy⟩
  refine ⟨⟨h.bel.trans h'.bel hsub, h'.box, h'.base, h'.now, ?_, h.s, h.b1, h.b2, h.ne, h'.ok⟩, fun y c t fr e ht => ?_⟩
  · rcases h'.past.p with q | ⟨g, o, c, sz, e, p1, p2, p3, p4⟩
    · exact ⟨.inl q⟩
    · exact ⟨.inr ⟨g, o, c, sz, e, p1, p2, fun hy => p3 (hsub g hy), p4⟩⟩
  · refine h'.bel.block y ⟨lt_of_block e, .inr ⟨fun q => ?_, fun q => ?_, fun q => ?_, fun a m c' q => ?_⟩⟩
    · rw [q, h.box] at e; simp only [Option.some.injEq, Obj.cells.injEq] at e; rw [← e.2.1] at ht; simp at ht
    · exact map_ne h.base e q.symm
    · exact map_ne h.now e q.symm
    · obtain ⟨⟨sz, arr, hb, _⟩, _⟩ := pst_block h.past q
      rw [hb] at e
      simp only [Option.some.injEq, Obj.cells.injEq] at e
      rw [← e.2.1] at ht
      simp at ht
/-- the store behind the writes hh from the revision first on, its floor behind fl of them -/
def StX (w0 W : World) (S : Nat) (first : Int) (hh : List He) (fl : Nat) : Prop :=
  (hh = [] ∧ first = mx ∧ fl = 0 ∧ W.heap[S]? = some (.cells #[.int .i64 first, .int .i64 first, .map none, .map none, .slice none 0 0] 57) ∧ Fr (F0 w0) w0 W ∧ w0.heap.size ≤ S) ∨
  ∃ bb bn n pv, n ≤ 4 + hh.length + fl ∧ Sto (F0 w0) w0 W S (first + (hh.length : Int)) (first + (fl : Int)) bb bn n (fol (.map []) first ((hh.take fl).map toE)) (fol (.map []) first (hh.map toE)) pv ((hh.drop fl).map toE)
theorem StX.bel {w0 W : World} {S : Nat} {first : Int} {hh : List He} {fl : Nat} (h : StX w0 W S first hh fl) : Fr (F0 w0) w0 W := by
  rcases h with ⟨_, _, _, _, h, _⟩ | ⟨bb, bn, n, pv, _, h⟩
  · exact h
  · exact h.bel
theorem StX.below {w0 W W' : World} {S : Nat} {first : Int} {hh : List He} {fl : Nat} (h : StX w0 W S first hh fl) (b : Below W.heap.size W W') : StX w0 W' S first hh fl := by
  rcases h with ⟨h1, h2, h3, h4, h5, h6⟩ | ⟨bb, bn, n, pv, h1, h⟩
  · exact .inl ⟨h1, h2, h3, (b.block S (lt_of_block h4)).trans h4, h5.below b, h6⟩
  · exact .inr ⟨bb, bn, n, pv, h1, h.keep b⟩
/-- what a step must leave as it was, for the store -/
def Ks (w w' : World) : Prop := ∀ (y : Nat) (o : Obj), w.heap[y]? = some o → (∀ c t fr, o = Obj.cells c t fr → t ≠ 37 ∧ t ≠ 33 ∧ t ≠ 70 ∧ t ≠ 32) → w'.heap[y]? = w.heap[y]?
theorem StX.keepB {w0 W W' : World} {S : Nat} {first : Int} {hh : List He} {fl : Nat} (h : StX w0 W S first hh fl) (b : Fr (F0 w0) w0 W') (q : Ks W W') : StX w0 W' S first hh fl := by
  have qc : ∀ (y : Nat) (c : Array Value) (t : TypeId) (fr : Nat × Nat), W.heap[y]? = some (Obj.cells c t fr) → (t = 57 ∨ t = 60) → W'.heap[y]? = W.heap[y]? := fun y c t fr e ht => q y _ e (fun c' t' fr' e' => by
    simp only [Obj.cells.injEq] at e'
    rw [← e'.2.1]
    rcases ht with rfl | rfl <;> simp)
  rcases h with ⟨h1, h2, h3, h4, h5, h6⟩ | ⟨bb, bn, n, pv, h1, h⟩
  · exact .inl ⟨h1, h2, h3, (qc S _ _ _ h4 (.inl rfl)).trans h4, b, h6⟩
  · refine .inr ⟨bb, bn, n, pv, h1, h.keepG b (fun y hy => ?_)⟩
    rcases hy with rfl | rfl | rfl | ⟨a, m, c, e⟩
    · exact qc _ _ _ _ h.box (.inl rfl)
    · obtain ⟨es, clock, hb, _⟩ := h.base
      exact q y _ hb (fun c t fr e => by cases e)
    · obtain ⟨es, clock, hb, _⟩ := h.now
      exact q y _ hb (fun c t fr e => by cases e)
    · obtain ⟨⟨sz, arr, hb, _⟩, _⟩ := pst_block h.past e
      exact qc y _ _ _ hb (.inr rfl)
theorem StX.view {w0 W : World} {S : Nat} {first : Int} {hh : List He} {fl : Nat} (h : StX w0 W S first hh fl) : ∃ mb mn pv m, W.heap[S]? = some (.cells #[.int .i64 (first + (hh.length : Int)), .int .i64 (first + (fl : Int)), mb, mn, pv] 57) ∧ MpV W mn m (fol (.map []) first (hh.map toE)) := by
  rcases h with ⟨rfl, h2, rfl, h4, h5, h6⟩ | ⟨bb, bn, n, pv, h1, h⟩
  · refine ⟨.map none, .map none, .slice none 0 0, 0, ?_, .inl ⟨rfl, rfl⟩⟩
    rw [show first + (([] : List He).length : Int) = first by simp, show first + ((0 : Nat) : Int) = first by omega]
    exact h4
  · exact ⟨_, _, _, n, h.box, h.mpv⟩
theorem evts_ok {hh : List He} (h : ∀ e ∈ hh, Hok e) : ∀ e ∈ hh, e.2.1 < 5 := fun e he => (h e he).2.1
theorem write_step (w0 W : World) (S : Nat) (first : Int) (hh : List He) (fl : Nat) (h : StX w0 W S first hh fl) (e : He) (he : Hok e) (hfl : fl ≤ hh.length) (hlen : hh.length ≤ 400) (h0 : 0 ≤ first) (hr : first + (hh.length : Int) < mx) :
    Calls Try.prog 16 #[.pointer (some ⟨S, 0, none⟩), .agg #[.int .i64 e.1, .string (nm e.2.1), .string e.2.2]] W fun en W' => en = .returned (.tuple #[.int .i64 (first + (hh.length : Int) + 1), .int .i64 0]) ∧ StX w0 W' S first (hh ++ [e]) fl ∧ Kb W W' := by
  rcases h with ⟨rfl, h2, _⟩ | ⟨bb, bn, n, pv, h1, h⟩
  · rw [h2] at hr; simp at hr
  · refine (write_any _ W W S _ _ bb bn n _ _ e.1 (nm e.2.1) e.2.2 pv _ h.enter (by rw [List.length_map, List.length_drop]; omega) (by omega) ⟨by omega, hr⟩ he.1 (by rw [nm_size]; decide)).mono ?_
    rintro en W' ⟨rfl, pv', hS⟩
    obtain ⟨hS2, hK⟩ := h.leave hS
    refine ⟨rfl, .inr ⟨bb, bn, n + 1, pv', by rw [List.length_append, List.length_singleton]; omega, ?_⟩, hK⟩
    have e1 : first + ((hh ++ [e]).length : Int) = first + (hh.length : Int) + 1 := by rw [List.length_append, List.length_singleton]; omega
    have e2 : fol (.map []) first ((hh ++ [e]).map toE) = wr (fol (.map []) first (hh.map toE)) e.1 (nm e.2.1) (first + (hh.length : Int) + 1) e.2.2 := by
      rw [List.map_append, List.map_singleton, fol_snoc, List.length_map]; rfl
    have e3 : (hh ++ [e]).take fl = hh.take fl := List.take_append_of_le_length hfl
    have e4 : ((hh ++ [e]).drop fl).map toE = (hh.drop fl).map toE ++ [(e.1, nm e.2.1, e.2.2)] := by
      rw [List.drop_append_of_le_length hfl, List.map_append]; rfl
    rw [e1, e2, e3, e4]
    exact hS2
/-- what a write answers that would be told so -/
def OpPost (w0 W : World) (S : Nat) (first : Int) (hh : List He) (fl : Nat) (e : He) (want : Int) (en : Ending) (W' : World) : Prop :=
  (want = 0 ∧ first + (hh.length : Int) < mx ∧ en = .returned (.tuple #[.int .i64 (first + (hh.length : Int) + 1), .int .i64 0]) ∧ StX w0 W' S first (hh ++ [e]) fl ∧ Kb W W') ∨
  (want = 0 ∧ first + (hh.length : Int) = mx ∧ en = .returned (.tuple #[.int .i64 0, .int .i64 194]) ∧ StX w0 W' S first hh fl ∧ Kb W W') ∨
  (¬ want = 0 ∧ en = .returned (.tuple #[.int .i64 0, .int .i64 want]) ∧ StX w0 W' S first hh fl ∧ Kb W W')
theorem opno {w0 W : World} {S : Nat} {first : Int} {hh : List He} {fl : Nat} {e : He} {want x : Int} (h : StX w0 W S first hh fl) (hw : (want = 0 ∧ first + (hh.length : Int) = mx ∧ x = 194) ∨ (¬ want = 0 ∧ x = want)) {P : Program} {f : FuncId} {args : Array Value} (c : Calls P f args W fun en W' => en = .returned (.tuple #[.int .i64 0, .int .i64 x]) ∧ Below W.heap.size W W') : Calls P f args W (OpPost w0 W S first hh fl e want) :=
  c.mono fun en W' ⟨he, b⟩ => by
    rcases hw with ⟨h1, h2, rfl⟩ | ⟨h1, rfl⟩
    · exact .inr (.inl ⟨h1, h2, he, h.below b, Kb.of_below b⟩)
    · exact .inr (.inr ⟨h1, he, h.below b, Kb.of_below b⟩)
theorem Byt.rd {W : World} {a : Option Addr} {n c : Nat} {d : ByteArray} (h : Byt W (.slice a n c) d) : Rd W a n c d := fun w' b => (h.below b).read.conv
def crW (s : Sn) : Int := if s.isSome then 191 else 0
def hdW (s : Sn) (rr : Int) : Int := match s with
  | none => 190
  | some x => if x.1 = rr then 0 else 192
def dtS (s : Sn) : ByteArray := match s with
  | none => ByteArray.empty
  | some x => x.2
theorem Byt.form {W : World} {v : Value} {d : ByteArray} (h : Byt W v d) : ∃ a c, v = .slice a d.size c := by
  rcases h with ⟨rfl, h⟩ | ⟨g, c, cur, fr, rfl, _⟩
  · exact ⟨none, 0, by rw [h]⟩
  · exact ⟨_, _, rfl⟩
section
variable (w0 W : World) (S : Nat) (first : Int) (hh : List He) (fl : Nat) (h : StX w0 W S first hh fl) (hok : ∀ e ∈ hh, Hok e) (hfl : fl ≤ hh.length) (hlen : hh.length ≤ 400) (h0 : 0 ≤ first) (hr : first + (hh.length : Int) ≤ mx) (k : Nat) (hk : k < 5)
include h hok hfl hlen h0 hr hk
theorem create_op (v : Value) (d : ByteArray) (hd : Byt W v d) (hs : d.size ≤ 4096) : Calls Try.prog 5 #[.pointer (some ⟨S, 0, none⟩), .string (nm k), v] W (OpPost w0 W S first hh fl (1, k, d) (crW (runA A0 first hh k))) := by
  obtain ⟨mb, mn, pv, m, hbox, hmp⟩ := h.view
  have hA := Agr.empty.fol hh (evts_ok hok) first
  obtain ⟨a, c, rfl⟩ := hd.form
  cases hs2 : runA A0 first hh k with
  | some x =>
    exact opno h (.inr ⟨by simp [crW], rfl⟩) (create_exists W S _ _ mb mn pv m _ (nm k) a d.size c hbox hmp (by rw [nm_size]; decide) (by rw [nm_size]; decide) (by omega) (hA.yes hk (by rw [hs2]; rfl)))
  | none =>
    have hno := hA.no hk hs2
    have hsz := hA.le
    by_cases hm : first + (hh.length : Int) = mx
    · exact opno h (.inl ⟨rfl, hm, rfl⟩) (create_gen W S _ _ mb mn pv m _ (nm k) d a d.size c hbox hmp (by rw [nm_size]; decide) (by rw [nm_size]; decide) (by omega) hd.rd hno (by omega) 0 194 (Below W.heap.size W) (fun W1 b1 => (write_worn W1 S _ _ mb mn pv 1 (nm k) d ((b1.block S (lt_of_block hbox)).trans hbox) (by rw [hm]; exact Int.le_refl _)).mono (by
        rintro e W2 ⟨rfl, b2⟩
        exact ⟨rfl, b1.trans (b2.mono b1.size)⟩)))
    · refine (create_gen W S _ _ mb mn pv m _ (nm k) d a d.size c hbox hmp (by rw [nm_size]; decide) (by rw [nm_size]; decide) (by omega) hd.rd hno (by omega) (first + (hh.length : Int) + 1) 0 (fun W' => StX w0 W' S first (hh ++ [(1, k, d)]) fl ∧ Kb W W') (fun W1 b1 => (write_step w0 W1 S first hh fl (h.below b1) (1, k, d) ⟨.inl rfl, hk, hs⟩ hfl hlen h0 (by omega)).mono (by
        rintro e W2 ⟨rfl, q1, q2⟩
        refine ⟨rfl, q1, fun y c t fr e ht => ?_⟩
        have e1 := b1.block y (lt_of_block e)
        exact (q2 y c t fr (e1.trans e) ht).trans e1))).mono ?_
      rintro e W' ⟨rfl, q1, q2⟩
      exact .inl ⟨rfl, by omega, rfl, q1, q2⟩
theorem swap_op (v : Value) (d : ByteArray) (rr : Int) (hd : Byt W v d) (hs : d.size ≤ 4096) : Calls Try.prog 22 #[.pointer (some ⟨S, 0, none⟩), .string (nm k), .int .i64 rr, v] W (OpPost w0 W S first hh fl (2, k, d) (hdW (runA A0 first hh k) rr)) := by
  obtain ⟨mb, mn, pv, m, hbox, hmp⟩ := h.view
  have hA := Agr.empty.fol hh (evts_ok hok) first
  obtain ⟨a, c, rfl⟩ := hd.form
  cases hs2 : runA A0 first hh k with
  | none =>
    exact opno h (.inr ⟨by simp [hdW], rfl⟩) (swap_no W S (nm k) rr 190 a d.size c (by rw [nm_size]; decide) (by rw [nm_size]; decide) (by omega) (by decide) (standing_miss W S _ _ mb mn pv m _ (nm k) rr hbox hmp (by rw [nm_size]; decide) (hA.no hk hs2)))
  | some x =>
    obtain ⟨r, d0⟩ := x
    have hat := hA.at_ k hk r d0 hs2
    by_cases hrr : r = rr
    · subst hrr
      have hwant : hdW (some (r, d0)) r = 0 := by simp [hdW]
      by_cases hm : first + (hh.length : Int) = mx
      · exact opno h (.inl ⟨hwant, hm, rfl⟩) (swap_gen W S _ _ mb mn pv m _ (nm k) d d0 r a d.size c hbox hmp (by rw [nm_size]; decide) (by rw [nm_size]; decide) (by omega) hd.rd hat 0 194 (Below W.heap.size W) (fun W1 b1 => (write_worn W1 S _ _ mb mn pv 2 (nm k) d ((b1.block S (lt_of_block hbox)).trans hbox) (by rw [hm]; exact Int.le_refl _)).mono (by
          rintro e W2 ⟨rfl, b2⟩
          exact ⟨rfl, b1.trans (b2.mono b1.size)⟩)))
      · refine (swap_gen W S _ _ mb mn pv m _ (nm k) d d0 r a d.size c hbox hmp (by rw [nm_size]; decide) (by rw [nm_size]; decide) (by omega) hd.rd hat (first + (hh.length : Int) + 1) 0 (fun W' => StX w0 W' S first (hh ++ [(2, k, d)]) fl ∧ Kb W W') (fun W1 b1 => (write_step w0 W1 S first hh fl (h.below b1) (2, k, d) ⟨.inr (.inl rfl), hk, hs⟩ hfl hlen h0 (by omega)).mono (by
          rintro e W2 ⟨rfl, q1, q2⟩
          refine ⟨rfl, q1, fun y c t fr e ht => ?_⟩
          have e1 := b1.block y (lt_of_block e)
          exact (q2 y c t fr (e1.trans e) ht).trans e1))).mono ?_
        rintro e W' ⟨rfl, q1, q2⟩
        exact .inl ⟨hwant, by omega, rfl, q1, q2⟩
    · have hwant : hdW (some (r, d0)) rr = 192 := by simp [hdW, hrr]
      rw [hwant]
      exact opno h (.inr ⟨by decide, rfl⟩) (swap_no W S (nm k) rr 192 a d.size c (by rw [nm_size]; decide) (by rw [nm_size]; decide) (by omega) (by decide) (standing_stale W S _ _ mb mn pv m _ (nm k) d0 rr r hbox hmp (by rw [nm_size]; decide) hat hrr))
theorem remove_op (rr : Int) (hds : (dtS (runA A0 first hh k)).size ≤ 4096) : Calls Try.prog 6 #[.pointer (some ⟨S, 0, none⟩), .string (nm k), .int .i64 rr] W (OpPost w0 W S first hh fl (3, k, dtS (runA A0 first hh k)) (hdW (runA A0 first hh k) rr)) := by
  obtain ⟨mb, mn, pv, m, hbox, hmp⟩ := h.view
  have hA := Agr.empty.fol hh (evts_ok hok) first
  cases hs2 : runA A0 first hh k with
  | none =>
    exact opno h (.inr ⟨by simp [hdW], rfl⟩) (remove_no W S (nm k) rr 190 (by rw [nm_size]; decide) (by rw [nm_size]; decide) (by decide) (standing_miss W S _ _ mb mn pv m _ (nm k) rr hbox hmp (by rw [nm_size]; decide) (hA.no hk hs2)))
  | some x =>
    obtain ⟨r, d0⟩ := x
    rw [hs2] at hds
    have hat := hA.at_ k hk r d0 hs2
    by_cases hrr : r = rr
    · subst hrr
      have hwant : hdW (some (r, d0)) r = 0 := by simp [hdW]
      by_cases hm : first + (hh.length : Int) = mx
      · exact opno h (.inl ⟨hwant, hm, rfl⟩) (remove_gen W S _ _ mb mn pv m _ (nm k) d0 r hbox hmp (by rw [nm_size]; decide) (by rw [nm_size]; decide) hat 0 194 (Below W.heap.size W) (fun W1 b1 => (write_worn W1 S _ _ mb mn pv 3 (nm k) d0 ((b1.block S (lt_of_block hbox)).trans hbox) (by rw [hm]; exact Int.le_refl _)).mono (by
          rintro e W2 ⟨rfl, b2⟩
          exact ⟨rfl, b1.trans (b2.mono b1.size)⟩)))
      · refine (remove_gen W S _ _ mb mn pv m _ (nm k) d0 r hbox hmp (by rw [nm_size]; decide) (by rw [nm_size]; decide) hat (first + (hh.length : Int) + 1) 0 (fun W' => StX w0 W' S first (hh ++ [(3, k, d0)]) fl ∧ Kb W W') (fun W1 b1 => (write_step w0 W1 S first hh fl (h.below b1) (3, k, d0) ⟨.inr (.inr rfl), hk, hds⟩ hfl hlen h0 (by omega)).mono (by
          rintro e W2 ⟨rfl, q1, q2⟩
          refine ⟨rfl, q1, fun y c t fr e ht => ?_⟩
          have e1 := b1.block y (lt_of_block e)
          exact (q2 y c t fr (e1.trans e) ht).trans e1))).mono ?_
        rintro e W' ⟨rfl, q1, q2⟩
        exact .inl ⟨hwant, by omega, rfl, q1, q2⟩
    · have hwant : hdW (some (r, d0)) rr = 192 := by simp [hdW, hrr]
      rw [hwant]
      exact opno h (.inr ⟨by decide, rfl⟩) (remove_no W S (nm k) rr 192 (by rw [nm_size]; decide) (by rw [nm_size]; decide) (by decide) (standing_stale W S _ _ mb mn pv m _ (nm k) d0 rr r hbox hmp (by rw [nm_size]; decide) hat hrr))
end
end Go.Proofs.Ytpbejbpimcidjaa
