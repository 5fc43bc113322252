/- joined: RdrI BytA PutB PtoP BckP -/
import Derived.Test.YtihcggepeadklaaGreatDoorRdrH
/- path.Parse. -/
set_option linter.unusedSimpArgs false
set_option linter.unusedVariables false
namespace Go.Proofs.YtihcggepeadklaaGreatDoor
open Go.RowKit Go.Lib
def lenOf : Value → Nat
  | .slice _ n _ => n
  | _ => 0
/-- what Parse answers -/
def PaP (P : List El × Int × Nat) (w : World) (e : Ending) (w' : World) : Prop := ∃ ap cp bp op, e = .returned (.tuple #[.slice ap P.1.length cp, .int .i64 P.2.1, .int .i64 (P.2.2 : Int)]) ∧ Headed ap P.1.length cp bp op ∧ liesP w' (New w w') P.1 bp op ∧ Below w.heap.size w w'
theorem par_end {l : List UInt8} {n k : Nat} {acc : List El} (h : ¬ k < l.length) : parF l n k acc = (acc, -1, 0) := by
  cases n with
  | zero => rfl
  | succ n => rw [parF, if_neg h]
theorem par_full {l : List UInt8} {n k : Nat} {acc : List El} (h : k < l.length) (h2 : acc.length = 32) : parF l (n + 1) k acc = ([], (k : Int), 90) := by rw [parF, if_pos h, if_pos h2]
theorem par_no {l : List UInt8} {n k : Nat} {acc : List El} (h : k < l.length) (h2 : nxtF l k = none) : parF l (n + 1) k acc = ([], (k : Int), 90) := by
  rw [parF, if_pos h]
  split
  · rfl
  · rw [h2]
theorem par_yes {l : List UInt8} {n k k1 : Nat} {acc : List El} {x : El} (h : k < l.length) (h2 : acc.length ≠ 32) (h3 : nxtF l k = some (x, k1)) : parF l (n + 1) k acc = parF l n k1 (acc ++ [x]) := by
  rw [parF, if_pos h, if_neg h2, h3]
theorem pa_err {l : List UInt8} {k : Nat} {w W : World} (P : List El × Int × Nat) (h : P = ([], (k : Int), 90)) (b : Below w.heap.size w W) : PaP P w (.returned (.tuple #[.slice none 0 0, .int .i64 (k : Int), .int .i64 90])) W := by
  subst h
  exact ⟨none, 0, 0, 0, rfl, ⟨Nat.le_refl _, Nat.zero_le _, .inl rfl, fun _ => rfl⟩, fun j hj => by simp at hj, b⟩
set_option maxHeartbeats 8000000 in
set_option maxRecDepth 100000 in
theorem parse_any (s : ByteArray) (w : World) (t : Td w) (hs : s.size ≤ 100000000) :
    Calls Tryz.prog 11 #[.string s] w (PaP (parF s.data.toList 33 0 []) w) := by
  have bA : Below w.heap.size w (w.alloc (.cells #[.string s, .int .i64 0] 59)) := (Below.refl _ _).alloc (Nat.le_refl _) _
  have nb : PB w.heap.size s 0 (w.alloc (.cells #[.string s, .int .i64 0] 59)) := heap_alloc_new w _
  have hbsz : w.heap.size < (w.alloc (.cells #[.string s, .int .i64 0] 59)).heap.size := by rw [alloc_size]; omega
  have hg := t.z
  have hll : s.data.toList.length = s.size := by simp
  have HLL := hmk hll
  have HT := hmk t
  obtain ⟨i0, hi0, hz0, hz1, hz2⟩ := info_parts info35
  have hI : Hid (Tryz.prog.info? 48 = some i0 ∧ i0.zero = some (.agg #[.int .i64 0, .string ⟨#[]⟩, .slice none 0 0, .int .i64 0, .bool false, .int .i64 0, .string ⟨#[]⟩, .slice none 0 0, .slice none 0 0]) ∧ i0.size = 9 ∧ i0.bytes = 136) := ⟨hi0, hz0, hz1, hz2⟩
  clear t hll hi0 hz0 hz1 hz2
  go_enter Tryz.func11, Tryz.ntmps11
  go_wp2_with fail
  generalize w.alloc (.cells #[.string s, .int .i64 0] 59) = w1 at *
  have HTd : Hid (∀ W k', RdP w.heap.size s w1 W k' → Td W ∧ Below w.heap.size w W) := fun W k' r => by
    have b : Below w.heap.size w W := bA.trans ((Below.refl _ w1).grown r.gr bA.size (fun k hk => by cases hk; exact Nat.le_refl _))
    exact ⟨HT.out.below b HT.out.z b.size, b⟩
  have CN : Hid (∀ W k, PB w.heap.size s k W → Td W → k ≤ s.size → Calls Tryz.prog 23 #[.pointer (some ⟨w.heap.size, 0, none⟩)] W (EmP (nxtF s.data.toList k) w.heap.size s W)) := fun W k hW tW hk => pnext_any w.heap.size s k W hW tW hs hk hg
  have HKG : Hid (∀ (W W' : World) (S : Nat → Prop) (v : Value) (l : List El), OwnP W w1.heap.size S v l → W.grownBy W' (some w.heap.size) → OwnP W' w1.heap.size S v l) := fun W W' S v l o gr => o.keep keepP gr (fun r e => by
    cases e
    exact ⟨fun hS => by have := (o.off _ hS).1; omega, fun e => by have := (o.lt e).1; omega⟩)
  have r0 : RdP w.heap.size s w1 w1 0 := ⟨Nat.zero_le _, nb, World.grownBy.refl _ _⟩
  clear bA nb
  go_loopw [5] (fun e5 wq => ∃ (acc : List El) (kk : Nat) (SM : Nat → Prop), acc.length ≤ 32 ∧ lenOf e5 = acc.length ∧ Hid (parF s.data.toList 33 0 [] = parF s.data.toList (33 - acc.length) kk acc) ∧ RdP w.heap.size s w1 wq kk ∧ OwnP wq w1.heap.size SM e5 acc) (fun e5 _ => 33 - lenOf e5)
  case atStart => exact ⟨[], 0, _, by simp, rfl, hmk rfl, r0, OwnR.nil _ _⟩
  case round =>
    clear r0
    obtain ⟨acc, kk, SM, ha32, hlen, HF, rj, oj⟩ := hrel
    have c1 := rj.pb.c1
    obtain ⟨sa, sc, sb, so, rfl, hd, hls⟩ := own_listP (T := fun b => w1.heap.size ≤ b ∧ b < wr.heap.size) oj (fun b hb => ⟨(oj.off b hb).1, (oj.off b hb).2.1⟩) (fun g hg => oj.lt hg)
    have HD := hmk hd
    have HLS := hmk hls
    clear hlen hd hls
    by_cases hks : kk < s.size
    · have y1 : (kk : Int) < s.size := by omega
      have e33 : 33 - acc.length = (32 - acc.length) + 1 := by omega
      rw [e33] at HF
      have hkl : kk < s.data.toList.length := by rw [HLL.out]; exact hks
      have HKL := hmk hkl
      clear e33 hkl
      go_wp2_with fail
      refine (CN.out _ _ rj.pb (HTd.out _ _ rj).1 rj.le).mono ?_
      rintro e w2 (⟨x, k1, cs, hx, rfl, hl, r2⟩ | ⟨hx, ek, es, ea, en, ec, fk, fb, fi, fs, fa, fn, fc, ga, gn, gc, k1, rfl, r2⟩)
      · obtain ⟨ek, es, ea, en, ec, fk, fb, fi, fs, fa, fn, fc, ga, gn, gc, rfl⟩ := El.nine hl
        have HX := hmk hx
        have R3 := (rj.trans r2).allo (.cells #[.int .i64 ek, .string es, .slice ea en ec, .int .i64 fk, .bool fb, .int .i64 fi, .string fs, .slice fa fn fc, .slice ga gn gc] 48)
        by_cases h32 : acc.length = 32
        · have y32 : ((acc.length : Int) == 32) = true := by rw [beq_iff_eq]; omega
          have HB := hmk (HTd.out _ _ R3).2
          have H32 := hmk h32
          clear h32 hx hl rj r2 R3 oj
          go_wp2_with fail
          go_ret3
          exact pa_err (l := s.data.toList) _ (by rw [HF.out, par_full HKL.out H32.out]) HB.out
        · have y32 : ((acc.length : Int) == 32) = false := by rw [beq_eq_false_iff_ne]; omega
          have H32 := hmk h32
          have R4 := R3.allo (.cells #[.int .i64 ek, .string es, .slice ea en ec, .int .i64 fk, .bool fb, .int .i64 fi, .string fs, .slice fa fn fc, .slice ga gn gc] 48)
          have o4 := ((HKG.out _ _ _ _ _ oj r2.gr).alloc keepP (.cells #[.int .i64 ek, .string es, .slice ea en ec, .int .i64 fk, .bool fb, .int .i64 fi, .string fs, .slice fa fn fc, .slice ga gn gc] 48)).alloc keepP (.cells #[.int .i64 ek, .string es, .slice ea en ec, .int .i64 fk, .bool fb, .int .i64 fi, .string fs, .slice fa fn fc, .slice ga gn gc] 48)
          have hb4 : w1.heap.size ≤ ((w2.alloc (.cells #[.int .i64 ek, .string es, .slice ea en ec, .int .i64 fk, .bool fb, .int .i64 fi, .string fs, .slice fa fn fc, .slice ga gn gc] 48)).alloc (.cells #[.int .i64 ek, .string es, .slice ea en ec, .int .i64 fk, .bool fb, .int .i64 fi, .string fs, .slice fa fn fc, .slice ga gn gc] 48)).heap.size := R4.gr.size
          have hrow : ∀ r, (Value.slice sa acc.length sc).ownBlock = some r → w1.heap.size ≤ r := fun r e => (oj.lt e).1
          have hz4 : w2.heap.size ≤ ((w2.alloc (.cells #[.int .i64 ek, .string es, .slice ea en ec, .int .i64 fk, .bool fb, .int .i64 fi, .string fs, .slice fa fn fc, .slice ga gn gc] 48)).alloc (.cells #[.int .i64 ek, .string es, .slice ea en ec, .int .i64 fk, .bool fb, .int .i64 fi, .string fs, .slice fa fn fc, .slice ga gn gc] 48)).heap.size := by rw [alloc_size, alloc_size]; omega
          have HEP : Hid (EP x ((w2.alloc (.cells #[.int .i64 ek, .string es, .slice ea en ec, .int .i64 fk, .bool fb, .int .i64 fi, .string fs, .slice fa fn fc, .slice ga gn gc] 48)).alloc (.cells #[.int .i64 ek, .string es, .slice ea en ec, .int .i64 fk, .bool fb, .int .i64 fi, .string fs, .slice fa fn fc, .slice ga gn gc] 48)) (New wr w2) [.int .i64 ek, .string es, .slice ea en ec, .int .i64 fk, .bool fb, .int .i64 fi, .string fs, .slice fa fn fc, .slice ga gn gc]) := El.lies_keep (fun b hb => (Below.heap_alloc _ _ b (by rw [alloc_size]; have := hb.2; omega)).trans (Below.heap_alloc _ _ b hb.2)) (fun _ h => h) hl
          have HSX : Hid (∀ b, New wr w2 b → w1.heap.size ≤ b ∧ b < ((w2.alloc (.cells #[.int .i64 ek, .string es, .slice ea en ec, .int .i64 fk, .bool fb, .int .i64 fi, .string fs, .slice fa fn fc, .slice ga gn gc] 48)).alloc (.cells #[.int .i64 ek, .string es, .slice ea en ec, .int .i64 fk, .bool fb, .int .i64 fi, .string fs, .slice fa fn fc, .slice ga gn gc] 48)).heap.size ∧ some b ≠ (Value.slice sa acc.length sc).ownBlock) := fun b hb => ⟨Nat.le_trans rj.gr.size hb.1, Nat.lt_of_lt_of_le hb.2 hz4, fun e => by have := (oj.lt e.symm).2; have := hb.1; omega⟩
          have ha3 : acc.length + 1 ≤ 32 := by omega
          clear h32 hx hl oj
          go_wp2_with (at_builtin; go_loud (refine wpl_push keepP _ rfl (.tmp 31) (.tmp 33) 23 rfl w1.heap.size i0 _ 136 Tryz.underlying23 hI.out.1 hI.out.2.1 hI.out.2.2.1 hI.out.2.2.2 rfl (by decide) (by decide) (.slice sa acc.length sc) x rfl o4 (w2.heap.size + 1) 1 (0, 0) rfl (alloc2_new w2 _ _) rfl one9 HEP.out HSX.out (by omega) hb4 ?_))
          intro g' cap w5 o5 g5 e5
          have R5 := R4.own hbsz g5 hrow
          clear o4 R4 g5 e5 rj r2 R3 hb4 hrow hz4
          go_wp2_with fail
          go_roundw
          case rel => exact ⟨acc ++ [x], k1, _, by rw [List.length_append]; exact ha3, by rw [List.length_append]; rfl, hmk (by rw [HF.out, par_yes HKL.out H32.out HX.out]; congr 1; rw [List.length_append]; show _ = 33 - (acc.length + 1); omega), R5, o5⟩
          case measure => simp [lenOf]; omega
      · have HX := hmk hx
        have R3 := (rj.trans r2).allo (.cells #[.int .i64 ek, .string es, .slice ea en ec, .int .i64 fk, .bool fb, .int .i64 fi, .string fs, .slice fa fn fc, .slice ga gn gc] 48)
        have HB := hmk (HTd.out _ _ R3).2
        by_cases h32 : acc.length = 32
        · have y32 : ((acc.length : Int) == 32) = true := by rw [beq_iff_eq]; omega
          clear h32 hx rj r2 R3 oj
          go_wp2_with fail
          go_ret3
          exact pa_err (l := s.data.toList) _ (by rw [HF.out, par_no HKL.out HX.out]) HB.out
        · have y32 : ((acc.length : Int) == 32) = false := by rw [beq_eq_false_iff_ne]; omega
          clear h32 hx rj r2 R3 oj
          go_wp2_with fail
          go_ret3
          exact pa_err (l := s.data.toList) _ (by rw [HF.out, par_no HKL.out HX.out]) HB.out
    · have y1 : ¬ (kk : Int) < s.size := by omega
      have HB := hmk (HTd.out _ _ rj).2
      have HE : Hid (parF s.data.toList 33 0 [] = (acc, -1, 0)) := by show _ = _; rw [HF.out, par_end (by rw [HLL.out]; exact hks)]
      have hz1 := hbsz
      clear oj rj
      go_wp2_with fail
      go_ret3
      exact (by rw [HE.out]; exact ⟨sa, sc, sb, so, rfl, HD.out, liesP_keep (fun _ _ => rfl) (fun b hb => ⟨Nat.le_trans (Nat.le_of_lt hz1) hb.1, hb.2⟩) HLS.out, HB.out⟩)
end Go.Proofs.YtihcggepeadklaaGreatDoor
/- Rows of bytes that a call owns: append onto them, and their string. -/
namespace Go.Proofs.YtihcggepeadklaaGreatDoor
open Go.RowKit
/-- the slice v owns the bytes l, in a block from B on -/
def Own (B : Nat) (v : Value) (l : List UInt8) (w : World) : Prop := w.ownsRow B 5 1 v l.length (Lib.byteCells l)
theorem Own.alloc {B : Nat} {v : Value} {l : List UInt8} {w : World} (h : Own B v l w) (o : Obj) : Own B v l (w.alloc o) := World.ownsRow.alloc h o
theorem Own.nil (B : Nat) (w : World) : Own B (.slice none 0 0) [] w := World.ownsRow_nil w B 5 1
end Go.Proofs.YtihcggepeadklaaGreatDoor
/- freeholdlaw02.put: some members. -/
namespace Go.Proofs.YtihcggepeadklaaGreatDoor
open Go.RowKit
theorem OwnM.out {w w0 : World} {S T : Nat → Prop} {g n cap : Nat} {l : List Mem} (h : OwnM false w 0 S (.slice (some ⟨g, 0, none⟩) n cap) (l.map some)) (hn : n = l.length) (hST : ∀ x, S x → T x) (hg : w0.heap.size ≤ g) : Headed (some ⟨g, 0, none⟩) l.length cap g 0 ∧ liesM false w (fun y => T y ∨ (w0.heap.size ≤ y ∧ y < w.heap.size)) l g 0 := by
  have h1 := h.le
  have h2 := h.lt (g := g) rfl
  simp only [List.length_map] at h1
  refine ⟨⟨h1.1, h1.2, .inr rfl, fun h => by cases h⟩, liesM_mk fun j hj => ?_⟩
  obtain ⟨cs, r1, r2⟩ := h.at (by simp [hn]) j (by simpa using hj)
  rw [List.getElem_map] at r2
  obtain ⟨cs', rfl, hk, r3⟩ := r2
  exact ⟨.inr ⟨hg, h2.2⟩, hk, cs', r1, V.lies_keep (fun h => h) (fun _ _ => rfl) (fun b hb => .inl (hST b hb)) _ r3⟩
end Go.Proofs.YtihcggepeadklaaGreatDoor
/- The order of paths is one: turned round it is turned round, what is smaller than smaller is smaller, and of paths that may be nothing is the same but the same. -/
namespace Go.Proofs.YtihcggepeadklaaGreatDoor
open Go.RowKit Go.Lib
/-- an order, of which more than one may be the same -/
structure Wko {α : Type} (f : α → α → Int) : Prop where
  anti : ∀ x y, f x y = - f y x
  cong : ∀ x y z, f x y = 0 → f x z = f y z
  tri : ∀ x y z, f x y < 0 → f y z < 0 → f x z < 0
theorem Wko.sym {α : Type} {f : α → α → Int} (h : Wko f) {x y : α} (e : f x y = 0) : f y x = 0 := by have := h.anti y x; omega
theorem Wko.congR {α : Type} {f : α → α → Int} (h : Wko f) {x y : α} (e : f x y = 0) (z : α) : f z x = f z y := by
  rw [h.anti z x, h.anti z y, h.cong x y z e]
theorem Wko.of {α β : Type} {f : α → α → Int} (h : Wko f) (k : β → α) : Wko (fun x y => f (k x) (k y)) :=
  ⟨fun x y => h.anti _ _, fun x y z e => h.cong _ _ _ e, fun x y z a b => h.tri _ _ _ a b⟩
/-- the first, and where it has no say the second, that may hang on what the first looked at -/
theorem Wko.dep {α κ : Type} {f : α → α → Int} {g : κ → α → α → Int} {k : α → κ} (h : Wko f) (hg : ∀ c, Wko (g c)) (hk : ∀ x y, f x y = 0 → k x = k y) : Wko (fun x y => if f x y = 0 then g (k x) x y else f x y) := by
  refine ⟨fun x y => ?_, fun x y z e => ?_, fun x y z a b => ?_⟩
  · skip
    by_cases e : f x y = 0
    · rw [if_pos e, if_pos (h.sym e), hk x y e]; exact (hg _).anti x y
    · rw [if_neg e, if_neg (fun e' => e (h.sym e'))]; exact h.anti x y
  · skip
    by_cases e1 : f x y = 0
    · rw [if_pos e1] at e
      rw [h.cong x y z e1, hk x y e1]
      rw [hk x y e1] at e
      by_cases e2 : f y z = 0
      · rw [if_pos e2, if_pos e2]; exact (hg _).cong x y z e
      · rw [if_neg e2, if_neg e2]
    · rw [if_neg e1] at e; exact absurd e e1
  · skip
    by_cases e1 : f x y = 0
    · rw [if_pos e1, hk x y e1] at a
      rw [h.cong x y z e1, hk x y e1]
      by_cases e2 : f y z = 0
      · rw [if_pos e2] at b ⊢; exact (hg _).tri x y z a b
      · rw [if_neg e2] at b ⊢; exact b
    · rw [if_neg e1] at a
      by_cases e2 : f y z = 0
      · rw [← h.congR e2 x, if_neg e1]; exact a
      · rw [if_neg e2] at b
        have c := h.tri x y z a b
        rw [if_neg (by omega)]; exact c
theorem Wko.then {α : Type} {f g : α → α → Int} (h : Wko f) (hg : Wko g) : Wko (fun x y => if f x y = 0 then g x y else f x y) :=
  Wko.dep (κ := Unit) (g := fun _ => g) (k := fun _ => ()) h (fun _ => hg) (fun _ _ _ => rfl)
theorem nilV_eq {v : V} (h : nilV v = true) : v = .mk 0 false 0 ⟨#[]⟩ [] [] := by
  obtain ⟨k, b, i, s, l, m⟩ := v
  simp only [nilV, nilB, decide_eq_true_eq] at h
  obtain ⟨h1, h2, h3, h4, h5, h6⟩ := h
  rw [h1, h2, h3, bytes_eq (h4.trans nil_toList.symm), List.length_eq_zero_iff.1 h5, List.length_eq_zero_iff.1 h6]
end Go.Proofs.YtihcggepeadklaaGreatDoor
/- Texts there and back: what is written of an element is read as that element. -/
namespace Go.Proofs.YtihcggepeadklaaGreatDoor
open Go.RowKit Go.Lib
/-! numbers -/
theorem dig_ofNat (d : Nat) (h : d < 10) : (UInt8.ofNat (48 + d)).toNat = 48 + d := by
  rw [UInt8.toNat_ofNat']; omega
theorem puM_app (M : Nat) : ∀ (l : List UInt8) (acc u : Nat) (c : UInt8), parseUintM M acc l = .ok u → 48 ≤ c.toNat ∧ c.toNat ≤ 57 → u < 1844674407370955162 → u * 10 + (c.toNat - 48) ≤ M → parseUintM M acc (l ++ [c]) = .ok (u * 10 + (c.toNat - 48))
  | [], acc, u, c, h, hc, h1, h2 => by
    simp only [parseUintM, NumEnd.ok.injEq] at h
    subst h
    simp only [List.nil_append, parseUintM]
    rw [if_pos hc, if_neg (by omega), if_neg (by omega)]
  | x :: l, acc, u, c, h, hc, h1, h2 => by
    simp only [List.cons_append, parseUintM] at h ⊢
    split at h
    · rename_i hx
      rw [if_pos hx]
      split at h
      · cases h
      · rename_i hy
        rw [if_neg hy]
        split at h
        · cases h
        · rename_i hz
          rw [if_neg hz]
          exact puM_app M l _ u c h hc h1 h2
    · cases h
theorem puM_dec : ∀ (n u : Nat), u ≤ n → u ≤ 18446744073709551615 → parseUintM 18446744073709551615 0 (decDigits u) = .ok u
  | n, u, hn, hu => by
    by_cases h : u < 10
    · rw [decDigits_one h]
      simp only [parseUintM]
      have := dig_ofNat u h
      rw [if_pos (by omega), if_neg (by omega), if_neg (by omega)]
      congr 1
      omega
    · rw [decDigits, dif_neg h]
      have e := dig_ofNat (u % 10) (by omega)
      cases n with
      | zero => omega
      | succ n =>
        rw [puM_app _ _ 0 (u / 10) _ (puM_dec n (u / 10) (by omega) (by omega)) (by omega) (by omega) (by omega)]
        congr 1
        omega
theorem dec_ne (u : Nat) : decDigits u ≠ [] := by
  rw [decDigits]
  split <;> simp
theorem dec_dig : ∀ (n u : Nat), u ≤ n → ∀ c ∈ decDigits u, 48 ≤ c.toNat ∧ c.toNat ≤ 57
  | n, u, hn, c, hc => by
    by_cases h : u < 10
    · rw [decDigits_one h] at hc
      have := dig_ofNat u h
      rw [List.mem_singleton] at hc
      rw [hc]
      omega
    · rw [decDigits, dif_neg h] at hc
      rcases List.mem_append.1 hc with hc | hc
      · cases n with
        | zero => omega
        | succ n => exact dec_dig n (u / 10) (by omega) c hc
      · have := dig_ofNat (u % 10) (by omega)
        rw [List.mem_singleton] at hc
        rw [hc]
        omega
theorem pi_itoa (i : Int) (h : In64 i) : parseIntB 64 (itoa i) = .ok i := by
  obtain ⟨h1, h2⟩ := h
  unfold itoa
  by_cases hn : i < 0
  · rw [if_pos hn]
    unfold parseIntB
    dsimp only
    have e45 : (45 : UInt8).toNat = 45 := rfl
    rw [if_pos (by right; rfl), parseUintB, if_neg (dec_ne _)]
    have e2 : (2 : Nat) ^ 64 - 1 = 18446744073709551615 := by decide
    rw [e2, puM_dec i.natAbs i.natAbs (Nat.le_refl _) (by omega)]
    dsimp only
    rw [if_neg (fun h => h.1 rfl), if_neg (fun h => by have := h.2; have : (2 : Nat) ^ (64 - 1) = 9223372036854775808 := by decide
                                                       omega), if_pos e45]
    congr 1
    omega
  · rw [if_neg hn]
    have hd := dec_dig i.toNat i.toNat (Nat.le_refl _)
    unfold parseIntB
    split
    · rename_i h0; exact absurd h0 (dec_ne _)
    · rename_i c r h0
      have hc := hd c (by rw [h0]; simp)
      dsimp only
      rw [if_neg (by omega), parseUintB, if_neg (dec_ne _)]
      have e2 : (2 : Nat) ^ 64 - 1 = 18446744073709551615 := by decide
      have e3 : (2 : Nat) ^ (64 - 1) = 9223372036854775808 := by decide
      rw [e2, puM_dec i.toNat i.toNat (Nat.le_refl _) (by omega)]
      dsimp only
      rw [if_neg (fun h => by have := h.2; omega), if_neg (fun h => by have := h.1; omega), if_neg (by omega)]
      congr 1
      omega
theorem itoa_set (i : Int) : ∀ c ∈ itoa i, minDig.contains c = true := by
  have key : ∀ c : UInt8, 48 ≤ c.toNat ∧ c.toNat ≤ 57 → minDig.contains c = true := by
    intro c hc
    have : ∀ d : Fin 256, 48 ≤ d.val ∧ d.val ≤ 57 → minDig.contains (UInt8.ofNat d.val) = true := by decide +kernel
    have h := this ⟨c.toNat, c.toNat_lt⟩ hc
    simpa using h
  intro c hc
  unfold itoa at hc
  split at hc
  · rcases List.mem_cons.1 hc with rfl | hc
    · decide
    · exact key c (dec_dig _ _ (Nat.le_refl _) c hc)
  · exact key c (dec_dig _ _ (Nat.le_refl _) c hc)
/-! at a place -/
/-- the text from a place on -/
theorem tk_at (a p t : List UInt8) : tkB (a ++ t) a.length p = hasPrefix t p := by
  unfold tkB
  rw [List.drop_left]
theorem hp_yes (p t : List UInt8) : hasPrefix (p ++ t) p = true := by
  unfold hasPrefix
  exact List.isPrefixOf_iff_prefix.2 (List.prefix_append p t)
theorem hp_no {c d : UInt8} (t p : List UInt8) (h : c ≠ d) : hasPrefix (c :: t) (d :: p) = false := by
  unfold hasPrefix
  simp [List.isPrefixOf, Ne.symm h]
theorem quo_back (a l u : List UInt8) (hv : validD l = true) : quoF (a ++ (Q.qt l ++ u)) a.length = some (⟨l.toArray⟩, a.length + (Q.qt l).length) := by
  rw [quoF, Q.unq_back l a u hv, if_pos rfl]
/-- no byte of a plain name stands here -/
def stopN : List UInt8 → Prop
  | [] => True
  | c :: _ => okR 1 c.toNat = false
theorem prefN_stop : ∀ (i : Nat) (t : List UInt8), 0 < i → stopN t → prefN i t = i
  | i, [], _, _ => rfl
  | i, c :: t, hi, h => by
    have h' : okR 1 c.toNat = false := h
    rw [okR_pos 1 _ (by omega)] at h'
    rw [prefN, if_neg (by rw [okR_pos i _ (by omega), h']; decide)]
theorem prefN_app : ∀ (l : List UInt8) (i : Nat) (t : List UInt8), allN i l = true → 0 < i + l.length → stopN t → prefN i (l ++ t) = i + l.length
  | [], i, t, _, h0, ht => by rw [List.nil_append, prefN_stop i t (by simpa using h0) ht]; simp
  | c :: l, i, t, h, h0, ht => by
    rw [allN, Bool.and_eq_true] at h
    rw [List.cons_append, prefN, if_pos h.1, prefN_app l (i + 1) t h.2 (by omega) ht, List.length_cons]
    omega
theorem nam_back (a : List UInt8) (n : ByteArray) (t : List UInt8) (hv : utfB n = true) (ht : stopN t) : namF (a ++ (nmT n.data.toList ++ t)) a.length = some (n, a.length + (nmT n.data.toList).length) := by
  have hb : (⟨n.data.toList.toArray⟩ : ByteArray) = n := by simp
  unfold namF
  rw [List.drop_left]
  unfold nmT
  by_cases hp : plnN n.data.toList = true
  · rw [if_pos hp]
    unfold plnN at hp
    rw [Bool.and_eq_true] at hp
    have hne : 0 < n.data.toList.length := by
      cases h : n.data.toList with
      | nil => rw [h] at hp; simp at hp
      | cons _ _ => simp
    have e := prefN_app n.data.toList 0 t hp.2 (by omega) ht
    rw [Nat.zero_add] at e
    rw [e, if_pos hne, List.take_left, hb]
  · rw [if_neg hp]
    have e : prefN 0 (Q.qt n.data.toList ++ t) = 0 := by
      show prefN 0 (34 :: _) = 0
      rw [prefN, if_neg (by decide)]
    have hv' : validD n.data.toList = true := by simpa [utfB] using hv
    rw [e, if_neg (by omega), quo_back a _ t hv', hb]
/-- a scalar that may be -/
theorem sca_cases {v : V} (h : sizS v = true) : (∃ b, v = .mk 1 b 0 ⟨#[]⟩ [] []) ∨ (∃ i, v = .mk 2 false i ⟨#[]⟩ [] []) ∨ (∃ s, validD s.data.toList = true ∧ v = .mk 3 false 0 s [] []) := by
  obtain ⟨k, b, i, s, l, m⟩ := v
  obtain ⟨hk, hv, rfl, rfl⟩ := sizS_good h
  simp only [sizS, Bool.and_eq_true, decide_eq_true_eq] at h
  have gv := chkV_allG 40 _ 0 _ (okV_true h.1)
  rw [allG] at gv
  have p := goodB_plain gv.1
  have es : (k = 3 ∨ s = ⟨#[]⟩) := p.2.2.2.2.1.imp id (fun e => by
    have : s.toList = [] := by simpa using e
    exact bytes_eq (by rw [this]; rw [ByteArray.toList_eq]))
  rcases hk with rfl | rfl | rfl
  · refine .inl ⟨b, ?_⟩
    obtain rfl : i = 0 := p.2.2.2.1.resolve_left (by omega)
    rw [es.resolve_left (by omega)]
  · refine .inr (.inl ⟨i, ?_⟩)
    obtain rfl : b = false := p.2.2.1.resolve_left (by omega)
    rw [es.resolve_left (by omega)]
  · refine .inr (.inr ⟨s, hv, ?_⟩)
    obtain rfl : b = false := p.2.2.1.resolve_left (by omega)
    obtain rfl : i = 0 := p.2.2.2.1.resolve_left (by omega)
    rfl
end Go.Proofs.YtihcggepeadklaaGreatDoor
