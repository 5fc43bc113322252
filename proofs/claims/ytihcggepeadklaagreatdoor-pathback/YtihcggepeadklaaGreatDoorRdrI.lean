import Derived.Test.YtihcggepeadklaaGreatDoorRdrH
/- path.Parse. -/
set_option linter.unusedSimpArgs false
set_option linter.unusedVariables false
namespace Go.Proofs.YtihcggepeadklaaGreatDoor
open Go.RowKit Go.Lib
def lenOf : Value → Nat
  | .slice _ n _ => n
  | _ => 0
/-- what Parse answers -/
def PaP (P : List El × Int × Nat) (w : World) (e : Ending) (w' : World) : Prop := ∃ ap cp bp op, e = .returned (.tuple #[.slice ap P.1.length cp, .int .i64 P.2.1, .int .i64 (P.2.2 : Int)]) ∧ Headed ap P.1.length cp bp op ∧ liesP w' (New w w') P.1 bp op ∧ Below w.heap.size w w'
theorem par_end {l : List UInt8} {n k : Nat} {acc : List El} (h : ¬ k < l.length) : parF l n k acc = (acc, -1, 0) := by
  cases n with
  | zero => rfl
  | succ n => rw [parF, if_neg h]
theorem par_full {l : List UInt8} {n k : Nat} {acc : List El} (h : k < l.length) (h2 : acc.length = 32) : parF l (n + 1) k acc = ([], (k : Int), 90) := by rw [parF, if_pos h, if_pos h2]
theorem par_no {l : List UInt8} {n k : Nat} {acc : List El} (h : k < l.length) (h2 : nxtF l k = none) : parF l (n + 1) k acc = ([], (k : Int), 90) := by
  rw [parF, if_pos h]
  split
  · rfl
  · rw [h2]
theorem par_yes {l : List UInt8} {n k k1 : Nat} {acc : List El} {x : El} (h : k < l.length) (h2 : acc.length ≠ 32) (h3 : nxtF l k = some (x, k1)) : parF l (n + 1) k acc = parF l n k1 (acc ++ [x]) := by
  rw [parF, if_pos h, if_neg h2, h3]
theorem pa_err {l : List UInt8} {k : Nat} {w W : World} (P : List El × Int × Nat) (h : P = ([], (k : Int), 90)) (b : Below w.heap.size w W) : PaP P w (.returned (.tuple #[.slice none 0 0, .int .i64 (k : Int), .int .i64 90])) W := by
  subst h
  exact ⟨none, 0, 0, 0, rfl, ⟨Nat.le_refl _, Nat.zero_le _, .inl rfl, fun _ => rfl⟩, fun j hj => by simp at hj, b⟩
set_option maxHeartbeats 8000000 in
set_option maxRecDepth 100000 in
theorem parse_any (s : ByteArray) (w : World) (t : Td w) (hs : s.size ≤ 100000000) :
    Calls Tryz.prog 11 #[.string s] w (PaP (parF s.data.toList 33 0 []) w) := by
  have bA : Below w.heap.size w (w.alloc (.cells #[.string s, .int .i64 0] 59)) := (Below.refl _ _).alloc (Nat.le_refl _) _
  have nb : PB w.heap.size s 0 (w.alloc (.cells #[.string s, .int .i64 0] 59)) := heap_alloc_new w _
  have hbsz : w.heap.size < (w.alloc (.cells #[.string s, .int .i64 0] 59)).heap.size := by rw [alloc_size]; omega
  have hg := t.z
  have hll : s.data.toList.length = s.size := by simp
  have HLL := hmk hll
  have HT := hmk t
  obtain ⟨i0, hi0, hz0, hz1, hz2⟩ := info_parts info35
  have hI : Hid (Tryz.prog.info? 48 = some i0 ∧ i0.zero = some (.agg #[.int .i64 0, .string ⟨#[]⟩, .slice none 0 0, .int .i64 0, .bool false, .int .i64 0, .string ⟨#[]⟩, .slice none 0 0, .slice none 0 0]) ∧ i0.size = 9 ∧ i0.bytes = 136) := ⟨hi0, hz0, hz1, hz2⟩
  clear t hll hi0 hz0 hz1 hz2
  go_enter Tryz.func11, Tryz.ntmps11
  go_wp2_with fail
  generalize w.alloc (.cells #[.string s, .int .i64 0] 59) = w1 at *
  have HTd : Hid (∀ W k', RdP w.heap.size s w1 W k' → Td W ∧ Below w.heap.size w W) := fun W k' r => by
    have b : Below w.heap.size w W := bA.trans ((Below.refl _ w1).grown r.gr bA.size (fun k hk => by cases hk; exact Nat.le_refl _))
    exact ⟨HT.out.below b HT.out.z b.size, b⟩
  have CN : Hid (∀ W k, PB w.heap.size s k W → Td W → k ≤ s.size → Calls Tryz.prog 23 #[.pointer (some ⟨w.heap.size, 0, none⟩)] W (EmP (nxtF s.data.toList k) w.heap.size s W)) := fun W k hW tW hk => pnext_any w.heap.size s k W hW tW hs hk hg
  have HKG : Hid (∀ (W W' : World) (S : Nat → Prop) (v : Value) (l : List El), OwnP W w1.heap.size S v l → W.grownBy W' (some w.heap.size) → OwnP W' w1.heap.size S v l) := fun W W' S v l o gr => o.keep keepP gr (fun r e => by
    cases e
    exact ⟨fun hS => by have := (o.off _ hS).1; omega, fun e => by have := (o.lt e).1; omega⟩)
  have r0 : RdP w.heap.size s w1 w1 0 := ⟨Nat.zero_le _, nb, World.grownBy.refl _ _⟩
  clear bA nb
  go_loopw [5] (fun e5 wq => ∃ (acc : List El) (kk : Nat) (SM : Nat → Prop), acc.length ≤ 32 ∧ lenOf e5 = acc.length ∧ Hid (parF s.data.toList 33 0 [] = parF s.data.toList (33 - acc.length) kk acc) ∧ RdP w.heap.size s w1 wq kk ∧ OwnP wq w1.heap.size SM e5 acc) (fun e5 _ => 33 - lenOf e5)
  case atStart => exact ⟨[], 0, _, by simp, rfl, hmk rfl, r0, OwnR.nil _ _⟩
  case round =>
    clear r0
    obtain ⟨acc, kk, SM, ha32, hlen, HF, rj, oj⟩ := hrel
    have c1 := rj.pb.c1
    obtain ⟨sa, sc, sb, so, rfl, hd, hls⟩ := own_listP (T := fun b => w1.heap.size ≤ b ∧ b < wr.heap.size) oj (fun b hb => ⟨(oj.off b hb).1, (oj.off b hb).2.1⟩) (fun g hg => oj.lt hg)
    have HD := hmk hd
    have HLS := hmk hls
    clear hlen hd hls
    by_cases hks : kk < s.size
    · have y1 : (kk : Int) < s.size := by omega
      have e33 : 33 - acc.length = (32 - acc.length) + 1 := by omega
      rw [e33] at HF
      have hkl : kk < s.data.toList.length := by rw [HLL.out]; exact hks
      have HKL := hmk hkl
      clear e33 hkl
      go_wp2_with fail
      refine (CN.out _ _ rj.pb (HTd.out _ _ rj).1 rj.le).mono ?_
      rintro e w2 (⟨x, k1, cs, hx, rfl, hl, r2⟩ | ⟨hx, ek, es, ea, en, ec, fk, fb, fi, fs, fa, fn, fc, ga, gn, gc, k1, rfl, r2⟩)
      · obtain ⟨ek, es, ea, en, ec, fk, fb, fi, fs, fa, fn, fc, ga, gn, gc, rfl⟩ := El.nine hl
        have HX := hmk hx
        have R3 := (rj.trans r2).allo (.cells #[.int .i64 ek, .string es, .slice ea en ec, .int .i64 fk, .bool fb, .int .i64 fi, .string fs, .slice fa fn fc, .slice ga gn gc] 48)
        by_cases h32 : acc.length = 32
        · have y32 : ((acc.length : Int) == 32) = true := by rw [beq_iff_eq]; omega
          have HB := hmk (HTd.out _ _ R3).2
          have H32 := hmk h32
          clear h32 hx hl rj r2 R3 oj
          go_wp2_with fail
          go_ret3
          exact pa_err (l := s.data.toList) _ (by rw [HF.out, par_full HKL.out H32.out]) HB.out
        · have y32 : ((acc.length : Int) == 32) = false := by rw [beq_eq_false_iff_ne]; omega
          have H32 := hmk h32
          have R4 := R3.allo (.cells #[.int .i64 ek, .string es, .slice ea en ec, .int .i64 fk, .bool fb, .int .i64 fi, .string fs, .slice fa fn fc, .slice ga gn gc] 48)
          have o4 := ((HKG.out _ _ _ _ _ oj r2.gr).alloc keepP (.cells #[.int .i64 ek, .string es, .slice ea en ec, .int .i64 fk, .bool fb, .int .i64 fi, .string fs, .slice fa fn fc, .slice ga gn gc] 48)).alloc keepP (.cells #[.int .i64 ek, .string es, .slice ea en ec, .int .i64 fk, .bool fb, .int .i64 fi, .string fs, .slice fa fn fc, .slice ga gn gc] 48)
          have hb4 : w1.heap.size ≤ ((w2.alloc (.cells #[.int .i64 ek, .string es, .slice ea en ec, .int .i64 fk, .bool fb, .int .i64 fi, .string fs, .slice fa fn fc, .slice ga gn gc] 48)).alloc (.cells #[.int .i64 ek, .string es, .slice ea en ec, .int .i64 fk, .bool fb, .int .i64 fi, .string fs, .slice fa fn fc, .slice ga gn gc] 48)).heap.size := R4.gr.size
          have hrow : ∀ r, (Value.slice sa acc.length sc).ownBlock = some r → w1.heap.size ≤ r := fun r e => (oj.lt e).1
          have hz4 : w2.heap.size ≤ ((w2.alloc (.cells #[.int .i64 ek, .string es, .slice ea en ec, .int .i64 fk, .bool fb, .int .i64 fi, .string fs, .slice fa fn fc, .slice ga gn gc] 48)).alloc (.cells #[.int .i64 ek, .string es, .slice ea en ec, .int .i64 fk, .bool fb, .int .i64 fi, .string fs, .slice fa fn fc, .slice ga gn gc] 48)).heap.size := by rw [alloc_size, alloc_size]; omega
          have HEP : Hid (EP x ((w2.alloc (.cells #[.int .i64 ek, .string es, .slice ea en ec, .int .i64 fk, .bool fb, .int .i64 fi, .string fs, .slice fa fn fc, .slice ga gn gc] 48)).alloc (.cells #[.int .i64 ek, .string es, .slice ea en ec, .int .i64 fk, .bool fb, .int .i64 fi, .string fs, .slice fa fn fc, .slice ga gn gc] 48)) (New wr w2) [.int .i64 ek, .string es, .slice ea en ec, .int .i64 fk, .bool fb, .int .i64 fi, .string fs, .slice fa fn fc, .slice ga gn gc]) := El.lies_keep (fun b hb => (Below.heap_alloc _ _ b (by rw [alloc_size]; have := hb.2; omega)).trans (Below.heap_alloc _ _ b hb.2)) (fun _ h => h) hl
          have HSX : Hid (∀ b, New wr w2 b → w1.heap.size ≤ b ∧ b < ((w2.alloc (.cells #[.int .i64 ek, .string es, .slice ea en ec, .int .i64 fk, .bool fb, .int .i64 fi, .string fs, .slice fa fn fc, .slice ga gn gc] 48)).alloc (.cells #[.int .i64 ek, .string es, .slice ea en ec, .int .i64 fk, .bool fb, .int .i64 fi, .string fs, .slice fa fn fc, .slice ga gn gc] 48)).heap.size ∧ some b ≠ (Value.slice sa acc.length sc).ownBlock) := fun b hb => ⟨Nat.le_trans rj.gr.size hb.1, Nat.lt_of_lt_of_le hb.2 hz4, fun e => by have := (oj.lt e.symm).2; have := hb.1; omega⟩
          have ha3 : acc.length + 1 ≤ 32 := by omega
          clear h32 hx hl oj
          go_wp2_with (at_builtin; go_loud (refine wpl_push keepP _ rfl (.tmp 31) (.tmp 33) 23 rfl w1.heap.size i0 _ 136 Tryz.underlying23 hI.out.1 hI.out.2.1 hI.out.2.2.1 hI.out.2.2.2 rfl (by decide) (by decide) (.slice sa acc.length sc) x rfl o4 (w2.heap.size + 1) 1 (0, 0) rfl (alloc2_new w2 _ _) rfl one9 HEP.out HSX.out (by omega) hb4 ?_))
          intro g' cap w5 o5 g5 e5
          have R5 := R4.own hbsz g5 hrow
          clear o4 R4 g5 e5 rj r2 R3 hb4 hrow hz4
          go_wp2_with fail
          go_roundw
          case rel => exact ⟨acc ++ [x], k1, _, by rw [List.length_append]; exact ha3, by rw [List.length_append]; rfl, hmk (by rw [HF.out, par_yes HKL.out H32.out HX.out]; congr 1; rw [List.length_append]; show _ = 33 - (acc.length + 1); omega), R5, o5⟩
          case measure => simp [lenOf]; omega
      · have HX := hmk hx
        have R3 := (rj.trans r2).allo (.cells #[.int .i64 ek, .string es, .slice ea en ec, .int .i64 fk, .bool fb, .int .i64 fi, .string fs, .slice fa fn fc, .slice ga gn gc] 48)
        have HB := hmk (HTd.out _ _ R3).2
        by_cases h32 : acc.length = 32
        · have y32 : ((acc.length : Int) == 32) = true := by rw [beq_iff_eq]; omega
          clear h32 hx rj r2 R3 oj
          go_wp2_with fail
          go_ret3
          exact pa_err (l := s.data.toList) _ (by rw [HF.out, par_no HKL.out HX.out]) HB.out
        · have y32 : ((acc.length : Int) == 32) = false := by rw [beq_eq_false_iff_ne]; omega
          clear h32 hx rj r2 R3 oj
          go_wp2_with fail
          go_ret3
          exact pa_err (l := s.data.toList) _ (by rw [HF.out, par_no HKL.out HX.out]) HB.out
    · have y1 : ¬ (kk : Int) < s.size := by omega
      have HB := hmk (HTd.out _ _ rj).2
      have HE : Hid (parF s.data.toList 33 0 [] = (acc, -1, 0)) := by show _ = _; rw [HF.out, par_end (by rw [HLL.out]; exact hks)]
      have hz1 := hbsz
      clear oj rj
      go_wp2_with fail
      go_ret3
      exact (by rw [HE.out]; exact ⟨sa, sc, sb, so, rfl, HD.out, liesP_keep (fun _ _ => rfl) (fun b hb => ⟨Nat.le_trans (Nat.le_of_lt hz1) hb.1, hb.2⟩) HLS.out, HB.out⟩)
end Go.Proofs.YtihcggepeadklaaGreatDoor
