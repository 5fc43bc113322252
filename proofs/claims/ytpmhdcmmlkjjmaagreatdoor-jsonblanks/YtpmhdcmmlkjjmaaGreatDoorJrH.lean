import Derived.Test.YtpmhdcmmlkjjmaaGreatDoorG25
/- the reader's list. -/
set_option linter.unusedSimpArgs false
set_option linter.unusedVariables false
set_option maxRecDepth 100000
namespace Go.Proofs.YtpmhdcmmlkjjmaaGreatDoor
open Go.RowKit Go.Lib
def New (w w' : World) (x : Nat) : Prop := w.heap.size ≤ x ∧ x < w'.heap.size
theorem headed_nil : Headed none 0 0 0 0 := ⟨Nat.le_refl _, Nat.zero_le _, .inl rfl, fun _ => rfl⟩
/-- a row of one's own, as a list -/
theorem own_listL0 {w : World} {N : Nat} {S T : Nat → Prop} {v : Value} {l : List V} (h : OwnL false w N S v (l.map some)) (hT : ∀ b, S b → T b) (hv : ∀ g, v.ownBlock = some g → T g) : ∃ a c b o, v = .slice a l.length c ∧ Headed a l.length c b o ∧ liesL false w T l b o := by
  have h' := h
  obtain ⟨⟨xs, h1, h2⟩, h3⟩ := h'
  rcases h1.2 with ⟨rfl, e⟩ | ⟨g, cap, cur, rfl, _⟩
  · have e0 : l.length = 0 := by simpa using e
    have : l = [] := List.length_eq_zero_iff.1 e0
    subst this
    exact ⟨none, 0, 0, 0, rfl, headed_nil, by rw [liesL]; trivial⟩
  · have hle := h.le
    simp only [List.length_map] at hle ⊢
    refine ⟨_, cap, g, 0, rfl, ⟨hle.1, hle.2, .inr rfl, fun h => by cases h⟩, liesL_mk fun j hj => ⟨hv g rfl, ?_⟩⟩
    obtain ⟨cs, k1, k2⟩ := h.at (by simp) j (by simpa using hj)
    rw [List.getElem_map] at k2
    exact ⟨cs, k1, V.lies_keep (fun h => h) (fun _ _ => rfl) hT _ k2⟩
/-- what value does -/
def ViP (R : Except Flt (V × Nat × Nat)) (g : Nat) (s : ByteArray) (D : Nat) (w : World) (e : Ending) (w' : World) : Prop :=
  match R with
  | .ok x => (∃ cs, e = .returned (.agg cs.toArray) ∧ x.1.lies false w' (New w w') cs ∧ JR g s x.2.1 D x.2.2 w') ∧ w.grownBy w' (some g)
  | .error f => e = flt f ∧ w.grownBy w' (some g)
def ValC (g : Nat) (s : ByteArray) (D f : Nat) : Prop := ∀ (W : World) (o k n : Nat), JR g s k D n W → Td W → k ≤ s.size → 2 * (s.size - k) + 1 ≤ f → n ≤ 65536 → o ≤ D + 1 →
  Calls Tryz.prog 63 #[.pointer (some ⟨g, 0, none⟩), .int .i64 (o : Int)] W (ViP (valJ s.data.toList D f o k n) g s D W)
/-- what list does -/
def LiP (R : Except Flt (List V × Nat × Nat)) (g : Nat) (s : ByteArray) (D : Nat) (w : World) (e : Ending) (w' : World) : Prop :=
  match R with
  | .ok x => (∃ a c b o, e = .returned (.slice a x.1.length c) ∧ Headed a x.1.length c b o ∧ liesL false w' (New w w') x.1 b o ∧ JR g s x.2.1 D x.2.2 w') ∧ w.grownBy w' (some g)
  | .error f => e = flt f ∧ w.grownBy w' (some g)
theorem JR.own {g : Nat} {s : ByteArray} {k D n : Nat} {W W' : World} {row : Option Nat} (h : JR g s k D n W) (gr : W.grownBy W' row) (hr : row ≠ some g) : JR g s k D n W' :=
  (gr.block g h.lt (fun e => hr e.symm)).trans h
theorem grown_own {g : Nat} {w W W' : World} {row : Option Nat} (h : w.grownBy W (some g)) (gr : W.grownBy W' row) (hr : ∀ r, row = some r → w.heap.size ≤ r) : w.grownBy W' (some g) :=
  ⟨gr.os.trans h.os, gr.tape.trans h.tape, gr.output.trans h.output, Nat.le_trans h.size gr.size, fun i hi hne => (gr.block i (Nat.lt_of_lt_of_le hi h.size) (fun e => by have := hr i e.symm; omega)).trans (h.block i hi hne)⟩
set_option maxHeartbeats 16000000 in
theorem jlist_any (g : Nat) (s : ByteArray) (D F0 : Nat) (HV : ∀ f, f < F0 → ValC g s D f) (o k n : Nat) (w : World) (h : JR g s k D n w) (t : Td w) (hg : 9 < g) (hs : s.size ≤ 100000000) (hk : k < s.size) (hF : 2 * (s.size - k) ≤ F0) (hn : n ≤ 65536) (ho : o ≤ D + 1) (hD : D ≤ 1000) :
    Calls Tryz.prog 88 #[.pointer (some ⟨g, 0, none⟩), .int .i64 (o : Int)] w (LiP (lisJ s.data.toList D F0 o (begunJ s.data.toList k 93).1 (begunJ s.data.toList k 93).2 n []) g s D w) := by
  have hll : s.data.toList.length = s.size := by simp
  have HLL := hmk hll
  have hlt := h.lt
  have hbl := begunJ_le (l := s.data.toList) (c := 93) (by rw [hll]; exact hk)
  rw [hll] at hbl
  have CB := hmk (jbegun_any g s k D n 93 w h (by omega) hk)
  have CG : Hid (∀ (W : World) (k n : Nat), JR g s k D n W → k ≤ s.size → Calls Tryz.prog 114 #[.pointer (some ⟨g, 0, none⟩), .int .u8 93] W (JP (goesJ s.data.toList k 93) (fun x e w' => e = .returned (.bool x.1) ∧ JR g s x.2 D n w') g W)) := fun W k n hW hk => jgoes_any g s k D n 93 W hW (by omega) hk
  obtain ⟨i1, hi1, hy0, hy1, hy2⟩ := info_parts info25
  have hJ : Hid (Tryz.prog.info? 25 = some i1 ∧ i1.zero = some (.agg #[.int .i64 0, .bool false, .int .i64 0, .string ⟨#[]⟩, .slice none 0 0, .slice none 0 0]) ∧ i1.size = 6 ∧ i1.bytes = 88) := ⟨hi1, hy0, hy1, hy2⟩
  have HKG : Hid (∀ (W W' : World) (S : Nat → Prop) (v : Value) (l : List (Option V)), OwnL false W w.heap.size S v l → W.grownBy W' (some g) → OwnL false W' w.heap.size S v l) := fun W W' S v l o gr => o.keep (keepL false) gr (fun r e => by
    cases e
    exact ⟨fun hS => by have := (o.off g hS).1; omega, fun e => by have := (o.lt e).1; omega⟩)
  have HTd : Hid (∀ W, w.grownBy W (some g) → Td W) := fun W gr => t.grown gr hg
  have HVV := hmk HV
  clear h t hi1 hy0 hy1 hy2 HV hll
  generalize begunJ s.data.toList k 93 = Y0 at *
  obtain ⟨m0, k0⟩ := Y0
  dsimp only at *
  go_enter Tryz.func88, Tryz.ntmps88
  go_wp2_with fail
  refine CB.out.mono ?_
  rintro e w0 ⟨rfl, R0, g0⟩
  clear CB
  go_wp2_with fail
  go_loopg [5, 6] F0 (fun F e5 e6 wr => ∃ (acc : List V) (more : Bool) (kk nn : Nat) (S : Nat → Prop), e6 = .bool more ∧ kk ≤ s.size ∧ nn ≤ 65536 ∧ acc.length ≤ kk ∧ 2 * (s.size - kk) + 2 ≤ F ∧ F ≤ F0 ∧ JR g s kk D nn wr ∧ w.grownBy wr (some g) ∧ OwnL false wr w.heap.size S e5 (acc.map some) ∧ Hid (lisJ s.data.toList D F0 o m0 k0 n [] = lisJ s.data.toList D F o more kk nn acc))
  case atStart => exact ⟨[], m0, k0, n, _, rfl, by omega, hn, Nat.zero_le _, by omega, Nat.le_refl _, R0, g0, OwnR.nil _ _, hmk rfl⟩
  case round =>
    clear R0 g0
    obtain ⟨acc, more, kk, nn, S, rfl, hkk, hnn, hac, hF1, hF2, Rj, gj, oj, HF⟩ := hrel
    obtain ⟨f, rfl⟩ : ∃ f, gk = f + 1 := ⟨gk - 1, by omega⟩
    cases more with
    | false =>
      rw [lisJ_end] at HF
      obtain ⟨sa, sc, sb, so, hu, hd, hls⟩ := own_listL0 (T := New w wr) oj (fun b hb => ⟨(oj.off b hb).1, (oj.off b hb).2.1⟩) (fun g hg => oj.lt hg)
      have HU := hmk hu
      have HD := hmk hd
      have HL := hmk hls
      clear hu hd hls oj CG HKG HTd HVV
      go_wp2_with fail
      go_ret
      rw [HF.out]
      exact ⟨⟨sa, sc, sb, so, by rw [HU.out]; rfl, HD.out, HL.out, Rj⟩, gj⟩
    | true =>
      have CV := hmk ((HVV.out f (by omega)) wr o kk nn Rj (HTd.out _ gj) hkk (by omega) hnn ho)
      cases hv : valJ s.data.toList D f o kk nn with
      | error fl =>
        have HE : Hid (lisJ s.data.toList D F0 o m0 k0 n [] = .error fl) := by show _ = _; rw [HF.out, lisJ_val hv]
        rw [hv] at CV
        clear hv HF oj CG HKG HTd HVV Rj
        go_wp2_with fail
        refine CV.out.mono ?_
        rintro e w1 ⟨he, g1⟩
        unfold flt at he
        subst he
        clear CV
        go_wp2_with fail
        refine ⟨rfl, ?_⟩
        rw [HE.out]
        exact ⟨rfl, grown_trans gj g1⟩
      | ok x =>
        obtain ⟨v, k1, n1⟩ := x
        have hle := (allJ_le s.data.toList D f).1 _ _ _ _ hnn hv
        dsimp only at hle
        rw [HLL.out] at hle
        have HG : Hid (∀ fl, goesJ s.data.toList k1 93 = .error fl → lisJ s.data.toList D F0 o m0 k0 n [] = .error fl) := fun fl hg => by rw [HF.out, lisJ_goes hv hg]
        have HO : Hid (∀ y, goesJ s.data.toList k1 93 = .ok y → lisJ s.data.toList D F0 o m0 k0 n [] = lisJ s.data.toList D f o y.1 y.2 n1 (acc ++ [v])) := fun y hg => by rw [HF.out, lisJ_on hv hg]
        rw [hv] at CV
        clear hv HF
        go_wp2_with fail
        refine CV.out.mono ?_
        rintro e w1 ⟨⟨cs, rfl, hl, R1⟩, g1⟩
        dsimp only at hl R1
        clear CV
        have HLV := hmk hl
        obtain ⟨vk, vb, vi, vs, vl, vm⟩ := v
        rw [V.lies] at hl
        obtain ⟨al, cl, bl, ol, am, cm, bm, om, rfl, _⟩ := hl
        have o1 := HKG.out _ _ _ _ _ oj g1
        have o2 := o1.alloc (keepL false) (.cells #[.int .i64 vk, .bool vb, .int .i64 vi, .string vs, .slice al vl.length cl, .slice am vm.length cm] 25)
        have G1 := grown_trans gj g1
        have hsj := gj.size
        have hs1 := g1.size
        have za := alloc_size w1 (.cells #[.int .i64 vk, .bool vb, .int .i64 vi, .string vs, .slice al vl.length cl, .slice am vm.length cm] 25)
        have bA : Below w1.heap.size w1 (w1.alloc (.cells #[.int .i64 vk, .bool vb, .int .i64 vi, .string vs, .slice al vl.length cl, .slice am vm.length cm] 25)) := (Below.refl _ _).alloc (Nat.le_refl _) _
        have HEL : Hid (EL false (some (V.mk vk vb vi vs vl vm)) (w1.alloc (.cells #[.int .i64 vk, .bool vb, .int .i64 vi, .string vs, .slice al vl.length cl, .slice am vm.length cm] 25)) (New wr w1) [.int .i64 vk, .bool vb, .int .i64 vi, .string vs, .slice al vl.length cl, .slice am vm.length cm]) :=
          V.lies_keep (fun h => h) (fun b hb => bA.block b hb.2) (fun _ h => h) _ HLV.out
        have hSx : ∀ b, New wr w1 b → w.heap.size ≤ b ∧ b < (w1.alloc (.cells #[.int .i64 vk, .bool vb, .int .i64 vi, .string vs, .slice al vl.length cl, .slice am vm.length cm] 25)).heap.size ∧ some b ≠ u5.ownBlock := fun b hb => ⟨Nat.le_trans hsj hb.1, by rw [za]; have := hb.2; omega, fun e => by have := (oj.lt e.symm).2; have := hb.1; omega⟩
        have hb2 : w.heap.size ≤ (w1.alloc (.cells #[.int .i64 vk, .bool vb, .int .i64 vi, .string vs, .slice al vl.length cl, .slice am vm.length cm] 25)).heap.size := by rw [za]; omega
        have hrow : ∀ r, u5.ownBlock = some r → w.heap.size ≤ r := fun r e => (oj.lt e).1
        have R2 := R1.keep bA
        have G2' := grown_trans G1 (grown_belowS bA g)
        clear oj o1 HLV bA za
        go_wp2_with (at_builtin; go_loud (refine wpl_push (keepL false) _ rfl (.tmp 12) (.tmp 16) 22 rfl w.heap.size i1 _ 88 Tryz.underlying22 hJ.out.1 hJ.out.2.1 hJ.out.2.2.1 hJ.out.2.2.2 rfl (by decide) (by decide) u5 (some (V.mk vk vb vi vs vl vm)) rfl o2 w1.heap.size 1 (0, 0) rfl (heap_alloc_new w1 _) rfl one6 HEL.out hSx (by rw [List.length_map]; omega) hb2 ?_))
        intro g' cap w5 o5 g5 e5
        have R5 := R2.own g5 (fun e => by have := hrow g e; omega)
        have G5 := grown_own G2' g5 hrow
        have HA5 : Hid (acc.map some ++ [some (V.mk vk vb vi vs vl vm)] = (acc ++ [V.mk vk vb vi vs vl vm]).map some) := by show _ = _; rw [List.map_append]; rfl
        rw [HA5.out] at o5
        have CGG := hmk (CG.out w5 k1 n1 R5 hle.2.1)
        clear o2 R2 G2' g5 e5 hb2 hrow hSx HEL G1 R1 g1 Rj gj
        cases hgo : goesJ s.data.toList k1 93 with
        | error fl =>
          have HE := hmk (HG.out fl hgo)
          rw [hgo] at CGG
          clear HG HO hgo o5 R5
          go_wp2_with fail
          refine CGG.out.mono ?_
          rintro e w6 ⟨he, g6⟩
          unfold flt at he
          subst he
          clear CGG
          go_wp2_with fail
          refine ⟨rfl, ?_⟩
          rw [HE.out]
          exact ⟨rfl, grown_trans G5 g6⟩
        | ok y =>
          obtain ⟨m2, k2⟩ := y
          have HN := hmk (HO.out _ hgo)
          have hgl := goesJ_le (by rw [HLL.out]; exact hle.2.1) hgo
          dsimp only at hgl
          rw [HLL.out] at hgl
          rw [hgo] at CGG
          clear HG HO hgo
          go_wp2_with fail
          refine CGG.out.mono ?_
          rintro e w6 ⟨⟨rfl, R6⟩, g6⟩
          clear CGG
          have o6 := HKG.out _ _ _ _ _ o5 g6
          go_wp2_with fail
          go_roundg f
          case measure => omega
          case rel => exact ⟨acc ++ [V.mk vk vb vi vs vl vm], m2, k2, n1, _, rfl, hgl.2, hle.2.2, by rw [List.length_append]; simp only [List.length_cons, List.length_nil]; omega, by omega, by omega, R6, grown_trans G5 g6, o6, HN⟩
end Go.Proofs.YtpmhdcmmlkjjmaaGreatDoor
