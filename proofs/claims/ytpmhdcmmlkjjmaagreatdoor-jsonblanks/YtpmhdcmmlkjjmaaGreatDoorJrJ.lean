import Derived.Test.YtpmhdcmmlkjjmaaGreatDoorG27
/- the reader's members: the loop. -/
set_option linter.unusedSimpArgs false
set_option linter.unusedVariables false
set_option maxRecDepth 100000
namespace Go.Proofs.YtpmhdcmmlkjjmaaGreatDoor
open Go.RowKit Go.Lib
theorem KnM.keep {w w' : World} {b g : Nat} {ks : List (List UInt8)} (h : KnM w b ks) (gr : w.grownBy w' (some g)) (hn : b ≠ g) : KnM w' b ks := World.ownsMap.kept h gr (fun e => hn (Option.some.inj e))
theorem keys_snoc (acc : List Mem) (x : Mem) : ((acc ++ [x]).map fun x => x.1.data.toList) = (acc.map fun x => x.1.data.toList) ++ [x.1.data.toList] := by simp
set_option maxHeartbeats 16000000 in
theorem jmembers_any (g : Nat) (s : ByteArray) (D F0 : Nat) (HV : ∀ f, f < F0 → ValC g s D f) (o k n : Nat) (w : World) (h : JR g s k D n w) (t : Td w) (hg : 9 < g) (hs : s.size ≤ 100000000) (hk : k < s.size) (hF : 2 * (s.size - k) ≤ F0) (hn : n ≤ 65536) (ho : o ≤ D + 1) (hD : D ≤ 1000) :
    Calls Tryz.prog 89 #[.pointer (some ⟨g, 0, none⟩), .int .i64 (o : Int)] w (MeP (memJ s.data.toList D F0 o (begunJ s.data.toList k 125).1 (begunJ s.data.toList k 125).2 n []) g s D w) := by
  have hmm := @run_makeMap Tryz.prog
  have hll : s.data.toList.length = s.size := by simp
  have HLL := hmk hll
  have hlt := h.lt
  have hbl := begunJ_le (l := s.data.toList) (c := 125) (by rw [hll]; exact hk)
  rw [hll] at hbl
  have bM : Below w.heap.size w (w.alloc (.map #[] 0)) := (Below.refl _ _).alloc (Nat.le_refl _) _
  have zM := alloc_size w (.map #[] 0)
  have CB := hmk (jbegun_any g s k D n 125 _ (h.keep bM) (by omega) hk)
  have KM0 : KnM (w.alloc (.map #[] 0)) w.heap.size [] := World.ownsMap_made _ _ _ _
  have GM : w.grownBy (w.alloc (.map #[] 0)) (some g) := grown_belowS bM g
  have CG : Hid (∀ (W : World) (k n : Nat), JR g s k D n W → k ≤ s.size → Calls Tryz.prog 114 #[.pointer (some ⟨g, 0, none⟩), .int .u8 125] W (JP (goesJ s.data.toList k 125) (fun x e w' => e = .returned (.bool x.1) ∧ JR g s x.2 D n w') g W)) := fun W k n hW hk => jgoes_any g s k D n 125 W hW (by omega) hk
  obtain ⟨i1, hi1, hy0, hy1, hy2⟩ := info_parts info44
  have hJ : Hid (Tryz.prog.info? 57 = some i1 ∧ i1.zero = some (.agg #[.string ⟨#[]⟩, .int .i64 0, .bool false, .int .i64 0, .string ⟨#[]⟩, .slice none 0 0, .slice none 0 0]) ∧ i1.size = 7 ∧ i1.bytes = 104) := ⟨hi1, hy0, hy1, hy2⟩
  have HKG : Hid (∀ (W W' : World) (S : Nat → Prop) (v : Value) (l : List (Option Mem)), OwnM false W (w.heap.size + 1) S v l → W.grownBy W' (some g) → OwnM false W' (w.heap.size + 1) S v l) := fun W W' S v l o gr => o.keepB (keepM false) (fun b hb hb2 => gr.block b hb2 (fun e => by cases e; omega)) gr.size
  have HK2 : Hid (∀ (W W' : World) (S : Nat → Prop) (v : Value) (l : List (Option Mem)), OwnM false W (w.heap.size + 1) S v l → G2 g w.heap.size W W' → OwnM false W' (w.heap.size + 1) S v l) := fun W W' S v l o gr => o.keepB (keepM false) (fun b hb hb2 => gr.block b hb2 (by omega) (by omega)) gr.size
  have HTd : Hid (∀ W, w.grownBy W (some g) → Td W) := fun W gr => t.grown gr hg
  have HVV := hmk HV
  clear h t hi1 hy0 hy1 hy2 HV hll
  generalize begunJ s.data.toList k 125 = Y0 at *
  obtain ⟨m0, k0⟩ := Y0
  dsimp only at *
  go_enter Tryz.func89, Tryz.ntmps89
  go_wp2_with fail
  refine CB.out.mono ?_
  rintro e w0 ⟨rfl, R0, g0⟩
  have K0 := KM0.keep g0 (by omega)
  have G0 := grown_trans GM g0
  have s0 := g0.size
  clear CB KM0 GM bM
  go_wp2_with fail
  go_loopg [5, 7] F0 (fun F e5 e7 wr => ∃ (acc : List Mem) (more : Bool) (kk nn : Nat) (S : Nat → Prop), e7 = .bool more ∧ kk ≤ s.size ∧ nn ≤ 65536 ∧ acc.length ≤ kk ∧ 2 * (s.size - kk) + 2 ≤ F ∧ F ≤ F0 ∧ JR g s kk D nn wr ∧ w.grownBy wr (some g) ∧ w.heap.size + 1 ≤ wr.heap.size ∧ OwnM false wr (w.heap.size + 1) S e5 (acc.map some) ∧ KnM wr w.heap.size (acc.map fun x => x.1.data.toList) ∧ Hid ((acc.map fun x => x.1.data.toList).Nodup) ∧ Hid (memJ s.data.toList D F0 o m0 k0 n [] = memJ s.data.toList D F o more kk nn acc))
  case atStart => exact ⟨[], m0, k0, n, _, rfl, by omega, hn, Nat.zero_le _, by omega, Nat.le_refl _, R0, G0, by omega, OwnR.nil _ _, K0, List.nodup_nil, hmk rfl⟩
  case round =>
    clear R0 G0 g0 K0 s0
    obtain ⟨acc, more, kk, nn, S, rfl, hkk, hnn, hac, hF1, hF2, Rj, gj, hsz, oj, kj, HD, HF⟩ := hrel
    obtain ⟨f, rfl⟩ : ∃ f, gk = f + 1 := ⟨gk - 1, by omega⟩
    cases more with
    | false =>
      rw [memJ_end] at HF
      have CS := hmk (sort_call w wr g oj (by omega) gj hlt HD.out (by omega))
      clear oj CG HKG HK2 HTd HVV kj
      go_wp2_with fail
      refine CS.out.mono ?_
      rintro e w1 ⟨rfl, ⟨sa, sc, sb, so, hu, hd, hls⟩, g1, hblk⟩
      clear CS
      have R1 : JR g s kk D nn w1 := (hblk g Rj.lt (by omega)).trans Rj
      have HU := hmk hu
      have HH := hmk hd
      have HL := hmk hls
      clear hu hd hls
      go_wp2_with fail
      go_ret
      rw [HF.out]
      exact ⟨⟨sa, sc, sb, so, by rw [HU.out]; rfl, HH.out, HL.out, R1⟩, g1⟩
    | true =>
      have CK := hmk (jkey_any g w.heap.size s kk D nn _ wr Rj kj (HTd.out _ gj) hg (by omega) hs hkk (by rw [List.length_map]; omega))
      cases hq : keyJ s.data.toList kk (acc.map fun x => x.1.data.toList) with
      | error fl =>
        have HE : Hid (memJ s.data.toList D F0 o m0 k0 n [] = .error fl) := by show _ = _; rw [HF.out, memJ_key hq]
        rw [hq] at CK
        clear hq HF oj CG HKG HK2 HTd HVV Rj kj
        go_wp2_with fail
        refine CK.out.mono ?_
        rintro e w1 ⟨he, g1⟩
        unfold flt at he
        subst he
        clear CK
        go_wp2_with fail
        refine ⟨rfl, ?_⟩
        rw [HE.out]
        exact ⟨rfl, G2.grown gj (Nat.le_refl _) g1⟩
      | ok q =>
        obtain ⟨kx, kq⟩ := q
        have hki := keyJ_in hq
        dsimp only at hki
        rw [HLL.out] at hki
        have HND : Hid (((acc.map fun x => x.1.data.toList) ++ [kx.data.toList]).Nodup) := by
          show List.Nodup _
          rw [List.nodup_append]
          exact ⟨HD.out, by simp, fun a ha b hb e => by
            have : b = kx.data.toList := by simpa using hb
            subst this
            subst e
            exact hki.2.2.2 ha⟩
        have hkz : kx.size ≤ maxLen := Nat.le_trans hki.2.2.1 (by unfold maxLen; omega)
        rw [hq] at CK
        have HQ := hmk hq
        clear hq
        go_wp2_with fail
        refine CK.out.mono ?_
        rintro e wk ⟨⟨rfl, Rk, kk'⟩, gk1⟩
        dsimp only at Rk kk'
        clear CK kj Rj
        have ok := HK2.out _ _ _ _ _ oj gk1
        have Gk := G2.grown gj (Nat.le_refl _) gk1
        have skk := gk1.size
        clear oj gj
        have CV := hmk ((HVV.out f (by omega)) wk o kq nn Rk (HTd.out _ Gk) hki.2.1 (by omega) hnn ho)
        cases hv : valJ s.data.toList D f o kq nn with
        | error fl =>
          have HE : Hid (memJ s.data.toList D F0 o m0 k0 n [] = .error fl) := by show _ = _; rw [HF.out, memJ_val HQ.out hv]
          rw [hv] at CV
          clear hv HF ok CG HKG HK2 HTd HVV Rk kk'
          go_wp2_with fail
          refine CV.out.mono ?_
          rintro e w1 ⟨he, g1⟩
          unfold flt at he
          subst he
          clear CV
          go_wp2_with fail
          refine ⟨rfl, ?_⟩
          rw [HE.out]
          exact ⟨rfl, grown_trans Gk g1⟩
        | ok x =>
          obtain ⟨v, k1, n1⟩ := x
          have hle := (allJ_le s.data.toList D f).1 _ _ _ _ hnn hv
          dsimp only at hle
          rw [HLL.out] at hle
          have HG : Hid (∀ fl, goesJ s.data.toList k1 125 = .error fl → memJ s.data.toList D F0 o m0 k0 n [] = .error fl) := fun fl hg => by rw [HF.out, memJ_goes HQ.out hv hg]
          have HO : Hid (∀ y, goesJ s.data.toList k1 125 = .ok y → memJ s.data.toList D F0 o m0 k0 n [] = memJ s.data.toList D f o y.1 y.2 n1 (acc ++ [(kx, v)])) := fun y hg => by rw [HF.out, memJ_on HQ.out hv hg]
          rw [hv] at CV
          clear hv HF HQ
          go_wp2_with fail
          refine CV.out.mono ?_
          rintro e w1 ⟨⟨cs, rfl, hl, R1⟩, g1⟩
          dsimp only at hl R1
          clear CV
          have HLV := hmk hl
          obtain ⟨vk, vb, vi, vs, vl, vm⟩ := v
          rw [V.lies] at hl
          obtain ⟨al, cl, bl, ol, am, cm, bm, om, rfl, _⟩ := hl
          have o1 := HKG.out _ _ _ _ _ ok g1
          have o2 := o1.alloc (keepM false) (.cells #[.string kx, .int .i64 vk, .bool vb, .int .i64 vi, .string vs, .slice al vl.length cl, .slice am vm.length cm] 57)
          have G1 := grown_trans Gk g1
          have hsj := Gk.size
          have hs1 := g1.size
          have za := alloc_size w1 (.cells #[.string kx, .int .i64 vk, .bool vb, .int .i64 vi, .string vs, .slice al vl.length cl, .slice am vm.length cm] 57)
          have bA : Below w1.heap.size w1 (w1.alloc (.cells #[.string kx, .int .i64 vk, .bool vb, .int .i64 vi, .string vs, .slice al vl.length cl, .slice am vm.length cm] 57)) := (Below.refl _ _).alloc (Nat.le_refl _) _
          have HEM : Hid (EM false (some (kx, V.mk vk vb vi vs vl vm)) (w1.alloc (.cells #[.string kx, .int .i64 vk, .bool vb, .int .i64 vi, .string vs, .slice al vl.length cl, .slice am vm.length cm] 57)) (New wk w1) [.string kx, .int .i64 vk, .bool vb, .int .i64 vi, .string vs, .slice al vl.length cl, .slice am vm.length cm]) :=
            ⟨_, rfl, hkz, V.lies_keep (fun h => h) (fun b hb => bA.block b hb.2) (fun _ h => h) _ HLV.out⟩
          have hSx : ∀ b, New wk w1 b → w.heap.size + 1 ≤ b ∧ b < (w1.alloc (.cells #[.string kx, .int .i64 vk, .bool vb, .int .i64 vi, .string vs, .slice al vl.length cl, .slice am vm.length cm] 57)).heap.size ∧ some b ≠ u5.ownBlock := fun b hb => ⟨by have := hb.1; omega, by rw [za]; have := hb.2; omega, fun e => by have := (ok.lt e.symm).2; have := hb.1; omega⟩
          have hb2 : w.heap.size + 1 ≤ (w1.alloc (.cells #[.string kx, .int .i64 vk, .bool vb, .int .i64 vi, .string vs, .slice al vl.length cl, .slice am vm.length cm] 57)).heap.size := by rw [za]; omega
          have hrow : ∀ r, u5.ownBlock = some r → w.heap.size + 1 ≤ r := fun r e => (ok.lt e).1
          have R2 := R1.keep bA
          have K2 : KnM (w1.alloc (.cells #[.string kx, .int .i64 vk, .bool vb, .int .i64 vi, .string vs, .slice al vl.length cl, .slice am vm.length cm] 57)) w.heap.size ((acc.map fun x => x.1.data.toList) ++ [kx.data.toList]) := (kk'.keep g1 (by omega)).alloc _
          have G2' := grown_trans G1 (grown_belowS bA g)
          clear ok o1 HLV bA za kk'
          go_wp2_with (at_builtin; go_loud (refine wpl_push (keepM false) _ rfl (.tmp 18) (.tmp 24) 23 rfl (w.heap.size + 1) i1 _ 104 Tryz.underlying23 hJ.out.1 hJ.out.2.1 hJ.out.2.2.1 hJ.out.2.2.2 rfl (by decide) (by decide) u5 (some (kx, V.mk vk vb vi vs vl vm)) rfl o2 w1.heap.size 1 (0, 0) rfl (heap_alloc_new w1 _) rfl one7 HEM.out hSx (by rw [List.length_map]; omega) hb2 ?_))
          intro g' cap w5 o5 g5 e5
          have R5 := R2.own g5 (fun e => by have := hrow g e; omega)
          have K5 : KnM w5 w.heap.size ((acc.map fun x => x.1.data.toList) ++ [kx.data.toList]) := World.ownsMap.kept K2 g5 (fun e => by have := hrow _ e.symm; omega)
          have G5 := grown_own G2' g5 (fun r e => by have := hrow r e; omega)
          have s5 := g5.size
          have HA5 : Hid (acc.map some ++ [some (kx, V.mk vk vb vi vs vl vm)] = (acc ++ [(kx, V.mk vk vb vi vs vl vm)]).map some) := by show _ = _; rw [List.map_append]; rfl
          rw [HA5.out] at o5
          have CGG := hmk (CG.out w5 k1 n1 R5 hle.2.1)
          clear o2 R2 G2' g5 e5 hrow hSx HEM G1 R1 g1 Rk Gk K2
          cases hgo : goesJ s.data.toList k1 125 with
          | error fl =>
            have HE := hmk (HG.out fl hgo)
            rw [hgo] at CGG
            clear HG HO hgo o5 R5 K5
            go_wp2_with fail
            refine CGG.out.mono ?_
            rintro e w6 ⟨he, g6⟩
            unfold flt at he
            subst he
            clear CGG
            go_wp2_with fail
            refine ⟨rfl, ?_⟩
            rw [HE.out]
            exact ⟨rfl, grown_trans G5 g6⟩
          | ok y =>
            obtain ⟨m2, k2⟩ := y
            have HN := hmk (HO.out _ hgo)
            have hgl := goesJ_le (by rw [HLL.out]; exact hle.2.1) hgo
            dsimp only at hgl
            rw [HLL.out] at hgl
            rw [hgo] at CGG
            clear HG HO hgo
            go_wp2_with fail
            refine CGG.out.mono ?_
            rintro e w6 ⟨⟨rfl, R6⟩, g6⟩
            clear CGG
            have o6 := HKG.out _ _ _ _ _ o5 g6
            have K6 := K5.keep g6 (by omega)
            have s6 := g6.size
            go_wp2_with fail
            go_roundg f
            case measure => omega
            case rel => exact ⟨acc ++ [(kx, V.mk vk vb vi vs vl vm)], m2, k2, n1, _, rfl, hgl.2, hle.2.2, by rw [List.length_append]; simp only [List.length_cons, List.length_nil]; omega, by omega, by omega, R6, grown_trans G5 g6, by omega, o6, by rw [keys_snoc]; exact K6, by rw [keys_snoc]; exact HND, HN⟩
end Go.Proofs.YtpmhdcmmlkjjmaaGreatDoor
