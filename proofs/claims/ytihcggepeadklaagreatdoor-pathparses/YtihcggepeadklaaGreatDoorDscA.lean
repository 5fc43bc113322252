import Derived.Test.YtihcggepeadklaaGreatDoorDcmH
import Derived.Test.YtihcggepeadklaaGreatDoorG42
import Derived.Lib.ConvBytes
import Derived.Lib.LazyBuf
/- The document's scalar. -/
set_option linter.unusedSimpArgs false
set_option linter.unusedVariables false
namespace Go.Proofs.YtihcggepeadklaaGreatDoor
open Go.RowKit Go.Lib
theorem sn_map (X : ByteArray) : strOfNums (X.data.toList.map fun b => (b.toNat : Int)) = X := by
  apply ByteArray.ext
  apply Array.ext'
  rw [strOfNums_data, List.map_map]
  have : ((fun n : Int => UInt8.ofNat n.toNat) ∘ fun b : UInt8 => (b.toNat : Int)) = id := by
    funext b; simp
  rw [this, List.map_id]
theorem tw_mem {P : UInt8 → Bool} : ∀ {l : List UInt8} {x : UInt8}, x ∈ l.takeWhile P → P x = true
  | [], x, h => by simp at h
  | c :: t, x, h => by
    rw [List.takeWhile_cons] at h
    split at h
    · rename_i hc
      rcases List.mem_cons.1 h with rfl | h
      · exact hc
      · exact tw_mem h
    · simp at h
theorem cv_back (W : World) (X : ByteArray) (W' : World) (hb : Below (bytesWorld W 5 X).heap.size (bytesWorld W 5 X) W') (cap : Nat) : (convert 52 9 (.slice (some ⟨W.heap.size, 0, none⟩) X.size cap)).run Tryz.prog W' = .ok (.string X) W' := by
  have h := run_convert_bytes_arg (P := Tryz.prog) W' 52 5 Tryz.underlying52 Tryz.underlying5 W.heap.size 0 X.size cap (X.data.toList.map fun b => (b.toNat : Int)) (by simp) (fun i hi => by
    rw [Nat.zero_add, hb.cell (p := ⟨W.heap.size, i, none⟩) (by rw [bytesWorld_size]; simp), bytesWorld_cell W 5 X i hi]
    have hi2 : i < X.data.size := by simpa using hi
    have e1 : X.data[i]? = some (X.data[i]) := Array.getElem?_eq_getElem hi2
    simp [List.getD, e1]) 9 Tryz.underlying9
  rw [h, sn_map]
def dscaF (l : List UInt8) (k : Nat) : Option (V × Nat) :=
  if (l.drop k).head? = some 34 then (quoF l k).map (fun x => (.mk 3 false 0 x.1 [] [], x.2))
  else (parP ((l.drop k).takeWhile (fun x => wrdB x.toNat))).map (fun v => (v, k + ((l.drop k).takeWhile (fun x => wrdB x.toNat)).length))
def DsP (R : Option (V × Nat)) (w : World) (e : Ending) (w' : World) : Prop :=
  Below w.heap.size w w' ∧ ((∃ (vk : Int) (vb : Bool) (vi : Int) (vs : ByteArray) (k1 : Nat), R = some (.mk vk vb vi vs [] [], k1) ∧ e = .returned (.tuple #[.agg #[.int .i64 vk, .bool vb, .int .i64 vi, .string vs, .slice none 0 0, .slice none 0 0], .int .i64 (k1 : Int)])) ∨
    (R = none ∧ e = .returned (.tuple #[.agg #[.int .i64 0, .bool false, .int .i64 0, .string ⟨#[]⟩, .slice none 0 0, .slice none 0 0], .int .i64 (-1)])))
theorem wrdB_split {c : Int} (h : wrdB c = false) : latR c = false ∧ c ≠ 43 ∧ c ≠ 46 := by
  unfold wrdB at h
  simp only [Bool.or_eq_false_iff, decide_eq_false_iff_not] at h
  exact ⟨h.1, h.2.1, h.2.2⟩
set_option maxHeartbeats 3000000 in
set_option maxRecDepth 100000 in
theorem dsca_any (s : ByteArray) (k : Nat) (w : World) (hs : s.size ≤ 1048576) (hk : k ≤ s.size) :
    Calls Tryz.prog 55 #[.string s, .int .i64 (k : Int)] w (DsP (dscaF s.data.toList k) w) := by
  have hk0 : (0 : Int) ≤ k := by omega
  have hls : s.data.toList.length = s.size := by simp
  have HLS := hmk hls
  have bA : Below w.heap.size w (w.alloc z46) := (Below.refl _ _).alloc (Nat.le_refl _) _
  have nA := heap_alloc_new w z46
  have hzA := alloc_size w z46
  have KA : Hid (∀ W, Below (w.alloc z46).heap.size (w.alloc z46) W → W.heap[w.heap.size]? = some z46 ∧ Below w.heap.size w W) := fun W hW => ⟨(hW.block _ (by omega)).trans nA, bA.trans (hW.mono bA.size)⟩
  clear hls
  by_cases hq : ∃ h : k < s.size, (s[k]'h).toNat = 34
  · obtain ⟨hlt, h34⟩ := hq
    have y1 : (k : Int) < s.size := by omega
    have y34 : (((s[k]'hlt).toNat : Int) == 34) = true := by rw [beq_iff_eq]; omega
    have hc34 : s[k]'hlt = 34 := UInt8.toNat_inj.1 h34
    have HD : Hid (dscaF s.data.toList k = (quoF s.data.toList k).map (fun x => (.mk 3 false 0 x.1 [] [], x.2))) := by
      show _ = _
      rw [dscaF, drop_consN s k hlt, hc34, if_pos (by rfl)]
    obtain ⟨r, pl, er, hR⟩ : ∃ r pl er, Q.unqAll s.data.toList (k : Int) = (r, pl, er) := ⟨_, _, _, rfl⟩
    have CU := hmk (rquo_any s k (w.alloc z46) (by omega) hlt h34 r pl er hR)
    have HR := hmk hR
    clear hR h34 hc34 bA nA hzA
    by_cases h0 : er = 0
    · have y0 : ((er : Int) != 0) = false := by rw [bne_eq_false_iff_eq]; omega
      have HQ := hmk (quoF_yes HR.out h0)
      clear h0
      go_enter Tryz.func55, Tryz.ntmps55
      go_wp2_with fail
      refine CU.out.mono ?_
      rintro e w1 ⟨rfl, b1⟩
      obtain ⟨NW, BW⟩ := KA.out w1 b1
      clear CU b1 KA
      generalize hX : (⟨r.toArray⟩ : ByteArray) = X at *
      have q0 : w1.cell? ⟨w.heap.size, 0, none⟩ = some (.int .i64 0) := cell_of_block NW 0
      have q1 : w1.cell? ⟨w.heap.size, 1, none⟩ = some (.bool false) := cell_of_block NW 1
      have q2 : w1.cell? ⟨w.heap.size, 2, none⟩ = some (.int .i64 0) := cell_of_block NW 2
      have q3 : w1.cell? ⟨w.heap.size, 3, none⟩ = some (.string ⟨#[]⟩) := cell_of_block NW 3
      have q4 : w1.cell? ⟨w.heap.size, 4, none⟩ = some (.slice none 0 0) := cell_of_block NW 4
      have q5 : w1.cell? ⟨w.heap.size, 5, none⟩ = some (.slice none 0 0) := cell_of_block NW 5
      have kf : ∀ ii, w1.frozen? ⟨w.heap.size, ii, none⟩ = false := frozen_of_block NW
      have sg := st6_grown w1 w.heap.size (.int .i64 3) (.bool false) (.int .i64 0) (.string X) (.slice none 0 0) (.slice none 0 0)
      have HBF := hmk (belowG BW sg (Nat.le_refl _))
      clear sg NW BW
      go_wp2_with fail
      (try simp only [Exit.inBlock, Exit.then])
      refine bodyPost_ret (v := .tuple #[.agg #[.int .i64 3, .bool false, .int .i64 0, .string X, .slice none 0 0, .slice none 0 0], .int .i64 pl]) ?_ rfl ⟨HBF.out, .inl ⟨_, _, _, _, pl, by rw [HD.out, HQ.out]; rfl, rfl⟩⟩
      rw [results_cell_tmp rfl]
      go_simp
    · have y0 : ((er : Int) != 0) = true := by rw [bne_iff_ne]; omega
      have HQ := hmk (quoF_no HR.out h0)
      clear h0
      go_enter Tryz.func55, Tryz.ntmps55
      go_wp2_with fail
      refine CU.out.mono ?_
      rintro e w1 ⟨rfl, b1⟩
      obtain ⟨NW, BW⟩ := KA.out w1 b1
      clear CU b1 KA
      have q0 : w1.cell? ⟨w.heap.size, 0, none⟩ = some (.int .i64 0) := cell_of_block NW 0
      have q1 : w1.cell? ⟨w.heap.size, 1, none⟩ = some (.bool false) := cell_of_block NW 1
      have q2 : w1.cell? ⟨w.heap.size, 2, none⟩ = some (.int .i64 0) := cell_of_block NW 2
      have q3 : w1.cell? ⟨w.heap.size, 3, none⟩ = some (.string ⟨#[]⟩) := cell_of_block NW 3
      have q4 : w1.cell? ⟨w.heap.size, 4, none⟩ = some (.slice none 0 0) := cell_of_block NW 4
      have q5 : w1.cell? ⟨w.heap.size, 5, none⟩ = some (.slice none 0 0) := cell_of_block NW 5
      have kf : ∀ ii, w1.frozen? ⟨w.heap.size, ii, none⟩ = false := frozen_of_block NW
      have sg := st6_grown w1 w.heap.size (.int .i64 0) (.bool false) (.int .i64 0) (.string ⟨#[]⟩) (.slice none 0 0) (.slice none 0 0)
      have HBF := hmk (belowG BW sg (Nat.le_refl _))
      clear sg NW BW
      go_wp2_with fail
      (try simp only [Exit.inBlock, Exit.then])
      refine bodyPost_ret (v := .tuple #[.agg #[.int .i64 0, .bool false, .int .i64 0, .string ⟨#[]⟩, .slice none 0 0, .slice none 0 0], .int .i64 (-1)]) ?_ rfl ⟨HBF.out, .inr ⟨by rw [HD.out, HQ.out]; rfl, rfl⟩⟩
      rw [results_cell_tmp rfl]
      go_simp
  · have HD : Hid (dscaF s.data.toList k = (parP ((s.data.toList.drop k).takeWhile (fun x => wrdB x.toNat))).map (fun v => (v, k + ((s.data.toList.drop k).takeWhile (fun x => wrdB x.toNat)).length))) := by
      show _ = _
      rw [dscaF, if_neg]
      intro hh
      by_cases hlt : k < s.size
      · rw [drop_consN s k hlt] at hh
        exact hq ⟨hlt, by have := Option.some.inj hh; rw [this]; rfl⟩
      · rw [drop_endN s k hlt] at hh; cases hh
    have CL := fun (c : Int) W => rlat_any c W
    have HQ := hmk hq
    clear hq bA nA hzA
    have EX : Hid (∀ m, k ≤ m → m ≤ s.size → (s.data.toList.drop k).takeWhile (fun x => wrdB x.toNat) = (s.data.toList.drop k).take (m - k) → (s.extract k m).data.toList = (s.data.toList.drop k).takeWhile (fun x => wrdB x.toNat) ∧ WrdS (s.extract k m)) := fun m h1 h2 h3 => by
      have e1 : (s.extract k m).data.toList = (s.data.toList.drop k).takeWhile (fun x => wrdB x.toNat) := by rw [ext_mid s k m h1 h2, h3]
      refine ⟨e1, fun j hj => ?_⟩
      have hmem : (s.extract k m)[j] ∈ (s.extract k m).data.toList := by
        have hj' : j < (s.extract k m).data.toList.length := hj
        exact List.getElem_mem hj'
      rw [e1] at hmem
      exact tw_mem hmem
    by_cases hlt : k < s.size
    · have y1 : (k : Int) < s.size := by omega
      have y34 : (((s[k]'hlt).toNat : Int) == 34) = false := by rw [beq_eq_false_iff_ne]; exact fun h => HQ.out ⟨hlt, by omega⟩
      clear HQ
      go_enter Tryz.func55, Tryz.ntmps55
      go_wp2_with fail
      generalize w.alloc z46 = wA at *
      go_loopw [9] (fun e wr => ∃ i m : Nat, m ≤ s.size ∧ AtP m k i ∧ e = .int .i64 (m : Int) ∧ wA = wr ∧ Hid ((s.data.toList.drop k).takeWhile (fun x => wrdB x.toNat) = (s.data.toList.drop k).take i ++ ((s.data.toList.drop k).drop i).takeWhile (fun x => wrdB x.toNat))) (fun e _ => s.size - (RowKit.intOf e).toNat)
      case atStart => exact ⟨0, k, hk, (rfl : k = k + 0), rfl, rfl, by show _ = _; simp⟩
      case round =>
        obtain ⟨i, m, hm, HM, rfl, rfl, HTW⟩ := hrel
        by_cases hms : m < s.size
        · have a1 : (m : Int) < s.size := by omega
          have ed : Hid ((s.data.toList.drop k).drop i = s[m]'hms :: s.data.toList.drop (m + 1)) := by
            show _ = _
            have e : m = k + i := HM
            rw [List.drop_drop, ← e, drop_consN s m hms]
          have cl := fun W => CL ((s[m]'hms).toNat : Int) W
          cases hq : wrdB ((s[m]'hms).toNat : Int) with
          | true =>
            have HN := hmk (tw_step HTW.out ed.out hq (by rw [List.length_drop, HLS.out]; have : m = k + i := HM; omega))
            cases hl : latR ((s[m]'hms).toNat : Int) with
            | true =>
              rw [hl] at cl
              clear hl
              clear HTW ed hq CL
              go_wp2_with (go_at_call 92; refine (cl _).mono ?_; rintro e w' ⟨rfl, rfl⟩)
              go_roundw
              case rel => exact ⟨i + 1, m + 1, by omega, (by have : m = k + i := HM; show m + 1 = k + (i + 1); omega), by simp, (by first | trivial | rfl), HN⟩
              case measure => simp [RowKit.intOf]; omega
            | false =>
              rw [hl] at cl
              by_cases h43 : ((s[m]'hms).toNat : Int) = 43
              · have z43 : (((s[m]'hms).toNat : Int) == 43) = true := by rw [beq_iff_eq]; exact h43
                clear hl h43
                clear HTW ed hq CL
                go_wp2_with (go_at_call 92; refine (cl _).mono ?_; rintro e w' ⟨rfl, rfl⟩)
                go_roundw
                case rel => exact ⟨i + 1, m + 1, by omega, (by have : m = k + i := HM; show m + 1 = k + (i + 1); omega), by simp, (by first | trivial | rfl), HN⟩
                case measure => simp [RowKit.intOf]; omega
              · have z43 : (((s[m]'hms).toNat : Int) == 43) = false := by rw [beq_eq_false_iff_ne]; exact h43
                have z46' : (((s[m]'hms).toNat : Int) == 46) = true := by
                  rw [beq_iff_eq]
                  unfold wrdB at hq
                  rw [hl, decide_eq_false h43] at hq
                  simpa using hq
                clear hl h43
                clear HTW ed hq CL
                go_wp2_with (go_at_call 92; refine (cl _).mono ?_; rintro e w' ⟨rfl, rfl⟩)
                go_roundw
                case rel => exact ⟨i + 1, m + 1, by omega, (by have : m = k + i := HM; show m + 1 = k + (i + 1); omega), by simp, (by first | trivial | rfl), HN⟩
                case measure => simp [RowKit.intOf]; omega
          | false =>
            have HTK := hmk (tw_stop HTW.out ed.out hq)
            obtain ⟨hl, h43, h46⟩ := wrdB_split hq
            rw [hl] at cl
            have z43 : (((s[m]'hms).toNat : Int) == 43) = false := by rw [beq_eq_false_iff_ne]; exact h43
            have z46' : (((s[m]'hms).toNat : Int) == 46) = false := by rw [beq_eq_false_iff_ne]; exact h46
            clear HTW ed hq CL hl h43 h46
            have hkm : (k : Int) ≤ m := by have : m = k + i := HM; omega
            have hm1 : (m : Int) ≤ s.size := by omega
            obtain ⟨hx1, hx2⟩ := EX.out m (by omega) hm (by rw [HTK.out]; have : m = k + i := HM; rw [show m - k = i by omega])
            have HLN : Hid (k + ((s.data.toList.drop k).takeWhile (fun x => wrdB x.toNat)).length = m) := by
              show _ = _
              have e : m = k + i := HM
              rw [HTK.out, List.length_take, List.length_drop, HLS.out]; omega
            obtain ⟨L, hL⟩ : ∃ L : Nat, Hid ((s.extract k m).size = L) := ⟨_, rfl⟩
            have kc : (convert 9 52 (.string (s.extract k m))).run Tryz.prog wA = .ok (.slice (some ⟨wA.heap.size, 0, none⟩) L (grownCap wA L 0 5)) (bytesWorld wA 5 (s.extract k m)) := by
              rw [← hL.out]
              exact Go.Lib.run_convert_string_bytes wA 9 52 5 (s.extract k m) Tryz.underlying9 Tryz.underlying52 Tryz.underlying5
            have CP : Hid (Calls Tryz.prog 93 #[.slice (some ⟨wA.heap.size, 0, none⟩) L (grownCap wA L 0 5), .int .i64 0] (bytesWorld wA 5 (s.extract k m)) (PjP (parP ((s.data.toList.drop k).takeWhile (fun x => wrdB x.toNat))) (bytesWorld wA 5 (s.extract k m)))) := by
              have c := dparse_any (s.extract k m) (some ⟨wA.heap.size, 0, none⟩) (grownCap wA L 0 5) (bytesWorld wA 5 (s.extract k m)) hx2 (by rw [ByteArray.size_extract]; omega) (fun W hW => cv_back wA (s.extract k m) W hW _)
              rw [hx1, hL.out] at c
              exact c
            have bB := bytesWorld_below wA 5 (s.extract k m)
            have HM' := hmk HM
            clear hx1 hx2 hL HTK EX HM
            go_wp2_with (go_at_call 92; refine (cl _).mono ?_; rintro e w' ⟨rfl, rfl⟩)
            refine CP.out.mono ?_
            rintro e w1 ⟨b1, hres⟩
            have bb := bB.trans (b1.mono bB.size)
            have HRES := hmk hres
            clear CP b1 bB hres kc
            rcases HRES.out with ⟨vk, vb, vi, hp, rfl⟩ | ⟨hp, bad, er, her, rfl⟩
            · have HP := hmk hp
              have b2 := bb.alloc bb.size (.cells #[.int .i64 vk, .bool vb, .int .i64 vi, .string ⟨#[]⟩, .slice none 0 0, .slice none 0 0] 46)
              have m2 := heap_alloc_new w1 (.cells #[.int .i64 vk, .bool vb, .int .i64 vi, .string ⟨#[]⟩, .slice none 0 0, .slice none 0 0] 46)
              clear hp HRES
              obtain ⟨NW, BW⟩ := KA.out _ b2
              clear b2 bb KA
              have p0 : (w1.alloc (.cells #[.int .i64 vk, .bool vb, .int .i64 vi, .string ⟨#[]⟩, .slice none 0 0, .slice none 0 0] 46)).cell? ⟨w1.heap.size, 0, none⟩ = some (.int .i64 vk) := cell_of_block m2 0
              have p1 : (w1.alloc (.cells #[.int .i64 vk, .bool vb, .int .i64 vi, .string ⟨#[]⟩, .slice none 0 0, .slice none 0 0] 46)).cell? ⟨w1.heap.size, 1, none⟩ = some (.bool vb) := cell_of_block m2 1
              have p2 : (w1.alloc (.cells #[.int .i64 vk, .bool vb, .int .i64 vi, .string ⟨#[]⟩, .slice none 0 0, .slice none 0 0] 46)).cell? ⟨w1.heap.size, 2, none⟩ = some (.int .i64 vi) := cell_of_block m2 2
              have p3 : (w1.alloc (.cells #[.int .i64 vk, .bool vb, .int .i64 vi, .string ⟨#[]⟩, .slice none 0 0, .slice none 0 0] 46)).cell? ⟨w1.heap.size, 3, none⟩ = some (.string ⟨#[]⟩) := cell_of_block m2 3
              have p4 : (w1.alloc (.cells #[.int .i64 vk, .bool vb, .int .i64 vi, .string ⟨#[]⟩, .slice none 0 0, .slice none 0 0] 46)).cell? ⟨w1.heap.size, 4, none⟩ = some (.slice none 0 0) := cell_of_block m2 4
              have p5 : (w1.alloc (.cells #[.int .i64 vk, .bool vb, .int .i64 vi, .string ⟨#[]⟩, .slice none 0 0, .slice none 0 0] 46)).cell? ⟨w1.heap.size, 5, none⟩ = some (.slice none 0 0) := cell_of_block m2 5
              have q0 : (w1.alloc (.cells #[.int .i64 vk, .bool vb, .int .i64 vi, .string ⟨#[]⟩, .slice none 0 0, .slice none 0 0] 46)).cell? ⟨w.heap.size, 0, none⟩ = some (.int .i64 0) := cell_of_block NW 0
              have q1 : (w1.alloc (.cells #[.int .i64 vk, .bool vb, .int .i64 vi, .string ⟨#[]⟩, .slice none 0 0, .slice none 0 0] 46)).cell? ⟨w.heap.size, 1, none⟩ = some (.bool false) := cell_of_block NW 1
              have q2 : (w1.alloc (.cells #[.int .i64 vk, .bool vb, .int .i64 vi, .string ⟨#[]⟩, .slice none 0 0, .slice none 0 0] 46)).cell? ⟨w.heap.size, 2, none⟩ = some (.int .i64 0) := cell_of_block NW 2
              have q3 : (w1.alloc (.cells #[.int .i64 vk, .bool vb, .int .i64 vi, .string ⟨#[]⟩, .slice none 0 0, .slice none 0 0] 46)).cell? ⟨w.heap.size, 3, none⟩ = some (.string ⟨#[]⟩) := cell_of_block NW 3
              have q4 : (w1.alloc (.cells #[.int .i64 vk, .bool vb, .int .i64 vi, .string ⟨#[]⟩, .slice none 0 0, .slice none 0 0] 46)).cell? ⟨w.heap.size, 4, none⟩ = some (.slice none 0 0) := cell_of_block NW 4
              have q5 : (w1.alloc (.cells #[.int .i64 vk, .bool vb, .int .i64 vi, .string ⟨#[]⟩, .slice none 0 0, .slice none 0 0] 46)).cell? ⟨w.heap.size, 5, none⟩ = some (.slice none 0 0) := cell_of_block NW 5
              have kf : ∀ ii, (w1.alloc (.cells #[.int .i64 vk, .bool vb, .int .i64 vi, .string ⟨#[]⟩, .slice none 0 0, .slice none 0 0] 46)).frozen? ⟨w.heap.size, ii, none⟩ = false := frozen_of_block NW
              have sg := st6_grown (w1.alloc (.cells #[.int .i64 vk, .bool vb, .int .i64 vi, .string ⟨#[]⟩, .slice none 0 0, .slice none 0 0] 46)) w.heap.size (.int .i64 vk) (.bool vb) (.int .i64 vi) (.string ⟨#[]⟩) (.slice none 0 0) (.slice none 0 0)
              have HBF := hmk (belowG BW sg (Nat.le_refl _))
              clear sg NW BW
              go_wp2_with fail
              (try simp only [Exit.inBlock, Exit.then])
              refine bodyPost_ret (v := .tuple #[.agg #[.int .i64 vk, .bool vb, .int .i64 vi, .string ⟨#[]⟩, .slice none 0 0, .slice none 0 0], .int .i64 m]) ?_ rfl ⟨HBF.out, .inl ⟨_, _, _, _, m, by rw [HD.out, HP.out, Option.map_some, HLN.out], rfl⟩⟩
              rw [results_cell_tmp rfl]
              go_simp
            · have HP := hmk hp
              have x0 : (er != 0) = true := by rw [bne_iff_ne]; exact her
              have b2 := bb.alloc bb.size (.cells #[.int .i64 0, .bool false, .int .i64 0, .string ⟨#[]⟩, .slice none 0 0, .slice none 0 0] 46)
              clear hp HRES her
              obtain ⟨NW, BW⟩ := KA.out _ b2
              clear b2 bb KA
              have q0 : (w1.alloc (.cells #[.int .i64 0, .bool false, .int .i64 0, .string ⟨#[]⟩, .slice none 0 0, .slice none 0 0] 46)).cell? ⟨w.heap.size, 0, none⟩ = some (.int .i64 0) := cell_of_block NW 0
              have q1 : (w1.alloc (.cells #[.int .i64 0, .bool false, .int .i64 0, .string ⟨#[]⟩, .slice none 0 0, .slice none 0 0] 46)).cell? ⟨w.heap.size, 1, none⟩ = some (.bool false) := cell_of_block NW 1
              have q2 : (w1.alloc (.cells #[.int .i64 0, .bool false, .int .i64 0, .string ⟨#[]⟩, .slice none 0 0, .slice none 0 0] 46)).cell? ⟨w.heap.size, 2, none⟩ = some (.int .i64 0) := cell_of_block NW 2
              have q3 : (w1.alloc (.cells #[.int .i64 0, .bool false, .int .i64 0, .string ⟨#[]⟩, .slice none 0 0, .slice none 0 0] 46)).cell? ⟨w.heap.size, 3, none⟩ = some (.string ⟨#[]⟩) := cell_of_block NW 3
              have q4 : (w1.alloc (.cells #[.int .i64 0, .bool false, .int .i64 0, .string ⟨#[]⟩, .slice none 0 0, .slice none 0 0] 46)).cell? ⟨w.heap.size, 4, none⟩ = some (.slice none 0 0) := cell_of_block NW 4
              have q5 : (w1.alloc (.cells #[.int .i64 0, .bool false, .int .i64 0, .string ⟨#[]⟩, .slice none 0 0, .slice none 0 0] 46)).cell? ⟨w.heap.size, 5, none⟩ = some (.slice none 0 0) := cell_of_block NW 5
              have kf : ∀ ii, (w1.alloc (.cells #[.int .i64 0, .bool false, .int .i64 0, .string ⟨#[]⟩, .slice none 0 0, .slice none 0 0] 46)).frozen? ⟨w.heap.size, ii, none⟩ = false := frozen_of_block NW
              have sg := st6_grown (w1.alloc (.cells #[.int .i64 0, .bool false, .int .i64 0, .string ⟨#[]⟩, .slice none 0 0, .slice none 0 0] 46)) w.heap.size (.int .i64 0) (.bool false) (.int .i64 0) (.string ⟨#[]⟩) (.slice none 0 0) (.slice none 0 0)
              have HBF := hmk (belowG BW sg (Nat.le_refl _))
              clear sg NW BW
              go_wp2_with fail
              (try simp only [Exit.inBlock, Exit.then])
              refine bodyPost_ret (v := .tuple #[.agg #[.int .i64 0, .bool false, .int .i64 0, .string ⟨#[]⟩, .slice none 0 0, .slice none 0 0], .int .i64 (-1)]) ?_ rfl ⟨HBF.out, .inr ⟨by rw [HD.out, HP.out]; rfl, rfl⟩⟩
              rw [results_cell_tmp rfl]
              go_simp
        · have a1 : ¬ (m : Int) < s.size := by omega
          have HTK := hmk (tw_end HTW.out (by have e : m = k + i := HM; rw [List.drop_drop, ← e, drop_endN s m hms]))
          clear HTW CL
          have hkm : (k : Int) ≤ m := by have : m = k + i := HM; omega
          have hm1 : (m : Int) ≤ s.size := by omega
          obtain ⟨hx1, hx2⟩ := EX.out m (by omega) hm (by rw [HTK.out]; have : m = k + i := HM; rw [show m - k = i by omega])
          have HLN : Hid (k + ((s.data.toList.drop k).takeWhile (fun x => wrdB x.toNat)).length = m) := by
            show _ = _
            have e : m = k + i := HM
            rw [HTK.out, List.length_take, List.length_drop, HLS.out]; omega
          obtain ⟨L, hL⟩ : ∃ L : Nat, Hid ((s.extract k m).size = L) := ⟨_, rfl⟩
          have kc : (convert 9 52 (.string (s.extract k m))).run Tryz.prog wA = .ok (.slice (some ⟨wA.heap.size, 0, none⟩) L (grownCap wA L 0 5)) (bytesWorld wA 5 (s.extract k m)) := by
            rw [← hL.out]
            exact Go.Lib.run_convert_string_bytes wA 9 52 5 (s.extract k m) Tryz.underlying9 Tryz.underlying52 Tryz.underlying5
          have CP : Hid (Calls Tryz.prog 93 #[.slice (some ⟨wA.heap.size, 0, none⟩) L (grownCap wA L 0 5), .int .i64 0] (bytesWorld wA 5 (s.extract k m)) (PjP (parP ((s.data.toList.drop k).takeWhile (fun x => wrdB x.toNat))) (bytesWorld wA 5 (s.extract k m)))) := by
            have c := dparse_any (s.extract k m) (some ⟨wA.heap.size, 0, none⟩) (grownCap wA L 0 5) (bytesWorld wA 5 (s.extract k m)) hx2 (by rw [ByteArray.size_extract]; omega) (fun W hW => cv_back wA (s.extract k m) W hW _)
            rw [hx1, hL.out] at c
            exact c
          have bB := bytesWorld_below wA 5 (s.extract k m)
          have HM' := hmk HM
          clear hx1 hx2 hL HTK EX HM
          go_wp2_with fail
          refine CP.out.mono ?_
          rintro e w1 ⟨b1, hres⟩
          have bb := bB.trans (b1.mono bB.size)
          have HRES := hmk hres
          clear CP b1 bB hres kc
          rcases HRES.out with ⟨vk, vb, vi, hp, rfl⟩ | ⟨hp, bad, er, her, rfl⟩
          · have HP := hmk hp
            have b2 := bb.alloc bb.size (.cells #[.int .i64 vk, .bool vb, .int .i64 vi, .string ⟨#[]⟩, .slice none 0 0, .slice none 0 0] 46)
            have m2 := heap_alloc_new w1 (.cells #[.int .i64 vk, .bool vb, .int .i64 vi, .string ⟨#[]⟩, .slice none 0 0, .slice none 0 0] 46)
            clear hp HRES
            obtain ⟨NW, BW⟩ := KA.out _ b2
            clear b2 bb KA
            have p0 : (w1.alloc (.cells #[.int .i64 vk, .bool vb, .int .i64 vi, .string ⟨#[]⟩, .slice none 0 0, .slice none 0 0] 46)).cell? ⟨w1.heap.size, 0, none⟩ = some (.int .i64 vk) := cell_of_block m2 0
            have p1 : (w1.alloc (.cells #[.int .i64 vk, .bool vb, .int .i64 vi, .string ⟨#[]⟩, .slice none 0 0, .slice none 0 0] 46)).cell? ⟨w1.heap.size, 1, none⟩ = some (.bool vb) := cell_of_block m2 1
            have p2 : (w1.alloc (.cells #[.int .i64 vk, .bool vb, .int .i64 vi, .string ⟨#[]⟩, .slice none 0 0, .slice none 0 0] 46)).cell? ⟨w1.heap.size, 2, none⟩ = some (.int .i64 vi) := cell_of_block m2 2
            have p3 : (w1.alloc (.cells #[.int .i64 vk, .bool vb, .int .i64 vi, .string ⟨#[]⟩, .slice none 0 0, .slice none 0 0] 46)).cell? ⟨w1.heap.size, 3, none⟩ = some (.string ⟨#[]⟩) := cell_of_block m2 3
            have p4 : (w1.alloc (.cells #[.int .i64 vk, .bool vb, .int .i64 vi, .string ⟨#[]⟩, .slice none 0 0, .slice none 0 0] 46)).cell? ⟨w1.heap.size, 4, none⟩ = some (.slice none 0 0) := cell_of_block m2 4
            have p5 : (w1.alloc (.cells #[.int .i64 vk, .bool vb, .int .i64 vi, .string ⟨#[]⟩, .slice none 0 0, .slice none 0 0] 46)).cell? ⟨w1.heap.size, 5, none⟩ = some (.slice none 0 0) := cell_of_block m2 5
            have q0 : (w1.alloc (.cells #[.int .i64 vk, .bool vb, .int .i64 vi, .string ⟨#[]⟩, .slice none 0 0, .slice none 0 0] 46)).cell? ⟨w.heap.size, 0, none⟩ = some (.int .i64 0) := cell_of_block NW 0
            have q1 : (w1.alloc (.cells #[.int .i64 vk, .bool vb, .int .i64 vi, .string ⟨#[]⟩, .slice none 0 0, .slice none 0 0] 46)).cell? ⟨w.heap.size, 1, none⟩ = some (.bool false) := cell_of_block NW 1
            have q2 : (w1.alloc (.cells #[.int .i64 vk, .bool vb, .int .i64 vi, .string ⟨#[]⟩, .slice none 0 0, .slice none 0 0] 46)).cell? ⟨w.heap.size, 2, none⟩ = some (.int .i64 0) := cell_of_block NW 2
            have q3 : (w1.alloc (.cells #[.int .i64 vk, .bool vb, .int .i64 vi, .string ⟨#[]⟩, .slice none 0 0, .slice none 0 0] 46)).cell? ⟨w.heap.size, 3, none⟩ = some (.string ⟨#[]⟩) := cell_of_block NW 3
            have q4 : (w1.alloc (.cells #[.int .i64 vk, .bool vb, .int .i64 vi, .string ⟨#[]⟩, .slice none 0 0, .slice none 0 0] 46)).cell? ⟨w.heap.size, 4, none⟩ = some (.slice none 0 0) := cell_of_block NW 4
            have q5 : (w1.alloc (.cells #[.int .i64 vk, .bool vb, .int .i64 vi, .string ⟨#[]⟩, .slice none 0 0, .slice none 0 0] 46)).cell? ⟨w.heap.size, 5, none⟩ = some (.slice none 0 0) := cell_of_block NW 5
            have kf : ∀ ii, (w1.alloc (.cells #[.int .i64 vk, .bool vb, .int .i64 vi, .string ⟨#[]⟩, .slice none 0 0, .slice none 0 0] 46)).frozen? ⟨w.heap.size, ii, none⟩ = false := frozen_of_block NW
            have sg := st6_grown (w1.alloc (.cells #[.int .i64 vk, .bool vb, .int .i64 vi, .string ⟨#[]⟩, .slice none 0 0, .slice none 0 0] 46)) w.heap.size (.int .i64 vk) (.bool vb) (.int .i64 vi) (.string ⟨#[]⟩) (.slice none 0 0) (.slice none 0 0)
            have HBF := hmk (belowG BW sg (Nat.le_refl _))
            clear sg NW BW
            go_wp2_with fail
            (try simp only [Exit.inBlock, Exit.then])
            refine bodyPost_ret (v := .tuple #[.agg #[.int .i64 vk, .bool vb, .int .i64 vi, .string ⟨#[]⟩, .slice none 0 0, .slice none 0 0], .int .i64 m]) ?_ rfl ⟨HBF.out, .inl ⟨_, _, _, _, m, by rw [HD.out, HP.out, Option.map_some, HLN.out], rfl⟩⟩
            rw [results_cell_tmp rfl]
            go_simp
          · have HP := hmk hp
            have x0 : (er != 0) = true := by rw [bne_iff_ne]; exact her
            have b2 := bb.alloc bb.size (.cells #[.int .i64 0, .bool false, .int .i64 0, .string ⟨#[]⟩, .slice none 0 0, .slice none 0 0] 46)
            clear hp HRES her
            obtain ⟨NW, BW⟩ := KA.out _ b2
            clear b2 bb KA
            have q0 : (w1.alloc (.cells #[.int .i64 0, .bool false, .int .i64 0, .string ⟨#[]⟩, .slice none 0 0, .slice none 0 0] 46)).cell? ⟨w.heap.size, 0, none⟩ = some (.int .i64 0) := cell_of_block NW 0
            have q1 : (w1.alloc (.cells #[.int .i64 0, .bool false, .int .i64 0, .string ⟨#[]⟩, .slice none 0 0, .slice none 0 0] 46)).cell? ⟨w.heap.size, 1, none⟩ = some (.bool false) := cell_of_block NW 1
            have q2 : (w1.alloc (.cells #[.int .i64 0, .bool false, .int .i64 0, .string ⟨#[]⟩, .slice none 0 0, .slice none 0 0] 46)).cell? ⟨w.heap.size, 2, none⟩ = some (.int .i64 0) := cell_of_block NW 2
            have q3 : (w1.alloc (.cells #[.int .i64 0, .bool false, .int .i64 0, .string ⟨#[]⟩, .slice none 0 0, .slice none 0 0] 46)).cell? ⟨w.heap.size, 3, none⟩ = some (.string ⟨#[]⟩) := cell_of_block NW 3
            have q4 : (w1.alloc (.cells #[.int .i64 0, .bool false, .int .i64 0, .string ⟨#[]⟩, .slice none 0 0, .slice none 0 0] 46)).cell? ⟨w.heap.size, 4, none⟩ = some (.slice none 0 0) := cell_of_block NW 4
            have q5 : (w1.alloc (.cells #[.int .i64 0, .bool false, .int .i64 0, .string ⟨#[]⟩, .slice none 0 0, .slice none 0 0] 46)).cell? ⟨w.heap.size, 5, none⟩ = some (.slice none 0 0) := cell_of_block NW 5
            have kf : ∀ ii, (w1.alloc (.cells #[.int .i64 0, .bool false, .int .i64 0, .string ⟨#[]⟩, .slice none 0 0, .slice none 0 0] 46)).frozen? ⟨w.heap.size, ii, none⟩ = false := frozen_of_block NW
            have sg := st6_grown (w1.alloc (.cells #[.int .i64 0, .bool false, .int .i64 0, .string ⟨#[]⟩, .slice none 0 0, .slice none 0 0] 46)) w.heap.size (.int .i64 0) (.bool false) (.int .i64 0) (.string ⟨#[]⟩) (.slice none 0 0) (.slice none 0 0)
            have HBF := hmk (belowG BW sg (Nat.le_refl _))
            clear sg NW BW
            go_wp2_with fail
            (try simp only [Exit.inBlock, Exit.then])
            refine bodyPost_ret (v := .tuple #[.agg #[.int .i64 0, .bool false, .int .i64 0, .string ⟨#[]⟩, .slice none 0 0, .slice none 0 0], .int .i64 (-1)]) ?_ rfl ⟨HBF.out, .inr ⟨by rw [HD.out, HP.out]; rfl, rfl⟩⟩
            rw [results_cell_tmp rfl]
            go_simp
    · have y1 : ¬ (k : Int) < s.size := by omega
      clear HQ
      go_enter Tryz.func55, Tryz.ntmps55
      go_wp2_with fail
      generalize w.alloc z46 = wA at *
      go_loopw [9] (fun e wr => ∃ i m : Nat, m ≤ s.size ∧ AtP m k i ∧ e = .int .i64 (m : Int) ∧ wA = wr ∧ Hid ((s.data.toList.drop k).takeWhile (fun x => wrdB x.toNat) = (s.data.toList.drop k).take i ++ ((s.data.toList.drop k).drop i).takeWhile (fun x => wrdB x.toNat))) (fun e _ => s.size - (RowKit.intOf e).toNat)
      case atStart => exact ⟨0, k, hk, (rfl : k = k + 0), rfl, rfl, by show _ = _; simp⟩
      case round =>
        obtain ⟨i, m, hm, HM, rfl, rfl, HTW⟩ := hrel
        by_cases hms : m < s.size
        · exfalso
          have e : m = k + i := HM
          omega
        · have a1 : ¬ (m : Int) < s.size := by omega
          have HTK := hmk (tw_end HTW.out (by have e : m = k + i := HM; rw [List.drop_drop, ← e, drop_endN s m hms]))
          clear HTW CL
          have hkm : (k : Int) ≤ m := by have : m = k + i := HM; omega
          have hm1 : (m : Int) ≤ s.size := by omega
          obtain ⟨hx1, hx2⟩ := EX.out m (by omega) hm (by rw [HTK.out]; have : m = k + i := HM; rw [show m - k = i by omega])
          have HLN : Hid (k + ((s.data.toList.drop k).takeWhile (fun x => wrdB x.toNat)).length = m) := by
            show _ = _
            have e : m = k + i := HM
            rw [HTK.out, List.length_take, List.length_drop, HLS.out]; omega
          obtain ⟨L, hL⟩ : ∃ L : Nat, Hid ((s.extract k m).size = L) := ⟨_, rfl⟩
          have kc : (convert 9 52 (.string (s.extract k m))).run Tryz.prog wA = .ok (.slice (some ⟨wA.heap.size, 0, none⟩) L (grownCap wA L 0 5)) (bytesWorld wA 5 (s.extract k m)) := by
            rw [← hL.out]
            exact Go.Lib.run_convert_string_bytes wA 9 52 5 (s.extract k m) Tryz.underlying9 Tryz.underlying52 Tryz.underlying5
          have CP : Hid (Calls Tryz.prog 93 #[.slice (some ⟨wA.heap.size, 0, none⟩) L (grownCap wA L 0 5), .int .i64 0] (bytesWorld wA 5 (s.extract k m)) (PjP (parP ((s.data.toList.drop k).takeWhile (fun x => wrdB x.toNat))) (bytesWorld wA 5 (s.extract k m)))) := by
            have c := dparse_any (s.extract k m) (some ⟨wA.heap.size, 0, none⟩) (grownCap wA L 0 5) (bytesWorld wA 5 (s.extract k m)) hx2 (by rw [ByteArray.size_extract]; omega) (fun W hW => cv_back wA (s.extract k m) W hW _)
            rw [hx1, hL.out] at c
            exact c
          have bB := bytesWorld_below wA 5 (s.extract k m)
          have HM' := hmk HM
          clear hx1 hx2 hL HTK EX HM
          go_wp2_with fail
          refine CP.out.mono ?_
          rintro e w1 ⟨b1, hres⟩
          have bb := bB.trans (b1.mono bB.size)
          have HRES := hmk hres
          clear CP b1 bB hres kc
          rcases HRES.out with ⟨vk, vb, vi, hp, rfl⟩ | ⟨hp, bad, er, her, rfl⟩
          · have HP := hmk hp
            have b2 := bb.alloc bb.size (.cells #[.int .i64 vk, .bool vb, .int .i64 vi, .string ⟨#[]⟩, .slice none 0 0, .slice none 0 0] 46)
            have m2 := heap_alloc_new w1 (.cells #[.int .i64 vk, .bool vb, .int .i64 vi, .string ⟨#[]⟩, .slice none 0 0, .slice none 0 0] 46)
            clear hp HRES
            obtain ⟨NW, BW⟩ := KA.out _ b2
            clear b2 bb KA
            have p0 : (w1.alloc (.cells #[.int .i64 vk, .bool vb, .int .i64 vi, .string ⟨#[]⟩, .slice none 0 0, .slice none 0 0] 46)).cell? ⟨w1.heap.size, 0, none⟩ = some (.int .i64 vk) := cell_of_block m2 0
            have p1 : (w1.alloc (.cells #[.int .i64 vk, .bool vb, .int .i64 vi, .string ⟨#[]⟩, .slice none 0 0, .slice none 0 0] 46)).cell? ⟨w1.heap.size, 1, none⟩ = some (.bool vb) := cell_of_block m2 1
            have p2 : (w1.alloc (.cells #[.int .i64 vk, .bool vb, .int .i64 vi, .string ⟨#[]⟩, .slice none 0 0, .slice none 0 0] 46)).cell? ⟨w1.heap.size, 2, none⟩ = some (.int .i64 vi) := cell_of_block m2 2
            have p3 : (w1.alloc (.cells #[.int .i64 vk, .bool vb, .int .i64 vi, .string ⟨#[]⟩, .slice none 0 0, .slice none 0 0] 46)).cell? ⟨w1.heap.size, 3, none⟩ = some (.string ⟨#[]⟩) := cell_of_block m2 3
            have p4 : (w1.alloc (.cells #[.int .i64 vk, .bool vb, .int .i64 vi, .string ⟨#[]⟩, .slice none 0 0, .slice none 0 0] 46)).cell? ⟨w1.heap.size, 4, none⟩ = some (.slice none 0 0) := cell_of_block m2 4
            have p5 : (w1.alloc (.cells #[.int .i64 vk, .bool vb, .int .i64 vi, .string ⟨#[]⟩, .slice none 0 0, .slice none 0 0] 46)).cell? ⟨w1.heap.size, 5, none⟩ = some (.slice none 0 0) := cell_of_block m2 5
            have q0 : (w1.alloc (.cells #[.int .i64 vk, .bool vb, .int .i64 vi, .string ⟨#[]⟩, .slice none 0 0, .slice none 0 0] 46)).cell? ⟨w.heap.size, 0, none⟩ = some (.int .i64 0) := cell_of_block NW 0
            have q1 : (w1.alloc (.cells #[.int .i64 vk, .bool vb, .int .i64 vi, .string ⟨#[]⟩, .slice none 0 0, .slice none 0 0] 46)).cell? ⟨w.heap.size, 1, none⟩ = some (.bool false) := cell_of_block NW 1
            have q2 : (w1.alloc (.cells #[.int .i64 vk, .bool vb, .int .i64 vi, .string ⟨#[]⟩, .slice none 0 0, .slice none 0 0] 46)).cell? ⟨w.heap.size, 2, none⟩ = some (.int .i64 0) := cell_of_block NW 2
            have q3 : (w1.alloc (.cells #[.int .i64 vk, .bool vb, .int .i64 vi, .string ⟨#[]⟩, .slice none 0 0, .slice none 0 0] 46)).cell? ⟨w.heap.size, 3, none⟩ = some (.string ⟨#[]⟩) := cell_of_block NW 3
            have q4 : (w1.alloc (.cells #[.int .i64 vk, .bool vb, .int .i64 vi, .string ⟨#[]⟩, .slice none 0 0, .slice none 0 0] 46)).cell? ⟨w.heap.size, 4, none⟩ = some (.slice none 0 0) := cell_of_block NW 4
            have q5 : (w1.alloc (.cells #[.int .i64 vk, .bool vb, .int .i64 vi, .string ⟨#[]⟩, .slice none 0 0, .slice none 0 0] 46)).cell? ⟨w.heap.size, 5, none⟩ = some (.slice none 0 0) := cell_of_block NW 5
            have kf : ∀ ii, (w1.alloc (.cells #[.int .i64 vk, .bool vb, .int .i64 vi, .string ⟨#[]⟩, .slice none 0 0, .slice none 0 0] 46)).frozen? ⟨w.heap.size, ii, none⟩ = false := frozen_of_block NW
            have sg := st6_grown (w1.alloc (.cells #[.int .i64 vk, .bool vb, .int .i64 vi, .string ⟨#[]⟩, .slice none 0 0, .slice none 0 0] 46)) w.heap.size (.int .i64 vk) (.bool vb) (.int .i64 vi) (.string ⟨#[]⟩) (.slice none 0 0) (.slice none 0 0)
            have HBF := hmk (belowG BW sg (Nat.le_refl _))
            clear sg NW BW
            go_wp2_with fail
            (try simp only [Exit.inBlock, Exit.then])
            refine bodyPost_ret (v := .tuple #[.agg #[.int .i64 vk, .bool vb, .int .i64 vi, .string ⟨#[]⟩, .slice none 0 0, .slice none 0 0], .int .i64 m]) ?_ rfl ⟨HBF.out, .inl ⟨_, _, _, _, m, by rw [HD.out, HP.out, Option.map_some, HLN.out], rfl⟩⟩
            rw [results_cell_tmp rfl]
            go_simp
          · have HP := hmk hp
            have x0 : (er != 0) = true := by rw [bne_iff_ne]; exact her
            have b2 := bb.alloc bb.size (.cells #[.int .i64 0, .bool false, .int .i64 0, .string ⟨#[]⟩, .slice none 0 0, .slice none 0 0] 46)
            clear hp HRES her
            obtain ⟨NW, BW⟩ := KA.out _ b2
            clear b2 bb KA
            have q0 : (w1.alloc (.cells #[.int .i64 0, .bool false, .int .i64 0, .string ⟨#[]⟩, .slice none 0 0, .slice none 0 0] 46)).cell? ⟨w.heap.size, 0, none⟩ = some (.int .i64 0) := cell_of_block NW 0
            have q1 : (w1.alloc (.cells #[.int .i64 0, .bool false, .int .i64 0, .string ⟨#[]⟩, .slice none 0 0, .slice none 0 0] 46)).cell? ⟨w.heap.size, 1, none⟩ = some (.bool false) := cell_of_block NW 1
            have q2 : (w1.alloc (.cells #[.int .i64 0, .bool false, .int .i64 0, .string ⟨#[]⟩, .slice none 0 0, .slice none 0 0] 46)).cell? ⟨w.heap.size, 2, none⟩ = some (.int .i64 0) := cell_of_block NW 2
            have q3 : (w1.alloc (.cells #[.int .i64 0, .bool false, .int .i64 0, .string ⟨#[]⟩, .slice none 0 0, .slice none 0 0] 46)).cell? ⟨w.heap.size, 3, none⟩ = some (.string ⟨#[]⟩) := cell_of_block NW 3
            have q4 : (w1.alloc (.cells #[.int .i64 0, .bool false, .int .i64 0, .string ⟨#[]⟩, .slice none 0 0, .slice none 0 0] 46)).cell? ⟨w.heap.size, 4, none⟩ = some (.slice none 0 0) := cell_of_block NW 4
            have q5 : (w1.alloc (.cells #[.int .i64 0, .bool false, .int .i64 0, .string ⟨#[]⟩, .slice none 0 0, .slice none 0 0] 46)).cell? ⟨w.heap.size, 5, none⟩ = some (.slice none 0 0) := cell_of_block NW 5
            have kf : ∀ ii, (w1.alloc (.cells #[.int .i64 0, .bool false, .int .i64 0, .string ⟨#[]⟩, .slice none 0 0, .slice none 0 0] 46)).frozen? ⟨w.heap.size, ii, none⟩ = false := frozen_of_block NW
            have sg := st6_grown (w1.alloc (.cells #[.int .i64 0, .bool false, .int .i64 0, .string ⟨#[]⟩, .slice none 0 0, .slice none 0 0] 46)) w.heap.size (.int .i64 0) (.bool false) (.int .i64 0) (.string ⟨#[]⟩) (.slice none 0 0) (.slice none 0 0)
            have HBF := hmk (belowG BW sg (Nat.le_refl _))
            clear sg NW BW
            go_wp2_with fail
            (try simp only [Exit.inBlock, Exit.then])
            refine bodyPost_ret (v := .tuple #[.agg #[.int .i64 0, .bool false, .int .i64 0, .string ⟨#[]⟩, .slice none 0 0, .slice none 0 0], .int .i64 (-1)]) ?_ rfl ⟨HBF.out, .inr ⟨by rw [HD.out, HP.out]; rfl, rfl⟩⟩
            rw [results_cell_tmp rfl]
            go_simp
end Go.Proofs.YtihcggepeadklaaGreatDoor
