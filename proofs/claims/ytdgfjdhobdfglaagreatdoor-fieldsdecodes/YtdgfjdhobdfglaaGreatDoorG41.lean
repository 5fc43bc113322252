/- joined: DwdA DscA DbkP -/
import Derived.Test.YtdgfjdhobdfglaaGreatDoorG40
import Derived.Lib.ConvBytes
import Derived.Lib.LazyBuf
import Derived.Test.YtdgfjdhobdfglaaGreatDoorG31
set_option linter.unusedSimpArgs false
set_option linter.unusedVariables false
set_option maxRecDepth 100000
namespace Go.Proofs.YtdgfjdhobdfglaaGreatDoor
open Go.RowKit Go.Lib
def NwP (R : Option (ByteArray × Nat)) (w : World) (e : Ending) (w' : World) : Prop :=
 Below w.heap.size w w' /\ ((∃ x k1, R = some (x, k1) /\ e = .returned (.tuple #[.string x, .int .i64 ((k1 : Nat) : Int)])) \/ (R = none /\ e = .returned (.tuple #[.string ⟨#[]⟩, .int .i64 (-1)])))
theorem rquo_any (s : ByteArray) (k : Nat) (w : World) (hs : s.size <= 140737488351232) (hk : k < s.size) (hc : (s[k]'hk).toNat = 34) (r : List UInt8) (pl er : Nat) (hR : Q.unqAll s.data.toList (k : Int) = (r, pl, er)) :
 Calls Tryz.prog 80 #[.string s, .int .i64 (k : Int)] w fun e w' => e = .returned (.tuple #[.string ⟨r.toArray⟩, .int .i64 (pl : Int), .int .i64 (er : Int)]) /\ Below w.heap.size w w' := by
 have hl : s.data.toList.length = s.size := by simp
 have hc34 : s[k]'hk = 34 := UInt8.toNat_inj.1 hc
 have e : Q.unq (s.size + 1) (s.data.toList.drop (k + 1)) (k + 1) [] = (r, pl, er) := by
  rw [<- hR, Q.unqAll, if_neg (by omega), Int.toNat_natCast, drop_consN s k hk, hc34]
  simp only [List.head?_cons]
  rw [if_pos trivial, hl]
 have c := refUnquote_yes s k w hs (by unfold hit; exact decide_eq_true ⟨hk, hc⟩) _ e
 exact c
theorem quo_none {s : ByteArray} {k : Nat} (hk : k <= s.size) (h : ∀ h : k < s.size, (s[k]'h).toNat ≠ 34) : quoF s.data.toList k = none := by
 have hl : s.data.toList.length = s.size := by simp
 have e : Q.unqAll s.data.toList (k : Int) = ([], k, 10) := by
  rw [Q.unqAll, if_neg (by omega), Int.toNat_natCast, if_neg]
  by_cases hlt : k < s.size
  ·rw [drop_consN s k hlt]
   intro hh
   simp only [List.head?_cons, Option.some.injEq] at hh
   exact h hlt (by rw [hh]; rfl)
  ·rw [drop_endN s k hlt]; simp
 rw [quoF, e, if_neg (by simp)]
theorem nam_quo {s : ByteArray} {k : Nat} (h : prefN 0 (s.data.toList.drop k) = 0) : namF s.data.toList k = quoF s.data.toList k := by
 unfold namF
 rw [h, if_neg (by omega)]
set_option maxHeartbeats 8000000 in
theorem dwd_any (s : ByteArray) (k : Nat) (w : World) (hs : s.size <= 2147483647) (hk : k <= s.size) :
 Calls Tryz.prog 53 #[.string s, .int .i64 (k : Int)] w (NwP (namF s.data.toList k) w) := by
 have hk0 : (0 : Int) <= k := by omega
 by_cases hlt : k < s.size
 ·have y1 : (k : Int) < s.size := by omega
  by_cases h34 : (s[k]'hlt).toNat = 34
  ·have y34 : (((s[k]'hlt).toNat : Int) == 34) = true := by rw [beq_iff_eq]; omega
   have hp : prefN 0 (s.data.toList.drop k) = 0 := by
    rw [drop_consN s k hlt, prefN, if_neg]
    rw [okR_zero, h34]; decide
   have HN := hmk (nam_quo hp)
   obtain ⟨r, pl, er, hR⟩ : ∃ r pl er, Q.unqAll s.data.toList (k : Int) = (r, pl, er) := ⟨_, _, _, rfl⟩
   have CU := hmk (rquo_any s k w (by omega) hlt h34 r pl er hR)
   have HR := hmk hR
   clear hp hR h34
   by_cases h0 : er = 0
   ·have y0 : ((er : Int) != 0) = false := by rw [bne_eq_false_iff_eq]; omega
    have HQ := hmk (quoF_yes HR.out h0)
    clear h0
    go_enter Tryz.func53, Tryz.ntmps53
    go_wp2_with fail
    refine CU.out.mono ?_
    rintro e w1 ⟨rfl, b1⟩
    have HB := hmk b1
    clear CU b1
    go_wp2_with fail
    go_ret2
    exact ⟨HB.out, .inl ⟨_, pl, by rw [HN.out, HQ.out], rfl⟩⟩
   ·have y0 : ((er : Int) != 0) = true := by rw [bne_iff_ne]; omega
    have HQ := hmk (quoF_no HR.out h0)
    clear h0
    go_enter Tryz.func53, Tryz.ntmps53
    go_wp2_with fail
    refine CU.out.mono ?_
    rintro e w1 ⟨rfl, b1⟩
    have HB := hmk b1
    clear CU b1
    go_wp2_with fail
    go_ret2
    exact ⟨HB.out, .inr ⟨by rw [HN.out, HQ.out], rfl⟩⟩
  ·have y34 : (((s[k]'hlt).toNat : Int) == 34) = false := by rw [beq_eq_false_iff_ne]; omega
   have y2 : ((k : Int) == (s.size : Int)) = false := by rw [beq_eq_false_iff_ne]; omega
   have CF := fun W => rfst_any ((s[k]'hlt).toNat : Int) W
   cases hL : letR ((s[k]'hlt).toNat : Int) with
   | false =>
    have hp : prefN 0 (s.data.toList.drop k) = 0 := by
     rw [drop_consN s k hlt, prefN, if_neg]
     rw [okR_zero, hL]; decide
    have HN : Hid (namF s.data.toList k = none) := (nam_quo hp).trans (quo_none hk (fun _ => h34))
    rw [hL] at CF
    clear hp hL h34
    go_enter Tryz.func53, Tryz.ntmps53
    go_wp2_with (go_at_call 81; refine (CF _).mono ?_; rintro e w' ⟨rfl, rfl⟩)
    go_ret2
    exact ⟨Below.refl _ _, .inr ⟨HN.out, rfl⟩⟩
   | true =>
    have HP0 : Hid (prefN 0 (s.data.toList.drop k) = prefN 1 (s.data.toList.drop (k + 1))) := by
     show _ = _
     rw [drop_consN s k hlt, prefN, if_pos (by rw [okR_zero, hL])]
    rw [hL] at CF
    have CL := fun (c : Int) W => rlat_any c W
    have w1 : IntKind.i64.wrap ((k : Int) + 1) = (k : Int) + 1 := IntWalk.i64_in _ (by omega)
    clear hL h34
    go_enter Tryz.func53, Tryz.ntmps53
    go_wp2_with (go_at_call 81; refine (CF _).mono ?_; rintro e w' ⟨rfl, rfl⟩)
    go_loopw [9] (fun e wr => ∃ i m : Nat, 0 < i /\ m <= s.size /\ AtP m k i /\ e = .int .i64 (m : Int) /\ wr = w' /\ Hid (prefN 0 (s.data.toList.drop k) = prefN i (s.data.toList.drop m))) (fun e _ => s.size - (RowKit.intOf e).toNat)
    case atStart => exact ⟨1, k + 1, by omega, by omega, (rfl : k + 1 = k + 1), by simp, rfl, HP0.out⟩
    case round =>
     clear CF HP0 w1 y34 y2
     obtain ⟨i, m, hi, hm, HM, rfl, rfl, HP⟩ := hrel
     by_cases hms : m < s.size
     ·have a1 : (m : Int) < s.size := by omega
      have ed := hmk (drop_consN s m hms)
      have cl := fun W => CL ((s[m]'hms).toNat : Int) W
      cases hq : latR ((s[m]'hms).toNat : Int) with
      | true =>
       have HN : Hid (prefN 0 (s.data.toList.drop k) = prefN (i + 1) (s.data.toList.drop (m + 1))) := by
        show _ = _
        rw [HP.out, ed.out, prefN, if_pos (by rw [okR_pos i _ (by omega)]; exact hq)]
       rw [hq] at cl
       clear HP ed hq CL
       go_wp2_with (go_at_call 82; refine (cl _).mono ?_; rintro e w' ⟨rfl, rfl⟩)
       go_roundw
       case rel => exact ⟨i + 1, m + 1, by omega, by omega, (by have : m = k + i := HM; show m + 1 = k + (i + 1); omega), by simp, trivial, HN⟩
       case measure => simp [RowKit.intOf]; omega
      | false =>
       have HN : Hid (namF s.data.toList k = some (s.extract k m, m)) := by
        show _ = _
        have hmk' : m = k + i := HM
        have e0 : prefN 0 (s.data.toList.drop k) = i := by
         rw [HP.out, ed.out, prefN, if_neg (by rw [okR_pos i _ (by omega)]; rw [show (letR ↑(s[m]'hms).toNat || digR ↑(s[m]'hms).toNat || decide ((↑(s[m]'hms).toNat : Int) = 45)) = false from hq]; decide)]
        unfold namF
        rw [e0, if_pos hi, ext_mid s k m (by omega) hm, show m - k = i by omega, hmk']
       rw [hq] at cl
       have hkm : (k : Int) <= m := by have : m = k + i := HM; omega
       clear HP ed hq CL HM
       have hm1 : (m : Int) <= s.size := by omega
       go_wp2_with (go_at_call 82; refine (cl _).mono ?_; rintro e w' ⟨rfl, rfl⟩)
       go_ret2
       exact ⟨Below.refl _ _, .inl ⟨_, m, HN.out, rfl⟩⟩
     ·have a1 : ¬ (m : Int) < s.size := by omega
      have HN : Hid (namF s.data.toList k = some (s.extract k m, m)) := by
       show _ = _
       have hmk' : m = k + i := HM
       have e0 : prefN 0 (s.data.toList.drop k) = i := by rw [HP.out, drop_endN s m hms, prefN]
       unfold namF
       rw [e0, if_pos hi, ext_mid s k m (by omega) hm, show m - k = i by omega, hmk']
      have hkm : (k : Int) <= m := by have : m = k + i := HM; omega
      have hm1 : (m : Int) <= s.size := by omega
      clear HP CL HM
      go_wp2_with fail
      go_ret2
      exact ⟨Below.refl _ _, .inl ⟨_, m, HN.out, rfl⟩⟩
 ·obtain rfl : k = s.size := by omega
  have y1 : ¬ ((s.size : Int) < s.size) := by omega
  have HN : Hid (namF s.data.toList s.size = none) := by
   show _ = _
   rw [nam_quo (by rw [drop_endN s s.size hlt, prefN]), quo_none (Nat.le_refl _) (fun h => absurd h hlt)]
  clear hlt hk
  go_enter Tryz.func53, Tryz.ntmps53
  go_wp2_with fail
  go_ret2
  exact ⟨Below.refl _ _, .inr ⟨HN.out, rfl⟩⟩
end Go.Proofs.YtdgfjdhobdfglaaGreatDoor
set_option maxRecDepth 100000
namespace Go.Proofs.YtdgfjdhobdfglaaGreatDoor
open Go.RowKit Go.Lib
theorem sn_map (X : ByteArray) : strOfNums (X.data.toList.map fun b => (b.toNat : Int)) = X := by
 apply ByteArray.ext
 apply Array.ext'
 rw [strOfNums_data, List.map_map]
 have : ((fun n : Int => UInt8.ofNat n.toNat) ∘ fun b : UInt8 => (b.toNat : Int)) = id := by
  funext b; simp
 rw [this, List.map_id]
theorem tw_mem {P : UInt8 -> Bool} : ∀ {l : List UInt8} {x : UInt8}, x ∈ l.takeWhile P -> P x = true
 | [], x, h => by simp at h
 | c :: t, x, h => by
  rw [List.takeWhile_cons] at h
  split at h
  ·rename_i hc
   rcases List.mem_cons.1 h with rfl | h
   ·exact hc
   ·exact tw_mem h
  ·simp at h
theorem cv_back (W : World) (X : ByteArray) (W' : World) (hb : Below (bytesWorld W 5 X).heap.size (bytesWorld W 5 X) W') (cap : Nat) : (convert 101 9 (.slice (some ⟨W.heap.size, 0, none⟩) X.size cap)).run Tryz.prog W' = .ok (.string X) W' := by
 have h := run_convert_bytes_arg (P := Tryz.prog) W' 101 5 Tryz.underlying101 Tryz.underlying5 W.heap.size 0 X.size cap (X.data.toList.map fun b => (b.toNat : Int)) (by simp) (fun i hi => by
  rw [Nat.zero_add, hb.cell (p := ⟨W.heap.size, i, none⟩) (by rw [bytesWorld_size]; simp), bytesWorld_cell W 5 X i hi]
  have hi2 : i < X.data.size := by simpa using hi
  have e1 : X.data[i]? = some (X.data[i]) := Array.getElem?_eq_getElem hi2
  simp [List.getD, e1]) 9 Tryz.underlying9
 rw [h, sn_map]
def dscaF (l : List UInt8) (k : Nat) : Option (V × Nat) :=
 if (l.drop k).head? = some 34 then (quoF l k).map (fun x => (.mk 3 false 0 x.1 [] [], x.2))
 else (parP ((l.drop k).takeWhile (fun x => wrdB x.toNat))).map (fun v => (v, k + ((l.drop k).takeWhile (fun x => wrdB x.toNat)).length))
def DsP (R : Option (V × Nat)) (w : World) (e : Ending) (w' : World) : Prop :=
 Below w.heap.size w w' /\ ((∃ (vk : Int) (vb : Bool) (vi : Int) (vs : ByteArray) (k1 : Nat), R = some (.mk vk vb vi vs [] [], k1) /\ e = .returned (.tuple #[.agg #[.int .i64 vk, .bool vb, .int .i64 vi, .string vs, .slice none 0 0, .slice none 0 0], .int .i64 (k1 : Int)])) \/
  (R = none /\ e = .returned (.tuple #[.agg #[.int .i64 0, .bool false, .int .i64 0, .string ⟨#[]⟩, .slice none 0 0, .slice none 0 0], .int .i64 (-1)])))
theorem wrdB_split {c : Int} (h : wrdB c = false) : latR c = false /\ c ≠ 43 /\ c ≠ 46 := by
 unfold wrdB at h
 simp only [Bool.or_eq_false_iff, decide_eq_false_iff_not] at h
 exact ⟨h.1, h.2.1, h.2.2⟩
set_option maxHeartbeats 8000000 in
theorem dsca_any (s : ByteArray) (k : Nat) (w : World) (hs : s.size <= 1048576) (hk : k <= s.size) :
 Calls Tryz.prog 54 #[.string s, .int .i64 (k : Int)] w (DsP (dscaF s.data.toList k) w) := by
 have hk0 : (0 : Int) <= k := by omega
 have hls : s.data.toList.length = s.size := by simp
 have HLS := hmk hls
 have bA : Below w.heap.size w (w.alloc z46) := (Below.refl _ _).alloc (Nat.le_refl _) _
 have nA := heap_alloc_new w z46
 have hzA := alloc_size w z46
 have KA : Hid (∀ W, Below (w.alloc z46).heap.size (w.alloc z46) W -> W.heap[w.heap.size]? = some z46 /\ Below w.heap.size w W) := fun W hW => ⟨(hW.block _ (by omega)).trans nA, bA.trans (hW.mono bA.size)⟩
 clear hls
 by_cases hq : ∃ h : k < s.size, (s[k]'h).toNat = 34
 ·obtain ⟨hlt, h34⟩ := hq
  have y1 : (k : Int) < s.size := by omega
  have y34 : (((s[k]'hlt).toNat : Int) == 34) = true := by rw [beq_iff_eq]; omega
  have hc34 : s[k]'hlt = 34 := UInt8.toNat_inj.1 h34
  have HD : Hid (dscaF s.data.toList k = (quoF s.data.toList k).map (fun x => (.mk 3 false 0 x.1 [] [], x.2))) := by
   show _ = _
   rw [dscaF, drop_consN s k hlt, hc34, if_pos (by rfl)]
  obtain ⟨r, pl, er, hR⟩ : ∃ r pl er, Q.unqAll s.data.toList (k : Int) = (r, pl, er) := ⟨_, _, _, rfl⟩
  have CU := hmk (rquo_any s k (w.alloc z46) (by omega) hlt h34 r pl er hR)
  have HR := hmk hR
  clear hR h34 hc34 bA nA hzA
  by_cases h0 : er = 0
  ·have y0 : ((er : Int) != 0) = false := by rw [bne_eq_false_iff_eq]; omega
   have HQ := hmk (quoF_yes HR.out h0)
   clear h0
   go_enter Tryz.func54, Tryz.ntmps54
   go_wp2_with fail
   refine CU.out.mono ?_
   rintro e w1 ⟨rfl, b1⟩
   obtain ⟨NW, BW⟩ := KA.out w1 b1
   clear CU b1 KA
   generalize hX : (⟨r.toArray⟩ : ByteArray) = X at *
   obtain ⟨q0, q1, q2, q3, q4, q5⟩ := cN6 NW
   have kf : ∀ ii, w1.frozen? ⟨w.heap.size, ii, none⟩ = false := frozen_of_block NW
   have sg := st6_grown w1 w.heap.size (.int .i64 3) (.bool false) (.int .i64 0) (.string X) (.slice none 0 0) (.slice none 0 0)
   have HBF := hmk (belowG BW sg (Nat.le_refl _))
   clear sg NW BW
   go_wp2_with fail
   (try simp only [Exit.inBlock, Exit.then])
   refine bodyPost_ret (v := .tuple #[.agg #[.int .i64 3, .bool false, .int .i64 0, .string X, .slice none 0 0, .slice none 0 0], .int .i64 pl]) ?_ rfl ⟨HBF.out, .inl ⟨_, _, _, _, pl, by rw [HD.out, HQ.out]; rfl, rfl⟩⟩
   rw [results_cell_tmp rfl]
   go_simp
  ·have y0 : ((er : Int) != 0) = true := by rw [bne_iff_ne]; omega
   have HQ := hmk (quoF_no HR.out h0)
   clear h0
   go_enter Tryz.func54, Tryz.ntmps54
   go_wp2_with fail
   refine CU.out.mono ?_
   rintro e w1 ⟨rfl, b1⟩
   obtain ⟨NW, BW⟩ := KA.out w1 b1
   clear CU b1 KA
   obtain ⟨q0, q1, q2, q3, q4, q5⟩ := cN6 NW
   have kf : ∀ ii, w1.frozen? ⟨w.heap.size, ii, none⟩ = false := frozen_of_block NW
   have sg := st6_grown w1 w.heap.size (.int .i64 0) (.bool false) (.int .i64 0) (.string ⟨#[]⟩) (.slice none 0 0) (.slice none 0 0)
   have HBF := hmk (belowG BW sg (Nat.le_refl _))
   clear sg NW BW
   go_wp2_with fail
   (try simp only [Exit.inBlock, Exit.then])
   refine bodyPost_ret (v := .tuple #[.agg #[.int .i64 0, .bool false, .int .i64 0, .string ⟨#[]⟩, .slice none 0 0, .slice none 0 0], .int .i64 (-1)]) ?_ rfl ⟨HBF.out, .inr ⟨by rw [HD.out, HQ.out]; rfl, rfl⟩⟩
   rw [results_cell_tmp rfl]
   go_simp
 ·have HD : Hid (dscaF s.data.toList k = (parP ((s.data.toList.drop k).takeWhile (fun x => wrdB x.toNat))).map (fun v => (v, k + ((s.data.toList.drop k).takeWhile (fun x => wrdB x.toNat)).length))) := by
   show _ = _
   rw [dscaF, if_neg]
   intro hh
   by_cases hlt : k < s.size
   ·rw [drop_consN s k hlt] at hh
    exact hq ⟨hlt, by have := Option.some.inj hh; rw [this]; rfl⟩
   ·rw [drop_endN s k hlt] at hh; cases hh
  have CL := fun (c : Int) W => rlat_any c W
  have HQ := hmk hq
  clear hq bA nA hzA
  have EX : Hid (∀ m, k <= m -> m <= s.size -> (s.data.toList.drop k).takeWhile (fun x => wrdB x.toNat) = (s.data.toList.drop k).take (m - k) -> (s.extract k m).data.toList = (s.data.toList.drop k).takeWhile (fun x => wrdB x.toNat) /\ WrdS (s.extract k m)) := fun m h1 h2 h3 => by
   have e1 : (s.extract k m).data.toList = (s.data.toList.drop k).takeWhile (fun x => wrdB x.toNat) := by rw [ext_mid s k m h1 h2, h3]
   refine ⟨e1, fun j hj => ?_⟩
   have hmem : (s.extract k m)[j] ∈ (s.extract k m).data.toList := by
    have hj' : j < (s.extract k m).data.toList.length := hj
    exact List.getElem_mem hj'
   rw [e1] at hmem
   exact tw_mem hmem
  by_cases hlt : k < s.size
  ·have y1 : (k : Int) < s.size := by omega
   have y34 : (((s[k]'hlt).toNat : Int) == 34) = false := by rw [beq_eq_false_iff_ne]; exact fun h => HQ.out ⟨hlt, by omega⟩
   clear HQ
   go_enter Tryz.func54, Tryz.ntmps54
   go_wp2_with fail
   generalize w.alloc z46 = wA at *
   go_loopw [9] (fun e wr => ∃ i m : Nat, m <= s.size /\ AtP m k i /\ e = .int .i64 (m : Int) /\ wA = wr /\ Hid ((s.data.toList.drop k).takeWhile (fun x => wrdB x.toNat) = (s.data.toList.drop k).take i ++ ((s.data.toList.drop k).drop i).takeWhile (fun x => wrdB x.toNat))) (fun e _ => s.size - (RowKit.intOf e).toNat)
   case atStart => exact ⟨0, k, hk, (rfl : k = k + 0), rfl, rfl, by show _ = _; simp⟩
   case round =>
    obtain ⟨i, m, hm, HM, rfl, rfl, HTW⟩ := hrel
    by_cases hms : m < s.size
    ·have a1 : (m : Int) < s.size := by omega
     have ed : Hid ((s.data.toList.drop k).drop i = s[m]'hms :: s.data.toList.drop (m + 1)) := by
      show _ = _
      have e : m = k + i := HM
      rw [List.drop_drop, <- e, drop_consN s m hms]
     have cl := fun W => CL ((s[m]'hms).toNat : Int) W
     cases hq : wrdB ((s[m]'hms).toNat : Int) with
     | true =>
      have HN := hmk (tw_step HTW.out ed.out hq (by rw [List.length_drop, HLS.out]; have : m = k + i := HM; omega))
      cases hl : latR ((s[m]'hms).toNat : Int) with
      | true =>
       rw [hl] at cl
       clear hl
       clear HTW ed hq CL
       go_wp2_with (go_at_call 82; refine (cl _).mono ?_; rintro e w' ⟨rfl, rfl⟩)
       go_roundw
       case rel => exact ⟨i + 1, m + 1, by omega, (by have : m = k + i := HM; show m + 1 = k + (i + 1); omega), by simp, (by first | trivial | rfl), HN⟩
       case measure => simp [RowKit.intOf]; omega
      | false =>
       rw [hl] at cl
       by_cases h43 : ((s[m]'hms).toNat : Int) = 43
       focus
        have z43 : (((s[m]'hms).toNat : Int) == 43) = true := by rw [beq_iff_eq]; exact h43
       rotate_left 1
       focus
        have z43 : (((s[m]'hms).toNat : Int) == 43) = false := by rw [beq_eq_false_iff_ne]; exact h43
        have z46' : (((s[m]'hms).toNat : Int) == 46) = true := by
         rw [beq_iff_eq]
         unfold wrdB at hq
         rw [hl, decide_eq_false h43] at hq
         simpa using hq
       rotate_left 1
       all_goals
        clear hl h43
        clear HTW ed hq CL
        go_wp2_with (go_at_call 82; refine (cl _).mono ?_; rintro e w' ⟨rfl, rfl⟩)
        go_roundw
        case rel => exact ⟨i + 1, m + 1, by omega, (by have : m = k + i := HM; show m + 1 = k + (i + 1); omega), by simp, (by first | trivial | rfl), HN⟩
        case measure => simp [RowKit.intOf]; omega
     | false =>
      have HTK := hmk (tw_stop HTW.out ed.out hq)
      obtain ⟨hl, h43, h46⟩ := wrdB_split hq
      rw [hl] at cl
      have z43 : (((s[m]'hms).toNat : Int) == 43) = false := by rw [beq_eq_false_iff_ne]; exact h43
      have z46' : (((s[m]'hms).toNat : Int) == 46) = false := by rw [beq_eq_false_iff_ne]; exact h46
      clear HTW ed hq CL hl h43 h46
      have hkm : (k : Int) <= m := by have : m = k + i := HM; omega
      have hm1 : (m : Int) <= s.size := by omega
      obtain ⟨hx1, hx2⟩ := EX.out m (by omega) hm (by rw [HTK.out]; have : m = k + i := HM; rw [show m - k = i by omega])
      have HLN : Hid (k + ((s.data.toList.drop k).takeWhile (fun x => wrdB x.toNat)).length = m) := by
       show _ = _
       have e : m = k + i := HM
       rw [HTK.out, List.length_take, List.length_drop, HLS.out]; omega
      obtain ⟨L, hL⟩ : ∃ L : Nat, Hid ((s.extract k m).size = L) := ⟨_, rfl⟩
      have kc : (convert 9 101 (.string (s.extract k m))).run Tryz.prog wA = .ok (.slice (some ⟨wA.heap.size, 0, none⟩) L (grownCap wA L 0 5)) (bytesWorld wA 5 (s.extract k m)) := by
       rw [<- hL.out]
       exact Go.Lib.run_convert_string_bytes wA 9 101 5 (s.extract k m) Tryz.underlying9 Tryz.underlying101 Tryz.underlying5
      have CP : Hid (Calls Tryz.prog 83 #[.slice (some ⟨wA.heap.size, 0, none⟩) L (grownCap wA L 0 5), .int .i64 0] (bytesWorld wA 5 (s.extract k m)) (PjP (parP ((s.data.toList.drop k).takeWhile (fun x => wrdB x.toNat))) (bytesWorld wA 5 (s.extract k m)))) := by
       have c := dparse_any (s.extract k m) (some ⟨wA.heap.size, 0, none⟩) (grownCap wA L 0 5) (bytesWorld wA 5 (s.extract k m)) hx2 (by rw [ByteArray.size_extract]; omega) (fun W hW => cv_back wA (s.extract k m) W hW _)
       rw [hx1, hL.out] at c
       exact c
      have bB := bytesWorld_below wA 5 (s.extract k m)
      have HM' := hmk HM
      clear hx1 hx2 hL HTK EX HM
      go_wp2_with (go_at_call 82; refine (cl _).mono ?_; rintro e w' ⟨rfl, rfl⟩)
      refine CP.out.mono ?_
      rintro e w1 ⟨b1, hres⟩
      have bb := bB.trans (b1.mono bB.size)
      have HRES := hmk hres
      clear CP b1 bB hres kc
      rcases HRES.out with ⟨vk, vb, vi, hp, rfl⟩ | ⟨hp, bad, er, her, rfl⟩
      ·have HP := hmk hp
       have b2 := bb.alloc bb.size (oV vk vb vi ⟨#[]⟩ none 0 0 none 0 0)
       have m2 := heap_alloc_new w1 (oV vk vb vi ⟨#[]⟩ none 0 0 none 0 0)
       clear hp HRES
       obtain ⟨NW, BW⟩ := KA.out _ b2
       clear b2 bb KA
       obtain ⟨p0, p1, p2, p3, p4, p5⟩ := cN6 m2
       obtain ⟨q0, q1, q2, q3, q4, q5⟩ := cN6 NW
       have kf : ∀ ii, (w1.alloc (oV vk vb vi ⟨#[]⟩ none 0 0 none 0 0)).frozen? ⟨w.heap.size, ii, none⟩ = false := frozen_of_block NW
       have sg := st6_grown (w1.alloc (oV vk vb vi ⟨#[]⟩ none 0 0 none 0 0)) w.heap.size (.int .i64 vk) (.bool vb) (.int .i64 vi) (.string ⟨#[]⟩) (.slice none 0 0) (.slice none 0 0)
       have HBF := hmk (belowG BW sg (Nat.le_refl _))
       clear sg NW BW
       go_wp2_with fail
       (try simp only [Exit.inBlock, Exit.then])
       refine bodyPost_ret (v := .tuple #[.agg #[.int .i64 vk, .bool vb, .int .i64 vi, .string ⟨#[]⟩, .slice none 0 0, .slice none 0 0], .int .i64 m]) ?_ rfl ⟨HBF.out, .inl ⟨_, _, _, _, m, by rw [HD.out, HP.out, Option.map_some, HLN.out], rfl⟩⟩
       rw [results_cell_tmp rfl]
       go_simp
      ·have HP := hmk hp
       have x0 : (er != 0) = true := by rw [bne_iff_ne]; exact her
       have b2 := bb.alloc bb.size oN
       clear hp HRES her
       obtain ⟨NW, BW⟩ := KA.out _ b2
       clear b2 bb KA
       obtain ⟨q0, q1, q2, q3, q4, q5⟩ := cN6 NW
       have kf : ∀ ii, (w1.alloc oN).frozen? ⟨w.heap.size, ii, none⟩ = false := frozen_of_block NW
       have sg := st6_grown (w1.alloc oN) w.heap.size (.int .i64 0) (.bool false) (.int .i64 0) (.string ⟨#[]⟩) (.slice none 0 0) (.slice none 0 0)
       have HBF := hmk (belowG BW sg (Nat.le_refl _))
       clear sg NW BW
       go_wp2_with fail
       (try simp only [Exit.inBlock, Exit.then])
       refine bodyPost_ret (v := .tuple #[.agg #[.int .i64 0, .bool false, .int .i64 0, .string ⟨#[]⟩, .slice none 0 0, .slice none 0 0], .int .i64 (-1)]) ?_ rfl ⟨HBF.out, .inr ⟨by rw [HD.out, HP.out]; rfl, rfl⟩⟩
       rw [results_cell_tmp rfl]
       go_simp
    ·have a1 : ¬ (m : Int) < s.size := by omega
     have HTK := hmk (tw_end HTW.out (by have e : m = k + i := HM; rw [List.drop_drop, <- e, drop_endN s m hms]))
     clear HTW CL
     have hkm : (k : Int) <= m := by have : m = k + i := HM; omega
     have hm1 : (m : Int) <= s.size := by omega
     obtain ⟨hx1, hx2⟩ := EX.out m (by omega) hm (by rw [HTK.out]; have : m = k + i := HM; rw [show m - k = i by omega])
     have HLN : Hid (k + ((s.data.toList.drop k).takeWhile (fun x => wrdB x.toNat)).length = m) := by
      show _ = _
      have e : m = k + i := HM
      rw [HTK.out, List.length_take, List.length_drop, HLS.out]; omega
     obtain ⟨L, hL⟩ : ∃ L : Nat, Hid ((s.extract k m).size = L) := ⟨_, rfl⟩
     have kc : (convert 9 101 (.string (s.extract k m))).run Tryz.prog wA = .ok (.slice (some ⟨wA.heap.size, 0, none⟩) L (grownCap wA L 0 5)) (bytesWorld wA 5 (s.extract k m)) := by
      rw [<- hL.out]
      exact Go.Lib.run_convert_string_bytes wA 9 101 5 (s.extract k m) Tryz.underlying9 Tryz.underlying101 Tryz.underlying5
     have CP : Hid (Calls Tryz.prog 83 #[.slice (some ⟨wA.heap.size, 0, none⟩) L (grownCap wA L 0 5), .int .i64 0] (bytesWorld wA 5 (s.extract k m)) (PjP (parP ((s.data.toList.drop k).takeWhile (fun x => wrdB x.toNat))) (bytesWorld wA 5 (s.extract k m)))) := by
      have c := dparse_any (s.extract k m) (some ⟨wA.heap.size, 0, none⟩) (grownCap wA L 0 5) (bytesWorld wA 5 (s.extract k m)) hx2 (by rw [ByteArray.size_extract]; omega) (fun W hW => cv_back wA (s.extract k m) W hW _)
      rw [hx1, hL.out] at c
      exact c
     have bB := bytesWorld_below wA 5 (s.extract k m)
     have HM' := hmk HM
     clear hx1 hx2 hL HTK EX HM
     go_wp2_with fail
     refine CP.out.mono ?_
     rintro e w1 ⟨b1, hres⟩
     have bb := bB.trans (b1.mono bB.size)
     have HRES := hmk hres
     clear CP b1 bB hres kc
     rcases HRES.out with ⟨vk, vb, vi, hp, rfl⟩ | ⟨hp, bad, er, her, rfl⟩
     ·have HP := hmk hp
      have b2 := bb.alloc bb.size (oV vk vb vi ⟨#[]⟩ none 0 0 none 0 0)
      have m2 := heap_alloc_new w1 (oV vk vb vi ⟨#[]⟩ none 0 0 none 0 0)
      clear hp HRES
      obtain ⟨NW, BW⟩ := KA.out _ b2
      clear b2 bb KA
      obtain ⟨p0, p1, p2, p3, p4, p5⟩ := cN6 m2
      obtain ⟨q0, q1, q2, q3, q4, q5⟩ := cN6 NW
      have kf : ∀ ii, (w1.alloc (oV vk vb vi ⟨#[]⟩ none 0 0 none 0 0)).frozen? ⟨w.heap.size, ii, none⟩ = false := frozen_of_block NW
      have sg := st6_grown (w1.alloc (oV vk vb vi ⟨#[]⟩ none 0 0 none 0 0)) w.heap.size (.int .i64 vk) (.bool vb) (.int .i64 vi) (.string ⟨#[]⟩) (.slice none 0 0) (.slice none 0 0)
      have HBF := hmk (belowG BW sg (Nat.le_refl _))
      clear sg NW BW
      go_wp2_with fail
      (try simp only [Exit.inBlock, Exit.then])
      refine bodyPost_ret (v := .tuple #[.agg #[.int .i64 vk, .bool vb, .int .i64 vi, .string ⟨#[]⟩, .slice none 0 0, .slice none 0 0], .int .i64 m]) ?_ rfl ⟨HBF.out, .inl ⟨_, _, _, _, m, by rw [HD.out, HP.out, Option.map_some, HLN.out], rfl⟩⟩
      rw [results_cell_tmp rfl]
      go_simp
     ·have HP := hmk hp
      have x0 : (er != 0) = true := by rw [bne_iff_ne]; exact her
      have b2 := bb.alloc bb.size oN
      clear hp HRES her
      obtain ⟨NW, BW⟩ := KA.out _ b2
      clear b2 bb KA
      obtain ⟨q0, q1, q2, q3, q4, q5⟩ := cN6 NW
      have kf : ∀ ii, (w1.alloc oN).frozen? ⟨w.heap.size, ii, none⟩ = false := frozen_of_block NW
      have sg := st6_grown (w1.alloc oN) w.heap.size (.int .i64 0) (.bool false) (.int .i64 0) (.string ⟨#[]⟩) (.slice none 0 0) (.slice none 0 0)
      have HBF := hmk (belowG BW sg (Nat.le_refl _))
      clear sg NW BW
      go_wp2_with fail
      (try simp only [Exit.inBlock, Exit.then])
      refine bodyPost_ret (v := .tuple #[.agg #[.int .i64 0, .bool false, .int .i64 0, .string ⟨#[]⟩, .slice none 0 0, .slice none 0 0], .int .i64 (-1)]) ?_ rfl ⟨HBF.out, .inr ⟨by rw [HD.out, HP.out]; rfl, rfl⟩⟩
      rw [results_cell_tmp rfl]
      go_simp
  ·have y1 : ¬ (k : Int) < s.size := by omega
   clear HQ
   go_enter Tryz.func54, Tryz.ntmps54
   go_wp2_with fail
   generalize w.alloc z46 = wA at *
   go_loopw [9] (fun e wr => ∃ i m : Nat, m <= s.size /\ AtP m k i /\ e = .int .i64 (m : Int) /\ wA = wr /\ Hid ((s.data.toList.drop k).takeWhile (fun x => wrdB x.toNat) = (s.data.toList.drop k).take i ++ ((s.data.toList.drop k).drop i).takeWhile (fun x => wrdB x.toNat))) (fun e _ => s.size - (RowKit.intOf e).toNat)
   case atStart => exact ⟨0, k, hk, (rfl : k = k + 0), rfl, rfl, by show _ = _; simp⟩
   case round =>
    obtain ⟨i, m, hm, HM, rfl, rfl, HTW⟩ := hrel
    by_cases hms : m < s.size
    ·exfalso
     have e : m = k + i := HM
     omega
    ·have a1 : ¬ (m : Int) < s.size := by omega
     have HTK := hmk (tw_end HTW.out (by have e : m = k + i := HM; rw [List.drop_drop, <- e, drop_endN s m hms]))
     clear HTW CL
     have hkm : (k : Int) <= m := by have : m = k + i := HM; omega
     have hm1 : (m : Int) <= s.size := by omega
     obtain ⟨hx1, hx2⟩ := EX.out m (by omega) hm (by rw [HTK.out]; have : m = k + i := HM; rw [show m - k = i by omega])
     have HLN : Hid (k + ((s.data.toList.drop k).takeWhile (fun x => wrdB x.toNat)).length = m) := by
      show _ = _
      have e : m = k + i := HM
      rw [HTK.out, List.length_take, List.length_drop, HLS.out]; omega
     obtain ⟨L, hL⟩ : ∃ L : Nat, Hid ((s.extract k m).size = L) := ⟨_, rfl⟩
     have kc : (convert 9 101 (.string (s.extract k m))).run Tryz.prog wA = .ok (.slice (some ⟨wA.heap.size, 0, none⟩) L (grownCap wA L 0 5)) (bytesWorld wA 5 (s.extract k m)) := by
      rw [<- hL.out]
      exact Go.Lib.run_convert_string_bytes wA 9 101 5 (s.extract k m) Tryz.underlying9 Tryz.underlying101 Tryz.underlying5
     have CP : Hid (Calls Tryz.prog 83 #[.slice (some ⟨wA.heap.size, 0, none⟩) L (grownCap wA L 0 5), .int .i64 0] (bytesWorld wA 5 (s.extract k m)) (PjP (parP ((s.data.toList.drop k).takeWhile (fun x => wrdB x.toNat))) (bytesWorld wA 5 (s.extract k m)))) := by
      have c := dparse_any (s.extract k m) (some ⟨wA.heap.size, 0, none⟩) (grownCap wA L 0 5) (bytesWorld wA 5 (s.extract k m)) hx2 (by rw [ByteArray.size_extract]; omega) (fun W hW => cv_back wA (s.extract k m) W hW _)
      rw [hx1, hL.out] at c
      exact c
     have bB := bytesWorld_below wA 5 (s.extract k m)
     have HM' := hmk HM
     clear hx1 hx2 hL HTK EX HM
     go_wp2_with fail
     refine CP.out.mono ?_
     rintro e w1 ⟨b1, hres⟩
     have bb := bB.trans (b1.mono bB.size)
     have HRES := hmk hres
     clear CP b1 bB hres kc
     rcases HRES.out with ⟨vk, vb, vi, hp, rfl⟩ | ⟨hp, bad, er, her, rfl⟩
     ·have HP := hmk hp
      have b2 := bb.alloc bb.size (oV vk vb vi ⟨#[]⟩ none 0 0 none 0 0)
      have m2 := heap_alloc_new w1 (oV vk vb vi ⟨#[]⟩ none 0 0 none 0 0)
      clear hp HRES
      obtain ⟨NW, BW⟩ := KA.out _ b2
      clear b2 bb KA
      obtain ⟨p0, p1, p2, p3, p4, p5⟩ := cN6 m2
      obtain ⟨q0, q1, q2, q3, q4, q5⟩ := cN6 NW
      have kf : ∀ ii, (w1.alloc (oV vk vb vi ⟨#[]⟩ none 0 0 none 0 0)).frozen? ⟨w.heap.size, ii, none⟩ = false := frozen_of_block NW
      have sg := st6_grown (w1.alloc (oV vk vb vi ⟨#[]⟩ none 0 0 none 0 0)) w.heap.size (.int .i64 vk) (.bool vb) (.int .i64 vi) (.string ⟨#[]⟩) (.slice none 0 0) (.slice none 0 0)
      have HBF := hmk (belowG BW sg (Nat.le_refl _))
      clear sg NW BW
      go_wp2_with fail
      (try simp only [Exit.inBlock, Exit.then])
      refine bodyPost_ret (v := .tuple #[.agg #[.int .i64 vk, .bool vb, .int .i64 vi, .string ⟨#[]⟩, .slice none 0 0, .slice none 0 0], .int .i64 m]) ?_ rfl ⟨HBF.out, .inl ⟨_, _, _, _, m, by rw [HD.out, HP.out, Option.map_some, HLN.out], rfl⟩⟩
      rw [results_cell_tmp rfl]
      go_simp
     ·have HP := hmk hp
      have x0 : (er != 0) = true := by rw [bne_iff_ne]; exact her
      have b2 := bb.alloc bb.size oN
      clear hp HRES her
      obtain ⟨NW, BW⟩ := KA.out _ b2
      clear b2 bb KA
      obtain ⟨q0, q1, q2, q3, q4, q5⟩ := cN6 NW
      have kf : ∀ ii, (w1.alloc oN).frozen? ⟨w.heap.size, ii, none⟩ = false := frozen_of_block NW
      have sg := st6_grown (w1.alloc oN) w.heap.size (.int .i64 0) (.bool false) (.int .i64 0) (.string ⟨#[]⟩) (.slice none 0 0) (.slice none 0 0)
      have HBF := hmk (belowG BW sg (Nat.le_refl _))
      clear sg NW BW
      go_wp2_with fail
      (try simp only [Exit.inBlock, Exit.then])
      refine bodyPost_ret (v := .tuple #[.agg #[.int .i64 0, .bool false, .int .i64 0, .string ⟨#[]⟩, .slice none 0 0, .slice none 0 0], .int .i64 (-1)]) ?_ rfl ⟨HBF.out, .inr ⟨by rw [HD.out, HP.out]; rfl, rfl⟩⟩
      rw [results_cell_tmp rfl]
      go_simp
end Go.Proofs.YtdgfjdhobdfglaaGreatDoor
set_option maxRecDepth 100000
namespace Go.Proofs.YtdgfjdhobdfglaaGreatDoor
open Go.RowKit Go.Lib
theorem dvl_app : ∀ (l : List UInt8) (acc u : Nat) (c : UInt8), dvl acc l = some u -> 48 <= c.toNat /\ c.toNat <= 57 -> dvl acc (l ++ [c]) = some (10 * u + (c.toNat - 48))
 | [], acc, u, c, h, hc => by
  have e : acc = u := Option.some.inj h
  subst e
  rw [List.nil_append, dvl, if_pos hc]; rfl
 | x :: l, acc, u, c, h, hc => by
  rw [dvl] at h
  split at h
  ·rename_i hx
   rw [List.cons_append, dvl, if_pos hx]
   exact dvl_app l _ u c h hc
  ·cases h
theorem dvl_dec : ∀ (n u : Nat), u <= n -> dvl 0 (decDigits u) = some u
 | n, u, hn => by
  by_cases h : u < 10
  ·rw [decDigits_one h, dvl, if_pos (by have := dig_ofNat u h; omega)]
   have := dig_ofNat u h
   rw [dvl]
   congr 1
   omega
  ·rw [decDigits, dif_neg h]
   have e := dig_ofNat (u % 10) (by omega)
   cases n with
   | zero => omega
   | succ n =>
    rw [dvl_app _ 0 (u / 10) _ (dvl_dec n (u / 10) (by omega)) (by omega)]
    congr 1
    omega
theorem dec_len : ∀ (n u : Nat), u < 10 ^ (n + 1) -> (decDigits u).length <= n + 1
 | n, u, h => by
  by_cases h1 : u < 10
  ·rw [decDigits_one h1]; simp
  ·rw [decDigits, dif_neg h1, List.length_append]
   cases n with
   | zero => simp at h; omega
   | succ n =>
    have := dec_len n (u / 10) (by rw [Nat.pow_succ] at h; omega)
    simp only [List.length_cons, List.length_nil]
    omega
theorem dec_head : ∀ (n u : Nat), u <= n -> 0 < u -> ∃ c t, decDigits u = c :: t /\ c ≠ 48
 | n, u, hn, h0 => by
  by_cases h : u < 10
  ·refine ⟨_, _, decDigits_one h, ?_⟩
   intro e
   have e1 := dig_ofNat u h
   rw [e] at e1
   have : (48 : UInt8).toNat = 48 := rfl
   omega
  ·cases n with
   | zero => omega
   | succ n =>
    obtain ⟨c, t, hc, hne⟩ := dec_head n (u / 10) (by omega) (by omega)
    exact ⟨c, t ++ [UInt8.ofNat (48 + u % 10)], by rw [decDigits, dif_neg h, hc]; rfl, hne⟩
theorem dbody_dec (mi : Bool) (u : Nat) (h : u < 10000000000000000000) : dbody mi (decDigits u) = dfin mi u := by
 have hl := dec_len 18 u h
 have hne := dec_ne u
 rw [dbody_3 (fun e => hne (List.length_eq_zero_iff.1 e)) ?_ (by omega), dvl_dec u u (Nat.le_refl _)]
 ·rfl
 ·rintro ⟨h1, h2⟩
  by_cases hu : u = 0
  ·subst hu
   rw [decDigits_one (by omega)] at h1
   simp at h1
  ·obtain ⟨c, t, hc, hn⟩ := dec_head u u (Nat.le_refl _) (by omega)
   rw [hc] at h2
   exact hn (Option.some.inj h2)
theorem dint_itoa (i : Int) (h : In64 i) : dint (itoa i) = some i := by
 obtain ⟨h1, h2⟩ := h
 unfold itoa
 by_cases hn : i < 0
 ·rw [if_pos hn]
  rw [dint, if_pos rfl, dbody_dec true _ (by omega), dfin]
  by_cases hm : i.natAbs = 9223372036854775808
  ·rw [if_pos ⟨rfl, hm⟩]
   congr 1
   omega
  ·rw [if_neg (fun h => hm h.2), if_neg (by omega), if_pos rfl]
   congr 1
   omega
 ·rw [if_neg hn]
  have hd := dec_dig i.toNat i.toNat (Nat.le_refl _)
  have hb := dbody_dec false i.toNat (by omega)
  cases hc : decDigits i.toNat with
  | nil => exact absurd hc (dec_ne _)
  | cons c t =>
   have h48 := hd c (by rw [hc]; simp)
   rw [dint, if_neg (by
    intro e
    rw [e] at h48
    have : (45 : UInt8).toNat = 45 := rfl
    omega), <- hc, hb, dfin, if_neg (fun h => by cases h.1), if_neg (by omega), if_neg (by decide)]
   congr 1
   omega
end Go.Proofs.YtdgfjdhobdfglaaGreatDoor
