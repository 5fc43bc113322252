import Derived.Test.YthgfomblodhoaaaDoorG19
import Derived.Deep.DeepCutAuto
import Derived.BigRegion
/- spun: lists turned round, the values of a map's first and last member exchanged, in its own memory. -/
set_option linter.unusedSimpArgs false
set_option linter.unusedVariables false
namespace Go.Proofs.YthgfomblodhoaaaDoor
open Go Go.RowKit Go.Lib
set_option maxHeartbeats 8000000 in
set_option maxRecDepth 100000 in
theorem spun_any (v : V) : ∀ (cs : List Value) (F : List Nat) (w : World), v.sp w cs F → F.Nodup → (∀ x ∈ F, x < w.heap.size) → v.wt ≤ 2147483648 →
    Calls Tryd.prog 43 #[.agg cs.toArray] w (SpPost v cs F w) := by
  induction v using V.ind_v with
  | h k b i s l m ihl ihm =>
  intro cs F w hsp hnd hF hwt
  rw [V.sp] at hsp
  obtain ⟨al, cl, bl, am, cm, bm, F1, F2, rfl, hk, hi, hs, hal, ham, hBl, hBm, hE, hFF, rfl⟩ := hsp
  rw [V.wt] at hwt
  have hlm := wtL_len l
  have hmm := wtM_len m
  have hnd' := hnd
  rw [List.append_assoc, List.nodup_append, List.nodup_append] at hnd'
  obtain ⟨⟨n1, n2, n12⟩, n3, n4⟩ := hnd'
  obtain ⟨cf, ff, p1, p2, p3⟩ := spE_open l hE n1
  obtain ⟨df, gf, r1, r2, r3⟩ := spF_open m hFF n2
  have C : Hid (SpC l m ff gf w.heap.size) := ⟨p2, r2, fun a c ha hc x hx hx' => n12 x (p3 a ha x hx) x (r3 c hc x hx') rfl, fun a ha x hx => hF x (by simp [p3 a ha x hx]), fun a ha x hx => hF x (by simp [r3 a ha x hx])⟩
  have B0 : Below w.heap.size w (w.alloc (.cells #[.int .i64 k, .bool b, .int .i64 i, .string s, .slice al l.length cl, .slice am m.length cm] 25)) := one_belowG _ _
  have hz0 : (w.alloc (.cells #[.int .i64 k, .bool b, .int .i64 i, .string s, .slice al l.length cl, .slice am m.length cm] 25)).heap.size = w.heap.size + 1 := alloc_size _ _
  have hb0 := heap_alloc_new w (.cells #[.int .i64 k, .bool b, .int .i64 i, .string s, .slice al l.length cl, .slice am m.length cm] 25)
  have S0 : Hid (Sp1 l m cf df ff gf (· ∈ F1 ++ F2) w 0 0 l m (w.alloc (.cells #[.int .i64 k, .bool b, .int .i64 i, .string s, .slice al l.length cl, .slice am m.length cm] 25))) :=
    ⟨Ch.below B0, rfl, rfl, fun a h h' => by omega, fun a h _ _ => ⟨V.sp_keep _ (fun x hx => B0.block x (C.out.pn a h x hx)) (p1 a h).2.1, rfl⟩, rfl, rfl, fun a h h' => rfl, fun a h h' => by omega, fun a h _ _ => ⟨V.sp_keep _ (fun x hx => B0.block x (C.out.rn a h x hx)) (r1 a h).2.2.1, rfl⟩⟩
  have HX : Hid (∀ (wr : World), Ch (· ∈ F1 ++ F2) (w.alloc (.cells #[.int .i64 k, .bool b, .int .i64 i, .string s, .slice al l.length cl, .slice am m.length cm] 25)) wr → wr.heap[w.heap.size]? = some (.cells #[.int .i64 k, .bool b, .int .i64 i, .string s, .slice al l.length cl, .slice am m.length cm] 25) ∧ (0 < l.length → wr.heap[bl]? = w.heap[bl]?) ∧ (0 < m.length → wr.heap[bm]? = w.heap[bm]?)) := by
    intro wr c
    refine ⟨(c.blk _ (by omega) (fun q => ?_)).trans hb0, fun h => ?_, fun h => ?_⟩
    · have := hF _ (by rw [List.append_assoc]; exact List.mem_append_left _ q); omega
    · have hx := hF bl (by simp [mem_ob, h])
      exact (c.blk bl (by omega) (fun q => n4 bl q bl (List.mem_append_left _ (mem_ob.2 ⟨h, rfl⟩)) rfl)).trans (B0.block bl hx)
    · have hx := hF bm (by simp [mem_ob, h])
      exact (c.blk bm (by omega) (fun q => n4 bm q bm (List.mem_append_right _ (mem_ob.2 ⟨h, rfl⟩)) rfl)).trans (B0.block bm hx)
  have S0' : Hid (Sp1 l m cf df ff gf (· ∈ F1 ++ F2) (w.alloc (.cells #[.int .i64 k, .bool b, .int .i64 i, .string s, .slice al l.length cl, .slice am m.length cm] 25)) 0 0 l m (w.alloc (.cells #[.int .i64 k, .bool b, .int .i64 i, .string s, .slice al l.length cl, .slice am m.length cm] 25))) := ⟨Ch.refl _ _, S0.out.ll, S0.out.lw, S0.out.le, S0.out.lt, S0.out.ml, S0.out.mw, S0.out.mk_, S0.out.me, S0.out.mt⟩
  have P1 := hmk p1
  have R1 := hmk r1
  have P3 : Hid (∀ a, a < l.length → ∀ x ∈ ff a, x ∈ F1 ++ F2) := fun a ha x hx => List.mem_append_left _ (p3 a ha x hx)
  have R3 : Hid (∀ a, a < m.length → ∀ x ∈ gf a, x ∈ F1 ++ F2) := fun a ha x hx => List.mem_append_right _ (r3 a ha x hx)
  have P3b := hmk p3
  have R3b := hmk r3
  have IHL := hmk ihl
  have IHM := hmk ihm
  have HF := hmk hF
  have HND := hmk hnd
  have HBl := hmk hBl
  have HBm := hmk hBm
  have hN : w.heap.size ≤ (w.alloc (.cells #[.int .i64 k, .bool b, .int .i64 i, .string s, .slice al l.length cl, .slice am m.length cm] 25)).heap.size := by omega
  have BW := hmk B0
  clear p1 p2 p3 r1 r2 r3 hE hFF n1 n2 n12 n3 n4 S0 hb0 hF hnd hBl hBm ihl ihm B0
  go_enter Tryd.func43, Tryd.ntmps43
  go_wp2_with fail
  generalize w.alloc (.cells #[.int .i64 k, .bool b, .int .i64 i, .string s, .slice al l.length cl, .slice am m.length cm] 25) = w0 at *
  go_loopw [2] (fun e wr => ∃ (j : Nat) (l' : List V), j ≤ l.length ∧ e = .int .i64 (j : Int) ∧ Hid (Sp1 l m cf df ff gf (· ∈ F1 ++ F2) w0 j 0 l' m wr)) (fun e _ => l.length - (RowKit.intOf e).toNat)
  case atStart => exact ⟨0, l, by omega, rfl, S0'⟩
  case round =>
    clear S0'
    obtain ⟨j, l', hj, rfl, HS⟩ := hrel
    obtain ⟨hbx, hbl, hbm⟩ := HX.out wr HS.out.ch
    have d4 : wr.cell? ⟨w.heap.size, 4, none⟩ = some (.slice al l.length cl) := by rw [cell_of_block hbx]; rfl
    by_cases hjl : j < l.length
    · have y1 : (j : Int) < l.length := by omega
      obtain rfl : al = some ⟨bl, 0, none⟩ := hal.at_.resolve_left (by omega)
      have hll := HS.out.ll
      have hsj := (HS.out.lt j hjl (by omega) (Nat.le_refl _)).1
      have hrow := (P1.out j hjl).1.keep (hbl (by omega))
      have hwj : (l[j]).wt ≤ 2147483648 := by have := wtL_mem (List.getElem_mem hjl); omega
      have ih := hmk (IHL.out l[j] (List.getElem_mem hjl) (cf j) (ff j) wr hsj (P1.out j hjl).2.2 (fun x hx => by have := C.out.pn j hjl x hx; have := HS.out.ch.size; omega) hwj)
      obtain ⟨ek, eb, ei, es, eal, enl, ecl, eam, enm, ecm, ecs⟩ := sp_ten hsj
      rw [ecs, Nat.zero_add] at hrow
      have ih2 := ih.out
      rw [ecs] at ih2
      obtain ⟨q0, q1, q2, q3, q4, q5⟩ := row6 hrow
      have HEC := hmk ecs
      clear hrow hsj hbx hbl hbm ih ecs
      go_wp2_with fail
      refine ih2.mono ?_
      rintro e w3 ⟨rfl, c3, v', hw3, hv3⟩
      have HN := hmk (HS.out.nextL C.out hN hjl (P3.out j hjl) c3 hw3 (by rw [HEC.out]; exact hv3))
      clear HS ih2 c3 hw3 hv3 d4 q0 q1 q2 q3 q4 q5
      go_wp2_with fail
      go_roundw
      case rel => exact ⟨j + 1, _, by omega, by go_num, HN⟩
      case measure => simp [RowKit.intOf]; omega
    · obtain rfl : j = l.length := by omega
      have y1 : ¬ (l.length : Int) < l.length := by omega
      clear hbx hbl hbm
      go_wp2_with fail
      clear d4
      obtain ⟨wA, hwA⟩ : ∃ wA, wA = wr := ⟨wr, rfl⟩
      subst hwA
      go_loopw [3] (fun e wr => ∃ (j : Nat) (m' : List Mem), j ≤ m.length ∧ e = .int .i64 (j : Int) ∧ Hid (Sp1 l m cf df ff gf (· ∈ F1 ++ F2) w0 l.length j l' m' wr)) (fun e _ => m.length - (RowKit.intOf e).toNat)
      case atStart => exact ⟨0, m, by omega, rfl, HS⟩
      case round =>
        clear HS
        obtain ⟨j, m', hj, rfl, HS⟩ := hrel
        obtain ⟨hbx, hbl, hbm⟩ := HX.out wr HS.out.ch
        have d5 : wr.cell? ⟨w.heap.size, 5, none⟩ = some (.slice am m.length cm) := by rw [cell_of_block hbx]; rfl
        by_cases hjl : j < m.length
        · have y1 : (j : Int) < m.length := by omega
          obtain rfl : am = some ⟨bm, 0, none⟩ := ham.at_.resolve_left (by omega)
          have hml := HS.out.ml
          have hsj := (HS.out.mt j hjl (by omega) (Nat.le_refl _)).1
          have hrow := (R1.out j hjl).2.1.keep (hbm (by omega))
          have hwj : (m[j]).2.wt ≤ 2147483648 := by have := wtM_mem (List.getElem_mem hjl); omega
          have ih := hmk (IHM.out m[j] (List.getElem_mem hjl) (df j) (gf j) wr hsj (R1.out j hjl).2.2.2 (fun x hx => by have := C.out.rn j hjl x hx; have := HS.out.ch.size; omega) hwj)
          obtain ⟨ek, eb, ei, es, eal, enl, ecl, eam, enm, ecm, ecs⟩ := sp_ten hsj
          rw [ecs, Nat.zero_add] at hrow
          have ih2 := ih.out
          rw [ecs] at ih2
          obtain ⟨q, q0, q1, q2, q3, q4, q5⟩ := row7 hrow
          have HEC := hmk ecs
          clear hrow hsj hbx hbl hbm ih ecs
          go_wp2_with fail
          refine ih2.mono ?_
          rintro e w3 ⟨rfl, c3, v', hw3, hv3⟩
          obtain ⟨m'', hN2⟩ := HS.out.nextM C.out hN hjl (R3.out j hjl) c3 hw3 (by rw [HEC.out]; exact hv3)
          have HN := hmk hN2
          clear HS ih2 c3 hw3 hv3 d5 q q0 q1 q2 q3 q4 q5 hN2
          go_wp2_with fail
          go_roundw
          case rel => exact ⟨j + 1, _, by omega, by go_num, HN⟩
          case measure => simp [RowKit.intOf]; omega
        · obtain rfl : j = m.length := by omega
          have y1 : ¬ (m.length : Int) < m.length := by omega
          go_wp2_with fail
          clear d5
          obtain ⟨w2, hw2⟩ : ∃ w2, w2 = wr := ⟨wr, rfl⟩
          subst hw2
          have c2 := hmk ((Ch.below BW.out).trans HS.out.ch)
          have T3 : Hid (Sp3 l.length bl cl (wtL l) (· ∈ F1) w2 l' cf w2) := ⟨Ch.refl _ _, fun h => (HBl.out h).keep (hbl h), HS.out.ll, HS.out.lw, fun a ha => by
            have ha' : a < l.length := by have := HS.out.ll; omega
            have hr := (P1.out a ha').1.keep (hbl (by omega))
            rw [Nat.zero_add] at hr
            exact ⟨hr, V.lies_keep (fun h => h) (fun _ _ => rfl) (P3b.out a ha') _ (HS.out.le a ha ha')⟩⟩
          have HB2 := hmk hbx
          have hbw : w.heap.size < w2.heap.size := heap_lt hbx
          have hbl2 : 0 < l.length → bl < w.heap.size := fun h => HF.out bl (by simp [mem_ob, h])
          have hbm2 : 0 < m.length → bm < w.heap.size := fun h => HF.out bm (by simp [mem_ob, h])
          have hcl : l.length ≤ cl := hal.le
          have hcm : m.length ≤ cm := ham.le
          have HBM2 := hmk hbm
          clear hbx hbl hbm
          go_loopw [4] (fun e wr => ∃ (j : Nat) (l'' : List V) (cg : Nat → List Value), j ≤ l.length ∧ e = .int .i64 (j : Int) ∧ Hid (Sp3 l.length bl cl (wtL l) (· ∈ F1) w2 l'' cg wr)) (fun e _ => l.length - (RowKit.intOf e).toNat)
          case atStart => exact ⟨0, l', cf, by omega, rfl, T3⟩
          case round =>
            clear T3
            obtain ⟨j, l'', cg, hj, rfl, H3⟩ := hrel
            have hbx : wr.heap[w.heap.size]? = some (.cells #[.int .i64 k, .bool b, .int .i64 i, .string s, .slice al l.length cl, .slice am m.length cm] 25) := (H3.out.ch.blk _ hbw (fun q => by have := hbl2 q.1; omega)).trans HB2.out
            have d4 : wr.cell? ⟨w.heap.size, 4, none⟩ = some (.slice al l.length cl) := by rw [cell_of_block hbx]; rfl
            by_cases hjl : 2 * j + 1 < l.length
            · have y1 : 2 * (j : Int) + 1 < l.length := by omega
              obtain rfl : al = some ⟨bl, 0, none⟩ := hal.at_.resolve_left (by omega)
              obtain ⟨z, hz⟩ : ∃ z, z = l.length - 1 - j := ⟨_, rfl⟩
              have hzi : (l.length : Int) - 1 - j = z := by omega
              have hll := H3.out.ll
              have ra := H3.out.le j (by omega)
              have rz := H3.out.le z (by omega)
              obtain ⟨ek, eb, ei, es, eal, enl, ecl, eam, enm, ecm, ea⟩ := V.ten ra.2
              obtain ⟨fk, fb, fi, fs, fal, fnl, fcl, fam, fnm, fcm, ez⟩ := V.ten rz.2
              have rowa := ra.1
              have rowz := rz.1
              rw [ea] at rowa
              rw [ez] at rowz
              obtain ⟨q0, q1, q2, q3, q4, q5⟩ := row6 rowa
              obtain ⟨t0, t1, t2, t3, t4, t5⟩ := row6 rowz
              have HEA := hmk ea
              have HEZ := hmk ez
              have hbz : bl < wr.heap.size := by have := hbl2 (by omega); have := H3.out.ch.size; omega
              have hyz : (z : Int) < l.length := by omega
              have HZ := hmk hz
              clear ra rz ea ez rowa rowz hz
              go_wp2_with fail
              have bx : Below wr.heap.size wr (wr.alloc (.cells #[.int .i64 ek, .bool eb, .int .i64 ei, .string es, .slice eal enl ecl, .slice eam enm ecm] 25)) := one_belowG _ _
              have xb := heap_alloc_new wr (.cells #[.int .i64 ek, .bool eb, .int .i64 ei, .string es, .slice eal enl ecl, .slice eam enm ecm] 25)
              have hxs : (wr.alloc (.cells #[.int .i64 ek, .bool eb, .int .i64 ei, .string es, .slice eal enl ecl, .slice eam enm ecm] 25)).heap.size = wr.heap.size + 1 := alloc_size _ _
              clear d4 q0 q1 q2 q3 q4 q5 t0 t1 t2 t3 t4 t5
              generalize wr.alloc (.cells #[.int .i64 ek, .bool eb, .int .i64 ei, .string es, .slice eal enl ecl, .slice eam enm ecm] 25) = wx at *
              have hwr : w.heap.size < wr.heap.size := heap_lt hbx
              have d4 : wx.cell? ⟨w.heap.size, 4, none⟩ = some (.slice (some ⟨bl, 0, none⟩) l.length cl) := by rw [cell_of_block ((bx.block _ hwr).trans hbx)]; rfl
              have rowa := (H3.out.le j (by omega)).1.keep (bx.block _ hbz)
              have rowz := (H3.out.le z (by have := HZ.out; omega)).1.keep (bx.block _ hbz)
              rw [HEA.out] at rowa
              rw [HEZ.out] at rowz
              obtain ⟨q0, q1, q2, q3, q4, q5⟩ := row6 rowa
              obtain ⟨t0, t1, t2, t3, t4, t5⟩ := row6 rowz
              have bk := (H3.out.k (by omega)).keep (bx.block _ hbz)
              have kf := bk.frozen
              have HBK := hmk bk
              have HBX := hmk bx
              have HXB := hmk xb
              have HBB := hmk hbx
              clear rowa rowz bk bx xb hbx
              go_region
              have s1 := hmk ((st6 (c0 := .int .i64 fk) (c1 := .bool fb) (c2 := .int .i64 fi) (c3 := .string fs) (c4 := .slice fal fnl fcl) (c5 := .slice fam fnm fcm) HBK.out (show j * 6 + 6 ≤ cl * 6 by omega)).drew)
              clear d4 q0 q1 q2 q3 q4 q5 t0 t1 t2 t3 t4 t5 kf
              generalize ((((((wx.setCell ⟨bl, j * 6, none⟩ (.int .i64 fk)).setCell ⟨bl, j * 6 + 1, none⟩ (.bool fb)).setCell ⟨bl, j * 6 + 2, none⟩ (.int .i64 fi)).setCell ⟨bl, j * 6 + 3, none⟩ (.string fs)).setCell ⟨bl, j * 6 + 4, none⟩ (.slice fal fnl fcl)).setCell ⟨bl, j * 6 + 5, none⟩ (.slice fam fnm fcm)).drew = w3 at *
              have hbw2 : bl ≠ w.heap.size := by have := hbl2 (by omega); omega
              have d4 : w3.cell? ⟨w.heap.size, 4, none⟩ = some (.slice (some ⟨bl, 0, none⟩) l.length cl) := by rw [cell_of_block ((s1.out.o_ _ (fun q => hbw2 q.symm)).trans ((HBX.out.block _ hwr).trans HBB.out))]; rfl
              have hxb := (s1.out.o_ wr.heap.size (by omega)).trans HXB.out
              have x0 : w3.cell? ⟨wr.heap.size, 0, none⟩ = some (.int .i64 ek) := by rw [cell_of_block hxb]; rfl
              have x1 : w3.cell? ⟨wr.heap.size, 1, none⟩ = some (.bool eb) := by rw [cell_of_block hxb]; rfl
              have x2 : w3.cell? ⟨wr.heap.size, 2, none⟩ = some (.int .i64 ei) := by rw [cell_of_block hxb]; rfl
              have x3 : w3.cell? ⟨wr.heap.size, 3, none⟩ = some (.string es) := by rw [cell_of_block hxb]; rfl
              have x4 : w3.cell? ⟨wr.heap.size, 4, none⟩ = some (.slice eal enl ecl) := by rw [cell_of_block hxb]; rfl
              have x5 : w3.cell? ⟨wr.heap.size, 5, none⟩ = some (.slice eam enm ecm) := by rw [cell_of_block hxb]; rfl
              have hz6 : z * 6 + 6 ≤ cl * 6 := by have := HZ.out; omega
              obtain ⟨v0, k0⟩ := s1.out.k.cell (z * 6) (by omega)
              obtain ⟨v1, k1⟩ := s1.out.k.cell (z * 6 + 1) (by omega)
              obtain ⟨v2, k2⟩ := s1.out.k.cell (z * 6 + 2) (by omega)
              obtain ⟨v3, k3⟩ := s1.out.k.cell (z * 6 + 3) (by omega)
              obtain ⟨v4, k4⟩ := s1.out.k.cell (z * 6 + 4) (by omega)
              obtain ⟨v5, k5⟩ := s1.out.k.cell (z * 6 + 5) (by omega)
              have kf := s1.out.k.frozen
              have s2 := hmk (st6 (c0 := .int .i64 ek) (c1 := .bool eb) (c2 := .int .i64 ei) (c3 := .string es) (c4 := .slice eal enl ecl) (c5 := .slice eam enm ecm) s1.out.k hz6)
              have HN : Hid (∃ l2, Sp3 l.length bl cl (wtL l) (· ∈ F1) w2 l2 _ _) := H3.out.swap hcl (show j < z by have := HZ.out; omega) (show z < l.length by have := HZ.out; omega) HBX.out hbz (by rw [HEZ.out]; exact s1.out) (by rw [HEA.out]; exact s2.out)
              clear s1 s2 hxb H3 HBK HBX HXB HBB
              go_wp2_with fail
              go_roundw
              case rel =>
                obtain ⟨l2, h2⟩ := HN.out
                exact ⟨j + 1, l2, _, by omega, by go_num, h2⟩
              case measure => simp [RowKit.intOf]; omega
            · have y1 : ¬ 2 * (j : Int) + 1 < l.length := by omega
              have d5 : wr.cell? ⟨w.heap.size, 5, none⟩ = some (.slice am m.length cm) := by rw [cell_of_block hbx]; rfl
              have hbne : 0 < m.length → ¬ (0 < l.length ∧ bm = bl) := fun a q => by
                have := HND.out
                rw [List.nodup_append] at this
                exact this.2.2 bl (List.mem_append_right _ (mem_ob.2 ⟨q.1, rfl⟩)) bm (mem_ob.2 ⟨a, rfl⟩) q.2.symm
              have hbmw : 0 < m.length → wr.heap[bm]? = w.heap[bm]? := fun a => (H3.out.ch.blk bm (by have := hbm2 a; omega) (hbne a)).trans (HBM2.out a)
              have T4 : Hid (Sp4 m.length bm cm (wtM m) (· ∈ F2) w2 wr m' df wr) := ⟨Ch.refl _ _, fun a => (HBm.out a).keep (hbmw a), HS.out.ml, HS.out.mw, fun a ha => by
                have ha' : a < m.length := by have := HS.out.ml; omega
                have hr := (R1.out a ha').2.1.keep (hbmw (by omega))
                rw [Nat.zero_add, ← HS.out.mk_ a ha' ha] at hr
                have hs' := (R1.out a ha').1
                rw [← HS.out.mk_ a ha' ha] at hs'
                exact ⟨hs', hr, V.lies_keep (fun h => h) (fun _ _ => rfl) (R3b.out a ha') _ (HS.out.me a ha ha')⟩⟩
              have HBB := hmk hbx
              clear hbx
              by_cases hm1 : 1 < m.length
              · have y2 : (1 : Int) < m.length := by omega
                obtain rfl : am = some ⟨bm, 0, none⟩ := ham.at_.resolve_left (by omega)
                have hml := T4.out.ml
                have hm0 : 0 < m'.length := by omega
                have ra := T4.out.me 0 hm0
                obtain ⟨ek, eb, ei, es, eal, enl, ecl, eam, enm, ecm, ea⟩ := V.ten ra.2.2
                have rowa := ra.2.1
                rw [ea] at rowa
                obtain ⟨q, q0, q1, q2, q3, q4, q5⟩ := row7 rowa
                obtain ⟨z, hz⟩ : ∃ z, z = m.length - 1 := ⟨_, rfl⟩
                have hzi : (m.length : Int) - 1 = z := by omega
                have hzm : z < m'.length := by omega
                have rz := T4.out.me z hzm
                obtain ⟨fk, fb, fi, fs, fal, fnl, fcl, fam, fnm, fcm, ez⟩ := V.ten rz.2.2
                have HEA := hmk ea
                have HEZ := hmk ez
                have hbz : bm < wr.heap.size := by have := hbm2 (by omega); have := H3.out.ch.size; omega
                have hyz : (z : Int) < m.length := by omega
                have y0 : (0 : Int) < m.length := by omega
                have HZ := hmk hz
                simp only [Nat.zero_mul, Nat.zero_add] at q q0 q1 q2 q3 q4 q5
                clear ra rz ea ez rowa hz
                go_wp2_with fail
                have bx : Below wr.heap.size wr (wr.alloc (.cells #[.int .i64 ek, .bool eb, .int .i64 ei, .string es, .slice eal enl ecl, .slice eam enm ecm] 25)) := one_belowG _ _
                have xb := heap_alloc_new wr (.cells #[.int .i64 ek, .bool eb, .int .i64 ei, .string es, .slice eal enl ecl, .slice eam enm ecm] 25)
                have hxs : (wr.alloc (.cells #[.int .i64 ek, .bool eb, .int .i64 ei, .string es, .slice eal enl ecl, .slice eam enm ecm] 25)).heap.size = wr.heap.size + 1 := alloc_size _ _
                clear d4 d5 q q0 q1 q2 q3 q4 q5
                generalize wr.alloc (.cells #[.int .i64 ek, .bool eb, .int .i64 ei, .string es, .slice eal enl ecl, .slice eam enm ecm] 25) = wx at *
                have hwr : w.heap.size < wr.heap.size := heap_lt HBB.out
                have d5 : wx.cell? ⟨w.heap.size, 5, none⟩ = some (.slice (some ⟨bm, 0, none⟩) m.length cm) := by rw [cell_of_block ((bx.block _ hwr).trans HBB.out)]; rfl
                have rowz := (T4.out.me z hzm).2.1.keep (bx.block _ hbz)
                rw [HEZ.out] at rowz
                obtain ⟨t_, t0, t1, t2, t3, t4, t5⟩ := row7 rowz
                have bk := (T4.out.k (by omega)).keep (bx.block _ hbz)
                have kf := bk.frozen
                obtain ⟨v0, k0⟩ := bk.cell 1 (by omega)
                obtain ⟨v1, k1⟩ := bk.cell 2 (by omega)
                obtain ⟨v2, k2⟩ := bk.cell 3 (by omega)
                obtain ⟨v3, k3⟩ := bk.cell 4 (by omega)
                obtain ⟨v4, k4⟩ := bk.cell 5 (by omega)
                obtain ⟨v5, k5⟩ := bk.cell 6 (by omega)
                have HBK := hmk bk
                have HBX := hmk bx
                have HXB := hmk xb
                clear rowz bk bx xb t_
                go_region
                have s1 : Hid (St6 bm 1 (cm * 7) 38 wx ((((((wx.setCell ⟨bm, 1, none⟩ (.int .i64 fk)).setCell ⟨bm, 2, none⟩ (.bool fb)).setCell ⟨bm, 3, none⟩ (.int .i64 fi)).setCell ⟨bm, 4, none⟩ (.string fs)).setCell ⟨bm, 5, none⟩ (.slice fal fnl fcl)).setCell ⟨bm, 6, none⟩ (.slice fam fnm fcm)).drew [.int .i64 fk, .bool fb, .int .i64 fi, .string fs, .slice fal fnl fcl, .slice fam fnm fcm]) := (st6 (c0 := .int .i64 fk) (c1 := .bool fb) (c2 := .int .i64 fi) (c3 := .string fs) (c4 := .slice fal fnl fcl) (c5 := .slice fam fnm fcm) HBK.out (show 1 + 6 ≤ cm * 7 by omega)).drew
                clear d5 t0 t1 t2 t3 t4 t5 kf k0 k1 k2 k3 k4 k5
                generalize ((((((wx.setCell ⟨bm, 1, none⟩ (.int .i64 fk)).setCell ⟨bm, 2, none⟩ (.bool fb)).setCell ⟨bm, 3, none⟩ (.int .i64 fi)).setCell ⟨bm, 4, none⟩ (.string fs)).setCell ⟨bm, 5, none⟩ (.slice fal fnl fcl)).setCell ⟨bm, 6, none⟩ (.slice fam fnm fcm)).drew = w3 at *
                have hbw2 : bm ≠ w.heap.size := by have := hbm2 (by omega); omega
                have d5 : w3.cell? ⟨w.heap.size, 5, none⟩ = some (.slice (some ⟨bm, 0, none⟩) m.length cm) := by rw [cell_of_block ((s1.out.o_ _ (fun q => hbw2 q.symm)).trans ((HBX.out.block _ hwr).trans HBB.out))]; rfl
                have hxb := (s1.out.o_ wr.heap.size (by omega)).trans HXB.out
                have x0 : w3.cell? ⟨wr.heap.size, 0, none⟩ = some (.int .i64 ek) := by rw [cell_of_block hxb]; rfl
                have x1 : w3.cell? ⟨wr.heap.size, 1, none⟩ = some (.bool eb) := by rw [cell_of_block hxb]; rfl
                have x2 : w3.cell? ⟨wr.heap.size, 2, none⟩ = some (.int .i64 ei) := by rw [cell_of_block hxb]; rfl
                have x3 : w3.cell? ⟨wr.heap.size, 3, none⟩ = some (.string es) := by rw [cell_of_block hxb]; rfl
                have x4 : w3.cell? ⟨wr.heap.size, 4, none⟩ = some (.slice eal enl ecl) := by rw [cell_of_block hxb]; rfl
                have x5 : w3.cell? ⟨wr.heap.size, 5, none⟩ = some (.slice eam enm ecm) := by rw [cell_of_block hxb]; rfl
                have hz6 : z * 7 + 1 + 6 ≤ cm * 7 := by have := HZ.out; omega
                obtain ⟨v0, k0⟩ := s1.out.k.cell (z * 7 + 1) (by omega)
                obtain ⟨v1, k1⟩ := s1.out.k.cell (z * 7 + 2) (by omega)
                obtain ⟨v2, k2⟩ := s1.out.k.cell (z * 7 + 3) (by omega)
                obtain ⟨v3, k3⟩ := s1.out.k.cell (z * 7 + 4) (by omega)
                obtain ⟨v4, k4⟩ := s1.out.k.cell (z * 7 + 5) (by omega)
                obtain ⟨v5, k5⟩ := s1.out.k.cell (z * 7 + 6) (by omega)
                have kf := s1.out.k.frozen
                have s2 := hmk (st6 (c0 := .int .i64 ek) (c1 := .bool eb) (c2 := .int .i64 ei) (c3 := .string es) (c4 := .slice eal enl ecl) (c5 := .slice eam enm ecm) s1.out.k hz6)
                have HN : Hid (∃ m2, Sp4 m.length bm cm (wtM m) (· ∈ F2) w2 wr m2 _ _) := T4.out.swap hcm (show 0 < z by have := HZ.out; omega) (show z < m.length by have := HZ.out; omega) HBX.out hbz (by rw [HEZ.out]; exact s1.out) (by rw [HEA.out]; exact s2.out)
                clear s1 s2 hxb HBK HBX HXB HBB T4
                go_wp2_with fail
                (try simp only [Exit.inBlock, Exit.then])
                refine bodyPost_ret (v := .tuple #[]) (results_none rfl _ _ _) rfl ?_
                obtain ⟨m2, h4⟩ := HN.out
                have HE := spn_end (b := b) hk hi hs hal ham HF.out HND.out c2.out H3.out h4
                first | exact HE | (rw [List.append_assoc, List.append_assoc] at HE; exact HE)
              · have y2 : ¬ (1 : Int) < m.length := by omega
                go_wp2_with fail
                (try simp only [Exit.inBlock, Exit.then])
                refine bodyPost_ret (v := .tuple #[]) (results_none rfl _ _ _) rfl ?_
                have HE := spn_end (b := b) hk hi hs hal ham HF.out HND.out c2.out H3.out T4.out
                first | exact HE | (rw [List.append_assoc, List.append_assoc] at HE; exact HE)
end Go.Proofs.YthgfomblodhoaaaDoor
