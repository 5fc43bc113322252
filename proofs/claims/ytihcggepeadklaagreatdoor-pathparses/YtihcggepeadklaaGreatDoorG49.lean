/- joined: RelA RelB RelC -/
import Derived.Test.YtihcggepeadklaaGreatDoorG31
/- The document's elem: a field, an item. -/
set_option linter.unusedSimpArgs false
set_option linter.unusedVariables false
namespace Go.Proofs.YtihcggepeadklaaGreatDoor
open Go.RowKit Go.Lib
theorem ba_cat (a b : List UInt8) : (⟨a.toArray⟩ : ByteArray) ++ ⟨b.toArray⟩ = ⟨(a ++ b).toArray⟩ := by
  apply ByteArray.ext
  simp [ByteArray.data_append]
theorem ba_size (a : List UInt8) : (⟨a.toArray⟩ : ByteArray).size = a.length := by show a.toArray.size = _; simp
set_option maxHeartbeats 4000000 in
set_option maxRecDepth 100000 in
theorem relem_one (nm : ByteArray) (am : Option Addr) (nk cm : Nat) (vk : Int) (vb : Bool) (vi : Int) (vs : ByteArray) (val : Option Addr) (vnl vcl : Nat) (vam : Option Addr) (vnm vcm : Nat) (w : World) (hs : nm.size ≤ 2147483648) (hV : validD nm.data.toList = true) :
    Calls Tryz.prog 35 #[.agg #[.int .i64 1, .string nm, .slice am nk cm, .int .i64 vk, .bool vb, .int .i64 vi, .string vs, .slice val vnl vcl, .slice vam vnm vcm]] w (SPost (46 :: nmT nm.data.toList) w) := by
  have nb := heap_alloc_new w (.cells #[.int .i64 1, .string nm, .slice am nk cm, .int .i64 vk, .bool vb, .int .i64 vi, .string vs, .slice val vnl vcl, .slice vam vnm vcm] 48)
  have m0 : (w.alloc (.cells #[.int .i64 1, .string nm, .slice am nk cm, .int .i64 vk, .bool vb, .int .i64 vi, .string vs, .slice val vnl vcl, .slice vam vnm vcm] 48)).cell? ⟨w.heap.size, 0, none⟩ = some (.int .i64 1) := by rw [cell_of_block nb]; rfl
  have m1 : (w.alloc (.cells #[.int .i64 1, .string nm, .slice am nk cm, .int .i64 vk, .bool vb, .int .i64 vi, .string vs, .slice val vnl vcl, .slice vam vnm vcm] 48)).cell? ⟨w.heap.size, 1, none⟩ = some (.string nm) := by rw [cell_of_block nb]; rfl
  have bA : Below w.heap.size w (w.alloc (.cells #[.int .i64 1, .string nm, .slice am nk cm, .int .i64 vk, .bool vb, .int .i64 vi, .string vs, .slice val vnl vcl, .slice vam vnm vcm] 48)) := (Below.refl _ w).alloc (Nat.le_refl _) _
  have C := hmk (rname_any nm (w.alloc (.cells #[.int .i64 1, .string nm, .slice am nk cm, .int .i64 vk, .bool vb, .int .i64 vi, .string vs, .slice val vnl vcl, .slice vam vnm vcm] 48)) hs hV)
  have hz := bA.size
  have hnl := nmT_len nm
  have HD := hmk (ba_cat [46] (nmT nm.data.toList))
  have HZ := ba_size (nmT nm.data.toList)
  clear nb
  unfold SPost at C ⊢
  rw [show (46 :: nmT nm.data.toList) = [46] ++ nmT nm.data.toList from rfl]
  generalize nmT nm.data.toList = nt at *
  generalize (⟨([46] ++ nt).toArray⟩ : ByteArray) = R at *
  generalize (⟨nt.toArray⟩ : ByteArray) = N at *
  have hN : N.size ≤ 12884901890 := by omega
  go_enter Tryz.func35, Tryz.ntmps35
  go_wp2_with fail
  refine C.out.mono ?_
  rintro e w1 ⟨rfl, b1⟩
  go_wp2_with fail
  go_ret
  exact ⟨by rw [← HD.out]; rfl, bA.trans (b1.mono hz)⟩
set_option maxHeartbeats 4000000 in
set_option maxRecDepth 100000 in
theorem relem_three (nm : ByteArray) (am : Option Addr) (nk cm : Nat) (vk : Int) (vb : Bool) (vi : Int) (vs : ByteArray) (val : Option Addr) (vnl vcl : Nat) (vam : Option Addr) (vnm vcm : Nat) (w : World) (hk : vk = 1 ∨ vk = 2 ∨ vk = 3) (hi : In64 vi) (hs : vs.size ≤ 2147483648) (hV : validD vs.data.toList = true) :
    Calls Tryz.prog 35 #[.agg #[.int .i64 3, .string nm, .slice am nk cm, .int .i64 vk, .bool vb, .int .i64 vi, .string vs, .slice val vnl vcl, .slice vam vnm vcm]] w (SPost (91 :: 61 :: (scT vk vb vi vs ++ [93])) w) := by
  have nb := heap_alloc_new w (.cells #[.int .i64 3, .string nm, .slice am nk cm, .int .i64 vk, .bool vb, .int .i64 vi, .string vs, .slice val vnl vcl, .slice vam vnm vcm] 48)
  let oB : Obj := .cells #[.int .i64 3, .string nm, .slice am nk cm, .int .i64 vk, .bool vb, .int .i64 vi, .string vs, .slice val vnl vcl, .slice vam vnm vcm] 48
  have m0 : (w.alloc oB).cell? ⟨w.heap.size, 0, none⟩ = some (.int .i64 3) := by rw [cell_of_block nb]; rfl
  have m3 : (w.alloc oB).cell? ⟨w.heap.size, 3, none⟩ = some (.int .i64 vk) := by rw [cell_of_block nb]; rfl
  have m4 : (w.alloc oB).cell? ⟨w.heap.size, 4, none⟩ = some (.bool vb) := by rw [cell_of_block nb]; rfl
  have m5 : (w.alloc oB).cell? ⟨w.heap.size, 5, none⟩ = some (.int .i64 vi) := by rw [cell_of_block nb]; rfl
  have m6 : (w.alloc oB).cell? ⟨w.heap.size, 6, none⟩ = some (.string vs) := by rw [cell_of_block nb]; rfl
  have m7 : (w.alloc oB).cell? ⟨w.heap.size, 7, none⟩ = some (.slice val vnl vcl) := by rw [cell_of_block nb]; rfl
  have m8 : (w.alloc oB).cell? ⟨w.heap.size, 8, none⟩ = some (.slice vam vnm vcm) := by rw [cell_of_block nb]; rfl
  have bA : Below w.heap.size w (w.alloc oB) := (Below.refl _ w).alloc (Nat.le_refl _) _
  have C := hmk (rtext_any vk vb vi vs val vnl vcl vam vnm vcm (w.alloc oB) hk hi hs hV)
  have hz := bA.size
  have hnl := scT_len (k := vk) (b := vb) (i := vi) (s := vs) hi
  have HD : Hid ((⟨#[91, 61]⟩ : ByteArray) ++ ⟨(scT vk vb vi vs).toArray⟩ ++ ⟨#[93]⟩ = ⟨(91 :: 61 :: (scT vk vb vi vs ++ [93])).toArray⟩) := by
    show _ = _
    have h1 := ba_cat [91, 61] (scT vk vb vi vs)
    have h2 := ba_cat ([91, 61] ++ scT vk vb vi vs) [93]
    rw [← h1] at h2
    rw [show (91 :: 61 :: (scT vk vb vi vs ++ [93])) = [91, 61] ++ scT vk vb vi vs ++ [93] by simp]
    exact h2
  have HZ := ba_size (scT vk vb vi vs)
  unfold SPost TxPost at *
  clear nb
  generalize (⟨(91 :: 61 :: (scT vk vb vi vs ++ [93])).toArray⟩ : ByteArray) = R at *
  generalize scT vk vb vi vs = st at *
  go_enter Tryz.func35, Tryz.ntmps35
  go_wp2_with fail
  refine C.out.mono ?_
  rintro e w1 ⟨v', rfl, o1, b1⟩
  have hcv := o1.conv
  generalize (⟨st.toArray⟩ : ByteArray) = N at *
  have hN : N.size ≤ 12884901990 := by omega
  have hN2 : ((⟨#[91, 61]⟩ : ByteArray) ++ N).size ≤ 12884902000 := by rw [ByteArray.size_append]; show 2 + N.size ≤ _; omega
  go_wp2_with fail
  go_ret
  exact ⟨by rw [← HD.out]; rfl, bA.trans (b1.mono hz)⟩
end Go.Proofs.YtihcggepeadklaaGreatDoor
/- The document's elem: a key. -/
namespace Go.Proofs.YtihcggepeadklaaGreatDoor
open Go.RowKit Go.Lib
def kS (m : List Mem) (j : Nat) : ByteArray := ⟨(91 :: kyV (m.take j)).toArray⟩
theorem kS_first {m : List Mem} (h : 0 < m.length) : kS m (0 + 1) = ((kS m 0 ++ ⟨(nmT (m[0]).1.data.toList).toArray⟩) ++ ⟨#[61]⟩) ++ ⟨(svT (m[0]).2).toArray⟩ := by
  apply ByteArray.ext
  apply Array.ext'
  simp only [kS, ByteArray.data_append, Array.toList_append]
  rw [kyV_take0 h, memT]
  simp [kyV]
theorem kS_more {m : List Mem} {j : Nat} (h : j < m.length) (h0 : j ≠ 0) : kS m (j + 1) = (((kS m j ++ ⟨#[44]⟩) ++ ⟨(nmT (m[j]).1.data.toList).toArray⟩) ++ ⟨#[61]⟩) ++ ⟨(svT (m[j]).2).toArray⟩ := by
  apply ByteArray.ext
  apply Array.ext'
  simp only [kS, ByteArray.data_append, Array.toList_append]
  rw [kyV_take h h0, memT]
  simp
theorem kS_end {m : List Mem} (h : 0 < m.length) : kS m m.length ++ ⟨#[93]⟩ = ⟨(kyT 91 m ++ [93]).toArray⟩ := by
  apply ByteArray.ext
  apply Array.ext'
  simp only [kS, ByteArray.data_append, Array.toList_append]
  rw [List.take_length, kyT_kyV 91 h]
theorem kS_len {m : List Mem} (j : Nat) (h : ∀ x ∈ m, in64V x.2) : (kS m j).size ≤ 1 + 40 * wtM m := by
  rw [kS, ba_size]
  have h1 := kyT_len (m.take j) 91 (fun x hx => h x (List.mem_of_mem_take hx))
  have h2 := wtM_take_le m j
  cases hl : m.take j with
  | nil => simp [kyV]
  | cons x t =>
    rw [hl] at h1
    have : (kyT 91 (x :: t)).length = (91 :: kyV (x :: t)).length := by rw [kyT_kyV 91 (by simp)]
    rw [hl] at h2
    omega
set_option maxHeartbeats 8000000 in
set_option maxRecDepth 100000 in
theorem relem_two (nm : ByteArray) (m : List Mem) (am : Option Addr) (cm bm om : Nat) (S : Nat → Prop) (vk : Int) (vb : Bool) (vi : Int) (vs : ByteArray) (val : Option Addr) (vnl vcl : Nat) (vam : Option Addr) (vnm vcm : Nat) (w : World)
    (ham : Headed am m.length cm bm om) (hm : liesM false w S m bm om) (hS : ∀ x, S x → x < w.heap.size) (hk : keysB m = true) (hwt : wtM m ≤ 2147483647) :
    Calls Tryz.prog 35 #[.agg #[.int .i64 2, .string nm, .slice am m.length cm, .int .i64 vk, .bool vb, .int .i64 vi, .string vs, .slice val vnl vcl, .slice vam vnm vcm]] w (SPost (kyT 91 m ++ [93]) w) := by
  have HM := hmk hm
  have HK := hmk hk
  have HI := hmk (in64_liesM hm)
  have hlen := wtM_len m
  have h0m := keysB_pos hk
  have HE := hmk (kS_end h0m)
  obtain rfl : am = some ⟨bm, om, none⟩ := ham.at_.resolve_left (by omega)
  let oB : Obj := .cells #[.int .i64 2, .string nm, .slice (some ⟨bm, om, none⟩) m.length cm, .int .i64 vk, .bool vb, .int .i64 vi, .string vs, .slice val vnl vcl, .slice vam vnm vcm] 48
  have nb := heap_alloc_new w oB
  have hza := alloc_size w oB
  have m0 : (w.alloc oB).cell? ⟨w.heap.size, 0, none⟩ = some (.int .i64 2) := by rw [cell_of_block nb]; rfl
  have bA : Below w.heap.size w (w.alloc oB) := (Below.refl _ w).alloc (Nat.le_refl _) _
  have HX : Hid (∀ W, Below (w.heap.size + 1) (w.alloc oB) W → W.heap[w.heap.size]? = some oB) := fun W hb => (hb.block _ (by omega)).trans nb
  have HKL : Hid (∀ j, (kS m j).size ≤ 1 + 40 * wtM m) := fun j => kS_len j HI.out
  have HR : Hid (kS m 0 = ⟨#[91]⟩) := hmk rfl
  clear hm hk nb
  unfold SPost
  generalize (⟨(kyT 91 m ++ [93]).toArray⟩ : ByteArray) = R at *
  go_enter Tryz.func35, Tryz.ntmps35
  go_wp2_with fail
  go_loopw [4, 5] (fun a e wr => ∃ j : Nat, j ≤ m.length ∧ a = .string (kS m j) ∧ e = .int .i64 (j : Int) ∧ Below (w.heap.size + 1) (w.alloc oB) wr) (fun _ e _ => m.length - (RowKit.intOf e).toNat)
  case atStart => exact ⟨0, by omega, by rw [HR.out], rfl, Below.refl _ _⟩
  case round =>
    obtain ⟨j, hj, rfl, rfl, bj⟩ := hrel
    have hkl := HKL.out j
    have c2 : wr.cell? ⟨w.heap.size, 2, none⟩ = some (.slice (some ⟨bm, om, none⟩) m.length cm) := by rw [cell_of_block (HX.out _ bj)]; rfl
    have bj' : Below (w.heap.size + 1) (w.alloc oB) wr := bj
    have hzr := bj.size
    clear m0
    by_cases hjl : j < m.length
    · have y1 : (j : Int) < m.length := by omega
      obtain ⟨hSb, hks, csj, hrow, hlj⟩ := liesM_get HM.out j hjl
      have hSb' := hS _ hSb
      have hrow' := hrow.keep ((bj.block bm (by omega)).trans (Below.heap_alloc w oB bm (by omega)))
      obtain ⟨hkv, hsz⟩ := keysB_get HK.out hjl
      have hwj := wtM_mem (List.getElem_mem hjl)
      by_cases hj0 : j = 0
      · have yd : decide ((0 : Int) < (j : Int)) = false := by simp [hj0]
        have yk : decide (0 < j) = false := by simp [hj0]
        have HS : Hid (kS m (j + 1) = ((kS m j ++ ⟨(nmT (m[j]).1.data.toList).toArray⟩) ++ ⟨#[61]⟩) ++ ⟨(svT (m[j]).2).toArray⟩) := by subst hj0; exact kS_first hjl
        clear hj0
        generalize hA : kS m j = A at *
        generalize (m[j]).1 = key at *
        generalize (m[j]).2 = xv at *
        obtain ⟨ek, eb, ei, es, el, em⟩ := xv
        rw [V.lies] at hlj
        obtain ⟨eal, ecl, ebl, eol, eam, ecm, ebm, eom, rfl, hek, hei, hes, _⟩ := hlj
        obtain ⟨q, q0, q1, q2, q3, q4, q5⟩ := row7 hrow'
        obtain ⟨hk3, hvs, rfl, rfl⟩ := sizS_good hsz
        have hes2 : es.size ≤ 2147483648 ∧ key.size ≤ 2147483648 := by simp only [V.wt] at hwj; omega
        have hnl := nmT_len key
        have hsl := scT_len (k := ek) (b := eb) (i := ei) (s := es) hei
        have HSV : Hid (svT (.mk ek eb ei es [] []) = scT ek eb ei es) := hmk rfl
        rw [HSV.out] at HS
        have HN : Hid (∀ W, Calls Tryz.prog 59 #[.string key] W (SPost (nmT key.data.toList) W)) := fun W => rname_any key W hes2.2 hkv
        have HC : Hid (∀ W, Calls Tryz.prog 60 #[.agg #[.int .i64 ek, .bool eb, .int .i64 ei, .string es, .slice eal 0 ecl, .slice eam 0 ecm]] W (TxPost (scT ek eb ei es) W)) := fun W => rtext_any ek eb ei es eal 0 ecl eam 0 ecm W hk3 hei hes2.1 hvs
        clear hrow hrow' hsz hwj hkv hvs HSV hek hei hes hk3 hks
        generalize nmT key.data.toList = nt at *
        generalize scT ek eb ei es = st at *
        go_wp2_with fail
        refine (HC.out wr).mono ?_
        rintro e w2 ⟨v', rfl, o2, b2⟩
        have bw2 : Below (w.heap.size + 1) (w.alloc oB) w2 := bj.trans (b2.mono (by omega))
        have hz2 := b2.size
        have K2 : w2.cell? ⟨w.heap.size, 2, none⟩ = some (.slice (some ⟨bm, om, none⟩) m.length cm) := by rw [cell_of_block (HX.out _ bw2)]; rfl
        have Q2 : w2.cell? ⟨bm, om + j * 7, none⟩ = some (.string key) := (b2.cell (p := ⟨bm, om + j * 7, none⟩) (by show bm < _; omega)).trans q
        have x0 : ∀ x : Sub w2.heap.size w2, _ := sub_cell K2 (by omega)
        have x1 : ∀ x : Sub w2.heap.size w2, _ := sub_cell Q2 (by omega)
        have x2 : ∀ x : Sub w2.heap.size w2, (convert 52 9 v').run Tryz.prog x.w = .ok (.string ⟨st.toArray⟩) x.w := fun x => (o2.below x.b).conv
        have C30 : Hid (∀ x : Sub w2.heap.size w2, Calls Tryz.prog 59 #[.string key] x.w fun e w'' => e = .returned (.string ⟨nt.toArray⟩) ∧ ∃ y : Sub w2.heap.size w2, w'' = y.w) :=
          sub_call fun w' hb => (HN.out w').mono fun e w'' ⟨he, h2⟩ => ⟨he, hb.trans (h2.mono hb.size)⟩
        have HZ1 := ba_size st
        have HZ2 := ba_size nt
        generalize (⟨st.toArray⟩ : ByteArray) = ST at *
        generalize (⟨nt.toArray⟩ : ByteArray) = NT at *
        have z1 : (A ++ NT).size ≤ 400000000000 := by rw [ByteArray.size_append]; omega
        have z2 : ((A ++ NT) ++ (⟨#[61]⟩ : ByteArray)).size ≤ 400000000001 := by rw [ByteArray.size_append]; show _ + 1 ≤ _; omega
        have hst : ST.size ≤ 400000000000 := by omega
        clear K2 Q2
        go_wp2_with fail
        refine wp_region_sub w2.heap.size (by kernel_rfl) (by kernel_rfl) ?_
        repeat (go_big_quiet_step (first | exact C30.out _))
        refine wpQuiet_nil ?_
        rintro wq ⟨⟨wq', bq⟩, hq⟩
        have hq' : wq = wq' := hq
        subst hq'
        clear hq
        have HB := hmk (bw2.trans (bq.mono (by omega)))
        go_wp2_with fail
        go_roundw
        case rel => exact ⟨j + 1, by omega, by rw [HS.out], by simp, HB.out⟩
        case measure => simp [RowKit.intOf]; omega
      · have y0 : (0 : Int) < (j : Int) := by omega
        have yd : decide ((0 : Int) < (j : Int)) = true := by simp; omega
        have HS : Hid (kS m (j + 1) = (((kS m j ++ ⟨#[44]⟩) ++ ⟨(nmT (m[j]).1.data.toList).toArray⟩) ++ ⟨#[61]⟩) ++ ⟨(svT (m[j]).2).toArray⟩) := hmk (kS_more hjl hj0)
        generalize hA0 : kS m j = A0 at *
        have hkl2 : (A0 ++ (⟨#[44]⟩ : ByteArray)).size ≤ 2 + 40 * wtM m := by rw [ByteArray.size_append]; show _ + 1 ≤ _; omega
        generalize (m[j]).1 = key at *
        generalize (m[j]).2 = xv at *
        obtain ⟨ek, eb, ei, es, el, em⟩ := xv
        rw [V.lies] at hlj
        obtain ⟨eal, ecl, ebl, eol, eam, ecm, ebm, eom, rfl, hek, hei, hes, _⟩ := hlj
        obtain ⟨q, q0, q1, q2, q3, q4, q5⟩ := row7 hrow'
        obtain ⟨hk3, hvs, rfl, rfl⟩ := sizS_good hsz
        have hes2 : es.size ≤ 2147483648 ∧ key.size ≤ 2147483648 := by simp only [V.wt] at hwj; omega
        have hnl := nmT_len key
        have hsl := scT_len (k := ek) (b := eb) (i := ei) (s := es) hei
        have HSV : Hid (svT (.mk ek eb ei es [] []) = scT ek eb ei es) := hmk rfl
        rw [HSV.out] at HS
        have HN : Hid (∀ W, Calls Tryz.prog 59 #[.string key] W (SPost (nmT key.data.toList) W)) := fun W => rname_any key W hes2.2 hkv
        have HC : Hid (∀ W, Calls Tryz.prog 60 #[.agg #[.int .i64 ek, .bool eb, .int .i64 ei, .string es, .slice eal 0 ecl, .slice eam 0 ecm]] W (TxPost (scT ek eb ei es) W)) := fun W => rtext_any ek eb ei es eal 0 ecl eam 0 ecm W hk3 hei hes2.1 hvs
        clear hrow hrow' hsz hwj hkv hvs HSV hek hei hes hk3 hks
        generalize nmT key.data.toList = nt at *
        generalize scT ek eb ei es = st at *
        go_wp2_with fail
        have hkl := hkl2
        generalize hA : A0 ++ (⟨#[44]⟩ : ByteArray) = A at *
        refine (HC.out wr).mono ?_
        rintro e w2 ⟨v', rfl, o2, b2⟩
        have bw2 : Below (w.heap.size + 1) (w.alloc oB) w2 := bj.trans (b2.mono (by omega))
        have hz2 := b2.size
        have K2 : w2.cell? ⟨w.heap.size, 2, none⟩ = some (.slice (some ⟨bm, om, none⟩) m.length cm) := by rw [cell_of_block (HX.out _ bw2)]; rfl
        have Q2 : w2.cell? ⟨bm, om + j * 7, none⟩ = some (.string key) := (b2.cell (p := ⟨bm, om + j * 7, none⟩) (by show bm < _; omega)).trans q
        have x0 : ∀ x : Sub w2.heap.size w2, _ := sub_cell K2 (by omega)
        have x1 : ∀ x : Sub w2.heap.size w2, _ := sub_cell Q2 (by omega)
        have x2 : ∀ x : Sub w2.heap.size w2, (convert 52 9 v').run Tryz.prog x.w = .ok (.string ⟨st.toArray⟩) x.w := fun x => (o2.below x.b).conv
        have C30 : Hid (∀ x : Sub w2.heap.size w2, Calls Tryz.prog 59 #[.string key] x.w fun e w'' => e = .returned (.string ⟨nt.toArray⟩) ∧ ∃ y : Sub w2.heap.size w2, w'' = y.w) :=
          sub_call fun w' hb => (HN.out w').mono fun e w'' ⟨he, h2⟩ => ⟨he, hb.trans (h2.mono hb.size)⟩
        have HZ1 := ba_size st
        have HZ2 := ba_size nt
        generalize (⟨st.toArray⟩ : ByteArray) = ST at *
        generalize (⟨nt.toArray⟩ : ByteArray) = NT at *
        have z1 : (A ++ NT).size ≤ 400000000000 := by rw [ByteArray.size_append]; omega
        have z2 : ((A ++ NT) ++ (⟨#[61]⟩ : ByteArray)).size ≤ 400000000001 := by rw [ByteArray.size_append]; show _ + 1 ≤ _; omega
        have hst : ST.size ≤ 400000000000 := by omega
        clear K2 Q2
        go_wp2_with fail
        refine wp_region_sub w2.heap.size (by kernel_rfl) (by kernel_rfl) ?_
        repeat (go_big_quiet_step (first | exact C30.out _))
        refine wpQuiet_nil ?_
        rintro wq ⟨⟨wq', bq⟩, hq⟩
        have hq' : wq = wq' := hq
        subst hq'
        clear hq
        have HB := hmk (bw2.trans (bq.mono (by omega)))
        go_wp2_with fail
        go_roundw
        case rel => exact ⟨j + 1, by omega, by rw [HS.out], by simp, HB.out⟩
        case measure => simp [RowKit.intOf]; omega
    · have y1 : ¬ (j : Int) < m.length := by omega
      obtain rfl : j = m.length := by omega
      generalize kS m m.length = A at *
      go_wp2_with fail
      go_ret
      exact ⟨by rw [← HE.out]; rfl, bA.trans (bj.mono (by omega))⟩
end Go.Proofs.YtihcggepeadklaaGreatDoor
/- The document's Text. -/
namespace Go.Proofs.YtihcggepeadklaaGreatDoor
open Go.RowKit Go.Lib
theorem rltext_any (x : El) (cs : List Value) (S : Nat → Prop) (w : World) (hx : x.lies w S cs) (hS : ∀ x, S x → x < w.heap.size) (he : elB x = true) (hwt : x.wt ≤ 2147483647) :
    Calls Tryz.prog 35 #[.agg cs.toArray] w (SPost (elT x) w) := by
  obtain ⟨k, nm, ky, v⟩ := x
  obtain ⟨am, cm, bm, om, is, rfl, hk64, hnz, ham, hm, hi⟩ := hx
  obtain ⟨vk, vb, vi, vs, vl, vm⟩ := v
  rw [V.lies] at hi
  obtain ⟨val, vcl, vbl, vol, vam, vcm, vbm, vom, rfl, hvk, hvi, hvs, _⟩ := hi
  dsimp only at ham hm hnz hk64 ⊢
  simp only [El.wt, V.wt] at hwt
  by_cases k1 : k = 1
  · rw [elB1 k1] at he
    simp only [Bool.and_eq_true, decide_eq_true_eq] at he
    rw [elT, if_pos k1]
    subst k1
    exact relem_one nm am ky.length cm vk vb vi vs val vl.length vcl vam vm.length vcm w (by omega) he.2.2
  by_cases k3 : k = 3
  · rw [elB3 k3] at he
    simp only [Bool.and_eq_true, decide_eq_true_eq] at he
    obtain ⟨hk3, hvv, _, _⟩ := sizS_good he.2.2
    rw [elT, if_neg k1, if_pos k3, svT]
    subst k3
    exact relem_three nm am ky.length cm vk vb vi vs val vl.length vcl vam vm.length vcm w hk3 hvi (by omega) hvv
  by_cases k2 : k = 2
  · rw [elB2 k2] at he
    simp only [Bool.and_eq_true, decide_eq_true_eq] at he
    rw [elT, if_neg k1, if_neg k3]
    subst k2
    exact relem_two nm ky am cm bm om S vk vb vi vs val vl.length vcl vam vm.length vcm w ham hm hS he.2.2 (by omega)
  · rw [elB0 k1 k2 k3] at he
    exact absurd he (by decide)
end Go.Proofs.YtihcggepeadklaaGreatDoor
