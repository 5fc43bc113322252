import Derived.Test.YtfihgaffiobfhaaDoorG41
/- The document's elem: a field, an item. -/
set_option linter.unusedSimpArgs false
set_option linter.unusedVariables false
namespace Go.Proofs.YtfihgaffiobfhaaDoor
open Go.RowKit Go.Lib
theorem ba_cat (a b : List UInt8) : (⟨a.toArray⟩ : ByteArray) ++ ⟨b.toArray⟩ = ⟨(a ++ b).toArray⟩ := by
  apply ByteArray.ext
  simp [ByteArray.data_append]
theorem ba_size (a : List UInt8) : (⟨a.toArray⟩ : ByteArray).size = a.length := by show a.toArray.size = _; simp
set_option maxHeartbeats 4000000 in
set_option maxRecDepth 100000 in
theorem relem_one (nm : ByteArray) (am : Option Addr) (nk cm : Nat) (vk : Int) (vb : Bool) (vi : Int) (vs : ByteArray) (val : Option Addr) (vnl vcl : Nat) (vam : Option Addr) (vnm vcm : Nat) (w : World) (hs : nm.size ≤ 2147483648) (hV : validD nm.data.toList = true) :
    Calls Tryd.prog 18 #[.agg #[.int .i64 1, .string nm, .slice am nk cm, .int .i64 vk, .bool vb, .int .i64 vi, .string vs, .slice val vnl vcl, .slice vam vnm vcm]] w (SPost (46 :: nmT nm.data.toList) w) := by
  have nb := heap_alloc_new w (.cells #[.int .i64 1, .string nm, .slice am nk cm, .int .i64 vk, .bool vb, .int .i64 vi, .string vs, .slice val vnl vcl, .slice vam vnm vcm] 34)
  have m0 : (w.alloc (.cells #[.int .i64 1, .string nm, .slice am nk cm, .int .i64 vk, .bool vb, .int .i64 vi, .string vs, .slice val vnl vcl, .slice vam vnm vcm] 34)).cell? ⟨w.heap.size, 0, none⟩ = some (.int .i64 1) := by rw [cell_of_block nb]; rfl
  have m1 : (w.alloc (.cells #[.int .i64 1, .string nm, .slice am nk cm, .int .i64 vk, .bool vb, .int .i64 vi, .string vs, .slice val vnl vcl, .slice vam vnm vcm] 34)).cell? ⟨w.heap.size, 1, none⟩ = some (.string nm) := by rw [cell_of_block nb]; rfl
  have bA : Below w.heap.size w (w.alloc (.cells #[.int .i64 1, .string nm, .slice am nk cm, .int .i64 vk, .bool vb, .int .i64 vi, .string vs, .slice val vnl vcl, .slice vam vnm vcm] 34)) := (Below.refl _ w).alloc (Nat.le_refl _) _
  have C := hmk (rname_any nm (w.alloc (.cells #[.int .i64 1, .string nm, .slice am nk cm, .int .i64 vk, .bool vb, .int .i64 vi, .string vs, .slice val vnl vcl, .slice vam vnm vcm] 34)) hs hV)
  have hz := bA.size
  have hnl := nmT_len nm
  have HD := hmk (ba_cat [46] (nmT nm.data.toList))
  have HZ := ba_size (nmT nm.data.toList)
  clear nb
  unfold SPost at C ⊢
  rw [show (46 :: nmT nm.data.toList) = [46] ++ nmT nm.data.toList from rfl]
  generalize nmT nm.data.toList = nt at *
  generalize (⟨([46] ++ nt).toArray⟩ : ByteArray) = R at *
  generalize (⟨nt.toArray⟩ : ByteArray) = N at *
  have hN : N.size ≤ 12884901890 := by omega
  go_enter Tryd.func18, Tryd.ntmps18
  go_wp2_with fail
  refine C.out.mono ?_
  rintro e w1 ⟨rfl, b1⟩
  go_wp2_with fail
  go_ret
  exact ⟨by rw [← HD.out]; rfl, bA.trans (b1.mono hz)⟩
set_option maxHeartbeats 4000000 in
set_option maxRecDepth 100000 in
theorem relem_three (nm : ByteArray) (am : Option Addr) (nk cm : Nat) (vk : Int) (vb : Bool) (vi : Int) (vs : ByteArray) (val : Option Addr) (vnl vcl : Nat) (vam : Option Addr) (vnm vcm : Nat) (w : World) (hk : vk = 1 ∨ vk = 2 ∨ vk = 3) (hi : In64 vi) (hs : vs.size ≤ 2147483648) (hV : validD vs.data.toList = true) :
    Calls Tryd.prog 18 #[.agg #[.int .i64 3, .string nm, .slice am nk cm, .int .i64 vk, .bool vb, .int .i64 vi, .string vs, .slice val vnl vcl, .slice vam vnm vcm]] w (SPost (91 :: 61 :: (scT vk vb vi vs ++ [93])) w) := by
  have nb := heap_alloc_new w (.cells #[.int .i64 3, .string nm, .slice am nk cm, .int .i64 vk, .bool vb, .int .i64 vi, .string vs, .slice val vnl vcl, .slice vam vnm vcm] 34)
  let oB : Obj := .cells #[.int .i64 3, .string nm, .slice am nk cm, .int .i64 vk, .bool vb, .int .i64 vi, .string vs, .slice val vnl vcl, .slice vam vnm vcm] 34
  have m0 : (w.alloc oB).cell? ⟨w.heap.size, 0, none⟩ = some (.int .i64 3) := by rw [cell_of_block nb]; rfl
  have m3 : (w.alloc oB).cell? ⟨w.heap.size, 3, none⟩ = some (.int .i64 vk) := by rw [cell_of_block nb]; rfl
  have m4 : (w.alloc oB).cell? ⟨w.heap.size, 4, none⟩ = some (.bool vb) := by rw [cell_of_block nb]; rfl
  have m5 : (w.alloc oB).cell? ⟨w.heap.size, 5, none⟩ = some (.int .i64 vi) := by rw [cell_of_block nb]; rfl
  have m6 : (w.alloc oB).cell? ⟨w.heap.size, 6, none⟩ = some (.string vs) := by rw [cell_of_block nb]; rfl
  have m7 : (w.alloc oB).cell? ⟨w.heap.size, 7, none⟩ = some (.slice val vnl vcl) := by rw [cell_of_block nb]; rfl
  have m8 : (w.alloc oB).cell? ⟨w.heap.size, 8, none⟩ = some (.slice vam vnm vcm) := by rw [cell_of_block nb]; rfl
  have bA : Below w.heap.size w (w.alloc oB) := (Below.refl _ w).alloc (Nat.le_refl _) _
  have C := hmk (rtext_any vk vb vi vs val vnl vcl vam vnm vcm (w.alloc oB) hk hi hs hV)
  have hz := bA.size
  have hnl := scT_len (k := vk) (b := vb) (i := vi) (s := vs) hi
  have HD : Hid ((⟨#[91, 61]⟩ : ByteArray) ++ ⟨(scT vk vb vi vs).toArray⟩ ++ ⟨#[93]⟩ = ⟨(91 :: 61 :: (scT vk vb vi vs ++ [93])).toArray⟩) := by
    show _ = _
    have h1 := ba_cat [91, 61] (scT vk vb vi vs)
    have h2 := ba_cat ([91, 61] ++ scT vk vb vi vs) [93]
    rw [← h1] at h2
    rw [show (91 :: 61 :: (scT vk vb vi vs ++ [93])) = [91, 61] ++ scT vk vb vi vs ++ [93] by simp]
    exact h2
  have HZ := ba_size (scT vk vb vi vs)
  unfold SPost TxPost at *
  clear nb
  generalize (⟨(91 :: 61 :: (scT vk vb vi vs ++ [93])).toArray⟩ : ByteArray) = R at *
  generalize scT vk vb vi vs = st at *
  go_enter Tryd.func18, Tryd.ntmps18
  go_wp2_with fail
  refine C.out.mono ?_
  rintro e w1 ⟨v', rfl, o1, b1⟩
  have hcv := o1.conv
  generalize (⟨st.toArray⟩ : ByteArray) = N at *
  have hN : N.size ≤ 12884901990 := by omega
  have hN2 : ((⟨#[91, 61]⟩ : ByteArray) ++ N).size ≤ 12884902000 := by rw [ByteArray.size_append]; show 2 + N.size ≤ _; omega
  go_wp2_with fail
  go_ret
  exact ⟨by rw [← HD.out]; rfl, bA.trans (b1.mono hz)⟩
end Go.Proofs.YtfihgaffiobfhaaDoor
