/- joined: WrtC WrtD -/
import Derived.Test.YtihcggepeadklaaGreatDoorG34
/- path.writeElem. -/
set_option linter.unusedSimpArgs false
set_option linter.unusedVariables false
namespace Go.Proofs.YtihcggepeadklaaGreatDoor
open Go.RowKit Go.Lib
set_option maxHeartbeats 4000000 in
set_option maxRecDepth 100000 in
theorem welem_any (x : El) (cs : List Value) (S : Nat → Prop) (B b : Nat) (l0 : List UInt8) (w : World) (t : Td w) (hx : x.lies w S cs) (hS : ∀ x, S x → x < B) (hB3 : 9 < B)
    (hbl : IsBuilderF 54 5 B b (byteCells l0) w) (he : elB x = true) (hwt : x.wt ≤ 2147483647) (hl0 : l0.length ≤ 90000000000) :
    Calls Tryz.prog 20 #[.pointer (some ⟨b, 0, none⟩), .agg cs.toArray] w fun e w' => e = .returned (.tuple #[]) ∧ IsBuilderF 54 5 B b (byteCells (l0 ++ elT x)) w' ∧ Below B w w' := by
  obtain ⟨k, nm, ky, v⟩ := x
  obtain ⟨am, cm, bm, om, is, rfl, hk64, hnz, ham, hm, hi⟩ := hx
  obtain ⟨vk, vb, vi, vs, vl, vm⟩ := v
  rw [V.lies] at hi
  obtain ⟨val, vcl, vbl, vol, vam, vcm, vbm, vom, rfl, hvk, hvi, hvs, _⟩ := hi
  dsimp only at ham hm hnz hk64 ⊢
  simp only [El.wt, V.wt] at hwt
  have W0 := Wr.box hbl (Below.refl B w) #[.int .i64 k, .string nm, .slice am ky.length cm, .int .i64 vk, .bool vb, .int .i64 vi, .string vs, .slice val vl.length vcl, .slice vam vm.length vcm] 48 (by decide)
  have HT : Hid (∀ W, Below B w W → Td W) := fun W hb => t.below hb hB3 hb.size
  have m0 : (w.alloc (.cells #[.int .i64 k, .string nm, .slice am ky.length cm, .int .i64 vk, .bool vb, .int .i64 vi, .string vs, .slice val vl.length vcl, .slice vam vm.length vcm] 48)).cell? ⟨w.heap.size, 0, none⟩ = some (.int .i64 k) := by rw [cell_of_block W0.ob]; rfl
  have hl := bld_lt hbl
  clear t hbl
  by_cases k1 : k = 1
  · rw [elB1 k1] at he
    simp only [Bool.and_eq_true, decide_eq_true_eq] at he
    have HV := hmk he.2.2
    have HS : Hid (l0 ++ elT ⟨k, nm, ky, .mk vk vb vi vs vl vm⟩ = (l0 ++ [46]) ++ nmT nm.data.toList) := by show _ = _; rw [elT, if_pos k1]; simp
    rw [HS.out]
    have HN : Hid (∀ W, Below B w W → Calls Tryz.prog 38 #[.string nm] W (SPost (nmT nm.data.toList) W)) := fun W hb => name_any nm W (by omega) (HT.out W hb).u (HT.out W hb).l (HT.out W hb).z HV.out
    have hnl := nmT_len nm
    clear he hm ham HS HV HT
    generalize nmT nm.data.toList = nt at *
    subst k1
    go_enter Tryz.func20, Tryz.ntmps20
    go_wp2_with fail
    refine (W0.byte 46 (by omega)).mono ?_
    rintro e w1 ⟨rfl, W1⟩
    have n1 : w1.cell? ⟨w.heap.size, 1, none⟩ = some (.string nm) := by rw [cell_of_block W1.ob]; rfl
    go_wp2_with fail
    refine (HN.out w1 W1.be).mono ?_
    rintro e w2 ⟨rfl, b2⟩
    have W2 := W1.call b2
    go_wp2_with fail
    refine (W2.str nt (by simp only [List.length_append, List.length_cons, List.length_nil]; omega)).mono ?_
    rintro e w3 ⟨⟨n3, rfl⟩, W3⟩
    go_wp2
    go_end0
    exact ⟨rfl, W3.bl, W3.be⟩
  by_cases k3 : k = 3
  · rw [elB3 k3] at he
    simp only [Bool.and_eq_true, decide_eq_true_eq] at he
    obtain ⟨hk3, hvv, rfl, rfl⟩ := sizS_good he.2.2
    have HS : Hid (l0 ++ elT ⟨k, nm, ky, .mk vk vb vi vs [] []⟩ = ((l0 ++ [91, 61]) ++ scT vk vb vi vs) ++ [93]) := by show _ = _; rw [elT, if_neg k1, if_pos k3, svT]; simp
    rw [HS.out]
    have HC : Hid (∀ W, Below B w W → Calls Tryz.prog 40 #[.agg #[.int .i64 vk, .bool vb, .int .i64 vi, .string vs, .slice val 0 vcl, .slice vam 0 vcm]] W (SPost (scT vk vb vi vs) W)) := fun W hb => sctext_any vk vb vi vs val 0 vcl vam 0 vcm W (HT.out W hb) hk3 hvi (by omega) hvv
    have hsl := scT_len (k := vk) (b := vb) (i := vi) (s := vs) hvi
    clear he hm ham HS HT hk3 hvv k1
    generalize scT vk vb vi vs = st at *
    subst k3
    go_enter Tryz.func20, Tryz.ntmps20
    go_wp2_with fail
    refine (W0.str [91, 61] (by simp only [List.length_append, List.length_cons, List.length_nil]; omega)).mono ?_
    rintro e w1 ⟨⟨n1, rfl⟩, W1⟩
    have m3 : w1.cell? ⟨w.heap.size, 3, none⟩ = some (.int .i64 vk) := by rw [cell_of_block W1.ob]; rfl
    have m4 : w1.cell? ⟨w.heap.size, 4, none⟩ = some (.bool vb) := by rw [cell_of_block W1.ob]; rfl
    have m5 : w1.cell? ⟨w.heap.size, 5, none⟩ = some (.int .i64 vi) := by rw [cell_of_block W1.ob]; rfl
    have m6 : w1.cell? ⟨w.heap.size, 6, none⟩ = some (.string vs) := by rw [cell_of_block W1.ob]; rfl
    have m7 : w1.cell? ⟨w.heap.size, 7, none⟩ = some (.slice val 0 vcl) := by rw [cell_of_block W1.ob]; rfl
    have m8 : w1.cell? ⟨w.heap.size, 8, none⟩ = some (.slice vam 0 vcm) := by rw [cell_of_block W1.ob]; rfl
    go_wp2_with fail
    refine (HC.out w1 W1.be).mono ?_
    rintro e w2 ⟨rfl, b2⟩
    have W2 := W1.call b2
    clear m3 m4 m5 m6 m7 m8
    go_wp2_with fail
    refine (W2.str st (by simp only [List.length_append, List.length_cons, List.length_nil]; omega)).mono ?_
    rintro e w3 ⟨⟨n3, rfl⟩, W3⟩
    go_wp2_with fail
    refine (W3.byte 93 (by simp only [List.length_append, List.length_cons, List.length_nil]; omega)).mono ?_
    rintro e w4 ⟨rfl, W4⟩
    go_wp2
    go_end0
    exact ⟨rfl, W4.bl, W4.be⟩
  by_cases k2 : k = 2
  · rw [elB2 k2] at he
    simp only [Bool.and_eq_true, decide_eq_true_eq] at he
    have HS : Hid (l0 ++ elT ⟨k, nm, ky, .mk vk vb vi vs vl vm⟩ = l0 ++ (kyT 91 ky ++ [93])) := by show _ = _; rw [elT, if_neg k1, if_neg k3]
    rw [HS.out]
    have m2 : (w.alloc (.cells #[.int .i64 k, .string nm, .slice am ky.length cm, .int .i64 vk, .bool vb, .int .i64 vi, .string vs, .slice val vl.length vcl, .slice vam vm.length vcm] 48)).cell? ⟨w.heap.size, 2, none⟩ = some (.slice am ky.length cm) := by rw [cell_of_block W0.ob]; rfl
    have C := hmk (wkey_any ky am cm bm om S B b l0 _ (HT.out _ W0.be) ham (liesM_keep (fun h => h) (fun x hx => W0.be.block x (hS x hx)) (fun _ h => h) _ hm) hS hB3 W0.bl he.2.2 (by omega) (by omega))
    have HB := hmk W0.be
    clear he hm ham HS HT k1 k3 W0
    subst k2
    go_enter Tryz.func20, Tryz.ntmps20
    go_wp2_with fail
    refine C.out.mono ?_
    rintro e w1 ⟨rfl, g1, b1⟩
    go_wp2
    go_end0
    exact ⟨rfl, g1, HB.out.trans b1⟩
  · rw [elB0 k1 k2 k3] at he
    exact absurd he (by decide)
end Go.Proofs.YtihcggepeadklaaGreatDoor
/- path.Text. -/
namespace Go.Proofs.YtihcggepeadklaaGreatDoor
open Go.RowKit Go.Lib
def tT (p : List El) : List UInt8 := if pathB p = true then txT p else []
theorem Td.tb {w : World} (t : Td w) : Tb w := ⟨t.u, by have := t.z; omega⟩
theorem wtP_take_le (p : List El) (j : Nat) : wtP (p.take j) ≤ wtP p := by
  have := wtP_app (p.take j) (p.drop j)
  rw [List.take_append_drop] at this
  omega
def TPost (p : List El) (w : World) (e : Ending) (w' : World) : Prop := e = .returned (.tuple #[.string ⟨(tT p).toArray⟩, .int .i64 (errP p : Int)]) ∧ Below w.heap.size w w'
set_option maxHeartbeats 4000000 in
set_option maxRecDepth 100000 in
theorem text_any (p : List El) (S : Nat → Prop) (ap : Option Addr) (cp bp op : Nat) (w : World) (t : Td w) (hap : Headed ap p.length cp bp op) (hp : liesP w S p bp op) (hS : ∀ b, S b → b < w.heap.size) (hwt : wtP p ≤ 2147483647) :
    Calls Tryz.prog 9 #[.slice ap p.length cp] w (TPost p w) := by
  have CK := hmk (pcheck_any p S ap cp bp op w t.tb hap hp hS hwt)
  have HP := hmk hp
  have HI := hmk (in64_liesP hp)
  have HT : Hid (∀ W, Below w.heap.size w W → Td W) := fun W hb => t.below hb t.z hb.size
  have hz3 := t.z
  clear hp t
  cases hB : pathB p with
  | false =>
    have e1 : errP p = 90 := by rw [errP, hB]; rfl
    have HR : Hid (tT p = [] ∧ errP p = 90) := ⟨by rw [tT, hB]; rfl, e1⟩
    rw [e1] at CK
    clear hB e1
    go_enter Tryz.func9, Tryz.ntmps9
    go_wp2_with fail
    refine CK.out.mono ?_
    rintro e w1 ⟨rfl, b1⟩
    go_wp2_with fail
    go_ret2
    exact ⟨by rw [HR.out.1, HR.out.2]; rfl, b1⟩
  | true =>
    have e1 : errP p = 0 := by rw [errP, hB]; rfl
    have HR : Hid (tT p = txT p ∧ errP p = 0) := ⟨by rw [tT, hB]; rfl, e1⟩
    have HA := hmk (pathB_all hB)
    rw [e1] at CK
    have hlm := wtP_len p
    clear hB e1
    go_enter Tryz.func9, Tryz.ntmps9
    go_wp2_with fail
    refine CK.out.mono ?_
    rintro e w1 ⟨rfl, b1⟩
    have hs1 := b1.size
    have bA : Below w1.heap.size w1 (w1.alloc (.cells #[.pointer none, .slice none 0 0] 54)) := (Below.refl _ w1).alloc (Nat.le_refl _) _
    have g0 := bld_new w1
    clear CK
    go_wp2_with fail
    go_loopw [15] (fun e wr => ∃ j : Nat, j ≤ p.length ∧ e = .int .i64 (j : Int) ∧ Below w1.heap.size w1 wr ∧ IsBuilderF 54 5 w1.heap.size w1.heap.size (byteCells (txT (p.take j))) wr) (fun e _ => p.length - (RowKit.intOf e).toNat)
    case atStart => exact ⟨0, by omega, rfl, bA, by rw [List.take_zero]; exact g0⟩
    case round =>
      obtain ⟨j, hj, rfl, bj, gj⟩ := hrel
      clear g0 bA
      have hkl : (txT (p.take j)).length ≤ 40 * wtP (p.take j) := txT_len _ (fun x hx => HI.out x (List.mem_of_mem_take hx))
      have hkt := wtP_take_le p j
      have hL : (txT (p.take j)).length ≤ 90000000000 := by omega
      have hgl := bld_lt gj
      by_cases hjl : j < p.length
      · have y1 : (j : Int) < p.length := by omega
        obtain ⟨hSb, csj, hrow, hlj⟩ := HP.out j hjl
        obtain rfl : ap = some ⟨bp, op, none⟩ := hap.at_.resolve_left (by omega)
        have hwj : (p[j]).wt ≤ 2147483647 := by have := wtP_mem (List.getElem_mem hjl); omega
        have hel := HA.out.2 _ (List.getElem_mem hjl)
        have bw : Below w.heap.size w wr := b1.trans (bj.mono hs1)
        have HS : Hid (txT (p.take (j + 1)) = txT (p.take j) ++ elT p[j]) := hmk (txT_take hjl)
        generalize txT (p.take j) = L at *
        obtain ⟨k, s, am, nm, cm, vk, vb, vi, vs, val, vnl, vcl, vam, vnm, vcm, rfl⟩ := El.nine hlj
        obtain ⟨q0, q1, q2, q3, q4, q5, q6, q7, q8⟩ := row9 (hrow.keep (bw.block bp (hS _ hSb)))
        have bX : Below w.heap.size w (wr.alloc (.cells #[.int .i64 k, .string s, .slice am nm cm, .int .i64 vk, .bool vb, .int .i64 vi, .string vs, .slice val vnl vcl, .slice vam vnm vcm] 48)) := bw.alloc bw.size _
        have bY : Below w1.heap.size w1 (wr.alloc (.cells #[.int .i64 k, .string s, .slice am nm cm, .int .i64 vk, .bool vb, .int .i64 vi, .string vs, .slice val vnl vcl, .slice vam vnm vcm] 48)) := bj.alloc bj.size _
        have c := hmk (welem_any p[j] _ S w1.heap.size w1.heap.size L (wr.alloc (.cells #[.int .i64 k, .string s, .slice am nm cm, .int .i64 vk, .bool vb, .int .i64 vi, .string vs, .slice val vnl vcl, .slice vam vnm vcm] 48)) (HT.out _ bX) (El.lies_keep (fun b hb => bX.block b (hS b hb)) (fun _ h => h) hlj) (fun b hb => Nat.lt_of_lt_of_le (hS b hb) hs1) (by omega) (gj.alloc _) hel hwj hL)
        have HB := hmk bY
        clear hlj hrow hwj hel bX bY
        generalize elT p[j] = E at *
        go_wp2_with fail
        refine c.out.mono ?_
        rintro e w2 ⟨rfl, g2, b2⟩
        have HB2 := hmk (HB.out.trans b2)
        go_wp2_with fail
        go_roundw
        case rel => exact ⟨j + 1, by omega, by simp, HB2.out, by rw [HS.out]; exact g2⟩
        case measure => simp [RowKit.intOf]; omega
      · have y1 : ¬ (j : Int) < p.length := by omega
        obtain rfl : j = p.length := by omega
        rw [List.take_length] at gj
        have HR1 := hmk HR.out.1
        have HR2 := hmk HR.out.2
        generalize txT p = T at *
        have hsz := bj.size
        go_wp2_with fail
        refine (Tryz.String_any_k w1.heap.size w1.heap.size T wr gj (by omega)).mono ?_
        rintro e w2 ⟨rfl, _, b2, _⟩
        go_wp2_with fail
        go_ret2
        exact ⟨by rw [HR1.out, HR2.out]; rfl, b1.trans ((bj.trans b2).mono hs1)⟩
end Go.Proofs.YtihcggepeadklaaGreatDoor
