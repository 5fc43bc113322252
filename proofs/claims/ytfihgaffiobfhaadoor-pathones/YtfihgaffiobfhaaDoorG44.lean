/- joined: RelC LasP -/
import Derived.Test.YtfihgaffiobfhaaDoorRelB
/- The document's Text. -/
set_option linter.unusedSimpArgs false
set_option linter.unusedVariables false
namespace Go.Proofs.YtfihgaffiobfhaaDoor
open Go.RowKit Go.Lib
theorem rltext_any (x : El) (cs : List Value) (S : Nat → Prop) (w : World) (hx : x.lies w S cs) (hS : ∀ x, S x → x < w.heap.size) (he : elB x = true) (hwt : x.wt ≤ 2147483647) :
    Calls Tryd.prog 18 #[.agg cs.toArray] w (SPost (elT x) w) := by
  obtain ⟨k, nm, ky, v⟩ := x
  obtain ⟨am, cm, bm, om, is, rfl, hk64, hnz, ham, hm, hi⟩ := hx
  obtain ⟨vk, vb, vi, vs, vl, vm⟩ := v
  rw [V.lies] at hi
  obtain ⟨val, vcl, vbl, vol, vam, vcm, vbm, vom, rfl, hvk, hvi, hvs, _⟩ := hi
  dsimp only at ham hm hnz hk64 ⊢
  simp only [El.wt, V.wt] at hwt
  by_cases k1 : k = 1
  · rw [elB1 k1] at he
    simp only [Bool.and_eq_true, decide_eq_true_eq] at he
    rw [elT, if_pos k1]
    subst k1
    exact relem_one nm am ky.length cm vk vb vi vs val vl.length vcl vam vm.length vcm w (by omega) he.2.2
  by_cases k3 : k = 3
  · rw [elB3 k3] at he
    simp only [Bool.and_eq_true, decide_eq_true_eq] at he
    obtain ⟨hk3, hvv, _, _⟩ := sizS_good he.2.2
    rw [elT, if_neg k1, if_pos k3, svT]
    subst k3
    exact relem_three nm am ky.length cm vk vb vi vs val vl.length vcl vam vm.length vcm w hk3 hvi (by omega) hvv
  by_cases k2 : k = 2
  · rw [elB2 k2] at he
    simp only [Bool.and_eq_true, decide_eq_true_eq] at he
    rw [elT, if_neg k1, if_neg k3]
    subst k2
    exact relem_two nm ky am cm bm om S vk vb vi vs val vl.length vcl vam vm.length vcm w ham hm hS he.2.2 (by omega)
  · rw [elB0 k1 k2 k3] at he
    exact absurd he (by decide)
def pS (p : List El) (j : Nat) : ByteArray := ⟨(txT (p.take j)).toArray⟩
theorem pS_more {p : List El} {j : Nat} (h : j < p.length) : pS p (j + 1) = pS p j ++ ⟨(elT p[j]).toArray⟩ := by
  rw [pS, pS, ba_cat, txT_take h]
theorem pS_len {p : List El} (j : Nat) (h : ∀ e ∈ p, in64E e) : (pS p j).size ≤ 40 * wtP p := by
  rw [pS, ba_size]
  have h1 := txT_len (p.take j) (fun x hx => h x (List.mem_of_mem_take hx))
  have h2 := wtP_take_le p j
  omega
set_option maxHeartbeats 4000000 in
set_option maxRecDepth 100000 in
theorem rptext_any (p : List El) (S : Nat → Prop) (ap : Option Addr) (cp bp op : Nat) (w : World) (hap : Headed ap p.length cp bp op) (hp : liesP w S p bp op) (hS : ∀ b, S b → b < w.heap.size) (hwt : wtP p ≤ 2147483647) :
    Calls Tryd.prog 7 #[.slice ap p.length cp] w (TPost p w) := by
  have CK := hmk (rpcheck_any p S ap cp bp op w hap hp hS hwt)
  have HP := hmk hp
  have HI := hmk (in64_liesP hp)
  clear hp
  cases hB : pathB p with
  | false =>
    have e1 : errP p = 90 := by rw [errP, hB]; rfl
    have HR : Hid (tT p = [] ∧ errP p = 90) := ⟨by rw [tT, hB]; rfl, e1⟩
    rw [e1] at CK
    clear hB e1
    go_enter Tryd.func7, Tryd.ntmps7
    go_wp2_with fail
    refine CK.out.mono ?_
    rintro e w1 ⟨rfl, b1⟩
    go_wp2_with fail
    go_ret2
    exact ⟨by rw [HR.out.1, HR.out.2]; rfl, b1⟩
  | true =>
    have e1 : errP p = 0 := by rw [errP, hB]; rfl
    have HR : Hid (tT p = txT p ∧ errP p = 0) := ⟨by rw [tT, hB]; rfl, e1⟩
    have HA := hmk (pathB_all hB)
    rw [e1] at CK
    have hlm := wtP_len p
    have HE : Hid (pS p p.length = ⟨(txT p).toArray⟩) := by show _ = _; rw [pS, List.take_length]
    have H0 : Hid (pS p 0 = ⟨#[]⟩) := hmk rfl
    have HL : Hid (∀ j, (pS p j).size ≤ 40 * wtP p) := fun j => pS_len j HI.out
    clear hB e1
    go_enter Tryd.func7, Tryd.ntmps7
    go_wp2_with fail
    refine CK.out.mono ?_
    rintro e w1 ⟨rfl, b1⟩
    clear CK
    go_wp2_with fail
    go_loopw [4, 5] (fun a e wr => ∃ j : Nat, j ≤ p.length ∧ a = .string (pS p j) ∧ e = .int .i64 (j : Int) ∧ Below w.heap.size w wr) (fun _ e _ => p.length - (RowKit.intOf e).toNat)
    case atStart => exact ⟨0, by omega, by rw [H0.out], rfl, b1⟩
    case round =>
      obtain ⟨j, hj, rfl, rfl, bj⟩ := hrel
      have hkl := HL.out j
      by_cases hjl : j < p.length
      · have y1 : (j : Int) < p.length := by omega
        obtain ⟨hSb, csj, hrow, hlj⟩ := HP.out j hjl
        obtain rfl : ap = some ⟨bp, op, none⟩ := hap.at_.resolve_left (by omega)
        have hwj : (p[j]).wt ≤ 2147483647 := by have := wtP_mem (List.getElem_mem hjl); omega
        have hel := HA.out.2 _ (List.getElem_mem hjl)
        have hEl := elT_len (HI.out _ (List.getElem_mem hjl))
        have hEz := ba_size (elT p[j])
        have HS := hmk (pS_more hjl)
        generalize pS p j = A at *
        obtain ⟨k, s, am, nm, cm, vk, vb, vi, vs, val, vnl, vcl, vam, vnm, vcm, rfl⟩ := El.nine hlj
        obtain ⟨q0, q1, q2, q3, q4, q5, q6, q7, q8⟩ := row9 (hrow.keep (bj.block bp (hS _ hSb)))
        have c := hmk (rltext_any p[j] _ S wr (El.lies_keep (fun b hb => bj.block b (hS b hb)) (fun _ h => h) hlj) (fun b hb => Nat.lt_of_lt_of_le (hS b hb) bj.size) hel hwj)
        unfold SPost at c
        have hbs := bj.size
        clear hlj hrow hel
        generalize (⟨(elT p[j]).toArray⟩ : ByteArray) = E at *
        have hEE : E.size ≤ 85899345880 := by omega
        clear hEl hEz hwj
        go_wp2_with fail
        refine c.out.mono ?_
        rintro e w2 ⟨rfl, b2⟩
        go_wp2_with fail
        go_roundw
        case rel => exact ⟨j + 1, by omega, by rw [HS.out], by simp, bj.trans (b2.mono hbs)⟩
        case measure => simp [RowKit.intOf]; omega
      · have y1 : ¬ (j : Int) < p.length := by omega
        obtain rfl : j = p.length := by omega
        rw [HE.out]
        have HR1 := hmk HR.out.1
        have HR2 := hmk HR.out.2
        generalize txT p = T at *
        go_wp2_with fail
        go_ret2
        exact ⟨by rw [HR1.out, HR2.out]; rfl, bj⟩
end Go.Proofs.YtfihgaffiobfhaaDoor
/- An element that may be is its own copy; a path's last. -/
namespace Go.Proofs.YtfihgaffiobfhaaDoor
open Go.RowKit Go.Lib
theorem nilV_eqO {v : V} (h : nilV v = true) : v = .mk 0 false 0 ⟨#[]⟩ [] [] := by
  obtain ⟨k, b, i, s, l, m⟩ := v
  simp only [nilV, nilB, decide_eq_true_eq] at h
  obtain ⟨h1, h2, h3, h4, h5, h6⟩ := h
  have hs : s = ⟨#[]⟩ := by
    rw [ByteArray.toList_eq] at h4
    apply ByteArray.ext
    apply Array.ext'
    rw [h4]
  rw [h1, h2, h3, hs, List.length_eq_zero_iff.1 h5, List.length_eq_zero_iff.1 h6]
theorem scV_sizS {v : V} (hv : sizS v = true) : scV v = v := by
  obtain ⟨k, b, i, s, l, m⟩ := v
  obtain ⟨_, _, rfl, rfl⟩ := sizS_good hv
  rfl
theorem keysB_allO {l : List Mem} (h : keysB l = true) : ∀ x ∈ l, sizS x.2 = true := by
  intro x hx
  obtain ⟨j, hj, rfl⟩ := List.getElem_of_mem hx
  exact (keysB_get h hj).2
theorem scV_nil {v : V} (h : nilV v = true) : scV v = v := by rw [nilV_eqO h]; rfl
theorem anE_same {x : El} (hx : elB x = true) : anE x = x := by
  obtain ⟨k, n, m, v⟩ := x
  by_cases h1 : k = 1
  · rw [elB1 h1] at hx
    simp only [Bool.and_eq_true, decide_eq_true_eq] at hx
    simp only [anE]
    rw [List.length_eq_zero_iff.1 hx.1, scV_nil hx.2.1]; rfl
  by_cases h2 : k = 2
  · rw [elB2 h2] at hx
    simp only [Bool.and_eq_true, decide_eq_true_eq] at hx
    simp only [anE]
    have em : m.map (fun q => (q.1, scV q.2)) = m := by
      have h : ∀ q ∈ m, (fun q : Mem => (q.1, scV q.2)) q = id q := fun q hq => Prod.ext rfl (scV_sizS (keysB_allO hx.2.2 q hq))
      rw [List.map_congr_left h, List.map_id]
    rw [em, scV_nil hx.2.1]
  by_cases h3 : k = 3
  · rw [elB3 h3] at hx
    simp only [Bool.and_eq_true, decide_eq_true_eq] at hx
    simp only [anE]
    rw [List.length_eq_zero_iff.1 hx.2.1, scV_sizS hx.2.2]; rfl
  · rw [elB0 h1 h2 h3] at hx; cases hx
def zeroE : El := ⟨0, ⟨#[]⟩, [], .mk 0 false 0 ⟨#[]⟩ [] []⟩
theorem zeroE_lies (w : World) (S : Nat → Prop) : zeroE.lies w S [.int .i64 0, .string ⟨#[]⟩, .slice none 0 0, .int .i64 0, .bool false, .int .i64 0, .string ⟨#[]⟩, .slice none 0 0, .slice none 0 0] := by
  have H : Headed none 0 0 0 0 := ⟨Nat.le_refl _, Nat.zero_le _, .inl rfl, fun _ => rfl⟩
  have z : In64 0 := ⟨by omega, by omega⟩
  refine ⟨none, 0, 0, 0, _, rfl, z, Nat.zero_le _, H, by show liesM false w S [] 0 0; rw [liesM]; trivial, ?_⟩
  show V.lies false w S (.mk 0 false 0 ⟨#[]⟩ [] []) _
  rw [V.lies]
  exact ⟨none, 0, 0, 0, none, 0, 0, 0, rfl, z, z, Nat.zero_le _, H, H, by rw [liesL]; trivial, by rw [liesM]; trivial, fun h => by cases h⟩
def lasQ (p : List El) : List El := if pathB p = true then p.take (p.length - 1) else []
def lasX (p : List El) : El := if pathB p = true then (p.getLast?).getD zeroE else zeroE
def lasB (p : List El) : Bool := pathB p && decide (p.length ≠ 0)
theorem las_bad {p : List El} (h : pathB p = false ∨ p.length = 0) : lasQ p = [] ∧ lasX p = zeroE ∧ lasB p = false := by
  rcases h with h | h
  · simp [lasQ, lasX, lasB, h]
  · have : p = [] := List.length_eq_zero_iff.1 h
    subst this
    simp [lasQ, lasX, lasB]
theorem las_good {p : List El} (h : pathB p = true) (h0 : p.length - 1 < p.length) : lasQ p = p.take (p.length - 1) ∧ lasX p = p[p.length - 1] ∧ lasB p = true := by
  refine ⟨by rw [lasQ, h]; rfl, ?_, ?_⟩
  · rw [lasX, h, if_pos rfl, List.getLast?_eq_getElem?, List.getElem?_eq_getElem h0]; rfl
  · rw [lasB, h, Bool.true_and, decide_eq_true_iff]; omega
/-- what Last answers -/
def LaPost (p : List El) (w : World) (e : Ending) (w' : World) : Prop := ∃ (aq : Option Addr) (cq bq oq : Nat) (ds : List Value) (S' : Nat → Prop), e = .returned (.tuple #[.slice aq (lasQ p).length cq, .agg ds.toArray, .bool (lasB p)]) ∧ Headed aq (lasQ p).length cq bq oq ∧ liesP w' S' (lasQ p) bq oq ∧ (lasX p).lies w' S' ds ∧ (∀ y, S' y → y < w'.heap.size) ∧ Below w.heap.size w w'
end Go.Proofs.YtfihgaffiobfhaaDoor
namespace Go
theorem results_tct {fn : Func} {q p u : Tmp} {ty : TypeId} (h : fn.results = #[.tmp q, .cell p ty, .tmp u]) (tmps : Array Value) (P : Program) (w : World) :
    (results fn tmps).run P w =
      ((asAddr (tmps.getD p undef)).run P w).andThen fun a w₁ => ((loadVar ty a).run P w₁).andThen fun v w₂ => .ok (.tuple #[tmps.getD q undef, v, tmps.getD u undef]) w₂ := by
  simp only [results, h]
  simp [Sem.run_bind, Result.andThen]
end Go
