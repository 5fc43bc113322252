/- What the store tells, in plain terms. -/
import Derived.Test.YtpbejbpimcidjaaSwR
set_option linter.unusedSimpArgs false
set_option linter.unusedVariables false
namespace Go.Proofs.Ytpbejbpimcidjaa
open Go Go.Lib Go.RowKit Go.Maps Go.Sort

theorem bytesRow_at (d : ByteArray) (c : Nat) {j : Nat} (hj : j < d.size) : (bytesRow d c)[j]? = some (.int .u8 ((d[j]).toNat : Int)) := by
  have hj2 : j < d.data.size := hj
  unfold bytesRow
  rw [Array.getElem?_append_left (by simpa using hj2), Array.getElem?_map, Array.getElem?_eq_getElem hj2]
  rfl
theorem byt_of_conv {w : World} {g c : Nat} {d : ByteArray} {fr : Nat × Nat} (h : w.heap[g]? = some (.cells (bytesRow d c) 5 fr)) : BytA w (.slice (some ⟨g, 0, none⟩) d.size c) d := by
  exact .inr ⟨_, c, rfl, trivial, fun j hj => by rw [Go.WideShapes.add_plain, Nat.zero_add, cell_of_block h]; exact bytesRow_at d c hj⟩
/-- the names of the keys that are there, rising -/
def nms (A : An) : List (List UInt8) := ((List.range 5).filter (fun k => (A k).isSome)).map (fun k => (nm k).data.toList)
theorem nm_le {i j : Nat} (hij : i < j) (hj : j < 5) : (nm i).data.toList ≤ (nm j).data.toList := by
  have hi : i = 0 ∨ i = 1 ∨ i = 2 ∨ i = 3 := by omega
  have hj' : j = 1 ∨ j = 2 ∨ j = 3 ∨ j = 4 := by omega
  rcases hi with rfl | rfl | rfl | rfl <;> rcases hj' with rfl | rfl | rfl | rfl <;> first | omega | decide
theorem okK_all (x : List UInt8) : okK ⟨#[]⟩ ⟨#[]⟩ x = true := by
  have h : (ByteArray.mk #[]).toList = [] := by rw [toList_data]
  unfold okK
  rw [h]
  cases x <;> simp [hasPrefix, Op.bytesLess]
theorem ks_nms {D : DataW Unit} {A : An} (hA : Agr D A) {ss : List (List UInt8)} (h : KS ⟨#[]⟩ ⟨#[]⟩ D ss) : ss = nms A := by
  have hnd : (nms A).Nodup := by
    unfold nms
    refine List.pairwise_map.2 ((List.nodup_range.filter _).imp_of_mem ?_)
    intro a b ha hb hne e
    have h1 := (List.mem_filter.1 ha).1
    have h2 := (List.mem_filter.1 hb).1
    exact hne (nm_inj (List.mem_range.1 h1) (List.mem_range.1 h2) e)
  have hpw : (nms A).Pairwise (· ≤ ·) := by
    unfold nms
    refine List.pairwise_map.2 ((List.pairwise_lt_range.filter _).imp_of_mem ?_)
    intro a b ha hb hlt
    exact nm_le hlt (List.mem_range.1 (List.mem_filter.1 hb).1)
  have hp : ss.Perm (nms A) := (List.perm_ext_iff_of_nodup h.1 hnd).2 fun x => by
    rw [h.2.1 x, hA.has]
    simp only [nms, List.mem_map, List.mem_filter, List.mem_range, okK_all, and_true]
    exact ⟨fun ⟨k, h1, h2, h3⟩ => ⟨k, ⟨h1, h3⟩, h2.symm⟩, fun ⟨k, ⟨h1, h3⟩, h2⟩ => ⟨k, h1, h2.symm, h3⟩⟩
  refine hp.eq_of_pairwise (le := (· ≤ ·)) (fun a b _ _ h1 h2 => List.le_antisymm h1 h2) h.2.2 hpw
theorem nms_le (A : An) : (nms A).length ≤ 5 := by
  unfold nms
  rw [List.length_map]
  exact Nat.le_trans (List.length_filter_le _ _) (by simp)
section
variable (w0 W : World) (S : Nat) (first : Int) (hh : List He) (fl : Nat) (h : StX w0 W S first hh fl) (hok : ∀ e ∈ hh, Hok e) (hfl : fl ≤ hh.length) (hlen : hh.length ≤ 400) (h0 : 0 ≤ first) (hr : first + (hh.length : Int) ≤ mx)
include h
theorem rev_op : Calls Try.prog 13 #[.pointer (some ⟨S, 0, none⟩)] W fun e w' => e = .returned (.int .i64 (first + (hh.length : Int))) ∧ w' = W := by
  obtain ⟨mb, mn, pv, m, hbox, hmp⟩ := h.view
  exact rev_any S _ _ _ _ _ W hbox
theorem floor_op : Calls Try.prog 12 #[.pointer (some ⟨S, 0, none⟩)] W fun e w' => e = .returned (.int .i64 (first + (fl : Int))) ∧ w' = W := by
  obtain ⟨mb, mn, pv, m, hbox, hmp⟩ := h.view
  exact floor_any S _ _ _ _ _ W hbox
include hok
theorem len_op : Calls Try.prog 26 #[.pointer (some ⟨S, 0, none⟩)] W fun e w' => e = .returned (.int .i64 (cnt (runA A0 first hh) : Int)) ∧ w' = W := by
  obtain ⟨mb, mn, pv, m, hbox, hmp⟩ := h.view
  have hA := Agr.empty.fol hh (evts_ok hok) first
  rw [← hA.size]
  have c1 : W.cell? ⟨S, 3, none⟩ = some mn := by rw [cell_of_block hbox]; rfl
  have hln := fun ty => hmp.len ty
  clear hbox hmp
  go_enter Try.func26, Try.ntmps26
  go_wp2_with fail
  go_ret
  exact ⟨rfl, rfl⟩
theorem get_op (k : Nat) (hk : k < 5) : Calls Try.prog 24 #[.pointer (some ⟨S, 0, none⟩), .string (nm k)] W fun e W' => (match runA A0 first hh k with
    | none => e = .returned (.tuple #[.slice none 0 0, .int .i64 0, .int .i64 190])
    | some x => ∃ v, e = .returned (.tuple #[v, .int .i64 x.1, .int .i64 0]) ∧ BytA W' v x.2) ∧ Below W.heap.size W W' := by
  obtain ⟨mb, mn, pv, m, hbox, hmp⟩ := h.view
  have hA := Agr.empty.fol hh (evts_ok hok) first
  cases hs : runA A0 first hh k with
  | none => exact get_miss W S _ _ mb mn pv m _ (nm k) hbox hmp (by rw [nm_size]; decide) (by rw [nm_size]; decide) (hA.no hk hs)
  | some x =>
    obtain ⟨r, d⟩ := x
    refine (get_ok W S _ _ mb mn pv m _ (nm k) d r hbox hmp (by rw [nm_size]; decide) (by rw [nm_size]; decide) (hA.at_ k hk r d hs)).mono ?_
    rintro e W' ⟨⟨g, c, fr, rfl, hb⟩, b⟩
    exact ⟨⟨_, rfl, byt_of_conv hb⟩, b⟩
include hfl hlen h0 hr
theorem list_op (i : Nat) (hi : fl ≤ i) (hi2 : i ≤ hh.length) : Calls Try.prog 27 #[.pointer (some ⟨S, 0, none⟩), .int .i64 (first + (i : Int)), .string ⟨#[]⟩, .string ⟨#[]⟩, .int .i64 9] W fun e W' => ∃ v l, e = .returned (.tuple #[v, .int .i64 0]) ∧ l.map Itm.key = nms (runA A0 first (hh.take i)) ∧ Its W' W.heap.size (fol (.map []) first ((hh.take i).map toE)) (nms (runA A0 first (hh.take i))) v l ∧ Below W.heap.size W W' := by
  obtain ⟨mb, mn, pv, m, hbox, hmp⟩ := h.view
  have hA := Agr.empty.fol (hh.take i) (fun e he => evts_ok hok e (List.mem_of_mem_take he)) first
  have hAs : Calls Try.prog 34 #[.pointer (some ⟨S, 0, none⟩), .int .i64 (first + (i : Int))] W fun e W' => (∃ v m, e = .returned v ∧ MpV W' v m (fol (.map []) first ((hh.take i).map toE))) ∧ Below W.heap.size W W' := by
    by_cases hil : i = hh.length
    · subst hil
      rw [List.take_length]
      refine (asof_now S _ _ mb mn pv W hbox).mono ?_
      rintro e W' ⟨rfl, rfl⟩
      exact ⟨⟨_, m, rfl, hmp⟩, Below.refl _ _⟩
    · rcases h with ⟨rfl, _⟩ | ⟨bb, bn, n, pv, h1, h⟩
      · simp at hi2; omega
      · have hc := asof_past _ w0 W S _ _ bb bn n _ _ pv _ (i - fl) h (by rw [List.length_map, List.length_drop]; omega) (by rw [List.length_map, List.length_drop]; omega) (by omega) (by rw [List.length_map, List.length_drop]; constructor; omega; show first + (fl : Int) + ((hh.length - fl : Nat) : Int) ≤ mx; omega) (by omega)
        rw [show first + (fl : Int) + ((i - fl : Nat) : Int) = first + (i : Int) by omega] at hc
        have e1 : fol (fol (.map []) first ((hh.take fl).map toE)) (first + (fl : Int)) (((hh.drop fl).map toE).take (i - fl)) = fol (.map []) first ((hh.take i).map toE) := by
          have e2 : hh.take i = hh.take fl ++ (hh.drop fl).take (i - fl) := by
            rw [← List.take_add, show fl + (i - fl) = i by omega]
          rw [show ((hh.drop fl).map toE).take (i - fl) = ((hh.drop fl).take (i - fl)).map toE from (List.map_take ..).symm, e2, List.map_append, fol_app, List.length_map, List.length_take, Nat.min_eq_left hfl]
        rw [e1] at hc
        exact hc
  refine (list_any S _ _ (first + (i : Int)) mb mn pv _ ⟨#[]⟩ ⟨#[]⟩ 9 W hbox hAs (by omega) (by omega) (by omega) (by decide) (by have := hA.le; omega)).mono ?_
  rintro e W' ⟨v, ss, l, rfl, hks, hl, hits, b⟩
  obtain rfl := ks_nms hA hks
  have hl2 : l.length = (nms (runA A0 first (hh.take i))).length := by have := nms_le (runA A0 first (hh.take i)); omega
  refine ⟨v, l, rfl, ?_, hits, b⟩
  rw [hits.keys, hl2, List.take_length]
theorem events_op (i : Nat) (hi : fl ≤ i) (hi2 : i ≤ hh.length) : Calls Try.prog 29 #[.pointer (some ⟨S, 0, none⟩), .int .i64 (first + (i : Int)), .int .i64 (hh.length : Int)] W fun e W' => ∃ v l, e = .returned (.tuple #[v, .int .i64 0]) ∧ l.map Eit.e = (hh.drop i).map toE ∧ Eis W' W.heap.size (first + (i : Int)) ((hh.drop i).map toE) v l ∧ Below W.heap.size W W' := by
  have hc : Calls Try.prog 29 #[.pointer (some ⟨S, 0, none⟩), .int .i64 (first + (i : Int)), .int .i64 (hh.length : Int)] W (EvPost (first + (i : Int)) ((hh.drop i).map toE) hh.length W) := by
    rcases h with ⟨rfl, h2, rfl, h4, h5, h6⟩ | ⟨bb, bn, n, pv, h1, h⟩
    · obtain rfl : i = 0 := by simpa using hi2
      rw [show first + ((0 : Nat) : Int) = first by omega]
      exact events_nil S first first _ _ 0 W h4 h0 (Int.le_refl _) (by rw [h2]; exact Int.le_refl _) (by decide)
    · have hc := events_any _ w0 W S _ _ bb bn n _ _ pv _ (i - fl) hh.length h (by rw [List.length_map, List.length_drop]; omega) (by rw [List.length_map, List.length_drop]; omega) (by omega) hr (by omega) (by omega)
      rw [show first + (fl : Int) + ((i - fl : Nat) : Int) = first + (i : Int) by omega] at hc
      have e1 : ((hh.drop fl).map toE).drop (i - fl) = (hh.drop i).map toE := by rw [← List.map_drop, List.drop_drop, show fl + (i - fl) = i by omega]
      rw [e1] at hc
      exact hc
  refine hc.mono ?_
  rintro e W' ⟨v, l, rfl, hl, hev, b⟩
  refine ⟨v, l, rfl, ?_, hev, b⟩
  have hl2 : l.length = ((hh.drop i).map toE).length := by rw [hl, List.length_map, List.length_drop]; omega
  rw [hev.evs, hl2, List.take_length]
theorem compact_op (i : Nat) (hi : fl ≤ i) (hi2 : i ≤ hh.length) : Calls Try.prog 7 #[.pointer (some ⟨S, 0, none⟩), .int .i64 (first + (i : Int))] W fun e W' => e = .returned (.int .i64 0) ∧ StX w0 W' S first hh i ∧ Kb W W' := by
  obtain ⟨mb, mn, pv0, m, hbox, hmp⟩ := h.view
  rcases Nat.eq_or_lt_of_le hi with rfl | hlt
  · refine (compact_same S _ _ mb mn pv0 W hbox (by omega) (by omega)).mono ?_
    rintro e W' ⟨rfl, rfl⟩
    exact ⟨rfl, h, fun _ _ _ _ _ _ => rfl⟩
  · rcases h with ⟨rfl, _⟩ | ⟨bb, bn, n, pv, h1, h⟩
    · simp at hi2; omega
    · have hc := compact_many _ W W S _ _ bb bn n _ _ pv _ (i - fl) h.enter (by omega) (by rw [List.length_map, List.length_drop]; omega) (by rw [List.length_map, List.length_drop]; omega) (by omega) (by constructor; omega; show first + (fl : Int) + ((i - fl : Nat) : Int) ≤ mx; omega) (by omega)
      rw [show first + (fl : Int) + ((i - fl : Nat) : Int) = first + (i : Int) by omega] at hc
      refine hc.mono ?_
      rintro e W' ⟨rfl, pv', hS⟩
      obtain ⟨hS2, hK⟩ := h.leave hS
      refine ⟨rfl, .inr ⟨bb, bn, n + (i - fl), pv', by omega, ?_⟩, hK⟩
      have e1 : fol (fol (.map []) first ((hh.take fl).map toE)) (first + (fl : Int)) (((hh.drop fl).map toE).take (i - fl)) = fol (.map []) first ((hh.take i).map toE) := by
        have e2 : hh.take i = hh.take fl ++ (hh.drop fl).take (i - fl) := by
          rw [← List.take_add, show fl + (i - fl) = i by omega]
        rw [show ((hh.drop fl).map toE).take (i - fl) = ((hh.drop fl).take (i - fl)).map toE from (List.map_take ..).symm, e2, List.map_append, fol_app, List.length_map, List.length_take, Nat.min_eq_left hfl]
      have e3 : ((hh.drop fl).map toE).drop (i - fl) = (hh.drop i).map toE := by rw [← List.map_drop, List.drop_drop, show fl + (i - fl) = i by omega]
      rw [e1, e3] at hS2
      exact hS2
omit hok hfl hlen hr in
theorem compact_no : Calls Try.prog 7 #[.pointer (some ⟨S, 0, none⟩), .int .i64 (first + (hh.length : Int) + 1)] W fun e W' => e = .returned (.int .i64 196) ∧ W' = W := by
  obtain ⟨mb, mn, pv0, m, hbox, hmp⟩ := h.view
  exact compact_future S _ _ _ mb mn pv0 W hbox (by omega) (by omega)
omit hok hlen hr hfl in
theorem list_out (most : Int) (hmost : 0 ≤ most) : Calls Try.prog 27 #[.pointer (some ⟨S, 0, none⟩), .int .i64 (first + (fl : Int) - 1), .string ⟨#[]⟩, .string ⟨#[]⟩, .int .i64 most] W fun e W' => e = .returned (.tuple #[.slice none 0 0, .int .i64 (if first + (fl : Int) = 0 then 2 else 195)]) ∧ W' = W := by
  obtain ⟨mb, mn, pv0, m, hbox, hmp⟩ := h.view
  by_cases hz : first + (fl : Int) = 0
  · rw [if_pos hz]
    exact list_no S _ most 2 ⟨#[]⟩ ⟨#[]⟩ W (by decide) (past_no S _ _ _ most 2 mb mn pv0 W hbox hmost (.inl ⟨by omega, rfl⟩))
  · rw [if_neg hz]
    exact list_no S _ most 195 ⟨#[]⟩ ⟨#[]⟩ W (by decide) (past_no S _ _ _ most 195 mb mn pv0 W hbox hmost (.inr (.inl ⟨by omega, by omega, rfl⟩)))
omit hok hlen hr in
theorem events_out (most : Int) (hmost : 0 ≤ most) : Calls Try.prog 29 #[.pointer (some ⟨S, 0, none⟩), .int .i64 (first + (hh.length : Int) + 1), .int .i64 most] W fun e W' => e = .returned (.tuple #[.slice none 0 0, .int .i64 196]) ∧ W' = W := by
  obtain ⟨mb, mn, pv0, m, hbox, hmp⟩ := h.view
  exact events_no S _ most 196 W (by decide) (past_no S _ _ _ most 196 mb mn pv0 W hbox hmost (.inr (.inr ⟨by omega, by omega, by omega, rfl⟩)))
end
end Go.Proofs.Ytpbejbpimcidjaa
