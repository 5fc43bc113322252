import Derived.Test.YtjdgnajjggjljaaDoorPutS
/- Of: the program's and the document's. -/
set_option linter.unusedSimpArgs false
set_option linter.unusedVariables false
namespace Go.Proofs.YtjdgnajjggjljaaDoor
open Go.RowKit Go.Lib
set_option maxHeartbeats 4000000 in
theorem of_any (l : List (List El)) (S : Nat → Prop) (al : Option Addr) (cl bl ol : Nat) (w : World) (tb : Tb w) (hal : Headed al l.length cl bl ol) (hl : liesQ w S l bl ol) (hS : ∀ b, S b → b < w.heap.size) (hwt : l.length + wtQ l ≤ 2147483647) :
    Calls Tryd.prog 24 #[.slice al l.length cl] w (SoPost l w) := by
  have c := hmk (sort_any l S al cl bl ol w tb hal hl hS hwt)
  clear hl tb
  go_enter Tryd.func24, Tryd.ntmps24
  go_wp2_with fail
  refine c.out.mono ?_
  rintro e w1 ⟨b1, h1⟩
  rcases h1 with ⟨hall, R, sa, sc, sb, so, hR, rfl, hhs, hls⟩ | ⟨hno, rfl⟩
  · have H1 := hmk (And.intro hall (And.intro hR (And.intro hhs hls)))
    clear hall hR hls
    go_wp2_with fail
    go_ret2
    exact ⟨b1, .inl ⟨H1.out.1, R, sa, sc, sb, so, H1.out.2.1, rfl, H1.out.2.2.1, H1.out.2.2.2⟩⟩
  · have H1 := hmk hno
    clear hno
    go_wp2_with fail
    go_ret2
    exact ⟨b1, .inr ⟨H1.out, rfl⟩⟩
set_option maxHeartbeats 16000000 in
set_option maxRecDepth 100000 in
theorem rof_any (l : List (List El)) (S : Nat → Prop) (al : Option Addr) (cl bl ol : Nat) (w : World) (hal : Headed al l.length cl bl ol) (hl : liesQ w S l bl ol) (hS : ∀ b, S b → b < w.heap.size) (hwt : l.length + wtQ l ≤ 2147483647) :
    Calls Tryd.prog 25 #[.slice al l.length cl] w (RoPost l S w) := by
  have HL := hmk hl
  have HS := hmk hS
  clear hl
  have hlen : l.length ≤ 9223372036854775807 := by omega
  go_enter Tryd.func25, Tryd.ntmps25
  go_wp2_with fail
  go_loopw [4, 5] (fun e4 e5 wr => ∃ (j : Nat) (R : List (PC w S)) (ov : Value), j ≤ l.length ∧ e4 = ov ∧ e5 = .int .i64 (j : Int) ∧ Below w.heap.size w wr ∧ Hid (∀ p ∈ l.take j, pathB p = true) ∧ Hid (Rs (l.take j) (R.map PC.p)) ∧ Hid (wr.ownsRow w.heap.size 23 1 ov R.length (R.map PC.enc)) ∧ R.length ≤ j) (fun _ e5 _ => l.length - (RowKit.intOf e5).toNat)
  case atStart => exact ⟨0, [], _, by omega, rfl, rfl, Below.refl _ _, (by intro p hp; simp at hp), (by show Rs _ _; exact ⟨by simp, by simp⟩), World.ownsRow_nil _ _ _ _, Nat.le_refl _⟩
  case round =>
    obtain ⟨j, R, ov, hj, rfl, rfl, bj, HG, HRS, OR, hRj⟩ := hrel
    have hzr := bj.size
    by_cases hjl : j < l.length
    case neg =>
      obtain rfl : j = l.length := by omega
      have y3 : ¬ (l.length : Int) < l.length := by omega
      have HG' : Hid (∀ p ∈ l, pathB p = true) := by have := HG.out; rwa [List.take_length] at this
      have HR' : Hid (Rs l (R.map PC.p)) := by have := HRS.out; rwa [List.take_length] at this
      obtain ⟨sa, sc, sb, so, rfl, hdl, hLs⟩ := own_lies (T := Tw S w wr) OR.out (fun b hb => bj.block b (hS b hb)) (fun b hb => .inl hb) (fun g h1 h2 => .inr ⟨h1, h2⟩)
      have HLs := hmk hLs
      have HHd := hmk hdl
      generalize R.map PC.p = RR at *
      clear hLs OR HG HRS hdl
      go_wp2_with fail
      go_ret2
      exact ⟨bj, .inl ⟨HG'.out, RR, sa, sc, sb, so, HR'.out, rfl, HHd.out, HLs.out⟩⟩
    have y3 : (j : Int) < l.length := by omega
    obtain ⟨hSb, v, hv, aq, cq, bq, oq, rfl, hhq, hlq⟩ := HL.out j hjl
    obtain rfl : al = some ⟨bl, ol, none⟩ := hal.at_.resolve_left (by omega)
    have hkw : ∀ b, S b → wr.heap[b]? = w.heap[b]? := fun b hb => bj.block b (hS b hb)
    have rq : wr.cell? ⟨bl, ol + j, none⟩ = some (.slice aq (l[j]).length cq) := (World.cell?_of_block (w := w) (a := ⟨bl, ol + j, none⟩) (hkw _ hSb)).trans hv
    have hwj : wtP l[j] ≤ 2147483647 := by have := wtQ_mem (List.getElem_mem hjl); omega
    have HTP : Hid (l.take (j + 1) = l.take j ++ [l[j]]) := by show _ = _; rw [List.take_succ_eq_append_getElem hjl]
    have c := hmk (rpcheck_any l[j] S aq cq bq oq wr hhq (liesP_keep hkw (fun _ h => h) hlq) (fun b hb => Nat.lt_of_lt_of_le (hS b hb) hzr) hwj)
    have HMJ : Hid (l[j] ∈ l) := List.getElem_mem hjl
    have CP : Hid (pathB l[j] = true → ∀ W, Below wr.heap.size wr W → Calls Tryd.prog 43 #[u4, .slice aq (l[j]).length cq] W (PtPost w.heap.size (l.take j) l[j] R W)) := fun hpj W hb =>
      rput_any hS w.heap.size (l.take j) ⟨l[j], aq, cq, bq, oq, hhq, hlq⟩ R u4 W (bj.trans (hb.mono hzr)) (Nat.le_trans hzr hb.size) (own_below OR.out hb) HRS.out (fun y hy => HG.out _ ((HRS.out.2 _).1 (List.mem_map_of_mem hy))) hpj (fun y hy => by have := wtQ_mem (List.mem_of_mem_take ((HRS.out.2 _).1 (List.mem_map_of_mem hy))); omega) hwj (by omega)
    clear hv hlq hhq hkw hwj
    cases hp : pathB l[j] with
    | false =>
      have ya : (((errP l[j] : Nat) : Int) != 0) = true := by rw [errP_no hp]; rfl
      have HN : Hid (¬ ∀ p ∈ l, pathB p = true) := fun h => by rw [h _ HMJ.out] at hp; cases hp
      generalize errP l[j] = Ea at *
      clear hp CP HTP OR HRS
      generalize l[j] = pj at *
      go_wp2_with fail
      refine c.out.mono ?_
      rintro e w1 ⟨rfl, b1⟩
      go_wp2_with fail
      go_ret2
      exact ⟨bj.trans (b1.mono hzr), .inr ⟨HN.out, rfl⟩⟩
    | true =>
      have ya : (((errP l[j] : Nat) : Int) != 0) = false := by rw [errP_yes hp]; rfl
      have HG2 : Hid (∀ p ∈ l.take (j + 1), pathB p = true) := fun p h => by
        rw [HTP.out, List.mem_append, List.mem_singleton] at h
        rcases h with h | rfl
        · exact HG.out p h
        · exact hp
      have CQ := hmk (CP.out hp)
      generalize errP l[j] = Ea at *
      clear hp HG HMJ CP OR
      generalize l[j] = pj at *
      go_wp2_with fail
      refine c.out.mono ?_
      rintro e w1 ⟨rfl, b1⟩
      have B1 := bj.trans (b1.mono hzr)
      have rq1 : w1.cell? ⟨bl, ol + j, none⟩ = some (.slice aq pj.length cq) := (b1.cell (p := ⟨bl, ol + j, none⟩) (World.block_lt_of_cell? wr _ rq)).trans rq
      have c2 := hmk (CQ.out w1 b1)
      clear c rq b1 bj hzr CQ
      go_wp2_with fail
      refine c2.out.mono ?_
      rintro e w2 ⟨R', v', rfl, ho, hr, hlr, b2⟩
      have B2 := hmk (B1.trans (b2.mono B1.size))
      have OO := hmk ho
      have HRR : Hid (Rs (l.take (j + 1)) (R'.map PC.p)) := by show Rs _ _; rw [HTP.out]; exact hr
      clear ho hr b2 B1 c2 rq1
      go_wp2_with fail
      go_roundw
      case rel => exact ⟨j + 1, R', _, by omega, rfl, by go_num, B2.out, HG2, HRR, OO, by omega⟩
      case measure => simp [RowKit.intOf]; omega
end Go.Proofs.YtjdgnajjggjljaaDoor
