import Derived.Test.YtihcggepeadklaaGreatDoorDcmG
/- The document's Parse of a word. -/
set_option linter.unusedSimpArgs false
set_option linter.unusedVariables false
namespace Go
theorem results_ctt {fn : Func} {p q u : Tmp} {ty : TypeId} (h : fn.results = #[.cell p ty, .tmp q, .tmp u]) (tmps : Array Value) (P : Program) (w : World) :
    (results fn tmps).run P w =
      ((asAddr (tmps.getD p undef)).run P w).andThen fun a w₁ => ((loadVar ty a).run P w₁).andThen fun v w₂ => .ok (.tuple #[v, tmps.getD q undef, tmps.getD u undef]) w₂ := by
  simp only [results, h]
  simp [Sem.run_bind, Result.andThen]
end Go
namespace Go.Proofs.YtihcggepeadklaaGreatDoor
open Go.RowKit Go.Lib
/-- a byte of a word or of a number -/
def wrdB (r : Int) : Bool := latR r || (decide (r = 43) || decide (r = 46))
theorem wrdB_no {c : UInt8} (h : wrdB c.toNat = true) : blkB c.toNat = false ∧ c.toNat ≠ 34 ∧ c.toNat ≠ 91 ∧ c.toNat ≠ 123 := by
  have : ∀ d : Fin 256, wrdB (d.val : Int) = true → blkB (d.val : Int) = false ∧ d.val ≠ 34 ∧ d.val ≠ 91 ∧ d.val ≠ 123 := by decide +kernel
  exact this ⟨c.toNat, c.toNat_lt⟩ h
def WrdS (s : ByteArray) : Prop := ∀ (j : Nat) (h : j < s.size), wrdB ((s[j]'h).toNat : Int) = true
theorem dval_any (g : Nat) (s : ByteArray) (w : World) (h : RB g s 0 0 0 0 w) (hw : WrdS s) (hs : s.size ≤ 2147483647) :
    Calls Tryz.prog 121 #[.pointer (some ⟨g, 0, none⟩), .int .i64 0] w (VlP (valP s.data.toList) g s w) := by
  by_cases h0 : s.size = 0
  · exact dval_end g s w h h0 hs
  have hp : 0 < s.size := by omega
  obtain ⟨hb, n34, n91, n123⟩ := wrdB_no (hw 0 hp)
  by_cases c1 : (s[0]'hp).toNat = 110
  · exact dval_n g s w h hp c1 hs
  by_cases c2 : (s[0]'hp).toNat = 116
  · exact dval_t g s w h hp c2 hs
  by_cases c3 : (s[0]'hp).toNat = 102
  · exact dval_f g s w h hp c3 hs
  cases hn : numB ((s[0]'hp).toNat : Int) with
  | true => exact dval_num g s w h hp hn hs
  | false => exact dval_bad g s w h hp hb hn ⟨c1, c2, c3, n34, n91, n123⟩ hs
def parP (l : List UInt8) : Option V := (valP l).bind (fun x => if x.2 = l.length then some x.1 else none)
def PjP (R : Option V) (w : World) (e : Ending) (w' : World) : Prop :=
  Below w.heap.size w w' ∧ ((∃ (vk : Int) (vb : Bool) (vi : Int), R = some (.mk vk vb vi ⟨#[]⟩ [] []) ∧ e = .returned (.tuple #[.agg #[.int .i64 vk, .bool vb, .int .i64 vi, .string ⟨#[]⟩, .slice none 0 0, .slice none 0 0], .int .i64 (-1), .int .i64 0])) ∨
    (R = none ∧ ∃ (bad er : Int), er ≠ 0 ∧ e = .returned (.tuple #[.agg #[.int .i64 0, .bool false, .int .i64 0, .string ⟨#[]⟩, .slice none 0 0, .slice none 0 0], .int .i64 bad, .int .i64 er])))
abbrev rdO (s : ByteArray) : Obj := .cells #[.string s, .int .i64 0, .int .i64 0, .int .i64 0, .int .i64 0, .int .i64 0] 156
theorem belowD {w X : World} {n : Nat} (h : Below n w X) : Below n w X.drew := below_drewN h 1
theorem belowG {w W W' : World} {g : Nat} (h : Below w.heap.size w W) (hg : W.grownBy W' (some g)) (hgw : w.heap.size ≤ g) : Below w.heap.size w W' := h.grown hg h.size (fun k hk => by cases hk; exact hgw)
set_option maxHeartbeats 2000000 in
set_option maxRecDepth 100000 in
theorem dparse_any (s : ByteArray) (a : Option Addr) (c : Nat) (w : World) (hw : WrdS s) (hs : s.size ≤ 1048576) (hcv : ∀ W, Below w.heap.size w W → (convert 52 9 (.slice a s.size c)).run Tryz.prog W = .ok (.string s) W) :
    Calls Tryz.prog 93 #[.slice a s.size c, .int .i64 0] w (PjP (parP s.data.toList) w) := by
  have hls : s.data.toList.length = s.size := by simp
  have HLS := hmk hls
  have y0 : ¬ (1048576 : Int) < s.size := by omega
  have b1 : Below w.heap.size w (w.alloc z46) := (Below.refl _ _).alloc (Nat.le_refl _) _
  have b2 : Below w.heap.size w ((w.alloc z46).alloc (rdO s)) := b1.alloc (by rw [alloc_size]; omega) _
  have cv1 := hcv _ b1
  have hz1 : (w.alloc z46).heap.size = w.heap.size + 1 := by rw [alloc_size]
  have hz2 : ((w.alloc z46).alloc (rdO s)).heap.size = w.heap.size + 2 := by rw [alloc_size, alloc_size]
  have n1 : ((w.alloc z46).alloc (rdO s)).heap[w.heap.size]? = some z46 := (Below.heap_alloc _ _ _ (by rw [alloc_size]; omega)).trans (heap_alloc_new w _)
  have R2 : RB (w.heap.size + 1) s 0 0 0 0 ((w.alloc z46).alloc (rdO s)) := alloc2_new w _ _
  have CV := hmk (dval_any (w.heap.size + 1) s _ R2 hw (by omega))
  have HB2 := hmk b2
  have HN1 := hmk n1
  have HZ2 := hmk hz2
  have HW := hmk hw
  clear hls hcv hs hw b2 n1 R2 hz2 b1
  go_enter Tryz.func93, Tryz.ntmps93
  go_wp2_with fail
  refine CV.out.mono ?_
  rintro e w3 ⟨vk, vb, vi, k1, nd, er, bad, rfl, hk1, R3, g3, hres⟩
  have hg3 : w.heap.size + 1 < w3.heap.size := Nat.lt_of_lt_of_le (by have := HZ2.out; omega) g3.size
  have B3 := belowG HB2.out g3 (by omega)
  have n3 : w3.heap[w.heap.size]? = some z46 := (g3.block _ (by have := HZ2.out; omega) (fun e => by have := Option.some.inj e; omega)).trans HN1.out
  have R4 := R3.keep ((Below.refl _ w3).alloc (Nat.le_refl _) (.cells #[.int .i64 vk, .bool vb, .int .i64 vi, .string ⟨#[]⟩, .slice none 0 0, .slice none 0 0] 46))
  have B4 : Below w.heap.size w (w3.alloc (.cells #[.int .i64 vk, .bool vb, .int .i64 vi, .string ⟨#[]⟩, .slice none 0 0, .slice none 0 0] 46)) := B3.alloc B3.size _
  have n4 : (w3.alloc (.cells #[.int .i64 vk, .bool vb, .int .i64 vi, .string ⟨#[]⟩, .slice none 0 0, .slice none 0 0] 46)).heap[w.heap.size]? = some z46 := (Below.heap_alloc _ _ _ (by omega)).trans n3
  have m4 := heap_alloc_new w3 (.cells #[.int .i64 vk, .bool vb, .int .i64 vi, .string ⟨#[]⟩, .slice none 0 0, .slice none 0 0] 46)
  have hz4 := alloc_size w3 (.cells #[.int .i64 vk, .bool vb, .int .i64 vi, .string ⟨#[]⟩, .slice none 0 0, .slice none 0 0] 46)
  have CB := hmk (dblanks_none (w.heap.size + 1) s k1 nd er bad _ R4 hk1 (fun h => (wrdB_no (HW.out k1 h)).1))
  have K5 : Hid (∀ W, (w3.alloc (.cells #[.int .i64 vk, .bool vb, .int .i64 vi, .string ⟨#[]⟩, .slice none 0 0, .slice none 0 0] 46)).grownBy W (some (w.heap.size + 1)) → W.heap[w.heap.size]? = some z46 ∧ W.heap[w3.heap.size]? = some (.cells #[.int .i64 vk, .bool vb, .int .i64 vi, .string ⟨#[]⟩, .slice none 0 0, .slice none 0 0] 46) ∧ Below w.heap.size w W) := fun W hW =>
    ⟨(hW.block _ (by omega) (fun e => by have := Option.some.inj e; omega)).trans n4, (hW.block _ (by omega) (fun e => by have := Option.some.inj e; omega)).trans m4, belowG B4 hW (by omega)⟩
  have HRES := hmk hres
  clear CV R3 g3 B3 n3 R4 B4 n4 m4 hz4 hres HB2 HN1 HZ2 cv1 hz1
  go_wp2_with fail
  refine CB.out.mono ?_
  rintro e w5 ⟨rfl, R5, g5⟩
  clear CB
  have c0 := R5.c0
  have c1 := R5.c1
  have c4 := R5.c4
  have HR5 := hmk R5
  have HG5 := hmk g5
  clear R5 g5
  rcases HRES.out with ⟨hsome, rfl⟩ | ⟨hnone, her⟩
  · by_cases hk : k1 < s.size
    · have x1 : (k1 : Int) < s.size := by omega
      have HV : Hid (parP s.data.toList = none) := by
        show _ = _
        rw [parP, hsome, Option.bind_some, if_neg (by rw [HLS.out]; show k1 ≠ s.size; omega)]
      have HE : Hid ((35 : Int) ≠ 0) := by show _ ≠ _; omega
      clear hsome HRES
      go_wp2_with fail
      go_quiet (fail)
      have c1 : (w5.drewN nq).cell? ⟨w.heap.size + 1, 1, none⟩ = some (.int .i64 (k1 : Int)) := (HR5.out.drewN nq).c1
      have CF := hmk (dfail_any (w.heap.size + 1) s k1 nd bad (k1 : Int) 35 _ (HR5.out.drewN nq))
      have HG6 := hmk (grown_drewN HG5.out nq)
      generalize w5.drewN nq = w6 at *
      clear HR5 HG5 c0 c4
      go_wp2_with fail
      refine CF.out.mono ?_
      rintro e w7 ⟨rfl, RW, g7⟩
      obtain ⟨Na, -, BW⟩ := K5.out w7 (grown_trans HG6.out g7)
      clear g7 CF HG6 K5 c1
      have c4 := RW.c4
      have c5 := RW.c5
      have qa0 : w7.cell? ⟨w.heap.size, 0, none⟩ = some (.int .i64 0) := cell_of_block Na 0
      have qa1 : w7.cell? ⟨w.heap.size, 1, none⟩ = some (.bool false) := cell_of_block Na 1
      have qa2 : w7.cell? ⟨w.heap.size, 2, none⟩ = some (.int .i64 0) := cell_of_block Na 2
      have qa3 : w7.cell? ⟨w.heap.size, 3, none⟩ = some (.string ⟨#[]⟩) := cell_of_block Na 3
      have qa4 : w7.cell? ⟨w.heap.size, 4, none⟩ = some (.slice none 0 0) := cell_of_block Na 4
      have qa5 : w7.cell? ⟨w.heap.size, 5, none⟩ = some (.slice none 0 0) := cell_of_block Na 5
      have kf : ∀ ii, w7.frozen? ⟨w.heap.size, ii, none⟩ = false := frozen_of_block Na
      have sg := st6_grown w7 w.heap.size (.int .i64 0) (.bool false) (.int .i64 0) (.string ⟨#[]⟩) (.slice none 0 0) (.slice none 0 0)
      have HBF := hmk (belowD (belowG BW sg (Nat.le_refl _)))
      clear sg Na RW BW
      go_wp2_with fail
      go_region
      all_goals
        go_wp2_with fail
        (try simp only [Exit.inBlock, Exit.then])
        refine bodyPost_ret (v := .tuple #[.agg #[.int .i64 0, .bool false, .int .i64 0, .string ⟨#[]⟩, .slice none 0 0, .slice none 0 0], .int .i64 k1, .int .i64 35]) ?_ rfl ⟨HBF.out, .inr ⟨HV.out, _, _, HE.out, rfl⟩⟩
        rw [Go.results_ctt rfl]
        go_simp
    · have x1 : ¬ (k1 : Int) < s.size := by omega
      have HV : Hid (parP s.data.toList = some (.mk vk vb vi ⟨#[]⟩ [] [])) := by
        show _ = _
        rw [parP, hsome, Option.bind_some, if_pos (by rw [HLS.out]; show k1 = s.size; omega)]
      clear hsome HRES
      go_wp2_with fail
      go_quiet (fail)
      have c4 : (w5.drewN nq).cell? ⟨w.heap.size + 1, 4, none⟩ = some (.int .i64 0) := (HR5.out.drewN nq).c4
      obtain ⟨Na, Nb, BW⟩ := K5.out _ (grown_drewN HG5.out nq)
      generalize w5.drewN nq = w6 at *
      clear HR5 HG5 c0 K5
      have qa0 : w6.cell? ⟨w.heap.size, 0, none⟩ = some (.int .i64 0) := cell_of_block Na 0
      have qa1 : w6.cell? ⟨w.heap.size, 1, none⟩ = some (.bool false) := cell_of_block Na 1
      have qa2 : w6.cell? ⟨w.heap.size, 2, none⟩ = some (.int .i64 0) := cell_of_block Na 2
      have qa3 : w6.cell? ⟨w.heap.size, 3, none⟩ = some (.string ⟨#[]⟩) := cell_of_block Na 3
      have qa4 : w6.cell? ⟨w.heap.size, 4, none⟩ = some (.slice none 0 0) := cell_of_block Na 4
      have qa5 : w6.cell? ⟨w.heap.size, 5, none⟩ = some (.slice none 0 0) := cell_of_block Na 5
      have qb0 : w6.cell? ⟨w3.heap.size, 0, none⟩ = some (.int .i64 vk) := cell_of_block Nb 0
      have qb1 : w6.cell? ⟨w3.heap.size, 1, none⟩ = some (.bool vb) := cell_of_block Nb 1
      have qb2 : w6.cell? ⟨w3.heap.size, 2, none⟩ = some (.int .i64 vi) := cell_of_block Nb 2
      have qb3 : w6.cell? ⟨w3.heap.size, 3, none⟩ = some (.string ⟨#[]⟩) := cell_of_block Nb 3
      have qb4 : w6.cell? ⟨w3.heap.size, 4, none⟩ = some (.slice none 0 0) := cell_of_block Nb 4
      have qb5 : w6.cell? ⟨w3.heap.size, 5, none⟩ = some (.slice none 0 0) := cell_of_block Nb 5
      have kf : ∀ ii, w6.frozen? ⟨w.heap.size, ii, none⟩ = false := frozen_of_block Na
      have sg := st6_grown w6 w.heap.size (.int .i64 vk) (.bool vb) (.int .i64 vi) (.string ⟨#[]⟩) (.slice none 0 0) (.slice none 0 0)
      have HBF := hmk (belowG BW sg (Nat.le_refl _))
      clear sg Na Nb BW
      go_wp2_with fail
      (try simp only [Exit.inBlock, Exit.then])
      refine bodyPost_ret (v := .tuple #[.agg #[.int .i64 vk, .bool vb, .int .i64 vi, .string ⟨#[]⟩, .slice none 0 0, .slice none 0 0], .int .i64 (-1), .int .i64 0]) ?_ rfl ⟨HBF.out, .inl ⟨_, _, _, HV.out, rfl⟩⟩
      rw [Go.results_ctt rfl]
      go_simp
  · have x0 : (er == 0) = false := by rw [beq_eq_false_iff_ne]; exact her
    have x2 : (er != 0) = true := by rw [bne_iff_ne]; exact her
    have HV : Hid (parP s.data.toList = none) := by
      show _ = _
      rw [parP, hnone]; rfl
    have HE := hmk her
    clear hnone HRES her
    go_wp2_with fail
    go_quiet (fail)
    have RW := HR5.out.drewN nq
    obtain ⟨Na, -, BW⟩ := K5.out _ (grown_drewN HG5.out nq)
    generalize w5.drewN nq = w6 at *
    clear HR5 HG5 c0 c1 c4 K5
    have c4 := RW.c4
    have c5 := RW.c5
    have qa0 : w6.cell? ⟨w.heap.size, 0, none⟩ = some (.int .i64 0) := cell_of_block Na 0
    have qa1 : w6.cell? ⟨w.heap.size, 1, none⟩ = some (.bool false) := cell_of_block Na 1
    have qa2 : w6.cell? ⟨w.heap.size, 2, none⟩ = some (.int .i64 0) := cell_of_block Na 2
    have qa3 : w6.cell? ⟨w.heap.size, 3, none⟩ = some (.string ⟨#[]⟩) := cell_of_block Na 3
    have qa4 : w6.cell? ⟨w.heap.size, 4, none⟩ = some (.slice none 0 0) := cell_of_block Na 4
    have qa5 : w6.cell? ⟨w.heap.size, 5, none⟩ = some (.slice none 0 0) := cell_of_block Na 5
    have kf : ∀ ii, w6.frozen? ⟨w.heap.size, ii, none⟩ = false := frozen_of_block Na
    have sg := st6_grown w6 w.heap.size (.int .i64 0) (.bool false) (.int .i64 0) (.string ⟨#[]⟩) (.slice none 0 0) (.slice none 0 0)
    have HBF := hmk (belowD (belowG BW sg (Nat.le_refl _)))
    clear sg Na RW BW
    go_wp2_with fail
    go_region
    all_goals
      go_wp2_with fail
      (try simp only [Exit.inBlock, Exit.then])
      refine bodyPost_ret (v := .tuple #[.agg #[.int .i64 0, .bool false, .int .i64 0, .string ⟨#[]⟩, .slice none 0 0, .slice none 0 0], .int .i64 bad, .int .i64 er]) ?_ rfl ⟨HBF.out, .inr ⟨HV.out, _, _, HE.out, rfl⟩⟩
      rw [Go.results_ctt rfl]
      go_simp
end Go.Proofs.YtihcggepeadklaaGreatDoor
