/- joined: JlC JmA -/
import Derived.Test.YtpmhdcmmlkjjmaaGreatDoorJlB
/- Split. -/
set_option linter.unusedSimpArgs false
set_option linter.unusedVariables false
set_option maxRecDepth 100000
namespace Go.Proofs.YtpmhdcmmlkjjmaaGreatDoor
open Go.RowKit Go.Lib
def splJ : Nat → List UInt8 → List V → List V × Int × Int
  | 0, _, acc => (acc, -1, 0)
  | f + 1, l, acc => if l = [] then (acc, -1, 0) else if (parJ (lineJ l) 32).2.2 = 0 then splJ f (restJ l) (acc ++ [(parJ (lineJ l) 32).1]) else ([], (acc.length : Int), (parJ (lineJ l) 32).2.2)
def spJ (l : List UInt8) : List V × Int × Int := if 1048576 < l.length then ([], 0, 30) else splJ (l.length + 1) l []
theorem splJ_end {f : Nat} {acc : List V} : splJ (f + 1) [] acc = (acc, -1, 0) := by rw [splJ, if_pos rfl]
theorem splJ_bad {f : Nat} {l : List UInt8} {acc : List V} (h0 : l ≠ []) (h : ¬ (parJ (lineJ l) 32).2.2 = 0) : splJ (f + 1) l acc = ([], (acc.length : Int), (parJ (lineJ l) 32).2.2) := by rw [splJ, if_neg h0, if_neg h]
theorem splJ_on {f : Nat} {l : List UInt8} {acc : List V} (h0 : l ≠ []) (h : (parJ (lineJ l) 32).2.2 = 0) : splJ (f + 1) l acc = splJ f (restJ l) (acc ++ [(parJ (lineJ l) 32).1]) := by rw [splJ, if_neg h0, if_pos h]
def SpP (R : List V × Int × Int) (w : World) (e : Ending) (w' : World) : Prop := ∃ a c b o, e = .returned (.tuple #[.slice a R.1.length c, .int .i64 R.2.1, .int .i64 R.2.2]) ∧ Headed a R.1.length c b o ∧ liesL false w' (New w w') R.1 b o ∧ Below w.heap.size w w'
theorem lies_none (w : World) (S : Nat → Prop) : liesL false w S [] 0 0 := by rw [liesL]; trivial
set_option maxHeartbeats 16000000 in
theorem split_any (l : List UInt8) (v : Value) (w : World) (hb : Byt w v l) (t : Td w) (hl : l.length ≤ 140737488355328) : Calls Tryz.prog 20 #[v] w (SpP (spJ l) w) := by
  by_cases hlong : 1048576 < l.length
  · have HE : Hid (spJ l = ([], 0, 30)) := by show _ = _; rw [spJ, if_pos hlong]
    obtain ⟨ao, cap, b, o, rfl, _⟩ := hb
    have y1 : (1048576 : Int) < l.length := by omega
    go_enter Tryz.func20, Tryz.ntmps20
    go_wp2_with fail
    go_ret3
    rw [HE.out]
    exact ⟨none, 0, 0, 0, rfl, headed_nil, lies_none _ _, Below.refl _ _⟩
  have HE : Hid (spJ l = splJ (l.length + 1) l []) := by show _ = _; rw [spJ, if_neg hlong]
  have y1 : ¬ (1048576 : Int) < l.length := by omega
  have CC : Hid (∀ (m : List UInt8) (x : Value) (g : Nat) (W : World), Byt w x m → Below w.heap.size w W → m ≠ [] → m.length ≤ l.length → W.cell? ⟨g, 0, none⟩ = some (.int .u8 10) → Calls Tryz.prog 32 #[x, .slice (some ⟨g, 0, none⟩) 1 1] W (CuP m w W)) := fun m x g W hx hW h0 hm hg => cut_bytes m x g w W hx hW h0 (by omega) hg
  have CP : Hid (∀ (m : List UInt8) (x : Value) (W : World), Byt w x m → Below w.heap.size w W → m.length ≤ l.length → Calls Tryz.prog 15 #[x, .int .i64 32] W (PrP (parJ m 32) W)) := fun m x W hx hW hm => parse_any m x 32 W (hx.keep hW).bys (t.below hW (by have := t.z; omega) hW.size) ⟨by omega, by omega⟩ (by omega)
  obtain ⟨i1, hi1, hy0, hy1, hy2⟩ := info_parts info25
  have hJ : Hid (Tryz.prog.info? 25 = some i1 ∧ i1.zero = some (.agg #[.int .i64 0, .bool false, .int .i64 0, .string ⟨#[]⟩, .slice none 0 0, .slice none 0 0]) ∧ i1.size = 6 ∧ i1.bytes = 88) := ⟨hi1, hy0, hy1, hy2⟩
  obtain ⟨va, vc, hv⟩ : ∃ a c, v = .slice a l.length c := by
    obtain ⟨ao, cap, b, o, rfl, _⟩ := hb
    exact ⟨_, _, rfl⟩
  subst hv
  have HBW := hmk hb
  clear hb t hi1 hy0 hy1 hy2
  go_enter Tryz.func20, Tryz.ntmps20
  go_wp2_with fail
  go_loopg [0, 5] (l.length + 1) (fun F e0 e5 wr => ∃ (m : List UInt8) (acc : List V) (S : Nat → Prop), Byt w e0 m ∧ m.length < F ∧ m.length ≤ l.length ∧ acc.length + m.length ≤ l.length ∧ Below w.heap.size w wr ∧ OwnL false wr w.heap.size S e5 (acc.map some) ∧ Hid (spJ l = splJ F m acc))
  case atStart => exact ⟨l, [], _, HBW.out, by omega, Nat.le_refl _, by simp, Below.refl _ _, OwnR.nil _ _, HE⟩
  case round =>
    clear HE
    obtain ⟨m, acc, S, hb, hF, hm, hac, bj, oj, HF⟩ := hrel
    obtain ⟨f, rfl⟩ : ∃ f, gk = f + 1 := ⟨gk - 1, by omega⟩
    have HB := hmk hb
    by_cases h0 : m = []
    · subst h0
      obtain ⟨ma, mc, rfl⟩ : ∃ a c, u0 = .slice a 0 c := by
        obtain ⟨ao, cap, b, o, rfl, _⟩ := hb
        exact ⟨_, _, rfl⟩
      clear hb HB
      rw [splJ_end] at HF
      obtain ⟨sa, sc, sb, so, hu, hd, hls⟩ := own_listL0 (T := New w wr) oj (fun b hb => ⟨(oj.off b hb).1, (oj.off b hb).2.1⟩) (fun g hg => oj.lt hg)
      have HU := hmk hu
      have HD := hmk hd
      have HL := hmk hls
      clear hu hd hls oj CC CP
      go_wp2_with fail
      go_ret3
      rw [HF.out]
      exact ⟨sa, sc, sb, so, by rw [HU.out]; rfl, HD.out, HL.out, bj⟩
    · obtain ⟨ma, mc, rfl⟩ : ∃ a c, u0 = .slice a m.length c := by
        obtain ⟨ao, cap, b, o, rfl, _⟩ := hb
        exact ⟨_, _, rfl⟩
      clear hb
      have hpos : 0 < m.length := List.length_pos_iff.2 h0
      have y2 : (0 : Int) < (m.length : Int) := by omega
      have hrl := rest_len h0
      have hll := line_len m
      have zj := bj.size
      have zA := alloc_size wr (.cells #[.int .u8 10] 5)
      have bA : Below wr.heap.size wr (wr.alloc (.cells #[.int .u8 10] 5)) := (Below.refl _ _).alloc (Nat.le_refl _) _
      have BA := bj.trans (bA.mono zj)
      have CU := hmk (CC.out m _ wr.heap.size _ HB.out BA h0 hm (cell_of_block (heap_alloc_new wr (.cells #[.int .u8 10] 5)) 0))
      have HGO : Hid ((parJ (lineJ m) 32).2.2 = 0 → spJ l = splJ f (restJ m) (acc ++ [(parJ (lineJ m) 32).1])) := fun h => by rw [HF.out, splJ_on h0 h]
      have HBD : Hid (¬ (parJ (lineJ m) 32).2.2 = 0 → spJ l = ([], (acc.length : Int), (parJ (lineJ m) 32).2.2)) := fun h => by rw [HF.out, splJ_bad h0 h]
      have oA := oj.below (keepL false) bA
      have hlt : ∀ r, u5.ownBlock = some r → w.heap.size ≤ r := fun r e => (oj.lt e).1
      have hltx : ∀ r, u5.ownBlock = some r → r < wr.heap.size := fun r e => (oj.lt e).2
      clear HF HB CC oj
      go_wp2_with fail
      refine CU.out.mono ?_
      rintro e w1 ⟨x, y, fd, rfl, hx, hy, b1⟩
      have HX := hmk hx
      have HY := hmk hy
      obtain ⟨xa, xc, rfl⟩ : ∃ a c, x = .slice a (lineJ m).length c := by
        obtain ⟨ao, cap, b, o, rfl, _⟩ := hx
        exact ⟨_, _, rfl⟩
      obtain ⟨ya, yc, rfl⟩ : ∃ a c, y = .slice a (restJ m).length c := by
        obtain ⟨ao, cap, b, o, rfl, _⟩ := hy
        exact ⟨_, _, rfl⟩
      have z1 := b1.size
      have B1 := BA.trans (b1.mono (by omega))
      have o1 := oA.below (keepL false) b1
      have CPH := hmk (CP.out (lineJ m) _ w1 HX.out B1 (by omega))
      clear CU hx hy BA bA oA b1 HX
      generalize parJ (lineJ m) 32 = R at *
      obtain ⟨X, at_, er⟩ := R
      dsimp only at *
      go_wp2_with fail
      refine CPH.out.mono ?_
      rintro e w2 ⟨cs, rfl, hl1, b2⟩
      dsimp only at hl1
      have HL1 := hmk hl1
      obtain ⟨vk, vb, vi, vs, al, nl, cl, am, nm, cm, rfl⟩ := V.ten hl1
      have z2 := b2.size
      have B2 := B1.trans (b2.mono (by omega))
      have o2 := o1.below (keepL false) b2
      have zC := alloc_size w2 (.cells #[.int .i64 vk, .bool vb, .int .i64 vi, .string vs, .slice al nl cl, .slice am nm cm] 25)
      have bC : Below w2.heap.size w2 (w2.alloc (.cells #[.int .i64 vk, .bool vb, .int .i64 vi, .string vs, .slice al nl cl, .slice am nm cm] 25)) := (Below.refl _ _).alloc (Nat.le_refl _) _
      have BC := B2.trans (bC.mono (by omega))
      have HBC := hmk BC
      clear CPH hl1 o1 B1 CP
      by_cases he : er = 0
      · subst he
        have HN := hmk (HGO.out rfl)
        have oC := o2.below (keepL false) bC
        have zD := alloc_size (w2.alloc (.cells #[.int .i64 vk, .bool vb, .int .i64 vi, .string vs, .slice al nl cl, .slice am nm cm] 25)) (.cells #[.int .i64 vk, .bool vb, .int .i64 vi, .string vs, .slice al nl cl, .slice am nm cm] 25)
        have bD : Below (w2.alloc (.cells #[.int .i64 vk, .bool vb, .int .i64 vi, .string vs, .slice al nl cl, .slice am nm cm] 25)).heap.size (w2.alloc (.cells #[.int .i64 vk, .bool vb, .int .i64 vi, .string vs, .slice al nl cl, .slice am nm cm] 25)) ((w2.alloc (.cells #[.int .i64 vk, .bool vb, .int .i64 vi, .string vs, .slice al nl cl, .slice am nm cm] 25)).alloc (.cells #[.int .i64 vk, .bool vb, .int .i64 vi, .string vs, .slice al nl cl, .slice am nm cm] 25)) := (Below.refl _ _).alloc (Nat.le_refl _) _
        have oD := oC.below (keepL false) bD
        have BD := BC.trans (bD.mono (by omega))
        have N8 := heap_alloc_new w2 (.cells #[.int .i64 vk, .bool vb, .int .i64 vi, .string vs, .slice al nl cl, .slice am nm cm] 25)
        have N9 := heap_alloc_new (w2.alloc (.cells #[.int .i64 vk, .bool vb, .int .i64 vi, .string vs, .slice al nl cl, .slice am nm cm] 25)) (.cells #[.int .i64 vk, .bool vb, .int .i64 vi, .string vs, .slice al nl cl, .slice am nm cm] 25)
        rw [zC] at N9
        have HEL : Hid (EL false (some X) ((w2.alloc (.cells #[.int .i64 vk, .bool vb, .int .i64 vi, .string vs, .slice al nl cl, .slice am nm cm] 25)).alloc (.cells #[.int .i64 vk, .bool vb, .int .i64 vi, .string vs, .slice al nl cl, .slice am nm cm] 25)) (New w1 w2) [.int .i64 vk, .bool vb, .int .i64 vi, .string vs, .slice al nl cl, .slice am nm cm]) :=
          V.lies_keep (fun h => h) (fun b hb => (bD.block b (by have := hb.2; omega)).trans (bC.block b hb.2)) (fun _ h => h) _ HL1.out
        have hSx : ∀ b, New w1 w2 b → w.heap.size ≤ b ∧ b < ((w2.alloc (.cells #[.int .i64 vk, .bool vb, .int .i64 vi, .string vs, .slice al nl cl, .slice am nm cm] 25)).alloc (.cells #[.int .i64 vk, .bool vb, .int .i64 vi, .string vs, .slice al nl cl, .slice am nm cm] 25)).heap.size ∧ some b ≠ u5.ownBlock := fun b hb => ⟨by have := hb.1; omega, by have := hb.2; omega, fun e => by have := hltx b e.symm; have := hb.1; omega⟩
        have hb2 : w.heap.size ≤ ((w2.alloc (.cells #[.int .i64 vk, .bool vb, .int .i64 vi, .string vs, .slice al nl cl, .slice am nm cm] 25)).alloc (.cells #[.int .i64 vk, .bool vb, .int .i64 vi, .string vs, .slice al nl cl, .slice am nm cm] 25)).heap.size := by omega
        have HBD2 := hmk BD
        have a0 := cell_of_block N8 0
        have a1 := cell_of_block N8 1
        have a2 := cell_of_block N8 2
        have a3 := cell_of_block N8 3
        have a4 := cell_of_block N8 4
        have a5 := cell_of_block N8 5
        simp only [List.getElem?_toArray, List.getElem?_cons_zero, List.getElem?_cons_succ] at a0 a1 a2 a3 a4 a5
        have HN9 := hmk N9
        clear HBD HGO HL1 oC o2 bC BC bD BD N8 N9
        go_wp2_with (at_builtin; go_loud (refine wpl_push (keepL false) _ rfl (.tmp 36) (.tmp 38) 22 rfl w.heap.size i1 _ 88 Tryz.underlying22 hJ.out.1 hJ.out.2.1 hJ.out.2.2.1 hJ.out.2.2.2 rfl (by decide) (by decide) u5 (some X) rfl oD (w2.heap.size + 1) 1 (0, 0) rfl HN9.out rfl one6 HEL.out hSx (by rw [List.length_map]; omega) hb2 ?_))
        intro g' cap w5 o5 g5 e5
        have B5 : Below w.heap.size w w5 := HBD2.out.grown g5 HBD2.out.size hlt
        have HA5 : Hid (acc.map some ++ [some X] = (acc ++ [X]).map some) := by show _ = _; rw [List.map_append]; rfl
        rw [HA5.out] at o5
        clear oD g5 e5 hb2 hSx HEL HN9 a0 a1 a2 a3 a4 a5 HBD2 HBC hlt hltx
        go_wp2_with fail
        go_roundg f
        case measure => omega
        case rel => exact ⟨restJ m, acc ++ [X], _, HY.out, by omega, by omega, by rw [List.length_append]; simp only [List.length_cons, List.length_nil]; omega, B5, o5, HN⟩
      · have HN := hmk (HBD.out he)
        have y0 : (er != 0) = true := by rw [bne_iff_ne]; exact he
        obtain ⟨sa, sc, sb, so, hu, hd, hls⟩ := own_listL0 (T := fun _ => True) o2 (fun b hb => trivial) (fun g hg => trivial)
        subst hu
        clear hd hls o2 HBD HGO HL1 bC BC hlt hltx
        go_wp2_with fail
        go_ret3
        rw [HN.out]
        exact ⟨none, 0, 0, 0, rfl, headed_nil, lies_none _ _, HBC.out⟩
end Go.Proofs.YtpmhdcmmlkjjmaaGreatDoor
/- rows of texts: plain. -/
set_option maxRecDepth 100000
namespace Go.Proofs.YtpmhdcmmlkjjmaaGreatDoor
open Go.RowKit Go.Lib
theorem esc_no10 (c : UInt8) : (10 : UInt8) ∉ Q.esc c := by
  have h : ∀ n : Fin 256, (10 : UInt8) ∉ (Q.escN n.val).map UInt8.ofNat := by decide +kernel
  exact h ⟨c.toNat, c.toNat_lt⟩
theorem qt_no10 (l : List UInt8) : (10 : UInt8) ∉ Q.qt l := by
  intro h
  rw [Q.qt, List.mem_cons, List.mem_append] at h
  rcases h with h | h | h
  · exact absurd h (by decide)
  · obtain ⟨c, _, hc⟩ := List.mem_flatMap.1 h
    exact esc_no10 c hc
  · exact absurd (List.mem_singleton.1 h) (by decide)
theorem itoa_no10 (i : Int) : (10 : UInt8) ∉ itoa i := fun h => absurd (itoa_num i 10 h) (by decide)
theorem join_no10 : ∀ xs : List (List UInt8), (∀ t ∈ xs, (10 : UInt8) ∉ t) → (10 : UInt8) ∉ joinB xs
  | [], _ => by simp [joinB]
  | x :: t, h => by
    rw [joinB]
    intro hm
    rcases List.mem_append.1 hm with h1 | h1
    · exact h x (by simp) h1
    · obtain ⟨y, hy, h2⟩ := List.mem_flatten.1 h1
      obtain ⟨z, hz, rfl⟩ := List.mem_map.1 hy
      rcases List.mem_cons.1 h2 with h3 | h3
      · exact absurd h3 (by decide)
      · exact h z (by simp [hz]) h3
mutual
theorem no10V : ∀ v : V, (10 : UInt8) ∉ txtV v
  | .mk k b i s l m => by
    rw [txtV]
    have hL := no10L l
    have hM := no10M m
    split
    · split <;> decide
    · split
      · exact itoa_no10 i
      · split
        · exact qt_no10 _
        · split
          · intro h
            rcases List.mem_cons.1 h with h | h
            · exact absurd h (by decide)
            · rcases List.mem_append.1 h with h | h
              · exact join_no10 _ hL h
              · exact absurd (List.mem_singleton.1 h) (by decide)
          · split
            · intro h
              rcases List.mem_cons.1 h with h | h
              · exact absurd h (by decide)
              · rcases List.mem_append.1 h with h | h
                · exact join_no10 _ hM h
                · exact absurd (List.mem_singleton.1 h) (by decide)
            · decide
theorem no10L : ∀ l : List V, ∀ t ∈ txtL l, (10 : UInt8) ∉ t
  | [], t, h => by rw [txtL] at h; simp at h
  | x :: r, t, h => by
    rw [txtL] at h
    rcases List.mem_cons.1 h with rfl | h
    · exact no10V x
    · exact no10L r t h
theorem no10M : ∀ l : List Mem, ∀ t ∈ txtM l, (10 : UInt8) ∉ t
  | [], t, h => by rw [txtM] at h; simp at h
  | (k, x) :: r, t, h => by
    rw [txtM] at h
    rcases List.mem_cons.1 h with rfl | h
    · intro h
      rcases List.mem_append.1 h with h | h
      · exact qt_no10 _ h
      · rcases List.mem_cons.1 h with h | h
        · exact absurd h (by decide)
        · exact no10V x h
    · exact no10M r t h
end
theorem txt_ne (v : V) : txtV v ≠ [] := fun e => by
  obtain ⟨c, r, h, _⟩ := txt_head v
  rw [e] at h
  cases h
theorem line_app : ∀ (x r : List UInt8), (10 : UInt8) ∉ x → lineJ (x ++ 10 :: r) = x ∧ restJ (x ++ 10 :: r) = r
  | [], r, _ => by simp [lineJ, restJ]
  | b :: x, r, h => by
    have hb : b ≠ 10 := fun e => h (by simp [e])
    have hn : (b != 10) = true := by simp [hb]
    obtain ⟨h1, h2⟩ := line_app x r (fun e => h (by simp [e]))
    refine ⟨?_, ?_⟩
    · rw [List.cons_append, lineJ, List.takeWhile_cons, if_pos hn]
      exact congrArg _ h1
    · rw [List.cons_append, restJ, List.dropWhile_cons, if_pos hn]
      exact h2
theorem line_only : ∀ (x : List UInt8), (10 : UInt8) ∉ x → lineJ x = x ∧ restJ x = []
  | [], _ => by simp [lineJ, restJ]
  | b :: x, h => by
    have hb : b ≠ 10 := fun e => h (by simp [e])
    have hn : (b != 10) = true := by simp [hb]
    obtain ⟨h1, h2⟩ := line_only x (fun e => h (by simp [e]))
    refine ⟨?_, ?_⟩
    · rw [lineJ, List.takeWhile_cons, if_pos hn]
      exact congrArg _ h1
    · rw [restJ, List.dropWhile_cons, if_pos hn]
      exact h2
/-- texts, a line each -/
def lnJ : List (List UInt8) → List UInt8
  | [] => []
  | x :: t => x ++ (t.map (fun y => 10 :: y)).flatten
theorem lnJ_cons2 (x y : List UInt8) (t : List (List UInt8)) : lnJ (x :: y :: t) = x ++ 10 :: lnJ (y :: t) := by simp [lnJ]
theorem lnJ_one (x : List UInt8) : lnJ [x] = x := by simp [lnJ]
theorem lnJ_snoc (xs : List (List UInt8)) (y : List UInt8) (h : xs ≠ []) : lnJ (xs ++ [y]) = lnJ xs ++ 10 :: y := by
  cases xs with
  | nil => exact absurd rfl h
  | cons x t => simp [lnJ]
theorem lnJ_ne {x : List UInt8} {t : List (List UInt8)} (h : x ≠ []) : lnJ (x :: t) ≠ [] := by
  rw [lnJ]; intro e; exact h (List.append_eq_nil_iff.1 e).1
/-- good lines first, then whatever -/
theorem spl_go : ∀ (ts : List (List UInt8)) (f : Nat) (r : List UInt8) (acc : List V), (∀ t ∈ ts, t ≠ [] ∧ (10 : UInt8) ∉ t ∧ (parJ t 32).2.2 = 0) →
    splJ (f + ts.length) ((ts.map (fun y => y ++ [10])).flatten ++ r) acc = splJ f r (acc ++ ts.map fun t => (parJ t 32).1)
  | [], f, r, acc, _ => by simp
  | x :: t, f, r, acc, h => by
    obtain ⟨h0, h1, h2⟩ := h x (by simp)
    have e : ((x :: t).map (fun y => y ++ [10])).flatten ++ r = x ++ 10 :: ((t.map (fun y => y ++ [10])).flatten ++ r) := by simp
    obtain ⟨e1, e2⟩ := line_app x ((t.map (fun y => y ++ [10])).flatten ++ r) h1
    have hl : f + (x :: t).length = (f + t.length) + 1 := by simp; omega
    rw [e, hl, splJ_on (by simp) (by rw [e1]; exact h2), e1, e2, spl_go t f r _ (fun y hy => h y (by simp [hy]))]
    simp
theorem spl_last {f : Nat} {x : List UInt8} {acc : List V} (h0 : x ≠ []) (h1 : (10 : UInt8) ∉ x) (h2 : (parJ x 32).2.2 = 0) : splJ (f + 2) x acc = (acc ++ [(parJ x 32).1], -1, 0) := by
  obtain ⟨e1, e2⟩ := line_only x h1
  rw [splJ_on h0 (by rw [e1]; exact h2), e1, e2, splJ_end]
end Go.Proofs.YtpmhdcmmlkjjmaaGreatDoor
