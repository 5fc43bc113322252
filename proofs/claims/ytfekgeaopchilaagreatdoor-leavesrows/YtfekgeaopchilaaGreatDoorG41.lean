/- joined: SrxR LefK -/
import Derived.Test.YtfekgeaopchilaaGreatDoorG40
import Derived.Test.YtfekgeaopchilaaGreatDoorG37
/- path.Sort. -/
set_option linter.unusedSimpArgs false
set_option linter.unusedVariables false
namespace Go.Proofs.YtfekgeaopchilaaGreatDoor
open Go.RowKit Go.Lib Go.Sort
set_option maxHeartbeats 1000000 in
set_option maxRecDepth 100000 in
theorem pclone_zero (a : Addr) (c : Nat) (w : World) : Calls Tryz.prog 76 #[.slice (some a) 0 c] w fun e w' => ∃ g cap, e = .returned (.slice (some ⟨g, 0, none⟩) 0 cap) ∧ w.heap.size ≤ g ∧ g < w'.heap.size ∧ cap ≤ maxLen ∧ Below w.heap.size w w' := by
  obtain ⟨i0, hi0, hz0, hz1, hz2⟩ := info_parts info33
  have q22 : ∀ (w : World) (a : Option Addr) (n c n' c' : Nat), (binOp .eql 23 (.slice a n c) (.slice none n' c')).run Tryz.prog w = .ok (.bool a.isNone) w := fun w a n c n' c' => Lib.run_eql_slice_nil w _ _ a n c n' c' Tryz.underlying23
  go_enter Tryz.func76, Tryz.ntmps76
  go_wp2_with (at_builtin; refine wpList_append_own _ rfl _ _ 23 rfl w.heap.size 25 i0 _ 1 24 Tryz.underlying23 hi0 hz0 hz1 hz2 rfl (by decide) _ _ _ rfl (World.ownsRow_made w #[] 0 (Nat.le_refl _) (Nat.zero_le _) (by simp)) a 0 c [] rfl ?qc1 ?qc2 ?qc3 ?qc4 ?qc5 ?qc6 ?_)
  case qc1 => rfl
  case qc2 => intro j u hj; simp at hj
  case qc3 => intro u hu; simp at hu
  case qc4 => decide
  case qc5 => decide
  case qc6 => simp
  intro v' w1 hown hgrow hnil
  go_wp2_with fail
  go_ret
  obtain ⟨_, ho⟩ := hown
  rcases ho with ⟨rfl, _⟩ | ⟨g, cap, cur, rfl, hg, hblk, hle, hm, hcs, hpre⟩
  · exact absurd rfl hnil
  · refine ⟨g, cap, rfl, hg, ?_, hm, ((Below.refl _ w).alloc (Nat.le_refl _) _).grown hgrow (by simp) (by intro k hk; simp [Value.ownBlock] at hk; omega)⟩
    rcases Nat.lt_or_ge g w1.heap.size with h | h
    · exact h
    · rw [Array.getElem?_eq_none h] at hblk; cases hblk
set_option maxHeartbeats 1000000 in
set_option maxRecDepth 100000 in
theorem ins_nil (w : World) : Calls Tryz.prog 97 #[.slice none 0 0, .int .i64 0, .int .i64 0, .func (.func 33) #[] #[]] w fun e w' => e = .returned (.tuple #[]) ∧ w' = w := by
  go_enter Tryz.func97, Tryz.ntmps97
  go_wp2_with fail
  go_loopw [8] (fun e wr => e = .int .i64 1 ∧ wr = w) (fun _ _ => 0)
  case atStart => exact ⟨by go_num, rfl⟩
  case round =>
    obtain ⟨rfl, rfl⟩ := hrel
    go_wp2_with fail
    go_end0
    exact ⟨rfl, rfl⟩
set_option maxHeartbeats 1000000 in
set_option maxRecDepth 100000 in
theorem pdq_nil (m : Int) (w : World) : Calls Tryz.prog 88 #[.slice none 0 0, .int .i64 0, .int .i64 0, .int .i64 m, .func (.func 33) #[] #[]] w fun e w' => e = .returned (.tuple #[]) ∧ w' = w := by
  have hc := ins_nil w
  go_enter Tryz.func88, Tryz.ntmps88
  go_wp2_with fail
  go_loopw [1, 2] (fun e1 e2 wr => e1 = .int .i64 0 ∧ e2 = .int .i64 0 ∧ wr = w) (fun _ _ _ => 0)
  case atStart => exact ⟨rfl, rfl, rfl⟩
  case round =>
    obtain ⟨rfl, rfl, rfl⟩ := hrel
    go_wp2_with fail
    refine hc.mono ?_
    rintro e w1 ⟨rfl, rfl⟩
    go_wp2_with fail
    exact bodyPost_ret (v := .tuple #[]) (results_none rfl _ _ _) rfl ⟨rfl, rfl⟩
set_option maxHeartbeats 1000000 in
set_option maxRecDepth 100000 in
theorem psort_nil (w : World) : Calls Tryz.prog 77 #[.slice none 0 0, .func (.func 33) #[] #[]] w fun e w' => e = .returned (.tuple #[]) ∧ w' = w := by
  have hl : Calls Tryz.prog 89 #[.int .u64 0] w fun e w' => e = .returned (.int .i64 (Lib.bitLen 0 : Nat)) ∧ w' = w := by
    have h := Any.bits_Len (SlLaysF0.n15.bits (P := Tryz.prog) (ρ := Tryz.sort37_ren) { Tryz.sort37 with }) 0 w (by omega) (by omega)
    exact h
  have hp := pdq_nil (Lib.bitLen 0 : Nat) w
  generalize ((Lib.bitLen 0 : Nat) : Int) = m at *
  go_enter Tryz.func77, Tryz.ntmps77
  go_wp2_with fail
  refine hl.mono ?_
  rintro e w1 ⟨rfl, rfl⟩
  go_wp2_with fail
  refine hp.mono ?_
  rintro e w1 ⟨rfl, rfl⟩
  go_wp2_with fail
  go_end0
  exact ⟨rfl, rfl⟩
set_option maxHeartbeats 1000000 in
theorem compact_nil (w : World) : Calls Tryz.prog 78 #[.slice none 0 0, .func (.func 79) #[] #[]] w fun e w' => e = .returned (.slice none 0 0) ∧ w' = w := by
  go_enter Tryz.func78, Tryz.ntmps78
  go_wp2_with fail
  go_ret
  exact ⟨rfl, rfl⟩
/-- slices.Clone of whatever paths -/
theorem clone_all {w0 : World} {S : Nat → Prop} {l : List (List El)} {al : Option Addr} {cl bl ol : Nat} (hal : Headed al l.length cl bl ol) (hl : liesQ w0 S l bl ol) (hS0 : ∀ b, S b → b < w0.heap.size) (hn : l.length ≤ 2147483647) (w : World) (hw : Below w0.heap.size w0 w) :
    Calls Tryz.prog 76 #[.slice al l.length cl] w fun e w' => (l = [] ∧ e = .returned (.slice none 0 0) ∧ w' = w) ∨ ∃ (d : List (PC w0 S)) (g cap : Nat), d.map PC.p = l ∧ e = .returned (.slice (some ⟨g, 0, none⟩) d.length cap) ∧ w.heap.size ≤ g ∧ g < w'.heap.size ∧ d.length ≤ cap ∧ cap ≤ maxLen ∧ Holds PC.enc w' g 0 d.toArray ∧ Below w.heap.size w w' := by
  obtain ⟨d, h1, h2⟩ := pc_of hl
  have hdl : d.length = l.length := by rw [← h1]; simp
  cases al with
  | none =>
    refine (pclone_nil l.length cl w).mono fun e w' ⟨he, hw'⟩ => .inl ⟨?_, he, hw'⟩
    have := hal.nil rfl
    have := hal.le
    exact List.length_eq_zero_iff.1 (by omega)
  | some a =>
    by_cases h0 : l.length = 0
    · rw [h0]
      refine (pclone_zero a cl w).mono fun e w' ⟨g, cap, he, hg, hg', hc, hb⟩ => .inr ⟨[], g, cap, ?_, he, hg, hg', Nat.zero_le _, hc, fun j hj => by simp at hj, hb⟩
      exact (List.length_eq_zero_iff.1 h0).symm
    · obtain e : some a = some ⟨bl, ol, none⟩ := hal.at_.resolve_left h0
      rw [e]
      have hr : ∀ (j : Nat) (h : j < d.length), w.cell? ⟨bl, ol + j, none⟩ = some (d[j]).enc := fun j h => by
        have hb := (hl j (by omega)).1
        exact (World.cell?_of_block (w := w0) (a := ⟨bl, ol + j, none⟩) (hw.block _ (hS0 _ hb))).trans (h2 j h)
      have := pclone_any d bl ol cl w hr (by omega)
      rw [hdl] at this
      refine this.mono fun e w' ⟨g, cap, he, hg, hg', hc, hm, hH, hb⟩ => .inr ⟨d, g, cap, h1, by rw [hdl]; exact he, hg, hg', by omega, hm, hH, hb⟩
/-- the copying, so far as the first j -/
def CpI {w0 : World} {S : Nat → Prop} (R : List (PC w0 S)) (j g : Nat) (wr : World) : Prop := ∀ i, (h : i < R.length) → ∃ v, wr.cell? ⟨g, i, none⟩ = some v ∧ wr.frozen? ⟨g, i, none⟩ = false ∧ (i < j → Pl.lies wr (fun x => g < x ∧ x < wr.heap.size) (R[i]).p v) ∧ (j ≤ i → v = (R[i]).enc)
theorem CpI.step {w0 : World} {S : Nat → Prop} {R : List (PC w0 S)} {j g : Nat} {wr w3 : World} (h : CpI R j g wr) (hg : g < wr.heap.size) (hj : j < R.length) (b3 : Below wr.heap.size wr w3) {gg n : Nat} (hl : Pl.lies w3 (New wr w3) (R[j]).p (.slice (some ⟨gg, 0, none⟩) n n)) : CpI R (j + 1) g (w3.setCell ⟨g, j, none⟩ (.slice (some ⟨gg, 0, none⟩) n n)) := fun i hi => by
  have hz := b3.size
  have hsz := size_set1 w3 g j (.slice (some ⟨gg, 0, none⟩) n n)
  have hk : ∀ x, g < x → (w3.setCell ⟨g, j, none⟩ (.slice (some ⟨gg, 0, none⟩) n n)).heap[x]? = w3.heap[x]? := fun x hx => set_other (by omega)
  by_cases e : j = i
  · subst e
    obtain ⟨v, h1, h2, _, _⟩ := h j hi
    refine ⟨_, World.cell?_setCell_same' _ _ _ (by rw [b3.cell (p := ⟨g, j, none⟩) hg, h1]; rfl), ?_, fun _ => Pl.keep (fun x hx => hk x (by have := hx.1; omega)) (fun x hx => ⟨by have := hx.1; omega, by rw [hsz]; exact hx.2⟩) hl, fun h => by omega⟩
    rw [World.frozen?_setCell]
    simp only [World.frozen?, b3.block g hg]
    exact h2
  · obtain ⟨v, h1, h2, h3, h4⟩ := h i hi
    refine ⟨v, by rw [cell_set_other e, b3.cell (p := ⟨g, i, none⟩) hg]; exact h1, ?_, fun hij => Pl.keep (fun x hx => (hk x hx.1).trans (b3.block x hx.2)) (fun x hx => ⟨hx.1, by rw [hsz]; have := hx.2; omega⟩) (h3 (by omega)), fun hij => h4 (by omega)⟩
    rw [World.frozen?_setCell]
    simp only [World.frozen?, b3.block g hg]
    exact h2
def SoPost (l : List (List El)) (w : World) (e : Ending) (w' : World) : Prop :=
  Below w.heap.size w w' ∧ (((∀ p ∈ l, pathB p = true) ∧ ∃ (R : List (List El)) (a : Option Addr) (c b o : Nat), Rs l R ∧ e = .returned (.tuple #[.slice a R.length c, .int .i64 0]) ∧ Headed a R.length c b o ∧ liesQ w' (New w w') R b o) ∨ ((¬ ∀ p ∈ l, pathB p = true) ∧ e = .returned (.tuple #[.slice none 0 0, .int .i64 90])))
set_option maxHeartbeats 16000000 in
set_option maxRecDepth 100000 in
theorem sort_any (l : List (List El)) (S : Nat → Prop) (al : Option Addr) (cl bl ol : Nat) (w : World) (tb : Tb w) (hal : Headed al l.length cl bl ol) (hl : liesQ w S l bl ol) (hS : ∀ b, S b → b < w.heap.size) (hwt : l.length + wtQ l ≤ 2147483647) :
    Calls Tryz.prog 55 #[.slice al l.length cl] w (SoPost l w) := by
  have HL := hmk hl
  have HT := hmk tb
  have HS := hmk hS
  have CLN := hmk (fun W => clone_all hal hl hS (by omega) W)
  clear hl tb
  have hlen : l.length ≤ 9223372036854775807 := by omega
  go_enter Tryz.func55, Tryz.ntmps55
  go_wp2_with fail
  go_loopw [12] (fun e wr => ∃ j : Nat, j ≤ l.length ∧ e = .int .i64 (j : Int) ∧ Below w.heap.size w wr ∧ Hid (∀ p ∈ l.take j, pathB p = true)) (fun e _ => l.length - (RowKit.intOf e).toNat)
  case atStart => exact ⟨0, by omega, rfl, Below.refl _ _, by intro p hp; simp at hp⟩
  case round =>
    obtain ⟨j, hj, rfl, bj, HG⟩ := hrel
    have hzr := bj.size
    by_cases hjl : j < l.length
    · have y1 : (j : Int) < l.length := by omega
      obtain ⟨hSb, v, hv, aq, cq, bq, oq, rfl, hhq, hlq⟩ := HL.out j hjl
      obtain rfl : al = some ⟨bl, ol, none⟩ := hal.at_.resolve_left (by omega)
      have hk0 : ∀ x, S x → wr.heap[x]? = w.heap[x]? := fun x hx => bj.block x (hS x hx)
      have r0 : wr.cell? ⟨bl, ol + j, none⟩ = some (.slice aq (l[j]).length cq) := (World.cell?_of_block (w := w) (a := ⟨bl, ol + j, none⟩) (hk0 _ hSb)).trans hv
      have hwx : wtP l[j] ≤ 2147483647 := by have := wtQ_mem (List.getElem_mem hjl); omega
      have c := hmk (pcheck_any l[j] S aq cq bq oq wr (HT.out.below bj HT.out.z) hhq (liesP_keep hk0 (fun _ h => h) hlq) (fun x hx => Nat.lt_of_lt_of_le (hS x hx) hzr) hwx)
      cases hp : pathB l[j] with
      | true =>
        have ya : (((errP l[j] : Nat) : Int) != 0) = false := by rw [errP_yes hp]; rfl
        have HG2 : Hid (∀ p ∈ l.take (j + 1), pathB p = true) := fun p h => by
          rw [List.take_succ_eq_append_getElem hjl, List.mem_append, List.mem_singleton] at h
          rcases h with h | rfl
          · exact HG.out p h
          · exact hp
        generalize errP l[j] = Ea at *
        clear hlq hv hk0 hp
        go_wp2_with fail
        refine c.out.mono ?_
        rintro e w1 ⟨rfl, b1⟩
        go_wp2_with fail
        go_roundw
        case rel => exact ⟨j + 1, by omega, by go_num, bj.trans (b1.mono hzr), HG2⟩
        case measure => simp [RowKit.intOf]; omega
      | false =>
        have ya : (((errP l[j] : Nat) : Int) != 0) = true := by rw [errP_no hp]; rfl
        have HN : Hid (¬ ∀ p ∈ l, pathB p = true) := fun h => by rw [h _ (List.getElem_mem hjl)] at hp; cases hp
        have HE : Hid (errP l[j] = 90) := errP_no hp
        generalize errP l[j] = Ea at *
        clear hlq hv hk0 hp
        go_wp2_with fail
        refine c.out.mono ?_
        rintro e w1 ⟨rfl, b1⟩
        go_wp2_with fail
        go_ret2
        exact ⟨bj.trans (b1.mono hzr), .inr ⟨HN.out, by rw [HE.out]; rfl⟩⟩
    have HG2 : Hid (∀ p ∈ l, pathB p = true) := by
      have := HG.out
      rwa [List.take_of_length_le (by omega)] at this
    have y1 : ¬ (j : Int) < l.length := by omega
    have cc := hmk (CLN.out wr bj)
    clear HG CLN
    go_wp2_with fail
    refine cc.out.mono ?_
    rintro e w2 (⟨hnil, rfl, rfl⟩ | ⟨d, g, cap, hdp, rfl, hg, hg2, hcap, hmax, hH, b2⟩)
    · have cs := hmk (psort_nil w2)
      have cf := hmk (compact_nil w2)
      clear cc
      go_wp2_with fail
      refine cs.out.mono ?_
      rintro e w3 ⟨rfl, rfl⟩
      go_wp2_with fail
      refine cf.out.mono ?_
      rintro e wz ⟨rfl, rfl⟩
      go_wp2_with fail
      go_loopw [30] (fun e wq => e = .int .i64 0 ∧ wq = wz) (fun _ _ => 0)
      case atStart => exact ⟨rfl, rfl⟩
      case round =>
        obtain ⟨rfl, rfl⟩ := hrel
        go_wp2_with fail
        go_ret2
        refine ⟨bj, .inl ⟨HG2.out, [], none, 0, 0, 0, ⟨by simp, fun p => by rw [hnil]⟩, rfl, ⟨Nat.le_refl _, by simp [maxLen], .inl rfl, fun _ => rfl⟩, fun i hi => by simp at hi⟩⟩
    · have hdl : d.length = l.length := by rw [← hdp]; simp
      have B2 := bj.trans (b2.mono hzr)
      have hgw : w.heap.size ≤ g := by omega
      have cs0 := psort_any hS d g cap w2 B2 hgw hH hg2 (by omega)
      rw [hdl] at cs0
      have cs := hmk cs0
      have HDP := hmk hdp
      clear hH cc hdp cs0
      go_wp2_with fail
      refine cs.out.mono ?_
      rintro e w3 ⟨rfl, d', hperm, hsrt, hH3, hg3, hbs⟩
      have B3 := B2.trans (hbs w.heap.size hgw)
      have HP := hmk hperm
      have HSR := hmk hsrt
      clear hperm hsrt
      have hdl' : d'.toArray.size = d.length := by rw [List.size_toArray]; exact HP.out.length_eq
      have cf := hmk (compact_any hS d'.toArray g cap w3 B3 hgw (hold_of hH3) hg3 (by omega) (by omega) hmax)
      have HRS : Hid (Rs l ((kpt reqB d'.toArray d'.toArray.size).map PC.p)) := kpt_rs (d := d'.toArray) (HSR.out.imp (fun h => by omega)) HG2.out (fun p => by
        have e : (d'.map PC.p).Perm l := by rw [← HDP.out]; exact HP.out.map _
        exact e.mem_iff)
      have hklen : (kpt reqB d'.toArray d'.toArray.size).length ≤ d'.toArray.size := kpt_len _ _ _
      rw [hdl', hdl] at cf
      clear cs HSR hH3 hbs HP
      go_wp2_with fail
      refine cf.out.mono ?_
      rintro e w4 ⟨rfl, hH4, hg4, hb4⟩
      have B4 := B3.trans (hb4 w.heap.size hgw)
      generalize (kpt reqB d'.toArray d'.toArray.size) = R at *
      have hR9 : R.length ≤ 9223372036854775807 := by omega
      have HI : Hid (CpI R 0 g w4) := fun i hi => by
        have := hH4 i (by simpa using hi)
        exact ⟨_, this.1, this.2, fun h => by omega, fun _ => by simp⟩
      have HM : Hid (∀ x ∈ R, x.p ∈ l) := fun x hx => (HRS.out.2 _).1 (List.mem_map_of_mem hx)
      clear hH4 hb4 cf
      go_wp2_with fail
      go_loopw [30] (fun e wq => ∃ j : Nat, j ≤ R.length ∧ e = .int .i64 (j : Int) ∧ Below w.heap.size w wq ∧ g < wq.heap.size ∧ Hid (CpI R j g wq)) (fun e _ => R.length - (RowKit.intOf e).toNat)
      case atStart => exact ⟨0, by omega, rfl, B4, hg4, HI⟩
      case round =>
        clear HI B4 hg4
        obtain ⟨i, hi, rfl, bi, hgi, HI⟩ := hrel
        by_cases hil : i < R.length
        · have y2 : (i : Int) < R.length := by omega
          have y3 : (i : Int) < (R.length : Int) := y2
          obtain ⟨v, hv, hvf, _, hve⟩ := HI.out i hil
          replace hve := hve (Nat.le_refl _)
          subst hve
          have hmem : (R[i]).p ∈ l := HM.out _ (List.getElem_mem hil)
          have hwx : wtP (R[i]).p ≤ 2147483647 := by have := wtQ_mem hmem; omega
          have hk0 : ∀ x, S x → wr.heap[x]? = w.heap[x]? := fun x hx => bi.block x (hS x hx)
          have c0 := copy_any (R[i]).p S (R[i]).ao (R[i]).cap (R[i]).b (R[i]).o wr (R[i]).hh (liesP_keep hk0 (fun _ h => h) (R[i]).hl) (fun x hx => Nat.lt_of_lt_of_le (hS x hx) bi.size) hwx
          rw [anP_same (HG2.out _ hmem)] at c0
          have c := hmk c0
          have STP : Hid (∀ (w3 : World) (gg : Nat), Below wr.heap.size wr w3 → liesP w3 (New wr w3) (R[i]).p gg 0 → CpI R (i + 1) g (w3.setCell ⟨g, i, none⟩ (.slice (some ⟨gg, 0, none⟩) (R[i]).p.length (R[i]).p.length))) := fun w3 gg b3 h3 =>
            HI.out.step hgi hil b3 ⟨_, _, gg, 0, rfl, ⟨Nat.le_refl _, Nat.le_trans (R[i]).hh.le (R[i]).hh.max, .inr rfl, fun h => by cases h⟩, h3⟩
          simp only [PC.enc] at hv
          clear c0 HI hk0
          generalize (R[i]).p = px at *
          generalize (R[i]).ao = ax at *
          generalize (R[i]).cap = cx at *
          go_wp2_with fail
          refine c.out.mono ?_
          rintro e w3 ⟨gg, rfl, h3, b3⟩
          have K3 := hmk (STP.out w3 gg b3 h3)
          have BB : Hid (Below w.heap.size w (w3.setCell ⟨g, i, none⟩ (.slice (some ⟨gg, 0, none⟩) px.length px.length))) := (bi.trans (b3.mono bi.size)).setCell (p := ⟨g, i, none⟩) hgw _
          have hz3 := b3.size
          have hv3 : w3.cell? ⟨g, i, none⟩ = some (.slice ax px.length cx) := (b3.cell (p := ⟨g, i, none⟩) hgi).trans hv
          have hf3 : w3.frozen? ⟨g, i, none⟩ = false := by simp only [World.frozen?, b3.block g hgi]; exact hvf
          have hzs := size_set1 w3 g i (.slice (some ⟨gg, 0, none⟩) px.length px.length)
          clear h3 STP c hv hvf b3 bi
          go_wp2_with fail
          go_roundw
          case rel => exact ⟨i + 1, by omega, by go_num, BB.out, by omega, K3⟩
          case measure => simp [RowKit.intOf]; omega
        · obtain rfl : i = R.length := by omega
          have y2 : ¬ (R.length : Int) < R.length := by omega
          have HF : Hid (liesQ wr (New w wr) (R.map PC.p) g 0) := fun i hi => by
            have hi' : i < R.length := by simpa using hi
            obtain ⟨v, h1, _, h2, _⟩ := HI.out i hi'
            refine ⟨⟨hgw, hgi⟩, v, by rw [Nat.zero_add]; exact h1, ?_⟩
            rw [List.getElem_map]
            exact Pl.keep (fun _ _ => rfl) (fun x hx => ⟨by have := hx.1; omega, hx.2⟩) (h2 hi')
          have hml : (R.map PC.p).length = R.length := by simp
          clear HI
          go_wp2_with fail
          go_ret2
          refine ⟨bi, .inl ⟨HG2.out, R.map PC.p, _, cap, g, 0, HRS.out, by rw [hml]; rfl, ⟨by rw [hml]; omega, hmax, .inr rfl, fun h => by cases h⟩, HF.out⟩⟩
end Go.Proofs.YtfekgeaopchilaaGreatDoor
/- leaves.rising. -/
namespace Go.Proofs.YtfekgeaopchilaaGreatDoor
open Go.RowKit Go.Lib
theorem wtQ_filt (f : List El → Bool) : ∀ ps : List (List El), wtQ (ps.filter f) ≤ wtQ ps
  | [] => by simp
  | p :: t => by
    have := wtQ_filt f t
    rw [List.filter_cons]
    split
    · simp only [wtQ]; omega
    · simp only [wtQ]; omega
def RsP (ps : List (List El)) (w : World) (e : Ending) (w' : World) : Prop := ∃ (R : List (List El)) (a : Option Addr) (c b o : Nat), Rs (ps.filter pathB) R ∧ e = .returned (.slice a R.length c) ∧ Headed a R.length c b o ∧ liesQ w' (New w w') R b o ∧ Below w.heap.size w w'
set_option maxHeartbeats 8000000 in
set_option maxRecDepth 100000 in
theorem risp_any (ps : List (List El)) (S : Nat → Prop) (al : Option Addr) (cl bl ol : Nat) (w : World) (tb : Tb w) (hal : Headed al ps.length cl bl ol) (hl : liesQ w S ps bl ol) (hS : ∀ b, S b → b < w.heap.size) (hwt : ps.length + wtQ ps ≤ 2147483647) :
    Calls Tryz.prog 36 #[.slice al ps.length cl] w (RsP ps w) := by
  have HL := hmk hl
  have HTB := hmk tb
  have kb : Hid (∀ W, Below w.heap.size w W → (∀ b, S b → W.heap[b]? = w.heap[b]?) ∧ (∀ b, S b → b < W.heap.size)) := fun W hb => ⟨fun b h => hb.block b (hS b h), fun b h => Nat.lt_of_lt_of_le (hS b h) hb.size⟩
  clear hl tb
  go_enter Tryz.func36, Tryz.ntmps36
  go_wp2_with fail
  go_loopw [3, 8] (fun e3 e wr => ∃ j : Nat, j ≤ ps.length ∧ e = .int .i64 (j : Int) ∧ OutQ w S ((ps.take j).filter pathB) e3 wr) (fun _ e _ => ps.length - (RowKit.intOf e).toNat)
  case atStart => exact ⟨0, by omega, rfl, OutQ.nil _ _⟩
  case round =>
    obtain ⟨j, hj, rfl, oj⟩ := hrel
    by_cases hjl : j < ps.length
    · have y1 : (j : Int) < ps.length := by omega
      obtain ⟨hSb, v, hv, ap, cp, bp, op, rfl, hh, hlp⟩ := HL.out j hjl
      obtain rfl : al = some ⟨bl, ol, none⟩ := hal.at_.resolve_left (by omega)
      have q : wr.cell? ⟨bl, ol + j, none⟩ = some (.slice ap (ps[j]).length cp) := (World.cell?_of_block (w := w) (a := ⟨bl, ol + j, none⟩) ((kb.out wr oj.b).1 _ hSb)).trans hv
      have hwj : wtP ps[j] ≤ 2147483647 := by have := wtQ_mem (List.getElem_mem hjl); omega
      have C30 := hmk (pcheck_any ps[j] S ap cp bp op wr (HTB.out.below oj.b HTB.out.z) hh (liesP_keep (kb.out wr oj.b).1 (fun _ h => h) hlp) (kb.out wr oj.b).2 hwj)
      have hfl := filt_len pathB ps j
      have HLP := hmk hlp
      clear hlp hv
      cases hB : pathB ps[j] with
      | true =>
        have e0 : errP ps[j] = 0 := by rw [errP, hB]; rfl
        have HN := hmk (filt_yes (f := pathB) hjl hB)
        rw [e0] at C30
        clear e0 hB
        go_wp2_with fail
        refine C30.out.mono ?_
        rintro e w1 ⟨rfl, b1⟩
        have o1 := oj.below b1
        have HEQ : Hid (EQ ps[j] w1 S [.slice ap (ps[j]).length cp]) := ⟨_, rfl, ap, cp, bp, op, rfl, hh, liesP_keep (kb.out w1 o1.b).1 (fun _ h => h) HLP.out⟩
        clear C30 oj b1 q
        go_wp2_with (at_builtin; go_loud (refine wpl_outQ rfl (.tmp 15) (.tmp 17) rfl _ rfl o1 hS HEQ.out (fun b h => .inl h) 1 rfl (by omega) ?_))
        intro g5 cap w5 o5
        rw [← HN.out] at o5
        clear o1 HEQ
        go_wp2_with fail
        go_roundw
        case rel => exact ⟨j + 1, by omega, by go_num, o5⟩
        case measure => simp [RowKit.intOf]; omega
      | false =>
        have e0 : errP ps[j] = 90 := by rw [errP, hB]; rfl
        have HN := hmk (filt_no (f := pathB) hjl hB)
        rw [e0] at C30
        clear e0 hB
        go_wp2_with fail
        refine C30.out.mono ?_
        rintro e w1 ⟨rfl, b1⟩
        have o1 := oj.below b1
        rw [← HN.out] at o1
        clear C30 oj b1 q
        go_wp2_with fail
        go_roundw
        case rel => exact ⟨j + 1, by omega, by go_num, o1⟩
        case measure => simp [RowKit.intOf]; omega
    · obtain rfl : j = ps.length := by omega
      have y1 : ¬ (ps.length : Int) < ps.length := by omega
      rw [List.take_length] at oj
      obtain ⟨a, c, b, o, rfl, hd, hls⟩ := oj.list
      have hB := oj.b
      have hw1 := wtQ_filt pathB ps
      have hw2 := List.length_filter_le pathB ps
      have CS := hmk (sort_any (ps.filter pathB) (Tw S w wr) a c b o wr (HTB.out.below hB HTB.out.z) hd hls (fun b hb => hb.elim (fun h => (kb.out wr hB).2 b h) (fun h => h.2)) (by omega))
      have HALL : Hid (∀ p ∈ ps.filter pathB, pathB p = true) := fun p hp => (List.mem_filter.1 hp).2
      clear oj hls
      go_wp2_with fail
      refine CS.out.mono ?_
      rintro e w2 ⟨b2, ⟨_, R, a2, c2, b2', o2, hRs, rfl, hd2, hl2⟩ | ⟨hno, rfl⟩⟩
      · have HL2 := hmk hl2
        clear CS hl2
        go_wp2_with fail
        go_ret
        exact ⟨R, a2, c2, b2', o2, hRs, rfl, hd2, liesQ_keep (fun _ _ => rfl) (fun x hx => ⟨Nat.le_trans hB.size hx.1, hx.2⟩) HL2.out, hB.trans (b2.mono hB.size)⟩
      · exact absurd HALL.out hno
end Go.Proofs.YtfekgeaopchilaaGreatDoor
