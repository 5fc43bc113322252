import Derived.Test.YtmmlejbebfkojaaDoorG6
import Derived.Laws.Cover1
/- value.rising. -/
set_option linter.unusedSimpArgs false
set_option linter.unusedVariables false
namespace Go.Proofs.YtmmlejbebfkojaaDoor
open Go.RowKit Go.Lib
def keyAt (l : List Mem) (j : Nat) : ByteArray := match l[j]? with | some x => x.1 | none => ⟨#[]⟩
theorem keyAt_eq {l : List Mem} {j : Nat} (h : j < l.length) : keyAt l j = (l[j]).1 := by simp [keyAt, h]
def utfB (s : ByteArray) : Bool := validD s.data.toList
def ltB (a b : ByteArray) : Bool := Op.bytesLess a.toList b.toList
def okAt (l : List Mem) (j : Nat) : Bool := utfB (keyAt l j) && (decide (j = 0) || ltB (keyAt l (j - 1)) (keyAt l j))
def riseB (l : List Mem) : Bool := (List.range l.length).all (okAt l)
theorem riseB_true {l : List Mem} (h : ∀ j, j < l.length → okAt l j = true) : riseB l = true := by
  simp only [riseB, List.all_eq_true, List.mem_range]; exact h
theorem riseB_false {l : List Mem} {j : Nat} (hj : j < l.length) (h : okAt l j = false) : riseB l = false := by
  rw [riseB, List.all_eq_false]; exact ⟨j, by simpa using hj, by simp [h]⟩
theorem V.ten {R : Bool} {w : World} {S : Nat → Prop} {v : V} {cs : List Value} (h : v.lies R w S cs) : ∃ k b i s al nl cl am nm cm, cs = [.int .i64 k, .bool b, .int .i64 i, .string s, .slice al nl cl, .slice am nm cm] := by
  cases v
  rw [V.lies] at h
  obtain ⟨al, cl, bl, ol, am, cm, bm, om, e, _⟩ := h
  exact ⟨_, _, _, _, _, _, _, _, _, _, e⟩
set_option maxHeartbeats 4000000 in
set_option maxRecDepth 100000 in
theorem rising_any (R : Bool) (l : List Mem) (am : Option Addr) (cm bm om : Nat) (S : Nat → Prop) (w : World) (t : Tb w) (ham : Headed am l.length cm bm om) (hl : liesM R w S l bm om) (hS : ∀ b, S b → b < w.heap.size) (hwt : wtM l ≤ 281474976710656) :
    Calls Tryd.prog 32 #[.slice am l.length cm] w (BPost (riseB l) w) := by
  have HL : Hid (liesM R w S l bm om) := hl
  clear hl
  have hlen := wtM_len l
  go_enter Tryd.func32, Tryd.ntmps32
  go_wp2_with fail
  go_loopw [7] (fun e wr => ∃ j : Nat, j ≤ l.length ∧ e = .int .i64 (j : Int) ∧ Below w.heap.size w wr ∧ Hid (∀ q, q < j → okAt l q = true)) (fun e _ => l.length - (RowKit.intOf e).toNat)
  case atStart => exact ⟨0, by omega, rfl, Below.refl _ _, fun q hq => by omega⟩
  case round =>
    obtain ⟨j, hj, rfl, bj, ok⟩ := hrel
    by_cases hjl : j < l.length
    · have y1 : (j : Int) < l.length := by omega
      obtain ⟨hSb, hks, csj, hrow, hlj⟩ := liesM_get HL.out j hjl
      obtain rfl : am = some ⟨bm, om, none⟩ := ham.at_.resolve_left (by omega)
      have hrow' := hrow.keep (bj.block _ (hS _ hSb))
      obtain ⟨ek, eb, ei, es, eal, enl, ecl, eam, enm, ecm, rfl⟩ := V.ten hlj
      obtain ⟨q, q0, q1, q2, q3, q4, q5⟩ := row7 hrow'
      clear hlj hrow hrow'
      have hkz : (l[j]).1.size ≤ 281474976710656 := by have := wtM_mem (List.getElem_mem hjl); omega
      have HK : Hid (keyAt l j = (l[j]).1) := keyAt_eq hjl
      generalize (l[j]).1 = key at *
      have tj : Tb wr := t.below bj (by have := t.z; omega)
      have hz : wr.heap.size ≥ w.heap.size := bj.size
      let oB : Obj := .cells #[.string key, .int .i64 ek, .bool eb, .int .i64 ei, .string es, .slice eal enl ecl, .slice eam enm ecm] 32
      have hzo : (wr.alloc oB).heap.size = wr.heap.size + 1 := alloc_size wr oB
      have cv : ∀ x : Sub (wr.heap.size + 1) (wr.alloc oB), Calls Tryd.prog 31 #[.string key] x.w fun e w'' => e = .returned (.bool (validD key.data.toList)) ∧ ∃ y : Sub (wr.heap.size + 1) (wr.alloc oB), w'' = y.w :=
        sub_call fun w' hb => by
          have t1 : Tb w' := (tj.grown (World.grownBy_alloc wr oB none) (fun r e => by cases e)).below hb (by have := tj.z; omega)
          refine (validString_any key w' hkz t1.u).mono fun e w'' ⟨he, h2⟩ => ⟨he, hb.trans (h2.mono (by rw [← hzo]; exact hb.size))⟩
      have x0 : ∀ x : Sub (wr.heap.size + 1) (wr.alloc oB), x.w.cell? ⟨wr.heap.size, 0, none⟩ = some (.string key) := sub_cell (box_row wr [.string key, .int .i64 ek, .bool eb, .int .i64 ei, .string es, .slice eal enl ecl, .slice eam enm ecm] 32 0 _ rfl) (by omega)
      have CV : Hid _ := cv
      have hback : ∀ wq, Below (wr.heap.size + 1) (wr.alloc oB) wq → Below w.heap.size w wq := fun wq h => (bj.alloc (by omega) oB).trans (h.mono (by omega))
      clear cv
      cases hV : validD key.data.toList
      · have HV : Hid (okAt l j = false) := by show _ = _; simp [okAt, HK.out, utfB, hV]
        have CF : Hid (∀ x : Sub (wr.heap.size + 1) (wr.alloc oB), Calls Tryd.prog 31 #[.string key] x.w fun e w'' => e = .returned (.bool false) ∧ ∃ y : Sub (wr.heap.size + 1) (wr.alloc oB), w'' = y.w) := by rw [← hV]; exact CV.out
        clear hV CV
        go_wp2_with fail
        refine wp_region_sub (wr.heap.size + 1) (by kernel_rfl) (by kernel_rfl) ?_
        repeat (go_big_quiet_step (exact CF.out _))
        refine wpQuiet_nil ?_
        rintro _ ⟨⟨wq, bq⟩, rfl⟩
        go_wp2_with fail
        go_ret
        exact ⟨by rw [riseB_false hjl HV.out]; rfl, hback _ bq⟩
      · have CF : Hid (∀ x : Sub (wr.heap.size + 1) (wr.alloc oB), Calls Tryd.prog 31 #[.string key] x.w fun e w'' => e = .returned (.bool true) ∧ ∃ y : Sub (wr.heap.size + 1) (wr.alloc oB), w'' = y.w) := by rw [← hV]; exact CV.out
        by_cases hj0 : j = 0
        · have HV : Hid (okAt l j = true) := by show _ = _; rw [okAt, HK.out]; simp [utfB, hV, hj0]
          have HO : Hid (∀ q, q < j + 1 → okAt l q = true) := fun q hq => by
            by_cases hqj : q < j
            · exact ok.out q hqj
            · obtain rfl : q = j := by omega
              exact HV.out
          have yj : decide ((0 : Int) < (j : Int)) = false := by simp [hj0]
          have yk : decide (0 < j) = false := by simp [hj0]
          clear hV CV hj0 HV
          go_wp2_with fail
          refine wp_region_sub (wr.heap.size + 1) (by kernel_rfl) (by kernel_rfl) ?_
          repeat (go_big_quiet_step (exact CF.out _))
          refine wpQuiet_nil ?_
          rintro _ ⟨⟨wq, bq⟩, rfl⟩
          go_wp2_with fail
          go_roundw
          case rel => exact ⟨j + 1, by omega, by go_num, hback _ bq, HO⟩
          case measure => simp [RowKit.intOf]; omega
        · obtain ⟨p, rfl⟩ : ∃ p, j = p + 1 := ⟨j - 1, by omega⟩
          obtain ⟨hSb', hks', csp, hrowp, _⟩ := liesM_get HL.out p (by omega)
          have hrowp' := hrowp.keep (bj.block _ (hS _ hSb'))
          have p0 : wr.cell? ⟨bm, om + p * 7, none⟩ = some (.string (l[p]'(by omega)).1) := hrowp' 0 _ rfl
          have HP : Hid (keyAt l p = (l[p]'(by omega)).1) := keyAt_eq (by omega)
          generalize (l[p]'(by omega)).1 = prev at *
          have hbb : bm < wr.heap.size := World.block_lt_of_cell? wr _ p0
          have p1 : (wr.alloc oB).cell? ⟨bm, om + p * 7, none⟩ = some (.string prev) := (World.cell?_of_block (w := wr) (a := ⟨bm, om + p * 7, none⟩) (Below.heap_alloc wr oB bm hbb)).trans p0
          have x1 : ∀ x : Sub (wr.heap.size + 1) (wr.alloc oB), x.w.cell? ⟨bm, om + p * 7, none⟩ = some (.string prev) := sub_cell p1 (by omega)
          have y2 : (p : Int) < l.length := by omega
          have y3 : decide ((0 : Int) < (p : Int) + 1) = true := by simp
          clear hrowp hrowp'
          cases hL : Op.bytesLess prev.toList key.toList
          · have HV : Hid (okAt l (p + 1) = false) := by show _ = _; rw [okAt, HK.out, Nat.add_sub_cancel, HP.out]; simp [utfB, ltB, hL]
            clear hV CV HK HP
            go_wp2_with fail
            refine wp_region_sub (wr.heap.size + 1) (by kernel_rfl) (by kernel_rfl) ?_
            repeat (go_big_quiet_step (exact CF.out _))
            refine wpQuiet_nil ?_
            rintro _ ⟨⟨wq, bq⟩, rfl⟩
            go_wp2_with fail
            go_ret
            exact ⟨by rw [riseB_false hjl HV.out]; rfl, hback _ bq⟩
          · have HV : Hid (okAt l (p + 1) = true) := by show _ = _; rw [okAt, HK.out, Nat.add_sub_cancel, HP.out]; simp [utfB, ltB, hL, hV]
            have HO : Hid (∀ q, q < p + 1 + 1 → okAt l q = true) := fun q hq => by
              by_cases hqj : q < p + 1
              · exact ok.out q hqj
              · obtain rfl : q = p + 1 := by omega
                exact HV.out
            clear hV CV HK HP HV
            go_wp2_with fail
            refine wp_region_sub (wr.heap.size + 1) (by kernel_rfl) (by kernel_rfl) ?_
            repeat (go_big_quiet_step (exact CF.out _))
            refine wpQuiet_nil ?_
            rintro _ ⟨⟨wq, bq⟩, rfl⟩
            go_wp2_with fail
            go_roundw
            case rel => exact ⟨p + 1 + 1, by omega, by go_num, hback _ bq, HO⟩
            case measure => simp [RowKit.intOf]; omega
    · obtain rfl : j = l.length := by omega
      have y1 : ¬ (l.length : Int) < l.length := by omega
      go_wp2_with fail
      go_ret
      exact ⟨by rw [riseB_true ok.out]; rfl, bj⟩
end Go.Proofs.YtmmlejbebfkojaaDoor
