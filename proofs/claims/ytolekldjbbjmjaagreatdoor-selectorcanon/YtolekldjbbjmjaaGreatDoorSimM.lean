import Derived.Test.YtolekldjbbjmjaaGreatDoorSimL
/- canBe, tell (layer 20). -/
set_option linter.unusedSimpArgs false
set_option linter.unusedVariables false
namespace Go.Proofs.YtolekldjbbjmjaaGreatDoor
open Go.RowKit Go.Lib
set_option maxHeartbeats 8000000 in
set_option maxRecDepth 100000 in
theorem canbe_any (p1 p2 p3 : Bool) (sl nl : List ByteArray) (sa na : Option Addr) (sc m nc : Nat) (w : World) (hsl : sl.length ≤ 2147483647) :
    Calls Tryz.prog 32 #[.agg #[.bool p1, .bool p2, .bool p3, .slice sa sl.length sc, .slice na m nc]] w (BPost (canB ⟨p1, p2, p3, sl, nl⟩) w) := by
  have HB : Hid (Below w.heap.size w (w.alloc (.cells #[.bool p1, .bool p2, .bool p3, .slice sa sl.length sc, .slice na m nc] 70))) := (Below.refl _ _).alloc (Nat.le_refl _) _
  cases p2 with
  | true =>
    cases p1 <;> cases p3 <;>
    · go_enter Tryz.func32, Tryz.ntmps32
      go_wp2_with fail
      go_ret
      exact ⟨rfl, HB.out⟩
  | false =>
    cases p3 with
    | false =>
      have HC : Hid (canB ⟨p1, false, false, sl, nl⟩ = true) := rfl
      go_enter Tryz.func32, Tryz.ntmps32
      go_wp2_with fail
      go_ret
      exact ⟨congrArg (fun r => Ending.returned (.bool r)) HC.out.symm, HB.out⟩
    | true =>
      have HC : Hid (canB ⟨p1, false, true, sl, nl⟩ = decide (0 < sl.length)) := by show _ = _; unfold canB; simp
      go_enter Tryz.func32, Tryz.ntmps32
      go_wp2_with fail
      go_ret
      exact ⟨congrArg (fun r => Ending.returned (.bool r)) HC.out.symm, HB.out⟩
def TlPost (r : List Trm) (u : Value) (base : Nat) (SA : Nat → Prop) (w : World) (e : Ending) (w' : World) : Prop := ∃ v SM, e = .returned v ∧ OwnF w' base SM v r ∧ w.grownBy w' u.ownBlock ∧ (∀ y, SM y → SA y) ∧ (v.ownBlock = u.ownBlock ∨ ∀ r, v.ownBlock = some r → w.heap.size ≤ r)
set_option maxHeartbeats 8000000 in
set_option maxRecDepth 100000 in
theorem tell_any (key : ByteArray) (p1 p2 p3 : Bool) (sl nl : List ByteArray) (sa na : Option Addr) (sc nc sb so nb no : Nat) (S1 S2 : Nat → Prop) (base : Nat) (SM : Nat → Prop) (u : Value) (out : List Trm) (w : World)
    (hsd : Headed sa sl.length sc sb so) (hsr : liesS w S1 sl sb so) (hnd : Headed na nl.length nc nb no) (hnr : liesS w S2 nl nb no) (ho : OwnF w base SM u out)
    (h1 : ∀ y, S1 y → base ≤ y ∧ y < w.heap.size ∧ some y ≠ u.ownBlock) (h2 : ∀ y, S2 y → base ≤ y ∧ y < w.heap.size ∧ some y ≠ u.ownBlock) (hk : key.size ≤ 140737488355328) (hlen : out.length ≤ 4294967295) (hbase : base ≤ w.heap.size) (hsl : sl.length ≤ 2147483647) (hnl : nl.length ≤ 2147483647) :
    Calls Tryz.prog 33 #[.agg #[.bool p1, .bool p2, .bool p3, .slice sa sl.length sc, .slice na nl.length nc], u, .string key] w (TlPost (out ++ tellV key ⟨p1, p2, p3, sl, nl⟩) u base (fun y => SM y ∨ S1 y ∨ S2 y) w) := by
  obtain ⟨ua, uc, rfl⟩ := own_slice ho
  have hult : ∀ r, (Value.slice ua out.length uc).ownBlock = some r → base ≤ r ∧ r < w.heap.size := fun r hr => ho.lt hr
  obtain ⟨w1, hw1⟩ : ∃ w1, w.alloc (.cells #[.bool p1, .bool p2, .bool p3, .slice sa sl.length sc, .slice na nl.length nc] 70) = w1 := ⟨_, rfl⟩
  have hz1 : w1.heap.size = w.heap.size + 1 := by rw [← hw1]; simp
  have B1 : Below w.heap.size w w1 := by rw [← hw1]; exact (Below.refl _ _).alloc (Nat.le_refl _) _
  have hX0 : w1.heap[w.heap.size]? = some (.cells #[.bool p1, .bool p2, .bool p3, .slice sa sl.length sc, .slice na nl.length nc] 70) := by rw [← hw1]; exact heap_alloc_new _ _
  have HD : Hid (∀ W : World, W.heap[w.heap.size]? = some (.cells #[.bool p1, .bool p2, .bool p3, .slice sa sl.length sc, .slice na nl.length nc] 70) → W.cell? ⟨w.heap.size, 0, none⟩ = some (.bool p1) ∧ W.cell? ⟨w.heap.size, 1, none⟩ = some (.bool p2) ∧ W.cell? ⟨w.heap.size, 2, none⟩ = some (.bool p3) ∧ W.cell? ⟨w.heap.size, 3, none⟩ = some (.slice sa sl.length sc) ∧ W.cell? ⟨w.heap.size, 4, none⟩ = some (.slice na nl.length nc)) := fun W h => by
    refine ⟨?_, ?_, ?_, ?_, ?_⟩ <;> (rw [cell_of_block h]; rfl)
  obtain ⟨c0, c1, c2, c3, c4⟩ := HD.out w1 hX0
  have HB1 := hmk B1
  have HX0 := hmk hX0
  have HZ1 := hmk hz1
  have HO : Hid (OwnF w1 base SM (.slice ua out.length uc) out) := ho.below keepF B1
  have HUL := hmk hult
  have HSR : Hid (liesS w1 S1 sl sb so) := hsr.keep (fun y hy => B1.block y (h1 y hy).2.1) (fun _ h => h)
  have HNR : Hid (liesS w1 S2 nl nb no) := hnr.keep (fun y hy => B1.block y (h2 y hy).2.1) (fun _ h => h)
  have HSD := hmk hsd
  have HND := hmk hnd
  have H1 := hmk h1
  have H2 := hmk h2
  have HK := hmk hk
  have HLN : Hid (out.length ≤ 4294967296) := by show _ ≤ _; omega
  have HBS : Hid (base ≤ w1.heap.size) := by show _ ≤ _; omega
  have HLT1 : Hid (∀ r, S1 r → r < w1.heap.size) := fun r hr => by have := (h1 r hr).2.1; omega
  have HLT2 : Hid (∀ r, S2 r → r < w1.heap.size) := fun r hr => by have := (h2 r hr).2.1; omega
  clear ho hsd hsr hnd hnr h1 h2 B1 hX0 hz1 hult hk
  cases p2 with
  | true =>
    go_enter Tryz.func33, Tryz.ntmps33
    go_wp2_with (at_builtin; go_loud (refine wpl_termL _ rfl (.tmp 10) (.tmp 13) rfl base rfl HO.out key 2 (Sx := fun _ => False) (vs := []) head_nilS (fun j hj => by simp at hj) (fun r hr => hr.elim) (by unfold In64; omega) HK.out (fun r hr => hr.elim) rfl HLN.out HBS.out ?_))
    intro g1 cap1 wc1 o1 gr1 e1
    have G1 := hmk (grown_trans (grown_below (row := (Value.slice ua out.length uc).ownBlock) HB1.out) gr1)
    have O1 := hmk o1
    have E1 := hmk e1
    clear o1 gr1 e1
    go_wp2_with fail
    (try simp only [Exit.inBlock, Exit.then])
    go_ret
    refine ⟨_, _, rfl, O1.out, G1.out, (fun y hy => .inl hy), ?_⟩
    rcases E1.out with h | h
    · exact .inl (by rw [h]; rfl)
    · exact .inr (fun r hr => by have e : g1 = r := Option.some.inj hr; have := HZ1.out; omega)
  | false =>
    cases p3 with
    | true =>
      go_enter Tryz.func33, Tryz.ntmps33
      go_wp2_with (at_builtin; go_loud (refine wpl_termL _ rfl (.tmp 18) (.tmp 23) rfl base rfl HO.out key 3 (Sx := S1) HSD.out HSR.out HLT1.out (by unfold In64; omega) HK.out (fun r hr => ⟨(H1.out r hr).1, (H1.out r hr).2.2⟩) rfl HLN.out HBS.out ?_))
      intro g1 cap1 wc1 o1 gr1 e1
      have G1 := hmk (grown_trans (grown_below (row := (Value.slice ua out.length uc).ownBlock) HB1.out) gr1)
      have O1 := hmk o1
      have E1 := hmk e1
      clear o1 gr1 e1
      go_wp2_with fail
      (try simp only [Exit.inBlock, Exit.then])
      go_ret
      refine ⟨_, _, rfl, O1.out, G1.out, (fun y hy => hy.elim .inl (fun h => .inr (.inl h))), ?_⟩
      rcases E1.out with h | h
      · exact .inl (by rw [h]; rfl)
      · exact .inr (fun r hr => by have e : g1 = r := Option.some.inj hr; have := HZ1.out; omega)
    | false =>
      by_cases h0 : nl.length = 0
      · have yz : ¬ (0 : Int) < nl.length := by omega
        cases p1 with
        | true =>
          have HT : Hid (tellV key ⟨true, false, false, sl, nl⟩ = [(key, 1, [])]) := by show _ = _; unfold tellV; simp [h0]
          rw [HT.out]
          clear h0
          go_enter Tryz.func33, Tryz.ntmps33
          go_wp2_with (at_builtin; go_loud (refine wpl_termL _ rfl (.tmp 27) (.tmp 30) rfl base rfl HO.out key 1 (Sx := fun _ => False) (vs := []) head_nilS (fun j hj => by simp at hj) (fun r hr => hr.elim) (by unfold In64; omega) HK.out (fun r hr => hr.elim) rfl HLN.out HBS.out ?_))
          intro g1 cap1 wc1 o1 gr1 e1
          have hX1 : wc1.heap[w.heap.size]? = some (.cells #[.bool true, .bool false, .bool false, .slice sa sl.length sc, .slice na nl.length nc] 70) := (gr1.block _ (by have := HZ1.out; omega) (fun e => by have := (HUL.out _ e.symm).2; omega)).trans HX0.out
          clear c0 c1 c2 c3 c4
          obtain ⟨c0, c1, c2, c3, c4⟩ := HD.out wc1 hX1
          clear hX1
          have G1 := hmk (grown_trans (grown_below (row := (Value.slice ua out.length uc).ownBlock) HB1.out) gr1)
          have O1 := hmk o1
          have E1 := hmk e1
          clear o1 gr1 e1
          go_wp2_with fail
          (try simp only [Exit.inBlock, Exit.then])
          go_ret
          refine ⟨_, _, rfl, O1.out, G1.out, (fun y hy => .inl hy), ?_⟩
          rcases E1.out with h | h
          · exact .inl (by rw [h]; rfl)
          · exact .inr (fun r hr => by have e : g1 = r := Option.some.inj hr; have := HZ1.out; omega)
        | false =>
          have HT : Hid (tellV key ⟨false, false, false, sl, nl⟩ = []) := by show _ = _; unfold tellV; simp [h0]
          rw [HT.out]
          clear h0
          go_enter Tryz.func33, Tryz.ntmps33
          go_wp2_with fail
          go_ret
          exact ⟨_, _, rfl, HO.out, grown_below HB1.out, fun y hy => .inl hy, .inl rfl⟩
      · have yz : (0 : Int) < nl.length := by omega
        cases p1 with
        | false =>
          have HT : Hid (tellV key ⟨false, false, false, sl, nl⟩ = [(key, 4, nl)]) := by show _ = _; unfold tellV; simp [h0]
          rw [HT.out]
          clear h0
          go_enter Tryz.func33, Tryz.ntmps33
          go_wp2_with (at_builtin; go_loud (refine wpl_termL _ rfl (.tmp 36) (.tmp 41) rfl base rfl HO.out key 4 (Sx := S2) HND.out HNR.out HLT2.out (by unfold In64; omega) HK.out (fun r hr => ⟨(H2.out r hr).1, (H2.out r hr).2.2⟩) rfl HLN.out HBS.out ?_))
          intro g1 cap1 wc1 o1 gr1 e1
          have G1 := hmk (grown_trans (grown_below (row := (Value.slice ua out.length uc).ownBlock) HB1.out) gr1)
          have O1 := hmk o1
          have E1 := hmk e1
          clear o1 gr1 e1
          go_wp2_with fail
          (try simp only [Exit.inBlock, Exit.then])
          go_ret
          refine ⟨_, _, rfl, O1.out, G1.out, (fun y hy => hy.elim .inl (fun h => .inr (.inr h))), ?_⟩
          rcases E1.out with h | h
          · exact .inl (by rw [h]; rfl)
          · exact .inr (fun r hr => by have e : g1 = r := Option.some.inj hr; have := HZ1.out; omega)
        | true =>
          have HT : Hid (tellV key ⟨true, false, false, sl, nl⟩ = [(key, 1, []), (key, 4, nl)]) := by show _ = _; unfold tellV; simp [h0]
          rw [HT.out]
          clear h0
          go_enter Tryz.func33, Tryz.ntmps33
          go_wp2_with (at_builtin; go_loud (refine wpl_termL _ rfl (.tmp 27) (.tmp 30) rfl base rfl HO.out key 1 (Sx := fun _ => False) (vs := []) head_nilS (fun j hj => by simp at hj) (fun r hr => hr.elim) (by unfold In64; omega) HK.out (fun r hr => hr.elim) rfl HLN.out HBS.out ?_))
          intro g1 cap1 wc1 o1 gr1 e1
          have hX1 : wc1.heap[w.heap.size]? = some (.cells #[.bool true, .bool false, .bool false, .slice sa sl.length sc, .slice na nl.length nc] 70) := (gr1.block _ (by have := HZ1.out; omega) (fun e => by have := (HUL.out _ e.symm).2; omega)).trans HX0.out
          clear c0 c1 c2 c3 c4
          obtain ⟨c0, c1, c2, c3, c4⟩ := HD.out wc1 hX1
          have hg1 : (Value.slice ua out.length uc).ownBlock = some g1 ∨ w1.heap.size ≤ g1 := e1
          have HNR1 : Hid (liesS wc1 S2 nl nb no) := HNR.out.keep (fun y hy => gr1.block y (HLT2.out y hy) (H2.out y hy).2.2) (fun _ h => h)
          have O1 := hmk o1
          have HLT3 : Hid (∀ r, S2 r → r < wc1.heap.size) := fun r hr => by have := HLT2.out r hr; have := gr1.size; omega
          have HSEP : Hid (∀ r, S2 r → base ≤ r ∧ some r ≠ (Value.slice (some ⟨g1, 0, none⟩) (out.length + 1) cap1).ownBlock) := fun r hr => by
            refine ⟨(H2.out r hr).1, fun e => ?_⟩
            have e2 : r = g1 := Option.some.inj e
            rcases hg1 with h | h
            · exact (H2.out r hr).2.2 (by rw [h, e2])
            · have := (H2.out r hr).2.1; have := HZ1.out; omega
          have HLN1 : Hid ((out ++ [(key, (1 : Int), ([] : List ByteArray))]).length ≤ 4294967296) := by show _ ≤ _; simp; omega
          have HBS1 : Hid (base ≤ wc1.heap.size) := by have := gr1.size; have := HBS.out; show _ ≤ _; omega
          have HGZ : Hid (w1.heap.size ≤ wc1.heap.size) := gr1.size
          have HG1 := hmk (grown_trans (grown_below (row := (Value.slice ua out.length uc).ownBlock) HB1.out) gr1)
          have HE1 := hmk hg1
          clear o1 gr1 e1 hg1 hX1
          go_wp2_with (at_builtin; go_loud (refine wpl_termL _ rfl (.tmp 36) (.tmp 41) rfl base rfl O1.out key 4 (Sx := S2) HND.out HNR1.out HLT3.out (by unfold In64; omega) HK.out HSEP.out rfl HLN1.out HBS1.out ?_))
          intro g2 cap2 wc2 o2 gr2 e2
          (try rw [List.append_assoc] at o2)
          have O2 := hmk o2
          have G2 := hmk gr2
          have E2 := hmk e2
          clear o2 gr2 e2
          go_wp2_with fail
          (try simp only [Exit.inBlock, Exit.then])
          go_ret
          refine ⟨_, _, rfl, O2.out, ?_, (fun y hy => hy.elim .inl (fun h => .inr (.inr h))), ?_⟩
          · refine ⟨G2.out.os.trans HG1.out.os, G2.out.tape.trans HG1.out.tape, G2.out.output.trans HG1.out.output, Nat.le_trans HG1.out.size G2.out.size, fun y hy hn => ?_⟩
            refine (G2.out.block y (Nat.lt_of_lt_of_le hy HG1.out.size) (fun e => ?_)).trans (HG1.out.block y hy hn)
            have e3 : y = g1 := Option.some.inj e
            rcases HE1.out with h | h
            · exact hn (by rw [h, e3])
            · have := HZ1.out; omega
          · rcases E2.out with h | h
            · have e3 : g1 = g2 := Option.some.inj h
              rcases HE1.out with h4 | h4
              · exact .inl (by rw [h4, e3]; rfl)
              · exact .inr (fun r hr => by have e : g2 = r := Option.some.inj hr; have := HZ1.out; omega)
            · exact .inr (fun r hr => by have e : g2 = r := Option.some.inj hr; have := HZ1.out; have := HGZ.out; omega)
end Go.Proofs.YtolekldjbbjmjaaGreatDoor
