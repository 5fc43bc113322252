/- joined: LefJ LefD LefE -/
import Derived.Test.YtfekgeaopchilaaGreatDoorLefI
/- Rows of paths; leaves.Paths, the document's Paths, leaves.rising. -/
set_option linter.unusedSimpArgs false
set_option linter.unusedVariables false
namespace Go.Proofs.YtfekgeaopchilaaGreatDoor
open Go.RowKit Go.Lib
structure OutQ (w : World) (S : Nat → Prop) (l : List (List El)) (v : Value) (W : World) : Prop where
  b : Below w.heap.size w W
  o : ∃ SP, OwnQ W 0 SP v l ∧ ∀ b, SP b → S b ∨ w.heap.size ≤ b
  f : ∀ r, v.ownBlock = some r → w.heap.size ≤ r
theorem OutQ.nil (w : World) (S : Nat → Prop) : OutQ w S [] (.slice none 0 0) w := ⟨Below.refl _ _, ⟨_, OwnR.nil _ _, fun b h => h.elim⟩, fun r h => by simp [Value.ownBlock] at h⟩
theorem OutQ.below {w W W' : World} {S : Nat → Prop} {l : List (List El)} {v : Value} (h : OutQ w S l v W) (b : Below W.heap.size W W') : OutQ w S l v W' := by
  obtain ⟨SP, o, hs⟩ := h.o
  exact ⟨h.b.trans (b.mono h.b.size), ⟨SP, o.below keepQ b, hs⟩, h.f⟩
theorem OutQ.list {w W : World} {S : Nat → Prop} {l : List (List El)} {v : Value} (h : OutQ w S l v W) : ∃ a c b o, v = .slice a l.length c ∧ Headed a l.length c b o ∧ liesQ W (Tw S w W) l b o := by
  obtain ⟨SP, o, hs⟩ := h.o
  exact own_listQ o (fun b hb => (hs b hb).imp id (fun h => ⟨h, (o.off b hb).2.1⟩)) (fun g hg => .inr ⟨h.f g hg, (o.lt hg).2⟩)
theorem infoQ' : ∃ i0, Tryz.prog.info? 25 = some i0 ∧ i0.zero = some (.slice none 0 0) ∧ i0.size = 1 ∧ i0.bytes = 24 := by
  obtain ⟨i0, hi0, hz0, hz1, hz2⟩ := info_parts info33
  exact ⟨i0, hi0, hz0, hz1, hz2⟩
theorem EQ.seven {w : World} {S : Nat → Prop} {x : List El} {cs : List Value} (h : EQ x w S cs) : cs.length = 1 ∧ ∀ u ∈ cs, u.oneCell' = true := by
  obtain ⟨v, rfl, ap, cp, bp, op, rfl, _⟩ := h
  exact ⟨rfl, oneQ⟩
theorem OutQ.step {w W : World} {S T : Nat → Prop} {l : List (List El)} {v : Value} {y : List El} {cs : List Value} (h : OutQ w S l v W) (hS : ∀ b, S b → b < w.heap.size) (hl : EQ y W T cs) (hT : ∀ b, T b → S b ∨ (w.heap.size ≤ b ∧ b < W.heap.size ∧ some b ≠ v.ownBlock)) (c : Nat) :
    ∃ SP Sx, OwnQ (W.alloc (.cells cs.toArray 25)) 0 SP v l ∧ EQ y (W.alloc (.cells cs.toArray 25)) Sx cs ∧ (∀ b, Sx b → 0 ≤ b ∧ b < (W.alloc (.cells cs.toArray 25)).heap.size ∧ some b ≠ v.ownBlock) ∧
      ∀ g cap w', OwnQ w' 0 (fun b => SP b ∨ Sx b) (.slice (some ⟨g, 0, none⟩) (l.length + 1) cap) (l ++ [y]) → (W.alloc (.cells cs.toArray 25)).grownBy w' v.ownBlock → (v.ownBlock = some g ∨ (W.alloc (.cells cs.toArray 25)).heap.size ≤ g) → OutQ w S (l ++ [y]) (.slice (some ⟨g, 0, none⟩) (l.length + 1) cap) w' := by
  obtain ⟨SP, o, hs⟩ := h.o
  have ba : Below W.heap.size W (W.alloc (.cells cs.toArray 25)) := (Below.refl _ _).alloc (Nat.le_refl _) _
  have hzb := h.b.size
  have hza := ba.size
  have hlt : ∀ b, T b → b < W.heap.size ∧ some b ≠ v.ownBlock := fun b hb => by
    rcases hT b hb with h1 | h1
    · have h2 := hS b h1
      exact ⟨by omega, fun e => by have := h.f b e.symm; omega⟩
    · exact h1.2
  refine ⟨SP, T, o.alloc keepQ _, keepQ _ _ _ _ _ _ (fun b hb => ba.block b (hlt b hb).1) (fun _ h => h) hl, fun b hb => ⟨Nat.zero_le _, by have := (hlt b hb).1; omega, (hlt b hb).2⟩, fun g cap w' o' gr e => ⟨(h.b.trans (ba.mono hzb)).grown gr (by omega) (fun r e => h.f r e), ⟨_, o', fun b hb => hb.elim (fun h => hs b h) (fun h => (hT b h).imp id (fun h => h.1))⟩, fun r hr => by
    have hr' : g = r := by simpa [Value.ownBlock] using hr
    subst hr'
    rcases e with e | e
    · exact h.f g e
    · omega⟩⟩
section
variable {P : Program}
theorem wpl_outQ {ops : Array Oper} {rest : List Oper} {o : Oper} {a : Act} {Q : Exit → Act → World → Prop} (hgd : o.guard = none) (s x : Operand)
    (ho : o.op = .call { callee := .builtin .append, args := #[s, x], argTypes := #[23, 23] })
    {w W : World} {S T : Nat → Prop} {l : List (List El)} (v : Value) {y : List El} {cs : List Value} (hs : a.eval s = v) (h : OutQ w S l v W) (hS : ∀ b, S b → b < w.heap.size) (hl : EQ y W T cs) (hT : ∀ b, T b → S b ∨ (w.heap.size ≤ b ∧ b < W.heap.size ∧ some b ≠ v.ownBlock))
    (c : Nat) (hx : a.eval x = .slice (some ⟨W.heap.size, 0, none⟩) 1 c) (hlen : l.length ≤ 4294967296)
    (k : ∀ g cap w', OutQ w S (l ++ [y]) (.slice (some ⟨g, 0, none⟩) (l.length + 1) cap) w' → wpList Tryz.prog ops Q rest (a.put o.dst (.slice (some ⟨g, 0, none⟩) (l.length + 1) cap)) w') : wpList Tryz.prog ops Q (o :: rest) a (W.alloc (.cells cs.toArray 25)) := by
  obtain ⟨i0, h0, h1, h2, h3⟩ := infoQ'
  obtain ⟨SP, Sx, o1, e1, hx1, k1⟩ := h.step hS hl hT c
  refine wpl_push keepQ _ hgd s x 23 ho 0 i0 _ 24 Tryz.underlying23 h0 h1 h2 h3 rfl (by decide) (by decide) v y hs o1 W.heap.size c (0, 0) hx (heap_alloc_new W _) (EQ.seven hl).1 (EQ.seven hl).2 e1 hx1 hlen (Nat.zero_le _) ?_
  intro g cap w' o' gr e
  exact k g cap w' (k1 g cap w' o' gr e)
end
def pths (l : List Lf) : List (List El) := l.map Prod.fst
theorem pths_len (l : List Lf) : (pths l).length = l.length := List.length_map _
set_option maxHeartbeats 4000000 in
set_option maxRecDepth 100000 in
theorem rpaths_any (l : List Lf) (S : Nat → Prop) (al : Option Addr) (cl bl ol : Nat) (w : World) (hal : Headed al l.length cl bl ol) (hl : liesF w S l bl ol) (hS : ∀ b, S b → b < w.heap.size) (hwt : wtF l ≤ 2147483647) :
    Calls Tryz.prog 22 #[.slice al l.length cl] w (TrPost (pths l) S w) := by
  have HL := hmk hl
  have hlm := wtF_len l
  have kb : Hid (∀ W, Below w.heap.size w W → (∀ b, S b → W.heap[b]? = w.heap[b]?) ∧ (∀ b, S b → b < W.heap.size)) := fun W hb => ⟨fun b h => hb.block b (hS b h), fun b h => Nat.lt_of_lt_of_le (hS b h) hb.size⟩
  clear hl
  go_enter Tryz.func22, Tryz.ntmps22
  go_wp2_with fail
  go_loopw [3, 4] (fun e3 e wr => ∃ j : Nat, j ≤ l.length ∧ e = .int .i64 (j : Int) ∧ OutQ w S (pths (l.take j)) e3 wr) (fun _ e _ => l.length - (RowKit.intOf e).toNat)
  case atStart => exact ⟨0, by omega, rfl, OutQ.nil _ _⟩
  case round =>
    obtain ⟨j, hj, rfl, oj⟩ := hrel
    by_cases hjl : j < l.length
    · have y1 : (j : Int) < l.length := by omega
      obtain ⟨hSb, cs, hrow, v, is, rfl, ⟨ap, cp, bp, op, rfl, hh, hlp⟩, hv⟩ := HL.out j hjl
      obtain rfl : al = some ⟨bl, ol, none⟩ := hal.at_.resolve_left (by omega)
      obtain ⟨vk, vb, vi, vs, val, vnl, vcl, vam, vnm, vcm, rfl⟩ := V.ten hv
      obtain ⟨q, q0, q1, q2, q3, q4, q5⟩ := row7 (hrow.keep ((kb.out wr oj.b).1 _ hSb))
      have HTP : Hid (pths (l.take (j + 1)) = pths (l.take j) ++ [(l[j]).1]) := by show _ = _; rw [pths, pths, List.take_succ_eq_append_getElem hjl, List.map_append]; rfl
      have HEQ : Hid (EQ (l[j]).1 wr S [.slice ap (l[j]).1.length cp]) := ⟨_, rfl, ap, cp, bp, op, rfl, hh, liesP_keep (kb.out wr oj.b).1 (fun _ h => h) hlp⟩
      have hll : (pths (l.take j)).length ≤ 4294967296 := by rw [pths_len, List.length_take]; omega
      clear hrow hlp hv
      go_wp2_with (at_builtin; go_loud (refine wpl_outQ rfl (.tmp 11) (.tmp 17) rfl _ rfl oj hS HEQ.out (fun b h => .inl h) 1 rfl hll ?_))
      intro g5 cap w5 o5
      rw [← HTP.out] at o5
      clear oj HEQ q q0 q1 q2 q3 q4 q5
      go_wp2_with fail
      go_roundw
      case rel => exact ⟨j + 1, by omega, by go_num, by first | exact o5 | simpa using o5⟩
      case measure => simp [RowKit.intOf]; omega
    · obtain rfl : j = l.length := by omega
      have y1 : ¬ (l.length : Int) < l.length := by omega
      rw [List.take_length] at oj
      obtain ⟨a, c, b, o, rfl, hd, hls⟩ := oj.list
      have HB := hmk oj.b
      have HLS := hmk hls
      clear oj hls
      go_wp2_with fail
      go_ret
      exact ⟨a, c, b, o, by rfl, hd, HLS.out, HB.out⟩
set_option maxHeartbeats 4000000 in
set_option maxRecDepth 100000 in
theorem paths_any (l : List Lf) (S : Nat → Prop) (al : Option Addr) (cl bl ol : Nat) (w : World) (hal : Headed al l.length cl bl ol) (hl : liesF w S l bl ol) (hS : ∀ b, S b → b < w.heap.size) (hwt : wtF l ≤ 2147483647) (hr : Rl l) :
    Calls Tryz.prog 21 #[.slice al l.length cl] w (TrPost (pths l) S w) := by
  have HR := hmk hr
  have HL := hmk hl
  have hlm := wtF_len l
  have kb : Hid (∀ W, Below w.heap.size w W → (∀ b, S b → W.heap[b]? = w.heap[b]?) ∧ (∀ b, S b → b < W.heap.size)) := fun W hb => ⟨fun b h => hb.block b (hS b h), fun b h => Nat.lt_of_lt_of_le (hS b h) hb.size⟩
  clear hl
  clear hr
  go_enter Tryz.func21, Tryz.ntmps21
  go_wp2_with fail
  go_loopw [3, 8] (fun e3 e wr => ∃ j : Nat, j ≤ l.length ∧ e = .int .i64 (j : Int) ∧ OutQ w S (pths (l.take j)) e3 wr) (fun _ e _ => l.length - (RowKit.intOf e).toNat)
  case atStart => exact ⟨0, by omega, rfl, OutQ.nil _ _⟩
  case round =>
    obtain ⟨j, hj, rfl, oj⟩ := hrel
    by_cases hjl : j < l.length
    · have y1 : (j : Int) < l.length := by omega
      obtain ⟨hSb, cs, hrow, v, is, rfl, ⟨ap, cp, bp, op, rfl, hh, hlp⟩, hv⟩ := HL.out j hjl
      obtain rfl : al = some ⟨bl, ol, none⟩ := hal.at_.resolve_left (by omega)
      obtain ⟨vk, vb, vi, vs, val, vnl, vcl, vam, vnm, vcm, rfl⟩ := V.ten hv
      obtain ⟨q, q0, q1, q2, q3, q4, q5⟩ := row7 (hrow.keep ((kb.out wr oj.b).1 _ hSb))
      have HTP : Hid (pths (l.take (j + 1)) = pths (l.take j) ++ [(l[j]).1]) := by show _ = _; rw [pths, pths, List.take_succ_eq_append_getElem hjl, List.map_append]; rfl
      have hwj := (Lf.wt_path (List.getElem_mem hjl)).1
      have nb := heap_alloc_new wr (.cells #[.slice ap (l[j]).1.length cp, .int .i64 vk, .bool vb, .int .i64 vi, .string vs, .slice val vnl vcl, .slice vam vnm vcm] 50)
      have ba : Below wr.heap.size wr (wr.alloc (.cells #[.slice ap (l[j]).1.length cp, .int .i64 vk, .bool vb, .int .i64 vi, .string vs, .slice val vnl vcl, .slice vam vnm vcm] 50)) := (Below.refl _ _).alloc (Nat.le_refl _) _
      have oa := oj.below ba
      have c0 : (wr.alloc (.cells #[.slice ap (l[j]).1.length cp, .int .i64 vk, .bool vb, .int .i64 vi, .string vs, .slice val vnl vcl, .slice vam vnm vcm] 50)).cell? ⟨wr.heap.size, 0, none⟩ = some (.slice ap (l[j]).1.length cp) := cell_of_block nb 0
      have C39 := hmk (copy_any (l[j]).1 S ap cp bp op (wr.alloc (.cells #[.slice ap (l[j]).1.length cp, .int .i64 vk, .bool vb, .int .i64 vi, .string vs, .slice val vnl vcl, .slice vam vnm vcm] 50)) hh (liesP_keep (kb.out _ oa.b).1 (fun _ h => h) hlp) (kb.out _ oa.b).2 (by omega))
      rw [anP_same (HR.out.ok j hjl)] at C39
      have hll : (pths (l.take j)).length ≤ 4294967296 := by rw [pths_len, List.length_take]; omega
      have hown : ∀ r, u3.ownBlock = some r → r < wr.heap.size := fun r e => by obtain ⟨SP, o, hs⟩ := oj.o; exact (o.lt e).2
      have hmx := hh.max
      have hle := hh.le
      clear hrow hlp hv oj nb
      go_wp2_with fail
      refine C39.out.mono ?_
      rintro e w3 ⟨g3, rfl, l3, b3⟩
      have o3 := oa.below b3
      have HEQ : Hid (EQ (l[j]).1 w3 (New (wr.alloc (.cells #[.slice ap (l[j]).1.length cp, .int .i64 vk, .bool vb, .int .i64 vi, .string vs, .slice val vnl vcl, .slice vam vnm vcm] 50)) w3) [.slice (some ⟨g3, 0, none⟩) (l[j]).1.length (l[j]).1.length]) := ⟨_, rfl, _, _, g3, 0, rfl, ⟨Nat.le_refl _, Nat.le_trans hle hmx, .inr rfl, fun h => by cases h⟩, l3⟩
      have hT : ∀ b, New (wr.alloc (.cells #[.slice ap (l[j]).1.length cp, .int .i64 vk, .bool vb, .int .i64 vi, .string vs, .slice val vnl vcl, .slice vam vnm vcm] 50)) w3 b → S b ∨ (w.heap.size ≤ b ∧ b < w3.heap.size ∧ some b ≠ u3.ownBlock) := fun b hb => .inr ⟨Nat.le_trans oa.b.size hb.1, hb.2, fun e => by have h8 := hown b e.symm; have h9 := hb.1; have h7 := ba.size; omega⟩
      clear C39 q q0 q1 q2 q3 q4 q5 c0
      go_wp2_with (at_builtin; go_loud (refine wpl_outQ rfl (.tmp 12) (.tmp 16) rfl _ rfl o3 hS HEQ.out hT 1 rfl hll ?_))
      intro g5 cap w5 o5
      rw [← HTP.out] at o5
      clear oa o3 HEQ hT ba
      go_wp2_with fail
      go_roundw
      case rel => exact ⟨j + 1, by omega, by go_num, by first | exact o5 | simpa using o5⟩
      case measure => simp [RowKit.intOf]; omega
    · obtain rfl : j = l.length := by omega
      have y1 : ¬ (l.length : Int) < l.length := by omega
      rw [List.take_length] at oj
      obtain ⟨a, c, b, o, rfl, hd, hls⟩ := oj.list
      have HB := hmk oj.b
      have HLS := hmk hls
      clear oj hls
      go_wp2_with fail
      go_ret
      exact ⟨a, c, b, o, by rfl, hd, HLS.out, HB.out⟩
end Go.Proofs.YtfekgeaopchilaaGreatDoor
/- The document's Under, Drop and Paths; leaves.Paths. -/
namespace Go.Proofs.YtfekgeaopchilaaGreatDoor
open Go.RowKit Go.Lib
theorem filt_yes {α : Type} {f : α → Bool} {l : List α} {j : Nat} (h : j < l.length) (hf : f l[j] = true) : (l.take (j + 1)).filter f = (l.take j).filter f ++ [l[j]] := by
  rw [List.take_succ_eq_append_getElem h, List.filter_append, List.filter_cons, if_pos hf, List.filter_nil]
theorem filt_no {α : Type} {f : α → Bool} {l : List α} {j : Nat} (h : j < l.length) (hf : f l[j] = false) : (l.take (j + 1)).filter f = (l.take j).filter f := by
  rw [List.take_succ_eq_append_getElem h, List.filter_append, List.filter_cons, if_neg (by rw [hf]; decide), List.filter_nil, List.append_nil]
theorem filt_len {α : Type} (f : α → Bool) (l : List α) (j : Nat) : ((l.take j).filter f).length ≤ l.length := Nat.le_trans (List.length_filter_le _ _) (by rw [List.length_take]; omega)
set_option maxHeartbeats 4000000 in
set_option maxRecDepth 100000 in
theorem rund_any (l : List Lf) (S : Nat → Prop) (al : Option Addr) (cl bl ol : Nat) (w : World) (hal : Headed al l.length cl bl ol) (hl : liesF w S l bl ol) (hS : ∀ b, S b → b < w.heap.size) (hwt : wtF l ≤ 2147483647) (p : List El) (a2 : Option Addr) (c2 b2 o2 : Nat) (h2 : Headed a2 p.length c2 b2 o2) (hp : liesP w S p b2 o2) (hwp : wtP p ≤ 2147483647) :
    Calls Tryz.prog 20 #[.slice al l.length cl, .slice a2 p.length c2] w (TfPost (l.filter (fun x => abvP p x.1)) S w) := by
  have HL := hmk hl
  have HP := hmk hp
  have hlm := wtF_len l
  clear hl hp
  go_enter Tryz.func20, Tryz.ntmps20
  go_wp2_with fail
  go_loopw [5, 6] (fun e5 e wr => ∃ j : Nat, j ≤ l.length ∧ e = .int .i64 (j : Int) ∧ OutF w S ((l.take j).filter (fun x => abvP p x.1)) e5 wr) (fun _ e _ => l.length - (RowKit.intOf e).toNat)
  case atStart => exact ⟨0, by omega, rfl, OutF.nil _ _⟩
  case round =>
    obtain ⟨j, hj, rfl, oj⟩ := hrel
    by_cases hjl : j < l.length
    · have y1 : (j : Int) < l.length := by omega
      obtain ⟨hSb, cs, hrow, v, is, rfl, ⟨ap, cp, bp, op, rfl, hh, hlp⟩, hv⟩ := HL.out j hjl
      obtain rfl : al = some ⟨bl, ol, none⟩ := hal.at_.resolve_left (by omega)
      have kb : Hid (∀ W, Below w.heap.size w W → (∀ b, S b → W.heap[b]? = w.heap[b]?) ∧ (∀ b, S b → b < W.heap.size)) := fun W hb => ⟨fun b h => hb.block b (hS b h), fun b h => Nat.lt_of_lt_of_le (hS b h) hb.size⟩
      have hlf : Lf.lies w S l[j] (.slice ap (l[j]).1.length cp :: is) := ⟨_, _, rfl, ⟨ap, cp, bp, op, rfl, hh, hlp⟩, hv⟩
      have hwj := (Lf.wt_path (List.getElem_mem hjl)).1
      have C38 := hmk (rabvP_any p (l[j]).1 S S a2 c2 b2 o2 ap cp bp op wr h2 (liesP_keep (kb.out wr oj.b).1 (fun _ h => h) HP.out) hh (liesP_keep (kb.out wr oj.b).1 (fun _ h => h) hlp) (kb.out wr oj.b).2 (kb.out wr oj.b).2 hwp (by omega))
      obtain ⟨vk, vb, vi, vs, val, vnl, vcl, vam, vnm, vcm, rfl⟩ := V.ten hv
      obtain ⟨q, q0, q1, q2, q3, q4, q5⟩ := row7 (hrow.keep ((kb.out wr oj.b).1 _ hSb))
      have hfl := filt_len (fun x : Lf => abvP p x.1) l j
      have HROW := hmk hrow
      clear hrow hlp hv
      cases hq : abvP p (l[j]).1 with
      | true =>
        have HN := hmk (filt_yes (f := fun x : Lf => abvP p x.1) hjl hq)
        rw [hq] at C38
        clear hq
        go_wp2_with fail
        refine C38.out.mono ?_
        rintro e w1 ⟨rfl, b1⟩
        have o1 := oj.below b1
        have HLF : Hid (Lf.lies w1 S l[j] [.slice ap (l[j]).1.length cp, .int .i64 vk, .bool vb, .int .i64 vi, .string vs, .slice val vnl vcl, .slice vam vnm vcm]) := Lf.keep (kb.out w1 o1.b).1 (fun _ h => h) hlf
        clear q q0 q1 q2 q3 q4 q5
        obtain ⟨q, q0, q1, q2, q3, q4, q5⟩ := row7 (HROW.out.keep ((kb.out w1 o1.b).1 _ hSb))
        clear C38 oj b1
        go_wp2_with (at_builtin; go_loud (refine wpl_outF rfl (.tmp 22) (.tmp 27) rfl _ rfl o1 hS HLF.out (fun b h => .inl h) 1 rfl (by omega) ?_))
        intro g5 cap w5 o5
        rw [← HN.out] at o5
        clear o1 HLF q q0 q1 q2 q3 q4 q5
        go_wp2_with fail
        go_roundw
        case rel => exact ⟨j + 1, by omega, by go_num, o5⟩
        case measure => simp [RowKit.intOf]; omega
      | false =>
        have HN := hmk (filt_no (f := fun x : Lf => abvP p x.1) hjl hq)
        rw [hq] at C38
        clear hq
        go_wp2_with fail
        refine C38.out.mono ?_
        rintro e w1 ⟨rfl, b1⟩
        have o1 := oj.below b1
        rw [← HN.out] at o1
        clear C38 oj b1 q q0 q1 q2 q3 q4 q5
        go_wp2_with fail
        go_roundw
        case rel => exact ⟨j + 1, by omega, by go_num, o1⟩
        case measure => simp [RowKit.intOf]; omega
    · obtain rfl : j = l.length := by omega
      have y1 : ¬ (l.length : Int) < l.length := by omega
      rw [List.take_length] at oj
      obtain ⟨a, c, b, o, rfl, hd, hls⟩ := oj.list
      have HB := hmk oj.b
      have HLS := hmk hls
      clear oj hls
      go_wp2_with fail
      go_ret
      exact ⟨a, c, b, o, rfl, hd, HLS.out, HB.out⟩
end Go.Proofs.YtfekgeaopchilaaGreatDoor
/- The document's Drop and Put. -/
namespace Go.Proofs.YtfekgeaopchilaaGreatDoor
open Go.RowKit Go.Lib
/-- does none of these lie at or above it? -/
def stF (ps : List (List El)) (x : Lf) : Bool := !(ps.any (fun p => abvP p x.1))
theorem stF_take {ps : List (List El)} {k : Nat} (h : k < ps.length) (x : Lf) : stF (ps.take (k + 1)) x = (stF (ps.take k) x && !(abvP ps[k] x.1)) := by
  unfold stF
  rw [List.take_succ_eq_append_getElem h, List.any_append]
  simp
set_option maxHeartbeats 4000000 in
set_option maxRecDepth 100000 in
theorem rdrp_any (l : List Lf) (S : Nat → Prop) (al : Option Addr) (cl bl ol : Nat) (w : World) (hal : Headed al l.length cl bl ol) (hl : liesF w S l bl ol) (hS : ∀ b, S b → b < w.heap.size) (hwt : wtF l ≤ 2147483647) (ps : List (List El)) (a2 : Option Addr) (c2 b2 o2 : Nat) (h2 : Headed a2 ps.length c2 b2 o2) (hp : liesQ w S ps b2 o2) (hwp : wtQ ps ≤ 2147483647) :
    Calls Tryz.prog 18 #[.slice al l.length cl, .slice a2 ps.length c2] w (TfPost (l.filter (stF ps)) S w) := by
  have HL := hmk hl
  have HP := hmk hp
  have hlm := wtF_len l
  have hpm : ps.length ≤ 9223372036854775807 := Nat.le_trans h2.le h2.max
  clear hl hp
  go_enter Tryz.func18, Tryz.ntmps18
  go_wp2_with fail
  go_loopw [5, 6] (fun e5 e wr => ∃ j : Nat, j ≤ l.length ∧ e = .int .i64 (j : Int) ∧ OutF w S ((l.take j).filter (stF ps)) e5 wr) (fun _ e _ => l.length - (RowKit.intOf e).toNat)
  case atStart => exact ⟨0, by omega, rfl, OutF.nil _ _⟩
  case round =>
    obtain ⟨j, hj, rfl, oj⟩ := hrel
    by_cases hjl : j < l.length
    · have y1 : (j : Int) < l.length := by omega
      obtain ⟨hSb, cs, hrow, v, is, rfl, ⟨ap, cp, bp, op, rfl, hh, hlp⟩, hv⟩ := HL.out j hjl
      obtain rfl : al = some ⟨bl, ol, none⟩ := hal.at_.resolve_left (by omega)
      have kb : Hid (∀ W, Below w.heap.size w W → (∀ b, S b → W.heap[b]? = w.heap[b]?) ∧ (∀ b, S b → b < W.heap.size)) := fun W hb => ⟨fun b h => hb.block b (hS b h), fun b h => Nat.lt_of_lt_of_le (hS b h) hb.size⟩
      have HLF0 : Hid (Lf.lies w S l[j] (.slice ap (l[j]).1.length cp :: is)) := ⟨_, _, rfl, ⟨ap, cp, bp, op, rfl, hh, hlp⟩, hv⟩
      have hwj := (Lf.wt_path (List.getElem_mem hjl)).1
      obtain ⟨vk, vb, vi, vs, val, vnl, vcl, vam, vnm, vcm, rfl⟩ := V.ten hv
      have hfl := filt_len (stF ps) l j
      have HROW := hmk hrow
      have HLP := hmk hlp
      clear hrow hlp hv
      go_wp2_with fail
      go_loopw [7, 8] (fun e7 e wr => ∃ k : Nat, k ≤ ps.length ∧ e = .int .i64 (k : Int) ∧ e7 = .bool (stF (ps.take k) l[j]) ∧ OutF w S ((l.take j).filter (stF ps)) u5 wr) (fun _ e _ => ps.length - (RowKit.intOf e).toNat)
      case atStart => exact ⟨0, by omega, rfl, by simp [stF], oj⟩
      case round =>
        clear oj
        obtain ⟨k, hk, rfl, rfl, oj⟩ := hrel
        have zw := oj.b
        by_cases hkl : k < ps.length
        · have y2 : (k : Int) < ps.length := by omega
          obtain ⟨hSq, vq, hvq, aq, cq, bq, oq, rfl, hhq, hlq⟩ := HP.out k hkl
          obtain rfl : a2 = some ⟨b2, o2, none⟩ := h2.at_.resolve_left (by omega)
          have hwk : wtP ps[k] ≤ 2147483647 := Nat.le_trans (wtQ_mem (List.getElem_mem hkl)) hwp
          have C38 : Hid (∀ x : Sub wr.heap.size wr, Calls Tryz.prog 38 #[.slice aq (ps[k]).length cq, .slice ap (l[j]).1.length cp] x.w fun e w'' => e = .returned (.bool (abvP ps[k] (l[j]).1)) ∧ ∃ y : Sub wr.heap.size wr, w'' = y.w) :=
            sub_call fun w' hb => (rabvP_any ps[k] (l[j]).1 S S aq cq bq oq ap cp bp op w' hhq (liesP_keep (kb.out w' (oj.below hb).b).1 (fun _ h => h) hlq) hh (liesP_keep (kb.out w' (oj.below hb).b).1 (fun _ h => h) HLP.out) (kb.out w' (oj.below hb).b).2 (kb.out w' (oj.below hb).b).2 hwk (by omega)).mono fun e w'' ⟨he, h2⟩ => ⟨he, hb.trans (h2.mono hb.size)⟩
          obtain ⟨q, q0, q1, q2, q3, q4, q5⟩ := row7 (HROW.out.keep ((kb.out wr oj.b).1 _ hSb))
          have r : wr.cell? ⟨b2, o2 + k, none⟩ = some (.slice aq (ps[k]).length cq) := (World.cell?_of_block (w := w) (a := ⟨b2, o2 + k, none⟩) ((kb.out wr oj.b).1 _ hSq)).trans hvq
          have xq : ∀ x : Sub wr.heap.size wr, _ := sub_cell q ((kb.out wr oj.b).2 _ hSb)
          have xr : ∀ x : Sub wr.heap.size wr, _ := sub_cell r ((kb.out wr oj.b).2 _ hSq)
          have HST := hmk (stF_take hkl l[j])
          have HOJ := hmk oj
          generalize hA : abvP ps[k] (l[j]).1 = A at *
          generalize stF (ps.take k) l[j] = B at *
          clear hlq hvq q q0 q1 q2 q3 q4 q5 r hA oj zw
          go_wp2_with fail
          refine wp_region_sub wr.heap.size (by kernel_rfl) (by kernel_rfl) ?_
          repeat (go_big_quiet_step (first | exact C38.out _))
          refine wpQuiet_nil ?_
          rintro w2 ⟨⟨wq', bq⟩, hq⟩
          have hq' : w2 = wq' := hq
          subst hq'
          clear hq
          have o2' := HOJ.out.below bq
          clear C38 xq xr bq
          cases B with
          | true =>
            go_wp2_with fail
            go_roundw
            case rel => exact ⟨k + 1, by omega, by go_num, by rw [HST.out]; cases A <;> rfl, o2'⟩
            case measure => simp [RowKit.intOf]; omega
          | false =>
            go_wp2_with fail
            go_roundw
            case rel => exact ⟨k + 1, by omega, by go_num, by rw [HST.out]; rfl, o2'⟩
            case measure => simp [RowKit.intOf]; omega
        · obtain rfl : k = ps.length := by omega
          have y2 : ¬ (ps.length : Int) < ps.length := by omega
          have etk : ps.take ps.length = ps := List.take_length
          rw [etk]
          obtain ⟨q, q0, q1, q2, q3, q4, q5⟩ := row7 (HROW.out.keep ((kb.out wr oj.b).1 _ hSb))
          clear etk
          cases hq : stF ps l[j] with
          | true =>
            have HN := hmk (filt_yes (f := stF ps) hjl hq)
            have HLF : Hid (Lf.lies wr S l[j] [.slice ap (l[j]).1.length cp, .int .i64 vk, .bool vb, .int .i64 vi, .string vs, .slice val vnl vcl, .slice vam vnm vcm]) := Lf.keep (kb.out wr oj.b).1 (fun _ h => h) HLF0.out
            clear hq zw
            go_wp2_with (at_builtin; go_loud (refine wpl_outF rfl (.tmp 38) (.tmp 43) rfl _ rfl oj hS HLF.out (fun b h => .inl h) 1 rfl (by omega) ?_))
            intro g5 cap w5 o5
            rw [← HN.out] at o5
            clear oj HLF q q0 q1 q2 q3 q4 q5
            go_wp2_with fail
            go_roundw
            case rel => exact ⟨j + 1, by omega, by go_num, o5⟩
            case measure => simp [RowKit.intOf]; omega
          | false =>
            have HN := hmk (filt_no (f := stF ps) hjl hq)
            rw [← HN.out] at oj
            clear hq q q0 q1 q2 q3 q4 q5 zw
            go_wp2_with fail
            go_roundw
            case rel => exact ⟨j + 1, by omega, by go_num, oj⟩
            case measure => simp [RowKit.intOf]; omega
    · obtain rfl : j = l.length := by omega
      have y1 : ¬ (l.length : Int) < l.length := by omega
      rw [List.take_length] at oj
      obtain ⟨a, c, b, o, rfl, hd, hls⟩ := oj.list
      have HB := hmk oj.b
      have HLS := hmk hls
      clear oj hls
      go_wp2_with fail
      go_ret
      exact ⟨a, c, b, o, rfl, hd, HLS.out, HB.out⟩
end Go.Proofs.YtfekgeaopchilaaGreatDoor
