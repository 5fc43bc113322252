import Derived.Test.YthlhkhcbkgbhfaaGreatDoorWlkM
import Derived.Test.YthlhkhcbkgbhfaaGreatDoorCopS
/- pathset.Meet. -/
set_option linter.unusedSimpArgs false
set_option linter.unusedVariables false
namespace Go.Proofs.YthlhkhcbkgbhfaaGreatDoor
open Go Go.RowKit Go.Lib Go.Shelf
set_option maxHeartbeats 4000000 in
/-- what walk hands back goes over what is told -/
theorem seqsM_any (a b : List (List El)) (S : Nat → Prop) (aa : Option Addr) (ca ba oa : Nat) (ab : Option Addr) (cb bb ob : Nat) (w : World) (hha : Headed aa a.length ca ba oa) (hla : liesQ w S a ba oa) (hhb : Headed ab b.length cb bb ob) (hlb : liesQ w S b bb ob) (hS : ∀ b, S b → b < w.heap.size) (hwa : BqL a) (hwb : BqL b) :
    ∃ zs : List (PC w S), zs.map PC.p = wkL (lexL oeE) tM a b ∧ ∀ (W1 : World), Below w.heap.size w W1 → ∀ (n n0 vx : Nat) (W : World), Below (((W1.alloc (.cells #[.slice aa a.length ca] 22)).alloc (.cells #[.slice ab b.length cb] 22)).alloc (.cells #[.func (.func 33) #[] #[]] 52)).heap.size (((W1.alloc (.cells #[.slice aa a.length ca] 22)).alloc (.cells #[.slice ab b.length cb] 22)).alloc (.cells #[.func (.func 33) #[] #[]] 52)) W → W1.heap.size + 3 ≤ n0 → W1.heap.size + 3 ≤ vx → n0 ≤ W.heap.size →
      SeqStopsK Fence.wide n Tryz.prog 56 #[.pointer (some ⟨W1.heap.size, 0, none⟩), .pointer (some ⟨W1.heap.size + 1, 0, none⟩), .pointer (some ⟨W1.heap.size + 2, 0, none⟩)] (fun x : {x : PC w S // x ∈ zs} => #[x.1.enc]) (Kx n0 vx) (fun ys => ys.map (fun x => x.1) = zs) (fun _ => True) zs.length W := by
  obtain ⟨xa, rfl, hxa⟩ := pc_of hla
  obtain ⟨xb, rfl, hxb⟩ := pc_of hlb
  have hwa1 := hwa.1
  have hwb1 := hwb.1
  rw [List.length_map] at hha hhb hwa1 hwb1
  refine ⟨wkL PC.cmp tM xa xb, wk_map PC.p (lexL oeE) tM xa xb, fun W1 hb1 n n0 vx W hW h1 h2 h3 => ?_⟩
  have e1 := alloc_size W1 (.cells #[.slice aa (xa.map PC.p).length ca] 22)
  have e2 := alloc_size (W1.alloc (.cells #[.slice aa (xa.map PC.p).length ca] 22)) (.cells #[.slice ab (xb.map PC.p).length cb] 22)
  have e3 := alloc_size ((W1.alloc (.cells #[.slice aa (xa.map PC.p).length ca] 22)).alloc (.cells #[.slice ab (xb.map PC.p).length cb] 22)) (.cells #[.func (.func 33) #[] #[]] 52)
  have f1 := heap_alloc_new W1 (.cells #[.slice aa (xa.map PC.p).length ca] 22)
  have f2 := heap_alloc_new (W1.alloc (.cells #[.slice aa (xa.map PC.p).length ca] 22)) (.cells #[.slice ab (xb.map PC.p).length cb] 22)
  have f3 := heap_alloc_new ((W1.alloc (.cells #[.slice aa (xa.map PC.p).length ca] 22)).alloc (.cells #[.slice ab (xb.map PC.p).length cb] 22)) (.cells #[.func (.func 33) #[] #[]] 52)
  have g1 : W.heap[W1.heap.size]? = some (.cells #[.slice aa (xa.map PC.p).length ca] 22 (0, 0)) := by
    rw [hW.block _ (by omega), Below.heap_alloc _ _ _ (by omega), Below.heap_alloc _ _ _ (by omega)]; exact f1
  have g2 : W.heap[W1.heap.size + 1]? = some (.cells #[.slice ab (xb.map PC.p).length cb] 22 (0, 0)) := by
    rw [hW.block _ (by omega), Below.heap_alloc _ _ _ (by omega), ← e1]; exact f2
  have g3 : W.heap[W1.heap.size + 2]? = some (.cells #[.func (.func 33) #[] #[]] 52 (0, 0)) := by
    rw [hW.block _ (by omega)]
    have : W1.heap.size + 2 = ((W1.alloc (.cells #[.slice aa (xa.map PC.p).length ca] 22)).alloc (.cells #[.slice ab (xb.map PC.p).length cb] 22)).heap.size := by omega
    rw [this]; exact f3
  have hz1 := hb1.size
  have hkw : ∀ x, x < w.heap.size → W.heap[x]? = w.heap[x]? := fun x hx => by
    rw [hW.block _ (by omega), Below.heap_alloc _ _ _ (by omega), Below.heap_alloc _ _ _ (by omega), Below.heap_alloc _ _ _ (by omega)]; exact hb1.block x hx
  have hs : ∀ x, S x → x < n0 ∧ x ≠ vx := fun x hx => by have := hS x hx; exact ⟨by omega, by omega⟩
  have ha : RdR W S aa ca ba oa xa := ⟨hha, fun j hj => by
    have hSb : S ba := (hla j (by rw [List.length_map]; exact hj)).1
    exact (World.cell?_of_block (w := w) (a := ⟨ba, oa + j, none⟩) (hkw _ (hS _ hSb))).trans (hxa j hj), fun h0 => (hla 0 (by rw [List.length_map]; exact h0)).1⟩
  have hb : RdR W S ab cb bb ob xb := ⟨hhb, fun j hj => by
    have hSb : S bb := (hlb j (by rw [List.length_map]; exact hj)).1
    exact (World.cell?_of_block (w := w) (a := ⟨bb, ob + j, none⟩) (hkw _ (hS _ hSb))).trans (hxb j hj), fun h0 => (hlb 0 (by rw [List.length_map]; exact h0)).1⟩
  have := walkM_seq (T := S) xa xb rfl (wkL PC.cmp tM xa xb).attach (by simp) n n0 vx W1.heap.size (W1.heap.size + 1) (W1.heap.size + 2) ca ba oa cb bb ob aa ab W (by rw [cell_of_block g1, List.length_map]; rfl) (by rw [cell_of_block g2, List.length_map]; rfl) (by rw [cell_of_block g3]; rfl) (by omega) (by omega) (by omega) (by omega) (by omega) (by omega) h3 ha hb hs (fun _ h => h) (fun x hx => hkw x (hS x hx)) (by omega) (by omega)
  rw [List.length_attach] at this
  exact this
set_option maxHeartbeats 8000000 in
set_option maxRecDepth 100000 in
theorem joinedM_any (a b : List (List El)) (S : Nat → Prop) (aa : Option Addr) (ca ba oa : Nat) (ab : Option Addr) (cb bb ob : Nat) (w : World) (tb : Tb w) (hha : Headed aa a.length ca ba oa) (hla : liesQ w S a ba oa) (hhb : Headed ab b.length cb bb ob) (hlb : liesQ w S b bb ob) (hS : ∀ b, S b → b < w.heap.size) (hwa : BqL a) (hwb : BqL b) :
    Calls Tryz.prog 31 #[.slice aa a.length ca, .slice ab b.length cb, .func (.func 33) #[] #[]] w (BwPost (joL tM a b) (errJ a b) S w) := by
  have c1 := hmk (both_any a b S aa ca ba oa ab cb bb ob w tb hha hla hhb hlb hS hwa hwb)
  by_cases h0 : errJ a b = 0
  case neg =>
    clear hla hlb tb
    have y1 : (((errJ a b : Nat) : Int) != 0) = true := by rw [bne_iff_ne]; omega
    have HE : Hid (joL tM a b = []) := by show _ = _; rw [joL, if_neg h0]
    generalize joL tM a b = RB at *
    generalize errJ a b = Es at *
    clear h0
    go_enter Tryz.func31, Tryz.ntmps31
    go_wp2_with fail
    refine c1.out.mono ?_
    rintro e w1 ⟨rfl, b1⟩
    go_wp2_with fail
    go_ret2
    rw [HE.out]
    exact bw_nil b1 rfl
  have y1 : (((errJ a b : Nat) : Int) != 0) = false := by rw [h0]; rfl
  have HZ := setC_zero (errJ_zero h0).1
  have HZB := setC_zero (errJ_zero h0).2
  have HE : Hid (errJ a b = 0 ∧ joL tM a b = wkL (lexL oeE) tM a b) := ⟨h0, by rw [joL, if_pos h0]⟩
  have CX : Hid (∀ W1, Below w.heap.size w W1 → Calls Tryz.prog 44 #[.func (.func 56) #[] #[.pointer (some ⟨W1.heap.size, 0, none⟩), .pointer (some ⟨W1.heap.size + 1, 0, none⟩), .pointer (some ⟨W1.heap.size + 2, 0, none⟩)]] (((W1.alloc (.cells #[.slice aa a.length ca] 22)).alloc (.cells #[.slice ab b.length cb] 22)).alloc (.cells #[.func (.func 33) #[] #[]] 52)) (CopPost (joL tM a b) (((W1.alloc (.cells #[.slice aa a.length ca] 22)).alloc (.cells #[.slice ab b.length cb] 22)).alloc (.cells #[.func (.func 33) #[] #[]] 52)))) := fun W1 hb1 => by
    obtain ⟨zs, hzs, hseq⟩ := seqsM_any a b S aa ca ba oa ab cb bb ob w hha hla hhb hlb hS hwa hwb
    rw [HE.out.2, ← hzs]
    have e1 := alloc_size W1 (.cells #[.slice aa a.length ca] 22)
    have e2 := alloc_size (W1.alloc (.cells #[.slice aa a.length ca] 22)) (.cells #[.slice ab b.length cb] 22)
    have e3 := alloc_size ((W1.alloc (.cells #[.slice aa a.length ca] 22)).alloc (.cells #[.slice ab b.length cb] 22)) (.cells #[.func (.func 33) #[] #[]] 52)
    have hz1 := hb1.size
    have hwa1 := hwa.1
    have hwb1 := hwb.1
    have hmem : ∀ x ∈ zs, x.p ∈ a ∨ x.p ∈ b := fun x hx => wk_mem _ _ _ _ _ (hzs ▸ List.mem_map_of_mem hx)
    refine copied_any hS 56 _ zs _ (((hb1.alloc (by omega) _).alloc (by omega) _).alloc (by omega) _) (fun x hx => (hmem x hx).elim (HZ.1 _) (HZB.1 _)) (fun x hx => (hmem x hx).elim (fun h => hwa.2 _ h) (fun h => hwb.2 _ h)) ?_ (enters_of Tryz.func56 (by kernel_rfl) rfl) (fun W hW hz => ?_)
    · have := wk_len (lexL oeE) tM a b
      rw [← hzs, List.length_map] at this
      omega
    · exact hseq W1 hb1 (3 - 1) _ _ W hW (by omega) (by omega) hz
  clear hla hlb tb HZ HZB
  generalize joL tM a b = RB at *
  generalize errJ a b = Es at *
  clear h0
  go_enter Tryz.func31, Tryz.ntmps31
  go_wp2_with fail
  refine c1.out.mono ?_
  rintro e w1 ⟨rfl, b1⟩
  have cX := hmk (CX.out w1 b1)
  have hz1 := b1.size
  have e1 := alloc_size w1 (.cells #[.slice aa a.length ca] 22)
  have e2 := alloc_size (w1.alloc (.cells #[.slice aa a.length ca] 22)) (.cells #[.slice ab b.length cb] 22)
  have B3 : Below w.heap.size w (((w1.alloc (.cells #[.slice aa a.length ca] 22)).alloc (.cells #[.slice ab b.length cb] 22)).alloc (.cells #[.func (.func 33) #[] #[]] 52)) := ((b1.alloc (by omega) _).alloc (by omega) _).alloc (by omega) _
  have WK := hmk (walk_any aa a.length ca ab b.length cb 33 w1)
  clear CX c1
  generalize (((w1.alloc (.cells #[.slice aa a.length ca] 22)).alloc (.cells #[.slice ab b.length cb] 22)).alloc (.cells #[.func (.func 33) #[] #[]] 52)) = w3 at *
  go_wp2_with fail
  refine WK.out.mono ?_
  rintro e w2 ⟨rfl, rfl⟩
  clear WK
  go_wp2_with fail
  refine cX.out.mono ?_
  rintro e w4 ⟨sa, sc, sb, so, rfl, hd, hls, b4⟩
  have HHd := hmk hd
  have HLs := hmk hls
  clear hd hls
  go_wp2_with fail
  go_ret2
  exact ⟨sa, sc, sb, so, by rw [HE.out.1]; rfl, HHd.out, liesQ_keep (fun _ _ => rfl) (fun x hx => .inr ⟨Nat.le_trans B3.size hx.1, hx.2⟩) HLs.out, B3.trans (b4.mono B3.size)⟩
set_option maxHeartbeats 4000000 in
theorem meet_any (a b : List (List El)) (S : Nat → Prop) (aa : Option Addr) (ca ba oa : Nat) (ab : Option Addr) (cb bb ob : Nat) (w : World) (tb : Tb w) (hha : Headed aa a.length ca ba oa) (hla : liesQ w S a ba oa) (hhb : Headed ab b.length cb bb ob) (hlb : liesQ w S b bb ob) (hS : ∀ b, S b → b < w.heap.size) (hwa : BqL a) (hwb : BqL b) :
    Calls Tryz.prog 10 #[.slice aa a.length ca, .slice ab b.length cb] w (BwPost (joL tM a b) (errJ a b) S w) := by
  have c1 := hmk (joinedM_any a b S aa ca ba oa ab cb bb ob w tb hha hla hhb hlb hS hwa hwb)
  clear hla hlb tb
  generalize joL tM a b = RB at *
  generalize errJ a b = Es at *
  go_enter Tryz.func10, Tryz.ntmps10
  go_wp2_with fail
  refine c1.out.mono ?_
  rintro e w1 ⟨sa, sc, sb, so, rfl, hd, hl, b1⟩
  have H1 := hmk (And.intro hd hl)
  clear hd hl
  go_wp2_with fail
  go_ret2
  exact ⟨sa, sc, sb, so, rfl, H1.out.1, H1.out.2, b1⟩
end Go.Proofs.YthlhkhcbkgbhfaaGreatDoor
