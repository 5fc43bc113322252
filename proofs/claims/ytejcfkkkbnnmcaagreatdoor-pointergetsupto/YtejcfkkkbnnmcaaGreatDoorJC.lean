/- joined: WlkC NweA RdyA TokP GetB -/
import Derived.Test.YtejcfkkkbnnmcaaGreatDoorWlkB
import Derived.Test.YtejcfkkkbnnmcaaGreatDoorTopV
import Derived.LoopN
/- pointer.walk; the function that Get hands to it. -/
set_option linter.unusedSimpArgs false
set_option linter.unusedVariables false
namespace Go.Proofs.YtejcfkkkbnnmcaaGreatDoor
open Go.RowKit Go.Lib

theorem walk_any (f : Nat) (cap : Value) (F : V → V × Int) (S : Nat → Prop) (G : Nat) (D : V → World → World → Prop) (eg : ∀ args w, (callFunc f args).run Tryz.prog w = .ok (.enter f args) w) (hSG : ¬ S G) :
    ∀ (ts : List ByteArray), (∀ t ∈ ts, t.size ≤ 281474976710656) → ts.length ≤ 4000000 → ∀ (v : V) (cs : List Value) (tv : Value) (w : World), Tg w → v.lies false w S cs → (∀ b, S b → b < w.heap.size) → G < w.heap.size → v.wt ≤ 1114112 → allG v → TokAt w tv ts → DoC f cap F S G D w →
    Calls Tryz.prog 14 #[.agg cs.toArray, tv, .func (.func f) #[] #[cap]] w (WkPost (wkV F v ts) S G D w)
  | [], _, _, v, cs, tv, w, _, hv, hS, hG, hwt, _, ht, hd => walk_nil f cap F S G D eg v cs tv w hv hS hG hwt ht hd
  | t :: ts, hk, hl, v, cs, tv, w, tg, hv, hS, hG, hwt, ha, ht, hd =>
    walk_cons f cap F S G D eg t ts (walk_any f cap F S G D eg hSG ts (fun t' h => hk t' (List.mem_cons_of_mem _ h)) (by simp only [List.length_cons] at hl; omega)) v cs tv w tg hv hS hSG hG hwt ha ht (hk t List.mem_cons_self) (by simp only [List.length_cons] at hl; omega) hd

/-- what Get's function leaves: what was found, in the captured box -/
def Got (S : Nat → Prop) (G : Nat) (x : V) (W0 W1 : World) : Prop := ∃ cs : List Value, rowAt W1 G 0 cs ∧ x.lies false W1 S cs
theorem get_end {S : Nat → Prop} {W W0 : World} {G : Nat} {x : V} {c0 c1 c2 c3 c4 c5 : Value} (hS : ∀ b, S b → b < W.heap.size) (hSG : ¬ S G) (hG : G < W.heap.size) (B0 : Below W.heap.size W W0) (hz : W0.heap.size = W.heap.size + 2) (hb : W0.heap[G]? = some (.cells #[.int .i64 0, .bool false, .int .i64 0, .string ⟨#[]⟩, .slice none 0 0, .slice none 0 0] 25)) (hx : x.lies false W S [c0, c1, c2, c3, c4, c5]) :
    x.lies false ((((((((((((W0.setCell ⟨G, 0, none⟩ c0).setCell ⟨G, 1, none⟩ c1).setCell ⟨G, 2, none⟩ c2).setCell ⟨G, 3, none⟩ c3).setCell ⟨G, 4, none⟩ c4).setCell ⟨G, 5, none⟩ c5).setCell ⟨W.heap.size + 1, 0, none⟩ c0).setCell ⟨W.heap.size + 1, 1, none⟩ c1).setCell ⟨W.heap.size + 1, 2, none⟩ c2).setCell ⟨W.heap.size + 1, 3, none⟩ c3).setCell ⟨W.heap.size + 1, 4, none⟩ c4).setCell ⟨W.heap.size + 1, 5, none⟩ c5) (OrNew S W ((((((((((((W0.setCell ⟨G, 0, none⟩ c0).setCell ⟨G, 1, none⟩ c1).setCell ⟨G, 2, none⟩ c2).setCell ⟨G, 3, none⟩ c3).setCell ⟨G, 4, none⟩ c4).setCell ⟨G, 5, none⟩ c5).setCell ⟨W.heap.size + 1, 0, none⟩ c0).setCell ⟨W.heap.size + 1, 1, none⟩ c1).setCell ⟨W.heap.size + 1, 2, none⟩ c2).setCell ⟨W.heap.size + 1, 3, none⟩ c3).setCell ⟨W.heap.size + 1, 4, none⟩ c4).setCell ⟨W.heap.size + 1, 5, none⟩ c5)) [c0, c1, c2, c3, c4, c5] ∧ W.grownBy ((((((((((((W0.setCell ⟨G, 0, none⟩ c0).setCell ⟨G, 1, none⟩ c1).setCell ⟨G, 2, none⟩ c2).setCell ⟨G, 3, none⟩ c3).setCell ⟨G, 4, none⟩ c4).setCell ⟨G, 5, none⟩ c5).setCell ⟨W.heap.size + 1, 0, none⟩ c0).setCell ⟨W.heap.size + 1, 1, none⟩ c1).setCell ⟨W.heap.size + 1, 2, none⟩ c2).setCell ⟨W.heap.size + 1, 3, none⟩ c3).setCell ⟨W.heap.size + 1, 4, none⟩ c4).setCell ⟨W.heap.size + 1, 5, none⟩ c5) (some G) ∧ Got S G x W ((((((((((((W0.setCell ⟨G, 0, none⟩ c0).setCell ⟨G, 1, none⟩ c1).setCell ⟨G, 2, none⟩ c2).setCell ⟨G, 3, none⟩ c3).setCell ⟨G, 4, none⟩ c4).setCell ⟨G, 5, none⟩ c5).setCell ⟨W.heap.size + 1, 0, none⟩ c0).setCell ⟨W.heap.size + 1, 1, none⟩ c1).setCell ⟨W.heap.size + 1, 2, none⟩ c2).setCell ⟨W.heap.size + 1, 3, none⟩ c3).setCell ⟨W.heap.size + 1, 4, none⟩ c4).setCell ⟨W.heap.size + 1, 5, none⟩ c5) := by
  obtain ⟨arr', e1, e2, _, e4, e5, e6⟩ := set6_row (o := 0) hb (by decide) c0 c1 c2 c3 c4 c5
  have gg : W0.grownBy ((((((W0.setCell ⟨G, 0, none⟩ c0).setCell ⟨G, 1, none⟩ c1).setCell ⟨G, 2, none⟩ c2).setCell ⟨G, 3, none⟩ c3).setCell ⟨G, 4, none⟩ c4).setCell ⟨G, 5, none⟩ c5) (some G) := grown_set (grown_set (grown_set (grown_set (grown_set (grown_set (World.grownBy.refl W0 _) 0 c0) 1 c1) 2 c2) 3 c3) 4 c4) 5 c5
  simp only [Nat.zero_add] at e1 e4 e5 e6
  generalize ((((((W0.setCell ⟨G, 0, none⟩ c0).setCell ⟨G, 1, none⟩ c1).setCell ⟨G, 2, none⟩ c2).setCell ⟨G, 3, none⟩ c3).setCell ⟨G, 4, none⟩ c4).setCell ⟨G, 5, none⟩ c5) = W7 at *
  have hot : ∀ x, x ≠ W.heap.size + 1 → ((((((W7.setCell ⟨W.heap.size + 1, 0, none⟩ c0).setCell ⟨W.heap.size + 1, 1, none⟩ c1).setCell ⟨W.heap.size + 1, 2, none⟩ c2).setCell ⟨W.heap.size + 1, 3, none⟩ c3).setCell ⟨W.heap.size + 1, 4, none⟩ c4).setCell ⟨W.heap.size + 1, 5, none⟩ c5).heap[x]? = W7.heap[x]? := fun x hx => by
    repeat (rw [set_other hx])
  have g2 : W7.grownBy ((((((W7.setCell ⟨W.heap.size + 1, 0, none⟩ c0).setCell ⟨W.heap.size + 1, 1, none⟩ c1).setCell ⟨W.heap.size + 1, 2, none⟩ c2).setCell ⟨W.heap.size + 1, 3, none⟩ c3).setCell ⟨W.heap.size + 1, 4, none⟩ c4).setCell ⟨W.heap.size + 1, 5, none⟩ c5) (some (W.heap.size + 1)) := grown_set (grown_set (grown_set (grown_set (grown_set (grown_set (World.grownBy.refl W7 _) 0 c0) 1 c1) 2 c2) 3 c3) 4 c4) 5 c5
  generalize ((((((W7.setCell ⟨W.heap.size + 1, 0, none⟩ c0).setCell ⟨W.heap.size + 1, 1, none⟩ c1).setCell ⟨W.heap.size + 1, 2, none⟩ c2).setCell ⟨W.heap.size + 1, 3, none⟩ c3).setCell ⟨W.heap.size + 1, 4, none⟩ c4).setCell ⟨W.heap.size + 1, 5, none⟩ c5) = wf at *
  have s1 := gg.size
  have s2 := g2.size
  have key : ∀ b, b < W.heap.size → b ≠ G → wf.heap[b]? = W.heap[b]? := fun b h1 h2 => (hot b (by omega)).trans ((e5 b h2).trans (B0.block b h1))
  have hl : x.lies false wf S [c0, c1, c2, c3, c4, c5] := V.lies_keep (fun h => h) (fun b hb => key b (hS b hb) (fun e => hSG (e ▸ hb))) (fun _ h => h) _ hx
  refine ⟨V.lies_keep (fun h => h) (fun _ _ => rfl) (fun b hb => .inl hb) _ hl, ⟨g2.os.trans (gg.os.trans B0.os), g2.tape.trans (gg.tape.trans B0.tape), g2.output.trans (gg.output.trans B0.output), by omega, fun k hk hne => key k hk (fun e => hne (by rw [e]))⟩, [c0, c1, c2, c3, c4, c5], e4.keep (hot G (by omega)), hl⟩
set_option maxHeartbeats 1600000 in
set_option maxRecDepth 100000 in
theorem getdo (S : Nat → Prop) (G : Nat) (w : World) (hS : ∀ b, S b → b < w.heap.size) (hSG : ¬ S G) (hG : G < w.heap.size) (hbox : w.heap[G]? = some (.cells #[.int .i64 0, .bool false, .int .i64 0, .string ⟨#[]⟩, .slice none 0 0, .slice none 0 0] 25)) : DoC 15 (.pointer (some ⟨G, 0, none⟩)) (fun x => (x, 0)) S G (Got S G) w := by
  intro W x cs hb hwx hx
  clear hwx
  have HV := hmk hx
  have hGW : W.heap[G]? = _ := (hb.block G hG).trans hbox
  have hzW := hb.size
  obtain ⟨k, b, i, s, al, nl, cl, am, nm, cm, rfl⟩ := V.ten hx
  clear hx
  have B0 : Below W.heap.size W ((W.alloc (.cells #[.int .i64 k, .bool b, .int .i64 i, .string s, .slice al nl cl, .slice am nm cm] 25)).alloc (.cells #[.int .i64 0, .bool false, .int .i64 0, .string ⟨#[]⟩, .slice none 0 0, .slice none 0 0] 25)) := two_below W _ _
  have hG2 := (B0.block G (by omega)).trans hGW
  have c0 := cell_of_block hG2 0
  have c1 := cell_of_block hG2 1
  have c2 := cell_of_block hG2 2
  have c3 := cell_of_block hG2 3
  have c4 := cell_of_block hG2 4
  have c5 := cell_of_block hG2 5
  have fG := frozen_of_block hG2
  have n0 : ¬ G = W.heap.size := by omega
  have n1 : ¬ G = W.heap.size + 1 := by omega
  go_enter Tryz.func15, Tryz.ntmps15
  go_wp2_with fail
  have h1 := alloc2_new W (.cells #[.int .i64 k, .bool b, .int .i64 i, .string s, .slice al nl cl, .slice am nm cm] 25) (.cells #[.int .i64 0, .bool false, .int .i64 0, .string ⟨#[]⟩, .slice none 0 0, .slice none 0 0] 25)
  have z0 : ((W.alloc (.cells #[.int .i64 k, .bool b, .int .i64 i, .string s, .slice al nl cl, .slice am nm cm] 25)).alloc (.cells #[.int .i64 0, .bool false, .int .i64 0, .string ⟨#[]⟩, .slice none 0 0, .slice none 0 0] 25)).cell? ⟨W.heap.size + 1, 0, none⟩ = some (.int .i64 0) := by rw [cell_of_block h1]; rfl
  have z1 : ((W.alloc (.cells #[.int .i64 k, .bool b, .int .i64 i, .string s, .slice al nl cl, .slice am nm cm] 25)).alloc (.cells #[.int .i64 0, .bool false, .int .i64 0, .string ⟨#[]⟩, .slice none 0 0, .slice none 0 0] 25)).cell? ⟨W.heap.size + 1, 1, none⟩ = some (.bool false) := by rw [cell_of_block h1]; rfl
  have z2 : ((W.alloc (.cells #[.int .i64 k, .bool b, .int .i64 i, .string s, .slice al nl cl, .slice am nm cm] 25)).alloc (.cells #[.int .i64 0, .bool false, .int .i64 0, .string ⟨#[]⟩, .slice none 0 0, .slice none 0 0] 25)).cell? ⟨W.heap.size + 1, 2, none⟩ = some (.int .i64 0) := by rw [cell_of_block h1]; rfl
  have z3 : ((W.alloc (.cells #[.int .i64 k, .bool b, .int .i64 i, .string s, .slice al nl cl, .slice am nm cm] 25)).alloc (.cells #[.int .i64 0, .bool false, .int .i64 0, .string ⟨#[]⟩, .slice none 0 0, .slice none 0 0] 25)).cell? ⟨W.heap.size + 1, 3, none⟩ = some (.string ⟨#[]⟩) := by rw [cell_of_block h1]; rfl
  have z4 : ((W.alloc (.cells #[.int .i64 k, .bool b, .int .i64 i, .string s, .slice al nl cl, .slice am nm cm] 25)).alloc (.cells #[.int .i64 0, .bool false, .int .i64 0, .string ⟨#[]⟩, .slice none 0 0, .slice none 0 0] 25)).cell? ⟨W.heap.size + 1, 4, none⟩ = some (.slice none 0 0) := by rw [cell_of_block h1]; rfl
  have z5 : ((W.alloc (.cells #[.int .i64 k, .bool b, .int .i64 i, .string s, .slice al nl cl, .slice am nm cm] 25)).alloc (.cells #[.int .i64 0, .bool false, .int .i64 0, .string ⟨#[]⟩, .slice none 0 0, .slice none 0 0] 25)).cell? ⟨W.heap.size + 1, 5, none⟩ = some (.slice none 0 0) := by rw [cell_of_block h1]; rfl
  clear h1
  have HE := hmk (get_end (c0 := .int .i64 k) (c1 := .bool b) (c2 := .int .i64 i) (c3 := .string s) (c4 := .slice al nl cl) (c5 := .slice am nm cm) (fun y hy => Nat.lt_of_lt_of_le (hS y hy) hzW) hSG (Nat.lt_of_lt_of_le hG hzW) B0 (by rw [alloc_size, alloc_size]) hG2 HV.out)
  generalize ((W.alloc (.cells #[.int .i64 k, .bool b, .int .i64 i, .string s, .slice al nl cl, .slice am nm cm] 25)).alloc (.cells #[.int .i64 0, .bool false, .int .i64 0, .string ⟨#[]⟩, .slice none 0 0, .slice none 0 0] 25)) = W0 at *
  (try simp only [Exit.inBlock, Exit.then])
  refine bodyPost_ret (v := .tuple #[.agg #[.int .i64 k, .bool b, .int .i64 i, .string s, .slice al nl cl, .slice am nm cm], .int .i64 0]) ?_ rfl ?_
  rotate_left
  · exact ⟨[.int .i64 k, .bool b, .int .i64 i, .string s, .slice al nl cl, .slice am nm cm], rfl, HE.out.1, HE.out.2.1, HE.out.2.2⟩
  · rw [results_cell_tmp rfl]
    go_simp
end Go.Proofs.YtejcfkkkbnnmcaaGreatDoor

/- pointer's anew. -/
set_option linter.unusedSimpArgs false
set_option linter.unusedVariables false
namespace Go.Proofs.YtejcfkkkbnnmcaaGreatDoor
open Go.RowKit Go.Lib

def nweF (v : V) (e : Int) : V × Int := if e = 0 then (if chkE v 40 = 0 then (v, 0) else (nullV, (chkE v 40 : Int))) else (nullV, e)
def NwPost (p : V × Int) (w : World) (e : Ending) (w' : World) : Prop := ∃ cs : List Value, e = .returned (.tuple #[.agg cs.toArray, .int .i64 p.2]) ∧ p.1.lies false w' (New w w') cs ∧ Below w.heap.size w w'
set_option maxHeartbeats 1600000 in
set_option maxRecDepth 100000 in
theorem nwe_any (v : V) (er : Int) (S : Nat → Prop) (cs : List Value) (w : World) (tb : Tb w) (hv : v.lies false w S cs) (hS : ∀ b, S b → b < w.heap.size) (hwt : v.wt ≤ 1099511627776) : Calls Tryz.prog 16 #[.agg cs.toArray, .int .i64 er] w (NwPost (nweF v er) w) := by
  have HV := hmk hv
  obtain ⟨k, b, i, s, al, nl, cl, am, nm, cm, rfl⟩ := V.ten hv
  clear hv
  have B0 : Below w.heap.size w ((w.alloc (.cells #[.int .i64 k, .bool b, .int .i64 i, .string s, .slice al nl cl, .slice am nm cm] 25)).alloc (.cells #[.int .i64 0, .bool false, .int .i64 0, .string ⟨#[]⟩, .slice none 0 0, .slice none 0 0] 25)) := two_below w _ _
  have hz0 : ((w.alloc (.cells #[.int .i64 k, .bool b, .int .i64 i, .string s, .slice al nl cl, .slice am nm cm] 25)).alloc (.cells #[.int .i64 0, .bool false, .int .i64 0, .string ⟨#[]⟩, .slice none 0 0, .slice none 0 0] 25)).heap.size = w.heap.size + 2 := by rw [alloc_size, alloc_size]
  have h0 := alloc2_keep1 w (.cells #[.int .i64 k, .bool b, .int .i64 i, .string s, .slice al nl cl, .slice am nm cm] 25) (.cells #[.int .i64 0, .bool false, .int .i64 0, .string ⟨#[]⟩, .slice none 0 0, .slice none 0 0] 25)
  have h1 := alloc2_new w (.cells #[.int .i64 k, .bool b, .int .i64 i, .string s, .slice al nl cl, .slice am nm cm] 25) (.cells #[.int .i64 0, .bool false, .int .i64 0, .string ⟨#[]⟩, .slice none 0 0, .slice none 0 0] 25)
  have HC : Hid (∀ W, Below w.heap.size w W → Calls Tryz.prog 23 #[.agg #[.int .i64 k, .bool b, .int .i64 i, .string s, .slice al nl cl, .slice am nm cm], .int .i64 40] W (NPost (chkE v 40) W)) := fun W hb => check_any false v 40 S _ W (tb.below hb tb.z) (lies_below HV.out hS hb) (fun x hx => Nat.lt_of_lt_of_le (hS x hx) hb.size) hwt
  have HL : Hid (∀ W, Below w.heap.size w W → Calls Tryz.prog 28 #[.agg #[.int .i64 k, .bool b, .int .i64 i, .string s, .slice al nl cl, .slice am nm cm]] W (AnPost (clnV v) W)) := fun W hb => clone_any v false S _ W (tb.below hb tb.z) (lies_below HV.out hS hb) (fun x hx => Nat.lt_of_lt_of_le (hS x hx) hb.size) hwt
  have HW : Hid (nweF v er = if er = 0 then (if chkE v 40 = 0 then (v, (0 : Int)) else (nullV, (chkE v 40 : Int))) else (nullV, er)) := by show _ = _; rfl
  have HO : Hid (chkE v 40 = 0 → clnV v = v) := fun h => by
    rw [chkE40] at h
    rw [clnV, if_pos (by simp [okV, h])]
  clear tb hwt
  generalize nweF v er = NF at *
  generalize chkE v 40 = ce at *
  have r0 : ((w.alloc (.cells #[.int .i64 k, .bool b, .int .i64 i, .string s, .slice al nl cl, .slice am nm cm] 25)).alloc (.cells #[.int .i64 0, .bool false, .int .i64 0, .string ⟨#[]⟩, .slice none 0 0, .slice none 0 0] 25)).cell? ⟨w.heap.size, 0, none⟩ = some (.int .i64 k) := by rw [cell_of_block h0]; rfl
  have r1 : ((w.alloc (.cells #[.int .i64 k, .bool b, .int .i64 i, .string s, .slice al nl cl, .slice am nm cm] 25)).alloc (.cells #[.int .i64 0, .bool false, .int .i64 0, .string ⟨#[]⟩, .slice none 0 0, .slice none 0 0] 25)).cell? ⟨w.heap.size, 1, none⟩ = some (.bool b) := by rw [cell_of_block h0]; rfl
  have r2 : ((w.alloc (.cells #[.int .i64 k, .bool b, .int .i64 i, .string s, .slice al nl cl, .slice am nm cm] 25)).alloc (.cells #[.int .i64 0, .bool false, .int .i64 0, .string ⟨#[]⟩, .slice none 0 0, .slice none 0 0] 25)).cell? ⟨w.heap.size, 2, none⟩ = some (.int .i64 i) := by rw [cell_of_block h0]; rfl
  have r3 : ((w.alloc (.cells #[.int .i64 k, .bool b, .int .i64 i, .string s, .slice al nl cl, .slice am nm cm] 25)).alloc (.cells #[.int .i64 0, .bool false, .int .i64 0, .string ⟨#[]⟩, .slice none 0 0, .slice none 0 0] 25)).cell? ⟨w.heap.size, 3, none⟩ = some (.string s) := by rw [cell_of_block h0]; rfl
  have r4 : ((w.alloc (.cells #[.int .i64 k, .bool b, .int .i64 i, .string s, .slice al nl cl, .slice am nm cm] 25)).alloc (.cells #[.int .i64 0, .bool false, .int .i64 0, .string ⟨#[]⟩, .slice none 0 0, .slice none 0 0] 25)).cell? ⟨w.heap.size, 4, none⟩ = some (.slice al nl cl) := by rw [cell_of_block h0]; rfl
  have r5 : ((w.alloc (.cells #[.int .i64 k, .bool b, .int .i64 i, .string s, .slice al nl cl, .slice am nm cm] 25)).alloc (.cells #[.int .i64 0, .bool false, .int .i64 0, .string ⟨#[]⟩, .slice none 0 0, .slice none 0 0] 25)).cell? ⟨w.heap.size, 5, none⟩ = some (.slice am nm cm) := by rw [cell_of_block h0]; rfl
  have z0 : ((w.alloc (.cells #[.int .i64 k, .bool b, .int .i64 i, .string s, .slice al nl cl, .slice am nm cm] 25)).alloc (.cells #[.int .i64 0, .bool false, .int .i64 0, .string ⟨#[]⟩, .slice none 0 0, .slice none 0 0] 25)).cell? ⟨w.heap.size + 1, 0, none⟩ = some (.int .i64 0) := by rw [cell_of_block h1]; rfl
  have z1 : ((w.alloc (.cells #[.int .i64 k, .bool b, .int .i64 i, .string s, .slice al nl cl, .slice am nm cm] 25)).alloc (.cells #[.int .i64 0, .bool false, .int .i64 0, .string ⟨#[]⟩, .slice none 0 0, .slice none 0 0] 25)).cell? ⟨w.heap.size + 1, 1, none⟩ = some (.bool false) := by rw [cell_of_block h1]; rfl
  have z2 : ((w.alloc (.cells #[.int .i64 k, .bool b, .int .i64 i, .string s, .slice al nl cl, .slice am nm cm] 25)).alloc (.cells #[.int .i64 0, .bool false, .int .i64 0, .string ⟨#[]⟩, .slice none 0 0, .slice none 0 0] 25)).cell? ⟨w.heap.size + 1, 2, none⟩ = some (.int .i64 0) := by rw [cell_of_block h1]; rfl
  have z3 : ((w.alloc (.cells #[.int .i64 k, .bool b, .int .i64 i, .string s, .slice al nl cl, .slice am nm cm] 25)).alloc (.cells #[.int .i64 0, .bool false, .int .i64 0, .string ⟨#[]⟩, .slice none 0 0, .slice none 0 0] 25)).cell? ⟨w.heap.size + 1, 3, none⟩ = some (.string ⟨#[]⟩) := by rw [cell_of_block h1]; rfl
  have z4 : ((w.alloc (.cells #[.int .i64 k, .bool b, .int .i64 i, .string s, .slice al nl cl, .slice am nm cm] 25)).alloc (.cells #[.int .i64 0, .bool false, .int .i64 0, .string ⟨#[]⟩, .slice none 0 0, .slice none 0 0] 25)).cell? ⟨w.heap.size + 1, 4, none⟩ = some (.slice none 0 0) := by rw [cell_of_block h1]; rfl
  have z5 : ((w.alloc (.cells #[.int .i64 k, .bool b, .int .i64 i, .string s, .slice al nl cl, .slice am nm cm] 25)).alloc (.cells #[.int .i64 0, .bool false, .int .i64 0, .string ⟨#[]⟩, .slice none 0 0, .slice none 0 0] 25)).cell? ⟨w.heap.size + 1, 5, none⟩ = some (.slice none 0 0) := by rw [cell_of_block h1]; rfl
  by_cases her : er = 0
  · subst her
    go_enter Tryz.func16, Tryz.ntmps16
    go_wp2_with fail
    clear r0 r1 r2 r3 r4 r5 z0 z1 z2 z3 z4 z5
    generalize ((w.alloc (.cells #[.int .i64 k, .bool b, .int .i64 i, .string s, .slice al nl cl, .slice am nm cm] 25)).alloc (.cells #[.int .i64 0, .bool false, .int .i64 0, .string ⟨#[]⟩, .slice none 0 0, .slice none 0 0] 25)) = w0 at *
    refine (HC.out w0 B0).mono ?_
    rintro e w1 ⟨rfl, b1⟩
    have hz1 := b1.size
    have B1 := B0.trans (b1.mono (by omega))
    have t0 := (b1.block w.heap.size (by omega)).trans h0
    have t1 := (b1.block (w.heap.size + 1) (by omega)).trans h1
    clear h0 h1 b1
    have r0 : w1.cell? ⟨w.heap.size, 0, none⟩ = some (.int .i64 k) := by rw [cell_of_block t0]; rfl
    have r1 : w1.cell? ⟨w.heap.size, 1, none⟩ = some (.bool b) := by rw [cell_of_block t0]; rfl
    have r2 : w1.cell? ⟨w.heap.size, 2, none⟩ = some (.int .i64 i) := by rw [cell_of_block t0]; rfl
    have r3 : w1.cell? ⟨w.heap.size, 3, none⟩ = some (.string s) := by rw [cell_of_block t0]; rfl
    have r4 : w1.cell? ⟨w.heap.size, 4, none⟩ = some (.slice al nl cl) := by rw [cell_of_block t0]; rfl
    have r5 : w1.cell? ⟨w.heap.size, 5, none⟩ = some (.slice am nm cm) := by rw [cell_of_block t0]; rfl
    have z0 : w1.cell? ⟨w.heap.size + 1, 0, none⟩ = some (.int .i64 0) := by rw [cell_of_block t1]; rfl
    have z1 : w1.cell? ⟨w.heap.size + 1, 1, none⟩ = some (.bool false) := by rw [cell_of_block t1]; rfl
    have z2 : w1.cell? ⟨w.heap.size + 1, 2, none⟩ = some (.int .i64 0) := by rw [cell_of_block t1]; rfl
    have z3 : w1.cell? ⟨w.heap.size + 1, 3, none⟩ = some (.string ⟨#[]⟩) := by rw [cell_of_block t1]; rfl
    have z4 : w1.cell? ⟨w.heap.size + 1, 4, none⟩ = some (.slice none 0 0) := by rw [cell_of_block t1]; rfl
    have z5 : w1.cell? ⟨w.heap.size + 1, 5, none⟩ = some (.slice none 0 0) := by rw [cell_of_block t1]; rfl
    have rf := frozen_of_block t1
    by_cases hce : ce = 0
    · subst hce
      have HN : Hid (NF = (v, 0)) := by show _ = _; rw [HW.out]; simp
      have hcl := HL.out w1 B1
      rw [HO.out rfl] at hcl
      go_wp2_with fail
      refine hcl.mono ?_
      rintro e w2 ⟨csu, rfl, hlu, b2⟩
      obtain ⟨uk, ub, ui, us, ual, unl, ucl, uam, unm, ucm, rfl⟩ := V.ten hlu
      have hz2 := b2.size
      have B2 := B1.trans (b2.mono (by omega))
      have t2 := (b2.block (w.heap.size + 1) (by omega)).trans t1
      have HU : Hid (v.lies false w2 (From (w.heap.size + 2) w2) [.int .i64 uk, .bool ub, .int .i64 ui, .string us, .slice ual unl ucl, .slice uam unm ucm]) := V.lies_keep (fun h => h) (fun _ _ => rfl) (fun x hx => ⟨by have := hx.1; omega, hx.2⟩) _ hlu
      clear r0 r1 r2 r3 r4 r5 z0 z1 z2 z3 z4 z5 rf hlu b2 hcl t0 t1
      have z0 : w2.cell? ⟨w.heap.size + 1, 0, none⟩ = some (.int .i64 0) := by rw [cell_of_block t2]; rfl
      have z1 : w2.cell? ⟨w.heap.size + 1, 1, none⟩ = some (.bool false) := by rw [cell_of_block t2]; rfl
      have z2 : w2.cell? ⟨w.heap.size + 1, 2, none⟩ = some (.int .i64 0) := by rw [cell_of_block t2]; rfl
      have z3 : w2.cell? ⟨w.heap.size + 1, 3, none⟩ = some (.string ⟨#[]⟩) := by rw [cell_of_block t2]; rfl
      have z4 : w2.cell? ⟨w.heap.size + 1, 4, none⟩ = some (.slice none 0 0) := by rw [cell_of_block t2]; rfl
      have z5 : w2.cell? ⟨w.heap.size + 1, 5, none⟩ = some (.slice none 0 0) := by rw [cell_of_block t2]; rfl
      have rf := frozen_of_block t2
      clear t2
      go_wp2_with fail
      (try simp only [Exit.inBlock, Exit.then])
      refine bodyPost_ret (v := .tuple #[.agg #[.int .i64 uk, .bool ub, .int .i64 ui, .string us, .slice ual unl ucl, .slice uam unm ucm], .int .i64 0]) ?_ rfl ?_
      rotate_left
      · rw [HN.out]
        exact ⟨[.int .i64 uk, .bool ub, .int .i64 ui, .string us, .slice ual unl ucl, .slice uam unm ucm], rfl, V.lies_keep (fun h => h) (fun _ _ => rfl) (fun x hx => ⟨by have := hx.1; omega, hx.2⟩) _ (lies_set6A HU.out (by omega) _ _ _ _ _ _ _ _ _ _ _ _), Below.set6 B2 (by omega) _ _ _ _ _ _ _ _ _ _ _ _⟩
      · rw [results_cell_tmp rfl]
        go_simp
    · have HN : Hid (NF = (nullV, (ce : Int))) := by show _ = _; rw [HW.out]; simp [hce]
      have y1 : ¬ (ce : Int) = 0 := by omega
      clear t0 t1
      go_wp2_with fail
      (try simp only [Exit.inBlock, Exit.then])
      refine bodyPost_ret (v := .tuple #[.agg #[.int .i64 0, .bool false, .int .i64 0, .string ⟨#[]⟩, .slice none 0 0, .slice none 0 0], .int .i64 (ce : Int)]) ?_ rfl ?_
      rotate_left
      · rw [HN.out]
        exact ⟨[.int .i64 0, .bool false, .int .i64 0, .string ⟨#[]⟩, .slice none 0 0, .slice none 0 0], rfl, null_lies _ _, Below.set6 B1 (by omega) _ _ _ _ _ _ _ _ _ _ _ _⟩
      · rw [results_cell_tmp rfl]
        go_simp
  · have HN : Hid (NF = (nullV, er)) := by show _ = _; rw [HW.out, if_neg her]
    have hf := frozen_of_block h1
    go_enter Tryz.func16, Tryz.ntmps16
    go_wp2_with fail
    (try simp only [Exit.inBlock, Exit.then])
    refine bodyPost_ret (v := .tuple #[.agg #[.int .i64 0, .bool false, .int .i64 0, .string ⟨#[]⟩, .slice none 0 0, .slice none 0 0], .int .i64 er]) ?_ rfl ?_
    rotate_left
    · rw [HN.out]
      exact ⟨[.int .i64 0, .bool false, .int .i64 0, .string ⟨#[]⟩, .slice none 0 0, .slice none 0 0], rfl, null_lies _ _, two_below w _ _⟩
    · rw [results_cell_tmp rfl]
      go_simp
end Go.Proofs.YtejcfkkkbnnmcaaGreatDoor

/- pointer's ready, of a value and a pointer. -/
set_option linter.unusedSimpArgs false
set_option linter.unusedVariables false
namespace Go.Proofs.YtejcfkkkbnnmcaaGreatDoor
open Go.RowKit Go.Lib

def rdF (v : V) (p : ByteArray) : Int := if chkE v 40 = 0 then (if (parF p.data.toList).isSome then 0 else 40) else (chkE v 40 : Int)
def RdPost (v : V) (p : ByteArray) (w : World) (e : Ending) (w' : World) : Prop := ∃ (tv : Value) (l : List ByteArray), e = .returned (.tuple #[tv, .int .i64 (rdF v p)]) ∧ (rdF v p = 0 → dat l = (parF p.data.toList).getD []) ∧ (rdF v p ≠ 0 → tv = .slice none 0 0 ∧ l = []) ∧ LiesS w' tv l ∧ Below w.heap.size w w'
set_option maxHeartbeats 1600000 in
set_option maxRecDepth 100000 in
theorem ready_any (v : V) (p : ByteArray) (S : Nat → Prop) (cs : List Value) (w : World) (tb : Tb w) (tp : Tp w) (hv : v.lies false w S cs) (hS : ∀ b, S b → b < w.heap.size) (hwt : v.wt ≤ 1099511627776) (hp : p.size ≤ 1100000) : Calls Tryz.prog 13 #[.agg cs.toArray, .string p, .slice none 0 0] w (RdPost v p w) := by
  have HV := hmk hv
  obtain ⟨k, b, i, s, al, nl, cl, am, nm, cm, rfl⟩ := V.ten hv
  clear hv
  have B0 : Below w.heap.size w (w.alloc (.cells #[.int .i64 k, .bool b, .int .i64 i, .string s, .slice al nl cl, .slice am nm cm] 25)) := one_belowG w _
  have hz0 : (w.alloc (.cells #[.int .i64 k, .bool b, .int .i64 i, .string s, .slice al nl cl, .slice am nm cm] 25)).heap.size = w.heap.size + 1 := by rw [alloc_size]
  have h0 : (w.alloc (.cells #[.int .i64 k, .bool b, .int .i64 i, .string s, .slice al nl cl, .slice am nm cm] 25)).heap[w.heap.size]? = _ := heap_alloc_new w _
  have HC := hmk (check_any false v 40 S _ (w.alloc (.cells #[.int .i64 k, .bool b, .int .i64 i, .string s, .slice al nl cl, .slice am nm cm] 25)) (tb.below B0 tb.z) (lies_below HV.out hS B0) (fun x hx => Nat.lt_of_lt_of_le (hS x hx) B0.size) hwt)
  have HP : Hid (∀ W, Below w.heap.size w W → Calls Tryz.prog 24 #[.string p] W (PaPost (parF p.data.toList) W)) := fun W hb => pparse_any p W hp (tp.below hb tp.z)
  have HR : Hid (rdF v p = if chkE v 40 = 0 then (if (parF p.data.toList).isSome then 0 else 40) else (chkE v 40 : Int)) := by show _ = _; rfl
  unfold RdPost
  generalize rdF v p = rd at *
  generalize chkE v 40 = ce at *
  generalize parF p.data.toList = O at *
  clear tb tp hwt
  have r0 : (w.alloc (.cells #[.int .i64 k, .bool b, .int .i64 i, .string s, .slice al nl cl, .slice am nm cm] 25)).cell? ⟨w.heap.size, 0, none⟩ = some (.int .i64 k) := by rw [cell_of_block h0]; rfl
  have r1 : (w.alloc (.cells #[.int .i64 k, .bool b, .int .i64 i, .string s, .slice al nl cl, .slice am nm cm] 25)).cell? ⟨w.heap.size, 1, none⟩ = some (.bool b) := by rw [cell_of_block h0]; rfl
  have r2 : (w.alloc (.cells #[.int .i64 k, .bool b, .int .i64 i, .string s, .slice al nl cl, .slice am nm cm] 25)).cell? ⟨w.heap.size, 2, none⟩ = some (.int .i64 i) := by rw [cell_of_block h0]; rfl
  have r3 : (w.alloc (.cells #[.int .i64 k, .bool b, .int .i64 i, .string s, .slice al nl cl, .slice am nm cm] 25)).cell? ⟨w.heap.size, 3, none⟩ = some (.string s) := by rw [cell_of_block h0]; rfl
  have r4 : (w.alloc (.cells #[.int .i64 k, .bool b, .int .i64 i, .string s, .slice al nl cl, .slice am nm cm] 25)).cell? ⟨w.heap.size, 4, none⟩ = some (.slice al nl cl) := by rw [cell_of_block h0]; rfl
  have r5 : (w.alloc (.cells #[.int .i64 k, .bool b, .int .i64 i, .string s, .slice al nl cl, .slice am nm cm] 25)).cell? ⟨w.heap.size, 5, none⟩ = some (.slice am nm cm) := by rw [cell_of_block h0]; rfl
  go_enter Tryz.func13, Tryz.ntmps13
  go_wp2_with fail
  clear r0 r1 r2 r3 r4 r5
  generalize (w.alloc (.cells #[.int .i64 k, .bool b, .int .i64 i, .string s, .slice al nl cl, .slice am nm cm] 25)) = w0 at *
  refine HC.out.mono ?_
  rintro e w1 ⟨rfl, b1⟩
  have hz1 := b1.size
  have B1 := B0.trans (b1.mono (by omega))
  by_cases hce : ce = 0
  · subst hce
    go_wp2_with fail
    refine (HP.out w1 B1).mono ?_
    rintro e w2 ⟨tv, l, rfl, hd, hl, b2⟩
    have hz2 := b2.size
    have B2 := B1.trans (b2.mono (by omega))
    cases O with
    | none =>
      have HN : Hid (rd = 40) := by show _ = _; rw [HR.out]; simp
      go_wp2_with fail
      go_ret2
      exact ⟨_, [], by rw [HN.out]; rfl, (fun h => by rw [HN.out] at h; omega), (fun _ => ⟨rfl, rfl⟩), liesS_nil _, B2⟩
    | some o =>
      have HN : Hid (rd = 0) := by show _ = _; rw [HR.out]; simp
      go_wp2_with fail
      refine wp_loop_rounds 1 ?_
      rw [rounds_succ]
      go_wp2_with fail
      go_ret2
      exact ⟨tv, l, by rw [HN.out]; rfl, (fun _ => hd), (fun h => absurd HN.out h), hl, B2⟩
  · have HN : Hid (rd = (ce : Int)) := by show _ = _; rw [HR.out, if_neg hce]
    have y1 : ¬ (ce : Int) = 0 := by omega
    go_wp2_with fail
    go_ret2
    exact ⟨_, [], by rw [HN.out]; rfl, (fun h => by rw [HN.out] at h; omega), (fun _ => ⟨rfl, rfl⟩), liesS_nil _, B1⟩
end Go.Proofs.YtejcfkkkbnnmcaaGreatDoor

/- How long tokens are. -/
set_option linter.unusedSimpArgs false
set_option linter.unusedVariables false
namespace Go.Proofs.YtejcfkkkbnnmcaaGreatDoor
open Go.RowKit Go.Lib

theorem spl_lens (c : UInt8) : ∀ s : List UInt8, (spl c s).length ≤ s.length + 1 ∧ ∀ t ∈ spl c s, t.length ≤ s.length
  | [] => by simp [spl]
  | x :: t => by
    have ih := spl_lens c t
    rw [spl]
    split
    · refine ⟨by simp only [List.length_cons]; omega, fun u hu => ?_⟩
      rcases List.mem_cons.1 hu with rfl | hu
      · simp
      · have := ih.2 u hu; simp only [List.length_cons]; omega
    · split
      · rename_i h r e
        rw [e] at ih
        refine ⟨by simpa using Nat.le_succ_of_le ih.1, fun u hu => ?_⟩
        rcases List.mem_cons.1 hu with rfl | hu
        · have := ih.2 h List.mem_cons_self; simp only [List.length_cons]; omega
        · have := ih.2 u (List.mem_cons_of_mem _ hu); simp only [List.length_cons]; omega
      · simp
theorem une_lens (n : Nat) : ∀ (s u : List UInt8), s.length ≤ n → une s = some u → u.length ≤ s.length := by
  induction n with
  | zero =>
    intro s u h hu
    obtain rfl : s = [] := List.length_eq_zero_iff.1 (by omega)
    simp only [une, Option.some.injEq] at hu
    subst hu; simp
  | succ n ih =>
    intro s u h hu
    cases s with
    | nil => simp only [une, Option.some.injEq] at hu; subst hu; simp
    | cons x t =>
      rw [une.eq_def] at hu
      simp only at hu
      split at hu
      · cases t with
        | nil => simp at hu
        | cons y r =>
          simp only at hu
          simp only [List.length_cons] at h
          split at hu
          · obtain ⟨w, hw, rfl⟩ := Option.map_eq_some_iff.1 hu
            have := ih r w (by omega) hw
            simp only [List.length_cons]; omega
          · split at hu
            · obtain ⟨w, hw, rfl⟩ := Option.map_eq_some_iff.1 hu
              have := ih r w (by omega) hw
              simp only [List.length_cons]; omega
            · cases hu
      · simp only [List.length_cons] at h
        obtain ⟨w, hw, rfl⟩ := Option.map_eq_some_iff.1 hu
        have := ih t w (by omega) hw
        simp only [List.length_cons]; omega
theorem unes_len : ∀ (l r : List (List UInt8)) (n : Nat), (∀ t ∈ l, t.length ≤ n) → unes l = some r → r.length = l.length ∧ ∀ t ∈ r, t.length ≤ n := by
  intro l
  induction l with
  | nil => intro r n _ h; simp only [unes, Option.some.injEq] at h; subst h; simp
  | cons x t ih =>
    intro r n hl h
    rw [unes] at h
    split at h
    · cases h
    · rename_i u e1
      obtain ⟨us, e2, rfl⟩ := Option.map_eq_some_iff.1 h
      have h1 := ih us n (fun y hy => hl y (List.mem_cons_of_mem _ hy)) e2
      have h2 := une_lens x.length x u (Nat.le_refl _) e1
      have h3 := hl x List.mem_cons_self
      refine ⟨by simp [h1.1], fun y hy => ?_⟩
      rcases List.mem_cons.1 hy with rfl | hy
      · omega
      · exact h1.2 y hy
theorem tok_len {p : ByteArray} {l : List ByteArray} {o : List (List UInt8)} (h : parF p.data.toList = some o) (hd : dat l = o) : l.length ≤ p.size + 1 ∧ ∀ t ∈ l, t.size ≤ p.size := by
  have key : o.length ≤ p.data.toList.length + 1 ∧ ∀ t ∈ o, t.length ≤ p.data.toList.length := by
    cases hp : p.data.toList with
    | nil => rw [hp] at h; simp only [parF, Option.some.injEq] at h; subst h; simp
    | cons x q =>
      rw [hp] at h
      simp only [parF] at h
      split at h
      · have h1 := spl_lens 47 q
        have h2 := unes_len _ _ q.length h1.2 h
        refine ⟨by rw [h2.1]; simp only [List.length_cons]; omega, fun t ht => ?_⟩
        have := h2.2 t ht
        simp only [List.length_cons]; omega
      · cases h
  have hs : p.data.toList.length = p.size := toList_size p
  rw [hs] at key
  refine ⟨by have := congrArg List.length hd; simp only [dat, List.length_map] at this; omega, fun t ht => ?_⟩
  have := key.2 t.data.toList (by rw [← hd]; exact List.mem_map.2 ⟨t, ht, rfl⟩)
  rw [toList_size] at this
  exact this
end Go.Proofs.YtejcfkkkbnnmcaaGreatDoor

/- pointer.Get. -/
set_option linter.unusedSimpArgs false
set_option linter.unusedVariables false
namespace Go.Proofs.YtejcfkkkbnnmcaaGreatDoor
open Go.RowKit Go.Lib

/-- the tokens of a pointer -/
def toksOf (p : ByteArray) : List ByteArray := ((parF p.data.toList).getD []).map (fun t => ⟨t.toArray⟩)
theorem toks_of {l : List ByteArray} {o : List (List UInt8)} (h : dat l = o) : l = o.map (fun t => ⟨t.toArray⟩) := by
  rw [← h, dat, List.map_map]
  conv => lhs; rw [← List.map_id l]
  exact List.map_congr_left fun x _ => by simp
def getF (v : V) (p : ByteArray) : V × Int := if rdF v p = 0 then nweF ((wkV (fun x => (x, 0)) v (toksOf p)).2.2.getD nullV) (wkV (fun x => (x, 0)) v (toksOf p)).2.1 else (nullV, rdF v p)
theorem wk_wt (F : V → V × Int) : ∀ (ts : List ByteArray) (v x : V), (wkV F v ts).2.2 = some x → x.wt ≤ v.wt
  | [], v, x, h => by simp only [wkV, Option.some.injEq] at h; subst h; exact Nat.le_refl _
  | t :: ts, v, x, h => by
    rw [wkV] at h
    split at h
    · rename_i h0
      have hk := kid_wt (led_kid h0)
      have : (wkV F (kid v (ledF v t).1) ts).2.2 = some x := by
        split at h
        · exact h
        · exact h
      exact Nat.le_trans (wk_wt F ts _ x this) hk
    · cases h
theorem rd_zero {v : V} {p : ByteArray} (h : rdF v p = 0) : chkE v 40 = 0 ∧ ∃ o, parF p.data.toList = some o := by
  rw [rdF] at h
  split at h
  · rename_i h0
    refine ⟨h0, ?_⟩
    cases hx : parF p.data.toList with
    | none => rw [hx] at h; simp at h
    | some o => exact ⟨o, rfl⟩
  · omega
set_option maxHeartbeats 1600000 in
set_option maxRecDepth 100000 in
theorem get_any (v : V) (p : ByteArray) (S : Nat → Prop) (cs : List Value) (w : World) (tg : Tg w) (hv : v.lies false w S cs) (hS : ∀ b, S b → b < w.heap.size) (hwt : v.wt ≤ 1099511627776) (hp : p.size ≤ 1100000) : Calls Tryz.prog 6 #[.agg cs.toArray, .string p] w (NwPost (getF v p) w) := by
  have HV := hmk hv
  obtain ⟨k, b, i, s, al, nl, cl, am, nm, cm, rfl⟩ := V.ten hv
  clear hv
  have B0 : Below w.heap.size w ((w.alloc (.cells #[.int .i64 k, .bool b, .int .i64 i, .string s, .slice al nl cl, .slice am nm cm] 25)).alloc (.cells #[.int .i64 0, .bool false, .int .i64 0, .string ⟨#[]⟩, .slice none 0 0, .slice none 0 0] 25)) := two_below w _ _
  have hz0 : ((w.alloc (.cells #[.int .i64 k, .bool b, .int .i64 i, .string s, .slice al nl cl, .slice am nm cm] 25)).alloc (.cells #[.int .i64 0, .bool false, .int .i64 0, .string ⟨#[]⟩, .slice none 0 0, .slice none 0 0] 25)).heap.size = w.heap.size + 2 := by rw [alloc_size, alloc_size]
  have h0 := alloc2_keep1 w (.cells #[.int .i64 k, .bool b, .int .i64 i, .string s, .slice al nl cl, .slice am nm cm] 25) (.cells #[.int .i64 0, .bool false, .int .i64 0, .string ⟨#[]⟩, .slice none 0 0, .slice none 0 0] 25)
  have h1 := alloc2_new w (.cells #[.int .i64 k, .bool b, .int .i64 i, .string s, .slice al nl cl, .slice am nm cm] 25) (.cells #[.int .i64 0, .bool false, .int .i64 0, .string ⟨#[]⟩, .slice none 0 0, .slice none 0 0] 25)
  have HT : Hid (∀ W, Below w.heap.size w W → Tg W) := fun W hb => tg.below hb tg.z
  have HRd := hmk (ready_any v p S _ ((w.alloc (.cells #[.int .i64 k, .bool b, .int .i64 i, .string s, .slice al nl cl, .slice am nm cm] 25)).alloc (.cells #[.int .i64 0, .bool false, .int .i64 0, .string ⟨#[]⟩, .slice none 0 0, .slice none 0 0] 25)) ⟨(tg.below B0 tg.z).t.u, by have := (tg.below B0 tg.z).z; omega⟩ (tg.below B0 tg.z).t (lies_below HV.out hS B0) (fun x hx => Nat.lt_of_lt_of_le (hS x hx) B0.size) hwt hp)
  have hmf : ∀ (fn : Fn) (first cap : Array Value) (w : World), (Instr.makeFunc fn first cap).run Tryz.prog w = .ok (.func fn first cap) w := fun _ _ _ _ => rfl
  have r0 : ((w.alloc (.cells #[.int .i64 k, .bool b, .int .i64 i, .string s, .slice al nl cl, .slice am nm cm] 25)).alloc (.cells #[.int .i64 0, .bool false, .int .i64 0, .string ⟨#[]⟩, .slice none 0 0, .slice none 0 0] 25)).cell? ⟨w.heap.size, 0, none⟩ = some (.int .i64 k) := by rw [cell_of_block h0]; rfl
  have r1 : ((w.alloc (.cells #[.int .i64 k, .bool b, .int .i64 i, .string s, .slice al nl cl, .slice am nm cm] 25)).alloc (.cells #[.int .i64 0, .bool false, .int .i64 0, .string ⟨#[]⟩, .slice none 0 0, .slice none 0 0] 25)).cell? ⟨w.heap.size, 1, none⟩ = some (.bool b) := by rw [cell_of_block h0]; rfl
  have r2 : ((w.alloc (.cells #[.int .i64 k, .bool b, .int .i64 i, .string s, .slice al nl cl, .slice am nm cm] 25)).alloc (.cells #[.int .i64 0, .bool false, .int .i64 0, .string ⟨#[]⟩, .slice none 0 0, .slice none 0 0] 25)).cell? ⟨w.heap.size, 2, none⟩ = some (.int .i64 i) := by rw [cell_of_block h0]; rfl
  have r3 : ((w.alloc (.cells #[.int .i64 k, .bool b, .int .i64 i, .string s, .slice al nl cl, .slice am nm cm] 25)).alloc (.cells #[.int .i64 0, .bool false, .int .i64 0, .string ⟨#[]⟩, .slice none 0 0, .slice none 0 0] 25)).cell? ⟨w.heap.size, 3, none⟩ = some (.string s) := by rw [cell_of_block h0]; rfl
  have r4 : ((w.alloc (.cells #[.int .i64 k, .bool b, .int .i64 i, .string s, .slice al nl cl, .slice am nm cm] 25)).alloc (.cells #[.int .i64 0, .bool false, .int .i64 0, .string ⟨#[]⟩, .slice none 0 0, .slice none 0 0] 25)).cell? ⟨w.heap.size, 4, none⟩ = some (.slice al nl cl) := by rw [cell_of_block h0]; rfl
  have r5 : ((w.alloc (.cells #[.int .i64 k, .bool b, .int .i64 i, .string s, .slice al nl cl, .slice am nm cm] 25)).alloc (.cells #[.int .i64 0, .bool false, .int .i64 0, .string ⟨#[]⟩, .slice none 0 0, .slice none 0 0] 25)).cell? ⟨w.heap.size, 5, none⟩ = some (.slice am nm cm) := by rw [cell_of_block h0]; rfl
  have z0 : ((w.alloc (.cells #[.int .i64 k, .bool b, .int .i64 i, .string s, .slice al nl cl, .slice am nm cm] 25)).alloc (.cells #[.int .i64 0, .bool false, .int .i64 0, .string ⟨#[]⟩, .slice none 0 0, .slice none 0 0] 25)).cell? ⟨w.heap.size + 1, 0, none⟩ = some (.int .i64 0) := by rw [cell_of_block h1]; rfl
  have z1 : ((w.alloc (.cells #[.int .i64 k, .bool b, .int .i64 i, .string s, .slice al nl cl, .slice am nm cm] 25)).alloc (.cells #[.int .i64 0, .bool false, .int .i64 0, .string ⟨#[]⟩, .slice none 0 0, .slice none 0 0] 25)).cell? ⟨w.heap.size + 1, 1, none⟩ = some (.bool false) := by rw [cell_of_block h1]; rfl
  have z2 : ((w.alloc (.cells #[.int .i64 k, .bool b, .int .i64 i, .string s, .slice al nl cl, .slice am nm cm] 25)).alloc (.cells #[.int .i64 0, .bool false, .int .i64 0, .string ⟨#[]⟩, .slice none 0 0, .slice none 0 0] 25)).cell? ⟨w.heap.size + 1, 2, none⟩ = some (.int .i64 0) := by rw [cell_of_block h1]; rfl
  have z3 : ((w.alloc (.cells #[.int .i64 k, .bool b, .int .i64 i, .string s, .slice al nl cl, .slice am nm cm] 25)).alloc (.cells #[.int .i64 0, .bool false, .int .i64 0, .string ⟨#[]⟩, .slice none 0 0, .slice none 0 0] 25)).cell? ⟨w.heap.size + 1, 3, none⟩ = some (.string ⟨#[]⟩) := by rw [cell_of_block h1]; rfl
  have z4 : ((w.alloc (.cells #[.int .i64 k, .bool b, .int .i64 i, .string s, .slice al nl cl, .slice am nm cm] 25)).alloc (.cells #[.int .i64 0, .bool false, .int .i64 0, .string ⟨#[]⟩, .slice none 0 0, .slice none 0 0] 25)).cell? ⟨w.heap.size + 1, 4, none⟩ = some (.slice none 0 0) := by rw [cell_of_block h1]; rfl
  have z5 : ((w.alloc (.cells #[.int .i64 k, .bool b, .int .i64 i, .string s, .slice al nl cl, .slice am nm cm] 25)).alloc (.cells #[.int .i64 0, .bool false, .int .i64 0, .string ⟨#[]⟩, .slice none 0 0, .slice none 0 0] 25)).cell? ⟨w.heap.size + 1, 5, none⟩ = some (.slice none 0 0) := by rw [cell_of_block h1]; rfl
  go_enter Tryz.func6, Tryz.ntmps6
  go_wp2_with fail
  clear r0 r1 r2 r3 r4 r5 z0 z1 z2 z3 z4 z5
  generalize ((w.alloc (.cells #[.int .i64 k, .bool b, .int .i64 i, .string s, .slice al nl cl, .slice am nm cm] 25)).alloc (.cells #[.int .i64 0, .bool false, .int .i64 0, .string ⟨#[]⟩, .slice none 0 0, .slice none 0 0] 25)) = w0 at *
  refine HRd.out.mono ?_
  rintro e w1 ⟨tv, l, rfl, hd, hn, hl, b1⟩
  have hz1 := b1.size
  have B1 := B0.trans (b1.mono (by omega))
  have t0 := (b1.block w.heap.size (by omega)).trans h0
  have t1 := (b1.block (w.heap.size + 1) (by omega)).trans h1
  have r0 : w1.cell? ⟨w.heap.size, 0, none⟩ = some (.int .i64 k) := by rw [cell_of_block t0]; rfl
  have r1 : w1.cell? ⟨w.heap.size, 1, none⟩ = some (.bool b) := by rw [cell_of_block t0]; rfl
  have r2 : w1.cell? ⟨w.heap.size, 2, none⟩ = some (.int .i64 i) := by rw [cell_of_block t0]; rfl
  have r3 : w1.cell? ⟨w.heap.size, 3, none⟩ = some (.string s) := by rw [cell_of_block t0]; rfl
  have r4 : w1.cell? ⟨w.heap.size, 4, none⟩ = some (.slice al nl cl) := by rw [cell_of_block t0]; rfl
  have r5 : w1.cell? ⟨w.heap.size, 5, none⟩ = some (.slice am nm cm) := by rw [cell_of_block t0]; rfl
  have z0 : w1.cell? ⟨w.heap.size + 1, 0, none⟩ = some (.int .i64 0) := by rw [cell_of_block t1]; rfl
  have z1 : w1.cell? ⟨w.heap.size + 1, 1, none⟩ = some (.bool false) := by rw [cell_of_block t1]; rfl
  have z2 : w1.cell? ⟨w.heap.size + 1, 2, none⟩ = some (.int .i64 0) := by rw [cell_of_block t1]; rfl
  have z3 : w1.cell? ⟨w.heap.size + 1, 3, none⟩ = some (.string ⟨#[]⟩) := by rw [cell_of_block t1]; rfl
  have z4 : w1.cell? ⟨w.heap.size + 1, 4, none⟩ = some (.slice none 0 0) := by rw [cell_of_block t1]; rfl
  have z5 : w1.cell? ⟨w.heap.size + 1, 5, none⟩ = some (.slice none 0 0) := by rw [cell_of_block t1]; rfl
  have rf := frozen_of_block t1
  by_cases hrd : rdF v p = 0
  · obtain ⟨hce, o, ho⟩ := rd_zero hrd
    have hG : allG v := chkV_allG 40 v 0 (0, 0, 0) (by rw [← chkE40]; exact hce)
    have hdo : dat l = o := by have := hd hrd; rw [ho] at this; exact this
    have htl : l = toksOf p := by rw [toksOf, ho]; exact toks_of hdo
    have hbd := tok_len ho hdo
    have HF : Hid (getF v p = nweF ((wkV (fun x => (x, 0)) v l).2.2.getD nullV) (wkV (fun x => (x, 0)) v l).2.1) := by show _ = _; rw [getF, if_pos hrd, htl]
    have b2 : Below w1.heap.size w1 (w1.alloc (.cells #[.int .i64 0, .bool false, .int .i64 0, .string ⟨#[]⟩, .slice none 0 0, .slice none 0 0] 25)) := one_belowG _ _
    have hz2 : (w1.alloc (.cells #[.int .i64 0, .bool false, .int .i64 0, .string ⟨#[]⟩, .slice none 0 0, .slice none 0 0] 25)).heap.size = w1.heap.size + 1 := alloc_size _ _
    have hbx := heap_alloc_new w1 (.cells #[.int .i64 0, .bool false, .int .i64 0, .string ⟨#[]⟩, .slice none 0 0, .slice none 0 0] 25)
    have B2 := B1.trans (b2.mono (by omega))
    have u0 := (b2.block w.heap.size (by omega)).trans t0
    have u1 := (b2.block (w.heap.size + 1) (by omega)).trans t1
    have a0 : (w1.alloc (.cells #[.int .i64 0, .bool false, .int .i64 0, .string ⟨#[]⟩, .slice none 0 0, .slice none 0 0] 25)).cell? ⟨w.heap.size, 0, none⟩ = some (.int .i64 k) := by rw [cell_of_block u0]; rfl
    have a1 : (w1.alloc (.cells #[.int .i64 0, .bool false, .int .i64 0, .string ⟨#[]⟩, .slice none 0 0, .slice none 0 0] 25)).cell? ⟨w.heap.size, 1, none⟩ = some (.bool b) := by rw [cell_of_block u0]; rfl
    have a2 : (w1.alloc (.cells #[.int .i64 0, .bool false, .int .i64 0, .string ⟨#[]⟩, .slice none 0 0, .slice none 0 0] 25)).cell? ⟨w.heap.size, 2, none⟩ = some (.int .i64 i) := by rw [cell_of_block u0]; rfl
    have a3 : (w1.alloc (.cells #[.int .i64 0, .bool false, .int .i64 0, .string ⟨#[]⟩, .slice none 0 0, .slice none 0 0] 25)).cell? ⟨w.heap.size, 3, none⟩ = some (.string s) := by rw [cell_of_block u0]; rfl
    have a4 : (w1.alloc (.cells #[.int .i64 0, .bool false, .int .i64 0, .string ⟨#[]⟩, .slice none 0 0, .slice none 0 0] 25)).cell? ⟨w.heap.size, 4, none⟩ = some (.slice al nl cl) := by rw [cell_of_block u0]; rfl
    have a5 : (w1.alloc (.cells #[.int .i64 0, .bool false, .int .i64 0, .string ⟨#[]⟩, .slice none 0 0, .slice none 0 0] 25)).cell? ⟨w.heap.size, 5, none⟩ = some (.slice am nm cm) := by rw [cell_of_block u0]; rfl
    have hS2 : ∀ x, S x → x < (w1.alloc (.cells #[.int .i64 0, .bool false, .int .i64 0, .string ⟨#[]⟩, .slice none 0 0, .slice none 0 0] 25)).heap.size := fun x hx => Nat.lt_of_lt_of_le (hS x hx) B2.size
    have hSG : ¬ S w1.heap.size := fun h => by have := hS _ h; omega
    have eg : ∀ args w, (callFunc 15 args).run Tryz.prog w = .ok (.enter 15 args) w := enters_of Tryz.func15 (by kernel_rfl) rfl
    have hwk := walk_any 15 (.pointer (some ⟨w1.heap.size, 0, none⟩)) (fun x => (x, 0)) S w1.heap.size (Got S w1.heap.size) eg hSG l (fun t ht => by have := hbd.2 t ht; omega) (by omega) v _ tv (w1.alloc (.cells #[.int .i64 0, .bool false, .int .i64 0, .string ⟨#[]⟩, .slice none 0 0, .slice none 0 0] 25)) (HT.out _ B2) (lies_below HV.out hS B2) hS2 (by omega) (wt_of_chk (by rw [← chkE40]; exact hce)) hG (TokAt.of_lies (hl.below b2)) (getdo S w1.heap.size _ hS2 hSG (by omega) hbx)
    have HX := hmk (fun x => wk_wt (fun x => (x, 0)) l v x)
    rw [hrd]
    clear hd hn hl hbd hdo htl ho hce hG
    generalize wkV (fun x => (x, 0)) v l = R3 at *
    obtain ⟨ry, re, rx⟩ := R3
    go_wp2_with fail
    clear a0 a1 a2 a3 a4 a5 r0 r1 r2 r3 r4 r5 z0 z1 z2 z3 z4 z5 rf
    generalize (w1.alloc (.cells #[.int .i64 0, .bool false, .int .i64 0, .string ⟨#[]⟩, .slice none 0 0, .slice none 0 0] 25)) = w2 at *
    generalize hG : w1.heap.size = G at *
    refine hwk.mono ?_
    rintro e ww ⟨cw, rfl, _, gw, lw, nw⟩
    have hzw := gw.size
    obtain ⟨csx, hrx, hlx⟩ : ∃ csx, rowAt ww G 0 csx ∧ (rx.getD nullV).lies false ww S csx := by
      cases rx with
      | none =>
        have hb := (nw rfl).block G (by omega)
        exact ⟨[.int .i64 0, .bool false, .int .i64 0, .string ⟨#[]⟩, .slice none 0 0, .slice none 0 0], fun q u hu => by rw [Nat.zero_add, cell_of_block (hb.trans hbx)]; simpa using hu, null_lies _ _⟩
      | some x =>
        obtain ⟨W0, W1, _, ⟨csx, d1, d2⟩, _, hb⟩ := lw x rfl
        exact ⟨csx, d1.keep (hb G (.inr (.inl rfl))), V.lies_keep (fun h => h) (fun y hy => hb y (.inl hy)) (fun _ h => h) _ d2⟩
    have hxw : (rx.getD nullV).wt ≤ 1099511627776 := by
      cases rx with
      | none => decide
      | some x => exact Nat.le_trans (HX.out x rfl) hwt
    have Bw : Below w.heap.size w ww := ⟨gw.os.trans B2.os, gw.tape.trans B2.tape, gw.output.trans B2.output, Nat.le_trans B2.size gw.size, fun q hq => (gw.block q (by omega) (fun e => by have := Option.some.inj e; omega)).trans (B2.block q hq)⟩
    have v1 := (gw.block (w.heap.size + 1) (by omega) (fun e => by have := Option.some.inj e; omega)).trans u1
    obtain ⟨xk, xb, xi, xs, xal, xnl, xcl, xam, xnm, xcm, rfl⟩ := V.ten hlx
    obtain ⟨g0, g1, g2, g3, g4, g5⟩ := row6z hrx
    have hnw := nwe_any (rx.getD nullV) re S _ ww ⟨(HT.out ww Bw).t.u, by have := (HT.out ww Bw).z; omega⟩ hlx (fun x hx => Nat.lt_of_lt_of_le (hS x hx) Bw.size) hxw
    clear hwk lw nw hlx hrx
    go_wp2_with fail
    refine hnw.mono ?_
    rintro e wf ⟨csu, rfl, hlu, bu⟩
    obtain ⟨uk, ub, ui, us, ual, unl, ucl, uam, unm, ucm, rfl⟩ := V.ten hlu
    have hzf := bu.size
    have Bf := Bw.trans (bu.mono Bw.size)
    have x1 := (bu.block (w.heap.size + 1) (by omega)).trans v1
    have HU : Hid ((nweF (rx.getD nullV) re).1.lies false wf (From (w.heap.size + 2) wf) [.int .i64 uk, .bool ub, .int .i64 ui, .string us, .slice ual unl ucl, .slice uam unm ucm]) := V.lies_keep (fun h => h) (fun _ _ => rfl) (fun x hx => ⟨by have := hx.1; omega, hx.2⟩) _ hlu
    clear hlu bu hnw g0 g1 g2 g3 g4 g5
    generalize nweF (rx.getD nullV) re = NF at *
    obtain ⟨ny, ne⟩ := NF
    have y0 : wf.cell? ⟨w.heap.size + 1, 0, none⟩ = some (.int .i64 0) := by rw [cell_of_block x1]; rfl
    have y1 : wf.cell? ⟨w.heap.size + 1, 1, none⟩ = some (.bool false) := by rw [cell_of_block x1]; rfl
    have y2 : wf.cell? ⟨w.heap.size + 1, 2, none⟩ = some (.int .i64 0) := by rw [cell_of_block x1]; rfl
    have y3 : wf.cell? ⟨w.heap.size + 1, 3, none⟩ = some (.string ⟨#[]⟩) := by rw [cell_of_block x1]; rfl
    have y4 : wf.cell? ⟨w.heap.size + 1, 4, none⟩ = some (.slice none 0 0) := by rw [cell_of_block x1]; rfl
    have y5 : wf.cell? ⟨w.heap.size + 1, 5, none⟩ = some (.slice none 0 0) := by rw [cell_of_block x1]; rfl
    have fr := frozen_of_block x1
    go_wp2_with fail
    (try simp only [Exit.inBlock, Exit.then])
    refine bodyPost_ret (v := .tuple #[.agg #[.int .i64 uk, .bool ub, .int .i64 ui, .string us, .slice ual unl ucl, .slice uam unm ucm], .int .i64 ne]) ?_ rfl ?_
    rotate_left
    · rw [HF.out]
      exact ⟨[.int .i64 uk, .bool ub, .int .i64 ui, .string us, .slice ual unl ucl, .slice uam unm ucm], rfl, V.lies_keep (fun h => h) (fun _ _ => rfl) (fun x hx => ⟨by have := hx.1; omega, hx.2⟩) _ (lies_set6A HU.out (by omega) _ _ _ _ _ _ _ _ _ _ _ _), Below.set6 Bf (by omega) _ _ _ _ _ _ _ _ _ _ _ _⟩
    · rw [results_cell_tmp rfl]
      go_simp
  · have HN : Hid (getF v p = (nullV, rdF v p)) := by show _ = _; rw [getF, if_neg hrd]
    obtain ⟨rfl, rfl⟩ := hn hrd
    generalize rdF v p = rd at *
    go_wp2_with fail
    (try simp only [Exit.inBlock, Exit.then])
    refine bodyPost_ret (v := .tuple #[.agg #[.int .i64 0, .bool false, .int .i64 0, .string ⟨#[]⟩, .slice none 0 0, .slice none 0 0], .int .i64 rd]) ?_ rfl ?_
    rotate_left
    · rw [HN.out]
      exact ⟨[.int .i64 0, .bool false, .int .i64 0, .string ⟨#[]⟩, .slice none 0 0, .slice none 0 0], rfl, null_lies _ _, Below.set6 B1 (by omega) _ _ _ _ _ _ _ _ _ _ _ _⟩
    · rw [results_cell_tmp rfl]
      go_simp
end Go.Proofs.YtejcfkkkbnnmcaaGreatDoor
