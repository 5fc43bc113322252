import Derived.Test.YtgnofbigggmilaaGreatDoorG27
set_option linter.unusedSimpArgs false
set_option linter.unusedVariables false
namespace Go.Proofs.YtgnofbigggmilaaGreatDoor
open Go.RowKit Go.Lib
set_option maxHeartbeats 8000000 in
set_option maxRecDepth 100000 in
theorem addV_full (b : Bool) (i : Int) (s : ByteArray) (l : List V) (m : List Mem) (t : ByteArray) (x : V) (S : Nat → Prop) (al : Option Addr) (cl bl ol : Nat) (am : Option Addr) (cm bm om : Nat) (ds : List Value) (w : World) (tg : Tg w) (ik : In64 4) (ii : In64 i) (is : s.size ≤ maxLen) (hal : Headed al l.length cl bl ol) (ham : Headed am m.length cm bm om) (hl : liesL false w S l bl ol) (hm : liesM false w S m bm om) (hx : x.lies false w S ds) (hS : ∀ b, S b → b < w.heap.size) (hts : t.size ≤ 281474976710656) (htm : t.size ≤ maxLen) (hll : l.length ≤ 1114112) (hml : m.length ≤ 1114112) (p : Nat) (hg : gapF t l.length = some p) (hcase : 0 < l.length) :
 Calls Tryz.prog 42 #[.agg #[.int .i64 4, .bool b, .int .i64 i, .string s, .slice al l.length cl, .slice am m.length cm], .string t, .agg ds.toArray] w (AdPost (.mk 4 b i s (insL l p x) m, 0) S w) := by
 obtain rfl : al = some ⟨bl, ol, none⟩ := hal.at_.resolve_left (by omega)
 have HL := hmk hl
 have HLn := hmk hm
 have HX : Hid (∀ W, Below w.heap.size w W → x.lies false W S ds) := fun W hb => lies_below hx hS hb
 have hone := (one_of_lies hx).2
 obtain ⟨xk, xb, xi, xs, xal, xnl, xcl, xam, xnm, xcm, rfl⟩ := V.ten hx
 clear hl hm hx
 have b2 : Below w.heap.size w ((w.alloc (.cells #[.int .i64 4, .bool b, .int .i64 i, .string s, .slice (some ⟨bl, ol, none⟩) l.length cl, .slice am m.length cm] 25)).alloc (.cells #[.int .i64 xk, .bool xb, .int .i64 xi, .string xs, .slice xal xnl xcl, .slice xam xnm xcm] 25)) := two_below w _ _
 have hz2 : ((w.alloc (.cells #[.int .i64 4, .bool b, .int .i64 i, .string s, .slice (some ⟨bl, ol, none⟩) l.length cl, .slice am m.length cm] 25)).alloc (.cells #[.int .i64 xk, .bool xb, .int .i64 xi, .string xs, .slice xal xnl xcl, .slice xam xnm xcm] 25)).heap.size = w.heap.size + 2 := by rw [alloc_size, alloc_size]
 have b3 : Below ((w.alloc (.cells #[.int .i64 4, .bool b, .int .i64 i, .string s, .slice (some ⟨bl, ol, none⟩) l.length cl, .slice am m.length cm] 25)).alloc (.cells #[.int .i64 xk, .bool xb, .int .i64 xi, .string xs, .slice xal xnl xcl, .slice xam xnm xcm] 25)).heap.size ((w.alloc (.cells #[.int .i64 4, .bool b, .int .i64 i, .string s, .slice (some ⟨bl, ol, none⟩) l.length cl, .slice am m.length cm] 25)).alloc (.cells #[.int .i64 xk, .bool xb, .int .i64 xi, .string xs, .slice xal xnl xcl, .slice xam xnm xcm] 25)) (((w.alloc (.cells #[.int .i64 4, .bool b, .int .i64 i, .string s, .slice (some ⟨bl, ol, none⟩) l.length cl, .slice am m.length cm] 25)).alloc (.cells #[.int .i64 xk, .bool xb, .int .i64 xi, .string xs, .slice xal xnl xcl, .slice xam xnm xcm] 25)).alloc (.cells #[.int .i64 0, .bool false, .int .i64 0, .string ⟨#[]⟩, .slice none 0 0, .slice none 0 0] 25)) := one_belowG _ _
 have B3_ : Below w.heap.size w (((w.alloc (.cells #[.int .i64 4, .bool b, .int .i64 i, .string s, .slice (some ⟨bl, ol, none⟩) l.length cl, .slice am m.length cm] 25)).alloc (.cells #[.int .i64 xk, .bool xb, .int .i64 xi, .string xs, .slice xal xnl xcl, .slice xam xnm xcm] 25)).alloc (.cells #[.int .i64 0, .bool false, .int .i64 0, .string ⟨#[]⟩, .slice none 0 0, .slice none 0 0] 25)) := b2.trans (b3.mono (by omega))
 have h0 := (b3.block w.heap.size (by omega)).trans (alloc2_keep1 w (.cells #[.int .i64 4, .bool b, .int .i64 i, .string s, .slice (some ⟨bl, ol, none⟩) l.length cl, .slice am m.length cm] 25) (.cells #[.int .i64 xk, .bool xb, .int .i64 xi, .string xs, .slice xal xnl xcl, .slice xam xnm xcm] 25))
 have h1 := (b3.block (w.heap.size + 1) (by omega)).trans (alloc2_new w (.cells #[.int .i64 4, .bool b, .int .i64 i, .string s, .slice (some ⟨bl, ol, none⟩) l.length cl, .slice am m.length cm] 25) (.cells #[.int .i64 xk, .bool xb, .int .i64 xi, .string xs, .slice xal xnl xcl, .slice xam xnm xcm] 25))
 have h2 := heap_alloc_new ((w.alloc (.cells #[.int .i64 4, .bool b, .int .i64 i, .string s, .slice (some ⟨bl, ol, none⟩) l.length cl, .slice am m.length cm] 25)).alloc (.cells #[.int .i64 xk, .bool xb, .int .i64 xi, .string xs, .slice xal xnl xcl, .slice xam xnm xcm] 25)) (.cells #[.int .i64 0, .bool false, .int .i64 0, .string ⟨#[]⟩, .slice none 0 0, .slice none 0 0] 25)
 rw [hz2] at h2
 have hz3 : w.heap.size + 3 ≤ (((w.alloc (.cells #[.int .i64 4, .bool b, .int .i64 i, .string s, .slice (some ⟨bl, ol, none⟩) l.length cl, .slice am m.length cm] 25)).alloc (.cells #[.int .i64 xk, .bool xb, .int .i64 xi, .string xs, .slice xal xnl xcl, .slice xam xnm xcm] 25)).alloc (.cells #[.int .i64 0, .bool false, .int .i64 0, .string ⟨#[]⟩, .slice none 0 0, .slice none 0 0] 25)).heap.size := by rw [alloc_size, hz2]; omega
 have hcl := hal.le
 have r0 : (((w.alloc (.cells #[.int .i64 4, .bool b, .int .i64 i, .string s, .slice (some ⟨bl, ol, none⟩) l.length cl, .slice am m.length cm] 25)).alloc (.cells #[.int .i64 xk, .bool xb, .int .i64 xi, .string xs, .slice xal xnl xcl, .slice xam xnm xcm] 25)).alloc (.cells #[.int .i64 0, .bool false, .int .i64 0, .string ⟨#[]⟩, .slice none 0 0, .slice none 0 0] 25)).cell? ⟨w.heap.size, 0, none⟩ = some (.int .i64 4) := by rw [cell_of_block h0]; rfl
 have r4 : (((w.alloc (.cells #[.int .i64 4, .bool b, .int .i64 i, .string s, .slice (some ⟨bl, ol, none⟩) l.length cl, .slice am m.length cm] 25)).alloc (.cells #[.int .i64 xk, .bool xb, .int .i64 xi, .string xs, .slice xal xnl xcl, .slice xam xnm xcm] 25)).alloc (.cells #[.int .i64 0, .bool false, .int .i64 0, .string ⟨#[]⟩, .slice none 0 0, .slice none 0 0] 25)).cell? ⟨w.heap.size, 4, none⟩ = some (.slice (some ⟨bl, ol, none⟩) l.length cl) := by rw [cell_of_block h0]; rfl
 have CM := hmk (gap_any t l.length (((w.alloc (.cells #[.int .i64 4, .bool b, .int .i64 i, .string s, .slice (some ⟨bl, ol, none⟩) l.length cl, .slice am m.length cm] 25)).alloc (.cells #[.int .i64 xk, .bool xb, .int .i64 xi, .string xs, .slice xal xnl xcl, .slice xam xnm xcm] 25)).alloc (.cells #[.int .i64 0, .bool false, .int .i64 0, .string ⟨#[]⟩, .slice none 0 0, .slice none 0 0] 25)) hts (by omega) (tg.below B3_ tg.z))
 rw [hg] at CM
 have hpl := gap_le hg
 have y1 : (p : Int) ≤ cl := by omega
 have y2 : (p : Int) ≤ l.length := by omega
 have y3 : (l.length : Int) ≤ cl := by omega
 have y4 : (0 : Int) ≤ (p : Int) := by omega
 obtain ⟨sx, hsx⟩ : ∃ sx, (if cl = p then some ⟨bl, ol, none⟩ else some ⟨bl, ol + p * 6, none⟩ : Option Addr) = sx := ⟨_, rfl⟩
 have HSA : Hid (Headed (some ⟨bl, ol, none⟩) p cl bl ol) := ⟨by omega, hal.max, .inr rfl, fun e => by cases e⟩
 have HSX : Hid (Headed sx (l.length - p) (cl - p) bl (ol + p * 6)) := by rw [← hsx]; exact headed_drop hal (by omega) (by omega)
 go_enter Tryz.func42, Tryz.ntmps42
 go_wp2_with fail
 clear r0 r4
 generalize (((w.alloc (.cells #[.int .i64 4, .bool b, .int .i64 i, .string s, .slice (some ⟨bl, ol, none⟩) l.length cl, .slice am m.length cm] 25)).alloc (.cells #[.int .i64 xk, .bool xb, .int .i64 xi, .string xs, .slice xal xnl xcl, .slice xam xnm xcm] 25)).alloc (.cells #[.int .i64 0, .bool false, .int .i64 0, .string ⟨#[]⟩, .slice none 0 0, .slice none 0 0] 25)) = w0 at *
 refine CM.out.mono ?_
 rintro e w1 ⟨rfl, b1⟩
 have hz1 := b1.size
 have B1 := B3_.trans (b1.mono (by omega))
 have t0 := (b1.block w.heap.size (by omega)).trans h0
 have t1 := (b1.block (w.heap.size + 1) (by omega)).trans h1
 have t2 := (b1.block (w.heap.size + 2) (by omega)).trans h2
 clear h0 h1 h2 CM
 have h1 := t1
 have q1 : Below w1.heap.size w1 (w1.alloc (.cells #[.int .i64 xk, .bool xb, .int .i64 xi, .string xs, .slice xal xnl xcl, .slice xam xnm xcm] 25)) := one_belowG _ _
 have n1 := heap_alloc_new w1 (.cells #[.int .i64 xk, .bool xb, .int .i64 xi, .string xs, .slice xal xnl xcl, .slice xam xnm xcm] 25)
 have m1 : (w1.alloc (.cells #[.int .i64 xk, .bool xb, .int .i64 xi, .string xs, .slice xal xnl xcl, .slice xam xnm xcm] 25)).heap.size = w1.heap.size + 1 := alloc_size _ _
 have hX1 : (w1.alloc (.cells #[.int .i64 xk, .bool xb, .int .i64 xi, .string xs, .slice xal xnl xcl, .slice xam xnm xcm] 25)).heap[w.heap.size + 1]? = some (.cells #[.int .i64 xk, .bool xb, .int .i64 xi, .string xs, .slice xal xnl xcl, .slice xam xnm xcm] 25) := (q1.block _ (by omega)).trans t1
 have q2 : Below (w1.alloc (.cells #[.int .i64 xk, .bool xb, .int .i64 xi, .string xs, .slice xal xnl xcl, .slice xam xnm xcm] 25)).heap.size (w1.alloc (.cells #[.int .i64 xk, .bool xb, .int .i64 xi, .string xs, .slice xal xnl xcl, .slice xam xnm xcm] 25)) ((w1.alloc (.cells #[.int .i64 xk, .bool xb, .int .i64 xi, .string xs, .slice xal xnl xcl, .slice xam xnm xcm] 25)).alloc (.cells #[.slice (some ⟨bl, ol, none⟩) p cl, .slice (some ⟨w1.heap.size, 0, none⟩) 1 1, .slice sx (l.length - p) (cl - p)] 22)).drew := (one_belowG _ _).drew
 have n2 : ((w1.alloc (.cells #[.int .i64 xk, .bool xb, .int .i64 xi, .string xs, .slice xal xnl xcl, .slice xam xnm xcm] 25)).alloc (.cells #[.slice (some ⟨bl, ol, none⟩) p cl, .slice (some ⟨w1.heap.size, 0, none⟩) 1 1, .slice sx (l.length - p) (cl - p)] 22)).drew.heap[(w1.alloc (.cells #[.int .i64 xk, .bool xb, .int .i64 xi, .string xs, .slice xal xnl xcl, .slice xam xnm xcm] 25)).heap.size]? = _ := heap_alloc_new (w1.alloc (.cells #[.int .i64 xk, .bool xb, .int .i64 xi, .string xs, .slice xal xnl xcl, .slice xam xnm xcm] 25)) (.cells #[.slice (some ⟨bl, ol, none⟩) p cl, .slice (some ⟨w1.heap.size, 0, none⟩) 1 1, .slice sx (l.length - p) (cl - p)] 22)
 have m2 : ((w1.alloc (.cells #[.int .i64 xk, .bool xb, .int .i64 xi, .string xs, .slice xal xnl xcl, .slice xam xnm xcm] 25)).alloc (.cells #[.slice (some ⟨bl, ol, none⟩) p cl, .slice (some ⟨w1.heap.size, 0, none⟩) 1 1, .slice sx (l.length - p) (cl - p)] 22)).drew.heap.size = w1.heap.size + 2 := (alloc_size _ _).trans (by rw [m1])
 rw [m1] at n2
 have bA : Below w1.heap.size w1 ((w1.alloc (.cells #[.int .i64 xk, .bool xb, .int .i64 xi, .string xs, .slice xal xnl xcl, .slice xam xnm xcm] 25)).alloc (.cells #[.slice (some ⟨bl, ol, none⟩) p cl, .slice (some ⟨w1.heap.size, 0, none⟩) 1 1, .slice sx (l.length - p) (cl - p)] 22)).drew := q1.trans (q2.mono (by omega))
 have BA := B1.trans (bA.mono B1.size)
 have tA0 := (bA.block w.heap.size (by omega)).trans t0
 have tA1 := (bA.block (w.heap.size + 1) (by omega)).trans t1
 have tA2 := (bA.block (w.heap.size + 2) (by omega)).trans t2
 have hXB := tA1
 have nA1 := (q2.block w1.heap.size (by omega)).trans n1
 have f4 : w1.cell? ⟨w.heap.size, 4, none⟩ = some (.slice (some ⟨bl, ol, none⟩) l.length cl) := by rw [cell_of_block t0]; rfl
 have g4 : (w1.alloc (.cells #[.int .i64 xk, .bool xb, .int .i64 xi, .string xs, .slice xal xnl xcl, .slice xam xnm xcm] 25)).cell? ⟨w.heap.size, 4, none⟩ = some (.slice (some ⟨bl, ol, none⟩) l.length cl) := by rw [cell_of_block ((q1.block w.heap.size (by omega)).trans t0)]; rfl
 have HCC : Hid (Calls Tryz.prog 67 #[.slice (some ⟨w1.heap.size + 1, 0, none⟩) 3 3] ((w1.alloc (.cells #[.int .i64 xk, .bool xb, .int .i64 xi, .string xs, .slice xal xnl xcl, .slice xam xnm xcm] 25)).alloc (.cells #[.slice (some ⟨bl, ol, none⟩) p cl, .slice (some ⟨w1.heap.size, 0, none⟩) 1 1, .slice sx (l.length - p) (cl - p)] 22)).drew (fun e W' => ∃ ca cn cb co, e = .returned (.slice ca (insL l p x).length cn) ∧ Headed ca (insL l p x).length cn cb co ∧ liesL false W' (fun y => S y ∨ (((w1.alloc (.cells #[.int .i64 xk, .bool xb, .int .i64 xi, .string xs, .slice xal xnl xcl, .slice xam xnm xcm] 25)).alloc (.cells #[.slice (some ⟨bl, ol, none⟩) p cl, .slice (some ⟨w1.heap.size, 0, none⟩) 1 1, .slice sx (l.length - p) (cl - p)] 22)).drew.heap.size ≤ y ∧ y < W'.heap.size)) (insL l p x) cb co ∧ Below ((w1.alloc (.cells #[.int .i64 xk, .bool xb, .int .i64 xi, .string xs, .slice xal xnl xcl, .slice xam xnm xcm] 25)).alloc (.cells #[.slice (some ⟨bl, ol, none⟩) p cl, .slice (some ⟨w1.heap.size, 0, none⟩) 1 1, .slice sx (l.length - p) (cl - p)] 22)).drew.heap.size ((w1.alloc (.cells #[.int .i64 xk, .bool xb, .int .i64 xi, .string xs, .slice xal xnl xcl, .slice xam xnm xcm] 25)).alloc (.cells #[.slice (some ⟨bl, ol, none⟩) p cl, .slice (some ⟨w1.heap.size, 0, none⟩) 1 1, .slice sx (l.length - p) (cl - p)] 22)).drew W')) := by
  show Calls _ _ _ _ _
  have hc0 := cell_of_block n2 0
  have hc1 := cell_of_block n2 1
  have hc2 := cell_of_block n2 2
  have hel : PL ((w1.alloc (.cells #[.int .i64 xk, .bool xb, .int .i64 xi, .string xs, .slice xal xnl xcl, .slice xam xnm xcm] 25)).alloc (.cells #[.slice (some ⟨bl, ol, none⟩) p cl, .slice (some ⟨w1.heap.size, 0, none⟩) 1 1, .slice sx (l.length - p) (cl - p)] 22)).drew S (x, [.int .i64 xk, .bool xb, .int .i64 xi, .string xs, .slice xal xnl xcl, .slice xam xnm xcm]) := HX.out _ BA
  have hrow : rowAt ((w1.alloc (.cells #[.int .i64 xk, .bool xb, .int .i64 xi, .string xs, .slice xal xnl xcl, .slice xam xnm xcm] 25)).alloc (.cells #[.slice (some ⟨bl, ol, none⟩) p cl, .slice (some ⟨w1.heap.size, 0, none⟩) 1 1, .slice sx (l.length - p) (cl - p)] 22)).drew w1.heap.size 0 [.int .i64 xk, .bool xb, .int .i64 xi, .string xs, .slice xal xnl xcl, .slice xam xnm xcm] := fun q u hu => by rw [Nat.zero_add, cell_of_block nA1]; simpa using hu
  generalize ((w1.alloc (.cells #[.int .i64 xk, .bool xb, .int .i64 xi, .string xs, .slice xal xnl xcl, .slice xam xnm xcm] 25)).alloc (.cells #[.slice (some ⟨bl, ol, none⟩) p cl, .slice (some ⟨w1.heap.size, 0, none⟩) 1 1, .slice sx (l.length - p) (cl - p)] 22)).drew = WW at *
  obtain ⟨ps, e1, e2, e3, e4⟩ := segL (liesL_keep (fun h => h) (fun x hx => BA.block x (hS x hx)) (fun _ h => h) _ HL.out : liesL false WW S l bl ol)
  have hpp : ps.length = l.length := by have := congrArg List.length e1; simpa using this
  have h := concatV_any [⟨(some ⟨bl, ol, none⟩), (ps.map (fun q => q.2)).take p, cl, bl, ol⟩, ⟨some ⟨w1.heap.size, 0, none⟩, [[.int .i64 xk, .bool xb, .int .i64 xi, .string xs, .slice xal xnl xcl, .slice xam xnm xcm]], 1, w1.heap.size, 0⟩, ⟨sx, (ps.map (fun q => q.2)).drop p, (cl - p), bl, ol + p * 6⟩] (fun y => S y ∨ y = w1.heap.size) (w1.heap.size + 1) 0 3 WW (fun i hi => by
   rcases i with _ | _ | _ | i
   ·show WW.cell? ⟨w1.heap.size + 1, 0 + 0, none⟩ = some (.slice (some ⟨bl, ol, none⟩) ((ps.map (fun q => q.2)).take p).length cl)
    rw [List.length_take, List.length_map, hpp, Nat.min_eq_left (by omega)]; exact hc0
   ·exact hc1
   ·show WW.cell? ⟨w1.heap.size + 1, 0 + 2, none⟩ = some (.slice sx ((ps.map (fun q => q.2)).drop p).length (cl - p))
    rw [List.length_drop, List.length_map, hpp]; exact hc2
   ·exact absurd hi (by simp only [List.length_cons, List.length_nil]; omega)) (by omega) (by simp) (fun g hg => by
   simp only [List.mem_cons, List.not_mem_nil, or_false] at hg
   rcases hg with rfl | rfl | rfl
   ·refine ⟨?_, e2.take p, fun h => ?_⟩
    ·show Headed (some ⟨bl, ol, none⟩) ((ps.map (fun q => q.2)).take p).length _ _ _
     rw [List.length_take, List.length_map, hpp, Nat.min_eq_left (by omega)]; exact HSA.out
    ·simp only [List.length_take, List.length_map] at h
     exact .inl (e4 (by omega))
   ·refine ⟨⟨Nat.le_refl _, by (show 1 ≤ maxLen; unfold maxLen; omega), .inr rfl, fun h => by cases h⟩, ⟨?_, ?_, ?_⟩, fun _ => .inr rfl⟩
    ·intro y hy; rw [List.mem_singleton.1 hy]; rfl
    ·intro y hy u hu
     rw [List.mem_singleton.1 hy] at hu
     exact hone u hu
    ·intro q hq
     have : q = 0 := by simpa using hq
     subst this
     exact hrow
   ·refine ⟨?_, e2.drop p, fun h => ?_⟩
    ·show Headed sx ((ps.map (fun q => q.2)).drop p).length _ _ _
     rw [List.length_drop, List.length_map, hpp]; exact HSX.out
    ·simp only [List.length_drop, List.length_map] at h
     exact .inl (e4 (by omega))) (fun y hy => by
   rcases hy with hy | hy
   ·exact Nat.lt_of_lt_of_le (hS y hy) BA.size
   ·omega) (by simp [catR]; omega)
  refine h.mono ?_
  rintro e W' ⟨v', rfl, ow, bW⟩
  have hcat : catR [⟨(some ⟨bl, ol, none⟩), (ps.map (fun q => q.2)).take p, cl, bl, ol⟩, ⟨some ⟨w1.heap.size, 0, none⟩, [[.int .i64 xk, .bool xb, .int .i64 xi, .string xs, .slice xal xnl xcl, .slice xam xnm xcm]], 1, w1.heap.size, 0⟩, ⟨sx, (ps.map (fun q => q.2)).drop p, (cl - p), bl, ol + p * 6⟩] = (insL ps p (x, [.int .i64 xk, .bool xb, .int .i64 xi, .string xs, .slice xal xnl xcl, .slice xam xnm xcm])).map (fun q => q.2) := by rw [insL_map]; simp [catR, insL]
  rw [hcat] at ow
  obtain ⟨ca, cn, cb, co, rfl, k2, k3⟩ := ownL (S := S) ow (fun q hq => by
   have hkp : ∀ y, S y → W'.heap[y]? = WW.heap[y]? := fun y hy => bW.block y (Nat.lt_of_lt_of_le (hS y hy) BA.size)
   rcases insL_mem hq with rfl | hq
   ·exact hel.keep hkp (fun _ h => h)
   ·exact (e3 q hq).keep hkp (fun _ h => h))
  rw [insL_map, e1] at k2 k3 ⊢
  exact ⟨ca, cn, cb, co, rfl, k2, k3, bW⟩
 have HLs := HCC
 go_wp2_with fail
 refine wp_region_held_drew (S := fun W => W.heap[w.heap.size + 1]? = some (.cells #[.int .i64 xk, .bool xb, .int .i64 xi, .string xs, .slice xal xnl xcl, .slice xam xnm xcm] 25)) (by kernel_rfl) h1 (fun hHeld => ?_)
 (refine tjA 0 ?_; (try simp only [Act.put, zA, zB, zC]))
 (refine tjA 2 ?_; (try simp only [Act.put, zA, zB, zC]))
 (refine tkA 4 ?_ ?_ ?_; rotate_left 1; (intro W0 hSw; (obtain ⟨e0, e1, e2, e3, e4, e5⟩ := sixC hSw); go_simp; (try with_reducible rfl)); (try simp only [Act.put, zA, zB, zC]))
 (refine tjA 6 ?_; (try simp only [Act.put, zA, zB, zC]))
 (refine tjA 8 ?_; (try simp only [Act.put, zA, zB, zC]))
 refine ryA [1, 5, 7] ?_
 refine rA3 (fun K hK => ?_) (fun K hK => ?_) fun K hK => ?_
 ·go_simp
  refine hK.out _ _ (by first | exact hX1 | exact hHeld | exact hXA) (fun hHeld => ?_)
  clear hK K
  (try simp only [Act.put, zA, zB, zC])
  (refine tjA 3 ?_; (try simp only [Act.put, zA, zB, zC]))
  refine ryA [5, 7] ?_
  refine rA2 (fun K hK => ?_) fun K hK => ?_
  ·go_simp
   refine hK.out _ _ (by first | exact hX1 | exact hHeld | exact hXA) (fun hHeld => ?_)
   clear hK K
   (try simp only [Act.put, zA, zB, zC])
   refine ryA [7] ?_
   refine rA1 fun K hK => ?_
   ·go_simp
    refine hK.out _ _ (by first | exact hX1 | exact hHeld | exact hXA) (fun hHeld => ?_)
    clear hK K
    (try simp only [Act.put, zA, zB, zC])
    (refine tjA 9 ?_; (try simp only [Act.put, zA, zB, zC]))
    (try rw [hsa])
    (try rw [hsx])
    refine ryA [10] ?_
    refine rA1 fun K hK => ?_
    go_simp
    refine hK.out _ _ hXB (fun hHeld => ?_)
    clear hK K
    (try simp only [Act.put, zA, zB, zC])
    refine ryA [11] ?_
    refine rA1 fun K hK => ?_
    go_simp
    generalize ((w1.alloc (.cells #[.int .i64 xk, .bool xb, .int .i64 xi, .string xs, .slice xal xnl xcl, .slice xam xnm xcm] 25)).alloc (.cells #[.slice (some ⟨bl, ol, none⟩) p cl, .slice (some ⟨w1.heap.size, 0, none⟩) 1 1, .slice sx (l.length - p) (cl - p)] 22)).drew = wA at *
    refine HCC.out.mono ?_
    rintro e w3 ⟨ca, cn, cb, co, rfl, hdc, hlc, b3⟩
    have hz3 := b3.size
    have B3 := BA.trans (b3.mono BA.size)
    have t0' := (b3.block w.heap.size (by omega)).trans tA0
    have t1' := (b3.block (w.heap.size + 1) (by omega)).trans tA1
    have t2' := (b3.block (w.heap.size + 2) (by omega)).trans tA2
    have HN : Hid ((V.mk 4 b i s (insL l p x) m).lies false w3 (fun y => S y ∨ (wA.heap.size ≤ y ∧ y < w3.heap.size)) [.int .i64 4, .bool b, .int .i64 i, .string s, .slice ca (insL l p x).length cn, .slice am m.length cm]) := by
     rw [V.lies]
     exact ⟨ca, cn, cb, co, am, cm, bm, om, rfl, ik, ii, is, hdc, ham, hlc, (liesM_keep (fun h => h) (fun x hx => B3.block x (hS x hx)) (fun x hx => .inl hx) _ HLn.out), fun h => by cases h⟩
    have sc : w3.cell? ⟨w.heap.size, 4, none⟩ = some (.slice (some ⟨bl, ol, none⟩) l.length cl) := by rw [cell_of_block t0']; rfl
    have sf : w3.frozen? ⟨w.heap.size, 4, none⟩ = false := frozen_of_block t0' 4
    have HE := hmk (ad_end hS B3 (show w.heap.size + 3 ≤ wA.heap.size by omega) (by omega) HN.out 4 (.slice ca (insL l p x).length cn))
    clear hlc hdc HN HCC
    go_simp
    refine hK.out _ _ t1' (fun hHeld => ?_)
    clear hK K
    (try simp only [Act.put, zA, zB, zC])
    (refine tjA 12 ?_; (try simp only [Act.put, zA, zB, zC]))
    refine ryA [13] ?_
    refine rA1 fun K hK => ?_
    go_simp
    have u0 : (w3.setCell ⟨w.heap.size, 4, none⟩ (.slice ca (insL l p x).length cn)).heap[w.heap.size]? = some (.cells #[.int .i64 4, .bool b, .int .i64 i, .string s, .slice ca (insL l p x).length cn, .slice am m.length cm] 25) := by rw [set_block t0']; rfl
    have u1 : (w3.setCell ⟨w.heap.size, 4, none⟩ (.slice ca (insL l p x).length cn)).heap[w.heap.size + 1]? = _ := (by rw [set_other (show w.heap.size + 1 ≠ w.heap.size by omega)] : (w3.setCell ⟨w.heap.size, 4, none⟩ (.slice ca (insL l p x).length cn)).heap[w.heap.size + 1]? = w3.heap[w.heap.size + 1]?).trans t1'
    have u2 : (w3.setCell ⟨w.heap.size, 4, none⟩ (.slice ca (insL l p x).length cn)).heap[w.heap.size + 2]? = _ := (by rw [set_other (show w.heap.size + 2 ≠ w.heap.size by omega)] : (w3.setCell ⟨w.heap.size, 4, none⟩ (.slice ca (insL l p x).length cn)).heap[w.heap.size + 2]? = w3.heap[w.heap.size + 2]?).trans t2'
    generalize (w3.setCell ⟨w.heap.size, 4, none⟩ (.slice ca (insL l p x).length cn)) = wz at *
    refine hK.out _ _ u1 (fun hHeld => ?_)
    clear hK K
    (try simp only [Act.put, zA, zB, zC])
    refine wpAnyH_done (by kernel_rfl) ?_ _
    (try dsimp only [Act.put, List.getElem_toArray, List.getElem_cons_succ, List.getElem_cons_zero, List.setIfInBounds_toArray, List.set_cons_zero, List.set_cons_succ])
    clear hHeld sc sf
    obtain ⟨v0, v1, v2, v3, v4, v5⟩ := sixC u0
    obtain ⟨z0, z1, z2, z3, z4, z5⟩ := sixC u2
    have fz := frozen_of_block u2
    go_wp2_with fail
    (try simp only [Exit.inBlock, Exit.then])
    refine bodyPost_ret (v := .tuple #[.agg #[.int .i64 4, .bool b, .int .i64 i, .string s, .slice ca (insL l p x).length cn, .slice am m.length cm], .int .i64 0]) ?_ rfl ?_
    rotate_left
    ·exact ⟨[.int .i64 4, .bool b, .int .i64 i, .string s, .slice ca (insL l p x).length cn, .slice am m.length cm], rfl, HE.out.1, HE.out.2⟩
    ·rw [results_cell_tmp rfl]
     go_simp
  ·go_simp
   refine hK.out _ _ (by first | exact hX1 | exact hHeld | exact hXA) (fun hHeld => ?_)
   clear hK K
   (try simp only [Act.put, zA, zB, zC])
   (refine tjA 9 ?_; (try simp only [Act.put, zA, zB, zC]))
   refine ryA [5] ?_
   refine rA1 fun K hK => ?_
   ·go_simp
    refine hK.out _ _ (by first | exact hX1 | exact hHeld | exact hXA) (fun hHeld => ?_)
    clear hK K
    (try simp only [Act.put, zA, zB, zC])
    (try rw [hsa])
    (try rw [hsx])
    refine ryA [10] ?_
    refine rA1 fun K hK => ?_
    go_simp
    refine hK.out _ _ hXB (fun hHeld => ?_)
    clear hK K
    (try simp only [Act.put, zA, zB, zC])
    refine ryA [11] ?_
    refine rA1 fun K hK => ?_
    go_simp
    generalize ((w1.alloc (.cells #[.int .i64 xk, .bool xb, .int .i64 xi, .string xs, .slice xal xnl xcl, .slice xam xnm xcm] 25)).alloc (.cells #[.slice (some ⟨bl, ol, none⟩) p cl, .slice (some ⟨w1.heap.size, 0, none⟩) 1 1, .slice sx (l.length - p) (cl - p)] 22)).drew = wA at *
    refine HCC.out.mono ?_
    rintro e w3 ⟨ca, cn, cb, co, rfl, hdc, hlc, b3⟩
    have hz3 := b3.size
    have B3 := BA.trans (b3.mono BA.size)
    have t0' := (b3.block w.heap.size (by omega)).trans tA0
    have t1' := (b3.block (w.heap.size + 1) (by omega)).trans tA1
    have t2' := (b3.block (w.heap.size + 2) (by omega)).trans tA2
    have HN : Hid ((V.mk 4 b i s (insL l p x) m).lies false w3 (fun y => S y ∨ (wA.heap.size ≤ y ∧ y < w3.heap.size)) [.int .i64 4, .bool b, .int .i64 i, .string s, .slice ca (insL l p x).length cn, .slice am m.length cm]) := by
     rw [V.lies]
     exact ⟨ca, cn, cb, co, am, cm, bm, om, rfl, ik, ii, is, hdc, ham, hlc, (liesM_keep (fun h => h) (fun x hx => B3.block x (hS x hx)) (fun x hx => .inl hx) _ HLn.out), fun h => by cases h⟩
    have sc : w3.cell? ⟨w.heap.size, 4, none⟩ = some (.slice (some ⟨bl, ol, none⟩) l.length cl) := by rw [cell_of_block t0']; rfl
    have sf : w3.frozen? ⟨w.heap.size, 4, none⟩ = false := frozen_of_block t0' 4
    have HE := hmk (ad_end hS B3 (show w.heap.size + 3 ≤ wA.heap.size by omega) (by omega) HN.out 4 (.slice ca (insL l p x).length cn))
    clear hlc hdc HN HCC
    go_simp
    refine hK.out _ _ t1' (fun hHeld => ?_)
    clear hK K
    (try simp only [Act.put, zA, zB, zC])
    (refine tjA 12 ?_; (try simp only [Act.put, zA, zB, zC]))
    refine ryA [13] ?_
    refine rA1 fun K hK => ?_
    go_simp
    have u0 : (w3.setCell ⟨w.heap.size, 4, none⟩ (.slice ca (insL l p x).length cn)).heap[w.heap.size]? = some (.cells #[.int .i64 4, .bool b, .int .i64 i, .string s, .slice ca (insL l p x).length cn, .slice am m.length cm] 25) := by rw [set_block t0']; rfl
    have u1 : (w3.setCell ⟨w.heap.size, 4, none⟩ (.slice ca (insL l p x).length cn)).heap[w.heap.size + 1]? = _ := (by rw [set_other (show w.heap.size + 1 ≠ w.heap.size by omega)] : (w3.setCell ⟨w.heap.size, 4, none⟩ (.slice ca (insL l p x).length cn)).heap[w.heap.size + 1]? = w3.heap[w.heap.size + 1]?).trans t1'
    have u2 : (w3.setCell ⟨w.heap.size, 4, none⟩ (.slice ca (insL l p x).length cn)).heap[w.heap.size + 2]? = _ := (by rw [set_other (show w.heap.size + 2 ≠ w.heap.size by omega)] : (w3.setCell ⟨w.heap.size, 4, none⟩ (.slice ca (insL l p x).length cn)).heap[w.heap.size + 2]? = w3.heap[w.heap.size + 2]?).trans t2'
    generalize (w3.setCell ⟨w.heap.size, 4, none⟩ (.slice ca (insL l p x).length cn)) = wz at *
    refine hK.out _ _ u1 (fun hHeld => ?_)
    clear hK K
    (try simp only [Act.put, zA, zB, zC])
    refine wpAnyH_done (by kernel_rfl) ?_ _
    (try dsimp only [Act.put, List.getElem_toArray, List.getElem_cons_succ, List.getElem_cons_zero, List.setIfInBounds_toArray, List.set_cons_zero, List.set_cons_succ])
    clear hHeld sc sf
    obtain ⟨v0, v1, v2, v3, v4, v5⟩ := sixC u0
    obtain ⟨z0, z1, z2, z3, z4, z5⟩ := sixC u2
    have fz := frozen_of_block u2
    go_wp2_with fail
    (try simp only [Exit.inBlock, Exit.then])
    refine bodyPost_ret (v := .tuple #[.agg #[.int .i64 4, .bool b, .int .i64 i, .string s, .slice ca (insL l p x).length cn, .slice am m.length cm], .int .i64 0]) ?_ rfl ?_
    rotate_left
    ·exact ⟨[.int .i64 4, .bool b, .int .i64 i, .string s, .slice ca (insL l p x).length cn, .slice am m.length cm], rfl, HE.out.1, HE.out.2⟩
    ·rw [results_cell_tmp rfl]
     go_simp
 ·go_simp
  refine hK.out _ _ (by first | exact hX1 | exact hHeld | exact hXA) (fun hHeld => ?_)
  clear hK K
  (try simp only [Act.put, zA, zB, zC])
  refine ryA [1, 7] ?_
  refine rA2 (fun K hK => ?_) fun K hK => ?_
  ·go_simp
   refine hK.out _ _ (by first | exact hX1 | exact hHeld | exact hXA) (fun hHeld => ?_)
   clear hK K
   (try simp only [Act.put, zA, zB, zC])
   (refine tjA 3 ?_; (try simp only [Act.put, zA, zB, zC]))
   refine ryA [7] ?_
   refine rA1 fun K hK => ?_
   ·go_simp
    refine hK.out _ _ (by first | exact hX1 | exact hHeld | exact hXA) (fun hHeld => ?_)
    clear hK K
    (try simp only [Act.put, zA, zB, zC])
    (refine tjA 9 ?_; (try simp only [Act.put, zA, zB, zC]))
    (try rw [hsa])
    (try rw [hsx])
    refine ryA [10] ?_
    refine rA1 fun K hK => ?_
    go_simp
    refine hK.out _ _ hXB (fun hHeld => ?_)
    clear hK K
    (try simp only [Act.put, zA, zB, zC])
    refine ryA [11] ?_
    refine rA1 fun K hK => ?_
    go_simp
    generalize ((w1.alloc (.cells #[.int .i64 xk, .bool xb, .int .i64 xi, .string xs, .slice xal xnl xcl, .slice xam xnm xcm] 25)).alloc (.cells #[.slice (some ⟨bl, ol, none⟩) p cl, .slice (some ⟨w1.heap.size, 0, none⟩) 1 1, .slice sx (l.length - p) (cl - p)] 22)).drew = wA at *
    refine HCC.out.mono ?_
    rintro e w3 ⟨ca, cn, cb, co, rfl, hdc, hlc, b3⟩
    have hz3 := b3.size
    have B3 := BA.trans (b3.mono BA.size)
    have t0' := (b3.block w.heap.size (by omega)).trans tA0
    have t1' := (b3.block (w.heap.size + 1) (by omega)).trans tA1
    have t2' := (b3.block (w.heap.size + 2) (by omega)).trans tA2
    have HN : Hid ((V.mk 4 b i s (insL l p x) m).lies false w3 (fun y => S y ∨ (wA.heap.size ≤ y ∧ y < w3.heap.size)) [.int .i64 4, .bool b, .int .i64 i, .string s, .slice ca (insL l p x).length cn, .slice am m.length cm]) := by
     rw [V.lies]
     exact ⟨ca, cn, cb, co, am, cm, bm, om, rfl, ik, ii, is, hdc, ham, hlc, (liesM_keep (fun h => h) (fun x hx => B3.block x (hS x hx)) (fun x hx => .inl hx) _ HLn.out), fun h => by cases h⟩
    have sc : w3.cell? ⟨w.heap.size, 4, none⟩ = some (.slice (some ⟨bl, ol, none⟩) l.length cl) := by rw [cell_of_block t0']; rfl
    have sf : w3.frozen? ⟨w.heap.size, 4, none⟩ = false := frozen_of_block t0' 4
    have HE := hmk (ad_end hS B3 (show w.heap.size + 3 ≤ wA.heap.size by omega) (by omega) HN.out 4 (.slice ca (insL l p x).length cn))
    clear hlc hdc HN HCC
    go_simp
    refine hK.out _ _ t1' (fun hHeld => ?_)
    clear hK K
    (try simp only [Act.put, zA, zB, zC])
    (refine tjA 12 ?_; (try simp only [Act.put, zA, zB, zC]))
    refine ryA [13] ?_
    refine rA1 fun K hK => ?_
    go_simp
    have u0 : (w3.setCell ⟨w.heap.size, 4, none⟩ (.slice ca (insL l p x).length cn)).heap[w.heap.size]? = some (.cells #[.int .i64 4, .bool b, .int .i64 i, .string s, .slice ca (insL l p x).length cn, .slice am m.length cm] 25) := by rw [set_block t0']; rfl
    have u1 : (w3.setCell ⟨w.heap.size, 4, none⟩ (.slice ca (insL l p x).length cn)).heap[w.heap.size + 1]? = _ := (by rw [set_other (show w.heap.size + 1 ≠ w.heap.size by omega)] : (w3.setCell ⟨w.heap.size, 4, none⟩ (.slice ca (insL l p x).length cn)).heap[w.heap.size + 1]? = w3.heap[w.heap.size + 1]?).trans t1'
    have u2 : (w3.setCell ⟨w.heap.size, 4, none⟩ (.slice ca (insL l p x).length cn)).heap[w.heap.size + 2]? = _ := (by rw [set_other (show w.heap.size + 2 ≠ w.heap.size by omega)] : (w3.setCell ⟨w.heap.size, 4, none⟩ (.slice ca (insL l p x).length cn)).heap[w.heap.size + 2]? = w3.heap[w.heap.size + 2]?).trans t2'
    generalize (w3.setCell ⟨w.heap.size, 4, none⟩ (.slice ca (insL l p x).length cn)) = wz at *
    refine hK.out _ _ u1 (fun hHeld => ?_)
    clear hK K
    (try simp only [Act.put, zA, zB, zC])
    refine wpAnyH_done (by kernel_rfl) ?_ _
    (try dsimp only [Act.put, List.getElem_toArray, List.getElem_cons_succ, List.getElem_cons_zero, List.setIfInBounds_toArray, List.set_cons_zero, List.set_cons_succ])
    clear hHeld sc sf
    obtain ⟨v0, v1, v2, v3, v4, v5⟩ := sixC u0
    obtain ⟨z0, z1, z2, z3, z4, z5⟩ := sixC u2
    have fz := frozen_of_block u2
    go_wp2_with fail
    (try simp only [Exit.inBlock, Exit.then])
    refine bodyPost_ret (v := .tuple #[.agg #[.int .i64 4, .bool b, .int .i64 i, .string s, .slice ca (insL l p x).length cn, .slice am m.length cm], .int .i64 0]) ?_ rfl ?_
    rotate_left
    ·exact ⟨[.int .i64 4, .bool b, .int .i64 i, .string s, .slice ca (insL l p x).length cn, .slice am m.length cm], rfl, HE.out.1, HE.out.2⟩
    ·rw [results_cell_tmp rfl]
     go_simp
  ·go_simp
   refine hK.out _ _ (by first | exact hX1 | exact hHeld | exact hXA) (fun hHeld => ?_)
   clear hK K
   (try simp only [Act.put, zA, zB, zC])
   (refine tjA 9 ?_; (try simp only [Act.put, zA, zB, zC]))
   refine ryA [1] ?_
   refine rA1 fun K hK => ?_
   ·go_simp
    refine hK.out _ _ (by first | exact hX1 | exact hHeld | exact hXA) (fun hHeld => ?_)
    clear hK K
    (try simp only [Act.put, zA, zB, zC])
    (refine tjA 3 ?_; (try simp only [Act.put, zA, zB, zC]))
    (try rw [hsa])
    (try rw [hsx])
    refine ryA [10] ?_
    refine rA1 fun K hK => ?_
    go_simp
    refine hK.out _ _ hXB (fun hHeld => ?_)
    clear hK K
    (try simp only [Act.put, zA, zB, zC])
    refine ryA [11] ?_
    refine rA1 fun K hK => ?_
    go_simp
    generalize ((w1.alloc (.cells #[.int .i64 xk, .bool xb, .int .i64 xi, .string xs, .slice xal xnl xcl, .slice xam xnm xcm] 25)).alloc (.cells #[.slice (some ⟨bl, ol, none⟩) p cl, .slice (some ⟨w1.heap.size, 0, none⟩) 1 1, .slice sx (l.length - p) (cl - p)] 22)).drew = wA at *
    refine HCC.out.mono ?_
    rintro e w3 ⟨ca, cn, cb, co, rfl, hdc, hlc, b3⟩
    have hz3 := b3.size
    have B3 := BA.trans (b3.mono BA.size)
    have t0' := (b3.block w.heap.size (by omega)).trans tA0
    have t1' := (b3.block (w.heap.size + 1) (by omega)).trans tA1
    have t2' := (b3.block (w.heap.size + 2) (by omega)).trans tA2
    have HN : Hid ((V.mk 4 b i s (insL l p x) m).lies false w3 (fun y => S y ∨ (wA.heap.size ≤ y ∧ y < w3.heap.size)) [.int .i64 4, .bool b, .int .i64 i, .string s, .slice ca (insL l p x).length cn, .slice am m.length cm]) := by
     rw [V.lies]
     exact ⟨ca, cn, cb, co, am, cm, bm, om, rfl, ik, ii, is, hdc, ham, hlc, (liesM_keep (fun h => h) (fun x hx => B3.block x (hS x hx)) (fun x hx => .inl hx) _ HLn.out), fun h => by cases h⟩
    have sc : w3.cell? ⟨w.heap.size, 4, none⟩ = some (.slice (some ⟨bl, ol, none⟩) l.length cl) := by rw [cell_of_block t0']; rfl
    have sf : w3.frozen? ⟨w.heap.size, 4, none⟩ = false := frozen_of_block t0' 4
    have HE := hmk (ad_end hS B3 (show w.heap.size + 3 ≤ wA.heap.size by omega) (by omega) HN.out 4 (.slice ca (insL l p x).length cn))
    clear hlc hdc HN HCC
    go_simp
    refine hK.out _ _ t1' (fun hHeld => ?_)
    clear hK K
    (try simp only [Act.put, zA, zB, zC])
    (refine tjA 12 ?_; (try simp only [Act.put, zA, zB, zC]))
    refine ryA [13] ?_
    refine rA1 fun K hK => ?_
    go_simp
    have u0 : (w3.setCell ⟨w.heap.size, 4, none⟩ (.slice ca (insL l p x).length cn)).heap[w.heap.size]? = some (.cells #[.int .i64 4, .bool b, .int .i64 i, .string s, .slice ca (insL l p x).length cn, .slice am m.length cm] 25) := by rw [set_block t0']; rfl
    have u1 : (w3.setCell ⟨w.heap.size, 4, none⟩ (.slice ca (insL l p x).length cn)).heap[w.heap.size + 1]? = _ := (by rw [set_other (show w.heap.size + 1 ≠ w.heap.size by omega)] : (w3.setCell ⟨w.heap.size, 4, none⟩ (.slice ca (insL l p x).length cn)).heap[w.heap.size + 1]? = w3.heap[w.heap.size + 1]?).trans t1'
    have u2 : (w3.setCell ⟨w.heap.size, 4, none⟩ (.slice ca (insL l p x).length cn)).heap[w.heap.size + 2]? = _ := (by rw [set_other (show w.heap.size + 2 ≠ w.heap.size by omega)] : (w3.setCell ⟨w.heap.size, 4, none⟩ (.slice ca (insL l p x).length cn)).heap[w.heap.size + 2]? = w3.heap[w.heap.size + 2]?).trans t2'
    generalize (w3.setCell ⟨w.heap.size, 4, none⟩ (.slice ca (insL l p x).length cn)) = wz at *
    refine hK.out _ _ u1 (fun hHeld => ?_)
    clear hK K
    (try simp only [Act.put, zA, zB, zC])
    refine wpAnyH_done (by kernel_rfl) ?_ _
    (try dsimp only [Act.put, List.getElem_toArray, List.getElem_cons_succ, List.getElem_cons_zero, List.setIfInBounds_toArray, List.set_cons_zero, List.set_cons_succ])
    clear hHeld sc sf
    obtain ⟨v0, v1, v2, v3, v4, v5⟩ := sixC u0
    obtain ⟨z0, z1, z2, z3, z4, z5⟩ := sixC u2
    have fz := frozen_of_block u2
    go_wp2_with fail
    (try simp only [Exit.inBlock, Exit.then])
    refine bodyPost_ret (v := .tuple #[.agg #[.int .i64 4, .bool b, .int .i64 i, .string s, .slice ca (insL l p x).length cn, .slice am m.length cm], .int .i64 0]) ?_ rfl ?_
    rotate_left
    ·exact ⟨[.int .i64 4, .bool b, .int .i64 i, .string s, .slice ca (insL l p x).length cn, .slice am m.length cm], rfl, HE.out.1, HE.out.2⟩
    ·rw [results_cell_tmp rfl]
     go_simp
 ·go_simp
  refine hK.out _ _ (by first | exact hX1 | exact hHeld | exact hXA) (fun hHeld => ?_)
  clear hK K
  (try simp only [Act.put, zA, zB, zC])
  (refine tjA 9 ?_; (try simp only [Act.put, zA, zB, zC]))
  refine ryA [1, 5] ?_
  refine rA2 (fun K hK => ?_) fun K hK => ?_
  ·go_simp
   refine hK.out _ _ (by first | exact hX1 | exact hHeld | exact hXA) (fun hHeld => ?_)
   clear hK K
   (try simp only [Act.put, zA, zB, zC])
   (refine tjA 3 ?_; (try simp only [Act.put, zA, zB, zC]))
   refine ryA [5] ?_
   refine rA1 fun K hK => ?_
   ·go_simp
    refine hK.out _ _ (by first | exact hX1 | exact hHeld | exact hXA) (fun hHeld => ?_)
    clear hK K
    (try simp only [Act.put, zA, zB, zC])
    (try rw [hsa])
    (try rw [hsx])
    refine ryA [10] ?_
    refine rA1 fun K hK => ?_
    go_simp
    refine hK.out _ _ hXB (fun hHeld => ?_)
    clear hK K
    (try simp only [Act.put, zA, zB, zC])
    refine ryA [11] ?_
    refine rA1 fun K hK => ?_
    go_simp
    generalize ((w1.alloc (.cells #[.int .i64 xk, .bool xb, .int .i64 xi, .string xs, .slice xal xnl xcl, .slice xam xnm xcm] 25)).alloc (.cells #[.slice (some ⟨bl, ol, none⟩) p cl, .slice (some ⟨w1.heap.size, 0, none⟩) 1 1, .slice sx (l.length - p) (cl - p)] 22)).drew = wA at *
    refine HCC.out.mono ?_
    rintro e w3 ⟨ca, cn, cb, co, rfl, hdc, hlc, b3⟩
    have hz3 := b3.size
    have B3 := BA.trans (b3.mono BA.size)
    have t0' := (b3.block w.heap.size (by omega)).trans tA0
    have t1' := (b3.block (w.heap.size + 1) (by omega)).trans tA1
    have t2' := (b3.block (w.heap.size + 2) (by omega)).trans tA2
    have HN : Hid ((V.mk 4 b i s (insL l p x) m).lies false w3 (fun y => S y ∨ (wA.heap.size ≤ y ∧ y < w3.heap.size)) [.int .i64 4, .bool b, .int .i64 i, .string s, .slice ca (insL l p x).length cn, .slice am m.length cm]) := by
     rw [V.lies]
     exact ⟨ca, cn, cb, co, am, cm, bm, om, rfl, ik, ii, is, hdc, ham, hlc, (liesM_keep (fun h => h) (fun x hx => B3.block x (hS x hx)) (fun x hx => .inl hx) _ HLn.out), fun h => by cases h⟩
    have sc : w3.cell? ⟨w.heap.size, 4, none⟩ = some (.slice (some ⟨bl, ol, none⟩) l.length cl) := by rw [cell_of_block t0']; rfl
    have sf : w3.frozen? ⟨w.heap.size, 4, none⟩ = false := frozen_of_block t0' 4
    have HE := hmk (ad_end hS B3 (show w.heap.size + 3 ≤ wA.heap.size by omega) (by omega) HN.out 4 (.slice ca (insL l p x).length cn))
    clear hlc hdc HN HCC
    go_simp
    refine hK.out _ _ t1' (fun hHeld => ?_)
    clear hK K
    (try simp only [Act.put, zA, zB, zC])
    (refine tjA 12 ?_; (try simp only [Act.put, zA, zB, zC]))
    refine ryA [13] ?_
    refine rA1 fun K hK => ?_
    go_simp
    have u0 : (w3.setCell ⟨w.heap.size, 4, none⟩ (.slice ca (insL l p x).length cn)).heap[w.heap.size]? = some (.cells #[.int .i64 4, .bool b, .int .i64 i, .string s, .slice ca (insL l p x).length cn, .slice am m.length cm] 25) := by rw [set_block t0']; rfl
    have u1 : (w3.setCell ⟨w.heap.size, 4, none⟩ (.slice ca (insL l p x).length cn)).heap[w.heap.size + 1]? = _ := (by rw [set_other (show w.heap.size + 1 ≠ w.heap.size by omega)] : (w3.setCell ⟨w.heap.size, 4, none⟩ (.slice ca (insL l p x).length cn)).heap[w.heap.size + 1]? = w3.heap[w.heap.size + 1]?).trans t1'
    have u2 : (w3.setCell ⟨w.heap.size, 4, none⟩ (.slice ca (insL l p x).length cn)).heap[w.heap.size + 2]? = _ := (by rw [set_other (show w.heap.size + 2 ≠ w.heap.size by omega)] : (w3.setCell ⟨w.heap.size, 4, none⟩ (.slice ca (insL l p x).length cn)).heap[w.heap.size + 2]? = w3.heap[w.heap.size + 2]?).trans t2'
    generalize (w3.setCell ⟨w.heap.size, 4, none⟩ (.slice ca (insL l p x).length cn)) = wz at *
    refine hK.out _ _ u1 (fun hHeld => ?_)
    clear hK K
    (try simp only [Act.put, zA, zB, zC])
    refine wpAnyH_done (by kernel_rfl) ?_ _
    (try dsimp only [Act.put, List.getElem_toArray, List.getElem_cons_succ, List.getElem_cons_zero, List.setIfInBounds_toArray, List.set_cons_zero, List.set_cons_succ])
    clear hHeld sc sf
    obtain ⟨v0, v1, v2, v3, v4, v5⟩ := sixC u0
    obtain ⟨z0, z1, z2, z3, z4, z5⟩ := sixC u2
    have fz := frozen_of_block u2
    go_wp2_with fail
    (try simp only [Exit.inBlock, Exit.then])
    refine bodyPost_ret (v := .tuple #[.agg #[.int .i64 4, .bool b, .int .i64 i, .string s, .slice ca (insL l p x).length cn, .slice am m.length cm], .int .i64 0]) ?_ rfl ?_
    rotate_left
    ·exact ⟨[.int .i64 4, .bool b, .int .i64 i, .string s, .slice ca (insL l p x).length cn, .slice am m.length cm], rfl, HE.out.1, HE.out.2⟩
    ·rw [results_cell_tmp rfl]
     go_simp
  ·go_simp
   refine hK.out _ _ (by first | exact hX1 | exact hHeld | exact hXA) (fun hHeld => ?_)
   clear hK K
   (try simp only [Act.put, zA, zB, zC])
   refine ryA [1] ?_
   refine rA1 fun K hK => ?_
   ·go_simp
    refine hK.out _ _ (by first | exact hX1 | exact hHeld | exact hXA) (fun hHeld => ?_)
    clear hK K
    (try simp only [Act.put, zA, zB, zC])
    (refine tjA 3 ?_; (try simp only [Act.put, zA, zB, zC]))
    (try rw [hsa])
    (try rw [hsx])
    refine ryA [10] ?_
    refine rA1 fun K hK => ?_
    go_simp
    refine hK.out _ _ hXB (fun hHeld => ?_)
    clear hK K
    (try simp only [Act.put, zA, zB, zC])
    refine ryA [11] ?_
    refine rA1 fun K hK => ?_
    go_simp
    generalize ((w1.alloc (.cells #[.int .i64 xk, .bool xb, .int .i64 xi, .string xs, .slice xal xnl xcl, .slice xam xnm xcm] 25)).alloc (.cells #[.slice (some ⟨bl, ol, none⟩) p cl, .slice (some ⟨w1.heap.size, 0, none⟩) 1 1, .slice sx (l.length - p) (cl - p)] 22)).drew = wA at *
    refine HCC.out.mono ?_
    rintro e w3 ⟨ca, cn, cb, co, rfl, hdc, hlc, b3⟩
    have hz3 := b3.size
    have B3 := BA.trans (b3.mono BA.size)
    have t0' := (b3.block w.heap.size (by omega)).trans tA0
    have t1' := (b3.block (w.heap.size + 1) (by omega)).trans tA1
    have t2' := (b3.block (w.heap.size + 2) (by omega)).trans tA2
    have HN : Hid ((V.mk 4 b i s (insL l p x) m).lies false w3 (fun y => S y ∨ (wA.heap.size ≤ y ∧ y < w3.heap.size)) [.int .i64 4, .bool b, .int .i64 i, .string s, .slice ca (insL l p x).length cn, .slice am m.length cm]) := by
     rw [V.lies]
     exact ⟨ca, cn, cb, co, am, cm, bm, om, rfl, ik, ii, is, hdc, ham, hlc, (liesM_keep (fun h => h) (fun x hx => B3.block x (hS x hx)) (fun x hx => .inl hx) _ HLn.out), fun h => by cases h⟩
    have sc : w3.cell? ⟨w.heap.size, 4, none⟩ = some (.slice (some ⟨bl, ol, none⟩) l.length cl) := by rw [cell_of_block t0']; rfl
    have sf : w3.frozen? ⟨w.heap.size, 4, none⟩ = false := frozen_of_block t0' 4
    have HE := hmk (ad_end hS B3 (show w.heap.size + 3 ≤ wA.heap.size by omega) (by omega) HN.out 4 (.slice ca (insL l p x).length cn))
    clear hlc hdc HN HCC
    go_simp
    refine hK.out _ _ t1' (fun hHeld => ?_)
    clear hK K
    (try simp only [Act.put, zA, zB, zC])
    (refine tjA 12 ?_; (try simp only [Act.put, zA, zB, zC]))
    refine ryA [13] ?_
    refine rA1 fun K hK => ?_
    go_simp
    have u0 : (w3.setCell ⟨w.heap.size, 4, none⟩ (.slice ca (insL l p x).length cn)).heap[w.heap.size]? = some (.cells #[.int .i64 4, .bool b, .int .i64 i, .string s, .slice ca (insL l p x).length cn, .slice am m.length cm] 25) := by rw [set_block t0']; rfl
    have u1 : (w3.setCell ⟨w.heap.size, 4, none⟩ (.slice ca (insL l p x).length cn)).heap[w.heap.size + 1]? = _ := (by rw [set_other (show w.heap.size + 1 ≠ w.heap.size by omega)] : (w3.setCell ⟨w.heap.size, 4, none⟩ (.slice ca (insL l p x).length cn)).heap[w.heap.size + 1]? = w3.heap[w.heap.size + 1]?).trans t1'
    have u2 : (w3.setCell ⟨w.heap.size, 4, none⟩ (.slice ca (insL l p x).length cn)).heap[w.heap.size + 2]? = _ := (by rw [set_other (show w.heap.size + 2 ≠ w.heap.size by omega)] : (w3.setCell ⟨w.heap.size, 4, none⟩ (.slice ca (insL l p x).length cn)).heap[w.heap.size + 2]? = w3.heap[w.heap.size + 2]?).trans t2'
    generalize (w3.setCell ⟨w.heap.size, 4, none⟩ (.slice ca (insL l p x).length cn)) = wz at *
    refine hK.out _ _ u1 (fun hHeld => ?_)
    clear hK K
    (try simp only [Act.put, zA, zB, zC])
    refine wpAnyH_done (by kernel_rfl) ?_ _
    (try dsimp only [Act.put, List.getElem_toArray, List.getElem_cons_succ, List.getElem_cons_zero, List.setIfInBounds_toArray, List.set_cons_zero, List.set_cons_succ])
    clear hHeld sc sf
    obtain ⟨v0, v1, v2, v3, v4, v5⟩ := sixC u0
    obtain ⟨z0, z1, z2, z3, z4, z5⟩ := sixC u2
    have fz := frozen_of_block u2
    go_wp2_with fail
    (try simp only [Exit.inBlock, Exit.then])
    refine bodyPost_ret (v := .tuple #[.agg #[.int .i64 4, .bool b, .int .i64 i, .string s, .slice ca (insL l p x).length cn, .slice am m.length cm], .int .i64 0]) ?_ rfl ?_
    rotate_left
    ·exact ⟨[.int .i64 4, .bool b, .int .i64 i, .string s, .slice ca (insL l p x).length cn, .slice am m.length cm], rfl, HE.out.1, HE.out.2⟩
    ·rw [results_cell_tmp rfl]
     go_simp
set_option maxHeartbeats 8000000 in
set_option maxRecDepth 100000 in
theorem addV_none (b : Bool) (i : Int) (s : ByteArray) (l : List V) (m : List Mem) (t : ByteArray) (x : V) (S : Nat → Prop) (al : Option Addr) (cl bl ol : Nat) (am : Option Addr) (cm bm om : Nat) (ds : List Value) (w : World) (tg : Tg w) (ik : In64 4) (ii : In64 i) (is : s.size ≤ maxLen) (hal : Headed al l.length cl bl ol) (ham : Headed am m.length cm bm om) (hl : liesL false w S l bl ol) (hm : liesM false w S m bm om) (hx : x.lies false w S ds) (hS : ∀ b, S b → b < w.heap.size) (hts : t.size ≤ 281474976710656) (htm : t.size ≤ maxLen) (hll : l.length ≤ 1114112) (hml : m.length ≤ 1114112) (p : Nat) (hg : gapF t l.length = some p) (hcase : al = none) :
 Calls Tryz.prog 42 #[.agg #[.int .i64 4, .bool b, .int .i64 i, .string s, .slice al l.length cl, .slice am m.length cm], .string t, .agg ds.toArray] w (AdPost (.mk 4 b i s (insL l p x) m, 0) S w) := by
 subst hcase
 obtain rfl : cl = 0 := hal.nil rfl
 have hn0 : l = [] := List.length_eq_zero_iff.1 (by have := hal.le; omega)
 subst hn0
 have HL := hmk hl
 have HLn := hmk hm
 have HX : Hid (∀ W, Below w.heap.size w W → x.lies false W S ds) := fun W hb => lies_below hx hS hb
 have hone := (one_of_lies hx).2
 obtain ⟨xk, xb, xi, xs, xal, xnl, xcl, xam, xnm, xcm, rfl⟩ := V.ten hx
 clear hl hm hx
 have b2 : Below w.heap.size w ((w.alloc (.cells #[.int .i64 4, .bool b, .int .i64 i, .string s, .slice none 0 0, .slice am m.length cm] 25)).alloc (.cells #[.int .i64 xk, .bool xb, .int .i64 xi, .string xs, .slice xal xnl xcl, .slice xam xnm xcm] 25)) := two_below w _ _
 have hz2 : ((w.alloc (.cells #[.int .i64 4, .bool b, .int .i64 i, .string s, .slice none 0 0, .slice am m.length cm] 25)).alloc (.cells #[.int .i64 xk, .bool xb, .int .i64 xi, .string xs, .slice xal xnl xcl, .slice xam xnm xcm] 25)).heap.size = w.heap.size + 2 := by rw [alloc_size, alloc_size]
 have b3 : Below ((w.alloc (.cells #[.int .i64 4, .bool b, .int .i64 i, .string s, .slice none 0 0, .slice am m.length cm] 25)).alloc (.cells #[.int .i64 xk, .bool xb, .int .i64 xi, .string xs, .slice xal xnl xcl, .slice xam xnm xcm] 25)).heap.size ((w.alloc (.cells #[.int .i64 4, .bool b, .int .i64 i, .string s, .slice none 0 0, .slice am m.length cm] 25)).alloc (.cells #[.int .i64 xk, .bool xb, .int .i64 xi, .string xs, .slice xal xnl xcl, .slice xam xnm xcm] 25)) (((w.alloc (.cells #[.int .i64 4, .bool b, .int .i64 i, .string s, .slice none 0 0, .slice am m.length cm] 25)).alloc (.cells #[.int .i64 xk, .bool xb, .int .i64 xi, .string xs, .slice xal xnl xcl, .slice xam xnm xcm] 25)).alloc (.cells #[.int .i64 0, .bool false, .int .i64 0, .string ⟨#[]⟩, .slice none 0 0, .slice none 0 0] 25)) := one_belowG _ _
 have B3_ : Below w.heap.size w (((w.alloc (.cells #[.int .i64 4, .bool b, .int .i64 i, .string s, .slice none 0 0, .slice am m.length cm] 25)).alloc (.cells #[.int .i64 xk, .bool xb, .int .i64 xi, .string xs, .slice xal xnl xcl, .slice xam xnm xcm] 25)).alloc (.cells #[.int .i64 0, .bool false, .int .i64 0, .string ⟨#[]⟩, .slice none 0 0, .slice none 0 0] 25)) := b2.trans (b3.mono (by omega))
 have h0 := (b3.block w.heap.size (by omega)).trans (alloc2_keep1 w (.cells #[.int .i64 4, .bool b, .int .i64 i, .string s, .slice none 0 0, .slice am m.length cm] 25) (.cells #[.int .i64 xk, .bool xb, .int .i64 xi, .string xs, .slice xal xnl xcl, .slice xam xnm xcm] 25))
 have h1 := (b3.block (w.heap.size + 1) (by omega)).trans (alloc2_new w (.cells #[.int .i64 4, .bool b, .int .i64 i, .string s, .slice none 0 0, .slice am m.length cm] 25) (.cells #[.int .i64 xk, .bool xb, .int .i64 xi, .string xs, .slice xal xnl xcl, .slice xam xnm xcm] 25))
 have h2 := heap_alloc_new ((w.alloc (.cells #[.int .i64 4, .bool b, .int .i64 i, .string s, .slice none 0 0, .slice am m.length cm] 25)).alloc (.cells #[.int .i64 xk, .bool xb, .int .i64 xi, .string xs, .slice xal xnl xcl, .slice xam xnm xcm] 25)) (.cells #[.int .i64 0, .bool false, .int .i64 0, .string ⟨#[]⟩, .slice none 0 0, .slice none 0 0] 25)
 rw [hz2] at h2
 have hz3 : w.heap.size + 3 ≤ (((w.alloc (.cells #[.int .i64 4, .bool b, .int .i64 i, .string s, .slice none 0 0, .slice am m.length cm] 25)).alloc (.cells #[.int .i64 xk, .bool xb, .int .i64 xi, .string xs, .slice xal xnl xcl, .slice xam xnm xcm] 25)).alloc (.cells #[.int .i64 0, .bool false, .int .i64 0, .string ⟨#[]⟩, .slice none 0 0, .slice none 0 0] 25)).heap.size := by rw [alloc_size, hz2]; omega
 have hcl := hal.le
 have r0 : (((w.alloc (.cells #[.int .i64 4, .bool b, .int .i64 i, .string s, .slice none 0 0, .slice am m.length cm] 25)).alloc (.cells #[.int .i64 xk, .bool xb, .int .i64 xi, .string xs, .slice xal xnl xcl, .slice xam xnm xcm] 25)).alloc (.cells #[.int .i64 0, .bool false, .int .i64 0, .string ⟨#[]⟩, .slice none 0 0, .slice none 0 0] 25)).cell? ⟨w.heap.size, 0, none⟩ = some (.int .i64 4) := by rw [cell_of_block h0]; rfl
 have r4 : (((w.alloc (.cells #[.int .i64 4, .bool b, .int .i64 i, .string s, .slice none 0 0, .slice am m.length cm] 25)).alloc (.cells #[.int .i64 xk, .bool xb, .int .i64 xi, .string xs, .slice xal xnl xcl, .slice xam xnm xcm] 25)).alloc (.cells #[.int .i64 0, .bool false, .int .i64 0, .string ⟨#[]⟩, .slice none 0 0, .slice none 0 0] 25)).cell? ⟨w.heap.size, 4, none⟩ = some (.slice none 0 0) := by rw [cell_of_block h0]; rfl
 have CM := hmk (gap_any t ([] : List V).length (((w.alloc (.cells #[.int .i64 4, .bool b, .int .i64 i, .string s, .slice none 0 0, .slice am m.length cm] 25)).alloc (.cells #[.int .i64 xk, .bool xb, .int .i64 xi, .string xs, .slice xal xnl xcl, .slice xam xnm xcm] 25)).alloc (.cells #[.int .i64 0, .bool false, .int .i64 0, .string ⟨#[]⟩, .slice none 0 0, .slice none 0 0] 25)) hts (by omega) (tg.below B3_ tg.z))
 rw [hg] at CM
 have hpl := gap_le hg
 have hp0 : p = 0 := by simp only [List.length_nil] at hpl; omega
 subst hp0
 simp only [List.length_nil] at CM hal hll ⊢
 have y3 : (0 : Int) ≤ 0 := by omega
 have HSA : Hid (Headed none 0 0 bl ol) := ⟨by omega, Nat.zero_le _, .inl (by omega), fun _ => rfl⟩
 have HSX : Hid (Headed none 0 0 bl (ol + 0 * 6)) := ⟨by omega, by omega, .inl (by omega), fun _ => by omega⟩
 go_enter Tryz.func42, Tryz.ntmps42
 go_wp2_with fail
 clear r0 r4
 generalize (((w.alloc (.cells #[.int .i64 4, .bool b, .int .i64 i, .string s, .slice none 0 0, .slice am m.length cm] 25)).alloc (.cells #[.int .i64 xk, .bool xb, .int .i64 xi, .string xs, .slice xal xnl xcl, .slice xam xnm xcm] 25)).alloc (.cells #[.int .i64 0, .bool false, .int .i64 0, .string ⟨#[]⟩, .slice none 0 0, .slice none 0 0] 25)) = w0 at *
 refine CM.out.mono ?_
 rintro e w1 ⟨rfl, b1⟩
 have hz1 := b1.size
 have B1 := B3_.trans (b1.mono (by omega))
 have t0 := (b1.block w.heap.size (by omega)).trans h0
 have t1 := (b1.block (w.heap.size + 1) (by omega)).trans h1
 have t2 := (b1.block (w.heap.size + 2) (by omega)).trans h2
 clear h0 h1 h2 CM
 have h1 := t1
 have q1 : Below w1.heap.size w1 (w1.alloc (.cells #[.int .i64 xk, .bool xb, .int .i64 xi, .string xs, .slice xal xnl xcl, .slice xam xnm xcm] 25)) := one_belowG _ _
 have n1 := heap_alloc_new w1 (.cells #[.int .i64 xk, .bool xb, .int .i64 xi, .string xs, .slice xal xnl xcl, .slice xam xnm xcm] 25)
 have m1 : (w1.alloc (.cells #[.int .i64 xk, .bool xb, .int .i64 xi, .string xs, .slice xal xnl xcl, .slice xam xnm xcm] 25)).heap.size = w1.heap.size + 1 := alloc_size _ _
 have hX1 : (w1.alloc (.cells #[.int .i64 xk, .bool xb, .int .i64 xi, .string xs, .slice xal xnl xcl, .slice xam xnm xcm] 25)).heap[w.heap.size + 1]? = some (.cells #[.int .i64 xk, .bool xb, .int .i64 xi, .string xs, .slice xal xnl xcl, .slice xam xnm xcm] 25) := (q1.block _ (by omega)).trans t1
 have q2 : Below (w1.alloc (.cells #[.int .i64 xk, .bool xb, .int .i64 xi, .string xs, .slice xal xnl xcl, .slice xam xnm xcm] 25)).heap.size (w1.alloc (.cells #[.int .i64 xk, .bool xb, .int .i64 xi, .string xs, .slice xal xnl xcl, .slice xam xnm xcm] 25)) ((w1.alloc (.cells #[.int .i64 xk, .bool xb, .int .i64 xi, .string xs, .slice xal xnl xcl, .slice xam xnm xcm] 25)).alloc (.cells #[.slice none 0 0, .slice (some ⟨w1.heap.size, 0, none⟩) 1 1, .slice none 0 0] 22)).drew := (one_belowG _ _).drew
 have n2 : ((w1.alloc (.cells #[.int .i64 xk, .bool xb, .int .i64 xi, .string xs, .slice xal xnl xcl, .slice xam xnm xcm] 25)).alloc (.cells #[.slice none 0 0, .slice (some ⟨w1.heap.size, 0, none⟩) 1 1, .slice none 0 0] 22)).drew.heap[(w1.alloc (.cells #[.int .i64 xk, .bool xb, .int .i64 xi, .string xs, .slice xal xnl xcl, .slice xam xnm xcm] 25)).heap.size]? = _ := heap_alloc_new (w1.alloc (.cells #[.int .i64 xk, .bool xb, .int .i64 xi, .string xs, .slice xal xnl xcl, .slice xam xnm xcm] 25)) (.cells #[.slice none 0 0, .slice (some ⟨w1.heap.size, 0, none⟩) 1 1, .slice none 0 0] 22)
 have m2 : ((w1.alloc (.cells #[.int .i64 xk, .bool xb, .int .i64 xi, .string xs, .slice xal xnl xcl, .slice xam xnm xcm] 25)).alloc (.cells #[.slice none 0 0, .slice (some ⟨w1.heap.size, 0, none⟩) 1 1, .slice none 0 0] 22)).drew.heap.size = w1.heap.size + 2 := (alloc_size _ _).trans (by rw [m1])
 rw [m1] at n2
 have bA : Below w1.heap.size w1 ((w1.alloc (.cells #[.int .i64 xk, .bool xb, .int .i64 xi, .string xs, .slice xal xnl xcl, .slice xam xnm xcm] 25)).alloc (.cells #[.slice none 0 0, .slice (some ⟨w1.heap.size, 0, none⟩) 1 1, .slice none 0 0] 22)).drew := q1.trans (q2.mono (by omega))
 have BA := B1.trans (bA.mono B1.size)
 have tA0 := (bA.block w.heap.size (by omega)).trans t0
 have tA1 := (bA.block (w.heap.size + 1) (by omega)).trans t1
 have tA2 := (bA.block (w.heap.size + 2) (by omega)).trans t2
 have hXB := tA1
 have nA1 := (q2.block w1.heap.size (by omega)).trans n1
 have f4 : w1.cell? ⟨w.heap.size, 4, none⟩ = some (.slice none 0 0) := by rw [cell_of_block t0]; rfl
 have g4 : (w1.alloc (.cells #[.int .i64 xk, .bool xb, .int .i64 xi, .string xs, .slice xal xnl xcl, .slice xam xnm xcm] 25)).cell? ⟨w.heap.size, 4, none⟩ = some (.slice none 0 0) := by rw [cell_of_block ((q1.block w.heap.size (by omega)).trans t0)]; rfl
 have HCC : Hid (Calls Tryz.prog 67 #[.slice (some ⟨w1.heap.size + 1, 0, none⟩) 3 3] ((w1.alloc (.cells #[.int .i64 xk, .bool xb, .int .i64 xi, .string xs, .slice xal xnl xcl, .slice xam xnm xcm] 25)).alloc (.cells #[.slice none 0 0, .slice (some ⟨w1.heap.size, 0, none⟩) 1 1, .slice none 0 0] 22)).drew (fun e W' => ∃ ca cn cb co, e = .returned (.slice ca (insL ([] : List V) 0 x).length cn) ∧ Headed ca (insL ([] : List V) 0 x).length cn cb co ∧ liesL false W' (fun y => S y ∨ (((w1.alloc (.cells #[.int .i64 xk, .bool xb, .int .i64 xi, .string xs, .slice xal xnl xcl, .slice xam xnm xcm] 25)).alloc (.cells #[.slice none 0 0, .slice (some ⟨w1.heap.size, 0, none⟩) 1 1, .slice none 0 0] 22)).drew.heap.size ≤ y ∧ y < W'.heap.size)) (insL ([] : List V) 0 x) cb co ∧ Below ((w1.alloc (.cells #[.int .i64 xk, .bool xb, .int .i64 xi, .string xs, .slice xal xnl xcl, .slice xam xnm xcm] 25)).alloc (.cells #[.slice none 0 0, .slice (some ⟨w1.heap.size, 0, none⟩) 1 1, .slice none 0 0] 22)).drew.heap.size ((w1.alloc (.cells #[.int .i64 xk, .bool xb, .int .i64 xi, .string xs, .slice xal xnl xcl, .slice xam xnm xcm] 25)).alloc (.cells #[.slice none 0 0, .slice (some ⟨w1.heap.size, 0, none⟩) 1 1, .slice none 0 0] 22)).drew W')) := by
  show Calls _ _ _ _ _
  have hc0 := cell_of_block n2 0
  have hc1 := cell_of_block n2 1
  have hc2 := cell_of_block n2 2
  have hel : PL ((w1.alloc (.cells #[.int .i64 xk, .bool xb, .int .i64 xi, .string xs, .slice xal xnl xcl, .slice xam xnm xcm] 25)).alloc (.cells #[.slice none 0 0, .slice (some ⟨w1.heap.size, 0, none⟩) 1 1, .slice none 0 0] 22)).drew S (x, [.int .i64 xk, .bool xb, .int .i64 xi, .string xs, .slice xal xnl xcl, .slice xam xnm xcm]) := HX.out _ BA
  have hrow : rowAt ((w1.alloc (.cells #[.int .i64 xk, .bool xb, .int .i64 xi, .string xs, .slice xal xnl xcl, .slice xam xnm xcm] 25)).alloc (.cells #[.slice none 0 0, .slice (some ⟨w1.heap.size, 0, none⟩) 1 1, .slice none 0 0] 22)).drew w1.heap.size 0 [.int .i64 xk, .bool xb, .int .i64 xi, .string xs, .slice xal xnl xcl, .slice xam xnm xcm] := fun q u hu => by rw [Nat.zero_add, cell_of_block nA1]; simpa using hu
  generalize ((w1.alloc (.cells #[.int .i64 xk, .bool xb, .int .i64 xi, .string xs, .slice xal xnl xcl, .slice xam xnm xcm] 25)).alloc (.cells #[.slice none 0 0, .slice (some ⟨w1.heap.size, 0, none⟩) 1 1, .slice none 0 0] 22)).drew = WW at *
  obtain ⟨ps, e1, e2, e3, e4⟩ := segL (liesL_keep (fun h => h) (fun x hx => BA.block x (hS x hx)) (fun _ h => h) _ HL.out : liesL false WW S ([] : List V) bl ol)
  have hpp : ps.length = 0 := by have := congrArg List.length e1; simpa using this
  have h := concatV_any [⟨none, (ps.map (fun q => q.2)).take 0, 0, bl, ol⟩, ⟨some ⟨w1.heap.size, 0, none⟩, [[.int .i64 xk, .bool xb, .int .i64 xi, .string xs, .slice xal xnl xcl, .slice xam xnm xcm]], 1, w1.heap.size, 0⟩, ⟨none, (ps.map (fun q => q.2)).drop 0, 0, bl, ol + 0 * 6⟩] (fun y => S y ∨ y = w1.heap.size) (w1.heap.size + 1) 0 3 WW (fun i hi => by
   rcases i with _ | _ | _ | i
   ·show WW.cell? ⟨w1.heap.size + 1, 0 + 0, none⟩ = some (.slice none ((ps.map (fun q => q.2)).take 0).length 0)
    rw [List.length_take, List.length_map, hpp, Nat.min_eq_left (by omega)]; exact hc0
   ·exact hc1
   ·show WW.cell? ⟨w1.heap.size + 1, 0 + 2, none⟩ = some (.slice none ((ps.map (fun q => q.2)).drop 0).length 0)
    rw [List.length_drop, List.length_map, hpp]; exact hc2
   ·exact absurd hi (by simp only [List.length_cons, List.length_nil]; omega)) (by omega) (by simp) (fun g hg => by
   simp only [List.mem_cons, List.not_mem_nil, or_false] at hg
   rcases hg with rfl | rfl | rfl
   ·refine ⟨?_, e2.take 0, fun h => ?_⟩
    ·show Headed none ((ps.map (fun q => q.2)).take 0).length _ _ _
     rw [List.length_take, List.length_map, hpp, Nat.min_eq_left (by omega)]; exact HSA.out
    ·simp only [List.length_take, List.length_map] at h
     exact .inl (e4 (by omega))
   ·refine ⟨⟨Nat.le_refl _, by (show 1 ≤ maxLen; unfold maxLen; omega), .inr rfl, fun h => by cases h⟩, ⟨?_, ?_, ?_⟩, fun _ => .inr rfl⟩
    ·intro y hy; rw [List.mem_singleton.1 hy]; rfl
    ·intro y hy u hu
     rw [List.mem_singleton.1 hy] at hu
     exact hone u hu
    ·intro q hq
     have : q = 0 := by simpa using hq
     subst this
     exact hrow
   ·refine ⟨?_, e2.drop 0, fun h => ?_⟩
    ·show Headed none ((ps.map (fun q => q.2)).drop 0).length _ _ _
     rw [List.length_drop, List.length_map, hpp]; exact HSX.out
    ·simp only [List.length_drop, List.length_map] at h
     exact .inl (e4 (by omega))) (fun y hy => by
   rcases hy with hy | hy
   ·exact Nat.lt_of_lt_of_le (hS y hy) BA.size
   ·omega) (by simp [catR]; omega)
  refine h.mono ?_
  rintro e W' ⟨v', rfl, ow, bW⟩
  have hcat : catR [⟨none, (ps.map (fun q => q.2)).take 0, 0, bl, ol⟩, ⟨some ⟨w1.heap.size, 0, none⟩, [[.int .i64 xk, .bool xb, .int .i64 xi, .string xs, .slice xal xnl xcl, .slice xam xnm xcm]], 1, w1.heap.size, 0⟩, ⟨none, (ps.map (fun q => q.2)).drop 0, 0, bl, ol + 0 * 6⟩] = (insL ps 0 (x, [.int .i64 xk, .bool xb, .int .i64 xi, .string xs, .slice xal xnl xcl, .slice xam xnm xcm])).map (fun q => q.2) := by rw [insL_map]; simp [catR, insL]
  rw [hcat] at ow
  obtain ⟨ca, cn, cb, co, rfl, k2, k3⟩ := ownL (S := S) ow (fun q hq => by
   have hkp : ∀ y, S y → W'.heap[y]? = WW.heap[y]? := fun y hy => bW.block y (Nat.lt_of_lt_of_le (hS y hy) BA.size)
   rcases insL_mem hq with rfl | hq
   ·exact hel.keep hkp (fun _ h => h)
   ·exact (e3 q hq).keep hkp (fun _ h => h))
  rw [insL_map, e1] at k2 k3 ⊢
  exact ⟨ca, cn, cb, co, rfl, k2, k3, bW⟩
 have HLs := HCC
 go_wp2_with fail
 refine wp_region_held_drew (S := fun W => W.heap[w.heap.size + 1]? = some (.cells #[.int .i64 xk, .bool xb, .int .i64 xi, .string xs, .slice xal xnl xcl, .slice xam xnm xcm] 25)) (by kernel_rfl) h1 (fun hHeld => ?_)
 (refine tjA 0 ?_; (try simp only [Act.put, zA, zB, zC]))
 (refine tjA 2 ?_; (try simp only [Act.put, zA, zB, zC]))
 (refine tkA 4 ?_ ?_ ?_; rotate_left 1; (intro W0 hSw; (obtain ⟨e0, e1, e2, e3, e4, e5⟩ := sixC hSw); go_simp; (try with_reducible rfl)); (try simp only [Act.put, zA, zB, zC]))
 (refine tjA 6 ?_; (try simp only [Act.put, zA, zB, zC]))
 (refine tjA 8 ?_; (try simp only [Act.put, zA, zB, zC]))
 refine ryA [1, 5, 7] ?_
 refine rA3 (fun K hK => ?_) (fun K hK => ?_) fun K hK => ?_
 ·go_simp
  refine hK.out _ _ (by first | exact hX1 | exact hHeld | exact hXA) (fun hHeld => ?_)
  clear hK K
  (try simp only [Act.put, zA, zB, zC])
  (refine tjA 3 ?_; (try simp only [Act.put, zA, zB, zC]))
  refine ryA [5, 7] ?_
  refine rA2 (fun K hK => ?_) fun K hK => ?_
  ·go_simp
   refine hK.out _ _ (by first | exact hX1 | exact hHeld | exact hXA) (fun hHeld => ?_)
   clear hK K
   (try simp only [Act.put, zA, zB, zC])
   refine ryA [7] ?_
   refine rA1 fun K hK => ?_
   ·go_simp
    refine hK.out _ _ (by first | exact hX1 | exact hHeld | exact hXA) (fun hHeld => ?_)
    clear hK K
    (try simp only [Act.put, zA, zB, zC])
    (refine tjA 9 ?_; (try simp only [Act.put, zA, zB, zC]))
    (try rw [hsa])
    (try rw [hsx])
    refine ryA [10] ?_
    refine rA1 fun K hK => ?_
    go_simp
    refine hK.out _ _ hXB (fun hHeld => ?_)
    clear hK K
    (try simp only [Act.put, zA, zB, zC])
    refine ryA [11] ?_
    refine rA1 fun K hK => ?_
    go_simp
    generalize ((w1.alloc (.cells #[.int .i64 xk, .bool xb, .int .i64 xi, .string xs, .slice xal xnl xcl, .slice xam xnm xcm] 25)).alloc (.cells #[.slice none 0 0, .slice (some ⟨w1.heap.size, 0, none⟩) 1 1, .slice none 0 0] 22)).drew = wA at *
    refine HCC.out.mono ?_
    rintro e w3 ⟨ca, cn, cb, co, rfl, hdc, hlc, b3⟩
    have hz3 := b3.size
    have B3 := BA.trans (b3.mono BA.size)
    have t0' := (b3.block w.heap.size (by omega)).trans tA0
    have t1' := (b3.block (w.heap.size + 1) (by omega)).trans tA1
    have t2' := (b3.block (w.heap.size + 2) (by omega)).trans tA2
    have HN : Hid ((V.mk 4 b i s (insL ([] : List V) 0 x) m).lies false w3 (fun y => S y ∨ (wA.heap.size ≤ y ∧ y < w3.heap.size)) [.int .i64 4, .bool b, .int .i64 i, .string s, .slice ca (insL ([] : List V) 0 x).length cn, .slice am m.length cm]) := by
     rw [V.lies]
     exact ⟨ca, cn, cb, co, am, cm, bm, om, rfl, ik, ii, is, hdc, ham, hlc, (liesM_keep (fun h => h) (fun x hx => B3.block x (hS x hx)) (fun x hx => .inl hx) _ HLn.out), fun h => by cases h⟩
    have sc : w3.cell? ⟨w.heap.size, 4, none⟩ = some (.slice none 0 0) := by rw [cell_of_block t0']; rfl
    have sf : w3.frozen? ⟨w.heap.size, 4, none⟩ = false := frozen_of_block t0' 4
    have HE := hmk (ad_end hS B3 (show w.heap.size + 3 ≤ wA.heap.size by omega) (by omega) HN.out 4 (.slice ca (insL ([] : List V) 0 x).length cn))
    clear hlc hdc HN HCC
    go_simp
    refine hK.out _ _ t1' (fun hHeld => ?_)
    clear hK K
    (try simp only [Act.put, zA, zB, zC])
    (refine tjA 12 ?_; (try simp only [Act.put, zA, zB, zC]))
    refine ryA [13] ?_
    refine rA1 fun K hK => ?_
    go_simp
    have u0 : (w3.setCell ⟨w.heap.size, 4, none⟩ (.slice ca (insL ([] : List V) 0 x).length cn)).heap[w.heap.size]? = some (.cells #[.int .i64 4, .bool b, .int .i64 i, .string s, .slice ca (insL ([] : List V) 0 x).length cn, .slice am m.length cm] 25) := by rw [set_block t0']; rfl
    have u1 : (w3.setCell ⟨w.heap.size, 4, none⟩ (.slice ca (insL ([] : List V) 0 x).length cn)).heap[w.heap.size + 1]? = _ := (by rw [set_other (show w.heap.size + 1 ≠ w.heap.size by omega)] : (w3.setCell ⟨w.heap.size, 4, none⟩ (.slice ca (insL ([] : List V) 0 x).length cn)).heap[w.heap.size + 1]? = w3.heap[w.heap.size + 1]?).trans t1'
    have u2 : (w3.setCell ⟨w.heap.size, 4, none⟩ (.slice ca (insL ([] : List V) 0 x).length cn)).heap[w.heap.size + 2]? = _ := (by rw [set_other (show w.heap.size + 2 ≠ w.heap.size by omega)] : (w3.setCell ⟨w.heap.size, 4, none⟩ (.slice ca (insL ([] : List V) 0 x).length cn)).heap[w.heap.size + 2]? = w3.heap[w.heap.size + 2]?).trans t2'
    generalize (w3.setCell ⟨w.heap.size, 4, none⟩ (.slice ca (insL ([] : List V) 0 x).length cn)) = wz at *
    refine hK.out _ _ u1 (fun hHeld => ?_)
    clear hK K
    (try simp only [Act.put, zA, zB, zC])
    refine wpAnyH_done (by kernel_rfl) ?_ _
    (try dsimp only [Act.put, List.getElem_toArray, List.getElem_cons_succ, List.getElem_cons_zero, List.setIfInBounds_toArray, List.set_cons_zero, List.set_cons_succ])
    clear hHeld sc sf
    obtain ⟨v0, v1, v2, v3, v4, v5⟩ := sixC u0
    obtain ⟨z0, z1, z2, z3, z4, z5⟩ := sixC u2
    have fz := frozen_of_block u2
    go_wp2_with fail
    (try simp only [Exit.inBlock, Exit.then])
    refine bodyPost_ret (v := .tuple #[.agg #[.int .i64 4, .bool b, .int .i64 i, .string s, .slice ca (insL ([] : List V) 0 x).length cn, .slice am m.length cm], .int .i64 0]) ?_ rfl ?_
    rotate_left
    ·exact ⟨[.int .i64 4, .bool b, .int .i64 i, .string s, .slice ca (insL ([] : List V) 0 x).length cn, .slice am m.length cm], rfl, HE.out.1, HE.out.2⟩
    ·rw [results_cell_tmp rfl]
     go_simp
  ·go_simp
   refine hK.out _ _ (by first | exact hX1 | exact hHeld | exact hXA) (fun hHeld => ?_)
   clear hK K
   (try simp only [Act.put, zA, zB, zC])
   (refine tjA 9 ?_; (try simp only [Act.put, zA, zB, zC]))
   refine ryA [5] ?_
   refine rA1 fun K hK => ?_
   ·go_simp
    refine hK.out _ _ (by first | exact hX1 | exact hHeld | exact hXA) (fun hHeld => ?_)
    clear hK K
    (try simp only [Act.put, zA, zB, zC])
    (try rw [hsa])
    (try rw [hsx])
    refine ryA [10] ?_
    refine rA1 fun K hK => ?_
    go_simp
    refine hK.out _ _ hXB (fun hHeld => ?_)
    clear hK K
    (try simp only [Act.put, zA, zB, zC])
    refine ryA [11] ?_
    refine rA1 fun K hK => ?_
    go_simp
    generalize ((w1.alloc (.cells #[.int .i64 xk, .bool xb, .int .i64 xi, .string xs, .slice xal xnl xcl, .slice xam xnm xcm] 25)).alloc (.cells #[.slice none 0 0, .slice (some ⟨w1.heap.size, 0, none⟩) 1 1, .slice none 0 0] 22)).drew = wA at *
    refine HCC.out.mono ?_
    rintro e w3 ⟨ca, cn, cb, co, rfl, hdc, hlc, b3⟩
    have hz3 := b3.size
    have B3 := BA.trans (b3.mono BA.size)
    have t0' := (b3.block w.heap.size (by omega)).trans tA0
    have t1' := (b3.block (w.heap.size + 1) (by omega)).trans tA1
    have t2' := (b3.block (w.heap.size + 2) (by omega)).trans tA2
    have HN : Hid ((V.mk 4 b i s (insL ([] : List V) 0 x) m).lies false w3 (fun y => S y ∨ (wA.heap.size ≤ y ∧ y < w3.heap.size)) [.int .i64 4, .bool b, .int .i64 i, .string s, .slice ca (insL ([] : List V) 0 x).length cn, .slice am m.length cm]) := by
     rw [V.lies]
     exact ⟨ca, cn, cb, co, am, cm, bm, om, rfl, ik, ii, is, hdc, ham, hlc, (liesM_keep (fun h => h) (fun x hx => B3.block x (hS x hx)) (fun x hx => .inl hx) _ HLn.out), fun h => by cases h⟩
    have sc : w3.cell? ⟨w.heap.size, 4, none⟩ = some (.slice none 0 0) := by rw [cell_of_block t0']; rfl
    have sf : w3.frozen? ⟨w.heap.size, 4, none⟩ = false := frozen_of_block t0' 4
    have HE := hmk (ad_end hS B3 (show w.heap.size + 3 ≤ wA.heap.size by omega) (by omega) HN.out 4 (.slice ca (insL ([] : List V) 0 x).length cn))
    clear hlc hdc HN HCC
    go_simp
    refine hK.out _ _ t1' (fun hHeld => ?_)
    clear hK K
    (try simp only [Act.put, zA, zB, zC])
    (refine tjA 12 ?_; (try simp only [Act.put, zA, zB, zC]))
    refine ryA [13] ?_
    refine rA1 fun K hK => ?_
    go_simp
    have u0 : (w3.setCell ⟨w.heap.size, 4, none⟩ (.slice ca (insL ([] : List V) 0 x).length cn)).heap[w.heap.size]? = some (.cells #[.int .i64 4, .bool b, .int .i64 i, .string s, .slice ca (insL ([] : List V) 0 x).length cn, .slice am m.length cm] 25) := by rw [set_block t0']; rfl
    have u1 : (w3.setCell ⟨w.heap.size, 4, none⟩ (.slice ca (insL ([] : List V) 0 x).length cn)).heap[w.heap.size + 1]? = _ := (by rw [set_other (show w.heap.size + 1 ≠ w.heap.size by omega)] : (w3.setCell ⟨w.heap.size, 4, none⟩ (.slice ca (insL ([] : List V) 0 x).length cn)).heap[w.heap.size + 1]? = w3.heap[w.heap.size + 1]?).trans t1'
    have u2 : (w3.setCell ⟨w.heap.size, 4, none⟩ (.slice ca (insL ([] : List V) 0 x).length cn)).heap[w.heap.size + 2]? = _ := (by rw [set_other (show w.heap.size + 2 ≠ w.heap.size by omega)] : (w3.setCell ⟨w.heap.size, 4, none⟩ (.slice ca (insL ([] : List V) 0 x).length cn)).heap[w.heap.size + 2]? = w3.heap[w.heap.size + 2]?).trans t2'
    generalize (w3.setCell ⟨w.heap.size, 4, none⟩ (.slice ca (insL ([] : List V) 0 x).length cn)) = wz at *
    refine hK.out _ _ u1 (fun hHeld => ?_)
    clear hK K
    (try simp only [Act.put, zA, zB, zC])
    refine wpAnyH_done (by kernel_rfl) ?_ _
    (try dsimp only [Act.put, List.getElem_toArray, List.getElem_cons_succ, List.getElem_cons_zero, List.setIfInBounds_toArray, List.set_cons_zero, List.set_cons_succ])
    clear hHeld sc sf
    obtain ⟨v0, v1, v2, v3, v4, v5⟩ := sixC u0
    obtain ⟨z0, z1, z2, z3, z4, z5⟩ := sixC u2
    have fz := frozen_of_block u2
    go_wp2_with fail
    (try simp only [Exit.inBlock, Exit.then])
    refine bodyPost_ret (v := .tuple #[.agg #[.int .i64 4, .bool b, .int .i64 i, .string s, .slice ca (insL ([] : List V) 0 x).length cn, .slice am m.length cm], .int .i64 0]) ?_ rfl ?_
    rotate_left
    ·exact ⟨[.int .i64 4, .bool b, .int .i64 i, .string s, .slice ca (insL ([] : List V) 0 x).length cn, .slice am m.length cm], rfl, HE.out.1, HE.out.2⟩
    ·rw [results_cell_tmp rfl]
     go_simp
 ·go_simp
  refine hK.out _ _ (by first | exact hX1 | exact hHeld | exact hXA) (fun hHeld => ?_)
  clear hK K
  (try simp only [Act.put, zA, zB, zC])
  refine ryA [1, 7] ?_
  refine rA2 (fun K hK => ?_) fun K hK => ?_
  ·go_simp
   refine hK.out _ _ (by first | exact hX1 | exact hHeld | exact hXA) (fun hHeld => ?_)
   clear hK K
   (try simp only [Act.put, zA, zB, zC])
   (refine tjA 3 ?_; (try simp only [Act.put, zA, zB, zC]))
   refine ryA [7] ?_
   refine rA1 fun K hK => ?_
   ·go_simp
    refine hK.out _ _ (by first | exact hX1 | exact hHeld | exact hXA) (fun hHeld => ?_)
    clear hK K
    (try simp only [Act.put, zA, zB, zC])
    (refine tjA 9 ?_; (try simp only [Act.put, zA, zB, zC]))
    (try rw [hsa])
    (try rw [hsx])
    refine ryA [10] ?_
    refine rA1 fun K hK => ?_
    go_simp
    refine hK.out _ _ hXB (fun hHeld => ?_)
    clear hK K
    (try simp only [Act.put, zA, zB, zC])
    refine ryA [11] ?_
    refine rA1 fun K hK => ?_
    go_simp
    generalize ((w1.alloc (.cells #[.int .i64 xk, .bool xb, .int .i64 xi, .string xs, .slice xal xnl xcl, .slice xam xnm xcm] 25)).alloc (.cells #[.slice none 0 0, .slice (some ⟨w1.heap.size, 0, none⟩) 1 1, .slice none 0 0] 22)).drew = wA at *
    refine HCC.out.mono ?_
    rintro e w3 ⟨ca, cn, cb, co, rfl, hdc, hlc, b3⟩
    have hz3 := b3.size
    have B3 := BA.trans (b3.mono BA.size)
    have t0' := (b3.block w.heap.size (by omega)).trans tA0
    have t1' := (b3.block (w.heap.size + 1) (by omega)).trans tA1
    have t2' := (b3.block (w.heap.size + 2) (by omega)).trans tA2
    have HN : Hid ((V.mk 4 b i s (insL ([] : List V) 0 x) m).lies false w3 (fun y => S y ∨ (wA.heap.size ≤ y ∧ y < w3.heap.size)) [.int .i64 4, .bool b, .int .i64 i, .string s, .slice ca (insL ([] : List V) 0 x).length cn, .slice am m.length cm]) := by
     rw [V.lies]
     exact ⟨ca, cn, cb, co, am, cm, bm, om, rfl, ik, ii, is, hdc, ham, hlc, (liesM_keep (fun h => h) (fun x hx => B3.block x (hS x hx)) (fun x hx => .inl hx) _ HLn.out), fun h => by cases h⟩
    have sc : w3.cell? ⟨w.heap.size, 4, none⟩ = some (.slice none 0 0) := by rw [cell_of_block t0']; rfl
    have sf : w3.frozen? ⟨w.heap.size, 4, none⟩ = false := frozen_of_block t0' 4
    have HE := hmk (ad_end hS B3 (show w.heap.size + 3 ≤ wA.heap.size by omega) (by omega) HN.out 4 (.slice ca (insL ([] : List V) 0 x).length cn))
    clear hlc hdc HN HCC
    go_simp
    refine hK.out _ _ t1' (fun hHeld => ?_)
    clear hK K
    (try simp only [Act.put, zA, zB, zC])
    (refine tjA 12 ?_; (try simp only [Act.put, zA, zB, zC]))
    refine ryA [13] ?_
    refine rA1 fun K hK => ?_
    go_simp
    have u0 : (w3.setCell ⟨w.heap.size, 4, none⟩ (.slice ca (insL ([] : List V) 0 x).length cn)).heap[w.heap.size]? = some (.cells #[.int .i64 4, .bool b, .int .i64 i, .string s, .slice ca (insL ([] : List V) 0 x).length cn, .slice am m.length cm] 25) := by rw [set_block t0']; rfl
    have u1 : (w3.setCell ⟨w.heap.size, 4, none⟩ (.slice ca (insL ([] : List V) 0 x).length cn)).heap[w.heap.size + 1]? = _ := (by rw [set_other (show w.heap.size + 1 ≠ w.heap.size by omega)] : (w3.setCell ⟨w.heap.size, 4, none⟩ (.slice ca (insL ([] : List V) 0 x).length cn)).heap[w.heap.size + 1]? = w3.heap[w.heap.size + 1]?).trans t1'
    have u2 : (w3.setCell ⟨w.heap.size, 4, none⟩ (.slice ca (insL ([] : List V) 0 x).length cn)).heap[w.heap.size + 2]? = _ := (by rw [set_other (show w.heap.size + 2 ≠ w.heap.size by omega)] : (w3.setCell ⟨w.heap.size, 4, none⟩ (.slice ca (insL ([] : List V) 0 x).length cn)).heap[w.heap.size + 2]? = w3.heap[w.heap.size + 2]?).trans t2'
    generalize (w3.setCell ⟨w.heap.size, 4, none⟩ (.slice ca (insL ([] : List V) 0 x).length cn)) = wz at *
    refine hK.out _ _ u1 (fun hHeld => ?_)
    clear hK K
    (try simp only [Act.put, zA, zB, zC])
    refine wpAnyH_done (by kernel_rfl) ?_ _
    (try dsimp only [Act.put, List.getElem_toArray, List.getElem_cons_succ, List.getElem_cons_zero, List.setIfInBounds_toArray, List.set_cons_zero, List.set_cons_succ])
    clear hHeld sc sf
    obtain ⟨v0, v1, v2, v3, v4, v5⟩ := sixC u0
    obtain ⟨z0, z1, z2, z3, z4, z5⟩ := sixC u2
    have fz := frozen_of_block u2
    go_wp2_with fail
    (try simp only [Exit.inBlock, Exit.then])
    refine bodyPost_ret (v := .tuple #[.agg #[.int .i64 4, .bool b, .int .i64 i, .string s, .slice ca (insL ([] : List V) 0 x).length cn, .slice am m.length cm], .int .i64 0]) ?_ rfl ?_
    rotate_left
    ·exact ⟨[.int .i64 4, .bool b, .int .i64 i, .string s, .slice ca (insL ([] : List V) 0 x).length cn, .slice am m.length cm], rfl, HE.out.1, HE.out.2⟩
    ·rw [results_cell_tmp rfl]
     go_simp
  ·go_simp
   refine hK.out _ _ (by first | exact hX1 | exact hHeld | exact hXA) (fun hHeld => ?_)
   clear hK K
   (try simp only [Act.put, zA, zB, zC])
   (refine tjA 9 ?_; (try simp only [Act.put, zA, zB, zC]))
   refine ryA [1] ?_
   refine rA1 fun K hK => ?_
   ·go_simp
    refine hK.out _ _ (by first | exact hX1 | exact hHeld | exact hXA) (fun hHeld => ?_)
    clear hK K
    (try simp only [Act.put, zA, zB, zC])
    (refine tjA 3 ?_; (try simp only [Act.put, zA, zB, zC]))
    (try rw [hsa])
    (try rw [hsx])
    refine ryA [10] ?_
    refine rA1 fun K hK => ?_
    go_simp
    refine hK.out _ _ hXB (fun hHeld => ?_)
    clear hK K
    (try simp only [Act.put, zA, zB, zC])
    refine ryA [11] ?_
    refine rA1 fun K hK => ?_
    go_simp
    generalize ((w1.alloc (.cells #[.int .i64 xk, .bool xb, .int .i64 xi, .string xs, .slice xal xnl xcl, .slice xam xnm xcm] 25)).alloc (.cells #[.slice none 0 0, .slice (some ⟨w1.heap.size, 0, none⟩) 1 1, .slice none 0 0] 22)).drew = wA at *
    refine HCC.out.mono ?_
    rintro e w3 ⟨ca, cn, cb, co, rfl, hdc, hlc, b3⟩
    have hz3 := b3.size
    have B3 := BA.trans (b3.mono BA.size)
    have t0' := (b3.block w.heap.size (by omega)).trans tA0
    have t1' := (b3.block (w.heap.size + 1) (by omega)).trans tA1
    have t2' := (b3.block (w.heap.size + 2) (by omega)).trans tA2
    have HN : Hid ((V.mk 4 b i s (insL ([] : List V) 0 x) m).lies false w3 (fun y => S y ∨ (wA.heap.size ≤ y ∧ y < w3.heap.size)) [.int .i64 4, .bool b, .int .i64 i, .string s, .slice ca (insL ([] : List V) 0 x).length cn, .slice am m.length cm]) := by
     rw [V.lies]
     exact ⟨ca, cn, cb, co, am, cm, bm, om, rfl, ik, ii, is, hdc, ham, hlc, (liesM_keep (fun h => h) (fun x hx => B3.block x (hS x hx)) (fun x hx => .inl hx) _ HLn.out), fun h => by cases h⟩
    have sc : w3.cell? ⟨w.heap.size, 4, none⟩ = some (.slice none 0 0) := by rw [cell_of_block t0']; rfl
    have sf : w3.frozen? ⟨w.heap.size, 4, none⟩ = false := frozen_of_block t0' 4
    have HE := hmk (ad_end hS B3 (show w.heap.size + 3 ≤ wA.heap.size by omega) (by omega) HN.out 4 (.slice ca (insL ([] : List V) 0 x).length cn))
    clear hlc hdc HN HCC
    go_simp
    refine hK.out _ _ t1' (fun hHeld => ?_)
    clear hK K
    (try simp only [Act.put, zA, zB, zC])
    (refine tjA 12 ?_; (try simp only [Act.put, zA, zB, zC]))
    refine ryA [13] ?_
    refine rA1 fun K hK => ?_
    go_simp
    have u0 : (w3.setCell ⟨w.heap.size, 4, none⟩ (.slice ca (insL ([] : List V) 0 x).length cn)).heap[w.heap.size]? = some (.cells #[.int .i64 4, .bool b, .int .i64 i, .string s, .slice ca (insL ([] : List V) 0 x).length cn, .slice am m.length cm] 25) := by rw [set_block t0']; rfl
    have u1 : (w3.setCell ⟨w.heap.size, 4, none⟩ (.slice ca (insL ([] : List V) 0 x).length cn)).heap[w.heap.size + 1]? = _ := (by rw [set_other (show w.heap.size + 1 ≠ w.heap.size by omega)] : (w3.setCell ⟨w.heap.size, 4, none⟩ (.slice ca (insL ([] : List V) 0 x).length cn)).heap[w.heap.size + 1]? = w3.heap[w.heap.size + 1]?).trans t1'
    have u2 : (w3.setCell ⟨w.heap.size, 4, none⟩ (.slice ca (insL ([] : List V) 0 x).length cn)).heap[w.heap.size + 2]? = _ := (by rw [set_other (show w.heap.size + 2 ≠ w.heap.size by omega)] : (w3.setCell ⟨w.heap.size, 4, none⟩ (.slice ca (insL ([] : List V) 0 x).length cn)).heap[w.heap.size + 2]? = w3.heap[w.heap.size + 2]?).trans t2'
    generalize (w3.setCell ⟨w.heap.size, 4, none⟩ (.slice ca (insL ([] : List V) 0 x).length cn)) = wz at *
    refine hK.out _ _ u1 (fun hHeld => ?_)
    clear hK K
    (try simp only [Act.put, zA, zB, zC])
    refine wpAnyH_done (by kernel_rfl) ?_ _
    (try dsimp only [Act.put, List.getElem_toArray, List.getElem_cons_succ, List.getElem_cons_zero, List.setIfInBounds_toArray, List.set_cons_zero, List.set_cons_succ])
    clear hHeld sc sf
    obtain ⟨v0, v1, v2, v3, v4, v5⟩ := sixC u0
    obtain ⟨z0, z1, z2, z3, z4, z5⟩ := sixC u2
    have fz := frozen_of_block u2
    go_wp2_with fail
    (try simp only [Exit.inBlock, Exit.then])
    refine bodyPost_ret (v := .tuple #[.agg #[.int .i64 4, .bool b, .int .i64 i, .string s, .slice ca (insL ([] : List V) 0 x).length cn, .slice am m.length cm], .int .i64 0]) ?_ rfl ?_
    rotate_left
    ·exact ⟨[.int .i64 4, .bool b, .int .i64 i, .string s, .slice ca (insL ([] : List V) 0 x).length cn, .slice am m.length cm], rfl, HE.out.1, HE.out.2⟩
    ·rw [results_cell_tmp rfl]
     go_simp
 ·go_simp
  refine hK.out _ _ (by first | exact hX1 | exact hHeld | exact hXA) (fun hHeld => ?_)
  clear hK K
  (try simp only [Act.put, zA, zB, zC])
  (refine tjA 9 ?_; (try simp only [Act.put, zA, zB, zC]))
  refine ryA [1, 5] ?_
  refine rA2 (fun K hK => ?_) fun K hK => ?_
  ·go_simp
   refine hK.out _ _ (by first | exact hX1 | exact hHeld | exact hXA) (fun hHeld => ?_)
   clear hK K
   (try simp only [Act.put, zA, zB, zC])
   (refine tjA 3 ?_; (try simp only [Act.put, zA, zB, zC]))
   refine ryA [5] ?_
   refine rA1 fun K hK => ?_
   ·go_simp
    refine hK.out _ _ (by first | exact hX1 | exact hHeld | exact hXA) (fun hHeld => ?_)
    clear hK K
    (try simp only [Act.put, zA, zB, zC])
    (try rw [hsa])
    (try rw [hsx])
    refine ryA [10] ?_
    refine rA1 fun K hK => ?_
    go_simp
    refine hK.out _ _ hXB (fun hHeld => ?_)
    clear hK K
    (try simp only [Act.put, zA, zB, zC])
    refine ryA [11] ?_
    refine rA1 fun K hK => ?_
    go_simp
    generalize ((w1.alloc (.cells #[.int .i64 xk, .bool xb, .int .i64 xi, .string xs, .slice xal xnl xcl, .slice xam xnm xcm] 25)).alloc (.cells #[.slice none 0 0, .slice (some ⟨w1.heap.size, 0, none⟩) 1 1, .slice none 0 0] 22)).drew = wA at *
    refine HCC.out.mono ?_
    rintro e w3 ⟨ca, cn, cb, co, rfl, hdc, hlc, b3⟩
    have hz3 := b3.size
    have B3 := BA.trans (b3.mono BA.size)
    have t0' := (b3.block w.heap.size (by omega)).trans tA0
    have t1' := (b3.block (w.heap.size + 1) (by omega)).trans tA1
    have t2' := (b3.block (w.heap.size + 2) (by omega)).trans tA2
    have HN : Hid ((V.mk 4 b i s (insL ([] : List V) 0 x) m).lies false w3 (fun y => S y ∨ (wA.heap.size ≤ y ∧ y < w3.heap.size)) [.int .i64 4, .bool b, .int .i64 i, .string s, .slice ca (insL ([] : List V) 0 x).length cn, .slice am m.length cm]) := by
     rw [V.lies]
     exact ⟨ca, cn, cb, co, am, cm, bm, om, rfl, ik, ii, is, hdc, ham, hlc, (liesM_keep (fun h => h) (fun x hx => B3.block x (hS x hx)) (fun x hx => .inl hx) _ HLn.out), fun h => by cases h⟩
    have sc : w3.cell? ⟨w.heap.size, 4, none⟩ = some (.slice none 0 0) := by rw [cell_of_block t0']; rfl
    have sf : w3.frozen? ⟨w.heap.size, 4, none⟩ = false := frozen_of_block t0' 4
    have HE := hmk (ad_end hS B3 (show w.heap.size + 3 ≤ wA.heap.size by omega) (by omega) HN.out 4 (.slice ca (insL ([] : List V) 0 x).length cn))
    clear hlc hdc HN HCC
    go_simp
    refine hK.out _ _ t1' (fun hHeld => ?_)
    clear hK K
    (try simp only [Act.put, zA, zB, zC])
    (refine tjA 12 ?_; (try simp only [Act.put, zA, zB, zC]))
    refine ryA [13] ?_
    refine rA1 fun K hK => ?_
    go_simp
    have u0 : (w3.setCell ⟨w.heap.size, 4, none⟩ (.slice ca (insL ([] : List V) 0 x).length cn)).heap[w.heap.size]? = some (.cells #[.int .i64 4, .bool b, .int .i64 i, .string s, .slice ca (insL ([] : List V) 0 x).length cn, .slice am m.length cm] 25) := by rw [set_block t0']; rfl
    have u1 : (w3.setCell ⟨w.heap.size, 4, none⟩ (.slice ca (insL ([] : List V) 0 x).length cn)).heap[w.heap.size + 1]? = _ := (by rw [set_other (show w.heap.size + 1 ≠ w.heap.size by omega)] : (w3.setCell ⟨w.heap.size, 4, none⟩ (.slice ca (insL ([] : List V) 0 x).length cn)).heap[w.heap.size + 1]? = w3.heap[w.heap.size + 1]?).trans t1'
    have u2 : (w3.setCell ⟨w.heap.size, 4, none⟩ (.slice ca (insL ([] : List V) 0 x).length cn)).heap[w.heap.size + 2]? = _ := (by rw [set_other (show w.heap.size + 2 ≠ w.heap.size by omega)] : (w3.setCell ⟨w.heap.size, 4, none⟩ (.slice ca (insL ([] : List V) 0 x).length cn)).heap[w.heap.size + 2]? = w3.heap[w.heap.size + 2]?).trans t2'
    generalize (w3.setCell ⟨w.heap.size, 4, none⟩ (.slice ca (insL ([] : List V) 0 x).length cn)) = wz at *
    refine hK.out _ _ u1 (fun hHeld => ?_)
    clear hK K
    (try simp only [Act.put, zA, zB, zC])
    refine wpAnyH_done (by kernel_rfl) ?_ _
    (try dsimp only [Act.put, List.getElem_toArray, List.getElem_cons_succ, List.getElem_cons_zero, List.setIfInBounds_toArray, List.set_cons_zero, List.set_cons_succ])
    clear hHeld sc sf
    obtain ⟨v0, v1, v2, v3, v4, v5⟩ := sixC u0
    obtain ⟨z0, z1, z2, z3, z4, z5⟩ := sixC u2
    have fz := frozen_of_block u2
    go_wp2_with fail
    (try simp only [Exit.inBlock, Exit.then])
    refine bodyPost_ret (v := .tuple #[.agg #[.int .i64 4, .bool b, .int .i64 i, .string s, .slice ca (insL ([] : List V) 0 x).length cn, .slice am m.length cm], .int .i64 0]) ?_ rfl ?_
    rotate_left
    ·exact ⟨[.int .i64 4, .bool b, .int .i64 i, .string s, .slice ca (insL ([] : List V) 0 x).length cn, .slice am m.length cm], rfl, HE.out.1, HE.out.2⟩
    ·rw [results_cell_tmp rfl]
     go_simp
  ·go_simp
   refine hK.out _ _ (by first | exact hX1 | exact hHeld | exact hXA) (fun hHeld => ?_)
   clear hK K
   (try simp only [Act.put, zA, zB, zC])
   refine ryA [1] ?_
   refine rA1 fun K hK => ?_
   ·go_simp
    refine hK.out _ _ (by first | exact hX1 | exact hHeld | exact hXA) (fun hHeld => ?_)
    clear hK K
    (try simp only [Act.put, zA, zB, zC])
    (refine tjA 3 ?_; (try simp only [Act.put, zA, zB, zC]))
    (try rw [hsa])
    (try rw [hsx])
    refine ryA [10] ?_
    refine rA1 fun K hK => ?_
    go_simp
    refine hK.out _ _ hXB (fun hHeld => ?_)
    clear hK K
    (try simp only [Act.put, zA, zB, zC])
    refine ryA [11] ?_
    refine rA1 fun K hK => ?_
    go_simp
    generalize ((w1.alloc (.cells #[.int .i64 xk, .bool xb, .int .i64 xi, .string xs, .slice xal xnl xcl, .slice xam xnm xcm] 25)).alloc (.cells #[.slice none 0 0, .slice (some ⟨w1.heap.size, 0, none⟩) 1 1, .slice none 0 0] 22)).drew = wA at *
    refine HCC.out.mono ?_
    rintro e w3 ⟨ca, cn, cb, co, rfl, hdc, hlc, b3⟩
    have hz3 := b3.size
    have B3 := BA.trans (b3.mono BA.size)
    have t0' := (b3.block w.heap.size (by omega)).trans tA0
    have t1' := (b3.block (w.heap.size + 1) (by omega)).trans tA1
    have t2' := (b3.block (w.heap.size + 2) (by omega)).trans tA2
    have HN : Hid ((V.mk 4 b i s (insL ([] : List V) 0 x) m).lies false w3 (fun y => S y ∨ (wA.heap.size ≤ y ∧ y < w3.heap.size)) [.int .i64 4, .bool b, .int .i64 i, .string s, .slice ca (insL ([] : List V) 0 x).length cn, .slice am m.length cm]) := by
     rw [V.lies]
     exact ⟨ca, cn, cb, co, am, cm, bm, om, rfl, ik, ii, is, hdc, ham, hlc, (liesM_keep (fun h => h) (fun x hx => B3.block x (hS x hx)) (fun x hx => .inl hx) _ HLn.out), fun h => by cases h⟩
    have sc : w3.cell? ⟨w.heap.size, 4, none⟩ = some (.slice none 0 0) := by rw [cell_of_block t0']; rfl
    have sf : w3.frozen? ⟨w.heap.size, 4, none⟩ = false := frozen_of_block t0' 4
    have HE := hmk (ad_end hS B3 (show w.heap.size + 3 ≤ wA.heap.size by omega) (by omega) HN.out 4 (.slice ca (insL ([] : List V) 0 x).length cn))
    clear hlc hdc HN HCC
    go_simp
    refine hK.out _ _ t1' (fun hHeld => ?_)
    clear hK K
    (try simp only [Act.put, zA, zB, zC])
    (refine tjA 12 ?_; (try simp only [Act.put, zA, zB, zC]))
    refine ryA [13] ?_
    refine rA1 fun K hK => ?_
    go_simp
    have u0 : (w3.setCell ⟨w.heap.size, 4, none⟩ (.slice ca (insL ([] : List V) 0 x).length cn)).heap[w.heap.size]? = some (.cells #[.int .i64 4, .bool b, .int .i64 i, .string s, .slice ca (insL ([] : List V) 0 x).length cn, .slice am m.length cm] 25) := by rw [set_block t0']; rfl
    have u1 : (w3.setCell ⟨w.heap.size, 4, none⟩ (.slice ca (insL ([] : List V) 0 x).length cn)).heap[w.heap.size + 1]? = _ := (by rw [set_other (show w.heap.size + 1 ≠ w.heap.size by omega)] : (w3.setCell ⟨w.heap.size, 4, none⟩ (.slice ca (insL ([] : List V) 0 x).length cn)).heap[w.heap.size + 1]? = w3.heap[w.heap.size + 1]?).trans t1'
    have u2 : (w3.setCell ⟨w.heap.size, 4, none⟩ (.slice ca (insL ([] : List V) 0 x).length cn)).heap[w.heap.size + 2]? = _ := (by rw [set_other (show w.heap.size + 2 ≠ w.heap.size by omega)] : (w3.setCell ⟨w.heap.size, 4, none⟩ (.slice ca (insL ([] : List V) 0 x).length cn)).heap[w.heap.size + 2]? = w3.heap[w.heap.size + 2]?).trans t2'
    generalize (w3.setCell ⟨w.heap.size, 4, none⟩ (.slice ca (insL ([] : List V) 0 x).length cn)) = wz at *
    refine hK.out _ _ u1 (fun hHeld => ?_)
    clear hK K
    (try simp only [Act.put, zA, zB, zC])
    refine wpAnyH_done (by kernel_rfl) ?_ _
    (try dsimp only [Act.put, List.getElem_toArray, List.getElem_cons_succ, List.getElem_cons_zero, List.setIfInBounds_toArray, List.set_cons_zero, List.set_cons_succ])
    clear hHeld sc sf
    obtain ⟨v0, v1, v2, v3, v4, v5⟩ := sixC u0
    obtain ⟨z0, z1, z2, z3, z4, z5⟩ := sixC u2
    have fz := frozen_of_block u2
    go_wp2_with fail
    (try simp only [Exit.inBlock, Exit.then])
    refine bodyPost_ret (v := .tuple #[.agg #[.int .i64 4, .bool b, .int .i64 i, .string s, .slice ca (insL ([] : List V) 0 x).length cn, .slice am m.length cm], .int .i64 0]) ?_ rfl ?_
    rotate_left
    ·exact ⟨[.int .i64 4, .bool b, .int .i64 i, .string s, .slice ca (insL ([] : List V) 0 x).length cn, .slice am m.length cm], rfl, HE.out.1, HE.out.2⟩
    ·rw [results_cell_tmp rfl]
     go_simp
set_option maxHeartbeats 8000000 in
set_option maxRecDepth 100000 in
theorem addV_some (b : Bool) (i : Int) (s : ByteArray) (l : List V) (m : List Mem) (t : ByteArray) (x : V) (S : Nat → Prop) (al : Option Addr) (cl bl ol : Nat) (am : Option Addr) (cm bm om : Nat) (ds : List Value) (w : World) (tg : Tg w) (ik : In64 4) (ii : In64 i) (is : s.size ≤ maxLen) (hal : Headed al l.length cl bl ol) (ham : Headed am m.length cm bm om) (hl : liesL false w S l bl ol) (hm : liesM false w S m bm om) (hx : x.lies false w S ds) (hS : ∀ b, S b → b < w.heap.size) (hts : t.size ≤ 281474976710656) (htm : t.size ≤ maxLen) (hll : l.length ≤ 1114112) (hml : m.length ≤ 1114112) (p : Nat) (hg : gapF t l.length = some p) (hcase0 : l.length = 0) (hcase : ∃ ad, al = some ad) :
 Calls Tryz.prog 42 #[.agg #[.int .i64 4, .bool b, .int .i64 i, .string s, .slice al l.length cl, .slice am m.length cm], .string t, .agg ds.toArray] w (AdPost (.mk 4 b i s (insL l p x) m, 0) S w) := by
 obtain ⟨ad, rfl⟩ := hcase
 have hn0 : l = [] := List.length_eq_zero_iff.1 hcase0
 subst hn0
 have HL := hmk hl
 have HLn := hmk hm
 have HX : Hid (∀ W, Below w.heap.size w W → x.lies false W S ds) := fun W hb => lies_below hx hS hb
 have hone := (one_of_lies hx).2
 obtain ⟨xk, xb, xi, xs, xal, xnl, xcl, xam, xnm, xcm, rfl⟩ := V.ten hx
 clear hl hm hx
 have b2 : Below w.heap.size w ((w.alloc (.cells #[.int .i64 4, .bool b, .int .i64 i, .string s, .slice (some ad) 0 cl, .slice am m.length cm] 25)).alloc (.cells #[.int .i64 xk, .bool xb, .int .i64 xi, .string xs, .slice xal xnl xcl, .slice xam xnm xcm] 25)) := two_below w _ _
 have hz2 : ((w.alloc (.cells #[.int .i64 4, .bool b, .int .i64 i, .string s, .slice (some ad) 0 cl, .slice am m.length cm] 25)).alloc (.cells #[.int .i64 xk, .bool xb, .int .i64 xi, .string xs, .slice xal xnl xcl, .slice xam xnm xcm] 25)).heap.size = w.heap.size + 2 := by rw [alloc_size, alloc_size]
 have b3 : Below ((w.alloc (.cells #[.int .i64 4, .bool b, .int .i64 i, .string s, .slice (some ad) 0 cl, .slice am m.length cm] 25)).alloc (.cells #[.int .i64 xk, .bool xb, .int .i64 xi, .string xs, .slice xal xnl xcl, .slice xam xnm xcm] 25)).heap.size ((w.alloc (.cells #[.int .i64 4, .bool b, .int .i64 i, .string s, .slice (some ad) 0 cl, .slice am m.length cm] 25)).alloc (.cells #[.int .i64 xk, .bool xb, .int .i64 xi, .string xs, .slice xal xnl xcl, .slice xam xnm xcm] 25)) (((w.alloc (.cells #[.int .i64 4, .bool b, .int .i64 i, .string s, .slice (some ad) 0 cl, .slice am m.length cm] 25)).alloc (.cells #[.int .i64 xk, .bool xb, .int .i64 xi, .string xs, .slice xal xnl xcl, .slice xam xnm xcm] 25)).alloc (.cells #[.int .i64 0, .bool false, .int .i64 0, .string ⟨#[]⟩, .slice none 0 0, .slice none 0 0] 25)) := one_belowG _ _
 have B3_ : Below w.heap.size w (((w.alloc (.cells #[.int .i64 4, .bool b, .int .i64 i, .string s, .slice (some ad) 0 cl, .slice am m.length cm] 25)).alloc (.cells #[.int .i64 xk, .bool xb, .int .i64 xi, .string xs, .slice xal xnl xcl, .slice xam xnm xcm] 25)).alloc (.cells #[.int .i64 0, .bool false, .int .i64 0, .string ⟨#[]⟩, .slice none 0 0, .slice none 0 0] 25)) := b2.trans (b3.mono (by omega))
 have h0 := (b3.block w.heap.size (by omega)).trans (alloc2_keep1 w (.cells #[.int .i64 4, .bool b, .int .i64 i, .string s, .slice (some ad) 0 cl, .slice am m.length cm] 25) (.cells #[.int .i64 xk, .bool xb, .int .i64 xi, .string xs, .slice xal xnl xcl, .slice xam xnm xcm] 25))
 have h1 := (b3.block (w.heap.size + 1) (by omega)).trans (alloc2_new w (.cells #[.int .i64 4, .bool b, .int .i64 i, .string s, .slice (some ad) 0 cl, .slice am m.length cm] 25) (.cells #[.int .i64 xk, .bool xb, .int .i64 xi, .string xs, .slice xal xnl xcl, .slice xam xnm xcm] 25))
 have h2 := heap_alloc_new ((w.alloc (.cells #[.int .i64 4, .bool b, .int .i64 i, .string s, .slice (some ad) 0 cl, .slice am m.length cm] 25)).alloc (.cells #[.int .i64 xk, .bool xb, .int .i64 xi, .string xs, .slice xal xnl xcl, .slice xam xnm xcm] 25)) (.cells #[.int .i64 0, .bool false, .int .i64 0, .string ⟨#[]⟩, .slice none 0 0, .slice none 0 0] 25)
 rw [hz2] at h2
 have hz3 : w.heap.size + 3 ≤ (((w.alloc (.cells #[.int .i64 4, .bool b, .int .i64 i, .string s, .slice (some ad) 0 cl, .slice am m.length cm] 25)).alloc (.cells #[.int .i64 xk, .bool xb, .int .i64 xi, .string xs, .slice xal xnl xcl, .slice xam xnm xcm] 25)).alloc (.cells #[.int .i64 0, .bool false, .int .i64 0, .string ⟨#[]⟩, .slice none 0 0, .slice none 0 0] 25)).heap.size := by rw [alloc_size, hz2]; omega
 have hcl := hal.le
 have r0 : (((w.alloc (.cells #[.int .i64 4, .bool b, .int .i64 i, .string s, .slice (some ad) 0 cl, .slice am m.length cm] 25)).alloc (.cells #[.int .i64 xk, .bool xb, .int .i64 xi, .string xs, .slice xal xnl xcl, .slice xam xnm xcm] 25)).alloc (.cells #[.int .i64 0, .bool false, .int .i64 0, .string ⟨#[]⟩, .slice none 0 0, .slice none 0 0] 25)).cell? ⟨w.heap.size, 0, none⟩ = some (.int .i64 4) := by rw [cell_of_block h0]; rfl
 have r4 : (((w.alloc (.cells #[.int .i64 4, .bool b, .int .i64 i, .string s, .slice (some ad) 0 cl, .slice am m.length cm] 25)).alloc (.cells #[.int .i64 xk, .bool xb, .int .i64 xi, .string xs, .slice xal xnl xcl, .slice xam xnm xcm] 25)).alloc (.cells #[.int .i64 0, .bool false, .int .i64 0, .string ⟨#[]⟩, .slice none 0 0, .slice none 0 0] 25)).cell? ⟨w.heap.size, 4, none⟩ = some (.slice (some ad) 0 cl) := by rw [cell_of_block h0]; rfl
 have CM := hmk (gap_any t ([] : List V).length (((w.alloc (.cells #[.int .i64 4, .bool b, .int .i64 i, .string s, .slice (some ad) 0 cl, .slice am m.length cm] 25)).alloc (.cells #[.int .i64 xk, .bool xb, .int .i64 xi, .string xs, .slice xal xnl xcl, .slice xam xnm xcm] 25)).alloc (.cells #[.int .i64 0, .bool false, .int .i64 0, .string ⟨#[]⟩, .slice none 0 0, .slice none 0 0] 25)) hts (by omega) (tg.below B3_ tg.z))
 rw [hg] at CM
 have hpl := gap_le hg
 have hp0 : p = 0 := by simp only [List.length_nil] at hpl; omega
 subst hp0
 simp only [List.length_nil] at CM hal hll ⊢
 have y3 : (0 : Int) ≤ cl := by omega
 have HSA : Hid (Headed (some ad) 0 cl bl ol) := ⟨by omega, hal.max, .inl (by omega), fun e => by cases e⟩
 have HSX : Hid (Headed (some ad) 0 cl bl (ol + 0 * 6)) := ⟨by omega, by have := hal.max; omega, .inl (by omega), fun e => by cases e⟩
 go_enter Tryz.func42, Tryz.ntmps42
 go_wp2_with fail
 clear r0 r4
 generalize (((w.alloc (.cells #[.int .i64 4, .bool b, .int .i64 i, .string s, .slice (some ad) 0 cl, .slice am m.length cm] 25)).alloc (.cells #[.int .i64 xk, .bool xb, .int .i64 xi, .string xs, .slice xal xnl xcl, .slice xam xnm xcm] 25)).alloc (.cells #[.int .i64 0, .bool false, .int .i64 0, .string ⟨#[]⟩, .slice none 0 0, .slice none 0 0] 25)) = w0 at *
 refine CM.out.mono ?_
 rintro e w1 ⟨rfl, b1⟩
 have hz1 := b1.size
 have B1 := B3_.trans (b1.mono (by omega))
 have t0 := (b1.block w.heap.size (by omega)).trans h0
 have t1 := (b1.block (w.heap.size + 1) (by omega)).trans h1
 have t2 := (b1.block (w.heap.size + 2) (by omega)).trans h2
 clear h0 h1 h2 CM
 have h1 := t1
 have q1 : Below w1.heap.size w1 (w1.alloc (.cells #[.int .i64 xk, .bool xb, .int .i64 xi, .string xs, .slice xal xnl xcl, .slice xam xnm xcm] 25)) := one_belowG _ _
 have n1 := heap_alloc_new w1 (.cells #[.int .i64 xk, .bool xb, .int .i64 xi, .string xs, .slice xal xnl xcl, .slice xam xnm xcm] 25)
 have m1 : (w1.alloc (.cells #[.int .i64 xk, .bool xb, .int .i64 xi, .string xs, .slice xal xnl xcl, .slice xam xnm xcm] 25)).heap.size = w1.heap.size + 1 := alloc_size _ _
 have hX1 : (w1.alloc (.cells #[.int .i64 xk, .bool xb, .int .i64 xi, .string xs, .slice xal xnl xcl, .slice xam xnm xcm] 25)).heap[w.heap.size + 1]? = some (.cells #[.int .i64 xk, .bool xb, .int .i64 xi, .string xs, .slice xal xnl xcl, .slice xam xnm xcm] 25) := (q1.block _ (by omega)).trans t1
 have q2 : Below (w1.alloc (.cells #[.int .i64 xk, .bool xb, .int .i64 xi, .string xs, .slice xal xnl xcl, .slice xam xnm xcm] 25)).heap.size (w1.alloc (.cells #[.int .i64 xk, .bool xb, .int .i64 xi, .string xs, .slice xal xnl xcl, .slice xam xnm xcm] 25)) ((w1.alloc (.cells #[.int .i64 xk, .bool xb, .int .i64 xi, .string xs, .slice xal xnl xcl, .slice xam xnm xcm] 25)).alloc (.cells #[.slice (some ad) 0 cl, .slice (some ⟨w1.heap.size, 0, none⟩) 1 1, .slice (some ad) 0 cl] 22)).drew := (one_belowG _ _).drew
 have n2 : ((w1.alloc (.cells #[.int .i64 xk, .bool xb, .int .i64 xi, .string xs, .slice xal xnl xcl, .slice xam xnm xcm] 25)).alloc (.cells #[.slice (some ad) 0 cl, .slice (some ⟨w1.heap.size, 0, none⟩) 1 1, .slice (some ad) 0 cl] 22)).drew.heap[(w1.alloc (.cells #[.int .i64 xk, .bool xb, .int .i64 xi, .string xs, .slice xal xnl xcl, .slice xam xnm xcm] 25)).heap.size]? = _ := heap_alloc_new (w1.alloc (.cells #[.int .i64 xk, .bool xb, .int .i64 xi, .string xs, .slice xal xnl xcl, .slice xam xnm xcm] 25)) (.cells #[.slice (some ad) 0 cl, .slice (some ⟨w1.heap.size, 0, none⟩) 1 1, .slice (some ad) 0 cl] 22)
 have m2 : ((w1.alloc (.cells #[.int .i64 xk, .bool xb, .int .i64 xi, .string xs, .slice xal xnl xcl, .slice xam xnm xcm] 25)).alloc (.cells #[.slice (some ad) 0 cl, .slice (some ⟨w1.heap.size, 0, none⟩) 1 1, .slice (some ad) 0 cl] 22)).drew.heap.size = w1.heap.size + 2 := (alloc_size _ _).trans (by rw [m1])
 rw [m1] at n2
 have bA : Below w1.heap.size w1 ((w1.alloc (.cells #[.int .i64 xk, .bool xb, .int .i64 xi, .string xs, .slice xal xnl xcl, .slice xam xnm xcm] 25)).alloc (.cells #[.slice (some ad) 0 cl, .slice (some ⟨w1.heap.size, 0, none⟩) 1 1, .slice (some ad) 0 cl] 22)).drew := q1.trans (q2.mono (by omega))
 have BA := B1.trans (bA.mono B1.size)
 have tA0 := (bA.block w.heap.size (by omega)).trans t0
 have tA1 := (bA.block (w.heap.size + 1) (by omega)).trans t1
 have tA2 := (bA.block (w.heap.size + 2) (by omega)).trans t2
 have hXB := tA1
 have nA1 := (q2.block w1.heap.size (by omega)).trans n1
 have f4 : w1.cell? ⟨w.heap.size, 4, none⟩ = some (.slice (some ad) 0 cl) := by rw [cell_of_block t0]; rfl
 have g4 : (w1.alloc (.cells #[.int .i64 xk, .bool xb, .int .i64 xi, .string xs, .slice xal xnl xcl, .slice xam xnm xcm] 25)).cell? ⟨w.heap.size, 4, none⟩ = some (.slice (some ad) 0 cl) := by rw [cell_of_block ((q1.block w.heap.size (by omega)).trans t0)]; rfl
 have HCC : Hid (Calls Tryz.prog 67 #[.slice (some ⟨w1.heap.size + 1, 0, none⟩) 3 3] ((w1.alloc (.cells #[.int .i64 xk, .bool xb, .int .i64 xi, .string xs, .slice xal xnl xcl, .slice xam xnm xcm] 25)).alloc (.cells #[.slice (some ad) 0 cl, .slice (some ⟨w1.heap.size, 0, none⟩) 1 1, .slice (some ad) 0 cl] 22)).drew (fun e W' => ∃ ca cn cb co, e = .returned (.slice ca (insL ([] : List V) 0 x).length cn) ∧ Headed ca (insL ([] : List V) 0 x).length cn cb co ∧ liesL false W' (fun y => S y ∨ (((w1.alloc (.cells #[.int .i64 xk, .bool xb, .int .i64 xi, .string xs, .slice xal xnl xcl, .slice xam xnm xcm] 25)).alloc (.cells #[.slice (some ad) 0 cl, .slice (some ⟨w1.heap.size, 0, none⟩) 1 1, .slice (some ad) 0 cl] 22)).drew.heap.size ≤ y ∧ y < W'.heap.size)) (insL ([] : List V) 0 x) cb co ∧ Below ((w1.alloc (.cells #[.int .i64 xk, .bool xb, .int .i64 xi, .string xs, .slice xal xnl xcl, .slice xam xnm xcm] 25)).alloc (.cells #[.slice (some ad) 0 cl, .slice (some ⟨w1.heap.size, 0, none⟩) 1 1, .slice (some ad) 0 cl] 22)).drew.heap.size ((w1.alloc (.cells #[.int .i64 xk, .bool xb, .int .i64 xi, .string xs, .slice xal xnl xcl, .slice xam xnm xcm] 25)).alloc (.cells #[.slice (some ad) 0 cl, .slice (some ⟨w1.heap.size, 0, none⟩) 1 1, .slice (some ad) 0 cl] 22)).drew W')) := by
  show Calls _ _ _ _ _
  have hc0 := cell_of_block n2 0
  have hc1 := cell_of_block n2 1
  have hc2 := cell_of_block n2 2
  have hel : PL ((w1.alloc (.cells #[.int .i64 xk, .bool xb, .int .i64 xi, .string xs, .slice xal xnl xcl, .slice xam xnm xcm] 25)).alloc (.cells #[.slice (some ad) 0 cl, .slice (some ⟨w1.heap.size, 0, none⟩) 1 1, .slice (some ad) 0 cl] 22)).drew S (x, [.int .i64 xk, .bool xb, .int .i64 xi, .string xs, .slice xal xnl xcl, .slice xam xnm xcm]) := HX.out _ BA
  have hrow : rowAt ((w1.alloc (.cells #[.int .i64 xk, .bool xb, .int .i64 xi, .string xs, .slice xal xnl xcl, .slice xam xnm xcm] 25)).alloc (.cells #[.slice (some ad) 0 cl, .slice (some ⟨w1.heap.size, 0, none⟩) 1 1, .slice (some ad) 0 cl] 22)).drew w1.heap.size 0 [.int .i64 xk, .bool xb, .int .i64 xi, .string xs, .slice xal xnl xcl, .slice xam xnm xcm] := fun q u hu => by rw [Nat.zero_add, cell_of_block nA1]; simpa using hu
  generalize ((w1.alloc (.cells #[.int .i64 xk, .bool xb, .int .i64 xi, .string xs, .slice xal xnl xcl, .slice xam xnm xcm] 25)).alloc (.cells #[.slice (some ad) 0 cl, .slice (some ⟨w1.heap.size, 0, none⟩) 1 1, .slice (some ad) 0 cl] 22)).drew = WW at *
  obtain ⟨ps, e1, e2, e3, e4⟩ := segL (liesL_keep (fun h => h) (fun x hx => BA.block x (hS x hx)) (fun _ h => h) _ HL.out : liesL false WW S ([] : List V) bl ol)
  have hpp : ps.length = 0 := by have := congrArg List.length e1; simpa using this
  have h := concatV_any [⟨(some ad), (ps.map (fun q => q.2)).take 0, cl, bl, ol⟩, ⟨some ⟨w1.heap.size, 0, none⟩, [[.int .i64 xk, .bool xb, .int .i64 xi, .string xs, .slice xal xnl xcl, .slice xam xnm xcm]], 1, w1.heap.size, 0⟩, ⟨(some ad), (ps.map (fun q => q.2)).drop 0, cl, bl, ol + 0 * 6⟩] (fun y => S y ∨ y = w1.heap.size) (w1.heap.size + 1) 0 3 WW (fun i hi => by
   rcases i with _ | _ | _ | i
   ·show WW.cell? ⟨w1.heap.size + 1, 0 + 0, none⟩ = some (.slice (some ad) ((ps.map (fun q => q.2)).take 0).length cl)
    rw [List.length_take, List.length_map, hpp, Nat.min_eq_left (by omega)]; exact hc0
   ·exact hc1
   ·show WW.cell? ⟨w1.heap.size + 1, 0 + 2, none⟩ = some (.slice (some ad) ((ps.map (fun q => q.2)).drop 0).length cl)
    rw [List.length_drop, List.length_map, hpp]; exact hc2
   ·exact absurd hi (by simp only [List.length_cons, List.length_nil]; omega)) (by omega) (by simp) (fun g hg => by
   simp only [List.mem_cons, List.not_mem_nil, or_false] at hg
   rcases hg with rfl | rfl | rfl
   ·refine ⟨?_, e2.take 0, fun h => ?_⟩
    ·show Headed (some ad) ((ps.map (fun q => q.2)).take 0).length _ _ _
     rw [List.length_take, List.length_map, hpp, Nat.min_eq_left (by omega)]; exact HSA.out
    ·simp only [List.length_take, List.length_map] at h
     exact .inl (e4 (by omega))
   ·refine ⟨⟨Nat.le_refl _, by (show 1 ≤ maxLen; unfold maxLen; omega), .inr rfl, fun h => by cases h⟩, ⟨?_, ?_, ?_⟩, fun _ => .inr rfl⟩
    ·intro y hy; rw [List.mem_singleton.1 hy]; rfl
    ·intro y hy u hu
     rw [List.mem_singleton.1 hy] at hu
     exact hone u hu
    ·intro q hq
     have : q = 0 := by simpa using hq
     subst this
     exact hrow
   ·refine ⟨?_, e2.drop 0, fun h => ?_⟩
    ·show Headed (some ad) ((ps.map (fun q => q.2)).drop 0).length _ _ _
     rw [List.length_drop, List.length_map, hpp]; exact HSX.out
    ·simp only [List.length_drop, List.length_map] at h
     exact .inl (e4 (by omega))) (fun y hy => by
   rcases hy with hy | hy
   ·exact Nat.lt_of_lt_of_le (hS y hy) BA.size
   ·omega) (by simp [catR]; omega)
  refine h.mono ?_
  rintro e W' ⟨v', rfl, ow, bW⟩
  have hcat : catR [⟨(some ad), (ps.map (fun q => q.2)).take 0, cl, bl, ol⟩, ⟨some ⟨w1.heap.size, 0, none⟩, [[.int .i64 xk, .bool xb, .int .i64 xi, .string xs, .slice xal xnl xcl, .slice xam xnm xcm]], 1, w1.heap.size, 0⟩, ⟨(some ad), (ps.map (fun q => q.2)).drop 0, cl, bl, ol + 0 * 6⟩] = (insL ps 0 (x, [.int .i64 xk, .bool xb, .int .i64 xi, .string xs, .slice xal xnl xcl, .slice xam xnm xcm])).map (fun q => q.2) := by rw [insL_map]; simp [catR, insL]
  rw [hcat] at ow
  obtain ⟨ca, cn, cb, co, rfl, k2, k3⟩ := ownL (S := S) ow (fun q hq => by
   have hkp : ∀ y, S y → W'.heap[y]? = WW.heap[y]? := fun y hy => bW.block y (Nat.lt_of_lt_of_le (hS y hy) BA.size)
   rcases insL_mem hq with rfl | hq
   ·exact hel.keep hkp (fun _ h => h)
   ·exact (e3 q hq).keep hkp (fun _ h => h))
  rw [insL_map, e1] at k2 k3 ⊢
  exact ⟨ca, cn, cb, co, rfl, k2, k3, bW⟩
 have HLs := HCC
 go_wp2_with fail
 refine wp_region_held_drew (S := fun W => W.heap[w.heap.size + 1]? = some (.cells #[.int .i64 xk, .bool xb, .int .i64 xi, .string xs, .slice xal xnl xcl, .slice xam xnm xcm] 25)) (by kernel_rfl) h1 (fun hHeld => ?_)
 (refine tjA 0 ?_; (try simp only [Act.put, zA, zB, zC]))
 (refine tjA 2 ?_; (try simp only [Act.put, zA, zB, zC]))
 (refine tkA 4 ?_ ?_ ?_; rotate_left 1; (intro W0 hSw; (obtain ⟨e0, e1, e2, e3, e4, e5⟩ := sixC hSw); go_simp; (try with_reducible rfl)); (try simp only [Act.put, zA, zB, zC]))
 (refine tjA 6 ?_; (try simp only [Act.put, zA, zB, zC]))
 (refine tjA 8 ?_; (try simp only [Act.put, zA, zB, zC]))
 refine ryA [1, 5, 7] ?_
 refine rA3 (fun K hK => ?_) (fun K hK => ?_) fun K hK => ?_
 ·go_simp
  refine hK.out _ _ (by first | exact hX1 | exact hHeld | exact hXA) (fun hHeld => ?_)
  clear hK K
  (try simp only [Act.put, zA, zB, zC])
  (refine tjA 3 ?_; (try simp only [Act.put, zA, zB, zC]))
  refine ryA [5, 7] ?_
  refine rA2 (fun K hK => ?_) fun K hK => ?_
  ·go_simp
   refine hK.out _ _ (by first | exact hX1 | exact hHeld | exact hXA) (fun hHeld => ?_)
   clear hK K
   (try simp only [Act.put, zA, zB, zC])
   refine ryA [7] ?_
   refine rA1 fun K hK => ?_
   ·go_simp
    refine hK.out _ _ (by first | exact hX1 | exact hHeld | exact hXA) (fun hHeld => ?_)
    clear hK K
    (try simp only [Act.put, zA, zB, zC])
    (refine tjA 9 ?_; (try simp only [Act.put, zA, zB, zC]))
    (try rw [hsa])
    (try rw [hsx])
    refine ryA [10] ?_
    refine rA1 fun K hK => ?_
    go_simp
    refine hK.out _ _ hXB (fun hHeld => ?_)
    clear hK K
    (try simp only [Act.put, zA, zB, zC])
    refine ryA [11] ?_
    refine rA1 fun K hK => ?_
    go_simp
    generalize ((w1.alloc (.cells #[.int .i64 xk, .bool xb, .int .i64 xi, .string xs, .slice xal xnl xcl, .slice xam xnm xcm] 25)).alloc (.cells #[.slice (some ad) 0 cl, .slice (some ⟨w1.heap.size, 0, none⟩) 1 1, .slice (some ad) 0 cl] 22)).drew = wA at *
    refine HCC.out.mono ?_
    rintro e w3 ⟨ca, cn, cb, co, rfl, hdc, hlc, b3⟩
    have hz3 := b3.size
    have B3 := BA.trans (b3.mono BA.size)
    have t0' := (b3.block w.heap.size (by omega)).trans tA0
    have t1' := (b3.block (w.heap.size + 1) (by omega)).trans tA1
    have t2' := (b3.block (w.heap.size + 2) (by omega)).trans tA2
    have HN : Hid ((V.mk 4 b i s (insL ([] : List V) 0 x) m).lies false w3 (fun y => S y ∨ (wA.heap.size ≤ y ∧ y < w3.heap.size)) [.int .i64 4, .bool b, .int .i64 i, .string s, .slice ca (insL ([] : List V) 0 x).length cn, .slice am m.length cm]) := by
     rw [V.lies]
     exact ⟨ca, cn, cb, co, am, cm, bm, om, rfl, ik, ii, is, hdc, ham, hlc, (liesM_keep (fun h => h) (fun x hx => B3.block x (hS x hx)) (fun x hx => .inl hx) _ HLn.out), fun h => by cases h⟩
    have sc : w3.cell? ⟨w.heap.size, 4, none⟩ = some (.slice (some ad) 0 cl) := by rw [cell_of_block t0']; rfl
    have sf : w3.frozen? ⟨w.heap.size, 4, none⟩ = false := frozen_of_block t0' 4
    have HE := hmk (ad_end hS B3 (show w.heap.size + 3 ≤ wA.heap.size by omega) (by omega) HN.out 4 (.slice ca (insL ([] : List V) 0 x).length cn))
    clear hlc hdc HN HCC
    go_simp
    refine hK.out _ _ t1' (fun hHeld => ?_)
    clear hK K
    (try simp only [Act.put, zA, zB, zC])
    (refine tjA 12 ?_; (try simp only [Act.put, zA, zB, zC]))
    refine ryA [13] ?_
    refine rA1 fun K hK => ?_
    go_simp
    have u0 : (w3.setCell ⟨w.heap.size, 4, none⟩ (.slice ca (insL ([] : List V) 0 x).length cn)).heap[w.heap.size]? = some (.cells #[.int .i64 4, .bool b, .int .i64 i, .string s, .slice ca (insL ([] : List V) 0 x).length cn, .slice am m.length cm] 25) := by rw [set_block t0']; rfl
    have u1 : (w3.setCell ⟨w.heap.size, 4, none⟩ (.slice ca (insL ([] : List V) 0 x).length cn)).heap[w.heap.size + 1]? = _ := (by rw [set_other (show w.heap.size + 1 ≠ w.heap.size by omega)] : (w3.setCell ⟨w.heap.size, 4, none⟩ (.slice ca (insL ([] : List V) 0 x).length cn)).heap[w.heap.size + 1]? = w3.heap[w.heap.size + 1]?).trans t1'
    have u2 : (w3.setCell ⟨w.heap.size, 4, none⟩ (.slice ca (insL ([] : List V) 0 x).length cn)).heap[w.heap.size + 2]? = _ := (by rw [set_other (show w.heap.size + 2 ≠ w.heap.size by omega)] : (w3.setCell ⟨w.heap.size, 4, none⟩ (.slice ca (insL ([] : List V) 0 x).length cn)).heap[w.heap.size + 2]? = w3.heap[w.heap.size + 2]?).trans t2'
    generalize (w3.setCell ⟨w.heap.size, 4, none⟩ (.slice ca (insL ([] : List V) 0 x).length cn)) = wz at *
    refine hK.out _ _ u1 (fun hHeld => ?_)
    clear hK K
    (try simp only [Act.put, zA, zB, zC])
    refine wpAnyH_done (by kernel_rfl) ?_ _
    (try dsimp only [Act.put, List.getElem_toArray, List.getElem_cons_succ, List.getElem_cons_zero, List.setIfInBounds_toArray, List.set_cons_zero, List.set_cons_succ])
    clear hHeld sc sf
    obtain ⟨v0, v1, v2, v3, v4, v5⟩ := sixC u0
    obtain ⟨z0, z1, z2, z3, z4, z5⟩ := sixC u2
    have fz := frozen_of_block u2
    go_wp2_with fail
    (try simp only [Exit.inBlock, Exit.then])
    refine bodyPost_ret (v := .tuple #[.agg #[.int .i64 4, .bool b, .int .i64 i, .string s, .slice ca (insL ([] : List V) 0 x).length cn, .slice am m.length cm], .int .i64 0]) ?_ rfl ?_
    rotate_left
    ·exact ⟨[.int .i64 4, .bool b, .int .i64 i, .string s, .slice ca (insL ([] : List V) 0 x).length cn, .slice am m.length cm], rfl, HE.out.1, HE.out.2⟩
    ·rw [results_cell_tmp rfl]
     go_simp
  ·go_simp
   refine hK.out _ _ (by first | exact hX1 | exact hHeld | exact hXA) (fun hHeld => ?_)
   clear hK K
   (try simp only [Act.put, zA, zB, zC])
   (refine tjA 9 ?_; (try simp only [Act.put, zA, zB, zC]))
   refine ryA [5] ?_
   refine rA1 fun K hK => ?_
   ·go_simp
    refine hK.out _ _ (by first | exact hX1 | exact hHeld | exact hXA) (fun hHeld => ?_)
    clear hK K
    (try simp only [Act.put, zA, zB, zC])
    (try rw [hsa])
    (try rw [hsx])
    refine ryA [10] ?_
    refine rA1 fun K hK => ?_
    go_simp
    refine hK.out _ _ hXB (fun hHeld => ?_)
    clear hK K
    (try simp only [Act.put, zA, zB, zC])
    refine ryA [11] ?_
    refine rA1 fun K hK => ?_
    go_simp
    generalize ((w1.alloc (.cells #[.int .i64 xk, .bool xb, .int .i64 xi, .string xs, .slice xal xnl xcl, .slice xam xnm xcm] 25)).alloc (.cells #[.slice (some ad) 0 cl, .slice (some ⟨w1.heap.size, 0, none⟩) 1 1, .slice (some ad) 0 cl] 22)).drew = wA at *
    refine HCC.out.mono ?_
    rintro e w3 ⟨ca, cn, cb, co, rfl, hdc, hlc, b3⟩
    have hz3 := b3.size
    have B3 := BA.trans (b3.mono BA.size)
    have t0' := (b3.block w.heap.size (by omega)).trans tA0
    have t1' := (b3.block (w.heap.size + 1) (by omega)).trans tA1
    have t2' := (b3.block (w.heap.size + 2) (by omega)).trans tA2
    have HN : Hid ((V.mk 4 b i s (insL ([] : List V) 0 x) m).lies false w3 (fun y => S y ∨ (wA.heap.size ≤ y ∧ y < w3.heap.size)) [.int .i64 4, .bool b, .int .i64 i, .string s, .slice ca (insL ([] : List V) 0 x).length cn, .slice am m.length cm]) := by
     rw [V.lies]
     exact ⟨ca, cn, cb, co, am, cm, bm, om, rfl, ik, ii, is, hdc, ham, hlc, (liesM_keep (fun h => h) (fun x hx => B3.block x (hS x hx)) (fun x hx => .inl hx) _ HLn.out), fun h => by cases h⟩
    have sc : w3.cell? ⟨w.heap.size, 4, none⟩ = some (.slice (some ad) 0 cl) := by rw [cell_of_block t0']; rfl
    have sf : w3.frozen? ⟨w.heap.size, 4, none⟩ = false := frozen_of_block t0' 4
    have HE := hmk (ad_end hS B3 (show w.heap.size + 3 ≤ wA.heap.size by omega) (by omega) HN.out 4 (.slice ca (insL ([] : List V) 0 x).length cn))
    clear hlc hdc HN HCC
    go_simp
    refine hK.out _ _ t1' (fun hHeld => ?_)
    clear hK K
    (try simp only [Act.put, zA, zB, zC])
    (refine tjA 12 ?_; (try simp only [Act.put, zA, zB, zC]))
    refine ryA [13] ?_
    refine rA1 fun K hK => ?_
    go_simp
    have u0 : (w3.setCell ⟨w.heap.size, 4, none⟩ (.slice ca (insL ([] : List V) 0 x).length cn)).heap[w.heap.size]? = some (.cells #[.int .i64 4, .bool b, .int .i64 i, .string s, .slice ca (insL ([] : List V) 0 x).length cn, .slice am m.length cm] 25) := by rw [set_block t0']; rfl
    have u1 : (w3.setCell ⟨w.heap.size, 4, none⟩ (.slice ca (insL ([] : List V) 0 x).length cn)).heap[w.heap.size + 1]? = _ := (by rw [set_other (show w.heap.size + 1 ≠ w.heap.size by omega)] : (w3.setCell ⟨w.heap.size, 4, none⟩ (.slice ca (insL ([] : List V) 0 x).length cn)).heap[w.heap.size + 1]? = w3.heap[w.heap.size + 1]?).trans t1'
    have u2 : (w3.setCell ⟨w.heap.size, 4, none⟩ (.slice ca (insL ([] : List V) 0 x).length cn)).heap[w.heap.size + 2]? = _ := (by rw [set_other (show w.heap.size + 2 ≠ w.heap.size by omega)] : (w3.setCell ⟨w.heap.size, 4, none⟩ (.slice ca (insL ([] : List V) 0 x).length cn)).heap[w.heap.size + 2]? = w3.heap[w.heap.size + 2]?).trans t2'
    generalize (w3.setCell ⟨w.heap.size, 4, none⟩ (.slice ca (insL ([] : List V) 0 x).length cn)) = wz at *
    refine hK.out _ _ u1 (fun hHeld => ?_)
    clear hK K
    (try simp only [Act.put, zA, zB, zC])
    refine wpAnyH_done (by kernel_rfl) ?_ _
    (try dsimp only [Act.put, List.getElem_toArray, List.getElem_cons_succ, List.getElem_cons_zero, List.setIfInBounds_toArray, List.set_cons_zero, List.set_cons_succ])
    clear hHeld sc sf
    obtain ⟨v0, v1, v2, v3, v4, v5⟩ := sixC u0
    obtain ⟨z0, z1, z2, z3, z4, z5⟩ := sixC u2
    have fz := frozen_of_block u2
    go_wp2_with fail
    (try simp only [Exit.inBlock, Exit.then])
    refine bodyPost_ret (v := .tuple #[.agg #[.int .i64 4, .bool b, .int .i64 i, .string s, .slice ca (insL ([] : List V) 0 x).length cn, .slice am m.length cm], .int .i64 0]) ?_ rfl ?_
    rotate_left
    ·exact ⟨[.int .i64 4, .bool b, .int .i64 i, .string s, .slice ca (insL ([] : List V) 0 x).length cn, .slice am m.length cm], rfl, HE.out.1, HE.out.2⟩
    ·rw [results_cell_tmp rfl]
     go_simp
 ·go_simp
  refine hK.out _ _ (by first | exact hX1 | exact hHeld | exact hXA) (fun hHeld => ?_)
  clear hK K
  (try simp only [Act.put, zA, zB, zC])
  refine ryA [1, 7] ?_
  refine rA2 (fun K hK => ?_) fun K hK => ?_
  ·go_simp
   refine hK.out _ _ (by first | exact hX1 | exact hHeld | exact hXA) (fun hHeld => ?_)
   clear hK K
   (try simp only [Act.put, zA, zB, zC])
   (refine tjA 3 ?_; (try simp only [Act.put, zA, zB, zC]))
   refine ryA [7] ?_
   refine rA1 fun K hK => ?_
   ·go_simp
    refine hK.out _ _ (by first | exact hX1 | exact hHeld | exact hXA) (fun hHeld => ?_)
    clear hK K
    (try simp only [Act.put, zA, zB, zC])
    (refine tjA 9 ?_; (try simp only [Act.put, zA, zB, zC]))
    (try rw [hsa])
    (try rw [hsx])
    refine ryA [10] ?_
    refine rA1 fun K hK => ?_
    go_simp
    refine hK.out _ _ hXB (fun hHeld => ?_)
    clear hK K
    (try simp only [Act.put, zA, zB, zC])
    refine ryA [11] ?_
    refine rA1 fun K hK => ?_
    go_simp
    generalize ((w1.alloc (.cells #[.int .i64 xk, .bool xb, .int .i64 xi, .string xs, .slice xal xnl xcl, .slice xam xnm xcm] 25)).alloc (.cells #[.slice (some ad) 0 cl, .slice (some ⟨w1.heap.size, 0, none⟩) 1 1, .slice (some ad) 0 cl] 22)).drew = wA at *
    refine HCC.out.mono ?_
    rintro e w3 ⟨ca, cn, cb, co, rfl, hdc, hlc, b3⟩
    have hz3 := b3.size
    have B3 := BA.trans (b3.mono BA.size)
    have t0' := (b3.block w.heap.size (by omega)).trans tA0
    have t1' := (b3.block (w.heap.size + 1) (by omega)).trans tA1
    have t2' := (b3.block (w.heap.size + 2) (by omega)).trans tA2
    have HN : Hid ((V.mk 4 b i s (insL ([] : List V) 0 x) m).lies false w3 (fun y => S y ∨ (wA.heap.size ≤ y ∧ y < w3.heap.size)) [.int .i64 4, .bool b, .int .i64 i, .string s, .slice ca (insL ([] : List V) 0 x).length cn, .slice am m.length cm]) := by
     rw [V.lies]
     exact ⟨ca, cn, cb, co, am, cm, bm, om, rfl, ik, ii, is, hdc, ham, hlc, (liesM_keep (fun h => h) (fun x hx => B3.block x (hS x hx)) (fun x hx => .inl hx) _ HLn.out), fun h => by cases h⟩
    have sc : w3.cell? ⟨w.heap.size, 4, none⟩ = some (.slice (some ad) 0 cl) := by rw [cell_of_block t0']; rfl
    have sf : w3.frozen? ⟨w.heap.size, 4, none⟩ = false := frozen_of_block t0' 4
    have HE := hmk (ad_end hS B3 (show w.heap.size + 3 ≤ wA.heap.size by omega) (by omega) HN.out 4 (.slice ca (insL ([] : List V) 0 x).length cn))
    clear hlc hdc HN HCC
    go_simp
    refine hK.out _ _ t1' (fun hHeld => ?_)
    clear hK K
    (try simp only [Act.put, zA, zB, zC])
    (refine tjA 12 ?_; (try simp only [Act.put, zA, zB, zC]))
    refine ryA [13] ?_
    refine rA1 fun K hK => ?_
    go_simp
    have u0 : (w3.setCell ⟨w.heap.size, 4, none⟩ (.slice ca (insL ([] : List V) 0 x).length cn)).heap[w.heap.size]? = some (.cells #[.int .i64 4, .bool b, .int .i64 i, .string s, .slice ca (insL ([] : List V) 0 x).length cn, .slice am m.length cm] 25) := by rw [set_block t0']; rfl
    have u1 : (w3.setCell ⟨w.heap.size, 4, none⟩ (.slice ca (insL ([] : List V) 0 x).length cn)).heap[w.heap.size + 1]? = _ := (by rw [set_other (show w.heap.size + 1 ≠ w.heap.size by omega)] : (w3.setCell ⟨w.heap.size, 4, none⟩ (.slice ca (insL ([] : List V) 0 x).length cn)).heap[w.heap.size + 1]? = w3.heap[w.heap.size + 1]?).trans t1'
    have u2 : (w3.setCell ⟨w.heap.size, 4, none⟩ (.slice ca (insL ([] : List V) 0 x).length cn)).heap[w.heap.size + 2]? = _ := (by rw [set_other (show w.heap.size + 2 ≠ w.heap.size by omega)] : (w3.setCell ⟨w.heap.size, 4, none⟩ (.slice ca (insL ([] : List V) 0 x).length cn)).heap[w.heap.size + 2]? = w3.heap[w.heap.size + 2]?).trans t2'
    generalize (w3.setCell ⟨w.heap.size, 4, none⟩ (.slice ca (insL ([] : List V) 0 x).length cn)) = wz at *
    refine hK.out _ _ u1 (fun hHeld => ?_)
    clear hK K
    (try simp only [Act.put, zA, zB, zC])
    refine wpAnyH_done (by kernel_rfl) ?_ _
    (try dsimp only [Act.put, List.getElem_toArray, List.getElem_cons_succ, List.getElem_cons_zero, List.setIfInBounds_toArray, List.set_cons_zero, List.set_cons_succ])
    clear hHeld sc sf
    obtain ⟨v0, v1, v2, v3, v4, v5⟩ := sixC u0
    obtain ⟨z0, z1, z2, z3, z4, z5⟩ := sixC u2
    have fz := frozen_of_block u2
    go_wp2_with fail
    (try simp only [Exit.inBlock, Exit.then])
    refine bodyPost_ret (v := .tuple #[.agg #[.int .i64 4, .bool b, .int .i64 i, .string s, .slice ca (insL ([] : List V) 0 x).length cn, .slice am m.length cm], .int .i64 0]) ?_ rfl ?_
    rotate_left
    ·exact ⟨[.int .i64 4, .bool b, .int .i64 i, .string s, .slice ca (insL ([] : List V) 0 x).length cn, .slice am m.length cm], rfl, HE.out.1, HE.out.2⟩
    ·rw [results_cell_tmp rfl]
     go_simp
  ·go_simp
   refine hK.out _ _ (by first | exact hX1 | exact hHeld | exact hXA) (fun hHeld => ?_)
   clear hK K
   (try simp only [Act.put, zA, zB, zC])
   (refine tjA 9 ?_; (try simp only [Act.put, zA, zB, zC]))
   refine ryA [1] ?_
   refine rA1 fun K hK => ?_
   ·go_simp
    refine hK.out _ _ (by first | exact hX1 | exact hHeld | exact hXA) (fun hHeld => ?_)
    clear hK K
    (try simp only [Act.put, zA, zB, zC])
    (refine tjA 3 ?_; (try simp only [Act.put, zA, zB, zC]))
    (try rw [hsa])
    (try rw [hsx])
    refine ryA [10] ?_
    refine rA1 fun K hK => ?_
    go_simp
    refine hK.out _ _ hXB (fun hHeld => ?_)
    clear hK K
    (try simp only [Act.put, zA, zB, zC])
    refine ryA [11] ?_
    refine rA1 fun K hK => ?_
    go_simp
    generalize ((w1.alloc (.cells #[.int .i64 xk, .bool xb, .int .i64 xi, .string xs, .slice xal xnl xcl, .slice xam xnm xcm] 25)).alloc (.cells #[.slice (some ad) 0 cl, .slice (some ⟨w1.heap.size, 0, none⟩) 1 1, .slice (some ad) 0 cl] 22)).drew = wA at *
    refine HCC.out.mono ?_
    rintro e w3 ⟨ca, cn, cb, co, rfl, hdc, hlc, b3⟩
    have hz3 := b3.size
    have B3 := BA.trans (b3.mono BA.size)
    have t0' := (b3.block w.heap.size (by omega)).trans tA0
    have t1' := (b3.block (w.heap.size + 1) (by omega)).trans tA1
    have t2' := (b3.block (w.heap.size + 2) (by omega)).trans tA2
    have HN : Hid ((V.mk 4 b i s (insL ([] : List V) 0 x) m).lies false w3 (fun y => S y ∨ (wA.heap.size ≤ y ∧ y < w3.heap.size)) [.int .i64 4, .bool b, .int .i64 i, .string s, .slice ca (insL ([] : List V) 0 x).length cn, .slice am m.length cm]) := by
     rw [V.lies]
     exact ⟨ca, cn, cb, co, am, cm, bm, om, rfl, ik, ii, is, hdc, ham, hlc, (liesM_keep (fun h => h) (fun x hx => B3.block x (hS x hx)) (fun x hx => .inl hx) _ HLn.out), fun h => by cases h⟩
    have sc : w3.cell? ⟨w.heap.size, 4, none⟩ = some (.slice (some ad) 0 cl) := by rw [cell_of_block t0']; rfl
    have sf : w3.frozen? ⟨w.heap.size, 4, none⟩ = false := frozen_of_block t0' 4
    have HE := hmk (ad_end hS B3 (show w.heap.size + 3 ≤ wA.heap.size by omega) (by omega) HN.out 4 (.slice ca (insL ([] : List V) 0 x).length cn))
    clear hlc hdc HN HCC
    go_simp
    refine hK.out _ _ t1' (fun hHeld => ?_)
    clear hK K
    (try simp only [Act.put, zA, zB, zC])
    (refine tjA 12 ?_; (try simp only [Act.put, zA, zB, zC]))
    refine ryA [13] ?_
    refine rA1 fun K hK => ?_
    go_simp
    have u0 : (w3.setCell ⟨w.heap.size, 4, none⟩ (.slice ca (insL ([] : List V) 0 x).length cn)).heap[w.heap.size]? = some (.cells #[.int .i64 4, .bool b, .int .i64 i, .string s, .slice ca (insL ([] : List V) 0 x).length cn, .slice am m.length cm] 25) := by rw [set_block t0']; rfl
    have u1 : (w3.setCell ⟨w.heap.size, 4, none⟩ (.slice ca (insL ([] : List V) 0 x).length cn)).heap[w.heap.size + 1]? = _ := (by rw [set_other (show w.heap.size + 1 ≠ w.heap.size by omega)] : (w3.setCell ⟨w.heap.size, 4, none⟩ (.slice ca (insL ([] : List V) 0 x).length cn)).heap[w.heap.size + 1]? = w3.heap[w.heap.size + 1]?).trans t1'
    have u2 : (w3.setCell ⟨w.heap.size, 4, none⟩ (.slice ca (insL ([] : List V) 0 x).length cn)).heap[w.heap.size + 2]? = _ := (by rw [set_other (show w.heap.size + 2 ≠ w.heap.size by omega)] : (w3.setCell ⟨w.heap.size, 4, none⟩ (.slice ca (insL ([] : List V) 0 x).length cn)).heap[w.heap.size + 2]? = w3.heap[w.heap.size + 2]?).trans t2'
    generalize (w3.setCell ⟨w.heap.size, 4, none⟩ (.slice ca (insL ([] : List V) 0 x).length cn)) = wz at *
    refine hK.out _ _ u1 (fun hHeld => ?_)
    clear hK K
    (try simp only [Act.put, zA, zB, zC])
    refine wpAnyH_done (by kernel_rfl) ?_ _
    (try dsimp only [Act.put, List.getElem_toArray, List.getElem_cons_succ, List.getElem_cons_zero, List.setIfInBounds_toArray, List.set_cons_zero, List.set_cons_succ])
    clear hHeld sc sf
    obtain ⟨v0, v1, v2, v3, v4, v5⟩ := sixC u0
    obtain ⟨z0, z1, z2, z3, z4, z5⟩ := sixC u2
    have fz := frozen_of_block u2
    go_wp2_with fail
    (try simp only [Exit.inBlock, Exit.then])
    refine bodyPost_ret (v := .tuple #[.agg #[.int .i64 4, .bool b, .int .i64 i, .string s, .slice ca (insL ([] : List V) 0 x).length cn, .slice am m.length cm], .int .i64 0]) ?_ rfl ?_
    rotate_left
    ·exact ⟨[.int .i64 4, .bool b, .int .i64 i, .string s, .slice ca (insL ([] : List V) 0 x).length cn, .slice am m.length cm], rfl, HE.out.1, HE.out.2⟩
    ·rw [results_cell_tmp rfl]
     go_simp
 ·go_simp
  refine hK.out _ _ (by first | exact hX1 | exact hHeld | exact hXA) (fun hHeld => ?_)
  clear hK K
  (try simp only [Act.put, zA, zB, zC])
  (refine tjA 9 ?_; (try simp only [Act.put, zA, zB, zC]))
  refine ryA [1, 5] ?_
  refine rA2 (fun K hK => ?_) fun K hK => ?_
  ·go_simp
   refine hK.out _ _ (by first | exact hX1 | exact hHeld | exact hXA) (fun hHeld => ?_)
   clear hK K
   (try simp only [Act.put, zA, zB, zC])
   (refine tjA 3 ?_; (try simp only [Act.put, zA, zB, zC]))
   refine ryA [5] ?_
   refine rA1 fun K hK => ?_
   ·go_simp
    refine hK.out _ _ (by first | exact hX1 | exact hHeld | exact hXA) (fun hHeld => ?_)
    clear hK K
    (try simp only [Act.put, zA, zB, zC])
    (try rw [hsa])
    (try rw [hsx])
    refine ryA [10] ?_
    refine rA1 fun K hK => ?_
    go_simp
    refine hK.out _ _ hXB (fun hHeld => ?_)
    clear hK K
    (try simp only [Act.put, zA, zB, zC])
    refine ryA [11] ?_
    refine rA1 fun K hK => ?_
    go_simp
    generalize ((w1.alloc (.cells #[.int .i64 xk, .bool xb, .int .i64 xi, .string xs, .slice xal xnl xcl, .slice xam xnm xcm] 25)).alloc (.cells #[.slice (some ad) 0 cl, .slice (some ⟨w1.heap.size, 0, none⟩) 1 1, .slice (some ad) 0 cl] 22)).drew = wA at *
    refine HCC.out.mono ?_
    rintro e w3 ⟨ca, cn, cb, co, rfl, hdc, hlc, b3⟩
    have hz3 := b3.size
    have B3 := BA.trans (b3.mono BA.size)
    have t0' := (b3.block w.heap.size (by omega)).trans tA0
    have t1' := (b3.block (w.heap.size + 1) (by omega)).trans tA1
    have t2' := (b3.block (w.heap.size + 2) (by omega)).trans tA2
    have HN : Hid ((V.mk 4 b i s (insL ([] : List V) 0 x) m).lies false w3 (fun y => S y ∨ (wA.heap.size ≤ y ∧ y < w3.heap.size)) [.int .i64 4, .bool b, .int .i64 i, .string s, .slice ca (insL ([] : List V) 0 x).length cn, .slice am m.length cm]) := by
     rw [V.lies]
     exact ⟨ca, cn, cb, co, am, cm, bm, om, rfl, ik, ii, is, hdc, ham, hlc, (liesM_keep (fun h => h) (fun x hx => B3.block x (hS x hx)) (fun x hx => .inl hx) _ HLn.out), fun h => by cases h⟩
    have sc : w3.cell? ⟨w.heap.size, 4, none⟩ = some (.slice (some ad) 0 cl) := by rw [cell_of_block t0']; rfl
    have sf : w3.frozen? ⟨w.heap.size, 4, none⟩ = false := frozen_of_block t0' 4
    have HE := hmk (ad_end hS B3 (show w.heap.size + 3 ≤ wA.heap.size by omega) (by omega) HN.out 4 (.slice ca (insL ([] : List V) 0 x).length cn))
    clear hlc hdc HN HCC
    go_simp
    refine hK.out _ _ t1' (fun hHeld => ?_)
    clear hK K
    (try simp only [Act.put, zA, zB, zC])
    (refine tjA 12 ?_; (try simp only [Act.put, zA, zB, zC]))
    refine ryA [13] ?_
    refine rA1 fun K hK => ?_
    go_simp
    have u0 : (w3.setCell ⟨w.heap.size, 4, none⟩ (.slice ca (insL ([] : List V) 0 x).length cn)).heap[w.heap.size]? = some (.cells #[.int .i64 4, .bool b, .int .i64 i, .string s, .slice ca (insL ([] : List V) 0 x).length cn, .slice am m.length cm] 25) := by rw [set_block t0']; rfl
    have u1 : (w3.setCell ⟨w.heap.size, 4, none⟩ (.slice ca (insL ([] : List V) 0 x).length cn)).heap[w.heap.size + 1]? = _ := (by rw [set_other (show w.heap.size + 1 ≠ w.heap.size by omega)] : (w3.setCell ⟨w.heap.size, 4, none⟩ (.slice ca (insL ([] : List V) 0 x).length cn)).heap[w.heap.size + 1]? = w3.heap[w.heap.size + 1]?).trans t1'
    have u2 : (w3.setCell ⟨w.heap.size, 4, none⟩ (.slice ca (insL ([] : List V) 0 x).length cn)).heap[w.heap.size + 2]? = _ := (by rw [set_other (show w.heap.size + 2 ≠ w.heap.size by omega)] : (w3.setCell ⟨w.heap.size, 4, none⟩ (.slice ca (insL ([] : List V) 0 x).length cn)).heap[w.heap.size + 2]? = w3.heap[w.heap.size + 2]?).trans t2'
    generalize (w3.setCell ⟨w.heap.size, 4, none⟩ (.slice ca (insL ([] : List V) 0 x).length cn)) = wz at *
    refine hK.out _ _ u1 (fun hHeld => ?_)
    clear hK K
    (try simp only [Act.put, zA, zB, zC])
    refine wpAnyH_done (by kernel_rfl) ?_ _
    (try dsimp only [Act.put, List.getElem_toArray, List.getElem_cons_succ, List.getElem_cons_zero, List.setIfInBounds_toArray, List.set_cons_zero, List.set_cons_succ])
    clear hHeld sc sf
    obtain ⟨v0, v1, v2, v3, v4, v5⟩ := sixC u0
    obtain ⟨z0, z1, z2, z3, z4, z5⟩ := sixC u2
    have fz := frozen_of_block u2
    go_wp2_with fail
    (try simp only [Exit.inBlock, Exit.then])
    refine bodyPost_ret (v := .tuple #[.agg #[.int .i64 4, .bool b, .int .i64 i, .string s, .slice ca (insL ([] : List V) 0 x).length cn, .slice am m.length cm], .int .i64 0]) ?_ rfl ?_
    rotate_left
    ·exact ⟨[.int .i64 4, .bool b, .int .i64 i, .string s, .slice ca (insL ([] : List V) 0 x).length cn, .slice am m.length cm], rfl, HE.out.1, HE.out.2⟩
    ·rw [results_cell_tmp rfl]
     go_simp
  ·go_simp
   refine hK.out _ _ (by first | exact hX1 | exact hHeld | exact hXA) (fun hHeld => ?_)
   clear hK K
   (try simp only [Act.put, zA, zB, zC])
   refine ryA [1] ?_
   refine rA1 fun K hK => ?_
   ·go_simp
    refine hK.out _ _ (by first | exact hX1 | exact hHeld | exact hXA) (fun hHeld => ?_)
    clear hK K
    (try simp only [Act.put, zA, zB, zC])
    (refine tjA 3 ?_; (try simp only [Act.put, zA, zB, zC]))
    (try rw [hsa])
    (try rw [hsx])
    refine ryA [10] ?_
    refine rA1 fun K hK => ?_
    go_simp
    refine hK.out _ _ hXB (fun hHeld => ?_)
    clear hK K
    (try simp only [Act.put, zA, zB, zC])
    refine ryA [11] ?_
    refine rA1 fun K hK => ?_
    go_simp
    generalize ((w1.alloc (.cells #[.int .i64 xk, .bool xb, .int .i64 xi, .string xs, .slice xal xnl xcl, .slice xam xnm xcm] 25)).alloc (.cells #[.slice (some ad) 0 cl, .slice (some ⟨w1.heap.size, 0, none⟩) 1 1, .slice (some ad) 0 cl] 22)).drew = wA at *
    refine HCC.out.mono ?_
    rintro e w3 ⟨ca, cn, cb, co, rfl, hdc, hlc, b3⟩
    have hz3 := b3.size
    have B3 := BA.trans (b3.mono BA.size)
    have t0' := (b3.block w.heap.size (by omega)).trans tA0
    have t1' := (b3.block (w.heap.size + 1) (by omega)).trans tA1
    have t2' := (b3.block (w.heap.size + 2) (by omega)).trans tA2
    have HN : Hid ((V.mk 4 b i s (insL ([] : List V) 0 x) m).lies false w3 (fun y => S y ∨ (wA.heap.size ≤ y ∧ y < w3.heap.size)) [.int .i64 4, .bool b, .int .i64 i, .string s, .slice ca (insL ([] : List V) 0 x).length cn, .slice am m.length cm]) := by
     rw [V.lies]
     exact ⟨ca, cn, cb, co, am, cm, bm, om, rfl, ik, ii, is, hdc, ham, hlc, (liesM_keep (fun h => h) (fun x hx => B3.block x (hS x hx)) (fun x hx => .inl hx) _ HLn.out), fun h => by cases h⟩
    have sc : w3.cell? ⟨w.heap.size, 4, none⟩ = some (.slice (some ad) 0 cl) := by rw [cell_of_block t0']; rfl
    have sf : w3.frozen? ⟨w.heap.size, 4, none⟩ = false := frozen_of_block t0' 4
    have HE := hmk (ad_end hS B3 (show w.heap.size + 3 ≤ wA.heap.size by omega) (by omega) HN.out 4 (.slice ca (insL ([] : List V) 0 x).length cn))
    clear hlc hdc HN HCC
    go_simp
    refine hK.out _ _ t1' (fun hHeld => ?_)
    clear hK K
    (try simp only [Act.put, zA, zB, zC])
    (refine tjA 12 ?_; (try simp only [Act.put, zA, zB, zC]))
    refine ryA [13] ?_
    refine rA1 fun K hK => ?_
    go_simp
    have u0 : (w3.setCell ⟨w.heap.size, 4, none⟩ (.slice ca (insL ([] : List V) 0 x).length cn)).heap[w.heap.size]? = some (.cells #[.int .i64 4, .bool b, .int .i64 i, .string s, .slice ca (insL ([] : List V) 0 x).length cn, .slice am m.length cm] 25) := by rw [set_block t0']; rfl
    have u1 : (w3.setCell ⟨w.heap.size, 4, none⟩ (.slice ca (insL ([] : List V) 0 x).length cn)).heap[w.heap.size + 1]? = _ := (by rw [set_other (show w.heap.size + 1 ≠ w.heap.size by omega)] : (w3.setCell ⟨w.heap.size, 4, none⟩ (.slice ca (insL ([] : List V) 0 x).length cn)).heap[w.heap.size + 1]? = w3.heap[w.heap.size + 1]?).trans t1'
    have u2 : (w3.setCell ⟨w.heap.size, 4, none⟩ (.slice ca (insL ([] : List V) 0 x).length cn)).heap[w.heap.size + 2]? = _ := (by rw [set_other (show w.heap.size + 2 ≠ w.heap.size by omega)] : (w3.setCell ⟨w.heap.size, 4, none⟩ (.slice ca (insL ([] : List V) 0 x).length cn)).heap[w.heap.size + 2]? = w3.heap[w.heap.size + 2]?).trans t2'
    generalize (w3.setCell ⟨w.heap.size, 4, none⟩ (.slice ca (insL ([] : List V) 0 x).length cn)) = wz at *
    refine hK.out _ _ u1 (fun hHeld => ?_)
    clear hK K
    (try simp only [Act.put, zA, zB, zC])
    refine wpAnyH_done (by kernel_rfl) ?_ _
    (try dsimp only [Act.put, List.getElem_toArray, List.getElem_cons_succ, List.getElem_cons_zero, List.setIfInBounds_toArray, List.set_cons_zero, List.set_cons_succ])
    clear hHeld sc sf
    obtain ⟨v0, v1, v2, v3, v4, v5⟩ := sixC u0
    obtain ⟨z0, z1, z2, z3, z4, z5⟩ := sixC u2
    have fz := frozen_of_block u2
    go_wp2_with fail
    (try simp only [Exit.inBlock, Exit.then])
    refine bodyPost_ret (v := .tuple #[.agg #[.int .i64 4, .bool b, .int .i64 i, .string s, .slice ca (insL ([] : List V) 0 x).length cn, .slice am m.length cm], .int .i64 0]) ?_ rfl ?_
    rotate_left
    ·exact ⟨[.int .i64 4, .bool b, .int .i64 i, .string s, .slice ca (insL ([] : List V) 0 x).length cn, .slice am m.length cm], rfl, HE.out.1, HE.out.2⟩
    ·rw [results_cell_tmp rfl]
     go_simp
end Go.Proofs.YtgnofbigggmilaaGreatDoor
