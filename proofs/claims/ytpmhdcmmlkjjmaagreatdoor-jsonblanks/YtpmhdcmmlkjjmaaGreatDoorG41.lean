/- joined: JpsG PrtA RfD -/
import Derived.Test.YtpmhdcmmlkjjmaaGreatDoorG40
import Derived.Test.YtpmhdcmmlkjjmaaGreatDoorG36
import Derived.Deep.Cut
import Derived.Laws.ResultCell
/- strconv.AppendBool; json.appendValue. -/
set_option linter.unusedSimpArgs false
set_option linter.unusedVariables false
namespace Go.Proofs.YtpmhdcmmlkjjmaaGreatDoor
open Go.RowKit Go.Lib
set_option maxHeartbeats 1000000 in
set_option maxRecDepth 100000 in
theorem appbool26 (b : Bool) (B : Nat) (bv : Value) (bs : List UInt8) (w : World) (hBw : B ≤ w.heap.size) (ho : OwnB B bv bs w) (hlen : bs.length ≤ 1000000000) :
    Calls Tryz.prog 56 #[bv, .bool b] w (ApPost B (bs ++ (if b = true then [116, 114, 117, 101] else [102, 97, 108, 115, 101])) w) := by
  cases b
  · go_enter Tryz.func56, Tryz.ntmps56
    go_wp2_with (at_builtin; go_loud (refine wpl_str _ rfl (.tmp 8) _ rfl B bv bs rfl ho ⟨#[102, 97, 108, 115, 101]⟩ rfl (by (try show _ + 5 ≤ _); omega) (by omega) ?_))
    intro v' w2 o2 b2
    go_wp2_with fail
    go_ret
    exact ⟨_, rfl, o2, b2⟩
  · go_enter Tryz.func56, Tryz.ntmps56
    go_wp2_with (at_builtin; go_loud (refine wpl_str _ rfl (.tmp 6) _ rfl B bv bs rfl ho ⟨#[116, 114, 117, 101]⟩ rfl (by (try show _ + 4 ≤ _); omega) (by omega) ?_))
    intro v' w2 o2 b2
    go_wp2_with fail
    go_ret
    exact ⟨_, rfl, o2, b2⟩
set_option maxHeartbeats 1000000 in
set_option maxRecDepth 100000 in
theorem appbool_any (b : Bool) (B : Nat) (bv : Value) (bs : List UInt8) (w : World) (hBw : B ≤ w.heap.size) (ho : OwnB B bv bs w) (hlen : bs.length ≤ 1000000000) :
    Calls Tryz.prog 38 #[bv, .bool b] w (ApPost B (bs ++ (if b = true then [116, 114, 117, 101] else [102, 97, 108, 115, 101])) w) := by
  have c := appbool26 b B bv bs w hBw ho hlen
  generalize (if b = true then ([116, 114, 117, 101] : List UInt8) else [102, 97, 108, 115, 101]) = T at *
  obtain ⟨bw, hbw⟩ : ∃ bw, Value.bool b = bw := ⟨_, rfl⟩
  rw [hbw] at c ⊢
  clear hbw
  go_enter Tryz.func38, Tryz.ntmps38
  go_wp2_with fail
  refine c.mono ?_
  rintro e w1 ⟨v1, rfl, h⟩
  go_wp2_with fail
  go_ret
  exact ⟨_, rfl, h⟩
set_option maxHeartbeats 4000000 in
set_option maxRecDepth 100000 in
theorem appval_any : ∀ x : V, AppV x := by
  refine V.ind_v ?_
  intro k b i s l m ihl ihm R S cs B bv bs w hx hS td hB3 hBw ho hp hwt hlen
  rw [V.lies] at hx
  obtain ⟨al, cl, bl, ol, am, cm, bm, om, rfl, hk, hi, hs, hal, ham, hl, hm, _⟩ := hx
  rw [prV] at hp
  obtain ⟨⟨hi64, hs6, _⟩, hv, hpl, hpm⟩ := hp
  rw [V.wt] at hwt hlen
  have nb := heap_alloc_new w (.cells #[.int .i64 k, .bool b, .int .i64 i, .string s, .slice al l.length cl, .slice am m.length cm] 25)
  have hza := alloc_size w (.cells #[.int .i64 k, .bool b, .int .i64 i, .string s, .slice al l.length cl, .slice am m.length cm] 25)
  have bA : Below B w (w.alloc (.cells #[.int .i64 k, .bool b, .int .i64 i, .string s, .slice al l.length cl, .slice am m.length cm] 25)) := (Below.refl B w).alloc (by omega) _
  have oA := ho.alloc (.cells #[.int .i64 k, .bool b, .int .i64 i, .string s, .slice al l.length cl, .slice am m.length cm] 25)
  have tA := td.below bA hB3 bA.size
  have hL : liesL R (w.alloc (.cells #[.int .i64 k, .bool b, .int .i64 i, .string s, .slice al l.length cl, .slice am m.length cm] 25)) S l bl ol := liesL_keep (fun h => h) (fun x hx => bA.block x (hS x hx)) (fun _ h => h) _ hl
  have hM : liesM R (w.alloc (.cells #[.int .i64 k, .bool b, .int .i64 i, .string s, .slice al l.length cl, .slice am m.length cm] 25)) S m bm om := liesM_keep (fun h => h) (fun x hx => bA.block x (hS x hx)) (fun _ h => h) _ hm
  have CB := hmk (appbool_any b B bv bs _ (by omega) oA (by omega))
  have CI := hmk (appint_any i hi64 B bv bs _ tA hB3 (by omega) oA (by omega))
  have CS := hmk (appstr_any s B bv bs _ tA (by omega) oA hs6 hv (by omega))
  have CL := hmk (applist_any l ihl R S al cl bl ol B bv bs _ hal hL hS tA hB3 (by omega) oA hpl (by omega) (by omega))
  have CM := hmk (appmap_any m ihm R S am cm bm om B bv bs _ ham hM hS tA hB3 (by omega) oA hpm (by omega) (by omega))
  have n0 : (w.alloc (.cells #[.int .i64 k, .bool b, .int .i64 i, .string s, .slice al l.length cl, .slice am m.length cm] 25)).cell? ⟨w.heap.size, 0, none⟩ = some (.int .i64 k) := by rw [cell_of_block nb]; rfl
  have n1 : (w.alloc (.cells #[.int .i64 k, .bool b, .int .i64 i, .string s, .slice al l.length cl, .slice am m.length cm] 25)).cell? ⟨w.heap.size, 1, none⟩ = some (.bool b) := by rw [cell_of_block nb]; rfl
  have n2 : (w.alloc (.cells #[.int .i64 k, .bool b, .int .i64 i, .string s, .slice al l.length cl, .slice am m.length cm] 25)).cell? ⟨w.heap.size, 2, none⟩ = some (.int .i64 i) := by rw [cell_of_block nb]; rfl
  have n3 : (w.alloc (.cells #[.int .i64 k, .bool b, .int .i64 i, .string s, .slice al l.length cl, .slice am m.length cm] 25)).cell? ⟨w.heap.size, 3, none⟩ = some (.string s) := by rw [cell_of_block nb]; rfl
  have n4 : (w.alloc (.cells #[.int .i64 k, .bool b, .int .i64 i, .string s, .slice al l.length cl, .slice am m.length cm] 25)).cell? ⟨w.heap.size, 4, none⟩ = some (.slice al l.length cl) := by rw [cell_of_block nb]; rfl
  have n5 : (w.alloc (.cells #[.int .i64 k, .bool b, .int .i64 i, .string s, .slice al l.length cl, .slice am m.length cm] 25)).cell? ⟨w.heap.size, 5, none⟩ = some (.slice am m.length cm) := by rw [cell_of_block nb]; rfl
  have HT : Hid (txtV (.mk k b i s l m) = if k = 1 then (if b = true then [116, 114, 117, 101] else [102, 97, 108, 115, 101])
    else if k = 2 then itoa i
    else if k = 3 then Q.qt s.data.toList
    else if k = 4 then 91 :: (joinB (txtL l) ++ [93])
    else if k = 5 then 123 :: (joinB (txtM m) ++ [125])
    else [110, 117, 108, 108]) := hmk (by rw [txtV])
  generalize txtV (.mk k b i s l m) = T at *
  clear hl hm hL hM ihl ihm hk hi hs hal ham hpl hpm hv td tA
  by_cases k1 : k = 1
  · have e : T = (if b = true then [116, 114, 117, 101] else [102, 97, 108, 115, 101]) := HT.out.trans (by rw [if_pos k1])
    rw [← e] at CB
    subst k1
    clear HT e CI CS CL CM
    go_enter Tryz.func27, Tryz.ntmps27
    go_wp2_with fail
    refine CB.out.mono ?_
    rintro e w1 ⟨v1, rfl, o1, b1⟩
    go_wp2_with fail
    go_ret
    exact ⟨_, rfl, o1, bA.trans b1⟩
  by_cases k2 : k = 2
  · have e : T = itoa i := HT.out.trans (by rw [if_neg k1, if_pos k2])
    rw [← e] at CI
    subst k2
    clear HT e CB CS CL CM
    go_enter Tryz.func27, Tryz.ntmps27
    go_wp2_with fail
    refine CI.out.mono ?_
    rintro e w1 ⟨v1, rfl, o1, b1⟩
    go_wp2_with fail
    go_ret
    exact ⟨_, rfl, o1, bA.trans b1⟩
  by_cases k3 : k = 3
  · have e : T = Q.qt s.data.toList := HT.out.trans (by rw [if_neg k1, if_neg k2, if_pos k3])
    rw [← e] at CS
    subst k3
    clear HT e CB CI CL CM
    go_enter Tryz.func27, Tryz.ntmps27
    go_wp2_with fail
    refine CS.out.mono ?_
    rintro e w1 ⟨v1, rfl, o1, b1⟩
    go_wp2_with fail
    go_ret
    exact ⟨_, rfl, o1, bA.trans b1⟩
  by_cases k4 : k = 4
  · have e : T = 91 :: (joinB (txtL l) ++ [93]) := HT.out.trans (by rw [if_neg k1, if_neg k2, if_neg k3, if_pos k4])
    rw [← e] at CL
    subst k4
    clear HT e CB CI CS CM
    go_enter Tryz.func27, Tryz.ntmps27
    go_wp2_with fail
    refine CL.out.mono ?_
    rintro e w1 ⟨v1, rfl, o1, b1⟩
    go_wp2_with fail
    go_ret
    exact ⟨_, rfl, o1, bA.trans b1⟩
  by_cases k5 : k = 5
  · have e : T = 123 :: (joinB (txtM m) ++ [125]) := HT.out.trans (by rw [if_neg k1, if_neg k2, if_neg k3, if_neg k4, if_pos k5])
    rw [← e] at CM
    subst k5
    clear HT e CB CI CS CL
    go_enter Tryz.func27, Tryz.ntmps27
    go_wp2_with fail
    refine CM.out.mono ?_
    rintro e w1 ⟨v1, rfl, o1, b1⟩
    go_wp2_with fail
    go_ret
    exact ⟨_, rfl, o1, bA.trans b1⟩
  · have e : T = [110, 117, 108, 108] := by rw [HT.out, if_neg k1, if_neg k2, if_neg k3, if_neg k4, if_neg k5]
    subst e
    clear HT CB CI CS CL CM
    go_enter Tryz.func27, Tryz.ntmps27
    go_wp2_with (at_builtin; go_loud (refine wpl_str _ rfl (.tmp 37) _ rfl B bv bs rfl oA ⟨#[110, 117, 108, 108]⟩ rfl (by (try show _ + 4 ≤ _); omega) (by omega) ?_))
    intro v' w2 o2 b2
    go_wp2_with fail
    go_ret
    exact ⟨_, rfl, o2, bA.trans b2⟩
end Go.Proofs.YtpmhdcmmlkjjmaaGreatDoor
/- json.Print. -/
namespace Go.Proofs.YtpmhdcmmlkjjmaaGreatDoor
open Go.RowKit Go.Lib
/-- what Print answers: the error's number, and the bytes -/
def prF (v : V) (depth : Int) : Nat × List UInt8 := if chkE v depth ≠ 0 then (chkE v depth, []) else if 1048576 < (txtV v).length then (30, []) else (0, txtV v)
def PrPost (v : V) (depth : Int) (w : World) (e : Ending) (w' : World) : Prop := ∃ bv B, e = .returned (.tuple #[bv, .int .i64 ((prF v depth).1 : Int)]) ∧ OwnB B bv (prF v depth).2 w' ∧ w.heap.size ≤ B ∧ Below w.heap.size w w'
theorem own_none (B : Nat) (w : World) : OwnB B (.slice none 0 0) [] w := World.ownsRow_nil w B 5 1
theorem own_slice {B : Nat} {bv : Value} {l : List UInt8} {w : World} (h : OwnB B bv l w) : ∃ a c, bv = .slice a l.length c := by
  rcases h.2 with ⟨rfl, e⟩ | ⟨g, cap, cur, rfl, _⟩
  · rw [e]; exact ⟨_, _, rfl⟩
  · exact ⟨_, _, rfl⟩
set_option maxHeartbeats 1000000 in
set_option maxRecDepth 100000 in
theorem print_any (v : V) (depth : Int) (S : Nat → Prop) (cs : List Value) (w : World) (td : Tdl w) (hv : v.lies false w S cs) (hS : ∀ b, S b → b < w.heap.size) (hwt : v.wt ≤ 2147483648) :
    Calls Tryz.prog 11 #[.agg cs.toArray, .int .i64 depth] w (PrPost v depth w) := by
  obtain ⟨k, b, i, s, al, nl, cl, am, nm, cm, rfl⟩ := V.ten hv
  have hb0 := box_row w [.int .i64 k, .bool b, .int .i64 i, .string s, .slice al nl cl, .slice am nm cm] 25
  have hz0 := alloc_size w (.cells #[.int .i64 k, .bool b, .int .i64 i, .string s, .slice al nl cl, .slice am nm cm] 25)
  have B0 : Below w.heap.size w (w.alloc (.cells #[.int .i64 k, .bool b, .int .i64 i, .string s, .slice al nl cl, .slice am nm cm] 25)) := (Below.refl _ _).alloc (Nat.le_refl _) _
  have HV : Hid (∀ W, Below w.heap.size w W → v.lies false W S [.int .i64 k, .bool b, .int .i64 i, .string s, .slice al nl cl, .slice am nm cm] ∧ (∀ b, S b → b < W.heap.size) ∧ Tdl W) := fun W hb => ⟨V.lies_keep (fun h => h) (fun x hx => hb.block x (hS x hx)) (fun _ h => h) _ hv, fun x hx => Nat.lt_of_lt_of_le (hS x hx) hb.size, td.below hb td.z hb.size⟩
  have HP : Hid (chkE v depth = 0 → prV v ∧ v.wt ≤ 1114112 ∧ (txtV v).length + 5 ≤ 40 * v.wt) := fun h => by
    obtain ⟨h1, h2⟩ := chkE_pr h hv
    exact ⟨h1, h2, txtV_len v h1⟩
  have HF : Hid (prF v depth = if chkE v depth ≠ 0 then (chkE v depth, []) else if 1048576 < (txtV v).length then (30, []) else (0, txtV v)) := rfl
  have hz3 := td.z
  clear hv td hS
  go_enter Tryz.func11, Tryz.ntmps11
  go_wp2_with fail
  generalize (w.alloc (.cells #[.int .i64 k, .bool b, .int .i64 i, .string s, .slice al nl cl, .slice am nm cm] 25)) = w0 at *
  refine (check_any false v depth S _ w0 ⟨(HV.out w0 B0).2.2.u, by omega⟩ (HV.out w0 B0).1 (HV.out w0 B0).2.1 (by omega)).mono ?_
  rintro e w1 ⟨rfl, b1⟩
  have hz1 := b1.size
  have B1 := B0.trans (b1.mono (by omega))
  obtain ⟨d0, d1, d2, d3, d4, d5⟩ := row6z (hb0.keep (b1.block _ (by omega)))
  clear hb0
  obtain ⟨F, hFE⟩ : ∃ F, prF v depth = F := ⟨_, rfl⟩
  have HFE : Hid (prF v depth = F) := hFE
  rw [hFE] at HF
  clear hFE
  generalize chkE v depth = r at *
  by_cases hr : r = 0
  · subst hr
    obtain ⟨hp, hw, htl⟩ := HP.out rfl
    have HA : Hid (AppV v) := appval_any v
    have CA := hmk (HA.out false S _ w1.heap.size (.slice none 0 0) [] w1 (HV.out w1 B1).1 (HV.out w1 B1).2.1 (HV.out w1 B1).2.2 (by omega) (Nat.le_refl _) (own_none _ _) hp hw (by simp only [List.length_nil]; omega))
    rw [List.nil_append] at CA
    have HF2 : Hid (F = if 1048576 < (txtV v).length then (30, []) else (0, txtV v)) := hmk (by rw [HF.out, if_neg (by simp)])
    clear HF HP HA
    generalize txtV v = T at *
    go_wp2_with fail
    refine CA.out.mono ?_
    rintro e w2 ⟨bv, rfl, o2, b2⟩
    have hz2 := b2.size
    have B2 := B1.trans (b2.mono (by omega))
    obtain ⟨a, c, rfl⟩ := own_slice o2
    clear d0 d1 d2 d3 d4 d5 CA
    by_cases hT : 1048576 < T.length
    · have y1 : (T.length : Int) > 1048576 := by omega
      have y2 : (1048576 : Int) < T.length := by omega
      have e : F = (30, []) := HF2.out.trans (if_pos hT)
      subst e
      clear HF2 hT
      go_wp2_with fail
      go_ret2
      exact ⟨_, w2.heap.size, by rw [HFE.out]; rfl, by rw [HFE.out]; exact own_none _ _, by omega, B2⟩
    · have y1 : ¬ (T.length : Int) > 1048576 := by omega
      have y2 : ¬ (1048576 : Int) < T.length := by omega
      have e : F = (0, T) := HF2.out.trans (if_neg hT)
      subst e
      clear HF2 hT
      go_wp2_with fail
      go_ret2
      exact ⟨_, w1.heap.size, by rw [HFE.out]; rfl, by rw [HFE.out]; exact o2, by omega, B2⟩
  · have y1 : ((r : Int) != 0) = true := by simp [hr]
    have y2 : ¬ (r : Int) = 0 := by omega
    have e : F = (r, []) := HF.out.trans (if_pos hr)
    subst e
    clear HF HP hr
    go_wp2_with fail
    go_ret2
    exact ⟨_, w1.heap.size, by rw [HFE.out]; rfl, by rw [HFE.out]; exact own_none _ _, by omega, B1⟩
end Go.Proofs.YtpmhdcmmlkjjmaaGreatDoor
/- freeholdref02: walk. -/
set_option maxRecDepth 100000
namespace Go.Proofs.YtpmhdcmmlkjjmaaGreatDoor
open Go.RowKit Go.Lib
structure RwF (w : World) (box : Array Value) (n y : Nat) (wr : World) : Prop where
  below : Below w.heap.size w wr
  b0 : wr.heap[w.heap.size]? = some (.cells box 25 (0, 0))
  b1 : wr.heap[w.heap.size + 1]? = some (.cells #[.int .i64 (n : Int), .int .i64 (y : Int)] 97 (0, 0))
  b2 : wr.heap[w.heap.size + 1 + 1]? = some (.cells #[.int .i64 0, .int .i64 0] 97 (0, 0))
theorem RwF.lt {w : World} {box : Array Value} {n y : Nat} {wr : World} (h : RwF w box n y wr) : w.heap.size + 3 ≤ wr.heap.size := (Array.getElem?_eq_some_iff.1 h.b2).1
theorem RwF.grown {w : World} {box : Array Value} {n y : Nat} {wr wr' : World} (h : RwF w box n y wr) (g : wr.grownBy wr' none) : RwF w box n y wr' := by
  have hs := h.lt
  exact ⟨h.below.grown g (by omega) (fun r e => by cases e), (g.block _ (by omega) (by simp)).trans h.b0, (g.block _ (by omega) (by simp)).trans h.b1, (g.block _ (by omega) (by simp)).trans h.b2⟩
end Go.Proofs.YtpmhdcmmlkjjmaaGreatDoor
