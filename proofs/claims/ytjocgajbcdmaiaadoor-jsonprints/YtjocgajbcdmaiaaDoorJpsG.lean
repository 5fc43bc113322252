/- strconv.AppendBool; json.appendValue. -/
import Derived.Test.YtjocgajbcdmaiaaDoorJpsF
import Derived.Test.YtjocgajbcdmaiaaDoorShlI
set_option linter.unusedSimpArgs false
set_option linter.unusedVariables false
namespace Go.Proofs.YtjocgajbcdmaiaaDoor
open Go.RowKit Go.Lib

theorem hmk {p : Prop} (h : p) : Hid p := h

set_option maxHeartbeats 1000000 in
set_option maxRecDepth 100000 in
theorem appbool26 (b : Bool) (B : Nat) (bv : Value) (bs : List UInt8) (w : World) (hBw : B ≤ w.heap.size) (ho : Own B bv bs w) (hlen : bs.length ≤ 1000000000) :
    Calls Tryd.prog 26 #[bv, .bool b] w (ApPost B (bs ++ (if b = true then [116, 114, 117, 101] else [102, 97, 108, 115, 101])) w) := by
  cases b
  · go_enter Tryd.func26, Tryd.ntmps26
    go_wp2_with (at_builtin; go_loud (refine wpl_str _ rfl (.tmp 8) _ rfl B bv bs rfl ho ⟨#[102, 97, 108, 115, 101]⟩ rfl (by (try show _ + 5 ≤ _); omega) (by omega) ?_))
    intro v' w2 o2 b2
    go_wp2_with fail
    go_ret
    exact ⟨_, rfl, o2, b2⟩
  · go_enter Tryd.func26, Tryd.ntmps26
    go_wp2_with (at_builtin; go_loud (refine wpl_str _ rfl (.tmp 6) _ rfl B bv bs rfl ho ⟨#[116, 114, 117, 101]⟩ rfl (by (try show _ + 4 ≤ _); omega) (by omega) ?_))
    intro v' w2 o2 b2
    go_wp2_with fail
    go_ret
    exact ⟨_, rfl, o2, b2⟩
set_option maxHeartbeats 1000000 in
set_option maxRecDepth 100000 in
theorem appbool_any (b : Bool) (B : Nat) (bv : Value) (bs : List UInt8) (w : World) (hBw : B ≤ w.heap.size) (ho : Own B bv bs w) (hlen : bs.length ≤ 1000000000) :
    Calls Tryd.prog 17 #[bv, .bool b] w (ApPost B (bs ++ (if b = true then [116, 114, 117, 101] else [102, 97, 108, 115, 101])) w) := by
  have c := appbool26 b B bv bs w hBw ho hlen
  generalize (if b = true then ([116, 114, 117, 101] : List UInt8) else [102, 97, 108, 115, 101]) = T at *
  obtain ⟨bw, hbw⟩ : ∃ bw, Value.bool b = bw := ⟨_, rfl⟩
  rw [hbw] at c ⊢
  clear hbw
  go_enter Tryd.func17, Tryd.ntmps17
  go_wp2_with fail
  refine c.mono ?_
  rintro e w1 ⟨v1, rfl, h⟩
  go_wp2_with fail
  go_ret
  exact ⟨_, rfl, h⟩

set_option maxHeartbeats 4000000 in
set_option maxRecDepth 100000 in
theorem appval_any : ∀ x : V, AppV x := by
  refine V.ind_v ?_
  intro k b i s l m ihl ihm R S cs B bv bs w hx hS td hB3 hBw ho hp hwt hlen
  rw [V.lies] at hx
  obtain ⟨al, cl, bl, ol, am, cm, bm, om, rfl, hk, hi, hs, hal, ham, hl, hm, _⟩ := hx
  rw [prV] at hp
  obtain ⟨⟨hi64, hs6, _⟩, hv, hpl, hpm⟩ := hp
  rw [V.wt] at hwt hlen
  have nb := heap_alloc_new w (.cells #[.int .i64 k, .bool b, .int .i64 i, .string s, .slice al l.length cl, .slice am m.length cm] 25)
  have hza := alloc_size w (.cells #[.int .i64 k, .bool b, .int .i64 i, .string s, .slice al l.length cl, .slice am m.length cm] 25)
  have bA : Below B w (w.alloc (.cells #[.int .i64 k, .bool b, .int .i64 i, .string s, .slice al l.length cl, .slice am m.length cm] 25)) := (Below.refl B w).alloc (by omega) _
  have oA := ho.alloc (.cells #[.int .i64 k, .bool b, .int .i64 i, .string s, .slice al l.length cl, .slice am m.length cm] 25)
  have tA := td.below bA hB3 bA.size
  have hL : liesL R (w.alloc (.cells #[.int .i64 k, .bool b, .int .i64 i, .string s, .slice al l.length cl, .slice am m.length cm] 25)) S l bl ol := liesL_keep (fun h => h) (fun x hx => bA.block x (hS x hx)) (fun _ h => h) _ hl
  have hM : liesM R (w.alloc (.cells #[.int .i64 k, .bool b, .int .i64 i, .string s, .slice al l.length cl, .slice am m.length cm] 25)) S m bm om := liesM_keep (fun h => h) (fun x hx => bA.block x (hS x hx)) (fun _ h => h) _ hm
  have CB := hmk (appbool_any b B bv bs _ (by omega) oA (by omega))
  have CI := hmk (appint_any i hi64 B bv bs _ tA hB3 (by omega) oA (by omega))
  have CS := hmk (appstr_any s B bv bs _ tA (by omega) oA hs6 hv (by omega))
  have CL := hmk (applist_any l ihl R S al cl bl ol B bv bs _ hal hL hS tA hB3 (by omega) oA hpl (by omega) (by omega))
  have CM := hmk (appmap_any m ihm R S am cm bm om B bv bs _ ham hM hS tA hB3 (by omega) oA hpm (by omega) (by omega))
  have n0 : (w.alloc (.cells #[.int .i64 k, .bool b, .int .i64 i, .string s, .slice al l.length cl, .slice am m.length cm] 25)).cell? ⟨w.heap.size, 0, none⟩ = some (.int .i64 k) := by rw [cell_of_block nb]; rfl
  have n1 : (w.alloc (.cells #[.int .i64 k, .bool b, .int .i64 i, .string s, .slice al l.length cl, .slice am m.length cm] 25)).cell? ⟨w.heap.size, 1, none⟩ = some (.bool b) := by rw [cell_of_block nb]; rfl
  have n2 : (w.alloc (.cells #[.int .i64 k, .bool b, .int .i64 i, .string s, .slice al l.length cl, .slice am m.length cm] 25)).cell? ⟨w.heap.size, 2, none⟩ = some (.int .i64 i) := by rw [cell_of_block nb]; rfl
  have n3 : (w.alloc (.cells #[.int .i64 k, .bool b, .int .i64 i, .string s, .slice al l.length cl, .slice am m.length cm] 25)).cell? ⟨w.heap.size, 3, none⟩ = some (.string s) := by rw [cell_of_block nb]; rfl
  have n4 : (w.alloc (.cells #[.int .i64 k, .bool b, .int .i64 i, .string s, .slice al l.length cl, .slice am m.length cm] 25)).cell? ⟨w.heap.size, 4, none⟩ = some (.slice al l.length cl) := by rw [cell_of_block nb]; rfl
  have n5 : (w.alloc (.cells #[.int .i64 k, .bool b, .int .i64 i, .string s, .slice al l.length cl, .slice am m.length cm] 25)).cell? ⟨w.heap.size, 5, none⟩ = some (.slice am m.length cm) := by rw [cell_of_block nb]; rfl
  have HT : Hid (txtV (.mk k b i s l m) = if k = 1 then (if b = true then [116, 114, 117, 101] else [102, 97, 108, 115, 101])
    else if k = 2 then itoa i
    else if k = 3 then Q.qt s.data.toList
    else if k = 4 then 91 :: (joinB (txtL l) ++ [93])
    else if k = 5 then 123 :: (joinB (txtM m) ++ [125])
    else [110, 117, 108, 108]) := hmk (by rw [txtV])
  generalize txtV (.mk k b i s l m) = T at *
  clear hl hm hL hM ihl ihm hk hi hs hal ham hpl hpm hv td tA
  by_cases k1 : k = 1
  · have e : T = (if b = true then [116, 114, 117, 101] else [102, 97, 108, 115, 101]) := HT.out.trans (by rw [if_pos k1])
    rw [← e] at CB
    subst k1
    clear HT e CI CS CL CM
    go_enter Tryd.func12, Tryd.ntmps12
    go_wp2_with fail
    refine CB.out.mono ?_
    rintro e w1 ⟨v1, rfl, o1, b1⟩
    go_wp2_with fail
    go_ret
    exact ⟨_, rfl, o1, bA.trans b1⟩
  by_cases k2 : k = 2
  · have e : T = itoa i := HT.out.trans (by rw [if_neg k1, if_pos k2])
    rw [← e] at CI
    subst k2
    clear HT e CB CS CL CM
    go_enter Tryd.func12, Tryd.ntmps12
    go_wp2_with fail
    refine CI.out.mono ?_
    rintro e w1 ⟨v1, rfl, o1, b1⟩
    go_wp2_with fail
    go_ret
    exact ⟨_, rfl, o1, bA.trans b1⟩
  by_cases k3 : k = 3
  · have e : T = Q.qt s.data.toList := HT.out.trans (by rw [if_neg k1, if_neg k2, if_pos k3])
    rw [← e] at CS
    subst k3
    clear HT e CB CI CL CM
    go_enter Tryd.func12, Tryd.ntmps12
    go_wp2_with fail
    refine CS.out.mono ?_
    rintro e w1 ⟨v1, rfl, o1, b1⟩
    go_wp2_with fail
    go_ret
    exact ⟨_, rfl, o1, bA.trans b1⟩
  by_cases k4 : k = 4
  · have e : T = 91 :: (joinB (txtL l) ++ [93]) := HT.out.trans (by rw [if_neg k1, if_neg k2, if_neg k3, if_pos k4])
    rw [← e] at CL
    subst k4
    clear HT e CB CI CS CM
    go_enter Tryd.func12, Tryd.ntmps12
    go_wp2_with fail
    refine CL.out.mono ?_
    rintro e w1 ⟨v1, rfl, o1, b1⟩
    go_wp2_with fail
    go_ret
    exact ⟨_, rfl, o1, bA.trans b1⟩
  by_cases k5 : k = 5
  · have e : T = 123 :: (joinB (txtM m) ++ [125]) := HT.out.trans (by rw [if_neg k1, if_neg k2, if_neg k3, if_neg k4, if_pos k5])
    rw [← e] at CM
    subst k5
    clear HT e CB CI CS CL
    go_enter Tryd.func12, Tryd.ntmps12
    go_wp2_with fail
    refine CM.out.mono ?_
    rintro e w1 ⟨v1, rfl, o1, b1⟩
    go_wp2_with fail
    go_ret
    exact ⟨_, rfl, o1, bA.trans b1⟩
  · have e : T = [110, 117, 108, 108] := by rw [HT.out, if_neg k1, if_neg k2, if_neg k3, if_neg k4, if_neg k5]
    subst e
    clear HT CB CI CS CL CM
    go_enter Tryd.func12, Tryd.ntmps12
    go_wp2_with (at_builtin; go_loud (refine wpl_str _ rfl (.tmp 37) _ rfl B bv bs rfl oA ⟨#[110, 117, 108, 108]⟩ rfl (by (try show _ + 4 ≤ _); omega) (by omega) ?_))
    intro v' w2 o2 b2
    go_wp2_with fail
    go_ret
    exact ⟨_, rfl, o2, bA.trans b2⟩
end Go.Proofs.YtjocgajbcdmaiaaDoor
