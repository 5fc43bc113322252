/- joined: ShlJ JpsG PrtA -/
import Derived.Shelf.Strconv.AppendIntPublic10
import Derived.Test.YtpmhdcmmlkjjmaaGreatDoorH28
/- strconv.AppendInt by its contract, laid at this program. -/
namespace Go.Proofs
open Go.Shelf Go.RowKit
def Tryz.lays176_ren : Go.Shelf.Ren := ⟨fun | 129 => 124 | 176 => 39 | 249 => 57 | 283 => 99 | 284 => 100 | 285 => 101 | 286 => 102 | 288 => 76 | 317 => 123 | 318 => 125 | 319 => 126 | 320 => 127 | 337 => 141 | 338 => 142 | n => n, fun | 0 => 0 | 2 => 2 | 3 => 3 | 4 => 4 | 5 => 5 | 9 => 9 | 20 => 20 | 37 => 28 | 46 => 95 | 51 => 127 | 53 => 105 | 171 => 135 | 173 => 138 | 212 => 155 | 213 => 156 | 232 => 183 | 233 => 184 | n => n, fun | 17 => 3 | 18 => 5 | 19 => 6 | n => n⟩
set_option maxRecDepth 100000 in
theorem Tryz.lays176 : Go.Proofs.LaysM.n176 Tryz.prog Tryz.lays176_ren := {
  mixed := by kernel_rfl
  f129 := Tryz.func124.trans (congrArg some (by kernel_rfl))
  f176 := Tryz.func39.trans (congrArg some (by kernel_rfl))
  f249 := Tryz.func57.trans (congrArg some (by kernel_rfl))
  f283 := Tryz.func99.trans (congrArg some (by kernel_rfl))
  f284 := Tryz.func100.trans (congrArg some (by kernel_rfl))
  f285 := Tryz.func101.trans (congrArg some (by kernel_rfl))
  f286 := Tryz.func102.trans (congrArg some (by kernel_rfl))
  f288 := Tryz.func76.trans (congrArg some (by kernel_rfl))
  f317 := Tryz.func123.trans (congrArg some (by kernel_rfl))
  f318 := Tryz.func125.trans (congrArg some (by kernel_rfl))
  f319 := Tryz.func126.trans (congrArg some (by kernel_rfl))
  f320 := Tryz.func127.trans (congrArg some (by kernel_rfl))
  f337 := Tryz.func141.trans (congrArg some (by kernel_rfl))
  f338 := Tryz.func142.trans (congrArg some (by kernel_rfl))
  t0 := Tryz.underlying0
  a0 := Tryz.isAgg0
  z0 := Tryz.sizeOf0
  v0 := Tryz.zeroValue0
  t2 := Tryz.underlying2
  a2 := Tryz.isAgg2
  z2 := Tryz.sizeOf2
  v2 := Tryz.zeroValue2
  t3 := Tryz.underlying3
  a3 := Tryz.isAgg3
  z3 := Tryz.sizeOf3
  v3 := Tryz.zeroValue3
  t4 := Tryz.underlying4
  a4 := Tryz.isAgg4
  z4 := Tryz.sizeOf4
  v4 := Tryz.zeroValue4
  t5 := Tryz.underlying5
  a5 := Tryz.isAgg5
  z5 := Tryz.sizeOf5
  v5 := Tryz.zeroValue5
  t9 := Tryz.underlying9
  a9 := Tryz.isAgg9
  z9 := Tryz.sizeOf9
  v9 := Tryz.zeroValue9
  t20 := Tryz.underlying20
  a20 := Tryz.isAgg20
  z20 := Tryz.sizeOf20
  v20 := Tryz.zeroValue20
  t37 := Tryz.underlying28
  a37 := Tryz.isAgg28
  z37 := Tryz.sizeOf28
  v37 := Tryz.zeroValue28
  t46 := Tryz.underlying95
  a46 := Tryz.isAgg95
  z46 := Tryz.sizeOf95
  v46 := Tryz.zeroValue95
  t51 := Tryz.underlying127
  a51 := Tryz.isAgg127
  z51 := Tryz.sizeOf127
  v51 := Tryz.zeroValue127
  t53 := Tryz.underlying105
  a53 := Tryz.isAgg105
  z53 := Tryz.sizeOf105
  v53 := Tryz.zeroValue105
  t171 := Tryz.underlying135
  a171 := Tryz.isAgg135
  z171 := Tryz.sizeOf135
  v171 := Tryz.zeroValue135
  t173 := Tryz.underlying138
  a173 := Tryz.isAgg138
  z173 := Tryz.sizeOf138
  v173 := Tryz.zeroValue138
  t212 := Tryz.underlying155
  a212 := Tryz.isAgg155
  z212 := Tryz.sizeOf155
  v212 := Tryz.zeroValue155
  t213 := Tryz.underlying156
  a213 := Tryz.isAgg156
  z213 := Tryz.sizeOf156
  t232 := Tryz.underlying183
  a232 := Tryz.isAgg183
  z232 := Tryz.sizeOf183
  v232 := Tryz.zeroValue183
  t233 := Tryz.underlying184
  a233 := Tryz.isAgg184
  z233 := Tryz.sizeOf184
  v233 := Tryz.zeroValue184
  g17 := by kernel_rfl
  g18 := by kernel_rfl
  g19 := by kernel_rfl
  i0 := by kernel_rfl
  i2 := by kernel_rfl
  i3 := by kernel_rfl
  i4 := by kernel_rfl
  i5 := by kernel_rfl
  i9 := by kernel_rfl
  i20 := by kernel_rfl
  i37 := by kernel_rfl
  i46 := by kernel_rfl
  i51 := by kernel_rfl
  i53 := by kernel_rfl
  i171 := by kernel_rfl
  i173 := by kernel_rfl
  i212 := by kernel_rfl
  i232 := by kernel_rfl
  i233 := by kernel_rfl
  m17 := by kernel_rfl
  m18 := by kernel_rfl
  m19 := by kernel_rfl }
namespace YtpmhdcmmlkjjmaaGreatDoor
open Go.Lib
theorem appint_any (i : Int) (hi : In64 i) (B : Nat) (bv : Value) (bs : List UInt8) (w : World) (td : Tdl w) (hB3 : 9 < B) (hBw : B ≤ w.heap.size) (ho : OwnB B bv bs w) (hlen : bs.length ≤ 1000000000) :
    Calls Tryz.prog 39 #[bv, .int .i64 i, .int .i64 10] w (ApPost B (bs ++ itoa i) w) := by
  have htab : TabBelow Tryz.prog B w "internal/strconv.uint64pow10" .u64 pow10Tab := fun w' hb => td.p.below hb hB3
  have c := Any.strconv_AppendInt_10 Tryz.lays176 B bs.length i hi.1 hi.2 bv (byteCells bs) w ho hBw (by omega) htab
  refine c.mono ?_
  rintro e w' ⟨v', rfl, h1, h2, _⟩
  refine ⟨v', rfl, ?_, h2⟩
  show w'.ownsRow B 5 1 v' (bs ++ itoa i).length (byteCells (bs ++ itoa i))
  have e : byteCells (bs ++ itoa i) = byteCells bs ++ byteCells (itoa i) := by simp [byteCells]
  rw [e, List.length_append]
  exact h1
end YtpmhdcmmlkjjmaaGreatDoor
end Go.Proofs
/- strconv.AppendBool; json.appendValue. -/
set_option linter.unusedSimpArgs false
set_option linter.unusedVariables false
namespace Go.Proofs.YtpmhdcmmlkjjmaaGreatDoor
open Go.RowKit Go.Lib
set_option maxHeartbeats 1000000 in
set_option maxRecDepth 100000 in
theorem appbool26 (b : Bool) (B : Nat) (bv : Value) (bs : List UInt8) (w : World) (hBw : B ≤ w.heap.size) (ho : OwnB B bv bs w) (hlen : bs.length ≤ 1000000000) :
    Calls Tryz.prog 56 #[bv, .bool b] w (ApPost B (bs ++ (if b = true then [116, 114, 117, 101] else [102, 97, 108, 115, 101])) w) := by
  cases b
  · go_enter Tryz.func56, Tryz.ntmps56
    go_wp2_with (at_builtin; go_loud (refine wpl_str _ rfl (.tmp 8) _ rfl B bv bs rfl ho ⟨#[102, 97, 108, 115, 101]⟩ rfl (by (try show _ + 5 ≤ _); omega) (by omega) ?_))
    intro v' w2 o2 b2
    go_wp2_with fail
    go_ret
    exact ⟨_, rfl, o2, b2⟩
  · go_enter Tryz.func56, Tryz.ntmps56
    go_wp2_with (at_builtin; go_loud (refine wpl_str _ rfl (.tmp 6) _ rfl B bv bs rfl ho ⟨#[116, 114, 117, 101]⟩ rfl (by (try show _ + 4 ≤ _); omega) (by omega) ?_))
    intro v' w2 o2 b2
    go_wp2_with fail
    go_ret
    exact ⟨_, rfl, o2, b2⟩
set_option maxHeartbeats 1000000 in
set_option maxRecDepth 100000 in
theorem appbool_any (b : Bool) (B : Nat) (bv : Value) (bs : List UInt8) (w : World) (hBw : B ≤ w.heap.size) (ho : OwnB B bv bs w) (hlen : bs.length ≤ 1000000000) :
    Calls Tryz.prog 38 #[bv, .bool b] w (ApPost B (bs ++ (if b = true then [116, 114, 117, 101] else [102, 97, 108, 115, 101])) w) := by
  have c := appbool26 b B bv bs w hBw ho hlen
  generalize (if b = true then ([116, 114, 117, 101] : List UInt8) else [102, 97, 108, 115, 101]) = T at *
  obtain ⟨bw, hbw⟩ : ∃ bw, Value.bool b = bw := ⟨_, rfl⟩
  rw [hbw] at c ⊢
  clear hbw
  go_enter Tryz.func38, Tryz.ntmps38
  go_wp2_with fail
  refine c.mono ?_
  rintro e w1 ⟨v1, rfl, h⟩
  go_wp2_with fail
  go_ret
  exact ⟨_, rfl, h⟩
set_option maxHeartbeats 4000000 in
set_option maxRecDepth 100000 in
theorem appval_any : ∀ x : V, AppV x := by
  refine V.ind_v ?_
  intro k b i s l m ihl ihm R S cs B bv bs w hx hS td hB3 hBw ho hp hwt hlen
  rw [V.lies] at hx
  obtain ⟨al, cl, bl, ol, am, cm, bm, om, rfl, hk, hi, hs, hal, ham, hl, hm, _⟩ := hx
  rw [prV] at hp
  obtain ⟨⟨hi64, hs6, _⟩, hv, hpl, hpm⟩ := hp
  rw [V.wt] at hwt hlen
  have nb := heap_alloc_new w (.cells #[.int .i64 k, .bool b, .int .i64 i, .string s, .slice al l.length cl, .slice am m.length cm] 25)
  have hza := alloc_size w (.cells #[.int .i64 k, .bool b, .int .i64 i, .string s, .slice al l.length cl, .slice am m.length cm] 25)
  have bA : Below B w (w.alloc (.cells #[.int .i64 k, .bool b, .int .i64 i, .string s, .slice al l.length cl, .slice am m.length cm] 25)) := (Below.refl B w).alloc (by omega) _
  have oA := ho.alloc (.cells #[.int .i64 k, .bool b, .int .i64 i, .string s, .slice al l.length cl, .slice am m.length cm] 25)
  have tA := td.below bA hB3 bA.size
  have hL : liesL R (w.alloc (.cells #[.int .i64 k, .bool b, .int .i64 i, .string s, .slice al l.length cl, .slice am m.length cm] 25)) S l bl ol := liesL_keep (fun h => h) (fun x hx => bA.block x (hS x hx)) (fun _ h => h) _ hl
  have hM : liesM R (w.alloc (.cells #[.int .i64 k, .bool b, .int .i64 i, .string s, .slice al l.length cl, .slice am m.length cm] 25)) S m bm om := liesM_keep (fun h => h) (fun x hx => bA.block x (hS x hx)) (fun _ h => h) _ hm
  have CB := hmk (appbool_any b B bv bs _ (by omega) oA (by omega))
  have CI := hmk (appint_any i hi64 B bv bs _ tA hB3 (by omega) oA (by omega))
  have CS := hmk (appstr_any s B bv bs _ tA (by omega) oA hs6 hv (by omega))
  have CL := hmk (applist_any l ihl R S al cl bl ol B bv bs _ hal hL hS tA hB3 (by omega) oA hpl (by omega) (by omega))
  have CM := hmk (appmap_any m ihm R S am cm bm om B bv bs _ ham hM hS tA hB3 (by omega) oA hpm (by omega) (by omega))
  have n0 : (w.alloc (.cells #[.int .i64 k, .bool b, .int .i64 i, .string s, .slice al l.length cl, .slice am m.length cm] 25)).cell? ⟨w.heap.size, 0, none⟩ = some (.int .i64 k) := by rw [cell_of_block nb]; rfl
  have n1 : (w.alloc (.cells #[.int .i64 k, .bool b, .int .i64 i, .string s, .slice al l.length cl, .slice am m.length cm] 25)).cell? ⟨w.heap.size, 1, none⟩ = some (.bool b) := by rw [cell_of_block nb]; rfl
  have n2 : (w.alloc (.cells #[.int .i64 k, .bool b, .int .i64 i, .string s, .slice al l.length cl, .slice am m.length cm] 25)).cell? ⟨w.heap.size, 2, none⟩ = some (.int .i64 i) := by rw [cell_of_block nb]; rfl
  have n3 : (w.alloc (.cells #[.int .i64 k, .bool b, .int .i64 i, .string s, .slice al l.length cl, .slice am m.length cm] 25)).cell? ⟨w.heap.size, 3, none⟩ = some (.string s) := by rw [cell_of_block nb]; rfl
  have n4 : (w.alloc (.cells #[.int .i64 k, .bool b, .int .i64 i, .string s, .slice al l.length cl, .slice am m.length cm] 25)).cell? ⟨w.heap.size, 4, none⟩ = some (.slice al l.length cl) := by rw [cell_of_block nb]; rfl
  have n5 : (w.alloc (.cells #[.int .i64 k, .bool b, .int .i64 i, .string s, .slice al l.length cl, .slice am m.length cm] 25)).cell? ⟨w.heap.size, 5, none⟩ = some (.slice am m.length cm) := by rw [cell_of_block nb]; rfl
  have HT : Hid (txtV (.mk k b i s l m) = if k = 1 then (if b = true then [116, 114, 117, 101] else [102, 97, 108, 115, 101])
    else if k = 2 then itoa i
    else if k = 3 then Q.qt s.data.toList
    else if k = 4 then 91 :: (joinB (txtL l) ++ [93])
    else if k = 5 then 123 :: (joinB (txtM m) ++ [125])
    else [110, 117, 108, 108]) := hmk (by rw [txtV])
  generalize txtV (.mk k b i s l m) = T at *
  clear hl hm hL hM ihl ihm hk hi hs hal ham hpl hpm hv td tA
  by_cases k1 : k = 1
  · have e : T = (if b = true then [116, 114, 117, 101] else [102, 97, 108, 115, 101]) := HT.out.trans (by rw [if_pos k1])
    rw [← e] at CB
    subst k1
    clear HT e CI CS CL CM
    go_enter Tryz.func27, Tryz.ntmps27
    go_wp2_with fail
    refine CB.out.mono ?_
    rintro e w1 ⟨v1, rfl, o1, b1⟩
    go_wp2_with fail
    go_ret
    exact ⟨_, rfl, o1, bA.trans b1⟩
  by_cases k2 : k = 2
  · have e : T = itoa i := HT.out.trans (by rw [if_neg k1, if_pos k2])
    rw [← e] at CI
    subst k2
    clear HT e CB CS CL CM
    go_enter Tryz.func27, Tryz.ntmps27
    go_wp2_with fail
    refine CI.out.mono ?_
    rintro e w1 ⟨v1, rfl, o1, b1⟩
    go_wp2_with fail
    go_ret
    exact ⟨_, rfl, o1, bA.trans b1⟩
  by_cases k3 : k = 3
  · have e : T = Q.qt s.data.toList := HT.out.trans (by rw [if_neg k1, if_neg k2, if_pos k3])
    rw [← e] at CS
    subst k3
    clear HT e CB CI CL CM
    go_enter Tryz.func27, Tryz.ntmps27
    go_wp2_with fail
    refine CS.out.mono ?_
    rintro e w1 ⟨v1, rfl, o1, b1⟩
    go_wp2_with fail
    go_ret
    exact ⟨_, rfl, o1, bA.trans b1⟩
  by_cases k4 : k = 4
  · have e : T = 91 :: (joinB (txtL l) ++ [93]) := HT.out.trans (by rw [if_neg k1, if_neg k2, if_neg k3, if_pos k4])
    rw [← e] at CL
    subst k4
    clear HT e CB CI CS CM
    go_enter Tryz.func27, Tryz.ntmps27
    go_wp2_with fail
    refine CL.out.mono ?_
    rintro e w1 ⟨v1, rfl, o1, b1⟩
    go_wp2_with fail
    go_ret
    exact ⟨_, rfl, o1, bA.trans b1⟩
  by_cases k5 : k = 5
  · have e : T = 123 :: (joinB (txtM m) ++ [125]) := HT.out.trans (by rw [if_neg k1, if_neg k2, if_neg k3, if_neg k4, if_pos k5])
    rw [← e] at CM
    subst k5
    clear HT e CB CI CS CL
    go_enter Tryz.func27, Tryz.ntmps27
    go_wp2_with fail
    refine CM.out.mono ?_
    rintro e w1 ⟨v1, rfl, o1, b1⟩
    go_wp2_with fail
    go_ret
    exact ⟨_, rfl, o1, bA.trans b1⟩
  · have e : T = [110, 117, 108, 108] := by rw [HT.out, if_neg k1, if_neg k2, if_neg k3, if_neg k4, if_neg k5]
    subst e
    clear HT CB CI CS CL CM
    go_enter Tryz.func27, Tryz.ntmps27
    go_wp2_with (at_builtin; go_loud (refine wpl_str _ rfl (.tmp 37) _ rfl B bv bs rfl oA ⟨#[110, 117, 108, 108]⟩ rfl (by (try show _ + 4 ≤ _); omega) (by omega) ?_))
    intro v' w2 o2 b2
    go_wp2_with fail
    go_ret
    exact ⟨_, rfl, o2, bA.trans b2⟩
end Go.Proofs.YtpmhdcmmlkjjmaaGreatDoor
/- json.Print. -/
namespace Go.Proofs.YtpmhdcmmlkjjmaaGreatDoor
open Go.RowKit Go.Lib
/-- what Print answers: the error's number, and the bytes -/
def prF (v : V) (depth : Int) : Nat × List UInt8 := if chkE v depth ≠ 0 then (chkE v depth, []) else if 1048576 < (txtV v).length then (30, []) else (0, txtV v)
def PrPost (v : V) (depth : Int) (w : World) (e : Ending) (w' : World) : Prop := ∃ bv B, e = .returned (.tuple #[bv, .int .i64 ((prF v depth).1 : Int)]) ∧ OwnB B bv (prF v depth).2 w' ∧ w.heap.size ≤ B ∧ Below w.heap.size w w'
theorem own_none (B : Nat) (w : World) : OwnB B (.slice none 0 0) [] w := World.ownsRow_nil w B 5 1
theorem own_slice {B : Nat} {bv : Value} {l : List UInt8} {w : World} (h : OwnB B bv l w) : ∃ a c, bv = .slice a l.length c := by
  rcases h.2 with ⟨rfl, e⟩ | ⟨g, cap, cur, rfl, _⟩
  · rw [e]; exact ⟨_, _, rfl⟩
  · exact ⟨_, _, rfl⟩
end Go.Proofs.YtpmhdcmmlkjjmaaGreatDoor
