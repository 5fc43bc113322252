import Derived.Test.YtjfldbmopjojdabDoorBtwD
set_option linter.unusedSimpArgs false
set_option linter.unusedVariables false
namespace Go.Proofs.YtjfldbmopjojdabDoor
open Go Go.RowKit Go.Lib Go.Shelf
theorem ok_mems {v : V} (h : Ok v) {qs : List (Mem × List Value)} (e : qs.map (fun q => q.1) = memsOf v) : (∀ q ∈ qs, Ok q.1.2) ∧ qs.length ≤ 1114112 ∧ ∀ q ∈ qs, dpV q.1.2 + 1 ≤ dpV v := by
 have hm : ∀ q ∈ qs, q.1 ∈ memsOf v := fun q hq => by rw [← e]; exact List.mem_map_of_mem hq
 refine ⟨fun q hq => ?_, ?_, fun q hq => ?_⟩
 ·have := hm q hq
  obtain ⟨k, b, i, s, l, m⟩ := v
  exact h.mem this
 ·have := h.wt; have := mems_wt v; have := wtM_len (memsOf v); have q2 := congrArg List.length e; rw [List.length_map] at q2; omega
 ·have := hm q hq
  obtain ⟨k, b, i, s, l, m⟩ := v
  have := memNd (m := m) this
  rw [dpV]
  omega
theorem null_lies6 (w : World) (S : Nat → Prop) : nullV.lies false w S nul6 := null_lies w S
theorem btw_any (low : Addr) : ∀ (N : Nat) (S : Nat → Prop) (qa qb : List (Mem × List Value)) (aa ab : Option Addr) (ca cb ba oa bb ob : Nat) (w : World), Tb w → ErrAt low w → (∀ b, S b → b < w.heap.size) → Headed aa qa.length ca ba oa → Headed ab qb.length cb bb ob → RowsOf w ba oa 7 (qa.map (fun q => q.2)) → RowsOf w bb ob 7 (qb.map (fun q => q.2)) →
 (∀ q ∈ qa, PM w S q) → (∀ q ∈ qb, PM w S q) → (0 < qa.length → S ba) → (0 < qb.length → S bb) → qa.length ≤ 1114112 → qb.length ≤ 1114112 → (∀ q ∈ qa, Ok q.1.2) → (∀ q ∈ qb, Ok q.1.2) → (∀ q ∈ qa, dpV q.1.2 < N) →
 Calls Tryd.prog 24 #[.slice aa qa.length ca, .slice ab qb.length cb] w (BwPost low (btwM (N + 1) (qa.map (fun q => q.1)) (qb.map (fun q => q.1))) S w) := by
 intro N
 induction N with
 | zero =>
  intro S qa qb aa ab ca cb ba oa bb ob w hT hE hS haH hbH rowa rowb pma pmb insa insb hqa hqb oka okb hd
  rw [btwM_tg]
  refine btw_step low (btwM 0) S qa qb aa ab ca cb ba oa bb ob w hT hE hS haH hbH rowa rowb pma pmb insa insb hqa hqb (tg_all qa qb ?_ ?_ ?_)
  ·intro y hy; have := hd y hy; omega
  ·intro z hz
   obtain ⟨cs, e0, e1, e2⟩ := pmb z hz
   exact ⟨e1, null_lies6 w S, by show z.1.2.lies false w S z.2.tail; rw [e0]; exact e2, null_ok, okb z hz, fun _ => rfl, fun h => by change (0 : Int) = 5 at h; omega⟩
  ·intro y hy; have := hd y hy; omega
 | succ N IH =>
  intro S qa qb aa ab ca cb ba oa bb ob w hT hE hS haH hbH rowa rowb pma pmb insa insb hqa hqb oka okb hd
  rw [btwM_tg]
  refine btw_step low (btwM (N + 1)) S qa qb aa ab ca cb ba oa bb ob w hT hE hS haH hbH rowa rowb pma pmb insa insb hqa hqb (tg_all qa qb ?_ ?_ ?_)
  ·intro y hy
   obtain ⟨cs, e0, e1, e2⟩ := pma y hy
   exact ⟨e1, by show y.1.2.lies false w S y.2.tail; rw [e0]; exact e2, null_lies6 w S, oka y hy, null_ok, fun h => (by cases h), fun _ h => by change (0 : Int) = 5 at h; omega⟩
  ·intro z hz
   obtain ⟨cs, e0, e1, e2⟩ := pmb z hz
   exact ⟨e1, null_lies6 w S, by show z.1.2.lies false w S z.2.tail; rw [e0]; exact e2, null_ok, okb z hz, fun _ => rfl, fun h => by change (0 : Int) = 5 at h; omega⟩
  ·intro y hy z hz
   obtain ⟨cs, e0, e1, e2⟩ := pma y hy
   obtain ⟨ds, d0, d1, d2⟩ := pmb z hz
   have la : y.1.2.lies false w S y.2.tail := by rw [e0]; exact e2
   have lb : z.1.2.lies false w S z.2.tail := by rw [d0]; exact d2
   refine ⟨d1, la, lb, oka y hy, okb z hz, fun h => (by cases h), ?_⟩
   intro _ _ p q W hp hq hb
   have hp : y.2.tail[5]? = some p := hp
   have hq : z.2.tail[5]? = some q := hq
   have la2 := V.lies_keep (S' := S) (fun h => h) (fun x hx => hb.block x (hS x hx)) (fun x hx => hx) _ la
   have lb2 := V.lies_keep (S' := S) (fun h => h) (fun x hx => hb.block x (hS x hx)) (fun x hx => hx) _ lb
   obtain ⟨yk, yb, yi, ys, yal, ynl, ycl, yam, ynm, ycm, ey⟩ := V.ten la2
   obtain ⟨zk, zb, zi, zs, zal, znl, zcl, zam, znm, zcm, ez⟩ := V.ten lb2
   rw [ey] at hp la2
   rw [ez] at hq lb2
   obtain rfl : Value.slice yam ynm ycm = p := by simpa using hp
   obtain rfl : Value.slice zam znm zcm = q := by simpa using hq
   obtain ⟨ba', oa', qa', haH', eqa, lqa, rowa', pma', insa'⟩ := mems_seg la2
   obtain ⟨bb', ob', qb', hbH', eqb, lqb, rowb', pmb', insb'⟩ := mems_seg lb2
   subst lqa lqb
   obtain ⟨o1, o2, o3⟩ := ok_mems (oka y hy) eqa
   obtain ⟨u1, u2, u3⟩ := ok_mems (okb z hz) eqb
   have h := IH S qa' qb' yam zam ycm zcm ba' oa' bb' ob' W (hT.below hb hT.z) (hE.below hb hE.z) (fun b h => Nat.lt_of_lt_of_le (hS b h) hb.size) haH' hbH' rowa' rowb' pma' pmb' insa' insb' o2 u2 o1 u1 (fun q hq => by have := o3 q hq; have := hd y hy; omega)
   rw [eqa, eqb] at h
   exact h
end Go.Proofs.YtjfldbmopjojdabDoor
