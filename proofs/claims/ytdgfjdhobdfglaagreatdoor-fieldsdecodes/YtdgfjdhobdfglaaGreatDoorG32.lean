/- joined: FldQ SrxR RsrP -/
import Derived.Test.YtdgfjdhobdfglaaGreatDoorG31
import Derived.Laws.AppendOwnNone
set_option linter.unusedSimpArgs false
set_option linter.unusedVariables false
set_option maxRecDepth 100000
namespace Go.Proofs.YtdgfjdhobdfglaaGreatDoor
open Go.RowKit Go.Lib
theorem elF_says {k : ByteArray} {e : El} (h : elF k = some e) : elB e = true /\ elT e = k.data.toList /\ (parF k.data.toList 33 0 []).1 = [e] /\ (parF k.data.toList 33 0 []).2.2 = 0 := by
 unfold elF at h
 split at h
 ·rename_i h0
  split at h
  ·rename_i e' he
   injection h with h
   subst h
   rcases par_says k.data.toList with ⟨r, hr, hp, _, ht⟩ | ⟨j, hr, _⟩
   ·rw [hr] at he
    dsimp only at he
    subst he
    refine ⟨(pathB_all hp).2 _ List.mem_cons_self, ?_, by rw [hr], h0⟩
    rw [<- ht, txT_cons]
    simp [txT]
   ·rw [hr] at h0
    cases h0
  ·cases h
 ·cases h
theorem nxt_wt {s : ByteArray} {k : Nat} {x : El} {k1 : Nat} (h : nxtF s.data.toList k = some (x, k1)) : x.wt <= 16 * s.size + 20 := by
 unfold nxtF at h
 split at h
 ·cases h
 ·rename_i e k' he
  split at h
  ·split at h
   ·injection h with h
    injection h with h1 h2
    subst h1
    exact elmF_wt he
   ·cases h
  ·cases h
theorem par_wts (s : ByteArray) (B : Nat) (hB : 16 * s.size + 20 <= B) : ∀ (n k : Nat) (acc : List El), (∀ x ∈ acc, x.wt <= B) -> ∀ x ∈ (parF s.data.toList n k acc).1, x.wt <= B
 | 0, k, acc, h => by rw [parF]; exact h
 | n + 1, k, acc, h => by
  rw [parF]
  split
  ·split
   ·simp
   ·cases hn : nxtF s.data.toList k with
    | none => simp
    | some y =>
     obtain ⟨e, k1⟩ := y
     dsimp only
     refine par_wts s B hB n k1 _ (fun x hx => ?_)
     rcases List.mem_append.1 hx with hx | hx
     ·exact h x hx
     ·rw [List.mem_singleton] at hx
      subst hx
      exact Nat.le_trans (nxt_wt hn) hB
  ·exact h
theorem elF_wt {k : ByteArray} {e : El} (h : elF k = some e) (hk : k.size <= 1048576) : e.wt <= 16777236 := by
 obtain ⟨_, _, h3, _⟩ := elF_says h
 refine par_wts k 16777236 (by omega) 33 0 [] (by simp) e ?_
 rw [h3]
 exact List.mem_cons_self
theorem dot_lt {k : ByteArray} {e : El} (h : elF k = some e) : Op.bytesLess k.data.toList [46] = false := by
 obtain ⟨h1, h2, _⟩ := elF_says h
 obtain ⟨c, r, hc, hcc⟩ := elT_front h1
 rw [<- h2, hc]
 rcases hcc with rfl | rfl
 ·cases r <;> simp [Op.bytesLess]
 ·simp [Op.bytesLess]
theorem dot_none {k : ByteArray} (h : Op.bytesLess k.data.toList [46] = true) : elF k = none := by
 cases he : elF k with
 | none => rfl
 | some e => rw [dot_lt he] at h; cases h
theorem ltB_t {a b c : ByteArray} (h : ltB a b = true) (h' : ltB b c = true) : ltB a c = true := by
 unfold ltB at *
 rw [less_cmp] at *
 rw [decide_eq_true_iff] at *
 exact cmp_trans _ _ _ h h'
theorem ltB_i (a : ByteArray) : ltB a a = false := by
 unfold ltB
 rw [less_cmp, decide_eq_false_iff_not]
 intro h
 rw [(cmp_zero a.toList a.toList).2 rfl] at h
 cases h
theorem rise_pw {m : List Mem} (h : riseB m = true) : m.Pairwise (fun a b => ltB a.1 b.1 = true) := by
 rw [riseB, List.all_eq_true] at h
 have hs : ∀ j, (hj : j + 1 < m.length) -> ltB (m[j]'(by omega)).1 (m[j + 1]).1 = true := fun j hj => by
  have := h (j + 1) (by simpa using hj)
  rw [okAt, Bool.and_eq_true] at this
  have h2 := this.2
  rw [keyAt_eq hj] at h2
  simp only [Nat.add_sub_cancel, Nat.add_eq_zero_iff, Nat.succ_ne_self, and_false, decide_false, Bool.false_or] at h2
  rw [keyAt_eq (by omega)] at h2
  simpa using h2
 refine List.pairwise_iff_getElem.2 fun i j hi hj hij => ?_
 obtain ⟨d, rfl⟩ : ∃ d, j = i + 1 + d := ⟨j - (i + 1), by omega⟩
 induction d with
 | zero => exact hs i hj
 | succ d ih =>
  exact ltB_t (ih (by omega) (by omega)) (hs (i + 1 + d) hj)
def brF : List Mem -> Option (List (El × V))
 | [] => some []
 | (k, x) :: t => match elF k with
  | none => none
  | some e => (brF t).map ((e, x) :: ·)
def catF (p : List El) : List (El × V) -> Option (List (List El))
 | [] => some []
 | (e, x) :: t => match dpV false (p ++ [e]) x with
  | none => none
  | some L => (catF p t).map (L ++ ·)
def cutF : List Mem -> Bool × List Mem × Bool
 | [] => (false, [], true)
 | (k, x) :: t => if k.toList = [46] then (true, t, emB x) else (false, (k, x) :: t, true)
theorem brF_none {m : List Mem} : ∀ {x : Mem}, x ∈ m -> elF x.1 = none -> brF m = none := by
 induction m with
 | nil => intro x h; cases h
 | cons y t ih =>
  intro x h he
  obtain ⟨k, z⟩ := y
  rw [brF]
  rcases List.mem_cons.1 h with rfl | h
  ·dsimp only at he
   rw [he]
  ·cases elF k with
   | none => rfl
   | some e => dsimp only; rw [ih h he]; rfl
theorem brF_len : ∀ {m : List Mem} {B : List (El × V)}, brF m = some B -> B.length = m.length
 | [], B, h => by rw [brF] at h; injection h with h; subst h; rfl
 | (k, x) :: t, B, h => by
  rw [brF] at h
  split at h
  ·cases h
  ·cases hb : brF t with
   | none => rw [hb] at h; cases h
   | some B' =>
    rw [hb] at h
    simp at h
    subst h
    simp [brF_len hb]
theorem brF_mem : ∀ {m : List Mem} {B : List (El × V)}, brF m = some B -> ∀ y ∈ B, ∃ k, (k, y.2) ∈ m /\ elF k = some y.1
 | [], B, h => by rw [brF] at h; injection h with h; subst h; simp
 | (k, x) :: t, B, h => by
  rw [brF] at h
  split at h
  ·cases h
  ·rename_i e he
   cases hb : brF t with
   | none => rw [hb] at h; cases h
   | some B' =>
    rw [hb] at h
    simp at h
    subst h
    intro y hy
    rcases List.mem_cons.1 hy with rfl | hy
    ·exact ⟨k, List.mem_cons_self, he⟩
    ·obtain ⟨k', h1, h2⟩ := brF_mem hb y hy
     exact ⟨k', List.mem_cons_of_mem _ h1, h2⟩
theorem dpM_none {root : Bool} {n : Nat} {p : List El} : ∀ {m : List Mem} {own : Bool} {x : Mem}, x ∈ m -> x.1.toList ≠ [46] -> elF x.1 = none -> dpM root n p own m = none
 | [], own, x, h, _, _ => by cases h
 | (k, z) :: t, own, x, h, h1, h2 => by
  rw [dpM]
  rcases List.mem_cons.1 h with rfl | h
  ·dsimp only at h1 h2
   rw [if_neg h1, h2]
  ·split
   ·split
    ·exact dpM_none h h1 h2
    ·rfl
   ·split
    ·rfl
    ·split
     ·rfl
     ·rw [dpM_none h h1 h2]; rfl
theorem dp_br {root : Bool} {n : Nat} {p : List El} {own : Bool} : ∀ {m : List Mem}, (∀ x ∈ m, x.1.toList ≠ [46]) -> dpM root n p own m = (brF m).bind (fun B => (catF p B).map (· ++ if own then [p] else []))
 | [], _ => by rw [dpM, brF]; simp [catF]
 | (k, x) :: t, h => by
  rw [dpM, brF, if_neg (h _ List.mem_cons_self)]
  cases elF k with
  | none => rfl
  | some e =>
   dsimp only
   cases hd : dpV false (p ++ [e]) x with
   | none =>
    dsimp only
    cases brF t with
    | none => rfl
    | some B => simp [catF, hd]
   | some L =>
    dsimp only
    rw [dp_br (m := t) (fun y hy => h y (List.mem_cons_of_mem _ hy))]
    cases brF t with
    | none => rfl
    | some B =>
     simp only [Option.map_some, Option.bind_some, catF, hd]
     cases catF p B with
     | none => rfl
     | some D => simp
theorem dp_prog {root : Bool} {p : List El} {b : Bool} {i : Int} {s : ByteArray} {l : List V} {m : List Mem} (hr : riseB m = true) :
 dpV root p (.mk 5 b i s l m) = (brF (cutF m).2.1).bind (fun B => if (cutF m).2.2 = true /\ ¬ ((cutF m).1 = true /\ root = false /\ B.length = 0) then (catF p B).map (· ++ if (cutF m).1 = true \/ (root = false /\ B.length = 0) then [p] else []) else none) := by
 have hp := rise_pw hr
 rw [dpV, if_pos rfl]
 cases m with
 | nil =>
  rw [dpM]
  simp only [cutF, brF, Option.bind_some, catF, List.length_nil]
  cases root <;> simp
 | cons y t =>
  obtain ⟨k, x⟩ := y
  rw [List.pairwise_cons] at hp
  by_cases hk : k.toList = [46]
  ·have hc : cutF ((k, x) :: t) = (true, t, emB x) := by rw [cutF, if_pos hk]
   rw [hc, dpM, if_pos hk]
   dsimp only
   have ht : ∀ z ∈ t, z.1.toList ≠ [46] := fun z hz e => by
    have h1 := hp.1 z hz
    dsimp only at h1
    rw [ltB, hk, e, <- hk] at h1
    have := ltB_i k
    rw [ltB] at this
    rw [this] at h1
    cases h1
   rw [dp_br ht]
   cases hb : brF t with
   | none => simp
   | some B =>
    have hl := brF_len hb
    simp only [Option.bind_some, List.length_cons]
    by_cases h0 : B = []
    ·have h0t : t = [] := List.eq_nil_of_length_eq_zero (by rw [<- hl, h0]; rfl)
     subst h0 h0t
     cases root <;> cases emB x <;> simp [catF]
    ·have h0t : t ≠ [] := fun e => h0 (List.eq_nil_of_length_eq_zero (by rw [hl, e]; rfl))
     cases root <;> cases emB x <;> simp [h0, h0t]
  ·have hc : cutF ((k, x) :: t) = (false, (k, x) :: t, true) := by rw [cutF, if_neg hk]
   rw [hc]
   dsimp only
   by_cases hd : ∃ z ∈ t, z.1.toList = [46]
   ·obtain ⟨z, hz, ez⟩ := hd
    have h1 := hp.1 z hz
    dsimp only at h1
    rw [ltB, ez, toList_data] at h1
    have hn := dot_none h1
    rw [dpM_none (x := (k, x)) List.mem_cons_self hk hn, brF_none (x := (k, x)) List.mem_cons_self hn]
    rfl
   ·have ht : ∀ z ∈ (k, x) :: t, z.1.toList ≠ [46] := fun z hz e => by
     rcases List.mem_cons.1 hz with rfl | hz
     ·exact hk e
     ·exact hd ⟨z, hz, e⟩
    rw [dp_br ht]
    cases hb : brF ((k, x) :: t) with
    | none => rfl
    | some B =>
     have hl := brF_len hb
     simp only [Option.bind_some]
     have hB : B.length ≠ 0 := by rw [hl]; simp
     have h0 : B ≠ [] := fun e => hB (by rw [e]; rfl)
     cases root <;> simp [h0]
mutual
theorem dpV_pre : ∀ (v : V) (root : Bool) (p : List El) (L : List (List El)), dpV root p v = some L -> ∀ q ∈ L, ∃ r, q = p ++ r
 | .mk k b i s l m, root, p, L, h => by
  rw [dpV] at h
  split at h
  ·exact dpM_pre m _ _ _ _ _ h
  ·cases h
theorem dpM_pre : ∀ (m : List Mem) (root : Bool) (n : Nat) (p : List El) (own : Bool) (L : List (List El)), dpM root n p own m = some L -> ∀ q ∈ L, ∃ r, q = p ++ r
 | [], root, n, p, own, L, h => by
  rw [dpM] at h
  injection h with h
  subst h
  intro q hq
  cases own
  ·simp at hq
  ·simp at hq; subst hq; exact ⟨[], by simp⟩
 | (k, x) :: t, root, n, p, own, L, h => by
  rw [dpM] at h
  split at h
  ·split at h
   ·exact dpM_pre t _ _ _ _ _ h
   ·cases h
  ·split at h
   ·cases h
   ·split at h
    ·cases h
    ·rename_i e he _ L' hL'
     have h1 := dpV_pre x _ _ _ hL'
     cases hd : dpM root n p own t with
     | none => rw [hd] at h; cases h
     | some L'' =>
      rw [hd] at h
      simp at h
      subst h
      have h2 := dpM_pre t _ _ _ _ _ hd
      intro q hq
      rcases List.mem_append.1 hq with hq | hq
      ·obtain ⟨r, rfl⟩ := h1 q hq
       exact ⟨e :: r, by simp⟩
      ·exact h2 q hq
end
def elW (e : El) : Prop := elB e = true /\ e.wt <= 16777236
mutual
theorem dpV_els : ∀ (v : V) (root : Bool) (p : List El) (L : List (List El)), ksV v -> (∀ e ∈ p, elW e) -> dpV root p v = some L -> ∀ q ∈ L, ∀ e ∈ q, elW e
 | .mk k b i s l m, root, p, L, hk, hp, h => by
  rw [dpV] at h
  rw [ksV] at hk
  split at h
  ·exact dpM_els m _ _ _ _ _ hk hp h
  ·cases h
theorem dpM_els : ∀ (m : List Mem) (root : Bool) (n : Nat) (p : List El) (own : Bool) (L : List (List El)), ksM m -> (∀ e ∈ p, elW e) -> dpM root n p own m = some L -> ∀ q ∈ L, ∀ e ∈ q, elW e
 | [], root, n, p, own, L, hk, hp, h => by
  rw [dpM] at h
  injection h with h
  subst h
  intro q hq
  cases own
  ·simp at hq
  ·simp at hq; subst hq; exact hp
 | (k, x) :: t, root, n, p, own, L, hk, hp, h => by
  rw [dpM] at h
  rw [ksM] at hk
  split at h
  ·split at h
   ·exact dpM_els t _ _ _ _ _ hk.2.2 hp h
   ·cases h
  ·split at h
   ·cases h
   ·split at h
    ·cases h
    ·rename_i e he _ L' hL'
     have h1 := dpV_els x _ _ _ hk.2.1 (fun y hy => by
      rcases List.mem_append.1 hy with hy | hy
      ·exact hp y hy
      ·rw [List.mem_singleton] at hy
       subst hy
       exact ⟨(elF_says he).1, elF_wt he hk.1⟩) hL'
     cases hd : dpM root n p own t with
     | none => rw [hd] at h; cases h
     | some L'' =>
      rw [hd] at h
      simp at h
      subst h
      have h2 := dpM_els t _ _ _ _ _ hk.2.2 hp hd
      intro q hq
      rcases List.mem_append.1 hq with hq | hq
      ·exact h1 q hq
      ·exact h2 q hq
end
mutual
theorem dpV_dep (D : Nat) : ∀ (v : V) (root : Bool) (p : List El) (L : List (List El)) (lv : Nat) (st : St), st.2.2 <= D -> (chkV D v lv st).1 = 0 -> p.length <= lv -> dpV root p v = some L -> ∀ q ∈ L, q.length <= D
 | .mk k b i s l m, root, p, L, lv, st, hd, hc, hp, h => by
  rw [chkV] at hc
  dsimp only at hc
  split at hc
  ·rename_i h0
   have e := entF_ok hd h0
   split at hc
   ·rename_i h1
    rw [dpV] at h
    split at h
    ·exact dpM_dep D m _ _ _ _ _ (lv + 1) _ (chkL_bnd D l (lv + 1) _ e.1 h1).d hc (by omega) (by have := e.2; omega) h
    ·cases h
   ·rename_i h1
    exact (h1 hc).elim
  ·rename_i h0
   exact (h0 hc).elim
theorem dpM_dep (D : Nat) : ∀ (m : List Mem) (root : Bool) (n : Nat) (p : List El) (own : Bool) (L : List (List El)) (lv : Nat) (st : St), st.2.2 <= D -> (chkM D m lv st).1 = 0 -> p.length + 1 <= lv -> p.length <= D -> dpM root n p own m = some L -> ∀ q ∈ L, q.length <= D
 | [], root, n, p, own, L, lv, st, hd, hc, hp, hD, h => by
  rw [dpM] at h
  injection h with h
  subst h
  intro q hq
  cases own
  ·simp at hq
  ·simp at hq; subst hq; exact hD
 | (k, x) :: t, root, n, p, own, L, lv, st, hd, hc, hp, hD, h => by
  rw [chkM] at hc
  split at hc
  ·rename_i h0
   rw [dpM] at h
   split at h
   ·split at h
    ·exact dpM_dep D t _ _ _ _ _ lv _ (chkV_d D x lv st hd h0) hc hp hD h
    ·cases h
   ·split at h
    ·cases h
    ·split at h
     ·cases h
     ·rename_i e he _ L' hL'
      have h1 := dpV_dep D x _ _ _ lv st hd h0 (by simp; omega) hL'
      cases hdm : dpM root n p own t with
      | none => rw [hdm] at h; cases h
      | some L'' =>
       rw [hdm] at h
       simp at h
       subst h
       have h2 := dpM_dep D t _ _ _ _ _ lv _ (chkV_d D x lv st hd h0) hc hp hD hdm
       intro q hq
       rcases List.mem_append.1 hq with hq | hq
       ·exact h1 q hq
       ·exact h2 q hq
  ·rename_i h0
   exact (h0 hc).elim
end
theorem wtP_le {B : Nat} : ∀ {q : List El}, (∀ e ∈ q, e.wt <= B) -> wtP q <= q.length * B
 | [], _ => by simp [wtP]
 | e :: t, h => by
  have h1 := h e List.mem_cons_self
  have h2 := wtP_le (q := t) (fun x hx => h x (List.mem_cons_of_mem _ hx))
  have h3 : wtP (e :: t) = e.wt + wtP t := by rw [wtP]
  rw [h3, List.length_cons, Nat.succ_mul]
  omega
theorem dp_paths {v : V} {root : Bool} {L : List (List El)} (hc : (chkV 32 v 0 (0, 0, 0)).1 = 0) (h : dpV root [] v = some L) : (∀ q ∈ L, pathB q = true) /\ ∀ q ∈ L, wtP q <= 2147483647 := by
 have h1 := dpV_els v root [] L (chkV_ks 32 v 0 (0, 0, 0) (by simp) hc) (by simp) h
 have h2 := dpV_dep 32 v root [] L 0 (0, 0, 0) (by simp) hc (by simp) h
 refine ⟨fun q hq => pathB_true (h2 q hq) (fun j hj => (h1 q hq _ (List.getElem_mem hj)).1), fun q hq => ?_⟩
 have h3 := wtP_le (fun e he => (h1 q hq e he).2)
 have h4 := Nat.mul_le_mul_right 16777236 (h2 q hq)
 omega
def CatL (p : List El) : List (El × V) -> List (List El) -> Prop
 | [], L => L = []
 | (e, x) :: t, L => ∃ D L1 L2, dpV false (p ++ [e]) x = some D /\ Rs D L1 /\ CatL p t L2 /\ L = L1 ++ L2
theorem CatL.snoc {p : List El} {e : El} {x : V} {D L1 : List (List El)} (hd : dpV false (p ++ [e]) x = some D) (hr : Rs D L1) : ∀ {B : List (El × V)} {L : List (List El)}, CatL p B L -> CatL p (B ++ [(e, x)]) (L ++ L1)
 | [], L, h => by
  rw [CatL] at h
  subst h
  exact ⟨D, L1, [], hd, hr, rfl, by simp⟩
 | (e', x') :: t, L, h => by
  obtain ⟨D', L1', L2', h1, h2, h3, rfl⟩ := h
  exact ⟨D', L1', L2' ++ L1, h1, h2, CatL.snoc hd hr h3, by simp⟩
theorem catF_none {p : List El} : ∀ {B : List (El × V)}, (∃ y ∈ B, dpV false (p ++ [y.1]) y.2 = none) -> catF p B = none
 | [], h => by obtain ⟨y, hy, _⟩ := h; cases hy
 | (e, x) :: t, h => by
  obtain ⟨y, hy, hn⟩ := h
  rw [catF]
  rcases List.mem_cons.1 hy with rfl | hy
  ·dsimp only at hn; rw [hn]
  ·cases dpV false (p ++ [e]) x with
   | none => rfl
   | some L => dsimp only; rw [catF_none ⟨y, hy, hn⟩]; rfl
theorem catF_some {p : List El} : ∀ {B : List (El × V)}, (∀ y ∈ B, ∃ D, dpV false (p ++ [y.1]) y.2 = some D) -> ∃ D, catF p B = some D /\ ∀ q, q ∈ D ↔ ∃ y ∈ B, ∃ Dy, dpV false (p ++ [y.1]) y.2 = some Dy /\ q ∈ Dy
 | [], _ => ⟨[], rfl, by simp⟩
 | (e, x) :: t, h => by
  obtain ⟨D1, h1⟩ := h (e, x) List.mem_cons_self
  obtain ⟨D2, h2, h3⟩ := catF_some (B := t) (fun y hy => h y (List.mem_cons_of_mem _ hy))
  dsimp only at h1
  refine ⟨D1 ++ D2, by rw [catF, h1, h2]; rfl, fun q => ?_⟩
  rw [List.mem_append, h3 q]
  constructor
  ·rintro (hq | ⟨y, hy, Dy, hd, hq⟩)
   ·exact ⟨(e, x), List.mem_cons_self, D1, h1, hq⟩
   ·exact ⟨y, List.mem_cons_of_mem _ hy, Dy, hd, hq⟩
  ·rintro ⟨y, hy, Dy, hd, hq⟩
   rcases List.mem_cons.1 hy with rfl | hy
   ·left; dsimp only at hd; rw [h1] at hd; injection hd with hd; subst hd; exact hq
   ·exact .inr ⟨y, hy, Dy, hd, hq⟩
theorem CatL.all {p : List El} : ∀ {B : List (El × V)} {L : List (List El)}, CatL p B L -> (∀ y ∈ B, ∃ D, dpV false (p ++ [y.1]) y.2 = some D) /\ ∀ q, q ∈ L ↔ ∃ y ∈ B, ∃ Dy, dpV false (p ++ [y.1]) y.2 = some Dy /\ q ∈ Dy
 | [], L, h => by rw [CatL] at h; subst h; simp
 | (e, x) :: t, L, h => by
  obtain ⟨D, L1, L2, h1, h2, h3, rfl⟩ := h
  obtain ⟨h4, h5⟩ := CatL.all h3
  refine ⟨fun y hy => ?_, fun q => ?_⟩
  ·rcases List.mem_cons.1 hy with rfl | hy
   ·exact ⟨D, h1⟩
   ·exact h4 y hy
  ·rw [List.mem_append, h5 q, h2.2 q]
   constructor
   ·rintro (hq | ⟨y, hy, Dy, hd, hq⟩)
    ·exact ⟨(e, x), List.mem_cons_self, D, h1, hq⟩
    ·exact ⟨y, List.mem_cons_of_mem _ hy, Dy, hd, hq⟩
   ·rintro ⟨y, hy, Dy, hd, hq⟩
    rcases List.mem_cons.1 hy with rfl | hy
    ·left; dsimp only at hd; rw [h1] at hd; injection hd with hd; subst hd; exact hq
    ·exact .inr ⟨y, hy, Dy, hd, hq⟩
theorem lex_same_pre (p a b : List El) : lexL oeE (p ++ a) (p ++ b) = lexL oeE a b := by
 induction p with
 | nil => rfl
 | cons e t ih =>
  rw [List.cons_append, List.cons_append, lexL, wk_E.self e, if_pos rfl, ih]
theorem lex_head {e f : El} (a b : List El) (h : oeE e f < 0) : lexL oeE (e :: a) (f :: b) < 0 := by
 rw [lexL, if_neg (by omega)]
 exact h
theorem CatL.rise {p : List El} : ∀ {B : List (El × V)} {L : List (List El)}, CatL p B L -> B.Pairwise (fun a b => oeE a.1 b.1 < 0) -> L.Pairwise (fun a b => lexL oeE a b < 0)
 | [], L, h, _ => by rw [CatL] at h; subst h; exact List.Pairwise.nil
 | (e, x) :: t, L, h, hB => by
  obtain ⟨D, L1, L2, h1, h2, h3, rfl⟩ := h
  rw [List.pairwise_cons] at hB
  refine List.pairwise_append.2 ⟨h2.1, CatL.rise h3 hB.2, fun a ha b hb => ?_⟩
  obtain ⟨r, rfl⟩ := dpV_pre _ _ _ _ h1 a ((h2.2 a).1 ha)
  obtain ⟨y, hy, Dy, hd, hq⟩ := ((CatL.all h3).2 b).1 hb
  obtain ⟨r', rfl⟩ := dpV_pre _ _ _ _ hd b hq
  rw [List.append_assoc, List.append_assoc, lex_same_pre]
  exact lex_head _ _ (hB.1 y hy)
theorem cat_rs {p : List El} {B B' : List (El × V)} {L : List (List El)} (hp : B'.Perm B) (hB : B'.Pairwise (fun a b => oeE a.1 b.1 < 0)) (h : CatL p B' L) (own : Bool) :
 ∃ D, catF p B = some D /\ Rs (D ++ if own then [p] else []) ((if own then [p] else []) ++ L) := by
 obtain ⟨h1, h2⟩ := CatL.all h
 obtain ⟨D, hD, h3⟩ := catF_some (p := p) (B := B) (fun y hy => h1 y (hp.mem_iff.2 hy))
 refine ⟨D, hD, ?_, fun q => ?_⟩
 ·refine List.pairwise_append.2 ⟨by cases own <;> simp, h.rise hB, fun a ha b hb => ?_⟩
  cases own
  ·simp at ha
  ·simp at ha
   subst ha
   obtain ⟨y, hy, Dy, hd, hq⟩ := (h2 b).1 hb
   obtain ⟨r', rfl⟩ := dpV_pre _ _ _ _ hd b hq
   have := lex_same_pre a [] ([y.1] ++ r')
   rw [List.append_nil] at this
   rw [List.append_assoc, this]
   rw [lex_nil_l]
   simp only [List.cons_append, List.nil_append, List.length_cons]
   rw [cmpI_0s]
   omega
 ·rw [List.mem_append, List.mem_append, h2 q, h3 q]
  constructor
  ·rintro (hq | ⟨y, hy, hh⟩)
   ·exact .inr hq
   ·exact .inl ⟨y, hp.mem_iff.1 hy, hh⟩
  ·rintro (⟨y, hy, hh⟩ | hq)
   ·exact .inr ⟨y, hp.mem_iff.2 hy, hh⟩
   ·exact .inl hq
theorem br_rise {m : List Mem} {B B' : List (El × V)} (hm : m.Pairwise (fun a b => ltB a.1 b.1 = true)) (hb : brF m = some B) (hp : B'.Perm B) (hs : B'.Pairwise (fun a b => ¬ oeE b.1 a.1 < 0)) : B'.Pairwise (fun a b => oeE a.1 b.1 < 0) := by
 have hd : ∀ (m : List Mem) (B : List (El × V)), m.Pairwise (fun a b => ltB a.1 b.1 = true) -> brF m = some B -> B.Pairwise (fun a b => oeE a.1 b.1 ≠ 0) := by
  intro m
  induction m with
  | nil => intro B _ h; rw [brF] at h; injection h with h; subst h; exact List.Pairwise.nil
  | cons y t ih =>
   intro B hm h
   obtain ⟨k, x⟩ := y
   rw [brF] at h
   rw [List.pairwise_cons] at hm
   split at h
   ·cases h
   ·rename_i e he
    cases hb : brF t with
    | none => rw [hb] at h; cases h
    | some B' =>
     rw [hb] at h
     simp at h
     subst h
     refine List.pairwise_cons.2 ⟨fun z hz h0 => ?_, ih B' hm.2 hb⟩
     obtain ⟨k', h1, h2⟩ := brF_mem hb z hz
     have e1 := elF_says he
     have e2 := elF_says h2
     have e3 := elB_same e1.1 e2.1 h0
     have e4 : k.data.toList = k'.data.toList := by rw [<- e1.2.1, <- e2.2.1, e3]
     have e5 := hm.1 _ h1
     dsimp only at e5
     have e6 : k = k' := by
      obtain ⟨⟨a⟩⟩ := k
      obtain ⟨⟨b⟩⟩ := k'
      dsimp only at e4
      subst e4
      rfl
     subst e6
     rw [ltB_i] at e5
     cases e5
 have h0 := (hp.symm.pairwise (hd m B hm hb) (fun {a b} h e => h (wk_E.sym e)))
 have h1 := List.pairwise_and_iff.2 ⟨h0, hs⟩
 refine h1.imp ?_
 rintro a b ⟨h1, h2⟩
 have := wk_E.anti a.1 b.1
 omega
end Go.Proofs.YtdgfjdhobdfglaaGreatDoor
set_option maxRecDepth 100000
namespace Go.Proofs.YtdgfjdhobdfglaaGreatDoor
open Go.RowKit Go.Lib Go.Sort
def CpI {w0 : World} {S : Nat -> Prop} (R : List (PC w0 S)) (j g : Nat) (wr : World) : Prop := ∀ i, (h : i < R.length) -> ∃ v, wr.cell? ⟨g, i, none⟩ = some v /\ wr.frozen? ⟨g, i, none⟩ = false /\ (i < j -> Pl.lies wr (fun x => g < x /\ x < wr.heap.size) (R[i]).p v) /\ (j <= i -> v = (R[i]).enc)
theorem CpI.step {w0 : World} {S : Nat -> Prop} {R : List (PC w0 S)} {j g : Nat} {wr w3 : World} (h : CpI R j g wr) (hg : g < wr.heap.size) (hj : j < R.length) (b3 : Below wr.heap.size wr w3) {gg n : Nat} (hl : Pl.lies w3 (New wr w3) (R[j]).p (.slice (some ⟨gg, 0, none⟩) n n)) : CpI R (j + 1) g (w3.setCell ⟨g, j, none⟩ (.slice (some ⟨gg, 0, none⟩) n n)) := fun i hi => by
 have hz := b3.size
 have hsz := size_set1 w3 g j (.slice (some ⟨gg, 0, none⟩) n n)
 have hk : ∀ x, g < x -> (w3.setCell ⟨g, j, none⟩ (.slice (some ⟨gg, 0, none⟩) n n)).heap[x]? = w3.heap[x]? := fun x hx => set_other (by omega)
 by_cases e : j = i
 ·subst e
  obtain ⟨v, h1, h2, _, _⟩ := h j hi
  refine ⟨_, World.cell?_setCell_same' _ _ _ (by rw [b3.cell (p := ⟨g, j, none⟩) hg, h1]; rfl), ?_, fun _ => Pl.keep (fun x hx => hk x (by have := hx.1; omega)) (fun x hx => ⟨by have := hx.1; omega, by rw [hsz]; exact hx.2⟩) hl, fun h => by omega⟩
  rw [World.frozen?_setCell]
  simp only [World.frozen?, b3.block g hg]
  exact h2
 ·obtain ⟨v, h1, h2, h3, h4⟩ := h i hi
  refine ⟨v, by rw [cell_set_other e, b3.cell (p := ⟨g, i, none⟩) hg]; exact h1, ?_, fun hij => Pl.keep (fun x hx => (hk x hx.1).trans (b3.block x hx.2)) (fun x hx => ⟨hx.1, by rw [hsz]; have := hx.2; omega⟩) (h3 (by omega)), fun hij => h4 (by omega)⟩
  rw [World.frozen?_setCell]
  simp only [World.frozen?, b3.block g hg]
  exact h2
end Go.Proofs.YtdgfjdhobdfglaaGreatDoor
set_option maxRecDepth 100000
namespace Go.Proofs.YtdgfjdhobdfglaaGreatDoor
open Go.RowKit Go.Lib
section
variable {P : Program}
theorem wpl_catP {w : World} {ops : Array Oper} {rest : List Oper} {o : Oper} {a : Act} {Q : Exit -> Act -> World -> Prop} (hgd : o.guard = none) (s x : Operand) (t : TypeId)
 (ho : o.op = .call { callee := .builtin .append, args := #[s, x], argTypes := #[t, t] })
 (base : Nat) (e : TypeId) (i : TypeInfo) (z : Value) (size bytes : Nat) (ht : P.underlying t = some (.slice e)) (hi : P.info? e = some i) (hz : i.zero = some z)
 (hsize : i.size = size) (hby : i.bytes = bytes) (hzs : z.cells.size = size) (hsz : 0 < size) (hb200 : bytes <= 200)
 (v : Value) (n : Nat) (xs : List Value) (hs : a.eval s = v) (hown : w.ownsRow base e size v n xs) (ao : Option Addr) (m c b q : Nat) (hx : a.eval x = .slice ao m c) (hd : Headed ao m c b q) (news : List Value) (hl : news.length = m * size)
 (hnews : ∀ j u, news[j]? = some u -> w.cell? ⟨b, q + j, none⟩ = some u) (h1 : ∀ u ∈ news, u.oneCell' = true) (hm : n + m <= 2147483647) (hbase : base <= w.heap.size)
 (h : ∀ v' w', w'.ownsRow base e size v' (n + m) (xs ++ news) -> w.grownBy w' v.ownBlock -> wpList P ops Q rest (a.put o.dst v') w') : wpList P ops Q (o :: rest) a w := by
 cases ao with
 | none =>
  have hc := hd.nil rfl
  have hm0 : m = 0 := by have := hd.le; omega
  subst hm0 hc
  have hn0 : news = [] := List.eq_nil_of_length_eq_zero (by simpa using hl)
  subst hn0
  exact wpList_append_own_none hgd s x t ho base e i size ht hi v n xs hs hown hx (h _ _ (by simpa using hown) (World.grownBy.refl _ _))
 | some ad =>
  refine wpList_append_own w hgd s x t ho base e i z size bytes ht hi hz hsize hby hzs hsz v n xs hs hown ad m c news hx hl ?_ h1 (by simp only [maxLen]; omega) ?_ hbase ?_
  ·intro j u hu
   rcases hd.at_ with h0 | h0
   ·subst h0
    have hn0 : news = [] := List.eq_nil_of_length_eq_zero (by simpa using hl)
    subst hn0
    simp at hu
   ·have := Option.some.inj h0
    subst this
    rw [Go.WideShapes.add_plain]
    exact hnews j u hu
  ·have := Nat.mul_le_mul (show n + m <= 2147483647 by omega) hb200
   omega
  ·intro v' w' r1 r2 _
   exact h v' w' r1 r2
end
theorem own_keep {w w' : World} {base e size n : Nat} {v : Value} {xs : List Value} {row : Option Nat} (h : w.ownsRow base e size v n xs) (hg : w.grownBy w' row) (hne : ∀ r, row = some r -> v.ownBlock ≠ some r) : w'.ownsRow base e size v n xs := by
 refine h.kept hg ?_
 cases hv : v.ownBlock with
 | none => exact .inl rfl
 | some g =>
  refine .inr fun e => ?_
  exact hne g e.symm hv
theorem own_below {w w' : World} {base e size n : Nat} {v : Value} {xs : List Value} (h : w.ownsRow base e size v n xs) (hb : Below w.heap.size w w') : w'.ownsRow base e size v n xs := own_keep h (grown_of_below hb) (fun r e => by cases e)
theorem own_base {w : World} {base base' e size n : Nat} {v : Value} {xs : List Value} (h : w.ownsRow base e size v n xs) (hb : base' <= base) : w.ownsRow base' e size v n xs := by
 refine ⟨h.1, ?_⟩
 rcases h.2 with h | ⟨g, cap, cur, e, q, r⟩
 ·exact .inl h
 ·exact .inr ⟨g, cap, cur, e, Nat.le_trans hb q, r⟩
theorem own_cell {w : World} {base e g n cap : Nat} {xs : List Value} (h : w.ownsRow base e 1 (.slice (some ⟨g, 0, none⟩) n cap) n xs) {j : Nat} {u : Value} (hu : xs[j]? = some u) : w.cell? ⟨g, j, none⟩ = some u := by
 obtain ⟨hl, ⟨e, _⟩ | ⟨g', cap', cur, e, _, hb, _, _, _, hp⟩⟩ := h
 ·cases e
 ·cases e
  have hj : j < xs.length := (List.getElem?_eq_some_iff.1 hu).1
  rw [cell_of_block hb, <- Array.getElem?_toList, <- hu, <- hp, List.getElem?_take, if_pos (by omega)]
theorem own_facts {w : World} {base e g n cap : Nat} {xs : List Value} (h : w.ownsRow base e 1 (.slice (some ⟨g, 0, none⟩) n cap) n xs) : base <= g /\ g < w.heap.size /\ n <= cap /\ cap <= maxLen := by
 obtain ⟨hl, ⟨e, _⟩ | ⟨g', cap', cur, e, hb0, hb, h1, h2, _, hp⟩⟩ := h
 ·cases e
 ·cases e
  exact ⟨hb0, (Array.getElem?_eq_some_iff.1 hb).1, h1, h2⟩
theorem own_form {w : World} {base e size n : Nat} {v : Value} {xs : List Value} (h : w.ownsRow base e size v n xs) : (v = .slice none 0 0 /\ n = 0) \/ ∃ g cap, v = .slice (some ⟨g, 0, none⟩) n cap := by
 rcases h.2 with h | ⟨g, cap, cur, e, _⟩
 ·exact .inl h
 ·exact .inr ⟨g, cap, e⟩
theorem own_lies {w0 w : World} {S T : Nat -> Prop} {R : List (PC w0 S)} {base : Nat} {v : Value} (h : w.ownsRow base 46 1 v R.length (R.map PC.enc)) (hw : ∀ b, S b -> w.heap[b]? = w0.heap[b]?) (hS : ∀ b, S b -> T b) (hT : ∀ g, base <= g -> g < w.heap.size -> T g) : ∃ a c b o, v = .slice a (R.map PC.p).length c /\ Headed a (R.map PC.p).length c b o /\ liesQ w T (R.map PC.p) b o := by
 rcases own_form h with ⟨rfl, h0⟩ | ⟨g, cap, rfl⟩
 ·have : R = [] := List.length_eq_zero_iff.1 h0
  subst this
  exact ⟨none, 0, 0, 0, rfl, ⟨Nat.le_refl _, by simp [maxLen], .inl rfl, fun _ => rfl⟩, fun j hj => by simp at hj⟩
 ·have hf := own_facts h
  refine ⟨some ⟨g, 0, none⟩, cap, g, 0, by simp, ⟨by simpa using hf.2.2.1, hf.2.2.2, .inr rfl, fun h => by cases h⟩, fun j hj => ?_⟩
  have hj' : j < R.length := by simpa using hj
  refine ⟨hT g hf.1 hf.2.1, (R[j]).enc, by rw [Nat.zero_add]; exact own_cell h (by rw [List.getElem?_map, List.getElem?_eq_getElem hj']; rfl), ?_⟩
  rw [List.getElem_map]
  exact (R[j]).lies hw hS
theorem enc_one {w0 : World} {S : Nat -> Prop} {R : List (PC w0 S)} : ∀ u ∈ R.map PC.enc, u.oneCell' = true := fun u hu => by
 obtain ⟨x, _, rfl⟩ := List.mem_map.1 hu
 rfl
theorem rs_ins {l R : List (List El)} {p : List El} {k : Nat} (h : Rs l R) (hk : k <= R.length) (h1 : ∀ i, (hi : i < R.length) -> k <= i -> lexL oeE p R[i] < 0) (h2 : 0 < k -> lexL oeE p R[k - 1]! > 0) : Rs (l ++ [p]) (R.take k ++ [p] ++ R.drop k) := by
 have hlow : ∀ a ∈ R.take k, lexL oeE a p < 0 := fun a ha => by
  obtain ⟨i, hi, rfl⟩ := List.getElem_of_mem ha
  rw [List.length_take] at hi
  rw [List.getElem_take]
  have hk0 : 0 < k := by omega
  have h3 := h2 hk0
  rw [getElem!_pos R (k - 1) (by omega)] at h3
  have h4 := wk_P.anti p R[k - 1]
  by_cases e : i = k - 1
  ·subst e; omega
  ·have h5 := List.pairwise_iff_getElem.1 h.1 i (k - 1) (by omega) (by omega) (by omega)
   exact wk_P.tri _ _ _ h5 (by omega)
 have hhigh : ∀ b ∈ R.drop k, lexL oeE p b < 0 := fun b hb => by
  obtain ⟨i, hi, rfl⟩ := List.getElem_of_mem hb
  rw [List.length_drop] at hi
  rw [List.getElem_drop]
  exact h1 (k + i) (by omega) (by omega)
 refine ⟨?_, fun q => ?_⟩
 ·rw [List.append_assoc, List.pairwise_append]
  refine ⟨h.1.sublist (List.take_sublist _ _), ?_, fun a ha b hb => ?_⟩
  ·rw [List.singleton_append, List.pairwise_cons]
   exact ⟨hhigh, h.1.sublist (List.drop_sublist _ _)⟩
  ·rcases List.mem_append.1 hb with hb | hb
   ·rw [List.mem_singleton.1 hb]; exact hlow a ha
   ·exact wk_P.tri _ _ _ (hlow a ha) (hhigh b hb)
 ·have e : q ∈ R ↔ q ∈ R.take k \/ q ∈ R.drop k := by rw [<- List.mem_append, List.take_append_drop]
  simp only [List.mem_append, List.mem_singleton]
  rw [<- h.2 q, e]
  constructor
  ·rintro ((h | h) | h)
   ·exact .inl (.inl h)
   ·exact .inr h
   ·exact .inl (.inr h)
  ·rintro ((h | h) | h)
   ·exact .inl (.inl h)
   ·exact .inr h
   ·exact .inl (.inr h)
theorem rs_same {l R : List (List El)} {p : List El} (h : Rs l R) (hp : p ∈ R) : Rs (l ++ [p]) R := ⟨h.1, fun q => by
 simp only [List.mem_append, List.mem_singleton]
 rw [<- h.2 q]
 exact ⟨.inl, fun h => h.elim id (fun e => e ▸ hp)⟩⟩
end Go.Proofs.YtdgfjdhobdfglaaGreatDoor
