/- joined: PlainW PlainX BorP RdrB -/
import Derived.Test.YtdgfjdhobdfglaaGreatDoorG24
set_option linter.unusedSimpArgs false
set_option linter.unusedVariables false
namespace Go.Proofs.YtdgfjdhobdfglaaGreatDoor.Q
theorem nxtGo_full (n : Nat) (k lo hi : Nat) (h : n <= k) (u : List UInt8) : nxtGo n k lo hi u = (n, true) := by
 cases u <;> simp [nxtGo, h]
theorem nxtGo_pre (n : Nat) : ∀ (t : List UInt8) (k lo hi : Nat) (u : List UInt8), k <= n -> (nxtGo n k lo hi t).2 = true ->
 nxtGo n k lo hi (t.take (n - k) ++ u) = (n, true) /\ n - k <= t.length /\ (128 <= lo -> ∀ x ∈ t.take (n - k), 128 <= x.toNat)
 | [], k, lo, hi, u, hk, h => by
  by_cases c : n <= k
  ·have e : n - k = 0 := by omega
   rw [e]
   exact ⟨nxtGo_full n k lo hi c _, by simp, by simp⟩
  ·simp [nxtGo, c] at h
 | c :: t, k, lo, hi, u, hk, h => by
  by_cases d : n <= k
  ·have e : n - k = 0 := by omega
   rw [e]
   exact ⟨nxtGo_full n k lo hi d _, by simp, by simp⟩
  ·rw [nxtGo, if_neg d] at h
   by_cases g : c.toNat < lo \/ hi < c.toNat
   ·rw [if_pos g] at h; simp at h
   ·rw [if_neg g] at h
    have ih := nxtGo_pre n t (k + 1) 128 191 u (by omega) h
    have e : n - k = (n - (k + 1)) + 1 := by omega
    rw [e, List.take_succ_cons, List.cons_append, nxtGo, if_neg d, if_neg g]
    refine ⟨ih.1, by simp only [List.length_cons]; omega, ?_⟩
    intro hlo x hx
    rcases List.mem_cons.1 hx with rfl | hx
    ·omega
    ·exact ih.2.2 (by omega) x hx
theorem bnd_lo (b : Nat) (h : 128 <= b) (h0 : (bnd b).1 ≠ 0) : 128 <= (bnd b).2.1 := by
 revert h0
 unfold bnd
 repeat' split
 all_goals first | omega | simp
theorem nxt_pre (b : UInt8) (t : List UInt8) (h : (nxt (b :: t)).2 = true) (u : List UInt8) :
 nxt ((b :: t).take (nxt (b :: t)).1 ++ u) = ((nxt (b :: t)).1, true) /\ (nxt (b :: t)).1 <= t.length + 1 /\ 1 <= (nxt (b :: t)).1 /\ (128 <= b.toNat -> ∀ x ∈ (b :: t).take (nxt (b :: t)).1, 128 <= x.toNat) := by
 have h1 := (nxt_le (b :: t)).2.2 h
 rw [nxt_cons] at h h1 ⊢
 by_cases c : (bnd b.toNat).1 = 0
 ·rw [if_pos c] at h; simp at h
 ·rw [if_neg c] at h h1 ⊢
  have hg := nxtGo_le (bnd b.toNat).1 t 1 (bnd b.toNat).2.1 (bnd b.toNat).2.2 (by omega) (by omega)
  have hn := hg.2.2.2 h
  have hp := nxtGo_pre (bnd b.toNat).1 t 1 (bnd b.toNat).2.1 (bnd b.toNat).2.2 u (by omega) h
  rw [hn]
  have e : (bnd b.toNat).1 = ((bnd b.toNat).1 - 1) + 1 := by omega
  have e2 : (b :: t).take (bnd b.toNat).1 = b :: t.take ((bnd b.toNat).1 - 1) := by
   conv => lhs; rw [e]
   rfl
  rw [e2, List.cons_append, nxt_cons, if_neg c]
  refine ⟨hp.1, by omega, by omega, ?_⟩
  intro hb x hx
  rcases List.mem_cons.1 hx with rfl | hx
  ·exact hb
  ·exact hp.2.2 (bnd_lo _ hb c) x hx
theorem valid_cons (b : UInt8) (t : List UInt8) : Lib.validD (b :: t) = true ↔ (nxt (b :: t)).2 = true /\ Lib.validD ((b :: t).drop (nxt (b :: t)).1) = true := by
 rw [valid_step _ (by simp)]
 cases h : (nxt (b :: t)).2 <;> simp
theorem valid_app (m : Nat) : ∀ (a b : List UInt8), a.length <= m -> Lib.validD a = true -> Lib.validD b = true -> Lib.validD (a ++ b) = true := by
 induction m with
 | zero =>
  intro a b hl ha hb
  have : a = [] := List.length_eq_zero_iff.1 (by omega)
  subst this
  exact hb
 | succ m ih =>
  intro a b hl ha hb
  cases a with
  | nil => exact hb
  | cons x t =>
   obtain ⟨h1, h2⟩ := (valid_cons x t).1 ha
   have hp := nxt_pre x t h1 ((x :: t).drop (nxt (x :: t)).1 ++ b)
   have e : (x :: t).take (nxt (x :: t)).1 ++ ((x :: t).drop (nxt (x :: t)).1 ++ b) = x :: (t ++ b) := by
    rw [<- List.append_assoc, List.take_append_drop]; rfl
   rw [e] at hp
   rw [List.cons_append]
   refine (valid_cons x (t ++ b)).2 ⟨by rw [hp.1], ?_⟩
   rw [hp.1]
   have e2 : (x :: (t ++ b)).drop (nxt (x :: t)).1 = (x :: t).drop (nxt (x :: t)).1 ++ b := by
    rw [<- List.cons_append, List.drop_append_of_le_length (by simp only [List.length_cons]; omega)]
   simp only
   rw [e2]
   refine ih _ b ?_ h2 hb
   simp only [List.length_drop, List.length_cons] at *
   omega
theorem valid_take (b : UInt8) (t : List UInt8) (h : (nxt (b :: t)).2 = true) : Lib.validD ((b :: t).take (nxt (b :: t)).1) = true := by
 have hp := nxt_pre b t h []
 rw [List.append_nil] at hp
 have hl : ((b :: t).take (nxt (b :: t)).1).length = (nxt (b :: t)).1 := by simp; omega
 generalize hq : (b :: t).take (nxt (b :: t)).1 = q at *
 cases q with
 | nil => rfl
 | cons x r =>
  refine (valid_cons x r).2 ⟨by rw [hp.1], ?_⟩
  rw [hp.1]
  simp only
  rw [<- hl, List.drop_length]
  rfl
theorem body_app (a b : List UInt8) : body (a ++ b) = body a ++ body b := by simp [body]
theorem esc_hi (x : UInt8) (h : 128 <= x.toNat) : esc x = [x] := by
 have e : letN x.toNat = 0 := by
  unfold letN
  repeat' split
  all_goals first | omega | rfl
 simp [esc, escN, e, show ¬ x.toNat < 32 by omega]
theorem body_hi (l : List UInt8) (h : ∀ x ∈ l, 128 <= x.toNat) : body l = l := by
 induction l with
 | nil => rfl
 | cons x t ih =>
  have e : body (x :: t) = esc x ++ body t := by simp [body]
  rw [e, esc_hi x (h x (by simp)), ih (fun y hy => h y (by simp [hy]))]
  rfl
theorem let_said : ∀ c : Fin 256, letN c.val ≠ 0 -> letN c.val ≠ 117 /\ saidN (letN c.val) = c.val /\ letN c.val < 256 := by decide +kernel
theorem hex_dig : ∀ d : Fin 16, dig (hexN d.val) = (d.val : Int) /\ hexN d.val < 256 := by decide +kernel
theorem digs_low (x y : UInt8) (u : List UInt8) (a b : Nat) (ha : dig x.toNat = a) (hb : dig y.toNat = b) (hab : 16 * a + b < 55296) : numF (48 :: 48 :: x :: y :: u) = (16 * a + b, 4, true) := by
 have e : digs false 4 0 0 (48 :: 48 :: x :: y :: u) = (16 * a + b, 4, true) := by
  have e48 : dig (48 : UInt8).toNat = 0 := by decide
  have na : ¬ (a : Int) < 0 := by omega
  have nb : ¬ (b : Int) < 0 := by omega
  have e48' : dig 48 = 0 := by decide
  simp [digs, e48, e48', ha, hb, goes, na, nb]
 rw [numF, e]
 simp only
 rw [if_neg (by simp), if_neg (by omega)]
theorem enc1 (c : UInt8) (h : c.toNat < 128) : Lib.encodeRune (c.toNat : Int) = [c] := by
 unfold Lib.encodeRune
 rw [Lib.encodeRuneZ_one (by omega) (by omega)]
 simp
theorem stp_esc (c : UInt8) (h : c.toNat < 128) (u : List UInt8) : stp (esc c ++ u) = (2, [c], wid c, 0) := by
 by_cases hl : letN c.toNat = 0
 ·by_cases h32 : c.toNat < 32
  ·have e : esc c = [92, 117, 48, 48, UInt8.ofNat (hexN (c.toNat / 16)), UInt8.ofNat (hexN (c.toNat % 16))] := by
    simp [esc, escN, hl, h32]
   have d1 := hex_dig ⟨c.toNat / 16, by omega⟩
   have d2 := hex_dig ⟨c.toNat % 16, by omega⟩
   simp only at d1 d2
   have t1 : (UInt8.ofNat (hexN (c.toNat / 16))).toNat = hexN (c.toNat / 16) := by simp; omega
   have t2 : (UInt8.ofNat (hexN (c.toNat % 16))).toNat = hexN (c.toNat % 16) := by simp; omega
   have hn := digs_low (UInt8.ofNat (hexN (c.toNat / 16))) (UInt8.ofNat (hexN (c.toNat % 16))) u (c.toNat / 16) (c.toNat % 16) (by rw [t1]; exact d1.1) (by rw [t2]; exact d2.1) (by omega)
   have hv : 16 * (c.toNat / 16) + c.toNat % 16 = c.toNat := by omega
   rw [hv] at hn
   have hw : wid c = 6 := by simp [wid, widN, hl, h32]
   rw [e]
   simp only [List.cons_append, List.nil_append]
   have he : escF (117 :: 48 :: 48 :: UInt8.ofNat (hexN (c.toNat / 16)) :: UInt8.ofNat (hexN (c.toNat % 16)) :: u) = (c.toNat, 5, true) := by
    rw [escF_cons, if_pos (show (117 : UInt8).toNat = 117 from rfl), hn]; rfl
   rw [stp_cons, if_neg (by decide), if_neg (by decide), if_pos (by decide), he]
   simp only [if_true]
   rw [enc1 c h, hw]
  ·have e : esc c = [c] := by simp [esc, escN, hl, h32]
   have hw : wid c = 1 := by simp [wid, widN, hl, h32]
   have n34 : c.toNat ≠ 34 := by intro e; rw [e] at hl; simp [letN] at hl
   have n92 : c.toNat ≠ 92 := by intro e; rw [e] at hl; simp [letN] at hl
   have hn : nxt (c :: u) = (1, true) := by
    rw [nxt_cons]
    have e1 : bnd c.toNat = (1, 0, 0) := by simp [bnd, h]
    rw [e1]
    simp only
    rw [if_neg (by omega), nxtGo_full 1 1 0 0 (by omega)]
   rw [e, List.cons_append, List.nil_append, stp_cons, if_neg h32, if_neg n34, if_neg n92, hn]
   simp [hw]
 ·have e : esc c = [92, UInt8.ofNat (letN c.toNat)] := by simp [esc, escN, hl]
  obtain ⟨g1, g2, g3⟩ := let_said ⟨c.toNat, c.toNat_lt⟩ hl
  simp only at g1 g2 g3
  have t1 : (UInt8.ofNat (letN c.toNat)).toNat = letN c.toNat := by simp; omega
  have hw : wid c = 2 := by simp [wid, widN, hl]
  have hc0 : c.toNat ≠ 0 := by intro e; rw [e] at hl; simp [letN] at hl
  rw [e]
  simp only [List.cons_append, List.nil_append]
  have he : escF (UInt8.ofNat (letN c.toNat) :: u) = (c.toNat, 1, true) := by
   rw [escF_cons, t1, if_neg g1, g2, if_neg hc0]
  rw [stp_cons, if_neg (by decide), if_neg (by decide), if_pos (by decide), he]
  simp only [if_true]
  rw [enc1 c h, hw]
theorem wid_pos (c : UInt8) : 1 <= wid c := (widN_le c.toNat).1
theorem back (m : Nat) : ∀ (l : List UInt8), l.length <= m -> Lib.validD l = true -> ∀ (f k : Nat) (out u : List UInt8), (body l).length + 1 <= f -> unq f (body l ++ 34 :: u) k out = (out ++ l, k + (body l).length + 1, 0) := by
 induction m with
 | zero =>
  intro l hl hv f k out u hf
  have : l = [] := List.length_eq_zero_iff.1 (by omega)
  subst this
  obtain ⟨f', rfl⟩ : ∃ f', f = f' + 1 := ⟨f - 1, by omega⟩
  have e : stp (34 :: u) = (1, [], 1, 0) := by rw [stp_cons, if_neg (by decide), if_pos (by decide)]
  simp [body, unq, e]
 | succ m ih =>
  intro l hl hv f k out u hf
  cases l with
  | nil =>
   obtain ⟨f', rfl⟩ : ∃ f', f = f' + 1 := ⟨f - 1, by omega⟩
   have e : stp (34 :: u) = (1, [], 1, 0) := by rw [stp_cons, if_neg (by decide), if_pos (by decide)]
   simp [body, unq, e]
  | cons b t =>
   obtain ⟨f', rfl⟩ : ∃ f', f = f' + 1 := ⟨f - 1, by omega⟩
   obtain ⟨h1, h2⟩ := (valid_cons b t).1 hv
   by_cases hb : b.toNat < 128
   ·have eb : body (b :: t) = esc b ++ body t := by simp [body]
    have hn : nxt (b :: t) = (1, true) := by
     rw [nxt_cons]
     have e1 : bnd b.toNat = (1, 0, 0) := by simp [bnd, hb]
     rw [e1]
     simp only
     rw [if_neg (by omega), nxtGo_full 1 1 0 0 (by omega)]
    rw [hn] at h2
    have hst := stp_esc b hb (body t ++ 34 :: u)
    have hl2 : (body (b :: t)).length = wid b + (body t).length := by rw [eb, List.length_append, esc_length]
    have hw := wid_pos b
    rw [eb, List.append_assoc, unq, hst]
    simp only
    rw [if_neg (by omega), if_neg (by omega)]
    have ed : (esc b ++ (body t ++ 34 :: u)).drop (wid b) = body t ++ 34 :: u := by
     rw [<- esc_length, List.drop_left]
    rw [ed, ih t (by simp only [List.length_cons] at hl; omega) h2 f' _ _ u (by omega), List.append_assoc]
    simp only [List.length_append, esc_length]
    refine Prod.ext rfl (Prod.ext ?_ rfl)
    simp only
    omega
   ·have hp := nxt_pre b t h1 (body ((b :: t).drop (nxt (b :: t)).1) ++ 34 :: u)
    have hge := hp.2.2.2 (by omega)
    have hlt : ((b :: t).take (nxt (b :: t)).1).length = (nxt (b :: t)).1 := by simp; omega
    have eb : body (b :: t) = (b :: t).take (nxt (b :: t)).1 ++ body ((b :: t).drop (nxt (b :: t)).1) := by
     conv => lhs; rw [<- List.take_append_drop (nxt (b :: t)).1 (b :: t)]
     rw [body_app, body_hi _ hge]
    have hl2 := congrArg List.length eb
    rw [List.length_append, hlt] at hl2
    have hd : ((b :: t).drop (nxt (b :: t)).1).length = t.length + 1 - (nxt (b :: t)).1 := by simp
    have hst : stp ((b :: t).take (nxt (b :: t)).1 ++ (body ((b :: t).drop (nxt (b :: t)).1) ++ 34 :: u)) = (2, (b :: t).take (nxt (b :: t)).1, (nxt (b :: t)).1, 0) := by
     obtain ⟨q, hq⟩ : ∃ q, (b :: t).take (nxt (b :: t)).1 = b :: q := by
      obtain ⟨n', hn'⟩ : ∃ n', (nxt (b :: t)).1 = n' + 1 := ⟨(nxt (b :: t)).1 - 1, by omega⟩
      exact ⟨t.take n', by rw [hn']; rfl⟩
     have hp1 := hp.1
     have htk : ((b :: t).take (nxt (b :: t)).1 ++ (body ((b :: t).drop (nxt (b :: t)).1) ++ 34 :: u)).take (nxt (b :: t)).1 = (b :: t).take (nxt (b :: t)).1 := by
      conv => lhs; arg 1; rw [<- hlt]
      rw [List.take_left]
     generalize body ((b :: t).drop (nxt (b :: t)).1) ++ 34 :: u = X at *
     generalize nxt (b :: t) = N at *
     rw [hq, List.cons_append] at hp1 htk ⊢
     rw [stp_cons, if_neg (by omega), if_neg (by omega), if_neg (by omega), hp1]
     simp only [if_true]
     rw [htk]
    have ed : ((b :: t).take (nxt (b :: t)).1 ++ (body ((b :: t).drop (nxt (b :: t)).1) ++ 34 :: u)).drop (nxt (b :: t)).1 = body ((b :: t).drop (nxt (b :: t)).1) ++ 34 :: u := by
     conv => lhs; arg 1; rw [<- hlt]
     rw [List.drop_left]
    rw [eb, List.append_assoc, unq, hst]
    simp only
    rw [if_neg (by omega), if_neg (by omega), ed, ih _ (by simp only [List.length_cons] at hl; omega) h2 f' _ _ u (by omega), List.append_assoc, List.take_append_drop, List.length_append, hlt]
    refine Prod.ext rfl (Prod.ext ?_ rfl)
    simp only
    omega
theorem unq_back (l a u : List UInt8) (hv : Lib.validD l = true) : unqAll (a ++ (qt l ++ u)) (a.length : Int) = (l, a.length + (qt l).length, 0) := by
 have hl := qt_length l
 rw [unqAll, if_neg (by simp; omega), Int.toNat_natCast]
 have e1 : (a ++ (qt l ++ u)).drop a.length = qt l ++ u := List.drop_left
 have e2 : (a ++ (qt l ++ u)).drop (a.length + 1) = body l ++ 34 :: u := by
  rw [<- List.drop_drop, e1]
  simp [qt]
 rw [e1, if_pos (by simp [qt]), e2, back l.length l (Nat.le_refl _) hv _ _ _ u (by simp only [List.length_append, sz] at *; omega)]
 simp only [List.nil_append]
 refine Prod.ext rfl (Prod.ext ?_ rfl)
 simp only [sz] at *
 omega
end Go.Proofs.YtdgfjdhobdfglaaGreatDoor.Q
namespace Go.Proofs.YtdgfjdhobdfglaaGreatDoor.Q
theorem valid_nxt (x : UInt8) (t : List UInt8) (h : nxt (x :: t) = (t.length + 1, true)) : Lib.validD (x :: t) = true := by
 refine (valid_cons x t).2 ⟨by rw [h], ?_⟩
 rw [h]
 have e : (x :: t).drop (t.length + 1) = [] := by simp
 simp only
 rw [e]
 rfl
theorem bnd2 (b : Nat) (h : 194 <= b /\ b < 224) : bnd b = (2, 128, 191) := by
 unfold bnd; repeat' split
 all_goals first | rfl | (exfalso; omega)
theorem bnd3 (b : Nat) (h : 224 <= b /\ b < 240) : bnd b = (3, (if b = 224 then 160 else 128), (if b = 237 then 159 else 191)) := by
 unfold bnd; repeat' split
 all_goals first | rfl | (exfalso; omega)
theorem bnd4 (b : Nat) (h : 240 <= b /\ b <= 244) : bnd b = (4, (if b = 240 then 144 else 128), (if b = 244 then 143 else 191)) := by
 unfold bnd; repeat' split
 all_goals first | rfl | (exfalso; omega)
theorem byteZ (z : Int) (h0 : 0 <= z) (h1 : z < 256) : (z.toNat.toUInt8).toNat = z.toNat := by
 simp; omega
theorem enc_valid (v : Nat) (h1 : v <= 1114111) (h2 : ¬ (55296 <= v /\ v <= 57343)) : Lib.validD (Lib.encodeRune (v : Int)) = true /\ (128 <= v -> ∀ x ∈ Lib.encodeRune (v : Int), 128 <= x.toNat) := by
 unfold Lib.encodeRune
 by_cases c1 : v < 128
 ·rw [Lib.encodeRuneZ_one (by omega) (by omega)]
  refine ⟨?_, by omega⟩
  rw [List.map_cons, List.map_nil, Lib.validD_cons _ _ (by rw [byteZ _ (by omega) (by omega)]; omega)]
  rfl
 by_cases c2 : v < 2048
 ·rw [Lib.encodeRuneZ_two (by omega) (by omega)]
  have e0 := byteZ (192 + (v : Int) / 64) (by omega) (by omega)
  have e1 := byteZ (128 + (v : Int) % 64) (by omega) (by omega)
  simp only [List.map_cons, List.map_nil]
  generalize (192 + (v : Int) / 64).toNat.toUInt8 = x0 at *
  generalize (128 + (v : Int) % 64).toNat.toUInt8 = x1 at *
  refine ⟨valid_nxt x0 [x1] ?_, ?_⟩
  ·rw [nxt_cons, bnd2 _ (by omega)]
   simp only
   rw [if_neg (by omega), nxtGo, if_neg (by omega), if_neg (by omega), nxtGo_full _ _ _ _ (by omega)]
   rfl
  ·intro _ x hx
   simp at hx
   rcases hx with rfl | rfl <;> omega
 by_cases c3 : v < 65536
 ·rw [Lib.encodeRuneZ_three (by omega)]
  have e0 := byteZ (224 + (v : Int) / 4096) (by omega) (by omega)
  have e1 := byteZ (128 + (v : Int) / 64 % 64) (by omega) (by omega)
  have e2 := byteZ (128 + (v : Int) % 64) (by omega) (by omega)
  simp only [List.map_cons, List.map_nil]
  generalize (224 + (v : Int) / 4096).toNat.toUInt8 = x0 at *
  generalize (128 + (v : Int) / 64 % 64).toNat.toUInt8 = x1 at *
  generalize (128 + (v : Int) % 64).toNat.toUInt8 = x2 at *
  refine ⟨valid_nxt x0 [x1, x2] ?_, ?_⟩
  ·rw [nxt_cons, bnd3 _ (by omega)]
   simp only
   have a1 : ¬ (x1.toNat < (if x0.toNat = 224 then 160 else 128) \/ (if x0.toNat = 237 then 159 else 191) < x1.toNat) := by
    split <;> split <;> omega
   rw [if_neg (by omega), nxtGo, if_neg (by omega), if_neg a1, nxtGo, if_neg (by omega), if_neg (by omega), nxtGo_full _ _ _ _ (by omega)]
   rfl
  ·intro _ x hx
   simp at hx
   rcases hx with rfl | rfl | rfl <;> omega
 ·rw [Lib.encodeRuneZ_four (by omega) (by omega)]
  have e0 := byteZ (240 + (v : Int) / 262144) (by omega) (by omega)
  have e1 := byteZ (128 + (v : Int) / 4096 % 64) (by omega) (by omega)
  have e2 := byteZ (128 + (v : Int) / 64 % 64) (by omega) (by omega)
  have e3 := byteZ (128 + (v : Int) % 64) (by omega) (by omega)
  simp only [List.map_cons, List.map_nil]
  generalize (240 + (v : Int) / 262144).toNat.toUInt8 = x0 at *
  generalize (128 + (v : Int) / 4096 % 64).toNat.toUInt8 = x1 at *
  generalize (128 + (v : Int) / 64 % 64).toNat.toUInt8 = x2 at *
  generalize (128 + (v : Int) % 64).toNat.toUInt8 = x3 at *
  refine ⟨valid_nxt x0 [x1, x2, x3] ?_, ?_⟩
  ·rw [nxt_cons, bnd4 _ (by omega)]
   simp only
   have a1 : ¬ (x1.toNat < (if x0.toNat = 240 then 144 else 128) \/ (if x0.toNat = 244 then 143 else 191) < x1.toNat) := by
    split <;> split <;> omega
   rw [if_neg (by omega), nxtGo, if_neg (by omega), if_neg a1, nxtGo, if_neg (by omega), if_neg (by omega), nxtGo, if_neg (by omega), if_neg (by omega), nxtGo_full _ _ _ _ (by omega)]
   rfl
  ·intro _ x hx
   simp at hx
   rcases hx with rfl | rfl | rfl | rfl <;> omega
theorem said_wid : ∀ c : Fin 256, widN (saidN c.val) <= 2 \/ saidN c.val = 0 := by decide +kernel
theorem esc_short (t : List UInt8) (h : (escF t).2.2 = true) : sz (Lib.encodeRune ((escF t).1 : Int)) <= 1 + (escF t).2.1 := by
 cases t with
 | nil => simp [escF] at h
 | cons x t =>
  rw [escF_cons] at h ⊢
  by_cases c : x.toNat = 117
  ·rw [if_pos c] at h ⊢
   simp only at h ⊢
   have hn := (numF_le t).2 h
   have hen := enc_len (numF t).1
   by_cases c1 : (numF t).1 < 128
   ·have e : Lib.encodeRune ((numF t).1 : Int) = [UInt8.ofNat (numF t).1] := by
     unfold Lib.encodeRune
     rw [Lib.encodeRuneZ_one (by omega) (by omega)]
     simp
    rw [e]
    have : sz [UInt8.ofNat (numF t).1] = wid (UInt8.ofNat (numF t).1) := by simp [sz, body, esc_length]
    rw [this]
    have := (widN_le (UInt8.ofNat (numF t).1).toNat).2
    unfold wid
    omega
   ·have hv := (enc_valid (numF t).1 hn.2.1 hn.2.2).2 (by omega)
    unfold sz
    rw [body_hi _ hv]
    omega
  ·rw [if_neg c] at h ⊢
   by_cases c2 : saidN x.toNat = 0
   ·rw [if_pos c2] at h; simp at h
   ·rw [if_neg c2]
    simp only
    have hs := saidN_lt x.toNat
    have e : Lib.encodeRune ((saidN x.toNat : Nat) : Int) = [UInt8.ofNat (saidN x.toNat)] := by
     unfold Lib.encodeRune
     rw [Lib.encodeRuneZ_one (by omega) (by omega)]
     simp
    have t1 : (UInt8.ofNat (saidN x.toNat)).toNat = saidN x.toNat := by simp; omega
    have e2 : sz [UInt8.ofNat (saidN x.toNat)] = widN (saidN x.toNat) := by simp [sz, body, esc_length, wid, t1]
    rw [e, e2]
    have := said_wid ⟨x.toNat, x.toNat_lt⟩
    simp only at this
    omega
theorem sz_app (a b : List UInt8) : sz (a ++ b) = sz a + sz b := by unfold sz; rw [body_app, List.length_append]
theorem stp_good (t : List UInt8) (h : (stp t).1 = 2) : Lib.validD (stp t).2.1 = true /\ sz (stp t).2.1 <= (stp t).2.2.1 := by
 cases t with
 | nil => simp [stp] at h
 | cons x t =>
  rw [stp_cons] at h ⊢
  by_cases c0 : x.toNat < 32
  ·rw [if_pos c0] at h; simp at h
  rw [if_neg c0] at h ⊢
  by_cases c1 : x.toNat = 34
  ·rw [if_pos c1] at h; simp at h
  rw [if_neg c1] at h ⊢
  by_cases c2 : x.toNat = 92
  ·rw [if_pos c2] at h ⊢
   by_cases c3 : (escF t).2.2 = true
   ·rw [if_pos c3]
    simp only
    have hv := (escF_le t).2 c3
    exact ⟨(enc_valid _ hv.1 hv.2.1).1, esc_short t c3⟩
   ·rw [if_neg c3] at h; simp at h
  ·rw [if_neg c2] at h ⊢
   by_cases c3 : (nxt (x :: t)).2 = true
   ·rw [if_pos c3]
    simp only
    refine ⟨valid_take x t c3, ?_⟩
    have hp := nxt_pre x t c3 []
    have hlt : ((x :: t).take (nxt (x :: t)).1).length = (nxt (x :: t)).1 := by simp; omega
    by_cases c4 : x.toNat < 128
    ·have hn : nxt (x :: t) = (1, true) := by
      rw [nxt_cons]
      have e1 : bnd x.toNat = (1, 0, 0) := by simp [bnd, c4]
      rw [e1]
      simp only
      rw [if_neg (by omega), nxtGo_full 1 1 0 0 (by omega)]
     rw [hn]
     have e : letN x.toNat = 0 := by
      unfold letN
      repeat' split
      all_goals first | omega | rfl
     simp [sz, body, esc_length, wid, widN, e, c0]
    ·unfold sz
     rw [body_hi _ (hp.2.2.2 (by omega)), hlt]
     exact Nat.le_refl _
   ·rw [if_neg c3] at h; simp at h
theorem unq_inv : ∀ (f : Nat) (t : List UInt8) (k : Nat) (out : List UInt8), t.length < f -> Lib.validD out = true ->
 (unq f t k out).2.1 <= k + t.length /\ ((unq f t k out).2.2 = 0 -> Lib.validD (unq f t k out).1 = true /\ k + 1 <= (unq f t k out).2.1 /\ sz (unq f t k out).1 + (k + 1) <= sz out + (unq f t k out).2.1 /\ (unq f t k out).1.length + k <= out.length + (unq f t k out).2.1)
 | 0, t, k, out, hf, hv => by omega
 | f + 1, t, k, out, hf, hv => by
  have hs := stp_le t
  have he : (stp t).1 = 0 -> (stp t).2.2.2 ≠ 0 := by
   intro h0
   cases t with
   | nil => simp [stp]
   | cons x t =>
    rw [stp_cons] at h0 ⊢
    repeat' split
    all_goals first | (simp; done) | (simp_all; done)
  rw [unq]
  by_cases c0 : (stp t).1 = 0
  ·rw [if_pos c0]
   refine ⟨by simp only; omega, fun h => absurd h (he c0)⟩
  ·rw [if_neg c0]
   have h1 := hs.2.1 c0
   by_cases c1 : (stp t).1 = 1
   ·rw [if_pos c1]
    simp only
    refine ⟨by omega, fun _ => ⟨hv, by omega, by omega, by omega⟩⟩
   ·rw [if_neg c1]
    have h2 : (stp t).1 = 2 := by omega
    have hg := stp_good t h2
    have hl : (t.drop (stp t).2.2.1).length = t.length - (stp t).2.2.1 := by simp
    have ih := unq_inv f (t.drop (stp t).2.2.1) (k + (stp t).2.2.1) (out ++ (stp t).2.1) (by omega) (valid_app _ out _ (Nat.le_refl _) hv hg.1)
    rw [hl, sz_app, List.length_append] at ih
    refine ⟨by omega, fun h => ?_⟩
    have := ih.2 h
    refine ⟨this.1, by omega, by omega, by omega⟩
theorem unqAll_inv (l : List UInt8) (z : Int) : (unqAll l z).2.1 <= l.length /\ ((unqAll l z).2.2 = 0 -> Lib.validD (unqAll l z).1 = true /\ 0 <= z /\ z + 1 < (unqAll l z).2.1 /\ ((qt (unqAll l z).1).length : Int) <= (unqAll l z).2.1 - z /\ (unqAll l z).1.length <= l.length) := by
 rw [unqAll]
 by_cases c : z < 0 \/ (l.length : Int) < z
 ·rw [if_pos c]; simp
 ·rw [if_neg c]
  by_cases d : (l.drop z.toNat).head? = some 34
  ·rw [if_pos d]
   have hlt : z.toNat < l.length := by
    rcases Nat.lt_or_ge z.toNat l.length with h | h
    ·exact h
    ·rw [List.drop_eq_nil_iff.2 h] at d; cases d
   have hl : (l.drop (z.toNat + 1)).length = l.length - (z.toNat + 1) := by simp
   have h := unq_inv (l.length + 1) (l.drop (z.toNat + 1)) (z.toNat + 1) [] (by omega) rfl
   rw [hl] at h
   refine ⟨by omega, fun g => ?_⟩
   have h2 := h.2 g
   rw [qt_length]
   have hz0 : sz [] = 0 := rfl
   have hn0 : ([] : List UInt8).length = 0 := rfl
   refine ⟨h2.1, by omega, by omega, by omega, by omega⟩
  ·rw [if_neg d]
   simp
   omega
end Go.Proofs.YtdgfjdhobdfglaaGreatDoor.Q
set_option maxRecDepth 100000
namespace Go.Proofs.YtdgfjdhobdfglaaGreatDoor
open Go.RowKit Go.Lib
theorem Q.borne_of (s : ByteArray) (z : Int) (hs : s.size <= 140737488355000) : Q.Borne (Q.unqAll s.data.toList z) := by
 have h := Q.unqAll_inv s.data.toList z
 have hl : s.data.toList.length = s.size := by simp
 rw [hl] at h
 refine ⟨fun c => ?_, fun _ => by omega⟩
 have := (h.2 c).2.2.2.2
 omega
theorem Q.unq_place (s : ByteArray) (z : Int) : (Q.unqAll s.data.toList z).2.1 <= s.size /\ ((Q.unqAll s.data.toList z).2.2 = 0 -> (Q.unqAll s.data.toList z).1.length <= s.size) := by
 have h := Q.unqAll_inv s.data.toList z
 have hl : s.data.toList.length = s.size := by simp
 rw [hl] at h
 refine ⟨by omega, fun c => ?_⟩
 have := (h.2 c).2.2.2.2
 omega
end Go.Proofs.YtdgfjdhobdfglaaGreatDoor
set_option maxRecDepth 100000
set_option maxHeartbeats 64000000
namespace Go.Proofs.YtdgfjdhobdfglaaGreatDoor
open Go.RowKit Go.Lib
structure RdP (g : Nat) (s : ByteArray) (w w' : World) (k : Nat) : Prop where
 le : k <= s.size
 pb : PB g s k w'
 gr : w.grownBy w' (some g)
theorem RdP.trans {g : Nat} {s : ByteArray} {w w1 w2 : World} {k k2 : Nat} (h : RdP g s w w1 k) (h2 : RdP g s w1 w2 k2) : RdP g s w w2 k2 := ⟨h2.le, h2.pb, grown_trans h.gr h2.gr⟩
theorem Td.grown {w w' : World} {g : Nat} (t : Td w) (h : w.grownBy w' (some g)) (hg : 9 < g) : Td w' := by
 have hz := t.z
 have b : Below 10 w w' := (Below.refl 10 w).grown h (by omega) (fun k hk => by cases hk; omega)
 exact t.below b (by omega) b.size
theorem below_dq {w w1 : World} {q : Nat} (h : Below (w.drewN q).heap.size (w.drewN q) w1) : Below w.heap.size w w1 := by
 have e := drewN_size w q
 rw [e] at h
 exact (below_drewN (Below.refl _ w) q).trans h
def StP (R : Option (ByteArray × Nat)) (g : Nat) (s : ByteArray) (w : World) (e : Ending) (w' : World) : Prop :=
 (∃ x k1, R = some (x, k1) /\ e = .returned (.tuple #[.string x, .bool true]) /\ RdP g s w w' k1) \/ (R = none /\ ∃ k1, e = .returned (.tuple #[.string ⟨#[]⟩, .bool false]) /\ RdP g s w w' k1)
theorem quoF_yes {l : List UInt8} {k : Nat} {r : List UInt8} {pl er : Nat} (h : Q.unqAll l (k : Int) = (r, pl, er)) (h0 : er = 0) : quoF l k = some (⟨r.toArray⟩, pl) := by rw [quoF, h, if_pos h0]
theorem quoF_no {l : List UInt8} {k : Nat} {r : List UInt8} {pl er : Nat} (h : Q.unqAll l (k : Int) = (r, pl, er)) (h0 : er ≠ 0) : quoF l k = none := by rw [quoF, h, if_neg h0]
theorem pquo_any (g : Nat) (s : ByteArray) (k : Nat) (w : World) (h : PB g s k w) (t : Td w) (hs : s.size <= 140737488355000) (hk : k <= s.size) :
 Calls Tryz.prog 122 #[.pointer (some ⟨g, 0, none⟩)] w (StP (quoF s.data.toList k) g s w) := by
 have hlt := h.lt
 have X0 : ∀ x : Sub w.heap.size w, x.w.cell? ⟨g, 0, none⟩ = some (.string s) := sub_cell h.c0 hlt
 have X1 : ∀ x : Sub w.heap.size w, x.w.cell? ⟨g, 1, none⟩ = some (.int .i64 (k : Int)) := sub_cell h.c1 hlt
 obtain ⟨r, pl, er, hR⟩ : ∃ r pl er, Q.unqAll s.data.toList (k : Int) = (r, pl, er) := ⟨_, _, _, rfl⟩
 have CU : Hid (∀ x : Sub w.heap.size w, Calls Tryz.prog 143 #[.string s, .int .i64 (k : Int)] x.w fun e w'' => e = .returned (.tuple #[.string ⟨r.toArray⟩, .int .i64 (pl : Int), .int .i64 (er : Int)]) /\ ∃ y : Sub w.heap.size w, w'' = y.w) := fun x => by
  have hx := t.below x.b t.z x.b.size
  have c := unquote_in s k x.w (by omega) hk hx.s hx.u hx.z (Q.borne_of s k hs)
  rw [hR] at c
  refine c.mono ?_
  rintro e w' ⟨rfl, b⟩
  exact ⟨rfl, ⟨w', x.b.trans (b.mono x.b.size)⟩, rfl⟩
 have hpl := (Q.unq_place s (k : Int)).1
 rw [hR] at hpl
 simp only at hpl
 have HR := hmk hR
 have HH := hmk h
 clear h hR t
 by_cases h0 : er = 0
 ·have y0 : ((er : Int) != 0) = false := by rw [bne_eq_false_iff_eq]; omega
  have HQ := hmk (quoF_yes HR.out h0)
  clear h0
  go_enter Tryz.func122, Tryz.ntmps122
  go_wp2_with fail
  refine wp_region_sub w.heap.size (by kernel_rfl) (by kernel_rfl) ?_
  repeat (go_big_quiet_step (first | exact CU.out _))
  refine wpQuiet_nil ?_
  rintro wq ⟨⟨wq', bq⟩, hq⟩
  have hq' : wq = wq' := hq
  subst hq'
  clear hq
  have P1 := HH.out.keep bq
  have f1 := P1.fz 1
  have c1 := P1.c1
  go_wp2_with fail
  go_ret2
  exact .inl ⟨_, pl, HQ.out, rfl, hpl, P1.put pl _ rfl, grown_set (grown_belowS bq g) _ _⟩
 ·have y0 : ((er : Int) != 0) = true := by rw [bne_iff_ne]; omega
  have HQ := hmk (quoF_no HR.out h0)
  clear h0
  go_enter Tryz.func122, Tryz.ntmps122
  go_wp2_with fail
  refine wp_region_sub w.heap.size (by kernel_rfl) (by kernel_rfl) ?_
  repeat (go_big_quiet_step (first | exact CU.out _))
  refine wpQuiet_nil ?_
  rintro wq ⟨⟨wq', bq⟩, hq⟩
  have hq' : wq = wq' := hq
  subst hq'
  clear hq
  go_wp2_with fail
  go_ret2
  exact .inr ⟨HQ.out, k, rfl, hk, HH.out.keep bq, grown_belowS bq g⟩
theorem sclone_any (s : ByteArray) (w : World) (hs : s.size <= 281474976710656) : Calls Tryz.prog 121 #[.string s] w fun e w' => e = .returned (.string s) /\ Below w.heap.size w w' := by
 have c := hmk (Any.stringslite_Clone Tryz.lays316 s w hs)
 go_enter Tryz.func121, Tryz.ntmps121
 go_wp2_with fail
 refine c.out.mono ?_
 rintro e w' ⟨rfl, b⟩
 go_wp2_with fail
 go_ret
 exact ⟨rfl, b⟩
theorem ext_to (s : ByteArray) (k n : Nat) : (s.extract k s.size).extract 0 n = ⟨((s.data.toList.drop k).take n).toArray⟩ := by
 apply ByteArray.ext
 apply Array.ext'
 have := ext_list s k
 simp only [ByteArray.data_extract, Array.toList_extract] at this ⊢
 simp [List.extract] at this ⊢
 rw [this]
theorem pname_any (g : Nat) (s : ByteArray) (k : Nat) (w : World) (h : PB g s k w) (t : Td w) (hs : s.size <= 140737488355000) (hk : k <= s.size) (hg : 9 < g) :
 Calls Tryz.prog 91 #[.pointer (some ⟨g, 0, none⟩)] w (StP (namF s.data.toList k) g s w) := by
 have c0 := h.c0
 have c1 := h.c1
 have hsl := slice_from s k hk
 have hlt := h.lt
 have hxs := ext_size s k
 have hpn := (prefN_le (s.data.toList.drop k) 0).2
 have hle : (s.data.toList.drop k).length = s.size - k := by simp
 have CA : Hid (∀ W, Calls Tryz.prog 120 #[.string (s.extract k s.size)] W fun e w' => e = .returned (.int .i64 (prefN 0 (s.data.toList.drop k) : Int)) /\ Below W.heap.size W w') := fun W => by
  have c := ahead_any (s.extract k s.size) W (by omega)
  rw [ext_list s k] at c
  exact c
 have CQ : Hid (∀ W, Below w.heap.size w W -> Calls Tryz.prog 122 #[.pointer (some ⟨g, 0, none⟩)] W (StP (quoF s.data.toList k) g s W)) := fun W b => pquo_any g s k W (h.keep b) (t.below b t.z b.size) hs hk
 have HT := hmk t
 have HH := hmk h
 have HE := hmk (ext_to s k (prefN 0 (s.data.toList.drop k)))
 have HN : Hid (namF s.data.toList k = if 0 < prefN 0 (s.data.toList.drop k) then some (⟨((s.data.toList.drop k).take (prefN 0 (s.data.toList.drop k))).toArray⟩, k + prefN 0 (s.data.toList.drop k)) else quoF s.data.toList k) := rfl
 clear h t
 generalize prefN 0 (s.data.toList.drop k) = n at *
 generalize hY : s.extract k s.size = Y at *
 have HY := hmk hY
 clear hY
 by_cases h0 : 0 < n
 ·have y0 : (n : Int) > 0 := by omega
  have C8 : Hid (∀ W, Calls Tryz.prog 121 #[.string (Y.extract 0 n)] W fun e w' => e = .returned (.string (Y.extract 0 n)) /\ Below W.heap.size W w') := fun W => sclone_any _ W (by rw [HE.out]; show ((s.data.toList.drop k).take n).toArray.size <= _; simp; omega)
  have hn2 : (n : Int) <= Y.size := by omega
  go_enter Tryz.func91, Tryz.ntmps91
  go_wp2_with fail
  go_quiet (fail)
  go_wp2_with fail
  refine (CA.out _).mono ?_
  rintro e w1 ⟨rfl, b1⟩
  have b0 : Below w.heap.size w w1 := below_dq b1
  have P1 := HH.out.keep b0
  have d1 := P1.c1
  have f1 := P1.fz 1
  go_wp2_with fail
  refine (C8.out _).mono ?_
  rintro e w2 ⟨rfl, b2⟩
  go_wp2_with fail
  go_ret2
  have P2 := P1.put (k + n) ((k : Int) + n) (by omega)
  refine .inl ⟨Y.extract 0 n, k + n, by rw [HN.out, if_pos h0, HE.out], rfl, by omega, P2.keep b2, ?_⟩
  exact grown_trans (grown_set (grown_belowS b0 g) _ _) (grown_belowS b2 g)
 ·have y0 : ¬ (n : Int) > 0 := by omega
  go_enter Tryz.func91, Tryz.ntmps91
  go_wp2_with fail
  go_quiet (fail)
  go_wp2_with fail
  refine (CA.out _).mono ?_
  rintro e w1 ⟨rfl, b1⟩
  have b0 : Below w.heap.size w w1 := below_dq b1
  have HB := hmk b0
  go_wp2_with fail
  refine (CQ.out _ b0).mono ?_
  rintro e w2 (⟨x, k1, hq, rfl, r⟩ | ⟨hq, k1, rfl, r⟩)
  ·have HQ := hmk hq
   clear hq
   go_wp2_with fail
   go_ret2
   exact .inl ⟨x, k1, by rw [HN.out, if_neg h0, HQ.out], rfl, r.le, r.pb, grown_trans (grown_belowS HB.out g) r.gr⟩
  ·have HQ := hmk hq
   clear hq
   go_wp2_with fail
   go_ret2
   exact .inr ⟨by rw [HN.out, if_neg h0, HQ.out], k1, rfl, r.le, r.pb, grown_trans (grown_belowS HB.out g) r.gr⟩
end Go.Proofs.YtdgfjdhobdfglaaGreatDoor
