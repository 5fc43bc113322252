/- joined: PlainX BorP QSub JrC -/
import Derived.Test.YtpmhdcmmlkjjmaaGreatDoorG11
/- Plain facts: whatever is read is a text string, whose quoted text is no longer than what was read. -/
set_option linter.unusedSimpArgs false
set_option linter.unusedVariables false
namespace Go.Proofs.YtpmhdcmmlkjjmaaGreatDoor.Q
theorem valid_nxt (x : UInt8) (t : List UInt8) (h : nxt (x :: t) = (t.length + 1, true)) : Lib.validD (x :: t) = true := by
  refine (valid_cons x t).2 ⟨by rw [h], ?_⟩
  rw [h]
  have e : (x :: t).drop (t.length + 1) = [] := by simp
  simp only
  rw [e]
  rfl
theorem bnd2 (b : Nat) (h : 194 ≤ b ∧ b < 224) : bnd b = (2, 128, 191) := by
  unfold bnd; repeat' split
  all_goals first | rfl | (exfalso; omega)
theorem bnd3 (b : Nat) (h : 224 ≤ b ∧ b < 240) : bnd b = (3, (if b = 224 then 160 else 128), (if b = 237 then 159 else 191)) := by
  unfold bnd; repeat' split
  all_goals first | rfl | (exfalso; omega)
theorem bnd4 (b : Nat) (h : 240 ≤ b ∧ b ≤ 244) : bnd b = (4, (if b = 240 then 144 else 128), (if b = 244 then 143 else 191)) := by
  unfold bnd; repeat' split
  all_goals first | rfl | (exfalso; omega)
theorem byteZ (z : Int) (h0 : 0 ≤ z) (h1 : z < 256) : (z.toNat.toUInt8).toNat = z.toNat := by
  simp; omega
theorem enc_valid (v : Nat) (h1 : v ≤ 1114111) (h2 : ¬ (55296 ≤ v ∧ v ≤ 57343)) : Lib.validD (Lib.encodeRune (v : Int)) = true ∧ (128 ≤ v → ∀ x ∈ Lib.encodeRune (v : Int), 128 ≤ x.toNat) := by
  unfold Lib.encodeRune
  by_cases c1 : v < 128
  · rw [Lib.encodeRuneZ_one (by omega) (by omega)]
    refine ⟨?_, by omega⟩
    rw [List.map_cons, List.map_nil, Lib.validD_cons _ _ (by rw [byteZ _ (by omega) (by omega)]; omega)]
    rfl
  by_cases c2 : v < 2048
  · rw [Lib.encodeRuneZ_two (by omega) (by omega)]
    have e0 := byteZ (192 + (v : Int) / 64) (by omega) (by omega)
    have e1 := byteZ (128 + (v : Int) % 64) (by omega) (by omega)
    simp only [List.map_cons, List.map_nil]
    generalize (192 + (v : Int) / 64).toNat.toUInt8 = x0 at *
    generalize (128 + (v : Int) % 64).toNat.toUInt8 = x1 at *
    refine ⟨valid_nxt x0 [x1] ?_, ?_⟩
    · rw [nxt_cons, bnd2 _ (by omega)]
      simp only
      rw [if_neg (by omega), nxtGo, if_neg (by omega), if_neg (by omega), nxtGo_full _ _ _ _ (by omega)]
      rfl
    · intro _ x hx
      simp at hx
      rcases hx with rfl | rfl <;> omega
  by_cases c3 : v < 65536
  · rw [Lib.encodeRuneZ_three (by omega)]
    have e0 := byteZ (224 + (v : Int) / 4096) (by omega) (by omega)
    have e1 := byteZ (128 + (v : Int) / 64 % 64) (by omega) (by omega)
    have e2 := byteZ (128 + (v : Int) % 64) (by omega) (by omega)
    simp only [List.map_cons, List.map_nil]
    generalize (224 + (v : Int) / 4096).toNat.toUInt8 = x0 at *
    generalize (128 + (v : Int) / 64 % 64).toNat.toUInt8 = x1 at *
    generalize (128 + (v : Int) % 64).toNat.toUInt8 = x2 at *
    refine ⟨valid_nxt x0 [x1, x2] ?_, ?_⟩
    · rw [nxt_cons, bnd3 _ (by omega)]
      simp only
      have a1 : ¬ (x1.toNat < (if x0.toNat = 224 then 160 else 128) ∨ (if x0.toNat = 237 then 159 else 191) < x1.toNat) := by
        split <;> split <;> omega
      rw [if_neg (by omega), nxtGo, if_neg (by omega), if_neg a1, nxtGo, if_neg (by omega), if_neg (by omega), nxtGo_full _ _ _ _ (by omega)]
      rfl
    · intro _ x hx
      simp at hx
      rcases hx with rfl | rfl | rfl <;> omega
  · rw [Lib.encodeRuneZ_four (by omega) (by omega)]
    have e0 := byteZ (240 + (v : Int) / 262144) (by omega) (by omega)
    have e1 := byteZ (128 + (v : Int) / 4096 % 64) (by omega) (by omega)
    have e2 := byteZ (128 + (v : Int) / 64 % 64) (by omega) (by omega)
    have e3 := byteZ (128 + (v : Int) % 64) (by omega) (by omega)
    simp only [List.map_cons, List.map_nil]
    generalize (240 + (v : Int) / 262144).toNat.toUInt8 = x0 at *
    generalize (128 + (v : Int) / 4096 % 64).toNat.toUInt8 = x1 at *
    generalize (128 + (v : Int) / 64 % 64).toNat.toUInt8 = x2 at *
    generalize (128 + (v : Int) % 64).toNat.toUInt8 = x3 at *
    refine ⟨valid_nxt x0 [x1, x2, x3] ?_, ?_⟩
    · rw [nxt_cons, bnd4 _ (by omega)]
      simp only
      have a1 : ¬ (x1.toNat < (if x0.toNat = 240 then 144 else 128) ∨ (if x0.toNat = 244 then 143 else 191) < x1.toNat) := by
        split <;> split <;> omega
      rw [if_neg (by omega), nxtGo, if_neg (by omega), if_neg a1, nxtGo, if_neg (by omega), if_neg (by omega), nxtGo, if_neg (by omega), if_neg (by omega), nxtGo_full _ _ _ _ (by omega)]
      rfl
    · intro _ x hx
      simp at hx
      rcases hx with rfl | rfl | rfl | rfl <;> omega
theorem said_wid : ∀ c : Fin 256, widN (saidN c.val) ≤ 2 ∨ saidN c.val = 0 := by decide +kernel
/-- what one escape says is quoted in no more bytes than it had -/
theorem esc_short (t : List UInt8) (h : (escF t).2.2 = true) : sz (Lib.encodeRune ((escF t).1 : Int)) ≤ 1 + (escF t).2.1 := by
  cases t with
  | nil => simp [escF] at h
  | cons x t =>
    rw [escF_cons] at h ⊢
    by_cases c : x.toNat = 117
    · rw [if_pos c] at h ⊢
      simp only at h ⊢
      have hn := (numF_le t).2 h
      have hen := enc_len (numF t).1
      by_cases c1 : (numF t).1 < 128
      · have e : Lib.encodeRune ((numF t).1 : Int) = [UInt8.ofNat (numF t).1] := by
          unfold Lib.encodeRune
          rw [Lib.encodeRuneZ_one (by omega) (by omega)]
          simp
        rw [e]
        have : sz [UInt8.ofNat (numF t).1] = wid (UInt8.ofNat (numF t).1) := by simp [sz, body, esc_length]
        rw [this]
        have := (widN_le (UInt8.ofNat (numF t).1).toNat).2
        unfold wid
        omega
      · have hv := (enc_valid (numF t).1 hn.2.1 hn.2.2).2 (by omega)
        unfold sz
        rw [body_hi _ hv]
        omega
    · rw [if_neg c] at h ⊢
      by_cases c2 : saidN x.toNat = 0
      · rw [if_pos c2] at h; simp at h
      · rw [if_neg c2]
        simp only
        have hs := saidN_lt x.toNat
        have e : Lib.encodeRune ((saidN x.toNat : Nat) : Int) = [UInt8.ofNat (saidN x.toNat)] := by
          unfold Lib.encodeRune
          rw [Lib.encodeRuneZ_one (by omega) (by omega)]
          simp
        have t1 : (UInt8.ofNat (saidN x.toNat)).toNat = saidN x.toNat := by simp; omega
        have e2 : sz [UInt8.ofNat (saidN x.toNat)] = widN (saidN x.toNat) := by simp [sz, body, esc_length, wid, t1]
        rw [e, e2]
        have := said_wid ⟨x.toNat, x.toNat_lt⟩
        simp only at this
        omega
theorem sz_app (a b : List UInt8) : sz (a ++ b) = sz a + sz b := by unfold sz; rw [body_app, List.length_append]
/-- one step: what it says is a text string, quoted in no more bytes -/
theorem stp_good (t : List UInt8) (h : (stp t).1 = 2) : Lib.validD (stp t).2.1 = true ∧ sz (stp t).2.1 ≤ (stp t).2.2.1 := by
  cases t with
  | nil => simp [stp] at h
  | cons x t =>
    rw [stp_cons] at h ⊢
    by_cases c0 : x.toNat < 32
    · rw [if_pos c0] at h; simp at h
    rw [if_neg c0] at h ⊢
    by_cases c1 : x.toNat = 34
    · rw [if_pos c1] at h; simp at h
    rw [if_neg c1] at h ⊢
    by_cases c2 : x.toNat = 92
    · rw [if_pos c2] at h ⊢
      by_cases c3 : (escF t).2.2 = true
      · rw [if_pos c3]
        simp only
        have hv := (escF_le t).2 c3
        exact ⟨(enc_valid _ hv.1 hv.2.1).1, esc_short t c3⟩
      · rw [if_neg c3] at h; simp at h
    · rw [if_neg c2] at h ⊢
      by_cases c3 : (nxt (x :: t)).2 = true
      · rw [if_pos c3]
        simp only
        refine ⟨valid_take x t c3, ?_⟩
        have hp := nxt_pre x t c3 []
        have hlt : ((x :: t).take (nxt (x :: t)).1).length = (nxt (x :: t)).1 := by simp; omega
        by_cases c4 : x.toNat < 128
        · have hn : nxt (x :: t) = (1, true) := by
            rw [nxt_cons]
            have e1 : bnd x.toNat = (1, 0, 0) := by simp [bnd, c4]
            rw [e1]
            simp only
            rw [if_neg (by omega), nxtGo_full 1 1 0 0 (by omega)]
          rw [hn]
          have e : letN x.toNat = 0 := by
            unfold letN
            repeat' split
            all_goals first | omega | rfl
          simp [sz, body, esc_length, wid, widN, e, c0]
        · unfold sz
          rw [body_hi _ (hp.2.2.2 (by omega)), hlt]
          exact Nat.le_refl _
      · rw [if_neg c3] at h; simp at h
theorem unq_inv : ∀ (f : Nat) (t : List UInt8) (k : Nat) (out : List UInt8), t.length < f → Lib.validD out = true →
    (unq f t k out).2.1 ≤ k + t.length ∧ ((unq f t k out).2.2 = 0 → Lib.validD (unq f t k out).1 = true ∧ k + 1 ≤ (unq f t k out).2.1 ∧ sz (unq f t k out).1 + (k + 1) ≤ sz out + (unq f t k out).2.1 ∧ (unq f t k out).1.length + k ≤ out.length + (unq f t k out).2.1)
  | 0, t, k, out, hf, hv => by omega
  | f + 1, t, k, out, hf, hv => by
    have hs := stp_le t
    have he : (stp t).1 = 0 → (stp t).2.2.2 ≠ 0 := by
      intro h0
      cases t with
      | nil => simp [stp]
      | cons x t =>
        rw [stp_cons] at h0 ⊢
        repeat' split
        all_goals first | (simp; done) | (simp_all; done)
    rw [unq]
    by_cases c0 : (stp t).1 = 0
    · rw [if_pos c0]
      refine ⟨by simp only; omega, fun h => absurd h (he c0)⟩
    · rw [if_neg c0]
      have h1 := hs.2.1 c0
      by_cases c1 : (stp t).1 = 1
      · rw [if_pos c1]
        simp only
        refine ⟨by omega, fun _ => ⟨hv, by omega, by omega, by omega⟩⟩
      · rw [if_neg c1]
        have h2 : (stp t).1 = 2 := by omega
        have hg := stp_good t h2
        have hl : (t.drop (stp t).2.2.1).length = t.length - (stp t).2.2.1 := by simp
        have ih := unq_inv f (t.drop (stp t).2.2.1) (k + (stp t).2.2.1) (out ++ (stp t).2.1) (by omega) (valid_app _ out _ (Nat.le_refl _) hv hg.1)
        rw [hl, sz_app, List.length_append] at ih
        refine ⟨by omega, fun h => ?_⟩
        have := ih.2 h
        refine ⟨this.1, by omega, by omega, by omega⟩
theorem unqAll_inv (l : List UInt8) (z : Int) : (unqAll l z).2.1 ≤ l.length ∧ ((unqAll l z).2.2 = 0 → Lib.validD (unqAll l z).1 = true ∧ 0 ≤ z ∧ z + 1 < (unqAll l z).2.1 ∧ ((qt (unqAll l z).1).length : Int) ≤ (unqAll l z).2.1 - z ∧ (unqAll l z).1.length ≤ l.length) := by
  rw [unqAll]
  by_cases c : z < 0 ∨ (l.length : Int) < z
  · rw [if_pos c]; simp
  · rw [if_neg c]
    by_cases d : (l.drop z.toNat).head? = some 34
    · rw [if_pos d]
      have hlt : z.toNat < l.length := by
        rcases Nat.lt_or_ge z.toNat l.length with h | h
        · exact h
        · rw [List.drop_eq_nil_iff.2 h] at d; cases d
      have hl : (l.drop (z.toNat + 1)).length = l.length - (z.toNat + 1) := by simp
      have h := unq_inv (l.length + 1) (l.drop (z.toNat + 1)) (z.toNat + 1) [] (by omega) rfl
      rw [hl] at h
      refine ⟨by omega, fun g => ?_⟩
      have h2 := h.2 g
      rw [qt_length]
      have hz0 : sz [] = 0 := rfl
      have hn0 : ([] : List UInt8).length = 0 := rfl
      refine ⟨h2.1, by omega, by omega, by omega, by omega⟩
    · rw [if_neg d]
      simp
      omega
end Go.Proofs.YtpmhdcmmlkjjmaaGreatDoor.Q
/- What is unquoted is no longer than the text. -/
set_option maxRecDepth 100000
namespace Go.Proofs.YtpmhdcmmlkjjmaaGreatDoor
open Go.RowKit Go.Lib
theorem Q.borne_of (s : ByteArray) (z : Int) (hs : s.size ≤ 140737488355000) : Q.Borne (Q.unqAll s.data.toList z) := by
  have h := Q.unqAll_inv s.data.toList z
  have hl : s.data.toList.length = s.size := by simp
  rw [hl] at h
  refine ⟨fun c => ?_, fun _ => by omega⟩
  have := (h.2 c).2.2.2.2
  omega
theorem Q.unq_place (s : ByteArray) (z : Int) : (Q.unqAll s.data.toList z).2.1 ≤ s.size ∧ ((Q.unqAll s.data.toList z).2.2 = 0 → (Q.unqAll s.data.toList z).1.length ≤ s.size) := by
  have h := Q.unqAll_inv s.data.toList z
  have hl : s.data.toList.length = s.size := by simp
  rw [hl] at h
  refine ⟨by omega, fun c => ?_⟩
  have := (h.2 c).2.2.2.2
  omega
end Go.Proofs.YtpmhdcmmlkjjmaaGreatDoor
/- Regions that draw their order, whose operations only read and whose callees only make memory: one walk. -/
set_option maxRecDepth 100000
namespace Go.Proofs.YtpmhdcmmlkjjmaaGreatDoor
open Go.RowKit
/-- a world in which all that lay below N lies as it did -/
structure Sub (N : Nat) (w0 : World) where
  w : World
  b : Below N w0 w
instance subThere (N : Nat) (w0 : World) : Inhabited (Sub N w0) := ⟨⟨w0, Below.refl N w0⟩⟩
theorem wp_region_sub {P : Program} (N : Nat) {id : Nat} {Q : Exit → Act → World → Prop} {a : Act} {w : World} {l : List Oper} (hm : P.follows .mixedOrders = true) (hB : Region.lexB .any l.toArray = true)
    (h : wpQuiet P l.toArray (fun w' => ∃ x : Sub N w, w' = x.w) (fun a' => ∀ w', (∃ x : Sub N w, w' = x.w) → Q .normal a' w') l a) : (Code.region id l.toArray true).wp P Q a w :=
  wp_region_quiet (C := fun w' => ∃ x : Sub N w, w' = x.w) hm hB ⟨⟨w.drew, (Below.refl N w).drew⟩, rfl⟩ (by simpa using h)
theorem sub_call {P : Program} {f : FuncId} {args : Array Value} {N : Nat} {w0 : World} {v : Value} (h : ∀ w', Below N w0 w' → Calls P f args w' fun e w'' => e = .returned v ∧ Below N w0 w'') (x : Sub N w0) :
    Calls P f args x.w fun e w'' => e = .returned v ∧ ∃ y : Sub N w0, w'' = y.w :=
  (h x.w x.b).mono fun e w'' ⟨he, hb⟩ => ⟨he, ⟨w'', hb⟩, rfl⟩
theorem sub_cell {N : Nat} {w0 : World} {b o : Nat} {v : Value} (h : w0.cell? ⟨b, o, none⟩ = some v) (hb : b < N) (x : Sub N w0) : x.w.cell? ⟨b, o, none⟩ = some v :=
  (x.b.cell (p := ⟨b, o, none⟩) hb).trans h
end Go.Proofs.YtpmhdcmmlkjjmaaGreatDoor
/- json's reader: a string, brackets begun and gone on with. -/
set_option maxRecDepth 100000
namespace Go.Proofs.YtpmhdcmmlkjjmaaGreatDoor
open Go.RowKit Go.Lib
theorem Td.grown {w w' : World} {g : Nat} (t : Td w) (h : w.grownBy w' (some g)) (hg : 9 < g) : Td w' := by
  have hz := t.z
  have b : Below 10 w w' := (Below.refl 10 w).grown h (by omega) (fun k hk => by cases hk; omega)
  exact t.below b (by omega) b.size
theorem quoJ_yes {l : List UInt8} {k : Nat} {r : List UInt8} {pl er : Nat} (h : Q.unqAll l (k : Int) = (r, pl, er)) (h0 : er = 0) : quoJ l k = .ok (⟨r.toArray⟩, pl) := by rw [quoJ, h, if_pos h0]
theorem quoJ_no {l : List UInt8} {k : Nat} {r : List UInt8} {pl er : Nat} (h : Q.unqAll l (k : Int) = (r, pl, er)) (h0 : er ≠ 0) : quoJ l k = .error (pl, er) := by rw [quoJ, h, if_neg h0]
set_option maxHeartbeats 4000000 in
theorem jquo_any (g : Nat) (s : ByteArray) (k D n : Nat) (w : World) (h : JR g s k D n w) (t : Td w) (hs : s.size ≤ 140737488355000) (hk : k ≤ s.size) :
    Calls Tryz.prog 87 #[.pointer (some ⟨g, 0, none⟩)] w (JP (quoJ s.data.toList k) (fun x e w' => e = .returned (.string x.1) ∧ JR g s x.2 D n w') g w) := by
  have hlt := h.lt
  have X0 : ∀ x : Sub w.heap.size w, x.w.cell? ⟨g, 0, none⟩ = some (.string s) := sub_cell h.c0 hlt
  have X1 : ∀ x : Sub w.heap.size w, x.w.cell? ⟨g, 1, none⟩ = some (.int .i64 (k : Int)) := sub_cell h.c1 hlt
  obtain ⟨r, pl, er, hR⟩ : ∃ r pl er, Q.unqAll s.data.toList (k : Int) = (r, pl, er) := ⟨_, _, _, rfl⟩
  have CU : Hid (∀ x : Sub w.heap.size w, Calls Tryz.prog 112 #[.string s, .int .i64 (k : Int)] x.w fun e w'' => e = .returned (.tuple #[.string ⟨r.toArray⟩, .int .i64 (pl : Int), .int .i64 (er : Int)]) ∧ ∃ y : Sub w.heap.size w, w'' = y.w) := fun x => by
    have hx := t.below x.b t.z x.b.size
    have c := unquote_in s k x.w (by omega) hk hx.s hx.u hx.z (Q.borne_of s k hs)
    rw [hR] at c
    refine c.mono ?_
    rintro e w' ⟨rfl, b⟩
    exact ⟨rfl, ⟨w', x.b.trans (b.mono x.b.size)⟩, rfl⟩
  have HR := hmk hR
  have HH := hmk h
  clear h hR t
  by_cases h0 : er = 0
  · have y0 : ((er : Int) != 0) = false := by rw [bne_eq_false_iff_eq]; omega
    have HQ := hmk (quoJ_yes HR.out h0)
    clear h0
    go_enter Tryz.func87, Tryz.ntmps87
    go_wp2_with fail
    refine wp_region_sub w.heap.size (by kernel_rfl) (by kernel_rfl) ?_
    repeat (go_big_quiet_step (first | exact CU.out _))
    refine wpQuiet_nil ?_
    rintro wq ⟨⟨wq', bq⟩, hq⟩
    have hq' : wq = wq' := hq
    subst hq'
    clear hq
    have P1 := HH.out.keep bq
    have f1 := P1.fz 1
    have c1 := P1.c1
    go_wp2_with fail
    go_ret
    rw [HQ.out]
    exact ⟨⟨rfl, P1.put pl _ rfl⟩, grown_set (grown_belowS bq g) _ _⟩
  · have y0 : ((er : Int) != 0) = true := by rw [bne_iff_ne]; omega
    have HQ := hmk (quoJ_no HR.out h0)
    clear h0
    go_enter Tryz.func87, Tryz.ntmps87
    go_wp2_with fail
    refine wp_region_sub w.heap.size (by kernel_rfl) (by kernel_rfl) ?_
    repeat (go_big_quiet_step (first | exact CU.out _))
    refine wpQuiet_nil ?_
    rintro wq ⟨⟨wq', bq⟩, hq⟩
    have hq' : wq = wq' := hq
    subst hq'
    clear hq
    go_wp2_with (go_at_call 64; refine (giveup_any _ pl er _).mono ?_; rintro e w' ⟨he, rfl⟩; unfold flt at he; subst he)
    refine ⟨rfl, ?_⟩
    rw [HQ.out]
    exact ⟨rfl, grown_belowS bq g⟩
/-- behind an opening bracket: where it goes on, or where it ended -/
def begunJ (l : List UInt8) (k : Nat) (c : UInt8) : Bool × Nat := (! tkJ l (blk l (k + 1)) c, if tkJ l (blk l (k + 1)) c = true then blk l (k + 1) + 1 else blk l (k + 1))
/-- behind something within brackets: more of it, or the end -/
def goesJ (l : List UInt8) (k : Nat) (c : UInt8) : Except Flt (Bool × Nat) :=
  if tkJ l (blk l k) 44 = true then .ok (true, blk l (blk l k + 1))
  else match mustJ l (blk l k) c with
    | .ok k' => .ok (false, k')
    | .error f => .error f
theorem goesJ_more {l : List UInt8} {k : Nat} {c : UInt8} (h : tkJ l (blk l k) 44 = true) : goesJ l k c = .ok (true, blk l (blk l k + 1)) := by rw [goesJ, if_pos h]
theorem goesJ_end {l : List UInt8} {k k' : Nat} {c : UInt8} (h : tkJ l (blk l k) 44 = false) (h2 : mustJ l (blk l k) c = .ok k') : goesJ l k c = .ok (false, k') := by rw [goesJ, if_neg (by rw [h]; simp), h2]
theorem goesJ_no {l : List UInt8} {k : Nat} {f : Flt} {c : UInt8} (h : tkJ l (blk l k) 44 = false) (h2 : mustJ l (blk l k) c = .error f) : goesJ l k c = .error f := by rw [goesJ, if_neg (by rw [h]; simp), h2]
theorem tkJ_lt {l : List UInt8} {k : Nat} {c : UInt8} (h : tkJ l k c = true) : k < l.length := by
  rcases Nat.lt_or_ge k l.length with hk | hk
  · exact hk
  · rw [tkJ, List.getElem?_eq_none hk] at h; cases h
set_option maxHeartbeats 4000000 in
theorem jbegun_any (g : Nat) (s : ByteArray) (k D n : Nat) (c : UInt8) (w : World) (h : JR g s k D n w) (hs : s.size ≤ 281474976710656) (hk : k < s.size) :
    Calls Tryz.prog 113 #[.pointer (some ⟨g, 0, none⟩), .int .u8 (c.toNat : Int)] w fun e w' => e = .returned (.bool (begunJ s.data.toList k c).1) ∧ JR g s (begunJ s.data.toList k c).2 D n w' ∧ w.grownBy w' (some g) := by
  have hll : s.data.toList.length = s.size := by simp
  have hbl := blk_le (l := s.data.toList) (k := k + 1) (by rw [hll]; omega)
  rw [hll] at hbl
  have R1 : JR g s (k + 1) D n (w.setCell ⟨g, 1, none⟩ (.int .i64 ((k : Int) + 1))) := h.put (k + 1) _ (by omega)
  have CB := hmk (jblanks_any g s (k + 1) D n _ R1 hs (by omega))
  have CT : Hid (∀ W, JR g s (blk s.data.toList (k + 1)) D n W → Calls Tryz.prog 132 #[.pointer (some ⟨g, 0, none⟩), .int .u8 (c.toNat : Int)] W fun e w' => e = .returned (.bool (tkJ s.data.toList (blk s.data.toList (k + 1)) c)) ∧ JR g s (if tkJ s.data.toList (blk s.data.toList (k + 1)) c = true then blk s.data.toList (k + 1) + 1 else blk s.data.toList (k + 1)) D n w' ∧ W.grownBy w' (some g)) := fun W hW => jtake_any g s _ D n c W hW hs hbl.2
  have c1 := h.c1
  have f1 := h.fz 1
  clear h R1 hll
  simp only [begunJ]
  generalize blk s.data.toList (k + 1) = K at *
  generalize tkJ s.data.toList K c = T at *
  go_enter Tryz.func113, Tryz.ntmps113
  go_wp2_with fail
  refine CB.out.mono ?_
  rintro e w1 ⟨rfl, R1, g1⟩
  clear CB
  cases T <;> simp only [Bool.false_eq_true, if_false, if_true] at CT ⊢
  all_goals go_wp2_with fail
  all_goals refine (CT.out w1 R1).mono ?_
  all_goals rintro e w2 ⟨rfl, R2, g2⟩
  all_goals go_wp2_with fail
  all_goals go_ret
  all_goals exact ⟨rfl, R2, grown_trans (grown_trans (grown_set (World.grownBy.refl _ _) _ _) g1) g2⟩
set_option maxHeartbeats 4000000 in
theorem jgoes_any (g : Nat) (s : ByteArray) (k D n : Nat) (c : UInt8) (w : World) (h : JR g s k D n w) (hs : s.size ≤ 281474976710656) (hk : k ≤ s.size) :
    Calls Tryz.prog 114 #[.pointer (some ⟨g, 0, none⟩), .int .u8 (c.toNat : Int)] w (JP (goesJ s.data.toList k c) (fun x e w' => e = .returned (.bool x.1) ∧ JR g s x.2 D n w') g w) := by
  have hll : s.data.toList.length = s.size := by simp
  have hbl := blk_le (l := s.data.toList) (k := k) (by rw [hll]; omega)
  rw [hll] at hbl
  have CB := hmk (jblanks_any g s k D n w h hs hk)
  have CT : Hid (∀ W, JR g s (blk s.data.toList k) D n W → Calls Tryz.prog 132 #[.pointer (some ⟨g, 0, none⟩), .int .u8 ((44 : UInt8).toNat : Int)] W fun e w' => e = .returned (.bool (tkJ s.data.toList (blk s.data.toList k) 44)) ∧ JR g s (if tkJ s.data.toList (blk s.data.toList k) 44 = true then blk s.data.toList k + 1 else blk s.data.toList k) D n w' ∧ W.grownBy w' (some g)) := fun W hW => jtake_any g s _ D n 44 W hW hs hbl.2
  clear h
  cases ht : tkJ s.data.toList (blk s.data.toList k) 44 with
  | true =>
    have hlt := tkJ_lt ht
    rw [hll] at hlt
    rw [goesJ_more ht]
    rw [ht] at CT
    simp only [if_true] at CT
    have CB2 : Hid (∀ W, JR g s (blk s.data.toList k + 1) D n W → Calls Tryz.prog 62 #[.pointer (some ⟨g, 0, none⟩)] W fun e w' => e = .returned (.tuple #[]) ∧ JR g s (blk s.data.toList (blk s.data.toList k + 1)) D n w' ∧ W.grownBy w' (some g)) := fun W hW => jblanks_any g s _ D n W hW hs (by omega)
    clear ht hll
    generalize blk s.data.toList (blk s.data.toList k + 1) = K2 at *
    generalize blk s.data.toList k = K at *
    go_enter Tryz.func114, Tryz.ntmps114
    go_wp2_with fail
    refine CB.out.mono ?_
    rintro e w1 ⟨rfl, R1, g1⟩
    clear CB
    go_wp2_with fail
    refine (CT.out w1 R1).mono ?_
    rintro e w2 ⟨rfl, R2, g2⟩
    clear CT
    go_wp2_with fail
    refine (CB2.out w2 R2).mono ?_
    rintro e w3 ⟨rfl, R3, g3⟩
    go_wp2_with fail
    go_ret
    exact ⟨⟨rfl, R3⟩, grown_trans (grown_trans g1 g2) g3⟩
  | false =>
    rw [ht] at CT
    simp only [Bool.false_eq_true, if_false] at CT
    have CM : Hid (∀ W, JR g s (blk s.data.toList k) D n W → Calls Tryz.prog 111 #[.pointer (some ⟨g, 0, none⟩), .int .u8 (c.toNat : Int)] W (JP (mustJ s.data.toList (blk s.data.toList k) c) (fun k' e w' => e = .returned (.tuple #[]) ∧ JR g s k' D n w') g W)) := fun W hW => jmust_any g s _ D n c W hW hs hbl.2
    cases hm : mustJ s.data.toList (blk s.data.toList k) c with
    | ok k1 =>
      rw [goesJ_end ht hm]
      rw [hm] at CM
      clear ht hm hll hbl
      generalize blk s.data.toList k = K at *
      go_enter Tryz.func114, Tryz.ntmps114
      go_wp2_with fail
      refine CB.out.mono ?_
      rintro e w1 ⟨rfl, R1, g1⟩
      clear CB
      go_wp2_with fail
      refine (CT.out w1 R1).mono ?_
      rintro e w2 ⟨rfl, R2, g2⟩
      clear CT
      go_wp2_with fail
      refine (CM.out w2 R2).mono ?_
      rintro e w3 ⟨⟨rfl, R3⟩, g3⟩
      go_wp2_with fail
      go_ret
      exact ⟨⟨rfl, R3⟩, grown_trans (grown_trans g1 g2) g3⟩
    | error f =>
      rw [goesJ_no ht hm]
      rw [hm] at CM
      clear ht hm hll hbl
      generalize blk s.data.toList k = K at *
      go_enter Tryz.func114, Tryz.ntmps114
      go_wp2_with fail
      refine CB.out.mono ?_
      rintro e w1 ⟨rfl, R1, g1⟩
      clear CB
      go_wp2_with fail
      refine (CT.out w1 R1).mono ?_
      rintro e w2 ⟨rfl, R2, g2⟩
      clear CT
      go_wp2_with fail
      refine (CM.out w2 R2).mono ?_
      rintro e w3 ⟨he, g3⟩
      unfold flt at he
      subst he
      go_wp2_with fail
      exact ⟨rfl, rfl, grown_trans (grown_trans g1 g2) g3⟩
end Go.Proofs.YtpmhdcmmlkjjmaaGreatDoor
