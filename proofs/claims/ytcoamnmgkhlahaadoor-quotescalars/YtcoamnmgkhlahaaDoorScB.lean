/- The law QuoteScalars, out of the contracts. -/
import Derived.Test.YtcoamnmgkhlahaaDoorScA
import Derived.Test.YtcoamnmgkhlahaaDoorWide
import Derived.Test.YtcoamnmgkhlahaaDoorTwoW
set_option linter.unusedSimpArgs false
set_option linter.unusedVariables false
namespace Go.Proofs.YtcoamnmgkhlahaaDoor
open Go.RowKit Go.Lib

theorem gives_written (g : Bool) (c : Nat) (h : c ≤ 1114111) : Gives 17 #[.int .i64 (c : Int), .bool g] (.string ⟨(Q.wr g c).toArray⟩) :=
  Gives.of fun w t => (written_any g c h w).mono fun e w' ⟨he, k, hw⟩ => ⟨he, by rw [hw]; exact below_drewN (Below.refl _ _) k⟩
theorem gives_scalar (z : Int) (hz1 : -9223372036854775808 ≤ z) (hz2 : z ≤ 9223372036854775807) : Gives 16 #[.int .i64 z] (.int .i64 (Q.scal z : Int)) :=
  Gives.of fun w t => (scalar_any z w hz1 hz2).mono fun e w' ⟨he, hw⟩ => ⟨he, by rw [hw]; exact Below.refl _ _⟩

def Q.scs (zs : List Int) (k : Nat) : List Nat := (List.range k).map fun i => Q.scal (zs.getD i 0)
theorem Q.scs_succ (zs : List Int) (k : Nat) : Q.scs zs (k + 1) = Q.scs zs k ++ [Q.scal (zs.getD k 0)] := by simp [Q.scs, List.range_succ]
theorem Q.scs_len (zs : List Int) (k : Nat) : (Q.scs zs k).length = k := by simp [Q.scs]
theorem Q.scs_is (zs : List Int) (k : Nat) : ∀ c ∈ Q.scs zs k, Q.IsSc c := by
  intro c hc
  simp only [Q.scs, List.mem_map] at hc
  obtain ⟨i, _, rfl⟩ := hc
  exact Q.scal_is _

/-- what one round knows of the scalar value c -/
structure One (g : Bool) (c : Nat) (WR ONE : ByteArray) : Prop where
  wr : Gives 17 #[.int .i64 (c : Int), .bool g] (.string WR)
  un : Gives 13 #[.string (⟨#[34]⟩ ++ WR ++ ⟨#[34]⟩), .int .i64 0] (.tuple #[.string ONE, .int .i64 ((WR.size : Int) + 2), .int .i64 0])
  va : Gives 11 #[.string ONE] (.bool true)
  wl : WR.data.toList = Q.wr g c
  ol : ONE.data.toList = Lib.encodeRune (c : Int)
  ws : WR.size ≤ 12
  os : ONE.size = if 65536 ≤ c then 4 else if 2048 ≤ c then 3 else if 128 ≤ c then 2 else 1
theorem one_of (g : Bool) (c : Nat) (h : Q.IsSc c) : ∃ WR ONE, One g c WR ONE := by
  refine ⟨⟨(Q.wr g c).toArray⟩, ⟨(Lib.encodeRune (c : Int)).toArray⟩, gives_written g c h.1, ?_, ?_, rfl, rfl, ?_, Q.enc_size c h⟩
  · have hu := Q.unqAll_wrs g [c] (by simpa using h)
    have e1 : Q.wrs g [c] = Q.wr g c := by simp [Q.wrs]
    have e2 : Q.encs [c] = Lib.encodeRune (c : Int) := by simp [Q.encs]
    rw [e1, e2] at hu
    have e3 : ((⟨#[34]⟩ : ByteArray) ++ ⟨(Q.wr g c).toArray⟩ ++ ⟨#[34]⟩).data.toList = 34 :: (Q.wr g c ++ [34]) := by
      rw [bapp, bapp]; rfl
    rw [← e3] at hu
    have hl := Q.wr_len g c
    have hsz : ((⟨#[34]⟩ : ByteArray) ++ ⟨(Q.wr g c).toArray⟩ ++ ⟨#[34]⟩).size = 1 + (Q.wr g c).length + 1 := by
      rw [ByteArray.size_append, ByteArray.size_append]; rfl
    have hg := gives_unquote _ 0 (by omega) (by omega) (by rw [hsz]; split at hl <;> omega) _ _ _ hu
    exact hg
  · have hv := gives_valid ⟨(Lib.encodeRune (c : Int)).toArray⟩ (by show (Lib.encodeRune (c : Int)).length ≤ _; have := Q.enc_len c; omega)
    have e : validD (⟨(Lib.encodeRune (c : Int)).toArray⟩ : ByteArray).data.toList = true := (Q.enc_valid c h.1 h.2).1
    rw [e] at hv
    exact hv
  · have hl := Q.wr_len g c
    show (Q.wr g c).length ≤ 12
    split at hl <;> omega

theorem Q.enc_sz (c : Nat) (h : Q.IsSc c) : Q.sz (Lib.encodeRune (c : Int)) ≤ 6 := by
  by_cases h1 : c < 128
  · obtain ⟨x, hx⟩ : ∃ x : UInt8, x.toNat = c := ⟨UInt8.ofNat c, by simp; omega⟩
    rw [← hx, Q.enc1 x (by omega)]
    exact Q.sz_le [x]
  · have hb := (Q.enc_valid c h.1 h.2).2 (by omega)
    have hl := Q.enc_len c
    unfold Q.sz
    rw [Q.body_hi _ hb]
    omega
theorem Q.encs_sz (l : List Nat) (h : ∀ c ∈ l, Q.IsSc c) : Q.sz (Q.encs l) ≤ 6 * l.length := by
  induction l with
  | nil => exact Nat.le_refl _
  | cons c l ih =>
    have e : Q.encs (c :: l) = Lib.encodeRune (c : Int) ++ Q.encs l := by simp [Q.encs]
    rw [e, Q.sz_app, List.length_cons]
    have := Q.enc_sz c (h c (by simp))
    have := ih fun x hx => h x (by simp [hx])
    omega
/-- behind the loop -/
structure Last (T Wn U : ByteArray) : Prop where
  un : Gives 13 #[.string (T ++ ⟨#[34]⟩), .int .i64 0] (.tuple #[.string Wn, .int .i64 ((T.size : Int) + 1), .int .i64 0])
  qu : Gives 8 #[.string Wn] (.tuple #[.string U, .int .i64 0])
  ag : Gives 13 #[.string U, .int .i64 0] (.tuple #[.string Wn, .int .i64 (U.size : Int), .int .i64 0])
theorem last_of (g : Bool) (l : List Nat) (T Wn : ByteArray) (hl : l.length ≤ 17592186043904) (h : ∀ c ∈ l, Q.IsSc c) (hT : T.data.toList = 34 :: Q.wrs g l) (hW : Wn.data.toList = Q.encs l) : ∃ U, Last T Wn U := by
  have hw := Q.wrs_len g l
  have he := Q.encs_len l
  have hTs : T.size = 1 + (Q.wrs g l).length := by
    rw [← ByteArray.size_data, ← Array.length_toList, hT]; simp; omega
  have hWs : Wn.size = (Q.encs l).length := by
    rw [← ByteArray.size_data, ← Array.length_toList, hW]
  have eW : (⟨(Q.encs l).toArray⟩ : ByteArray) = Wn := by rw [← hW]
  have hv := Q.encs_valid l h
  have h6 := Q.encs_sz l h
  have hq := gives_quote_wide Wn (by omega) (by rw [hW]; exact hv) (by rw [hW]; omega)
  rw [hW] at hq
  have hqa := qt_arr (Q.encs l)
  have hsz := Q.sz_le (Q.encs l)
  refine ⟨⟨(Q.qt (Q.encs l)).toArray⟩, ?_, hq, ?_⟩
  · have hu := Q.unqAll_wrs g l h
    have e3 : (T ++ ⟨#[34]⟩).data.toList = 34 :: (Q.wrs g l ++ [34]) := by rw [bapp, hT]; rfl
    rw [← e3] at hu
    have hg := gives_unquote_long (T ++ ⟨#[34]⟩) 0 (by omega) (by omega) (by rw [ByteArray.size_append, hTs]; show _ + 1 ≤ _; omega) _ _ _ hu ⟨fun _ => by show (Q.encs l).length ≤ _; omega, fun c => absurd rfl c⟩
    rw [eW] at hg
    have e : (((Q.wrs g l).length + 2 : Nat) : Int) = (T.size : Int) + 1 := by omega
    rw [e] at hg
    exact hg
  · have hub := Q.unq_back (Q.encs l) [] [] hv
    simp only [List.nil_append, List.append_nil, List.length_nil] at hub
    rw [← hqa.2] at hub
    have hg := gives_unquote ⟨(Q.qt (Q.encs l)).toArray⟩ 0 (by omega) (by omega) (by omega) _ _ _ hub
    rw [eW] at hg
    have e : ((0 + (⟨(Q.qt (Q.encs l)).toArray⟩ : ByteArray).data.toList.length : Nat) : Int) = ((⟨(Q.qt (Q.encs l)).toArray⟩ : ByteArray).size : Int) := by
      rw [hqa.2, hqa.1, Q.qt_length]; omega
    rw [e] at hg
    exact hg

theorem one_ne (g : Bool) (c d : Nat) (WR ONE WR2 NEXT : ByteArray) (h : One g c WR ONE) (h2 : One g d WR2 NEXT) (hc : Q.IsSc c) (hd : Q.IsSc d) (hne : d ≠ c) : NEXT ≠ ONE := by
  intro e
  have := congrArg (fun x : ByteArray => x.data.toList) e
  simp only [h.ol, h2.ol] at this
  exact hne (Q.enc_inj d c hd hc this)

set_option maxHeartbeats 4000000 in
set_option maxRecDepth 100000 in
theorem scal_walk (ao : Option Addr) (len cap : Nat) (zs : List Int) (g : Bool) (w : World) (t0 : Tb w) (hlen : len ≤ 17592186043904)
    (hcell : ∀ i, i < len → ∃ b off, ao = some ⟨b, off, none⟩ ∧ b < w.heap.size ∧ w.cell? ⟨b, off + i, none⟩ = some (.int .i64 (zs.getD i 0)) ∧ -9223372036854775808 ≤ zs.getD i 0 ∧ zs.getD i 0 ≤ 9223372036854775807) :
    Calls Tryd.prog 7 #[.slice ao len cap, .bool g] w fun e w' => e = .returned (.bool true) ∧ Below w.heap.size w w' := by
  have c15 : Hid (Gives 15 #[] (.bool true)) := gives_awake
  have b0 := Below.refl w.heap.size w
  go_enter Tryd.func7, Tryd.ntmps7
  go_wp2_with fail
  refine (c15.out w _ b0 t0).mono ?_
  rintro e w1 ⟨rfl, b1, t1⟩
  go_wp2_with fail
  go_loopw [5, 6, 7] (fun x y i wr => ∃ (k : Nat) (T Wn : ByteArray), k ≤ len ∧ x = .string T ∧ y = .string Wn ∧ i = .int .i64 k ∧ T.data.toList = 34 :: Q.wrs g (Q.scs zs k) ∧ Wn.data.toList = Q.encs (Q.scs zs k) ∧ Below w.heap.size w wr ∧ Tb wr) (fun _ _ i _ => len - (RowKit.intOf i).toNat)
  case atStart => exact ⟨0, ⟨#[34]⟩, ⟨#[]⟩, Nat.zero_le _, rfl, rfl, rfl, rfl, rfl, b1, t1⟩
  case round =>
    obtain ⟨k, T, Wn, hk, rfl, rfl, rfl, hT, hWn, bk, tk⟩ := hrel
    have hTs : T.size = 1 + (Q.wrs g (Q.scs zs k)).length := by
      rw [← ByteArray.size_data, ← Array.length_toList, hT]; simp; omega
    have hWs : Wn.size = (Q.encs (Q.scs zs k)).length := by
      rw [← ByteArray.size_data, ← Array.length_toList, hWn]
    have hl1 := Q.wrs_len g (Q.scs zs k)
    have hl2 := Q.encs_len (Q.scs zs k)
    rw [Q.scs_len] at hl1 hl2
    have hTm : T.size ≤ 211106232526849 := by omega
    have hWm : Wn.size ≤ 70368744175616 := by omega
    by_cases hlt : k < len
    · have y1 : (k : Int) < len := by omega
      obtain ⟨b, off, rfl, hb, hc, hz1, hz2⟩ := hcell k hlt
      have hc' : wr.cell? ⟨b, off + k, none⟩ = some (.int .i64 (zs.getD k 0)) := (bk.cell (p := ⟨b, off + k, none⟩) hb).trans hc
      clear hcell hc
      have hsc := Q.scal_is (zs.getD k 0)
      have hST := Q.scs_succ zs k
      have c16 : Hid (Gives 16 #[.int .i64 (zs.getD k 0)] (.int .i64 (Q.scal (zs.getD k 0) : Int))) := gives_scalar _ hz1 hz2
      generalize Q.scal (zs.getD k 0) = c at *
      generalize zs.getD k 0 = z at *
      obtain ⟨WR, ONE, h1⟩ := one_of g c hsc
      have hsd := Q.scal_is ((c : Int) + 1)
      have hne := Q.scal_next c hsc
      have c16b : Hid (Gives 16 #[.int .i64 ((c : Int) + 1)] (.int .i64 (Q.scal ((c : Int) + 1) : Int))) := gives_scalar _ (by omega) (by have := hsc.1; omega)
      generalize Q.scal ((c : Int) + 1) = d at *
      obtain ⟨WR2, NEXT, h2⟩ := one_of g d hsd
      have hn : NEXT ≠ ONE := one_ne g c d WR ONE WR2 NEXT h1 h2 hsc hsd hne
      have HT : Hid ((T ++ WR).data.toList = 34 :: Q.wrs g (Q.scs zs (k + 1))) := by
        show _ = _
        rw [bapp, hT, h1.wl, hST, Q.wrs_snoc]; rfl
      have HW : Hid ((Wn ++ ONE).data.toList = Q.encs (Q.scs zs (k + 1))) := by
        show _ = _
        rw [bapp, hWn, h1.ol, hST, Q.encs_snoc]
      have c17 : Hid (Gives 17 #[.int .i64 (c : Int), .bool g] (.string WR)) := h1.wr
      have c13 : Hid (Gives 13 #[.string (⟨#[34]⟩ ++ WR ++ ⟨#[34]⟩), .int .i64 0] (.tuple #[.string ONE, .int .i64 ((WR.size : Int) + 2), .int .i64 0])) := h1.un
      have c11 : Hid (Gives 11 #[.string ONE] (.bool true)) := h1.va
      have c17b : Hid (Gives 17 #[.int .i64 (d : Int), .bool g] (.string WR2)) := h2.wr
      have c13b : Hid (Gives 13 #[.string (⟨#[34]⟩ ++ WR2 ++ ⟨#[34]⟩), .int .i64 0] (.tuple #[.string NEXT, .int .i64 ((WR2.size : Int) + 2), .int .i64 0])) := h2.un
      have hos := h1.os
      have hol := h1.ol
      have s1 := h1.ws
      have s2 := h2.ws
      have s3 : ¬ 9223372036854775807 < 1 + WR.size := by omega
      have s4 : ¬ 9223372036854775807 < 1 + WR.size + 1 := by omega
      have s5 : ¬ 9223372036854775807 < 1 + WR2.size := by omega
      have s6 : ¬ 9223372036854775807 < 1 + WR2.size + 1 := by omega
      have s7 : ¬ 9223372036854775807 < T.size + WR.size := by omega
      have s8 : ONE.size ≤ 4 := by rw [hos]; (repeat' split) <;> omega
      have s9 : ¬ 9223372036854775807 < Wn.size + ONE.size := by omega
      have q1 : (((WR.size : Int) + 2) != (WR.size : Int) + 2) = false := by rw [bne_eq_false_iff_eq]
      have n1 : (NEXT.toList == ONE.toList) = false := by
        rw [beq_eq_false_iff_ne, ByteArray.toList_eq, ByteArray.toList_eq]
        intro e
        exact hn (Go.WideShapes.bytes_inj e)
      have n2 : ¬ NEXT.toList = ONE.toList := by rw [beq_eq_false_iff_ne] at n1; exact n1
      have v1 : (0 : Int) ≤ c := by omega
      have v2 : (c : Int) ≤ 1114111 := by have := hsc.1; omega
      clear hST hsc hsd hne h1 h2 hT hWn hTs hWs hl1 hl2 hz1 hz2
      clear hn
      by_cases k4 : 65536 ≤ c
      · have o1 : ONE.size = 4 := by rw [hos, if_pos k4]
        have u1 : (65536 : Int) ≤ c := by omega
        have u2 : (2048 : Int) ≤ c := by omega
        have u3 : (128 : Int) ≤ c := by omega
        have u4 : ¬ (c : Int) < 128 := by omega
        have o2 : ((ONE.size : Int) != 4) = false := by rw [bne_eq_false_iff_eq]; omega
        clear hos k4 hol
        generalize (c : Int) = V at *
        generalize (d : Int) = V2 at *
        go_wp2_with fail
        refine (c16.out w _ bk tk).mono ?_
        rintro e w2 ⟨rfl, b2, t2⟩
        go_wp2_with fail
        refine (c17.out w _ b2 t2).mono ?_
        rintro e w3 ⟨rfl, b3, t3⟩
        go_wp2_with fail
        refine (c13.out w _ b3 t3).mono ?_
        rintro e w4 ⟨rfl, b4, t4⟩
        go_wp2_with fail
        refine (c17.out w _ b4 t4).mono ?_
        rintro e w5 ⟨rfl, b5, t5⟩
        go_wp2_with fail
        refine (c11.out w _ b5 t5).mono ?_
        rintro e w6 ⟨rfl, b6, t6⟩
        go_wp2_with fail
        refine (c16b.out w _ b6 t6).mono ?_
        rintro e w7 ⟨rfl, b7, t7⟩
        go_wp2_with fail
        refine (c17b.out w _ b7 t7).mono ?_
        rintro e w8 ⟨rfl, b8, t8⟩
        go_wp2_with fail
        refine (c13b.out w _ b8 t8).mono ?_
        rintro e w9 ⟨rfl, b9, t9⟩
        go_wp2_with fail
        refine (c17.out w _ b9 t9).mono ?_
        rintro e w10 ⟨rfl, b10, t10⟩
        go_wp2_with fail
        go_roundw
        case rel => exact ⟨k + 1, T ++ WR, Wn ++ ONE, by omega, rfl, rfl, by go_num, HT.out, HW.out, b10, t10⟩
        case measure => simp [RowKit.intOf]; omega
      · have u1 : ¬ (65536 : Int) ≤ c := by omega
        have u1' : (c : Int) < 65536 := by omega
        rw [if_neg k4] at hos
        by_cases k3 : 2048 ≤ c
        · have o1 : ONE.size = 3 := by rw [hos, if_pos k3]
          have u2 : (2048 : Int) ≤ c := by omega
          have u3 : (128 : Int) ≤ c := by omega
          have u4 : ¬ (c : Int) < 128 := by omega
          have o2 : ((ONE.size : Int) != 3) = false := by rw [bne_eq_false_iff_eq]; omega
          clear hos k4 hol
          generalize (c : Int) = V at *
          generalize (d : Int) = V2 at *
          go_wp2_with fail
          refine (c16.out w _ bk tk).mono ?_
          rintro e w2 ⟨rfl, b2, t2⟩
          go_wp2_with fail
          refine (c17.out w _ b2 t2).mono ?_
          rintro e w3 ⟨rfl, b3, t3⟩
          go_wp2_with fail
          refine (c13.out w _ b3 t3).mono ?_
          rintro e w4 ⟨rfl, b4, t4⟩
          go_wp2_with fail
          refine (c17.out w _ b4 t4).mono ?_
          rintro e w5 ⟨rfl, b5, t5⟩
          go_wp2_with fail
          refine (c11.out w _ b5 t5).mono ?_
          rintro e w6 ⟨rfl, b6, t6⟩
          go_wp2_with fail
          refine (c16b.out w _ b6 t6).mono ?_
          rintro e w7 ⟨rfl, b7, t7⟩
          go_wp2_with fail
          refine (c17b.out w _ b7 t7).mono ?_
          rintro e w8 ⟨rfl, b8, t8⟩
          go_wp2_with fail
          refine (c13b.out w _ b8 t8).mono ?_
          rintro e w9 ⟨rfl, b9, t9⟩
          go_wp2_with fail
          refine (c17.out w _ b9 t9).mono ?_
          rintro e w10 ⟨rfl, b10, t10⟩
          go_wp2_with fail
          go_roundw
          case rel => exact ⟨k + 1, T ++ WR, Wn ++ ONE, by omega, rfl, rfl, by go_num, HT.out, HW.out, b10, t10⟩
          case measure => simp [RowKit.intOf]; omega
        · have u2 : ¬ (2048 : Int) ≤ c := by omega
          have u2' : (c : Int) < 2048 := by omega
          rw [if_neg k3] at hos
          by_cases k2 : 128 ≤ c
          · have o1 : ONE.size = 2 := by rw [hos, if_pos k2]
            have u3 : (128 : Int) ≤ c := by omega
            have u4 : ¬ (c : Int) < 128 := by omega
            have o2 : ((ONE.size : Int) != 2) = false := by rw [bne_eq_false_iff_eq]; omega
            clear hos k4 hol
            generalize (c : Int) = V at *
            generalize (d : Int) = V2 at *
            go_wp2_with fail
            refine (c16.out w _ bk tk).mono ?_
            rintro e w2 ⟨rfl, b2, t2⟩
            go_wp2_with fail
            refine (c17.out w _ b2 t2).mono ?_
            rintro e w3 ⟨rfl, b3, t3⟩
            go_wp2_with fail
            refine (c13.out w _ b3 t3).mono ?_
            rintro e w4 ⟨rfl, b4, t4⟩
            go_wp2_with fail
            refine (c17.out w _ b4 t4).mono ?_
            rintro e w5 ⟨rfl, b5, t5⟩
            go_wp2_with fail
            refine (c11.out w _ b5 t5).mono ?_
            rintro e w6 ⟨rfl, b6, t6⟩
            go_wp2_with fail
            refine (c16b.out w _ b6 t6).mono ?_
            rintro e w7 ⟨rfl, b7, t7⟩
            go_wp2_with fail
            refine (c17b.out w _ b7 t7).mono ?_
            rintro e w8 ⟨rfl, b8, t8⟩
            go_wp2_with fail
            refine (c13b.out w _ b8 t8).mono ?_
            rintro e w9 ⟨rfl, b9, t9⟩
            go_wp2_with fail
            refine (c17.out w _ b9 t9).mono ?_
            rintro e w10 ⟨rfl, b10, t10⟩
            go_wp2_with fail
            go_roundw
            case rel => exact ⟨k + 1, T ++ WR, Wn ++ ONE, by omega, rfl, rfl, by go_num, HT.out, HW.out, b10, t10⟩
            case measure => simp [RowKit.intOf]; omega
          · have u3 : ¬ (128 : Int) ≤ c := by omega
            have u4 : (c : Int) < 128 := by omega
            rw [if_neg k2] at hos
            have o2 : ((ONE.size : Int) != 1) = false := by rw [bne_eq_false_iff_eq]; omega
            obtain ⟨x, hx⟩ : ∃ x : UInt8, x.toNat = c := ⟨UInt8.ofNat c, by simp; omega⟩
            have hO : Hid (ONE = ⟨#[x]⟩) := by
              show ONE = _
              apply Go.WideShapes.bytes_inj
              rw [hol, ← hx, Q.enc1 x (by omega)]
            have hxV : Hid ((c : Int) = (x.toNat : Int)) := by show (c : Int) = _; omega
            clear hos k4 hol hx
            generalize (c : Int) = V at *
            generalize (d : Int) = V2 at *
            go_wp2_with fail
            refine (c16.out w _ bk tk).mono ?_
            rintro e w2 ⟨rfl, b2, t2⟩
            go_wp2_with fail
            refine (c17.out w _ b2 t2).mono ?_
            rintro e w3 ⟨rfl, b3, t3⟩
            go_wp2_with fail
            refine (c13.out w _ b3 t3).mono ?_
            rintro e w4 ⟨rfl, b4, t4⟩
            go_wp2_with fail
            refine (c17.out w _ b4 t4).mono ?_
            rintro e w5 ⟨rfl, b5, t5⟩
            go_wp2_with fail
            refine (c11.out w _ b5 t5).mono ?_
            rintro e w6 ⟨rfl, b6, t6⟩
            go_wp2_with fail
            refine (c16b.out w _ b6 t6).mono ?_
            rintro e w7 ⟨rfl, b7, t7⟩
            go_wp2_with fail
            refine (c17b.out w _ b7 t7).mono ?_
            rintro e w8 ⟨rfl, b8, t8⟩
            go_wp2_with fail
            refine (c13b.out w _ b8 t8).mono ?_
            rintro e w9 ⟨rfl, b9, t9⟩
            have hcv : (convert 38 9 (.slice (some ⟨w9.heap.size, 0, none⟩) 1 1)).run Tryd.prog (w9.alloc (.cells #[.int .u8 V] 5)) = .ok (.string ONE) (w9.alloc (.cells #[.int .u8 V] 5)) := by
              rw [hO.out, hxV.out]
              exact (Own.built w9.heap.size w9 [x] (Nat.le_refl _) (by simp)).conv
            have t9a : Tb (w9.alloc (.cells #[.int .u8 V] 5)) := t9.below ((Below.refl _ w9).alloc (Nat.le_refl _) _)
            have b9a : Below w.heap.size w (w9.alloc (.cells #[.int .u8 V] 5)) := b9.alloc b9.size _
            go_wp2_with fail
            refine (c17.out w _ b9a t9a).mono ?_
            rintro e w10 ⟨rfl, b10, t10⟩
            go_wp2_with fail
            go_roundw
            case rel => exact ⟨k + 1, T ++ WR, Wn ++ ONE, by omega, rfl, rfl, by go_num, HT.out, HW.out, b10, t10⟩
            case measure => simp [RowKit.intOf]; omega
    · have y1 : ¬ (k : Int) < len := by omega
      obtain rfl : k = len := by omega
      obtain ⟨U, hU⟩ := last_of g (Q.scs zs k) T Wn (by rw [Q.scs_len]; exact hlen) (Q.scs_is zs k) hT hWn
      have c13 : Hid (Gives 13 #[.string (T ++ ⟨#[34]⟩), .int .i64 0] (.tuple #[.string Wn, .int .i64 ((T.size : Int) + 1), .int .i64 0])) := hU.un
      have c8 : Hid (Gives 8 #[.string Wn] (.tuple #[.string U, .int .i64 0])) := hU.qu
      have c13b : Hid (Gives 13 #[.string U, .int .i64 0] (.tuple #[.string Wn, .int .i64 (U.size : Int), .int .i64 0])) := hU.ag
      have s1 : ¬ 9223372036854775807 < T.size + 1 := by omega
      have q1 : (((T.size : Int) + 1) != (T.size : Int) + 1) = false := by rw [bne_eq_false_iff_eq]
      have s2 : (T.size : Int) ≤ 211106232526849 := by omega
      clear hcell hT hWn hTs hWs hl1 hl2
      go_wp2_with fail
      refine (c13.out w _ bk tk).mono ?_
      rintro e w2 ⟨rfl, b2, t2⟩
      go_wp2_with fail
      refine (c8.out w _ b2 t2).mono ?_
      rintro e w3 ⟨rfl, b3, t3⟩
      go_wp2_with fail
      refine (c13b.out w _ b3 t3).mono ?_
      rintro e w4 ⟨rfl, b4, t4⟩
      go_wp2
      go_ret
      exact ⟨rfl, b4⟩
end Go.Proofs.YtcoamnmgkhlahaaDoor
