/- joined: KdsP LdgA KdoA KdsA DgtA StpA AskA -/
import Derived.Test.YtejcfkkkbnnmcaaGreatDoorJC
import Derived.Laws.IdiomStrings
import Derived.Laws.BytesArg
import Derived.Laws.ResultCell
import Derived.Test.YtejcfkkkbnnmcaaGreatDoorJF
/- what is taken stays taken below; the document's walk as a function; the tokens below a place. -/
set_option linter.unusedSimpArgs false
set_option linter.unusedVariables false
namespace Go.Proofs.YtejcfkkkbnnmcaaGreatDoor
open Go.RowKit Go.Lib

theorem ent_zero {D n y d lv : Nat} {g : Bool} {z : Nat} (h : (entF D n y d lv g z).1 = 0) : entF D n y d lv g z = (0, n + 1, y + z, max d lv) ∧ n < 65536 ∧ lv ≤ D ∧ g = true ∧ y + z ≤ 1048576 := by
  unfold entF at *
  split at h
  · simp at h
  split at h
  · simp at h
  split at h
  · simp at h
  split at h
  · simp at h
  rename_i h1 h2 h3 h4
  rw [if_neg h1, if_neg h2, if_neg h3, if_neg h4]
  exact ⟨rfl, by omega, by omega, by simpa using h3, by omega⟩
theorem ent_mono {D n y d lv n' y' d' lv' : Nat} {g : Bool} {z : Nat} (h : (entF D n y d lv g z).1 = 0) (h1 : n' ≤ n) (h2 : y' ≤ y) (h3 : lv' ≤ lv) : entF D n' y' d' lv' g z = (0, n' + 1, y' + z, max d' lv') := by
  obtain ⟨_, k1, k2, k3, k4⟩ := ent_zero h
  unfold entF
  rw [if_neg (by omega), if_neg (by omega), if_neg (by simp [k3]), if_neg (by omega)]

mutual
theorem chkV_mono (D : Nat) : ∀ (v : V) (lv lv' : Nat) (st st' : St), (chkV D v lv st).1 = 0 → lv' ≤ lv → st'.1 ≤ st.1 → st'.2.1 ≤ st.2.1 → (chkV D v lv' st').1 = 0 ∧ (chkV D v lv' st').2.1 ≤ (chkV D v lv st).2.1 ∧ (chkV D v lv' st').2.2.1 ≤ (chkV D v lv st).2.2.1
  | .mk k b i s l m, lv, lv', st, st', h, h1, h2, h3 => by
    rw [chkV] at h ⊢
    simp only at h ⊢
    by_cases hr : (entF D st.1 st.2.1 st.2.2 lv (goodB k b i s l.length m) (s.size + keyB m)).1 = 0
    · rw [if_pos hr] at h
      have e1 := (ent_zero hr).1
      have e2 := ent_mono (d' := st'.2.2) hr h2 h3 h1
      rw [chkV]
      simp only
      rw [e1] at h
      rw [e1, e2]
      simp only [if_true] at h ⊢
      by_cases hq : (chkL D l (lv + 1) (st.1 + 1, st.2.1 + (s.size + keyB m), max st.2.2 lv)).1 = 0
      · rw [if_pos hq] at h
        have q := chkL_mono D l (lv + 1) (lv' + 1) (st.1 + 1, st.2.1 + (s.size + keyB m), max st.2.2 lv) (st'.1 + 1, st'.2.1 + (s.size + keyB m), max st'.2.2 lv') hq (by omega) (by simp only; omega) (by simp only; omega)
        rw [if_pos hq, if_pos q.1]
        exact chkM_mono D m (lv + 1) (lv' + 1) _ _ h (by omega) q.2.1 q.2.2
      · rw [if_neg hq] at h
        exact absurd h hq
    · rw [if_neg hr] at h
      exact absurd h hr
theorem chkL_mono (D : Nat) : ∀ (l : List V) (lv lv' : Nat) (st st' : St), (chkL D l lv st).1 = 0 → lv' ≤ lv → st'.1 ≤ st.1 → st'.2.1 ≤ st.2.1 → (chkL D l lv' st').1 = 0 ∧ (chkL D l lv' st').2.1 ≤ (chkL D l lv st).2.1 ∧ (chkL D l lv' st').2.2.1 ≤ (chkL D l lv st).2.2.1
  | [], lv, lv', st, st', h, h1, h2, h3 => by rw [chkL, chkL]; exact ⟨rfl, h2, h3⟩
  | x :: t, lv, lv', st, st', h, h1, h2, h3 => by
    rw [chkL] at h
    rw [chkL, chkL]
    by_cases hx : (chkV D x lv st).1 = 0
    · rw [if_pos hx] at h
      have q := chkV_mono D x lv lv' st st' hx h1 h2 h3
      rw [if_pos hx, if_pos q.1]
      exact chkL_mono D t lv lv' _ _ h h1 q.2.1 q.2.2
    · rw [if_neg hx] at h
      exact absurd h hx
theorem chkM_mono (D : Nat) : ∀ (l : List Mem) (lv lv' : Nat) (st st' : St), (chkM D l lv st).1 = 0 → lv' ≤ lv → st'.1 ≤ st.1 → st'.2.1 ≤ st.2.1 → (chkM D l lv' st').1 = 0 ∧ (chkM D l lv' st').2.1 ≤ (chkM D l lv st).2.1 ∧ (chkM D l lv' st').2.2.1 ≤ (chkM D l lv st).2.2.1
  | [], lv, lv', st, st', h, h1, h2, h3 => by rw [chkM, chkM]; exact ⟨rfl, h2, h3⟩
  | (k, x) :: t, lv, lv', st, st', h, h1, h2, h3 => by
    rw [chkM] at h
    rw [chkM, chkM]
    by_cases hx : (chkV D x lv st).1 = 0
    · rw [if_pos hx] at h
      have q := chkV_mono D x lv lv' st st' hx h1 h2 h3
      rw [if_pos hx, if_pos q.1]
      exact chkM_mono D t lv lv' _ _ h h1 q.2.1 q.2.2
    · rw [if_neg hx] at h
      exact absurd h hx
end
theorem chkM_mem {D : Nat} : ∀ {l : List Mem} {lv : Nat} {st : St}, (chkM D l lv st).1 = 0 → ∀ x ∈ l, ∃ st', (chkV D x.2 lv st').1 = 0
  | [], lv, st, h, x, hx => by cases hx
  | (k, y) :: t, lv, st, h, x, hx => by
    rw [chkM] at h
    by_cases hy : (chkV D y lv st).1 = 0
    · rw [if_pos hy] at h
      rcases List.mem_cons.1 hx with rfl | hx
      · exact ⟨st, hy⟩
      · exact chkM_mem h x hx
    · rw [if_neg hy] at h
      exact absurd h hy
theorem chkL_mem {D : Nat} : ∀ {l : List V} {lv : Nat} {st : St}, (chkL D l lv st).1 = 0 → ∀ x ∈ l, ∃ st', (chkV D x lv st').1 = 0
  | [], lv, st, h, x, hx => by cases hx
  | y :: t, lv, st, h, x, hx => by
    rw [chkL] at h
    by_cases hy : (chkV D y lv st).1 = 0
    · rw [if_pos hy] at h
      rcases List.mem_cons.1 hx with rfl | hx
      · exact ⟨st, hy⟩
      · exact chkL_mem h x hx
    · rw [if_neg hy] at h
      exact absurd h hy
theorem chk_kid {v : V} {j : Nat} (h : chkE v 40 = 0) (hj : kidAt v j) : chkE (kid v j) 40 = 0 := by
  rw [chkE40] at h ⊢
  obtain ⟨k, b, i, s, l, m⟩ := v
  rw [chkV] at h
  simp only at h
  split at h
  · split at h
    · rename_i h1 h2
      rcases hj with ⟨hk, hj⟩ | ⟨hk, hj⟩
      · have hk' : k = 4 := hk
        subst hk'
        have hj' : j < l.length := hj
        have e : kid (.mk 4 b i s l m) j = l[j] := by
          show (l.getD j nullV) = _
          rw [List.getD_eq_getElem?_getD, List.getElem?_eq_getElem hj']; rfl
        rw [e]
        obtain ⟨st', h3⟩ := chkL_mem h2 l[j] (List.getElem_mem hj')
        exact (chkV_mono 40 _ _ 0 st' (0, 0, 0) h3 (Nat.zero_le _) (Nat.zero_le _) (Nat.zero_le _)).1
      · have hk' : k = 5 := hk
        subst hk'
        have hj' : j < m.length := hj
        have e : kid (.mk 5 b i s l m) j = (m[j]).2 := by
          show (m.getD j (⟨#[]⟩, nullV)).2 = _
          rw [List.getD_eq_getElem?_getD, List.getElem?_eq_getElem hj']; rfl
        rw [e]
        obtain ⟨st', h3⟩ := chkM_mem h m[j] (List.getElem_mem hj')
        exact (chkV_mono 40 _ _ 0 st' (0, 0, 0) h3 (Nat.zero_le _) (Nat.zero_le _) (Nat.zero_le _)).1
    · rename_i h2
      exact absurd h h2
  · rename_i h2
    exact absurd h h2

/-- the document's walk -/
def rgW : V → List ByteArray → V × Int
  | v, [] => (v, 0)
  | v, t :: ts => if (ledF v t).2 = 0 then rgW (kid v (ledF v t).1) ts else (nullV, (ledF v t).2)
def rgetF (v : V) (p : ByteArray) : V × Int := if rdF v p = 0 then rgW v (toksOf p) else (nullV, rdF v p)
theorem rgW_wt : ∀ (ts : List ByteArray) (v : V), (rgW v ts).1.wt ≤ v.wt
  | [], v => Nat.le_refl _
  | t :: ts, v => by
    rw [rgW]
    split
    · rename_i h
      exact Nat.le_trans (rgW_wt ts _) (kid_wt (led_kid h))
    · have : nullV.wt = 1 := by decide
      have := V.wt_pos v
      simp only; omega
theorem rgW_null : ∀ (ts : List ByteArray) (v : V), ¬ (rgW v ts).2 = 0 → (rgW v ts).1 = nullV
  | [], v, h => by rw [rgW] at h; simp at h
  | t :: ts, v, h => by
    rw [rgW] at h ⊢
    split
    · rename_i h0
      rw [if_pos h0] at h
      exact rgW_null ts _ h
    · rfl
theorem rgW_chk : ∀ (ts : List ByteArray) (v : V), chkE v 40 = 0 → (rgW v ts).2 = 0 → chkE (rgW v ts).1 40 = 0
  | [], v, hv, h => hv
  | t :: ts, v, hv, h => by
    rw [rgW] at h ⊢
    split
    · rename_i h0
      rw [if_pos h0] at h
      exact rgW_chk ts _ (chk_kid hv (led_kid h0)) h
    · rename_i h0
      rw [if_neg h0] at h
      exact absurd h h0
theorem wk_rg : ∀ (ts : List ByteArray) (v : V), (wkV (fun x => (x, 0)) v ts).2.1 = (rgW v ts).2 ∧ (wkV (fun x => (x, 0)) v ts).2.2 = if (rgW v ts).2 = 0 then some (rgW v ts).1 else none
  | [], v => by rw [wkV, rgW]; simp
  | t :: ts, v => by
    rw [wkV, rgW]
    split
    · rename_i h0
      have ih := wk_rg ts (kid v (ledF v t).1)
      split
      · rename_i h1
        rw [ih.1] at h1
        exact ⟨h1.symm, ih.2⟩
      · exact ih
    · rename_i h0
      exact ⟨rfl, rfl⟩
theorem rdF_chk {v : V} {p : ByteArray} (h : rdF v p = 0) : chkE v 40 = 0 := (rd_zero h).1
theorem get_rg (v : V) (p : ByteArray) : getF v p = rgetF v p := by
  rw [getF, rgetF]
  split
  · rename_i h
    have hk := wk_rg (toksOf p) v
    rw [hk.1, hk.2, nweF]
    have hc := rgW_chk (toksOf p) v (rdF_chk h)
    have hn := rgW_null (toksOf p) v
    generalize rgW v (toksOf p) = R at *
    obtain ⟨x, e⟩ := R
    simp only at *
    split
    · rename_i h0
      subst h0
      simp only [Option.getD_some]
      rw [if_pos (hc rfl)]
    · rename_i h0
      rw [hn h0]
  · rfl
/-- the indexes below n, as tokens -/
def digB (i : Nat) : ByteArray := ⟨(decDigits i).toArray⟩
def digs (n : Nat) : List ByteArray := (List.range n).map digB
def keysB (m : List Mem) : List ByteArray := m.map (fun x => x.1)
theorem digs_len (n : Nat) : (digs n).length = n := by simp [digs]
theorem digs_succ (n : Nat) : digs (n + 1) = digs n ++ [digB n] := by simp [digs, List.range_succ]
theorem keys_len (m : List Mem) : (keysB m).length = m.length := by simp [keysB]
theorem keys_succ (m : List Mem) (j : Nat) (h : j < m.length) : keysB (m.take (j + 1)) = keysB (m.take j) ++ [(m[j]).1] := by
  rw [keysB, keysB, List.take_add_one, List.getElem?_eq_getElem h, List.map_append]
  rfl
/-- the tokens below a value -/
def ldgF (v : V) : List ByteArray := digs (listOf v).length ++ keysB (memsOf v)
theorem ldg_len (v : V) : (ldgF v).length ≤ v.wt := by
  obtain ⟨k, b, i, s, l, m⟩ := v
  rw [ldgF, List.length_append, digs_len, keys_len, V.wt]
  have h1 := wtL_len l
  have h2 := wtM_len m
  show l.length + m.length ≤ _
  omega
theorem ldg_swap {v : V} (h : allG v) : keysB (memsOf v) ++ digs (listOf v).length = ldgF v := by
  obtain ⟨k, b, i, s, l, m⟩ := v
  rw [allG] at h
  have hg := h.1
  simp only [goodB, Bool.and_eq_true] at hg
  have hp := hg.1.1
  rw [ldgF]
  show keysB m ++ digs l.length = digs l.length ++ keysB m
  have key : l.length = 0 ∨ m.length = 0 := by
    unfold plainB at hp
    simp only [Bool.and_eq_true, Bool.or_eq_true, decide_eq_true_iff, beq_iff_eq] at hp
    omega
  rcases key with h0 | h0
  · rw [h0]; simp [digs]
  · rw [List.length_eq_zero_iff] at h0
    rw [h0]; simp [keysB]
def kdsF (v : V) (p : ByteArray) : List ByteArray × Int := if (rgetF v p).2 = 0 then (ldgF (rgetF v p).1, 0) else ([], (rgetF v p).2)
theorem rget_wt (v : V) (p : ByteArray) : (rgetF v p).1.wt ≤ v.wt := by
  rw [rgetF]
  split
  · exact rgW_wt _ _
  · have : nullV.wt = 1 := by decide
    have := V.wt_pos v
    simp only; omega
theorem rget_chk {v : V} {p : ByteArray} (h : (rgetF v p).2 = 0) : chkE (rgetF v p).1 40 = 0 := by
  rw [rgetF] at h ⊢
  split
  · rename_i h0
    rw [if_pos h0] at h
    exact rgW_chk _ _ (rdF_chk h0) h
  · rename_i h0
    rw [if_neg h0] at h
    exact absurd h h0
theorem rget_null {v : V} {p : ByteArray} (h : ¬ (rgetF v p).2 = 0) : (rgetF v p).1 = nullV := by
  rw [rgetF] at h ⊢
  split
  · rename_i h0
    rw [if_pos h0] at h
    exact rgW_null _ _ h
  · rfl
end Go.Proofs.YtejcfkkkbnnmcaaGreatDoor

/- freeholdref04.digits, index. -/
set_option linter.unusedSimpArgs false
set_option linter.unusedVariables false
namespace Go.Proofs.YtejcfkkkbnnmcaaGreatDoor
open Go.RowKit Go.Lib

theorem conv_oneG (W : World) (c : UInt8) (x : Int) (hx : x = (c.toNat : Int)) :
    (convert 61 9 (.slice (some ⟨W.heap.size, 0, none⟩) 1 1)).run Tryz.prog (W.alloc (.cells #[.int .u8 x] 5)) = .ok (.string ⟨#[c]⟩) (W.alloc (.cells #[.int .u8 x] 5)) := by
  subst hx
  refine run_convert_bytes_back (P := Tryz.prog) _ 61 9 5 ⟨W.heap.size, 0, none⟩ 1 [c] Tryz.underlying61 Tryz.underlying5 Tryz.underlying9 ?_
  intro j hj
  obtain rfl : j = 0 := by simpa using hj
  rw [Go.WideShapes.add_plain, cell_of_block (heap_alloc_new W _)]
  rfl
theorem digB_lt {q : Nat} (h : q < 10) : digB q = ⟨#[UInt8.ofNat (48 + q % 10)]⟩ := by
  rw [digB, decDigits, dif_pos h, Nat.mod_eq_of_lt h]
theorem digB_ge {q : Nat} (h : ¬ q < 10) : digB q = digB (q / 10) ++ ⟨#[UInt8.ofNat (48 + q % 10)]⟩ := by
  rw [digB, decDigits, dif_neg h, digB]
  apply ByteArray.ext
  simp [ByteArray.data_append]
theorem dig_u8 (q : Nat) : (48 : Int) + ((q : Int) % 10) = ((UInt8.ofNat (48 + q % 10)).toNat : Int) := by
  rw [UInt8.toNat_ofNat']; omega
def SgPost (s : ByteArray) (w : World) (e : Ending) (w' : World) : Prop := e = .returned (.string s) ∧ Below w.heap.size w w'
set_option maxHeartbeats 1000000 in
set_option maxRecDepth 100000 in
theorem digit_any (N : Nat) (hN : N ≤ 4000000) (w : World) : Calls Tryz.prog 21 #[.int .i64 (N : Int)] w (SgPost (digB N) w) := by
  have hc := conv_oneG w (UInt8.ofNat (48 + N % 10)) (48 + (N : Int) % 10) (dig_u8 N)
  have HL : Hid (N < 10 → digB N = ⟨#[UInt8.ofNat (48 + N % 10)]⟩) := digB_lt
  have HG : Hid (¬ N < 10 → digB N = digB (N / 10) ++ ⟨#[UInt8.ofNat (48 + N % 10)]⟩) := digB_ge
  generalize UInt8.ofNat (48 + N % 10) = c at *
  generalize digB N = DN at *
  have e2 : ((N : Int)).tmod 10 = (N : Int) % 10 := by rw [Int.tmod_eq_emod_of_nonneg (by omega)]
  have e4 : IntKind.u8.wrap (48 + (N : Int) % 10) = 48 + (N : Int) % 10 := IntWalk.u8_in _ (by omega)
  have zc : (⟨#[c]⟩ : ByteArray).size = 1 := rfl
  go_enter Tryz.func21, Tryz.ntmps21
  go_wp2_with fail
  have B0 : Below w.heap.size w (w.alloc (.cells #[.int .u8 (48 + (N : Int) % 10)] 5)) := one_belowG _ _
  go_loopw [0, 3] (fun e0 e3 wr => ∃ (q : Nat) (t : ByteArray), e0 = .int .i64 (q : Int) ∧ e3 = .string t ∧ q ≤ N ∧ t.size + q ≤ N + 1 ∧ Below w.heap.size w wr ∧ Hid ((q < 10 → DN = t) ∧ (¬ q < 10 → DN = digB (q / 10) ++ t))) (fun e _ _ => (RowKit.intOf e).toNat)
  case atStart => exact ⟨N, ⟨#[c]⟩, rfl, rfl, by omega, by omega, B0, ⟨HL.out, HG.out⟩⟩
  case round =>
    clear hc e2 e4 HL HG B0
    obtain ⟨q, t, rfl, rfl, hq, ht, bq, HI⟩ := hrel
    have hzr := bq.size
    by_cases h10 : q < 10
    · have y1 : ¬ (q : Int) ≥ 10 := by omega
      have HR : Hid (DN = t) := HI.out.1 h10
      go_wp2_with fail
      go_ret
      exact ⟨by rw [HR.out]; rfl, bq⟩
    · have y1 : (q : Int) ≥ 10 := by omega
      have e1 : (q : Int).tdiv 10 = ((q / 10 : Nat) : Int) := by rw [Int.tdiv_eq_ediv_of_nonneg (by omega)]; rfl
      have e1' : (q : Int) / 10 = ((q / 10 : Nat) : Int) := rfl
      have hu : q / 10 < q := by omega
      have HI' : Hid (DN = digB (q / 10) ++ t) := HI.out.2 h10
      obtain ⟨u, hu'⟩ : ∃ u, q / 10 = u := ⟨_, rfl⟩
      rw [hu'] at e1 e1' hu HI'
      have hc := conv_oneG wr (UInt8.ofNat (48 + u % 10)) (48 + (u : Int) % 10) (dig_u8 u)
      have HL : Hid (u < 10 → DN = ⟨#[UInt8.ofNat (48 + u % 10)]⟩ ++ t) := fun h => by rw [HI'.out, digB_lt h]
      have HG : Hid (¬ u < 10 → DN = digB (u / 10) ++ (⟨#[UInt8.ofNat (48 + u % 10)]⟩ ++ t)) := fun h => by rw [HI'.out, digB_ge h, ByteArray.append_assoc]
      have hsz : (⟨#[UInt8.ofNat (48 + u % 10)]⟩ ++ t : ByteArray).size = 1 + t.size := by rw [ByteArray.size_append]; rfl
      have zc : (⟨#[UInt8.ofNat (48 + u % 10)]⟩ : ByteArray).size = 1 := rfl
      generalize UInt8.ofNat (48 + u % 10) = c at *
      have e2 : ((u : Int)).tmod 10 = (u : Int) % 10 := by rw [Int.tmod_eq_emod_of_nonneg (by omega)]
      have e4 : IntKind.u8.wrap (48 + (u : Int) % 10) = 48 + (u : Int) % 10 := IntWalk.u8_in _ (by omega)
      have B1 : Below w.heap.size w (wr.alloc (.cells #[.int .u8 (48 + (u : Int) % 10)] 5)) := bq.alloc hzr _
      clear HI HI' hu'
      go_wp2_with fail
      go_roundw
      case rel => exact ⟨u, ⟨#[c]⟩ ++ t, rfl, rfl, by omega, by omega, B1, ⟨HL.out, HG.out⟩⟩
      case measure => simp [RowKit.intOf]; omega
def ixI (o : Option Nat) : Int := match o with | some u => (u : Int) | none => -1
set_option maxHeartbeats 1000000 in
set_option maxRecDepth 100000 in
theorem rindex_any (tok : ByteArray) (n : Nat) (hn : n ≤ 2000000) (w : World) : Calls Tryz.prog 32 #[.string tok, .int .i64 (n : Int)] w (fun e w' => e = .returned (.int .i64 (ixI (idxF tok.data.toList n))) ∧ Below w.heap.size w w') := by
  have HN : Hid ((∀ i, i < n → decDigits i ≠ tok.data.toList) → idxF tok.data.toList n = none) := fun h => idxF_none h
  have HY : Hid (∀ i, i < n → decDigits i = tok.data.toList → idxF tok.data.toList n = some i) := fun i h1 h2 => idxF_some (by omega) h1 h2
  generalize idxF tok.data.toList n = O at *
  go_enter Tryz.func32, Tryz.ntmps32
  go_wp2_with fail
  go_loopw [5] (fun e wr => ∃ i : Nat, i ≤ n ∧ e = .int .i64 (i : Int) ∧ Below w.heap.size w wr ∧ Hid (∀ j, j < i → decDigits j ≠ tok.data.toList)) (fun e _ => n - (RowKit.intOf e).toNat)
  case atStart => exact ⟨0, by omega, rfl, Below.refl _ _, fun j hj => by omega⟩
  case round =>
    obtain ⟨i, hi, rfl, bi, HI⟩ := hrel
    have hzr := bi.size
    by_cases hin : i < n
    · have y1 : (i : Int) < n := by omega
      have CD := hmk (digit_any i (by omega) wr)
      have HE : Hid ((digB i).toList = decDigits i) := by show _ = _; rw [ByteArray.toList_eq, digB]
      by_cases he : decDigits i = tok.data.toList
      · have HO : Hid (O = some i) := HY.out i hin he
        have e1 : ((digB i).toList == tok.toList) = true := by rw [beq_iff_eq, HE.out, he, ByteArray.toList_eq]
        have e2 : (digB i).toList = tok.toList := by simpa using e1
        generalize digB i = d at *
        clear HE HY HN
        go_wp2_with fail
        refine CD.out.mono ?_
        rintro e w1 ⟨rfl, b1⟩
        go_wp2_with fail
        go_ret
        exact ⟨by rw [HO.out]; rfl, bi.trans (b1.mono hzr)⟩
      · have e1 : ((digB i).toList == tok.toList) = false := by rw [beq_eq_false_iff_ne, HE.out, ByteArray.toList_eq]; exact he
        have e2 : ¬ (digB i).toList = tok.toList := by simpa using e1
        have HI2 : Hid (∀ j, j < i + 1 → decDigits j ≠ tok.data.toList) := fun j hj => by
          rcases Nat.lt_or_ge j i with h | h
          · exact HI.out j h
          · obtain rfl : j = i := by omega
            exact he
        generalize digB i = d at *
        clear HE HI he
        go_wp2_with fail
        refine CD.out.mono ?_
        rintro e w1 ⟨rfl, b1⟩
        go_wp2_with fail
        go_roundw
        case rel => exact ⟨i + 1, by omega, by go_num, bi.trans (b1.mono hzr), HI2⟩
        case measure => simp [RowKit.intOf]; omega
    · obtain rfl : i = n := by omega
      have y1 : ¬ (i : Int) < i := by omega
      have HO : Hid (O = none) := HN.out HI.out
      go_wp2_with fail
      go_ret
      exact ⟨by rw [HO.out]; rfl, bi⟩
end Go.Proofs.YtejcfkkkbnnmcaaGreatDoor

/- freeholdref04.member, step. -/
set_option linter.unusedSimpArgs false
set_option linter.unusedVariables false
namespace Go.Proofs.YtejcfkkkbnnmcaaGreatDoor
open Go.RowKit Go.Lib

theorem results_cell_tmp2 {fn : Func} {p u u' : Tmp} {ty : TypeId} (h : fn.results = #[.cell p ty, .tmp u, .tmp u']) (tmps : Array Value) (P : Program) (w : World) :
    (results fn tmps).run P w =
      ((asAddr (tmps.getD p undef)).run P w).andThen fun a w₁ => ((loadVar ty a).run P w₁).andThen fun v w₂ => .ok (.tuple #[v, tmps.getD u undef, tmps.getD u' undef]) w₂ := by
  simp only [results, h]
  simp [Sem.run_bind, Result.andThen]
set_option maxHeartbeats 1000000 in
set_option maxRecDepth 100000 in
theorem member_any (m : List Mem) (key : ByteArray) (S : Nat → Prop) (am : Option Addr) (cm bm om : Nat) (w : World) (ham : Headed am m.length cm bm om) (hl : liesM false w S m bm om) (hS : ∀ b, S b → b < w.heap.size) (hs : Srt m) (hn : m.length ≤ 2000000) :
    Calls Tryz.prog 31 #[.slice am m.length cm, .string key] w (fun e w' => e = .returned (.tuple #[.int .i64 (posF m key : Int), .bool (keyIs key m[posF m key]?)]) ∧ Below w.heap.size w w') := by
  have HM := hmk hl
  have HLs : Hid (∀ t (ht : t < m.length), Op.bytesLess (m[t]).1.toList key.toList = decide (t < posF m key)) := fun t ht => pos_less hs ht
  have HKy : Hid (∀ h : posF m key < m.length, keyIs key m[posF m key]? = ((m[posF m key]).1.toList == key.toList)) := fun h => by rw [List.getElem?_eq_getElem h]; rfl
  have HKn : Hid (posF m key = m.length → keyIs key m[posF m key]? = false) := fun h => by rw [List.getElem?_eq_none (by omega)]; rfl
  have hpl := pos_le m key
  clear hl hs
  generalize keyIs key m[posF m key]? = O at *
  generalize posF m key = P at *
  go_enter Tryz.func31, Tryz.ntmps31
  go_wp2_with fail
  go_loopw [6] (fun e wr => ∃ i : Nat, i ≤ P ∧ e = .int .i64 (i : Int) ∧ Below w.heap.size w wr) (fun e _ => m.length - (RowKit.intOf e).toNat)
  case atStart => exact ⟨0, by omega, rfl, Below.refl _ _⟩
  case round =>
    obtain ⟨i, hi, rfl, bi⟩ := hrel
    have hzr := bi.size
    by_cases him : i < m.length
    · have y1 : (i : Int) < m.length := by omega
      obtain ⟨hSb, hks, csj, hrow, hlj⟩ := liesM_get HM.out i him
      obtain rfl : am = some ⟨bm, om, none⟩ := ham.at_.resolve_left (by omega)
      have x := (bi.cell (p := ⟨bm, _, none⟩) (hS _ hSb)).trans (hrow 0 _ rfl)
      simp only [Nat.add_zero] at x
      have HL := HLs.out i him
      by_cases hip : i < P
      · rw [decide_eq_true hip] at HL
        generalize (m[i]).1 = ki at *
        clear hrow hlj hks
        go_wp2_with fail
        go_roundw
        case rel => exact ⟨i + 1, by omega, by go_num, bi⟩
        case measure => simp [RowKit.intOf]; omega
      · rw [decide_eq_false hip] at HL
        obtain rfl : P = i := by omega
        have HK := HKy.out him
        clear HKy HKn HLs hip
        generalize (m[P]).1 = ki at *
        subst HK
        clear hrow hlj hks
        go_wp2_with fail
        go_quiet (fail)
        go_wp2_with fail
        go_ret2
        exact ⟨rfl, bi.trans (below_drewN _ _ _)⟩
    · obtain rfl : i = m.length := by omega
      obtain rfl : P = m.length := by omega
      have y1 : ¬ (m.length : Int) < m.length := by omega
      have HK := HKn.out rfl
      subst HK
      go_wp2_with fail
      go_quiet (fail)
      go_wp2_with fail
      go_ret2
      exact ⟨rfl, bi.trans (below_drewN _ _ _)⟩

/-- what a token leads to, and where it stands -/
def stpF (v : V) (t : ByteArray) : V × Nat × Int := if (ledF v t).2 = 0 then (kid v (ledF v t).1, (ledF v t).1, 0) else (nullV, 0, (ledF v t).2)
def SpPost (r : V × Nat × Int) (S : Nat → Prop) (w : World) (e : Ending) (w' : World) : Prop := ∃ ds : List Value, e = .returned (.tuple #[.agg ds.toArray, .int .i64 (r.2.1 : Int), .int .i64 r.2.2]) ∧ r.1.lies false w' S ds ∧ Below w.heap.size w w'
set_option maxHeartbeats 1600000 in
set_option maxRecDepth 100000 in
theorem step_any (v : V) (t : ByteArray) (S : Nat → Prop) (cs : List Value) (w : World) (hv : v.lies false w S cs) (hS : ∀ b, S b → b < w.heap.size) (hwt : v.wt ≤ 1114112) (hsr : Srt (memsOf v)) : Calls Tryz.prog 18 #[.agg cs.toArray, .string t] w (SpPost (stpF v t) S w) := by
  obtain ⟨k, b, i, s, l, m⟩ := v
  rw [V.lies] at hv
  obtain ⟨al, cl, bl, ol, am, cm, bm, om, rfl, _, _, _, hal, ham, hl, hm, _⟩ := hv
  have HL := hmk hl
  have HM := hmk hm
  have hml : m.length ≤ 1114112 := by have := wtM_len m; simp only [V.wt] at hwt; omega
  have hll : l.length ≤ 1114112 := by have := wtL_len l; simp only [V.wt] at hwt; omega
  have hsr' : Srt m := hsr
  have b2 : Below w.heap.size w ((w.alloc (.cells #[.int .i64 k, .bool b, .int .i64 i, .string s, .slice al l.length cl, .slice am m.length cm] 25)).alloc (.cells #[.int .i64 0, .bool false, .int .i64 0, .string ⟨#[]⟩, .slice none 0 0, .slice none 0 0] 25)) := two_below w _ _
  have hz2 : ((w.alloc (.cells #[.int .i64 k, .bool b, .int .i64 i, .string s, .slice al l.length cl, .slice am m.length cm] 25)).alloc (.cells #[.int .i64 0, .bool false, .int .i64 0, .string ⟨#[]⟩, .slice none 0 0, .slice none 0 0] 25)).heap.size = w.heap.size + 2 := by rw [alloc_size, alloc_size]
  have b3 : Below ((w.alloc (.cells #[.int .i64 k, .bool b, .int .i64 i, .string s, .slice al l.length cl, .slice am m.length cm] 25)).alloc (.cells #[.int .i64 0, .bool false, .int .i64 0, .string ⟨#[]⟩, .slice none 0 0, .slice none 0 0] 25)).heap.size ((w.alloc (.cells #[.int .i64 k, .bool b, .int .i64 i, .string s, .slice al l.length cl, .slice am m.length cm] 25)).alloc (.cells #[.int .i64 0, .bool false, .int .i64 0, .string ⟨#[]⟩, .slice none 0 0, .slice none 0 0] 25)) (((w.alloc (.cells #[.int .i64 k, .bool b, .int .i64 i, .string s, .slice al l.length cl, .slice am m.length cm] 25)).alloc (.cells #[.int .i64 0, .bool false, .int .i64 0, .string ⟨#[]⟩, .slice none 0 0, .slice none 0 0] 25)).alloc (.cells #[.int .i64 0, .bool false, .int .i64 0, .string ⟨#[]⟩, .slice none 0 0, .slice none 0 0] 25)) := one_belowG _ _
  have B3 : Below w.heap.size w (((w.alloc (.cells #[.int .i64 k, .bool b, .int .i64 i, .string s, .slice al l.length cl, .slice am m.length cm] 25)).alloc (.cells #[.int .i64 0, .bool false, .int .i64 0, .string ⟨#[]⟩, .slice none 0 0, .slice none 0 0] 25)).alloc (.cells #[.int .i64 0, .bool false, .int .i64 0, .string ⟨#[]⟩, .slice none 0 0, .slice none 0 0] 25)) := b2.trans (b3.mono (by omega))
  have h0 := (b3.block w.heap.size (by omega)).trans (alloc2_keep1 w (.cells #[.int .i64 k, .bool b, .int .i64 i, .string s, .slice al l.length cl, .slice am m.length cm] 25) (.cells #[.int .i64 0, .bool false, .int .i64 0, .string ⟨#[]⟩, .slice none 0 0, .slice none 0 0] 25))
  have h1 := (b3.block (w.heap.size + 1) (by omega)).trans (alloc2_new w (.cells #[.int .i64 k, .bool b, .int .i64 i, .string s, .slice al l.length cl, .slice am m.length cm] 25) (.cells #[.int .i64 0, .bool false, .int .i64 0, .string ⟨#[]⟩, .slice none 0 0, .slice none 0 0] 25))
  have h2 := heap_alloc_new ((w.alloc (.cells #[.int .i64 k, .bool b, .int .i64 i, .string s, .slice al l.length cl, .slice am m.length cm] 25)).alloc (.cells #[.int .i64 0, .bool false, .int .i64 0, .string ⟨#[]⟩, .slice none 0 0, .slice none 0 0] 25)) (.cells #[.int .i64 0, .bool false, .int .i64 0, .string ⟨#[]⟩, .slice none 0 0, .slice none 0 0] 25)
  rw [hz2] at h2
  have hz3 : w.heap.size + 2 < (((w.alloc (.cells #[.int .i64 k, .bool b, .int .i64 i, .string s, .slice al l.length cl, .slice am m.length cm] 25)).alloc (.cells #[.int .i64 0, .bool false, .int .i64 0, .string ⟨#[]⟩, .slice none 0 0, .slice none 0 0] 25)).alloc (.cells #[.int .i64 0, .bool false, .int .i64 0, .string ⟨#[]⟩, .slice none 0 0, .slice none 0 0] 25)).heap.size := by rw [alloc_size, hz2]; omega
  have r0 : (((w.alloc (.cells #[.int .i64 k, .bool b, .int .i64 i, .string s, .slice al l.length cl, .slice am m.length cm] 25)).alloc (.cells #[.int .i64 0, .bool false, .int .i64 0, .string ⟨#[]⟩, .slice none 0 0, .slice none 0 0] 25)).alloc (.cells #[.int .i64 0, .bool false, .int .i64 0, .string ⟨#[]⟩, .slice none 0 0, .slice none 0 0] 25)).cell? ⟨w.heap.size, 0, none⟩ = some (.int .i64 k) := by rw [cell_of_block h0]; rfl
  have r4 : (((w.alloc (.cells #[.int .i64 k, .bool b, .int .i64 i, .string s, .slice al l.length cl, .slice am m.length cm] 25)).alloc (.cells #[.int .i64 0, .bool false, .int .i64 0, .string ⟨#[]⟩, .slice none 0 0, .slice none 0 0] 25)).alloc (.cells #[.int .i64 0, .bool false, .int .i64 0, .string ⟨#[]⟩, .slice none 0 0, .slice none 0 0] 25)).cell? ⟨w.heap.size, 4, none⟩ = some (.slice al l.length cl) := by rw [cell_of_block h0]; rfl
  have r5 : (((w.alloc (.cells #[.int .i64 k, .bool b, .int .i64 i, .string s, .slice al l.length cl, .slice am m.length cm] 25)).alloc (.cells #[.int .i64 0, .bool false, .int .i64 0, .string ⟨#[]⟩, .slice none 0 0, .slice none 0 0] 25)).alloc (.cells #[.int .i64 0, .bool false, .int .i64 0, .string ⟨#[]⟩, .slice none 0 0, .slice none 0 0] 25)).cell? ⟨w.heap.size, 5, none⟩ = some (.slice am m.length cm) := by rw [cell_of_block h0]; rfl
  have z0 : (((w.alloc (.cells #[.int .i64 k, .bool b, .int .i64 i, .string s, .slice al l.length cl, .slice am m.length cm] 25)).alloc (.cells #[.int .i64 0, .bool false, .int .i64 0, .string ⟨#[]⟩, .slice none 0 0, .slice none 0 0] 25)).alloc (.cells #[.int .i64 0, .bool false, .int .i64 0, .string ⟨#[]⟩, .slice none 0 0, .slice none 0 0] 25)).cell? ⟨w.heap.size + 1, 0, none⟩ = some (.int .i64 0) := by rw [cell_of_block h1]; rfl
  have z1 : (((w.alloc (.cells #[.int .i64 k, .bool b, .int .i64 i, .string s, .slice al l.length cl, .slice am m.length cm] 25)).alloc (.cells #[.int .i64 0, .bool false, .int .i64 0, .string ⟨#[]⟩, .slice none 0 0, .slice none 0 0] 25)).alloc (.cells #[.int .i64 0, .bool false, .int .i64 0, .string ⟨#[]⟩, .slice none 0 0, .slice none 0 0] 25)).cell? ⟨w.heap.size + 1, 1, none⟩ = some (.bool false) := by rw [cell_of_block h1]; rfl
  have z2 : (((w.alloc (.cells #[.int .i64 k, .bool b, .int .i64 i, .string s, .slice al l.length cl, .slice am m.length cm] 25)).alloc (.cells #[.int .i64 0, .bool false, .int .i64 0, .string ⟨#[]⟩, .slice none 0 0, .slice none 0 0] 25)).alloc (.cells #[.int .i64 0, .bool false, .int .i64 0, .string ⟨#[]⟩, .slice none 0 0, .slice none 0 0] 25)).cell? ⟨w.heap.size + 1, 2, none⟩ = some (.int .i64 0) := by rw [cell_of_block h1]; rfl
  have z3 : (((w.alloc (.cells #[.int .i64 k, .bool b, .int .i64 i, .string s, .slice al l.length cl, .slice am m.length cm] 25)).alloc (.cells #[.int .i64 0, .bool false, .int .i64 0, .string ⟨#[]⟩, .slice none 0 0, .slice none 0 0] 25)).alloc (.cells #[.int .i64 0, .bool false, .int .i64 0, .string ⟨#[]⟩, .slice none 0 0, .slice none 0 0] 25)).cell? ⟨w.heap.size + 1, 3, none⟩ = some (.string ⟨#[]⟩) := by rw [cell_of_block h1]; rfl
  have z4 : (((w.alloc (.cells #[.int .i64 k, .bool b, .int .i64 i, .string s, .slice al l.length cl, .slice am m.length cm] 25)).alloc (.cells #[.int .i64 0, .bool false, .int .i64 0, .string ⟨#[]⟩, .slice none 0 0, .slice none 0 0] 25)).alloc (.cells #[.int .i64 0, .bool false, .int .i64 0, .string ⟨#[]⟩, .slice none 0 0, .slice none 0 0] 25)).cell? ⟨w.heap.size + 1, 4, none⟩ = some (.slice none 0 0) := by rw [cell_of_block h1]; rfl
  have z5 : (((w.alloc (.cells #[.int .i64 k, .bool b, .int .i64 i, .string s, .slice al l.length cl, .slice am m.length cm] 25)).alloc (.cells #[.int .i64 0, .bool false, .int .i64 0, .string ⟨#[]⟩, .slice none 0 0, .slice none 0 0] 25)).alloc (.cells #[.int .i64 0, .bool false, .int .i64 0, .string ⟨#[]⟩, .slice none 0 0, .slice none 0 0] 25)).cell? ⟨w.heap.size + 1, 5, none⟩ = some (.slice none 0 0) := by rw [cell_of_block h1]; rfl
  have x0 : (((w.alloc (.cells #[.int .i64 k, .bool b, .int .i64 i, .string s, .slice al l.length cl, .slice am m.length cm] 25)).alloc (.cells #[.int .i64 0, .bool false, .int .i64 0, .string ⟨#[]⟩, .slice none 0 0, .slice none 0 0] 25)).alloc (.cells #[.int .i64 0, .bool false, .int .i64 0, .string ⟨#[]⟩, .slice none 0 0, .slice none 0 0] 25)).cell? ⟨w.heap.size + 2, 0, none⟩ = some (.int .i64 0) := by rw [cell_of_block h2]; rfl
  have x1 : (((w.alloc (.cells #[.int .i64 k, .bool b, .int .i64 i, .string s, .slice al l.length cl, .slice am m.length cm] 25)).alloc (.cells #[.int .i64 0, .bool false, .int .i64 0, .string ⟨#[]⟩, .slice none 0 0, .slice none 0 0] 25)).alloc (.cells #[.int .i64 0, .bool false, .int .i64 0, .string ⟨#[]⟩, .slice none 0 0, .slice none 0 0] 25)).cell? ⟨w.heap.size + 2, 1, none⟩ = some (.bool false) := by rw [cell_of_block h2]; rfl
  have x2 : (((w.alloc (.cells #[.int .i64 k, .bool b, .int .i64 i, .string s, .slice al l.length cl, .slice am m.length cm] 25)).alloc (.cells #[.int .i64 0, .bool false, .int .i64 0, .string ⟨#[]⟩, .slice none 0 0, .slice none 0 0] 25)).alloc (.cells #[.int .i64 0, .bool false, .int .i64 0, .string ⟨#[]⟩, .slice none 0 0, .slice none 0 0] 25)).cell? ⟨w.heap.size + 2, 2, none⟩ = some (.int .i64 0) := by rw [cell_of_block h2]; rfl
  have x3 : (((w.alloc (.cells #[.int .i64 k, .bool b, .int .i64 i, .string s, .slice al l.length cl, .slice am m.length cm] 25)).alloc (.cells #[.int .i64 0, .bool false, .int .i64 0, .string ⟨#[]⟩, .slice none 0 0, .slice none 0 0] 25)).alloc (.cells #[.int .i64 0, .bool false, .int .i64 0, .string ⟨#[]⟩, .slice none 0 0, .slice none 0 0] 25)).cell? ⟨w.heap.size + 2, 3, none⟩ = some (.string ⟨#[]⟩) := by rw [cell_of_block h2]; rfl
  have x4 : (((w.alloc (.cells #[.int .i64 k, .bool b, .int .i64 i, .string s, .slice al l.length cl, .slice am m.length cm] 25)).alloc (.cells #[.int .i64 0, .bool false, .int .i64 0, .string ⟨#[]⟩, .slice none 0 0, .slice none 0 0] 25)).alloc (.cells #[.int .i64 0, .bool false, .int .i64 0, .string ⟨#[]⟩, .slice none 0 0, .slice none 0 0] 25)).cell? ⟨w.heap.size + 2, 4, none⟩ = some (.slice none 0 0) := by rw [cell_of_block h2]; rfl
  have x5 : (((w.alloc (.cells #[.int .i64 k, .bool b, .int .i64 i, .string s, .slice al l.length cl, .slice am m.length cm] 25)).alloc (.cells #[.int .i64 0, .bool false, .int .i64 0, .string ⟨#[]⟩, .slice none 0 0, .slice none 0 0] 25)).alloc (.cells #[.int .i64 0, .bool false, .int .i64 0, .string ⟨#[]⟩, .slice none 0 0, .slice none 0 0] 25)).cell? ⟨w.heap.size + 2, 5, none⟩ = some (.slice none 0 0) := by rw [cell_of_block h2]; rfl
  have rf : ∀ i', (((w.alloc (.cells #[.int .i64 k, .bool b, .int .i64 i, .string s, .slice al l.length cl, .slice am m.length cm] 25)).alloc (.cells #[.int .i64 0, .bool false, .int .i64 0, .string ⟨#[]⟩, .slice none 0 0, .slice none 0 0] 25)).alloc (.cells #[.int .i64 0, .bool false, .int .i64 0, .string ⟨#[]⟩, .slice none 0 0, .slice none 0 0] 25)).frozen? ⟨w.heap.size + 1, i', none⟩ = false := frozen_of_block h1
  have HF : Hid (stpF (.mk k b i s l m) t = if (ledF (.mk k b i s l m) t).2 = 0 then (kid (.mk k b i s l m) (ledF (.mk k b i s l m) t).1, (ledF (.mk k b i s l m) t).1, 0) else (nullV, 0, (ledF (.mk k b i s l m) t).2)) := rfl
  generalize stpF (.mk k b i s l m) t = RF at *
  clear b2 b3 hl hm hwt hsr
  by_cases hk5 : k = 5
  · subst hk5
    have CM := hmk (member_any m t S am cm bm om (((w.alloc (.cells #[.int .i64 5, .bool b, .int .i64 i, .string s, .slice al l.length cl, .slice am m.length cm] 25)).alloc (.cells #[.int .i64 0, .bool false, .int .i64 0, .string ⟨#[]⟩, .slice none 0 0, .slice none 0 0] 25)).alloc (.cells #[.int .i64 0, .bool false, .int .i64 0, .string ⟨#[]⟩, .slice none 0 0, .slice none 0 0] 25)) ham (liesM_keep (fun h => h) (fun x hx => B3.block x (hS x hx)) (fun _ h => h) _ HM.out) (fun x hx => Nat.lt_of_lt_of_le (hS x hx) B3.size) hsr' (by omega))
    have HQ : Hid (ledF (.mk 5 b i s l m) t = if keyIs t m[posF m t]? = true then (posF m t, 0) else (0, 41)) := rfl
    have hpk : keyIs t m[posF m t]? = true → posF m t < m.length := fun h => by
      rcases Nat.lt_or_ge (posF m t) m.length with h1 | h1
      · exact h1
      · rw [List.getElem?_eq_none h1] at h; simp [keyIs] at h
    generalize keyIs t m[posF m t]? = O at *
    generalize posF m t = p at *
    go_enter Tryz.func18, Tryz.ntmps18
    go_wp2_with fail
    clear r0 r4 r5 z0 z1 z2 z3 z4 z5 x0 x1 x2 x3 x4 x5 rf
    generalize (((w.alloc (.cells #[.int .i64 5, .bool b, .int .i64 i, .string s, .slice al l.length cl, .slice am m.length cm] 25)).alloc (.cells #[.int .i64 0, .bool false, .int .i64 0, .string ⟨#[]⟩, .slice none 0 0, .slice none 0 0] 25)).alloc (.cells #[.int .i64 0, .bool false, .int .i64 0, .string ⟨#[]⟩, .slice none 0 0, .slice none 0 0] 25)) = w3 at *
    refine CM.out.mono ?_
    rintro e w1 ⟨rfl, b1⟩
    have hz1 := b1.size
    have B1 := B3.trans (b1.mono (by omega))
    have t0 := (b1.block w.heap.size (by omega)).trans h0
    have t1 := (b1.block (w.heap.size + 1) (by omega)).trans h1
    have t2 := (b1.block (w.heap.size + 2) (by omega)).trans h2
    have r5 : w1.cell? ⟨w.heap.size, 5, none⟩ = some (.slice am m.length cm) := by rw [cell_of_block t0]; rfl
    have z0 : w1.cell? ⟨w.heap.size + 1, 0, none⟩ = some (.int .i64 0) := by rw [cell_of_block t1]; rfl
    have z1 : w1.cell? ⟨w.heap.size + 1, 1, none⟩ = some (.bool false) := by rw [cell_of_block t1]; rfl
    have z2 : w1.cell? ⟨w.heap.size + 1, 2, none⟩ = some (.int .i64 0) := by rw [cell_of_block t1]; rfl
    have z3 : w1.cell? ⟨w.heap.size + 1, 3, none⟩ = some (.string ⟨#[]⟩) := by rw [cell_of_block t1]; rfl
    have z4 : w1.cell? ⟨w.heap.size + 1, 4, none⟩ = some (.slice none 0 0) := by rw [cell_of_block t1]; rfl
    have z5 : w1.cell? ⟨w.heap.size + 1, 5, none⟩ = some (.slice none 0 0) := by rw [cell_of_block t1]; rfl
    have rf := frozen_of_block t1
    cases O with
    | true =>
      have hp := hpk (by first | trivial | rfl)
      have y1 : (p : Int) < m.length := by omega
      have HR : Hid (RF = ((m[p]).2, p, 0)) := by
        show _ = _
        rw [HF.out, HQ.out]
        simp only [if_true]
        have : kid (.mk 5 b i s l m) p = (m[p]).2 := by
          show (m.getD p (⟨#[]⟩, nullV)).2 = _
          rw [List.getD_eq_getElem?_getD, List.getElem?_eq_getElem hp]; rfl
        rw [this]
      obtain ⟨hSb, hks, csj, hrow, hlj⟩ := liesM_get HM.out p hp
      obtain rfl : am = some ⟨bm, om, none⟩ := ham.at_.resolve_left (by omega)
      have HJ := hmk hlj
      obtain ⟨ekey, hek⟩ : ∃ ekey, (m[p]).1 = ekey := ⟨_, rfl⟩
      rw [hek] at hrow
      generalize (m[p]).2 = X at *
      obtain ⟨ek, eb, ei, es, eal, enl, ecl, eam, enm, ecm, rfl⟩ := V.ten hlj
      obtain ⟨g, g0, g1, g2, g3, g4, g5⟩ := row7 (fun q u hu => (B1.cell (p := ⟨bm, _, none⟩) (hS _ hSb)).trans (hrow q u hu))
      clear hrow hlj hek hks CM HF HQ hpk
      go_wp2_with fail
      (try simp only [Exit.inBlock, Exit.then])
      refine bodyPost_ret (v := .tuple #[.agg #[.int .i64 ek, .bool eb, .int .i64 ei, .string es, .slice eal enl ecl, .slice eam enm ecm], .int .i64 (p : Int), .int .i64 0]) ?_ rfl ?_
      rotate_left
      · rw [HR.out]
        exact ⟨[.int .i64 ek, .bool eb, .int .i64 ei, .string es, .slice eal enl ecl, .slice eam enm ecm], rfl, lies_below HJ.out hS (Below.set6 B1 (by omega) _ _ _ _ _ _ _ _ _ _ _ _), Below.set6 B1 (by omega) _ _ _ _ _ _ _ _ _ _ _ _⟩
      · rw [results_cell_tmp2 rfl]
        go_simp
    | false =>
      have HR : Hid (RF = (nullV, 0, 41)) := by
        show _ = _
        rw [HF.out, HQ.out]
        rfl
      have x0 : w1.cell? ⟨w.heap.size + 2, 0, none⟩ = some (.int .i64 0) := by rw [cell_of_block t2]; rfl
      have x1 : w1.cell? ⟨w.heap.size + 2, 1, none⟩ = some (.bool false) := by rw [cell_of_block t2]; rfl
      have x2 : w1.cell? ⟨w.heap.size + 2, 2, none⟩ = some (.int .i64 0) := by rw [cell_of_block t2]; rfl
      have x3 : w1.cell? ⟨w.heap.size + 2, 3, none⟩ = some (.string ⟨#[]⟩) := by rw [cell_of_block t2]; rfl
      have x4 : w1.cell? ⟨w.heap.size + 2, 4, none⟩ = some (.slice none 0 0) := by rw [cell_of_block t2]; rfl
      have x5 : w1.cell? ⟨w.heap.size + 2, 5, none⟩ = some (.slice none 0 0) := by rw [cell_of_block t2]; rfl
      clear CM HF HQ hpk
      go_wp2_with fail
      (try simp only [Exit.inBlock, Exit.then])
      refine bodyPost_ret (v := .tuple #[.agg #[.int .i64 0, .bool false, .int .i64 0, .string ⟨#[]⟩, .slice none 0 0, .slice none 0 0], .int .i64 0, .int .i64 41]) ?_ rfl ?_
      rotate_left
      · rw [HR.out]
        exact ⟨[.int .i64 0, .bool false, .int .i64 0, .string ⟨#[]⟩, .slice none 0 0, .slice none 0 0], rfl, null_lies _ _, Below.set6 B1 (by omega) _ _ _ _ _ _ _ _ _ _ _ _⟩
      · rw [results_cell_tmp2 rfl]
        go_simp
  · by_cases hk4 : k = 4
    · subst hk4
      have CI := hmk (rindex_any t l.length (by omega) (((w.alloc (.cells #[.int .i64 4, .bool b, .int .i64 i, .string s, .slice al l.length cl, .slice am m.length cm] 25)).alloc (.cells #[.int .i64 0, .bool false, .int .i64 0, .string ⟨#[]⟩, .slice none 0 0, .slice none 0 0] 25)).alloc (.cells #[.int .i64 0, .bool false, .int .i64 0, .string ⟨#[]⟩, .slice none 0 0, .slice none 0 0] 25)))
      have HQ : Hid (ledF (.mk 4 b i s l m) t = ((idxF t.data.toList l.length).getD 0, if (idxF t.data.toList l.length).isSome = true then 0 else 42)) := rfl
      have hpk : ∀ p, idxF t.data.toList l.length = some p → p < l.length := fun p h => idxF_lt h
      generalize idxF t.data.toList l.length = O at *
      go_enter Tryz.func18, Tryz.ntmps18
      go_wp2_with fail
      clear r0 r4 r5 z0 z1 z2 z3 z4 z5 x0 x1 x2 x3 x4 x5 rf
      generalize (((w.alloc (.cells #[.int .i64 4, .bool b, .int .i64 i, .string s, .slice al l.length cl, .slice am m.length cm] 25)).alloc (.cells #[.int .i64 0, .bool false, .int .i64 0, .string ⟨#[]⟩, .slice none 0 0, .slice none 0 0] 25)).alloc (.cells #[.int .i64 0, .bool false, .int .i64 0, .string ⟨#[]⟩, .slice none 0 0, .slice none 0 0] 25)) = w3 at *
      refine CI.out.mono ?_
      rintro e w1 ⟨rfl, b1⟩
      have hz1 := b1.size
      have B1 := B3.trans (b1.mono (by omega))
      have t0 := (b1.block w.heap.size (by omega)).trans h0
      have t1 := (b1.block (w.heap.size + 1) (by omega)).trans h1
      have t2 := (b1.block (w.heap.size + 2) (by omega)).trans h2
      have r4 : w1.cell? ⟨w.heap.size, 4, none⟩ = some (.slice al l.length cl) := by rw [cell_of_block t0]; rfl
      have z0 : w1.cell? ⟨w.heap.size + 1, 0, none⟩ = some (.int .i64 0) := by rw [cell_of_block t1]; rfl
      have z1 : w1.cell? ⟨w.heap.size + 1, 1, none⟩ = some (.bool false) := by rw [cell_of_block t1]; rfl
      have z2 : w1.cell? ⟨w.heap.size + 1, 2, none⟩ = some (.int .i64 0) := by rw [cell_of_block t1]; rfl
      have z3 : w1.cell? ⟨w.heap.size + 1, 3, none⟩ = some (.string ⟨#[]⟩) := by rw [cell_of_block t1]; rfl
      have z4 : w1.cell? ⟨w.heap.size + 1, 4, none⟩ = some (.slice none 0 0) := by rw [cell_of_block t1]; rfl
      have z5 : w1.cell? ⟨w.heap.size + 1, 5, none⟩ = some (.slice none 0 0) := by rw [cell_of_block t1]; rfl
      have rf := frozen_of_block t1
      cases O with
      | some p =>
        have hp := hpk p rfl
        have y1 : (p : Int) < l.length := by omega
        have y0 : ¬ (p : Int) < 0 := by omega
        have HR : Hid (RF = (l[p], p, 0)) := by
          show _ = _
          rw [HF.out, HQ.out]
          simp only [Option.isSome_some, if_true, Option.getD_some]
          have : kid (.mk 4 b i s l m) p = l[p] := by
            show (l.getD p nullV) = _
            rw [List.getD_eq_getElem?_getD, List.getElem?_eq_getElem hp]; rfl
          rw [this]
        obtain ⟨hSb, csj, hrow, hlj⟩ := liesL_get HL.out p hp
        obtain rfl : al = some ⟨bl, ol, none⟩ := hal.at_.resolve_left (by omega)
        have HJ := hmk hlj
        generalize l[p] = X at *
        obtain ⟨ek, eb, ei, es, eal, enl, ecl, eam, enm, ecm, rfl⟩ := V.ten hlj
        obtain ⟨g0, g1, g2, g3, g4, g5⟩ := row6 (fun q u hu => (B1.cell (p := ⟨bl, _, none⟩) (hS _ hSb)).trans (hrow q u hu))
        clear hrow hlj CI HF HQ hpk
        simp only [ixI]
        go_wp2_with fail
        (try simp only [Exit.inBlock, Exit.then])
        refine bodyPost_ret (v := .tuple #[.agg #[.int .i64 ek, .bool eb, .int .i64 ei, .string es, .slice eal enl ecl, .slice eam enm ecm], .int .i64 (p : Int), .int .i64 0]) ?_ rfl ?_
        rotate_left
        · rw [HR.out]
          exact ⟨[.int .i64 ek, .bool eb, .int .i64 ei, .string es, .slice eal enl ecl, .slice eam enm ecm], rfl, lies_below HJ.out hS (Below.set6 B1 (by omega) _ _ _ _ _ _ _ _ _ _ _ _), Below.set6 B1 (by omega) _ _ _ _ _ _ _ _ _ _ _ _⟩
        · rw [results_cell_tmp2 rfl]
          go_simp
      | none =>
        have HR : Hid (RF = (nullV, 0, 42)) := by
          show _ = _
          rw [HF.out, HQ.out]
          rfl
        have x0 : w1.cell? ⟨w.heap.size + 2, 0, none⟩ = some (.int .i64 0) := by rw [cell_of_block t2]; rfl
        have x1 : w1.cell? ⟨w.heap.size + 2, 1, none⟩ = some (.bool false) := by rw [cell_of_block t2]; rfl
        have x2 : w1.cell? ⟨w.heap.size + 2, 2, none⟩ = some (.int .i64 0) := by rw [cell_of_block t2]; rfl
        have x3 : w1.cell? ⟨w.heap.size + 2, 3, none⟩ = some (.string ⟨#[]⟩) := by rw [cell_of_block t2]; rfl
        have x4 : w1.cell? ⟨w.heap.size + 2, 4, none⟩ = some (.slice none 0 0) := by rw [cell_of_block t2]; rfl
        have x5 : w1.cell? ⟨w.heap.size + 2, 5, none⟩ = some (.slice none 0 0) := by rw [cell_of_block t2]; rfl
        clear CI HF HQ hpk
        simp only [ixI]
        go_wp2_with fail
        (try simp only [Exit.inBlock, Exit.then])
        refine bodyPost_ret (v := .tuple #[.agg #[.int .i64 0, .bool false, .int .i64 0, .string ⟨#[]⟩, .slice none 0 0, .slice none 0 0], .int .i64 0, .int .i64 42]) ?_ rfl ?_
        rotate_left
        · rw [HR.out]
          exact ⟨[.int .i64 0, .bool false, .int .i64 0, .string ⟨#[]⟩, .slice none 0 0, .slice none 0 0], rfl, null_lies _ _, Below.set6 B1 (by omega) _ _ _ _ _ _ _ _ _ _ _ _⟩
        · rw [results_cell_tmp2 rfl]
          go_simp
    · have HR : Hid (RF = (nullV, 0, 41)) := by
        show _ = _
        have : ledF (.mk k b i s l m) t = (0, 41) := by
          unfold ledF
          show (if k = 5 then _ else if k = 4 then _ else _) = _
          rw [if_neg hk5, if_neg hk4]
        rw [HF.out, this]
        rfl
      have y5 : (k == 5) = false := by rw [beq_eq_false_iff_ne]; exact hk5
      have y4 : (k != 4) = true := by rw [bne_iff_ne]; exact hk4
      clear HF
      go_enter Tryz.func18, Tryz.ntmps18
      go_wp2_with fail
      (try simp only [Exit.inBlock, Exit.then])
      refine bodyPost_ret (v := .tuple #[.agg #[.int .i64 0, .bool false, .int .i64 0, .string ⟨#[]⟩, .slice none 0 0, .slice none 0 0], .int .i64 0, .int .i64 41]) ?_ rfl ?_
      rotate_left
      · rw [HR.out]
        exact ⟨[.int .i64 0, .bool false, .int .i64 0, .string ⟨#[]⟩, .slice none 0 0, .slice none 0 0], rfl, null_lies _ _, B3⟩
      · rw [results_cell_tmp2 rfl]
        go_simp
end Go.Proofs.YtejcfkkkbnnmcaaGreatDoor

/- pointer.leading. -/
set_option linter.unusedSimpArgs false
set_option linter.unusedVariables false
namespace Go.Proofs.YtejcfkkkbnnmcaaGreatDoor
open Go.RowKit Go.Lib

theorem grownBy_none {w w' : World} (hb : Below w.heap.size w w') : w.grownBy w' none := ⟨hb.os, hb.tape, hb.output, hb.size, fun k hk _ => hb.block k hk⟩
theorem OwnS.below {B : Nat} {v : Value} {l : List ByteArray} {w w' : World} (h : OwnS B v l w) (hb : Below w.heap.size w w') : OwnS B v l w' :=
  World.ownsRow.kept h (grownBy_none hb) (by cases v.ownBlock <;> simp)
theorem itoa_dig (j : Nat) : (⟨(itoa (j : Int)).toArray⟩ : ByteArray) = digB j := by
  rw [digB, itoa, if_neg (by omega), Int.toNat_natCast]
/-- a list of strings of the call's own -/
def LgPost (l : List ByteArray) (w : World) (e : Ending) (w' : World) : Prop := ∃ (B : Nat) (tv : Value), w.heap.size ≤ B ∧ e = .returned tv ∧ OwnS B tv l w' ∧ Below w.heap.size w w'
set_option maxHeartbeats 1600000 in
set_option maxRecDepth 100000 in
theorem leading_any (v : V) (S : Nat → Prop) (cs : List Value) (w : World) (tg : Tg w) (hv : v.lies false w S cs) (hS : ∀ b, S b → b < w.heap.size) (hwt : v.wt ≤ 1114112) : Calls Tryz.prog 20 #[.agg cs.toArray] w (LgPost (ldgF v) w) := by
  obtain ⟨k, b, i, s, l, m⟩ := v
  rw [V.lies] at hv
  obtain ⟨al, cl, bl, ol, am, cm, bm, om, rfl, _, _, _, hal, ham, hl, hm, _⟩ := hv
  have HM := hmk hm
  have hml : m.length ≤ 1114112 := by have := wtM_len m; simp only [V.wt] at hwt; omega
  have hll : l.length ≤ 1114112 := by have := wtL_len l; simp only [V.wt] at hwt; omega
  have B0 : Below w.heap.size w (w.alloc (.cells #[.int .i64 k, .bool b, .int .i64 i, .string s, .slice al l.length cl, .slice am m.length cm] 25)) := one_belowG w _
  have hz0 : w.heap.size < (w.alloc (.cells #[.int .i64 k, .bool b, .int .i64 i, .string s, .slice al l.length cl, .slice am m.length cm] 25)).heap.size := by rw [alloc_size]; omega
  have h0 := heap_alloc_new w (.cells #[.int .i64 k, .bool b, .int .i64 i, .string s, .slice al l.length cl, .slice am m.length cm] 25)
  have HT : Hid (∀ W, Below w.heap.size w W → Tg W) := fun W hb => tg.below hb tg.z
  have HF : Hid (ldgF (.mk k b i s l m) = digs l.length ++ keysB m) := rfl
  have r4 : (w.alloc (.cells #[.int .i64 k, .bool b, .int .i64 i, .string s, .slice al l.length cl, .slice am m.length cm] 25)).cell? ⟨w.heap.size, 4, none⟩ = some (.slice al l.length cl) := by rw [cell_of_block h0]; rfl
  clear hwt hl hm tg
  generalize ldgF (.mk k b i s l m) = LF at *
  go_enter Tryz.func20, Tryz.ntmps20
  go_wp2_with fail
  clear r4
  generalize (w.alloc (.cells #[.int .i64 k, .bool b, .int .i64 i, .string s, .slice al l.length cl, .slice am m.length cm] 25)) = w0 at *
  go_loopw [3, 10] (fun e3 e10 wr => ∃ (j : Nat) (bv : Value), bv = e3 ∧ e10 = .int .i64 (j : Int) ∧ j ≤ l.length ∧ OwnS w0.heap.size bv (digs j) wr ∧ Below w0.heap.size w0 wr) (fun _ e _ => l.length - (RowKit.intOf e).toNat)
  case atStart => exact ⟨0, _, rfl, rfl, by omega, World.ownsRow_nil _ _ 9 1, Below.refl _ _⟩
  case round =>
    obtain ⟨j, bv, rfl, rfl, hj, own, bj⟩ := hrel
    have hzr := bj.size
    by_cases hjl : j < l.length
    · have y1 : (j : Int) < l.length := by omega
      have CI := hmk (itoa_any (j : Int) (by omega) wr (HT.out wr (B0.trans (bj.mono (by omega)))))
      rw [itoa_dig] at CI
      have HS : Hid (digs (j + 1) = digs j ++ [digB j]) := digs_succ j
      have hdl := digs_len j
      generalize digB j = t at *
      generalize digs j = dj at *
      go_wp2_with fail
      refine CI.out.mono ?_
      rintro e w1 ⟨rfl, b1⟩
      have hz1 := b1.size
      have own1 := own.below b1
      go_wp2_with (at_builtin; go_loud (refine wpl_appS _ rfl (.tmp 13) (.tmp 16) rfl w0.heap.size _ _ rfl (own1.alloc _) w1.heap.size t rfl (alloc_last w1 _) (by omega) (by rw [alloc_size]; omega) ?_))
      intro v2 w2 o2 b2
      have B2 := ((bj.trans (b1.mono hzr)).alloc (by omega) _).trans b2
      go_wp2_with fail
      go_roundw
      case rel => exact ⟨j + 1, v2, rfl, by go_num, by omega, by rw [HS.out]; exact o2, B2⟩
      case measure => simp [RowKit.intOf]; omega
    · obtain rfl : j = l.length := by omega
      have y1 : ¬ (l.length : Int) < l.length := by omega
      have t0 := (bj.block w.heap.size (by omega)).trans h0
      have r5 : wr.cell? ⟨w.heap.size, 5, none⟩ = some (.slice am m.length cm) := by rw [cell_of_block t0]; rfl
      go_wp2_with fail
      clear r5 t0
      have Bz : Below w.heap.size w wr := B0.trans (bj.mono (by omega))
      have hdl := digs_len l.length
      generalize digs l.length = dl at *
      rename World => wA
      go_loopw [3, 22] (fun e3 e22 wr => ∃ (j : Nat) (bv : Value), bv = e3 ∧ e22 = .int .i64 (j : Int) ∧ j ≤ m.length ∧ OwnS w0.heap.size bv (dl ++ keysB (m.take j)) wr ∧ Below w0.heap.size w0 wr) (fun _ e _ => m.length - (RowKit.intOf e).toNat)
      case atStart => exact ⟨0, _, rfl, rfl, by omega, by simpa [keysB] using own, bj⟩
      case round =>
        clear own bj Bz
        obtain ⟨j, bv, rfl, rfl, hj, own, bj⟩ := hrel
        have hzr := bj.size
        have Bz : Below w.heap.size w wr := B0.trans (bj.mono (by omega))
        by_cases hjl : j < m.length
        · have y1 : (j : Int) < m.length := by omega
          obtain ⟨hSb, hks, csj, hrow, hlj⟩ := liesM_get HM.out j hjl
          obtain rfl : am = some ⟨bm, om, none⟩ := ham.at_.resolve_left (by omega)
          obtain ⟨ek, eb, ei, es, eal, enl, ecl, eam, enm, ecm, rfl⟩ := V.ten hlj
          obtain ⟨x, q0, q1, q2, q3, q4, q5⟩ := row7 (fun q u hu => (Bz.cell (p := ⟨bm, _, none⟩) (hS _ hSb)).trans (hrow q u hu))
          have HS : Hid (keysB (m.take (j + 1)) = keysB (m.take j) ++ [(m[j]).1]) := keys_succ m j hjl
          have hkl : (dl ++ keysB (m.take j)).length = l.length + j := by rw [List.length_append, hdl, keys_len, List.length_take]; omega
          generalize (m[j]).1 = key at *
          generalize keysB (m.take j) = kj at *
          clear hlj hrow hks
          go_wp2_with (at_builtin; go_loud (refine wpl_appS _ rfl (.tmp 26) (.tmp 29) rfl w0.heap.size _ _ rfl ((own.alloc _).alloc _) (wr.heap.size + 1) key rfl (alloc2_new wr _ _) (by omega) (by rw [alloc_size, alloc_size]; omega) ?_))
          intro v2 w2 o2 b2
          have B2 := ((bj.alloc hzr _).alloc (by rw [alloc_size]; omega) _).trans b2
          go_wp2_with fail
          go_roundw
          case rel => exact ⟨j + 1, v2, rfl, by go_num, by omega, by rw [HS.out]; exact o2, B2⟩
          case measure => simp [RowKit.intOf]; omega
        · obtain rfl : j = m.length := by omega
          have y1 : ¬ (m.length : Int) < m.length := by omega
          have HO : Hid (OwnS w0.heap.size bv LF wr) := by show OwnS _ _ _ _; rw [HF.out]; simpa [List.take_length] using own
          clear own
          go_wp2_with fail
          go_ret
          exact ⟨w0.heap.size, bv, by omega, rfl, HO.out, Bz⟩
end Go.Proofs.YtejcfkkkbnnmcaaGreatDoor

/- freeholdref04.asked. -/
set_option linter.unusedSimpArgs false
set_option linter.unusedVariables false
namespace Go.Proofs.YtejcfkkkbnnmcaaGreatDoor
open Go.RowKit Go.Lib

def AkPost (rd : Int) (o : Option (List (List UInt8))) (w : World) (e : Ending) (w' : World) : Prop := ∃ (B : Nat) (tv : Value) (l : List ByteArray), w.heap.size ≤ B ∧ e = .returned (.tuple #[tv, .int .i64 rd]) ∧ (rd = 0 → dat l = o.getD []) ∧ OwnS B tv l w' ∧ Below w.heap.size w w'
set_option maxHeartbeats 1600000 in
set_option maxRecDepth 100000 in
theorem asked_any (v : V) (p : ByteArray) (S : Nat → Prop) (cs : List Value) (w : World) (hv : v.lies false w S cs) (hS : ∀ b, S b → b < w.heap.size) (hwt : v.wt ≤ 1099511627776) (hp : p.size ≤ 1100000) : Calls Tryz.prog 17 #[.agg cs.toArray, .string p] w (AkPost (rdF v p) (parF p.data.toList) w) := by
  have HV := hmk hv
  obtain ⟨k, b, i, s, al, nl, cl, am, nm, cm, rfl⟩ := V.ten hv
  clear hv
  have B0 : Below w.heap.size w (w.alloc (.cells #[.int .i64 k, .bool b, .int .i64 i, .string s, .slice al nl cl, .slice am nm cm] 25)) := one_belowG w _
  have hz0 : w.heap.size < (w.alloc (.cells #[.int .i64 k, .bool b, .int .i64 i, .string s, .slice al nl cl, .slice am nm cm] 25)).heap.size := by rw [alloc_size]; omega
  have h0 : (w.alloc (.cells #[.int .i64 k, .bool b, .int .i64 i, .string s, .slice al nl cl, .slice am nm cm] 25)).heap[w.heap.size]? = _ := heap_alloc_new w _
  have HC := hmk (rcheck_any false v 40 S _ (w.alloc (.cells #[.int .i64 k, .bool b, .int .i64 i, .string s, .slice al nl cl, .slice am nm cm] 25)) (lies_below HV.out hS B0) (fun x hx => Nat.lt_of_lt_of_le (hS x hx) B0.size) hwt)
  have HP : Hid (∀ W, Calls Tryz.prog 30 #[.string p] W (PaOwn (parF p.data.toList) W)) := fun W => rparse_own p W hp
  have HR : Hid (rdF v p = if chkE v 40 = 0 then (if (parF p.data.toList).isSome then 0 else 40) else (chkE v 40 : Int)) := by show _ = _; rfl
  generalize rdF v p = rd at *
  generalize chkE v 40 = ce at *
  generalize parF p.data.toList = O at *
  clear hwt
  have r0 : (w.alloc (.cells #[.int .i64 k, .bool b, .int .i64 i, .string s, .slice al nl cl, .slice am nm cm] 25)).cell? ⟨w.heap.size, 0, none⟩ = some (.int .i64 k) := by rw [cell_of_block h0]; rfl
  have r1 : (w.alloc (.cells #[.int .i64 k, .bool b, .int .i64 i, .string s, .slice al nl cl, .slice am nm cm] 25)).cell? ⟨w.heap.size, 1, none⟩ = some (.bool b) := by rw [cell_of_block h0]; rfl
  have r2 : (w.alloc (.cells #[.int .i64 k, .bool b, .int .i64 i, .string s, .slice al nl cl, .slice am nm cm] 25)).cell? ⟨w.heap.size, 2, none⟩ = some (.int .i64 i) := by rw [cell_of_block h0]; rfl
  have r3 : (w.alloc (.cells #[.int .i64 k, .bool b, .int .i64 i, .string s, .slice al nl cl, .slice am nm cm] 25)).cell? ⟨w.heap.size, 3, none⟩ = some (.string s) := by rw [cell_of_block h0]; rfl
  have r4 : (w.alloc (.cells #[.int .i64 k, .bool b, .int .i64 i, .string s, .slice al nl cl, .slice am nm cm] 25)).cell? ⟨w.heap.size, 4, none⟩ = some (.slice al nl cl) := by rw [cell_of_block h0]; rfl
  have r5 : (w.alloc (.cells #[.int .i64 k, .bool b, .int .i64 i, .string s, .slice al nl cl, .slice am nm cm] 25)).cell? ⟨w.heap.size, 5, none⟩ = some (.slice am nm cm) := by rw [cell_of_block h0]; rfl
  go_enter Tryz.func17, Tryz.ntmps17
  go_wp2_with fail
  clear r0 r1 r2 r3 r4 r5
  generalize (w.alloc (.cells #[.int .i64 k, .bool b, .int .i64 i, .string s, .slice al nl cl, .slice am nm cm] 25)) = w0 at *
  refine HC.out.mono ?_
  rintro e w1 ⟨rfl, b1⟩
  have hz1 := b1.size
  have B1 := B0.trans (b1.mono (by omega))
  by_cases hce : ce = 0
  · subst hce
    go_wp2_with fail
    refine (HP.out w1).mono ?_
    rintro e w2 ⟨tv, l, rfl, hd, hl, b2⟩
    have hz2 := b2.size
    have B2 := B1.trans (b2.mono (by omega))
    cases O with
    | none =>
      have HN : Hid (rd = 40) := by show _ = _; rw [HR.out]; simp
      go_wp2_with fail
      go_ret2
      exact ⟨w1.heap.size, tv, l, by omega, by rw [HN.out]; rfl, (fun h => by rw [HN.out] at h; omega), hl, B2⟩
    | some o =>
      have HN : Hid (rd = 0) := by show _ = _; rw [HR.out]; simp
      go_wp2_with fail
      go_ret2
      exact ⟨w1.heap.size, tv, l, by omega, by rw [HN.out]; rfl, (fun _ => hd), hl, B2⟩
  · have HN : Hid (rd = (ce : Int)) := by show _ = _; rw [HR.out, if_neg hce]
    have y1 : ¬ (ce : Int) = 0 := by omega
    go_wp2_with fail
    go_ret2
    exact ⟨w.heap.size, _, [], by omega, by rw [HN.out]; rfl, (fun h => by rw [HN.out] at h; omega), World.ownsRow_nil _ _ 9 1, B1⟩
end Go.Proofs.YtejcfkkkbnnmcaaGreatDoor

/- the function that Kids hands to the walk. -/
set_option linter.unusedSimpArgs false
set_option linter.unusedVariables false
namespace Go.Proofs.YtejcfkkkbnnmcaaGreatDoor
open Go.RowKit Go.Lib

theorem OwnS.move {B : Nat} {v : Value} {l : List ByteArray} {w w' : World} (h : OwnS B v l w) (hk : ∀ b, B ≤ b → b < w.heap.size → w'.heap[b]? = w.heap[b]?) : OwnS B v l w' := by
  refine ⟨h.1, ?_⟩
  rcases h.2 with hn | ⟨g, cap, cur, rfl, hb, hgg, rest⟩
  · exact .inl hn
  · exact .inr ⟨g, cap, cur, rfl, hb, (hk g hb (Array.getElem?_eq_some_iff.1 hgg).1).trans hgg, rest⟩
theorem OwnS.slice {B : Nat} {v : Value} {l : List ByteArray} {w : World} (h : OwnS B v l w) : ∃ a n c, v = .slice a n c := by
  rcases h.2 with ⟨rfl, _⟩ | ⟨g, cap, cur, rfl, _⟩
  · exact ⟨_, _, _, rfl⟩
  · exact ⟨_, _, _, rfl⟩
/-- what Kids's function leaves: the tokens, in new memory -/
def Kot (G : Nat) (x : V) (W0 W1 : World) : Prop := ∃ (B : Nat) (tv : Value), W0.heap.size ≤ B ∧ W1.cell? ⟨G, 0, none⟩ = some tv ∧ OwnS B tv (ldgF x) W1
theorem kid_end {S : Nat → Prop} {W W2 : World} {G B : Nat} {x : V} {tv c0 c1 c2 c3 c4 c5 : Value} (hS : ∀ b, S b → b < W.heap.size) (hSG : ¬ S G) (hG : G < W.heap.size) (B2 : Below W.heap.size W W2) (hM : W.heap.size + 2 ≤ B) (hz : W.heap.size + 2 ≤ W2.heap.size) (hb : W2.heap[G]? = some (.cells #[.slice none 0 0] 32)) (own : OwnS B tv (ldgF x) W2) (hx : x.lies false W S [c0, c1, c2, c3, c4, c5]) :
    x.lies false (((((((W2.setCell ⟨G, 0, none⟩ tv).setCell ⟨W.heap.size + 1, 0, none⟩ c0).setCell ⟨W.heap.size + 1, 1, none⟩ c1).setCell ⟨W.heap.size + 1, 2, none⟩ c2).setCell ⟨W.heap.size + 1, 3, none⟩ c3).setCell ⟨W.heap.size + 1, 4, none⟩ c4).setCell ⟨W.heap.size + 1, 5, none⟩ c5) (OrNew S W (((((((W2.setCell ⟨G, 0, none⟩ tv).setCell ⟨W.heap.size + 1, 0, none⟩ c0).setCell ⟨W.heap.size + 1, 1, none⟩ c1).setCell ⟨W.heap.size + 1, 2, none⟩ c2).setCell ⟨W.heap.size + 1, 3, none⟩ c3).setCell ⟨W.heap.size + 1, 4, none⟩ c4).setCell ⟨W.heap.size + 1, 5, none⟩ c5)) [c0, c1, c2, c3, c4, c5] ∧ W.grownBy (((((((W2.setCell ⟨G, 0, none⟩ tv).setCell ⟨W.heap.size + 1, 0, none⟩ c0).setCell ⟨W.heap.size + 1, 1, none⟩ c1).setCell ⟨W.heap.size + 1, 2, none⟩ c2).setCell ⟨W.heap.size + 1, 3, none⟩ c3).setCell ⟨W.heap.size + 1, 4, none⟩ c4).setCell ⟨W.heap.size + 1, 5, none⟩ c5) (some G) ∧ Kot G x W (((((((W2.setCell ⟨G, 0, none⟩ tv).setCell ⟨W.heap.size + 1, 0, none⟩ c0).setCell ⟨W.heap.size + 1, 1, none⟩ c1).setCell ⟨W.heap.size + 1, 2, none⟩ c2).setCell ⟨W.heap.size + 1, 3, none⟩ c3).setCell ⟨W.heap.size + 1, 4, none⟩ c4).setCell ⟨W.heap.size + 1, 5, none⟩ c5) := by
  have hG3 : (W2.setCell ⟨G, 0, none⟩ tv).heap[G]? = some (.cells #[tv] 32) := by rw [set_block hb]; rfl
  have g1 : W2.grownBy (W2.setCell ⟨G, 0, none⟩ tv) (some G) := grown_set (World.grownBy.refl W2 _) 0 tv
  have hot1 : ∀ y, y ≠ G → (W2.setCell ⟨G, 0, none⟩ tv).heap[y]? = W2.heap[y]? := fun y hy => by rw [set_other hy]
  have s1 := g1.size
  have s1' : (W2.setCell ⟨G, 0, none⟩ tv).heap.size = W2.heap.size := by simp only [size_set1]
  generalize (W2.setCell ⟨G, 0, none⟩ tv) = W3 at *
  have hot : ∀ y, y ≠ W.heap.size + 1 → ((((((W3.setCell ⟨W.heap.size + 1, 0, none⟩ c0).setCell ⟨W.heap.size + 1, 1, none⟩ c1).setCell ⟨W.heap.size + 1, 2, none⟩ c2).setCell ⟨W.heap.size + 1, 3, none⟩ c3).setCell ⟨W.heap.size + 1, 4, none⟩ c4).setCell ⟨W.heap.size + 1, 5, none⟩ c5).heap[y]? = W3.heap[y]? := fun y hy => by
    repeat (rw [set_other hy])
  have g2 : W3.grownBy ((((((W3.setCell ⟨W.heap.size + 1, 0, none⟩ c0).setCell ⟨W.heap.size + 1, 1, none⟩ c1).setCell ⟨W.heap.size + 1, 2, none⟩ c2).setCell ⟨W.heap.size + 1, 3, none⟩ c3).setCell ⟨W.heap.size + 1, 4, none⟩ c4).setCell ⟨W.heap.size + 1, 5, none⟩ c5) (some (W.heap.size + 1)) := grown_set (grown_set (grown_set (grown_set (grown_set (grown_set (World.grownBy.refl W3 _) 0 c0) 1 c1) 2 c2) 3 c3) 4 c4) 5 c5
  have s2 := g2.size
  generalize ((((((W3.setCell ⟨W.heap.size + 1, 0, none⟩ c0).setCell ⟨W.heap.size + 1, 1, none⟩ c1).setCell ⟨W.heap.size + 1, 2, none⟩ c2).setCell ⟨W.heap.size + 1, 3, none⟩ c3).setCell ⟨W.heap.size + 1, 4, none⟩ c4).setCell ⟨W.heap.size + 1, 5, none⟩ c5) = wf at *
  have key : ∀ b, b < W.heap.size → b ≠ G → wf.heap[b]? = W.heap[b]? := fun b h1 h2 => (hot b (by omega)).trans ((hot1 b h2).trans (B2.block b h1))
  have hl : x.lies false wf S [c0, c1, c2, c3, c4, c5] := V.lies_keep (fun h => h) (fun b hb => key b (hS b hb) (fun e => hSG (e ▸ hb))) (fun _ h => h) _ hx
  refine ⟨V.lies_keep (fun h => h) (fun _ _ => rfl) (fun b hb => .inl hb) _ hl, ⟨g2.os.trans (g1.os.trans B2.os), g2.tape.trans (g1.tape.trans B2.tape), g2.output.trans (g1.output.trans B2.output), by omega, fun k hk hne => key k hk (fun e => hne (by rw [e]))⟩, B, tv, by omega, ?_, ?_⟩
  · rw [cell_of_block ((hot G (by omega)).trans hG3)]; rfl
  · exact own.move fun b h1 h2 => (hot b (by omega)).trans (hot1 b (by omega))
set_option maxHeartbeats 1600000 in
set_option maxRecDepth 100000 in
theorem kidsdo (S : Nat → Prop) (G : Nat) (w : World) (tg : Tg w) (hS : ∀ b, S b → b < w.heap.size) (hSG : ¬ S G) (hG : G < w.heap.size) (hbox : w.heap[G]? = some (.cells #[.slice none 0 0] 32)) : DoC 19 (.pointer (some ⟨G, 0, none⟩)) (fun x => (x, 0)) S G (Kot G) w := by
  intro W x cs hb hwx hx
  have HV := hmk hx
  have hGW : W.heap[G]? = _ := (hb.block G hG).trans hbox
  have hzW := hb.size
  obtain ⟨k, b, i, s, al, nl, cl, am, nm, cm, rfl⟩ := V.ten hx
  clear hx
  have hSW : ∀ y, S y → y < W.heap.size := fun y hy => Nat.lt_of_lt_of_le (hS y hy) hzW
  have B0 : Below W.heap.size W ((W.alloc (.cells #[.int .i64 k, .bool b, .int .i64 i, .string s, .slice al nl cl, .slice am nm cm] 25)).alloc (.cells #[.int .i64 0, .bool false, .int .i64 0, .string ⟨#[]⟩, .slice none 0 0, .slice none 0 0] 25)) := two_below W _ _
  have hz0 : ((W.alloc (.cells #[.int .i64 k, .bool b, .int .i64 i, .string s, .slice al nl cl, .slice am nm cm] 25)).alloc (.cells #[.int .i64 0, .bool false, .int .i64 0, .string ⟨#[]⟩, .slice none 0 0, .slice none 0 0] 25)).heap.size = W.heap.size + 2 := by rw [alloc_size, alloc_size]
  have h0 := alloc2_keep1 W (.cells #[.int .i64 k, .bool b, .int .i64 i, .string s, .slice al nl cl, .slice am nm cm] 25) (.cells #[.int .i64 0, .bool false, .int .i64 0, .string ⟨#[]⟩, .slice none 0 0, .slice none 0 0] 25)
  have h1 := alloc2_new W (.cells #[.int .i64 k, .bool b, .int .i64 i, .string s, .slice al nl cl, .slice am nm cm] 25) (.cells #[.int .i64 0, .bool false, .int .i64 0, .string ⟨#[]⟩, .slice none 0 0, .slice none 0 0] 25)
  have r0 : ((W.alloc (.cells #[.int .i64 k, .bool b, .int .i64 i, .string s, .slice al nl cl, .slice am nm cm] 25)).alloc (.cells #[.int .i64 0, .bool false, .int .i64 0, .string ⟨#[]⟩, .slice none 0 0, .slice none 0 0] 25)).cell? ⟨W.heap.size, 0, none⟩ = some (.int .i64 k) := by rw [cell_of_block h0]; rfl
  have r1 : ((W.alloc (.cells #[.int .i64 k, .bool b, .int .i64 i, .string s, .slice al nl cl, .slice am nm cm] 25)).alloc (.cells #[.int .i64 0, .bool false, .int .i64 0, .string ⟨#[]⟩, .slice none 0 0, .slice none 0 0] 25)).cell? ⟨W.heap.size, 1, none⟩ = some (.bool b) := by rw [cell_of_block h0]; rfl
  have r2 : ((W.alloc (.cells #[.int .i64 k, .bool b, .int .i64 i, .string s, .slice al nl cl, .slice am nm cm] 25)).alloc (.cells #[.int .i64 0, .bool false, .int .i64 0, .string ⟨#[]⟩, .slice none 0 0, .slice none 0 0] 25)).cell? ⟨W.heap.size, 2, none⟩ = some (.int .i64 i) := by rw [cell_of_block h0]; rfl
  have r3 : ((W.alloc (.cells #[.int .i64 k, .bool b, .int .i64 i, .string s, .slice al nl cl, .slice am nm cm] 25)).alloc (.cells #[.int .i64 0, .bool false, .int .i64 0, .string ⟨#[]⟩, .slice none 0 0, .slice none 0 0] 25)).cell? ⟨W.heap.size, 3, none⟩ = some (.string s) := by rw [cell_of_block h0]; rfl
  have r4 : ((W.alloc (.cells #[.int .i64 k, .bool b, .int .i64 i, .string s, .slice al nl cl, .slice am nm cm] 25)).alloc (.cells #[.int .i64 0, .bool false, .int .i64 0, .string ⟨#[]⟩, .slice none 0 0, .slice none 0 0] 25)).cell? ⟨W.heap.size, 4, none⟩ = some (.slice al nl cl) := by rw [cell_of_block h0]; rfl
  have r5 : ((W.alloc (.cells #[.int .i64 k, .bool b, .int .i64 i, .string s, .slice al nl cl, .slice am nm cm] 25)).alloc (.cells #[.int .i64 0, .bool false, .int .i64 0, .string ⟨#[]⟩, .slice none 0 0, .slice none 0 0] 25)).cell? ⟨W.heap.size, 5, none⟩ = some (.slice am nm cm) := by rw [cell_of_block h0]; rfl
  have CL := hmk (leading_any x S _ ((W.alloc (.cells #[.int .i64 k, .bool b, .int .i64 i, .string s, .slice al nl cl, .slice am nm cm] 25)).alloc (.cells #[.int .i64 0, .bool false, .int .i64 0, .string ⟨#[]⟩, .slice none 0 0, .slice none 0 0] 25)) (tg.below (hb.trans (B0.mono hzW)) tg.z) (lies_below HV.out hSW B0) (fun y hy => Nat.lt_of_lt_of_le (hSW y hy) B0.size) hwx)
  have hG0 := (B0.block G (by omega)).trans hGW
  go_enter Tryz.func19, Tryz.ntmps19
  go_wp2_with fail
  clear r0 r1 r2 r3 r4 r5
  generalize ((W.alloc (.cells #[.int .i64 k, .bool b, .int .i64 i, .string s, .slice al nl cl, .slice am nm cm] 25)).alloc (.cells #[.int .i64 0, .bool false, .int .i64 0, .string ⟨#[]⟩, .slice none 0 0, .slice none 0 0] 25)) = W0 at *
  refine CL.out.mono ?_
  rintro e W2 ⟨B, tv, hB, rfl, own, b2⟩
  have HE := hmk (kid_end (c0 := .int .i64 k) (c1 := .bool b) (c2 := .int .i64 i) (c3 := .string s) (c4 := .slice al nl cl) (c5 := .slice am nm cm) hSW hSG (by omega) (B0.trans (b2.mono (by omega))) (by omega) (by have := b2.size; omega) ((b2.block G (by omega)).trans hG0) own HV.out)
  obtain ⟨ta, tn, tc, rfl⟩ := own.slice
  have t0 := (b2.block W.heap.size (by omega)).trans h0
  have t1 := (b2.block (W.heap.size + 1) (by omega)).trans h1
  have tG := (b2.block G (by omega)).trans hG0
  have r0 : W2.cell? ⟨W.heap.size, 0, none⟩ = some (.int .i64 k) := by rw [cell_of_block t0]; rfl
  have r1 : W2.cell? ⟨W.heap.size, 1, none⟩ = some (.bool b) := by rw [cell_of_block t0]; rfl
  have r2 : W2.cell? ⟨W.heap.size, 2, none⟩ = some (.int .i64 i) := by rw [cell_of_block t0]; rfl
  have r3 : W2.cell? ⟨W.heap.size, 3, none⟩ = some (.string s) := by rw [cell_of_block t0]; rfl
  have r4 : W2.cell? ⟨W.heap.size, 4, none⟩ = some (.slice al nl cl) := by rw [cell_of_block t0]; rfl
  have r5 : W2.cell? ⟨W.heap.size, 5, none⟩ = some (.slice am nm cm) := by rw [cell_of_block t0]; rfl
  have z0 : W2.cell? ⟨W.heap.size + 1, 0, none⟩ = some (.int .i64 0) := by rw [cell_of_block t1]; rfl
  have z1 : W2.cell? ⟨W.heap.size + 1, 1, none⟩ = some (.bool false) := by rw [cell_of_block t1]; rfl
  have z2 : W2.cell? ⟨W.heap.size + 1, 2, none⟩ = some (.int .i64 0) := by rw [cell_of_block t1]; rfl
  have z3 : W2.cell? ⟨W.heap.size + 1, 3, none⟩ = some (.string ⟨#[]⟩) := by rw [cell_of_block t1]; rfl
  have z4 : W2.cell? ⟨W.heap.size + 1, 4, none⟩ = some (.slice none 0 0) := by rw [cell_of_block t1]; rfl
  have z5 : W2.cell? ⟨W.heap.size + 1, 5, none⟩ = some (.slice none 0 0) := by rw [cell_of_block t1]; rfl
  have cG : W2.cell? ⟨G, 0, none⟩ = some (.slice none 0 0) := by rw [cell_of_block tG]; rfl
  have fG := frozen_of_block tG
  have f1 := frozen_of_block t1
  have n0 : ¬ G = W.heap.size := by omega
  have n1 : ¬ G = W.heap.size + 1 := by omega
  have n2 : ¬ W.heap.size = G := by omega
  have n3 : ¬ W.heap.size + 1 = G := by omega
  clear own CL t0 t1 tG h0 h1 hG0
  go_wp2_with fail
  (try simp only [Exit.inBlock, Exit.then])
  refine bodyPost_ret (v := .tuple #[.agg #[.int .i64 k, .bool b, .int .i64 i, .string s, .slice al nl cl, .slice am nm cm], .int .i64 0]) ?_ rfl ?_
  rotate_left
  · exact ⟨[.int .i64 k, .bool b, .int .i64 i, .string s, .slice al nl cl, .slice am nm cm], rfl, HE.out.1, HE.out.2.1, HE.out.2.2⟩
  · rw [results_cell_tmp rfl]
    go_simp
end Go.Proofs.YtejcfkkkbnnmcaaGreatDoor

/- pointer.Kids. -/
set_option linter.unusedSimpArgs false
set_option linter.unusedVariables false
namespace Go.Proofs.YtejcfkkkbnnmcaaGreatDoor
open Go.RowKit Go.Lib

def KdPost (r : List ByteArray × Int) (w : World) (e : Ending) (w' : World) : Prop := ∃ tv : Value, e = .returned (.tuple #[tv, .int .i64 r.2]) ∧ LiesS w' tv r.1 ∧ Below w.heap.size w w'
set_option maxHeartbeats 1600000 in
set_option maxRecDepth 100000 in
theorem kids_any (v : V) (p : ByteArray) (S : Nat → Prop) (cs : List Value) (w : World) (tg : Tg w) (hv : v.lies false w S cs) (hS : ∀ b, S b → b < w.heap.size) (hwt : v.wt ≤ 1099511627776) (hp : p.size ≤ 1100000) : Calls Tryz.prog 9 #[.agg cs.toArray, .string p] w (KdPost (kdsF v p) w) := by
  have HV := hmk hv
  obtain ⟨k, b, i, s, al, nl, cl, am, nm, cm, rfl⟩ := V.ten hv
  clear hv
  have B0 : Below w.heap.size w (w.alloc (.cells #[.int .i64 k, .bool b, .int .i64 i, .string s, .slice al nl cl, .slice am nm cm] 25)) := one_belowG w _
  have hz0 : (w.alloc (.cells #[.int .i64 k, .bool b, .int .i64 i, .string s, .slice al nl cl, .slice am nm cm] 25)).heap.size = w.heap.size + 1 := alloc_size _ _
  have h0 := heap_alloc_new w (.cells #[.int .i64 k, .bool b, .int .i64 i, .string s, .slice al nl cl, .slice am nm cm] 25)
  have HT : Hid (∀ W, Below w.heap.size w W → Tg W) := fun W hb => tg.below hb tg.z
  have HRd := hmk (ready_any v p S _ (w.alloc (.cells #[.int .i64 k, .bool b, .int .i64 i, .string s, .slice al nl cl, .slice am nm cm] 25)) ⟨(tg.below B0 tg.z).t.u, by have := (tg.below B0 tg.z).z; omega⟩ (tg.below B0 tg.z).t (lies_below HV.out hS B0) (fun x hx => Nat.lt_of_lt_of_le (hS x hx) B0.size) hwt hp)
  have hmf : ∀ (fn : Fn) (first cap : Array Value) (w : World), (Instr.makeFunc fn first cap).run Tryz.prog w = .ok (.func fn first cap) w := fun _ _ _ _ => rfl
  have r0 : (w.alloc (.cells #[.int .i64 k, .bool b, .int .i64 i, .string s, .slice al nl cl, .slice am nm cm] 25)).cell? ⟨w.heap.size, 0, none⟩ = some (.int .i64 k) := by rw [cell_of_block h0]; rfl
  have r1 : (w.alloc (.cells #[.int .i64 k, .bool b, .int .i64 i, .string s, .slice al nl cl, .slice am nm cm] 25)).cell? ⟨w.heap.size, 1, none⟩ = some (.bool b) := by rw [cell_of_block h0]; rfl
  have r2 : (w.alloc (.cells #[.int .i64 k, .bool b, .int .i64 i, .string s, .slice al nl cl, .slice am nm cm] 25)).cell? ⟨w.heap.size, 2, none⟩ = some (.int .i64 i) := by rw [cell_of_block h0]; rfl
  have r3 : (w.alloc (.cells #[.int .i64 k, .bool b, .int .i64 i, .string s, .slice al nl cl, .slice am nm cm] 25)).cell? ⟨w.heap.size, 3, none⟩ = some (.string s) := by rw [cell_of_block h0]; rfl
  have r4 : (w.alloc (.cells #[.int .i64 k, .bool b, .int .i64 i, .string s, .slice al nl cl, .slice am nm cm] 25)).cell? ⟨w.heap.size, 4, none⟩ = some (.slice al nl cl) := by rw [cell_of_block h0]; rfl
  have r5 : (w.alloc (.cells #[.int .i64 k, .bool b, .int .i64 i, .string s, .slice al nl cl, .slice am nm cm] 25)).cell? ⟨w.heap.size, 5, none⟩ = some (.slice am nm cm) := by rw [cell_of_block h0]; rfl
  go_enter Tryz.func9, Tryz.ntmps9
  go_wp2_with fail
  clear r0 r1 r2 r3 r4 r5
  generalize (w.alloc (.cells #[.int .i64 k, .bool b, .int .i64 i, .string s, .slice al nl cl, .slice am nm cm] 25)) = w0 at *
  refine HRd.out.mono ?_
  rintro e w1 ⟨tv, l, rfl, hd, hn, hl, b1⟩
  have hz1 := b1.size
  have B1 := B0.trans (b1.mono (by omega))
  have t0 := (b1.block w.heap.size (by omega)).trans h0
  by_cases hrd : rdF v p = 0
  · obtain ⟨hce, o, ho⟩ := rd_zero hrd
    have hG : allG v := chkV_allG 40 v 0 (0, 0, 0) (by rw [← chkE40]; exact hce)
    have hdo : dat l = o := by have := hd hrd; rw [ho] at this; exact this
    have htl : l = toksOf p := by rw [toksOf, ho]; exact toks_of hdo
    have hbd := tok_len ho hdo
    have HF : Hid (kdsF v p = (((wkV (fun x => (x, 0)) v l).2.2.elim [] ldgF), (wkV (fun x => (x, 0)) v l).2.1)) := by
      show _ = _
      have hk := wk_rg l v
      rw [hk.1, hk.2, kdsF, rgetF, if_pos hrd, ← htl]
      split
      · rename_i h9
        rw [h9]; rfl
      · rfl
    have b2 : Below w1.heap.size w1 (w1.alloc (.cells #[.slice none 0 0] 32)) := one_belowG _ _
    have hz2 : (w1.alloc (.cells #[.slice none 0 0] 32)).heap.size = w1.heap.size + 1 := alloc_size _ _
    have hbx := heap_alloc_new w1 (.cells #[.slice none 0 0] 32)
    have B2 := B1.trans (b2.mono (by omega))
    have u0 := (b2.block w.heap.size (by omega)).trans t0
    have a0 : (w1.alloc (.cells #[.slice none 0 0] 32)).cell? ⟨w.heap.size, 0, none⟩ = some (.int .i64 k) := by rw [cell_of_block u0]; rfl
    have a1 : (w1.alloc (.cells #[.slice none 0 0] 32)).cell? ⟨w.heap.size, 1, none⟩ = some (.bool b) := by rw [cell_of_block u0]; rfl
    have a2 : (w1.alloc (.cells #[.slice none 0 0] 32)).cell? ⟨w.heap.size, 2, none⟩ = some (.int .i64 i) := by rw [cell_of_block u0]; rfl
    have a3 : (w1.alloc (.cells #[.slice none 0 0] 32)).cell? ⟨w.heap.size, 3, none⟩ = some (.string s) := by rw [cell_of_block u0]; rfl
    have a4 : (w1.alloc (.cells #[.slice none 0 0] 32)).cell? ⟨w.heap.size, 4, none⟩ = some (.slice al nl cl) := by rw [cell_of_block u0]; rfl
    have a5 : (w1.alloc (.cells #[.slice none 0 0] 32)).cell? ⟨w.heap.size, 5, none⟩ = some (.slice am nm cm) := by rw [cell_of_block u0]; rfl
    have hS2 : ∀ x, S x → x < (w1.alloc (.cells #[.slice none 0 0] 32)).heap.size := fun x hx => Nat.lt_of_lt_of_le (hS x hx) B2.size
    have hSG : ¬ S w1.heap.size := fun h => by have := hS _ h; omega
    have eg : ∀ args w, (callFunc 19 args).run Tryz.prog w = .ok (.enter 19 args) w := enters_of Tryz.func19 (by kernel_rfl) rfl
    have hwk := walk_any 19 (.pointer (some ⟨w1.heap.size, 0, none⟩)) (fun x => (x, 0)) S w1.heap.size (Kot w1.heap.size) eg hSG l (fun t ht => by have := hbd.2 t ht; omega) (by omega) v _ tv (w1.alloc (.cells #[.slice none 0 0] 32)) (HT.out _ B2) (lies_below HV.out hS B2) hS2 (by omega) (wt_of_chk (by rw [← chkE40]; exact hce)) hG (TokAt.of_lies (hl.below b2)) (kidsdo S w1.heap.size _ (HT.out _ B2) hS2 hSG (by omega) hbx)
    rw [hrd]
    clear hd hn hl hbd hdo htl ho hce hG
    generalize wkV (fun x => (x, 0)) v l = R3 at *
    obtain ⟨ry, re, rx⟩ := R3
    go_wp2_with fail
    clear a0 a1 a2 a3 a4 a5
    generalize (w1.alloc (.cells #[.slice none 0 0] 32)) = w2 at *
    generalize hG : w1.heap.size = G at *
    refine hwk.mono ?_
    rintro e ww ⟨cw, rfl, _, gw, lw, nw⟩
    have hzw := gw.size
    obtain ⟨kv, hcv, hlv⟩ : ∃ kv, ww.cell? ⟨G, 0, none⟩ = some kv ∧ LiesS ww kv (rx.elim [] ldgF) := by
      cases rx with
      | none =>
        have hb := (nw rfl).block G (by omega)
        exact ⟨.slice none 0 0, by rw [cell_of_block (hb.trans hbx)]; rfl, liesS_nil _⟩
      | some x =>
        obtain ⟨W0, W1, hbW, ⟨B, kv, hBB, d1, d2⟩, hsz, hb⟩ := lw x rfl
        have hsW := hbW.size
        refine ⟨kv, ?_, (d2.move fun y h1 h2 => hb y (.inr (.inr ⟨by omega, h2⟩))).lies⟩
        have := hb G (.inr (.inl rfl))
        rw [← d1]
        exact World.cell?_of_block (a := ⟨G, 0, none⟩) this
    have hlv' := hmk hlv
    obtain ⟨⟨xa, xc, rfl⟩, _⟩ := hlv
    have Bw : Below w.heap.size w ww := ⟨gw.os.trans B2.os, gw.tape.trans B2.tape, gw.output.trans B2.output, Nat.le_trans B2.size gw.size, fun q hq => (gw.block q (by omega) (fun e => by have := Option.some.inj e; omega)).trans (B2.block q hq)⟩
    clear hwk lw nw
    go_wp2_with fail
    go_ret2
    rw [HF.out]
    exact ⟨_, rfl, hlv'.out, Bw⟩
  · have HN : Hid (kdsF v p = ([], rdF v p)) := by
      show _ = _
      have e1 : rgetF v p = (nullV, rdF v p) := by rw [rgetF, if_neg hrd]
      rw [kdsF, e1, if_neg hrd]
    obtain ⟨rfl, rfl⟩ := hn hrd
    generalize rdF v p = rd at *
    go_wp2_with fail
    go_ret2
    rw [HN.out]
    exact ⟨_, rfl, liesS_nil _, B1⟩
end Go.Proofs.YtejcfkkkbnnmcaaGreatDoor
