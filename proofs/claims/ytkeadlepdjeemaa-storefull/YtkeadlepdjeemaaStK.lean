/- digits; the store behind so many objects. -/
import Derived.Test.YtkeadlepdjeemaaStJ
set_option linter.unusedSimpArgs false
set_option linter.unusedVariables false
namespace Go.Proofs.Ytkeadlepdjeemaa
open Go Go.Lib Go.RowKit Go.Maps Go.Sort

def dgl (n : Nat) : List UInt8 := [120, UInt8.ofNat (97 + n / 676 % 26), UInt8.ofNat (97 + n / 26 % 26), UInt8.ofNat (97 + n % 26)]
def dg (n : Nat) : ByteArray := ⟨(dgl n).toArray⟩
theorem u8n {p : Nat} (h : p < 26) : (UInt8.ofNat (97 + p)).toNat = 97 + p := by rw [UInt8.toNat_ofNat']; omega
theorem dg_list (n : Nat) : (dg n).data.toList = dgl n := rfl
theorem dg_size (n : Nat) : (dg n).size = 4 := rfl
set_option maxHeartbeats 4000000 in
theorem digits_any (n : Nat) (w : World) (hn : n < 4096) : Calls Try.prog 7 #[.int .i64 (n : Int)] w fun e w' => e = .returned (.string (dg n)) ∧ Below w.heap.size w w' := by
  have hT := heap_alloc_new w (.cells #[.int .u8 120, .int .u8 (97 + (n : Int) / 676 % 26), .int .u8 (97 + (n : Int) / 26 % 26), .int .u8 (97 + (n : Int) % 26)] 5)
  have hcv := run_convert_bytes_back (P := Try.prog) (w.alloc (.cells #[.int .u8 120, .int .u8 (97 + (n : Int) / 676 % 26), .int .u8 (97 + (n : Int) / 26 % 26), .int .u8 (97 + (n : Int) % 26)] 5)) 30 9 5 ⟨w.heap.size, 0, none⟩ 4 (dgl n) Try.underlying30 Try.underlying5 Try.underlying9 (fun j hj => by
    rw [Go.WideShapes.add_plain, Nat.zero_add, cell_of_block hT]
    have hj4 : j < 4 := hj
    have e1 := u8n (show n / 676 % 26 < 26 by omega)
    have e2 := u8n (show n / 26 % 26 < 26 by omega)
    have e3 := u8n (show n % 26 < 26 by omega)
    rcases j with _ | _ | _ | _ | j
    · rfl
    · show some (Value.int .u8 (97 + (n : Int) / 676 % 26)) = some (Value.int .u8 ((UInt8.ofNat (97 + n / 676 % 26)).toNat : Int))
      rw [e1]; congr 2
    · show some (Value.int .u8 (97 + (n : Int) / 26 % 26)) = some (Value.int .u8 ((UInt8.ofNat (97 + n / 26 % 26)).toNat : Int))
      rw [e2]; congr 2
    · show some (Value.int .u8 (97 + (n : Int) % 26)) = some (Value.int .u8 ((UInt8.ofNat (97 + n % 26)).toNat : Int))
      rw [e3]; congr 2
    · omega)
  rw [show (dgl n).length = 4 from rfl] at hcv
  clear hT
  go_enter Try.func7, Try.ntmps7
  go_wp2_with fail
  go_ret
  exact ⟨rfl, one_belowG _ _⟩
theorem dgl_inj {n m : Nat} (hn : n < 4096) (hm : m < 4096) (h : dgl n = dgl m) : n = m := by
  simp only [dgl, List.cons.injEq, true_and, and_true] at h
  obtain ⟨h1, h2, h3⟩ := h
  have e1 := congrArg UInt8.toNat h1
  have e2 := congrArg UInt8.toNat h2
  have e3 := congrArg UInt8.toNat h3
  rw [u8n (by omega), u8n (by omega)] at e1 e2 e3
  omega
theorem u8lt {p q : Nat} (hp : p < 26) (hq : q < 26) : (UInt8.ofNat (97 + p) < UInt8.ofNat (97 + q)) ↔ p < q := by
  rw [UInt8.lt_iff_toNat_lt, u8n hp, u8n hq]; omega
theorem u8eq {p q : Nat} (hp : p < 26) (hq : q < 26) : (UInt8.ofNat (97 + p) = UInt8.ofNat (97 + q)) ↔ p = q := by
  rw [← UInt8.toNat_inj, u8n hp, u8n hq]; omega
theorem dgl_le {i j : Nat} (hj : j < 4096) (h : i ≤ j) : Op.bytesLess (dgl j) (dgl i) = false := by
  simp only [dgl, Op.bytesLess, Bool.or_eq_false_iff, Bool.and_eq_false_iff, decide_eq_false_iff_not, beq_eq_false_iff_ne, ne_eq, Bool.and_false, Bool.or_false, u8lt (show j / 676 % 26 < 26 by omega) (show i / 676 % 26 < 26 by omega), u8lt (show j / 26 % 26 < 26 by omega) (show i / 26 % 26 < 26 by omega), u8lt (show j % 26 < 26 by omega) (show i % 26 < 26 by omega), u8eq (show j / 676 % 26 < 26 by omega) (show i / 676 % 26 < 26 by omega), u8eq (show j / 26 % 26 < 26 by omega) (show i / 26 % 26 < 26 by omega)]
  refine ⟨by decide, Or.inr ?_⟩
  omega
theorem kL_dg (n : Nat) : kL (dg n) = .string (dgl n) := rfl
/-- the state behind i objects -/
def DM (a : Int) : Nat → DataW Unit
  | 0 => .map []
  | i + 1 => wr (DM a i) 1 (dg i) (a + (i : Int) + 1) ⟨#[UInt8.ofNat i]⟩
theorem wr_put (D : DataW Unit) (k : ByteArray) (r : Int) (d : ByteArray) : wr D 1 k r d = D.put (kL k) (dat r d) := by unfold wr; rw [if_neg (by decide)]
theorem wr_del (D : DataW Unit) (k : ByteArray) (r : Int) (d : ByteArray) : wr D 3 k r d = D.del (kL k) := by unfold wr; rw [if_pos rfl]
theorem DM_tidy (a : Int) (i : Nat) : Tidy (DM a i) := by
  induction i with
  | zero => exact tidy_empty
  | succ i ih => rw [DM, wr_put]; exact ih.put (kl_key _) _
theorem DM_has (a : Int) (i : Nat) (x : List UInt8) : has (DM a i) (.string x) = true ↔ ∃ j, j < i ∧ x = dgl j := by
  induction i with
  | zero => exact ⟨fun h => (by cases h), fun ⟨j, hj, _⟩ => absurd hj (Nat.not_lt_zero _)⟩
  | succ i ih =>
    rw [DM, wr_put, kL_dg]
    by_cases hx : x = dgl i
    · subst hx
      exact ⟨fun _ => ⟨i, by omega, rfl⟩, fun _ => has_put_same (DM_tidy a i).isMap (kl_key (dg i)) _⟩
    · rw [has_put_other (fun e => hx (Lit.string.inj e)), ih]
      exact ⟨fun ⟨j, hj, e⟩ => ⟨j, by omega, e⟩, fun ⟨j, hj, e⟩ => ⟨j, by
        rcases Nat.lt_succ_iff_lt_or_eq.1 hj with h | h
        · exact h
        · exact absurd (h ▸ e) hx, e⟩⟩
theorem DM_new (a : Int) (i : Nat) (hi : i < 4096) : has (DM a i) (kL (dg i)) = false := by
  rw [kL_dg]
  cases h : has (DM a i) (.string (dgl i))
  · rfl
  · obtain ⟨j, hj, e⟩ := (DM_has a i _).1 h
    have := dgl_inj hi (by omega) e
    omega
theorem DM_size (a : Int) (i : Nat) (hi : i ≤ 4096) : size (DM a i) = i := by
  induction i with
  | zero => rfl
  | succ i ih => rw [DM, wr_put, size_put (DM_tidy a i), DM_new a i (by omega), ih (by omega)]; rfl
theorem DM_at (a : Int) (i j : Nat) (hi : i ≤ 4096) (hj : j < i) (z : DataW Unit) : (DM a i).atKey (kL (dg j)) z = dat (a + (j : Int) + 1) ⟨#[UInt8.ofNat j]⟩ := by
  induction i with
  | zero => omega
  | succ i ih =>
    rw [DM, wr_put]
    by_cases he : j = i
    · subst he
      exact atKey_put_same (DM_tidy a j).isMap (kl_key (dg j)) _ _
    · rw [atKey_put_other (k := kL (dg i)) (k' := kL (dg j)) (fun e => he (dgl_inj (by omega) (by omega) (Lit.string.inj e)))]
      exact ih (by omega) (by omega)
/-- the store behind i objects -/
def St (w0 W : World) (S : Nat) (a : Int) (i : Nat) : Prop := (i = 0 ∧ Below w0.heap.size w0 W ∧ W.heap[S]? = some (.cells #[.int .i64 a, .int .i64 a, .map none, .map none, .slice none 0 0] 43) ∧ w0.heap.size ≤ S) ∨ (0 < i ∧ ∃ bb bn n D pv l, n ≤ i ∧ l.length = i ∧ Sto w0 W S (a + (i : Int)) a bb bn n D (DM a i) pv l)
theorem St.keep {w0 W W' : World} {S i : Nat} {a : Int} (h : St w0 W S a i) (b : Below W.heap.size W W') : St w0 W' S a i := by
  rcases h with ⟨h0, h1, h2, h3⟩ | ⟨h0, bb, bn, n, D, pv, l, h1, h2, h3⟩
  · exact .inl ⟨h0, h1.trans (b.mono h1.size), (b.block S (lt_of_block h2)).trans h2, h3⟩
  · exact .inr ⟨h0, bb, bn, n, D, pv, l, h1, h2, h3.keep b⟩
theorem St.create {w0 W : World} {S i : Nat} {a : Int} (h : St w0 W S a i) (ha : 0 ≤ a ∧ a < 1000) (hi : i < 4096) (g : Nat) (hg : W.heap[g]? = some (.cells #[.int .u8 ((i : Int) % 256)] 5)) :
    Calls Try.prog 6 #[.pointer (some ⟨S, 0, none⟩), .string (dg i), .slice (some ⟨g, 0, none⟩) 1 1] W fun e W' => e = .returned (.tuple #[.int .i64 (a + (i : Int) + 1), .int .i64 0]) ∧ St w0 W' S a (i + 1) := by
  have hx : ((UInt8.ofNat i).toNat : Int) = (i : Int) % 256 := by rw [UInt8.toNat_ofNat']; omega
  rw [← hx] at hg
  have hcast : a + ((i + 1 : Nat) : Int) = a + (i : Int) + 1 := by omega
  rcases h with ⟨h0, h1, h2, h3⟩ | ⟨h0, bb, bn, n, D, pv, l, h1, h2, h3⟩
  · subst h0
    refine (create_first w0 W S a a (dg 0) ⟨#[UInt8.ofNat 0]⟩ (some ⟨g, 0, none⟩) 1 1 h1 h2 h3 (by omega) (by decide) (by decide) (by decide) (Rd.one hg)).mono ?_
    rintro e W' ⟨rfl, bb, bn, pv, hS⟩
    refine ⟨by rw [show a + ((0 : Nat) : Int) + 1 = a + 1 by omega], .inr ⟨by omega, bb, bn, 1, .map [], pv, [(1, dg 0, ⟨#[UInt8.ofNat 0]⟩)], by omega, rfl, ?_⟩⟩
    have e1 : DM a (0 + 1) = wr (.map []) 1 (dg 0) (a + 1) ⟨#[UInt8.ofNat 0]⟩ := by
      show wr (.map []) 1 (dg 0) (a + ((0 : Nat) : Int) + 1) _ = _
      rw [show a + ((0 : Nat) : Int) + 1 = a + 1 by omega]
    rw [e1, show a + ((0 + 1 : Nat) : Int) = a + 1 by omega]
    exact hS
  · refine (create_ok w0 W S _ a bb bn n D (DM a i) pv l h3 (dg i) ⟨#[UInt8.ofNat i]⟩ (some ⟨g, 0, none⟩) 1 1 (by omega) (by rw [dg_size]; decide) (by rw [dg_size]; decide) (by decide) (Rd.one hg) (by omega) (by omega) (DM_new a i hi) (by rw [DM_size a i (by omega)]; exact hi)).mono ?_
    rintro e W' ⟨rfl, pv', hS⟩
    refine ⟨rfl, .inr ⟨by omega, bb, bn, n + 1, D, pv', l ++ [(1, dg i, ⟨#[UInt8.ofNat i]⟩)], by omega, by rw [List.length_append, h2]; rfl, ?_⟩⟩
    rw [hcast]
    exact hS
end Go.Proofs.Ytkeadlepdjeemaa
