/- standing, Create, Remove. -/
import Derived.Test.YtkeadlepdjeemaaStG
import Derived.Laws.IdiomStrings
import Derived.Laws.BytesArg
set_option linter.unusedSimpArgs false
set_option linter.unusedVariables false
namespace Go.Proofs.Ytkeadlepdjeemaa
open Go Go.Lib Go.RowKit

theorem oR_shape {v : Value} {y : DataW Unit × List MemPlace} (h : oR v = some y) : ∃ (a : Int) (s : ByteArray), v = .agg #[.int .i64 a, .string s] ∧ y = (dat a s, []) := by
  unfold oR at h
  split at h
  · rename_i c
    obtain ⟨c⟩ := c
    simp only at h
    unfold oL at h
    split at h
    · exact ⟨_, _, rfl, (Option.some.inj h).symm⟩
    · cases h
  · cases h
theorem dat_inj {a b : Int} {s t : ByteArray} (h : dat a s = dat b t) : a = b ∧ s = t := by
  simp only [dat, DataW.agg.injEq, List.cons.injEq, DataW.lit.injEq, Lit.int.injEq, Lit.string.injEq, true_and, and_true] at h
  refine ⟨h.1, ?_⟩
  have h2 : s.data = t.data := Array.toList_inj.1 h.2
  cases s; cases t; cases h2; rfl
theorem Sto.mono {w0 W : World} {S : Nat} {rev floor : Int} {bb bn n m : Nat} {D DN : DataW Unit} {pv : Value} {l : List Evt} (h : Sto w0 W S rev floor bb bn n D DN pv l) (hm : n ≤ m) : Sto w0 W S rev floor bb bn m D DN pv l :=
  ⟨h.bel, h.box, h.base.mono hm, h.now.mono hm, h.past, h.s, h.b1, h.b2, h.ne, h.ok⟩
set_option maxHeartbeats 4000000 in
set_option maxRecDepth 100000 in
theorem standing_ok (W : World) (S : Nat) (rev floor : Int) (mb pv : Value) (bn n : Nat) (D : DataW Unit) (key d : ByteArray) (r : Int) (hbox : W.heap[S]? = some (.cells #[.int .i64 rev, .int .i64 floor, mb, .map (some bn), pv] 43)) (hnow : W.ownsMap Try.prog 9 oR bn n D) (hks : key.size ≤ 1000) (hat : ∀ z, D.atKey (kL key) z = dat r d) :
    Calls Try.prog 15 #[.pointer (some ⟨S, 0, none⟩), .string key, .int .i64 r] W fun e W' => e = .returned (.tuple #[.agg #[.int .i64 r, .string d], .int .i64 0]) ∧ Below W.heap.size W W' := by
  have hSl := lt_of_block hbox
  have b1 := one_belowG W (.cells #[.int .i64 0, .string ⟨#[]⟩] 46)
  have hb1 := (b1.block S hSl).trans hbox
  have c3 : (W.alloc (.cells #[.int .i64 0, .string ⟨#[]⟩] 46)).cell? ⟨S, 3, none⟩ = some (.map (some bn)) := by rw [cell_of_block hb1]; rfl
  obtain ⟨v, ps, hrun, hv⟩ := (hnow.alloc (.cells #[.int .i64 0, .string ⟨#[]⟩] 46)).look_ok law9 Try.underlying40 (zero46 _) (oR_mk 0 ⟨#[]⟩) (key_of key (by unfold maxLen; omega))
  rw [hat] at hv
  obtain ⟨a, s, rfl, hy⟩ := oR_shape hv
  obtain ⟨rfl, rfl⟩ := dat_inj (congrArg Prod.fst hy)
  rw [Maps.has_true_of_atKey hat] at hrun
  clear hv hb1 hbox hnow b1 hat hy hks
  go_enter Try.func15, Try.ntmps15
  go_wp2_with fail
  refine bodyPost_ret (v := .tuple #[.agg #[.int .i64 r, .string d], .int .i64 0]) ?_ rfl ⟨rfl, (one_belowG W _).trans ((one_belowG _ _).mono (by rw [alloc_size]; omega))⟩
  simp [results, Try.f15, go_sem]
/-- the bytes that are handed in read so, whatever is made besides -/
def Rd (W : World) (a : Option Addr) (n c : Nat) (d : ByteArray) : Prop := ∀ w', Below W.heap.size W w' → (convert 30 9 (.slice a n c)).run Try.prog w' = .ok (.string d) w'
theorem Rd.nil (W : World) : Rd W none 0 0 ByteArray.empty := fun w' _ => run_convert_bytes_nil (P := Try.prog) w' 30 5 Try.underlying30 Try.underlying5 0 0 9 Try.underlying9
theorem Rd.one {W : World} {g : Nat} {x : UInt8} (hg : W.heap[g]? = some (.cells #[.int .u8 x.toNat] 5)) : Rd W (some ⟨g, 0, none⟩) 1 1 ⟨#[x]⟩ := fun w' b => by
  have x2 : w'.cell? ⟨g, 0, none⟩ = some (.int .u8 x.toNat) := by rw [cell_of_block ((b.block g (lt_of_block hg)).trans hg)]; rfl
  have hcv := run_convert_bytes_back (P := Try.prog) w' 30 9 5 ⟨g, 0, none⟩ 1 [x] Try.underlying30 Try.underlying5 Try.underlying9 (fun j hj => by
    have : j = 0 := by simp at hj; omega
    subst this
    exact x2)
  simpa only [List.length_cons, List.length_nil, Nat.zero_add] using hcv
set_option maxHeartbeats 4000000 in
set_option maxRecDepth 100000 in
theorem create_first (w0 W : World) (S : Nat) (rev floor : Int) (key d : ByteArray) (a : Option Addr) (n c : Nat) (hbel : Below w0.heap.size w0 W) (hbox : W.heap[S]? = some (.cells #[.int .i64 rev, .int .i64 floor, .map none, .map none, .slice none 0 0] 43)) (hS : w0.heap.size ≤ S) (hr : 0 ≤ rev ∧ rev < 9007199254740991) (hk1 : 1 ≤ key.size) (hk2 : key.size ≤ 129) (hn : n ≤ 131072) (hd : Rd W a n c d) :
    Calls Try.prog 6 #[.pointer (some ⟨S, 0, none⟩), .string key, .slice a n c] W fun e W' => e = .returned (.tuple #[.int .i64 (rev + 1), .int .i64 0]) ∧ ∃ bb bn pv, Sto w0 W' S (rev + 1) floor bb bn 1 (.map []) (wr (.map []) 1 key (rev + 1) d) pv [(1, key, d)] := by
  have hSl := lt_of_block hbox
  have b1 := one_belowG W (.cells #[.int .i64 0, .string ⟨#[]⟩] 46)
  have hb1 := (b1.block S hSl).trans hbox
  have c3 : W.cell? ⟨S, 3, none⟩ = some (.map none) := by rw [cell_of_block hbox]; rfl
  have c3' : (W.alloc (.cells #[.int .i64 0, .string ⟨#[]⟩] 46)).cell? ⟨S, 3, none⟩ = some (.map none) := by rw [cell_of_block hb1]; rfl
  have hlk : ∀ w : World, (Instr.lookup 40 (.map none) (.string key) true).run Try.prog w = .ok (.tuple #[.agg #[.int .i64 0, .string ⟨#[]⟩], .bool false]) w := fun w => Maps.look_nil true law9 Try.underlying40 (zero46 w) (key_of key (by unfold maxLen; omega))
  have hln : ∀ (w : World) (ty : TypeId), (Builtin.len_ #[40] ty #[.map none]).run Try.prog w = .ok (.int .i64 0) w := fun w ty => Maps.len_nil Try.underlying40 ty
  have hcv := hd _ b1
  have C1 := hmk (check_any S key a n c W hk1 hk2 hn)
  have CW := hmk (write_first w0 (W.alloc (.cells #[.int .i64 0, .string ⟨#[]⟩] 46)) S rev floor 0 1 key d (.slice none 0 0) [] (hbel.trans (b1.mono hbel.size)) hb1 ⟨.inl ⟨rfl, rfl⟩⟩ hS (by simp) (by simp) (by omega) hr (.inl rfl) (by omega))
  clear b1 hb1 hbox hbel hd hn
  go_enter Try.func6, Try.ntmps6
  go_wp2_with fail
  refine C1.out.mono ?_
  rintro e W1 ⟨rfl, rfl⟩
  clear C1
  go_wp2_with fail
  refine CW.out.mono ?_
  rintro e W3 ⟨rfl, bb, bn, pv', hq⟩
  have HQ := hmk hq
  clear hq CW
  go_wp2_with fail
  go_ret2
  exact ⟨rfl, _, _, _, HQ.out⟩
set_option maxHeartbeats 4000000 in
set_option maxRecDepth 100000 in
theorem create_ok (w0 W : World) (S : Nat) (rev floor : Int) (bb bn m : Nat) (D DN : DataW Unit) (pv : Value) (l : List Evt) (h : Sto w0 W S rev floor bb bn m D DN pv l) (key d : ByteArray) (a : Option Addr) (n c : Nat) (hr : 0 ≤ rev ∧ rev < 9007199254740991) (hk1 : 1 ≤ key.size) (hk2 : key.size ≤ 129) (hn : n ≤ 131072) (hd : Rd W a n c d) (hl : l.length < 65536) (hm : m < 500000) (hhas : Maps.has DN (kL key) = false) (hsz : Maps.size DN < 4096) :
    Calls Try.prog 6 #[.pointer (some ⟨S, 0, none⟩), .string key, .slice a n c] W fun e W' => e = .returned (.tuple #[.int .i64 (rev + 1), .int .i64 0]) ∧ ∃ pv', Sto w0 W' S (rev + 1) floor bb bn (m + 1) D (wr DN 1 key (rev + 1) d) pv' (l ++ [(1, key, d)]) := by
  have hSl := lt_of_block h.box
  have c3 : W.cell? ⟨S, 3, none⟩ = some (.map (some bn)) := by rw [cell_of_block h.box]; rfl
  obtain ⟨v, ps, hrun, hv⟩ := h.now.look_ok law9 Try.underlying40 (zero46 _) (oR_mk 0 ⟨#[]⟩) (key_of key (by unfold maxLen; omega))
  obtain ⟨va, vs, rfl, hy⟩ := oR_shape hv
  rw [hhas] at hrun
  have b1 := one_belowG W (.cells #[.int .i64 va, .string vs] 46)
  have h1 := h.keep b1
  have c3' : (W.alloc (.cells #[.int .i64 va, .string vs] 46)).cell? ⟨S, 3, none⟩ = some (.map (some bn)) := by rw [cell_of_block h1.box]; rfl
  have hln := fun ty => h1.now.len Try.underlying40 ty
  have hcv := hd _ b1
  have ysz : ¬ (4096 : Int) ≤ (Maps.size DN : Int) := by omega
  have C1 := hmk (check_any S key a n c W hk1 hk2 hn)
  have CW := hmk (write_any w0 (W.alloc (.cells #[.int .i64 va, .string vs] 46)) S rev floor bb bn m D DN 1 key d pv l h1 hl hm hr (.inl rfl) (by omega))
  clear b1 h1 h hd hn hv hy hhas
  go_enter Try.func6, Try.ntmps6
  go_wp2_with fail
  refine C1.out.mono ?_
  rintro e W1 ⟨rfl, rfl⟩
  clear C1
  go_wp2_with fail
  refine CW.out.mono ?_
  rintro e W3 ⟨rfl, pv', hq⟩
  have HQ := hmk hq
  clear hq CW
  go_wp2_with fail
  go_ret2
  exact ⟨rfl, _, HQ.out⟩
set_option maxHeartbeats 4000000 in
set_option maxRecDepth 100000 in
theorem create_exists (w0 W : World) (S : Nat) (rev floor : Int) (bb bn m : Nat) (D DN : DataW Unit) (pv : Value) (l : List Evt) (h : Sto w0 W S rev floor bb bn m D DN pv l) (key : ByteArray) (a : Option Addr) (n c : Nat) (hk1 : 1 ≤ key.size) (hk2 : key.size ≤ 129) (hn : n ≤ 131072) (hhas : Maps.has DN (kL key) = true) :
    Calls Try.prog 6 #[.pointer (some ⟨S, 0, none⟩), .string key, .slice a n c] W fun e W' => e = .returned (.tuple #[.int .i64 0, .int .i64 191]) ∧ Below W.heap.size W W' := by
  have c3 : W.cell? ⟨S, 3, none⟩ = some (.map (some bn)) := by rw [cell_of_block h.box]; rfl
  obtain ⟨v, ps, hrun, hv⟩ := h.now.look_ok law9 Try.underlying40 (zero46 _) (oR_mk 0 ⟨#[]⟩) (key_of key (by unfold maxLen; omega))
  obtain ⟨va, vs, rfl, hy⟩ := oR_shape hv
  rw [hhas] at hrun
  have C1 := hmk (check_any S key a n c W hk1 hk2 hn)
  clear h hn hv hy hhas
  go_enter Try.func6, Try.ntmps6
  go_wp2_with fail
  refine C1.out.mono ?_
  rintro e W1 ⟨rfl, rfl⟩
  clear C1
  go_wp2_with fail
  go_ret2
  exact ⟨rfl, one_belowG _ _⟩
set_option maxHeartbeats 4000000 in
set_option maxRecDepth 100000 in
theorem create_full (w0 W : World) (S : Nat) (rev floor : Int) (bb bn m : Nat) (D DN : DataW Unit) (pv : Value) (l : List Evt) (h : Sto w0 W S rev floor bb bn m D DN pv l) (key : ByteArray) (a : Option Addr) (n c : Nat) (hk1 : 1 ≤ key.size) (hk2 : key.size ≤ 129) (hn : n ≤ 131072) (hhas : Maps.has DN (kL key) = false) (hsz : 4096 ≤ Maps.size DN) :
    Calls Try.prog 6 #[.pointer (some ⟨S, 0, none⟩), .string key, .slice a n c] W fun e W' => e = .returned (.tuple #[.int .i64 0, .int .i64 193]) ∧ Below W.heap.size W W' := by
  have c3 : W.cell? ⟨S, 3, none⟩ = some (.map (some bn)) := by rw [cell_of_block h.box]; rfl
  obtain ⟨v, ps, hrun, hv⟩ := h.now.look_ok law9 Try.underlying40 (zero46 _) (oR_mk 0 ⟨#[]⟩) (key_of key (by unfold maxLen; omega))
  obtain ⟨va, vs, rfl, hy⟩ := oR_shape hv
  rw [hhas] at hrun
  have b1 := one_belowG W (.cells #[.int .i64 va, .string vs] 46)
  have h1 := h.keep b1
  have c3' : (W.alloc (.cells #[.int .i64 va, .string vs] 46)).cell? ⟨S, 3, none⟩ = some (.map (some bn)) := by rw [cell_of_block h1.box]; rfl
  have hln := fun ty => h1.now.len Try.underlying40 ty
  have ysz : (4096 : Int) ≤ (Maps.size DN : Int) := by omega
  have C1 := hmk (check_any S key a n c W hk1 hk2 hn)
  clear h hn hv hy hhas h1 b1
  go_enter Try.func6, Try.ntmps6
  go_wp2_with fail
  refine C1.out.mono ?_
  rintro e W1 ⟨rfl, rfl⟩
  clear C1
  go_wp2_with fail
  go_ret2
  exact ⟨rfl, one_belowG _ _⟩
set_option maxHeartbeats 4000000 in
set_option maxRecDepth 100000 in
theorem remove_ok (w0 W : World) (S : Nat) (rev floor : Int) (bb bn m : Nat) (D DN : DataW Unit) (pv : Value) (l : List Evt) (h : Sto w0 W S rev floor bb bn m D DN pv l) (key d : ByteArray) (r : Int) (hr : 0 ≤ rev ∧ rev < 9007199254740991) (hk1 : 1 ≤ key.size) (hk2 : key.size ≤ 129) (hl : l.length < 65536) (hm : m < 500000) (hat : ∀ z, DN.atKey (kL key) z = dat r d) :
    Calls Try.prog 10 #[.pointer (some ⟨S, 0, none⟩), .string key, .int .i64 r] W fun e W' => e = .returned (.tuple #[.int .i64 (rev + 1), .int .i64 0]) ∧ ∃ pv', Sto w0 W' S (rev + 1) floor bb bn (m + 1) D (wr DN 3 key (rev + 1) d) pv' (l ++ [(3, key, d)]) := by
  have C1 := hmk (check_any S key none 0 0 W hk1 hk2 (by omega))
  have C2 := hmk (standing_ok W S rev floor (.map (some bb)) pv bn m DN key d r h.box h.now (by omega) hat)
  have HS := hmk h
  clear h hat
  go_enter Try.func10, Try.ntmps10
  go_wp2_with fail
  refine C1.out.mono ?_
  rintro e W1 ⟨rfl, rfl⟩
  clear C1
  go_wp2_with fail
  refine C2.out.mono ?_
  rintro e W1 ⟨rfl, b1⟩
  clear C2
  have h2 := (HS.out.keep b1).keep (one_belowG W1 (.cells #[.int .i64 r, .string d] 46))
  have CW := hmk (write_any w0 (W1.alloc (.cells #[.int .i64 r, .string d] 46)) S rev floor bb bn m D DN 3 key d pv l h2 hl hm hr (.inr (.inr rfl)) (by omega))
  clear h2 b1 HS
  go_wp2_with fail
  refine CW.out.mono ?_
  rintro e W3 ⟨rfl, pv', hq⟩
  have HQ := hmk hq
  clear hq CW
  go_wp2_with fail
  go_ret2
  exact ⟨rfl, _, HQ.out⟩
end Go.Proofs.Ytkeadlepdjeemaa
