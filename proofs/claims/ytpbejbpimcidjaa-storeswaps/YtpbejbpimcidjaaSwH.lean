/- Maps that may be nil; standing, Create, Swap, Remove, Get: every outcome. -/
import Derived.Test.YtpbejbpimcidjaaStG
import Derived.Laws.IdiomStrings
import Derived.Laws.BytesArg
set_option linter.unusedSimpArgs false
set_option linter.unusedVariables false
namespace Go.Proofs.Ytpbejbpimcidjaa
open Go Go.Lib Go.RowKit Go.Maps

theorem oR_shape {v : Value} {y : DataW Unit × List MemPlace} (h : oR v = some y) : ∃ (a : Int) (s : ByteArray), v = .agg #[.int .i64 a, .string s] ∧ y = (dat a s, []) := by
  unfold oR at h
  split at h
  · rename_i c
    obtain ⟨c⟩ := c
    simp only at h
    unfold oL at h
    split at h
    · exact ⟨_, _, rfl, (Option.some.inj h).symm⟩
    · cases h
  · cases h
theorem dat_inj {a b : Int} {s t : ByteArray} (h : dat a s = dat b t) : a = b ∧ s = t := by
  simp only [dat, DataW.agg.injEq, List.cons.injEq, DataW.lit.injEq, Lit.int.injEq, Lit.string.injEq, true_and, and_true] at h
  refine ⟨h.1, ?_⟩
  have h2 : s.data = t.data := Array.toList_inj.1 h.2
  cases s; cases t; cases h2; rfl
/-- a map, or none -/
def MpV (w : World) (v : Value) (n : Nat) (D : DataW Unit) : Prop := (v = .map none ∧ D = .map []) ∨ ∃ b, v = .map (some b) ∧ w.ownsMap Try.prog 9 oR b n D
theorem MpV.below {w w' : World} {v : Value} {n : Nat} {D : DataW Unit} (h : MpV w v n D) (b : Below w.heap.size w w') : MpV w' v n D := by
  rcases h with h | ⟨bk, e, h⟩
  · exact .inl h
  · exact .inr ⟨bk, e, map_keep h (b.block bk h.lt)⟩
theorem MpV.look_ok {w : World} {v : Value} {n : Nat} {D : DataW Unit} (h : MpV w v n D) {key : ByteArray} (hk : key.size ≤ 1000) : ∃ (a : Int) (s : ByteArray), (Instr.lookup 54 v (.string key) true).run Try.prog w = .ok (.tuple #[.agg #[.int .i64 a, .string s], .bool (has D (kL key))]) w ∧ ∀ r d, (∀ z, D.atKey (kL key) z = dat r d) → a = r ∧ s = d := by
  have hkey := key_of key (by unfold maxLen; omega)
  rcases h with ⟨rfl, rfl⟩ | ⟨b, rfl, h⟩
  · refine ⟨0, ⟨#[]⟩, Maps.look_nil true law9 Try.underlying54 (zero51 w) hkey, fun r d hz => ?_⟩
    have h1 := hz (dat 0 ⟨#[]⟩)
    exact dat_inj h1
  · obtain ⟨vv, ps, hrun, hv⟩ := h.look_ok law9 Try.underlying54 (zero51 _) (oR_mk 0 ⟨#[]⟩) hkey
    obtain ⟨a, s, rfl, hy⟩ := oR_shape hv
    exact ⟨a, s, hrun, fun r d hz => by
      have h1 := congrArg Prod.fst hy
      rw [show (D.atKey (kL key) _, ps).1 = D.atKey (kL key) _ from rfl, hz] at h1
      obtain ⟨q1, q2⟩ := dat_inj h1
      exact ⟨q1.symm, q2.symm⟩⟩
theorem MpV.len {w : World} {v : Value} {n : Nat} {D : DataW Unit} (h : MpV w v n D) (ty : TypeId) : (Builtin.len_ #[54] ty #[v]).run Try.prog w = .ok (.int .i64 (Maps.size D)) w := by
  rcases h with ⟨rfl, rfl⟩ | ⟨b, rfl, h⟩
  · exact Maps.len_nil Try.underlying54 ty
  · exact h.len Try.underlying54 ty
theorem Sto.mpv {F : Nat → Prop} {w0 W : World} {S : Nat} {rev floor : Int} {bb bn n : Nat} {D DN : DataW Unit} {pv : Value} {l : List Evt} (h : Sto F w0 W S rev floor bb bn n D DN pv l) : MpV W (.map (some bn)) n DN := .inr ⟨bn, rfl, h.now⟩
theorem Sto.mono {F : Nat → Prop} {w0 W : World} {S : Nat} {rev floor : Int} {bb bn n m : Nat} {D DN : DataW Unit} {pv : Value} {l : List Evt} (h : Sto F w0 W S rev floor bb bn n D DN pv l) (hm : n ≤ m) : Sto F w0 W S rev floor bb bn m D DN pv l :=
  ⟨h.bel, h.box, h.base.mono hm, h.now.mono hm, h.past, h.s, h.b1, h.b2, h.ne, h.ok⟩
set_option maxHeartbeats 4000000 in
theorem standing_ok (W : World) (S : Nat) (rev floor : Int) (mb mn pv : Value) (n : Nat) (D : DataW Unit) (key d : ByteArray) (r : Int) (hbox : W.heap[S]? = some (.cells #[.int .i64 rev, .int .i64 floor, mb, mn, pv] 57)) (hnow : MpV W mn n D) (hks : key.size ≤ 1000) (hat : ∀ z, D.atKey (kL key) z = dat r d) :
    Calls Try.prog 17 #[.pointer (some ⟨S, 0, none⟩), .string key, .int .i64 r] W fun e W' => e = .returned (.tuple #[.agg #[.int .i64 r, .string d], .int .i64 0]) ∧ Below W.heap.size W W' := by
  have hSl := lt_of_block hbox
  have b1 := one_belowG W (.cells #[.int .i64 0, .string ⟨#[]⟩] 51)
  have hb1 := (b1.block S hSl).trans hbox
  have c3 : (W.alloc (.cells #[.int .i64 0, .string ⟨#[]⟩] 51)).cell? ⟨S, 3, none⟩ = some mn := by rw [cell_of_block hb1]; rfl
  obtain ⟨a, s, hrun, hv⟩ := (hnow.below b1).look_ok hks
  obtain ⟨rfl, rfl⟩ := hv r d hat
  rw [Maps.has_true_of_atKey hat] at hrun
  clear hb1 hbox hnow b1 hat hks hv
  go_enter Try.func17, Try.ntmps17
  go_wp2_with fail
  refine bodyPost_ret (v := .tuple #[.agg #[.int .i64 a, .string s], .int .i64 0]) ?_ rfl ⟨rfl, (one_belowG W _).trans ((one_belowG _ _).mono (by rw [alloc_size]; omega))⟩
  simp [results, Try.f17, go_sem]
set_option maxHeartbeats 4000000 in
theorem standing_miss (W : World) (S : Nat) (rev floor : Int) (mb mn pv : Value) (n : Nat) (D : DataW Unit) (key : ByteArray) (r : Int) (hbox : W.heap[S]? = some (.cells #[.int .i64 rev, .int .i64 floor, mb, mn, pv] 57)) (hnow : MpV W mn n D) (hks : key.size ≤ 1000) (hno : has D (kL key) = false) :
    Calls Try.prog 17 #[.pointer (some ⟨S, 0, none⟩), .string key, .int .i64 r] W fun e W' => e = .returned (.tuple #[.agg #[.int .i64 0, .string ⟨#[]⟩], .int .i64 190]) ∧ Below W.heap.size W W' := by
  have hSl := lt_of_block hbox
  have b1 := one_belowG W (.cells #[.int .i64 0, .string ⟨#[]⟩] 51)
  have hb1 := (b1.block S hSl).trans hbox
  have c3 : (W.alloc (.cells #[.int .i64 0, .string ⟨#[]⟩] 51)).cell? ⟨S, 3, none⟩ = some mn := by rw [cell_of_block hb1]; rfl
  obtain ⟨a, s, hrun, hv⟩ := (hnow.below b1).look_ok hks
  rw [hno] at hrun
  clear hb1 hbox hnow b1 hno hks hv
  go_enter Try.func17, Try.ntmps17
  go_wp2_with fail
  refine bodyPost_ret (v := .tuple #[.agg #[.int .i64 0, .string ⟨#[]⟩], .int .i64 190]) ?_ rfl ⟨rfl, (one_belowG W _).trans ((one_belowG _ _).mono (by rw [alloc_size]; omega))⟩
  simp [results, Try.f17, go_sem]
set_option maxHeartbeats 4000000 in
set_option maxRecDepth 100000 in
theorem standing_stale (W : World) (S : Nat) (rev floor : Int) (mb mn pv : Value) (n : Nat) (D : DataW Unit) (key d : ByteArray) (r r' : Int) (hbox : W.heap[S]? = some (.cells #[.int .i64 rev, .int .i64 floor, mb, mn, pv] 57)) (hnow : MpV W mn n D) (hks : key.size ≤ 1000) (hat : ∀ z, D.atKey (kL key) z = dat r' d) (hne : ¬ r' = r) :
    Calls Try.prog 17 #[.pointer (some ⟨S, 0, none⟩), .string key, .int .i64 r] W fun e W' => e = .returned (.tuple #[.agg #[.int .i64 0, .string ⟨#[]⟩], .int .i64 192]) ∧ Below W.heap.size W W' := by
  have hSl := lt_of_block hbox
  have b1 := one_belowG W (.cells #[.int .i64 0, .string ⟨#[]⟩] 51)
  have hb1 := (b1.block S hSl).trans hbox
  have c3 : (W.alloc (.cells #[.int .i64 0, .string ⟨#[]⟩] 51)).cell? ⟨S, 3, none⟩ = some mn := by rw [cell_of_block hb1]; rfl
  obtain ⟨a, s, hrun, hv⟩ := (hnow.below b1).look_ok hks
  obtain ⟨rfl, rfl⟩ := hv r' d hat
  rw [Maps.has_true_of_atKey hat] at hrun
  clear hb1 hbox hnow b1 hat hks hv
  go_enter Try.func17, Try.ntmps17
  go_wp2_with fail
  refine bodyPost_ret (v := .tuple #[.agg #[.int .i64 0, .string ⟨#[]⟩], .int .i64 192]) ?_ rfl ⟨rfl, (one_belowG W _).trans ((one_belowG _ _).mono (by rw [alloc_size]; omega))⟩
  simp [results, Try.f17, go_sem]
set_option maxHeartbeats 4000000 in
theorem write_worn (W : World) (S : Nat) (rev floor : Int) (mb mn pv : Value) (kd : Int) (key d : ByteArray) (hbox : W.heap[S]? = some (.cells #[.int .i64 rev, .int .i64 floor, mb, mn, pv] 57)) (hr : 9007199254740991 ≤ rev) :
    Calls Try.prog 16 #[.pointer (some ⟨S, 0, none⟩), .agg #[.int .i64 kd, .string key, .string d]] W fun e W' => e = .returned (.tuple #[.int .i64 0, .int .i64 194]) ∧ Below W.heap.size W W' := by
  have b1 := one_belowG W (.cells #[.int .i64 kd, .string key, .string d] 60)
  have hb1 := (b1.block S (lt_of_block hbox)).trans hbox
  have c0 : (W.alloc (.cells #[.int .i64 kd, .string key, .string d] 60)).cell? ⟨S, 0, none⟩ = some (.int .i64 rev) := by rw [cell_of_block hb1]; rfl
  clear hb1 hbox b1
  go_enter Try.func16, Try.ntmps16
  go_wp2_with fail
  go_ret2
  exact ⟨rfl, one_belowG _ _⟩
/-- the bytes that are handed in read so, whatever is made besides -/
def Rd (W : World) (a : Option Addr) (n c : Nat) (d : ByteArray) : Prop := ∀ w', Below W.heap.size W w' → (convert 30 9 (.slice a n c)).run Try.prog w' = .ok (.string d) w'
theorem Rd.keep {W W' : World} {a : Option Addr} {n c : Nat} {d : ByteArray} (h : Rd W a n c d) (b : Below W.heap.size W W') : Rd W' a n c d := fun w' hb => h w' (b.trans (hb.mono b.size))
theorem Rd.one {W : World} {g : Nat} {x : UInt8} (hg : W.heap[g]? = some (.cells #[.int .u8 x.toNat] 5)) : Rd W (some ⟨g, 0, none⟩) 1 1 ⟨#[x]⟩ := fun w' b => by
  have x2 : w'.cell? ⟨g, 0, none⟩ = some (.int .u8 x.toNat) := by rw [cell_of_block ((b.block g (lt_of_block hg)).trans hg)]; rfl
  have hcv := run_convert_bytes_back (P := Try.prog) w' 30 9 5 ⟨g, 0, none⟩ 1 [x] Try.underlying30 Try.underlying5 Try.underlying9 (fun j hj => by
    have : j = 0 := by simp at hj; omega
    subst this
    exact x2)
  simpa only [List.length_cons, List.length_nil, Nat.zero_add] using hcv
set_option maxHeartbeats 4000000 in
set_option maxRecDepth 100000 in
theorem create_first (F : Nat → Prop) (w0 W : World) (S : Nat) (rev floor : Int) (key d : ByteArray) (a : Option Addr) (n c : Nat) (hbel : Fr F w0 W) (hbox : W.heap[S]? = some (.cells #[.int .i64 rev, .int .i64 floor, .map none, .map none, .slice none 0 0] 57)) (hS : ¬ F S) (hr : 0 ≤ rev ∧ rev < 9007199254740991) (hk1 : 1 ≤ key.size) (hk2 : key.size ≤ 129) (hn : n ≤ 131072) (hd : Rd W a n c d) :
    Calls Try.prog 5 #[.pointer (some ⟨S, 0, none⟩), .string key, .slice a n c] W fun e W' => e = .returned (.tuple #[.int .i64 (rev + 1), .int .i64 0]) ∧ ∃ bb bn pv, Sto F w0 W' S (rev + 1) floor bb bn 1 (.map []) (wr (.map []) 1 key (rev + 1) d) pv [(1, key, d)] := by
  have hSl := lt_of_block hbox
  have b1 := one_belowG W (.cells #[.int .i64 0, .string ⟨#[]⟩] 51)
  have hb1 := (b1.block S hSl).trans hbox
  have c3 : W.cell? ⟨S, 3, none⟩ = some (.map none) := by rw [cell_of_block hbox]; rfl
  have c3' : (W.alloc (.cells #[.int .i64 0, .string ⟨#[]⟩] 51)).cell? ⟨S, 3, none⟩ = some (.map none) := by rw [cell_of_block hb1]; rfl
  have hlk : ∀ w : World, (Instr.lookup 54 (.map none) (.string key) true).run Try.prog w = .ok (.tuple #[.agg #[.int .i64 0, .string ⟨#[]⟩], .bool false]) w := fun w => Maps.look_nil true law9 Try.underlying54 (zero51 w) (key_of key (by unfold maxLen; omega))
  have hln : ∀ (w : World) (ty : TypeId), (Builtin.len_ #[54] ty #[.map none]).run Try.prog w = .ok (.int .i64 0) w := fun w ty => Maps.len_nil Try.underlying54 ty
  have hcv := hd _ b1
  have C1 := hmk (check_any S key a n c W hk1 hk2 hn)
  have CW := hmk (write_first F w0 (W.alloc (.cells #[.int .i64 0, .string ⟨#[]⟩] 51)) S rev floor 0 1 key d (.slice none 0 0) [] (hbel.below b1) hb1 ⟨.inl ⟨rfl, rfl⟩⟩ hS (by simp) (by simp) (by omega) hr (.inl rfl) (by omega))
  clear b1 hb1 hbox hbel hd hn
  go_enter Try.func5, Try.ntmps5
  go_wp2_with fail
  refine C1.out.mono ?_
  rintro e W1 ⟨rfl, rfl⟩
  clear C1
  go_wp2_with fail
  refine CW.out.mono ?_
  rintro e W3 ⟨rfl, bb, bn, pv', hq⟩
  have HQ := hmk hq
  clear hq CW
  go_wp2_with fail
  go_ret2
  exact ⟨rfl, _, _, _, HQ.out⟩
set_option maxHeartbeats 4000000 in
set_option maxRecDepth 100000 in
/-- Create, as far as the write: Q is what the write answers -/
theorem create_gen (W : World) (S : Nat) (rev floor : Int) (mb mn pv : Value) (m : Nat) (DN : DataW Unit) (key d : ByteArray) (a : Option Addr) (n c : Nat) (hbox : W.heap[S]? = some (.cells #[.int .i64 rev, .int .i64 floor, mb, mn, pv] 57)) (hnow : MpV W mn m DN) (hk1 : 1 ≤ key.size) (hk2 : key.size ≤ 129) (hn : n ≤ 131072) (hd : Rd W a n c d) (hhas : Maps.has DN (kL key) = false) (hsz : Maps.size DN < 4096) (x y : Int) (Q : World → Prop)
    (hw : ∀ W1, Below W.heap.size W W1 → Calls Try.prog 16 #[.pointer (some ⟨S, 0, none⟩), .agg #[.int .i64 1, .string key, .string d]] W1 fun e W' => e = .returned (.tuple #[.int .i64 x, .int .i64 y]) ∧ Q W') :
    Calls Try.prog 5 #[.pointer (some ⟨S, 0, none⟩), .string key, .slice a n c] W fun e W' => e = .returned (.tuple #[.int .i64 x, .int .i64 y]) ∧ Q W' := by
  have c3 : W.cell? ⟨S, 3, none⟩ = some mn := by rw [cell_of_block hbox]; rfl
  obtain ⟨va, vs, hrun, hv⟩ := hnow.look_ok (key := key) (by omega)
  rw [hhas] at hrun
  have b1 := one_belowG W (.cells #[.int .i64 va, .string vs] 51)
  have hb1 := (b1.block S (lt_of_block hbox)).trans hbox
  have c3' : (W.alloc (.cells #[.int .i64 va, .string vs] 51)).cell? ⟨S, 3, none⟩ = some mn := by rw [cell_of_block hb1]; rfl
  have hln := fun ty => (hnow.below b1).len ty
  have hcv := hd _ b1
  have ysz : ¬ (4096 : Int) ≤ (Maps.size DN : Int) := by omega
  have C1 := hmk (check_any S key a n c W hk1 hk2 hn)
  have CW := hmk (hw _ b1)
  clear b1 hb1 hd hn hv hhas hbox hnow hw
  go_enter Try.func5, Try.ntmps5
  go_wp2_with fail
  refine C1.out.mono ?_
  rintro e W1 ⟨rfl, rfl⟩
  clear C1
  go_wp2_with fail
  refine CW.out.mono ?_
  rintro e W3 ⟨rfl, hq⟩
  have HQ := hmk hq
  clear hq CW
  go_wp2_with fail
  go_ret2
  exact ⟨rfl, HQ.out⟩
set_option maxHeartbeats 4000000 in
set_option maxRecDepth 100000 in
theorem create_exists (W : World) (S : Nat) (rev floor : Int) (mb mn pv : Value) (m : Nat) (DN : DataW Unit) (key : ByteArray) (a : Option Addr) (n c : Nat) (hbox : W.heap[S]? = some (.cells #[.int .i64 rev, .int .i64 floor, mb, mn, pv] 57)) (hnow : MpV W mn m DN) (hk1 : 1 ≤ key.size) (hk2 : key.size ≤ 129) (hn : n ≤ 131072) (hhas : Maps.has DN (kL key) = true) :
    Calls Try.prog 5 #[.pointer (some ⟨S, 0, none⟩), .string key, .slice a n c] W fun e W' => e = .returned (.tuple #[.int .i64 0, .int .i64 191]) ∧ Below W.heap.size W W' := by
  have c3 : W.cell? ⟨S, 3, none⟩ = some mn := by rw [cell_of_block hbox]; rfl
  obtain ⟨va, vs, hrun, hv⟩ := hnow.look_ok (key := key) (by omega)
  rw [hhas] at hrun
  have C1 := hmk (check_any S key a n c W hk1 hk2 hn)
  clear hn hv hhas hbox hnow
  go_enter Try.func5, Try.ntmps5
  go_wp2_with fail
  refine C1.out.mono ?_
  rintro e W1 ⟨rfl, rfl⟩
  clear C1
  go_wp2_with fail
  go_ret2
  exact ⟨rfl, one_belowG _ _⟩
set_option maxHeartbeats 4000000 in
set_option maxRecDepth 100000 in
/-- Swap, as far as the write -/
theorem swap_gen (W : World) (S : Nat) (rev floor : Int) (mb mn pv : Value) (m : Nat) (DN : DataW Unit) (key d d0 : ByteArray) (r : Int) (a : Option Addr) (n c : Nat) (hbox : W.heap[S]? = some (.cells #[.int .i64 rev, .int .i64 floor, mb, mn, pv] 57)) (hnow : MpV W mn m DN) (hk1 : 1 ≤ key.size) (hk2 : key.size ≤ 129) (hn : n ≤ 131072) (hd : Rd W a n c d) (hat : ∀ z, DN.atKey (kL key) z = dat r d0) (x y : Int) (Q : World → Prop)
    (hw : ∀ W1, Below W.heap.size W W1 → Calls Try.prog 16 #[.pointer (some ⟨S, 0, none⟩), .agg #[.int .i64 2, .string key, .string d]] W1 fun e W' => e = .returned (.tuple #[.int .i64 x, .int .i64 y]) ∧ Q W') :
    Calls Try.prog 22 #[.pointer (some ⟨S, 0, none⟩), .string key, .int .i64 r, .slice a n c] W fun e W' => e = .returned (.tuple #[.int .i64 x, .int .i64 y]) ∧ Q W' := by
  have C1 := hmk (check_any S key a n c W hk1 hk2 hn)
  have C2 := hmk (standing_ok W S rev floor mb mn pv m DN key d0 r hbox hnow (by omega) hat)
  have HW := hmk hw
  have HD := hmk hd
  clear hbox hnow hat hw hd hn
  go_enter Try.func22, Try.ntmps22
  go_wp2_with fail
  refine C1.out.mono ?_
  rintro e W1 ⟨rfl, rfl⟩
  clear C1
  go_wp2_with fail
  refine C2.out.mono ?_
  rintro e W2 ⟨rfl, b2⟩
  clear C2
  have b3 := b2.trans ((one_belowG W2 (.cells #[.int .i64 r, .string d0] 51)).mono b2.size)
  have hcv := HD.out _ b3
  have CW := hmk (HW.out _ b3)
  clear b2 b3 HW HD
  go_wp2_with fail
  refine CW.out.mono ?_
  rintro e W3 ⟨rfl, hq⟩
  have HQ := hmk hq
  clear hq CW
  go_wp2_with fail
  go_ret2
  exact ⟨rfl, HQ.out⟩
set_option maxHeartbeats 4000000 in
set_option maxRecDepth 100000 in
/-- Swap of what does not stand -/
theorem swap_no (W : World) (S : Nat) (key : ByteArray) (r x : Int) (a : Option Addr) (n c : Nat) (hk1 : 1 ≤ key.size) (hk2 : key.size ≤ 129) (hn : n ≤ 131072) (hx : ¬ x = 0) (hs : Calls Try.prog 17 #[.pointer (some ⟨S, 0, none⟩), .string key, .int .i64 r] W fun e W' => e = .returned (.tuple #[.agg #[.int .i64 0, .string ⟨#[]⟩], .int .i64 x]) ∧ Below W.heap.size W W') :
    Calls Try.prog 22 #[.pointer (some ⟨S, 0, none⟩), .string key, .int .i64 r, .slice a n c] W fun e W' => e = .returned (.tuple #[.int .i64 0, .int .i64 x]) ∧ Below W.heap.size W W' := by
  have C1 := hmk (check_any S key a n c W hk1 hk2 hn)
  have C2 := hmk hs
  clear hs hn
  go_enter Try.func22, Try.ntmps22
  go_wp2_with fail
  refine C1.out.mono ?_
  rintro e W1 ⟨rfl, rfl⟩
  clear C1
  go_wp2_with fail
  refine C2.out.mono ?_
  rintro e W2 ⟨rfl, b2⟩
  clear C2
  have B3 := hmk (b2.trans ((one_belowG W2 (.cells #[.int .i64 0, .string ⟨#[]⟩] 51)).mono b2.size))
  clear b2
  go_wp2_with fail
  go_ret2
  exact ⟨rfl, B3.out⟩
set_option maxHeartbeats 4000000 in
set_option maxRecDepth 100000 in
/-- Remove, as far as the write -/
theorem remove_gen (W : World) (S : Nat) (rev floor : Int) (mb mn pv : Value) (m : Nat) (DN : DataW Unit) (key d : ByteArray) (r : Int) (hbox : W.heap[S]? = some (.cells #[.int .i64 rev, .int .i64 floor, mb, mn, pv] 57)) (hnow : MpV W mn m DN) (hk1 : 1 ≤ key.size) (hk2 : key.size ≤ 129) (hat : ∀ z, DN.atKey (kL key) z = dat r d) (x y : Int) (Q : World → Prop)
    (hw : ∀ W1, Below W.heap.size W W1 → Calls Try.prog 16 #[.pointer (some ⟨S, 0, none⟩), .agg #[.int .i64 3, .string key, .string d]] W1 fun e W' => e = .returned (.tuple #[.int .i64 x, .int .i64 y]) ∧ Q W') :
    Calls Try.prog 6 #[.pointer (some ⟨S, 0, none⟩), .string key, .int .i64 r] W fun e W' => e = .returned (.tuple #[.int .i64 x, .int .i64 y]) ∧ Q W' := by
  have C1 := hmk (check_any S key none 0 0 W hk1 hk2 (by omega))
  have C2 := hmk (standing_ok W S rev floor mb mn pv m DN key d r hbox hnow (by omega) hat)
  have HW := hmk hw
  clear hbox hnow hat hw
  go_enter Try.func6, Try.ntmps6
  go_wp2_with fail
  refine C1.out.mono ?_
  rintro e W1 ⟨rfl, rfl⟩
  clear C1
  go_wp2_with fail
  refine C2.out.mono ?_
  rintro e W2 ⟨rfl, b2⟩
  clear C2
  have CW := hmk (HW.out _ (b2.trans ((one_belowG W2 (.cells #[.int .i64 r, .string d] 51)).mono b2.size)))
  clear b2 HW
  go_wp2_with fail
  refine CW.out.mono ?_
  rintro e W3 ⟨rfl, hq⟩
  have HQ := hmk hq
  clear hq CW
  go_wp2_with fail
  go_ret2
  exact ⟨rfl, HQ.out⟩
set_option maxHeartbeats 4000000 in
set_option maxRecDepth 100000 in
/-- Remove of what does not stand -/
theorem remove_no (W : World) (S : Nat) (key : ByteArray) (r x : Int) (hk1 : 1 ≤ key.size) (hk2 : key.size ≤ 129) (hx : ¬ x = 0) (hs : Calls Try.prog 17 #[.pointer (some ⟨S, 0, none⟩), .string key, .int .i64 r] W fun e W' => e = .returned (.tuple #[.agg #[.int .i64 0, .string ⟨#[]⟩], .int .i64 x]) ∧ Below W.heap.size W W') :
    Calls Try.prog 6 #[.pointer (some ⟨S, 0, none⟩), .string key, .int .i64 r] W fun e W' => e = .returned (.tuple #[.int .i64 0, .int .i64 x]) ∧ Below W.heap.size W W' := by
  have C1 := hmk (check_any S key none 0 0 W hk1 hk2 (by omega))
  have C2 := hmk hs
  clear hs
  go_enter Try.func6, Try.ntmps6
  go_wp2_with fail
  refine C1.out.mono ?_
  rintro e W1 ⟨rfl, rfl⟩
  clear C1
  go_wp2_with fail
  refine C2.out.mono ?_
  rintro e W2 ⟨rfl, b2⟩
  clear C2
  have B3 := hmk (b2.trans ((one_belowG W2 (.cells #[.int .i64 0, .string ⟨#[]⟩] 51)).mono b2.size))
  clear b2
  go_wp2_with fail
  go_ret2
  exact ⟨rfl, B3.out⟩
theorem conv_any (s : ByteArray) (w : World) (N : Nat) (hN : w.heap.size = N) : ∃ c w', (convert 9 30 (.string s)).run Try.prog w = .ok (.slice (some ⟨N, 0, none⟩) s.size c) w' ∧ (∃ fr, w'.heap[N]? = some (.cells (bytesRow s c) 5 fr) ∧ fr ≠ (0, 0)) ∧ Below w.heap.size w w' := by
  subst hN
  exact ⟨_, _, run_bytes_of_string w 9 30 5 s Try.underlying9 Try.underlying30 Try.underlying5, ⟨_, heap_alloc_new w.drew _, fun e => by have := congrArg Prod.snd e; simp at this⟩, ((Below.refl _ w).drew).trans (one_belowG w.drew _)⟩
set_option maxHeartbeats 4000000 in
set_option maxRecDepth 100000 in
theorem get_miss (W : World) (S : Nat) (rev floor : Int) (mb mn pv : Value) (m : Nat) (DN : DataW Unit) (key : ByteArray) (hbox : W.heap[S]? = some (.cells #[.int .i64 rev, .int .i64 floor, mb, mn, pv] 57)) (hnow : MpV W mn m DN) (hk1 : 1 ≤ key.size) (hk2 : key.size ≤ 129) (hhas : Maps.has DN (kL key) = false) :
    Calls Try.prog 24 #[.pointer (some ⟨S, 0, none⟩), .string key] W fun e W' => e = .returned (.tuple #[.slice none 0 0, .int .i64 0, .int .i64 190]) ∧ Below W.heap.size W W' := by
  have c3 : W.cell? ⟨S, 3, none⟩ = some mn := by rw [cell_of_block hbox]; rfl
  obtain ⟨va, vs, hrun, hv⟩ := hnow.look_ok (key := key) (by omega)
  rw [hhas] at hrun
  have C1 := hmk (check_any S key none 0 0 W hk1 hk2 (by omega))
  clear hv hhas hbox hnow
  go_enter Try.func24, Try.ntmps24
  go_wp2_with fail
  refine C1.out.mono ?_
  rintro e W1 ⟨rfl, rfl⟩
  clear C1
  go_wp2_with fail
  refine bodyPost_ret (v := .tuple #[.slice none 0 0, .int .i64 0, .int .i64 190]) ?_ rfl ⟨rfl, one_belowG _ _⟩
  simp [results, Try.f24, go_sem]
set_option maxHeartbeats 4000000 in
set_option maxRecDepth 100000 in
theorem get_ok (W : World) (S : Nat) (rev floor : Int) (mb mn pv : Value) (m : Nat) (DN : DataW Unit) (key d : ByteArray) (r : Int) (hbox : W.heap[S]? = some (.cells #[.int .i64 rev, .int .i64 floor, mb, mn, pv] 57)) (hnow : MpV W mn m DN) (hk1 : 1 ≤ key.size) (hk2 : key.size ≤ 129) (hat : ∀ z, DN.atKey (kL key) z = dat r d) :
    Calls Try.prog 24 #[.pointer (some ⟨S, 0, none⟩), .string key] W fun e W' => (∃ g c fr, e = .returned (.tuple #[.slice (some ⟨g, 0, none⟩) d.size c, .int .i64 r, .int .i64 0]) ∧ W'.heap[g]? = some (.cells (bytesRow d c) 5 fr)) ∧ Below W.heap.size W W' := by
  have c3 : W.cell? ⟨S, 3, none⟩ = some mn := by rw [cell_of_block hbox]; rfl
  obtain ⟨va, vs, hrun, hv⟩ := hnow.look_ok (key := key) (by omega)
  obtain ⟨rfl, rfl⟩ := hv r d hat
  rw [Maps.has_true_of_atKey hat] at hrun
  have C1 := hmk (check_any S key none 0 0 W hk1 hk2 (by omega))
  clear hv hat hbox hnow
  go_enter Try.func24, Try.ntmps24
  go_wp2_with fail
  refine C1.out.mono ?_
  rintro e W1 ⟨rfl, rfl⟩
  clear C1
  obtain ⟨c2, V2, hcv, ⟨fr, hV2, hfr⟩, b2⟩ := conv_any vs (W1.alloc (.cells #[.int .i64 va, .string vs] 51)).drew (W1.heap.size + 1) (alloc_size _ _)
  go_wp2_with fail
  have hX := heap_alloc_new W1 (.cells #[.int .i64 va, .string vs] 51)
  have hX2 := (b2.block W1.heap.size (by show W1.heap.size < (W1.alloc _).heap.size; rw [alloc_size]; omega)).trans hX
  have B2 := hmk (((one_belowG W1 (.cells #[.int .i64 va, .string vs] 51)).drew).trans (b2.mono (by show W1.heap.size ≤ (W1.alloc _).heap.size; rw [alloc_size]; omega)))
  have HV := hmk hV2
  clear b2 hV2
  refine wp_region_held_drew (S := fun Y => Y.heap[W1.heap.size]? = some (.cells #[.int .i64 va, .string vs] 51)) (by kernel_rfl) hX (fun hHeld => ?_)
  (refine wpAnyH_take (i := 0) (v := ?_) rfl (by kernel_rfl) (by kernel_rfl) (by kernel_rfl) (fun _ _ _ h => h) (Or.inl ⟨by kernel_rfl, ?_⟩) (by assumption) ?_; rotate_left 1; (intro W0 hSw; (have e0 : W0.cell? ⟨W1.heap.size, 0, none⟩ = some (.int .i64 va) := (by rw [cell_of_block hSw]; rfl)); (have e1 : W0.cell? ⟨W1.heap.size, 1, none⟩ = some (.string vs) := (by rw [cell_of_block hSw]; rfl)); go_simp; (try with_reducible rfl)); (try simp only [Act.put, List.setIfInBounds_toArray, List.set_cons_zero, List.set_cons_succ]))
  (refine wpAnyH_take (i := 1) (v := ?_) rfl (by kernel_rfl) (by kernel_rfl) (by kernel_rfl) (fun _ _ _ h => h) (Or.inl ⟨by kernel_rfl, ?_⟩) (by assumption) ?_; rotate_left 1; (intro W0 hSw; (have e0 : W0.cell? ⟨W1.heap.size, 0, none⟩ = some (.int .i64 va) := (by rw [cell_of_block hSw]; rfl)); (have e1 : W0.cell? ⟨W1.heap.size, 1, none⟩ = some (.string vs) := (by rw [cell_of_block hSw]; rfl)); go_simp; (try with_reducible rfl)); (try simp only [Act.put, List.setIfInBounds_toArray, List.set_cons_zero, List.set_cons_succ]))
  (refine wpAnyH_take (i := 3) (v := ?_) rfl (by kernel_rfl) (by kernel_rfl) (by kernel_rfl) (fun _ _ _ h => h) (Or.inl ⟨by kernel_rfl, ?_⟩) (by assumption) ?_; rotate_left 1; (intro W0 hSw; (have e0 : W0.cell? ⟨W1.heap.size, 0, none⟩ = some (.int .i64 va) := (by rw [cell_of_block hSw]; rfl)); (have e1 : W0.cell? ⟨W1.heap.size, 1, none⟩ = some (.string vs) := (by rw [cell_of_block hSw]; rfl)); go_simp; (try with_reducible rfl)); (try simp only [Act.put, List.setIfInBounds_toArray, List.set_cons_zero, List.set_cons_succ]))
  (refine wpAnyH_take (i := 4) (v := ?_) rfl (by kernel_rfl) (by kernel_rfl) (by kernel_rfl) (fun _ _ _ h => h) (Or.inl ⟨by kernel_rfl, ?_⟩) (by assumption) ?_; rotate_left 1; (intro W0 hSw; (have e0 : W0.cell? ⟨W1.heap.size, 0, none⟩ = some (.int .i64 va) := (by rw [cell_of_block hSw]; rfl)); (have e1 : W0.cell? ⟨W1.heap.size, 1, none⟩ = some (.string vs) := (by rw [cell_of_block hSw]; rfl)); go_simp; (try with_reducible rfl)); (try simp only [Act.put, List.setIfInBounds_toArray, List.set_cons_zero, List.set_cons_succ]))
  refine wpAnyH_ready (rs := [2]) (by kernel_rfl) (by simp) ?_
  refine AllReadyH.cons rfl (fun K hK => ?_) AllReadyH.nil
  go_simp
  refine hK.out _ _ (hX2) (fun hHeld => ?_)
  clear hK K
  (try simp only [Act.put, List.setIfInBounds_toArray, List.set_cons_zero, List.set_cons_succ])
  (refine wpAnyH_take (i := 5) (v := ?_) rfl (by kernel_rfl) (by kernel_rfl) (by kernel_rfl) (fun _ _ _ h => h) (Or.inl ⟨by kernel_rfl, ?_⟩) (by assumption) ?_; rotate_left 1; (intro W0 hSw; (have e0 : W0.cell? ⟨W1.heap.size, 0, none⟩ = some (.int .i64 va) := (by rw [cell_of_block hSw]; rfl)); (have e1 : W0.cell? ⟨W1.heap.size, 1, none⟩ = some (.string vs) := (by rw [cell_of_block hSw]; rfl)); go_simp; (try with_reducible rfl)); (try simp only [Act.put, List.setIfInBounds_toArray, List.set_cons_zero, List.set_cons_succ]))
  (refine wpAnyH_take (i := 6) (v := ?_) rfl (by kernel_rfl) (by kernel_rfl) (by kernel_rfl) (fun _ _ _ h => h) (Or.inl ⟨by kernel_rfl, ?_⟩) (by assumption) ?_; rotate_left 1; (intro W0 hSw; (have e0 : W0.cell? ⟨W1.heap.size, 0, none⟩ = some (.int .i64 va) := (by rw [cell_of_block hSw]; rfl)); (have e1 : W0.cell? ⟨W1.heap.size, 1, none⟩ = some (.string vs) := (by rw [cell_of_block hSw]; rfl)); go_simp; (try with_reducible rfl)); (try simp only [Act.put, List.setIfInBounds_toArray, List.set_cons_zero, List.set_cons_succ]))
  (refine wpAnyH_take (i := 7) (v := ?_) rfl (by kernel_rfl) (by kernel_rfl) (by kernel_rfl) (fun _ _ _ h => h) (Or.inl ⟨by kernel_rfl, ?_⟩) (by assumption) ?_; rotate_left 1; (intro W0 hSw; (have e0 : W0.cell? ⟨W1.heap.size, 0, none⟩ = some (.int .i64 va) := (by rw [cell_of_block hSw]; rfl)); (have e1 : W0.cell? ⟨W1.heap.size, 1, none⟩ = some (.string vs) := (by rw [cell_of_block hSw]; rfl)); go_simp; (try with_reducible rfl)); (try simp only [Act.put, List.setIfInBounds_toArray, List.set_cons_zero, List.set_cons_succ]))
  refine wpAnyH_done (by kernel_rfl) ?_ _
  (try dsimp only [Act.put, List.getElem_toArray, List.getElem_cons_succ, List.getElem_cons_zero, List.setIfInBounds_toArray, List.set_cons_zero, List.set_cons_succ])
  clear hHeld
  go_wp2_with fail
  refine bodyPost_ret (v := .tuple #[.slice (some ⟨W1.heap.size + 1, 0, none⟩) vs.size c2, .int .i64 va, .int .i64 0]) ?_ rfl ⟨⟨_, _, _, rfl, HV.out⟩, B2.out⟩
  simp [results, Try.f24, go_sem]
end Go.Proofs.Ytpbejbpimcidjaa
