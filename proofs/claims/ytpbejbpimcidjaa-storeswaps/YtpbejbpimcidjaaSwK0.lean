/- The store's first three calls. -/
import Derived.Test.YtpbejbpimcidjaaSwS
set_option linter.unusedSimpArgs false
set_option linter.unusedVariables false
namespace Go.Proofs.Ytpbejbpimcidjaa
open Go Go.Lib Go.RowKit Go.Maps Go.Sort

abbrev ob : ByteArray := ⟨#[111, 116, 104, 101, 114]⟩
abbrev bo : ByteArray := ⟨#[1]⟩
/-- all blocks but the store's own -/
def FO (W : World) (S : Nat) : Nat → Prop := fun y => y < W.heap.size ∧ y ≠ S
theorem FO.refl (W : World) (S : Nat) : Fr (FO W S) W W := Fr.refl (fun y h => h.1)
theorem Sto.down {F G : Nat → Prop} {w0 W W' : World} {S : Nat} {rev floor : Int} {bb bn n : Nat} {D DN : DataW Unit} {pv : Value} {l : List Evt} (h : Sto F W W' S rev floor bb bn n D DN pv l) (hs : ∀ y, G y → F y) (hb : Fr G w0 W) : Sto G w0 W' S rev floor bb bn n D DN pv l := by
  refine ⟨hb.trans h.bel hs, h.box, h.base, h.now, ?_, fun q => h.s (hs _ q), fun q => h.b1 (hs _ q), fun q => h.b2 (hs _ q), h.ne, h.ok⟩
  rcases h.past.p with q | ⟨g, o, c, sz, rfl, p1, p2, p3, p4⟩
  · exact ⟨.inl q⟩
  · exact ⟨.inr ⟨g, o, c, sz, rfl, p1, p2, fun q => p3 (hs _ q), p4⟩⟩
theorem other_worn (W : World) (S : Nat) (first : Int) (hbox : W.heap[S]? = some (.cells #[.int .i64 first, .int .i64 first, .map none, .map none, .slice none 0 0] 57)) (hr : 9007199254740991 ≤ first) (g : Nat) (hg : W.heap[g]? = some (.cells #[.int .u8 1] 5)) :
    Calls Try.prog 5 #[.pointer (some ⟨S, 0, none⟩), .string ob, .slice (some ⟨g, 0, none⟩) 1 1] W fun e W' => e = .returned (.tuple #[.int .i64 0, .int .i64 194]) ∧ Below W.heap.size W W' :=
  create_gen W S first first (.map none) (.map none) (.slice none 0 0) 0 (.map []) ob bo _ _ _ hbox (.inl ⟨rfl, rfl⟩) (by decide) (by decide) (by decide) (Rd.one (x := 1) hg) rfl (by decide) 0 194 (Below W.heap.size W)
    (fun W1 b => (write_worn W1 S first first _ _ _ 1 ob bo ((b.block S (lt_of_block hbox)).trans hbox) hr).mono (fun e W' ⟨he, hb⟩ => ⟨he, b.trans (hb.mono b.size)⟩))
theorem other_create (W : World) (S : Nat) (first : Int) (hbox : W.heap[S]? = some (.cells #[.int .i64 first, .int .i64 first, .map none, .map none, .slice none 0 0] 57)) (h0 : 0 ≤ first) (hr : first < 9007199254740991) (g : Nat) (hg : W.heap[g]? = some (.cells #[.int .u8 1] 5)) :
    Calls Try.prog 5 #[.pointer (some ⟨S, 0, none⟩), .string ob, .slice (some ⟨g, 0, none⟩) 1 1] W fun e W' => e = .returned (.tuple #[.int .i64 (first + 1), .int .i64 0]) ∧ ∃ bb bn pv, Sto (FO W S) W W' S (first + 1) first bb bn 1 (.map []) (wr (.map []) 1 ob (first + 1) bo) pv [(1, ob, bo)] :=
  create_first (FO W S) W W S first first ob bo _ _ _ (FO.refl W S) hbox (fun q => q.2 rfl) ⟨h0, hr⟩ (by decide) (by decide) (by decide) (Rd.one (x := 1) hg)
theorem other_at (r : Int) : ∀ z, (wr (.map []) 1 ob r bo).atKey (kL ob) z = dat r bo := fun z => by
  rw [wr_put]
  exact atKey_put_same tidy_empty.isMap (kl_key ob) _ _
theorem other_gone (r r' : Int) : wr (wr (.map []) 1 ob r bo) 3 ob r' bo = .map [] := by
  rw [wr_del, wr_put]
  first | rfl | simp [DataW.put, DataW.del]
section
variable {F : Nat → Prop} {w0 W : World} {S : Nat} {first : Int} {bb bn : Nat} {pv : Value}
theorem other_remove (h : Sto F w0 W S (first + 1) first bb bn 1 (.map []) (wr (.map []) 1 ob (first + 1) bo) pv [(1, ob, bo)]) (h0 : 0 ≤ first) (hr : first + 1 < 9007199254740991) :
    Calls Try.prog 6 #[.pointer (some ⟨S, 0, none⟩), .string ob, .int .i64 (first + 1)] W fun e W' => e = .returned (.tuple #[.int .i64 (first + 1 + 1), .int .i64 0]) ∧ ∃ pv', Sto F w0 W' S (first + 1 + 1) first bb bn 2 (.map []) (.map []) pv' [(1, ob, bo), (3, ob, bo)] :=
  remove_gen W S _ _ _ _ _ 1 _ ob bo (first + 1) h.box h.mpv (by decide) (by decide) (other_at _) (first + 1 + 1) 0 (fun W' => ∃ pv', Sto F w0 W' S (first + 1 + 1) first bb bn 2 (.map []) (.map []) pv' [(1, ob, bo), (3, ob, bo)])
    (fun W1 b => by
      have := write_any F w0 W1 S _ _ bb bn 1 _ _ 3 ob bo pv _ (h.keep b) (by decide) (by decide) ⟨by omega, hr⟩ (.inr (.inr rfl)) (by decide)
      rw [other_gone] at this
      exact this)
theorem other_last (h : Sto F w0 W S (first + 1) first bb bn 1 (.map []) (wr (.map []) 1 ob (first + 1) bo) pv [(1, ob, bo)]) (hr : 9007199254740991 ≤ first + 1) :
    Calls Try.prog 6 #[.pointer (some ⟨S, 0, none⟩), .string ob, .int .i64 (first + 1)] W fun e W' => e = .returned (.tuple #[.int .i64 0, .int .i64 194]) ∧ Below W.heap.size W W' :=
  remove_gen W S _ _ _ _ _ 1 _ ob bo (first + 1) h.box h.mpv (by decide) (by decide) (other_at _) 0 194 (Below W.heap.size W)
    (fun W1 b => (write_worn W1 S _ _ _ _ _ 3 ob bo ((b.block S (lt_of_block h.box)).trans h.box) hr).mono (fun e W' ⟨he, hb⟩ => ⟨he, b.trans (hb.mono b.size)⟩))
theorem other_compact (h : Sto F w0 W S (first + 1 + 1) first bb bn 2 (.map []) (.map []) pv [(1, ob, bo), (3, ob, bo)]) (h0 : 0 ≤ first) (hr : first + 1 < 9007199254740991) :
    Calls Try.prog 7 #[.pointer (some ⟨S, 0, none⟩), .int .i64 (first + 1 + 1)] W fun e W' => e = .returned (.int .i64 0) ∧ ∃ pv', Sto F w0 W' S (first + 1 + 1) (first + 1 + 1) bb bn 4 (.map []) (.map []) pv' [] := by
  have e2 : first + ((2 : Nat) : Int) = first + 1 + 1 := by omega
  have c := compact_many F w0 W S (first + 1 + 1) first bb bn 2 (.map []) (.map []) pv _ 2 h (by decide) (by decide) (by decide) (by decide) ⟨h0, by omega⟩ (by omega)
  have hf : fol (.map []) first (List.take 2 [((1 : Int), ob, bo), (3, ob, bo)]) = .map [] := other_gone (first + 1) (first + 1 + 1)
  rw [hf, e2] at c
  exact c
end
/-- behind the three calls -/
theorem stx_new {w0 W W' : World} {S : Nat} {first : Int} {bb bn : Nat} {pv : Value} (h : Sto (FO W S) W W' S first first bb bn 4 (.map []) (.map []) pv []) (hb : Fr (F0 w0) w0 W) (hS : w0.heap.size ≤ S) : StX w0 W' S first [] 0 := by
  refine .inr ⟨bb, bn, 4, pv, by simp, ?_⟩
  have e0 : first + ((([] : List He).length : Nat) : Int) = first := by simp
  have e1 : first + ((0 : Nat) : Int) = first := by simp
  rw [e0, e1]
  exact h.down (fun y hy => ⟨Nat.lt_of_lt_of_le hy hb.size, fun q => by unfold F0 at hy; omega⟩) hb
theorem stx_worn {w0 W : World} {S : Nat} {first : Int} (hbox : W.heap[S]? = some (.cells #[.int .i64 first, .int .i64 first, .map none, .map none, .slice none 0 0] 57)) (hm : first = mx) (hb : Fr (F0 w0) w0 W) (hS : w0.heap.size ≤ S) : StX w0 W S first [] 0 := .inl ⟨rfl, hm, rfl, hbox, hb, hS⟩
theorem kb_of_fo {W W' : World} {S : Nat} (h : Fr (FO W S) W W') {o : Array Value} {fr : Nat × Nat} (hb : W.heap[S]? = some (.cells o 57 fr)) : Kb W W' := fun y c t fr e ht => by
  refine h.block y ⟨lt_of_block e, fun q => ?_⟩
  rw [q, hb] at e
  simp only [Option.some.injEq, Obj.cells.injEq] at e
  rw [← e.2.1] at ht
  simp at ht
end Go.Proofs.Ytpbejbpimcidjaa
