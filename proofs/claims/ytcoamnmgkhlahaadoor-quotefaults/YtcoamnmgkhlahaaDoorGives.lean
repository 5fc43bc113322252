/- The contracts in one form: with the tables in memory, a call answers just this, and nothing old has turned. -/
import Derived.Test.YtcoamnmgkhlahaaDoorReadsW
import Derived.Test.YtcoamnmgkhlahaaDoorWalksD
import Derived.Test.YtcoamnmgkhlahaaDoorPlainX
set_option linter.unusedSimpArgs false
set_option linter.unusedVariables false
namespace Go.Proofs.YtcoamnmgkhlahaaDoor
open Go.RowKit Go.Lib

/-- the tables that the calls read -/
structure Tb (w : World) : Prop where
  u : Utf8Tabs 0 1 w
  l : LetTab w
  s : SaidT w
  z : 4 < w.heap.size
theorem Tb.below {w w' : World} (h : Tb w) (hb : Below w.heap.size w w') : Tb w' :=
  ⟨utab_below h.u hb (by have := h.z; omega), h.l.below hb (by have := h.z; omega), h.s.below hb h.z, by have := h.z; have := hb.size; omega⟩

/-- the call answers just X -/
def Gives (f : Nat) (args : Array Value) (X : Value) : Prop :=
  ∀ w0 w : World, Below w0.heap.size w0 w → Tb w → Calls Tryd.prog f args w fun e w' => e = .returned X ∧ Below w0.heap.size w0 w' ∧ Tb w'

theorem Gives.of {f : Nat} {args : Array Value} {X : Value} (h : ∀ w, Tb w → Calls Tryd.prog f args w fun e w' => e = .returned X ∧ Below w.heap.size w w') : Gives f args X := by
  intro w0 w b t
  refine (h w t).mono ?_
  rintro e w' ⟨he, hb⟩
  exact ⟨he, b.trans (hb.mono b.size), t.below hb⟩

theorem gives_quote (s : ByteArray) (hs : s.size ≤ 1048576) (hV : validD s.data.toList = true) : Gives 8 #[.string s] (.tuple #[.string ⟨(Q.qt s.data.toList).toArray⟩, .int .i64 0]) :=
  Gives.of fun w t => quote_good s w hs t.u t.l (by have := t.z; omega) hV
theorem gives_quote_bad (s : ByteArray) (hs : s.size ≤ 1048576) (hV : validD s.data.toList = false) : Gives 8 #[.string s] (.tuple #[.string ⟨#[]⟩, .int .i64 11]) :=
  Gives.of fun w t => quote_bad s w hs t.u hV
theorem gives_size (s : ByteArray) (hs : s.size ≤ 1048576) (hV : validD s.data.toList = true) : Gives 9 #[.string s] (.tuple #[.int .i64 (2 + Q.sz s.data.toList : Nat), .int .i64 0]) :=
  Gives.of fun w t => size_good s w hs t.u t.l (by have := t.z; omega) hV
theorem gives_size_bad (s : ByteArray) (hs : s.size ≤ 1048576) (hV : validD s.data.toList = false) : Gives 9 #[.string s] (.tuple #[.int .i64 0, .int .i64 11]) :=
  Gives.of fun w t => size_bad s w hs t.u hV
theorem gives_valid (s : ByteArray) (hs : s.size ≤ 140737488351232) : Gives 11 #[.string s] (.bool (validD s.data.toList)) :=
  Gives.of fun w t => valid_any s w hs t.u
theorem gives_unquote_long (s : ByteArray) (z : Int) (hz1 : -9223372036854775808 ≤ z) (hz2 : z ≤ 9223372036854775807) (hs : s.size ≤ 281474976710656) (l : List UInt8) (p er : Nat) (h : Q.unqAll s.data.toList z = (l, p, er)) (hM : Q.Borne (l, p, er)) :
    Gives 13 #[.string s, .int .i64 z] (.tuple #[.string ⟨l.toArray⟩, .int .i64 (p : Int), .int .i64 (er : Int)]) :=
  Gives.of fun w t => by
    have := unquote_long s z w hz1 hz2 hs (by rw [h]; exact hM) t.s t.u t.z
    rw [h] at this
    exact this
theorem gives_unquote (s : ByteArray) (z : Int) (hz1 : -9223372036854775808 ≤ z) (hz2 : z ≤ 9223372036854775807) (hs : s.size ≤ 140737488355000) (l : List UInt8) (p er : Nat) (h : Q.unqAll s.data.toList z = (l, p, er)) :
    Gives 13 #[.string s, .int .i64 z] (.tuple #[.string ⟨l.toArray⟩, .int .i64 (p : Int), .int .i64 (er : Int)]) :=
  gives_unquote_long s z hz1 hz2 (by omega) l p er h (by rw [← h]; exact Q.borne_of s z hs)

set_option maxRecDepth 100000 in
theorem awake_q : Q.qt [97, 10] = [34, 97, 92, 110, 34] := by decide
set_option maxRecDepth 100000 in
theorem awake_u : Q.unqAll [120, 34, 92, 117, 48, 48, 52, 49, 92, 47, 34, 121] 1 = ([65, 47], 11, 0) := by decide +kernel
theorem awake_v : validD [97, 10] = true := by decide +kernel

set_option maxHeartbeats 1000000 in
set_option maxRecDepth 100000 in
theorem gives_awake : Gives 15 #[] (.bool true) := by
  have c8 : Hid (Gives 8 #[.string ⟨#[97, 10]⟩] (.tuple #[.string ⟨#[34, 97, 92, 110, 34]⟩, .int .i64 0])) := by
    have h := gives_quote ⟨#[97, 10]⟩ (by decide) awake_v
    have e : Q.qt (⟨#[97, 10]⟩ : ByteArray).data.toList = [34, 97, 92, 110, 34] := awake_q
    rw [e] at h
    exact h
  have c13 : Hid (Gives 13 #[.string ⟨#[120, 34, 92, 117, 48, 48, 52, 49, 92, 47, 34, 121]⟩, .int .i64 1] (.tuple #[.string ⟨#[65, 47]⟩, .int .i64 11, .int .i64 0])) :=
    gives_unquote ⟨#[120, 34, 92, 117, 48, 48, 52, 49, 92, 47, 34, 121]⟩ 1 (by decide) (by decide) (by decide) [65, 47] 11 0 awake_u
  intro w0 w b0 t0
  go_enter Tryd.func15, Tryd.ntmps15
  go_wp2_with fail
  refine (c8.out w0 _ b0 t0).mono ?_
  rintro e w1 ⟨rfl, b1, t1⟩
  go_wp2_with fail
  refine (c13.out w0 _ b1 t1).mono ?_
  rintro e w2 ⟨rfl, b2, t2⟩
  go_wp2
  go_ret
  exact ⟨rfl, b2, t2⟩
end Go.Proofs.YtcoamnmgkhlahaaDoor
