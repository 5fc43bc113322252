import Derived.Test.YtolekldjbbjmjaaGreatDoorRows
import Derived.Test.YtolekldjbbjmjaaGreatDoorTrmW
import Derived.Lib.LaidIn
import Derived.Lib.LaidU8T
import Derived.WideKeyArgs
import Derived.OpenShut
import Derived.Deep.DeepHandedRow
/- What the rows need: the tables, the arguments opened and given back, a world for the witness. -/
set_option linter.unusedSimpArgs false
set_option linter.unusedVariables false
namespace Go.Proofs.YtolekldjbbjmjaaGreatDoor
open Go.Shelf Go.Lib Go.ChangeShapes Go.RowKit Go.WideShapes Go.Deep
theorem accept_eq : Rows.laid_unicode_utf8_acceptRanges = Lib.acceptData := by kernel_rfl
theorem first_eq : Rows.laid_unicode_utf8_first = Lib.firstData := by kernel_rfl
theorem utabs_of {W : World} (h3 : VarReads Tryz.prog W "unicode/utf8.first" Rows.laid_unicode_utf8_first) (h4 : VarReads Tryz.prog W "unicode/utf8.acceptRanges" Rows.laid_unicode_utf8_acceptRanges) : Utf8Tabs 0 1 W := by
  rw [first_eq] at h3
  rw [accept_eq] at h4
  exact utf8Tabs_of_readsT (U8Types.of196 Tryz.lays196) ⟨by kernel_rfl, by kernel_rfl, by kernel_rfl, by kernel_rfl, by kernel_rfl, by kernel_rfl, by kernel_rfl⟩ h3 h4
theorem laidOut' : laidOutB Tryz.prog = true := by kernel_rfl
theorem own : ownKnob Tryz.prog.godebug = none := by kernel_rfl
def putCells (cs : Array Value) : Obj → Obj
  | .cells _ t frozen => .cells cs t frozen
  | o => o
theorem below_same {B : Nat} {w w' : World} (h : Below B w w') : ∀ {p : MemPlace}, p.block < B → w.sameAt w' p
  | .cell b off, hp => by
    show w'.cell? ⟨b, off, none⟩ = w.cell? ⟨b, off, none⟩
    exact h.cell (p := ⟨b, off, none⟩) hp
  | .map b, hp => h.block b hp
variable {H : Type} {enc : TypeId × Value → H}
theorem cells50 : Tryz.prog.cellsOf 35 = 3 := by kernel_rfl
theorem cells54 : Tryz.prog.cellsOf 64 = 3 := by kernel_rfl
theorem cells48 : Tryz.prog.cellsOf 33 = 1 := by kernel_rfl
theorem len3 {α : Type} {l : List α} (h : l.length = 3) : ∃ c0 c1 c2, l = [c0, c1, c2] := by
  match l, h with
  | [c0, c1, c2], _ => exact ⟨_, _, _, rfl⟩
theorem bulk_pos : ∀ d : DataW H, 1 ≤ Rows.uptoBulk d
  | .lit l => by cases l <;> simp [Rows.uptoBulk]
  | .nil => by simp [Rows.uptoBulk]
  | .ptr _ => by simp [Rows.uptoBulk]
  | .slice _ _ => by simp [Rows.uptoBulk]
  | .agg _ => by simp [Rows.uptoBulk]
  | .iface _ _ => by simp [Rows.uptoBulk]
  | .map _ => by simp [Rows.uptoBulk]
  | .held _ => by simp [Rows.uptoBulk]
theorem mem_bulk : ∀ {l : List (DataW H)} {d : DataW H}, d ∈ l → Rows.uptoBulk d ≤ Rows.uptoBulkAll l
  | x :: t, d, h => by
    rcases List.mem_cons.1 h with rfl | h
    · simp only [Rows.uptoBulkAll]; omega
    · have := mem_bulk h; simp only [Rows.uptoBulkAll]; omega
theorem len_bulk : ∀ l : List (DataW H), l.length ≤ Rows.uptoBulkAll l
  | [] => Nat.zero_le _
  | x :: t => by
    have := len_bulk t
    have := bulk_pos x
    simp only [List.length_cons, Rows.uptoBulkAll]
    omega
section
variable {w : World} {spare : Nat → Bool} {held : Bool}
theorem open_texts {n : Nat} {cs : List Value} {x} (h : DataW.trod enc Tryz.prog w 0 spare held n 33 cs = some x) (hb : Rows.uptoBulk x.1 ≤ 1048576) : ∃ (l : List ByteArray) (a : Option Addr) (c b o : Nat), cs = [.slice a l.length c] ∧ Headed a l.length c b o ∧ liesS w (Old w) l b o := by
  cases n with
  | zero => simp [DataW.trod] at h
  | succ n =>
  rcases DataW.trod_slice Tryz.underlying33 h with ⟨rfl, _⟩ | ⟨a, len, cap, elems, rest, n', hn, rfl, hx, _, hlc, hcm, hlen, hel, _⟩
  · exact ⟨[], none, 0, 0, 0, rfl, ⟨Nat.le_refl _, by simp [maxLen], .inl rfl, fun _ => rfl⟩, fun j hj => by simp at hj⟩
  rw [cells9] at hel
  rw [hx] at hb
  simp only [Rows.uptoBulk] at hb
  obtain ⟨l, b, o, hll, hao, hq⟩ := elems_at (w := w) (a := a) (len := len) (k := 1) (Q := fun (s : ByteArray) cs => cs = [.string s] ∧ s.size ≤ 1048576) (by omega) (fun i hi => by
    have he := hel i hi
    rw [List.getElem?_eq_getElem (by omega)] at he
    obtain ⟨cs, h1, h2⟩ := Option.bind_eq_some_iff.1 he
    obtain ⟨s, e3, q3, hs⟩ := DataW.trod_string Tryz.underlying9 h2
    refine ⟨cs, s, h1, e3, ?_⟩
    have hm := mem_bulk (l := elems.map (·.1)) (List.mem_map.2 ⟨elems[i], List.getElem_mem _, rfl⟩)
    rw [q3] at hm
    simp only [Rows.uptoBulk] at hm
    have hss : s.data.toList.length = s.size := by simp
    omega)
  subst hll
  refine ⟨l, some a, cap, b, o, rfl, ⟨hlc, hcm, ?_, fun h => by cases h⟩, fun j hj => ?_⟩
  · rcases hao with h | rfl
    · exact .inl h
    · exact .inr rfl
  · obtain ⟨h1, cs, h2, rfl, h4⟩ := hq j hj
    refine ⟨h1, Nat.le_trans h4 (by decide), ?_⟩
    have := h2 0 _ rfl
    simpa using this
theorem open_term {n : Nat} {cs : List Value} {x} (h : DataW.trod enc Tryz.prog w 0 spare held n 35 cs = some x) (hb : Rows.uptoBulk x.1 ≤ 1048576) : ∃ t : Trm, Trm.lies false w (Old w) t cs := by
  cases n with
  | zero => simp [DataW.trod] at h
  | succ n =>
  obtain ⟨xs, n', hn, hx, hl, hlen, hf⟩ := DataW.trod_struct Tryz.underlying35 h
  rw [cells50] at hl
  obtain ⟨c0, c1, c2, rfl⟩ := len3 hl
  have h6 : xs.length = 3 := hlen
  obtain ⟨x0, x1, x2, rfl⟩ := len3 h6
  have f0 := hf 0 _ rfl
  simp only [List.getElem?_cons_zero, List.getElem?_cons_succ] at f0
  have f1 := hf 1 _ rfl
  simp only [List.getElem?_cons_zero, List.getElem?_cons_succ] at f1
  have f2 := hf 2 _ rfl
  simp only [List.getElem?_cons_zero, List.getElem?_cons_succ] at f2
  simp [cells3, cells9, cells48] at f0 f1 f2
  obtain ⟨s, e0, q0, hs⟩ := DataW.trod_string Tryz.underlying9 f0
  obtain ⟨k, e1, q1, wk⟩ := DataW.trod_int Tryz.underlying3 f1
  rw [hx] at hb
  simp only [List.map_cons, List.map_nil, Rows.uptoBulk, Rows.uptoBulkAll, q0, q1] at hb
  have hss : s.data.toList.length = s.size := by simp
  obtain ⟨l, a, c, b, o, e2, h1, h2⟩ := open_texts f2 (by omega)
  simp only [List.cons.injEq, and_true] at e0 e1 e2
  subst e0 e1 e2
  exact ⟨(s, k, l), a, c, b, o, rfl, in64_of wk, (by show s.size ≤ _; omega), h1, h2, fun h => by cases h⟩
theorem open_terms {W : World} {spare : Nat → Bool} {held : Bool} {v : Value} {d : DataW H} {p : List MemPlace} (hsl : ∃ a n c, v = .slice a n c) (h : DataW.Trod enc Tryz.prog W 0 spare held 22 v d p) (hb : Rows.uptoBulk d ≤ 1048576) : ∃ (l : List Trm) (a : Option Addr) (c b o : Nat), v = .slice a l.length c ∧ Headed a l.length c b o ∧ liesT false W (Old W) l b o := by
  obtain ⟨n, hn⟩ := h
  obtain ⟨a0, n0, c0, rfl⟩ := hsl
  rcases DataW.trod_slice Tryz.underlying22 hn with ⟨e, _⟩ | ⟨a, len, cap, elems, rest, n', _, e, hx, _, hlc, hcm, hlen, hel, _⟩
  · have hvv : (Value.slice a0 n0 c0) = .slice none 0 0 := by simpa [Value.cells] using e
    rw [hvv]
    exact ⟨[], none, 0, 0, 0, rfl, ⟨Nat.le_refl _, by simp [maxLen], .inl rfl, fun _ => rfl⟩, fun j hj => by simp at hj⟩
  have hvv : (Value.slice a0 n0 c0) = .slice (some a) len cap := by simpa [Value.cells] using e
  rw [hvv]
  rw [cells50] at hel
  have hd : d = .slice (elems.map (·.1)) (rest.map (·.1)) := congrArg Prod.fst hx
  rw [hd] at hb
  simp only [Rows.uptoBulk] at hb
  obtain ⟨l, b, o, hll, hao, hq⟩ := elems_at (w := W) (a := a) (len := len) (k := 3) (Q := fun (t : Trm) cs => Trm.lies false W (Old W) t cs) (by omega) (fun i hi => by
    have he := hel i hi
    rw [List.getElem?_eq_getElem (by omega)] at he
    obtain ⟨cs, h1, h2⟩ := Option.bind_eq_some_iff.1 he
    have hm := mem_bulk (l := elems.map (·.1)) (List.mem_map.2 ⟨elems[i], List.getElem_mem _, rfl⟩)
    obtain ⟨t, ht⟩ := open_term h2 (by omega)
    exact ⟨cs, t, h1, ht⟩)
  subst hll
  refine ⟨l, some a, cap, b, o, rfl, ⟨hlc, hcm, ?_, fun h => by cases h⟩, fun j hj => ?_⟩
  · rcases hao with h | rfl
    · exact .inl h
    · exact .inr rfl
  · obtain ⟨h1, cs, h2, h3⟩ := hq j hj
    exact ⟨h1, cs, h2, h3⟩
theorem open_label {n : Nat} {cs : List Value} {x} (h : DataW.trod enc Tryz.prog w 0 spare held n 64 cs = some x) (hb : Rows.uptoBulk x.1 ≤ 1048576) : ∃ t : Lab, cs = [.string t.1, .string t.2.1, .int .i64 t.2.2] ∧ t.ok ∧ t.1.size + t.2.1.size ≤ 1048576 := by
  cases n with
  | zero => simp [DataW.trod] at h
  | succ n =>
  obtain ⟨xs, n', hn, hx, hl, hlen, hf⟩ := DataW.trod_struct Tryz.underlying64 h
  rw [cells54] at hl
  obtain ⟨c0, c1, c2, rfl⟩ := len3 hl
  have h6 : xs.length = 3 := hlen
  obtain ⟨x0, x1, x2, rfl⟩ := len3 h6
  have f0 := hf 0 _ rfl
  simp only [List.getElem?_cons_zero, List.getElem?_cons_succ] at f0
  have f1 := hf 1 _ rfl
  simp only [List.getElem?_cons_zero, List.getElem?_cons_succ] at f1
  have f2 := hf 2 _ rfl
  simp only [List.getElem?_cons_zero, List.getElem?_cons_succ] at f2
  simp [cells3, cells9] at f0 f1 f2
  obtain ⟨s, e0, q0, hs⟩ := DataW.trod_string Tryz.underlying9 f0
  obtain ⟨u, e1, q1, hu⟩ := DataW.trod_string Tryz.underlying9 f1
  obtain ⟨k, e2, q2, wk⟩ := DataW.trod_int Tryz.underlying3 f2
  rw [hx] at hb
  simp only [List.map_cons, List.map_nil, Rows.uptoBulk, Rows.uptoBulkAll, q0, q1, q2] at hb
  have hss : s.data.toList.length = s.size := by simp
  have hsu : u.data.toList.length = u.size := by simp
  simp only [List.cons.injEq, and_true] at e0 e1 e2
  subst e0 e1 e2
  exact ⟨(s, u, k), rfl, ⟨(by show s.size ≤ _; omega), (by show u.size ≤ _; omega), in64_of wk⟩, by show s.size + u.size ≤ _; omega⟩
theorem open_labels {W : World} {spare : Nat → Bool} {held : Bool} {v : Value} {d : DataW H} {p : List MemPlace} (hsl : ∃ a n c, v = .slice a n c) (h : DataW.Trod enc Tryz.prog W 0 spare held 23 v d p) (hb : Rows.uptoBulk d ≤ 1048576) : ∃ (l : List Lab) (a : Option Addr) (c b o : Nat), v = .slice a l.length c ∧ Headed a l.length c b o ∧ liesB W (Old W) l b o ∧ l.length ≤ 1048576 ∧ ∀ x ∈ l, x.1.size + x.2.1.size ≤ 1048576 := by
  obtain ⟨n, hn⟩ := h
  obtain ⟨a0, n0, c0, rfl⟩ := hsl
  rcases DataW.trod_slice Tryz.underlying23 hn with ⟨e, _⟩ | ⟨a, len, cap, elems, rest, n', _, e, hx, _, hlc, hcm, hlen, hel, _⟩
  · have hvv : (Value.slice a0 n0 c0) = .slice none 0 0 := by simpa [Value.cells] using e
    rw [hvv]
    exact ⟨[], none, 0, 0, 0, rfl, ⟨Nat.le_refl _, by simp [maxLen], .inl rfl, fun _ => rfl⟩, fun j hj => by simp at hj, by simp, fun x hx => by cases hx⟩
  have hvv : (Value.slice a0 n0 c0) = .slice (some a) len cap := by simpa [Value.cells] using e
  rw [hvv]
  rw [cells54] at hel
  have hd : d = .slice (elems.map (·.1)) (rest.map (·.1)) := congrArg Prod.fst hx
  rw [hd] at hb
  simp only [Rows.uptoBulk] at hb
  have hlb := len_bulk (elems.map (·.1))
  rw [List.length_map] at hlb
  obtain ⟨l, b, o, hll, hao, hq⟩ := elems_at (w := W) (a := a) (len := len) (k := 3) (Q := fun (t : Lab) cs => cs = [.string t.1, .string t.2.1, .int .i64 t.2.2] ∧ t.ok ∧ t.1.size + t.2.1.size ≤ 1048576) (by omega) (fun i hi => by
    have he := hel i hi
    rw [List.getElem?_eq_getElem (by omega)] at he
    obtain ⟨cs, h1, h2⟩ := Option.bind_eq_some_iff.1 he
    have hm := mem_bulk (l := elems.map (·.1)) (List.mem_map.2 ⟨elems[i], List.getElem_mem _, rfl⟩)
    obtain ⟨t, ht⟩ := open_label h2 (by omega)
    exact ⟨cs, t, h1, ht⟩)
  subst hll
  refine ⟨l, some a, cap, b, o, rfl, ⟨hlc, hcm, ?_, fun h => by cases h⟩, fun j hj => ?_, by omega, fun x hx => ?_⟩
  · rcases hao with h | rfl
    · exact .inl h
    · exact .inr rfl
  · obtain ⟨h1, cs, h2, h3, h4, _⟩ := hq j hj
    rw [h3] at h2
    exact ⟨h1, h2, h4⟩
  · obtain ⟨j, hj, rfl⟩ := List.mem_iff_getElem.1 hx
    obtain ⟨_, _, _, _, _, h5⟩ := hq j hj
    exact h5
end
theorem back22 {W W' : World} {v : Value} {d : DataW H} {p : List MemPlace} (h : DataW.Trod enc Tryz.prog W 0 (fun _ => true) true 22 v d p) (hlt : ∀ x ∈ p, x.block < W.heap.size) (hb : Below W.heap.size W W') :
    DataW.Trod enc Tryz.prog W' 0 (fun b => decide (b < W.heap.size)) true 22 v d p :=
  WideElems.Trod_stays (P := Tryz.prog) laidOut' (by kernel_rfl) (of_decide_eq_true (by kernel_rfl)) h (fun x hx => below_same hb (hlt x hx)) (fun x hx => by simpa using hlt x hx)
theorem back23 {W W' : World} {v : Value} {d : DataW H} {p : List MemPlace} (h : DataW.Trod enc Tryz.prog W 0 (fun _ => true) true 23 v d p) (hlt : ∀ x ∈ p, x.block < W.heap.size) (hb : Below W.heap.size W W') :
    DataW.Trod enc Tryz.prog W' 0 (fun b => decide (b < W.heap.size)) true 23 v d p :=
  WideElems.Trod_stays (P := Tryz.prog) laidOut' (by kernel_rfl) (of_decide_eq_true (by kernel_rfl)) h (fun x hx => below_same hb (hlt x hx)) (fun x hx => by simpa using hlt x hx)
theorem block_lt {W : World} {b o : Nat} {v : Value} (h : W.cell? ⟨b, o, none⟩ = some v) : b < W.heap.size := World.block_lt_of_cell? W ⟨b, o, none⟩ h
theorem utab_lt {W : World} (h : Utf8Tabs 0 1 W) : 1 < W.heap.size := block_lt (h.2 0 (by omega)).1
end Go.Proofs.YtolekldjbbjmjaaGreatDoor
