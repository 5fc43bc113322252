/- joined: ScaA PtxP WrtA WrtB -/
import Derived.Lib.ItoaLen
import Derived.Test.YtihcggepeadklaaGreatDoorCpyR
/- A scalar's text: the program's and the document's. -/
set_option linter.unusedSimpArgs false
set_option linter.unusedVariables false
namespace Go.Proofs.YtihcggepeadklaaGreatDoor
open Go.RowKit Go.Lib
def bolT (b : Bool) : List UInt8 := if b = true then [116, 114, 117, 101] else [102, 97, 108, 115, 101]
def scT (k : Int) (b : Bool) (i : Int) (s : ByteArray) : List UInt8 := if k = 1 then bolT b else if k = 2 then itoa i else Q.qt s.data.toList
theorem qt_lenO (s : ByteArray) : (Q.qt s.data.toList).length ≤ 2 + 6 * s.size := by
  have h := Q.sz_le s.data.toList
  have hl : s.data.toList.length = s.size := by simp
  rw [Q.qt_length]; omega
theorem scT_len {k : Int} {b : Bool} {i : Int} {s : ByteArray} (hi : In64 i) : (scT k b i s).length ≤ 30 + 6 * s.size := by
  rw [scT]
  split
  · rw [bolT]; split <;> simp <;> omega
  split
  · have := itoa_length_le i hi.1 hi.2; omega
  · have := qt_lenO s; omega
theorem fbool_any (b : Bool) (w : World) : Calls Tryz.prog 64 #[.bool b] w fun e w' => e = .returned (.string ⟨(bolT b).toArray⟩) ∧ w' = w := by
  have C : Calls Tryz.prog 103 #[.bool b] w fun e w' => e = .returned (.string ⟨(bolT b).toArray⟩) ∧ w' = w := by
    cases b
    · go_enter Tryz.func103, Tryz.ntmps103
      go_wp2
      go_ret
      exact ⟨rfl, rfl⟩
    · go_enter Tryz.func103, Tryz.ntmps103
      go_wp2
      go_ret
      exact ⟨rfl, rfl⟩
  have HC := hmkN C
  generalize (⟨(bolT b).toArray⟩ : ByteArray) = T at *
  clear C
  go_enter Tryz.func64, Tryz.ntmps64
  go_wp2_with fail
  refine HC.out.mono ?_
  rintro e w' ⟨rfl, rfl⟩
  go_wp2_with fail
  go_ret
  exact ⟨rfl, rfl⟩
set_option maxRecDepth 100000 in
set_option maxHeartbeats 2000000 in
theorem sctext_any (k : Int) (b : Bool) (i : Int) (s : ByteArray) (al : Option Addr) (nl cl : Nat) (am : Option Addr) (nm cm : Nat) (w : World) (t : Td w) (hk : k = 1 ∨ k = 2 ∨ k = 3) (hi : In64 i) (hs : s.size ≤ 2147483648) (hV : validD s.data.toList = true) :
    Calls Tryz.prog 40 #[.agg #[.int .i64 k, .bool b, .int .i64 i, .string s, .slice al nl cl, .slice am nm cm]] w (SPost (scT k b i s) w) := by
  have nb := heap_alloc_new w (.cells #[.int .i64 k, .bool b, .int .i64 i, .string s, .slice al nl cl, .slice am nm cm] 46)
  have hza := alloc_size w (.cells #[.int .i64 k, .bool b, .int .i64 i, .string s, .slice al nl cl, .slice am nm cm] 46)
  have bA : Below w.heap.size w (w.alloc (.cells #[.int .i64 k, .bool b, .int .i64 i, .string s, .slice al nl cl, .slice am nm cm] 46)) := (Below.refl _ w).alloc (Nat.le_refl _) _
  have n0 : (w.alloc (.cells #[.int .i64 k, .bool b, .int .i64 i, .string s, .slice al nl cl, .slice am nm cm] 46)).cell? ⟨w.heap.size, 0, none⟩ = some (.int .i64 k) := by rw [cell_of_block nb]; rfl
  have n1 : (w.alloc (.cells #[.int .i64 k, .bool b, .int .i64 i, .string s, .slice al nl cl, .slice am nm cm] 46)).cell? ⟨w.heap.size, 1, none⟩ = some (.bool b) := by rw [cell_of_block nb]; rfl
  have n2 : (w.alloc (.cells #[.int .i64 k, .bool b, .int .i64 i, .string s, .slice al nl cl, .slice am nm cm] 46)).cell? ⟨w.heap.size, 2, none⟩ = some (.int .i64 i) := by rw [cell_of_block nb]; rfl
  have n3 : (w.alloc (.cells #[.int .i64 k, .bool b, .int .i64 i, .string s, .slice al nl cl, .slice am nm cm] 46)).cell? ⟨w.heap.size, 3, none⟩ = some (.string s) := by rw [cell_of_block nb]; rfl
  have tA : Td (w.alloc (.cells #[.int .i64 k, .bool b, .int .i64 i, .string s, .slice al nl cl, .slice am nm cm] 46)) := t.below bA t.z bA.size
  clear nb
  by_cases k1 : k = 1
  · have HC := hmkN (fbool_any b (w.alloc (.cells #[.int .i64 k, .bool b, .int .i64 i, .string s, .slice al nl cl, .slice am nm cm] 46)))
    have HT : Hid (scT k b i s = bolT b) := hmkN (by rw [scT, if_pos k1])
    rw [HT.out]
    subst k1
    generalize bolT b = T at *
    clear hk tA t HT
    go_enter Tryz.func40, Tryz.ntmps40
    go_wp2_with fail
    refine HC.out.mono ?_
    rintro e w' ⟨rfl, rfl⟩
    go_wp2_with fail
    go_ret
    exact ⟨rfl, bA⟩
  by_cases k2 : k = 2
  · have HC := hmkN (itoa_any i hi (w.alloc (.cells #[.int .i64 k, .bool b, .int .i64 i, .string s, .slice al nl cl, .slice am nm cm] 46)) tA.p)
    have HT : Hid (scT k b i s = itoa i) := hmkN (by rw [scT, if_neg k1, if_pos k2])
    rw [HT.out]
    subst k2
    generalize itoa i = T at *
    clear hk tA t HT k1
    go_enter Tryz.func40, Tryz.ntmps40
    go_wp2_with fail
    refine HC.out.mono ?_
    rintro e w' ⟨rfl, hb⟩
    go_wp2_with fail
    go_ret
    exact ⟨rfl, bA.trans (hb.mono (by omega))⟩
  · have k3 : k = 3 := by omega
    have HC := hmkN (quoted_any s (w.alloc (.cells #[.int .i64 k, .bool b, .int .i64 i, .string s, .slice al nl cl, .slice am nm cm] 46)) hs tA.u tA.l tA.z hV)
    subst k3
    have HT : Hid (scT 3 b i s = Q.qt s.data.toList) := hmkN (by rw [scT, if_neg (by omega), if_neg (by omega)])
    rw [HT.out]
    generalize Q.qt s.data.toList = T at *
    clear hk tA t HT k1 k2
    go_enter Tryz.func40, Tryz.ntmps40
    go_wp2_with fail
    refine HC.out.mono ?_
    rintro e w' ⟨rfl, hb⟩
    go_wp2_with fail
    go_ret
    exact ⟨rfl, bA.trans (hb.mono (by omega))⟩
end Go.Proofs.YtihcggepeadklaaGreatDoor
/- A path's text, as plain functions. -/
namespace Go.Proofs.YtihcggepeadklaaGreatDoor
open Go.RowKit Go.Lib
def svT : V → List UInt8
  | .mk k b i s _ _ => scT k b i s
def memT (x : Mem) : List UInt8 := nmT x.1.data.toList ++ 61 :: svT x.2
/-- members, each behind a byte: the first behind the one that is named, each other behind a comma -/
def kyT : UInt8 → List Mem → List UInt8
  | _, [] => []
  | a, x :: t => a :: (memT x ++ kyT 44 t)
def ahd (a : UInt8) (j : Nat) : UInt8 := if j = 0 then a else 44
theorem kyT_snoc : ∀ (l : List Mem) (a : UInt8) (x : Mem), kyT a (l ++ [x]) = kyT a l ++ ahd a l.length :: memT x
  | [], a, x => by simp [kyT, ahd]
  | y :: t, a, x => by
    have e : ahd 44 t.length = ahd a (t.length + 1) := by unfold ahd; split <;> simp
    rw [List.cons_append, kyT, kyT, kyT_snoc t 44 x, List.length_cons, e]; simp
theorem kyT_take {l : List Mem} {j : Nat} (a : UInt8) (h : j < l.length) : kyT a (l.take (j + 1)) = kyT a (l.take j) ++ ahd a j :: memT l[j] := by
  rw [List.take_succ_eq_append_getElem h, kyT_snoc, List.length_take, Nat.min_eq_left (Nat.le_of_lt h)]
def elT (e : El) : List UInt8 :=
  if e.kind = 1 then 46 :: nmT e.name.data.toList
  else if e.kind = 3 then 91 :: 61 :: (svT e.item ++ [93])
  else kyT 91 e.key ++ [93]
def txT (p : List El) : List UInt8 := p.flatMap elT
theorem txT_take {p : List El} {j : Nat} (h : j < p.length) : txT (p.take (j + 1)) = txT (p.take j) ++ elT p[j] := by
  rw [List.take_succ_eq_append_getElem h, txT, List.flatMap_append]; simp [txT]
theorem nmT_len (s : ByteArray) : (nmT s.data.toList).length ≤ 2 + 6 * s.size := by
  rw [nmT]
  split
  · have hl : s.data.toList.length = s.size := by simp
    omega
  · exact qt_lenO s
/-- a number of 64 bits inside -/
def in64V : V → Prop
  | .mk _ _ i _ _ _ => In64 i
theorem svT_len {v : V} (h : in64V v) : (svT v).length ≤ 30 * v.wt := by
  obtain ⟨k, b, i, s, l, m⟩ := v
  have := scT_len (k := k) (b := b) (s := s) (i := i) h
  rw [svT, V.wt]; omega
theorem memT_len {x : Mem} (h : in64V x.2) : (memT x).length + 1 ≤ 40 * (x.1.size + x.2.wt) := by
  have h1 := nmT_len x.1
  have h2 := svT_len h
  have h3 := V.wt_pos x.2
  rw [memT, List.length_append, List.length_cons]; omega
theorem kyT_len : ∀ (l : List Mem) (a : UInt8), (∀ x ∈ l, in64V x.2) → (kyT a l).length ≤ 40 * wtM l
  | [], a, _ => by simp [kyT, wtM]
  | (k, v) :: t, a, h => by
    have h1 := memT_len (x := (k, v)) (h _ (by simp))
    have h2 := kyT_len t 44 (fun x hx => h x (by simp [hx]))
    rw [kyT, wtM, List.length_cons, List.length_append]
    simp only at h1
    omega
def in64E (e : El) : Prop := in64V e.item ∧ ∀ x ∈ e.key, in64V x.2
theorem elT_len {e : El} (h : in64E e) : (elT e).length ≤ 40 * e.wt := by
  have h1 := nmT_len e.name
  have h2 := svT_len h.1
  have h3 := V.wt_pos e.item
  have h4 := kyT_len e.key 91 h.2
  rw [elT, El.wt]
  split
  · rw [List.length_cons]; omega
  split
  · rw [List.length_cons, List.length_cons, List.length_append]; simp only [List.length_cons, List.length_nil]; omega
  · rw [List.length_append]; simp only [List.length_cons, List.length_nil]; omega
theorem txT_len : ∀ (p : List El), (∀ e ∈ p, in64E e) → (txT p).length ≤ 40 * wtP p
  | [], _ => by simp [txT, wtP]
  | e :: t, h => by
    have h1 := elT_len (h e (by simp))
    have h2 := txT_len t (fun x hx => h x (by simp [hx]))
    rw [txT] at h2 ⊢
    rw [List.flatMap_cons, List.length_append, wtP]; omega
theorem in64_lies {R : Bool} {w : World} {S : Nat → Prop} {v : V} {cs : List Value} (h : v.lies R w S cs) : in64V v := by
  obtain ⟨k, b, i, s, l, m⟩ := v
  rw [V.lies] at h
  obtain ⟨al, cl, bl, ol, am, cm, bm, om, _, _, hi, _⟩ := h
  exact hi
theorem in64_liesM {w : World} {S : Nat → Prop} {l : List Mem} {b o : Nat} (h : liesM false w S l b o) : ∀ x ∈ l, in64V x.2 := by
  intro x hx
  obtain ⟨j, hj, rfl⟩ := List.getElem_of_mem hx
  obtain ⟨_, _, cs, _, h2⟩ := liesM_get h j hj
  exact in64_lies h2
theorem in64_liesE {w : World} {S : Nat → Prop} {e : El} {cs : List Value} (h : e.lies w S cs) : in64E e := by
  obtain ⟨am, cm, bm, om, is, h0, h1, h2, h3, h4, h5⟩ := h
  exact ⟨in64_lies h5, in64_liesM h4⟩
theorem in64_liesP {w : World} {S : Nat → Prop} {p : List El} {b o : Nat} (h : liesP w S p b o) : ∀ e ∈ p, in64E e := by
  intro x hx
  obtain ⟨j, hj, rfl⟩ := List.getElem_of_mem hx
  obtain ⟨_, cs, _, h2⟩ := h j hj
  exact in64_liesE h2
end Go.Proofs.YtihcggepeadklaaGreatDoor
/- A builder that is written, beside a box. -/
namespace Go.Proofs.YtihcggepeadklaaGreatDoor
open Go.RowKit Go.Lib
theorem bld_below {B b : Nat} {bs : List Value} {w w' : World} (h : IsBuilderF 54 5 B b bs w) (hb : Below w.heap.size w w') : IsBuilderF 54 5 B b bs w' := by
  have key : ∀ p, BuilderAtF 54 5 B b p bs w → BuilderAtF 54 5 B b p bs w' := fun p h => by
    have hlt := h.lt
    obtain ⟨h1, v, h2, h3, h4⟩ := h
    exact ⟨h1, v, (hb.block b hlt).trans h2, h3.kept (grown_of_below hb) (by cases v.ownBlock <;> simp), h4⟩
  exact h.imp (key _) (key _)
theorem bld_new (w : World) : IsBuilderF 54 5 w.heap.size w.heap.size (byteCells []) (w.alloc (.cells #[.pointer none, .slice none 0 0] 54)) :=
  .inl ⟨Nat.le_refl _, .slice none 0 0, alloc_last w _, World.ownsRowF_nil _ _ _ _, by simp [Value.ownBlock]⟩
theorem bld_lt {B b : Nat} {bs : List Value} {w : World} (h : IsBuilderF 54 5 B b bs w) : B ≤ b ∧ b < w.heap.size := h.elim (fun h => ⟨h.1, h.lt⟩) (fun h => ⟨h.1, h.lt⟩)
theorem bytes_app (a b : List UInt8) : byteCells a ++ byteCells b = byteCells (a ++ b) := by simp [byteCells]
/-- a builder at b holds l, a box at g holds o; below B nothing changed -/
structure Wr (B b : Nat) (l : List UInt8) (g : Nat) (o : Obj) (w0 w : World) : Prop where
  bl : IsBuilderF 54 5 B b (byteCells l) w
  be : Below B w0 w
  ob : w.heap[g]? = some o
  gb : g ≠ b
  oo : ∀ c fz, o ≠ .cells c 5 fz
theorem Wr.call {B b : Nat} {l : List UInt8} {g : Nat} {o : Obj} {w0 w w' : World} (h : Wr B b l g o w0 w) (hb : Below w.heap.size w w') : Wr B b l g o w0 w' := by
  have hl := bld_lt h.bl
  have hg : g < w.heap.size := (Array.getElem?_eq_some_iff.1 h.ob).1
  exact ⟨bld_below h.bl hb, h.be.trans (hb.mono (by omega)), (hb.block g hg).trans h.ob, h.gb, h.oo⟩
theorem Wr.byte {B b : Nat} {l : List UInt8} {g : Nat} {o : Obj} {w0 w : World} (h : Wr B b l g o w0 w) (c : UInt8) (hlen : l.length + 1 ≤ 140737488355328) :
    Calls Tryz.prog 36 #[.pointer (some ⟨b, 0, none⟩), .int .u8 (c.toNat : Int)] w fun e w' => e = .returned .nilIface ∧ Wr B b (l ++ [c]) g o w0 w' := by
  have hl := bld_lt h.bl
  refine (Tryz.WriteByte_k B b (byteCells l) (c.toNat : Int) w h.bl (by rw [byteCells_length]; exact hlen) (by omega)).mono ?_
  rintro e w' ⟨he, h1, h2, h3⟩
  refine ⟨he, .inr ?_, h.be.trans h2, h3 g o h.ob (by simpa using h.gb) h.oo, h.gb, h.oo⟩
  rw [← bytes_app]
  exact h1
theorem Wr.str {B b : Nat} {l : List UInt8} {g : Nat} {o : Obj} {w0 w : World} (h : Wr B b l g o w0 w) (t : List UInt8) (hlen : l.length + t.length ≤ 140737488355328) :
    Calls Tryz.prog 37 #[.pointer (some ⟨b, 0, none⟩), .string ⟨t.toArray⟩] w fun e w' => (∃ n, e = .returned (.tuple #[.int .i64 n, .nilIface])) ∧ Wr B b (l ++ t) g o w0 w' := by
  have hl := bld_lt h.bl
  have hz : (⟨t.toArray⟩ : ByteArray).size = t.length := by show t.toArray.size = _; simp
  refine (Tryz.WriteString_k B b (byteCells l) ⟨t.toArray⟩ w h.bl (by rw [byteCells_length, hz]; exact hlen) (by omega)).mono ?_
  rintro e w' ⟨he, h1, h2, h3⟩
  refine ⟨⟨_, he⟩, .inr ?_, h.be.trans h2, h3 g o h.ob (by simpa using h.gb) h.oo, h.gb, h.oo⟩
  rw [← bytes_app]
  exact h1
theorem Wr.box {B b : Nat} {l : List UInt8} {w0 w : World} (h : IsBuilderF 54 5 B b (byteCells l) w) (hb : Below B w0 w) (c : Array Value) (t : TypeId) (ht : t ≠ 5) : Wr B b l w.heap.size (.cells c t) w0 (w.alloc (.cells c t)) := by
  have hl := bld_lt h
  exact ⟨h.alloc _, hb.alloc (by omega) _, heap_alloc_new w _, by omega, fun c2 fz he => by injection he with _ h2 _; exact ht h2⟩
end Go.Proofs.YtihcggepeadklaaGreatDoor
/- path.writeKey. -/
namespace Go.Proofs.YtihcggepeadklaaGreatDoor
open Go.RowKit Go.Lib
theorem keysB_get {l : List Mem} (h : keysB l = true) {j : Nat} (hj : j < l.length) : validD (l[j]).1.data.toList = true ∧ sizS (l[j]).2 = true := by
  simp only [keysB, Bool.and_eq_true, decide_eq_true_eq, List.all_eq_true, List.mem_range] at h
  have h2 := h.2 j hj
  rw [okK, okAt, keyAt_eq hj, valAt_eq hj] at h2
  simp only [Bool.and_eq_true] at h2
  exact ⟨h2.1.1, h2.2⟩
theorem wtM_take_le (l : List Mem) (j : Nat) : wtM (l.take j) ≤ wtM l := by
  have := wtM_app (l.take j) (l.drop j)
  rw [List.take_append_drop] at this
  omega
set_option maxHeartbeats 4000000 in
set_option maxRecDepth 100000 in
theorem wkey_any (m : List Mem) (am : Option Addr) (cm bm om : Nat) (S : Nat → Prop) (B b : Nat) (l0 : List UInt8) (w : World) (t : Td w) (ham : Headed am m.length cm bm om) (hm : liesM false w S m bm om) (hS : ∀ x, S x → x < B) (hB3 : 9 < B)
    (hbl : IsBuilderF 54 5 B b (byteCells l0) w) (hk : keysB m = true) (hwt : wtM m ≤ 2147483647) (hl0 : l0.length ≤ 100000000000) :
    Calls Tryz.prog 39 #[.pointer (some ⟨b, 0, none⟩), .slice am m.length cm] w fun e w' => e = .returned (.tuple #[]) ∧ IsBuilderF 54 5 B b (byteCells (l0 ++ (kyT 91 m ++ [93]))) w' ∧ Below B w w' := by
  have HM := hmk hm
  have HK := hmk hk
  have HI := hmk (in64_liesM hm)
  have HT : Hid (∀ W, Below B w W → Td W) := fun W hb => t.below hb hB3 hb.size
  have hlen := wtM_len m
  clear hm hk t
  go_enter Tryz.func39, Tryz.ntmps39
  go_wp2_with fail
  go_loopw [4, 9] (fun a e wr => ∃ j : Nat, j ≤ m.length ∧ a = .int .u8 ((ahd 91 j).toNat : Int) ∧ e = .int .i64 (j : Int) ∧ Below B w wr ∧ IsBuilderF 54 5 B b (byteCells (l0 ++ kyT 91 (m.take j))) wr) (fun _ e _ => m.length - (RowKit.intOf e).toNat)
  case atStart => exact ⟨0, by omega, rfl, rfl, Below.refl _ _, by rw [List.take_zero, kyT, List.append_nil]; exact hbl⟩
  case round =>
    obtain ⟨j, hj, rfl, rfl, bj, gj⟩ := hrel
    clear hbl
    have hkl : (kyT 91 (m.take j)).length ≤ 40 * wtM (m.take j) := kyT_len _ _ (fun x hx => HI.out x (List.mem_of_mem_take hx))
    have hkt := wtM_take_le m j
    have hL : (l0 ++ kyT 91 (m.take j)).length ≤ 200000000000 := by rw [List.length_append]; omega
    by_cases hjl : j < m.length
    · have y1 : (j : Int) < m.length := by omega
      obtain ⟨hSb, hks, csj, hrow, hlj⟩ := liesM_get HM.out j hjl
      obtain rfl : am = some ⟨bm, om, none⟩ := ham.at_.resolve_left (by omega)
      have hrow' := hrow.keep (bj.block _ (hS _ hSb))
      obtain ⟨hkv, hsz⟩ := keysB_get HK.out hjl
      have hwj := wtM_mem (List.getElem_mem hjl)
      have HS : Hid (l0 ++ kyT 91 (m.take (j + 1)) = (((l0 ++ kyT 91 (m.take j)) ++ [ahd 91 j] ++ nmT (m[j]).1.data.toList) ++ [61]) ++ svT (m[j]).2) := by
        show _ = _
        rw [kyT_take 91 hjl, memT]; simp
      have HA : Hid (ahd 91 (j + 1) = 44) := by show _ = _; rw [ahd, if_neg (by omega)]
      generalize ahd 91 j = c at *
      generalize l0 ++ kyT 91 (m.take j) = L at *
      generalize (m[j]).1 = key at *
      generalize (m[j]).2 = xv at *
      obtain ⟨ek, eb, ei, es, el, em⟩ := xv
      rw [V.lies] at hlj
      obtain ⟨eal, ecl, ebl, eol, eam, ecm, ebm, eom, rfl, hek, hei, hes, _⟩ := hlj
      obtain ⟨q, q0, q1, q2, q3, q4, q5⟩ := row7 hrow'
      obtain ⟨hk3, hvs, rfl, rfl⟩ := sizS_good hsz
      have hes2 : es.size ≤ 2147483648 ∧ key.size ≤ 2147483648 := by simp only [V.wt] at hwj; omega
      have hnl := nmT_len key
      have hsl := scT_len (k := ek) (b := eb) (i := ei) (s := es) hei
      have HSV : Hid (svT (.mk ek eb ei es [] []) = scT ek eb ei es) := hmk rfl
      rw [HSV.out] at HS
      have W0 := Wr.box gj bj #[.string key, .int .i64 ek, .bool eb, .int .i64 ei, .string es, .slice eal 0 ecl, .slice eam 0 ecm] 50 (by decide)
      have HN : Hid (∀ W, Below B w W → Calls Tryz.prog 38 #[.string key] W (SPost (nmT key.data.toList) W)) := fun W hb => name_any key W hes2.2 (HT.out W hb).u (HT.out W hb).l (HT.out W hb).z hkv
      have HC : Hid (∀ W, Below B w W → Calls Tryz.prog 40 #[.agg #[.int .i64 ek, .bool eb, .int .i64 ei, .string es, .slice eal 0 ecl, .slice eam 0 ecm]] W (SPost (scT ek eb ei es) W)) := fun W hb => sctext_any ek eb ei es eal 0 ecl eam 0 ecm W (HT.out W hb) hk3 hei hes2.1 hvs
      clear hrow hrow' hsz hwj hkv hvs HSV hek hei hes hk3
      generalize nmT key.data.toList = nt at *
      generalize scT ek eb ei es = st at *
      go_wp2_with fail
      refine (W0.byte c (by omega)).mono ?_
      rintro e w1 ⟨rfl, W1⟩
      have n0 : w1.cell? ⟨wr.heap.size, 0, none⟩ = some (.string key) := by rw [cell_of_block W1.ob]; rfl
      go_wp2_with fail
      refine (HN.out w1 W1.be).mono ?_
      rintro e w2 ⟨rfl, b2⟩
      have W2 := W1.call b2
      clear n0
      go_wp2_with fail
      refine (W2.str nt (by simp only [List.length_append, List.length_cons, List.length_nil]; omega)).mono ?_
      rintro e w3 ⟨⟨n3, rfl⟩, W3⟩
      go_wp2_with fail
      refine (W3.byte 61 (by simp only [List.length_append, List.length_cons, List.length_nil]; omega)).mono ?_
      rintro e w4 ⟨rfl, W4⟩
      have m1 : w4.cell? ⟨wr.heap.size, 1, none⟩ = some (.int .i64 ek) := by rw [cell_of_block W4.ob]; rfl
      have m2 : w4.cell? ⟨wr.heap.size, 2, none⟩ = some (.bool eb) := by rw [cell_of_block W4.ob]; rfl
      have m3 : w4.cell? ⟨wr.heap.size, 3, none⟩ = some (.int .i64 ei) := by rw [cell_of_block W4.ob]; rfl
      have m4 : w4.cell? ⟨wr.heap.size, 4, none⟩ = some (.string es) := by rw [cell_of_block W4.ob]; rfl
      have m5 : w4.cell? ⟨wr.heap.size, 5, none⟩ = some (.slice eal 0 ecl) := by rw [cell_of_block W4.ob]; rfl
      have m6 : w4.cell? ⟨wr.heap.size, 6, none⟩ = some (.slice eam 0 ecm) := by rw [cell_of_block W4.ob]; rfl
      go_wp2_with fail
      refine (HC.out w4 W4.be).mono ?_
      rintro e w5 ⟨rfl, b5⟩
      have W5 := W4.call b5
      clear m1 m2 m3 m4 m5 m6
      go_wp2_with fail
      refine (W5.str st (by simp only [List.length_append, List.length_cons, List.length_nil]; omega)).mono ?_
      rintro e w6 ⟨⟨n6, rfl⟩, W6⟩
      go_wp2_with fail
      go_roundw
      case rel => exact ⟨j + 1, by omega, by rw [HA.out]; rfl, by simp, W6.be, by rw [HS.out]; exact W6.bl⟩
      case measure => simp [RowKit.intOf]; omega
    · have y1 : ¬ (j : Int) < m.length := by omega
      obtain rfl : j = m.length := by omega
      rw [List.take_length] at gj hL
      have hl := bld_lt gj
      have HS : Hid (l0 ++ (kyT 91 m ++ [93]) = (l0 ++ kyT 91 m) ++ [93]) := by show _ = _; simp
      generalize l0 ++ kyT 91 m = L at *
      go_wp2_with fail
      refine (Tryz.WriteByte_k B b (byteCells L) 93 wr gj (by rw [byteCells_length]; omega) (by omega)).mono ?_
      rintro e w1 ⟨rfl, h1, b1, _⟩
      go_wp2
      go_end0
      refine ⟨rfl, .inr ?_, bj.trans b1⟩
      rw [HS.out, ← byteCells_snoc]
      exact h1
end Go.Proofs.YtihcggepeadklaaGreatDoor
