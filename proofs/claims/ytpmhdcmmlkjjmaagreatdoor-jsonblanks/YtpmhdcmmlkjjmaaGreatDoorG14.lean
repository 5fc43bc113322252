/- joined: ShlZ JsP -/
import Derived.Shelf.Strings.Prefix
import Derived.Shelf.Strings.SlTrimAscii
import Derived.Shelf.Strconv.Clone
import Derived.Shelf.Strconv.ParseIntPublic10
import Derived.Test.YtpmhdcmmlkjjmaaGreatDoorRdH
import Derived.Lib.IndexLaws
/- strings.HasPrefix, Clone, TrimLeft, strconv.ParseInt by their contracts, laid at this program. -/
namespace Go.Proofs
open Go.Shelf Go.RowKit
def Tryz.lays99_ren : Go.Shelf.Ren := ⟨fun | 99 => 137 | 206 => 156 | n => n, fun | 3 => 3 | 4 => 4 | 9 => 9 | n => n, fun  | n => n⟩
set_option maxRecDepth 100000 in
theorem Tryz.lays99 : Go.Proofs.Lays.n99 Tryz.prog Tryz.lays99_ren := {
  mixed := by kernel_rfl
  f99 := Tryz.func137.trans (congrArg some (by kernel_rfl))
  f206 := Tryz.func156.trans (congrArg some (by kernel_rfl))
  t3 := Tryz.underlying3
  a3 := Tryz.isAgg3
  z3 := Tryz.sizeOf3
  v3 := Tryz.zeroValue3
  t4 := Tryz.underlying4
  a4 := Tryz.isAgg4
  z4 := Tryz.sizeOf4
  v4 := Tryz.zeroValue4
  t9 := Tryz.underlying9
  a9 := Tryz.isAgg9
  z9 := Tryz.sizeOf9
  v9 := Tryz.zeroValue9 }
def Tryz.lays174_ren : Go.Shelf.Ren := ⟨fun | 129 => 124 | 171 => 182 | 174 => 138 | 205 => 181 | 243 => 187 | 245 => 158 | 246 => 191 | 247 => 157 | 279 => 168 | 280 => 169 | 281 => 170 | 282 => 171 | 283 => 99 | 284 => 100 | 285 => 101 | 286 => 102 | 287 => 167 | 316 => 180 | 317 => 123 | 318 => 125 | 319 => 126 | 320 => 127 | 321 => 178 | 322 => 179 | 337 => 141 | 338 => 142 | n => n, fun | 0 => 0 | 2 => 2 | 3 => 3 | 4 => 4 | 5 => 5 | 9 => 9 | 20 => 20 | 21 => 21 | 37 => 28 | 46 => 95 | 51 => 127 | 53 => 105 | 75 => 114 | 80 => 85 | 85 => 169 | 127 => 144 | 143 => 210 | 145 => 212 | 167 => 191 | 168 => 194 | 171 => 135 | 173 => 138 | 175 => 192 | 210 => 205 | 212 => 155 | 213 => 156 | 232 => 183 | 233 => 184 | n => n, fun | 15 => 7 | 16 => 8 | 17 => 3 | 18 => 5 | 19 => 6 | n => n⟩
set_option maxRecDepth 100000 in
theorem Tryz.lays174 : Go.Proofs.LaysC.n174 Tryz.prog Tryz.lays174_ren := {
  mixed := by kernel_rfl
  f129 := Tryz.func124.trans (congrArg some (by kernel_rfl))
  f171 := Tryz.func182.trans (congrArg some (by kernel_rfl))
  f174 := Tryz.func138.trans (congrArg some (by kernel_rfl))
  f205 := Tryz.func181.trans (congrArg some (by kernel_rfl))
  f243 := Tryz.func187.trans (congrArg some (by kernel_rfl))
  f245 := Tryz.func158.trans (congrArg some (by kernel_rfl))
  f246 := Tryz.func191.trans (congrArg some (by kernel_rfl))
  f247 := Tryz.func157.trans (congrArg some (by kernel_rfl))
  f279 := Tryz.func168.trans (congrArg some (by kernel_rfl))
  f280 := Tryz.func169.trans (congrArg some (by kernel_rfl))
  f281 := Tryz.func170.trans (congrArg some (by kernel_rfl))
  f282 := Tryz.func171.trans (congrArg some (by kernel_rfl))
  f283 := Tryz.func99.trans (congrArg some (by kernel_rfl))
  f284 := Tryz.func100.trans (congrArg some (by kernel_rfl))
  f285 := Tryz.func101.trans (congrArg some (by kernel_rfl))
  f286 := Tryz.func102.trans (congrArg some (by kernel_rfl))
  f287 := Tryz.func167.trans (congrArg some (by kernel_rfl))
  f316 := Tryz.func180.trans (congrArg some (by kernel_rfl))
  f317 := Tryz.func123.trans (congrArg some (by kernel_rfl))
  f318 := Tryz.func125.trans (congrArg some (by kernel_rfl))
  f319 := Tryz.func126.trans (congrArg some (by kernel_rfl))
  f320 := Tryz.func127.trans (congrArg some (by kernel_rfl))
  f321 := Tryz.func178.trans (congrArg some (by kernel_rfl))
  f322 := Tryz.func179.trans (congrArg some (by kernel_rfl))
  f337 := Tryz.func141.trans (congrArg some (by kernel_rfl))
  f338 := Tryz.func142.trans (congrArg some (by kernel_rfl))
  t0 := Tryz.underlying0
  a0 := Tryz.isAgg0
  z0 := Tryz.sizeOf0
  v0 := Tryz.zeroValue0
  t2 := Tryz.underlying2
  a2 := Tryz.isAgg2
  z2 := Tryz.sizeOf2
  v2 := Tryz.zeroValue2
  t3 := Tryz.underlying3
  a3 := Tryz.isAgg3
  z3 := Tryz.sizeOf3
  v3 := Tryz.zeroValue3
  t4 := Tryz.underlying4
  a4 := Tryz.isAgg4
  z4 := Tryz.sizeOf4
  v4 := Tryz.zeroValue4
  t5 := Tryz.underlying5
  a5 := Tryz.isAgg5
  z5 := Tryz.sizeOf5
  v5 := Tryz.zeroValue5
  t9 := Tryz.underlying9
  a9 := Tryz.isAgg9
  z9 := Tryz.sizeOf9
  v9 := Tryz.zeroValue9
  t20 := Tryz.underlying20
  a20 := Tryz.isAgg20
  z20 := Tryz.sizeOf20
  v20 := Tryz.zeroValue20
  t21 := Tryz.underlying21
  a21 := Tryz.isAgg21
  z21 := Tryz.sizeOf21
  v21 := Tryz.zeroValue21
  t37 := Tryz.underlying28
  a37 := Tryz.isAgg28
  z37 := Tryz.sizeOf28
  v37 := Tryz.zeroValue28
  t46 := Tryz.underlying95
  a46 := Tryz.isAgg95
  z46 := Tryz.sizeOf95
  v46 := Tryz.zeroValue95
  t51 := Tryz.underlying127
  a51 := Tryz.isAgg127
  z51 := Tryz.sizeOf127
  v51 := Tryz.zeroValue127
  t53 := Tryz.underlying105
  a53 := Tryz.isAgg105
  z53 := Tryz.sizeOf105
  v53 := Tryz.zeroValue105
  t75 := Tryz.underlying114
  a75 := Tryz.isAgg114
  z75 := Tryz.sizeOf114
  v75 := Tryz.zeroValue114
  t85 := Tryz.underlying169
  a85 := Tryz.isAgg169
  z85 := Tryz.sizeOf169
  v85 := Tryz.zeroValue169
  t127 := Tryz.underlying144
  a127 := Tryz.isAgg144
  z127 := Tryz.sizeOf144
  v127 := Tryz.zeroValue144
  t143 := Tryz.underlying210
  a143 := Tryz.isAgg210
  z143 := Tryz.sizeOf210
  v143 := Tryz.zeroValue210
  t145 := Tryz.underlying212
  a145 := Tryz.isAgg212
  z145 := Tryz.sizeOf212
  v145 := Tryz.zeroValue212
  t167 := Tryz.underlying191
  a167 := Tryz.isAgg191
  z167 := Tryz.sizeOf191
  v167 := Tryz.zeroValue191
  t168 := Tryz.underlying194
  a168 := Tryz.isAgg194
  z168 := Tryz.sizeOf194
  v168 := Tryz.zeroValue194
  t171 := Tryz.underlying135
  a171 := Tryz.isAgg135
  z171 := Tryz.sizeOf135
  v171 := Tryz.zeroValue135
  t173 := Tryz.underlying138
  a173 := Tryz.isAgg138
  z173 := Tryz.sizeOf138
  v173 := Tryz.zeroValue138
  t175 := Tryz.underlying192
  a175 := Tryz.isAgg192
  z175 := Tryz.sizeOf192
  v175 := Tryz.zeroValue192
  t210 := Tryz.underlying205
  a210 := Tryz.isAgg205
  z210 := Tryz.sizeOf205
  v210 := Tryz.zeroValue205
  t212 := Tryz.underlying155
  a212 := Tryz.isAgg155
  z212 := Tryz.sizeOf155
  v212 := Tryz.zeroValue155
  t213 := Tryz.underlying156
  a213 := Tryz.isAgg156
  z213 := Tryz.sizeOf156
  t232 := Tryz.underlying183
  a232 := Tryz.isAgg183
  z232 := Tryz.sizeOf183
  v232 := Tryz.zeroValue183
  t233 := Tryz.underlying184
  a233 := Tryz.isAgg184
  z233 := Tryz.sizeOf184
  v233 := Tryz.zeroValue184
  g15 := by kernel_rfl
  g16 := by kernel_rfl
  g17 := by kernel_rfl
  g18 := by kernel_rfl
  g19 := by kernel_rfl
  t80 := Tryz.underlying85
  a80 := Tryz.isAgg85
  z80 := Tryz.sizeOf85
  v80 := Tryz.zeroValue85
  i0 := by kernel_rfl
  i2 := by kernel_rfl
  i3 := by kernel_rfl
  i4 := by kernel_rfl
  i5 := by kernel_rfl
  i9 := by kernel_rfl
  i20 := by kernel_rfl
  i21 := by kernel_rfl
  i37 := by kernel_rfl
  i46 := by kernel_rfl
  i51 := by kernel_rfl
  i53 := by kernel_rfl
  i75 := by kernel_rfl
  i80 := by kernel_rfl
  i85 := by kernel_rfl
  i127 := by kernel_rfl
  i143 := by kernel_rfl
  i145 := by kernel_rfl
  i167 := by kernel_rfl
  i168 := by kernel_rfl
  i171 := by kernel_rfl
  i173 := by kernel_rfl
  i175 := by kernel_rfl
  i210 := by kernel_rfl
  i212 := by kernel_rfl
  i232 := by kernel_rfl
  i233 := by kernel_rfl
  m15 := by kernel_rfl
  m16 := by kernel_rfl
  m17 := by kernel_rfl
  m18 := by kernel_rfl
  m19 := by kernel_rfl
  c0 := by kernel_rfl
  c2 := by kernel_rfl
  c3 := by kernel_rfl
  c4 := by kernel_rfl
  c5 := by kernel_rfl
  c9 := by kernel_rfl
  c20 := by kernel_rfl
  c21 := by kernel_rfl
  c37 := by kernel_rfl
  c46 := by kernel_rfl
  c51 := by kernel_rfl
  c53 := by kernel_rfl
  c75 := by kernel_rfl
  c80 := by kernel_rfl
  c85 := by kernel_rfl
  c127 := by kernel_rfl
  c143 := by kernel_rfl
  c145 := by kernel_rfl
  c167 := by kernel_rfl
  c168 := by kernel_rfl
  c171 := by kernel_rfl
  c173 := by kernel_rfl
  c175 := by kernel_rfl
  c210 := by kernel_rfl
  c212 := by kernel_rfl
  c213 := by kernel_rfl
  c232 := by kernel_rfl
  c233 := by kernel_rfl }
end Go.Proofs
/- json's reader in plain words: blanks, words, numbers' bytes, a string. -/
set_option linter.unusedSimpArgs false
set_option linter.unusedVariables false
namespace Go.Proofs.YtpmhdcmmlkjjmaaGreatDoor
open Go.RowKit Go.Lib
theorem hmk {p : Prop} (h : p) : Hid p := h
def isBl (c : UInt8) : Bool := c == 32 || c == 9 || c == 10 || c == 13
/-- the place behind the blanks -/
def blk (l : List UInt8) (k : Nat) : Nat := k + ((l.drop k).takeWhile isBl).length
def numC (c : UInt8) : Bool := decide (48 ≤ c.toNat ∧ c.toNat ≤ 57) || (c == 45 || c == 43 || c == 46 || c == 101 || c == 69)
/-- a fault: its place and its number -/
abbrev Flt := Nat × Nat
/-- the byte that must stand here -/
def nxJ (l : List UInt8) (k : Nat) : Except Flt UInt8 := match l[k]? with
  | none => .error (k, 31)
  | some c => .ok c
def mustJ (l : List UInt8) (k : Nat) (c : UInt8) : Except Flt Nat := match l[k]? with
  | none => .error (k, 31)
  | some b => if b = c then .ok (k + 1) else .error (k, 32)
def wordJ (l : List UInt8) : Nat → List UInt8 → Except Flt Nat
  | k, [] => .ok k
  | k, c :: p => match mustJ l k c with
    | .error f => .error f
    | .ok k' => wordJ l k' p
def tkJ (l : List UInt8) (k : Nat) (c : UInt8) : Bool := l[k]? == some c
def quoJ (l : List UInt8) (k : Nat) : Except Flt (ByteArray × Nat) :=
  if (Q.unqAll l (k : Int)).2.2 = 0 then .ok (⟨(Q.unqAll l (k : Int)).1.toArray⟩, (Q.unqAll l (k : Int)).2.1) else .error ((Q.unqAll l (k : Int)).2.1, (Q.unqAll l (k : Int)).2.2)
/-- may a value begin here: by the byte, by how many began, by how deep it stands -/
def entJ (c : UInt8) (D n o k : Nat) : Except Flt Nat :=
  if ¬ (c = 110 ∨ c = 116 ∨ c = 102 ∨ c = 34 ∨ c = 91 ∨ c = 123 ∨ numC c = true) then .error (k, 32)
  else if n = 65536 then .error (k, 22)
  else if D < o then .error (k, 21)
  else .ok (n + 1)
def runJ (l : List UInt8) (k : Nat) : List UInt8 := (l.drop k).takeWhile numC
/-- the integer that a run of a number's bytes says -/
def intJ (r : List UInt8) : Option Int :=
  if hasPrefix r [43] = true then none
  else if hasPrefix (trimPrefix r [45]) [48] = true ∧ 1 < (trimPrefix r [45]).length then none
  else match parseIntB 64 r with
    | .ok v => some v
    | _ => none
def numJ (l : List UInt8) (k : Nat) : Except Flt (Int × Nat) := match intJ (runJ l k) with
  | some v => .ok (v, k + (runJ l k).length)
  | none => .error (k, 33)
theorem blk_le {l : List UInt8} {k : Nat} (h : k ≤ l.length) : k ≤ blk l k ∧ blk l k ≤ l.length := by
  have hp := (List.takeWhile_prefix isBl (l := l.drop k)).length_le
  rw [List.length_drop] at hp
  unfold blk
  omega
theorem blk_go {l : List UInt8} {k : Nat} (h : k < l.length) (hb : isBl l[k] = true) : blk l k = blk l (k + 1) := by
  unfold blk
  rw [List.drop_eq_getElem_cons h, List.takeWhile_cons_of_pos hb, List.length_cons]
  omega
theorem blk_stop {l : List UInt8} {k : Nat} (h : k < l.length) (hb : isBl l[k] = false) : blk l k = k := by
  unfold blk
  rw [List.drop_eq_getElem_cons h, List.takeWhile_cons_of_neg (by rw [hb]; simp)]
  rfl
theorem blk_end {l : List UInt8} {k : Nat} (h : l.length ≤ k) : blk l k = k := by
  unfold blk
  rw [List.drop_eq_nil_of_le h]
  rfl
theorem ixb_mem (l : List UInt8) (c : UInt8) : (0 ≤ indexByte l c) ↔ c ∈ l := by
  induction l with
  | nil => simp [indexByte]
  | cons b l ih =>
    have hg := indexByte_ge l c
    rw [indexByte, List.mem_cons, ← ih]
    by_cases h1 : b = c
    · subst h1; simp
    · have h1' : ¬ c = b := fun e => h1 e.symm
      simp only [beq_iff_eq, h1, h1', false_or, if_false]
      split <;> omega
theorem ixb_bl (c : UInt8) : decide (0 ≤ indexByte [32, 9, 10, 13] c) = isBl c := by
  rw [Bool.eq_iff_iff, decide_eq_true_eq, ixb_mem]
  simp [isBl, or_assoc]
theorem mustJ_end {l : List UInt8} {k : Nat} {c : UInt8} (h : l.length ≤ k) : mustJ l k c = .error (k, 31) := by
  rw [mustJ, List.getElem?_eq_none h]
theorem mustJ_yes {l : List UInt8} {k : Nat} {c : UInt8} (h : k < l.length) (e : l[k] = c) : mustJ l k c = .ok (k + 1) := by
  rw [mustJ, List.getElem?_eq_getElem h]; simp [e]
theorem mustJ_no {l : List UInt8} {k : Nat} {c : UInt8} (h : k < l.length) (e : ¬ l[k] = c) : mustJ l k c = .error (k, 32) := by
  rw [mustJ, List.getElem?_eq_getElem h]; simp [e]
theorem mustJ_le {l : List UInt8} {k k' : Nat} {c : UInt8} (h : mustJ l k c = .ok k') : k' = k + 1 ∧ k < l.length := by
  rcases Nat.lt_or_ge k l.length with hk | hk
  · by_cases e : l[k] = c
    · rw [mustJ_yes hk e] at h; cases h; exact ⟨rfl, hk⟩
    · rw [mustJ_no hk e] at h; cases h
  · rw [mustJ_end hk] at h; cases h
theorem wordJ_ok {l : List UInt8} : ∀ {p : List UInt8} {k k' : Nat}, k ≤ l.length → wordJ l k p = .ok k' → k ≤ k' ∧ k' ≤ l.length
  | [], k, k', hk, h => by rw [wordJ] at h; cases h; exact ⟨Nat.le_refl _, hk⟩
  | c :: p, k, k', hk, h => by
    rw [wordJ] at h
    cases hm : mustJ l k c with
    | error f => rw [hm] at h; cases h
    | ok k1 =>
      rw [hm] at h
      obtain ⟨e, hlt⟩ := mustJ_le hm
      subst e
      have := wordJ_ok (p := p) (by omega) h
      omega
end Go.Proofs.YtpmhdcmmlkjjmaaGreatDoor
