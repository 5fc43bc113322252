/- joined: PrsP FldP KsvK ShlZ Full -/
import Derived.Test.YtdgfjdhobdfglaaGreatDoorG20
import Derived.Lib.ParseIntB
import Derived.Lib.SlTrimSet
import Derived.Shelf.Strings.Prefix
import Derived.Shelf.Strings.SlTrimAscii
import Derived.Shelf.Strconv.Clone
import Derived.Shelf.Strconv.ParseIntPublic10
set_option linter.unusedSimpArgs false
set_option linter.unusedVariables false
set_option maxRecDepth 100000
namespace Go.Proofs.YtdgfjdhobdfglaaGreatDoor
open Go.RowKit Go.Lib
def tkB (l : List UInt8) (k : Nat) (p : List UInt8) : Bool := hasPrefix (l.drop k) p
def quoF (l : List UInt8) (k : Nat) : Option (ByteArray × Nat) :=
 if (Q.unqAll l (k : Int)).2.2 = 0 then some (⟨(Q.unqAll l (k : Int)).1.toArray⟩, (Q.unqAll l (k : Int)).2.1) else none
def namF (l : List UInt8) (k : Nat) : Option (ByteArray × Nat) :=
 if 0 < prefN 0 (l.drop k) then some (⟨((l.drop k).take (prefN 0 (l.drop k))).toArray⟩, k + prefN 0 (l.drop k)) else quoF l k
def minDig : List UInt8 := [45, 48, 49, 50, 51, 52, 53, 54, 55, 56, 57]
def runT (l : List UInt8) (k : Nat) : List UInt8 := (l.drop k).takeWhile (minDig.contains ·)
def intF (l : List UInt8) (k : Nat) : Option (V × Nat) :=
 match parseIntB 64 (runT l k) with
 | .ok v => some (.mk 2 false v ⟨#[]⟩ [] [], k + (runT l k).length)
 | _ => none
def scaF (l : List UInt8) (k : Nat) : Option (V × Nat) :=
 if tkB l k [116, 114, 117, 101] = true then some (.mk 1 true 0 ⟨#[]⟩ [] [], k + 4)
 else if tkB l k [102, 97, 108, 115, 101] = true then some (.mk 1 false 0 ⟨#[]⟩ [] [], k + 5)
 else if tkB l k [34] = true then (quoF l k).map (fun x => (.mk 3 false 0 x.1 [] [], x.2))
 else intF l k
def memF (l : List UInt8) (k : Nat) : Option (Mem × Nat) :=
 match namF l k with
 | none => none
 | some (n, k1) => if tkB l k1 [61] = true then (scaF l (k1 + 1)).map (fun x => ((n, x.1), x.2)) else none
def keyF (l : List UInt8) : Nat -> Nat -> List Mem -> Option (List Mem × Nat)
 | 0, _, _ => none
 | n + 1, k, acc =>
  match memF l k with
  | none => none
  | some (m, k1) => if tkB l k1 [93] = true then some (acc ++ [m], k1 + 1) else if tkB l k1 [44] = true then keyF l n (k1 + 1) (acc ++ [m]) else none
def nilW : V := .mk 0 false 0 ⟨#[]⟩ [] []
def elmF (l : List UInt8) (k : Nat) : Option (El × Nat) :=
 if tkB l k [46] = true then (namF l (k + 1)).map (fun x => (⟨1, x.1, [], nilW⟩, x.2))
 else if tkB l k [91, 61] = true then
  match scaF l (k + 2) with
  | none => none
  | some (v, k1) => if tkB l k1 [93] = true then some (⟨3, ⟨#[]⟩, [], v⟩, k1 + 1) else none
 else if tkB l k [91] = true then (keyF l 8 (k + 1) []).map (fun x => (⟨2, ⟨#[]⟩, x.1, nilW⟩, x.2))
 else none
def nxtF (l : List UInt8) (k : Nat) : Option (El × Nat) :=
 match elmF l k with
 | none => none
 | some (e, k1) => if elB e = true then (if elT e = (l.drop k).take (k1 - k) then some (e, k1) else none) else none
def parF (l : List UInt8) : Nat -> Nat -> List El -> List El × Int × Nat
 | 0, k, acc => (acc, -1, 0)
 | n + 1, k, acc =>
  if k < l.length then
   if acc.length = 32 then ([], (k : Int), 90) else
   match nxtF l k with
   | none => ([], (k : Int), 90)
   | some (e, k1) => parF l n k1 (acc ++ [e])
  else (acc, -1, 0)
theorem tkB_le {l : List UInt8} {k : Nat} {p : List UInt8} (h : tkB l k p = true) (h0 : 0 < p.length) : k + p.length <= l.length := by
 unfold tkB hasPrefix at h
 have := (List.isPrefixOf_iff_prefix.1 h).length_le
 rw [List.length_drop] at this
 omega
theorem runT_le (l : List UInt8) (k : Nat) : (runT l k).length <= l.length - k := by
 unfold runT
 have := (List.takeWhile_prefix (fun b => minDig.contains b) (l := l.drop k)).length_le
 rw [List.length_drop] at this
 exact this
end Go.Proofs.YtdgfjdhobdfglaaGreatDoor
set_option maxRecDepth 100000
namespace Go.Proofs.YtdgfjdhobdfglaaGreatDoor
open Go.RowKit Go.Lib
def elF (k : ByteArray) : Option El :=
 if (parF k.data.toList 33 0 []).2.2 = 0 then
  match (parF k.data.toList 33 0 []).1 with
  | [e] => some e
  | _ => none
 else none
def emB : V -> Bool
 | .mk k _ _ _ _ m => decide (k = 5) && decide (m.length = 0)
mutual
def dpV : Bool -> List El -> V -> Option (List (List El))
 | root, p, .mk k _ _ _ _ m => if k = 5 then dpM root m.length p (!root && decide (m.length = 0)) m else none
def dpM : Bool -> Nat -> List El -> Bool -> List Mem -> Option (List (List El))
 | _, _, p, own, [] => some (if own then [p] else [])
 | root, n, p, own, (k, x) :: t =>
  if k.toList = [46] then (if emB x && (root || decide (n ≠ 1)) then dpM root n p true t else none)
  else match elF k with
   | none => none
   | some e => match dpV false (p ++ [e]) x with
    | none => none
    | some L => (dpM root n p own t).map (L ++ ·)
end
mutual
def ksV : V -> Prop
 | .mk _ _ _ _ _ m => ksM m
def ksM : List Mem -> Prop
 | [] => True
 | (k, x) :: t => k.size <= 1048576 /\ ksV x /\ ksM t
end
theorem ksM_get : ∀ {m : List Mem}, ksM m -> ∀ {j : Nat} (h : j < m.length), (m[j]).1.size <= 1048576 /\ ksV (m[j]).2
 | [], _, j, h => by simp at h
 | (k, x) :: t, hk, j, h => by
  rw [ksM] at hk
  cases j with
  | zero => exact ⟨hk.1, hk.2.1⟩
  | succ j => exact ksM_get hk.2.2 (by simpa using h)
theorem dpM_drop {m : List Mem} {j : Nat} (h : j < m.length) (root : Bool) (n : Nat) (p : List El) (own : Bool) : dpM root n p own (m.drop j) =
 (if (m[j]).1.toList = [46] then (if emB (m[j]).2 && (root || decide (n ≠ 1)) then dpM root n p true (m.drop (j + 1)) else none)
 else match elF (m[j]).1 with
  | none => none
  | some e => match dpV false (p ++ [e]) (m[j]).2 with
   | none => none
   | some L => (dpM root n p own (m.drop (j + 1))).map (L ++ ·)) := by
 rw [List.drop_eq_getElem_cons h]
 rcases hm : m[j] with ⟨k, x⟩
 rw [dpM]
mutual
theorem dpV_len : ∀ (v : V) (root : Bool) (p : List El) (L : List (List El)), dpV root p v = some L -> L.length <= v.wt
 | .mk k b i s l m, root, p, L, h => by
  rw [dpV] at h
  split at h
  ·have := dpM_len m _ _ _ _ _ h
   rw [V.wt]; omega
  ·cases h
theorem dpM_len : ∀ (m : List Mem) (root : Bool) (n : Nat) (p : List El) (own : Bool) (L : List (List El)), dpM root n p own m = some L -> L.length <= 1 + wtM m
 | [], root, n, p, own, L, h => by
  rw [dpM] at h
  injection h with h
  subst h
  cases own <;> simp [wtM]
 | (k, x) :: t, root, n, p, own, L, h => by
  rw [dpM] at h
  rw [wtM]
  split at h
  ·split at h
   ·have := dpM_len t _ _ _ _ _ h; omega
   ·cases h
  ·split at h
   ·cases h
   ·split at h
    ·cases h
    ·rename_i e he L' hL'
     have h1 := dpV_len x _ _ _ hL'
     cases hd : dpM root n p own t with
     | none => rw [hd] at h; cases h
     | some L'' =>
      rw [hd] at h
      simp at h
      subst h
      have h2 := dpM_len t _ _ _ _ _ hd
      rw [List.length_append]; omega
end
end Go.Proofs.YtdgfjdhobdfglaaGreatDoor
set_option maxRecDepth 100000
namespace Go.Proofs.YtdgfjdhobdfglaaGreatDoor
open Go.RowKit Go.Lib
theorem entF_z {D n y d lv : Nat} {g : Bool} {z : Nat} (h : (entF D n y d lv g z).1 = 0) : z <= 1048576 := by
 unfold entF at h
 split at h
 ·simp at h
 split at h
 ·simp at h
 split at h
 ·simp at h
 split at h
 ·simp at h
 ·omega
mutual
theorem chkV_ks (D : Nat) : ∀ (v : V) (lv : Nat) (st : St), st.2.2 <= D -> (chkV D v lv st).1 = 0 -> ksV v
 | .mk k b i s l m, lv, st, hd, h => by
  rw [chkV] at h
  dsimp only at h
  split at h
  ·rename_i h0
   have e := (entF_ok hd h0).1
   have hz := entF_z h0
   split at h
   ·rename_i h1
    rw [ksV]
    exact chkM_ks D m (lv + 1) _ (chkL_bnd D l (lv + 1) _ e h1).d h (by omega)
   ·rename_i h1
    exact (h1 h).elim
  ·rename_i h0
   exact (h0 h).elim
theorem chkM_ks (D : Nat) : ∀ (m : List Mem) (lv : Nat) (st : St), st.2.2 <= D -> (chkM D m lv st).1 = 0 -> keyB m <= 1048576 -> ksM m
 | [], lv, st, hd, h, hk => by rw [ksM]; trivial
 | (k, x) :: t, lv, st, hd, h, hk => by
  rw [chkM] at h
  rw [keyB] at hk
  dsimp only at hk
  rw [ksM]
  split at h
  ·rename_i h0
   exact ⟨by omega, chkV_ks D x lv st hd h0, chkM_ks D t lv _ (chkV_d D x lv st hd h0) h (by omega)⟩
  ·rename_i h0
   exact (h0 h).elim
theorem chkV_d (D : Nat) : ∀ (v : V) (lv : Nat) (st : St), st.2.2 <= D -> (chkV D v lv st).1 = 0 -> (chkV D v lv st).2.2.2 <= D
 | .mk k b i s l m, lv, st, hd, h => by
  have h' := h
  rw [chkV] at h'
  dsimp only at h'
  rw [chkV]
  dsimp only
  split at h'
  ·rename_i h0
   rw [if_pos h0]
   have e := (entF_ok hd h0).1
   split at h'
   ·rename_i h1
    rw [if_pos h1]
    exact (chkM_bnd D m (lv + 1) _ (chkL_bnd D l (lv + 1) _ e h1) h').d
   ·rename_i h1
    exact (h1 h').elim
  ·rename_i h0
   exact (h0 h').elim
end
end Go.Proofs.YtdgfjdhobdfglaaGreatDoor
namespace Go.Proofs
open Go.Shelf Go.RowKit
def Tryz.lays99_ren : Go.Shelf.Ren := ⟨fun | 99 => 119 | 206 => 139 | n => n, fun | 3 => 3 | 4 => 4 | 9 => 9 | n => n, fun  | n => n⟩
set_option maxRecDepth 100000 in
theorem Tryz.lays99 : Go.Proofs.Lays.n99 Tryz.prog Tryz.lays99_ren := {
 mixed := by kernel_rfl
 f99 := Tryz.func119.trans (congrArg some (by kernel_rfl))
 f206 := Tryz.func139.trans (congrArg some (by kernel_rfl))
 t3 := Tryz.underlying3
 a3 := Tryz.isAgg3
 z3 := Tryz.sizeOf3
 v3 := Tryz.zeroValue3
 t4 := Tryz.underlying4
 a4 := Tryz.isAgg4
 z4 := Tryz.sizeOf4
 v4 := Tryz.zeroValue4
 t9 := Tryz.underlying9
 a9 := Tryz.isAgg9
 z9 := Tryz.sizeOf9
 v9 := Tryz.zeroValue9 }
def Tryz.lays161_ren : Go.Shelf.Ren := ⟨fun | 119 => 198 | 137 => 197 | 151 => 168 | 152 => 184 | 161 => 144 | 197 => 167 | 217 => 206 | 224 => 199 | 225 => 200 | 227 => 155 | 228 => 166 | 231 => 154 | 233 => 156 | 235 => 157 | 260 => 183 | 266 => 210 | n => n, fun | 0 => 0 | 3 => 3 | 4 => 4 | 5 => 5 | 9 => 9 | 21 => 21 | 46 => 91 | 105 => 205 | 116 => 193 | 117 => 194 | 119 => 104 | 124 => 197 | 138 => 106 | 139 => 107 | n => n, fun | 3 => 0 | 4 => 1 | n => n⟩
set_option maxRecDepth 100000 in
theorem Tryz.lays161 : Go.Proofs.Lays.n161 Tryz.prog Tryz.lays161_ren := {
 mixed := by kernel_rfl
 f119 := Tryz.func198.trans (congrArg some (by kernel_rfl))
 f137 := Tryz.func197.trans (congrArg some (by kernel_rfl))
 f151 := Tryz.func168.trans (congrArg some (by kernel_rfl))
 f152 := Tryz.func184.trans (congrArg some (by kernel_rfl))
 f161 := Tryz.func144.trans (congrArg some (by kernel_rfl))
 f197 := Tryz.func167.trans (congrArg some (by kernel_rfl))
 f217 := Tryz.func206.trans (congrArg some (by kernel_rfl))
 f224 := Tryz.func199.trans (congrArg some (by kernel_rfl))
 f225 := Tryz.func200.trans (congrArg some (by kernel_rfl))
 f227 := Tryz.func155.trans (congrArg some (by kernel_rfl))
 f228 := Tryz.func166.trans (congrArg some (by kernel_rfl))
 f231 := Tryz.func154.trans (congrArg some (by kernel_rfl))
 f233 := Tryz.func156.trans (congrArg some (by kernel_rfl))
 f235 := Tryz.func157.trans (congrArg some (by kernel_rfl))
 f260 := Tryz.func183.trans (congrArg some (by kernel_rfl))
 f266 := Tryz.func210.trans (congrArg some (by kernel_rfl))
 t0 := Tryz.underlying0
 a0 := Tryz.isAgg0
 z0 := Tryz.sizeOf0
 v0 := Tryz.zeroValue0
 t3 := Tryz.underlying3
 a3 := Tryz.isAgg3
 z3 := Tryz.sizeOf3
 v3 := Tryz.zeroValue3
 t4 := Tryz.underlying4
 a4 := Tryz.isAgg4
 z4 := Tryz.sizeOf4
 v4 := Tryz.zeroValue4
 t5 := Tryz.underlying5
 a5 := Tryz.isAgg5
 z5 := Tryz.sizeOf5
 v5 := Tryz.zeroValue5
 t9 := Tryz.underlying9
 a9 := Tryz.isAgg9
 z9 := Tryz.sizeOf9
 v9 := Tryz.zeroValue9
 t21 := Tryz.underlying21
 a21 := Tryz.isAgg21
 z21 := Tryz.sizeOf21
 v21 := Tryz.zeroValue21
 t46 := Tryz.underlying91
 a46 := Tryz.isAgg91
 z46 := Tryz.sizeOf91
 v46 := Tryz.zeroValue91
 t105 := Tryz.underlying205
 a105 := Tryz.isAgg205
 z105 := Tryz.sizeOf205
 v105 := Tryz.zeroValue205
 t116 := Tryz.underlying193
 a116 := Tryz.isAgg193
 z116 := Tryz.sizeOf193
 t117 := Tryz.underlying194
 a117 := Tryz.isAgg194
 z117 := Tryz.sizeOf194
 v117 := Tryz.zeroValue194
 t119 := Tryz.underlying104
 a119 := Tryz.isAgg104
 z119 := Tryz.sizeOf104
 t124 := Tryz.underlying197
 a124 := Tryz.isAgg197
 z124 := Tryz.sizeOf197
 v124 := Tryz.zeroValue197
 t138 := Tryz.underlying106
 a138 := Tryz.isAgg106
 z138 := Tryz.sizeOf106
 v138 := Tryz.zeroValue106
 t139 := Tryz.underlying107
 a139 := Tryz.isAgg107
 z139 := Tryz.sizeOf107
 v139 := Tryz.zeroValue107
 g3 := by kernel_rfl
 g4 := by kernel_rfl }
def Tryz.lays316_ren : Go.Shelf.Ren := ⟨fun | 316 => 142 | n => n, fun | 0 => 0 | 3 => 3 | 4 => 4 | 5 => 5 | 9 => 9 | 37 => 101 | 127 => 149 | n => n, fun  | n => n⟩
set_option maxRecDepth 100000 in
theorem Tryz.lays316 : Go.Proofs.LaysM.n316 Tryz.prog Tryz.lays316_ren := {
 mixed := by kernel_rfl
 f316 := Tryz.func142.trans (congrArg some (by kernel_rfl))
 t0 := Tryz.underlying0
 a0 := Tryz.isAgg0
 z0 := Tryz.sizeOf0
 v0 := Tryz.zeroValue0
 t3 := Tryz.underlying3
 a3 := Tryz.isAgg3
 z3 := Tryz.sizeOf3
 v3 := Tryz.zeroValue3
 t4 := Tryz.underlying4
 a4 := Tryz.isAgg4
 z4 := Tryz.sizeOf4
 v4 := Tryz.zeroValue4
 t9 := Tryz.underlying9
 a9 := Tryz.isAgg9
 z9 := Tryz.sizeOf9
 v9 := Tryz.zeroValue9
 t37 := Tryz.underlying101
 a37 := Tryz.isAgg101
 z37 := Tryz.sizeOf101
 v37 := Tryz.zeroValue101
 t127 := Tryz.underlying149
 a127 := Tryz.isAgg149
 z127 := Tryz.sizeOf149
 v127 := Tryz.zeroValue149
 t5 := Tryz.underlying5
 a5 := Tryz.isAgg5
 z5 := Tryz.sizeOf5
 v5 := Tryz.zeroValue5
 i0 := by kernel_rfl
 i3 := by kernel_rfl
 i4 := by kernel_rfl
 i5 := by kernel_rfl
 i9 := by kernel_rfl
 i37 := by kernel_rfl
 i127 := by kernel_rfl }
def Tryz.lays174_ren : Go.Shelf.Ren := ⟨fun | 129 => 76 | 171 => 129 | 174 => 145 | 205 => 187 | 243 => 149 | 245 => 159 | 246 => 163 | 247 => 158 | 279 => 170 | 280 => 171 | 281 => 172 | 282 => 173 | 283 => 177 | 284 => 178 | 285 => 179 | 286 => 180 | 287 => 169 | 316 => 142 | 317 => 189 | 318 => 190 | 319 => 191 | 320 => 192 | 321 => 185 | 322 => 186 | 337 => 201 | 338 => 202 | n => n, fun | 0 => 0 | 2 => 2 | 3 => 3 | 4 => 4 | 5 => 5 | 9 => 9 | 20 => 20 | 21 => 21 | 37 => 101 | 46 => 91 | 51 => 123 | 53 => 125 | 75 => 143 | 80 => 113 | 85 => 182 | 127 => 149 | 143 => 230 | 145 => 232 | 167 => 208 | 168 => 211 | 171 => 215 | 173 => 217 | 175 => 209 | 210 => 221 | 212 => 226 | 213 => 227 | 232 => 236 | 233 => 237 | n => n, fun | 15 => 3 | 16 => 4 | 17 => 6 | 18 => 8 | 19 => 9 | n => n⟩
set_option maxRecDepth 100000 in
theorem Tryz.lays174 : Go.Proofs.LaysC.n174 Tryz.prog Tryz.lays174_ren := {
 mixed := by kernel_rfl
 f129 := Tryz.func76.trans (congrArg some (by kernel_rfl))
 f171 := Tryz.func129.trans (congrArg some (by kernel_rfl))
 f174 := Tryz.func145.trans (congrArg some (by kernel_rfl))
 f205 := Tryz.func187.trans (congrArg some (by kernel_rfl))
 f243 := Tryz.func149.trans (congrArg some (by kernel_rfl))
 f245 := Tryz.func159.trans (congrArg some (by kernel_rfl))
 f246 := Tryz.func163.trans (congrArg some (by kernel_rfl))
 f247 := Tryz.func158.trans (congrArg some (by kernel_rfl))
 f279 := Tryz.func170.trans (congrArg some (by kernel_rfl))
 f280 := Tryz.func171.trans (congrArg some (by kernel_rfl))
 f281 := Tryz.func172.trans (congrArg some (by kernel_rfl))
 f282 := Tryz.func173.trans (congrArg some (by kernel_rfl))
 f283 := Tryz.func177.trans (congrArg some (by kernel_rfl))
 f284 := Tryz.func178.trans (congrArg some (by kernel_rfl))
 f285 := Tryz.func179.trans (congrArg some (by kernel_rfl))
 f286 := Tryz.func180.trans (congrArg some (by kernel_rfl))
 f287 := Tryz.func169.trans (congrArg some (by kernel_rfl))
 f316 := Tryz.func142.trans (congrArg some (by kernel_rfl))
 f317 := Tryz.func189.trans (congrArg some (by kernel_rfl))
 f318 := Tryz.func190.trans (congrArg some (by kernel_rfl))
 f319 := Tryz.func191.trans (congrArg some (by kernel_rfl))
 f320 := Tryz.func192.trans (congrArg some (by kernel_rfl))
 f321 := Tryz.func185.trans (congrArg some (by kernel_rfl))
 f322 := Tryz.func186.trans (congrArg some (by kernel_rfl))
 f337 := Tryz.func201.trans (congrArg some (by kernel_rfl))
 f338 := Tryz.func202.trans (congrArg some (by kernel_rfl))
 t0 := Tryz.underlying0
 a0 := Tryz.isAgg0
 z0 := Tryz.sizeOf0
 v0 := Tryz.zeroValue0
 t2 := Tryz.underlying2
 a2 := Tryz.isAgg2
 z2 := Tryz.sizeOf2
 v2 := Tryz.zeroValue2
 t3 := Tryz.underlying3
 a3 := Tryz.isAgg3
 z3 := Tryz.sizeOf3
 v3 := Tryz.zeroValue3
 t4 := Tryz.underlying4
 a4 := Tryz.isAgg4
 z4 := Tryz.sizeOf4
 v4 := Tryz.zeroValue4
 t5 := Tryz.underlying5
 a5 := Tryz.isAgg5
 z5 := Tryz.sizeOf5
 v5 := Tryz.zeroValue5
 t9 := Tryz.underlying9
 a9 := Tryz.isAgg9
 z9 := Tryz.sizeOf9
 v9 := Tryz.zeroValue9
 t20 := Tryz.underlying20
 a20 := Tryz.isAgg20
 z20 := Tryz.sizeOf20
 v20 := Tryz.zeroValue20
 t21 := Tryz.underlying21
 a21 := Tryz.isAgg21
 z21 := Tryz.sizeOf21
 v21 := Tryz.zeroValue21
 t37 := Tryz.underlying101
 a37 := Tryz.isAgg101
 z37 := Tryz.sizeOf101
 v37 := Tryz.zeroValue101
 t46 := Tryz.underlying91
 a46 := Tryz.isAgg91
 z46 := Tryz.sizeOf91
 v46 := Tryz.zeroValue91
 t51 := Tryz.underlying123
 a51 := Tryz.isAgg123
 z51 := Tryz.sizeOf123
 v51 := Tryz.zeroValue123
 t53 := Tryz.underlying125
 a53 := Tryz.isAgg125
 z53 := Tryz.sizeOf125
 v53 := Tryz.zeroValue125
 t75 := Tryz.underlying143
 a75 := Tryz.isAgg143
 z75 := Tryz.sizeOf143
 v75 := Tryz.zeroValue143
 t85 := Tryz.underlying182
 a85 := Tryz.isAgg182
 z85 := Tryz.sizeOf182
 v85 := Tryz.zeroValue182
 t127 := Tryz.underlying149
 a127 := Tryz.isAgg149
 z127 := Tryz.sizeOf149
 v127 := Tryz.zeroValue149
 t143 := Tryz.underlying230
 a143 := Tryz.isAgg230
 z143 := Tryz.sizeOf230
 v143 := Tryz.zeroValue230
 t145 := Tryz.underlying232
 a145 := Tryz.isAgg232
 z145 := Tryz.sizeOf232
 v145 := Tryz.zeroValue232
 t167 := Tryz.underlying208
 a167 := Tryz.isAgg208
 z167 := Tryz.sizeOf208
 v167 := Tryz.zeroValue208
 t168 := Tryz.underlying211
 a168 := Tryz.isAgg211
 z168 := Tryz.sizeOf211
 v168 := Tryz.zeroValue211
 t171 := Tryz.underlying215
 a171 := Tryz.isAgg215
 z171 := Tryz.sizeOf215
 v171 := Tryz.zeroValue215
 t173 := Tryz.underlying217
 a173 := Tryz.isAgg217
 z173 := Tryz.sizeOf217
 v173 := Tryz.zeroValue217
 t175 := Tryz.underlying209
 a175 := Tryz.isAgg209
 z175 := Tryz.sizeOf209
 v175 := Tryz.zeroValue209
 t210 := Tryz.underlying221
 a210 := Tryz.isAgg221
 z210 := Tryz.sizeOf221
 v210 := Tryz.zeroValue221
 t212 := Tryz.underlying226
 a212 := Tryz.isAgg226
 z212 := Tryz.sizeOf226
 v212 := Tryz.zeroValue226
 t213 := Tryz.underlying227
 a213 := Tryz.isAgg227
 z213 := Tryz.sizeOf227
 t232 := Tryz.underlying236
 a232 := Tryz.isAgg236
 z232 := Tryz.sizeOf236
 v232 := Tryz.zeroValue236
 t233 := Tryz.underlying237
 a233 := Tryz.isAgg237
 z233 := Tryz.sizeOf237
 v233 := Tryz.zeroValue237
 g15 := by kernel_rfl
 g16 := by kernel_rfl
 g17 := by kernel_rfl
 g18 := by kernel_rfl
 g19 := by kernel_rfl
 t80 := Tryz.underlying113
 a80 := Tryz.isAgg113
 z80 := Tryz.sizeOf113
 v80 := Tryz.zeroValue113
 i0 := by kernel_rfl
 i2 := by kernel_rfl
 i3 := by kernel_rfl
 i4 := by kernel_rfl
 i5 := by kernel_rfl
 i9 := by kernel_rfl
 i20 := by kernel_rfl
 i21 := by kernel_rfl
 i37 := by kernel_rfl
 i46 := by kernel_rfl
 i51 := by kernel_rfl
 i53 := by kernel_rfl
 i75 := by kernel_rfl
 i80 := by kernel_rfl
 i85 := by kernel_rfl
 i127 := by kernel_rfl
 i143 := by kernel_rfl
 i145 := by kernel_rfl
 i167 := by kernel_rfl
 i168 := by kernel_rfl
 i171 := by kernel_rfl
 i173 := by kernel_rfl
 i175 := by kernel_rfl
 i210 := by kernel_rfl
 i212 := by kernel_rfl
 i232 := by kernel_rfl
 i233 := by kernel_rfl
 m15 := by kernel_rfl
 m16 := by kernel_rfl
 m17 := by kernel_rfl
 m18 := by kernel_rfl
 m19 := by kernel_rfl
 c0 := by kernel_rfl
 c2 := by kernel_rfl
 c3 := by kernel_rfl
 c4 := by kernel_rfl
 c5 := by kernel_rfl
 c9 := by kernel_rfl
 c20 := by kernel_rfl
 c21 := by kernel_rfl
 c37 := by kernel_rfl
 c46 := by kernel_rfl
 c51 := by kernel_rfl
 c53 := by kernel_rfl
 c75 := by kernel_rfl
 c80 := by kernel_rfl
 c85 := by kernel_rfl
 c127 := by kernel_rfl
 c143 := by kernel_rfl
 c145 := by kernel_rfl
 c167 := by kernel_rfl
 c168 := by kernel_rfl
 c171 := by kernel_rfl
 c173 := by kernel_rfl
 c175 := by kernel_rfl
 c210 := by kernel_rfl
 c212 := by kernel_rfl
 c213 := by kernel_rfl
 c232 := by kernel_rfl
 c233 := by kernel_rfl }
end Go.Proofs
set_option maxRecDepth 100000
set_option maxHeartbeats 64000000
namespace Go.Proofs.YtdgfjdhobdfglaaGreatDoor
open Go.RowKit Go.Lib
theorem below_drewN' {B : Nat} {a w : World} (h : Below B a w) : ∀ q, Below B a (w.drewN q)
 | 0 => h
 | q + 1 => (below_drewN' h q).drew
theorem full_long (s : ByteArray) (w : World) (hU : Utf8Tabs 0 1 w) (h0 : 0 < s.size) (hs : s.size <= 281474976710656) (hn : firstT s[0].toNat % 8 <= s.size) :
 Calls Tryz.prog 204 #[.string s] w fun e w' => e = .returned (.bool true) /\ Below w.heap.size w w' := by
 have c0 := hU.1 s[0].toNat s[0].toNat_lt
 have y0 : ((s.size : Int) == 0) = false := by rw [beq_eq_false_iff_ne]; omega
 have y1 : (0 : Int) < s.size := by omega
 have hx : firstT s[0].toNat < 256 := by unfold firstT; repeat' split
                                         all_goals omega
 have ha := and7 ⟨firstT s[0].toNat, hx⟩
 simp only at ha
 have y3 : (s[0].toNat : Int) < 256 := by have := s[0].toNat_lt; omega
 generalize firstT s[0].toNat = X at *
 have y2 : (X : Int) % 8 <= s.size := by omega
 clear hU
 go_enter Tryz.func204, Tryz.ntmps204
 go_wp2
 go_ret
 exact ⟨rfl, Below.refl _ _⟩
theorem full_short (s : ByteArray) (w : World) (hU : Utf8Tabs 0 1 w) (h0 : 0 < s.size) (hs : s.size <= 281474976710656) (hn : ¬ firstT s[0].toNat % 8 <= s.size) (V : Bool)
 (hV : V = ((decide (1 < s.size) && (decide ((s.data.toList.getD 1 0).toNat < accLo (firstT s[0].toNat / 16)) || decide (accHi (firstT s[0].toNat / 16) < (s.data.toList.getD 1 0).toNat))) || (decide (2 < s.size) && (decide ((s.data.toList.getD 2 0).toNat < 128) || decide (191 < (s.data.toList.getD 2 0).toNat))))) :
 Calls Tryz.prog 204 #[.string s] w fun e w' => e = .returned (.bool V) /\ Below w.heap.size w w' := by
 have c0 := hU.1 s[0].toNat s[0].toNat_lt
 have y0 : ((s.size : Int) == 0) = false := by rw [beq_eq_false_iff_ne]; omega
 have y1 : (0 : Int) < s.size := by omega
 have hx : firstT s[0].toNat < 256 := by unfold firstT; repeat' split
                                         all_goals omega
 have ha := and7 ⟨firstT s[0].toNat, hx⟩
 simp only at ha
 have y3 : (s[0].toNat : Int) < 256 := by have := s[0].toNat_lt; omega
 generalize firstT s[0].toNat = X at *
 have y2 : ¬ (X : Int) % 8 <= s.size := by omega
 have hi16 : X / 16 < 16 := by omega
 have t1 := (hU.2 (X / 16) hi16).1
 have t2 := (hU.2 (X / 16) hi16).2
 rw [Nat.mul_comm] at t1 t2
 have y4 : (X : Int) / 16 < 16 := by omega
 generalize accLo (X / 16) = lo at *
 generalize accHi (X / 16) = hi at *
 clear hU
 by_cases e1 : 1 < s.size
 focus
  have z1 : (1 : Int) < s.size := by omega
  have g1 : s.data.toList.getD 1 0 = s[1] := by
   rw [List.getD_eq_getElem?_getD, List.getElem?_eq_getElem (by simpa using e1)]; rfl
  rw [g1] at hV
  by_cases p1 : s[1].toNat < lo
  focus
   have z3 : (s[1].toNat : Int) < lo := by omega
   obtain rfl : V = true := by rw [hV]; simp [e1, p1]
   clear hV g1
  rotate_left 1
  focus
   have z3 : decide ((s[1].toNat : Int) < lo) = false := by simp; omega
   by_cases p2 : hi < s[1].toNat
   focus
    have z4 : (hi : Int) < s[1].toNat := by omega
    obtain rfl : V = true := by rw [hV]; simp [e1, p2]
    clear hV g1
   rotate_left 1
   focus
    have z4 : decide ((hi : Int) < s[1].toNat) = false := by simp; omega
    by_cases e2 : 2 < s.size
    focus
     have z5 : (2 : Int) < s.size := by omega
     have g2 : s.data.toList.getD 2 0 = s[2] := by
      rw [List.getD_eq_getElem?_getD, List.getElem?_eq_getElem (by simpa using e2)]; rfl
     rw [g2] at hV
     by_cases q1 : s[2].toNat < 128
     focus
      have z6 : (s[2].toNat : Int) < 128 := by omega
      obtain rfl : V = true := by rw [hV]; simp [e2, q1]
      clear hV g1 g2
     rotate_left 1
     focus
      have z6 : ¬ (s[2].toNat : Int) < 128 := by omega
      by_cases q2 : 191 < s[2].toNat
      focus
       have z7 : (191 : Int) < s[2].toNat := by omega
       obtain rfl : V = true := by rw [hV]; simp [e2, q2]
       clear hV g1 g2
      rotate_left 1
      focus
       have z7 : ¬ (191 : Int) < s[2].toNat := by omega
       obtain rfl : V = false := by rw [hV]; simp [p1, p2, q1, q2]
       clear hV g1 g2
      rotate_left 1
     rotate_left 2
    rotate_left 3
    focus
     have z5 : ¬ (2 : Int) < s.size := by omega
     obtain rfl : V = false := by rw [hV]; simp [p1, p2, e2]
     clear hV g1
    rotate_left 1
   rotate_left 4
  rotate_left 5
 rotate_left 6
 focus
  have z1 : decide ((1 : Int) < s.size) = false := by simp; omega
  have z2 : decide ((2 : Int) < s.size) = false := by simp; omega
  have hV' : V = false := by rw [hV]; simp [e1]; omega
  subst hV'
  clear hV
 rotate_left 1
 all_goals
  go_enter Tryz.func204, Tryz.ntmps204
  go_wp2
  go_quiet (fail)
  go_wp2
  go_ret
  exact ⟨rfl, below_drewN' ((Below.refl _ w).alloc (Nat.le_refl _) _) nq⟩
theorem full_any (s : ByteArray) (w : World) (hU : Utf8Tabs 0 1 w) (h0 : 0 < s.size) (hs : s.size <= 281474976710656) :
 Calls Tryz.prog 204 #[.string s] w fun e w' => e = .returned (.bool (Q.full s.data.toList)) /\ Below w.heap.size w w' := by
 have hd := drop_consW s 0 h0
 rw [List.drop_zero] at hd
 have hl : (s.data.toList.drop 1).length + 1 = s.size := by simp; omega
 by_cases hn : firstT s[0].toNat % 8 <= s.size
 ·have e : Q.full s.data.toList = true := by
   rw [hd, Q.full, hl]; simp [hn]
  rw [e]
  exact full_long s w hU h0 hs hn
 ·refine full_short s w hU h0 hs hn _ ?_
  rw [hd, Q.full, hl]
  simp [hn]
end Go.Proofs.YtdgfjdhobdfglaaGreatDoor
