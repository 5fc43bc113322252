import Derived.Test.YtolekldjbbjmjaaGreatDoorParF
/- the selector's reader: condition. -/
set_option linter.unusedSimpArgs false
set_option linter.unusedVariables false
namespace Go.Proofs.YtolekldjbbjmjaaGreatDoor
open Go.RowKit Go.Lib
/-- an operator and its values -/
def withO (op : Int) (r : Option (List ByteArray) × Nat) : Option (Int × List ByteArray) × Nat := match r.1 with
  | some l => (some (op, l), r.2)
  | none => (none, r.2)
def condF (l : List UInt8) (k : Nat) : Option (Int × List ByteArray) × Nat :=
  if opS l k = ⟨#[33, 61]⟩ then withO 4 (oneF l (skp l (k + 2))) else
  if opS l k = ⟨#[61]⟩ then withO 3 (oneF l (skp l (k + 1))) else
  if opS l k = ⟨#[61, 61]⟩ then withO 3 (oneF l (skp l (k + 2))) else
  if opS l k = ⟨#[110, 111, 116, 105, 110]⟩ then withO 4 (manyF l (skp l (k + 5))) else
  if opS l k = ⟨#[105, 110]⟩ then withO 3 (manyF l (skp l (k + 2))) else
  (some (1, []), k)
def CdPost (R : Option (Int × List ByteArray) × Nat) (g : Nat) (s : ByteArray) (w : World) (e : Ending) (w' : World) : Prop :=
  (∃ op l a c b o, R.1 = some (op, l) ∧ e = .returned (.tuple #[.int .i64 op, .slice a l.length c, .bool true]) ∧ Headed a l.length c b o ∧ liesS w' (New w w') l b o ∧ l.length ≤ s.size + 1 ∧ 1 ≤ op ∧ op ≤ 4 ∧ RdP g s w w' R.2) ∨ (R.1 = none ∧ ∃ op, e = .returned (.tuple #[.int .i64 op, .slice none 0 0, .bool false]) ∧ RdP g s w w' R.2)
theorem cd_of {op : Int} {R : Option (List ByteArray) × Nat} {R2 : Option (Int × List ByteArray) × Nat} {g : Nat} {s : ByteArray} {w W : World} {k : Nat} (r : RdP g s w W k) (h2 : R2 = withO op R) (ho : 1 ≤ op ∧ op ≤ 4) {e : Ending} {w' : World} (h : MnPost R g s W e w') :
    (∃ l a c, e = .returned (.tuple #[.slice a l c, .bool true]) ∧ CdPost R2 g s w (.returned (.tuple #[.int .i64 op, .slice a l c, .bool true])) w') ∨ (e = .returned (.tuple #[.slice none 0 0, .bool false]) ∧ CdPost R2 g s w (.returned (.tuple #[.int .i64 op, .slice none 0 0, .bool false])) w') := by
  rcases h with ⟨l, a, c, b, o, h1, rfl, h3, h4, h5, h6⟩ | ⟨h1, rfl, h6⟩
  · have e2 : R2 = (some (op, l), R.2) := by rw [h2]; unfold withO; rw [h1]
    refine .inl ⟨_, a, c, rfl, .inl ⟨op, l, a, c, b, o, by rw [e2], rfl, h3, h4.keep (fun _ _ => rfl) (fun y hy => ⟨Nat.le_trans r.gr.size hy.1, hy.2⟩), h5, ho.1, ho.2, by rw [e2]; exact r.trans h6⟩⟩
  · have e2 : R2 = (none, R.2) := by rw [h2]; unfold withO; rw [h1]
    exact .inr ⟨rfl, .inr ⟨by rw [e2], op, rfl, by rw [e2]; exact r.trans h6⟩⟩
theorem opS_le (l : List UInt8) (k : Nat) (hk : k ≤ l.length) : k + (opS l k).size ≤ l.length := by
  unfold opS
  by_cases h1 : tkB l k [61, 61] = true
  · rw [if_pos h1]; exact tkB_le h1 (by decide)
  rw [if_neg h1]
  by_cases h2 : tkB l k [61] = true
  · rw [if_pos h2]; exact tkB_le h2 (by decide)
  rw [if_neg h2]
  by_cases h3 : tkB l k [33, 61] = true
  · rw [if_pos h3]; exact tkB_le h3 (by decide)
  rw [if_neg h3, ofB_size]
  have := plnT_le l k
  omega
set_option maxHeartbeats 8000000 in
set_option maxRecDepth 100000 in
theorem condition_at (g : Nat) (s : ByteArray) (k : Nat) (w : World) (h : PB g s k w) (t : Tp w) (hs : s.size ≤ 1048576) (hk : k ≤ s.size) (hg : 4 < g) :
    Calls Tryz.prog 74 #[.pointer (some ⟨g, 0, none⟩)] w (CdPost (condF s.data.toList k) g s w) := by
  have hll : s.data.toList.length = s.size := by simp
  have HT := hmk t
  have CO := hmk (operator_at g s k w h (by omega) hk)
  have CN : Hid (∀ (n : Nat) W, k + n ≤ s.size → RdP g s w W k → Calls Tryz.prog 54 #[.pointer (some ⟨g, 0, none⟩), .int .i64 (n : Int)] W (PsPost g s (k + n) W)) := fun n W hn r => pass_any g s k n W r.pb (by omega) hn
  have C1 : Hid (∀ W k, RdP g s w W k → Calls Tryz.prog 104 #[.pointer (some ⟨g, 0, none⟩)] W (MnPost (oneF s.data.toList k) g s W)) := fun W k r => one_at g s k W r.pb (HT.out.grown r.gr hg) (by omega) r.le hg
  have CM : Hid (∀ W k, RdP g s w W k → Calls Tryz.prog 105 #[.pointer (some ⟨g, 0, none⟩)] W (MnPost (manyF s.data.toList k) g s W)) := fun W k r => many_at g s k W r.pb (HT.out.grown r.gr hg) hs r.le hg
  have hop := opS_le s.data.toList k (by omega)
  have HCF : Hid (condF s.data.toList k = condF s.data.toList k) := rfl
  unfold condF at HCF
  obtain ⟨RES, hRES⟩ : ∃ RES, RES = condF s.data.toList k := ⟨_, rfl⟩
  rw [← hRES]
  have HR : Hid (RES = condF s.data.toList k) := hRES
  unfold condF at HR
  clear h t hRES HCF
  generalize opS s.data.toList k = sg at *
  by_cases hne : sg = ⟨#[33, 61]⟩
  · have HX : Hid (RES = withO 4 (oneF s.data.toList (skp s.data.toList (k + 2)))) := by
      show _ = _
      rw [HR.out]
      rw [if_pos hne]
    clear HR 
    subst hne
    have q1 : (((⟨#[33, 61]⟩ : ByteArray)).toList == ((⟨#[61]⟩ : ByteArray)).toList) = false := by rw [ByteArray.toList_eq, ByteArray.toList_eq]; rfl
    have q2 : (((⟨#[33, 61]⟩ : ByteArray)).toList == ((⟨#[61, 61]⟩ : ByteArray)).toList) = false := by rw [ByteArray.toList_eq, ByteArray.toList_eq]; rfl
    have q3 : (((⟨#[33, 61]⟩ : ByteArray)).toList == ((⟨#[110, 111, 116, 105, 110]⟩ : ByteArray)).toList) = false := by rw [ByteArray.toList_eq, ByteArray.toList_eq]; rfl
    have q4 : (((⟨#[33, 61]⟩ : ByteArray)).toList == ((⟨#[105, 110]⟩ : ByteArray)).toList) = false := by rw [ByteArray.toList_eq, ByteArray.toList_eq]; rfl
    have hz : (⟨#[33, 61]⟩ : ByteArray).size = 2 := rfl
    rw [hz] at hop
    have CP := hmk (fun W r => CN.out 2 W (by omega) r)
    clear CN
    go_enter Tryz.func74, Tryz.ntmps74
    go_wp2_with fail
    refine CO.out.mono ?_
    rintro e w1 ⟨rfl, r1⟩
    go_wp2_with fail
    refine (CP.out _ r1).mono ?_
    rintro e w2 ⟨rfl, r2⟩
    have R2 := r1.trans r2
    go_wp2_with fail
    refine (C1.out _ _ R2).mono ?_
    intro e w3 hp
    rcases cd_of R2 HX.out (by omega) hp with ⟨n, a, c, rfl, hF⟩ | ⟨rfl, hF⟩
    · have HF := hmk hF
      clear hF hp
      go_wp2_with fail
      go_ret3
      exact HF.out
    · have HF := hmk hF
      clear hF hp
      go_wp2_with fail
      go_ret3
      exact HF.out
  by_cases heq : sg = ⟨#[61]⟩
  · have HX : Hid (RES = withO 3 (oneF s.data.toList (skp s.data.toList (k + 1)))) := by
      show _ = _
      rw [HR.out]
      rw [if_neg hne]
      rw [if_pos heq]
    clear HR hne
    subst heq
    have q0 : (((⟨#[61]⟩ : ByteArray)).toList == ((⟨#[33, 61]⟩ : ByteArray)).toList) = false := by rw [ByteArray.toList_eq, ByteArray.toList_eq]; rfl
    have q2 : (((⟨#[61]⟩ : ByteArray)).toList == ((⟨#[61, 61]⟩ : ByteArray)).toList) = false := by rw [ByteArray.toList_eq, ByteArray.toList_eq]; rfl
    have q3 : (((⟨#[61]⟩ : ByteArray)).toList == ((⟨#[110, 111, 116, 105, 110]⟩ : ByteArray)).toList) = false := by rw [ByteArray.toList_eq, ByteArray.toList_eq]; rfl
    have q4 : (((⟨#[61]⟩ : ByteArray)).toList == ((⟨#[105, 110]⟩ : ByteArray)).toList) = false := by rw [ByteArray.toList_eq, ByteArray.toList_eq]; rfl
    have hz : (⟨#[61]⟩ : ByteArray).size = 1 := rfl
    rw [hz] at hop
    have CP := hmk (fun W r => CN.out 1 W (by omega) r)
    clear CN
    go_enter Tryz.func74, Tryz.ntmps74
    go_wp2_with fail
    refine CO.out.mono ?_
    rintro e w1 ⟨rfl, r1⟩
    go_wp2_with fail
    refine (CP.out _ r1).mono ?_
    rintro e w2 ⟨rfl, r2⟩
    have R2 := r1.trans r2
    go_wp2_with fail
    refine (C1.out _ _ R2).mono ?_
    intro e w3 hp
    rcases cd_of R2 HX.out (by omega) hp with ⟨n, a, c, rfl, hF⟩ | ⟨rfl, hF⟩
    · have HF := hmk hF
      clear hF hp
      go_wp2_with fail
      go_ret3
      exact HF.out
    · have HF := hmk hF
      clear hF hp
      go_wp2_with fail
      go_ret3
      exact HF.out
  by_cases hee : sg = ⟨#[61, 61]⟩
  · have HX : Hid (RES = withO 3 (oneF s.data.toList (skp s.data.toList (k + 2)))) := by
      show _ = _
      rw [HR.out]
      rw [if_neg hne]
      rw [if_neg heq]
      rw [if_pos hee]
    clear HR hne heq
    subst hee
    have q0 : (((⟨#[61, 61]⟩ : ByteArray)).toList == ((⟨#[33, 61]⟩ : ByteArray)).toList) = false := by rw [ByteArray.toList_eq, ByteArray.toList_eq]; rfl
    have q1 : (((⟨#[61, 61]⟩ : ByteArray)).toList == ((⟨#[61]⟩ : ByteArray)).toList) = false := by rw [ByteArray.toList_eq, ByteArray.toList_eq]; rfl
    have q3 : (((⟨#[61, 61]⟩ : ByteArray)).toList == ((⟨#[110, 111, 116, 105, 110]⟩ : ByteArray)).toList) = false := by rw [ByteArray.toList_eq, ByteArray.toList_eq]; rfl
    have q4 : (((⟨#[61, 61]⟩ : ByteArray)).toList == ((⟨#[105, 110]⟩ : ByteArray)).toList) = false := by rw [ByteArray.toList_eq, ByteArray.toList_eq]; rfl
    have hz : (⟨#[61, 61]⟩ : ByteArray).size = 2 := rfl
    rw [hz] at hop
    have CP := hmk (fun W r => CN.out 2 W (by omega) r)
    clear CN
    go_enter Tryz.func74, Tryz.ntmps74
    go_wp2_with fail
    refine CO.out.mono ?_
    rintro e w1 ⟨rfl, r1⟩
    go_wp2_with fail
    refine (CP.out _ r1).mono ?_
    rintro e w2 ⟨rfl, r2⟩
    have R2 := r1.trans r2
    go_wp2_with fail
    refine (C1.out _ _ R2).mono ?_
    intro e w3 hp
    rcases cd_of R2 HX.out (by omega) hp with ⟨n, a, c, rfl, hF⟩ | ⟨rfl, hF⟩
    · have HF := hmk hF
      clear hF hp
      go_wp2_with fail
      go_ret3
      exact HF.out
    · have HF := hmk hF
      clear hF hp
      go_wp2_with fail
      go_ret3
      exact HF.out
  by_cases hno : sg = ⟨#[110, 111, 116, 105, 110]⟩
  · have HX : Hid (RES = withO 4 (manyF s.data.toList (skp s.data.toList (k + 5)))) := by
      show _ = _
      rw [HR.out]
      rw [if_neg hne]
      rw [if_neg heq]
      rw [if_neg hee]
      rw [if_pos hno]
    clear HR hne heq hee
    subst hno
    have q0 : (((⟨#[110, 111, 116, 105, 110]⟩ : ByteArray)).toList == ((⟨#[33, 61]⟩ : ByteArray)).toList) = false := by rw [ByteArray.toList_eq, ByteArray.toList_eq]; rfl
    have q1 : (((⟨#[110, 111, 116, 105, 110]⟩ : ByteArray)).toList == ((⟨#[61]⟩ : ByteArray)).toList) = false := by rw [ByteArray.toList_eq, ByteArray.toList_eq]; rfl
    have q2 : (((⟨#[110, 111, 116, 105, 110]⟩ : ByteArray)).toList == ((⟨#[61, 61]⟩ : ByteArray)).toList) = false := by rw [ByteArray.toList_eq, ByteArray.toList_eq]; rfl
    have q4 : (((⟨#[110, 111, 116, 105, 110]⟩ : ByteArray)).toList == ((⟨#[105, 110]⟩ : ByteArray)).toList) = false := by rw [ByteArray.toList_eq, ByteArray.toList_eq]; rfl
    have hz : (⟨#[110, 111, 116, 105, 110]⟩ : ByteArray).size = 5 := rfl
    rw [hz] at hop
    have CP := hmk (fun W r => CN.out 5 W (by omega) r)
    clear CN
    go_enter Tryz.func74, Tryz.ntmps74
    go_wp2_with fail
    refine CO.out.mono ?_
    rintro e w1 ⟨rfl, r1⟩
    go_wp2_with fail
    refine (CP.out _ r1).mono ?_
    rintro e w2 ⟨rfl, r2⟩
    have R2 := r1.trans r2
    go_wp2_with fail
    refine (CM.out _ _ R2).mono ?_
    intro e w3 hp
    rcases cd_of R2 HX.out (by omega) hp with ⟨n, a, c, rfl, hF⟩ | ⟨rfl, hF⟩
    · have HF := hmk hF
      clear hF hp
      go_wp2_with fail
      go_ret3
      exact HF.out
    · have HF := hmk hF
      clear hF hp
      go_wp2_with fail
      go_ret3
      exact HF.out
  by_cases hin_ : sg = ⟨#[105, 110]⟩
  · have HX : Hid (RES = withO 3 (manyF s.data.toList (skp s.data.toList (k + 2)))) := by
      show _ = _
      rw [HR.out]
      rw [if_neg hne]
      rw [if_neg heq]
      rw [if_neg hee]
      rw [if_neg hno]
      rw [if_pos hin_]
    clear HR hne heq hee hno
    subst hin_
    have q0 : (((⟨#[105, 110]⟩ : ByteArray)).toList == ((⟨#[33, 61]⟩ : ByteArray)).toList) = false := by rw [ByteArray.toList_eq, ByteArray.toList_eq]; rfl
    have q1 : (((⟨#[105, 110]⟩ : ByteArray)).toList == ((⟨#[61]⟩ : ByteArray)).toList) = false := by rw [ByteArray.toList_eq, ByteArray.toList_eq]; rfl
    have q2 : (((⟨#[105, 110]⟩ : ByteArray)).toList == ((⟨#[61, 61]⟩ : ByteArray)).toList) = false := by rw [ByteArray.toList_eq, ByteArray.toList_eq]; rfl
    have q3 : (((⟨#[105, 110]⟩ : ByteArray)).toList == ((⟨#[110, 111, 116, 105, 110]⟩ : ByteArray)).toList) = false := by rw [ByteArray.toList_eq, ByteArray.toList_eq]; rfl
    have hz : (⟨#[105, 110]⟩ : ByteArray).size = 2 := rfl
    rw [hz] at hop
    have CP := hmk (fun W r => CN.out 2 W (by omega) r)
    clear CN
    go_enter Tryz.func74, Tryz.ntmps74
    go_wp2_with fail
    refine CO.out.mono ?_
    rintro e w1 ⟨rfl, r1⟩
    go_wp2_with fail
    refine (CP.out _ r1).mono ?_
    rintro e w2 ⟨rfl, r2⟩
    have R2 := r1.trans r2
    go_wp2_with fail
    refine (CM.out _ _ R2).mono ?_
    intro e w3 hp
    rcases cd_of R2 HX.out (by omega) hp with ⟨n, a, c, rfl, hF⟩ | ⟨rfl, hF⟩
    · have HF := hmk hF
      clear hF hp
      go_wp2_with fail
      go_ret3
      exact HF.out
    · have HF := hmk hF
      clear hF hp
      go_wp2_with fail
      go_ret3
      exact HF.out
  have HX : Hid (RES = (some (1, []), k)) := by
    show _ = _
    rw [HR.out]
    rw [if_neg hne]
    rw [if_neg heq]
    rw [if_neg hee]
    rw [if_neg hno]
    rw [if_neg hin_]
  have q0 : (sg.toList == [33, 61]) = false := by
    rw [beq_eq_false_iff_ne]
    intro e
    exact hne (bytes_ext9 (by rw [e, ByteArray.toList_eq]))
  have q1 : (sg.toList == [61]) = false := by
    rw [beq_eq_false_iff_ne]
    intro e
    exact heq (bytes_ext9 (by rw [e, ByteArray.toList_eq]))
  have q2 : (sg.toList == [61, 61]) = false := by
    rw [beq_eq_false_iff_ne]
    intro e
    exact hee (bytes_ext9 (by rw [e, ByteArray.toList_eq]))
  have q3 : (sg.toList == [110, 111, 116, 105, 110]) = false := by
    rw [beq_eq_false_iff_ne]
    intro e
    exact hno (bytes_ext9 (by rw [e, ByteArray.toList_eq]))
  have q4 : (sg.toList == [105, 110]) = false := by
    rw [beq_eq_false_iff_ne]
    intro e
    exact hin_ (bytes_ext9 (by rw [e, ByteArray.toList_eq]))
  clear HR hne heq hee hno hin_
  go_enter Tryz.func74, Tryz.ntmps74
  go_wp2_with fail
  refine CO.out.mono ?_
  rintro e w1 ⟨rfl, r1⟩
  have HF : Hid (CdPost RES g s w (.returned (.tuple #[.int .i64 1, .slice none 0 0, .bool true])) w1) := .inl ⟨1, [], none, 0, 0, 0, by rw [HX.out], rfl, head_nilS, fun j hj => by simp at hj, by simp, by omega, by omega, by rw [HX.out]; exact r1⟩
  go_wp2_with fail
  (try simp only [Exit.inBlock, Exit.then])
  go_ret3
  exact HF.out
end Go.Proofs.YtolekldjbbjmjaaGreatDoor
