/- freeholdref04.Print. -/
import Derived.Test.YtnffadboflmecaaDoorPtrC
set_option linter.unusedSimpArgs false
set_option linter.unusedVariables false
namespace Go.Proofs.YtnffadboflmecaaDoor
open Go.RowKit Go.Lib

theorem esp_app : ∀ a b : List UInt8, esp (a ++ b) = esp a ++ esp b
  | [], b => rfl
  | x :: t, b => by rw [List.cons_append, esp, esp, esp_app t b, List.append_assoc]
theorem esp_one (x : UInt8) : esp [x] = (if x = 126 then [126, 48] else if x = 47 then [126, 49] else [x]) := by
  rw [esp, esp, List.append_nil]
theorem ba_data (a b : ByteArray) : (a ++ b).data.toList = a.data.toList ++ b.data.toList := by simp [ByteArray.data_append]
theorem ba_appsize (a b : ByteArray) : (a ++ b).size = a.size + b.size := by
  rw [← toList_size, ba_data, List.length_append, toList_size, toList_size]
theorem ext_at (x : ByteArray) (k : Nat) (h : k < x.size) : (x.extract k (k + 1)).data.toList = [x[k]] := by
  rw [ByteArray.data_extract, Array.toList_extract, List.extract_eq_take_drop, Nat.add_sub_cancel_left]
  have h2 : k < x.data.toList.length := by rw [toList_size]; exact h
  rw [List.drop_eq_getElem_cons h2, List.take_succ_cons, List.take_zero]
  rfl

set_option maxHeartbeats 2000000 in
set_option maxRecDepth 100000 in
theorem rprint_any (l : List ByteArray) (v : Value) (w : World) (hv : LiesS w v l) (ht : totS l ≤ 1100000) : Calls Tryd.prog 8 #[v] w (PtPost (prA (dat l)) w) := by
  have hll := totS_len l
  have HA : Hid (∀ j (h : j < l.length), validD (l[j]).data.toList = false → prA (dat l) = none) := fun j h hf => by
    rw [prA, if_neg]
    intro h2
    rw [List.all_eq_true] at h2
    have := h2 (l[j]).data.toList (List.mem_map.2 ⟨l[j], List.getElem_mem h, rfl⟩)
    rw [hf] at this
    cases this
  have HF : Hid ((∀ j (h : j < l.length), validD (l[j]).data.toList = true) → prA (dat l) = some (prT (dat l))) := fun h => by
    rw [prA, if_pos]
    rw [List.all_eq_true]
    intro x hx
    obtain ⟨y, hy, rfl⟩ := List.mem_map.1 hx
    obtain ⟨j, hj, rfl⟩ := List.getElem_of_mem hy
    exact h j hj
  have HS : Hid (∀ j (h : j < l.length), prT (dat (l.take (j + 1))) = (prT (dat (l.take j)) ++ [47]) ++ esp (l[j]).data.toList ∧ (prT (dat (l.take j))).length ≤ 2200000 ∧ (l[j]).size ≤ 1100000) := fun j h => by
    refine ⟨?_, ?_, ?_⟩
    · rw [pc_take l j h]
      exact prT_snoc _ _
    · have := prT_len (l.take j); have := totS_take l j; omega
    · have := totS_mem (List.getElem_mem h); omega
  have HC : Hid (LiesS w v l) := hv
  obtain ⟨⟨al, cl, rfl⟩, _⟩ := hv
  obtain ⟨O, hO⟩ : ∃ O, prA (dat l) = O := ⟨_, rfl⟩
  rw [hO] at HA HF ⊢
  clear hO
  go_enter Tryd.func8, Tryd.ntmps8
  go_wp2_with fail
  go_loopw [4, 5] (fun e4 e5 wr => ∃ (j : Nat) (q : ByteArray), j ≤ l.length ∧ e4 = .string q ∧ e5 = .int .i64 (j : Int) ∧ Hid (q.data.toList = prT (dat (l.take j))) ∧ Hid (∀ i (h : i < l.length), i < j → validD (l[i]).data.toList = true) ∧ wr = w) (fun _ e _ => l.length - (RowKit.intOf e).toNat)
  case atStart => exact ⟨0, ⟨#[]⟩, by omega, rfl, rfl, by show _ = _; rfl, fun i _ h => by omega, by first | trivial | rfl⟩
  case round =>
    obtain ⟨j, q, hj, rfl, rfl, HQ, HV, rfl⟩ := hrel
    by_cases hjl : j < l.length
    · have y1 : (j : Int) < l.length := by omega
      obtain ⟨g, o, d, e1, hg, hc⟩ := HC.out.2 (by omega)
      cases e1
      have c1 := hc j hjl
      obtain ⟨hs1, hs2, hs3⟩ := HS.out j hjl
      have CV := hmk (refValid_any l[j] (by omega) wr)
      have HA' := hmk (HA.out j hjl)
      have HV' : Hid (validD (l[j]).data.toList = true → ∀ i (h : i < l.length), i < j + 1 → validD (l[i]).data.toList = true) := fun h i hi hlt => by
        by_cases e : i = j
        · subst e; exact h
        · exact HV.out i hi (by omega)
      have HS1 : Hid (prT (dat (l.take (j + 1))) = (prT (dat (l.take j)) ++ [47]) ++ esp (l[j]).data.toList) := hs1
      have hqs : q.size ≤ 2200000 := by rw [← toList_size, HQ.out]; exact hs2
      generalize prT (dat (l.take j)) = P at *
      generalize l[j] = x at *
      generalize validD x.data.toList = V at *
      clear hc hs1
      go_wp2_with fail
      refine CV.out.mono ?_
      rintro e w1 ⟨rfl, rfl⟩
      cases V with
      | false =>
        have HR : Hid (O = none) := HA'.out rfl
        go_wp2_with fail
        go_ret2
        exact ⟨by rw [HR.out]; rfl, Below.refl _ _⟩
      | true =>
        have hz1 : (⟨#[47]⟩ : ByteArray).size = 1 := rfl
        go_wp2_with fail
        go_loopw [4, 7] (fun e4 e7 wr => ∃ (k : Nat) (r : ByteArray), k ≤ x.size ∧ e4 = .string r ∧ e7 = .int .i64 (k : Int) ∧ Hid (r.data.toList = (P ++ [47]) ++ esp (x.data.toList.take k)) ∧ wr = w1) (fun _ e _ => x.size - (RowKit.intOf e).toNat)
        case atStart => exact ⟨0, _, by omega, rfl, rfl, by (show _ = _; rw [ba_data, HQ.out, List.take_zero, esp, List.append_nil]), by first | trivial | rfl⟩
        case round =>
          obtain ⟨k, r, hk, rfl, rfl, HR, rfl⟩ := hrel
          have hrs : r.size ≤ 4400001 := by
            have h1 := esp_len (x.data.toList.take k)
            have h2 : (x.data.toList.take k).length ≤ x.size := by rw [List.length_take, toList_size]; omega
            rw [← toList_size, HR.out]
            simp only [List.length_append, List.length_cons, List.length_nil]
            omega
          by_cases hkl : k < x.size
          · have y2 : (k : Int) < x.size := by omega
            have y3 : (k : Int) + 1 ≤ x.size := by omega
            have z2 : (⟨#[126, 48]⟩ : ByteArray).size = 2 := rfl
            have z3 : (⟨#[126, 49]⟩ : ByteArray).size = 2 := rfl
            have HE : Hid (esp (x.data.toList.take (k + 1)) = esp (x.data.toList.take k) ++ (if x[k] = 126 then [126, 48] else if x[k] = 47 then [126, 49] else [x[k]])) := by
              show _ = _
              rw [take_snoc x k hkl, esp_app, esp_one]
            have HX := hmk (ext_at x k hkl)
            have hsl : (Instr.slice 9 (.string x) (some (.int .i64 (k : Int))) (some (.int .i64 ((k : Int) + 1))) none).run Tryd.prog wr = .ok (.string (x.extract k (k + 1))) wr := by
              rw [run_slice_string wr 9 x .i64 .i64 (k : Int) ((k : Int) + 1) Tryd.underlying9 (by omega) (by omega) (by omega)]
              rfl
            have hxs : (x.extract k (k + 1)).size = 1 := by rw [← toList_size, ext_at x k hkl]; rfl
            by_cases h1 : x[k] = 126
            · have h1i : ((x[k]).toNat : Int) = 126 := by rw [h1]; rfl
              go_wp2_with fail
              go_roundw
              case rel => exact ⟨k + 1, _, by omega, rfl, by go_num, by (show _ = _; rw [ba_data, HR.out, HE.out, if_pos h1, List.append_assoc]), by first | trivial | rfl⟩
              case measure => simp [RowKit.intOf]; omega
            · have h1i : ¬ ((x[k]).toNat : Int) = 126 := by have := neN x[k] 126 h1; simpa using this
              by_cases h2 : x[k] = 47
              · have h2i : ((x[k]).toNat : Int) = 47 := by rw [h2]; rfl
                go_wp2_with fail
                go_roundw
                case rel => exact ⟨k + 1, _, by omega, rfl, by go_num, by (show _ = _; rw [ba_data, HR.out, HE.out, if_neg h1, if_pos h2, List.append_assoc]), by first | trivial | rfl⟩
                case measure => simp [RowKit.intOf]; omega
              · have h2i : ¬ ((x[k]).toNat : Int) = 47 := by have := neN x[k] 47 h2; simpa using this
                go_wp2_with fail
                go_roundw
                case rel => exact ⟨k + 1, _, by omega, rfl, by go_num, by (show _ = _; rw [ba_data, HR.out, HE.out, if_neg h1, if_neg h2, List.append_assoc, HX.out]), by first | trivial | rfl⟩
                case measure => simp [RowKit.intOf]; omega
          · obtain rfl : k = x.size := by omega
            have y2 : ¬ (x.size : Int) < x.size := by omega
            go_wp2_with fail
            go_roundw
            case rel => exact ⟨j + 1, r, by omega, rfl, by go_num, by (show _ = _; rw [HR.out, HS1.out, take_all x _ (Nat.le_refl _)]), HV'.out (by first | trivial | rfl), by first | trivial | rfl⟩
            case measure => simp [RowKit.intOf]; omega
    · obtain rfl : j = l.length := by omega
      have y1 : ¬ (l.length : Int) < l.length := by omega
      have HR : Hid (O = some (prT (dat l))) := HF.out (fun i hi => HV.out i hi hi)
      have HQ2 : Hid (q = ⟨(prT (dat l)).toArray⟩) := by
        show _ = _
        have h := HQ.out
        rw [List.take_length] at h
        rw [← h]
      go_wp2_with fail
      go_ret2
      exact ⟨by rw [HR.out, HQ2.out]; rfl, Below.refl _ _⟩
end Go.Proofs.YtnffadboflmecaaDoor
