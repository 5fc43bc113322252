import Derived.Test.YtpmhdcmmlkjjmaaGreatDoorH11
import Derived.Test.YtpmhdcmmlkjjmaaGreatDoorH12
/- the document's put: a member more. -/
set_option linter.unusedSimpArgs false
set_option linter.unusedVariables false
set_option maxRecDepth 100000
namespace Go.Proofs.YtpmhdcmmlkjjmaaGreatDoor
open Go.RowKit Go.Lib
theorem hd_add {a : Option Addr} {n c b o i k t : Nat} (h : Headed a n c b o) (hit : i ≤ t) (htn : t ≤ n) (hc : ¬ c = i) : Headed (a.map (fun x : Addr => x.add (i * k))) (t - i) (c - i) b (o + i * k) := by
  have hle := h.le
  have hmx := h.max
  refine ⟨by omega, by omega, ?_, ?_⟩
  · rcases h.at_ with e | e
    · exact .inl (by omega)
    · exact .inr (by rw [e, Option.map_some, Go.WideShapes.add_plain])
  · intro e
    have e2 : a = none := by simpa using e
    have := h.nil e2
    omega
set_option maxHeartbeats 1000000 in
theorem slM_hi (a : Option Addr) (n c b o t : Nat) (h : Headed a n c b o) (htn : t ≤ n) : (∀ W, (Instr.slice 23 (.slice a n c) none (some (.int .i64 (t : Int))) none).run Tryz.prog W = .ok (.slice a t c) W) ∧ Headed a t c b o := by
  have hle := h.le
  have hmx := h.max
  have h1 : (0 : Int) ≤ t := by omega
  have h3 : (t : Int) ≤ c := by omega
  refine ⟨fun W => ?_, ⟨by omega, hmx, h.at_.elim (fun e => .inl (by omega)) .inr, h.nil⟩⟩
  go_simp
set_option maxHeartbeats 1000000 in
theorem slM_lo (a : Option Addr) (n c b o i : Nat) (h : Headed a n c b o) (hin : i ≤ n) : ∃ a' c', (∀ W, (Instr.slice 23 (.slice a n c) (some (.int .i64 (i : Int))) none none).run Tryz.prog W = .ok (.slice a' (n - i) c') W) ∧ Headed a' (n - i) c' b (o + i * 7) := by
  have hle := h.le
  have hmx := h.max
  have h1 : (0 : Int) ≤ i := by omega
  have h2 : (i : Int) ≤ n := by omega
  have h3 : (i : Int) ≤ c := by omega
  by_cases hc : c = i
  · refine ⟨a, 0, fun W => ?_, ⟨by omega, Nat.zero_le _, .inl (by omega), fun _ => rfl⟩⟩
    go_simp
    all_goals (intro h; omega)
  · refine ⟨a.map (fun x : Addr => x.add (i * 7)), c - i, fun W => ?_, hd_add h hin (Nat.le_refl _) hc⟩
    go_simp
/-- append(row, members...) -/
theorem wpl_catM (W : World) {ops : Array Oper} {rest : List Oper} {o : Oper} {a : Act} {Q : Exit → Act → World → Prop} (hgd : o.guard = none) (s x : Operand)
    (ho : o.op = .call { callee := .builtin .append, args := #[s, x], argTypes := #[23, 23] }) (base : Nat) (i : TypeInfo) (hJ : Tryz.prog.info? 57 = some i ∧ i.zero = some (.agg #[.string ⟨#[]⟩, .int .i64 0, .bool false, .int .i64 0, .string ⟨#[]⟩, .slice none 0 0, .slice none 0 0]) ∧ i.size = 7 ∧ i.bytes = 104)
    {S T : Nat → Prop} (v : Value) {l : List (Option Mem)} (d : List MC) (hs : a.eval s = v) (hown : OwnM false W base S v l)
    (ao : Option Addr) (n c b q : Nat) (hx : a.eval x = .slice ao n c) (hn : n = d.length) (hd : Headed ao n c b q) (h2 : ∀ x ∈ d, x.key.size ≤ maxLen ∧ x.val.lies false W T x.cs) (h3 : ∀ (j : Nat) (h : j < d.length), rowAt W b (q + j * 7) (d[j]).enc)
    (hT : ∀ b, T b → base ≤ b ∧ b < W.heap.size ∧ some b ≠ v.ownBlock) (hlen : l.length + n ≤ 4294967296) (hbase : base ≤ W.heap.size) (A : List (Option Mem)) (hA : Hid (l ++ (d.map MC.mem).map some = A))
    (h : ∀ v' w', OwnM false w' base (fun b => S b ∨ T b) v' A → W.grownBy w' v.ownBlock → (v.ownBlock = v'.ownBlock ∨ ∀ g, v'.ownBlock = some g → W.heap.size ≤ g) → wpList Tryz.prog ops Q rest (a.put o.dst v') w') : wpList Tryz.prog ops Q (o :: rest) a W := by
  subst hn
  have hA' := hA.out
  subst hA'
  have e : ((d.map MC.mem).map some).length = d.length := by simp
  refine wpl_catO (keepM false) W hgd s x 23 ho base i _ 104 Tryz.underlying23 hJ.1 hJ.2.1 hJ.2.2.1 hJ.2.2.2 rfl (by decide) (by decide) v ((d.map MC.mem).map some) hs hown ao c b q (by rw [e]; exact hx) (by rw [e]; exact hd) (d.map MC.enc) (by simp) (fun j hj => ?_) (fun x hx => ?_) (fun j hj => ?_) hT (by rw [e]; exact hlen) hbase h
  · rw [List.getElem_map]
    exact h3 j (by simpa using hj)
  · obtain ⟨y, _, rfl⟩ := List.mem_map.1 hx
    exact ⟨y.len, y.one⟩
  · have hj' : j < d.length := by simpa using hj
    simp only [List.getElem_map]
    have := h2 _ (List.getElem_mem hj')
    exact ⟨_, rfl, this.1, this.2⟩
/-- what put does -/
def PuP (L : List Mem) (key : ByteArray) (base : Nat) (w : World) (e : Ending) (w' : World) : Prop :=
  Below w.heap.size w w' ∧ ((key.data.toList ∈ keysM L ∧ ∃ a n c, e = .returned (.tuple #[.slice a n c, .bool false])) ∨ (key.data.toList ∉ keysM L ∧ ∃ v S, e = .returned (.tuple #[v, .bool true]) ∧ OwnM false w' base S v ((insM (key, nulV) L).map some) ∧ ∀ g, v.ownBlock = some g → w.heap.size ≤ g))
set_option maxHeartbeats 16000000 in
theorem dput_any (L : List Mem) (key : ByteArray) (T : Nat → Prop) (ao : Option Addr) (cap b o base : Nat) (w : World) (hh : Headed ao L.length cap b o) (hl : liesM false w T L b o) (hT : ∀ x, T x → base ≤ x ∧ x < w.heap.size) (hs : L.Pairwise leM) (hn : L.length ≤ 100000000) (hkey : key.size ≤ maxLen) (hb : base ≤ w.heap.size) :
    Calls Tryz.prog 75 #[.slice ao L.length cap, .agg #[.string key, .int .i64 0, .bool false, .int .i64 0, .string ⟨#[]⟩, .slice none 0 0, .slice none 0 0]] w (PuP L key base w) := by
  obtain ⟨d, hd, hd2, hd3⟩ := mc_of hl
  have hdl : d.length = L.length := by rw [← hd, List.length_map]
  obtain ⟨i1, hi1, hy0, hy1, hy2⟩ := info_parts info44
  have hJ : Hid (Tryz.prog.info? 57 = some i1 ∧ i1.zero = some (.agg #[.string ⟨#[]⟩, .int .i64 0, .bool false, .int .i64 0, .string ⟨#[]⟩, .slice none 0 0, .slice none 0 0]) ∧ i1.size = 7 ∧ i1.bytes = 104) := ⟨hi1, hy0, hy1, hy2⟩
  have hb0 := box_row w [.string key, .int .i64 0, .bool false, .int .i64 0, .string ⟨#[]⟩, .slice none 0 0, .slice none 0 0] 57
  have hz0 := alloc_size w (.cells #[.string key, .int .i64 0, .bool false, .int .i64 0, .string ⟨#[]⟩, .slice none 0 0, .slice none 0 0] 57)
  have B0 : Below w.heap.size w (w.alloc (.cells #[.string key, .int .i64 0, .bool false, .int .i64 0, .string ⟨#[]⟩, .slice none 0 0, .slice none 0 0] 57)) := (Below.refl _ _).alloc (Nat.le_refl _) _
  have HK : Hid (∀ (j : Nat) (h : j < L.length), (L[j]).1 = (d[j]'(by omega)).key) := fun j h => by
    subst hd
    rw [List.getElem_map]
    rfl
  have HDM : Hid (d.map MC.mem = L) := hd
  have HD2 : Hid (∀ x ∈ d, x.key.size ≤ maxLen ∧ x.val.lies false w T x.cs) := hd2
  have HD3 : Hid (∀ (j : Nat) (h : j < d.length), rowAt w b (o + j * 7) (d[j]).enc) := hd3
  have HTB : Hid (∀ j : Nat, j < L.length → T b) := fun j h => (liesM_get hl j h).1
  have HTT := hmk hT
  have HS := hmk hs
  clear hl hd hd2 hd3 hi1 hy0 hy1 hy2 hT hs
  go_enter Tryz.func75, Tryz.ntmps75
  go_wp2_with fail
  generalize (w.alloc (.cells #[.string key, .int .i64 0, .bool false, .int .i64 0, .string ⟨#[]⟩, .slice none 0 0, .slice none 0 0] 57)) = w0 at *
  go_loopw [6] (fun e6 wr => ∃ k : Nat, k ≤ L.length ∧ e6 = .int .i64 (k : Int) ∧ Below w0.heap.size w0 wr ∧ Hid (∀ i, (hi : i < L.length) → k ≤ i → cmpS key (L[i]).1 < 0)) (fun e6 _ => (RowKit.intOf e6).toNat)
  case atStart => exact ⟨L.length, Nat.le_refl _, rfl, Below.refl _ _, fun i hi h => by omega⟩
  case round =>
    obtain ⟨k, hk, rfl, bj, HLOW⟩ := hrel
    have hzr := bj.size
    have r0 := hb0.keep (bj.block _ (by omega))
    obtain ⟨f, f0, f1, f2, f3, f4, f5⟩ := row7 r0
    simp only [Nat.zero_add] at f f0 f1 f2 f3 f4 f5
    by_cases hk0 : 0 < k
    · have y5 : (0 : Int) < (k : Int) := by omega
      have y6 : ((k : Int) - 1) = ((k - 1 : Nat) : Int) := by omega
      have y7 : ((k - 1 : Nat) : Int) < (L.length : Int) := by omega
      have hk1 : k - 1 < L.length := by omega
      have hao : ao = some ⟨b, o, none⟩ := hh.at_.resolve_left (by omega)
      have hTb := HTT.out b (HTB.out _ hk1)
      have hrow := (HD3.out (k - 1) (by omega)).keep ((bj.block b (by omega)).trans (B0.block b hTb.2))
      have q := (row7 hrow).1
      rw [← HK.out (k - 1) hk1] at q
      have x0 : ∀ x : Sub wr.heap.size wr, _ := sub_cell q (by omega)
      have x1 : ∀ x : Sub wr.heap.size wr, _ := sub_cell f (by omega)
      have HLK := less_k key (L[k - 1]'hk1).1
      have HFA : Hid (¬ cmpS key (L[k - 1]'hk1).1 < 0 → ¬ (L[k - 1]'hk1).1 = key → key.data.toList ∉ keysM L) := fun h1 h2 => fresh_at HS.out hk1 h1 h2 (fun i hi h => HLOW.out i hi (by omega))
      have HIA : Hid (¬ cmpS key (L[k - 1]'hk1).1 < 0 → insM (key, nulV) L = L.take k ++ [(key, nulV)] ++ L.drop k) := fun h => ins_at hk (fun i hi h => HLOW.out i hi h) (fun i hi h' => low_all HS.out hk1 h i hi (by omega))
      have HOA : Hid ((L[k - 1]'hk1).1 = key → key.data.toList ∈ keysM L) := fun h => old_at hk1 h
      have HNL : Hid (cmpS key (L[k - 1]'hk1).1 < 0 → ∀ i, (hi : i < L.length) → k - 1 ≤ i → cmpS key (L[i]).1 < 0) := fun h i hi hki => by
        by_cases e : i = k - 1
        · subst e; exact h
        · exact HLOW.out i hi (by omega)
      generalize (L[k - 1]'hk1).1 = lk at *
      clear hrow
      cases hL : Op.bytesLess key.toList lk.toList
      · have hcmp : ¬ cmpS key lk < 0 := by rw [hL] at HLK; intro h; simp [h] at HLK
        have HC := hmk hcmp
        clear hcmp HLK
        cases hE : (lk.toList == key.toList)
        · have hne : ¬ lk = key := fun e => by rw [e] at hE; simp at hE
          have hB : Op.bytesLess lk.toList key.toList = true := by
            rw [less_k, decide_eq_true_iff]
            have h1 := HC.out
            have h2 := k_anti lk key
            have h3 : ¬ cmpS lk key = 0 := fun e => hne (kz e)
            omega
          have HFR := hmk (HFA.out HC.out hne)
          subst hao
          go_wp2_with fail
          refine wp_region_sub wr.heap.size (by kernel_rfl) (by kernel_rfl) ?_
          repeat (go_big_quiet_step (fail))
          refine wpQuiet_nil ?_
          rintro wp ⟨⟨wp', bwp⟩, hq⟩
          have hq' : wp = wp' := hq
          subst hq'
          clear hq
          have BP0 := bj.trans (bwp.mono hzr)
          have hzp := BP0.size
          have x0 : ∀ x : Sub wp.heap.size wp, _ := sub_cell ((bwp.cell (p := ⟨b, o + (k - 1) * 7, none⟩) (by show b < _; omega)).trans q) (by omega)
          have x1 : ∀ x : Sub wp.heap.size wp, _ := sub_cell ((bwp.cell (p := ⟨w.heap.size, 0, none⟩) (by show w.heap.size < _; omega)).trans f) (by omega)
          go_wp2_with fail
          refine wp_region_sub wp.heap.size (by kernel_rfl) (by kernel_rfl) ?_
          repeat (go_big_quiet_step (fail))
          refine wpQuiet_nil ?_
          rintro wq ⟨⟨wq', bwq⟩, hq⟩
          have hq' : wq = wq' := hq
          subst hq'
          clear hq
          have BQ0 := BP0.trans (bwq.mono hzp)
          clear x0 x1 f f0 f1 f2 f3 f4 f5
          have BQ : Below w.heap.size w wq := B0.trans (BQ0.mono (by omega))
          have hzq := BQ0.size
          have INS : Hid (insM (key, nulV) L = L.take k ++ [(key, nulV)] ++ L.drop k) := HIA.out HC.out
          obtain ⟨hs1, hd1⟩ := slM_hi (some ⟨b, o, none⟩) L.length cap b o k hh hk
          obtain ⟨a3, c3, hs3, hd3⟩ := slM_lo (some ⟨b, o, none⟩) L.length cap b o k hh hk
          have r0 := hb0.keep (BQ0.block _ (by omega))
          have KT : Hid (∀ W : World, (∀ x, x < w.heap.size → W.heap[x]? = w.heap[x]?) → (∀ x ∈ d, x.key.size ≤ maxLen ∧ x.val.lies false W T x.cs) ∧ (∀ (j : Nat) (h : j < d.length), rowAt W b (o + j * 7) (d[j]).enc)) := fun W hW =>
            ⟨fun x hx => ⟨(HD2.out x hx).1, V.lies_keep (fun h => h) (fun y hy => hW y (HTT.out y hy).2) (fun _ h => h) _ (HD2.out x hx).2⟩, fun j hj => (HD3.out j hj).keep (hW b (HTT.out b (HTB.out j (by omega))).2)⟩
          have HTK : Hid (d.take k = d.take k ∧ (d.take k).map MC.mem = L.take k ∧ (d.drop k).map MC.mem = L.drop k) := ⟨rfl, by rw [List.map_take, HDM.out], by rw [List.map_drop, HDM.out]⟩
          have hbase : base ≤ wq.heap.size := by omega
          have hT1 : Hid (∀ x, T x → base ≤ x ∧ x < wq.heap.size) := fun x hx => ⟨(HTT.out x hx).1, by have := (HTT.out x hx).2; omega⟩
          have K1 := KT.out wq (fun x hx => BQ.block x hx)
          have HK1 := hmk K1
          clear K1
          obtain ⟨A1, HA1⟩ : ∃ A1 : List (Option Mem), Hid ([] ++ (List.map MC.mem (d.take k)).map some = A1) := ⟨_, hmk rfl⟩
          obtain ⟨A2, HA2⟩ : ∃ A2 : List (Option Mem), Hid (A1 ++ [some (key, nulV)] = A2) := ⟨_, hmk rfl⟩
          obtain ⟨A3, HA3⟩ : ∃ A3 : List (Option Mem), Hid (A2 ++ (List.map MC.mem (d.drop k)).map some = A3) := ⟨_, hmk rfl⟩
          have HFIN : Hid (A3 = (insM (key, nulV) L).map some) := by show _ = _; rw [← HA3.out, ← HA2.out, ← HA1.out, INS.out, HTK.out.2.1, HTK.out.2.2, List.map_append, List.map_append]; rfl
          have hle1 : A1.length = k := by rw [← HA1.out, HTK.out.2.1, List.nil_append, List.length_map, List.length_take]; omega
          have hle2 : A2.length = k + 1 := by rw [← HA2.out, List.length_append, hle1]; rfl
          go_wp2_with (at_builtin; go_loud (refine wpl_catM wq rfl (.tmp 39) (.tmp 42) rfl base i1 hJ.out (.slice none 0 0) (d.take k) rfl (OwnR.nil wq base) (some ⟨b, o, none⟩) k cap b o rfl (by rw [List.length_take]; omega) hd1 (fun x hx => HK1.out.1 x (List.mem_of_mem_take hx)) (fun j hj => by rw [List.getElem_take]; exact HK1.out.2 j (by rw [List.length_take] at hj; omega)) (fun x hx => ⟨(hT1.out x hx).1, (hT1.out x hx).2, by simp [Value.ownBlock]⟩) (by first | (simp only [List.length_nil]; omega) | simp) hbase A1 HA1 ?_))
          intro v1 w1 o1 g1 n1
          have hz1 := g1.size
          have KB1 : Hid (∀ x, x < wq.heap.size → w1.heap[x]? = wq.heap[x]?) := fun x hx => g1.block x hx (by simp [Value.ownBlock])
          have B1 : Hid (Below w.heap.size w w1) := BQ.grown g1 (by omega) (fun r e => by simp [Value.ownBlock] at e)
          have hv1 : Hid (∀ r, v1.ownBlock = some r → wq.heap.size ≤ r) := fun r hr => n1.elim (fun e => by rw [← e] at hr; simp [Value.ownBlock] at hr) (fun h => h r hr)
          have r1 := r0.keep (KB1.out _ (by omega))
          obtain ⟨f, f0, f1, f2, f3, f4, f5⟩ := row7 r1
          simp only [Nat.zero_add] at f f0 f1 f2 f3 f4 f5
          have O1 := hmk o1
          have hal := alloc_size w1 (.cells #[.string key, .int .i64 0, .bool false, .int .i64 0, .string ⟨#[]⟩, .slice none 0 0, .slice none 0 0] 57)
          have hE : Hid (EM false (some (key, nulV)) (w1.alloc (.cells #[.string key, .int .i64 0, .bool false, .int .i64 0, .string ⟨#[]⟩, .slice none 0 0, .slice none 0 0] 57)) (fun _ => False) [.string key, .int .i64 0, .bool false, .int .i64 0, .string ⟨#[]⟩, .slice none 0 0, .slice none 0 0]) := ⟨_, rfl, hkey, nul_lies _ _⟩
          clear o1 n1
          go_wp2_with (at_builtin; go_loud (refine wpl_push (keepM false) _ rfl (.tmp 44) (.tmp 46) 23 rfl base i1 _ 104 Tryz.underlying23 hJ.out.1 hJ.out.2.1 hJ.out.2.2.1 hJ.out.2.2.2 rfl (by decide) (by decide) v1 (some (key, nulV)) (Sx := fun _ => False) rfl (O1.out.alloc (keepM false) _) w1.heap.size 1 (0, 0) rfl (heap_alloc_new w1 _) rfl one7 hE.out (fun x hx => hx.elim) (by omega) (by rw [hal]; omega) ?_))
          intro g2 cp2 w2 o2 gr2 n2
          have hz2 := gr2.size
          have KB2 : Hid (∀ x, x < wq.heap.size → w2.heap[x]? = wq.heap[x]?) := fun x hx => by
            rw [gr2.block x (by omega) (fun e => by have := hv1.out x e.symm; omega), Below.heap_alloc w1 _ x (by omega), KB1.out x hx]
          have B2 : Hid (Below w.heap.size w w2) := (B1.out.alloc (by omega) _).grown gr2 (by omega) (fun r e => by have := hv1.out r e; omega)
          have hv2 : Hid (wq.heap.size ≤ g2) := n2.elim (fun e => hv1.out g2 e) (fun h => by show _ ≤ _; omega)
          rw [HA2.out] at o2
          have O2 := hmk o2
          have K2 := hmk (KT.out w2 (fun x hx => (KB2.out x (by omega)).trans (BQ.block x hx)))
          have HST : Hid (∀ x, T x → base ≤ x ∧ x < w2.heap.size ∧ ¬ x = g2) := fun x hx => ⟨(hT1.out x hx).1, by have := (hT1.out x hx).2; omega, by have := (hT1.out x hx).2; have := hv2.out; omega⟩
          have HG2 : Hid (w.heap.size ≤ g2) := by have := hv2.out; show _ ≤ _; omega
          clear o2 gr2 n2 f f0 f1 f2 f3 f4 f5 r1 hE O1 g1
          go_wp2_with (at_builtin; go_loud (refine wpl_catM w2 rfl (.tmp 48) (.tmp 51) rfl base i1 hJ.out (.slice (some ⟨g2, 0, none⟩) _ cp2) (d.drop k) rfl O2.out a3 (L.length - k) c3 b (o + k * 7) rfl (by rw [List.length_drop]; omega) hd3 (fun x hx => K2.out.1 x (List.mem_of_mem_drop hx)) (fun j hj => by rw [List.getElem_drop]; have := K2.out.2 (k + j) (by rw [List.length_drop] at hj; omega); rwa [Nat.add_mul, ← Nat.add_assoc] at this) (fun x hx => ⟨(HST.out x hx).1, (HST.out x hx).2.1, fun e => (HST.out x hx).2.2 (by simpa [Value.ownBlock] using e)⟩) (by omega) (by omega) A3 HA3 ?_))
          intro v3 w3 o3 g3 n3
          have hz3 := g3.size
          have B3 : Hid (Below w.heap.size w w3) := B2.out.grown g3 (by omega) (fun r e => by rw [← show g2 = r by simpa [Value.ownBlock] using e]; exact HG2.out)
          have hv3 : Hid (∀ r, v3.ownBlock = some r → w.heap.size ≤ r) := fun r hr => n3.elim (fun e => by rw [← e] at hr; rw [← show g2 = r by simpa [Value.ownBlock] using hr]; exact HG2.out) (fun h => by have := h r hr; omega)
          have O3 : Hid (∃ S, OwnM false w3 base S v3 ((insM (key, nulV) L).map some)) := ⟨_, by rw [← HFIN.out]; exact o3⟩
          clear o3 g3 n3 O2 K2
          go_wp2_with fail
          go_ret2
          obtain ⟨S3, O3⟩ := O3.out
          exact ⟨B3.out, .inr ⟨HFR.out, v3, S3, rfl, O3, hv3.out⟩⟩
        · have hne : lk = key := key_eq (by rw [← toList_data, ← toList_data]; simpa using hE)
          have HOK := hmk (HOA.out hne)
          subst hao
          go_wp2_with fail
          refine wp_region_sub wr.heap.size (by kernel_rfl) (by kernel_rfl) ?_
          repeat (go_big_quiet_step (fail))
          refine wpQuiet_nil ?_
          rintro wp ⟨⟨wp', bwp⟩, hq⟩
          have hq' : wp = wp' := hq
          subst hq'
          clear hq
          have BP0 := bj.trans (bwp.mono hzr)
          have hzp := BP0.size
          have x0 : ∀ x : Sub wp.heap.size wp, _ := sub_cell ((bwp.cell (p := ⟨b, o + (k - 1) * 7, none⟩) (by show b < _; omega)).trans q) (by omega)
          have x1 : ∀ x : Sub wp.heap.size wp, _ := sub_cell ((bwp.cell (p := ⟨w.heap.size, 0, none⟩) (by show w.heap.size < _; omega)).trans f) (by omega)
          go_wp2_with fail
          refine wp_region_sub wp.heap.size (by kernel_rfl) (by kernel_rfl) ?_
          repeat (go_big_quiet_step (fail))
          refine wpQuiet_nil ?_
          rintro wq ⟨⟨wq', bwq⟩, hq⟩
          have hq' : wq = wq' := hq
          subst hq'
          clear hq
          have BQ0 := BP0.trans (bwq.mono hzp)
          clear x0 x1 f f0 f1 f2 f3 f4 f5
          go_wp2_with fail
          go_ret2
          exact ⟨B0.trans (BQ0.mono (by omega)), .inl ⟨HOK.out, _, _, _, rfl⟩⟩
      · have hcmp : cmpS key lk < 0 := by rw [hL] at HLK; simpa using HLK.symm
        have HC := hmk (HNL.out hcmp)
        have hB : Op.bytesLess lk.toList key.toList = false := by
          rw [less_k, decide_eq_false_iff_not]
          have h2 := k_anti lk key
          omega
        have hE : (lk.toList == key.toList) = false := by
          rw [beq_eq_false_iff_ne]
          intro e
          have e' : lk = key := key_eq (by rw [← toList_data, ← toList_data]; exact e)
          rw [e', k_self] at hcmp
          omega
        clear hcmp HLK
        subst hao
        go_wp2_with fail
        refine wp_region_sub wr.heap.size (by kernel_rfl) (by kernel_rfl) ?_
        repeat (go_big_quiet_step (fail))
        refine wpQuiet_nil ?_
        rintro wp ⟨⟨wp', bwp⟩, hq⟩
        have hq' : wp = wp' := hq
        subst hq'
        clear hq
        go_wp2_with fail
        go_roundw
        case rel => exact ⟨k - 1, by omega, by go_num, bj.trans (bwp.mono hzr), HC⟩
        case measure => simp [RowKit.intOf]; omega
    · obtain rfl : k = 0 := by omega
      have HFR : Hid (key.data.toList ∉ keysM L) := fresh_zero (fun i hi h => HLOW.out i hi h)
      have HIA : Hid (insM (key, nulV) L = L.take 0 ++ [(key, nulV)] ++ L.drop 0) := ins_at (Nat.zero_le _) (fun i hi h => HLOW.out i hi h) (fun i hi h => by omega)
      go_wp2_with fail
      refine wp_region_sub wr.heap.size (by kernel_rfl) (by kernel_rfl) ?_
      repeat (go_big_quiet_step (fail))
      refine wpQuiet_nil ?_
      rintro wp ⟨⟨wp', bwp⟩, hq⟩
      have hq' : wp = wp' := hq
      subst hq'
      clear hq
      have BP0 := bj.trans (bwp.mono hzr)
      have hzp := BP0.size
      go_wp2_with fail
      refine wp_region_sub wp.heap.size (by kernel_rfl) (by kernel_rfl) ?_
      repeat (go_big_quiet_step (fail))
      refine wpQuiet_nil ?_
      rintro wq ⟨⟨wq', bwq⟩, hq⟩
      have hq' : wq = wq' := hq
      subst hq'
      clear hq
      have BQ0 := BP0.trans (bwq.mono hzp)
      clear f f0 f1 f2 f3 f4 f5
      have BQ : Below w.heap.size w wq := B0.trans (BQ0.mono (by omega))
      have hzq := BQ0.size
      have INS : Hid (insM (key, nulV) L = L.take 0 ++ [(key, nulV)] ++ L.drop 0) := HIA.out
      obtain ⟨hs1, hd1⟩ := slM_hi ao L.length cap b o 0 hh hk
      obtain ⟨a3, c3, hs3, hd3⟩ := slM_lo ao L.length cap b o 0 hh hk
      replace hs1 : ∀ W, (Instr.slice 23 (.slice ao L.length cap) none (some (.int .i64 0)) none).run Tryz.prog W = .ok (.slice ao 0 cap) W := hs1
      replace hs3 : ∀ W, (Instr.slice 23 (.slice ao L.length cap) (some (.int .i64 0)) none none).run Tryz.prog W = .ok (.slice a3 (L.length - 0) c3) W := hs3
      have r0 := hb0.keep (BQ0.block _ (by omega))
      have KT : Hid (∀ W : World, (∀ x, x < w.heap.size → W.heap[x]? = w.heap[x]?) → (∀ x ∈ d, x.key.size ≤ maxLen ∧ x.val.lies false W T x.cs) ∧ (∀ (j : Nat) (h : j < d.length), rowAt W b (o + j * 7) (d[j]).enc)) := fun W hW =>
        ⟨fun x hx => ⟨(HD2.out x hx).1, V.lies_keep (fun h => h) (fun y hy => hW y (HTT.out y hy).2) (fun _ h => h) _ (HD2.out x hx).2⟩, fun j hj => (HD3.out j hj).keep (hW b (HTT.out b (HTB.out j (by omega))).2)⟩
      have HTK : Hid (d.take 0 = d.take 0 ∧ (d.take 0).map MC.mem = L.take 0 ∧ (d.drop 0).map MC.mem = L.drop 0) := ⟨rfl, by rw [List.map_take, HDM.out], by rw [List.map_drop, HDM.out]⟩
      have hbase : base ≤ wq.heap.size := by omega
      have hT1 : Hid (∀ x, T x → base ≤ x ∧ x < wq.heap.size) := fun x hx => ⟨(HTT.out x hx).1, by have := (HTT.out x hx).2; omega⟩
      have K1 := KT.out wq (fun x hx => BQ.block x hx)
      have HK1 := hmk K1
      clear K1
      obtain ⟨A1, HA1⟩ : ∃ A1 : List (Option Mem), Hid ([] ++ (List.map MC.mem (d.take 0)).map some = A1) := ⟨_, hmk rfl⟩
      obtain ⟨A2, HA2⟩ : ∃ A2 : List (Option Mem), Hid (A1 ++ [some (key, nulV)] = A2) := ⟨_, hmk rfl⟩
      obtain ⟨A3, HA3⟩ : ∃ A3 : List (Option Mem), Hid (A2 ++ (List.map MC.mem (d.drop 0)).map some = A3) := ⟨_, hmk rfl⟩
      have HFIN : Hid (A3 = (insM (key, nulV) L).map some) := by show _ = _; rw [← HA3.out, ← HA2.out, ← HA1.out, INS.out, HTK.out.2.1, HTK.out.2.2, List.map_append, List.map_append]; rfl
      have hle1 : A1.length = 0 := by rw [← HA1.out, HTK.out.2.1, List.nil_append, List.length_map, List.length_take]; omega
      have hle2 : A2.length = 0 + 1 := by rw [← HA2.out, List.length_append, hle1]; rfl
      go_wp2_with (at_builtin; go_loud (refine wpl_catM wq rfl (.tmp 39) (.tmp 42) rfl base i1 hJ.out (.slice none 0 0) (d.take 0) rfl (OwnR.nil wq base) ao 0 cap b o rfl (by simp) hd1 (fun x hx => HK1.out.1 x (List.mem_of_mem_take hx)) (fun j hj => by rw [List.getElem_take]; exact HK1.out.2 j (by rw [List.length_take] at hj; omega)) (fun x hx => ⟨(hT1.out x hx).1, (hT1.out x hx).2, by simp [Value.ownBlock]⟩) (by first | (simp only [List.length_nil]; omega) | simp) hbase A1 HA1 ?_))
      intro v1 w1 o1 g1 n1
      have hz1 := g1.size
      have KB1 : Hid (∀ x, x < wq.heap.size → w1.heap[x]? = wq.heap[x]?) := fun x hx => g1.block x hx (by simp [Value.ownBlock])
      have B1 : Hid (Below w.heap.size w w1) := BQ.grown g1 (by omega) (fun r e => by simp [Value.ownBlock] at e)
      have hv1 : Hid (∀ r, v1.ownBlock = some r → wq.heap.size ≤ r) := fun r hr => n1.elim (fun e => by rw [← e] at hr; simp [Value.ownBlock] at hr) (fun h => h r hr)
      have r1 := r0.keep (KB1.out _ (by omega))
      obtain ⟨f, f0, f1, f2, f3, f4, f5⟩ := row7 r1
      simp only [Nat.zero_add] at f f0 f1 f2 f3 f4 f5
      have O1 := hmk o1
      have hal := alloc_size w1 (.cells #[.string key, .int .i64 0, .bool false, .int .i64 0, .string ⟨#[]⟩, .slice none 0 0, .slice none 0 0] 57)
      have hE : Hid (EM false (some (key, nulV)) (w1.alloc (.cells #[.string key, .int .i64 0, .bool false, .int .i64 0, .string ⟨#[]⟩, .slice none 0 0, .slice none 0 0] 57)) (fun _ => False) [.string key, .int .i64 0, .bool false, .int .i64 0, .string ⟨#[]⟩, .slice none 0 0, .slice none 0 0]) := ⟨_, rfl, hkey, nul_lies _ _⟩
      clear o1 n1
      go_wp2_with (at_builtin; go_loud (refine wpl_push (keepM false) _ rfl (.tmp 44) (.tmp 46) 23 rfl base i1 _ 104 Tryz.underlying23 hJ.out.1 hJ.out.2.1 hJ.out.2.2.1 hJ.out.2.2.2 rfl (by decide) (by decide) v1 (some (key, nulV)) (Sx := fun _ => False) rfl (O1.out.alloc (keepM false) _) w1.heap.size 1 (0, 0) rfl (heap_alloc_new w1 _) rfl one7 hE.out (fun x hx => hx.elim) (by omega) (by rw [hal]; omega) ?_))
      intro g2 cp2 w2 o2 gr2 n2
      have hz2 := gr2.size
      have KB2 : Hid (∀ x, x < wq.heap.size → w2.heap[x]? = wq.heap[x]?) := fun x hx => by
        rw [gr2.block x (by omega) (fun e => by have := hv1.out x e.symm; omega), Below.heap_alloc w1 _ x (by omega), KB1.out x hx]
      have B2 : Hid (Below w.heap.size w w2) := (B1.out.alloc (by omega) _).grown gr2 (by omega) (fun r e => by have := hv1.out r e; omega)
      have hv2 : Hid (wq.heap.size ≤ g2) := n2.elim (fun e => hv1.out g2 e) (fun h => by show _ ≤ _; omega)
      rw [HA2.out] at o2
      have O2 := hmk o2
      have K2 := hmk (KT.out w2 (fun x hx => (KB2.out x (by omega)).trans (BQ.block x hx)))
      have HST : Hid (∀ x, T x → base ≤ x ∧ x < w2.heap.size ∧ ¬ x = g2) := fun x hx => ⟨(hT1.out x hx).1, by have := (hT1.out x hx).2; omega, by have := (hT1.out x hx).2; have := hv2.out; omega⟩
      have HG2 : Hid (w.heap.size ≤ g2) := by have := hv2.out; show _ ≤ _; omega
      clear o2 gr2 n2 f f0 f1 f2 f3 f4 f5 r1 hE O1 g1
      go_wp2_with (at_builtin; go_loud (refine wpl_catM w2 rfl (.tmp 48) (.tmp 51) rfl base i1 hJ.out (.slice (some ⟨g2, 0, none⟩) _ cp2) (d.drop 0) rfl O2.out a3 (L.length - 0) c3 b (o + 0 * 7) rfl (by rw [List.length_drop]; omega) hd3 (fun x hx => K2.out.1 x (List.mem_of_mem_drop hx)) (fun j hj => by rw [List.getElem_drop]; have := K2.out.2 (0 + j) (by rw [List.length_drop] at hj; omega); rwa [Nat.add_mul, ← Nat.add_assoc] at this) (fun x hx => ⟨(HST.out x hx).1, (HST.out x hx).2.1, fun e => (HST.out x hx).2.2 (by simpa [Value.ownBlock] using e)⟩) (by omega) (by omega) A3 HA3 ?_))
      intro v3 w3 o3 g3 n3
      have hz3 := g3.size
      have B3 : Hid (Below w.heap.size w w3) := B2.out.grown g3 (by omega) (fun r e => by rw [← show g2 = r by simpa [Value.ownBlock] using e]; exact HG2.out)
      have hv3 : Hid (∀ r, v3.ownBlock = some r → w.heap.size ≤ r) := fun r hr => n3.elim (fun e => by rw [← e] at hr; rw [← show g2 = r by simpa [Value.ownBlock] using hr]; exact HG2.out) (fun h => by have := h r hr; omega)
      have O3 : Hid (∃ S, OwnM false w3 base S v3 ((insM (key, nulV) L).map some)) := ⟨_, by rw [← HFIN.out]; exact o3⟩
      clear o3 g3 n3 O2 K2
      go_wp2_with fail
      go_ret2
      obtain ⟨S3, O3⟩ := O3.out
      exact ⟨B3.out, .inr ⟨HFR.out, v3, S3, rfl, O3, hv3.out⟩⟩
end Go.Proofs.YtpmhdcmmlkjjmaaGreatDoor
