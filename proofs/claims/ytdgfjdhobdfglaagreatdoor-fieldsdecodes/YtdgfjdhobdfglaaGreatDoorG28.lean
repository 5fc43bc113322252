/- joined: PrsQ WrtA WrtB WrtC WrtD -/
import Derived.Test.YtdgfjdhobdfglaaGreatDoorG26
set_option linter.unusedSimpArgs false
set_option linter.unusedVariables false
set_option maxRecDepth 100000
namespace Go.Proofs.YtdgfjdhobdfglaaGreatDoor
open Go.RowKit Go.Lib
theorem sz0B : (⟨#[]⟩ : ByteArray).size = 0 := rfl
theorem scaF_wt {s : ByteArray} {k : Nat} {v : V} {k1 : Nat} (h : scaF s.data.toList k = some (v, k1)) : v.wt <= s.size + 1 := by
 unfold scaF at h
 split at h
 ·have e := congrArg Prod.fst (Option.some.inj h)
  subst e; simp [V.wt, wtL, wtM, sz0B] <;> omega
 ·split at h
  ·have e := congrArg Prod.fst (Option.some.inj h)
   subst e; simp [V.wt, wtL, wtM, sz0B] <;> omega
  ·split at h
   ·cases hq : quoF s.data.toList k with
    | none => rw [hq] at h; cases h
    | some y =>
     rw [hq] at h
     have e := congrArg Prod.fst (Option.some.inj h)
     have hs := quoF_size (x := y.1) (k1 := y.2) hq
     subst e; simp [V.wt, wtL, wtM]; omega
   ·unfold intF at h
    split at h
    ·have e := congrArg Prod.fst (Option.some.inj h)
     subst e; simp [V.wt, wtL, wtM, sz0B] <;> omega
    ·cases h
theorem memF_wt {s : ByteArray} {k : Nat} {m : Mem} {k1 : Nat} (h : memF s.data.toList k = some (m, k1)) : m.1.size + m.2.wt <= 2 * s.size + 1 := by
 unfold memF at h
 split at h
 ·cases h
 ·rename_i n k2 hn
  split at h
  ·cases hq : scaF s.data.toList (k2 + 1) with
   | none => rw [hq] at h; cases h
   | some y =>
    rw [hq] at h
    have e := congrArg Prod.fst (Option.some.inj h)
    have h1 := scaF_wt (v := y.1) (k1 := y.2) hq
    have h2 := namF_size hn
    subst e
    dsimp only
    omega
  ·cases h
theorem keyF_wt {s : ByteArray} : ∀ (n k : Nat) (acc m : List Mem) (k1 : Nat), keyF s.data.toList n k acc = some (m, k1) -> wtM m <= wtM acc + n * (2 * s.size + 1)
 | 0, k, acc, m, k1, h => by cases h
 | n + 1, k, acc, m, k1, h => by
  unfold keyF at h
  split at h
  ·cases h
  ·rename_i x k2 hx
   have hw := memF_wt hx
   have ha : wtM (acc ++ [x]) = wtM acc + (x.1.size + x.2.wt) := by rw [wtM_app]; simp [wtM]
   split at h
   ·have e := congrArg Prod.fst (Option.some.inj h)
    dsimp only at e
    subst e
    rw [ha, Nat.add_mul]; omega
   ·split at h
    ·have := keyF_wt n (k2 + 1) (acc ++ [x]) m k1 h
     rw [ha] at this
     rw [Nat.add_mul]; omega
    ·cases h
theorem elmF_wt {s : ByteArray} {k : Nat} {x : El} {k1 : Nat} (h : elmF s.data.toList k = some (x, k1)) : x.wt <= 16 * s.size + 20 := by
 unfold elmF at h
 split at h
 ·cases hq : namF s.data.toList (k + 1) with
  | none => rw [hq] at h; cases h
  | some y =>
   rw [hq] at h
   have e := congrArg Prod.fst (Option.some.inj h)
   have h1 := namF_size (x := y.1) (k1 := y.2) hq
   subst e
   simp [El.wt, V.wt, nilW, wtL, wtM, sz0B]; omega
 ·split at h
  ·split at h
   ·cases h
   ·rename_i v k2 hv
    split at h
    ·have e := congrArg Prod.fst (Option.some.inj h)
     have h1 := scaF_wt hv
     subst e
     simp [El.wt, wtM, sz0B]; omega
    ·cases h
  ·split at h
   ·cases hq : keyF s.data.toList 8 (k + 1) [] with
    | none => rw [hq] at h; cases h
    | some y =>
     rw [hq] at h
     have e := congrArg Prod.fst (Option.some.inj h)
     have h1 := keyF_wt 8 (k + 1) [] y.1 y.2 hq
     simp only [wtM] at h1
     subst e
     simp [El.wt, V.wt, nilW, wtL, wtM, sz0B]; omega
   ·cases h
theorem quoF_ge {l : List UInt8} {k : Nat} {x : ByteArray} {k1 : Nat} (h : quoF l k = some (x, k1)) : k < k1 := by
 unfold quoF at h
 split at h
 ·rename_i h0
  have := ((Q.unqAll_inv l (k : Int)).2 h0).2.2.1
  have e := congrArg Prod.snd (Option.some.inj h)
  dsimp only at e
  omega
 ·cases h
theorem namF_ge {l : List UInt8} {k : Nat} {x : ByteArray} {k1 : Nat} (h : namF l k = some (x, k1)) : k < k1 := by
 unfold namF at h
 split at h
 ·have e := congrArg Prod.snd (Option.some.inj h)
  dsimp only at e
  omega
 ·exact quoF_ge h
theorem scaF_ge {l : List UInt8} {k : Nat} {v : V} {k1 : Nat} (h : scaF l k = some (v, k1)) : k <= k1 := by
 unfold scaF at h
 split at h
 ·have e := congrArg Prod.snd (Option.some.inj h)
  dsimp only at e; omega
 ·split at h
  ·have e := congrArg Prod.snd (Option.some.inj h)
   dsimp only at e; omega
  ·split at h
   ·cases hq : quoF l k with
    | none => rw [hq] at h; cases h
    | some y =>
     rw [hq] at h
     have e := congrArg Prod.snd (Option.some.inj h)
     have hs := quoF_ge (x := y.1) (k1 := y.2) hq
     dsimp only at e; omega
   ·unfold intF at h
    split at h
    ·have e := congrArg Prod.snd (Option.some.inj h)
     dsimp only at e; omega
    ·cases h
theorem memF_ge {l : List UInt8} {k : Nat} {m : Mem} {k1 : Nat} (h : memF l k = some (m, k1)) : k <= k1 := by
 unfold memF at h
 split at h
 ·cases h
 ·rename_i n k2 hn
  split at h
  ·cases hq : scaF l (k2 + 1) with
   | none => rw [hq] at h; cases h
   | some y =>
    rw [hq] at h
    have e := congrArg Prod.snd (Option.some.inj h)
    have h1 := scaF_ge (v := y.1) (k1 := y.2) hq
    have h2 := namF_ge hn
    dsimp only at e; omega
  ·cases h
theorem keyF_ge {l : List UInt8} : ∀ (n k : Nat) (acc m : List Mem) (k1 : Nat), keyF l n k acc = some (m, k1) -> k <= k1
 | 0, k, acc, m, k1, h => by cases h
 | n + 1, k, acc, m, k1, h => by
  unfold keyF at h
  split at h
  ·cases h
  ·rename_i x k2 hx
   have hw := memF_ge hx
   split at h
   ·have e := congrArg Prod.snd (Option.some.inj h)
    dsimp only at e; omega
   ·split at h
    ·have := keyF_ge n (k2 + 1) (acc ++ [x]) m k1 h
     omega
    ·cases h
theorem elmF_ge {l : List UInt8} {k : Nat} {x : El} {k1 : Nat} (h : elmF l k = some (x, k1)) : k < k1 := by
 unfold elmF at h
 split at h
 ·cases hq : namF l (k + 1) with
  | none => rw [hq] at h; cases h
  | some y =>
   rw [hq] at h
   have e := congrArg Prod.snd (Option.some.inj h)
   have h1 := namF_ge (x := y.1) (k1 := y.2) hq
   dsimp only at e; omega
 ·split at h
  ·split at h
   ·cases h
   ·rename_i v k2 hv
    split at h
    ·have e := congrArg Prod.snd (Option.some.inj h)
     have h1 := scaF_ge hv
     dsimp only at e; omega
    ·cases h
  ·split at h
   ·cases hq : keyF l 8 (k + 1) [] with
    | none => rw [hq] at h; cases h
    | some y =>
     rw [hq] at h
     have e := congrArg Prod.snd (Option.some.inj h)
     have h1 := keyF_ge 8 (k + 1) [] y.1 y.2 hq
     dsimp only at e; omega
   ·cases h
theorem ext_mid (s : ByteArray) (k k1 : Nat) (h : k <= k1) (h1 : k1 <= s.size) : s.extract k k1 = ⟨((s.data.toList.drop k).take (k1 - k)).toArray⟩ := by
 apply ByteArray.ext
 apply Array.ext'
 simp only [ByteArray.data_extract, Array.toList_extract]
end Go.Proofs.YtdgfjdhobdfglaaGreatDoor
set_option maxRecDepth 100000
namespace Go.Proofs.YtdgfjdhobdfglaaGreatDoor
open Go.RowKit Go.Lib
theorem bld_below {B b : Nat} {bs : List Value} {w w' : World} (h : IsBuilderF 111 5 B b bs w) (hb : Below w.heap.size w w') : IsBuilderF 111 5 B b bs w' := by
 have key : ∀ p, BuilderAtF 111 5 B b p bs w -> BuilderAtF 111 5 B b p bs w' := fun p h => by
  have hlt := h.lt
  obtain ⟨h1, v, h2, h3, h4⟩ := h
  exact ⟨h1, v, (hb.block b hlt).trans h2, h3.kept (grown_of_below hb) (by cases v.ownBlock <;> simp), h4⟩
 exact h.imp (key _) (key _)
theorem bld_new (w : World) : IsBuilderF 111 5 w.heap.size w.heap.size (byteCells []) (w.alloc (.cells #[.pointer none, .slice none 0 0] 111)) :=
 .inl ⟨Nat.le_refl _, .slice none 0 0, alloc_last w _, World.ownsRowF_nil _ _ _ _, by simp [Value.ownBlock]⟩
theorem bld_lt {B b : Nat} {bs : List Value} {w : World} (h : IsBuilderF 111 5 B b bs w) : B <= b /\ b < w.heap.size := h.elim (fun h => ⟨h.1, h.lt⟩) (fun h => ⟨h.1, h.lt⟩)
theorem bytes_app (a b : List UInt8) : byteCells a ++ byteCells b = byteCells (a ++ b) := by simp [byteCells]
structure Wr (B b : Nat) (l : List UInt8) (g : Nat) (o : Obj) (w0 w : World) : Prop where
 bl : IsBuilderF 111 5 B b (byteCells l) w
 be : Below B w0 w
 ob : w.heap[g]? = some o
 gb : g ≠ b
 oo : ∀ c fz, o ≠ .cells c 5 fz
theorem Wr.call {B b : Nat} {l : List UInt8} {g : Nat} {o : Obj} {w0 w w' : World} (h : Wr B b l g o w0 w) (hb : Below w.heap.size w w') : Wr B b l g o w0 w' := by
 have hl := bld_lt h.bl
 have hg : g < w.heap.size := (Array.getElem?_eq_some_iff.1 h.ob).1
 exact ⟨bld_below h.bl hb, h.be.trans (hb.mono (by omega)), (hb.block g hg).trans h.ob, h.gb, h.oo⟩
theorem Wr.byte {B b : Nat} {l : List UInt8} {g : Nat} {o : Obj} {w0 w : World} (h : Wr B b l g o w0 w) (c : UInt8) (hlen : l.length + 1 <= 140737488355328) :
 Calls Tryz.prog 98 #[.pointer (some ⟨b, 0, none⟩), .int .u8 (c.toNat : Int)] w fun e w' => e = .returned .nilIface /\ Wr B b (l ++ [c]) g o w0 w' := by
 have hl := bld_lt h.bl
 refine (Tryz.WriteByte_k B b (byteCells l) (c.toNat : Int) w h.bl (by rw [byteCells_length]; exact hlen) (by omega)).mono ?_
 rintro e w' ⟨he, h1, h2, h3⟩
 refine ⟨he, .inr ?_, h.be.trans h2, h3 g o h.ob (by simpa using h.gb) h.oo, h.gb, h.oo⟩
 rw [<- bytes_app]
 exact h1
theorem Wr.str {B b : Nat} {l : List UInt8} {g : Nat} {o : Obj} {w0 w : World} (h : Wr B b l g o w0 w) (t : List UInt8) (hlen : l.length + t.length <= 140737488355328) :
 Calls Tryz.prog 99 #[.pointer (some ⟨b, 0, none⟩), .string ⟨t.toArray⟩] w fun e w' => (∃ n, e = .returned (.tuple #[.int .i64 n, .nilIface])) /\ Wr B b (l ++ t) g o w0 w' := by
 have hl := bld_lt h.bl
 have hz : (⟨t.toArray⟩ : ByteArray).size = t.length := by show t.toArray.size = _; simp
 refine (Tryz.WriteString_k B b (byteCells l) ⟨t.toArray⟩ w h.bl (by rw [byteCells_length, hz]; exact hlen) (by omega)).mono ?_
 rintro e w' ⟨he, h1, h2, h3⟩
 refine ⟨⟨_, he⟩, .inr ?_, h.be.trans h2, h3 g o h.ob (by simpa using h.gb) h.oo, h.gb, h.oo⟩
 rw [<- bytes_app]
 exact h1
theorem Wr.box {B b : Nat} {l : List UInt8} {w0 w : World} (h : IsBuilderF 111 5 B b (byteCells l) w) (hb : Below B w0 w) (c : Array Value) (t : TypeId) (ht : t ≠ 5) : Wr B b l w.heap.size (.cells c t) w0 (w.alloc (.cells c t)) := by
 have hl := bld_lt h
 exact ⟨h.alloc _, hb.alloc (by omega) _, heap_alloc_new w _, by omega, fun c2 fz he => by injection he with _ h2 _; exact ht h2⟩
end Go.Proofs.YtdgfjdhobdfglaaGreatDoor
set_option maxRecDepth 100000
namespace Go.Proofs.YtdgfjdhobdfglaaGreatDoor
open Go.RowKit Go.Lib
theorem keysB_get {l : List Mem} (h : keysB l = true) {j : Nat} (hj : j < l.length) : validD (l[j]).1.data.toList = true /\ sizS (l[j]).2 = true := by
 simp only [keysB, Bool.and_eq_true, decide_eq_true_eq, List.all_eq_true, List.mem_range] at h
 have h2 := h.2 j hj
 rw [okK, okAt, keyAt_eq hj, valAt_eq hj] at h2
 simp only [Bool.and_eq_true] at h2
 exact ⟨h2.1.1, h2.2⟩
theorem keysB_pos {l : List Mem} (h : keysB l = true) : 0 < l.length := by
 simp only [keysB, Bool.and_eq_true, decide_eq_true_eq] at h
 omega
theorem wtM_take_le (l : List Mem) (j : Nat) : wtM (l.take j) <= wtM l := by
 have := wtM_app (l.take j) (l.drop j)
 rw [List.take_append_drop] at this
 omega
set_option maxHeartbeats 8000000 in
theorem wkey_any (m : List Mem) (am : Option Addr) (cm bm om : Nat) (S : Nat -> Prop) (B b : Nat) (l0 : List UInt8) (w : World) (t : Td w) (ham : Headed am m.length cm bm om) (hm : liesM false w S m bm om) (hS : ∀ x, S x -> x < B) (hB3 : 9 < B)
 (hbl : IsBuilderF 111 5 B b (byteCells l0) w) (hk : keysB m = true) (hwt : wtM m <= 2147483647) (hl0 : l0.length <= 100000000000) :
 Calls Tryz.prog 101 #[.pointer (some ⟨b, 0, none⟩), .slice am m.length cm] w fun e w' => e = .returned (.tuple #[]) /\ IsBuilderF 111 5 B b (byteCells (l0 ++ (kyT 91 m ++ [93]))) w' /\ Below B w w' := by
 have HM := hmk hm
 have HK := hmk hk
 have HI := hmk (in64_liesM hm)
 have HT : Hid (∀ W, Below B w W -> Td W) := fun W hb => t.below hb hB3 hb.size
 have hlen := wtM_len m
 clear hm hk t
 go_enter Tryz.func101, Tryz.ntmps101
 go_wp2_with fail
 go_loopw [4, 9] (fun a e wr => ∃ j : Nat, j <= m.length /\ a = .int .u8 ((ahd 91 j).toNat : Int) /\ e = .int .i64 (j : Int) /\ Below B w wr /\ IsBuilderF 111 5 B b (byteCells (l0 ++ kyT 91 (m.take j))) wr) (fun _ e _ => m.length - (RowKit.intOf e).toNat)
 case atStart => exact ⟨0, by omega, rfl, rfl, Below.refl _ _, by rw [List.take_zero, kyT, List.append_nil]; exact hbl⟩
 case round =>
  obtain ⟨j, hj, rfl, rfl, bj, gj⟩ := hrel
  clear hbl
  have hkl : (kyT 91 (m.take j)).length <= 40 * wtM (m.take j) := kyT_len _ _ (fun x hx => HI.out x (List.mem_of_mem_take hx))
  have hkt := wtM_take_le m j
  have hL : (l0 ++ kyT 91 (m.take j)).length <= 200000000000 := by rw [List.length_append]; omega
  by_cases hjl : j < m.length
  ·have y1 : (j : Int) < m.length := by omega
   obtain ⟨hSb, hks, csj, hrow, hlj⟩ := liesM_get HM.out j hjl
   obtain rfl : am = some ⟨bm, om, none⟩ := ham.at_.resolve_left (by omega)
   have hrow' := hrow.keep (bj.block _ (hS _ hSb))
   obtain ⟨hkv, hsz⟩ := keysB_get HK.out hjl
   have hwj := wtM_mem (List.getElem_mem hjl)
   have HS : Hid (l0 ++ kyT 91 (m.take (j + 1)) = (((l0 ++ kyT 91 (m.take j)) ++ [ahd 91 j] ++ nmT (m[j]).1.data.toList) ++ [61]) ++ svT (m[j]).2) := by
    show _ = _
    rw [kyT_take 91 hjl, memT]; simp
   have HA : Hid (ahd 91 (j + 1) = 44) := by show _ = _; rw [ahd, if_neg (by omega)]
   generalize ahd 91 j = c at *
   generalize l0 ++ kyT 91 (m.take j) = L at *
   generalize (m[j]).1 = key at *
   generalize (m[j]).2 = xv at *
   obtain ⟨ek, eb, ei, es, el, em⟩ := xv
   rw [V.lies] at hlj
   obtain ⟨eal, ecl, ebl, eol, eam, ecm, ebm, eom, rfl, hek, hei, hes, _⟩ := hlj
   obtain ⟨q, q0, q1, q2, q3, q4, q5⟩ := row7 hrow'
   obtain ⟨hk3, hvs, rfl, rfl⟩ := sizS_good hsz
   have hes2 : es.size <= 2147483648 /\ key.size <= 2147483648 := by simp only [V.wt] at hwj; omega
   have hnl := nmT_len key
   have hsl := scT_len (k := ek) (b := eb) (i := ei) (s := es) hei
   have HSV : Hid (svT (.mk ek eb ei es [] []) = scT ek eb ei es) := hmk rfl
   rw [HSV.out] at HS
   have W0 := Wr.box gj bj #[.string key, .int .i64 ek, .bool eb, .int .i64 ei, .string es, .slice eal 0 ecl, .slice eam 0 ecm] 40 (by decide)
   have HN : Hid (∀ W, Below B w W -> Calls Tryz.prog 100 #[.string key] W (SPost (nmT key.data.toList) W)) := fun W hb => name_any key W hes2.2 (HT.out W hb).u (HT.out W hb).l (HT.out W hb).z hkv
   have HC : Hid (∀ W, Below B w W -> Calls Tryz.prog 102 #[.agg #[.int .i64 ek, .bool eb, .int .i64 ei, .string es, .slice eal 0 ecl, .slice eam 0 ecm]] W (SPost (scT ek eb ei es) W)) := fun W hb => sctext_any ek eb ei es eal 0 ecl eam 0 ecm W (HT.out W hb) hk3 hei hes2.1 hvs
   clear hrow hrow' hsz hwj hkv hvs HSV hek hei hes hk3
   generalize nmT key.data.toList = nt at *
   generalize scT ek eb ei es = st at *
   go_wp2_with fail
   refine (W0.byte c (by omega)).mono ?_
   rintro e w1 ⟨rfl, W1⟩
   have n0 : w1.cell? ⟨wr.heap.size, 0, none⟩ = some (.string key) := by rw [cell_of_block W1.ob]; rfl
   go_wp2_with fail
   refine (HN.out w1 W1.be).mono ?_
   rintro e w2 ⟨rfl, b2⟩
   have W2 := W1.call b2
   clear n0
   go_wp2_with fail
   refine (W2.str nt (by simp only [List.length_append, List.length_cons, List.length_nil]; omega)).mono ?_
   rintro e w3 ⟨⟨n3, rfl⟩, W3⟩
   go_wp2_with fail
   refine (W3.byte 61 (by simp only [List.length_append, List.length_cons, List.length_nil]; omega)).mono ?_
   rintro e w4 ⟨rfl, W4⟩
   have m1 : w4.cell? ⟨wr.heap.size, 1, none⟩ = some (.int .i64 ek) := by rw [cell_of_block W4.ob]; rfl
   have m2 : w4.cell? ⟨wr.heap.size, 2, none⟩ = some (.bool eb) := by rw [cell_of_block W4.ob]; rfl
   have m3 : w4.cell? ⟨wr.heap.size, 3, none⟩ = some (.int .i64 ei) := by rw [cell_of_block W4.ob]; rfl
   have m4 : w4.cell? ⟨wr.heap.size, 4, none⟩ = some (.string es) := by rw [cell_of_block W4.ob]; rfl
   have m5 : w4.cell? ⟨wr.heap.size, 5, none⟩ = some (.slice eal 0 ecl) := by rw [cell_of_block W4.ob]; rfl
   have m6 : w4.cell? ⟨wr.heap.size, 6, none⟩ = some (.slice eam 0 ecm) := by rw [cell_of_block W4.ob]; rfl
   go_wp2_with fail
   refine (HC.out w4 W4.be).mono ?_
   rintro e w5 ⟨rfl, b5⟩
   have W5 := W4.call b5
   clear m1 m2 m3 m4 m5 m6
   go_wp2_with fail
   refine (W5.str st (by simp only [List.length_append, List.length_cons, List.length_nil]; omega)).mono ?_
   rintro e w6 ⟨⟨n6, rfl⟩, W6⟩
   go_wp2_with fail
   go_roundw
   case rel => exact ⟨j + 1, by omega, by rw [HA.out]; rfl, by simp, W6.be, by rw [HS.out]; exact W6.bl⟩
   case measure => simp [RowKit.intOf]; omega
  ·have y1 : ¬ (j : Int) < m.length := by omega
   obtain rfl : j = m.length := by omega
   rw [List.take_length] at gj hL
   have hl := bld_lt gj
   have HS : Hid (l0 ++ (kyT 91 m ++ [93]) = (l0 ++ kyT 91 m) ++ [93]) := by show _ = _; simp
   generalize l0 ++ kyT 91 m = L at *
   go_wp2_with fail
   refine (Tryz.WriteByte_k B b (byteCells L) 93 wr gj (by rw [byteCells_length]; omega) (by omega)).mono ?_
   rintro e w1 ⟨rfl, h1, b1, _⟩
   go_wp2
   go_end0
   refine ⟨rfl, .inr ?_, bj.trans b1⟩
   rw [HS.out, <- byteCells_snoc]
   exact h1
end Go.Proofs.YtdgfjdhobdfglaaGreatDoor
set_option maxRecDepth 100000
namespace Go.Proofs.YtdgfjdhobdfglaaGreatDoor
open Go.RowKit Go.Lib
set_option maxHeartbeats 8000000 in
theorem welem_any (x : El) (cs : List Value) (S : Nat -> Prop) (B b : Nat) (l0 : List UInt8) (w : World) (t : Td w) (hx : x.lies w S cs) (hS : ∀ x, S x -> x < B) (hB3 : 9 < B)
 (hbl : IsBuilderF 111 5 B b (byteCells l0) w) (he : elB x = true) (hwt : x.wt <= 2147483647) (hl0 : l0.length <= 90000000000) :
 Calls Tryz.prog 65 #[.pointer (some ⟨b, 0, none⟩), .agg cs.toArray] w fun e w' => e = .returned (.tuple #[]) /\ IsBuilderF 111 5 B b (byteCells (l0 ++ elT x)) w' /\ Below B w w' := by
 obtain ⟨k, nm, ky, v⟩ := x
 obtain ⟨am, cm, bm, om, is, rfl, hk64, hnz, ham, hm, hi⟩ := hx
 obtain ⟨vk, vb, vi, vs, vl, vm⟩ := v
 rw [V.lies] at hi
 obtain ⟨val, vcl, vbl, vol, vam, vcm, vbm, vom, rfl, hvk, hvi, hvs, _⟩ := hi
 dsimp only at ham hm hnz hk64 ⊢
 simp only [El.wt, V.wt] at hwt
 have W0 := Wr.box hbl (Below.refl B w) #[.int .i64 k, .string nm, .slice am ky.length cm, .int .i64 vk, .bool vb, .int .i64 vi, .string vs, .slice val vl.length vcl, .slice vam vm.length vcm] 52 (by decide)
 have HT : Hid (∀ W, Below B w W -> Td W) := fun W hb => t.below hb hB3 hb.size
 have m0 : (w.alloc (.cells #[.int .i64 k, .string nm, .slice am ky.length cm, .int .i64 vk, .bool vb, .int .i64 vi, .string vs, .slice val vl.length vcl, .slice vam vm.length vcm] 52)).cell? ⟨w.heap.size, 0, none⟩ = some (.int .i64 k) := by rw [cell_of_block W0.ob]; rfl
 have hl := bld_lt hbl
 clear t hbl
 by_cases k1 : k = 1
 ·rw [elB1 k1] at he
  simp only [Bool.and_eq_true, decide_eq_true_eq] at he
  have HV := hmk he.2.2
  have HS : Hid (l0 ++ elT ⟨k, nm, ky, .mk vk vb vi vs vl vm⟩ = (l0 ++ [46]) ++ nmT nm.data.toList) := by show _ = _; rw [elT, if_pos k1]; simp
  rw [HS.out]
  have HN : Hid (∀ W, Below B w W -> Calls Tryz.prog 100 #[.string nm] W (SPost (nmT nm.data.toList) W)) := fun W hb => name_any nm W (by omega) (HT.out W hb).u (HT.out W hb).l (HT.out W hb).z HV.out
  have hnl := nmT_len nm
  clear he hm ham HS HV HT
  generalize nmT nm.data.toList = nt at *
  subst k1
  go_enter Tryz.func65, Tryz.ntmps65
  go_wp2_with fail
  refine (W0.byte 46 (by omega)).mono ?_
  rintro e w1 ⟨rfl, W1⟩
  have n1 : w1.cell? ⟨w.heap.size, 1, none⟩ = some (.string nm) := by rw [cell_of_block W1.ob]; rfl
  go_wp2_with fail
  refine (HN.out w1 W1.be).mono ?_
  rintro e w2 ⟨rfl, b2⟩
  have W2 := W1.call b2
  go_wp2_with fail
  refine (W2.str nt (by simp only [List.length_append, List.length_cons, List.length_nil]; omega)).mono ?_
  rintro e w3 ⟨⟨n3, rfl⟩, W3⟩
  go_wp2
  go_end0
  exact ⟨rfl, W3.bl, W3.be⟩
 by_cases k3 : k = 3
 ·rw [elB3 k3] at he
  simp only [Bool.and_eq_true, decide_eq_true_eq] at he
  obtain ⟨hk3, hvv, rfl, rfl⟩ := sizS_good he.2.2
  have HS : Hid (l0 ++ elT ⟨k, nm, ky, .mk vk vb vi vs [] []⟩ = ((l0 ++ [91, 61]) ++ scT vk vb vi vs) ++ [93]) := by show _ = _; rw [elT, if_neg k1, if_pos k3, svT]; simp
  rw [HS.out]
  have HC : Hid (∀ W, Below B w W -> Calls Tryz.prog 102 #[.agg #[.int .i64 vk, .bool vb, .int .i64 vi, .string vs, .slice val 0 vcl, .slice vam 0 vcm]] W (SPost (scT vk vb vi vs) W)) := fun W hb => sctext_any vk vb vi vs val 0 vcl vam 0 vcm W (HT.out W hb) hk3 hvi (by omega) hvv
  have hsl := scT_len (k := vk) (b := vb) (i := vi) (s := vs) hvi
  clear he hm ham HS HT hk3 hvv k1
  generalize scT vk vb vi vs = st at *
  subst k3
  go_enter Tryz.func65, Tryz.ntmps65
  go_wp2_with fail
  refine (W0.str [91, 61] (by simp only [List.length_append, List.length_cons, List.length_nil]; omega)).mono ?_
  rintro e w1 ⟨⟨n1, rfl⟩, W1⟩
  have m3 : w1.cell? ⟨w.heap.size, 3, none⟩ = some (.int .i64 vk) := by rw [cell_of_block W1.ob]; rfl
  have m4 : w1.cell? ⟨w.heap.size, 4, none⟩ = some (.bool vb) := by rw [cell_of_block W1.ob]; rfl
  have m5 : w1.cell? ⟨w.heap.size, 5, none⟩ = some (.int .i64 vi) := by rw [cell_of_block W1.ob]; rfl
  have m6 : w1.cell? ⟨w.heap.size, 6, none⟩ = some (.string vs) := by rw [cell_of_block W1.ob]; rfl
  have m7 : w1.cell? ⟨w.heap.size, 7, none⟩ = some (.slice val 0 vcl) := by rw [cell_of_block W1.ob]; rfl
  have m8 : w1.cell? ⟨w.heap.size, 8, none⟩ = some (.slice vam 0 vcm) := by rw [cell_of_block W1.ob]; rfl
  go_wp2_with fail
  refine (HC.out w1 W1.be).mono ?_
  rintro e w2 ⟨rfl, b2⟩
  have W2 := W1.call b2
  clear m3 m4 m5 m6 m7 m8
  go_wp2_with fail
  refine (W2.str st (by simp only [List.length_append, List.length_cons, List.length_nil]; omega)).mono ?_
  rintro e w3 ⟨⟨n3, rfl⟩, W3⟩
  go_wp2_with fail
  refine (W3.byte 93 (by simp only [List.length_append, List.length_cons, List.length_nil]; omega)).mono ?_
  rintro e w4 ⟨rfl, W4⟩
  go_wp2
  go_end0
  exact ⟨rfl, W4.bl, W4.be⟩
 by_cases k2 : k = 2
 ·rw [elB2 k2] at he
  simp only [Bool.and_eq_true, decide_eq_true_eq] at he
  have HS : Hid (l0 ++ elT ⟨k, nm, ky, .mk vk vb vi vs vl vm⟩ = l0 ++ (kyT 91 ky ++ [93])) := by show _ = _; rw [elT, if_neg k1, if_neg k3]
  rw [HS.out]
  have m2 : (w.alloc (.cells #[.int .i64 k, .string nm, .slice am ky.length cm, .int .i64 vk, .bool vb, .int .i64 vi, .string vs, .slice val vl.length vcl, .slice vam vm.length vcm] 52)).cell? ⟨w.heap.size, 2, none⟩ = some (.slice am ky.length cm) := by rw [cell_of_block W0.ob]; rfl
  have C := hmk (wkey_any ky am cm bm om S B b l0 _ (HT.out _ W0.be) ham (liesM_keep (fun h => h) (fun x hx => W0.be.block x (hS x hx)) (fun _ h => h) _ hm) hS hB3 W0.bl he.2.2 (by omega) (by omega))
  have HB := hmk W0.be
  clear he hm ham HS HT k1 k3 W0
  subst k2
  go_enter Tryz.func65, Tryz.ntmps65
  go_wp2_with fail
  refine C.out.mono ?_
  rintro e w1 ⟨rfl, g1, b1⟩
  go_wp2
  go_end0
  exact ⟨rfl, g1, HB.out.trans b1⟩
 ·rw [elB0 k1 k2 k3] at he
  exact absurd he (by decide)
end Go.Proofs.YtdgfjdhobdfglaaGreatDoor
set_option maxRecDepth 100000
namespace Go.Proofs.YtdgfjdhobdfglaaGreatDoor
open Go.RowKit Go.Lib
theorem Td.tb {w : World} (t : Td w) : Tb w := ⟨t.u, by have := t.z; omega⟩
end Go.Proofs.YtdgfjdhobdfglaaGreatDoor
