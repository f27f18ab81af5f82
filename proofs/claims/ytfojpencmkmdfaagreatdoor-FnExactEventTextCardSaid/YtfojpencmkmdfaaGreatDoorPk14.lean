/-
  Texts that a law leans on, one behind the other; no statement is proved here.
-/
import Derived.Test.YtfojpencmkmdfaaGreatDoorPk4
import Derived.Test.YtfojpencmkmdfaaGreatDoorPk12
import Derived.Test.YtfojpencmkmdfaaGreatDoorPk3
import Derived.Test.YtfojpencmkmdfaaGreatDoorPk7
import Derived.Deep.RegionHeld3
import Derived.Test.YtfojpencmkmdfaaGreatDoorPk13
/-
  'append' onto a row of bytes of the call's own that may bear a mark of the run-time behind its last place (as '[]byte(s)' lays one).
-/
namespace Go.Proofs.YtfojpencmkmdfaaGreatDoor
open Go.RowKit
set_option linter.unusedVariables false
set_option linter.unusedSimpArgs false

/-- Cells are stored where no mark is. -/
theorem storeCells_fr (P : Program) (g o : Nat) (t : TypeId) (fr : Nat × Nat) : ∀ (vs : List Value) (i : Nat) (cur : Array Value) (w : World), w.heap[g]? = some (.cells cur t fr) → o + i + vs.length ≤ cur.size → (fr.2 = 0 ∨ o + i + vs.length ≤ fr.1) → (∀ v ∈ vs, v.oneCell' = true) →
    (storeCells ⟨g, o, none⟩ vs i).run P w = .ok () (w.setRow g (cur.toList.take (o + i) ++ vs ++ cur.toList.drop (o + i + vs.length)).toArray)
  | [], i, cur, w, hg, _, _, _ => by
    simp only [storeCells, List.append_nil, List.length_nil, Nat.add_zero, List.take_append_drop, Array.toArray_toList]
    rw [setRow_self w g cur t fr hg]
    rfl
  | v :: rest, i, cur, w, hg, hl, hf, h1 => by
    have hi : o + i < cur.size := by simp at hl; omega
    have hadd : (⟨g, o, none⟩ : Addr).add i = ⟨g, o + i, none⟩ := by unfold Addr.add; split <;> simp_all
    have hcell : w.cell? ⟨g, o + i, none⟩ = some cur[o + i] := by simp [World.cell?, hg, hi]
    have hfro : w.frozen? ⟨g, o + i, none⟩ = false := by
      obtain ⟨lo, hh⟩ := fr
      simp only [World.frozen?, hg]
      simp only [List.length_cons] at hf
      simp
      omega
    have hst : (store ((⟨g, o, none⟩ : Addr).add i) v).run P w = .ok () (w.setRow g (cur.setIfInBounds (o + i) v)) := by
      rw [hadd, run_store P w _ v _ (h1 v (by simp)), hcell]
      simp [hfro, setCell_eq_setRow w g (o + i) cur t fr v hg]
    have ih := storeCells_fr P g o t fr rest (i + 1) (cur.setIfInBounds (o + i) v) (w.setRow g (cur.setIfInBounds (o + i) v)) (setRow_heap w g cur _ t _ hg) (by simp at hl ⊢; omega) (by simp at hf; omega) (fun x hx => h1 x (by simp [hx]))
    simp only [storeCells, Sem.run_bind, hst, Result.andThen_ok, ih, setRow_setRow]
    congr 3
    have e := list_seg_step cur.toList (o + i) v rest (by simp at hl ⊢; omega)
    simpa [Array.toList_setIfInBounds, Nat.add_assoc] using e

/-- A row of bytes of the call's own, from block base on, that may bear a mark behind its last place. -/
def BtsM (w : World) (base : Nat) (v : Value) (xs : List Int) : Prop := BtsF w v xs ∧ ∀ k, v.ownBlock = some k → base ≤ k

theorem Bts.m {w : World} {base : Nat} {v : Value} {xs : List Int} (h : Bts w base v xs) : BtsM w base v xs := ⟨h.free, fun k hk => (h.2.lt k hk).1⟩
theorem BtsM.lt {w : World} {base : Nat} {v : Value} {xs : List Int} (h : BtsM w base v xs) : ∀ k, v.ownBlock = some k → base ≤ k ∧ k < w.heap.size := fun k hk => ⟨h.2 k hk, h.1.2.lt k hk⟩
theorem BtsM.own {w : World} {base : Nat} {v : Value} {xs : List Int} (h : BtsM w base v xs) : ∀ k, v.ownBlock = some k → base ≤ k := h.2
theorem BtsM.at {w w' : World} {base : Nat} {v : Value} {xs : List Int} (h : BtsM w base v xs) (hk : ∀ k, v.ownBlock = some k → w'.heap[k]? = w.heap[k]?) : BtsM w' base v xs := by
  refine ⟨⟨h.1.1, h.1.2.1, ?_⟩, h.2⟩
  rcases h.1.2.2 with h0 | ⟨g, cap, cur, fr, rfl, hg, r⟩
  · exact .inl h0
  · exact .inr ⟨g, cap, cur, fr, rfl, (hk g rfl).trans hg, r⟩
theorem BtsM.grow {w w' : World} {base : Nat} {v : Value} {xs : List Int} (h : BtsM w base v xs) (hb : Below w.heap.size w w') : BtsM w' base v xs := h.at fun k hk => hb.block k (h.lt k hk).2
theorem BtsM.alloc {w : World} {base : Nat} {v : Value} {xs : List Int} (h : BtsM w base v xs) (o : Obj) : BtsM (w.alloc o) base v xs := h.grow ((Below.refl _ _).alloc (Nat.le_refl _) o)
theorem BtsM.mono {w : World} {base base' : Nat} {v : Value} {xs : List Int} (h : BtsM w base v xs) (hb : base' ≤ base) : BtsM w base' v xs := ⟨h.1, fun k hk => Nat.le_trans hb (h.2 k hk)⟩
theorem BtsM.kept {w w' : World} {base : Nat} {v : Value} {xs : List Int} (h : BtsM w base v xs) (hg : w.grownBy w' v.ownBlock) : Kept w w' := fun g cs T fr hh hT => by
  refine (hg.block g (Array.getElem?_eq_some_iff.1 hh).1 fun e => ?_).trans hh
  rcases h.1.2.2 with ⟨rfl, _⟩ | ⟨g', cap, cur, fr', rfl, hg', _⟩
  · simp [Value.ownBlock] at e
  · simp [Value.ownBlock] at e
    subst e
    rw [hg'] at hh
    simp at hh
    exact hT hh.2.1.symm
theorem BtsM.seg {w : World} {base : Nat} {a : Option Addr} {n c : Nat} {xs : List Int} (h : BtsM w base (.slice a n c) xs) : Seg w a xs := by
  obtain ⟨a', c', e, hs, _⟩ := h.1.shape
  simp only [Value.slice.injEq] at e
  obtain ⟨rfl, _, _⟩ := e
  exact hs

theorem cells_onto {xs : List Value} {ys : List Value} {cur : Array Value} {n : Nat} (ht : cur.toList.take n = xs) (hn : xs.length = n) : ((cur.toList.take n ++ ys ++ cur.toList.drop (n + ys.length)).toArray.toList).take (n + ys.length) = xs ++ ys := by
  rw [ht]
  have e : n + ys.length = (xs ++ ys).length := by rw [List.length_append, hn]
  rw [e]
  exact List.take_left
theorem cells_onto_size {ys : List Value} {cur : Array Value} {n : Nat} (h : n + ys.length ≤ cur.size) : (cur.toList.take n ++ ys ++ cur.toList.drop (n + ys.length)).toArray.size = cur.size := by
  simp only [List.size_toArray, List.length_append, List.length_take, List.length_drop, Array.length_toList]
  omega

/-- 'append(v, ys...)', whatever bytes ys are that can be read. -/
theorem run_append_M (w : World) (ty : TypeId) (base : Nat) (v : Value) (xs ys : List Int) (hB : BtsM w base v xs) (ad : Option Addr) (c : Nat) (hS : Seg w ad ys) (hc : ad = none → c = 0) (hlen : xs.length + ys.length ≤ 1099511627776) (hbase : base ≤ w.heap.size) :
    ∃ v' w', (Builtin.append_ #[22, 22] ty #[v, .slice ad ys.length c]).run Tryz.prog w = .ok v' w' ∧ BtsM w' base v' (xs ++ ys) ∧ w.grownBy w' v.ownBlock := by
  obtain ⟨i0, hi, hz0, hz1, hz2⟩ := info_parts info5
  have hbyt : ∀ z ∈ xs ++ ys, Byt z := by
    intro z hz
    rcases List.mem_append.1 hz with h1 | h1
    · exact hB.1.1 z h1
    · exact hS.1 z h1
  have h1c : ∀ u ∈ cellsOf ys, u.oneCell' = true := by
    intro u hu
    simp only [cellsOf, List.mem_map] at hu
    obtain ⟨q, _, rfl⟩ := hu
    rfl
  rcases hB.1.2.2 with ⟨rfl, h0⟩ | ⟨g, cap, cur, fr, rfl, hg, hf, hnc, hcm, hcs, htake⟩
  · have hx0 : xs = [] := List.eq_nil_of_length_eq_zero h0
    subst hx0
    have hB0 : Bts w base (.slice none 0 0) [] := bts_nil _ _
    cases ad with
    | none =>
      have hc0 := hc rfl
      have hy : ys = [] := by
        rcases hS.2 with h0 | ⟨b, off, h1, _⟩
        · exact h0
        · simp at h1
      subst hc0
      subst hy
      refine ⟨_, w, run_append_owned_none (P := Tryz.prog) (w := w) base 22 ty 5 i0 1 Tryz.underlying22 hi _ 0 [] hB0.2, hB, World.grownBy.refl _ _⟩
    | some ad =>
      obtain ⟨v', w', hrun, r1, r2, _⟩ := run_append_own (P := Tryz.prog) w base 22 ty 5 i0 (.int .u8 0) 1 1 Tryz.underlying22 hi hz0 hz1 hz2 rfl (by decide) _ 0 (cellsOf []) hB0.2 ad ys.length c (cellsOf ys) (by simp [cellsOf])
        (by
          intro j u hu
          rcases hS.2 with h0 | ⟨b, off, h1, h2⟩
          · subst h0; simp [cellsOf] at hu
          · simp at h1
            subst h1
            have hj : j < ys.length := by
              have := (List.getElem?_eq_some_iff.1 hu).1
              simpa [cellsOf] using this
            rw [Addr.add_lit, h2 j hj]
            simp [cellsOf, hj] at hu
            simp [hj, hu])
        h1c (by unfold maxLen; omega) (by omega) hbase
      refine ⟨v', w', hrun, Bts.m ⟨hbyt, ?_⟩, r2⟩
      simpa [cellsOf] using r1
  · cases ad with
    | none =>
      have hc0 := hc rfl
      have hy : ys = [] := by
        rcases hS.2 with h0 | ⟨b, off, h1, _⟩
        · exact h0
        · simp at h1
      subst hc0
      subst hy
      refine ⟨_, w, ?_, by simpa using hB, World.grownBy.refl _ _⟩
      have hle : xs.length ≤ cap := hnc
      simp [Builtin.append_, run_underlying Tryz.underlying22, sizeOf, typeInfo, hi, Builtin.lenOf, Builtin.firstCells, loadCells, loadCellsFrom, hle, storeCells]
    | some ad =>
      have hnews : ∀ j u, (cellsOf ys)[j]? = some u → w.cell? (ad.add j) = some u := by
        intro j u hu
        rcases hS.2 with h0 | ⟨b, off, h1, h2⟩
        · subst h0; simp [cellsOf] at hu
        · simp at h1
          subst h1
          have hj : j < ys.length := by
            have := (List.getElem?_eq_some_iff.1 hu).1
            simpa [cellsOf] using this
          rw [Addr.add_lit, h2 j hj]
          simp [cellsOf, hj] at hu
          simp [hj, hu]
      have hxl : (cellsOf xs).length = xs.length := length_cellsOf xs
      have hyl : (cellsOf ys).length = ys.length := length_cellsOf ys
      by_cases hroom : xs.length + ys.length ≤ cap
      · have hff := run_firstCells_some (P := Tryz.prog) w i0.size ys.length ad ys.length c (cellsOf ys) (by rw [hz1, hyl, Nat.mul_one]) hnews
        have hst := storeCells_fr Tryz.prog g xs.length 5 fr (cellsOf ys) 0 cur w hg (by rw [hyl]; omega) (by rw [hyl]; omega) h1c
        simp only [Nat.add_zero] at hst
        refine ⟨.slice (some ⟨g, 0, none⟩) (xs.length + ys.length) cap, w.setRow g (cur.toList.take xs.length ++ cellsOf ys ++ cur.toList.drop (xs.length + (cellsOf ys).length)).toArray, ?_, ⟨⟨hbyt, ?_, .inr ⟨g, cap, _, fr, ?_, setRow_heap w g cur _ 5 _ hg, hf, ?_, hcm, ?_, ?_⟩⟩, hB.2⟩, ⟨rfl, rfl, rfl, by simp, fun k _ hk => setRow_other w g k _ (fun e => hk (by simp [Value.ownBlock, e]))⟩⟩
        · rw [hz1] at hff
          simp [Builtin.append_, run_underlying Tryz.underlying22, sizeOf, typeInfo, hi, hz1, Builtin.lenOf, hroom, hff, Addr.add_lit, hst]
        · rw [length_cellsOf]
        · rw [List.length_append]
        · rw [List.length_append]; exact hroom
        · rw [cells_onto_size (by omega)]; exact hcs
        · rw [List.length_append, cellsOf_append, ← hyl]
          exact cells_onto htake hxl
      · have holds : ∀ j u, (cellsOf xs)[j]? = some u → w.cell? ((⟨g, 0, none⟩ : Addr).add j) = some u := by
          intro j u hu
          have hadd : (⟨g, 0, none⟩ : Addr).add j = ⟨g, j, none⟩ := by unfold Addr.add; split <;> simp_all
          rw [hadd, cell_of_row w g j cur 5 fr hg]
          rw [← htake, List.getElem?_take] at hu
          split at hu
          · simpa using hu
          · cases hu
        have hr := run_append_grow (P := Tryz.prog) w 22 ty 5 i0 (.int .u8 0) Tryz.underlying22 hi hz0 ⟨g, 0, none⟩ xs.length cap (cellsOf xs) (by rw [hz1, hxl, Nat.mul_one]) holds ad ys.length c (cellsOf ys) (by rw [hz1, hyl, Nat.mul_one]) hnews (by omega) (by omega) (by rw [hz2]; exact growslice_fits (by omega) (by omega))
        have hge := grownCap_ge w (xs.length + ys.length) cap 5
        have hcm' := grownCap_le_maxLen w (xs.length + ys.length) cap 5 (by unfold maxLen; omega)
        refine ⟨_, _, hr, Bts.m ⟨hbyt, ?_, .inr ⟨w.heap.size, _, _, by rw [List.length_append], hbase, heap_alloc_new w.drew _, by rw [List.length_append]; exact hge, hcm', ?_, ?_⟩⟩, ⟨rfl, rfl, rfl, by simp, fun k hk _ => Below.heap_alloc w.drew _ k hk⟩⟩
        · rw [length_cellsOf, Nat.mul_one]
        · have hz1' : (Value.int IntKind.u8 0).cells.size = 1 := rfl
          simp only [Array.size_append, List.size_toArray, size_zeroCells, hz1', hxl, hyl]
          omega
        · have e1 : (xs ++ ys).length * 1 = (cellsOf xs ++ cellsOf ys).length := by rw [Nat.mul_one, ← cellsOf_append, length_cellsOf]
          rw [e1]
          simp only [Array.toList_append, List.append_assoc]
          rw [← List.append_assoc, cellsOf_append]
          exact List.take_left

/-- 'append(v, s...)', s a string. -/
theorem run_append_M_text (w : World) (ty t : TypeId) (ht : Tryz.prog.underlying t = some .string) (base : Nat) (v : Value) (xs ys : List Int) (hB : BtsM w base v xs) (hy : ∀ y ∈ ys, Byt y) (hlen : xs.length + ys.length ≤ 1099511627776) (hbase : base ≤ w.heap.size) :
    ∃ v' w', (Builtin.append_ #[22, t] ty #[v, .string (strOf ys)]).run Tryz.prog w = .ok v' w' ∧ BtsM w' base v' (xs ++ ys) ∧ w.grownBy w' v.ownBlock := by
  obtain ⟨i0, hi, hz0, hz1, hz2⟩ := info_parts info5
  have hsz := size_strOf ys
  have hsc := strCells_of hy
  have hbyt : ∀ z ∈ xs ++ ys, Byt z := by
    intro z hz
    rcases List.mem_append.1 hz with h1 | h1
    · exact hB.1.1 z h1
    · exact hy z h1
  have hxl : (cellsOf xs).length = xs.length := length_cellsOf xs
  have hyl : (cellsOf ys).length = ys.length := length_cellsOf ys
  rcases hB.1.2.2 with ⟨rfl, h0⟩ | ⟨g, cap, cur, fr, rfl, hg, hf, hnc, hcm, hcs, htake⟩
  · have hx0 : xs = [] := List.eq_nil_of_length_eq_zero h0
    subst hx0
    have hB0 : Bts w base (.slice none 0 0) [] := bts_nil _ _
    obtain ⟨v', w', hrun, hown, hgr, _⟩ := Lib.run_append_own_string (P := Tryz.prog) w base 22 t ty 5 i0 Tryz.underlying22 ht hi hz0 hz1 hz2 _ 0 (cellsOf []) hB0.2 (strOf ys) (by unfold maxLen; simp at hlen; omega) (by simp at hlen; omega) hbase
    refine ⟨v', w', hrun, Bts.m ⟨hbyt, ?_⟩, hgr⟩
    rw [hsc, hsz, ← cellsOf_append] at hown
    simpa using hown
  · by_cases hroom : xs.length + ys.length ≤ cap
    · have hff := Lib.run_firstCells_string (P := Tryz.prog) w 1 (strOf ys)
      rw [hsz, hsc] at hff
      have h1c := Lib.strCells_oneCell (strOf ys)
      rw [hsc] at h1c
      have hst := storeCells_fr Tryz.prog g xs.length 5 fr (cellsOf ys) 0 cur w hg (by rw [hyl]; omega) (by rw [hyl]; omega) h1c
      simp only [Nat.add_zero] at hst
      refine ⟨.slice (some ⟨g, 0, none⟩) (xs.length + ys.length) cap, w.setRow g (cur.toList.take xs.length ++ cellsOf ys ++ cur.toList.drop (xs.length + (cellsOf ys).length)).toArray, ?_, ⟨⟨hbyt, ?_, .inr ⟨g, cap, _, fr, ?_, setRow_heap w g cur _ 5 _ hg, hf, ?_, hcm, ?_, ?_⟩⟩, hB.2⟩, ⟨rfl, rfl, rfl, by simp, fun k _ hk => setRow_other w g k _ (fun e => hk (by simp [Value.ownBlock, e]))⟩⟩
      · simp [Builtin.append_, run_underlying Tryz.underlying22, run_underlying ht, sizeOf, typeInfo, hi, hz1, Builtin.lenOf, hsz, hroom, hff, Addr.add_lit, hst]
      · rw [length_cellsOf]
      · rw [List.length_append]
      · rw [List.length_append]; exact hroom
      · rw [cells_onto_size (by omega)]; exact hcs
      · rw [List.length_append, cellsOf_append, ← hyl]
        exact cells_onto htake hxl
    · have holds : ∀ j u, (cellsOf xs)[j]? = some u → w.cell? ((⟨g, 0, none⟩ : Addr).add j) = some u := by
        intro j u hu
        have hadd : (⟨g, 0, none⟩ : Addr).add j = ⟨g, j, none⟩ := by unfold Addr.add; split <;> simp_all
        rw [hadd, cell_of_row w g j cur 5 fr hg]
        rw [← htake, List.getElem?_take] at hu
        split at hu
        · simpa using hu
        · cases hu
      have hr := Lib.run_append_grow_string (P := Tryz.prog) w 22 t ty 5 i0 (.int .u8 0) Tryz.underlying22 ht hi hz0 ⟨g, 0, none⟩ xs.length cap (cellsOf xs) (by rw [hz1, hxl, Nat.mul_one]) holds (strOf ys) (by rw [hsz]; omega) (by rw [hsz]; omega) (by rw [hz2, hsz]; exact growslice_fits (by omega) (by omega))
      rw [hsz, hsc] at hr
      have hge := grownCap_ge w (xs.length + ys.length) cap 5
      have hcm' := grownCap_le_maxLen w (xs.length + ys.length) cap 5 (by unfold maxLen; omega)
      refine ⟨_, _, hr, Bts.m ⟨hbyt, ?_, .inr ⟨w.heap.size, _, _, by rw [List.length_append], hbase, heap_alloc_new w.drew _, by rw [List.length_append]; exact hge, hcm', ?_, ?_⟩⟩, ⟨rfl, rfl, rfl, by simp, fun k hk _ => Below.heap_alloc w.drew _ k hk⟩⟩
      · rw [length_cellsOf, Nat.mul_one]
      · have hz1' : (Value.int IntKind.u8 0).cells.size = 1 := rfl
        simp only [Array.size_append, List.size_toArray, size_zeroCells, hz1', hxl, hyl]
        omega
      · have e1 : (xs ++ ys).length * 1 = (cellsOf xs ++ cellsOf ys).length := by rw [Nat.mul_one, ← cellsOf_append, length_cellsOf]
        rw [e1]
        simp only [Array.toList_append, List.append_assoc]
        rw [← List.append_assoc, cellsOf_append]
        exact List.take_left

theorem stepM_seg {ops : Array Oper} {o : Oper} {a : Act} {w : World} {K : Act → World → Prop} {Q : Exit → Act → World → Prop} {E : Prop} (hgd : o.guard = none) (s x : Operand)
    (ho : o.op = .call { callee := .builtin .append, args := #[s, x], argTypes := #[22, 22] })
    (base : Nat) (v : Value) (xs ys : List Int) (hs : a.eval s = v) (hB : BtsM w base v xs) (ad : Option Addr) (m c : Nat) (hm : m = ys.length) (hx : a.eval x = .slice ad m c) (hS : Seg w ad ys) (hc : ad = none → c = 0)
    (hlen : xs.length + ys.length ≤ 1099511627776) (hbase : base ≤ w.heap.size)
    (h : ∀ v' w', BtsM w' base v' (xs ++ ys) → w.grownBy w' v.ownBlock → K (a.put o.dst v') w') : if Region.wanted o (yielded ops a.tmps) = true then Oper.wp Tryz.prog o a w K Q else E := by
  have hw : Region.wanted o (yielded ops a.tmps) = true := by simp [Region.wanted, hgd]
  rw [if_pos hw]
  subst hm
  obtain ⟨v', w', hrun, r1, r2⟩ := run_append_M w o.type base v xs ys hB ad c hS hc hlen hbase
  unfold Oper.wp
  simp [execOp, ho, resolve, invoke, builtin, hs, hx, hrun, Result.andThen]
  exact h v' w' r1 r2

theorem stepM_text {ops : Array Oper} {o : Oper} {a : Act} {w : World} {K : Act → World → Prop} {Q : Exit → Act → World → Prop} {E : Prop} (hgd : o.guard = none) (s x : Operand) (t : TypeId)
    (ho : o.op = .call { callee := .builtin .append, args := #[s, x], argTypes := #[22, t] }) (ht : Tryz.prog.underlying t = some .string)
    (base : Nat) (v : Value) (xs ys : List Int) (hs : a.eval s = v) (hB : BtsM w base v xs) (sx : ByteArray) (hsx : sx = strOf ys) (hy : ∀ y ∈ ys, Byt y) (hx : a.eval x = .string sx)
    (hlen : xs.length + ys.length ≤ 1099511627776) (hbase : base ≤ w.heap.size)
    (h : ∀ v' w', BtsM w' base v' (xs ++ ys) → w.grownBy w' v.ownBlock → K (a.put o.dst v') w') : if Region.wanted o (yielded ops a.tmps) = true then Oper.wp Tryz.prog o a w K Q else E := by
  have hw : Region.wanted o (yielded ops a.tmps) = true := by simp [Region.wanted, hgd]
  rw [if_pos hw]
  subst hsx
  obtain ⟨v', w', hrun, r1, r2⟩ := run_append_M_text w o.type t ht base v xs ys hB hy hlen hbase
  unfold Oper.wp
  simp [execOp, ho, resolve, invoke, builtin, hs, hx, hrun, Result.andThen]
  exact h v' w' r1 r2

/-- '[]byte(s)': a row of bytes of the call's own. -/
theorem conv_M (xs : List Int) (hx : ∀ x ∈ xs, Byt x) (hl : xs.length ≤ 1000) (w : World) : ∃ cap wB, (convert 9 22 (.string (strOf xs))).run Tryz.prog w = .ok (.slice (some ⟨w.heap.size, 0, none⟩) xs.length cap) wB ∧
    BtsM wB w.heap.size (.slice (some ⟨w.heap.size, 0, none⟩) xs.length cap) xs ∧ Below w.heap.size w wB := by
  have hsz := size_strOf xs
  have hsc := strCells_of hx
  have hrun := run_bytes_of_string (P := Tryz.prog) w 9 22 5 (strOf xs) Tryz.underlying9 Tryz.underlying22 Tryz.underlying5
  rw [hsz] at hrun
  have hge := grownCap_ge w xs.length 0 5
  have hle := grownCap_le_maxLen w xs.length 0 5 (by unfold maxLen; omega)
  generalize grownCap w xs.length 0 5 = cap at hrun hge hle
  have hrs : (bytesRow (strOf xs) cap).size = cap := by
    have h1 : (strOf xs).data.size = xs.length := hsz
    simp [bytesRow, h1, hsz]
    omega
  have hrt : (bytesRow (strOf xs) cap).toList.take xs.length = cellsOf xs := by
    rw [← hsc]
    unfold bytesRow Lib.strCells
    rw [Array.toList_append, Array.toList_map, List.take_append_of_le_length (by simp; exact Nat.le_of_eq hsz.symm)]
    rw [List.take_of_length_le (by simp; exact Nat.le_of_eq hsz)]
  rw [hrs] at hrun
  refine ⟨cap, _, hrun, ⟨⟨hx, length_cellsOf xs, .inr ⟨w.heap.size, cap, _, _, rfl, heap_alloc_new w.drew _, .inr (Nat.le_refl _), hge, hle, hrs, hrt⟩⟩, fun k hk => by simp [Value.ownBlock] at hk; omega⟩, ((Below.refl _ w).drew).alloc (Nat.le_refl _) _⟩
end Go.Proofs.YtfojpencmkmdfaaGreatDoor
/-
  szItemS: a list of records is not too great.
-/
namespace Go.Proofs.YtfojpencmkmdfaaGreatDoor
open Go.RowKit
set_option linter.unusedVariables false
set_option linter.unusedSimpArgs false

theorem info_laws_Event {n : Nat} (h : n = 9) : (Tryz.prog.info? 28).map (·.size) = some n := by rw [h]; kernel_rfl
theorem info_Event {n : Nat} (h : n = 9) : (Tryz.prog.info? 35).map (·.size) = some n := by rw [h]; kernel_rfl


/-- What szActS leaves. -/
def SzREnd (d : Nat) (l : List (Rcd d)) (w : World) (e : Ending) (w' : World) : Prop := (e = .returned (.int .i64 (-1)) ∨ ∃ n : Int, 0 ≤ n ∧ n ≤ 1048576 ∧ e = .returned (.int .i64 n) ∧ l.length ≤ 1048576 ∧ ∀ i (h : i < l.length), RSz d l[i]) ∧ Below w.heap.size w w'

end Go.Proofs.YtfojpencmkmdfaaGreatDoor
/-
  Regions that draw, walked by hand in the order of the text: the library's 'wpAnyH_take' with the slot said; no statement is proved here. For guarded operations that are not wanted.
-/
namespace Go.Proofs.YtfojpencmkmdfaaGreatDoor
set_option linter.unusedVariables false

section
variable {P : Program} {ops : Array Oper} {Q : Exit → Act → World → Prop} {md : Region.Mode} {S : World → Prop}
theorem take_yes {i : Nat} (d : Nat) {oi : Oper} {v : Value} {fuel : Nat} {listed : Array Bool} {a : Act} {w : World} (hi : ops[i]? = some oi) (hd : oi.dst = some d)
    (hs : Region.noSelect ops = true) (hf : Region.free md ops listed i = true) (hr : (Region.ready md ops listed).contains i = true)
    (hQ : ∀ c a w, Q (.panic c) (a.put (some d) v) w → Q (.panic c) a w) (hw : Region.wanted oi (yielded ops a.tmps) = true) (hS : S w)
    (hy : ∀ w, S w → (execOp a.eval oi).run P w = .ok (.value v) w)
    (h : wpAnyH P md ops Q S fuel (listed.setIfInBounds i true) (a.put (some d) v) w) : wpAnyH P md ops Q S (fuel + 1) listed a w :=
  wpAnyH_take hi hs hf hr (by rw [hd]; exact hQ) (Or.inl ⟨hw, hy⟩) hS (by rw [hd]; exact h)
theorem take_not {i : Nat} (d : Nat) {oi : Oper} {fuel : Nat} {listed : Array Bool} {a : Act} {w : World} (hi : ops[i]? = some oi) (hd : oi.dst = some d)
    (hs : Region.noSelect ops = true) (hf : Region.free md ops listed i = true) (hr : (Region.ready md ops listed).contains i = true)
    (hQ : ∀ c a w, Q (.panic c) (a.put (some d) undef) w → Q (.panic c) a w) (hw : Region.wanted oi (yielded ops a.tmps) = false) (hS : S w)
    (h : wpAnyH P md ops Q S fuel (listed.setIfInBounds i true) (a.put (some d) undef) w) : wpAnyH P md ops Q S (fuel + 1) listed a w :=
  wpAnyH_take hi hs hf hr (by rw [hd]; exact hQ) (Or.inr ⟨hw, rfl⟩) hS (by rw [hd]; exact h)
end
end Go.Proofs.YtfojpencmkmdfaaGreatDoor
/-
  PlanText of the specification.
-/
namespace Go.Proofs.YtfojpencmkmdfaaGreatDoor
open Go.RowKit
set_option linter.unusedVariables false
set_option linter.unusedSimpArgs false

set_option maxHeartbeats 1600000 in
theorem l10name_any (k : Int) (h1 : 1 ≤ k) (h4 : k ≤ 4) (w : World) : Calls Tryz.prog 17 #[.int .i64 k] w fun e w' => e = .returned (.string (strOf (nmT k))) ∧ Below w.heap.size w w' := by
  obtain rfl | rfl | rfl | rfl : k = 1 ∨ k = 2 ∨ k = 3 ∨ k = 4 := by omega
  all_goals
    go_enter Tryz.func17, Tryz.ntmps17
    go_wp2
    go_ret
    exact ⟨rfl, (Below.refl _ _).alloc (Nat.le_refl _) _⟩

/-- What PlanText leaves. -/
def PTxEnd (d : Nat) (l : List (Rcd d)) (s : Int) (w : World) (e : Ending) (w' : World) : Prop := ∃ v, e = .returned v ∧ Bts w' (w.heap.size + 1) v (planT d l s) ∧ Below w.heap.size w w'

/-- What stands behind k acts. -/
def PLs (w : World) (o : Obj) (d : Nat) (l : List (Rcd d)) (k : Nat) (y : Value) (wr : World) : Prop :=
  (∀ j (h : j < l.length), j < k → actB d l[j] = true) ∧ Bts wr (w.heap.size + 1) y (preA d l k) ∧ Below w.heap.size w wr ∧ wr.heap[w.heap.size]? = some o

end Go.Proofs.YtfojpencmkmdfaaGreatDoor
