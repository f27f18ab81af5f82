/-
  Texts that a law leans on, one behind the other; no statement is proved here.
-/
import Derived.Test.YteafpgaefphkfaaGreatDoorPk14
import Derived.Test.YteafpgaefphkfaaGreatDoorPk6
import Derived.Maps.RangeWalk
import Derived.Maps.AppendAt
import Derived.Sort.OwnSorted
/-
  fields of a map of parts: a row of the call's own with the entries in the order of their keys, whatever order the map gave them in.
-/
namespace Go.Proofs.YteafpgaefphkfaaGreatDoor
open Go.RowKit Go.Sort
open Go.Proofs (encStr)
set_option linter.unusedVariables false
set_option linter.unusedSimpArgs false

/-- A row with the entries in order. -/
def FRow (w : World) (u : Value) (vK : List (List Int)) (ps : List Value) (n : Nat) : Prop := ∃ a cap, u = .slice a n cap ∧ n ≤ cap ∧ cap ≤ maxLen ∧
  (n = 0 ∨ ∃ g, a = some ⟨g, 0, none⟩ ∧ g < w.heap.size ∧ ∀ i, i < n → w.cell? ⟨g, i * 2, none⟩ = some (.string (strOf (vK.getD i []))) ∧ w.cell? ⟨g, i * 2 + 1, none⟩ = some (ps.getD i .nilIface))

/-- The row's block is one of fields. -/
def FTag (w : World) (u : Value) : Prop := ∀ g n c, u = .slice (some ⟨g, 0, none⟩) n c → ∃ cs fr, w.heap[g]? = some (.cells cs 97 fr)

theorem grownBy_sortK {w : World} {g n : Nat} {os : Array Obj} (d : Array Fd) : w.grownBy (grow (putRowK encF 2 (Sort.ahead w n) g 0 d) os) (some g) := by
  refine ⟨rfl, rfl, rfl, by simp [putRowK], fun k hk hne => ?_⟩
  rw [heap_grow_old _ _ (by simpa [putRowK] using hk)]
  have : g ≠ k := fun e => hne (by rw [e])
  simp [putRowK, putRow, mapBlock, Sort.ahead, Array.getElem?_modify, this]

theorem tag_put {w : World} {g nn : Nat} {cur : Array Value} {T : TypeId} {fr : Nat × Nat} {d : Array Fd} (hb : w.heap[g]? = some (.cells cur T fr)) : ∃ cs fr', (putRowK encF 2 (Sort.ahead w nn) g 0 d).heap[g]? = some (.cells cs T fr') := by
  unfold putRowK putRow mapBlock Sort.ahead
  simp only [Array.getElem?_modify, hb, if_true, Option.map_some]
  exact ⟨_, _, rfl⟩

theorem grownBy_grow {w : World} {os : Array Obj} : w.grownBy (grow w os) none := ⟨rfl, rfl, rfl, by simp, fun k hk _ => heap_grow_old _ _ hk⟩

theorem flat_at : ∀ (es : List Fd) (t : Nat) (h : t / 2 < es.length), (es.flatMap encF)[t]? = some ((encF es[t / 2])[t % 2]!)
  | [], t, h => by simp at h
  | x :: es, t, h => by
    match t with
    | 0 => rfl
    | 1 => rfl
    | t + 2 =>
      have e1 : (t + 2) / 2 = t / 2 + 1 := by omega
      have e2 : (t + 2) % 2 = t % 2 := by omega
      have ih := flat_at es t (by simp at h; omega)
      simp only [e1, e2, List.getElem_cons_succ, List.flatMap_cons]
      rw [← ih]
      rfl

/-- The row of the entries that were met, as the sort wants it. -/
theorem holds_met {w : World} {g : Nat} {cur : Array Value} {e : TypeId} {es : List Fd} (hb : w.heap[g]? = some (.cells cur e (0, 0))) (ht : cur.toList.take (es.length * 2) = es.flatMap encF) : HoldsK encF 2 w g 0 es.toArray := by
  intro j hj
  rw [size_flatK] at hj
  have hj' : j < es.length * 2 := by simpa using hj
  refine ⟨?_, by simp [World.frozen?, hb]⟩
  have h1 : (cur.toList.take (es.length * 2))[j]? = (es.flatMap encF)[j]? := by rw [ht]
  rw [List.getElem?_take_of_lt hj', flat_at es j (by omega)] at h1
  rw [get_flatK _ _ _ _ hj]
  simp only [World.cell?, hb, Nat.zero_add]
  simp only [Option.isSome_none, Bool.false_eq_true, if_false]
  rw [← Array.getElem?_toList, h1]
  have e3 : es.toArray[j / 2]! = es[j / 2]'(by omega) := by
    rw [getElem!_pos es.toArray (j / 2) (by simp; omega)]
    simp
  rw [e3]
  rfl

theorem str_u8s (xs : List Int) : (⟨(u8s xs).toArray⟩ : ByteArray) = strOf xs := rfl
theorem size_ent (vK : List (List Int)) (ps : List Value) (n : Nat) : Maps.size (DataW.map (entF vK ps n)) = n := by simp [Maps.size, entF]

theorem encF_unI {p : Value} (h : ∃ t x, p = .iface t x) : (Value.iface (unI p).1 (unI p).2) = p := by
  obtain ⟨t, x, rfl⟩ := h
  rfl

/-- What is held of the entries, in order, reads as the row. -/
theorem fRow_of {w : World} {g cap n : Nat} {vK : List (List Int)} {ps : List Value} (hc : n ≤ cap) (hm : cap ≤ maxLen) (hg : g < w.heap.size) (hH : HoldsK encF 2 w g 0 (fieldL vK ps n).toArray) (hps : ∀ i, i < n → ∃ t x, ps.getD i .nilIface = .iface t x) : FRow w (.slice (some ⟨g, 0, none⟩) n cap) vK ps n := by
  refine ⟨_, cap, rfl, hc, hm, .inr ⟨g, rfl, hg, fun i hi => ?_⟩⟩
  have hs : i < (fieldL vK ps n).toArray.size := by simp [length_fieldL, hi]
  have e : (fieldL vK ps n).toArray[i]! = (u8s (vK.getD i []), unI (ps.getD i .nilIface)) := by
    rw [getElem!_pos _ i hs]
    simpa using fieldL_at vK ps n i hi
  have h0 := (hH.cell (i := i) (c := 0) hs (by omega)).1
  have h1 := (hH.cell (i := i) (c := 1) hs (by omega)).1
  rw [e] at h0 h1
  refine ⟨by simpa [encF, str_u8s] using h0, ?_⟩
  rw [Nat.zero_add] at h1
  rw [h1]
  show some (Value.iface _ _) = _
  rw [encF_unI (hps i hi)]

theorem infoF : (Tryz.prog.info? 97).map (fun i => (i.zero, i.size, i.bytes)) = some (some (.agg #[.string ⟨#[]⟩, .nilIface]), 2, 32) := by kernel_rfl

/-- While the map is ranged over. -/
def Ranging (D : DataW Value) (b r q n base : Nat) (w wr : World) (left : Lit → Bool) (cnt : Nat) (es : List Fd) (v : Value) : Prop :=
  wr.ranges Tryz.prog 9 tokR b r 128 D left cnt ∧ Collected D left (es.map (·.1)) ∧ Met D es ∧ es.length + cnt ≤ n ∧
  wr.heap[q]? = some (.cells #[v] 94 (0, 0)) ∧ wr.ownsRow base 97 2 v es.length (es.flatMap encF) ∧ Below w.heap.size w wr ∧ r < base ∧ q < r ∧ w.heap.size ≤ q ∧ base ≤ wr.heap.size ∧ b < w.heap.size

theorem held_at {vK : List (List Int)} {ps : List Value} {n : Nat} {kl : Lit} {c : Value} (h : ∀ zd, (DataW.map (entF vK ps n)).atKey kl zd = .held c) : ∃ i, i < n ∧ c = ps.getD i .nilIface := by
  have h1 := h .nil
  unfold DataW.atKey at h1
  simp only at h1
  split at h1
  · next p hp =>
    have hm := List.mem_of_find?_eq_some hp
    simp only [entF, List.mem_map, List.mem_range] at hm
    obtain ⟨i, hi, rfl⟩ := hm
    simp only [DataW.held.injEq] at h1
    exact ⟨i, hi, h1.symm⟩
  · simp at h1

theorem cell_two_new (w : World) (a b : Value) (T : TypeId) : ∀ j u, [a, b][j]? = some u → (w.alloc (.cells #[a, b] T)).cell? ((⟨w.heap.size, 0, none⟩ : Addr).add j) = some u := by
  intro j u hu
  rw [Addr.add_lit, Nat.zero_add, cell_of_row (w.alloc (.cells #[a, b] T)) w.heap.size j #[a, b] T (0, 0) (MapKept.heap_alloc w _).1]
  simpa using hu

/-- Nothing is left: the sort puts in order what was met. -/
theorem sort_met {vK : List (List Int)} {ps : List Value} {n b r q base cnt : Nat} {w wr : World} {left : Lit → Bool} {es : List Fd} {v : Value} (h : Ranging (DataW.map (entF vK ps n)) b r q n base w wr left cnt es v) (hl : ∀ kl, left kl = false) (ha : ∀ i, i < n → upB vK i = true) (hps : ∀ i, i < n → ∃ t x, ps.getD i .nilIface = .iface t x) (hn : n ≤ 100) :
    Calls Tryz.prog 56 #[.iface 94 v, .func (.func 57) #[] #[.pointer (some ⟨q, 0, none⟩)]] wr fun e w' => e = .returned (.tuple #[]) ∧ w'.cell? ⟨q, 0, none⟩ = some v ∧ Hid ((FRow w' v vK ps n ∧ FTag w' v) ∧ Below w.heap.size w w') := by
  obtain ⟨hrg, hC, hM, hcs, hq, hrow, hbel, hrb, hqb, hwq, hbs, hwr⟩ := h
  have hP := met_perm ha hM (hC.perm hrg.owns (Maps.string_keyed Tryz.underlying9) Tryz.underlying9 hl)
  have hlen : es.length = n := by rw [hP.length_eq, length_fieldL]
  have hqc : wr.cell? ⟨q, 0, none⟩ = some v := by rw [cell_of_row wr q 0 _ _ (0, 0) hq]; rfl
  have hqlt : q < wr.heap.size := by omega
  by_cases h1 : n ≤ 1
  · have hsh : ∃ p c, v = .slice p n c := by
      rcases hrow.2 with ⟨rfl, h0⟩ | ⟨g, cap, cur, rfl, _⟩
      · exact ⟨none, 0, by rw [← hlen, h0]⟩
      · exact ⟨_, _, by rw [hlen]⟩
    obtain ⟨p, c, rfl⟩ := hsh
    refine (sort_tiny p n c q h1 wr).mono ?_
    rintro e w' ⟨rfl, os, rfl⟩
    refine ⟨rfl, by rw [cell?_grow _ _ _ hqlt]; exact hqc, ?_, hbel.grown (grownBy_grow (os := os)) hbel.size (by simp)⟩
    rcases hrow.2 with ⟨h0, hz⟩ | ⟨g, cap, cur, h0, hg, hb, hle, hcm, hsz, ht⟩
    · simp only [Value.slice.injEq] at h0
      obtain ⟨rfl, hz1, rfl⟩ := h0
      exact ⟨⟨none, 0, rfl, by omega, Nat.zero_le _, .inl hz1⟩, fun g n c e => by simp at e⟩
    · simp only [Value.slice.injEq] at h0
      obtain ⟨rfl, _, rfl⟩ := h0
      have hgl : g < wr.heap.size := (Array.getElem?_eq_some_iff.1 hb).1
      have hes : es = fieldL vK ps n := by
        rcases Nat.lt_or_ge n 1 with hlt | hge
        · have e1 : es = [] := List.eq_nil_of_length_eq_zero (by omega)
          have e2 : fieldL vK ps n = [] := List.eq_nil_of_length_eq_zero (by rw [length_fieldL]; omega)
          rw [e1, e2]
        · obtain ⟨x, hx⟩ := List.length_eq_one_iff.1 (show (fieldL vK ps n).length = 1 by rw [length_fieldL]; omega)
          rw [hx] at hP ⊢
          exact List.perm_singleton.1 hP
      have hH := holds_met hb ht
      rw [hes] at hH
      refine ⟨fRow_of (by omega) hcm (by simp; omega) (holdsK_grow _ _ _ _ g 0 _ hgl hH) hps, fun g' n' c' e => ?_⟩
      simp only [Value.slice.injEq, Option.some.injEq, Addr.mk.injEq] at e
      obtain ⟨⟨rfl, _⟩, _⟩ := e
      exact ⟨_, _, (heap_grow_old _ _ hgl).trans hb⟩
  · rcases hrow.2 with ⟨rfl, hz⟩ | ⟨g, cap, cur, rfl, hg, hb, hle, hcm, hsz, ht⟩
    · omega
    · have hgl : g < wr.heap.size := (Array.getElem?_eq_some_iff.1 hb).1
      have hH := holds_met hb ht
      have hds : es.toArray.size = n := by simp [hlen]
      have hqg : q ≠ g := by omega
      have hqc' : wr.cell? ⟨q, 0, none⟩ = some (.slice (some ⟨g, 0, none⟩) es.toArray.size cap) := by rw [hqc]; simp
      have hc := sort_fields g 0 cap q es.toArray (by omega) (by omega) wr hH hgl hqc' hqlt hqg
      rw [show es.toArray.size = es.length by simp] at hc
      refine hc.mono ?_
      rintro e w' ⟨rfl, d', nn, os, hp, hsrt, rfl⟩
      have hd' : d'.toList = fieldL vK ps n := sorted_eq ha es.toArray d' (by simpa using hP) (by simpa using hp) (by simpa using hsrt)
      have hd2 : d' = (fieldL vK ps n).toArray := by rw [← hd']
      have hsz' : d'.size = es.toArray.size := by rw [hp.1]
      have hH' : HoldsK encF 2 (grow (putRowK encF 2 (Sort.ahead wr nn) g 0 d') os) g 0 d' := holdsK_grow _ _ _ _ g 0 _ (by simpa [putRowK] using hgl) (holdsK_putRowK _ _ _ g 0 es.toArray d' (holdsK_ahead _ _ _ _ _ _ _ hH) hsz')
      refine ⟨rfl, ?_, ?_, hbel.grown (grownBy_sortK d') hbel.size (by intro j hj; simp at hj; omega)⟩
      · rw [cell?_grow _ _ _ (by simpa [putRowK] using hqlt), cell?_putRowK_other _ _ _ g 0 d' _ hqg]
        exact hqc
      · rw [hd2] at hH' ⊢
        rw [hlen] at hle ⊢
        refine ⟨fRow_of hle hcm (by simpa [putRowK] using Nat.lt_of_lt_of_le hgl (Nat.le_add_right _ _)) hH' hps, fun g' n' c' e => ?_⟩
        simp only [Value.slice.injEq, Option.some.injEq, Addr.mk.injEq] at e
        obtain ⟨⟨rfl, _⟩, _⟩ := e
        obtain ⟨cs', fr', ht'⟩ := tag_put (nn := nn) (d := (fieldL vK ps n).toArray) hb
        exact ⟨cs', fr', (heap_grow_old _ _ (by simpa [putRowK] using hgl)).trans ht'⟩

/-- An entry has come. -/
theorem ranging_next {D : DataW Value} {b r q n base cnt cnt2 : Nat} {w wr w2 w3 : World} {left : Lit → Bool} {es : List Fd} {v v' : Value} {x : List UInt8} {t : TypeId} {cx : Value} {o : Obj} (h : Ranging D b r q n base w wr left cnt es v) (hlk : left (.string x) = true) (hat : ∀ zd, D.atKey (.string x) zd = .held (.iface t cx))
    (hrg2 : w2.ranges Tryz.prog 9 tokR b r 128 D (fun z => left z && !z.sameKey (.string x)) cnt2) (hlt : cnt2 < cnt) (hg2 : wr.grownBy w2 (some r)) (hown : w3.ownsRow base 97 2 v' (es.length + 1) (es.flatMap encF ++ [encStr x, .iface t cx])) (hg3 : (w2.alloc o).grownBy w3 v.ownBlock) :
    w3.heap[q]? = some (.cells #[v] 94 (0, 0)) ∧ Ranging D b r q n base w (w3.setCell ⟨q, 0, none⟩ v') (fun z => left z && !z.sameKey (.string x)) cnt2 (es ++ [(x, (t, cx))]) v' := by
  obtain ⟨hrg, hC, hM, hcs, hq, hrow, hbel, hrb, hqr, hwq, hbs, hbw⟩ := h
  have hs2 := hg2.size
  have hs3 := hg3.size
  have hsa : (w2.alloc o).heap.size = w2.heap.size + 1 := by simp
  have hrow2 : w2.ownsRow base 97 2 v es.length (es.flatMap encF) := hrow.kept hg2 (Or.inr (row_ne_iter hrow hrg).symm)
  have hq2 : w2.heap[q]? = some (.cells #[v] 94 (0, 0)) := (hg2.block q (by omega) (by simp; omega)).trans hq
  have hq2' : (w2.alloc o).heap[q]? = some (.cells #[v] 94 (0, 0)) := (Below.heap_alloc _ _ _ (by omega)).trans hq2
  have hq3 : w3.heap[q]? = some (.cells #[v] 94 (0, 0)) := (hg3.block q (by omega) (row_ne_low hrow2 (by omega))).trans hq2'
  have g1 := grown1 w3 q 0 v'
  refine ⟨hq3, ?_, ?_, ?_, by simp; omega, heap_setCell_same w3 q 0 _ _ v' hq3, ?_, ?_, hrb, hqr, hwq, ?_, hbw⟩
  · exact ((hrg2.alloc o).kept hg3 (row_ne_low hrow2 (by omega)) (row_ne_iter hrow2 hrg2)).kept g1 (by simp; omega) (by simp; omega)
  · have := hC.step hlk hat
    simpa using this
  · intro y hy zd
    rcases List.mem_append.1 hy with hy | hy
    · exact hM y hy zd
    · simp at hy
      subst hy
      exact hat zd
  · have := hown.kept g1 (Or.inr (row_ne_low hown (by omega)).symm)
    simpa [encF, encStr] using this
  · refine ((((hbel.grown hg2 hbel.size (by intro j hj; simp at hj; omega)).alloc (by have := hbel.size; omega) o).grown hg3 (by have := hbel.size; omega) ?_).grown g1 (by have := hbel.size; omega) (by intro j hj; simp at hj; omega))
    intro j hj
    have := (hrow2.lt j hj).1
    omega
  · simp [World.setCell]
    omega

/-- .. and what the store into the variable leans on. -/
theorem ranging_store {D : DataW Value} {b r q n base cnt cnt2 : Nat} {w wr w2 w3 : World} {left : Lit → Bool} {es : List Fd} {v v' : Value} {x : List UInt8} {t : TypeId} {cx : Value} {o : Obj} (h : Ranging D b r q n base w wr left cnt es v) (hlk : left (.string x) = true) (hat : ∀ zd, D.atKey (.string x) zd = .held (.iface t cx))
    (hrg2 : w2.ranges Tryz.prog 9 tokR b r 128 D (fun z => left z && !z.sameKey (.string x)) cnt2) (hlt : cnt2 < cnt) (hg2 : wr.grownBy w2 (some r)) (hown : w3.ownsRow base 97 2 v' (es.length + 1) (es.flatMap encF ++ [encStr x, .iface t cx])) (hg3 : (w2.alloc o).grownBy w3 v.ownBlock) :
    ∃ p c, v' = .slice p (es.length + 1) c ∧ w3.cell? ⟨q, 0, none⟩ = some v ∧ w3.frozen? ⟨q, 0, none⟩ = false ∧ Hid (Ranging D b r q n base w (w3.setCell ⟨q, 0, none⟩ v') (fun z => left z && !z.sameKey (.string x)) cnt2 (es ++ [(x, (t, cx))]) v') := by
  obtain ⟨hq3, hR3⟩ := ranging_next h hlk hat hrg2 hlt hg2 hown hg3
  have hc : w3.cell? ⟨q, 0, none⟩ = some v := by rw [cell_of_row w3 _ 0 _ _ (0, 0) hq3]; rfl
  have hf := frozen_of_row w3 q 0 _ _ hq3
  rcases hown.2 with ⟨_, h0⟩ | ⟨g, cap, cur, rfl, _⟩
  · omega
  · exact ⟨_, _, rfl, hc, hf, hR3⟩

set_option maxHeartbeats 3200000 in
set_option maxRecDepth 100000 in
theorem fields_anyT (b n : Nat) (vK : List (List Int)) (ps : List Value) (w : World) (hm : w.ownsMap Tryz.prog 9 tokR b 128 (mapD vK ps n)) (ha : ∀ i, i < n → upB vK i = true) (hps : ∀ i, i < n → ∃ t x, ps.getD i .nilIface = .iface t x) (hn : n ≤ 100) :
    Calls Tryz.prog 43 #[.agg #[.map (some b)]] w fun e w' => ∃ u, e = .returned u ∧ (FRow w' u vK ps n ∧ FTag w' u) ∧ Below w.heap.size w w' := by
  rw [mapD_listU vK ps n ha] at hm
  have hbw := hm.lt
  obtain ⟨i0, hi, hz0, hz1, hz2⟩ := info_parts infoF
  have hb2 : ∀ o o' : Obj, Below w.heap.size w ((w.alloc o).alloc o') := fun o o' => ((Below.refl _ _).alloc (Nat.le_refl _) o).alloc (by simp) o'
  have hmA : ∀ o o' : Obj, ((w.alloc o).alloc o').ownsMap Tryz.prog 9 tokR b 128 (.map (entF vK ps n)) := fun o o' => hm.kept (below_grows (hb2 o o') none) (by simp)
  have hSz := size_ent vK ps n
  have hHeld : ∀ (kl : Lit) (c : Value), (∀ zd, (DataW.map (entF vK ps n)).atKey kl zd = .held c) → ∃ t x, c = .iface t x := fun kl c h => by
    obtain ⟨i, hi, rfl⟩ := held_at h
    exact hps i hi
  have hSort : ∀ (r q base cnt : Nat) (wr : World) (left : Lit → Bool) (es : List Fd) (v : Value), Ranging (DataW.map (entF vK ps n)) b r q n base w wr left cnt es v → (∀ kl, left kl = false) → Calls Tryz.prog 56 #[.iface 94 v, .func (.func 57) #[] #[.pointer (some ⟨q, 0, none⟩)]] wr fun e w' => e = .returned (.tuple #[]) ∧ w'.cell? ⟨q, 0, none⟩ = some v ∧ Hid ((FRow w' v vK ps n ∧ FTag w' v) ∧ Below w.heap.size w w') :=
    fun r q base cnt wr left es v h hl => sort_met h hl ha hps hn
  have HSort := hide' hSort
  have HHeld := hide' hHeld
  have Hsz := hide' hSz
  have HbA := hide' hb2
  have H2 := hide' (two_boxes w (.cells #[.map (some b)] 93) (.cells #[.slice none 0 0] 94))
  clear ha hps hSz hm hb2 hSort hHeld
  generalize (DataW.map (entF vK ps n)) = D at *
  go_enter Tryz.func43, Tryz.ntmps43
  go_wp2_with (first
    | (at_range; refine wpList_range_own _ rfl _ 91 rfl 9 55 (Maps.string_keyed Tryz.underlying9) Tryz.underlying91 tokR b 128 D rfl (hmA _ _) ?_; intro w0 hrg0 hg0 hs0)
    | go_in)
  have hsz2 := size2 w (.cells #[.map (some b)] 93) (.cells #[.slice none 0 0] 94)
  have hbel0 : Below w.heap.size w w0 := (HbA.out _ _).grown hg0 (HbA.out _ _).size (by simp)
  have hq0 : w0.heap[w.heap.size + 1]? = some (.cells #[.slice none 0 0] 94 (0, 0)) := (hg0.block _ (by omega) (by simp)).trans H2.out.2
  have hr1 : w.heap.size + 2 ≤ ((w.alloc (.cells #[.map (some b)] 93)).alloc (.cells #[.slice none 0 0] 94)).heap.size := by omega
  generalize ((w.alloc (.cells #[.map (some b)] 93)).alloc (.cells #[.slice none 0 0] 94)).heap.size = r at *
  have hR0 : Ranging D b r (w.heap.size + 1) n (r + 1) w w0 (Maps.has D) (Maps.size D) [] (.slice none 0 0) :=
    ⟨hrg0, Collected.start D, fun x hx => by simp at hx, by rw [Hsz.out]; simp, hq0, ⟨by simp, .inl ⟨rfl, rfl⟩⟩, hbel0, by omega, by omega, by omega, by omega, hbw⟩
  have HR0 := hide' hR0
  clear hrg0 hg0 hs0 hsz2 hbel0 hq0 hmA HbA H2 hR0
  go_frame
  go_loopw [4, 5] (fun _ _ wr => ∃ left cnt es v, Ranging D b r (w.heap.size + 1) n (r + 1) w wr left cnt es v) (fun _ _ wr => wr.rangeLeft b r)
  case atStart => exact ⟨_, _, _, _, HR0.out⟩
  case round =>
    obtain ⟨left, cnt, es, v, hR⟩ := hrel
    have HR := hide' hR
    obtain ⟨hrg, hC, hM, hcs, hq, hrow, hbel, hrb, hqb, hwq, hbs, hwr⟩ := hR
    have hbz := hbel.size
    have hqc : wr.cell? ⟨w.heap.size + 1, 0, none⟩ = some v := by rw [cell_of_row wr _ 0 _ _ (0, 0) hq]; rfl
    have hvs : ∃ p c, v = .slice p es.length c := by
      rcases hrow.2 with ⟨rfl, h0⟩ | ⟨g, cap, cur, rfl, _⟩
      · exact ⟨none, 0, by rw [h0]⟩
      · exact ⟨_, _, rfl⟩
    go_wp2_with (first
      | (at_next; refine wpList_next_ranges _ rfl _ rfl 9 (Maps.string_keyed Tryz.underlying9) tokR encStr id (fun key kl hk => by obtain ⟨x, hx, _⟩ := Maps.keyOf_str Tryz.underlying9 hk; exact ⟨x, hx⟩) (fun v y hv => ⟨v, rfl⟩) b r 128 _ _ _ rfl hrg ?_ ?_)
      | go_in)
    · intro hc0 hl0
      have hS := hide' (HSort.out _ _ _ _ _ _ _ _ HR.out hl0)
      obtain ⟨p, c, rfl⟩ := hvs
      clear hrg hC hM hcs hq hrow hbel hl0 HR HR0 HSort HHeld
      go_wp2_with fail
      refine hS.out.mono ?_
      rintro e w' ⟨rfl, hqc', hF⟩
      go_wp2
      go_ret
      exact ⟨_, rfl, hF.out.1, hF.out.2⟩
    · intro x c kl yd yp w2 cnt2 hkey hlk hv hat hrg2 hlt hg2 hs2 hen
      obtain ⟨x', ex, rfl, hxl⟩ := Maps.keyOf_str Tryz.underlying9 hkey
      obtain rfl : x = x' := encStr_inj ex
      have hy : yd = .held c := by
        have : some (DataW.held c, ([] : List MemPlace)) = some (yd, yp) := hv
        simp at this
        exact this.1.symm
      subst hy
      obtain ⟨t, cx, rfl⟩ := HHeld.out _ _ hat
      have hrow2 : w2.ownsRow (r + 1) 97 2 v es.length (es.flatMap encF) := hrow.kept hg2 (Or.inr (row_ne_iter hrow hrg).symm)
      have hsz2 := hg2.size
      have hq2 : w2.heap[w.heap.size + 1]? = some (.cells #[v] 94 (0, 0)) := (hg2.block _ (by omega) (by simp; omega)).trans hq
      have hqc2 : w2.cell? ⟨w.heap.size + 1, 0, none⟩ = some v := by rw [cell_of_row w2 _ 0 _ _ (0, 0) hq2]; rfl
      obtain ⟨vp, vc, hve⟩ := hvs
      have hl40 : es.length + 1 ≤ 100 := by omega
      have Hlk := hide' hlk
      have Hat := hide' hat
      have Hrg2 := hide' hrg2
      have Hg2 := hide' hg2
      have Hrg := hide' hrg
      have Hmeas : Hid (wr.rangeLeft b r = cnt) := hrg.left_eq
      have hcell := cell_two_new w2 (.string ⟨x.toArray⟩) (.iface t cx) 97
      have hrw := hrow2.alloc (.cells #[.string ⟨x.toArray⟩, .iface t cx] 97)
      have hone : ∀ u ∈ [Value.string ⟨x.toArray⟩, Value.iface t cx], u.oneCell' = true := by
        intro u hu
        simp at hu
        rcases hu with rfl | rfl <;> rfl
      have h63 : es.length + 1 ≤ maxLen := by unfold maxLen; omega
      have hbase : r + 1 ≤ (w2.alloc (.cells #[.string ⟨x.toArray⟩, .iface t cx] 97)).heap.size := by simp; omega
      have Hrow2 := hide' hrow2
      clear hs2 hkey hv hat hlk hrg2 hg2 hrg hC hM hq hrow hbel hq2 hqc HSort HHeld HR0 hrow2
      subst hve
      unfold encStr at hen
      unfold encStr
      go_wp2_with (at_builtin; refine wpList_append_own_at _ rfl _ _ 94 rfl (r + 1) 97 i0 (.agg #[.string ⟨#[]⟩, .nilIface]) 2 32 Tryz.underlying94 hi hz0 hz1 hz2 rfl (by decide) _ es.length _ rfl hrw ⟨w2.heap.size, 0, none⟩ 1 1 [.string ⟨x.toArray⟩, .iface t cx] rfl rfl hcell hone h63 (by omega) hbase ?_; intro v' w3 hown' hg3 hnil hloc; obtain ⟨vp', vc', hv', hq3c, hq3f, HR3⟩ := ranging_store HR.out Hlk.out Hat.out Hrg2.out hlt Hg2.out hown' hg3; clear hown' hg3 hnil hloc; subst hv')
      go_roundw
      case rel => exact ⟨_, _, _, _, HR3.out⟩
      case measure => rw [HR3.out.1.left_eq, Hmeas.out]; exact hlt

theorem fields_anyU (b n : Nat) (vK : List (List Int)) (ps : List Value) (w : World) (hm : w.ownsMap Tryz.prog 9 tokR b 128 (mapD vK ps n)) (ha : ∀ i, i < n → upB vK i = true) (hps : ∀ i, i < n → ∃ t x, ps.getD i .nilIface = .iface t x) (hn : n ≤ 100) :
    Calls Tryz.prog 43 #[.agg #[.map (some b)]] w fun e w' => ∃ u, e = .returned u ∧ FRow w' u vK ps n ∧ Below w.heap.size w w' :=
  (fields_anyT b n vK ps w hm ha hps hn).mono fun e w' ⟨u, h1, h2, h3⟩ => ⟨u, h1, h2.1, h3⟩

end Go.Proofs.YteafpgaefphkfaaGreatDoor
