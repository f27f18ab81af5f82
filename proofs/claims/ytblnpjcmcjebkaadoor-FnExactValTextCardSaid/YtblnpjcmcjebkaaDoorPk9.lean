/-
  Texts that a law leans on, one behind the other; no statement is proved here.
-/
import Derived.Test.YtblnpjcmcjebkaaDoorPk8
import Derived.Maps.RangeWalk
import Derived.Maps.AppendAt
import Derived.Sort.OwnSorted
import Derived.Deep.RegionLaw
import Derived.Deep.RegionWith
import Derived.Test.YtblnpjcmcjebkaaDoorPk7
/-
  fields of a map of parts: a row of the call's own with the entries in the order of their keys, whatever order the map gave them in.
-/
namespace Go.Proofs.YtblnpjcmcjebkaaDoor
open Go.RowKit Go.Sort
open Go.Proofs (encStr)
set_option linter.unusedVariables false
set_option linter.unusedSimpArgs false

/-- A row with the entries in order. -/
def FRow (w : World) (u : Value) (vK : List (List Int)) (ps : List Value) (n : Nat) : Prop := ∃ a cap, u = .slice a n cap ∧ n ≤ cap ∧ cap ≤ maxLen ∧
  (n = 0 ∨ ∃ g, a = some ⟨g, 0, none⟩ ∧ g < w.heap.size ∧ ∀ i, i < n → w.cell? ⟨g, i * 2, none⟩ = some (.string (strOf (vK.getD i []))) ∧ w.cell? ⟨g, i * 2 + 1, none⟩ = some (ps.getD i .nilIface))

/-- The row's block is one of fields. -/
def FTag (w : World) (u : Value) : Prop := ∀ g n c, u = .slice (some ⟨g, 0, none⟩) n c → ∃ cs fr, w.heap[g]? = some (.cells cs 79 fr)

theorem grownBy_sortK {w : World} {g n : Nat} {os : Array Obj} (d : Array Fd) : w.grownBy (grow (putRowK encF 2 (Sort.ahead w n) g 0 d) os) (some g) := by
  refine ⟨rfl, rfl, rfl, by simp [putRowK], fun k hk hne => ?_⟩
  rw [heap_grow_old _ _ (by simpa [putRowK] using hk)]
  have : g ≠ k := fun e => hne (by rw [e])
  simp [putRowK, putRow, mapBlock, Sort.ahead, Array.getElem?_modify, this]

theorem tag_put {w : World} {g nn : Nat} {cur : Array Value} {T : TypeId} {fr : Nat × Nat} {d : Array Fd} (hb : w.heap[g]? = some (.cells cur T fr)) : ∃ cs fr', (putRowK encF 2 (Sort.ahead w nn) g 0 d).heap[g]? = some (.cells cs T fr') := by
  unfold putRowK putRow mapBlock Sort.ahead
  simp only [Array.getElem?_modify, hb, if_true, Option.map_some]
  exact ⟨_, _, rfl⟩

theorem grownBy_grow {w : World} {os : Array Obj} : w.grownBy (grow w os) none := ⟨rfl, rfl, rfl, by simp, fun k hk _ => heap_grow_old _ _ hk⟩

theorem flat_length (es : List Fd) : (es.flatMap encF).length = es.length * 2 := by
  induction es with
  | nil => rfl
  | cons x es ih => simp [encF, ih]; omega

theorem flat_at : ∀ (es : List Fd) (t : Nat) (h : t / 2 < es.length), (es.flatMap encF)[t]? = some ((encF es[t / 2])[t % 2]!)
  | [], t, h => by simp at h
  | x :: es, t, h => by
    match t with
    | 0 => rfl
    | 1 => rfl
    | t + 2 =>
      have e1 : (t + 2) / 2 = t / 2 + 1 := by omega
      have e2 : (t + 2) % 2 = t % 2 := by omega
      have ih := flat_at es t (by simp at h; omega)
      simp only [e1, e2, List.getElem_cons_succ, List.flatMap_cons]
      rw [← ih]
      rfl

/-- The row of the entries that were met, as the sort wants it. -/
theorem holds_met {w : World} {g : Nat} {cur : Array Value} {e : TypeId} {es : List Fd} (hb : w.heap[g]? = some (.cells cur e (0, 0))) (ht : cur.toList.take (es.length * 2) = es.flatMap encF) : HoldsK encF 2 w g 0 es.toArray := by
  intro j hj
  rw [size_flatK] at hj
  have hj' : j < es.length * 2 := by simpa using hj
  refine ⟨?_, by simp [World.frozen?, hb]⟩
  have h1 : (cur.toList.take (es.length * 2))[j]? = (es.flatMap encF)[j]? := by rw [ht]
  rw [List.getElem?_take_of_lt hj', flat_at es j (by omega)] at h1
  rw [get_flatK _ _ _ _ hj]
  simp only [World.cell?, hb, Nat.zero_add]
  simp only [Option.isSome_none, Bool.false_eq_true, if_false]
  rw [← Array.getElem?_toList, h1]
  have e3 : es.toArray[j / 2]! = es[j / 2]'(by omega) := by
    rw [getElem!_pos es.toArray (j / 2) (by simp; omega)]
    simp
  rw [e3]
  rfl

theorem str_u8s (xs : List Int) : (⟨(u8s xs).toArray⟩ : ByteArray) = strOf xs := rfl
theorem size_ent (vK : List (List Int)) (ps : List Value) (n : Nat) : Maps.size (DataW.map (entF vK ps n)) = n := by simp [Maps.size, entF]

theorem encF_unI {p : Value} (h : ∃ t x, p = .iface t x) : (Value.iface (unI p).1 (unI p).2) = p := by
  obtain ⟨t, x, rfl⟩ := h
  rfl

/-- What is held of the entries, in order, reads as the row. -/
theorem fRow_of {w : World} {g cap n : Nat} {vK : List (List Int)} {ps : List Value} (hc : n ≤ cap) (hm : cap ≤ maxLen) (hg : g < w.heap.size) (hH : HoldsK encF 2 w g 0 (fieldL vK ps n).toArray) (hps : ∀ i, i < n → ∃ t x, ps.getD i .nilIface = .iface t x) : FRow w (.slice (some ⟨g, 0, none⟩) n cap) vK ps n := by
  refine ⟨_, cap, rfl, hc, hm, .inr ⟨g, rfl, hg, fun i hi => ?_⟩⟩
  have hs : i < (fieldL vK ps n).toArray.size := by simp [length_fieldL, hi]
  have e : (fieldL vK ps n).toArray[i]! = (u8s (vK.getD i []), unI (ps.getD i .nilIface)) := by
    rw [getElem!_pos _ i hs]
    simpa using fieldL_at vK ps n i hi
  have h0 := (hH.cell (i := i) (c := 0) hs (by omega)).1
  have h1 := (hH.cell (i := i) (c := 1) hs (by omega)).1
  rw [e] at h0 h1
  refine ⟨by simpa [encF, str_u8s] using h0, ?_⟩
  rw [Nat.zero_add] at h1
  rw [h1]
  show some (Value.iface _ _) = _
  rw [encF_unI (hps i hi)]

theorem infoF : (Tryd.prog.info? 79).map (fun i => (i.zero, i.size, i.bytes)) = some (some (.agg #[.string ⟨#[]⟩, .nilIface]), 2, 32) := by kernel_rfl

/-- While the map is ranged over. -/
def Ranging (D : DataW Value) (b r q n base : Nat) (w wr : World) (left : Lit → Bool) (cnt : Nat) (es : List Fd) (v : Value) : Prop :=
  wr.ranges Tryd.prog 9 tokR b r 128 D left cnt ∧ Collected D left (es.map (·.1)) ∧ Met D es ∧ es.length + cnt ≤ n ∧
  wr.heap[q]? = some (.cells #[v] 76 (0, 0)) ∧ wr.ownsRow base 79 2 v es.length (es.flatMap encF) ∧ Below w.heap.size w wr ∧ r < base ∧ q < r ∧ w.heap.size ≤ q ∧ base ≤ wr.heap.size ∧ b < w.heap.size

theorem held_at {vK : List (List Int)} {ps : List Value} {n : Nat} {kl : Lit} {c : Value} (h : ∀ zd, (DataW.map (entF vK ps n)).atKey kl zd = .held c) : ∃ i, i < n ∧ c = ps.getD i .nilIface := by
  have h1 := h .nil
  unfold DataW.atKey at h1
  simp only at h1
  split at h1
  · next p hp =>
    have hm := List.mem_of_find?_eq_some hp
    simp only [entF, List.mem_map, List.mem_range] at hm
    obtain ⟨i, hi, rfl⟩ := hm
    simp only [DataW.held.injEq] at h1
    exact ⟨i, hi, h1.symm⟩
  · simp at h1

theorem cell_two_new (w : World) (a b : Value) (T : TypeId) : ∀ j u, [a, b][j]? = some u → (w.alloc (.cells #[a, b] T)).cell? ((⟨w.heap.size, 0, none⟩ : Addr).add j) = some u := by
  intro j u hu
  rw [Addr.add_lit, Nat.zero_add, cell_of_row (w.alloc (.cells #[a, b] T)) w.heap.size j #[a, b] T (0, 0) (MapKept.heap_alloc w _).1]
  simpa using hu

/-- Nothing is left: the sort puts in order what was met. -/
theorem sort_met {vK : List (List Int)} {ps : List Value} {n b r q base cnt : Nat} {w wr : World} {left : Lit → Bool} {es : List Fd} {v : Value} (h : Ranging (DataW.map (entF vK ps n)) b r q n base w wr left cnt es v) (hl : ∀ kl, left kl = false) (ha : ∀ i, i < n → upB vK i = true) (hps : ∀ i, i < n → ∃ t x, ps.getD i .nilIface = .iface t x) (hn : n ≤ 100) :
    Calls Tryd.prog 45 #[.iface 76 v, .func (.func 46) #[] #[.pointer (some ⟨q, 0, none⟩)]] wr fun e w' => e = .returned (.tuple #[]) ∧ w'.cell? ⟨q, 0, none⟩ = some v ∧ Hid ((FRow w' v vK ps n ∧ FTag w' v) ∧ Below w.heap.size w w') := by
  obtain ⟨hrg, hC, hM, hcs, hq, hrow, hbel, hrb, hqb, hwq, hbs, hwr⟩ := h
  have hP := met_perm ha hM (hC.perm hrg.owns (Maps.string_keyed Tryd.underlying9) Tryd.underlying9 hl)
  have hlen : es.length = n := by rw [hP.length_eq, length_fieldL]
  have hqc : wr.cell? ⟨q, 0, none⟩ = some v := by rw [cell_of_row wr q 0 _ _ (0, 0) hq]; rfl
  have hqlt : q < wr.heap.size := by omega
  by_cases h1 : n ≤ 1
  · have hsh : ∃ p c, v = .slice p n c := by
      rcases hrow.2 with ⟨rfl, h0⟩ | ⟨g, cap, cur, rfl, _⟩
      · exact ⟨none, 0, by rw [← hlen, h0]⟩
      · exact ⟨_, _, by rw [hlen]⟩
    obtain ⟨p, c, rfl⟩ := hsh
    refine (sort_tiny p n c q h1 wr).mono ?_
    rintro e w' ⟨rfl, os, rfl⟩
    refine ⟨rfl, by rw [cell?_grow _ _ _ hqlt]; exact hqc, ?_, hbel.grown (grownBy_grow (os := os)) hbel.size (by simp)⟩
    rcases hrow.2 with ⟨h0, hz⟩ | ⟨g, cap, cur, h0, hg, hb, hle, hcm, hsz, ht⟩
    · simp only [Value.slice.injEq] at h0
      obtain ⟨rfl, hz1, rfl⟩ := h0
      exact ⟨⟨none, 0, rfl, by omega, Nat.zero_le _, .inl hz1⟩, fun g n c e => by simp at e⟩
    · simp only [Value.slice.injEq] at h0
      obtain ⟨rfl, _, rfl⟩ := h0
      have hgl : g < wr.heap.size := (Array.getElem?_eq_some_iff.1 hb).1
      have hes : es = fieldL vK ps n := by
        rcases Nat.lt_or_ge n 1 with hlt | hge
        · have e1 : es = [] := List.eq_nil_of_length_eq_zero (by omega)
          have e2 : fieldL vK ps n = [] := List.eq_nil_of_length_eq_zero (by rw [length_fieldL]; omega)
          rw [e1, e2]
        · obtain ⟨x, hx⟩ := List.length_eq_one_iff.1 (show (fieldL vK ps n).length = 1 by rw [length_fieldL]; omega)
          rw [hx] at hP ⊢
          exact List.perm_singleton.1 hP
      have hH := holds_met hb ht
      rw [hes] at hH
      refine ⟨fRow_of (by omega) hcm (by simp; omega) (holdsK_grow _ _ _ _ g 0 _ hgl hH) hps, fun g' n' c' e => ?_⟩
      simp only [Value.slice.injEq, Option.some.injEq, Addr.mk.injEq] at e
      obtain ⟨⟨rfl, _⟩, _⟩ := e
      exact ⟨_, _, (heap_grow_old _ _ hgl).trans hb⟩
  · rcases hrow.2 with ⟨rfl, hz⟩ | ⟨g, cap, cur, rfl, hg, hb, hle, hcm, hsz, ht⟩
    · omega
    · have hgl : g < wr.heap.size := (Array.getElem?_eq_some_iff.1 hb).1
      have hH := holds_met hb ht
      have hds : es.toArray.size = n := by simp [hlen]
      have hqg : q ≠ g := by omega
      have hqc' : wr.cell? ⟨q, 0, none⟩ = some (.slice (some ⟨g, 0, none⟩) es.toArray.size cap) := by rw [hqc]; simp
      have hc := sort_fields g 0 cap q es.toArray (by omega) (by omega) wr hH hgl hqc' hqlt hqg
      rw [show es.toArray.size = es.length by simp] at hc
      refine hc.mono ?_
      rintro e w' ⟨rfl, d', nn, os, hp, hsrt, rfl⟩
      have hd' : d'.toList = fieldL vK ps n := sorted_eq ha es.toArray d' (by simpa using hP) (by simpa using hp) (by simpa using hsrt)
      have hd2 : d' = (fieldL vK ps n).toArray := by rw [← hd']
      have hsz' : d'.size = es.toArray.size := by rw [hp.1]
      have hH' : HoldsK encF 2 (grow (putRowK encF 2 (Sort.ahead wr nn) g 0 d') os) g 0 d' := holdsK_grow _ _ _ _ g 0 _ (by simpa [putRowK] using hgl) (holdsK_putRowK _ _ _ g 0 es.toArray d' (holdsK_ahead _ _ _ _ _ _ _ hH) hsz')
      refine ⟨rfl, ?_, ?_, hbel.grown (grownBy_sortK d') hbel.size (by intro j hj; simp at hj; omega)⟩
      · rw [cell?_grow _ _ _ (by simpa [putRowK] using hqlt), cell?_putRowK_other _ _ _ g 0 d' _ hqg]
        exact hqc
      · rw [hd2] at hH' ⊢
        rw [hlen] at hle ⊢
        refine ⟨fRow_of hle hcm (by simpa [putRowK] using Nat.lt_of_lt_of_le hgl (Nat.le_add_right _ _)) hH' hps, fun g' n' c' e => ?_⟩
        simp only [Value.slice.injEq, Option.some.injEq, Addr.mk.injEq] at e
        obtain ⟨⟨rfl, _⟩, _⟩ := e
        obtain ⟨cs', fr', ht'⟩ := tag_put (nn := nn) (d := (fieldL vK ps n).toArray) hb
        exact ⟨cs', fr', (heap_grow_old _ _ (by simpa [putRowK] using hgl)).trans ht'⟩

/-- An entry has come. -/
theorem ranging_next {D : DataW Value} {b r q n base cnt cnt2 : Nat} {w wr w2 w3 : World} {left : Lit → Bool} {es : List Fd} {v v' : Value} {x : List UInt8} {t : TypeId} {cx : Value} {o : Obj} (h : Ranging D b r q n base w wr left cnt es v) (hlk : left (.string x) = true) (hat : ∀ zd, D.atKey (.string x) zd = .held (.iface t cx))
    (hrg2 : w2.ranges Tryd.prog 9 tokR b r 128 D (fun z => left z && !z.sameKey (.string x)) cnt2) (hlt : cnt2 < cnt) (hg2 : wr.grownBy w2 (some r)) (hown : w3.ownsRow base 79 2 v' (es.length + 1) (es.flatMap encF ++ [encStr x, .iface t cx])) (hg3 : (w2.alloc o).grownBy w3 v.ownBlock) :
    w3.heap[q]? = some (.cells #[v] 76 (0, 0)) ∧ Ranging D b r q n base w (w3.setCell ⟨q, 0, none⟩ v') (fun z => left z && !z.sameKey (.string x)) cnt2 (es ++ [(x, (t, cx))]) v' := by
  obtain ⟨hrg, hC, hM, hcs, hq, hrow, hbel, hrb, hqr, hwq, hbs, hbw⟩ := h
  have hs2 := hg2.size
  have hs3 := hg3.size
  have hsa : (w2.alloc o).heap.size = w2.heap.size + 1 := by simp
  have hrow2 : w2.ownsRow base 79 2 v es.length (es.flatMap encF) := hrow.kept hg2 (Or.inr (row_ne_iter hrow hrg).symm)
  have hq2 : w2.heap[q]? = some (.cells #[v] 76 (0, 0)) := (hg2.block q (by omega) (by simp; omega)).trans hq
  have hq2' : (w2.alloc o).heap[q]? = some (.cells #[v] 76 (0, 0)) := (Below.heap_alloc _ _ _ (by omega)).trans hq2
  have hq3 : w3.heap[q]? = some (.cells #[v] 76 (0, 0)) := (hg3.block q (by omega) (row_ne_low hrow2 (by omega))).trans hq2'
  have g1 := grown1 w3 q 0 v'
  refine ⟨hq3, ?_, ?_, ?_, by simp; omega, heap_setCell_same w3 q 0 _ _ v' hq3, ?_, ?_, hrb, hqr, hwq, ?_, hbw⟩
  · exact ((hrg2.alloc o).kept hg3 (row_ne_low hrow2 (by omega)) (row_ne_iter hrow2 hrg2)).kept g1 (by simp; omega) (by simp; omega)
  · have := hC.step hlk hat
    simpa using this
  · intro y hy zd
    rcases List.mem_append.1 hy with hy | hy
    · exact hM y hy zd
    · simp at hy
      subst hy
      exact hat zd
  · have := hown.kept g1 (Or.inr (row_ne_low hown (by omega)).symm)
    simpa [encF, encStr] using this
  · refine ((((hbel.grown hg2 hbel.size (by intro j hj; simp at hj; omega)).alloc (by have := hbel.size; omega) o).grown hg3 (by have := hbel.size; omega) ?_).grown g1 (by have := hbel.size; omega) (by intro j hj; simp at hj; omega))
    intro j hj
    have := (hrow2.lt j hj).1
    omega
  · simp [World.setCell]
    omega

/-- .. and what the store into the variable leans on. -/
theorem ranging_store {D : DataW Value} {b r q n base cnt cnt2 : Nat} {w wr w2 w3 : World} {left : Lit → Bool} {es : List Fd} {v v' : Value} {x : List UInt8} {t : TypeId} {cx : Value} {o : Obj} (h : Ranging D b r q n base w wr left cnt es v) (hlk : left (.string x) = true) (hat : ∀ zd, D.atKey (.string x) zd = .held (.iface t cx))
    (hrg2 : w2.ranges Tryd.prog 9 tokR b r 128 D (fun z => left z && !z.sameKey (.string x)) cnt2) (hlt : cnt2 < cnt) (hg2 : wr.grownBy w2 (some r)) (hown : w3.ownsRow base 79 2 v' (es.length + 1) (es.flatMap encF ++ [encStr x, .iface t cx])) (hg3 : (w2.alloc o).grownBy w3 v.ownBlock) :
    ∃ p c, v' = .slice p (es.length + 1) c ∧ w3.cell? ⟨q, 0, none⟩ = some v ∧ w3.frozen? ⟨q, 0, none⟩ = false ∧ Hid (Ranging D b r q n base w (w3.setCell ⟨q, 0, none⟩ v') (fun z => left z && !z.sameKey (.string x)) cnt2 (es ++ [(x, (t, cx))]) v') := by
  obtain ⟨hq3, hR3⟩ := ranging_next h hlk hat hrg2 hlt hg2 hown hg3
  have hc : w3.cell? ⟨q, 0, none⟩ = some v := by rw [cell_of_row w3 _ 0 _ _ (0, 0) hq3]; rfl
  have hf := frozen_of_row w3 q 0 _ _ hq3
  rcases hown.2 with ⟨_, h0⟩ | ⟨g, cap, cur, rfl, _⟩
  · omega
  · exact ⟨_, _, rfl, hc, hf, hR3⟩

set_option maxHeartbeats 3200000 in
set_option maxRecDepth 100000 in
theorem fields_anyT (b n : Nat) (vK : List (List Int)) (ps : List Value) (w : World) (hm : w.ownsMap Tryd.prog 9 tokR b 128 (mapD vK ps n)) (ha : ∀ i, i < n → upB vK i = true) (hps : ∀ i, i < n → ∃ t x, ps.getD i .nilIface = .iface t x) (hn : n ≤ 100) :
    Calls Tryd.prog 35 #[.agg #[.map (some b)]] w fun e w' => ∃ u, e = .returned u ∧ (FRow w' u vK ps n ∧ FTag w' u) ∧ Below w.heap.size w w' := by
  rw [mapD_listU vK ps n ha] at hm
  have hbw := hm.lt
  obtain ⟨i0, hi, hz0, hz1, hz2⟩ := info_parts infoF
  have hb2 : ∀ o o' : Obj, Below w.heap.size w ((w.alloc o).alloc o') := fun o o' => ((Below.refl _ _).alloc (Nat.le_refl _) o).alloc (by simp) o'
  have hmA : ∀ o o' : Obj, ((w.alloc o).alloc o').ownsMap Tryd.prog 9 tokR b 128 (.map (entF vK ps n)) := fun o o' => hm.kept (below_grows (hb2 o o') none) (by simp)
  have hSz := size_ent vK ps n
  have hHeld : ∀ (kl : Lit) (c : Value), (∀ zd, (DataW.map (entF vK ps n)).atKey kl zd = .held c) → ∃ t x, c = .iface t x := fun kl c h => by
    obtain ⟨i, hi, rfl⟩ := held_at h
    exact hps i hi
  have hSort : ∀ (r q base cnt : Nat) (wr : World) (left : Lit → Bool) (es : List Fd) (v : Value), Ranging (DataW.map (entF vK ps n)) b r q n base w wr left cnt es v → (∀ kl, left kl = false) → Calls Tryd.prog 45 #[.iface 76 v, .func (.func 46) #[] #[.pointer (some ⟨q, 0, none⟩)]] wr fun e w' => e = .returned (.tuple #[]) ∧ w'.cell? ⟨q, 0, none⟩ = some v ∧ Hid ((FRow w' v vK ps n ∧ FTag w' v) ∧ Below w.heap.size w w') :=
    fun r q base cnt wr left es v h hl => sort_met h hl ha hps hn
  have HSort := hide' hSort
  have HHeld := hide' hHeld
  have Hsz := hide' hSz
  have HbA := hide' hb2
  have H2 := hide' (two_boxes w (.cells #[.map (some b)] 75) (.cells #[.slice none 0 0] 76))
  clear ha hps hSz hm hb2 hSort hHeld
  generalize (DataW.map (entF vK ps n)) = D at *
  go_enter Tryd.func35, Tryd.ntmps35
  go_wp2_with (first
    | (at_range; refine wpList_range_own _ rfl _ 73 rfl 9 45 (Maps.string_keyed Tryd.underlying9) Tryd.underlying73 tokR b 128 D rfl (hmA _ _) ?_; intro w0 hrg0 hg0 hs0)
    | go_in)
  have hsz2 := size2 w (.cells #[.map (some b)] 75) (.cells #[.slice none 0 0] 76)
  have hbel0 : Below w.heap.size w w0 := (HbA.out _ _).grown hg0 (HbA.out _ _).size (by simp)
  have hq0 : w0.heap[w.heap.size + 1]? = some (.cells #[.slice none 0 0] 76 (0, 0)) := (hg0.block _ (by omega) (by simp)).trans H2.out.2
  have hr1 : w.heap.size + 2 ≤ ((w.alloc (.cells #[.map (some b)] 75)).alloc (.cells #[.slice none 0 0] 76)).heap.size := by omega
  generalize ((w.alloc (.cells #[.map (some b)] 75)).alloc (.cells #[.slice none 0 0] 76)).heap.size = r at *
  have hR0 : Ranging D b r (w.heap.size + 1) n (r + 1) w w0 (Maps.has D) (Maps.size D) [] (.slice none 0 0) :=
    ⟨hrg0, Collected.start D, fun x hx => by simp at hx, by rw [Hsz.out]; simp, hq0, ⟨by simp, .inl ⟨rfl, rfl⟩⟩, hbel0, by omega, by omega, by omega, by omega, hbw⟩
  have HR0 := hide' hR0
  clear hrg0 hg0 hs0 hsz2 hbel0 hq0 hmA HbA H2 hR0
  go_frame
  go_loopw [4, 5] (fun _ _ wr => ∃ left cnt es v, Ranging D b r (w.heap.size + 1) n (r + 1) w wr left cnt es v) (fun _ _ wr => wr.rangeLeft b r)
  case atStart => exact ⟨_, _, _, _, HR0.out⟩
  case round =>
    obtain ⟨left, cnt, es, v, hR⟩ := hrel
    have HR := hide' hR
    obtain ⟨hrg, hC, hM, hcs, hq, hrow, hbel, hrb, hqb, hwq, hbs, hwr⟩ := hR
    have hbz := hbel.size
    have hqc : wr.cell? ⟨w.heap.size + 1, 0, none⟩ = some v := by rw [cell_of_row wr _ 0 _ _ (0, 0) hq]; rfl
    have hvs : ∃ p c, v = .slice p es.length c := by
      rcases hrow.2 with ⟨rfl, h0⟩ | ⟨g, cap, cur, rfl, _⟩
      · exact ⟨none, 0, by rw [h0]⟩
      · exact ⟨_, _, rfl⟩
    go_wp2_with (first
      | (at_next; refine wpList_next_ranges _ rfl _ rfl 9 (Maps.string_keyed Tryd.underlying9) tokR encStr id (fun key kl hk => by obtain ⟨x, hx, _⟩ := Maps.keyOf_str Tryd.underlying9 hk; exact ⟨x, hx⟩) (fun v y hv => ⟨v, rfl⟩) b r 128 _ _ _ rfl hrg ?_ ?_)
      | go_in)
    · intro hc0 hl0
      have hS := hide' (HSort.out _ _ _ _ _ _ _ _ HR.out hl0)
      obtain ⟨p, c, rfl⟩ := hvs
      clear hrg hC hM hcs hq hrow hbel hl0 HR HR0 HSort HHeld
      go_wp2_with fail
      refine hS.out.mono ?_
      rintro e w' ⟨rfl, hqc', hF⟩
      go_wp2
      go_ret
      exact ⟨_, rfl, hF.out.1, hF.out.2⟩
    · intro x c kl yd yp w2 cnt2 hkey hlk hv hat hrg2 hlt hg2 hs2 hen
      obtain ⟨x', ex, rfl, hxl⟩ := Maps.keyOf_str Tryd.underlying9 hkey
      obtain rfl : x = x' := encStr_inj ex
      have hy : yd = .held c := by
        have : some (DataW.held c, ([] : List MemPlace)) = some (yd, yp) := hv
        simp at this
        exact this.1.symm
      subst hy
      obtain ⟨t, cx, rfl⟩ := HHeld.out _ _ hat
      have hrow2 : w2.ownsRow (r + 1) 79 2 v es.length (es.flatMap encF) := hrow.kept hg2 (Or.inr (row_ne_iter hrow hrg).symm)
      have hsz2 := hg2.size
      have hq2 : w2.heap[w.heap.size + 1]? = some (.cells #[v] 76 (0, 0)) := (hg2.block _ (by omega) (by simp; omega)).trans hq
      have hqc2 : w2.cell? ⟨w.heap.size + 1, 0, none⟩ = some v := by rw [cell_of_row w2 _ 0 _ _ (0, 0) hq2]; rfl
      obtain ⟨vp, vc, hve⟩ := hvs
      have hl40 : es.length + 1 ≤ 100 := by omega
      have Hlk := hide' hlk
      have Hat := hide' hat
      have Hrg2 := hide' hrg2
      have Hg2 := hide' hg2
      have Hrg := hide' hrg
      have Hmeas : Hid (wr.rangeLeft b r = cnt) := hrg.left_eq
      have hcell := cell_two_new w2 (.string ⟨x.toArray⟩) (.iface t cx) 79
      have hrw := hrow2.alloc (.cells #[.string ⟨x.toArray⟩, .iface t cx] 79)
      have hone : ∀ u ∈ [Value.string ⟨x.toArray⟩, Value.iface t cx], u.oneCell' = true := by
        intro u hu
        simp at hu
        rcases hu with rfl | rfl <;> rfl
      have h63 : es.length + 1 ≤ maxLen := by unfold maxLen; omega
      have hbase : r + 1 ≤ (w2.alloc (.cells #[.string ⟨x.toArray⟩, .iface t cx] 79)).heap.size := by simp; omega
      have Hrow2 := hide' hrow2
      clear hs2 hkey hv hat hlk hrg2 hg2 hrg hC hM hq hrow hbel hq2 hqc HSort HHeld HR0 hrow2
      subst hve
      unfold encStr at hen
      unfold encStr
      go_wp2_with (at_builtin; refine wpList_append_own_at _ rfl _ _ 76 rfl (r + 1) 79 i0 (.agg #[.string ⟨#[]⟩, .nilIface]) 2 32 Tryd.underlying76 hi hz0 hz1 hz2 rfl (by decide) _ es.length _ rfl hrw ⟨w2.heap.size, 0, none⟩ 1 1 [.string ⟨x.toArray⟩, .iface t cx] rfl rfl hcell hone h63 (by omega) hbase ?_; intro v' w3 hown' hg3 hnil hloc; obtain ⟨vp', vc', hv', hq3c, hq3f, HR3⟩ := ranging_store HR.out Hlk.out Hat.out Hrg2.out hlt Hg2.out hown' hg3; clear hown' hg3 hnil hloc; subst hv')
      go_roundw
      case rel => exact ⟨_, _, _, _, HR3.out⟩
      case measure => rw [HR3.out.1.left_eq, Hmeas.out]; exact hlt

theorem fields_anyU (b n : Nat) (vK : List (List Int)) (ps : List Value) (w : World) (hm : w.ownsMap Tryd.prog 9 tokR b 128 (mapD vK ps n)) (ha : ∀ i, i < n → upB vK i = true) (hps : ∀ i, i < n → ∃ t x, ps.getD i .nilIface = .iface t x) (hn : n ≤ 100) :
    Calls Tryd.prog 35 #[.agg #[.map (some b)]] w fun e w' => ∃ u, e = .returned u ∧ FRow w' u vK ps n ∧ Below w.heap.size w w' :=
  (fields_anyT b n vK ps w hm ha hps hn).mono fun e w' ⟨u, h1, h2, h3⟩ => ⟨u, h1, h2.1, h3⟩

theorem fields_any (b n : Nat) (vK : List (List Int)) (ps : List Value) (w : World) (hm : w.ownsMap Tryd.prog 9 tokR b 64 (mapD vK ps n)) (ha : ∀ i, i < n → stepB vK i = true) (hps : ∀ i, i < n → ∃ t x, ps.getD i .nilIface = .iface t x) (hn : n ≤ 40) :
    Calls Tryd.prog 35 #[.agg #[.map (some b)]] w fun e w' => ∃ u, e = .returned u ∧ FRow w' u vK ps n ∧ Below w.heap.size w w' := fields_anyU b n vK ps w (hm.mono (n' := 128) (by omega)) (step_up ha) hps (by omega)
end Go.Proofs.YtblnpjcmcjebkaaDoor
/-
  ValText of the program: appendPart of a map.
-/
namespace Go.Proofs.YtblnpjcmcjebkaaDoor
open Go.RowKit Go.Shelf
set_option linter.unusedVariables false
set_option linter.unusedSimpArgs false

set_option maxHeartbeats 3000000 in
set_option maxRecDepth 100000 in
theorem appendPart_map (d : Nat) (ih : PSayAt d) (N B : Nat) (a : Option Addr) (c : Nat) (xs : List Int) (vK : List (List Int)) (vL : List (Vl d)) (b : Nat) (ps : List Value) (deep : Nat) (w : World) (hN : N ≤ B) (hBw : B ≤ w.heap.size) (hB : Bts w B (.slice a xs.length c) xs)
    (hm : w.ownsMap Tryd.prog 9 tokR b 64 (mapD vK ps vL.length)) (hps0 : ∀ i (h : i < vL.length), PSeg (fun b => b < N) w d (ps.getD i .nilIface) vL[i]) (hst0 : ∀ i, i < vL.length → stepB vK i = true) (hbR : b < N) (hkb : ∀ i, i < vL.length → (∀ x ∈ vK.getD i [], Byt x) ∧ (vK.getD i []).length ≤ 8) (hg : ∀ j (h : j < vL.length), goodB d vL[j] deep = true) (hp : 1 + pre (partsV d) vL vL.length ≤ 40) (hn : vL.length ≤ 40) (hlen : xs.length + 60 * (1 + pre (partsV d) vL vL.length) ≤ 900000) (ht : Tab B w) :
    Calls Tryd.prog 22 #[.slice a xs.length c, .iface 75 (.agg #[.map (some b)])] w (ApEnd B (xs ++ 123 :: (kidS (sayV d) true vK vL vL.length ++ [125])) w) := by
  have t1 := nonull_mapPart (.agg #[.map (some b)])
  have t2 := nobool_mapPart (.agg #[.map (some b)])
  have t3 := noint_mapPart (.agg #[.map (some b)])
  have t4 := notext_mapPart (.agg #[.map (some b)])
  have t5 := nolist_mapPart (.agg #[.map (some b)])
  have t6 := is_mapPart (.agg #[.map (some b)])
  have HI := hide' ih
  have HG := hide' hg
  have HP := hide' hps0
  have HKB := hide' hkb
  have HSh : Hid (∀ i, i < vL.length → ∃ t x, ps.getD i .nilIface = .iface t x) := fun i hi => (hps0 i hi).shape
  have HFl : Hid (∀ wy, Kept w wy → Below B w wy → (wy.heap[b]? = w.heap[b]?) → Calls Tryd.prog 35 #[.agg #[.map (some b)]] wy fun e w' => ∃ u, e = .returned u ∧ (FRow w' u vK ps vL.length ∧ FTag w' u) ∧ Below wy.heap.size wy w') := fun wy _ hy hbk => by
    refine fields_anyT b vL.length vK ps wy (World.ownsMap.mono (n := 64) (n' := 128) ?_ (by omega)) (step_up hst0) HSh.out (by omega)
    obtain ⟨es, clock, h1, r⟩ := hm
    exact ⟨es, clock, hbk.trans h1, r⟩
  have hbN : b < N := hbR
  have HTb := hide' ht
  have HPk : Hid (∀ k (h : k < vL.length), partsV d vL[k] ≤ 40) := fun k h => by
    have h3 := pre_succ (partsV d) vL k h
    have h4 := pre_le (partsV d) vL (k + 1)
    have h5 := pre_all (partsV d) vL
    omega
  have HRoom : Hid (∀ k (h : k < vL.length), xs.length + 1 + (kidS (sayV d) true vK vL k).length + 13 + 60 * partsV d vL[k] ≤ 900000) := fun k h => by
    have h1 := kidS_len (sayV d) (partsV d) true vK vL (fun _ j hj => (hkb j hj).2) (fun j h => sayV_len d vL[j] deep (hg j h)) k (by omega)
    have h3 := pre_succ (partsV d) vL k h
    have h4 := pre_le (partsV d) vL (k + 1)
    have h5 := pre_all (partsV d) vL
    omega
  have HKn : Hid (∀ k, k ≤ vL.length → (kidS (sayV d) true vK vL k).length ≤ 2400) := fun k h => by
    have h1 := kidS_len (sayV d) (partsV d) true vK vL (fun _ j hj => (hkb j hj).2) (fun j h => sayV_len d vL[j] deep (hg j h)) k h
    have h4 := pre_le (partsV d) vL k
    have h5 := pre_all (partsV d) vL
    omega
  have HStp : Hid (∀ k (h : k < vL.length), kidS (sayV d) true vK vL (k + 1) = kidS (sayV d) true vK vL k ++ (aheadS true vK k ++ sayV d vL[k])) := fun k h => kidS_succ _ _ _ _ k h
  have HZ : Hid (kidS (sayV d) true vK vL 0 = []) := rfl
  generalize hkid : kidS (sayV d) true vK vL = kid at *
  have HB : Hid (∀ o o' : Obj, Bts ((w.alloc o).alloc o') B (.slice a xs.length c) xs) := fun o o' => (hB.alloc o).alloc o'
  have hS1 : Hid (∀ o : Obj, Seg ((w.alloc o).alloc (.cells #[.int .u8 123] 5)) (some ⟨w.heap.size + 1, 0, none⟩) [123]) := fun o => by
    have h := seg_one (w.alloc o) 123 (by unfold Byt; omega)
    simp only [World.size_alloc] at h
    exact h
  have hbC : Hid (∀ o o' : Obj, Below B w ((w.alloc o).alloc o')) := fun o o' => ((Below.refl _ _).alloc hBw o).alloc (by simp; omega) o'
  have Hbx : Hid (∀ o o2 : Obj, ((w.alloc o).alloc o2).heap[w.heap.size]? = some o) := fun o o2 => (Below.heap_alloc _ _ _ (by simp)).trans (MapKept.heap_alloc w o).1
  have HOwn := hide' hB.own
  have Hneq : Hid (some w.heap.size ≠ (Value.slice a xs.length c).ownBlock) := fun e => by have := (hB.2.lt _ e.symm).2; omega
  obtain ⟨res, hres⟩ : ∃ res, res = xs ++ 123 :: (kid vL.length ++ [125]) := ⟨_, rfl⟩
  have HRes := hide' hres
  rw [← hres]
  have hxl : xs.length ≤ 900000 := by omega
  clear hm hps0 hst0 hkb hg ih hkid hp ht hB hres hlen
  go_enter Tryd.func22, Tryd.ntmps22
  go_wp2_with (at_builtin; refine wpList_append_seg rfl (.tmp 70) (.tmp 71) (by rfl) B (.slice a xs.length c) xs [123] (by rfl) (HB.out _ _) _ 1 1 rfl (by rfl) (hS1.out _) (by simp) (by simp; omega) (by simp; omega) ?_; intro v1 w1 hv1 hg1; have hb1 := hide' ((hbC.out _ _).grown hg1 (by simp; omega) HOwn.out); have hx1 := (hg1.block w.heap.size (by simp; omega) Hneq.out).trans (Hbx.out _ _); have cx1 := row1c hx1; have hk1 := hide' (kept_app2 (Kept.refl w) (HB.out _ _) hg1); replace hv1 := hide' hv1; clear hg1 hx1)
  go_wp2_with fail
  refine (HFl.out _ hk1.out hb1.out (hb1.out.block b (by omega))).mono ?_
  rintro e w4 ⟨u, rfl, ⟨hFR, hTag⟩, b4⟩
  have hbw4 := hide' (hb1.out.trans (b4.mono (by have := hb1.out.size; omega)))
  have hk4 := hide' (hk1.out.trans (kept_below b4))
  have hv4 := hide' (hv1.out.grow b4)
  obtain ⟨fa, fc, rfl, hfc, hfm, hcell0⟩ := hFR
  have HC0 := hide' hcell0
  have HTag := hide' hTag
  unfold maxLen at hfm
  clear hcell0 b4 HFl hv1 cx1 hb1 hk1 hTag
  go_wp2_with fail
  go_loopw [0, 76] (fun y i wr => ∃ k : Nat, k ≤ vL.length ∧ i = .int .i64 k ∧ Hid (Bts wr B y (xs ++ 123 :: kid k)) ∧ Hid (Below B w wr) ∧ Hid (Kept w4 wr)) (fun _ i _ => vL.length - (intOf i).toNat)
  case atStart => exact ⟨0, Nat.zero_le _, rfl, by rw [HZ.out]; exact hv4, hbw4, Kept.refl _⟩
  case round =>
    obtain ⟨k, hk, rfl, hB, hbel, hkp⟩ := hrel
    obtain ⟨ya, yc, rfl, _, _, _, _, kk⟩ := hB.out.shape
    have hz : B ≤ wr.heap.size := by have := hbel.out.size; omega
    have hkn := HKn.out k hk
    have HOwn := hide' hB.out.own
    obtain ⟨zs, hzs⟩ : ∃ zs, zs = xs ++ 123 :: kid k := ⟨_, rfl⟩
    have hzl : zs.length = (xs ++ 123 :: kid k).length := by rw [hzs]
    have hzn : zs.length = xs.length + 1 + (kid k).length := by rw [hzs]; simp; omega
    rw [← hzs] at hB HOwn
    rw [← hzl]
    by_cases hlt : k < vL.length
    · have hlt' : (k : Int) < (vL.length : Int) := by omega
      have hroom := HRoom.out k hlt
      have hk0i : (0 : Int) ≤ (k : Int) := Int.natCast_nonneg _
      obtain ⟨t, px, hpe⟩ := HSh.out k hlt
      have hat : ∃ g, fa = some ⟨g, 0, none⟩ ∧ wr.cell? ⟨g, k * 2, none⟩ = some (.string (strOf (vK.getD k []))) ∧ wr.cell? ⟨g, k * 2 + 1, none⟩ = some (.iface t px) := by
        rcases HC0.out with h0 | ⟨g, rfl, hg, hc⟩
        · omega
        · obtain ⟨c0, c1⟩ := hc k hlt
          obtain ⟨cs, fr, hgr⟩ := HTag.out g _ _ rfl
          have hbk := (hkp.out g cs _ fr hgr (by decide)).trans hgr.symm
          rw [hpe] at c1
          exact ⟨g, rfl, (World.cell?_of_block hbk).trans c0, (World.cell?_of_block hbk).trans c1⟩
      obtain ⟨g, rfl, fc0, fc1⟩ := hat
      have hps := HP.out k hlt
      rw [hpe] at hps
      have hst := HStp.out k hlt
      obtain ⟨ts, hts⟩ : ∃ ts, ts = vK.getD k [] := ⟨_, rfl⟩
      have hkb := HKB.out k hlt
      rw [← hts] at hkb fc0
      have htl := hkb.2
      have HBy := hide' hkb.1
      obtain ⟨ys, hys⟩ : ∃ ys, ys = zs ++ (if k = 0 then [] else [44, 32]) := ⟨_, rfl⟩
      have hyl : ys.length ≤ zs.length + 2 := by rw [hys]; split <;> simp
      obtain ⟨z7, hz7⟩ : ∃ z7, z7 = (ys ++ ts) ++ [32, 61, 32] := ⟨_, rfl⟩
      have hz7l : z7.length ≤ zs.length + 13 := by rw [hz7]; simp; omega
      have hbA : Hid (∀ o : Obj, Below B w (wr.alloc o).drew) := fun o => (hbel.out.alloc hz o).drew
      have HC1 : Hid (∀ o : Obj, Calls Tryd.prog 34 #[.slice ya zs.length yc, .int .i64 k] (wr.alloc o).drew (ApEnd B ys (wr.alloc o).drew)) := fun o => appendComma_any B k ya yc zs ys (wr.alloc o).drew (hB.out.alloc o) (by have := (hbA.out o).size; omega) (by omega) (by omega) (fun h => by rw [hys, if_pos h]; simp) (fun h => by rw [hys, if_neg h])
      have Hbx : Hid (∀ o : Obj, (wr.alloc o).drew.heap[wr.heap.size]? = some o) := fun o => (MapKept.heap_alloc wr o).1
      have HkA : Hid (∀ o : Obj, Kept w4 (wr.alloc o).drew) := fun o => hkp.out.trans (kept_alloc wr o)
      have HC2 : Hid (∀ a1 c1 wx, Bts wx B (.slice a1 z7.length c1) z7 → Below B w wx → Calls Tryd.prog 22 #[.slice a1 z7.length c1, .iface t px] wx (ApEnd B (xs ++ 123 :: kid (k + 1)) wx)) := fun a1 c1 wx h hb => by
        have e : xs ++ 123 :: kid (k + 1) = z7 ++ sayV d vL[k] := by rw [hst, hz7, hys, hzs, hts]; simp [aheadS]
        rw [e]
        exact HI.out N B a1 c1 z7 (.iface t px) vL[k] deep wx (PSeg.carry (fun b h => h) (agree_below (hb.mono hN)) d hps) hN (by have := hb.size; omega) h (HG.out k hlt) (HPk.out k hlt) (by omega) (Lib.TabBelow.on HTb.out hb)
      have hzb : zs.length ≤ 910000 := by omega
      have Hz7 := hide' hz7
      obtain ⟨sx, hsx⟩ : ∃ sx, sx = strOf ts := ⟨_, rfl⟩
      rw [← hsx] at fc0
      have Hsx := hide' hsx
      clear hst hys hzs hzl hzn hroom hkn hps hkb hts hpe hz7 hsx HC0
      go_wp2_with fail
      go_region_law (first
        | (go_simp; go_at_call 34; refine (HC1.out _).mono ?_; rintro e w5 ⟨a5, c5, rfl, hv5, hb5, hk5⟩; have hr5 := hk5 _ _ _ _ (Hbx.out _) (by decide); have f50 : w5.cell? ⟨wr.heap.size, 0, none⟩ = some (.string sx) := (by rw [cell_of_row w5 _ 0 _ _ _ hr5]; rfl); have f51 : w5.cell? ⟨wr.heap.size, 1, none⟩ = some (.iface t px) := (by rw [cell_of_row w5 _ 1 _ _ _ hr5]; rfl); have Hb5 := hide' ((hbA.out _).trans hb5); have Hk5 := hide' ((HkA.out _).trans hk5); have Hv5 := hide' hv5; have Hr5 := hide' hr5; have hz5 : B ≤ w5.heap.size := (by have := Hb5.out.size; omega); clear hv5 hb5 hk5 hr5)
        | (refine step_append_text (by rfl) (.tmp 83) (.tmp 85) 9 (by rfl) Tryd.underlying9 B (.slice a5 ys.length c5) ys ts (by rfl) (by exact Hv5.out) sx Hsx.out HBy.out (by rfl) (by omega) hz5 ?_; intro v6 w6 hv6 hg6; have hr6 := (kept_grown Hv5.out hg6) _ _ _ _ Hr5.out (by decide); have f60 : w6.cell? ⟨wr.heap.size, 0, none⟩ = some (.string sx) := (by rw [cell_of_row w6 _ 0 _ _ _ hr6]; rfl); have f61 : w6.cell? ⟨wr.heap.size, 1, none⟩ = some (.iface t px) := (by rw [cell_of_row w6 _ 1 _ _ _ hr6]; rfl); have Hb6 := hide' (Hb5.out.grown hg6 hz5 Hv5.out.own); have Hk6 := hide' (Hk5.out.trans (kept_grown Hv5.out hg6)); have Hv6 := hide' hv6; have Hr6 := hide' hr6; have hz6 : B ≤ w6.heap.size := (by have := Hb6.out.size; omega); clear hv6 hg6 hr6))
      all_goals
        clear Hk5 Hb5 Hv5 Hr5 f50 f51 HC1
        go_wp2_with fail
        go_region_law (first
          | (refine step_append_text (by rfl) (.tmp 87) (.const (.string { data := #[32, 61, 32] })) 9 (by rfl) Tryd.underlying9 B v6 (ys ++ ts) [32, 61, 32] (by rfl) (by exact Hv6.out) _ (by rfl) (by simp [Byt]) (by rfl) (by simp; omega) (by exact hz6) ?_; intro v7 w7 hv7 hg7; have hr7 := (kept_grown (w := w6.drew) (by exact Hv6.out) hg7) _ _ _ _ (by exact Hr6.out) (by decide); have f71 : w7.cell? ⟨wr.heap.size, 1, none⟩ = some (.iface t px) := (by rw [cell_of_row w7 _ 1 _ _ _ hr7]; rfl); have Hb7 := hide' (Hb6.out.drew.grown hg7 hz6 (by exact Hv6.out.own)); have Hk7 := hide' (Hk6.out.trans (kept_grown (w := w6.drew) (by exact Hv6.out) hg7)); rw [← Hz7.out] at hv7; obtain ⟨a7, c7, hv7e, _⟩ := hv7.shape; subst hv7e; have HC3 := hide' (HC2.out a7 c7 w7 hv7 Hb7.out); generalize z7.length = m7 at *; clear hv7 hg7 hr7)
          | (go_simp; go_at_call 22; refine HC3.out.mono ?_; rintro e w8 ⟨a8, c8, rfl, hv8, hb8, hk8⟩; have Hb8 := hide' (Hb7.out.trans hb8); have Hk8 := hide' (Hk7.out.trans hk8); have Hv8 := hide' hv8; generalize (xs ++ 123 :: kid (k + 1)).length = m8 at *; clear hv8 hb8 hk8))
      all_goals
        go_wp2
        go_roundw
        case rel => exact ⟨k + 1, by omega, by go_num, Hv8, Hb8, Hk8⟩
        case measure => simp [intOf]; omega
    · have hkn' : k = vL.length := by omega
      have hlt' : ¬ (k : Int) < (vL.length : Int) := by omega
      have HF : Hid (res = zs ++ [125]) := by show _ = _; rw [HRes.out, hzs, hkn']; simp
      have hS93 := seg_one wr 125 (by unfold Byt; omega)
      have hA93 := hB.out.alloc (.cells #[.int .u8 125] 5)
      have hbA : Hid (∀ o : Obj, Below B w (wr.alloc o)) := fun o => hbel.out.alloc hz o
      clear hkn' hzs hzl
      go_wp2_with (at_builtin; refine wpList_append_seg rfl _ _ (by rfl) B (.slice ya zs.length yc) zs [125] (by rfl) hA93 _ 1 1 rfl (by rfl) hS93 (by simp) (by simp; omega) (by simp; omega) ?_; intro v2 w2 hv2 hg2; have hb2 := hide' ((hbA.out _).grown hg2 (by simp; omega) HOwn.out); have hk2 := hide' (kept_app (hk4.out.trans hkp.out) hA93 hg2); replace hv2 := hide' hv2; clear hg2)
      go_ret
      rw [HF.out]
      exact apEnd_of hv2.out hb2.out hk2.out
end Go.Proofs.YtblnpjcmcjebkaaDoor
/-
  mapWith of the program, walked: it makes a map of names and parts.
-/
namespace Go.Proofs.YtblnpjcmcjebkaaDoor
open Go.RowKit
set_option linter.unusedVariables false
set_option linter.unusedSimpArgs false

theorem keyS (xs : List Int) (h : xs.length ≤ maxLen) : Go.keyOf Tryd.prog 9 (.string (strOf xs)) = some (.string (u8s xs)) :=
  WideMaps.keyOf_string_mk Tryd.underlying9 (by show (xs.map _).toArray.size ≤ maxLen; rw [List.size_toArray, List.length_map]; exact h)

/-- What mapWith leaves: a new map with these entries. -/
def MapWEnd (vK : List (List Int)) (ps : List Value) (m : Nat) (w : World) (e : Ending) (w' : World) : Prop :=
  ∃ b, e = .returned (.agg #[.map (some b)]) ∧ w.heap.size ≤ b ∧ b < w'.heap.size ∧ w'.ownsMap Tryd.prog 9 tokR b m (mapD vK ps m) ∧ Below w.heap.size w w'

set_option maxHeartbeats 4000000 in
theorem mapWith_of (N : Nat) (z : Value) (vK : List (List Int)) (m : Nat) (a : Option Addr) (cap : Nat) (ps : List Value) (w : World) (hz : KSeg (fun b => b < N) w z vK) (hN : N ≤ w.heap.size) (hkl : vK.length = m) (hlen : m ≤ 40)
    (hcell : m = 0 ∨ ∃ b off, a = some ⟨b, off, none⟩ ∧ b < w.heap.size ∧ ∀ i, i < m → w.cell? ⟨b, off + i, none⟩ = some (ps.getD i .nilIface)) (hsh : ∀ i, i < m → ∃ pt px, ps.getD i .nilIface = .iface pt px) :
    Calls Tryd.prog 48 #[z, .slice a m cap] w (MapWEnd vK ps m w) := by
  have HZ := hide' hz
  have HC := hide' hcell
  have HSh := hide' hsh
  have HKL := hide' hkl
  obtain ⟨a3, p3, rfl, hlc3, hcm3, ka3, _⟩ := hz
  unfold maxLen at hcm3
  have hmk := run_makeMapN 73 9 45 (m : Int) (w.alloc (.cells #[.map none] 75)) Tryd.underlying73
  have hM0 : ((w.alloc (.cells #[.map none] 75)).alloc (.map #[] 0)).ownsMap Tryd.prog 9 tokR (w.heap.size + 1) 0 (mapD vK ps 0) := by
    have := World.ownsMap_made (w.alloc (.cells #[.map none] 75)) Tryd.prog 9 tokR
    rw [World.size_alloc] at this
    exact this
  rw [World.size_alloc] at hmk
  rw [hkl] at HZ
  rw [hkl] at hlc3
  rw [hkl]
  clear hcell hsh hkl
  go_enter Tryd.func48, Tryd.ntmps48
  go_wp2
  go_loopw [13] (fun i wr => ∃ k : Nat, k ≤ m ∧ i = .int .i64 k ∧ wr.ownsMap Tryd.prog 9 tokR (w.heap.size + 1) k (mapD vK ps k) ∧ Hid (((w.alloc (.cells #[.map none] 75)).alloc (.map #[] 0)).grownBy wr (some (w.heap.size + 1)))) (fun i _ => m - (intOf i).toNat)
  case atStart => exact ⟨0, Nat.zero_le _, rfl, hM0, World.grownBy.refl _ _⟩
  case round =>
    obtain ⟨k, hk, rfl, hown, hgr⟩ := hrel
    clear hM0 hmk
    have hal1 : w.grownBy (w.alloc (.cells #[.map none] 75)) none := World.grownBy_alloc w _ none
    have hal2 : (w.alloc (.cells #[.map none] 75)).grownBy ((w.alloc (.cells #[.map none] 75)).alloc (.map #[] 0)) none := World.grownBy_alloc _ _ none
    have hlow2 : ∀ b, b < w.heap.size + 1 → wr.heap[b]? = (w.alloc (.cells #[.map none] 75)).heap[b]? := fun b hb => (hgr.out.block b (by simp; omega) (by simp; omega)).trans (hal2.block b (by simp; omega) (by simp))
    have hlow : ∀ b, b < w.heap.size → wr.heap[b]? = w.heap[b]? := fun b hb => (hlow2 b (by omega)).trans (hal1.block b hb (by simp))
    by_cases hlt : k < m
    · have hlt' : (k : Int) < (m : Int) := by omega
      have hit : ∃ b off, a = some ⟨b, off, none⟩ ∧ wr.cell? ⟨b, off + k, none⟩ = some (ps.getD k .nilIface) := by
        rcases HC.out with h0 | ⟨b, off, rfl, hb, hcc⟩
        · omega
        · exact ⟨b, off, rfl, (World.cell?_of_block (hlow b hb)).trans (hcc k hlt)⟩
      obtain ⟨ib, io, rfl, hitem⟩ := hit
      have hag : Agree (fun b => b < N) w wr := fun b hb => hlow b (by omega)
      have hKr : KSeg (fun b => b < N) wr (.slice a3 m p3) vK := HZ.out.agree hag
      have hltK : k < vK.length := by have := HKL.out; omega
      obtain ⟨kb, ko, rfl, hat⟩ := hKr.at hltK
      obtain ⟨s2, e2, hu, g2, m2⟩ := hat k hltK
      have hcv := conv_seg e2 g2
      have hkey := keyS (vK.getD k []) m2
      have HD : Hid (mapD vK ps (k + 1) = (mapD vK ps k).put (.string (u8s (vK.getD k []))) (.held (ps.getD k .nilIface))) := rfl
      obtain ⟨pt, px, hpx⟩ := HSh.out k hlt
      rw [hpx] at hitem HD
      generalize vK.getD k [] = ys at *
      clear hlow hlow2 hag hKr hat g2 hal1 hal2 hpx
      go_wp2_with (at_mapUpdate; refine wpList_mapUpdate_own _ rfl _ _ _ 73 rfl 9 45 (Maps.string_keyed Tryd.underlying9) Tryd.underlying73 tokR (w.heap.size + 1) k _ rfl hown (by unfold maxLen; omega) _ _ _ rfl rfl hkey _ [] rfl ?_; intro w3 hown3 hg3)
      have hown4 : w3.ownsMap Tryd.prog 9 tokR (w.heap.size + 1) (k + 1) (mapD vK ps (k + 1)) := by rw [HD.out]; exact hown3
      have hgr3 : Hid (((w.alloc (.cells #[.map none] 75)).alloc (.map #[] 0)).grownBy w3 (some (w.heap.size + 1))) := grownBy_trans hgr.out hg3
      clear hown3 hg3 hown hgr hkey hcv hitem hu
      go_wp2
      go_roundw
      case rel => exact ⟨k + 1, by omega, by go_num, hown4, hgr3⟩
      case measure => simp [intOf]; omega
    · have hkn : k = m := by omega
      have hlt' : ¬ (k : Int) < (m : Int) := by omega
      obtain rfl := hkn
      have hsz3 : w.heap.size + 2 ≤ wr.heap.size := by have := hgr.out.size; simpa using this
      have hR : wr.heap[w.heap.size]? = some (.cells #[.map none] 75 (0, 0)) := (hlow2 w.heap.size (by omega)).trans (MapKept.heap_alloc w _).1
      have rc : wr.cell? ⟨w.heap.size, 0, none⟩ = some (.map none) := by rw [cell_of_row wr w.heap.size 0 _ _ _ hR]; rfl
      have rf : wr.frozen? ⟨w.heap.size, 0, none⟩ = false := frozen_of_row _ _ _ _ _ hR
      have hBw : Below w.heap.size w wr := ⟨hgr.out.os, hgr.out.tape, hgr.out.output, by omega, fun b hb => hlow b hb⟩
      have HR := hide' hR
      have HBw := hide' hBw
      clear hlow hlow2 hal1 hal2 hgr hR hBw
      go_wp2_with fail
      have hrow := heap_setCell_same wr w.heap.size 0 _ _ (.map (some (w.heap.size + 1))) HR.out
      have hc := cell_of_row _ _ 0 _ _ _ hrow
      have hg := grown1 wr w.heap.size 0 (.map (some (w.heap.size + 1)))
      refine bodyPost_ret (v := .agg #[.map (some (w.heap.size + 1))]) (by simp [results, Tryd.results48, go_sem, hc]) rfl ?_
      exact ⟨w.heap.size + 1, rfl, by omega, by simp [World.setCell]; omega, hown.kept hg (by simp), HBw.out.grown hg (by omega) (by intro j hj; simp at hj; omega)⟩
end Go.Proofs.YtblnpjcmcjebkaaDoor
