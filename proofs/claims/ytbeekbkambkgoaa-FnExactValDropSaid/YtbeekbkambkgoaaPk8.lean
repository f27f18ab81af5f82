/-
  Texts that a law leans on, one behind the other; no statement is proved here.
-/
import Derived.Test.YtbeekbkambkgoaaPk7
import Derived.Maps.RangeWalk
import Derived.Maps.AppendAt
import Derived.Sort.OwnSorted
/-
  fields of a map of parts: a row of the call's own with the entries in the order of their keys, whatever order the map gave them in.
-/
namespace Go.Proofs.Ytbeekbkambkgoaa
open Go.RowKit Go.Sort
open Go.Proofs (encStr)
set_option linter.unusedVariables false
set_option linter.unusedSimpArgs false

/-- A row with the entries in order. -/
def FRow (w : World) (u : Value) (vK : List (List Int)) (ps : List Value) (n : Nat) : Prop := ∃ a cap, u = .slice a n cap ∧ n ≤ cap ∧ cap ≤ maxLen ∧
  (n = 0 ∨ ∃ g, a = some ⟨g, 0, none⟩ ∧ g < w.heap.size ∧ ∀ i, i < n → w.cell? ⟨g, i * 2, none⟩ = some (.string (strOf (vK.getD i []))) ∧ w.cell? ⟨g, i * 2 + 1, none⟩ = some (ps.getD i .nilIface))

/-- The row's block is one of fields. -/
def FTag (w : World) (u : Value) : Prop := ∀ g n c, u = .slice (some ⟨g, 0, none⟩) n c → ∃ cs fr, w.heap[g]? = some (.cells cs 76 fr)

theorem grownBy_sortK {w : World} {g n : Nat} {os : Array Obj} (d : Array Fd) : w.grownBy (grow (putRowK encF 2 (Sort.ahead w n) g 0 d) os) (some g) := by
  refine ⟨rfl, rfl, rfl, by simp [putRowK], fun k hk hne => ?_⟩
  rw [heap_grow_old _ _ (by simpa [putRowK] using hk)]
  have : g ≠ k := fun e => hne (by rw [e])
  simp [putRowK, putRow, mapBlock, Sort.ahead, Array.getElem?_modify, this]

theorem tag_put {w : World} {g nn : Nat} {cur : Array Value} {T : TypeId} {fr : Nat × Nat} {d : Array Fd} (hb : w.heap[g]? = some (.cells cur T fr)) : ∃ cs fr', (putRowK encF 2 (Sort.ahead w nn) g 0 d).heap[g]? = some (.cells cs T fr') := by
  unfold putRowK putRow mapBlock Sort.ahead
  simp only [Array.getElem?_modify, hb, if_true, Option.map_some]
  exact ⟨_, _, rfl⟩

theorem grownBy_grow {w : World} {os : Array Obj} : w.grownBy (grow w os) none := ⟨rfl, rfl, rfl, by simp, fun k hk _ => heap_grow_old _ _ hk⟩

theorem flat_length (es : List Fd) : (es.flatMap encF).length = es.length * 2 := by
  induction es with
  | nil => rfl
  | cons x es ih => simp [encF, ih]; omega

theorem flat_at : ∀ (es : List Fd) (t : Nat) (h : t / 2 < es.length), (es.flatMap encF)[t]? = some ((encF es[t / 2])[t % 2]!)
  | [], t, h => by simp at h
  | x :: es, t, h => by
    match t with
    | 0 => rfl
    | 1 => rfl
    | t + 2 =>
      have e1 : (t + 2) / 2 = t / 2 + 1 := by omega
      have e2 : (t + 2) % 2 = t % 2 := by omega
      have ih := flat_at es t (by simp at h; omega)
      simp only [e1, e2, List.getElem_cons_succ, List.flatMap_cons]
      rw [← ih]
      rfl

/-- The row of the entries that were met, as the sort wants it. -/
theorem holds_met {w : World} {g : Nat} {cur : Array Value} {e : TypeId} {es : List Fd} (hb : w.heap[g]? = some (.cells cur e (0, 0))) (ht : cur.toList.take (es.length * 2) = es.flatMap encF) : HoldsK encF 2 w g 0 es.toArray := by
  intro j hj
  rw [size_flatK] at hj
  have hj' : j < es.length * 2 := by simpa using hj
  refine ⟨?_, by simp [World.frozen?, hb]⟩
  have h1 : (cur.toList.take (es.length * 2))[j]? = (es.flatMap encF)[j]? := by rw [ht]
  rw [List.getElem?_take_of_lt hj', flat_at es j (by omega)] at h1
  rw [get_flatK _ _ _ _ hj]
  simp only [World.cell?, hb, Nat.zero_add]
  simp only [Option.isSome_none, Bool.false_eq_true, if_false]
  rw [← Array.getElem?_toList, h1]
  have e3 : es.toArray[j / 2]! = es[j / 2]'(by omega) := by
    rw [getElem!_pos es.toArray (j / 2) (by simp; omega)]
    simp
  rw [e3]
  rfl

theorem str_u8s (xs : List Int) : (⟨(u8s xs).toArray⟩ : ByteArray) = strOf xs := rfl
theorem size_ent (vK : List (List Int)) (ps : List Value) (n : Nat) : Maps.size (DataW.map (entF vK ps n)) = n := by simp [Maps.size, entF]

theorem encF_unI {p : Value} (h : ∃ t x, p = .iface t x) : (Value.iface (unI p).1 (unI p).2) = p := by
  obtain ⟨t, x, rfl⟩ := h
  rfl

/-- What is held of the entries, in order, reads as the row. -/
theorem fRow_of {w : World} {g cap n : Nat} {vK : List (List Int)} {ps : List Value} (hc : n ≤ cap) (hm : cap ≤ maxLen) (hg : g < w.heap.size) (hH : HoldsK encF 2 w g 0 (fieldL vK ps n).toArray) (hps : ∀ i, i < n → ∃ t x, ps.getD i .nilIface = .iface t x) : FRow w (.slice (some ⟨g, 0, none⟩) n cap) vK ps n := by
  refine ⟨_, cap, rfl, hc, hm, .inr ⟨g, rfl, hg, fun i hi => ?_⟩⟩
  have hs : i < (fieldL vK ps n).toArray.size := by simp [length_fieldL, hi]
  have e : (fieldL vK ps n).toArray[i]! = (u8s (vK.getD i []), unI (ps.getD i .nilIface)) := by
    rw [getElem!_pos _ i hs]
    simpa using fieldL_at vK ps n i hi
  have h0 := (hH.cell (i := i) (c := 0) hs (by omega)).1
  have h1 := (hH.cell (i := i) (c := 1) hs (by omega)).1
  rw [e] at h0 h1
  refine ⟨by simpa [encF, str_u8s] using h0, ?_⟩
  rw [Nat.zero_add] at h1
  rw [h1]
  show some (Value.iface _ _) = _
  rw [encF_unI (hps i hi)]

theorem infoF : (Try.prog.info? 76).map (fun i => (i.zero, i.size, i.bytes)) = some (some (.agg #[.string ⟨#[]⟩, .nilIface]), 2, 32) := by kernel_rfl

/-- While the map is ranged over. -/
def Ranging (D : DataW Value) (b r q n base : Nat) (w wr : World) (left : Lit → Bool) (cnt : Nat) (es : List Fd) (v : Value) : Prop :=
  wr.ranges Try.prog 9 tokR b r 128 D left cnt ∧ Collected D left (es.map (·.1)) ∧ Met D es ∧ es.length + cnt ≤ n ∧
  wr.heap[q]? = some (.cells #[v] 73 (0, 0)) ∧ wr.ownsRow base 76 2 v es.length (es.flatMap encF) ∧ Below w.heap.size w wr ∧ r < base ∧ q < r ∧ w.heap.size ≤ q ∧ base ≤ wr.heap.size ∧ b < w.heap.size

theorem held_at {vK : List (List Int)} {ps : List Value} {n : Nat} {kl : Lit} {c : Value} (h : ∀ zd, (DataW.map (entF vK ps n)).atKey kl zd = .held c) : ∃ i, i < n ∧ c = ps.getD i .nilIface := by
  have h1 := h .nil
  unfold DataW.atKey at h1
  simp only at h1
  split at h1
  · next p hp =>
    have hm := List.mem_of_find?_eq_some hp
    simp only [entF, List.mem_map, List.mem_range] at hm
    obtain ⟨i, hi, rfl⟩ := hm
    simp only [DataW.held.injEq] at h1
    exact ⟨i, hi, h1.symm⟩
  · simp at h1

theorem cell_two_new (w : World) (a b : Value) (T : TypeId) : ∀ j u, [a, b][j]? = some u → (w.alloc (.cells #[a, b] T)).cell? ((⟨w.heap.size, 0, none⟩ : Addr).add j) = some u := by
  intro j u hu
  rw [Addr.add_lit, Nat.zero_add, cell_of_row (w.alloc (.cells #[a, b] T)) w.heap.size j #[a, b] T (0, 0) (MapKept.heap_alloc w _).1]
  simpa using hu

/-- Nothing is left: the sort puts in order what was met. -/
theorem sort_met {vK : List (List Int)} {ps : List Value} {n b r q base cnt : Nat} {w wr : World} {left : Lit → Bool} {es : List Fd} {v : Value} (h : Ranging (DataW.map (entF vK ps n)) b r q n base w wr left cnt es v) (hl : ∀ kl, left kl = false) (ha : ∀ i, i < n → upB vK i = true) (hps : ∀ i, i < n → ∃ t x, ps.getD i .nilIface = .iface t x) (hn : n ≤ 100) :
    Calls Try.prog 45 #[.iface 73 v, .func (.func 46) #[] #[.pointer (some ⟨q, 0, none⟩)]] wr fun e w' => e = .returned (.tuple #[]) ∧ w'.cell? ⟨q, 0, none⟩ = some v ∧ Hid ((FRow w' v vK ps n ∧ FTag w' v) ∧ Below w.heap.size w w') := by
  obtain ⟨hrg, hC, hM, hcs, hq, hrow, hbel, hrb, hqb, hwq, hbs, hwr⟩ := h
  have hP := met_perm ha hM (hC.perm hrg.owns (Maps.string_keyed Try.underlying9) Try.underlying9 hl)
  have hlen : es.length = n := by rw [hP.length_eq, length_fieldL]
  have hqc : wr.cell? ⟨q, 0, none⟩ = some v := by rw [cell_of_row wr q 0 _ _ (0, 0) hq]; rfl
  have hqlt : q < wr.heap.size := by omega
  by_cases h1 : n ≤ 1
  · have hsh : ∃ p c, v = .slice p n c := by
      rcases hrow.2 with ⟨rfl, h0⟩ | ⟨g, cap, cur, rfl, _⟩
      · exact ⟨none, 0, by rw [← hlen, h0]⟩
      · exact ⟨_, _, by rw [hlen]⟩
    obtain ⟨p, c, rfl⟩ := hsh
    refine (sort_tiny p n c q h1 wr).mono ?_
    rintro e w' ⟨rfl, os, rfl⟩
    refine ⟨rfl, by rw [cell?_grow _ _ _ hqlt]; exact hqc, ?_, hbel.grown (grownBy_grow (os := os)) hbel.size (by simp)⟩
    rcases hrow.2 with ⟨h0, hz⟩ | ⟨g, cap, cur, h0, hg, hb, hle, hcm, hsz, ht⟩
    · simp only [Value.slice.injEq] at h0
      obtain ⟨rfl, hz1, rfl⟩ := h0
      exact ⟨⟨none, 0, rfl, by omega, Nat.zero_le _, .inl hz1⟩, fun g n c e => by simp at e⟩
    · simp only [Value.slice.injEq] at h0
      obtain ⟨rfl, _, rfl⟩ := h0
      have hgl : g < wr.heap.size := (Array.getElem?_eq_some_iff.1 hb).1
      have hes : es = fieldL vK ps n := by
        rcases Nat.lt_or_ge n 1 with hlt | hge
        · have e1 : es = [] := List.eq_nil_of_length_eq_zero (by omega)
          have e2 : fieldL vK ps n = [] := List.eq_nil_of_length_eq_zero (by rw [length_fieldL]; omega)
          rw [e1, e2]
        · obtain ⟨x, hx⟩ := List.length_eq_one_iff.1 (show (fieldL vK ps n).length = 1 by rw [length_fieldL]; omega)
          rw [hx] at hP ⊢
          exact List.perm_singleton.1 hP
      have hH := holds_met hb ht
      rw [hes] at hH
      refine ⟨fRow_of (by omega) hcm (by simp; omega) (holdsK_grow _ _ _ _ g 0 _ hgl hH) hps, fun g' n' c' e => ?_⟩
      simp only [Value.slice.injEq, Option.some.injEq, Addr.mk.injEq] at e
      obtain ⟨⟨rfl, _⟩, _⟩ := e
      exact ⟨_, _, (heap_grow_old _ _ hgl).trans hb⟩
  · rcases hrow.2 with ⟨rfl, hz⟩ | ⟨g, cap, cur, rfl, hg, hb, hle, hcm, hsz, ht⟩
    · omega
    · have hgl : g < wr.heap.size := (Array.getElem?_eq_some_iff.1 hb).1
      have hH := holds_met hb ht
      have hds : es.toArray.size = n := by simp [hlen]
      have hqg : q ≠ g := by omega
      have hqc' : wr.cell? ⟨q, 0, none⟩ = some (.slice (some ⟨g, 0, none⟩) es.toArray.size cap) := by rw [hqc]; simp
      have hc := sort_fields g 0 cap q es.toArray (by omega) (by omega) wr hH hgl hqc' hqlt hqg
      rw [show es.toArray.size = es.length by simp] at hc
      refine hc.mono ?_
      rintro e w' ⟨rfl, d', nn, os, hp, hsrt, rfl⟩
      have hd' : d'.toList = fieldL vK ps n := sorted_eq ha es.toArray d' (by simpa using hP) (by simpa using hp) (by simpa using hsrt)
      have hd2 : d' = (fieldL vK ps n).toArray := by rw [← hd']
      have hsz' : d'.size = es.toArray.size := by rw [hp.1]
      have hH' : HoldsK encF 2 (grow (putRowK encF 2 (Sort.ahead wr nn) g 0 d') os) g 0 d' := holdsK_grow _ _ _ _ g 0 _ (by simpa [putRowK] using hgl) (holdsK_putRowK _ _ _ g 0 es.toArray d' (holdsK_ahead _ _ _ _ _ _ _ hH) hsz')
      refine ⟨rfl, ?_, ?_, hbel.grown (grownBy_sortK d') hbel.size (by intro j hj; simp at hj; omega)⟩
      · rw [cell?_grow _ _ _ (by simpa [putRowK] using hqlt), cell?_putRowK_other _ _ _ g 0 d' _ hqg]
        exact hqc
      · rw [hd2] at hH' ⊢
        rw [hlen] at hle ⊢
        refine ⟨fRow_of hle hcm (by simpa [putRowK] using Nat.lt_of_lt_of_le hgl (Nat.le_add_right _ _)) hH' hps, fun g' n' c' e => ?_⟩
        simp only [Value.slice.injEq, Option.some.injEq, Addr.mk.injEq] at e
        obtain ⟨⟨rfl, _⟩, _⟩ := e
        obtain ⟨cs', fr', ht'⟩ := tag_put (nn := nn) (d := (fieldL vK ps n).toArray) hb
        exact ⟨cs', fr', (heap_grow_old _ _ (by simpa [putRowK] using hgl)).trans ht'⟩

/-- An entry has come. -/
theorem ranging_next {D : DataW Value} {b r q n base cnt cnt2 : Nat} {w wr w2 w3 : World} {left : Lit → Bool} {es : List Fd} {v v' : Value} {x : List UInt8} {t : TypeId} {cx : Value} {o : Obj} (h : Ranging D b r q n base w wr left cnt es v) (hlk : left (.string x) = true) (hat : ∀ zd, D.atKey (.string x) zd = .held (.iface t cx))
    (hrg2 : w2.ranges Try.prog 9 tokR b r 128 D (fun z => left z && !z.sameKey (.string x)) cnt2) (hlt : cnt2 < cnt) (hg2 : wr.grownBy w2 (some r)) (hown : w3.ownsRow base 76 2 v' (es.length + 1) (es.flatMap encF ++ [encStr x, .iface t cx])) (hg3 : (w2.alloc o).grownBy w3 v.ownBlock) :
    w3.heap[q]? = some (.cells #[v] 73 (0, 0)) ∧ Ranging D b r q n base w (w3.setCell ⟨q, 0, none⟩ v') (fun z => left z && !z.sameKey (.string x)) cnt2 (es ++ [(x, (t, cx))]) v' := by
  obtain ⟨hrg, hC, hM, hcs, hq, hrow, hbel, hrb, hqr, hwq, hbs, hbw⟩ := h
  have hs2 := hg2.size
  have hs3 := hg3.size
  have hsa : (w2.alloc o).heap.size = w2.heap.size + 1 := by simp
  have hrow2 : w2.ownsRow base 76 2 v es.length (es.flatMap encF) := hrow.kept hg2 (Or.inr (row_ne_iter hrow hrg).symm)
  have hq2 : w2.heap[q]? = some (.cells #[v] 73 (0, 0)) := (hg2.block q (by omega) (by simp; omega)).trans hq
  have hq2' : (w2.alloc o).heap[q]? = some (.cells #[v] 73 (0, 0)) := (Below.heap_alloc _ _ _ (by omega)).trans hq2
  have hq3 : w3.heap[q]? = some (.cells #[v] 73 (0, 0)) := (hg3.block q (by omega) (row_ne_low hrow2 (by omega))).trans hq2'
  have g1 := grown1 w3 q 0 v'
  refine ⟨hq3, ?_, ?_, ?_, by simp; omega, heap_setCell_same w3 q 0 _ _ v' hq3, ?_, ?_, hrb, hqr, hwq, ?_, hbw⟩
  · exact ((hrg2.alloc o).kept hg3 (row_ne_low hrow2 (by omega)) (row_ne_iter hrow2 hrg2)).kept g1 (by simp; omega) (by simp; omega)
  · have := hC.step hlk hat
    simpa using this
  · intro y hy zd
    rcases List.mem_append.1 hy with hy | hy
    · exact hM y hy zd
    · simp at hy
      subst hy
      exact hat zd
  · have := hown.kept g1 (Or.inr (row_ne_low hown (by omega)).symm)
    simpa [encF, encStr] using this
  · refine ((((hbel.grown hg2 hbel.size (by intro j hj; simp at hj; omega)).alloc (by have := hbel.size; omega) o).grown hg3 (by have := hbel.size; omega) ?_).grown g1 (by have := hbel.size; omega) (by intro j hj; simp at hj; omega))
    intro j hj
    have := (hrow2.lt j hj).1
    omega
  · simp [World.setCell]
    omega

/-- .. and what the store into the variable leans on. -/
theorem ranging_store {D : DataW Value} {b r q n base cnt cnt2 : Nat} {w wr w2 w3 : World} {left : Lit → Bool} {es : List Fd} {v v' : Value} {x : List UInt8} {t : TypeId} {cx : Value} {o : Obj} (h : Ranging D b r q n base w wr left cnt es v) (hlk : left (.string x) = true) (hat : ∀ zd, D.atKey (.string x) zd = .held (.iface t cx))
    (hrg2 : w2.ranges Try.prog 9 tokR b r 128 D (fun z => left z && !z.sameKey (.string x)) cnt2) (hlt : cnt2 < cnt) (hg2 : wr.grownBy w2 (some r)) (hown : w3.ownsRow base 76 2 v' (es.length + 1) (es.flatMap encF ++ [encStr x, .iface t cx])) (hg3 : (w2.alloc o).grownBy w3 v.ownBlock) :
    ∃ p c, v' = .slice p (es.length + 1) c ∧ w3.cell? ⟨q, 0, none⟩ = some v ∧ w3.frozen? ⟨q, 0, none⟩ = false ∧ Hid (Ranging D b r q n base w (w3.setCell ⟨q, 0, none⟩ v') (fun z => left z && !z.sameKey (.string x)) cnt2 (es ++ [(x, (t, cx))]) v') := by
  obtain ⟨hq3, hR3⟩ := ranging_next h hlk hat hrg2 hlt hg2 hown hg3
  have hc : w3.cell? ⟨q, 0, none⟩ = some v := by rw [cell_of_row w3 _ 0 _ _ (0, 0) hq3]; rfl
  have hf := frozen_of_row w3 q 0 _ _ hq3
  rcases hown.2 with ⟨_, h0⟩ | ⟨g, cap, cur, rfl, _⟩
  · omega
  · exact ⟨_, _, rfl, hc, hf, hR3⟩

set_option maxHeartbeats 3200000 in
set_option maxRecDepth 100000 in
theorem fields_anyT (b n : Nat) (vK : List (List Int)) (ps : List Value) (w : World) (hm : w.ownsMap Try.prog 9 tokR b 128 (mapD vK ps n)) (ha : ∀ i, i < n → upB vK i = true) (hps : ∀ i, i < n → ∃ t x, ps.getD i .nilIface = .iface t x) (hn : n ≤ 100) :
    Calls Try.prog 40 #[.agg #[.map (some b)]] w fun e w' => ∃ u, e = .returned u ∧ (FRow w' u vK ps n ∧ FTag w' u) ∧ Below w.heap.size w w' := by
  rw [mapD_listU vK ps n ha] at hm
  have hbw := hm.lt
  obtain ⟨i0, hi, hz0, hz1, hz2⟩ := info_parts infoF
  have hb2 : ∀ o o' : Obj, Below w.heap.size w ((w.alloc o).alloc o') := fun o o' => ((Below.refl _ _).alloc (Nat.le_refl _) o).alloc (by simp) o'
  have hmA : ∀ o o' : Obj, ((w.alloc o).alloc o').ownsMap Try.prog 9 tokR b 128 (.map (entF vK ps n)) := fun o o' => hm.kept (below_grows (hb2 o o') none) (by simp)
  have hSz := size_ent vK ps n
  have hHeld : ∀ (kl : Lit) (c : Value), (∀ zd, (DataW.map (entF vK ps n)).atKey kl zd = .held c) → ∃ t x, c = .iface t x := fun kl c h => by
    obtain ⟨i, hi, rfl⟩ := held_at h
    exact hps i hi
  have hSort : ∀ (r q base cnt : Nat) (wr : World) (left : Lit → Bool) (es : List Fd) (v : Value), Ranging (DataW.map (entF vK ps n)) b r q n base w wr left cnt es v → (∀ kl, left kl = false) → Calls Try.prog 45 #[.iface 73 v, .func (.func 46) #[] #[.pointer (some ⟨q, 0, none⟩)]] wr fun e w' => e = .returned (.tuple #[]) ∧ w'.cell? ⟨q, 0, none⟩ = some v ∧ Hid ((FRow w' v vK ps n ∧ FTag w' v) ∧ Below w.heap.size w w') :=
    fun r q base cnt wr left es v h hl => sort_met h hl ha hps hn
  have HSort := hide' hSort
  have HHeld := hide' hHeld
  have Hsz := hide' hSz
  have HbA := hide' hb2
  have H2 := hide' (two_boxes w (.cells #[.map (some b)] 52) (.cells #[.slice none 0 0] 73))
  clear ha hps hSz hm hb2 hSort hHeld
  generalize (DataW.map (entF vK ps n)) = D at *
  go_enter Try.func40, Try.ntmps40
  go_wp2_with (first
    | (at_range; refine wpList_range_own _ rfl _ 50 rfl 9 56 (Maps.string_keyed Try.underlying9) Try.underlying50 tokR b 128 D rfl (hmA _ _) ?_; intro w0 hrg0 hg0 hs0)
    | go_in)
  have hsz2 := size2 w (.cells #[.map (some b)] 52) (.cells #[.slice none 0 0] 73)
  have hbel0 : Below w.heap.size w w0 := (HbA.out _ _).grown hg0 (HbA.out _ _).size (by simp)
  have hq0 : w0.heap[w.heap.size + 1]? = some (.cells #[.slice none 0 0] 73 (0, 0)) := (hg0.block _ (by omega) (by simp)).trans H2.out.2
  have hr1 : w.heap.size + 2 ≤ ((w.alloc (.cells #[.map (some b)] 52)).alloc (.cells #[.slice none 0 0] 73)).heap.size := by omega
  generalize ((w.alloc (.cells #[.map (some b)] 52)).alloc (.cells #[.slice none 0 0] 73)).heap.size = r at *
  have hR0 : Ranging D b r (w.heap.size + 1) n (r + 1) w w0 (Maps.has D) (Maps.size D) [] (.slice none 0 0) :=
    ⟨hrg0, Collected.start D, fun x hx => by simp at hx, by rw [Hsz.out]; simp, hq0, ⟨by simp, .inl ⟨rfl, rfl⟩⟩, hbel0, by omega, by omega, by omega, by omega, hbw⟩
  have HR0 := hide' hR0
  clear hrg0 hg0 hs0 hsz2 hbel0 hq0 hmA HbA H2 hR0
  go_frame
  go_loopw [4, 5] (fun _ _ wr => ∃ left cnt es v, Ranging D b r (w.heap.size + 1) n (r + 1) w wr left cnt es v) (fun _ _ wr => wr.rangeLeft b r)
  case atStart => exact ⟨_, _, _, _, HR0.out⟩
  case round =>
    obtain ⟨left, cnt, es, v, hR⟩ := hrel
    have HR := hide' hR
    obtain ⟨hrg, hC, hM, hcs, hq, hrow, hbel, hrb, hqb, hwq, hbs, hwr⟩ := hR
    have hbz := hbel.size
    have hqc : wr.cell? ⟨w.heap.size + 1, 0, none⟩ = some v := by rw [cell_of_row wr _ 0 _ _ (0, 0) hq]; rfl
    have hvs : ∃ p c, v = .slice p es.length c := by
      rcases hrow.2 with ⟨rfl, h0⟩ | ⟨g, cap, cur, rfl, _⟩
      · exact ⟨none, 0, by rw [h0]⟩
      · exact ⟨_, _, rfl⟩
    go_wp2_with (first
      | (at_next; refine wpList_next_ranges _ rfl _ rfl 9 (Maps.string_keyed Try.underlying9) tokR encStr id (fun key kl hk => by obtain ⟨x, hx, _⟩ := Maps.keyOf_str Try.underlying9 hk; exact ⟨x, hx⟩) (fun v y hv => ⟨v, rfl⟩) b r 128 _ _ _ rfl hrg ?_ ?_)
      | go_in)
    · intro hc0 hl0
      have hS := hide' (HSort.out _ _ _ _ _ _ _ _ HR.out hl0)
      obtain ⟨p, c, rfl⟩ := hvs
      clear hrg hC hM hcs hq hrow hbel hl0 HR HR0 HSort HHeld
      go_wp2_with fail
      refine hS.out.mono ?_
      rintro e w' ⟨rfl, hqc', hF⟩
      go_wp2
      go_ret
      exact ⟨_, rfl, hF.out.1, hF.out.2⟩
    · intro x c kl yd yp w2 cnt2 hkey hlk hv hat hrg2 hlt hg2 hs2 hen
      obtain ⟨x', ex, rfl, hxl⟩ := Maps.keyOf_str Try.underlying9 hkey
      obtain rfl : x = x' := encStr_inj ex
      have hy : yd = .held c := by
        have : some (DataW.held c, ([] : List MemPlace)) = some (yd, yp) := hv
        simp at this
        exact this.1.symm
      subst hy
      obtain ⟨t, cx, rfl⟩ := HHeld.out _ _ hat
      have hrow2 : w2.ownsRow (r + 1) 76 2 v es.length (es.flatMap encF) := hrow.kept hg2 (Or.inr (row_ne_iter hrow hrg).symm)
      have hsz2 := hg2.size
      have hq2 : w2.heap[w.heap.size + 1]? = some (.cells #[v] 73 (0, 0)) := (hg2.block _ (by omega) (by simp; omega)).trans hq
      have hqc2 : w2.cell? ⟨w.heap.size + 1, 0, none⟩ = some v := by rw [cell_of_row w2 _ 0 _ _ (0, 0) hq2]; rfl
      obtain ⟨vp, vc, hve⟩ := hvs
      have hl40 : es.length + 1 ≤ 100 := by omega
      have Hlk := hide' hlk
      have Hat := hide' hat
      have Hrg2 := hide' hrg2
      have Hg2 := hide' hg2
      have Hrg := hide' hrg
      have Hmeas : Hid (wr.rangeLeft b r = cnt) := hrg.left_eq
      have hcell := cell_two_new w2 (.string ⟨x.toArray⟩) (.iface t cx) 76
      have hrw := hrow2.alloc (.cells #[.string ⟨x.toArray⟩, .iface t cx] 76)
      have hone : ∀ u ∈ [Value.string ⟨x.toArray⟩, Value.iface t cx], u.oneCell' = true := by
        intro u hu
        simp at hu
        rcases hu with rfl | rfl <;> rfl
      have h63 : es.length + 1 ≤ maxLen := by unfold maxLen; omega
      have hbase : r + 1 ≤ (w2.alloc (.cells #[.string ⟨x.toArray⟩, .iface t cx] 76)).heap.size := by simp; omega
      have Hrow2 := hide' hrow2
      clear hs2 hkey hv hat hlk hrg2 hg2 hrg hC hM hq hrow hbel hq2 hqc HSort HHeld HR0 hrow2
      subst hve
      unfold encStr at hen
      unfold encStr
      go_wp2_with (at_builtin; refine wpList_append_own_at _ rfl _ _ 73 rfl (r + 1) 76 i0 (.agg #[.string ⟨#[]⟩, .nilIface]) 2 32 Try.underlying73 hi hz0 hz1 hz2 rfl (by decide) _ es.length _ rfl hrw ⟨w2.heap.size, 0, none⟩ 1 1 [.string ⟨x.toArray⟩, .iface t cx] rfl rfl hcell hone h63 (by omega) hbase ?_; intro v' w3 hown' hg3 hnil hloc; obtain ⟨vp', vc', hv', hq3c, hq3f, HR3⟩ := ranging_store HR.out Hlk.out Hat.out Hrg2.out hlt Hg2.out hown' hg3; clear hown' hg3 hnil hloc; subst hv')
      go_roundw
      case rel => exact ⟨_, _, _, _, HR3.out⟩
      case measure => rw [HR3.out.1.left_eq, Hmeas.out]; exact hlt

theorem fields_anyU (b n : Nat) (vK : List (List Int)) (ps : List Value) (w : World) (hm : w.ownsMap Try.prog 9 tokR b 128 (mapD vK ps n)) (ha : ∀ i, i < n → upB vK i = true) (hps : ∀ i, i < n → ∃ t x, ps.getD i .nilIface = .iface t x) (hn : n ≤ 100) :
    Calls Try.prog 40 #[.agg #[.map (some b)]] w fun e w' => ∃ u, e = .returned u ∧ FRow w' u vK ps n ∧ Below w.heap.size w w' :=
  (fields_anyT b n vK ps w hm ha hps hn).mono fun e w' ⟨u, h1, h2, h3⟩ => ⟨u, h1, h2.1, h3⟩

theorem fields_any (b n : Nat) (vK : List (List Int)) (ps : List Value) (w : World) (hm : w.ownsMap Try.prog 9 tokR b 64 (mapD vK ps n)) (ha : ∀ i, i < n → stepB vK i = true) (hps : ∀ i, i < n → ∃ t x, ps.getD i .nilIface = .iface t x) (hn : n ≤ 40) :
    Calls Try.prog 40 #[.agg #[.map (some b)]] w fun e w' => ∃ u, e = .returned u ∧ FRow w' u vK ps n ∧ Below w.heap.size w w' := fields_anyU b n vK ps w (hm.mono (n' := 128) (by omega)) (step_up ha) hps (by omega)
end Go.Proofs.Ytbeekbkambkgoaa
/-
  valueOf of the program at a map: the walk.
-/
namespace Go.Proofs.Ytbeekbkambkgoaa
open Go.RowKit Go.Shelf
set_option linter.unusedVariables false
set_option linter.unusedSimpArgs false

set_option maxHeartbeats 12800000 in
set_option maxRecDepth 100000 in
theorem valueOf_mapPart (d : Nat) (ih : ValAt d) (N b : Nat) (ps : List Value) (l : List (Vl d)) (ks : List (List Int)) (w : World) (hb : b < N) (hm : w.ownsMap Try.prog 9 tokR b 128 (mapD ks ps l.length)) (hkl : ks.length = l.length) (hst : ∀ i, i < l.length → upB ks i = true) (hkb : ∀ i, i < l.length → (∀ x ∈ ks.getD i [], Byt x) ∧ (ks.getD i []).length ≤ 1048576)
    (hps : ∀ i (h : i < l.length), PSeg (fun b => b < N) w d (ps.getD i .nilIface) l[i]) (hN : N ≤ w.heap.size) (hl : l.length ≤ 100) (hgd : ∀ i (h : i < l.length), ∃ deep, goodB d l[i] deep = true ∧ partsV d l[i] ≤ 40) :
    Calls Try.prog 32 #[.iface 52 (.agg #[.map (some b)])] w (MapEnd d l ks w) := by
  obtain ⟨i0, hi, hz0, hz1, hz2⟩ := info_parts info_valueT
  obtain ⟨iT, hiT, hy0, hy1, hy2⟩ := info_parts infoT
  have m1 := meth_mapPart (.agg #[.map (some b)])
  have t1 := nobool_mapPart (.agg #[.map (some b)])
  have t2 := noint_mapPart (.agg #[.map (some b)])
  have t3 := notext_mapPart (.agg #[.map (some b)])
  have t4 := nolist_mapPart (.agg #[.map (some b)])
  have t5 := is_mapPart (.agg #[.map (some b)])
  have HK := hide' (kind_mapPart b)
  have HA : Hid (∀ o : Obj, Below w.heap.size w (w.alloc o)) := fun o => (Below.refl _ _).alloc (Nat.le_refl _) o
  have HSh : Hid (∀ i, i < l.length → ∃ t x, ps.getD i .nilIface = .iface t x) := fun i hi => (hps i hi).shape
  have HF : Hid (∀ wy, Below w.heap.size w wy → Calls Try.prog 40 #[.agg #[.map (some b)]] wy fun e w' => ∃ u, e = .returned u ∧ FRow w' u ks ps l.length ∧ Below wy.heap.size wy w') := fun wy hy =>
    fields_anyU b l.length ks ps wy (hm.kept (below_grows hy none) (by simp)) hst HSh.out hl
  have HP := hide' hps
  have HG := hide' hgd
  have HKB := hide' hkb
  clear hps hgd hm hst hkb
  go_enter Try.func32, Try.ntmps32
  go_wp2_with fail
  refine (HK.out _).mono ?_
  rintro e w1 ⟨rfl, b1⟩
  have hr : w1.heap[w.heap.size]? = some (.cells #[.int .i64 0, .int .i64 0, .slice none 0 0, .slice none 0 0, .slice none 0 0] 30 (0, 0)) := box_row b1
  have B1 := hide' (Below.on (HA.out _) b1)
  have hlt : w.heap.size < w1.heap.size := (Array.getElem?_eq_some_iff.1 hr).1
  have hne : ¬ w.heap.size = w1.heap.size := by omega
  have hne' : ¬ w1.heap.size = w.heap.size := by omega
  have Hr := hide' hr
  have HV : Hid (∀ o o' : Obj, ((w1.alloc o).alloc o').heap[w1.heap.size]? = some o ∧ Below w1.heap.size w1 ((w1.alloc o).alloc o')) := fun o o' => ⟨(Below.heap_alloc _ _ _ (by simp)).trans (MapKept.heap_alloc w1 o).1, ((Below.refl _ _).alloc (Nat.le_refl _) o).alloc (by simp) o'⟩
  clear b1 hr
  go_wp2_with fail
  refine (HF.out _ (Below.on B1.out (HV.out _ _).2)).mono ?_
  rintro e w2 ⟨u, rfl, hFR, b2⟩
  have hV2 := (b2.block w1.heap.size (by simp; omega)).trans (HV.out _ _).1
  have hB2 : w1.heap.size < w2.heap.size := (Array.getElem?_eq_some_iff.1 hV2).1
  have BW := hide' (Below.on (HV.out _ _).2 b2)
  obtain ⟨fa, fc, rfl, hfc, hfm, hcell⟩ := hFR
  have HC := hide' hcell
  have HV2 := hide' hV2
  unfold maxLen at hfm
  clear hcell b2 hV2 HF HV
  go_wp2_with fail
  go_loopw [62] (fun i wr => ∃ k : Nat, k ≤ l.length ∧ i = .int .i64 k ∧ ∃ xK csK BiK xL csL BiL, MInv w2 w1.heap.size d l ks k k wr xK csK BiK xL csL BiL) (fun i _ => l.length - (intOf i).toNat)
  case atStart => exact ⟨0, Nat.zero_le _, rfl, _, _, _, _, _, _, World.grownBy.refl _ _, HV2.out, RW.nil _ _ _ _ _, RW.nil _ _ _ _ _, by simp [Value.ownBlock]⟩
  case round =>
    obtain ⟨k, hk, rfl, xK, csK, BiK, xL, csL, BiL, hI⟩ := hrel
    have HI := hide' hI
    have hvK : ∃ p c, xK = .slice p k c := by
      rcases hI.2.2.1.2.2.1.2 with ⟨rfl, h0⟩ | ⟨g, cap, cur, rfl, _⟩
      · exact ⟨none, 0, by rw [h0]⟩
      · exact ⟨_, _, rfl⟩
    have hvL : ∃ p c, xL = .slice p k c := by
      rcases hI.2.2.2.1.2.2.1.2 with ⟨rfl, h0⟩ | ⟨g, cap, cur, rfl, _⟩
      · exact ⟨none, 0, by rw [h0]⟩
      · exact ⟨_, _, rfl⟩
    obtain ⟨pK, cK, rfl⟩ := hvK
    obtain ⟨pL, cL, rfl⟩ := hvL
    have hzr := hI.1.size
    clear hI
    by_cases hkn : k < l.length
    · have hkl' : (k : Int) < (l.length : Int) := by omega
      have hk0 : (0 : Int) ≤ (k : Int) := Int.natCast_nonneg _
      obtain ⟨t, px, hp⟩ := HSh.out k hkn
      have hat : ∃ g, fa = some ⟨g, 0, none⟩ ∧ wr.cell? ⟨g, k * 2, none⟩ = some (.string (strOf (ks.getD k []))) ∧ wr.cell? ⟨g, k * 2 + 1, none⟩ = some (.iface t px) := by
        rcases HC.out with h0 | ⟨g, rfl, hg, hc⟩
        · omega
        · obtain ⟨c0, c1⟩ := hc k hkn
          have hgB : g ≠ w1.heap.size := by
            rintro rfl
            have h0 := (hc 0 (by omega)).1
            rw [Nat.zero_mul, (row5 HV2.out).1] at h0
            simp at h0
          have hbk := HI.out.1.block g hg (by simpa using hgB)
          rw [hp] at c1
          exact ⟨g, rfl, (World.cell?_of_block hbk).trans c0, (World.cell?_of_block hbk).trans c1⟩
      obtain ⟨g, rfl, fc0, fc1⟩ := hat
      have hps := HP.out k hkn
      rw [hp] at hps
      obtain ⟨_, _, _, v3, v4, vf⟩ := row5 HI.out.2.1
      obtain ⟨s0, s1, s2, s3, s4, sf⟩ := box_later HI.out.2.1
      obtain ⟨ck, wB, hconv, hTo, hBb, hzB⟩ := conv_back (ks.getD k []) (HKB.out k hkn).1 (HKB.out k hkn).2 (wr.alloc (.cells #[.string (strOf (ks.getD k [])), .iface t px] 76))
      have hb5 : Below wr.heap.size wr wB := Below.on ((Below.refl _ _).alloc (Nat.le_refl _) _) hBb
      have hF5 : wB.heap[wr.heap.size]? = some (.cells #[.string (strOf (ks.getD k [])), .iface t px] 76 (0, 0)) := (hBb.block wr.heap.size (by simp)).trans (MapKept.heap_alloc wr _).1
      have hrowK : wB.ownsRow w2.heap.size 22 1 (.slice pK k cK) k csK.flatten := HI.out.2.2.1.2.2.1.kept (row := none) ⟨hb5.os, hb5.tape, hb5.output, hb5.size, fun k hk _ => hb5.block k hk⟩ (by cases hv : (Value.slice pK k cK).ownBlock <;> simp)
      simp at hzB
      have hs5 : ∀ o, (wB.alloc o).cell? ⟨w1.heap.size, 3, none⟩ = some (.slice pK k cK) := fun o => (World.cell?_of_block ((Below.heap_alloc wB o w1.heap.size (by omega)).trans (hb5.block w1.heap.size (by omega)))).trans v3
      have hsz1 : (wr.alloc (.cells #[.string (strOf (ks.getD k [])), .iface t px] 76)).heap.size = wr.heap.size + 1 := by simp
      rw [hsz1] at hconv hTo
      generalize hn' : (ks.getD k []).length = nk at hconv hTo
      have HT := hide' hTo
      have HB5 := hide' hb5
      have HF5 := hide' hF5
      have HRK := hide' hrowK
      generalize hsx : strOf (ks.getD k []) = sx at *
      have HzB := hide' hzB
      clear hzB hTo hBb hb5 hF5 hrowK m1 t1 t2 t3 t4 t5 HK hsz1
      go_wp2_with (at_builtin; refine wpList_append_lies _ rfl _ _ 23 rfl w2.heap.size 22 iT (.slice none 0 0) 1 24 Try.underlying23 hiT hy0 hy1 hy2 rfl (by decide) (.slice pK k cK) k csK.flatten (by rfl) (HRK.out.alloc _) ⟨wB.heap.size, 0, none⟩ 1 1 [.slice (some ⟨wr.heap.size + 1, 0, none⟩) nk ck] (by rfl) (by rfl) (World.news_of_block (cs := #[.slice (some ⟨wr.heap.size + 1, 0, none⟩) nk ck]) (t := 22) (fr := (0, 0)) (heap_alloc_new wB _)) (by simp [Value.oneCell']) (by omega) (by unfold maxLen; omega) (by omega) (by have := HzB.out; simp; omega) (wB.heap.size + 1) (by simp) ?_; intro g6 cp6 w6 hown6 hg6 hat6 hlt6; have hzB := HzB.out; obtain ⟨hV6, hz6, hF6, hI6⟩ := minv_k HI.out hB2 HB5.out ⟨_, rfl, HT.out⟩ (fun b hb => (by simp at hb; omega)) (by simp) hown6 hg6 hat6; obtain ⟨_, _, _, hc63, _, hf6⟩ := row5 hV6; have hf63 := hf6 3; replace hF6 := hide' ((hF6 wr.heap.size (Nat.le_refl _) (by omega)).trans HF5.out); replace hI6 := hide' hI6; clear hzB hown6 hg6 hat6 hlt6 hV6 hf6 hs5 hconv)
      have hneF : wr.heap.size ≠ w1.heap.size := by omega
      have hFS := (Below.heap_setCell w6 ⟨w1.heap.size, 3, none⟩ (.slice (some ⟨g6, 0, none⟩) (k + 1) cp6) wr.heap.size hneF).trans hF6.out
      have hzS : (w6.setCell ⟨w1.heap.size, 3, none⟩ (.slice (some ⟨g6, 0, none⟩) (k + 1) cp6)).heap.size = w6.heap.size := by simp [World.setCell]
      generalize hwS : w6.setCell ⟨w1.heap.size, 3, none⟩ (.slice (some ⟨g6, 0, none⟩) (k + 1) cp6) = wS at *
      obtain ⟨_, _, _, _, v4S, _⟩ := row5 hI6.out.2.1
      have fcS : wS.cell? ⟨wr.heap.size, 1, none⟩ = some (.iface t px) := by
        rw [cell_of_row wS wr.heap.size 1 _ _ _ hFS]
        rfl
      have hz2S := hI6.out.1.size
      have hBS : Below w.heap.size w wS := (Below.on B1.out (Below.on (Below.refl _ _) BW.out)).grown hI6.out.1 (by omega) (by intro j hj; simp at hj; omega)
      obtain ⟨deep, hgk1, hgk2⟩ := HG.out k hkn
      have HE : Hid (∀ wy, Below wS.heap.size wS wy → Calls Try.prog 32 #[.iface t px] wy (VCall w1.heap.size w2.heap.size d l k wS (.slice pL k cL) csL.flatten)) := fun wy hy => (ih N _ _ deep wy (PSeg.carry (fun b h => h) (fun b (h : b < N) => (Below.on hBS hy).block b (by omega)) d hps) (by have := (Below.on hBS hy).size; omega) hgk1 hgk2).mono fun e w5 he => minv_call hI6.out hB2 hkn hy he
      clear hgk1 hgk2 hFS hzS hBS hps hwS v3 v4 vf s0 s1 s2 s3 s4 sf hc63 hf63 fc0 fc1 hF6 HT HB5 HF5 HRK HzB HI hp
      go_region_law
        (first
          | (go_simp; go_at_call 32; refine (HE.out _ (by first | exact Below.refl _ _ | exact (Below.refl _ _).drew | exact (Below.refl _ _).drew.drew)).mono ?_; rintro e w5 ⟨uk, un, s2, n2, r2, s3, n3, r3, s4, n4, r4, rfl, Bv, hit, hbv, hbn, b5, hc5, ho5⟩; replace hit := hide' (And.intro hit (And.intro hbv (And.intro hbn (And.intro b5 ho5)))); have hz5 : w1.heap.size < w5.heap.size := (by have := b5.size; omega); have hc5o : ∀ o, (w5.alloc o).cell? ⟨w1.heap.size, 4, none⟩ = some (.slice pL k cL) := (fun o => (World.cell?_of_block (Below.heap_alloc w5 o w1.heap.size hz5)).trans hc5); clear hbv hbn b5 ho5)
          | (refine step_append_lies _ (by rfl) _ _ _ (by rfl) w2.heap.size 30 i0 _ 5 88 Try.underlying28 hi hz0 hz1 hz2 rfl (by decide) (.slice pL k cL) k csL.flatten (by rfl) (by first | exact hit.out.2.2.2.2.alloc _ | exact (hit.out.2.2.2.2.alloc _).drew) ⟨w5.heap.size, 0, none⟩ 1 1 [.int .i64 uk, .int .i64 un, .slice s2 n2 r2, .slice s3 n3 r3, .slice s4 n4 r4] (by rfl) (by rfl) (World.news_of_block (cs := #[.int .i64 uk, .int .i64 un, .slice s2 n2 r2, .slice s3 n3 r3, .slice s4 n4 r4]) (t := 30) (fr := (0, 0)) (heap_alloc_new w5 _)) (by simp [Value.oneCell']) (by omega) (by unfold maxLen; omega) (by omega) (by have := hit.out.2.2.2.1.size; simp; omega) (w5.heap.size + 1) (by simp) ?_; intro g7 cp7 w7 hown7 hg7 hat7 hlt7; obtain ⟨hV7, hI7⟩ := minv_l hI6.out hB2 hit.out.2.2.2.1 hit.out.1 hit.out.2.1 hit.out.2.2.1 hown7 hg7 hat7; obtain ⟨_, _, _, _, hc7, hf7⟩ := row5 hV7; replace hf7 := hf7 4; replace hI7 := hide' hI7; clear hown7 hg7 hat7 hlt7 hV7 hit hc5 hc5o))
      all_goals go_wp2
      all_goals go_roundw
      all_goals first
        | exact ⟨k + 1, by omega, by go_num, _, _, _, _, _, _, hI7.out⟩
        | (simp [intOf]; omega)
    · have hkn' : k = l.length := by omega
      subst hkn'
      have hkl' : ¬ (l.length : Int) < (l.length : Int) := by omega
      have hR : wr.heap[w.heap.size]? = some (.cells #[.int .i64 0, .int .i64 0, .slice none 0 0, .slice none 0 0, .slice none 0 0] 30 (0, 0)) := (HI.out.1.block _ (by omega) (by simp; omega)).trans ((BW.out.block _ hlt).trans Hr.out)
      obtain ⟨r0, r1, r2, r3, r4, rf⟩ := row5 hR
      obtain ⟨v0, v1, v2, v3, v4, _⟩ := row5 HI.out.2.1
      have f0 := rf 0
      have f1 := rf 1
      have f2 := rf 2
      have f3 := rf 3
      have f4 := rf 4
      replace hR := hide' hR
      clear rf m1 t1 t2 t3 t4 t5 HK
      go_wp2_with fail
      have hrow := set5_heap (j := 0) (.int .i64 5) (.int .i64 0) (.slice none 0 0) (.slice pK l.length cK) (.slice pL l.length cL) hR.out
      have hfin := row5 hrow
      simp only [set5, Nat.zero_add] at hfin
      obtain ⟨y0, y1, y2, y3, y4, _⟩ := hfin
      refine bodyPost_ret (v := .agg #[.int .i64 5, .int .i64 0, .slice none 0 0, .slice pK l.length cK, .slice pL l.length cL]) (by simp [results, Try.results32, go_sem, y0, y1, y2, y3, y4]) rfl ?_
      have hB5 := set5_grown wr w.heap.size 0 (.int .i64 5) (.int .i64 0) (.slice none 0 0) (.slice pK l.length cK) (.slice pL l.length cL)
      have hsz4 := set5_size wr w.heap.size 0 (.int .i64 5) (.int .i64 0) (.slice none 0 0) (.slice pK l.length cK) (.slice pL l.length cL)
      have hBn := (Below.on B1.out (Below.on (Below.refl _ _) BW.out)).grown HI.out.1 (by omega) (by intro j hj; simp at hj; omega)
      have hBf := hBn.grown hB5 (by omega) (by intro j hj; simp at hj; omega)
      obtain ⟨_, _, hRK, hRL, hdis⟩ := HI.out
      have hbK := hRK.2.2.2.2.2
      have hbL := hRL.2.2.2.2.2
      have hKo := RW.kown (ks := ks) (by rw [hkl]; exact hRK)
      refine ⟨_, _, rfl, _, _, hKo.agree fun b h => ?_, hRL.lown.agree fun b h => ?_, fun b h => ?_, ?_, hBf⟩
      · have hb := hbK b h
        exact hB5.block b (by omega) (by simp; omega)
      · have hb := hbL b h
        exact hB5.block b (by omega) (by simp; omega)
      · show w.heap.size ≤ b ∧ b < (set5 _ _ _ _ _ _ _ _).heap.size
        rcases List.mem_append.1 h with h | h
        · have hb := hbK b h
          omega
        · have hb := hbL b h
          omega
      · rw [List.nodup_append]
        exact ⟨hRK.2.2.2.2.1, hRL.2.2.2.2.1, fun a ha b hb e => hdis a ha (e ▸ hb)⟩
end Go.Proofs.Ytbeekbkambkgoaa
/-
  valueOf of the program at whatever part: a value of the call's own.
-/
namespace Go.Proofs.Ytbeekbkambkgoaa
open Go.RowKit Go.Shelf
set_option linter.unusedVariables false
set_option linter.unusedSimpArgs false

theorem tNil (w : World) : TOwn w (.slice none 0 0) [] [] := ⟨⟨by simp, rfl, .inl ⟨rfl, rfl⟩⟩, .inl ⟨rfl, rfl⟩⟩
theorem kNil (w : World) : KOwn w (.slice none 0 0) [] [] := .inl ⟨rfl, rfl, rfl⟩
theorem lNil (w : World) (d : Nat) : LOwn w d (.slice none 0 0) [] [] := .inl ⟨rfl, rfl, rfl⟩

/-- What the rules of one part say of its fields. -/
theorem shape_zero {vk vn : Int} {vs : List Int} {vK : List (List Int)} {n : Nat} (h : shapeB vk vn vs vK n = true) :
    (vk = 1 ∨ vk = 2 ∨ vn = 0) ∧ (vk = 3 ∨ vs = []) ∧ (vk = 5 ∨ vK = []) ∧ (vk = 4 ∨ vk = 5 ∨ n = 0) := by
  simp only [shapeB, bareB, Bool.and_eq_true, Bool.or_eq_true, decide_eq_true_eq, List.length_eq_zero_iff] at h
  obtain ⟨⟨⟨⟨h1, h2⟩, h3⟩, h4⟩, _⟩ := h
  exact ⟨by rcases h1 with (h1 | h1) | h1 <;> simp [h1], h2, h3, by rcases h4 with (h4 | h4) | h4 <;> simp [h4]⟩

theorem shape_text {vn : Int} {vs : List Int} {vK : List (List Int)} {n : Nat} (h : shapeB 3 vn vs vK n = true) : textB vs = true := by
  simp [shapeB] at h
  exact h.2

theorem textB_byt {xs : List Int} (h : textB xs = true) : (∀ x ∈ xs, Byt x) ∧ xs.length ≤ 20 := by
  simp only [textB, Bool.and_eq_true, decide_eq_true_eq, List.all_eq_true] at h
  refine ⟨fun x hx => ?_, h.1⟩
  have := h.2 x hx
  simp only [chrB, Bool.and_eq_true, decide_eq_true_eq] at this
  unfold Byt
  omega

theorem shape_mapB {vn : Int} {vs : List Int} {vK : List (List Int)} {n : Nat} (h : shapeB 5 vn vs vK n = true) : vK.length = n ∧ ascB vK = true := by
  simp [shapeB] at h
  exact h.2

theorem step_name {ks : List (List Int)} {i : Nat} (h : stepB ks i = true) : (∀ x ∈ ks.getD i [], Byt x) ∧ (ks.getD i []).length ≤ 1000 := by
  simp only [stepB, Bool.and_eq_true] at h
  have h1 := h.1
  simp only [nameB, Bool.and_eq_true, decide_eq_true_eq, List.all_eq_true] at h1
  refine ⟨fun x hx => ?_, by omega⟩
  have := h1.2 x hx
  simp only [letB, Bool.and_eq_true, decide_eq_true_eq] at this
  unfold Byt
  omega

theorem parts_kid {d : Nat} {vk vn : Int} {vs : List Int} {vK : List (List Int)} {vL : List (Vl d)} (h : partsV (d + 1) (vk, vn, vs, vK, vL) ≤ 40) : ∀ i (hi : i < vL.length), partsV d vL[i] ≤ 40 := by
  intro i hi
  rw [parts_succ] at h
  have h1 := pre_succ (partsV d) vL i hi
  have h2 := pre_le (partsV d) vL (i + 1)
  have h3 := pre_all (partsV d) vL
  omega

theorem parts_many {d : Nat} {vk vn : Int} {vs : List Int} {vK : List (List Int)} {vL : List (Vl (d + 1))} (h : partsV (d + 1 + 1) (vk, vn, vs, vK, vL) ≤ 40) : vL.length ≤ 40 := by
  have hk : ∀ k, k ≤ vL.length → k ≤ pre (partsV (d + 1)) vL k := by
    intro k
    induction k with
    | zero => intro _; exact Nat.zero_le _
    | succ k ih =>
      intro hk
      have h1 := pre_succ (partsV (d + 1)) vL k (by omega)
      have h2 := parts_pos d vL[k]
      have h3 := ih (by omega)
      omega
  rw [parts_succ] at h
  have := hk vL.length (Nat.le_refl _)
  omega

theorem valueOf_succ (d : Nat) (ih : ValAt d) : ValAt (d + 1) := by
  intro N p v deep w hp hN hg hn
  obtain ⟨vk, vn, vs, vK, vL⟩ := v
  obtain ⟨_, hsh, hgk⟩ := (good_succ _ _ _ _ _ _ _).1 hg
  obtain ⟨z1, z2, z3, z4⟩ := shape_zero hsh
  have hkid := parts_kid hn
  have hlen : vL.length ≤ 40 := by
    cases d with
    | zero =>
      cases vL with
      | nil => simp
      | cons x r => have := hgk 0 (by simp); exact absurd this (by simp [goodB])
    | succ d => exact parts_many hn
  rcases hp with ⟨hk, rfl⟩ | ⟨hk, rfl⟩ | ⟨hk, rfl⟩ | ⟨hk, rfl⟩ | ⟨hk, rfl⟩ | ⟨hk, a, cap, rfl, hc⟩ | ⟨hk, b, ps, rfl, hR, hm, hc⟩ <;> simp only at hk <;> subst hk
  · have e1 : vn = 0 := by omega
    have e2 : vs = [] := by simpa using z2
    have e3 : vK = [] := by simpa using z3
    have e4 : vL = [] := by simpa using z4
    subst e1 e2 e3 e4
    refine (valueOf_nullPart w).mono ?_
    rintro e w' ⟨rfl, hb⟩
    exact ⟨_, _, _, _, _, rfl, [], (VOwn_succ _ _ _ _ _).2 ⟨rfl, rfl, [], [], [], tNil _, kNil _, lNil _ _, rfl, by simp⟩, by simp, hb⟩
  · have e1 : vn = 0 := by omega
    have e2 : vs = [] := by simpa using z2
    have e3 : vK = [] := by simpa using z3
    have e4 : vL = [] := by simpa using z4
    subst e1 e2 e3 e4
    refine (valueOf_unknownPart w).mono ?_
    rintro e w' ⟨rfl, hb⟩
    exact ⟨_, _, _, _, _, rfl, [], (VOwn_succ _ _ _ _ _).2 ⟨rfl, rfl, [], [], [], tNil _, kNil _, lNil _ _, rfl, by simp⟩, by simp, hb⟩
  · have e2 : vs = [] := by simpa using z2
    have e3 : vK = [] := by simpa using z3
    have e4 : vL = [] := by simpa using z4
    subst e2 e3 e4
    refine (valueOf_boolPart vn w).mono ?_
    rintro e w' ⟨rfl, hb⟩
    exact ⟨_, _, _, _, _, rfl, [], (VOwn_succ _ _ _ _ _).2 ⟨rfl, rfl, [], [], [], tNil _, kNil _, lNil _ _, rfl, by simp⟩, by simp, hb⟩
  · have e2 : vs = [] := by simpa using z2
    have e3 : vK = [] := by simpa using z3
    have e4 : vL = [] := by simpa using z4
    subst e2 e3 e4
    refine (valueOf_intPart vn w).mono ?_
    rintro e w' ⟨rfl, hb⟩
    exact ⟨_, _, _, _, _, rfl, [], (VOwn_succ _ _ _ _ _).2 ⟨rfl, rfl, [], [], [], tNil _, kNil _, lNil _ _, rfl, by simp⟩, by simp, hb⟩
  · have e1 : vn = 0 := by omega
    have e3 : vK = [] := by simpa using z3
    have e4 : vL = [] := by simpa using z4
    subst e1 e3 e4
    obtain ⟨hx, hl⟩ := textB_byt (shape_text hsh)
    refine (valueOf_textPart vs hx (by omega) w).mono ?_
    rintro e w' ⟨u, B, rfl, hT, hB, hb⟩
    have hnd : B.Nodup := by
      rcases hT.2 with ⟨_, rfl⟩ | ⟨g, cap, _, rfl⟩ <;> simp
    exact ⟨_, _, _, _, _, rfl, B, (VOwn_succ _ _ _ _ _).2 ⟨rfl, rfl, B, [], [], hT, kNil _, lNil _ _, by simp, hnd⟩, hB, hb⟩
  · have e1 : vn = 0 := by omega
    have e2 : vs = [] := by simpa using z2
    have e3 : vK = [] := by simpa using z3
    subst e1 e2 e3
    refine (valueOf_listPart d ih N a cap vL (deep + 1) w ⟨a, cap, rfl, hc⟩ hN hlen (fun i hi => ⟨hgk i hi, hkid i hi⟩)).mono ?_
    rintro e w' ⟨u, rfl, B, hL, hB, hb⟩
    exact ⟨_, _, _, _, _, rfl, B, (VOwn_succ _ _ _ _ _).2 ⟨rfl, rfl, [], [], B, tNil _, kNil _, hL, by simp, hL.nodup⟩, hB, hb⟩
  · have e1 : vn = 0 := by omega
    have e2 : vs = [] := by simpa using z2
    subst e1 e2
    obtain ⟨hkl, hasc⟩ := shape_mapB hsh
    have hst : ∀ i, i < vL.length → stepB vK i = true := by
      intro i hi
      rw [ascB, List.all_eq_true] at hasc
      exact hasc i (List.mem_range.2 (by omega))
    refine (valueOf_mapPart d ih N b ps vL vK w hR (hm.mono (n' := 128) (by omega)) hkl (step_up hst) (fun i hi => ⟨(step_name (hst i hi)).1, by have := (step_name (hst i hi)).2; omega⟩) hc hN (by omega) (fun i hi => ⟨_, hgk i hi, hkid i hi⟩)).mono ?_
    rintro e w' ⟨uK, uL, rfl, Bk, Bl, hK, hL, hB, hnd, hb⟩
    exact ⟨_, _, _, _, _, rfl, Bk ++ Bl, (VOwn_succ _ _ _ _ _).2 ⟨rfl, rfl, [], Bk, Bl, tNil _, hK, hL, by simp, hnd⟩, hB, hb⟩

theorem valueOf_any (d : Nat) : ValAt d := by
  induction d with
  | zero => intro N p v deep w hp; exact hp.elim
  | succ d ih => exact valueOf_succ d ih
end Go.Proofs.Ytbeekbkambkgoaa
