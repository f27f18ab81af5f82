/-
  Texts that a law leans on, one behind the other; no statement is proved here.
-/
import Derived.Test.YtenfnbnhdmkhkaaPk36
import Derived.Test.YtenfnbnhdmkhkaaPk32
import Derived.Shelf.SlMaps.Copy
import Derived.Test.YtenfnbnhdmkhkaaPk26
import Derived.Test.YtenfnbnhdmkhkaaPk33
/-
  What FnMerges asks of two maps that were merged: plain mathematics.
-/
namespace Go.Proofs.Ytenfnbnhdmkhkaa
open Go.RowKit Go.Shelf
set_option linter.unusedVariables false
set_option linter.unusedSimpArgs false

theorem len_sub : ∀ {K M : List (List Int)}, K.Nodup → (∀ x ∈ K, x ∈ M) → K.length ≤ M.length
  | [], _, _, _ => Nat.zero_le _
  | x :: K, M, hn, hs => by
    obtain ⟨h1, h2⟩ := List.nodup_cons.1 hn
    have hx := hs x (by simp)
    have := len_sub (M := M.erase x) h2 (fun y hy => (List.mem_erase_of_ne (fun e => h1 (by rw [← e]; exact hy))).2 (hs y (by simp [hy])))
    rw [List.length_erase_of_mem hx] at this
    have := List.length_pos_of_mem hx
    simp
    omega

theorem up_nodup {K : List (List Int)} (hu : ∀ i, i < K.length → upB K i = true) : K.Nodup := by
  refine List.pairwise_iff_getElem.2 fun i j hi hj hij => ?_
  have := asc_ltU hu j hj i hij
  rw [getD_eq _ _ _ hi, getD_eq _ _ _ hj] at this
  exact ne_of_lt this

/-- A key that stands there already, with just this. -/
theorem set_same {d n : Nat} {o : Vl (d + 1)} {key : List Int} {x : Vl d} (hs : SInv d o n) (hy : ∀ y ∈ key, Byt y) (h : HasK d o key x) (h5 : o.1 = 5 ∧ o.2.1 = 0 ∧ o.2.2.1 = []) : setV d o key x = o := by
  obtain ⟨vk, vn, vs, K, L⟩ := o
  obtain ⟨hKL, hn, hu, hb⟩ := hs
  obtain ⟨i, hi, h1, h2⟩ := h
  simp only at hKL hn hu hb hi h1 h2
  have hbt : ∀ i, i < K.length → ∀ x ∈ K.getD i [], Byt x := fun i hi => (hb i hi).1
  have g1 : ¬ i < posK K key := fun hlt => ne_of_lt (pos_lt K key i hlt) h1
  have g2 : ¬ skipK K key ≤ i := fun hge => ne_of_lt (skip_gt hu hbt hy hge (by omega)) h1.symm
  have hp : posK K key = i ∧ skipK K key = i + 1 := by
    rcases skipK_cases K key with ⟨e, _⟩ | ⟨e, _⟩ <;> omega
  have e1 : putL K key K key = K := by
    apply List.ext_getElem?
    intro j
    have hl := length_putL (ks := K) (key := key) (l := K) key rfl
    by_cases hj : j < K.length
    · have hj2 : j < (putL K key K key).length := by omega
      have e : (putL K key K key).getD j [] = K.getD j [] := by
        rcases Nat.lt_trichotomy j i with hlt | rfl | hgt
        · exact putL_lt _ _ rfl (by omega)
        · have := putL_at (ks := K) (key := key) (l := K) key [] rfl
          rw [hp.1] at this
          rw [this, h1]
        · obtain ⟨t, rfl⟩ : ∃ t, j = posK K key + 1 + t := ⟨j - posK K key - 1, by omega⟩
          rw [putL_gt _ _ rfl]
          congr 1
          omega
      rw [getD_eq _ _ _ hj2, getD_eq _ _ _ hj] at e
      rw [List.getElem?_eq_getElem hj2, List.getElem?_eq_getElem hj, e]
    · rw [List.getElem?_eq_none (by omega), List.getElem?_eq_none (by omega)]
  have e2 : putL K key L x = L := by
    apply List.ext_getElem?
    intro j
    have hl := length_putL (ks := K) (key := key) (l := L) x hKL.symm
    by_cases hj : j < L.length
    · have hj2 : j < (putL K key L x).length := by omega
      have e : (putL K key L x).getD j x = L.getD j x := by
        rcases Nat.lt_trichotomy j i with hlt | rfl | hgt
        · exact putL_lt _ _ hKL.symm (by omega)
        · have := putL_at (ks := K) (key := key) (l := L) x x hKL.symm
          rw [hp.1] at this
          rw [this, h2]
        · obtain ⟨t, rfl⟩ : ∃ t, j = posK K key + 1 + t := ⟨j - posK K key - 1, by omega⟩
          rw [putL_gt _ _ hKL.symm]
          congr 1
          omega
      rw [getD_eq _ _ _ hj2, getD_eq _ _ _ hj] at e
      rw [List.getElem?_eq_getElem hj2, List.getElem?_eq_getElem hj, e]
    · rw [List.getElem?_eq_none (by omega), List.getElem?_eq_none (by omega)]
  obtain ⟨f1, f2, f3⟩ := h5
  simp only at f1 f2 f3
  subst f1 f2 f3
  show ((5 : Int), (0 : Int), ([] : List Int), putL K key K key, putL K key L x) = (5, 0, [], K, L)
  rw [e1, e2]

/-- Entries that stand there already. -/
theorem mrg_again {d n : Nat} {o : Vl (d + 1)} {bK : List (List Int)} {bL : List (Vl d)} (hs : SInv d o n) (hKL : bK.length = bL.length) (hb : ∀ i, i < bK.length → ∀ x ∈ bK.getD i [], Byt x) (h : ∀ i (hi : i < bL.length), HasK d o (bK.getD i []) bL[i]) (h5 : o.1 = 5 ∧ o.2.1 = 0 ∧ o.2.2.1 = []) : ∀ i, i ≤ bL.length → mrgV d o ((bK.zip bL).take i) = o
  | 0, _ => rfl
  | i + 1, hi => by
    rw [mrgV_step hKL (show i < bL.length by omega), mrg_again hs hKL hb h h5 i (by omega)]
    exact set_same hs (hb i (by omega)) (h i (by omega)) h5
end Go.Proofs.Ytenfnbnhdmkhkaa
/-
  All that FnMerges asks of two values: plain mathematics.
-/
namespace Go.Proofs.Ytenfnbnhdmkhkaa
open Go.RowKit Go.Shelf
set_option linter.unusedVariables false
set_option linter.unusedSimpArgs false

/-- A good map bears no number and no text. -/
theorem ok_bare {d : Nat} {v : Vl (d + 1)} (h : okB (d + 1) v = true) (h5 : v.1 = 5) : v.2.1 = 0 ∧ v.2.2.1 = [] := by
  simp only [okB, goodB, shapeB, bareB, Bool.and_eq_true, Bool.or_eq_true, decide_eq_true_eq] at h
  obtain ⟨⟨_, ⟨⟨⟨⟨h1, h2⟩, _⟩, _⟩, _⟩, _⟩, _⟩ := h
  exact ⟨by omega, List.length_eq_zero_iff.1 (by omega)⟩
theorem mrg_form {d : Nat} : ∀ (es : List (List Int × Vl d)) (o : Vl (d + 1)), o.1 = 5 ∧ o.2.1 = 0 ∧ o.2.2.1 = [] → (mrgV d o es).1 = 5 ∧ (mrgV d o es).2.1 = 0 ∧ (mrgV d o es).2.2.1 = []
  | [], _, h => h
  | e :: es, o, _ => mrg_form es (setV d o e.1 e.2) ⟨rfl, rfl, rfl⟩

theorem ok_up {d : Nat} {v : Vl (d + 1)} (h : okB (d + 1) v = true) (h5 : v.1 = 5) : SInv d v 40 := by
  obtain ⟨k, vn, vs, K, L⟩ := v
  simp only at h5
  subst h5
  exact SInv.of_ok h

/-- The place of a key, by the keys' order. -/
theorem find_up {K : List (List Int)} (hu : ∀ i, i < K.length → upB K i = true) {i : Nat} (hi : i < K.length) {k : List Int} (hk : K.getD i [] = k) : findK K k = i :=
  findK_at hi (fun j hj => by rw [← hk]; exact ne_of_lt (asc_ltU hu i hi j hj)) hk

theorem has_sub {d : Nat} {o m : Vl (d + 1)} {n n' : Nat} (ho : SInv d o n) (hm : SInv d m n') (h : ∀ i (hi : i < o.2.2.2.2.length), ∃ z, HasK d m (o.2.2.2.1.getD i []) z) : o.2.2.2.1.length ≤ m.2.2.2.1.length := by
  refine len_sub (up_nodup ho.2.2.1) fun x hx => ?_
  obtain ⟨i, hi, rfl⟩ := List.getElem_of_mem hx
  obtain ⟨z, j, hj, h1, _⟩ := h i (by have := ho.1; omega)
  rw [getD_eq _ _ _ hi] at h1
  have hj' : j < m.2.2.2.1.length := by have := hm.1; omega
  rw [getD_eq _ _ _ hj'] at h1
  rw [← h1]
  exact List.getElem_mem hj'

/-- What a merged map is, held against the two. -/
structure Mgd (d : Nat) (a b m : Vl (d + 1)) : Prop where
  ok : okB (d + 1) m = true
  kind : m.1 = 5
  inv : SInv d m 40
  invA : SInv d a 40
  invB : SInv d b 40
  okA : okB (d + 1) a = true ∧ a.1 = 5
  okB' : okB (d + 1) b = true ∧ b.1 = 5
  lenA : a.2.2.2.1.length ≤ m.2.2.2.1.length
  lenB : b.2.2.2.1.length ≤ m.2.2.2.1.length
  again : mrgF d m b = true ∧ mrgA d m b = m
  find : ∀ i, i < m.2.2.2.2.length → findK m.2.2.2.1 (m.2.2.2.1.getD i []) = i
  from' : ∀ i (hi : i < m.2.2.2.2.length), (∃ (j : Nat) (hj : j < b.2.2.2.2.length), findK b.2.2.2.1 (m.2.2.2.1.getD i []) = j ∧ b.2.2.2.2[j] = m.2.2.2.2[i]) ∨
    (findK b.2.2.2.1 (m.2.2.2.1.getD i []) = -1 ∧ ∃ (j : Nat) (hj : j < a.2.2.2.2.length), findK a.2.2.2.1 (m.2.2.2.1.getD i []) = j ∧ a.2.2.2.2[j] = m.2.2.2.2[i])

theorem mgd_of {d : Nat} {a b : Vl (d + 1)} (hF : mrgF d a b = true) : Mgd d a b (mrgA d a b) := by
  have hc : (okB (d + 1) a = true ∧ a.1 = 5) ∧ (okB (d + 1) b = true ∧ b.1 = 5) ∧ okB (d + 1) (mrgV d a (entV d b)) = true := by unfold mrgF at hF; exact of_decide_eq_true hF
  obtain ⟨hA, hB, hM⟩ := hc
  rw [(mrgA_yes ⟨hA, hB, hM⟩).1]
  have iA := ok_up hA.1 hA.2
  have iB := ok_up hB.1 hB.2
  have hform := mrg_form (entV d b) a ⟨hA.2, ok_bare hA.1 hA.2⟩
  have iM := ok_up hM hform.1
  have hH := fun k z => mrg_has (k := k) (z := z) iA iB.1 iB.2.2.1 iB.2.2.2 b.2.2.2.2.length (Nat.le_refl _)
  have hall : (b.2.2.2.1.zip b.2.2.2.2).take b.2.2.2.2.length = entV d b := List.take_of_length_le (by rw [List.length_zip]; exact Nat.min_le_right _ _)
  rw [hall] at hH
  generalize hm : mrgV d a (entV d b) = m at *
  have hBm : ∀ i (hi : i < b.2.2.2.2.length), HasK d m (b.2.2.2.1.getD i []) b.2.2.2.2[i] := fun i hi => (hH _ _).2 (.inl ⟨i, hi, rfl, getD_eq _ _ _ hi⟩)
  have hAm : ∀ i (hi : i < a.2.2.2.2.length), ∃ z, HasK d m (a.2.2.2.1.getD i []) z := by
    intro i hi
    by_cases h : ∃ j, j < b.2.2.2.2.length ∧ b.2.2.2.1.getD j [] = a.2.2.2.1.getD i []
    · obtain ⟨j, hj, he⟩ := h
      exact ⟨b.2.2.2.2[j], (hH _ _).2 (.inl ⟨j, hj, he, getD_eq _ _ _ hj⟩)⟩
    · exact ⟨a.2.2.2.2[i], (hH _ _).2 (.inr ⟨fun j hj e => h ⟨j, hj, e⟩, i, hi, rfl, getD_eq _ _ _ hi⟩)⟩
  have hag : mrgV d m (entV d b) = m := by
    have := mrg_again iM iB.1 (fun i hi => (iB.2.2.2 i hi).1) hBm hform b.2.2.2.2.length (Nat.le_refl _)
    rw [hall] at this
    exact this
  have hY := mrgA_yes (a := m) (b := b) ⟨⟨hM, hform.1⟩, hB, by rw [hag]; exact hM⟩
  have lM := iM.1
  refine ⟨hM, hform.1, iM, iA, iB, hA, hB, has_sub iA iM hAm, has_sub iB iM (fun i hi => ⟨_, hBm i hi⟩), ⟨hY.2, by rw [hY.1, hag]⟩, fun i hi => find_up iM.2.2.1 (by omega) rfl, fun i hi => ?_⟩
  have hi' : i < m.2.2.2.1.length := by omega
  rcases (hH (m.2.2.2.1.getD i []) m.2.2.2.2[i]).1 ⟨i, hi, rfl, getD_eq _ _ _ hi⟩ with ⟨j, hj, h1, h2⟩ | ⟨h1, j, hj, h2, h3⟩
  · refine .inl ⟨j, hj, find_up iB.2.2.1 (by have := iB.1; omega) h1, ?_⟩
    rw [getD_eq _ _ _ hj] at h2
    exact h2
  · refine .inr ⟨findK_no (fun q hq => h1 q (by have := iB.1; omega)), j, hj, find_up iA.2.2.1 (by have := iA.1; omega) h2, ?_⟩
    rw [getD_eq _ _ _ hj] at h3
    exact h3
end Go.Proofs.Ytenfnbnhdmkhkaa
/-
  maps.Copy over the maps of parts: the shelf's contract at this program, in plain words; no statement is proved here.
-/
namespace Go.Proofs.Ytenfnbnhdmkhkaa
open Go.RowKit Go.Shelf
set_option linter.unusedVariables false

def copyRen : Go.Shelf.Ren := ⟨fun | 5 => 36 | n => n, fun | 23 => 58 | 24 => 58 | 26 => 9 | 27 => 49 | n => n, fun n => n⟩

set_option maxRecDepth 100000 in
theorem copyLays : Go.Proofs.SlLaysX.n5 Try.prog copyRen := {
  mixed := by kernel_rfl
  f5 := ⟨Try.f36.name, by kernel_rfl, Try.func36.trans (congrArg some (by kernel_rfl))⟩
  t0 := Try.underlying0
  a0 := Try.isAgg0
  z0 := Try.sizeOf0
  v0 := Try.zeroValue0
  t4 := Try.underlying4
  a4 := Try.isAgg4
  z4 := Try.sizeOf4
  v4 := Try.zeroValue4
  t23 := Try.underlying58
  a23 := Try.isAgg58
  z23 := Try.sizeOf58
  v23 := Try.zeroValue58
  t24 := Try.underlying58
  a24 := Try.isAgg58
  z24 := Try.sizeOf58
  v24 := Try.zeroValue58
  a26 := Try.isAgg9
  z26 := Try.sizeOf9
  a27 := Try.isAgg49
  z27 := Try.sizeOf49 }

/-- maps.Copy of one map of parts into another. -/
theorem copy_parts (bd bs nd ns : Nat) (Dd Ds : DataW Value) (w : World) (hd : w.ownsMap Try.prog 9 tokR bd nd Dd) (hs : w.ownsMap Try.prog 9 tokR bs ns Ds) (hne : bd ≠ bs) (hroom : nd + Maps.size Ds ≤ maxLen) :
    Calls Try.prog 36 #[.map (some bd), .map (some bs)] w fun e w' => e = .returned (.tuple #[]) ∧ w'.ownsMap Try.prog 9 tokR bd (nd + Maps.size Ds) (Lib.mergeD Dd Ds) ∧ w.grownBy w' (some bd) :=
  (AnyX.maps_Copy copyLays (Maps.string_keyed Try.underlying9) tokR bd bs nd ns Dd Ds w hd hs hne hroom).mono fun e w' h => ⟨h.1, h.2.1, h.2.2.2⟩

/-- valueOf of a map of parts into which another's entries were laid. -/
theorem merge_value {Ra Rb : Nat → Prop} {w w4 : World} {d b : Nat} {vn un : Int} {vs us : List Int} {aK bK : List (List Int)} {aL bL : List (Vl d)} {psB : List Value} {D0 : DataW Value} (hp : PSeg Ra w (d + 1) (.iface 60 (.agg #[.map (some b)])) (5, vn, vs, aK, aL)) (hok : okB (d + 1) (5, vn, vs, aK, aL) = true) (hokb : okB (d + 1) (5, un, us, bK, bL) = true) (ht : w.grownBy w4 (some b)) (hR : ∀ c, Ra c → c < w.heap.size) (hRb : ∀ c, Rb c → c < w.heap.size ∧ c ≠ b)
    (hm0 : w.ownsMap Try.prog 9 tokR b 64 D0) (hm4 : w4.ownsMap Try.prog 9 tokR b (64 + Maps.size (mapD bK psB bL.length)) (Lib.mergeD D0 (mapD bK psB bL.length))) (hcb : ∀ i (h : i < bL.length), PSeg Rb w d (psB.getD i .nilIface) bL[i]) :
    Calls Try.prog 34 #[.iface 60 (.agg #[.map (some b)])] w4 (MapEnd d (mrgV d (5, vn, vs, aK, aL) (bK.zip bL)).2.2.2.2 (mrgV d (5, vn, vs, aK, aL) (bK.zip bL)).2.2.2.1 w4) := by
  have hsA := SInv.of_ok hok
  obtain ⟨hKL, hlen, hup, hbt, hkb⟩ := ok_keys hok
  obtain ⟨bKL, blen, bup, bbt, bkb⟩ := ok_keys hokb
  have hok' := hok
  have hokb' := hokb
  simp only [okB, Bool.and_eq_true, decide_eq_true_eq] at hok' hokb'
  obtain ⟨ps, hRa, hm, hc⟩ := avoid_allG hp hok'.1 ht hR
  have hgk := ((good_succ _ _ _ _ _ _ _).1 hok'.1).2.2
  have hkid := parts_kid hok'.2
  have bgk := ((good_succ _ _ _ _ _ _ _).1 hokb'.1).2.2
  have bkid := parts_kid hokb'.2
  have hz4 := ht.size
  have hblt := hR b hRa
  have hG : GInv (fun c => c < w4.heap.size) w4 d (5, vn, vs, aK, aL) (padP ps aK.length) := by
    refine ⟨length_padP _ _, fun i hi => ?_⟩
    have hi' : i < aL.length := hi
    rw [padP_at ps (by omega)]
    exact ⟨PSeg.carry (fun c h => by have := hR c h; omega) (fun c _ => rfl) d (hc i hi'), _, hgk i hi', hkid i hi'⟩
  have hps : ∀ i (h : i < bL.length), PSeg (fun c => c < w4.heap.size) w4 d (psB.getD i .nilIface) bL[i] ∧ ∃ deep, goodB d bL[i] deep = true ∧ partsV d bL[i] ≤ 40 := fun i hi =>
    ⟨PSeg.carry (fun c h => by have := hRb c h; omega) (fun c h => ht.block c (hRb c h).1 (by have := (hRb c h).2; simpa using this)) d (hcb i hi), _, bgk i hi, bkid i hi⟩
  have hbb : ∀ i, i < bK.length → (∀ x ∈ bK.getD i [], Byt x) ∧ (bK.getD i []).length ≤ 1048576 := fun i hi => ⟨bbt i hi, Nat.le_trans (bkb i hi) (by omega)⟩
  obtain ⟨P', hG', hD'⟩ := merge_fold hsA hG bKL hbb hps bL.length (Nat.le_refl _)
  have hS' := SInv.all hsA bKL hbb bL.length (Nat.le_refl _)
  have htk : (bK.zip bL).take bL.length = bK.zip bL := List.take_of_length_le (by rw [List.length_zip]; omega)
  rw [htk] at hG' hD' hS'
  rw [owns_same hm0 hm, ← hKL, ent_pad, mapD_listU _ _ _ (fun i hi => bup i (by omega))] at hm4
  have hD2 : Lib.mergeD (DataW.map (entF aK (padP ps aK.length) aK.length)) (DataW.map (entF bK psB bL.length)) = _ := hD'
  rw [hD2, size_ent] at hm4
  generalize mrgV d (5, vn, vs, aK, aL) (bK.zip bL) = o at *
  obtain ⟨ok_, on_, os_, oK, oL⟩ := o
  obtain ⟨gP, gall⟩ := hG'
  obtain ⟨sKL, sn, su, sb⟩ := hS'
  simp only at gP gall sKL sn su sb hm4
  refine valueOf_mapPart d (valueOf_any d) w4.heap.size b P' oL oK w4 (by omega) ?_ sKL (fun i hi => su i (by omega)) (fun i hi => sb i (by omega)) (fun i hi => (gall i hi).1) (Nat.le_refl _) (by omega) (fun i hi => (gall i hi).2)
  rw [mapD_listU _ _ _ (fun i hi => su i (by omega)), ← sKL]
  exact hm4.mono (by omega)
end Go.Proofs.Ytenfnbnhdmkhkaa
/-
  ValOk of the program: it tells whether a value may be, and turns nothing old; no statement is proved here.
-/
namespace Go.Proofs.Ytenfnbnhdmkhkaa
open Go.RowKit
set_option linter.unusedVariables false
set_option linter.unusedSimpArgs false

set_option maxHeartbeats 1600000 in
theorem impl_ValOk_any (d N : Nat) (c0 c1 c2 c3 c4 : Value) (v : Vl d) (w : World) (hv : VSeg (fun b => b < N) w d (c0, c1, c2, c3, c4) v) (hN : N ≤ w.heap.size) :
    Calls Try.prog 17 #[.agg #[c0, c1, c2, c3, c4]] w fun e w' => e = .returned (.bool (okB d v)) ∧ Below w.heap.size w w' := by
  have b0 : ∀ o : Obj, Below w.heap.size w (w.alloc o) := fun o => (Below.refl _ _).alloc (Nat.le_refl _) o
  have HC : Hid (∀ o : Obj, Calls Try.prog 26 #[.agg #[c0, c1, c2, c3, c4]] (w.alloc o) (PartEnd d v (w.alloc o))) := fun o =>
    partOf_any d N c0 c1 c2 c3 c4 v (w.alloc o) (VSeg.agree (agree_below ((b0 o).mono hN)) d hv) (by have := (b0 o).size; omega)
  have Hb := hide' b0
  clear b0
  go_enter Try.func17, Try.ntmps17
  go_wp2_with fail
  refine (HC.out _).mono ?_
  rintro e w1 ⟨b1, hcase⟩
  have B1 := Below.on (Hb.out _) b1
  rcases hcase with ⟨p, rfl, h1, _⟩ | ⟨rfl, h1⟩
  · have H1 := hide' h1
    clear b1 h1
    go_wp2
    go_ret
    exact ⟨ret_bool H1.out.symm, B1⟩
  · have H1 := hide' h1
    clear b1 h1
    go_wp2
    go_ret
    exact ⟨ret_bool H1.out.symm, B1⟩
end Go.Proofs.Ytenfnbnhdmkhkaa
/-
  impl.ValSet answers as setA and setF say, whatever it is handed, on its own memory; no statement is proved here.
-/
namespace Go.Proofs.Ytenfnbnhdmkhkaa
open Go.RowKit Go.Shelf
set_option linter.unusedVariables false
set_option linter.unusedSimpArgs false

theorem boxes3 (w : World) (o1 o2 o3 : Obj) : (((w.alloc o1).alloc o2).alloc o3).heap[w.heap.size]? = some o1 ∧ (((w.alloc o1).alloc o2).alloc o3).heap[w.heap.size + 1]? = some o2 ∧ (((w.alloc o1).alloc o2).alloc o3).heap[w.heap.size + 1 + 1]? = some o3 ∧ (((w.alloc o1).alloc o2).alloc o3).heap.size = w.heap.size + 3 ∧ Below w.heap.size w (((w.alloc o1).alloc o2).alloc o3) := by
  have n1 := (MapKept.heap_alloc w o1).1
  have n2 := (MapKept.heap_alloc (w.alloc o1) o2).1
  have n3 := (MapKept.heap_alloc ((w.alloc o1).alloc o2) o3).1
  simp only [World.size_alloc] at n2 n3
  have k2 : ∀ b, b < w.heap.size + 1 → ((w.alloc o1).alloc o2).heap[b]? = (w.alloc o1).heap[b]? := fun b hb => Below.heap_alloc _ _ _ (by simpa using hb)
  have k3 : ∀ b, b < w.heap.size + 2 → (((w.alloc o1).alloc o2).alloc o3).heap[b]? = ((w.alloc o1).alloc o2).heap[b]? := fun b hb => Below.heap_alloc _ _ _ (by simp; omega)
  exact ⟨(k3 _ (by omega)).trans ((k2 _ (by omega)).trans n1), (k3 _ (by omega)).trans n2, n3, by simp, (((Below.refl _ _).alloc (Nat.le_refl _) o1).alloc (by simp) o2).alloc (by simp; omega) o3⟩

/-- The end with nothing. -/
theorem ans_nil {w wz : World} {G d : Nat} {a : Vl (d + 1)} {bb : Bool} (ha : a = vNil d ∧ bb = false) (hB : Below w.heap.size w wz) (hG : w.heap.size ≤ G) : Ans d a bb w (.returned (.tuple #[.agg #[.int .i64 0, .int .i64 0, .slice none 0 0, .slice none 0 0, .slice none 0 0], .bool false])) (set5 wz G 0 (.int .i64 0) (.int .i64 0) (.slice none 0 0) (.slice none 0 0) (.slice none 0 0)) := by
  obtain ⟨rfl, rfl⟩ := ha
  have hB5 := set5_grown wz G 0 (.int .i64 0) (.int .i64 0) (.slice none 0 0) (.slice none 0 0) (.slice none 0 0)
  exact ⟨_, _, _, _, _, rfl, [], own_vNil d _, by simp, hB.grown hB5 hB.size (by intro j hj; simp at hj; omega)⟩

/-- The end with a value. -/
theorem ans_val {w wz : World} {G d : Nat} {a : Vl (d + 1)} {bb b2 : Bool} {v : Vl (d + 1)} (ha : a = v ∧ bb = b2) {B : List Nat} {u0 u1 u2 u3 u4 : Value} (hO : VOwn wz (d + 1) (u0, u1, u2, u3, u4) v B) (hBb : ∀ b ∈ B, w.heap.size ≤ b ∧ b < wz.heap.size ∧ b ≠ G) (hB : Below w.heap.size w wz) (hG : w.heap.size ≤ G) : Ans d a bb w (.returned (.tuple #[.agg #[u0, u1, u2, u3, u4], .bool b2])) (set5 wz G 0 u0 u1 u2 u3 u4) := by
  obtain ⟨rfl, rfl⟩ := ha
  have hB5 := set5_grown wz G 0 u0 u1 u2 u3 u4
  have hsz := set5_size wz G 0 u0 u1 u2 u3 u4
  refine ⟨_, _, _, _, _, rfl, B, VOwn.agree (d + 1) hO fun b hb => hB5.block b (hBb b hb).2.1 (by have := (hBb b hb).2.2; simp; exact this), fun b hb => ?_, hB.grown hB5 hB.size (by intro j hj; simp at hj; omega)⟩
  have := hBb b hb
  exact ⟨this.1, by omega⟩

set_option maxHeartbeats 6400000 in
set_option maxRecDepth 100000 in
theorem impl_ValSet_any (d N : Nat) (c0 c1 c2 c3 c4 e0 e1 e2 e3 e4 : Value) (v : Vl (d + 1)) (x : Vl d) (ka : Option Addr) (kc : Nat) (key : List Int) (w : World) (hv : VSeg (fun b => b < N) w (d + 1) (c0, c1, c2, c3, c4) v) (hx : VSeg (fun b => b < N) w d (e0, e1, e2, e3, e4) x) (hN : N ≤ w.heap.size) (hS : Seg w ka key) (hSb : ∀ x, ka = some x → key ≠ [] → x.block < w.heap.size) (hkl : key.length ≤ 1048576) :
    Calls Try.prog 13 #[.agg #[c0, c1, c2, c3, c4], .slice ka key.length kc, .agg #[e0, e1, e2, e3, e4]] w (Ans d (setA d v key x) (setF d v key x) w) := by
  have HA := hide' (boxes3 w)
  have HP : Hid (∀ o o' o'' : Obj, Calls Try.prog 33 #[.agg #[c0, c1, c2, c3, c4]] (((w.alloc o).alloc o').alloc o'') (MapOf (d + 1) v (((w.alloc o).alloc o').alloc o''))) := fun o o' o'' => mapOf_any (d + 1) N c0 c1 c2 c3 c4 v _ (VSeg.agree (fun b (h : b < N) => (HA.out o o' o'').2.2.2.2.block b (by omega)) (d + 1) hv) (by have := (HA.out o o' o'').2.2.2.1; omega)
  have HX : Hid (∀ wx, Below w.heap.size w wx → Calls Try.prog 26 #[.agg #[e0, e1, e2, e3, e4]] wx (PartEnd d x wx)) := fun wx hb => partOf_any d N e0 e1 e2 e3 e4 x wx (VSeg.agree (fun b (h : b < N) => hb.block b (by omega)) d hx) (by have := hb.size; omega)
  have HSg : Hid (∀ wx, Below w.heap.size w wx → Seg wx ka key) := fun wx hb => hS.below hb hSb
  have HByt : Hid (∀ y ∈ key, Byt y) := hS.1
  have key9 : Hid (Go.keyOf Try.prog 9 (.string (strOf key)) = some (.string (u8s key))) := keyS key (by unfold maxLen; omega)
  obtain ⟨xk, xn, b2, m2, q2, b3, m3, q3, b4, m4, q4, rfl, rfl, rfl, rfl, rfl⟩ := VSeg.form d hx
  clear hv hx hS hSb
  go_enter Try.func13, Try.ntmps13
  go_wp2_with fail
  refine (HP.out _ _ _).mono ?_
  rintro e w1 ⟨b1, hcase⟩
  have h3 := HA.out (.cells #[c0, c1, c2, c3, c4] 26) (.cells #[.int .i64 xk, .int .i64 xn, .slice b2 m2 q2, .slice b3 m3 q3, .slice b4 m4 q4] 26) (.cells #[.int .i64 0, .int .i64 0, .slice none 0 0, .slice none 0 0, .slice none 0 0] 26)
  have hX1 := (b1.block (w.heap.size + 1) (by have := h3.2.2.2.1; omega)).trans h3.2.1
  have hR1 := (b1.block (w.heap.size + 1 + 1) (by have := h3.2.2.2.1; omega)).trans h3.2.2.1
  have hB1 : Below w.heap.size w w1 := h3.2.2.2.2.trans (b1.mono (by have := h3.2.2.2.1; omega))
  have hs1 : w.heap.size + 3 ≤ w1.heap.size := by have h1 := b1.size; have h2 := h3.2.2.2.1; omega
  clear h3 HP
  have HX1 := hide' hX1
  have HR1 := hide' hR1
  have HB1 := hide' hB1
  have HBA : Hid (∀ o, Below w.heap.size w (w1.alloc o)) := fun o => hB1.alloc hB1.size o
  obtain ⟨x0, x1, x2, x3, x4, _⟩ := box_later hX1
  rcases hcase with ⟨b, rfl, hok, hk, hp⟩ | ⟨rfl, hno⟩
  · have HPx := hide' (HX.out _ (HBA.out (.cells #[.map (some b)] 60)))
    have Hok := hide' hok
    have Hk := hide' hk
    have Hp := hide' hp
    have hbR := (mapPart_inv hp hk).1
    have hbz : w.heap.size + 3 ≤ b ∧ b < w1.heap.size := by have h := hbR; simp only [World.size_alloc] at h; omega
    clear hX1 hR1 hB1 b1 hok hk hp hbR HX
    go_wp2_with fail
    refine HPx.out.mono ?_
    rintro e w2 ⟨b2', hcase2⟩
    have hz2 : w1.heap.size + 1 ≤ w2.heap.size := by have h := b2'.size; simpa using h
    have HB2 := hide' (Below.on (HBA.out _) b2')
    have HR2 := hide' ((b2'.block (w.heap.size + 1 + 1) (by simp; omega)).trans ((Below.heap_alloc _ _ _ (by omega)).trans HR1.out))
    have hM2 : w2.heap[w1.heap.size]? = some (.cells #[.map (some b)] 60) := (b2'.block w1.heap.size (by simp)).trans (MapKept.heap_alloc w1 _).1
    have HM2 := hide' hM2
    have HP2 : Hid (PSeg (fun c => c < w1.heap.size) w2 (d + 1) (.iface 60 (.agg #[.map (some b)])) v) := PSeg.carry (fun c h => h.2) (fun c h => (b2'.block c (by simp; omega)).trans (Below.heap_alloc _ _ _ h.2)) (d + 1) Hp.out
    clear HPx x0 x1 x2 x3 x4
    rcases hcase2 with ⟨p, rfl, hokx, hpx⟩ | ⟨rfl, hnox⟩
    · have Hokx := hide' hokx
      have Hpx := hide' hpx
      obtain ⟨pt, py, rfl⟩ := hpx.shape
      obtain ⟨vk, vn, vs, vK, vL⟩ := v
      have hk5 : vk = 5 := Hk.out
      subst hk5
      have hok' := Hok.out
      simp only [okB, Bool.and_eq_true, decide_eq_true_eq] at hok'
      have HV := hide' (valueOf_any (d + 1) w1.heap.size _ _ 1 w2 HP2.out (by omega) hok'.1 hok'.2)
      have cm2 : w2.cell? ⟨w1.heap.size, 0, none⟩ = some (.map (some b)) := by rw [cell_of_row w2 _ 0 _ _ _ hM2]; rfl
      clear hokx hpx hM2 hok' b2'
      go_wp2_with fail
      refine HV.out.mono ?_
      rintro e w3 ⟨u0, u1, u2, u3, u4, rfl, B, hO, hB, hb3⟩
      obtain ⟨uk, un, s2, n2, r2, s3, n3, r3, s4, n4, r4, rfl, rfl, rfl, rfl, rfl⟩ := VOwn.form (d + 1) hO
      have hz3 := hb3.size
      have HB3 := hide' (Below.on HB2.out hb3)
      have HM3 := hide' ((hb3.block w1.heap.size (by omega)).trans HM2.out)
      have HR3 := hide' ((hb3.block (w.heap.size + 1 + 1) (by omega)).trans HR2.out)
      have HP3 : Hid (PSeg (fun c => c < w1.heap.size) w3 (d + 1) (.iface 60 (.agg #[.map (some b)])) (5, vn, vs, vK, vL)) := PSeg.carry (fun c h => h) (fun c h => hb3.block c (by omega)) (d + 1) HP2.out
      have HX3 : Hid (PSeg (fun c => w1.heap.size + 1 ≤ c ∧ c < w2.heap.size) w3 d (.iface pt py) x) := PSeg.carry (fun c h => by simp at h; exact h) (fun c h => hb3.block c h.2) d Hpx.out
      have HO := hide' hO
      have HB := hide' hB
      obtain ⟨_, ps, hm3, _⟩ := mapPart_inv HP3.out rfl
      simp only at hm3
      have HMo : Hid (∀ o, (w3.alloc o).ownsMap Try.prog 9 tokR b 64 (mapD vK ps vL.length)) := fun o => hm3.alloc o
      have cm3 : ∀ o, (w3.alloc o).cell? ⟨w1.heap.size, 0, none⟩ = some (.map (some b)) := fun o => by rw [cell_of_row (w3.alloc o) _ 0 _ _ _ ((Below.heap_alloc w3 o _ (by omega)).trans HM3.out)]; rfl
      have hcv : ∀ o, (convert 22 9 (.slice ka key.length kc)).run Try.prog (w3.alloc o) = .ok (.string (strOf key)) (w3.alloc o) := fun o => conv_seg kc (HSg.out _ (HB3.out.alloc HB3.out.size o))
      clear hO hB hb3 HV hm3 cm2
      generalize hsx : strOf key = sx at *
      generalize hD : mapD vK ps vL.length = D0 at *
      go_upto_region 7 with (at_mapUpdate; refine wpList_mapUpdate_own _ rfl _ _ _ 58 rfl 9 49 (Maps.string_keyed Try.underlying9) Try.underlying58 tokR b 64 D0 rfl (HMo.out _) (by unfold maxLen; omega) (.string sx) (.iface pt py) _ rfl rfl key9.out _ [] rfl ?_; intro w4 hm4 hg4)
      have hz4 : w3.heap.size + 1 ≤ w4.heap.size := by have h := hg4.size; simpa using h
      have HB4 : Hid (Below w.heap.size w w4) := (HB3.out.alloc HB3.out.size _).grown hg4 (HB3.out.alloc HB3.out.size _).size (by intro j hj; simp at hj; omega)
      have HM4 := hide' ((hg4.block w1.heap.size (by simp; omega) (by simp; omega)).trans ((Below.heap_alloc _ _ _ (by omega)).trans HM3.out))
      have HR4 := hide' ((hg4.block (w.heap.size + 1 + 1) (by simp; omega) (by simp; omega)).trans ((Below.heap_alloc _ _ _ (by omega)).trans HR3.out))
      have HW4 := hide' ((hg4.block w3.heap.size (by simp) (by simp; omega)).trans (MapKept.heap_alloc w3 (.cells #[.int .i64 uk, .int .i64 un, .slice s2 n2 r2, .slice s3 n3 r3, .slice s4 n4 r4] 26)).1)
      have HO4 : Hid (VOwn w4 (d + 1) (.int .i64 uk, .int .i64 un, .slice s2 n2 r2, .slice s3 n3 r3, .slice s4 n4 r4) (5, vn, vs, vK, vL) B) := VOwn.agree (d + 1) HO.out fun c hc => (hg4.block c (by have := HB.out c hc; simp; omega) (by have := HB.out c hc; simp; omega)).trans (Below.heap_alloc _ _ _ (HB.out c hc).2)
      have HV4 := hide' (set_value (R := fun c => c < w1.heap.size) (PSeg.carry (fun c h => h) (fun c (h : c < w1.heap.size) => Below.heap_alloc w3 (.cells #[.int .i64 uk, .int .i64 un, .slice s2 n2 r2, .slice s3 n3 r3, .slice s4 n4 r4] 26) c (by omega)) (d + 1) HP3.out) Hok.out hg4 (fun c h => by simp; omega) (HMo.out _) hm4 HByt.out hkl (PSeg.carry (fun c (h : w1.heap.size + 1 ≤ c ∧ c < w2.heap.size) => by omega) (fun c (h : w1.heap.size + 1 ≤ c ∧ c < w2.heap.size) => (hg4.block c (by simp; omega) (by simp; omega)).trans (Below.heap_alloc _ _ _ (by omega))) d HX3.out) Hokx.out)
      have cm4 : w4.cell? ⟨w1.heap.size, 0, none⟩ = some (.map (some b)) := by rw [cell_of_row w4 _ 0 _ _ _ HM4.out]; rfl
      clear hm4 hg4 HMo cm3 hcv HO HP3 HX3
      go_wp2_with fail
      refine HV4.out.mono ?_
      rintro e w5 ⟨uK, uL, rfl, Bk, Bl, hKo, hLo, hBb, hnd, hb5⟩
      have hO5 : VOwn w5 (d + 1) (.int .i64 5, .int .i64 0, .slice none 0 0, uK, uL) (setV d (5, vn, vs, vK, vL) key x) (Bk ++ Bl) := (VOwn_succ _ _ _ _ _).2 ⟨rfl, rfl, [], Bk, Bl, tNil _, hKo, hLo, by simp, hnd⟩
      obtain ⟨_, _, _, _, _, k3, k3n, k3c, k4, k4n, k4c, _, _, _, e5, e6⟩ := VOwn.form (d + 1) hO5
      subst e5
      subst e6
      have hz5 := hb5.size
      have bal : Below w5.heap.size w5 (w5.alloc (.cells #[.int .i64 5, .int .i64 0, .slice none 0 0, .slice k3 k3n k3c, .slice k4 k4n k4c] 26)) := (Below.refl _ _).alloc (Nat.le_refl _) _
      have HIk := hide' (impl_ValOk_any (d + 1) w5.heap.size _ _ _ _ _ _ _ (hO5.below bal) bal.size)
      have b45 := Below.on hb5 bal
      have HB5 := hide' (Below.on HB4.out b45)
      have HR5 := hide' ((b45.block (w.heap.size + 1 + 1) (by omega)).trans HR4.out)
      have HW5 := hide' ((b45.block w3.heap.size (by omega)).trans HW4.out)
      have HO5w := hide' (HO4.out.on b45)
      have HO5 := hide' (hO5.on bal)
      have HBb := hide' hBb
      have HN5 : Hid ((w5.alloc (.cells #[.int .i64 5, .int .i64 0, .slice none 0 0, .slice k3 k3n k3c, .slice k4 k4n k4c] 26)).heap[w5.heap.size]? = some (.cells #[.int .i64 5, .int .i64 0, .slice none 0 0, .slice k3 k3n k3c, .slice k4 k4n k4c] 26)) := (MapKept.heap_alloc w5 _).1
      clear HV4 cm4 hKo hLo hBb hnd hb5 hO5 bal b45
      go_wp2_with fail
      refine HIk.out.mono ?_
      rintro e w6 ⟨rfl, b6⟩
      have hz6 : w5.heap.size + 1 ≤ w6.heap.size := by have h := b6.size; simpa using h
      have HB6 := hide' (Below.on HB5.out b6)
      have HR6 := hide' ((b6.block (w.heap.size + 1 + 1) (by simp; omega)).trans HR5.out)
      have HW6 := hide' ((b6.block w3.heap.size (by simp; omega)).trans HW5.out)
      have HN6 := hide' ((b6.block w5.heap.size (by simp)).trans HN5.out)
      have HO6w := hide' (HO5w.out.on b6)
      have HO6 := hide' (HO5.out.on b6)
      clear HIk b6
      by_cases hfo : okB (d + 1) (setV d (5, vn, vs, vK, vL) key x) = true
      · rw [hfo]
        have HE := hide' (setA_yes (v := (5, vn, vs, vK, vL)) Hok.out rfl Hokx.out hfo)
        clear hfo
        obtain ⟨r0, r1, r2', r3', r4', rf⟩ := row5 HR6.out
        have f0 := rf 0
        have f1 := rf 1
        have f2 := rf 2
        have f3 := rf 3
        have f4 := rf 4
        obtain ⟨v0, v1, v2, v3, v4, _⟩ := row5 HN6.out
        clear rf
        go_wp2_with fail
        have hfin := row5 (set5_heap (j := 0) (.int .i64 5) (.int .i64 0) (.slice none 0 0) (.slice k3 k3n k3c) (.slice k4 k4n k4c) HR6.out)
        simp only [set5, Nat.zero_add] at hfin
        obtain ⟨o0, o1, o2, o3, o4, _⟩ := hfin
        refine bodyPost_ret (v := .tuple #[.agg #[.int .i64 5, .int .i64 0, .slice none 0 0, .slice k3 k3n k3c, .slice k4 k4n k4c], .bool true]) (by simp [results, Try.results13, go_sem, o0, o1, o2, o3, o4]) rfl ?_
        exact ans_val HE.out HO6.out (fun c hc => by have := HBb.out c hc; omega) HB6.out (by omega)
      · have hfo' : okB (d + 1) (setV d (5, vn, vs, vK, vL) key x) = false := by simpa using hfo
        rw [hfo']
        have HE := hide' (setA_back (v := (5, vn, vs, vK, vL)) Hok.out rfl Hokx.out hfo)
        clear hfo hfo'
        obtain ⟨r0, r1, r2', r3', r4', rf⟩ := row5 HR6.out
        have f0 := rf 0
        have f1 := rf 1
        have f2 := rf 2
        have f3 := rf 3
        have f4 := rf 4
        obtain ⟨v0, v1, v2, v3, v4, _⟩ := row5 HW6.out
        clear rf
        go_wp2_with fail
        have hfin := row5 (set5_heap (j := 0) (.int .i64 uk) (.int .i64 un) (.slice s2 n2 r2) (.slice s3 n3 r3) (.slice s4 n4 r4) HR6.out)
        simp only [set5, Nat.zero_add] at hfin
        obtain ⟨o0, o1, o2, o3, o4, _⟩ := hfin
        refine bodyPost_ret (v := .tuple #[.agg #[.int .i64 uk, .int .i64 un, .slice s2 n2 r2, .slice s3 n3 r3, .slice s4 n4 r4], .bool false]) (by simp [results, Try.results13, go_sem, o0, o1, o2, o3, o4]) rfl ?_
        exact ans_val HE.out HO6w.out (fun c hc => by have := HB.out c hc; omega) HB6.out (by omega)
    · have HE := hide' (setA_no (d := d) (v := v) (key := key) (x := x) (fun h => by rw [hnox] at h; simp at h))
      clear hnox hM2 b2'
      obtain ⟨r0, r1, r2', r3', r4', rf⟩ := row5 HR2.out
      have f0 := rf 0
      have f1 := rf 1
      have f2 := rf 2
      have f3 := rf 3
      have f4 := rf 4
      clear rf
      go_wp2_with fail
      have hfin := row5 (set5_heap (j := 0) (.int .i64 0) (.int .i64 0) (.slice none 0 0) (.slice none 0 0) (.slice none 0 0) HR2.out)
      simp only [set5, Nat.zero_add] at hfin
      obtain ⟨o0, o1, o2, o3, o4, _⟩ := hfin
      refine bodyPost_ret (v := .tuple #[.agg #[.int .i64 0, .int .i64 0, .slice none 0 0, .slice none 0 0, .slice none 0 0], .bool false]) (by simp [results, Try.results13, go_sem, o0, o1, o2, o3, o4]) rfl ?_
      exact ans_nil HE.out HB2.out (by omega)
  · have HPx := hide' (HX.out _ (HBA.out (.cells #[.map none] 60)))
    have HE := hide' (setA_no (d := d) (v := v) (key := key) (x := x) (fun h => hno ⟨h.1, h.2.1⟩))
    clear hX1 hR1 hB1 b1 hno HX
    go_wp2_with fail
    refine HPx.out.mono ?_
    rintro e w2 ⟨b2', hcase2⟩
    have hz2 : w1.heap.size + 1 ≤ w2.heap.size := by have h := b2'.size; simpa using h
    have HB2 := hide' (Below.on (HBA.out _) b2')
    have HR2 := hide' ((b2'.block (w.heap.size + 1 + 1) (by simp; omega)).trans ((Below.heap_alloc _ _ _ (by omega)).trans HR1.out))
    have hpf : ∃ p f, e = .returned (.tuple #[p, .bool f]) ∧ (p = .nilIface ∨ ∃ t y, p = .iface t y) := by
      rcases hcase2 with ⟨p, rfl, _, hpx⟩ | ⟨rfl, _⟩
      · obtain ⟨pt, py, rfl⟩ := hpx.shape
        exact ⟨_, _, rfl, .inr ⟨_, _, rfl⟩⟩
      · exact ⟨_, _, rfl, .inl rfl⟩
    obtain ⟨p, f, rfl, hpf⟩ := hpf
    clear HPx x0 x1 x2 x3 x4 hcase2 b2'
    rcases hpf with rfl | ⟨t, y, rfl⟩
    · obtain ⟨r0, r1, r2', r3', r4', rf⟩ := row5 HR2.out
      have f0 := rf 0
      have f1 := rf 1
      have f2 := rf 2
      have f3 := rf 3
      have f4 := rf 4
      clear rf
      go_wp2_with fail
      have hfin := row5 (set5_heap (j := 0) (.int .i64 0) (.int .i64 0) (.slice none 0 0) (.slice none 0 0) (.slice none 0 0) HR2.out)
      simp only [set5, Nat.zero_add] at hfin
      obtain ⟨o0, o1, o2, o3, o4, _⟩ := hfin
      refine bodyPost_ret (v := .tuple #[.agg #[.int .i64 0, .int .i64 0, .slice none 0 0, .slice none 0 0, .slice none 0 0], .bool false]) (by simp [results, Try.results13, go_sem, o0, o1, o2, o3, o4]) rfl ?_
      exact ans_nil HE.out HB2.out (by omega)
    · obtain ⟨r0, r1, r2', r3', r4', rf⟩ := row5 HR2.out
      have f0 := rf 0
      have f1 := rf 1
      have f2 := rf 2
      have f3 := rf 3
      have f4 := rf 4
      clear rf
      go_wp2_with fail
      have hfin := row5 (set5_heap (j := 0) (.int .i64 0) (.int .i64 0) (.slice none 0 0) (.slice none 0 0) (.slice none 0 0) HR2.out)
      simp only [set5, Nat.zero_add] at hfin
      obtain ⟨o0, o1, o2, o3, o4, _⟩ := hfin
      refine bodyPost_ret (v := .tuple #[.agg #[.int .i64 0, .int .i64 0, .slice none 0 0, .slice none 0 0, .slice none 0 0], .bool false]) (by simp [results, Try.results13, go_sem, o0, o1, o2, o3, o4]) rfl ?_
      exact ans_nil HE.out HB2.out (by omega)
end Go.Proofs.Ytenfnbnhdmkhkaa
