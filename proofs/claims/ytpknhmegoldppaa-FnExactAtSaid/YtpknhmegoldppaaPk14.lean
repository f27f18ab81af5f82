/-
  Texts that a law leans on, one behind the other; no statement is proved here.
-/
import Derived.Test.YtpknhmegoldppaaPk13
import Derived.Test.YtpknhmegoldppaaPk4
/-
  A key put into a map whose keys ascend: where it comes, and the datum of a map of parts behind it; no statement is proved here.
-/
namespace Go.Proofs.Ytpknhmegoldppaa
open Go.RowKit
set_option linter.unusedVariables false
set_option linter.unusedSimpArgs false

/-- How many keys are ahead of a key. -/
def posK (ks : List (List Int)) (key : List Int) : Nat := (ks.takeWhile fun k => ltS k key).length
/-- .. and how many of them and it. -/
def skipK (ks : List (List Int)) (key : List Int) : Nat := if posK ks key < ks.length ∧ ks.getD (posK ks key) [] = key then posK ks key + 1 else posK ks key

theorem posK_le (ks : List (List Int)) (key : List Int) : posK ks key ≤ ks.length := List.takeWhile_prefix _ |>.length_le
theorem skipK_le (ks : List (List Int)) (key : List Int) : skipK ks key ≤ ks.length := by
  unfold skipK
  have := posK_le ks key
  split <;> omega
theorem skipK_cases (ks : List (List Int)) (key : List Int) : (skipK ks key = posK ks key + 1 ∧ posK ks key < ks.length ∧ ks.getD (posK ks key) [] = key) ∨ (skipK ks key = posK ks key ∧ ¬ (posK ks key < ks.length ∧ ks.getD (posK ks key) [] = key)) := by
  unfold skipK
  by_cases h : posK ks key < ks.length ∧ ks.getD (posK ks key) [] = key
  · exact .inl ⟨if_pos h, h⟩
  · exact .inr ⟨if_neg h, h⟩

theorem pos_lt : ∀ (ks : List (List Int)) (key : List Int) (i : Nat), i < posK ks key → ltS (ks.getD i []) key = true
  | [], key, i, h => by simp [posK] at h
  | k :: ks, key, i, h => by
    by_cases hk : ltS k key = true
    · cases i with
      | zero => simpa using hk
      | succ i =>
        have : i < posK ks key := by simpa [posK, List.takeWhile_cons, hk] using h
        simpa using pos_lt ks key i this
    · simp [posK, List.takeWhile_cons, hk] at h
theorem pos_ge : ∀ (ks : List (List Int)) (key : List Int), posK ks key < ks.length → ltS (ks.getD (posK ks key) []) key = false
  | [], key, h => by simp at h
  | k :: ks, key, h => by
    by_cases hk : ltS k key = true
    · have e : posK (k :: ks) key = posK ks key + 1 := by simp [posK, List.takeWhile_cons, hk]
      rw [e] at h ⊢
      simpa using pos_ge ks key (by simpa using h)
    · have e : posK (k :: ks) key = 0 := by simp [posK, List.takeWhile_cons, hk]
      rw [e]
      simpa using hk

/-- Keys behind the place are behind the key. -/
theorem skip_gt {ks : List (List Int)} {key : List Int} (hu : ∀ i, i < ks.length → upB ks i = true) (hb : ∀ i, i < ks.length → ∀ x ∈ ks.getD i [], Byt x) (hy : ∀ y ∈ key, Byt y) {i : Nat} (h1 : skipK ks key ≤ i) (h2 : i < ks.length) : ltS key (ks.getD i []) = true := by
  have hp : posK ks key < ks.length := by
    rcases skipK_cases ks key with ⟨_, h, _⟩ | ⟨h, _⟩ <;> omega
  have hge := pos_ge ks key hp
  rcases skipK_cases ks key with ⟨hs, _, he⟩ | ⟨hs, hn⟩
  · have := asc_ltU hu i h2 (posK ks key) (by omega)
    rw [he] at this
    exact this
  · have hlt : ltS key (ks.getD (posK ks key) []) = true := by
      cases h : ltS key (ks.getD (posK ks key) []) with
      | true => rfl
      | false =>
        have e := less_total _ _ hge h
        exfalso
        apply hn
        refine ⟨hp, ?_⟩
        have h3 := strOf_eq (hb _ hp) hy
        rw [strOf_list, strOf_list, e] at h3
        simpa using h3.symm
    by_cases e : i = posK ks key
    · rw [e]; exact hlt
    · exact less_trans _ _ _ hlt (asc_ltU hu i h2 (posK ks key) (by omega))

/-- A list with x at the key's place. -/
def putL {α : Type} (ks : List (List Int)) (key : List Int) (l : List α) (x : α) : List α := l.take (posK ks key) ++ x :: l.drop (skipK ks key)
/-- The keys with the key. -/
def setK (ks : List (List Int)) (key : List Int) : List (List Int) := putL ks key ks key
/-- The map with x under the key. -/
def setV (d : Nat) (v : Vl (d + 1)) (key : List Int) (x : Vl d) : Vl (d + 1) := ((5 : Int), (0 : Int), ([] : List Int), setK v.2.2.2.1 key, putL v.2.2.2.1 key v.2.2.2.2 x)

theorem length_putL {α : Type} {ks : List (List Int)} {key : List Int} {l : List α} (x : α) (h : l.length = ks.length) : (putL ks key l x).length = posK ks key + 1 + (ks.length - skipK ks key) := by
  have := posK_le ks key
  simp [putL, h]
  omega
theorem putL_lt {α : Type} {ks : List (List Int)} {key : List Int} {l : List α} (x z : α) (h : l.length = ks.length) {j : Nat} (hj : j < posK ks key) : (putL ks key l x).getD j z = l.getD j z := by
  have := posK_le ks key
  simp only [putL, List.getD_eq_getElem?_getD]
  rw [List.getElem?_append_left (by simp; omega), List.getElem?_take_of_lt hj]
theorem putL_at {α : Type} {ks : List (List Int)} {key : List Int} {l : List α} (x z : α) (h : l.length = ks.length) : (putL ks key l x).getD (posK ks key) z = x := by
  have := posK_le ks key
  have hl : (l.take (posK ks key)).length = posK ks key := by simp; omega
  simp only [putL, List.getD_eq_getElem?_getD]
  rw [List.getElem?_append_right (by omega), hl]
  simp
theorem putL_gt {α : Type} {ks : List (List Int)} {key : List Int} {l : List α} (x z : α) (h : l.length = ks.length) {i : Nat} : (putL ks key l x).getD (posK ks key + 1 + i) z = l.getD (skipK ks key + i) z := by
  have := posK_le ks key
  have hl : (l.take (posK ks key)).length = posK ks key := by simp; omega
  simp only [putL, List.getD_eq_getElem?_getD]
  rw [List.getElem?_append_right (by omega), hl, show posK ks key + 1 + i - posK ks key = i + 1 by omega, List.getElem?_cons_succ, List.getElem?_drop]

theorem set_up {ks : List (List Int)} {key : List Int} (hu : ∀ i, i < ks.length → upB ks i = true) (hb : ∀ i, i < ks.length → ∀ x ∈ ks.getD i [], Byt x) (hy : ∀ y ∈ key, Byt y) : ∀ i, i < (setK ks key).length → upB (setK ks key) i = true := by
  intro i hi
  rw [setK, length_putL _ rfl] at hi
  have hpl := posK_le ks key
  have hsl := skipK_le ks key
  unfold upB
  rw [Bool.or_eq_true, beq_iff_eq]
  by_cases h0 : i = 0
  · exact .inl h0
  refine .inr ?_
  rcases Nat.lt_trichotomy i (posK ks key) with hlt | heq | hgt
  · rw [setK, putL_lt _ _ rfl hlt, putL_lt _ _ rfl (by omega)]
    have := hu i (by omega)
    simpa [upB, h0] using this
  · rw [heq, setK, putL_at _ _ rfl, putL_lt _ _ rfl (by omega)]
    exact pos_lt ks key _ (by omega)
  · obtain ⟨j, rfl⟩ : ∃ j, i = posK ks key + 1 + j := ⟨i - posK ks key - 1, by omega⟩
    rw [setK, putL_gt _ _ rfl]
    have hj : skipK ks key + j < ks.length := by omega
    cases j with
    | zero =>
      rw [show posK ks key + 1 + 0 - 1 = posK ks key by omega, putL_at _ _ rfl]
      exact skip_gt hu hb hy (Nat.le_refl _) hj
    | succ j =>
      rw [show posK ks key + 1 + (j + 1) - 1 = posK ks key + 1 + j by omega, putL_gt _ _ rfl]
      have := hu (skipK ks key + (j + 1)) hj
      have e : ¬ skipK ks key + (j + 1) = 0 := by omega
      simpa [upB, e] using this

theorem set_byt {ks : List (List Int)} {key : List Int} (hb : ∀ i, i < ks.length → ∀ x ∈ ks.getD i [], Byt x) (hy : ∀ y ∈ key, Byt y) (B : Nat) (hl : ∀ i, i < ks.length → (ks.getD i []).length ≤ B) (hk : key.length ≤ B) : ∀ i, i < (setK ks key).length → (∀ x ∈ (setK ks key).getD i [], Byt x) ∧ ((setK ks key).getD i []).length ≤ B := by
  intro i hi
  rw [setK, length_putL _ rfl] at hi
  have hpl := posK_le ks key
  have hsl := skipK_le ks key
  rcases Nat.lt_trichotomy i (posK ks key) with hlt | heq | hgt
  · rw [setK, putL_lt _ _ rfl hlt]
    exact ⟨hb i (by omega), hl i (by omega)⟩
  · rw [heq, setK, putL_at _ _ rfl]
    exact ⟨hy, hk⟩
  · obtain ⟨j, rfl⟩ : ∃ j, i = posK ks key + 1 + j := ⟨i - posK ks key - 1, by omega⟩
    rw [setK, putL_gt _ _ rfl]
    exact ⟨hb _ (by omega), hl _ (by omega)⟩

/-- The parts of a map as a list of as many. -/
def padP (ps : List Value) (n : Nat) : List Value := (List.range n).map fun i => ps.getD i .nilIface
theorem length_padP (ps : List Value) (n : Nat) : (padP ps n).length = n := by simp [padP]
theorem padP_at (ps : List Value) {n i : Nat} (h : i < n) : (padP ps n).getD i .nilIface = ps.getD i .nilIface := by simp [padP, List.getD_eq_getElem?_getD, h]
theorem ent_pad (ks : List (List Int)) (ps : List Value) (n : Nat) : entF ks ps n = entF ks (padP ps n) n := by
  unfold entF
  refine List.map_congr_left fun i hi => ?_
  rw [padP_at ps (List.mem_range.1 hi)]

theorem insert_mid {H : Type} (x : Go.Lit × DataW H) : ∀ (A B : List (Go.Lit × DataW H)), (∀ y ∈ A, x.1.before y.1 = false) → (∀ y ∈ B, x.1.before y.1 = true) → DataW.insert x (A ++ B) = A ++ x :: B
  | [], [], _, _ => rfl
  | [], y :: r, _, h => by
    have h1 := h y (by simp)
    show DataW.insert x (y :: r) = x :: y :: r
    unfold DataW.insert
    rw [h1]
    rfl
  | y :: A, B, h, h' => by
    have h1 := h y (by simp)
    have ih := insert_mid x A B (fun z hz => h z (by simp [hz])) h'
    show DataW.insert x (y :: (A ++ B)) = y :: (A ++ x :: B)
    unfold DataW.insert
    rw [h1, ih]
    rfl

theorem ent_take (ks : List (List Int)) (ps : List Value) {n p : Nat} (h : p ≤ n) : (entF ks ps n).take p = entF ks ps p := by
  unfold entF
  rw [← List.map_take, List.take_range, Nat.min_eq_left h]
theorem ent_at (ks : List (List Int)) (ps : List Value) {n i : Nat} (h : i < n) : (entF ks ps n)[i]? = some (.string (u8s (ks.getD i [])), .held (ps.getD i .nilIface)) := by simp [entF, h]
theorem length_entF (ks : List (List Int)) (ps : List Value) (n : Nat) : (entF ks ps n).length = n := by simp [entF]

theorem before_u8s (a b : List Int) : (Lit.string (u8s a)).before (.string (u8s b)) = ltS a b := before_eq _ _

/-- A key is put. -/
theorem put_ent {ks : List (List Int)} {ps : List Value} {key : List Int} {p : Value} (hu : ∀ i, i < ks.length → upB ks i = true) (hb : ∀ i, i < ks.length → ∀ x ∈ ks.getD i [], Byt x) (hy : ∀ y ∈ key, Byt y) :
    (DataW.map (entF ks ps ks.length)).put (.string (u8s key)) (.held p) = .map (entF (setK ks key) (putL ks key (padP ps ks.length) p) (setK ks key).length) := by
  have hpl := posK_le ks key
  have hsl := skipK_le ks key
  have hln : (setK ks key).length = posK ks key + 1 + (ks.length - skipK ks key) := length_putL _ rfl
  have hlp := length_padP ps ks.length
  rw [ent_pad]
  generalize hq : padP ps ks.length = qs at *
  show DataW.map (DataW.insert (.string (u8s key), .held p) ((entF ks qs ks.length).filter fun q => !q.1.sameKey (.string (u8s key)))) = _
  congr 1
  have hA : ∀ y ∈ (entF ks qs ks.length).take (posK ks key), ∃ i, i < posK ks key ∧ y = (.string (u8s (ks.getD i [])), .held (qs.getD i .nilIface)) := by
    intro y hy'
    rw [ent_take ks qs hpl] at hy'
    simp only [entF, List.mem_map, List.mem_range] at hy'
    obtain ⟨i, hi, rfl⟩ := hy'
    exact ⟨i, hi, rfl⟩
  have hB : ∀ y ∈ (entF ks qs ks.length).drop (skipK ks key), ∃ i, skipK ks key ≤ i ∧ i < ks.length ∧ y = (.string (u8s (ks.getD i [])), .held (qs.getD i .nilIface)) := by
    intro y hy'
    obtain ⟨j, hj⟩ := List.mem_iff_getElem?.1 hy'
    rw [List.getElem?_drop] at hj
    have hl := (List.getElem?_eq_some_iff.1 hj).1
    rw [length_entF] at hl
    rw [ent_at ks qs hl] at hj
    exact ⟨_, by omega, hl, by simpa using hj.symm⟩
  have hf : (entF ks qs ks.length).filter (fun q => !q.1.sameKey (.string (u8s key))) = (entF ks qs ks.length).take (posK ks key) ++ (entF ks qs ks.length).drop (skipK ks key) := by
    have hAf : ((entF ks qs ks.length).take (posK ks key)).filter (fun q => !q.1.sameKey (.string (u8s key))) = (entF ks qs ks.length).take (posK ks key) := by
      rw [List.filter_eq_self]
      intro y hy'
      obtain ⟨i, hi, rfl⟩ := hA y hy'
      have := less_ne (pos_lt ks key i hi)
      simpa [Lit.sameKey] using this
    have hBf : ((entF ks qs ks.length).drop (skipK ks key)).filter (fun q => !q.1.sameKey (.string (u8s key))) = (entF ks qs ks.length).drop (skipK ks key) := by
      rw [List.filter_eq_self]
      intro y hy'
      obtain ⟨i, h1, h2, rfl⟩ := hB y hy'
      have := less_ne (skip_gt hu hb hy h1 h2)
      have h3 : ¬ u8s (ks.getD i []) = u8s key := fun e => by rw [e] at this; simp at this
      simpa [Lit.sameKey] using h3
    rcases skipK_cases ks key with ⟨hs, hlt, he⟩ | ⟨hs, hn⟩
    · have e1 : entF ks qs ks.length = (entF ks qs ks.length).take (posK ks key) ++ ((Lit.string (u8s (ks.getD (posK ks key) [])), DataW.held (qs.getD (posK ks key) .nilIface)) :: (entF ks qs ks.length).drop (skipK ks key)) := by
        conv => lhs; rw [← List.take_append_drop (posK ks key) (entF ks qs ks.length)]
        congr 1
        rw [hs, List.drop_eq_getElem_cons (by rw [length_entF]; exact hlt)]
        congr 1
        have := ent_at ks qs hlt
        rw [List.getElem?_eq_getElem (by rw [length_entF]; exact hlt)] at this
        simpa using this
      conv => lhs; rw [e1]
      rw [List.filter_append, hAf, List.filter_cons]
      have hsame : (Lit.string (u8s (ks.getD (posK ks key) []))).sameKey (.string (u8s key)) = true := by rw [he]; simp [Lit.sameKey]
      simp only [hsame, Bool.not_true, Bool.false_eq_true, if_false]
      rw [hBf]
    · have e1 : entF ks qs ks.length = (entF ks qs ks.length).take (posK ks key) ++ (entF ks qs ks.length).drop (skipK ks key) := by
        rw [hs, List.take_append_drop]
      conv => lhs; rw [e1]
      rw [List.filter_append, hAf, hBf]
  rw [hf, insert_mid]
  · apply List.ext_getElem?
    intro j
    rcases Nat.lt_trichotomy j (posK ks key) with hlt | heq | hgt
    · rw [List.getElem?_append_left (by simp [length_entF]; omega), List.getElem?_take_of_lt hlt, ent_at ks qs (by omega), ent_at _ _ (by omega), setK, putL_lt _ _ rfl hlt, putL_lt _ _ hlp hlt]
    · subst heq
      rw [List.getElem?_append_right (by simp [length_entF]; omega)]
      have e : ((entF ks qs ks.length).take (posK ks key)).length = posK ks key := by simp [length_entF]; omega
      rw [e, Nat.sub_self, List.getElem?_cons_zero, ent_at _ _ (by omega), setK, putL_at _ _ rfl, putL_at _ _ hlp]
    · obtain ⟨i, rfl⟩ : ∃ i, j = posK ks key + 1 + i := ⟨j - posK ks key - 1, by omega⟩
      have e : ((entF ks qs ks.length).take (posK ks key)).length = posK ks key := by simp [length_entF]; omega
      rw [List.getElem?_append_right (by omega), e, show posK ks key + 1 + i - posK ks key = i + 1 by omega, List.getElem?_cons_succ, List.getElem?_drop]
      by_cases hi : skipK ks key + i < ks.length
      · rw [ent_at ks qs hi, ent_at _ _ (by omega), setK, putL_gt _ _ rfl, putL_gt _ _ hlp]
      · rw [List.getElem?_eq_none (by rw [length_entF]; omega), List.getElem?_eq_none (by rw [length_entF]; omega)]
  · intro y hy'
    obtain ⟨i, hi, rfl⟩ := hA y hy'
    show (Lit.string (u8s key)).before (.string (u8s (ks.getD i []))) = false
    rw [before_u8s]
    exact less_asymm (pos_lt ks key i hi)
  · intro y hy'
    obtain ⟨i, h1, h2, rfl⟩ := hB y hy'
    show (Lit.string (u8s key)).before (.string (u8s (ks.getD i []))) = true
    rw [before_u8s]
    exact skip_gt hu hb hy h1 h2
end Go.Proofs.Ytpknhmegoldppaa
/-
  What ValSet answers, and how great it can be; no statement is proved here.
-/
namespace Go.Proofs.Ytpknhmegoldppaa
open Go.RowKit
set_option linter.unusedVariables false
set_option linter.unusedSimpArgs false

theorem sum_keys : ∀ (ks : List (List Int)), (∀ k ∈ ks, k.length ≤ 8) → (ks.map List.length).sum ≤ 8 * ks.length
  | [], _ => by simp
  | k :: ks, h => by
    have h1 := h k (by simp)
    have h2 := sum_keys ks (fun z hz => h z (by simp [hz]))
    simp only [List.map_cons, List.sum_cons, List.length_cons]
    omega

theorem sum_kids {d : Nat} : ∀ (l : List (Vl d)), (∀ v ∈ l, szV d v + 10 ≤ 30 * partsV d v) → (l.map (szV d)).sum + 10 * l.length ≤ 30 * (l.map (partsV d)).sum
  | [], _ => by simp
  | v :: l, h => by
    have h1 := h v (by simp)
    have h2 := sum_kids l (fun z hz => h z (by simp [hz]))
    simp only [List.map_cons, List.sum_cons, List.length_cons]
    omega

/-- A value that may be is small. -/
theorem good_sz : ∀ (d : Nat) (v : Vl d) (deep : Nat), goodB d v deep = true → szV d v + 10 ≤ 30 * partsV d v
  | 0, v, _, h => by simp [goodB] at h
  | d + 1, (vk, vn, vs, vK, vL), deep, h => by
    obtain ⟨_, hsh, hk⟩ := (good_succ _ _ _ _ _ _ _).1 h
    have hkids := sum_kids vL (fun v hv => by
      obtain ⟨i, hi, rfl⟩ := List.mem_iff_getElem.1 hv
      exact good_sz d _ _ (hk i hi))
    have h1 : szV (d + 1) (vk, vn, vs, vK, vL) = vs.length + (vK.length + (vK.map List.length).sum) + (vL.length + (vL.map (szV d)).sum) := rfl
    have h2 : partsV (d + 1) (vk, vn, vs, vK, vL) = 1 + (vL.map (partsV d)).sum := rfl
    obtain ⟨_, z2, z3, _⟩ := shape_zero hsh
    have hs : vs.length ≤ 20 := by
      rcases z2 with rfl | rfl
      · exact (textB_byt (shape_text hsh)).2
      · simp
    have hK : vK.length + (vK.map List.length).sum ≤ 9 * vL.length := by
      rcases z3 with rfl | rfl
      · obtain ⟨hl, ha⟩ := shape_mapB hsh
        have := sum_keys vK (fun k hk' => by
          obtain ⟨i, hi, rfl⟩ := List.mem_iff_getElem.1 hk'
          have h3 := ascB_at ha hi
          simp only [stepB, Bool.and_eq_true] at h3
          have h4 := h3.1
          simp only [nameB, Bool.and_eq_true, decide_eq_true_eq] at h4
          have e : vK.getD i [] = vK[i] := by simp [List.getD_eq_getElem?_getD, hi]
          rw [e] at h4
          omega)
        omega
      · simp
    rw [h1, h2]
    omega

theorem ok_sz {d : Nat} {v : Vl d} (h : okB d v = true) : szV d v ≤ 1200 := by
  simp only [okB, Bool.and_eq_true, decide_eq_true_eq] at h
  have := good_sz d v 1 h.1
  omega

/-- What ValSet answers. -/
def setA (d : Nat) (v : Vl (d + 1)) (key : List Int) (x : Vl d) : Vl (d + 1) := if okB (d + 1) v = true ∧ v.1 = 5 ∧ okB d x = true then (if okB (d + 1) (setV d v key x) = true then setV d v key x else v) else vNil d
def setF (d : Nat) (v : Vl (d + 1)) (key : List Int) (x : Vl d) : Bool := decide (okB (d + 1) v = true ∧ v.1 = 5 ∧ okB d x = true ∧ okB (d + 1) (setV d v key x) = true)

theorem setA_yes {d : Nat} {v : Vl (d + 1)} {key : List Int} {x : Vl d} (h1 : okB (d + 1) v = true) (h2 : v.1 = 5) (h3 : okB d x = true) (h4 : okB (d + 1) (setV d v key x) = true) : setA d v key x = setV d v key x ∧ setF d v key x = true :=
  ⟨(if_pos ⟨h1, h2, h3⟩).trans (if_pos h4), decide_eq_true ⟨h1, h2, h3, h4⟩⟩
theorem setA_back {d : Nat} {v : Vl (d + 1)} {key : List Int} {x : Vl d} (h1 : okB (d + 1) v = true) (h2 : v.1 = 5) (h3 : okB d x = true) (h4 : ¬ okB (d + 1) (setV d v key x) = true) : setA d v key x = v ∧ setF d v key x = false :=
  ⟨(if_pos ⟨h1, h2, h3⟩).trans (if_neg h4), decide_eq_false fun h => h4 h.2.2.2⟩
theorem setA_no {d : Nat} {v : Vl (d + 1)} {key : List Int} {x : Vl d} (h : ¬ (okB (d + 1) v = true ∧ v.1 = 5 ∧ okB d x = true)) : setA d v key x = vNil d ∧ setF d v key x = false :=
  ⟨if_neg h, decide_eq_false fun h' => h ⟨h'.1, h'.2.1, h'.2.2.1⟩⟩

theorem setA_sz (d : Nat) (v : Vl (d + 1)) (key : List Int) (x : Vl d) : szV (d + 1) (setA d v key x) ≤ 1200 := by
  by_cases h : okB (d + 1) v = true ∧ v.1 = 5 ∧ okB d x = true
  · by_cases h4 : okB (d + 1) (setV d v key x) = true
    · rw [(setA_yes h.1 h.2.1 h.2.2 h4).1]; exact ok_sz h4
    · rw [(setA_back h.1 h.2.1 h.2.2 h4).1]; exact ok_sz h.1
  · rw [(setA_no h).1, sz_vNil]; omega

/-- Keys of a map that may be. -/
theorem ok_keys {d : Nat} {vn : Int} {vs : List Int} {vK : List (List Int)} {vL : List (Vl d)} (h : okB (d + 1) (5, vn, vs, vK, vL) = true) :
    vK.length = vL.length ∧ vL.length ≤ 40 ∧ (∀ i, i < vK.length → upB vK i = true) ∧ (∀ i, i < vK.length → ∀ y ∈ vK.getD i [], Byt y) ∧ (∀ i, i < vK.length → (vK.getD i []).length ≤ 1000) := by
  simp only [okB, Bool.and_eq_true, decide_eq_true_eq] at h
  obtain ⟨_, hsh, hgk⟩ := (good_succ _ _ _ _ _ _ _).1 h.1
  obtain ⟨hkl, hasc⟩ := shape_mapB hsh
  have hst : ∀ i, i < vK.length → stepB vK i = true := fun i hi => ascB_at hasc hi
  have hlen : vL.length ≤ 40 := by
    cases d with
    | zero =>
      cases vL with
      | nil => simp
      | cons x r => have := hgk 0 (by simp); exact absurd this (by simp [goodB])
    | succ d => exact parts_many h.2
  exact ⟨hkl, hlen, step_up hst, fun i hi => (step_name (hst i hi)).1, fun i hi => (step_name (hst i hi)).2⟩
end Go.Proofs.Ytpknhmegoldppaa
/-
  A part of a value holds no map that holds the part: what is turned in the map's own block leaves its parts as they were; no statement is proved here.
-/
namespace Go.Proofs.Ytpknhmegoldppaa
open Go.RowKit
set_option linter.unusedVariables false
set_option linter.unusedSimpArgs false

theorem owns_same {w : World} {b n n' : Nat} {D D' : DataW Value} (h : w.ownsMap Try.prog 9 tokR b n D) (h' : w.ownsMap Try.prog 9 tokR b n' D') : D = D' := by
  obtain ⟨es, cl, hb, _, _, rfl⟩ := h
  obtain ⟨es', cl', hb', _, _, rfl⟩ := h'
  rw [hb] at hb'
  simp only [Option.some.injEq, Obj.map.injEq] at hb'
  rw [hb'.1]

theorem ent_inj {vK vK' : List (List Int)} {ps ps' : List Value} {n n' : Nat} (h : DataW.map (entF vK ps n) = DataW.map (entF vK' ps' n')) : n = n' ∧ ∀ i, i < n → ps.getD i .nilIface = ps'.getD i .nilIface := by
  have h1 : entF vK ps n = entF vK' ps' n' := by injection h
  have hn : n = n' := by have := congrArg List.length h1; simpa [entF] using this
  subst hn
  refine ⟨rfl, fun i hi => ?_⟩
  have h2 := congrArg (fun l => l[i]?) h1
  simp only [entF, List.getElem?_map, List.getElem?_range hi, Option.map_some, Option.some.injEq, Prod.mk.injEq, DataW.held.injEq] at h2
  exact h2.2

theorem sum_same {α β : Type} {f : α → Nat} {g : β → Nat} {l : List α} {l' : List β} (hl : l.length = l'.length) (h : ∀ i (h : i < l.length) (h' : i < l'.length), f l[i] = g l'[i]) : (l.map f).sum = (l'.map g).sum := by
  congr 1
  refine List.ext_getElem (by simpa using hl) fun i h1 h2 => ?_
  simp only [List.getElem_map]
  exact h i (by simpa using h1) (by simpa using h2)

theorem sum_mem {α : Type} (f : α → Nat) : ∀ (l : List α) (i : Nat) (h : i < l.length), f l[i] ≤ (l.map f).sum
  | x :: l, 0, _ => by simp
  | x :: l, i + 1, h => by have := sum_mem f l i (by simpa using h); simp; omega

theorem kid_lt {d : Nat} (v : Vl (d + 1)) (i : Nat) (h : i < v.2.2.2.2.length) : partsV d v.2.2.2.2[i] < partsV (d + 1) v := by
  have h1 := sum_mem (partsV d) v.2.2.2.2 i h
  have h2 : partsV (d + 1) v = 1 + (v.2.2.2.2.map (partsV d)).sum := rfl
  omega

/-- A part: without parts of its own, a list, or a map. -/
theorem PSeg.kinds {R : Nat → Prop} {w : World} {d deep : Nat} {p : Value} {vk vn : Int} {vs : List Int} {vK : List (List Int)} {vL : List (Vl d)} (h : PSeg R w (d + 1) p (vk, vn, vs, vK, vL)) (hg : goodB (d + 1) (vk, vn, vs, vK, vL) deep = true) :
    (vL = [] ∧ (∀ x, p ≠ .iface 94 x) ∧ ∀ x, p ≠ .iface 59 x) ∨
    (∃ a cap, p = .iface 94 (.agg #[.slice a vL.length cap]) ∧ (vL = [] ∨ ∃ b off, a = some ⟨b, off, none⟩ ∧ R b ∧ ∀ i (h : i < vL.length), ∃ u, w.cell? ⟨b, off + i, none⟩ = some u ∧ PSeg R w d u (vL[i]))) ∨
    (∃ b ps, p = .iface 59 (.agg #[.map (some b)]) ∧ R b ∧ w.ownsMap Try.prog 9 tokR b 64 (.map (entF vK ps vL.length)) ∧ ∀ i (h : i < vL.length), PSeg R w d (ps.getD i .nilIface) (vL[i])) := by
  obtain ⟨_, hs, _⟩ := (good_succ _ _ _ _ _ _ _).1 hg
  have hbare : vk = 4 ∨ vk = 5 ∨ vL = [] := by
    simp only [shapeB, bareB, Bool.and_eq_true, Bool.or_eq_true, decide_eq_true_eq] at hs
    rcases hs.1.2 with (h | h) | h
    · exact .inl h
    · exact .inr (.inl h)
    · exact .inr (.inr (List.length_eq_zero_iff.1 h))
  rcases h with ⟨hk, rfl⟩ | ⟨hk, rfl⟩ | ⟨hk, rfl⟩ | ⟨hk, rfl⟩ | ⟨hk, rfl⟩ | ⟨hk, a, cap, hp, hc⟩ | ⟨hk, b, ps, hp, hR, hm, hc⟩
  · simp only at hk; exact .inl ⟨by rcases hbare with h | h | h <;> first | omega | exact h, by simp, by simp⟩
  · simp only at hk; exact .inl ⟨by rcases hbare with h | h | h <;> first | omega | exact h, by simp, by simp⟩
  · simp only at hk; exact .inl ⟨by rcases hbare with h | h | h <;> first | omega | exact h, by simp, by simp⟩
  · simp only at hk; exact .inl ⟨by rcases hbare with h | h | h <;> first | omega | exact h, by simp, by simp⟩
  · simp only at hk; exact .inl ⟨by rcases hbare with h | h | h <;> first | omega | exact h, by simp, by simp⟩
  · exact .inr (.inl ⟨a, cap, hp, hc⟩)
  · simp only at hk
    subst hk
    obtain ⟨hl, ha⟩ := shape_mapB hs
    refine .inr (.inr ⟨b, ps, hp, hR, ?_, hc⟩)
    have hm' : w.ownsMap Try.prog 9 tokR b 64 (mapD vK ps vL.length) := hm
    rw [mapD_list vK ps vL.length (fun i hi => ascB_at ha (by omega))] at hm'
    exact hm'

/-- What lies in a part is one value. -/
theorem PSeg.same {R R' : Nat → Prop} {w : World} : ∀ (d d' : Nat) (p : Value) (v : Vl d) (v' : Vl d') (deep deep' : Nat), PSeg R w d p v → PSeg R' w d' p v' → goodB d v deep = true → goodB d' v' deep' = true → partsV d v = partsV d' v' := by
  intro d
  induction d with
  | zero => intro d' p v v' deep deep' h; exact h.elim
  | succ d ih =>
    intro d' p v v' deep deep' h h' hg hg'
    cases d' with
    | zero => exact h'.elim
    | succ d' =>
      obtain ⟨vk, vn, vs, vK, vL⟩ := v
      obtain ⟨vk', vn', vs', vK', vL'⟩ := v'
      obtain ⟨_, _, hk⟩ := (good_succ _ _ _ _ _ _ _).1 hg
      obtain ⟨_, _, hk'⟩ := (good_succ _ _ _ _ _ _ _).1 hg'
      show 1 + (vL.map (partsV d)).sum = 1 + (vL'.map (partsV d')).sum
      congr 1
      rcases h.kinds hg with ⟨e, n1, n2⟩ | ⟨a, cap, hp, hc⟩ | ⟨b, ps, hp, _, hm, hc⟩ <;> rcases h'.kinds hg' with ⟨e', n1', n2'⟩ | ⟨a', cap', hp', hc'⟩ | ⟨b', ps', hp', _, hm', hc'⟩
      · subst e; subst e'; rfl
      · exact absurd hp' (n1 _)
      · exact absurd hp' (n2 _)
      · exact absurd hp (n1' _)
      · rw [hp] at hp'
        simp only [Value.iface.injEq, true_and, Value.agg.injEq, Array.mk.injEq, List.cons.injEq, Value.slice.injEq, and_true] at hp'
        obtain ⟨rfl, hl, _⟩ := hp'
        refine sum_same hl fun i h1 h2 => ?_
        rcases hc with h0 | ⟨b, off, e, _, hc⟩
        · subst h0; simp at h1
        rcases hc' with h0 | ⟨b', off', e', _, hc'⟩
        · subst h0; simp at h2
        rw [e] at e'
        simp only [Option.some.injEq, Addr.mk.injEq, and_true] at e'
        obtain ⟨rfl, rfl⟩ := e'
        obtain ⟨u, hu, hs⟩ := hc i h1
        obtain ⟨u', hu', hs'⟩ := hc' i h2
        rw [hu] at hu'
        obtain rfl : u = u' := by simpa using hu'
        exact ih d' u _ _ (deep + 1) (deep' + 1) hs hs' (hk i h1) (hk' i h2)
      · rw [hp] at hp'; simp at hp'
      · exact absurd hp (n2' _)
      · rw [hp] at hp'; simp at hp'
      · rw [hp] at hp'
        simp only [Value.iface.injEq, true_and, Value.agg.injEq, Array.mk.injEq, List.cons.injEq, Value.map.injEq, Option.some.injEq, and_true] at hp'
        subst hp'
        obtain ⟨hl, hps⟩ := ent_inj (owns_same hm hm')
        refine sum_same hl fun i h1 h2 => ?_
        have hs := hc i h1
        rw [hps i h1] at hs
        exact ih d' _ _ _ (deep + 1) (deep' + 1) hs (hc' i h2) (hk i h1) (hk' i h2)

/-- The parts of a map lie elsewhere than the map. -/
theorem PSeg.avoid {R : Nat → Prop} {w : World} {D deep b : Nat} {V : Vl (D + 1)} (hV : PSeg R w (D + 1) (.iface 59 (.agg #[.map (some b)])) V) (hG : goodB (D + 1) V deep = true) :
    ∀ (d : Nat) (p : Value) (v : Vl d) (dp : Nat), PSeg R w d p v → goodB d v dp = true → partsV d v < partsV (D + 1) V → PSeg (fun c => R c ∧ c ≠ b) w d p v := by
  intro d
  induction d with
  | zero => intro p v dp h; exact h.elim
  | succ d ih =>
    intro p v dp h hg hlt
    have h0 := h
    have hkid : ∀ i (hi : i < v.2.2.2.2.length), goodB d v.2.2.2.2[i] (dp + 1) = true := by
      obtain ⟨vk, vn, vs, vK, vL⟩ := v
      exact ((good_succ _ _ _ _ _ _ _).1 hg).2.2
    have hmap : ∃ es cl, w.heap[b]? = some (.map es cl) := by
      obtain ⟨vk, vn, vs, vK, vL⟩ := V
      rcases hV.kinds hG with ⟨_, _, n2⟩ | ⟨a, cap, hp, _⟩ | ⟨b', ps, hp, _, hm, _⟩
      · exact absurd rfl (n2 _)
      · simp at hp
      · simp at hp
        subst hp
        obtain ⟨es, cl, hb, _⟩ := hm
        exact ⟨es, cl, hb⟩
    rcases h with h | h | h | h | h | ⟨hk, a, cap, hp, hc⟩ | ⟨hk, b', ps, hp, hR, hm, hc⟩
    · exact .inl h
    · exact .inr (.inl h)
    · exact .inr (.inr (.inl h))
    · exact .inr (.inr (.inr (.inl h)))
    · exact .inr (.inr (.inr (.inr (.inl h))))
    · refine .inr (.inr (.inr (.inr (.inr (.inl ⟨hk, a, cap, hp, ?_⟩)))))
      rcases hc with h0 | ⟨c, off, e, hR, hc⟩
      · exact .inl h0
      · by_cases hn : v.2.2.2.2 = []
        · exact .inl hn
        · refine .inr ⟨c, off, e, ⟨hR, ?_⟩, fun i hi => ?_⟩
          · rintro rfl
            obtain ⟨u, hu, _⟩ := hc 0 (List.length_pos_iff.2 hn)
            obtain ⟨es, cl, hb⟩ := hmap
            simp [World.cell?, hb] at hu
          · obtain ⟨u, hu, hv⟩ := hc i hi
            exact ⟨u, hu, ih u _ (dp + 1) hv (hkid i hi) (by have := kid_lt v i hi; omega)⟩
    · refine .inr (.inr (.inr (.inr (.inr (.inr ⟨hk, b', ps, hp, ⟨hR, ?_⟩, hm, fun i hi => ih _ _ (dp + 1) (hc i hi) (hkid i hi) (by have := kid_lt v i hi; omega)⟩)))))
      rintro rfl
      have := PSeg.same (d + 1) (D + 1) p v V dp deep h0 (hp ▸ hV) hg hG
      omega
end Go.Proofs.Ytpknhmegoldppaa
/-
  A map of parts into which a key was put: valueOf of it; no statement is proved here.
-/
namespace Go.Proofs.Ytpknhmegoldppaa
open Go.RowKit Go.Shelf
set_option linter.unusedVariables false
set_option linter.unusedSimpArgs false

theorem avoid_allG {R : Nat → Prop} {w w2 : World} {d b deep : Nat} {vn : Int} {vs : List Int} {vK : List (List Int)} {vL : List (Vl d)} (hp : PSeg R w (d + 1) (.iface 59 (.agg #[.map (some b)])) (5, vn, vs, vK, vL)) (hg : goodB (d + 1) (5, vn, vs, vK, vL) deep = true) (ht : w.grownBy w2 (some b)) (hR : ∀ c, R c → c < w.heap.size) :
    ∃ ps, R b ∧ w.ownsMap Try.prog 9 tokR b 64 (.map (entF vK ps vL.length)) ∧ ∀ i (h : i < vL.length), PSeg R w2 d (ps.getD i .nilIface) (vL[i]) := by
  rcases hp.kinds hg with ⟨_, _, n2⟩ | ⟨a, cap, e, _⟩ | ⟨b', ps, e, hRb, hm, hc⟩
  · exact absurd rfl (n2 _)
  · simp at e
  · simp at e
    subst e
    refine ⟨ps, hRb, hm, fun i hi => ?_⟩
    have h1 := PSeg.avoid hp hg d _ _ (deep + 1) (hc i hi) (((good_succ _ _ _ _ _ _ _).1 hg).2.2 i hi) (kid_lt (5, vn, vs, vK, vL) i hi)
    exact PSeg.carry (fun c h => h.1) (fun c h => ht.block c (hR c h.1) (by simpa using h.2)) d h1

theorem putL_all {α : Type} {ks : List (List Int)} {key : List Int} {l : List α} {x : α} (h : l.length = ks.length) (P : Nat → α → Prop) (z : α) (h1 : ∀ j, j < posK ks key → P j (l.getD j z)) (h2 : P (posK ks key) x) (h3 : ∀ i, skipK ks key + i < ks.length → P (posK ks key + 1 + i) (l.getD (skipK ks key + i) z)) : ∀ i, i < (putL ks key l x).length → P i ((putL ks key l x).getD i z) := by
  intro i hi
  rw [length_putL _ h] at hi
  have hsl := skipK_le ks key
  rcases Nat.lt_trichotomy i (posK ks key) with hlt | heq | hgt
  · rw [putL_lt _ _ h hlt]; exact h1 i hlt
  · rw [heq, putL_at _ _ h]; exact h2
  · obtain ⟨j, rfl⟩ : ∃ j, i = posK ks key + 1 + j := ⟨i - posK ks key - 1, by omega⟩
    rw [putL_gt _ _ h]
    exact h3 j (by omega)

theorem getD_eq {α : Type} (l : List α) (i : Nat) (x : α) (h : i < l.length) : l.getD i x = l[i] := by simp [List.getD, List.getElem?_eq_getElem h]

/-- valueOf of a map whose part under the key was put. -/
theorem set_value {R : Nat → Prop} {w w4 : World} {d b : Nat} {key : List Int} {vn : Int} {vs : List Int} {vK : List (List Int)} {vL : List (Vl d)} {x : Vl d} {p : Value} {D0 : DataW Value} (hp : PSeg R w (d + 1) (.iface 59 (.agg #[.map (some b)])) (5, vn, vs, vK, vL)) (hok : okB (d + 1) (5, vn, vs, vK, vL) = true) (ht : w.grownBy w4 (some b)) (hR : ∀ c, R c → c < w.heap.size)
    (hm0 : w.ownsMap Try.prog 9 tokR b 64 D0) (hm4 : w4.ownsMap Try.prog 9 tokR b 65 (D0.put (.string (u8s key)) (.held p))) (hy : ∀ y ∈ key, Byt y) (hkl : key.length ≤ 1048576) (hpx : PSeg (fun c => c < w4.heap.size) w4 d p x) (hokx : okB d x = true) :
    Calls Try.prog 34 #[.iface 59 (.agg #[.map (some b)])] w4 (MapEnd d (putL vK key vL x) (setK vK key) w4) := by
  obtain ⟨hKL, hlen, hup, hbt, hkb⟩ := ok_keys hok
  have hok' := hok
  simp only [okB, Bool.and_eq_true, decide_eq_true_eq] at hok' hokx
  obtain ⟨ps, hRb, hm, hc⟩ := avoid_allG hp hok'.1 ht hR
  have hgk := ((good_succ _ _ _ _ _ _ _).1 hok'.1).2.2
  have hkid := parts_kid hok'.2
  have hz4 := ht.size
  rw [owns_same hm0 hm, ← hKL, put_ent hup hbt hy] at hm4
  have hl1 : (setK vK key).length = posK vK key + 1 + (vK.length - skipK vK key) := length_putL _ rfl
  have hl2 : (putL vK key vL x).length = posK vK key + 1 + (vK.length - skipK vK key) := length_putL _ hKL.symm
  have hpl := posK_le vK key
  have hsl := skipK_le vK key
  have hll : (setK vK key).length = (putL vK key vL x).length := by omega
  have hsb := set_byt hbt hy 1048576 (fun i hi => by have := hkb i hi; omega) hkl
  have hsu := set_up hup hbt hy
  have hskp : skipK vK key ≤ posK vK key + 1 ∧ posK vK key ≤ skipK vK key := by rcases skipK_cases vK key with ⟨h, _⟩ | ⟨h, _⟩ <;> omega
  refine valueOf_mapPart d (valueOf_any d) w4.heap.size b (putL vK key (padP ps vK.length) p) (putL vK key vL x) (setK vK key) w4 (by have := hR b hRb; omega) ?_ hll (fun i hi => hsu i (by omega)) (fun i hi => hsb i (by omega)) ?_ (Nat.le_refl _) (by omega) ?_
  · rw [mapD_listU _ _ _ (fun i hi => hsu i (by omega)), ← hll]
    exact hm4.mono (by omega)
  · intro i hi
    have hlp := length_padP ps vK.length
    have hi' : i < posK vK key + 1 + (vK.length - skipK vK key) := by omega
    rcases Nat.lt_trichotomy i (posK vK key) with hlt | heq | hgt
    · have e1 := putL_lt (key := key) p .nilIface hlp (j := i) hlt
      have e2 := putL_lt (key := key) x x hKL.symm (j := i) hlt
      rw [getD_eq _ _ _ hi, getD_eq vL i x (by omega)] at e2
      rw [e1, e2, padP_at ps (by omega)]
      exact PSeg.carry (fun c h => by have := hR c h; omega) (fun c _ => rfl) d (hc i (by omega))
    · subst heq
      have e1 := putL_at (key := key) p .nilIface hlp
      have e2 := putL_at (key := key) x x hKL.symm
      rw [getD_eq _ _ _ hi] at e2
      rw [e1, e2]
      exact hpx
    · obtain ⟨j, rfl⟩ : ∃ j, i = posK vK key + 1 + j := ⟨i - posK vK key - 1, by omega⟩
      have e1 := putL_gt (key := key) p .nilIface hlp (i := j)
      have e2 := putL_gt (key := key) x x hKL.symm (i := j)
      rw [getD_eq _ _ _ hi, getD_eq vL _ x (by omega)] at e2
      rw [e1, e2, padP_at ps (by omega)]
      exact PSeg.carry (fun c h => by have := hR c h; omega) (fun c _ => rfl) d (hc _ (by omega))
  · intro i hi
    rcases Nat.lt_trichotomy i (posK vK key) with hlt | heq | hgt
    · have e2 := putL_lt (key := key) x x hKL.symm (j := i) hlt
      rw [getD_eq _ _ _ hi, getD_eq vL i x (by omega)] at e2
      rw [e2]
      exact ⟨_, hgk i (by omega), hkid i (by omega)⟩
    · subst heq
      have e2 := putL_at (key := key) x x hKL.symm
      rw [getD_eq _ _ _ hi] at e2
      rw [e2]
      exact ⟨_, hokx.1, hokx.2⟩
    · obtain ⟨j, rfl⟩ : ∃ j, i = posK vK key + 1 + j := ⟨i - posK vK key - 1, by omega⟩
      have e2 := putL_gt (key := key) x x hKL.symm (i := j)
      rw [getD_eq _ _ _ hi, getD_eq vL _ x (by omega)] at e2
      rw [e2]
      exact ⟨_, hgk _ (by omega), hkid _ (by omega)⟩
end Go.Proofs.Ytpknhmegoldppaa
/-
  ValOk of the program: it tells whether a value may be, and turns nothing old; no statement is proved here.
-/
namespace Go.Proofs.Ytpknhmegoldppaa
open Go.RowKit
set_option linter.unusedVariables false
set_option linter.unusedSimpArgs false

set_option maxHeartbeats 1600000 in
theorem impl_ValOk_any (d N : Nat) (c0 c1 c2 c3 c4 : Value) (v : Vl d) (w : World) (hv : VSeg (fun b => b < N) w d (c0, c1, c2, c3, c4) v) (hN : N ≤ w.heap.size) :
    Calls Try.prog 35 #[.agg #[c0, c1, c2, c3, c4]] w fun e w' => e = .returned (.bool (okB d v)) ∧ Below w.heap.size w w' := by
  have b0 : ∀ o : Obj, Below w.heap.size w (w.alloc o) := fun o => (Below.refl _ _).alloc (Nat.le_refl _) o
  have HC : Hid (∀ o : Obj, Calls Try.prog 33 #[.agg #[c0, c1, c2, c3, c4]] (w.alloc o) (PartEnd d v (w.alloc o))) := fun o =>
    partOf_any d N c0 c1 c2 c3 c4 v (w.alloc o) (VSeg.agree (agree_below ((b0 o).mono hN)) d hv) (by have := (b0 o).size; omega)
  have Hb := hide' b0
  clear b0
  go_enter Try.func35, Try.ntmps35
  go_wp2_with fail
  refine (HC.out _).mono ?_
  rintro e w1 ⟨b1, hcase⟩
  have B1 := Below.on (Hb.out _) b1
  rcases hcase with ⟨p, rfl, h1, _⟩ | ⟨rfl, h1⟩
  · have H1 := hide' h1
    clear b1 h1
    go_wp2
    go_ret
    exact ⟨ret_bool H1.out.symm, B1⟩
  · have H1 := hide' h1
    clear b1 h1
    go_wp2
    go_ret
    exact ⟨ret_bool H1.out.symm, B1⟩
end Go.Proofs.Ytpknhmegoldppaa
