/-
  Texts that a law leans on, one behind the other; no statement is proved here.
-/
import Derived.Test.YtenfnbnhdmkhkaaPk32
import Derived.Test.YtenfnbnhdmkhkaaPk33
import Derived.Test.YtenfnbnhdmkhkaaPk4
import Derived.Test.YtenfnbnhdmkhkaaPk16
import Derived.Test.YtenfnbnhdmkhkaaPk0
import Derived.Test.YtenfnbnhdmkhkaaPk3
import Derived.Test.YtenfnbnhdmkhkaaPk10
import Derived.Test.YtenfnbnhdmkhkaaPk12
/-
  The datum of a map of parts whose keys ascend, when one key is taken out of it, and the value that is left; no statement is proved here.
-/
namespace Go.Proofs.Ytenfnbnhdmkhkaa
open Go.RowKit
set_option linter.unusedVariables false
set_option linter.unusedSimpArgs false

theorem getD_erase {α : Type} (l : List α) (k j : Nat) (x : α) : (l.eraseIdx k).getD j x = l.getD (if j < k then j else j + 1) x := by
  simp only [List.getD, List.getElem?_eraseIdx]
  split <;> rfl

theorem asc_ne {vK : List (List Int)} {n : Nat} (h : ∀ i, i < n → stepB vK i = true) {i j : Nat} (hi : i < n) (hj : j < n) (hne : i ≠ j) : vK.getD i [] ≠ vK.getD j [] := by
  intro e
  rcases Nat.lt_or_gt_of_ne hne with hl | hl
  · have := less_ne (asc_lt h j hj i hl); rw [e] at this; simp at this
  · have := less_ne (asc_lt h i hi j hl); rw [e] at this; simp at this

theorem rng_add (a b : Nat) : List.range (a + b) = List.range a ++ (List.range b).map (fun x => a + x) := List.range_add

theorem range_but (k m : Nat) : (List.range (k + (1 + m))).filter (fun i => !decide (i = k)) = List.range k ++ (List.range m).map (fun i => k + (1 + i)) := by
  rw [rng_add k (1 + m), List.filter_append, rng_add 1 m, List.map_append, List.filter_append]
  have h0 : (List.range k).filter (fun i => !decide (i = k)) = List.range k := by
    rw [List.filter_eq_self]; intro i hi; have := List.mem_range.1 hi; simp; omega
  have h1 : ((List.range 1).map (fun x => k + x)).filter (fun i => !decide (i = k)) = [] := by simp [List.range_succ]
  have h2 : (((List.range m).map (fun x => 1 + x)).map (fun x => k + x)).filter (fun i => !decide (i = k)) = (List.range m).map (fun i => k + (1 + i)) := by
    rw [List.filter_eq_self.2, List.map_map]
    · rfl
    · intro i hi; simp only [List.mem_map] at hi; obtain ⟨a, ⟨b, _, rfl⟩, rfl⟩ := hi; simp
  rw [h0, h1, h2, List.nil_append]

/-- The k-th key is taken out. -/
theorem del_ent {vK : List (List Int)} {ps : List Value} {n k : Nat} {key : List Int} (hy : ∀ y ∈ key, Byt y) (hb : ∀ i, i < n → ∀ x ∈ vK.getD i [], Byt x) (hk : k < n) (hu : ∀ i, i < n → i ≠ k → vK.getD i [] ≠ key) (he : vK.getD k [] = key) :
    (DataW.map (entF vK ps n)).del (.string (u8s key)) = .map (entF (vK.eraseIdx k) (ps.eraseIdx k) (n - 1)) := by
  obtain ⟨m, rfl⟩ : ∃ m, n = k + (1 + m) := ⟨n - 1 - k, by omega⟩
  have e1 : k + (1 + m) - 1 = k + m := by omega
  rw [e1]
  show DataW.map ((entF vK ps (k + (1 + m))).filter fun p => !p.1.sameKey (.string (u8s key))) = _
  congr 1
  have hs : ∀ i, i < k + (1 + m) → (Lit.string (u8s (vK.getD i []))).sameKey (.string (u8s key)) = decide (i = k) := by
    intro i hi
    rw [same_u8s (hb i hi) hy]
    by_cases h : i = k
    · subst h; exact (decide_eq_true he).trans (decide_eq_true rfl).symm
    · exact (decide_eq_false (hu i hi h)).trans (decide_eq_false h).symm
  unfold entF
  rw [List.filter_map, List.filter_congr (q := fun i => !decide (i = k)) (fun i hi => by simp only [Function.comp]; rw [hs i (List.mem_range.1 hi)]), range_but, rng_add k m, List.map_append, List.map_append, List.map_map, List.map_map]
  congr 1
  · refine List.map_congr_left fun i hi => ?_
    have := List.mem_range.1 hi
    rw [getD_erase, getD_erase, if_pos this]
  · refine List.map_congr_left fun i hi => ?_
    simp only [Function.comp]
    rw [getD_erase, getD_erase, if_neg (by omega), show k + i + 1 = k + (1 + i) by omega]

/-- A key that is not there is taken out: nothing turns. -/
theorem del_none {vK : List (List Int)} {ps : List Value} {n : Nat} {key : List Int} (hy : ∀ y ∈ key, Byt y) (hb : ∀ i, i < n → ∀ x ∈ vK.getD i [], Byt x) (hu : ∀ i, i < n → vK.getD i [] ≠ key) :
    (DataW.map (entF vK ps n)).del (.string (u8s key)) = .map (entF vK ps n) := by
  show DataW.map ((entF vK ps n).filter fun p => !p.1.sameKey (.string (u8s key))) = _
  congr 1
  rw [List.filter_eq_self]
  intro p hp
  simp only [entF, List.mem_map, List.mem_range] at hp
  obtain ⟨i, hi, rfl⟩ := hp
  rw [same_u8s (hb i hi) hy]
  simpa using hu i hi

theorem asc_erase {vK : List (List Int)} {n k : Nat} (h : ∀ i, i < n → stepB vK i = true) (hk : k < n) : ∀ i, i < n - 1 → stepB (vK.eraseIdx k) i = true := by
  intro i hi
  simp only [stepB, getD_erase, Bool.and_eq_true, Bool.or_eq_true, beq_iff_eq]
  have hn : ∀ j, j < n → nameB (vK.getD j []) = true := fun j hj => by have := h j hj; simp only [stepB, Bool.and_eq_true] at this; exact this.1
  refine ⟨hn _ (by split <;> omega), ?_⟩
  by_cases h0 : i = 0
  · exact .inl h0
  · exact .inr (asc_lt h _ (by split <;> omega) _ (by split <;> split <;> omega))

/-- The map without its k-th key. -/
def dropV (d : Nat) (v : Vl (d + 1)) (k : Nat) : Vl (d + 1) := ((5 : Int), (0 : Int), ([] : List Int), v.2.2.2.1.eraseIdx k, v.2.2.2.2.eraseIdx k)

theorem sum_erase {α : Type} (f : α → Nat) : ∀ (l : List α) (k : Nat), ((l.eraseIdx k).map f).sum ≤ (l.map f).sum
  | [], k => by simp
  | x :: l, 0 => by simp
  | x :: l, k + 1 => by have := sum_erase f l k; simp; omega

theorem drop_sz (d : Nat) (v : Vl (d + 1)) (k : Nat) : szV (d + 1) (dropV d v k) ≤ szV (d + 1) v := by
  have h1 : szV (d + 1) (dropV d v k) = 0 + szK (v.2.2.2.1.eraseIdx k) + ((v.2.2.2.2.eraseIdx k).length + ((v.2.2.2.2.eraseIdx k).map (szV d)).sum) := rfl
  have h2 : szV (d + 1) v = szT v.2.2.1 + szK v.2.2.2.1 + (v.2.2.2.2.length + (v.2.2.2.2.map (szV d)).sum) := rfl
  have h3 := sum_erase (szV d) v.2.2.2.2 k
  have h4 := sum_erase List.length v.2.2.2.1 k
  have h5 : (v.2.2.2.1.eraseIdx k).length ≤ v.2.2.2.1.length := List.length_eraseIdx_le _ _
  have h6 : (v.2.2.2.2.eraseIdx k).length ≤ v.2.2.2.2.length := List.length_eraseIdx_le _ _
  have h7 : ∀ l : List (List Int), szK l = l.length + (l.map List.length).sum := fun l => rfl
  rw [h1, h2, h7, h7]
  omega

theorem drop_parts (d : Nat) (v : Vl (d + 1)) (k : Nat) : partsV (d + 1) (dropV d v k) ≤ partsV (d + 1) v := by
  have h1 : partsV (d + 1) (dropV d v k) = 1 + ((v.2.2.2.2.eraseIdx k).map (partsV d)).sum := rfl
  have h2 : partsV (d + 1) v = 1 + (v.2.2.2.2.map (partsV d)).sum := rfl
  have h3 := sum_erase (partsV d) v.2.2.2.2 k
  omega

theorem drop_good {d : Nat} {vn : Int} {vs : List Int} {vK : List (List Int)} {vL : List (Vl d)} {deep k : Nat} (h : goodB (d + 1) (5, vn, vs, vK, vL) deep = true) (hk : k < vL.length) : goodB (d + 1) (dropV d (5, vn, vs, vK, vL) k) deep = true := by
  obtain ⟨h1, h2, h3⟩ := (good_succ _ _ _ _ _ _ _).1 h
  obtain ⟨hl, ha⟩ := shape_mapB h2
  refine (good_succ _ _ _ _ _ _ _).2 ⟨h1, ?_, fun j hj => ?_⟩
  · have hst : ∀ i, i < vK.length → stepB vK i = true := fun i hi => ascB_at ha hi
    have hl1 : (vK.eraseIdx k).length = vK.length - 1 := List.length_eraseIdx_of_lt (by omega)
    have hl2 : (vL.eraseIdx k).length = vL.length - 1 := List.length_eraseIdx_of_lt hk
    have ha' : ascB (vK.eraseIdx k) = true := ascB_yes (fun i hi => asc_erase hst (by omega) i (by omega))
    simp only [shapeB, Bool.and_eq_true] at h2 ⊢
    refine ⟨?_, ?_⟩
    · have := h2.1
      simp [bareB] at this ⊢
    · simp [ha', hl1, hl2, hl]
  · have hj' : j < (vL.eraseIdx k).length := hj
    show goodB d (vL.eraseIdx k)[j] (deep + 1) = true
    rw [List.getElem_eraseIdx]
    split
    · exact h3 _ _
    · exact h3 _ _
end Go.Proofs.Ytenfnbnhdmkhkaa
/-
  A key put into a map whose keys ascend: where it comes, and the datum of a map of parts behind it; no statement is proved here.
-/
namespace Go.Proofs.Ytenfnbnhdmkhkaa
open Go.RowKit
set_option linter.unusedVariables false
set_option linter.unusedSimpArgs false

/-- How many keys are ahead of a key. -/
def posK (ks : List (List Int)) (key : List Int) : Nat := (ks.takeWhile fun k => ltS k key).length
/-- .. and how many of them and it. -/
def skipK (ks : List (List Int)) (key : List Int) : Nat := if posK ks key < ks.length ∧ ks.getD (posK ks key) [] = key then posK ks key + 1 else posK ks key

theorem posK_le (ks : List (List Int)) (key : List Int) : posK ks key ≤ ks.length := List.takeWhile_prefix _ |>.length_le
theorem skipK_le (ks : List (List Int)) (key : List Int) : skipK ks key ≤ ks.length := by
  unfold skipK
  have := posK_le ks key
  split <;> omega
theorem skipK_cases (ks : List (List Int)) (key : List Int) : (skipK ks key = posK ks key + 1 ∧ posK ks key < ks.length ∧ ks.getD (posK ks key) [] = key) ∨ (skipK ks key = posK ks key ∧ ¬ (posK ks key < ks.length ∧ ks.getD (posK ks key) [] = key)) := by
  unfold skipK
  by_cases h : posK ks key < ks.length ∧ ks.getD (posK ks key) [] = key
  · exact .inl ⟨if_pos h, h⟩
  · exact .inr ⟨if_neg h, h⟩

theorem pos_lt : ∀ (ks : List (List Int)) (key : List Int) (i : Nat), i < posK ks key → ltS (ks.getD i []) key = true
  | [], key, i, h => by simp [posK] at h
  | k :: ks, key, i, h => by
    by_cases hk : ltS k key = true
    · cases i with
      | zero => simpa using hk
      | succ i =>
        have : i < posK ks key := by simpa [posK, List.takeWhile_cons, hk] using h
        simpa using pos_lt ks key i this
    · simp [posK, List.takeWhile_cons, hk] at h
theorem pos_ge : ∀ (ks : List (List Int)) (key : List Int), posK ks key < ks.length → ltS (ks.getD (posK ks key) []) key = false
  | [], key, h => by simp at h
  | k :: ks, key, h => by
    by_cases hk : ltS k key = true
    · have e : posK (k :: ks) key = posK ks key + 1 := by simp [posK, List.takeWhile_cons, hk]
      rw [e] at h ⊢
      simpa using pos_ge ks key (by simpa using h)
    · have e : posK (k :: ks) key = 0 := by simp [posK, List.takeWhile_cons, hk]
      rw [e]
      simpa using hk

/-- Keys behind the place are behind the key. -/
theorem skip_gt {ks : List (List Int)} {key : List Int} (hu : ∀ i, i < ks.length → upB ks i = true) (hb : ∀ i, i < ks.length → ∀ x ∈ ks.getD i [], Byt x) (hy : ∀ y ∈ key, Byt y) {i : Nat} (h1 : skipK ks key ≤ i) (h2 : i < ks.length) : ltS key (ks.getD i []) = true := by
  have hp : posK ks key < ks.length := by
    rcases skipK_cases ks key with ⟨_, h, _⟩ | ⟨h, _⟩ <;> omega
  have hge := pos_ge ks key hp
  rcases skipK_cases ks key with ⟨hs, _, he⟩ | ⟨hs, hn⟩
  · have := asc_ltU hu i h2 (posK ks key) (by omega)
    rw [he] at this
    exact this
  · have hlt : ltS key (ks.getD (posK ks key) []) = true := by
      cases h : ltS key (ks.getD (posK ks key) []) with
      | true => rfl
      | false =>
        have e := less_total _ _ hge h
        exfalso
        apply hn
        refine ⟨hp, ?_⟩
        have h3 := strOf_eq (hb _ hp) hy
        rw [strOf_list, strOf_list, e] at h3
        simpa using h3.symm
    by_cases e : i = posK ks key
    · rw [e]; exact hlt
    · exact less_trans _ _ _ hlt (asc_ltU hu i h2 (posK ks key) (by omega))

/-- A list with x at the key's place. -/
def putL {α : Type} (ks : List (List Int)) (key : List Int) (l : List α) (x : α) : List α := l.take (posK ks key) ++ x :: l.drop (skipK ks key)
/-- The keys with the key. -/
def setK (ks : List (List Int)) (key : List Int) : List (List Int) := putL ks key ks key
/-- The map with x under the key. -/
def setV (d : Nat) (v : Vl (d + 1)) (key : List Int) (x : Vl d) : Vl (d + 1) := ((5 : Int), (0 : Int), ([] : List Int), setK v.2.2.2.1 key, putL v.2.2.2.1 key v.2.2.2.2 x)

theorem length_putL {α : Type} {ks : List (List Int)} {key : List Int} {l : List α} (x : α) (h : l.length = ks.length) : (putL ks key l x).length = posK ks key + 1 + (ks.length - skipK ks key) := by
  have := posK_le ks key
  simp [putL, h]
  omega
theorem putL_lt {α : Type} {ks : List (List Int)} {key : List Int} {l : List α} (x z : α) (h : l.length = ks.length) {j : Nat} (hj : j < posK ks key) : (putL ks key l x).getD j z = l.getD j z := by
  have := posK_le ks key
  simp only [putL, List.getD_eq_getElem?_getD]
  rw [List.getElem?_append_left (by simp; omega), List.getElem?_take_of_lt hj]
theorem putL_at {α : Type} {ks : List (List Int)} {key : List Int} {l : List α} (x z : α) (h : l.length = ks.length) : (putL ks key l x).getD (posK ks key) z = x := by
  have := posK_le ks key
  have hl : (l.take (posK ks key)).length = posK ks key := by simp; omega
  simp only [putL, List.getD_eq_getElem?_getD]
  rw [List.getElem?_append_right (by omega), hl]
  simp
theorem putL_gt {α : Type} {ks : List (List Int)} {key : List Int} {l : List α} (x z : α) (h : l.length = ks.length) {i : Nat} : (putL ks key l x).getD (posK ks key + 1 + i) z = l.getD (skipK ks key + i) z := by
  have := posK_le ks key
  have hl : (l.take (posK ks key)).length = posK ks key := by simp; omega
  simp only [putL, List.getD_eq_getElem?_getD]
  rw [List.getElem?_append_right (by omega), hl, show posK ks key + 1 + i - posK ks key = i + 1 by omega, List.getElem?_cons_succ, List.getElem?_drop]

theorem set_up {ks : List (List Int)} {key : List Int} (hu : ∀ i, i < ks.length → upB ks i = true) (hb : ∀ i, i < ks.length → ∀ x ∈ ks.getD i [], Byt x) (hy : ∀ y ∈ key, Byt y) : ∀ i, i < (setK ks key).length → upB (setK ks key) i = true := by
  intro i hi
  rw [setK, length_putL _ rfl] at hi
  have hpl := posK_le ks key
  have hsl := skipK_le ks key
  unfold upB
  rw [Bool.or_eq_true, beq_iff_eq]
  by_cases h0 : i = 0
  · exact .inl h0
  refine .inr ?_
  rcases Nat.lt_trichotomy i (posK ks key) with hlt | heq | hgt
  · rw [setK, putL_lt _ _ rfl hlt, putL_lt _ _ rfl (by omega)]
    have := hu i (by omega)
    simpa [upB, h0] using this
  · rw [heq, setK, putL_at _ _ rfl, putL_lt _ _ rfl (by omega)]
    exact pos_lt ks key _ (by omega)
  · obtain ⟨j, rfl⟩ : ∃ j, i = posK ks key + 1 + j := ⟨i - posK ks key - 1, by omega⟩
    rw [setK, putL_gt _ _ rfl]
    have hj : skipK ks key + j < ks.length := by omega
    cases j with
    | zero =>
      rw [show posK ks key + 1 + 0 - 1 = posK ks key by omega, putL_at _ _ rfl]
      exact skip_gt hu hb hy (Nat.le_refl _) hj
    | succ j =>
      rw [show posK ks key + 1 + (j + 1) - 1 = posK ks key + 1 + j by omega, putL_gt _ _ rfl]
      have := hu (skipK ks key + (j + 1)) hj
      have e : ¬ skipK ks key + (j + 1) = 0 := by omega
      simpa [upB, e] using this

theorem set_byt {ks : List (List Int)} {key : List Int} (hb : ∀ i, i < ks.length → ∀ x ∈ ks.getD i [], Byt x) (hy : ∀ y ∈ key, Byt y) (B : Nat) (hl : ∀ i, i < ks.length → (ks.getD i []).length ≤ B) (hk : key.length ≤ B) : ∀ i, i < (setK ks key).length → (∀ x ∈ (setK ks key).getD i [], Byt x) ∧ ((setK ks key).getD i []).length ≤ B := by
  intro i hi
  rw [setK, length_putL _ rfl] at hi
  have hpl := posK_le ks key
  have hsl := skipK_le ks key
  rcases Nat.lt_trichotomy i (posK ks key) with hlt | heq | hgt
  · rw [setK, putL_lt _ _ rfl hlt]
    exact ⟨hb i (by omega), hl i (by omega)⟩
  · rw [heq, setK, putL_at _ _ rfl]
    exact ⟨hy, hk⟩
  · obtain ⟨j, rfl⟩ : ∃ j, i = posK ks key + 1 + j := ⟨i - posK ks key - 1, by omega⟩
    rw [setK, putL_gt _ _ rfl]
    exact ⟨hb _ (by omega), hl _ (by omega)⟩

/-- The parts of a map as a list of as many. -/
def padP (ps : List Value) (n : Nat) : List Value := (List.range n).map fun i => ps.getD i .nilIface
theorem length_padP (ps : List Value) (n : Nat) : (padP ps n).length = n := by simp [padP]
theorem padP_at (ps : List Value) {n i : Nat} (h : i < n) : (padP ps n).getD i .nilIface = ps.getD i .nilIface := by simp [padP, List.getD_eq_getElem?_getD, h]
theorem ent_pad (ks : List (List Int)) (ps : List Value) (n : Nat) : entF ks ps n = entF ks (padP ps n) n := by
  unfold entF
  refine List.map_congr_left fun i hi => ?_
  rw [padP_at ps (List.mem_range.1 hi)]

theorem insert_mid {H : Type} (x : Go.Lit × DataW H) : ∀ (A B : List (Go.Lit × DataW H)), (∀ y ∈ A, x.1.before y.1 = false) → (∀ y ∈ B, x.1.before y.1 = true) → DataW.insert x (A ++ B) = A ++ x :: B
  | [], [], _, _ => rfl
  | [], y :: r, _, h => by
    have h1 := h y (by simp)
    show DataW.insert x (y :: r) = x :: y :: r
    unfold DataW.insert
    rw [h1]
    rfl
  | y :: A, B, h, h' => by
    have h1 := h y (by simp)
    have ih := insert_mid x A B (fun z hz => h z (by simp [hz])) h'
    show DataW.insert x (y :: (A ++ B)) = y :: (A ++ x :: B)
    unfold DataW.insert
    rw [h1, ih]
    rfl

theorem ent_take (ks : List (List Int)) (ps : List Value) {n p : Nat} (h : p ≤ n) : (entF ks ps n).take p = entF ks ps p := by
  unfold entF
  rw [← List.map_take, List.take_range, Nat.min_eq_left h]
theorem ent_at (ks : List (List Int)) (ps : List Value) {n i : Nat} (h : i < n) : (entF ks ps n)[i]? = some (.string (u8s (ks.getD i [])), .held (ps.getD i .nilIface)) := by simp [entF, h]
theorem length_entF (ks : List (List Int)) (ps : List Value) (n : Nat) : (entF ks ps n).length = n := by simp [entF]

theorem before_u8s (a b : List Int) : (Lit.string (u8s a)).before (.string (u8s b)) = ltS a b := before_eq _ _

/-- A key is put. -/
theorem put_ent {ks : List (List Int)} {ps : List Value} {key : List Int} {p : Value} (hu : ∀ i, i < ks.length → upB ks i = true) (hb : ∀ i, i < ks.length → ∀ x ∈ ks.getD i [], Byt x) (hy : ∀ y ∈ key, Byt y) :
    (DataW.map (entF ks ps ks.length)).put (.string (u8s key)) (.held p) = .map (entF (setK ks key) (putL ks key (padP ps ks.length) p) (setK ks key).length) := by
  have hpl := posK_le ks key
  have hsl := skipK_le ks key
  have hln : (setK ks key).length = posK ks key + 1 + (ks.length - skipK ks key) := length_putL _ rfl
  have hlp := length_padP ps ks.length
  rw [ent_pad]
  generalize hq : padP ps ks.length = qs at *
  show DataW.map (DataW.insert (.string (u8s key), .held p) ((entF ks qs ks.length).filter fun q => !q.1.sameKey (.string (u8s key)))) = _
  congr 1
  have hA : ∀ y ∈ (entF ks qs ks.length).take (posK ks key), ∃ i, i < posK ks key ∧ y = (.string (u8s (ks.getD i [])), .held (qs.getD i .nilIface)) := by
    intro y hy'
    rw [ent_take ks qs hpl] at hy'
    simp only [entF, List.mem_map, List.mem_range] at hy'
    obtain ⟨i, hi, rfl⟩ := hy'
    exact ⟨i, hi, rfl⟩
  have hB : ∀ y ∈ (entF ks qs ks.length).drop (skipK ks key), ∃ i, skipK ks key ≤ i ∧ i < ks.length ∧ y = (.string (u8s (ks.getD i [])), .held (qs.getD i .nilIface)) := by
    intro y hy'
    obtain ⟨j, hj⟩ := List.mem_iff_getElem?.1 hy'
    rw [List.getElem?_drop] at hj
    have hl := (List.getElem?_eq_some_iff.1 hj).1
    rw [length_entF] at hl
    rw [ent_at ks qs hl] at hj
    exact ⟨_, by omega, hl, by simpa using hj.symm⟩
  have hf : (entF ks qs ks.length).filter (fun q => !q.1.sameKey (.string (u8s key))) = (entF ks qs ks.length).take (posK ks key) ++ (entF ks qs ks.length).drop (skipK ks key) := by
    have hAf : ((entF ks qs ks.length).take (posK ks key)).filter (fun q => !q.1.sameKey (.string (u8s key))) = (entF ks qs ks.length).take (posK ks key) := by
      rw [List.filter_eq_self]
      intro y hy'
      obtain ⟨i, hi, rfl⟩ := hA y hy'
      have := less_ne (pos_lt ks key i hi)
      simpa [Lit.sameKey] using this
    have hBf : ((entF ks qs ks.length).drop (skipK ks key)).filter (fun q => !q.1.sameKey (.string (u8s key))) = (entF ks qs ks.length).drop (skipK ks key) := by
      rw [List.filter_eq_self]
      intro y hy'
      obtain ⟨i, h1, h2, rfl⟩ := hB y hy'
      have := less_ne (skip_gt hu hb hy h1 h2)
      have h3 : ¬ u8s (ks.getD i []) = u8s key := fun e => by rw [e] at this; simp at this
      simpa [Lit.sameKey] using h3
    rcases skipK_cases ks key with ⟨hs, hlt, he⟩ | ⟨hs, hn⟩
    · have e1 : entF ks qs ks.length = (entF ks qs ks.length).take (posK ks key) ++ ((Lit.string (u8s (ks.getD (posK ks key) [])), DataW.held (qs.getD (posK ks key) .nilIface)) :: (entF ks qs ks.length).drop (skipK ks key)) := by
        conv => lhs; rw [← List.take_append_drop (posK ks key) (entF ks qs ks.length)]
        congr 1
        rw [hs, List.drop_eq_getElem_cons (by rw [length_entF]; exact hlt)]
        congr 1
        have := ent_at ks qs hlt
        rw [List.getElem?_eq_getElem (by rw [length_entF]; exact hlt)] at this
        simpa using this
      conv => lhs; rw [e1]
      rw [List.filter_append, hAf, List.filter_cons]
      have hsame : (Lit.string (u8s (ks.getD (posK ks key) []))).sameKey (.string (u8s key)) = true := by rw [he]; simp [Lit.sameKey]
      simp only [hsame, Bool.not_true, Bool.false_eq_true, if_false]
      rw [hBf]
    · have e1 : entF ks qs ks.length = (entF ks qs ks.length).take (posK ks key) ++ (entF ks qs ks.length).drop (skipK ks key) := by
        rw [hs, List.take_append_drop]
      conv => lhs; rw [e1]
      rw [List.filter_append, hAf, hBf]
  rw [hf, insert_mid]
  · apply List.ext_getElem?
    intro j
    rcases Nat.lt_trichotomy j (posK ks key) with hlt | heq | hgt
    · rw [List.getElem?_append_left (by simp [length_entF]; omega), List.getElem?_take_of_lt hlt, ent_at ks qs (by omega), ent_at _ _ (by omega), setK, putL_lt _ _ rfl hlt, putL_lt _ _ hlp hlt]
    · subst heq
      rw [List.getElem?_append_right (by simp [length_entF]; omega)]
      have e : ((entF ks qs ks.length).take (posK ks key)).length = posK ks key := by simp [length_entF]; omega
      rw [e, Nat.sub_self, List.getElem?_cons_zero, ent_at _ _ (by omega), setK, putL_at _ _ rfl, putL_at _ _ hlp]
    · obtain ⟨i, rfl⟩ : ∃ i, j = posK ks key + 1 + i := ⟨j - posK ks key - 1, by omega⟩
      have e : ((entF ks qs ks.length).take (posK ks key)).length = posK ks key := by simp [length_entF]; omega
      rw [List.getElem?_append_right (by omega), e, show posK ks key + 1 + i - posK ks key = i + 1 by omega, List.getElem?_cons_succ, List.getElem?_drop]
      by_cases hi : skipK ks key + i < ks.length
      · rw [ent_at ks qs hi, ent_at _ _ (by omega), setK, putL_gt _ _ rfl, putL_gt _ _ hlp]
      · rw [List.getElem?_eq_none (by rw [length_entF]; omega), List.getElem?_eq_none (by rw [length_entF]; omega)]
  · intro y hy'
    obtain ⟨i, hi, rfl⟩ := hA y hy'
    show (Lit.string (u8s key)).before (.string (u8s (ks.getD i []))) = false
    rw [before_u8s]
    exact less_asymm (pos_lt ks key i hi)
  · intro y hy'
    obtain ⟨i, h1, h2, rfl⟩ := hB y hy'
    show (Lit.string (u8s key)).before (.string (u8s (ks.getD i []))) = true
    rw [before_u8s]
    exact skip_gt hu hb hy h1 h2
end Go.Proofs.Ytenfnbnhdmkhkaa
/-
  markByteS over a row that may bear a mark of the run-time behind its last cell.
-/
namespace Go.Proofs.Ytenfnbnhdmkhkaa
open Go.RowKit
set_option linter.unusedVariables false

end Go.Proofs.Ytenfnbnhdmkhkaa
/-
  What marking turns: blocks of the call's own alone.
-/
namespace Go.Proofs.Ytenfnbnhdmkhkaa
open Go.RowKit
set_option linter.unusedVariables false
set_option linter.unusedSimpArgs false

/-- Nothing has turned but what lies in the blocks B. -/
structure Turned (B : List Nat) (w w' : World) : Prop where
  os : w'.os = w.os
  tape : w'.tape = w.tape
  output : w'.output = w.output
  size : w.heap.size ≤ w'.heap.size
  block : ∀ b, b < w.heap.size → b ∉ B → w'.heap[b]? = w.heap[b]?

theorem Turned.refl (B : List Nat) (w : World) : Turned B w w := ⟨rfl, rfl, rfl, Nat.le_refl _, fun _ _ _ => rfl⟩
theorem Turned.trans {B : List Nat} {w w1 w2 : World} (h : Turned B w w1) (k : Turned B w1 w2) : Turned B w w2 :=
  ⟨k.os.trans h.os, k.tape.trans h.tape, k.output.trans h.output, Nat.le_trans h.size k.size, fun b hb hn => (k.block b (Nat.lt_of_lt_of_le hb h.size) hn).trans (h.block b hb hn)⟩
theorem Turned.mono {B B' : List Nat} {w w' : World} (h : Turned B w w') (hb : ∀ b ∈ B, b ∈ B') : Turned B' w w' := ⟨h.os, h.tape, h.output, h.size, fun b hl hn => h.block b hl fun hm => hn (hb b hm)⟩
theorem Turned.of_grown {w w' : World} {r : Option Nat} {B : List Nat} (h : w.grownBy w' r) (hr : ∀ g, r = some g → g ∈ B) : Turned B w w' :=
  ⟨h.os, h.tape, h.output, h.size, fun b hb hn => h.block b hb fun e => hn (hr b e.symm)⟩
theorem Turned.below {B : List Nat} {N : Nat} {w w1 w2 : World} (h : Below N w w1) (k : Turned B w1 w2) (hN : N ≤ w.heap.size) (hB : ∀ b ∈ B, N ≤ b) : Below N w w2 :=
  ⟨k.os.trans h.os, k.tape.trans h.tape, k.output.trans h.output, Nat.le_trans h.size k.size, fun b hb => (k.block b (by have := h.size; omega) fun hm => by have := hB b hm; omega).trans (h.block b hb)⟩

/-- The texts after they were marked, from k on. -/
def mkKs : List (List Int) → Nat → List (List Int)
  | [], _ => []
  | x :: r, k => marks k x.length :: mkKs r (k + x.length)
theorem length_mkKs : ∀ (l : List (List Int)) (k : Nat), (mkKs l k).length = l.length
  | [], _ => rfl
  | x :: r, k => by simp [mkKs, length_mkKs r]
/-- The first n are marked. -/
def mixK (l : List (List Int)) (k n : Nat) : List (List Int) := mkKs (l.take n) k ++ l.drop n
theorem mixK_zero (l : List (List Int)) (k : Nat) : mixK l k 0 = l := by simp [mixK, mkKs]
theorem mixK_all (l : List (List Int)) (k : Nat) : mixK l k l.length = mkKs l k := by simp [mixK]
theorem length_mixK (l : List (List Int)) (k n : Nat) (h : n ≤ l.length) : (mixK l k n).length = l.length := by simp [mixK, length_mkKs]; omega
theorem mkKs_append : ∀ (l r : List (List Int)) (k : Nat), mkKs (l ++ r) k = mkKs l k ++ mkKs r (k + (l.map List.length).sum)
  | [], r, k => by simp [mkKs]
  | x :: l, r, k => by simp [mkKs, mkKs_append l r, Nat.add_assoc]
theorem mixK_at (l : List (List Int)) (k n : Nat) (h : n < l.length) : (mixK l k n).getD n [] = l.getD n [] := by
  have hl : (mkKs (l.take n) k).length = n := by rw [length_mkKs]; simp; omega
  unfold mixK
  simp only [List.getD_eq_getElem?_getD]
  rw [List.getElem?_append_right (by omega), hl]
  simp
theorem mixK_succ (l : List (List Int)) (k n : Nat) (h : n < l.length) : mixK l k (n + 1) = (mixK l k n).set n (marks (k + pre List.length l n) (l.getD n []).length) := by
  have e : l.getD n [] = l[n] := by simp [List.getD_eq_getElem?_getD, h]
  unfold mixK pre
  rw [e, List.take_succ_eq_append_getElem h, mkKs_append, List.drop_eq_getElem_cons h]
  have hl : (mkKs (l.take n) k).length = n := by rw [length_mkKs]; simp; omega
  rw [List.set_append_right _ _ (by omega), hl, Nat.sub_self, List.set_cons_zero]
  simp only [mkKs, List.append_assoc, List.singleton_append]

theorem disj_flatten {Bs : List (List Nat)} (h : Bs.flatten.Nodup) {i k : Nat} (hi : i < Bs.length) (hk : k < Bs.length) (hne : i ≠ k) {b : Nat} (h1 : b ∈ Bs.getD i []) (h2 : b ∈ Bs.getD k []) : False := by
  have h' : Bs.flatten.Pairwise (· ≠ ·) := h
  rw [List.pairwise_flatten] at h'
  have hp := List.pairwise_iff_getElem.1 h'.2
  have e1 : Bs.getD i [] = Bs[i] := by simp [List.getD_eq_getElem?_getD, hi]
  have e2 : Bs.getD k [] = Bs[k] := by simp [List.getD_eq_getElem?_getD, hk]
  rw [e1] at h1
  rw [e2] at h2
  rcases Nat.lt_or_gt_of_ne hne with hlt | hgt
  · exact hp i k hi hk hlt b h1 b h2 rfl
  · exact hp k i hk hi hgt b h2 b h1 rfl

/-- One text of a list of the call's own is written anew, in its own block. -/
theorem KOwn.turn {w w' : World} {v : Value} {ks : List (List Int)} {B : List Nat} {g cap : Nat} {cur : Array Value} {Bs : List (List Nat)} (hv : v = .slice (some ⟨g, 0, none⟩) ks.length cap) (hh : w.heap[g]? = some (.cells cur 22 (0, 0))) (h3 : ks.length ≤ cap) (h4 : cap ≤ maxLen) (h5 : cur.size = cap) (h6 : Bs.length = ks.length)
    (h7 : ∀ i, i < ks.length → ∃ u, cur[i]? = some u ∧ TOwn w u (ks.getD i []) (Bs.getD i [])) (hB : B = g :: Bs.flatten) (hN : B.Nodup) {k : Nat} (hk : k < ks.length) {u : Value} (hu : cur[k]? = some u) {x' : List Int} (hx : TOwn w' u x' (Bs.getD k [])) (ht : Turned (Bs.getD k []) w w') : KOwn w' v (ks.set k x') B := by
  subst hB
  have hg : g ∉ Bs.flatten := (List.nodup_cons.1 hN).1
  have hgk : g ∉ Bs.getD k [] := fun h => hg (flatten_mem_getD (by omega) h)
  have hgl : g < w.heap.size := (Array.getElem?_eq_some_iff.1 hh).1
  refine .inr ⟨g, cap, cur, Bs, by simpa using hv, (ht.block g hgl hgk).trans hh, by simpa using h3, h4, h5, by simpa using h6, fun i hi => ?_, rfl, hN⟩
  rw [List.length_set] at hi
  by_cases e : i = k
  · subst e
    exact ⟨u, hu, by simpa [List.getD_eq_getElem?_getD, hk] using hx⟩
  · obtain ⟨u', hu', ht'⟩ := h7 i hi
    refine ⟨u', hu', ?_⟩
    have e2 : (ks.set k x').getD i [] = ks.getD i [] := by simp [List.getD_eq_getElem?_getD, List.getElem?_set_ne (fun h => e h.symm)]
    rw [e2]
    refine ht'.agree fun b hb => ht.block b (ht'.lt b hb) fun hm => ?_
    exact disj_flatten (List.nodup_cons.1 hN).2 (by omega : i < Bs.length) (by omega : k < Bs.length) e hb hm

/-- A text of the call's own, marked. -/
theorem TOwn.marked {w w' : World} {a : Option Addr} {c : Nat} {xs : List Int} {B : List Nat} {m : Nat} (h : TOwn w (.slice a xs.length c) xs B) (hb : BtsF w' (.slice a xs.length c) (marks m xs.length)) : TOwn w' (.slice a xs.length c) (marks m xs.length) B := by
  refine ⟨hb, ?_⟩
  rcases h.2 with ⟨h1, h2⟩ | ⟨g, cap, h1, h2⟩
  · exact .inl ⟨h1, h2⟩
  · exact .inr ⟨g, cap, by rw [length_marks]; exact h1, h2⟩

theorem TOwn.turned {w w' : World} {v : Value} {xs : List Int} {B : List Nat} (h : TOwn w v xs B) (hg : w.grownBy w' v.ownBlock) : Turned B w w' := by
  refine Turned.of_grown hg fun g e => ?_
  rcases h.2 with ⟨rfl, _⟩ | ⟨g', cap, rfl, rfl⟩
  · simp [Value.ownBlock] at e
  · simp [Value.ownBlock] at e
    simp [e]

theorem Bts.far {w w' : World} {base : Nat} {v : Value} {xs : List Int} {B : List Nat} (h : Bts w base v xs) (hT : Turned B w w') (hv : ∀ k, v.ownBlock = some k → k ∉ B) : Bts w' base v xs := by
  have hl := h.2.lt
  refine ⟨h.1, h.2.1, ?_⟩
  rcases h.2.2 with h0 | ⟨g, cap, cur, rfl, hg, hh, r⟩
  · exact .inl h0
  · exact .inr ⟨g, cap, cur, rfl, hg, (hT.block g (hl g rfl).2 (hv g rfl)).trans hh, r⟩
end Go.Proofs.Ytenfnbnhdmkhkaa
/-
  markByteSS of the laws: a list of texts of the call's own, marked.
-/
namespace Go.Proofs.Ytenfnbnhdmkhkaa
open Go.RowKit
set_option linter.unusedVariables false
set_option linter.unusedSimpArgs false

end Go.Proofs.Ytenfnbnhdmkhkaa
/-
  A list marked item by item. Plain mathematics, and small laws.
-/
namespace Go.Proofs.Ytenfnbnhdmkhkaa
open Go.RowKit
set_option linter.unusedVariables false
set_option linter.unusedSimpArgs false

/-- A list after it was marked. -/
def mkLs {α : Type} (f : α → Nat → α) (c : α → Nat) : List α → Nat → List α
  | [], _ => []
  | x :: r, k => f x k :: mkLs f c r (k + c x)

theorem length_mkLs {α : Type} (f : α → Nat → α) (c : α → Nat) : ∀ (l : List α) (k : Nat), (mkLs f c l k).length = l.length
  | [], _ => rfl
  | x :: r, k => by simp [mkLs, length_mkLs f c r]
theorem mkLs_append {α : Type} (f : α → Nat → α) (c : α → Nat) : ∀ (l r : List α) (k : Nat), mkLs f c (l ++ r) k = mkLs f c l k ++ mkLs f c r (k + (l.map c).sum)
  | [], r, k => by simp [mkLs]
  | x :: l, r, k => by simp [mkLs, mkLs_append f c l r, Nat.add_assoc]

/-- The first n are marked. -/
def mixL {α : Type} (f : α → Nat → α) (c : α → Nat) (l : List α) (k n : Nat) : List α := mkLs f c (l.take n) k ++ l.drop n
theorem mixL_zero {α : Type} (f : α → Nat → α) (c : α → Nat) (l : List α) (k : Nat) : mixL f c l k 0 = l := by simp [mixL, mkLs]
theorem mixL_all {α : Type} (f : α → Nat → α) (c : α → Nat) (l : List α) (k : Nat) : mixL f c l k l.length = mkLs f c l k := by simp [mixL]
theorem length_mixL {α : Type} (f : α → Nat → α) (c : α → Nat) (l : List α) (k n : Nat) (h : n ≤ l.length) : (mixL f c l k n).length = l.length := by simp [mixL, length_mkLs]; omega
theorem mixL_at {α : Type} (f : α → Nat → α) (c : α → Nat) (l : List α) (k n : Nat) (h : n < l.length) : (mixL f c l k n)[n]'(by rw [length_mixL f c l k n (Nat.le_of_lt h)]; exact h) = l[n] := by
  unfold mixL
  have hl : (mkLs f c (l.take n) k).length = n := by rw [length_mkLs]; simp; omega
  rw [List.getElem_append_right (by omega)]
  simp [hl]
theorem mixL_succ {α : Type} (f : α → Nat → α) (c : α → Nat) (l : List α) (k n : Nat) (h : n < l.length) : mixL f c l k (n + 1) = (mixL f c l k n).set n (f l[n] (k + pre c l n)) := by
  unfold mixL pre
  rw [List.take_succ_eq_append_getElem h, mkLs_append, List.drop_eq_getElem_cons h]
  have hl : (mkLs f c (l.take n) k).length = n := by rw [length_mkLs]; simp; omega
  rw [List.set_append_right _ _ (by omega), hl, Nat.sub_self, List.set_cons_zero]
  simp only [mkLs, List.append_assoc, List.singleton_append]

theorem agree_turned {B C : List Nat} {w w' : World} (h : Turned B w w') (hl : ∀ b ∈ C, b < w.heap.size) (hd : ∀ b ∈ C, b ∉ B) : Agree (fun b => b ∈ C) w w' := fun b hb => h.block b (hl b hb) (hd b hb)

theorem arg_eq {F : Nat} {v : Value} {x y : Int} {w : World} {Q : Ending → World → Prop} (e : x = y) (h : Calls Try.prog F #[v, .int .i64 x] w Q) : Calls Try.prog F #[v, .int .i64 y] w Q := e ▸ h
end Go.Proofs.Ytenfnbnhdmkhkaa
/-
  The laws' own helper markValueS: running numbers written into a list of values of the call's own, at every depth; markValue.
-/
namespace Go.Proofs.Ytenfnbnhdmkhkaa
open Go.RowKit
set_option linter.unusedVariables false
set_option linter.unusedSimpArgs false

/-- How many numbers a value of a list takes. -/
def cE : (d : Nat) → Vl d → Nat
  | 0, _ => 0
  | d + 1, v => 2 + (v.2.2.1.length + ((v.2.2.2.1.map List.length).sum + (v.2.2.2.2.map (cE d)).sum))


/-- A value of a list after it was marked, from k on. -/
def mkE : (d : Nat) → Vl d → Nat → Vl d
  | 0, v, _ => v
  | d + 1, v, k => ((k : Int), ((k + 1 : Nat) : Int), marks (k + 2) v.2.2.1.length, mkKs v.2.2.2.1 (k + 2 + v.2.2.1.length), mkLs (mkE d) (cE d) v.2.2.2.2 (k + 2 + v.2.2.1.length + (v.2.2.2.1.map List.length).sum))


/-- One value of a list of the call's own is written anew, in its own blocks. -/
theorem LOwn.turn {w w' : World} {d : Nat} {x : Value} {l : List (Vl d)} {B : List Nat} {g cap : Nat} {cur cur' : Array Value} {Bi : List (List Nat)} (hx : x = .slice (some ⟨g, 0, none⟩) l.length cap) (h3 : l.length ≤ cap) (h4 : cap ≤ maxLen) (h5 : cur.size = cap * 5) (h6 : Bi.length = l.length)
    (h7 : ∀ i (h : i < l.length), ∃ e, Cells5 cur (i * 5) e ∧ VOwn w d e (l[i]) (Bi.getD i [])) (hB : B = g :: Bi.flatten) (hN : B.Nodup) {k : Nat} (hk : k < l.length) (hh' : w'.heap[g]? = some (.cells cur' 26 (0, 0))) (hsz : cur'.size = cur.size) (hoth : ∀ j, j < k * 5 ∨ k * 5 + 5 ≤ j → cur'[j]? = cur[j]?)
    {e' : Value × Value × Value × Value × Value} (he' : Cells5 cur' (k * 5) e') {v' : Vl d} (hv' : VOwn w' d e' v' (Bi.getD k [])) (ht : Turned (g :: Bi.getD k []) w w') : LOwn w' d x (l.set k v') B := by
  subst hB
  have hg : g ∉ Bi.flatten := (List.nodup_cons.1 hN).1
  refine .inr ⟨g, cap, cur', Bi, by simpa using hx, hh', by simpa using h3, h4, by omega, by simpa using h6, fun i hi => ?_, rfl, hN⟩
  have hi' : i < l.length := by simpa using hi
  by_cases e : i = k
  · subst e
    exact ⟨e', he', by simpa using hv'⟩
  · obtain ⟨u, hc, hv⟩ := h7 i hi'
    refine ⟨u, ?_, ?_⟩
    · obtain ⟨q0, q1, q2, q3, q4⟩ := hc
      refine ⟨?_, ?_, ?_, ?_, ?_⟩ <;> rw [hoth _ (by omega)] <;> assumption
    · rw [List.getElem_set_ne (fun h => e h.symm)]
      refine VOwn.agree d hv fun b hb => ht.block b (VOwn.lt d hv b hb) fun hm => ?_
      rcases List.mem_cons.1 hm with rfl | hm
      · exact hg (flatten_mem_getD (by omega) hb)
      · exact disj_flatten (List.nodup_cons.1 hN).2 (by omega : i < Bi.length) (by omega : k < Bi.length) e hb hm

/-- What is left of the room behind the first k. -/
theorem cE_le (d : Nat) (v : Vl (d + 1)) : cE (d + 1) v = 2 + (v.2.2.1.length + ((v.2.2.2.1.map List.length).sum + (v.2.2.2.2.map (cE d)).sum)) := rfl

/-- The row of a list while one value of it is marked: its first two cells. -/
theorem set2_cells {cur : Array Value} {j : Nat} {c0 c1 c2 c3 c4 a b : Value} (h : Cells5 cur j (c0, c1, c2, c3, c4)) : Cells5 ((cur.setIfInBounds j a).setIfInBounds (j + 1) b) j (a, b, c2, c3, c4) := by
  obtain ⟨h0, h1, h2, h3, h4⟩ := h
  have l1 := (Array.getElem?_eq_some_iff.1 h1).1
  simp only at h0 h1 h2 h3 h4
  refine ⟨?_, ?_, ?_, ?_, ?_⟩
  · simp only
    rw [Array.getElem?_setIfInBounds_ne (by omega), Array.getElem?_setIfInBounds_self]
    simp; omega
  · simp only
    rw [Array.getElem?_setIfInBounds_self]
    simp; omega
  · simp only
    rw [Array.getElem?_setIfInBounds_ne (by omega), Array.getElem?_setIfInBounds_ne (by omega)]
    exact h2
  · simp only
    rw [Array.getElem?_setIfInBounds_ne (by omega), Array.getElem?_setIfInBounds_ne (by omega)]
    exact h3
  · simp only
    rw [Array.getElem?_setIfInBounds_ne (by omega), Array.getElem?_setIfInBounds_ne (by omega)]
    exact h4

/-- The two first stores. -/
def set2 (w : World) (g j : Nat) (a b : Value) : World := (w.setCell ⟨g, j, none⟩ a).setCell ⟨g, j + 1, none⟩ b
theorem set2_heap {w : World} {g j : Nat} {cur : Array Value} {T : TypeId} (a b : Value) (h : w.heap[g]? = some (.cells cur T (0, 0))) : (set2 w g j a b).heap[g]? = some (.cells ((cur.setIfInBounds j a).setIfInBounds (j + 1) b) T (0, 0)) :=
  heap_setCell_same _ g (j + 1) _ T b (heap_setCell_same w g j cur T a h)
theorem set2_turned (w : World) (g j : Nat) (a b : Value) : Turned [g] w (set2 w g j a b) :=
  Turned.of_grown (grownBy_trans (grown1 w g j a) (grown1 _ g (j + 1) b)) fun k e => by simp at e; simp [e]


theorem LOwn.lt {w : World} {d : Nat} {x : Value} {l : List (Vl d)} {B : List Nat} (h : LOwn w d x l B) : ∀ b ∈ B, b < w.heap.size := by
  intro b hb
  rcases h with ⟨_, _, rfl⟩ | ⟨g, cap, cur, Bi, _, h2, _, _, _, h6, h7, rfl, _⟩
  · simp at hb
  · rcases List.mem_cons.1 hb with rfl | hb
    · exact (Array.getElem?_eq_some_iff.1 h2).1
    · obtain ⟨q, hq, hbq⟩ := List.mem_flatten.1 hb
      obtain ⟨i, hi, rfl⟩ := List.getElem_of_mem hq
      obtain ⟨e, _, hv⟩ := h7 i (by omega)
      exact VOwn.lt d hv b (by simpa [List.getD_eq_getElem?_getD, hi] using hbq)

/-- One value of a list while it is marked. -/
def MkSt (wr : World) (g : Nat) (cur : Array Value) (d : Nat) (c2 c3 c4 : Value) (S : List Int) (K : List (List Int)) (L : List (Vl d)) (Bs Bk Bl : List Nat) (wx : World) : Prop :=
  TOwn wx c2 S Bs ∧ KOwn wx c3 K Bk ∧ LOwn wx d c4 L Bl ∧ wx.heap[g]? = some (.cells cur 26 (0, 0)) ∧ Turned (g :: (Bs ++ (Bk ++ Bl))) wr wx

section
variable {wr : World} {g : Nat} {cur : Array Value} {d : Nat} {c2 c3 c4 : Value} {S S2 : List Int} {K K2 : List (List Int)} {L L2 : List (Vl d)} {Bs Bk Bl : List Nat} {wx wy : World}

theorem nd_parts (h : (g :: (Bs ++ (Bk ++ Bl))).Nodup) : g ∉ Bs ∧ g ∉ Bk ∧ g ∉ Bl ∧ (∀ b ∈ Bk, b ∉ Bs) ∧ (∀ b ∈ Bl, b ∉ Bs) ∧ (∀ b ∈ Bl, b ∉ Bk) := by
  rw [List.nodup_cons, List.nodup_append, List.nodup_append] at h
  obtain ⟨h1, _, ⟨_, _, h4⟩, h5⟩ := h
  simp only [List.mem_append, not_or] at h1
  refine ⟨h1.1, h1.2.1, h1.2.2, fun b hb hs => h5 b hs b (List.mem_append_left _ hb) rfl, fun b hb hs => h5 b hs b (List.mem_append_right _ hb) rfl, fun b hb hk => h4 b hk b hb rfl⟩

theorem MkSt.text (h : MkSt wr g cur d c2 c3 c4 S K L Bs Bk Bl wx) (hnd : (g :: (Bs ++ (Bk ++ Bl))).Nodup) (ht : TOwn wy c2 S2 Bs) (hT : Turned Bs wx wy) : MkSt wr g cur d c2 c3 c4 S2 K L Bs Bk Bl wy := by
  obtain ⟨n1, n2, n3, n4, n5, n6⟩ := nd_parts hnd
  obtain ⟨h1, h2, h3, h4, h5⟩ := h
  exact ⟨ht, h2.agree fun b hb => hT.block b (h2.lt b hb) (n4 b hb), LOwn.agree h3 fun b hb => hT.block b (h3.lt b hb) (n5 b hb), (hT.block g (Array.getElem?_eq_some_iff.1 h4).1 n1).trans h4, h5.trans (hT.mono fun b hb => List.mem_cons_of_mem _ (List.mem_append_left _ hb))⟩

theorem MkSt.keys (h : MkSt wr g cur d c2 c3 c4 S K L Bs Bk Bl wx) (hnd : (g :: (Bs ++ (Bk ++ Bl))).Nodup) (ht : KOwn wy c3 K2 Bk) (hT : Turned Bk wx wy) : MkSt wr g cur d c2 c3 c4 S K2 L Bs Bk Bl wy := by
  obtain ⟨n1, n2, n3, n4, n5, n6⟩ := nd_parts hnd
  obtain ⟨h1, h2, h3, h4, h5⟩ := h
  exact ⟨h1.agree fun b hb => hT.block b (h1.lt b hb) (fun hm => n4 b hm hb), ht, LOwn.agree h3 fun b hb => hT.block b (h3.lt b hb) (n6 b hb), (hT.block g (Array.getElem?_eq_some_iff.1 h4).1 n2).trans h4, h5.trans (hT.mono fun b hb => List.mem_cons_of_mem _ (List.mem_append_right _ (List.mem_append_left _ hb)))⟩

theorem MkSt.list (h : MkSt wr g cur d c2 c3 c4 S K L Bs Bk Bl wx) (hnd : (g :: (Bs ++ (Bk ++ Bl))).Nodup) (ht : LOwn wy d c4 L2 Bl) (hT : Turned Bl wx wy) : MkSt wr g cur d c2 c3 c4 S K L2 Bs Bk Bl wy := by
  obtain ⟨n1, n2, n3, n4, n5, n6⟩ := nd_parts hnd
  obtain ⟨h1, h2, h3, h4, h5⟩ := h
  exact ⟨h1.agree fun b hb => hT.block b (h1.lt b hb) (fun hm => n5 b hm hb), h2.agree fun b hb => hT.block b (h2.lt b hb) (fun hm => n6 b hm hb), ht, (hT.block g (Array.getElem?_eq_some_iff.1 h4).1 n3).trans h4, h5.trans (hT.mono fun b hb => List.mem_cons_of_mem _ (List.mem_append_right _ (List.mem_append_right _ hb)))⟩

theorem MkSt.start {cur0 : Array Value} {j : Nat} {a b : Value} (h1 : TOwn wr c2 S Bs) (h2 : KOwn wr c3 K Bk) (h3 : LOwn wr d c4 L Bl) (hh : wr.heap[g]? = some (.cells cur0 26 (0, 0))) (hnd : (g :: (Bs ++ (Bk ++ Bl))).Nodup) :
    MkSt wr g ((cur0.setIfInBounds j a).setIfInBounds (j + 1) b) d c2 c3 c4 S K L Bs Bk Bl (set2 wr g j a b) := by
  obtain ⟨n1, n2, n3, n4, n5, n6⟩ := nd_parts hnd
  have hT := set2_turned wr g j a b
  exact ⟨h1.agree fun b hb => hT.block b (h1.lt b hb) (by simp; intro e; exact n1 (e ▸ hb)), h2.agree fun b hb => hT.block b (h2.lt b hb) (by simp; intro e; exact n2 (e ▸ hb)), LOwn.agree h3 fun b hb => hT.block b (h3.lt b hb) (by simp; intro e; exact n3 (e ▸ hb)), set2_heap a b hh, hT.mono (by simp)⟩
end


/-- A value after it was marked, from k on: its own kind and number stay. -/
def mkV (d : Nat) (v : Vl (d + 1)) (k : Nat) : Vl (d + 1) := (v.1, v.2.1, marks k v.2.2.1.length, mkKs v.2.2.2.1 (k + v.2.2.1.length), mkLs (mkE d) (cE d) v.2.2.2.2 (k + v.2.2.1.length + (v.2.2.2.1.map List.length).sum))
/-- How many numbers it takes. -/
def cV (d : Nat) (v : Vl (d + 1)) : Nat := v.2.2.1.length + (v.2.2.2.1.map List.length).sum + (v.2.2.2.2.map (cE d)).sum
end Go.Proofs.Ytenfnbnhdmkhkaa
/-
  markValue of the laws over a value of the call's own; heldValueS and heldValue find the running numbers there.
-/
namespace Go.Proofs.Ytenfnbnhdmkhkaa
open Go.RowKit
set_option linter.unusedVariables false
set_option linter.unusedSimpArgs false

end Go.Proofs.Ytenfnbnhdmkhkaa
/-
  What a call has made for itself can be read by whoever comes behind it.
-/
namespace Go.Proofs.Ytenfnbnhdmkhkaa
open Go.RowKit
set_option linter.unusedVariables false

/-- What a call has made for itself can be read by whoever comes behind it. -/
theorem VOwn.below {w w' : World} {d : Nat} {c : Value × Value × Value × Value × Value} {v : Vl d} {B : List Nat} (h : VOwn w d c v B) (hb : Below w.heap.size w w') : VSeg (fun b => b < w.heap.size) w' d c v :=
  VSeg.agree (agree_below hb) d (VSeg.mono (fun b hb => VOwn.lt d h b hb) d (VOwn.seg d h))
end Go.Proofs.Ytenfnbnhdmkhkaa
