/-
  Addresses as lists of bytes: what is one, and its first name; that the program's way of asking (read loosely, written anew, held against it) asks the same.
-/
import Derived.Test.YthmljjebggljmaaDoorAdI
import Derived.Test.YthmljjebggljmaaDoorAdKi
import Derived.Lib.AtoiAll
import Derived.Lib.SlTrimSet
namespace Go.Proofs.YthmljjebggljmaaDoor
open Go.RowKit
set_option linter.unusedVariables false
set_option linter.unusedSimpArgs false

/-- Where the first bracket stands; behind all, if there is none. -/
def cutI (xs : List Int) : Nat := xs.findIdx (fun c => decide (c = 91))
theorem cutI_le (xs : List Int) : cutI xs ≤ xs.length := List.findIdx_le_length
theorem cutI_eq {xs : List Int} {k : Nat} (h : ∀ i, i < k → xs.getD i 0 ≠ 91) (hk : k = xs.length ∨ (k < xs.length ∧ xs.getD k 0 = 91)) : cutI xs = k := by
  rcases hk with rfl | ⟨h1, h2⟩
  · refine List.findIdx_eq_length.2 fun x hx => ?_
    obtain ⟨i, hi, rfl⟩ := List.getElem_of_mem hx
    have := h i hi
    simpa [List.getD_eq_getElem?_getD, hi] using this
  · refine (List.findIdx_eq h1).2 ⟨?_, fun j hj => ?_⟩
    · simpa [List.getD_eq_getElem?_getD, h1] using h2
    · have := h j hj
      simpa [List.getD_eq_getElem?_getD, Nat.lt_trans hj h1] using this
theorem cutI_split {xs : List Int} (h : cutI xs < xs.length) : xs = xs.take (cutI xs) ++ 91 :: xs.drop (cutI xs + 1) := by
  have h1 := ((List.findIdx_eq h).1 rfl).1
  have h2 : xs[cutI xs] = 91 := by simpa using h1
  conv => lhs; rw [← List.take_append_drop (cutI xs) xs]
  rw [List.drop_eq_getElem_cons h, h2]

/-- A digit. -/
def digB (c : Int) : Bool := decide (48 ≤ c) && decide (c ≤ 57)
/-- What stands between the brackets. -/
def innB (ys : List Int) : Bool :=
  if ys.getD 0 0 = 34 then decide (3 ≤ ys.length) && decide (ys.getD (ys.length - 1) 0 = 34) && nameB ((ys.drop 1).take (ys.length - 2))
  else decide (ys.length ≤ 2) && !(decide (ys.length = 2) && decide (ys.getD 0 0 = 48)) && ys.all digB
/-- What stands behind the first bracket. -/
def innR (r : List Int) : Bool := decide (2 ≤ r.length) && decide (r.getD (r.length - 1) 0 = 93) && innB (r.take (r.length - 1))
/-- An address. -/
def addrB (xs : List Int) : Bool := nameB (xs.take (cutI xs)) && (decide (cutI xs = xs.length) || innR (xs.drop (cutI xs + 1)))
/-- Its first name; nothing if it is none. -/
def addrN (xs : List Int) : List Int := if addrB xs = true then xs.take (cutI xs) else []

theorem snoc_of {l : List Int} {c : Int} (h : 0 < l.length) (hc : l.getD (l.length - 1) 0 = c) : l = l.take (l.length - 1) ++ [c] := by
  conv => lhs; rw [← List.take_append_drop (l.length - 1) l]
  congr 1
  have h1 : l.length - 1 < l.length := by omega
  rw [List.drop_eq_getElem_cons h1]
  have h2 : l[l.length - 1] = c := by simpa [List.getD_eq_getElem?_getD, h1] using hc
  rw [h2, List.drop_eq_nil_of_le (by omega)]

theorem innB_iff (ys : List Int) (h0 : 0 < ys.length) : innB ys = true ↔ (∃ u, u ≤ 99 ∧ ys = decI u) ∨ ∃ k, nameB k = true ∧ ys = 34 :: (k ++ [34]) := by
  constructor
  · intro h
    unfold innB at h
    by_cases hq : ys.getD 0 0 = 34
    · rw [if_pos hq] at h
      simp only [Bool.and_eq_true, decide_eq_true_eq] at h
      obtain ⟨⟨h1, h2⟩, h3⟩ := h
      refine .inr ⟨_, h3, ?_⟩
      cases ys with
      | nil => simp at h0
      | cons y t =>
        simp only [List.getD_cons_zero] at hq
        subst hq
        congr 1
        have ht : 0 < t.length := by simp at h1; omega
        have he : (34 :: t).getD ((34 :: t).length - 1) 0 = t.getD (t.length - 1) 0 := by
          simp only [List.length_cons, Nat.add_sub_cancel]
          obtain ⟨m, hm⟩ : ∃ m, t.length = m + 1 := ⟨t.length - 1, by omega⟩
          rw [hm]
          simp
        rw [he] at h2
        have := snoc_of ht h2
        simpa using this
    · rw [if_neg hq] at h
      simp only [Bool.and_eq_true, decide_eq_true_eq, Bool.not_eq_true', Bool.and_eq_false_imp, decide_eq_false_iff_not] at h
      obtain ⟨⟨h1, h2⟩, h3⟩ := h
      match ys, h0, h1, h2, h3 with
      | [c], _, _, _, h3 =>
        simp [digB] at h3
        refine .inl ⟨(c - 48).toNat, by omega, ?_⟩
        rw [decI_small (by omega)]
        simp
        omega
      | [c, d], _, _, h2, h3 =>
        simp [digB] at h2 h3
        have hu : ¬ ((c - 48) * 10 + (d - 48)).toNat < 10 := by omega
        refine .inl ⟨((c - 48) * 10 + (d - 48)).toNat, by omega, ?_⟩
        rw [decI_big hu, decI_small (by omega)]
        simp
        omega
      | _ :: _ :: _ :: _, _, h1, _, _ => simp at h1
  · rintro (⟨u, hu, rfl⟩ | ⟨k, hk, rfl⟩)
    · by_cases h : u < 10
      · rw [decI_small h]
        unfold innB
        rw [if_neg (by simp; omega)]
        simp [digB]
        omega
      · rw [decI_big h, decI_small (by omega)]
        unfold innB
        rw [if_neg (by simp; omega)]
        simp [digB]
        omega
    · have hl := nameB_le hk
      unfold innB
      rw [if_pos (by simp)]
      have e1 : (34 :: (k ++ [34])).length = k.length + 2 := by simp
      simp only [e1, Bool.and_eq_true, decide_eq_true_eq]
      refine ⟨⟨by omega, ?_⟩, ?_⟩
      · have : k.length + 2 - 1 = (34 :: k).length := by simp
        rw [this, ← List.cons_append]
        simp [List.getD_eq_getElem?_getD]
      · have : ((34 :: (k ++ [34])).drop 1).take (k.length + 2 - 2) = k := by simp
        rw [this]; exact hk

theorem innR_iff (r : List Int) : innR r = true ↔ (∃ u, u ≤ 99 ∧ r = decI u ++ [93]) ∨ ∃ k, nameB k = true ∧ r = 34 :: (k ++ [34, 93]) := by
  constructor
  · intro h
    simp only [innR, Bool.and_eq_true, decide_eq_true_eq] at h
    obtain ⟨⟨h1, h2⟩, h3⟩ := h
    have hs := snoc_of (by omega) h2
    rcases (innB_iff _ (by simp; omega)).1 h3 with ⟨u, hu, e⟩ | ⟨k, hk, e⟩
    · exact .inl ⟨u, hu, by rw [← e]; exact hs⟩
    · refine .inr ⟨k, hk, ?_⟩
      rw [e] at hs
      simpa using hs
  · intro h
    have : ∃ ys, 0 < ys.length ∧ r = ys ++ [93] ∧ innB ys = true := by
      rcases h with ⟨u, hu, rfl⟩ | ⟨k, hk, rfl⟩
      · refine ⟨decI u, ?_, rfl, ?_⟩
        · by_cases h : u < 10
          · rw [decI_small h]; simp
          · rw [decI_big h]; simp
        · have hp : 0 < (decI u).length := by
            by_cases h : u < 10
            · rw [decI_small h]; simp
            · rw [decI_big h]; simp
          exact (innB_iff _ hp).2 (.inl ⟨u, hu, rfl⟩)
      · exact ⟨34 :: (k ++ [34]), by simp, by simp, (innB_iff _ (by simp)).2 (.inr ⟨k, hk, rfl⟩)⟩
    obtain ⟨ys, hp, rfl, hi⟩ := this
    simp only [innR, Bool.and_eq_true, decide_eq_true_eq]
    refine ⟨⟨by simp; omega, by simp [List.getD_eq_getElem?_getD]⟩, by simpa using hi⟩

/-- The last bytes that are c, cut off. -/
def trimR (c : Int) (ys : List Int) : List Int := (ys.reverse.dropWhile (fun x => decide (x = c))).reverse
/-- The first bytes that are c, cut off. -/
def trimL (c : Int) (ys : List Int) : List Int := ys.dropWhile (fun x => decide (x = c))

theorem trimR_snoc {c d : Int} (ys : List Int) (h : d ≠ c) : trimR c (ys ++ [d, c]) = ys ++ [d] := by
  unfold trimR
  simp [List.dropWhile, h]

theorem decI_snoc (u : Nat) : ∃ ys d, decI u = ys ++ [d] ∧ 48 ≤ d ∧ d ≤ 57 := by
  by_cases h : u < 10
  · exact ⟨[], 48 + u, by rw [decI_small h]; rfl, by omega, by omega⟩
  · exact ⟨_, _, decI_big h, by omega, by omega⟩

theorem trimR_dec (u : Nat) : trimR 93 (decI u ++ [93]) = decI u := by
  obtain ⟨ys, d, e, h1, h2⟩ := decI_snoc u
  rw [e, List.append_assoc]
  exact trimR_snoc ys (by omega)
theorem trimR_key (k : List Int) : trimR 93 (34 :: (k ++ [34, 93])) = 34 :: (k ++ [34]) := by
  rw [← List.cons_append, ← List.cons_append]
  exact trimR_snoc (34 :: k) (by omega)

theorem name_head {k : List Int} (h : nameB k = true) : ∃ c t, k = c :: t ∧ c ≠ 34 := by
  have hl := nameB_le h
  cases k with
  | nil => simp at hl
  | cons c t =>
    refine ⟨c, t, rfl, ?_⟩
    simp [nameB, letB] at h
    omega
theorem name_last {k : List Int} (h : nameB k = true) : ∃ t c, k = t ++ [c] ∧ c ≠ 34 := by
  have hl := nameB_le h
  have hp : k.length - 1 < k.length := by omega
  refine ⟨_, k[k.length - 1], snoc_of (by omega) (by simp [List.getD_eq_getElem?_getD, hp]), ?_⟩
  simp only [nameB, Bool.and_eq_true, List.all_eq_true] at h
  have := h.2 _ (List.getElem_mem hp)
  simp [letB] at this
  omega
theorem trim_name {k : List Int} (h : nameB k = true) : trimR 34 (34 :: (k ++ [34])) = 34 :: k ∧ trimL 34 (34 :: k) = k := by
  obtain ⟨t, c, e, hc⟩ := name_last h
  obtain ⟨c', t', e', hc'⟩ := name_head h
  constructor
  · rw [e, List.append_assoc]
    show trimR 34 (34 :: (t ++ [c, 34])) = _
    rw [← List.cons_append, trimR_snoc _ hc]
    rfl
  · rw [e']
    simp [trimL, List.dropWhile, hc']

theorem item_iff {xs : List Int} (n : Int) (h : cutI xs < xs.length) : xs = addrItem (xs.take (cutI xs)) n ↔ nameB (xs.take (cutI xs)) = true ∧ 0 ≤ n ∧ n ≤ 99 ∧ xs.drop (cutI xs + 1) = decI n.toNat ++ [93] := by
  have hs := cutI_split h
  generalize xs.take (cutI xs) = p at *
  generalize xs.drop (cutI xs + 1) = r at *
  constructor
  · intro e
    by_cases hc : nameB p = true ∧ 0 ≤ n ∧ n ≤ 99
    · refine ⟨hc.1, hc.2.1, hc.2.2, ?_⟩
      unfold addrItem at e
      rw [if_pos hc, hs] at e
      simpa using e
    · rw [addrItem_no _ _ hc] at e
      rw [e] at hs
      simp at hs
  · rintro ⟨h1, h2, h3, h4⟩
    unfold addrItem
    rw [if_pos ⟨h1, h2, h3⟩]
    rw [h4] at hs
    simpa using hs
theorem key_iff {xs : List Int} (k : List Int) (h : cutI xs < xs.length) : xs = addrKey (xs.take (cutI xs)) k ↔ nameB (xs.take (cutI xs)) = true ∧ nameB k = true ∧ xs.drop (cutI xs + 1) = 34 :: (k ++ [34, 93]) := by
  have hs := cutI_split h
  generalize xs.take (cutI xs) = p at *
  generalize xs.drop (cutI xs + 1) = r at *
  constructor
  · intro e
    by_cases hc : nameB p = true ∧ nameB k = true
    · refine ⟨hc.1, hc.2, ?_⟩
      unfold addrKey at e
      rw [if_pos hc, hs] at e
      simpa using e
    · rw [addrKey_no _ _ hc] at e
      rw [e] at hs
      simp at hs
  · rintro ⟨h1, h2, h4⟩
    unfold addrKey
    rw [if_pos ⟨h1, h2⟩]
    rw [h4] at hs
    simpa using hs

/-- The program's way. -/
theorem addrN_way {xs : List Int} {n : Int} {key : List Int} (h : cutI xs < xs.length) (hn : ∀ u : Nat, u ≤ 99 → trimR 93 (xs.drop (cutI xs + 1)) = decI u → n = u) (hk : ∀ k, nameB k = true → trimR 93 (xs.drop (cutI xs + 1)) = 34 :: (k ++ [34]) → key = k) :
    (xs = addrItem (xs.take (cutI xs)) n ∨ xs = addrKey (xs.take (cutI xs)) key → addrN xs = nameC (xs.take (cutI xs))) ∧ (¬ xs = addrItem (xs.take (cutI xs)) n → ¬ xs = addrKey (xs.take (cutI xs)) key → addrN xs = []) := by
  have hne : ¬ cutI xs = xs.length := by omega
  have hB : addrB xs = true ↔ nameB (xs.take (cutI xs)) = true ∧ innR (xs.drop (cutI xs + 1)) = true := by simp [addrB, hne]
  rw [item_iff n h, key_iff key h]
  constructor
  · intro h'
    have hb : addrB xs = true := by
      rw [hB, innR_iff]
      rcases h' with ⟨h1, h2, h3, h4⟩ | ⟨h1, h2, h4⟩
      · exact ⟨h1, .inl ⟨n.toNat, by omega, h4⟩⟩
      · exact ⟨h1, .inr ⟨key, h2, h4⟩⟩
    simp [addrN, nameC, hb, (hB.1 hb).1]
  · intro h1 h2
    have hb : ¬ addrB xs = true := by
      rw [hB, innR_iff]
      rintro ⟨hp, ⟨u, hu, e⟩ | ⟨k, hk', e⟩⟩
      · have := hn u hu (by rw [e, trimR_dec])
        subst this
        exact h1 ⟨hp, by omega, by omega, by simpa using e⟩
      · have := hk k hk' (by rw [e, trimR_key])
        subst this
        exact h2 ⟨hp, hk', e⟩
    simp [addrN, hb]
theorem addrN_bare {xs : List Int} (h : cutI xs = xs.length) : addrN xs = nameC xs := by
  have e : xs.take (cutI xs) = xs := by rw [h]; simp
  simp [addrN, addrB, nameC, h]
theorem addrN_len (xs : List Int) : decide (0 < (addrN xs).length) = addrB xs := by
  unfold addrN
  by_cases h : addrB xs = true
  · have h1 : nameB (xs.take (cutI xs)) = true := by simp [addrB] at h; exact h.1
    have := (nameB_le h1).1
    simp only [h, if_true]
    exact decide_eq_true (by omega)
  · simp [h]

/-! the library's trims and numbers, at such lists -/

theorem ofNat_eq {x c : Int} (hx : Byt x) (hc : Byt c) : (UInt8.ofNat x.toNat == UInt8.ofNat c.toNat) = decide (x = c) := by
  unfold Byt at hx hc
  by_cases h : x = c
  · subst h; simp
  · simp only [h, decide_false, beq_eq_false_iff_ne, ne_eq]
    intro e
    have := congrArg UInt8.toNat e
    simp at this
    omega
theorem dropW_bytes {c : Int} (hc : Byt c) : ∀ (l : List Int), (∀ x ∈ l, Byt x) → (u8s l).dropWhile ([UInt8.ofNat c.toNat].contains ·) = u8s (l.dropWhile (fun x => decide (x = c)))
  | [], _ => rfl
  | x :: l, h => by
    have hx := h x (by simp)
    have ih := dropW_bytes hc l (fun y hy => h y (by simp [hy]))
    have e := ofNat_eq hx hc
    unfold u8s at ih ⊢
    simp only [List.map_cons, List.dropWhile_cons, Lib.contains_one, e]
    simp only [Lib.contains_one] at ih
    by_cases hxc : x = c
    · simp only [hxc, decide_true, if_true]
      exact ih
    · simp [hxc]
theorem trimR_bytes {c : Int} (hc : Byt c) (l : List Int) (h : ∀ x ∈ l, Byt x) : Lib.trimRightS (u8s l) [UInt8.ofNat c.toNat] = u8s (trimR c l) := by
  unfold Lib.trimRightS trimR
  have e : (u8s l).reverse = u8s l.reverse := by simp [u8s]
  rw [e, dropW_bytes hc _ (fun x hx => h x (by simpa using hx))]
  simp [u8s]
theorem trimR_take (c : Int) (l : List Int) : trimR c l = l.take (trimR c l).length := by
  unfold trimR
  have h1 : (l.reverse.dropWhile (fun x => decide (x = c))) <:+ l.reverse := List.dropWhile_suffix _
  have h2 : (l.reverse.dropWhile (fun x => decide (x = c))).reverse <+: l := by
    have := List.reverse_prefix.2 h1
    simpa using this
  exact (List.prefix_iff_eq_take.1 h2)
theorem trimR_len (c : Int) (l : List Int) : (trimR c l).length ≤ l.length := by
  have := congrArg List.length (trimR_take c l)
  simp at this
  omega
theorem trim_bytes {c : Int} (hc : Byt c) (l : List Int) (h : ∀ x ∈ l, Byt x) : Lib.trimS (u8s l) [UInt8.ofNat c.toNat] = u8s (trimL c (trimR c l)) := by
  unfold Lib.trimS
  rw [trimR_bytes hc l h]
  unfold Lib.trimLeftS trimL
  refine dropW_bytes hc _ fun x hx => h x ?_
  rw [trimR_take] at hx
  exact List.mem_of_mem_take hx
theorem trimL_drop (c : Int) (l : List Int) : trimL c l = l.drop (l.length - (trimL c l).length) := by
  unfold trimL
  have h1 : (l.dropWhile (fun x => decide (x = c))) <:+ l := List.dropWhile_suffix _
  exact (List.suffix_iff_eq_drop.1 h1)
theorem u8s_len (l : List Int) : (u8s l).length = l.length := by simp [u8s]

theorem atoi_one : ∀ u, u < 10 → Lib.atoiAll [UInt8.ofNat (48 + u)] = .ok (u : Int) := by decide
theorem atoi_two : ∀ a, a < 10 → ∀ b, b < 10 → Lib.atoiAll [UInt8.ofNat (48 + a), UInt8.ofNat (48 + b)] = .ok ((10 * a + b : Nat) : Int) := by decide +kernel
theorem u8s_dec (u : Nat) : u8s (decI u) = Lib.decDigits u := by
  unfold u8s decI
  rw [List.map_map]
  conv => rhs; rw [← List.map_id (Lib.decDigits u)]
  refine List.map_congr_left fun b _ => ?_
  simp
theorem atoi_dec (u : Nat) (h : u ≤ 99) : Lib.atoiAll (u8s (decI u)) = .ok (u : Int) := by
  rw [u8s_dec]
  by_cases h1 : u < 10
  · rw [Lib.decDigits_one h1]
    exact atoi_one u h1
  · rw [Lib.decDigits_two h1 (by omega), atoi_two (u / 10) (by omega) (u % 10) (by omega)]
    congr 2
    omega
end Go.Proofs.YthmljjebggljmaaDoor
