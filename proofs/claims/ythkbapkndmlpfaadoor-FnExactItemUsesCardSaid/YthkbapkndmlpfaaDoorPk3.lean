/-
  Texts that a law leans on, one behind the other; no statement is proved here.
-/
import Derived.Test.YthkbapkndmlpfaaDoorPk0
import Derived.Test.YthkbapkndmlpfaaDoorPk2
import Derived.Test.YthkbapkndmlpfaaDoorPk1
import Derived.Deep.MidRow
/-
  A text, a number of a value, names that ascend: textOk, ascendingNames of the program, l2text, l2int of the specification; they only read.
-/
namespace Go.Proofs.YthkbapkndmlpfaaDoor
open Go.RowKit
set_option linter.unusedVariables false

/-- A byte of a text. -/
def chrB (c : Int) : Bool := decide (32 ≤ c) && decide (c ≤ 126)
/-- A text. -/
def textB (xs : List Int) : Bool := decide (xs.length ≤ 20) && xs.all chrB
theorem textB_long (xs : List Int) (h : 20 < xs.length) : textB xs = false := by simp [textB]; omega
theorem textB_all (xs : List Int) (h2 : xs.length ≤ 20) : textB xs = xs.all chrB := by simp [textB, h2]

set_option maxHeartbeats 800000 in
theorem impl_textOk_any (a : Option Addr) (c1 : Nat) (xs : List Int) (w : World) (ha : Seg w a xs) (hl : xs.length ≤ maxLen) :
    Calls Tryd.prog 68 #[.slice a xs.length c1] w fun e w' => e = .returned (.bool (textB xs)) ∧ w = w' := by
  unfold maxLen at hl
  by_cases h2 : 20 < xs.length
  · have HO : Hid (textB xs = false) := textB_long xs h2
    have h2' : (20 : Int) < (xs.length : Int) := by omega
    go_enter Tryd.func68, Tryd.ntmps68
    go_wp2
    go_ret
    exact ⟨ret_bool HO.out.symm, rfl⟩
  have HO : Hid (textB xs = xs.all chrB) := textB_all xs (by omega)
  have hb := getD_byt ha.1
  generalize hn : xs.length = n at *
  have Hn : Hid (xs.length = n) := hn
  have h2' : ¬ (20 : Int) < (n : Int) := by omega
  clear hn
  go_enter Tryd.func68, Tryd.ntmps68
  go_wp2
  go_loopw [10] (fun i wr => ∃ k : Nat, k ≤ n ∧ i = .int .i64 k ∧ fstAll chrB xs k ∧ wr = w) (fun i _ => n - (intOf i).toNat)
  case atStart => exact ⟨0, Nat.zero_le _, rfl, fstAll_zero _ _, rfl⟩
  case round =>
    obtain ⟨k, hk, rfl, hall, rfl⟩ := hrel
    by_cases hlt : k < n
    · obtain ⟨b1, o1, rfl, hc1⟩ := ha.at (k := k) (by have := Hn.out; omega)
      have hbk := hb k
      have HS : Hid (chrB (xs.getD k 0) = true → fstAll chrB xs (k + 1)) := fun h => fstAll_succ hall h
      have HN : Hid (chrB (xs.getD k 0) = false → xs.all chrB = false) := fun h => not_all_of (by have := Hn.out; omega) h
      generalize xs.getD k 0 = c at hc1 hbk HS HN
      have hlt' : (k : Int) < (n : Int) := by omega
      obtain ⟨hb1, hb2⟩ := hbk
      by_cases hc : c < 32
      · have HF : Hid (xs.all chrB = false) := HN.out (by simp [chrB]; omega)
        go_wp2
        go_ret
        exact ⟨ret_bool (by rw [HO.out, HF.out]), rfl⟩
      · by_cases hd : 126 < c
        · have HF : Hid (xs.all chrB = false) := HN.out (by simp [chrB]; omega)
          go_wp2
          go_ret
          exact ⟨ret_bool (by rw [HO.out, HF.out]), rfl⟩
        · have HF : Hid (fstAll chrB xs (k + 1)) := HS.out (by simp [chrB]; omega)
          go_wp2
          go_roundw
          case rel => exact ⟨k + 1, by omega, by go_num, HF.out, by first | rfl | trivial⟩
          case measure => simp [intOf]; omega
    · have HF : Hid (xs.all chrB = true) := all_of_fstAll (by rw [Hn.out]; have e : k = n := by omega
                                                              rw [← e]; exact hall)
      have hlt' : ¬ (k : Int) < (n : Int) := by omega
      go_wp2
      go_ret
      exact ⟨ret_bool (by rw [HO.out, HF.out]), rfl⟩

set_option maxHeartbeats 800000 in
theorem spec_l2text_any (a : Option Addr) (c1 : Nat) (xs : List Int) (w : World) (ha : Seg w a xs) (hl : xs.length ≤ maxLen) :
    Calls Tryd.prog 58 #[.slice a xs.length c1] w fun e w' => e = .returned (.bool (textB xs)) ∧ w = w' := by
  unfold maxLen at hl
  by_cases h2 : 20 < xs.length
  · have HO : Hid (textB xs = false) := textB_long xs h2
    have h2' : (20 : Int) < (xs.length : Int) := by omega
    go_enter Tryd.func58, Tryd.ntmps58
    go_wp2
    go_ret
    exact ⟨ret_bool HO.out.symm, rfl⟩
  have HO : Hid (textB xs = xs.all chrB) := textB_all xs (by omega)
  have hb := getD_byt ha.1
  generalize hn : xs.length = n at *
  have Hn : Hid (xs.length = n) := hn
  have h2' : ¬ (20 : Int) < (n : Int) := by omega
  clear hn
  go_enter Tryd.func58, Tryd.ntmps58
  go_wp2
  go_loopw [3] (fun i wr => ∃ k : Nat, k ≤ n ∧ i = .int .i64 k ∧ fstAll chrB xs k ∧ wr = w) (fun i _ => n - (intOf i).toNat)
  case atStart => exact ⟨0, Nat.zero_le _, rfl, fstAll_zero _ _, rfl⟩
  case round =>
    obtain ⟨k, hk, rfl, hall, rfl⟩ := hrel
    by_cases hlt : k < n
    · obtain ⟨b1, o1, rfl, hc1⟩ := ha.at (k := k) (by have := Hn.out; omega)
      have hbk := hb k
      have HS : Hid (chrB (xs.getD k 0) = true → fstAll chrB xs (k + 1)) := fun h => fstAll_succ hall h
      have HN : Hid (chrB (xs.getD k 0) = false → xs.all chrB = false) := fun h => not_all_of (by have := Hn.out; omega) h
      generalize xs.getD k 0 = c at hc1 hbk HS HN
      have hlt' : (k : Int) < (n : Int) := by omega
      obtain ⟨hb1, hb2⟩ := hbk
      by_cases hc : c < 32
      · have HF : Hid (xs.all chrB = false) := HN.out (by simp [chrB]; omega)
        go_wp2
        go_ret
        exact ⟨ret_bool (by rw [HO.out, HF.out]), rfl⟩
      · by_cases hd : 126 < c
        · have HF : Hid (xs.all chrB = false) := HN.out (by simp [chrB]; omega)
          go_wp2
          go_ret
          exact ⟨ret_bool (by rw [HO.out, HF.out]), rfl⟩
        · have HF : Hid (fstAll chrB xs (k + 1)) := HS.out (by simp [chrB]; omega)
          go_wp2
          go_roundw
          case rel => exact ⟨k + 1, by omega, by go_num, HF.out, by first | rfl | trivial⟩
          case measure => simp [intOf]; omega
    · have HF : Hid (xs.all chrB = true) := all_of_fstAll (by rw [Hn.out]; have e : k = n := by omega
                                                              rw [← e]; exact hall)
      have hlt' : ¬ (k : Int) < (n : Int) := by omega
      go_wp2
      go_ret
      exact ⟨ret_bool (by rw [HO.out, HF.out]), rfl⟩

/-- The name at place i is one, and behind the one ahead of it. -/
def stepB (ks : List (List Int)) (i : Nat) : Bool := nameB (ks.getD i []) && (i == 0 || ltS (ks.getD (i - 1) []) (ks.getD i []))
/-- Names that ascend. -/
def ascB (ks : List (List Int)) : Bool := (List.range ks.length).all (stepB ks)
theorem ascB_yes {ks : List (List Int)} (h : ∀ i, i < ks.length → stepB ks i = true) : ascB ks = true := by
  rw [ascB, List.all_eq_true]
  intro i hi
  exact h i (List.mem_range.1 hi)
theorem ascB_no {ks : List (List Int)} {i : Nat} (hi : i < ks.length) (h : stepB ks i = false) : ascB ks = false := by
  rw [ascB, List.all_eq_false]
  exact ⟨i, List.mem_range.2 hi, by simp [h]⟩
theorem ascB_at {ks : List (List Int)} (h : ascB ks = true) {i : Nat} (hi : i < ks.length) : stepB ks i = true := by
  rw [ascB, List.all_eq_true] at h
  exact h i (List.mem_range.2 hi)

theorem KSeg.at {R : Nat → Prop} {w : World} {a : Option Addr} {n cap : Nat} {ks : List (List Int)} (h : KSeg R w (.slice a n cap) ks) {k : Nat} (hk : k < ks.length) :
    ∃ b off, a = some ⟨b, off, none⟩ ∧ ∀ i, i < ks.length → ∃ a2 c2, w.cell? ⟨b, off + i, none⟩ = some (.slice a2 (ks.getD i []).length c2) ∧ Seg w a2 (ks.getD i []) ∧ (ks.getD i []).length ≤ maxLen := by
  obtain ⟨a', cap', h1, h2, h3, h4, h5⟩ := h
  simp only [Value.slice.injEq] at h1
  obtain ⟨rfl, _, _⟩ := h1
  rcases h5 with h0 | ⟨b, off, rfl, _, hc⟩
  · subst h0; simp at hk
  · refine ⟨b, off, rfl, fun i hi => ?_⟩
    obtain ⟨u, hu, a2, c2, rfl, s2, l2, m2, _⟩ := hc i hi
    exact ⟨a2, c2, hu, s2, by omega⟩

set_option maxHeartbeats 1600000 in
theorem ascendingNames_any (R : Nat → Prop) (x : Value) (ks : List (List Int)) (w : World) (hx : KSeg R w x ks) :
    Calls Tryd.prog 47 #[x] w fun e w' => e = .returned (.bool (ascB ks)) ∧ w = w' := by
  have HX : Hid (KSeg R w x ks) := hx
  obtain ⟨a, cap, rfl, hlc, hcm, ka, hc⟩ := hx
  unfold maxLen at hcm
  clear hc
  have HY : Hid ((∀ i, i < ks.length → stepB ks i = true) → ascB ks = true) := ascB_yes
  have HNo : Hid (∀ i, i < ks.length → stepB ks i = false → ascB ks = false) := fun i hi h => ascB_no hi h
  go_enter Tryd.func47, Tryd.ntmps47
  go_wp2
  go_loopw [7] (fun i wr => ∃ k : Nat, k ≤ ks.length ∧ i = .int .i64 k ∧ (∀ j, j < k → stepB ks j = true) ∧ wr = w) (fun i _ => ks.length - (intOf i).toNat)
  case atStart => exact ⟨0, Nat.zero_le _, rfl, fun j h => by omega, rfl⟩
  case round =>
    obtain ⟨k, hk, rfl, hall, rfl⟩ := hrel
    by_cases hlt : k < ks.length
    · obtain ⟨b, off, rfl, hat⟩ := HX.out.at hlt
      have hlt' : (k : Int) < (ks.length : Int) := by omega
      obtain ⟨a2, c2, hu, s2, m2⟩ := hat k hlt
      by_cases hn : nameB (ks.getD k []) = true
      · cases k with
        | zero =>
          have HS : Hid (stepB ks 0 = true) := by simp [Hid, stepB]; simpa using hn
          have HN := hide' (impl_NameOk_any a2 c2 (ks.getD 0 []) wr s2 m2)
          rw [hn] at HN
          generalize (ks.getD 0 []) = ys at *
          simp only [Nat.add_zero] at hu
          clear hat
          go_wp2_with fail
          refine HN.out.mono ?_
          rintro e w1 ⟨rfl, e1⟩
          obtain rfl := e1
          go_wp2
          go_roundw
          case rel => exact ⟨1, by omega, by go_num, fun j hj => by obtain rfl : j = 0 := by omega
                                                                    exact HS.out, by first | rfl | trivial⟩
          case measure => simp [intOf]; omega
        | succ j =>
          obtain ⟨a3, c3, hu3, s3, m3⟩ := hat j (by omega)
          have hst : stepB ks (j + 1) = ltS (ks.getD j []) (ks.getD (j + 1) []) := by simp only [stepB, hn]; simp
          have HN := hide' (impl_NameOk_any a2 c2 (ks.getD (j + 1) []) wr s2 m2)
          rw [hn] at HN
          have HC := hide' (bytes_Compare_any a3 a2 c3 c2 (ks.getD j []) (ks.getD (j + 1) []) wr s3 s2)
          have hlc : ltS (ks.getD j []) (ks.getD (j + 1) []) = decide (Lib.compareBytes (u8s (ks.getD j [])) (u8s (ks.getD (j + 1) [])) < 0) := less_cmp _ _
          rw [hlc] at hst
          have hcr := cmp_range (u8s (ks.getD j [])) (u8s (ks.getD (j + 1) []))
          have HS := hide' hst
          generalize Lib.compareBytes (u8s (ks.getD j [])) (u8s (ks.getD (j + 1) [])) = q at *
          generalize (ks.getD (j + 1) []) = ys at *
          generalize (ks.getD j []) = zs at *
          clear hat hst hlc hn s2 s3
          go_wp2_with fail
          refine HN.out.mono ?_
          rintro e w1 ⟨rfl, e1⟩
          obtain rfl := e1
          go_wp2_with fail
          refine HC.out.mono ?_
          rintro e w1 ⟨rfl, e1⟩
          obtain rfl := e1
          by_cases hq : 0 ≤ q
          · have HF : Hid (ascB ks = false) := HNo.out (j + 1) (by omega) (by rw [HS.out]; simpa using hq)
            go_wp2
            go_ret
            exact ⟨ret_bool HF.out.symm, rfl⟩
          · have HF : Hid (stepB ks (j + 1) = true) := by show stepB ks (j + 1) = true; rw [HS.out]; simpa using hq
            go_wp2
            go_roundw
            case rel => exact ⟨j + 2, by omega, by go_num, fun i hi => by
                                by_cases e : i = j + 1
                                · rw [e]; exact HF.out
                                · exact hall i (by omega), by first | rfl | trivial⟩
            case measure => simp [intOf]; omega
      · have hn' : nameB (ks.getD k []) = false := by simpa using hn
        have HF : Hid (ascB ks = false) := HNo.out k hlt (by unfold stepB; rw [hn']; rfl)
        have HN := hide' (impl_NameOk_any a2 c2 (ks.getD k []) wr s2 m2)
        rw [hn'] at HN
        generalize (ks.getD k []) = ys at *
        clear hat hn hn'
        go_wp2_with fail
        refine HN.out.mono ?_
        rintro e w1 ⟨rfl, e1⟩
        obtain rfl := e1
        go_wp2
        go_ret
        exact ⟨ret_bool HF.out.symm, rfl⟩
    · have HF : Hid (ascB ks = true) := HY.out (fun i hi => hall i (by omega))
      have hlt' : ¬ (k : Int) < (ks.length : Int) := by omega
      go_wp2
      go_ret
      exact ⟨ret_bool HF.out.symm, rfl⟩
end Go.Proofs.YthkbapkndmlpfaaDoor
/-
  What an expression that may be is, by its depth: 'goodE'; how many parts it has: 'partsV'; what the specification's l6expr answers: 'okE'. Plain mathematics.
-/
namespace Go.Proofs.YthkbapkndmlpfaaDoor
open Go.RowKit
set_option linter.unusedVariables false
set_option linter.unusedSimpArgs false

/-- How many kids a kind has; -1: any. -/
def arI (k : Int) : Int := if k = 4 ∨ k = 5 ∨ k = 23 then -1 else if k = 8 ∨ k = 13 ∨ k = 14 then 1 else if k = 9 ∨ (15 ≤ k ∧ k ≤ 21) then 2 else if k = 22 then 3 else 0
/-- The greatest N of a kind. -/
def mostI (k : Int) : Int := if k = 1 then 1 else if k = 2 then 1000000000000 else 0
/-- What the S of a kind is: 0 nothing, 1 a text, 2 a name, 3 a word. -/
def saysI (k : Int) : Int := if k = 3 then 1 else if k = 6 ∨ k = 8 then 2 else if k = 7 ∨ k = 23 then 3 else 0
/-- The names that are kept. -/
def keptS : List ByteArray := [⟨#[110, 117, 108, 108]⟩, ⟨#[116, 114, 117, 101]⟩, ⟨#[102, 97, 108, 115, 101]⟩, ⟨#[105, 110, 100, 101, 120]⟩, ⟨#[107, 101, 121]⟩, ⟨#[118, 97, 108]⟩, ⟨#[108, 111, 99, 97, 108]⟩, ⟨#[114, 101, 115]⟩, ⟨#[111, 117, 116]⟩, ⟨#[99, 111, 117, 110, 116]⟩, ⟨#[101, 97, 99, 104]⟩]
def keptB (s : List Int) : Bool := keptS.any fun u => (strOf s).toList == u.toList
/-- A word. -/
def wordB (s : List Int) : Bool := nameB s && !keptB s
def saysB (c : Int) (s : List Int) : Bool := if c = 1 then textB s else if c = 2 then nameB s else if c = 3 then wordB s else decide (s.length = 0)
/-- The keys of a kind. -/
def keysB (k : Int) (K : List (List Int)) (nL : Nat) : Bool := if k = 5 then decide (K.length = nL) && ascB K else decide (K.length = 0)
/-- The kids of a kind. -/
def kidsB (k : Int) (nL : Nat) : Bool := decide (arI k = -1) || decide (arI k = nL)
/-- The rules of one part by itself. -/
def shpB (k n : Int) (s : List Int) (K : List (List Int)) (nL : Nat) : Bool :=
  decide (0 ≤ k) && decide (k ≤ 23) && keysB k K nL && kidsB k nL && decide (0 ≤ n) && decide (n ≤ mostI k) && saysB (saysI k) s

/-- The rules of all parts, and of the depth. -/
def goodE : (d : Nat) → Vl d → Nat → Bool
  | 0, _, _ => false
  | d + 1, v, deep => decide (deep ≤ 10) && (shpB v.1 v.2.1 v.2.2.1 v.2.2.2.1 v.2.2.2.2.length && v.2.2.2.2.all fun x => goodE d x (deep + 1))

/-- How many parts. -/
def partsE : (d : Nat) → Vl d → Nat
  | 0, _ => 0
  | d + 1, v => 1 + (v.2.2.2.2.map (partsE d)).sum

/-- What l6expr answers. -/
def okE (d : Nat) (v : Vl d) (deep : Nat) (left : Int) : Int := if goodE d v deep = true ∧ (partsE d v : Int) ≤ left then left - partsE d v else -1

theorem okE_yes {d : Nat} {v : Vl d} {deep : Nat} {left : Int} (h : goodE d v deep = true) (h2 : (partsE d v : Int) ≤ left) : okE d v deep left = left - partsE d v := by simp [okE, h, h2]
theorem okE_no {d : Nat} {v : Vl d} {deep : Nat} {left : Int} (h : ¬ (goodE d v deep = true ∧ (partsE d v : Int) ≤ left)) : okE d v deep left = -1 := by simp only [okE, h, if_false]

theorem goodE_succ (d : Nat) (vk vn : Int) (vs : List Int) (vK : List (List Int)) (vL : List (Vl d)) (deep : Nat) :
    goodE (d + 1) (vk, vn, vs, vK, vL) deep = true ↔ deep ≤ 10 ∧ shpB vk vn vs vK vL.length = true ∧ ∀ j (h : j < vL.length), goodE d vL[j] (deep + 1) = true := by
  show (decide (deep ≤ 10) && (shpB vk vn vs vK vL.length && vL.all fun x => goodE d x (deep + 1))) = true ↔ _
  simp only [Bool.and_eq_true, decide_eq_true_eq, List.all_eq_true]
  constructor
  · rintro ⟨h1, h2, h3⟩
    exact ⟨h1, h2, fun j h => h3 _ (List.getElem_mem h)⟩
  · rintro ⟨h1, h2, h3⟩
    refine ⟨h1, h2, fun x hx => ?_⟩
    obtain ⟨j, h, rfl⟩ := List.getElem_of_mem hx
    exact h3 j h

theorem partsE_succ (d : Nat) (vk vn : Int) (vs : List Int) (vK : List (List Int)) (vL : List (Vl d)) : partsE (d + 1) (vk, vn, vs, vK, vL) = 1 + pre (partsE d) vL vL.length := by
  rw [pre_all]
  rfl

theorem partsE_pos (d : Nat) (v : Vl (d + 1)) : 1 ≤ partsE (d + 1) v := by
  obtain ⟨vk, vn, vs, vK, vL⟩ := v
  rw [partsE_succ]
  omega

theorem okE_left {d : Nat} (v : Vl (d + 1)) (deep : Nat) {left : Int} (h : left < 1) : okE (d + 1) v deep left = -1 :=
  okE_no fun ⟨_, h2⟩ => by have := partsE_pos d v; omega

theorem okE_deep {d : Nat} (v : Vl (d + 1)) {deep : Nat} (left : Int) (h : 10 < deep) : okE (d + 1) v deep left = -1 := by
  obtain ⟨vk, vn, vs, vK, vL⟩ := v
  exact okE_no fun ⟨h1, _⟩ => by have := ((goodE_succ _ _ _ _ _ _ _).1 h1).1; omega

theorem okE_shape {d : Nat} {vk vn : Int} {vs : List Int} {vK : List (List Int)} {vL : List (Vl d)} (deep : Nat) (left : Int) (h : shpB vk vn vs vK vL.length = false) : okE (d + 1) (vk, vn, vs, vK, vL) deep left = -1 :=
  okE_no fun ⟨h1, _⟩ => by have := ((goodE_succ _ _ _ _ _ _ _).1 h1).2.1; rw [h] at this; simp at this

theorem okE_kid {d : Nat} {vk vn : Int} {vs : List Int} {vK : List (List Int)} {vL : List (Vl d)} {deep : Nat} {left : Int} {k : Nat} (hk : k < vL.length)
    (h : ¬ (goodE d vL[k] (deep + 1) = true ∧ (partsE d vL[k] : Int) ≤ left - 1 - pre (partsE d) vL k)) : okE (d + 1) (vk, vn, vs, vK, vL) deep left = -1 := by
  refine okE_no fun ⟨h1, h2⟩ => h ⟨((goodE_succ _ _ _ _ _ _ _).1 h1).2.2 k hk, ?_⟩
  rw [partsE_succ] at h2
  have h3 := pre_succ (partsE d) vL k hk
  have h4 := pre_le (partsE d) vL (k + 1)
  have h5 := pre_all (partsE d) vL
  omega

theorem okE_all {d : Nat} {vk vn : Int} {vs : List Int} {vK : List (List Int)} {vL : List (Vl d)} {deep : Nat} {left : Int} (h1 : deep ≤ 10) (h2 : shpB vk vn vs vK vL.length = true)
    (h3 : ∀ j (h : j < vL.length), goodE d vL[j] (deep + 1) = true) (h4 : (pre (partsE d) vL vL.length : Int) ≤ left - 1) : okE (d + 1) (vk, vn, vs, vK, vL) deep left = left - 1 - pre (partsE d) vL vL.length := by
  rw [okE_yes ((goodE_succ _ _ _ _ _ _ _).2 ⟨h1, h2, h3⟩) (by rw [partsE_succ]; omega), partsE_succ]
  omega

/-- What holds ahead of the round k of l6expr. -/
def E6K (d : Nat) (vL : List (Vl d)) (deep : Nat) (left : Int) (k : Nat) (l : Value) : Prop :=
  k ≤ vL.length ∧ l = .int .i64 (left - 1 - pre (partsE d) vL k) ∧ (pre (partsE d) vL k : Int) ≤ left - 1 ∧ ∀ j (h : j < vL.length), j < k → goodE d vL[j] (deep + 1) = true

theorem E6K_zero {d : Nat} {vL : List (Vl d)} {deep : Nat} {left : Int} (h : 1 ≤ left) : E6K d vL deep left 0 (.int .i64 (left - 1)) :=
  ⟨Nat.zero_le _, by rw [pre_zero]; simp, by rw [pre_zero]; simp; omega, fun j _ h => by omega⟩

theorem E6K_succ {d : Nat} {vL : List (Vl d)} {deep : Nat} {left : Int} {k : Nat} {l : Value} (h : E6K d vL deep left k l) (hk : k < vL.length) (hg : goodE d vL[k] (deep + 1) = true) (hp : (partsE d vL[k] : Int) ≤ left - 1 - pre (partsE d) vL k) :
    E6K d vL deep left (k + 1) (.int .i64 (left - 1 - pre (partsE d) vL k - partsE d vL[k])) := by
  have h3 := pre_succ (partsE d) vL k hk
  refine ⟨hk, by rw [h3]; simp; omega, by rw [h3]; simp; omega, fun j hj hjk => ?_⟩
  by_cases e : j = k
  · subst e; exact hg
  · exact h.2.2.2 j hj (by omega)

/-- What ExprOk answers. -/
def exprB (d : Nat) (v : Vl d) : Bool := goodE d v 1 && decide (partsE d v ≤ 150)

theorem okE_exprB (d : Nat) (v : Vl d) : (exprB d v = true → 0 ≤ okE d v 1 150 ∧ okE d v 1 150 ≤ 150) ∧ (exprB d v = false → okE d v 1 150 = -1) := by
  constructor
  · intro h
    simp [exprB] at h
    rw [okE_yes h.1 (by omega)]
    omega
  · intro h
    refine okE_no fun ⟨h1, h2⟩ => ?_
    simp [exprB, h1] at h
    omega
end Go.Proofs.YthkbapkndmlpfaaDoor
/-
  Small laws on calls that turn nothing, on the box of a value, on lists of values; no statement is proved here.
-/
namespace Go.Proofs.YthkbapkndmlpfaaDoor
open Go.RowKit
set_option linter.unusedVariables false
set_option linter.unusedSimpArgs false

theorem quiet_same {P : Program} {f : FuncId} {args : Array Value} {w : World} {n : Nat} {v : Value}
    (h : Calls P f args (w.drewN n) fun e w' => e = .returned v ∧ w.drewN n = w') : Calls P f args (w.drewN n) fun e w'' => e = .returned v ∧ ∃ m, w'' = w.drewN m :=
  Calls.quiet_of_same (h.mono fun _ _ ⟨he, hm⟩ => ⟨he, hm.symm⟩)

/-- The box of a value that was handed in. -/
theorem box_row {w wr : World} {o : Obj} (h : Below (w.alloc o).heap.size (w.alloc o) wr) : wr.heap[w.heap.size]? = some o :=
  (h.block w.heap.size (by simp)).trans (MapKept.heap_alloc w o).1

theorem LSeg.at {N : Nat} {w wr : World} {d : Nat} {a : Option Addr} {n cap : Nat} {l : List (Vl d)} (h : LSeg (fun b => b < N) w d (.slice a n cap) l) (hb : Below w.heap.size w wr) (hN : N ≤ w.heap.size) {k : Nat} (hk : k < l.length) :
    ∃ b off c, a = some ⟨b, off, none⟩ ∧ Five wr b (off + k * 5) c ∧ ∀ wx, Below w.heap.size w wx → VSeg (fun b => b < N) wx d c (l[k]) := by
  obtain ⟨a', cap', h1, h2, h3, h4, h5⟩ := h
  simp only [Value.slice.injEq] at h1
  obtain ⟨rfl, _, _⟩ := h1
  rcases h5 with h0 | ⟨b, off, rfl, hR, hc⟩
  · subst h0; simp at hk
  · obtain ⟨c, h5, hv⟩ := hc k hk
    exact ⟨b, off, c, rfl, h5.agree (agree_below (hb.mono hN)) hR, fun wx hx => VSeg.agree (agree_below (hx.mono hN)) d hv⟩

theorem VSeg.form {R : Nat → Prop} {w : World} (d : Nat) {c0 c1 c2 c3 c4 : Value} {v : Vl d} (h : VSeg R w d (c0, c1, c2, c3, c4) v) :
    ∃ (k n : Int) (a2 : Option Addr) (l2 p2 : Nat) (a3 : Option Addr) (l3 p3 : Nat) (a4 : Option Addr) (l4 p4 : Nat), c0 = .int .i64 k ∧ c1 = .int .i64 n ∧ c2 = .slice a2 l2 p2 ∧ c3 = .slice a3 l3 p3 ∧ c4 = .slice a4 l4 p4 := by
  cases d with
  | zero => exact h.elim
  | succ d =>
    obtain ⟨e0, e1, ⟨a2, p2, e2, _⟩, ⟨a3, p3, e3, _⟩, a4, p4, e4, _⟩ := h
    exact ⟨_, _, _, _, _, _, _, _, _, _, _, e0, e1, e2, e3, e4⟩
end Go.Proofs.YthkbapkndmlpfaaDoor
/-
  What a call has made for itself can be read by whoever comes behind it.
-/
namespace Go.Proofs.YthkbapkndmlpfaaDoor
open Go.RowKit
set_option linter.unusedVariables false

/-- What a call has made for itself can be read by whoever comes behind it. -/
theorem VOwn.below {w w' : World} {d : Nat} {c : Value × Value × Value × Value × Value} {v : Vl d} {B : List Nat} (h : VOwn w d c v B) (hb : Below w.heap.size w w') : VSeg (fun b => b < w.heap.size) w' d c v :=
  VSeg.agree (agree_below hb) d (VSeg.mono (fun b hb => VOwn.lt d h b hb) d (VOwn.seg d h))
end Go.Proofs.YthkbapkndmlpfaaDoor
/-
  Items: what ten cells of memory read as; lists of them.
-/
namespace Go.Proofs.YthkbapkndmlpfaaDoor
open Go.RowKit
set_option linter.unusedVariables false
set_option linter.unusedSimpArgs false

/-- An item: kind, name, many, by, names, expressions. -/
def Itm (d : Nat) : Type := Int × List Int × Int × Vl d × List (List Int) × List (Vl d)

/-- Ten cells that read as an item. -/
def ISeg (R : Nat → Prop) (w : World) (d : Nat) (cs : List Value) (it : Itm d) : Prop :=
  ∃ c1 c3 c4 c5 c6 c7 c8 c9, cs = [.int .i64 it.1, c1, .int .i64 it.2.2.1, c3, c4, c5, c6, c7, c8, c9] ∧ TSeg R w c1 it.2.1 ∧ VSeg R w d (c3, c4, c5, c6, c7) it.2.2.2.1 ∧ KSeg R w c8 it.2.2.2.2.1 ∧ LSeg R w d c9 it.2.2.2.2.2

/-- A list of items, read. -/
def ILSeg (R : Nat → Prop) (w : World) (d : Nat) (x : Value) (l : List (Itm d)) : Prop :=
  ∃ a cap, x = .slice a l.length cap ∧ l.length ≤ cap ∧ cap ≤ maxLen ∧ (a = none → cap = 0) ∧ (l = [] ∨ ∃ b off, a = some ⟨b, off, none⟩ ∧ R b ∧ ∀ i (h : i < l.length), ∃ cs, w.rangeAt b (off + i * 10) cs ∧ ISeg R w d cs l[i])

theorem range_agree {R : Nat → Prop} {w w' : World} {b o : Nat} {cs : List Value} (h : w.rangeAt b o cs) (ha : Agree R w w') (hb : R b) : w'.rangeAt b o cs := fun j v hv => (World.cell?_of_block (ha b hb)).trans (h j v hv)

theorem ISeg.agree {R : Nat → Prop} {w w' : World} {d : Nat} {cs : List Value} {it : Itm d} (h : ISeg R w d cs it) (ha : Agree R w w') : ISeg R w' d cs it := by
  obtain ⟨c1, c3, c4, c5, c6, c7, c8, c9, e, h1, h2, h3, h4⟩ := h
  exact ⟨c1, c3, c4, c5, c6, c7, c8, c9, e, h1.agree ha, VSeg.agree ha d h2, h3.agree ha, h4.agree ha⟩
theorem LSeg.mono {R R' : Nat → Prop} {w : World} {d : Nat} {x : Value} {l : List (Vl d)} (h : LSeg R w d x l) (hr : ∀ b, R b → R' b) : LSeg R' w d x l := by
  obtain ⟨a, cap, e, h1, h2, h3, h4⟩ := h
  refine ⟨a, cap, e, h1, h2, h3, ?_⟩
  rcases h4 with h0 | ⟨b, off, ea, hb, hc⟩
  · exact .inl h0
  · refine .inr ⟨b, off, ea, hr b hb, fun i hi => ?_⟩
    obtain ⟨c, h5, hv⟩ := hc i hi
    exact ⟨c, h5, VSeg.mono hr d hv⟩
theorem ISeg.mono {R R' : Nat → Prop} {w : World} {d : Nat} {cs : List Value} {it : Itm d} (h : ISeg R w d cs it) (hr : ∀ b, R b → R' b) : ISeg R' w d cs it := by
  obtain ⟨c1, c3, c4, c5, c6, c7, c8, c9, e, h1, h2, h3, h4⟩ := h
  exact ⟨c1, c3, c4, c5, c6, c7, c8, c9, e, h1.mono hr, VSeg.mono hr d h2, h3.mono hr, h4.mono hr⟩
theorem ILSeg.agree {R : Nat → Prop} {w w' : World} {d : Nat} {x : Value} {l : List (Itm d)} (h : ILSeg R w d x l) (ha : Agree R w w') : ILSeg R w' d x l := by
  obtain ⟨a, cap, e, h1, h2, h3, h4⟩ := h
  refine ⟨a, cap, e, h1, h2, h3, ?_⟩
  rcases h4 with h0 | ⟨b, off, ea, hb, hc⟩
  · exact .inl h0
  · refine .inr ⟨b, off, ea, hb, fun i hi => ?_⟩
    obtain ⟨cs, hr, hv⟩ := hc i hi
    exact ⟨cs, range_agree hr ha hb, hv.agree ha⟩
theorem ILSeg.at {R : Nat → Prop} {w : World} {d : Nat} {a : Option Addr} {n cap : Nat} {l : List (Itm d)} (h : ILSeg R w d (.slice a n cap) l) {k : Nat} (hk : k < l.length) :
    ∃ b off cs, a = some ⟨b, off, none⟩ ∧ R b ∧ w.rangeAt b (off + k * 10) cs ∧ ISeg R w d cs l[k] := by
  obtain ⟨a', cap', g1, _, _, _, g5⟩ := h
  simp only [Value.slice.injEq] at g1
  obtain ⟨rfl, _, _⟩ := g1
  rcases g5 with e | ⟨b, off, hb, hR, hc⟩
  · rw [e] at hk; simp at hk
  · obtain ⟨cs, hr, hv⟩ := hc k hk
    exact ⟨b, off, cs, hb, hR, hr, hv⟩
theorem ILSeg.form {R : Nat → Prop} {w : World} {d : Nat} {x : Value} {l : List (Itm d)} (h : ILSeg R w d x l) : ∃ a p, x = .slice a l.length p := by
  obtain ⟨a, cap, h1, _⟩ := h
  exact ⟨_, _, h1⟩

/-- The ten cells, in full. -/
theorem ISeg.form {R : Nat → Prop} {w : World} {d : Nat} {cs : List Value} {it : Itm d} (h : ISeg R w d cs it) :
    ∃ (na : Option Addr) (np : Nat) (bk bn : Int) (a2 : Option Addr) (l2 p2 : Nat) (a3 : Option Addr) (l3 p3 : Nat) (a4 : Option Addr) (l4 p4 : Nat) (xa : Option Addr) (xp : Nat) (ea : Option Addr) (ep : Nat),
      cs = [.int .i64 it.1, .slice na it.2.1.length np, .int .i64 it.2.2.1, .int .i64 bk, .int .i64 bn, .slice a2 l2 p2, .slice a3 l3 p3, .slice a4 l4 p4, .slice xa it.2.2.2.2.1.length xp, .slice ea it.2.2.2.2.2.length ep] ∧
      TSeg R w (.slice na it.2.1.length np) it.2.1 ∧ VSeg R w d (.int .i64 bk, .int .i64 bn, .slice a2 l2 p2, .slice a3 l3 p3, .slice a4 l4 p4) it.2.2.2.1 ∧ KSeg R w (.slice xa it.2.2.2.2.1.length xp) it.2.2.2.2.1 ∧ LSeg R w d (.slice ea it.2.2.2.2.2.length ep) it.2.2.2.2.2 := by
  obtain ⟨c1, c3, c4, c5, c6, c7, c8, c9, rfl, h1, h2, h3, h4⟩ := h
  obtain ⟨bk, bn, a2, l2, p2, a3, l3, p3, a4, l4, p4, rfl, rfl, rfl, rfl, rfl⟩ := VSeg.form d h2
  have h1' := h1
  have h3' := h3
  have h4' := h4
  obtain ⟨na, np, rfl, _⟩ := h1
  obtain ⟨xa, xp, rfl, _⟩ := h3
  obtain ⟨ea, ep, rfl, _⟩ := h4
  exact ⟨na, np, bk, bn, a2, l2, p2, a3, l3, p3, a4, l4, p4, xa, xp, ea, ep, rfl, h1', h2, h3', h4'⟩

theorem ISeg.len {R : Nat → Prop} {w : World} {d : Nat} {cs : List Value} {it : Itm d} (h : ISeg R w d cs it) : cs.length = 10 := by
  obtain ⟨_, _, _, _, _, _, _, _, _, _, _, _, _, _, _, _, _, rfl, _⟩ := h.form
  rfl
theorem ISeg.one {R : Nat → Prop} {w : World} {d : Nat} {cs : List Value} {it : Itm d} (h : ISeg R w d cs it) : ∀ v ∈ cs, v.oneCell' = true := by
  obtain ⟨_, _, _, _, _, _, _, _, _, _, _, _, _, _, _, _, _, rfl, _⟩ := h.form
  intro v hv
  simp only [List.mem_cons, List.not_mem_nil, or_false] at hv
  rcases hv with rfl | rfl | rfl | rfl | rfl | rfl | rfl | rfl | rfl | rfl <;> rfl

/-- An item's parts are none too great. -/
def ISz (d : Nat) (it : Itm d) : Prop := it.2.1.length ≤ 1048576 ∧ szV d it.2.2.2.1 ≤ 1048576 ∧ szK it.2.2.2.2.1 ≤ 1048576 ∧ szL d it.2.2.2.2.2 ≤ 1048576

set_option maxHeartbeats 3200000 in
set_option maxRecDepth 100000 in
theorem szItem_any (d N : Nat) (cs : List Value) (it : Itm d) (n : Int) (w : World) (h : ISeg (fun b => b < N) w d cs it) (hN : N ≤ w.heap.size) (h0 : 0 ≤ n) (h1 : n ≤ 1048576) :
    Calls Tryd.prog 10 #[.agg cs.toArray, .int .i64 n] w fun e w' => (e = .returned (.int .i64 (-1)) ∨ ∃ m : Int, 0 ≤ m ∧ m ≤ n ∧ e = .returned (.int .i64 m) ∧ ISz d it) ∧ Below w.heap.size w w' := by
  obtain ⟨na, np, bk, bn, a2, l2, p2, a3, l3, p3, a4, l4, p4, xa, xp, ea, ep, rfl, ht, hv, hk, hl⟩ := h.form
  obtain ⟨k, nm, mn, by', ks, es⟩ := it
  simp only at ht hv hk hl ⊢
  have HB : Hid (∀ o : Obj, Below w.heap.size w (w.alloc o)) := fun o => (Below.refl _ _).alloc (Nat.le_refl _) o
  have hnm : nm.length ≤ maxLen := by obtain ⟨a, c, e, _, h2, h3, _⟩ := ht; omega
  have HT : Hid (∀ wx, Calls Tryd.prog 23 #[.slice na nm.length np, .int .i64 n] wx fun e w' => e = .returned (.int .i64 (less n nm.length)) ∧ wx = w') := fun wx => szByteS_any na nm.length np n wx h0 h1 hnm
  have HV : Hid (∀ (m : Int) wx, 0 ≤ m → m ≤ 1048576 → Below w.heap.size w wx → Calls Tryd.prog 24 #[.agg #[.int .i64 bk, .int .i64 bn, .slice a2 l2 p2, .slice a3 l3 p3, .slice a4 l4 p4], .int .i64 m] wx fun e w' => e = .returned (.int .i64 (less m (szV d by'))) ∧ Below wx.heap.size wx w') := fun m wx g0 g1 hb =>
    szValue_any d N (.int .i64 bk, .int .i64 bn, .slice a2 l2 p2, .slice a3 l3 p3, .slice a4 l4 p4) by' m wx (VSeg.agree (agree_below (hb.mono hN)) d hv) (by have := hb.size; omega) g0 g1
  have HK : Hid (∀ (m : Int) wx, 0 ≤ m → m ≤ 1048576 → Below w.heap.size w wx → Calls Tryd.prog 25 #[.slice xa ks.length xp, .int .i64 m] wx fun e w' => e = .returned (.int .i64 (less m (szK ks))) ∧ wx = w') := fun m wx g0 g1 hb => szByteSS_any _ _ ks m wx (hk.agree (agree_below (hb.mono hN))) g0 g1
  have HL : Hid (∀ (m : Int) wx, 0 ≤ m → m ≤ 1048576 → Below w.heap.size w wx → Calls Tryd.prog 26 #[.slice ea es.length ep, .int .i64 m] wx fun e w' => e = .returned (.int .i64 (less m (szL d es))) ∧ Below wx.heap.size wx w') := fun m wx g0 g1 hb => szValueS_of d (szValue_any d) N _ es m wx (hl.agree (agree_below (hb.mono hN))) (by have := hb.size; omega) g0 g1
  have Hbox : Hid (∀ o wx, Below (w.alloc o).heap.size (w.alloc o) wx → wx.heap[w.heap.size]? = some o) := fun o wx h => box_row h
  clear ht hv hk hl h
  unfold ISz
  simp only
  generalize szV d by' = s1 at *
  generalize szK ks = s2 at *
  generalize szL d es = s3 at *
  generalize nm.length = s0 at *
  generalize ks.length = kl at *
  generalize es.length = el at *
  go_enter Tryd.func10, Tryd.ntmps10
  go_wp2_with fail
  refine (HT.out _).mono ?_
  rintro e w1 ⟨rfl, rfl⟩
  by_cases q0 : n < (s0 : Int)
  · rw [less_no _ _ q0]
    go_wp2
    go_ret
    exact ⟨.inl rfl, HB.out _⟩
  rw [less_yes _ _ q0]
  obtain ⟨n1, e1⟩ : ∃ m : Int, m = n - s0 := ⟨_, rfl⟩
  rw [← e1]
  have g10 : 0 ≤ n1 := by omega
  have g11 : n1 ≤ 1048576 := by omega
  have z0 : s0 ≤ 1048576 := by omega
  have y1 : n1 ≤ n := by omega
  clear e1 q0
  go_wp2_with fail
  refine (HV.out n1 _ g10 g11 (HB.out _)).mono ?_
  rintro e w2 ⟨rfl, b2⟩
  by_cases q1 : n1 < (s1 : Int)
  · rw [less_no _ _ q1]
    have B2 := hide' (Below.on (HB.out _) b2)
    clear b2
    go_wp2
    go_ret
    exact ⟨.inl rfl, B2.out⟩
  rw [less_yes _ _ q1]
  obtain ⟨n2, e2⟩ : ∃ m : Int, m = n1 - s1 := ⟨_, rfl⟩
  rw [← e2]
  have g20 : 0 ≤ n2 := by omega
  have g21 : n2 ≤ 1048576 := by omega
  have z1 : s1 ≤ 1048576 := by omega
  have y2 : n2 ≤ n := by omega
  have hr2 := Hbox.out _ _ b2
  have x8 : w2.cell? ⟨w.heap.size, 8, none⟩ = some (.slice xa kl xp) := by rw [cell_of_row _ _ 8 _ _ _ hr2]; rfl
  have x9 : w2.cell? ⟨w.heap.size, 9, none⟩ = some (.slice ea el ep) := by rw [cell_of_row _ _ 9 _ _ _ hr2]; rfl
  have B2 := hide' (Below.on (HB.out _) b2)
  clear e2 q1 hr2 b2
  go_wp2_with fail
  refine (HK.out n2 _ g20 g21 B2.out).mono ?_
  rintro e w3 ⟨rfl, rfl⟩
  by_cases q2 : n2 < (s2 : Int)
  · rw [less_no _ _ q2]
    go_wp2
    go_ret
    exact ⟨.inl rfl, B2.out⟩
  rw [less_yes _ _ q2]
  obtain ⟨n3, e3⟩ : ∃ m : Int, m = n2 - s2 := ⟨_, rfl⟩
  rw [← e3]
  have g30 : 0 ≤ n3 := by omega
  have g31 : n3 ≤ 1048576 := by omega
  have z2 : s2 ≤ 1048576 := by omega
  have y3 : n3 ≤ n := by omega
  clear e3 q2
  go_wp2_with fail
  refine (HL.out n3 _ g30 g31 B2.out).mono ?_
  rintro e w4 ⟨rfl, b4⟩
  have B4 := hide' (Below.on B2.out b4)
  clear b4
  by_cases q3 : n3 < (s3 : Int)
  · rw [less_no _ _ q3]
    go_wp2
    go_ret
    exact ⟨.inl rfl, B4.out⟩
  rw [less_yes _ _ q3]
  obtain ⟨n4, e4⟩ : ∃ m : Int, m = n3 - s3 := ⟨_, rfl⟩
  rw [← e4]
  have g40 : 0 ≤ n4 := by omega
  have g41 : n4 ≤ 1048576 := by omega
  have z3 : s3 ≤ 1048576 := by omega
  have y4 : n4 ≤ n := by omega
  clear e4 q3
  go_wp2
  go_ret
  exact ⟨.inr ⟨n4, g40, y4, rfl, z0, z1, z2, z3⟩, B4.out⟩
end Go.Proofs.YthkbapkndmlpfaaDoor
/-
  What a configuration that may be is: plain mathematics.
-/
namespace Go.Proofs.YthkbapkndmlpfaaDoor
open Go.RowKit
set_option linter.unusedVariables false
set_option linter.unusedSimpArgs false

/-- The zero expression. -/
def zeroE : (d : Nat) → Vl d → Bool
  | 0, _ => false
  | d + 1, v => decide (v.1 = 0) && (decide (v.2.1 = 0) && (decide (v.2.2.1.length = 0) && (decide (v.2.2.2.1.length = 0) && decide (v.2.2.2.2.length = 0))))

/-- What an item has of its kind, without its names' order and its expressions. -/
def headB (d : Nat) (it : Itm d) : Bool :=
  wordB it.2.1 && (decide (it.2.2.2.2.2.length ≤ 6) && (if it.1 = 1 then decide (0 ≤ it.2.2.1) && (decide (it.2.2.1 ≤ 2) && decide (it.2.2.2.2.1.length = it.2.2.2.2.2.length))
    else (decide (it.1 = 0) || decide (it.1 = 2)) && (decide (it.2.2.1 = 0) && (decide (it.2.2.2.2.1.length = 0) && decide (it.2.2.2.2.2.length = 1)))))

/-- The rules of an item. -/
def itemB (d : Nat) (it : Itm d) : Bool :=
  headB d it && ((if it.1 = 1 then ascB it.2.2.2.2.1 else true) && ((if it.2.2.1 = 0 then zeroE d it.2.2.2.1 else goodE d it.2.2.2.1 1) && it.2.2.2.2.2.all fun e => goodE d e 1))

/-- How many parts an item's expressions have. -/
def byP (d : Nat) (it : Itm d) : Nat := if it.2.2.1 = 0 then 0 else partsE d it.2.2.2.1
def itemP (d : Nat) (it : Itm d) : Nat := byP d it + pre (partsE d) it.2.2.2.2.2 it.2.2.2.2.2.length

/-- What l6item answers. -/
def itemR (d : Nat) (it : Itm d) (left : Int) : Int := if itemB d it = true ∧ (itemP d it : Int) ≤ left then left - itemP d it else -1

/-- Two items of one kind with one name. -/
def alikeB (d : Nat) (x y : Itm d) : Bool := decide (x.1 = y.1) && decide (x.2.1 = y.2.1)

/-- What ConfigOk answers. -/
def configB (d : Nat) (l : List (Itm d)) : Bool :=
  decide (l.length ≤ 12) && ((List.range l.length).all fun i => (l[i]?.map fun x => itemB d x && (l.take i).all fun y => !alikeB d y x).getD true) && decide ((l.map (itemP d)).sum ≤ 150)

theorem itemR_no {d : Nat} {it : Itm d} {left : Int} (h : itemB d it = false) : itemR d it left = -1 := by simp [itemR, h]
theorem itemR_head {d : Nat} {it : Itm d} {left : Int} (h : headB d it = false) : itemR d it left = -1 := itemR_no (by simp [itemB, h])
end Go.Proofs.YthkbapkndmlpfaaDoor
/-
  Kept names and words: kept, wordOk, saysOk of the program, l6kept, l6free of the specification.
-/
namespace Go.Proofs.YthkbapkndmlpfaaDoor
open Go.RowKit
set_option linter.unusedVariables false
set_option linter.unusedSimpArgs false

set_option maxHeartbeats 1600000 in
set_option maxRecDepth 100000 in
theorem impl_kept_any (a : Option Addr) (cap : Nat) (xs : List Int) (w : World) (ha : Seg w a xs) :
    Calls Tryd.prog 60 #[.slice a xs.length cap] w fun e w' => e = .returned (.bool (keptB xs)) ∧ w = w' := by
  have hc := conv_seg cap ha
  go_enter Tryd.func60, Tryd.ntmps60
  go_wp2
  all_goals first
    | (exfalso; simp_all; done)
    | (go_ret; refine ⟨ret_bool ?_, rfl⟩; simp [keptB, keptS, *])

set_option maxHeartbeats 1600000 in
theorem impl_wordOk_any (a : Option Addr) (cap : Nat) (xs : List Int) (w : World) (ha : Seg w a xs) (hl : xs.length ≤ maxLen) :
    Calls Tryd.prog 46 #[.slice a xs.length cap] w fun e w' => e = .returned (.bool (wordB xs)) ∧ w = w' := by
  have HN := hide' (impl_NameOk_any a cap xs w ha hl)
  have HK := hide' (impl_kept_any a cap xs w ha)
  have HW : Hid (wordB xs = (nameB xs && !keptB xs)) := rfl
  generalize nameB xs = p at *
  generalize keptB xs = q at *
  clear ha hl
  cases p <;> cases q
  all_goals
    go_enter Tryd.func46, Tryd.ntmps46
    go_wp2_with (first
      | (go_at_call 59; refine HN.out.mono ?_; rintro e w1 ⟨rfl, e1⟩; obtain rfl := e1)
      | (go_at_call 60; refine HK.out.mono ?_; rintro e w1 ⟨rfl, e1⟩; obtain rfl := e1))
    go_ret
    exact ⟨ret_bool (by rw [HW.out]; rfl), rfl⟩

set_option maxHeartbeats 1600000 in
theorem impl_saysOk_any (c : Int) (a : Option Addr) (cap : Nat) (xs : List Int) (w : World) (ha : Seg w a xs) (hl : xs.length ≤ maxLen) :
    Calls Tryd.prog 63 #[.int .i64 c, .slice a xs.length cap] w fun e w' => e = .returned (.bool (saysB c xs)) ∧ w = w' := by
  by_cases h1 : c = 1
  · subst h1
    have HT := hide' (impl_textOk_any a cap xs w ha hl)
    have HW : Hid (saysB 1 xs = textB xs) := rfl
    clear ha hl
    go_enter Tryd.func63, Tryd.ntmps63
    go_wp2_with fail
    refine HT.out.mono ?_
    rintro e w1 ⟨rfl, e1⟩
    obtain rfl := e1
    go_wp2
    go_ret
    exact ⟨ret_bool (by rw [HW.out]), rfl⟩
  by_cases h2 : c = 2
  · subst h2
    have HT := hide' (impl_NameOk_any a cap xs w ha hl)
    have HW : Hid (saysB 2 xs = nameB xs) := rfl
    clear ha hl
    go_enter Tryd.func63, Tryd.ntmps63
    go_wp2_with fail
    refine HT.out.mono ?_
    rintro e w1 ⟨rfl, e1⟩
    obtain rfl := e1
    go_wp2
    go_ret
    exact ⟨ret_bool (by rw [HW.out]), rfl⟩
  by_cases h3 : c = 3
  · subst h3
    have HT := hide' (impl_wordOk_any a cap xs w ha hl)
    have HW : Hid (saysB 3 xs = wordB xs) := rfl
    clear ha hl
    go_enter Tryd.func63, Tryd.ntmps63
    go_wp2_with fail
    refine HT.out.mono ?_
    rintro e w1 ⟨rfl, e1⟩
    obtain rfl := e1
    go_wp2
    go_ret
    exact ⟨ret_bool (by rw [HW.out]), rfl⟩
  · have HW : Hid (saysB c xs = decide (xs.length = 0)) := by show saysB c xs = _; simp [saysB, h1, h2, h3]
    unfold maxLen at hl
    clear ha
    go_enter Tryd.func63, Tryd.ntmps63
    go_wp2
    go_ret
    exact ⟨ret_bool (by rw [HW.out]; cases xs <;> simp <;> omega), rfl⟩

theorem kept_at (k : Nat) (hk : k < 11) (w wr : World) (ob : Obj) (ho : ob = .cells (keptS.map Value.string).toArray 9) (h : Below (w.alloc ob).heap.size (w.alloc ob) wr) : wr.cell? ⟨w.heap.size, k, none⟩ = some (.string (keptS.getD k default)) := by
  subst ho
  rw [cell_of_row wr w.heap.size k _ _ (0, 0) (box_row h)]
  have hl : k < keptS.length := hk
  simp [hl]

theorem kept_yes {xs : List Int} {k : Nat} (hk : k < 11) (h : ((keptS.getD k default).toList == (strOf xs).toList) = true) : keptB xs = true := by
  have hl : k < keptS.length := hk
  rw [keptB, List.any_eq_true]
  refine ⟨keptS[k], List.getElem_mem hl, ?_⟩
  simp only [List.getD_eq_getElem?_getD, List.getElem?_eq_getElem hl, Option.getD_some] at h
  rw [beq_iff_eq] at h ⊢
  exact h.symm

theorem kept_no {xs : List Int} (h : ∀ k, k < 11 → ((keptS.getD k default).toList == (strOf xs).toList) = false) : keptB xs = false := by
  rw [keptB, List.any_eq_false]
  intro u hu
  obtain ⟨k, hl, rfl⟩ := List.getElem_of_mem hu
  have := h k hl
  simp only [List.getD_eq_getElem?_getD, List.getElem?_eq_getElem hl, Option.getD_some] at this
  intro e
  rw [beq_iff_eq] at e
  rw [e] at this
  simp at this

set_option maxHeartbeats 1600000 in
theorem spec_l6kept_any (a : Option Addr) (cap : Nat) (xs : List Int) (w : World) (ha : Seg w a xs) :
    Calls Tryd.prog 56 #[.slice a xs.length cap] w fun e w' => e = .returned (.bool (keptB xs)) ∧ Below w.heap.size w w' := by
  have HA := hide' ha
  have HY : Hid (∀ k, k < 11 → ((keptS.getD k default).toList == (strOf xs).toList) = true → keptB xs = true) := fun k hk h => kept_yes hk h
  have HNo : Hid ((∀ k, k < 11 → ((keptS.getD k default).toList == (strOf xs).toList) = false) → keptB xs = false) := kept_no
  have b0 : ∀ o : Obj, Below w.heap.size w (w.alloc o) := fun o => (Below.refl _ _).alloc (Nat.le_refl _) o
  have Hb := hide' b0
  generalize hO : Obj.cells (keptS.map Value.string).toArray 9 = ob
  have HOb := hide' hO
  have hO' := hO
  simp only [keptS, List.map_cons, List.map_nil] at hO'
  clear ha b0 hO
  go_enter Tryd.func56, Tryd.ntmps56
  go_wp2
  clear hO'
  go_loopw [4] (fun i wr => ∃ k : Nat, k ≤ 11 ∧ i = .int .i64 k ∧ Hid (∀ j, j < k → ((keptS.getD j default).toList == (strOf xs).toList) = false) ∧ Hid (Below (w.alloc ob).heap.size (w.alloc ob) wr)) (fun i _ => 11 - (intOf i).toNat)
  case atStart => exact ⟨0, by omega, rfl, fun j h => by omega, Below.refl _ _⟩
  case round =>
    obtain ⟨k, hk, rfl, hall, hbel⟩ := hrel
    have B := Below.on (Hb.out ob) hbel.out
    by_cases hlt : k < 11
    · have hcell := kept_at k hlt w wr ob HOb.out.symm hbel.out
      have hcv : ∀ n, (convert 29 9 (.slice a xs.length cap)).run Tryd.prog (wr.drewN n) = .ok (.string (strOf xs)) (wr.drewN n) := fun n => conv_seg (w := wr.drewN n) cap (HA.out.grow (w' := wr.drewN n) (below_drewN B n))
      have hlt' : (k : Int) < 11 := by omega
      by_cases ht : ((keptS.getD k default).toList == (strOf xs).toList) = true
      · have HF : Hid (keptB xs = true) := HY.out k hlt ht
        generalize keptS.getD k default = u at *
        go_wp2_with fail
        go_quiet (fail)
        go_wp2
        go_ret
        exact ⟨ret_bool HF.out.symm, below_drewN B _⟩
      · have ht' : ((keptS.getD k default).toList == (strOf xs).toList) = false := by simpa using ht
        have HF : Hid (∀ j, j < k + 1 → ((keptS.getD j default).toList == (strOf xs).toList) = false) := fun j hj => by
          by_cases e : j = k
          · rw [e]; exact ht'
          · exact hall.out j (by omega)
        clear ht
        generalize keptS.getD k default = u at *
        go_wp2_with fail
        go_quiet (fail)
        go_wp2
        go_roundw
        case rel => exact ⟨k + 1, by omega, by go_num, HF, below_drewN hbel.out _⟩
        case measure => simp [intOf]; omega
    · have HF : Hid (keptB xs = false) := HNo.out fun j hj => hall.out j (by omega)
      have hlt' : ¬ (k : Int) < 11 := by omega
      go_wp2
      go_ret
      exact ⟨ret_bool HF.out.symm, B⟩

set_option maxHeartbeats 1600000 in
theorem spec_l6free_any (a : Option Addr) (cap : Nat) (xs : List Int) (w : World) (ha : Seg w a xs) (hl : xs.length ≤ maxLen) :
    Calls Tryd.prog 42 #[.slice a xs.length cap] w fun e w' => e = .returned (.bool (wordB xs)) ∧ Below w.heap.size w w' := by
  have HN := hide' (spec_NameOk_any a cap xs w ha hl)
  have HK := hide' (spec_l6kept_any a cap xs w ha)
  have HW : Hid (wordB xs = (nameB xs && !keptB xs)) := rfl
  generalize nameB xs = p at *
  generalize keptB xs = q at *
  clear ha hl
  cases p with
  | false =>
    go_enter Tryd.func42, Tryd.ntmps42
    go_wp2_with (go_at_call 45; refine HN.out.mono ?_; rintro e w1 ⟨rfl, e1⟩; obtain rfl := e1)
    go_ret
    exact ⟨ret_bool (by rw [HW.out]; rfl), Below.refl _ _⟩
  | true =>
    cases q
    all_goals
      go_enter Tryd.func42, Tryd.ntmps42
      go_wp2_with (first
        | (go_at_call 45; refine HN.out.mono ?_; rintro e w1 ⟨rfl, e1⟩; obtain rfl := e1)
        | (go_at_call 56; refine HK.out.mono ?_; rintro e w1 ⟨rfl, b1⟩))
      go_ret
      exact ⟨ret_bool (by rw [HW.out]; rfl), b1⟩
end Go.Proofs.YthkbapkndmlpfaaDoor
