/-
  Texts that a law leans on, one behind the other; no statement is proved here.
-/
import Derived.Test.YtblnpjcmcjebkaaDoorPk0
import Derived.Test.YtblnpjcmcjebkaaDoorPk2
/-
  A text, a number of a value, names that ascend: textOk, ascendingNames of the program, l2text, l2int of the specification; they only read.
-/
namespace Go.Proofs.YtblnpjcmcjebkaaDoor
open Go.RowKit
set_option linter.unusedVariables false

/-- A byte of a text. -/
def chrB (c : Int) : Bool := decide (32 ≤ c) && decide (c ≤ 126)
/-- A text. -/
def textB (xs : List Int) : Bool := decide (xs.length ≤ 20) && xs.all chrB
theorem textB_long (xs : List Int) (h : 20 < xs.length) : textB xs = false := by simp [textB]; omega
theorem textB_all (xs : List Int) (h2 : xs.length ≤ 20) : textB xs = xs.all chrB := by simp [textB, h2]

set_option maxHeartbeats 800000 in
theorem impl_textOk_any (a : Option Addr) (c1 : Nat) (xs : List Int) (w : World) (ha : Seg w a xs) (hl : xs.length ≤ maxLen) :
    Calls Tryd.prog 40 #[.slice a xs.length c1] w fun e w' => e = .returned (.bool (textB xs)) ∧ w = w' := by
  unfold maxLen at hl
  by_cases h2 : 20 < xs.length
  · have HO : Hid (textB xs = false) := textB_long xs h2
    have h2' : (20 : Int) < (xs.length : Int) := by omega
    go_enter Tryd.func40, Tryd.ntmps40
    go_wp2
    go_ret
    exact ⟨ret_bool HO.out.symm, rfl⟩
  have HO : Hid (textB xs = xs.all chrB) := textB_all xs (by omega)
  have hb := getD_byt ha.1
  generalize hn : xs.length = n at *
  have Hn : Hid (xs.length = n) := hn
  have h2' : ¬ (20 : Int) < (n : Int) := by omega
  clear hn
  go_enter Tryd.func40, Tryd.ntmps40
  go_wp2
  go_loopw [10] (fun i wr => ∃ k : Nat, k ≤ n ∧ i = .int .i64 k ∧ fstAll chrB xs k ∧ wr = w) (fun i _ => n - (intOf i).toNat)
  case atStart => exact ⟨0, Nat.zero_le _, rfl, fstAll_zero _ _, rfl⟩
  case round =>
    obtain ⟨k, hk, rfl, hall, rfl⟩ := hrel
    by_cases hlt : k < n
    · obtain ⟨b1, o1, rfl, hc1⟩ := ha.at (k := k) (by have := Hn.out; omega)
      have hbk := hb k
      have HS : Hid (chrB (xs.getD k 0) = true → fstAll chrB xs (k + 1)) := fun h => fstAll_succ hall h
      have HN : Hid (chrB (xs.getD k 0) = false → xs.all chrB = false) := fun h => not_all_of (by have := Hn.out; omega) h
      generalize xs.getD k 0 = c at hc1 hbk HS HN
      have hlt' : (k : Int) < (n : Int) := by omega
      obtain ⟨hb1, hb2⟩ := hbk
      by_cases hc : c < 32
      · have HF : Hid (xs.all chrB = false) := HN.out (by simp [chrB]; omega)
        go_wp2
        go_ret
        exact ⟨ret_bool (by rw [HO.out, HF.out]), rfl⟩
      · by_cases hd : 126 < c
        · have HF : Hid (xs.all chrB = false) := HN.out (by simp [chrB]; omega)
          go_wp2
          go_ret
          exact ⟨ret_bool (by rw [HO.out, HF.out]), rfl⟩
        · have HF : Hid (fstAll chrB xs (k + 1)) := HS.out (by simp [chrB]; omega)
          go_wp2
          go_roundw
          case rel => exact ⟨k + 1, by omega, by go_num, HF.out, by first | rfl | trivial⟩
          case measure => simp [intOf]; omega
    · have HF : Hid (xs.all chrB = true) := all_of_fstAll (by rw [Hn.out]; have e : k = n := by omega
                                                              rw [← e]; exact hall)
      have hlt' : ¬ (k : Int) < (n : Int) := by omega
      go_wp2
      go_ret
      exact ⟨ret_bool (by rw [HO.out, HF.out]), rfl⟩

set_option maxHeartbeats 800000 in
theorem spec_l2text_any (a : Option Addr) (c1 : Nat) (xs : List Int) (w : World) (ha : Seg w a xs) (hl : xs.length ≤ maxLen) :
    Calls Tryd.prog 37 #[.slice a xs.length c1] w fun e w' => e = .returned (.bool (textB xs)) ∧ w = w' := by
  unfold maxLen at hl
  by_cases h2 : 20 < xs.length
  · have HO : Hid (textB xs = false) := textB_long xs h2
    have h2' : (20 : Int) < (xs.length : Int) := by omega
    go_enter Tryd.func37, Tryd.ntmps37
    go_wp2
    go_ret
    exact ⟨ret_bool HO.out.symm, rfl⟩
  have HO : Hid (textB xs = xs.all chrB) := textB_all xs (by omega)
  have hb := getD_byt ha.1
  generalize hn : xs.length = n at *
  have Hn : Hid (xs.length = n) := hn
  have h2' : ¬ (20 : Int) < (n : Int) := by omega
  clear hn
  go_enter Tryd.func37, Tryd.ntmps37
  go_wp2
  go_loopw [3] (fun i wr => ∃ k : Nat, k ≤ n ∧ i = .int .i64 k ∧ fstAll chrB xs k ∧ wr = w) (fun i _ => n - (intOf i).toNat)
  case atStart => exact ⟨0, Nat.zero_le _, rfl, fstAll_zero _ _, rfl⟩
  case round =>
    obtain ⟨k, hk, rfl, hall, rfl⟩ := hrel
    by_cases hlt : k < n
    · obtain ⟨b1, o1, rfl, hc1⟩ := ha.at (k := k) (by have := Hn.out; omega)
      have hbk := hb k
      have HS : Hid (chrB (xs.getD k 0) = true → fstAll chrB xs (k + 1)) := fun h => fstAll_succ hall h
      have HN : Hid (chrB (xs.getD k 0) = false → xs.all chrB = false) := fun h => not_all_of (by have := Hn.out; omega) h
      generalize xs.getD k 0 = c at hc1 hbk HS HN
      have hlt' : (k : Int) < (n : Int) := by omega
      obtain ⟨hb1, hb2⟩ := hbk
      by_cases hc : c < 32
      · have HF : Hid (xs.all chrB = false) := HN.out (by simp [chrB]; omega)
        go_wp2
        go_ret
        exact ⟨ret_bool (by rw [HO.out, HF.out]), rfl⟩
      · by_cases hd : 126 < c
        · have HF : Hid (xs.all chrB = false) := HN.out (by simp [chrB]; omega)
          go_wp2
          go_ret
          exact ⟨ret_bool (by rw [HO.out, HF.out]), rfl⟩
        · have HF : Hid (fstAll chrB xs (k + 1)) := HS.out (by simp [chrB]; omega)
          go_wp2
          go_roundw
          case rel => exact ⟨k + 1, by omega, by go_num, HF.out, by first | rfl | trivial⟩
          case measure => simp [intOf]; omega
    · have HF : Hid (xs.all chrB = true) := all_of_fstAll (by rw [Hn.out]; have e : k = n := by omega
                                                              rw [← e]; exact hall)
      have hlt' : ¬ (k : Int) < (n : Int) := by omega
      go_wp2
      go_ret
      exact ⟨ret_bool (by rw [HO.out, HF.out]), rfl⟩

/-- The name at place i is one, and behind the one ahead of it. -/
def stepB (ks : List (List Int)) (i : Nat) : Bool := nameB (ks.getD i []) && (i == 0 || ltS (ks.getD (i - 1) []) (ks.getD i []))
/-- Names that ascend. -/
def ascB (ks : List (List Int)) : Bool := (List.range ks.length).all (stepB ks)
theorem ascB_yes {ks : List (List Int)} (h : ∀ i, i < ks.length → stepB ks i = true) : ascB ks = true := by
  rw [ascB, List.all_eq_true]
  intro i hi
  exact h i (List.mem_range.1 hi)
theorem ascB_no {ks : List (List Int)} {i : Nat} (hi : i < ks.length) (h : stepB ks i = false) : ascB ks = false := by
  rw [ascB, List.all_eq_false]
  exact ⟨i, List.mem_range.2 hi, by simp [h]⟩
theorem ascB_at {ks : List (List Int)} (h : ascB ks = true) {i : Nat} (hi : i < ks.length) : stepB ks i = true := by
  rw [ascB, List.all_eq_true] at h
  exact h i (List.mem_range.2 hi)

theorem KSeg.at {R : Nat → Prop} {w : World} {a : Option Addr} {n cap : Nat} {ks : List (List Int)} (h : KSeg R w (.slice a n cap) ks) {k : Nat} (hk : k < ks.length) :
    ∃ b off, a = some ⟨b, off, none⟩ ∧ ∀ i, i < ks.length → ∃ a2 c2, w.cell? ⟨b, off + i, none⟩ = some (.slice a2 (ks.getD i []).length c2) ∧ Seg w a2 (ks.getD i []) ∧ (ks.getD i []).length ≤ maxLen := by
  obtain ⟨a', cap', h1, h2, h3, h4, h5⟩ := h
  simp only [Value.slice.injEq] at h1
  obtain ⟨rfl, _, _⟩ := h1
  rcases h5 with h0 | ⟨b, off, rfl, _, hc⟩
  · subst h0; simp at hk
  · refine ⟨b, off, rfl, fun i hi => ?_⟩
    obtain ⟨u, hu, a2, c2, rfl, s2, l2, m2, _⟩ := hc i hi
    exact ⟨a2, c2, hu, s2, by omega⟩

set_option maxHeartbeats 1600000 in
theorem ascendingNames_any (R : Nat → Prop) (x : Value) (ks : List (List Int)) (w : World) (hx : KSeg R w x ks) :
    Calls Tryd.prog 47 #[x] w fun e w' => e = .returned (.bool (ascB ks)) ∧ w = w' := by
  have HX : Hid (KSeg R w x ks) := hx
  obtain ⟨a, cap, rfl, hlc, hcm, ka, hc⟩ := hx
  unfold maxLen at hcm
  clear hc
  have HY : Hid ((∀ i, i < ks.length → stepB ks i = true) → ascB ks = true) := ascB_yes
  have HNo : Hid (∀ i, i < ks.length → stepB ks i = false → ascB ks = false) := fun i hi h => ascB_no hi h
  go_enter Tryd.func47, Tryd.ntmps47
  go_wp2
  go_loopw [7] (fun i wr => ∃ k : Nat, k ≤ ks.length ∧ i = .int .i64 k ∧ (∀ j, j < k → stepB ks j = true) ∧ wr = w) (fun i _ => ks.length - (intOf i).toNat)
  case atStart => exact ⟨0, Nat.zero_le _, rfl, fun j h => by omega, rfl⟩
  case round =>
    obtain ⟨k, hk, rfl, hall, rfl⟩ := hrel
    by_cases hlt : k < ks.length
    · obtain ⟨b, off, rfl, hat⟩ := HX.out.at hlt
      have hlt' : (k : Int) < (ks.length : Int) := by omega
      obtain ⟨a2, c2, hu, s2, m2⟩ := hat k hlt
      by_cases hn : nameB (ks.getD k []) = true
      · cases k with
        | zero =>
          have HS : Hid (stepB ks 0 = true) := by simp [Hid, stepB]; simpa using hn
          have HN := hide' (impl_NameOk_any a2 c2 (ks.getD 0 []) wr s2 m2)
          rw [hn] at HN
          generalize (ks.getD 0 []) = ys at *
          simp only [Nat.add_zero] at hu
          clear hat
          go_wp2_with fail
          refine HN.out.mono ?_
          rintro e w1 ⟨rfl, e1⟩
          obtain rfl := e1
          go_wp2
          go_roundw
          case rel => exact ⟨1, by omega, by go_num, fun j hj => by obtain rfl : j = 0 := by omega
                                                                    exact HS.out, by first | rfl | trivial⟩
          case measure => simp [intOf]; omega
        | succ j =>
          obtain ⟨a3, c3, hu3, s3, m3⟩ := hat j (by omega)
          have hst : stepB ks (j + 1) = ltS (ks.getD j []) (ks.getD (j + 1) []) := by simp only [stepB, hn]; simp
          have HN := hide' (impl_NameOk_any a2 c2 (ks.getD (j + 1) []) wr s2 m2)
          rw [hn] at HN
          have HC := hide' (bytes_Compare_any a3 a2 c3 c2 (ks.getD j []) (ks.getD (j + 1) []) wr s3 s2)
          have hlc : ltS (ks.getD j []) (ks.getD (j + 1) []) = decide (Lib.compareBytes (u8s (ks.getD j [])) (u8s (ks.getD (j + 1) [])) < 0) := less_cmp _ _
          rw [hlc] at hst
          have hcr := cmp_range (u8s (ks.getD j [])) (u8s (ks.getD (j + 1) []))
          have HS := hide' hst
          generalize Lib.compareBytes (u8s (ks.getD j [])) (u8s (ks.getD (j + 1) [])) = q at *
          generalize (ks.getD (j + 1) []) = ys at *
          generalize (ks.getD j []) = zs at *
          clear hat hst hlc hn s2 s3
          go_wp2_with fail
          refine HN.out.mono ?_
          rintro e w1 ⟨rfl, e1⟩
          obtain rfl := e1
          go_wp2_with fail
          refine HC.out.mono ?_
          rintro e w1 ⟨rfl, e1⟩
          obtain rfl := e1
          by_cases hq : 0 ≤ q
          · have HF : Hid (ascB ks = false) := HNo.out (j + 1) (by omega) (by rw [HS.out]; simpa using hq)
            go_wp2
            go_ret
            exact ⟨ret_bool HF.out.symm, rfl⟩
          · have HF : Hid (stepB ks (j + 1) = true) := by show stepB ks (j + 1) = true; rw [HS.out]; simpa using hq
            go_wp2
            go_roundw
            case rel => exact ⟨j + 2, by omega, by go_num, fun i hi => by
                                by_cases e : i = j + 1
                                · rw [e]; exact HF.out
                                · exact hall i (by omega), by first | rfl | trivial⟩
            case measure => simp [intOf]; omega
      · have hn' : nameB (ks.getD k []) = false := by simpa using hn
        have HF : Hid (ascB ks = false) := HNo.out k hlt (by unfold stepB; rw [hn']; rfl)
        have HN := hide' (impl_NameOk_any a2 c2 (ks.getD k []) wr s2 m2)
        rw [hn'] at HN
        generalize (ks.getD k []) = ys at *
        clear hat hn hn'
        go_wp2_with fail
        refine HN.out.mono ?_
        rintro e w1 ⟨rfl, e1⟩
        obtain rfl := e1
        go_wp2
        go_ret
        exact ⟨ret_bool HF.out.symm, rfl⟩
    · have HF : Hid (ascB ks = true) := HY.out (fun i hi => hall i (by omega))
      have hlt' : ¬ (k : Int) < (ks.length : Int) := by omega
      go_wp2
      go_ret
      exact ⟨ret_bool HF.out.symm, rfl⟩
end Go.Proofs.YtblnpjcmcjebkaaDoor
/-
  What l2int of the specification answers.
-/
namespace Go.Proofs.YtblnpjcmcjebkaaDoor
open Go.RowKit
set_option linter.unusedVariables false

/-- A number of a value. -/
def intB (n : Int) : Bool := decide (-1000000000000 ≤ n) && decide (n ≤ 1000000000000)

set_option maxHeartbeats 800000 in
theorem spec_l2int_any (n : Int) (w : World) :
    Calls Tryd.prog 36 #[.int .i64 n] w fun e w' => e = .returned (.bool (intB n)) ∧ w = w' := by
  by_cases h1 : -1000000000000 ≤ n
  · by_cases h2 : n ≤ 1000000000000
    · have HO : Hid (intB n = true) := by simp [Hid, intB, h1, h2]
      go_enter Tryd.func36, Tryd.ntmps36
      go_wp2
      go_ret
      exact ⟨ret_bool HO.out.symm, rfl⟩
    · have HO : Hid (intB n = false) := by simp [Hid, intB, h2]
      go_enter Tryd.func36, Tryd.ntmps36
      go_wp2
      go_ret
      exact ⟨ret_bool HO.out.symm, rfl⟩
  · have HO : Hid (intB n = false) := by simp [Hid, intB, h1]
    go_enter Tryd.func36, Tryd.ntmps36
    go_wp2
    go_ret
    exact ⟨ret_bool HO.out.symm, rfl⟩
end Go.Proofs.YtblnpjcmcjebkaaDoor
/-
  bare of the program: it tells whether all fields are nought that a kind does not have.
-/
namespace Go.Proofs.YtblnpjcmcjebkaaDoor
open Go.RowKit
set_option linter.unusedVariables false
set_option linter.unusedSimpArgs false

/-- All fields are nought that the kind does not have. -/
def bareB (vk vn : Int) (n2 n3 n4 : Nat) : Bool := (decide (vk = 1) || decide (vk = 2) || decide (vn = 0)) && (decide (vk = 3) || decide (n2 = 0)) && (decide (vk = 5) || decide (n3 = 0)) && (decide (vk = 4) || decide (vk = 5) || decide (n4 = 0))

set_option maxHeartbeats 4000000 in
theorem impl_bare_any (vk vn : Int) (a2 a3 a4 : Option Addr) (n2 n3 n4 p2 p3 p4 : Nat) (w : World) :
    Calls Tryd.prog 39 #[.agg #[.int .i64 vk, .int .i64 vn, .slice a2 n2 p2, .slice a3 n3 p3, .slice a4 n4 p4]] w fun e w' => e = .returned (.bool (bareB vk vn n2 n3 n4)) ∧ Below w.heap.size w w' := by
  have Hb : Hid (∀ o : Obj, Below w.heap.size w (w.alloc o)) := fun o => (Below.refl _ _).alloc (Nat.le_refl _) o
  by_cases k1 : vk = 1
  · subst k1
    by_cases an2 : n2 = 0
    · subst an2
      by_cases an3 : n3 = 0
      · subst an3
        by_cases an4 : n4 = 0
        · subst an4
          go_enter Tryd.func39, Tryd.ntmps39
          go_wp2
          go_ret
          exact ⟨ret_bool (by simp [bareB, *]), Hb.out _⟩
        · have bn4 : ¬ (n4 : Int) = 0 := by omega
          go_enter Tryd.func39, Tryd.ntmps39
          go_wp2
          go_ret
          exact ⟨ret_bool (by simp [bareB, *]), Hb.out _⟩
      · have bn3 : ¬ (n3 : Int) = 0 := by omega
        go_enter Tryd.func39, Tryd.ntmps39
        go_wp2
        go_ret
        exact ⟨ret_bool (by simp [bareB, *]), Hb.out _⟩
    · have bn2 : ¬ (n2 : Int) = 0 := by omega
      go_enter Tryd.func39, Tryd.ntmps39
      go_wp2
      go_ret
      exact ⟨ret_bool (by simp [bareB, *]), Hb.out _⟩
  by_cases k2 : vk = 2
  · subst k2
    by_cases an2 : n2 = 0
    · subst an2
      by_cases an3 : n3 = 0
      · subst an3
        by_cases an4 : n4 = 0
        · subst an4
          go_enter Tryd.func39, Tryd.ntmps39
          go_wp2
          go_ret
          exact ⟨ret_bool (by simp [bareB, *]), Hb.out _⟩
        · have bn4 : ¬ (n4 : Int) = 0 := by omega
          go_enter Tryd.func39, Tryd.ntmps39
          go_wp2
          go_ret
          exact ⟨ret_bool (by simp [bareB, *]), Hb.out _⟩
      · have bn3 : ¬ (n3 : Int) = 0 := by omega
        go_enter Tryd.func39, Tryd.ntmps39
        go_wp2
        go_ret
        exact ⟨ret_bool (by simp [bareB, *]), Hb.out _⟩
    · have bn2 : ¬ (n2 : Int) = 0 := by omega
      go_enter Tryd.func39, Tryd.ntmps39
      go_wp2
      go_ret
      exact ⟨ret_bool (by simp [bareB, *]), Hb.out _⟩
  by_cases k3 : vk = 3
  · subst k3
    by_cases an : vn = 0
    · subst an
      by_cases an3 : n3 = 0
      · subst an3
        by_cases an4 : n4 = 0
        · subst an4
          go_enter Tryd.func39, Tryd.ntmps39
          go_wp2
          go_ret
          exact ⟨ret_bool (by simp [bareB, *]), Hb.out _⟩
        · have bn4 : ¬ (n4 : Int) = 0 := by omega
          go_enter Tryd.func39, Tryd.ntmps39
          go_wp2
          go_ret
          exact ⟨ret_bool (by simp [bareB, *]), Hb.out _⟩
      · have bn3 : ¬ (n3 : Int) = 0 := by omega
        go_enter Tryd.func39, Tryd.ntmps39
        go_wp2
        go_ret
        exact ⟨ret_bool (by simp [bareB, *]), Hb.out _⟩
    · go_enter Tryd.func39, Tryd.ntmps39
      go_wp2
      go_ret
      exact ⟨ret_bool (by simp [bareB, *]), Hb.out _⟩
  by_cases k4 : vk = 4
  · subst k4
    by_cases an : vn = 0
    · subst an
      by_cases an2 : n2 = 0
      · subst an2
        by_cases an3 : n3 = 0
        · subst an3
          go_enter Tryd.func39, Tryd.ntmps39
          go_wp2
          go_ret
          exact ⟨ret_bool (by simp [bareB, *]), Hb.out _⟩
        · have bn3 : ¬ (n3 : Int) = 0 := by omega
          go_enter Tryd.func39, Tryd.ntmps39
          go_wp2
          go_ret
          exact ⟨ret_bool (by simp [bareB, *]), Hb.out _⟩
      · have bn2 : ¬ (n2 : Int) = 0 := by omega
        go_enter Tryd.func39, Tryd.ntmps39
        go_wp2
        go_ret
        exact ⟨ret_bool (by simp [bareB, *]), Hb.out _⟩
    · go_enter Tryd.func39, Tryd.ntmps39
      go_wp2
      go_ret
      exact ⟨ret_bool (by simp [bareB, *]), Hb.out _⟩
  by_cases k5 : vk = 5
  · subst k5
    by_cases an : vn = 0
    · subst an
      by_cases an2 : n2 = 0
      · subst an2
        go_enter Tryd.func39, Tryd.ntmps39
        go_wp2
        go_ret
        exact ⟨ret_bool (by simp [bareB, *]), Hb.out _⟩
      · have bn2 : ¬ (n2 : Int) = 0 := by omega
        go_enter Tryd.func39, Tryd.ntmps39
        go_wp2
        go_ret
        exact ⟨ret_bool (by simp [bareB, *]), Hb.out _⟩
    · go_enter Tryd.func39, Tryd.ntmps39
      go_wp2
      go_ret
      exact ⟨ret_bool (by simp [bareB, *]), Hb.out _⟩
  by_cases an : vn = 0
  · subst an
    by_cases an2 : n2 = 0
    · subst an2
      by_cases an3 : n3 = 0
      · subst an3
        by_cases an4 : n4 = 0
        · subst an4
          go_enter Tryd.func39, Tryd.ntmps39
          go_wp2
          go_ret
          exact ⟨ret_bool (by simp [bareB, *]), Hb.out _⟩
        · have bn4 : ¬ (n4 : Int) = 0 := by omega
          go_enter Tryd.func39, Tryd.ntmps39
          go_wp2
          go_ret
          exact ⟨ret_bool (by simp [bareB, *]), Hb.out _⟩
      · have bn3 : ¬ (n3 : Int) = 0 := by omega
        go_enter Tryd.func39, Tryd.ntmps39
        go_wp2
        go_ret
        exact ⟨ret_bool (by simp [bareB, *]), Hb.out _⟩
    · have bn2 : ¬ (n2 : Int) = 0 := by omega
      go_enter Tryd.func39, Tryd.ntmps39
      go_wp2
      go_ret
      exact ⟨ret_bool (by simp [bareB, *]), Hb.out _⟩
  · go_enter Tryd.func39, Tryd.ntmps39
    go_wp2
    go_ret
    exact ⟨ret_bool (by simp [bareB, *]), Hb.out _⟩
end Go.Proofs.YtblnpjcmcjebkaaDoor
/-
  What a value that may be is, by its depth: 'goodB'; how many parts it has: 'partsV'; what the specification's l2ok answers: 'okI'. Plain mathematics.
-/
namespace Go.Proofs.YtblnpjcmcjebkaaDoor
open Go.RowKit
set_option linter.unusedVariables false
set_option linter.unusedSimpArgs false

/-- The rules of one part by itself. -/
def shapeB (vk vn : Int) (vs : List Int) (vK : List (List Int)) (nL : Nat) : Bool :=
  bareB vk vn vs.length vK.length nL && (decide (vk = 0) || decide (vk = 6) || (decide (vk = 1) && (decide (vn = 0) || decide (vn = 1))) || (decide (vk = 2) && intB vn) || (decide (vk = 3) && textB vs) || decide (vk = 4) || (decide (vk = 5) && (decide (vK.length = nL) && ascB vK)))

/-- The rules of all parts, and of the depth. -/
def goodB : (d : Nat) → Vl d → Nat → Bool
  | 0, _, _ => false
  | d + 1, v, deep => decide (deep ≤ 5) && (shapeB v.1 v.2.1 v.2.2.1 v.2.2.2.1 v.2.2.2.2.length && v.2.2.2.2.all fun x => goodB d x (deep + 1))

/-- How many parts. -/
def partsV : (d : Nat) → Vl d → Nat
  | 0, _ => 0
  | d + 1, v => 1 + (v.2.2.2.2.map (partsV d)).sum

/-- What l2ok answers. -/
def okI (d : Nat) (v : Vl d) (deep : Nat) (left : Int) : Int := if goodB d v deep = true ∧ (partsV d v : Int) ≤ left then left - partsV d v else -1

theorem okI_yes {d : Nat} {v : Vl d} {deep : Nat} {left : Int} (h : goodB d v deep = true) (h2 : (partsV d v : Int) ≤ left) : okI d v deep left = left - partsV d v := by simp [okI, h, h2]
theorem okI_no {d : Nat} {v : Vl d} {deep : Nat} {left : Int} (h : ¬ (goodB d v deep = true ∧ (partsV d v : Int) ≤ left)) : okI d v deep left = -1 := by simp only [okI, h, if_false]

theorem good_succ (d : Nat) (vk vn : Int) (vs : List Int) (vK : List (List Int)) (vL : List (Vl d)) (deep : Nat) :
    goodB (d + 1) (vk, vn, vs, vK, vL) deep = true ↔ deep ≤ 5 ∧ shapeB vk vn vs vK vL.length = true ∧ ∀ j (h : j < vL.length), goodB d vL[j] (deep + 1) = true := by
  show (decide (deep ≤ 5) && (shapeB vk vn vs vK vL.length && vL.all fun x => goodB d x (deep + 1))) = true ↔ _
  simp only [Bool.and_eq_true, decide_eq_true_eq, List.all_eq_true]
  constructor
  · rintro ⟨h1, h2, h3⟩
    exact ⟨h1, h2, fun j h => h3 _ (List.getElem_mem h)⟩
  · rintro ⟨h1, h2, h3⟩
    refine ⟨h1, h2, fun x hx => ?_⟩
    obtain ⟨j, h, rfl⟩ := List.getElem_of_mem hx
    exact h3 j h

theorem parts_succ (d : Nat) (vk vn : Int) (vs : List Int) (vK : List (List Int)) (vL : List (Vl d)) : partsV (d + 1) (vk, vn, vs, vK, vL) = 1 + pre (partsV d) vL vL.length := by
  rw [pre_all]
  rfl

theorem parts_pos (d : Nat) (v : Vl (d + 1)) : 1 ≤ partsV (d + 1) v := by
  obtain ⟨vk, vn, vs, vK, vL⟩ := v
  rw [parts_succ]
  omega

theorem okI_left {d : Nat} (v : Vl (d + 1)) (deep : Nat) {left : Int} (h : left < 1) : okI (d + 1) v deep left = -1 :=
  okI_no fun ⟨_, h2⟩ => by have := parts_pos d v; omega

theorem okI_deep {d : Nat} (v : Vl (d + 1)) {deep : Nat} (left : Int) (h : 5 < deep) : okI (d + 1) v deep left = -1 := by
  obtain ⟨vk, vn, vs, vK, vL⟩ := v
  exact okI_no fun ⟨h1, _⟩ => by have := ((good_succ _ _ _ _ _ _ _).1 h1).1; omega

theorem okI_shape {d : Nat} {vk vn : Int} {vs : List Int} {vK : List (List Int)} {vL : List (Vl d)} (deep : Nat) (left : Int) (h : shapeB vk vn vs vK vL.length = false) : okI (d + 1) (vk, vn, vs, vK, vL) deep left = -1 :=
  okI_no fun ⟨h1, _⟩ => by have := ((good_succ _ _ _ _ _ _ _).1 h1).2.1; rw [h] at this; simp at this

theorem okI_bare {d : Nat} {vk vn : Int} {vs : List Int} {vK : List (List Int)} {vL : List (Vl d)} (deep : Nat) (left : Int) (h : bareB vk vn vs.length vK.length vL.length = false) : okI (d + 1) (vk, vn, vs, vK, vL) deep left = -1 :=
  okI_shape deep left (by simp [shapeB, h])

theorem okI_kid {d : Nat} {vk vn : Int} {vs : List Int} {vK : List (List Int)} {vL : List (Vl d)} {deep : Nat} {left : Int} {k : Nat} (hk : k < vL.length)
    (h : ¬ (goodB d vL[k] (deep + 1) = true ∧ (partsV d vL[k] : Int) ≤ left - 1 - pre (partsV d) vL k)) : okI (d + 1) (vk, vn, vs, vK, vL) deep left = -1 := by
  refine okI_no fun ⟨h1, h2⟩ => h ⟨((good_succ _ _ _ _ _ _ _).1 h1).2.2 k hk, ?_⟩
  rw [parts_succ] at h2
  have h3 := pre_succ (partsV d) vL k hk
  have h4 := pre_le (partsV d) vL (k + 1)
  have h5 := pre_all (partsV d) vL
  omega

theorem okI_all {d : Nat} {vk vn : Int} {vs : List Int} {vK : List (List Int)} {vL : List (Vl d)} {deep : Nat} {left : Int} (h1 : deep ≤ 5) (h2 : shapeB vk vn vs vK vL.length = true)
    (h3 : ∀ j (h : j < vL.length), goodB d vL[j] (deep + 1) = true) (h4 : (pre (partsV d) vL vL.length : Int) ≤ left - 1) : okI (d + 1) (vk, vn, vs, vK, vL) deep left = left - 1 - pre (partsV d) vL vL.length := by
  rw [okI_yes ((good_succ _ _ _ _ _ _ _).2 ⟨h1, h2, h3⟩) (by rw [parts_succ]; omega), parts_succ]
  omega

theorem okI_leaf {d : Nat} {vk vn : Int} {vs : List Int} {vK : List (List Int)} {deep : Nat} {left : Int} (h1 : deep ≤ 5) (h2 : shapeB vk vn vs vK 0 = true) (h4 : 1 ≤ left) : okI (d + 1) (vk, vn, vs, vK, []) deep left = left - 1 := by
  have := okI_all (d := d) (vL := []) (deep := deep) (left := left) h1 (by simpa using h2) (by intro j h; simp at h) (by simp [pre]; omega)
  simpa [pre] using this
end Go.Proofs.YtblnpjcmcjebkaaDoor
/-
  l2ok of the specification, its ways out ahead of the kinds: too many parts, too deep, a field that the kind does not have.
-/
namespace Go.Proofs.YtblnpjcmcjebkaaDoor
open Go.RowKit
set_option linter.unusedVariables false
set_option linter.unusedSimpArgs false

set_option maxHeartbeats 4000000 in
set_option maxRecDepth 100000 in
theorem l2ok_left (vk vn : Int) (a2 a3 a4 : Option Addr) (n2 n3 n4 p2 p3 p4 : Nat) (deep : Nat) (left : Int) (w : World) (h1 : left < 1) (h2 : 0 ≤ left) :
    Calls Tryd.prog 27 #[.agg #[.int .i64 vk, .int .i64 vn, .slice a2 n2 p2, .slice a3 n3 p3, .slice a4 n4 p4], .int .i64 deep, .int .i64 left] w fun e w' => e = .returned (.int .i64 (-1)) ∧ Below w.heap.size w w' := by
  have Hb : Hid (∀ o : Obj, Below w.heap.size w (w.alloc o)) := fun o => (Below.refl _ _).alloc (Nat.le_refl _) o
  have h3 : left - 1 < 0 := by omega
  go_enter Tryd.func27, Tryd.ntmps27
  go_wp2
  go_ret
  exact ⟨rfl, Hb.out _⟩

set_option maxHeartbeats 4000000 in
set_option maxRecDepth 100000 in
theorem l2ok_deep (vk vn : Int) (a2 a3 a4 : Option Addr) (n2 n3 n4 p2 p3 p4 : Nat) (deep : Nat) (left : Int) (w : World) (h1 : 1 ≤ left) (h2 : left ≤ 40) (h3 : 5 < deep) :
    Calls Tryd.prog 27 #[.agg #[.int .i64 vk, .int .i64 vn, .slice a2 n2 p2, .slice a3 n3 p3, .slice a4 n4 p4], .int .i64 deep, .int .i64 left] w fun e w' => e = .returned (.int .i64 (-1)) ∧ Below w.heap.size w w' := by
  have Hb : Hid (∀ o : Obj, Below w.heap.size w (w.alloc o)) := fun o => (Below.refl _ _).alloc (Nat.le_refl _) o
  have h4 : ¬ left - 1 < 0 := by omega
  have h5 : (5 : Int) < (deep : Int) := by omega
  go_enter Tryd.func27, Tryd.ntmps27
  go_wp2
  go_ret
  exact ⟨rfl, Hb.out _⟩

set_option maxHeartbeats 8000000 in
set_option maxRecDepth 100000 in
theorem l2ok_bare (vk vn : Int) (a2 a3 a4 : Option Addr) (n2 n3 n4 p2 p3 p4 : Nat) (deep : Nat) (left : Int) (w : World) (h1 : 1 ≤ left) (h2 : left ≤ 40) (h3 : deep ≤ 5) (hbare : bareB vk vn n2 n3 n4 = false) :
    Calls Tryd.prog 27 #[.agg #[.int .i64 vk, .int .i64 vn, .slice a2 n2 p2, .slice a3 n3 p3, .slice a4 n4 p4], .int .i64 deep, .int .i64 left] w fun e w' => e = .returned (.int .i64 (-1)) ∧ Below w.heap.size w w' := by
  have Hb : Hid (∀ o : Obj, Below w.heap.size w (w.alloc o)) := fun o => (Below.refl _ _).alloc (Nat.le_refl _) o
  have h4 : ¬ left - 1 < 0 := by omega
  have h5 : ¬ (5 : Int) < (deep : Int) := by omega
  by_cases k1 : vk = 1
  · subst k1
    by_cases an2 : n2 = 0
    · subst an2
      by_cases an3 : n3 = 0
      · subst an3
        by_cases an4 : n4 = 0
        · subst an4
          simp [bareB, *] at hbare
        · have bn4 : (0 : Int) < (n4 : Int) := by omega
          clear hbare
          go_enter Tryd.func27, Tryd.ntmps27
          go_wp2
          go_ret
          exact ⟨rfl, Hb.out _⟩
      · have bn3 : (0 : Int) < (n3 : Int) := by omega
        clear hbare
        go_enter Tryd.func27, Tryd.ntmps27
        go_wp2
        go_ret
        exact ⟨rfl, Hb.out _⟩
    · have bn2 : (0 : Int) < (n2 : Int) := by omega
      clear hbare
      go_enter Tryd.func27, Tryd.ntmps27
      go_wp2
      go_ret
      exact ⟨rfl, Hb.out _⟩
  by_cases k2 : vk = 2
  · subst k2
    by_cases an2 : n2 = 0
    · subst an2
      by_cases an3 : n3 = 0
      · subst an3
        by_cases an4 : n4 = 0
        · subst an4
          simp [bareB, *] at hbare
        · have bn4 : (0 : Int) < (n4 : Int) := by omega
          clear hbare
          go_enter Tryd.func27, Tryd.ntmps27
          go_wp2
          go_ret
          exact ⟨rfl, Hb.out _⟩
      · have bn3 : (0 : Int) < (n3 : Int) := by omega
        clear hbare
        go_enter Tryd.func27, Tryd.ntmps27
        go_wp2
        go_ret
        exact ⟨rfl, Hb.out _⟩
    · have bn2 : (0 : Int) < (n2 : Int) := by omega
      clear hbare
      go_enter Tryd.func27, Tryd.ntmps27
      go_wp2
      go_ret
      exact ⟨rfl, Hb.out _⟩
  by_cases k3 : vk = 3
  · subst k3
    by_cases an3 : n3 = 0
    · subst an3
      by_cases an : vn = 0
      · subst an
        by_cases an4 : n4 = 0
        · subst an4
          simp [bareB, *] at hbare
        · have bn4 : (0 : Int) < (n4 : Int) := by omega
          clear hbare
          go_enter Tryd.func27, Tryd.ntmps27
          go_wp2
          go_ret
          exact ⟨rfl, Hb.out _⟩
      · clear hbare
        go_enter Tryd.func27, Tryd.ntmps27
        go_wp2
        go_ret
        exact ⟨rfl, Hb.out _⟩
    · have bn3 : (0 : Int) < (n3 : Int) := by omega
      clear hbare
      go_enter Tryd.func27, Tryd.ntmps27
      go_wp2
      go_ret
      exact ⟨rfl, Hb.out _⟩
  by_cases k4 : vk = 4
  · subst k4
    by_cases an2 : n2 = 0
    · subst an2
      by_cases an3 : n3 = 0
      · subst an3
        by_cases an : vn = 0
        · subst an
          simp [bareB, *] at hbare
        · clear hbare
          go_enter Tryd.func27, Tryd.ntmps27
          go_wp2
          go_ret
          exact ⟨rfl, Hb.out _⟩
      · have bn3 : (0 : Int) < (n3 : Int) := by omega
        clear hbare
        go_enter Tryd.func27, Tryd.ntmps27
        go_wp2
        go_ret
        exact ⟨rfl, Hb.out _⟩
    · have bn2 : (0 : Int) < (n2 : Int) := by omega
      clear hbare
      go_enter Tryd.func27, Tryd.ntmps27
      go_wp2
      go_ret
      exact ⟨rfl, Hb.out _⟩
  by_cases k5 : vk = 5
  · subst k5
    by_cases an2 : n2 = 0
    · subst an2
      by_cases an : vn = 0
      · subst an
        simp [bareB, *] at hbare
      · clear hbare
        go_enter Tryd.func27, Tryd.ntmps27
        go_wp2
        go_ret
        exact ⟨rfl, Hb.out _⟩
    · have bn2 : (0 : Int) < (n2 : Int) := by omega
      clear hbare
      go_enter Tryd.func27, Tryd.ntmps27
      go_wp2
      go_ret
      exact ⟨rfl, Hb.out _⟩
  have q1 : (vk != 1) = true := by simp [k1]
  have q2 : (vk != 2) = true := by simp [k2]
  have q3 : (vk != 3) = true := by simp [k3]
  have q4 : (vk != 4) = true := by simp [k4]
  have q5 : (vk != 5) = true := by simp [k5]
  by_cases an2 : n2 = 0
  · subst an2
    by_cases an3 : n3 = 0
    · subst an3
      by_cases an : vn = 0
      · subst an
        by_cases an4 : n4 = 0
        · subst an4
          simp [bareB, *] at hbare
        · have bn4 : (0 : Int) < (n4 : Int) := by omega
          clear hbare
          go_enter Tryd.func27, Tryd.ntmps27
          go_wp2
          go_ret
          exact ⟨rfl, Hb.out _⟩
      · clear hbare
        go_enter Tryd.func27, Tryd.ntmps27
        go_wp2
        go_ret
        exact ⟨rfl, Hb.out _⟩
    · have bn3 : (0 : Int) < (n3 : Int) := by omega
      clear hbare
      go_enter Tryd.func27, Tryd.ntmps27
      go_wp2
      go_ret
      exact ⟨rfl, Hb.out _⟩
  · have bn2 : (0 : Int) < (n2 : Int) := by omega
    clear hbare
    go_enter Tryd.func27, Tryd.ntmps27
    go_wp2
    go_ret
    exact ⟨rfl, Hb.out _⟩
end Go.Proofs.YtblnpjcmcjebkaaDoor
/-
  l2ok of the specification, at every depth: 'okI'.
-/
namespace Go.Proofs.YtblnpjcmcjebkaaDoor
open Go.RowKit
set_option linter.unusedVariables false
set_option linter.unusedSimpArgs false

/-- The contract of l2ok at depth d. -/
def OkAt (d : Nat) : Prop := ∀ (N : Nat) (c : Value × Value × Value × Value × Value) (v : Vl d) (deep : Nat) (left : Int) (w : World), VSeg (fun b => b < N) w d c v → N ≤ w.heap.size → deep ≤ 6 → 0 ≤ left → left ≤ 40 →
  Calls Tryd.prog 27 #[.agg #[c.1, c.2.1, c.2.2.1, c.2.2.2.1, c.2.2.2.2], .int .i64 deep, .int .i64 left] w fun e w' => e = .returned (.int .i64 (okI d v deep left)) ∧ Below w.heap.size w w'

/-- One of two answers. -/
def sel (p : Bool) (x : Int) : Int := cond p x (-1)
theorem sel_yes {p : Bool} (x : Int) (h : p = true) : sel p x = x := by rw [h]; rfl
theorem sel_no {p : Bool} (x : Int) (h : p = false) : sel p x = -1 := by rw [h]; rfl

set_option maxHeartbeats 4000000 in
set_option maxRecDepth 100000 in
theorem l2ok_null (vk : Int) (hvk : vk = 0 ∨ vk = 6) (a2 a3 a4 : Option Addr) (p2 p3 p4 : Nat) (deep : Nat) (left : Int) (w : World) (h1 : 1 ≤ left) (h2 : left ≤ 40) (h3 : deep ≤ 5) :
    Calls Tryd.prog 27 #[.agg #[.int .i64 vk, .int .i64 0, .slice a2 0 p2, .slice a3 0 p3, .slice a4 0 p4], .int .i64 deep, .int .i64 left] w fun e w' => e = .returned (.int .i64 (left - 1)) ∧ Below w.heap.size w w' := by
  have Hb : Hid (∀ o : Obj, Below w.heap.size w (w.alloc o)) := fun o => (Below.refl _ _).alloc (Nat.le_refl _) o
  have h4 : ¬ left - 1 < 0 := by omega
  have h5 : ¬ (5 : Int) < (deep : Int) := by omega
  rcases hvk with rfl | rfl <;>
  · go_enter Tryd.func27, Tryd.ntmps27
    go_wp2
    go_ret
    exact ⟨rfl, Hb.out _⟩

set_option maxHeartbeats 4000000 in
set_option maxRecDepth 100000 in
theorem l2ok_none (vk : Int) (k0 : ¬ vk = 0) (k1 : ¬ vk = 1) (k2 : ¬ vk = 2) (k3 : ¬ vk = 3) (k4 : ¬ vk = 4) (k5 : ¬ vk = 5) (k6 : ¬ vk = 6) (a2 a3 a4 : Option Addr) (p2 p3 p4 : Nat) (deep : Nat) (left : Int) (w : World) (h1 : 1 ≤ left) (h2 : left ≤ 40) (h3 : deep ≤ 5) :
    Calls Tryd.prog 27 #[.agg #[.int .i64 vk, .int .i64 0, .slice a2 0 p2, .slice a3 0 p3, .slice a4 0 p4], .int .i64 deep, .int .i64 left] w fun e w' => e = .returned (.int .i64 (-1)) ∧ Below w.heap.size w w' := by
  have Hb : Hid (∀ o : Obj, Below w.heap.size w (w.alloc o)) := fun o => (Below.refl _ _).alloc (Nat.le_refl _) o
  have h4 : ¬ left - 1 < 0 := by omega
  have h5 : ¬ (5 : Int) < (deep : Int) := by omega
  go_enter Tryd.func27, Tryd.ntmps27
  go_wp2
  go_ret
  exact ⟨rfl, Hb.out _⟩

set_option maxHeartbeats 4000000 in
set_option maxRecDepth 100000 in
theorem l2ok_bool (vn : Int) (a2 a3 a4 : Option Addr) (p2 p3 p4 : Nat) (deep : Nat) (left : Int) (w : World) (h1 : 1 ≤ left) (h2 : left ≤ 40) (h3 : deep ≤ 5) :
    Calls Tryd.prog 27 #[.agg #[.int .i64 1, .int .i64 vn, .slice a2 0 p2, .slice a3 0 p3, .slice a4 0 p4], .int .i64 deep, .int .i64 left] w fun e w' => e = .returned (.int .i64 (sel (decide (vn = 0) || decide (vn = 1)) (left - 1))) ∧ Below w.heap.size w w' := by
  have Hb : Hid (∀ o : Obj, Below w.heap.size w (w.alloc o)) := fun o => (Below.refl _ _).alloc (Nat.le_refl _) o
  have h4 : ¬ left - 1 < 0 := by omega
  have h5 : ¬ (5 : Int) < (deep : Int) := by omega
  by_cases hn : vn < 0
  · have HO : Hid ((sel (decide (vn = 0) || decide (vn = 1)) (left - 1)) = -1) := sel_no _ (by simp; omega)
    go_enter Tryd.func27, Tryd.ntmps27
    go_wp2
    go_ret
    exact ⟨ret_i64 (by rw [HO.out]), Hb.out _⟩
  by_cases hm : 1 < vn
  · have HO : Hid ((sel (decide (vn = 0) || decide (vn = 1)) (left - 1)) = -1) := sel_no _ (by simp; omega)
    go_enter Tryd.func27, Tryd.ntmps27
    go_wp2
    go_ret
    exact ⟨ret_i64 (by rw [HO.out]), Hb.out _⟩
  have HO : Hid ((sel (decide (vn = 0) || decide (vn = 1)) (left - 1)) = left - 1) := sel_yes _ (by simp; omega)
  go_enter Tryd.func27, Tryd.ntmps27
  go_wp2
  go_ret
  exact ⟨ret_i64 (by rw [HO.out]), Hb.out _⟩

set_option maxHeartbeats 4000000 in
set_option maxRecDepth 100000 in
theorem l2ok_int (vn : Int) (a2 a3 a4 : Option Addr) (p2 p3 p4 : Nat) (deep : Nat) (left : Int) (w : World) (h1 : 1 ≤ left) (h2 : left ≤ 40) (h3 : deep ≤ 5) :
    Calls Tryd.prog 27 #[.agg #[.int .i64 2, .int .i64 vn, .slice a2 0 p2, .slice a3 0 p3, .slice a4 0 p4], .int .i64 deep, .int .i64 left] w fun e w' => e = .returned (.int .i64 (sel (intB vn) (left - 1))) ∧ Below w.heap.size w w' := by
  have Hb : Hid (∀ o : Obj, Below w.heap.size w (w.alloc o)) := fun o => (Below.refl _ _).alloc (Nat.le_refl _) o
  have h4 : ¬ left - 1 < 0 := by omega
  have h5 : ¬ (5 : Int) < (deep : Int) := by omega
  have HI : Hid (∀ wx, Calls Tryd.prog 36 #[.int .i64 vn] wx fun e w' => e = .returned (.bool (intB vn)) ∧ wx = w') := fun wx => spec_l2int_any vn wx
  by_cases hi : intB vn = true
  · have HO : Hid ((sel (intB vn) (left - 1)) = left - 1) := sel_yes _ hi
    rw [hi] at HI
    clear hi
    go_enter Tryd.func27, Tryd.ntmps27
    go_wp2_with fail
    refine (HI.out _).mono ?_
    rintro e w1 ⟨rfl, e1⟩
    obtain rfl := e1
    go_wp2
    go_ret
    exact ⟨ret_i64 (by rw [HO.out]), Hb.out _⟩
  · have HO : Hid ((sel (intB vn) (left - 1)) = -1) := sel_no _ (by simpa using hi)
    have hi' : intB vn = false := by simpa using hi
    rw [hi'] at HI
    clear hi hi'
    go_enter Tryd.func27, Tryd.ntmps27
    go_wp2_with fail
    refine (HI.out _).mono ?_
    rintro e w1 ⟨rfl, e1⟩
    obtain rfl := e1
    go_wp2
    go_ret
    exact ⟨ret_i64 (by rw [HO.out]), Hb.out _⟩

set_option maxHeartbeats 4000000 in
set_option maxRecDepth 100000 in
theorem l2ok_text (vs : List Int) (a2 a3 a4 : Option Addr) (p2 p3 p4 : Nat) (deep : Nat) (left : Int) (w : World) (hs : Seg w a2 vs) (hm : vs.length ≤ maxLen) (h1 : 1 ≤ left) (h2 : left ≤ 40) (h3 : deep ≤ 5) :
    Calls Tryd.prog 27 #[.agg #[.int .i64 3, .int .i64 0, .slice a2 vs.length p2, .slice a3 0 p3, .slice a4 0 p4], .int .i64 deep, .int .i64 left] w fun e w' => e = .returned (.int .i64 (sel (textB vs) (left - 1))) ∧ Below w.heap.size w w' := by
  have b0 : ∀ o : Obj, Below w.heap.size w (w.alloc o) := fun o => (Below.refl _ _).alloc (Nat.le_refl _) o
  have Hb : Hid (∀ o : Obj, Below w.heap.size w (w.alloc o)) := b0
  have h4 : ¬ left - 1 < 0 := by omega
  have h5 : ¬ (5 : Int) < (deep : Int) := by omega
  have HI : Hid (∀ o : Obj, Calls Tryd.prog 37 #[.slice a2 vs.length p2] (w.alloc o) fun e w' => e = .returned (.bool (textB vs)) ∧ (w.alloc o) = w') := fun o => spec_l2text_any a2 p2 vs _ (hs.grow (b0 o)) hm
  by_cases hi : textB vs = true
  · have HO : Hid ((sel (textB vs) (left - 1)) = left - 1) := sel_yes _ hi
    rw [hi] at HI
    clear hi b0 hs
    go_enter Tryd.func27, Tryd.ntmps27
    go_wp2_with fail
    refine (HI.out _).mono ?_
    rintro e w1 ⟨rfl, e1⟩
    obtain rfl := e1
    go_wp2
    go_ret
    exact ⟨ret_i64 (by rw [HO.out]), Hb.out _⟩
  · have HO : Hid ((sel (textB vs) (left - 1)) = -1) := sel_no _ (by simpa using hi)
    have hi' : textB vs = false := by simpa using hi
    rw [hi'] at HI
    clear hi hi' b0 hs
    go_enter Tryd.func27, Tryd.ntmps27
    go_wp2_with fail
    refine (HI.out _).mono ?_
    rintro e w1 ⟨rfl, e1⟩
    obtain rfl := e1
    go_wp2
    go_ret
    exact ⟨ret_i64 (by rw [HO.out]), Hb.out _⟩
end Go.Proofs.YtblnpjcmcjebkaaDoor
/-
  Small laws on calls that turn nothing, on the box of a value, on lists of values; no statement is proved here.
-/
namespace Go.Proofs.YtblnpjcmcjebkaaDoor
open Go.RowKit
set_option linter.unusedVariables false
set_option linter.unusedSimpArgs false

theorem quiet_same {P : Program} {f : FuncId} {args : Array Value} {w : World} {n : Nat} {v : Value}
    (h : Calls P f args (w.drewN n) fun e w' => e = .returned v ∧ w.drewN n = w') : Calls P f args (w.drewN n) fun e w'' => e = .returned v ∧ ∃ m, w'' = w.drewN m :=
  Calls.quiet_of_same (h.mono fun _ _ ⟨he, hm⟩ => ⟨he, hm.symm⟩)

/-- The box of a value that was handed in. -/
theorem box_row {w wr : World} {o : Obj} (h : Below (w.alloc o).heap.size (w.alloc o) wr) : wr.heap[w.heap.size]? = some o :=
  (h.block w.heap.size (by simp)).trans (MapKept.heap_alloc w o).1

theorem LSeg.at {N : Nat} {w wr : World} {d : Nat} {a : Option Addr} {n cap : Nat} {l : List (Vl d)} (h : LSeg (fun b => b < N) w d (.slice a n cap) l) (hb : Below w.heap.size w wr) (hN : N ≤ w.heap.size) {k : Nat} (hk : k < l.length) :
    ∃ b off c, a = some ⟨b, off, none⟩ ∧ Five wr b (off + k * 5) c ∧ ∀ wx, Below w.heap.size w wx → VSeg (fun b => b < N) wx d c (l[k]) := by
  obtain ⟨a', cap', h1, h2, h3, h4, h5⟩ := h
  simp only [Value.slice.injEq] at h1
  obtain ⟨rfl, _, _⟩ := h1
  rcases h5 with h0 | ⟨b, off, rfl, hR, hc⟩
  · subst h0; simp at hk
  · obtain ⟨c, h5, hv⟩ := hc k hk
    exact ⟨b, off, c, rfl, h5.agree (agree_below (hb.mono hN)) hR, fun wx hx => VSeg.agree (agree_below (hx.mono hN)) d hv⟩

theorem VSeg.form {R : Nat → Prop} {w : World} (d : Nat) {c0 c1 c2 c3 c4 : Value} {v : Vl d} (h : VSeg R w d (c0, c1, c2, c3, c4) v) :
    ∃ (k n : Int) (a2 : Option Addr) (l2 p2 : Nat) (a3 : Option Addr) (l3 p3 : Nat) (a4 : Option Addr) (l4 p4 : Nat), c0 = .int .i64 k ∧ c1 = .int .i64 n ∧ c2 = .slice a2 l2 p2 ∧ c3 = .slice a3 l3 p3 ∧ c4 = .slice a4 l4 p4 := by
  cases d with
  | zero => exact h.elim
  | succ d =>
    obtain ⟨e0, e1, ⟨a2, p2, e2, _⟩, ⟨a3, p3, e3, _⟩, a4, p4, e4, _⟩ := h
    exact ⟨_, _, _, _, _, _, _, _, _, _, _, e0, e1, e2, e3, e4⟩
end Go.Proofs.YtblnpjcmcjebkaaDoor
