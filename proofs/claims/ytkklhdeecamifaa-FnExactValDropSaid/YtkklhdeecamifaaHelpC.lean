/-
  The laws' own helpers markByteS and heldByteS: the one writes running numbers into a row that is the call's own, the other finds them there.
-/
import Derived.Test.YtkklhdeecamifaaHelpB
namespace Go.Proofs.Ytkklhdeecamifaa
open Go.RowKit
set_option linter.unusedVariables false

/-- The running numbers, as bytes. -/
def marks (m n : Nat) : List Int := (List.range n).map fun i => (((m + i) % 256 : Nat) : Int)

theorem length_marks (m n : Nat) : (marks m n).length = n := by simp [marks]
theorem marks_byt (m n : Nat) : ∀ x ∈ marks m n, Byt x := by
  intro x hx
  simp only [marks, List.mem_map] at hx
  obtain ⟨i, _, rfl⟩ := hx
  unfold Byt
  omega
theorem marks_at (m n k : Nat) (h : k < n) : (marks m n).getD k 0 = (((m + k) % 256 : Nat) : Int) := by simp [marks, h]

/-- What a row holds after k of the marks. -/
def marked (xs : List Int) (m k : Nat) : List Value := cellsOf (marks m k) ++ cellsOf (xs.drop k)
theorem marked_zero (xs : List Int) (m : Nat) : marked xs m 0 = cellsOf xs := by simp [marked, marks, cellsOf]
theorem marked_all (xs : List Int) (m : Nat) : marked xs m xs.length = cellsOf (marks m xs.length) := by simp [marked, cellsOf]
theorem length_marked (xs : List Int) (m k : Nat) (h : k ≤ xs.length) : (marked xs m k).length = xs.length := by simp [marked, marks, cellsOf]; omega
theorem marked_set (xs : List Int) (m k : Nat) (h : k < xs.length) : (marked xs m k).set k (.int .u8 (((m + k) % 256 : Nat) : Int)) = marked xs m (k + 1) := by
  apply List.ext_getElem
  · simp [marked, marks, cellsOf]; omega
  · intro i h1 h2
    simp only [marked, marks, cellsOf, List.getElem_set, List.getElem_append, List.length_map, List.length_range]
    by_cases hik : k = i
    · subst hik
      simp
    · by_cases hlt : i < k
      · have e2 : i < k + 1 := by omega
        simp [hik, hlt, e2]
      · have e2 : ¬ i < k + 1 := by omega
        have e3 : k + 1 + (i - (k + 1)) = k + (i - k) := by omega
        simp [hik, hlt, e2, e3]



set_option maxHeartbeats 400000 in
theorem markByteS_any (base : Nat) (a : Option Addr) (cap : Nat) (xs : List Int) (m : Nat) (w : World) (hB : Bts w base (.slice a xs.length cap) xs) (hl : xs.length ≤ 2097152) (hm : m ≤ 16777216) :
    Calls Try.prog 15 #[.slice a xs.length cap, .int .i64 m] w fun e w' => e = .returned (.int .i64 ((m + xs.length : Nat) : Int)) ∧ Bts w' base (.slice a xs.length cap) (marks m xs.length) ∧ w.grownBy w' (Value.slice a xs.length cap).ownBlock := by
  have hown0 := hB.2
  generalize hn : xs.length = n at hown0
  have Hn : Hid (xs.length = n) := hn
  have hln : n ≤ 2097152 := by omega
  clear hn hl hB
  have hr : ∀ wr : World, ∀ k, k < n → wr.ownsRow base 5 1 (.slice a n cap) n (marked xs m k) → ∃ g, a = some ⟨g, 0, none⟩ := by
    intro wr k hk h
    rcases h.2 with ⟨h1, h2⟩ | ⟨g, cp, cur, h1, _⟩
    · omega
    · simp at h1
      exact ⟨g, h1.1⟩
  have Hr : Hid (∀ wr : World, ∀ k, k < n → wr.ownsRow base 5 1 (.slice a n cap) n (marked xs m k) → ∃ g, a = some ⟨g, 0, none⟩) := hr
  clear hr
  go_enter Try.func15, Try.ntmps15
  go_wp2
  go_loopw [1, 5] (fun m' i wr => ∃ k : Nat, k ≤ n ∧ i = .int .i64 k ∧ m' = .int .i64 ((m + k : Nat) : Int) ∧ wr.ownsRow base 5 1 (.slice a n cap) n (marked xs m k) ∧ w.grownBy wr (Value.slice a n cap).ownBlock) (fun _ i _ => n - (intOf i).toNat)
  case atStart => exact ⟨0, Nat.zero_le _, rfl, by simp, by rw [marked_zero]; exact hown0, World.grownBy.refl _ _⟩
  case round =>
    obtain ⟨k, hk, rfl, rfl, hown1, hbel⟩ := hrel
    by_cases hlt : k < n
    · obtain ⟨g, rfl⟩ := Hr.out wr k hlt hown1
      have hd : ∃ v, wr.cell? ⟨g, k, none⟩ = some v := by
        rw [hown1.cellAt k (by omega)]
        have := length_marked xs m k (by have := Hn.out; omega)
        have h2 := Hn.out
        exact ⟨_, List.getElem?_eq_getElem (by omega)⟩
      obtain ⟨v, hd⟩ := hd
      have hfz := hown1.frozenAt k
      have hst := hown1.stored k (.int .u8 (((m + k) % 256 : Nat) : Int))
      rw [marked_set xs m k (by have := Hn.out; omega)] at hst
      obtain ⟨hst1, hst2⟩ := hst
      have hbel2 := grownBy_trans hbel hst2
      clear hst2 hown1 hbel
      have e : ((((m + k) % 256 : Nat) : Int)) = ((m : Int) + k) % 256 := by omega
      rw [e] at hst1 hbel2
      clear e
      go_wp2
      go_roundw
      case rel => exact ⟨k + 1, by omega, by go_num, by go_num, hst1, hbel2⟩
      case measure => simp [intOf]; omega
    · obtain rfl : k = n := by omega
      have hB : Bts wr base (.slice a k cap) (marks m k) := by
        refine ⟨marks_byt _ _, ?_⟩
        have h2 := Hn.out
        have h3 := marked_all xs m
        rw [h2] at h3
        rw [length_marks, ← h3]
        exact hown1
      go_wp2
      go_ret
      exact ⟨rfl, hB, hbel⟩

set_option maxHeartbeats 400000 in
theorem heldByteS_any (a : Option Addr) (cap : Nat) (m n : Nat) (w : World) (hs : Seg w a (marks m n)) (hl : n ≤ 2097152) (hm : m ≤ 16777216) :
    Calls Try.prog 37 #[.slice a n cap, .int .i64 m] w fun e w' => e = .returned (.int .i64 ((m + n : Nat) : Int)) ∧ Below w.heap.size w w' := by
  go_enter Try.func37, Try.ntmps37
  go_wp2
  go_loopw [1, 5] (fun m' i wr => ∃ k : Nat, k ≤ n ∧ i = .int .i64 k ∧ m' = .int .i64 ((m + k : Nat) : Int) ∧ Below w.heap.size w wr) (fun _ i _ => n - (intOf i).toNat)
  case atStart => exact ⟨0, Nat.zero_le _, rfl, by simp, Below.refl _ _⟩
  case round =>
    obtain ⟨k, hk, rfl, rfl, hbel⟩ := hrel
    by_cases hlt : k < n
    · obtain ⟨b1, o1, rfl, hc1⟩ := (hs.grow hbel).at (k := k) (by rw [length_marks]; omega)
      rw [marks_at m n k hlt] at hc1
      have e : ((((m + k) % 256 : Nat) : Int)) = ((m : Int) + k) % 256 := by omega
      rw [e] at hc1
      clear e
      go_wp2
      go_roundw
      case rel => exact ⟨k + 1, by omega, by go_num, by go_num, hbel⟩
      case measure => simp [intOf]; omega
    · obtain rfl : k = n := by omega
      go_wp2
      go_ret
      exact ⟨rfl, hbel⟩
end Go.Proofs.Ytkklhdeecamifaa
