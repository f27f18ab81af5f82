/-
  Texts that a law leans on, one behind the other; no statement is proved here.
-/
import Derived.Test.YtfokidhamjphfaaDoorPk0
/-
  The laws' own helper toByteS: it makes a row of its own that holds what its argument holds; nothing old is turned.
-/
namespace Go.Proofs.YtfokidhamjphfaaDoor
open Go.RowKit
set_option linter.unusedVariables false

/-- What the loop of toByteS has laid after k rounds. -/
def mixed (xs : List Int) (k : Nat) : List Value := cellsOf (xs.take k) ++ List.replicate (xs.length - k) (.int .u8 0)

theorem length_mixed (xs : List Int) (k : Nat) (h : k ≤ xs.length) : (mixed xs k).length = xs.length := by simp [mixed, cellsOf]; omega
theorem mixed_zero (xs : List Int) : mixed xs 0 = List.replicate xs.length (.int .u8 0) := by simp [mixed, cellsOf]
theorem mixed_all (xs : List Int) : mixed xs xs.length = cellsOf xs := by simp [mixed]
theorem mixed_set (xs : List Int) (k : Nat) (h : k < xs.length) : (mixed xs k).set k (.int .u8 (xs.getD k 0)) = mixed xs (k + 1) := by
  apply List.ext_getElem
  · simp [mixed, cellsOf]; omega
  · intro i h1 h2
    simp only [mixed, cellsOf, List.getElem_set, List.getElem_append, List.length_map, List.length_take]
    by_cases hik : k = i
    · subst hik
      have e2 : k < min (k + 1) xs.length := by omega
      simp [h, e2]
    · by_cases hlt : i < k
      · have e1 : i < min k xs.length := by omega
        have e2 : i < min (k + 1) xs.length := by omega
        simp [hik, e1, e2]
      · have e1 : ¬ i < min k xs.length := by omega
        have e2 : ¬ i < min (k + 1) xs.length := by omega
        simp [hik, e1, e2]

set_option maxHeartbeats 400000 in
theorem toByteS_any (a : Option Addr) (cap : Nat) (xs : List Int) (w : World) (hs : Seg w a xs) (hl : xs.length ≤ 2097152) :
    Calls Tryd.prog 16 #[.slice a xs.length cap] w fun e w' => e = .returned (.slice (some ⟨w.heap.size, 0, none⟩) xs.length xs.length) ∧ Bts w' w.heap.size (.slice (some ⟨w.heap.size, 0, none⟩) xs.length xs.length) xs ∧ Below w.heap.size w w' := by
  obtain ⟨i0, hi, hz0, hz1, hz2⟩ := info_parts info5
  generalize hn : xs.length = n
  have Hn : Hid (xs.length = n) := hn
  have hln : n ≤ 2097152 := by omega
  clear hn hl
  go_enter Tryd.func16, Tryd.ntmps16
  go_wp2_with (refine wpList_make_full _ rfl _ _ 22 rfl w.heap.size 5 i0 (.int .u8 0) 1 Tryd.underlying22 hi hz0 hz1 .i64 .i64 _ _ n rfl rfl rfl rfl (by rw [hz2]; omega) (by unfold maxLen; omega) (Nat.le_refl _) ?_; intro w1 hown hgrow)
  go_loopw [4] (fun i wr => ∃ k : Nat, k ≤ n ∧ i = .int .i64 k ∧ wr.ownsRow w.heap.size 5 1 (.slice (some ⟨w.heap.size, 0, none⟩) n n) n (mixed xs k) ∧ Below w.heap.size w wr) (fun i _ => n - (intOf i).toNat)
  case atStart => exact ⟨0, Nat.zero_le _, rfl, by rw [mixed_zero, Hn.out]; simpa [toList_madeCells_one, Value.cells] using hown, (Below.refl _ _).grown hgrow (Nat.le_refl _) (by simp)⟩
  case round =>
    obtain ⟨k, hk, rfl, hown1, hbel⟩ := hrel
    by_cases hlt : k < n
    · have hc : ∃ b off, a = some ⟨b, off, none⟩ ∧ wr.cell? ⟨b, off + k, none⟩ = some (.int .u8 (xs.getD k 0)) := by
        have hlt' : k < xs.length := by have := Hn.out; omega
        have hs' := hs.grow hbel
        rcases hs'.2 with h0 | ⟨b, off, h1, h2⟩
        · subst h0; simp at hlt'
        · exact ⟨b, off, h1, h2 k hlt'⟩
      obtain ⟨b, off, rfl, hc⟩ := hc
      have hd : ∃ v, wr.cell? ⟨w.heap.size, k, none⟩ = some v := by
        rw [hown1.cellAt k (by omega)]
        have := length_mixed xs k (by have := Hn.out; omega)
        have h2 := Hn.out
        exact ⟨_, List.getElem?_eq_getElem (by omega)⟩
      obtain ⟨v, hd⟩ := hd
      have hfz := hown1.frozenAt k
      have hst := hown1.stored k (.int .u8 (xs.getD k 0))
      rw [mixed_set xs k (by have := Hn.out; omega)] at hst
      obtain ⟨hst1, hst2⟩ := hst
      have hbel2 := hbel.setCell (p := ⟨w.heap.size, k, none⟩) (Nat.le_refl _) (.int .u8 (xs.getD k 0))
      generalize xs.getD k 0 = c at hc hst1 hbel2
      clear hst2 hown1
      go_wp2
      go_roundw
      case rel => exact ⟨k + 1, by omega, by go_num, hst1, hbel2⟩
      case measure => simp [intOf]; omega
    · obtain rfl : k = n := by omega
      have hB : Bts wr w.heap.size (.slice (some ⟨w.heap.size, 0, none⟩) k k) xs := by
        refine ⟨hs.1, ?_⟩
        have h2 := Hn.out
        have h3 := mixed_all xs
        rw [h2] at h3 ⊢
        rw [← h3]
        exact hown1
      go_wp2
      go_ret
      exact ⟨rfl, hB, hbel⟩
end Go.Proofs.YtfokidhamjphfaaDoor
/-
  The laws' own helper eqByteS: of two slices that hold the same bytes it answers true, and turns nothing.
-/
namespace Go.Proofs.YtfokidhamjphfaaDoor
open Go.RowKit
set_option linter.unusedVariables false

theorem Seg.at {w : World} {a : Option Addr} {xs : List Int} (h : Seg w a xs) {k : Nat} (hk : k < xs.length) : ∃ b off, a = some ⟨b, off, none⟩ ∧ w.cell? ⟨b, off + k, none⟩ = some (.int .u8 (xs.getD k 0)) := by
  rcases h.2 with h0 | ⟨b, off, h1, h2⟩
  · subst h0; simp at hk
  · exact ⟨b, off, h1, h2 k hk⟩

set_option maxHeartbeats 400000 in
theorem eqByteS_same (a b : Option Addr) (c1 c2 : Nat) (xs : List Int) (w : World) (ha : Seg w a xs) (hb : Seg w b xs) (hl : xs.length ≤ 2097152) :
    Calls Tryd.prog 18 #[.slice a xs.length c1, .slice b xs.length c2] w fun e w' => e = .returned (.bool true) ∧ Below w.heap.size w w' := by
  generalize hn : xs.length = n
  have Hn : Hid (xs.length = n) := hn
  have hln : n ≤ 2097152 := by omega
  clear hn hl
  go_enter Tryd.func18, Tryd.ntmps18
  go_wp2
  go_loopw [5] (fun i wr => ∃ k : Nat, k ≤ n ∧ i = .int .i64 k ∧ Below w.heap.size w wr) (fun i _ => n - (intOf i).toNat)
  case atStart => exact ⟨0, Nat.zero_le _, rfl, Below.refl _ _⟩
  case round =>
    obtain ⟨k, hk, rfl, hbel⟩ := hrel
    by_cases hlt : k < n
    · obtain ⟨b1, o1, rfl, hc1⟩ := (ha.grow hbel).at (k := k) (by have := Hn.out; omega)
      obtain ⟨b2, o2, rfl, hc2⟩ := (hb.grow hbel).at (k := k) (by have := Hn.out; omega)
      generalize xs.getD k 0 = c at hc1 hc2
      have hlt' : (k : Int) < (n : Int) := by omega
      go_wp2
      go_quiet (fail)
      go_wp2
      go_roundw
      case rel => exact ⟨k + 1, by omega, by go_num, below_drewN hbel _⟩
      case measure => simp [intOf]; omega
    · go_wp2
      go_ret
      exact ⟨rfl, hbel⟩
theorem grownBy_trans {w0 w1 w2 : World} {row : Option Nat} (h : w0.grownBy w1 row) (k : w1.grownBy w2 row) : w0.grownBy w2 row :=
  ⟨k.os.trans h.os, k.tape.trans h.tape, k.output.trans h.output, Nat.le_trans h.size k.size, fun i hi hne => (k.block i (Nat.lt_of_lt_of_le hi h.size) hne).trans (h.block i hi hne)⟩

end Go.Proofs.YtfokidhamjphfaaDoor
