/-
  What stands under a key in the datum of a map of parts whose keys ascend; no statement is proved here.
-/
import Derived.Test.YtkklhdeecamifaaFldD
import Derived.Test.YtkklhdeecamifaaFndK
import Derived.Maps.OwnSet
namespace Go.Proofs.Ytkklhdeecamifaa
open Go.RowKit
set_option linter.unusedVariables false
set_option linter.unusedSimpArgs false

theorem same_u8s {xs ys : List Int} (hx : ∀ x ∈ xs, Byt x) (hy : ∀ y ∈ ys, Byt y) : (Lit.string (u8s xs)).sameKey (.string (u8s ys)) = decide (xs = ys) := by
  have h := strOf_eq hx hy
  rw [strOf_list, strOf_list] at h
  rw [← h]
  simp [Lit.sameKey]

/-- Where the key is none of the map's. -/
theorem look_no {vK : List (List Int)} {ps : List Value} {n : Nat} {key : List Int} (hy : ∀ y ∈ key, Byt y) (hb : ∀ i, i < n → ∀ x ∈ vK.getD i [], Byt x) (hn : ∀ i, i < n → vK.getD i [] ≠ key) (zd : DataW Value) :
    Maps.has (.map (entF vK ps n)) (.string (u8s key)) = false ∧ (DataW.map (entF vK ps n)).atKey (.string (u8s key)) zd = zd := by
  have hnone : ∀ p ∈ entF vK ps n, p.1.sameKey (.string (u8s key)) = false := by
    intro p hp
    simp only [entF, List.mem_map, List.mem_range] at hp
    obtain ⟨i, hi, rfl⟩ := hp
    rw [same_u8s (hb i hi) hy]
    simpa using hn i hi
  refine ⟨?_, ?_⟩
  · simp only [Maps.has, List.any_eq_false]
    intro p hp
    simp [hnone p hp]
  · have : (entF vK ps n).find? (fun p => p.1.sameKey (.string (u8s key))) = none := by
      rw [List.find?_eq_none]
      intro p hp
      simp [hnone p hp]
    simp [DataW.atKey, this]

/-- Where it is the k-th, and none before it. -/
theorem look_yes {vK : List (List Int)} {ps : List Value} {n k : Nat} {key : List Int} (hy : ∀ y ∈ key, Byt y) (hb : ∀ i, i < n → ∀ x ∈ vK.getD i [], Byt x) (hk : k < n) (hn : ∀ i, i < k → vK.getD i [] ≠ key) (he : vK.getD k [] = key) (zd : DataW Value) :
    Maps.has (.map (entF vK ps n)) (.string (u8s key)) = true ∧ (DataW.map (entF vK ps n)).atKey (.string (u8s key)) zd = .held (ps.getD k .nilIface) := by
  have hfind : (entF vK ps n).find? (fun p => p.1.sameKey (.string (u8s key))) = some (.string (u8s (vK.getD k [])), .held (ps.getD k .nilIface)) := by
    rw [List.find?_eq_some_iff_getElem]
    refine ⟨?_, k, by simpa [entF] using hk, by simp [entF], fun j hj => ?_⟩
    · simp only
      rw [same_u8s (hb k hk) hy]
      simpa using he
    · have hj' : j < n := by omega
      simp only [entF, List.getElem_map, List.getElem_range]
      rw [same_u8s (hb j hj') hy]
      simpa using hn j hj
  refine ⟨?_, by simp [DataW.atKey, hfind]⟩
  simp only [Maps.has, List.any_eq_true]
  exact ⟨_, List.mem_of_find?_eq_some hfind, by have := List.find?_some hfind; simpa using this⟩
end Go.Proofs.Ytkklhdeecamifaa
