/-
  The laws' own helper eqByteS: of two slices that hold the same bytes it answers true, and turns nothing.
-/
import Derived.Test.YtkklhdeecamifaaHelpA
namespace Go.Proofs.Ytkklhdeecamifaa
open Go.RowKit
set_option linter.unusedVariables false

theorem Seg.at {w : World} {a : Option Addr} {xs : List Int} (h : Seg w a xs) {k : Nat} (hk : k < xs.length) : ∃ b off, a = some ⟨b, off, none⟩ ∧ w.cell? ⟨b, off + k, none⟩ = some (.int .u8 (xs.getD k 0)) := by
  rcases h.2 with h0 | ⟨b, off, h1, h2⟩
  · subst h0; simp at hk
  · exact ⟨b, off, h1, h2 k hk⟩

set_option maxHeartbeats 400000 in
theorem eqByteS_same (a b : Option Addr) (c1 c2 : Nat) (xs : List Int) (w : World) (ha : Seg w a xs) (hb : Seg w b xs) (hl : xs.length ≤ 2097152) :
    Calls Try.prog 13 #[.slice a xs.length c1, .slice b xs.length c2] w fun e w' => e = .returned (.bool true) ∧ Below w.heap.size w w' := by
  generalize hn : xs.length = n
  have Hn : Hid (xs.length = n) := hn
  have hln : n ≤ 2097152 := by omega
  clear hn hl
  go_enter Try.func13, Try.ntmps13
  go_wp2
  go_loopw [5] (fun i wr => ∃ k : Nat, k ≤ n ∧ i = .int .i64 k ∧ Below w.heap.size w wr) (fun i _ => n - (intOf i).toNat)
  case atStart => exact ⟨0, Nat.zero_le _, rfl, Below.refl _ _⟩
  case round =>
    obtain ⟨k, hk, rfl, hbel⟩ := hrel
    by_cases hlt : k < n
    · obtain ⟨b1, o1, rfl, hc1⟩ := (ha.grow hbel).at (k := k) (by have := Hn.out; omega)
      obtain ⟨b2, o2, rfl, hc2⟩ := (hb.grow hbel).at (k := k) (by have := Hn.out; omega)
      generalize xs.getD k 0 = c at hc1 hc2
      have hlt' : (k : Int) < (n : Int) := by omega
      go_wp2
      go_quiet (fail)
      go_wp2
      go_roundw
      case rel => exact ⟨k + 1, by omega, by go_num, below_drewN hbel _⟩
      case measure => simp [intOf]; omega
    · go_wp2
      go_ret
      exact ⟨rfl, hbel⟩
theorem grownBy_trans {w0 w1 w2 : World} {row : Option Nat} (h : w0.grownBy w1 row) (k : w1.grownBy w2 row) : w0.grownBy w2 row :=
  ⟨k.os.trans h.os, k.tape.trans h.tape, k.output.trans h.output, Nat.le_trans h.size k.size, fun i hi hne => (k.block i (Nat.lt_of_lt_of_le hi h.size) hne).trans (h.block i hi hne)⟩

end Go.Proofs.Ytkklhdeecamifaa
