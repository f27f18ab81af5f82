/-
  Texts that a law leans on, one behind the other; no statement is proved here.
-/
import Derived.Test.YtfokidhamjphfaaDoorPk6
import Derived.Test.YtfokidhamjphfaaDoorPk5
import Derived.Test.YtfokidhamjphfaaDoorPk2
import Derived.WalkKit
import Derived.ProofKit
import Derived.ChangeSlices
import Derived.ChangeArms
/-
  bytes.Compare of two slices of bytes.
-/
namespace Go.Proofs.YtfokidhamjphfaaDoor
open Go.RowKit
set_option linter.unusedVariables false

set_option maxHeartbeats 800000 in
set_option maxRecDepth 100000 in
theorem bytes_Compare_any (a b : Option Addr) (c1 c2 : Nat) (xs ys : List Int) (w : World) (ha : Seg w a xs) (hb : Seg w b ys) :
    Calls Tryd.prog 73 #[.slice a xs.length c1, .slice b ys.length c2] w fun e w' => e = .returned (.int .i64 (Lib.compareBytes (u8s xs) (u8s ys))) ∧ w = w' := by
  go_enter Tryd.func73, Tryd.ntmps73
  go_wp2
  rw [run_callFunc_extern Tryd.func78 (by kernel_rfl) (by kernel_rfl) (by kernel_rfl) (e := Extern.BytealgCompare.compare) (by kernel_rfl), run_compare_seg c1 c2 ha hb]
  simp only [Result.andThen]
  rw [Oper.upon_value]
  go_wp2
  go_ret
  exact ⟨rfl, rfl⟩

end Go.Proofs.YtfokidhamjphfaaDoor
/-
  numDigits of the program: the five bytes and how many of them count.
-/
namespace Go.Proofs.YtfokidhamjphfaaDoor
open Go.RowKit
set_option linter.unusedVariables false

end Go.Proofs.YtfokidhamjphfaaDoor
/-
  The specification's PutNum: it makes a row of its own that holds its argument's bytes and those of the number behind them.
-/
namespace Go.Proofs.YtfokidhamjphfaaDoor
open Go.RowKit
set_option linter.unusedVariables false

end Go.Proofs.YtfokidhamjphfaaDoor
/-
  A text that came in, as its reading has it, can be read: 'TSeg'.
-/
namespace Go.Proofs.YtfokidhamjphfaaDoor
open Go.ChangeShapes Go.WideShapes Go.ChangeAt Go.RowKit
set_option linter.unusedVariables false
set_option linter.unusedSimpArgs false
set_option maxRecDepth 100000

theorem cellsT : Tryd.prog.cellsOf 22 = 1 := by kernel_rfl
theorem cellsI : Tryd.prog.cellsOf 3 = 1 := by kernel_rfl

theorem list_of {α : Type} {Q : Nat → α → Prop} : ∀ n, (∀ i, i < n → ∃ x, Q i x) → ∃ l : List α, l.length = n ∧ ∀ i (h : i < l.length), Q i l[i]
  | 0, _ => ⟨[], rfl, fun i h => by simp at h⟩
  | n + 1, hq => by
    obtain ⟨l, hl, hi⟩ := list_of n (fun i hi => hq i (by omega))
    obtain ⟨x, hx⟩ := hq n (by omega)
    refine ⟨l ++ [x], by simp [hl], fun i h => ?_⟩
    by_cases e : i < l.length
    · rw [List.getElem_append_left e]; exact hi i e
    · have : i = n := by simp at h; omega
      subst this
      rw [List.getElem_append_right (by omega)]
      simpa using hx

variable {H : Type} {enc : TypeId × Value → H} {w : World}

theorem read_text {fuel : Nat} {cs : List Value} {x : DataW H × List MemPlace} (h : DataW.trod enc Tryd.prog w 0 (fun _ => true) true fuel 22 cs = some x) : ∃ u xs, cs = [u] ∧ TSeg (fun b => b < w.heap.size) w u xs := by
  rcases open_ints Tryd.underlying22 Tryd.underlying5 (by kernel_rfl) h with ⟨rfl, _⟩ | ⟨a, len, cap, zs, rfl, _, hl, hm, hz, _, hcell, hwz⟩
  · exact ⟨_, [], rfl, none, 0, rfl, ⟨by simp, .inl rfl⟩, Nat.le_refl _, Nat.zero_le _, fun _ => rfl, by simp⟩
  · obtain ⟨xs, e, hs, h1, h2, h3⟩ := seg_of_row (w := w) (a := some a) (len := len) (cap := cap) (zs := zs) (.inr ⟨a, rfl, hl, hm, by simpa using hz, hcell, hwz⟩)
    subst e
    exact ⟨_, xs, rfl, some a, cap, rfl, hs, h1, h2, h3, hs.lt⟩

end Go.Proofs.YtfokidhamjphfaaDoor
