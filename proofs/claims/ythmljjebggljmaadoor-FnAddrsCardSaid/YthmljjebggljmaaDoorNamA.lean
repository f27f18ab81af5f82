/-
  nameAlone of the program: a copy of a name, of the call's own; nothing if it is none.
-/
import Derived.Test.YthmljjebggljmaaDoorNames
import Derived.Test.YthmljjebggljmaaDoorBts0
namespace Go.Proofs.YthmljjebggljmaaDoor
open Go.RowKit
set_option linter.unusedVariables false

theorem nameB_le {xs : List Int} (h : nameB xs = true) : 1 ≤ xs.length ∧ xs.length ≤ 8 := by
  simp [nameB] at h
  omega

/-- A name, or nothing. -/
def nameC (xs : List Int) : List Int := if nameB xs = true then xs else []

set_option maxHeartbeats 800000 in
theorem nameAlone_any (a : Option Addr) (c : Nat) (xs : List Int) (w : World) (ha : Seg w a xs) (ka : a = none → c = 0) (hl : xs.length ≤ maxLen) :
    Calls Tryd.prog 27 #[.slice a xs.length c] w fun e w' => ∃ v, e = .returned v ∧ Bts w' w.heap.size v (nameC xs) ∧ Below w.heap.size w w' := by
  by_cases h : nameB xs = true
  · have Hp : Hid (nameC xs = xs) := by show nameC xs = xs; simp [nameC, h]
    obtain ⟨hl1, hl2⟩ := nameB_le h
    have hE := bts_nil w w.heap.size
    generalize hn : xs.length = n at *
    have Hn : Hid (n = xs.length) := hn.symm
    have HO : Hid (Calls Tryd.prog 12 #[.slice a n c] w fun e w' => e = .returned (.bool true) ∧ w = w') := by
      have := impl_NameOk_any a c xs w ha (by rw [hn]; exact hl)
      rw [h, hn] at this
      exact this
    clear hn
    go_enter Tryd.func27, Tryd.ntmps27
    go_wp2_with fail
    refine HO.out.mono ?_
    rintro e w1 ⟨rfl, rfl⟩
    go_wp2_with (at_builtin; refine wpList_append_seg rfl _ (.tmp 6) rfl w.heap.size _ [] xs rfl hE a n c Hn.out rfl ha ka (by simp; have := Hn.out; omega) (Nat.le_refl _) ?_; intro v2 w2 hv2 hg2)
    go_ret
    exact ⟨_, rfl, by rw [Hp.out]; exact hv2, (Below.refl _ _).grown hg2 (Nat.le_refl _) hE.own⟩
  · have Hp : Hid (nameC xs = []) := by show nameC xs = []; simp [nameC, h]
    have h' : nameB xs = false := by simpa using h
    have HO : Hid (Calls Tryd.prog 12 #[.slice a xs.length c] w fun e w' => e = .returned (.bool false) ∧ w = w') := by
      have := impl_NameOk_any a c xs w ha hl
      rw [h'] at this
      exact this
    go_enter Tryd.func27, Tryd.ntmps27
    go_wp2_with fail
    refine HO.out.mono ?_
    rintro e w1 ⟨rfl, rfl⟩
    go_wp2
    go_ret
    exact ⟨_, rfl, by rw [Hp.out]; exact bts_nil _ _, Below.refl _ _⟩
end Go.Proofs.YthmljjebggljmaaDoor
