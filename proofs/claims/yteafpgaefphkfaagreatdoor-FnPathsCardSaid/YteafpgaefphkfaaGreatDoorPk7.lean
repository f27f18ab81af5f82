/-
  Texts that a law leans on, one behind the other; no statement is proved here.
-/
import Derived.Test.YteafpgaefphkfaaGreatDoorPk3
import Derived.Test.YteafpgaefphkfaaGreatDoorPk2
import Derived.Test.YteafpgaefphkfaaGreatDoorPk4
import Derived.Test.YteafpgaefphkfaaGreatDoorPk6
/-
  What is drawn of texts: '[]byte(s)' of a string; a name that is drawn is one.
-/
namespace Go.Proofs.YteafpgaefphkfaaGreatDoor
open Go.RowKit
set_option linter.unusedVariables false
set_option linter.unusedSimpArgs false

/-- A text in new memory. -/
def Txt (B : Nat) (w : World) (v : Value) (xs : List Int) : Prop := ∃ a cap, v = .slice a xs.length cap ∧ Seg w a xs ∧ xs.length ≤ cap ∧ cap ≤ maxLen ∧ (a = none → cap = 0) ∧ ∀ x, a = some x → B ≤ x.block

theorem Txt.mono {B B' : Nat} {w : World} {v : Value} {xs : List Int} (h : Txt B w v xs) (hb : B' ≤ B) : Txt B' w v xs := by
  obtain ⟨a, cap, h1, h2, h3, h4, h5, h6⟩ := h
  exact ⟨a, cap, h1, h2, h3, h4, h5, fun x hx => Nat.le_trans hb (h6 x hx)⟩

theorem Txt.grow {B : Nat} {w w' : World} {v : Value} {xs : List Int} (h : Txt B w v xs) (hb : Below w.heap.size w w') : Txt B w' v xs := by
  obtain ⟨a, cap, h1, h2, h3⟩ := h
  exact ⟨a, cap, h1, h2.grow hb, h3⟩
theorem Txt.away {B g : Nat} {w w' : World} {v : Value} {xs : List Int} (h : Txt B w v xs) (hg : w.grownBy w' (some g)) (hgB : g < B) : Txt B w' v xs := by
  obtain ⟨a, cap, h1, h2, h3, h4, h5, h6⟩ := h
  exact ⟨a, cap, h1, h2.away hg (fun x hx _ e => by have := h6 x hx; simp at e; omega), h3, h4, h5, h6⟩
/-- The names that are drawn. -/
def names7 : List (List Int) := [[97], [98], [99], [115, 105, 122, 101], [122, 111, 110, 101], [107, 105, 110, 100], [116, 97, 103]]
theorem names7_ok : ∀ k, k < 7 → nameB (names7.getD k []) = true ∧ (names7.getD k []).length ≤ 8 := by decide
theorem names_byt {xs : List Int} (h : nameB xs = true) : ∀ x ∈ xs, Byt x := by
  intro x hx
  simp only [nameB, Bool.and_eq_true, List.all_eq_true] at h
  have := h.2 x hx
  simp [letB] at this
  unfold Byt
  omega

end Go.Proofs.YteafpgaefphkfaaGreatDoor
/-
  joined, PutNum and NumLen of the program, NumLen of the specification.
-/
namespace Go.Proofs.YteafpgaefphkfaaGreatDoor
open Go.RowKit
set_option linter.unusedVariables false

end Go.Proofs.YteafpgaefphkfaaGreatDoor
/-
  PutText of the program and of the specification: a text with its length ahead, behind a copy of what was there.
-/
namespace Go.Proofs.YteafpgaefphkfaaGreatDoor
open Go.RowKit
set_option linter.unusedVariables false

/-- What PutText answers. -/
def putText (xs ts : List Int) : List Int := if 20 < ts.length then xs else putNum xs ts.length ++ ts
theorem putText_no (xs ts : List Int) (h : 20 < ts.length) : putText xs ts = xs := by simp [putText, h]
theorem putText_yes (xs ts : List Int) (h : ¬ 20 < ts.length) : putText xs ts = putNum xs ts.length ++ ts := by simp [putText, h]
theorem putText_len (xs ts : List Int) : (putText xs ts).length ≤ xs.length + 25 := by
  unfold putText
  split
  · omega
  · have := putNum_len xs ts.length
    simp; omega

set_option maxHeartbeats 800000 in
theorem spec_PutText_any (a b : Option Addr) (c1 c2 : Nat) (xs ts : List Int) (w : World) (ha : Seg w a xs) (hb : Seg w b ts) (ka : a = none → c1 = 0) (kb : b = none → c2 = 0) (hl : xs.length ≤ 2097152) (hl2 : ts.length ≤ 2097152) :
    Calls Tryz.prog 59 #[.slice a xs.length c1, .slice b ts.length c2] w fun e w' => ∃ v, e = .returned v ∧ Bts w' w.heap.size v (putText xs ts) ∧ Below w.heap.size w w' := by
  by_cases h : 20 < ts.length
  · have Hp : Hid (putText xs ts = xs) := putText_no xs ts h
    have h' : (20 : Int) < (ts.length : Int) := by omega
    have hE := bts_empty w
    have hB1 : Below w.heap.size w (w.alloc (.cells #[] 5)) := (Below.refl _ _).alloc (Nat.le_refl _) _
    have hS1 := ha.grow hB1
    generalize hn : xs.length = n at *
    have Hn : Hid (n = xs.length) := hn.symm
    clear hn
    go_enter Tryz.func59, Tryz.ntmps59
    go_wp2_with (at_builtin; refine wpList_append_seg rfl (.tmp 8) (.tmp 9) rfl w.heap.size _ [] xs rfl hE a n c1 Hn.out rfl hS1 ka (by simp; have := Hn.out; omega) (by simp) ?_; intro v2 w2 hv2 hg2)
    go_ret
    exact ⟨_, rfl, by rw [Hp.out]; exact hv2, hB1.grown hg2 (by simp) hE.own⟩
  · have Hp : Hid (putText xs ts = putNum xs ts.length ++ ts) := putText_yes xs ts h
    have h' : ¬ (20 : Int) < (ts.length : Int) := by omega
    have hpl := putNum_len xs ts.length
    generalize hn : ts.length = n at *
    have Hn : Hid (n = ts.length) := hn.symm
    clear hn
    go_enter Tryz.func59, Tryz.ntmps59
    go_wp2_with fail
    refine (spec_PutNum_any _ _ xs n _ ha ka (by omega)).mono ?_
    rintro e w1 ⟨v1, rfl, hv1, b1⟩
    have hS := hb.grow b1
    have z1 := b1.size
    go_wp2_with (at_builtin; refine wpList_append_seg rfl (.tmp 14) (.tmp 15) rfl w.heap.size _ (putNum xs n) ts rfl hv1 b n c2 Hn.out rfl hS kb (by have := Hn.out; omega) z1 ?_; intro v2 w2 hv2 hg2)
    go_ret
    exact ⟨_, rfl, by rw [Hp.out]; exact hv2, b1.grown hg2 z1 hv1.own⟩

end Go.Proofs.YteafpgaefphkfaaGreatDoor
