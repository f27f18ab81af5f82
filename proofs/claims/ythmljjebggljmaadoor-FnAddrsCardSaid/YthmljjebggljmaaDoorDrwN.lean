/-
  What is drawn of texts: '[]byte(s)' of a string; a name that is drawn is one.
-/
import Derived.Test.YthmljjebggljmaaDoorDraw1
import Derived.Test.YthmljjebggljmaaDoorNames
import Derived.Test.YthmljjebggljmaaDoorStrB
namespace Go.Proofs.YthmljjebggljmaaDoor
open Go.RowKit
set_option linter.unusedVariables false
set_option linter.unusedSimpArgs false

/-- A text in new memory. -/
def Txt (B : Nat) (w : World) (v : Value) (xs : List Int) : Prop := ∃ a cap, v = .slice a xs.length cap ∧ Seg w a xs ∧ xs.length ≤ cap ∧ cap ≤ maxLen ∧ (a = none → cap = 0) ∧ ∀ x, a = some x → B ≤ x.block

/-- '[]byte(s)': a text of the call's own. -/
theorem conv_txt (xs : List Int) (hx : ∀ x ∈ xs, Byt x) (hl : xs.length ≤ 1000) (w : World) : ∃ cap wB, (convert 9 22 (.string (strOf xs))).run Tryd.prog w = .ok (.slice (some ⟨w.heap.size, 0, none⟩) xs.length cap) wB ∧
    Txt w.heap.size wB (.slice (some ⟨w.heap.size, 0, none⟩) xs.length cap) xs ∧ Below w.heap.size w wB := by
  have hsz := size_strOf xs
  have hsc := strCells_of hx
  have hrun := run_bytes_of_string (P := Tryd.prog) w 9 22 5 (strOf xs) Tryd.underlying9 Tryd.underlying22 Tryd.underlying5
  rw [hsz] at hrun
  have hge := grownCap_ge w xs.length 0 5
  have hle := grownCap_le_maxLen w xs.length 0 5 (by unfold maxLen; omega)
  generalize grownCap w xs.length 0 5 = cap at hrun hge hle
  have hrs : (bytesRow (strOf xs) cap).size = cap := by
    have h1 : (strOf xs).data.size = xs.length := hsz
    simp [bytesRow, h1, hsz]
    omega
  have hrt : (bytesRow (strOf xs) cap).toList.take xs.length = cellsOf xs := by
    rw [← hsc]
    unfold bytesRow Lib.strCells
    rw [Array.toList_append, Array.toList_map, List.take_append_of_le_length (by simp; exact Nat.le_of_eq hsz.symm)]
    rw [List.take_of_length_le (by simp; exact Nat.le_of_eq hsz)]
  rw [hrs] at hrun
  refine ⟨cap, _, hrun, ⟨_, _, rfl, ⟨hx, .inr ⟨w.heap.size, 0, rfl, fun i hi => ?_⟩⟩, hge, hle, by simp, fun x hx => by simp at hx; subst hx; exact Nat.le_refl _⟩, ((Below.refl _ w).drew).alloc (Nat.le_refl _) _⟩
  rw [Nat.zero_add, cell_of_row _ w.heap.size i _ 5 _ (heap_alloc_new w.drew _)]
  have := congrArg (·[i]?) hrt
  simp only [List.getElem?_take, if_pos hi] at this
  rw [Array.getElem?_toList] at this
  rw [this]
  simp [cellsOf, hi]

/-- What a draw of a text leaves. -/
def TxtEnd (p : List Int → Prop) (g : Nat) (a : Option Addr) (cap : Nat) (cs : List Int) (w : World) (e : Ending) (w' : World) : Prop :=
  ∃ v xs, e = .returned v ∧ Txt w.heap.size w' v xs ∧ p xs ∧ Drw w' g a cap cs ∧ w.grownBy w' (some g)

theorem grownBy_below {w0 w1 w2 : World} {g : Nat} (h : w0.grownBy w1 (some g)) (k : Below w1.heap.size w1 w2) : w0.grownBy w2 (some g) :=
  ⟨k.os.trans h.os, k.tape.trans h.tape, k.output.trans h.output, Nat.le_trans h.size k.size, fun i hi hne => (k.block i (Nat.lt_of_lt_of_le hi h.size)).trans (h.block i hi hne)⟩
theorem below_grownBy {w0 w1 w2 : World} {g : Nat} (h : Below w0.heap.size w0 w1) (k : w1.grownBy w2 (some g)) : w0.grownBy w2 (some g) :=
  ⟨k.os.trans h.os, k.tape.trans h.tape, k.output.trans h.output, Nat.le_trans h.size k.size, fun i hi hne => (k.block i (Nat.lt_of_lt_of_le hi h.size) hne).trans (h.block i hi)⟩

theorem Txt.mono {B B' : Nat} {w : World} {v : Value} {xs : List Int} (h : Txt B w v xs) (hb : B' ≤ B) : Txt B' w v xs := by
  obtain ⟨a, cap, h1, h2, h3, h4, h5, h6⟩ := h
  exact ⟨a, cap, h1, h2, h3, h4, h5, fun x hx => Nat.le_trans hb (h6 x hx)⟩

theorem Txt.grow {B : Nat} {w w' : World} {v : Value} {xs : List Int} (h : Txt B w v xs) (hb : Below w.heap.size w w') : Txt B w' v xs := by
  obtain ⟨a, cap, h1, h2, h3⟩ := h
  exact ⟨a, cap, h1, h2.grow hb, h3⟩
theorem Txt.away {B g : Nat} {w w' : World} {v : Value} {xs : List Int} (h : Txt B w v xs) (hg : w.grownBy w' (some g)) (hgB : g < B) : Txt B w' v xs := by
  obtain ⟨a, cap, h1, h2, h3, h4, h5, h6⟩ := h
  exact ⟨a, cap, h1, h2.away hg (fun x hx _ e => by have := h6 x hx; simp at e; omega), h3, h4, h5, h6⟩
theorem nameB_le8 {xs : List Int} (h : nameB xs = true) : xs.length ≤ 9 := by simp [nameB] at h; omega

/-- The names that are drawn. -/
def names7 : List (List Int) := [[97], [98], [99], [115, 105, 122, 101], [122, 111, 110, 101], [107, 105, 110, 100], [116, 97, 103]]
theorem names7_ok : ∀ k, k < 7 → nameB (names7.getD k []) = true ∧ (names7.getD k []).length ≤ 8 := by decide
theorem names_byt {xs : List Int} (h : nameB xs = true) : ∀ x ∈ xs, Byt x := by
  intro x hx
  simp only [nameB, Bool.and_eq_true, List.all_eq_true] at h
  have := h.2 x hx
  simp [letB] at this
  unfold Byt
  omega

set_option maxHeartbeats 800000 in
set_option maxRecDepth 100000 in
theorem l2drawName_drw (g : Nat) (a : Option Addr) (cap : Nat) (cs : List Int) (w : World) (h : Drw w g a cap cs) :
    Calls Tryd.prog 26 #[.pointer (some ⟨g, 0, none⟩)] w (TxtEnd (fun xs => nameB xs = true) g a cap cs w) := by
  have HA : Hid (∀ o : Obj, Below w.heap.size w (w.alloc o) ∧ (w.alloc o).heap[w.heap.size]? = some o) := fun o => ⟨(Below.refl _ _).alloc (Nat.le_refl _) o, heap_alloc_new w o⟩
  have hgl := h.lt
  have HL : Hid (∀ o : Obj, Calls Tryd.prog 31 #[.pointer (some ⟨g, 0, none⟩), .int .i64 7] (w.alloc o) fun e w' => ∃ x : Int, e = .returned (.int .i64 x) ∧ 0 ≤ x ∧ (0 < (7 : Int) → x < 7) ∧ ((7 : Int) ≤ 0 → x = 0) ∧ Drw w' g a cap cs ∧ (w.alloc o).grownBy w' (some g)) := fun o => l1Below_drw g a cap cs 7 _ (h.grow (HA.out o).1) (by omega)
  clear h
  go_enter Tryd.func26, Tryd.ntmps26
  go_wp2_with fail
  refine (HL.out _).mono ?_
  rintro e w2 ⟨x, rfl, hx0, hx7, _, hd, hg2⟩
  obtain ⟨k, rfl⟩ : ∃ k : Nat, x = k := ⟨x.toNat, by omega⟩
  have hk : k < 7 := by have := hx7 (by omega); omega
  have G2 := below_grownBy (HA.out _).1 hg2
  have hblk := (hg2.block w.heap.size (by simp) (by simp; omega)).trans (HA.out _).2
  have hcell : w2.cell? ⟨w.heap.size, k, none⟩ = some (.string (strOf (names7.getD k []))) := by
    rw [cell_of_row w2 w.heap.size k _ 9 (0, 0) hblk]
    obtain rfl | rfl | rfl | rfl | rfl | rfl | rfl : k = 0 ∨ k = 1 ∨ k = 2 ∨ k = 3 ∨ k = 4 ∨ k = 5 ∨ k = 6 := by omega
    all_goals rfl
  obtain ⟨hnb, hnl⟩ := names7_ok k hk
  obtain ⟨ck, wB, hconv, hT, hB⟩ := conv_txt (names7.getD k []) (names_byt hnb) (by omega) w2
  have hk' : (k : Int) < 7 := by omega
  have hk0 : (0 : Int) ≤ (k : Int) := by omega
  have HE : Hid (TxtEnd (fun xs => nameB xs = true) g a cap cs w (.returned (.slice (some ⟨w2.heap.size, 0, none⟩) (names7.getD k []).length ck)) wB) := ⟨_, _, rfl, hT.mono G2.size, hnb, hd.grow hB, grownBy_below G2 hB⟩
  generalize (names7.getD k []).length = nl at HE hconv
  generalize strOf (names7.getD k []) = sx at hcell hconv
  clear hT hB hd hg2 hblk HL HA hnb hnl G2 hx7 hx0
  go_wp2
  go_ret
  exact HE.out
end Go.Proofs.YthmljjebggljmaaDoor
