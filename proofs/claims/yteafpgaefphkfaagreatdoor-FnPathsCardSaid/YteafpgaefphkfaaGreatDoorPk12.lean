/-
  Texts that a law leans on, one behind the other; no statement is proved here.
-/
import Derived.Test.YteafpgaefphkfaaGreatDoorPk11
import Derived.Test.YteafpgaefphkfaaGreatDoorPk4
import Derived.Laws.IdiomStrings
import Derived.Test.YteafpgaefphkfaaGreatDoorPk10
/-
  '[]byte(s)': a text of the call's own.
-/
namespace Go.Proofs.YteafpgaefphkfaaGreatDoor
open Go.RowKit
set_option linter.unusedVariables false
set_option linter.unusedSimpArgs false

/-- '[]byte(s)': a text of the call's own. -/
theorem conv_back (xs : List Int) (hx : ∀ x ∈ xs, Byt x) (hl : xs.length ≤ 1048576) (w : World) : ∃ cap wB, (convert 9 22 (.string (strOf xs))).run Tryz.prog w = .ok (.slice (some ⟨w.heap.size, 0, none⟩) xs.length cap) wB ∧
    TOwn wB (.slice (some ⟨w.heap.size, 0, none⟩) xs.length cap) xs [w.heap.size] ∧ Below w.heap.size w wB ∧ wB.heap.size = w.heap.size + 1 := by
  have hsz := size_strOf xs
  have hsc := strCells_of hx
  have hrun := run_bytes_of_string (P := Tryz.prog) w 9 22 5 (strOf xs) Tryz.underlying9 Tryz.underlying22 Tryz.underlying5
  rw [hsz] at hrun
  have hge := grownCap_ge w xs.length 0 5
  have hle := grownCap_le_maxLen w xs.length 0 5 (by unfold maxLen; omega)
  generalize grownCap w xs.length 0 5 = cap at hrun hge hle
  have hrs : (bytesRow (strOf xs) cap).size = cap := by
    have h1 : (strOf xs).data.size = xs.length := hsz
    simp [bytesRow, h1, hsz]
    omega
  have hrt : (bytesRow (strOf xs) cap).toList.take xs.length = cellsOf xs := by
    rw [← hsc]
    unfold bytesRow Lib.strCells
    rw [Array.toList_append, Array.toList_map, List.take_append_of_le_length (by simp; exact Nat.le_of_eq hsz.symm)]
    rw [List.take_of_length_le (by simp; exact Nat.le_of_eq hsz)]
  rw [hrs] at hrun
  refine ⟨cap, _, hrun, ⟨⟨hx, by simp [cellsOf], .inr ⟨w.heap.size, cap, _, _, rfl, heap_alloc_new w.drew _, .inr (Nat.le_refl _), hge, hle, hrs, hrt⟩⟩, .inr ⟨_, _, rfl, rfl⟩⟩, ((Below.refl _ w).drew).alloc (Nat.le_refl _) _, by simp⟩
end Go.Proofs.YteafpgaefphkfaaGreatDoor
/-
  markValue of the laws over a value of the call's own; heldValueS and heldValue find the running numbers there.
-/
namespace Go.Proofs.YteafpgaefphkfaaGreatDoor
open Go.RowKit
set_option linter.unusedVariables false
set_option linter.unusedSimpArgs false

end Go.Proofs.YteafpgaefphkfaaGreatDoor
/-
  What a call has made for itself can be read by whoever comes behind it.
-/
namespace Go.Proofs.YteafpgaefphkfaaGreatDoor
open Go.RowKit
set_option linter.unusedVariables false

/-- What a call has made for itself can be read by whoever comes behind it. -/
theorem VOwn.below {w w' : World} {d : Nat} {c : Value × Value × Value × Value × Value} {v : Vl d} {B : List Nat} (h : VOwn w d c v B) (hb : Below w.heap.size w w') : VSeg (fun b => b < w.heap.size) w' d c v :=
  VSeg.agree (agree_below hb) d (VSeg.mono (fun b hb => VOwn.lt d h b hb) d (VOwn.seg d h))
end Go.Proofs.YteafpgaefphkfaaGreatDoor
/-
  slices.CompareFunc as PathCmp calls it; PathCmp of the program and of the specification: the order of two paths, 0 if one may not be.
-/
namespace Go.Proofs.YteafpgaefphkfaaGreatDoor
open Go.RowKit
set_option linter.unusedVariables false
set_option linter.unusedSimpArgs false

theorem all_at {l : List Stp} (h : l.all stpB = true) {k : Nat} (hk : k < l.length) : stpB l[k] = true := List.all_eq_true.1 h _ (List.getElem_mem hk)

set_option maxHeartbeats 1600000 in
theorem cmpFunc_any (N : Nat) (x y : Value) (l m : List Stp) (w : World) (hx : PthSeg (fun b => b < N) w x l) (hy : PthSeg (fun b => b < N) w y m) (hN : N ≤ w.heap.size) (hl : l.all stpB = true) (hm : m.all stpB = true) :
    Calls Tryz.prog 22 #[x, y, .func (.func 23) #[] #[]] w fun e w' => e = .returned (.int .i64 (pthC l m)) ∧ Below w.heap.size w w' := by
  have HC := hide' hx
  have HC' := hide' hy
  obtain ⟨a, cap, rfl, hlc, hcm, ka, hc⟩ := hx
  obtain ⟨a', cap', rfl, hlc', hcm', ka', hc'⟩ := hy
  have HA := hide' hl
  have HA' := hide' hm
  clear hc hc' hl hm
  unfold maxLen at hcm hcm'
  go_enter Tryz.func22, Tryz.ntmps22
  go_wp2
  go_loopw [7, 10, 13] (fun _ _ i wr => ∃ k : Nat, k ≤ l.length ∧ k ≤ m.length ∧ i = .int .i64 k ∧ pthC l m = pthC (l.drop k) (m.drop k) ∧ Below w.heap.size w wr) (fun _ _ i _ => l.length - (intOf i).toNat)
  case atStart => exact ⟨0, Nat.zero_le _, Nat.zero_le _, rfl, rfl, Below.refl _ _⟩
  case round =>
    obtain ⟨k, hk, hk', rfl, hP, hbel⟩ := hrel
    have hsz2 := hbel.size
    by_cases hlt : k < l.length
    · obtain ⟨b, off, c0, c1, c2, rfl, _, h3, hv⟩ := (HC.out.agree (agree_below (hbel.mono hN))).at hlt
      obtain ⟨q0, q1, q2⟩ := h3
      simp only at q0 q1 q2
      have hlt' : (k : Int) < (l.length : Int) := by omega
      have Hb1 : Hid (∀ o : Obj, Below w.heap.size w (wr.alloc o)) := fun o => Below.on hbel ((Below.refl _ _).alloc (Nat.le_refl _) o)
      by_cases hlt2 : k < m.length
      · obtain ⟨b', off', e0, e1, e2, rfl, hb', h3', hv'⟩ := (HC'.out.agree (agree_below (hbel.mono hN))).at hlt2
        have hlt2' : ¬ (m.length : Int) ≤ (k : Int) := by omega
        have hlt3' : (k : Int) < (m.length : Int) := by omega
        have hRd : ∀ o : Obj, Three (wr.alloc o) b' (off' + k * 3) (e0, e1, e2) := fun o => h3'.agree (agree_below ((Below.refl _ _).alloc (Nat.le_refl _) o : Below wr.heap.size wr (wr.alloc o))) (by omega)
        have r0 : ∀ o : Obj, (wr.alloc o).cell? ⟨b', off' + k * 3, none⟩ = some e0 := fun o => (hRd o).1
        have r1 : ∀ o : Obj, (wr.alloc o).cell? ⟨b', off' + k * 3 + 1, none⟩ = some e1 := fun o => (hRd o).2.1
        have r2 : ∀ o : Obj, (wr.alloc o).cell? ⟨b', off' + k * 3 + 2, none⟩ = some e2 := fun o => (hRd o).2.2
        have hE : Hid (∀ o o' : Obj, Calls Tryz.prog 23 #[.agg #[c0, c1, c2], .agg #[e0, e1, e2]] ((wr.alloc o).alloc o') fun e w' => e = .returned (.int .i64 (stpC l[k] m[k])) ∧ Below w.heap.size w w') := by
          intro o o'
          have b0 : Below wr.heap.size wr ((wr.alloc o).alloc o') := ((Below.refl _ _).alloc (Nat.le_refl _) o).alloc (by simp) o'
          have ag := agree_below (b0.mono (by omega : N ≤ wr.heap.size))
          refine (cmpSteps_any N c0 c1 c2 e0 e1 e2 l[k] m[k] ((wr.alloc o).alloc o') (hv.agree ag) (hv'.agree ag) (by have := b0.size; omega)).mono fun e w' h => ⟨?_, Below.on (Below.on hbel b0) h.2⟩
          rw [h.1, stpC_or _ _ (all_at HA.out hlt) (all_at HA'.out hlt2)]
        rw [pthC_step hlt hlt2] at hP
        have HP := hide' hP
        obtain ⟨g0, gt, g2⟩ := hv
        obtain ⟨a2, cp2, g1, _⟩ := gt
        obtain ⟨f0, ft, f2⟩ := hv'
        obtain ⟨a3, cp3, f1, _⟩ := ft
        simp only at g0 g1 g2 f0 f1 f2
        subst g0
        subst g1
        subst g2
        subst f0
        subst f1
        subst f2
        clear hP hRd h3'
        generalize stpC l[k] m[k] = sc at *
        generalize (l[k]).1 = v1 at *
        generalize (l[k]).2.1.length = v2 at *
        generalize (l[k]).2.2 = v3 at *
        generalize (m[k]).1 = u1 at *
        generalize (m[k]).2.1.length = u2 at *
        generalize (m[k]).2.2 = u3 at *
        by_cases h0 : sc = 0
        · subst h0
          have HP' : Hid (pthC l m = pthC (l.drop (k + 1)) (m.drop (k + 1))) := by show pthC l m = _; rw [HP.out]; simp
          clear HP
          go_wp2_with fail
          refine (hE.out _ _).mono ?_
          rintro e w1 ⟨rfl, B1⟩
          clear q0 q1 q2 r0 r1 r2
          go_wp2
          go_roundw
          case rel => exact ⟨k + 1, by omega, by omega, by go_num, HP'.out, B1⟩
          case measure => simp [intOf]; omega
        · have HP' : Hid (pthC l m = sc) := by show pthC l m = _; rw [HP.out]; simp [h0]
          have h0' : (sc != 0) = true := by simp [h0]
          clear HP
          go_wp2_with fail
          refine (hE.out _ _).mono ?_
          rintro e w1 ⟨rfl, B1⟩
          clear q0 q1 q2 r0 r1 r2
          go_wp2
          go_ret
          exact ⟨ret_i64 (by rw [HP'.out]), B1⟩
      · have hlt2' : (m.length : Int) ≤ (k : Int) := by omega
        rw [pthC_end1 hlt hlt2] at hP
        have HP := hide' hP
        obtain ⟨g0, gt, g2⟩ := hv
        obtain ⟨a2, cp2, g1, _⟩ := gt
        simp only at g0 g1 g2
        subst g0
        subst g1
        subst g2
        clear hP
        go_wp2
        go_ret
        exact ⟨ret_i64 (by rw [HP.out]), Hb1.out _⟩
    · have hlt' : ¬ (k : Int) < (l.length : Int) := by omega
      have hkl : k = l.length := by omega
      by_cases hlt2 : k < m.length
      · rw [pthC_end2 hlt hlt2] at hP
        have HP := hide' hP
        have hlm : (l.length : Int) < (m.length : Int) := by omega
        clear hP hkl
        go_wp2
        go_ret
        exact ⟨ret_i64 (by rw [HP.out]), hbel⟩
      · rw [pthC_end3 hlt hlt2] at hP
        have HP := hide' hP
        have hlm : ¬ (l.length : Int) < (m.length : Int) := by omega
        clear hP hkl
        go_wp2
        go_ret
        exact ⟨ret_i64 (by rw [HP.out]), hbel⟩

def CmpEnd_impl (x y : Value) (l m : List Stp) (w : World) : Prop := Calls Tryz.prog 22 #[x, y, .func (.func 23) #[] #[]] w fun e w' => e = .returned (.int .i64 (pthC l m)) ∧ Below w.heap.size w w'
theorem cmpEnd_impl (N : Nat) (x y : Value) (l m : List Stp) (w : World) (hx : PthSeg (fun b => b < N) w x l) (hy : PthSeg (fun b => b < N) w y m) (hN : N ≤ w.heap.size) (hl : l.all stpB = true) (hm : m.all stpB = true) : CmpEnd_impl x y l m w := cmpFunc_any N x y l m w hx hy hN hl hm
end Go.Proofs.YteafpgaefphkfaaGreatDoor
