/-
  What is drawn of addresses, further: an address that is drawn, or a text that is none; texts held against each other.
-/
import Derived.Test.YthmljjebggljmaaDoorDrwA
import Derived.Test.YthmljjebggljmaaDoorAdK4
namespace Go.Proofs.YthmljjebggljmaaDoor
open Go.RowKit
set_option linter.unusedVariables false
set_option linter.unusedSimpArgs false

theorem Bts.txt {w : World} {base : Nat} {v : Value} {xs : List Int} (h : Bts w base v xs) : Txt base w v xs := by
  obtain ⟨a, cap, h1, h2, h3, h4, h5, h6⟩ := h.shape
  exact ⟨a, cap, h1, h2, h3, h4, h6, fun x hx => (h5 x hx).1⟩

def names3 : List (List Int) := [[119, 101, 98], [100, 98], [110, 101, 116]]
theorem names3_ok : ∀ k, k < 3 → nameB (names3.getD k []) = true ∧ (names3.getD k []).length ≤ 3 := by decide

set_option maxHeartbeats 1600000 in
set_option maxRecDepth 100000 in
theorem l4drawAddr_drw (g : Nat) (a : Option Addr) (cap : Nat) (cs : List Int) (w : World) (h : Drw w g a cap cs) :
    Calls Tryd.prog 30 #[.pointer (some ⟨g, 0, none⟩)] w (TxtEnd (fun xs => xs.length ≤ 30) g a cap cs w) := by
  have HA : Hid (∀ o : Obj, Below w.heap.size w (w.alloc o) ∧ (w.alloc o).heap[w.heap.size]? = some o) := fun o => ⟨(Below.refl _ _).alloc (Nat.le_refl _) o, heap_alloc_new w o⟩
  have hgl := h.lt
  have HL : Hid (∀ o : Obj, Calls Tryd.prog 31 #[.pointer (some ⟨g, 0, none⟩), .int .i64 3] (w.alloc o) fun e w' => ∃ x : Int, e = .returned (.int .i64 x) ∧ 0 ≤ x ∧ (0 < (3 : Int) → x < 3) ∧ ((3 : Int) ≤ 0 → x = 0) ∧ Drw w' g a cap cs ∧ (w.alloc o).grownBy w' (some g)) := fun o => l1Below_drw g a cap cs 3 _ (h.grow (HA.out o).1) (by omega)
  clear h
  go_enter Tryd.func30, Tryd.ntmps30
  go_wp2_with fail
  refine (HL.out _).mono ?_
  rintro e w2 ⟨x, rfl, hx0, hx7, _, hd, hg2⟩
  obtain ⟨k, rfl⟩ : ∃ k : Nat, x = k := ⟨x.toNat, by omega⟩
  have hk : k < 3 := by have := hx7 (by omega); omega
  have G2 := below_grownBy (HA.out _).1 hg2
  have hblk := (hg2.block w.heap.size (by simp) (by simp; omega)).trans (HA.out _).2
  have hcell : w2.cell? ⟨w.heap.size, k, none⟩ = some (.string (strOf (names3.getD k []))) := by
    rw [cell_of_row w2 w.heap.size k _ 9 (0, 0) hblk]
    obtain rfl | rfl | rfl : k = 0 ∨ k = 1 ∨ k = 2 := by omega
    all_goals rfl
  obtain ⟨hnb, hnl⟩ := names3_ok k hk
  obtain ⟨ck, wB, hconv, hT, hB⟩ := conv_txt (names3.getD k []) (names_byt hnb) (by omega) w2
  have hk' : (k : Int) < 3 := by omega
  have hk0 : (0 : Int) ≤ (k : Int) := by omega
  have hdB := hd.grow hB
  have GB := grownBy_below G2 hB
  have hg2' : g < w2.heap.size := hd.lt
  have hzw : w.heap.size ≤ w2.heap.size := G2.size
  generalize names3.getD k [] = nm at *
  generalize hnlen : nm.length = nl at *
  generalize strOf nm = sx at hcell hconv
  have HL4 := hide' (l1Below_drw g a cap cs 4 wB hdB (by omega))
  clear hB hd hg2 hblk HL HA G2 hx7 hx0
  go_wp2_with fail
  refine HL4.out.mono ?_
  rintro e w4 ⟨y, rfl, hy0, hy4, _, hd4, hg4⟩
  have hT4 := hT.away hg4 hg2'
  have G4 := grownBy_trans GB hg4
  clear HL4 hT GB hdB hg4 hcell hconv
  by_cases hc0 : y = 0
  · subst hc0
    have HL3 := hide' (l1Below_drw g a cap cs 3 w4 hd4 (by omega))
    go_wp2_with fail
    refine HL3.out.mono ?_
    rintro e w5 ⟨z, rfl, hz0, hz3, _, hd5, hg5⟩
    obtain ⟨u, rfl⟩ : ∃ u : Nat, z = u := ⟨z.toNat, by omega⟩
    have hu : u ≤ 99 := by have := hz3 (by omega); omega
    obtain ⟨aT, cT, eT, sT, _, _, kT, _⟩ := hT4.away hg5 hg2'
    simp only [Value.slice.injEq] at eT
    obtain ⟨rfl, -, rfl⟩ := eT
    have G5 := grownBy_trans G4 hg5
    have HI : Hid (Calls Tryd.prog 39 #[.slice (some ⟨w2.heap.size, 0, none⟩) nl ck, .int .i64 u] w5 fun e w' => ∃ v, e = .returned v ∧ Bts w' w5.heap.size v (nm ++ [91] ++ decI u ++ [93]) ∧ Below w5.heap.size w5 w') := by
      have := l4item_any _ ck nm u w5 sT kT (by omega) hu
      rw [hnlen] at this
      exact this
    have hd2 := decI_two (u := u) (by omega)
    clear HL3 hT4 hd4 hg5 hz3
    go_wp2_with fail
    refine HI.out.mono ?_
    rintro e w6 ⟨v, rfl, hv, b6⟩
    go_wp2
    go_ret
    exact ⟨_, _, rfl, hv.txt.mono G5.size, by simp; omega, hd5.grow b6, grownBy_below G5 b6⟩
  · have hc0b : (y == 0) = false := by simp [hc0]
    by_cases hc1 : y = 1
    · subst hc1
      have HD := hide' (l2drawName_drw g a cap cs w4 hd4)
      go_wp2_with fail
      refine HD.out.mono ?_
      rintro e w5 ⟨v5, xs, rfl, hT5, hp5, hd5, hg5⟩
      obtain ⟨a5, c5, rfl, s5, _, _, k5, _⟩ := hT5
      obtain ⟨aT, cT, eT, sT, _, _, kT, _⟩ := hT4.away hg5 hg2'
      simp only [Value.slice.injEq] at eT
      obtain ⟨rfl, -, rfl⟩ := eT
      have G5 := grownBy_trans G4 hg5
      have hx9 := nameB_le8 hp5
      have HI : Hid (Calls Tryd.prog 41 #[.slice (some ⟨w2.heap.size, 0, none⟩) nl ck, .slice a5 xs.length c5] w5 fun e w' => ∃ v, e = .returned v ∧ Bts w' w5.heap.size v (nm ++ [91, 34] ++ xs ++ [34, 93]) ∧ Below w5.heap.size w5 w') := by
        have := l4key_any _ a5 ck c5 nm xs w5 sT s5 kT k5 (by omega) (by omega)
        rw [hnlen] at this
        exact this
      clear HD hT4 hd4 hg5
      go_wp2_with fail
      refine HI.out.mono ?_
      rintro e w6 ⟨v, rfl, hv, b6⟩
      go_wp2
      go_ret
      exact ⟨_, _, rfl, hv.txt.mono G5.size, by simp; omega, hd5.grow b6, grownBy_below G5 b6⟩
    · have hc1b : (y == 1) = false := by simp [hc1]
      go_wp2
      go_ret
      refine ⟨_, nm, rfl, ?_, by omega, hd4, G4⟩
      rw [← hnlen] at hT4 ⊢
      exact hT4.mono hzw

def bent12 : List (List Int) := [[], [119, 101, 98, 91], [119, 101, 98, 91, 48, 48, 93], [119, 101, 98, 91, 49, 48, 93], [119, 101, 98, 91, 34, 34, 93], [119, 101, 98, 91, 34, 97, 34], [87], [119, 101, 98, 91, 49, 48, 48, 93], [119, 101, 98, 91, 93], [119, 101, 98, 91, 120, 93], [119, 101, 98, 91, 34, 93], [119, 101, 98, 91, 49, 93, 120]]
theorem bent12_ok : ∀ k, k < 12 → (∀ x ∈ bent12.getD k [], 0 ≤ x ∧ x ≤ 255) ∧ (bent12.getD k []).length ≤ 8 := by decide

set_option maxHeartbeats 1600000 in
set_option maxRecDepth 100000 in
theorem DrawAddrOk_any (a : Option Addr) (cap : Nat) (cs : List Int) (w : World) (ha : Seg w a cs) (hl : cs.length ≤ maxLen) :
    Calls Tryd.prog 11 #[.slice a cs.length cap] w (TxtNew (fun xs => xs.length ≤ 30) w) := by
  have HN := hide' (l1New_drw a cap cs w ha hl)
  generalize hcl : cs.length = cn at *
  clear ha
  go_enter Tryd.func11, Tryd.ntmps11
  go_wp2_with fail
  refine HN.out.mono ?_
  rintro e w1 ⟨rfl, hd1, b1⟩
  clear HN
  have HO := hide' (l1Once_drw w.heap.size a cap cs 2 w1 hd1 (by omega))
  go_wp2_with fail
  refine HO.out.mono ?_
  rintro e w2 ⟨q, rfl, hd2, hg2⟩
  have B2 := Below.cursor b1 hg2
  have hz2 := B2.size
  clear hd1 HO
  cases q with
  | true =>
    have HD := hide' (l4drawAddr_drw w.heap.size a cap cs w2 hd2)
    go_wp2_with fail
    refine HD.out.mono ?_
    rintro e w3 ⟨v, xs, rfl, hT, hp, _, hg3⟩
    go_wp2
    go_ret
    exact ⟨_, _, rfl, hT.mono hz2, hp, Below.cursor B2 hg3⟩
  | false =>
    have HA : Hid (∀ o : Obj, Below w2.heap.size w2 (w2.alloc o) ∧ (w2.alloc o).heap[w2.heap.size]? = some o) := fun o => ⟨(Below.refl _ _).alloc (Nat.le_refl _) o, heap_alloc_new w2 o⟩
    have hgl := hd2.lt
    have HL : Hid (∀ o : Obj, Calls Tryd.prog 31 #[.pointer (some ⟨w.heap.size, 0, none⟩), .int .i64 12] (w2.alloc o) fun e w' => ∃ x : Int, e = .returned (.int .i64 x) ∧ 0 ≤ x ∧ (0 < (12 : Int) → x < 12) ∧ ((12 : Int) ≤ 0 → x = 0) ∧ Drw w' w.heap.size a cap cs ∧ (w2.alloc o).grownBy w' (some w.heap.size)) := fun o => l1Below_drw _ a cap cs 12 _ (hd2.grow (HA.out o).1) (by omega)
    clear hd2
    go_wp2_with fail
    refine (HL.out _).mono ?_
    rintro e w3 ⟨x, rfl, hx0, hx7, _, hd, hg3⟩
    obtain ⟨k, rfl⟩ : ∃ k : Nat, x = k := ⟨x.toNat, by omega⟩
    have hk : k < 12 := by have := hx7 (by omega); omega
    have B3 := Below.cursor B2 (below_grownBy (HA.out _).1 hg3)
    have hblk := (hg3.block w2.heap.size (by simp) (by simp; omega)).trans (HA.out _).2
    have hcell : w3.cell? ⟨w2.heap.size, k, none⟩ = some (.string (strOf (bent12.getD k []))) := by
      rw [cell_of_row w3 w2.heap.size k _ 9 (0, 0) hblk]
      obtain rfl | rfl | rfl | rfl | rfl | rfl | rfl | rfl | rfl | rfl | rfl | rfl : k = 0 ∨ k = 1 ∨ k = 2 ∨ k = 3 ∨ k = 4 ∨ k = 5 ∨ k = 6 ∨ k = 7 ∨ k = 8 ∨ k = 9 ∨ k = 10 ∨ k = 11 := by omega
      all_goals rfl
    obtain ⟨hnb, hnl⟩ := bent12_ok k hk
    obtain ⟨ck, wB, hconv, hT, hB⟩ := conv_txt (bent12.getD k []) hnb (by omega) w3
    have hk' : (k : Int) < 12 := by omega
    have hk0 : (0 : Int) ≤ (k : Int) := by omega
    have HE : Hid (TxtNew (fun xs => xs.length ≤ 30) w (.returned (.slice (some ⟨w3.heap.size, 0, none⟩) (bent12.getD k []).length ck)) wB) := ⟨_, _, rfl, hT.mono B3.size, by omega, Below.on B3 hB⟩
    generalize (bent12.getD k []).length = nl at HE hconv
    generalize strOf (bent12.getD k []) = sx at hcell hconv
    clear hT hB hd hg3 hblk HL HA hnb hnl hx7 hx0
    go_wp2
    go_ret
    exact HE.out

set_option maxHeartbeats 400000 in
theorem sameBytes_any (a b : Option Addr) (c1 c2 : Nat) (xs ys : List Int) (w : World) (ha : Seg w a xs) (hb : Seg w b ys) :
    Calls Tryd.prog 14 #[.slice a xs.length c1, .slice b ys.length c2] w fun e w' => e = .returned (.bool (decide (xs = ys))) ∧ w = w' := by
  have h1 := conv_seg c1 ha
  have h2 := conv_seg c2 hb
  have HE := hide' (strOf_eq ha.1 hb.1)
  generalize xs.length = n at *
  generalize ys.length = m at *
  go_enter Tryd.func14, Tryd.ntmps14
  go_wp2
  go_ret
  exact ⟨ret_bool HE.out, rfl⟩
end Go.Proofs.YthmljjebggljmaaDoor
