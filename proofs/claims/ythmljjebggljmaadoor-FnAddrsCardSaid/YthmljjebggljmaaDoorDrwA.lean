/-
  What is drawn of addresses: texts within bounds; that made addresses are ones, with their names.
-/
import Derived.Test.YthmljjebggljmaaDoorDrwN
import Derived.Test.YthmljjebggljmaaDoorAdO
import Derived.Test.YthmljjebggljmaaDoorAdN
namespace Go.Proofs.YthmljjebggljmaaDoor
open Go.RowKit
set_option linter.unusedVariables false
set_option linter.unusedSimpArgs false

theorem cutI_name {p : List Int} (r : List Int) (h : nameB p = true) : cutI (p ++ 91 :: r) = p.length := by
  refine cutI_eq (fun i hi => ?_) (.inr ⟨by simp, by simp [List.getD_eq_getElem?_getD]⟩)
  simp only [nameB, Bool.and_eq_true, List.all_eq_true] at h
  have := h.2 p[i] (List.getElem_mem hi)
  simp [letB] at this
  rw [List.getD_eq_getElem?_getD, List.getElem?_append_left hi]
  simp [hi]
  omega
theorem addr_of_inner {p r : List Int} (hp : nameB p = true) (hr : innR r = true) : addrB (p ++ 91 :: r) = true ∧ addrN (p ++ 91 :: r) = p := by
  have hc := cutI_name r hp
  have h1 : (p ++ 91 :: r).take p.length = p := by simp
  have h2 : (p ++ 91 :: r).drop (p.length + 1) = r := by simp
  have hb : addrB (p ++ 91 :: r) = true := by
    unfold addrB
    rw [hc, h1, h2, hp, hr]
    simp
  refine ⟨hb, ?_⟩
  unfold addrN
  rw [if_pos hb, hc, h1]
theorem addr_item {p : List Int} {n : Int} (hp : nameB p = true) (h0 : 0 ≤ n) (h1 : n ≤ 99) : addrB (addrItem p n) = true ∧ addrN (addrItem p n) = p := by
  have e : addrItem p n = p ++ 91 :: (decI n.toNat ++ [93]) := by
    unfold addrItem
    rw [if_pos ⟨hp, h0, h1⟩]
    simp
  rw [e]
  exact addr_of_inner hp ((innR_iff _).2 (.inl ⟨n.toNat, by omega, rfl⟩))
theorem addr_key {p k : List Int} (hp : nameB p = true) (hk : nameB k = true) : addrB (addrKey p k) = true ∧ addrN (addrKey p k) = p := by
  have e : addrKey p k = p ++ 91 :: (34 :: (k ++ [34, 93])) := by
    unfold addrKey
    rw [if_pos ⟨hp, hk⟩]
    simp
  rw [e]
  exact addr_of_inner hp ((innR_iff _).2 (.inr ⟨k, hk, rfl⟩))

/-- A text in new memory, nothing old turned. -/
def TxtNew (p : List Int → Prop) (w : World) (e : Ending) (w' : World) : Prop := ∃ v xs, e = .returned v ∧ Txt w.heap.size w' v xs ∧ p xs ∧ Below w.heap.size w w'

theorem Below.cursor {w w1 w2 : World} (h : Below w.heap.size w w1) (hg : w1.grownBy w2 (some w.heap.size)) : Below w.heap.size w w2 := h.grown hg h.size (by intro k hk; simp at hk; omega)

set_option maxHeartbeats 400000 in
theorem l1Once_drw (g : Nat) (a : Option Addr) (cap : Nat) (cs : List Int) (n : Int) (w : World) (h : Drw w g a cap cs) (hn : n ≤ 9223372036854775807) :
    Calls Tryd.prog 29 #[.pointer (some ⟨g, 0, none⟩), .int .i64 n] w fun e w' => ∃ b : Bool, e = .returned (.bool b) ∧ Drw w' g a cap cs ∧ w.grownBy w' (some g) := by
  have HL := hide' (l1Below_drw g a cap cs n w h hn)
  clear h
  go_enter Tryd.func29, Tryd.ntmps29
  go_wp2_with fail
  refine HL.out.mono ?_
  rintro e w1 ⟨x, rfl, _, _, _, hd, hg⟩
  go_wp2
  go_ret
  exact ⟨_, rfl, hd, hg⟩

set_option maxHeartbeats 400000 in
theorem l1PickInt_drw (g b n lc : Nat) (a : Option Addr) (cap : Nat) (cs : List Int) (w : World) (h : Drw w g a cap cs) (hn : 0 < n) (hn2 : n ≤ 1000) (hbg : b ≠ g) (hb : b < w.heap.size) (hc : ∀ k, k < n → ∃ z : Int, w.cell? ⟨b, k, none⟩ = some (.int .i64 z)) :
    Calls Tryd.prog 25 #[.pointer (some ⟨g, 0, none⟩), .slice (some ⟨b, 0, none⟩) n lc] w fun e w' => ∃ z : Int, e = .returned (.int .i64 z) ∧ Drw w' g a cap cs ∧ w.grownBy w' (some g) := by
  have HL := hide' (l1Below_drw g a cap cs (n : Int) w h (by omega))
  clear h
  go_enter Tryd.func25, Tryd.ntmps25
  go_wp2_with fail
  refine HL.out.mono ?_
  rintro e w1 ⟨x, rfl, h0, h1, _, hd, hg⟩
  obtain ⟨k, rfl⟩ : ∃ k : Nat, x = k := ⟨x.toNat, by omega⟩
  have hk : k < n := by have := h1 (by omega); omega
  obtain ⟨z, hz⟩ := hc k hk
  have hz1 : w1.cell? ⟨b, k, none⟩ = some (.int .i64 z) := (World.cell?_of_block (hg.block b hb (by simp; omega))).trans hz
  have hk' : (k : Int) < (n : Int) := by omega
  clear h1 HL hc
  go_wp2
  go_ret
  exact ⟨_, rfl, hd, hg⟩

/-- The texts that are drawn in the place of names. -/
def bent6 : List (List Int) := [[], [65], [97, 49], [101, 105, 103, 104, 116, 108, 101, 116], [110, 105, 110, 101, 108, 101, 116, 101, 114], [122]]
theorem bent6_ok : ∀ k, k < 6 → (∀ x ∈ bent6.getD k [], 0 ≤ x ∧ x ≤ 255) ∧ (bent6.getD k []).length ≤ 9 := by decide

set_option maxHeartbeats 800000 in
set_option maxRecDepth 100000 in
theorem DrawNameOk_any (a : Option Addr) (cap : Nat) (cs : List Int) (w : World) (ha : Seg w a cs) (hl : cs.length ≤ maxLen) :
    Calls Tryd.prog 24 #[.slice a cs.length cap] w (TxtNew (fun xs => xs.length ≤ 9) w) := by
  have HN := hide' (l1New_drw a cap cs w ha hl)
  generalize hcl : cs.length = cn at *
  clear ha
  go_enter Tryd.func24, Tryd.ntmps24
  go_wp2_with fail
  refine HN.out.mono ?_
  rintro e w1 ⟨rfl, hd1, b1⟩
  clear HN
  have HO := hide' (l1Once_drw w.heap.size a cap cs 3 w1 hd1 (by omega))
  go_wp2_with fail
  refine HO.out.mono ?_
  rintro e w2 ⟨q, rfl, hd2, hg2⟩
  have B2 := Below.cursor b1 hg2
  have hz2 := B2.size
  clear hd1 HO
  cases q with
  | true =>
    have HD := hide' (l2drawName_drw w.heap.size a cap cs w2 hd2)
    go_wp2_with fail
    refine HD.out.mono ?_
    rintro e w3 ⟨v, xs, rfl, hT, hp, _, hg3⟩
    have hl9 := (nameB_le8 hp)
    go_wp2
    go_ret
    exact ⟨_, _, rfl, hT.mono hz2, hl9, Below.cursor B2 hg3⟩
  | false =>
    have HA : Hid (∀ o : Obj, Below w2.heap.size w2 (w2.alloc o) ∧ (w2.alloc o).heap[w2.heap.size]? = some o) := fun o => ⟨(Below.refl _ _).alloc (Nat.le_refl _) o, heap_alloc_new w2 o⟩
    have hgl := hd2.lt
    have HL : Hid (∀ o : Obj, Calls Tryd.prog 31 #[.pointer (some ⟨w.heap.size, 0, none⟩), .int .i64 6] (w2.alloc o) fun e w' => ∃ x : Int, e = .returned (.int .i64 x) ∧ 0 ≤ x ∧ (0 < (6 : Int) → x < 6) ∧ ((6 : Int) ≤ 0 → x = 0) ∧ Drw w' w.heap.size a cap cs ∧ (w2.alloc o).grownBy w' (some w.heap.size)) := fun o => l1Below_drw _ a cap cs 6 _ (hd2.grow (HA.out o).1) (by omega)
    clear hd2
    go_wp2_with fail
    refine (HL.out _).mono ?_
    rintro e w3 ⟨x, rfl, hx0, hx7, _, hd, hg3⟩
    obtain ⟨k, rfl⟩ : ∃ k : Nat, x = k := ⟨x.toNat, by omega⟩
    have hk : k < 6 := by have := hx7 (by omega); omega
    have B3 := Below.cursor B2 (below_grownBy (HA.out _).1 hg3)
    have hblk := (hg3.block w2.heap.size (by simp) (by simp; omega)).trans (HA.out _).2
    have hcell : w3.cell? ⟨w2.heap.size, k, none⟩ = some (.string (strOf (bent6.getD k []))) := by
      rw [cell_of_row w3 w2.heap.size k _ 9 (0, 0) hblk]
      obtain rfl | rfl | rfl | rfl | rfl | rfl : k = 0 ∨ k = 1 ∨ k = 2 ∨ k = 3 ∨ k = 4 ∨ k = 5 := by omega
      all_goals rfl
    obtain ⟨hnb, hnl⟩ := bent6_ok k hk
    obtain ⟨ck, wB, hconv, hT, hB⟩ := conv_txt (bent6.getD k []) hnb (by omega) w3
    have hk' : (k : Int) < 6 := by omega
    have hk0 : (0 : Int) ≤ (k : Int) := by omega
    have HE : Hid (TxtNew (fun xs => xs.length ≤ 9) w (.returned (.slice (some ⟨w3.heap.size, 0, none⟩) (bent6.getD k []).length ck)) wB) := ⟨_, _, rfl, hT.mono B3.size, hnl, Below.on B3 hB⟩
    generalize (bent6.getD k []).length = nl at HE hconv
    generalize strOf (bent6.getD k []) = sx at hcell hconv
    clear hT hB hd hg3 hblk HL HA hnb hnl hx7 hx0
    go_wp2
    go_ret
    exact HE.out

set_option maxHeartbeats 800000 in
theorem DrawAddrKey_any (a : Option Addr) (cap : Nat) (cs : List Int) (w : World) (ha : Seg w a cs) (hl : cs.length ≤ maxLen) :
    Calls Tryd.prog 8 #[.slice a cs.length cap] w fun e w' => ∃ v1 v2 xs ys, e = .returned (.tuple #[v1, v2]) ∧ Txt w.heap.size w' v1 xs ∧ Txt w.heap.size w' v2 ys ∧ nameB xs = true ∧ ys.length ≤ 9 ∧ Below w.heap.size w w' := by
  have HN := hide' (l1New_drw a cap cs w ha hl)
  have HD2 : Hid (∀ w1, Below w.heap.size w w1 → Calls Tryd.prog 24 #[.slice a cs.length cap] w1 (TxtNew (fun xs => xs.length ≤ 9) w1)) := fun w1 b1 => DrawNameOk_any a cap cs w1 (ha.grow b1) hl
  generalize hcl : cs.length = cn at *
  clear ha
  go_enter Tryd.func8, Tryd.ntmps8
  go_wp2_with fail
  refine HN.out.mono ?_
  rintro e w1 ⟨rfl, hd1, b1⟩
  clear HN
  have HD := hide' (l2drawName_drw w.heap.size a cap cs w1 hd1)
  go_wp2_with fail
  refine HD.out.mono ?_
  rintro e w2 ⟨v, xs, rfl, hT, hp, _, hg2⟩
  have B2 := Below.cursor b1 hg2
  have hT0 := hT.mono b1.size
  clear HD hd1 hT
  go_wp2_with fail
  refine (HD2.out _ B2).mono ?_
  rintro e w3 ⟨v3, ys, rfl, hT3, hp3, b3⟩
  go_wp2
  go_ret2
  exact ⟨_, _, _, _, rfl, hT0.grow b3, hT3.mono B2.size, hp, hp3, Below.on B2 b3⟩

set_option maxHeartbeats 800000 in
theorem DrawAddrItem_any (a : Option Addr) (cap : Nat) (cs : List Int) (w : World) (ha : Seg w a cs) (hl : cs.length ≤ maxLen) :
    Calls Tryd.prog 7 #[.slice a cs.length cap] w fun e w' => ∃ v1 xs z, e = .returned (.tuple #[v1, .int .i64 z]) ∧ Txt w.heap.size w' v1 xs ∧ xs.length ≤ 9 ∧ Below w.heap.size w w' := by
  have HN := hide' (l1New_drw a cap cs w ha hl)
  have HD2 : Hid (∀ w1, Below w.heap.size w w1 → Calls Tryd.prog 24 #[.slice a cs.length cap] w1 (TxtNew (fun xs => xs.length ≤ 9) w1)) := fun w1 b1 => DrawNameOk_any a cap cs w1 (ha.grow b1) hl
  generalize hcl : cs.length = cn at *
  clear ha
  go_enter Tryd.func7, Tryd.ntmps7
  go_wp2_with fail
  refine HN.out.mono ?_
  rintro e w1 ⟨rfl, hd1, b1⟩
  clear HN
  go_wp2_with fail
  refine (HD2.out _ b1).mono ?_
  rintro e w3 ⟨v3, ys, rfl, hT3, hp3, b3⟩
  have hd3 := hd1.grow b3
  have B3 := Below.on b1 b3
  have hgl := hd1.lt
  have hT0 := hT3
  have hz1 := b1.size
  have HP : Hid (∀ o : Obj, o = .cells #[.int .i64 0, .int .i64 1, .int .i64 9, .int .i64 10, .int .i64 99, .int .i64 100, .int .i64 (-1)] 3 → Calls Tryd.prog 25 #[.pointer (some ⟨w.heap.size, 0, none⟩), .slice (some ⟨w3.heap.size, 0, none⟩) 7 7] (w3.alloc o) fun e w' => ∃ z : Int, e = .returned (.int .i64 z) ∧ Drw w' w.heap.size a cap cs ∧ (w3.alloc o).grownBy w' (some w.heap.size)) := by
    intro o ho
    refine l1PickInt_drw _ w3.heap.size 7 7 a cap cs _ (hd3.grow ((Below.refl _ _).alloc (Nat.le_refl _) o)) (by omega) (by omega) (by have := hd3.lt; omega) (by simp) ?_
    intro k hk
    rw [cell_of_row _ w3.heap.size k _ 3 (0, 0) (by rw [heap_alloc_new w3 o, ho])]
    obtain rfl | rfl | rfl | rfl | rfl | rfl | rfl : k = 0 ∨ k = 1 ∨ k = 2 ∨ k = 3 ∨ k = 4 ∨ k = 5 ∨ k = 6 := by omega
    all_goals exact ⟨_, rfl⟩
  have HB : Hid (∀ o : Obj, Below w3.heap.size w3 (w3.alloc o)) := fun o => (Below.refl _ _).alloc (Nat.le_refl _) o
  clear hd1 b3 hT3 hd3
  go_wp2_with fail
  refine (HP.out _ rfl).mono ?_
  rintro e w4 ⟨z, rfl, _, hg4⟩
  have hg := below_grownBy (HB.out _) hg4
  have hT4 := (hT0.away hg hgl).mono hz1
  have B4 := Below.cursor B3 hg
  clear hg hg4
  go_wp2
  go_ret2
  exact ⟨_, _, _, rfl, hT4, hp3, B4⟩
end Go.Proofs.YthmljjebggljmaaDoor
