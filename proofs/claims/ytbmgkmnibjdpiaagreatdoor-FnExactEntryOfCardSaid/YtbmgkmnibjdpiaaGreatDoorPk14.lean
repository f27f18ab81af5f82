/-
  Texts that a law leans on, one behind the other; no statement is proved here.
-/
import Derived.Test.YtbmgkmnibjdpiaaGreatDoorPk12
import Derived.Test.YtbmgkmnibjdpiaaGreatDoorPk13
import Derived.Test.YtbmgkmnibjdpiaaGreatDoorPk0
import Derived.Test.YtbmgkmnibjdpiaaGreatDoorPk2
import Derived.Test.YtbmgkmnibjdpiaaGreatDoorPk11
import Derived.Test.YtbmgkmnibjdpiaaGreatDoorPk5
import Derived.Test.YtbmgkmnibjdpiaaGreatDoorPk9
import Derived.Test.YtbmgkmnibjdpiaaGreatDoorPk1
import Derived.Test.YtbmgkmnibjdpiaaGreatDoorPk4
import Derived.Maps.AppendAt
/-
  mapOf of the program.
-/
namespace Go.Proofs.YtbmgkmnibjdpiaaGreatDoor
open Go.RowKit
set_option linter.unusedVariables false
set_option linter.unusedSimpArgs false

theorem nomap_boolPart (x : Value) (w : World) : (Instr.typeAssert (.iface 106 x) 103 81 true).run Tryz.prog w = .ok (.tuple #[.agg #[.map none], .bool false]) w := by kernel_rfl
theorem nomap_intPart (x : Value) (w : World) : (Instr.typeAssert (.iface 107 x) 103 81 true).run Tryz.prog w = .ok (.tuple #[.agg #[.map none], .bool false]) w := by kernel_rfl
theorem nomap_textPart (x : Value) (w : World) : (Instr.typeAssert (.iface 109 x) 103 81 true).run Tryz.prog w = .ok (.tuple #[.agg #[.map none], .bool false]) w := by kernel_rfl
theorem nomap_listPart (x : Value) (w : World) : (Instr.typeAssert (.iface 112 x) 103 81 true).run Tryz.prog w = .ok (.tuple #[.agg #[.map none], .bool false]) w := by kernel_rfl
theorem nomap_nil (w : World) : (Instr.typeAssert .nilIface 103 81 true).run Tryz.prog w = .ok (.tuple #[.agg #[.map none], .bool false]) w := by kernel_rfl

/-- The kind of a value. -/
def kindV : (d : Nat) → Vl d → Int
  | 0, _ => 0
  | d + 1, v => v.1

/-- What mapOf leaves. -/
def MapOf (d : Nat) (v : Vl d) (w : World) (e : Ending) (w' : World) : Prop :=
  Below w.heap.size w w' ∧ ((∃ b, e = .returned (.tuple #[.agg #[.map (some b)], .bool true]) ∧ okB d v = true ∧ kindV d v = 5 ∧ PSeg (fun b => w.heap.size ≤ b ∧ b < w'.heap.size) w' d (.iface 81 (.agg #[.map (some b)])) v) ∨
    (e = .returned (.tuple #[.agg #[.map none], .bool false]) ∧ ¬ (okB d v = true ∧ kindV d v = 5)))

/-- What partOf leaves, asked for a map. -/
theorem part_map {d : Nat} {v : Vl d} {w w' : World} {e : Ending} (h : PartEnd d v w e w') : Below w.heap.size w w' ∧ ∃ p f, e = .returned (.tuple #[p, .bool f]) ∧ ∃ mo ok, (∀ wx, (Instr.typeAssert p 103 81 true).run Tryz.prog wx = .ok (.tuple #[.agg #[.map mo], .bool ok]) wx) ∧
    ((∃ b, mo = some b ∧ ok = true ∧ okB d v = true ∧ kindV d v = 5 ∧ PSeg (fun b => w.heap.size ≤ b ∧ b < w'.heap.size) w' d (.iface 81 (.agg #[.map (some b)])) v) ∨ (mo = none ∧ ok = false ∧ ¬ (okB d v = true ∧ kindV d v = 5))) := by
  obtain ⟨hb, ⟨p, rfl, hok, hp⟩ | ⟨rfl, hno⟩⟩ := h
  · refine ⟨hb, p, true, rfl, ?_⟩
    cases d with
    | zero => exact hp.elim
    | succ d =>
      have hp' := hp
      rcases hp with ⟨hk, rfl⟩ | ⟨hk, rfl⟩ | ⟨hk, rfl⟩ | ⟨hk, rfl⟩ | ⟨hk, rfl⟩ | ⟨hk, a, cap, rfl, hc⟩ | ⟨hk, b, ps, rfl, hR, hm, hc⟩
      · exact ⟨none, false, nomap_nullPart _, .inr ⟨rfl, rfl, fun h => by have h2 : v.1 = 5 := h.2; omega⟩⟩
      · exact ⟨none, false, nomap_unknownPart _, .inr ⟨rfl, rfl, fun h => by have h2 : v.1 = 5 := h.2; omega⟩⟩
      · exact ⟨none, false, nomap_boolPart _, .inr ⟨rfl, rfl, fun h => by have h2 : v.1 = 5 := h.2; omega⟩⟩
      · exact ⟨none, false, nomap_intPart _, .inr ⟨rfl, rfl, fun h => by have h2 : v.1 = 5 := h.2; omega⟩⟩
      · exact ⟨none, false, nomap_textPart _, .inr ⟨rfl, rfl, fun h => by have h2 : v.1 = 5 := h.2; omega⟩⟩
      · exact ⟨none, false, nomap_listPart _, .inr ⟨rfl, rfl, fun h => by have h2 : v.1 = 5 := h.2; omega⟩⟩
      · exact ⟨some b, true, is_mapPart _, .inl ⟨b, rfl, rfl, hok, hk, hp'⟩⟩
  · exact ⟨hb, .nilIface, false, rfl, none, false, nomap_nil, .inr ⟨rfl, rfl, fun h => by rw [hno] at h; simp at h⟩⟩

set_option maxHeartbeats 1600000 in
theorem mapOf_any (d N : Nat) (c0 c1 c2 c3 c4 : Value) (v : Vl d) (w : World) (hv : VSeg (fun b => b < N) w d (c0, c1, c2, c3, c4) v) (hN : N ≤ w.heap.size) :
    Calls Tryz.prog 60 #[.agg #[c0, c1, c2, c3, c4]] w (MapOf d v w) := by
  have HA : Hid (∀ o o' : Obj, Below w.heap.size w ((w.alloc o).alloc o') ∧ ((w.alloc o).alloc o').heap[w.heap.size + 1]? = some o') := fun o o' => ⟨((Below.refl _ _).alloc (Nat.le_refl _) o).alloc (by simp) o', by have := (MapKept.heap_alloc (w.alloc o) o').1; simpa using this⟩
  have HP : Hid (∀ o o' : Obj, Calls Tryz.prog 70 #[.agg #[c0, c1, c2, c3, c4]] ((w.alloc o).alloc o') (PartEnd d v ((w.alloc o).alloc o'))) := fun o o' => partOf_any d N c0 c1 c2 c3 c4 v _ (VSeg.agree (fun b (h : b < N) => (HA.out o o').1.block b (by omega)) d hv) (by simp; omega)
  clear hv
  go_enter Tryz.func60, Tryz.ntmps60
  go_wp2_with fail
  refine (HP.out _ _).mono ?_
  intro e w1 he
  obtain ⟨b1, p, f, rfl, mo, ok, hta, hres⟩ := part_map he
  have hR : w1.heap[w.heap.size + 1]? = some (.cells #[.map none] 81 (0, 0)) := (b1.block _ (by simp)).trans (HA.out _ _).2
  have hB1 := Below.on (HA.out _ _).1 b1
  have hlt : w.heap.size + 1 < w1.heap.size := (Array.getElem?_eq_some_iff.1 hR).1
  have hne : ¬ w.heap.size + 1 = w1.heap.size := by omega
  have hne' : ¬ w1.heap.size = w.heap.size + 1 := by omega
  have rc : ∀ o, (w1.alloc o).cell? ⟨w.heap.size + 1, 0, none⟩ = some (.map none) := fun o => by
    rw [cell_of_row (w1.alloc o) (w.heap.size + 1) 0 _ _ _ ((Below.heap_alloc w1 o _ hlt).trans hR)]
    rfl
  have rf : ∀ o, (w1.alloc o).frozen? ⟨w.heap.size + 1, 0, none⟩ = false := fun o => frozen_of_row _ _ _ _ _ ((Below.heap_alloc w1 o _ hlt).trans hR)
  have HR := hide' hR
  have HB1 := hide' hB1
  have HRes := hide' hres
  have Hb1 := hide' b1
  clear hR hB1 hres b1 he HP
  go_wp2_with fail
  have hrow : ((w1.setCell ⟨w.heap.size + 1, 0, none⟩ (.map mo)).alloc (.cells #[.map mo] 81)).heap[w.heap.size + 1]? = some (.cells #[.map mo] 81 (0, 0)) := (Below.heap_alloc _ _ _ (by simp [World.setCell]; omega)).trans (heap_setCell_same w1 _ 0 _ _ _ HR.out)
  have hc := cell_of_row _ _ 0 _ _ _ hrow
  have hg := grown1 w1 (w.heap.size + 1) 0 (.map mo)
  have hBf : Below w.heap.size w ((w1.setCell ⟨w.heap.size + 1, 0, none⟩ (.map mo)).alloc (.cells #[.map mo] 81)) := (HB1.out.grown hg (by omega) (by intro j hj; simp at hj; omega)).alloc (by simp [World.setCell]; omega) _
  have hsz : w1.heap.size ≤ ((w1.setCell ⟨w.heap.size + 1, 0, none⟩ (.map mo)).alloc (.cells #[.map mo] 81)).heap.size := by simp [World.setCell]
  refine bodyPost_ret (v := .tuple #[.agg #[.map mo], .bool ok]) (by simp [results, Tryz.results60, go_sem, hc]) rfl ?_
  refine ⟨hBf, ?_⟩
  rcases HRes.out with ⟨b, rfl, rfl, h1, h2, h3⟩ | ⟨rfl, rfl, h1⟩
  · refine .inl ⟨b, rfl, h1, h2, PSeg.carry (fun b' hb' => ?_) (fun b' hb' => ?_) d h3⟩
    · simp at hb'
      omega
    · simp at hb'
      exact (Below.heap_alloc _ _ _ (by simp [World.setCell]; omega)).trans (hg.block b' hb'.2 (by simp; omega))
  · exact .inr ⟨rfl, h1⟩
end Go.Proofs.YtbmgkmnibjdpiaaGreatDoor
/-
  The order of texts, as the specification asks it: l2bytes.
-/
namespace Go.Proofs.YtbmgkmnibjdpiaaGreatDoor
open Go.RowKit
set_option linter.unusedVariables false
set_option linter.unusedSimpArgs false

/-- The order of two texts. -/
def bytesC (xs ys : List Int) : Int := Lib.compareBytes (u8s xs) (u8s ys)

theorem cmp_swap : ∀ (a b : List UInt8), Lib.compareBytes b a = - Lib.compareBytes a b
  | [], [] => by simp [Lib.compareBytes]
  | [], _ :: _ => by simp [Lib.compareBytes]
  | _ :: _, [] => by simp [Lib.compareBytes]
  | x :: a, y :: b => by
    have ih := cmp_swap a b
    unfold Lib.compareBytes
    by_cases h1 : x < y
    · have h2 : ¬ y < x := fun h => absurd (UInt8.lt_trans h1 h) (UInt8.lt_irrefl _)
      have h3 : ¬ x = y := fun e => by subst e; exact absurd h1 (UInt8.lt_irrefl _)
      have h4 : ¬ y = x := fun e => h3 e.symm
      simp [h1, h2, h3, h4]
    · by_cases h2 : y < x
      · have h3 : ¬ x = y := fun e => by subst e; exact absurd h2 (UInt8.lt_irrefl _)
        have h4 : ¬ y = x := fun e => h3 e.symm
        simp [h1, h2, h3, h4]
      · have h3 : x = y := UInt8.le_antisymm (UInt8.not_lt.1 h2) (UInt8.not_lt.1 h1)
        subst h3
        simp [h1, ih]

theorem less_ab (xs ys : List Int) : Op.bytesLess (strOf xs).toList (strOf ys).toList = decide (bytesC xs ys < 0) := by rw [strOf_list, strOf_list, less_cmp]; rfl
theorem less_ba (xs ys : List Int) : Op.bytesLess (strOf ys).toList (strOf xs).toList = decide (0 < bytesC xs ys) := by
  rw [strOf_list, strOf_list, less_cmp, cmp_swap]
  show decide (-(bytesC xs ys) < 0) = _
  by_cases h : 0 < bytesC xs ys
  · simp [h]
  · simp [h]
theorem cmp_zero : ∀ (a b : List UInt8), Lib.compareBytes a b = 0 ↔ a = b
  | [], [] => by simp [Lib.compareBytes]
  | [], _ :: _ => by simp [Lib.compareBytes]
  | _ :: _, [] => by simp [Lib.compareBytes]
  | x :: a, y :: b => by
    have ih := cmp_zero a b
    unfold Lib.compareBytes
    by_cases h1 : x < y
    · have h3 : ¬ x = y := fun e => by subst e; exact absurd h1 (UInt8.lt_irrefl _)
      simp [h1, h3]
    · by_cases h2 : y < x
      · have h3 : ¬ x = y := fun e => by subst e; exact absurd h2 (UInt8.lt_irrefl _)
        simp [h1, h2, h3]
      · have h3 : x = y := UInt8.le_antisymm (UInt8.not_lt.1 h2) (UInt8.not_lt.1 h1)
        subst h3
        simp [h1, ih]
theorem same_ab (xs ys : List Int) : ((strOf xs).toList == (strOf ys).toList) = decide (bytesC xs ys = 0) := by
  rw [strOf_list, strOf_list]
  have h := cmp_zero (u8s xs) (u8s ys)
  show _ = decide (Lib.compareBytes (u8s xs) (u8s ys) = 0)
  by_cases e : u8s xs = u8s ys
  · simp [e, h.2 e]
    exact (cmp_zero _ _).2 rfl
  · have : ¬ Lib.compareBytes (u8s xs) (u8s ys) = 0 := fun k => e (h.1 k)
    simp [e, this]
theorem bytesC_cases (xs ys : List Int) : bytesC xs ys = -1 ∨ bytesC xs ys = 0 ∨ bytesC xs ys = 1 := by
  have := cmp_range (u8s xs) (u8s ys)
  have e : bytesC xs ys = Lib.compareBytes (u8s xs) (u8s ys) := rfl
  omega

end Go.Proofs.YtbmgkmnibjdpiaaGreatDoor
/-
  The order of numbers and of texts, as the specification and as the program ask it: l2num; cmp.Compare at int.
-/
namespace Go.Proofs.YtbmgkmnibjdpiaaGreatDoor
open Go.RowKit
set_option linter.unusedVariables false
set_option linter.unusedSimpArgs false

/-- The order of two numbers. -/
def numC (a b : Int) : Int := if a < b then -1 else if b < a then 1 else 0
theorem numC_lt {a b : Int} (h : a < b) : numC a b = -1 := by simp [numC, h]
theorem numC_gt {a b : Int} (h : b < a) : numC a b = 1 := by
  have : ¬ a < b := by omega
  simp [numC, h, this]
theorem numC_eq (a : Int) : numC a a = 0 := by simp [numC]

end Go.Proofs.YtbmgkmnibjdpiaaGreatDoor
/-
  Events: which may be (mathematics); EventOk of the specification.
-/
namespace Go.Proofs.YtbmgkmnibjdpiaaGreatDoor
open Go.RowKit
set_option linter.unusedVariables false
set_option linter.unusedSimpArgs false

def mapB (d : Nat) (v : Vl d) : Bool := decide (kindV d v = 5) && (okB d v && knownV d v)
def headE (k : Int) (ad : List Int) (j : Int) : Bool := (if 1 ≤ k ∧ k ≤ 4 then addrB ad else decide (ad.length = 0)) && (if k = 1 then decide (1 ≤ j) && decide (j ≤ 4) else decide (j = 0))
def restE (d : Nat) (k : Int) (v : Vl d) (ds : List (List Int)) : Bool := if k = 2 then mapB d v && addrsB ds else okB d v && (decide (kindV d v = 0) && decide (ds.length = 0))
/-- What EventOk answers. -/
def evB (d : Nat) (e : Rcd d) : Bool := decide (0 ≤ e.1) && (decide (e.1 ≤ 6) && (headE e.1 e.2.1 e.2.2.1 && restE d e.1 e.2.2.2.1 e.2.2.2.2))

theorem addrB_some {ad : List Int} (h : addrB ad = true) : ¬ ad.length = 0 := by
  intro h0
  obtain rfl : ad = [] := List.length_eq_zero_iff.1 h0
  exact absurd h (by decide)
theorem ev_row {w : World} {g : Nat} {T : TypeId} {c0 c1 c2 c3 c4 c5 c6 c7 c8 : Value} (h : w.heap[g]? = some (.cells #[c0, c1, c2, c3, c4, c5, c6, c7, c8] T (0, 0))) :
    w.cell? ⟨g, 0, none⟩ = some c0 ∧ w.cell? ⟨g, 1, none⟩ = some c1 ∧ w.cell? ⟨g, 2, none⟩ = some c2 ∧ w.cell? ⟨g, 3, none⟩ = some c3 ∧ w.cell? ⟨g, 4, none⟩ = some c4 ∧ w.cell? ⟨g, 5, none⟩ = some c5 ∧ w.cell? ⟨g, 6, none⟩ = some c6 ∧ w.cell? ⟨g, 7, none⟩ = some c7 ∧ w.cell? ⟨g, 8, none⟩ = some c8 := by
  refine ⟨?_, ?_, ?_, ?_, ?_, ?_, ?_, ?_, ?_⟩ <;> (rw [cell_of_row w g _ _ _ _ h]; rfl)

theorem shape_null {vn : Int} {vs : List Int} {vK : List (List Int)} {n : Nat} (h : shapeB 0 vn vs vK n = true) : vn = 0 ∧ n = 0 := by
  unfold shapeB bareB at h
  simp only [Bool.and_eq_true, Bool.or_eq_true, decide_eq_true_eq] at h
  omega

set_option maxHeartbeats 1600000 in
theorem l4map_any (d N : Nat) (c0 c1 c2 c3 c4 : Value) (v : Vl d) (w : World) (hv : VSeg (fun b => b < N) w d (c0, c1, c2, c3, c4) v) (hN : N ≤ w.heap.size) :
    Calls Tryz.prog 23 #[.agg #[c0, c1, c2, c3, c4]] w fun e w' => e = .returned (.bool (mapB d v)) ∧ Below w.heap.size w w' := by
  have HA1 : Hid (∀ o : Obj, Below w.heap.size w (w.alloc o)) := fun o => (Below.refl _ _).alloc (Nat.le_refl _) o
  have Hbox : Hid (∀ o wx, Below (w.alloc o).heap.size (w.alloc o) wx → wx.heap[w.heap.size]? = some o) := fun o wx h => box_row h
  have HOk : Hid (∀ wx, Below w.heap.size w wx → Calls Tryz.prog 41 #[.agg #[c0, c1, c2, c3, c4]] wx fun e w' => e = .returned (.bool (okB d v)) ∧ Below wx.heap.size wx w') := fun wx hb => spec_ValOk_any d N _ _ _ _ _ v wx (VSeg.agree (agree_below (hb.mono hN)) d hv) (by have := hb.size; omega)
  have HKn : Hid (∀ wx, Below w.heap.size w wx → okB d v = true → Calls Tryz.prog 42 #[.agg #[c0, c1, c2, c3, c4]] wx fun e w' => e = .returned (.bool (knownV d v)) ∧ Below wx.heap.size wx w') := fun wx hb hok => l2known_any d N (c0, c1, c2, c3, c4) v wx (VSeg.agree (agree_below (hb.mono hN)) d hv) (by have := hb.size; omega) (by unfold okB at hok; rw [Bool.and_eq_true, decide_eq_true_eq] at hok; exact hok.2)
  have HM : Hid (mapB d v = (decide (kindV d v = 5) && (okB d v && knownV d v))) := rfl
  cases d with
  | zero => exact hv.elim
  | succ d =>
  obtain ⟨bk, bn, a2, l2, p2, a3, l3, p3, a4, l4, p4, rfl, rfl, rfl, rfl, rfl⟩ := VSeg.form (d + 1) hv
  have hk : kindV (d + 1) v = bk := by
    obtain ⟨vk, vn, vs, vK, vL⟩ := v
    obtain ⟨e0, _⟩ := hv
    simp only [Value.int.injEq, true_and] at e0
    exact e0.symm
  rw [hk] at HM
  clear hv hk
  generalize mapB (d + 1) v = ans at *
  generalize knownV (d + 1) v = kn at *
  by_cases h5 : bk = 5
  rotate_left
  · have h5' : (bk == 5) = false := by simpa using h5
    have HF : Hid (ans = false) := by show ans = false; rw [HM.out, decide_eq_false h5]; rfl
    clear HM
    go_enter Tryz.func23, Tryz.ntmps23
    go_wp2
    go_ret
    exact ⟨ret_bool HF.out.symm, HA1.out _⟩
  subst h5
  cases hok : okB (d + 1) v with
  | false =>
    have HF : Hid (ans = false) := by show ans = false; rw [HM.out, hok]; simp
    rw [hok] at HOk
    clear HM HKn hok
    go_enter Tryz.func23, Tryz.ntmps23
    go_wp2_with fail
    refine (HOk.out _ (HA1.out _)).mono ?_
    rintro e w1 ⟨rfl, b1⟩
    have B1 := hide' (Below.on (HA1.out _) b1)
    clear b1
    go_wp2
    go_ret
    exact ⟨ret_bool HF.out.symm, B1.out⟩
  | true =>
    have HF : Hid (ans = kn) := by show ans = kn; rw [HM.out, hok]; simp
    have HKn2 : Hid (∀ wx, Below w.heap.size w wx → Calls Tryz.prog 42 #[.agg #[.int .i64 5, .int .i64 bn, .slice a2 l2 p2, .slice a3 l3 p3, .slice a4 l4 p4]] wx fun e w' => e = .returned (.bool kn) ∧ Below wx.heap.size wx w') := fun wx hb => HKn.out wx hb hok
    rw [hok] at HOk
    clear HM HKn hok
    go_enter Tryz.func23, Tryz.ntmps23
    go_wp2_with fail
    refine (HOk.out _ (HA1.out _)).mono ?_
    rintro e w1 ⟨rfl, b1⟩
    have hr := Hbox.out _ _ b1
    have f0 : w1.cell? ⟨w.heap.size, 0, none⟩ = some (.int .i64 5) := by rw [cell_of_row _ _ 0 _ _ _ hr]; rfl
    have f1 : w1.cell? ⟨w.heap.size, 1, none⟩ = some (.int .i64 bn) := by rw [cell_of_row _ _ 1 _ _ _ hr]; rfl
    have f2 : w1.cell? ⟨w.heap.size, 2, none⟩ = some (.slice a2 l2 p2) := by rw [cell_of_row _ _ 2 _ _ _ hr]; rfl
    have f3 : w1.cell? ⟨w.heap.size, 3, none⟩ = some (.slice a3 l3 p3) := by rw [cell_of_row _ _ 3 _ _ _ hr]; rfl
    have f4 : w1.cell? ⟨w.heap.size, 4, none⟩ = some (.slice a4 l4 p4) := by rw [cell_of_row _ _ 4 _ _ _ hr]; rfl
    have B1 := hide' (Below.on (HA1.out _) b1)
    clear hr b1
    go_wp2_with fail
    refine (HKn2.out _ B1.out).mono ?_
    rintro e w2 ⟨rfl, b2⟩
    have B2 := hide' (Below.on B1.out b2)
    clear b2 f0 f1 f2 f3 f4
    go_wp2
    go_ret
    exact ⟨ret_bool HF.out.symm, B2.out⟩

end Go.Proofs.YtbmgkmnibjdpiaaGreatDoor
/-
  l2find of the specification: where a key stands.
-/
namespace Go.Proofs.YtbmgkmnibjdpiaaGreatDoor
open Go.RowKit
set_option linter.unusedVariables false
set_option linter.unusedSimpArgs false

/-- Where a key stands; -1 where it does not. -/
def findK (ks : List (List Int)) (key : List Int) : Int := match ks.findIdx? (fun k => decide (k = key)) with | some i => i | none => -1

theorem findK_at {ks : List (List Int)} {key : List Int} {k : Nat} (hk : k < ks.length) (hn : ∀ i, i < k → ks.getD i [] ≠ key) (he : ks.getD k [] = key) : findK ks key = k := by
  have : ks.findIdx? (fun x => decide (x = key)) = some k := by
    rw [List.findIdx?_eq_some_iff_getElem]
    refine ⟨hk, ?_, fun j hj => ?_⟩
    · simp [List.getD_eq_getElem?_getD, hk] at he
      simp [he]
    · have h1 := hn j hj
      simp [List.getD_eq_getElem?_getD, (show j < ks.length by omega)] at h1
      simp [h1]
  simp [findK, this]

theorem findK_no {ks : List (List Int)} {key : List Int} (hn : ∀ i, i < ks.length → ks.getD i [] ≠ key) : findK ks key = -1 := by
  have : ks.findIdx? (fun x => decide (x = key)) = none := by
    rw [List.findIdx?_eq_none_iff]
    intro x hx
    obtain ⟨i, hi, rfl⟩ := List.getElem_of_mem hx
    have h1 := hn i hi
    simp [List.getD_eq_getElem?_getD, hi] at h1
    simp [h1]
  simp [findK, this]

end Go.Proofs.YtbmgkmnibjdpiaaGreatDoor
/-
  States: which may be (mathematics); where an address stands among the entries: l4find of the specification.
-/
namespace Go.Proofs.YtbmgkmnibjdpiaaGreatDoor
open Go.RowKit
set_option linter.unusedVariables false
set_option linter.unusedSimpArgs false

def adrL {d : Nat} (l : List (Ntr d)) : List (List Int) := l.map fun e => e.1
def entB (d : Nat) (ser : Int) (e : Ntr d) : Bool := mapB d e.2.1 && (addrsB e.2.2.1 && (decide (1 ≤ e.2.2.2.2) && decide (e.2.2.2.2 ≤ ser)))
def hasA (ks : List (List Int)) (x : List Int) : Bool := decide (0 ≤ findK ks x)
def pendB (op : Bool) (pd : List Int) (ac : Int) (hs : Bool) : Bool := if pd.length = 0 then decide (ac = 0) else op && (addrB pd && (decide (1 ≤ ac) && (decide (ac ≤ 4) && (hs == !decide (ac = 1)))))
def headS (ser : Int) (n : Nat) : Bool := decide (0 ≤ ser) && (decide (ser ≤ 1000000) && decide (n ≤ 16))
/-- What StateOk answers. -/
def staB (d : Nat) (s : Stt d) : Bool := headS s.1 s.2.2.2.2.length && (pendB s.2.1 s.2.2.1 s.2.2.2.1 (hasA (adrL s.2.2.2.2) s.2.2.1) && (ascA (adrL s.2.2.2.2) && s.2.2.2.2.all (entB d s.1)))

theorem adrL_len {d : Nat} (l : List (Ntr d)) : (adrL l).length = l.length := by simp [adrL]
theorem adrL_at {d : Nat} (l : List (Ntr d)) {k : Nat} (h : k < l.length) : (adrL l).getD k [] = (l[k]).1 := by
  rw [List.getD_eq_getElem?_getD, List.getElem?_eq_getElem (by rw [adrL_len]; exact h)]
  simp [adrL]

/-- The first k entries are as they must be. -/
def FstS (d : Nat) (ser : Int) (l : List (Ntr d)) (k : Nat) : Prop := ∀ i (h : i < l.length), i < k → stepA (adrL l) i = true ∧ entB d ser l[i] = true
theorem fstS_next {d : Nat} {ser : Int} {l : List (Ntr d)} {k : Nat} (h : FstS d ser l k) (hk : k < l.length) (h1 : stepA (adrL l) k = true) (h2 : entB d ser l[k] = true) : FstS d ser l (k + 1) := fun i hi hik => by
  by_cases e : i = k
  · subst e; exact ⟨h1, h2⟩
  · exact h i hi (by omega)
theorem rest_yes {d : Nat} {ser : Int} {l : List (Ntr d)} (h : FstS d ser l l.length) : (ascA (adrL l) && l.all (entB d ser)) = true := by
  rw [Bool.and_eq_true]
  refine ⟨ascA_yes fun i hi => (h i (by rw [adrL_len] at hi; exact hi) (by rw [adrL_len] at hi; exact hi)).1, ?_⟩
  rw [List.all_eq_true]
  intro x hx
  obtain ⟨i, hi, rfl⟩ := List.getElem_of_mem hx
  exact (h i hi hi).2
theorem rest_no {d : Nat} {ser : Int} {l : List (Ntr d)} {k : Nat} (hk : k < l.length) (h : stepA (adrL l) k = false ∨ entB d ser l[k] = false) : (ascA (adrL l) && l.all (entB d ser)) = false := by
  rcases h with h | h
  · rw [ascA_no (by rw [adrL_len]; exact hk) h]; rfl
  · have : l.all (entB d ser) = false := by
      rw [List.all_eq_false]
      exact ⟨l[k], List.getElem_mem _, by simp [h]⟩
    rw [this]; simp

/-- The row of entries, in full. -/
theorem NtLS.full {R : Nat → Prop} {w : World} {d : Nat} {a : Option Addr} {n cap : Nat} {l : List (Ntr d)} (h : NtLS R w d (.slice a n cap) l) {k : Nat} (hk : k < l.length) :
    ∃ b off, a = some ⟨b, off, none⟩ ∧ R b ∧ ∀ i (h : i < l.length), ∃ cs, w.rangeAt b (off + i * 9) cs ∧ NtSg R w d cs l[i] := by
  obtain ⟨a', cap', g1, _, _, _, g5⟩ := h
  simp only [Value.slice.injEq] at g1
  obtain ⟨rfl, _, _⟩ := g1
  rcases g5 with e | ⟨b, off, hb, hR, hc⟩
  · rw [e] at hk; simp at hk
  · exact ⟨b, off, hb, hR, hc⟩

theorem findK_range (ks : List (List Int)) (x : List Int) : -1 ≤ findK ks x ∧ findK ks x ≤ ks.length := by
  unfold findK
  cases h : ks.findIdx? (fun k => decide (k = x)) with
  | none => simp <;> omega
  | some i =>
    have := List.findIdx?_eq_some_iff_getElem.1 h
    obtain ⟨h1, _⟩ := this
    simp
    omega

set_option maxHeartbeats 3200000 in
theorem l4find_any (d N : Nat) (cs : List Value) (s : Stt d) (ka : Option Addr) (kc : Nat) (key : List Int) (w : World) (hx : SaSg (fun b => b < N) w d cs s) (hN : N ≤ w.heap.size) (hS : Seg w ka key) (hSb : ∀ x, ka = some x → key ≠ [] → x.block < w.heap.size) :
    Calls Tryz.prog 22 #[.agg cs.toArray, .slice ka key.length kc] w fun e w' => e = .returned (.int .i64 (findK (adrL s.2.2.2.2) key)) ∧ Below w.heap.size w w' := by
  obtain ⟨pa, pc, ea, ec, rfl, -, he⟩ := hx.form
  obtain ⟨s0, s1, nm, s3, l⟩ := s
  simp only at he ⊢
  generalize nm.length = pl
  have hB0 : ∀ o : Obj, Below w.heap.size w (w.alloc o) := fun o => (Below.refl _ _).alloc (Nat.le_refl _) o
  have HB0 := hide' hB0
  have HBx : Hid (∀ (o : Obj) (n : Nat), ((w.alloc o).drewN n).heap[w.heap.size]? = some o) := fun o n => (MapKept.heap_alloc w o).1
  have HKS : Hid (∀ (o : Obj) (n : Nat), NtLS (fun b => b < N) ((w.alloc o).drewN n) d (.slice ea l.length ec) l) := fun o n => he.agree (agree_below ((below_drewN (hB0 o) n).mono hN))
  have HSg : Hid (∀ (o : Obj) (n : Nat), Seg ((w.alloc o).drewN n) ka key) := fun o n => hS.below (below_drewN (hB0 o) n) hSb
  have hcm : l.length ≤ 9223372036854775807 := by obtain ⟨a, c, e, h1, h2, _⟩ := he; simp at e; unfold maxLen at h2; omega
  clear hB0 he hS hSb hx
  go_enter Tryz.func22, Tryz.ntmps22
  go_wp2_with fail
  go_loopw [5] (fun i wr => ∃ k : Nat, k ≤ l.length ∧ i = .int .i64 k ∧ (∃ n, wr = (w.alloc (.cells #[.int .i64 s0, .bool s1, .slice pa pl pc, .int .i64 s3, .slice ea l.length ec] 30)).drewN n) ∧ Hid (∀ i, i < k → (adrL l).getD i [] ≠ key)) (fun i _ => l.length - (intOf i).toNat)
  case atStart => exact ⟨0, Nat.zero_le _, rfl, ⟨0, rfl⟩, fun i hi => absurd hi (by omega)⟩
  case round =>
    obtain ⟨k, hk, rfl, ⟨nd, rfl⟩, HNot⟩ := hrel
    obtain ⟨_, _, _, _, q3, _⟩ := row5 (HBx.out (.cells #[.int .i64 s0, .bool s1, .slice pa pl pc, .int .i64 s3, .slice ea l.length ec] 30) nd)
    by_cases hlt : k < l.length
    · have hlt' : (k : Int) < (l.length : Int) := by omega
      have hk0 : (0 : Int) ≤ (k : Int) := Int.natCast_nonneg _
      obtain ⟨kb, ko, cs, rfl, hkb, hr, hs⟩ := (HKS.out (.cells #[.int .i64 s0, .bool s1, .slice pa pl pc, .int .i64 s3, .slice ea l.length ec] 30) nd).at hlt
      obtain ⟨c1, c3, c4, c5, c6, c7, c8, rfl, hT, -, -⟩ := hs
      obtain ⟨s2, e2, rfl, g2, -⟩ := hT
      have hu := hr 0 _ rfl
      simp only [Nat.add_zero] at hu
      have hsg := HSg.out (.cells #[.int .i64 s0, .bool s1, .slice pa pl pc, .int .i64 s3, .slice (some ⟨kb, ko, none⟩) l.length ec] 30) nd
      generalize hwr : ((w.alloc (.cells #[.int .i64 s0, .bool s1, .slice pa pl pc, .int .i64 s3, .slice (some ⟨kb, ko, none⟩) l.length ec] 30)).drewN nd) = wr at *
      have hcv2 : ∀ n, (convert 22 9 (.slice s2 (l[k]).1.length e2)).run Tryz.prog (wr.drewN n) = .ok (.string (strOf (l[k]).1)) (wr.drewN n) := fun n => conv_seg (w := wr.drewN n) e2 g2
      have hcv3 : ∀ n, (convert 22 9 (.slice ka key.length kc)).run Tryz.prog (wr.drewN n) = .ok (.string (strOf key)) (wr.drewN n) := fun n => conv_seg (w := wr.drewN n) kc hsg
      have hE := strOf_eq g2.1 hsg.1
      have hat := adrL_at l hlt
      have HB : Hid (∀ n, Below w.heap.size w (wr.drewN n)) := by
        intro n
        rw [← hwr]
        exact below_drewN (below_drewN (HB0.out _) nd) n
      have HW : Hid (∀ n, ∃ n', wr.drewN n = (w.alloc (.cells #[.int .i64 s0, .bool s1, .slice pa pl pc, .int .i64 s3, .slice (some ⟨kb, ko, none⟩) l.length ec] 30)).drewN n') := fun n => ⟨nd + n, by rw [← hwr]; simp [World.drewN, Nat.add_assoc]⟩
      by_cases he : (l[k]).1 = key
      · have hF := hide' (findK_at (ks := adrL l) (by rw [adrL_len]; exact hlt) HNot.out (hat.trans he))
        rw [decide_eq_true he] at hE
        generalize (l[k]).1 = xs at *
        clear hat g2 hsg hwr he HNot HKS HSg hr
        go_wp2_with fail
        go_quiet (fail)
        go_wp2
        go_ret
        exact ⟨ret_i64 hF.out.symm, HB.out _⟩
      · have hNot' : Hid (∀ i, i < k + 1 → (adrL l).getD i [] ≠ key) := fun i hi => by
          by_cases e : i = k
          · subst e; rw [hat]; exact he
          · exact HNot.out i (by omega)
        rw [decide_eq_false he] at hE
        generalize (l[k]).1 = xs at *
        clear hat g2 hsg hwr he HNot HKS HSg hr
        go_wp2_with fail
        go_quiet (fail)
        go_wp2
        go_roundw
        case rel => exact ⟨k + 1, by omega, by go_num, HW.out _, hNot'⟩
        case measure => simp [intOf]; omega
    · have hkn : k = l.length := by omega
      subst hkn
      have hlt' : ¬ (l.length : Int) < (l.length : Int) := by omega
      have hF := hide' (findK_no (ks := adrL l) (key := key) (fun i hi => HNot.out i (by rw [adrL_len] at hi; exact hi)))
      clear HNot HKS HSg
      go_wp2
      go_ret
      exact ⟨ret_i64 hF.out.symm, below_drewN (HB0.out _) _⟩
end Go.Proofs.YtbmgkmnibjdpiaaGreatDoor
/-
  actOk and hasAddr of the program.
-/
namespace Go.Proofs.YtbmgkmnibjdpiaaGreatDoor
open Go.RowKit
set_option linter.unusedVariables false
set_option linter.unusedSimpArgs false

set_option maxHeartbeats 1600000 in
theorem actOk_any (k : Int) (w : World) : Calls Tryz.prog 64 #[.int .i64 k] w fun e w' => e = .returned (.bool (decide (1 ≤ k) && decide (k ≤ 4))) ∧ w = w' := by
  by_cases h1 : 1 ≤ k
  · by_cases h4 : k ≤ 4
    · go_enter Tryz.func64, Tryz.ntmps64
      go_wp2
      go_ret
      exact ⟨by simp [h1, h4], rfl⟩
    · go_enter Tryz.func64, Tryz.ntmps64
      go_wp2
      go_ret
      exact ⟨by simp [h1, h4], rfl⟩
  · go_enter Tryz.func64, Tryz.ntmps64
    go_wp2
    go_ret
    exact ⟨by rw [decide_eq_false (p := 1 ≤ k) (by omega)]; rfl, rfl⟩
end Go.Proofs.YtbmgkmnibjdpiaaGreatDoor
/-
  The kind of a part: a method of an interface value, by the value's own type.
-/
namespace Go.Proofs.YtbmgkmnibjdpiaaGreatDoor
open Go.RowKit Go.Shelf
set_option linter.unusedVariables false
set_option linter.unusedSimpArgs false

theorem meth_nullPart (x : Value) (w : World) : (method 343 149 x "loop.example/g00407/impl.kind").run Tryz.prog w = .ok (192, x) w := by kernel_rfl
theorem calls_nullPart (args : Array Value) (w : World) : (callFunc 192 args).run Tryz.prog w = .ok (.enter 192 args) w := enters_of Tryz.func192 (by kernel_rfl) rfl args w
theorem meth_unknownPart (x : Value) (w : World) : (method 343 150 x "loop.example/g00407/impl.kind").run Tryz.prog w = .ok (193, x) w := by kernel_rfl
theorem calls_unknownPart (args : Array Value) (w : World) : (callFunc 193 args).run Tryz.prog w = .ok (.enter 193 args) w := enters_of Tryz.func193 (by kernel_rfl) rfl args w
theorem meth_boolPart (x : Value) (w : World) : (method 343 106 x "loop.example/g00407/impl.kind").run Tryz.prog w = .ok (187, x) w := by kernel_rfl
theorem calls_boolPart (args : Array Value) (w : World) : (callFunc 187 args).run Tryz.prog w = .ok (.enter 187 args) w := enters_of Tryz.func187 (by kernel_rfl) rfl args w
theorem meth_intPart (x : Value) (w : World) : (method 343 107 x "loop.example/g00407/impl.kind").run Tryz.prog w = .ok (188, x) w := by kernel_rfl
theorem calls_intPart (args : Array Value) (w : World) : (callFunc 188 args).run Tryz.prog w = .ok (.enter 188 args) w := enters_of Tryz.func188 (by kernel_rfl) rfl args w
theorem meth_textPart (x : Value) (w : World) : (method 343 109 x "loop.example/g00407/impl.kind").run Tryz.prog w = .ok (189, x) w := by kernel_rfl
theorem calls_textPart (args : Array Value) (w : World) : (callFunc 189 args).run Tryz.prog w = .ok (.enter 189 args) w := enters_of Tryz.func189 (by kernel_rfl) rfl args w
theorem meth_listPart (x : Value) (w : World) : (method 343 112 x "loop.example/g00407/impl.kind").run Tryz.prog w = .ok (190, x) w := by kernel_rfl
theorem calls_listPart (args : Array Value) (w : World) : (callFunc 190 args).run Tryz.prog w = .ok (.enter 190 args) w := enters_of Tryz.func190 (by kernel_rfl) rfl args w
theorem meth_mapPart (x : Value) (w : World) : (method 343 81 x "loop.example/g00407/impl.kind").run Tryz.prog w = .ok (186, x) w := by kernel_rfl
theorem calls_mapPart (args : Array Value) (w : World) : (callFunc 186 args).run Tryz.prog w = .ok (.enter 186 args) w := enters_of Tryz.func186 (by kernel_rfl) rfl args w

set_option maxHeartbeats 800000 in
theorem kind_nullPart (w : World) : Calls Tryz.prog 192 #[.agg #[]] w fun e w' => e = .returned (.int .i64 0) ∧ Below w.heap.size w w' := by
  have Hb : Hid (∀ o : Obj, Below w.heap.size w (w.alloc o)) := fun o => (Below.refl _ _).alloc (Nat.le_refl _) o
  go_enter Tryz.func192, Tryz.ntmps192
  go_wp2
  go_ret
  exact ⟨rfl, Hb.out _⟩
set_option maxHeartbeats 800000 in
theorem kind_unknownPart (w : World) : Calls Tryz.prog 193 #[.agg #[]] w fun e w' => e = .returned (.int .i64 6) ∧ Below w.heap.size w w' := by
  have Hb : Hid (∀ o : Obj, Below w.heap.size w (w.alloc o)) := fun o => (Below.refl _ _).alloc (Nat.le_refl _) o
  go_enter Tryz.func193, Tryz.ntmps193
  go_wp2
  go_ret
  exact ⟨rfl, Hb.out _⟩
set_option maxHeartbeats 800000 in
theorem kind_boolPart (n : Int) (w : World) : Calls Tryz.prog 187 #[.agg #[.int .i64 n]] w fun e w' => e = .returned (.int .i64 1) ∧ Below w.heap.size w w' := by
  have Hb : Hid (∀ o : Obj, Below w.heap.size w (w.alloc o)) := fun o => (Below.refl _ _).alloc (Nat.le_refl _) o
  go_enter Tryz.func187, Tryz.ntmps187
  go_wp2
  go_ret
  exact ⟨rfl, Hb.out _⟩
set_option maxHeartbeats 800000 in
theorem kind_intPart (n : Int) (w : World) : Calls Tryz.prog 188 #[.agg #[.int .i64 n]] w fun e w' => e = .returned (.int .i64 2) ∧ Below w.heap.size w w' := by
  have Hb : Hid (∀ o : Obj, Below w.heap.size w (w.alloc o)) := fun o => (Below.refl _ _).alloc (Nat.le_refl _) o
  go_enter Tryz.func188, Tryz.ntmps188
  go_wp2
  go_ret
  exact ⟨rfl, Hb.out _⟩
set_option maxHeartbeats 800000 in
theorem kind_textPart (s : ByteArray) (w : World) : Calls Tryz.prog 189 #[.agg #[.string s]] w fun e w' => e = .returned (.int .i64 3) ∧ Below w.heap.size w w' := by
  have Hb : Hid (∀ o : Obj, Below w.heap.size w (w.alloc o)) := fun o => (Below.refl _ _).alloc (Nat.le_refl _) o
  go_enter Tryz.func189, Tryz.ntmps189
  go_wp2
  go_ret
  exact ⟨rfl, Hb.out _⟩
set_option maxHeartbeats 800000 in
theorem kind_listPart (a : Option Addr) (n c : Nat) (w : World) : Calls Tryz.prog 190 #[.agg #[.slice a n c]] w fun e w' => e = .returned (.int .i64 4) ∧ Below w.heap.size w w' := by
  have Hb : Hid (∀ o : Obj, Below w.heap.size w (w.alloc o)) := fun o => (Below.refl _ _).alloc (Nat.le_refl _) o
  go_enter Tryz.func190, Tryz.ntmps190
  go_wp2
  go_ret
  exact ⟨rfl, Hb.out _⟩
set_option maxHeartbeats 800000 in
theorem kind_mapPart (b : Nat) (w : World) : Calls Tryz.prog 186 #[.agg #[.map (some b)]] w fun e w' => e = .returned (.int .i64 5) ∧ Below w.heap.size w w' := by
  have Hb : Hid (∀ o : Obj, Below w.heap.size w (w.alloc o)) := fun o => (Below.refl _ _).alloc (Nat.le_refl _) o
  go_enter Tryz.func186, Tryz.ntmps186
  go_wp2
  go_ret
  exact ⟨rfl, Hb.out _⟩

/-- What a call of kind leans on. -/
def KindOf (pt : TypeId) (px : Value) (vk : Int) : Prop := ∃ f : Nat, (∀ w, (method 343 pt px "loop.example/g00407/impl.kind").run Tryz.prog w = .ok (f, px) w) ∧ (∀ args w, (callFunc f args).run Tryz.prog w = .ok (.enter f args) w) ∧ ∀ w, Calls Tryz.prog f #[px] w fun e w' => e = .returned (.int .i64 vk) ∧ Below w.heap.size w w'

theorem kind_of {R : Nat → Prop} {w : World} {d : Nat} {pt : TypeId} {px : Value} {v : Vl (d + 1)} (h : PSeg R w (d + 1) (.iface pt px) v) : KindOf pt px v.1 := by
  rcases h with ⟨hk, e⟩ | ⟨hk, e⟩ | ⟨hk, e⟩ | ⟨hk, e⟩ | ⟨hk, e⟩ | ⟨hk, a, cap, e, _⟩ | ⟨hk, b, ps, e, _⟩ <;>
    simp only [Value.iface.injEq] at e <;> obtain ⟨rfl, rfl⟩ := e <;> rw [hk]
  · exact ⟨_, meth_nullPart _, calls_nullPart, kind_nullPart⟩
  · exact ⟨_, meth_unknownPart _, calls_unknownPart, kind_unknownPart⟩
  · exact ⟨_, meth_boolPart _, calls_boolPart, kind_boolPart _⟩
  · exact ⟨_, meth_intPart _, calls_intPart, kind_intPart _⟩
  · exact ⟨_, meth_textPart _, calls_textPart, kind_textPart _⟩
  · exact ⟨_, meth_listPart _, calls_listPart, kind_listPart _ _ _⟩
  · exact ⟨_, meth_mapPart _, calls_mapPart, kind_mapPart _⟩
end Go.Proofs.YtbmgkmnibjdpiaaGreatDoor
/-
  headOk, sideOf of the program.
-/
namespace Go.Proofs.YtbmgkmnibjdpiaaGreatDoor
open Go.RowKit Go.Shelf
set_option linter.unusedVariables false
set_option linter.unusedSimpArgs false

end Go.Proofs.YtbmgkmnibjdpiaaGreatDoor
/-
  Rows of texts as strings, of the call's own; 'append(names, s)'.
-/
namespace Go.Proofs.YtbmgkmnibjdpiaaGreatDoor
open Go.RowKit
set_option linter.unusedVariables false
set_option linter.unusedSimpArgs false

/-- Texts as cells of strings. -/
def strC (os : List (List Int)) : List Value := os.map fun xs => .string (strOf xs)
theorem strC_len (os : List (List Int)) : (strC os).length = os.length := by simp [strC]

theorem info9 : (Tryz.prog.info? 9).map (fun i => (i.zero, i.size, i.bytes)) = some (some (.string ⟨#[]⟩), 1, 16) := by kernel_rfl

/-- A row of the call's own that holds texts. -/
def SR (w : World) (base : Nat) (v : Value) (os : List (List Int)) : Prop := w.ownsRow base 9 1 v os.length (strC os)

theorem SR.shape {w : World} {base : Nat} {v : Value} {os : List (List Int)} (h : SR w base v os) : ∃ a cap, v = .slice a os.length cap := by
  obtain ⟨h2, h3⟩ := h
  rcases h3 with ⟨rfl, h0⟩ | ⟨g, cap, cur, rfl, _⟩
  · exact ⟨none, 0, by rw [h0]⟩
  · exact ⟨_, _, rfl⟩

theorem grown_on {w w1 w2 : World} {r r' : Option Nat} (h : w.grownBy w1 r) (k : w1.grownBy w2 r') (hr : ∀ j, r' = some j → r = some j ∨ w.heap.size ≤ j) : w.grownBy w2 r :=
  ⟨k.os.trans h.os, k.tape.trans h.tape, k.output.trans h.output, Nat.le_trans h.size k.size, fun i hi hne => (k.block i (Nat.lt_of_lt_of_le hi h.size) (fun e => by
    rcases hr i e.symm with h1 | h1
    · exact hne h1.symm
    · omega)).trans (h.block i hi hne)⟩

theorem loc_alloc {w : World} {o : Obj} {r r' : Option Nat} (h : ∀ g, r' = some g → r = some g ∨ (w.alloc o).heap.size ≤ g) : ∀ g, r' = some g → r = some g ∨ w.heap.size ≤ g := fun g hg => by
  rcases h g hg with k | k
  · exact .inl k
  · exact .inr (by simp at k; omega)

/-- 'append(names, s)'. -/
theorem wpList_SR_add {w : World} {ops : Array Oper} {rest : List Oper} {o : Oper} {a : Act} {Q : Exit → Act → World → Prop} (hgd : o.guard = none) (s x : Operand)
    (ho : o.op = .call { callee := .builtin .append, args := #[s, x], argTypes := #[82, 82] }) (base : Nat) (v : Value) (os : List (List Int)) (xs : List Int) (hs : a.eval s = v) (hR : SR w base v os)
    (q : Nat) (hq : w.heap.size = q) (hx : a.eval x = .slice (some ⟨q, 0, none⟩) 1 1) (n : Nat) (hn : os.length = n) (hlen : n ≤ 100000) (hbase : base ≤ w.heap.size)
    (h : ∀ a' c' w', SR w' base (.slice a' (n + 1) c') (os ++ [xs]) → w.grownBy w' v.ownBlock → (∀ g, (Value.slice a' (n + 1) c').ownBlock = some g → v.ownBlock = some g ∨ w.heap.size ≤ g) → wpList Tryz.prog ops Q rest (a.put o.dst (.slice a' (n + 1) c')) w') : wpList Tryz.prog ops Q (o :: rest) a (w.alloc (.cells #[.string (strOf xs)] 9)) := by
  subst hq
  obtain ⟨i9, hi9, hy0, hy1, hy2⟩ := info_parts info9
  have hown := World.ownsRow.alloc hR (.cells #[.string (strOf xs)] 9)
  refine wpList_append_own_at (w := w.alloc (.cells #[.string (strOf xs)] 9)) hgd s x 82 ho base 9 i9 (.string ⟨#[]⟩) 1 16 Tryz.underlying82 hi9 hy0 hy1 hy2 rfl (by decide) v os.length (strC os) hs hown ⟨w.heap.size, 0, none⟩ 1 1 [.string (strOf xs)] hx rfl (cell_one_new _ _ _) (by intro z hz; simp at hz; rw [hz]; rfl) (by unfold maxLen; omega) (by omega) (by simp; omega) ?_
  intro v' w' ho' hg' _ hloc
  have k1 : SR w' base v' (os ++ [xs]) := by
    show w'.ownsRow base 9 1 v' (os ++ [xs]).length (strC (os ++ [xs]))
    have e1 : strC (os ++ [xs]) = strC os ++ [.string (strOf xs)] := by simp [strC]
    rw [e1, List.length_append, List.length_singleton]
    exact ho'
  obtain ⟨a', c', e⟩ := k1.shape
  rw [List.length_append, List.length_singleton, hn] at e
  subst e
  refine h a' c' w' k1 (grownBy_trans (World.grownBy_alloc w _ _) hg') fun g hg => ?_
  rcases hloc with e2 | e2
  · exact .inl (e2.symm.trans hg)
  · rw [e2] at hg
    simp at hg
    exact .inr (by omega)
end Go.Proofs.YtbmgkmnibjdpiaaGreatDoor
/-
  sort.Slice as the program's fields calls it: at fields (a key, a part), by the keys.
-/
namespace Go.Proofs.YtbmgkmnibjdpiaaGreatDoor
open Go.Shelf Go.RowKit Go.Lib Go.Sort
set_option linter.unusedVariables false
set_option linter.unusedSimpArgs false

/-- A field: its key's bytes, its part's type and what that holds. -/
def encF (x : List UInt8 × (TypeId × Value)) : List Value := [.string ⟨x.1.toArray⟩, .iface x.2.1 x.2.2]
/-- One field is ahead of another one. -/
def ltF (x y : List UInt8 × (TypeId × Value)) : Bool := Op.bytesLess x.1 y.1

theorem less_irrefl : ∀ a : List UInt8, Op.bytesLess a a = false
  | [] => rfl
  | x :: a => by
    have ih := less_irrefl a
    have h : ¬ x < x := UInt8.lt_irrefl x
    simp [Op.bytesLess, ih, h]

theorem less_trans : ∀ a b c : List UInt8, Op.bytesLess a b = true → Op.bytesLess b c = true → Op.bytesLess a c = true
  | [], b, [], _, h2 => by cases b <;> simp [Op.bytesLess] at h2
  | [], _, _ :: _, _, _ => rfl
  | _ :: _, [], _, h1, _ => by simp [Op.bytesLess] at h1
  | _ :: _, _ :: _, [], _, h2 => by simp [Op.bytesLess] at h2
  | x :: a, y :: b, z :: c, h1, h2 => by
    have ih := less_trans a b c
    simp only [Op.bytesLess, Bool.or_eq_true, decide_eq_true_eq, Bool.and_eq_true, beq_iff_eq] at h1 h2 ⊢
    rcases h1 with h1 | ⟨rfl, h1⟩
    · rcases h2 with h2 | ⟨rfl, h2⟩
      · exact .inl (UInt8.lt_trans h1 h2)
      · exact .inl h1
    · rcases h2 with h2 | ⟨rfl, h2⟩
      · exact .inl h2
      · exact .inr ⟨rfl, ih h1 h2⟩

theorem less_total : ∀ a b : List UInt8, Op.bytesLess a b = false → Op.bytesLess b a = false → a = b
  | [], [], _, _ => rfl
  | [], _ :: _, h, _ => by simp [Op.bytesLess] at h
  | _ :: _, [], _, h => by simp [Op.bytesLess] at h
  | x :: a, y :: b, h1, h2 => by
    have ih := less_total a b
    simp only [Op.bytesLess, Bool.or_eq_false_iff, decide_eq_false_iff_not, Bool.and_eq_false_iff, beq_eq_false_iff_ne] at h1 h2
    have e : x = y := UInt8.le_antisymm (UInt8.not_lt.1 h2.1) (UInt8.not_lt.1 h1.1)
    subst e
    rw [ih (h1.2.resolve_left (fun h => h rfl)) (h2.2.resolve_left (fun h => h rfl))]

theorem swo_ltF : SWO ltF where
  irrefl x := less_irrefl x.1
  trans x y z h1 h2 := less_trans x.1 y.1 z.1 h1 h2
  ntrans x y z h1 h2 := by
    show Op.bytesLess x.1 z.1 = false
    cases h : Op.bytesLess x.1 z.1 with
    | false => rfl
    | true =>
      have h1' : Op.bytesLess x.1 y.1 = false := h1
      have h2' : Op.bytesLess y.1 z.1 = false := h2
      cases h3 : Op.bytesLess y.1 x.1 with
      | true => rw [less_trans _ _ _ h3 h] at h2'; simp at h2'
      | false =>
        have e := less_total _ _ h1' h3
        rw [e] at h
        rw [h] at h2'
        simp at h2'

set_option maxHeartbeats 2000000 in
/-- The closure of fields. -/
theorem fields_less (blk off c Bs size : Nat) (W : World) (G : Nat → List UInt8) (hs : W.cell? ⟨Bs, 0, none⟩ = some (.slice (some ⟨blk, off, none⟩) size c))
    (hc : ∀ t, t < size → W.cell? ⟨blk, off + t * 2, none⟩ = some (.string ⟨(G t).toArray⟩)) (i j : Nat) (hi : i < size) (hj : j < size) (_hsz : size < 4611686018427387904) :
    Calls Tryz.prog 75 #[.int .i64 i, .int .i64 j, .pointer (some ⟨Bs, 0, none⟩)] W fun e w' => e = .returned (.bool (Op.bytesLess (G i) (G j))) ∧ ∃ q, w' = W.drewN q := by
  have ci := hc i hi
  have cj := hc j hj
  have hi' : (i : Int) < (size : Int) := by omega
  have hj' : (j : Int) < (size : Int) := by omega
  go_enter Tryz.func75, Tryz.ntmps75
  go_wp2
  go_quiet (fail)
  go_wp2
  go_ret
  exact ⟨ret_bool (by simp [ByteArray.toList_mk]), nq, rfl⟩
end Go.Proofs.YtbmgkmnibjdpiaaGreatDoor
