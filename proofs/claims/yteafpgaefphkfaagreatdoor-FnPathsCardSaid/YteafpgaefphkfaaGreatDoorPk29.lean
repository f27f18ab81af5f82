/-
  Texts that a law leans on, one behind the other; no statement is proved here.
-/
import Derived.Test.YteafpgaefphkfaaGreatDoorPk25
/-
  take of the program at every value; partOf, ValOk of the program.
-/
namespace Go.Proofs.YteafpgaefphkfaaGreatDoor
open Go.RowKit
set_option linter.unusedVariables false
set_option linter.unusedSimpArgs false

/-- What take has done ahead of the kinds. -/
def Ahead (w : World) (q n : Nat) (vk vn : Int) (a2 a3 a4 : Option Addr) (l2 l3 l4 p2 p3 p4 : Nat) (w2 : World) : Prop :=
  w.grownBy w2 (some q) ∧ Cnt w2 q (n + 1) ∧ w2.heap[w.heap.size]? = some (.cells #[.int .i64 vk, .int .i64 vn, .slice a2 l2 p2, .slice a3 l3 p3, .slice a4 l4 p4] 29 (0, 0))

theorem ahead_of {w : World} {q n : Nat} {vk vn : Int} {a2 a3 a4 : Option Addr} {l2 l3 l4 p2 p3 p4 : Nat} {w2 : World} {x : Int} (hx : x = (n : Int) + 1) (hq : q < w.heap.size) (hc : Cnt w q n)
    (hb : Below ((w.setCell ⟨q, 0, none⟩ (.int .i64 x)).alloc (.cells #[.int .i64 vk, .int .i64 vn, .slice a2 l2 p2, .slice a3 l3 p3, .slice a4 l4 p4] 29)).heap.size ((w.setCell ⟨q, 0, none⟩ (.int .i64 x)).alloc (.cells #[.int .i64 vk, .int .i64 vn, .slice a2 l2 p2, .slice a3 l3 p3, .slice a4 l4 p4] 29)) w2) :
    Ahead w q n vk vn a2 a3 a4 l2 l3 l4 p2 p3 p4 w2 := by
  subst hx
  have hg := grown1 w q 0 (.int .i64 ((n : Int) + 1))
  have hcs : Cnt (w.setCell ⟨q, 0, none⟩ (.int .i64 ((n : Int) + 1))) q (n + 1) := hc.set (n + 1)
  have hsz : (w.setCell ⟨q, 0, none⟩ (.int .i64 ((n : Int) + 1))).heap.size = w.heap.size := by simp [World.setCell]
  have hal := World.grownBy_alloc (w.setCell ⟨q, 0, none⟩ (.int .i64 ((n : Int) + 1))) (.cells #[.int .i64 vk, .int .i64 vn, .slice a2 l2 p2, .slice a3 l3 p3, .slice a4 l4 p4] 29) none
  have hb2 := below_grown hb none
  have hnew := (MapKept.heap_alloc (w.setCell ⟨q, 0, none⟩ (.int .i64 ((n : Int) + 1))) (.cells #[.int .i64 vk, .int .i64 vn, .slice a2 l2 p2, .slice a3 l3 p3, .slice a4 l4 p4] 29)).1
  rw [hsz] at hnew
  refine ⟨grownBy_fresh (grownBy_fresh hg hal (by simp)) hb2 (by simp), (hcs.keep hal (by simp)).keep hb2 (by simp), (hb2.block w.heap.size (by simp [hsz]) (by simp)).trans hnew⟩

set_option maxHeartbeats 4000000 in
set_option maxRecDepth 100000 in
theorem take_over (q n : Nat) (vk vn : Int) (a2 a3 a4 : Option Addr) (l2 l3 l4 p2 p3 p4 : Nat) (deep : Nat) (w : World) (hq : q < w.heap.size) (hc : Cnt w q n) (hn : n = 40) :
    Calls Tryz.prog 41 #[.pointer (some ⟨q, 0, none⟩), .agg #[.int .i64 vk, .int .i64 vn, .slice a2 l2 p2, .slice a3 l3 p3, .slice a4 l4 p4], .int .i64 deep] w fun e w' => w.grownBy w' (some q) ∧ e = .returned (.tuple #[.nilIface, .bool false]) := by
  subst hn
  have HA : Hid (Cnt w q 40) := hc
  obtain ⟨hc0, hf0⟩ := hc.cell
  have hne : q ≠ w.heap.size := by omega
  clear hc
  go_enter Tryz.func41, Tryz.ntmps41
  go_wp2
  go_ret2
  exact ⟨(ahead_of (n := 40) rfl hq HA.out (Below.refl _ _)).1, rfl⟩

set_option maxHeartbeats 4000000 in
set_option maxRecDepth 100000 in
theorem take_deep (q n : Nat) (vk vn : Int) (l2 l3 l4 : Nat) (a2 a3 a4 : Option Addr) (p2 p3 p4 : Nat) (deep : Nat) (w : World) (hq : q < w.heap.size) (hc : Cnt w q n) (hn : n < 40) (hd : 5 < deep) :
    Calls Tryz.prog 41 #[.pointer (some ⟨q, 0, none⟩), .agg #[.int .i64 vk, .int .i64 vn, .slice a2 l2 p2, .slice a3 l3 p3, .slice a4 l4 p4], .int .i64 deep] w fun e w' => Ahead w q n vk vn a2 a3 a4 l2 l3 l4 p2 p3 p4 w' ∧ e = .returned (.tuple #[.nilIface, .bool false]) := by
  have HA : Hid (Cnt w q n) := hc
  obtain ⟨hc0, hf0⟩ := hc.cell
  have hne : q ≠ w.heap.size := by omega
  have hnn : ¬ (40 : Int) < (n : Int) + 1 := by omega
  have hdd : (5 : Int) < (deep : Int) := by omega
  clear hc
  go_enter Tryz.func41, Tryz.ntmps41
  go_wp2
  go_ret2
  exact ⟨ahead_of rfl hq HA.out (Below.refl _ _), rfl⟩

set_option maxHeartbeats 4000000 in
set_option maxRecDepth 100000 in
theorem take_bare (q n : Nat) (vk vn : Int) (l2 l3 l4 : Nat) (a2 a3 a4 : Option Addr) (p2 p3 p4 : Nat) (deep : Nat) (w : World) (hq : q < w.heap.size) (hc : Cnt w q n) (hn : n < 40) (hd : deep ≤ 5) (hb : bareB vk vn l2 l3 l4 = false) :
    Calls Tryz.prog 41 #[.pointer (some ⟨q, 0, none⟩), .agg #[.int .i64 vk, .int .i64 vn, .slice a2 l2 p2, .slice a3 l3 p3, .slice a4 l4 p4], .int .i64 deep] w fun e w' => Ahead w q n vk vn a2 a3 a4 l2 l3 l4 p2 p3 p4 w' ∧ e = .returned (.tuple #[.nilIface, .bool false]) := by
  have HA : Hid (Cnt w q n) := hc
  obtain ⟨hc0, hf0⟩ := hc.cell
  have hne : q ≠ w.heap.size := by omega
  have hnn : ¬ (40 : Int) < (n : Int) + 1 := by omega
  have hdd : ¬ (5 : Int) < (deep : Int) := by omega
  clear hc
  go_enter Tryz.func41, Tryz.ntmps41
  go_wp2_with fail
  refine (impl_bare_any _ _ _ _ _ _ _ _ _ _ _ _).mono ?_
  rintro e w2 ⟨rfl, b2⟩
  have hA := ahead_of rfl hq HA.out b2
  rw [hb]
  obtain ⟨y0, y1, y2, y3, y4, _⟩ := row5 hA.2.2
  have HAh := hide' hA
  clear b2 hA
  go_wp2
  go_ret2
  exact ⟨HAh.out, rfl⟩

set_option maxHeartbeats 4000000 in
set_option maxRecDepth 100000 in
theorem take_null (q n : Nat) (a2 a3 a4 : Option Addr) (p2 p3 p4 : Nat) (deep : Nat) (w : World) (hq : q < w.heap.size) (hc : Cnt w q n) (hn : n < 40) (hd : deep ≤ 5) :
    Calls Tryz.prog 41 #[.pointer (some ⟨q, 0, none⟩), .agg #[.int .i64 0, .int .i64 0, .slice a2 0 p2, .slice a3 0 p3, .slice a4 0 p4], .int .i64 deep] w fun e w' => Ahead w q n 0 0 a2 a3 a4 0 0 0 p2 p3 p4 w' ∧ e = .returned (.tuple #[.iface 103 (.agg #[]), .bool true]) := by
  have HA : Hid (Cnt w q n) := hc
  obtain ⟨hc0, hf0⟩ := hc.cell
  have hne : q ≠ w.heap.size := by omega
  have hnn : ¬ (40 : Int) < (n : Int) + 1 := by omega
  have hdd : ¬ (5 : Int) < (deep : Int) := by omega
  clear hc
  go_enter Tryz.func41, Tryz.ntmps41
  go_wp2_with fail
  refine (impl_bare_any _ _ _ _ _ _ _ _ _ _ _ _).mono ?_
  rintro e w2 ⟨rfl, b2⟩
  have hA := ahead_of rfl hq HA.out b2
  rw [show bareB 0 0 0 0 0 = true from by simp [bareB, *]]
  obtain ⟨y0, y1, y2, y3, y4, _⟩ := row5 hA.2.2
  have HAh := hide' hA
  clear b2 hA
  go_wp2
  go_ret2
  exact ⟨HAh.out, rfl⟩

set_option maxHeartbeats 4000000 in
set_option maxRecDepth 100000 in
theorem take_unknown (q n : Nat) (a2 a3 a4 : Option Addr) (p2 p3 p4 : Nat) (deep : Nat) (w : World) (hq : q < w.heap.size) (hc : Cnt w q n) (hn : n < 40) (hd : deep ≤ 5) :
    Calls Tryz.prog 41 #[.pointer (some ⟨q, 0, none⟩), .agg #[.int .i64 6, .int .i64 0, .slice a2 0 p2, .slice a3 0 p3, .slice a4 0 p4], .int .i64 deep] w fun e w' => Ahead w q n 6 0 a2 a3 a4 0 0 0 p2 p3 p4 w' ∧ e = .returned (.tuple #[.iface 104 (.agg #[]), .bool true]) := by
  have HA : Hid (Cnt w q n) := hc
  obtain ⟨hc0, hf0⟩ := hc.cell
  have hne : q ≠ w.heap.size := by omega
  have hnn : ¬ (40 : Int) < (n : Int) + 1 := by omega
  have hdd : ¬ (5 : Int) < (deep : Int) := by omega
  clear hc
  go_enter Tryz.func41, Tryz.ntmps41
  go_wp2_with fail
  refine (impl_bare_any _ _ _ _ _ _ _ _ _ _ _ _).mono ?_
  rintro e w2 ⟨rfl, b2⟩
  have hA := ahead_of rfl hq HA.out b2
  rw [show bareB 6 0 0 0 0 = true from by simp [bareB, *]]
  obtain ⟨y0, y1, y2, y3, y4, _⟩ := row5 hA.2.2
  have HAh := hide' hA
  clear b2 hA
  go_wp2
  go_ret2
  exact ⟨HAh.out, rfl⟩

set_option maxHeartbeats 4000000 in
set_option maxRecDepth 100000 in
theorem take_bool0 (q n : Nat) (a2 a3 a4 : Option Addr) (p2 p3 p4 : Nat) (deep : Nat) (w : World) (hq : q < w.heap.size) (hc : Cnt w q n) (hn : n < 40) (hd : deep ≤ 5) :
    Calls Tryz.prog 41 #[.pointer (some ⟨q, 0, none⟩), .agg #[.int .i64 1, .int .i64 0, .slice a2 0 p2, .slice a3 0 p3, .slice a4 0 p4], .int .i64 deep] w fun e w' => Ahead w q n 1 0 a2 a3 a4 0 0 0 p2 p3 p4 w' ∧ e = .returned (.tuple #[.iface 84 (.agg #[.int .i64 0]), .bool true]) := by
  have HA : Hid (Cnt w q n) := hc
  obtain ⟨hc0, hf0⟩ := hc.cell
  have hne : q ≠ w.heap.size := by omega
  have hnn : ¬ (40 : Int) < (n : Int) + 1 := by omega
  have hdd : ¬ (5 : Int) < (deep : Int) := by omega
  clear hc
  go_enter Tryz.func41, Tryz.ntmps41
  go_wp2_with fail
  refine (impl_bare_any _ _ _ _ _ _ _ _ _ _ _ _).mono ?_
  rintro e w2 ⟨rfl, b2⟩
  have hA := ahead_of rfl hq HA.out b2
  rw [show bareB 1 0 0 0 0 = true from by simp [bareB, *]]
  obtain ⟨y0, y1, y2, y3, y4, _⟩ := row5 hA.2.2
  have HAh := hide' hA
  clear b2 hA
  go_wp2
  go_ret2
  exact ⟨HAh.out, rfl⟩

set_option maxHeartbeats 4000000 in
set_option maxRecDepth 100000 in
theorem take_bool1 (q n : Nat) (a2 a3 a4 : Option Addr) (p2 p3 p4 : Nat) (deep : Nat) (w : World) (hq : q < w.heap.size) (hc : Cnt w q n) (hn : n < 40) (hd : deep ≤ 5) :
    Calls Tryz.prog 41 #[.pointer (some ⟨q, 0, none⟩), .agg #[.int .i64 1, .int .i64 1, .slice a2 0 p2, .slice a3 0 p3, .slice a4 0 p4], .int .i64 deep] w fun e w' => Ahead w q n 1 1 a2 a3 a4 0 0 0 p2 p3 p4 w' ∧ e = .returned (.tuple #[.iface 84 (.agg #[.int .i64 1]), .bool true]) := by
  have HA : Hid (Cnt w q n) := hc
  obtain ⟨hc0, hf0⟩ := hc.cell
  have hne : q ≠ w.heap.size := by omega
  have hnn : ¬ (40 : Int) < (n : Int) + 1 := by omega
  have hdd : ¬ (5 : Int) < (deep : Int) := by omega
  clear hc
  go_enter Tryz.func41, Tryz.ntmps41
  go_wp2_with fail
  refine (impl_bare_any _ _ _ _ _ _ _ _ _ _ _ _).mono ?_
  rintro e w2 ⟨rfl, b2⟩
  have hA := ahead_of rfl hq HA.out b2
  rw [show bareB 1 1 0 0 0 = true from by simp [bareB, *]]
  obtain ⟨y0, y1, y2, y3, y4, _⟩ := row5 hA.2.2
  have HAh := hide' hA
  clear b2 hA
  go_wp2
  go_ret2
  exact ⟨HAh.out, rfl⟩

set_option maxHeartbeats 4000000 in
set_option maxRecDepth 100000 in
theorem take_boolno (q n : Nat) (vn : Int) (v0 : ¬ vn = 0) (v1 : ¬ vn = 1) (a2 a3 a4 : Option Addr) (p2 p3 p4 : Nat) (deep : Nat) (w : World) (hq : q < w.heap.size) (hc : Cnt w q n) (hn : n < 40) (hd : deep ≤ 5) :
    Calls Tryz.prog 41 #[.pointer (some ⟨q, 0, none⟩), .agg #[.int .i64 1, .int .i64 vn, .slice a2 0 p2, .slice a3 0 p3, .slice a4 0 p4], .int .i64 deep] w fun e w' => Ahead w q n 1 vn a2 a3 a4 0 0 0 p2 p3 p4 w' ∧ e = .returned (.tuple #[.nilIface, .bool false]) := by
  have HA : Hid (Cnt w q n) := hc
  obtain ⟨hc0, hf0⟩ := hc.cell
  have hne : q ≠ w.heap.size := by omega
  have hnn : ¬ (40 : Int) < (n : Int) + 1 := by omega
  have hdd : ¬ (5 : Int) < (deep : Int) := by omega
  have b0 : (vn == 0) = false := by simp [v0]
  have b1 : (vn == 1) = false := by simp [v1]
  clear hc
  go_enter Tryz.func41, Tryz.ntmps41
  go_wp2_with fail
  refine (impl_bare_any _ _ _ _ _ _ _ _ _ _ _ _).mono ?_
  rintro e w2 ⟨rfl, b2⟩
  have hA := ahead_of rfl hq HA.out b2
  rw [show bareB 1 vn 0 0 0 = true from by simp [bareB, *]]
  obtain ⟨y0, y1, y2, y3, y4, _⟩ := row5 hA.2.2
  have HAh := hide' hA
  clear b2 hA
  go_wp2
  go_ret2
  exact ⟨HAh.out, rfl⟩

set_option maxHeartbeats 4000000 in
set_option maxRecDepth 100000 in
theorem take_int (q n : Nat) (vn : Int) (v0 : -1000000000000 ≤ vn) (v1 : vn ≤ 1000000000000) (a2 a3 a4 : Option Addr) (p2 p3 p4 : Nat) (deep : Nat) (w : World) (hq : q < w.heap.size) (hc : Cnt w q n) (hn : n < 40) (hd : deep ≤ 5) :
    Calls Tryz.prog 41 #[.pointer (some ⟨q, 0, none⟩), .agg #[.int .i64 2, .int .i64 vn, .slice a2 0 p2, .slice a3 0 p3, .slice a4 0 p4], .int .i64 deep] w fun e w' => Ahead w q n 2 vn a2 a3 a4 0 0 0 p2 p3 p4 w' ∧ e = .returned (.tuple #[.iface 85 (.agg #[.int .i64 vn]), .bool true]) := by
  have HA : Hid (Cnt w q n) := hc
  obtain ⟨hc0, hf0⟩ := hc.cell
  have hne : q ≠ w.heap.size := by omega
  have hnn : ¬ (40 : Int) < (n : Int) + 1 := by omega
  have hdd : ¬ (5 : Int) < (deep : Int) := by omega
  clear hc
  go_enter Tryz.func41, Tryz.ntmps41
  go_wp2_with fail
  refine (impl_bare_any _ _ _ _ _ _ _ _ _ _ _ _).mono ?_
  rintro e w2 ⟨rfl, b2⟩
  have hA := ahead_of rfl hq HA.out b2
  rw [show bareB 2 vn 0 0 0 = true from by simp [bareB, *]]
  obtain ⟨y0, y1, y2, y3, y4, _⟩ := row5 hA.2.2
  have HAh := hide' hA
  clear b2 hA
  go_wp2
  go_ret2
  exact ⟨HAh.out, rfl⟩

set_option maxHeartbeats 4000000 in
set_option maxRecDepth 100000 in
theorem take_intlow (q n : Nat) (vn : Int) (v0 : ¬ -1000000000000 ≤ vn) (a2 a3 a4 : Option Addr) (p2 p3 p4 : Nat) (deep : Nat) (w : World) (hq : q < w.heap.size) (hc : Cnt w q n) (hn : n < 40) (hd : deep ≤ 5) :
    Calls Tryz.prog 41 #[.pointer (some ⟨q, 0, none⟩), .agg #[.int .i64 2, .int .i64 vn, .slice a2 0 p2, .slice a3 0 p3, .slice a4 0 p4], .int .i64 deep] w fun e w' => Ahead w q n 2 vn a2 a3 a4 0 0 0 p2 p3 p4 w' ∧ e = .returned (.tuple #[.nilIface, .bool false]) := by
  have HA : Hid (Cnt w q n) := hc
  obtain ⟨hc0, hf0⟩ := hc.cell
  have hne : q ≠ w.heap.size := by omega
  have hnn : ¬ (40 : Int) < (n : Int) + 1 := by omega
  have hdd : ¬ (5 : Int) < (deep : Int) := by omega
  clear hc
  go_enter Tryz.func41, Tryz.ntmps41
  go_wp2_with fail
  refine (impl_bare_any _ _ _ _ _ _ _ _ _ _ _ _).mono ?_
  rintro e w2 ⟨rfl, b2⟩
  have hA := ahead_of rfl hq HA.out b2
  rw [show bareB 2 vn 0 0 0 = true from by simp [bareB, *]]
  obtain ⟨y0, y1, y2, y3, y4, _⟩ := row5 hA.2.2
  have HAh := hide' hA
  clear b2 hA
  go_wp2
  go_ret2
  exact ⟨HAh.out, rfl⟩

set_option maxHeartbeats 4000000 in
set_option maxRecDepth 100000 in
theorem take_inthigh (q n : Nat) (vn : Int) (v0 : -1000000000000 ≤ vn) (v1 : ¬ vn ≤ 1000000000000) (a2 a3 a4 : Option Addr) (p2 p3 p4 : Nat) (deep : Nat) (w : World) (hq : q < w.heap.size) (hc : Cnt w q n) (hn : n < 40) (hd : deep ≤ 5) :
    Calls Tryz.prog 41 #[.pointer (some ⟨q, 0, none⟩), .agg #[.int .i64 2, .int .i64 vn, .slice a2 0 p2, .slice a3 0 p3, .slice a4 0 p4], .int .i64 deep] w fun e w' => Ahead w q n 2 vn a2 a3 a4 0 0 0 p2 p3 p4 w' ∧ e = .returned (.tuple #[.nilIface, .bool false]) := by
  have HA : Hid (Cnt w q n) := hc
  obtain ⟨hc0, hf0⟩ := hc.cell
  have hne : q ≠ w.heap.size := by omega
  have hnn : ¬ (40 : Int) < (n : Int) + 1 := by omega
  have hdd : ¬ (5 : Int) < (deep : Int) := by omega
  clear hc
  go_enter Tryz.func41, Tryz.ntmps41
  go_wp2_with fail
  refine (impl_bare_any _ _ _ _ _ _ _ _ _ _ _ _).mono ?_
  rintro e w2 ⟨rfl, b2⟩
  have hA := ahead_of rfl hq HA.out b2
  rw [show bareB 2 vn 0 0 0 = true from by simp [bareB, *]]
  obtain ⟨y0, y1, y2, y3, y4, _⟩ := row5 hA.2.2
  have HAh := hide' hA
  clear b2 hA
  go_wp2
  go_ret2
  exact ⟨HAh.out, rfl⟩

set_option maxHeartbeats 4000000 in
set_option maxRecDepth 100000 in
theorem take_none (q n : Nat) (vk : Int) (k0 : ¬ vk = 0) (k1 : ¬ vk = 1) (k2 : ¬ vk = 2) (k3 : ¬ vk = 3) (k4 : ¬ vk = 4) (k5 : ¬ vk = 5) (k6 : ¬ vk = 6) (a2 a3 a4 : Option Addr) (p2 p3 p4 : Nat) (deep : Nat) (w : World) (hq : q < w.heap.size) (hc : Cnt w q n) (hn : n < 40) (hd : deep ≤ 5) :
    Calls Tryz.prog 41 #[.pointer (some ⟨q, 0, none⟩), .agg #[.int .i64 vk, .int .i64 0, .slice a2 0 p2, .slice a3 0 p3, .slice a4 0 p4], .int .i64 deep] w fun e w' => Ahead w q n vk 0 a2 a3 a4 0 0 0 p2 p3 p4 w' ∧ e = .returned (.tuple #[.nilIface, .bool false]) := by
  have HA : Hid (Cnt w q n) := hc
  obtain ⟨hc0, hf0⟩ := hc.cell
  have hne : q ≠ w.heap.size := by omega
  have hnn : ¬ (40 : Int) < (n : Int) + 1 := by omega
  have hdd : ¬ (5 : Int) < (deep : Int) := by omega
  clear hc
  go_enter Tryz.func41, Tryz.ntmps41
  go_wp2_with fail
  refine (impl_bare_any _ _ _ _ _ _ _ _ _ _ _ _).mono ?_
  rintro e w2 ⟨rfl, b2⟩
  have hA := ahead_of rfl hq HA.out b2
  rw [show bareB vk 0 0 0 0 = true from by simp [bareB, *]]
  obtain ⟨y0, y1, y2, y3, y4, _⟩ := row5 hA.2.2
  have HAh := hide' hA
  clear b2 hA
  go_wp2
  go_ret2
  exact ⟨HAh.out, rfl⟩

set_option maxHeartbeats 4000000 in
set_option maxRecDepth 100000 in
theorem take_text (q n : Nat) (N : Nat) (vs : List Int) (hNq : N ≤ q) (a2 a3 a4 : Option Addr) (p2 p3 p4 : Nat) (deep : Nat) (w : World) (hq : q < w.heap.size) (hc : Cnt w q n) (hn : n < 40) (hd : deep ≤ 5) (hs : TSeg (fun b => b < N) w (.slice a2 vs.length p2) vs) (htb : textB vs = true) :
    Calls Tryz.prog 41 #[.pointer (some ⟨q, 0, none⟩), .agg #[.int .i64 3, .int .i64 0, .slice a2 vs.length p2, .slice a3 0 p3, .slice a4 0 p4], .int .i64 deep] w fun e w' => Ahead w q n 3 0 a2 a3 a4 vs.length 0 0 p2 p3 p4 w' ∧ e = .returned (.tuple #[.iface 87 (.agg #[.string (strOf vs)]), .bool true]) := by
  have HA : Hid (Cnt w q n) := hc
  obtain ⟨hc0, hf0⟩ := hc.cell
  have hne : q ≠ w.heap.size := by omega
  have hnn : ¬ (40 : Int) < (n : Int) + 1 := by omega
  have hdd : ¬ (5 : Int) < (deep : Int) := by omega
  clear hc
  go_enter Tryz.func41, Tryz.ntmps41
  go_wp2_with fail
  refine (impl_bare_any _ _ _ _ _ _ _ _ _ _ _ _).mono ?_
  rintro e w2 ⟨rfl, b2⟩
  have hA := ahead_of rfl hq HA.out b2
  rw [show bareB 3 0 vs.length 0 0 = true from by simp [bareB, *]]
  obtain ⟨y0, y1, y2, y3, y4, _⟩ := row5 hA.2.2
  have HAh := hide' hA
  have hS : TSeg (fun b => b < N) w2 (.slice a2 vs.length p2) vs := hs.agree (agree_grown hA.1 hNq hq)
  obtain ⟨a', c', e', s', l', m', _, _⟩ := hS
  simp only [Value.slice.injEq, true_and] at e'
  obtain ⟨rfl, rfl⟩ := e'
  have hcv := conv_seg p2 s'
  have HT := hide' (impl_textOk_any a2 p2 vs w2 s' (by omega))
  rw [htb] at HT
  clear b2 hA s' hs
  go_wp2_with fail
  refine HT.out.mono ?_
  rintro e w3 ⟨rfl, e3⟩
  obtain rfl := e3
  go_wp2
  go_ret2
  exact ⟨HAh.out, rfl⟩

set_option maxHeartbeats 4000000 in
set_option maxRecDepth 100000 in
theorem take_textno (q n : Nat) (N : Nat) (vs : List Int) (hNq : N ≤ q) (a2 a3 a4 : Option Addr) (p2 p3 p4 : Nat) (deep : Nat) (w : World) (hq : q < w.heap.size) (hc : Cnt w q n) (hn : n < 40) (hd : deep ≤ 5) (hs : TSeg (fun b => b < N) w (.slice a2 vs.length p2) vs) (htb : textB vs = false) :
    Calls Tryz.prog 41 #[.pointer (some ⟨q, 0, none⟩), .agg #[.int .i64 3, .int .i64 0, .slice a2 vs.length p2, .slice a3 0 p3, .slice a4 0 p4], .int .i64 deep] w fun e w' => Ahead w q n 3 0 a2 a3 a4 vs.length 0 0 p2 p3 p4 w' ∧ e = .returned (.tuple #[.nilIface, .bool false]) := by
  have HA : Hid (Cnt w q n) := hc
  obtain ⟨hc0, hf0⟩ := hc.cell
  have hne : q ≠ w.heap.size := by omega
  have hnn : ¬ (40 : Int) < (n : Int) + 1 := by omega
  have hdd : ¬ (5 : Int) < (deep : Int) := by omega
  clear hc
  go_enter Tryz.func41, Tryz.ntmps41
  go_wp2_with fail
  refine (impl_bare_any _ _ _ _ _ _ _ _ _ _ _ _).mono ?_
  rintro e w2 ⟨rfl, b2⟩
  have hA := ahead_of rfl hq HA.out b2
  rw [show bareB 3 0 vs.length 0 0 = true from by simp [bareB, *]]
  obtain ⟨y0, y1, y2, y3, y4, _⟩ := row5 hA.2.2
  have HAh := hide' hA
  have hS : TSeg (fun b => b < N) w2 (.slice a2 vs.length p2) vs := hs.agree (agree_grown hA.1 hNq hq)
  obtain ⟨a', c', e', s', l', m', _, _⟩ := hS
  simp only [Value.slice.injEq, true_and] at e'
  obtain ⟨rfl, rfl⟩ := e'
  have hcv := conv_seg p2 s'
  have HT := hide' (impl_textOk_any a2 p2 vs w2 s' (by omega))
  rw [htb] at HT
  clear b2 hA s' hs
  go_wp2_with fail
  refine HT.out.mono ?_
  rintro e w3 ⟨rfl, e3⟩
  obtain rfl := e3
  go_wp2
  go_ret2
  exact ⟨HAh.out, rfl⟩
end Go.Proofs.YteafpgaefphkfaaGreatDoor
