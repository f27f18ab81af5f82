/-
  Texts that a law leans on, one behind the other; no statement is proved here.
-/
import Derived.Test.YthgcljefmkiepaaPk9
import Derived.Test.YthgcljefmkiepaaPk4
import Derived.Test.YthgcljefmkiepaaPk1
/-
  take of the program at every value; partOf, ValOk of the program.
-/
namespace Go.Proofs.Ythgcljefmkiepaa
open Go.RowKit
set_option linter.unusedVariables false
set_option linter.unusedSimpArgs false


/-- take was not good. -/
def NoTake (d : Nat) (v : Vl d) (deep n : Nat) : Prop := ¬ (goodB d v deep = true ∧ n + partsV d v ≤ 40)

/-- What take has done ahead of the kinds. -/
def Ahead (w : World) (q n : Nat) (vk vn : Int) (a2 a3 a4 : Option Addr) (l2 l3 l4 p2 p3 p4 : Nat) (w2 : World) : Prop :=
  w.grownBy w2 (some q) ∧ Cnt w2 q (n + 1) ∧ w2.heap[w.heap.size]? = some (.cells #[.int .i64 vk, .int .i64 vn, .slice a2 l2 p2, .slice a3 l3 p3, .slice a4 l4 p4] 32 (0, 0))

theorem ahead_of {w : World} {q n : Nat} {vk vn : Int} {a2 a3 a4 : Option Addr} {l2 l3 l4 p2 p3 p4 : Nat} {w2 : World} {x : Int} (hx : x = (n : Int) + 1) (hq : q < w.heap.size) (hc : Cnt w q n)
    (hb : Below ((w.setCell ⟨q, 0, none⟩ (.int .i64 x)).alloc (.cells #[.int .i64 vk, .int .i64 vn, .slice a2 l2 p2, .slice a3 l3 p3, .slice a4 l4 p4] 32)).heap.size ((w.setCell ⟨q, 0, none⟩ (.int .i64 x)).alloc (.cells #[.int .i64 vk, .int .i64 vn, .slice a2 l2 p2, .slice a3 l3 p3, .slice a4 l4 p4] 32)) w2) :
    Ahead w q n vk vn a2 a3 a4 l2 l3 l4 p2 p3 p4 w2 := by
  subst hx
  have hg := grown1 w q 0 (.int .i64 ((n : Int) + 1))
  have hcs : Cnt (w.setCell ⟨q, 0, none⟩ (.int .i64 ((n : Int) + 1))) q (n + 1) := hc.set (n + 1)
  have hsz : (w.setCell ⟨q, 0, none⟩ (.int .i64 ((n : Int) + 1))).heap.size = w.heap.size := by simp [World.setCell]
  have hal := World.grownBy_alloc (w.setCell ⟨q, 0, none⟩ (.int .i64 ((n : Int) + 1))) (.cells #[.int .i64 vk, .int .i64 vn, .slice a2 l2 p2, .slice a3 l3 p3, .slice a4 l4 p4] 32) none
  have hb2 := below_grown hb none
  have hnew := (MapKept.heap_alloc (w.setCell ⟨q, 0, none⟩ (.int .i64 ((n : Int) + 1))) (.cells #[.int .i64 vk, .int .i64 vn, .slice a2 l2 p2, .slice a3 l3 p3, .slice a4 l4 p4] 32)).1
  rw [hsz] at hnew
  refine ⟨grownBy_fresh (grownBy_fresh hg hal (by simp)) hb2 (by simp), (hcs.keep hal (by simp)).keep hb2 (by simp), (hb2.block w.heap.size (by simp [hsz]) (by simp)).trans hnew⟩

set_option maxHeartbeats 4000000 in
set_option maxRecDepth 100000 in
theorem take_over (q n : Nat) (vk vn : Int) (a2 a3 a4 : Option Addr) (l2 l3 l4 p2 p3 p4 : Nat) (deep : Nat) (w : World) (hq : q < w.heap.size) (hc : Cnt w q n) (hn : n = 40) :
    Calls Try.prog 30 #[.pointer (some ⟨q, 0, none⟩), .agg #[.int .i64 vk, .int .i64 vn, .slice a2 l2 p2, .slice a3 l3 p3, .slice a4 l4 p4], .int .i64 deep] w fun e w' => w.grownBy w' (some q) ∧ e = .returned (.tuple #[.nilIface, .bool false]) := by
  subst hn
  have HA : Hid (Cnt w q 40) := hc
  obtain ⟨hc0, hf0⟩ := hc.cell
  have hne : q ≠ w.heap.size := by omega
  clear hc
  go_enter Try.func30, Try.ntmps30
  go_wp2
  go_ret2
  exact ⟨(ahead_of (n := 40) rfl hq HA.out (Below.refl _ _)).1, rfl⟩

set_option maxHeartbeats 4000000 in
set_option maxRecDepth 100000 in
theorem take_deep (q n : Nat) (vk vn : Int) (l2 l3 l4 : Nat) (a2 a3 a4 : Option Addr) (p2 p3 p4 : Nat) (deep : Nat) (w : World) (hq : q < w.heap.size) (hc : Cnt w q n) (hn : n < 40) (hd : 5 < deep) :
    Calls Try.prog 30 #[.pointer (some ⟨q, 0, none⟩), .agg #[.int .i64 vk, .int .i64 vn, .slice a2 l2 p2, .slice a3 l3 p3, .slice a4 l4 p4], .int .i64 deep] w fun e w' => Ahead w q n vk vn a2 a3 a4 l2 l3 l4 p2 p3 p4 w' ∧ e = .returned (.tuple #[.nilIface, .bool false]) := by
  have HA : Hid (Cnt w q n) := hc
  obtain ⟨hc0, hf0⟩ := hc.cell
  have hne : q ≠ w.heap.size := by omega
  have hnn : ¬ (40 : Int) < (n : Int) + 1 := by omega
  have hdd : (5 : Int) < (deep : Int) := by omega
  clear hc
  go_enter Try.func30, Try.ntmps30
  go_wp2
  go_ret2
  exact ⟨ahead_of rfl hq HA.out (Below.refl _ _), rfl⟩

set_option maxHeartbeats 4000000 in
set_option maxRecDepth 100000 in
theorem take_bare (q n : Nat) (vk vn : Int) (l2 l3 l4 : Nat) (a2 a3 a4 : Option Addr) (p2 p3 p4 : Nat) (deep : Nat) (w : World) (hq : q < w.heap.size) (hc : Cnt w q n) (hn : n < 40) (hd : deep ≤ 5) (hb : bareB vk vn l2 l3 l4 = false) :
    Calls Try.prog 30 #[.pointer (some ⟨q, 0, none⟩), .agg #[.int .i64 vk, .int .i64 vn, .slice a2 l2 p2, .slice a3 l3 p3, .slice a4 l4 p4], .int .i64 deep] w fun e w' => Ahead w q n vk vn a2 a3 a4 l2 l3 l4 p2 p3 p4 w' ∧ e = .returned (.tuple #[.nilIface, .bool false]) := by
  have HA : Hid (Cnt w q n) := hc
  obtain ⟨hc0, hf0⟩ := hc.cell
  have hne : q ≠ w.heap.size := by omega
  have hnn : ¬ (40 : Int) < (n : Int) + 1 := by omega
  have hdd : ¬ (5 : Int) < (deep : Int) := by omega
  clear hc
  go_enter Try.func30, Try.ntmps30
  go_wp2_with fail
  refine (impl_bare_any _ _ _ _ _ _ _ _ _ _ _ _).mono ?_
  rintro e w2 ⟨rfl, b2⟩
  have hA := ahead_of rfl hq HA.out b2
  rw [hb]
  obtain ⟨y0, y1, y2, y3, y4, _⟩ := row5 hA.2.2
  have HAh := hide' hA
  clear b2 hA
  go_wp2
  go_ret2
  exact ⟨HAh.out, rfl⟩

set_option maxHeartbeats 4000000 in
set_option maxRecDepth 100000 in
theorem take_null (q n : Nat) (a2 a3 a4 : Option Addr) (p2 p3 p4 : Nat) (deep : Nat) (w : World) (hq : q < w.heap.size) (hc : Cnt w q n) (hn : n < 40) (hd : deep ≤ 5) :
    Calls Try.prog 30 #[.pointer (some ⟨q, 0, none⟩), .agg #[.int .i64 0, .int .i64 0, .slice a2 0 p2, .slice a3 0 p3, .slice a4 0 p4], .int .i64 deep] w fun e w' => Ahead w q n 0 0 a2 a3 a4 0 0 0 p2 p3 p4 w' ∧ e = .returned (.tuple #[.iface 80 (.agg #[]), .bool true]) := by
  have HA : Hid (Cnt w q n) := hc
  obtain ⟨hc0, hf0⟩ := hc.cell
  have hne : q ≠ w.heap.size := by omega
  have hnn : ¬ (40 : Int) < (n : Int) + 1 := by omega
  have hdd : ¬ (5 : Int) < (deep : Int) := by omega
  clear hc
  go_enter Try.func30, Try.ntmps30
  go_wp2_with fail
  refine (impl_bare_any _ _ _ _ _ _ _ _ _ _ _ _).mono ?_
  rintro e w2 ⟨rfl, b2⟩
  have hA := ahead_of rfl hq HA.out b2
  rw [show bareB 0 0 0 0 0 = true from by simp [bareB, *]]
  obtain ⟨y0, y1, y2, y3, y4, _⟩ := row5 hA.2.2
  have HAh := hide' hA
  clear b2 hA
  go_wp2
  go_ret2
  exact ⟨HAh.out, rfl⟩

set_option maxHeartbeats 4000000 in
set_option maxRecDepth 100000 in
theorem take_unknown (q n : Nat) (a2 a3 a4 : Option Addr) (p2 p3 p4 : Nat) (deep : Nat) (w : World) (hq : q < w.heap.size) (hc : Cnt w q n) (hn : n < 40) (hd : deep ≤ 5) :
    Calls Try.prog 30 #[.pointer (some ⟨q, 0, none⟩), .agg #[.int .i64 6, .int .i64 0, .slice a2 0 p2, .slice a3 0 p3, .slice a4 0 p4], .int .i64 deep] w fun e w' => Ahead w q n 6 0 a2 a3 a4 0 0 0 p2 p3 p4 w' ∧ e = .returned (.tuple #[.iface 81 (.agg #[]), .bool true]) := by
  have HA : Hid (Cnt w q n) := hc
  obtain ⟨hc0, hf0⟩ := hc.cell
  have hne : q ≠ w.heap.size := by omega
  have hnn : ¬ (40 : Int) < (n : Int) + 1 := by omega
  have hdd : ¬ (5 : Int) < (deep : Int) := by omega
  clear hc
  go_enter Try.func30, Try.ntmps30
  go_wp2_with fail
  refine (impl_bare_any _ _ _ _ _ _ _ _ _ _ _ _).mono ?_
  rintro e w2 ⟨rfl, b2⟩
  have hA := ahead_of rfl hq HA.out b2
  rw [show bareB 6 0 0 0 0 = true from by simp [bareB, *]]
  obtain ⟨y0, y1, y2, y3, y4, _⟩ := row5 hA.2.2
  have HAh := hide' hA
  clear b2 hA
  go_wp2
  go_ret2
  exact ⟨HAh.out, rfl⟩

set_option maxHeartbeats 4000000 in
set_option maxRecDepth 100000 in
theorem take_bool0 (q n : Nat) (a2 a3 a4 : Option Addr) (p2 p3 p4 : Nat) (deep : Nat) (w : World) (hq : q < w.heap.size) (hc : Cnt w q n) (hn : n < 40) (hd : deep ≤ 5) :
    Calls Try.prog 30 #[.pointer (some ⟨q, 0, none⟩), .agg #[.int .i64 1, .int .i64 0, .slice a2 0 p2, .slice a3 0 p3, .slice a4 0 p4], .int .i64 deep] w fun e w' => Ahead w q n 1 0 a2 a3 a4 0 0 0 p2 p3 p4 w' ∧ e = .returned (.tuple #[.iface 63 (.agg #[.int .i64 0]), .bool true]) := by
  have HA : Hid (Cnt w q n) := hc
  obtain ⟨hc0, hf0⟩ := hc.cell
  have hne : q ≠ w.heap.size := by omega
  have hnn : ¬ (40 : Int) < (n : Int) + 1 := by omega
  have hdd : ¬ (5 : Int) < (deep : Int) := by omega
  clear hc
  go_enter Try.func30, Try.ntmps30
  go_wp2_with fail
  refine (impl_bare_any _ _ _ _ _ _ _ _ _ _ _ _).mono ?_
  rintro e w2 ⟨rfl, b2⟩
  have hA := ahead_of rfl hq HA.out b2
  rw [show bareB 1 0 0 0 0 = true from by simp [bareB, *]]
  obtain ⟨y0, y1, y2, y3, y4, _⟩ := row5 hA.2.2
  have HAh := hide' hA
  clear b2 hA
  go_wp2
  go_ret2
  exact ⟨HAh.out, rfl⟩

set_option maxHeartbeats 4000000 in
set_option maxRecDepth 100000 in
theorem take_bool1 (q n : Nat) (a2 a3 a4 : Option Addr) (p2 p3 p4 : Nat) (deep : Nat) (w : World) (hq : q < w.heap.size) (hc : Cnt w q n) (hn : n < 40) (hd : deep ≤ 5) :
    Calls Try.prog 30 #[.pointer (some ⟨q, 0, none⟩), .agg #[.int .i64 1, .int .i64 1, .slice a2 0 p2, .slice a3 0 p3, .slice a4 0 p4], .int .i64 deep] w fun e w' => Ahead w q n 1 1 a2 a3 a4 0 0 0 p2 p3 p4 w' ∧ e = .returned (.tuple #[.iface 63 (.agg #[.int .i64 1]), .bool true]) := by
  have HA : Hid (Cnt w q n) := hc
  obtain ⟨hc0, hf0⟩ := hc.cell
  have hne : q ≠ w.heap.size := by omega
  have hnn : ¬ (40 : Int) < (n : Int) + 1 := by omega
  have hdd : ¬ (5 : Int) < (deep : Int) := by omega
  clear hc
  go_enter Try.func30, Try.ntmps30
  go_wp2_with fail
  refine (impl_bare_any _ _ _ _ _ _ _ _ _ _ _ _).mono ?_
  rintro e w2 ⟨rfl, b2⟩
  have hA := ahead_of rfl hq HA.out b2
  rw [show bareB 1 1 0 0 0 = true from by simp [bareB, *]]
  obtain ⟨y0, y1, y2, y3, y4, _⟩ := row5 hA.2.2
  have HAh := hide' hA
  clear b2 hA
  go_wp2
  go_ret2
  exact ⟨HAh.out, rfl⟩

set_option maxHeartbeats 4000000 in
set_option maxRecDepth 100000 in
theorem take_boolno (q n : Nat) (vn : Int) (v0 : ¬ vn = 0) (v1 : ¬ vn = 1) (a2 a3 a4 : Option Addr) (p2 p3 p4 : Nat) (deep : Nat) (w : World) (hq : q < w.heap.size) (hc : Cnt w q n) (hn : n < 40) (hd : deep ≤ 5) :
    Calls Try.prog 30 #[.pointer (some ⟨q, 0, none⟩), .agg #[.int .i64 1, .int .i64 vn, .slice a2 0 p2, .slice a3 0 p3, .slice a4 0 p4], .int .i64 deep] w fun e w' => Ahead w q n 1 vn a2 a3 a4 0 0 0 p2 p3 p4 w' ∧ e = .returned (.tuple #[.nilIface, .bool false]) := by
  have HA : Hid (Cnt w q n) := hc
  obtain ⟨hc0, hf0⟩ := hc.cell
  have hne : q ≠ w.heap.size := by omega
  have hnn : ¬ (40 : Int) < (n : Int) + 1 := by omega
  have hdd : ¬ (5 : Int) < (deep : Int) := by omega
  have b0 : (vn == 0) = false := by simp [v0]
  have b1 : (vn == 1) = false := by simp [v1]
  clear hc
  go_enter Try.func30, Try.ntmps30
  go_wp2_with fail
  refine (impl_bare_any _ _ _ _ _ _ _ _ _ _ _ _).mono ?_
  rintro e w2 ⟨rfl, b2⟩
  have hA := ahead_of rfl hq HA.out b2
  rw [show bareB 1 vn 0 0 0 = true from by simp [bareB, *]]
  obtain ⟨y0, y1, y2, y3, y4, _⟩ := row5 hA.2.2
  have HAh := hide' hA
  clear b2 hA
  go_wp2
  go_ret2
  exact ⟨HAh.out, rfl⟩

set_option maxHeartbeats 4000000 in
set_option maxRecDepth 100000 in
theorem take_int (q n : Nat) (vn : Int) (v0 : -1000000000000 ≤ vn) (v1 : vn ≤ 1000000000000) (a2 a3 a4 : Option Addr) (p2 p3 p4 : Nat) (deep : Nat) (w : World) (hq : q < w.heap.size) (hc : Cnt w q n) (hn : n < 40) (hd : deep ≤ 5) :
    Calls Try.prog 30 #[.pointer (some ⟨q, 0, none⟩), .agg #[.int .i64 2, .int .i64 vn, .slice a2 0 p2, .slice a3 0 p3, .slice a4 0 p4], .int .i64 deep] w fun e w' => Ahead w q n 2 vn a2 a3 a4 0 0 0 p2 p3 p4 w' ∧ e = .returned (.tuple #[.iface 64 (.agg #[.int .i64 vn]), .bool true]) := by
  have HA : Hid (Cnt w q n) := hc
  obtain ⟨hc0, hf0⟩ := hc.cell
  have hne : q ≠ w.heap.size := by omega
  have hnn : ¬ (40 : Int) < (n : Int) + 1 := by omega
  have hdd : ¬ (5 : Int) < (deep : Int) := by omega
  clear hc
  go_enter Try.func30, Try.ntmps30
  go_wp2_with fail
  refine (impl_bare_any _ _ _ _ _ _ _ _ _ _ _ _).mono ?_
  rintro e w2 ⟨rfl, b2⟩
  have hA := ahead_of rfl hq HA.out b2
  rw [show bareB 2 vn 0 0 0 = true from by simp [bareB, *]]
  obtain ⟨y0, y1, y2, y3, y4, _⟩ := row5 hA.2.2
  have HAh := hide' hA
  clear b2 hA
  go_wp2
  go_ret2
  exact ⟨HAh.out, rfl⟩

set_option maxHeartbeats 4000000 in
set_option maxRecDepth 100000 in
theorem take_intlow (q n : Nat) (vn : Int) (v0 : ¬ -1000000000000 ≤ vn) (a2 a3 a4 : Option Addr) (p2 p3 p4 : Nat) (deep : Nat) (w : World) (hq : q < w.heap.size) (hc : Cnt w q n) (hn : n < 40) (hd : deep ≤ 5) :
    Calls Try.prog 30 #[.pointer (some ⟨q, 0, none⟩), .agg #[.int .i64 2, .int .i64 vn, .slice a2 0 p2, .slice a3 0 p3, .slice a4 0 p4], .int .i64 deep] w fun e w' => Ahead w q n 2 vn a2 a3 a4 0 0 0 p2 p3 p4 w' ∧ e = .returned (.tuple #[.nilIface, .bool false]) := by
  have HA : Hid (Cnt w q n) := hc
  obtain ⟨hc0, hf0⟩ := hc.cell
  have hne : q ≠ w.heap.size := by omega
  have hnn : ¬ (40 : Int) < (n : Int) + 1 := by omega
  have hdd : ¬ (5 : Int) < (deep : Int) := by omega
  clear hc
  go_enter Try.func30, Try.ntmps30
  go_wp2_with fail
  refine (impl_bare_any _ _ _ _ _ _ _ _ _ _ _ _).mono ?_
  rintro e w2 ⟨rfl, b2⟩
  have hA := ahead_of rfl hq HA.out b2
  rw [show bareB 2 vn 0 0 0 = true from by simp [bareB, *]]
  obtain ⟨y0, y1, y2, y3, y4, _⟩ := row5 hA.2.2
  have HAh := hide' hA
  clear b2 hA
  go_wp2
  go_ret2
  exact ⟨HAh.out, rfl⟩

set_option maxHeartbeats 4000000 in
set_option maxRecDepth 100000 in
theorem take_inthigh (q n : Nat) (vn : Int) (v0 : -1000000000000 ≤ vn) (v1 : ¬ vn ≤ 1000000000000) (a2 a3 a4 : Option Addr) (p2 p3 p4 : Nat) (deep : Nat) (w : World) (hq : q < w.heap.size) (hc : Cnt w q n) (hn : n < 40) (hd : deep ≤ 5) :
    Calls Try.prog 30 #[.pointer (some ⟨q, 0, none⟩), .agg #[.int .i64 2, .int .i64 vn, .slice a2 0 p2, .slice a3 0 p3, .slice a4 0 p4], .int .i64 deep] w fun e w' => Ahead w q n 2 vn a2 a3 a4 0 0 0 p2 p3 p4 w' ∧ e = .returned (.tuple #[.nilIface, .bool false]) := by
  have HA : Hid (Cnt w q n) := hc
  obtain ⟨hc0, hf0⟩ := hc.cell
  have hne : q ≠ w.heap.size := by omega
  have hnn : ¬ (40 : Int) < (n : Int) + 1 := by omega
  have hdd : ¬ (5 : Int) < (deep : Int) := by omega
  clear hc
  go_enter Try.func30, Try.ntmps30
  go_wp2_with fail
  refine (impl_bare_any _ _ _ _ _ _ _ _ _ _ _ _).mono ?_
  rintro e w2 ⟨rfl, b2⟩
  have hA := ahead_of rfl hq HA.out b2
  rw [show bareB 2 vn 0 0 0 = true from by simp [bareB, *]]
  obtain ⟨y0, y1, y2, y3, y4, _⟩ := row5 hA.2.2
  have HAh := hide' hA
  clear b2 hA
  go_wp2
  go_ret2
  exact ⟨HAh.out, rfl⟩

set_option maxHeartbeats 4000000 in
set_option maxRecDepth 100000 in
theorem take_none (q n : Nat) (vk : Int) (k0 : ¬ vk = 0) (k1 : ¬ vk = 1) (k2 : ¬ vk = 2) (k3 : ¬ vk = 3) (k4 : ¬ vk = 4) (k5 : ¬ vk = 5) (k6 : ¬ vk = 6) (a2 a3 a4 : Option Addr) (p2 p3 p4 : Nat) (deep : Nat) (w : World) (hq : q < w.heap.size) (hc : Cnt w q n) (hn : n < 40) (hd : deep ≤ 5) :
    Calls Try.prog 30 #[.pointer (some ⟨q, 0, none⟩), .agg #[.int .i64 vk, .int .i64 0, .slice a2 0 p2, .slice a3 0 p3, .slice a4 0 p4], .int .i64 deep] w fun e w' => Ahead w q n vk 0 a2 a3 a4 0 0 0 p2 p3 p4 w' ∧ e = .returned (.tuple #[.nilIface, .bool false]) := by
  have HA : Hid (Cnt w q n) := hc
  obtain ⟨hc0, hf0⟩ := hc.cell
  have hne : q ≠ w.heap.size := by omega
  have hnn : ¬ (40 : Int) < (n : Int) + 1 := by omega
  have hdd : ¬ (5 : Int) < (deep : Int) := by omega
  clear hc
  go_enter Try.func30, Try.ntmps30
  go_wp2_with fail
  refine (impl_bare_any _ _ _ _ _ _ _ _ _ _ _ _).mono ?_
  rintro e w2 ⟨rfl, b2⟩
  have hA := ahead_of rfl hq HA.out b2
  rw [show bareB vk 0 0 0 0 = true from by simp [bareB, *]]
  obtain ⟨y0, y1, y2, y3, y4, _⟩ := row5 hA.2.2
  have HAh := hide' hA
  clear b2 hA
  go_wp2
  go_ret2
  exact ⟨HAh.out, rfl⟩

set_option maxHeartbeats 4000000 in
set_option maxRecDepth 100000 in
theorem take_text (q n : Nat) (N : Nat) (vs : List Int) (hNq : N ≤ q) (a2 a3 a4 : Option Addr) (p2 p3 p4 : Nat) (deep : Nat) (w : World) (hq : q < w.heap.size) (hc : Cnt w q n) (hn : n < 40) (hd : deep ≤ 5) (hs : TSeg (fun b => b < N) w (.slice a2 vs.length p2) vs) (htb : textB vs = true) :
    Calls Try.prog 30 #[.pointer (some ⟨q, 0, none⟩), .agg #[.int .i64 3, .int .i64 0, .slice a2 vs.length p2, .slice a3 0 p3, .slice a4 0 p4], .int .i64 deep] w fun e w' => Ahead w q n 3 0 a2 a3 a4 vs.length 0 0 p2 p3 p4 w' ∧ e = .returned (.tuple #[.iface 66 (.agg #[.string (strOf vs)]), .bool true]) := by
  have HA : Hid (Cnt w q n) := hc
  obtain ⟨hc0, hf0⟩ := hc.cell
  have hne : q ≠ w.heap.size := by omega
  have hnn : ¬ (40 : Int) < (n : Int) + 1 := by omega
  have hdd : ¬ (5 : Int) < (deep : Int) := by omega
  clear hc
  go_enter Try.func30, Try.ntmps30
  go_wp2_with fail
  refine (impl_bare_any _ _ _ _ _ _ _ _ _ _ _ _).mono ?_
  rintro e w2 ⟨rfl, b2⟩
  have hA := ahead_of rfl hq HA.out b2
  rw [show bareB 3 0 vs.length 0 0 = true from by simp [bareB, *]]
  obtain ⟨y0, y1, y2, y3, y4, _⟩ := row5 hA.2.2
  have HAh := hide' hA
  have hS : TSeg (fun b => b < N) w2 (.slice a2 vs.length p2) vs := hs.agree (agree_grown hA.1 hNq hq)
  obtain ⟨a', c', e', s', l', m', _, _⟩ := hS
  simp only [Value.slice.injEq, true_and] at e'
  obtain ⟨rfl, rfl⟩ := e'
  have hcv := conv_seg p2 s'
  have HT := hide' (impl_textOk_any a2 p2 vs w2 s' (by omega))
  rw [htb] at HT
  clear b2 hA s' hs
  go_wp2_with fail
  refine HT.out.mono ?_
  rintro e w3 ⟨rfl, e3⟩
  obtain rfl := e3
  go_wp2
  go_ret2
  exact ⟨HAh.out, rfl⟩

set_option maxHeartbeats 4000000 in
set_option maxRecDepth 100000 in
theorem take_textno (q n : Nat) (N : Nat) (vs : List Int) (hNq : N ≤ q) (a2 a3 a4 : Option Addr) (p2 p3 p4 : Nat) (deep : Nat) (w : World) (hq : q < w.heap.size) (hc : Cnt w q n) (hn : n < 40) (hd : deep ≤ 5) (hs : TSeg (fun b => b < N) w (.slice a2 vs.length p2) vs) (htb : textB vs = false) :
    Calls Try.prog 30 #[.pointer (some ⟨q, 0, none⟩), .agg #[.int .i64 3, .int .i64 0, .slice a2 vs.length p2, .slice a3 0 p3, .slice a4 0 p4], .int .i64 deep] w fun e w' => Ahead w q n 3 0 a2 a3 a4 vs.length 0 0 p2 p3 p4 w' ∧ e = .returned (.tuple #[.nilIface, .bool false]) := by
  have HA : Hid (Cnt w q n) := hc
  obtain ⟨hc0, hf0⟩ := hc.cell
  have hne : q ≠ w.heap.size := by omega
  have hnn : ¬ (40 : Int) < (n : Int) + 1 := by omega
  have hdd : ¬ (5 : Int) < (deep : Int) := by omega
  clear hc
  go_enter Try.func30, Try.ntmps30
  go_wp2_with fail
  refine (impl_bare_any _ _ _ _ _ _ _ _ _ _ _ _).mono ?_
  rintro e w2 ⟨rfl, b2⟩
  have hA := ahead_of rfl hq HA.out b2
  rw [show bareB 3 0 vs.length 0 0 = true from by simp [bareB, *]]
  obtain ⟨y0, y1, y2, y3, y4, _⟩ := row5 hA.2.2
  have HAh := hide' hA
  have hS : TSeg (fun b => b < N) w2 (.slice a2 vs.length p2) vs := hs.agree (agree_grown hA.1 hNq hq)
  obtain ⟨a', c', e', s', l', m', _, _⟩ := hS
  simp only [Value.slice.injEq, true_and] at e'
  obtain ⟨rfl, rfl⟩ := e'
  have hcv := conv_seg p2 s'
  have HT := hide' (impl_textOk_any a2 p2 vs w2 s' (by omega))
  rw [htb] at HT
  clear b2 hA s' hs
  go_wp2_with fail
  refine HT.out.mono ?_
  rintro e w3 ⟨rfl, e3⟩
  obtain rfl := e3
  go_wp2
  go_ret2
  exact ⟨HAh.out, rfl⟩
end Go.Proofs.Ythgcljefmkiepaa
/-
  take of the program at lists and maps, and at every value; partOf, ValOk of the program.
-/
namespace Go.Proofs.Ythgcljefmkiepaa
open Go.RowKit
set_option linter.unusedVariables false
set_option linter.unusedSimpArgs false

/-- What take says. -/
def TakeEnd (d : Nat) (v : Vl d) (deep n q : Nat) (w : World) (e : Ending) (w' : World) : Prop :=
  w.grownBy w' (some q) ∧ ((∃ p, e = .returned (.tuple #[p, .bool true]) ∧ Took d v deep n q w w' p) ∨ (e = .returned (.tuple #[.nilIface, .bool false]) ∧ ¬ (goodB d v deep = true ∧ n + partsV d v ≤ 40)))

set_option maxHeartbeats 4000000 in
set_option maxRecDepth 100000 in
theorem take_list (d : Nat) (ih : TakeAt d) (N q n : Nat) (x : Value) (vL : List (Vl d)) (a2 a3 : Option Addr) (p2 p3 : Nat) (deep : Nat) (w : World) (hx : LSeg (fun b => b < N) w d x vL) (hNq : N ≤ q) (hq : q < w.heap.size) (hc : Cnt w q n) (hn : n < 40) (hd : deep ≤ 5) :
    Calls Try.prog 30 #[.pointer (some ⟨q, 0, none⟩), .agg #[.int .i64 4, .int .i64 0, .slice a2 0 p2, .slice a3 0 p3, x], .int .i64 deep] w (TakeEnd (d + 1) (4, 0, [], [], vL) deep n q w) := by
  have HX := hide' hx
  obtain ⟨a4, p4, rfl, hlc, hcm, ka, _⟩ := hx
  unfold maxLen at hcm
  have HA : Hid (Cnt w q n) := hc
  have HI := hide' ih
  obtain ⟨hc0, hf0⟩ := hc.cell
  have hne : q ≠ w.heap.size := by omega
  have hnn : ¬ (40 : Int) < (n : Int) + 1 := by omega
  have hdd : ¬ (5 : Int) < (deep : Int) := by omega
  clear hc ih
  go_enter Try.func30, Try.ntmps30
  go_wp2_with fail
  refine (impl_bare_any _ _ _ _ _ _ _ _ _ _ _ _).mono ?_
  rintro e w2 ⟨rfl, b2⟩
  have hA := ahead_of rfl hq HA.out b2
  rw [show bareB 4 0 0 0 vL.length = true from by simp [bareB]]
  obtain ⟨y0, y1, y2, y3, y4, _⟩ := row5 hA.2.2
  have hs2 := hA.1.size
  have hT := takeAll_of d HI.out N q (n + 1) _ vL (deep + 1) w2 (HX.out.agree (agree_grown hA.1 hNq hq)) hNq (by omega) hA.2.1 (by omega) (by omega)
  rw [Int.natCast_add] at hT
  have HT := hide' hT
  have HAh := hide' hA
  clear b2 hA hT
  go_wp2_with fail
  refine HT.out.mono ?_
  rintro e w3 ⟨hg3, hcase⟩
  have hgf := grownBy_trans HAh.out.1 hg3
  rcases hcase with ⟨y, rfl, htook⟩ | ⟨rfl, hbad⟩
  · obtain ⟨hgood, hle, hcnt, a, cap, ps, rfl, hcell, hpp⟩ := htook
    have hG : goodB (d + 1) (4, 0, [], [], vL) deep = true := (good_succ _ _ _ _ _ _ _).2 ⟨hd, by simp [shapeB, bareB], hgood⟩
    have hP := parts_succ d 4 0 [] [] vL
    have hE : Hid (Took (d + 1) (4, 0, [], [], vL) deep n q w w3 (.iface 69 (.agg #[.slice a vL.length cap]))) := by
      have e1 : n + partsV (d + 1) (4, 0, [], [], vL) = n + 1 + pre (partsV d) vL vL.length := by rw [hP]; omega
      refine ⟨hG, by rw [e1]; omega, by rw [e1]; exact hcnt, .inr (.inr (.inr (.inr (.inr (.inl ⟨rfl, a, cap, rfl, ?_⟩)))))⟩
      rcases hcell with h0 | ⟨b, rfl, hb1, hb2, hcc⟩
      · exact .inl h0
      · refine .inr ⟨b, 0, rfl, ⟨by omega, hb2⟩, fun i hi => ⟨ps.getD i .nilIface, by rw [Nat.zero_add]; exact hcc i hi, PSeg.carry (fun b hb => ⟨by omega, hb.2⟩) (fun b _ => rfl) d (hpp i hi)⟩⟩
    clear hgood hle hcnt hcell hpp hG hP y0 y1 y2 y3 y4 HT HAh
    go_wp2
    go_ret2
    exact ⟨hgf, .inl ⟨_, rfl, hE.out⟩⟩
  · have hno : Hid (¬ (goodB (d + 1) (4, 0, [], [], vL) deep = true ∧ n + partsV (d + 1) (4, 0, [], [], vL) ≤ 40)) := fun ⟨h1, h2⟩ => hbad ⟨((good_succ _ _ _ _ _ _ _).1 h1).2.2, by rw [parts_succ] at h2; omega⟩
    clear hbad y0 y1 y2 y3 y4 HT HAh
    go_wp2
    go_ret2
    exact ⟨hgf, .inr ⟨rfl, hno.out⟩⟩

set_option maxHeartbeats 4000000 in
set_option maxRecDepth 100000 in
theorem take_map (d : Nat) (ih : TakeAt d) (N q n : Nat) (z x : Value) (vK : List (List Int)) (vL : List (Vl d)) (a2 : Option Addr) (p2 : Nat) (deep : Nat) (w : World) (hz : KSeg (fun b => b < N) w z vK) (hx : LSeg (fun b => b < N) w d x vL) (hNq : N ≤ q) (hq : q < w.heap.size) (hc : Cnt w q n) (hn : n < 40) (hd : deep ≤ 5) :
    Calls Try.prog 30 #[.pointer (some ⟨q, 0, none⟩), .agg #[.int .i64 5, .int .i64 0, .slice a2 0 p2, z, x], .int .i64 deep] w (TakeEnd (d + 1) (5, 0, [], vK, vL) deep n q w) := by
  have HX := hide' hx
  have HZ := hide' hz
  obtain ⟨a4, p4, rfl, hlc, hcm, ka, _⟩ := hx
  obtain ⟨a3, p3, rfl, hlc3, hcm3, ka3, _⟩ := hz
  unfold maxLen at hcm hcm3
  have HA : Hid (Cnt w q n) := hc
  have HI := hide' ih
  obtain ⟨hc0, hf0⟩ := hc.cell
  have hne : q ≠ w.heap.size := by omega
  have hnn : ¬ (40 : Int) < (n : Int) + 1 := by omega
  have hdd : ¬ (5 : Int) < (deep : Int) := by omega
  clear hc ih
  go_enter Try.func30, Try.ntmps30
  go_wp2_with fail
  refine (impl_bare_any _ _ _ _ _ _ _ _ _ _ _ _).mono ?_
  rintro e w2 ⟨rfl, b2⟩
  have hA := ahead_of rfl hq HA.out b2
  rw [show bareB 5 0 0 vK.length vL.length = true from by simp [bareB]]
  obtain ⟨y0, y1, y2, y3, y4, _⟩ := row5 hA.2.2
  have hs2 := hA.1.size
  have HT := hide' (takeMap_of d HI.out N q (n + 1) 5 0 a2 0 p2 _ _ vK vL deep w2 (HZ.out.agree (agree_grown hA.1 hNq hq)) (HX.out.agree (agree_grown hA.1 hNq hq)) hNq (by omega) hA.2.1 (by omega) hd)
  have HAh := hide' hA
  clear b2 hA
  go_wp2_with fail
  refine HT.out.mono ?_
  rintro e w3 ⟨hg3, hcase⟩
  have hgf := grownBy_trans HAh.out.1 hg3
  have hP := parts_succ d 5 0 [] vK vL
  rcases hcase with ⟨y, rfl, hkl, has, hgood, hle, hcnt, hps⟩ | ⟨rfl, hbad⟩
  · have hG : goodB (d + 1) (5, 0, [], vK, vL) deep = true := (good_succ _ _ _ _ _ _ _).2 ⟨hd, by rw [shape_map hkl]; exact has, hgood⟩
    have hE : Hid (Took (d + 1) (5, 0, [], vK, vL) deep n q w w3 y) := by
      have e1 : n + partsV (d + 1) (5, 0, [], vK, vL) = n + 1 + pre (partsV d) vL vL.length := by rw [hP]; omega
      exact ⟨hG, by rw [e1]; omega, by rw [e1]; exact hcnt, PSeg.carry (fun b hb => ⟨by omega, hb.2⟩) (fun b _ => rfl) (d + 1) hps⟩
    clear hgood hle hcnt hps hG hP has hkl y0 y1 y2 y3 y4 HT HAh
    go_wp2
    go_ret2
    exact ⟨hgf, .inl ⟨_, rfl, hE.out⟩⟩
  · have hno : Hid (¬ (goodB (d + 1) (5, 0, [], vK, vL) deep = true ∧ n + partsV (d + 1) (5, 0, [], vK, vL) ≤ 40)) := fun ⟨h1, h2⟩ => hbad (by
      obtain ⟨_, g2, g3⟩ := (good_succ _ _ _ _ _ _ _).1 h1
      by_cases hkl : vK.length = vL.length
      · rw [shape_map hkl] at g2
        exact ⟨hkl, g2, g3, by rw [hP] at h2; omega⟩
      · rw [shape_map_no hkl] at g2
        simp at g2)
    clear hbad hP y0 y1 y2 y3 y4 HT HAh
    go_wp2
    go_ret2
    exact ⟨hgf, .inr ⟨rfl, hno.out⟩⟩
end Go.Proofs.Ythgcljefmkiepaa
/-
  take, partOf of the program, at every value.
-/
namespace Go.Proofs.Ythgcljefmkiepaa
open Go.RowKit
set_option linter.unusedVariables false
set_option linter.unusedSimpArgs false

/-- A leaf that was taken in. -/
theorem took_leaf {d : Nat} {vk vn : Int} {vs : List Int} {vK : List (List Int)} {deep n q : Nat} {w : World} {a2 a3 a4 : Option Addr} {l2 l3 l4 p2 p3 p4 : Nat} {p : Value} (hd : deep ≤ 5) (hn : n < 40) (hs : shapeB vk vn vs vK 0 = true)
    (hp : ∀ R w', PSeg R w' (d + 1) p (vk, vn, vs, vK, [])) (e : Ending) (w' : World) (h : Ahead w q n vk vn a2 a3 a4 l2 l3 l4 p2 p3 p4 w' ∧ e = .returned (.tuple #[p, .bool true])) : TakeEnd (d + 1) (vk, vn, vs, vK, []) deep n q w e w' := by
  obtain ⟨hA, rfl⟩ := h
  have e1 : partsV (d + 1) (vk, vn, vs, vK, []) = 1 := by rw [parts_succ]; simp [pre]
  refine ⟨hA.1, .inl ⟨p, rfl, (good_succ _ _ _ _ _ _ _).2 ⟨hd, by simpa using hs, fun j h => by simp at h⟩, by rw [e1]; omega, by rw [e1]; exact hA.2.1, hp _ _⟩⟩

theorem no_take {d : Nat} {v : Vl d} {deep n q : Nat} {w : World} {vk vn : Int} {a2 a3 a4 : Option Addr} {l2 l3 l4 p2 p3 p4 : Nat} (hno : ¬ (goodB d v deep = true ∧ n + partsV d v ≤ 40)) (e : Ending) (w' : World) (h : Ahead w q n vk vn a2 a3 a4 l2 l3 l4 p2 p3 p4 w' ∧ e = .returned (.tuple #[.nilIface, .bool false])) : TakeEnd d v deep n q w e w' := by
  obtain ⟨hA, rfl⟩ := h
  exact ⟨hA.1, .inr ⟨rfl, hno⟩⟩

theorem bad_shape {d : Nat} {vk vn : Int} {vs : List Int} {vK : List (List Int)} {vL : List (Vl d)} {deep n : Nat} (h : shapeB vk vn vs vK vL.length = false) : ¬ (goodB (d + 1) (vk, vn, vs, vK, vL) deep = true ∧ n + partsV (d + 1) (vk, vn, vs, vK, vL) ≤ 40) := fun ⟨h1, _⟩ => by
  have := ((good_succ _ _ _ _ _ _ _).1 h1).2.1
  rw [h] at this
  simp at this

set_option maxHeartbeats 1600000 in
theorem take_succ (d : Nat) (ih : TakeAt d) : TakeAt (d + 1) := by
  intro N q n c v deep w hv hNq hq hc hn hd
  show Calls _ _ _ _ (TakeEnd (d + 1) v deep n q w)
  obtain ⟨c0, c1, c2, c3, c4⟩ := c
  obtain ⟨vk, vn, vs, vK, vL⟩ := v
  obtain ⟨e0, e1, ht, hk, hl⟩ := (VSeg_succ _ _ _ _ _).1 hv
  simp only at e0 e1 ht hk hl
  subst e0
  subst e1
  clear hv
  simp only
  have HT := ht
  have HK := hk
  have HL := hl
  obtain ⟨a2, p2, rfl, s2, l2, m2, _, _⟩ := ht
  obtain ⟨a3, p3, rfl, _, _, _, _⟩ := hk
  obtain ⟨a4, p4, rfl, _, _, _, _⟩ := hl
  by_cases q1 : n = 40
  · refine (take_over q n vk vn a2 a3 a4 _ _ _ p2 p3 p4 deep w hq hc q1).mono fun e w' h => ⟨h.1, .inr ⟨h.2, fun ⟨_, h2⟩ => ?_⟩⟩
    have := parts_pos d (vk, vn, vs, vK, vL)
    omega
  have hn' : n < 40 := by omega
  by_cases q2 : 5 < deep
  · refine (take_deep q n vk vn _ _ _ a2 a3 a4 p2 p3 p4 deep w hq hc hn' q2).mono (no_take fun ⟨h1, _⟩ => ?_)
    have := ((good_succ _ _ _ _ _ _ _).1 h1).1
    omega
  have hD1 : deep ≤ 5 := by omega
  by_cases q3 : bareB vk vn vs.length vK.length vL.length = false
  · exact (take_bare q n vk vn _ _ _ a2 a3 a4 p2 p3 p4 deep w hq hc hn' hD1 q3).mono (no_take (bad_shape (by simp [shapeB, q3])))
  have q4 : bareB vk vn vs.length vK.length vL.length = true := by simpa using q3
  clear q1 q2 q3
  by_cases k0 : vk = 0
  · subst k0
    have : vn = 0 ∧ vs = [] ∧ vK = [] ∧ vL = [] := by simp [bareB] at q4; simpa [and_assoc] using q4
    obtain ⟨rfl, rfl, rfl, rfl⟩ := this
    exact (take_null q n a2 a3 a4 p2 p3 p4 deep w hq hc hn' hD1).mono (took_leaf hD1 hn' (by simp [shapeB, bareB]) fun R w' => .inl ⟨rfl, rfl⟩)
  by_cases k6 : vk = 6
  · subst k6
    have : vn = 0 ∧ vs = [] ∧ vK = [] ∧ vL = [] := by simp [bareB] at q4; simpa [and_assoc] using q4
    obtain ⟨rfl, rfl, rfl, rfl⟩ := this
    exact (take_unknown q n a2 a3 a4 p2 p3 p4 deep w hq hc hn' hD1).mono (took_leaf hD1 hn' (by simp [shapeB, bareB]) fun R w' => .inr (.inl ⟨rfl, rfl⟩))
  by_cases k1 : vk = 1
  · subst k1
    have : vs = [] ∧ vK = [] ∧ vL = [] := by simp [bareB] at q4; simpa [and_assoc] using q4
    obtain ⟨rfl, rfl, rfl⟩ := this
    by_cases v0 : vn = 0
    · subst v0
      exact (take_bool0 q n a2 a3 a4 p2 p3 p4 deep w hq hc hn' hD1).mono (took_leaf hD1 hn' (by simp [shapeB, bareB]) fun R w' => .inr (.inr (.inl ⟨rfl, rfl⟩)))
    by_cases v1 : vn = 1
    · subst v1
      exact (take_bool1 q n a2 a3 a4 p2 p3 p4 deep w hq hc hn' hD1).mono (took_leaf hD1 hn' (by simp [shapeB, bareB]) fun R w' => .inr (.inr (.inl ⟨rfl, rfl⟩)))
    · exact (take_boolno q n vn v0 v1 a2 a3 a4 p2 p3 p4 deep w hq hc hn' hD1).mono (no_take (bad_shape (by simp [shapeB, bareB, v0, v1])))
  by_cases k2 : vk = 2
  · subst k2
    have : vs = [] ∧ vK = [] ∧ vL = [] := by simp [bareB] at q4; simpa [and_assoc] using q4
    obtain ⟨rfl, rfl, rfl⟩ := this
    by_cases v0 : -1000000000000 ≤ vn
    · by_cases v1 : vn ≤ 1000000000000
      · exact (take_int q n vn v0 v1 a2 a3 a4 p2 p3 p4 deep w hq hc hn' hD1).mono (took_leaf hD1 hn' (by simp [shapeB, bareB, intB, v0, v1]) fun R w' => .inr (.inr (.inr (.inl ⟨rfl, rfl⟩))))
      · exact (take_inthigh q n vn v0 v1 a2 a3 a4 p2 p3 p4 deep w hq hc hn' hD1).mono (no_take (bad_shape (by simp [shapeB, bareB, intB, v1])))
    · exact (take_intlow q n vn v0 a2 a3 a4 p2 p3 p4 deep w hq hc hn' hD1).mono (no_take (bad_shape (by simp [shapeB, bareB, intB, v0])))
  by_cases k3 : vk = 3
  · subst k3
    have : vn = 0 ∧ vK = [] ∧ vL = [] := by simp [bareB] at q4; simpa [and_assoc] using q4
    obtain ⟨rfl, rfl, rfl⟩ := this
    cases htb : textB vs with
    | true => exact (take_text q n N vs hNq a2 a3 a4 p2 p3 p4 deep w hq hc hn' hD1 HT htb).mono (took_leaf hD1 hn' (by simp [shapeB, bareB, htb]) fun R w' => .inr (.inr (.inr (.inr (.inl ⟨rfl, rfl⟩)))))
    | false => exact (take_textno q n N vs hNq a2 a3 a4 p2 p3 p4 deep w hq hc hn' hD1 HT htb).mono (no_take (bad_shape (by simp [shapeB, bareB, htb])))
  by_cases k4 : vk = 4
  · subst k4
    have : vn = 0 ∧ vs = [] ∧ vK = [] := by simp [bareB] at q4; simpa [and_assoc] using q4
    obtain ⟨rfl, rfl, rfl⟩ := this
    exact take_list d ih N q n _ vL a2 a3 p2 p3 deep w HL hNq hq hc hn' hD1
  by_cases k5 : vk = 5
  · subst k5
    have : vn = 0 ∧ vs = [] := by simp [bareB] at q4; simpa [and_assoc] using q4
    obtain ⟨rfl, rfl⟩ := this
    exact take_map d ih N q n _ _ vK vL a2 p2 deep w HK HL hNq hq hc hn' hD1
  · have : vn = 0 ∧ vs = [] ∧ vK = [] ∧ vL = [] := by simp [bareB, k1, k2, k3, k4, k5] at q4; simpa [and_assoc] using q4
    obtain ⟨rfl, rfl, rfl, rfl⟩ := this
    exact (take_none q n vk k0 k1 k2 k3 k4 k5 k6 a2 a3 a4 p2 p3 p4 deep w hq hc hn' hD1).mono (no_take (bad_shape (by simp [shapeB, bareB, k0, k1, k2, k3, k4, k5, k6])))

theorem take_any (d : Nat) : TakeAt d := by
  induction d with
  | zero => intro N q n c v deep w hv; exact hv.elim
  | succ d ih => exact take_succ d ih

/-- What partOf says. -/
def PartEnd (d : Nat) (v : Vl d) (w : World) (e : Ending) (w' : World) : Prop :=
  Below w.heap.size w w' ∧ ((∃ p, e = .returned (.tuple #[p, .bool true]) ∧ okB d v = true ∧ PSeg (fun b => w.heap.size ≤ b ∧ b < w'.heap.size) w' d p v) ∨ (e = .returned (.tuple #[.nilIface, .bool false]) ∧ okB d v = false))

set_option maxHeartbeats 1600000 in
theorem partOf_any (d N : Nat) (c0 c1 c2 c3 c4 : Value) (v : Vl d) (w : World) (hv : VSeg (fun b => b < N) w d (c0, c1, c2, c3, c4) v) (hN : N ≤ w.heap.size) :
    Calls Try.prog 21 #[.agg #[c0, c1, c2, c3, c4]] w (PartEnd d v w) := by
  have b0 : ∀ o o' : Obj, Below w.heap.size w ((w.alloc o).alloc o') := fun o o' => ((Below.refl _ _).alloc (Nat.le_refl _) o).alloc (by simp) o'
  have HC : Hid (∀ o : Obj, Calls Try.prog 30 #[.pointer (some ⟨w.heap.size + 1, 0, none⟩), .agg #[c0, c1, c2, c3, c4], .int .i64 1] ((w.alloc o).alloc (.cells #[.int .i64 0] 59)) (TakeEnd d v 1 0 (w.heap.size + 1) ((w.alloc o).alloc (.cells #[.int .i64 0] 59)))) := fun o =>
    take_any d N (w.heap.size + 1) 0 (c0, c1, c2, c3, c4) v 1 ((w.alloc o).alloc (.cells #[.int .i64 0] 59)) (VSeg.agree (agree_below ((b0 o _).mono hN)) d hv) (by omega) (by rw [size2]; omega) (two_boxes w o _).2 (by omega) (by omega)
  have Hb := hide' b0
  have hsz := fun o o' => size2 w o o'
  have Hsz := hide' hsz
  clear b0 hsz
  go_enter Try.func21, Try.ntmps21
  go_wp2_with fail
  refine (HC.out _).mono ?_
  rintro e w1 ⟨hg1, hcase⟩
  have hB1 := (Hb.out _ _).grown hg1 (by rw [Hsz.out]; omega) (by intro j hj; simp at hj; omega)
  rcases hcase with ⟨p, rfl, h1, h2, h3, h4⟩ | ⟨rfl, hno⟩
  · have hE : Hid (okB d v = true ∧ PSeg (fun b => w.heap.size ≤ b ∧ b < w1.heap.size) w1 d p v) := ⟨by simp [okB, h1]; omega, PSeg.carry (fun b hb => ⟨by have := hb.1; rw [Hsz.out] at this; omega, hb.2⟩) (fun b _ => rfl) d h4⟩
    clear h1 h2 h3 h4 hg1
    go_wp2
    go_ret2
    exact ⟨hB1, .inl ⟨_, rfl, hE.out⟩⟩
  · have hE : Hid (okB d v = false) := by
      show okB d v = false
      cases h : okB d v with
      | false => rfl
      | true => simp [okB] at h; exact absurd ⟨h.1, by omega⟩ hno
    clear hno hg1
    go_wp2
    go_ret2
    exact ⟨hB1, .inr ⟨rfl, hE.out⟩⟩

end Go.Proofs.Ythgcljefmkiepaa
/-
  ValBytes of the program: putPart of whatever part, ValBytes.
-/
namespace Go.Proofs.Ythgcljefmkiepaa
open Go.RowKit Go.Shelf
set_option linter.unusedVariables false
set_option linter.unusedSimpArgs false

theorem txt_byt {vn : Int} {vs : List Int} {vK : List (List Int)} {n : Nat} (h : shapeB 3 vn vs vK n = true) : ∀ x ∈ vs, Byt x := by
  simp [shapeB] at h
  have h2 := h.2
  simp only [textB, Bool.and_eq_true, decide_eq_true_eq, List.all_eq_true] at h2
  intro x hx
  have := h2.2 x hx
  simp only [chrB, Bool.and_eq_true, decide_eq_true_eq] at this
  unfold Byt
  omega

theorem key_byt {ks : List (List Int)} {i : Nat} (h : stepB ks i = true) : (∀ x ∈ ks.getD i [], Byt x) ∧ (ks.getD i []).length ≤ 8 := by
  simp only [stepB, Bool.and_eq_true] at h
  have h1 := h.1
  simp only [nameB, Bool.and_eq_true, decide_eq_true_eq, List.all_eq_true] at h1
  refine ⟨fun x hx => ?_, by omega⟩
  have := h1.2 x hx
  simp only [letB, Bool.and_eq_true, decide_eq_true_eq] at this
  unfold Byt
  omega

theorem kids_few {d : Nat} (vL : List (Vl d)) : ∀ k, k ≤ vL.length → k ≤ pre (partsV d) vL k := by
  intro k
  induction k with
  | zero => intro _; exact Nat.zero_le _
  | succ k ih =>
    intro hk
    have h1 := pre_succ (partsV d) vL k (by omega)
    have h2 := ih (by omega)
    have h3 : 1 ≤ partsV d vL[k] := by
      cases d with
      | zero => exact (vL[k]).elim
      | succ d => exact parts_pos d _
    omega

theorem putPart_succ (d : Nat) (ih : PByAt d) : PByAt (d + 1) := by
  intro N a cap xs p v deep w hp hN hs ka hg hn hlen
  obtain ⟨vk, vn, vs, vK, vL⟩ := v
  obtain ⟨_, hsh, hkids⟩ := (good_succ _ _ _ _ _ _ _).1 hg
  obtain ⟨hvs, hk⟩ := shape_kinds hsh
  have hpp := parts_succ d vk vn vs vK vL
  have hfew := kids_few vL vL.length (Nat.le_refl _)
  rw [hpp] at hlen hn
  rcases hp with ⟨rfl, rfl⟩ | ⟨rfl, rfl⟩ | ⟨rfl, rfl⟩ | ⟨rfl, rfl⟩ | ⟨rfl, rfl⟩ | ⟨rfl, la, lc, rfl, hc⟩ | ⟨rfl, b, ps, rfl, hR, hm, hc⟩
  · rw [bytV_bare d _ vn (.inl rfl)]; exact putPart_nullPart a cap xs w hs ka (by omega)
  · rw [bytV_bare d _ vn (.inr rfl)]; exact putPart_unknownPart a cap xs w hs ka (by omega)
  · rw [bytV_bool]; exact putPart_boolPart vn a cap xs w hs ka (by omega)
  · have h2 : -1000000000000 ≤ vn ∧ vn ≤ 1000000000000 := by
      rcases hk with hk | ⟨_, h1, h2⟩ | ⟨hk, _⟩ | ⟨hk, _⟩
      · omega
      · exact ⟨h1, h2⟩
      · omega
      · omega
    rw [bytV_int]; exact putPart_intPart vn a cap xs w hs ka (by omega) h2.1 h2.2
  · rw [bytV_text]; exact putPart_textPart _ vs a cap xs w hs ka (by omega) (txt_byt hsh) rfl (by omega)
  · rw [bytV_list]
    exact putPart_list d ih N a cap xs vK vL la lc (deep + 1) w hN hs ka ⟨la, lc, rfl, hc⟩ hkids hn (by omega) hlen
  · have hmm : vK.length = vL.length ∧ ascB vK = true := by
      rcases hk with hk | ⟨hk, _⟩ | ⟨hk, _⟩ | ⟨_, h1, h2⟩
      · omega
      · omega
      · omega
      · exact ⟨h1, h2⟩
    have hst : ∀ i, i < vL.length → stepB vK i = true := fun i hi => ascB_at hmm.2 (by omega)
    rw [bytV_map]
    exact putPart_map d ih N a cap xs vK vL b ps (deep + 1) w hN hs ka hm hc hst (fun i hi => key_byt (hst i hi)) hkids hn (by omega) hlen

theorem putPart_any (d : Nat) : PByAt d := by
  induction d with
  | zero => intro N a cap xs p v deep w hv; exact hv.elim
  | succ d ih => exact putPart_succ d ih

set_option maxHeartbeats 1600000 in
set_option maxRecDepth 100000 in
theorem impl_ValBytes_any (d N : Nat) (c0 c1 c2 c3 c4 : Value) (v : Vl d) (w : World) (hv : VSeg (fun b => b < N) w d (c0, c1, c2, c3, c4) v) (hN : N ≤ w.heap.size) :
    Calls Try.prog 7 #[.agg #[c0, c1, c2, c3, c4]] w (ByEnd d v w) := by
  have b0 : ∀ o : Obj, Below w.heap.size w (w.alloc o) := fun o => (Below.refl _ _).alloc (Nat.le_refl _) o
  have Hb := hide' b0
  have HC : Hid (∀ wx, Below w.heap.size w wx → Calls Try.prog 21 #[.agg #[c0, c1, c2, c3, c4]] wx (PartEnd d v wx)) := fun wx hb =>
    partOf_any d N c0 c1 c2 c3 c4 v wx (VSeg.agree (agree_below (hb.mono hN)) d hv) (by have := hb.size; omega)
  have HP : Hid (∀ p wx, okB d v = true → PSeg (fun b => b < wx.heap.size) wx d p v → Calls Try.prog 22 #[.slice none 0 0, p] wx fun e w' => ∃ a n c, e = .returned (.slice a n c) ∧ Bts w' wx.heap.size (.slice a n c) (valBytes d v) ∧ Below wx.heap.size wx w') := fun p wx hok hp => by
    obtain ⟨h1, h2⟩ := okB_parts hok
    refine (putPart_any d wx.heap.size none 0 [] p v 1 wx hp (Nat.le_refl _) ⟨by simp, .inl rfl⟩ (fun _ => rfl) h1 h2 (by simp; omega)).mono ?_
    rintro e w' ⟨u, rfl, hB, hbw⟩
    obtain ⟨a, c, rfl, _⟩ := hB.shape
    exact ⟨a, _, c, rfl, by rw [valBytes, if_pos hok]; exact hB, hbw⟩
  obtain ⟨vk, vn, a2, l2, p2, a3, l3, p3, a4, l4, p4, rfl, rfl, rfl, rfl, rfl⟩ := VSeg.form d hv
  clear hv b0
  go_enter Try.func7, Try.ntmps7
  go_wp2_with fail
  refine (HC.out _ (Hb.out _)).mono ?_
  rintro e w1 ⟨b1, ⟨p, rfl, hok, hps⟩ | ⟨rfl, hok⟩⟩
  · have B1 := Below.on (Hb.out _) b1
    have HP2 := hide' (HP.out p w1 hok (PSeg.carry (fun b h => h.2) (fun _ _ => rfl) d hps))
    obtain ⟨tp, xp, rfl⟩ := hps.shape
    clear b1 hps HC HP
    go_wp2_with fail
    refine HP2.out.mono ?_
    rintro e w2 ⟨a, n, c, rfl, hB, b2⟩
    have B2 := Below.on B1 b2
    have HB := hide' (hB.mono (base' := w.heap.size) B1.size)
    clear b2 hB
    go_wp2
    go_ret2
    exact ⟨a, n, c, by rw [hok]; rfl, HB.out, B2⟩
  · have B1 := Below.on (Hb.out _) b1
    clear b1
    go_wp2
    go_ret2
    exact ⟨none, 0, 0, by rw [hok]; rfl, by rw [valBytes, hok]; exact bts_nil _ _, B1⟩
end Go.Proofs.Ythgcljefmkiepaa
/-
  markByteS over a row that may bear a mark of the run-time behind its last cell.
-/
namespace Go.Proofs.Ythgcljefmkiepaa
open Go.RowKit
set_option linter.unusedVariables false

set_option maxHeartbeats 400000 in
theorem markByteS_F (a : Option Addr) (cap : Nat) (xs : List Int) (m : Nat) (w : World) (hB : BtsF w (.slice a xs.length cap) xs) (hl : xs.length ≤ 2097152) (hm : m ≤ 1125899906842624) :
    Calls Try.prog 11 #[.slice a xs.length cap, .int .i64 m] w fun e w' => e = .returned (.int .i64 ((m + xs.length : Nat) : Int)) ∧ BtsF w' (.slice a xs.length cap) (marks m xs.length) ∧ w.grownBy w' (Value.slice a xs.length cap).ownBlock := by
  have hown0 := hB.2
  generalize hn : xs.length = n at hown0
  have Hn : Hid (xs.length = n) := hn
  have hln : n ≤ 2097152 := by omega
  clear hn hl hB
  have hr : ∀ wr : World, ∀ k, k < n → RowF wr (.slice a n cap) n (marked xs m k) → ∃ g, a = some ⟨g, 0, none⟩ := by
    intro wr k hk h
    rcases h.2 with ⟨h1, h2⟩ | ⟨g, cp, cur, fr, h1, _⟩
    · omega
    · simp at h1
      exact ⟨g, h1.1⟩
  have Hr : Hid (∀ wr : World, ∀ k, k < n → RowF wr (.slice a n cap) n (marked xs m k) → ∃ g, a = some ⟨g, 0, none⟩) := hr
  clear hr
  go_enter Try.func11, Try.ntmps11
  go_wp2
  go_loopw [1, 5] (fun m' i wr => ∃ k : Nat, k ≤ n ∧ i = .int .i64 k ∧ m' = .int .i64 ((m + k : Nat) : Int) ∧ RowF wr (.slice a n cap) n (marked xs m k) ∧ w.grownBy wr (Value.slice a n cap).ownBlock) (fun _ i _ => n - (intOf i).toNat)
  case atStart => exact ⟨0, Nat.zero_le _, rfl, by simp, by rw [marked_zero]; exact hown0, World.grownBy.refl _ _⟩
  case round =>
    obtain ⟨k, hk, rfl, rfl, hown1, hbel⟩ := hrel
    by_cases hlt : k < n
    · obtain ⟨g, rfl⟩ := Hr.out wr k hlt hown1
      have hd : ∃ v, wr.cell? ⟨g, k, none⟩ = some v := by
        rw [hown1.cellAt k (by omega)]
        have := length_marked xs m k (by have := Hn.out; omega)
        have h2 := Hn.out
        exact ⟨_, List.getElem?_eq_getElem (by omega)⟩
      obtain ⟨v, hd⟩ := hd
      have hfz := hown1.frozenAt k hlt
      have hst := hown1.stored k (.int .u8 (((m + k) % 256 : Nat) : Int))
      rw [marked_set xs m k (by have := Hn.out; omega)] at hst
      obtain ⟨hst1, hst2⟩ := hst
      have hbel2 := grownBy_trans hbel hst2
      clear hst2 hown1 hbel
      have e : ((((m + k) % 256 : Nat) : Int)) = ((m : Int) + k) % 256 := by omega
      rw [e] at hst1 hbel2
      clear e
      go_wp2
      go_roundw
      case rel => exact ⟨k + 1, by omega, by go_num, by go_num, hst1, hbel2⟩
      case measure => simp [intOf]; omega
    · obtain rfl : k = n := by omega
      have hB : BtsF wr (.slice a k cap) (marks m k) := by
        refine ⟨marks_byt _ _, ?_⟩
        have h2 := Hn.out
        have h3 := marked_all xs m
        rw [h2] at h3
        rw [length_marks, ← h3]
        exact hown1
      go_wp2
      go_ret
      exact ⟨rfl, hB, hbel⟩

end Go.Proofs.Ythgcljefmkiepaa
