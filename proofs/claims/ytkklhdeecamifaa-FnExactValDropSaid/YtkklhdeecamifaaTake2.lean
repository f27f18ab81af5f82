/-
  take of the program at lists and maps, and at every value; partOf, ValOk of the program.
-/
import Derived.Test.YtkklhdeecamifaaTake
namespace Go.Proofs.Ytkklhdeecamifaa
open Go.RowKit
set_option linter.unusedVariables false
set_option linter.unusedSimpArgs false

/-- What take says. -/
def TakeEnd (d : Nat) (v : Vl d) (deep n q : Nat) (w : World) (e : Ending) (w' : World) : Prop :=
  w.grownBy w' (some q) ∧ ((∃ p, e = .returned (.tuple #[p, .bool true]) ∧ Took d v deep n q w w' p) ∨ (e = .returned (.tuple #[.nilIface, .bool false]) ∧ ¬ (goodB d v deep = true ∧ n + partsV d v ≤ 40)))

set_option maxHeartbeats 4000000 in
set_option maxRecDepth 100000 in
theorem take_list (d : Nat) (ih : TakeAt d) (N q n : Nat) (x : Value) (vL : List (Vl d)) (a2 a3 : Option Addr) (p2 p3 : Nat) (deep : Nat) (w : World) (hx : LSeg (fun b => b < N) w d x vL) (hNq : N ≤ q) (hq : q < w.heap.size) (hc : Cnt w q n) (hn : n < 40) (hd : deep ≤ 5) :
    Calls Try.prog 48 #[.pointer (some ⟨q, 0, none⟩), .agg #[.int .i64 4, .int .i64 0, .slice a2 0 p2, .slice a3 0 p3, x], .int .i64 deep] w (TakeEnd (d + 1) (4, 0, [], [], vL) deep n q w) := by
  have HX := hide' hx
  obtain ⟨a4, p4, rfl, hlc, hcm, ka, _⟩ := hx
  unfold maxLen at hcm
  have HA : Hid (Cnt w q n) := hc
  have HI := hide' ih
  obtain ⟨hc0, hf0⟩ := hc.cell
  have hne : q ≠ w.heap.size := by omega
  have hnn : ¬ (40 : Int) < (n : Int) + 1 := by omega
  have hdd : ¬ (5 : Int) < (deep : Int) := by omega
  clear hc ih
  go_enter Try.func48, Try.ntmps48
  go_wp2_with fail
  refine (impl_bare_any _ _ _ _ _ _ _ _ _ _ _ _).mono ?_
  rintro e w2 ⟨rfl, b2⟩
  have hA := ahead_of rfl hq HA.out b2
  rw [show bareB 4 0 0 0 vL.length = true from by simp [bareB]]
  obtain ⟨y0, y1, y2, y3, y4, _⟩ := row5 hA.2.2
  have hs2 := hA.1.size
  have hT := takeAll_of d HI.out N q (n + 1) _ vL (deep + 1) w2 (HX.out.agree (agree_grown hA.1 hNq hq)) hNq (by omega) hA.2.1 (by omega) (by omega)
  rw [Int.natCast_add] at hT
  have HT := hide' hT
  have HAh := hide' hA
  clear b2 hA hT
  go_wp2_with fail
  refine HT.out.mono ?_
  rintro e w3 ⟨hg3, hcase⟩
  have hgf := grownBy_trans HAh.out.1 hg3
  rcases hcase with ⟨y, rfl, htook⟩ | ⟨rfl, hbad⟩
  · obtain ⟨hgood, hle, hcnt, a, cap, ps, rfl, hcell, hpp⟩ := htook
    have hG : goodB (d + 1) (4, 0, [], [], vL) deep = true := (good_succ _ _ _ _ _ _ _).2 ⟨hd, by simp [shapeB, bareB], hgood⟩
    have hP := parts_succ d 4 0 [] [] vL
    have hE : Hid (Took (d + 1) (4, 0, [], [], vL) deep n q w w3 (.iface 76 (.agg #[.slice a vL.length cap]))) := by
      have e1 : n + partsV (d + 1) (4, 0, [], [], vL) = n + 1 + pre (partsV d) vL vL.length := by rw [hP]; omega
      refine ⟨hG, by rw [e1]; omega, by rw [e1]; exact hcnt, .inr (.inr (.inr (.inr (.inr (.inl ⟨rfl, a, cap, rfl, ?_⟩)))))⟩
      rcases hcell with h0 | ⟨b, rfl, hb1, hb2, hcc⟩
      · exact .inl h0
      · refine .inr ⟨b, 0, rfl, ⟨by omega, hb2⟩, fun i hi => ⟨ps.getD i .nilIface, by rw [Nat.zero_add]; exact hcc i hi, PSeg.carry (fun b hb => ⟨by omega, hb.2⟩) (fun b _ => rfl) d (hpp i hi)⟩⟩
    clear hgood hle hcnt hcell hpp hG hP y0 y1 y2 y3 y4 HT HAh
    go_wp2
    go_ret2
    exact ⟨hgf, .inl ⟨_, rfl, hE.out⟩⟩
  · have hno : Hid (¬ (goodB (d + 1) (4, 0, [], [], vL) deep = true ∧ n + partsV (d + 1) (4, 0, [], [], vL) ≤ 40)) := fun ⟨h1, h2⟩ => hbad ⟨((good_succ _ _ _ _ _ _ _).1 h1).2.2, by rw [parts_succ] at h2; omega⟩
    clear hbad y0 y1 y2 y3 y4 HT HAh
    go_wp2
    go_ret2
    exact ⟨hgf, .inr ⟨rfl, hno.out⟩⟩

set_option maxHeartbeats 4000000 in
set_option maxRecDepth 100000 in
theorem take_map (d : Nat) (ih : TakeAt d) (N q n : Nat) (z x : Value) (vK : List (List Int)) (vL : List (Vl d)) (a2 : Option Addr) (p2 : Nat) (deep : Nat) (w : World) (hz : KSeg (fun b => b < N) w z vK) (hx : LSeg (fun b => b < N) w d x vL) (hNq : N ≤ q) (hq : q < w.heap.size) (hc : Cnt w q n) (hn : n < 40) (hd : deep ≤ 5) :
    Calls Try.prog 48 #[.pointer (some ⟨q, 0, none⟩), .agg #[.int .i64 5, .int .i64 0, .slice a2 0 p2, z, x], .int .i64 deep] w (TakeEnd (d + 1) (5, 0, [], vK, vL) deep n q w) := by
  have HX := hide' hx
  have HZ := hide' hz
  obtain ⟨a4, p4, rfl, hlc, hcm, ka, _⟩ := hx
  obtain ⟨a3, p3, rfl, hlc3, hcm3, ka3, _⟩ := hz
  unfold maxLen at hcm hcm3
  have HA : Hid (Cnt w q n) := hc
  have HI := hide' ih
  obtain ⟨hc0, hf0⟩ := hc.cell
  have hne : q ≠ w.heap.size := by omega
  have hnn : ¬ (40 : Int) < (n : Int) + 1 := by omega
  have hdd : ¬ (5 : Int) < (deep : Int) := by omega
  clear hc ih
  go_enter Try.func48, Try.ntmps48
  go_wp2_with fail
  refine (impl_bare_any _ _ _ _ _ _ _ _ _ _ _ _).mono ?_
  rintro e w2 ⟨rfl, b2⟩
  have hA := ahead_of rfl hq HA.out b2
  rw [show bareB 5 0 0 vK.length vL.length = true from by simp [bareB]]
  obtain ⟨y0, y1, y2, y3, y4, _⟩ := row5 hA.2.2
  have hs2 := hA.1.size
  have HT := hide' (takeMap_of d HI.out N q (n + 1) 5 0 a2 0 p2 _ _ vK vL deep w2 (HZ.out.agree (agree_grown hA.1 hNq hq)) (HX.out.agree (agree_grown hA.1 hNq hq)) hNq (by omega) hA.2.1 (by omega) hd)
  have HAh := hide' hA
  clear b2 hA
  go_wp2_with fail
  refine HT.out.mono ?_
  rintro e w3 ⟨hg3, hcase⟩
  have hgf := grownBy_trans HAh.out.1 hg3
  have hP := parts_succ d 5 0 [] vK vL
  rcases hcase with ⟨y, rfl, hkl, has, hgood, hle, hcnt, hps⟩ | ⟨rfl, hbad⟩
  · have hG : goodB (d + 1) (5, 0, [], vK, vL) deep = true := (good_succ _ _ _ _ _ _ _).2 ⟨hd, by rw [shape_map hkl]; exact has, hgood⟩
    have hE : Hid (Took (d + 1) (5, 0, [], vK, vL) deep n q w w3 y) := by
      have e1 : n + partsV (d + 1) (5, 0, [], vK, vL) = n + 1 + pre (partsV d) vL vL.length := by rw [hP]; omega
      exact ⟨hG, by rw [e1]; omega, by rw [e1]; exact hcnt, PSeg.carry (fun b hb => ⟨by omega, hb.2⟩) (fun b _ => rfl) (d + 1) hps⟩
    clear hgood hle hcnt hps hG hP has hkl y0 y1 y2 y3 y4 HT HAh
    go_wp2
    go_ret2
    exact ⟨hgf, .inl ⟨_, rfl, hE.out⟩⟩
  · have hno : Hid (¬ (goodB (d + 1) (5, 0, [], vK, vL) deep = true ∧ n + partsV (d + 1) (5, 0, [], vK, vL) ≤ 40)) := fun ⟨h1, h2⟩ => hbad (by
      obtain ⟨_, g2, g3⟩ := (good_succ _ _ _ _ _ _ _).1 h1
      by_cases hkl : vK.length = vL.length
      · rw [shape_map hkl] at g2
        exact ⟨hkl, g2, g3, by rw [hP] at h2; omega⟩
      · rw [shape_map_no hkl] at g2
        simp at g2)
    clear hbad hP y0 y1 y2 y3 y4 HT HAh
    go_wp2
    go_ret2
    exact ⟨hgf, .inr ⟨rfl, hno.out⟩⟩
end Go.Proofs.Ytkklhdeecamifaa
