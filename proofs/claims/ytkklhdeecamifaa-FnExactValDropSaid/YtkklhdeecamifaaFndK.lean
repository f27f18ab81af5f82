/-
  l2find of the specification: where a key stands.
-/
import Derived.Test.YtkklhdeecamifaaL2e
namespace Go.Proofs.Ytkklhdeecamifaa
open Go.RowKit
set_option linter.unusedVariables false
set_option linter.unusedSimpArgs false

/-- Where a key stands; -1 where it does not. -/
def findK (ks : List (List Int)) (key : List Int) : Int := match ks.findIdx? (fun k => decide (k = key)) with | some i => i | none => -1

theorem findK_at {ks : List (List Int)} {key : List Int} {k : Nat} (hk : k < ks.length) (hn : ∀ i, i < k → ks.getD i [] ≠ key) (he : ks.getD k [] = key) : findK ks key = k := by
  have : ks.findIdx? (fun x => decide (x = key)) = some k := by
    rw [List.findIdx?_eq_some_iff_getElem]
    refine ⟨hk, ?_, fun j hj => ?_⟩
    · simp [List.getD_eq_getElem?_getD, hk] at he
      simp [he]
    · have h1 := hn j hj
      simp [List.getD_eq_getElem?_getD, (show j < ks.length by omega)] at h1
      simp [h1]
  simp [findK, this]

theorem findK_no {ks : List (List Int)} {key : List Int} (hn : ∀ i, i < ks.length → ks.getD i [] ≠ key) : findK ks key = -1 := by
  have : ks.findIdx? (fun x => decide (x = key)) = none := by
    rw [List.findIdx?_eq_none_iff]
    intro x hx
    obtain ⟨i, hi, rfl⟩ := List.getElem_of_mem hx
    have h1 := hn i hi
    simp [List.getD_eq_getElem?_getD, hi] at h1
    simp [h1]
  simp [findK, this]

set_option maxHeartbeats 3200000 in
theorem spec_l2find_any (N : Nat) (c0 c1 c2 c4 : Value) (a3 : Option Addr) (n3 p3 : Nat) (ks : List (List Int)) (ka : Option Addr) (kc : Nat) (key : List Int) (w : World) (hK : KSeg (fun b => b < N) w (.slice a3 n3 p3) ks) (hN : N ≤ w.heap.size) (hkl : ks.length ≤ 1000) (hS : Seg w ka key) (hSb : ∀ x, ka = some x → key ≠ [] → x.block < w.heap.size) (hf : ∃ (k n : Int) (a2 : Option Addr) (l2 p2 : Nat) (a4 : Option Addr) (l4 p4 : Nat), c0 = .int .i64 k ∧ c1 = .int .i64 n ∧ c2 = .slice a2 l2 p2 ∧ c4 = .slice a4 l4 p4) :
    Calls Try.prog 27 #[.agg #[c0, c1, c2, .slice a3 n3 p3, c4], .slice ka key.length kc] w fun e w' => e = .returned (.int .i64 (findK ks key)) ∧ Below w.heap.size w w' := by
  obtain ⟨k0, n0, a2, l2, p2, a4, l4, p4, rfl, rfl, rfl, rfl⟩ := hf
  obtain rfl : n3 = ks.length := by obtain ⟨a, c, e, _⟩ := hK; simp at e; exact e.2.1
  have hB0 : ∀ o : Obj, Below w.heap.size w (w.alloc o) := fun o => (Below.refl _ _).alloc (Nat.le_refl _) o
  have HB0 := hide' hB0
  have HBx : Hid (∀ (o : Obj) (n : Nat), ((w.alloc o).drewN n).heap[w.heap.size]? = some o) := fun o n => (MapKept.heap_alloc w o).1
  have HKS : Hid (∀ (o : Obj) (n : Nat), KSeg (fun b => b < N) ((w.alloc o).drewN n) (.slice a3 ks.length p3) ks) := fun o n => hK.agree (agree_below ((below_drewN (hB0 o) n).mono hN))
  have HSg : Hid (∀ (o : Obj) (n : Nat), Seg ((w.alloc o).drewN n) ka key) := fun o n => hS.below (below_drewN (hB0 o) n) hSb
  clear hB0 hK hS hSb
  go_enter Try.func27, Try.ntmps27
  go_wp2_with fail
  go_loopw [5] (fun i wr => ∃ k : Nat, k ≤ ks.length ∧ i = .int .i64 k ∧ (∃ n, wr = (w.alloc (.cells #[.int .i64 k0, .int .i64 n0, .slice a2 l2 p2, .slice a3 ks.length p3, .slice a4 l4 p4] 30)).drewN n) ∧ ∀ i, i < k → ks.getD i [] ≠ key) (fun i _ => ks.length - (intOf i).toNat)
  case atStart => exact ⟨0, Nat.zero_le _, rfl, ⟨0, rfl⟩, fun i hi => absurd hi (by omega)⟩
  case round =>
    obtain ⟨k, hk, rfl, ⟨nd, rfl⟩, hnot⟩ := hrel
    obtain ⟨_, _, _, q3, _, _⟩ := row5 (HBx.out (.cells #[.int .i64 k0, .int .i64 n0, .slice a2 l2 p2, .slice a3 ks.length p3, .slice a4 l4 p4] 30) nd)
    have HNot := hide' hnot
    clear hnot
    by_cases hlt : k < ks.length
    · have hlt' : (k : Int) < (ks.length : Int) := by omega
      have hk0 : (0 : Int) ≤ (k : Int) := Int.natCast_nonneg _
      obtain ⟨kb, ko, rfl, hat⟩ := (HKS.out (.cells #[.int .i64 k0, .int .i64 n0, .slice a2 l2 p2, .slice a3 ks.length p3, .slice a4 l4 p4] 30) nd).at hlt
      obtain ⟨s2, e2, hu, g2, m2⟩ := hat k hlt
      have hsg := HSg.out (.cells #[.int .i64 k0, .int .i64 n0, .slice a2 l2 p2, .slice (some ⟨kb, ko, none⟩) ks.length p3, .slice a4 l4 p4] 30) nd
      generalize hwr : ((w.alloc (.cells #[.int .i64 k0, .int .i64 n0, .slice a2 l2 p2, .slice (some ⟨kb, ko, none⟩) ks.length p3, .slice a4 l4 p4] 30)).drewN nd) = wr at *
      have hcv2 : ∀ n, (convert 22 9 (.slice s2 (ks.getD k []).length e2)).run Try.prog (wr.drewN n) = .ok (.string (strOf (ks.getD k []))) (wr.drewN n) := fun n => conv_seg (w := wr.drewN n) e2 g2
      have hcv3 : ∀ n, (convert 22 9 (.slice ka key.length kc)).run Try.prog (wr.drewN n) = .ok (.string (strOf key)) (wr.drewN n) := fun n => conv_seg (w := wr.drewN n) kc hsg
      have hE := strOf_eq g2.1 hsg.1
      have HB : Hid (∀ n, Below w.heap.size w (wr.drewN n)) := by
        intro n
        rw [← hwr]
        exact below_drewN (below_drewN (HB0.out _) nd) n
      have HW : Hid (∀ n, ∃ n', wr.drewN n = (w.alloc (.cells #[.int .i64 k0, .int .i64 n0, .slice a2 l2 p2, .slice (some ⟨kb, ko, none⟩) ks.length p3, .slice a4 l4 p4] 30)).drewN n') := fun n => ⟨nd + n, by rw [← hwr]; simp [World.drewN, Nat.add_assoc]⟩
      by_cases he : ks.getD k [] = key
      · have hF := hide' (findK_at hlt HNot.out he)
        rw [decide_eq_true he] at hE
        generalize ks.getD k [] = xs at *
        clear hat g2 hsg hwr he HNot HKS HSg
        go_wp2_with fail
        go_quiet (fail)
        go_wp2
        go_ret
        exact ⟨ret_i64 hF.out.symm, HB.out _⟩
      · have hNot' : Hid (∀ i, i < k + 1 → ks.getD i [] ≠ key) := fun i hi => by
          by_cases e : i = k
          · subst e; exact he
          · exact HNot.out i (by omega)
        rw [decide_eq_false he] at hE
        generalize ks.getD k [] = xs at *
        clear hat g2 hsg hwr he HNot HKS HSg
        go_wp2_with fail
        go_quiet (fail)
        go_wp2
        go_roundw
        case rel => exact ⟨k + 1, by omega, by go_num, HW.out _, hNot'.out⟩
        case measure => simp [intOf]; omega
    · have hkn : k = ks.length := by omega
      subst hkn
      have hlt' : ¬ (ks.length : Int) < (ks.length : Int) := by omega
      have hF := hide' (findK_no HNot.out)
      clear HNot HKS HSg
      go_wp2
      go_ret
      exact ⟨ret_i64 hF.out.symm, below_drewN (HB0.out _) _⟩
end Go.Proofs.Ytkklhdeecamifaa
