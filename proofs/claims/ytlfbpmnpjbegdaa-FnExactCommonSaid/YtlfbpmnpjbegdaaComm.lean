/-
  Common, of the program and of the specification: of two slices it tells how many bytes they begin with alike, and turns nothing.
-/
import Derived.Test.YtlfbpmnpjbegdaaHelpC
namespace Go.Proofs.Ytlfbpmnpjbegdaa
open Go.RowKit
set_option linter.unusedVariables false

/-- How many numbers two lists begin with alike. -/
def com : List Int → List Int → Nat
  | x :: xs, y :: ys => if x = y then com xs ys + 1 else 0
  | _, _ => 0

theorem com_le (xs ys : List Int) : com xs ys ≤ xs.length ∧ com xs ys ≤ ys.length := by
  induction xs generalizing ys with
  | nil => simp [com]
  | cons x xs ih =>
    cases ys with
    | nil => simp [com]
    | cons y ys =>
      unfold com
      have := ih ys
      split <;> simp <;> omega

theorem com_step (xs ys : List Int) (k : Nat) (h : k ≤ com xs ys) (h1 : k < xs.length) (h2 : k < ys.length) (he : xs.getD k 0 = ys.getD k 0) : k + 1 ≤ com xs ys := by
  induction xs generalizing ys k with
  | nil => simp at h1
  | cons x xs ih =>
    cases ys with
    | nil => simp at h2
    | cons y ys =>
      cases k with
      | zero => simp at he; simp [com, he]
      | succ k =>
        unfold com at h ⊢
        split at h
        · next hxy =>
          rw [if_pos hxy]
          have := ih ys k (by omega) (by simpa using h1) (by simpa using h2) (by simpa using he)
          omega
        · omega

theorem com_stop (xs ys : List Int) (k : Nat) (h : k ≤ com xs ys) (h1 : k < xs.length) (h2 : k < ys.length) (he : xs.getD k 0 ≠ ys.getD k 0) : k = com xs ys := by
  induction xs generalizing ys k with
  | nil => simp at h1
  | cons x xs ih =>
    cases ys with
    | nil => simp at h2
    | cons y ys =>
      cases k with
      | zero =>
        have he' : x ≠ y := by simpa using he
        simp [com, he']
      | succ k =>
        unfold com at h ⊢
        split at h
        · next hxy =>
          rw [if_pos hxy]
          have := ih ys k (by omega) (by simpa using h1) (by simpa using h2) (by simpa using he)
          omega
        · omega



set_option maxHeartbeats 800000 in
theorem impl_Common_quiet (a b : Option Addr) (c1 c2 : Nat) (xs ys : List Int) (w : World) (ha : Seg w a xs) (hb : Seg w b ys) (hl1 : xs.length ≤ 2097152) (hl2 : ys.length ≤ 2097152) :
    Calls Try.prog 21 #[.slice a xs.length c1, .slice b ys.length c2] w fun e w' => e = .returned (.int .i64 (com xs ys)) ∧ ∃ m, w' = w.drewN m := by
  have hcl := com_le xs ys
  have Hstep : Hid (∀ k, k ≤ com xs ys → k < xs.length → k < ys.length → xs.getD k 0 = ys.getD k 0 → k + 1 ≤ com xs ys) := com_step xs ys
  have Hstop : Hid (∀ k, k ≤ com xs ys → k < xs.length → k < ys.length → xs.getD k 0 ≠ ys.getD k 0 → k = com xs ys) := com_stop xs ys
  generalize hm : com xs ys = m at *
  generalize hn1 : xs.length = n1 at *
  generalize hn2 : ys.length = n2 at *
  have Hn1 : Hid (xs.length = n1) := hn1
  have Hn2 : Hid (ys.length = n2) := hn2
  clear hm hn1 hn2
  obtain ⟨hcl1, hcl2⟩ := hcl
  go_enter Try.func21, Try.ntmps21
  go_wp2
  go_loopw [5] (fun i wr => ∃ k mm : Nat, k ≤ m ∧ i = .int .i64 k ∧ wr = w.drewN mm) (fun i _ => m - (intOf i).toNat)
  case atStart => exact ⟨0, 0, Nat.zero_le _, rfl, rfl⟩
  case round =>
    obtain ⟨k, mm, hk, rfl, rfl⟩ := hrel
    have hbel : Below w.heap.size w (w.drewN mm) := below_drewN (Below.refl _ _) mm
    by_cases hlt1 : k < n1
    · by_cases hlt2 : k < n2
      · obtain ⟨b1, o1, rfl, hc1⟩ := ha.at (k := k) (by have := Hn1.out; omega)
        obtain ⟨b2, o2, rfl, hc2⟩ := hb.at (k := k) (by have := Hn2.out; omega)
        have hlt1' : (k : Int) < (n1 : Int) := by omega
        have hlt2' : (k : Int) < (n2 : Int) := by omega
        have Hs := Hstep.out k hk hlt1 hlt2
        have Ht := Hstop.out k hk hlt1 hlt2
        generalize xs.getD k 0 = c at hc1 Hs Ht
        generalize ys.getD k 0 = d at hc2 Hs Ht
        by_cases hcd : c = d
        · subst hcd
          have hk1 := Hs rfl
          clear Hs Ht
          go_wp2
          go_quiet (fail)
          go_wp2
          go_roundw
          case rel => exact ⟨k + 1, mm + nq, by omega, by go_num, by first | rfl | exact World.drewN_drewN _ _ _⟩
          case measure => simp [intOf]; omega
        · have hkm := Ht hcd
          have hcd' : (c == d) = false := by simp [hcd]
          have Hkm : Hid (k = m) := hkm
          clear Hs Ht hkm
          go_wp2
          go_quiet (fail)
          go_wp2
          go_ret
          exact ⟨ret_i64 (by rw [Hkm.out]), mm + nq, by first | rfl | exact World.drewN_drewN _ _ _⟩
      · have hd1 : decide ((k : Int) < (n1 : Int)) = true := by simp; omega
        have hd2 : decide ((k : Int) < (n2 : Int)) = false := by simp; omega
        have Hkm : Hid (k = m) := by show k = m; omega
        go_wp2
        go_quiet (fail)
        go_wp2
        go_ret
        exact ⟨ret_i64 (by rw [Hkm.out]), mm + nq, by first | rfl | exact World.drewN_drewN _ _ _⟩
    · have hd1 : decide ((k : Int) < (n1 : Int)) = false := by simp; omega
      have Hkm : Hid (k = m) := by show k = m; omega
      go_wp2
      go_quiet (fail)
      go_wp2
      go_ret
      exact ⟨ret_i64 (by rw [Hkm.out]), mm + nq, by first | rfl | exact World.drewN_drewN _ _ _⟩

theorem impl_Common_any (a b : Option Addr) (c1 c2 : Nat) (xs ys : List Int) (w : World) (ha : Seg w a xs) (hb : Seg w b ys) (hl1 : xs.length ≤ 2097152) (hl2 : ys.length ≤ 2097152) :
    Calls Try.prog 21 #[.slice a xs.length c1, .slice b ys.length c2] w fun e w' => e = .returned (.int .i64 (com xs ys)) ∧ Below w.heap.size w w' := by
  refine (impl_Common_quiet a b c1 c2 xs ys w ha hb hl1 hl2).mono ?_
  rintro e w1 ⟨rfl, m, rfl⟩
  exact ⟨rfl, below_drewN (Below.refl _ _) m⟩
set_option maxHeartbeats 800000 in
theorem spec_Common_quiet (a b : Option Addr) (c1 c2 : Nat) (xs ys : List Int) (w : World) (ha : Seg w a xs) (hb : Seg w b ys) (hl1 : xs.length ≤ 2097152) (hl2 : ys.length ≤ 2097152) :
    Calls Try.prog 36 #[.slice a xs.length c1, .slice b ys.length c2] w fun e w' => e = .returned (.int .i64 (com xs ys)) ∧ ∃ m, w' = w.drewN m := by
  have hcl := com_le xs ys
  have Hstep : Hid (∀ k, k ≤ com xs ys → k < xs.length → k < ys.length → xs.getD k 0 = ys.getD k 0 → k + 1 ≤ com xs ys) := com_step xs ys
  have Hstop : Hid (∀ k, k ≤ com xs ys → k < xs.length → k < ys.length → xs.getD k 0 ≠ ys.getD k 0 → k = com xs ys) := com_stop xs ys
  generalize hm : com xs ys = m at *
  generalize hn1 : xs.length = n1 at *
  generalize hn2 : ys.length = n2 at *
  have Hn1 : Hid (xs.length = n1) := hn1
  have Hn2 : Hid (ys.length = n2) := hn2
  clear hm hn1 hn2
  obtain ⟨hcl1, hcl2⟩ := hcl
  go_enter Try.func36, Try.ntmps36
  go_wp2
  go_loopw [5] (fun i wr => ∃ k mm : Nat, k ≤ m ∧ i = .int .i64 k ∧ wr = w.drewN mm) (fun i _ => m - (intOf i).toNat)
  case atStart => exact ⟨0, 0, Nat.zero_le _, rfl, rfl⟩
  case round =>
    obtain ⟨k, mm, hk, rfl, rfl⟩ := hrel
    have hbel : Below w.heap.size w (w.drewN mm) := below_drewN (Below.refl _ _) mm
    by_cases hlt1 : k < n1
    · by_cases hlt2 : k < n2
      · obtain ⟨b1, o1, rfl, hc1⟩ := ha.at (k := k) (by have := Hn1.out; omega)
        obtain ⟨b2, o2, rfl, hc2⟩ := hb.at (k := k) (by have := Hn2.out; omega)
        have hlt1' : (k : Int) < (n1 : Int) := by omega
        have hlt2' : (k : Int) < (n2 : Int) := by omega
        have Hs := Hstep.out k hk hlt1 hlt2
        have Ht := Hstop.out k hk hlt1 hlt2
        generalize xs.getD k 0 = c at hc1 Hs Ht
        generalize ys.getD k 0 = d at hc2 Hs Ht
        by_cases hcd : c = d
        · subst hcd
          have hk1 := Hs rfl
          clear Hs Ht
          go_wp2
          go_quiet (fail)
          go_wp2
          go_roundw
          case rel => exact ⟨k + 1, mm + nq, by omega, by go_num, by first | rfl | exact World.drewN_drewN _ _ _⟩
          case measure => simp [intOf]; omega
        · have hkm := Ht hcd
          have hcd' : (c == d) = false := by simp [hcd]
          have Hkm : Hid (k = m) := hkm
          clear Hs Ht hkm
          go_wp2
          go_quiet (fail)
          go_wp2
          go_ret
          exact ⟨ret_i64 (by rw [Hkm.out]), mm + nq, by first | rfl | exact World.drewN_drewN _ _ _⟩
      · have hd1 : decide ((k : Int) < (n1 : Int)) = true := by simp; omega
        have hd2 : decide ((k : Int) < (n2 : Int)) = false := by simp; omega
        have Hkm : Hid (k = m) := by show k = m; omega
        go_wp2
        go_quiet (fail)
        go_wp2
        go_ret
        exact ⟨ret_i64 (by rw [Hkm.out]), mm + nq, by first | rfl | exact World.drewN_drewN _ _ _⟩
    · have hd1 : decide ((k : Int) < (n1 : Int)) = false := by simp; omega
      have Hkm : Hid (k = m) := by show k = m; omega
      go_wp2
      go_quiet (fail)
      go_wp2
      go_ret
      exact ⟨ret_i64 (by rw [Hkm.out]), mm + nq, by first | rfl | exact World.drewN_drewN _ _ _⟩

theorem spec_Common_any (a b : Option Addr) (c1 c2 : Nat) (xs ys : List Int) (w : World) (ha : Seg w a xs) (hb : Seg w b ys) (hl1 : xs.length ≤ 2097152) (hl2 : ys.length ≤ 2097152) :
    Calls Try.prog 36 #[.slice a xs.length c1, .slice b ys.length c2] w fun e w' => e = .returned (.int .i64 (com xs ys)) ∧ Below w.heap.size w w' := by
  refine (spec_Common_quiet a b c1 c2 xs ys w ha hb hl1 hl2).mono ?_
  rintro e w1 ⟨rfl, m, rfl⟩
  exact ⟨rfl, below_drewN (Below.refl _ _) m⟩

end Go.Proofs.Ytlfbpmnpjbegdaa
