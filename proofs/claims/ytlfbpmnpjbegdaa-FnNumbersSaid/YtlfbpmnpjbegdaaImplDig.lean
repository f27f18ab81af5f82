/-
  numDigits of the program: the five bytes and how many of them count.
-/
import Derived.Test.YtlfbpmnpjbegdaaNums
import Derived.Test.YtlfbpmnpjbegdaaHelpC
namespace Go.Proofs.Ytlfbpmnpjbegdaa
open Go.RowKit
set_option linter.unusedVariables false

/-- Five bytes as an array's block. -/
def arr5 (c0 c1 c2 c3 c4 : Int) : Obj := .cells #[.int .u8 c0, .int .u8 c1, .int .u8 c2, .int .u8 c3, .int .u8 c4] 45

theorem below2 (w : World) (o1 o2 : Obj) : Below w.heap.size w ((w.alloc o1).alloc o2) :=
  ((Below.refl _ _).alloc (Nat.le_refl _) _).alloc (by simp) _

set_option maxHeartbeats 800000 in
theorem numDigits_no (n : Int) (w : World) (hn : n < 0 ∨ 2147483647 < n) :
    Calls Try.prog 40 #[.int .i64 n] w fun e w' => e = .returned (.tuple #[.agg #[.int .u8 0, .int .u8 0, .int .u8 0, .int .u8 0, .int .u8 0], .int .i64 0]) ∧ Below w.heap.size w w' := by
  rcases hn with hn | hn
  · go_enter Try.func40, Try.ntmps40
    go_wp2
    exact bodyPost_ret (v := .tuple #[.agg #[.int .u8 0, .int .u8 0, .int .u8 0, .int .u8 0, .int .u8 0], .int .i64 0]) (by simp [results, Try.results40, go_sem]) rfl ⟨rfl, below2 _ _ _⟩
  · have hn0 : ¬ n < 0 := by omega
    go_enter Try.func40, Try.ntmps40
    go_wp2
    exact bodyPost_ret (v := .tuple #[.agg #[.int .u8 0, .int .u8 0, .int .u8 0, .int .u8 0, .int .u8 0], .int .i64 0]) (by simp [results, Try.results40, go_sem]) rfl ⟨rfl, below2 _ _ _⟩

/-- After k rounds: k bytes are laid, m is left of n. -/
def DigAt (n k m : Nat) (c0 c1 c2 c3 c4 : Int) : Prop :=
  m * 128 ^ k ≤ 2147483647 ∧ ∃ pre : List Int, pre.length = k ∧ pre ++ digs m = digs n ∧ [c0, c1, c2, c3, c4] = pre ++ List.replicate (5 - k) 0

theorem digAt_k {n k m : Nat} {c0 c1 c2 c3 c4 : Int} (h : DigAt n k m c0 c1 c2 c3 c4) (hm : 128 ≤ m) : k = 0 ∨ k = 1 ∨ k = 2 ∨ k = 3 := by
  obtain ⟨h1, _⟩ := h
  by_cases hk : k < 4
  · omega
  · have h2 : 128 ^ 4 ≤ 128 ^ k := Nat.pow_le_pow_right (by omega) (by omega)
    have h3 : 128 * 128 ^ 4 ≤ m * 128 ^ k := Nat.mul_le_mul hm h2
    have : (128 : Nat) * 128 ^ 4 = 34359738368 := by decide
    omega

theorem digAt_k4 {n k m : Nat} {c0 c1 c2 c3 c4 : Int} (h : DigAt n k m c0 c1 c2 c3 c4) (hn : n ≤ 2147483647) : k = 0 ∨ k = 1 ∨ k = 2 ∨ k = 3 ∨ k = 4 := by
  obtain ⟨_, pre, hp, he, _⟩ := h
  have h1 := congrArg List.length he
  have h2 := digs_len n hn
  have h3 := digs_len_pos m
  simp at h1
  omega

theorem digAt_next {n k m : Nat} {c0 c1 c2 c3 c4 d0 d1 d2 d3 d4 : Int} (h : DigAt n k m c0 c1 c2 c3 c4) (hm : 128 ≤ m) (hd : [d0, d1, d2, d3, d4] = [c0, c1, c2, c3, c4].set k ((m : Int) % 128 + 128)) : DigAt n (k + 1) (m / 128) d0 d1 d2 d3 d4 := by
  have hk := digAt_k h hm
  obtain ⟨h1, pre, hp, he, hc⟩ := h
  refine ⟨?_, pre ++ [(m : Int) % 128 + 128], by simp [hp], ?_, ?_⟩
  · rw [Nat.pow_succ, Nat.mul_comm (128 ^ k) 128, ← Nat.mul_assoc]
    exact Nat.le_trans (Nat.mul_le_mul_right _ (Nat.div_mul_le_self m 128)) h1
  · rw [← he, digs_big m (by omega)]
    simp
  · rw [hd, hc, List.set_append_right _ _ (by omega), hp, Nat.sub_self]
    have : 5 - k = (5 - (k + 1)) + 1 := by omega
    rw [this, List.replicate_succ, List.set_cons_zero, List.append_assoc]
    rfl

theorem digAt_last {n k m : Nat} {c0 c1 c2 c3 c4 d0 d1 d2 d3 d4 : Int} (h : DigAt n k m c0 c1 c2 c3 c4) (hn : n ≤ 2147483647) (hm : m < 128) (hd : [d0, d1, d2, d3, d4] = [c0, c1, c2, c3, c4].set k (m : Int)) :
    (digs n).length = k + 1 ∧ [d0, d1, d2, d3, d4] = digs n ++ List.replicate (5 - (k + 1)) 0 := by
  have hk := digAt_k4 h hn
  obtain ⟨_, pre, hp, he, hc⟩ := h
  rw [digs_small m hm] at he
  refine ⟨by rw [← he]; simp [hp], ?_⟩
  rw [hd, hc, List.set_append_right _ _ (by omega), hp, Nat.sub_self]
  have : 5 - k = (5 - (k + 1)) + 1 := by omega
  rw [this, List.replicate_succ, List.set_cons_zero, ← he, List.append_assoc]
  rfl

set_option maxHeartbeats 1600000 in
theorem numDigits_yes (n : Nat) (w : World) (hn : n ≤ 2147483647) :
    Calls Try.prog 40 #[.int .i64 n] w fun e w' => ∃ c0 c1 c2 c3 c4 : Int, e = .returned (.tuple #[.agg #[.int .u8 c0, .int .u8 c1, .int .u8 c2, .int .u8 c3, .int .u8 c4], .int .i64 ((digs n).length : Nat)]) ∧
      [c0, c1, c2, c3, c4] = digs n ++ List.replicate (5 - (digs n).length) 0 ∧ Below w.heap.size w w' := by
  have hb1 : ¬ ((n : Int) < 0) := by omega
  have hb2 : ¬ ((2147483647 : Int) < n) := by omega
  have hd1 : decide ((n : Int) < 0) = false := by simp
  have hd2 : decide ((2147483647 : Int) < n) = false := by simp; omega
  go_enter Try.func40, Try.ntmps40
  go_wp2
  go_loopw [0, 5] (fun n' u wr => ∃ (m k : Nat) (c0 c1 c2 c3 c4 : Int), m ≤ 2147483647 ∧ n' = .int .i64 m ∧ u = .int .i64 k ∧ DigAt n k m c0 c1 c2 c3 c4 ∧
      wr = (w.alloc (.cells #[.int .u8 0, .int .u8 0, .int .u8 0, .int .u8 0, .int .u8 0] 45)).alloc (.cells #[.int .u8 c0, .int .u8 c1, .int .u8 c2, .int .u8 c3, .int .u8 c4] 45)) (fun n' _ _ => (intOf n').toNat)
  case atStart => exact ⟨n, 0, 0, 0, 0, 0, 0, hn, rfl, rfl, ⟨by simpa using hn, [], rfl, by simp, rfl⟩, rfl⟩
  case round =>
    obtain ⟨m, k, c0, c1, c2, c3, c4, hm, rfl, rfl, hD, rfl⟩ := hrel
    by_cases hbig : (128 : Int) ≤ (m : Int)
    · have HN : Hid (∀ d0 d1 d2 d3 d4 : Int, [d0, d1, d2, d3, d4] = [c0, c1, c2, c3, c4].set k ((m : Int) % 128 + 128) → DigAt n (k + 1) (m / 128) d0 d1 d2 d3 d4) := fun _ _ _ _ _ => digAt_next hD (by omega)
      rcases digAt_k hD (by omega) with rfl | rfl | rfl | rfl
      all_goals
        clear hD
        go_wp2
        go_roundw
        case rel => exact ⟨m / 128, _, _, _, _, _, _, by omega, by go_num, rfl, HN.out _ _ _ _ _ rfl, rfl⟩
        case measure => simp [intOf]; omega
    · have HN : Hid (∀ d0 d1 d2 d3 d4 : Int, [d0, d1, d2, d3, d4] = [c0, c1, c2, c3, c4].set k (m : Int) → (digs n).length = k + 1 ∧ [d0, d1, d2, d3, d4] = digs n ++ List.replicate (5 - (k + 1)) 0) := fun _ _ _ _ _ => digAt_last hD hn (by omega)
      rcases digAt_k4 hD hn with rfl | rfl | rfl | rfl | rfl
      · clear hD
        go_wp2
        refine bodyPost_ret (v := .tuple #[.agg #[.int .u8 (m : Int), .int .u8 c1, .int .u8 c2, .int .u8 c3, .int .u8 c4], .int .i64 1]) (by simp [results, Try.results40, go_sem]) rfl ?_
        obtain ⟨h1, h2⟩ := HN.out (m : Int) c1 c2 c3 c4 rfl
        exact ⟨(m : Int), c1, c2, c3, c4, by rw [h1]; rfl, by rw [h1]; exact h2, below2 _ _ _⟩
      · clear hD
        go_wp2
        refine bodyPost_ret (v := .tuple #[.agg #[.int .u8 c0, .int .u8 (m : Int), .int .u8 c2, .int .u8 c3, .int .u8 c4], .int .i64 2]) (by simp [results, Try.results40, go_sem]) rfl ?_
        obtain ⟨h1, h2⟩ := HN.out c0 (m : Int) c2 c3 c4 rfl
        exact ⟨c0, (m : Int), c2, c3, c4, by rw [h1]; rfl, by rw [h1]; exact h2, below2 _ _ _⟩
      · clear hD
        go_wp2
        refine bodyPost_ret (v := .tuple #[.agg #[.int .u8 c0, .int .u8 c1, .int .u8 (m : Int), .int .u8 c3, .int .u8 c4], .int .i64 3]) (by simp [results, Try.results40, go_sem]) rfl ?_
        obtain ⟨h1, h2⟩ := HN.out c0 c1 (m : Int) c3 c4 rfl
        exact ⟨c0, c1, (m : Int), c3, c4, by rw [h1]; rfl, by rw [h1]; exact h2, below2 _ _ _⟩
      · clear hD
        go_wp2
        refine bodyPost_ret (v := .tuple #[.agg #[.int .u8 c0, .int .u8 c1, .int .u8 c2, .int .u8 (m : Int), .int .u8 c4], .int .i64 4]) (by simp [results, Try.results40, go_sem]) rfl ?_
        obtain ⟨h1, h2⟩ := HN.out c0 c1 c2 (m : Int) c4 rfl
        exact ⟨c0, c1, c2, (m : Int), c4, by rw [h1]; rfl, by rw [h1]; exact h2, below2 _ _ _⟩
      · clear hD
        go_wp2
        refine bodyPost_ret (v := .tuple #[.agg #[.int .u8 c0, .int .u8 c1, .int .u8 c2, .int .u8 c3, .int .u8 (m : Int)], .int .i64 5]) (by simp [results, Try.results40, go_sem]) rfl ?_
        obtain ⟨h1, h2⟩ := HN.out c0 c1 c2 c3 (m : Int) rfl
        exact ⟨c0, c1, c2, c3, (m : Int), by rw [h1]; rfl, by rw [h1]; exact h2, below2 _ _ _⟩
end Go.Proofs.Ytlfbpmnpjbegdaa
