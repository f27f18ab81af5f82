/-
  Texts that a law leans on, one behind the other; no statement is proved here.
-/
import Derived.Test.YtenfnbnhdmkhkaaPk0
import Derived.Test.YtenfnbnhdmkhkaaPk10
/-
  Numbers as bytes, plain: what PutNum makes of a number, and what is read back; no Go text here.
-/
namespace Go.Proofs.Ytenfnbnhdmkhkaa
set_option linter.unusedVariables false

/-- The bytes of a number, seven bits a byte, the least first; the first argument bounds how many. -/
def digsF : Nat → Nat → List Int
  | 0, n => [(n : Int)]
  | f + 1, n => if n < 128 then [(n : Int)] else ((n % 128 + 128 : Nat) : Int) :: digsF f (n / 128)

/-- The bytes of a number. -/
def digs (n : Nat) : List Int := digsF n n

theorem digsF_small (f n : Nat) (h : n < 128) : digsF f n = [(n : Int)] := by
  cases f with
  | zero => rfl
  | succ f => simp [digsF, h]

theorem digsF_enough (f : Nat) : ∀ (g n : Nat), n ≤ f → n ≤ g → digsF f n = digsF g n := by
  induction f with
  | zero =>
    intro g n h1 h2
    rw [digsF_small 0 n (by omega), digsF_small g n (by omega)]
  | succ f ih =>
    intro g n h1 h2
    by_cases h : n < 128
    · rw [digsF_small _ n h, digsF_small _ n h]
    · cases g with
      | zero => omega
      | succ g =>
        simp only [digsF, if_neg h]
        rw [ih g (n / 128) (by omega) (by omega)]

theorem digs_small (n : Nat) (h : n < 128) : digs n = [(n : Int)] := digsF_small n n h
theorem digs_big (n : Nat) (h : ¬ n < 128) : digs n = ((n % 128 + 128 : Nat) : Int) :: digs (n / 128) := by
  unfold digs
  cases n with
  | zero => omega
  | succ m =>
    rw [digsF, if_neg h, digsF_enough m ((m + 1) / 128) ((m + 1) / 128) (by omega) (by omega)]

theorem digs_byt (n : Nat) : ∀ x ∈ digs n, Byt x := by
  induction n using Nat.strongRecOn with
  | ind n ih =>
    intro x hx
    by_cases h : n < 128
    · rw [digs_small n h] at hx
      simp at hx
      unfold Byt; omega
    · rw [digs_big n h] at hx
      simp at hx
      rcases hx with rfl | hx
      · unfold Byt; omega
      · exact ih (n / 128) (by omega) x hx

theorem digs_len_pos (n : Nat) : 1 ≤ (digs n).length := by
  by_cases h : n < 128
  · rw [digs_small n h]; simp
  · rw [digs_big n h]; simp

theorem digs_len (n : Nat) (h : n ≤ 2147483647) : (digs n).length ≤ 5 := by
  by_cases h1 : n < 128
  · rw [digs_small n h1]; simp
  rw [digs_big n h1]
  by_cases h2 : n / 128 < 128
  · rw [digs_small _ h2]; simp
  rw [digs_big _ h2]
  by_cases h3 : n / 128 / 128 < 128
  · rw [digs_small _ h3]; simp
  rw [digs_big _ h3]
  by_cases h4 : n / 128 / 128 / 128 < 128
  · rw [digs_small _ h4]; simp
  rw [digs_big _ h4, digs_small _ (by omega)]
  simp

/-- What PutNum answers. -/
def putNum (xs : List Int) (n : Int) : List Int := if n < 0 ∨ 2147483647 < n then xs else xs ++ digs n.toNat

theorem putNum_no (xs : List Int) (n : Int) (h : n < 0 ∨ 2147483647 < n) : putNum xs n = xs := by simp [putNum, h]
theorem putNum_yes (xs : List Int) (n : Int) (h0 : 0 ≤ n) (h1 : n ≤ 2147483647) : putNum xs n = xs ++ digs n.toNat := by
  rw [putNum, if_neg (by omega)]

theorem putNum_byt (xs : List Int) (n : Int) (h : ∀ x ∈ xs, Byt x) : ∀ x ∈ putNum xs n, Byt x := by
  intro x hx
  unfold putNum at hx
  split at hx
  · exact h x hx
  · rcases List.mem_append.1 hx with h1 | h1
    · exact h x h1
    · exact digs_byt _ x h1

theorem putNum_len (xs : List Int) (n : Int) : (putNum xs n).length ≤ xs.length + 5 := by
  unfold putNum
  split
  · omega
  · have := digs_len n.toNat (by omega)
    simp; omega

end Go.Proofs.Ytenfnbnhdmkhkaa
/-
  The laws' own helpers markByteS and heldByteS: the one writes running numbers into a row that is the call's own, the other finds them there.
-/
namespace Go.Proofs.Ytenfnbnhdmkhkaa
open Go.RowKit
set_option linter.unusedVariables false

/-- The running numbers, as bytes. -/
def marks (m n : Nat) : List Int := (List.range n).map fun i => (((m + i) % 256 : Nat) : Int)

theorem length_marks (m n : Nat) : (marks m n).length = n := by simp [marks]
theorem marks_byt (m n : Nat) : ∀ x ∈ marks m n, Byt x := by
  intro x hx
  simp only [marks, List.mem_map] at hx
  obtain ⟨i, _, rfl⟩ := hx
  unfold Byt
  omega
theorem marks_at (m n k : Nat) (h : k < n) : (marks m n).getD k 0 = (((m + k) % 256 : Nat) : Int) := by simp [marks, h]

/-- What a row holds after k of the marks. -/
def marked (xs : List Int) (m k : Nat) : List Value := cellsOf (marks m k) ++ cellsOf (xs.drop k)
theorem marked_zero (xs : List Int) (m : Nat) : marked xs m 0 = cellsOf xs := by simp [marked, marks, cellsOf]
theorem marked_all (xs : List Int) (m : Nat) : marked xs m xs.length = cellsOf (marks m xs.length) := by simp [marked, cellsOf]
theorem length_marked (xs : List Int) (m k : Nat) (h : k ≤ xs.length) : (marked xs m k).length = xs.length := by simp [marked, marks, cellsOf]; omega
theorem marked_set (xs : List Int) (m k : Nat) (h : k < xs.length) : (marked xs m k).set k (.int .u8 (((m + k) % 256 : Nat) : Int)) = marked xs m (k + 1) := by
  apply List.ext_getElem
  · simp [marked, marks, cellsOf]; omega
  · intro i h1 h2
    simp only [marked, marks, cellsOf, List.getElem_set, List.getElem_append, List.length_map, List.length_range]
    by_cases hik : k = i
    · subst hik
      simp
    · by_cases hlt : i < k
      · have e2 : i < k + 1 := by omega
        simp [hik, hlt, e2]
      · have e2 : ¬ i < k + 1 := by omega
        have e3 : k + 1 + (i - (k + 1)) = k + (i - k) := by omega
        simp [hik, hlt, e2, e3]



end Go.Proofs.Ytenfnbnhdmkhkaa
/-
  numDigits of the program: the five bytes and how many of them count.
-/
namespace Go.Proofs.Ytenfnbnhdmkhkaa
open Go.RowKit
set_option linter.unusedVariables false

theorem below2 (w : World) (o1 o2 : Obj) : Below w.heap.size w ((w.alloc o1).alloc o2) :=
  ((Below.refl _ _).alloc (Nat.le_refl _) _).alloc (by simp) _

/-- After k rounds: k bytes are laid, m is left of n. -/
def DigAt (n k m : Nat) (c0 c1 c2 c3 c4 : Int) : Prop :=
  m * 128 ^ k ≤ 2147483647 ∧ ∃ pre : List Int, pre.length = k ∧ pre ++ digs m = digs n ∧ [c0, c1, c2, c3, c4] = pre ++ List.replicate (5 - k) 0

theorem digAt_k {n k m : Nat} {c0 c1 c2 c3 c4 : Int} (h : DigAt n k m c0 c1 c2 c3 c4) (hm : 128 ≤ m) : k = 0 ∨ k = 1 ∨ k = 2 ∨ k = 3 := by
  obtain ⟨h1, _⟩ := h
  by_cases hk : k < 4
  · omega
  · have h2 : 128 ^ 4 ≤ 128 ^ k := Nat.pow_le_pow_right (by omega) (by omega)
    have h3 : 128 * 128 ^ 4 ≤ m * 128 ^ k := Nat.mul_le_mul hm h2
    have : (128 : Nat) * 128 ^ 4 = 34359738368 := by decide
    omega

theorem digAt_k4 {n k m : Nat} {c0 c1 c2 c3 c4 : Int} (h : DigAt n k m c0 c1 c2 c3 c4) (hn : n ≤ 2147483647) : k = 0 ∨ k = 1 ∨ k = 2 ∨ k = 3 ∨ k = 4 := by
  obtain ⟨_, pre, hp, he, _⟩ := h
  have h1 := congrArg List.length he
  have h2 := digs_len n hn
  have h3 := digs_len_pos m
  simp at h1
  omega

theorem digAt_next {n k m : Nat} {c0 c1 c2 c3 c4 d0 d1 d2 d3 d4 : Int} (h : DigAt n k m c0 c1 c2 c3 c4) (hm : 128 ≤ m) (hd : [d0, d1, d2, d3, d4] = [c0, c1, c2, c3, c4].set k ((m : Int) % 128 + 128)) : DigAt n (k + 1) (m / 128) d0 d1 d2 d3 d4 := by
  have hk := digAt_k h hm
  obtain ⟨h1, pre, hp, he, hc⟩ := h
  refine ⟨?_, pre ++ [(m : Int) % 128 + 128], by simp [hp], ?_, ?_⟩
  · rw [Nat.pow_succ, Nat.mul_comm (128 ^ k) 128, ← Nat.mul_assoc]
    exact Nat.le_trans (Nat.mul_le_mul_right _ (Nat.div_mul_le_self m 128)) h1
  · rw [← he, digs_big m (by omega)]
    simp
  · rw [hd, hc, List.set_append_right _ _ (by omega), hp, Nat.sub_self]
    have : 5 - k = (5 - (k + 1)) + 1 := by omega
    rw [this, List.replicate_succ, List.set_cons_zero, List.append_assoc]
    rfl

theorem digAt_last {n k m : Nat} {c0 c1 c2 c3 c4 d0 d1 d2 d3 d4 : Int} (h : DigAt n k m c0 c1 c2 c3 c4) (hn : n ≤ 2147483647) (hm : m < 128) (hd : [d0, d1, d2, d3, d4] = [c0, c1, c2, c3, c4].set k (m : Int)) :
    (digs n).length = k + 1 ∧ [d0, d1, d2, d3, d4] = digs n ++ List.replicate (5 - (k + 1)) 0 := by
  have hk := digAt_k4 h hn
  obtain ⟨_, pre, hp, he, hc⟩ := h
  rw [digs_small m hm] at he
  refine ⟨by rw [← he]; simp [hp], ?_⟩
  rw [hd, hc, List.set_append_right _ _ (by omega), hp, Nat.sub_self]
  have : 5 - k = (5 - (k + 1)) + 1 := by omega
  rw [this, List.replicate_succ, List.set_cons_zero, ← he, List.append_assoc]
  rfl

end Go.Proofs.Ytenfnbnhdmkhkaa
/-
  The specification's PutNum: it makes a row of its own that holds its argument's bytes and those of the number behind them.
-/
namespace Go.Proofs.Ytenfnbnhdmkhkaa
open Go.RowKit
set_option linter.unusedVariables false

set_option maxHeartbeats 800000 in
theorem spec_PutNum_no (a : Option Addr) (cap : Nat) (xs : List Int) (n : Int) (w : World) (hs : Seg w a xs) (hc : a = none → cap = 0) (hl : xs.length ≤ 2097152) (hn : n < 0 ∨ 2147483647 < n) :
    Calls Try.prog 62 #[.slice a xs.length cap, .int .i64 n] w fun e w' => ∃ v, e = .returned v ∧ Bts w' w.heap.size v (putNum xs n) ∧ Below w.heap.size w w' := by
  have hE := bts_empty w
  have hS1 : Seg (w.alloc (.cells #[] 5)) a xs := hs.grow ((Below.refl _ _).alloc (Nat.le_refl _) _)
  have hB1 : Below w.heap.size w (w.alloc (.cells #[] 5)) := (Below.refl _ _).alloc (Nat.le_refl _) _
  have Hp : Hid (putNum xs n = xs) := putNum_no xs n hn
  generalize hnn : xs.length = nn
  have Hnn : Hid (nn = xs.length) := hnn.symm
  clear hnn
  rcases hn with hn | hn
  · go_enter Try.func62, Try.ntmps62
    go_wp2_with (at_builtin; refine wpList_append_seg rfl _ _ rfl w.heap.size _ [] xs rfl hE a nn cap Hnn.out rfl hS1 hc (by simp; omega) (by simp) ?_; intro v2 w2 hv2 hg2)
    go_ret
    exact ⟨_, rfl, by rw [Hp.out]; exact hv2, hB1.grown hg2 (by simp) hE.own⟩
  · have hn0 : ¬ n < 0 := by omega
    go_enter Try.func62, Try.ntmps62
    go_wp2_with (at_builtin; refine wpList_append_seg rfl _ _ rfl w.heap.size _ [] xs rfl hE a nn cap Hnn.out rfl hS1 hc (by simp; omega) (by simp) ?_; intro v2 w2 hv2 hg2)
    go_ret
    exact ⟨_, rfl, by rw [Hp.out]; exact hv2, hB1.grown hg2 (by simp) hE.own⟩

set_option maxHeartbeats 800000 in
theorem spec_PutNum_yes (a : Option Addr) (cap : Nat) (xs : List Int) (n : Int) (w : World) (hs : Seg w a xs) (hc : a = none → cap = 0) (hl : xs.length ≤ 2097152) (hn0 : 0 ≤ n) (hn1 : n ≤ 2147483647) :
    Calls Try.prog 62 #[.slice a xs.length cap, .int .i64 n] w fun e w' => ∃ v, e = .returned v ∧ Bts w' w.heap.size v (putNum xs n) ∧ Below w.heap.size w w' := by
  have hE := bts_empty w
  have hS1 : Seg (w.alloc (.cells #[] 5)) a xs := hs.grow ((Below.refl _ _).alloc (Nat.le_refl _) _)
  have hB1 : Below w.heap.size w (w.alloc (.cells #[] 5)) := (Below.refl _ _).alloc (Nat.le_refl _) _
  have Hp : Hid (putNum xs n = xs ++ digs n.toNat) := putNum_yes xs n hn0 hn1
  generalize hnn : xs.length = nn
  have Hnn : Hid (nn = xs.length) := hnn.symm
  clear hnn
  go_enter Try.func62, Try.ntmps62
  go_wp2_with (at_builtin; refine wpList_append_seg rfl _ _ rfl w.heap.size _ [] xs rfl hE a nn cap Hnn.out rfl hS1 hc (by simp; omega) (by simp) ?_; intro v2 w2 hv2 hg2)
  go_loopw [1, 5] (fun n' v wr => ∃ (m : Nat) (pre : List Int), m ≤ 2147483647 ∧ n' = .int .i64 m ∧ Bts wr w.heap.size v (xs ++ pre) ∧ pre ++ digs m = digs n.toNat ∧ Below w.heap.size w wr) (fun n' _ _ => (intOf n').toNat)
  case atStart => exact ⟨n.toNat, [], by omega, by rw [Int.toNat_of_nonneg hn0], by simpa using hv2, by simp, hB1.grown hg2 (by simp) hE.own⟩
  case round =>
    obtain ⟨m, pre, hm, rfl, hv, hpre, hbel⟩ := hrel
    have Hpre : Hid (pre ++ digs m = digs n.toNat) := hpre
    clear hpre hv2 hg2
    have hsz := hbel.size
    have hpl : pre.length ≤ 5 := by
      have h1 := congrArg List.length Hpre.out
      have h2 := digs_len n.toNat (by omega)
      simp at h1
      omega
    by_cases hbig : (127 : Int) < (m : Int)
    · have hc1 : Byt ((m : Int) % 128 + 128) := by unfold Byt; omega
      have hS2 := seg_one wr _ hc1
      have hv' := hv.alloc (.cells #[.int .u8 ((m : Int) % 128 + 128)] 5)
      have hB2 : Below w.heap.size w (wr.alloc (.cells #[.int .u8 ((m : Int) % 128 + 128)] 5)) := hbel.alloc (by omega) _
      go_wp2_with (at_builtin; refine wpList_append_seg rfl _ _ rfl w.heap.size _ (xs ++ pre) [(m : Int) % 128 + 128] rfl hv' (some ⟨wr.heap.size, 0, none⟩) 1 1 rfl rfl hS2 (by simp) (by simp; omega) (by simp; omega) ?_; intro v3 w3 hv3 hg3)
      go_roundw
      case rel =>
        refine ⟨m / 128, pre ++ [(m : Int) % 128 + 128], by omega, by go_num, by simpa using hv3, ?_, hB2.grown hg3 (by simp; omega) hv'.own⟩
        rw [← Hpre.out, digs_big m (by omega)]
        simp
      case measure => simp [intOf]; omega
    · have hc1 : Byt (m : Int) := by unfold Byt; omega
      have hS2 := seg_one wr _ hc1
      have hv' := hv.alloc (.cells #[.int .u8 (m : Int)] 5)
      have hB2 : Below w.heap.size w (wr.alloc (.cells #[.int .u8 (m : Int)] 5)) := hbel.alloc (by omega) _
      go_wp2_with (at_builtin; refine wpList_append_seg rfl _ _ rfl w.heap.size _ (xs ++ pre) [(m : Int)] rfl hv' (some ⟨wr.heap.size, 0, none⟩) 1 1 rfl rfl hS2 (by simp) (by simp; omega) (by simp; omega) ?_; intro v3 w3 hv3 hg3)
      go_ret
      refine ⟨_, rfl, ?_, hB2.grown hg3 (by simp; omega) hv'.own⟩
      rw [Hp.out, ← Hpre.out, digs_small m (by omega), ← List.append_assoc]
      exact hv3

theorem spec_PutNum_any (a : Option Addr) (cap : Nat) (xs : List Int) (n : Int) (w : World) (hs : Seg w a xs) (hc : a = none → cap = 0) (hl : xs.length ≤ 2097152) :
    Calls Try.prog 62 #[.slice a xs.length cap, .int .i64 n] w fun e w' => ∃ v, e = .returned v ∧ Bts w' w.heap.size v (putNum xs n) ∧ Below w.heap.size w w' := by
  by_cases h : n < 0 ∨ 2147483647 < n
  · exact spec_PutNum_no a cap xs n w hs hc hl h
  · exact spec_PutNum_yes a cap xs n w hs hc hl (by omega) (by omega)

end Go.Proofs.Ytenfnbnhdmkhkaa
/-
  joined, PutNum and NumLen of the program, NumLen of the specification.
-/
namespace Go.Proofs.Ytenfnbnhdmkhkaa
open Go.RowKit
set_option linter.unusedVariables false

theorem bts_made {w1 : World} {base g cap : Nat} (h : w1.ownsRow base 5 1 (.slice (some ⟨g, 0, none⟩) 0 cap) 0 []) : Bts w1 base (.slice (some ⟨g, 0, none⟩) 0 cap) [] := ⟨by simp, by simpa [cellsOf] using h⟩

end Go.Proofs.Ytenfnbnhdmkhkaa
/-
  PutText of the program and of the specification: a text with its length ahead, behind a copy of what was there.
-/
namespace Go.Proofs.Ytenfnbnhdmkhkaa
open Go.RowKit
set_option linter.unusedVariables false

/-- What PutText answers. -/
def putText (xs ts : List Int) : List Int := if 20 < ts.length then xs else putNum xs ts.length ++ ts
theorem putText_no (xs ts : List Int) (h : 20 < ts.length) : putText xs ts = xs := by simp [putText, h]
theorem putText_yes (xs ts : List Int) (h : ¬ 20 < ts.length) : putText xs ts = putNum xs ts.length ++ ts := by simp [putText, h]
theorem putText_len (xs ts : List Int) : (putText xs ts).length ≤ xs.length + 25 := by
  unfold putText
  split
  · omega
  · have := putNum_len xs ts.length
    simp; omega

set_option maxHeartbeats 800000 in
theorem spec_PutText_any (a b : Option Addr) (c1 c2 : Nat) (xs ts : List Int) (w : World) (ha : Seg w a xs) (hb : Seg w b ts) (ka : a = none → c1 = 0) (kb : b = none → c2 = 0) (hl : xs.length ≤ 2097152) (hl2 : ts.length ≤ 2097152) :
    Calls Try.prog 63 #[.slice a xs.length c1, .slice b ts.length c2] w fun e w' => ∃ v, e = .returned v ∧ Bts w' w.heap.size v (putText xs ts) ∧ Below w.heap.size w w' := by
  by_cases h : 20 < ts.length
  · have Hp : Hid (putText xs ts = xs) := putText_no xs ts h
    have h' : (20 : Int) < (ts.length : Int) := by omega
    have hE := bts_empty w
    have hB1 : Below w.heap.size w (w.alloc (.cells #[] 5)) := (Below.refl _ _).alloc (Nat.le_refl _) _
    have hS1 := ha.grow hB1
    generalize hn : xs.length = n at *
    have Hn : Hid (n = xs.length) := hn.symm
    clear hn
    go_enter Try.func63, Try.ntmps63
    go_wp2_with (at_builtin; refine wpList_append_seg rfl (.tmp 8) (.tmp 9) rfl w.heap.size _ [] xs rfl hE a n c1 Hn.out rfl hS1 ka (by simp; have := Hn.out; omega) (by simp) ?_; intro v2 w2 hv2 hg2)
    go_ret
    exact ⟨_, rfl, by rw [Hp.out]; exact hv2, hB1.grown hg2 (by simp) hE.own⟩
  · have Hp : Hid (putText xs ts = putNum xs ts.length ++ ts) := putText_yes xs ts h
    have h' : ¬ (20 : Int) < (ts.length : Int) := by omega
    have hpl := putNum_len xs ts.length
    generalize hn : ts.length = n at *
    have Hn : Hid (n = ts.length) := hn.symm
    clear hn
    go_enter Try.func63, Try.ntmps63
    go_wp2_with fail
    refine (spec_PutNum_any _ _ xs n _ ha ka (by omega)).mono ?_
    rintro e w1 ⟨v1, rfl, hv1, b1⟩
    have hS := hb.grow b1
    have z1 := b1.size
    go_wp2_with (at_builtin; refine wpList_append_seg rfl (.tmp 14) (.tmp 15) rfl w.heap.size _ (putNum xs n) ts rfl hv1 b n c2 Hn.out rfl hS kb (by have := Hn.out; omega) z1 ?_; intro v2 w2 hv2 hg2)
    go_ret
    exact ⟨_, rfl, by rw [Hp.out]; exact hv2, b1.grown hg2 z1 hv1.own⟩

end Go.Proofs.Ytenfnbnhdmkhkaa
/-
  Reading a number, plain: what GetNum answers; no Go text here.
-/
namespace Go.Proofs.Ytenfnbnhdmkhkaa
set_option linter.unusedVariables false

/-- The bytes from place a on are read, k of them behind, each worth s; 'acc' is what they come to. -/
def getFrom (xs : List Int) (a : Nat) : Nat → Nat → Int → Int → Int × Int
  | 0, _, _, _ => (0, -1)
  | fuel + 1, k, s, acc =>
    if a + k < xs.length then
      if xs.getD (a + k) 0 < 128 then
        if (xs.getD (a + k) 0 = 0 ∧ 0 < k) ∨ 2147483647 < acc + xs.getD (a + k) 0 * s then (0, -1) else (acc + xs.getD (a + k) 0 * s, ((a + k + 1 : Nat) : Int))
      else getFrom xs a fuel (k + 1) (s * 128) (acc + (xs.getD (a + k) 0 - 128) * s)
    else (0, -1)

/-- What GetNum answers. -/
def getNum (xs : List Int) (a : Int) : Int × Int := if a < 0 then (0, -1) else getFrom xs a.toNat 5 0 1 0

/-- How many bytes were read, and what the next one is worth. -/
def Place (k : Nat) (s : Int) : Prop := (k = 0 ∧ s = 1) ∨ (k = 1 ∧ s = 128) ∨ (k = 2 ∧ s = 16384) ∨ (k = 3 ∧ s = 2097152) ∨ (k = 4 ∧ s = 268435456) ∨ (k = 5 ∧ s = 34359738368)

theorem getFrom_out (xs : List Int) (a fuel k : Nat) (s acc : Int) (h : ¬ a + k < xs.length) : getFrom xs a fuel k s acc = (0, -1) := by
  cases fuel with
  | zero => rfl
  | succ f => simp [getFrom, h]

theorem getFrom_bad (xs : List Int) (a fuel k : Nat) (s acc : Int) (h : a + k < xs.length) (h1 : xs.getD (a + k) 0 < 128) (h2 : (xs.getD (a + k) 0 = 0 ∧ 0 < k) ∨ 2147483647 < acc + xs.getD (a + k) 0 * s) : getFrom xs a (fuel + 1) k s acc = (0, -1) := by
  rw [getFrom, if_pos h, if_pos h1, if_pos h2]

theorem getFrom_last (xs : List Int) (a fuel k : Nat) (s acc : Int) (h : a + k < xs.length) (h1 : xs.getD (a + k) 0 < 128) (h2 : ¬ ((xs.getD (a + k) 0 = 0 ∧ 0 < k) ∨ 2147483647 < acc + xs.getD (a + k) 0 * s)) : getFrom xs a (fuel + 1) k s acc = (acc + xs.getD (a + k) 0 * s, ((a + k + 1 : Nat) : Int)) := by
  rw [getFrom, if_pos h, if_pos h1, if_neg h2]

theorem getFrom_more (xs : List Int) (a fuel k : Nat) (s acc : Int) (h : a + k < xs.length) (h1 : ¬ xs.getD (a + k) 0 < 128) : getFrom xs a (fuel + 1) k s acc = getFrom xs a fuel (k + 1) (s * 128) (acc + (xs.getD (a + k) 0 - 128) * s) := by
  rw [getFrom, if_pos h, if_neg h1]

theorem getNum_neg (xs : List Int) (a : Int) (h : a < 0) : getNum xs a = (0, -1) := by simp [getNum, h]
theorem getNum_nat (xs : List Int) (a : Nat) : getNum xs a = getFrom xs a 5 0 1 0 := by
  rw [getNum, if_neg (by omega)]
  simp
theorem getNum_out (xs : List Int) (a : Nat) (h : xs.length ≤ a) : getNum xs a = (0, -1) := by
  rw [getNum_nat, getFrom_out _ _ _ _ _ _ (by omega)]

theorem le_of_wf {x : Int} (h : (Lit.int .i64 x).wf = true) : x ≤ 9223372036854775807 := by
  simp [Lit.wf, IntKind.min, IntKind.max, IntKind.bits, IntKind.signed] at h
  omega

/-- What is read as a number fits; the place behind it lies in the bytes. -/
theorem getFrom_fits (xs : List Int) (a fuel k : Nat) (s acc : Int) (hb : ∀ x ∈ xs, Byt x) (hs : 0 ≤ s) (ha : 0 ≤ acc) :
    (getFrom xs a fuel k s acc = (0, -1)) ∨ (0 ≤ (getFrom xs a fuel k s acc).1 ∧ (getFrom xs a fuel k s acc).1 ≤ 2147483647 ∧ ∃ j : Nat, (getFrom xs a fuel k s acc).2 = j ∧ a < j ∧ j ≤ xs.length) := by
  induction fuel generalizing k s acc with
  | zero => exact .inl rfl
  | succ f ih =>
    have hx := getD_byt hb (a + k)
    by_cases h : a + k < xs.length
    · by_cases h1 : xs.getD (a + k) 0 < 128
      · by_cases h2 : (xs.getD (a + k) 0 = 0 ∧ 0 < k) ∨ 2147483647 < acc + xs.getD (a + k) 0 * s
        · exact .inl (getFrom_bad xs a f k s acc h h1 h2)
        · have hm : 0 ≤ xs.getD (a + k) 0 * s := Int.mul_nonneg hx.1 hs
          rw [getFrom_last xs a f k s acc h h1 h2]
          refine .inr ⟨by simp only; omega, by simp only; omega, a + k + 1, rfl, by omega, by omega⟩
      · have hm : 0 ≤ (xs.getD (a + k) 0 - 128) * s := Int.mul_nonneg (by omega) hs
        rw [getFrom_more xs a f k s acc h h1]
        exact ih (k + 1) (s * 128) _ (by omega) (by omega)
    · exact .inl (getFrom_out xs a (f + 1) k s acc h)

theorem getNum_fits (xs : List Int) (a : Int) (hb : ∀ x ∈ xs, Byt x) :
    getNum xs a = (0, -1) ∨ (0 ≤ (getNum xs a).1 ∧ (getNum xs a).1 ≤ 2147483647 ∧ ∃ j : Nat, (getNum xs a).2 = j ∧ a < j ∧ j ≤ xs.length ∧ 0 ≤ a) := by
  by_cases h : a < 0
  · exact .inl (getNum_neg xs a h)
  · obtain ⟨p, rfl⟩ := Int.eq_ofNat_of_zero_le (show 0 ≤ a by omega)
    rw [getNum_nat]
    rcases getFrom_fits xs p 5 0 1 0 hb (by omega) (by omega) with h1 | ⟨h1, h2, j, h3, h4, h5⟩
    · exact .inl h1
    · exact .inr ⟨h1, h2, j, h3, by omega, h5, by omega⟩

end Go.Proofs.Ytenfnbnhdmkhkaa
/-
  GetNum of the specification answers as getNum, and turns nothing.
-/
namespace Go.Proofs.Ytenfnbnhdmkhkaa
open Go.RowKit
set_option linter.unusedVariables false

theorem ret2_i64 {x y x' y' : Int} {r : Int × Int} (h : r = (x', y')) (h1 : x = x') (h2 : y = y') : Ending.returned (.tuple #[.int .i64 x, .int .i64 y]) = .returned (.tuple #[.int .i64 r.1, .int .i64 r.2]) := by rw [h, h1, h2]

end Go.Proofs.Ytenfnbnhdmkhkaa
