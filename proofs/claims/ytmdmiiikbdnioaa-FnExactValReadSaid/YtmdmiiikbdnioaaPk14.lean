/-
  Texts that a law leans on, one behind the other; no statement is proved here.
-/
import Derived.Test.YtmdmiiikbdnioaaPk11
/-
  What was put is got, and what is got was put: numbers and texts, plain; no Go text here.
-/
namespace Go.Proofs.Ytmdmiiikbdnioaa
set_option linter.unusedVariables false

theorem getD_mid (pre ds rest : List Int) (d : Int) : (pre ++ (d :: ds) ++ rest).getD pre.length 0 = d := by
  simp [List.getD_eq_getElem?_getD, List.append_assoc]

theorem getFrom_digs (m : Nat) : ∀ (pre rest : List Int) (p fuel k : Nat) (s acc : Int), pre.length = p + k → (digs m).length ≤ fuel → 0 < s → 0 ≤ acc → acc + (m : Int) * s ≤ 2147483647 → (0 < k → 0 < m) →
    getFrom (pre ++ digs m ++ rest) p fuel k s acc = (acc + (m : Int) * s, ((p + k + (digs m).length : Nat) : Int)) := by
  induction m using Nat.strongRecOn with
  | ind m ih =>
    intro pre rest p fuel k s acc hp hf hs ha hN hk
    have hpos := digs_len_pos m
    obtain ⟨f, rfl⟩ : ∃ f, fuel = f + 1 := ⟨fuel - 1, by omega⟩
    have hin : p + k < (pre ++ digs m ++ rest).length := by simp; omega
    by_cases h : m < 128
    · have hd : (pre ++ digs m ++ rest).getD (p + k) 0 = m := by
        rw [digs_small m h, ← hp]
        exact getD_mid pre [] rest m
      rw [getFrom_last _ _ _ _ _ _ hin (by rw [hd]; omega) (by
        rw [hd]
        rintro (⟨h1, h2⟩ | h1)
        · have := hk h2; omega
        · omega), hd, digs_small m h]
      simp
    · have hd : (pre ++ digs m ++ rest).getD (p + k) 0 = ((m % 128 + 128 : Nat) : Int) := by
        rw [digs_big m h, ← hp]
        exact getD_mid pre (digs (m / 128)) rest _
      rw [getFrom_more _ _ _ _ _ _ hin (by rw [hd]; omega), hd]
      have e1 : (((m % 128 + 128 : Nat) : Int) - 128) = ((m % 128 : Nat) : Int) := by omega
      rw [e1]
      have hm2 : (m : Int) = ((m % 128 : Nat) : Int) + 128 * ((m / 128 : Nat) : Int) := by omega
      have e2 : acc + ((m % 128 : Nat) : Int) * s + ((m / 128 : Nat) : Int) * (s * 128) = acc + (m : Int) * s := by
        rw [hm2, Int.add_mul, Int.mul_comm s 128, ← Int.mul_assoc, Int.mul_comm ((m / 128 : Nat) : Int) 128]
        omega
      have hlen : (digs m).length = (digs (m / 128)).length + 1 := by rw [digs_big m h]; simp
      have key := ih (m / 128) (by omega) (pre ++ [((m % 128 + 128 : Nat) : Int)]) rest p f (k + 1) (s * 128) (acc + ((m % 128 : Nat) : Int) * s)
        (by simp; omega) (by omega) (by omega) (by have := Int.mul_nonneg (show (0 : Int) ≤ ((m % 128 : Nat) : Int) by omega) (Int.le_of_lt hs); omega) (by rw [e2]; exact hN) (by intro _; omega)
      have e3 : pre ++ [((m % 128 + 128 : Nat) : Int)] ++ digs (m / 128) ++ rest = pre ++ digs m ++ rest := by rw [digs_big m h]; simp
      rw [e3, e2] at key
      rw [key, hlen]
      rw [show p + (k + 1) + (digs (m / 128)).length = p + k + ((digs (m / 128)).length + 1) from by omega]

theorem getNum_put (ys rest : List Int) (n : Int) (h0 : 0 ≤ n) (h1 : n ≤ 2147483647) : getNum (putNum ys n ++ rest) (ys.length : Nat) = (n, (((putNum ys n).length : Nat) : Int)) := by
  rw [getNum_nat, putNum_yes ys n h0 h1]
  have := getFrom_digs n.toNat ys rest ys.length 5 0 1 0 (by simp) (digs_len _ (by omega)) (by omega) (by omega) (by omega) (by omega)
  rw [this]
  simp
  omega

theorem getText_put (cs ts : List Int) (h : ts.length ≤ 20) : getText (putText cs ts) (cs.length : Nat) = (ts, (((putText cs ts).length : Nat) : Int)) := by
  have hp : putText cs ts = putNum cs ts.length ++ ts := putText_yes cs ts (by omega)
  have hg := getNum_put cs ts ts.length (by omega) (by omega)
  rw [← hp] at hg
  have hl : (putText cs ts).length = (putNum cs ts.length).length + ts.length := by rw [hp]; simp
  rw [getText_yes _ _ (by rw [hg]; simp only; omega), hg]
  simp only [Int.toNat_natCast]
  rw [hp]
  simp

theorem getFrom_back (xs : List Int) (hb : ∀ x ∈ xs, Byt x) (p : Nat) : ∀ (fuel k : Nat) (s acc n : Int) (j : Nat), getFrom xs p fuel k s acc = (n, (j : Int)) →
    ∃ m : Nat, n = acc + (m : Int) * s ∧ digs m = (xs.drop (p + k)).take (j - (p + k)) ∧ p + k < j ∧ j ≤ xs.length ∧ (0 < k → 0 < m) := by
  intro fuel
  induction fuel with
  | zero => intro k s acc n j h; simp [getFrom] at h
  | succ f ih =>
    intro k s acc n j h
    have hx := getD_byt hb (p + k)
    by_cases hin : p + k < xs.length
    · have hdrop : xs.drop (p + k) = xs.getD (p + k) 0 :: xs.drop (p + k + 1) := by
        rw [List.drop_eq_getElem_cons hin]
        simp [List.getD_eq_getElem?_getD, hin]
      by_cases h1 : xs.getD (p + k) 0 < 128
      · by_cases h2 : (xs.getD (p + k) 0 = 0 ∧ 0 < k) ∨ 2147483647 < acc + xs.getD (p + k) 0 * s
        · rw [getFrom_bad xs p f k s acc hin h1 h2] at h
          simp at h
        · rw [getFrom_last xs p f k s acc hin h1 h2] at h
          simp only [Prod.mk.injEq] at h
          obtain ⟨hn, hj⟩ := h
          have hj' : j = p + k + 1 := by omega
          refine ⟨(xs.getD (p + k) 0).toNat, ?_, ?_, by omega, by omega, by omega⟩
          · rw [Int.toNat_of_nonneg hx.1]; exact hn.symm
          · rw [digs_small _ (by omega), Int.toNat_of_nonneg hx.1, hdrop, hj', show p + k + 1 - (p + k) = 1 from by omega]
            simp
      · rw [getFrom_more xs p f k s acc hin h1] at h
        obtain ⟨m, hn, hd, hlt, hle, hm⟩ := ih (k + 1) _ _ n j h
        have hm0 := hm (by omega)
        refine ⟨(xs.getD (p + k) 0 - 128).toNat + 128 * m, ?_, ?_, by omega, hle, by omega⟩
        · rw [hn]
          have e1 : (((xs.getD (p + k) 0 - 128).toNat + 128 * m : Nat) : Int) = (xs.getD (p + k) 0 - 128) + 128 * (m : Int) := by omega
          rw [e1, Int.add_mul, Int.mul_comm s 128, ← Int.mul_assoc, Int.mul_comm (m : Int) 128]
          omega
        · rw [digs_big _ (by omega), hdrop, show j - (p + k) = (j - (p + (k + 1))) + 1 from by omega, List.take_succ_cons]
          have e1 : ((xs.getD (p + k) 0 - 128).toNat + 128 * m) / 128 = m := by omega
          have e2 : ((((xs.getD (p + k) 0 - 128).toNat + 128 * m) % 128 + 128 : Nat) : Int) = xs.getD (p + k) 0 := by omega
          rw [e1, e2, hd, show p + k + 1 = p + (k + 1) from by omega]
    · rw [getFrom_out xs p (f + 1) k s acc hin] at h
      simp at h

/-- What is read as a number is just its bytes. -/
theorem putNum_got (xs : List Int) (hb : ∀ x ∈ xs, Byt x) (a n : Int) (j : Nat) (h : getNum xs a = (n, (j : Int))) :
    ∃ p : Nat, a = p ∧ p < j ∧ j ≤ xs.length ∧ putNum (xs.take p) n = xs.take j := by
  by_cases ha : a < 0
  · rw [getNum_neg xs a ha] at h; simp at h
  · obtain ⟨p, rfl⟩ := Int.eq_ofNat_of_zero_le (show 0 ≤ a by omega)
    have hf := getNum_fits xs p hb
    have h' := h
    rw [getNum_nat] at h'
    obtain ⟨m, hn, hd, hlt, hle, _⟩ := getFrom_back xs hb p 5 0 1 0 n j h'
    refine ⟨p, rfl, by omega, hle, ?_⟩
    have hn' : n = (m : Int) := by omega
    subst hn'
    rw [h] at hf
    rcases hf with hf | ⟨h0, h1, _⟩
    · simp at hf
    · rw [putNum_yes _ _ h0 h1, Int.toNat_natCast, hd]
      have : xs.take j = xs.take p ++ (xs.drop p).take (j - p) := by
        rw [← List.take_add]
        congr 1
        omega
      rw [this]
      rfl

end Go.Proofs.Ytmdmiiikbdnioaa
