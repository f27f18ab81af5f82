/-
  Texts that a law leans on, one behind the other; no statement is proved here.
-/
import Derived.Test.YtmdmiiikbdnioaaPk2
/-
  GetNum of the program answers as getNum, and turns nothing.
-/
namespace Go.Proofs.Ytmdmiiikbdnioaa
open Go.RowKit
set_option linter.unusedVariables false

set_option maxHeartbeats 800000 in
theorem digitRole_more (c k : Int) (w : World) (h : 128 ≤ c) :
    Calls Try.prog 58 #[.int .u8 c, .int .i64 k] w fun e w' => e = .returned (.int .i64 0) ∧ w = w' := by
  go_enter Try.func58, Try.ntmps58
  go_wp2
  go_ret
  exact ⟨rfl, rfl⟩

set_option maxHeartbeats 800000 in
theorem digitRole_less (k : Int) (w : World) (h : 0 < k) :
    Calls Try.prog 58 #[.int .u8 0, .int .i64 k] w fun e w' => e = .returned (.int .i64 2) ∧ w = w' := by
  go_enter Try.func58, Try.ntmps58
  go_wp2
  go_ret
  exact ⟨rfl, rfl⟩

set_option maxHeartbeats 800000 in
theorem digitRole_last (c k : Int) (w : World) (h : c < 128) (h0 : ¬ (c = 0 ∧ 0 < k)) :
    Calls Try.prog 58 #[.int .u8 c, .int .i64 k] w fun e w' => e = .returned (.int .i64 1) ∧ w = w' := by
  by_cases hc : c = 0
  · subst hc
    have hk : ¬ 0 < k := by omega
    clear h0
    go_enter Try.func58, Try.ntmps58
    go_wp2
    go_ret
    exact ⟨rfl, rfl⟩
  · have hc' : (c == 0) = false := by simpa using hc
    clear h0
    go_enter Try.func58, Try.ntmps58
    go_wp2
    go_ret
    exact ⟨rfl, rfl⟩

set_option maxHeartbeats 1600000 in
theorem impl_GetNum_any (a : Option Addr) (c1 : Nat) (xs : List Int) (at_ : Int) (w : World) (ha : Seg w a xs) (hl : xs.length ≤ 2097152) (hw : at_ ≤ 9223372036854775807) :
    Calls Try.prog 50 #[.slice a xs.length c1, .int .i64 at_] w fun e w' => e = .returned (.tuple #[.int .i64 (getNum xs at_).1, .int .i64 (getNum xs at_).2]) ∧ Below w.heap.size w w' := by
  by_cases h0 : at_ < 0
  · have HG : Hid (getNum xs at_ = (0, -1)) := getNum_neg xs at_ h0
    generalize getNum xs at_ = r at *
    go_enter Try.func50, Try.ntmps50
    go_wp2
    go_ret2
    exact ⟨ret2_i64 HG.out rfl rfl, Below.refl _ _⟩
  · obtain ⟨p, rfl⟩ := Int.eq_ofNat_of_zero_le (show 0 ≤ at_ by omega)
    by_cases hout : xs.length ≤ p
    · have HG : Hid (getNum xs p = (0, -1)) := getNum_out xs p hout
      have hout' : (xs.length : Int) ≤ (p : Int) := by omega
      generalize getNum xs p = r at *
      go_enter Try.func50, Try.ntmps50
      go_wp2
      go_ret2
      exact ⟨ret2_i64 HG.out rfl rfl, Below.refl _ _⟩
    · have hout' : ¬ (xs.length : Int) ≤ (p : Int) := by omega
      have HG : Hid (getNum xs p = getFrom xs p 5 0 1 0) := getNum_nat xs p
      generalize getNum xs p = r at *
      generalize hn : xs.length = n at *
      have Hn : Hid (xs.length = n) := hn
      clear hn
      by_cases h5 : (5 : Int) ≤ (n : Int) - (p : Int)
      all_goals
        go_enter Try.func50, Try.ntmps50
        go_wp2
        go_loopw [6, 22] (fun u i wr => ∃ (k : Nat) (sv acc : Int), i = .int .i64 k ∧ u = .int .i64 acc ∧ Place k sv ∧ 0 ≤ acc ∧ acc < sv ∧ r = getFrom xs p (5 - k) k sv acc ∧ Below w.heap.size w wr) (fun _ i _ => 5 - (intOf i).toNat)
        case atStart => exact ⟨0, 1, 0, rfl, rfl, .inl ⟨rfl, rfl⟩, by omega, by omega, HG.out, Below.refl _ _⟩
        case round =>
          obtain ⟨k, sv, acc, rfl, rfl, hP, ha0, ha1, hr, hbel⟩ := hrel
          have Hr : Hid (r = getFrom xs p (5 - k) k sv acc) := hr
          clear hr HG
          have Hn' := Hn.out
          by_cases hin : p + k < n
          · rcases hP with ⟨rfl, rfl⟩ | ⟨rfl, rfl⟩ | ⟨rfl, rfl⟩ | ⟨rfl, rfl⟩ | ⟨rfl, rfl⟩ | ⟨rfl, rfl⟩
            case inr.inr.inr.inr.inr =>
              clear Hn'
              first
                | (exfalso; omega)
                | (go_wp2
                   go_ret2
                   exact ⟨ret2_i64 Hr.out rfl rfl, hbel⟩)
            case inl =>
              obtain ⟨b, off, rfl, hc⟩ := (ha.grow hbel).at (k := p + 0) (by omega)
              have hby := getD_byt ha.1 (p + 0)
              have hin' : (0 : Int) < (n : Int) - (p : Int) := by omega
              have Hbad : Hid (xs.getD (p + 0) 0 < 128 → (xs.getD (p + 0) 0 = 0 ∧ 0 < 0) ∨ 2147483647 < acc + xs.getD (p + 0) 0 * 1 → r = (0, -1)) := fun h1 h2 => Hr.out.trans (getFrom_bad xs p 4 0 1 acc (by omega) h1 h2)
              have Hlast : Hid (xs.getD (p + 0) 0 < 128 → ¬ ((xs.getD (p + 0) 0 = 0 ∧ 0 < 0) ∨ 2147483647 < acc + xs.getD (p + 0) 0 * 1) → r = (acc + xs.getD (p + 0) 0 * 1, ((p + 0 + 1 : Nat) : Int))) := fun h1 h2 => Hr.out.trans (getFrom_last xs p 4 0 1 acc (by omega) h1 h2)
              have Hmore : Hid (¬ xs.getD (p + 0) 0 < 128 → r = getFrom xs p 4 (0 + 1) (1 * 128) (acc + (xs.getD (p + 0) 0 - 128) * 1)) := fun h1 => Hr.out.trans (getFrom_more xs p 4 0 1 acc (by omega) h1)
              clear Hn' Hr
              generalize xs.getD (p + 0) 0 = c at *
              simp only [Nat.add_zero] at hc
              by_cases h1 : c < 128
              · by_cases h2 : (c = 0 ∧ 0 < 0) ∨ 2147483647 < acc + c * 1
                · have HB : Hid (r = (0, -1)) := Hbad.out h1 h2
                  clear Hbad Hlast Hmore
                  omega
                · have HB : Hid (r = (acc + c * 1, ((p + 0 + 1 : Nat) : Int))) := Hlast.out h1 h2
                  clear Hbad Hlast Hmore
                  have h5' : acc + c % 128 * 1 ≤ 2147483647 := by omega
                  have h6 : ¬ (c = 0 ∧ (0 : Int) < 0) := by omega
                  clear h2
                  go_wp2_with fail
                  refine (digitRole_last _ _ _ h1 h6).mono ?_
                  rintro e w1 ⟨rfl, rfl⟩
                  clear h6
                  go_wp2
                  go_ret2
                  exact ⟨ret2_i64 HB.out (by omega) (by omega), hbel⟩
              · have HB : Hid (r = getFrom xs p 4 (0 + 1) (1 * 128) (acc + (c - 128) * 1)) := Hmore.out h1
                clear Hbad Hlast Hmore
                go_wp2_with fail
                refine (digitRole_more _ _ _ (by omega)).mono ?_
                rintro e w1 ⟨rfl, rfl⟩
                go_wp2
                go_roundw
                case rel => exact ⟨0 + 1, 1 * 128, acc + (c - 128) * 1, by go_num, by go_num, by unfold Place; omega, by omega, by omega, HB.out, hbel⟩
                case measure => simp [intOf]
            case inr.inl =>
              obtain ⟨b, off, rfl, hc⟩ := (ha.grow hbel).at (k := p + 1) (by omega)
              have hby := getD_byt ha.1 (p + 1)
              have hin' : (1 : Int) < (n : Int) - (p : Int) := by omega
              have Hbad : Hid (xs.getD (p + 1) 0 < 128 → (xs.getD (p + 1) 0 = 0 ∧ 0 < 1) ∨ 2147483647 < acc + xs.getD (p + 1) 0 * 128 → r = (0, -1)) := fun h1 h2 => Hr.out.trans (getFrom_bad xs p 3 1 128 acc (by omega) h1 h2)
              have Hlast : Hid (xs.getD (p + 1) 0 < 128 → ¬ ((xs.getD (p + 1) 0 = 0 ∧ 0 < 1) ∨ 2147483647 < acc + xs.getD (p + 1) 0 * 128) → r = (acc + xs.getD (p + 1) 0 * 128, ((p + 1 + 1 : Nat) : Int))) := fun h1 h2 => Hr.out.trans (getFrom_last xs p 3 1 128 acc (by omega) h1 h2)
              have Hmore : Hid (¬ xs.getD (p + 1) 0 < 128 → r = getFrom xs p 3 (1 + 1) (128 * 128) (acc + (xs.getD (p + 1) 0 - 128) * 128)) := fun h1 => Hr.out.trans (getFrom_more xs p 3 1 128 acc (by omega) h1)
              clear Hn' Hr
              generalize xs.getD (p + 1) 0 = c at *
              by_cases h1 : c < 128
              · by_cases h2 : (c = 0 ∧ 0 < 1) ∨ 2147483647 < acc + c * 128
                · have HB : Hid (r = (0, -1)) := Hbad.out h1 h2
                  clear Hbad Hlast Hmore
                  obtain rfl : c = 0 := by omega
                  clear h2 h1 hby
                  go_wp2_with fail
                  refine (digitRole_less _ _ (by decide)).mono ?_
                  rintro e w1 ⟨rfl, rfl⟩
                  go_wp2
                  go_ret2
                  exact ⟨ret2_i64 HB.out rfl rfl, hbel⟩
                · have HB : Hid (r = (acc + c * 128, ((p + 1 + 1 : Nat) : Int))) := Hlast.out h1 h2
                  clear Hbad Hlast Hmore
                  have h5' : acc + c % 128 * 128 ≤ 2147483647 := by omega
                  have h6 : ¬ (c = 0 ∧ (0 : Int) < 1) := by omega
                  clear h2
                  go_wp2_with fail
                  refine (digitRole_last _ _ _ h1 h6).mono ?_
                  rintro e w1 ⟨rfl, rfl⟩
                  clear h6
                  go_wp2
                  go_ret2
                  exact ⟨ret2_i64 HB.out (by omega) (by omega), hbel⟩
              · have HB : Hid (r = getFrom xs p 3 (1 + 1) (128 * 128) (acc + (c - 128) * 128)) := Hmore.out h1
                clear Hbad Hlast Hmore
                go_wp2_with fail
                refine (digitRole_more _ _ _ (by omega)).mono ?_
                rintro e w1 ⟨rfl, rfl⟩
                go_wp2
                go_roundw
                case rel => exact ⟨1 + 1, 128 * 128, acc + (c - 128) * 128, by go_num, by go_num, by unfold Place; omega, by omega, by omega, HB.out, hbel⟩
                case measure => simp [intOf]
            case inr.inr.inl =>
              obtain ⟨b, off, rfl, hc⟩ := (ha.grow hbel).at (k := p + 2) (by omega)
              have hby := getD_byt ha.1 (p + 2)
              have hin' : (2 : Int) < (n : Int) - (p : Int) := by omega
              have Hbad : Hid (xs.getD (p + 2) 0 < 128 → (xs.getD (p + 2) 0 = 0 ∧ 0 < 2) ∨ 2147483647 < acc + xs.getD (p + 2) 0 * 16384 → r = (0, -1)) := fun h1 h2 => Hr.out.trans (getFrom_bad xs p 2 2 16384 acc (by omega) h1 h2)
              have Hlast : Hid (xs.getD (p + 2) 0 < 128 → ¬ ((xs.getD (p + 2) 0 = 0 ∧ 0 < 2) ∨ 2147483647 < acc + xs.getD (p + 2) 0 * 16384) → r = (acc + xs.getD (p + 2) 0 * 16384, ((p + 2 + 1 : Nat) : Int))) := fun h1 h2 => Hr.out.trans (getFrom_last xs p 2 2 16384 acc (by omega) h1 h2)
              have Hmore : Hid (¬ xs.getD (p + 2) 0 < 128 → r = getFrom xs p 2 (2 + 1) (16384 * 128) (acc + (xs.getD (p + 2) 0 - 128) * 16384)) := fun h1 => Hr.out.trans (getFrom_more xs p 2 2 16384 acc (by omega) h1)
              clear Hn' Hr
              generalize xs.getD (p + 2) 0 = c at *
              by_cases h1 : c < 128
              · by_cases h2 : (c = 0 ∧ 0 < 2) ∨ 2147483647 < acc + c * 16384
                · have HB : Hid (r = (0, -1)) := Hbad.out h1 h2
                  clear Hbad Hlast Hmore
                  obtain rfl : c = 0 := by omega
                  clear h2 h1 hby
                  go_wp2_with fail
                  refine (digitRole_less _ _ (by decide)).mono ?_
                  rintro e w1 ⟨rfl, rfl⟩
                  go_wp2
                  go_ret2
                  exact ⟨ret2_i64 HB.out rfl rfl, hbel⟩
                · have HB : Hid (r = (acc + c * 16384, ((p + 2 + 1 : Nat) : Int))) := Hlast.out h1 h2
                  clear Hbad Hlast Hmore
                  have h5' : acc + c % 128 * 16384 ≤ 2147483647 := by omega
                  have h6 : ¬ (c = 0 ∧ (0 : Int) < 2) := by omega
                  clear h2
                  go_wp2_with fail
                  refine (digitRole_last _ _ _ h1 h6).mono ?_
                  rintro e w1 ⟨rfl, rfl⟩
                  clear h6
                  go_wp2
                  go_ret2
                  exact ⟨ret2_i64 HB.out (by omega) (by omega), hbel⟩
              · have HB : Hid (r = getFrom xs p 2 (2 + 1) (16384 * 128) (acc + (c - 128) * 16384)) := Hmore.out h1
                clear Hbad Hlast Hmore
                go_wp2_with fail
                refine (digitRole_more _ _ _ (by omega)).mono ?_
                rintro e w1 ⟨rfl, rfl⟩
                go_wp2
                go_roundw
                case rel => exact ⟨2 + 1, 16384 * 128, acc + (c - 128) * 16384, by go_num, by go_num, by unfold Place; omega, by omega, by omega, HB.out, hbel⟩
                case measure => simp [intOf]
            case inr.inr.inr.inl =>
              obtain ⟨b, off, rfl, hc⟩ := (ha.grow hbel).at (k := p + 3) (by omega)
              have hby := getD_byt ha.1 (p + 3)
              have hin' : (3 : Int) < (n : Int) - (p : Int) := by omega
              have Hbad : Hid (xs.getD (p + 3) 0 < 128 → (xs.getD (p + 3) 0 = 0 ∧ 0 < 3) ∨ 2147483647 < acc + xs.getD (p + 3) 0 * 2097152 → r = (0, -1)) := fun h1 h2 => Hr.out.trans (getFrom_bad xs p 1 3 2097152 acc (by omega) h1 h2)
              have Hlast : Hid (xs.getD (p + 3) 0 < 128 → ¬ ((xs.getD (p + 3) 0 = 0 ∧ 0 < 3) ∨ 2147483647 < acc + xs.getD (p + 3) 0 * 2097152) → r = (acc + xs.getD (p + 3) 0 * 2097152, ((p + 3 + 1 : Nat) : Int))) := fun h1 h2 => Hr.out.trans (getFrom_last xs p 1 3 2097152 acc (by omega) h1 h2)
              have Hmore : Hid (¬ xs.getD (p + 3) 0 < 128 → r = getFrom xs p 1 (3 + 1) (2097152 * 128) (acc + (xs.getD (p + 3) 0 - 128) * 2097152)) := fun h1 => Hr.out.trans (getFrom_more xs p 1 3 2097152 acc (by omega) h1)
              clear Hn' Hr
              generalize xs.getD (p + 3) 0 = c at *
              by_cases h1 : c < 128
              · by_cases h2 : (c = 0 ∧ 0 < 3) ∨ 2147483647 < acc + c * 2097152
                · have HB : Hid (r = (0, -1)) := Hbad.out h1 h2
                  clear Hbad Hlast Hmore
                  obtain rfl : c = 0 := by omega
                  clear h2 h1 hby
                  go_wp2_with fail
                  refine (digitRole_less _ _ (by decide)).mono ?_
                  rintro e w1 ⟨rfl, rfl⟩
                  go_wp2
                  go_ret2
                  exact ⟨ret2_i64 HB.out rfl rfl, hbel⟩
                · have HB : Hid (r = (acc + c * 2097152, ((p + 3 + 1 : Nat) : Int))) := Hlast.out h1 h2
                  clear Hbad Hlast Hmore
                  have h5' : acc + c % 128 * 2097152 ≤ 2147483647 := by omega
                  have h6 : ¬ (c = 0 ∧ (0 : Int) < 3) := by omega
                  clear h2
                  go_wp2_with fail
                  refine (digitRole_last _ _ _ h1 h6).mono ?_
                  rintro e w1 ⟨rfl, rfl⟩
                  clear h6
                  go_wp2
                  go_ret2
                  exact ⟨ret2_i64 HB.out (by omega) (by omega), hbel⟩
              · have HB : Hid (r = getFrom xs p 1 (3 + 1) (2097152 * 128) (acc + (c - 128) * 2097152)) := Hmore.out h1
                clear Hbad Hlast Hmore
                go_wp2_with fail
                refine (digitRole_more _ _ _ (by omega)).mono ?_
                rintro e w1 ⟨rfl, rfl⟩
                go_wp2
                go_roundw
                case rel => exact ⟨3 + 1, 2097152 * 128, acc + (c - 128) * 2097152, by go_num, by go_num, by unfold Place; omega, by omega, by omega, HB.out, hbel⟩
                case measure => simp [intOf]
            case inr.inr.inr.inr.inl =>
              first
                | (exfalso; omega)
                | (obtain ⟨b, off, rfl, hc⟩ := (ha.grow hbel).at (k := p + 4) (by omega)
                   have hby := getD_byt ha.1 (p + 4)
                   have hin' : (4 : Int) < (n : Int) - (p : Int) := by omega
                   have Hbad : Hid (xs.getD (p + 4) 0 < 128 → (xs.getD (p + 4) 0 = 0 ∧ 0 < 4) ∨ 2147483647 < acc + xs.getD (p + 4) 0 * 268435456 → r = (0, -1)) := fun h1 h2 => Hr.out.trans (getFrom_bad xs p 0 4 268435456 acc (by omega) h1 h2)
                   have Hlast : Hid (xs.getD (p + 4) 0 < 128 → ¬ ((xs.getD (p + 4) 0 = 0 ∧ 0 < 4) ∨ 2147483647 < acc + xs.getD (p + 4) 0 * 268435456) → r = (acc + xs.getD (p + 4) 0 * 268435456, ((p + 4 + 1 : Nat) : Int))) := fun h1 h2 => Hr.out.trans (getFrom_last xs p 0 4 268435456 acc (by omega) h1 h2)
                   have Hmore : Hid (¬ xs.getD (p + 4) 0 < 128 → r = getFrom xs p 0 (4 + 1) (268435456 * 128) (acc + (xs.getD (p + 4) 0 - 128) * 268435456)) := fun h1 => Hr.out.trans (getFrom_more xs p 0 4 268435456 acc (by omega) h1)
                   clear Hn' Hr
                   generalize xs.getD (p + 4) 0 = c at *
                   by_cases h1 : c < 128
                   · by_cases h2 : (c = 0 ∧ 0 < 4) ∨ 2147483647 < acc + c * 268435456
                     · have HB : Hid (r = (0, -1)) := Hbad.out h1 h2
                       clear Hbad Hlast Hmore
                       by_cases h3 : c = 0
                       · subst h3
                         clear h2 h1 hby
                         go_wp2_with fail
                         refine (digitRole_less _ _ (by decide)).mono ?_
                         rintro e w1 ⟨rfl, rfl⟩
                         go_wp2
                         go_ret2
                         exact ⟨ret2_i64 HB.out rfl rfl, hbel⟩
                       · have h5' : 2147483647 < acc + c % 128 * 268435456 := by omega
                         clear h2
                         go_wp2_with fail
                         refine (digitRole_last _ _ _ h1 (by omega)).mono ?_
                         rintro e w1 ⟨rfl, rfl⟩
                         go_wp2
                         go_ret2
                         exact ⟨ret2_i64 HB.out rfl rfl, hbel⟩
                     · have HB : Hid (r = (acc + c * 268435456, ((p + 4 + 1 : Nat) : Int))) := Hlast.out h1 h2
                       clear Hbad Hlast Hmore
                       have h5' : acc + c % 128 * 268435456 ≤ 2147483647 := by omega
                       have h6 : ¬ (c = 0 ∧ (0 : Int) < 4) := by omega
                       clear h2
                       go_wp2_with fail
                       refine (digitRole_last _ _ _ h1 h6).mono ?_
                       rintro e w1 ⟨rfl, rfl⟩
                       clear h6
                       go_wp2
                       go_ret2
                       exact ⟨ret2_i64 HB.out (by omega) (by omega), hbel⟩
                   · have HB : Hid (r = getFrom xs p 0 (4 + 1) (268435456 * 128) (acc + (c - 128) * 268435456)) := Hmore.out h1
                     clear Hbad Hlast Hmore
                     go_wp2_with fail
                     refine (digitRole_more _ _ _ (by omega)).mono ?_
                     rintro e w1 ⟨rfl, rfl⟩
                     go_wp2
                     go_roundw
                     case rel => exact ⟨4 + 1, 268435456 * 128, acc + (c - 128) * 268435456, by go_num, by go_num, by unfold Place; omega, by omega, by omega, HB.out, hbel⟩
                     case measure => simp [intOf])
          · have HB : Hid (r = (0, -1)) := Hr.out.trans (getFrom_out xs p (5 - k) k sv acc (by omega))
            clear Hn' Hr
            have hd : ¬ ((k : Int) < (n : Int) - (p : Int)) := by omega
            have hk5 : (5 : Int) ≤ (n : Int) - (p : Int) → ¬ (k : Int) < 5 := by omega
            first
              | (have hk6 := hk5 h5
                 clear hk5 hP
                 go_wp2
                 go_ret2
                 exact ⟨ret2_i64 HB.out rfl rfl, hbel⟩)
              | (clear hk5 hP
                 go_wp2
                 go_ret2
                 exact ⟨ret2_i64 HB.out rfl rfl, hbel⟩)

end Go.Proofs.Ytmdmiiikbdnioaa
