/-
  Texts that a law leans on, one behind the other; no statement is proved here.
-/
import Derived.Test.YthnkedbmfhokiaaGreatDoorPk3
import Derived.Test.YthnkedbmfhokiaaGreatDoorPk5
import Derived.Test.YthnkedbmfhokiaaGreatDoorPk1
/-
  GetNum of the program answers as getNum, and turns nothing.
-/
namespace Go.Proofs.YthnkedbmfhokiaaGreatDoor
open Go.RowKit
set_option linter.unusedVariables false

set_option maxHeartbeats 800000 in
theorem digitRole_more (c k : Int) (w : World) (h : 128 ≤ c) :
    Calls Tryz.prog 77 #[.int .u8 c, .int .i64 k] w fun e w' => e = .returned (.int .i64 0) ∧ w = w' := by
  go_enter Tryz.func77, Tryz.ntmps77
  go_wp2
  go_ret
  exact ⟨rfl, rfl⟩

set_option maxHeartbeats 800000 in
theorem digitRole_less (k : Int) (w : World) (h : 0 < k) :
    Calls Tryz.prog 77 #[.int .u8 0, .int .i64 k] w fun e w' => e = .returned (.int .i64 2) ∧ w = w' := by
  go_enter Tryz.func77, Tryz.ntmps77
  go_wp2
  go_ret
  exact ⟨rfl, rfl⟩

set_option maxHeartbeats 800000 in
theorem digitRole_last (c k : Int) (w : World) (h : c < 128) (h0 : ¬ (c = 0 ∧ 0 < k)) :
    Calls Tryz.prog 77 #[.int .u8 c, .int .i64 k] w fun e w' => e = .returned (.int .i64 1) ∧ w = w' := by
  by_cases hc : c = 0
  · subst hc
    have hk : ¬ 0 < k := by omega
    clear h0
    go_enter Tryz.func77, Tryz.ntmps77
    go_wp2
    go_ret
    exact ⟨rfl, rfl⟩
  · have hc' : (c == 0) = false := by simpa using hc
    clear h0
    go_enter Tryz.func77, Tryz.ntmps77
    go_wp2
    go_ret
    exact ⟨rfl, rfl⟩

set_option maxHeartbeats 1600000 in
theorem impl_GetNum_any (a : Option Addr) (c1 : Nat) (xs : List Int) (at_ : Int) (w : World) (ha : Seg w a xs) (hl : xs.length ≤ 2097152) (hw : at_ ≤ 9223372036854775807) :
    Calls Tryz.prog 66 #[.slice a xs.length c1, .int .i64 at_] w fun e w' => e = .returned (.tuple #[.int .i64 (getNum xs at_).1, .int .i64 (getNum xs at_).2]) ∧ Below w.heap.size w w' := by
  by_cases h0 : at_ < 0
  · have HG : Hid (getNum xs at_ = (0, -1)) := getNum_neg xs at_ h0
    generalize getNum xs at_ = r at *
    go_enter Tryz.func66, Tryz.ntmps66
    go_wp2
    go_ret2
    exact ⟨ret2_i64 HG.out rfl rfl, Below.refl _ _⟩
  · obtain ⟨p, rfl⟩ := Int.eq_ofNat_of_zero_le (show 0 ≤ at_ by omega)
    by_cases hout : xs.length ≤ p
    · have HG : Hid (getNum xs p = (0, -1)) := getNum_out xs p hout
      have hout' : (xs.length : Int) ≤ (p : Int) := by omega
      generalize getNum xs p = r at *
      go_enter Tryz.func66, Tryz.ntmps66
      go_wp2
      go_ret2
      exact ⟨ret2_i64 HG.out rfl rfl, Below.refl _ _⟩
    · have hout' : ¬ (xs.length : Int) ≤ (p : Int) := by omega
      have HG : Hid (getNum xs p = getFrom xs p 5 0 1 0) := getNum_nat xs p
      generalize getNum xs p = r at *
      generalize hn : xs.length = n at *
      have Hn : Hid (xs.length = n) := hn
      clear hn
      by_cases h5 : (5 : Int) ≤ (n : Int) - (p : Int)
      all_goals
        go_enter Tryz.func66, Tryz.ntmps66
        go_wp2
        go_loopw [6, 22] (fun u i wr => ∃ (k : Nat) (sv acc : Int), i = .int .i64 k ∧ u = .int .i64 acc ∧ Place k sv ∧ 0 ≤ acc ∧ acc < sv ∧ r = getFrom xs p (5 - k) k sv acc ∧ Below w.heap.size w wr) (fun _ i _ => 5 - (intOf i).toNat)
        case atStart => exact ⟨0, 1, 0, rfl, rfl, .inl ⟨rfl, rfl⟩, by omega, by omega, HG.out, Below.refl _ _⟩
        case round =>
          obtain ⟨k, sv, acc, rfl, rfl, hP, ha0, ha1, hr, hbel⟩ := hrel
          have Hr : Hid (r = getFrom xs p (5 - k) k sv acc) := hr
          clear hr HG
          have Hn' := Hn.out
          by_cases hin : p + k < n
          · rcases hP with ⟨rfl, rfl⟩ | ⟨rfl, rfl⟩ | ⟨rfl, rfl⟩ | ⟨rfl, rfl⟩ | ⟨rfl, rfl⟩ | ⟨rfl, rfl⟩
            case inr.inr.inr.inr.inr =>
              clear Hn'
              first
                | (exfalso; omega)
                | (go_wp2
                   go_ret2
                   exact ⟨ret2_i64 Hr.out rfl rfl, hbel⟩)
            case inl =>
              obtain ⟨b, off, rfl, hc⟩ := (ha.grow hbel).at (k := p + 0) (by omega)
              have hby := getD_byt ha.1 (p + 0)
              have hin' : (0 : Int) < (n : Int) - (p : Int) := by omega
              have Hbad : Hid (xs.getD (p + 0) 0 < 128 → (xs.getD (p + 0) 0 = 0 ∧ 0 < 0) ∨ 2147483647 < acc + xs.getD (p + 0) 0 * 1 → r = (0, -1)) := fun h1 h2 => Hr.out.trans (getFrom_bad xs p 4 0 1 acc (by omega) h1 h2)
              have Hlast : Hid (xs.getD (p + 0) 0 < 128 → ¬ ((xs.getD (p + 0) 0 = 0 ∧ 0 < 0) ∨ 2147483647 < acc + xs.getD (p + 0) 0 * 1) → r = (acc + xs.getD (p + 0) 0 * 1, ((p + 0 + 1 : Nat) : Int))) := fun h1 h2 => Hr.out.trans (getFrom_last xs p 4 0 1 acc (by omega) h1 h2)
              have Hmore : Hid (¬ xs.getD (p + 0) 0 < 128 → r = getFrom xs p 4 (0 + 1) (1 * 128) (acc + (xs.getD (p + 0) 0 - 128) * 1)) := fun h1 => Hr.out.trans (getFrom_more xs p 4 0 1 acc (by omega) h1)
              clear Hn' Hr
              generalize xs.getD (p + 0) 0 = c at *
              simp only [Nat.add_zero] at hc
              by_cases h1 : c < 128
              · by_cases h2 : (c = 0 ∧ 0 < 0) ∨ 2147483647 < acc + c * 1
                · have HB : Hid (r = (0, -1)) := Hbad.out h1 h2
                  clear Hbad Hlast Hmore
                  omega
                · have HB : Hid (r = (acc + c * 1, ((p + 0 + 1 : Nat) : Int))) := Hlast.out h1 h2
                  clear Hbad Hlast Hmore
                  have h5' : acc + c % 128 * 1 ≤ 2147483647 := by omega
                  have h6 : ¬ (c = 0 ∧ (0 : Int) < 0) := by omega
                  clear h2
                  go_wp2_with fail
                  refine (digitRole_last _ _ _ h1 h6).mono ?_
                  rintro e w1 ⟨rfl, rfl⟩
                  clear h6
                  go_wp2
                  go_ret2
                  exact ⟨ret2_i64 HB.out (by omega) (by omega), hbel⟩
              · have HB : Hid (r = getFrom xs p 4 (0 + 1) (1 * 128) (acc + (c - 128) * 1)) := Hmore.out h1
                clear Hbad Hlast Hmore
                go_wp2_with fail
                refine (digitRole_more _ _ _ (by omega)).mono ?_
                rintro e w1 ⟨rfl, rfl⟩
                go_wp2
                go_roundw
                case rel => exact ⟨0 + 1, 1 * 128, acc + (c - 128) * 1, by go_num, by go_num, by unfold Place; omega, by omega, by omega, HB.out, hbel⟩
                case measure => simp [intOf]
            case inr.inl =>
              obtain ⟨b, off, rfl, hc⟩ := (ha.grow hbel).at (k := p + 1) (by omega)
              have hby := getD_byt ha.1 (p + 1)
              have hin' : (1 : Int) < (n : Int) - (p : Int) := by omega
              have Hbad : Hid (xs.getD (p + 1) 0 < 128 → (xs.getD (p + 1) 0 = 0 ∧ 0 < 1) ∨ 2147483647 < acc + xs.getD (p + 1) 0 * 128 → r = (0, -1)) := fun h1 h2 => Hr.out.trans (getFrom_bad xs p 3 1 128 acc (by omega) h1 h2)
              have Hlast : Hid (xs.getD (p + 1) 0 < 128 → ¬ ((xs.getD (p + 1) 0 = 0 ∧ 0 < 1) ∨ 2147483647 < acc + xs.getD (p + 1) 0 * 128) → r = (acc + xs.getD (p + 1) 0 * 128, ((p + 1 + 1 : Nat) : Int))) := fun h1 h2 => Hr.out.trans (getFrom_last xs p 3 1 128 acc (by omega) h1 h2)
              have Hmore : Hid (¬ xs.getD (p + 1) 0 < 128 → r = getFrom xs p 3 (1 + 1) (128 * 128) (acc + (xs.getD (p + 1) 0 - 128) * 128)) := fun h1 => Hr.out.trans (getFrom_more xs p 3 1 128 acc (by omega) h1)
              clear Hn' Hr
              generalize xs.getD (p + 1) 0 = c at *
              by_cases h1 : c < 128
              · by_cases h2 : (c = 0 ∧ 0 < 1) ∨ 2147483647 < acc + c * 128
                · have HB : Hid (r = (0, -1)) := Hbad.out h1 h2
                  clear Hbad Hlast Hmore
                  obtain rfl : c = 0 := by omega
                  clear h2 h1 hby
                  go_wp2_with fail
                  refine (digitRole_less _ _ (by decide)).mono ?_
                  rintro e w1 ⟨rfl, rfl⟩
                  go_wp2
                  go_ret2
                  exact ⟨ret2_i64 HB.out rfl rfl, hbel⟩
                · have HB : Hid (r = (acc + c * 128, ((p + 1 + 1 : Nat) : Int))) := Hlast.out h1 h2
                  clear Hbad Hlast Hmore
                  have h5' : acc + c % 128 * 128 ≤ 2147483647 := by omega
                  have h6 : ¬ (c = 0 ∧ (0 : Int) < 1) := by omega
                  clear h2
                  go_wp2_with fail
                  refine (digitRole_last _ _ _ h1 h6).mono ?_
                  rintro e w1 ⟨rfl, rfl⟩
                  clear h6
                  go_wp2
                  go_ret2
                  exact ⟨ret2_i64 HB.out (by omega) (by omega), hbel⟩
              · have HB : Hid (r = getFrom xs p 3 (1 + 1) (128 * 128) (acc + (c - 128) * 128)) := Hmore.out h1
                clear Hbad Hlast Hmore
                go_wp2_with fail
                refine (digitRole_more _ _ _ (by omega)).mono ?_
                rintro e w1 ⟨rfl, rfl⟩
                go_wp2
                go_roundw
                case rel => exact ⟨1 + 1, 128 * 128, acc + (c - 128) * 128, by go_num, by go_num, by unfold Place; omega, by omega, by omega, HB.out, hbel⟩
                case measure => simp [intOf]
            case inr.inr.inl =>
              obtain ⟨b, off, rfl, hc⟩ := (ha.grow hbel).at (k := p + 2) (by omega)
              have hby := getD_byt ha.1 (p + 2)
              have hin' : (2 : Int) < (n : Int) - (p : Int) := by omega
              have Hbad : Hid (xs.getD (p + 2) 0 < 128 → (xs.getD (p + 2) 0 = 0 ∧ 0 < 2) ∨ 2147483647 < acc + xs.getD (p + 2) 0 * 16384 → r = (0, -1)) := fun h1 h2 => Hr.out.trans (getFrom_bad xs p 2 2 16384 acc (by omega) h1 h2)
              have Hlast : Hid (xs.getD (p + 2) 0 < 128 → ¬ ((xs.getD (p + 2) 0 = 0 ∧ 0 < 2) ∨ 2147483647 < acc + xs.getD (p + 2) 0 * 16384) → r = (acc + xs.getD (p + 2) 0 * 16384, ((p + 2 + 1 : Nat) : Int))) := fun h1 h2 => Hr.out.trans (getFrom_last xs p 2 2 16384 acc (by omega) h1 h2)
              have Hmore : Hid (¬ xs.getD (p + 2) 0 < 128 → r = getFrom xs p 2 (2 + 1) (16384 * 128) (acc + (xs.getD (p + 2) 0 - 128) * 16384)) := fun h1 => Hr.out.trans (getFrom_more xs p 2 2 16384 acc (by omega) h1)
              clear Hn' Hr
              generalize xs.getD (p + 2) 0 = c at *
              by_cases h1 : c < 128
              · by_cases h2 : (c = 0 ∧ 0 < 2) ∨ 2147483647 < acc + c * 16384
                · have HB : Hid (r = (0, -1)) := Hbad.out h1 h2
                  clear Hbad Hlast Hmore
                  obtain rfl : c = 0 := by omega
                  clear h2 h1 hby
                  go_wp2_with fail
                  refine (digitRole_less _ _ (by decide)).mono ?_
                  rintro e w1 ⟨rfl, rfl⟩
                  go_wp2
                  go_ret2
                  exact ⟨ret2_i64 HB.out rfl rfl, hbel⟩
                · have HB : Hid (r = (acc + c * 16384, ((p + 2 + 1 : Nat) : Int))) := Hlast.out h1 h2
                  clear Hbad Hlast Hmore
                  have h5' : acc + c % 128 * 16384 ≤ 2147483647 := by omega
                  have h6 : ¬ (c = 0 ∧ (0 : Int) < 2) := by omega
                  clear h2
                  go_wp2_with fail
                  refine (digitRole_last _ _ _ h1 h6).mono ?_
                  rintro e w1 ⟨rfl, rfl⟩
                  clear h6
                  go_wp2
                  go_ret2
                  exact ⟨ret2_i64 HB.out (by omega) (by omega), hbel⟩
              · have HB : Hid (r = getFrom xs p 2 (2 + 1) (16384 * 128) (acc + (c - 128) * 16384)) := Hmore.out h1
                clear Hbad Hlast Hmore
                go_wp2_with fail
                refine (digitRole_more _ _ _ (by omega)).mono ?_
                rintro e w1 ⟨rfl, rfl⟩
                go_wp2
                go_roundw
                case rel => exact ⟨2 + 1, 16384 * 128, acc + (c - 128) * 16384, by go_num, by go_num, by unfold Place; omega, by omega, by omega, HB.out, hbel⟩
                case measure => simp [intOf]
            case inr.inr.inr.inl =>
              obtain ⟨b, off, rfl, hc⟩ := (ha.grow hbel).at (k := p + 3) (by omega)
              have hby := getD_byt ha.1 (p + 3)
              have hin' : (3 : Int) < (n : Int) - (p : Int) := by omega
              have Hbad : Hid (xs.getD (p + 3) 0 < 128 → (xs.getD (p + 3) 0 = 0 ∧ 0 < 3) ∨ 2147483647 < acc + xs.getD (p + 3) 0 * 2097152 → r = (0, -1)) := fun h1 h2 => Hr.out.trans (getFrom_bad xs p 1 3 2097152 acc (by omega) h1 h2)
              have Hlast : Hid (xs.getD (p + 3) 0 < 128 → ¬ ((xs.getD (p + 3) 0 = 0 ∧ 0 < 3) ∨ 2147483647 < acc + xs.getD (p + 3) 0 * 2097152) → r = (acc + xs.getD (p + 3) 0 * 2097152, ((p + 3 + 1 : Nat) : Int))) := fun h1 h2 => Hr.out.trans (getFrom_last xs p 1 3 2097152 acc (by omega) h1 h2)
              have Hmore : Hid (¬ xs.getD (p + 3) 0 < 128 → r = getFrom xs p 1 (3 + 1) (2097152 * 128) (acc + (xs.getD (p + 3) 0 - 128) * 2097152)) := fun h1 => Hr.out.trans (getFrom_more xs p 1 3 2097152 acc (by omega) h1)
              clear Hn' Hr
              generalize xs.getD (p + 3) 0 = c at *
              by_cases h1 : c < 128
              · by_cases h2 : (c = 0 ∧ 0 < 3) ∨ 2147483647 < acc + c * 2097152
                · have HB : Hid (r = (0, -1)) := Hbad.out h1 h2
                  clear Hbad Hlast Hmore
                  obtain rfl : c = 0 := by omega
                  clear h2 h1 hby
                  go_wp2_with fail
                  refine (digitRole_less _ _ (by decide)).mono ?_
                  rintro e w1 ⟨rfl, rfl⟩
                  go_wp2
                  go_ret2
                  exact ⟨ret2_i64 HB.out rfl rfl, hbel⟩
                · have HB : Hid (r = (acc + c * 2097152, ((p + 3 + 1 : Nat) : Int))) := Hlast.out h1 h2
                  clear Hbad Hlast Hmore
                  have h5' : acc + c % 128 * 2097152 ≤ 2147483647 := by omega
                  have h6 : ¬ (c = 0 ∧ (0 : Int) < 3) := by omega
                  clear h2
                  go_wp2_with fail
                  refine (digitRole_last _ _ _ h1 h6).mono ?_
                  rintro e w1 ⟨rfl, rfl⟩
                  clear h6
                  go_wp2
                  go_ret2
                  exact ⟨ret2_i64 HB.out (by omega) (by omega), hbel⟩
              · have HB : Hid (r = getFrom xs p 1 (3 + 1) (2097152 * 128) (acc + (c - 128) * 2097152)) := Hmore.out h1
                clear Hbad Hlast Hmore
                go_wp2_with fail
                refine (digitRole_more _ _ _ (by omega)).mono ?_
                rintro e w1 ⟨rfl, rfl⟩
                go_wp2
                go_roundw
                case rel => exact ⟨3 + 1, 2097152 * 128, acc + (c - 128) * 2097152, by go_num, by go_num, by unfold Place; omega, by omega, by omega, HB.out, hbel⟩
                case measure => simp [intOf]
            case inr.inr.inr.inr.inl =>
              first
                | (exfalso; omega)
                | (obtain ⟨b, off, rfl, hc⟩ := (ha.grow hbel).at (k := p + 4) (by omega)
                   have hby := getD_byt ha.1 (p + 4)
                   have hin' : (4 : Int) < (n : Int) - (p : Int) := by omega
                   have Hbad : Hid (xs.getD (p + 4) 0 < 128 → (xs.getD (p + 4) 0 = 0 ∧ 0 < 4) ∨ 2147483647 < acc + xs.getD (p + 4) 0 * 268435456 → r = (0, -1)) := fun h1 h2 => Hr.out.trans (getFrom_bad xs p 0 4 268435456 acc (by omega) h1 h2)
                   have Hlast : Hid (xs.getD (p + 4) 0 < 128 → ¬ ((xs.getD (p + 4) 0 = 0 ∧ 0 < 4) ∨ 2147483647 < acc + xs.getD (p + 4) 0 * 268435456) → r = (acc + xs.getD (p + 4) 0 * 268435456, ((p + 4 + 1 : Nat) : Int))) := fun h1 h2 => Hr.out.trans (getFrom_last xs p 0 4 268435456 acc (by omega) h1 h2)
                   have Hmore : Hid (¬ xs.getD (p + 4) 0 < 128 → r = getFrom xs p 0 (4 + 1) (268435456 * 128) (acc + (xs.getD (p + 4) 0 - 128) * 268435456)) := fun h1 => Hr.out.trans (getFrom_more xs p 0 4 268435456 acc (by omega) h1)
                   clear Hn' Hr
                   generalize xs.getD (p + 4) 0 = c at *
                   by_cases h1 : c < 128
                   · by_cases h2 : (c = 0 ∧ 0 < 4) ∨ 2147483647 < acc + c * 268435456
                     · have HB : Hid (r = (0, -1)) := Hbad.out h1 h2
                       clear Hbad Hlast Hmore
                       by_cases h3 : c = 0
                       · subst h3
                         clear h2 h1 hby
                         go_wp2_with fail
                         refine (digitRole_less _ _ (by decide)).mono ?_
                         rintro e w1 ⟨rfl, rfl⟩
                         go_wp2
                         go_ret2
                         exact ⟨ret2_i64 HB.out rfl rfl, hbel⟩
                       · have h5' : 2147483647 < acc + c % 128 * 268435456 := by omega
                         clear h2
                         go_wp2_with fail
                         refine (digitRole_last _ _ _ h1 (by omega)).mono ?_
                         rintro e w1 ⟨rfl, rfl⟩
                         go_wp2
                         go_ret2
                         exact ⟨ret2_i64 HB.out rfl rfl, hbel⟩
                     · have HB : Hid (r = (acc + c * 268435456, ((p + 4 + 1 : Nat) : Int))) := Hlast.out h1 h2
                       clear Hbad Hlast Hmore
                       have h5' : acc + c % 128 * 268435456 ≤ 2147483647 := by omega
                       have h6 : ¬ (c = 0 ∧ (0 : Int) < 4) := by omega
                       clear h2
                       go_wp2_with fail
                       refine (digitRole_last _ _ _ h1 h6).mono ?_
                       rintro e w1 ⟨rfl, rfl⟩
                       clear h6
                       go_wp2
                       go_ret2
                       exact ⟨ret2_i64 HB.out (by omega) (by omega), hbel⟩
                   · have HB : Hid (r = getFrom xs p 0 (4 + 1) (268435456 * 128) (acc + (c - 128) * 268435456)) := Hmore.out h1
                     clear Hbad Hlast Hmore
                     go_wp2_with fail
                     refine (digitRole_more _ _ _ (by omega)).mono ?_
                     rintro e w1 ⟨rfl, rfl⟩
                     go_wp2
                     go_roundw
                     case rel => exact ⟨4 + 1, 268435456 * 128, acc + (c - 128) * 268435456, by go_num, by go_num, by unfold Place; omega, by omega, by omega, HB.out, hbel⟩
                     case measure => simp [intOf])
          · have HB : Hid (r = (0, -1)) := Hr.out.trans (getFrom_out xs p (5 - k) k sv acc (by omega))
            clear Hn' Hr
            have hd : ¬ ((k : Int) < (n : Int) - (p : Int)) := by omega
            have hk5 : (5 : Int) ≤ (n : Int) - (p : Int) → ¬ (k : Int) < 5 := by omega
            first
              | (have hk6 := hk5 h5
                 clear hk5 hP
                 go_wp2
                 go_ret2
                 exact ⟨ret2_i64 HB.out rfl rfl, hbel⟩)
              | (clear hk5 hP
                 go_wp2
                 go_ret2
                 exact ⟨ret2_i64 HB.out rfl rfl, hbel⟩)

end Go.Proofs.YthnkedbmfhokiaaGreatDoor
/-
  An append to a slice that lies on such a heap leaves such a heap. No statement is proved here.
-/
namespace Go.Proofs.YthnkedbmfhokiaaGreatDoor
open Go.RowKit
set_option linter.unusedVariables false
set_option linter.unusedSimpArgs false

/-- Each five of these cells fulfil Q. -/
def Gps (Q : Value × Value × Value × Value × Value → Prop) (l : List Value) : Prop := ∀ (j : Nat) (c0 c1 c2 c3 c4 : Value), l[j * 5]? = some c0 → l[j * 5 + 1]? = some c1 → l[j * 5 + 2]? = some c2 → l[j * 5 + 3]? = some c3 → l[j * 5 + 4]? = some c4 → Q (c0, c1, c2, c3, c4)

theorem Gps.app {Q : Value × Value × Value × Value × Value → Prop} {xs ys : List Value} (k : Nat) (hk : xs.length = k * 5) (h1 : Gps Q xs) (h2 : Gps Q ys) : Gps Q (xs ++ ys) := by
  intro j c0 c1 c2 c3 c4 g0 g1 g2 g3 g4
  by_cases hj : j < k
  · rw [List.getElem?_append_left (by omega)] at g0 g1 g2 g3 g4
    exact h1 j _ _ _ _ _ g0 g1 g2 g3 g4
  · rw [List.getElem?_append_right (by omega)] at g0 g1 g2 g3 g4
    have e : ∀ q, j * 5 + q - xs.length = (j - k) * 5 + q := fun q => by omega
    have e0 : j * 5 - xs.length = (j - k) * 5 := by omega
    rw [e0] at g0
    rw [e] at g1 g2 g3 g4
    exact h2 (j - k) _ _ _ _ _ g0 g1 g2 g3 g4

theorem take_some {l : List Value} {n j : Nat} {c : Value} (h : (l.take n)[j]? = some c) : l[j]? = some c := by
  rw [List.getElem?_take] at h
  split at h
  · exact h
  · cases h
theorem Gps.take {Q : Value × Value × Value × Value × Value → Prop} {xs : List Value} (n : Nat) (h : Gps Q xs) : Gps Q (xs.take n) := fun j c0 c1 c2 c3 c4 g0 g1 g2 g3 g4 => h j _ _ _ _ _ (take_some g0) (take_some g1) (take_some g2) (take_some g3) (take_some g4)
theorem Gps.drop {Q : Value × Value × Value × Value × Value → Prop} {xs : List Value} (k : Nat) (h : Gps Q xs) : Gps Q (xs.drop (k * 5)) := fun j c0 c1 c2 c3 c4 g0 g1 g2 g3 g4 => by
  rw [List.getElem?_drop] at g0 g1 g2 g3 g4
  have e : ∀ q, k * 5 + (j * 5 + q) = (k + j) * 5 + q := fun q => by omega
  have e0 : k * 5 + j * 5 = (k + j) * 5 := by omega
  rw [e0] at g0
  rw [e] at g1 g2 g3 g4
  exact h (k + j) _ _ _ _ _ g0 g1 g2 g3 g4
theorem Gps.one {Q : Value × Value × Value × Value × Value → Prop} {c0 c1 c2 c3 c4 : Value} (h : Q (c0, c1, c2, c3, c4)) : Gps Q [c0, c1, c2, c3, c4] := fun j d0 d1 d2 d3 d4 g0 g1 g2 g3 g4 => by
  have hj : j = 0 := by
    have := (List.getElem?_eq_some_iff.1 g0).1
    simp at this
    omega
  subst hj
  simp at g0 g1 g2 g3 g4
  subst g0 g1 g2 g3 g4
  exact h
theorem zeroCells_at {z : Array Value} {n j : Nat} {c : Value} (h : (Builtin.zeroCells z n).toList[j]? = some c) : c = z[j % z.size]! := by
  unfold Builtin.zeroCells at h
  rw [Array.getElem?_toList] at h
  have hl := (Array.getElem?_eq_some_iff.1 h).1
  simp at hl
  simp [hl] at h
  exact h.symm
theorem Gps.zero {Q : Value × Value × Value × Value × Value → Prop} (n : Nat) (h : Q (.int .i64 0, .int .i64 0, .slice none 0 0, .slice none 0 0, .slice none 0 0)) : Gps Q (Builtin.zeroCells (Value.cells (.agg #[.int .i64 0, .int .i64 0, .slice none 0 0, .slice none 0 0, .slice none 0 0])) n).toList := fun j d0 d1 d2 d3 d4 g0 g1 g2 g3 g4 => by
  have e : (Value.cells (.agg #[.int .i64 0, .int .i64 0, .slice none 0 0, .slice none 0 0, .slice none 0 0])) = #[.int .i64 0, .int .i64 0, .slice none 0 0, .slice none 0 0, .slice none 0 0] := by rfl
  rw [e] at g0 g1 g2 g3 g4
  have a0 := zeroCells_at g0
  have a1 := zeroCells_at g1
  have a2 := zeroCells_at g2
  have a3 := zeroCells_at g3
  have a4 := zeroCells_at g4
  have m0 : j * 5 % 5 = 0 := by omega
  have m1 : (j * 5 + 1) % 5 = 1 := by omega
  have m2 : (j * 5 + 2) % 5 = 2 := by omega
  have m3 : (j * 5 + 3) % 5 = 3 := by omega
  have m4 : (j * 5 + 4) % 5 = 4 := by omega
  simp only [List.size_toArray, List.length_cons, List.length_nil] at a0 a1 a2 a3 a4
  simp only [Nat.zero_add, Nat.reduceAdd, m0, m1, m2, m3, m4] at a0 a1 a2 a3 a4
  simp at a0 a1 a2 a3 a4
  subst a0 a1 a2 a3 a4
  exact h

theorem sli_nil (B M : Nat) (T : TypeId) (s : Nat) (p : Nat → Prop) (w : World) : Sli B M T s p w (.slice none 0 0) := ⟨none, 0, 0, rfl, Nat.zero_le _, Nat.le_refl _, Nat.zero_le _, .inl ⟨rfl, rfl⟩⟩
theorem grp_leaf (B M : Nat) (rk : Nat → Nat) (r : Nat) (w : World) (k n : Int) : Grp B M rk r w (.int .i64 k, .int .i64 n, .slice none 0 0, .slice none 0 0, .slice none 0 0) :=
  ⟨⟨k, rfl⟩, ⟨n, rfl⟩, sli_nil _ _ _ _ _ _, sli_nil _ _ _ _ _ _, sli_nil _ _ _ _ _ _⟩

theorem Sli.one {B M s : Nat} {T : TypeId} {p : Nat → Prop} {w : World} {v : Value} (h : Sli B M T s p w v) : v.oneCell' = true := by
  obtain ⟨a, n, cap, rfl, _⟩ := h
  rfl
theorem Grp.one {B M : Nat} {rk : Nat → Nat} {r : Nat} {w : World} {c0 c1 c2 c3 c4 : Value} (h : Grp B M rk r w (c0, c1, c2, c3, c4)) : ∀ u ∈ [c0, c1, c2, c3, c4], u.oneCell' = true := by
  obtain ⟨⟨x0, h0⟩, ⟨x1, h1⟩, h2, h3, h4⟩ := h
  simp only at h0 h1 h2 h3 h4
  intro u hu
  simp at hu
  rcases hu with rfl | rfl | rfl | rfl | rfl
  · rw [h0]; rfl
  · rw [h1]; rfl
  · exact h2.one
  · exact h3.one
  · exact h4.one

/-- A row is written anew in its place. -/
theorem Hw.setRow {B M : Nat} {rk : Nat → Nat} {w : World} {g : Nat} {cur new : Array Value} {T : TypeId} {fr : Nat × Nat} (h : Hw B M rk w) (hB : B ≤ g) (hg : w.heap[g]? = some (.cells cur T fr)) (hs : new.size = cur.size) (hn : Okc B M rk (w.setRow g new) g new T fr) : Hw B M rk (w.setRow g new) := by
  refine h.step (Shp.setRow hg hs) (Rks.refl _ _) fun b hb hbz => ?_
  by_cases he : b = g
  · subst he
    refine .inr fun c T' fr' hh => ?_
    rw [setRow_heap w b cur new T fr hg] at hh
    simp only [Option.some.injEq, Obj.cells.injEq] at hh
    obtain ⟨rfl, rfl, rfl⟩ := hh
    exact hn
  · exact .inl ⟨by simpa using hbz, setRow_other w g b new he⟩

theorem grownBy_setRow (w : World) (g : Nat) (new : Array Value) : w.grownBy (w.setRow g new) (some g) := ⟨rfl, rfl, rfl, by simp, fun k _ hk => setRow_other w g k _ (fun e => hk (by simp [e]))⟩
theorem grownBy_drewAlloc (w : World) (o : Obj) (row : Option Nat) : w.grownBy (w.drew.alloc o) row := ⟨rfl, rfl, rfl, by simp, fun k hk _ => Below.heap_alloc w.drew o k hk⟩

/-- 'append(l, x)' of a value. -/
theorem run_append_hv (w : World) (ty : TypeId) (B2 B M : Nat) (rk : Nat → Nat) (r R : Nat) (a : Option Addr) (n cap : Nat) (hv : Sli B2 M 26 5 (fun g => r ≤ rk g ∧ rk g < R) w (.slice a n cap)) (hH : Hw B M rk w) (hB2 : B ≤ B2) (hBw : B2 ≤ w.heap.size) (hn : n ≤ 1000000)
    (c0 c1 c2 c3 c4 : Value) (hc : Grp B M rk r w (c0, c1, c2, c3, c4)) (hrR : r < R) (ad : Addr) (c : Nat) (hnews : ∀ (j : Nat) (u : Value), [c0, c1, c2, c3, c4][j]? = some u → w.cell? (ad.add j) = some u) :
    ∃ (g' cap' : Nat) (w' : World) (rk' : Nat → Nat), (Builtin.append_ #[24, 24] ty #[.slice a n cap, .slice (some ad) 1 c]).run Tryz.prog w = .ok (.slice (some ⟨g', 0, none⟩) (n + 1) cap') w' ∧ Hw B M rk' w' ∧ Rks rk rk' w.heap.size ∧
      (∀ M', n + 1 ≤ M' → Sli B2 M' 26 5 (fun g => r ≤ rk' g ∧ rk' g < R) w' (.slice (some ⟨g', 0, none⟩) (n + 1) cap')) ∧ Shp w w' ∧ w.grownBy w' (Value.slice a n cap).ownBlock := by
  obtain ⟨i, hi, hz0, hz1, hz2⟩ := info_parts info_valueT
  have hfr : ∀ (g : Nat) (cur : Array Value) (fr : Nat × Nat), B ≤ g → w.heap[g]? = some (.cells cur 26 fr) → fr.2 = 0 ∨ cur.size ≤ fr.1 := fun g cur fr hB hg => .inl (by rw [((hH g hB cur _ fr hg).2.2 rfl).1])
  obtain ⟨g', cap', w', hrun, k1, k2, hcase⟩ := run_append_sl w 24 ty 26 i _ 5 88 Tryz.underlying24 hi hz0 hz1 hz2 (by omega) (by rfl) B2 M _ a n cap hv (fun g cur fr hB hg => hfr g cur fr (by omega) hg) hn ad 1 c [c0, c1, c2, c3, c4] rfl hnews hc.one (by omega) (by omega)
  rcases hcase with ⟨cur, fr, rfl, hB, hp, rfl, hg, hcz, hfit, rfl⟩ | ⟨rfl, old, hol, hold, rfl⟩
  · obtain rfl : fr = (0, 0) := ((hH g' (by omega) cur _ fr hg).2.2 rfl).1
    have hQ : Gps (Grp B M rk (rk g') w) cur.toList := fun j d0 d1 d2 d3 d4 e0 e1 e2 e3 e4 => ((hH g' (by omega) cur _ _ hg).2.2 rfl).2 j d0 d1 d2 d3 d4 (by rwa [Array.getElem?_toList] at e0) (by rwa [Array.getElem?_toList] at e1) (by rwa [Array.getElem?_toList] at e2) (by rwa [Array.getElem?_toList] at e3) (by rwa [Array.getElem?_toList] at e4)
    have hsz : (cur.toList.take (n * 5) ++ [c0, c1, c2, c3, c4] ++ cur.toList.drop (n * 5 + 1 * 5)).toArray.size = cur.size := by
      simp only [List.size_toArray, List.length_append, List.length_take, List.length_drop, Array.length_toList, List.length_cons, List.length_nil]
      omega
    have hS := Shp.setRow (new := (cur.toList.take (n * 5) ++ [c0, c1, c2, c3, c4] ++ cur.toList.drop (n * 5 + 1 * 5)).toArray) hg hsz
    refine ⟨g', cap', _, rk, hrun, hH.setRow (by omega) hg hsz ⟨fun h => absurd h (by decide), fun h => absurd h (by decide), fun _ => ⟨rfl, fun j d0 d1 d2 d3 d4 e0 e1 e2 e3 e4 => ?_⟩⟩, Rks.refl _ _, fun M' hM' => ⟨_, _, _, rfl, hM', k1, k2, .inr ⟨g', _, (0, 0), rfl, hB, hp, setRow_heap w g' cur _ _ _ hg, hsz.trans hcz⟩⟩, hS, ?_⟩
    · have hA : Gps (Grp B M rk (rk g') w) (cur.toList.take (n * 5) ++ [c0, c1, c2, c3, c4] ++ cur.toList.drop (n * 5 + 1 * 5)) := by
        refine Gps.app (n + 1) (by simp only [List.length_append, List.length_take, Array.length_toList, List.length_cons, List.length_nil]; omega) (Gps.app n (by simp only [List.length_take, Array.length_toList]; omega) (hQ.take _) (Gps.one (hc.shp (Shp.refl _) (Rks.refl _ _) hp.1))) ?_
        have e : n * 5 + 1 * 5 = (n + 1) * 5 := by omega
        rw [e]
        exact hQ.drop _
      simp only [List.getElem?_toArray] at e0 e1 e2 e3 e4
      exact (hA j _ _ _ _ _ e0 e1 e2 e3 e4).shp hS (Rks.refl _ _) (Nat.le_refl _)
    · exact grownBy_setRow _ _ _
  · have hQ : ∃ ρ, r ≤ ρ ∧ ρ < R ∧ Gps (Grp B M rk ρ w) old := by
      rcases hold with ⟨_, rfl⟩ | ⟨g, cur, fr, _, hB, hp, hg, rfl⟩
      · exact ⟨r, Nat.le_refl _, hrR, fun j d0 d1 d2 d3 d4 e0 => by simp at e0⟩
      · refine ⟨rk g, hp.1, hp.2, Gps.take _ fun j d0 d1 d2 d3 d4 e0 e1 e2 e3 e4 => ((hH g (by omega) cur _ _ hg).2.2 rfl).2 j d0 d1 d2 d3 d4 (by rwa [Array.getElem?_toList] at e0) (by rwa [Array.getElem?_toList] at e1) (by rwa [Array.getElem?_toList] at e2) (by rwa [Array.getElem?_toList] at e3) (by rwa [Array.getElem?_toList] at e4)⟩
    obtain ⟨ρ, hρ1, hρ2, hQ⟩ := hQ
    have hA : Gps (Grp B M rk ρ w) (old ++ [c0, c1, c2, c3, c4] ++ (Builtin.zeroCells (Value.cells (.agg #[.int .i64 0, .int .i64 0, .slice none 0 0, .slice none 0 0, .slice none 0 0])) (cap' - (n + 1))).toList) :=
      Gps.app (n + 1) (by simp only [List.length_append, List.length_cons, List.length_nil]; omega) (Gps.app n hol hQ (Gps.one (hc.shp (Shp.refl _) (Rks.refl _ _) hρ1))) (Gps.zero _ (grp_leaf _ _ _ _ _ _ _))
    have hS : Shp w.drew (w.drew.alloc (.cells (old.toArray ++ #[c0, c1, c2, c3, c4] ++ Builtin.zeroCells (Value.cells (.agg #[.int .i64 0, .int .i64 0, .slice none 0 0, .slice none 0 0, .slice none 0 0])) (cap' - (n + 1))) 26)) := Shp.alloc _ _
    have hK : Rks rk (rkUp rk w.heap.size ρ) w.heap.size := rkUp_old _ _ _
    refine ⟨w.heap.size, cap', _, rkUp rk w.heap.size ρ, hrun, Hw.alloc (w := w.drew) hH _ hK fun cur T fr e => ?_, hK, fun M' hM' => ⟨_, _, _, rfl, hM', k1, k2, .inr ⟨w.heap.size, _, (0, 0), rfl, hBw, ⟨by rw [rkUp_at]; exact hρ1, by rw [rkUp_at]; exact hρ2⟩, heap_alloc_new w.drew _, ?_⟩⟩, hS, grownBy_drewAlloc _ _ _⟩
    · simp only [Obj.cells.injEq] at e
      obtain ⟨rfl, rfl, rfl⟩ := e
      refine ⟨fun h => absurd h (by decide), fun h => absurd h (by decide), fun _ => ⟨rfl, fun j d0 d1 d2 d3 d4 e0 e1 e2 e3 e4 => ?_⟩⟩
      have el : (old.toArray ++ [c0, c1, c2, c3, c4].toArray ++ Builtin.zeroCells (Value.cells (.agg #[.int .i64 0, .int .i64 0, .slice none 0 0, .slice none 0 0, .slice none 0 0])) (cap' - (n + 1))).toList = old ++ [c0, c1, c2, c3, c4] ++ (Builtin.zeroCells (Value.cells (.agg #[.int .i64 0, .int .i64 0, .slice none 0 0, .slice none 0 0, .slice none 0 0])) (cap' - (n + 1))).toList := by simp
      have hA2 := hA j d0 d1 d2 d3 d4
      rw [← el] at hA2
      simp only [Array.getElem?_toList] at hA2
      exact (hA2 e0 e1 e2 e3 e4).shp hS hK (by rw [show (w.drew).heap.size = w.heap.size from rfl, rkUp_at]; exact Nat.le_refl _)
    · simp only [Array.size_append, List.size_toArray, size_zeroCells, hol]
      simp [Value.cells]
      omega

/-- 'append(l, x)' of a text. -/
theorem run_append_hk (w : World) (ty : TypeId) (B2 B M : Nat) (rk : Nat → Nat) (a : Option Addr) (n cap : Nat) (hv : Sli B2 M 22 1 (fun _ => True) w (.slice a n cap)) (hH : Hw B M rk w) (hB2 : B ≤ B2) (hBw : B2 ≤ w.heap.size) (hn : n ≤ 1000000)
    (c0 : Value) (hc : Sli B M 5 1 (fun _ => True) w c0) (ad : Addr) (c : Nat) (hnews : ∀ (j : Nat) (u : Value), [c0][j]? = some u → w.cell? (ad.add j) = some u) :
    ∃ (g' cap' : Nat) (w' : World), (Builtin.append_ #[23, 23] ty #[.slice a n cap, .slice (some ad) 1 c]).run Tryz.prog w = .ok (.slice (some ⟨g', 0, none⟩) (n + 1) cap') w' ∧ Hw B M rk w' ∧
      (∀ M', n + 1 ≤ M' → Sli B2 M' 22 1 (fun _ => True) w' (.slice (some ⟨g', 0, none⟩) (n + 1) cap')) ∧ Shp w w' ∧ w.grownBy w' (Value.slice a n cap).ownBlock := by
  obtain ⟨i, hi, hz0, hz1, hz2⟩ := info_parts infoT
  have hfr : ∀ (g : Nat) (cur : Array Value) (fr : Nat × Nat), B ≤ g → w.heap[g]? = some (.cells cur 22 fr) → fr.2 = 0 ∨ cur.size ≤ fr.1 := fun g cur fr hB hg => .inl (by rw [((hH g hB cur _ fr hg).2.1 rfl).1])
  obtain ⟨g', cap', w', hrun, k1, k2, hcase⟩ := run_append_sl w 23 ty 22 i _ 1 24 Tryz.underlying23 hi hz0 hz1 hz2 (by omega) (by rfl) B2 M _ a n cap hv (fun g cur fr hB hg => hfr g cur fr (by omega) hg) hn ad 1 c [c0] rfl hnews (fun u hu => by simp at hu; subst hu; exact hc.one) (by omega) (by omega)
  rcases hcase with ⟨cur, fr, rfl, hB, hp, rfl, hg, hcz, hfit, rfl⟩ | ⟨rfl, old, hol, hold, rfl⟩
  · obtain rfl : fr = (0, 0) := ((hH g' (by omega) cur _ fr hg).2.1 rfl).1
    have hQ := ((hH g' (by omega) cur _ _ hg).2.1 rfl).2
    have hsz : (cur.toList.take (n * 1) ++ [c0] ++ cur.toList.drop (n * 1 + 1 * 1)).toArray.size = cur.size := by
      simp only [List.size_toArray, List.length_append, List.length_take, List.length_drop, Array.length_toList, List.length_cons, List.length_nil]
      omega
    have hS := Shp.setRow (new := (cur.toList.take (n * 1) ++ [c0] ++ cur.toList.drop (n * 1 + 1 * 1)).toArray) hg hsz
    refine ⟨g', cap', _, hrun, hH.setRow (by omega) hg hsz ⟨fun h => absurd h (by decide), fun _ => ⟨rfl, fun j d e => ?_⟩, fun h => absurd h (by decide)⟩, fun M' hM' => ⟨_, _, _, rfl, hM', k1, k2, .inr ⟨g', _, (0, 0), rfl, hB, trivial, setRow_heap w g' cur _ _ _ hg, hsz.trans hcz⟩⟩, hS, grownBy_setRow _ _ _⟩
    simp only [List.getElem?_toArray] at e
    have hm := List.mem_of_getElem? e
    rcases List.mem_append.1 hm with hm | hm
    · rcases List.mem_append.1 hm with hm | hm
      · obtain ⟨q, hq⟩ := List.getElem?_of_mem (List.mem_of_mem_take hm)
        exact (hQ q d (by rwa [Array.getElem?_toList] at hq)).shp row3_b hS fun _ _ h => h
      · simp at hm
        subst hm
        exact hc.shp row3_b hS fun _ _ h => h
    · obtain ⟨q, hq⟩ := List.getElem?_of_mem (List.mem_of_mem_drop hm)
      exact (hQ q d (by rwa [Array.getElem?_toList] at hq)).shp row3_b hS fun _ _ h => h
  · have hQ : ∀ u ∈ old, Sli B M 5 1 (fun _ => True) w u := by
      intro u hu
      rcases hold with ⟨_, rfl⟩ | ⟨g, cur, fr, _, hB, hp, hg, rfl⟩
      · simp at hu
      · obtain ⟨q, hq⟩ := List.getElem?_of_mem (List.mem_of_mem_take hu)
        exact ((hH g (by omega) cur _ _ hg).2.1 rfl).2 q u (by rwa [Array.getElem?_toList] at hq)
    have hS : Shp w.drew (w.drew.alloc (.cells (old.toArray ++ [c0].toArray ++ Builtin.zeroCells (Value.cells (.slice none 0 0)) (cap' - (n + 1))) 22)) := Shp.alloc _ _
    refine ⟨w.heap.size, cap', _, hrun, Hw.alloc (w := w.drew) hH _ (Rks.refl _ _) fun cur T fr e => ?_, fun M' hM' => ⟨_, _, _, rfl, hM', k1, k2, .inr ⟨w.heap.size, _, (0, 0), rfl, hBw, trivial, heap_alloc_new w.drew _, ?_⟩⟩, hS, grownBy_drewAlloc _ _ _⟩
    · simp only [Obj.cells.injEq] at e
      obtain ⟨rfl, rfl, rfl⟩ := e
      refine ⟨fun h => absurd h (by decide), fun _ => ⟨rfl, fun j d e => ?_⟩, fun h => absurd h (by decide)⟩
      rw [← Array.getElem?_toList] at e
      have e' : (old ++ [c0] ++ (Builtin.zeroCells (Value.cells (.slice none 0 0)) (cap' - (n + 1))).toList)[j]? = some d := by simpa using e
      have hm := List.mem_of_getElem? e'
      rcases List.mem_append.1 hm with hm | hm
      · rcases List.mem_append.1 hm with hm | hm
        · exact Sli.shp (w := w) (hQ d hm) row3_b hS fun _ _ h => h
        · simp at hm
          subst hm
          exact Sli.shp (w := w) hc row3_b hS fun _ _ h => h
      · obtain ⟨q, hq⟩ := List.getElem?_of_mem hm
        have := zeroCells_at hq
        have ez : (Value.cells (.slice none 0 0)) = #[.slice none 0 0] := by rfl
        rw [ez] at this
        simp [Nat.mod_one] at this
        subst this
        exact sli_nil _ _ _ _ _ _
    · simp only [Array.size_append, List.size_toArray, size_zeroCells, hol]
      simp [Value.cells]
      omega
end Go.Proofs.YthnkedbmfhokiaaGreatDoor
/-
  The draws' cursor on such a heap: nothing is made, and no block but the cursor's turns. No statement is proved here.
-/
namespace Go.Proofs.YthnkedbmfhokiaaGreatDoor
open Go.RowKit
set_option linter.unusedVariables false
set_option linter.unusedSimpArgs false

/-- Nothing but the cursor's block has turned. -/
def Cus (g : Nat) (w w' : World) : Prop := w.grownBy w' (some g) ∧ w'.heap.size = w.heap.size

theorem Cus.trans {g : Nat} {w w1 w2 : World} (h : Cus g w w1) (k : Cus g w1 w2) : Cus g w w2 := ⟨grownBy_trans h.1 k.1, k.2.trans h.2⟩
theorem cus_one {w : World} {g : Nat} {a : Option Addr} {n cap i : Nat} {h : Int} (hh : w.heap[g]? = some (.cells #[.slice a n cap, .int .i64 i, .int .i64 h] 59 (0, 0))) (h' : Int) (m1 m2 : Nat) (hi : i ≤ n) :
    Cur (((w.setCell ⟨g, 2, none⟩ (.int .i64 h')).drewN m1).drewN m2) g a n cap ∧ Cus g w (((w.setCell ⟨g, 2, none⟩ (.int .i64 h')).drewN m1).drewN m2) := by
  have k := cur_one hh h' m1 m2 hi
  exact ⟨k.1, k.2, by show (w.setCell ⟨g, 2, none⟩ (.int .i64 h')).heap.size = _; simp [World.setCell]⟩
theorem cus_two {w : World} {g : Nat} {a : Option Addr} {n cap i : Nat} {h : Int} (hh : w.heap[g]? = some (.cells #[.slice a n cap, .int .i64 i, .int .i64 h] 59 (0, 0))) (h' : Int) (m : Nat) (hi : i < n) :
    Cur (((w.setCell ⟨g, 2, none⟩ (.int .i64 h')).drewN m).setCell ⟨g, 1, none⟩ (.int .i64 ((i : Int) + 1))) g a n cap ∧ Cus g w (((w.setCell ⟨g, 2, none⟩ (.int .i64 h')).drewN m).setCell ⟨g, 1, none⟩ (.int .i64 ((i : Int) + 1))) := by
  have k := cur_two hh h' m hi
  exact ⟨k.1, k.2, by simp [World.setCell, World.drewN]⟩

set_option maxHeartbeats 1600000 in
theorem l1Byte_cus (g : Nat) (a : Option Addr) (cap : Nat) (xs : List Int) (w : World) (ha : Seg w a xs) (hl : xs.length ≤ maxLen) (hC : Cur w g a xs.length cap) (hne : ∀ x, a = some x → xs ≠ [] → x.block ≠ g) :
    Calls Tryz.prog 55 #[.pointer (some ⟨g, 0, none⟩)] w fun e w' => ∃ x : Int, e = .returned (.int .i64 x) ∧ 0 ≤ x ∧ x ≤ 255 ∧ Cur w' g a xs.length cap ∧ Cus g w w' := by
  unfold maxLen at hl
  obtain ⟨i, h, hh, hi⟩ := hC
  have c0 : w.cell? ⟨g, 0, none⟩ = some (.slice a xs.length cap) := by rw [cell_of_row w g 0 _ 59 (0, 0) hh]; rfl
  have c1 : w.cell? ⟨g, 1, none⟩ = some (.int .i64 i) := by rw [cell_of_row w g 1 _ 59 (0, 0) hh]; rfl
  have c2 : w.cell? ⟨g, 2, none⟩ = some (.int .i64 h) := by rw [cell_of_row w g 2 _ 59 (0, 0) hh]; rfl
  have f1 : w.frozen? ⟨g, 1, none⟩ = false := frozen_of_row w g 1 _ 59 hh
  have f2 : w.frozen? ⟨g, 2, none⟩ = false := frozen_of_row w g 2 _ 59 hh
  generalize hn : xs.length = n at *
  have Hn : Hid (xs.length = n) := hn
  have Hh : Hid (w.heap[g]? = some (.cells #[.slice a n cap, .int .i64 i, .int .i64 h] 59 (0, 0))) := hh
  clear hn hh
  by_cases hlt : i < n
  · have hlt' : (i : Int) < (n : Int) := by omega
    obtain ⟨b, off, rfl, hc⟩ := ha.at (k := i) (by have := Hn.out; omega)
    have hbg : b ≠ g := hne _ rfl (by intro e; have := Hn.out; rw [e] at this; simp at this; omega)
    generalize xs.getD i 0 = c at hc
    have hcs : ∀ v, (w.setCell ⟨g, 2, none⟩ v).cell? ⟨b, off + i, none⟩ = some (.int .u8 c) := fun v => (World.cell?_of_block (Below.heap_setCell w ⟨g, 2, none⟩ v b hbg)).trans hc
    go_enter Tryz.func55, Tryz.ntmps55
    go_wp2
    go_quiet (fail)
    go_wp2
    go_quiet (fail)
    go_wp2
    go_quiet (fail)
    go_wp2
    go_ret
    exact ⟨_, rfl, (and_bound _ _ 255 (by omega) rfl).1, (and_bound _ _ 255 (by omega) rfl).2, cus_two Hh.out _ _ hlt⟩
  · have hlt' : ¬ (i : Int) < (n : Int) := by omega
    go_enter Tryz.func55, Tryz.ntmps55
    go_wp2
    go_quiet (fail)
    go_wp2
    go_quiet (fail)
    go_wp2
    go_ret
    exact ⟨_, rfl, (and_bound _ _ 255 (by omega) rfl).1, (and_bound _ _ 255 (by omega) rfl).2, cus_one Hh.out _ _ _ hi⟩

theorem l1Byte_dc (g : Nat) (a : Option Addr) (cap : Nat) (xs : List Int) (w : World) (h : Drw w g a cap xs) :
    Calls Tryz.prog 55 #[.pointer (some ⟨g, 0, none⟩)] w fun e w' => ∃ x : Int, e = .returned (.int .i64 x) ∧ 0 ≤ x ∧ x ≤ 255 ∧ Drw w' g a cap xs ∧ Cus g w w' := by
  refine (l1Byte_cus g a cap xs w h.1 h.2.1 h.2.2.1 h.2.2.2).mono ?_
  rintro e w1 ⟨x, rfl, h0, h1, hc, hg⟩
  exact ⟨x, rfl, h0, h1, ⟨h.1.away hg.1 (fun y hy he e => h.2.2.2 y hy he (by simpa using e.symm)), h.2.1, hc, h.2.2.2⟩, hg⟩

set_option maxHeartbeats 1600000 in
theorem l1Below_dc (g : Nat) (a : Option Addr) (cap : Nat) (xs : List Int) (n : Int) (w : World) (h : Drw w g a cap xs) (hn : n ≤ 9223372036854775807) :
    Calls Tryz.prog 51 #[.pointer (some ⟨g, 0, none⟩), .int .i64 n] w fun e w' => ∃ x : Int, e = .returned (.int .i64 x) ∧ 0 ≤ x ∧ (0 < n → x < n) ∧ (n ≤ 0 → x = 0) ∧ Drw w' g a cap xs ∧ Cus g w w' := by
  by_cases h0 : n ≤ 0
  · go_enter Tryz.func51, Tryz.ntmps51
    go_wp2
    go_ret
    exact ⟨0, rfl, by omega, by omega, fun _ => rfl, h, ⟨World.grownBy.refl _ _, rfl⟩⟩
  · have hp : 0 < n := by omega
    by_cases h1 : n ≤ 256
    · go_enter Tryz.func51, Tryz.ntmps51
      go_wp2_with fail
      refine (l1Byte_dc g a cap xs _ h).mono ?_
      rintro e w1 ⟨x, rfl, hx0, hx1, hd, hg⟩
      go_wp2
      go_ret
      exact ⟨_, rfl, Int.emod_nonneg _ (by omega), fun _ => Int.emod_lt_of_pos _ hp, by omega, hd, hg⟩
    · go_enter Tryz.func51, Tryz.ntmps51
      go_wp2_with fail
      refine (l1Byte_dc g a cap xs _ h).mono ?_
      rintro e w1 ⟨x1, rfl, hx0, hx1, hd1, hg1⟩
      go_wp2_with fail
      refine (l1Byte_dc g a cap xs _ hd1).mono ?_
      rintro e w2 ⟨x2, rfl, hy0, hy1, hd2, hg2⟩
      go_wp2_with fail
      refine (l1Byte_dc g a cap xs _ hd2).mono ?_
      rintro e w3 ⟨x3, rfl, hz0, hz1, hd3, hg3⟩
      go_wp2_with fail
      refine (l1Byte_dc g a cap xs _ hd3).mono ?_
      rintro e w4 ⟨x4, rfl, ht0, ht1, hd4, hg4⟩
      have G := ((hg1.trans hg2).trans hg3).trans hg4
      clear hg1 hg2 hg3 hg4 hd1 hd2 hd3
      go_wp2
      go_ret
      exact ⟨_, rfl, Int.emod_nonneg _ (by omega), fun _ => Int.emod_lt_of_pos _ hp, by omega, hd4, G⟩
set_option maxHeartbeats 400000 in
theorem l1Once_dc (g : Nat) (a : Option Addr) (cap : Nat) (cs : List Int) (n : Int) (w : World) (h : Drw w g a cap cs) (hn : n ≤ 9223372036854775807) :
    Calls Tryz.prog 29 #[.pointer (some ⟨g, 0, none⟩), .int .i64 n] w fun e w' => ∃ b : Bool, e = .returned (.bool b) ∧ Drw w' g a cap cs ∧ Cus g w w' := by
  have HL := hide' (l1Below_dc g a cap cs n w h hn)
  clear h
  go_enter Tryz.func29, Tryz.ntmps29
  go_wp2_with fail
  refine HL.out.mono ?_
  rintro e w1 ⟨x, rfl, _, _, _, hd, hg⟩
  go_wp2
  go_ret
  exact ⟨_, rfl, hd, hg⟩

set_option maxHeartbeats 400000 in
theorem l1PickInt_dc (g b n lc : Nat) (a : Option Addr) (cap : Nat) (cs : List Int) (w : World) (h : Drw w g a cap cs) (hn : 0 < n) (hn2 : n ≤ 1000) (hbg : b ≠ g) (hb : b < w.heap.size) (hc : ∀ k, k < n → ∃ z : Int, w.cell? ⟨b, k, none⟩ = some (.int .i64 z)) :
    Calls Tryz.prog 52 #[.pointer (some ⟨g, 0, none⟩), .slice (some ⟨b, 0, none⟩) n lc] w fun e w' => ∃ z : Int, e = .returned (.int .i64 z) ∧ Drw w' g a cap cs ∧ Cus g w w' := by
  have HL := hide' (l1Below_dc g a cap cs (n : Int) w h (by omega))
  clear h
  go_enter Tryz.func52, Tryz.ntmps52
  go_wp2_with fail
  refine HL.out.mono ?_
  rintro e w1 ⟨x, rfl, h0, h1, _, hd, hg⟩
  obtain ⟨k, rfl⟩ : ∃ k : Nat, x = k := ⟨x.toNat, by omega⟩
  have hk : k < n := by have := h1 (by omega); omega
  obtain ⟨z, hz⟩ := hc k hk
  have hz1 : w1.cell? ⟨b, k, none⟩ = some (.int .i64 z) := (World.cell?_of_block (hg.1.block b hb (by simp; omega))).trans hz
  have hk' : (k : Int) < (n : Int) := by omega
  clear h1 HL hc
  go_wp2
  go_ret
  exact ⟨_, rfl, hd, hg⟩

/-- Such a heap, and a cursor on it over a code that lies below it. -/
def Hs (B M : Nat) (rk : Nat → Nat) (w : World) (g : Nat) (a : Option Addr) (cap : Nat) (cs : List Int) : Prop := Hw B M rk w ∧ Drw w g a cap cs ∧ B ≤ g ∧ ∀ x, a = some x → cs ≠ [] → x.block < B

theorem Cur.type {w : World} {g : Nat} {a : Option Addr} {n cap : Nat} (h : Cur w g a n cap) {cur : Array Value} {T : TypeId} {fr : Nat × Nat} (hg : w.heap[g]? = some (.cells cur T fr)) : ¬ Row3 T := by
  obtain ⟨i, k, hh, _⟩ := h
  rw [hh] at hg
  simp only [Option.some.injEq, Obj.cells.injEq] at hg
  obtain ⟨_, rfl, _⟩ := hg
  intro h
  rcases h with h | h | h <;> exact absurd h (by decide)

theorem Cus.shp {w w' : World} {g : Nat} {a : Option Addr} {cap : Nat} {cs : List Int} (h : Drw w g a cap cs) (hc : Cus g w w') : Shp w w' := fun b cur T fr hT hb => by
  have hl := (Array.getElem?_eq_some_iff.1 hb).1
  have hne : b ≠ g := by rintro rfl; exact h.2.2.1.type hb hT
  exact ⟨cur, (hc.1.block b hl (by simpa using hne)).trans hb, rfl⟩

theorem Hs.cus {B M : Nat} {rk : Nat → Nat} {w w' : World} {g : Nat} {a : Option Addr} {cap : Nat} {cs : List Int} (h : Hs B M rk w g a cap cs) (hd : Drw w' g a cap cs) (hc : Cus g w w') : Hs B M rk w' g a cap cs := by
  refine ⟨h.1.step (hc.shp h.2.1) (Rks.refl _ _) fun b hb hbz => ?_, hd, h.2.2⟩
  by_cases he : b = g
  · subst he
    refine .inr fun cur T fr hh => ?_
    have := hd.2.2.1.type hh
    exact ⟨fun h => absurd (.inl h) this, fun h => absurd (.inr (.inl h)) this, fun h => absurd (.inr (.inr h)) this⟩
  · exact .inl ⟨by have := hc.2; omega, hc.1.block b (by have := hc.2; omega) (by simpa using he)⟩

/-- The cursor stands behind what leaves its block and the code as they were. -/
theorem Drw.keep {w w' : World} {g : Nat} {a : Option Addr} {cap : Nat} {cs : List Int} (h : Drw w g a cap cs) (h1 : w'.heap[g]? = w.heap[g]?) (h2 : ∀ x, a = some x → cs ≠ [] → w'.heap[x.block]? = w.heap[x.block]?) : Drw w' g a cap cs := by
  refine ⟨⟨h.1.1, ?_⟩, h.2.1, ?_, h.2.2.2⟩
  · rcases h.1.2 with h0 | ⟨b, off, rfl, hc⟩
    · exact .inl h0
    · by_cases he : cs = []
      · exact .inl he
      · exact .inr ⟨b, off, rfl, fun i hi => (World.cell?_of_block (a := ⟨b, off + i, none⟩) (h2 ⟨b, off, none⟩ rfl he)).trans (hc i hi)⟩
  · obtain ⟨i, k, hh, hi⟩ := h.2.2.1
    exact ⟨i, k, h1.trans hh, hi⟩

section
variable {B M : Nat} {rk : Nat → Nat} {w : World} {g : Nat} {a : Option Addr} {cap : Nat} {cs : List Int}

theorem Hs.lt (h : Hs B M rk w g a cap cs) : g < w.heap.size := h.2.1.lt
theorem Hs.base (h : Hs B M rk w g a cap cs) : B ≤ w.heap.size := by have := h.2.1.lt; have := h.2.2.1; omega

/-- What leaves all blocks below the heap's end but rows of the three types. -/
theorem Hs.on {rk' : Nat → Nat} {w' : World} (h : Hs B M rk w g a cap cs) (hw : Hw B M rk' w') (h1 : w'.heap[g]? = w.heap[g]?) (h2 : ∀ b, b < B → w'.heap[b]? = w.heap[b]?) : Hs B M rk' w' g a cap cs :=
  ⟨hw, h.2.1.keep h1 fun x hx he => h2 _ (h.2.2.2 x hx he), h.2.2⟩

theorem l1Below_hs (h : Hs B M rk w g a cap cs) (n : Int) (hn : n ≤ 9223372036854775807) :
    Calls Tryz.prog 51 #[.pointer (some ⟨g, 0, none⟩), .int .i64 n] w fun e w' => ∃ x : Int, e = .returned (.int .i64 x) ∧ 0 ≤ x ∧ (0 < n → x < n) ∧ (n ≤ 0 → x = 0) ∧ Hs B M rk w' g a cap cs ∧ Cus g w w' ∧ Shp w w' := by
  refine (l1Below_dc g a cap cs n w h.2.1 hn).mono ?_
  rintro e w' ⟨x, rfl, h0, h1, h2, hd, hc⟩
  exact ⟨x, rfl, h0, h1, h2, h.cus hd hc, hc, hc.shp h.2.1⟩
theorem l1Once_hs (h : Hs B M rk w g a cap cs) (n : Int) (hn : n ≤ 9223372036854775807) :
    Calls Tryz.prog 29 #[.pointer (some ⟨g, 0, none⟩), .int .i64 n] w fun e w' => ∃ b : Bool, e = .returned (.bool b) ∧ Hs B M rk w' g a cap cs ∧ Cus g w w' ∧ Shp w w' := by
  refine (l1Once_dc g a cap cs n w h.2.1 hn).mono ?_
  rintro e w' ⟨b, rfl, hd, hc⟩
  exact ⟨b, rfl, h.cus hd hc, hc, hc.shp h.2.1⟩
theorem l1PickInt_hs (h : Hs B M rk w g a cap cs) (b n lc : Nat) (hn : 0 < n) (hn2 : n ≤ 1000) (hbg : b ≠ g) (hb : b < w.heap.size) (hc : ∀ k, k < n → ∃ z : Int, w.cell? ⟨b, k, none⟩ = some (.int .i64 z)) :
    Calls Tryz.prog 52 #[.pointer (some ⟨g, 0, none⟩), .slice (some ⟨b, 0, none⟩) n lc] w fun e w' => ∃ z : Int, e = .returned (.int .i64 z) ∧ Hs B M rk w' g a cap cs ∧ Cus g w w' ∧ Shp w w' := by
  refine (l1PickInt_dc g b n lc a cap cs w h.2.1 hn hn2 hbg hb hc).mono ?_
  rintro e w' ⟨z, rfl, hd, hc⟩
  exact ⟨z, rfl, h.cus hd hc, hc, hc.shp h.2.1⟩
end
end Go.Proofs.YthnkedbmfhokiaaGreatDoor
/-
  A value that is being built, row by row, on such a heap. No statement is proved here.
-/
namespace Go.Proofs.YthnkedbmfhokiaaGreatDoor
open Go.RowKit
set_option linter.unusedVariables false
set_option linter.unusedSimpArgs false

/-- Blocks below n but O are as they were; rows keep their shapes. -/
def Off (n O : Nat) (w w' : World) : Prop := (w'.os = w.os ∧ w'.tape = w.tape ∧ w'.output = w.output ∧ w.heap.size ≤ w'.heap.size) ∧ (∀ b, b < n → b ≠ O → w'.heap[b]? = w.heap[b]?) ∧ Shp w w'

theorem Off.grown {w1 w w' : World} {O : Nat} (h : Off w1.heap.size O w w') (hg : w1.grownBy w (some O)) : w1.grownBy w' (some O) :=
  ⟨h.1.1.trans hg.os, h.1.2.1.trans hg.tape, h.1.2.2.1.trans hg.output, Nat.le_trans hg.size h.1.2.2.2, fun b hb hne => (h.2.1 b hb (fun e => hne (by rw [e]))).trans (hg.block b hb hne)⟩

/-- A new block was made, whatever was drawn. -/
def Alw (w : World) (o : Obj) (w' : World) : Prop := w'.heap = (w.alloc o).heap ∧ w'.os = w.os ∧ w'.tape = w.tape ∧ w'.output = w.output

theorem Hw.heap {B M : Nat} {rk : Nat → Nat} {w w' : World} (h : Hw B M rk w) (e : w'.heap = w.heap) : Hw B M rk w' := by
  refine h.step (fun g cur T fr _ hg => ⟨cur, by rw [e]; exact hg, rfl⟩) (Rks.refl _ _) fun g hg hl => .inl ⟨by rw [e] at hl; exact hl, by rw [e]⟩
theorem Shp.heap {w w' : World} (e : w'.heap = w.heap) : Shp w w' := fun g cur T fr _ hg => ⟨cur, by rw [e]; exact hg, rfl⟩

/-- The block O of five cells has texts in the row K, values in the row L, both made since w1. -/
def SIy (B M : Nat) (rk1 : Nat → Nat) (r : Nat) (w1 : World) (O : Nat) (kd : Int) (m mL : Nat) (rk' : Nat → Nat) (wr : World) (pK : Option Addr) (cK : Nat) (pL : Option Addr) (cL : Nat) : Prop :=
  Hw B M rk' wr ∧ Rks rk1 rk' w1.heap.size ∧ Sli w1.heap.size M 22 1 (fun _ => True) wr (.slice pK m cK) ∧ Sli w1.heap.size M 26 5 (fun g => r ≤ rk' g ∧ rk' g < r + 1) wr (.slice pL mL cL) ∧
    wr.heap[O]? = some (.cells #[.int .i64 kd, .int .i64 0, .slice none 0 0, .slice pK m cK, .slice pL mL cL] 26 (0, 0)) ∧ w1.heap.size ≤ wr.heap.size

theorem Sli.base {B B' M s : Nat} {T : TypeId} {p q : Nat → Prop} {w : World} {v : Value} (h : Sli B M T s p w v) (hB : B' ≤ B) (hp : ∀ g, p g → q g) : Sli B' M T s q w v := by
  obtain ⟨a, n, cap, e, h1, h2, h3, h4 | ⟨g, cur, fr, ha, hg, hpg, r⟩⟩ := h
  · exact ⟨a, n, cap, e, h1, h2, h3, .inl h4⟩
  · exact ⟨a, n, cap, e, h1, h2, h3, .inr ⟨g, cur, fr, ha, by omega, hp g hpg, r⟩⟩

theorem news_one {w wa : World} {c0 : Value} (h : wa.heap = (w.alloc (.cells #[c0] 22)).heap) : ∀ (j : Nat) (u : Value), [c0][j]? = some u → wa.cell? ((⟨w.heap.size, 0, none⟩ : Addr).add j) = some u := by
  intro j u hu
  rw [Addr.add_lit, Nat.zero_add, cell_of_row wa w.heap.size j #[c0] 22 (0, 0) (by rw [h]; exact heap_alloc_new w _)]
  simpa using hu
theorem news_five {w wa : World} {c0 c1 c2 c3 c4 : Value} (h : wa.heap = (w.alloc (.cells #[c0, c1, c2, c3, c4] 26)).heap) : ∀ (j : Nat) (u : Value), [c0, c1, c2, c3, c4][j]? = some u → wa.cell? ((⟨w.heap.size, 0, none⟩ : Addr).add j) = some u := by
  intro j u hu
  rw [Addr.add_lit, Nat.zero_add, cell_of_row wa w.heap.size j #[c0, c1, c2, c3, c4] 26 (0, 0) (by rw [h]; exact heap_alloc_new w _)]
  simpa using hu

section
variable {B M : Nat} {rk1 rk' : Nat → Nat} {r : Nat} {w1 : World} {O : Nat} {kd : Int} {m mL : Nat} {wr wa : World} {pK : Option Addr} {cK : Nat} {pL : Option Addr} {cL : Nat}

/-- A text is appended. -/
theorem siy_k {u : Value} (h : SIy B M rk1 r w1 O kd m mL rk' wr pK cK pL cL) (hB : B ≤ O) (hO : O < w1.heap.size) (hrO : r < rk1 O) (hm : m < M) (hM : M ≤ 1000000) (hu : Sli B M 5 1 (fun _ => True) wr u) (hwa : Alw wr (.cells #[u] 22) wa) (ty : TypeId) :
    ∃ (g' cap' : Nat) (wb : World), (Builtin.append_ #[23, 23] ty #[.slice pK m cK, .slice (some ⟨wr.heap.size, 0, none⟩) 1 1]).run Tryz.prog wa = .ok (.slice (some ⟨g', 0, none⟩) (m + 1) cap') wb ∧
      wb.heap[O]? = some (.cells #[.int .i64 kd, .int .i64 0, .slice none 0 0, .slice pK m cK, .slice pL mL cL] 26 (0, 0)) ∧
      SIy B M rk1 r w1 O kd (m + 1) mL rk' (wb.setCell ⟨O, 3, none⟩ (.slice (some ⟨g', 0, none⟩) (m + 1) cap')) (some ⟨g', 0, none⟩) cap' pL cL ∧ Off w1.heap.size O wr (wb.setCell ⟨O, 3, none⟩ (.slice (some ⟨g', 0, none⟩) (m + 1) cap')) := by
  obtain ⟨h1, h2, h3, h4, h5, h6⟩ := h
  obtain ⟨e0, e1, e2, e3⟩ := hwa
  have hza : wa.heap.size = wr.heap.size + 1 := by rw [e0]; simp
  have hSa : Shp wr wa := (Shp.alloc wr _).trans (Shp.heap e0)
  have hHa : Hw B M rk' wa := (h1.alloc_k u hu).heap e0
  obtain ⟨g', cap', wb, hrun, hHb, hsl, hSb, hgb⟩ := run_append_hk wa ty w1.heap.size B M rk' pK m cK (h3.shp row3_k hSa fun _ _ h => h) hHa (by omega) (by omega) (by omega) u (hu.shp row3_b hSa fun _ _ h => h) ⟨wr.heap.size, 0, none⟩ 1 (news_one e0)
  have hKl := h3.lt
  have hpb : ∀ b, b < w1.heap.size → wb.heap[b]? = wr.heap[b]? := fun b hb => by
    refine (hgb.block b (by omega) fun e => ?_).trans ?_
    · cases pK with
      | none => simp [Value.ownBlock] at e
      | some x => simp [Value.ownBlock] at e; have := hKl x rfl; omega
    · rw [e0]; exact Below.heap_alloc _ _ _ (by omega)
  have hOb := (hpb O hO).trans h5
  have hzb := hgb.size
  have hSc := Shp.setCell wb O 3 (.slice (some ⟨g', 0, none⟩) (m + 1) cap')
  have hnew := hsl M (by omega)
  have hrk : rk' O = rk1 O := h2 O hO
  have hset : Hw B M rk' (wb.setCell ⟨O, 3, none⟩ (.slice (some ⟨g', 0, none⟩) (m + 1) cap')) :=
    hHb.set_v hB hOb 0 3 (by omega) _ fun c0 c1 c2 c3 c4 hG => ⟨hG.1, hG.2.1, hG.2.2.1, hnew.base (by omega) (fun _ h => h), hG.2.2.2.2⟩
  refine ⟨g', cap', wb, hrun, hOb, ⟨hset, h2, hnew.shp row3_k hSc fun _ _ h => h, h4.shp row3_v ((hSa.trans hSb).trans hSc) fun _ _ h => h, heap_setCell_same wb O 3 _ _ _ hOb, by simp [World.setCell]; omega⟩, ⟨?_, fun b hb hne => (Below.heap_setCell wb ⟨O, 3, none⟩ _ b hne).trans (hpb b hb), (hSa.trans hSb).trans hSc⟩⟩
  exact ⟨hgb.os.trans e1, hgb.tape.trans e2, hgb.output.trans e3, by simp [World.setCell]; omega⟩

/-- A value is appended. -/
theorem siy_v {c0 c1 c2 c3 c4 : Value} (h : SIy B M rk1 r w1 O kd m mL rk' wr pK cK pL cL) (hB : B ≤ O) (hO : O < w1.heap.size) (hrO : r < rk1 O) (hm : mL < M) (hM : M ≤ 1000000) (hu : Grp B M rk' r wr (c0, c1, c2, c3, c4)) (hwa : Alw wr (.cells #[c0, c1, c2, c3, c4] 26) wa) (ty : TypeId) :
    ∃ (g' cap' : Nat) (wb : World) (rk2 : Nat → Nat), (Builtin.append_ #[24, 24] ty #[.slice pL mL cL, .slice (some ⟨wr.heap.size, 0, none⟩) 1 1]).run Tryz.prog wa = .ok (.slice (some ⟨g', 0, none⟩) (mL + 1) cap') wb ∧
      wb.heap[O]? = some (.cells #[.int .i64 kd, .int .i64 0, .slice none 0 0, .slice pK m cK, .slice pL mL cL] 26 (0, 0)) ∧
      SIy B M rk1 r w1 O kd m (mL + 1) rk2 (wb.setCell ⟨O, 4, none⟩ (.slice (some ⟨g', 0, none⟩) (mL + 1) cap')) pK cK (some ⟨g', 0, none⟩) cap' ∧ Rks rk' rk2 wr.heap.size ∧ Off w1.heap.size O wr (wb.setCell ⟨O, 4, none⟩ (.slice (some ⟨g', 0, none⟩) (mL + 1) cap')) := by
  obtain ⟨h1, h2, h3, h4, h5, h6⟩ := h
  obtain ⟨e0, e1, e2, e3⟩ := hwa
  have hza : wa.heap.size = wr.heap.size + 1 := by rw [e0]; simp
  have hSa : Shp wr wa := (Shp.alloc wr _).trans (Shp.heap e0)
  have hRa : Rks rk' (rkUp rk' wr.heap.size r) wr.heap.size := rkUp_old _ _ _
  have hHa : Hw B M (rkUp rk' wr.heap.size r) wa := (h1.alloc_v r c0 c1 c2 c3 c4 hu).heap e0
  obtain ⟨g', cap', wb, rk2, hrun, hHb, hR2, hsl, hSb, hgb⟩ := run_append_hv wa ty w1.heap.size B M (rkUp rk' wr.heap.size r) r (r + 1) pL mL cL (h4.shp row3_v hSa fun g hg h => by rw [hRa g hg]; exact h) hHa (by omega) (by omega) (by omega) c0 c1 c2 c3 c4 (hu.shp hSa hRa (Nat.le_refl _)) (by omega) ⟨wr.heap.size, 0, none⟩ 1 (news_five e0)
  have hR : Rks rk' rk2 wr.heap.size := hRa.trans hR2 (by omega)
  have hLl := h4.lt
  have hpb : ∀ b, b < w1.heap.size → wb.heap[b]? = wr.heap[b]? := fun b hb => by
    refine (hgb.block b (by omega) fun e => ?_).trans ?_
    · cases pL with
      | none => simp [Value.ownBlock] at e
      | some x => simp [Value.ownBlock] at e; have := hLl x rfl; omega
    · rw [e0]; exact Below.heap_alloc _ _ _ (by omega)
  have hOb := (hpb O hO).trans h5
  have hzb := hgb.size
  have hSc := Shp.setCell wb O 4 (.slice (some ⟨g', 0, none⟩) (mL + 1) cap')
  have hnew := hsl M (by omega)
  have hrk : rk2 O = rk1 O := (hR O (by omega)).trans (h2 O hO)
  have hset : Hw B M rk2 (wb.setCell ⟨O, 4, none⟩ (.slice (some ⟨g', 0, none⟩) (mL + 1) cap')) :=
    hHb.set_v hB hOb 0 4 (by omega) _ fun c0 c1 c2 c3 c4 hG => ⟨hG.1, hG.2.1, hG.2.2.1, hG.2.2.2.1, hnew.base (by omega) (fun g h => by omega)⟩
  refine ⟨g', cap', wb, rk2, hrun, hOb, ⟨hset, fun g hg => (hR g (by omega)).trans (h2 g hg), h3.shp row3_k ((hSa.trans hSb).trans hSc) fun _ _ h => h, hnew.shp row3_v hSc fun _ _ h => h, heap_setCell_same wb O 4 _ _ _ hOb, by simp [World.setCell]; omega⟩, hR, ⟨?_, fun b hb hne => (Below.heap_setCell wb ⟨O, 4, none⟩ _ b hne).trans (hpb b hb), (hSa.trans hSb).trans hSc⟩⟩
  exact ⟨hgb.os.trans e1, hgb.tape.trans e2, hgb.output.trans e3, by simp [World.setCell]; omega⟩

/-- The four forms for the walk. -/
theorem wpList_set_k {u : Value} {ops : Array Oper} {rest : List Oper} {o : Oper} {a : Act} {Q : Exit → Act → World → Prop} (hgd : o.guard = none) (s x : Operand) (ho : o.op = .call { callee := .builtin .append, args := #[s, x], argTypes := #[23, 23] })
    (h : SIy B M rk1 r w1 O kd m mL rk' wr pK cK pL cL) (hs : a.eval s = .slice pK m cK) (hx : a.eval x = .slice (some ⟨wr.heap.size, 0, none⟩) 1 1) (hB : B ≤ O) (hO : O < w1.heap.size) (hrO : r < rk1 O) (hm : m < M) (hM : M ≤ 1000000) (hu : Sli B M 5 1 (fun _ => True) wr u) (hwa : Alw wr (.cells #[u] 22) wa)
    (hk : ∀ (g' cap' : Nat) (wb : World), wb.heap[O]? = some (.cells #[.int .i64 kd, .int .i64 0, .slice none 0 0, .slice pK m cK, .slice pL mL cL] 26 (0, 0)) → SIy B M rk1 r w1 O kd (m + 1) mL rk' (wb.setCell ⟨O, 3, none⟩ (.slice (some ⟨g', 0, none⟩) (m + 1) cap')) (some ⟨g', 0, none⟩) cap' pL cL → Off w1.heap.size O wr (wb.setCell ⟨O, 3, none⟩ (.slice (some ⟨g', 0, none⟩) (m + 1) cap')) →
      wpList Tryz.prog ops Q rest (a.put o.dst (.slice (some ⟨g', 0, none⟩) (m + 1) cap')) wb) : wpList Tryz.prog ops Q (o :: rest) a wa := by
  refine wpList_plain hgd fun K hK => ?_
  obtain ⟨g', cap', wb, hrun, r1, r2, r3⟩ := siy_k h hB hO hrO hm hM hu hwa o.type
  unfold Oper.wp execOp
  simp only [ho, resolve, invoke, builtin, Sem.run_bind, Sem.run_pure, Result.andThen_ok, List.map_toArray, List.map_cons, List.map_nil, hs, hx, hrun]
  exact hK _ _ (hk g' cap' wb r1 r2 r3)
theorem step_set_k {u : Value} {ops : Array Oper} {o : Oper} {a : Act} {K : Act → World → Prop} {Q : Exit → Act → World → Prop} {E : Prop} (hgd : o.guard = none) (s x : Operand) (ho : o.op = .call { callee := .builtin .append, args := #[s, x], argTypes := #[23, 23] })
    (h : SIy B M rk1 r w1 O kd m mL rk' wr pK cK pL cL) (hs : a.eval s = .slice pK m cK) (hx : a.eval x = .slice (some ⟨wr.heap.size, 0, none⟩) 1 1) (hB : B ≤ O) (hO : O < w1.heap.size) (hrO : r < rk1 O) (hm : m < M) (hM : M ≤ 1000000) (hu : Sli B M 5 1 (fun _ => True) wr u) (hwa : Alw wr (.cells #[u] 22) wa)
    (hk : ∀ (g' cap' : Nat) (wb : World), wb.heap[O]? = some (.cells #[.int .i64 kd, .int .i64 0, .slice none 0 0, .slice pK m cK, .slice pL mL cL] 26 (0, 0)) → SIy B M rk1 r w1 O kd (m + 1) mL rk' (wb.setCell ⟨O, 3, none⟩ (.slice (some ⟨g', 0, none⟩) (m + 1) cap')) (some ⟨g', 0, none⟩) cap' pL cL → Off w1.heap.size O wr (wb.setCell ⟨O, 3, none⟩ (.slice (some ⟨g', 0, none⟩) (m + 1) cap')) →
      K (a.put o.dst (.slice (some ⟨g', 0, none⟩) (m + 1) cap')) wb) : if Region.wanted o (yielded ops a.tmps) = true then Oper.wp Tryz.prog o a wa K Q else E := by
  have hw : Region.wanted o (yielded ops a.tmps) = true := by simp [Region.wanted, hgd]
  rw [if_pos hw]
  obtain ⟨g', cap', wb, hrun, r1, r2, r3⟩ := siy_k h hB hO hrO hm hM hu hwa o.type
  unfold Oper.wp
  simp [execOp, ho, resolve, invoke, builtin, hs, hx, hrun, Result.andThen]
  exact hk g' cap' wb r1 r2 r3
theorem wpList_set_v {c0 c1 c2 c3 c4 : Value} {ops : Array Oper} {rest : List Oper} {o : Oper} {a : Act} {Q : Exit → Act → World → Prop} (hgd : o.guard = none) (s x : Operand) (ho : o.op = .call { callee := .builtin .append, args := #[s, x], argTypes := #[24, 24] })
    (h : SIy B M rk1 r w1 O kd m mL rk' wr pK cK pL cL) (hs : a.eval s = .slice pL mL cL) (hx : a.eval x = .slice (some ⟨wr.heap.size, 0, none⟩) 1 1) (hB : B ≤ O) (hO : O < w1.heap.size) (hrO : r < rk1 O) (hm : mL < M) (hM : M ≤ 1000000) (hu : Grp B M rk' r wr (c0, c1, c2, c3, c4)) (hwa : Alw wr (.cells #[c0, c1, c2, c3, c4] 26) wa)
    (hk : ∀ (g' cap' : Nat) (wb : World) (rk2 : Nat → Nat), wb.heap[O]? = some (.cells #[.int .i64 kd, .int .i64 0, .slice none 0 0, .slice pK m cK, .slice pL mL cL] 26 (0, 0)) → SIy B M rk1 r w1 O kd m (mL + 1) rk2 (wb.setCell ⟨O, 4, none⟩ (.slice (some ⟨g', 0, none⟩) (mL + 1) cap')) pK cK (some ⟨g', 0, none⟩) cap' → Rks rk' rk2 wr.heap.size → Off w1.heap.size O wr (wb.setCell ⟨O, 4, none⟩ (.slice (some ⟨g', 0, none⟩) (mL + 1) cap')) →
      wpList Tryz.prog ops Q rest (a.put o.dst (.slice (some ⟨g', 0, none⟩) (mL + 1) cap')) wb) : wpList Tryz.prog ops Q (o :: rest) a wa := by
  refine wpList_plain hgd fun K hK => ?_
  obtain ⟨g', cap', wb, rk2, hrun, r1, r2, r3, r4⟩ := siy_v h hB hO hrO hm hM hu hwa o.type
  unfold Oper.wp execOp
  simp only [ho, resolve, invoke, builtin, Sem.run_bind, Sem.run_pure, Result.andThen_ok, List.map_toArray, List.map_cons, List.map_nil, hs, hx, hrun]
  exact hK _ _ (hk g' cap' wb rk2 r1 r2 r3 r4)
theorem step_set_v {c0 c1 c2 c3 c4 : Value} {ops : Array Oper} {o : Oper} {a : Act} {K : Act → World → Prop} {Q : Exit → Act → World → Prop} {E : Prop} (hgd : o.guard = none) (s x : Operand) (ho : o.op = .call { callee := .builtin .append, args := #[s, x], argTypes := #[24, 24] })
    (h : SIy B M rk1 r w1 O kd m mL rk' wr pK cK pL cL) (hs : a.eval s = .slice pL mL cL) (hx : a.eval x = .slice (some ⟨wr.heap.size, 0, none⟩) 1 1) (hB : B ≤ O) (hO : O < w1.heap.size) (hrO : r < rk1 O) (hm : mL < M) (hM : M ≤ 1000000) (hu : Grp B M rk' r wr (c0, c1, c2, c3, c4)) (hwa : Alw wr (.cells #[c0, c1, c2, c3, c4] 26) wa)
    (hk : ∀ (g' cap' : Nat) (wb : World) (rk2 : Nat → Nat), wb.heap[O]? = some (.cells #[.int .i64 kd, .int .i64 0, .slice none 0 0, .slice pK m cK, .slice pL mL cL] 26 (0, 0)) → SIy B M rk1 r w1 O kd m (mL + 1) rk2 (wb.setCell ⟨O, 4, none⟩ (.slice (some ⟨g', 0, none⟩) (mL + 1) cap')) pK cK (some ⟨g', 0, none⟩) cap' → Rks rk' rk2 wr.heap.size → Off w1.heap.size O wr (wb.setCell ⟨O, 4, none⟩ (.slice (some ⟨g', 0, none⟩) (mL + 1) cap')) →
      K (a.put o.dst (.slice (some ⟨g', 0, none⟩) (mL + 1) cap')) wb) : if Region.wanted o (yielded ops a.tmps) = true then Oper.wp Tryz.prog o a wa K Q else E := by
  have hw : Region.wanted o (yielded ops a.tmps) = true := by simp [Region.wanted, hgd]
  rw [if_pos hw]
  obtain ⟨g', cap', wb, rk2, hrun, r1, r2, r3, r4⟩ := siy_v h hB hO hrO hm hM hu hwa o.type
  unfold Oper.wp
  simp [execOp, ho, resolve, invoke, builtin, hs, hx, hrun, Result.andThen]
  exact hk g' cap' wb rk2 r1 r2 r3 r4
end
end Go.Proofs.YthnkedbmfhokiaaGreatDoor
