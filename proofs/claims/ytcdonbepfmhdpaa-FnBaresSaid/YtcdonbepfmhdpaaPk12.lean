/-
  Texts that a law leans on, one behind the other; no statement is proved here.
-/
import Derived.Test.YtcdonbepfmhdpaaPk11
import Derived.Test.YtcdonbepfmhdpaaPk10
import Derived.Test.YtcdonbepfmhdpaaPk6
/-
  A heap of numbers in memory: the library's down, from the first one on.
-/
namespace Go.Proofs.Ytcdonbepfmhdpaa
open Go.RowKit Go.Shelf
set_option linter.unusedVariables false
set_option linter.unusedSimpArgs false

theorem drewN_add (w : World) (a b : Nat) : (w.drewN a).drewN b = w.drewN (a + b) := by
  first
  | (simp [World.drewN, Nat.add_assoc]; done)
  | (induction b with
     | zero => rfl
     | succ b ih => show ((w.drewN a).drewN b).drew = (w.drewN (a + b)).drew; rw [ih])

set_option maxHeartbeats 6400000 in
set_option maxRecDepth 100000 in
theorem down_any (R : Nat → Prop) (Bp g c n : Nat) (H : List Int) (w : World) (h : HSt R Bp (.slice (some ⟨g, 0, none⟩) (n + 1) c) H w) (hl : H.length = n + 1) (hl2 : n ≤ 100) (hD : DnI H n 0) :
    Calls Try.prog 52 #[.iface 67 (.pointer (some ⟨Bp, 0, none⟩)), .int .i64 0, .int .i64 (n : Int)] w fun e w' => (∃ b, e = .returned (.bool b)) ∧ ∃ H', HSt R Bp (.slice (some ⟨g, 0, none⟩) (n + 1) c) H' w' ∧ H'.Perm H ∧ HeapN H' n ∧ hp H' n = hp H n ∧ Fr R w w' := by
  have HS0 : Hid (HSt R Bp (.slice (some ⟨g, 0, none⟩) (n + 1) c) H w ∧ H.Perm H ∧ DnI H n 0 ∧ hp H n = hp H n ∧ Fr R w w) := ⟨h, List.Perm.refl _, hD, rfl, Fr.refl _ _⟩
  clear h hD
  go_enter Try.func52, Try.ntmps52
  go_wp2_with fail
  go_loopw [7] (fun iv wr => ∃ (i : Nat) (H' : List Int), iv = .int .i64 (i : Int) ∧ i ≤ n ∧ Hid (HSt R Bp (.slice (some ⟨g, 0, none⟩) (n + 1) c) H' wr ∧ H'.Perm H ∧ DnI H' n i ∧ hp H' n = hp H n ∧ Fr R w wr)) (fun iv _ => n - (intOf iv).toNat)
  case atStart => exact ⟨0, H, rfl, Nat.zero_le _, HS0.out.1, HS0.out.2.1, HS0.out.2.2.1, rfl, HS0.out.2.2.2.2⟩
  case round =>
    clear HS0
    obtain ⟨i, H', rfl, hi, hS⟩ := hrel
    have hL' : H'.length = n + 1 := by rw [hS.out.2.1.length_eq, hl]
    have hch : ∀ k, 0 < k → (k - 1) / 2 = i → k = 2 * i + 1 ∨ k = 2 * i + 2 := fun k k0 kp => by omega
    have i0 : (0 : Int) ≤ (i : Int) := by omega
    have w1 : IntKind.i64.wrap (2 * (i : Int)) = 2 * (i : Int) := by rw [IntKind.wrap_i64]; omega
    have w2 : IntKind.i64.wrap (2 * (i : Int) + 1) = 2 * (i : Int) + 1 := by rw [IntKind.wrap_i64]; omega
    have w3 : IntKind.i64.wrap (2 * (i : Int) + 1 + 1) = 2 * (i : Int) + 1 + 1 := by rw [IntKind.wrap_i64]; omega
    have e1 : ((2 * i + 1 : Nat) : Int) = 2 * (i : Int) + 1 := by omega
    have e2 : ((2 * i + 2 : Nat) : Int) = 2 * (i : Int) + 1 + 1 := by omega
    by_cases h1 : 2 * i + 1 < n
    rotate_left
    · have HE : Hid (∃ H', HSt R Bp (.slice (some ⟨g, 0, none⟩) (n + 1) c) H' wr ∧ H'.Perm H ∧ HeapN H' n ∧ hp H' n = hp H n ∧ Fr R w wr) := ⟨H', hS.out.1, hS.out.2.1, dn_end hS.out.2.2.1 (fun k k0 kn kp => by have := hch k k0 kp; omega), hS.out.2.2.2.1, hS.out.2.2.2.2⟩
      have h1' : (n : Int) ≤ 2 * (i : Int) + 1 := by omega
      clear hS
      go_wp2
      go_ret
      exact ⟨⟨_, rfl⟩, HE.out⟩
    have h1' : ¬ (n : Int) ≤ 2 * (i : Int) + 1 := by omega
    have h1'' : ¬ 2 * (i : Int) + 1 < 0 := by omega
    have hS1 : HSt R Bp (.slice (some ⟨g, 0, none⟩) H'.length c) H' wr := by rw [hL']; exact hS.out.1
    by_cases h2 : 2 * i + 2 < n
    · have h2' : 2 * (i : Int) + 1 + 1 < (n : Int) := by omega
      have mL1 := methLess Bp _ wr hS.out.1.cell.1
      have cL1 := fun args => callsLess args wr
      have HL1 : Hid (Calls Try.prog 86 #[.slice (some ⟨g, 0, none⟩) (n + 1) c, .int .i64 (2 * (i : Int) + 1 + 1), .int .i64 (2 * (i : Int) + 1)] wr fun e w' => e = .returned (.bool (decide (hp H' (2 * i + 2) < hp H' (2 * i + 1)))) ∧ ∃ m, w' = wr.drewN m) := by
        have := less_any g c (2 * i + 2) (2 * i + 1) H' wr hS1.2.1 (by omega) (by omega)
        rw [e1, e2, hL'] at this
        exact this
      by_cases h12 : hp H' (2 * i + 2) < hp H' (2 * i + 1)
      · rw [decide_eq_true h12] at HL1
        have hmin : ∀ k, 0 < k → k < n → (k - 1) / 2 = i → hp H' (2 * i + 2) ≤ hp H' k := fun k k0 kn kp => by
              have h12 := h12
              rcases hch k k0 kp with rfl | rfl
              · omega
              · exact Int.le_refl _
        have hjn : (2 * i + 2) < n := by omega
        have hjl : (2 * i + 2) < H'.length := by omega
        have hil : i < H'.length := by omega
        have HL2 : Hid (∀ q, Calls Try.prog 86 #[.slice (some ⟨g, 0, none⟩) (n + 1) c, .int .i64 (2 * (i : Int) + 1 + 1), .int .i64 (i : Int)] (wr.drewN q) fun e w' => e = .returned (.bool (decide (hp H' (2 * i + 2) < hp H' i))) ∧ ∃ m, w' = wr.drewN m) := fun q => by
          have := less_any g c (2 * i + 2) i H' (wr.drewN q) (hS1.drewN q).2.1 hjl hil
          rw [e2, hL'] at this
          refine this.mono ?_
          rintro e w' ⟨rfl, m, rfl⟩
          exact ⟨rfl, q + m, by rw [drewN_add]⟩
        have HMl : Hid (∀ q, (method 224 67 (.pointer (some ⟨Bp, 0, none⟩)) "Less").run Try.prog (wr.drewN q) = .ok (86, .slice (some ⟨g, 0, none⟩) (n + 1) c) (wr.drewN q)) := fun q => methLess Bp _ _ (hS.out.1.drewN q).cell.1
        by_cases hlt : hp H' (2 * i + 2) < hp H' i
        · have HSw : Hid (∀ q, Calls Try.prog 89 #[.slice (some ⟨g, 0, none⟩) (n + 1) c, .int .i64 (i : Int), .int .i64 (2 * (i : Int) + 1 + 1)] (wr.drewN q) fun e w' => e = .returned (.tuple #[]) ∧ Hid (HSt R Bp (.slice (some ⟨g, 0, none⟩) (n + 1) c) (swapL H' i (2 * i + 2)) w' ∧ (swapL H' i (2 * i + 2)).Perm H ∧ DnI (swapL H' i (2 * i + 2)) n (2 * i + 2) ∧ hp (swapL H' i (2 * i + 2)) n = hp H n ∧ Fr R w w')) := fun q => by
            have h1 := hS1.drewN q
            have h2 := swap_any g c i (2 * i + 2) H' (wr.drewN q) h1.2.1 hil hjl
            rw [e2, hL'] at h2
            refine h2.mono ?_
            rintro e w' ⟨rfl, k1, k2⟩
            rw [← hL'] at k1
            obtain ⟨k3, k4⟩ := h1.swapped k1 k2
            rw [hL'] at k3
            refine ⟨rfl, k3, (swapL_perm hil hjl).trans hS.out.2.1, dn_step hS.out.2.2.1 (by omega) hjn (by omega) (by omega) hmin hlt, ?_, (hS.out.2.2.2.2.trans (fr_drewN R wr q)).trans k4⟩
            rw [hp_swap hil hjl, if_neg (by omega), if_neg (by omega)]
            exact hS.out.2.2.2.1
          have HMs : Hid (∀ q, (method 224 67 (.pointer (some ⟨Bp, 0, none⟩)) "Swap").run Try.prog (wr.drewN q) = .ok (89, .slice (some ⟨g, 0, none⟩) (n + 1) c) (wr.drewN q)) := fun q => methSwap Bp _ _ (hS.out.1.drewN q).cell.1
          rw [decide_eq_true hlt] at HL2
          clear hS hS1 hlt hmin hch
          go_wp2_with fail
          refine HL1.out.mono ?_
          rintro e w1 ⟨rfl, q1, rfl⟩
          have mL2 := HMl.out q1
          have cL2 := fun args => callsLess args (wr.drewN q1)
          go_wp2_with fail
          refine (HL2.out q1).mono ?_
          rintro e w2 ⟨rfl, q2, rfl⟩
          have mS := HMs.out q2
          have cS := fun args => callsSwap args (wr.drewN q2)
          go_wp2_with fail
          refine (HSw.out q2).mono ?_
          rintro e w3 ⟨rfl, hF⟩
          go_wp2
          go_roundw
          case rel => exact ⟨(2 * i + 2), _, by rw [e2], by omega, hF⟩
          case measure => simp [intOf]; omega
        · have HE : Hid (∀ q, ∃ H', HSt R Bp (.slice (some ⟨g, 0, none⟩) (n + 1) c) H' (wr.drewN q) ∧ H'.Perm H ∧ HeapN H' n ∧ hp H' n = hp H n ∧ Fr R w (wr.drewN q)) := fun q => ⟨H', hS.out.1.drewN q, hS.out.2.1, dn_end hS.out.2.2.1 (fun k k0 kn kp => by have := hmin k k0 kn kp; omega), hS.out.2.2.2.1, hS.out.2.2.2.2.trans (fr_drewN R wr q)⟩
          rw [decide_eq_false hlt] at HL2
          clear hS hS1 hlt hmin hch
          go_wp2_with fail
          refine HL1.out.mono ?_
          rintro e w1 ⟨rfl, q1, rfl⟩
          have mL2 := HMl.out q1
          have cL2 := fun args => callsLess args (wr.drewN q1)
          go_wp2_with fail
          refine (HL2.out q1).mono ?_
          rintro e w2 ⟨rfl, q2, rfl⟩
          go_wp2
          go_ret
          exact ⟨⟨_, rfl⟩, HE.out q2⟩
      · rw [decide_eq_false h12] at HL1
        have hmin : ∀ k, 0 < k → k < n → (k - 1) / 2 = i → hp H' (2 * i + 1) ≤ hp H' k := fun k k0 kn kp => by
              have h12 := h12
              rcases hch k k0 kp with rfl | rfl
              · exact Int.le_refl _
              · omega
        have hjn : (2 * i + 1) < n := by omega
        have hjl : (2 * i + 1) < H'.length := by omega
        have hil : i < H'.length := by omega
        have HL2 : Hid (∀ q, Calls Try.prog 86 #[.slice (some ⟨g, 0, none⟩) (n + 1) c, .int .i64 (2 * (i : Int) + 1), .int .i64 (i : Int)] (wr.drewN q) fun e w' => e = .returned (.bool (decide (hp H' (2 * i + 1) < hp H' i))) ∧ ∃ m, w' = wr.drewN m) := fun q => by
          have := less_any g c (2 * i + 1) i H' (wr.drewN q) (hS1.drewN q).2.1 hjl hil
          rw [e1, hL'] at this
          refine this.mono ?_
          rintro e w' ⟨rfl, m, rfl⟩
          exact ⟨rfl, q + m, by rw [drewN_add]⟩
        have HMl : Hid (∀ q, (method 224 67 (.pointer (some ⟨Bp, 0, none⟩)) "Less").run Try.prog (wr.drewN q) = .ok (86, .slice (some ⟨g, 0, none⟩) (n + 1) c) (wr.drewN q)) := fun q => methLess Bp _ _ (hS.out.1.drewN q).cell.1
        by_cases hlt : hp H' (2 * i + 1) < hp H' i
        · have HSw : Hid (∀ q, Calls Try.prog 89 #[.slice (some ⟨g, 0, none⟩) (n + 1) c, .int .i64 (i : Int), .int .i64 (2 * (i : Int) + 1)] (wr.drewN q) fun e w' => e = .returned (.tuple #[]) ∧ Hid (HSt R Bp (.slice (some ⟨g, 0, none⟩) (n + 1) c) (swapL H' i (2 * i + 1)) w' ∧ (swapL H' i (2 * i + 1)).Perm H ∧ DnI (swapL H' i (2 * i + 1)) n (2 * i + 1) ∧ hp (swapL H' i (2 * i + 1)) n = hp H n ∧ Fr R w w')) := fun q => by
            have h1 := hS1.drewN q
            have h2 := swap_any g c i (2 * i + 1) H' (wr.drewN q) h1.2.1 hil hjl
            rw [e1, hL'] at h2
            refine h2.mono ?_
            rintro e w' ⟨rfl, k1, k2⟩
            rw [← hL'] at k1
            obtain ⟨k3, k4⟩ := h1.swapped k1 k2
            rw [hL'] at k3
            refine ⟨rfl, k3, (swapL_perm hil hjl).trans hS.out.2.1, dn_step hS.out.2.2.1 (by omega) hjn (by omega) (by omega) hmin hlt, ?_, (hS.out.2.2.2.2.trans (fr_drewN R wr q)).trans k4⟩
            rw [hp_swap hil hjl, if_neg (by omega), if_neg (by omega)]
            exact hS.out.2.2.2.1
          have HMs : Hid (∀ q, (method 224 67 (.pointer (some ⟨Bp, 0, none⟩)) "Swap").run Try.prog (wr.drewN q) = .ok (89, .slice (some ⟨g, 0, none⟩) (n + 1) c) (wr.drewN q)) := fun q => methSwap Bp _ _ (hS.out.1.drewN q).cell.1
          rw [decide_eq_true hlt] at HL2
          clear hS hS1 hlt hmin hch
          go_wp2_with fail
          refine HL1.out.mono ?_
          rintro e w1 ⟨rfl, q1, rfl⟩
          have mL2 := HMl.out q1
          have cL2 := fun args => callsLess args (wr.drewN q1)
          go_wp2_with fail
          refine (HL2.out q1).mono ?_
          rintro e w2 ⟨rfl, q2, rfl⟩
          have mS := HMs.out q2
          have cS := fun args => callsSwap args (wr.drewN q2)
          go_wp2_with fail
          refine (HSw.out q2).mono ?_
          rintro e w3 ⟨rfl, hF⟩
          go_wp2
          go_roundw
          case rel => exact ⟨(2 * i + 1), _, by rw [e1], by omega, hF⟩
          case measure => simp [intOf]; omega
        · have HE : Hid (∀ q, ∃ H', HSt R Bp (.slice (some ⟨g, 0, none⟩) (n + 1) c) H' (wr.drewN q) ∧ H'.Perm H ∧ HeapN H' n ∧ hp H' n = hp H n ∧ Fr R w (wr.drewN q)) := fun q => ⟨H', hS.out.1.drewN q, hS.out.2.1, dn_end hS.out.2.2.1 (fun k k0 kn kp => by have := hmin k k0 kn kp; omega), hS.out.2.2.2.1, hS.out.2.2.2.2.trans (fr_drewN R wr q)⟩
          rw [decide_eq_false hlt] at HL2
          clear hS hS1 hlt hmin hch
          go_wp2_with fail
          refine HL1.out.mono ?_
          rintro e w1 ⟨rfl, q1, rfl⟩
          have mL2 := HMl.out q1
          have cL2 := fun args => callsLess args (wr.drewN q1)
          go_wp2_with fail
          refine (HL2.out q1).mono ?_
          rintro e w2 ⟨rfl, q2, rfl⟩
          go_wp2
          go_ret
          exact ⟨⟨_, rfl⟩, HE.out q2⟩
    · have h2' : ¬ 2 * (i : Int) + 1 + 1 < (n : Int) := by omega
      have hmin : ∀ k, 0 < k → k < n → (k - 1) / 2 = i → hp H' (2 * i + 1) ≤ hp H' k := fun k k0 kn kp => by
            rcases hch k k0 kp with rfl | rfl
            · exact Int.le_refl _
            · omega
      have hjn : (2 * i + 1) < n := by omega
      have hjl : (2 * i + 1) < H'.length := by omega
      have hil : i < H'.length := by omega
      have HL2 : Hid (∀ q, Calls Try.prog 86 #[.slice (some ⟨g, 0, none⟩) (n + 1) c, .int .i64 (2 * (i : Int) + 1), .int .i64 (i : Int)] (wr.drewN q) fun e w' => e = .returned (.bool (decide (hp H' (2 * i + 1) < hp H' i))) ∧ ∃ m, w' = wr.drewN m) := fun q => by
        have := less_any g c (2 * i + 1) i H' (wr.drewN q) (hS1.drewN q).2.1 hjl hil
        rw [e1, hL'] at this
        refine this.mono ?_
        rintro e w' ⟨rfl, m, rfl⟩
        exact ⟨rfl, q + m, by rw [drewN_add]⟩
      have HMl : Hid (∀ q, (method 224 67 (.pointer (some ⟨Bp, 0, none⟩)) "Less").run Try.prog (wr.drewN q) = .ok (86, .slice (some ⟨g, 0, none⟩) (n + 1) c) (wr.drewN q)) := fun q => methLess Bp _ _ (hS.out.1.drewN q).cell.1
      by_cases hlt : hp H' (2 * i + 1) < hp H' i
      · have HSw : Hid (∀ q, Calls Try.prog 89 #[.slice (some ⟨g, 0, none⟩) (n + 1) c, .int .i64 (i : Int), .int .i64 (2 * (i : Int) + 1)] (wr.drewN q) fun e w' => e = .returned (.tuple #[]) ∧ Hid (HSt R Bp (.slice (some ⟨g, 0, none⟩) (n + 1) c) (swapL H' i (2 * i + 1)) w' ∧ (swapL H' i (2 * i + 1)).Perm H ∧ DnI (swapL H' i (2 * i + 1)) n (2 * i + 1) ∧ hp (swapL H' i (2 * i + 1)) n = hp H n ∧ Fr R w w')) := fun q => by
          have h1 := hS1.drewN q
          have h2 := swap_any g c i (2 * i + 1) H' (wr.drewN q) h1.2.1 hil hjl
          rw [e1, hL'] at h2
          refine h2.mono ?_
          rintro e w' ⟨rfl, k1, k2⟩
          rw [← hL'] at k1
          obtain ⟨k3, k4⟩ := h1.swapped k1 k2
          rw [hL'] at k3
          refine ⟨rfl, k3, (swapL_perm hil hjl).trans hS.out.2.1, dn_step hS.out.2.2.1 (by omega) hjn (by omega) (by omega) hmin hlt, ?_, (hS.out.2.2.2.2.trans (fr_drewN R wr q)).trans k4⟩
          rw [hp_swap hil hjl, if_neg (by omega), if_neg (by omega)]
          exact hS.out.2.2.2.1
        have HMs : Hid (∀ q, (method 224 67 (.pointer (some ⟨Bp, 0, none⟩)) "Swap").run Try.prog (wr.drewN q) = .ok (89, .slice (some ⟨g, 0, none⟩) (n + 1) c) (wr.drewN q)) := fun q => methSwap Bp _ _ (hS.out.1.drewN q).cell.1
        rw [decide_eq_true hlt] at HL2
        clear hS hS1 hlt hmin hch
        have mL2 : (method 224 67 (.pointer (some ⟨Bp, 0, none⟩)) "Less").run Try.prog wr = .ok (86, .slice (some ⟨g, 0, none⟩) (n + 1) c) wr := HMl.out 0
        have cL2 := fun args => callsLess args wr
        have HL3 : Hid (Calls Try.prog 86 #[.slice (some ⟨g, 0, none⟩) (n + 1) c, .int .i64 (2 * (i : Int) + 1), .int .i64 (i : Int)] wr fun e w' => e = .returned (.bool true) ∧ ∃ m, w' = wr.drewN m) := HL2.out 0
        go_wp2_with fail
        refine HL3.out.mono ?_
        rintro e w2 ⟨rfl, q2, rfl⟩
        have mS := HMs.out q2
        have cS := fun args => callsSwap args (wr.drewN q2)
        go_wp2_with fail
        refine (HSw.out q2).mono ?_
        rintro e w3 ⟨rfl, hF⟩
        go_wp2
        go_roundw
        case rel => exact ⟨(2 * i + 1), _, by rw [e1], by omega, hF⟩
        case measure => simp [intOf]; omega
      · have HE : Hid (∀ q, ∃ H', HSt R Bp (.slice (some ⟨g, 0, none⟩) (n + 1) c) H' (wr.drewN q) ∧ H'.Perm H ∧ HeapN H' n ∧ hp H' n = hp H n ∧ Fr R w (wr.drewN q)) := fun q => ⟨H', hS.out.1.drewN q, hS.out.2.1, dn_end hS.out.2.2.1 (fun k k0 kn kp => by have := hmin k k0 kn kp; omega), hS.out.2.2.2.1, hS.out.2.2.2.2.trans (fr_drewN R wr q)⟩
        rw [decide_eq_false hlt] at HL2
        clear hS hS1 hlt hmin hch
        have mL2 : (method 224 67 (.pointer (some ⟨Bp, 0, none⟩)) "Less").run Try.prog wr = .ok (86, .slice (some ⟨g, 0, none⟩) (n + 1) c) wr := HMl.out 0
        have cL2 := fun args => callsLess args wr
        have HL3 : Hid (Calls Try.prog 86 #[.slice (some ⟨g, 0, none⟩) (n + 1) c, .int .i64 (2 * (i : Int) + 1), .int .i64 (i : Int)] wr fun e w' => e = .returned (.bool false) ∧ ∃ m, w' = wr.drewN m) := HL2.out 0
        go_wp2_with fail
        refine HL3.out.mono ?_
        rintro e w2 ⟨rfl, q2, rfl⟩
        go_wp2
        go_ret
        exact ⟨⟨_, rfl⟩, HE.out q2⟩
end Go.Proofs.Ytcdonbepfmhdpaa
/-
  A heap of numbers in memory: the library's Push and Pop.
-/
namespace Go.Proofs.Ytcdonbepfmhdpaa
open Go.RowKit Go.Shelf
set_option linter.unusedVariables false
set_option linter.unusedSimpArgs false

set_option maxHeartbeats 3200000 in
set_option maxRecDepth 100000 in
theorem push_any (R : Nat → Prop) (Bp : Nat) (u : Value) (H : List Int) (x : Int) (w : World) (h : HSt R Bp u H w) (hl : H.length ≤ 90) (hH : HeapN H H.length) :
    Calls Try.prog 39 #[.iface 67 (.pointer (some ⟨Bp, 0, none⟩)), .iface 3 (.int .i64 x)] w fun e w' => e = .returned (.tuple #[]) ∧ ∃ u' H', HSt R Bp u' H' w' ∧ H'.Perm (x :: H) ∧ HeapN H' H'.length ∧ Fr R w w' := by
  have HP := hide' (pushM_any R Bp u H x w h (by omega))
  have mP := methPush ⟨Bp, 0, none⟩ w
  have cP := fun args => callsPush args w
  clear h
  go_enter Try.func39, Try.ntmps39
  go_wp2_with fail
  refine HP.out.mono ?_
  rintro e w1 ⟨rfl, u1, h1, f1⟩
  obtain ⟨g, c, rfl, -⟩ := nOwn_some h1.2.1 (by simp)
  have hlen : (H ++ [x]).length = H.length + 1 := by simp
  have mL := methLen Bp _ w1 h1.cell.1
  have cL := fun args => callsLen args w1
  have HU : Hid (Calls Try.prog 51 #[.iface 67 (.pointer (some ⟨Bp, 0, none⟩)), .int .i64 (H.length : Int)] w1 fun e w' => e = .returned (.tuple #[]) ∧ Hid (∃ u' H', HSt R Bp u' H' w' ∧ H'.Perm (x :: H) ∧ HeapN H' H'.length ∧ Fr R w w')) := by
    have hu := push_up (x := x) hH
    rw [← hlen] at hu
    refine (up_any R Bp g c H.length (H ++ [x]) w1 h1 (by omega) (by omega) hu).mono ?_
    rintro e w' ⟨rfl, H', k1, k2, k3, k4⟩
    refine ⟨rfl, _, H', k1, k2.trans List.perm_append_comm, ?_, f1.trans k4⟩
    rw [k2.length_eq]
    exact k3
  have HLn : Hid (Calls Try.prog 40 #[.slice (some ⟨g, 0, none⟩) (H.length + 1) c] w1 fun e w' => e = .returned (.int .i64 ((H.length + 1 : Nat) : Int)) ∧ w1 = w') := len_any _ _ _ w1
  rw [hlen] at mL
  have b4 : IntKind.i64.wrap ((H.length : Int) + 1 - 1) = (H.length : Int) := by rw [IntKind.wrap_i64]; omega
  have b5 : IntKind.i64.wrap (((H.length + 1 : Nat) : Int) - 1) = (H.length : Int) := by rw [IntKind.wrap_i64]; omega
  clear h1 f1 HP hH
  generalize H.length = L at *
  go_wp2_with fail
  refine HLn.out.mono ?_
  rintro e w2 ⟨rfl, e2⟩
  obtain rfl := e2
  go_wp2_with fail
  refine HU.out.mono ?_
  rintro e w3 ⟨rfl, hF⟩
  go_wp2
  go_end0
  exact ⟨rfl, hF.out⟩

set_option maxHeartbeats 3200000 in
set_option maxRecDepth 100000 in
theorem pop_any (R : Nat → Prop) (Bp : Nat) (u : Value) (H : List Int) (n : Nat) (w : World) (h : HSt R Bp u H w) (hl : H.length = n + 1) (hl2 : n ≤ 90) (hH : HeapN H H.length) :
    Calls Try.prog 41 #[.iface 67 (.pointer (some ⟨Bp, 0, none⟩))] w fun e w' => e = .returned (.iface 3 (.int .i64 (hp H 0))) ∧ ∃ u' H', HSt R Bp u' H' w' ∧ H.Perm (hp H 0 :: H') ∧ HeapN H' H'.length ∧ Fr R w w' := by
  obtain ⟨g, c, rfl, -⟩ := nOwn_some h.2.1 (by omega)
  have mL := methLen Bp _ w h.cell.1
  have cL := fun args => callsLen args w
  have mS := methSwap Bp _ w h.cell.1
  have cS := fun args => callsSwap args w
  obtain ⟨hd, hlast⟩ := pop_down (H := H) (n := n) (by rw [← hl]; exact hH) hl
  have HSw : Hid (Calls Try.prog 89 #[.slice (some ⟨g, 0, none⟩) (n + 1) c, .int .i64 0, .int .i64 (n : Int)] w fun e w' => e = .returned (.tuple #[]) ∧ Hid (HSt R Bp (.slice (some ⟨g, 0, none⟩) (n + 1) c) (swapL H 0 n) w' ∧ Fr R w w')) := by
    have := swap_any g c 0 n H w h.2.1 (by omega) (by omega)
    refine Calls.mono (by rw [hl] at this; exact this) ?_
    rintro e w' ⟨rfl, k1, k2⟩
    rw [← hl] at k1
    obtain ⟨k3, k4⟩ := h.swapped k1 k2
    rw [hl] at k3
    exact ⟨rfl, k3, k4⟩
  have HD : Hid (∀ w1, HSt R Bp (.slice (some ⟨g, 0, none⟩) (n + 1) c) (swapL H 0 n) w1 → Fr R w w1 → Calls Try.prog 52 #[.iface 67 (.pointer (some ⟨Bp, 0, none⟩)), .int .i64 0, .int .i64 (n : Int)] w1 fun e w' => (∃ b, e = .returned (.bool b)) ∧ ∃ H', HSt R Bp (.slice (some ⟨g, 0, none⟩) (n + 1) c) H' w' ∧ H'.length = n + 1 ∧ H'.Perm H ∧ HeapN H' n ∧ hp H' n = hp H 0 ∧ Fr R w w') := fun w1 k1 k2 => by
    refine (down_any R Bp g c n (swapL H 0 n) w1 k1 (by rw [swapL_len, hl]) (by omega) hd).mono ?_
    rintro e w' ⟨hb, H', q1, q2, q3, q4, q5⟩
    have q6 := q2.trans (swapL_perm (H := H) (i := 0) (j := n) (by omega) (by omega))
    exact ⟨hb, H', q1, by rw [q6.length_eq, hl], q6, q3, q4.trans hlast, k2.trans q5⟩
  have HPo : Hid (∀ w2 H', HSt R Bp (.slice (some ⟨g, 0, none⟩) (n + 1) c) H' w2 → H'.length = n + 1 → H'.Perm H → HeapN H' n → hp H' n = hp H 0 → Fr R w w2 → Calls Try.prog 87 #[.pointer (some ⟨Bp, 0, none⟩)] w2 fun e w' => e = .returned (.iface 3 (.int .i64 (hp H 0))) ∧ Hid (∃ u' H', HSt R Bp u' H' w' ∧ H.Perm (hp H 0 :: H') ∧ HeapN H' H'.length ∧ Fr R w w')) := fun w2 H' k1 k2 k3 k4 k5 k6 => by
    refine (popM_any R Bp _ H' n w2 k1 k2 (by omega)).mono ?_
    rintro e w' ⟨rfl, u', q1, q2⟩
    refine ⟨by rw [k5], u', H'.take n, q1, ?_, heap_take k4 (by omega), k6.trans q2⟩
    have := drop_perm k2
    rw [k5] at this
    exact k3.symm.trans this
  have HLn : Hid (Calls Try.prog 40 #[.slice (some ⟨g, 0, none⟩) (n + 1) c] w fun e w' => e = .returned (.int .i64 ((n + 1 : Nat) : Int)) ∧ w = w') := len_any _ _ _ w
  rw [hl] at mL mS
  have b4 : IntKind.i64.wrap ((n : Int) + 1 - 1) = (n : Int) := by rw [IntKind.wrap_i64]; omega
  have b5 : IntKind.i64.wrap (((n + 1 : Nat) : Int) - 1) = (n : Int) := by rw [IntKind.wrap_i64]; omega
  clear h hd hlast hH
  generalize hp H 0 = z at *
  go_enter Try.func41, Try.ntmps41
  go_wp2_with fail
  refine HLn.out.mono ?_
  rintro e w2 ⟨rfl, e2⟩
  obtain rfl := e2
  go_wp2_with fail
  refine HSw.out.mono ?_
  rintro e w1 ⟨rfl, hF1⟩
  clear mL mS cL cS
  go_wp2_with fail
  refine (HD.out w1 hF1.out.1 hF1.out.2).mono ?_
  rintro e w2 ⟨⟨bb, rfl⟩, H', k1, k2, k3, k4, k5, k6⟩
  have mP := methPop ⟨Bp, 0, none⟩ w2
  have cP := fun args => callsPop args w2
  have HPo' := hide' (HPo.out w2 H' k1 k2 k3 k4 k5 k6)
  clear k1 k2 k3 k4 k5 k6 HPo
  go_wp2_with fail
  refine HPo'.out.mono ?_
  rintro e w3 ⟨rfl, hF⟩
  go_wp2
  go_ret
  exact ⟨rfl, hF.out⟩
end Go.Proofs.Ytcdonbepfmhdpaa
/-
  Graphs: what lies in memory while tellable of the program goes on: the box of the graph, how many edges each waits for, what was told, the heap.
-/
namespace Go.Proofs.Ytcdonbepfmhdpaa
open Go.RowKit
set_option linter.unusedVariables false
set_option linter.unusedSimpArgs false

/-- A row of what f says. -/
def rowL (n : Nat) (f : Nat → Nat) : List Int := (List.range n).map fun t => (f t : Int)
theorem rowL_len (n : Nat) (f : Nat → Nat) : (rowL n f).length = n := by simp [rowL]
theorem rowL_at {n t : Nat} {f : Nat → Nat} (h : t < n) : (rowL n f).getD t 0 = (f t : Int) := by simp [rowL, List.getD_eq_getElem?_getD, h]
theorem rowL_set {n m : Nat} {f f' : Nat → Nat} {x : Int} (hm : (f' m : Int) = x) (h : ∀ t, t ≠ m → f' t = f t) : rowL n f' = (rowL n f).set m x := by
  apply List.ext_getElem?
  intro j
  by_cases hj : j < n
  · by_cases e : m = j
    · subst e
      rw [List.getElem?_set_self (by rw [rowL_len]; exact hj)]
      simp [rowL, hj, hm]
    · rw [List.getElem?_set_ne e]
      simp [rowL, hj, h j (fun c => e c.symm)]
  · rw [List.getElem?_eq_none (by rw [rowL_len]; omega), List.getElem?_eq_none (by rw [List.length_set, rowL_len]; omega)]
theorem rowL_same {n : Nat} {f f' : Nat → Nat} (h : ∀ t, f' t = f t) : rowL n f' = rowL n f := by
  have : f' = f := funext h
  rw [this]
theorem rowL_zero (n : Nat) : rowL n (fun _ => 0) = List.replicate n 0 := by
  apply List.ext_getElem?
  intro j
  simp [rowL, List.getElem?_replicate]
  split <;> simp_all

theorem nOwn_same {w w' : World} {base : Nat} {v : Value} {l : List Int} (h : NOwn w base v l) (hk : ∀ b, v.ownBlock = some b → w'.heap[b]? = w.heap[b]?) : NOwn w' base v l := by
  obtain ⟨h1, h2 | ⟨g, cap, cur, e, hb, hg, r⟩⟩ := h
  · exact ⟨h1, .inl h2⟩
  · exact ⟨h1, .inr ⟨g, cap, cur, e, hb, (hk g (by rw [e]; rfl)).trans hg, r⟩⟩
theorem HSt.same {R R' : Nat → Prop} {Bp : Nat} {u : Value} {H : List Int} {w w' : World} (h : HSt R Bp u H w) (hB : w'.heap[Bp]? = w.heap[Bp]?) (hk : ∀ b, u.ownBlock = some b → w'.heap[b]? = w.heap[b]?) (hr : ∀ b, R' b → b < w'.heap.size) (h1 : ¬ R' Bp) (h2 : ∀ b, u.ownBlock = some b → ¬ R' b) : HSt R' Bp u H w' :=
  ⟨hB.trans h.1, nOwn_same h.2.1 hk, fun b hb => ⟨h2 b hb, (h.2.2.1 b hb).2⟩, h1, hr⟩

/-- What the heap must keep off: all below B0, and the row of what was told. -/
def Rp (B0 : Nat) (uo : Value) (b : Nat) : Prop := b < B0 ∨ uo.ownBlock = some b
/-- While tellable goes on. -/
def TSt (w : World) (o : Obj) (B0 : Nat) (s : List Int) (uo : Value) (out : List Int) (Bp : Nat) (H : List Int) (wr : World) : Prop :=
  VRow (Value.int .i64) 3 (w.heap.size + 1) s wr ∧ wr.heap[w.heap.size]? = some o ∧ Below w.heap.size w wr ∧ (w.heap.size + 2 ≤ B0 ∧ B0 ≤ wr.heap.size) ∧ NOwn wr B0 uo out ∧ ∃ u, HSt (Rp B0 uo) Bp u H wr

section
variable {w wr w' : World} {o : Obj} {B0 Bp : Nat} {s : List Int} {uo : Value} {out H : List Int}
theorem HSt.lt {R : Nat → Prop} {u : Value} (h : HSt R Bp u H wr) : Bp < wr.heap.size := (Array.getElem?_eq_some_iff.1 h.1).1
theorem TSt.fr {H' : List Int} {u' : Value} (h : TSt w o B0 s uo out Bp H wr) (h' : HSt (Rp B0 uo) Bp u' H' w') (f : Fr (Rp B0 uo) wr w') : TSt w o B0 s uo out Bp H' w' := by
  obtain ⟨h1, h2, h3, ⟨h4, h4'⟩, h5, u, h6⟩ := h
  refine ⟨(f.block _ (.inl (by omega))).trans h1, (f.block _ (.inl (by omega))).trans h2, ⟨f.os.trans h3.os, f.tape.trans h3.tape, f.output.trans h3.output, Nat.le_trans h3.size f.size, fun k hk => (f.block k (.inl (by omega))).trans (h3.block k hk)⟩, ⟨h4, by have := f.size; omega⟩, nOwn_same h5 (fun b hb => f.block b (.inr hb)), u', h'⟩
theorem TSt.on (h : TSt w o B0 s uo out Bp H wr) (hb : Below wr.heap.size wr w') : TSt w o B0 s uo out Bp H w' := by
  obtain ⟨h1, h2, h3, ⟨h4, h4'⟩, h5, u, h6⟩ := h
  have hz := hb.size
  have hrow := h6.2.1.lt
  refine ⟨(hb.block _ h1.lt).trans h1, (hb.block _ (Array.getElem?_eq_some_iff.1 h2).1).trans h2, Below.on h3 hb, ⟨h4, by omega⟩, h5.on hb, u, h6.same (hb.block _ h6.lt) (fun b hb' => hb.block b (hrow b hb').2) (fun b hb' => Nat.lt_of_lt_of_le (h6.2.2.2.2 b hb') hz) h6.2.2.2.1 (fun b hb' => (h6.2.2.1 b hb').1)⟩
theorem TSt.alloc (h : TSt w o B0 s uo out Bp H wr) (o' : Obj) : TSt w o B0 s uo out Bp H (wr.alloc o') := h.on ((Below.refl _ _).alloc (Nat.le_refl _) o')
theorem TSt.set (h : TSt w o B0 s uo out Bp H wr) (m : Nat) (x : Int) : TSt w o B0 (s.set m x) uo out Bp H (wr.setCell ⟨w.heap.size + 1, m, none⟩ (.int .i64 x)) := by
  obtain ⟨h1, h2, h3, ⟨h4, h4'⟩, h5, u, h6⟩ := h
  have hk : ∀ b, b ≠ w.heap.size + 1 → (wr.setCell ⟨w.heap.size + 1, m, none⟩ (.int .i64 x)).heap[b]? = wr.heap[b]? := fun b hb => Below.heap_setCell wr _ _ b hb
  have hR : Rp B0 uo (w.heap.size + 1) := .inl (by omega)
  have hsz : (wr.setCell ⟨w.heap.size + 1, m, none⟩ (.int .i64 x)).heap.size = wr.heap.size := by simp [World.setCell]
  have hlo := h5.lt
  refine ⟨h1.set m x, (hk _ (by omega)).trans h2, h3.setCell (by show w.heap.size ≤ w.heap.size + 1; omega) _, ⟨h4, by omega⟩, nOwn_same h5 (fun b hb => hk b (by have := (hlo b hb).1; omega)), u, h6.same (hk _ (fun e => h6.2.2.2.1 (e ▸ hR))) (fun b hb => hk b (fun e => (h6.2.2.1 b hb).1 (e ▸ hR))) (fun b hb => by rw [hsz]; exact h6.2.2.2.2 b hb) h6.2.2.2.1 (fun b hb => (h6.2.2.1 b hb).1)⟩
theorem TSt.add {g cp : Nat} {w6 : World} {ua : Option Addr} {uc : Nat} {x : Int} {o1 : Obj} (h : TSt w o B0 s (.slice ua out.length uc) out Bp H wr) (h1 : w6.ownsRow B0 3 1 (.slice (some ⟨g, 0, none⟩) (out.length + 1) cp) (out.length + 1) (iC out ++ [.int .i64 x])) (h2 : (wr.alloc o1).grownBy w6 (Value.slice ua out.length uc).ownBlock) (h3 : (Value.slice ua out.length uc).ownBlock = some g ∨ g = wr.heap.size + 1) (h4 : g < w6.heap.size) : TSt w o B0 s (.slice (some ⟨g, 0, none⟩) (out.length + 1) cp) (out ++ [x]) Bp H w6 := by
  obtain ⟨k1, k2, k3, ⟨k4, k4'⟩, k5, u, k6⟩ := h
  have hlo := k5.lt
  have hz := h2.size
  simp at hz
  have hk : ∀ b, b < wr.heap.size → (Value.slice ua out.length uc).ownBlock ≠ some b → w6.heap[b]? = wr.heap[b]? := fun b hb hne => (h2.block b (by simp; omega) (fun e => hne e.symm)).trans (Below.heap_alloc wr o1 b hb)
  have hfar : ∀ b, b < B0 → w6.heap[b]? = wr.heap[b]? := fun b hb => hk b (by omega) (fun e => by have := (hlo b e).1; omega)
  have hnew : ∀ b, b < wr.heap.size → ¬ Rp B0 (.slice ua out.length uc) b → ¬ Rp B0 (.slice (some ⟨g, 0, none⟩) (out.length + 1) cp) b := fun b hb hn hr => by
    rcases hr with hr | hr
    · exact hn (.inl hr)
    · simp [Value.ownBlock] at hr
      subst hr
      rcases h3 with h3 | h3
      · exact hn (.inr h3)
      · omega
  refine ⟨(hfar _ (by omega)).trans k1, (hfar _ (by omega)).trans k2, ⟨h2.os.trans k3.os, h2.tape.trans k3.tape, h2.output.trans k3.output, by have := k3.size; omega, fun k hk' => (hfar k (by omega)).trans (k3.block k hk')⟩, ⟨k4, by omega⟩, ?_, u, k6.same (hk _ k6.lt (fun e => k6.2.2.2.1 (.inr e))) (fun b hb => hk b (k6.2.1.lt b hb).2 (fun e => (k6.2.2.1 b hb).1 (.inr e))) (fun b hb => ?_) (hnew _ k6.lt k6.2.2.2.1) (fun b hb => hnew b (k6.2.1.lt b hb).2 (k6.2.2.1 b hb).1)⟩
  · unfold NOwn
    rw [iC_add, List.length_append]
    exact h1
  · rcases hb with hb | hb
    · omega
    · simp [Value.ownBlock] at hb
      omega
end
end Go.Proofs.Ytcdonbepfmhdpaa
