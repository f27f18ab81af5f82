/-
  Texts that a law leans on, one behind the other; no statement is proved here.
-/
import Derived.Test.YtbmgkmnibjdpiaaGreatDoorPk9
import Derived.Test.YtbmgkmnibjdpiaaGreatDoorPk10
import Derived.Test.YtbmgkmnibjdpiaaGreatDoorPk7
import Derived.BigQuiet
/-
  Addresses, each behind the one ahead of it: l4addrs of the specification, ascendingAddrs of the program.
-/
namespace Go.Proofs.YtbmgkmnibjdpiaaGreatDoor
open Go.RowKit
set_option linter.unusedVariables false
set_option linter.unusedSimpArgs false

def stepA (ks : List (List Int)) (i : Nat) : Bool := addrB (ks.getD i []) && (i == 0 || ltS (ks.getD (i - 1) []) (ks.getD i []))
def ascA (ks : List (List Int)) : Bool := (List.range ks.length).all (stepA ks)
def addrsB (ks : List (List Int)) : Bool := decide (ks.length ≤ 8) && ascA ks
theorem ascA_yes {ks : List (List Int)} (h : ∀ i, i < ks.length → stepA ks i = true) : ascA ks = true := by
  unfold ascA
  rw [List.all_eq_true]
  exact fun i hi => h i (List.mem_range.1 hi)
theorem ascA_no {ks : List (List Int)} {i : Nat} (hi : i < ks.length) (h : stepA ks i = false) : ascA ks = false := by
  cases hc : ascA ks with
  | false => rfl
  | true =>
    unfold ascA at hc
    rw [List.all_eq_true.1 hc i (List.mem_range.2 hi)] at h
    cases h

/-- A key's bytes, its slice in full. -/
theorem KSeg.full {R : Nat → Prop} {w : World} {a : Option Addr} {n cap : Nat} {ks : List (List Int)} (h : KSeg R w (.slice a n cap) ks) {k : Nat} (hk : k < ks.length) :
    ∃ b off, a = some ⟨b, off, none⟩ ∧ ∀ i (hi : i < ks.length), ∃ a2 c2, w.cell? ⟨b, off + i, none⟩ = some (.slice a2 (ks.getD i []).length c2) ∧ Seg w a2 (ks.getD i []) ∧ (ks.getD i []).length ≤ c2 ∧ c2 ≤ maxLen ∧ (a2 = none → c2 = 0) := by
  obtain ⟨a', cap', g1, _, _, _, g5⟩ := h
  simp only [Value.slice.injEq] at g1
  obtain ⟨rfl, _, _⟩ := g1
  rcases g5 with e | ⟨b, off, hb, hR, hc⟩
  · rw [e] at hk; simp at hk
  · refine ⟨b, off, hb, fun i hi => ?_⟩
    obtain ⟨u, hu, hT⟩ := hc i hi
    obtain ⟨a2, c2, rfl, s2, l2, m2, k2, _⟩ := hT
    exact ⟨a2, c2, hu, s2, l2, m2, k2⟩

set_option maxHeartbeats 3200000 in
theorem ascendingAddrs_any (N : Nat) (x : Value) (ks : List (List Int)) (w : World) (hx : KSeg (fun b => b < N) w x ks) (hN : N ≤ w.heap.size) (hz : ∀ i, i < ks.length → (ks.getD i []).length ≤ 1048576) (hE : Errs w) :
    Calls Tryz.prog 45 #[x] w fun e w' => e = .returned (.bool (ascA ks)) ∧ Below w.heap.size w w' := by
  have HX := hide' hx
  have HZ := hide' hz
  have HEr := hide' hE
  obtain ⟨a, cap, rfl, hlc, hcm, ka, hc⟩ := hx
  unfold maxLen at hcm
  clear hc hz hE
  have HY : Hid ((∀ i, i < ks.length → stepA ks i = true) → ascA ks = true) := ascA_yes
  have HNo : Hid (∀ i, i < ks.length → stepA ks i = false → ascA ks = false) := fun i hi h => ascA_no hi h
  go_enter Tryz.func45, Tryz.ntmps45
  go_wp2
  go_loopw [7] (fun i wr => ∃ k : Nat, k ≤ ks.length ∧ i = .int .i64 k ∧ Hid ((∀ j, j < k → stepA ks j = true) ∧ Below w.heap.size w wr)) (fun i _ => ks.length - (intOf i).toNat)
  case atStart => exact ⟨0, Nat.zero_le _, rfl, fun j h => by omega, Below.refl _ _⟩
  case round =>
    obtain ⟨k, hk, rfl, hS⟩ := hrel
    obtain ⟨hall, hbr⟩ := hS.out
    have HAll := hide' hall
    have HB := hide' hbr
    by_cases hlt : k < ks.length
    rotate_left
    · have hlt' : ¬ (k : Int) < (ks.length : Int) := by omega
      have HF := hide' (HY.out fun i hi => hall i (by omega))
      clear hS hall hbr
      go_wp2
      go_ret
      exact ⟨ret_bool HF.out.symm, HB.out⟩
    have hlt' : (k : Int) < (ks.length : Int) := by omega
    obtain ⟨b, off, rfl, hat⟩ := (HX.out.agree (agree_below (hbr.mono hN))).full hlt
    obtain ⟨a2, c2, hu, s2, l2, m2, k2⟩ := hat k hlt
    have hzk := HZ.out k hlt
    have HAd := hide' (impl_AddrOk_any a2 c2 (ks.getD k []) wr s2 (by omega) l2 m2 k2 (HEr.out.grow hbr))
    clear hS hall hbr
    by_cases hn : addrB (ks.getD k []) = true
    rotate_left
    · have hn' : addrB (ks.getD k []) = false := by simpa using hn
      have HF := hide' (HNo.out k hlt (by unfold stepA; rw [hn']; rfl))
      rw [hn'] at HAd
      generalize (ks.getD k []) = ys at *
      clear hat hn hn'
      go_wp2_with fail
      refine HAd.out.mono ?_
      rintro e w1 ⟨rfl, b1⟩
      have B1 := hide' (Below.on HB.out b1)
      clear b1
      go_wp2
      go_ret
      exact ⟨ret_bool HF.out.symm, B1.out⟩
    rw [hn] at HAd
    cases k with
    | zero =>
      have HS : Hid (stepA ks 0 = true) := by show stepA ks 0 = true; unfold stepA; rw [hn]; rfl
      generalize (ks.getD 0 []) = ys at *
      simp only [Nat.add_zero] at hu
      clear hat
      go_wp2_with fail
      refine HAd.out.mono ?_
      rintro e w1 ⟨rfl, b1⟩
      have HS1 : ∀ j, j < 0 + 1 → stepA ks j = true := by
        intro j hj
        obtain rfl : j = 0 := by omega
        exact HS.out
      have HN : Hid ((∀ j, j < 0 + 1 → stepA ks j = true) ∧ Below w.heap.size w w1) := ⟨HS1, Below.on HB.out b1⟩
      clear HS1
      clear b1
      go_wp2
      go_roundw
      case rel => exact ⟨0 + 1, by omega, by go_num, HN⟩
      case measure => simp [intOf]; omega
    | succ j =>
      obtain ⟨a3, c3, hu3, s3, l3, m3, k3⟩ := hat j (by omega)
      have hst : stepA ks (j + 1) = ltS (ks.getD j []) (ks.getD (j + 1) []) := by simp only [stepA, hn]; simp
      have HC : Hid (∀ wx, Below wr.heap.size wr wx → Calls Tryz.prog 63 #[.slice a3 (ks.getD j []).length c3, .slice a2 (ks.getD (j + 1) []).length c2] wx fun e w' => e = .returned (.int .i64 (Lib.compareBytes (u8s (ks.getD j [])) (u8s (ks.getD (j + 1) [])))) ∧ wx = w') := fun wx hb => bytes_Compare_any a3 a2 c3 c2 (ks.getD j []) (ks.getD (j + 1) []) wx (s3.grow hb) (s2.grow hb)
      have Hu3 : Hid (∀ wx, Below wr.heap.size wr wx → wx.cell? ⟨b, off + j, none⟩ = some (.slice a3 (ks.getD j []).length c3)) := fun wx hb => (hb.cell (World.block_lt_of_cell? wr _ hu3)).trans hu3
      have hlc : ltS (ks.getD j []) (ks.getD (j + 1) []) = decide (Lib.compareBytes (u8s (ks.getD j [])) (u8s (ks.getD (j + 1) [])) < 0) := less_cmp _ _
      rw [hlc] at hst
      have hcr := cmp_range (u8s (ks.getD j [])) (u8s (ks.getD (j + 1) []))
      have HS := hide' hst
      generalize Lib.compareBytes (u8s (ks.getD j [])) (u8s (ks.getD (j + 1) [])) = q at *
      generalize (ks.getD (j + 1) []) = ys at *
      generalize (ks.getD j []) = zs at *
      clear hat hst hlc hn s2 s3 hu3
      go_wp2_with fail
      refine HAd.out.mono ?_
      rintro e w1 ⟨rfl, b1⟩
      have hu3 := Hu3.out _ b1
      have HC1 := hide' (HC.out _ b1)
      have B1 := hide' (Below.on HB.out b1)
      clear b1 hu HC Hu3
      go_wp2_with fail
      refine HC1.out.mono ?_
      rintro e w2 ⟨rfl, e2⟩
      obtain rfl := e2
      by_cases hq : 0 ≤ q
      · have HF := hide' (HNo.out (j + 1) (by omega) (by rw [HS.out]; simpa using hq))
        go_wp2
        go_ret
        exact ⟨ret_bool HF.out.symm, B1.out⟩
      · have HN : Hid ((∀ i, i < j + 2 → stepA ks i = true) ∧ Below w.heap.size w w1) := ⟨fun i hi => by
            by_cases e : i = j + 1
            · rw [e, HS.out]; simpa using hq
            · exact HAll.out i (by omega), B1.out⟩
        go_wp2
        go_roundw
        case rel => exact ⟨j + 2, by omega, by go_num, HN⟩
        case measure => simp [intOf]; omega

set_option maxHeartbeats 3200000 in
theorem l4addrs_any (N : Nat) (x : Value) (ks : List (List Int)) (w : World) (hx : KSeg (fun b => b < N) w x ks) (hN : N ≤ w.heap.size) :
    Calls Tryz.prog 24 #[x] w fun e w' => e = .returned (.bool (addrsB ks)) ∧ Below w.heap.size w w' := by
  have HX := hide' hx
  obtain ⟨a, cap, rfl, hlc, hcm, ka, hc⟩ := hx
  unfold maxLen at hcm
  clear hc
  by_cases h8 : 8 < ks.length
  · have h8' : (8 : Int) < (ks.length : Int) := by omega
    have HF : Hid (addrsB ks = false) := by show addrsB ks = false; unfold addrsB; rw [decide_eq_false (by omega)]; rfl
    go_enter Tryz.func24, Tryz.ntmps24
    go_wp2
    go_ret
    exact ⟨ret_bool HF.out.symm, Below.refl _ _⟩
  have h8' : ¬ (8 : Int) < (ks.length : Int) := by omega
  have HY : Hid ((∀ i, i < ks.length → stepA ks i = true) → addrsB ks = true) := fun h => by unfold addrsB; rw [ascA_yes h, decide_eq_true (by omega)]; rfl
  have HNo : Hid (∀ i, i < ks.length → stepA ks i = false → addrsB ks = false) := fun i hi h => by unfold addrsB; rw [ascA_no hi h]; simp
  go_enter Tryz.func24, Tryz.ntmps24
  go_wp2
  go_loopw [3] (fun i wr => ∃ k : Nat, k ≤ ks.length ∧ i = .int .i64 k ∧ Hid ((∀ j, j < k → stepA ks j = true) ∧ Below w.heap.size w wr)) (fun i _ => ks.length - (intOf i).toNat)
  case atStart => exact ⟨0, Nat.zero_le _, rfl, fun j h => by omega, Below.refl _ _⟩
  case round =>
    obtain ⟨k, hk, rfl, hS⟩ := hrel
    obtain ⟨hall, hbr⟩ := hS.out
    have HAll := hide' hall
    have HB := hide' hbr
    by_cases hlt : k < ks.length
    rotate_left
    · have hlt' : ¬ (k : Int) < (ks.length : Int) := by omega
      have HF := hide' (HY.out fun i hi => hall i (by omega))
      clear hS hall hbr
      go_wp2
      go_ret
      exact ⟨ret_bool HF.out.symm, HB.out⟩
    have hlt' : (k : Int) < (ks.length : Int) := by omega
    obtain ⟨b, off, rfl, hat⟩ := (HX.out.agree (agree_below (hbr.mono hN))).full hlt
    obtain ⟨a2, c2, hu, s2, l2, m2, k2⟩ := hat k hlt
    have HAd : Hid (∀ n, Calls Tryz.prog 21 #[.slice a2 (ks.getD k []).length c2] (wr.drewN n) fun e w' => e = .returned (.bool (addrB (ks.getD k []))) ∧ wr.drewN n = w') := fun n => spec_AddrOk_any a2 c2 (ks.getD k []) (wr.drewN n) s2 l2 m2 k2
    clear hS hall hbr
    by_cases hn : addrB (ks.getD k []) = true
    rotate_left
    · have hn' : addrB (ks.getD k []) = false := by simpa using hn
      have HF := hide' (HNo.out k hlt (by unfold stepA; rw [hn']; rfl))
      rw [hn'] at HAd
      generalize (ks.getD k []) = ys at *
      clear hat hn hn'
      go_wp2_with fail
      go_big_quiet ((go_at_call 21; exact quiet_same (HAd.out _)))
      go_wp2
      go_ret
      exact ⟨ret_bool HF.out.symm, below_drewN HB.out _⟩
    rw [hn] at HAd
    cases k with
    | zero =>
      have HS1 : ∀ j, j < 0 + 1 → stepA ks j = true := by
        intro j hj
        obtain rfl : j = 0 := by omega
        unfold stepA
        rw [hn]
        rfl
      have HN : Hid (∀ n, (∀ j, j < 0 + 1 → stepA ks j = true) ∧ Below w.heap.size w (wr.drewN n)) := fun n => ⟨HS1, below_drewN HB.out n⟩
      clear HS1
      generalize (ks.getD 0 []) = ys at *
      simp only [Nat.add_zero] at hu
      clear hat
      go_wp2_with fail
      go_big_quiet ((go_at_call 21; exact quiet_same (HAd.out _)))
      go_wp2
      go_roundw
      case rel => exact ⟨0 + 1, by omega, by go_num, HN.out _⟩
      case measure => simp [intOf]; omega
    | succ j =>
      obtain ⟨a3, c3, hu3, s3, l3, m3, k3⟩ := hat j (by omega)
      have hst : stepA ks (j + 1) = Op.bytesLess (strOf (ks.getD j [])).toList (strOf (ks.getD (j + 1) [])).toList := by
        rw [strOf_list, strOf_list]
        simp only [stepA, hn]
        simp [ltS]
      have hcv2 : ∀ n, (convert 22 9 (.slice a2 (ks.getD (j + 1) []).length c2)).run Tryz.prog (wr.drewN n) = .ok (.string (strOf (ks.getD (j + 1) []))) (wr.drewN n) := fun n => conv_seg (w := wr.drewN n) c2 s2
      have hcv3 : ∀ n, (convert 22 9 (.slice a3 (ks.getD j []).length c3)).run Tryz.prog (wr.drewN n) = .ok (.string (strOf (ks.getD j []))) (wr.drewN n) := fun n => conv_seg (w := wr.drewN n) c3 s3
      have hpos : (0 : Int) < ((j + 1 : Nat) : Int) := by omega
      by_cases hcmp : Op.bytesLess (strOf (ks.getD j [])).toList (strOf (ks.getD (j + 1) [])).toList = true
      · have HN : Hid (∀ n, (∀ i, i < j + 1 + 1 → stepA ks i = true) ∧ Below w.heap.size w (wr.drewN n)) := fun n => ⟨fun i hi => by
            by_cases e : i = j + 1
            · subst e; rw [hst]; exact hcmp
            · exact HAll.out i (by omega), below_drewN HB.out n⟩
        generalize ks.getD (j + 1) [] = ys at *
        generalize ks.getD j [] = zs at *
        clear hat hn hst s2 s3
        go_wp2_with fail
        go_quiet ((go_at_call 21; exact quiet_same (HAd.out _)))
        go_wp2
        go_roundw
        case rel => exact ⟨(j + 1) + 1, by omega, by go_num, HN.out _⟩
        case measure => simp [intOf]; omega
      · have hcmp' : Op.bytesLess (strOf (ks.getD j [])).toList (strOf (ks.getD (j + 1) [])).toList = false := by simpa using hcmp
        have HF := hide' (HNo.out (j + 1) hlt (by rw [hst]; exact hcmp'))
        generalize ks.getD (j + 1) [] = ys at *
        generalize ks.getD j [] = zs at *
        clear hat hn hst s2 s3 hcmp
        go_wp2_with fail
        go_quiet ((go_at_call 21; exact quiet_same (HAd.out _)))
        go_wp2
        go_ret
        exact ⟨ret_bool HF.out.symm, below_drewN HB.out _⟩
end Go.Proofs.YtbmgkmnibjdpiaaGreatDoor
/-
  l2ok of the specification, its ways out ahead of the kinds: too many parts, too deep, a field that the kind does not have.
-/
namespace Go.Proofs.YtbmgkmnibjdpiaaGreatDoor
open Go.RowKit
set_option linter.unusedVariables false
set_option linter.unusedSimpArgs false

set_option maxHeartbeats 4000000 in
set_option maxRecDepth 100000 in
theorem l2ok_left (vk vn : Int) (a2 a3 a4 : Option Addr) (n2 n3 n4 p2 p3 p4 : Nat) (deep : Nat) (left : Int) (w : World) (h1 : left < 1) (h2 : 0 ≤ left) :
    Calls Tryz.prog 57 #[.agg #[.int .i64 vk, .int .i64 vn, .slice a2 n2 p2, .slice a3 n3 p3, .slice a4 n4 p4], .int .i64 deep, .int .i64 left] w fun e w' => e = .returned (.int .i64 (-1)) ∧ Below w.heap.size w w' := by
  have Hb : Hid (∀ o : Obj, Below w.heap.size w (w.alloc o)) := fun o => (Below.refl _ _).alloc (Nat.le_refl _) o
  have h3 : left - 1 < 0 := by omega
  go_enter Tryz.func57, Tryz.ntmps57
  go_wp2
  go_ret
  exact ⟨rfl, Hb.out _⟩

set_option maxHeartbeats 4000000 in
set_option maxRecDepth 100000 in
theorem l2ok_deep (vk vn : Int) (a2 a3 a4 : Option Addr) (n2 n3 n4 p2 p3 p4 : Nat) (deep : Nat) (left : Int) (w : World) (h1 : 1 ≤ left) (h2 : left ≤ 40) (h3 : 5 < deep) :
    Calls Tryz.prog 57 #[.agg #[.int .i64 vk, .int .i64 vn, .slice a2 n2 p2, .slice a3 n3 p3, .slice a4 n4 p4], .int .i64 deep, .int .i64 left] w fun e w' => e = .returned (.int .i64 (-1)) ∧ Below w.heap.size w w' := by
  have Hb : Hid (∀ o : Obj, Below w.heap.size w (w.alloc o)) := fun o => (Below.refl _ _).alloc (Nat.le_refl _) o
  have h4 : ¬ left - 1 < 0 := by omega
  have h5 : (5 : Int) < (deep : Int) := by omega
  go_enter Tryz.func57, Tryz.ntmps57
  go_wp2
  go_ret
  exact ⟨rfl, Hb.out _⟩

set_option maxHeartbeats 8000000 in
set_option maxRecDepth 100000 in
theorem l2ok_bare (vk vn : Int) (a2 a3 a4 : Option Addr) (n2 n3 n4 p2 p3 p4 : Nat) (deep : Nat) (left : Int) (w : World) (h1 : 1 ≤ left) (h2 : left ≤ 40) (h3 : deep ≤ 5) (hbare : bareB vk vn n2 n3 n4 = false) :
    Calls Tryz.prog 57 #[.agg #[.int .i64 vk, .int .i64 vn, .slice a2 n2 p2, .slice a3 n3 p3, .slice a4 n4 p4], .int .i64 deep, .int .i64 left] w fun e w' => e = .returned (.int .i64 (-1)) ∧ Below w.heap.size w w' := by
  have Hb : Hid (∀ o : Obj, Below w.heap.size w (w.alloc o)) := fun o => (Below.refl _ _).alloc (Nat.le_refl _) o
  have h4 : ¬ left - 1 < 0 := by omega
  have h5 : ¬ (5 : Int) < (deep : Int) := by omega
  by_cases k1 : vk = 1
  · subst k1
    by_cases an2 : n2 = 0
    · subst an2
      by_cases an3 : n3 = 0
      · subst an3
        by_cases an4 : n4 = 0
        · subst an4
          simp [bareB, *] at hbare
        · have bn4 : (0 : Int) < (n4 : Int) := by omega
          clear hbare
          go_enter Tryz.func57, Tryz.ntmps57
          go_wp2
          go_ret
          exact ⟨rfl, Hb.out _⟩
      · have bn3 : (0 : Int) < (n3 : Int) := by omega
        clear hbare
        go_enter Tryz.func57, Tryz.ntmps57
        go_wp2
        go_ret
        exact ⟨rfl, Hb.out _⟩
    · have bn2 : (0 : Int) < (n2 : Int) := by omega
      clear hbare
      go_enter Tryz.func57, Tryz.ntmps57
      go_wp2
      go_ret
      exact ⟨rfl, Hb.out _⟩
  by_cases k2 : vk = 2
  · subst k2
    by_cases an2 : n2 = 0
    · subst an2
      by_cases an3 : n3 = 0
      · subst an3
        by_cases an4 : n4 = 0
        · subst an4
          simp [bareB, *] at hbare
        · have bn4 : (0 : Int) < (n4 : Int) := by omega
          clear hbare
          go_enter Tryz.func57, Tryz.ntmps57
          go_wp2
          go_ret
          exact ⟨rfl, Hb.out _⟩
      · have bn3 : (0 : Int) < (n3 : Int) := by omega
        clear hbare
        go_enter Tryz.func57, Tryz.ntmps57
        go_wp2
        go_ret
        exact ⟨rfl, Hb.out _⟩
    · have bn2 : (0 : Int) < (n2 : Int) := by omega
      clear hbare
      go_enter Tryz.func57, Tryz.ntmps57
      go_wp2
      go_ret
      exact ⟨rfl, Hb.out _⟩
  by_cases k3 : vk = 3
  · subst k3
    by_cases an3 : n3 = 0
    · subst an3
      by_cases an : vn = 0
      · subst an
        by_cases an4 : n4 = 0
        · subst an4
          simp [bareB, *] at hbare
        · have bn4 : (0 : Int) < (n4 : Int) := by omega
          clear hbare
          go_enter Tryz.func57, Tryz.ntmps57
          go_wp2
          go_ret
          exact ⟨rfl, Hb.out _⟩
      · clear hbare
        go_enter Tryz.func57, Tryz.ntmps57
        go_wp2
        go_ret
        exact ⟨rfl, Hb.out _⟩
    · have bn3 : (0 : Int) < (n3 : Int) := by omega
      clear hbare
      go_enter Tryz.func57, Tryz.ntmps57
      go_wp2
      go_ret
      exact ⟨rfl, Hb.out _⟩
  by_cases k4 : vk = 4
  · subst k4
    by_cases an2 : n2 = 0
    · subst an2
      by_cases an3 : n3 = 0
      · subst an3
        by_cases an : vn = 0
        · subst an
          simp [bareB, *] at hbare
        · clear hbare
          go_enter Tryz.func57, Tryz.ntmps57
          go_wp2
          go_ret
          exact ⟨rfl, Hb.out _⟩
      · have bn3 : (0 : Int) < (n3 : Int) := by omega
        clear hbare
        go_enter Tryz.func57, Tryz.ntmps57
        go_wp2
        go_ret
        exact ⟨rfl, Hb.out _⟩
    · have bn2 : (0 : Int) < (n2 : Int) := by omega
      clear hbare
      go_enter Tryz.func57, Tryz.ntmps57
      go_wp2
      go_ret
      exact ⟨rfl, Hb.out _⟩
  by_cases k5 : vk = 5
  · subst k5
    by_cases an2 : n2 = 0
    · subst an2
      by_cases an : vn = 0
      · subst an
        simp [bareB, *] at hbare
      · clear hbare
        go_enter Tryz.func57, Tryz.ntmps57
        go_wp2
        go_ret
        exact ⟨rfl, Hb.out _⟩
    · have bn2 : (0 : Int) < (n2 : Int) := by omega
      clear hbare
      go_enter Tryz.func57, Tryz.ntmps57
      go_wp2
      go_ret
      exact ⟨rfl, Hb.out _⟩
  have q1 : (vk != 1) = true := by simp [k1]
  have q2 : (vk != 2) = true := by simp [k2]
  have q3 : (vk != 3) = true := by simp [k3]
  have q4 : (vk != 4) = true := by simp [k4]
  have q5 : (vk != 5) = true := by simp [k5]
  by_cases an2 : n2 = 0
  · subst an2
    by_cases an3 : n3 = 0
    · subst an3
      by_cases an : vn = 0
      · subst an
        by_cases an4 : n4 = 0
        · subst an4
          simp [bareB, *] at hbare
        · have bn4 : (0 : Int) < (n4 : Int) := by omega
          clear hbare
          go_enter Tryz.func57, Tryz.ntmps57
          go_wp2
          go_ret
          exact ⟨rfl, Hb.out _⟩
      · clear hbare
        go_enter Tryz.func57, Tryz.ntmps57
        go_wp2
        go_ret
        exact ⟨rfl, Hb.out _⟩
    · have bn3 : (0 : Int) < (n3 : Int) := by omega
      clear hbare
      go_enter Tryz.func57, Tryz.ntmps57
      go_wp2
      go_ret
      exact ⟨rfl, Hb.out _⟩
  · have bn2 : (0 : Int) < (n2 : Int) := by omega
    clear hbare
    go_enter Tryz.func57, Tryz.ntmps57
    go_wp2
    go_ret
    exact ⟨rfl, Hb.out _⟩
end Go.Proofs.YtbmgkmnibjdpiaaGreatDoor
/-
  l2ok of the specification at maps; at every value: 'okI'; ValOk of the specification.
-/
namespace Go.Proofs.YtbmgkmnibjdpiaaGreatDoor
open Go.RowKit
set_option linter.unusedVariables false
set_option linter.unusedSimpArgs false

theorem shape_map {vK : List (List Int)} {n : Nat} (h : vK.length = n) : shapeB 5 0 [] vK n = ascB vK := by simp [shapeB, bareB, h]
theorem shape_map_no {vK : List (List Int)} {n : Nat} (h : vK.length ≠ n) : shapeB 5 0 [] vK n = false := by simp [shapeB, bareB, h]

set_option maxHeartbeats 8000000 in
set_option maxRecDepth 100000 in
theorem l2ok_map (d : Nat) (ih : OkAt d) (N : Nat) (vK : List (List Int)) (vL : List (Vl d)) (a2 : Option Addr) (p2 : Nat) (z x : Value) (deep : Nat) (left : Int) (w : World) (hz0 : KSeg (fun b => b < N) w z vK) (hx : LSeg (fun b => b < N) w d x vL) (hN : N ≤ w.heap.size) (h1 : 1 ≤ left) (h2 : left ≤ 40) (h3 : deep ≤ 5) :
    Calls Tryz.prog 57 #[.agg #[.int .i64 5, .int .i64 0, .slice a2 0 p2, z, x], .int .i64 deep, .int .i64 left] w fun e w' => e = .returned (.int .i64 (okI (d + 1) (5, 0, [], vK, vL) deep left)) ∧ Below w.heap.size w w' := by
  have HX := hide' hx
  have HZ := hide' hz0
  obtain ⟨a4, p4, rfl, hlc, hcm, ka, _⟩ := hx
  obtain ⟨a3, p3, rfl, hlc3, hcm3, ka3, _⟩ := hz0
  unfold maxLen at hcm hcm3
  have b0 : ∀ o : Obj, Below w.heap.size w (w.alloc o) := fun o => (Below.refl _ _).alloc (Nat.le_refl _) o
  have h4 : ¬ left - 1 < 0 := by omega
  have h5 : ¬ (5 : Int) < (deep : Int) := by omega
  have Hb := hide' b0
  by_cases hkl : vK.length = vL.length
  · have HI := hide' ih
    have H3 := hide' h3
    have H1 := hide' h1
    have HKL := hide' hkl
    have HNo : Hid (∀ i, i < vK.length → stepB vK i = false → okI (d + 1) (5, 0, [], vK, vL) deep left = -1) := fun i hi h => okI_shape deep left (by rw [shape_map hkl]; exact ascB_no hi h)
    have HYes : Hid ((∀ i, i < vK.length → stepB vK i = true) → shapeB 5 0 [] vK vL.length = true) := fun h => by rw [shape_map hkl]; exact ascB_yes h
    rw [hkl] at hlc3
    generalize hO : Obj.cells #[.int .i64 5, .int .i64 0, .slice a2 0 p2, .slice a3 vL.length p3, .slice a4 vL.length p4] 37 = ob
    have HOb := hide' hO
    rw [hkl]
    rw [hkl] at HZ
    clear ih b0 hO hkl
    go_enter Tryz.func57, Tryz.ntmps57
    go_wp2
    go_loopw [2, 7] (fun l i wr => ∃ k : Nat, i = .int .i64 k ∧ L2K d vL deep left k l ∧ (∀ j, j < k → stepB vK j = true) ∧ Hid (Below (w.alloc ob).heap.size (w.alloc ob) wr)) (fun _ i _ => vL.length - (intOf i).toNat)
    case atStart => exact ⟨0, rfl, L2K_zero H1.out, fun j h => by omega, by rw [← HOb.out]; exact Below.refl _ _⟩
    case round =>
      obtain ⟨k, rfl, hK, hst, hbel⟩ := hrel
      have hHK := hide' hK
      have hHS := hide' hst
      obtain ⟨hk, rfl, hple, _⟩ := hK
      have hrow := box_row hbel.out
      rw [← HOb.out] at hrow
      obtain ⟨y0, y1, y2, y3, y4, _⟩ := row5 hrow
      have B := Below.on (Hb.out ob) hbel.out
      clear hrow hst
      by_cases hlt : k < vL.length
      · have hlt' : (k : Int) < (vL.length : Int) := by omega
        obtain ⟨b, off, c, rfl, h5', hv⟩ := HX.out.at B hN hlt
        obtain ⟨c0, c1, c2, c3, c4⟩ := c
        obtain ⟨q0, q1, q2, q3, q4⟩ := h5'
        simp only at q0 q1 q2 q3 q4
        have hz := B.size
        have hKr : KSeg (fun b => b < N) wr (.slice a3 vL.length p3) vK := HZ.out.agree (agree_below (B.mono hN))
        have hltK : k < vK.length := by have := HKL.out; omega
        obtain ⟨kb, ko, rfl, hat⟩ := hKr.at hltK
        clear hKr
        obtain ⟨s2, e2, hu, g2, m2⟩ := hat k hltK
        have HC : Hid (∀ wx, Below w.heap.size w wx → Calls Tryz.prog 57 #[.agg #[c0, c1, c2, c3, c4], .int .i64 ((deep : Int) + 1), .int .i64 (left - 1 - pre (partsV d) vL k)] wx fun e w' => e = .returned (.int .i64 (okI d vL[k] (deep + 1) (left - 1 - pre (partsV d) vL k))) ∧ Below wx.heap.size wx w') := by
          intro wx hx
          have := HI.out N (c0, c1, c2, c3, c4) vL[k] (deep + 1) (left - 1 - pre (partsV d) vL k) wx (hv wx hx) (by have := hx.size; omega) (by omega) (by omega) (by omega)
          rw [Int.natCast_add] at this
          exact this
        have HN : Hid (¬ (goodB d vL[k] (deep + 1) = true ∧ (partsV d vL[k] : Int) ≤ left - 1 - pre (partsV d) vL k) → okI (d + 1) (5, 0, [], vK, vL) deep left = -1) := fun h => okI_kid hlt h
        have HS : Hid (goodB d vL[k] (deep + 1) = true → (partsV d vL[k] : Int) ≤ left - 1 - pre (partsV d) vL k → L2K d vL deep left (k + 1) (.int .i64 (left - 1 - pre (partsV d) vL k - partsV d vL[k]))) := fun h h' => L2K_succ hHK.out hlt h h'
        have HNm : Hid (∀ n, Calls Tryz.prog 56 #[.slice s2 (vK.getD k []).length e2] (wr.drewN n) fun e w' => e = .returned (.bool (nameB (vK.getD k []))) ∧ wr.drewN n = w') := fun n => spec_NameOk_any s2 e2 (vK.getD k []) (wr.drewN n) g2 m2
        by_cases hn : nameB (vK.getD k []) = true
        · rw [hn] at HNm
          cases k with
          | zero =>
            have HA : Hid (∀ j, j < 0 + 1 → stepB vK j = true) := fun j hj => by
              obtain rfl : j = 0 := by omega
              simp only [stepB, hn]
              simp
            simp only [Nat.add_zero, Nat.zero_mul] at hu q0 q1 q2 q3 q4
            generalize vK.getD 0 [] = ys at *
            clear hat hn g2
            by_cases hg : goodB d vL[0] (deep + 1) = true ∧ (partsV d vL[0] : Int) ≤ left - 1 - pre (partsV d) vL 0
            · rw [okI_yes hg.1 hg.2] at HC
              have HF := hide' (HS.out hg.1 hg.2)
              have hnn : ¬ (left - 1 - pre (partsV d) vL 0 - partsV d vL[0] < 0) := by omega
              have hup : left - 1 - pre (partsV d) vL 0 - partsV d vL[0] ≤ 40 := by omega
              generalize partsV d vL[0] = q at *
              generalize pre (partsV d) vL 0 = p at *
              clear HN HS hg hv
              go_wp2_with fail
              go_quiet ((go_at_call 56; exact quiet_same (HNm.out _)))
              go_wp2_with fail
              refine (HC.out _ (below_drewN B _)).mono ?_
              rintro e w1 ⟨rfl, b1⟩
              have B1 : Hid (Below (w.alloc ob).heap.size (w.alloc ob) w1) := Below.on (below_drewN hbel.out _) b1
              clear q0 q1 q2 q3 q4 b1
              go_wp2
              go_roundw
              case rel => exact ⟨0 + 1, by go_num, HF.out, HA.out, B1⟩
              case measure => simp [intOf]; omega
            · rw [okI_no hg] at HC
              have HF := hide' (HN.out hg)
              generalize pre (partsV d) vL 0 = p at *
              clear HN HS hg hv
              go_wp2_with fail
              go_quiet ((go_at_call 56; exact quiet_same (HNm.out _)))
              go_wp2_with fail
              refine (HC.out _ (below_drewN B _)).mono ?_
              rintro e w1 ⟨rfl, b1⟩
              have B1 : Below w.heap.size w w1 := Below.on (below_drewN B _) b1
              clear q0 q1 q2 q3 q4 b1
              go_wp2
              go_ret
              exact ⟨ret_i64 (by rw [HF.out]), B1⟩
          | succ j =>
            obtain ⟨s3, e3, hu3, g3, m3⟩ := hat j (by omega)
            have hst : stepB vK (j + 1) = Op.bytesLess (strOf (vK.getD j [])).toList (strOf (vK.getD (j + 1) [])).toList := by
              rw [strOf_list, strOf_list]
              simp only [stepB, hn]
              simp [ltS]
            have hcv2 : ∀ n, (convert 22 9 (.slice s2 (vK.getD (j + 1) []).length e2)).run Tryz.prog (wr.drewN n) = .ok (.string (strOf (vK.getD (j + 1) []))) (wr.drewN n) := fun n => conv_seg (w := wr.drewN n) e2 g2
            have hcv3 : ∀ n, (convert 22 9 (.slice s3 (vK.getD j []).length e3)).run Tryz.prog (wr.drewN n) = .ok (.string (strOf (vK.getD j []))) (wr.drewN n) := fun n => conv_seg (w := wr.drewN n) e3 g3
            have hpos : (0 : Int) < ((j + 1 : Nat) : Int) := by omega
            by_cases hcmp : Op.bytesLess (strOf (vK.getD j [])).toList (strOf (vK.getD (j + 1) [])).toList = true
            · have HA : Hid (∀ i, i < j + 1 + 1 → stepB vK i = true) := fun i hi => by
                by_cases e : i = j + 1
                · subst e; rw [hst]; exact hcmp
                · exact hHS.out i (by omega)
              generalize vK.getD (j + 1) [] = ys at *
              generalize vK.getD j [] = zs at *
              clear hat hn hst g2 g3
              by_cases hg : goodB d vL[j + 1] (deep + 1) = true ∧ (partsV d vL[j + 1] : Int) ≤ left - 1 - pre (partsV d) vL (j + 1)
              · rw [okI_yes hg.1 hg.2] at HC
                have HF := hide' (HS.out hg.1 hg.2)
                have hnn : ¬ (left - 1 - pre (partsV d) vL (j + 1) - partsV d vL[j + 1] < 0) := by omega
                have hup : left - 1 - pre (partsV d) vL (j + 1) - partsV d vL[j + 1] ≤ 40 := by omega
                generalize partsV d vL[j + 1] = q at *
                generalize pre (partsV d) vL (j + 1) = p at *
                clear HN HS hg hv
                go_wp2_with fail
                go_quiet ((go_at_call 56; exact quiet_same (HNm.out _)))
                go_wp2_with fail
                refine (HC.out _ (below_drewN B _)).mono ?_
                rintro e w1 ⟨rfl, b1⟩
                have B1 : Hid (Below (w.alloc ob).heap.size (w.alloc ob) w1) := Below.on (below_drewN hbel.out _) b1
                clear q0 q1 q2 q3 q4 b1
                go_wp2
                go_roundw
                case rel => exact ⟨(j + 1) + 1, by go_num, HF.out, HA.out, B1⟩
                case measure => simp [intOf]; omega
              · rw [okI_no hg] at HC
                have HF := hide' (HN.out hg)
                generalize pre (partsV d) vL (j + 1) = p at *
                clear HN HS hg hv
                go_wp2_with fail
                go_quiet ((go_at_call 56; exact quiet_same (HNm.out _)))
                go_wp2_with fail
                refine (HC.out _ (below_drewN B _)).mono ?_
                rintro e w1 ⟨rfl, b1⟩
                have B1 : Below w.heap.size w w1 := Below.on (below_drewN B _) b1
                clear q0 q1 q2 q3 q4 b1
                go_wp2
                go_ret
                exact ⟨ret_i64 (by rw [HF.out]), B1⟩
            · have hcmp' : Op.bytesLess (strOf (vK.getD j [])).toList (strOf (vK.getD (j + 1) [])).toList = false := by simpa using hcmp
              have HF := hide' (HNo.out (j + 1) hltK (by rw [hst]; exact hcmp'))
              generalize vK.getD (j + 1) [] = ys at *
              generalize vK.getD j [] = zs at *
              clear hat hn hst g2 g3 HC HN HS hcmp hv
              go_wp2_with fail
              go_quiet ((go_at_call 56; exact quiet_same (HNm.out _)))
              go_wp2
              go_ret
              exact ⟨ret_i64 (by rw [HF.out]), below_drewN B _⟩
        · have hn' : nameB (vK.getD k []) = false := by simpa using hn
          rw [hn'] at HNm
          have HF := hide' (HNo.out k hltK (by unfold stepB; rw [hn']; rfl))
          generalize vK.getD k [] = ys at *
          clear hat hn hn' g2 HC HN HS hv
          go_wp2_with fail
          go_quiet ((go_at_call 56; exact quiet_same (HNm.out _)))
          go_wp2
          go_ret
          exact ⟨ret_i64 (by rw [HF.out]), below_drewN B _⟩
      · have hkn : k = vL.length := by omega
        have hlt' : ¬ (k : Int) < (vL.length : Int) := by omega
        have HF : Hid (okI (d + 1) (5, 0, [], vK, vL) deep left = left - 1 - pre (partsV d) vL k) := by
          show okI (d + 1) (5, 0, [], vK, vL) deep left = _
          rw [okI_all H3.out (HYes.out fun i hi => hHS.out i (by have := HKL.out; omega)) (fun j h => hHK.out.2.2.2 j h (by omega)) (by rw [← hkn]; exact hple), ← hkn]
        clear hkn
        go_wp2
        go_ret
        exact ⟨ret_i64 (by rw [HF.out]), B⟩
  · have HF := hide' (okI_shape (d := d) (vL := vL) deep left (shape_map_no hkl))
    have hne : ¬ (vK.length : Int) = (vL.length : Int) := by omega
    clear ih
    go_enter Tryz.func57, Tryz.ntmps57
    go_wp2
    go_ret
    exact ⟨ret_i64 (by rw [HF.out]), Hb.out _⟩
end Go.Proofs.YtbmgkmnibjdpiaaGreatDoor
/-
  l2ok and ValOk of the specification, at every value.
-/
namespace Go.Proofs.YtbmgkmnibjdpiaaGreatDoor
open Go.RowKit
set_option linter.unusedVariables false
set_option linter.unusedSimpArgs false

theorem okI_leaf_sel {d : Nat} {vk vn : Int} {vs : List Int} {vK : List (List Int)} {deep : Nat} {left : Int} (p : Bool) (h1 : deep ≤ 5) (h2 : shapeB vk vn vs vK 0 = p) (h4 : 1 ≤ left) : okI (d + 1) (vk, vn, vs, vK, []) deep left = sel p (left - 1) := by
  cases p with
  | true => rw [okI_leaf h1 h2 h4]; rfl
  | false => rw [okI_shape (d := d) (vL := []) deep left (by simpa using h2)]; rfl

set_option maxHeartbeats 1600000 in
theorem l2ok_succ (d : Nat) (ih : OkAt d) : OkAt (d + 1) := by
  intro N c v deep left w hv hN hd h0 h1
  obtain ⟨c0, c1, c2, c3, c4⟩ := c
  obtain ⟨vk, vn, vs, vK, vL⟩ := v
  obtain ⟨e0, e1, ht, hk, hl⟩ := (VSeg_succ _ _ _ _ _).1 hv
  simp only at e0 e1 ht hk hl
  subst e0
  subst e1
  clear hv
  simp only
  have HK := hk
  have HL := hl
  obtain ⟨a2, p2, rfl, s2, l2, m2, _, _⟩ := ht
  obtain ⟨a3, p3, rfl, _, _, _, _⟩ := hk
  obtain ⟨a4, p4, rfl, _, _, _, _⟩ := hl
  by_cases q1 : left < 1
  · exact (l2ok_left _ _ _ _ _ _ _ _ _ _ _ deep left w q1 h0).mono fun e w' h => ⟨h.1.trans (ret_i64 (okI_left _ deep q1).symm), h.2⟩
  by_cases q2 : 5 < deep
  · exact (l2ok_deep _ _ _ _ _ _ _ _ _ _ _ deep left w (by omega) h1 q2).mono fun e w' h => ⟨h.1.trans (ret_i64 (okI_deep _ left q2).symm), h.2⟩
  by_cases q3 : bareB vk vn vs.length vK.length vL.length = false
  · exact (l2ok_bare _ _ _ _ _ _ _ _ _ _ _ deep left w (by omega) h1 (by omega) q3).mono fun e w' h => ⟨h.1.trans (ret_i64 (okI_bare deep left q3).symm), h.2⟩
  have q4 : bareB vk vn vs.length vK.length vL.length = true := by simpa using q3
  have hL1 : 1 ≤ left := by omega
  have hD1 : deep ≤ 5 := by omega
  clear q1 q2 q3
  by_cases k0 : vk = 0 ∨ vk = 6
  · have : vn = 0 ∧ vs = [] ∧ vK = [] ∧ vL = [] := by rcases k0 with rfl | rfl <;> · simp [bareB] at q4; simpa [and_assoc] using q4
    obtain ⟨rfl, rfl, rfl, rfl⟩ := this
    exact (l2ok_null vk k0 _ _ _ _ _ _ deep left w hL1 h1 hD1).mono fun e w' h => ⟨h.1.trans (ret_i64 (okI_leaf_sel true hD1 (by rcases k0 with rfl | rfl <;> simp [shapeB, bareB]) hL1).symm), h.2⟩
  by_cases k1 : vk = 1
  · subst k1
    have : vs = [] ∧ vK = [] ∧ vL = [] := by simp [bareB] at q4; simpa [and_assoc] using q4
    obtain ⟨rfl, rfl, rfl⟩ := this
    exact (l2ok_bool vn _ _ _ _ _ _ deep left w hL1 h1 hD1).mono fun e w' h => ⟨h.1.trans (ret_i64 (okI_leaf_sel (decide (vn = 0) || decide (vn = 1)) hD1 (by simp [shapeB, bareB]) hL1).symm), h.2⟩
  by_cases k2 : vk = 2
  · subst k2
    have : vs = [] ∧ vK = [] ∧ vL = [] := by simp [bareB] at q4; simpa [and_assoc] using q4
    obtain ⟨rfl, rfl, rfl⟩ := this
    exact (l2ok_int vn _ _ _ _ _ _ deep left w hL1 h1 hD1).mono fun e w' h => ⟨h.1.trans (ret_i64 (okI_leaf_sel (intB vn) hD1 (by simp [shapeB, bareB]) hL1).symm), h.2⟩
  by_cases k3 : vk = 3
  · subst k3
    have : vn = 0 ∧ vK = [] ∧ vL = [] := by simp [bareB] at q4; simpa [and_assoc] using q4
    obtain ⟨rfl, rfl, rfl⟩ := this
    exact (l2ok_text vs _ _ _ _ _ _ deep left w s2 (by omega) hL1 h1 hD1).mono fun e w' h => ⟨h.1.trans (ret_i64 (okI_leaf_sel (textB vs) hD1 (by simp [shapeB, bareB]) hL1).symm), h.2⟩
  by_cases k4 : vk = 4
  · subst k4
    have : vn = 0 ∧ vs = [] ∧ vK = [] := by simp [bareB] at q4; simpa [and_assoc] using q4
    obtain ⟨rfl, rfl, rfl⟩ := this
    exact l2ok_list d ih N vL _ _ _ _ _ deep left w HL hN hL1 h1 hD1
  by_cases k5 : vk = 5
  · subst k5
    have : vn = 0 ∧ vs = [] := by simp [bareB] at q4; simpa [and_assoc] using q4
    obtain ⟨rfl, rfl⟩ := this
    exact l2ok_map d ih N vK vL _ _ _ _ deep left w HK HL hN hL1 h1 hD1
  · have : vn = 0 ∧ vs = [] ∧ vK = [] ∧ vL = [] := by simp [bareB, k1, k2, k3, k4, k5] at q4; simpa [and_assoc] using q4
    obtain ⟨rfl, rfl, rfl, rfl⟩ := this
    have k6 : ¬ vk = 6 := fun e => k0 (.inr e)
    have k0' : ¬ vk = 0 := fun e => k0 (.inl e)
    exact (l2ok_none vk k0' k1 k2 k3 k4 k5 k6 _ _ _ _ _ _ deep left w hL1 h1 hD1).mono fun e w' h => ⟨h.1.trans (ret_i64 (okI_leaf_sel false hD1 (by simp [shapeB, bareB, k0', k1, k2, k3, k4, k5, k6]) hL1).symm), h.2⟩

theorem l2ok_any (d : Nat) : OkAt d := by
  induction d with
  | zero => intro N c v deep left w hv; exact hv.elim
  | succ d ih => exact l2ok_succ d ih

/-- What ValOk answers. -/
def okB (d : Nat) (v : Vl d) : Bool := goodB d v 1 && decide (partsV d v ≤ 40)

theorem okI_okB (d : Nat) (v : Vl d) : (okB d v = true → 0 ≤ okI d v 1 40 ∧ okI d v 1 40 ≤ 40) ∧ (okB d v = false → okI d v 1 40 = -1) := by
  constructor
  · intro h
    simp [okB] at h
    rw [okI_yes h.1 (by omega)]
    omega
  · intro h
    refine okI_no fun ⟨h1, h2⟩ => ?_
    simp [okB, h1] at h
    omega

set_option maxHeartbeats 1600000 in
theorem spec_ValOk_any (d N : Nat) (c0 c1 c2 c3 c4 : Value) (v : Vl d) (w : World) (hv : VSeg (fun b => b < N) w d (c0, c1, c2, c3, c4) v) (hN : N ≤ w.heap.size) :
    Calls Tryz.prog 41 #[.agg #[c0, c1, c2, c3, c4]] w fun e w' => e = .returned (.bool (okB d v)) ∧ Below w.heap.size w w' := by
  have b0 : ∀ o : Obj, Below w.heap.size w (w.alloc o) := fun o => (Below.refl _ _).alloc (Nat.le_refl _) o
  have HC : Hid (∀ o : Obj, Calls Tryz.prog 57 #[.agg #[c0, c1, c2, c3, c4], .int .i64 1, .int .i64 40] (w.alloc o) fun e w' => e = .returned (.int .i64 (okI d v 1 40)) ∧ Below (w.alloc o).heap.size (w.alloc o) w') := fun o =>
    l2ok_any d N (c0, c1, c2, c3, c4) v 1 40 (w.alloc o) (VSeg.agree (agree_below ((b0 o).mono hN)) d hv) (by have := (b0 o).size; omega) (by omega) (by omega) (by omega)
  have Hb := hide' b0
  have hq := okI_okB d v
  clear b0
  cases hb : okB d v with
  | true =>
    obtain ⟨h1, h2⟩ := hq.1 hb
    generalize okI d v 1 40 = q at *
    clear hq hb
    go_enter Tryz.func41, Tryz.ntmps41
    go_wp2_with fail
    refine (HC.out _).mono ?_
    rintro e w1 ⟨rfl, b1⟩
    have B1 := Below.on (Hb.out _) b1
    clear b1
    go_wp2
    go_ret
    exact ⟨rfl, B1⟩
  | false =>
    have h1 := hq.2 hb
    rw [h1] at HC
    clear hq hb h1
    go_enter Tryz.func41, Tryz.ntmps41
    go_wp2_with fail
    refine (HC.out _).mono ?_
    rintro e w1 ⟨rfl, b1⟩
    have B1 := Below.on (Hb.out _) b1
    clear b1
    go_wp2
    go_ret
    exact ⟨rfl, B1⟩
end Go.Proofs.YtbmgkmnibjdpiaaGreatDoor
