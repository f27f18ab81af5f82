/-
  FnAddrs answers true, whatever code it is handed, where the library's two sentinels hold something; it makes new memory and turns nothing old.
-/
import Derived.Test.YthmljjebggljmaaDoorDrwB
import Derived.Lib.SlBytesConst
namespace Go.Proofs.YthmljjebggljmaaDoor
open Go.RowKit
set_option linter.unusedVariables false
set_option linter.unusedSimpArgs false

theorem web1_ok : addrB [119, 101, 98, 91, 49, 93] = true := by decide

/-- AddrOk, AddrName in whatever later world. -/
theorem okAt {w wx : World} {v : Value} {xs : List Int} {B : Nat} (hT : Txt B w v xs) (hl : xs.length ≤ 1000) (hE : Errs w) (hb : Below w.heap.size w wx) : Calls Tryd.prog 13 #[v] wx fun e w' => e = .returned (.bool (addrB xs)) ∧ Below w.heap.size wx w' := by
  obtain ⟨a, cap, rfl, hs, h3, h4, h5, _⟩ := hT
  exact (impl_AddrOk_any a cap xs wx (hs.grow hb) (by omega) h3 h4 h5 (hE.grow hb)).mono fun e w' ⟨h, k⟩ => ⟨h, k.mono hb.size⟩
theorem nameAt {w wx : World} {v : Value} {xs : List Int} {B : Nat} (hT : Txt B w v xs) (hl : xs.length ≤ 1000) (hE : Errs w) (hb : Below w.heap.size w wx) : Calls Tryd.prog 15 #[v] wx fun e w' => ∃ v', e = .returned v' ∧ Bts w' wx.heap.size v' (addrN xs) ∧ Below w.heap.size wx w' := by
  obtain ⟨a, cap, rfl, hs, h3, h4, h5, _⟩ := hT
  exact (impl_AddrName_any a cap xs wx (hs.grow hb) (by omega) h3 h4 h5 (hE.grow hb)).mono fun e w' ⟨v', h, h1, k⟩ => ⟨v', h, h1, k.mono hb.size⟩
theorem isNameAt {w wx : World} {v : Value} {xs : List Int} {B : Nat} (hT : Txt B w v xs) (hl : xs.length ≤ 1000) (hb : Below w.heap.size w wx) : Calls Tryd.prog 12 #[v] wx fun e w' => e = .returned (.bool (nameB xs)) ∧ wx = w' := by
  obtain ⟨a, cap, rfl, hs, h3, h4, h5, _⟩ := hT
  exact impl_NameOk_any a cap xs wx (hs.grow hb) (by unfold maxLen; omega)
theorem sameAt {w wx : World} {v : Value} {xs : List Int} {B : Nat} (hT : Txt B w v xs) (hb : Below w.heap.size w wx) (a : Option Addr) (c : Nat) (hs : Seg wx a xs) : Calls Tryd.prog 14 #[.slice a xs.length c, v] wx fun e w' => e = .returned (.bool true) ∧ wx = w' := by
  obtain ⟨b, cap, rfl, ht, _⟩ := hT
  have := sameBytes_any a b c cap xs xs wx hs (ht.grow hb)
  rw [decide_eq_true rfl] at this
  exact this
theorem webAt {w wx : World} (hE : Errs w) (hb : Below w.heap.size w wx) : Calls Tryd.prog 13 #[.slice (some ⟨wx.heap.size, 0, none⟩) 6 6] (wx.alloc (.cells #[.int .u8 119, .int .u8 101, .int .u8 98, .int .u8 91, .int .u8 49, .int .u8 93] 5 (6, 7))) fun e w' => e = .returned (.bool true) ∧ Below w.heap.size w w' := by
  have hb1 : Below w.heap.size w (wx.alloc (.cells #[.int .u8 119, .int .u8 101, .int .u8 98, .int .u8 91, .int .u8 49, .int .u8 93] 5 (6, 7))) := hb.alloc hb.size _
  have hs : Seg (wx.alloc (.cells #[.int .u8 119, .int .u8 101, .int .u8 98, .int .u8 91, .int .u8 49, .int .u8 93] 5 (6, 7))) (some ⟨wx.heap.size, 0, none⟩) [119, 101, 98, 91, 49, 93] := by
    refine ⟨by simp [Byt], .inr ⟨wx.heap.size, 0, rfl, fun i hi => ?_⟩⟩
    rw [Nat.zero_add, cell_of_row _ wx.heap.size i _ 5 (6, 7) (heap_alloc_new wx _)]
    have hi' : i < 6 := by simpa using hi
    obtain rfl | rfl | rfl | rfl | rfl | rfl : i = 0 ∨ i = 1 ∨ i = 2 ∨ i = 3 ∨ i = 4 ∨ i = 5 := by omega
    all_goals rfl
  refine (impl_AddrOk_any _ 6 _ _ hs (by simp) (by simp) (by unfold maxLen; omega) (by simp) (hE.grow hb1)).mono fun e w' ⟨h, k⟩ => ⟨by rw [h, web1_ok], ?_⟩
  exact hb1.trans (k.mono (Nat.le_trans hb.size (by simp)))

set_option maxHeartbeats 6400000 in
set_option maxRecDepth 100000 in
theorem walk_FnAddrs (a : Option Addr) (cap : Nat) (cs : List Int) (w : World) (ha : Seg w a cs) (hl : cs.length ≤ maxLen) (hE : Errs w) :
    Calls Tryd.prog 3 #[.slice a cs.length cap] w fun e w' => e = .returned (.bool true) ∧ Below w.heap.size w w' := by
  have HD1 := hide' (DrawAddrItem_any a cap cs w ha hl)
  have HD2 : Hid (∀ wx, Below w.heap.size w wx → _) := fun wx b => DrawAddrKey_any a cap cs wx (ha.grow b) hl
  have HD3 : Hid (∀ wx, Below w.heap.size w wx → _) := fun wx b => DrawAddrOk_any a cap cs wx (ha.grow b) hl
  generalize cs.length = cn at *
  clear ha
  go_enter Tryd.func3, Tryd.ntmps3
  go_wp2_with fail
  refine HD1.out.mono ?_
  rintro e w1 ⟨v1, xs, z, rfl, hT1, hx9, b1⟩
  clear HD1
  go_wp2_with fail
  refine (HD2.out _ b1).mono ?_
  rintro e w2 ⟨v2, v3, ns, ks, rfl, hT2, hT3, hns, hk9, b2⟩
  have B2 := Below.on b1 b2
  replace hT1 := hT1.grow b2
  clear HD2 b1 b2
  have HI : Hid (Calls Tryd.prog 9 #[v1, .int .i64 z] w2 fun e w' => ∃ v, e = .returned v ∧ Bts w' w2.heap.size v (addrItem xs z) ∧ Below w2.heap.size w2 w') := by
    obtain ⟨a1, c1, rfl, hs, _, _, h5, _⟩ := hT1
    exact impl_AddrItem_any a1 c1 xs z w2 hs h5 (by unfold maxLen; omega)
  go_wp2_with fail
  refine HI.out.mono ?_
  rintro e w3 ⟨vA, rfl, hA, b3⟩
  have B3 := Below.on B2 b3
  replace hT1 := hT1.grow b3
  replace hT2 := hT2.grow b3
  replace hT3 := hT3.grow b3
  clear HI b3
  have HK : Hid (Calls Tryd.prog 10 #[v2, v3] w3 fun e w' => ∃ v, e = .returned v ∧ Bts w' w3.heap.size v (addrKey ns ks) ∧ Below w3.heap.size w3 w') := by
    obtain ⟨a1, c1, rfl, hs, _, _, h5, _⟩ := hT2
    obtain ⟨a2, c2, rfl, hs2, _, _, h6, _⟩ := hT3
    have := nameB_le8 hns
    exact impl_AddrKey_any a1 a2 c1 c2 ns ks w3 hs hs2 h5 h6 (by omega) (by omega)
  go_wp2_with fail
  refine HK.out.mono ?_
  rintro e w4 ⟨vB, rfl, hB, b4⟩
  have B4 := Below.on B3 b4
  replace hT1 := hT1.grow b4
  replace hT2 := hT2.grow b4
  replace hT3 := hT3.grow b4
  replace hA := hA.grow b4
  clear HK b4
  go_wp2_with fail
  refine (HD3.out _ B4).mono ?_
  rintro e w5 ⟨vC, cx, rfl, hTC, hc30, b5⟩
  have B5 := Below.on B4 b5
  have hE5 := hE.grow B5
  replace hT1 := hT1.grow b5
  replace hT2 := hT2.grow b5
  replace hT3 := hT3.grow b5
  replace hA := (hA.grow b5).txt
  replace hB := (hB.grow b5).txt
  have hlA := addrItem_len xs z
  have hlB := addrKey_len ns ks
  have HNn : Hid (∀ wx, Below w5.heap.size w5 wx → _) := fun wx b => isNameAt hT1 (by omega) b
  have HNk : Hid (∀ wx, Below w5.heap.size w5 wx → _) := fun wx b => isNameAt hT3 (by omega) b
  have HOkA : Hid (∀ wx, Below w5.heap.size w5 wx → _) := fun wx b => okAt hA (by omega) hE5 b
  have HNmA : Hid (∀ wx, Below w5.heap.size w5 wx → _) := fun wx b => nameAt hA (by omega) hE5 b
  have HOkB : Hid (∀ wx, Below w5.heap.size w5 wx → _) := fun wx b => okAt hB (by omega) hE5 b
  have HNmB : Hid (∀ wx, Below w5.heap.size w5 wx → _) := fun wx b => nameAt hB (by omega) hE5 b
  have HOkC : Hid (∀ wx, Below w5.heap.size w5 wx → _) := fun wx b => okAt hTC (by omega) hE5 b
  have HNmC : Hid (∀ wx, Below w5.heap.size w5 wx → _) := fun wx b => nameAt hTC (by omega) hE5 b
  have HSmX : Hid (∀ wx, Below w5.heap.size w5 wx → _) := fun wx b => sameAt hT1 b
  have HSmN : Hid (∀ wx, Below w5.heap.size w5 wx → _) := fun wx b => sameAt hT2 b
  have HWeb : Hid (∀ wx, Below w5.heap.size w5 wx → _) := fun wx b => webAt hE5 b
  have HlC : Hid (addrB cx = decide (0 < (addrN cx).length)) := (addrN_len cx).symm
  have HBel : Hid (∀ wx, Below w5.heap.size w5 wx → Below w.heap.size w wx) := fun wx b => Below.on B5 b
  have hsA : ∃ aA cA, vA = .slice aA (addrItem xs z).length cA := by obtain ⟨aA, cA, e, _⟩ := hA; exact ⟨aA, cA, e⟩
  obtain ⟨aA, cA, rfl⟩ := hsA
  have B0 : Below w5.heap.size w5 w5 := Below.refl _ _
  clear hT1 hT2 hT3 hA hB hTC b5 HD3 B4 B3 B2 hE5 hlB hlA
  go_wp2_with fail
  refine (HNn.out _ B0).mono ?_
  rintro e w6 ⟨rfl, rfl⟩
  cases hnx : nameB xs with
  | false =>
    have hA0 : addrItem xs z = [] := addrItem_no xs z (by rw [hnx]; simp)
    rw [hA0] at *
    go_wp2_with fail
    refine (HNn.out _ B0).mono ?_
    rintro e w6 ⟨rfl, rfl⟩
    rw [hnx]
    go_wp2_with fail
    refine (HNk.out _ B0).mono ?_
    rintro e wk ⟨rfl, rfl⟩
    cases hkn : nameB ks with
    | false =>
      go_wp2_with fail
      refine (HOkC.out _ B0).mono ?_
      rintro e wc ⟨rfl, bc⟩
      have Bc := B0.trans bc
      go_wp2_with fail
      refine (HNmC.out _ Bc).mono ?_
      rintro e wd ⟨vd, rfl, hvd, bd⟩
      have Bd := Bc.trans bd
      obtain ⟨ad, cd, rfl, _⟩ := hvd.shape
      have hlc := HlC.out
      have HW := hide' (HWeb.out _ Bd)
      clear hvd bc bd
      generalize addrB cx = bb at *
      generalize (addrN cx).length = ll at *
      have hbb : (bb == decide (0 < ll)) = true := by rw [hlc]; simp
      have hcv := Lib.run_convert_bytes_const (P := Tryd.prog) wd 22 5 #[.int .u8 119, .int .u8 101, .int .u8 98, .int .u8 91, .int .u8 49, .int .u8 93] 6 6 Tryd.underlying22 Tryd.underlying5
      go_wp2_with fail
      refine HW.out.mono ?_
      rintro e we ⟨rfl, be⟩
      go_wp2
      go_ret
      exact ⟨by first | rfl | simp [hbb], HBel.out _ be⟩
    | true =>
      have HnB := hide' (addr_key hns hkn)
      go_wp2_with fail
      refine (HOkB.out _ B0).mono ?_
      rintro e w7 ⟨rfl, b7⟩
      rw [HnB.out.1]
      have B7 := B0.trans b7
      go_wp2_with fail
      refine (HNmB.out _ B7).mono ?_
      rintro e w8 ⟨v8, rfl, hv8, b8⟩
      have B8 := B7.trans b8
      rw [HnB.out.2] at hv8
      obtain ⟨a8, c8, rfl, _⟩ := hv8.shape
      have HSm := hide' (HSmN.out _ B8 a8 c8 hv8.seg)
      clear hv8 b7 b8
      go_wp2_with fail
      refine HSm.out.mono ?_
      rintro e w9 ⟨rfl, rfl⟩
      go_wp2_with fail
      refine (HOkC.out _ B8).mono ?_
      rintro e wc ⟨rfl, bc⟩
      have Bc := B8.trans bc
      go_wp2_with fail
      refine (HNmC.out _ Bc).mono ?_
      rintro e wd ⟨vd, rfl, hvd, bd⟩
      have Bd := Bc.trans bd
      obtain ⟨ad, cd, rfl, _⟩ := hvd.shape
      have hlc := HlC.out
      have HW := hide' (HWeb.out _ Bd)
      clear hvd bc bd
      generalize addrB cx = bb at *
      generalize (addrN cx).length = ll at *
      have hbb : (bb == decide (0 < ll)) = true := by rw [hlc]; simp
      have hcv := Lib.run_convert_bytes_const (P := Tryd.prog) wd 22 5 #[.int .u8 119, .int .u8 101, .int .u8 98, .int .u8 91, .int .u8 49, .int .u8 93] 6 6 Tryd.underlying22 Tryd.underlying5
      go_wp2_with fail
      refine HW.out.mono ?_
      rintro e we ⟨rfl, be⟩
      go_wp2
      go_ret
      exact ⟨by first | rfl | simp [hbb], HBel.out _ be⟩
  | true =>
    by_cases hz0 : 0 ≤ z
    · by_cases hz1 : z ≤ 99
      · have HnA := hide' (addr_item hnx hz0 hz1)
        have hlp : ∃ q : Nat, (addrItem xs z).length = q + 1 := by
          cases h : addrItem xs z with
          | nil => rw [h] at HnA; exact absurd HnA.out.1 (by decide)
          | cons y t => exact ⟨t.length, rfl⟩
        obtain ⟨q, hq⟩ := hlp
        have HQ := hide' hq
        rw [hq]
        clear hq
        have hq' : ((q : Int) + 1 == 0) = false := by simp; omega
        go_wp2_with fail
        have h7 := HOkA.out _ B0
        rw [HQ.out] at h7
        refine h7.mono ?_
        rintro e w7 ⟨rfl, b7⟩
        rw [HnA.out.1]
        have B7 := B0.trans b7
        go_wp2_with fail
        have h8 := HNmA.out _ B7
        rw [HQ.out] at h8
        refine h8.mono ?_
        rintro e w8 ⟨v8, rfl, hv8, b8⟩
        have B8' := B7.trans b8
        rw [HnA.out.2] at hv8
        obtain ⟨a8, c8, rfl, _⟩ := hv8.shape
        have HSm := hide' (HSmX.out _ B8' a8 c8 hv8.seg)
        clear hv8 b7 b8 h7 h8
        go_wp2_with fail
        refine HSm.out.mono ?_
        rintro e w9 ⟨rfl, rfl⟩
        go_wp2_with fail
        refine (HNk.out _ B8').mono ?_
        rintro e wk ⟨rfl, rfl⟩
        cases hkn : nameB ks with
        | false =>
          go_wp2_with fail
          refine (HOkC.out _ B8').mono ?_
          rintro e wc ⟨rfl, bc⟩
          have Bc := B8'.trans bc
          go_wp2_with fail
          refine (HNmC.out _ Bc).mono ?_
          rintro e wd ⟨vd, rfl, hvd, bd⟩
          have Bd := Bc.trans bd
          obtain ⟨ad, cd, rfl, _⟩ := hvd.shape
          have hlc := HlC.out
          have HW := hide' (HWeb.out _ Bd)
          clear hvd bc bd
          generalize addrB cx = bb at *
          generalize (addrN cx).length = ll at *
          have hbb : (bb == decide (0 < ll)) = true := by rw [hlc]; simp
          have hcv := Lib.run_convert_bytes_const (P := Tryd.prog) wd 22 5 #[.int .u8 119, .int .u8 101, .int .u8 98, .int .u8 91, .int .u8 49, .int .u8 93] 6 6 Tryd.underlying22 Tryd.underlying5
          go_wp2_with fail
          refine HW.out.mono ?_
          rintro e we ⟨rfl, be⟩
          go_wp2
          go_ret
          exact ⟨by first | rfl | simp [hbb], HBel.out _ be⟩
        | true =>
          have HnB := hide' (addr_key hns hkn)
          go_wp2_with fail
          refine (HOkB.out _ B8').mono ?_
          rintro e w7 ⟨rfl, b7⟩
          rw [HnB.out.1]
          have B7 := B8'.trans b7
          go_wp2_with fail
          refine (HNmB.out _ B7).mono ?_
          rintro e w8 ⟨v8, rfl, hv8, b8⟩
          have B8 := B7.trans b8
          rw [HnB.out.2] at hv8
          obtain ⟨a8, c8, rfl, _⟩ := hv8.shape
          have HSm := hide' (HSmN.out _ B8 a8 c8 hv8.seg)
          clear hv8 b7 b8
          go_wp2_with fail
          refine HSm.out.mono ?_
          rintro e w9 ⟨rfl, rfl⟩
          go_wp2_with fail
          refine (HOkC.out _ B8).mono ?_
          rintro e wc ⟨rfl, bc⟩
          have Bc := B8.trans bc
          go_wp2_with fail
          refine (HNmC.out _ Bc).mono ?_
          rintro e wd ⟨vd, rfl, hvd, bd⟩
          have Bd := Bc.trans bd
          obtain ⟨ad, cd, rfl, _⟩ := hvd.shape
          have hlc := HlC.out
          have HW := hide' (HWeb.out _ Bd)
          clear hvd bc bd
          generalize addrB cx = bb at *
          generalize (addrN cx).length = ll at *
          have hbb : (bb == decide (0 < ll)) = true := by rw [hlc]; simp
          have hcv := Lib.run_convert_bytes_const (P := Tryd.prog) wd 22 5 #[.int .u8 119, .int .u8 101, .int .u8 98, .int .u8 91, .int .u8 49, .int .u8 93] 6 6 Tryd.underlying22 Tryd.underlying5
          go_wp2_with fail
          refine HW.out.mono ?_
          rintro e we ⟨rfl, be⟩
          go_wp2
          go_ret
          exact ⟨by first | rfl | simp [hbb], HBel.out _ be⟩
      · have hA0 : addrItem xs z = [] := addrItem_no xs z (by omega)
        have hz1' : ¬ z ≤ 99 := hz1
        rw [hA0] at *
        have hz2 : (z == 1) = false := by simp; omega
        go_wp2_with fail
        refine (HNn.out _ B0).mono ?_
        rintro e w6 ⟨rfl, rfl⟩
        rw [hnx]
        go_wp2_with fail
        refine (HNk.out _ B0).mono ?_
        rintro e wk ⟨rfl, rfl⟩
        cases hkn : nameB ks with
        | false =>
          go_wp2_with fail
          refine (HOkC.out _ B0).mono ?_
          rintro e wc ⟨rfl, bc⟩
          have Bc := B0.trans bc
          go_wp2_with fail
          refine (HNmC.out _ Bc).mono ?_
          rintro e wd ⟨vd, rfl, hvd, bd⟩
          have Bd := Bc.trans bd
          obtain ⟨ad, cd, rfl, _⟩ := hvd.shape
          have hlc := HlC.out
          have HW := hide' (HWeb.out _ Bd)
          clear hvd bc bd
          generalize addrB cx = bb at *
          generalize (addrN cx).length = ll at *
          have hbb : (bb == decide (0 < ll)) = true := by rw [hlc]; simp
          have hcv := Lib.run_convert_bytes_const (P := Tryd.prog) wd 22 5 #[.int .u8 119, .int .u8 101, .int .u8 98, .int .u8 91, .int .u8 49, .int .u8 93] 6 6 Tryd.underlying22 Tryd.underlying5
          go_wp2_with fail
          refine HW.out.mono ?_
          rintro e we ⟨rfl, be⟩
          go_wp2
          go_ret
          exact ⟨by first | rfl | simp [hbb], HBel.out _ be⟩
        | true =>
          have HnB := hide' (addr_key hns hkn)
          go_wp2_with fail
          refine (HOkB.out _ B0).mono ?_
          rintro e w7 ⟨rfl, b7⟩
          rw [HnB.out.1]
          have B7 := B0.trans b7
          go_wp2_with fail
          refine (HNmB.out _ B7).mono ?_
          rintro e w8 ⟨v8, rfl, hv8, b8⟩
          have B8 := B7.trans b8
          rw [HnB.out.2] at hv8
          obtain ⟨a8, c8, rfl, _⟩ := hv8.shape
          have HSm := hide' (HSmN.out _ B8 a8 c8 hv8.seg)
          clear hv8 b7 b8
          go_wp2_with fail
          refine HSm.out.mono ?_
          rintro e w9 ⟨rfl, rfl⟩
          go_wp2_with fail
          refine (HOkC.out _ B8).mono ?_
          rintro e wc ⟨rfl, bc⟩
          have Bc := B8.trans bc
          go_wp2_with fail
          refine (HNmC.out _ Bc).mono ?_
          rintro e wd ⟨vd, rfl, hvd, bd⟩
          have Bd := Bc.trans bd
          obtain ⟨ad, cd, rfl, _⟩ := hvd.shape
          have hlc := HlC.out
          have HW := hide' (HWeb.out _ Bd)
          clear hvd bc bd
          generalize addrB cx = bb at *
          generalize (addrN cx).length = ll at *
          have hbb : (bb == decide (0 < ll)) = true := by rw [hlc]; simp
          have hcv := Lib.run_convert_bytes_const (P := Tryd.prog) wd 22 5 #[.int .u8 119, .int .u8 101, .int .u8 98, .int .u8 91, .int .u8 49, .int .u8 93] 6 6 Tryd.underlying22 Tryd.underlying5
          go_wp2_with fail
          refine HW.out.mono ?_
          rintro e we ⟨rfl, be⟩
          go_wp2
          go_ret
          exact ⟨by first | rfl | simp [hbb], HBel.out _ be⟩
    · have hA0 : addrItem xs z = [] := addrItem_no xs z (by omega)
      rw [hA0] at *
      have hz2 : (z == 1) = false := by simp; omega
      go_wp2_with fail
      refine (HNn.out _ B0).mono ?_
      rintro e w6 ⟨rfl, rfl⟩
      rw [hnx]
      go_wp2_with fail
      refine (HNk.out _ B0).mono ?_
      rintro e wk ⟨rfl, rfl⟩
      cases hkn : nameB ks with
      | false =>
        go_wp2_with fail
        refine (HOkC.out _ B0).mono ?_
        rintro e wc ⟨rfl, bc⟩
        have Bc := B0.trans bc
        go_wp2_with fail
        refine (HNmC.out _ Bc).mono ?_
        rintro e wd ⟨vd, rfl, hvd, bd⟩
        have Bd := Bc.trans bd
        obtain ⟨ad, cd, rfl, _⟩ := hvd.shape
        have hlc := HlC.out
        have HW := hide' (HWeb.out _ Bd)
        clear hvd bc bd
        generalize addrB cx = bb at *
        generalize (addrN cx).length = ll at *
        have hbb : (bb == decide (0 < ll)) = true := by rw [hlc]; simp
        have hcv := Lib.run_convert_bytes_const (P := Tryd.prog) wd 22 5 #[.int .u8 119, .int .u8 101, .int .u8 98, .int .u8 91, .int .u8 49, .int .u8 93] 6 6 Tryd.underlying22 Tryd.underlying5
        go_wp2_with fail
        refine HW.out.mono ?_
        rintro e we ⟨rfl, be⟩
        go_wp2
        go_ret
        exact ⟨by first | rfl | simp [hbb], HBel.out _ be⟩
      | true =>
        have HnB := hide' (addr_key hns hkn)
        go_wp2_with fail
        refine (HOkB.out _ B0).mono ?_
        rintro e w7 ⟨rfl, b7⟩
        rw [HnB.out.1]
        have B7 := B0.trans b7
        go_wp2_with fail
        refine (HNmB.out _ B7).mono ?_
        rintro e w8 ⟨v8, rfl, hv8, b8⟩
        have B8 := B7.trans b8
        rw [HnB.out.2] at hv8
        obtain ⟨a8, c8, rfl, _⟩ := hv8.shape
        have HSm := hide' (HSmN.out _ B8 a8 c8 hv8.seg)
        clear hv8 b7 b8
        go_wp2_with fail
        refine HSm.out.mono ?_
        rintro e w9 ⟨rfl, rfl⟩
        go_wp2_with fail
        refine (HOkC.out _ B8).mono ?_
        rintro e wc ⟨rfl, bc⟩
        have Bc := B8.trans bc
        go_wp2_with fail
        refine (HNmC.out _ Bc).mono ?_
        rintro e wd ⟨vd, rfl, hvd, bd⟩
        have Bd := Bc.trans bd
        obtain ⟨ad, cd, rfl, _⟩ := hvd.shape
        have hlc := HlC.out
        have HW := hide' (HWeb.out _ Bd)
        clear hvd bc bd
        generalize addrB cx = bb at *
        generalize (addrN cx).length = ll at *
        have hbb : (bb == decide (0 < ll)) = true := by rw [hlc]; simp
        have hcv := Lib.run_convert_bytes_const (P := Tryd.prog) wd 22 5 #[.int .u8 119, .int .u8 101, .int .u8 98, .int .u8 91, .int .u8 49, .int .u8 93] 6 6 Tryd.underlying22 Tryd.underlying5
        go_wp2_with fail
        refine HW.out.mono ?_
        rintro e we ⟨rfl, be⟩
        go_wp2
        go_ret
        exact ⟨by first | rfl | simp [hbb], HBel.out _ be⟩
end Go.Proofs.YthmljjebggljmaaDoor
