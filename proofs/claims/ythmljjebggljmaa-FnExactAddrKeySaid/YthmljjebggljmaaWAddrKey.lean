/-
  FnExactAddrKey answers true, whatever two slices of bytes it is handed; it makes new memory and turns nothing old.
-/
import Derived.Test.YthmljjebggljmaaAdK
import Derived.Test.YthmljjebggljmaaHelpC
namespace Go.Proofs.Ythmljjebggljmaa
open Go.RowKit
set_option linter.unusedVariables false

set_option maxHeartbeats 1600000 in
theorem walk_FnExactAddrKey (a b : Option Addr) (c1 c2 : Nat) (xs ts : List Int) (w : World) (ha : Seg w a xs) (hb : Seg w b ts) (hm1 : xs.length ≤ maxLen) (hm2 : ts.length ≤ maxLen) :
    Calls Try.prog 3 #[.slice a xs.length c1, .slice b ts.length c2] w fun e w' => e = .returned (.bool true) ∧ Below w.heap.size w w' := by
  unfold maxLen at hm1 hm2
  by_cases hg1 : 1048576 < xs.length
  · have hg1' : (1048576 : Int) < (xs.length : Int) := by omega
    go_enter Try.func3, Try.ntmps3
    go_wp2
    go_ret
    exact ⟨rfl, Below.refl _ _⟩
  · by_cases hg2 : 1048576 < ts.length
    · have hg2' : (1048576 : Int) < (ts.length : Int) := by omega
      go_enter Try.func3, Try.ntmps3
      go_wp2
      go_ret
      exact ⟨rfl, Below.refl _ _⟩
    have hPl := addrKey_len xs ts
    go_enter Try.func3, Try.ntmps3
    go_wp2_with fail
    refine (toByteS_any _ _ xs _ ha (by omega)).mono ?_
    rintro e w1 ⟨rfl, hx1, b1⟩
    go_wp2_with fail
    refine (toByteS_any _ _ ts _ (hb.grow b1) (by omega)).mono ?_
    rintro e w2 ⟨rfl, ht2, b2⟩
    go_wp2_with fail
    refine (spec_AddrKey_any _ _ _ _ xs ts _ (hx1.grow b2).seg ht2.seg (by simp) (by simp) (by omega) (by omega)).mono ?_
    rintro e w3 ⟨vw, rfl, hW, b3⟩
    obtain ⟨aw, cw, rfl, _, _, _, _, _⟩ := hW.shape
    have B3 := Below.on (Below.on b1 b2) b3
    have ltW := hW.lt
    have z1 := b1.size
    have z2 := b2.size
    clear hx1 ht2 b1 b2 b3
    go_wp2_with fail
    refine (toByteS_any _ _ xs _ (ha.grow B3) (by omega)).mono ?_
    rintro e w4 ⟨rfl, hx4, b4⟩
    have B4 := Below.on B3 b4
    have hW4 := hW.grow b4
    have z3 := B3.size
    have ltX := hx4.lt _ rfl
    clear hW
    go_wp2_with fail
    refine (toByteS_any _ _ ts _ (hb.grow B4) (by omega)).mono ?_
    rintro e w5 ⟨rfl, ht5, b5⟩
    have B5 := Below.on B4 b5
    have hW5 := hW4.grow b5
    have hx5 := hx4.grow b5
    have z4 := B4.size
    have ltT := ht5.lt _ rfl
    clear hW4 hx4 b4 b5 B3
    go_wp2_with fail
    refine (impl_AddrKey_any _ _ _ _ xs ts _ hx5.seg ht5.seg (by simp) (by simp) (by omega) (by omega)).mono ?_
    rintro e w6 ⟨vg, rfl, hG, b6⟩
    obtain ⟨ag, cg, rfl, _, _, _, _, _⟩ := hG.shape
    have B6 := Below.on B5 b6
    have hW6 := hW5.grow b6
    have hx6 := hx5.grow b6
    have ht6 := ht5.grow b6
    have ltG := hG.lt
    clear hx5 hW5 ht5 b6 B5 B4
    go_wp2_with fail
    refine (eqByteS_same _ _ _ _ (addrKey xs ts) _ hG.seg hW6.seg (by omega)).mono ?_
    rintro e w7 ⟨rfl, b7⟩
    have B7 := Below.on B6 b7
    have hG7 := hG.grow b7
    have hW7 := hW6.grow b7
    have hx7 := hx6.grow b7
    have ht7 := ht6.grow b7
    clear B6 hG hW6 hx6 ht6 b7
    go_wp2_with fail
    refine (toByteS_any _ _ xs _ (ha.grow B7) (by omega)).mono ?_
    rintro e w8 ⟨rfl, hy8, b8⟩
    have B8 := Below.on B7 b8
    have hG8 := hG7.grow b8
    have hW8 := hW7.grow b8
    have hx8 := hx7.grow b8
    have ht8 := ht7.grow b8
    clear B7 hG7 hW7 hx7 ht7 b8
    go_wp2_with fail
    refine (eqByteS_same _ _ _ _ xs _ hx8.seg hy8.seg (by omega)).mono ?_
    rintro e w9 ⟨rfl, b9⟩
    have B9 := Below.on B8 b9
    have hG9 := hG8.grow b9
    have hW9 := hW8.grow b9
    have hx9 := hx8.grow b9
    have ht9 := ht8.grow b9
    clear B8 hG8 hW8 hx8 ht8 b9 hy8
    go_wp2_with fail
    refine (toByteS_any _ _ ts _ (hb.grow B9) (by omega)).mono ?_
    rintro e w10 ⟨rfl, hy10, b10⟩
    have B10 := Below.on B9 b10
    have hG10 := hG9.grow b10
    have hW10 := hW9.grow b10
    have hx10 := hx9.grow b10
    have ht10 := ht9.grow b10
    clear B9 hG9 hW9 hx9 ht9 b10
    go_wp2_with fail
    refine (eqByteS_same _ _ _ _ ts _ ht10.seg hy10.seg (by omega)).mono ?_
    rintro e w11 ⟨rfl, b11⟩
    have B11 := Below.on B10 b11
    have hG11 := hG10.grow b11
    have hW11 := hW10.grow b11
    have hx11 := hx10.grow b11
    have ht11 := ht10.grow b11
    clear B10 hG10 hW10 hx10 ht10 b11 hy10
    go_wp2_with fail
    refine (markByteS_any _ _ _ xs 1 _ hx11 (by omega) (by omega)).mono ?_
    rintro e w12 ⟨rfl, hx12, g12⟩
    have B12 : Below w.heap.size w w12 := Below.marked B11 g12 (by rintro x hx; simp at hx; subst hx; exact z3)
    have hW12 := hW11.away g12 (by intro x hx; have := ltW x hx; simp [Value.ownBlock]; omega)
    have hG12 := hG11.away g12 (by intro x hx; have := ltG x hx; simp [Value.ownBlock]; omega)
    have ht12 := ht11.away g12 (by intro x hx; simp at hx; subst hx; simp [Value.ownBlock]; omega)
    clear B11 hG11 hW11 hx11 ht11 hx12 g12
    go_wp2_with fail
    refine (markByteS_any _ _ _ ts (1 + xs.length) _ ht12 (by omega) (by omega)).mono ?_
    rintro e w13 ⟨rfl, ht13, g13⟩
    have B13 : Below w.heap.size w w13 := Below.marked B12 g13 (by rintro x hx; simp at hx; subst hx; exact z4)
    have hW13 := hW12.away g13 (by intro x hx; have := ltW x hx; simp [Value.ownBlock]; omega)
    have hG13 := hG12.away g13 (by intro x hx; have := ltG x hx; simp [Value.ownBlock]; omega)
    clear B12 hG12 hW12 ht12 ht13 g13
    go_wp2_with fail
    refine (eqByteS_same _ _ _ _ (addrKey xs ts) _ hG13.seg hW13.seg (by omega)).mono ?_
    rintro e w14 ⟨rfl, b14⟩
    have B14 := Below.on B13 b14
    have hG14 := hG13.grow b14
    have hW14 := hW13.grow b14
    clear B13 hG13 hW13 b14
    go_wp2_with fail
    refine (markByteS_any _ _ _ (addrKey xs ts) 1 _ hG14 (by omega) (by omega)).mono ?_
    rintro e w15 ⟨rfl, hG15, g15⟩
    have B15 : Below w.heap.size w w15 := Below.marked B14 g15 (by intro x hx; have := ltG x hx; omega)
    have hW15 := hW14.away g15 (by
      intro x hx
      have h1 := ltW x hx
      cases ag with
      | none => simp [Value.ownBlock]
      | some y => have h2 := ltG y rfl; simp [Value.ownBlock]; omega)
    clear B14 hG14 hW14 g15
    go_wp2_with fail
    refine (heldByteS_any _ _ 1 (addrKey xs ts).length _ hG15.seg (by omega) (by omega)).mono ?_
    rintro e w16 ⟨rfl, b16⟩
    have B16 := Below.on B15 b16
    have hG16 := hG15.grow b16
    have hW16 := hW15.grow b16
    clear B15 hG15 hW15 b16
    go_wp2_with fail
    refine (toByteS_any _ _ xs _ (ha.grow B16) (by omega)).mono ?_
    rintro e w17 ⟨rfl, hx17, b17⟩
    have B17 := Below.on B16 b17
    go_wp2_with fail
    refine (toByteS_any _ _ ts _ (hb.grow B17) (by omega)).mono ?_
    rintro e w18 ⟨rfl, ht18, b18⟩
    go_wp2_with fail
    refine (impl_AddrKey_any _ _ _ _ xs ts _ (hx17.grow b18).seg ht18.seg (by simp) (by simp) (by omega) (by omega)).mono ?_
    rintro e w19 ⟨vh, rfl, hH, b19⟩
    obtain ⟨ah, ch, rfl, _, _, _, _, _⟩ := hH.shape
    have B19 := Below.on (Below.on B17 b18) b19
    have hG19 := ((hG16.grow b17).grow b18).grow b19
    have hW19 := ((hW16.grow b17).grow b18).grow b19
    clear B16 B17 hG16 hW16 b17 b18 b19 hx17 ht18
    go_wp2_with fail
    refine (eqByteS_same _ _ _ _ (addrKey xs ts) _ hH.seg hW19.seg (by omega)).mono ?_
    rintro e w20 ⟨rfl, b20⟩
    have B20 := Below.on B19 b20
    have hG20 := hG19.grow b20
    clear B19 hG19 hW19 b20 hH
    go_wp2_with fail
    refine (heldByteS_any _ _ 1 (addrKey xs ts).length _ hG20.seg (by omega) (by omega)).mono ?_
    rintro e w21 ⟨rfl, b21⟩
    have B21 := Below.on B20 b21
    go_wp2
    go_ret
    exact ⟨rfl, B21⟩

end Go.Proofs.Ythmljjebggljmaa
