/-
  AddrName and AddrOk of the program.
-/
import Derived.Test.YthmljjebggljmaaDoorAdH
import Derived.Lib.SlBytesConst
namespace Go.Proofs.YthmljjebggljmaaDoor
open Go.RowKit
set_option linter.unusedVariables false
set_option linter.unusedSimpArgs false

/-- What AddrName answers. -/
def NameEnd (xs : List Int) (w : World) (e : Ending) (w' : World) : Prop := ∃ v, e = .returned v ∧ Bts w' w.heap.size v (addrN xs) ∧ Below w.heap.size w w'

theorem name_end {xs : List Int} {w wx w' : World} {v : Value} {zs : List Int} (h1 : Below w.heap.size w wx) (h2 : Below wx.heap.size wx w') (h3 : Bts w' wx.heap.size v zs) (h4 : addrN xs = zs) : NameEnd xs w (.returned v) w' := ⟨_, rfl, by rw [h4]; exact h3.mono h1.size, Below.on h1 h2⟩

set_option maxHeartbeats 3200000 in
set_option maxRecDepth 100000 in
theorem impl_AddrName_any (a : Option Addr) (c : Nat) (xs : List Int) (w : World) (ha : Seg w a xs) (hl : xs.length ≤ 2097152) (hcap : xs.length ≤ c) (hc2 : c ≤ maxLen) (ka : a = none → c = 0) (hE : Errs w) :
    Calls Tryd.prog 15 #[.slice a xs.length c] w (NameEnd xs w) := by
  have hB0 : Below w.heap.size w (w.alloc (.cells #[.int .u8 91] 5 (1, 2))) := (Below.refl _ _).alloc (Nat.le_refl _) _
  have hg : (w.alloc (.cells #[.int .u8 91] 5 (1, 2))).cell? ⟨w.heap.size, 0, none⟩ = some (.int .u8 91) := (cell_of_row _ w.heap.size 0 #[.int .u8 91] 5 (1, 2) (heap_alloc_new w _)).trans rfl
  have HCut := hide' (cut_any a c w.heap.size xs _ (ha.grow hB0) (by omega) hcap hc2 ka hg)
  have hkl := cutI_le xs
  have hlt : (xs.take (cutI xs)).length = cutI xs := by simp; omega
  have hrl : (xs.drop (cutI xs + 1)).length ≤ 2097152 := by simp; omega
  have htl := trimR_len 93 (xs.drop (cutI xs + 1))
  have htt := trimR_take 93 (xs.drop (cutI xs + 1))
  have hll2 : (trimL 34 (trimR 34 (trimR 93 (xs.drop (cutI xs + 1))))).length ≤ (trimR 93 (xs.drop (cutI xs + 1))).length := by
    have h1 := congrArg List.length (trimL_drop 34 (trimR 34 (trimR 93 (xs.drop (cutI xs + 1)))))
    have h2 := trimR_len 34 (trimR 93 (xs.drop (cutI xs + 1)))
    simp at h1
    omega
  have HW : Hid (∀ n : Int, (∀ u : Nat, u ≤ 99 → trimR 93 (xs.drop (cutI xs + 1)) = decI u → n = u) → cutI xs < xs.length →
      (xs = addrItem (xs.take (cutI xs)) n ∨ xs = addrKey (xs.take (cutI xs)) (trimL 34 (trimR 34 (trimR 93 (xs.drop (cutI xs + 1))))) → addrN xs = nameC (xs.take (cutI xs))) ∧ (¬ xs = addrItem (xs.take (cutI xs)) n → ¬ xs = addrKey (xs.take (cutI xs)) (trimL 34 (trimR 34 (trimR 93 (xs.drop (cutI xs + 1))))) → addrN xs = [])) := by
    intro n hn hc
    refine addrN_way hc hn fun k hk e => ?_
    rw [e, (trim_name hk).1, (trim_name hk).2]
  have HBare : Hid (¬ cutI xs < xs.length → addrN xs = nameC (xs.take (cutI xs))) := by
    intro h
    have e : cutI xs = xs.length := by omega
    rw [addrN_bare e, e, List.take_length]
  have HF := hide' (ha.front (cutI xs) hkl)
  unfold CutEnd at HCut
  generalize xs.take (cutI xs) = pre at *
  generalize xs.drop (cutI xs + 1) = r at *
  generalize hmore : decide (cutI xs < xs.length) = more at *
  generalize hk : cutI xs = k at *
  generalize hrn : r.length = rn at *
  have Hk := hide' hlt
  have Hrn := hide' hrn
  clear hlt hrn hg
  generalize hn0 : xs.length = n at *
  have Hn0 : Hid (xs.length = n) := hn0
  clear hn0
  have hcs := Lib.run_convert_bytes_const (P := Tryd.prog) w 22 5 #[.int .u8 91] 1 1 Tryd.underlying22 Tryd.underlying5
  go_enter Tryd.func15, Tryd.ntmps15
  go_wp2_with fail
  refine HCut.out.mono ?_
  rintro e w1 ⟨b1, a2, c2, rfl, hS2, hc2a, hc2b⟩
  have B1 := Below.on hB0 b1
  have HT1 := hide' (hS2.grow b1)
  have HTR : Hid (Calls Tryd.prog 33 #[.slice a2 rn c2, .string ⟨#[93]⟩] w1 fun e w' => e = .returned (.slice a2 (trimR 93 r).length c2) ∧ Below w1.heap.size w1 w') := by
    have := trimRight_any a2 c2 r w1 HT1.out (by rw [Hrn.out]; exact hc2a) hc2b
    rw [Hrn.out] at this
    exact this
  clear HCut hS2 b1
  go_wp2_with fail
  refine HTR.out.mono ?_
  rintro e w2 ⟨rfl, b2⟩
  have B2 := Below.on B1 b2
  have HT2 : Hid (Seg w2 a2 (trimR 93 r)) := by
    show Seg w2 a2 (trimR 93 r)
    have := (HT1.out.grow b2).front (trimR 93 r).length (by rw [Hrn.out]; exact htl)
    rw [← htt] at this
    exact this
  have hconv := conv_seg c2 HT2.out
  have HAt := hide' (atoi_any (trimR 93 r) w2 (by omega) (hE.grow B2))
  have HTl : Hid ((trimR 93 r).length ≤ c2) := Nat.le_trans htl hc2a
  clear HTR b2 B1 HT1
  generalize hts : trimR 93 r = t at *
  generalize hsx : strOf t = sx at *
  generalize htn : t.length = tn at *
  have Htn := hide' htn
  clear htn hts hsx
  go_wp2_with fail
  refine HAt.out.mono ?_
  rintro e w3 ⟨b3, i, ve, rfl, hi⟩
  have B3 := Below.on B2 b3
  have HT3 := hide' (HT2.out.grow b3)
  have HTm : Hid (Calls Tryd.prog 35 #[.slice a2 tn c2, .string ⟨#[34]⟩] w3 fun e w' => Below w3.heap.size w3 w' ∧ ∃ a3 c3, e = .returned (.slice a3 (trimL 34 (trimR 34 t)).length c3) ∧ Seg w3 a3 (trimL 34 (trimR 34 t)) ∧ (a3 = none → c3 = 0)) := by
    have := trim_any a2 c2 t w3 HT3.out (by rw [Htn.out]; exact HTl.out) hc2b
    rw [Htn.out] at this
    exact this
  clear HAt b3 B2 HT2 HT3 hconv
  go_wp2_with fail
  refine HTm.out.mono ?_
  rintro e w4 ⟨b4, a3, c3, rfl, hS3, k3⟩
  have B4 := Below.on B3 b4
  have HS4 := hide' (hS3.grow b4)
  clear HTm hS3 b4 B3
  generalize trimL 34 (trimR 34 t) = key at *
  have hkeyl : key.length ≤ 2097152 := by have := Htn.out; omega
  have HNA : Hid (∀ wx, Below w.heap.size w wx → Calls Tryd.prog 27 #[.slice a k c] wx fun e w' => ∃ v, e = .returned v ∧ Bts w' wx.heap.size v (nameC pre) ∧ Below wx.heap.size wx w') := by
    intro wx hx
    have := nameAlone_any a c pre wx (HF.out.grow hx) ka (by rw [Hk.out]; unfold maxLen; omega)
    rw [Hk.out] at this
    exact this
  cases more with
  | false =>
    have hkn : ¬ k < n := of_decide_eq_false hmore
    have HR : Hid (addrN xs = nameC pre) := HBare.out hkn
    clear HW HBare hi
    go_wp2_with fail
    refine (HNA.out _ B4).mono ?_
    rintro e w5 ⟨v, rfl, hv, b5⟩
    go_wp2
    go_ret
    exact name_end B4 b5 hv HR.out
  | true =>
    have hkn : k < n := of_decide_eq_true hmore
    have HWi := hide' (HW.out i hi hkn)
    clear HW HBare hi
    have HAI : Hid (Calls Tryd.prog 9 #[.slice a k c, .int .i64 i] w4 fun e w' => ∃ v, e = .returned v ∧ Bts w' w4.heap.size v (addrItem pre i) ∧ Below w4.heap.size w4 w') := by
      have := impl_AddrItem_any a c pre i w4 (HF.out.grow B4) ka (by rw [Hk.out]; unfold maxLen; omega)
      rw [Hk.out] at this
      exact this
    go_wp2_with fail
    refine HAI.out.mono ?_
    rintro e w5 ⟨v5, rfl, hv5, b5⟩
    obtain ⟨a5, c5, rfl, _⟩ := hv5.shape
    have B5 := Below.on B4 b5
    have HEq : Hid (Calls Tryd.prog 36 #[.slice a5 (addrItem pre i).length c5, .slice a n c] w5 fun e w' => e = .returned (.bool (decide (addrItem pre i = xs))) ∧ w' = w5) := by
      have := equal_any a5 a c5 c (addrItem pre i) xs w5 hv5.seg (ha.grow B5)
      rw [Hn0.out] at this
      exact this
    have b45 := b5
    clear HAI hv5 b5
    by_cases h1 : addrItem pre i = xs
    · have HR : Hid (addrN xs = nameC pre) := HWi.out.1 (.inl h1.symm)
      rw [decide_eq_true h1] at HEq
      generalize (addrItem pre i).length = l5 at HEq
      clear HWi h1
      go_wp2_with fail
      refine HEq.out.mono ?_
      rintro e w6 ⟨rfl, rfl⟩
      go_wp2_with fail
      refine (HNA.out _ B5).mono ?_
      rintro e w7 ⟨v, rfl, hv, b7⟩
      go_wp2
      go_ret
      exact name_end B5 b7 hv HR.out
    · have HWj := hide' (HWi.out.2 (fun e => h1 e.symm))
      have HWk := hide' (fun h => HWi.out.1 (.inr h))
      rw [decide_eq_false h1] at HEq
      generalize (addrItem pre i).length = l5 at HEq
      have HAK : Hid (Calls Tryd.prog 10 #[.slice a k c, .slice a3 key.length c3] w5 fun e w' => ∃ v, e = .returned v ∧ Bts w' w5.heap.size v (addrKey pre key) ∧ Below w5.heap.size w5 w') := by
        have := impl_AddrKey_any a a3 c c3 pre key w5 (HF.out.grow B5) (HS4.out.grow (by exact b45)) ka k3 (by rw [Hk.out]; omega) hkeyl
        rw [Hk.out] at this
        exact this
      clear HWi h1
      go_wp2_with fail
      refine HEq.out.mono ?_
      rintro e w6 ⟨rfl, rfl⟩
      go_wp2_with fail
      refine HAK.out.mono ?_
      rintro e w7 ⟨v7, rfl, hv7, b7⟩
      obtain ⟨a7, c7, rfl, _⟩ := hv7.shape
      have B7 := Below.on B5 b7
      have HEk : Hid (Calls Tryd.prog 36 #[.slice a7 (addrKey pre key).length c7, .slice a n c] w7 fun e w' => e = .returned (.bool (decide (addrKey pre key = xs))) ∧ w' = w7) := by
        have := equal_any a7 a c7 c (addrKey pre key) xs w7 hv7.seg (ha.grow B7)
        rw [Hn0.out] at this
        exact this
      clear HAK HEq hv7 b7
      by_cases h2 : addrKey pre key = xs
      · have HR : Hid (addrN xs = nameC pre) := HWk.out h2.symm
        rw [decide_eq_true h2] at HEk
        generalize (addrKey pre key).length = l7 at HEk
        clear HWj HWk h2
        go_wp2_with fail
        refine HEk.out.mono ?_
        rintro e w8 ⟨rfl, rfl⟩
        go_wp2_with fail
        refine (HNA.out _ B7).mono ?_
        rintro e w9 ⟨v, rfl, hv, b9⟩
        go_wp2
        go_ret
        exact name_end B7 b9 hv HR.out
      · have HR : Hid (addrN xs = []) := HWj.out (fun e => h2 e.symm)
        rw [decide_eq_false h2] at HEk
        generalize (addrKey pre key).length = l7 at HEk
        clear HWj HWk h2
        go_wp2_with fail
        refine HEk.out.mono ?_
        rintro e w8 ⟨rfl, rfl⟩
        go_wp2
        go_ret
        exact name_end B7 (Below.refl _ _) (bts_nil _ _) HR.out

set_option maxHeartbeats 800000 in
theorem impl_AddrOk_any (a : Option Addr) (c : Nat) (xs : List Int) (w : World) (ha : Seg w a xs) (hl : xs.length ≤ 2097152) (hcap : xs.length ≤ c) (hc2 : c ≤ maxLen) (ka : a = none → c = 0) (hE : Errs w) :
    Calls Tryd.prog 13 #[.slice a xs.length c] w fun e w' => e = .returned (.bool (addrB xs)) ∧ Below w.heap.size w w' := by
  have HN := hide' (impl_AddrName_any a c xs w ha hl hcap hc2 ka hE)
  have Hb : Hid (addrB xs = decide (0 < (addrN xs).length)) := (addrN_len xs).symm
  go_enter Tryd.func13, Tryd.ntmps13
  go_wp2_with fail
  refine HN.out.mono ?_
  rintro e w1 ⟨v, rfl, hv, b1⟩
  obtain ⟨a1, c1, rfl, _⟩ := hv.shape
  clear hv
  generalize (addrN xs).length = l at Hb
  go_wp2
  go_ret
  exact ⟨ret_bool Hb.out.symm, b1⟩
end Go.Proofs.YthmljjebggljmaaDoor
