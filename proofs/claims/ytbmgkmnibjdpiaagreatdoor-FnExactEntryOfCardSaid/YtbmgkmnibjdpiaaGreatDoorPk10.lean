/-
  Texts that a law leans on, one behind the other; no statement is proved here.
-/
import Derived.Test.YtbmgkmnibjdpiaaGreatDoorPk2
import Derived.Lib.SlBytesConst
import Derived.Test.YtbmgkmnibjdpiaaGreatDoorPk7
import Derived.Test.YtbmgkmnibjdpiaaGreatDoorPk4
/-
  AddrName and AddrOk of the program.
-/
namespace Go.Proofs.YtbmgkmnibjdpiaaGreatDoor
open Go.RowKit
set_option linter.unusedVariables false
set_option linter.unusedSimpArgs false

/-- What AddrName answers. -/
def NameEnd (xs : List Int) (w : World) (e : Ending) (w' : World) : Prop := ∃ v, e = .returned v ∧ Bts w' w.heap.size v (addrN xs) ∧ Below w.heap.size w w'

theorem name_end {xs : List Int} {w wx w' : World} {v : Value} {zs : List Int} (h1 : Below w.heap.size w wx) (h2 : Below wx.heap.size wx w') (h3 : Bts w' wx.heap.size v zs) (h4 : addrN xs = zs) : NameEnd xs w (.returned v) w' := ⟨_, rfl, by rw [h4]; exact h3.mono h1.size, Below.on h1 h2⟩

set_option maxHeartbeats 3200000 in
set_option maxRecDepth 100000 in
theorem impl_AddrName_any (a : Option Addr) (c : Nat) (xs : List Int) (w : World) (ha : Seg w a xs) (hl : xs.length ≤ 2097152) (hcap : xs.length ≤ c) (hc2 : c ≤ maxLen) (ka : a = none → c = 0) (hE : Errs w) :
    Calls Tryz.prog 72 #[.slice a xs.length c] w (NameEnd xs w) := by
  have hB0 : Below w.heap.size w (w.alloc (.cells #[.int .u8 91] 5 (1, 2))) := (Below.refl _ _).alloc (Nat.le_refl _) _
  have hg : (w.alloc (.cells #[.int .u8 91] 5 (1, 2))).cell? ⟨w.heap.size, 0, none⟩ = some (.int .u8 91) := (cell_of_row _ w.heap.size 0 #[.int .u8 91] 5 (1, 2) (heap_alloc_new w _)).trans rfl
  have HCut := hide' (cut_any a c w.heap.size xs _ (ha.grow hB0) (by omega) hcap hc2 ka hg)
  have hkl := cutI_le xs
  have hlt : (xs.take (cutI xs)).length = cutI xs := by simp; omega
  have hrl : (xs.drop (cutI xs + 1)).length ≤ 2097152 := by simp; omega
  have htl := trimR_len 93 (xs.drop (cutI xs + 1))
  have htt := trimR_take 93 (xs.drop (cutI xs + 1))
  have hll2 : (trimL 34 (trimR 34 (trimR 93 (xs.drop (cutI xs + 1))))).length ≤ (trimR 93 (xs.drop (cutI xs + 1))).length := by
    have h1 := congrArg List.length (trimL_drop 34 (trimR 34 (trimR 93 (xs.drop (cutI xs + 1)))))
    have h2 := trimR_len 34 (trimR 93 (xs.drop (cutI xs + 1)))
    simp at h1
    omega
  have HW : Hid (∀ n : Int, (∀ u : Nat, u ≤ 99 → trimR 93 (xs.drop (cutI xs + 1)) = decI u → n = u) → cutI xs < xs.length →
      (xs = addrItem (xs.take (cutI xs)) n ∨ xs = addrKey (xs.take (cutI xs)) (trimL 34 (trimR 34 (trimR 93 (xs.drop (cutI xs + 1))))) → addrN xs = nameC (xs.take (cutI xs))) ∧ (¬ xs = addrItem (xs.take (cutI xs)) n → ¬ xs = addrKey (xs.take (cutI xs)) (trimL 34 (trimR 34 (trimR 93 (xs.drop (cutI xs + 1))))) → addrN xs = [])) := by
    intro n hn hc
    refine addrN_way hc hn fun k hk e => ?_
    rw [e, (trim_name hk).1, (trim_name hk).2]
  have HBare : Hid (¬ cutI xs < xs.length → addrN xs = nameC (xs.take (cutI xs))) := by
    intro h
    have e : cutI xs = xs.length := by omega
    rw [addrN_bare e, e, List.take_length]
  have HF := hide' (ha.front (cutI xs) hkl)
  unfold CutEnd at HCut
  generalize xs.take (cutI xs) = pre at *
  generalize xs.drop (cutI xs + 1) = r at *
  generalize hmore : decide (cutI xs < xs.length) = more at *
  generalize hk : cutI xs = k at *
  generalize hrn : r.length = rn at *
  have Hk := hide' hlt
  have Hrn := hide' hrn
  clear hlt hrn hg
  generalize hn0 : xs.length = n at *
  have Hn0 : Hid (xs.length = n) := hn0
  clear hn0
  have hcs := Lib.run_convert_bytes_const (P := Tryz.prog) w 22 5 #[.int .u8 91] 1 1 Tryz.underlying22 Tryz.underlying5
  go_enter Tryz.func72, Tryz.ntmps72
  go_wp2_with fail
  refine HCut.out.mono ?_
  rintro e w1 ⟨b1, a2, c2, rfl, hS2, hc2a, hc2b⟩
  have B1 := Below.on hB0 b1
  have HT1 := hide' (hS2.grow b1)
  have HTR : Hid (Calls Tryz.prog 78 #[.slice a2 rn c2, .string ⟨#[93]⟩] w1 fun e w' => e = .returned (.slice a2 (trimR 93 r).length c2) ∧ Below w1.heap.size w1 w') := by
    have := trimRight_any a2 c2 r w1 HT1.out (by rw [Hrn.out]; exact hc2a) hc2b
    rw [Hrn.out] at this
    exact this
  clear HCut hS2 b1
  go_wp2_with fail
  refine HTR.out.mono ?_
  rintro e w2 ⟨rfl, b2⟩
  have B2 := Below.on B1 b2
  have HT2 : Hid (Seg w2 a2 (trimR 93 r)) := by
    show Seg w2 a2 (trimR 93 r)
    have := (HT1.out.grow b2).front (trimR 93 r).length (by rw [Hrn.out]; exact htl)
    rw [← htt] at this
    exact this
  have hconv := conv_seg c2 HT2.out
  have HAt := hide' (atoi_any (trimR 93 r) w2 (by omega) (hE.grow B2))
  have HTl : Hid ((trimR 93 r).length ≤ c2) := Nat.le_trans htl hc2a
  clear HTR b2 B1 HT1
  generalize hts : trimR 93 r = t at *
  generalize hsx : strOf t = sx at *
  generalize htn : t.length = tn at *
  have Htn := hide' htn
  clear htn hts hsx
  go_wp2_with fail
  refine HAt.out.mono ?_
  rintro e w3 ⟨b3, i, ve, rfl, hi⟩
  have B3 := Below.on B2 b3
  have HT3 := hide' (HT2.out.grow b3)
  have HTm : Hid (Calls Tryz.prog 80 #[.slice a2 tn c2, .string ⟨#[34]⟩] w3 fun e w' => Below w3.heap.size w3 w' ∧ ∃ a3 c3, e = .returned (.slice a3 (trimL 34 (trimR 34 t)).length c3) ∧ Seg w3 a3 (trimL 34 (trimR 34 t)) ∧ (a3 = none → c3 = 0)) := by
    have := trim_any a2 c2 t w3 HT3.out (by rw [Htn.out]; exact HTl.out) hc2b
    rw [Htn.out] at this
    exact this
  clear HAt b3 B2 HT2 HT3 hconv
  go_wp2_with fail
  refine HTm.out.mono ?_
  rintro e w4 ⟨b4, a3, c3, rfl, hS3, k3⟩
  have B4 := Below.on B3 b4
  have HS4 := hide' (hS3.grow b4)
  clear HTm hS3 b4 B3
  generalize trimL 34 (trimR 34 t) = key at *
  have hkeyl : key.length ≤ 2097152 := by have := Htn.out; omega
  have HNA : Hid (∀ wx, Below w.heap.size w wx → Calls Tryz.prog 84 #[.slice a k c] wx fun e w' => ∃ v, e = .returned v ∧ Bts w' wx.heap.size v (nameC pre) ∧ Below wx.heap.size wx w') := by
    intro wx hx
    have := nameAlone_any a c pre wx (HF.out.grow hx) ka (by rw [Hk.out]; unfold maxLen; omega)
    rw [Hk.out] at this
    exact this
  cases more with
  | false =>
    have hkn : ¬ k < n := of_decide_eq_false hmore
    have HR : Hid (addrN xs = nameC pre) := HBare.out hkn
    clear HW HBare hi
    go_wp2_with fail
    refine (HNA.out _ B4).mono ?_
    rintro e w5 ⟨v, rfl, hv, b5⟩
    go_wp2
    go_ret
    exact name_end B4 b5 hv HR.out
  | true =>
    have hkn : k < n := of_decide_eq_true hmore
    have HWi := hide' (HW.out i hi hkn)
    clear HW HBare hi
    have HAI : Hid (Calls Tryz.prog 82 #[.slice a k c, .int .i64 i] w4 fun e w' => ∃ v, e = .returned v ∧ Bts w' w4.heap.size v (addrItem pre i) ∧ Below w4.heap.size w4 w') := by
      have := impl_AddrItem_any a c pre i w4 (HF.out.grow B4) ka (by rw [Hk.out]; unfold maxLen; omega)
      rw [Hk.out] at this
      exact this
    go_wp2_with fail
    refine HAI.out.mono ?_
    rintro e w5 ⟨v5, rfl, hv5, b5⟩
    obtain ⟨a5, c5, rfl, _⟩ := hv5.shape
    have B5 := Below.on B4 b5
    have HEq : Hid (Calls Tryz.prog 81 #[.slice a5 (addrItem pre i).length c5, .slice a n c] w5 fun e w' => e = .returned (.bool (decide (addrItem pre i = xs))) ∧ w' = w5) := by
      have := equal_any a5 a c5 c (addrItem pre i) xs w5 hv5.seg (ha.grow B5)
      rw [Hn0.out] at this
      exact this
    have b45 := b5
    clear HAI hv5 b5
    by_cases h1 : addrItem pre i = xs
    · have HR : Hid (addrN xs = nameC pre) := HWi.out.1 (.inl h1.symm)
      rw [decide_eq_true h1] at HEq
      generalize (addrItem pre i).length = l5 at HEq
      clear HWi h1
      go_wp2_with fail
      refine HEq.out.mono ?_
      rintro e w6 ⟨rfl, rfl⟩
      go_wp2_with fail
      refine (HNA.out _ B5).mono ?_
      rintro e w7 ⟨v, rfl, hv, b7⟩
      go_wp2
      go_ret
      exact name_end B5 b7 hv HR.out
    · have HWj := hide' (HWi.out.2 (fun e => h1 e.symm))
      have HWk := hide' (fun h => HWi.out.1 (.inr h))
      rw [decide_eq_false h1] at HEq
      generalize (addrItem pre i).length = l5 at HEq
      have HAK : Hid (Calls Tryz.prog 83 #[.slice a k c, .slice a3 key.length c3] w5 fun e w' => ∃ v, e = .returned v ∧ Bts w' w5.heap.size v (addrKey pre key) ∧ Below w5.heap.size w5 w') := by
        have := impl_AddrKey_any a a3 c c3 pre key w5 (HF.out.grow B5) (HS4.out.grow (by exact b45)) ka k3 (by rw [Hk.out]; omega) hkeyl
        rw [Hk.out] at this
        exact this
      clear HWi h1
      go_wp2_with fail
      refine HEq.out.mono ?_
      rintro e w6 ⟨rfl, rfl⟩
      go_wp2_with fail
      refine HAK.out.mono ?_
      rintro e w7 ⟨v7, rfl, hv7, b7⟩
      obtain ⟨a7, c7, rfl, _⟩ := hv7.shape
      have B7 := Below.on B5 b7
      have HEk : Hid (Calls Tryz.prog 81 #[.slice a7 (addrKey pre key).length c7, .slice a n c] w7 fun e w' => e = .returned (.bool (decide (addrKey pre key = xs))) ∧ w' = w7) := by
        have := equal_any a7 a c7 c (addrKey pre key) xs w7 hv7.seg (ha.grow B7)
        rw [Hn0.out] at this
        exact this
      clear HAK HEq hv7 b7
      by_cases h2 : addrKey pre key = xs
      · have HR : Hid (addrN xs = nameC pre) := HWk.out h2.symm
        rw [decide_eq_true h2] at HEk
        generalize (addrKey pre key).length = l7 at HEk
        clear HWj HWk h2
        go_wp2_with fail
        refine HEk.out.mono ?_
        rintro e w8 ⟨rfl, rfl⟩
        go_wp2_with fail
        refine (HNA.out _ B7).mono ?_
        rintro e w9 ⟨v, rfl, hv, b9⟩
        go_wp2
        go_ret
        exact name_end B7 b9 hv HR.out
      · have HR : Hid (addrN xs = []) := HWj.out (fun e => h2 e.symm)
        rw [decide_eq_false h2] at HEk
        generalize (addrKey pre key).length = l7 at HEk
        clear HWj HWk h2
        go_wp2_with fail
        refine HEk.out.mono ?_
        rintro e w8 ⟨rfl, rfl⟩
        go_wp2
        go_ret
        exact name_end B7 (Below.refl _ _) (bts_nil _ _) HR.out

set_option maxHeartbeats 800000 in
theorem impl_AddrOk_any (a : Option Addr) (c : Nat) (xs : List Int) (w : World) (ha : Seg w a xs) (hl : xs.length ≤ 2097152) (hcap : xs.length ≤ c) (hc2 : c ≤ maxLen) (ka : a = none → c = 0) (hE : Errs w) :
    Calls Tryz.prog 62 #[.slice a xs.length c] w fun e w' => e = .returned (.bool (addrB xs)) ∧ Below w.heap.size w w' := by
  have HN := hide' (impl_AddrName_any a c xs w ha hl hcap hc2 ka hE)
  have Hb : Hid (addrB xs = decide (0 < (addrN xs).length)) := (addrN_len xs).symm
  go_enter Tryz.func62, Tryz.ntmps62
  go_wp2_with fail
  refine HN.out.mono ?_
  rintro e w1 ⟨v, rfl, hv, b1⟩
  obtain ⟨a1, c1, rfl, _⟩ := hv.shape
  clear hv
  generalize (addrN xs).length = l at Hb
  go_wp2
  go_ret
  exact ⟨ret_bool Hb.out.symm, b1⟩
end Go.Proofs.YtbmgkmnibjdpiaaGreatDoor
/-
  What l2int of the specification answers.
-/
namespace Go.Proofs.YtbmgkmnibjdpiaaGreatDoor
open Go.RowKit
set_option linter.unusedVariables false

/-- A number of a value. -/
def intB (n : Int) : Bool := decide (-1000000000000 ≤ n) && decide (n ≤ 1000000000000)

set_option maxHeartbeats 800000 in
theorem spec_l2int_any (n : Int) (w : World) :
    Calls Tryz.prog 67 #[.int .i64 n] w fun e w' => e = .returned (.bool (intB n)) ∧ w = w' := by
  by_cases h1 : -1000000000000 ≤ n
  · by_cases h2 : n ≤ 1000000000000
    · have HO : Hid (intB n = true) := by simp [Hid, intB, h1, h2]
      go_enter Tryz.func67, Tryz.ntmps67
      go_wp2
      go_ret
      exact ⟨ret_bool HO.out.symm, rfl⟩
    · have HO : Hid (intB n = false) := by simp [Hid, intB, h2]
      go_enter Tryz.func67, Tryz.ntmps67
      go_wp2
      go_ret
      exact ⟨ret_bool HO.out.symm, rfl⟩
  · have HO : Hid (intB n = false) := by simp [Hid, intB, h1]
    go_enter Tryz.func67, Tryz.ntmps67
    go_wp2
    go_ret
    exact ⟨ret_bool HO.out.symm, rfl⟩
end Go.Proofs.YtbmgkmnibjdpiaaGreatDoor
/-
  bare of the program: it tells whether all fields are nought that a kind does not have.
-/
namespace Go.Proofs.YtbmgkmnibjdpiaaGreatDoor
open Go.RowKit
set_option linter.unusedVariables false
set_option linter.unusedSimpArgs false

/-- All fields are nought that the kind does not have. -/
def bareB (vk vn : Int) (n2 n3 n4 : Nat) : Bool := (decide (vk = 1) || decide (vk = 2) || decide (vn = 0)) && (decide (vk = 3) || decide (n2 = 0)) && (decide (vk = 5) || decide (n3 = 0)) && (decide (vk = 4) || decide (vk = 5) || decide (n4 = 0))

set_option maxHeartbeats 4000000 in
theorem impl_bare_any (vk vn : Int) (a2 a3 a4 : Option Addr) (n2 n3 n4 p2 p3 p4 : Nat) (w : World) :
    Calls Tryz.prog 90 #[.agg #[.int .i64 vk, .int .i64 vn, .slice a2 n2 p2, .slice a3 n3 p3, .slice a4 n4 p4]] w fun e w' => e = .returned (.bool (bareB vk vn n2 n3 n4)) ∧ Below w.heap.size w w' := by
  have Hb : Hid (∀ o : Obj, Below w.heap.size w (w.alloc o)) := fun o => (Below.refl _ _).alloc (Nat.le_refl _) o
  by_cases k1 : vk = 1
  · subst k1
    by_cases an2 : n2 = 0
    · subst an2
      by_cases an3 : n3 = 0
      · subst an3
        by_cases an4 : n4 = 0
        · subst an4
          go_enter Tryz.func90, Tryz.ntmps90
          go_wp2
          go_ret
          exact ⟨ret_bool (by simp [bareB, *]), Hb.out _⟩
        · have bn4 : ¬ (n4 : Int) = 0 := by omega
          go_enter Tryz.func90, Tryz.ntmps90
          go_wp2
          go_ret
          exact ⟨ret_bool (by simp [bareB, *]), Hb.out _⟩
      · have bn3 : ¬ (n3 : Int) = 0 := by omega
        go_enter Tryz.func90, Tryz.ntmps90
        go_wp2
        go_ret
        exact ⟨ret_bool (by simp [bareB, *]), Hb.out _⟩
    · have bn2 : ¬ (n2 : Int) = 0 := by omega
      go_enter Tryz.func90, Tryz.ntmps90
      go_wp2
      go_ret
      exact ⟨ret_bool (by simp [bareB, *]), Hb.out _⟩
  by_cases k2 : vk = 2
  · subst k2
    by_cases an2 : n2 = 0
    · subst an2
      by_cases an3 : n3 = 0
      · subst an3
        by_cases an4 : n4 = 0
        · subst an4
          go_enter Tryz.func90, Tryz.ntmps90
          go_wp2
          go_ret
          exact ⟨ret_bool (by simp [bareB, *]), Hb.out _⟩
        · have bn4 : ¬ (n4 : Int) = 0 := by omega
          go_enter Tryz.func90, Tryz.ntmps90
          go_wp2
          go_ret
          exact ⟨ret_bool (by simp [bareB, *]), Hb.out _⟩
      · have bn3 : ¬ (n3 : Int) = 0 := by omega
        go_enter Tryz.func90, Tryz.ntmps90
        go_wp2
        go_ret
        exact ⟨ret_bool (by simp [bareB, *]), Hb.out _⟩
    · have bn2 : ¬ (n2 : Int) = 0 := by omega
      go_enter Tryz.func90, Tryz.ntmps90
      go_wp2
      go_ret
      exact ⟨ret_bool (by simp [bareB, *]), Hb.out _⟩
  by_cases k3 : vk = 3
  · subst k3
    by_cases an : vn = 0
    · subst an
      by_cases an3 : n3 = 0
      · subst an3
        by_cases an4 : n4 = 0
        · subst an4
          go_enter Tryz.func90, Tryz.ntmps90
          go_wp2
          go_ret
          exact ⟨ret_bool (by simp [bareB, *]), Hb.out _⟩
        · have bn4 : ¬ (n4 : Int) = 0 := by omega
          go_enter Tryz.func90, Tryz.ntmps90
          go_wp2
          go_ret
          exact ⟨ret_bool (by simp [bareB, *]), Hb.out _⟩
      · have bn3 : ¬ (n3 : Int) = 0 := by omega
        go_enter Tryz.func90, Tryz.ntmps90
        go_wp2
        go_ret
        exact ⟨ret_bool (by simp [bareB, *]), Hb.out _⟩
    · go_enter Tryz.func90, Tryz.ntmps90
      go_wp2
      go_ret
      exact ⟨ret_bool (by simp [bareB, *]), Hb.out _⟩
  by_cases k4 : vk = 4
  · subst k4
    by_cases an : vn = 0
    · subst an
      by_cases an2 : n2 = 0
      · subst an2
        by_cases an3 : n3 = 0
        · subst an3
          go_enter Tryz.func90, Tryz.ntmps90
          go_wp2
          go_ret
          exact ⟨ret_bool (by simp [bareB, *]), Hb.out _⟩
        · have bn3 : ¬ (n3 : Int) = 0 := by omega
          go_enter Tryz.func90, Tryz.ntmps90
          go_wp2
          go_ret
          exact ⟨ret_bool (by simp [bareB, *]), Hb.out _⟩
      · have bn2 : ¬ (n2 : Int) = 0 := by omega
        go_enter Tryz.func90, Tryz.ntmps90
        go_wp2
        go_ret
        exact ⟨ret_bool (by simp [bareB, *]), Hb.out _⟩
    · go_enter Tryz.func90, Tryz.ntmps90
      go_wp2
      go_ret
      exact ⟨ret_bool (by simp [bareB, *]), Hb.out _⟩
  by_cases k5 : vk = 5
  · subst k5
    by_cases an : vn = 0
    · subst an
      by_cases an2 : n2 = 0
      · subst an2
        go_enter Tryz.func90, Tryz.ntmps90
        go_wp2
        go_ret
        exact ⟨ret_bool (by simp [bareB, *]), Hb.out _⟩
      · have bn2 : ¬ (n2 : Int) = 0 := by omega
        go_enter Tryz.func90, Tryz.ntmps90
        go_wp2
        go_ret
        exact ⟨ret_bool (by simp [bareB, *]), Hb.out _⟩
    · go_enter Tryz.func90, Tryz.ntmps90
      go_wp2
      go_ret
      exact ⟨ret_bool (by simp [bareB, *]), Hb.out _⟩
  by_cases an : vn = 0
  · subst an
    by_cases an2 : n2 = 0
    · subst an2
      by_cases an3 : n3 = 0
      · subst an3
        by_cases an4 : n4 = 0
        · subst an4
          go_enter Tryz.func90, Tryz.ntmps90
          go_wp2
          go_ret
          exact ⟨ret_bool (by simp [bareB, *]), Hb.out _⟩
        · have bn4 : ¬ (n4 : Int) = 0 := by omega
          go_enter Tryz.func90, Tryz.ntmps90
          go_wp2
          go_ret
          exact ⟨ret_bool (by simp [bareB, *]), Hb.out _⟩
      · have bn3 : ¬ (n3 : Int) = 0 := by omega
        go_enter Tryz.func90, Tryz.ntmps90
        go_wp2
        go_ret
        exact ⟨ret_bool (by simp [bareB, *]), Hb.out _⟩
    · have bn2 : ¬ (n2 : Int) = 0 := by omega
      go_enter Tryz.func90, Tryz.ntmps90
      go_wp2
      go_ret
      exact ⟨ret_bool (by simp [bareB, *]), Hb.out _⟩
  · go_enter Tryz.func90, Tryz.ntmps90
    go_wp2
    go_ret
    exact ⟨ret_bool (by simp [bareB, *]), Hb.out _⟩
end Go.Proofs.YtbmgkmnibjdpiaaGreatDoor
/-
  What a value that may be is, by its depth: 'goodB'; how many parts it has: 'partsV'; what the specification's l2ok answers: 'okI'. Plain mathematics.
-/
namespace Go.Proofs.YtbmgkmnibjdpiaaGreatDoor
open Go.RowKit
set_option linter.unusedVariables false
set_option linter.unusedSimpArgs false

/-- The rules of one part by itself. -/
def shapeB (vk vn : Int) (vs : List Int) (vK : List (List Int)) (nL : Nat) : Bool :=
  bareB vk vn vs.length vK.length nL && (decide (vk = 0) || decide (vk = 6) || (decide (vk = 1) && (decide (vn = 0) || decide (vn = 1))) || (decide (vk = 2) && intB vn) || (decide (vk = 3) && textB vs) || decide (vk = 4) || (decide (vk = 5) && (decide (vK.length = nL) && ascB vK)))

/-- The rules of all parts, and of the depth. -/
def goodB : (d : Nat) → Vl d → Nat → Bool
  | 0, _, _ => false
  | d + 1, v, deep => decide (deep ≤ 5) && (shapeB v.1 v.2.1 v.2.2.1 v.2.2.2.1 v.2.2.2.2.length && v.2.2.2.2.all fun x => goodB d x (deep + 1))

/-- How many parts. -/
def partsV : (d : Nat) → Vl d → Nat
  | 0, _ => 0
  | d + 1, v => 1 + (v.2.2.2.2.map (partsV d)).sum

/-- What l2ok answers. -/
def okI (d : Nat) (v : Vl d) (deep : Nat) (left : Int) : Int := if goodB d v deep = true ∧ (partsV d v : Int) ≤ left then left - partsV d v else -1

theorem okI_yes {d : Nat} {v : Vl d} {deep : Nat} {left : Int} (h : goodB d v deep = true) (h2 : (partsV d v : Int) ≤ left) : okI d v deep left = left - partsV d v := by simp [okI, h, h2]
theorem okI_no {d : Nat} {v : Vl d} {deep : Nat} {left : Int} (h : ¬ (goodB d v deep = true ∧ (partsV d v : Int) ≤ left)) : okI d v deep left = -1 := by simp only [okI, h, if_false]

theorem good_succ (d : Nat) (vk vn : Int) (vs : List Int) (vK : List (List Int)) (vL : List (Vl d)) (deep : Nat) :
    goodB (d + 1) (vk, vn, vs, vK, vL) deep = true ↔ deep ≤ 5 ∧ shapeB vk vn vs vK vL.length = true ∧ ∀ j (h : j < vL.length), goodB d vL[j] (deep + 1) = true := by
  show (decide (deep ≤ 5) && (shapeB vk vn vs vK vL.length && vL.all fun x => goodB d x (deep + 1))) = true ↔ _
  simp only [Bool.and_eq_true, decide_eq_true_eq, List.all_eq_true]
  constructor
  · rintro ⟨h1, h2, h3⟩
    exact ⟨h1, h2, fun j h => h3 _ (List.getElem_mem h)⟩
  · rintro ⟨h1, h2, h3⟩
    refine ⟨h1, h2, fun x hx => ?_⟩
    obtain ⟨j, h, rfl⟩ := List.getElem_of_mem hx
    exact h3 j h

theorem parts_succ (d : Nat) (vk vn : Int) (vs : List Int) (vK : List (List Int)) (vL : List (Vl d)) : partsV (d + 1) (vk, vn, vs, vK, vL) = 1 + pre (partsV d) vL vL.length := by
  rw [pre_all]
  rfl

theorem parts_pos (d : Nat) (v : Vl (d + 1)) : 1 ≤ partsV (d + 1) v := by
  obtain ⟨vk, vn, vs, vK, vL⟩ := v
  rw [parts_succ]
  omega

theorem okI_left {d : Nat} (v : Vl (d + 1)) (deep : Nat) {left : Int} (h : left < 1) : okI (d + 1) v deep left = -1 :=
  okI_no fun ⟨_, h2⟩ => by have := parts_pos d v; omega

theorem okI_deep {d : Nat} (v : Vl (d + 1)) {deep : Nat} (left : Int) (h : 5 < deep) : okI (d + 1) v deep left = -1 := by
  obtain ⟨vk, vn, vs, vK, vL⟩ := v
  exact okI_no fun ⟨h1, _⟩ => by have := ((good_succ _ _ _ _ _ _ _).1 h1).1; omega

theorem okI_shape {d : Nat} {vk vn : Int} {vs : List Int} {vK : List (List Int)} {vL : List (Vl d)} (deep : Nat) (left : Int) (h : shapeB vk vn vs vK vL.length = false) : okI (d + 1) (vk, vn, vs, vK, vL) deep left = -1 :=
  okI_no fun ⟨h1, _⟩ => by have := ((good_succ _ _ _ _ _ _ _).1 h1).2.1; rw [h] at this; simp at this

theorem okI_bare {d : Nat} {vk vn : Int} {vs : List Int} {vK : List (List Int)} {vL : List (Vl d)} (deep : Nat) (left : Int) (h : bareB vk vn vs.length vK.length vL.length = false) : okI (d + 1) (vk, vn, vs, vK, vL) deep left = -1 :=
  okI_shape deep left (by simp [shapeB, h])

theorem okI_kid {d : Nat} {vk vn : Int} {vs : List Int} {vK : List (List Int)} {vL : List (Vl d)} {deep : Nat} {left : Int} {k : Nat} (hk : k < vL.length)
    (h : ¬ (goodB d vL[k] (deep + 1) = true ∧ (partsV d vL[k] : Int) ≤ left - 1 - pre (partsV d) vL k)) : okI (d + 1) (vk, vn, vs, vK, vL) deep left = -1 := by
  refine okI_no fun ⟨h1, h2⟩ => h ⟨((good_succ _ _ _ _ _ _ _).1 h1).2.2 k hk, ?_⟩
  rw [parts_succ] at h2
  have h3 := pre_succ (partsV d) vL k hk
  have h4 := pre_le (partsV d) vL (k + 1)
  have h5 := pre_all (partsV d) vL
  omega

theorem okI_all {d : Nat} {vk vn : Int} {vs : List Int} {vK : List (List Int)} {vL : List (Vl d)} {deep : Nat} {left : Int} (h1 : deep ≤ 5) (h2 : shapeB vk vn vs vK vL.length = true)
    (h3 : ∀ j (h : j < vL.length), goodB d vL[j] (deep + 1) = true) (h4 : (pre (partsV d) vL vL.length : Int) ≤ left - 1) : okI (d + 1) (vk, vn, vs, vK, vL) deep left = left - 1 - pre (partsV d) vL vL.length := by
  rw [okI_yes ((good_succ _ _ _ _ _ _ _).2 ⟨h1, h2, h3⟩) (by rw [parts_succ]; omega), parts_succ]
  omega

theorem okI_leaf {d : Nat} {vk vn : Int} {vs : List Int} {vK : List (List Int)} {deep : Nat} {left : Int} (h1 : deep ≤ 5) (h2 : shapeB vk vn vs vK 0 = true) (h4 : 1 ≤ left) : okI (d + 1) (vk, vn, vs, vK, []) deep left = left - 1 := by
  have := okI_all (d := d) (vL := []) (deep := deep) (left := left) h1 (by simpa using h2) (by intro j h; simp at h) (by simp [pre]; omega)
  simpa [pre] using this
end Go.Proofs.YtbmgkmnibjdpiaaGreatDoor
/-
  l2ok of the specification, at every depth: 'okI'.
-/
namespace Go.Proofs.YtbmgkmnibjdpiaaGreatDoor
open Go.RowKit
set_option linter.unusedVariables false
set_option linter.unusedSimpArgs false

/-- The contract of l2ok at depth d. -/
def OkAt (d : Nat) : Prop := ∀ (N : Nat) (c : Value × Value × Value × Value × Value) (v : Vl d) (deep : Nat) (left : Int) (w : World), VSeg (fun b => b < N) w d c v → N ≤ w.heap.size → deep ≤ 6 → 0 ≤ left → left ≤ 40 →
  Calls Tryz.prog 57 #[.agg #[c.1, c.2.1, c.2.2.1, c.2.2.2.1, c.2.2.2.2], .int .i64 deep, .int .i64 left] w fun e w' => e = .returned (.int .i64 (okI d v deep left)) ∧ Below w.heap.size w w'

/-- One of two answers. -/
def sel (p : Bool) (x : Int) : Int := cond p x (-1)
theorem sel_yes {p : Bool} (x : Int) (h : p = true) : sel p x = x := by rw [h]; rfl
theorem sel_no {p : Bool} (x : Int) (h : p = false) : sel p x = -1 := by rw [h]; rfl

set_option maxHeartbeats 4000000 in
set_option maxRecDepth 100000 in
theorem l2ok_null (vk : Int) (hvk : vk = 0 ∨ vk = 6) (a2 a3 a4 : Option Addr) (p2 p3 p4 : Nat) (deep : Nat) (left : Int) (w : World) (h1 : 1 ≤ left) (h2 : left ≤ 40) (h3 : deep ≤ 5) :
    Calls Tryz.prog 57 #[.agg #[.int .i64 vk, .int .i64 0, .slice a2 0 p2, .slice a3 0 p3, .slice a4 0 p4], .int .i64 deep, .int .i64 left] w fun e w' => e = .returned (.int .i64 (left - 1)) ∧ Below w.heap.size w w' := by
  have Hb : Hid (∀ o : Obj, Below w.heap.size w (w.alloc o)) := fun o => (Below.refl _ _).alloc (Nat.le_refl _) o
  have h4 : ¬ left - 1 < 0 := by omega
  have h5 : ¬ (5 : Int) < (deep : Int) := by omega
  rcases hvk with rfl | rfl <;>
  · go_enter Tryz.func57, Tryz.ntmps57
    go_wp2
    go_ret
    exact ⟨rfl, Hb.out _⟩

set_option maxHeartbeats 4000000 in
set_option maxRecDepth 100000 in
theorem l2ok_none (vk : Int) (k0 : ¬ vk = 0) (k1 : ¬ vk = 1) (k2 : ¬ vk = 2) (k3 : ¬ vk = 3) (k4 : ¬ vk = 4) (k5 : ¬ vk = 5) (k6 : ¬ vk = 6) (a2 a3 a4 : Option Addr) (p2 p3 p4 : Nat) (deep : Nat) (left : Int) (w : World) (h1 : 1 ≤ left) (h2 : left ≤ 40) (h3 : deep ≤ 5) :
    Calls Tryz.prog 57 #[.agg #[.int .i64 vk, .int .i64 0, .slice a2 0 p2, .slice a3 0 p3, .slice a4 0 p4], .int .i64 deep, .int .i64 left] w fun e w' => e = .returned (.int .i64 (-1)) ∧ Below w.heap.size w w' := by
  have Hb : Hid (∀ o : Obj, Below w.heap.size w (w.alloc o)) := fun o => (Below.refl _ _).alloc (Nat.le_refl _) o
  have h4 : ¬ left - 1 < 0 := by omega
  have h5 : ¬ (5 : Int) < (deep : Int) := by omega
  go_enter Tryz.func57, Tryz.ntmps57
  go_wp2
  go_ret
  exact ⟨rfl, Hb.out _⟩

set_option maxHeartbeats 4000000 in
set_option maxRecDepth 100000 in
theorem l2ok_bool (vn : Int) (a2 a3 a4 : Option Addr) (p2 p3 p4 : Nat) (deep : Nat) (left : Int) (w : World) (h1 : 1 ≤ left) (h2 : left ≤ 40) (h3 : deep ≤ 5) :
    Calls Tryz.prog 57 #[.agg #[.int .i64 1, .int .i64 vn, .slice a2 0 p2, .slice a3 0 p3, .slice a4 0 p4], .int .i64 deep, .int .i64 left] w fun e w' => e = .returned (.int .i64 (sel (decide (vn = 0) || decide (vn = 1)) (left - 1))) ∧ Below w.heap.size w w' := by
  have Hb : Hid (∀ o : Obj, Below w.heap.size w (w.alloc o)) := fun o => (Below.refl _ _).alloc (Nat.le_refl _) o
  have h4 : ¬ left - 1 < 0 := by omega
  have h5 : ¬ (5 : Int) < (deep : Int) := by omega
  by_cases hn : vn < 0
  · have HO : Hid ((sel (decide (vn = 0) || decide (vn = 1)) (left - 1)) = -1) := sel_no _ (by simp; omega)
    go_enter Tryz.func57, Tryz.ntmps57
    go_wp2
    go_ret
    exact ⟨ret_i64 (by rw [HO.out]), Hb.out _⟩
  by_cases hm : 1 < vn
  · have HO : Hid ((sel (decide (vn = 0) || decide (vn = 1)) (left - 1)) = -1) := sel_no _ (by simp; omega)
    go_enter Tryz.func57, Tryz.ntmps57
    go_wp2
    go_ret
    exact ⟨ret_i64 (by rw [HO.out]), Hb.out _⟩
  have HO : Hid ((sel (decide (vn = 0) || decide (vn = 1)) (left - 1)) = left - 1) := sel_yes _ (by simp; omega)
  go_enter Tryz.func57, Tryz.ntmps57
  go_wp2
  go_ret
  exact ⟨ret_i64 (by rw [HO.out]), Hb.out _⟩

set_option maxHeartbeats 4000000 in
set_option maxRecDepth 100000 in
theorem l2ok_int (vn : Int) (a2 a3 a4 : Option Addr) (p2 p3 p4 : Nat) (deep : Nat) (left : Int) (w : World) (h1 : 1 ≤ left) (h2 : left ≤ 40) (h3 : deep ≤ 5) :
    Calls Tryz.prog 57 #[.agg #[.int .i64 2, .int .i64 vn, .slice a2 0 p2, .slice a3 0 p3, .slice a4 0 p4], .int .i64 deep, .int .i64 left] w fun e w' => e = .returned (.int .i64 (sel (intB vn) (left - 1))) ∧ Below w.heap.size w w' := by
  have Hb : Hid (∀ o : Obj, Below w.heap.size w (w.alloc o)) := fun o => (Below.refl _ _).alloc (Nat.le_refl _) o
  have h4 : ¬ left - 1 < 0 := by omega
  have h5 : ¬ (5 : Int) < (deep : Int) := by omega
  have HI : Hid (∀ wx, Calls Tryz.prog 67 #[.int .i64 vn] wx fun e w' => e = .returned (.bool (intB vn)) ∧ wx = w') := fun wx => spec_l2int_any vn wx
  by_cases hi : intB vn = true
  · have HO : Hid ((sel (intB vn) (left - 1)) = left - 1) := sel_yes _ hi
    rw [hi] at HI
    clear hi
    go_enter Tryz.func57, Tryz.ntmps57
    go_wp2_with fail
    refine (HI.out _).mono ?_
    rintro e w1 ⟨rfl, e1⟩
    obtain rfl := e1
    go_wp2
    go_ret
    exact ⟨ret_i64 (by rw [HO.out]), Hb.out _⟩
  · have HO : Hid ((sel (intB vn) (left - 1)) = -1) := sel_no _ (by simpa using hi)
    have hi' : intB vn = false := by simpa using hi
    rw [hi'] at HI
    clear hi hi'
    go_enter Tryz.func57, Tryz.ntmps57
    go_wp2_with fail
    refine (HI.out _).mono ?_
    rintro e w1 ⟨rfl, e1⟩
    obtain rfl := e1
    go_wp2
    go_ret
    exact ⟨ret_i64 (by rw [HO.out]), Hb.out _⟩

set_option maxHeartbeats 4000000 in
set_option maxRecDepth 100000 in
theorem l2ok_text (vs : List Int) (a2 a3 a4 : Option Addr) (p2 p3 p4 : Nat) (deep : Nat) (left : Int) (w : World) (hs : Seg w a2 vs) (hm : vs.length ≤ maxLen) (h1 : 1 ≤ left) (h2 : left ≤ 40) (h3 : deep ≤ 5) :
    Calls Tryz.prog 57 #[.agg #[.int .i64 3, .int .i64 0, .slice a2 vs.length p2, .slice a3 0 p3, .slice a4 0 p4], .int .i64 deep, .int .i64 left] w fun e w' => e = .returned (.int .i64 (sel (textB vs) (left - 1))) ∧ Below w.heap.size w w' := by
  have b0 : ∀ o : Obj, Below w.heap.size w (w.alloc o) := fun o => (Below.refl _ _).alloc (Nat.le_refl _) o
  have Hb : Hid (∀ o : Obj, Below w.heap.size w (w.alloc o)) := b0
  have h4 : ¬ left - 1 < 0 := by omega
  have h5 : ¬ (5 : Int) < (deep : Int) := by omega
  have HI : Hid (∀ o : Obj, Calls Tryz.prog 68 #[.slice a2 vs.length p2] (w.alloc o) fun e w' => e = .returned (.bool (textB vs)) ∧ (w.alloc o) = w') := fun o => spec_l2text_any a2 p2 vs _ (hs.grow (b0 o)) hm
  by_cases hi : textB vs = true
  · have HO : Hid ((sel (textB vs) (left - 1)) = left - 1) := sel_yes _ hi
    rw [hi] at HI
    clear hi b0 hs
    go_enter Tryz.func57, Tryz.ntmps57
    go_wp2_with fail
    refine (HI.out _).mono ?_
    rintro e w1 ⟨rfl, e1⟩
    obtain rfl := e1
    go_wp2
    go_ret
    exact ⟨ret_i64 (by rw [HO.out]), Hb.out _⟩
  · have HO : Hid ((sel (textB vs) (left - 1)) = -1) := sel_no _ (by simpa using hi)
    have hi' : textB vs = false := by simpa using hi
    rw [hi'] at HI
    clear hi hi' b0 hs
    go_enter Tryz.func57, Tryz.ntmps57
    go_wp2_with fail
    refine (HI.out _).mono ?_
    rintro e w1 ⟨rfl, e1⟩
    obtain rfl := e1
    go_wp2
    go_ret
    exact ⟨ret_i64 (by rw [HO.out]), Hb.out _⟩
end Go.Proofs.YtbmgkmnibjdpiaaGreatDoor
/-
  l2ok of the specification at lists and maps.
-/
namespace Go.Proofs.YtbmgkmnibjdpiaaGreatDoor
open Go.RowKit
set_option linter.unusedVariables false
set_option linter.unusedSimpArgs false

/-- What holds ahead of the round k of l2ok. -/
def L2K (d : Nat) (vL : List (Vl d)) (deep : Nat) (left : Int) (k : Nat) (l : Value) : Prop :=
  k ≤ vL.length ∧ l = .int .i64 (left - 1 - pre (partsV d) vL k) ∧ (pre (partsV d) vL k : Int) ≤ left - 1 ∧ ∀ j (h : j < vL.length), j < k → goodB d vL[j] (deep + 1) = true

theorem L2K_zero {d : Nat} {vL : List (Vl d)} {deep : Nat} {left : Int} (h : 1 ≤ left) : L2K d vL deep left 0 (.int .i64 (left - 1)) :=
  ⟨Nat.zero_le _, by rw [pre_zero]; simp, by rw [pre_zero]; simp; omega, fun j _ h => by omega⟩

theorem L2K_succ {d : Nat} {vL : List (Vl d)} {deep : Nat} {left : Int} {k : Nat} {l : Value} (h : L2K d vL deep left k l) (hk : k < vL.length) (hg : goodB d vL[k] (deep + 1) = true) (hp : (partsV d vL[k] : Int) ≤ left - 1 - pre (partsV d) vL k) :
    L2K d vL deep left (k + 1) (.int .i64 (left - 1 - pre (partsV d) vL k - partsV d vL[k])) := by
  have h3 := pre_succ (partsV d) vL k hk
  refine ⟨hk, by rw [h3]; simp; omega, by rw [h3]; simp; omega, fun j hj hjk => ?_⟩
  by_cases e : j = k
  · subst e; exact hg
  · exact h.2.2.2 j hj (by omega)

set_option maxHeartbeats 4000000 in
set_option maxRecDepth 100000 in
theorem l2ok_list (d : Nat) (ih : OkAt d) (N : Nat) (vL : List (Vl d)) (a2 a3 : Option Addr) (p2 p3 : Nat) (x : Value) (deep : Nat) (left : Int) (w : World) (hx : LSeg (fun b => b < N) w d x vL) (hN : N ≤ w.heap.size) (h1 : 1 ≤ left) (h2 : left ≤ 40) (h3 : deep ≤ 5) :
    Calls Tryz.prog 57 #[.agg #[.int .i64 4, .int .i64 0, .slice a2 0 p2, .slice a3 0 p3, x], .int .i64 deep, .int .i64 left] w fun e w' => e = .returned (.int .i64 (okI (d + 1) (4, 0, [], [], vL) deep left)) ∧ Below w.heap.size w w' := by
  have HX := hide' hx
  obtain ⟨a4, p4, rfl, hlc, hcm, ka, _⟩ := hx
  unfold maxLen at hcm
  have b0 : ∀ o : Obj, Below w.heap.size w (w.alloc o) := fun o => (Below.refl _ _).alloc (Nat.le_refl _) o
  have h4 : ¬ left - 1 < 0 := by omega
  have h5 : ¬ (5 : Int) < (deep : Int) := by omega
  have HI := hide' ih
  have Hb := hide' b0
  have H3 := hide' h3
  have H1 := hide' h1
  generalize hO : Obj.cells #[.int .i64 4, .int .i64 0, .slice a2 0 p2, .slice a3 0 p3, .slice a4 vL.length p4] 37 = ob
  have HOb := hide' hO
  clear ih b0 hO
  go_enter Tryz.func57, Tryz.ntmps57
  go_wp2
  go_loopw [2, 7] (fun l i wr => ∃ k : Nat, i = .int .i64 k ∧ L2K d vL deep left k l ∧ Hid (Below (w.alloc ob).heap.size (w.alloc ob) wr)) (fun _ i _ => vL.length - (intOf i).toNat)
  case atStart => exact ⟨0, rfl, L2K_zero H1.out, by rw [← HOb.out]; exact Below.refl _ _⟩
  case round =>
    obtain ⟨k, rfl, hK, hbel⟩ := hrel
    have hHK := hide' hK
    obtain ⟨hk, rfl, hple, _⟩ := hK
    have hrow := box_row hbel.out
    rw [← HOb.out] at hrow
    obtain ⟨y0, y1, y2, y3, y4, _⟩ := row5 hrow
    have B := Below.on (Hb.out ob) hbel.out
    clear hrow
    by_cases hlt : k < vL.length
    · have hlt' : (k : Int) < (vL.length : Int) := by omega
      obtain ⟨b, off, c, rfl, h5', hv⟩ := HX.out.at B hN hlt
      obtain ⟨c0, c1, c2, c3, c4⟩ := c
      obtain ⟨q0, q1, q2, q3, q4⟩ := h5'
      simp only at q0 q1 q2 q3 q4
      have hz := B.size
      have HC : Hid (∀ wx, Below w.heap.size w wx → Calls Tryz.prog 57 #[.agg #[c0, c1, c2, c3, c4], .int .i64 ((deep : Int) + 1), .int .i64 (left - 1 - pre (partsV d) vL k)] wx fun e w' => e = .returned (.int .i64 (okI d vL[k] (deep + 1) (left - 1 - pre (partsV d) vL k))) ∧ Below wx.heap.size wx w') := by
        intro wx hx
        have := HI.out N (c0, c1, c2, c3, c4) vL[k] (deep + 1) (left - 1 - pre (partsV d) vL k) wx (hv wx hx) (by have := hx.size; omega) (by omega) (by omega) (by omega)
        rw [Int.natCast_add] at this
        exact this
      have HN : Hid (¬ (goodB d vL[k] (deep + 1) = true ∧ (partsV d vL[k] : Int) ≤ left - 1 - pre (partsV d) vL k) → okI (d + 1) (4, 0, [], [], vL) deep left = -1) := fun h => okI_kid hlt h
      have HS : Hid (goodB d vL[k] (deep + 1) = true → (partsV d vL[k] : Int) ≤ left - 1 - pre (partsV d) vL k → L2K d vL deep left (k + 1) (.int .i64 (left - 1 - pre (partsV d) vL k - partsV d vL[k]))) := fun h h' => L2K_succ hHK.out hlt h h'
      by_cases hg : goodB d vL[k] (deep + 1) = true ∧ (partsV d vL[k] : Int) ≤ left - 1 - pre (partsV d) vL k
      · rw [okI_yes hg.1 hg.2] at HC
        have HF := hide' (HS.out hg.1 hg.2)
        have hnn : ¬ (left - 1 - pre (partsV d) vL k - partsV d vL[k] < 0) := by omega
        have hup : left - 1 - pre (partsV d) vL k - partsV d vL[k] ≤ 40 := by omega
        generalize partsV d vL[k] = q at *
        generalize pre (partsV d) vL k = p at *
        clear HN HS hg hv
        go_wp2_with fail
        go_quiet (fail)
        go_wp2_with fail
        refine (HC.out _ (below_drewN B _)).mono ?_
        rintro e w1 ⟨rfl, b1⟩
        have B1 : Hid (Below (w.alloc ob).heap.size (w.alloc ob) w1) := Below.on (below_drewN hbel.out _) b1
        clear q0 q1 q2 q3 q4 b1
        go_wp2
        go_roundw
        case rel => exact ⟨k + 1, by go_num, HF.out, B1⟩
        case measure => simp [intOf]; omega
      · rw [okI_no hg] at HC
        have HF := hide' (HN.out hg)
        generalize pre (partsV d) vL k = p at *
        clear HN HS hg hv
        go_wp2_with fail
        go_quiet (fail)
        go_wp2_with fail
        refine (HC.out _ (below_drewN B _)).mono ?_
        rintro e w1 ⟨rfl, b1⟩
        have B1 : Below w.heap.size w w1 := Below.on (below_drewN B _) b1
        clear q0 q1 q2 q3 q4 b1
        go_wp2
        go_ret
        exact ⟨ret_i64 (by rw [HF.out]), B1⟩
    · have hkn : k = vL.length := by omega
      have hlt' : ¬ (k : Int) < (vL.length : Int) := by omega
      have HF : Hid (okI (d + 1) (4, 0, [], [], vL) deep left = left - 1 - pre (partsV d) vL k) := by
        show okI (d + 1) (4, 0, [], [], vL) deep left = _
        rw [okI_all H3.out (by simp [shapeB, bareB]) (fun j h => hHK.out.2.2.2 j h (by omega)) (by rw [← hkn]; exact hple), ← hkn]
      clear hkn
      go_wp2
      go_ret
      exact ⟨ret_i64 (by rw [HF.out]), B⟩
end Go.Proofs.YtbmgkmnibjdpiaaGreatDoor
