/-
  Texts that a law leans on, one behind the other; no statement is proved here.
-/
import Derived.Test.YtndnidmeompieaaGreatDoorPk2
import Derived.Lib.SlBytesConst
import Derived.Test.YtndnidmeompieaaGreatDoorPk0
import Derived.Test.YtndnidmeompieaaGreatDoorPk6
import Derived.Test.YtndnidmeompieaaGreatDoorPk10
import Derived.Test.YtndnidmeompieaaGreatDoorPk11
import Derived.Test.YtndnidmeompieaaGreatDoorPk5
import Derived.Test.YtndnidmeompieaaGreatDoorPk3
/-
  AddrName and AddrOk of the program.
-/
namespace Go.Proofs.YtndnidmeompieaaGreatDoor
open Go.RowKit
set_option linter.unusedVariables false
set_option linter.unusedSimpArgs false

/-- What AddrName answers. -/
def NameEnd (xs : List Int) (w : World) (e : Ending) (w' : World) : Prop := ∃ v, e = .returned v ∧ Bts w' w.heap.size v (addrN xs) ∧ Below w.heap.size w w'

theorem name_end {xs : List Int} {w wx w' : World} {v : Value} {zs : List Int} (h1 : Below w.heap.size w wx) (h2 : Below wx.heap.size wx w') (h3 : Bts w' wx.heap.size v zs) (h4 : addrN xs = zs) : NameEnd xs w (.returned v) w' := ⟨_, rfl, by rw [h4]; exact h3.mono h1.size, Below.on h1 h2⟩

set_option maxHeartbeats 3200000 in
set_option maxRecDepth 100000 in
theorem impl_AddrName_any (a : Option Addr) (c : Nat) (xs : List Int) (w : World) (ha : Seg w a xs) (hl : xs.length ≤ 2097152) (hcap : xs.length ≤ c) (hc2 : c ≤ maxLen) (ka : a = none → c = 0) (hE : Errs w) :
    Calls Tryz.prog 47 #[.slice a xs.length c] w (NameEnd xs w) := by
  have hB0 : Below w.heap.size w (w.alloc (.cells #[.int .u8 91] 5 (1, 2))) := (Below.refl _ _).alloc (Nat.le_refl _) _
  have hg : (w.alloc (.cells #[.int .u8 91] 5 (1, 2))).cell? ⟨w.heap.size, 0, none⟩ = some (.int .u8 91) := (cell_of_row _ w.heap.size 0 #[.int .u8 91] 5 (1, 2) (heap_alloc_new w _)).trans rfl
  have HCut := hide' (cut_any a c w.heap.size xs _ (ha.grow hB0) (by omega) hcap hc2 ka hg)
  have hkl := cutI_le xs
  have hlt : (xs.take (cutI xs)).length = cutI xs := by simp; omega
  have hrl : (xs.drop (cutI xs + 1)).length ≤ 2097152 := by simp; omega
  have htl := trimR_len 93 (xs.drop (cutI xs + 1))
  have htt := trimR_take 93 (xs.drop (cutI xs + 1))
  have hll2 : (trimL 34 (trimR 34 (trimR 93 (xs.drop (cutI xs + 1))))).length ≤ (trimR 93 (xs.drop (cutI xs + 1))).length := by
    have h1 := congrArg List.length (trimL_drop 34 (trimR 34 (trimR 93 (xs.drop (cutI xs + 1)))))
    have h2 := trimR_len 34 (trimR 93 (xs.drop (cutI xs + 1)))
    simp at h1
    omega
  have HW : Hid (∀ n : Int, (∀ u : Nat, u ≤ 99 → trimR 93 (xs.drop (cutI xs + 1)) = decI u → n = u) → cutI xs < xs.length →
      (xs = addrItem (xs.take (cutI xs)) n ∨ xs = addrKey (xs.take (cutI xs)) (trimL 34 (trimR 34 (trimR 93 (xs.drop (cutI xs + 1))))) → addrN xs = nameC (xs.take (cutI xs))) ∧ (¬ xs = addrItem (xs.take (cutI xs)) n → ¬ xs = addrKey (xs.take (cutI xs)) (trimL 34 (trimR 34 (trimR 93 (xs.drop (cutI xs + 1))))) → addrN xs = [])) := by
    intro n hn hc
    refine addrN_way hc hn fun k hk e => ?_
    rw [e, (trim_name hk).1, (trim_name hk).2]
  have HBare : Hid (¬ cutI xs < xs.length → addrN xs = nameC (xs.take (cutI xs))) := by
    intro h
    have e : cutI xs = xs.length := by omega
    rw [addrN_bare e, e, List.take_length]
  have HF := hide' (ha.front (cutI xs) hkl)
  unfold CutEnd at HCut
  generalize xs.take (cutI xs) = pre at *
  generalize xs.drop (cutI xs + 1) = r at *
  generalize hmore : decide (cutI xs < xs.length) = more at *
  generalize hk : cutI xs = k at *
  generalize hrn : r.length = rn at *
  have Hk := hide' hlt
  have Hrn := hide' hrn
  clear hlt hrn hg
  generalize hn0 : xs.length = n at *
  have Hn0 : Hid (xs.length = n) := hn0
  clear hn0
  have hcs := Lib.run_convert_bytes_const (P := Tryz.prog) w 26 5 #[.int .u8 91] 1 1 Tryz.underlying26 Tryz.underlying5
  go_enter Tryz.func47, Tryz.ntmps47
  go_wp2_with fail
  refine HCut.out.mono ?_
  rintro e w1 ⟨b1, a2, c2, rfl, hS2, hc2a, hc2b⟩
  have B1 := Below.on hB0 b1
  have HT1 := hide' (hS2.grow b1)
  have HTR : Hid (Calls Tryz.prog 56 #[.slice a2 rn c2, .string ⟨#[93]⟩] w1 fun e w' => e = .returned (.slice a2 (trimR 93 r).length c2) ∧ Below w1.heap.size w1 w') := by
    have := trimRight_any a2 c2 r w1 HT1.out (by rw [Hrn.out]; exact hc2a) hc2b
    rw [Hrn.out] at this
    exact this
  clear HCut hS2 b1
  go_wp2_with fail
  refine HTR.out.mono ?_
  rintro e w2 ⟨rfl, b2⟩
  have B2 := Below.on B1 b2
  have HT2 : Hid (Seg w2 a2 (trimR 93 r)) := by
    show Seg w2 a2 (trimR 93 r)
    have := (HT1.out.grow b2).front (trimR 93 r).length (by rw [Hrn.out]; exact htl)
    rw [← htt] at this
    exact this
  have hconv := conv_seg c2 HT2.out
  have HAt := hide' (atoi_any (trimR 93 r) w2 (by omega) (hE.grow B2))
  have HTl : Hid ((trimR 93 r).length ≤ c2) := Nat.le_trans htl hc2a
  clear HTR b2 B1 HT1
  generalize hts : trimR 93 r = t at *
  generalize hsx : strOf t = sx at *
  generalize htn : t.length = tn at *
  have Htn := hide' htn
  clear htn hts hsx
  go_wp2_with fail
  refine HAt.out.mono ?_
  rintro e w3 ⟨b3, i, ve, rfl, hi⟩
  have B3 := Below.on B2 b3
  have HT3 := hide' (HT2.out.grow b3)
  have HTm : Hid (Calls Tryz.prog 58 #[.slice a2 tn c2, .string ⟨#[34]⟩] w3 fun e w' => Below w3.heap.size w3 w' ∧ ∃ a3 c3, e = .returned (.slice a3 (trimL 34 (trimR 34 t)).length c3) ∧ Seg w3 a3 (trimL 34 (trimR 34 t)) ∧ (a3 = none → c3 = 0)) := by
    have := trim_any a2 c2 t w3 HT3.out (by rw [Htn.out]; exact HTl.out) hc2b
    rw [Htn.out] at this
    exact this
  clear HAt b3 B2 HT2 HT3 hconv
  go_wp2_with fail
  refine HTm.out.mono ?_
  rintro e w4 ⟨b4, a3, c3, rfl, hS3, k3⟩
  have B4 := Below.on B3 b4
  have HS4 := hide' (hS3.grow b4)
  clear HTm hS3 b4 B3
  generalize trimL 34 (trimR 34 t) = key at *
  have hkeyl : key.length ≤ 2097152 := by have := Htn.out; omega
  have HNA : Hid (∀ wx, Below w.heap.size w wx → Calls Tryz.prog 62 #[.slice a k c] wx fun e w' => ∃ v, e = .returned v ∧ Bts w' wx.heap.size v (nameC pre) ∧ Below wx.heap.size wx w') := by
    intro wx hx
    have := nameAlone_any a c pre wx (HF.out.grow hx) ka (by rw [Hk.out]; unfold maxLen; omega)
    rw [Hk.out] at this
    exact this
  cases more with
  | false =>
    have hkn : ¬ k < n := of_decide_eq_false hmore
    have HR : Hid (addrN xs = nameC pre) := HBare.out hkn
    clear HW HBare hi
    go_wp2_with fail
    refine (HNA.out _ B4).mono ?_
    rintro e w5 ⟨v, rfl, hv, b5⟩
    go_wp2
    go_ret
    exact name_end B4 b5 hv HR.out
  | true =>
    have hkn : k < n := of_decide_eq_true hmore
    have HWi := hide' (HW.out i hi hkn)
    clear HW HBare hi
    have HAI : Hid (Calls Tryz.prog 60 #[.slice a k c, .int .i64 i] w4 fun e w' => ∃ v, e = .returned v ∧ Bts w' w4.heap.size v (addrItem pre i) ∧ Below w4.heap.size w4 w') := by
      have := impl_AddrItem_any a c pre i w4 (HF.out.grow B4) ka (by rw [Hk.out]; unfold maxLen; omega)
      rw [Hk.out] at this
      exact this
    go_wp2_with fail
    refine HAI.out.mono ?_
    rintro e w5 ⟨v5, rfl, hv5, b5⟩
    obtain ⟨a5, c5, rfl, _⟩ := hv5.shape
    have B5 := Below.on B4 b5
    have HEq : Hid (Calls Tryz.prog 59 #[.slice a5 (addrItem pre i).length c5, .slice a n c] w5 fun e w' => e = .returned (.bool (decide (addrItem pre i = xs))) ∧ w' = w5) := by
      have := equal_any a5 a c5 c (addrItem pre i) xs w5 hv5.seg (ha.grow B5)
      rw [Hn0.out] at this
      exact this
    have b45 := b5
    clear HAI hv5 b5
    by_cases h1 : addrItem pre i = xs
    · have HR : Hid (addrN xs = nameC pre) := HWi.out.1 (.inl h1.symm)
      rw [decide_eq_true h1] at HEq
      generalize (addrItem pre i).length = l5 at HEq
      clear HWi h1
      go_wp2_with fail
      refine HEq.out.mono ?_
      rintro e w6 ⟨rfl, rfl⟩
      go_wp2_with fail
      refine (HNA.out _ B5).mono ?_
      rintro e w7 ⟨v, rfl, hv, b7⟩
      go_wp2
      go_ret
      exact name_end B5 b7 hv HR.out
    · have HWj := hide' (HWi.out.2 (fun e => h1 e.symm))
      have HWk := hide' (fun h => HWi.out.1 (.inr h))
      rw [decide_eq_false h1] at HEq
      generalize (addrItem pre i).length = l5 at HEq
      have HAK : Hid (Calls Tryz.prog 61 #[.slice a k c, .slice a3 key.length c3] w5 fun e w' => ∃ v, e = .returned v ∧ Bts w' w5.heap.size v (addrKey pre key) ∧ Below w5.heap.size w5 w') := by
        have := impl_AddrKey_any a a3 c c3 pre key w5 (HF.out.grow B5) (HS4.out.grow (by exact b45)) ka k3 (by rw [Hk.out]; omega) hkeyl
        rw [Hk.out] at this
        exact this
      clear HWi h1
      go_wp2_with fail
      refine HEq.out.mono ?_
      rintro e w6 ⟨rfl, rfl⟩
      go_wp2_with fail
      refine HAK.out.mono ?_
      rintro e w7 ⟨v7, rfl, hv7, b7⟩
      obtain ⟨a7, c7, rfl, _⟩ := hv7.shape
      have B7 := Below.on B5 b7
      have HEk : Hid (Calls Tryz.prog 59 #[.slice a7 (addrKey pre key).length c7, .slice a n c] w7 fun e w' => e = .returned (.bool (decide (addrKey pre key = xs))) ∧ w' = w7) := by
        have := equal_any a7 a c7 c (addrKey pre key) xs w7 hv7.seg (ha.grow B7)
        rw [Hn0.out] at this
        exact this
      clear HAK HEq hv7 b7
      by_cases h2 : addrKey pre key = xs
      · have HR : Hid (addrN xs = nameC pre) := HWk.out h2.symm
        rw [decide_eq_true h2] at HEk
        generalize (addrKey pre key).length = l7 at HEk
        clear HWj HWk h2
        go_wp2_with fail
        refine HEk.out.mono ?_
        rintro e w8 ⟨rfl, rfl⟩
        go_wp2_with fail
        refine (HNA.out _ B7).mono ?_
        rintro e w9 ⟨v, rfl, hv, b9⟩
        go_wp2
        go_ret
        exact name_end B7 b9 hv HR.out
      · have HR : Hid (addrN xs = []) := HWj.out (fun e => h2 e.symm)
        rw [decide_eq_false h2] at HEk
        generalize (addrKey pre key).length = l7 at HEk
        clear HWj HWk h2
        go_wp2_with fail
        refine HEk.out.mono ?_
        rintro e w8 ⟨rfl, rfl⟩
        go_wp2
        go_ret
        exact name_end B7 (Below.refl _ _) (bts_nil _ _) HR.out

set_option maxHeartbeats 800000 in
theorem impl_AddrOk_any (a : Option Addr) (c : Nat) (xs : List Int) (w : World) (ha : Seg w a xs) (hl : xs.length ≤ 2097152) (hcap : xs.length ≤ c) (hc2 : c ≤ maxLen) (ka : a = none → c = 0) (hE : Errs w) :
    Calls Tryz.prog 31 #[.slice a xs.length c] w fun e w' => e = .returned (.bool (addrB xs)) ∧ Below w.heap.size w w' := by
  have HN := hide' (impl_AddrName_any a c xs w ha hl hcap hc2 ka hE)
  have Hb : Hid (addrB xs = decide (0 < (addrN xs).length)) := (addrN_len xs).symm
  go_enter Tryz.func31, Tryz.ntmps31
  go_wp2_with fail
  refine HN.out.mono ?_
  rintro e w1 ⟨v, rfl, hv, b1⟩
  obtain ⟨a1, c1, rfl, _⟩ := hv.shape
  clear hv
  generalize (addrN xs).length = l at Hb
  go_wp2
  go_ret
  exact ⟨ret_bool Hb.out.symm, b1⟩
end Go.Proofs.YtndnidmeompieaaGreatDoor
/-
  actOk and hasAddr of the program.
-/
namespace Go.Proofs.YtndnidmeompieaaGreatDoor
open Go.RowKit
set_option linter.unusedVariables false
set_option linter.unusedSimpArgs false

set_option maxHeartbeats 1600000 in
theorem actOk_any (k : Int) (w : World) : Calls Tryz.prog 30 #[.int .i64 k] w fun e w' => e = .returned (.bool (decide (1 ≤ k) && decide (k ≤ 4))) ∧ w = w' := by
  by_cases h1 : 1 ≤ k
  · by_cases h4 : k ≤ 4
    · go_enter Tryz.func30, Tryz.ntmps30
      go_wp2
      go_ret
      exact ⟨by simp [h1, h4], rfl⟩
    · go_enter Tryz.func30, Tryz.ntmps30
      go_wp2
      go_ret
      exact ⟨by simp [h1, h4], rfl⟩
  · go_enter Tryz.func30, Tryz.ntmps30
    go_wp2
    go_ret
    exact ⟨by rw [decide_eq_false (p := 1 ≤ k) (by omega)]; rfl, rfl⟩
end Go.Proofs.YtndnidmeompieaaGreatDoor
/-
  Plans: a list of acts and a number: their size, copied, held against one another; Asks of both.
-/
namespace Go.Proofs.YtndnidmeompieaaGreatDoor
open Go.RowKit
set_option linter.unusedVariables false
set_option linter.unusedSimpArgs false

theorem RLSg.mono {R R' : Nat → Prop} {w : World} {d : Nat} {x : Value} {l : List (Rcd d)} (h : RLSg R w d x l) (hr : ∀ b, R b → R' b) : RLSg R' w d x l := by
  obtain ⟨a, c, e, h1, h2, h3, h4⟩ := h
  refine ⟨a, c, e, h1, h2, h3, ?_⟩
  rcases h4 with h4 | ⟨b, off, ha, hb, hc⟩
  · exact .inl h4
  · refine .inr ⟨b, off, ha, hr _ hb, fun i hi => ?_⟩
    obtain ⟨cs, h5, h6⟩ := hc i hi
    exact ⟨cs, h5, h6.mono hr⟩

set_option maxHeartbeats 1600000 in
theorem szPlan_any (d N : Nat) (x : Value) (l : List (Rcd d)) (s : Int) (w : World) (hx : RLSg (fun b => b < N) w d x l) (hN : N ≤ w.heap.size) :
    Calls Tryz.prog 4 #[.agg #[x, .int .i64 s], .int .i64 1048576] w (SzREnd d l w) := by
  have HA : Hid (∀ o : Obj, Below w.heap.size w (w.alloc o)) := fun o => (Below.refl _ _).alloc (Nat.le_refl _) o
  have HS : Hid (∀ o : Obj, Calls Tryz.prog 13 #[x, .int .i64 1048576] (w.alloc o) (SzREnd d l (w.alloc o))) := fun o => szActS_any d N x l (w.alloc o) (hx.agree (agree_below ((HA.out o).mono hN))) (by have := (HA.out o).size; omega)
  obtain ⟨a, p, rfl⟩ := hx.form
  clear hx
  show Calls _ _ _ _ fun e w' => SzREnd d l w e w'
  generalize hn : l.length = n at *
  clear hn
  go_enter Tryz.func4, Tryz.ntmps4
  go_wp2_with fail
  refine (HS.out _).mono ?_
  rintro e w1 ⟨hcase, b1⟩
  have B1 := hide' (Below.on (HA.out _) b1)
  clear b1 HS
  rcases hcase with rfl | ⟨m, hm0, hm1, rfl, hlen, hall⟩
  · go_wp2
    go_ret
    exact ⟨.inl rfl, B1.out⟩
  · have HAll := hide' hall
    have HLn := hide' hlen
    have hm' : ¬ m < 0 := by omega
    clear hall hlen
    go_wp2
    go_ret
    exact ⟨.inr ⟨m, hm0, hm1, rfl, HLn.out, HAll.out⟩, B1.out⟩

/-- What toPlan leaves. -/
def PlEnd (d : Nat) (l : List (Rcd d)) (s : Int) (w : World) (e : Ending) (w' : World) : Prop := ∃ a c, e = .returned (.agg #[.slice a l.length c, .int .i64 s]) ∧ RLSg (fun b => b < w'.heap.size) w' d (.slice a l.length c) l ∧ Below w.heap.size w w'

set_option maxHeartbeats 1600000 in
theorem toPlan_any (d N : Nat) (x : Value) (l : List (Rcd d)) (s : Int) (w : World) (hx : RLSg (fun b => b < N) w d x l) (hN : N ≤ w.heap.size) (hn : l.length ≤ 1048576) (hz : ∀ i (h : i < l.length), RSz d l[i]) :
    Calls Tryz.prog 6 #[.agg #[x, .int .i64 s]] w (PlEnd d l s w) := by
  have H3 := hide' (bx_start w 24 30 #[x, .int .i64 s] #[.slice none 0 0, .int .i64 0] #[.slice none 0 0, .int .i64 0])
  have HX : Hid (∀ wx, Below w.heap.size w wx → Calls Tryz.prog 19 #[x] wx (RcSEnd d l wx)) := fun wx hb => toActS_any d N x l wx (hx.agree (agree_below (hb.mono hN))) (by have := hb.size; omega) hn hz
  obtain ⟨a, p, rfl⟩ := hx.form
  clear hx hz
  show Calls _ _ _ _ fun e w' => PlEnd d l s w e w'
  generalize hll : l.length = ll at *
  have Hll := hide' hll
  clear hll
  go_enter Tryz.func6, Tryz.ntmps6
  go_wp2_with fail
  refine (HX.out _ H3.out.1).mono ?_
  rintro e w1 ⟨ua, uc, rfl, hO, b1⟩
  rw [Hll.out] at hO ⊢
  have hq := bx_below H3.out b1
  have h3s := H3.out.2.2.2.2
  have hz1 := b1.size
  obtain ⟨x0, x1⟩ := two_row hq.2.1
  obtain ⟨y0, y1⟩ := two_row hq.2.2.1
  obtain ⟨c0, c1⟩ := two_row hq.2.2.2.1
  have yf0 := frozen_of_row _ _ 0 _ _ hq.2.2.1
  have yf1 := frozen_of_row _ _ 1 _ _ hq.2.2.1
  have cf0 := frozen_of_row _ _ 0 _ _ hq.2.2.2.1
  have cf1 := frozen_of_row _ _ 1 _ _ hq.2.2.2.1
  have gA := grownBy_trans (grown1 w1 (w.heap.size + 1 + 1) 0 (.slice ua ll uc)) (grown1 _ (w.heap.size + 1 + 1) 1 (.int .i64 s))
  have hrow0 : ((w1.setCell ⟨w.heap.size + 1 + 1, 0, none⟩ (.slice ua ll uc)).setCell ⟨w.heap.size + 1 + 1, 1, none⟩ (.int .i64 s)).heap[w.heap.size + 1]? = some (.cells #[.slice none 0 0, .int .i64 0] 30 (0, 0)) := (gA.block _ (by have := hq.2.2.2.2; omega) (by simp)).trans hq.2.2.1
  have gB := grownBy_trans (grown1 ((w1.setCell ⟨w.heap.size + 1 + 1, 0, none⟩ (.slice ua ll uc)).setCell ⟨w.heap.size + 1 + 1, 1, none⟩ (.int .i64 s)) (w.heap.size + 1) 0 (.slice ua ll uc)) (grown1 _ (w.heap.size + 1) 1 (.int .i64 s))
  have Hk := hide' (two_row (heap_setCell_same _ _ 1 _ _ (.int .i64 s) (heap_setCell_same _ _ 0 _ _ (.slice ua ll uc) hrow0)))
  have HB := hide' ((hq.1.grown gA hq.1.size (by intro j hj; simp at hj; omega)).grown gB (by have := gA.size; have := hq.1.size; omega) (by intro j hj; simp at hj; omega))
  have HF := hide' (((hO.agree (fun b hb => gA.block b hb.2 (by have := hb.1; simp; omega))).agree (fun b hb => gB.block b (by have := gA.size; have := hb.2; omega) (by have := hb.1; simp; omega))).mono (R' := fun b => b < ((((w1.setCell ⟨w.heap.size + 1 + 1, 0, none⟩ (.slice ua ll uc)).setCell ⟨w.heap.size + 1 + 1, 1, none⟩ (.int .i64 s)).setCell ⟨w.heap.size + 1, 0, none⟩ (.slice ua ll uc)).setCell ⟨w.heap.size + 1, 1, none⟩ (.int .i64 s)).heap.size) fun b hb => by have := gA.size; have := gB.size; have := hb.2; omega)
  clear hO b1 hq H3 HX gA gB hrow0 h3s hz1 hn
  go_wp2_with fail
  obtain ⟨u0, u1⟩ := Hk.out
  refine bodyPost_ret (v := .agg #[.slice ua ll uc, .int .i64 s]) (by simp [results, Tryz.results6, go_sem, u0, u1]) rfl ?_
  exact ⟨ua, uc, by rw [Hll.out], by rw [Hll.out]; exact HF.out, HB.out⟩

set_option maxHeartbeats 1600000 in
theorem eqPlan_any (d N : Nat) (x y : Value) (l : List (Rcd d)) (s : Int) (w : World) (hx : RLSg (fun b => b < N) w d x l) (hy : RLSg (fun b => b < N) w d y l) (hN : N ≤ w.heap.size) (hll : l.length ≤ 1048576) (hz : ∀ i (h : i < l.length), RSz d l[i]) :
    Calls Tryz.prog 9 #[.agg #[x, .int .i64 s], .agg #[y, .int .i64 s]] w fun e w' => e = .returned (.bool true) ∧ Below w.heap.size w w' := by
  have Hb : Hid (∀ o o' : Obj, Below w.heap.size w ((w.alloc o).alloc o')) := fun o o' => ((Below.refl _ _).alloc (Nat.le_refl _) o).alloc (by simp) o'
  have HC : Hid (∀ wx, Below w.heap.size w wx → Calls Tryz.prog 23 #[x, y] wx fun e w' => e = .returned (.bool true) ∧ Below wx.heap.size wx w') := fun wx hb => eqActS_any d N x y l wx (hx.agree (agree_below (hb.mono hN))) (hy.agree (agree_below (hb.mono hN))) (by have := hb.size; omega) hll hz
  have Hbox : Hid (∀ o o' wx, Below ((w.alloc o).alloc o').heap.size ((w.alloc o).alloc o') wx → wx.heap[w.heap.size]? = some o ∧ wx.heap[w.heap.size + 1]? = some o') := fun o o' wx h => ⟨(h.block _ (by simp; omega)).trans (two_boxes w o o').1, (h.block _ (by simp)).trans (two_boxes w o o').2⟩
  obtain ⟨a, cap, rfl⟩ := hx.form
  obtain ⟨a', cap', rfl⟩ := hy.form
  clear hx hy hz hll
  generalize l.length = ll at *
  go_enter Tryz.func9, Tryz.ntmps9
  go_wp2_with fail
  refine (HC.out _ (Hb.out _ _)).mono ?_
  rintro e w1 ⟨rfl, b1⟩
  obtain ⟨r1, r2⟩ := Hbox.out _ _ _ b1
  obtain ⟨x0, x1⟩ := two_row r1
  obtain ⟨y0, y1⟩ := two_row r2
  have B1 := hide' (Below.on (Hb.out _ _) b1)
  clear b1 r1 r2
  go_wp2
  go_ret
  exact ⟨rfl, B1.out⟩

end Go.Proofs.YtndnidmeompieaaGreatDoor
/-
  toEvent, toAct: a record copied, in blocks of its own.
-/
namespace Go.Proofs.YtndnidmeompieaaGreatDoor
open Go.RowKit
set_option linter.unusedVariables false
set_option linter.unusedSimpArgs false

/-- Nine cells that read as a record of the call's own, in the blocks B. -/
def ROwn (w : World) (d : Nat) (cs : List Value) (it : Rcd d) (B : List Nat) : Prop :=
  ∃ c1 c3 c4 c5 c6 c7 c8 B1 B2 B3, cs = [.int .i64 it.1, c1, .int .i64 it.2.2.1, c3, c4, c5, c6, c7, c8] ∧ TOwn w c1 it.2.1 B1 ∧ VOwn w d (c3, c4, c5, c6, c7) it.2.2.2.1 B2 ∧ KOwn w c8 it.2.2.2.2 B3 ∧ B = B1 ++ (B2 ++ B3) ∧
    ∃ s1 s2, (∀ b ∈ B1, b < s1) ∧ (∀ b ∈ B2, s1 ≤ b ∧ b < s2) ∧ (∀ b ∈ B3, s2 ≤ b) ∧ s1 ≤ s2

/-- Owned, in a window. -/
def TW (lo hi : Nat) (w : World) (u : Value) (xs : List Int) : Prop := ∃ B, TOwn w u xs B ∧ ∀ b ∈ B, lo ≤ b ∧ b < hi
def VW (lo hi : Nat) (w : World) (d : Nat) (c : Value × Value × Value × Value × Value) (v : Vl d) : Prop := ∃ B, VOwn w d c v B ∧ ∀ b ∈ B, lo ≤ b ∧ b < hi
def KW (lo hi : Nat) (w : World) (u : Value) (ks : List (List Int)) : Prop := ∃ B, KOwn w u ks B ∧ ∀ b ∈ B, lo ≤ b ∧ b < hi
variable {lo hi d : Nat} {w wx w1 w' : World}
theorem TW.agree {u : Value} {xs : List Int} (h : TW lo hi w u xs) (ha : Agree (fun b => lo ≤ b ∧ b < hi) w w') : TW lo hi w' u xs := by
  obtain ⟨B, h1, h2⟩ := h
  exact ⟨B, h1.agree fun b hb => ha b (h2 b hb), h2⟩
theorem VW.agree {c : Value × Value × Value × Value × Value} {v : Vl d} (h : VW lo hi w d c v) (ha : Agree (fun b => lo ≤ b ∧ b < hi) w w') : VW lo hi w' d c v := by
  obtain ⟨B, h1, h2⟩ := h
  exact ⟨B, VOwn.agree d h1 fun b hb => ha b (h2 b hb), h2⟩
theorem KW.agree {u : Value} {ks : List (List Int)} (h : KW lo hi w u ks) (ha : Agree (fun b => lo ≤ b ∧ b < hi) w w') : KW lo hi w' u ks := by
  obtain ⟨B, h1, h2⟩ := h
  exact ⟨B, h1.agree fun b hb => ha b (h2 b hb), h2⟩
theorem TW.mono {lo' : Nat} {u : Value} {xs : List Int} (h : TW lo hi w u xs) (hl : lo' ≤ lo) : TW lo' hi w u xs := by
  obtain ⟨B, h1, h2⟩ := h
  exact ⟨B, h1, fun b hb => by have := h2 b hb; omega⟩
theorem VW.mono {lo' : Nat} {c : Value × Value × Value × Value × Value} {v : Vl d} (h : VW lo hi w d c v) (hl : lo' ≤ lo) : VW lo' hi w d c v := by
  obtain ⟨B, h1, h2⟩ := h
  exact ⟨B, h1, fun b hb => by have := h2 b hb; omega⟩
theorem KW.mono {lo' : Nat} {u : Value} {ks : List (List Int)} (h : KW lo hi w u ks) (hl : lo' ≤ lo) : KW lo' hi w u ks := by
  obtain ⟨B, h1, h2⟩ := h
  exact ⟨B, h1, fun b hb => by have := h2 b hb; omega⟩
theorem win_turn (hg : wx.grownBy w1 (some (w.heap.size + 1 + 1))) (h1 : w.heap.size + 3 ≤ lo) (h2 : hi ≤ wx.heap.size) : Agree (fun b => lo ≤ b ∧ b < hi) wx w1 := fun k hk => hg.block k (by omega) (by simp; omega)
theorem win_below (b : Below wx.heap.size wx w1) (h2 : hi ≤ wx.heap.size) : Agree (fun b => lo ≤ b ∧ b < hi) wx w1 := fun k hk => b.block k (by omega)

theorem ROwn.agree {cs : List Value} {it : Rcd d} {B : List Nat} (h : ROwn w d cs it B) (ha : Agree (fun b => b ∈ B) w w') : ROwn w' d cs it B := by
  obtain ⟨c1, c3, c4, c5, c6, c7, c8, B1, B2, B3, e, h1, h2, h3, rfl, hs⟩ := h
  exact ⟨c1, c3, c4, c5, c6, c7, c8, B1, B2, B3, e, h1.agree fun b hb => ha b (by simp [hb]), VOwn.agree d h2 fun b hb => ha b (by simp [hb]), h3.agree fun b hb => ha b (by simp [hb]), rfl, hs⟩
theorem ROwn.lt {cs : List Value} {it : Rcd d} {B : List Nat} (h : ROwn w d cs it B) : ∀ b ∈ B, b < w.heap.size := by
  obtain ⟨c1, c3, c4, c5, c6, c7, c8, B1, B2, B3, e, h1, h2, h3, rfl, hs⟩ := h
  intro b hb
  simp only [List.mem_append] at hb
  rcases hb with hb | hb | hb
  · exact h1.lt b hb
  · exact VOwn.lt d h2 b hb
  · exact h3.lt b hb
theorem ROwn.on {cs : List Value} {it : Rcd d} {B : List Nat} (h : ROwn w d cs it B) (hb : Below w.heap.size w w') : ROwn w' d cs it B := h.agree fun b hb' => hb.block b (h.lt b hb')
theorem ROwn.read {cs : List Value} {it : Rcd d} {B : List Nat} (h : ROwn w d cs it B) : RSg (fun b => b < w.heap.size) w d cs it := by
  have hlt := h.lt
  obtain ⟨c1, c3, c4, c5, c6, c7, c8, B1, B2, B3, e, h1, h2, h3, rfl, hs⟩ := h
  exact ⟨c1, c3, c4, c5, c6, c7, c8, e, h1.seg.mono fun b hb => hlt b (by simp [hb]), VSeg.mono (fun b hb => hlt b (by simp [hb])) d (VOwn.seg d h2), h3.seg.mono fun b hb => hlt b (by simp [hb])⟩

/-- What toEvent, toAct leave. -/
def RcEndO (d : Nat) (it : Rcd d) (w : World) (e : Ending) (w' : World) : Prop := ∃ cs, e = .returned (.agg cs.toArray) ∧ ∃ B, ROwn w' d cs it B ∧ (∀ b ∈ B, w.heap.size ≤ b ∧ b < w'.heap.size) ∧ Below w.heap.size w w'

set_option maxHeartbeats 3200000 in
set_option maxRecDepth 100000 in
theorem toActO_any (d N : Nat) (cs : List Value) (it : Rcd d) (w : World) (h : RSg (fun b => b < N) w d cs it) (hN : N ≤ w.heap.size) (hz : RSz d it) :
    Calls Tryz.prog 29 #[.agg cs.toArray] w (RcEndO d it w) := by
  obtain ⟨na, np, bk, bn, a2, l2, p2, a3, l3, p3, a4, l4, p4, xa, xp, rfl, ht, hv, hk⟩ := h.form
  obtain ⟨k, nm, mn, by', ks⟩ := it
  obtain ⟨z0, z1, z2⟩ := hz
  simp only at ht hv hk z0 z1 z2 ⊢
  have hA : ∀ wx, Below w.heap.size w wx → Agree (fun b => b < N) w wx := fun wx hb => agree_below (hb.mono hN)
  have HT : Hid (∀ wx, Below w.heap.size w wx → w.heap.size + 3 ≤ wx.heap.size → Calls Tryz.prog 44 #[.slice na nm.length np] wx fun e w' => ∃ g c, e = .returned (.slice (some ⟨g, 0, none⟩) nm.length c) ∧ TW wx.heap.size w'.heap.size w' (.slice (some ⟨g, 0, none⟩) nm.length c) nm ∧ Below wx.heap.size wx w') := fun wx hb hs => by
    obtain ⟨_, _, e1, s1, _⟩ := ht.agree (hA wx hb)
    simp at e1
    obtain ⟨rfl, _⟩ := e1
    refine (toByteS_any _ _ nm wx s1 (by omega)).mono ?_
    rintro e w' ⟨rfl, hB, b⟩
    refine ⟨_, _, rfl, ⟨_, tOwn_new hB, fun b' hb' => ?_⟩, b⟩
    have h1 := (tOwn_new hB).lt b' hb'
    simp at hb'
    exact ⟨by omega, h1⟩
  have HV : Hid (∀ wx, Below w.heap.size w wx → w.heap.size + 3 ≤ wx.heap.size → Calls Tryz.prog 45 #[.agg #[.int .i64 bk, .int .i64 bn, .slice a2 l2 p2, .slice a3 l3 p3, .slice a4 l4 p4]] wx fun e w' => ∃ c0 c1 c2 c3 c4, e = .returned (.agg #[c0, c1, c2, c3, c4]) ∧ VW wx.heap.size w'.heap.size w' d (c0, c1, c2, c3, c4) by' ∧ Below wx.heap.size wx w') := fun wx hb hs => by
    refine (toValue_any d N (.int .i64 bk, .int .i64 bn, .slice a2 l2 p2, .slice a3 l3 p3, .slice a4 l4 p4) by' wx (VSeg.agree (hA wx hb) d hv) (by have := hb.size; omega) z1).mono ?_
    rintro e w' ⟨c0, c1, c2, c3, c4, rfl, B, hO, hB, b⟩
    exact ⟨_, _, _, _, _, rfl, ⟨B, hO, hB⟩, b⟩
  have HK : Hid (∀ wx, Below w.heap.size w wx → w.heap.size + 3 ≤ wx.heap.size → Calls Tryz.prog 46 #[.slice xa ks.length xp] wx fun e w' => ∃ a c, e = .returned (.slice a ks.length c) ∧ KW wx.heap.size w'.heap.size w' (.slice a ks.length c) ks ∧ Below wx.heap.size wx w') := fun wx hb hs => by
    obtain ⟨q1, q2⟩ := keys_small z2
    refine (toByteSS_any N _ ks wx (hk.agree (hA wx hb)) (by have := hb.size; omega) q1 q2).mono ?_
    rintro e w' ⟨u, rfl, B, hO, hB, b⟩
    have hO' := hO
    obtain ⟨a, c, rfl, _⟩ := hO.seg
    exact ⟨a, c, rfl, ⟨B, hO', hB⟩, b⟩

  clear ht hv hk h hA
  have hst0 := hide' (bx_start w 60 43 #[.int .i64 k, .slice na nm.length np, .int .i64 mn, .int .i64 bk, .int .i64 bn, .slice a2 l2 p2, .slice a3 l3 p3, .slice a4 l4 p4, .slice xa ks.length xp] #[.int .i64 0, .slice none 0 0, .int .i64 0, .int .i64 0, .int .i64 0, .slice none 0 0, .slice none 0 0, .slice none 0 0, .slice none 0 0] #[.int .i64 k, .slice none 0 0, .int .i64 0, .int .i64 0, .int .i64 0, .slice none 0 0, .slice none 0 0, .slice none 0 0, .slice none 0 0])
  generalize hn0 : nm.length = s0 at *
  generalize hn1 : ks.length = kl at *
  have Hn0 := hide' hn0
  have Hn1 := hide' hn1
  clear hn0 hn1 z0 z1 z2
  go_enter Tryz.func29, Tryz.ntmps29
  go_wp2_with fail
  refine (HT.out _ hst0.out.1 hst0.out.2.2.2.2).mono ?_
  rintro e w1 ⟨g1, c1, rfl, hT1, b1⟩
  have hq := bx_below hst0.out b1
  have hs1 := bx_set hq 1 (.slice (some ⟨g1, 0, none⟩) s0 c1) rfl
  have hs1' := hide' (bx_set hs1 2 (.int .i64 mn) rfl)
  have hg1 := grownBy_trans (grown1 w1 (w.heap.size + 1 + 1) 1 (.slice (some ⟨g1, 0, none⟩) s0 c1)) (grown1 _ (w.heap.size + 1 + 1) 2 (.int .i64 mn))
  have hz1 := hst0.out.2.2.2.2
  have hy1 := b1.size
  have HT1 := hide' ((hT1.mono hz1).agree (win_turn hg1 (Nat.le_refl _) (Nat.le_refl _)))
  have hx1 := hg1.size
  have hb1 : w.heap.size + 3 ≤ w1.heap.size := Nat.le_trans hz1 hy1
  have u2 := cell_of_row _ _ 2 _ _ _ hq.2.1
  have u3 := cell_of_row _ _ 3 _ _ _ hq.2.1
  have u4 := cell_of_row _ _ 4 _ _ _ hq.2.1
  have u5 := cell_of_row _ _ 5 _ _ _ hq.2.1
  have u6 := cell_of_row _ _ 6 _ _ _ hq.2.1
  have u7 := cell_of_row _ _ 7 _ _ _ hq.2.1
  have t1 := cell_of_row _ _ 1 _ _ _ hq.2.2.2.1
  have t2 := cell_of_row _ _ 2 _ _ _ hq.2.2.2.1
  have f1 := frozen_of_row _ _ 1 _ _ hq.2.2.2.1
  have f2 := frozen_of_row _ _ 2 _ _ hq.2.2.2.1
  simp at u2 u3 u4 u5 u6 u7 t1 t2 hs1'
  clear hT1 b1 hq hs1 hg1 hst0 HT
  go_wp2_with fail
  refine (HV.out _ hs1'.out.1 hs1'.out.2.2.2.2).mono ?_
  rintro e w2 ⟨v0, v1, v2, v3, v4, rfl, hV2, b2⟩
  obtain ⟨BV, hBV, hBV'⟩ := hV2
  obtain ⟨vk, vn, e2, m2, q2, e3, m3, q3, e4, m4, q4, rfl, rfl, rfl, rfl, rfl⟩ := VOwn.form d hBV
  have hV2 : VW _ _ _ _ _ _ := ⟨BV, hBV, hBV'⟩
  have hq := bx_below hs1'.out b2
  have hs2 := hide' (bx_set5 hq 3 (.int .i64 vk) (.int .i64 vn) (.slice e2 m2 q2) (.slice e3 m3 q3) (.slice e4 m4 q4) rfl)
  have hg2 := set5_grown w2 (w.heap.size + 1 + 1) 3 (.int .i64 vk) (.int .i64 vn) (.slice e2 m2 q2) (.slice e3 m3 q3) (.slice e4 m4 q4)
  have hb2 : w1.heap.size ≤ w2.heap.size := Nat.le_trans hx1 b2.size
  have hx2 := hg2.size
  have HT2 := hide' ((HT1.out.agree (win_below b2 hx1)).agree (win_turn hg2 (Nat.le_refl _) hb2))
  have HV2 := hide' ((hV2.mono hx1).agree (win_turn hg2 hb1 (Nat.le_refl _)))
  have x8 := cell_of_row _ _ 8 _ _ _ hq.2.1
  have r3 := cell_of_row _ _ 3 _ _ _ hq.2.2.2.1
  have r4 := cell_of_row _ _ 4 _ _ _ hq.2.2.2.1
  have r5 := cell_of_row _ _ 5 _ _ _ hq.2.2.2.1
  have r6 := cell_of_row _ _ 6 _ _ _ hq.2.2.2.1
  have r7 := cell_of_row _ _ 7 _ _ _ hq.2.2.2.1
  have k3 := frozen_of_row _ _ 3 _ _ hq.2.2.2.1
  have k4 := frozen_of_row _ _ 4 _ _ hq.2.2.2.1
  have k5 := frozen_of_row _ _ 5 _ _ hq.2.2.2.1
  have k6 := frozen_of_row _ _ 6 _ _ hq.2.2.2.1
  have k7 := frozen_of_row _ _ 7 _ _ hq.2.2.2.1
  simp at x8 r3 r4 r5 r6 r7 hs2
  clear hV2 b2 hq hg2 hs1' HV HT1 u2 u3 u4 u5 u6 u7 t1 t2 f1 f2
  go_wp2_with fail
  refine (HK.out _ hs2.out.1 hs2.out.2.2.2.2).mono ?_
  rintro e w3 ⟨ka, kc, rfl, hK3, b3⟩
  have hq := bx_below hs2.out b3
  have hs3 := hide' (bx_set hq 8 (.slice ka kl kc) rfl)
  have hg3 := grown1 w3 (w.heap.size + 1 + 1) 8 (.slice ka kl kc)
  have hb3 : w2.heap.size ≤ w3.heap.size := Nat.le_trans hx2 b3.size
  have hx3 := hg3.size
  have HT3 := hide' ((HT2.out.agree (win_below b3 (Nat.le_trans hb2 hx2))).agree (win_turn hg3 (Nat.le_refl _) (Nat.le_trans hb2 hb3)))
  have HV3 := hide' ((HV2.out.agree (win_below b3 hx2)).agree (win_turn hg3 hb1 hb3))
  have HK3 := hide' ((hK3.mono hx2).agree (win_turn hg3 (Nat.le_trans hb1 hb2) (Nat.le_refl _)))
  have r8 := cell_of_row _ _ 8 _ _ _ hq.2.2.2.1
  have k8 := frozen_of_row _ _ 8 _ _ hq.2.2.2.1
  simp at r8 hs3
  clear hK3 b3 hq hg3 hs2 HK HT2 HV2 x8 r3 r4 r5 r6 r7 k3 k4 k5 k6 k7
  go_upto_region 7 with fail
  generalize w3.setCell ⟨w.heap.size + 1 + 1, 8, none⟩ (.slice ka kl kc) = wA at *
  clear r8 k8
  have hr := range_of_row (cs := [.int .i64 k, .slice (some ⟨g1, 0, none⟩) s0 c1, .int .i64 mn, .int .i64 vk, .int .i64 vn, .slice e2 m2 q2, .slice e3 m3 q3, .slice e4 m4 q4, .slice ka kl kc]) hs3.out.2.2.2.1
  have hth : wA.there (w.heap.size + 1) 0 9 := there_of_row hs3.out.2.2.1
  have hone : ∀ v ∈ [Value.int .i64 k, .slice (some ⟨g1, 0, none⟩) s0 c1, .int .i64 mn, .int .i64 vk, .int .i64 vn, .slice e2 m2 q2, .slice e3 m3 q3, .slice e4 m4 q4, .slice ka kl kc], v.oneCell' = true := by
    intro v hv
    simp only [List.mem_cons, List.not_mem_nil, or_false] at hv
    rcases hv with rfl | rfl | rfl | rfl | rfl | rfl | rfl | rfl | rfl <;> rfl
  have hld := run_loadVar_mid (P := Tryz.prog) _ _ _ 43 _ _ (World.rangeAt_setCells_same wA (w.heap.size + 1) 0 [.int .i64 k, .slice (some ⟨g1, 0, none⟩) s0 c1, .int .i64 mn, .int .i64 vk, .int .i64 vn, .slice e2 m2 q2, .slice e3 m3 q3, .slice e4 m4 q4, .slice ka kl kc] hth) Tryz.underlying43 rfl (by kernel_rfl)
  have hg := grown_setCells (w.heap.size + 1) [.int .i64 k, .slice (some ⟨g1, 0, none⟩) s0 c1, .int .i64 mn, .int .i64 vk, .int .i64 vn, .slice e2 m2 q2, .slice e3 m3 q3, .slice e4 m4 q4, .slice ka kl kc] 0 wA
  go_wp2_with (first | (refine wpList_load_mid rfl 43 (.tmp 3) (by rfl) (w.heap.size + 1 + 1) 0 (by rfl) _ _ hr Tryz.underlying43 rfl (by kernel_rfl) ?_) | (refine wpList_store_mid rfl 43 (.tmp 2) (.tmp 22) (by rfl) (w.heap.size + 1) 0 #[.int .i64 k, .slice (some ⟨g1, 0, none⟩) s0 c1, .int .i64 mn, .int .i64 vk, .int .i64 vn, .slice e2 m2 q2, .slice e3 m3 q3, .slice e4 m4 q4, .slice ka kl kc] (by rfl) (by rfl) hth (by kernel_rfl) (all_oneCell_toArray hone) ?_))
  refine bodyPost_ret (v := .agg #[.int .i64 k, .slice (some ⟨g1, 0, none⟩) s0 c1, .int .i64 mn, .int .i64 vk, .int .i64 vn, .slice e2 m2 q2, .slice e3 m3 q3, .slice e4 m4 q4, .slice ka kl kc]) (results_cell 2 43 Tryz.results29 (by rfl) hld) rfl ?_
  have hAg : ∀ lo hi, w.heap.size + 3 ≤ lo → hi ≤ wA.heap.size → Agree (fun b => lo ≤ b ∧ b < hi) wA (wA.setCells (w.heap.size + 1) 0 [.int .i64 k, .slice (some ⟨g1, 0, none⟩) s0 c1, .int .i64 mn, .int .i64 vk, .int .i64 vn, .slice e2 m2 q2, .slice e3 m3 q3, .slice e4 m4 q4, .slice ka kl kc]) := fun lo hi h1 h2 b hb => hg.block b (by omega) (by simp; omega)
  have hsz := hg.size
  obtain ⟨B1, o1, d1⟩ := HT3.out.agree (hAg _ _ (Nat.le_refl _) (by omega))
  obtain ⟨B2, o2, d2⟩ := HV3.out.agree (hAg _ _ (by omega) (by omega))
  obtain ⟨B3, o3, d3⟩ := HK3.out.agree (hAg _ _ (by omega) (by omega))
  refine ⟨_, rfl, B1 ++ (B2 ++ B3), ⟨_, _, _, _, _, _, _, B1, B2, B3, rfl, o1, o2, o3, rfl, w1.heap.size, w2.heap.size, fun b hb => (d1 b hb).2, fun b hb => d2 b hb, fun b hb => (d3 b hb).1, by omega⟩, fun b hb => ?_, hs3.out.1.grown hg (by have := hs3.out.2.2.2.2; omega) (by intro j hj; simp at hj; omega)⟩
  simp only [List.mem_append] at hb
  rcases hb with hb | hb | hb
  · have := d1 b hb
    omega
  · have := d2 b hb
    omega
  · have := d3 b hb
    omega
end Go.Proofs.YtndnidmeompieaaGreatDoor
/-
  The laws' own helpers markByteS and heldByteS: the one writes running numbers into a row that is the call's own, the other finds them there.
-/
namespace Go.Proofs.YtndnidmeompieaaGreatDoor
open Go.RowKit
set_option linter.unusedVariables false

/-- The running numbers, as bytes. -/
def marks (m n : Nat) : List Int := (List.range n).map fun i => (((m + i) % 256 : Nat) : Int)

theorem length_marks (m n : Nat) : (marks m n).length = n := by simp [marks]
theorem marks_byt (m n : Nat) : ∀ x ∈ marks m n, Byt x := by
  intro x hx
  simp only [marks, List.mem_map] at hx
  obtain ⟨i, _, rfl⟩ := hx
  unfold Byt
  omega
theorem marks_at (m n k : Nat) (h : k < n) : (marks m n).getD k 0 = (((m + k) % 256 : Nat) : Int) := by simp [marks, h]

/-- What a row holds after k of the marks. -/
def marked (xs : List Int) (m k : Nat) : List Value := cellsOf (marks m k) ++ cellsOf (xs.drop k)
theorem marked_zero (xs : List Int) (m : Nat) : marked xs m 0 = cellsOf xs := by simp [marked, marks, cellsOf]
theorem marked_all (xs : List Int) (m : Nat) : marked xs m xs.length = cellsOf (marks m xs.length) := by simp [marked, cellsOf]
theorem length_marked (xs : List Int) (m k : Nat) (h : k ≤ xs.length) : (marked xs m k).length = xs.length := by simp [marked, marks, cellsOf]; omega
theorem marked_set (xs : List Int) (m k : Nat) (h : k < xs.length) : (marked xs m k).set k (.int .u8 (((m + k) % 256 : Nat) : Int)) = marked xs m (k + 1) := by
  apply List.ext_getElem
  · simp [marked, marks, cellsOf]; omega
  · intro i h1 h2
    simp only [marked, marks, cellsOf, List.getElem_set, List.getElem_append, List.length_map, List.length_range]
    by_cases hik : k = i
    · subst hik
      simp
    · by_cases hlt : i < k
      · have e2 : i < k + 1 := by omega
        simp [hik, hlt, e2]
      · have e2 : ¬ i < k + 1 := by omega
        have e3 : k + 1 + (i - (k + 1)) = k + (i - k) := by omega
        simp [hik, hlt, e2, e3]



set_option maxHeartbeats 400000 in
theorem markByteS_any (base : Nat) (a : Option Addr) (cap : Nat) (xs : List Int) (m : Nat) (w : World) (hB : Bts w base (.slice a xs.length cap) xs) (hl : xs.length ≤ 2097152) (hm : m ≤ 1125899906842624) :
    Calls Tryz.prog 11 #[.slice a xs.length cap, .int .i64 m] w fun e w' => e = .returned (.int .i64 ((m + xs.length : Nat) : Int)) ∧ Bts w' base (.slice a xs.length cap) (marks m xs.length) ∧ w.grownBy w' (Value.slice a xs.length cap).ownBlock := by
  have hown0 := hB.2
  generalize hn : xs.length = n at hown0
  have Hn : Hid (xs.length = n) := hn
  have hln : n ≤ 2097152 := by omega
  clear hn hl hB
  have hr : ∀ wr : World, ∀ k, k < n → wr.ownsRow base 5 1 (.slice a n cap) n (marked xs m k) → ∃ g, a = some ⟨g, 0, none⟩ := by
    intro wr k hk h
    rcases h.2 with ⟨h1, h2⟩ | ⟨g, cp, cur, h1, _⟩
    · omega
    · simp at h1
      exact ⟨g, h1.1⟩
  have Hr : Hid (∀ wr : World, ∀ k, k < n → wr.ownsRow base 5 1 (.slice a n cap) n (marked xs m k) → ∃ g, a = some ⟨g, 0, none⟩) := hr
  clear hr
  go_enter Tryz.func11, Tryz.ntmps11
  go_wp2
  go_loopw [1, 5] (fun m' i wr => ∃ k : Nat, k ≤ n ∧ i = .int .i64 k ∧ m' = .int .i64 ((m + k : Nat) : Int) ∧ wr.ownsRow base 5 1 (.slice a n cap) n (marked xs m k) ∧ w.grownBy wr (Value.slice a n cap).ownBlock) (fun _ i _ => n - (intOf i).toNat)
  case atStart => exact ⟨0, Nat.zero_le _, rfl, by simp, by rw [marked_zero]; exact hown0, World.grownBy.refl _ _⟩
  case round =>
    obtain ⟨k, hk, rfl, rfl, hown1, hbel⟩ := hrel
    by_cases hlt : k < n
    · obtain ⟨g, rfl⟩ := Hr.out wr k hlt hown1
      have hd : ∃ v, wr.cell? ⟨g, k, none⟩ = some v := by
        rw [hown1.cellAt k (by omega)]
        have := length_marked xs m k (by have := Hn.out; omega)
        have h2 := Hn.out
        exact ⟨_, List.getElem?_eq_getElem (by omega)⟩
      obtain ⟨v, hd⟩ := hd
      have hfz := hown1.frozenAt k
      have hst := hown1.stored k (.int .u8 (((m + k) % 256 : Nat) : Int))
      rw [marked_set xs m k (by have := Hn.out; omega)] at hst
      obtain ⟨hst1, hst2⟩ := hst
      have hbel2 := grownBy_trans hbel hst2
      clear hst2 hown1 hbel
      have e : ((((m + k) % 256 : Nat) : Int)) = ((m : Int) + k) % 256 := by omega
      rw [e] at hst1 hbel2
      clear e
      go_wp2
      go_roundw
      case rel => exact ⟨k + 1, by omega, by go_num, by go_num, hst1, hbel2⟩
      case measure => simp [intOf]; omega
    · obtain rfl : k = n := by omega
      have hB : Bts wr base (.slice a k cap) (marks m k) := by
        refine ⟨marks_byt _ _, ?_⟩
        have h2 := Hn.out
        have h3 := marked_all xs m
        rw [h2] at h3
        rw [length_marks, ← h3]
        exact hown1
      go_wp2
      go_ret
      exact ⟨rfl, hB, hbel⟩

set_option maxHeartbeats 400000 in
theorem heldByteS_any (a : Option Addr) (cap : Nat) (m n : Nat) (w : World) (hs : Seg w a (marks m n)) (hl : n ≤ 2097152) (hm : m ≤ 1125899906842624) :
    Calls Tryz.prog 12 #[.slice a n cap, .int .i64 m] w fun e w' => e = .returned (.int .i64 ((m + n : Nat) : Int)) ∧ Below w.heap.size w w' := by
  go_enter Tryz.func12, Tryz.ntmps12
  go_wp2
  go_loopw [1, 5] (fun m' i wr => ∃ k : Nat, k ≤ n ∧ i = .int .i64 k ∧ m' = .int .i64 ((m + k : Nat) : Int) ∧ Below w.heap.size w wr) (fun _ i _ => n - (intOf i).toNat)
  case atStart => exact ⟨0, Nat.zero_le _, rfl, by simp, Below.refl _ _⟩
  case round =>
    obtain ⟨k, hk, rfl, rfl, hbel⟩ := hrel
    by_cases hlt : k < n
    · obtain ⟨b1, o1, rfl, hc1⟩ := (hs.grow hbel).at (k := k) (by rw [length_marks]; omega)
      rw [marks_at m n k hlt] at hc1
      have e : ((((m + k) % 256 : Nat) : Int)) = ((m : Int) + k) % 256 := by omega
      rw [e] at hc1
      clear e
      go_wp2
      go_roundw
      case rel => exact ⟨k + 1, by omega, by go_num, by go_num, hbel⟩
      case measure => simp [intOf]; omega
    · obtain rfl : k = n := by omega
      go_wp2
      go_ret
      exact ⟨rfl, hbel⟩
end Go.Proofs.YtndnidmeompieaaGreatDoor
/-
  markByteS over a row that may bear a mark of the run-time behind its last cell.
-/
namespace Go.Proofs.YtndnidmeompieaaGreatDoor
open Go.RowKit
set_option linter.unusedVariables false

set_option maxHeartbeats 400000 in
theorem markByteS_F (a : Option Addr) (cap : Nat) (xs : List Int) (m : Nat) (w : World) (hB : BtsF w (.slice a xs.length cap) xs) (hl : xs.length ≤ 2097152) (hm : m ≤ 1125899906842624) :
    Calls Tryz.prog 11 #[.slice a xs.length cap, .int .i64 m] w fun e w' => e = .returned (.int .i64 ((m + xs.length : Nat) : Int)) ∧ BtsF w' (.slice a xs.length cap) (marks m xs.length) ∧ w.grownBy w' (Value.slice a xs.length cap).ownBlock := by
  have hown0 := hB.2
  generalize hn : xs.length = n at hown0
  have Hn : Hid (xs.length = n) := hn
  have hln : n ≤ 2097152 := by omega
  clear hn hl hB
  have hr : ∀ wr : World, ∀ k, k < n → RowF wr (.slice a n cap) n (marked xs m k) → ∃ g, a = some ⟨g, 0, none⟩ := by
    intro wr k hk h
    rcases h.2 with ⟨h1, h2⟩ | ⟨g, cp, cur, fr, h1, _⟩
    · omega
    · simp at h1
      exact ⟨g, h1.1⟩
  have Hr : Hid (∀ wr : World, ∀ k, k < n → RowF wr (.slice a n cap) n (marked xs m k) → ∃ g, a = some ⟨g, 0, none⟩) := hr
  clear hr
  go_enter Tryz.func11, Tryz.ntmps11
  go_wp2
  go_loopw [1, 5] (fun m' i wr => ∃ k : Nat, k ≤ n ∧ i = .int .i64 k ∧ m' = .int .i64 ((m + k : Nat) : Int) ∧ RowF wr (.slice a n cap) n (marked xs m k) ∧ w.grownBy wr (Value.slice a n cap).ownBlock) (fun _ i _ => n - (intOf i).toNat)
  case atStart => exact ⟨0, Nat.zero_le _, rfl, by simp, by rw [marked_zero]; exact hown0, World.grownBy.refl _ _⟩
  case round =>
    obtain ⟨k, hk, rfl, rfl, hown1, hbel⟩ := hrel
    by_cases hlt : k < n
    · obtain ⟨g, rfl⟩ := Hr.out wr k hlt hown1
      have hd : ∃ v, wr.cell? ⟨g, k, none⟩ = some v := by
        rw [hown1.cellAt k (by omega)]
        have := length_marked xs m k (by have := Hn.out; omega)
        have h2 := Hn.out
        exact ⟨_, List.getElem?_eq_getElem (by omega)⟩
      obtain ⟨v, hd⟩ := hd
      have hfz := hown1.frozenAt k hlt
      have hst := hown1.stored k (.int .u8 (((m + k) % 256 : Nat) : Int))
      rw [marked_set xs m k (by have := Hn.out; omega)] at hst
      obtain ⟨hst1, hst2⟩ := hst
      have hbel2 := grownBy_trans hbel hst2
      clear hst2 hown1 hbel
      have e : ((((m + k) % 256 : Nat) : Int)) = ((m : Int) + k) % 256 := by omega
      rw [e] at hst1 hbel2
      clear e
      go_wp2
      go_roundw
      case rel => exact ⟨k + 1, by omega, by go_num, by go_num, hst1, hbel2⟩
      case measure => simp [intOf]; omega
    · obtain rfl : k = n := by omega
      have hB : BtsF wr (.slice a k cap) (marks m k) := by
        refine ⟨marks_byt _ _, ?_⟩
        have h2 := Hn.out
        have h3 := marked_all xs m
        rw [h2] at h3
        rw [length_marks, ← h3]
        exact hown1
      go_wp2
      go_ret
      exact ⟨rfl, hB, hbel⟩

end Go.Proofs.YtndnidmeompieaaGreatDoor
