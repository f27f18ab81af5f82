/-
  Texts that a law leans on, one behind the other; no statement is proved here.
-/
import Derived.Test.YtngjhimieacjhaaGreatDoorPk2
import Derived.OwnWalk
import Derived.Lib.SlBytesConst
import Derived.Test.YtngjhimieacjhaaGreatDoorPk7
/-
  l4split of the specification: where an address is parted, and whether it is one.
-/
namespace Go.Proofs.YtngjhimieacjhaaGreatDoor
open Go.RowKit
set_option linter.unusedVariables false

/-- What l4split answers. -/
def SplitEnd (a : Option Addr) (c : Nat) (xs : List Int) (w : World) (e : Ending) (w' : World) : Prop :=
  w = w' ∧ ∃ v1 v2, e = .returned (.tuple #[v1, v2, .bool (addrB xs)]) ∧ (addrB xs = true → v1 = .slice a (cutI xs) c)

theorem split_no {a : Option Addr} {c : Nat} {xs : List Int} {w : World} (h : addrB xs = false) (v1 v2 : Value) : SplitEnd a c xs w (.returned (.tuple #[v1, v2, .bool false])) w :=
  ⟨rfl, v1, v2, by rw [h], fun h' => by rw [h] at h'; cases h'⟩
theorem split_yes {a : Option Addr} {c k : Nat} {xs : List Int} {w : World} (h : addrB xs = true) (hk : cutI xs = k) (v2 : Value) : SplitEnd a c xs w (.returned (.tuple #[.slice a k c, v2, .bool true])) w :=
  ⟨rfl, _, v2, by rw [h], fun _ => by rw [hk]⟩

theorem getD_drop' (xs : List Int) (j i : Nat) : (xs.drop j).getD i 0 = xs.getD (j + i) 0 := by simp [List.getD_eq_getElem?_getD, List.getElem?_drop]
theorem getD_take' (xs : List Int) (s i : Nat) (h : i < s) : (xs.take s).getD i 0 = xs.getD i 0 := by simp [List.getD_eq_getElem?_getD, h]

/-- What stands between the brackets, as a piece. -/
def inner (xs : List Int) (k p : Nat) : List Int := (xs.drop (k + 1)).take (p + 1)
theorem inner_len {xs : List Int} {k p : Nat} (h : xs.length = k + (p + 3)) : (inner xs k p).length = p + 1 := by simp [inner]; omega
theorem inner_at {xs : List Int} {k p i : Nat} (h : i < p + 1) : (inner xs k p).getD i 0 = xs.getD (k + 1 + i) 0 := by
  unfold inner
  rw [getD_take' _ _ _ h, getD_drop']
theorem innR_at {xs : List Int} {k p : Nat} (h : xs.length = k + (p + 3)) : innR (xs.drop (k + 1)) = (decide (xs.getD (k + (p + 2)) 0 = 93) && innB (inner xs k p)) := by
  unfold innR inner
  have hl : (xs.drop (k + 1)).length = p + 2 := by simp; omega
  rw [hl, getD_drop', decide_eq_true (by omega : 2 ≤ p + 2)]
  have e : k + 1 + (p + 2 - 1) = k + (p + 2) := by omega
  rw [e]
  rfl
theorem innB_key {xs : List Int} {k p : Nat} (h : xs.length = k + (p + 3)) (h34 : xs.getD (k + 1) 0 = 34) : innB (inner xs k p) = (decide (3 ≤ p + 1) && decide (xs.getD (k + 1 + p) 0 = 34) && nameB ((xs.drop (k + 2)).take (p - 1))) := by
  unfold innB
  rw [inner_len h, inner_at (by omega), if_pos h34]
  have e : p + 1 - 1 = p := by omega
  have e2 : p + 1 - 2 = p - 1 := by omega
  rw [e, e2, inner_at (by omega)]
  have e3 : ((inner xs k p).drop 1).take (p - 1) = (xs.drop (k + 2)).take (p - 1) := by
    unfold inner
    rw [List.drop_take, List.drop_drop, List.take_take]
    congr 1
    omega
  rw [e3]
theorem innB_num {xs : List Int} {k p : Nat} (h : xs.length = k + (p + 3)) (h34 : ¬ xs.getD (k + 1) 0 = 34) : innB (inner xs k p) = (decide (p + 1 ≤ 2) && !(decide (p + 1 = 2) && decide (xs.getD (k + 1) 0 = 48)) && (inner xs k p).all digB) := by
  unfold innB
  rw [inner_len h, inner_at (by omega), if_neg h34]

/-- The first k are no bracket. -/
def noBr (xs : List Int) (k : Nat) : Prop := ∀ i, i < k → xs.getD i 0 ≠ 91

set_option maxHeartbeats 1600000 in
theorem l4split_any (a : Option Addr) (c : Nat) (xs : List Int) (w : World) (ha : Seg w a xs) (hcap : xs.length ≤ c) (hc2 : c ≤ maxLen) (ka : a = none → c = 0) :
    Calls Tryz.prog 58 #[.slice a xs.length c] w (SplitEnd a c xs w) := by
  unfold maxLen at hc2
  have hby := getD_byt ha.1
  generalize hn : xs.length = n at *
  have Hn : Hid (xs.length = n) := hn
  clear hn
  have HN : Hid (∀ s : Nat, s ≤ n → Calls Tryz.prog 78 #[.slice a s c] w fun e w' => e = .returned (.bool (nameB (xs.take s))) ∧ w = w') := by
    intro s hs
    have hl : (xs.take s).length = s := by have := Hn.out; simp; omega
    have := spec_NameOk_any a c (xs.take s) w (ha.front s (by have := Hn.out; omega)) (by rw [hl]; unfold maxLen; omega)
    rw [hl] at this
    exact this
  go_enter Tryz.func58, Tryz.ntmps58
  go_wp2
  go_loopw [5] (fun i wr => ∃ k : Nat, k ≤ n ∧ i = .int .i64 k ∧ noBr xs k ∧ wr = w) (fun i _ => n - (intOf i).toNat)
  case atStart => exact ⟨0, Nat.zero_le _, rfl, fun i h => by omega, rfl⟩
  case round =>
    obtain ⟨k, hk, rfl, hno, rfl⟩ := hrel
    by_cases hlt : k < n
    · obtain ⟨b, off, rfl, hc⟩ := ha.at (k := k) (by have := Hn.out; omega)
      have hlt' : (k : Int) < (n : Int) := by omega
      by_cases h91 : xs.getD k 0 = 91
      · have HC : Hid (cutI xs = k) := cutI_eq hno (.inr ⟨by have := Hn.out; omega, h91⟩)
        rw [h91] at hc
        have HK := hide' (HN.out k (by omega))
        have hne : ¬ cutI xs = xs.length := by have := HC.out; have := Hn.out; omega
        have HB : Hid (addrB xs = (nameB (xs.take k) && innR (xs.drop (k + 1)))) := by
          show addrB xs = _
          unfold addrB
          rw [decide_eq_false hne, HC.out, Bool.false_or]
        have hcell : ∀ i, i < n → wr.cell? ⟨b, off + i, none⟩ = some (.int .u8 (xs.getD i 0)) := by
          intro i hi
          obtain ⟨b', off', e, hc'⟩ := ha.at (k := i) (by have := Hn.out; omega)
          simp at e
          obtain ⟨rfl, rfl⟩ := e
          exact hc'
        have Hcell := hide' hcell
        have hck : ¬ c = k := by omega
        clear hcell hne hno
        cases hnb : nameB (xs.take k) with
        | false =>
          rw [hnb] at HK
          have HB' : Hid (addrB xs = false) := by show _ = false; rw [HB.out, hnb]; rfl
          clear hnb HB
          go_wp2_with fail
          refine HK.out.mono ?_
          rintro e w1 ⟨rfl, rfl⟩
          go_wp2
          go_ret3
          exact split_no HB'.out _ _
        | true =>
          rw [hnb] at HK HB
          have HB1 : Hid (addrB xs = innR (xs.drop (k + 1))) := by show addrB xs = _; rw [HB.out]; rfl
          have hlr : (xs.drop (k + 1)).length = n - k - 1 := by have := Hn.out; simp; omega
          clear hnb HB
          by_cases h3 : n - k < 3
          · have HB' : Hid (addrB xs = false) := by
              show _ = false
              rw [HB1.out]
              unfold innR
              rw [hlr, decide_eq_false (by omega)]
              rfl
            have h3' : ((n - k : Nat) : Int) < 3 := by omega
            have h0' : ¬ ((n - k : Nat) : Int) = 0 := by omega
            clear HB1 hlr
            go_wp2_with fail
            refine HK.out.mono ?_
            rintro e w1 ⟨rfl, rfl⟩
            go_wp2
            go_ret3
            exact split_no HB'.out _ _
          · obtain ⟨p, rfl⟩ : ∃ p, n = k + (p + 3) := ⟨n - k - 3, by omega⟩
            obtain ⟨d, rfl⟩ : ∃ d, c = k + (d + 3) := ⟨c - k - 3, by omega⟩
            have hqd : p ≤ d := by omega
            have hz := Hcell.out (k + (p + 2)) (by omega)
            rw [← Nat.add_assoc] at hz
            have h3' : ¬ ((p : Int) + 3 < 3) := by omega
            have h0' : ¬ ((p : Int) + 3 = 0) := by omega
            have HR := hide' (innR_at Hn.out)
            clear h3 hlr
            by_cases h93 : xs.getD (k + (p + 2)) 0 = 93
            · rw [h93] at hz
              have HB2 : Hid (addrB xs = innB (inner xs k p)) := by show addrB xs = _; rw [HB1.out, HR.out, decide_eq_true h93]; rfl
              have hy := Hcell.out (k + 1) (by omega)
              rw [← Nat.add_assoc] at hy
              clear HR HB1
              by_cases h34 : xs.getD (k + 1) 0 = 34
              · rw [h34] at hy
                have HB3 : Hid (addrB xs = _) := HB2.out.trans (innB_key Hn.out h34)
                clear HB2
                by_cases hp3 : p < 2
                · have HB' : Hid (addrB xs = false) := by
                    show _ = false
                    rw [HB3.out, decide_eq_false (by omega)]
                    rfl
                  have hp3' : (p : Int) + 1 < 3 := by omega
                  clear HB3
                  go_wp2_with fail
                  refine HK.out.mono ?_
                  rintro e w1 ⟨rfl, rfl⟩
                  go_wp2
                  go_ret3
                  exact split_no HB'.out _ _
                · have hp3' : ¬ (p : Int) + 1 < 3 := by omega
                  have hyl := Hcell.out (k + 1 + p) (by omega)
                  rw [← Nat.add_assoc, ← Nat.add_assoc] at hyl
                  by_cases hl34 : xs.getD (k + 1 + p) 0 = 34
                  · rw [hl34] at hyl
                    have HB4 : Hid (addrB xs = nameB ((xs.drop (k + 2)).take (p - 1))) := by show addrB xs = _; rw [HB3.out, decide_eq_true hl34, decide_eq_true (by omega)]; rfl
                    have hll : ((xs.drop (k + 2)).take (p - 1)).length = p - 1 := by have := Hn.out; simp; omega
                    have HK2 : Hid (Calls Tryz.prog 78 #[.slice (some ⟨b, off + k + 1 + 1, none⟩) (p - 1) (d + 1)] wr fun e w' => e = .returned (.bool (nameB ((xs.drop (k + 2)).take (p - 1)))) ∧ wr = w') := by
                      have := spec_NameOk_any (some ⟨b, off + k + 1 + 1, none⟩) (d + 1) ((xs.drop (k + 2)).take (p - 1)) wr (by have := ha.piece (k + 2) (p - 1) (by have := Hn.out; omega); rw [show off + k + 1 + 1 = off + (k + 2) from by omega]; exact this) (by rw [hll]; unfold maxLen; omega)
                      rw [hll] at this
                      exact this
                    clear HB3
                    generalize nameB ((xs.drop (k + 2)).take (p - 1)) = nb at HB4 HK2
                    cases nb with
                    | false =>
                      go_wp2_with fail
                      refine HK.out.mono ?_
                      rintro e w1 ⟨rfl, rfl⟩
                      go_wp2_with fail
                      refine HK2.out.mono ?_
                      rintro e w1 ⟨rfl, rfl⟩
                      go_wp2
                      go_ret3
                      exact split_no HB4.out _ _
                    | true =>
                      go_wp2_with fail
                      refine HK.out.mono ?_
                      rintro e w1 ⟨rfl, rfl⟩
                      go_wp2_with fail
                      refine HK2.out.mono ?_
                      rintro e w1 ⟨rfl, rfl⟩
                      go_wp2
                      go_ret3
                      exact split_yes HB4.out HC.out _
                  · have HB' : Hid (addrB xs = false) := by
                      show _ = false
                      rw [HB3.out, decide_eq_false hl34, Bool.and_false]
                      rfl
                    generalize xs.getD (k + 1 + p) 0 = z at hyl hl34
                    clear HB3
                    go_wp2_with fail
                    refine HK.out.mono ?_
                    rintro e w1 ⟨rfl, rfl⟩
                    go_wp2
                    go_ret3
                    exact split_no HB'.out _ _
              · have HB3 : Hid (addrB xs = _) := HB2.out.trans (innB_num Hn.out h34)
                clear HB2
                by_cases hp : 2 ≤ p
                · have HB' : Hid (addrB xs = false) := by
                    show _ = false
                    rw [HB3.out, decide_eq_false (by omega)]
                    rfl
                  have hp' : (2 : Int) < (p : Int) + 1 := by omega
                  generalize xs.getD (k + 1) 0 = y0 at hy h34
                  have h34b : (y0 == 34) = false := by simp [h34]
                  clear HB3
                  go_wp2_with fail
                  refine HK.out.mono ?_
                  rintro e w1 ⟨rfl, rfl⟩
                  go_wp2
                  go_ret3
                  exact split_no HB'.out _ _
                have hp' : ¬ (2 : Int) < (p : Int) + 1 := by omega
                by_cases hp1 : p = 1
                · subst hp1
                  simp only [Nat.reduceAdd] at hz hcap hc2 hk hlt hlt' hck ka
                  by_cases h48 : xs.getD (k + 1) 0 = 48
                  · have HB' : Hid (addrB xs = false) := by
                      show _ = false
                      rw [HB3.out, decide_eq_true h48, decide_eq_true (by omega : 1 + 1 = 2)]
                      simp
                    rw [h48] at hy
                    clear HB3
                    go_wp2_with fail
                    refine HK.out.mono ?_
                    rintro e w1 ⟨rfl, rfl⟩
                    go_wp2
                    go_ret3
                    exact split_no HB'.out _ _
                  · have HA : Hid (addrB xs = (inner xs k 1).all digB) := by
                      show addrB xs = _
                      rw [HB3.out]
                      rw [decide_eq_true (by omega : 1 + 1 ≤ 2), decide_eq_true (by omega : 1 + 1 = 2), decide_eq_false h48]
                      rfl
                    have Hc2 : Hid (∀ i, i < 2 → wr.cell? ⟨b, off + k + 1 + i, none⟩ = some (.int .u8 ((inner xs k 1).getD i 0))) := by
                      intro i hi
                      rw [inner_at hi, show off + k + 1 + i = off + (k + 1 + i) from by omega]
                      exact Hcell.out _ (by omega)
                    have Hil : Hid ((inner xs k 1).length = 2) := inner_len Hn.out
                    have Hby : Hid (∀ i, i < 2 → 0 ≤ (inner xs k 1).getD i 0 ∧ (inner xs k 1).getD i 0 ≤ 255) := by
                      intro i hi
                      rw [inner_at hi]
                      exact hby _
                    clear HB3
                    generalize inner xs k 1 = ys at HA Hc2 Hil Hby
                    generalize xs.getD (k + 1) 0 = y0 at hy h34 h48
                    have h34b : (y0 == 34) = false := by simp [h34]
                    have h48b : (y0 == 48) = false := by simp [h48]
                    clear hby Hcell
                    go_wp2_with fail
                    refine HK.out.mono ?_
                    rintro e w1 ⟨rfl, rfl⟩
                    go_wp2
                    go_loopw [9] (fun j wx => ∃ t : Nat, t ≤ 2 ∧ j = .int .i64 t ∧ fstAll digB ys t ∧ wx = wr) (fun j _ => 2 - (intOf j).toNat)
                    case atStart => exact ⟨0, Nat.zero_le _, rfl, fstAll_zero _ _, rfl⟩
                    case round =>
                      obtain ⟨t, ht, rfl, hall, rfl⟩ := hrel
                      by_cases htl : t < 2
                      · have hct := Hc2.out t htl
                        have hbt := Hby.out t htl
                        have htl' : (t : Int) < (2 : Int) := by omega
                        have HS : Hid (digB (ys.getD t 0) = true → fstAll digB ys (t + 1)) := fun h => fstAll_succ hall h
                        have HF : Hid (digB (ys.getD t 0) = false → ys.all digB = false) := fun h => not_all_of (by rw [Hil.out]; omega) h
                        generalize ys.getD t 0 = z at hct hbt HS HF
                        obtain ⟨hz1, hz2⟩ := hbt
                        by_cases hz48 : z < 48
                        · have HB' : Hid (addrB xs = false) := HA.out.trans (HF.out (by simp [digB]; omega))
                          go_wp2
                          go_ret3
                          exact split_no HB'.out _ _
                        · by_cases hz57 : 57 < z
                          · have HB' : Hid (addrB xs = false) := HA.out.trans (HF.out (by simp [digB]; omega))
                            go_wp2
                            go_ret3
                            exact split_no HB'.out _ _
                          · have HT : Hid (fstAll digB ys (t + 1)) := HS.out (by simp [digB]; omega)
                            go_wp2
                            go_roundw
                            case rel => exact ⟨t + 1, by omega, by go_num, HT.out, by first | rfl | trivial⟩
                            case measure => simp [intOf]; omega
                      · have HB' : Hid (addrB xs = true) := HA.out.trans (all_of_fstAll (by rw [Hil.out, ← (by omega : t = 2)]; exact hall))
                        have htl' : ¬ (t : Int) < (2 : Int) := by omega
                        go_wp2
                        go_ret3
                        exact split_yes HB'.out HC.out _
                · have hp1' : ((p : Int) + 1 == 2) = false := by simp; omega
                  have HA : Hid (addrB xs = (inner xs k p).all digB) := by
                    show addrB xs = _
                    rw [HB3.out]
                    rw [decide_eq_true (by omega : p + 1 ≤ 2), decide_eq_false (by omega : ¬ p + 1 = 2)]
                    rfl
                  have Hc2 : Hid (∀ i, i < p + 1 → wr.cell? ⟨b, off + k + 1 + i, none⟩ = some (.int .u8 ((inner xs k p).getD i 0))) := by
                    intro i hi
                    rw [inner_at hi, show off + k + 1 + i = off + (k + 1 + i) from by omega]
                    exact Hcell.out _ (by omega)
                  have Hil : Hid ((inner xs k p).length = p + 1) := inner_len Hn.out
                  have Hby : Hid (∀ i, i < p + 1 → 0 ≤ (inner xs k p).getD i 0 ∧ (inner xs k p).getD i 0 ≤ 255) := by
                    intro i hi
                    rw [inner_at hi]
                    exact hby _
                  clear HB3
                  generalize inner xs k p = ys at HA Hc2 Hil Hby
                  generalize xs.getD (k + 1) 0 = y0 at hy h34
                  have h34b : (y0 == 34) = false := by simp [h34]
                  clear hby Hcell
                  go_wp2_with fail
                  refine HK.out.mono ?_
                  rintro e w1 ⟨rfl, rfl⟩
                  go_wp2
                  go_loopw [9] (fun j wx => ∃ t : Nat, t ≤ p + 1 ∧ j = .int .i64 t ∧ fstAll digB ys t ∧ wx = wr) (fun j _ => p + 1 - (intOf j).toNat)
                  case atStart => exact ⟨0, Nat.zero_le _, rfl, fstAll_zero _ _, rfl⟩
                  case round =>
                    obtain ⟨t, ht, rfl, hall, rfl⟩ := hrel
                    by_cases htl : t < p + 1
                    · have hct := Hc2.out t htl
                      have hbt := Hby.out t htl
                      have htl' : (t : Int) < (p : Int) + 1 := by omega
                      have HS : Hid (digB (ys.getD t 0) = true → fstAll digB ys (t + 1)) := fun h => fstAll_succ hall h
                      have HF : Hid (digB (ys.getD t 0) = false → ys.all digB = false) := fun h => not_all_of (by rw [Hil.out]; omega) h
                      generalize ys.getD t 0 = z at hct hbt HS HF
                      obtain ⟨hz1, hz2⟩ := hbt
                      by_cases hz48 : z < 48
                      · have HB' : Hid (addrB xs = false) := HA.out.trans (HF.out (by simp [digB]; omega))
                        go_wp2
                        go_ret3
                        exact split_no HB'.out _ _
                      · by_cases hz57 : 57 < z
                        · have HB' : Hid (addrB xs = false) := HA.out.trans (HF.out (by simp [digB]; omega))
                          go_wp2
                          go_ret3
                          exact split_no HB'.out _ _
                        · have HT : Hid (fstAll digB ys (t + 1)) := HS.out (by simp [digB]; omega)
                          go_wp2
                          go_roundw
                          case rel => exact ⟨t + 1, by omega, by go_num, HT.out, by first | rfl | trivial⟩
                          case measure => simp [intOf]; omega
                    · have HB' : Hid (addrB xs = true) := HA.out.trans (all_of_fstAll (by rw [Hil.out, ← (by omega : t = p + 1)]; exact hall))
                      have htl' : ¬ (t : Int) < (p : Int) + 1 := by omega
                      go_wp2
                      go_ret3
                      exact split_yes HB'.out HC.out _
            · have HB' : Hid (addrB xs = false) := by
                show _ = false
                rw [HB1.out, HR.out, decide_eq_false h93]
                rfl
              generalize xs.getD (k + (p + 2)) 0 = z at hz h93
              have h93b : (z != 93) = true := by simp [h93]
              clear HR HB1
              go_wp2_with fail
              refine HK.out.mono ?_
              rintro e w1 ⟨rfl, rfl⟩
              go_wp2
              go_ret3
              exact split_no HB'.out _ _
      · have hno' : noBr xs (k + 1) := fun i hi => by
          by_cases e : i = k
          · rw [e]; exact h91
          · exact hno i (by omega)
        have HO := hide' hno'
        generalize xs.getD k 0 = z at hc h91
        clear hno hno'
        go_wp2
        go_roundw
        case rel => exact ⟨k + 1, by omega, by go_num, HO.out, by first | rfl | trivial⟩
        case measure => simp [intOf]; omega
    · obtain rfl : k = n := by omega
      have HC : Hid (cutI xs = xs.length) := cutI_eq (by have := Hn.out; rw [this]; exact hno) (.inl rfl)
      have HC' : Hid (cutI xs = k) := HC.out.trans Hn.out
      have HK := hide' (HN.out k (Nat.le_refl _))
      have ht : xs.take k = xs := by rw [← Hn.out]; simp
      rw [ht] at HK
      have HB : Hid (addrB xs = nameB xs) := by
        show addrB xs = nameB xs
        unfold addrB
        rw [HC'.out, ht]
        simp [Hn.out]
      have hlt' : ¬ (k : Int) < (k : Int) := by omega
      clear hno
      cases hnb : nameB xs with
      | false =>
        rw [hnb] at HK
        have HB' : Hid (addrB xs = false) := HB.out.trans hnb
        clear hnb HB
        go_wp2_with fail
        refine HK.out.mono ?_
        rintro e w1 ⟨rfl, rfl⟩
        go_wp2
        go_ret3
        exact split_no HB'.out _ _
      | true =>
        rw [hnb] at HK
        have HB' : Hid (addrB xs = true) := HB.out.trans hnb
        clear hnb HB
        by_cases hck : c = k
        · subst hck
          go_wp2_with fail
          refine HK.out.mono ?_
          rintro e w1 ⟨rfl, rfl⟩
          go_wp2
          go_ret3
          exact split_yes HB'.out HC'.out _
        · cases a with
          | none => exact absurd (ka rfl) (by omega)
          | some x =>
          go_wp2_with fail
          refine HK.out.mono ?_
          rintro e w1 ⟨rfl, rfl⟩
          go_wp2
          go_ret3
          exact split_yes HB'.out HC'.out _
end Go.Proofs.YtngjhimieacjhaaGreatDoor
/-
  AddrOk and AddrName of the specification.
-/
namespace Go.Proofs.YtngjhimieacjhaaGreatDoor
open Go.RowKit
set_option linter.unusedVariables false

theorem addrN_short (xs : List Int) : (addrN xs).length ≤ 8 := by
  unfold addrN
  split
  · rename_i h
    simp only [addrB, Bool.and_eq_true] at h
    exact (nameB_le h.1).2
  · simp

set_option maxHeartbeats 800000 in
theorem spec_AddrOk_any (a : Option Addr) (c : Nat) (xs : List Int) (w : World) (ha : Seg w a xs) (hcap : xs.length ≤ c) (hc2 : c ≤ maxLen) (ka : a = none → c = 0) :
    Calls Tryz.prog 42 #[.slice a xs.length c] w fun e w' => e = .returned (.bool (addrB xs)) ∧ w = w' := by
  have HS := hide' (l4split_any a c xs w ha hcap hc2 ka)
  go_enter Tryz.func42, Tryz.ntmps42
  go_wp2_with fail
  refine HS.out.mono ?_
  rintro e w1 ⟨rfl, v1, v2, rfl, _⟩
  go_wp2
  go_ret
  exact ⟨rfl, rfl⟩

end Go.Proofs.YtngjhimieacjhaaGreatDoor
/-
  AddrName and AddrOk of the program.
-/
namespace Go.Proofs.YtngjhimieacjhaaGreatDoor
open Go.RowKit
set_option linter.unusedVariables false
set_option linter.unusedSimpArgs false

/-- What AddrName answers. -/
def NameEnd (xs : List Int) (w : World) (e : Ending) (w' : World) : Prop := ∃ v, e = .returned v ∧ Bts w' w.heap.size v (addrN xs) ∧ Below w.heap.size w w'

theorem name_end {xs : List Int} {w wx w' : World} {v : Value} {zs : List Int} (h1 : Below w.heap.size w wx) (h2 : Below wx.heap.size wx w') (h3 : Bts w' wx.heap.size v zs) (h4 : addrN xs = zs) : NameEnd xs w (.returned v) w' := ⟨_, rfl, by rw [h4]; exact h3.mono h1.size, Below.on h1 h2⟩

set_option maxHeartbeats 3200000 in
set_option maxRecDepth 100000 in
theorem impl_AddrName_any (a : Option Addr) (c : Nat) (xs : List Int) (w : World) (ha : Seg w a xs) (hl : xs.length ≤ 2097152) (hcap : xs.length ≤ c) (hc2 : c ≤ maxLen) (ka : a = none → c = 0) (hE : Errs w) :
    Calls Tryz.prog 83 #[.slice a xs.length c] w (NameEnd xs w) := by
  have hB0 : Below w.heap.size w (w.alloc (.cells #[.int .u8 91] 5 (1, 2))) := (Below.refl _ _).alloc (Nat.le_refl _) _
  have hg : (w.alloc (.cells #[.int .u8 91] 5 (1, 2))).cell? ⟨w.heap.size, 0, none⟩ = some (.int .u8 91) := (cell_of_row _ w.heap.size 0 #[.int .u8 91] 5 (1, 2) (heap_alloc_new w _)).trans rfl
  have HCut := hide' (cut_any a c w.heap.size xs _ (ha.grow hB0) (by omega) hcap hc2 ka hg)
  have hkl := cutI_le xs
  have hlt : (xs.take (cutI xs)).length = cutI xs := by simp; omega
  have hrl : (xs.drop (cutI xs + 1)).length ≤ 2097152 := by simp; omega
  have htl := trimR_len 93 (xs.drop (cutI xs + 1))
  have htt := trimR_take 93 (xs.drop (cutI xs + 1))
  have hll2 : (trimL 34 (trimR 34 (trimR 93 (xs.drop (cutI xs + 1))))).length ≤ (trimR 93 (xs.drop (cutI xs + 1))).length := by
    have h1 := congrArg List.length (trimL_drop 34 (trimR 34 (trimR 93 (xs.drop (cutI xs + 1)))))
    have h2 := trimR_len 34 (trimR 93 (xs.drop (cutI xs + 1)))
    simp at h1
    omega
  have HW : Hid (∀ n : Int, (∀ u : Nat, u ≤ 99 → trimR 93 (xs.drop (cutI xs + 1)) = decI u → n = u) → cutI xs < xs.length →
      (xs = addrItem (xs.take (cutI xs)) n ∨ xs = addrKey (xs.take (cutI xs)) (trimL 34 (trimR 34 (trimR 93 (xs.drop (cutI xs + 1))))) → addrN xs = nameC (xs.take (cutI xs))) ∧ (¬ xs = addrItem (xs.take (cutI xs)) n → ¬ xs = addrKey (xs.take (cutI xs)) (trimL 34 (trimR 34 (trimR 93 (xs.drop (cutI xs + 1))))) → addrN xs = [])) := by
    intro n hn hc
    refine addrN_way hc hn fun k hk e => ?_
    rw [e, (trim_name hk).1, (trim_name hk).2]
  have HBare : Hid (¬ cutI xs < xs.length → addrN xs = nameC (xs.take (cutI xs))) := by
    intro h
    have e : cutI xs = xs.length := by omega
    rw [addrN_bare e, e, List.take_length]
  have HF := hide' (ha.front (cutI xs) hkl)
  unfold CutEnd at HCut
  generalize xs.take (cutI xs) = pre at *
  generalize xs.drop (cutI xs + 1) = r at *
  generalize hmore : decide (cutI xs < xs.length) = more at *
  generalize hk : cutI xs = k at *
  generalize hrn : r.length = rn at *
  have Hk := hide' hlt
  have Hrn := hide' hrn
  clear hlt hrn hg
  generalize hn0 : xs.length = n at *
  have Hn0 : Hid (xs.length = n) := hn0
  clear hn0
  have hcs := Lib.run_convert_bytes_const (P := Tryz.prog) w 22 5 #[.int .u8 91] 1 1 Tryz.underlying22 Tryz.underlying5
  go_enter Tryz.func83, Tryz.ntmps83
  go_wp2_with fail
  refine HCut.out.mono ?_
  rintro e w1 ⟨b1, a2, c2, rfl, hS2, hc2a, hc2b⟩
  have B1 := Below.on hB0 b1
  have HT1 := hide' (hS2.grow b1)
  have HTR : Hid (Calls Tryz.prog 97 #[.slice a2 rn c2, .string ⟨#[93]⟩] w1 fun e w' => e = .returned (.slice a2 (trimR 93 r).length c2) ∧ Below w1.heap.size w1 w') := by
    have := trimRight_any a2 c2 r w1 HT1.out (by rw [Hrn.out]; exact hc2a) hc2b
    rw [Hrn.out] at this
    exact this
  clear HCut hS2 b1
  go_wp2_with fail
  refine HTR.out.mono ?_
  rintro e w2 ⟨rfl, b2⟩
  have B2 := Below.on B1 b2
  have HT2 : Hid (Seg w2 a2 (trimR 93 r)) := by
    show Seg w2 a2 (trimR 93 r)
    have := (HT1.out.grow b2).front (trimR 93 r).length (by rw [Hrn.out]; exact htl)
    rw [← htt] at this
    exact this
  have hconv := conv_seg c2 HT2.out
  have HAt := hide' (atoi_any (trimR 93 r) w2 (by omega) (hE.grow B2))
  have HTl : Hid ((trimR 93 r).length ≤ c2) := Nat.le_trans htl hc2a
  clear HTR b2 B1 HT1
  generalize hts : trimR 93 r = t at *
  generalize hsx : strOf t = sx at *
  generalize htn : t.length = tn at *
  have Htn := hide' htn
  clear htn hts hsx
  go_wp2_with fail
  refine HAt.out.mono ?_
  rintro e w3 ⟨b3, i, ve, rfl, hi⟩
  have B3 := Below.on B2 b3
  have HT3 := hide' (HT2.out.grow b3)
  have HTm : Hid (Calls Tryz.prog 99 #[.slice a2 tn c2, .string ⟨#[34]⟩] w3 fun e w' => Below w3.heap.size w3 w' ∧ ∃ a3 c3, e = .returned (.slice a3 (trimL 34 (trimR 34 t)).length c3) ∧ Seg w3 a3 (trimL 34 (trimR 34 t)) ∧ (a3 = none → c3 = 0)) := by
    have := trim_any a2 c2 t w3 HT3.out (by rw [Htn.out]; exact HTl.out) hc2b
    rw [Htn.out] at this
    exact this
  clear HAt b3 B2 HT2 HT3 hconv
  go_wp2_with fail
  refine HTm.out.mono ?_
  rintro e w4 ⟨b4, a3, c3, rfl, hS3, k3⟩
  have B4 := Below.on B3 b4
  have HS4 := hide' (hS3.grow b4)
  clear HTm hS3 b4 B3
  generalize trimL 34 (trimR 34 t) = key at *
  have hkeyl : key.length ≤ 2097152 := by have := Htn.out; omega
  have HNA : Hid (∀ wx, Below w.heap.size w wx → Calls Tryz.prog 103 #[.slice a k c] wx fun e w' => ∃ v, e = .returned v ∧ Bts w' wx.heap.size v (nameC pre) ∧ Below wx.heap.size wx w') := by
    intro wx hx
    have := nameAlone_any a c pre wx (HF.out.grow hx) ka (by rw [Hk.out]; unfold maxLen; omega)
    rw [Hk.out] at this
    exact this
  cases more with
  | false =>
    have hkn : ¬ k < n := of_decide_eq_false hmore
    have HR : Hid (addrN xs = nameC pre) := HBare.out hkn
    clear HW HBare hi
    go_wp2_with fail
    refine (HNA.out _ B4).mono ?_
    rintro e w5 ⟨v, rfl, hv, b5⟩
    go_wp2
    go_ret
    exact name_end B4 b5 hv HR.out
  | true =>
    have hkn : k < n := of_decide_eq_true hmore
    have HWi := hide' (HW.out i hi hkn)
    clear HW HBare hi
    have HAI : Hid (Calls Tryz.prog 101 #[.slice a k c, .int .i64 i] w4 fun e w' => ∃ v, e = .returned v ∧ Bts w' w4.heap.size v (addrItem pre i) ∧ Below w4.heap.size w4 w') := by
      have := impl_AddrItem_any a c pre i w4 (HF.out.grow B4) ka (by rw [Hk.out]; unfold maxLen; omega)
      rw [Hk.out] at this
      exact this
    go_wp2_with fail
    refine HAI.out.mono ?_
    rintro e w5 ⟨v5, rfl, hv5, b5⟩
    obtain ⟨a5, c5, rfl, _⟩ := hv5.shape
    have B5 := Below.on B4 b5
    have HEq : Hid (Calls Tryz.prog 100 #[.slice a5 (addrItem pre i).length c5, .slice a n c] w5 fun e w' => e = .returned (.bool (decide (addrItem pre i = xs))) ∧ w' = w5) := by
      have := equal_any a5 a c5 c (addrItem pre i) xs w5 hv5.seg (ha.grow B5)
      rw [Hn0.out] at this
      exact this
    have b45 := b5
    clear HAI hv5 b5
    by_cases h1 : addrItem pre i = xs
    · have HR : Hid (addrN xs = nameC pre) := HWi.out.1 (.inl h1.symm)
      rw [decide_eq_true h1] at HEq
      generalize (addrItem pre i).length = l5 at HEq
      clear HWi h1
      go_wp2_with fail
      refine HEq.out.mono ?_
      rintro e w6 ⟨rfl, rfl⟩
      go_wp2_with fail
      refine (HNA.out _ B5).mono ?_
      rintro e w7 ⟨v, rfl, hv, b7⟩
      go_wp2
      go_ret
      exact name_end B5 b7 hv HR.out
    · have HWj := hide' (HWi.out.2 (fun e => h1 e.symm))
      have HWk := hide' (fun h => HWi.out.1 (.inr h))
      rw [decide_eq_false h1] at HEq
      generalize (addrItem pre i).length = l5 at HEq
      have HAK : Hid (Calls Tryz.prog 102 #[.slice a k c, .slice a3 key.length c3] w5 fun e w' => ∃ v, e = .returned v ∧ Bts w' w5.heap.size v (addrKey pre key) ∧ Below w5.heap.size w5 w') := by
        have := impl_AddrKey_any a a3 c c3 pre key w5 (HF.out.grow B5) (HS4.out.grow (by exact b45)) ka k3 (by rw [Hk.out]; omega) hkeyl
        rw [Hk.out] at this
        exact this
      clear HWi h1
      go_wp2_with fail
      refine HEq.out.mono ?_
      rintro e w6 ⟨rfl, rfl⟩
      go_wp2_with fail
      refine HAK.out.mono ?_
      rintro e w7 ⟨v7, rfl, hv7, b7⟩
      obtain ⟨a7, c7, rfl, _⟩ := hv7.shape
      have B7 := Below.on B5 b7
      have HEk : Hid (Calls Tryz.prog 100 #[.slice a7 (addrKey pre key).length c7, .slice a n c] w7 fun e w' => e = .returned (.bool (decide (addrKey pre key = xs))) ∧ w' = w7) := by
        have := equal_any a7 a c7 c (addrKey pre key) xs w7 hv7.seg (ha.grow B7)
        rw [Hn0.out] at this
        exact this
      clear HAK HEq hv7 b7
      by_cases h2 : addrKey pre key = xs
      · have HR : Hid (addrN xs = nameC pre) := HWk.out h2.symm
        rw [decide_eq_true h2] at HEk
        generalize (addrKey pre key).length = l7 at HEk
        clear HWj HWk h2
        go_wp2_with fail
        refine HEk.out.mono ?_
        rintro e w8 ⟨rfl, rfl⟩
        go_wp2_with fail
        refine (HNA.out _ B7).mono ?_
        rintro e w9 ⟨v, rfl, hv, b9⟩
        go_wp2
        go_ret
        exact name_end B7 b9 hv HR.out
      · have HR : Hid (addrN xs = []) := HWj.out (fun e => h2 e.symm)
        rw [decide_eq_false h2] at HEk
        generalize (addrKey pre key).length = l7 at HEk
        clear HWj HWk h2
        go_wp2_with fail
        refine HEk.out.mono ?_
        rintro e w8 ⟨rfl, rfl⟩
        go_wp2
        go_ret
        exact name_end B7 (Below.refl _ _) (bts_nil _ _) HR.out

set_option maxHeartbeats 800000 in
theorem impl_AddrOk_any (a : Option Addr) (c : Nat) (xs : List Int) (w : World) (ha : Seg w a xs) (hl : xs.length ≤ 2097152) (hcap : xs.length ≤ c) (hc2 : c ≤ maxLen) (ka : a = none → c = 0) (hE : Errs w) :
    Calls Tryz.prog 65 #[.slice a xs.length c] w fun e w' => e = .returned (.bool (addrB xs)) ∧ Below w.heap.size w w' := by
  have HN := hide' (impl_AddrName_any a c xs w ha hl hcap hc2 ka hE)
  have Hb : Hid (addrB xs = decide (0 < (addrN xs).length)) := (addrN_len xs).symm
  go_enter Tryz.func65, Tryz.ntmps65
  go_wp2_with fail
  refine HN.out.mono ?_
  rintro e w1 ⟨v, rfl, hv, b1⟩
  obtain ⟨a1, c1, rfl, _⟩ := hv.shape
  clear hv
  generalize (addrN xs).length = l at Hb
  go_wp2
  go_ret
  exact ⟨ret_bool Hb.out.symm, b1⟩
end Go.Proofs.YtngjhimieacjhaaGreatDoor
/-
  What l2int of the specification answers.
-/
namespace Go.Proofs.YtngjhimieacjhaaGreatDoor
open Go.RowKit
set_option linter.unusedVariables false

/-- A number of a value. -/
def intB (n : Int) : Bool := decide (-1000000000000 ≤ n) && decide (n ≤ 1000000000000)

set_option maxHeartbeats 800000 in
theorem spec_l2int_any (n : Int) (w : World) :
    Calls Tryz.prog 93 #[.int .i64 n] w fun e w' => e = .returned (.bool (intB n)) ∧ w = w' := by
  by_cases h1 : -1000000000000 ≤ n
  · by_cases h2 : n ≤ 1000000000000
    · have HO : Hid (intB n = true) := by simp [Hid, intB, h1, h2]
      go_enter Tryz.func93, Tryz.ntmps93
      go_wp2
      go_ret
      exact ⟨ret_bool HO.out.symm, rfl⟩
    · have HO : Hid (intB n = false) := by simp [Hid, intB, h2]
      go_enter Tryz.func93, Tryz.ntmps93
      go_wp2
      go_ret
      exact ⟨ret_bool HO.out.symm, rfl⟩
  · have HO : Hid (intB n = false) := by simp [Hid, intB, h1]
    go_enter Tryz.func93, Tryz.ntmps93
    go_wp2
    go_ret
    exact ⟨ret_bool HO.out.symm, rfl⟩
end Go.Proofs.YtngjhimieacjhaaGreatDoor
/-
  bare of the program: it tells whether all fields are nought that a kind does not have.
-/
namespace Go.Proofs.YtngjhimieacjhaaGreatDoor
open Go.RowKit
set_option linter.unusedVariables false
set_option linter.unusedSimpArgs false

/-- All fields are nought that the kind does not have. -/
def bareB (vk vn : Int) (n2 n3 n4 : Nat) : Bool := (decide (vk = 1) || decide (vk = 2) || decide (vn = 0)) && (decide (vk = 3) || decide (n2 = 0)) && (decide (vk = 5) || decide (n3 = 0)) && (decide (vk = 4) || decide (vk = 5) || decide (n4 = 0))

set_option maxHeartbeats 4000000 in
theorem impl_bare_any (vk vn : Int) (a2 a3 a4 : Option Addr) (n2 n3 n4 p2 p3 p4 : Nat) (w : World) :
    Calls Tryz.prog 112 #[.agg #[.int .i64 vk, .int .i64 vn, .slice a2 n2 p2, .slice a3 n3 p3, .slice a4 n4 p4]] w fun e w' => e = .returned (.bool (bareB vk vn n2 n3 n4)) ∧ Below w.heap.size w w' := by
  have Hb : Hid (∀ o : Obj, Below w.heap.size w (w.alloc o)) := fun o => (Below.refl _ _).alloc (Nat.le_refl _) o
  by_cases k1 : vk = 1
  · subst k1
    by_cases an2 : n2 = 0
    · subst an2
      by_cases an3 : n3 = 0
      · subst an3
        by_cases an4 : n4 = 0
        · subst an4
          go_enter Tryz.func112, Tryz.ntmps112
          go_wp2
          go_ret
          exact ⟨ret_bool (by simp [bareB, *]), Hb.out _⟩
        · have bn4 : ¬ (n4 : Int) = 0 := by omega
          go_enter Tryz.func112, Tryz.ntmps112
          go_wp2
          go_ret
          exact ⟨ret_bool (by simp [bareB, *]), Hb.out _⟩
      · have bn3 : ¬ (n3 : Int) = 0 := by omega
        go_enter Tryz.func112, Tryz.ntmps112
        go_wp2
        go_ret
        exact ⟨ret_bool (by simp [bareB, *]), Hb.out _⟩
    · have bn2 : ¬ (n2 : Int) = 0 := by omega
      go_enter Tryz.func112, Tryz.ntmps112
      go_wp2
      go_ret
      exact ⟨ret_bool (by simp [bareB, *]), Hb.out _⟩
  by_cases k2 : vk = 2
  · subst k2
    by_cases an2 : n2 = 0
    · subst an2
      by_cases an3 : n3 = 0
      · subst an3
        by_cases an4 : n4 = 0
        · subst an4
          go_enter Tryz.func112, Tryz.ntmps112
          go_wp2
          go_ret
          exact ⟨ret_bool (by simp [bareB, *]), Hb.out _⟩
        · have bn4 : ¬ (n4 : Int) = 0 := by omega
          go_enter Tryz.func112, Tryz.ntmps112
          go_wp2
          go_ret
          exact ⟨ret_bool (by simp [bareB, *]), Hb.out _⟩
      · have bn3 : ¬ (n3 : Int) = 0 := by omega
        go_enter Tryz.func112, Tryz.ntmps112
        go_wp2
        go_ret
        exact ⟨ret_bool (by simp [bareB, *]), Hb.out _⟩
    · have bn2 : ¬ (n2 : Int) = 0 := by omega
      go_enter Tryz.func112, Tryz.ntmps112
      go_wp2
      go_ret
      exact ⟨ret_bool (by simp [bareB, *]), Hb.out _⟩
  by_cases k3 : vk = 3
  · subst k3
    by_cases an : vn = 0
    · subst an
      by_cases an3 : n3 = 0
      · subst an3
        by_cases an4 : n4 = 0
        · subst an4
          go_enter Tryz.func112, Tryz.ntmps112
          go_wp2
          go_ret
          exact ⟨ret_bool (by simp [bareB, *]), Hb.out _⟩
        · have bn4 : ¬ (n4 : Int) = 0 := by omega
          go_enter Tryz.func112, Tryz.ntmps112
          go_wp2
          go_ret
          exact ⟨ret_bool (by simp [bareB, *]), Hb.out _⟩
      · have bn3 : ¬ (n3 : Int) = 0 := by omega
        go_enter Tryz.func112, Tryz.ntmps112
        go_wp2
        go_ret
        exact ⟨ret_bool (by simp [bareB, *]), Hb.out _⟩
    · go_enter Tryz.func112, Tryz.ntmps112
      go_wp2
      go_ret
      exact ⟨ret_bool (by simp [bareB, *]), Hb.out _⟩
  by_cases k4 : vk = 4
  · subst k4
    by_cases an : vn = 0
    · subst an
      by_cases an2 : n2 = 0
      · subst an2
        by_cases an3 : n3 = 0
        · subst an3
          go_enter Tryz.func112, Tryz.ntmps112
          go_wp2
          go_ret
          exact ⟨ret_bool (by simp [bareB, *]), Hb.out _⟩
        · have bn3 : ¬ (n3 : Int) = 0 := by omega
          go_enter Tryz.func112, Tryz.ntmps112
          go_wp2
          go_ret
          exact ⟨ret_bool (by simp [bareB, *]), Hb.out _⟩
      · have bn2 : ¬ (n2 : Int) = 0 := by omega
        go_enter Tryz.func112, Tryz.ntmps112
        go_wp2
        go_ret
        exact ⟨ret_bool (by simp [bareB, *]), Hb.out _⟩
    · go_enter Tryz.func112, Tryz.ntmps112
      go_wp2
      go_ret
      exact ⟨ret_bool (by simp [bareB, *]), Hb.out _⟩
  by_cases k5 : vk = 5
  · subst k5
    by_cases an : vn = 0
    · subst an
      by_cases an2 : n2 = 0
      · subst an2
        go_enter Tryz.func112, Tryz.ntmps112
        go_wp2
        go_ret
        exact ⟨ret_bool (by simp [bareB, *]), Hb.out _⟩
      · have bn2 : ¬ (n2 : Int) = 0 := by omega
        go_enter Tryz.func112, Tryz.ntmps112
        go_wp2
        go_ret
        exact ⟨ret_bool (by simp [bareB, *]), Hb.out _⟩
    · go_enter Tryz.func112, Tryz.ntmps112
      go_wp2
      go_ret
      exact ⟨ret_bool (by simp [bareB, *]), Hb.out _⟩
  by_cases an : vn = 0
  · subst an
    by_cases an2 : n2 = 0
    · subst an2
      by_cases an3 : n3 = 0
      · subst an3
        by_cases an4 : n4 = 0
        · subst an4
          go_enter Tryz.func112, Tryz.ntmps112
          go_wp2
          go_ret
          exact ⟨ret_bool (by simp [bareB, *]), Hb.out _⟩
        · have bn4 : ¬ (n4 : Int) = 0 := by omega
          go_enter Tryz.func112, Tryz.ntmps112
          go_wp2
          go_ret
          exact ⟨ret_bool (by simp [bareB, *]), Hb.out _⟩
      · have bn3 : ¬ (n3 : Int) = 0 := by omega
        go_enter Tryz.func112, Tryz.ntmps112
        go_wp2
        go_ret
        exact ⟨ret_bool (by simp [bareB, *]), Hb.out _⟩
    · have bn2 : ¬ (n2 : Int) = 0 := by omega
      go_enter Tryz.func112, Tryz.ntmps112
      go_wp2
      go_ret
      exact ⟨ret_bool (by simp [bareB, *]), Hb.out _⟩
  · go_enter Tryz.func112, Tryz.ntmps112
    go_wp2
    go_ret
    exact ⟨ret_bool (by simp [bareB, *]), Hb.out _⟩
end Go.Proofs.YtngjhimieacjhaaGreatDoor
