/-
  Texts that a law leans on, one behind the other; no statement is proved here.
-/
import Derived.Test.YtndnidmeompieaaGreatDoorPk2
import Derived.OwnWalk
import Derived.Deep.RegionHeld3
/-
  l4split of the specification: where an address is parted, and whether it is one.
-/
namespace Go.Proofs.YtndnidmeompieaaGreatDoor
open Go.RowKit
set_option linter.unusedVariables false

/-- What l4split answers. -/
def SplitEnd (a : Option Addr) (c : Nat) (xs : List Int) (w : World) (e : Ending) (w' : World) : Prop :=
  w = w' ∧ ∃ v1 v2, e = .returned (.tuple #[v1, v2, .bool (addrB xs)]) ∧ (addrB xs = true → v1 = .slice a (cutI xs) c)

theorem split_no {a : Option Addr} {c : Nat} {xs : List Int} {w : World} (h : addrB xs = false) (v1 v2 : Value) : SplitEnd a c xs w (.returned (.tuple #[v1, v2, .bool false])) w :=
  ⟨rfl, v1, v2, by rw [h], fun h' => by rw [h] at h'; cases h'⟩
theorem split_yes {a : Option Addr} {c k : Nat} {xs : List Int} {w : World} (h : addrB xs = true) (hk : cutI xs = k) (v2 : Value) : SplitEnd a c xs w (.returned (.tuple #[.slice a k c, v2, .bool true])) w :=
  ⟨rfl, _, v2, by rw [h], fun _ => by rw [hk]⟩

theorem getD_drop' (xs : List Int) (j i : Nat) : (xs.drop j).getD i 0 = xs.getD (j + i) 0 := by simp [List.getD_eq_getElem?_getD, List.getElem?_drop]
theorem getD_take' (xs : List Int) (s i : Nat) (h : i < s) : (xs.take s).getD i 0 = xs.getD i 0 := by simp [List.getD_eq_getElem?_getD, h]

/-- What stands between the brackets, as a piece. -/
def inner (xs : List Int) (k p : Nat) : List Int := (xs.drop (k + 1)).take (p + 1)
theorem inner_len {xs : List Int} {k p : Nat} (h : xs.length = k + (p + 3)) : (inner xs k p).length = p + 1 := by simp [inner]; omega
theorem inner_at {xs : List Int} {k p i : Nat} (h : i < p + 1) : (inner xs k p).getD i 0 = xs.getD (k + 1 + i) 0 := by
  unfold inner
  rw [getD_take' _ _ _ h, getD_drop']
theorem innR_at {xs : List Int} {k p : Nat} (h : xs.length = k + (p + 3)) : innR (xs.drop (k + 1)) = (decide (xs.getD (k + (p + 2)) 0 = 93) && innB (inner xs k p)) := by
  unfold innR inner
  have hl : (xs.drop (k + 1)).length = p + 2 := by simp; omega
  rw [hl, getD_drop', decide_eq_true (by omega : 2 ≤ p + 2)]
  have e : k + 1 + (p + 2 - 1) = k + (p + 2) := by omega
  rw [e]
  rfl
theorem innB_key {xs : List Int} {k p : Nat} (h : xs.length = k + (p + 3)) (h34 : xs.getD (k + 1) 0 = 34) : innB (inner xs k p) = (decide (3 ≤ p + 1) && decide (xs.getD (k + 1 + p) 0 = 34) && nameB ((xs.drop (k + 2)).take (p - 1))) := by
  unfold innB
  rw [inner_len h, inner_at (by omega), if_pos h34]
  have e : p + 1 - 1 = p := by omega
  have e2 : p + 1 - 2 = p - 1 := by omega
  rw [e, e2, inner_at (by omega)]
  have e3 : ((inner xs k p).drop 1).take (p - 1) = (xs.drop (k + 2)).take (p - 1) := by
    unfold inner
    rw [List.drop_take, List.drop_drop, List.take_take]
    congr 1
    omega
  rw [e3]
theorem innB_num {xs : List Int} {k p : Nat} (h : xs.length = k + (p + 3)) (h34 : ¬ xs.getD (k + 1) 0 = 34) : innB (inner xs k p) = (decide (p + 1 ≤ 2) && !(decide (p + 1 = 2) && decide (xs.getD (k + 1) 0 = 48)) && (inner xs k p).all digB) := by
  unfold innB
  rw [inner_len h, inner_at (by omega), if_neg h34]

/-- The first k are no bracket. -/
def noBr (xs : List Int) (k : Nat) : Prop := ∀ i, i < k → xs.getD i 0 ≠ 91

set_option maxHeartbeats 1600000 in
theorem l4split_any (a : Option Addr) (c : Nat) (xs : List Int) (w : World) (ha : Seg w a xs) (hcap : xs.length ≤ c) (hc2 : c ≤ maxLen) (ka : a = none → c = 0) :
    Calls Tryz.prog 26 #[.slice a xs.length c] w (SplitEnd a c xs w) := by
  unfold maxLen at hc2
  have hby := getD_byt ha.1
  generalize hn : xs.length = n at *
  have Hn : Hid (xs.length = n) := hn
  clear hn
  have HN : Hid (∀ s : Nat, s ≤ n → Calls Tryz.prog 41 #[.slice a s c] w fun e w' => e = .returned (.bool (nameB (xs.take s))) ∧ w = w') := by
    intro s hs
    have hl : (xs.take s).length = s := by have := Hn.out; simp; omega
    have := spec_NameOk_any a c (xs.take s) w (ha.front s (by have := Hn.out; omega)) (by rw [hl]; unfold maxLen; omega)
    rw [hl] at this
    exact this
  go_enter Tryz.func26, Tryz.ntmps26
  go_wp2
  go_loopw [5] (fun i wr => ∃ k : Nat, k ≤ n ∧ i = .int .i64 k ∧ noBr xs k ∧ wr = w) (fun i _ => n - (intOf i).toNat)
  case atStart => exact ⟨0, Nat.zero_le _, rfl, fun i h => by omega, rfl⟩
  case round =>
    obtain ⟨k, hk, rfl, hno, rfl⟩ := hrel
    by_cases hlt : k < n
    · obtain ⟨b, off, rfl, hc⟩ := ha.at (k := k) (by have := Hn.out; omega)
      have hlt' : (k : Int) < (n : Int) := by omega
      by_cases h91 : xs.getD k 0 = 91
      · have HC : Hid (cutI xs = k) := cutI_eq hno (.inr ⟨by have := Hn.out; omega, h91⟩)
        rw [h91] at hc
        have HK := hide' (HN.out k (by omega))
        have hne : ¬ cutI xs = xs.length := by have := HC.out; have := Hn.out; omega
        have HB : Hid (addrB xs = (nameB (xs.take k) && innR (xs.drop (k + 1)))) := by
          show addrB xs = _
          unfold addrB
          rw [decide_eq_false hne, HC.out, Bool.false_or]
        have hcell : ∀ i, i < n → wr.cell? ⟨b, off + i, none⟩ = some (.int .u8 (xs.getD i 0)) := by
          intro i hi
          obtain ⟨b', off', e, hc'⟩ := ha.at (k := i) (by have := Hn.out; omega)
          simp at e
          obtain ⟨rfl, rfl⟩ := e
          exact hc'
        have Hcell := hide' hcell
        have hck : ¬ c = k := by omega
        clear hcell hne hno
        cases hnb : nameB (xs.take k) with
        | false =>
          rw [hnb] at HK
          have HB' : Hid (addrB xs = false) := by show _ = false; rw [HB.out, hnb]; rfl
          clear hnb HB
          go_wp2_with fail
          refine HK.out.mono ?_
          rintro e w1 ⟨rfl, rfl⟩
          go_wp2
          go_ret3
          exact split_no HB'.out _ _
        | true =>
          rw [hnb] at HK HB
          have HB1 : Hid (addrB xs = innR (xs.drop (k + 1))) := by show addrB xs = _; rw [HB.out]; rfl
          have hlr : (xs.drop (k + 1)).length = n - k - 1 := by have := Hn.out; simp; omega
          clear hnb HB
          by_cases h3 : n - k < 3
          · have HB' : Hid (addrB xs = false) := by
              show _ = false
              rw [HB1.out]
              unfold innR
              rw [hlr, decide_eq_false (by omega)]
              rfl
            have h3' : ((n - k : Nat) : Int) < 3 := by omega
            have h0' : ¬ ((n - k : Nat) : Int) = 0 := by omega
            clear HB1 hlr
            go_wp2_with fail
            refine HK.out.mono ?_
            rintro e w1 ⟨rfl, rfl⟩
            go_wp2
            go_ret3
            exact split_no HB'.out _ _
          · obtain ⟨p, rfl⟩ : ∃ p, n = k + (p + 3) := ⟨n - k - 3, by omega⟩
            obtain ⟨d, rfl⟩ : ∃ d, c = k + (d + 3) := ⟨c - k - 3, by omega⟩
            have hqd : p ≤ d := by omega
            have hz := Hcell.out (k + (p + 2)) (by omega)
            rw [← Nat.add_assoc] at hz
            have h3' : ¬ ((p : Int) + 3 < 3) := by omega
            have h0' : ¬ ((p : Int) + 3 = 0) := by omega
            have HR := hide' (innR_at Hn.out)
            clear h3 hlr
            by_cases h93 : xs.getD (k + (p + 2)) 0 = 93
            · rw [h93] at hz
              have HB2 : Hid (addrB xs = innB (inner xs k p)) := by show addrB xs = _; rw [HB1.out, HR.out, decide_eq_true h93]; rfl
              have hy := Hcell.out (k + 1) (by omega)
              rw [← Nat.add_assoc] at hy
              clear HR HB1
              by_cases h34 : xs.getD (k + 1) 0 = 34
              · rw [h34] at hy
                have HB3 : Hid (addrB xs = _) := HB2.out.trans (innB_key Hn.out h34)
                clear HB2
                by_cases hp3 : p < 2
                · have HB' : Hid (addrB xs = false) := by
                    show _ = false
                    rw [HB3.out, decide_eq_false (by omega)]
                    rfl
                  have hp3' : (p : Int) + 1 < 3 := by omega
                  clear HB3
                  go_wp2_with fail
                  refine HK.out.mono ?_
                  rintro e w1 ⟨rfl, rfl⟩
                  go_wp2
                  go_ret3
                  exact split_no HB'.out _ _
                · have hp3' : ¬ (p : Int) + 1 < 3 := by omega
                  have hyl := Hcell.out (k + 1 + p) (by omega)
                  rw [← Nat.add_assoc, ← Nat.add_assoc] at hyl
                  by_cases hl34 : xs.getD (k + 1 + p) 0 = 34
                  · rw [hl34] at hyl
                    have HB4 : Hid (addrB xs = nameB ((xs.drop (k + 2)).take (p - 1))) := by show addrB xs = _; rw [HB3.out, decide_eq_true hl34, decide_eq_true (by omega)]; rfl
                    have hll : ((xs.drop (k + 2)).take (p - 1)).length = p - 1 := by have := Hn.out; simp; omega
                    have HK2 : Hid (Calls Tryz.prog 41 #[.slice (some ⟨b, off + k + 1 + 1, none⟩) (p - 1) (d + 1)] wr fun e w' => e = .returned (.bool (nameB ((xs.drop (k + 2)).take (p - 1)))) ∧ wr = w') := by
                      have := spec_NameOk_any (some ⟨b, off + k + 1 + 1, none⟩) (d + 1) ((xs.drop (k + 2)).take (p - 1)) wr (by have := ha.piece (k + 2) (p - 1) (by have := Hn.out; omega); rw [show off + k + 1 + 1 = off + (k + 2) from by omega]; exact this) (by rw [hll]; unfold maxLen; omega)
                      rw [hll] at this
                      exact this
                    clear HB3
                    generalize nameB ((xs.drop (k + 2)).take (p - 1)) = nb at HB4 HK2
                    cases nb with
                    | false =>
                      go_wp2_with fail
                      refine HK.out.mono ?_
                      rintro e w1 ⟨rfl, rfl⟩
                      go_wp2_with fail
                      refine HK2.out.mono ?_
                      rintro e w1 ⟨rfl, rfl⟩
                      go_wp2
                      go_ret3
                      exact split_no HB4.out _ _
                    | true =>
                      go_wp2_with fail
                      refine HK.out.mono ?_
                      rintro e w1 ⟨rfl, rfl⟩
                      go_wp2_with fail
                      refine HK2.out.mono ?_
                      rintro e w1 ⟨rfl, rfl⟩
                      go_wp2
                      go_ret3
                      exact split_yes HB4.out HC.out _
                  · have HB' : Hid (addrB xs = false) := by
                      show _ = false
                      rw [HB3.out, decide_eq_false hl34, Bool.and_false]
                      rfl
                    generalize xs.getD (k + 1 + p) 0 = z at hyl hl34
                    clear HB3
                    go_wp2_with fail
                    refine HK.out.mono ?_
                    rintro e w1 ⟨rfl, rfl⟩
                    go_wp2
                    go_ret3
                    exact split_no HB'.out _ _
              · have HB3 : Hid (addrB xs = _) := HB2.out.trans (innB_num Hn.out h34)
                clear HB2
                by_cases hp : 2 ≤ p
                · have HB' : Hid (addrB xs = false) := by
                    show _ = false
                    rw [HB3.out, decide_eq_false (by omega)]
                    rfl
                  have hp' : (2 : Int) < (p : Int) + 1 := by omega
                  generalize xs.getD (k + 1) 0 = y0 at hy h34
                  have h34b : (y0 == 34) = false := by simp [h34]
                  clear HB3
                  go_wp2_with fail
                  refine HK.out.mono ?_
                  rintro e w1 ⟨rfl, rfl⟩
                  go_wp2
                  go_ret3
                  exact split_no HB'.out _ _
                have hp' : ¬ (2 : Int) < (p : Int) + 1 := by omega
                by_cases hp1 : p = 1
                · subst hp1
                  simp only [Nat.reduceAdd] at hz hcap hc2 hk hlt hlt' hck ka
                  by_cases h48 : xs.getD (k + 1) 0 = 48
                  · have HB' : Hid (addrB xs = false) := by
                      show _ = false
                      rw [HB3.out, decide_eq_true h48, decide_eq_true (by omega : 1 + 1 = 2)]
                      simp
                    rw [h48] at hy
                    clear HB3
                    go_wp2_with fail
                    refine HK.out.mono ?_
                    rintro e w1 ⟨rfl, rfl⟩
                    go_wp2
                    go_ret3
                    exact split_no HB'.out _ _
                  · have HA : Hid (addrB xs = (inner xs k 1).all digB) := by
                      show addrB xs = _
                      rw [HB3.out]
                      rw [decide_eq_true (by omega : 1 + 1 ≤ 2), decide_eq_true (by omega : 1 + 1 = 2), decide_eq_false h48]
                      rfl
                    have Hc2 : Hid (∀ i, i < 2 → wr.cell? ⟨b, off + k + 1 + i, none⟩ = some (.int .u8 ((inner xs k 1).getD i 0))) := by
                      intro i hi
                      rw [inner_at hi, show off + k + 1 + i = off + (k + 1 + i) from by omega]
                      exact Hcell.out _ (by omega)
                    have Hil : Hid ((inner xs k 1).length = 2) := inner_len Hn.out
                    have Hby : Hid (∀ i, i < 2 → 0 ≤ (inner xs k 1).getD i 0 ∧ (inner xs k 1).getD i 0 ≤ 255) := by
                      intro i hi
                      rw [inner_at hi]
                      exact hby _
                    clear HB3
                    generalize inner xs k 1 = ys at HA Hc2 Hil Hby
                    generalize xs.getD (k + 1) 0 = y0 at hy h34 h48
                    have h34b : (y0 == 34) = false := by simp [h34]
                    have h48b : (y0 == 48) = false := by simp [h48]
                    clear hby Hcell
                    go_wp2_with fail
                    refine HK.out.mono ?_
                    rintro e w1 ⟨rfl, rfl⟩
                    go_wp2
                    go_loopw [9] (fun j wx => ∃ t : Nat, t ≤ 2 ∧ j = .int .i64 t ∧ fstAll digB ys t ∧ wx = wr) (fun j _ => 2 - (intOf j).toNat)
                    case atStart => exact ⟨0, Nat.zero_le _, rfl, fstAll_zero _ _, rfl⟩
                    case round =>
                      obtain ⟨t, ht, rfl, hall, rfl⟩ := hrel
                      by_cases htl : t < 2
                      · have hct := Hc2.out t htl
                        have hbt := Hby.out t htl
                        have htl' : (t : Int) < (2 : Int) := by omega
                        have HS : Hid (digB (ys.getD t 0) = true → fstAll digB ys (t + 1)) := fun h => fstAll_succ hall h
                        have HF : Hid (digB (ys.getD t 0) = false → ys.all digB = false) := fun h => not_all_of (by rw [Hil.out]; omega) h
                        generalize ys.getD t 0 = z at hct hbt HS HF
                        obtain ⟨hz1, hz2⟩ := hbt
                        by_cases hz48 : z < 48
                        · have HB' : Hid (addrB xs = false) := HA.out.trans (HF.out (by simp [digB]; omega))
                          go_wp2
                          go_ret3
                          exact split_no HB'.out _ _
                        · by_cases hz57 : 57 < z
                          · have HB' : Hid (addrB xs = false) := HA.out.trans (HF.out (by simp [digB]; omega))
                            go_wp2
                            go_ret3
                            exact split_no HB'.out _ _
                          · have HT : Hid (fstAll digB ys (t + 1)) := HS.out (by simp [digB]; omega)
                            go_wp2
                            go_roundw
                            case rel => exact ⟨t + 1, by omega, by go_num, HT.out, by first | rfl | trivial⟩
                            case measure => simp [intOf]; omega
                      · have HB' : Hid (addrB xs = true) := HA.out.trans (all_of_fstAll (by rw [Hil.out, ← (by omega : t = 2)]; exact hall))
                        have htl' : ¬ (t : Int) < (2 : Int) := by omega
                        go_wp2
                        go_ret3
                        exact split_yes HB'.out HC.out _
                · have hp1' : ((p : Int) + 1 == 2) = false := by simp; omega
                  have HA : Hid (addrB xs = (inner xs k p).all digB) := by
                    show addrB xs = _
                    rw [HB3.out]
                    rw [decide_eq_true (by omega : p + 1 ≤ 2), decide_eq_false (by omega : ¬ p + 1 = 2)]
                    rfl
                  have Hc2 : Hid (∀ i, i < p + 1 → wr.cell? ⟨b, off + k + 1 + i, none⟩ = some (.int .u8 ((inner xs k p).getD i 0))) := by
                    intro i hi
                    rw [inner_at hi, show off + k + 1 + i = off + (k + 1 + i) from by omega]
                    exact Hcell.out _ (by omega)
                  have Hil : Hid ((inner xs k p).length = p + 1) := inner_len Hn.out
                  have Hby : Hid (∀ i, i < p + 1 → 0 ≤ (inner xs k p).getD i 0 ∧ (inner xs k p).getD i 0 ≤ 255) := by
                    intro i hi
                    rw [inner_at hi]
                    exact hby _
                  clear HB3
                  generalize inner xs k p = ys at HA Hc2 Hil Hby
                  generalize xs.getD (k + 1) 0 = y0 at hy h34
                  have h34b : (y0 == 34) = false := by simp [h34]
                  clear hby Hcell
                  go_wp2_with fail
                  refine HK.out.mono ?_
                  rintro e w1 ⟨rfl, rfl⟩
                  go_wp2
                  go_loopw [9] (fun j wx => ∃ t : Nat, t ≤ p + 1 ∧ j = .int .i64 t ∧ fstAll digB ys t ∧ wx = wr) (fun j _ => p + 1 - (intOf j).toNat)
                  case atStart => exact ⟨0, Nat.zero_le _, rfl, fstAll_zero _ _, rfl⟩
                  case round =>
                    obtain ⟨t, ht, rfl, hall, rfl⟩ := hrel
                    by_cases htl : t < p + 1
                    · have hct := Hc2.out t htl
                      have hbt := Hby.out t htl
                      have htl' : (t : Int) < (p : Int) + 1 := by omega
                      have HS : Hid (digB (ys.getD t 0) = true → fstAll digB ys (t + 1)) := fun h => fstAll_succ hall h
                      have HF : Hid (digB (ys.getD t 0) = false → ys.all digB = false) := fun h => not_all_of (by rw [Hil.out]; omega) h
                      generalize ys.getD t 0 = z at hct hbt HS HF
                      obtain ⟨hz1, hz2⟩ := hbt
                      by_cases hz48 : z < 48
                      · have HB' : Hid (addrB xs = false) := HA.out.trans (HF.out (by simp [digB]; omega))
                        go_wp2
                        go_ret3
                        exact split_no HB'.out _ _
                      · by_cases hz57 : 57 < z
                        · have HB' : Hid (addrB xs = false) := HA.out.trans (HF.out (by simp [digB]; omega))
                          go_wp2
                          go_ret3
                          exact split_no HB'.out _ _
                        · have HT : Hid (fstAll digB ys (t + 1)) := HS.out (by simp [digB]; omega)
                          go_wp2
                          go_roundw
                          case rel => exact ⟨t + 1, by omega, by go_num, HT.out, by first | rfl | trivial⟩
                          case measure => simp [intOf]; omega
                    · have HB' : Hid (addrB xs = true) := HA.out.trans (all_of_fstAll (by rw [Hil.out, ← (by omega : t = p + 1)]; exact hall))
                      have htl' : ¬ (t : Int) < (p : Int) + 1 := by omega
                      go_wp2
                      go_ret3
                      exact split_yes HB'.out HC.out _
            · have HB' : Hid (addrB xs = false) := by
                show _ = false
                rw [HB1.out, HR.out, decide_eq_false h93]
                rfl
              generalize xs.getD (k + (p + 2)) 0 = z at hz h93
              have h93b : (z != 93) = true := by simp [h93]
              clear HR HB1
              go_wp2_with fail
              refine HK.out.mono ?_
              rintro e w1 ⟨rfl, rfl⟩
              go_wp2
              go_ret3
              exact split_no HB'.out _ _
      · have hno' : noBr xs (k + 1) := fun i hi => by
          by_cases e : i = k
          · rw [e]; exact h91
          · exact hno i (by omega)
        have HO := hide' hno'
        generalize xs.getD k 0 = z at hc h91
        clear hno hno'
        go_wp2
        go_roundw
        case rel => exact ⟨k + 1, by omega, by go_num, HO.out, by first | rfl | trivial⟩
        case measure => simp [intOf]; omega
    · obtain rfl : k = n := by omega
      have HC : Hid (cutI xs = xs.length) := cutI_eq (by have := Hn.out; rw [this]; exact hno) (.inl rfl)
      have HC' : Hid (cutI xs = k) := HC.out.trans Hn.out
      have HK := hide' (HN.out k (Nat.le_refl _))
      have ht : xs.take k = xs := by rw [← Hn.out]; simp
      rw [ht] at HK
      have HB : Hid (addrB xs = nameB xs) := by
        show addrB xs = nameB xs
        unfold addrB
        rw [HC'.out, ht]
        simp [Hn.out]
      have hlt' : ¬ (k : Int) < (k : Int) := by omega
      clear hno
      cases hnb : nameB xs with
      | false =>
        rw [hnb] at HK
        have HB' : Hid (addrB xs = false) := HB.out.trans hnb
        clear hnb HB
        go_wp2_with fail
        refine HK.out.mono ?_
        rintro e w1 ⟨rfl, rfl⟩
        go_wp2
        go_ret3
        exact split_no HB'.out _ _
      | true =>
        rw [hnb] at HK
        have HB' : Hid (addrB xs = true) := HB.out.trans hnb
        clear hnb HB
        by_cases hck : c = k
        · subst hck
          go_wp2_with fail
          refine HK.out.mono ?_
          rintro e w1 ⟨rfl, rfl⟩
          go_wp2
          go_ret3
          exact split_yes HB'.out HC'.out _
        · cases a with
          | none => exact absurd (ka rfl) (by omega)
          | some x =>
          go_wp2_with fail
          refine HK.out.mono ?_
          rintro e w1 ⟨rfl, rfl⟩
          go_wp2
          go_ret3
          exact split_yes HB'.out HC'.out _
end Go.Proofs.YtndnidmeompieaaGreatDoor
/-
  AddrOk and AddrName of the specification.
-/
namespace Go.Proofs.YtndnidmeompieaaGreatDoor
open Go.RowKit
set_option linter.unusedVariables false

theorem addrN_short (xs : List Int) : (addrN xs).length ≤ 8 := by
  unfold addrN
  split
  · rename_i h
    simp only [addrB, Bool.and_eq_true] at h
    exact (nameB_le h.1).2
  · simp

set_option maxHeartbeats 800000 in
theorem spec_AddrOk_any (a : Option Addr) (c : Nat) (xs : List Int) (w : World) (ha : Seg w a xs) (hcap : xs.length ≤ c) (hc2 : c ≤ maxLen) (ka : a = none → c = 0) :
    Calls Tryz.prog 14 #[.slice a xs.length c] w fun e w' => e = .returned (.bool (addrB xs)) ∧ w = w' := by
  have HS := hide' (l4split_any a c xs w ha hcap hc2 ka)
  go_enter Tryz.func14, Tryz.ntmps14
  go_wp2_with fail
  refine HS.out.mono ?_
  rintro e w1 ⟨rfl, v1, v2, rfl, _⟩
  go_wp2
  go_ret
  exact ⟨rfl, rfl⟩

end Go.Proofs.YtndnidmeompieaaGreatDoor
/-
  Regions that draw, walked by hand in the order of the text: the library's 'wpAnyH_take' with the slot said; no statement is proved here. For guarded operations that are not wanted.
-/
namespace Go.Proofs.YtndnidmeompieaaGreatDoor
set_option linter.unusedVariables false

section
variable {P : Program} {ops : Array Oper} {Q : Exit → Act → World → Prop} {md : Region.Mode} {S : World → Prop}
theorem take_yes {i : Nat} (d : Nat) {oi : Oper} {v : Value} {fuel : Nat} {listed : Array Bool} {a : Act} {w : World} (hi : ops[i]? = some oi) (hd : oi.dst = some d)
    (hs : Region.noSelect ops = true) (hf : Region.free md ops listed i = true) (hr : (Region.ready md ops listed).contains i = true)
    (hQ : ∀ c a w, Q (.panic c) (a.put (some d) v) w → Q (.panic c) a w) (hw : Region.wanted oi (yielded ops a.tmps) = true) (hS : S w)
    (hy : ∀ w, S w → (execOp a.eval oi).run P w = .ok (.value v) w)
    (h : wpAnyH P md ops Q S fuel (listed.setIfInBounds i true) (a.put (some d) v) w) : wpAnyH P md ops Q S (fuel + 1) listed a w :=
  wpAnyH_take hi hs hf hr (by rw [hd]; exact hQ) (Or.inl ⟨hw, hy⟩) hS (by rw [hd]; exact h)
theorem take_not {i : Nat} (d : Nat) {oi : Oper} {fuel : Nat} {listed : Array Bool} {a : Act} {w : World} (hi : ops[i]? = some oi) (hd : oi.dst = some d)
    (hs : Region.noSelect ops = true) (hf : Region.free md ops listed i = true) (hr : (Region.ready md ops listed).contains i = true)
    (hQ : ∀ c a w, Q (.panic c) (a.put (some d) undef) w → Q (.panic c) a w) (hw : Region.wanted oi (yielded ops a.tmps) = false) (hS : S w)
    (h : wpAnyH P md ops Q S fuel (listed.setIfInBounds i true) (a.put (some d) undef) w) : wpAnyH P md ops Q S (fuel + 1) listed a w :=
  wpAnyH_take hi hs hf hr (by rw [hd]; exact hQ) (Or.inr ⟨hw, rfl⟩) hS (by rw [hd]; exact h)
end
end Go.Proofs.YtndnidmeompieaaGreatDoor
