/-
  AddrItem of the program and of the specification: a name with a number.
-/
import Derived.Test.YthmljjebggljmaaDoorNamA
import Derived.Test.YthmljjebggljmaaDoorDig1
import Derived.Test.YthmljjebggljmaaDoorShelf
namespace Go.Proofs.YthmljjebggljmaaDoor
open Go.RowKit
set_option linter.unusedVariables false

/-- What AddrItem answers. -/
def addrItem (xs : List Int) (n : Int) : List Int := if nameB xs = true ∧ 0 ≤ n ∧ n ≤ 99 then xs ++ [91] ++ decI n.toNat ++ [93] else []
theorem addrItem_no (xs : List Int) (n : Int) (h : ¬ (nameB xs = true ∧ 0 ≤ n ∧ n ≤ 99)) : addrItem xs n = [] := if_neg h
theorem addrItem_yes (xs : List Int) (u : Nat) (h1 : nameB xs = true) (h2 : u ≤ 99) : addrItem xs u = xs ++ [91] ++ decI u ++ [93] := by
  unfold addrItem
  rw [if_pos ⟨h1, by omega, by omega⟩]
  simp
theorem addrItem_len (xs : List Int) (n : Int) : (addrItem xs n).length ≤ 12 := by
  unfold addrItem
  split
  · rename_i h
    have h1 := nameB_le h.1
    have h2 := decI_two (u := n.toNat) (by omega)
    simp; omega
  · simp

theorem byteCells_decI (u : Nat) : Lib.byteCells (Lib.decDigits u) = cellsOf (decI u) := by
  unfold Lib.byteCells cellsOf decI
  rw [List.map_map]
  rfl
theorem length_decI (u : Nat) : (Lib.decDigits u).length = (decI u).length := by simp [decI]

set_option maxHeartbeats 800000 in
theorem AppendInt_small (B u : Nat) (sv : Value) (xs : List Int) (w : World) (hu : u < 100) (hB : Bts w B sv xs) (hBw : B ≤ w.heap.size) (hl : xs.length ≤ 2097152) :
    Calls Tryd.prog 28 #[sv, .int .i64 u, .int .i64 10] w fun e w' => ∃ v, e = .returned v ∧ Bts w' B v (xs ++ decI u) ∧ Below B w w' := by
  have HU := hide' (Tryd.internal_strconv_AppendUint_10_small B xs.length u hu sv (cellsOf xs) w hB.2 hBw (by omega))
  have HF : Hid (∀ v' w', w'.ownsRow B 5 1 v' (xs.length + (Lib.decDigits u).length) (cellsOf xs ++ Lib.byteCells (Lib.decDigits u)) → Bts w' B v' (xs ++ decI u)) := by
    intro v' w' h
    refine ⟨?_, ?_⟩
    · intro z hz
      rcases List.mem_append.1 hz with h1 | h1
      · exact hB.1 z h1
      · exact decI_byt u z h1
    · rw [byteCells_decI, length_decI, ← cellsOf_append] at h
      rw [List.length_append]
      exact h
  have h0 : ¬ (u : Int) < 0 := by omega
  have HI : Hid (Calls Tryd.prog 40 #[sv, .int .i64 u, .int .i64 10] w fun e w' => ∃ v, e = .returned v ∧ Bts w' B v (xs ++ decI u) ∧ Below B w w') := by
    show Calls _ _ _ _ _
    clear hB
    go_enter Tryd.func40, Tryd.ntmps40
    go_wp2_with fail
    refine HU.out.mono ?_
    rintro e w1 ⟨v1, rfl, ho, hb, _⟩
    have HB := hide' (HF.out _ _ ho)
    clear ho
    go_wp2
    go_ret
    exact ⟨_, rfl, HB.out, hb⟩
  clear hB HU HF
  go_enter Tryd.func28, Tryd.ntmps28
  go_wp2_with fail
  refine HI.out.mono ?_
  rintro e w1 ⟨v1, rfl, hB1, hb⟩
  go_wp2
  go_ret
  exact ⟨_, rfl, hB1, hb⟩

set_option maxHeartbeats 800000 in
theorem l4item_any (a : Option Addr) (c1 : Nat) (xs : List Int) (u : Nat) (w : World) (ha : Seg w a xs) (ka : a = none → c1 = 0) (hl : xs.length ≤ 2097152) (hu : u ≤ 99) :
    Calls Tryd.prog 39 #[.slice a xs.length c1, .int .i64 u] w fun e w' => ∃ v, e = .returned v ∧ Bts w' w.heap.size v (xs ++ [91] ++ decI u ++ [93]) ∧ Below w.heap.size w w' := by
  have hE := bts_empty w
  have hB1 : Below w.heap.size w (w.alloc (.cells #[] 5)) := (Below.refl _ _).alloc (Nat.le_refl _) _
  have hS1 := ha.grow hB1
  have hz1 := hB1.size
  have hd2 := decI_two (u := u) (by omega)
  have HD : Hid (∀ w1 : World, Calls Tryd.prog 53 #[.int .i64 u] w1 fun e w' => ∃ v, e = .returned v ∧ Bts w' w1.heap.size v (decI u) ∧ Below w1.heap.size w1 w') := fun w1 => l2digits_nat u (by omega) w1
  generalize hn : xs.length = n at *
  have Hn : Hid (n = xs.length) := hn.symm
  clear hn
  go_enter Tryd.func39, Tryd.ntmps39
  go_wp2_with (at_builtin; first
    | (refine wpList_append_seg rfl (.tmp 5) (.tmp 6) (by rfl) w.heap.size _ [] xs (by rfl) hE a n c1 Hn.out (by rfl) hS1 ka (by simp; have := Hn.out; omega) (by simp) ?_; intro v2 w2 hv2 hg2; rw [List.nil_append] at hv2; have hB2 := hB1.grown hg2 (by simp) hE.own; have hz2 := hB2.size; have hA2 := hv2.alloc (.cells #[.int .u8 91] 5); have hS2 := seg_one w2 91 (by simp [Byt]); have hB2a := hB2.alloc hz2 (.cells #[.int .u8 91] 5); clear hE hB1 hS1 hg2)
    | (refine wpList_append_seg rfl (.tmp 7) (.tmp 8) (by rfl) w.heap.size v2 xs [91] (by rfl) hA2 _ 1 1 rfl (by rfl) hS2 (by simp) (by simp; have := Hn.out; omega) (by simp; omega) ?_; intro v3 w3 hv3 hg3; have hB3 := hB2a.grown hg3 (by simp; omega) hA2.own; have hz3 := hB3.size; clear hv2 hA2 hB2 hB2a hS2 hg3))
  refine (HD.out w3).mono ?_
  rintro e w4 ⟨v4, rfl, hv4, b4⟩
  obtain ⟨a4, c4, rfl, _, _, _, _, k4⟩ := hv4.shape
  have hB4 := Below.on hB3 b4
  have hz4 := hB4.size
  have hv3' := hv3.grow b4
  have hS4 := hv4.seg
  clear hv3 hB3 b4 hv4
  generalize hq : (decI u).length = q at *
  have Hq : Hid (q = (decI u).length) := hq.symm
  clear hq
  go_wp2_with (at_builtin; first
    | (refine wpList_append_seg rfl (.tmp 9) (.tmp 11) (by rfl) w.heap.size v3 (xs ++ [91]) (decI u) (by rfl) hv3' a4 q c4 Hq.out (by rfl) hS4 k4 (by simp; have := Hn.out; have := Hq.out; omega) hz4 ?_; intro v5 w5 hv5 hg5; have hB5 := hB4.grown hg5 hz4 hv3'.own; have hz5 := hB5.size; have hA5 := hv5.alloc (.cells #[.int .u8 93] 5); have hS5 := seg_one w5 93 (by simp [Byt]); have hB5a := hB5.alloc hz5 (.cells #[.int .u8 93] 5); clear hv3' hB4 hS4 hg5)
    | (refine wpList_append_seg rfl (.tmp 12) (.tmp 13) (by rfl) w.heap.size v5 (xs ++ [91] ++ decI u) [93] (by rfl) hA5 _ 1 1 rfl (by rfl) hS5 (by simp) (by simp; have := Hn.out; have := Hq.out; omega) (by simp; omega) ?_; intro v6 w6 hv6 hg6; have hB6 := hB5a.grown hg6 (by simp; omega) hA5.own; clear hv5 hA5 hB5 hB5a hS5 hg6))
  go_ret
  exact ⟨_, rfl, hv6, hB6⟩

set_option maxHeartbeats 800000 in
theorem spec_AddrItem_any (a : Option Addr) (c1 : Nat) (xs : List Int) (n : Int) (w : World) (ha : Seg w a xs) (ka : a = none → c1 = 0) (hl : xs.length ≤ 2097152) :
    Calls Tryd.prog 22 #[.slice a xs.length c1, .int .i64 n] w fun e w' => ∃ v, e = .returned v ∧ Bts w' w.heap.size v (addrItem xs n) ∧ Below w.heap.size w w' := by
  have HA := hide' (spec_NameOk_any a c1 xs w ha (by unfold maxLen; omega))
  by_cases h1 : nameB xs = true
  · rw [h1] at HA
    by_cases h2 : n < 0
    · have Hp : Hid (addrItem xs n = []) := addrItem_no xs n fun h => by omega
      go_enter Tryd.func22, Tryd.ntmps22
      go_wp2_with fail
      refine HA.out.mono ?_
      rintro e w1 ⟨rfl, rfl⟩
      go_wp2
      go_ret
      exact ⟨_, rfl, by rw [Hp.out]; exact bts_nil _ _, Below.refl _ _⟩
    · by_cases h3 : 99 < n
      · have Hp : Hid (addrItem xs n = []) := addrItem_no xs n fun h => by omega
        go_enter Tryd.func22, Tryd.ntmps22
        go_wp2_with fail
        refine HA.out.mono ?_
        rintro e w1 ⟨rfl, rfl⟩
        go_wp2
        go_ret
        exact ⟨_, rfl, by rw [Hp.out]; exact bts_nil _ _, Below.refl _ _⟩
      · obtain ⟨u, rfl⟩ : ∃ u : Nat, n = u := ⟨n.toNat, by omega⟩
        have hu : u ≤ 99 := by omega
        have HK := hide' (l4item_any a c1 xs u w ha ka hl hu)
        have Hp : Hid (addrItem xs u = xs ++ [91] ++ decI u ++ [93]) := addrItem_yes xs u h1 hu
        go_enter Tryd.func22, Tryd.ntmps22
        go_wp2_with fail
        refine HA.out.mono ?_
        rintro e w1 ⟨rfl, rfl⟩
        go_wp2_with fail
        refine HK.out.mono ?_
        rintro e w1 ⟨v, rfl, hv, b1⟩
        go_wp2
        go_ret
        exact ⟨_, rfl, by rw [Hp.out]; exact hv, b1⟩
  · have h1' : nameB xs = false := by simpa using h1
    rw [h1'] at HA
    have Hp : Hid (addrItem xs n = []) := addrItem_no xs n fun h => h1 h.1
    go_enter Tryd.func22, Tryd.ntmps22
    go_wp2_with fail
    refine HA.out.mono ?_
    rintro e w1 ⟨rfl, rfl⟩
    go_wp2
    go_ret
    exact ⟨_, rfl, by rw [Hp.out]; exact bts_nil _ _, Below.refl _ _⟩

set_option maxHeartbeats 800000 in
theorem impl_AddrItem_any (a : Option Addr) (c1 : Nat) (xs : List Int) (n : Int) (w : World) (ha : Seg w a xs) (ka : a = none → c1 = 0) (hl : xs.length ≤ maxLen) :
    Calls Tryd.prog 9 #[.slice a xs.length c1, .int .i64 n] w fun e w' => ∃ v, e = .returned v ∧ Bts w' w.heap.size v (addrItem xs n) ∧ Below w.heap.size w w' := by
  have HA := hide' (impl_NameOk_any a c1 xs w ha hl)
  by_cases h1 : nameB xs = true
  · rw [h1] at HA
    by_cases h2 : n < 0
    · have Hp : Hid (addrItem xs n = []) := addrItem_no xs n fun h => by omega
      go_enter Tryd.func9, Tryd.ntmps9
      go_wp2_with fail
      refine HA.out.mono ?_
      rintro e w1 ⟨rfl, rfl⟩
      go_wp2
      go_ret
      exact ⟨_, rfl, by rw [Hp.out]; exact bts_nil _ _, Below.refl _ _⟩
    · by_cases h3 : 99 < n
      · have Hp : Hid (addrItem xs n = []) := addrItem_no xs n fun h => by omega
        go_enter Tryd.func9, Tryd.ntmps9
        go_wp2_with fail
        refine HA.out.mono ?_
        rintro e w1 ⟨rfl, rfl⟩
        go_wp2
        go_ret
        exact ⟨_, rfl, by rw [Hp.out]; exact bts_nil _ _, Below.refl _ _⟩
      · obtain ⟨u, rfl⟩ : ∃ u : Nat, n = u := ⟨n.toNat, by omega⟩
        have hu : u ≤ 99 := by omega
        have hd2 := decI_two (u := u) (by omega)
        have HN := hide' (nameAlone_any a c1 xs w ha ka hl)
        have hnc : nameC xs = xs := by simp [nameC, h1]
        rw [hnc] at HN
        have hl8 := (nameB_le h1).2
        have Hp : Hid (addrItem xs u = xs ++ [91] ++ decI u ++ [93]) := addrItem_yes xs u h1 hu
        have HI : Hid (∀ (v : Value) (w1 : World), Bts w1 w.heap.size v (xs ++ [91]) → w.heap.size ≤ w1.heap.size → Calls Tryd.prog 28 #[v, .int .i64 u, .int .i64 10] w1 fun e w' => ∃ v', e = .returned v' ∧ Bts w' w.heap.size v' (xs ++ [91] ++ decI u) ∧ Below w.heap.size w1 w') := fun v w1 hv hz => AppendInt_small w.heap.size u v (xs ++ [91]) w1 (by omega) hv hz (by simp; omega)
        go_enter Tryd.func9, Tryd.ntmps9
        go_wp2_with fail
        refine HA.out.mono ?_
        rintro e w1 ⟨rfl, rfl⟩
        go_wp2_with fail
        refine HN.out.mono ?_
        rintro e w2 ⟨v2, rfl, hv2, hB2⟩
        have hz2 := hB2.size
        have hA2 := hv2.alloc (.cells #[.int .u8 91] 5)
        have hS2 := seg_one w2 91 (by simp [Byt])
        have hB2a := hB2.alloc hz2 (.cells #[.int .u8 91] 5)
        go_wp2_with (at_builtin; refine wpList_append_seg rfl (.tmp 18) (.tmp 19) (by rfl) w.heap.size v2 xs [91] (by rfl) hA2 _ 1 1 rfl (by rfl) hS2 (by simp) (by simp; omega) (by simp; omega) ?_; intro v3 w3 hv3 hg3; have hB3 := hB2a.grown hg3 (by simp; omega) hA2.own; have hz3 := hB3.size; clear hv2 hA2 hB2 hB2a hS2 hg3)
        refine (HI.out _ _ hv3 hz3).mono ?_
        rintro e w4 ⟨v4, rfl, hv4, b4⟩
        have hB4 := hB3.trans b4
        have hz4 := hB4.size
        have hA4 := hv4.alloc (.cells #[.int .u8 93] 5)
        have hS4 := seg_one w4 93 (by simp [Byt])
        have hB4a := hB4.alloc hz4 (.cells #[.int .u8 93] 5)
        clear hv3 hB3 b4
        go_wp2_with (at_builtin; refine wpList_append_seg rfl (.tmp 23) (.tmp 24) (by rfl) w.heap.size v4 (xs ++ [91] ++ decI u) [93] (by rfl) hA4 _ 1 1 rfl (by rfl) hS4 (by simp) (by simp; omega) (by simp; omega) ?_; intro v6 w6 hv6 hg6; have hB6 := hB4a.grown hg6 (by simp; omega) hA4.own; clear hv4 hA4 hB4 hB4a hS4 hg6)
        go_ret
        exact ⟨_, rfl, by rw [Hp.out]; exact hv6, hB6⟩
  · have h1' : nameB xs = false := by simpa using h1
    rw [h1'] at HA
    have Hp : Hid (addrItem xs n = []) := addrItem_no xs n fun h => h1 h.1
    go_enter Tryd.func9, Tryd.ntmps9
    go_wp2_with fail
    refine HA.out.mono ?_
    rintro e w1 ⟨rfl, rfl⟩
    go_wp2
    go_ret
    exact ⟨_, rfl, by rw [Hp.out]; exact bts_nil _ _, Below.refl _ _⟩

end Go.Proofs.YthmljjebggljmaaDoor
