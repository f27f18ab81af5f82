/-
  Texts that a law leans on, one behind the other; no statement is proved here.
-/
import Derived.Test.YtmdmiiikbdnioaaPk5
import Derived.Test.YtmdmiiikbdnioaaPk3
/-
  GetText of the program and of the specification: the text at a place and the place behind it, in memory of its own.
-/
namespace Go.Proofs.Ytmdmiiikbdnioaa
open Go.RowKit
set_option linter.unusedVariables false

/-- What GetText answers. -/
def getText (xs : List Int) (a : Int) : List Int × Int :=
  if (getNum xs a).2 < 0 ∨ 20 < (getNum xs a).1 ∨ (xs.length : Int) - (getNum xs a).2 < (getNum xs a).1 then ([], -1)
  else ((xs.drop (getNum xs a).2.toNat).take (getNum xs a).1.toNat, (getNum xs a).2 + (getNum xs a).1)

theorem getText_no (xs : List Int) (a : Int) (h : (getNum xs a).2 < 0 ∨ 20 < (getNum xs a).1 ∨ (xs.length : Int) - (getNum xs a).2 < (getNum xs a).1) : getText xs a = ([], -1) := by
  rw [getText, if_pos h]
theorem getText_yes (xs : List Int) (a : Int) (h : ¬ ((getNum xs a).2 < 0 ∨ 20 < (getNum xs a).1 ∨ (xs.length : Int) - (getNum xs a).2 < (getNum xs a).1)) :
    getText xs a = ((xs.drop (getNum xs a).2.toNat).take (getNum xs a).1.toNat, (getNum xs a).2 + (getNum xs a).1) := by
  rw [getText, if_neg h]

theorem getText_len (xs : List Int) (a : Int) : (getText xs a).1.length ≤ 20 := by
  unfold getText
  split
  · simp
  · simp
    omega

/-- A piece of what can be read can be read. -/
theorem seg_cut {w : World} {b off : Nat} {xs : List Int} {j s cap : Nat} (h : Seg w (some ⟨b, off, none⟩) xs) (hj : j + s ≤ xs.length) (hcap : xs.length ≤ cap) :
    Seg w (some (if cap = j then ⟨b, off, none⟩ else ⟨b, off + j, none⟩)) ((xs.drop j).take s) := by
  refine ⟨fun x hx => h.1 x (List.mem_of_mem_drop (List.mem_of_mem_take hx)), ?_⟩
  by_cases hs : s = 0
  · exact .inl (by simp [hs])
  · have hc : ¬ cap = j := by omega
    rw [if_neg hc]
    rcases h.2 with h0 | ⟨b', off', h1, h2⟩
    · subst h0; simp at hj; omega
    · simp at h1
      obtain ⟨rfl, rfl⟩ := h1
      refine .inr ⟨b, off + j, rfl, fun i hi => ?_⟩
      have hl : i < s := by simp at hi; omega
      have := h2 (j + i) (by omega)
      rw [Nat.add_assoc, this]
      simp [List.getD_eq_getElem?_getD, List.getElem?_drop, hl]

theorem ret_bi {v : Value} {y : Int} {r : List Int × Int} {t : List Int} {z : Int} (h : r = (t, z)) (hy : y = z) : Ending.returned (.tuple #[v, .int .i64 y]) = .returned (.tuple #[v, .int .i64 r.2]) := by rw [h, hy]

set_option maxHeartbeats 1600000 in
theorem impl_GetText_any (a : Option Addr) (c1 : Nat) (xs : List Int) (at_ : Int) (w : World) (ha : Seg w a xs) (hcap : xs.length ≤ c1) (hc2 : c1 ≤ maxLen) (hl : xs.length ≤ 2097152) (hw : at_ ≤ 9223372036854775807) :
    Calls Try.prog 51 #[.slice a xs.length c1, .int .i64 at_] w fun e w' => ∃ v, e = .returned (.tuple #[v, .int .i64 (getText xs at_).2]) ∧ Bts w' w.heap.size v (getText xs at_).1 ∧ Below w.heap.size w w' := by
  unfold maxLen at hc2
  have hF := getNum_fits xs at_ ha.1
  have HN : Hid ((getNum xs at_).2 < 0 ∨ 20 < (getNum xs at_).1 ∨ (xs.length : Int) - (getNum xs at_).2 < (getNum xs at_).1 → getText xs at_ = ([], -1)) := getText_no xs at_
  have HY : Hid (¬ ((getNum xs at_).2 < 0 ∨ 20 < (getNum xs at_).1 ∨ (xs.length : Int) - (getNum xs at_).2 < (getNum xs at_).1) → getText xs at_ = ((xs.drop (getNum xs at_).2.toNat).take (getNum xs at_).1.toNat, (getNum xs at_).2 + (getNum xs at_).1)) := getText_yes xs at_
  have HC : Hid (Calls Try.prog 50 #[.slice a xs.length c1, .int .i64 at_] w fun e w' => e = .returned (.tuple #[.int .i64 (getNum xs at_).1, .int .i64 (getNum xs at_).2]) ∧ Below w.heap.size w w') := impl_GetNum_any a c1 xs at_ w ha hl hw
  generalize getText xs at_ = r at *
  generalize getNum xs at_ = q at *
  obtain ⟨q1, q2⟩ := q
  simp only at hF HN HY HC
  by_cases hbad : q2 < 0 ∨ 20 < q1 ∨ (xs.length : Int) - q2 < q1
  · have HR : Hid (r = ([], -1)) := HN.out hbad
    clear HN HY
    have hsz : ∀ w1 : World, Bts w1 w.heap.size (.slice none 0 0) r.1 := fun w1 => by rw [HR.out]; exact ⟨by simp, World.ownsRow_nil _ _ _ _⟩
    have HS : Hid (∀ w1 : World, Bts w1 w.heap.size (.slice none 0 0) r.1) := hsz
    clear hsz
    have hfit : q2 < 0 ∨ (0 ≤ q2 ∧ q2 ≤ xs.length ∧ 0 ≤ q1 ∧ q1 ≤ 2147483647) := by
      rcases hF with h | ⟨h1, h2, j, h3, h4, h5, h6⟩
      · simp at h; omega
      · omega
    clear hF
    by_cases h1 : q2 < 0
    · clear hbad hfit
      go_enter Try.func51, Try.ntmps51
      go_wp2_with fail
      refine HC.out.mono ?_
      rintro e w1 ⟨rfl, b1⟩
      go_wp2
      go_ret2
      exact ⟨_, ret_bi HR.out rfl, HS.out _, b1⟩
    · by_cases h2 : 20 < q1
      · clear hbad
        go_enter Try.func51, Try.ntmps51
        go_wp2_with fail
        refine HC.out.mono ?_
        rintro e w1 ⟨rfl, b1⟩
        go_wp2
        go_ret2
        exact ⟨_, ret_bi HR.out rfl, HS.out _, b1⟩
      · have h3 : (xs.length : Int) - q2 < q1 := by omega
        have h4 : 0 ≤ q2 ∧ q2 ≤ xs.length ∧ 0 ≤ q1 ∧ q1 ≤ 2147483647 := by omega
        obtain ⟨h5, h6, h7, h8⟩ := h4
        clear hbad hfit
        go_enter Try.func51, Try.ntmps51
        go_wp2_with fail
        refine HC.out.mono ?_
        rintro e w1 ⟨rfl, b1⟩
        go_wp2
        go_ret2
        exact ⟨_, ret_bi HR.out rfl, HS.out _, b1⟩
  · have HR : Hid (r = ((xs.drop q2.toNat).take q1.toNat, q2 + q1)) := HY.out hbad
    clear HN HY
    obtain ⟨s, j, rfl, rfl, hj0, hjl, hjs, hs20⟩ : ∃ s j : Nat, q1 = s ∧ q2 = j ∧ 0 < j ∧ j ≤ xs.length ∧ j + s ≤ xs.length ∧ s ≤ 20 := by
      rcases hF with h | ⟨h1, h2, j, h3, h4, h5, h6⟩
      · simp at h; omega
      · exact ⟨q1.toNat, j, by omega, h3, by omega, h5, by omega, by omega⟩
    clear hbad hF
    obtain ⟨b, off, rfl, _⟩ := ha.at (k := 0) (by omega)
    have HR' : Hid (r = ((xs.drop j).take s, ((j + s : Nat) : Int))) := by show r = _; rw [HR.out]; simp
    clear HR
    have HB : Hid (((xs.drop j).take s).length = s) := by show _ = s; simp; omega
    by_cases hcj : c1 = j
    · subst hcj
      have hs0 : s = 0 := by omega
      subst hs0
      go_enter Try.func51, Try.ntmps51
      go_wp2_with fail
      refine HC.out.mono ?_
      rintro e w1 ⟨rfl, b1⟩
      go_wp2_with fail
      refine (joined_any none _ 0 _ [] [] _ ⟨by simp, .inl rfl⟩ ⟨by simp, .inl rfl⟩ (by simp) (by simp) (by simp) (by simp)).mono ?_
      rintro e w2 ⟨v, rfl, hv, b2⟩
      go_wp2
      go_ret2
      exact ⟨_, ret_bi HR'.out (by simp), by rw [HR'.out]; exact hv.mono b1.size, Below.on b1 b2⟩
    · have hS := seg_cut (j := j) (s := s) (cap := c1) ha (by omega) hcap
      rw [if_neg hcj] at hS
      go_enter Try.func51, Try.ntmps51
      go_wp2_with fail
      refine HC.out.mono ?_
      rintro e w1 ⟨rfl, b1⟩
      have hJ := joined_any none (some ⟨b, off + j, none⟩) 0 (c1 - j) [] ((xs.drop j).take s) w1 ⟨by simp, .inl rfl⟩ (hS.grow b1) (by simp) (by simp) (by simp) (by rw [HB.out]; omega)
      rw [HB.out] at hJ
      have HJ := hJ
      clear hJ
      go_wp2_with fail
      refine HJ.mono ?_
      rintro e w2 ⟨v, rfl, hv, b2⟩
      go_wp2
      go_ret2
      exact ⟨_, ret_bi HR'.out (by simp), by rw [HR'.out]; exact hv.mono b1.size, Below.on b1 b2⟩
set_option maxHeartbeats 1600000 in
theorem spec_GetText_any (a : Option Addr) (c1 : Nat) (xs : List Int) (at_ : Int) (w : World) (ha : Seg w a xs) (hcap : xs.length ≤ c1) (hc2 : c1 ≤ maxLen) (hl : xs.length ≤ 2097152) (hw : at_ ≤ 9223372036854775807) :
    Calls Try.prog 42 #[.slice a xs.length c1, .int .i64 at_] w fun e w' => ∃ v, e = .returned (.tuple #[v, .int .i64 (getText xs at_).2]) ∧ Bts w' w.heap.size v (getText xs at_).1 ∧ Below w.heap.size w w' := by
  unfold maxLen at hc2
  have hF := getNum_fits xs at_ ha.1
  have HN : Hid ((getNum xs at_).2 < 0 ∨ 20 < (getNum xs at_).1 ∨ (xs.length : Int) - (getNum xs at_).2 < (getNum xs at_).1 → getText xs at_ = ([], -1)) := getText_no xs at_
  have HY : Hid (¬ ((getNum xs at_).2 < 0 ∨ 20 < (getNum xs at_).1 ∨ (xs.length : Int) - (getNum xs at_).2 < (getNum xs at_).1) → getText xs at_ = ((xs.drop (getNum xs at_).2.toNat).take (getNum xs at_).1.toNat, (getNum xs at_).2 + (getNum xs at_).1)) := getText_yes xs at_
  have HC : Hid (Calls Try.prog 41 #[.slice a xs.length c1, .int .i64 at_] w fun e w' => e = .returned (.tuple #[.int .i64 (getNum xs at_).1, .int .i64 (getNum xs at_).2]) ∧ Below w.heap.size w w') := spec_GetNum_any a c1 xs at_ w ha hl hw
  generalize getText xs at_ = r at *
  generalize getNum xs at_ = q at *
  obtain ⟨q1, q2⟩ := q
  simp only at hF HN HY HC
  by_cases hbad : q2 < 0 ∨ 20 < q1 ∨ (xs.length : Int) - q2 < q1
  · have HR : Hid (r = ([], -1)) := HN.out hbad
    clear HN HY
    have hsz : ∀ w1 : World, Bts w1 w.heap.size (.slice none 0 0) r.1 := fun w1 => by rw [HR.out]; exact ⟨by simp, World.ownsRow_nil _ _ _ _⟩
    have HS : Hid (∀ w1 : World, Bts w1 w.heap.size (.slice none 0 0) r.1) := hsz
    clear hsz
    have hfit : q2 < 0 ∨ (0 ≤ q2 ∧ q2 ≤ xs.length ∧ 0 ≤ q1 ∧ q1 ≤ 2147483647) := by
      rcases hF with h | ⟨h1, h2, j, h3, h4, h5, h6⟩
      · simp at h; omega
      · omega
    clear hF
    by_cases h1 : q2 < 0
    · clear hbad hfit
      go_enter Try.func42, Try.ntmps42
      go_wp2_with fail
      refine HC.out.mono ?_
      rintro e w1 ⟨rfl, b1⟩
      go_wp2
      go_ret2
      exact ⟨_, ret_bi HR.out rfl, HS.out _, b1⟩
    · by_cases h2 : 20 < q1
      · clear hbad
        go_enter Try.func42, Try.ntmps42
        go_wp2_with fail
        refine HC.out.mono ?_
        rintro e w1 ⟨rfl, b1⟩
        go_wp2
        go_ret2
        exact ⟨_, ret_bi HR.out rfl, HS.out _, b1⟩
      · have h3 : (xs.length : Int) - q2 < q1 := by omega
        have h4 : 0 ≤ q2 ∧ q2 ≤ xs.length ∧ 0 ≤ q1 ∧ q1 ≤ 2147483647 := by omega
        obtain ⟨h5, h6, h7, h8⟩ := h4
        clear hbad hfit
        go_enter Try.func42, Try.ntmps42
        go_wp2_with fail
        refine HC.out.mono ?_
        rintro e w1 ⟨rfl, b1⟩
        go_wp2
        go_ret2
        exact ⟨_, ret_bi HR.out rfl, HS.out _, b1⟩
  · have HR : Hid (r = ((xs.drop q2.toNat).take q1.toNat, q2 + q1)) := HY.out hbad
    clear HN HY
    obtain ⟨s, j, rfl, rfl, hj0, hjl, hjs, hs20⟩ : ∃ s j : Nat, q1 = s ∧ q2 = j ∧ 0 < j ∧ j ≤ xs.length ∧ j + s ≤ xs.length ∧ s ≤ 20 := by
      rcases hF with h | ⟨h1, h2, j, h3, h4, h5, h6⟩
      · simp at h; omega
      · exact ⟨q1.toNat, j, by omega, h3, by omega, h5, by omega, by omega⟩
    clear hbad hF
    obtain ⟨b, off, rfl, _⟩ := ha.at (k := 0) (by omega)
    have HR' : Hid (r = ((xs.drop j).take s, ((j + s : Nat) : Int))) := by show r = _; rw [HR.out]; simp
    clear HR
    have HB : Hid (((xs.drop j).take s).length = s) := by show _ = s; simp; omega
    by_cases hcj : c1 = j
    · subst hcj
      have hs0 : s = 0 := by omega
      subst hs0
      go_enter Try.func42, Try.ntmps42
      go_wp2_with fail
      refine HC.out.mono ?_
      rintro e w1 ⟨rfl, b1⟩
      have hE := bts_empty w1
      have hB1 : Below w1.heap.size w1 (w1.alloc (.cells #[] 5)) := (Below.refl _ _).alloc (Nat.le_refl _) _
      go_wp2_with (at_builtin; refine wpList_append_seg rfl (.tmp 28) (.tmp 34) rfl w1.heap.size _ [] [] rfl hE (some ⟨b, off, none⟩) 0 0 rfl rfl ⟨by simp, .inl rfl⟩ (by simp) (by simp) (by simp) ?_; intro v2 w2 hv2 hg2)
      go_ret2
      exact ⟨_, ret_bi HR'.out (by simp), by rw [HR'.out]; exact hv2.mono b1.size, Below.on b1 (hB1.grown hg2 (by simp) hE.own)⟩
    · have hS := seg_cut (j := j) (s := s) (cap := c1) ha (by omega) hcap
      rw [if_neg hcj] at hS
      go_enter Try.func42, Try.ntmps42
      go_wp2_with fail
      refine HC.out.mono ?_
      rintro e w1 ⟨rfl, b1⟩
      have hE := bts_empty w1
      have hB1 : Below w1.heap.size w1 (w1.alloc (.cells #[] 5)) := (Below.refl _ _).alloc (Nat.le_refl _) _
      have hS2 := (hS.grow b1).grow hB1
      have hle : Hid (([] : List Int).length + ((xs.drop j).take s).length ≤ 1099511627776) := by show _ ≤ _; rw [HB.out, List.length_nil]; omega
      go_wp2_with (at_builtin; refine wpList_append_seg rfl (.tmp 28) (.tmp 34) rfl w1.heap.size _ [] ((xs.drop j).take s) rfl hE (some ⟨b, off + j, none⟩) _ _ (by rw [HB.out]; omega) rfl hS2 (by simp) hle.out (by simp) ?_; intro v2 w2 hv2 hg2)
      go_ret2
      exact ⟨_, ret_bi HR'.out (by simp), by rw [HR'.out]; exact hv2.mono b1.size, Below.on b1 (hB1.grown hg2 (by simp) hE.own)⟩

end Go.Proofs.Ytmdmiiikbdnioaa
