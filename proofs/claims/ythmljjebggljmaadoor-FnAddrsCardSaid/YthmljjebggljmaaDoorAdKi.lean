/-
  AddrKey of the program: a name with a key.
-/
import Derived.Test.YthmljjebggljmaaDoorNamA
import Derived.Test.YthmljjebggljmaaDoorStrB
namespace Go.Proofs.YthmljjebggljmaaDoor
open Go.RowKit
set_option linter.unusedVariables false

/-- What AddrKey answers. -/
def addrKey (xs ts : List Int) : List Int := if nameB xs = true ∧ nameB ts = true then xs ++ [91, 34] ++ ts ++ [34, 93] else []
theorem addrKey_no (xs ts : List Int) (h : ¬ (nameB xs = true ∧ nameB ts = true)) : addrKey xs ts = [] := if_neg h
theorem addrKey_yes (xs ts : List Int) (h1 : nameB xs = true) (h2 : nameB ts = true) : addrKey xs ts = xs ++ [91, 34] ++ ts ++ [34, 93] := if_pos ⟨h1, h2⟩
theorem addrKey_len (xs ts : List Int) : (addrKey xs ts).length ≤ 20 := by
  unfold addrKey
  split
  · rename_i h
    have h1 := nameB_le h.1
    have h2 := nameB_le h.2
    simp; omega
  · simp

theorem byt_open : ∀ y ∈ ([91, 34] : List Int), Byt y := by simp [Byt]
theorem byt_shut : ∀ y ∈ ([34, 93] : List Int), Byt y := by simp [Byt]
theorem str_open : (⟨#[91, 34]⟩ : ByteArray) = strOf [91, 34] := rfl
theorem str_shut : (⟨#[34, 93]⟩ : ByteArray) = strOf [34, 93] := rfl

set_option maxHeartbeats 800000 in
theorem impl_AddrKey_any (a b : Option Addr) (c1 c2 : Nat) (xs ts : List Int) (w : World) (ha : Seg w a xs) (hb : Seg w b ts) (ka : a = none → c1 = 0) (kb : b = none → c2 = 0) (hl : xs.length ≤ 2097152) (hl2 : ts.length ≤ 2097152) :
    Calls Tryd.prog 10 #[.slice a xs.length c1, .slice b ts.length c2] w fun e w' => ∃ v, e = .returned v ∧ Bts w' w.heap.size v (addrKey xs ts) ∧ Below w.heap.size w w' := by
  have HA := hide' (impl_NameOk_any a c1 xs w ha (by unfold maxLen; omega))
  have HB := hide' (impl_NameOk_any b c2 ts w hb (by unfold maxLen; omega))
  by_cases h1 : nameB xs = true
  · rw [h1] at HA
    by_cases h2 : nameB ts = true
    · rw [h2] at HB
      have HN := hide' (nameAlone_any a c1 xs w ha ka (by unfold maxLen; omega))
      have hnc : nameC xs = xs := by simp [nameC, h1]
      rw [hnc] at HN
      have Hp : Hid (addrKey xs ts = xs ++ [91, 34] ++ ts ++ [34, 93]) := addrKey_yes xs ts h1 h2
      generalize hn : xs.length = n at *
      have Hn : Hid (n = xs.length) := hn.symm
      clear hn
      generalize hm : ts.length = m at *
      have Hm : Hid (m = ts.length) := hm.symm
      clear hm
      go_enter Tryd.func10, Tryd.ntmps10
      go_wp2_with fail
      refine HA.out.mono ?_
      rintro e w1 ⟨rfl, rfl⟩
      go_wp2_with fail
      refine HB.out.mono ?_
      rintro e w1 ⟨rfl, rfl⟩
      go_wp2_with fail
      refine HN.out.mono ?_
      rintro e w1 ⟨v2, rfl, hv2, hB2⟩
      have hz2 := hB2.size
      go_wp2_with (at_builtin; first
        | (refine wpList_append_text rfl (.tmp 15) _ 9 (by rfl) Tryd.underlying9 w.heap.size v2 xs [91, 34] (by rfl) hv2 _ str_open byt_open (by rfl) (by simp; have := Hn.out; omega) hz2 ?_; intro v3 w3 hv3 hg3; have hB3 := hB2.grown hg3 hz2 hv2.own; have hT3 := hb.grow hB3; have hz3 := hB3.size; clear hv2 hB2 hg3)
        | (refine wpList_append_seg rfl (.tmp 17) (.tmp 18) (by rfl) w.heap.size v3 (xs ++ [91, 34]) ts (by rfl) hv3 b m c2 Hm.out (by rfl) hT3 kb (by simp; have := Hn.out; have := Hm.out; omega) hz3 ?_; intro v4 w4 hv4 hg4; have hB4 := hB3.grown hg4 hz3 hv3.own; have hz4 := hB4.size; clear hv3 hB3 hT3 hg4)
        | (refine wpList_append_text rfl (.tmp 19) _ 9 (by rfl) Tryd.underlying9 w.heap.size v4 (xs ++ [91, 34] ++ ts) [34, 93] (by rfl) hv4 _ str_shut byt_shut (by rfl) (by simp; have := Hn.out; have := Hm.out; omega) hz4 ?_; intro v5 w5 hv5 hg5; have hB5 := hB4.grown hg5 hz4 hv4.own; clear hv4 hB4 hg5))
      go_ret
      exact ⟨_, rfl, by rw [Hp.out]; exact hv5, hB5⟩
    · have h2' : nameB ts = false := by simpa using h2
      rw [h2'] at HB
      have Hp : Hid (addrKey xs ts = []) := addrKey_no xs ts fun h => h2 h.2
      go_enter Tryd.func10, Tryd.ntmps10
      go_wp2_with fail
      refine HA.out.mono ?_
      rintro e w1 ⟨rfl, rfl⟩
      go_wp2_with fail
      refine HB.out.mono ?_
      rintro e w1 ⟨rfl, rfl⟩
      go_wp2
      go_ret
      exact ⟨_, rfl, by rw [Hp.out]; exact bts_nil _ _, Below.refl _ _⟩
  · have h1' : nameB xs = false := by simpa using h1
    rw [h1'] at HA
    have Hp : Hid (addrKey xs ts = []) := addrKey_no xs ts fun h => h1 h.1
    go_enter Tryd.func10, Tryd.ntmps10
    go_wp2_with fail
    refine HA.out.mono ?_
    rintro e w1 ⟨rfl, rfl⟩
    go_wp2
    go_ret
    exact ⟨_, rfl, by rw [Hp.out]; exact bts_nil _ _, Below.refl _ _⟩

end Go.Proofs.YthmljjebggljmaaDoor
