/-
  Texts that a law leans on, one behind the other; no statement is proved here.
-/
import Derived.Test.YtmdmiiikbdnioaaPk22
import Derived.Test.YtmdmiiikbdnioaaPk27
/-
  The look-up of a key in a map of parts, as the program runs it; no statement is proved here.
-/
namespace Go.Proofs.Ytmdmiiikbdnioaa
open Go.RowKit
set_option linter.unusedVariables false
set_option linter.unusedSimpArgs false

theorem zero_part (w : World) : (zeroValue 44).run Try.prog w = .ok .nilIface w := by kernel_rfl

theorem look_at {wx : World} {b n k : Nat} {ks : List (List Int)} {ps : List Value} {key : List Int} (hm : wx.ownsMap Try.prog 9 tokR b 64 (mapD ks ps n)) (ha : ∀ i, i < n → stepB ks i = true) (hb : ∀ i, i < n → ∀ x ∈ ks.getD i [], Byt x) (hy : ∀ y ∈ key, Byt y) (hl : key.length ≤ maxLen)
    (hk : k < n) (hn : ∀ i, i < k → ks.getD i [] ≠ key) (he : ks.getD k [] = key) : (Instr.lookup 76 (.map (some b)) (.string (strOf key)) true).run Try.prog wx = .ok (.tuple #[ps.getD k .nilIface, .bool true]) wx := by
  rw [mapD_list ks ps n ha] at hm
  obtain ⟨v, q, hrun, hv⟩ := hm.look_ok (Maps.string_keyed Try.underlying9) Try.underlying76 (zero_part wx) (zd := .held .nilIface) (zp := []) rfl (keyS key hl)
  obtain ⟨h1, h2⟩ := look_yes (ps := ps) hy hb hk hn he (.held .nilIface)
  rw [h1] at hrun
  rw [h2] at hv
  simp only [tokR, Option.some.injEq, Prod.mk.injEq, DataW.held.injEq] at hv
  rw [← hv.1]
  exact hrun

theorem look_none {wx : World} {b n : Nat} {ks : List (List Int)} {ps : List Value} {key : List Int} (hm : wx.ownsMap Try.prog 9 tokR b 64 (mapD ks ps n)) (ha : ∀ i, i < n → stepB ks i = true) (hb : ∀ i, i < n → ∀ x ∈ ks.getD i [], Byt x) (hy : ∀ y ∈ key, Byt y) (hl : key.length ≤ maxLen)
    (hn : ∀ i, i < n → ks.getD i [] ≠ key) : (Instr.lookup 76 (.map (some b)) (.string (strOf key)) true).run Try.prog wx = .ok (.tuple #[.nilIface, .bool false]) wx := by
  rw [mapD_list ks ps n ha] at hm
  obtain ⟨v, q, hrun, hv⟩ := hm.look_ok (Maps.string_keyed Try.underlying9) Try.underlying76 (zero_part wx) (zd := .held .nilIface) (zp := []) rfl (keyS key hl)
  obtain ⟨h1, h2⟩ := look_no (ps := ps) hy hb hn (.held .nilIface)
  rw [h1] at hrun
  rw [h2] at hv
  simp only [tokR, Option.some.injEq, Prod.mk.injEq, DataW.held.injEq] at hv
  rw [hv.1] at hrun
  exact hrun
end Go.Proofs.Ytmdmiiikbdnioaa
