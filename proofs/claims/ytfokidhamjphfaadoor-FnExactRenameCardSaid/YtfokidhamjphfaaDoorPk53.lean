/-
  Texts that a law leans on, one behind the other; no statement is proved here.
-/
import Derived.Test.YtfokidhamjphfaaDoorPk51
import Derived.Test.YtfokidhamjphfaaDoorPk50
import Derived.Test.YtfokidhamjphfaaDoorPk52
/-
  FnExactRename answers true, whatever expression and names it is handed. No statement is proved here.
-/
namespace Go.Proofs.YtfokidhamjphfaaDoor
open Go.RowKit
set_option linter.unusedVariables false
set_option linter.unusedSimpArgs false

set_option maxHeartbeats 3200000 in
set_option maxRecDepth 100000 in
theorem rename_long1 (c0 c1 c2 c3 c4 : Value) (ka : Option Addr) (kn kc : Nat) (ja : Option Addr) (jn jc : Nat) (w : World) (hf : ∃ (ck cn : Int) (a2 : Option Addr) (l2 p2 : Nat) (a3 : Option Addr) (l3 p3 : Nat) (a4 : Option Addr) (l4 p4 : Nat), c0 = .int .i64 ck ∧ c1 = .int .i64 cn ∧ c2 = .slice a2 l2 p2 ∧ c3 = .slice a3 l3 p3 ∧ c4 = .slice a4 l4 p4) (hkl : (1048576 : Int) < (kn : Int)) :
    Calls Tryd.prog 4 #[.agg #[c0, c1, c2, c3, c4], .slice ka kn kc, .slice ja jn jc] w fun e w' => e = .returned (.bool true) ∧ Below w.heap.size w w' := by
  have b0 : ∀ o : Obj, Below w.heap.size w (w.alloc o) := fun o => (Below.refl _ _).alloc (Nat.le_refl _) o
  have Hb := hide' b0
  obtain ⟨ck, cn, a2, l2, p2, a3, l3, p3, a4, l4, p4, rfl, rfl, rfl, rfl, rfl⟩ := hf
  clear b0
  go_enter Tryd.func4, Tryd.ntmps4
  go_wp2
  go_ret
  exact ⟨rfl, Hb.out _⟩

set_option maxHeartbeats 3200000 in
set_option maxRecDepth 100000 in
theorem rename_long2 (c0 c1 c2 c3 c4 : Value) (ka : Option Addr) (kn kc : Nat) (ja : Option Addr) (jn jc : Nat) (w : World) (hf : ∃ (ck cn : Int) (a2 : Option Addr) (l2 p2 : Nat) (a3 : Option Addr) (l3 p3 : Nat) (a4 : Option Addr) (l4 p4 : Nat), c0 = .int .i64 ck ∧ c1 = .int .i64 cn ∧ c2 = .slice a2 l2 p2 ∧ c3 = .slice a3 l3 p3 ∧ c4 = .slice a4 l4 p4) (hkl : ¬ (1048576 : Int) < (kn : Int)) (hjl : (1048576 : Int) < (jn : Int)) :
    Calls Tryd.prog 4 #[.agg #[c0, c1, c2, c3, c4], .slice ka kn kc, .slice ja jn jc] w fun e w' => e = .returned (.bool true) ∧ Below w.heap.size w w' := by
  have b0 : ∀ o : Obj, Below w.heap.size w (w.alloc o) := fun o => (Below.refl _ _).alloc (Nat.le_refl _) o
  have Hb := hide' b0
  obtain ⟨ck, cn, a2, l2, p2, a3, l3, p3, a4, l4, p4, rfl, rfl, rfl, rfl, rfl⟩ := hf
  clear b0
  go_enter Tryd.func4, Tryd.ntmps4
  go_wp2
  go_ret
  exact ⟨rfl, Hb.out _⟩

set_option maxHeartbeats 3200000 in
set_option maxRecDepth 100000 in
theorem rename_big (d : Nat) (v : Vl (d + 1)) (ka : Option Addr) (kn kc : Nat) (ja : Option Addr) (jn jc : Nat) (c0 c1 c2 c3 c4 : Value) (w : World) (hv : VSeg (fun b => b < w.heap.size) w (d + 1) (c0, c1, c2, c3, c4) v) (hkl : ¬ (1048576 : Int) < (kn : Int)) (hjl : ¬ (1048576 : Int) < (jn : Int)) (hz : (1048576 : Int) < szV (d + 1) v) :
    Calls Tryd.prog 4 #[.agg #[c0, c1, c2, c3, c4], .slice ka kn kc, .slice ja jn jc] w fun e w' => e = .returned (.bool true) ∧ Below w.heap.size w w' := by
  have b0 : ∀ o : Obj, Below w.heap.size w (w.alloc o) := fun o => (Below.refl _ _).alloc (Nat.le_refl _) o
  have HS : Hid (∀ wx, Below w.heap.size w wx → Calls Tryd.prog 13 #[.agg #[c0, c1, c2, c3, c4], .int .i64 1048576] wx fun e w' => e = .returned (.int .i64 (less 1048576 (szV (d + 1) v))) ∧ Below wx.heap.size wx w') := fun wx hb =>
    szValue_any (d + 1) w.heap.size (c0, c1, c2, c3, c4) v 1048576 wx (VSeg.agree (agree_below hb) (d + 1) hv) hb.size (by omega) (by omega)
  have Hb := hide' b0
  obtain ⟨ck, cn, a2, l2, p2, a3, l3, p3, a4, l4, p4, rfl, rfl, rfl, rfl, rfl⟩ := VSeg.form (d + 1) hv
  have hl : less 1048576 (szV (d + 1) v) = -1 := less_no _ _ hz
  rw [hl] at HS
  clear hl b0 hv hz
  go_enter Tryd.func4, Tryd.ntmps4
  go_wp2_with fail
  refine (HS.out _ (Hb.out _)).mono ?_
  rintro e w1 ⟨rfl, b1⟩
  have B1 := Below.on (Hb.out _) b1
  clear b1
  go_wp2
  go_ret
  exact ⟨rfl, B1⟩

theorem bts_tseg {w : World} {base g : Nat} {xs : List Int} (h : Bts w base (.slice (some ⟨g, 0, none⟩) xs.length xs.length) xs) (hl : xs.length ≤ 1048576) : TSeg (fun b => b < w.heap.size) w (.slice (some ⟨g, 0, none⟩) xs.length xs.length) xs :=
  ⟨_, _, rfl, h.seg, Nat.le_refl _, by unfold maxLen; omega, by simp, fun x hx _ => (h.lt x hx).2⟩

theorem walk_FnExactRename (d : Nat) (c0 c1 c2 c3 c4 : Value) (v : Vl d) (fr : List Int) (fa : Option Addr) (fc : Nat) (tz : List Int) (ta : Option Addr) (tc : Nat) (w : World) (hT : ShpT w) (hv : VSeg (fun b => b < w.heap.size) w d (c0, c1, c2, c3, c4) v) (hF : Seg w fa fr) (hZ : Seg w ta tz) :
    Calls Tryd.prog 4 #[.agg #[c0, c1, c2, c3, c4], .slice fa fr.length fc, .slice ta tz.length tc] w fun e w' => e = .returned (.bool true) ∧ Below w.heap.size w w' := by
  cases d with
  | zero => exact hv.elim
  | succ d =>
    by_cases hk : (1048576 : Int) < (fr.length : Int)
    · exact rename_long1 c0 c1 c2 c3 c4 fa fr.length fc ta tz.length tc w (VSeg.form (d + 1) hv) hk
    by_cases hj : (1048576 : Int) < (tz.length : Int)
    · exact rename_long2 c0 c1 c2 c3 c4 fa fr.length fc ta tz.length tc w (VSeg.form (d + 1) hv) hk hj
    by_cases hz : (1048576 : Int) < szV (d + 1) v
    · exact rename_big d v fa fr.length fc ta tz.length tc c0 c1 c2 c3 c4 w hv hk hj hz
    have hk' : fr.length ≤ 1048576 := by omega
    have hj' : tz.length ≤ 1048576 := by omega
    have hz' : szV (d + 1) v ≤ 1048576 := by omega
    have hbd := bnd_of_sz (d + 1) v hz'
    refine walk_WRename d d v (rnA fr tz d v) (rnB fr tz d v) fr fa fc tz ta tc c0 c1 c2 c3 c4 w hv hF hk' hZ hj' (rnA_sz fr tz d v) hz' (hide' ?_) (hide' ?_)
    · intro u0 u1 u2 u3 u4 B wx wy hO hb hw g1 b1 hB1 g2 b2 hB2
      obtain ⟨ck, cn, a2, l2, p2, a3, l3, p3, a4, l4, p4, rfl, rfl, rfl, rfl, rfl⟩ := VOwn.form (d + 1) hO
      exact spec_Rename_any fr tz d wy.heap.size ck cn a2 l2 p2 a3 l3 p3 a4 l4 p4 v _ _ _ _ wy (VSeg.mono (fun b h => Nat.lt_of_lt_of_le h hb.size) (d + 1) (hO.below hb)) (Nat.le_refl _) (bts_tseg hB1 hk') (bts_tseg hB2 hj') hbd hj'
    · intro u0 u1 u2 u3 u4 B wx wy hO hb hw g1 b1 hB1 g2 b2 hB2
      obtain ⟨ck, cn, a2, l2, p2, a3, l3, p3, a4, l4, p4, rfl, rfl, rfl, rfl, rfl⟩ := VOwn.form (d + 1) hO
      exact impl_Rename_any fr tz d wy.heap.size ck cn a2 l2 p2 a3 l3 p3 a4 l4 p4 v _ _ _ _ wy (VSeg.mono (fun b h => Nat.lt_of_lt_of_le h hb.size) (d + 1) (hO.below hb)) (Nat.le_refl _) (bts_tseg hB1 hk') (bts_tseg hB2 hj') hbd hj' (hT.below hw) (by have h1 := hT.lt; have h2 := hw.size; omega)
end Go.Proofs.YtfokidhamjphfaaDoor
