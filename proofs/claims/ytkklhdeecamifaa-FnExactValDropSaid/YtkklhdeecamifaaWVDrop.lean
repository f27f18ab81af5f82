/-
  FnExactValDrop answers true, whatever value and key it is handed: the too large, the map with the key, the map without it, and what is no map.
-/
import Derived.Test.YtkklhdeecamifaaWValDrop
import Derived.Test.YtkklhdeecamifaaDrpM
namespace Go.Proofs.Ytkklhdeecamifaa
open Go.RowKit Go.Shelf
set_option linter.unusedVariables false
set_option linter.unusedSimpArgs false

set_option maxHeartbeats 3200000 in
set_option maxRecDepth 100000 in
theorem drop_long (c0 c1 c2 c3 c4 : Value) (ka : Option Addr) (kn kc : Nat) (w : World) (hf : ∃ (ck cn : Int) (a2 : Option Addr) (l2 p2 : Nat) (a3 : Option Addr) (l3 p3 : Nat) (a4 : Option Addr) (l4 p4 : Nat), c0 = .int .i64 ck ∧ c1 = .int .i64 cn ∧ c2 = .slice a2 l2 p2 ∧ c3 = .slice a3 l3 p3 ∧ c4 = .slice a4 l4 p4) (hkl : (1048576 : Int) < (kn : Int)) :
    Calls Try.prog 5 #[.agg #[c0, c1, c2, c3, c4], .slice ka kn kc] w fun e w' => e = .returned (.bool true) ∧ Below w.heap.size w w' := by
  have b0 : ∀ o : Obj, Below w.heap.size w (w.alloc o) := fun o => (Below.refl _ _).alloc (Nat.le_refl _) o
  have Hb := hide' b0
  obtain ⟨ck, cn, a2, l2, p2, a3, l3, p3, a4, l4, p4, rfl, rfl, rfl, rfl, rfl⟩ := hf
  clear b0
  go_enter Try.func5, Try.ntmps5
  go_wp2
  go_ret
  exact ⟨rfl, Hb.out _⟩

set_option maxHeartbeats 3200000 in
set_option maxRecDepth 100000 in
theorem drop_big (d : Nat) (v : Vl (d + 1)) (ka : Option Addr) (kn kc : Nat) (c0 c1 c2 c3 c4 : Value) (w : World) (hv : VSeg (fun b => b < w.heap.size) w (d + 1) (c0, c1, c2, c3, c4) v) (hkl : ¬ (1048576 : Int) < (kn : Int)) (hz : (1048576 : Int) < szV (d + 1) v) :
    Calls Try.prog 5 #[.agg #[c0, c1, c2, c3, c4], .slice ka kn kc] w fun e w' => e = .returned (.bool true) ∧ Below w.heap.size w w' := by
  have b0 : ∀ o : Obj, Below w.heap.size w (w.alloc o) := fun o => (Below.refl _ _).alloc (Nat.le_refl _) o
  have HS : Hid (∀ wx, Below w.heap.size w wx → Calls Try.prog 7 #[.agg #[c0, c1, c2, c3, c4], .int .i64 1048576] wx fun e w' => e = .returned (.int .i64 (less 1048576 (szV (d + 1) v))) ∧ Below wx.heap.size wx w') := fun wx hb =>
    szValue_any (d + 1) w.heap.size (c0, c1, c2, c3, c4) v 1048576 wx (VSeg.agree (agree_below hb) (d + 1) hv) hb.size (by omega) (by omega)
  have Hb := hide' b0
  obtain ⟨ck, cn, a2, l2, p2, a3, l3, p3, a4, l4, p4, rfl, rfl, rfl, rfl, rfl⟩ := VSeg.form (d + 1) hv
  have hl : less 1048576 (szV (d + 1) v) = -1 := less_no _ _ hz
  rw [hl] at HS
  clear hl b0 hv hz
  go_enter Try.func5, Try.ntmps5
  go_wp2_with fail
  refine (HS.out _ (Hb.out _)).mono ?_
  rintro e w1 ⟨rfl, b1⟩
  have B1 := Below.on (Hb.out _) b1
  clear b1
  go_wp2
  go_ret
  exact ⟨rfl, B1⟩

theorem dropA_sz (d : Nat) (v : Vl (d + 1)) (key : List Int) : szV (d + 1) (dropA d v key) ≤ szV (d + 1) v := by
  by_cases h1 : okB (d + 1) v = true ∧ v.1 = 5
  · by_cases h2 : 0 ≤ findK v.2.2.2.1 key
    · rw [show dropA d v key = dropV d v (findK v.2.2.2.1 key).toNat from (if_pos h1).trans (if_pos h2)]
      exact drop_sz d v _
    · rw [show dropA d v key = v from (if_pos h1).trans (if_neg h2)]
      exact Nat.le_refl _
  · rw [(dropA_no h1).1, sz_vNil]
    exact Nat.zero_le _

theorem walk_FnExactValDrop (d : Nat) (c0 c1 c2 c3 c4 : Value) (v : Vl d) (key : List Int) (ka : Option Addr) (kc : Nat) (w : World) (hv : VSeg (fun b => b < w.heap.size) w d (c0, c1, c2, c3, c4) v) (hS : Seg w ka key) :
    Calls Try.prog 5 #[.agg #[c0, c1, c2, c3, c4], .slice ka key.length kc] w fun e w' => e = .returned (.bool true) ∧ Below w.heap.size w w' := by
  cases d with
  | zero => exact hv.elim
  | succ d =>
    by_cases hk : (1048576 : Int) < (key.length : Int)
    · exact drop_long c0 c1 c2 c3 c4 ka key.length kc w (VSeg.form (d + 1) hv) hk
    by_cases hz : (1048576 : Int) < szV (d + 1) v
    · exact drop_big d v ka key.length kc c0 c1 c2 c3 c4 w hv hk hz
    have hk' : key.length ≤ 1048576 := by omega
    have hz' : szV (d + 1) v ≤ 1048576 := by omega
    refine walk_drop d d v (dropA d v key) (dropF d v key) key ka kc c0 c1 c2 c3 c4 w hv hS hk' (Nat.le_trans (dropA_sz d v key) hz') hz' (hide' ?_) (hide' ?_)
    · intro u0 u1 u2 u3 u4 B wx wy xa xc hO hb hs
      obtain ⟨ck, cn, a2, l2, p2, a3, l3, p3, a4, l4, p4, rfl, rfl, rfl, rfl, rfl⟩ := VOwn.form (d + 1) hO
      exact spec_ValDrop_of d wx.heap.size ck cn a2 l2 p2 a3 l3 p3 a4 l4 p4 v xa xc key wy (hO.below hb) hb.size hs hs.lt hz' l2drop_any
    · intro u0 u1 u2 u3 u4 B wx wy xa xc hO hb hs
      exact impl_ValDrop_any d wx.heap.size u0 u1 u2 u3 u4 v xa xc key wy (hO.below hb) hb.size hs hs.lt (by unfold maxLen; omega)
end Go.Proofs.Ytkklhdeecamifaa
