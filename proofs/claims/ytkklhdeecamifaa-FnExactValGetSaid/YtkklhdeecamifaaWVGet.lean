/-
  FnExactValGet answers true, whatever value and key it is handed: the too large, the found and the missing.
-/
import Derived.Test.YtkklhdeecamifaaWValGet
namespace Go.Proofs.Ytkklhdeecamifaa
open Go.RowKit Go.Shelf
set_option linter.unusedVariables false
set_option linter.unusedSimpArgs false

set_option maxHeartbeats 3200000 in
set_option maxRecDepth 100000 in
theorem get_long (c0 c1 c2 c3 c4 : Value) (ka : Option Addr) (kn kc : Nat) (w : World) (hf : ∃ (ck cn : Int) (a2 : Option Addr) (l2 p2 : Nat) (a3 : Option Addr) (l3 p3 : Nat) (a4 : Option Addr) (l4 p4 : Nat), c0 = .int .i64 ck ∧ c1 = .int .i64 cn ∧ c2 = .slice a2 l2 p2 ∧ c3 = .slice a3 l3 p3 ∧ c4 = .slice a4 l4 p4) (hkl : (1048576 : Int) < (kn : Int)) :
    Calls Try.prog 3 #[.agg #[c0, c1, c2, c3, c4], .slice ka kn kc] w fun e w' => e = .returned (.bool true) ∧ Below w.heap.size w w' := by
  have b0 : ∀ o : Obj, Below w.heap.size w (w.alloc o) := fun o => (Below.refl _ _).alloc (Nat.le_refl _) o
  have Hb := hide' b0
  obtain ⟨ck, cn, a2, l2, p2, a3, l3, p3, a4, l4, p4, rfl, rfl, rfl, rfl, rfl⟩ := hf
  clear b0
  go_enter Try.func3, Try.ntmps3
  go_wp2
  go_ret
  exact ⟨rfl, Hb.out _⟩

set_option maxHeartbeats 3200000 in
set_option maxRecDepth 100000 in
theorem get_big (d : Nat) (v : Vl (d + 1)) (ka : Option Addr) (kn kc : Nat) (c0 c1 c2 c3 c4 : Value) (w : World) (hv : VSeg (fun b => b < w.heap.size) w (d + 1) (c0, c1, c2, c3, c4) v) (hkl : ¬ (1048576 : Int) < (kn : Int)) (hz : (1048576 : Int) < szV (d + 1) v) :
    Calls Try.prog 3 #[.agg #[c0, c1, c2, c3, c4], .slice ka kn kc] w fun e w' => e = .returned (.bool true) ∧ Below w.heap.size w w' := by
  have b0 : ∀ o : Obj, Below w.heap.size w (w.alloc o) := fun o => (Below.refl _ _).alloc (Nat.le_refl _) o
  have HS : Hid (∀ wx, Below w.heap.size w wx → Calls Try.prog 7 #[.agg #[c0, c1, c2, c3, c4], .int .i64 1048576] wx fun e w' => e = .returned (.int .i64 (less 1048576 (szV (d + 1) v))) ∧ Below wx.heap.size wx w') := fun wx hb =>
    szValue_any (d + 1) w.heap.size (c0, c1, c2, c3, c4) v 1048576 wx (VSeg.agree (agree_below hb) (d + 1) hv) hb.size (by omega) (by omega)
  have Hb := hide' b0
  obtain ⟨ck, cn, a2, l2, p2, a3, l3, p3, a4, l4, p4, rfl, rfl, rfl, rfl, rfl⟩ := VSeg.form (d + 1) hv
  have hl : less 1048576 (szV (d + 1) v) = -1 := less_no _ _ hz
  rw [hl] at HS
  clear hl b0 hv hz
  go_enter Try.func3, Try.ntmps3
  go_wp2_with fail
  refine (HS.out _ (Hb.out _)).mono ?_
  rintro e w1 ⟨rfl, b1⟩
  have B1 := Below.on (Hb.out _) b1
  clear b1
  go_wp2
  go_ret
  exact ⟨rfl, B1⟩

/-- The value that holds nothing. -/
def vNil (d : Nat) : Vl (d + 1) := ((0 : Int), (0 : Int), ([] : List Int), ([] : List (List Int)), ([] : List (Vl d)))

theorem sz_vNil (d : Nat) : szV (d + 1) (vNil d) = 0 := rfl

theorem getD_in {α : Type} (l : List α) (i : Nat) (x : α) (h : i < l.length) : l.getD i x = l[i] := by simp [List.getD, List.getElem?_eq_getElem h]
theorem getD_out {α : Type} (l : List α) (i : Nat) (x : α) (h : ¬ i < l.length) : l.getD i x = x := by simp [List.getD, List.getElem?_eq_none (Nat.le_of_not_lt h)]

theorem tOwn_nil (w : World) : TOwn w (.slice none 0 0) [] [] := ⟨⟨by simp, rfl, .inl ⟨rfl, rfl⟩⟩, .inl ⟨rfl, rfl⟩⟩

theorem own_vNil (d : Nat) (w : World) : VOwn w (d + 1) (.int .i64 0, .int .i64 0, .slice none 0 0, .slice none 0 0, .slice none 0 0) (vNil d) [] :=
  (VOwn_succ _ _ _ _ _).2 ⟨rfl, rfl, [], [], [], tOwn_nil w, .inl ⟨rfl, rfl, rfl⟩, .inl ⟨rfl, rfl, rfl⟩, rfl, by simp⟩

/-- The walk, once both calls' ends are known. -/
theorem get_of (d D : Nat) (v : Vl (d + 1)) (a : Vl (D + 1)) (bb : Bool) (key : List Int) (ka : Option Addr) (kc : Nat) (c0 c1 c2 c3 c4 : Value) (w : World) (hv : VSeg (fun b => b < w.heap.size) w (d + 1) (c0, c1, c2, c3, c4) v) (hS : Seg w ka key) (hkl : key.length ≤ 1048576) (hza : szV (D + 1) a ≤ 1048576) (hz : szV (d + 1) v ≤ 1048576) (hA : ∀ w e w', GetEnd d v key w e w' → Ans D a bb w e w') :
    Calls Try.prog 3 #[.agg #[c0, c1, c2, c3, c4], .slice ka key.length kc] w fun e w' => e = .returned (.bool true) ∧ Below w.heap.size w w' := by
  refine walk_get d D v a bb key ka kc c0 c1 c2 c3 c4 w hv hS hkl hza hz (hide' ?_) (hide' ?_)
  · intro u0 u1 u2 u3 u4 B wx wy xa xc hO hb hs
    obtain ⟨ck, cn, a2, l2, p2, a3, l3, p3, a4, l4, p4, rfl, rfl, rfl, rfl, rfl⟩ := VOwn.form (d + 1) hO
    exact (spec_ValGet_any d wx.heap.size ck cn a2 l2 p2 a3 l3 p3 a4 l4 p4 v xa xc key wy (hO.below hb) hb.size hs hs.lt hz).mono fun e w' h => hA _ _ _ h
  · intro u0 u1 u2 u3 u4 B wx wy xa xc hO hb hs
    exact (impl_ValGet_any d wx.heap.size u0 u1 u2 u3 u4 v xa xc key wy (hO.below hb) hb.size hs hs.lt (by unfold maxLen; omega)).mono fun e w' h => hA _ _ _ h

theorem walk_FnExactValGet (d : Nat) (c0 c1 c2 c3 c4 : Value) (v : Vl d) (key : List Int) (ka : Option Addr) (kc : Nat) (w : World) (hv : VSeg (fun b => b < w.heap.size) w d (c0, c1, c2, c3, c4) v) (hS : Seg w ka key) :
    Calls Try.prog 3 #[.agg #[c0, c1, c2, c3, c4], .slice ka key.length kc] w fun e w' => e = .returned (.bool true) ∧ Below w.heap.size w w' := by
  cases d with
  | zero => exact hv.elim
  | succ d =>
    by_cases hk : (1048576 : Int) < (key.length : Int)
    · exact get_long c0 c1 c2 c3 c4 ka key.length kc w (VSeg.form (d + 1) hv) hk
    by_cases hz : (1048576 : Int) < szV (d + 1) v
    · exact get_big d v ka key.length kc c0 c1 c2 c3 c4 w hv hk hz
    have hk' : key.length ≤ 1048576 := by omega
    have hz' : szV (d + 1) v ≤ 1048576 := by omega
    by_cases hf : okB (d + 1) v = true ∧ v.1 = 5 ∧ 0 ≤ findK v.2.2.2.1 key
    · cases d with
      | zero =>
        refine get_of 0 0 v (vNil 0) false key ka kc c0 c1 c2 c3 c4 w hv hS hk' (by rw [sz_vNil]; omega) hz' ?_
        rintro w e w' ⟨hb, ⟨k, hk, _, _, _, u0, u1, u2, u3, u4, _, B, hO, _⟩ | ⟨hn, _⟩⟩
        · exact hO.elim
        · exact absurd hf hn
      | succ d =>
        refine get_of (d + 1) d v (v.2.2.2.2.getD (findK v.2.2.2.1 key).toNat (vNil d)) true key ka kc c0 c1 c2 c3 c4 w hv hS hk' ?_ hz' ?_
        · by_cases hi : (findK v.2.2.2.1 key).toNat < v.2.2.2.2.length
          · have h1 := sz_elem (d := d + 1) hi
            have h2 : szV (d + 1 + 1) v = szT v.2.2.1 + szK v.2.2.2.1 + szL (d + 1) v.2.2.2.2 := rfl
            rw [getD_in _ _ _ hi]
            omega
          · rw [getD_out _ _ _ hi, sz_vNil]; omega
        · rintro w e w' ⟨hb, ⟨k, hk, _, _, hfk, u0, u1, u2, u3, u4, rfl, B, hO, hB⟩ | ⟨hn, _⟩⟩
          · refine ⟨u0, u1, u2, u3, u4, rfl, B, ?_, hB, hb⟩
            have hi : (findK v.2.2.2.1 key).toNat = k := by rw [hfk]; rfl
            rw [hi, getD_in _ _ _ hk]
            exact hO
          · exact absurd hf hn
    · refine get_of d 0 v (vNil 0) false key ka kc c0 c1 c2 c3 c4 w hv hS hk' (by rw [sz_vNil]; omega) hz' ?_
      rintro w e w' ⟨hb, ⟨k, hk, h1, h2, hfk, _⟩ | ⟨_, rfl⟩⟩
      · exact absurd ⟨h1, h2, by rw [hfk]; omega⟩ hf
      · exact ⟨_, _, _, _, _, rfl, [], own_vNil 0 w', by simp, hb⟩
end Go.Proofs.Ytkklhdeecamifaa
