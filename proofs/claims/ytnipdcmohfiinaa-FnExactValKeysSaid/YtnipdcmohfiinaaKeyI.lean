/-
  ValKeys of the program: the keys of a map, of the call's own.
-/
import Derived.Test.YtnipdcmohfiinaaMapO
namespace Go.Proofs.Ytnipdcmohfiinaa
open Go.RowKit Go.Shelf
set_option linter.unusedVariables false
set_option linter.unusedSimpArgs false

/-- The keys of a value that may be. -/
def keysV : (d : Nat) → Vl d → List (List Int)
  | 0, _ => []
  | d + 1, v => if okB (d + 1) v = true then v.2.2.2.1 else []

theorem keys_no {d : Nat} {v : Vl d} (h : ¬ (okB d v = true ∧ kindV d v = 5)) : keysV d v = [] := by
  cases d with
  | zero => rfl
  | succ d =>
    obtain ⟨vk, vn, vs, vK, vL⟩ := v
    show (if okB (d + 1) (vk, vn, vs, vK, vL) = true then vK else []) = []
    by_cases hok : okB (d + 1) (vk, vn, vs, vK, vL) = true
    · rw [if_pos hok]
      have hk : vk ≠ 5 := fun e => h ⟨hok, e⟩
      simp only [okB, Bool.and_eq_true] at hok
      obtain ⟨_, hsh, _⟩ := (good_succ _ _ _ _ _ _ _).1 hok.1
      rcases (shape_zero hsh).2.2.1 with h5 | h5
      · exact absurd h5 hk
      · exact h5
    · rw [if_neg hok]

theorem field_K (c0 c1 c2 c3 c4 : Value) (h0 : c0.cells.size = 1) (h1 : c1.cells.size = 1) (h2 : c2.cells.size = 1) (h3 : c3.cells.size = 1) (h4 : c4.cells.size = 1) (w : World) : (Instr.field 31 (.agg #[c0, c1, c2, c3, c4]) 3).run Try.prog w = .ok c3 w := by kernel_rfl

/-- What ValKeys leaves. -/
def KeyEnd (d : Nat) (v : Vl d) (w : World) (e : Ending) (w' : World) : Prop := ∃ u, e = .returned u ∧ ∃ B, KOwn w' u (keysV d v) B ∧ (∀ b ∈ B, w.heap.size ≤ b ∧ b < w'.heap.size) ∧ Below w.heap.size w w'

set_option maxHeartbeats 1600000 in
set_option maxRecDepth 100000 in
theorem impl_ValKeys_any (d N : Nat) (c0 c1 c2 c3 c4 : Value) (v : Vl d) (w : World) (hv : VSeg (fun b => b < N) w d (c0, c1, c2, c3, c4) v) (hN : N ≤ w.heap.size) :
    Calls Try.prog 9 #[.agg #[c0, c1, c2, c3, c4]] w (KeyEnd d v w) := by
  have HA : Hid (∀ o : Obj, Below w.heap.size w (w.alloc o)) := fun o => (Below.refl _ _).alloc (Nat.le_refl _) o
  have HP : Hid (∀ o : Obj, Calls Try.prog 29 #[.agg #[c0, c1, c2, c3, c4]] (w.alloc o) (MapOf d v (w.alloc o))) := fun o => mapOf_any d N c0 c1 c2 c3 c4 v _ (VSeg.agree (fun b (h : b < N) => (HA.out o).block b (by omega)) d hv) (by simp; omega)
  clear hv
  go_enter Try.func9, Try.ntmps9
  go_wp2_with fail
  refine (HP.out _).mono ?_
  rintro e w1 ⟨b1, ⟨b, rfl, hok, hk, hp⟩ | ⟨rfl, hno⟩⟩
  · have hB1 := Below.on (HA.out _) b1
    have HB1 := hide' hB1
    have HV : Hid (∀ o : Obj, Calls Try.prog 30 #[.iface 50 (.agg #[.map (some b)])] (w1.alloc o) (ValEnd d v (w1.alloc o))) := by
      intro o
      simp only [okB, Bool.and_eq_true, decide_eq_true_eq] at hok
      refine valueOf_any d w1.heap.size _ v 1 _ (PSeg.carry (fun b' h => h.2) (fun b' h => Below.heap_alloc w1 o b' h.2) d hp) (by simp) hok.1 hok.2
    have HBo : Hid (∀ o : Obj, Below w.heap.size w (w1.alloc o)) := fun o => hB1.alloc hB1.size o
    have Hok := hide' hok
    clear hB1 hp HP b1 hok
    go_wp2_with fail
    refine (HV.out _).mono ?_
    rintro e w2 ⟨u0, u1, u2, u3, u4, rfl, B, hO, hB, hb2⟩
    have hbn := hide' (Below.on (HBo.out _) hb2)
    obtain ⟨uk, un, s2, n2, r2, s3, n3, r3, s4, n4, r4, rfl, rfl, rfl, rfl, rfl⟩ := VOwn.form d hO
    replace hO := hide' hO
    replace hB := hide' hB
    clear hb2
    have hfK := field_K (.int .i64 uk) (.int .i64 un) (.slice s2 n2 r2) (.slice s3 n3 r3) (.slice s4 n4 r4) rfl rfl rfl rfl rfl
    go_wp2_with fail
    go_ret
    cases d with
    | zero => exact hO.out.elim
    | succ d =>
      obtain ⟨_, _, Bs, Bk, Bl, _, hK, _, rfl, _⟩ := (VOwn_succ _ _ _ _ _).1 hO.out
      have hkeys : keysV (d + 1) v = v.2.2.2.1 := if_pos Hok.out
      refine ⟨_, rfl, Bk, by rw [hkeys]; exact hK, fun b' hb' => ?_, hbn.out⟩
      have h1 := hB.out b' (by simp [hb'])
      have h2 := (HBo.out (.cells #[.map (some b)] 50)).size
      omega
  · have hB1 := Below.on (HA.out _) b1
    have HBo : Hid (∀ o : Obj, Below w.heap.size w (w1.alloc o)) := fun o => hB1.alloc hB1.size o
    have hkn := hide' (keys_no hno)
    clear hno HP b1 hB1
    go_wp2_with fail
    go_ret
    exact ⟨_, rfl, [], by rw [hkn.out]; exact kNil _, by simp, HBo.out _⟩
end Go.Proofs.Ytnipdcmohfiinaa
