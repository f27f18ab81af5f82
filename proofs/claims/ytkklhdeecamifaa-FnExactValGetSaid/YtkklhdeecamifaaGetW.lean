/-
  ValGet of the program: the walk.
-/
import Derived.Test.YtkklhdeecamifaaGetI
namespace Go.Proofs.Ytkklhdeecamifaa
open Go.RowKit Go.Shelf
set_option linter.unusedVariables false
set_option linter.unusedSimpArgs false

set_option maxHeartbeats 3200000 in
set_option maxRecDepth 100000 in
theorem impl_ValGet_any (d N : Nat) (c0 c1 c2 c3 c4 : Value) (v : Vl (d + 1)) (ka : Option Addr) (kc : Nat) (key : List Int) (w : World) (hv : VSeg (fun b => b < N) w (d + 1) (c0, c1, c2, c3, c4) v) (hN : N ≤ w.heap.size) (hS : Seg w ka key) (hSb : ∀ x, ka = some x → key ≠ [] → x.block < w.heap.size) (hkl : key.length ≤ maxLen) :
    Calls Try.prog 11 #[.agg #[c0, c1, c2, c3, c4], .slice ka key.length kc] w (GetEnd d v key w) := by
  have HA : Hid (∀ o o' : Obj, Below w.heap.size w ((w.alloc o).alloc o') ∧ ((w.alloc o).alloc o').heap[w.heap.size + 1]? = some o') := fun o o' => ⟨((Below.refl _ _).alloc (Nat.le_refl _) o).alloc (by simp) o', by have := (MapKept.heap_alloc (w.alloc o) o').1; simpa using this⟩
  have HP : Hid (∀ o o' : Obj, Calls Try.prog 31 #[.agg #[c0, c1, c2, c3, c4]] ((w.alloc o).alloc o') (MapOf (d + 1) v ((w.alloc o).alloc o'))) := fun o o' => mapOf_any (d + 1) N c0 c1 c2 c3 c4 v _ (VSeg.agree (fun b (h : b < N) => (HA.out o o').1.block b (by omega)) (d + 1) hv) (by simp; omega)
  have HSg : Hid (∀ wx, Below w.heap.size w wx → Seg wx ka key) := fun wx hb => hS.below hb hSb
  have HByt : Hid (∀ y ∈ key, Byt y) := hS.1
  clear hv hS hSb
  go_enter Try.func11, Try.ntmps11
  go_wp2_with fail
  refine (HP.out _ _).mono ?_
  rintro e w1 ⟨b1, ⟨b, rfl, hok, hk, hp⟩ | ⟨rfl, hno⟩⟩
  · have hR1 : w1.heap[w.heap.size + 1]? = some (.cells #[.int .i64 0, .int .i64 0, .slice none 0 0, .slice none 0 0, .slice none 0 0] 30 (0, 0)) := (b1.block _ (by simp)).trans (HA.out _ _).2
    have hlt : w.heap.size + 1 < w1.heap.size := (Array.getElem?_eq_some_iff.1 hR1).1
    have hB1 := Below.on (HA.out _ _).1 b1
    have HBM : Hid (∀ o, Below w.heap.size w (w1.alloc o)) := fun o => hB1.alloc hB1.size o
    have HB1' := hide' hB1
    have hk5 : v.1 = 5 := hk
    obtain ⟨hbR, ps, hm, hc⟩ := mapPart_inv hp hk5
    have hok' := hok
    simp only [okB, Bool.and_eq_true, decide_eq_true_eq] at hok'
    obtain ⟨vk, vn, vs, vK, vL⟩ := v
    simp only at hk5 hm hc
    subst hk5
    obtain ⟨_, hsh, hgk⟩ := (good_succ _ _ _ _ _ _ _).1 hok'.1
    have hkid := parts_kid hok'.2
    obtain ⟨hKL, hasc⟩ := shape_mapB hsh
    have hst : ∀ i, i < vL.length → stepB vK i = true := by
      intro i hi
      rw [ascB, List.all_eq_true] at hasc
      exact hasc i (List.mem_range.2 (by omega))
    have hcv : ∀ o, (convert 22 9 (.slice ka key.length kc)).run Try.prog (w1.alloc o) = .ok (.string (strOf key)) (w1.alloc o) := fun o => conv_seg kc (HSg.out _ (HBM.out o))
    have HR1 := hide' hR1
    obtain ⟨k, hkK, hke, hkn, hfk⟩ | ⟨hnone, hfk⟩ := find_cases vK key
    · have hlk : ∀ o, (Instr.lookup 51 (.map (some b)) (.string (strOf key)) true).run Try.prog (w1.alloc o) = .ok (.tuple #[ps.getD k .nilIface, .bool true]) (w1.alloc o) := fun o => look_at (hm.alloc o) hst (fun i hi => (step_name (hst i hi)).1) HByt.out hkl (by omega) hkn hke
      have hkL : k < vL.length := by omega
      obtain ⟨pt, px, hpx⟩ := (hc k hkL).shape
      have hck := hc k hkL
      rw [hpx] at hlk hck
      have HV : Hid (∀ o, Calls Try.prog 32 #[.iface pt px] (w1.alloc o) (ValEnd d (vL[k]'hkL) (w1.alloc o))) := fun o => valueOf_any d w1.heap.size _ _ (1 + 1) _ (PSeg.carry (fun b' h => h.2) (fun b' h => Below.heap_alloc w1 o b' h.2) d hck) (by simp) (hgk k hkL) (hkid k hkL)
      have HF := hide' (And.intro hok (And.intro hfk hKL))
      clear hp hm hc hsh hgk hkid hasc hst hR1 hB1 b1 hok hok' hck hkn hke hfk HP
      generalize hsx : strOf key = sx at *
      go_wp2_with fail
      refine (HV.out _).mono ?_
      rintro e w2 ⟨u0, u1, u2, u3, u4, rfl, B, hO, hB, hb2⟩
      obtain ⟨uk, un, s2, n2, r2, s3, n3, r3, s4, n4, r4, rfl, rfl, rfl, rfl, rfl⟩ := VOwn.form d hO
      have hR2 : w2.heap[w.heap.size + 1]? = some (.cells #[.int .i64 0, .int .i64 0, .slice none 0 0, .slice none 0 0, .slice none 0 0] 30 (0, 0)) := (hb2.block _ (by simp; omega)).trans ((Below.heap_alloc _ _ _ hlt).trans HR1.out)
      obtain ⟨r0', r1', r2', r3', r4', rf⟩ := row5 hR2
      have f0 := rf 0
      have f1 := rf 1
      have f2 := rf 2
      have f3 := rf 3
      have f4 := rf 4
      have hz2 := hb2.size
      simp at hz2
      have hBf := Below.on (HBM.out _) hb2
      have HR2 := hide' hR2
      have HO := hide' hO
      have HB := hide' hB
      have HBf := hide' hBf
      clear rf hR2 hO hB hBf hb2 HV
      go_wp2_with fail
      have hrow := set5_heap (j := 0) (.int .i64 uk) (.int .i64 un) (.slice s2 n2 r2) (.slice s3 n3 r3) (.slice s4 n4 r4) HR2.out
      have hfin := row5 hrow
      simp only [set5, Nat.zero_add] at hfin
      obtain ⟨y0, y1, y2, y3, y4, _⟩ := hfin
      refine bodyPost_ret (v := .tuple #[.agg #[.int .i64 uk, .int .i64 un, .slice s2 n2 r2, .slice s3 n3 r3, .slice s4 n4 r4], .bool true]) (by simp [results, Try.results11, go_sem, y0, y1, y2, y3, y4]) rfl ?_
      have hB5 := set5_grown w2 (w.heap.size + 1) 0 (.int .i64 uk) (.int .i64 un) (.slice s2 n2 r2) (.slice s3 n3 r3) (.slice s4 n4 r4)
      have hsz4 := set5_size w2 (w.heap.size + 1) 0 (.int .i64 uk) (.int .i64 un) (.slice s2 n2 r2) (.slice s3 n3 r3) (.slice s4 n4 r4)
      have hbd : ∀ b ∈ B, w1.heap.size + 1 ≤ b ∧ b < w2.heap.size := fun b hb => by have := HB.out b hb; simp at this; exact this
      refine ⟨HBf.out.grown hB5 (by omega) (by intro j hj; simp at hj; omega), .inl ⟨k, hkL, HF.out.1, rfl, HF.out.2.1, _, _, _, _, _, rfl, B, ?_, fun b hb => ?_⟩⟩
      · exact VOwn.agree d HO.out fun b hb => hB5.block b (hbd b hb).2 (by have := hbd b hb; simp; omega)
      · have := hbd b hb
        show w.heap.size ≤ b ∧ b < (set5 _ _ _ _ _ _ _ _).heap.size
        omega
    · have hlk : ∀ o, (Instr.lookup 51 (.map (some b)) (.string (strOf key)) true).run Try.prog (w1.alloc o) = .ok (.tuple #[.nilIface, .bool false]) (w1.alloc o) := fun o => look_none (hm.alloc o) hst (fun i hi => (step_name (hst i hi)).1) HByt.out hkl (fun i hi => hnone i (by omega))
      have HF := hide' hfk
      clear hp hm hc hsh hgk hkid hasc hst hR1 hB1 b1 hok hok' hnone hfk HP
      generalize hsx : strOf key = sx at *
      obtain ⟨r0, r1, r2, r3, r4, rf⟩ := row5 HR1.out
      have f0 := rf 0
      have f1 := rf 1
      have f2 := rf 2
      have f3 := rf 3
      have f4 := rf 4
      obtain ⟨s0, s1, s2, s3, s4, sf⟩ := box_later HR1.out
      clear rf
      go_wp2_with fail
      have hfin := box_later (set5_heap (j := 0) (.int .i64 0) (.int .i64 0) (.slice none 0 0) (.slice none 0 0) (.slice none 0 0) HR1.out)
      simp only [set5, Nat.zero_add] at hfin
      obtain ⟨y0, y1, y2, y3, y4, _⟩ := hfin
      refine bodyPost_ret (v := .tuple #[.agg #[.int .i64 0, .int .i64 0, .slice none 0 0, .slice none 0 0, .slice none 0 0], .bool false]) (by simp [results, Try.results11, go_sem, y0, y1, y2, y3, y4]) rfl ?_
      have hB5 := set5_grown w1 (w.heap.size + 1) 0 (.int .i64 0) (.int .i64 0) (.slice none 0 0) (.slice none 0 0) (.slice none 0 0)
      have hsz4 := set5_size w1 (w.heap.size + 1) 0 (.int .i64 0) (.int .i64 0) (.slice none 0 0) (.slice none 0 0) (.slice none 0 0)
      exact ⟨(HB1'.out.grown hB5 (by omega) (by intro j hj; simp at hj; omega)).alloc (by omega) _, .inr ⟨fun h => by have h3 := h.2.2; simp only at h3; rw [HF.out] at h3; omega, rfl⟩⟩
  · have hR1 : w1.heap[w.heap.size + 1]? = some (.cells #[.int .i64 0, .int .i64 0, .slice none 0 0, .slice none 0 0, .slice none 0 0] 30 (0, 0)) := (b1.block _ (by simp)).trans (HA.out _ _).2
    have hlt : w.heap.size + 1 < w1.heap.size := (Array.getElem?_eq_some_iff.1 hR1).1
    have hB1 := Below.on (HA.out _ _).1 b1
    have HBM : Hid (∀ o, Below w.heap.size w (w1.alloc o)) := fun o => hB1.alloc hB1.size o
    have HB1' := hide' hB1
    have HR1 := hide' hR1
    have HF := hide' hno
    clear hR1 hB1 b1 hno HP
    obtain ⟨r0, r1, r2, r3, r4, rf⟩ := row5 HR1.out
    have f0 := rf 0
    have f1 := rf 1
    have f2 := rf 2
    have f3 := rf 3
    have f4 := rf 4
    obtain ⟨s0, s1, s2, s3, s4, sf⟩ := box_later HR1.out
    clear rf
    go_wp2_with fail
    have hfin := box_later (set5_heap (j := 0) (.int .i64 0) (.int .i64 0) (.slice none 0 0) (.slice none 0 0) (.slice none 0 0) HR1.out)
    simp only [set5, Nat.zero_add] at hfin
    obtain ⟨y0, y1, y2, y3, y4, _⟩ := hfin
    refine bodyPost_ret (v := .tuple #[.agg #[.int .i64 0, .int .i64 0, .slice none 0 0, .slice none 0 0, .slice none 0 0], .bool false]) (by simp [results, Try.results11, go_sem, y0, y1, y2, y3, y4]) rfl ?_
    have hB5 := set5_grown w1 (w.heap.size + 1) 0 (.int .i64 0) (.int .i64 0) (.slice none 0 0) (.slice none 0 0) (.slice none 0 0)
    have hsz4 := set5_size w1 (w.heap.size + 1) 0 (.int .i64 0) (.int .i64 0) (.slice none 0 0) (.slice none 0 0) (.slice none 0 0)
    exact ⟨(HB1'.out.grown hB5 (by omega) (by intro j hj; simp at hj; omega)).alloc (by omega) _, .inr ⟨fun h => HF.out ⟨h.1, h.2.1⟩, rfl⟩⟩
end Go.Proofs.Ytkklhdeecamifaa
