/-
  markValue of the laws over a value of the call's own; heldValueS and heldValue find the running numbers there.
-/
import Derived.Test.YtkklhdeecamifaaMkV
import Derived.Test.YtkklhdeecamifaaHdK
namespace Go.Proofs.Ytkklhdeecamifaa
open Go.RowKit
set_option linter.unusedVariables false
set_option linter.unusedSimpArgs false

set_option maxHeartbeats 3200000 in
theorem markValue_any (d : Nat) (c0 c1 c2 c3 c4 : Value) (v : Vl (d + 1)) (B : List Nat) (m : Nat) (w : World) (h : VOwn w (d + 1) (c0, c1, c2, c3, c4) v B) (hs : szV (d + 1) v ≤ 1048576) (hm : m + cV d v ≤ 16777216) :
    Calls Try.prog 14 #[.agg #[c0, c1, c2, c3, c4], .int .i64 m] w fun e w' => e = .returned (.int .i64 ((m + cV d v : Nat) : Int)) ∧ VOwn w' (d + 1) (c0, c1, c2, c3, c4) (mkV d v m) B ∧ Turned B w w' := by
  obtain ⟨vk, vn, vS, vK, vL⟩ := v
  obtain ⟨e0, e1, Bs, Bk, Bl, ht, hkk, hll, hB, hnd0⟩ := (VOwn_succ _ _ _ _ _).1 h
  simp only at e0 e1 ht hkk hll
  subst hB
  have hz' : szV (d + 1) (vk, vn, vS, vK, vL) = vS.length + szK vK + szL d vL := rfl
  have hc' : cV d (vk, vn, vS, vK, vL) = vS.length + (vK.map List.length).sum + (vL.map (cE d)).sum := rfl
  have hkz : szK vK = vK.length + (vK.map List.length).sum := rfl
  have hlt : ∀ b ∈ Bs ++ (Bk ++ Bl), b < w.heap.size := VOwn.lt (d + 1) h
  have hnd : (w.heap.size :: (Bs ++ (Bk ++ Bl))).Nodup := by
    rw [List.nodup_cons]
    exact ⟨fun hm => by have := hlt _ hm; omega, hnd0⟩
  have hal : Below w.heap.size w (w.alloc (.cells #[c0, c1, c2, c3, c4] 30)) := (Below.refl _ _).alloc (Nat.le_refl _) _
  have hst : MkSt (w.alloc (.cells #[c0, c1, c2, c3, c4] 30)) w.heap.size #[c0, c1, c2, c3, c4] d c2 c3 c4 vS vK vL Bs Bk Bl (w.alloc (.cells #[c0, c1, c2, c3, c4] 30)) :=
    ⟨ht.agree fun b hb => hal.block b (ht.lt b hb), hkk.agree fun b hb => hal.block b (hkk.lt b hb), LOwn.agree hll fun b hb => hal.block b (hll.lt b hb), (MapKept.heap_alloc w _).1, Turned.refl _ _⟩
  obtain ⟨sa, sc, rfl, _⟩ := ht.1.shape
  have hkf : ∃ ka kc, c3 = .slice ka vK.length kc := by
    rcases hkk with ⟨e, e', _⟩ | ⟨_, _, _, _, e, _⟩
    · exact ⟨none, 0, by rw [e, e']; rfl⟩
    · exact ⟨_, _, e⟩
  obtain ⟨ka, kc, rfl⟩ := hkf
  have hlf : ∃ la lc, c4 = .slice la vL.length lc := by
    rcases hll with ⟨e, e', _⟩ | ⟨_, _, _, _, e, _⟩
    · exact ⟨none, 0, by rw [e, e']; rfl⟩
    · exact ⟨_, _, e⟩
  obtain ⟨la, lc, rfl⟩ := hlf
  have HM1 : Hid (Calls Try.prog 15 #[.slice sa vS.length sc, .int .i64 m] (w.alloc (.cells #[c0, c1, .slice sa vS.length sc, .slice ka vK.length kc, .slice la vL.length lc] 30)) fun e w' => e = .returned (.int .i64 ((m : Int) + vS.length)) ∧ w'.cell? ⟨w.heap.size, 3, none⟩ = some (.slice ka vK.length kc) ∧ Hid (MkSt (w.alloc (.cells #[c0, c1, .slice sa vS.length sc, .slice ka vK.length kc, .slice la vL.length lc] 30)) w.heap.size #[c0, c1, .slice sa vS.length sc, .slice ka vK.length kc, .slice la vL.length lc] d (.slice sa vS.length sc) (.slice ka vK.length kc) (.slice la vL.length lc) (marks m vS.length) vK vL Bs Bk Bl w')) := by
    refine (markByteS_F sa sc vS m _ hst.1.1 (by omega) (by omega)).mono ?_
    rintro e w' ⟨rfl, hb, hg⟩
    have h' := hst.text hnd (hst.1.marked hb) (hst.1.turned hg)
    exact ⟨ret_i64 (by push_cast; rfl), by rw [cell_of_row w' _ _ _ _ (0, 0) h'.2.2.2.1]; rfl, h'⟩
  have HM2 : Hid (∀ w1, Hid (MkSt (w.alloc (.cells #[c0, c1, .slice sa vS.length sc, .slice ka vK.length kc, .slice la vL.length lc] 30)) w.heap.size #[c0, c1, .slice sa vS.length sc, .slice ka vK.length kc, .slice la vL.length lc] d (.slice sa vS.length sc) (.slice ka vK.length kc) (.slice la vL.length lc) (marks m vS.length) vK vL Bs Bk Bl w1) → Calls Try.prog 35 #[.slice ka vK.length kc, .int .i64 ((m : Int) + vS.length)] w1 fun e w' => e = .returned (.int .i64 ((m : Int) + vS.length + ((vK.map List.length).sum : Nat))) ∧ w'.cell? ⟨w.heap.size, 4, none⟩ = some (.slice la vL.length lc) ∧ Hid (MkSt (w.alloc (.cells #[c0, c1, .slice sa vS.length sc, .slice ka vK.length kc, .slice la vL.length lc] 30)) w.heap.size #[c0, c1, .slice sa vS.length sc, .slice ka vK.length kc, .slice la vL.length lc] d (.slice sa vS.length sc) (.slice ka vK.length kc) (.slice la vL.length lc) (marks m vS.length) (mkKs vK (m + vS.length)) vL Bs Bk Bl w')) := by
    intro w1 h1
    refine arg_eq (x := ((m + vS.length : Nat) : Int)) (by push_cast; rfl) ((markByteSS_any _ vK Bk (m + vS.length) w1 h1.out.2.1 (by omega) (by omega)).mono ?_)
    rintro e w' ⟨rfl, hb, hg⟩
    have h' := h1.out.keys hnd hb hg
    exact ⟨ret_i64 (by push_cast; rfl), by rw [cell_of_row w' _ _ _ _ (0, 0) h'.2.2.2.1]; rfl, h'⟩
  have HM3 : Hid (∀ w1, Hid (MkSt (w.alloc (.cells #[c0, c1, .slice sa vS.length sc, .slice ka vK.length kc, .slice la vL.length lc] 30)) w.heap.size #[c0, c1, .slice sa vS.length sc, .slice ka vK.length kc, .slice la vL.length lc] d (.slice sa vS.length sc) (.slice ka vK.length kc) (.slice la vL.length lc) (marks m vS.length) (mkKs vK (m + vS.length)) vL Bs Bk Bl w1) → Calls Try.prog 36 #[.slice la vL.length lc, .int .i64 ((m : Int) + vS.length + ((vK.map List.length).sum : Nat))] w1 fun e w' => e = .returned (.int .i64 ((m : Int) + vS.length + ((vK.map List.length).sum : Nat) + ((vL.map (cE d)).sum : Nat))) ∧ Hid (VOwn w' (d + 1) (c0, c1, .slice sa vS.length sc, .slice ka vK.length kc, .slice la vL.length lc) (mkV d (vk, vn, vS, vK, vL) m) (Bs ++ (Bk ++ Bl))) ∧ Hid (Turned (Bs ++ (Bk ++ Bl)) w w')) := by
    intro w1 h1
    refine arg_eq (x := ((m + vS.length + (vK.map List.length).sum : Nat) : Int)) (by push_cast; rfl) ((markValueS_any d _ vL Bl (m + vS.length + (vK.map List.length).sum) w1 h1.out.2.2.1 (by omega) (by omega)).mono ?_)
    rintro e w' ⟨rfl, hb, hg⟩
    obtain ⟨g1, g2, g3, g4, g5⟩ := h1.out.list hnd hb hg
    refine ⟨ret_i64 (by push_cast; rfl), ?_, ?_⟩
    · exact (VOwn_succ _ _ _ _ _).2 ⟨e0, e1, Bs, Bk, Bl, g1, g2, g3, rfl, hnd0⟩
    · refine ⟨g5.os.trans hal.os, g5.tape.trans hal.tape, g5.output.trans hal.output, Nat.le_trans hal.size g5.size, fun b hb hn => ?_⟩
      refine (g5.block b (Nat.lt_of_lt_of_le hb hal.size) fun hm => ?_).trans (hal.block b hb)
      rcases List.mem_cons.1 hm with rfl | hm
      · omega
      · exact hn hm
  have HO : Hid (m + cV d (vk, vn, vS, vK, vL) = m + vS.length + (vK.map List.length).sum + (vL.map (cE d)).sum) := by show m + cV d (vk, vn, vS, vK, vL) = _; omega
  generalize cV d (vk, vn, vS, vK, vL) = tot at *
  clear hst ht hkk hll h hnd hnd0 hal hlt hz' hc' hkz hs e0 e1
  generalize (vK.map List.length).sum = nK at *
  generalize (vL.map (cE d)).sum = nL at *
  generalize vS.length = nS at *
  generalize vK.length = kK at *
  generalize vL.length = kL at *
  have hbig : m + nS + nK + nL ≤ 16777216 := by have := HO.out; omega
  go_enter Try.func14, Try.ntmps14
  go_wp2_with fail
  refine HM1.out.mono ?_
  rintro e w1 ⟨rfl, z3, hS1⟩
  have HM2' := hide' (HM2.out w1 hS1)
  clear HM1 HM2
  go_wp2_with fail
  refine HM2'.out.mono ?_
  rintro e w2 ⟨rfl, z4, hS2⟩
  have HM3' := hide' (HM3.out w2 hS2)
  clear z3 hS1 HM2' HM3
  go_wp2_with fail
  refine HM3'.out.mono ?_
  rintro e w3 ⟨rfl, hK', hT'⟩
  clear z4 hS2 HM3'
  go_wp2
  go_ret
  exact ⟨ret_i64 (by rw [HO.out]; push_cast; rfl), hK'.out, hT'.out⟩
end Go.Proofs.Ytkklhdeecamifaa
