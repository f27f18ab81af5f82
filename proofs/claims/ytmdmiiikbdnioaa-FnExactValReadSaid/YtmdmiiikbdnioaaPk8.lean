/-
  Texts that a law leans on, one behind the other; no statement is proved here.
-/
import Derived.Test.YtmdmiiikbdnioaaPk7
import Derived.Test.YtmdmiiikbdnioaaPk6
/-
  markValue of the laws over a value of the call's own; heldValueS and heldValue find the running numbers there.
-/
namespace Go.Proofs.Ytmdmiiikbdnioaa
open Go.RowKit
set_option linter.unusedVariables false
set_option linter.unusedSimpArgs false

set_option maxHeartbeats 3200000 in
theorem markValue_any (d : Nat) (c0 c1 c2 c3 c4 : Value) (v : Vl (d + 1)) (B : List Nat) (m : Nat) (w : World) (h : VOwn w (d + 1) (c0, c1, c2, c3, c4) v B) (hs : szV (d + 1) v ≤ 1048576) (hm : m + cV d v ≤ 1125899906842624) :
    Calls Try.prog 10 #[.agg #[c0, c1, c2, c3, c4], .int .i64 m] w fun e w' => e = .returned (.int .i64 ((m + cV d v : Nat) : Int)) ∧ VOwn w' (d + 1) (c0, c1, c2, c3, c4) (mkV d v m) B ∧ Turned B w w' := by
  obtain ⟨vk, vn, vS, vK, vL⟩ := v
  obtain ⟨e0, e1, Bs, Bk, Bl, ht, hkk, hll, hB, hnd0⟩ := (VOwn_succ _ _ _ _ _).1 h
  simp only at e0 e1 ht hkk hll
  subst hB
  have hz' : szV (d + 1) (vk, vn, vS, vK, vL) = vS.length + szK vK + szL d vL := rfl
  have hc' : cV d (vk, vn, vS, vK, vL) = vS.length + (vK.map List.length).sum + (vL.map (cE d)).sum := rfl
  have hkz : szK vK = vK.length + (vK.map List.length).sum := rfl
  have hlt : ∀ b ∈ Bs ++ (Bk ++ Bl), b < w.heap.size := VOwn.lt (d + 1) h
  have hnd : (w.heap.size :: (Bs ++ (Bk ++ Bl))).Nodup := by
    rw [List.nodup_cons]
    exact ⟨fun hm => by have := hlt _ hm; omega, hnd0⟩
  have hal : Below w.heap.size w (w.alloc (.cells #[c0, c1, c2, c3, c4] 26)) := (Below.refl _ _).alloc (Nat.le_refl _) _
  have hst : MkSt (w.alloc (.cells #[c0, c1, c2, c3, c4] 26)) w.heap.size #[c0, c1, c2, c3, c4] d c2 c3 c4 vS vK vL Bs Bk Bl (w.alloc (.cells #[c0, c1, c2, c3, c4] 26)) :=
    ⟨ht.agree fun b hb => hal.block b (ht.lt b hb), hkk.agree fun b hb => hal.block b (hkk.lt b hb), LOwn.agree hll fun b hb => hal.block b (hll.lt b hb), (MapKept.heap_alloc w _).1, Turned.refl _ _⟩
  obtain ⟨sa, sc, rfl, _⟩ := ht.1.shape
  have hkf : ∃ ka kc, c3 = .slice ka vK.length kc := by
    rcases hkk with ⟨e, e', _⟩ | ⟨_, _, _, _, e, _⟩
    · exact ⟨none, 0, by rw [e, e']; rfl⟩
    · exact ⟨_, _, e⟩
  obtain ⟨ka, kc, rfl⟩ := hkf
  have hlf : ∃ la lc, c4 = .slice la vL.length lc := by
    rcases hll with ⟨e, e', _⟩ | ⟨_, _, _, _, e, _⟩
    · exact ⟨none, 0, by rw [e, e']; rfl⟩
    · exact ⟨_, _, e⟩
  obtain ⟨la, lc, rfl⟩ := hlf
  have HM1 : Hid (Calls Try.prog 9 #[.slice sa vS.length sc, .int .i64 m] (w.alloc (.cells #[c0, c1, .slice sa vS.length sc, .slice ka vK.length kc, .slice la vL.length lc] 26)) fun e w' => e = .returned (.int .i64 ((m : Int) + vS.length)) ∧ w'.cell? ⟨w.heap.size, 3, none⟩ = some (.slice ka vK.length kc) ∧ Hid (MkSt (w.alloc (.cells #[c0, c1, .slice sa vS.length sc, .slice ka vK.length kc, .slice la vL.length lc] 26)) w.heap.size #[c0, c1, .slice sa vS.length sc, .slice ka vK.length kc, .slice la vL.length lc] d (.slice sa vS.length sc) (.slice ka vK.length kc) (.slice la vL.length lc) (marks m vS.length) vK vL Bs Bk Bl w')) := by
    refine (markByteS_F sa sc vS m _ hst.1.1 (by omega) (by omega)).mono ?_
    rintro e w' ⟨rfl, hb, hg⟩
    have h' := hst.text hnd (hst.1.marked hb) (hst.1.turned hg)
    exact ⟨ret_i64 (by push_cast; rfl), by rw [cell_of_row w' _ _ _ _ (0, 0) h'.2.2.2.1]; rfl, h'⟩
  have HM2 : Hid (∀ w1, Hid (MkSt (w.alloc (.cells #[c0, c1, .slice sa vS.length sc, .slice ka vK.length kc, .slice la vL.length lc] 26)) w.heap.size #[c0, c1, .slice sa vS.length sc, .slice ka vK.length kc, .slice la vL.length lc] d (.slice sa vS.length sc) (.slice ka vK.length kc) (.slice la vL.length lc) (marks m vS.length) vK vL Bs Bk Bl w1) → Calls Try.prog 22 #[.slice ka vK.length kc, .int .i64 ((m : Int) + vS.length)] w1 fun e w' => e = .returned (.int .i64 ((m : Int) + vS.length + ((vK.map List.length).sum : Nat))) ∧ w'.cell? ⟨w.heap.size, 4, none⟩ = some (.slice la vL.length lc) ∧ Hid (MkSt (w.alloc (.cells #[c0, c1, .slice sa vS.length sc, .slice ka vK.length kc, .slice la vL.length lc] 26)) w.heap.size #[c0, c1, .slice sa vS.length sc, .slice ka vK.length kc, .slice la vL.length lc] d (.slice sa vS.length sc) (.slice ka vK.length kc) (.slice la vL.length lc) (marks m vS.length) (mkKs vK (m + vS.length)) vL Bs Bk Bl w')) := by
    intro w1 h1
    refine arg_eq (x := ((m + vS.length : Nat) : Int)) (by push_cast; rfl) ((markByteSS_any _ vK Bk (m + vS.length) w1 h1.out.2.1 (by omega) (by omega)).mono ?_)
    rintro e w' ⟨rfl, hb, hg⟩
    have h' := h1.out.keys hnd hb hg
    exact ⟨ret_i64 (by push_cast; rfl), by rw [cell_of_row w' _ _ _ _ (0, 0) h'.2.2.2.1]; rfl, h'⟩
  have HM3 : Hid (∀ w1, Hid (MkSt (w.alloc (.cells #[c0, c1, .slice sa vS.length sc, .slice ka vK.length kc, .slice la vL.length lc] 26)) w.heap.size #[c0, c1, .slice sa vS.length sc, .slice ka vK.length kc, .slice la vL.length lc] d (.slice sa vS.length sc) (.slice ka vK.length kc) (.slice la vL.length lc) (marks m vS.length) (mkKs vK (m + vS.length)) vL Bs Bk Bl w1) → Calls Try.prog 23 #[.slice la vL.length lc, .int .i64 ((m : Int) + vS.length + ((vK.map List.length).sum : Nat))] w1 fun e w' => e = .returned (.int .i64 ((m : Int) + vS.length + ((vK.map List.length).sum : Nat) + ((vL.map (cE d)).sum : Nat))) ∧ Hid (VOwn w' (d + 1) (c0, c1, .slice sa vS.length sc, .slice ka vK.length kc, .slice la vL.length lc) (mkV d (vk, vn, vS, vK, vL) m) (Bs ++ (Bk ++ Bl))) ∧ Hid (Turned (Bs ++ (Bk ++ Bl)) w w')) := by
    intro w1 h1
    refine arg_eq (x := ((m + vS.length + (vK.map List.length).sum : Nat) : Int)) (by push_cast; rfl) ((markValueS_any d _ vL Bl (m + vS.length + (vK.map List.length).sum) w1 h1.out.2.2.1 (by omega) (by omega)).mono ?_)
    rintro e w' ⟨rfl, hb, hg⟩
    obtain ⟨g1, g2, g3, g4, g5⟩ := h1.out.list hnd hb hg
    refine ⟨ret_i64 (by push_cast; rfl), ?_, ?_⟩
    · exact (VOwn_succ _ _ _ _ _).2 ⟨e0, e1, Bs, Bk, Bl, g1, g2, g3, rfl, hnd0⟩
    · refine ⟨g5.os.trans hal.os, g5.tape.trans hal.tape, g5.output.trans hal.output, Nat.le_trans hal.size g5.size, fun b hb hn => ?_⟩
      refine (g5.block b (Nat.lt_of_lt_of_le hb hal.size) fun hm => ?_).trans (hal.block b hb)
      rcases List.mem_cons.1 hm with rfl | hm
      · omega
      · exact hn hm
  have HO : Hid (m + cV d (vk, vn, vS, vK, vL) = m + vS.length + (vK.map List.length).sum + (vL.map (cE d)).sum) := by show m + cV d (vk, vn, vS, vK, vL) = _; omega
  generalize cV d (vk, vn, vS, vK, vL) = tot at *
  clear hst ht hkk hll h hnd hnd0 hal hlt hz' hc' hkz hs e0 e1
  generalize (vK.map List.length).sum = nK at *
  generalize (vL.map (cE d)).sum = nL at *
  generalize vS.length = nS at *
  generalize vK.length = kK at *
  generalize vL.length = kL at *
  have hbig : m + nS + nK + nL ≤ 1125899906842624 := by have := HO.out; omega
  go_enter Try.func10, Try.ntmps10
  go_wp2_with fail
  refine HM1.out.mono ?_
  rintro e w1 ⟨rfl, z3, hS1⟩
  have HM2' := hide' (HM2.out w1 hS1)
  clear HM1 HM2
  go_wp2_with fail
  refine HM2'.out.mono ?_
  rintro e w2 ⟨rfl, z4, hS2⟩
  have HM3' := hide' (HM3.out w2 hS2)
  clear z3 hS1 HM2' HM3
  go_wp2_with fail
  refine HM3'.out.mono ?_
  rintro e w3 ⟨rfl, hK', hT'⟩
  clear z4 hS2 HM3'
  go_wp2
  go_ret
  exact ⟨ret_i64 (by rw [HO.out]; push_cast; rfl), hK'.out, hT'.out⟩
end Go.Proofs.Ytmdmiiikbdnioaa
/-
  What a call has made for itself can be read by whoever comes behind it.
-/
namespace Go.Proofs.Ytmdmiiikbdnioaa
open Go.RowKit
set_option linter.unusedVariables false

/-- What a call has made for itself can be read by whoever comes behind it. -/
theorem VOwn.below {w w' : World} {d : Nat} {c : Value × Value × Value × Value × Value} {v : Vl d} {B : List Nat} (h : VOwn w d c v B) (hb : Below w.heap.size w w') : VSeg (fun b => b < w.heap.size) w' d c v :=
  VSeg.agree (agree_below hb) d (VSeg.mono (fun b hb => VOwn.lt d h b hb) d (VOwn.seg d h))
end Go.Proofs.Ytmdmiiikbdnioaa
/-
  heldByteSS of the laws: it finds the running numbers in a list of texts that was marked.
-/
namespace Go.Proofs.Ytmdmiiikbdnioaa
open Go.RowKit
set_option linter.unusedVariables false
set_option linter.unusedSimpArgs false

theorem mkKs_at : ∀ (l : List (List Int)) (k i : Nat) (h : i < l.length), (mkKs l k).getD i [] = marks (k + pre List.length l i) l[i].length
  | [], _, _, h => by simp at h
  | x :: r, k, 0, _ => by simp [mkKs, pre]
  | x :: r, k, i + 1, h => by
    have ih := mkKs_at r (k + x.length) i (by simpa using h)
    have e : pre List.length (x :: r) (i + 1) = x.length + pre List.length r i := by simp [pre]
    rw [e]
    simp only [mkKs, List.getD_cons_succ, List.getElem_cons_succ]
    rw [ih, Nat.add_assoc]

set_option maxHeartbeats 1600000 in
theorem heldByteSS_any (N : Nat) (v : Value) (ks : List (List Int)) (m : Nat) (w : World) (h : KSeg (fun b => b < N) w v (mkKs ks m)) (hN : N ≤ w.heap.size) (hs : szK ks ≤ 2097152) (hm : m + (ks.map List.length).sum ≤ 1125899906842624) :
    Calls Try.prog 25 #[v, .int .i64 m] w fun e w' => e = .returned (.int .i64 ((m + (ks.map List.length).sum : Nat) : Int)) ∧ Below w.heap.size w w' := by
  have hsz : szK ks = ks.length + (ks.map List.length).sum := rfl
  have H0 := hide' h
  obtain ⟨a, c, rfl, _⟩ := h
  rw [length_mkKs] at H0 ⊢
  have HP : Hid (∀ k (hk : k < ks.length), pre List.length ks (k + 1) = pre List.length ks k + ks[k].length) := fun k hk => pre_succ List.length ks k hk
  have HL : Hid (∀ k, pre List.length ks k ≤ (ks.map List.length).sum) := pre_le List.length ks
  have HA : Hid (pre List.length ks ks.length = (ks.map List.length).sum) := pre_all _ _
  have hn : ks.length ≤ 2097152 := by omega
  have hsum : (ks.map List.length).sum ≤ 2097152 := by omega
  have hmm : m + (ks.map List.length).sum ≤ 1125899906842624 := by omega
  clear hs hsz hm
  go_enter Try.func25, Try.ntmps25
  go_wp2
  go_loopw [1, 5] (fun m' i wr => ∃ k : Nat, k ≤ ks.length ∧ i = .int .i64 k ∧ m' = .int .i64 ((m + pre List.length ks k : Nat) : Int) ∧ Below w.heap.size w wr) (fun _ i _ => ks.length - (intOf i).toNat)
  case atStart => exact ⟨0, Nat.zero_le _, rfl, by rw [pre_zero]; simp, Below.refl _ _⟩
  case round =>
    obtain ⟨k, hk, rfl, rfl, hbel⟩ := hrel
    have hpk := HL.out k
    by_cases hlt : k < ks.length
    · have hlt' : (k : Int) < (ks.length : Int) := by omega
      have hps := HP.out k hlt
      have hpk1 := HL.out (k + 1)
      obtain ⟨b, off, rfl, hc⟩ := (H0.out.agree (agree_below (hbel.mono hN))).at (k := k) (by rw [length_mkKs]; exact hlt)
      obtain ⟨a2, c2, hcell, hseg, _⟩ := hc k (by rw [length_mkKs]; exact hlt)
      rw [mkKs_at ks m k hlt, length_marks] at hcell
      rw [mkKs_at ks m k hlt] at hseg
      have HM := hide' (heldByteS_any a2 c2 (m + pre List.length ks k) ks[k].length wr hseg (by omega) (by omega))
      have Hps := hide' hps
      clear hseg hc hps
      generalize ks[k].length = nk at *
      generalize pre List.length ks k = q at *
      go_wp2_with fail
      refine HM.out.mono ?_
      rintro e w' ⟨rfl, b'⟩
      have B' := Below.on hbel b'
      clear hcell HM b'
      go_wp2
      go_roundw
      case rel => exact ⟨k + 1, by omega, by go_num, by rw [Hps.out]; go_num, B'⟩
      case measure => simp [intOf]; omega
    · have hkn : k = ks.length := by omega
      have hkn' : ¬ (k : Int) < (ks.length : Int) := by omega
      have HQ : Hid (pre List.length ks k = (ks.map List.length).sum) := by show pre List.length ks k = _; rw [hkn]; exact HA.out
      clear hkn
      go_wp2
      go_ret
      exact ⟨ret_i64 (by rw [HQ.out]), hbel⟩
end Go.Proofs.Ytmdmiiikbdnioaa
