/-
  Texts that a law leans on, one behind the other; no statement is proved here.
-/
import Derived.Test.YtfokidhamjphfaaDoorPk17
import Derived.Test.YtfokidhamjphfaaDoorPk19
import Derived.Test.YtfokidhamjphfaaDoorPk21
/-
  What a call has made for itself can be read by whoever comes behind it.
-/
namespace Go.Proofs.YtfokidhamjphfaaDoor
open Go.RowKit
set_option linter.unusedVariables false

/-- What a call has made for itself can be read by whoever comes behind it. -/
theorem VOwn.below {w w' : World} {d : Nat} {c : Value × Value × Value × Value × Value} {v : Vl d} {B : List Nat} (h : VOwn w d c v B) (hb : Below w.heap.size w w') : VSeg (fun b => b < w.heap.size) w' d c v :=
  VSeg.agree (agree_below hb) d (VSeg.mono (fun b hb => VOwn.lt d h b hb) d (VOwn.seg d h))
end Go.Proofs.YtfokidhamjphfaaDoor
/-
  heldByteSS of the laws: it finds the running numbers in a list of texts that was marked.
-/
namespace Go.Proofs.YtfokidhamjphfaaDoor
open Go.RowKit
set_option linter.unusedVariables false
set_option linter.unusedSimpArgs false

theorem mkKs_at : ∀ (l : List (List Int)) (k i : Nat) (h : i < l.length), (mkKs l k).getD i [] = marks (k + pre List.length l i) l[i].length
  | [], _, _, h => by simp at h
  | x :: r, k, 0, _ => by simp [mkKs, pre]
  | x :: r, k, i + 1, h => by
    have ih := mkKs_at r (k + x.length) i (by simpa using h)
    have e : pre List.length (x :: r) (i + 1) = x.length + pre List.length r i := by simp [pre]
    rw [e]
    simp only [mkKs, List.getD_cons_succ, List.getElem_cons_succ]
    rw [ih, Nat.add_assoc]

set_option maxHeartbeats 1600000 in
theorem heldByteSS_any (N : Nat) (v : Value) (ks : List (List Int)) (m : Nat) (w : World) (h : KSeg (fun b => b < N) w v (mkKs ks m)) (hN : N ≤ w.heap.size) (hs : szK ks ≤ 2097152) (hm : m + (ks.map List.length).sum ≤ 1125899906842624) :
    Calls Tryd.prog 45 #[v, .int .i64 m] w fun e w' => e = .returned (.int .i64 ((m + (ks.map List.length).sum : Nat) : Int)) ∧ Below w.heap.size w w' := by
  have hsz : szK ks = ks.length + (ks.map List.length).sum := rfl
  have H0 := hide' h
  obtain ⟨a, c, rfl, _⟩ := h
  rw [length_mkKs] at H0 ⊢
  have HP : Hid (∀ k (hk : k < ks.length), pre List.length ks (k + 1) = pre List.length ks k + ks[k].length) := fun k hk => pre_succ List.length ks k hk
  have HL : Hid (∀ k, pre List.length ks k ≤ (ks.map List.length).sum) := pre_le List.length ks
  have HA : Hid (pre List.length ks ks.length = (ks.map List.length).sum) := pre_all _ _
  have hn : ks.length ≤ 2097152 := by omega
  have hsum : (ks.map List.length).sum ≤ 2097152 := by omega
  have hmm : m + (ks.map List.length).sum ≤ 1125899906842624 := by omega
  clear hs hsz hm
  go_enter Tryd.func45, Tryd.ntmps45
  go_wp2
  go_loopw [1, 5] (fun m' i wr => ∃ k : Nat, k ≤ ks.length ∧ i = .int .i64 k ∧ m' = .int .i64 ((m + pre List.length ks k : Nat) : Int) ∧ Below w.heap.size w wr) (fun _ i _ => ks.length - (intOf i).toNat)
  case atStart => exact ⟨0, Nat.zero_le _, rfl, by rw [pre_zero]; simp, Below.refl _ _⟩
  case round =>
    obtain ⟨k, hk, rfl, rfl, hbel⟩ := hrel
    have hpk := HL.out k
    by_cases hlt : k < ks.length
    · have hlt' : (k : Int) < (ks.length : Int) := by omega
      have hps := HP.out k hlt
      have hpk1 := HL.out (k + 1)
      obtain ⟨b, off, rfl, hc⟩ := (H0.out.agree (agree_below (hbel.mono hN))).at (k := k) (by rw [length_mkKs]; exact hlt)
      obtain ⟨a2, c2, hcell, hseg, _⟩ := hc k (by rw [length_mkKs]; exact hlt)
      rw [mkKs_at ks m k hlt, length_marks] at hcell
      rw [mkKs_at ks m k hlt] at hseg
      have HM := hide' (heldByteS_any a2 c2 (m + pre List.length ks k) ks[k].length wr hseg (by omega) (by omega))
      have Hps := hide' hps
      clear hseg hc hps
      generalize ks[k].length = nk at *
      generalize pre List.length ks k = q at *
      go_wp2_with fail
      refine HM.out.mono ?_
      rintro e w' ⟨rfl, b'⟩
      have B' := Below.on hbel b'
      clear hcell HM b'
      go_wp2
      go_roundw
      case rel => exact ⟨k + 1, by omega, by go_num, by rw [Hps.out]; go_num, B'⟩
      case measure => simp [intOf]; omega
    · have hkn : k = ks.length := by omega
      have hkn' : ¬ (k : Int) < (ks.length : Int) := by omega
      have HQ : Hid (pre List.length ks k = (ks.map List.length).sum) := by show pre List.length ks k = _; rw [hkn]; exact HA.out
      clear hkn
      go_wp2
      go_ret
      exact ⟨ret_i64 (by rw [HQ.out]), hbel⟩
end Go.Proofs.YtfokidhamjphfaaDoor
/-
  One text more behind a row of texts, each of the call's own.
-/
namespace Go.Proofs.YtfokidhamjphfaaDoor
open Go.RowKit
set_option linter.unusedVariables false
set_option linter.unusedSimpArgs false

theorem rwk_step {w1 wr w5 w6 : World} {ks : List (List Int)} {x v5 : Value} {k g cp : Nat} {cs : List (List Value)} {Bi : List (List Nat)} {o : Obj} (h : RW 22 1 (ItK ks) wr w1.heap.size x k cs Bi) (hb : Below w1.heap.size w1 wr) (b5 : Below wr.heap.size wr w5) (hv : Bts w5 wr.heap.size v5 (ks.getD k []))
    (hown : w6.ownsRow w1.heap.size 22 1 (.slice (some ⟨g, 0, none⟩) (k + 1) cp) (k + 1) (cs.flatten ++ [v5])) (hg : (w5.alloc o).grownBy w6 x.ownBlock) (hat : x.ownBlock = some g ∨ g = w5.heap.size + 1) :
    ∃ cs' Bi', RW 22 1 (ItK ks) w6 w1.heap.size (.slice (some ⟨g, 0, none⟩) (k + 1) cp) (k + 1) cs' Bi' ∧ Below w1.heap.size w1 w6 := by
  obtain ⟨Bv, hT, hBv, hBn⟩ := tOwn_of hv
  have hz := hb.size
  have hz5 := b5.size
  have hxlt := h.2.2.1.lt
  refine ⟨_, _, RW.add (w2 := w5.alloc o) (ItK.agree ks) h (fun b hb => (Below.heap_alloc _ _ _ (by omega)).trans (b5.block b hb)) (by simp; omega) ⟨v5, rfl, hT.agree fun b hb => Below.heap_alloc _ _ _ (hBv b hb).2⟩ (fun b hb => by have := hBv b hb; simp; omega) hBn hz hown hg (by simpa using hat), ?_⟩
  exact ((Below.on hb b5).alloc (by omega) o).grown hg (by simp; omega) (fun j hj => (hxlt j hj).1)
end Go.Proofs.YtfokidhamjphfaaDoor
