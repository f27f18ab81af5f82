/-
  Texts that a law leans on, one behind the other; no statement is proved here.
-/
import Derived.Test.YtfokidhamjphfaaDoorPk4
import Derived.Test.YtfokidhamjphfaaDoorPk9
/-
  toByteSS of the laws: it makes a list of texts of its own that holds what its argument holds.
-/
namespace Go.Proofs.YtfokidhamjphfaaDoor
open Go.RowKit
set_option linter.unusedVariables false

set_option maxHeartbeats 1600000 in
theorem toByteSS_any (N : Nat) (v : Value) (ks : List (List Int)) (w : World) (hk : KSeg (fun b => b < N) w v ks) (hN : N ≤ w.heap.size) (hn : ks.length ≤ 1048576) (hs : ∀ t ∈ ks, t.length ≤ 1048576) :
    Calls Tryd.prog 38 #[v] w fun e w' => ∃ u, e = .returned u ∧ ∃ B, KOwn w' u ks B ∧ (∀ b ∈ B, w.heap.size ≤ b ∧ b < w'.heap.size) ∧ Below w.heap.size w w' := by
  obtain ⟨a, cap, rfl, hlc, hcm, ka, hc⟩ := hk
  unfold maxLen at hcm
  obtain ⟨i0, hi, hz0, hz1, hz2⟩ := info_parts infoT
  have HC : Hid (ks = [] ∨ ∃ b off, a = some ⟨b, off, none⟩ ∧ b < N ∧ ∀ i, i < ks.length → ∃ u, w.cell? ⟨b, off + i, none⟩ = some u ∧ TSeg (fun b => b < N) w u (ks.getD i [])) := hc
  have HS : Hid (∀ t ∈ ks, t.length ≤ 1048576) := hs
  clear hc hs
  go_enter Tryd.func38, Tryd.ntmps38
  go_wp2_with (refine wpList_make_full _ rfl _ _ 23 rfl w.heap.size 22 i0 (.slice none 0 0) 1 Tryd.underlying23 hi hz0 hz1 .i64 .i64 _ _ ks.length rfl rfl rfl rfl (by rw [hz2]; omega) (by unfold maxLen; omega) (Nat.le_refl _) ?_; intro w1 hown hgrow)
  have hK0 : KPart w1 w.heap.size ks.length ks 0 (w.heap.size + 1) := by
    rcases hown.2 with ⟨h1, _⟩ | ⟨g, cp, cur, h1, _, h3, _, _, h6, _⟩
    · simp at h1
    · simp only [Value.slice.injEq, Option.some.injEq, Addr.mk.injEq, and_true, true_and] at h1
      obtain ⟨e1, e2⟩ := h1
      subst e1
      exact ⟨cur, [], h3, by omega, rfl, by omega, by simp, by simp⟩
  have hb1 : Below w.heap.size w w1 := (Below.refl _ _).grown hgrow (Nat.le_refl _) (by simp)
  clear hown hgrow
  go_loopw [4] (fun i wr => ∃ k : Nat, k ≤ ks.length ∧ i = .int .i64 k ∧ KPart wr w.heap.size ks.length ks k (w.heap.size + 1) ∧ Below w.heap.size w wr) (fun i _ => ks.length - (intOf i).toNat)
  case atStart => exact ⟨0, Nat.zero_le _, rfl, hK0, hb1⟩
  case round =>
    obtain ⟨k, hk, rfl, hK, hbel⟩ := hrel
    clear hK0 hb1
    by_cases hlt : k < ks.length
    · have hlt' : (k : Int) < (ks.length : Int) := by omega
      have hcell : ∃ b off u, a = some ⟨b, off, none⟩ ∧ wr.cell? ⟨b, off + k, none⟩ = some u ∧ TSeg (fun b => b < N) wr u (ks.getD k []) := by
        rcases HC.out with e | ⟨b, off, e, hb, hc⟩
        · rw [e] at hlt; simp at hlt
        · obtain ⟨u, hu, ht⟩ := hc k hlt
          have ag : Agree (fun b => b < N) w wr := agree_below (hbel.mono hN)
          exact ⟨b, off, u, e, (cell_agree ag hb).trans hu, ht.agree ag⟩
      obtain ⟨b, off, u, rfl, hu, a2, c2, rfl, s2, hl2, hm2, k2, _⟩ := hcell
      have hle : (ks.getD k []).length ≤ 1048576 := by
        have := HS.out ks[k] (List.getElem_mem hlt)
        simpa [List.getD_eq_getElem?_getD, hlt] using this
      have hgw : w.heap.size < wr.heap.size := by
        obtain ⟨cur, Bs, h1, _⟩ := hK
        exact (Array.getElem?_eq_some_iff.1 h1).1
      generalize ht : ks.getD k [] = t at hu s2 hl2 hle
      have Ht : Hid (ks.getD k [] = t) := ht
      clear ht
      go_wp2_with fail
      refine (toByteS_any _ _ t _ s2 (by omega)).mono ?_
      rintro e w2 ⟨rfl, hB2, b2⟩
      have hT2 := tOwn_new hB2
      have hcells : ∃ x, w2.cell? ⟨w.heap.size, k, none⟩ = some x := by
        obtain ⟨cur, Bs, h1, h2, _⟩ := hK
        have h1' : w2.heap[w.heap.size]? = some (.cells cur 22 (0, 0)) := (b2.block _ hgw).trans h1
        rw [cell_of_row w2 _ k cur _ (0, 0) h1']
        exact ⟨_, Array.getElem?_eq_getElem (by omega)⟩
      obtain ⟨x, hx⟩ := hcells
      have hfz : w2.frozen? ⟨w.heap.size, k, none⟩ = false := by
        obtain ⟨cur, Bs, h1, h2, _⟩ := hK
        have h1' : w2.heap[w.heap.size]? = some (.cells cur 22 (0, 0)) := (b2.block _ hgw).trans h1
        exact frozen_of_row w2 _ k cur _ h1'
      obtain ⟨hK2, hg2⟩ := kPart_next hK (by omega) hlt b2 (by omega) _ wr.heap.size (by rw [Ht.out]; exact hT2) (Nat.le_refl _)
      have hb2 := Below.on hbel b2
      have hb3 := hb2.grown hg2 hb2.size (by intro j hj; simp at hj; omega)
      clear hK hbel hB2 hT2 b2 hu hg2 hb2
      go_wp2
      go_roundw
      case rel => exact ⟨k + 1, by omega, by go_num, hK2, hb3⟩
      case measure => simp [intOf]; omega
    · have hkn : k = ks.length := by omega
      have hkn' : ¬ (k : Int) < (ks.length : Int) := by omega
      rw [hkn] at hK
      clear hkn
      go_wp2
      go_ret
      obtain ⟨cur, Bs, h1, h2, h3, h4, h5, h6⟩ := hK
      have hgw := (Array.getElem?_eq_some_iff.1 h1).1
      refine ⟨_, rfl, w.heap.size :: Bs.flatten, .inr ⟨w.heap.size, ks.length, cur, Bs, rfl, h1, Nat.le_refl _, by unfold maxLen; omega, h2, h3, h4, rfl, ?_⟩, ?_, hbel⟩
      · rw [List.nodup_cons]
        exact ⟨fun hm => by have := h5 _ hm; omega, h6⟩
      · intro b hb
        rcases List.mem_cons.1 hb with rfl | hb
        · exact ⟨Nat.le_refl _, hgw⟩
        · have := h5 b hb
          omega
end Go.Proofs.YtfokidhamjphfaaDoor
