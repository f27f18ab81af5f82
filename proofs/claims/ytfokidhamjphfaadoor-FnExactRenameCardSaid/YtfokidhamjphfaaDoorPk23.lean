/-
  Texts that a law leans on, one behind the other; no statement is proved here.
-/
import Derived.Test.YtfokidhamjphfaaDoorPk18
import Derived.Test.YtfokidhamjphfaaDoorPk5
import Derived.Test.YtfokidhamjphfaaDoorPk17
import Derived.Test.YtfokidhamjphfaaDoorPk22
/-
  l4ownAddrs of the specification at whatever keys; an append to a literal that was just made; what stands while l6ownExpr makes its copy. No statement is proved here.
-/
namespace Go.Proofs.YtfokidhamjphfaaDoor
open Go.RowKit
set_option linter.unusedVariables false
set_option linter.unusedSimpArgs false

set_option maxHeartbeats 2000000 in
set_option maxRecDepth 100000 in
theorem ownKeys_any (N : Nat) (x : Value) (ks : List (List Int)) (w : World) (hx : KSeg (fun b => b < N) w x ks) (hN : N ≤ w.heap.size) (hl : ks.length ≤ 1048576) (hl1 : ∀ i, i < ks.length → (ks.getD i []).length ≤ 1048576) :
    Calls Tryd.prog 67 #[x] w fun e w' => ∃ u, e = .returned u ∧ ∃ B, KOwn w' u ks B ∧ (∀ b ∈ B, w.heap.size ≤ b ∧ b < w'.heap.size) ∧ Below w.heap.size w w' := by
  obtain ⟨iT, hiT, hy0, hy1, hy2⟩ := info_parts infoT
  have HX := hide' hx
  have HL := hide' hl1
  obtain ⟨xa, xc, rfl, _, _, _, _⟩ := hx
  clear hl1
  go_enter Tryd.func67, Tryd.ntmps67
  go_wp2
  go_loopw [3, 4] (fun x i wr => ∃ k : Nat, k ≤ ks.length ∧ i = .int .i64 k ∧ ∃ cs Bi, RW 22 1 (ItK ks) wr w.heap.size x k cs Bi ∧ Below w.heap.size w wr) (fun _ i _ => ks.length - (intOf i).toNat)
  case atStart => exact ⟨0, Nat.zero_le _, rfl, _, _, RW.nil _ _ _ _ _, Below.refl _ _⟩
  case round =>
    obtain ⟨k, hk, rfl, cs, Bi, hR, hbel⟩ := hrel
    have hsz := hbel.size
    have hvK : ∃ p c, u3 = .slice p k c := by
      rcases hR.2.2.1.2 with ⟨rfl, h0⟩ | ⟨g, cap, cur, rfl, _⟩
      · exact ⟨none, 0, by rw [h0]⟩
      · exact ⟨_, _, rfl⟩
    obtain ⟨pK, cK, rfl⟩ := hvK
    by_cases hkn : k < ks.length
    · have hkn' : (k : Int) < (ks.length : Int) := by omega
      have hk0 : (0 : Int) ≤ (k : Int) := Int.natCast_nonneg _
      have hat : ∃ (g off : Nat) (ua : Option Addr) (uc : Nat), xa = some ⟨g, off, none⟩ ∧ g < N ∧ w.cell? ⟨g, off + k, none⟩ = some (.slice ua (ks.getD k []).length uc) ∧ TSeg (fun b => b < N) w (.slice ua (ks.getD k []).length uc) (ks.getD k []) := by
        obtain ⟨a', cap', e, _, _, _, h0 | ⟨b, off, rfl, hb, hc⟩⟩ := HX.out
        · rw [h0] at hkn; simp at hkn
        · simp only [Value.slice.injEq, true_and] at e
          obtain ⟨rfl, rfl⟩ := e
          obtain ⟨u, hu, hT⟩ := hc k hkn
          have hT' := hT
          obtain ⟨ua, uc, rfl, _⟩ := hT'
          exact ⟨b, off, ua, uc, rfl, hb, hu, hT⟩
      obtain ⟨g, off, ua, uc, rfl, hgl, hcu, hT⟩ := hat
      have hlk := HL.out k hkn
      obtain ⟨_, _, eT, hsu, _, _, hnu, hRu⟩ := hT
      simp only [Value.slice.injEq] at eT
      obtain ⟨rfl, _, rfl⟩ := eT
      have hBa : Below w.heap.size w (wr.alloc (.cells #[] 5)) := hbel.alloc (by omega) _
      have hcu' : (wr.alloc (.cells #[] 5)).cell? ⟨g, off + k, none⟩ = some (.slice ua (ks.getD k []).length uc) := (World.cell?_of_block (hBa.block g (by omega))).trans hcu
      have hsu' : Seg (wr.alloc (.cells #[] 5)) ua (ks.getD k []) := hsu.below hBa fun x hx hne => by have := hRu x hx hne; omega
      have hE : Bts (wr.alloc (.cells #[] 5)) wr.heap.size (.slice (some ⟨wr.heap.size, 0, none⟩) 0 0) [] := ⟨by simp, by simp [cellsOf], .inr ⟨wr.heap.size, 0, #[], rfl, Nat.le_refl _, heap_alloc_new wr _, Nat.le_refl _, Nat.zero_le _, rfl, rfl⟩⟩
      have HR := hide' (And.intro hR hbel)
      have hBe : Hid (Below wr.heap.size wr (wr.alloc (.cells #[] 5))) := (Below.refl _ _).alloc (Nat.le_refl _) _
      have Hv : Hid (∀ w5, Below wr.heap.size wr w5 → w5.ownsRow w.heap.size 22 1 (.slice pK k cK) k cs.flatten) := fun w5 hb5 => hR.2.2.1.kept (row := none) ⟨hb5.os, hb5.tape, hb5.output, hb5.size, fun k hk _ => hb5.block k hk⟩ (by cases hv : (Value.slice pK k cK).ownBlock <;> simp)
      generalize hks : ks.getD k [] = xs at *
      have Hks := hide' hks
      generalize hnk : xs.length = nk at *
      clear hR hbel hBa hcu hsu hks hRu
      go_wp2_with (at_builtin; first
        | (refine wpList_append_seg rfl (.tmp 12) (.tmp 16) (by rfl) wr.heap.size (.slice (some ⟨wr.heap.size, 0, none⟩) 0 0) [] xs (by rfl) hE ua nk uc hnk.symm (by rfl) hsu' hnu (by simp; omega) (by simp) ?_; intro v5 w5 hv5 hg5; rw [List.nil_append] at hv5; have hb5 := hide' (hBe.out.grown hg5 (by simp) (by intro j hj; simp [Value.ownBlock] at hj; omega)); obtain ⟨a5, c5, h5, _⟩ := hv5.shape; rw [hnk] at h5; subst h5; replace hv5 := hide' hv5; clear hg5 hE hsu')
        | (refine wpList_append_lies _ rfl (.tmp 11) (.tmp 18) 23 (by rfl) w.heap.size 22 iT (.slice none 0 0) 1 24 Tryd.underlying23 hiT hy0 hy1 hy2 rfl (by decide) (.slice pK k cK) k cs.flatten (by rfl) ((Hv.out w5 hb5.out).alloc _) ⟨w5.heap.size, 0, none⟩ 1 1 [.slice a5 nk c5] (by rfl) (by rfl) (World.news_of_block (cs := #[.slice a5 nk c5]) (t := 22) (fr := (0, 0)) (heap_alloc_new w5 _)) (by simp [Value.oneCell']) (by omega) (by unfold maxLen; omega) (by omega) (by have := hb5.out.size; simp; omega) (w5.heap.size + 1) (by simp) ?_; intro g6 cp6 w6 hown6 hg6 hat6 hlt6; obtain ⟨cs', Bi', hR6, hB6⟩ := rwk_step HR.out.1 HR.out.2 hb5.out (by rw [Hks.out]; exact hv5.out) hown6 hg6 hat6; replace hR6 := hide' hR6; replace hB6 := hide' hB6; clear hown6 hg6 hat6 hlt6))
      go_wp2
      go_roundw
      case rel => exact ⟨k + 1, by omega, by go_num, _, _, hR6.out, hB6.out⟩
      case measure => simp [intOf]; omega
    · have hkn' : k = ks.length := by omega
      subst hkn'
      have hkl' : ¬ (ks.length : Int) < (ks.length : Int) := by omega
      have HR := hide' (And.intro hR hbel)
      clear hR hbel
      go_wp2_with fail
      go_ret
      have hbd := HR.out.1.2.2.2.2.2
      exact ⟨_, rfl, _, HR.out.1.kown, fun b hb => by have := hbd b hb; omega, HR.out.2⟩

/-- 'append([]byte{}, s...)', the literal made some time ago. -/
theorem run_append_lit (V : World) (ty : TypeId) (q : Nat) (hq : V.heap[q]? = some (.cells #[] 5 (0, 0))) (a : Option Addr) (c : Nat) (xs : List Int) (ha : Seg V a xs) (hc : a = none → c = 0) (hl : xs.length ≤ 1048576) :
    ∃ (x : Value) (w' : World), (Builtin.append_ #[22, 22] ty #[.slice (some ⟨q, 0, none⟩) 0 0, .slice a xs.length c]).run Tryd.prog V = .ok x w' ∧ ((x = .slice (some ⟨q, 0, none⟩) 0 0 ∧ w' = V ∧ xs = []) ∨ ∃ (cap : Nat) (cur : Array Value), x = .slice (some ⟨V.heap.size, 0, none⟩) xs.length cap ∧ w' = V.drew.alloc (.cells cur 5)) ∧ (∃ g, TOwn w' x xs [g] ∧ (g = q ∨ g = V.heap.size)) := by
  obtain ⟨i, hi, hz0, hz1, hz2⟩ := info_parts info5
  by_cases h0 : xs = []
  · subst h0
    refine ⟨_, V, ?_, .inl ⟨rfl, rfl, rfl⟩, q, ⟨⟨by simp, rfl, .inr ⟨q, 0, #[], (0, 0), rfl, hq, .inl rfl, Nat.le_refl _, Nat.zero_le _, rfl, rfl⟩⟩, .inr ⟨q, 0, rfl, rfl⟩⟩, .inl rfl⟩
    cases a with
    | none => simp [Builtin.append_, run_underlying Tryd.underlying22, sizeOf, typeInfo, hi, Builtin.lenOf, Builtin.firstCells, storeCells, hc rfl]
    | some ad =>
      have hf := run_firstCells_some (P := Tryd.prog) V i.size 0 ad 0 c [] (by simp) (fun j u hu => by simp at hu)
      simp [Builtin.append_, run_underlying Tryd.underlying22, sizeOf, typeInfo, hi, Builtin.lenOf, hf, storeCells]
  · obtain ⟨hb, h1 | ⟨b, off, rfl, hcell⟩⟩ := ha
    · exact absurd h1 h0
    · have hpos : 0 < xs.length := List.length_pos_iff.2 h0
      have hS : Sli 0 0 5 1 (fun g => g = q) V (.slice (some ⟨q, 0, none⟩) 0 0) := ⟨_, 0, 0, rfl, Nat.le_refl _, Nat.le_refl _, Nat.zero_le _, .inr ⟨q, #[], (0, 0), rfl, Nat.zero_le _, rfl, hq, rfl⟩⟩
      have hr := run_append_grow (P := Tryd.prog) V 22 ty 5 i (.int .u8 0) Tryd.underlying22 hi hz0 ⟨q, 0, none⟩ 0 0 [] (by simp) (fun j u hu => by simp at hu) ⟨b, off, none⟩ xs.length c (cellsOf xs) (by rw [hz1, length_cellsOf]; omega) (fun j u hu => by
          have hj := (List.getElem?_eq_some_iff.1 hu).1
          rw [length_cellsOf] at hj
          rw [Addr.add_lit, hcell j hj, ← hu]
          simp [cellsOf, hj]) (by omega) (by omega) (growslice_fits (by omega) (by rw [hz2]; omega))
      have hge := grownCap_ge V (0 + xs.length) 0 5
      have hle := grownCap_le_maxLen V (0 + xs.length) 0 5 (by unfold maxLen; omega)
      rw [Nat.zero_add] at hr hge hle
      refine ⟨_, _, hr, .inr ⟨_, _, rfl, rfl⟩, V.heap.size, ⟨⟨hb, by simp [cellsOf], .inr ⟨V.heap.size, _, _, (0, 0), rfl, heap_alloc_new V.drew _, .inl rfl, hge, hle, ?_, ?_⟩⟩, .inr ⟨_, _, rfl, rfl⟩⟩, .inr rfl⟩
      · simp only [Array.size_append, List.size_toArray, size_zeroCells, length_cellsOf]
        simp [Value.cells]
        omega
      · simp only [Array.toList_append, List.toList_toArray, List.nil_append]
        rw [List.take_append_of_le_length (by rw [length_cellsOf]; exact Nat.le_refl _)]
        exact List.take_of_length_le (by rw [length_cellsOf]; exact Nat.le_refl _)
end Go.Proofs.YtfokidhamjphfaaDoor
