/-
  The specification's l1spoil: whatever bytes it is handed, it hands back some bytes in a row of its own, one more at most.
-/
import Derived.Test.YtlfbpmnpjbegdaaDraw3
import Derived.Deep.RegionLaw
import Derived.Deep.RegionWith
namespace Go.Proofs.Ytlfbpmnpjbegdaa
open Go.RowKit
set_option linter.unusedVariables false

/-- 'append(out, ys...)' as one step of a region that draws its order. -/
theorem step_append_seg {ops : Array Oper} {o : Oper} {a : Act} {w : World} {K : Act → World → Prop} {Q : Exit → Act → World → Prop} {E : Prop} (hgd : o.guard = none) (s x : Operand)
    (ho : o.op = .call { callee := .builtin .append, args := #[s, x], argTypes := #[22, 22] })
    (base : Nat) (v : Value) (xs ys : List Int) (hs : a.eval s = v) (hB : Bts w base v xs) (ad : Option Addr) (m c : Nat) (hm : m = ys.length) (hx : a.eval x = .slice ad m c) (hS : Seg w ad ys) (hc : ad = none → c = 0)
    (hlen : xs.length + ys.length ≤ 1099511627776) (hbase : base ≤ w.heap.size)
    (h : ∀ v' w', Bts w' base v' (xs ++ ys) → w.grownBy w' v.ownBlock → K (a.put o.dst v') w') : if Region.wanted o (yielded ops a.tmps) = true then Oper.wp Try.prog o a w K Q else E := by
  have hw : Region.wanted o (yielded ops a.tmps) = true := by simp [Region.wanted, hgd]
  rw [if_pos hw]
  obtain ⟨i0, hi, hz0, hz1, hz2⟩ := info_parts info5
  have hbyt : ∀ z ∈ xs ++ ys, Byt z := by
    intro z hz
    rcases List.mem_append.1 hz with h1 | h1
    · exact hB.1 z h1
    · exact hS.1 z h1
  subst hm
  cases ad with
  | none =>
    have hc0 := hc rfl
    have hy : ys = [] := by
      rcases hS.2 with h0 | ⟨b, off, h1, _⟩
      · exact h0
      · simp at h1
    subst hc0
    subst hy
    have hrun := run_append_owned_none (P := Try.prog) (w := w) base 22 o.type 5 i0 1 Try.underlying22 hi v xs.length (cellsOf xs) hB.2
    unfold Oper.wp
    simp only [List.length_nil] at hx
    simp [execOp, ho, resolve, invoke, builtin, hs, hx, hrun, Result.andThen]
    exact h v w (by simpa using hB) (World.grownBy.refl _ _)
  | some ad =>
    obtain ⟨v', w', hrun, r1, r2, _⟩ := run_append_own (P := Try.prog) w base 22 o.type 5 i0 (.int .u8 0) 1 1 Try.underlying22 hi hz0 hz1 hz2 rfl (by decide) v xs.length (cellsOf xs) hB.2 ad ys.length c (cellsOf ys) (by simp [cellsOf])
      (by
        intro j u hu
        rcases hS.2 with h0 | ⟨b, off, h1, h2⟩
        · subst h0; simp [cellsOf] at hu
        · simp at h1
          subst h1
          have hj : j < ys.length := by
            have := (List.getElem?_eq_some_iff.1 hu).1
            simpa [cellsOf] using this
          rw [Addr.add_lit, h2 j hj]
          simp [cellsOf, hj] at hu
          simp [hj, hu])
      (by
        intro u hu
        simp only [cellsOf, List.mem_map] at hu
        obtain ⟨q, _, rfl⟩ := hu
        rfl)
      (by unfold maxLen; omega) (by omega) hbase
    unfold Oper.wp
    simp [execOp, ho, resolve, invoke, builtin, hs, hx, hrun, Result.andThen]
    exact h v' w' ⟨hbyt, by rw [cellsOf_append]; simpa using r1⟩ r2

theorem xor_u8 (x y : Int) : Byt (bits .xor .u8 x y) := by
  unfold bits Byt
  simp only [IntKind.wrap, IntKind.bits, IntKind.signed]
  simp
  omega

/-- 'b[i+1:]' -/
theorem slice_from (w : World) (b off len cap n : Nat) (h : n ≤ len) (hc : len ≤ cap) : (Instr.slice 22 (.slice (some ⟨b, off, none⟩) len cap) (some (.int .i64 n)) none none).run Try.prog w = .ok (.slice (some (if cap = n then ⟨b, off, none⟩ else ⟨b, off + n, none⟩)) (len - n) (cap - n)) w := by
  rw [run_slice_l (P := Try.prog) w 22 _ len cap (by kernel_rfl) .i64 n (by omega) (by omega), elemSize]
  simp only [Result.andThen, sliced]
  by_cases h : cap = n
  · simp [h]
  · simp [h, Addr.add_lit]

/-- What a row's slice looks like where it holds something. -/
theorem Bts.full {w : World} {base : Nat} {v : Value} {xs : List Int} (h : Bts w base v xs) (hne : xs ≠ []) : ∃ g cap, v = .slice (some ⟨g, 0, none⟩) xs.length cap ∧ xs.length ≤ cap ∧ cap ≤ maxLen ∧ base ≤ g ∧ g < w.heap.size := by
  rcases h.2.2 with ⟨_, h0⟩ | ⟨g, cap, cur, rfl, hb, hh, hle, hm, _⟩
  · exact absurd (List.eq_nil_of_length_eq_zero h0) hne
  · exact ⟨g, cap, rfl, hle, hm, hb, (Array.getElem?_eq_some_iff.1 hh).1⟩

/-- A byte stored into a row of the call's own. -/
theorem Bts.set {w : World} {base g cap : Nat} {xs : List Int} (h : Bts w base (.slice (some ⟨g, 0, none⟩) xs.length cap) xs) (i : Nat) (c : Int) (hc : Byt c) :
    Bts (w.setCell ⟨g, i, none⟩ (.int .u8 c)) base (.slice (some ⟨g, 0, none⟩) xs.length cap) (xs.set i c) ∧ w.grownBy (w.setCell ⟨g, i, none⟩ (.int .u8 c)) (some g) := by
  have hs := h.2.stored i (.int .u8 c)
  refine ⟨⟨?_, ?_⟩, hs.2⟩
  · intro x hx
    rcases List.mem_or_eq_of_mem_set hx with h1 | h1
    · exact h.1 x h1
    · rw [h1]; exact hc
  · have e : cellsOf (xs.set i c) = (cellsOf xs).set i (.int .u8 c) := by simp [cellsOf, List.map_set]
    rw [List.length_set, e]
    exact hs.1

/-- The beginning of a row of the call's own. -/
theorem Bts.cut {w : World} {base g cap : Nat} {xs : List Int} (h : Bts w base (.slice (some ⟨g, 0, none⟩) xs.length cap) xs) (i : Nat) (hi : i ≤ xs.length) : Bts w base (.slice (some ⟨g, 0, none⟩) i cap) (xs.take i) := by
  have hl : (xs.take i).length = i := by simp; omega
  refine ⟨fun x hx => h.1 x (List.mem_of_mem_take hx), by simp [length_cellsOf], ?_⟩
  rcases h.2.2 with ⟨h1, _⟩ | ⟨g', cap', cur, h1, hb, hh, hle, hm, hsz, htake⟩
  · simp at h1
  · simp only [Value.slice.injEq, Option.some.injEq, Addr.mk.injEq, and_true, true_and] at h1
    obtain ⟨rfl, rfl⟩ := h1
    refine .inr ⟨g, cap, cur, by rw [hl], hb, hh, by omega, hm, hsz, ?_⟩
    rw [hl]
    have e : cellsOf (xs.take i) = (cellsOf xs).take i := by simp [cellsOf, List.map_take]
    rw [e, ← htake, List.take_take]
    congr 1
    omega

set_option maxHeartbeats 4000000 in
theorem l1spoil_drw (g : Nat) (a : Option Addr) (cap : Nat) (xs : List Int) (ab : Option Addr) (cb : Nat) (bs : List Int) (w : World) (h : Drw w g a cap xs) (hb : Seg w ab bs) (kb : ab = none → cb = 0) (hl : bs.length ≤ 1000) :
    Calls Try.prog 45 #[.pointer (some ⟨g, 0, none⟩), .slice ab bs.length cb] w fun e w' => ∃ v zs, e = .returned v ∧ Bts w' w.heap.size v zs ∧ zs.length ≤ bs.length + 1 ∧ Drw w' g a cap xs ∧ w.grownBy w' (some g) := by
  have hgl : g < w.heap.size := h.lt
  have hal := h.1.lt
  have hE := bts_empty w
  have b0 : Below w.heap.size w (w.alloc (.cells #[] 5)) := (Below.refl _ _).alloc (Nat.le_refl _) _
  have hS0 := hb.grow b0
  have hd0 := h.grow b0
  have hEo := hE.own
  by_cases hne : bs = []
  · subst hne
    go_enter Try.func45, Try.ntmps45
    go_wp2_with (at_builtin; refine wpList_append_seg rfl (.tmp 7) (.tmp 8) rfl w.heap.size _ [] [] rfl hE ab 0 cb rfl rfl hS0 kb (by simp) (by simp) ?_; intro v1 w1 hv1 hg1; obtain ⟨a1, c1, rfl, _, _, _, _⟩ := hv1.seg_len)
    have hG1 := grownBy_own (grownBy_below (some g) b0) hg1 hEo
    have hd1 := hd0.away hg1 (by intro e; have := hEo g e; omega) (by intro x hx he e; have h1 := hEo _ e; have h2 := hal x hx he; omega)
    have z1 := hG1.size
    clear hg1 hE hS0 b0 hd0
    refine (l1Byte_drw g a cap xs _ hd1).mono ?_
    rintro e w2 ⟨c, rfl, hc0, hc1, hd2, hg2⟩
    have hv2 := hv1.keptg hg2 hgl
    have hG2 := grownBy_trans hG1 hg2
    have z2 := hG2.size
    have hcb : Byt c := ⟨hc0, hc1⟩
    have hS3 := seg_one w2 c hcb
    have b3 : Below w2.heap.size w2 (w2.alloc (.cells #[.int .u8 c] 5)) := (Below.refl _ _).alloc (Nat.le_refl _) _
    have hv3 := hv2.grow b3
    have hd3 := hd2.grow b3
    have hG3 := grownBy_own hG2 (grownBy_below none b3) (by simp)
    have hvo := hv3.own
    clear hv2 hd2 hG2 hv1 hd1 hG1 hg2 b3
    go_wp2_with (at_builtin; refine wpList_append_seg rfl (.tmp 13) (.tmp 17) rfl w.heap.size _ [] [c] rfl hv3 (some ⟨w2.heap.size, 0, none⟩) 1 1 rfl rfl hS3 (by simp) (by simp) (by simp; omega) ?_; intro v4 w4 hv4 hg4)
    have hd4 := hd3.away hg4 (by intro e; have := hvo g e; omega) (by intro x hx he e; have h1 := hvo _ e; have h2 := hal x hx he; omega)
    have hG4 := grownBy_own hG3 hg4 hvo
    go_ret
    exact ⟨_, _, rfl, hv4, by simp, hd4, hG4⟩
  · have hpos : 0 < bs.length := List.length_pos_iff.2 hne
    have hz : ((bs.length : Int) == 0) = false := by simp; omega
    go_enter Try.func45, Try.ntmps45
    go_wp2_with (at_builtin; refine wpList_append_seg rfl (.tmp 7) (.tmp 8) rfl w.heap.size _ [] bs rfl hE ab bs.length cb rfl rfl hS0 kb (by simp; omega) (by simp) ?_; intro v1 w1 hv1 hg1; simp only [List.nil_append] at hv1; obtain ⟨gb, c1, rfl, hcc, hcm, hgb, _⟩ := hv1.full hne)
    have hG1 := grownBy_own (grownBy_below (some g) b0) hg1 hEo
    have hd1 := hd0.away hg1 (by intro e; have := hEo g e; omega) (by intro x hx he e; have h1 := hEo _ e; have h2 := hal x hx he; omega)
    clear hg1 hE hS0 b0 hd0 hEo
    unfold maxLen at hcm
    refine (l1Below_drw g a cap xs _ _ hd1 (by omega)).mono ?_
    rintro e w2 ⟨x, rfl, hx0, hx1, _, hd2, hg2⟩
    have hx2 : x < (bs.length : Int) := hx1 (by omega)
    obtain ⟨i, rfl⟩ := Int.eq_ofNat_of_zero_le hx0
    clear hx0 hx1
    have hi : i < bs.length := by omega
    have hv2 := hv1.keptg hg2 hgl
    have hG2 := grownBy_trans hG1 hg2
    clear hv1 hd1 hG1 hg2
    go_wp2_with fail
    refine (l1Below_drw g a cap xs _ _ hd2 (by omega)).mono ?_
    rintro e w3 ⟨k, rfl, hk0, hk1, _, hd3, hg3⟩
    have hk2 : k < 5 := hk1 (by omega)
    have hv3 := hv2.keptg hg3 hgl
    have hG3 := grownBy_trans hG2 hg3
    have z3 := hG3.size
    clear hv2 hd2 hG2 hg3 hk1
    have hkk : k = 0 ∨ k = 1 ∨ k = 2 ∨ k = 3 ∨ k = 4 := by omega
    clear hk0 hk2
    rcases hkk with rfl | rfl | rfl | rfl | rfl
    · have hsl := fun wx => slice_to wx (some ⟨gb, 0, none⟩) bs.length c1 i (by omega)
      go_wp2
      go_ret
      refine ⟨_, bs.take i, rfl, ?_, by simp; omega, hd3, hG3⟩
      exact hv3.cut i (by omega)
    · go_wp2_with fail
      refine (l1Byte_drw g a cap xs _ hd3).mono ?_
      rintro e w4 ⟨c, rfl, hc0, hc1, hd4, hg4⟩
      have hv4 := hv3.keptg hg4 hgl
      have hG4 := grownBy_trans hG3 hg4
      have z4 := hG4.size
      have hcb : Byt c := ⟨hc0, hc1⟩
      have hS5 := seg_one w4 c hcb
      have b5 : Below w4.heap.size w4 (w4.alloc (.cells #[.int .u8 c] 5)) := (Below.refl _ _).alloc (Nat.le_refl _) _
      have hv5 := hv4.grow b5
      have hd5 := hd4.grow b5
      have hG5 := grownBy_own hG4 (grownBy_below none b5) (by simp)
      have hvo := hv5.own
      clear hv4 hd4 hG4 hv3 hd3 hG3 hg4 b5
      go_wp2_with (at_builtin; refine wpList_append_seg rfl (.tmp 43) (.tmp 47) rfl w.heap.size _ bs [c] rfl hv5 (some ⟨w4.heap.size, 0, none⟩) 1 1 rfl rfl hS5 (by simp) (by simp; omega) (by simp; omega) ?_; intro v6 w6 hv6 hg6)
      have hd6 := hd5.away hg6 (by intro e; have := hvo g e; omega) (by intro x hx he e; have h1 := hvo _ e; have h2 := hal x hx he; omega)
      have hG6 := grownBy_own hG5 hg6 hvo
      go_ret
      exact ⟨_, _, rfl, hv6, by simp, hd6, hG6⟩
    · go_wp2_with fail
      refine (l1Byte_drw g a cap xs _ hd3).mono ?_
      rintro e w4 ⟨c, rfl, hc0, hc1, hd4, hg4⟩
      have hv4 := hv3.keptg hg4 hgl
      have hG4 := grownBy_trans hG3 hg4
      have hcb : Byt c := ⟨hc0, hc1⟩
      have hcell : ∃ u, w4.cell? ⟨gb, i, none⟩ = some u := by
        rw [hv4.2.cellAt i (by omega)]
        exact ⟨_, List.getElem?_eq_getElem (by rw [length_cellsOf]; omega)⟩
      obtain ⟨u, hu⟩ := hcell
      have hfz := hv4.2.frozenAt i
      obtain ⟨hv5, hg5⟩ := hv4.set i c hcb
      have hd5 := hd4.away hg5 (by simp; omega) (by intro x hx he e; simp at e; have h2 := hal x hx he; omega)
      have hG5 := grownBy_own hG4 hg5 (by intro j hj; simp at hj; omega)
      clear hv4 hd4 hG4 hv3 hd3 hG3 hg4 hg5
      go_wp2
      go_ret
      exact ⟨_, _, rfl, by simpa using hv5, by simp, hd5, hG5⟩
    · have hsl1 := fun wx => slice_to wx (some ⟨gb, 0, none⟩) bs.length c1 i (by omega)
      have b4 : Below w3.heap.size w3 (w3.alloc (.cells #[] 5)) := (Below.refl _ _).alloc (Nat.le_refl _) _
      have hE4 := bts_empty w3
      have hEo := hE4.own
      have hv4 := hv3.grow b4
      have hd4 := hd3.grow b4
      have hG4 := grownBy_own hG3 (grownBy_below none b4) (by simp)
      have hT4 : Seg (w3.alloc (.cells #[] 5)) (some ⟨gb, 0, none⟩) (bs.take i) := seg_take hv4.seg i
      have hltv := (hv3.lt _ rfl).2
      have hlt3 : gb < w3.heap.size := hltv
      have HT := hide (show i = (bs.take i).length by simp; omega)
      have HD := hide (show bs.length - (i + 1) = ((bs.drop (i + 1)).take (bs.length - (i + 1))).length by simp)
      have Hs1 := hide (show ([] : List Int).length + (bs.take i).length ≤ 1099511627776 by simp; omega)
      have Hs2 := hide (show (bs.take i).length + ((bs.drop (i + 1)).take (bs.length - (i + 1))).length ≤ 1099511627776 by simp; omega)
      have Hs3 := hide (show (bs.take i ++ (bs.drop (i + 1)).take (bs.length - (i + 1))).length ≤ bs.length + 1 by simp; omega)
      have hbnd : (0 : Int) ≤ (i : Int) ∧ (i : Int) + 1 ≤ (bs.length : Int) := by omega
      obtain ⟨hbn0, hbn1⟩ := hbnd
      have hcut := seg_cut (j := i + 1) (s := bs.length - (i + 1)) (cap := c1) hv4.seg (by omega) hcc
      obtain ⟨A2, hA2, hsl2, hcut2⟩ : ∃ A2 : Addr, A2.block = gb ∧ (∀ wx : World, (Instr.slice 22 (.slice (some ⟨gb, 0, none⟩) bs.length c1) (some (.int .i64 ((i : Int) + 1))) none none).run Try.prog wx = .ok (.slice (some A2) (bs.length - (i + 1)) (c1 - (i + 1))) wx) ∧ Seg (w3.alloc (.cells #[] 5)) (some A2) ((bs.drop (i + 1)).take (bs.length - (i + 1))) := by
        refine ⟨_, ?_, fun wx => ?_, hcut⟩
        · split <;> rfl
        · have := slice_from wx gb 0 bs.length c1 (i + 1) (by omega) hcc
          rw [show (((i + 1 : Nat) : Int)) = (i : Int) + 1 from by omega] at this
          exact this
      clear hcut
      have hwr : IntKind.i64.wrap ((i : Int) + 1) = (i : Int) + 1 := by rw [IntKind.wrap_i64]; omega
      have b4d : Below w3.heap.size w3 (w3.alloc (.cells #[] 5)).drew := b4.drew
      have hE4d : Bts (w3.alloc (.cells #[] 5)).drew w3.heap.size (.slice (some ⟨w3.heap.size, 0, none⟩) 0 0) [] := hE4
      have hT4d : Seg (w3.alloc (.cells #[] 5)).drew (some ⟨gb, 0, none⟩) (bs.take i) := hT4
      have hC4d : Seg (w3.alloc (.cells #[] 5)).drew (some A2) ((bs.drop (i + 1)).take (bs.length - (i + 1))) := hcut2
      have hd4d : Drw (w3.alloc (.cells #[] 5)).drew g a cap xs := hd3.grow b4d
      have hG4d := grownBy_own hG3 (grownBy_below none b4d) (by simp)
      have HEo := hide hEo
      clear hE4 hT4 hcut2 hd4 hG4 hv4 b4 b4d hv3 hd3 hG3 hEo
      go_wp2_with fail
      go_region_law (first
        | (refine step_append_seg (by rfl) (.tmp 59) (.tmp 62) (by rfl) w3.heap.size _ [] (bs.take i) (by rfl) hE4d (some ⟨gb, 0, none⟩) i c1 (unhide HT) (by rfl) hT4d (by simp) (unhide Hs1) (by simp) ?_; intro v5 w5 hv5 hg5; have hC5 := hC4d.away hg5 (by intro x hx he e; simp at hx; subst hx; have h1 := unhide HEo _ e; omega); have hd5 := hd4d.away hg5 (by intro e; have h1 := unhide HEo _ e; omega) (by intro x hx he e; have h1 := unhide HEo _ e; have h2 := hal x hx he; omega); have hG5 := grownBy_own hG4d hg5 (by intro j e; have h1 := unhide HEo _ e; omega); have hz5 := hG5.size; have hz5' : w3.heap.size ≤ w5.heap.size := Nat.le_trans (by simp) hg5.size; simp only [List.nil_append] at hv5; have hvo5 := hide hv5.own; clear hg5)
        | (refine step_append_seg (by rfl) (.tmp 63) (.tmp 67) (by rfl) w3.heap.size _ (bs.take i) ((bs.drop (i + 1)).take (bs.length - (i + 1))) (by rfl) hv5 (some A2) (bs.length - (i + 1)) (c1 - (i + 1)) (unhide HD) (by rfl) hC5 (by simp) (unhide Hs2) hz5' ?_; intro v6 w6 hv6 hg6; have hd6 := hd5.away hg6 (by intro e; have h1 := unhide hvo5 _ e; omega) (by intro x hx he e; have h1 := unhide hvo5 _ e; have h2 := hal x hx he; omega); have hG6 := grownBy_own hG5 hg6 (by intro j e; have h1 := unhide hvo5 _ e; omega); clear hg6))
      all_goals
        go_wp2
        go_ret
        exact ⟨_, _, rfl, hv6.mono z3, unhide Hs3, hd6, hG6⟩
    · have hcell : ∃ u, w3.cell? ⟨gb, i, none⟩ = some (.int .u8 u) := by
        rw [hv3.2.cellAt i (by omega)]
        exact ⟨bs.getD i 0, by simp [cellsOf, hi]⟩
      obtain ⟨u, hu⟩ := hcell
      have hib : (i : Int) < (bs.length : Int) := by omega
      have hgne : gb ≠ g := by omega
      have hd3d : Drw w3.drew g a cap xs := hd3
      have hv3d : Bts w3.drew w.heap.size (.slice (some ⟨gb, 0, none⟩) bs.length c1) bs := hv3
      have hG3d : w.grownBy w3.drew (some g) := ⟨hG3.os, hG3.tape, hG3.output, hG3.size, hG3.block⟩
      clear hd3 hv3 hG3
      go_wp2_with fail
      go_region_with (go_at_call 44; refine (l1Below_drw g a cap xs _ _ hd3d (by omega)).mono ?_; rintro e w4 ⟨y, rfl, hy0, hy1, _, hd4, hg4⟩; have hy2 : y < 8 := hy1 (by omega); have hv4 := hv3d.keptg hg4 hgl; have hG4 := grownBy_trans hG3d hg4; have hu4 : w4.cell? ⟨gb, i, none⟩ = some (.int .u8 u) := hg4.cell (by simpa using hu) (by simpa using hgne); have hf4 := hv4.2.frozenAt i)
      all_goals
        go_wp2
        go_ret
        refine ⟨_, _, rfl, by simpa using (hv4.set i _ (xor_u8 _ _)).1, by simp, ?_, ?_⟩
        · exact hd4.away (hv4.set i _ (xor_u8 _ _)).2 (by simp; omega) (by intro x hx he e; simp at e; have h2 := hal x hx he; omega)
        · exact grownBy_own hG4 (hv4.set i _ (xor_u8 _ _)).2 (by intro j hj; simp at hj; omega)
end Go.Proofs.Ytlfbpmnpjbegdaa
