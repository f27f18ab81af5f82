/-
  Texts that a law leans on, one behind the other; no statement is proved here.
-/
import Derived.Test.YthnkedbmfhokiaaGreatDoorPk33
/-
  holds of the program's reader, at a map. No statement is proved here.
-/
namespace Go.Proofs.YthnkedbmfhokiaaGreatDoor
open Go.RowKit
set_option linter.unusedVariables false
set_option linter.unusedSimpArgs false

set_option maxHeartbeats 51200000 in
set_option maxRecDepth 100000 in
theorem reader_holds_5 (dp : Nat) (ih : RiAt dp) (xs : List Int) (g B : Nat) (a : Option Addr) (cap : Nat) (p q : Int) (kd : Int) (w : World) (h : RdC 49 xs w g a cap p q) (hgB : g < B) (hBw : B < w.heap.size) (hq0 : 1 ≤ q) (hq1 : q ≤ 40) (hqd : 40 - q ≤ dp) (hk : kd = 5)
    (hB : w.heap[B]? = some (.cells #[.int .i64 kd, .int .i64 0, .slice none 0 0, .slice none 0 0, .slice none 0 0] 26 (0, 0))) :
    Calls Tryz.prog 47 #[.pointer (some ⟨g, 0, none⟩), .pointer (some ⟨B, 0, none⟩)] w (HldEnd xs g a cap dp B kd (rdK (fun a l => rdV xs dp a l) xs (decide (kd = 5)) (getNum xs p).1.toNat [] [] (getNum xs p).2 (40 - q)) w) := by
  have hby := h.2.1.1
  have hpN : 0 < (getNum xs p).1 → 0 ≤ (getNum xs p).2 := fun h0 => by
    rcases getNum_fits xs p hby with e | ⟨_, _, j, hj, _⟩
    · rw [e] at h0; simp at h0
    · rw [hj]; omega
  obtain ⟨i0, hi, hy0, hy1, hy2⟩ := info_parts info_valueT
  obtain ⟨iT, hiT, hx0, hx1, hx2⟩ := info_parts infoT
  have hn0 := get_at xs p hby
  have HL := hide' (reader_num_any xs g a cap p q w h)
  have HB0 := hide' hB
  unfold NumEnd at HL
  clear h hB
  subst hk
  · rw [show decide ((5 : Int) = 5) = true from rfl]
    generalize (getNum xs p).1 = nn at *
    generalize (getNum xs p).2 = p2 at *
    obtain ⟨N, rfl⟩ : ∃ N : Nat, nn = N := ⟨nn.toNat, by omega⟩
    rw [Int.toNat_natCast]
    generalize hfin : rdK (fun a l => rdV xs dp a l) xs true N [] [] p2 (40 - q) = fin at *
    have HFin := hide' hfin
    clear hfin
    go_enter Tryz.func47, Tryz.ntmps47
    go_wp2_with fail
    refine HL.out.mono ?_
    rintro e w1 ⟨rfl, hc1, hg1⟩
    have HB1 := hide' ((hg1.block B hBw (by simp; omega)).trans HB0.out)
    have HG1 := hide' hg1
    have HC1 := hide' hc1
    have HBz := hide' (Nat.lt_of_lt_of_le hBw hg1.size)
    have HpN : Hid (0 < N → 0 ≤ p2) := hide' (fun h => hpN (by omega))
    clear HL HB0 hc1 hg1 hpN
    go_wp2_with fail
    go_loopw [6] (fun i wr => ∃ k : Nat, k ≤ N ∧ i = .int .i64 k ∧ ∃ K L p' q' pK cK csK BiK pL cL csL BiL, Hid (RTt xs g a cap dp w1 B 5 q true N k fin K L p' q' wr pK cK csK BiK pL cL csL BiL)) (fun i _ => N - (intOf i).toNat)
    case atStart => exact ⟨0, Nat.zero_le _, rfl, [], [], p2, q, none, 0, [], [], none, 0, [], [], hide' ⟨⟨⟨rfl, rfl, rfl, Nat.le_refl _, fun _ _ _ _ => rfl⟩, HB1.out, RW.nil _ _ _ _ _, RW.nil _ _ _ _ _, by simp [Value.ownBlock], by simp [Value.ownBlock], Nat.le_refl _, HC1.out, by omega, HBz.out⟩, Nat.le_refl _, Nat.le_refl _, by omega, by omega, by omega, HpN.out, HFin.out⟩⟩
    case round =>
      obtain ⟨k, hk, rfl, K, L, p', q', pK, cK, csK, BiK, pL, cL, csL, BiL, hS⟩ := hrel
      have HI := hide' hS.out.1
      obtain ⟨-, hKk, hLk, hqa, hqb, hqp, hpk, hrest⟩ := hS.out
      have HRs := hide' hrest
      clear hrest hS
      obtain ⟨v0, v1, v2, v3, v4, vf⟩ := row5 HI.out.2.1
      have HzI := hide' HI.out.1.2.2.2.1
      by_cases hlt : k < N
      · have hlt' : (k : Int) < (N : Int) := by omega
        have hp' : 0 ≤ p' := hpk hlt
        have HRs := hide' ((rdK_more _ xs true N k K L p' (40 - q') hlt (by omega)).symm.trans HRs.out)
        simp only [if_true] at HRs
        have hq40 : q' ≤ 40 := by omega
        have hpl : -1 ≤ p' ∧ p' ≤ xs.length := HI.out.2.2.2.2.2.2.2.1.2.2.2.2.2.2
        have HT : Hid (∀ wy : World, wy.heap = wr.heap → wy.os = wr.os → wy.tape = wr.tape → wy.output = wr.output → Calls Tryz.prog 46 #[.pointer (some ⟨g, 0, none⟩)] wy (TokEnd 49 xs g a cap p' q' wr)) := hide' (fun wy e0 e1 e2 e3 => (reader_text_any xs g a cap p' q' wy (HI.out.2.2.2.2.2.2.2.1.heap e0)).mono fun e w' hh => tok_from hh.tok e0 e1 e2 e3)
        generalize htv : getText xs p' = tp at *
        obtain ⟨tx, p3⟩ := tp
        have hTok : ∀ e wx, TokEnd 49 xs g a cap p' q' wr e wx → ∃ ua un uc, e = .returned (.slice ua un uc) ∧ (∃ B, TOwn wx (.slice ua un uc) tx B ∧ (∀ b ∈ B, wr.heap.size ≤ b ∧ b < wx.heap.size) ∧ B.Nodup) ∧ RdC 49 xs wx g a cap p3 q' ∧ wr.grownBy wx (some g) := fun e wx hh => by unfold TokEnd at hh; rw [htv] at hh; exact hh
        replace HT : Hid (∀ wy : World, wy.heap = wr.heap → wy.os = wr.os → wy.tape = wr.tape → wy.output = wr.output → Calls Tryz.prog 46 #[.pointer (some ⟨g, 0, none⟩)] wy fun e wx => ∃ ua un uc, e = .returned (.slice ua un uc) ∧ (∃ B, TOwn wx (.slice ua un uc) tx B ∧ (∀ b ∈ B, wr.heap.size ≤ b ∧ b < wx.heap.size) ∧ B.Nodup) ∧ RdC 49 xs wx g a cap p3 q' ∧ wr.grownBy wx (some g)) := hide' (fun wy e0 e1 e2 e3 => (HT.out wy e0 e1 e2 e3).mono hTok)
        have hp3 := (text_at xs p' hby)
        rw [htv] at hp3
        simp only at HRs hp3
        clear hTok htv
        go_upto_region 3 with fail
        go_cut [6] from 13 to 23 (fun s6 wx => s6 = .int .i64 k ∧ ∃ pK cK csK BiK, Hid (RInv 49 xs g a cap w1 B (dp + 1) 5 (K ++ [tx]) L p3 q' wx.heap.size wx (.slice pK (K ++ [tx]).length cK) csK BiK (.slice pL L.length cL) csL BiL))
        case first =>
          clear HFin HRs
          go_region_law (first | (go_simp; go_at_call 46; refine (HT.out _ (by rfl) (by rfl) (by rfl) (by rfl)).mono ?_; rintro e w5 ⟨ua, un, uc, rfl, ⟨Bv, hv5, hBv, hBn⟩, hd5, hg5⟩; have I5 := hide' (HI.out.on hg5 hd5); obtain ⟨_, _, _, t3, _, _⟩ := row5 I5.out.2.1; obtain ⟨_, _, _, t3o, _, _⟩ := box_later I5.out.2.1; have hv5 := hide' hv5; have hz5 := hide' (hg5.size); clear hd5 hg5) | (refine step_append_lies _ (by rfl) (.tmp 17) (.tmp 20) 23 (by rfl) w1.heap.size 22 iT _ 1 24 Tryz.underlying23 hiT hx0 hx1 hx2 rfl (by decide) (.slice pK K.length cK) K.length csK.flatten (by rfl) (by first | exact (I5.out.alloc _).2.2.1.2.2.1 | exact ((I5.out.alloc _).same (by rfl) (by rfl) (by rfl) (by rfl)).2.2.1.2.2.1) ⟨w5.heap.size, 0, none⟩ 1 1 [.slice ua un uc] (by rfl) (by rfl) (World.news_of_block (cs := #[.slice ua un uc]) (t := 22) (fr := (0, 0)) (heap_alloc_new w5 _)) (by simp [Value.oneCell']) (by omega) (by unfold maxLen; omega) (by omega) (by have := hz5.out; have := HzI.out; simp; omega) (w5.heap.size + 1) (by simp) ?_; intro g6 cp6 w6 hown6 hg6 hat6 hlt6; obtain ⟨hV6, hI6⟩ := rinv_k ((I5.out.alloc _).same (by rfl) (by rfl) (by rfl) (by rfl)) (hv5.out.agree fun b hb => Below.heap_alloc w5 _ b (hBv b hb).2) (fun b hb => by have h1 := hBv b hb; have h2 := HzI.out; have h3 := hz5.out; refine ⟨h1.1, by omega, ?_⟩; exact Nat.lt_of_lt_of_le h1.2 (by simp)) hBn hown6 hg6 (by simpa using hat6); obtain ⟨_, _, _, hc6, _, hf6⟩ := row5 hV6; replace hf6 := hf6 3; replace hI6 := hide' hI6; clear hown6 hg6 hat6 hlt6 hV6 t3 t3o hBv hBn) | fail)
          all_goals (clear HI HT)
          all_goals go_wp2
          all_goals go_meet
          all_goals exact ⟨rfl, _, _, _, _, hide' (by simpa using hI6.out)⟩
        case rest =>
        obtain ⟨rfl, pK, cK, csK, BiK, HI⟩ := hcut
        obtain ⟨wt, hwt⟩ : ∃ wt, wt = wc := ⟨_, rfl⟩
        subst hwt
        clear HT v0 v1 v2 v3 v4 vf HzI
        have HI := hide' HI.out
        obtain ⟨v0, v1, v2, v3, v4, vf⟩ := row5 HI.out.2.1
        have HzI := hide' HI.out.1.2.2.2.1
        have HE : Hid (∀ (V wy : World), RdC 49 xs V g a cap p3 q' → wy.heap = V.heap → wy.os = V.os → wy.tape = V.tape → wy.output = V.output → Calls Tryz.prog 21 #[.pointer (some ⟨g, 0, none⟩)] wy (RdEnd 49 xs g a cap V (dp + 1) (rdV xs dp p3 (40 - q')).1 (rdV xs dp p3 (40 - q')).2.1 (40 - (rdV xs dp p3 (40 - q')).2.2))) := hide' (fun V wy hc e0 e1 e2 e3 => (ih xs g a cap p3 q' wy (hc.heap e0) (by omega) hq40 (by omega)).mono fun e w' hh => rd_from hh e0 e1 e2 e3)
        have hrl := rd_left xs dp p3 (40 - q') (by omega)
        generalize hrv : rdV xs dp p3 (40 - q') = rv at *
        obtain ⟨tv, p5, l5⟩ := rv
        simp only at HE HRs hrl
        clear hrv
        obtain ⟨q5, rfl⟩ : ∃ q5, l5 = 40 - q5 := ⟨40 - l5, by omega⟩
        rw [show (40 : Int) - (40 - q5) = q5 by omega] at HE
        have hqi : (L.length : Int) < (L.length : Int) + 1 := by omega
        have hql0 : (0 : Int) ≤ (L.length : Int) := by omega
        have hqw : IntKind.i64.wrap (L.length : Int) = (L.length : Int) := by rw [IntKind.wrap_i64]; omega
        have hfl : csL.flatten.length = L.length * 5 := HI.out.2.2.2.1.2.2.1.1
        have hL9 : L.length ≤ 2147483647 := by omega
        go_upto_region 4 with fail

        go_cut [6] from 24 to 35 (fun s6 wx => s6 = .int .i64 k ∧ ∃ pL cL csL BiL, Hid (RInv 49 xs g a cap w1 B (dp + 1) 5 (K ++ [tx]) (L ++ [tv]) p5 q5 wx.heap.size wx (.slice pK (K ++ [tx]).length cK) csK BiK (.slice pL (L ++ [tv]).length cL) csL BiL))
        case first =>
          clear HFin HRs v0 v1 v2 v3 v4 vf
          have HI0 := hide' (HI.out.same (w5 := wt.drew) (by rfl) (by rfl) (by rfl) (by rfl))
          refine wp_region_held_drew (S := fun _ => True) (by kernel_rfl) trivial (fun hHeld => ?_)
          clear HI HzI
          generalize hNv : wt.heap.size = NV at HI0
          clear hNv
          generalize wt.drew = V0 at *
          refine tkY 0 24 hHeld ?_
          (try simp only [Act.put, List.setIfInBounds_toArray, List.set_cons_zero, List.set_cons_succ])
          refine tkY 1 25 hHeld ?_
          (try simp only [Act.put, List.setIfInBounds_toArray, List.set_cons_zero, List.set_cons_succ])
          refine tkY 2 26 hHeld ?_
          (try simp only [Act.put, List.setIfInBounds_toArray, List.set_cons_zero, List.set_cons_succ])
          refine tkY 4 28 hHeld ?_
          (try simp only [Act.put, List.setIfInBounds_toArray, List.set_cons_zero, List.set_cons_succ])
          have HIc := HI0
          clear HI0
          refine wpAnyH_ready (rs := [3, 5, 7]) (by kernel_rfl) (by simp) ?_
          refine AllReadyH.cons rfl (fun K hK => ?_) (AllReadyH.cons rfl (fun K hK => ?_) (AllReadyH.cons rfl (fun K hK => ?_) AllReadyH.nil))
          focus
            obtain ⟨_, _, _, _, t4, _⟩ := row5 HIc.out.2.1
            go_simp
            refine hK.out _ _ trivial (fun hHeld => ?_)
            clear hK t4
            (try simp only [Act.put, List.setIfInBounds_toArray, List.set_cons_zero, List.set_cons_succ])
            refine tkY 6 30 hHeld ?_
            (try simp only [Act.put, List.setIfInBounds_toArray, List.set_cons_zero, List.set_cons_succ])
            refine wpAnyH_ready (rs := [5, 7]) (by kernel_rfl) (by simp) ?_
            refine AllReadyH.cons rfl (fun K hK => ?_) (AllReadyH.cons rfl (fun K hK => ?_) AllReadyH.nil)
            focus
              go_simp
              go_at_call 21
              refine (HE.out V0 _ HIc.out.2.2.2.2.2.2.2.1 (by rfl) (by rfl) (by rfl) (by rfl)).mono ?_
              rintro e w5 ⟨uk, un, s2, n2, r2, s3, n3, r3, s4, n4, r4, rfl, ⟨Bv, hv5, hBv⟩, hd5, hg5⟩
              have HV : Hid (VOwn w5 (dp + 1) (.int .i64 uk, .int .i64 un, .slice s2 n2 r2, .slice s3 n3 r3, .slice s4 n4 r4) tv Bv ∧ (∀ b ∈ Bv, NV ≤ b ∧ w1.heap.size ≤ b ∧ b < w5.heap.size) ∧ Bv.Nodup) := hide' ⟨hv5, fun b hb => by have h1 := hBv b hb; have h2 := HIc.out.2.2.2.2.2.2.1; have h3 := HIc.out.1.2.2.2.1; omega, VOwn.nodup _ hv5⟩
              replace HIc := hide' (HIc.out.on hg5 hd5)
              clear hv5 hBv hd5 hg5
              go_wp2_with fail
              refine hK.out _ _ trivial (fun hHeld => ?_)
              clear hK
              (try simp only [Act.put, List.setIfInBounds_toArray, List.set_cons_zero, List.set_cons_succ])
              refine wpAnyH_ready (rs := [7]) (by kernel_rfl) (by simp) ?_
              refine AllReadyH.cons rfl (fun K hK => ?_) AllReadyH.nil
              focus
                have hzb := hide' (heap_alloc_new w5 (.cells #[.int .i64 0, .int .i64 0, .slice none 0 0, .slice none 0 0, .slice none 0 0] 26))
                have hgz := hide' HIc.out.2.2.2.2.2.2.2.1.lt
                have hzl : Hid (w5.heap.size < (w5.alloc (.cells #[.int .i64 0, .int .i64 0, .slice none 0 0, .slice none 0 0, .slice none 0 0] 26)).heap.size) := hide' (by simp)
                replace HV : Hid (VOwn (w5.alloc (.cells #[.int .i64 0, .int .i64 0, .slice none 0 0, .slice none 0 0, .slice none 0 0] 26)) (dp + 1) (.int .i64 uk, .int .i64 un, .slice s2 n2 r2, .slice s3 n3 r3, .slice s4 n4 r4) tv Bv ∧ (∀ b ∈ Bv, NV ≤ b ∧ w1.heap.size ≤ b ∧ b < (w5.alloc (.cells #[.int .i64 0, .int .i64 0, .slice none 0 0, .slice none 0 0, .slice none 0 0] 26)).heap.size) ∧ Bv.Nodup) := hide' ⟨VOwn.agree _ HV.out.1 fun b hb => Below.heap_alloc w5 _ b (HV.out.2.1 b hb).2.2, fun b hb => by have h1 := HV.out.2.1 b hb; simp; omega, HV.out.2.2⟩
                replace HIc := hide' (HIc.out.alloc (.cells #[.int .i64 0, .int .i64 0, .slice none 0 0, .slice none 0 0, .slice none 0 0] 26))
                go_simp
                refine hK.out _ _ trivial (fun hHeld => ?_)
                clear hK
                (try simp only [Act.put, List.setIfInBounds_toArray, List.set_cons_zero, List.set_cons_succ])
                generalize w5.alloc (.cells #[.int .i64 0, .int .i64 0, .slice none 0 0, .slice none 0 0, .slice none 0 0] 26) = VB at *
                generalize w5.heap.size = zb at *
                obtain ⟨wq, hwq⟩ : ∃ wq, wq = VB := ⟨_, rfl⟩
                subst hwq
            rotate_left
            focus
              have hzb := hide' (heap_alloc_new V0 (.cells #[.int .i64 0, .int .i64 0, .slice none 0 0, .slice none 0 0, .slice none 0 0] 26))
              have hgz := hide' HIc.out.2.2.2.2.2.2.2.1.lt
              have hzl : Hid (V0.heap.size < (V0.alloc (.cells #[.int .i64 0, .int .i64 0, .slice none 0 0, .slice none 0 0, .slice none 0 0] 26)).heap.size) := hide' (by simp)
              replace HIc := hide' (HIc.out.alloc (.cells #[.int .i64 0, .int .i64 0, .slice none 0 0, .slice none 0 0, .slice none 0 0] 26))
              go_simp
              refine hK.out _ _ trivial (fun hHeld => ?_)
              clear hK
              (try simp only [Act.put, List.setIfInBounds_toArray, List.set_cons_zero, List.set_cons_succ])
              generalize V0.alloc (.cells #[.int .i64 0, .int .i64 0, .slice none 0 0, .slice none 0 0, .slice none 0 0] 26) = VB at *
              generalize V0.heap.size = zb at *
              refine wpAnyH_ready (rs := [5]) (by kernel_rfl) (by simp) ?_
              refine AllReadyH.cons rfl (fun K hK => ?_) AllReadyH.nil
              focus
                go_simp
                go_at_call 21
                refine (HE.out VB _ HIc.out.2.2.2.2.2.2.2.1 (by rfl) (by rfl) (by rfl) (by rfl)).mono ?_
                rintro e w5 ⟨uk, un, s2, n2, r2, s3, n3, r3, s4, n4, r4, rfl, ⟨Bv, hv5, hBv⟩, hd5, hg5⟩
                replace hzb := hide' ((hg5.block zb hzl.out (by simp; have := hgz.out; omega)).trans hzb.out)
                replace hzl := hide' (Nat.lt_of_lt_of_le hzl.out hg5.size)
                have HV : Hid (VOwn w5 (dp + 1) (.int .i64 uk, .int .i64 un, .slice s2 n2 r2, .slice s3 n3 r3, .slice s4 n4 r4) tv Bv ∧ (∀ b ∈ Bv, NV ≤ b ∧ w1.heap.size ≤ b ∧ b < w5.heap.size) ∧ Bv.Nodup) := hide' ⟨hv5, fun b hb => by have h1 := hBv b hb; have h2 := HIc.out.2.2.2.2.2.2.1; have h3 := HIc.out.1.2.2.2.1; omega, VOwn.nodup _ hv5⟩
                replace HIc := hide' (HIc.out.on hg5 hd5)
                clear hv5 hBv hd5 hg5
                go_wp2_with fail
                refine hK.out _ _ trivial (fun hHeld => ?_)
                clear hK
                (try simp only [Act.put, List.setIfInBounds_toArray, List.set_cons_zero, List.set_cons_succ])
                obtain ⟨wq, hwq⟩ : ∃ wq, wq = w5 := ⟨_, rfl⟩
                subst hwq
          rotate_left 2
          focus
            go_simp
            go_at_call 21
            refine (HE.out V0 _ HIc.out.2.2.2.2.2.2.2.1 (by rfl) (by rfl) (by rfl) (by rfl)).mono ?_
            rintro e w5 ⟨uk, un, s2, n2, r2, s3, n3, r3, s4, n4, r4, rfl, ⟨Bv, hv5, hBv⟩, hd5, hg5⟩
            have HV : Hid (VOwn w5 (dp + 1) (.int .i64 uk, .int .i64 un, .slice s2 n2 r2, .slice s3 n3 r3, .slice s4 n4 r4) tv Bv ∧ (∀ b ∈ Bv, NV ≤ b ∧ w1.heap.size ≤ b ∧ b < w5.heap.size) ∧ Bv.Nodup) := hide' ⟨hv5, fun b hb => by have h1 := hBv b hb; have h2 := HIc.out.2.2.2.2.2.2.1; have h3 := HIc.out.1.2.2.2.1; omega, VOwn.nodup _ hv5⟩
            replace HIc := hide' (HIc.out.on hg5 hd5)
            clear hv5 hBv hd5 hg5
            go_wp2_with fail
            refine hK.out _ _ trivial (fun hHeld => ?_)
            clear hK
            (try simp only [Act.put, List.setIfInBounds_toArray, List.set_cons_zero, List.set_cons_succ])
            refine wpAnyH_ready (rs := [3, 7]) (by kernel_rfl) (by simp) ?_
            refine AllReadyH.cons rfl (fun K hK => ?_) (AllReadyH.cons rfl (fun K hK => ?_) AllReadyH.nil)
            focus
              obtain ⟨_, _, _, _, t4, _⟩ := row5 HIc.out.2.1
              go_simp
              refine hK.out _ _ trivial (fun hHeld => ?_)
              clear hK t4
              (try simp only [Act.put, List.setIfInBounds_toArray, List.set_cons_zero, List.set_cons_succ])
              refine tkY 6 30 hHeld ?_
              (try simp only [Act.put, List.setIfInBounds_toArray, List.set_cons_zero, List.set_cons_succ])
              refine wpAnyH_ready (rs := [7]) (by kernel_rfl) (by simp) ?_
              refine AllReadyH.cons rfl (fun K hK => ?_) AllReadyH.nil
              focus
                have hzb := hide' (heap_alloc_new w5 (.cells #[.int .i64 0, .int .i64 0, .slice none 0 0, .slice none 0 0, .slice none 0 0] 26))
                have hgz := hide' HIc.out.2.2.2.2.2.2.2.1.lt
                have hzl : Hid (w5.heap.size < (w5.alloc (.cells #[.int .i64 0, .int .i64 0, .slice none 0 0, .slice none 0 0, .slice none 0 0] 26)).heap.size) := hide' (by simp)
                replace HV : Hid (VOwn (w5.alloc (.cells #[.int .i64 0, .int .i64 0, .slice none 0 0, .slice none 0 0, .slice none 0 0] 26)) (dp + 1) (.int .i64 uk, .int .i64 un, .slice s2 n2 r2, .slice s3 n3 r3, .slice s4 n4 r4) tv Bv ∧ (∀ b ∈ Bv, NV ≤ b ∧ w1.heap.size ≤ b ∧ b < (w5.alloc (.cells #[.int .i64 0, .int .i64 0, .slice none 0 0, .slice none 0 0, .slice none 0 0] 26)).heap.size) ∧ Bv.Nodup) := hide' ⟨VOwn.agree _ HV.out.1 fun b hb => Below.heap_alloc w5 _ b (HV.out.2.1 b hb).2.2, fun b hb => by have h1 := HV.out.2.1 b hb; simp; omega, HV.out.2.2⟩
                replace HIc := hide' (HIc.out.alloc (.cells #[.int .i64 0, .int .i64 0, .slice none 0 0, .slice none 0 0, .slice none 0 0] 26))
                go_simp
                refine hK.out _ _ trivial (fun hHeld => ?_)
                clear hK
                (try simp only [Act.put, List.setIfInBounds_toArray, List.set_cons_zero, List.set_cons_succ])
                generalize w5.alloc (.cells #[.int .i64 0, .int .i64 0, .slice none 0 0, .slice none 0 0, .slice none 0 0] 26) = VB at *
                generalize w5.heap.size = zb at *
                obtain ⟨wq, hwq⟩ : ∃ wq, wq = VB := ⟨_, rfl⟩
                subst hwq
            rotate_left
            focus
              have hzb := hide' (heap_alloc_new w5 (.cells #[.int .i64 0, .int .i64 0, .slice none 0 0, .slice none 0 0, .slice none 0 0] 26))
              have hgz := hide' HIc.out.2.2.2.2.2.2.2.1.lt
              have hzl : Hid (w5.heap.size < (w5.alloc (.cells #[.int .i64 0, .int .i64 0, .slice none 0 0, .slice none 0 0, .slice none 0 0] 26)).heap.size) := hide' (by simp)
              replace HV : Hid (VOwn (w5.alloc (.cells #[.int .i64 0, .int .i64 0, .slice none 0 0, .slice none 0 0, .slice none 0 0] 26)) (dp + 1) (.int .i64 uk, .int .i64 un, .slice s2 n2 r2, .slice s3 n3 r3, .slice s4 n4 r4) tv Bv ∧ (∀ b ∈ Bv, NV ≤ b ∧ w1.heap.size ≤ b ∧ b < (w5.alloc (.cells #[.int .i64 0, .int .i64 0, .slice none 0 0, .slice none 0 0, .slice none 0 0] 26)).heap.size) ∧ Bv.Nodup) := hide' ⟨VOwn.agree _ HV.out.1 fun b hb => Below.heap_alloc w5 _ b (HV.out.2.1 b hb).2.2, fun b hb => by have h1 := HV.out.2.1 b hb; simp; omega, HV.out.2.2⟩
              replace HIc := hide' (HIc.out.alloc (.cells #[.int .i64 0, .int .i64 0, .slice none 0 0, .slice none 0 0, .slice none 0 0] 26))
              go_simp
              refine hK.out _ _ trivial (fun hHeld => ?_)
              clear hK
              (try simp only [Act.put, List.setIfInBounds_toArray, List.set_cons_zero, List.set_cons_succ])
              generalize w5.alloc (.cells #[.int .i64 0, .int .i64 0, .slice none 0 0, .slice none 0 0, .slice none 0 0] 26) = VB at *
              generalize w5.heap.size = zb at *
              refine wpAnyH_ready (rs := [3]) (by kernel_rfl) (by simp) ?_
              refine AllReadyH.cons rfl (fun K hK => ?_) AllReadyH.nil
              focus
                obtain ⟨_, _, _, _, t4, _⟩ := row5 HIc.out.2.1
                go_simp
                refine hK.out _ _ trivial (fun hHeld => ?_)
                clear hK t4
                (try simp only [Act.put, List.setIfInBounds_toArray, List.set_cons_zero, List.set_cons_succ])
                refine tkY 6 30 hHeld ?_
                (try simp only [Act.put, List.setIfInBounds_toArray, List.set_cons_zero, List.set_cons_succ])
                obtain ⟨wq, hwq⟩ : ∃ wq, wq = VB := ⟨_, rfl⟩
                subst hwq
          rotate_left 2
          focus
            have hzb := hide' (heap_alloc_new V0 (.cells #[.int .i64 0, .int .i64 0, .slice none 0 0, .slice none 0 0, .slice none 0 0] 26))
            have hgz := hide' HIc.out.2.2.2.2.2.2.2.1.lt
            have hzl : Hid (V0.heap.size < (V0.alloc (.cells #[.int .i64 0, .int .i64 0, .slice none 0 0, .slice none 0 0, .slice none 0 0] 26)).heap.size) := hide' (by simp)
            replace HIc := hide' (HIc.out.alloc (.cells #[.int .i64 0, .int .i64 0, .slice none 0 0, .slice none 0 0, .slice none 0 0] 26))
            go_simp
            refine hK.out _ _ trivial (fun hHeld => ?_)
            clear hK
            (try simp only [Act.put, List.setIfInBounds_toArray, List.set_cons_zero, List.set_cons_succ])
            generalize V0.alloc (.cells #[.int .i64 0, .int .i64 0, .slice none 0 0, .slice none 0 0, .slice none 0 0] 26) = VB at *
            generalize V0.heap.size = zb at *
            refine wpAnyH_ready (rs := [3, 5]) (by kernel_rfl) (by simp) ?_
            refine AllReadyH.cons rfl (fun K hK => ?_) (AllReadyH.cons rfl (fun K hK => ?_) AllReadyH.nil)
            focus
              obtain ⟨_, _, _, _, t4, _⟩ := row5 HIc.out.2.1
              go_simp
              refine hK.out _ _ trivial (fun hHeld => ?_)
              clear hK t4
              (try simp only [Act.put, List.setIfInBounds_toArray, List.set_cons_zero, List.set_cons_succ])
              refine tkY 6 30 hHeld ?_
              (try simp only [Act.put, List.setIfInBounds_toArray, List.set_cons_zero, List.set_cons_succ])
              refine wpAnyH_ready (rs := [5]) (by kernel_rfl) (by simp) ?_
              refine AllReadyH.cons rfl (fun K hK => ?_) AllReadyH.nil
              focus
                go_simp
                go_at_call 21
                refine (HE.out VB _ HIc.out.2.2.2.2.2.2.2.1 (by rfl) (by rfl) (by rfl) (by rfl)).mono ?_
                rintro e w5 ⟨uk, un, s2, n2, r2, s3, n3, r3, s4, n4, r4, rfl, ⟨Bv, hv5, hBv⟩, hd5, hg5⟩
                replace hzb := hide' ((hg5.block zb hzl.out (by simp; have := hgz.out; omega)).trans hzb.out)
                replace hzl := hide' (Nat.lt_of_lt_of_le hzl.out hg5.size)
                have HV : Hid (VOwn w5 (dp + 1) (.int .i64 uk, .int .i64 un, .slice s2 n2 r2, .slice s3 n3 r3, .slice s4 n4 r4) tv Bv ∧ (∀ b ∈ Bv, NV ≤ b ∧ w1.heap.size ≤ b ∧ b < w5.heap.size) ∧ Bv.Nodup) := hide' ⟨hv5, fun b hb => by have h1 := hBv b hb; have h2 := HIc.out.2.2.2.2.2.2.1; have h3 := HIc.out.1.2.2.2.1; omega, VOwn.nodup _ hv5⟩
                replace HIc := hide' (HIc.out.on hg5 hd5)
                clear hv5 hBv hd5 hg5
                go_wp2_with fail
                refine hK.out _ _ trivial (fun hHeld => ?_)
                clear hK
                (try simp only [Act.put, List.setIfInBounds_toArray, List.set_cons_zero, List.set_cons_succ])
                obtain ⟨wq, hwq⟩ : ∃ wq, wq = w5 := ⟨_, rfl⟩
                subst hwq
            rotate_left
            focus
              go_simp
              go_at_call 21
              refine (HE.out VB _ HIc.out.2.2.2.2.2.2.2.1 (by rfl) (by rfl) (by rfl) (by rfl)).mono ?_
              rintro e w5 ⟨uk, un, s2, n2, r2, s3, n3, r3, s4, n4, r4, rfl, ⟨Bv, hv5, hBv⟩, hd5, hg5⟩
              replace hzb := hide' ((hg5.block zb hzl.out (by simp; have := hgz.out; omega)).trans hzb.out)
              replace hzl := hide' (Nat.lt_of_lt_of_le hzl.out hg5.size)
              have HV : Hid (VOwn w5 (dp + 1) (.int .i64 uk, .int .i64 un, .slice s2 n2 r2, .slice s3 n3 r3, .slice s4 n4 r4) tv Bv ∧ (∀ b ∈ Bv, NV ≤ b ∧ w1.heap.size ≤ b ∧ b < w5.heap.size) ∧ Bv.Nodup) := hide' ⟨hv5, fun b hb => by have h1 := hBv b hb; have h2 := HIc.out.2.2.2.2.2.2.1; have h3 := HIc.out.1.2.2.2.1; omega, VOwn.nodup _ hv5⟩
              replace HIc := hide' (HIc.out.on hg5 hd5)
              clear hv5 hBv hd5 hg5
              go_wp2_with fail
              refine hK.out _ _ trivial (fun hHeld => ?_)
              clear hK
              (try simp only [Act.put, List.setIfInBounds_toArray, List.set_cons_zero, List.set_cons_succ])
              refine wpAnyH_ready (rs := [3]) (by kernel_rfl) (by simp) ?_
              refine AllReadyH.cons rfl (fun K hK => ?_) AllReadyH.nil
              focus
                obtain ⟨_, _, _, _, t4, _⟩ := row5 HIc.out.2.1
                go_simp
                refine hK.out _ _ trivial (fun hHeld => ?_)
                clear hK t4
                (try simp only [Act.put, List.setIfInBounds_toArray, List.set_cons_zero, List.set_cons_succ])
                refine tkY 6 30 hHeld ?_
                (try simp only [Act.put, List.setIfInBounds_toArray, List.set_cons_zero, List.set_cons_succ])
                obtain ⟨wq, hwq⟩ : ∃ wq, wq = w5 := ⟨_, rfl⟩
                subst hwq
          all_goals
            refine wpAnyH_ready (rs := [8]) (by kernel_rfl) (by simp) ?_
            refine AllReadyH.cons rfl (fun K hK => ?_) AllReadyH.nil
            refine step_append_lies _ (by rfl) (.tmp 27) (.tmp 31) 24 (by rfl) w1.heap.size 26 i0 _ 5 88 Tryz.underlying24 hi hy0 hy1 hy2 rfl (by decide) (.slice pL L.length cL) L.length csL.flatten (by rfl) (HIc.out.2.2.2.1.2.2.1) ⟨zb, 0, none⟩ 1 1 [.int .i64 0, .int .i64 0, .slice none 0 0, .slice none 0 0, .slice none 0 0] (by rfl) (by rfl) (World.news_of_block (cs := #[.int .i64 0, .int .i64 0, .slice none 0 0, .slice none 0 0, .slice none 0 0]) (t := 26) (fr := (0, 0)) hzb.out) (by simp [Value.oneCell']) (by omega) (by unfold maxLen; omega) (by omega) (by exact HIc.out.1.2.2.2.1) _ rfl ?_
            intro g6 cp6 w6 hown6 hg6 hat6 hlt6
            refine hK.out _ _ trivial (fun hHeld => ?_)
            clear hK
            (try simp only [Act.put, List.setIfInBounds_toArray, List.set_cons_zero, List.set_cons_succ])
            have hV6 := (hg6.block B (by have := HIc.out.2.2.2.2.2.2.2.2.2; have := HIc.out.1.2.2.2.1; omega) (fun e => by have := HIc.out.2.2.2.1.2.2.1.lt B e.symm; have := HIc.out.2.2.2.2.2.2.2.2.2; omega)).trans HIc.out.2.1
            have hown7 := row_put5 (.int .i64 uk) (.int .i64 un) (.slice s2 n2 r2) (.slice s3 n3 r3) (.slice s4 n4 r4) hfl hown6
            have hgB6 : g6 ≠ B := by have := hown6.lt g6 rfl; have := HIc.out.2.2.2.2.2.2.2.2.2; omega
            have hgr7 : wq.grownBy (set5 w6 g6 (L.length * 5) (.int .i64 uk) (.int .i64 un) (.slice s2 n2 r2) (.slice s3 n3 r3) (.slice s4 n4 r4)) (Value.slice pL L.length cL).ownBlock := put5_grown hg6 hat6
            obtain ⟨hV7, hI7⟩ := rinv_l (e5 := (.int .i64 uk, .int .i64 un, .slice s2 n2 r2, .slice s3 n3 r3, .slice s4 n4 r4)) HIc.out HV.out.1 HV.out.2.1 HV.out.2.2 hown7 hgr7 hat6
            have Hcg := hown6.2
            obtain ⟨cg, hcg⟩ : ∃ cg, w6.heap[g6]? = some (.cells cg 26 (0, 0)) := own_cells hown6
            have HCo := hide' (comm_heap (k := 4) (j := L.length * 5) (.int .i64 uk) (.int .i64 un) (.slice s2 n2 r2) (.slice s3 n3 r3) (.slice s4 n4 r4) (.slice (some ⟨g6, 0, none⟩) (L.length + 1) cp6) hcg hV6 hgB6)
            have z0 := hown6.cellAt (L.length * 5 + 0) (by omega)
            have zf0 := hown6.frozenAt (L.length * 5 + 0)
            have z1 := hown6.cellAt (L.length * 5 + 1) (by omega)
            have zf1 := hown6.frozenAt (L.length * 5 + 1)
            have z2 := hown6.cellAt (L.length * 5 + 2) (by omega)
            have zf2 := hown6.frozenAt (L.length * 5 + 2)
            have z3 := hown6.cellAt (L.length * 5 + 3) (by omega)
            have zf3 := hown6.frozenAt (L.length * 5 + 3)
            have z4 := hown6.cellAt (L.length * 5 + 4) (by omega)
            have zf4 := hown6.frozenAt (L.length * 5 + 4)
            rw [show (csL.flatten ++ [Value.int IntKind.i64 0, .int .i64 0, .slice none 0 0, .slice none 0 0, .slice none 0 0])[L.length * 5 + 0]? = some (.int .i64 0) by rw [← hfl]; simp] at z0
            rw [show (csL.flatten ++ [Value.int IntKind.i64 0, .int .i64 0, .slice none 0 0, .slice none 0 0, .slice none 0 0])[L.length * 5 + 1]? = some (.int .i64 0) by rw [← hfl]; simp [List.getElem?_append_right]] at z1
            rw [show (csL.flatten ++ [Value.int IntKind.i64 0, .int .i64 0, .slice none 0 0, .slice none 0 0, .slice none 0 0])[L.length * 5 + 2]? = some (.slice none 0 0) by rw [← hfl]; simp [List.getElem?_append_right]] at z2
            rw [show (csL.flatten ++ [Value.int IntKind.i64 0, .int .i64 0, .slice none 0 0, .slice none 0 0, .slice none 0 0])[L.length * 5 + 3]? = some (.slice none 0 0) by rw [← hfl]; simp [List.getElem?_append_right]] at z3
            rw [show (csL.flatten ++ [Value.int IntKind.i64 0, .int .i64 0, .slice none 0 0, .slice none 0 0, .slice none 0 0])[L.length * 5 + 4]? = some (.slice none 0 0) by rw [← hfl]; simp [List.getElem?_append_right]] at z4
            simp only [Nat.add_zero] at z0 zf0
            obtain ⟨_, _, _, _, hb4, hbf⟩ := row5 hV6
            have hbf4 := hbf 4
            obtain ⟨_, _, _, _, hc4, hcf⟩ := row5 hV7
            have hcf4 := hcf 4
            have hI7 := hide' hI7
            have Hrow := hide' hcg
            clear hbf hcf hown6 hown7 hg6 hgr7 hat6 hV6 hV7 hcg Hcg HIc HV hzb hgz
            refine tkY 9 33 hHeld ?_
            (try simp only [Act.put, List.setIfInBounds_toArray, List.set_cons_zero, List.set_cons_succ])
            refine tkY 11 34 hHeld ?_
            (try simp only [Act.put, List.setIfInBounds_toArray, List.set_cons_zero, List.set_cons_succ])
            refine tkY 12 35 hHeld ?_
            (try simp only [Act.put, List.setIfInBounds_toArray, List.set_cons_zero, List.set_cons_succ])
            refine wpAnyH_ready (rs := [10, 13]) (by kernel_rfl) (by simp) ?_
            refine AllReadyH.cons rfl (fun K hK => ?_) (AllReadyH.cons rfl (fun K hK => ?_) AllReadyH.nil)
            · clear hb4 hbf4 HCo Hrow
              go_simp
              refine hK.out _ _ trivial (fun hHeld => ?_)
              clear hK
              (try simp only [Act.put, List.setIfInBounds_toArray, List.set_cons_zero, List.set_cons_succ])
              have hc4 : Hid _ := hide' hc4
              have hcf4 : Hid _ := hide' hcf4
              simp only [set5] at hc4 hcf4
              have hc4 := hc4.out
              have hcf4 := hcf4.out
              refine wpAnyH_ready (rs := [13]) (by kernel_rfl) (by simp) ?_
              refine AllReadyH.cons rfl (fun K hK => ?_) AllReadyH.nil
              go_simp
              refine hK.out _ _ trivial (fun hHeld => ?_)
              clear hK
              (try simp only [Act.put, List.setIfInBounds_toArray, List.set_cons_zero, List.set_cons_succ])
              refine wpAnyH_done (by kernel_rfl) ?_ _
              go_wp2_with fail
              go_meet
              exact ⟨rfl, _, _, _, _, hide' (by simpa [set5] using hI7.out)⟩
            · clear hc4 hcf4
              go_simp
              refine hK.out _ _ trivial (fun hHeld => ?_)
              clear hK
              (try simp only [Act.put, List.setIfInBounds_toArray, List.set_cons_zero, List.set_cons_succ])
              have y0 : (w6.setCell ⟨B, 4, none⟩ (.slice (some ⟨g6, 0, none⟩) (L.length + 1) cp6)).cell? ⟨g6, L.length * 5, none⟩ = _ := (World.cell?_of_block (Below.heap_setCell w6 ⟨B, 4, none⟩ _ g6 (by show g6 ≠ B; exact hgB6))).trans z0
              have yf0 := frozen_of_row _ g6 (L.length * 5) _ _ ((Below.heap_setCell w6 ⟨B, 4, none⟩ (.slice (some ⟨g6, 0, none⟩) (L.length + 1) cp6) g6 (by show g6 ≠ B; exact hgB6)).trans Hrow.out)
              have y1 : (w6.setCell ⟨B, 4, none⟩ (.slice (some ⟨g6, 0, none⟩) (L.length + 1) cp6)).cell? ⟨g6, L.length * 5 + 1, none⟩ = _ := (World.cell?_of_block (Below.heap_setCell w6 ⟨B, 4, none⟩ _ g6 (by show g6 ≠ B; exact hgB6))).trans z1
              have yf1 := frozen_of_row _ g6 (L.length * 5 + 1) _ _ ((Below.heap_setCell w6 ⟨B, 4, none⟩ (.slice (some ⟨g6, 0, none⟩) (L.length + 1) cp6) g6 (by show g6 ≠ B; exact hgB6)).trans Hrow.out)
              have y2 : (w6.setCell ⟨B, 4, none⟩ (.slice (some ⟨g6, 0, none⟩) (L.length + 1) cp6)).cell? ⟨g6, L.length * 5 + 2, none⟩ = _ := (World.cell?_of_block (Below.heap_setCell w6 ⟨B, 4, none⟩ _ g6 (by show g6 ≠ B; exact hgB6))).trans z2
              have yf2 := frozen_of_row _ g6 (L.length * 5 + 2) _ _ ((Below.heap_setCell w6 ⟨B, 4, none⟩ (.slice (some ⟨g6, 0, none⟩) (L.length + 1) cp6) g6 (by show g6 ≠ B; exact hgB6)).trans Hrow.out)
              have y3 : (w6.setCell ⟨B, 4, none⟩ (.slice (some ⟨g6, 0, none⟩) (L.length + 1) cp6)).cell? ⟨g6, L.length * 5 + 3, none⟩ = _ := (World.cell?_of_block (Below.heap_setCell w6 ⟨B, 4, none⟩ _ g6 (by show g6 ≠ B; exact hgB6))).trans z3
              have yf3 := frozen_of_row _ g6 (L.length * 5 + 3) _ _ ((Below.heap_setCell w6 ⟨B, 4, none⟩ (.slice (some ⟨g6, 0, none⟩) (L.length + 1) cp6) g6 (by show g6 ≠ B; exact hgB6)).trans Hrow.out)
              have y4 : (w6.setCell ⟨B, 4, none⟩ (.slice (some ⟨g6, 0, none⟩) (L.length + 1) cp6)).cell? ⟨g6, L.length * 5 + 4, none⟩ = _ := (World.cell?_of_block (Below.heap_setCell w6 ⟨B, 4, none⟩ _ g6 (by show g6 ≠ B; exact hgB6))).trans z4
              have yf4 := frozen_of_row _ g6 (L.length * 5 + 4) _ _ ((Below.heap_setCell w6 ⟨B, 4, none⟩ (.slice (some ⟨g6, 0, none⟩) (L.length + 1) cp6) g6 (by show g6 ≠ B; exact hgB6)).trans Hrow.out)
              clear z0 z1 z2 z3 z4 zf0 zf1 zf2 zf3 zf4 hb4 hbf4
              have HJ := hide' (hI7.out.same (w5 := set5 (w6.setCell ⟨B, 4, none⟩ (.slice (some ⟨g6, 0, none⟩) (L.length + 1) cp6)) g6 (L.length * 5) (.int .i64 uk) (.int .i64 un) (.slice s2 n2 r2) (.slice s3 n3 r3) (.slice s4 n4 r4)) HCo.out (by rfl) (by rfl) (by rfl))
              clear hI7 HCo Hrow
              generalize w6.setCell ⟨B, 4, none⟩ (.slice (some ⟨g6, 0, none⟩) (L.length + 1) cp6) = w7 at *
              refine wpAnyH_ready (rs := [10]) (by kernel_rfl) (by simp) ?_
              refine AllReadyH.cons rfl (fun K hK => ?_) AllReadyH.nil
              go_simp
              refine hK.out _ _ trivial (fun hHeld => ?_)
              clear hK
              (try simp only [Act.put, List.setIfInBounds_toArray, List.set_cons_zero, List.set_cons_succ])
              refine wpAnyH_done (by kernel_rfl) ?_ _
              go_wp2_with fail
              go_meet
              exact ⟨rfl, _, _, _, _, hide' (rinv_n (by simpa [set5] using HJ.out))⟩
        case rest =>
        obtain ⟨rfl, pL, cL, csL, BiL, HJ⟩ := hcut
        clear HI HE v0 v1 v2 v3 v4 vf HzI
        obtain ⟨r0, r1, r2, _⟩ := row3r HJ.out.2.2.2.2.2.2.2.1.1
        by_cases hp5 : p5 < 0
        · have HEn := hide' ((rdK_end _ xs true (N - (k + 1)) (K ++ [tx]) (L ++ [tv]) p5 (40 - q5) hp5).symm.trans HRs.out)
          have HO := hide' HJ.out.own
          have HG := hide' HG1.out
          go_wp2
          first | go_end0 | (refine bodyPost_ret (v := .tuple #[]) (results_none rfl _ _ _) rfl ?_)
          exact hld_end rfl HG.out HJ.out HEn.out.symm
        · have hp5' : 0 ≤ p5 := by omega
          clear r0 r2
          go_wp2
          go_roundw
          case rel => exact ⟨k + 1, by omega, by go_num, (K ++ [tx]), L ++ [tv], p5, q5, _, _, _, _, _, _, _, _, hide' ⟨HJ.out, by first | omega | (simp; omega), by simp; omega, by omega, by omega, by omega, fun _ => hp5', HRs.out⟩⟩
          case measure => simp [intOf]; omega
      · have hlt' : ¬ (k : Int) < (N : Int) := by omega
        have HEn := hide' ((show rdK (fun a l => rdV xs dp a l) xs true (N - k) K L p' (40 - q') = (K, L, p', 40 - q') by rw [show N - k = 0 by omega]; rfl).symm.trans HRs.out)
        go_wp2
        first | go_end0 | (refine bodyPost_ret (v := .tuple #[]) (results_none rfl _ _ _) rfl ?_)
        exact hld_end rfl HG1.out HI.out HEn.out.symm
end Go.Proofs.YthnkedbmfhokiaaGreatDoor
