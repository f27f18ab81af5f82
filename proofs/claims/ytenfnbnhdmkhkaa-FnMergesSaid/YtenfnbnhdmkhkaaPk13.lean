/-
  Texts that a law leans on, one behind the other; no statement is proved here.
-/
import Derived.Test.YtenfnbnhdmkhkaaPk10
import Derived.Deep.Cut
import Derived.Deep.CutRange
import Derived.Deep.AppendLies
import Derived.Deep.RegionHeld3
import Derived.Test.YtenfnbnhdmkhkaaPk1
import Derived.Test.YtenfnbnhdmkhkaaPk12
/-
  l2own of the specification: the walk.
-/
namespace Go.Proofs.Ytenfnbnhdmkhkaa
open Go.RowKit
set_option linter.unusedVariables false
set_option linter.unusedSimpArgs false

/-- Behind the first statement: out's box, with a text of the call's own. -/
def SOut (w1 : World) (vk vn : Int) (vS : List Int) (s3 : Value) (wx : World) : Prop :=
  ∃ O a n c Bs, s3 = .pointer (some ⟨O, 0, none⟩) ∧ w1.heap.size ≤ O ∧ wx.heap[O]? = some (.cells #[.int .i64 vk, .int .i64 vn, .slice a n c, .slice none 0 0, .slice none 0 0] 26 (0, 0)) ∧ TOwn wx (.slice a n c) vS Bs ∧ (∀ b ∈ Bs, w1.heap.size ≤ b ∧ b < wx.heap.size ∧ b ≠ O) ∧ Bs.Nodup ∧ Below w1.heap.size w1 wx

theorem sout_of {w1 w3 wx : World} {vk vn : Int} {vS : List Int} {v3 : Value} {O : Nat} (hv : Bts w3 w1.heap.size v3 vS) (hO : w1.heap.size ≤ O) (hne : ∀ b, v3.ownBlock = some b → b ≠ O) (hx : wx.heap[O]? = some (.cells #[.int .i64 vk, .int .i64 vn, v3, .slice none 0 0, .slice none 0 0] 26 (0, 0))) (hb : ∀ b, b < w3.heap.size → b ≠ O → wx.heap[b]? = w3.heap[b]?) (hz : w3.heap.size ≤ wx.heap.size) (hbel : Below w1.heap.size w1 wx) : SOut w1 vk vn vS (.pointer (some ⟨O, 0, none⟩)) wx := by
  obtain ⟨Bs, hT, hBs, hBn⟩ := tOwn_of hv
  have hmem : ∀ b ∈ Bs, b ≠ O := by
    intro b hb'
    rcases hT.2 with ⟨_, rfl⟩ | ⟨g, cap, rfl, rfl⟩
    · simp at hb'
    · simp at hb'
      subst hb'
      exact hne b rfl
  obtain ⟨a, c, rfl, _⟩ := hv.shape
  refine ⟨O, a, vS.length, c, Bs, rfl, hO, hx, hT.agree fun b hb' => hb b (hBs b hb').2 (hmem b hb'), fun b hb' => ?_, hBn, hbel⟩
  have := hBs b hb'
  exact ⟨this.1, by omega, hmem b hb'⟩

theorem own_apart {w : World} {base O : Nat} {v : Value} {xs : List Int} {cs : Array Value} {fr : Nat × Nat} (h : Bts w base v xs) (hO : w.heap[O]? = some (.cells cs 26 fr)) : ∀ b, v.ownBlock = some b → b ≠ O := by
  rintro b hb rfl
  rcases h.2.2 with ⟨rfl, _⟩ | ⟨g, cap, cur, rfl, _, hh, _⟩
  · simp [Value.ownBlock] at hb
  · simp [Value.ownBlock] at hb
    subst hb
    rw [hh] at hO
    simp at hO

theorem arr5v (c0 c1 c2 c3 c4 d0 d1 d2 d3 d4 : Value) : arrSet5 #[c0, c1, c2, c3, c4] 0 d0 d1 d2 d3 d4 = #[d0, d1, d2, d3, d4] := by rfl

/-- The three ways through the first statement. -/
theorem sout_new {w1 w3 : World} {vk vn : Int} {vS : List Int} {v3 : Value} (hv : Bts w3 w1.heap.size v3 vS) (hb : Below w1.heap.size w1 w3) : SOut w1 vk vn vS (.pointer (some ⟨w3.heap.size, 0, none⟩)) (w3.alloc (.cells #[.int .i64 vk, .int .i64 vn, v3, .slice none 0 0, .slice none 0 0] 26)) :=
  sout_of hv hb.size (fun b hb' => by have := (hv.2.lt b hb').2; omega) (heap_alloc_new w3 _) (fun b hb' _ => Below.heap_alloc _ _ _ hb') (by simp) (hb.alloc hb.size _)
theorem sout_old {w1 w3 : World} {vk vn : Int} {vS : List Int} {v3 c0 c1 c2 c3 c4 : Value} {O : Nat} (hv : Bts w3 w1.heap.size v3 vS) (hb : Below w1.heap.size w1 w3) (hO : w1.heap.size ≤ O) (hr : w3.heap[O]? = some (.cells #[c0, c1, c2, c3, c4] 26 (0, 0))) : SOut w1 vk vn vS (.pointer (some ⟨O, 0, none⟩)) (set5 w3 O 0 (.int .i64 vk) (.int .i64 vn) v3 (.slice none 0 0) (.slice none 0 0)) := by
  have hg := set5_grown w3 O 0 (.int .i64 vk) (.int .i64 vn) v3 (.slice none 0 0) (.slice none 0 0)
  have hs := set5_heap (j := 0) (.int .i64 vk) (.int .i64 vn) v3 (.slice none 0 0) (.slice none 0 0) hr
  rw [arr5v] at hs
  exact sout_of hv hO (own_apart hv hr) hs (fun b hb' hne => hg.block b hb' (by simpa using hne)) (by rw [set5_size]; exact Nat.le_refl _) (hb.grown hg hb.size (by intro k hk; simp at hk; omega))

set_option maxHeartbeats 6400000 in
set_option maxRecDepth 100000 in
theorem l2own_walk (vk vn : Int) (vS : List Int) (vK : List (List Int)) (d : Nat) (vL : List (Vl d)) (a2 : Option Addr) (p2 : Nat) (a3 : Option Addr) (p3 : Nat) (a4 : Option Addr) (p4 : Nat) (N : Nat) (ih : OwnAt d) (w : World) (hS : Seg w a2 vS) (hSb : ∀ x, a2 = some x → vS ≠ [] → x.block < N) (hN : N ≤ w.heap.size) (hp2 : a2 = none → p2 = 0) (hl : vS.length ≤ 1048576)
    (hK : KSeg (fun b => b < N) w (.slice a3 vK.length p3) vK) (hL : LSeg (fun b => b < N) w d (.slice a4 vL.length p4) vL) (hkl : vK.length ≤ 1048576) (hke : ∀ i, i < vK.length → (vK.getD i []).length ≤ 1048576) (hll : vL.length ≤ 1048576) (hle : ∀ i (h : i < vL.length), bndV d vL[i]) :
    Calls Try.prog 25 #[.agg #[.int .i64 vk, .int .i64 vn, .slice a2 vS.length p2, .slice a3 vK.length p3, .slice a4 vL.length p4]] w (ValEnd (d + 1) (vk, vn, vS, vK, vL) w) := by
  obtain ⟨iT, hiT, hy0, hy1, hy2⟩ := info_parts infoT
  obtain ⟨iV, hiV, hz0, hz1', hz2⟩ := info_parts info_valueT
  have HK := hide' hK
  have HL := hide' hL
  have HKe := hide' hke
  have HLe := hide' hle
  clear hK hL hke hle
  generalize hn3 : vK.length = n3 at *
  generalize hn4 : vL.length = n4 at hll HL ⊢
  have Hn3 : Hid (vK.length = n3) := hn3
  have Hn4 : Hid (vL.length = n4) := hn4
  clear hn3 hn4
  have HB1 : Hid (∀ o o' : Obj, Below w.heap.size w ((w.alloc o).alloc o') ∧ ((w.alloc o).alloc o').heap[w.heap.size]? = some o ∧ ((w.alloc o).alloc o').heap[w.heap.size + 1]? = some o' ∧ ((w.alloc o).alloc o').heap.size = w.heap.size + 2) := fun o o' => ⟨((Below.refl _ _).alloc (Nat.le_refl _) o).alloc (by simp) o', (Below.heap_alloc _ _ _ (by simp)).trans (heap_alloc_new w o), by have := heap_alloc_new (w.alloc o) o'; simpa using this, by simp⟩
  generalize hn : vS.length = n at *
  have Hn : Hid (n = vS.length) := hn.symm
  clear hn
  go_enter Try.func25, Try.ntmps25
  go_upto_region 1 with fail
  obtain ⟨hb1, hP, hR, hz1⟩ := HB1.out (.cells #[.int .i64 vk, .int .i64 vn, .slice a2 n p2, .slice a3 n3 p3, .slice a4 n4 p4] 26) (.cells #[.int .i64 0, .int .i64 0, .slice none 0 0, .slice none 0 0, .slice none 0 0] 26)
  generalize hw1 : ((w.alloc (.cells #[.int .i64 vk, .int .i64 vn, .slice a2 n p2, .slice a3 n3 p3, .slice a4 n4 p4] 26)).alloc (.cells #[.int .i64 0, .int .i64 0, .slice none 0 0, .slice none 0 0, .slice none 0 0] 26)) = w1 at *
  have Hz1 := hide' hz1
  clear hw1 HB1 hz1
  have hS1 : Seg w1 a2 vS := hS.below hb1 fun x hx he => by have := hSb x hx he; omega
  obtain ⟨q0, q1, q2, q3, q4, qf⟩ := row5 hP
  obtain ⟨l0, l1, l2, l3, l4, lf⟩ := box_later hP
  obtain ⟨m0, m1, m2, m3, m4, mf⟩ := box_later2 hP
  go_cut [3] from 6 to 14 (fun s3 wx => SOut w1 vk vn vS s3 wx)
  case first =>
    have hEA := bts_empty w1
    have hEB := fun o => (bts_empty w1).alloc o
    have hEC : ∀ o : Obj, Bts ((w1.alloc o).alloc (.cells #[] 5)) w1.heap.size (.slice (some ⟨(w1.alloc o).heap.size, 0, none⟩) 0 0) [] := fun o => (bts_empty (w1.alloc o)).mono (by simp)
    simp only [World.size_alloc] at hEC
    have HS := hide' hS1
    have HPP := hide' hP
    clear hS1 hP hR qf lf mf q3 q4 l3 l4 m3 m4 hS
    have HZB : Hid (∀ o o' : Obj, ((w1.alloc o).alloc o').heap[w1.heap.size + 1]? = some o') := fun o o' => by show _ = _; have := heap_alloc_new (w1.alloc o) o'; simpa using this
    have HZC : Hid (∀ o o' : Obj, ((w1.alloc o).alloc o').heap[w1.heap.size]? = some o) := fun o o' => (Below.heap_alloc _ _ _ (by simp)).trans (heap_alloc_new w1 o)
    have HSA : Hid (∀ o, Seg (w1.alloc o) a2 vS) := fun o => HS.out.grow ((Below.refl _ _).alloc (Nat.le_refl _) o)
    have HSB : Hid (∀ o o', Seg ((w1.alloc o).alloc o') a2 vS) := fun o o' => HS.out.grow (((Below.refl _ _).alloc (Nat.le_refl _) o).alloc (by simp) o')
    have hPlt : w.heap.size < w1.heap.size := by have := Hz1.out; omega
    have HPA : Hid (∀ o : Obj, (w1.alloc o).heap[w.heap.size]? = some (.cells #[.int .i64 vk, .int .i64 vn, .slice a2 n p2, .slice a3 n3 p3, .slice a4 n4 p4] 26 (0, 0))) := fun o => (Below.heap_alloc _ _ _ hPlt).trans HPP.out
    have HPB : Hid (∀ o o' : Obj, ((w1.alloc o).alloc o').heap[w.heap.size]? = some (.cells #[.int .i64 vk, .int .i64 vn, .slice a2 n p2, .slice a3 n3 p3, .slice a4 n4 p4] 26 (0, 0))) := fun o o' => (Below.heap_alloc _ _ _ (by simp; omega)).trans (HPA.out o)
    have hn1 : ¬ w1.heap.size = w.heap.size := by omega
    have hn2 : ¬ w.heap.size = w1.heap.size := by omega
    have hn3 : ¬ w1.heap.size + 1 = w.heap.size := by omega
    have hn4 : ¬ w.heap.size = w1.heap.size + 1 := by omega
    go_region_held3 (fun wx => wx.cell? ⟨w.heap.size, 0, none⟩ = some (.int .i64 vk) ∧ wx.cell? ⟨w.heap.size, 1, none⟩ = some (.int .i64 vn) ∧ wx.cell? ⟨w.heap.size, 2, none⟩ = some (.slice a2 n p2)) (go_keep) (first
      | (refine step_append_seg (by rfl) (.tmp 10) (.tmp 12) (by rfl) w1.heap.size (.slice (some ⟨w1.heap.size, 0, none⟩) 0 0) [] vS (by rfl) (by exact hEA) a2 n p2 Hn.out (by rfl) (by first | exact HSA.out _ | exact HSB.out _ _) hp2 (by simp; have := Hn.out; omega) (by simp; try omega) ?_; intro v3 w3 hv3 hg3; rw [List.nil_append] at hv3; obtain ⟨a5, c5, rfl, _⟩ := hv3.shape; have hP3 := (hg3.block w.heap.size (by simp; omega) (by simp [Value.ownBlock]; omega)).trans (by first | exact HPA.out _ | exact HPB.out _ _); obtain ⟨r0, r1, r2, _, _, _⟩ := row5 hP3; obtain ⟨s0, s1, s2, _, _, _⟩ := box_later hP3; have hkind : 0 = 0 := rfl; replace hv3 := hide' hv3; replace hg3 := hide' hg3; clear hP3)
      | (refine step_append_seg (by rfl) (.tmp 10) (.tmp 12) (by rfl) w1.heap.size (.slice (some ⟨w1.heap.size, 0, none⟩) 0 0) [] vS (by rfl) (by exact hEB _) a2 n p2 Hn.out (by rfl) (by first | exact HSA.out _ | exact HSB.out _ _) hp2 (by simp; have := Hn.out; omega) (by simp; try omega) ?_; intro v3 w3 hv3 hg3; rw [List.nil_append] at hv3; obtain ⟨a5, c5, rfl, _⟩ := hv3.shape; have hP3 := (hg3.block w.heap.size (by simp; omega) (by simp [Value.ownBlock]; omega)).trans (by first | exact HPA.out _ | exact HPB.out _ _); obtain ⟨r0, r1, r2, _, _, _⟩ := row5 hP3; obtain ⟨s0, s1, s2, _, _, _⟩ := box_later hP3; have hO3 := (hg3.block (w1.heap.size + 1) (by simp) (by simp [Value.ownBlock])).trans (HZB.out _ _); obtain ⟨o0, o1, o2, o3, o4, of⟩ := row5 hO3; have f0 := of 0; have f1 := of 1; have f2 := of 2; have f3 := of 3; have f4 := of 4; replace hO3 := hide' hO3; clear of; replace hv3 := hide' hv3; replace hg3 := hide' hg3; clear hP3)
      | (refine step_append_seg (by rfl) (.tmp 10) (.tmp 12) (by rfl) w1.heap.size (.slice (some ⟨w1.heap.size + 1, 0, none⟩) 0 0) [] vS (by rfl) (by exact hEC _) a2 n p2 Hn.out (by rfl) (by first | exact HSA.out _ | exact HSB.out _ _) hp2 (by simp; have := Hn.out; omega) (by simp; try omega) ?_; intro v3 w3 hv3 hg3; rw [List.nil_append] at hv3; obtain ⟨a5, c5, rfl, _⟩ := hv3.shape; have hP3 := (hg3.block w.heap.size (by simp; omega) (by simp [Value.ownBlock]; omega)).trans (by first | exact HPA.out _ | exact HPB.out _ _); obtain ⟨r0, r1, r2, _, _, _⟩ := row5 hP3; obtain ⟨s0, s1, s2, _, _, _⟩ := box_later hP3; have hO3 := (hg3.block w1.heap.size (by simp; omega) (by simp [Value.ownBlock])).trans (HZC.out _ _); obtain ⟨o0, o1, o2, o3, o4, of⟩ := row5 hO3; have f0 := of 0; have f1 := of 1; have f2 := of 2; have f3 := of 3; have f4 := of 4; replace hO3 := hide' hO3; clear of; replace hv3 := hide' hv3; replace hg3 := hide' hg3; clear hP3))
    · have hb3 : Below w1.heap.size w1 w3 := ((Below.refl _ w1).alloc (Nat.le_refl _) _).drew.grown hg3.out (by simp) (by intro k hk; simp [Value.ownBlock] at hk; omega)
      go_wp2_with fail
      go_meet
      exact sout_new hv3.out hb3
    · have hb3 : Below w1.heap.size w1 w3 := (((Below.refl _ w1).alloc (Nat.le_refl _) _).alloc (by simp) _).drew.grown hg3.out (by simp; omega) (by intro k hk; simp [Value.ownBlock] at hk; omega)
      go_wp2_with fail
      go_meet
      exact sout_old hv3.out hb3 (by omega) hO3.out
    · have hb3 : Below w1.heap.size w1 w3 := (((Below.refl _ w1).alloc (Nat.le_refl _) _).alloc (by simp) _).drew.grown hg3.out (by simp; omega) (by intro k hk; simp [Value.ownBlock] at hk; omega)
      go_wp2_with fail
      go_meet
      exact sout_old hv3.out hb3 (Nat.le_refl _) hO3.out
  case rest =>
  obtain ⟨O, aS, nS, cS, Bs, rfl, hO, hOx, hTs, hBs, hBn, hbx⟩ := hcut
  have HC := hide' (And.intro hTs (And.intro hBs (And.intro hBn hbx)))
  have hOw : O < wc.heap.size := (Array.getElem?_eq_some_iff.1 hOx).1
  have hPO : ¬ w.heap.size = O := by have := Hz1.out; omega
  have hOP : ¬ O = w.heap.size := by have := Hz1.out; omega
  have HPc : Hid (∀ wr, wc.grownBy wr (some O) → wr.heap[w.heap.size]? = some (.cells #[.int .i64 vk, .int .i64 vn, .slice a2 n p2, .slice a3 n3 p3, .slice a4 n4 p4] 26 (0, 0))) := by
    intro wr hg
    have hz := Hz1.out
    have hzc := hbx.size
    exact (hg.block w.heap.size (by omega) (by simpa using hPO)).trans ((hbx.block _ (by omega)).trans hP)
  have HBw : Hid (∀ wr, wc.grownBy wr (some O) → ∀ b, b < w.heap.size → wr.heap[b]? = w.heap[b]?) := by
    intro wr hg b hb
    have hz := Hz1.out
    have hzc := hbx.size
    exact (hg.block b (by omega) (by simp; omega)).trans ((hbx.block b (by omega)).trans (hb1.block b hb))
  have HRc : Hid (∀ wr, wc.grownBy wr (some O) → wr.heap[w.heap.size + 1]? = some (.cells #[.int .i64 0, .int .i64 0, .slice none 0 0, .slice none 0 0, .slice none 0 0] 26 (0, 0))) := by
    intro wr hg
    have hz := Hz1.out
    have hzc := hbx.size
    exact (hg.block (w.heap.size + 1) (by omega) (by simp; omega)).trans ((hbx.block _ (by omega)).trans hR)
  have HBb : Hid (∀ wr, wc.grownBy wr (some O) → Below w.heap.size w wr) := by
    intro wr hg
    have hz := Hz1.out
    have hzc := hbx.size
    exact (hb1.trans (hbx.mono (by omega))).grown hg (by omega) (by intro k hk; simp at hk; omega)
  have HOx := hide' hOx
  clear hTs hBs hBn hbx hOx hP hR q0 q1 q2 q3 q4 qf l0 l1 l2 l3 l4 lf m0 m1 m2 m3 m4 mf hS1 hS
  go_wp2_with fail
  go_loopw [4] (fun i wr => ∃ k : Nat, k ≤ n3 ∧ i = .int .i64 k ∧ ∃ x cs Bi, KInv wc O (.int .i64 vk) (.int .i64 vn) (.slice aS nS cS) vK k wr x cs Bi) (fun i _ => n3 - (intOf i).toNat)
  case atStart => exact ⟨0, Nat.zero_le _, rfl, _, _, _, HOx.out, RW.nil _ _ _ _ _, World.grownBy.refl _ _⟩
  case round =>
    obtain ⟨k, hk, rfl, x, cs, Bi, hI⟩ := hrel
    have HI := hide' hI
    have hvs : ∃ p c, x = .slice p k c := by
      rcases hI.2.1.2.2.1.2 with ⟨rfl, h0⟩ | ⟨g, cap, cur, rfl, _⟩
      · exact ⟨none, 0, by rw [h0]⟩
      · exact ⟨_, _, rfl⟩
    obtain ⟨vp, vc, rfl⟩ := hvs
    have hPr := HPc.out wr hI.2.2
    obtain ⟨_, _, _, q3, q4, _⟩ := row5 hPr
    obtain ⟨_, _, _, o3, o4, of⟩ := row5 hI.1
    have hzr := hI.2.2.size
    clear hI
    by_cases hkl' : k < n3
    · have hkl2 : (k : Int) < (n3 : Int) := by omega
      have hk0 : (0 : Int) ≤ (k : Int) := Int.natCast_nonneg _
      have hat : ∃ b off ua uc, a3 = some ⟨b, off, none⟩ ∧ b < N ∧ wr.cell? ⟨b, off + k, none⟩ = some (.slice ua (vK.getD k []).length uc) ∧ Seg wr ua (vK.getD k []) ∧ (ua = none → uc = 0) := by
        obtain ⟨a, cap, e, _, _, _, h0 | ⟨b, off, rfl, hb, hc⟩⟩ := HK.out
        · have := Hn3.out; rw [h0] at this; simp at this; omega
        · simp at e
          obtain ⟨u, hu, ua, uc, rfl, hs, _, _, hn, hR⟩ := hc k (by have := Hn3.out; omega)
          have hbw := fun b' (hb' : b' < N) => HBw.out wr HI.out.2.2 b' (by omega)
          refine ⟨b, off, ua, uc, e.1, hb, (World.cell?_of_block (hbw b hb)).trans hu, ⟨hs.1, ?_⟩, hn⟩
          rcases hs.2 with h0 | ⟨b2, o2, rfl, hc2⟩
          · exact .inl h0
          · by_cases he : vK.getD k [] = []
            · exact .inl he
            · exact .inr ⟨b2, o2, rfl, fun i hi => (World.cell?_of_block (hbw b2 (hR _ rfl he))).trans (hc2 i hi)⟩
      obtain ⟨b, off, ua, uc, rfl, hbN, hcu, hsu, hnu⟩ := hat
      have hlk := HKe.out k (by have := Hn3.out; omega)
      have hlt := hkl'
      have hE := bts_empty wr
      have hsA := hsu.grow ((Below.refl _ wr).alloc (Nat.le_refl _) (.cells #[] 5))
      have hBe : Hid (Below wr.heap.size wr (wr.alloc (.cells #[] 5))) := (Below.refl _ _).alloc (Nat.le_refl _) _
      have hPlr : w.heap.size < wr.heap.size := (Array.getElem?_eq_some_iff.1 hPr).1
      have hOlr : O < wr.heap.size := by omega
      obtain ⟨_, _, _, q3o, _, _⟩ := box_later hPr
      obtain ⟨_, _, _, o3o, _, _⟩ := box_later HI.out.1
      have hcuo : ∀ o, (wr.alloc o).cell? ⟨b, off + k, none⟩ = some (.slice ua (vK.getD k []).length uc) := fun o => (World.cell?_of_block (Below.heap_alloc wr o b (by omega))).trans hcu
      have Hv : Hid (∀ w5, Below wr.heap.size wr w5 → w5.ownsRow wc.heap.size 22 1 (.slice vp k vc) k cs.flatten ∧ w5.heap[O]? = some (.cells #[.int .i64 vk, .int .i64 vn, .slice aS nS cS, .slice vp k vc, .slice none 0 0] 26 (0, 0))) := fun w5 hb5 => ⟨HI.out.2.1.2.2.1.kept (row := none) ⟨hb5.os, hb5.tape, hb5.output, hb5.size, fun k hk _ => hb5.block k hk⟩ (by cases hv : (Value.slice vp k vc).ownBlock <;> simp), (hb5.block O hOlr).trans HI.out.1⟩
      generalize hks : vK.getD k [] = xs at *
      have Hks := hide' hks
      generalize hnk : xs.length = nk at *
      clear hks hPr of hsu
      go_wp2_with fail
      go_region_law (first
        | (refine step_append_seg (by rfl) (.tmp 24) (.tmp 29) (by rfl) wr.heap.size (.slice (some ⟨wr.heap.size, 0, none⟩) 0 0) [] xs (by rfl) (by exact hE) ua nk uc hnk.symm (by rfl) (by exact hsA) hnu (by simp; omega) (by simp) ?_; intro v5 w5 hv5 hg5; rw [List.nil_append] at hv5; have hb5 := hide' (hBe.out.drew.grown hg5 (by simp) (by intro j hj; simp [Value.ownBlock] at hj; omega)); obtain ⟨a5, c5, h5, _⟩ := hv5.shape; rw [hnk] at h5; subst h5; obtain ⟨_, _, _, t3, _, _⟩ := row5 (Hv.out w5 hb5.out).2; obtain ⟨_, _, _, t3o, _, _⟩ := box_later (Hv.out w5 hb5.out).2; replace hv5 := hide' hv5; clear hg5 hE hsA)
        | (refine step_append_lies _ (by rfl) (.tmp 23) (.tmp 31) 23 (by rfl) wc.heap.size 22 iT (.slice none 0 0) 1 24 Try.underlying23 hiT hy0 hy1 hy2 rfl (by decide) (.slice vp k vc) k cs.flatten (by rfl) (by first | exact (Hv.out w5 hb5.out).1.alloc _ | exact ((Hv.out w5 hb5.out).1.alloc _).drew) ⟨w5.heap.size, 0, none⟩ 1 1 [.slice a5 nk c5] (by rfl) (by rfl) (World.news_of_block (cs := #[.slice a5 nk c5]) (t := 22) (fr := (0, 0)) (heap_alloc_new w5 _)) (by simp [Value.oneCell']) (by omega) (by unfold maxLen; omega) (by omega) (by have := hb5.out.size; simp; omega) (w5.heap.size + 1) (by simp) ?_; intro g6 cp6 w6 hown6 hg6 hat6 hlt6; obtain ⟨hV6, cs', Bi', hK6⟩ := kinv_step HI.out hOw hb5.out (by rw [Hks.out]; exact hv5.out) hown6 hg6 hat6; obtain ⟨_, _, _, u3, _, uf⟩ := row5 hV6; have uf3 := uf 3; replace hK6 := hide' hK6; clear hown6 hg6 hat6 hlt6 hV6 uf))
      all_goals go_wp2
      all_goals exact ⟨⟨k + 1, by omega, by go_num, _, _, _, hK6.out⟩, by simp [intOf]; omega⟩
    · obtain ⟨w3, hw3⟩ : ∃ w3, w3 = wr := ⟨_, rfl⟩
      subst hw3
      obtain rfl : k = n3 := by omega
      have hkl2 : ¬ (k : Int) < (k : Int) := by omega
      have hRW : RW 22 1 (ItK vK) w3 wc.heap.size (.slice vp k vc) vK.length cs Bi := by rw [Hn3.out]; exact HI.out.2.1
      have HKO := hide' (And.intro hRW.kown (And.intro hRW.2.2.2.2.1 hRW.2.2.2.2.2))
      generalize hBk : (Value.slice vp k vc).ownBlock.toList ++ Bi.flatten = Bk at HKO
      clear hBk hRW of o3 o4
      go_wp2_with fail
      go_loopw [5] (fun i wz => ∃ j : Nat, j ≤ n4 ∧ i = .int .i64 j ∧ ∃ y cs2 Bi2, LInv w3 O (.int .i64 vk) (.int .i64 vn) (.slice aS nS cS) (.slice vp k vc) d vL j wz y cs2 Bi2) (fun i _ => n4 - (intOf i).toNat)
      case atStart => exact ⟨0, Nat.zero_le _, rfl, _, _, _, HI.out.1, RW.nil _ _ _ _ _, World.grownBy.refl _ _⟩
      case round =>
        obtain ⟨j, hj, rfl, y, cs2, Bi2, hJ⟩ := hrel
        have HJ := hide' hJ
        have hys : ∃ p c, y = .slice p j c := by
          rcases hJ.2.1.2.2.1.2 with ⟨rfl, h0⟩ | ⟨g, cap, cur, rfl, _⟩
          · exact ⟨none, 0, by rw [h0]⟩
          · exact ⟨_, _, rfl⟩
        obtain ⟨yp, yc, rfl⟩ := hys
        have HGz : Hid (wc.grownBy wr (some O)) := grownBy_trans HI.out.2.2 hJ.2.2
        have hPz := HPc.out _ HGz.out
        obtain ⟨_, _, _, _, q4, _⟩ := row5 hPz
        obtain ⟨_, _, _, _, o4, of⟩ := row5 hJ.1
        have hzz := hJ.2.2.size
        have hz3 := HI.out.2.2.size
        have hBw := HBb.out _ HGz.out
        clear hJ
        by_cases hjl : j < n4
        · have hjl2 : (j : Int) < (n4 : Int) := by omega
          have hj0 : (0 : Int) ≤ (j : Int) := Int.natCast_nonneg _
          have hjv : j < vL.length := by have := Hn4.out; omega
          obtain ⟨b, off, c, rfl, h5', hv⟩ := HL.out.at hBw hN hjv
          obtain ⟨c0, c1, c2, c3, c4⟩ := c
          obtain ⟨ek, en, s2, e2, r2, s3, e3, r3, s4, e4, r4, rfl, rfl, rfl, rfl, rfl⟩ := VSeg.form d (hv wr hBw)
          obtain ⟨g0, g1, g2, g3, g4⟩ := h5'
          simp only at g0 g1 g2 g3 g4
          have HE : Hid (∀ wy, Below wr.heap.size wr wy → Calls Try.prog 25 #[.agg #[.int .i64 ek, .int .i64 en, .slice s2 e2 r2, .slice s3 e3 r3, .slice s4 e4 r4]] wy (LCall O w3.heap.size d vL j wr (.slice yp j yc) cs2.flatten)) := fun wy hy => (ih N _ _ _ _ _ _ wy (hv wy (Below.on hBw hy)) (by have := (Below.on hBw hy).size; omega) (HLe.out j hjv)).mono fun e w5 he => linv_call HJ.out (by omega) hjv hy he
          clear hv hBw hPz
          go_wp2_with fail
          have HCf := hide' of
          clear of
          go_region_law
            (first
              | (go_simp; go_at_call 25; refine (HE.out _ (by first | exact Below.refl _ _ | exact (Below.refl _ _).drew | exact (Below.refl _ _).drew.drew)).mono ?_; rintro e w5 ⟨uk, un, z2, n2, x2, z3, m3, x3, z4, m4, x4, rfl, Bv, hit, hbv, hbn, b5, hc5, ho5⟩; replace hit := hide' (And.intro hit (And.intro hbv (And.intro hbn (And.intro b5 ho5)))); have hz5 : O < w5.heap.size := (by have := b5.size; omega); have hc5o : ∀ o, (w5.alloc o).cell? ⟨O, 4, none⟩ = some (.slice yp j yc) := (fun o => (World.cell?_of_block (Below.heap_alloc w5 o O hz5)).trans hc5); clear hbv hbn b5 ho5)
              | (refine step_append_lies _ (by rfl) (.tmp 42) (.tmp 49) 24 (by rfl) w3.heap.size 26 iV _ 5 88 Try.underlying24 hiV hz0 hz1' hz2 rfl (by decide) (.slice yp j yc) j cs2.flatten (by rfl) (by first | exact hit.out.2.2.2.2.alloc _ | exact (hit.out.2.2.2.2.alloc _).drew) ⟨w5.heap.size, 0, none⟩ 1 1 [.int .i64 uk, .int .i64 un, .slice z2 n2 x2, .slice z3 m3 x3, .slice z4 m4 x4] (by rfl) (by rfl) (World.news_of_block (cs := #[.int .i64 uk, .int .i64 un, .slice z2 n2 x2, .slice z3 m3 x3, .slice z4 m4 x4]) (t := 26) (fr := (0, 0)) (heap_alloc_new w5 _)) (by simp [Value.oneCell']) (by omega) (by unfold maxLen; omega) (by omega) (by have := hit.out.2.2.2.1.size; simp; omega) (w5.heap.size + 1) (by simp) ?_; intro g cp w6 hown6 hg6 hat6 hlt6; obtain ⟨hV6, hJ6⟩ := linv_step HJ.out (by omega) hit.out.2.2.2.1 hit.out.1 hit.out.2.1 hit.out.2.2.1 hown6 hg6 hat6; obtain ⟨_, _, _, _, hc6, hf6⟩ := row5 hV6; replace hf6 := hf6 4; replace hJ6 := hide' hJ6; clear hown6 hg6 hat6 hlt6 hV6 hit hc5 hc5o))
          all_goals go_wp2
          all_goals exact ⟨⟨j + 1, by omega, by go_num, _, _, _, hJ6.out⟩, by simp [intOf]; omega⟩
        · obtain rfl : j = n4 := by omega
          have hjl2 : ¬ (j : Int) < (j : Int) := by omega
          have hRW : RW 26 5 (ItV d vL) wr w3.heap.size (.slice yp j yc) vL.length cs2 Bi2 := by rw [Hn4.out]; exact HJ.out.2.1
          have HLO := hide' (And.intro hRW.lown (And.intro hRW.2.2.2.2.1 hRW.2.2.2.2.2))
          generalize hBl : (Value.slice yp j yc).ownBlock.toList ++ Bi2.flatten = Bl at HLO
          have hRz := HRc.out _ HGz.out
          obtain ⟨r0, r1, r2, r3, r4, rf⟩ := row5 hRz
          have f0 := rf 0
          have f1 := rf 1
          have f2 := rf 2
          have f3 := rf 3
          have f4 := rf 4
          obtain ⟨oo0, oo1, oo2, oo3, oo4, _⟩ := row5 HJ.out.1
          have HRz := hide' hRz
          have HBw := hide' hBw
          clear hBl hRW of rf hPz hRz hBw o4
          go_wp2_with fail
          have hrow := set5_heap (j := 0) (.int .i64 vk) (.int .i64 vn) (.slice aS nS cS) (.slice vp k vc) (.slice yp j yc) HRz.out
          have hfin := row5 hrow
          simp only [set5, Nat.zero_add] at hfin
          obtain ⟨y0, y1, y2, y3, y4, _⟩ := hfin
          refine bodyPost_ret (v := .agg #[.int .i64 vk, .int .i64 vn, .slice aS nS cS, .slice vp k vc, .slice yp j yc]) (by simp [results, Try.results25, go_sem, y0, y1, y2, y3, y4]) rfl ?_
          have hB5 := set5_grown wr (w.heap.size + 1) 0 (.int .i64 vk) (.int .i64 vn) (.slice aS nS cS) (.slice vp k vc) (.slice yp j yc)
          have hz := Hz1.out
          obtain ⟨hOw2, hbd⟩ := own_end (vk := vk) (vn := vn) HC.out.1 HC.out.2.1 HC.out.2.2.1 HKO.out.1 HKO.out.2.2 HKO.out.2.1 HLO.out.1 HLO.out.2.2 HLO.out.2.1 HI.out.2.2 HJ.out.2.2 hB5 hOw (by omega) HC.out.2.2.2.size
          refine ⟨_, _, _, _, _, rfl, _, hOw2, fun b hb => ?_, HBw.out.grown hB5 (by have := HBw.out.size; omega) (by intro q hq; simp at hq; omega)⟩
          have := hbd b hb
          exact ⟨by omega, this.2⟩

theorem key_len {ks : List (List Int)} {i : Nat} (hi : i < ks.length) : (ks.getD i []).length ≤ szK ks := by
  have h1 := pre_succ List.length ks i hi
  have h2 := pre_le List.length ks (i + 1)
  have h3 : ks.getD i [] = ks[i] := by simp [List.getD_eq_getElem?_getD, hi]
  rw [h3]
  unfold szK
  omega

theorem bnd_of_sz : ∀ (d : Nat) (v : Vl d), szV d v ≤ 1048576 → bndV d v
  | 0, _, _ => trivial
  | d + 1, v, h => by
    have hz' : szV (d + 1) v = szT v.2.2.1 + szK v.2.2.2.1 + szL d v.2.2.2.2 := rfl
    have hT' : szT v.2.2.1 = v.2.2.1.length := rfl
    have hK2 : v.2.2.2.1.length ≤ szK v.2.2.2.1 := by unfold szK; omega
    have hL2 : v.2.2.2.2.length ≤ szL d v.2.2.2.2 := by unfold szL; omega
    exact ⟨by omega, by omega, fun i hi => by have := key_len hi; omega, by omega, fun i hi => bnd_of_sz d _ (by have := sz_elem hi; omega)⟩

theorem l2own_bnd (d : Nat) : OwnAt d := by
  induction d with
  | zero => intro N c0 c1 c2 c3 c4 v w hv; exact hv.elim
  | succ d ih =>
    intro N c0 c1 c2 c3 c4 v w hv hN hs
    obtain ⟨vk, vn, vS, vK, vL⟩ := v
    obtain ⟨e0, e1, hT, hK, hL⟩ := (VSeg_succ _ _ _ _ _).1 hv
    simp only at e0 e1 hT hK hL
    subst e0
    subst e1
    have hK' := hK
    have hL' := hL
    obtain ⟨a2, p2, rfl, hS, _, _, h5, h6⟩ := hT
    obtain ⟨a3, p3, rfl, _⟩ := hK'
    obtain ⟨a4, p4, rfl, _⟩ := hL'
    obtain ⟨b1, b2, b3, b4, b5⟩ := hs
    exact l2own_walk vk vn vS vK d vL a2 p2 a3 p3 a4 p4 N ih w hS h6 hN h5 b1 hK hL b2 b3 b4 b5

theorem l2own_any (d N : Nat) (c0 c1 c2 c3 c4 : Value) (v : Vl d) (w : World) (hv : VSeg (fun b => b < N) w d (c0, c1, c2, c3, c4) v) (hN : N ≤ w.heap.size) (hs : szV d v ≤ 1048576) : Calls Try.prog 25 #[.agg #[c0, c1, c2, c3, c4]] w (ValEnd d v w) :=
  l2own_bnd d N c0 c1 c2 c3 c4 v w hv hN (bnd_of_sz d v hs)
end Go.Proofs.Ytenfnbnhdmkhkaa
