/-
  Texts that a law leans on, one behind the other; no statement is proved here.
-/
import Derived.Test.YtbmgkmnibjdpiaaGreatDoorPk27
import Derived.Test.YtbmgkmnibjdpiaaGreatDoorPk0
import Derived.Deep.Cut
import Derived.Deep.CutRange
import Derived.Deep.AppendLies
import Derived.Deep.RegionHeld3
import Derived.Test.YtbmgkmnibjdpiaaGreatDoorPk25
import Derived.Test.YtbmgkmnibjdpiaaGreatDoorPk10
import Derived.Test.YtbmgkmnibjdpiaaGreatDoorPk14
import Derived.Test.YtbmgkmnibjdpiaaGreatDoorPk17
/-
  l2own of the specification: the walk.
-/
namespace Go.Proofs.YtbmgkmnibjdpiaaGreatDoor
open Go.RowKit
set_option linter.unusedVariables false
set_option linter.unusedSimpArgs false

/-- Behind the first statement: out's box, with a text of the call's own. -/
def SOut (w1 : World) (vk vn : Int) (vS : List Int) (s3 : Value) (wx : World) : Prop :=
  ∃ O a n c Bs, s3 = .pointer (some ⟨O, 0, none⟩) ∧ w1.heap.size ≤ O ∧ wx.heap[O]? = some (.cells #[.int .i64 vk, .int .i64 vn, .slice a n c, .slice none 0 0, .slice none 0 0] 37 (0, 0)) ∧ TOwn wx (.slice a n c) vS Bs ∧ (∀ b ∈ Bs, w1.heap.size ≤ b ∧ b < wx.heap.size ∧ b ≠ O) ∧ Bs.Nodup ∧ Below w1.heap.size w1 wx

theorem sout_of {w1 w3 wx : World} {vk vn : Int} {vS : List Int} {v3 : Value} {O : Nat} (hv : Bts w3 w1.heap.size v3 vS) (hO : w1.heap.size ≤ O) (hne : ∀ b, v3.ownBlock = some b → b ≠ O) (hx : wx.heap[O]? = some (.cells #[.int .i64 vk, .int .i64 vn, v3, .slice none 0 0, .slice none 0 0] 37 (0, 0))) (hb : ∀ b, b < w3.heap.size → b ≠ O → wx.heap[b]? = w3.heap[b]?) (hz : w3.heap.size ≤ wx.heap.size) (hbel : Below w1.heap.size w1 wx) : SOut w1 vk vn vS (.pointer (some ⟨O, 0, none⟩)) wx := by
  obtain ⟨Bs, hT, hBs, hBn⟩ := tOwn_of hv
  have hmem : ∀ b ∈ Bs, b ≠ O := by
    intro b hb'
    rcases hT.2 with ⟨_, rfl⟩ | ⟨g, cap, rfl, rfl⟩
    · simp at hb'
    · simp at hb'
      subst hb'
      exact hne b rfl
  obtain ⟨a, c, rfl, _⟩ := hv.shape
  refine ⟨O, a, vS.length, c, Bs, rfl, hO, hx, hT.agree fun b hb' => hb b (hBs b hb').2 (hmem b hb'), fun b hb' => ?_, hBn, hbel⟩
  have := hBs b hb'
  exact ⟨this.1, by omega, hmem b hb'⟩

theorem own_apart {w : World} {base O : Nat} {v : Value} {xs : List Int} {cs : Array Value} {fr : Nat × Nat} (h : Bts w base v xs) (hO : w.heap[O]? = some (.cells cs 37 fr)) : ∀ b, v.ownBlock = some b → b ≠ O := by
  rintro b hb rfl
  rcases h.2.2 with ⟨rfl, _⟩ | ⟨g, cap, cur, rfl, _, hh, _⟩
  · simp [Value.ownBlock] at hb
  · simp [Value.ownBlock] at hb
    subst hb
    rw [hh] at hO
    simp at hO

theorem arr5 (c0 c1 c2 c3 c4 d0 d1 d2 d3 d4 : Value) : arrSet5 #[c0, c1, c2, c3, c4] 0 d0 d1 d2 d3 d4 = #[d0, d1, d2, d3, d4] := by rfl

/-- The three ways through the first statement. -/
theorem sout_new {w1 w3 : World} {vk vn : Int} {vS : List Int} {v3 : Value} (hv : Bts w3 w1.heap.size v3 vS) (hb : Below w1.heap.size w1 w3) : SOut w1 vk vn vS (.pointer (some ⟨w3.heap.size, 0, none⟩)) (w3.alloc (.cells #[.int .i64 vk, .int .i64 vn, v3, .slice none 0 0, .slice none 0 0] 37)) :=
  sout_of hv hb.size (fun b hb' => by have := (hv.2.lt b hb').2; omega) (heap_alloc_new w3 _) (fun b hb' _ => Below.heap_alloc _ _ _ hb') (by simp) (hb.alloc hb.size _)
theorem sout_old {w1 w3 : World} {vk vn : Int} {vS : List Int} {v3 c0 c1 c2 c3 c4 : Value} {O : Nat} (hv : Bts w3 w1.heap.size v3 vS) (hb : Below w1.heap.size w1 w3) (hO : w1.heap.size ≤ O) (hr : w3.heap[O]? = some (.cells #[c0, c1, c2, c3, c4] 37 (0, 0))) : SOut w1 vk vn vS (.pointer (some ⟨O, 0, none⟩)) (set5 w3 O 0 (.int .i64 vk) (.int .i64 vn) v3 (.slice none 0 0) (.slice none 0 0)) := by
  have hg := set5_grown w3 O 0 (.int .i64 vk) (.int .i64 vn) v3 (.slice none 0 0) (.slice none 0 0)
  have hs := set5_heap (j := 0) (.int .i64 vk) (.int .i64 vn) v3 (.slice none 0 0) (.slice none 0 0) hr
  rw [arr5] at hs
  exact sout_of hv hO (own_apart hv hr) hs (fun b hb' hne => hg.block b hb' (by simpa using hne)) (by rw [set5_size]; exact Nat.le_refl _) (hb.grown hg hb.size (by intro k hk; simp at hk; omega))

set_option maxHeartbeats 6400000 in
set_option maxRecDepth 100000 in
theorem l2own_walk (vk vn : Int) (vS : List Int) (vK : List (List Int)) (d : Nat) (vL : List (Vl d)) (a2 : Option Addr) (p2 : Nat) (a3 : Option Addr) (p3 : Nat) (a4 : Option Addr) (p4 : Nat) (N : Nat) (ih : OwnAt d) (w : World) (hS : Seg w a2 vS) (hSb : ∀ x, a2 = some x → vS ≠ [] → x.block < N) (hN : N ≤ w.heap.size) (hp2 : a2 = none → p2 = 0) (hl : vS.length ≤ 1048576)
    (hK : KSeg (fun b => b < N) w (.slice a3 vK.length p3) vK) (hL : LSeg (fun b => b < N) w d (.slice a4 vL.length p4) vL) (hkl : vK.length ≤ 1048576) (hke : ∀ i, i < vK.length → (vK.getD i []).length ≤ 1048576) (hll : vL.length ≤ 1048576) (hle : ∀ i (h : i < vL.length), szV d vL[i] ≤ 1048576) :
    Calls Tryz.prog 47 #[.agg #[.int .i64 vk, .int .i64 vn, .slice a2 vS.length p2, .slice a3 vK.length p3, .slice a4 vL.length p4]] w (ValEnd (d + 1) (vk, vn, vS, vK, vL) w) := by
  obtain ⟨iT, hiT, hy0, hy1, hy2⟩ := info_parts infoT
  obtain ⟨iV, hiV, hz0, hz1', hz2⟩ := info_parts info_valueT
  have HK := hide' hK
  have HL := hide' hL
  have HKe := hide' hke
  have HLe := hide' hle
  clear hK hL hke hle
  generalize hn3 : vK.length = n3 at *
  generalize hn4 : vL.length = n4 at hll HL ⊢
  have Hn3 : Hid (vK.length = n3) := hn3
  have Hn4 : Hid (vL.length = n4) := hn4
  clear hn3 hn4
  have HB1 : Hid (∀ o o' : Obj, Below w.heap.size w ((w.alloc o).alloc o') ∧ ((w.alloc o).alloc o').heap[w.heap.size]? = some o ∧ ((w.alloc o).alloc o').heap[w.heap.size + 1]? = some o' ∧ ((w.alloc o).alloc o').heap.size = w.heap.size + 2) := fun o o' => ⟨((Below.refl _ _).alloc (Nat.le_refl _) o).alloc (by simp) o', (Below.heap_alloc _ _ _ (by simp)).trans (heap_alloc_new w o), by have := heap_alloc_new (w.alloc o) o'; simpa using this, by simp⟩
  generalize hn : vS.length = n at *
  have Hn : Hid (n = vS.length) := hn.symm
  clear hn
  go_enter Tryz.func47, Tryz.ntmps47
  go_upto_region 1 with fail
  obtain ⟨hb1, hP, hR, hz1⟩ := HB1.out (.cells #[.int .i64 vk, .int .i64 vn, .slice a2 n p2, .slice a3 n3 p3, .slice a4 n4 p4] 37) (.cells #[.int .i64 0, .int .i64 0, .slice none 0 0, .slice none 0 0, .slice none 0 0] 37)
  generalize hw1 : ((w.alloc (.cells #[.int .i64 vk, .int .i64 vn, .slice a2 n p2, .slice a3 n3 p3, .slice a4 n4 p4] 37)).alloc (.cells #[.int .i64 0, .int .i64 0, .slice none 0 0, .slice none 0 0, .slice none 0 0] 37)) = w1 at *
  have Hz1 := hide' hz1
  clear hw1 HB1 hz1
  have hS1 : Seg w1 a2 vS := hS.below hb1 fun x hx he => by have := hSb x hx he; omega
  obtain ⟨q0, q1, q2, q3, q4, qf⟩ := row5 hP
  obtain ⟨l0, l1, l2, l3, l4, lf⟩ := box_later hP
  obtain ⟨m0, m1, m2, m3, m4, mf⟩ := box_later2 hP
  go_cut [3] from 6 to 14 (fun s3 wx => SOut w1 vk vn vS s3 wx)
  case first =>
    have hEA := bts_empty w1
    have hEB := fun o => (bts_empty w1).alloc o
    have hEC : ∀ o : Obj, Bts ((w1.alloc o).alloc (.cells #[] 5)) w1.heap.size (.slice (some ⟨(w1.alloc o).heap.size, 0, none⟩) 0 0) [] := fun o => (bts_empty (w1.alloc o)).mono (by simp)
    simp only [World.size_alloc] at hEC
    have HS := hide' hS1
    have HPP := hide' hP
    clear hS1 hP hR qf lf mf q3 q4 l3 l4 m3 m4 hS
    have HZB : Hid (∀ o o' : Obj, ((w1.alloc o).alloc o').heap[w1.heap.size + 1]? = some o') := fun o o' => by show _ = _; have := heap_alloc_new (w1.alloc o) o'; simpa using this
    have HZC : Hid (∀ o o' : Obj, ((w1.alloc o).alloc o').heap[w1.heap.size]? = some o) := fun o o' => (Below.heap_alloc _ _ _ (by simp)).trans (heap_alloc_new w1 o)
    have HSA : Hid (∀ o, Seg (w1.alloc o) a2 vS) := fun o => HS.out.grow ((Below.refl _ _).alloc (Nat.le_refl _) o)
    have HSB : Hid (∀ o o', Seg ((w1.alloc o).alloc o') a2 vS) := fun o o' => HS.out.grow (((Below.refl _ _).alloc (Nat.le_refl _) o).alloc (by simp) o')
    have hPlt : w.heap.size < w1.heap.size := by have := Hz1.out; omega
    have HPA : Hid (∀ o : Obj, (w1.alloc o).heap[w.heap.size]? = some (.cells #[.int .i64 vk, .int .i64 vn, .slice a2 n p2, .slice a3 n3 p3, .slice a4 n4 p4] 37 (0, 0))) := fun o => (Below.heap_alloc _ _ _ hPlt).trans HPP.out
    have HPB : Hid (∀ o o' : Obj, ((w1.alloc o).alloc o').heap[w.heap.size]? = some (.cells #[.int .i64 vk, .int .i64 vn, .slice a2 n p2, .slice a3 n3 p3, .slice a4 n4 p4] 37 (0, 0))) := fun o o' => (Below.heap_alloc _ _ _ (by simp; omega)).trans (HPA.out o)
    have hn1 : ¬ w1.heap.size = w.heap.size := by omega
    have hn2 : ¬ w.heap.size = w1.heap.size := by omega
    have hn3 : ¬ w1.heap.size + 1 = w.heap.size := by omega
    have hn4 : ¬ w.heap.size = w1.heap.size + 1 := by omega
    go_region_held3 (fun wx => wx.cell? ⟨w.heap.size, 0, none⟩ = some (.int .i64 vk) ∧ wx.cell? ⟨w.heap.size, 1, none⟩ = some (.int .i64 vn) ∧ wx.cell? ⟨w.heap.size, 2, none⟩ = some (.slice a2 n p2)) (go_keep) (first
      | (refine step_append_seg (by rfl) (.tmp 10) (.tmp 12) (by rfl) w1.heap.size (.slice (some ⟨w1.heap.size, 0, none⟩) 0 0) [] vS (by rfl) (by exact hEA) a2 n p2 Hn.out (by rfl) (by first | exact HSA.out _ | exact HSB.out _ _) hp2 (by simp; have := Hn.out; omega) (by simp; try omega) ?_; intro v3 w3 hv3 hg3; rw [List.nil_append] at hv3; obtain ⟨a5, c5, rfl, _⟩ := hv3.shape; have hP3 := (hg3.block w.heap.size (by simp; omega) (by simp [Value.ownBlock]; omega)).trans (by first | exact HPA.out _ | exact HPB.out _ _); obtain ⟨r0, r1, r2, _, _, _⟩ := row5 hP3; obtain ⟨s0, s1, s2, _, _, _⟩ := box_later hP3; have hkind : 0 = 0 := rfl; replace hv3 := hide' hv3; replace hg3 := hide' hg3; clear hP3)
      | (refine step_append_seg (by rfl) (.tmp 10) (.tmp 12) (by rfl) w1.heap.size (.slice (some ⟨w1.heap.size, 0, none⟩) 0 0) [] vS (by rfl) (by exact hEB _) a2 n p2 Hn.out (by rfl) (by first | exact HSA.out _ | exact HSB.out _ _) hp2 (by simp; have := Hn.out; omega) (by simp; try omega) ?_; intro v3 w3 hv3 hg3; rw [List.nil_append] at hv3; obtain ⟨a5, c5, rfl, _⟩ := hv3.shape; have hP3 := (hg3.block w.heap.size (by simp; omega) (by simp [Value.ownBlock]; omega)).trans (by first | exact HPA.out _ | exact HPB.out _ _); obtain ⟨r0, r1, r2, _, _, _⟩ := row5 hP3; obtain ⟨s0, s1, s2, _, _, _⟩ := box_later hP3; have hO3 := (hg3.block (w1.heap.size + 1) (by simp) (by simp [Value.ownBlock])).trans (HZB.out _ _); obtain ⟨o0, o1, o2, o3, o4, of⟩ := row5 hO3; have f0 := of 0; have f1 := of 1; have f2 := of 2; have f3 := of 3; have f4 := of 4; replace hO3 := hide' hO3; clear of; replace hv3 := hide' hv3; replace hg3 := hide' hg3; clear hP3)
      | (refine step_append_seg (by rfl) (.tmp 10) (.tmp 12) (by rfl) w1.heap.size (.slice (some ⟨w1.heap.size + 1, 0, none⟩) 0 0) [] vS (by rfl) (by exact hEC _) a2 n p2 Hn.out (by rfl) (by first | exact HSA.out _ | exact HSB.out _ _) hp2 (by simp; have := Hn.out; omega) (by simp; try omega) ?_; intro v3 w3 hv3 hg3; rw [List.nil_append] at hv3; obtain ⟨a5, c5, rfl, _⟩ := hv3.shape; have hP3 := (hg3.block w.heap.size (by simp; omega) (by simp [Value.ownBlock]; omega)).trans (by first | exact HPA.out _ | exact HPB.out _ _); obtain ⟨r0, r1, r2, _, _, _⟩ := row5 hP3; obtain ⟨s0, s1, s2, _, _, _⟩ := box_later hP3; have hO3 := (hg3.block w1.heap.size (by simp; omega) (by simp [Value.ownBlock])).trans (HZC.out _ _); obtain ⟨o0, o1, o2, o3, o4, of⟩ := row5 hO3; have f0 := of 0; have f1 := of 1; have f2 := of 2; have f3 := of 3; have f4 := of 4; replace hO3 := hide' hO3; clear of; replace hv3 := hide' hv3; replace hg3 := hide' hg3; clear hP3))
    · have hb3 : Below w1.heap.size w1 w3 := ((Below.refl _ w1).alloc (Nat.le_refl _) _).drew.grown hg3.out (by simp) (by intro k hk; simp [Value.ownBlock] at hk; omega)
      go_wp2_with fail
      go_meet
      exact sout_new hv3.out hb3
    · have hb3 : Below w1.heap.size w1 w3 := (((Below.refl _ w1).alloc (Nat.le_refl _) _).alloc (by simp) _).drew.grown hg3.out (by simp; omega) (by intro k hk; simp [Value.ownBlock] at hk; omega)
      go_wp2_with fail
      go_meet
      exact sout_old hv3.out hb3 (by omega) hO3.out
    · have hb3 : Below w1.heap.size w1 w3 := (((Below.refl _ w1).alloc (Nat.le_refl _) _).alloc (by simp) _).drew.grown hg3.out (by simp; omega) (by intro k hk; simp [Value.ownBlock] at hk; omega)
      go_wp2_with fail
      go_meet
      exact sout_old hv3.out hb3 (Nat.le_refl _) hO3.out
  case rest =>
  obtain ⟨O, aS, nS, cS, Bs, rfl, hO, hOx, hTs, hBs, hBn, hbx⟩ := hcut
  have HC := hide' (And.intro hTs (And.intro hBs (And.intro hBn hbx)))
  have hOw : O < wc.heap.size := (Array.getElem?_eq_some_iff.1 hOx).1
  have hPO : ¬ w.heap.size = O := by have := Hz1.out; omega
  have hOP : ¬ O = w.heap.size := by have := Hz1.out; omega
  have HPc : Hid (∀ wr, wc.grownBy wr (some O) → wr.heap[w.heap.size]? = some (.cells #[.int .i64 vk, .int .i64 vn, .slice a2 n p2, .slice a3 n3 p3, .slice a4 n4 p4] 37 (0, 0))) := by
    intro wr hg
    have hz := Hz1.out
    have hzc := hbx.size
    exact (hg.block w.heap.size (by omega) (by simpa using hPO)).trans ((hbx.block _ (by omega)).trans hP)
  have HBw : Hid (∀ wr, wc.grownBy wr (some O) → ∀ b, b < w.heap.size → wr.heap[b]? = w.heap[b]?) := by
    intro wr hg b hb
    have hz := Hz1.out
    have hzc := hbx.size
    exact (hg.block b (by omega) (by simp; omega)).trans ((hbx.block b (by omega)).trans (hb1.block b hb))
  have HRc : Hid (∀ wr, wc.grownBy wr (some O) → wr.heap[w.heap.size + 1]? = some (.cells #[.int .i64 0, .int .i64 0, .slice none 0 0, .slice none 0 0, .slice none 0 0] 37 (0, 0))) := by
    intro wr hg
    have hz := Hz1.out
    have hzc := hbx.size
    exact (hg.block (w.heap.size + 1) (by omega) (by simp; omega)).trans ((hbx.block _ (by omega)).trans hR)
  have HBb : Hid (∀ wr, wc.grownBy wr (some O) → Below w.heap.size w wr) := by
    intro wr hg
    have hz := Hz1.out
    have hzc := hbx.size
    exact (hb1.trans (hbx.mono (by omega))).grown hg (by omega) (by intro k hk; simp at hk; omega)
  have HOx := hide' hOx
  clear hTs hBs hBn hbx hOx hP hR q0 q1 q2 q3 q4 qf l0 l1 l2 l3 l4 lf m0 m1 m2 m3 m4 mf hS1 hS
  go_wp2_with fail
  go_loopw [4] (fun i wr => ∃ k : Nat, k ≤ n3 ∧ i = .int .i64 k ∧ ∃ x cs Bi, KInv wc O (.int .i64 vk) (.int .i64 vn) (.slice aS nS cS) vK k wr x cs Bi) (fun i _ => n3 - (intOf i).toNat)
  case atStart => exact ⟨0, Nat.zero_le _, rfl, _, _, _, HOx.out, RW.nil _ _ _ _ _, World.grownBy.refl _ _⟩
  case round =>
    obtain ⟨k, hk, rfl, x, cs, Bi, hI⟩ := hrel
    have HI := hide' hI
    have hvs : ∃ p c, x = .slice p k c := by
      rcases hI.2.1.2.2.1.2 with ⟨rfl, h0⟩ | ⟨g, cap, cur, rfl, _⟩
      · exact ⟨none, 0, by rw [h0]⟩
      · exact ⟨_, _, rfl⟩
    obtain ⟨vp, vc, rfl⟩ := hvs
    have hPr := HPc.out wr hI.2.2
    obtain ⟨_, _, _, q3, q4, _⟩ := row5 hPr
    obtain ⟨_, _, _, o3, o4, of⟩ := row5 hI.1
    have hzr := hI.2.2.size
    clear hI
    by_cases hkl' : k < n3
    · have hkl2 : (k : Int) < (n3 : Int) := by omega
      have hk0 : (0 : Int) ≤ (k : Int) := Int.natCast_nonneg _
      have hat : ∃ b off ua uc, a3 = some ⟨b, off, none⟩ ∧ b < N ∧ wr.cell? ⟨b, off + k, none⟩ = some (.slice ua (vK.getD k []).length uc) ∧ Seg wr ua (vK.getD k []) ∧ (ua = none → uc = 0) := by
        obtain ⟨a, cap, e, _, _, _, h0 | ⟨b, off, rfl, hb, hc⟩⟩ := HK.out
        · have := Hn3.out; rw [h0] at this; simp at this; omega
        · simp at e
          obtain ⟨u, hu, ua, uc, rfl, hs, _, _, hn, hR⟩ := hc k (by have := Hn3.out; omega)
          have hbw := fun b' (hb' : b' < N) => HBw.out wr HI.out.2.2 b' (by omega)
          refine ⟨b, off, ua, uc, e.1, hb, (World.cell?_of_block (hbw b hb)).trans hu, ⟨hs.1, ?_⟩, hn⟩
          rcases hs.2 with h0 | ⟨b2, o2, rfl, hc2⟩
          · exact .inl h0
          · by_cases he : vK.getD k [] = []
            · exact .inl he
            · exact .inr ⟨b2, o2, rfl, fun i hi => (World.cell?_of_block (hbw b2 (hR _ rfl he))).trans (hc2 i hi)⟩
      obtain ⟨b, off, ua, uc, rfl, hbN, hcu, hsu, hnu⟩ := hat
      have hlk := HKe.out k (by have := Hn3.out; omega)
      have hlt := hkl'
      have hE := bts_empty wr
      have hsA := hsu.grow ((Below.refl _ wr).alloc (Nat.le_refl _) (.cells #[] 5))
      have hBe : Hid (Below wr.heap.size wr (wr.alloc (.cells #[] 5))) := (Below.refl _ _).alloc (Nat.le_refl _) _
      have hPlr : w.heap.size < wr.heap.size := (Array.getElem?_eq_some_iff.1 hPr).1
      have hOlr : O < wr.heap.size := by omega
      obtain ⟨_, _, _, q3o, _, _⟩ := box_later hPr
      obtain ⟨_, _, _, o3o, _, _⟩ := box_later HI.out.1
      have hcuo : ∀ o, (wr.alloc o).cell? ⟨b, off + k, none⟩ = some (.slice ua (vK.getD k []).length uc) := fun o => (World.cell?_of_block (Below.heap_alloc wr o b (by omega))).trans hcu
      have Hv : Hid (∀ w5, Below wr.heap.size wr w5 → w5.ownsRow wc.heap.size 22 1 (.slice vp k vc) k cs.flatten ∧ w5.heap[O]? = some (.cells #[.int .i64 vk, .int .i64 vn, .slice aS nS cS, .slice vp k vc, .slice none 0 0] 37 (0, 0))) := fun w5 hb5 => ⟨HI.out.2.1.2.2.1.kept (row := none) ⟨hb5.os, hb5.tape, hb5.output, hb5.size, fun k hk _ => hb5.block k hk⟩ (by cases hv : (Value.slice vp k vc).ownBlock <;> simp), (hb5.block O hOlr).trans HI.out.1⟩
      generalize hks : vK.getD k [] = xs at *
      have Hks := hide' hks
      generalize hnk : xs.length = nk at *
      clear hks hPr of hsu
      go_wp2_with fail
      go_region_law (first
        | (refine step_append_seg (by rfl) (.tmp 24) (.tmp 29) (by rfl) wr.heap.size (.slice (some ⟨wr.heap.size, 0, none⟩) 0 0) [] xs (by rfl) (by exact hE) ua nk uc hnk.symm (by rfl) (by exact hsA) hnu (by simp; omega) (by simp) ?_; intro v5 w5 hv5 hg5; rw [List.nil_append] at hv5; have hb5 := hide' (hBe.out.drew.grown hg5 (by simp) (by intro j hj; simp [Value.ownBlock] at hj; omega)); obtain ⟨a5, c5, h5, _⟩ := hv5.shape; rw [hnk] at h5; subst h5; obtain ⟨_, _, _, t3, _, _⟩ := row5 (Hv.out w5 hb5.out).2; obtain ⟨_, _, _, t3o, _, _⟩ := box_later (Hv.out w5 hb5.out).2; replace hv5 := hide' hv5; clear hg5 hE hsA)
        | (refine step_append_lies _ (by rfl) (.tmp 23) (.tmp 31) 34 (by rfl) wc.heap.size 22 iT (.slice none 0 0) 1 24 Tryz.underlying34 hiT hy0 hy1 hy2 rfl (by decide) (.slice vp k vc) k cs.flatten (by rfl) (by first | exact (Hv.out w5 hb5.out).1.alloc _ | exact ((Hv.out w5 hb5.out).1.alloc _).drew) ⟨w5.heap.size, 0, none⟩ 1 1 [.slice a5 nk c5] (by rfl) (by rfl) (World.news_of_block (cs := #[.slice a5 nk c5]) (t := 22) (fr := (0, 0)) (heap_alloc_new w5 _)) (by simp [Value.oneCell']) (by omega) (by unfold maxLen; omega) (by omega) (by have := hb5.out.size; simp; omega) (w5.heap.size + 1) (by simp) ?_; intro g6 cp6 w6 hown6 hg6 hat6 hlt6; obtain ⟨hV6, cs', Bi', hK6⟩ := kinv_step HI.out hOw hb5.out (by rw [Hks.out]; exact hv5.out) hown6 hg6 hat6; obtain ⟨_, _, _, u3, _, uf⟩ := row5 hV6; have uf3 := uf 3; replace hK6 := hide' hK6; clear hown6 hg6 hat6 hlt6 hV6 uf))
      all_goals go_wp2
      all_goals exact ⟨⟨k + 1, by omega, by go_num, _, _, _, hK6.out⟩, by simp [intOf]; omega⟩
    · obtain ⟨w3, hw3⟩ : ∃ w3, w3 = wr := ⟨_, rfl⟩
      subst hw3
      obtain rfl : k = n3 := by omega
      have hkl2 : ¬ (k : Int) < (k : Int) := by omega
      have hRW : RW 22 1 (ItK vK) w3 wc.heap.size (.slice vp k vc) vK.length cs Bi := by rw [Hn3.out]; exact HI.out.2.1
      have HKO := hide' (And.intro hRW.kown (And.intro hRW.2.2.2.2.1 hRW.2.2.2.2.2))
      generalize hBk : (Value.slice vp k vc).ownBlock.toList ++ Bi.flatten = Bk at HKO
      clear hBk hRW of o3 o4
      go_wp2_with fail
      go_loopw [5] (fun i wz => ∃ j : Nat, j ≤ n4 ∧ i = .int .i64 j ∧ ∃ y cs2 Bi2, LInv w3 O (.int .i64 vk) (.int .i64 vn) (.slice aS nS cS) (.slice vp k vc) d vL j wz y cs2 Bi2) (fun i _ => n4 - (intOf i).toNat)
      case atStart => exact ⟨0, Nat.zero_le _, rfl, _, _, _, HI.out.1, RW.nil _ _ _ _ _, World.grownBy.refl _ _⟩
      case round =>
        obtain ⟨j, hj, rfl, y, cs2, Bi2, hJ⟩ := hrel
        have HJ := hide' hJ
        have hys : ∃ p c, y = .slice p j c := by
          rcases hJ.2.1.2.2.1.2 with ⟨rfl, h0⟩ | ⟨g, cap, cur, rfl, _⟩
          · exact ⟨none, 0, by rw [h0]⟩
          · exact ⟨_, _, rfl⟩
        obtain ⟨yp, yc, rfl⟩ := hys
        have HGz : Hid (wc.grownBy wr (some O)) := grownBy_trans HI.out.2.2 hJ.2.2
        have hPz := HPc.out _ HGz.out
        obtain ⟨_, _, _, _, q4, _⟩ := row5 hPz
        obtain ⟨_, _, _, _, o4, of⟩ := row5 hJ.1
        have hzz := hJ.2.2.size
        have hz3 := HI.out.2.2.size
        have hBw := HBb.out _ HGz.out
        clear hJ
        by_cases hjl : j < n4
        · have hjl2 : (j : Int) < (n4 : Int) := by omega
          have hj0 : (0 : Int) ≤ (j : Int) := Int.natCast_nonneg _
          have hjv : j < vL.length := by have := Hn4.out; omega
          obtain ⟨b, off, c, rfl, h5', hv⟩ := HL.out.at hBw hN hjv
          obtain ⟨c0, c1, c2, c3, c4⟩ := c
          obtain ⟨ek, en, s2, e2, r2, s3, e3, r3, s4, e4, r4, rfl, rfl, rfl, rfl, rfl⟩ := VSeg.form d (hv wr hBw)
          obtain ⟨g0, g1, g2, g3, g4⟩ := h5'
          simp only at g0 g1 g2 g3 g4
          have HE : Hid (∀ wy, Below wr.heap.size wr wy → Calls Tryz.prog 47 #[.agg #[.int .i64 ek, .int .i64 en, .slice s2 e2 r2, .slice s3 e3 r3, .slice s4 e4 r4]] wy (LCall O w3.heap.size d vL j wr (.slice yp j yc) cs2.flatten)) := fun wy hy => (ih N _ _ _ _ _ _ wy (hv wy (Below.on hBw hy)) (by have := (Below.on hBw hy).size; omega) (HLe.out j hjv)).mono fun e w5 he => linv_call HJ.out (by omega) hjv hy he
          clear hv hBw hPz
          go_wp2_with fail
          have HCf := hide' of
          clear of
          go_region_law
            (first
              | (go_simp; go_at_call 47; refine (HE.out _ (by first | exact Below.refl _ _ | exact (Below.refl _ _).drew | exact (Below.refl _ _).drew.drew)).mono ?_; rintro e w5 ⟨uk, un, z2, n2, x2, z3, m3, x3, z4, m4, x4, rfl, Bv, hit, hbv, hbn, b5, hc5, ho5⟩; replace hit := hide' (And.intro hit (And.intro hbv (And.intro hbn (And.intro b5 ho5)))); have hz5 : O < w5.heap.size := (by have := b5.size; omega); have hc5o : ∀ o, (w5.alloc o).cell? ⟨O, 4, none⟩ = some (.slice yp j yc) := (fun o => (World.cell?_of_block (Below.heap_alloc w5 o O hz5)).trans hc5); clear hbv hbn b5 ho5)
              | (refine step_append_lies _ (by rfl) (.tmp 42) (.tmp 49) 35 (by rfl) w3.heap.size 37 iV _ 5 88 Tryz.underlying35 hiV hz0 hz1' hz2 rfl (by decide) (.slice yp j yc) j cs2.flatten (by rfl) (by first | exact hit.out.2.2.2.2.alloc _ | exact (hit.out.2.2.2.2.alloc _).drew) ⟨w5.heap.size, 0, none⟩ 1 1 [.int .i64 uk, .int .i64 un, .slice z2 n2 x2, .slice z3 m3 x3, .slice z4 m4 x4] (by rfl) (by rfl) (World.news_of_block (cs := #[.int .i64 uk, .int .i64 un, .slice z2 n2 x2, .slice z3 m3 x3, .slice z4 m4 x4]) (t := 37) (fr := (0, 0)) (heap_alloc_new w5 _)) (by simp [Value.oneCell']) (by omega) (by unfold maxLen; omega) (by omega) (by have := hit.out.2.2.2.1.size; simp; omega) (w5.heap.size + 1) (by simp) ?_; intro g cp w6 hown6 hg6 hat6 hlt6; obtain ⟨hV6, hJ6⟩ := linv_step HJ.out (by omega) hit.out.2.2.2.1 hit.out.1 hit.out.2.1 hit.out.2.2.1 hown6 hg6 hat6; obtain ⟨_, _, _, _, hc6, hf6⟩ := row5 hV6; replace hf6 := hf6 4; replace hJ6 := hide' hJ6; clear hown6 hg6 hat6 hlt6 hV6 hit hc5 hc5o))
          all_goals go_wp2
          all_goals exact ⟨⟨j + 1, by omega, by go_num, _, _, _, hJ6.out⟩, by simp [intOf]; omega⟩
        · obtain rfl : j = n4 := by omega
          have hjl2 : ¬ (j : Int) < (j : Int) := by omega
          have hRW : RW 37 5 (ItV d vL) wr w3.heap.size (.slice yp j yc) vL.length cs2 Bi2 := by rw [Hn4.out]; exact HJ.out.2.1
          have HLO := hide' (And.intro hRW.lown (And.intro hRW.2.2.2.2.1 hRW.2.2.2.2.2))
          generalize hBl : (Value.slice yp j yc).ownBlock.toList ++ Bi2.flatten = Bl at HLO
          have hRz := HRc.out _ HGz.out
          obtain ⟨r0, r1, r2, r3, r4, rf⟩ := row5 hRz
          have f0 := rf 0
          have f1 := rf 1
          have f2 := rf 2
          have f3 := rf 3
          have f4 := rf 4
          obtain ⟨oo0, oo1, oo2, oo3, oo4, _⟩ := row5 HJ.out.1
          have HRz := hide' hRz
          have HBw := hide' hBw
          clear hBl hRW of rf hPz hRz hBw o4
          go_wp2_with fail
          have hrow := set5_heap (j := 0) (.int .i64 vk) (.int .i64 vn) (.slice aS nS cS) (.slice vp k vc) (.slice yp j yc) HRz.out
          have hfin := row5 hrow
          simp only [set5, Nat.zero_add] at hfin
          obtain ⟨y0, y1, y2, y3, y4, _⟩ := hfin
          refine bodyPost_ret (v := .agg #[.int .i64 vk, .int .i64 vn, .slice aS nS cS, .slice vp k vc, .slice yp j yc]) (by simp [results, Tryz.results47, go_sem, y0, y1, y2, y3, y4]) rfl ?_
          have hB5 := set5_grown wr (w.heap.size + 1) 0 (.int .i64 vk) (.int .i64 vn) (.slice aS nS cS) (.slice vp k vc) (.slice yp j yc)
          have hz := Hz1.out
          obtain ⟨hOw2, hbd⟩ := own_end (vk := vk) (vn := vn) HC.out.1 HC.out.2.1 HC.out.2.2.1 HKO.out.1 HKO.out.2.2 HKO.out.2.1 HLO.out.1 HLO.out.2.2 HLO.out.2.1 HI.out.2.2 HJ.out.2.2 hB5 hOw (by omega) HC.out.2.2.2.size
          refine ⟨_, _, _, _, _, rfl, _, hOw2, fun b hb => ?_, HBw.out.grown hB5 (by have := HBw.out.size; omega) (by intro q hq; simp at hq; omega)⟩
          have := hbd b hb
          exact ⟨by omega, this.2⟩

theorem key_len {ks : List (List Int)} {i : Nat} (hi : i < ks.length) : (ks.getD i []).length ≤ szK ks := by
  have h1 := pre_succ List.length ks i hi
  have h2 := pre_le List.length ks (i + 1)
  have h3 : ks.getD i [] = ks[i] := by simp [List.getD_eq_getElem?_getD, hi]
  rw [h3]
  unfold szK
  omega

theorem l2own_any (d : Nat) : OwnAt d := by
  induction d with
  | zero => intro N c0 c1 c2 c3 c4 v w hv; exact hv.elim
  | succ d ih =>
    intro N c0 c1 c2 c3 c4 v w hv hN hs
    obtain ⟨vk, vn, vS, vK, vL⟩ := v
    obtain ⟨e0, e1, hT, hK, hL⟩ := (VSeg_succ _ _ _ _ _).1 hv
    simp only at e0 e1 hT hK hL
    subst e0
    subst e1
    have hK' := hK
    have hL' := hL
    obtain ⟨a2, p2, rfl, hS, _, _, h5, h6⟩ := hT
    obtain ⟨a3, p3, rfl, _⟩ := hK'
    obtain ⟨a4, p4, rfl, _⟩ := hL'
    have hz' : szV (d + 1) (vk, vn, vS, vK, vL) = szT vS + szK vK + szL d vL := rfl
    have hT' : szT vS = vS.length := rfl
    have hK2 : vK.length ≤ szK vK := by unfold szK; omega
    have hL2 : vL.length ≤ szL d vL := by unfold szL; omega
    exact l2own_walk vk vn vS vK d vL a2 p2 a3 p3 a4 p4 N ih w hS h6 hN h5 (by omega) hK hL (by omega) (fun i hi => by have := key_len hi; omega) (by omega) (fun i hi => by have := sz_elem hi; omega)
end Go.Proofs.YtbmgkmnibjdpiaaGreatDoor
/-
  l4ownEntry of the specification: an entry copied, all of it new memory.
-/
namespace Go.Proofs.YtbmgkmnibjdpiaaGreatDoor
open Go.RowKit
set_option linter.unusedVariables false
set_option linter.unusedSimpArgs false

set_option maxHeartbeats 6400000 in
set_option maxRecDepth 100000 in
theorem l4ownEntry_any (d N : Nat) (cs : List Value) (it : Ntr d) (w : World) (h : NtSg (fun b => b < N) w d cs it) (hN : N ≤ w.heap.size) (hz : NtSz d it) :
    Calls Tryz.prog 28 #[.agg cs.toArray] w (NtEndD d it w) := by
  obtain ⟨na, np, bk, bn, a2, l2, p2, a3, l3, p3, a4, l4, p4, xa, xp, rfl, ht, hv, hk⟩ := h.form
  obtain ⟨xs, v, ks, tn, tu⟩ := it
  obtain ⟨z0, z1, z2⟩ := hz
  simp only at ht hv hk z0 z1 z2 ⊢
  have hA : ∀ wx, Below w.heap.size w wx → Agree (fun b => b < N) w wx := fun wx hb => agree_below (hb.mono hN)
  have hna : na = none → np = 0 := by obtain ⟨_, _, e, _, _, _, h3, _⟩ := ht; simp only [Value.slice.injEq, true_and] at e; obtain ⟨rfl, rfl⟩ := e; exact h3
  have hsK := keys_small z2
  have HSg0 : Hid (∀ wx, Below w.heap.size w wx → Seg wx na xs) := fun wx hb => by
    obtain ⟨na', np', e1, hsa, _⟩ := ht.agree (hA wx hb)
    simp only [Value.slice.injEq, true_and] at e1
    obtain ⟨rfl, rfl⟩ := e1
    exact hsa
  have HVal0 : Hid (∀ wx, Below w.heap.size w wx → Calls Tryz.prog 47 #[.agg #[.int .i64 bk, .int .i64 bn, .slice a2 l2 p2, .slice a3 l3 p3, .slice a4 l4 p4]] wx (ValEnd d v wx)) := fun wx hb => l2own_any d N _ _ _ _ _ v wx (VSeg.agree (hA wx hb) d hv) (by have := hb.size; omega) z1
  have HDep0 : Hid (∀ wx, Below w.heap.size w wx → Calls Tryz.prog 48 #[.slice xa ks.length xp] wx fun e w' => ∃ y, e = .returned y ∧ ∃ B, KOwn w' y ks B ∧ (∀ b ∈ B, wx.heap.size ≤ b ∧ b < w'.heap.size) ∧ Below wx.heap.size wx w') := fun wx hb => l4ownAddrsK_any N _ ks wx (hk.agree (hA wx hb)) (by have := hb.size; omega) hsK.1 (fun i hi => by rw [List.getD_eq_getElem?_getD, List.getElem?_eq_getElem hi]; exact hsK.2 _ (List.getElem_mem _))
  have HW0 : Hid (Below w.heap.size w ((w.alloc (.cells #[.slice na xs.length np, .int .i64 bk, .int .i64 bn, .slice a2 l2 p2, .slice a3 l3 p3, .slice a4 l4 p4, .slice xa ks.length xp, .bool tn, .int .i64 tu] 39)).alloc (.cells #[.slice none 0 0, .int .i64 0, .int .i64 0, .slice none 0 0, .slice none 0 0, .slice none 0 0, .slice none 0 0, .bool false, .int .i64 0] 39))) := ((Below.refl _ _).alloc (Nat.le_refl _) _).alloc (by simp) _
  have HR0 := hide' (two_boxes w (.cells #[.slice na xs.length np, .int .i64 bk, .int .i64 bn, .slice a2 l2 p2, .slice a3 l3 p3, .slice a4 l4 p4, .slice xa ks.length xp, .bool tn, .int .i64 tu] 39) (.cells #[.slice none 0 0, .int .i64 0, .int .i64 0, .slice none 0 0, .slice none 0 0, .slice none 0 0, .slice none 0 0, .bool false, .int .i64 0] 39))
  show Calls _ _ _ _ fun e w' => NtEndD d (xs, v, ks, tn, tu) w e w'
  clear ht hv hk h hA hsK z1 z2
  go_enter Tryz.func28, Tryz.ntmps28
  go_wp2_with fail
  generalize hW0 : (w.alloc (.cells #[.slice na xs.length np, .int .i64 bk, .int .i64 bn, .slice a2 l2 p2, .slice a3 l3 p3, .slice a4 l4 p4, .slice xa ks.length xp, .bool tn, .int .i64 tu] 39)).alloc (.cells #[.slice none 0 0, .int .i64 0, .int .i64 0, .slice none 0 0, .slice none 0 0, .slice none 0 0, .slice none 0 0, .bool false, .int .i64 0] 39) = W0 at *
  have hz0 : w.heap.size + 2 ≤ W0.drew.heap.size := by show _ ≤ W0.heap.size; rw [← hW0]; simp
  clear hW0
  have hsz0 : w.heap.size + 1 < W0.heap.size := (Array.getElem?_eq_some_iff.1 HR0.out.2).1
  have HB0 : Hid (∀ wx, Below W0.drew.heap.size W0.drew wx → Below w.heap.size w wx) := fun wx hb => Below.on HW0.out.drew hb
  have HZr : Hid (∀ wx, Below W0.drew.heap.size W0.drew wx → wx.heap[w.heap.size + 1]? = some (.cells #[.slice none 0 0, .int .i64 0, .int .i64 0, .slice none 0 0, .slice none 0 0, .slice none 0 0, .slice none 0 0, .bool false, .int .i64 0] 39 (0, 0))) := fun wx hb => (hb.block _ (by show w.heap.size + 1 < W0.heap.size; omega)).trans HR0.out.2
  have HSn : Hid (∀ wx, Below W0.drew.heap.size W0.drew wx → wx.cell? ⟨w.heap.size, 0, none⟩ = some (.slice na xs.length np) ∧ wx.cell? ⟨w.heap.size, 1, none⟩ = some (.int .i64 bk) ∧ wx.cell? ⟨w.heap.size, 2, none⟩ = some (.int .i64 bn) ∧ wx.cell? ⟨w.heap.size, 3, none⟩ = some (.slice a2 l2 p2) ∧ wx.cell? ⟨w.heap.size, 4, none⟩ = some (.slice a3 l3 p3) ∧ wx.cell? ⟨w.heap.size, 5, none⟩ = some (.slice a4 l4 p4) ∧ wx.cell? ⟨w.heap.size, 6, none⟩ = some (.slice xa ks.length xp) ∧ wx.cell? ⟨w.heap.size, 7, none⟩ = some (.bool tn) ∧ wx.cell? ⟨w.heap.size, 8, none⟩ = some (.int .i64 tu)) := fun wx hb => ev_row ((hb.block _ (by show w.heap.size < W0.heap.size; omega)).trans HR0.out.1)
  have HSt : Hid (∀ (wx : World) (cs : List Value), (wx.cell? ⟨w.heap.size, 0, none⟩ = some (.slice na xs.length np) ∧ wx.cell? ⟨w.heap.size, 1, none⟩ = some (.int .i64 bk) ∧ wx.cell? ⟨w.heap.size, 2, none⟩ = some (.int .i64 bn) ∧ wx.cell? ⟨w.heap.size, 3, none⟩ = some (.slice a2 l2 p2) ∧ wx.cell? ⟨w.heap.size, 4, none⟩ = some (.slice a3 l3 p3) ∧ wx.cell? ⟨w.heap.size, 5, none⟩ = some (.slice a4 l4 p4) ∧ wx.cell? ⟨w.heap.size, 6, none⟩ = some (.slice xa ks.length xp) ∧ wx.cell? ⟨w.heap.size, 7, none⟩ = some (.bool tn) ∧ wx.cell? ⟨w.heap.size, 8, none⟩ = some (.int .i64 tu)) → ((wx.setCells (w.heap.size + 1) 0 cs).cell? ⟨w.heap.size, 0, none⟩ = some (.slice na xs.length np) ∧ (wx.setCells (w.heap.size + 1) 0 cs).cell? ⟨w.heap.size, 1, none⟩ = some (.int .i64 bk) ∧ (wx.setCells (w.heap.size + 1) 0 cs).cell? ⟨w.heap.size, 2, none⟩ = some (.int .i64 bn) ∧ (wx.setCells (w.heap.size + 1) 0 cs).cell? ⟨w.heap.size, 3, none⟩ = some (.slice a2 l2 p2) ∧ (wx.setCells (w.heap.size + 1) 0 cs).cell? ⟨w.heap.size, 4, none⟩ = some (.slice a3 l3 p3) ∧ (wx.setCells (w.heap.size + 1) 0 cs).cell? ⟨w.heap.size, 5, none⟩ = some (.slice a4 l4 p4) ∧ (wx.setCells (w.heap.size + 1) 0 cs).cell? ⟨w.heap.size, 6, none⟩ = some (.slice xa ks.length xp) ∧ (wx.setCells (w.heap.size + 1) 0 cs).cell? ⟨w.heap.size, 7, none⟩ = some (.bool tn) ∧ (wx.setCells (w.heap.size + 1) 0 cs).cell? ⟨w.heap.size, 8, none⟩ = some (.int .i64 tu))) := fun wx cs h => by
    have hq : ∀ j, (wx.setCells (w.heap.size + 1) 0 cs).cell? ⟨w.heap.size, j, none⟩ = wx.cell? ⟨w.heap.size, j, none⟩ := fun j => World.cell?_setCells_out (w.heap.size + 1) cs 0 wx ⟨w.heap.size, j, none⟩ (fun e => by simp at e)
    simp only [hq]
    exact h
  have HVal : Hid (∀ wx, Below W0.drew.heap.size W0.drew wx → Calls Tryz.prog 47 #[.agg #[.int .i64 bk, .int .i64 bn, .slice a2 l2 p2, .slice a3 l3 p3, .slice a4 l4 p4]] wx (ValEnd d v wx)) := fun wx hb => HVal0.out wx (HB0.out wx hb)
  have HDep : Hid (∀ wx, Below W0.drew.heap.size W0.drew wx → Calls Tryz.prog 48 #[.slice xa ks.length xp] wx fun e w' => ∃ y, e = .returned y ∧ ∃ B, KOwn w' y ks B ∧ (∀ b ∈ B, wx.heap.size ≤ b ∧ b < w'.heap.size) ∧ Below wx.heap.size wx w') := fun wx hb => HDep0.out wx (HB0.out wx hb)
  have HSg : Hid (∀ wx, Below W0.drew.heap.size W0.drew wx → Seg wx na xs) := fun wx hb => HSg0.out wx (HB0.out wx hb)
  have HBA : Hid (∀ wx, Below W0.drew.heap.size W0.drew wx → Below W0.drew.heap.size W0.drew wx) := fun wx hb => hb
  clear HVal0 HDep0 HR0 HW0 HSg0
  refine wp_region_held_drew (S := fun w' => w'.cell? ⟨w.heap.size, 0, none⟩ = some (.slice na xs.length np) ∧ w'.cell? ⟨w.heap.size, 1, none⟩ = some (.int .i64 bk) ∧ w'.cell? ⟨w.heap.size, 2, none⟩ = some (.int .i64 bn) ∧ w'.cell? ⟨w.heap.size, 3, none⟩ = some (.slice a2 l2 p2) ∧ w'.cell? ⟨w.heap.size, 4, none⟩ = some (.slice a3 l3 p3) ∧ w'.cell? ⟨w.heap.size, 5, none⟩ = some (.slice a4 l4 p4) ∧ w'.cell? ⟨w.heap.size, 6, none⟩ = some (.slice xa ks.length xp) ∧ w'.cell? ⟨w.heap.size, 7, none⟩ = some (.bool tn) ∧ w'.cell? ⟨w.heap.size, 8, none⟩ = some (.int .i64 tu)) (by kernel_rfl) (HSn.out _ (Below.refl _ _)) (fun hHeld => ?_)
  have hb : Hid (Below W0.drew.heap.size W0.drew W0.drew) := Below.refl _ _
  generalize W0.drew = w0 at *
  refine take_yes (i := 1) 4 (v := ?_) rfl rfl (by kernel_rfl) (by kernel_rfl) (by kernel_rfl) (fun _ _ _ h => h) (by kernel_rfl) hHeld ?_ ?_
  rotate_left
  focus (intro w hSw; (try dsimp only at hSw); go_simp; (try with_reducible rfl))
  simp only [Act.put, List.setIfInBounds_toArray, List.set_cons_zero, List.set_cons_succ]
  refine take_yes (i := 2) 5 (v := ?_) rfl rfl (by kernel_rfl) (by kernel_rfl) (by kernel_rfl) (fun _ _ _ h => h) (by kernel_rfl) hHeld ?_ ?_
  rotate_left
  focus (intro w hSw; (try dsimp only at hSw); go_simp; (try with_reducible rfl))
  simp only [Act.put, List.setIfInBounds_toArray, List.set_cons_zero, List.set_cons_succ]
  refine take_yes (i := 4) 7 (v := ?_) rfl rfl (by kernel_rfl) (by kernel_rfl) (by kernel_rfl) (fun _ _ _ h => h) (by kernel_rfl) hHeld ?_ ?_
  rotate_left
  focus (intro w hSw; (try dsimp only at hSw); go_simp; (try with_reducible rfl))
  simp only [Act.put, List.setIfInBounds_toArray, List.set_cons_zero, List.set_cons_succ]
  refine take_yes (i := 5) 8 (v := ?_) rfl rfl (by kernel_rfl) (by kernel_rfl) (by kernel_rfl) (fun _ _ _ h => h) (by kernel_rfl) hHeld ?_ ?_
  rotate_left
  focus (intro w hSw; (try dsimp only at hSw); go_simp; (try with_reducible rfl))
  simp only [Act.put, List.setIfInBounds_toArray, List.set_cons_zero, List.set_cons_succ]
  refine take_yes (i := 7) 10 (v := ?_) rfl rfl (by kernel_rfl) (by kernel_rfl) (by kernel_rfl) (fun _ _ _ h => h) (by kernel_rfl) hHeld ?_ ?_
  rotate_left
  focus (intro w hSw; (try dsimp only at hSw); go_simp; (try with_reducible rfl))
  simp only [Act.put, List.setIfInBounds_toArray, List.set_cons_zero, List.set_cons_succ]
  refine take_yes (i := 8) 11 (v := ?_) rfl rfl (by kernel_rfl) (by kernel_rfl) (by kernel_rfl) (fun _ _ _ h => h) (by kernel_rfl) hHeld ?_ ?_
  rotate_left
  focus (intro w hSw; (try dsimp only at hSw); go_simp; (try with_reducible rfl))
  simp only [Act.put, List.setIfInBounds_toArray, List.set_cons_zero, List.set_cons_succ]
  refine take_yes (i := 10) 13 (v := ?_) rfl rfl (by kernel_rfl) (by kernel_rfl) (by kernel_rfl) (fun _ _ _ h => h) (by kernel_rfl) hHeld ?_ ?_
  rotate_left
  focus (intro w hSw; (try dsimp only at hSw); go_simp; (try with_reducible rfl))
  simp only [Act.put, List.setIfInBounds_toArray, List.set_cons_zero, List.set_cons_succ]
  refine take_yes (i := 11) 14 (v := ?_) rfl rfl (by kernel_rfl) (by kernel_rfl) (by kernel_rfl) (fun _ _ _ h => h) (by kernel_rfl) hHeld ?_ ?_
  rotate_left
  focus (intro w hSw; (try dsimp only at hSw); go_simp; (try with_reducible rfl))
  simp only [Act.put, List.setIfInBounds_toArray, List.set_cons_zero, List.set_cons_succ]
  refine take_yes (i := 12) 15 (v := ?_) rfl rfl (by kernel_rfl) (by kernel_rfl) (by kernel_rfl) (fun _ _ _ h => h) (by kernel_rfl) hHeld ?_ ?_
  rotate_left
  focus (intro w hSw; (try dsimp only at hSw); go_simp; (try with_reducible rfl))
  simp only [Act.put, List.setIfInBounds_toArray, List.set_cons_zero, List.set_cons_succ]
  refine take_yes (i := 13) 16 (v := ?_) rfl rfl (by kernel_rfl) (by kernel_rfl) (by kernel_rfl) (fun _ _ _ h => h) (by kernel_rfl) hHeld ?_ ?_
  rotate_left
  focus (intro w hSw; (try dsimp only at hSw); go_simp; (try with_reducible rfl))
  simp only [Act.put, List.setIfInBounds_toArray, List.set_cons_zero, List.set_cons_succ]
  refine wpAnyH_ready (rs := [0]) (by kernel_rfl) (by simp) ?_
  refine AllReadyH.cons rfl (fun K hK => ?_) (AllReadyH.nil)
  go_simp
  have hE : Bts (w0.alloc (.cells #[] 5)) w0.heap.size (.slice (some ⟨w0.heap.size, 0, none⟩) 0 0) [] := ⟨by simp, by simp [cellsOf], .inr ⟨w0.heap.size, 0, #[], rfl, Nat.le_refl _, heap_alloc_new w0 _, Nat.le_refl _, Nat.zero_le _, rfl, rfl⟩⟩
  have HE := hide' hE
  have hbE : Below w0.heap.size w0 (w0.alloc (.cells #[] 5)) := (Below.refl _ _).alloc (Nat.le_refl _) _
  replace hb := hide' (Below.on hb.out hbE)
  have HbE := hide' hbE
  have hzE : w0.heap.size + 1 ≤ (w0.alloc (.cells #[] 5)).heap.size := by simp
  clear hE hbE
  refine hK.out _ _ (HSn.out _ hb.out) (fun hHeld => ?_)
  clear hK
  (try simp only [Act.put, List.setIfInBounds_toArray, List.set_cons_zero, List.set_cons_succ])
  generalize w0.alloc (.cells #[] 5) = w1 at *
  refine wpAnyH_ready (rs := [3]) (by kernel_rfl) (by simp) ?_
  refine AllReadyH.cons rfl (fun K hK => ?_) (AllReadyH.nil)
  refine step_append_seg (by rfl) (.tmp 3) (.tmp 5) (by rfl) w0.heap.size (.slice (some ⟨w0.heap.size, 0, none⟩) 0 0) [] xs (by rfl) HE.out na xs.length np rfl (by rfl) (HSg.out w1 hb.out) hna (by simp; omega) (by omega) ?_
  intro y w2 hY hg
  rw [List.nil_append] at hY
  obtain ⟨ya, yc, hy, _⟩ := hY.shape
  subst hy
  have hT : TW w0.heap.size w2.heap.size w2 (.slice ya xs.length yc) xs := (by obtain ⟨B, hB, hB2, _⟩ := tOwn_of hY; exact ⟨B, hB, hB2⟩)
  have HT := hide' hT
  have hbA : Below w0.heap.size w0 w2 := HbE.out.grown hg HbE.out.size (by intro j hj; simp [Value.ownBlock] at hj; omega)
  replace hb := hide' (HBA.out _ hbA)
  have hz2 := hbA.size
  clear hT hY hg hbA HE HbE
  show K (Act.put _ (some 6) (.slice ya xs.length yc)) w2
  refine hK.out _ _ (HSn.out _ hb.out) (fun hHeld => ?_)
  clear hK
  (try simp only [Act.put, List.setIfInBounds_toArray, List.set_cons_zero, List.set_cons_succ])
  refine wpAnyH_ready (rs := [6]) (by kernel_rfl) (by simp) ?_
  refine AllReadyH.cons rfl (fun K hK => ?_) (AllReadyH.nil)
  go_simp
  go_at_call 47
  refine (HVal.out w2 hb.out).mono ?_
  rintro e w3 ⟨u0, u1, u2, u3, u4, rfl, BV, hO, hBV, hbn⟩
  obtain ⟨vk, vn, e2, m2, q2, e3, m3, q3, e4, m4, q4, rfl, rfl, rfl, rfl, rfl⟩ := VOwn.form d hO
  have HV := hide' ((⟨_, hO, hBV⟩ : VW w2.heap.size w3.heap.size w3 d _ _))
  clear hO hBV
  replace HT := hide' (TW.agree HT.out (win_below hbn (Nat.le_refl _)))
  have hz3 := hbn.size
  replace hb := hide' (Below.on hb.out hbn)
  clear hbn
  go_wp2_with fail
  refine hK.out _ _ (HSn.out _ hb.out) (fun hHeld => ?_)
  clear hK
  (try simp only [Act.put, List.setIfInBounds_toArray, List.set_cons_zero, List.set_cons_succ])
  refine wpAnyH_ready (rs := [9]) (by kernel_rfl) (by simp) ?_
  refine AllReadyH.cons rfl (fun K hK => ?_) (AllReadyH.nil)
  go_simp
  go_at_call 48
  refine (HDep.out w3 hb.out).mono ?_
  rintro e w4 ⟨ky, rfl, BK, hO, hBK, hbn⟩
  have hO' := hO
  obtain ⟨ka, kc, rfl, _⟩ := hO.seg
  have HK := hide' ((⟨_, hO', hBK⟩ : KW w3.heap.size w4.heap.size w4 _ _))
  clear hO hO' hBK
  replace HT := hide' (TW.agree HT.out (win_below hbn (by omega)))
  replace HV := hide' (VW.agree HV.out (win_below hbn (Nat.le_refl _)))
  have hz4 := hbn.size
  replace hb := hide' (Below.on hb.out hbn)
  clear hbn
  go_wp2_with fail
  refine hK.out _ _ (HSn.out _ hb.out) (fun hHeld => ?_)
  clear hK
  (try simp only [Act.put, List.setIfInBounds_toArray, List.set_cons_zero, List.set_cons_succ])
  refine take_yes (i := 14) 17 (v := ?_) rfl rfl (by kernel_rfl) (by kernel_rfl) (by kernel_rfl) (fun _ _ _ h => h) (by kernel_rfl) hHeld ?_ ?_
  rotate_left
  focus (intro w hSw; (try dsimp only at hSw); go_simp; (try with_reducible rfl))
  simp only [Act.put, List.setIfInBounds_toArray, List.set_cons_zero, List.set_cons_succ]
  refine wpAnyH_ready (rs := [15]) (by kernel_rfl) (by simp) ?_
  refine AllReadyH.cons rfl (fun K hK => ?_) (AllReadyH.nil)
  have hth : w4.there (w.heap.size + 1) 0 9 := there_of_row (HZr.out w4 hb.out)
  have hone : ∀ v ∈ [Value.slice ya xs.length yc, .int .i64 vk, .int .i64 vn, .slice e2 m2 q2, .slice e3 m3 q3, .slice e4 m4 q4, .slice ka ks.length kc, .bool tn, .int .i64 tu], v.oneCell' = true := by
    intro v hv
    simp only [List.mem_cons, List.not_mem_nil, or_false] at hv
    rcases hv with rfl | rfl | rfl | rfl | rfl | rfl | rfl | rfl | rfl <;> rfl
  have hld := run_loadVar_mid (P := Tryz.prog) _ _ _ 39 _ _ (World.rangeAt_setCells_same w4 (w.heap.size + 1) 0 [.slice ya xs.length yc, .int .i64 vk, .int .i64 vn, .slice e2 m2 q2, .slice e3 m3 q3, .slice e4 m4 q4, .slice ka ks.length kc, .bool tn, .int .i64 tu] hth) Tryz.underlying39 rfl (by kernel_rfl)
  have HLd := hide' hld
  refine wp_store_mid 39 (.tmp 2) (.tmp 17) (by rfl) (w.heap.size + 1) 0 #[.slice ya xs.length yc, .int .i64 vk, .int .i64 vn, .slice e2 m2 q2, .slice e3 m3 q3, .slice e4 m4 q4, .slice ka ks.length kc, .bool tn, .int .i64 tu] (by rfl) (by rfl) hth (by kernel_rfl) (all_oneCell_toArray hone) ?_
  refine hK.out _ _ (HSt.out _ _ (HSn.out _ hb.out)) (fun hHeld => ?_)
  clear hK
  refine wpAnyH_done (by kernel_rfl) ?_ _
  obtain ⟨BE, hBE, hBl⟩ := entry_leaf (it := (xs, v, ks, tn, tu)) (lo := w.heap.size + 2) HT.out HV.out HK.out (by omega) (by omega) (by omega) (by omega) (by omega) (by omega)
  have HFin := hide' (ntEndD_of (w := w) (rb := w.heap.size + 1) (HB0.out _ hb.out) hBE (fun b hb' => by have := hBl b hb'; omega) (by omega))
  clear hBE hBl hld hth hone HT HV HK
  go_wp2_with fail
  refine bodyPost_ret (v := .agg #[.slice ya xs.length yc, .int .i64 vk, .int .i64 vn, .slice e2 m2 q2, .slice e3 m3 q3, .slice e4 m4 q4, .slice ka ks.length kc, .bool tn, .int .i64 tu]) (results_cell 2 39 Tryz.results28 (by rfl) HLd.out) rfl ?_
  exact HFin.out
end Go.Proofs.YtbmgkmnibjdpiaaGreatDoor
