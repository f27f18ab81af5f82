/-
  Texts that a law leans on, one behind the other; no statement is proved here.
-/
import Derived.Test.YtfokidhamjphfaaDoorPk35
import Derived.Test.YtfokidhamjphfaaDoorPk5
import Derived.Test.YtfokidhamjphfaaDoorPk17
import Derived.Test.YtfokidhamjphfaaDoorPk7
import Derived.Deep.AppendLies
import Derived.Deep.Cut
import Derived.Deep.CutRange
import Derived.Deep.RegionLaw
import Derived.Deep.RegionWith
/-
  l7rename of the specification. No statement is proved here.
-/
namespace Go.Proofs.YtfokidhamjphfaaDoor
open Go.RowKit
set_option linter.unusedVariables false
set_option linter.unusedSimpArgs false

/-- What l7rename answers: read, in blocks below N and new ones. -/
def RnEnd (N d : Nat) (v : Vl d) (w : World) (e : Ending) (w' : World) : Prop :=
  ∃ (uk un : Int) (s2 : Option Addr) (n2 r2 : Nat) (s3 : Option Addr) (n3 r3 : Nat) (s4 : Option Addr) (n4 r4 : Nat), e = .returned (.agg #[.int .i64 uk, .int .i64 un, .slice s2 n2 r2, .slice s3 n3 r3, .slice s4 n4 r4]) ∧
    VSeg (fun b => b < N ∨ (w.heap.size ≤ b ∧ b < w'.heap.size)) w' d (.int .i64 uk, .int .i64 un, .slice s2 n2 r2, .slice s3 n3 r3, .slice s4 n4 r4) v ∧ Below w.heap.size w w'

/-- What a kid's call leaves. -/
def RnCall (N O base d : Nat) (l : List (Vl d)) (k : Nat) (wr : World) (x : Value) (xs : List Value) (e : Ending) (w5 : World) : Prop :=
  ∃ (uk un : Int) (s2 : Option Addr) (n2 r2 : Nat) (s3 : Option Addr) (n3 r3 : Nat) (s4 : Option Addr) (n4 r4 : Nat), e = .returned (.agg #[.int .i64 uk, .int .i64 un, .slice s2 n2 r2, .slice s3 n3 r3, .slice s4 n4 r4]) ∧
    (∀ h : k < l.length, VSeg (fun b => b < N ∨ (wr.heap.size ≤ b ∧ b < w5.heap.size)) w5 d (.int .i64 uk, .int .i64 un, .slice s2 n2 r2, .slice s3 n3 r3, .slice s4 n4 r4) l[k]) ∧ Below wr.heap.size wr w5 ∧ w5.cell? ⟨O, 4, none⟩ = some x ∧ w5.ownsRow base 26 5 x k xs

theorem rn_call {N O d k : Nat} {w2 wr wy w5 : World} {c0 c1 c2 c3 x : Value} {l : List (Vl d)} {cs : List (List Value)} {e : Ending} {u : Vl d} (h : RdR N w2 O c0 c1 c2 c3 d l k wr x cs) (hO : O < w2.heap.size) (hk : k < l.length) (hu : l[k] = u) (hy : Below wr.heap.size wr wy) (he : RnEnd N d u wy e w5) : RnCall N O w2.heap.size d l k wr x cs.flatten e w5 := by
  obtain ⟨uk, un, s2, n2, r2, s3, n3, r3, s4, n4, r4, rfl, hv, h5⟩ := he
  have hb5 := Below.on hy h5
  have hz := hy.size
  have hz3 := h.2.2.2.2.size
  refine ⟨uk, un, s2, n2, r2, s3, n3, r3, s4, n4, r4, rfl, fun _ => ?_, hb5, (World.cell?_of_block (hb5.block O (by omega))).trans (row5 h.1).2.2.2.2.1, h.2.2.1.kept (row := none) ⟨hb5.os, hb5.tape, hb5.output, hb5.size, fun k hk _ => hb5.block k hk⟩ (by cases hv : x.ownBlock <;> simp)⟩
  rw [hu]
  refine VSeg.mono (fun b hb => ?_) d hv
  rcases hb with hb | hb
  · exact .inl hb
  · exact .inr ⟨by omega, hb.2⟩

theorem rn_end {N d : Nat} {w w2 wr : World} {vk vn : Int} {sv kv y : Value} {tx : List Int} {vK : List (List Int)} {l : List (Vl d)} {cs : List (List Value)} (h : RdR N w2 (w.heap.size + 2) (.int .i64 vk) (.int .i64 vn) sv kv d l l.length wr y cs) (hN : N ≤ w.heap.size) (hO : w.heap.size + 2 < w2.heap.size) (hT : TSeg (fun b => b < N) w sv tx) (hK : KSeg (fun b => b < N) w kv vK) (hb : Below w.heap.size w wr) :
    RnEnd N (d + 1) (vk, vn, tx, vK, l) w (.returned (.agg #[.int .i64 vk, .int .i64 vn, sv, kv, y])) (set5 wr (w.heap.size + 1) 0 (.int .i64 vk) (.int .i64 vn) sv kv y) := by
  have hs := set5_grown wr (w.heap.size + 1) 0 (.int .i64 vk) (.int .i64 vn) sv kv y
  have hz := set5_size wr (w.heap.size + 1) 0 (.int .i64 vk) (.int .i64 vn) sv kv y
  have ho := set5_other wr (w.heap.size + 1) 0 (.int .i64 vk) (.int .i64 vn) sv kv y
  have hzw := hb.size
  have hBf : Below w.heap.size w (set5 wr (w.heap.size + 1) 0 (.int .i64 vk) (.int .i64 vn) sv kv y) := hb.grown hs hb.size (by intro j hj; simp at hj; omega)
  have hL := h.list (wf := set5 wr (w.heap.size + 1) 0 (.int .i64 vk) (.int .i64 vn) sv kv y) (B := w.heap.size) (by omega) (fun b _ hb2 _ => ho b (by rcases hb2 with h | h <;> omega)) (by omega) (by omega) hO
  have hag : Agree (fun b => b < N) w (set5 wr (w.heap.size + 1) 0 (.int .i64 vk) (.int .i64 vn) sv kv y) := fun b hb' => hBf.block b (by omega)
  have hT' := (hT.agree hag).mono (R' := fun b => b < N ∨ (w.heap.size ≤ b ∧ b < (set5 wr (w.heap.size + 1) 0 (.int .i64 vk) (.int .i64 vn) sv kv y).heap.size)) fun b hb => .inl hb
  have hK' := (hK.agree hag).mono (R' := fun b => b < N ∨ (w.heap.size ≤ b ∧ b < (set5 wr (w.heap.size + 1) 0 (.int .i64 vk) (.int .i64 vn) sv kv y).heap.size)) fun b hb => .inl hb
  have hv : VSeg (fun b => b < N ∨ (w.heap.size ≤ b ∧ b < (set5 wr (w.heap.size + 1) 0 (.int .i64 vk) (.int .i64 vn) sv kv y).heap.size)) (set5 wr (w.heap.size + 1) 0 (.int .i64 vk) (.int .i64 vn) sv kv y) (d + 1) (.int .i64 vk, .int .i64 vn, sv, kv, y) (vk, vn, tx, vK, l) := (VSeg_succ _ _ _ _ _).2 ⟨rfl, rfl, hT', hK', hL⟩
  obtain ⟨k, n, a2, l2, p2, a3, l3, p3, a4, l4, p4, e0, e1, rfl, rfl, rfl⟩ := VSeg.form _ hv
  exact ⟨_, _, _, _, _, _, _, _, _, _, _, rfl, hv, hBf⟩

theorem seg_in {N : Nat} {w wx : World} {a : Option Addr} {n c : Nat} {xs : List Int} (h : TSeg (fun b => b < N) w (.slice a n c) xs) (hb : Below N w wx) : Seg wx a xs := by
  obtain ⟨a', c', e, hs, _, _, _, hR⟩ := h
  simp only [Value.slice.injEq] at e
  obtain ⟨rfl, _, _⟩ := e
  exact hs.below hb hR

/-- The contract of l7rename, at depth d. -/
def RnAt (fr tz : List Int) (d : Nat) : Prop := ∀ (N : Nat) (c0 c1 c2 c3 c4 : Value) (v : Vl d) (fa : Option Addr) (fc : Nat) (ta : Option Addr) (tc : Nat) (w : World), VSeg (fun b => b < N) w d (c0, c1, c2, c3, c4) v → N ≤ w.heap.size → TSeg (fun b => b < N) w (.slice fa fr.length fc) fr → TSeg (fun b => b < N) w (.slice ta tz.length tc) tz → bndV d v →
  Calls Tryd.prog 37 #[.agg #[c0, c1, c2, c3, c4], .slice fa fr.length fc, .slice ta tz.length tc] w (RnEnd N d (rnV fr tz d v) w)

set_option maxHeartbeats 6400000 in
set_option maxRecDepth 100000 in
theorem l7rename_walk (fr tz : List Int) (vk vn : Int) (vS : List Int) (vK : List (List Int)) (d : Nat) (vL : List (Vl d)) (a2 : Option Addr) (p2 : Nat) (a3 : Option Addr) (p3 : Nat) (a4 : Option Addr) (p4 : Nat) (fa : Option Addr) (fc : Nat) (ta : Option Addr) (tc : Nat) (N : Nat) (ih : RnAt fr tz d) (w : World) (hN : N ≤ w.heap.size)
    (hS : TSeg (fun b => b < N) w (.slice a2 vS.length p2) vS) (hK : KSeg (fun b => b < N) w (.slice a3 vK.length p3) vK) (hL : LSeg (fun b => b < N) w d (.slice a4 vL.length p4) vL) (hF : TSeg (fun b => b < N) w (.slice fa fr.length fc) fr) (hT : TSeg (fun b => b < N) w (.slice ta tz.length tc) tz) (hll : vL.length ≤ 1048576) (hle : ∀ i (h : i < vL.length), bndV d vL[i]) :
    Calls Tryd.prog 37 #[.agg #[.int .i64 vk, .int .i64 vn, .slice a2 vS.length p2, .slice a3 vK.length p3, .slice a4 vL.length p4], .slice fa fr.length fc, .slice ta tz.length tc] w (RnEnd N (d + 1) (rnV fr tz (d + 1) (vk, vn, vS, vK, vL)) w) := by
  obtain ⟨iV, hiV, hz0, hz1', hz2⟩ := info_parts info_valueT
  have HK := hide' hK
  have HL := hide' hL
  have HA : Hid (∀ (c0 c1 c2 c3 c4 : Value) (u : Vl d) (wx : World), VSeg (fun b => b < N) wx d (c0, c1, c2, c3, c4) u → Below w.heap.size w wx → bndV d u → Calls Tryd.prog 37 #[.agg #[c0, c1, c2, c3, c4], .slice fa fr.length fc, .slice ta tz.length tc] wx (RnEnd N d (rnV fr tz d u) wx)) := hide' (fun c0 c1 c2 c3 c4 u wx hv hb hu => ih N c0 c1 c2 c3 c4 u fa fc ta tc wx hv (by have := hb.size; omega) (hF.agree fun b (hb' : b < N) => hb.block b (by omega)) (hT.agree fun b (hb' : b < N) => hb.block b (by omega)) hu)
  have HLe := hide' hle
  have HB1 : Hid (∀ o o' o2 : Obj, Below w.heap.size w (((w.alloc o).alloc o').alloc o2) ∧ (((w.alloc o).alloc o').alloc o2).heap[w.heap.size]? = some o ∧ (((w.alloc o).alloc o').alloc o2).heap[w.heap.size + 1]? = some o' ∧ (((w.alloc o).alloc o').alloc o2).heap[w.heap.size + 2]? = some o2 ∧ (((w.alloc o).alloc o').alloc o2).heap.size = w.heap.size + 3) := fun o o' o2 => ⟨(((Below.refl _ _).alloc (Nat.le_refl _) o).alloc (by simp) o').alloc (by simp; omega) o2, (Below.heap_alloc _ _ _ (by simp; omega)).trans ((Below.heap_alloc _ _ _ (by simp)).trans (heap_alloc_new w o)), (Below.heap_alloc _ _ _ (by simp)).trans (by have := heap_alloc_new (w.alloc o) o'; simpa using this), by have := heap_alloc_new ((w.alloc o).alloc o') o2; simpa using this, by simp⟩
  have HSw := hide' hS
  have HFw := hide' hF
  have HTw := hide' hT
  clear hK hL hle hS hF hT
  generalize hn : vS.length = n at *
  have Hn : Hid (vS.length = n) := hn
  generalize hn3 : vK.length = n3 at *
  generalize hn4 : vL.length = n4 at hll HL ⊢
  have Hn3 : Hid (vK.length = n3) := hn3
  have Hn4 : Hid (vL.length = n4) := hn4
  generalize hfn : fr.length = fn at *
  have Hfn : Hid (fr.length = fn) := hfn
  generalize htn : tz.length = tn at *
  have Htn : Hid (tz.length = tn) := htn
  clear hn hn3 hn4 hfn htn
  go_enter Tryd.func37, Tryd.ntmps37
  go_upto_region 2 with fail
  obtain ⟨hb2, hP2, hR2, hOx, hzs⟩ := HB1.out (.cells #[.int .i64 vk, .int .i64 vn, .slice a2 n p2, .slice a3 n3 p3, .slice a4 n4 p4] 26) (.cells #[.int .i64 0, .int .i64 0, .slice none 0 0, .slice none 0 0, .slice none 0 0] 26) (.cells #[.int .i64 vk, .int .i64 vn, .slice a2 n p2, .slice a3 n3 p3, .slice none 0 0] 26)
  generalize ((w.alloc (.cells #[.int .i64 vk, .int .i64 vn, .slice a2 n p2, .slice a3 n3 p3, .slice a4 n4 p4] 26)).alloc (.cells #[.int .i64 0, .int .i64 0, .slice none 0 0, .slice none 0 0, .slice none 0 0] 26)).alloc (.cells #[.int .i64 vk, .int .i64 vn, .slice a2 n p2, .slice a3 n3 p3, .slice none 0 0] 26) = w2 at *
  obtain ⟨P0, P1, P2, P3, P4, _⟩ := row5 hP2
  clear HB1
  by_cases hk6 : vk = 6
  · subst hk6
    have hSg : Seg w2 a2 vS := seg_in HSw.out (hb2.mono hN)
    have hFg : Seg w2 fa fr := seg_in HFw.out (hb2.mono hN)
    have hc1 := conv_seg p2 hSg
    have hc2 := conv_seg fc hFg
    have hse := strOf_eq hSg.1 hFg.1
    rw [Hn.out] at hc1
    rw [Hfn.out] at hc2
    by_cases hs : vS = fr
    · have HTe : Hid (rnV fr tz (d + 1) (6, vn, vS, vK, vL) = (6, vn, tz, vK, vL.map (rnV fr tz d))) := hide' (rnV_yes hs)
      rw [decide_eq_true hs] at hse
      clear hs
      obtain ⟨_, _, O2, _, _, Of⟩ := row5 hOx
      have Of2 := Of 2
      clear Of
      have hz2' : w.heap.size + 2 < w2.heap.size := by omega
      have hTx := HTw.out
      go_upto_region 4 with fail
      have hOy := heap_setCell_same w2 (w.heap.size + 2) 2 _ _ (.slice ta tn tc) hOx
      have hoth : ∀ b, b ≠ w.heap.size + 2 → (w2.setCell ⟨w.heap.size + 2, 2, none⟩ (.slice ta tn tc)).heap[b]? = w2.heap[b]? := fun b hb => Below.heap_setCell w2 ⟨w.heap.size + 2, 2, none⟩ _ b hb
      replace hP2 := (hoth w.heap.size (by omega)).trans hP2
      replace hR2 := (hoth (w.heap.size + 1) (by omega)).trans hR2
      replace hb2 := hb2.grown (grown1 w2 (w.heap.size + 2) 2 (.slice ta tn tc)) hb2.size (by intro j hj; simp at hj; omega)
      clear hoth hOx O2 Of2 hse hc1 hc2 hSg hFg P0 P1 P2 P3 P4 hz2' hzs
      have hOx : (w2.setCell ⟨w.heap.size + 2, 2, none⟩ (.slice ta tn tc)).heap[w.heap.size + 2]? = some (.cells #[.int .i64 6, .int .i64 vn, .slice ta tn tc, .slice a3 n3 p3, .slice none 0 0] 26 (0, 0)) := hOy
      clear hOy
      generalize w2.setCell ⟨w.heap.size + 2, 2, none⟩ (.slice ta tn tc) = w2 at *
      go_wp2_with fail
      have HO := hide' (RdR.start (N := N) (d := d) (l := vL.map (rnV fr tz d)) hOx)
      have HTx : Hid (TSeg (fun b => b < N) w (.slice ta tn tc) (tz)) := hide' hTx
      clear hOx hTx
      have hzO : w.heap.size + 2 < w2.heap.size := (Array.getElem?_eq_some_iff.1 HO.out.1).1
      have HPw : Hid (∀ wr, w2.grownBy wr (some (w.heap.size + 2)) → wr.heap[w.heap.size]? = some (.cells #[.int .i64 6, .int .i64 vn, .slice a2 n p2, .slice a3 n3 p3, .slice a4 n4 p4] 26 (0, 0)) ∧ wr.heap[w.heap.size + 1]? = some (.cells #[.int .i64 0, .int .i64 0, .slice none 0 0, .slice none 0 0, .slice none 0 0] 26 (0, 0)) ∧ Below w.heap.size w wr) := hide' (fun wr hg => ⟨(hg.block _ (by omega) (by simp)).trans hP2, (hg.block _ (by omega) (by simp)).trans hR2, hb2.grown hg hb2.size (by intro k hk; simp at hk; omega)⟩)
      clear hP2 hR2 hb2
      go_loopw [8] (fun i wz => ∃ j : Nat, j ≤ n4 ∧ i = .int .i64 j ∧ ∃ y cs2, RdR N w2 (w.heap.size + 2) (.int .i64 6) (.int .i64 vn) (.slice ta tn tc) (.slice a3 n3 p3) d (vL.map (rnV fr tz d)) j wz y cs2) (fun i _ => n4 - (intOf i).toNat)
      case atStart => exact ⟨0, Nat.zero_le _, rfl, _, _, HO.out⟩
      case round =>
        obtain ⟨j, hj, rfl, y, cs2, hJ⟩ := hrel
        have HJ := hide' hJ
        obtain ⟨yp, yc, rfl⟩ := hJ.slice
        obtain ⟨hPz, hRz, hBw⟩ := HPw.out _ hJ.2.2.2.2
        obtain ⟨_, _, _, _, q4, _⟩ := row5 hPz
        obtain ⟨_, _, _, _, o4, of⟩ := row5 hJ.1
        have hzz := hJ.2.2.2.2.size
        clear hJ
        by_cases hjl : j < n4
        · have hjl2 : (j : Int) < (n4 : Int) := by omega
          have hj0 : (0 : Int) ≤ (j : Int) := Int.natCast_nonneg _
          have hjv : j < vL.length := by have := Hn4.out; omega
          have hjm : j < (vL.map (rnV fr tz d)).length := by rw [List.length_map]; exact hjv
          obtain ⟨b, off, c, rfl, h5', hv⟩ := HL.out.at hBw hN hjv
          obtain ⟨c0, c1, c2, c3, c4⟩ := c
          obtain ⟨ek, en, s2, e2, r2, s3, e3, r3, s4, e4, r4, rfl, rfl, rfl, rfl, rfl⟩ := VSeg.form d (hv wr hBw)
          obtain ⟨g0, g1, g2, g3, g4⟩ := h5'
          simp only at g0 g1 g2 g3 g4
          have HE : Hid (∀ wy, Below wr.heap.size wr wy → Calls Tryd.prog 37 #[.agg #[.int .i64 ek, .int .i64 en, .slice s2 e2 r2, .slice s3 e3 r3, .slice s4 e4 r4], .slice fa fn fc, .slice ta tn tc] wy (RnCall N (w.heap.size + 2) w2.heap.size d (vL.map (rnV fr tz d)) j wr (.slice yp j yc) cs2.flatten)) := fun wy hy => (HA.out _ _ _ _ _ vL[j] wy (hv wy (Below.on hBw hy)) (Below.on hBw hy) (HLe.out j hjv)).mono fun e w5 he => rn_call HJ.out hzO hjm (by rw [List.getElem_map]) hy he
          clear hv hBw hPz hRz
          go_wp2_with fail
          have HCf := hide' of
          clear of
          go_region_law
            (first
              | (go_simp; go_at_call 37; refine (HE.out _ (by first | exact Below.refl _ _ | exact (Below.refl _ _).drew | exact (Below.refl _ _).drew.drew)).mono ?_; rintro e w5 ⟨uk, un, z2, n2, x2, z3, m3, x3, z4, m4, x4, rfl, hv5, b5, hc5, ho5⟩; have hit := hide' (And.intro hv5 (And.intro b5 ho5)); have hz5 : w.heap.size + 2 < w5.heap.size := (by have := b5.size; omega); have hc5o : ∀ o, (w5.alloc o).cell? ⟨w.heap.size + 2, 4, none⟩ = some (.slice yp j yc) := (fun o => (World.cell?_of_block (Below.heap_alloc w5 o (w.heap.size + 2) hz5)).trans hc5); clear hv5 b5 ho5)
              | (refine step_append_lies _ (by rfl) (.tmp 39) (.tmp 48) 24 (by rfl) w2.heap.size 26 iV _ 5 88 Tryd.underlying24 hiV hz0 hz1' hz2 rfl (by decide) (.slice yp j yc) j cs2.flatten (by rfl) (by first | exact hit.out.2.2.alloc _ | exact (hit.out.2.2.alloc _).drew) ⟨w5.heap.size, 0, none⟩ 1 1 [.int .i64 uk, .int .i64 un, .slice z2 n2 x2, .slice z3 m3 x3, .slice z4 m4 x4] (by rfl) (by rfl) (World.news_of_block (cs := #[.int .i64 uk, .int .i64 un, .slice z2 n2 x2, .slice z3 m3 x3, .slice z4 m4 x4]) (t := 26) (fr := (0, 0)) (heap_alloc_new w5 _)) (by simp [Value.oneCell']) (by omega) (by unfold maxLen; omega) (by omega) (by have := hit.out.2.1.size; simp; omega) (w5.heap.size + 1) (by simp) ?_; intro g cp w6 hown6 hg6 hat6 hlt6; obtain ⟨hV6, hJ6⟩ := RdR.add HJ.out (by omega) (by omega) hjm hit.out.2.1 (hit.out.1 hjm) hown6 hg6 hat6; obtain ⟨_, _, _, _, hc6, hf6⟩ := row5 hV6; replace hf6 := hf6 4; replace hJ6 := hide' hJ6; clear hown6 hg6 hat6 hlt6 hV6 hit hc5 hc5o))
          all_goals go_wp2
          all_goals exact ⟨⟨j + 1, by omega, by go_num, _, _, hJ6.out⟩, by simp [intOf]; omega⟩
        · obtain rfl : j = n4 := by omega
          have hjl2 : ¬ (j : Int) < (j : Int) := by omega
          obtain ⟨r0, r1, r2, r3, r4, rf⟩ := row5 hRz
          have f0 := rf 0
          have f1 := rf 1
          have f2 := rf 2
          have f3 := rf 3
          have f4 := rf 4
          obtain ⟨oo0, oo1, oo2, oo3, oo4, _⟩ := row5 HJ.out.1
          have HRz := hide' hRz
          have HBw := hide' hBw
          clear of rf hPz hRz hBw o4
          go_wp2_with fail
          have hrow := set5_heap (j := 0) (.int .i64 6) (.int .i64 vn) (.slice ta tn tc) (.slice a3 n3 p3) (.slice yp j yc) HRz.out
          have hfin := row5 hrow
          simp only [set5, Nat.zero_add] at hfin
          obtain ⟨y0, y1, y2, y3, y4, _⟩ := hfin
          refine bodyPost_ret (v := .agg #[.int .i64 6, .int .i64 vn, .slice ta tn tc, .slice a3 n3 p3, .slice yp j yc]) (by simp [results, Tryd.results37, go_sem, y0, y1, y2, y3, y4]) rfl ?_
          have hJl : RdR N w2 (w.heap.size + 2) (.int .i64 6) (.int .i64 vn) (.slice ta tn tc) (.slice a3 n3 p3) d (vL.map (rnV fr tz d)) (vL.map (rnV fr tz d)).length wr (.slice yp j yc) cs2 := by rw [List.length_map, Hn4.out]; exact HJ.out
          have hE := rn_end (vk := 6) (vn := vn) hJl hN hzO HTx.out HK.out HBw.out
          rw [show rnV fr tz (d + 1) (6, vn, vS, vK, vL) = (6, vn, tz, vK, vL.map (rnV fr tz d)) from HTe.out]
          simp only [set5, Nat.zero_add] at hE
          exact hE
    · have HTe : Hid (rnV fr tz (d + 1) (6, vn, vS, vK, vL) = (6, vn, vS, vK, vL.map (rnV fr tz d))) := hide' (rnV_not (fun h => hs h.2))
      rw [decide_eq_false hs] at hse
      have hTx := HSw.out
      go_upto_region 4 with fail
      clear hse hc1 hc2 hSg hFg P0 P1 P2 P3 P4 hzs
      go_wp2_with fail
      have HO := hide' (RdR.start (N := N) (d := d) (l := vL.map (rnV fr tz d)) hOx)
      have HTx : Hid (TSeg (fun b => b < N) w (.slice a2 n p2) (vS)) := hide' hTx
      clear hOx hTx
      have hzO : w.heap.size + 2 < w2.heap.size := (Array.getElem?_eq_some_iff.1 HO.out.1).1
      have HPw : Hid (∀ wr, w2.grownBy wr (some (w.heap.size + 2)) → wr.heap[w.heap.size]? = some (.cells #[.int .i64 6, .int .i64 vn, .slice a2 n p2, .slice a3 n3 p3, .slice a4 n4 p4] 26 (0, 0)) ∧ wr.heap[w.heap.size + 1]? = some (.cells #[.int .i64 0, .int .i64 0, .slice none 0 0, .slice none 0 0, .slice none 0 0] 26 (0, 0)) ∧ Below w.heap.size w wr) := hide' (fun wr hg => ⟨(hg.block _ (by omega) (by simp)).trans hP2, (hg.block _ (by omega) (by simp)).trans hR2, hb2.grown hg hb2.size (by intro k hk; simp at hk; omega)⟩)
      clear hP2 hR2 hb2
      go_loopw [8] (fun i wz => ∃ j : Nat, j ≤ n4 ∧ i = .int .i64 j ∧ ∃ y cs2, RdR N w2 (w.heap.size + 2) (.int .i64 6) (.int .i64 vn) (.slice a2 n p2) (.slice a3 n3 p3) d (vL.map (rnV fr tz d)) j wz y cs2) (fun i _ => n4 - (intOf i).toNat)
      case atStart => exact ⟨0, Nat.zero_le _, rfl, _, _, HO.out⟩
      case round =>
        obtain ⟨j, hj, rfl, y, cs2, hJ⟩ := hrel
        have HJ := hide' hJ
        obtain ⟨yp, yc, rfl⟩ := hJ.slice
        obtain ⟨hPz, hRz, hBw⟩ := HPw.out _ hJ.2.2.2.2
        obtain ⟨_, _, _, _, q4, _⟩ := row5 hPz
        obtain ⟨_, _, _, _, o4, of⟩ := row5 hJ.1
        have hzz := hJ.2.2.2.2.size
        clear hJ
        by_cases hjl : j < n4
        · have hjl2 : (j : Int) < (n4 : Int) := by omega
          have hj0 : (0 : Int) ≤ (j : Int) := Int.natCast_nonneg _
          have hjv : j < vL.length := by have := Hn4.out; omega
          have hjm : j < (vL.map (rnV fr tz d)).length := by rw [List.length_map]; exact hjv
          obtain ⟨b, off, c, rfl, h5', hv⟩ := HL.out.at hBw hN hjv
          obtain ⟨c0, c1, c2, c3, c4⟩ := c
          obtain ⟨ek, en, s2, e2, r2, s3, e3, r3, s4, e4, r4, rfl, rfl, rfl, rfl, rfl⟩ := VSeg.form d (hv wr hBw)
          obtain ⟨g0, g1, g2, g3, g4⟩ := h5'
          simp only at g0 g1 g2 g3 g4
          have HE : Hid (∀ wy, Below wr.heap.size wr wy → Calls Tryd.prog 37 #[.agg #[.int .i64 ek, .int .i64 en, .slice s2 e2 r2, .slice s3 e3 r3, .slice s4 e4 r4], .slice fa fn fc, .slice ta tn tc] wy (RnCall N (w.heap.size + 2) w2.heap.size d (vL.map (rnV fr tz d)) j wr (.slice yp j yc) cs2.flatten)) := fun wy hy => (HA.out _ _ _ _ _ vL[j] wy (hv wy (Below.on hBw hy)) (Below.on hBw hy) (HLe.out j hjv)).mono fun e w5 he => rn_call HJ.out hzO hjm (by rw [List.getElem_map]) hy he
          clear hv hBw hPz hRz
          go_wp2_with fail
          have HCf := hide' of
          clear of
          go_region_law
            (first
              | (go_simp; go_at_call 37; refine (HE.out _ (by first | exact Below.refl _ _ | exact (Below.refl _ _).drew | exact (Below.refl _ _).drew.drew)).mono ?_; rintro e w5 ⟨uk, un, z2, n2, x2, z3, m3, x3, z4, m4, x4, rfl, hv5, b5, hc5, ho5⟩; have hit := hide' (And.intro hv5 (And.intro b5 ho5)); have hz5 : w.heap.size + 2 < w5.heap.size := (by have := b5.size; omega); have hc5o : ∀ o, (w5.alloc o).cell? ⟨w.heap.size + 2, 4, none⟩ = some (.slice yp j yc) := (fun o => (World.cell?_of_block (Below.heap_alloc w5 o (w.heap.size + 2) hz5)).trans hc5); clear hv5 b5 ho5)
              | (refine step_append_lies _ (by rfl) (.tmp 39) (.tmp 48) 24 (by rfl) w2.heap.size 26 iV _ 5 88 Tryd.underlying24 hiV hz0 hz1' hz2 rfl (by decide) (.slice yp j yc) j cs2.flatten (by rfl) (by first | exact hit.out.2.2.alloc _ | exact (hit.out.2.2.alloc _).drew) ⟨w5.heap.size, 0, none⟩ 1 1 [.int .i64 uk, .int .i64 un, .slice z2 n2 x2, .slice z3 m3 x3, .slice z4 m4 x4] (by rfl) (by rfl) (World.news_of_block (cs := #[.int .i64 uk, .int .i64 un, .slice z2 n2 x2, .slice z3 m3 x3, .slice z4 m4 x4]) (t := 26) (fr := (0, 0)) (heap_alloc_new w5 _)) (by simp [Value.oneCell']) (by omega) (by unfold maxLen; omega) (by omega) (by have := hit.out.2.1.size; simp; omega) (w5.heap.size + 1) (by simp) ?_; intro g cp w6 hown6 hg6 hat6 hlt6; obtain ⟨hV6, hJ6⟩ := RdR.add HJ.out (by omega) (by omega) hjm hit.out.2.1 (hit.out.1 hjm) hown6 hg6 hat6; obtain ⟨_, _, _, _, hc6, hf6⟩ := row5 hV6; replace hf6 := hf6 4; replace hJ6 := hide' hJ6; clear hown6 hg6 hat6 hlt6 hV6 hit hc5 hc5o))
          all_goals go_wp2
          all_goals exact ⟨⟨j + 1, by omega, by go_num, _, _, hJ6.out⟩, by simp [intOf]; omega⟩
        · obtain rfl : j = n4 := by omega
          have hjl2 : ¬ (j : Int) < (j : Int) := by omega
          obtain ⟨r0, r1, r2, r3, r4, rf⟩ := row5 hRz
          have f0 := rf 0
          have f1 := rf 1
          have f2 := rf 2
          have f3 := rf 3
          have f4 := rf 4
          obtain ⟨oo0, oo1, oo2, oo3, oo4, _⟩ := row5 HJ.out.1
          have HRz := hide' hRz
          have HBw := hide' hBw
          clear of rf hPz hRz hBw o4
          go_wp2_with fail
          have hrow := set5_heap (j := 0) (.int .i64 6) (.int .i64 vn) (.slice a2 n p2) (.slice a3 n3 p3) (.slice yp j yc) HRz.out
          have hfin := row5 hrow
          simp only [set5, Nat.zero_add] at hfin
          obtain ⟨y0, y1, y2, y3, y4, _⟩ := hfin
          refine bodyPost_ret (v := .agg #[.int .i64 6, .int .i64 vn, .slice a2 n p2, .slice a3 n3 p3, .slice yp j yc]) (by simp [results, Tryd.results37, go_sem, y0, y1, y2, y3, y4]) rfl ?_
          have hJl : RdR N w2 (w.heap.size + 2) (.int .i64 6) (.int .i64 vn) (.slice a2 n p2) (.slice a3 n3 p3) d (vL.map (rnV fr tz d)) (vL.map (rnV fr tz d)).length wr (.slice yp j yc) cs2 := by rw [List.length_map, Hn4.out]; exact HJ.out
          have hE := rn_end (vk := 6) (vn := vn) hJl hN hzO HTx.out HK.out HBw.out
          rw [show rnV fr tz (d + 1) (6, vn, vS, vK, vL) = (6, vn, vS, vK, vL.map (rnV fr tz d)) from HTe.out]
          simp only [set5, Nat.zero_add] at hE
          exact hE
  · have HTe : Hid (rnV fr tz (d + 1) (vk, vn, vS, vK, vL) = (vk, vn, vS, vK, vL.map (rnV fr tz d))) := hide' (rnV_not (fun h => hk6 h.1))
    have hTx := HSw.out
    go_upto_region 4 with fail
    clear P0 P1 P2 P3 P4 hzs
    go_wp2_with fail
    have HO := hide' (RdR.start (N := N) (d := d) (l := vL.map (rnV fr tz d)) hOx)
    have HTx : Hid (TSeg (fun b => b < N) w (.slice a2 n p2) (vS)) := hide' hTx
    clear hOx hTx
    have hzO : w.heap.size + 2 < w2.heap.size := (Array.getElem?_eq_some_iff.1 HO.out.1).1
    have HPw : Hid (∀ wr, w2.grownBy wr (some (w.heap.size + 2)) → wr.heap[w.heap.size]? = some (.cells #[.int .i64 vk, .int .i64 vn, .slice a2 n p2, .slice a3 n3 p3, .slice a4 n4 p4] 26 (0, 0)) ∧ wr.heap[w.heap.size + 1]? = some (.cells #[.int .i64 0, .int .i64 0, .slice none 0 0, .slice none 0 0, .slice none 0 0] 26 (0, 0)) ∧ Below w.heap.size w wr) := hide' (fun wr hg => ⟨(hg.block _ (by omega) (by simp)).trans hP2, (hg.block _ (by omega) (by simp)).trans hR2, hb2.grown hg hb2.size (by intro k hk; simp at hk; omega)⟩)
    clear hP2 hR2 hb2
    go_loopw [8] (fun i wz => ∃ j : Nat, j ≤ n4 ∧ i = .int .i64 j ∧ ∃ y cs2, RdR N w2 (w.heap.size + 2) (.int .i64 vk) (.int .i64 vn) (.slice a2 n p2) (.slice a3 n3 p3) d (vL.map (rnV fr tz d)) j wz y cs2) (fun i _ => n4 - (intOf i).toNat)
    case atStart => exact ⟨0, Nat.zero_le _, rfl, _, _, HO.out⟩
    case round =>
      obtain ⟨j, hj, rfl, y, cs2, hJ⟩ := hrel
      have HJ := hide' hJ
      obtain ⟨yp, yc, rfl⟩ := hJ.slice
      obtain ⟨hPz, hRz, hBw⟩ := HPw.out _ hJ.2.2.2.2
      obtain ⟨_, _, _, _, q4, _⟩ := row5 hPz
      obtain ⟨_, _, _, _, o4, of⟩ := row5 hJ.1
      have hzz := hJ.2.2.2.2.size
      clear hJ
      by_cases hjl : j < n4
      · have hjl2 : (j : Int) < (n4 : Int) := by omega
        have hj0 : (0 : Int) ≤ (j : Int) := Int.natCast_nonneg _
        have hjv : j < vL.length := by have := Hn4.out; omega
        have hjm : j < (vL.map (rnV fr tz d)).length := by rw [List.length_map]; exact hjv
        obtain ⟨b, off, c, rfl, h5', hv⟩ := HL.out.at hBw hN hjv
        obtain ⟨c0, c1, c2, c3, c4⟩ := c
        obtain ⟨ek, en, s2, e2, r2, s3, e3, r3, s4, e4, r4, rfl, rfl, rfl, rfl, rfl⟩ := VSeg.form d (hv wr hBw)
        obtain ⟨g0, g1, g2, g3, g4⟩ := h5'
        simp only at g0 g1 g2 g3 g4
        have HE : Hid (∀ wy, Below wr.heap.size wr wy → Calls Tryd.prog 37 #[.agg #[.int .i64 ek, .int .i64 en, .slice s2 e2 r2, .slice s3 e3 r3, .slice s4 e4 r4], .slice fa fn fc, .slice ta tn tc] wy (RnCall N (w.heap.size + 2) w2.heap.size d (vL.map (rnV fr tz d)) j wr (.slice yp j yc) cs2.flatten)) := fun wy hy => (HA.out _ _ _ _ _ vL[j] wy (hv wy (Below.on hBw hy)) (Below.on hBw hy) (HLe.out j hjv)).mono fun e w5 he => rn_call HJ.out hzO hjm (by rw [List.getElem_map]) hy he
        clear hv hBw hPz hRz
        go_wp2_with fail
        have HCf := hide' of
        clear of
        go_region_law
          (first
            | (go_simp; go_at_call 37; refine (HE.out _ (by first | exact Below.refl _ _ | exact (Below.refl _ _).drew | exact (Below.refl _ _).drew.drew)).mono ?_; rintro e w5 ⟨uk, un, z2, n2, x2, z3, m3, x3, z4, m4, x4, rfl, hv5, b5, hc5, ho5⟩; have hit := hide' (And.intro hv5 (And.intro b5 ho5)); have hz5 : w.heap.size + 2 < w5.heap.size := (by have := b5.size; omega); have hc5o : ∀ o, (w5.alloc o).cell? ⟨w.heap.size + 2, 4, none⟩ = some (.slice yp j yc) := (fun o => (World.cell?_of_block (Below.heap_alloc w5 o (w.heap.size + 2) hz5)).trans hc5); clear hv5 b5 ho5)
            | (refine step_append_lies _ (by rfl) (.tmp 39) (.tmp 48) 24 (by rfl) w2.heap.size 26 iV _ 5 88 Tryd.underlying24 hiV hz0 hz1' hz2 rfl (by decide) (.slice yp j yc) j cs2.flatten (by rfl) (by first | exact hit.out.2.2.alloc _ | exact (hit.out.2.2.alloc _).drew) ⟨w5.heap.size, 0, none⟩ 1 1 [.int .i64 uk, .int .i64 un, .slice z2 n2 x2, .slice z3 m3 x3, .slice z4 m4 x4] (by rfl) (by rfl) (World.news_of_block (cs := #[.int .i64 uk, .int .i64 un, .slice z2 n2 x2, .slice z3 m3 x3, .slice z4 m4 x4]) (t := 26) (fr := (0, 0)) (heap_alloc_new w5 _)) (by simp [Value.oneCell']) (by omega) (by unfold maxLen; omega) (by omega) (by have := hit.out.2.1.size; simp; omega) (w5.heap.size + 1) (by simp) ?_; intro g cp w6 hown6 hg6 hat6 hlt6; obtain ⟨hV6, hJ6⟩ := RdR.add HJ.out (by omega) (by omega) hjm hit.out.2.1 (hit.out.1 hjm) hown6 hg6 hat6; obtain ⟨_, _, _, _, hc6, hf6⟩ := row5 hV6; replace hf6 := hf6 4; replace hJ6 := hide' hJ6; clear hown6 hg6 hat6 hlt6 hV6 hit hc5 hc5o))
        all_goals go_wp2
        all_goals exact ⟨⟨j + 1, by omega, by go_num, _, _, hJ6.out⟩, by simp [intOf]; omega⟩
      · obtain rfl : j = n4 := by omega
        have hjl2 : ¬ (j : Int) < (j : Int) := by omega
        obtain ⟨r0, r1, r2, r3, r4, rf⟩ := row5 hRz
        have f0 := rf 0
        have f1 := rf 1
        have f2 := rf 2
        have f3 := rf 3
        have f4 := rf 4
        obtain ⟨oo0, oo1, oo2, oo3, oo4, _⟩ := row5 HJ.out.1
        have HRz := hide' hRz
        have HBw := hide' hBw
        clear of rf hPz hRz hBw o4
        go_wp2_with fail
        have hrow := set5_heap (j := 0) (.int .i64 vk) (.int .i64 vn) (.slice a2 n p2) (.slice a3 n3 p3) (.slice yp j yc) HRz.out
        have hfin := row5 hrow
        simp only [set5, Nat.zero_add] at hfin
        obtain ⟨y0, y1, y2, y3, y4, _⟩ := hfin
        refine bodyPost_ret (v := .agg #[.int .i64 vk, .int .i64 vn, .slice a2 n p2, .slice a3 n3 p3, .slice yp j yc]) (by simp [results, Tryd.results37, go_sem, y0, y1, y2, y3, y4]) rfl ?_
        have hJl : RdR N w2 (w.heap.size + 2) (.int .i64 vk) (.int .i64 vn) (.slice a2 n p2) (.slice a3 n3 p3) d (vL.map (rnV fr tz d)) (vL.map (rnV fr tz d)).length wr (.slice yp j yc) cs2 := by rw [List.length_map, Hn4.out]; exact HJ.out
        have hE := rn_end (vk := vk) (vn := vn) hJl hN hzO HTx.out HK.out HBw.out
        rw [show rnV fr tz (d + 1) (vk, vn, vS, vK, vL) = (vk, vn, vS, vK, vL.map (rnV fr tz d)) from HTe.out]
        simp only [set5, Nat.zero_add] at hE
        exact hE

theorem l7rename_any (fr tz : List Int) (d : Nat) : RnAt fr tz d := by
  induction d with
  | zero => intro N c0 c1 c2 c3 c4 v _ _ _ _ w hv; exact hv.elim
  | succ d ih =>
    intro N c0 c1 c2 c3 c4 v fa fc ta tc w hv hN hF hT hs
    obtain ⟨vk, vn, vS, vK, vL⟩ := v
    obtain ⟨e0, e1, hS, hK, hL⟩ := (VSeg_succ _ _ _ _ _).1 hv
    simp only at e0 e1 hS hK hL
    subst e0
    subst e1
    have hS' := hS
    have hK' := hK
    have hL' := hL
    obtain ⟨a2, p2, rfl, _⟩ := hS'
    obtain ⟨a3, p3, rfl, _⟩ := hK'
    obtain ⟨a4, p4, rfl, _⟩ := hL'
    obtain ⟨b1, b2, b3, b4, b5⟩ := hs
    exact l7rename_walk fr tz vk vn vS vK d vL a2 p2 a3 p3 a4 p4 fa fc ta tc N ih w hN hS hK hL hF hT b4 b5
end Go.Proofs.YtfokidhamjphfaaDoor
