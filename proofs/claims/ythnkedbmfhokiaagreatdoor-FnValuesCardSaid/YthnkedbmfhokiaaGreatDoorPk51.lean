/-
  Texts that a law leans on, one behind the other; no statement is proved here.
-/
import Derived.Test.YthnkedbmfhokiaaGreatDoorPk50
import Derived.Test.YthnkedbmfhokiaaGreatDoorPk17
import Derived.Test.YthnkedbmfhokiaaGreatDoorPk19
import Derived.Test.YthnkedbmfhokiaaGreatDoorPk34
import Derived.Test.YthnkedbmfhokiaaGreatDoorPk47
import Derived.Test.YthnkedbmfhokiaaGreatDoorPk46
import Derived.Test.YthnkedbmfhokiaaGreatDoorPk33
import Derived.Test.YthnkedbmfhokiaaGreatDoorPk0
/-
  The draws of FnValues: a value, bent or not, and bytes. No statement is proved here.
-/
namespace Go.Proofs.YthnkedbmfhokiaaGreatDoor
open Go.RowKit
set_option linter.unusedVariables false
set_option linter.unusedSimpArgs false

theorem l2draw_dx (n : Nat) : DxAt n := by
  induction n with
  | zero => exact fun g a cap cs deep w h hd _ _ => l2draw_flat_dx 0 g a cap cs deep w h (by simpa using hd)
  | succ q ih =>
    intro g a cap cs deep w h hd hm hn
    by_cases hp : 0 < deep
    · exact l2draw_deep_dx q ih (q + 1) rfl g a cap cs deep w h hp (by omega) (by omega)
    · exact l2draw_flat_dx (q + 1) g a cap cs deep w h (by omega)

/-- One value that can be read. -/
def OneEnd (w : World) (e : Ending) (w' : World) : Prop :=
  ∃ (ak an : Int) (a2 : Option Addr) (l2 p2 : Nat) (a3 : Option Addr) (l3 p3 : Nat) (a4 : Option Addr) (l4 p4 : Nat), e = .returned (.agg #[.int .i64 ak, .int .i64 an, .slice a2 l2 p2, .slice a3 l3 p3, .slice a4 l4 p4]) ∧ Rd w' (.int .i64 ak, .int .i64 an, .slice a2 l2 p2, .slice a3 l3 p3, .slice a4 l4 p4) ∧ Below w.heap.size w w'

theorem one_end {w wz : World} {ak an : Int} {a2 : Option Addr} {l2 p2 : Nat} {a3 : Option Addr} {l3 p3 : Nat} {a4 : Option Addr} {l4 p4 : Nat} (hA : RdF (w.heap.size + 1) wz (.int .i64 ak, .int .i64 an, .slice a2 l2 p2, .slice a3 l3 p3, .slice a4 l4 p4)) (hb : Below w.heap.size w wz) :
    OneEnd w (.returned (.agg #[.int .i64 ak, .int .i64 an, .slice a2 l2 p2, .slice a3 l3 p3, .slice a4 l4 p4])) (set5 wz w.heap.size 0 (.int .i64 ak) (.int .i64 an) (.slice a2 l2 p2) (.slice a3 l3 p3) (.slice a4 l4 p4)) := by
  have h5 := set5_same wz w.heap.size 0 (.int .i64 ak) (.int .i64 an) (.slice a2 l2 p2) (.slice a3 l3 p3) (.slice a4 l4 p4)
  have ho : ∀ b, b ≠ w.heap.size → (set5 wz w.heap.size 0 (.int .i64 ak) (.int .i64 an) (.slice a2 l2 p2) (.slice a3 l3 p3) (.slice a4 l4 p4)).heap[b]? = wz.heap[b]? := fun b hb => set5_other wz w.heap.size 0 _ _ _ _ _ b hb
  generalize set5 wz w.heap.size 0 (.int .i64 ak) (.int .i64 an) (.slice a2 l2 p2) (.slice a3 l3 p3) (.slice a4 l4 p4) = wf at *
  exact ⟨_, _, _, _, _, _, _, _, _, _, _, rfl, (hA.on (fun b h1 _ => ho b (by omega)) (by omega)).rd, ⟨h5.1.trans hb.os, h5.2.1.trans hb.tape, h5.2.2.1.trans hb.output, by have := hb.size; omega, fun b hb' => (ho b (by omega)).trans (hb.block b hb')⟩⟩

set_option maxHeartbeats 3200000 in
set_option maxRecDepth 100000 in
theorem DrawValBytes_any (a : Option Addr) (cap : Nat) (cs : List Int) (w : World) (ha : Seg w a cs) (hl : cs.length ≤ maxLen) : Calls Tryz.prog 4 #[.slice a cs.length cap] w (OneEnd w) := by
  have hb0 : Below w.heap.size w (w.alloc (.cells #[.int .i64 0, .int .i64 0, .slice none 0 0, .slice none 0 0, .slice none 0 0] 26)) := (Below.refl _ w).alloc (Nat.le_refl _) _
  have hR0 : (w.alloc (.cells #[.int .i64 0, .int .i64 0, .slice none 0 0, .slice none 0 0, .slice none 0 0] 26)).heap[w.heap.size]? = some (.cells #[.int .i64 0, .int .i64 0, .slice none 0 0, .slice none 0 0, .slice none 0 0] 26) := heap_alloc_new w _
  have hN := l1New_hs 64 a cap cs (w.alloc (.cells #[.int .i64 0, .int .i64 0, .slice none 0 0, .slice none 0 0, .slice none 0 0] 26)) (ha.grow hb0) hl
  simp only [World.size_alloc] at hN
  have HN := hide' hN
  have H0 := hide' (And.intro hb0 hR0)
  clear hN hb0 hR0
  generalize cs.length = cl at *
  go_enter Tryz.func4, Tryz.ntmps4
  go_wp2_with fail
  refine HN.out.mono ?_
  rintro e w1 ⟨rfl, hS1, hB1⟩
  have HB1 : Hid (Below w.heap.size w w1) := hide' ⟨hB1.os.trans H0.out.1.os, hB1.tape.trans H0.out.1.tape, hB1.output.trans H0.out.1.output, by have := hB1.size; simp at this; omega, fun b hb => (hB1.block b (by first | omega | (simp <;> omega))).trans (H0.out.1.block b hb)⟩
  have HR1 := hide' ((hB1.block w.heap.size (by first | omega | (simp <;> omega))).trans H0.out.2)
  have hz1 : w.heap.size + 1 < w1.heap.size := hS1.lt
  have H2 := hide' (l2any_hs _ 64 _ _ _ _ _ w1 hS1 (by omega) (by omega))
  clear HN H0 hB1 hS1
  go_wp2_with fail
  refine H2.out.mono ?_
  rintro e w2 ⟨ak, an, a2, l2, p2, a3, l3, p3, a4, l4, p4, rk2, rfl, hG2, hS2, hB2, hR2, hSh2⟩
  have HA := hide' (hS2.rd hG2 (Nat.le_refl _))
  have HB2 := hide' (HB1.out.trans (hB2.mono (by omega)))
  have HR2 := hide' ((hB2.block w.heap.size (by omega)).trans HR1.out)
  clear hG2 hS2 hB2 hR2 hSh2 H2 HB1 HR1
  obtain ⟨r0, r1, r2, r3, r4, rf⟩ := row5 HR2.out
  have f0 := rf 0
  have f1 := rf 1
  have f2 := rf 2
  have f3 := rf 3
  have f4 := rf 4
  clear rf
  go_wp2_with fail
  have hfin := row5 (set5_heap (j := 0) (.int .i64 ak) (.int .i64 an) (.slice a2 l2 p2) (.slice a3 l3 p3) (.slice a4 l4 p4) HR2.out)
  simp only [set5, Nat.zero_add] at hfin
  obtain ⟨x0, x1, x2, x3, x4, _⟩ := hfin
  refine bodyPost_ret (v := .agg #[.int .i64 ak, .int .i64 an, .slice a2 l2 p2, .slice a3 l3 p3, .slice a4 l4 p4]) (by simp [results, Tryz.results4, go_sem, x0, x1, x2, x3, x4]) rfl ?_
  exact one_end HA.out HB2.out

set_option maxHeartbeats 3200000 in
set_option maxRecDepth 100000 in
theorem DrawValRead_any (a : Option Addr) (cap : Nat) (cs : List Int) (w : World) (ha : Seg w a cs) (hl : cs.length ≤ maxLen) :
    Calls Tryz.prog 13 #[.slice a cs.length cap] w fun e w' => ∃ b l c zs, e = .returned (.slice b l c) ∧ l = zs.length ∧ zs.length ≤ 100000 ∧ Bts w' w.heap.size (.slice b l c) zs ∧ Below w.heap.size w w' := by
  have HN := hide' (l1New_hs 64 a cap cs w ha hl)
  clear ha hl
  generalize cs.length = cl at *
  go_enter Tryz.func13, Tryz.ntmps13
  go_wp2_with fail
  refine HN.out.mono ?_
  rintro e w1 ⟨rfl, hS1, hB1⟩
  have HB1 := hide' hB1
  have hgl : w.heap.size < w1.heap.size := hS1.lt
  have H2 := hide' (l2draw_dx 3 w.heap.size a cap cs 3 w1 hS1.2.1 (by omega) (by omega) (by omega))
  clear HN hB1 hS1
  go_wp2_with fail
  refine H2.out.mono ?_
  rintro e w2 ⟨uk, un, s2, n2, r2, s3, n3, r3, s4, n4, r4, rfl, ⟨v, hv, hG⟩, hd2, hg2⟩
  have hparts : partsV 4 v ≤ 40 := by have := hG.2; simpa [pnD] using this
  have H3 := hide' (l2put_any 4 w2.heap.size none 0 [] (.int .i64 uk, .int .i64 un, .slice s2 n2 r2, .slice s3 n3 r3, .slice s4 n4 r4) v 1 w2 (VSeg.mono (fun b hb => hb.2) 4 hv) (Nat.le_refl _) ⟨by simp, .inl rfl⟩ (fun _ => rfl) (hG.1 1 (by omega)) (by simp; omega))
  have HD2 := hide' hd2
  have HG2 := hide' (HB1.out.grown hg2 HB1.out.size (by intro j hj; simp at hj; omega))
  have hz2 : w1.heap.size ≤ w2.heap.size := hg2.size
  have hlen := bytV_len 4 v []
  clear hv hG hd2 hg2 H2 HB1
  go_wp2_with fail
  refine H3.out.mono ?_
  rintro e w3 ⟨u, rfl, hB3, hb3⟩
  obtain ⟨b3, c3, hsh, hs3, _, _, _, hk3⟩ := hB3.shape
  have hzl : (bytV 4 v []).length ≤ 3000 := by simp at hlen; omega
  generalize bytV 4 v [] = zs at *
  subst hsh
  have H4 := hide' (l1Once_drw w.heap.size a cap cs 2 w3 (HD2.out.grow hb3) (by omega))
  have HB3 := hide' (hB3.mono (base' := w1.heap.size) hz2)
  have HW3 := hide' (HG2.out.trans (hb3.mono (by omega)))
  have hz3 : w2.heap.size ≤ w3.heap.size := hb3.size
  clear hB3 hb3 hs3 H3 HD2 HG2 hlen hparts
  go_wp2_with fail
  refine H4.out.mono ?_
  rintro e w4 ⟨bo, rfl, hd4, hg4⟩
  have hB4 := HB3.out.kept hg4 (by
    cases hvo : (Value.slice b3 zs.length c3).ownBlock with
    | none => exact .inl rfl
    | some k => right; have := (HB3.out.2.lt k hvo).1; simp; omega)
  have HW4 := hide' (HW3.out.grown hg4 (by omega) (by intro j hj; simp at hj; omega))
  have hz4 : w3.heap.size ≤ w4.heap.size := hg4.size
  clear H4 hg4 HB3 HW3
  cases bo with
  | false =>
    have HB4 := hide' (hB4.mono (base' := w.heap.size) (by omega))
    clear hB4 hd4 hk3
    go_wp2
    go_ret
    exact ⟨_, _, _, zs, rfl, rfl, by omega, HB4.out, HW4.out⟩
  | true =>
    have H5 := hide' (l1spoil_drwS w.heap.size a cap cs b3 c3 zs w4 hd4 hB4.seg hk3 (by omega))
    clear hB4 hd4 hk3
    go_wp2_with fail
    refine H5.out.mono ?_
    rintro e w5 ⟨v5, ys, rfl, hB5, hl5, hd5, hg5⟩
    obtain ⟨b5, c5, rfl, _⟩ := hB5.shape
    have HB5 := hide' (hB5.mono (base' := w.heap.size) (by omega))
    have HW5 := hide' (HW4.out.grown hg5 (by omega) (by intro j hj; simp at hj; omega))
    clear hB5 hd5 hg5 H5
    go_wp2
    go_ret
    exact ⟨_, _, _, ys, rfl, rfl, by omega, HB5.out, HW5.out⟩
end Go.Proofs.YthnkedbmfhokiaaGreatDoor
/-
  FnValues answers true, whatever code it is handed; it makes new memory and turns nothing old.
-/
namespace Go.Proofs.YthnkedbmfhokiaaGreatDoor
open Go.RowKit Go.Shelf
set_option linter.unusedVariables false
set_option linter.unusedSimpArgs false

theorem Tab.on {w w' : World} (h : Tab w.heap.size w) (hb : Below w.heap.size w w') : Tab w'.heap.size w' := fun wx hx => h wx (Below.on hb hx)

theorem valBytes_len {d : Nat} (v : Vl d) : (valBytes d v).length ≤ 3000 := by
  unfold valBytes
  split
  · next h =>
    have h1 := bytV_len d v []
    have h2 := (okB_parts h).2
    simp at h1
    omega
  · simp

/-- What is read of bytes that a good value gave: that value, at its own depth. -/
theorem read_back {d : Nat} {v : Vl d} {w w' : World} {e : Ending} (hok : okB d v = true) (h : ReadEnd 42 (rdJ (valBytes d v)).1 (isJ (valBytes d v)) w e w') :
    Below w.heap.size w w' ∧ ∃ (uk un : Int) (s2 : Option Addr) (n2 r2 : Nat) (s3 : Option Addr) (n3 r3 : Nat) (s4 : Option Addr) (n4 r4 : Nat), e = .returned (.tuple #[.agg #[.int .i64 uk, .int .i64 un, .slice s2 n2 r2, .slice s3 n3 r3, .slice s4 n4 r4], .bool true]) ∧ VSeg (fun b => b < w'.heap.size) w' d (.int .i64 uk, .int .i64 un, .slice s2 n2 r2, .slice s3 n3 r3, .slice s4 n4 r4) v := by
  have hb : valBytes d v = bytV d v [] := if_pos hok
  rw [hb] at h
  obtain ⟨h1, h2⟩ := rd_is d v hok
  obtain ⟨h3, h4⟩ := rd_both (bytV d v [])
  rw [h1] at h3
  obtain ⟨hbl, ⟨_, uk, un, s2, n2, r2, s3, n3, r3, s4, n4, r4, rfl, B, ho, hB⟩ | ⟨hf, _⟩⟩ := h
  · refine ⟨hbl, uk, un, s2, n2, r2, s3, n3, r3, s4, n4, r4, rfl, ?_⟩
    have hv := VSeg.mono (R' := fun b => b < w'.heap.size) (fun b hb => (hB b hb).2) 42 (VOwn.seg 42 ho)
    exact sim_seg 6 d _ _ _ h2 (sim_seg 42 6 _ _ _ (h4 h1) hv)
  · rw [← h3] at hf; simp at hf

theorem same_true2 {d : Nat} {v : Vl d} (h : okB d v = true) : sameV d v v = true := by
  unfold sameV
  simp [h]

set_option maxHeartbeats 25600000 in
set_option maxRecDepth 100000 in
theorem walk_FnValues (a : Option Addr) (cap : Nat) (cs : List Int) (w : World) (ha : Seg w a cs) (hl : cs.length ≤ maxLen) (ht : Tab w.heap.size w) :
    Calls Tryz.prog 3 #[.slice a cs.length cap] w fun e w' => e = .returned (.bool true) ∧ Below w.heap.size w w' := by
  have H1 := hide' (DrawValBytes_any a cap cs w ha hl)
  have HDr : Hid (∀ wx, Below w.heap.size w wx → Calls Tryz.prog 13 #[.slice a cs.length cap] wx fun e w' => ∃ b l c zs, e = .returned (.slice b l c) ∧ l = zs.length ∧ zs.length ≤ 100000 ∧ Bts w' wx.heap.size (.slice b l c) zs ∧ Below wx.heap.size wx w') := hide' (fun wx hb => DrawValRead_any a cap cs wx (ha.grow hb) hl)
  have HTab := hide' ht
  clear ha hl ht
  generalize cs.length = cl at *
  go_enter Tryz.func3, Tryz.ntmps3
  go_wp2_with fail
  refine H1.out.mono ?_
  rintro e w1 ⟨ak, an, a2, l2, p2, a3, l3, p3, a4, l4, p4, rfl, ⟨d, v, hv⟩, hb1⟩
  go_upto_region 2 with fail
  have HB2 := hide' (hb1.alloc hb1.size (.cells #[.int .i64 ak, .int .i64 an, .slice a2 l2 p2, .slice a3 l3 p3, .slice a4 l4 p4] 26))
  have HR2 := hide' (heap_alloc_new w1 (.cells #[.int .i64 ak, .int .i64 an, .slice a2 l2 p2, .slice a3 l3 p3, .slice a4 l4 p4] 26))
  have hba : Below w1.heap.size w1 (w1.alloc (.cells #[.int .i64 ak, .int .i64 an, .slice a2 l2 p2, .slice a3 l3 p3, .slice a4 l4 p4] 26)) := (Below.refl _ _).alloc (Nat.le_refl _) _
  have HV2 : Hid (VSeg (fun b => b < (w1.alloc (.cells #[.int .i64 ak, .int .i64 an, .slice a2 l2 p2, .slice a3 l3 p3, .slice a4 l4 p4] 26)).heap.size) (w1.alloc (.cells #[.int .i64 ak, .int .i64 an, .slice a2 l2 p2, .slice a3 l3 p3, .slice a4 l4 p4] 26)) d (.int .i64 ak, .int .i64 an, .slice a2 l2 p2, .slice a3 l3 p3, .slice a4 l4 p4) v) := hide' (VSeg.mono (fun b hb => Nat.lt_of_lt_of_le hb hba.size) d (VSeg.agree (agree_below hba) d hv))
  clear hb1 hv hba H1
  generalize w1.alloc (.cells #[.int .i64 ak, .int .i64 an, .slice a2 l2 p2, .slice a3 l3 p3, .slice a4 l4 p4] 26) = w2 at *
  generalize w1.heap.size = gv at *
  have HVx : Hid (∀ wx, Below w2.heap.size w2 wx → VSeg (fun b => b < w2.heap.size) wx d (.int .i64 ak, .int .i64 an, .slice a2 l2 p2, .slice a3 l3 p3, .slice a4 l4 p4) v) := hide' (fun wx hb => VSeg.agree (agree_below hb) d HV2.out)
  have HRx : Hid (∀ wx, Below w2.heap.size w2 wx → wx.heap[gv]? = some (.cells #[.int .i64 ak, .int .i64 an, .slice a2 l2 p2, .slice a3 l3 p3, .slice a4 l4 p4] 26 (0, 0))) := hide' (fun wx hb => (hb.block gv (Array.getElem?_eq_some_iff.1 HR2.out).1).trans HR2.out)
  have HSO : Hid (∀ wx, Below w2.heap.size w2 wx → Calls Tryz.prog 6 #[.agg #[.int .i64 ak, .int .i64 an, .slice a2 l2 p2, .slice a3 l3 p3, .slice a4 l4 p4]] wx fun e w' => e = .returned (.bool (okB d v)) ∧ Below wx.heap.size wx w') := hide' (fun wx hb => spec_ValOk_any d w2.heap.size _ _ _ _ _ v wx (HVx.out wx hb) hb.size)
  have HIO : Hid (∀ wx, Below w2.heap.size w2 wx → Calls Tryz.prog 7 #[.agg #[.int .i64 ak, .int .i64 an, .slice a2 l2 p2, .slice a3 l3 p3, .slice a4 l4 p4]] wx fun e w' => e = .returned (.bool (okB d v)) ∧ Below wx.heap.size wx w') := hide' (fun wx hb => impl_ValOk_any d w2.heap.size _ _ _ _ _ v wx (HVx.out wx hb) hb.size)
  have HTx : Hid (∀ wx, Below w2.heap.size w2 wx → Calls Tryz.prog 8 #[.agg #[.int .i64 ak, .int .i64 an, .slice a2 l2 p2, .slice a3 l3 p3, .slice a4 l4 p4]] wx (TxEnd (valText d v) wx)) := hide' (fun wx hb => impl_ValText_any d w2.heap.size _ _ _ _ _ v wx (HVx.out wx hb) hb.size (HTab.out.on (HB2.out.trans (hb.mono HB2.out.size))))
  have HVP : Hid (∀ wx, Below w2.heap.size w2 wx → Calls Tryz.prog 11 #[.agg #[.int .i64 ak, .int .i64 an, .slice a2 l2 p2, .slice a3 l3 p3, .slice a4 l4 p4]] wx fun e w' => e = .returned (.int .i64 (ansValParts d v)) ∧ Below wx.heap.size wx w') := hide' (fun wx hb => impl_ValParts_any d w2.heap.size _ _ _ _ _ v wx (HVx.out wx hb) hb.size)
  have HVD : Hid (∀ wx, Below w2.heap.size w2 wx → Calls Tryz.prog 12 #[.agg #[.int .i64 ak, .int .i64 an, .slice a2 l2 p2, .slice a3 l3 p3, .slice a4 l4 p4]] wx fun e w' => e = .returned (.int .i64 (ansValDeep d v)) ∧ Below wx.heap.size wx w') := hide' (fun wx hb => impl_ValDeep_any d w2.heap.size _ _ _ _ _ v wx (HVx.out wx hb) hb.size)
  have HBy := hide' (impl_ValBytes_any d w2.heap.size _ _ _ _ _ v w2 HV2.out (Nat.le_refl _))
  obtain ⟨c0, c1, c2, c3, c4, _⟩ := row5 (HRx.out w2 (Below.refl _ _))
  go_wp2_with fail
  refine HBy.out.mono ?_
  rintro e w3 ⟨ba, bn, bc, rfl, hBt, hb3⟩
  obtain ⟨_, _, hsh, _, hcp, hmx, _⟩ := hBt.shape
  cases hsh
  have HCp := hide' (And.intro hcp hmx)
  clear hcp hmx
  have HB3 := hide' hb3
  have HBt := hide' hBt
  have HS3 := hide' (HSO.out w3 hb3)
  obtain ⟨c0, c1, c2, c3, c4, _⟩ := row5 (HRx.out w3 hb3)
  clear hb3 hBt HBy
  go_wp2_with fail
  refine HS3.out.mono ?_
  rintro e w4 ⟨rfl, hb4⟩
  have HB4 := hide' (Below.on HB3.out hb4)
  have HBt4 := hide' (HBt.out.grow hb4)
  obtain ⟨c0, c1, c2, c3, c4, _⟩ := row5 (HRx.out w4 HB4.out)
  have HI4 := hide' (HIO.out w4 HB4.out)
  clear hb4 HS3 HBt HB3 HSO
  go_wp2_with fail
  refine HI4.out.mono ?_
  rintro e w5 ⟨rfl, hb5⟩
  have HB5 := hide' (Below.on HB4.out hb5)
  have HBt5 := hide' (HBt4.out.grow hb5)
  obtain ⟨c0, c1, c2, c3, c4, _⟩ := row5 (HRx.out w5 HB5.out)
  have HT5 := hide' (HTx.out w5 HB5.out)
  clear hb5 HI4 HBt4 HB4 HIO
  have HCn : Hid (okB d v = true → _) := hide' (fun h => ok_counts (v := v) h)
  have HRb : Hid (okB d v = true → _) := hide' (fun h (w : World) (w' : World) (e : Ending) => read_back (v := v) (w := w) (w' := w') (e := e) h)
  have HSa : Hid (okB d v = true → _) := hide' (fun h => same_true2 (v := v) h)
  have HTn : Hid (okB d v = false → valText d v = []) := hide' (fun h => by unfold valText; rw [h]; rfl)
  have hvl := valBytes_len v
  generalize hok : okB d v = ok at *
  have Hok := hide' hok
  clear hok
  have HFin : Hid (∀ wx, Below w2.heap.size w2 wx → Below w.heap.size w wx) := hide' (fun wx hb => HB2.out.trans (hb.mono HB2.out.size))
  clear HTx HTab
  cases ok with
  | false =>
    have HT6 := HT5
    rw [HTn.out rfl] at HT6
    clear HT5 HCn HRb HSa HTn HVP HVD HVx HRx
    go_wp2_with fail
    refine HT6.out.mono ?_
    rintro e w6 ⟨ta, tc, rfl, -, hb6⟩
    have HB6 := hide' (Below.on HB5.out hb6)
    clear hb6 HT6 HBt5
    have HD9 := hide' (HDr.out w6 (HFin.out w6 HB6.out))
    go_wp2_with fail
    refine HD9.out.mono ?_
    rintro e w9 ⟨da, dn, dc, zs, rfl, hdn, hzl, hBd, hb9⟩
    subst hdn
    have HB9 := hide' (Below.on HB6.out hb9)
    have HR9 := hide' (impl_ValRead_any da dc zs w9 hBd.seg (by obtain ⟨_, _, hsh, _, h1, _⟩ := hBd.shape; cases hsh; exact h1) (by obtain ⟨_, _, hsh, _, _, h1, _⟩ := hBd.shape; cases hsh; exact h1) (by omega) (fun x hx he => hBd.seg.lt x hx he))
    have HBd := hide' hBd
    have hisJ := isJ_iff zs
    clear hb9 hBd HD9
    generalize hzn : zs.length = zn at *
    have Hzn := hide' hzn
    clear hzn
    go_wp2_with fail
    refine HR9.out.mono ?_
    rintro e wA ⟨hbA, ⟨hj, yk, yn, e2, g2, h2, e3, g3, h3, e4, g4, h4, rfl, Bs, ho, hBs⟩ | ⟨hj, rfl⟩⟩
    · have HBA := hide' (Below.on HB9.out hbA)
      obtain ⟨hok2, hby2⟩ := hisJ.1 hj
      go_upto_region 11 with fail
      have hba : Below wA.heap.size wA (wA.alloc (.cells #[.int .i64 yk, .int .i64 yn, .slice e2 g2 h2, .slice e3 g3 h3, .slice e4 g4 h4] 26)) := (Below.refl _ _).alloc (Nat.le_refl _) _
      have HB11 := hide' (Below.on HBA.out hba)
      have HR11 := hide' (heap_alloc_new wA (.cells #[.int .i64 yk, .int .i64 yn, .slice e2 g2 h2, .slice e3 g3 h3, .slice e4 g4 h4] 26))
      have HBd11 := hide' ((HBd.out.grow hbA).grow hba)
      have HY := hide' (impl_ValBytes_any 42 (wA.alloc (.cells #[.int .i64 yk, .int .i64 yn, .slice e2 g2 h2, .slice e3 g3 h3, .slice e4 g4 h4] 26)).heap.size _ _ _ _ _ _ (wA.alloc (.cells #[.int .i64 yk, .int .i64 yn, .slice e2 g2 h2, .slice e3 g3 h3, .slice e4 g4 h4] 26)) (VSeg.mono (fun b hb => Nat.lt_of_lt_of_le (hBs b hb).2 hba.size) 42 (VSeg.agree (R := fun b => b ∈ Bs) (fun b hb => hba.block b (hBs b hb).2) 42 (VOwn.seg 42 ho))) (Nat.le_refl _))
      unfold ByEnd at HY
      rw [show valBytes 42 (rdJ zs).1 = zs from (if_pos hok2).trans hby2, hok2] at HY
      clear ho hBs hbA hba hj hok2 hby2 hisJ HBd HR9
      generalize wA.alloc (.cells #[.int .i64 yk, .int .i64 yn, .slice e2 g2 h2, .slice e3 g3 h3, .slice e4 g4 h4] 26) = w11 at *
      generalize wA.heap.size = g11 at *
      obtain ⟨d0, d1, d2, d3, d4, _⟩ := row5 HR11.out
      go_wp2_with fail
      refine HY.out.mono ?_
      rintro e w12 ⟨ca, cn, cc, rfl, hBc, hb12⟩
      have HB12 := hide' (Below.on HB11.out hb12)
      have hSc := hBc.shape
      obtain ⟨_, _, hsh, hsc, _⟩ := hSc
      cases hsh
      have HE := hide' (sameBy_any ca da cc dc zs zs w12 hsc (HBd11.out.grow hb12).seg)
      rw [show decide (zs = zs) = true by simp] at HE
      clear hBc hb12 HY hsc
      generalize zs.length = zc at *
      obtain rfl := Hzn.out
      go_wp2_with fail
      refine HE.out.mono ?_
      rintro e wE ⟨rfl, rfl⟩
      go_wp2
      go_ret
      exact ⟨rfl, HFin.out _ HB12.out⟩
    · have HBA := hide' (Below.on HB9.out hbA)
      go_upto_region 11 with fail
      have hba : Below wA.heap.size wA (wA.alloc (.cells #[.int .i64 0, .int .i64 0, .slice none 0 0, .slice none 0 0, .slice none 0 0] 26)) := (Below.refl _ _).alloc (Nat.le_refl _) _
      have HB11 := hide' (Below.on HBA.out hba)
      have HR11 := hide' (heap_alloc_new wA (.cells #[.int .i64 0, .int .i64 0, .slice none 0 0, .slice none 0 0, .slice none 0 0] 26))
      have HY := hide' (impl_ValBytes_any 1 (wA.alloc (.cells #[.int .i64 0, .int .i64 0, .slice none 0 0, .slice none 0 0, .slice none 0 0] 26)).heap.size _ _ _ _ _ _ (wA.alloc (.cells #[.int .i64 0, .int .i64 0, .slice none 0 0, .slice none 0 0, .slice none 0 0] 26)) (leaf_seg _ _ 0 0 0) (Nat.le_refl _))
      clear hbA hba hj hisJ HBd HR9
      generalize wA.alloc (.cells #[.int .i64 0, .int .i64 0, .slice none 0 0, .slice none 0 0, .slice none 0 0] 26) = w11 at *
      generalize wA.heap.size = g11 at *
      obtain ⟨d0, d1, d2, d3, d4, _⟩ := row5 HR11.out
      go_wp2_with fail
      refine HY.out.mono ?_
      rintro e w12 ⟨ca, cn, cc, rfl, hBc, hb12⟩
      have HB12 := hide' (Below.on HB11.out hb12)
      clear hBc hb12 HY
      go_wp2
      go_ret
      exact ⟨rfl, HFin.out _ HB12.out⟩
  | true =>
    obtain ⟨hp1, hp2, hp3, hp4⟩ := HCn.out rfl
    have hp4' : (0 : Int) < ((valText d v).length : Int) := by omega
    have hq1 : ¬ (ansValParts d v : Int) < (ansValDeep d v : Int) := by omega
    have hq2 : ¬ (40 : Int) < (ansValParts d v : Int) := by omega
    have hq3 : ¬ (5 : Int) < (ansValDeep d v : Int) := by omega
    go_wp2_with fail
    refine HT5.out.mono ?_
    rintro e w6 ⟨ta, tc, rfl, -, hb6⟩
    have HB6 := hide' (Below.on HB5.out hb6)
    have HRd := hide' (impl_ValRead_any ba bc (valBytes d v) w6 (HBt5.out.grow hb6).seg HCp.out.1 HCp.out.2 (by omega) (fun x hx he => (HBt5.out.grow hb6).seg.lt x hx he))
    clear hb6 HT5 HBt5 HTn hvl HCp
    generalize (valText d v).length = tl at *
    have hp4b : decide (0 < tl) = true := by simp [hp4]
    generalize hbn : (valBytes d v).length = bn at *
    clear hbn
    go_wp2_with fail
    refine HRd.out.mono ?_
    intro e w7 hE7
    obtain ⟨hb7, xk, xn, b2, m2, q2, b3, m3, q3, b4, m4, q4, rfl, hx7⟩ := HRb.out (by first | rfl | trivial) _ _ _ hE7
    go_upto_region 7 with fail
    have hba : Below w7.heap.size w7 (w7.alloc (.cells #[.int .i64 xk, .int .i64 xn, .slice b2 m2 q2, .slice b3 m3 q3, .slice b4 m4 q4] 26)) := (Below.refl _ _).alloc (Nat.le_refl _) _
    have HB8 := hide' (Below.on (Below.on HB6.out hb7) hba)
    have HX8 := hide' (heap_alloc_new w7 (.cells #[.int .i64 xk, .int .i64 xn, .slice b2 m2 q2, .slice b3 m3 q3, .slice b4 m4 q4] 26))
    have HXv : Hid (VSeg (fun b => b < (w7.alloc (.cells #[.int .i64 xk, .int .i64 xn, .slice b2 m2 q2, .slice b3 m3 q3, .slice b4 m4 q4] 26)).heap.size) (w7.alloc (.cells #[.int .i64 xk, .int .i64 xn, .slice b2 m2 q2, .slice b3 m3 q3, .slice b4 m4 q4] 26)) d (.int .i64 xk, .int .i64 xn, .slice b2 m2 q2, .slice b3 m3 q3, .slice b4 m4 q4) v) := hide' (VSeg.mono (fun b hb => Nat.lt_of_lt_of_le hb hba.size) d (VSeg.agree (agree_below hba) d hx7))
    clear hE7 hb7 hba hx7 HRd HRb
    generalize w7.alloc (.cells #[.int .i64 xk, .int .i64 xn, .slice b2 m2 q2, .slice b3 m3 q3, .slice b4 m4 q4] 26) = w8 at *
    generalize w7.heap.size = gx at *
    have HXr : Hid (∀ wx, Below w8.heap.size w8 wx → wx.heap[gx]? = some (.cells #[.int .i64 xk, .int .i64 xn, .slice b2 m2 q2, .slice b3 m3 q3, .slice b4 m4 q4] 26 (0, 0))) := hide' (fun wx hb => (hb.block gx (Array.getElem?_eq_some_iff.1 HX8.out).1).trans HX8.out)
    have HUp : Hid (∀ wx, Below w8.heap.size w8 wx → Below w2.heap.size w2 wx) := hide' (fun wx hb => Below.on HB8.out hb)
    have HSm : Hid (∀ wx, Below w8.heap.size w8 wx → Calls Tryz.prog 10 #[.agg #[.int .i64 xk, .int .i64 xn, .slice b2 m2 q2, .slice b3 m3 q3, .slice b4 m4 q4], .agg #[.int .i64 ak, .int .i64 an, .slice a2 l2 p2, .slice a3 l3 p3, .slice a4 l4 p4]] wx fun e w' => e = .returned (.bool true) ∧ Below wx.heap.size wx w') := hide' (fun wx hb => by
      have h := same_any d w8.heap.size _ _ _ _ _ _ _ _ _ _ v v wx (VSeg.agree (agree_below hb) d HXv.out) (VSeg.mono (fun b hb' => Nat.lt_of_lt_of_le hb' HB8.out.size) d (HVx.out wx (HUp.out wx hb))) hb.size
      rw [HSa.out (by first | rfl | trivial)] at h
      exact h)
    have hB8 : Hid (Below w8.heap.size w8 w8) := hide' (Below.refl _ _)
    clear HX8 HXv HSa
    generalize ansValParts d v = vp at *
    generalize ansValDeep d v = vd at *
    have hr1 : decide ((vp : Int) < (vd : Int)) = false := by simp; omega
    have hr2 : decide ((40 : Int) < (vp : Int)) = false := by simp; omega
    have hr3 : decide ((5 : Int) < (vd : Int)) = false := by simp; omega
    have hs1 : decide (vp < vd) = false := by simp; omega
    have hs2 : decide (40 < vp) = false := by simp; omega
    have hs3 : decide (5 < vd) = false := by simp; omega
    refine wp_region_held_drew (S := (fun wx => Below w8.heap.size w8 wx)) (by kernel_rfl) hB8.out.drew (fun hHeld => ?_)
    refine take_yes (i := 0) 44 (v := ?_) rfl rfl (by kernel_rfl) (by kernel_rfl) (by kernel_rfl) (fun _ _ _ h => h) (by kernel_rfl) hHeld ?_ ?_
    rotate_left
    focus (intro w hSw; (try dsimp only at hSw); go_simp; (try with_reducible rfl))
    (try simp only [Act.put, List.setIfInBounds_toArray, List.set_cons_zero, List.set_cons_succ])
    refine take_yes (i := 1) 45 (v := ?_) rfl rfl (by kernel_rfl) (by kernel_rfl) (by kernel_rfl) (fun _ _ _ h => h) (by kernel_rfl) hHeld ?_ ?_
    rotate_left
    focus (intro w hSw; (try dsimp only at hSw); go_simp; (try with_reducible rfl))
    (try simp only [Act.put, List.setIfInBounds_toArray, List.set_cons_zero, List.set_cons_succ])
    refine take_yes (i := 2) 46 (v := ?_) rfl rfl (by kernel_rfl) (by kernel_rfl) (by kernel_rfl) (fun _ _ _ h => h) (by kernel_rfl) hHeld ?_ ?_
    rotate_left
    focus (intro w hSw; (try dsimp only at hSw); go_simp; (try with_reducible rfl))
    (try simp only [Act.put, List.setIfInBounds_toArray, List.set_cons_zero, List.set_cons_succ])
    refine take_yes (i := 3) 47 (v := ?_) rfl rfl (by kernel_rfl) (by kernel_rfl) (by kernel_rfl) (fun _ _ _ h => h) (by kernel_rfl) hHeld ?_ ?_
    rotate_left
    focus (intro w hSw; obtain ⟨z0, z1, z2, z3, z4, -⟩ := row5 (HXr.out w hSw); (try dsimp only at hSw); go_simp; (try with_reducible rfl))
    (try simp only [Act.put, List.setIfInBounds_toArray, List.set_cons_zero, List.set_cons_succ])
    refine take_yes (i := 4) 48 (v := ?_) rfl rfl (by kernel_rfl) (by kernel_rfl) (by kernel_rfl) (fun _ _ _ h => h) (by kernel_rfl) hHeld ?_ ?_
    rotate_left
    focus (intro w hSw; obtain ⟨z0, z1, z2, z3, z4, -⟩ := row5 (HRx.out w (HUp.out w hSw)); (try dsimp only at hSw); go_simp; (try with_reducible rfl))
    (try simp only [Act.put, List.setIfInBounds_toArray, List.set_cons_zero, List.set_cons_succ])
    refine wpAnyH_ready (rs := [5]) (by kernel_rfl) (by simp) ?_
    refine AllReadyH.cons rfl (fun K hK => ?_) AllReadyH.nil
    go_simp
    go_at_call 10
    refine (HSm.out _ hHeld).mono ?_
    rintro e V1 ⟨rfl, hb⟩
    have hS := Below.on hHeld hb
    go_wp2_with fail
    refine hK.out _ _ hS (fun hHeld => ?_)
    clear hK
    (try simp only [Act.put, List.setIfInBounds_toArray, List.set_cons_zero, List.set_cons_succ])
    refine take_yes (i := 6) 50 (v := ?_) rfl rfl (by kernel_rfl) (by kernel_rfl) (by kernel_rfl) (fun _ _ _ h => h) (by kernel_rfl) hHeld ?_ ?_
    rotate_left
    focus (intro w hSw; (try dsimp only at hSw); go_simp; (try with_reducible rfl))
    (try simp only [Act.put, List.setIfInBounds_toArray, List.set_cons_zero, List.set_cons_succ])
    refine take_yes (i := 7) 51 (v := ?_) rfl rfl (by kernel_rfl) (by kernel_rfl) (by kernel_rfl) (fun _ _ _ h => h) (by kernel_rfl) hHeld ?_ ?_
    rotate_left
    focus (intro w hSw; (try dsimp only at hSw); go_simp; (try with_reducible rfl))
    (try simp only [Act.put, List.setIfInBounds_toArray, List.set_cons_zero, List.set_cons_succ])
    refine take_yes (i := 8) 52 (v := ?_) rfl rfl (by kernel_rfl) (by kernel_rfl) (by kernel_rfl) (fun _ _ _ h => h) (by kernel_rfl) hHeld ?_ ?_
    rotate_left
    focus (intro w hSw; (try dsimp only at hSw); go_simp; (try with_reducible rfl))
    (try simp only [Act.put, List.setIfInBounds_toArray, List.set_cons_zero, List.set_cons_succ])
    refine take_yes (i := 9) 53 (v := ?_) rfl rfl (by kernel_rfl) (by kernel_rfl) (by kernel_rfl) (fun _ _ _ h => h) (by kernel_rfl) hHeld ?_ ?_
    rotate_left
    focus (intro w hSw; obtain ⟨z0, z1, z2, z3, z4, -⟩ := row5 (HRx.out w (HUp.out w hSw)); (try dsimp only at hSw); go_simp; (try with_reducible rfl))
    (try simp only [Act.put, List.setIfInBounds_toArray, List.set_cons_zero, List.set_cons_succ])
    refine take_yes (i := 11) 55 (v := ?_) rfl rfl (by kernel_rfl) (by kernel_rfl) (by kernel_rfl) (fun _ _ _ h => h) (by kernel_rfl) hHeld ?_ ?_
    rotate_left
    focus (intro w hSw; obtain ⟨z0, z1, z2, z3, z4, -⟩ := row5 (HRx.out w (HUp.out w hSw)); (try dsimp only at hSw); go_simp; (try with_reducible rfl))
    (try simp only [Act.put, List.setIfInBounds_toArray, List.set_cons_zero, List.set_cons_succ])
    refine wpAnyH_ready (rs := [10]) (by kernel_rfl) (by simp) ?_
    refine AllReadyH.cons rfl (fun K hK => ?_) AllReadyH.nil
    go_simp
    go_at_call 11
    refine (HVP.out _ (HUp.out _ hHeld)).mono ?_
    rintro e V1 ⟨rfl, hb⟩
    have hS := Below.on hHeld hb
    go_wp2_with fail
    refine hK.out _ _ hS (fun hHeld => ?_)
    clear hK
    (try simp only [Act.put, List.setIfInBounds_toArray, List.set_cons_zero, List.set_cons_succ])
    refine wpAnyH_ready (rs := [12]) (by kernel_rfl) (by simp) ?_
    refine AllReadyH.cons rfl (fun K hK => ?_) AllReadyH.nil
    go_simp
    go_at_call 12
    refine (HVD.out _ (HUp.out _ hHeld)).mono ?_
    rintro e V1 ⟨rfl, hb⟩
    have hS := Below.on hHeld hb
    go_wp2_with fail
    refine hK.out _ _ hS (fun hHeld => ?_)
    clear hK
    (try simp only [Act.put, List.setIfInBounds_toArray, List.set_cons_zero, List.set_cons_succ])
    refine take_yes (i := 13) 57 (v := ?_) rfl rfl (by kernel_rfl) (by kernel_rfl) (by kernel_rfl) (fun _ _ _ h => h) (by kernel_rfl) hHeld ?_ ?_
    rotate_left
    focus (intro w hSw; (try dsimp only at hSw); go_simp; (try with_reducible rfl))
    (try simp only [Act.put, List.setIfInBounds_toArray, List.set_cons_zero, List.set_cons_succ])
    refine take_yes (i := 14) 58 (v := ?_) rfl rfl (by kernel_rfl) (by kernel_rfl) (by kernel_rfl) (fun _ _ _ h => h) (by kernel_rfl) hHeld ?_ ?_
    rotate_left
    focus (intro w hSw; (try dsimp only at hSw); go_simp; (try with_reducible rfl))
    (try simp only [Act.put, List.setIfInBounds_toArray, List.set_cons_zero, List.set_cons_succ])
    refine take_yes (i := 15) 59 (v := ?_) rfl rfl (by kernel_rfl) (by kernel_rfl) (by kernel_rfl) (fun _ _ _ h => h) (by kernel_rfl) hHeld ?_ ?_
    rotate_left
    focus (intro w hSw; (try dsimp only at hSw); go_simp; (try with_reducible rfl))
    (try simp only [Act.put, List.setIfInBounds_toArray, List.set_cons_zero, List.set_cons_succ])
    refine take_yes (i := 16) 60 (v := ?_) rfl rfl (by kernel_rfl) (by kernel_rfl) (by kernel_rfl) (fun _ _ _ h => h) (by kernel_rfl) hHeld ?_ ?_
    rotate_left
    focus (intro w hSw; obtain ⟨z0, z1, z2, z3, z4, -⟩ := row5 (HRx.out w (HUp.out w hSw)); (try dsimp only at hSw); go_simp; (try with_reducible rfl))
    (try simp only [Act.put, List.setIfInBounds_toArray, List.set_cons_zero, List.set_cons_succ])
    refine wpAnyH_ready (rs := [17]) (by kernel_rfl) (by simp) ?_
    refine AllReadyH.cons rfl (fun K hK => ?_) AllReadyH.nil
    go_simp
    go_at_call 11
    refine (HVP.out _ (HUp.out _ hHeld)).mono ?_
    rintro e V1 ⟨rfl, hb⟩
    have hS := Below.on hHeld hb
    go_wp2_with fail
    refine hK.out _ _ hS (fun hHeld => ?_)
    clear hK
    (try simp only [Act.put, List.setIfInBounds_toArray, List.set_cons_zero, List.set_cons_succ])
    refine take_yes (i := 18) 62 (v := ?_) rfl rfl (by kernel_rfl) (by kernel_rfl) (by kernel_rfl) (fun _ _ _ h => h) (by kernel_rfl) hHeld ?_ ?_
    rotate_left
    focus (intro w hSw; (try dsimp only at hSw); go_simp; (try with_reducible rfl))
    (try simp only [Act.put, List.setIfInBounds_toArray, List.set_cons_zero, List.set_cons_succ])
    refine take_yes (i := 19) 63 (v := ?_) rfl rfl (by kernel_rfl) (by kernel_rfl) (by kernel_rfl) (fun _ _ _ h => h) (by kernel_rfl) hHeld ?_ ?_
    rotate_left
    focus (intro w hSw; (try dsimp only at hSw); go_simp; (try with_reducible rfl))
    (try simp only [Act.put, List.setIfInBounds_toArray, List.set_cons_zero, List.set_cons_succ])
    refine take_yes (i := 20) 64 (v := ?_) rfl rfl (by kernel_rfl) (by kernel_rfl) (by kernel_rfl) (fun _ _ _ h => h) (by kernel_rfl) hHeld ?_ ?_
    rotate_left
    focus (intro w hSw; (try dsimp only at hSw); go_simp; (try with_reducible rfl))
    (try simp only [Act.put, List.setIfInBounds_toArray, List.set_cons_zero, List.set_cons_succ])
    refine take_yes (i := 21) 65 (v := ?_) rfl rfl (by kernel_rfl) (by kernel_rfl) (by kernel_rfl) (fun _ _ _ h => h) (by kernel_rfl) hHeld ?_ ?_
    rotate_left
    focus (intro w hSw; obtain ⟨z0, z1, z2, z3, z4, -⟩ := row5 (HRx.out w (HUp.out w hSw)); (try dsimp only at hSw); go_simp; (try with_reducible rfl))
    (try simp only [Act.put, List.setIfInBounds_toArray, List.set_cons_zero, List.set_cons_succ])
    refine wpAnyH_ready (rs := [22]) (by kernel_rfl) (by simp) ?_
    refine AllReadyH.cons rfl (fun K hK => ?_) AllReadyH.nil
    go_simp
    go_at_call 12
    refine (HVD.out _ (HUp.out _ hHeld)).mono ?_
    rintro e V1 ⟨rfl, hb⟩
    have hS := Below.on hHeld hb
    go_wp2_with fail
    refine hK.out _ _ hS (fun hHeld => ?_)
    clear hK
    (try simp only [Act.put, List.setIfInBounds_toArray, List.set_cons_zero, List.set_cons_succ])
    refine take_yes (i := 23) 67 (v := ?_) rfl rfl (by kernel_rfl) (by kernel_rfl) (by kernel_rfl) (fun _ _ _ h => h) (by kernel_rfl) hHeld ?_ ?_
    rotate_left
    focus (intro w hSw; (try dsimp only at hSw); go_simp; (try with_reducible rfl))
    (try simp only [Act.put, List.setIfInBounds_toArray, List.set_cons_zero, List.set_cons_succ])
    refine take_yes (i := 24) 68 (v := ?_) rfl rfl (by kernel_rfl) (by kernel_rfl) (by kernel_rfl) (fun _ _ _ h => h) (by kernel_rfl) hHeld ?_ ?_
    rotate_left
    focus (intro w hSw; (try dsimp only at hSw); go_simp; (try with_reducible rfl))
    (try simp only [Act.put, List.setIfInBounds_toArray, List.set_cons_zero, List.set_cons_succ])
    refine wpAnyH_done (by kernel_rfl) ?_ _
    have HBE := hide' (HUp.out _ hHeld)
    clear hHeld HSm HVP HVD HRx HXr HUp hB8 HVx HCn
    obtain ⟨VE, hVE⟩ : ∃ VE, VE = V1 := ⟨_, rfl⟩
    subst hVE
    have HD9 := hide' (HDr.out VE (HFin.out VE HBE.out))
    go_wp2_with fail
    refine HD9.out.mono ?_
    rintro e w9 ⟨da, dn, dc, zs, rfl, hdn, hzl, hBd, hb9⟩
    subst hdn
    have HB9 := hide' (Below.on HBE.out hb9)
    have HR9 := hide' (impl_ValRead_any da dc zs w9 hBd.seg (by obtain ⟨_, _, hsh, _, h1, _⟩ := hBd.shape; cases hsh; exact h1) (by obtain ⟨_, _, hsh, _, _, h1, _⟩ := hBd.shape; cases hsh; exact h1) (by omega) (fun x hx he => hBd.seg.lt x hx he))
    have HBd := hide' hBd
    have hisJ := isJ_iff zs
    clear hb9 hBd HD9
    generalize hzn : zs.length = zn at *
    have Hzn := hide' hzn
    clear hzn
    go_wp2_with fail
    refine HR9.out.mono ?_
    rintro e wA ⟨hbA, ⟨hj, yk, yn, e2, g2, h2, e3, g3, h3, e4, g4, h4, rfl, Bs, ho, hBs⟩ | ⟨hj, rfl⟩⟩
    · have HBA := hide' (Below.on HB9.out hbA)
      obtain ⟨hok2, hby2⟩ := hisJ.1 hj
      go_upto_region 11 with fail
      have hba : Below wA.heap.size wA (wA.alloc (.cells #[.int .i64 yk, .int .i64 yn, .slice e2 g2 h2, .slice e3 g3 h3, .slice e4 g4 h4] 26)) := (Below.refl _ _).alloc (Nat.le_refl _) _
      have HB11 := hide' (Below.on HBA.out hba)
      have HR11 := hide' (heap_alloc_new wA (.cells #[.int .i64 yk, .int .i64 yn, .slice e2 g2 h2, .slice e3 g3 h3, .slice e4 g4 h4] 26))
      have HBd11 := hide' ((HBd.out.grow hbA).grow hba)
      have HY := hide' (impl_ValBytes_any 42 (wA.alloc (.cells #[.int .i64 yk, .int .i64 yn, .slice e2 g2 h2, .slice e3 g3 h3, .slice e4 g4 h4] 26)).heap.size _ _ _ _ _ _ (wA.alloc (.cells #[.int .i64 yk, .int .i64 yn, .slice e2 g2 h2, .slice e3 g3 h3, .slice e4 g4 h4] 26)) (VSeg.mono (fun b hb => Nat.lt_of_lt_of_le (hBs b hb).2 hba.size) 42 (VSeg.agree (R := fun b => b ∈ Bs) (fun b hb => hba.block b (hBs b hb).2) 42 (VOwn.seg 42 ho))) (Nat.le_refl _))
      unfold ByEnd at HY
      rw [show valBytes 42 (rdJ zs).1 = zs from (if_pos hok2).trans hby2, hok2] at HY
      clear ho hBs hbA hba hj hok2 hby2 hisJ HBd HR9
      generalize wA.alloc (.cells #[.int .i64 yk, .int .i64 yn, .slice e2 g2 h2, .slice e3 g3 h3, .slice e4 g4 h4] 26) = w11 at *
      generalize wA.heap.size = g11 at *
      obtain ⟨d0, d1, d2, d3, d4, _⟩ := row5 HR11.out
      go_wp2_with fail
      refine HY.out.mono ?_
      rintro e w12 ⟨ca, cn, cc, rfl, hBc, hb12⟩
      have HB12 := hide' (Below.on HB11.out hb12)
      have hSc := hBc.shape
      obtain ⟨_, _, hsh, hsc, _⟩ := hSc
      cases hsh
      have HE := hide' (sameBy_any ca da cc dc zs zs w12 hsc (HBd11.out.grow hb12).seg)
      rw [show decide (zs = zs) = true by simp] at HE
      clear hBc hb12 HY hsc
      generalize zs.length = zc at *
      obtain rfl := Hzn.out
      go_wp2_with fail
      refine HE.out.mono ?_
      rintro e wE ⟨rfl, rfl⟩
      go_wp2
      go_ret
      exact ⟨rfl, HFin.out _ HB12.out⟩
    · have HBA := hide' (Below.on HB9.out hbA)
      go_upto_region 11 with fail
      have hba : Below wA.heap.size wA (wA.alloc (.cells #[.int .i64 0, .int .i64 0, .slice none 0 0, .slice none 0 0, .slice none 0 0] 26)) := (Below.refl _ _).alloc (Nat.le_refl _) _
      have HB11 := hide' (Below.on HBA.out hba)
      have HR11 := hide' (heap_alloc_new wA (.cells #[.int .i64 0, .int .i64 0, .slice none 0 0, .slice none 0 0, .slice none 0 0] 26))
      have HY := hide' (impl_ValBytes_any 1 (wA.alloc (.cells #[.int .i64 0, .int .i64 0, .slice none 0 0, .slice none 0 0, .slice none 0 0] 26)).heap.size _ _ _ _ _ _ (wA.alloc (.cells #[.int .i64 0, .int .i64 0, .slice none 0 0, .slice none 0 0, .slice none 0 0] 26)) (leaf_seg _ _ 0 0 0) (Nat.le_refl _))
      clear hbA hba hj hisJ HBd HR9
      generalize wA.alloc (.cells #[.int .i64 0, .int .i64 0, .slice none 0 0, .slice none 0 0, .slice none 0 0] 26) = w11 at *
      generalize wA.heap.size = g11 at *
      obtain ⟨d0, d1, d2, d3, d4, _⟩ := row5 HR11.out
      go_wp2_with fail
      refine HY.out.mono ?_
      rintro e w12 ⟨ca, cn, cc, rfl, hBc, hb12⟩
      have HB12 := hide' (Below.on HB11.out hb12)
      clear hBc hb12 HY
      go_wp2
      go_ret
      exact ⟨rfl, HFin.out _ HB12.out⟩
end Go.Proofs.YthnkedbmfhokiaaGreatDoor
