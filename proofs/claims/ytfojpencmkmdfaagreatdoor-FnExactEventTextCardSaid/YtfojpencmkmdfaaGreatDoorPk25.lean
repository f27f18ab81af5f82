/-
  Texts that a law leans on, one behind the other; no statement is proved here.
-/
import Derived.Test.YtfojpencmkmdfaaGreatDoorPk24
import Derived.Test.YtfojpencmkmdfaaGreatDoorPk7
import Derived.Test.YtfojpencmkmdfaaGreatDoorPk23
import Derived.Test.YtfojpencmkmdfaaGreatDoorPk14
import Derived.Test.YtfojpencmkmdfaaGreatDoorPk5
import Derived.Test.YtfojpencmkmdfaaGreatDoorPk15
import Derived.Test.YtfojpencmkmdfaaGreatDoorPk22
import Derived.Deep.Cut
import Derived.Deep.MidRow
import Derived.Deep.RegionHeld3
import Derived.Test.YtfojpencmkmdfaaGreatDoorRows
import Derived.Lib.LaidTab
import Derived.MakeChecks
import Derived.Stop.LaidErr
import Derived.Test.YtfojpencmkmdfaaGreatDoorPk3
import Derived.WalkKit
import Derived.ProofKit
import Derived.ChangeSlices
import Derived.ChangeArms
/-
  What is owned, behind later calls; how many marks a value takes.
-/
namespace Go.Proofs.YtfojpencmkmdfaaGreatDoor
open Go.RowKit
set_option linter.unusedVariables false
set_option linter.unusedSimpArgs false

theorem KOwn.on {w w' : World} {v : Value} {ks : List (List Int)} {B : List Nat} (h : KOwn w v ks B) (hb : Below w.heap.size w w') : KOwn w' v ks B := h.agree fun b hb' => hb.block b (h.lt b hb')
theorem VOwn.on {w w' : World} {d : Nat} {c : Value × Value × Value × Value × Value} {v : Vl d} {B : List Nat} (h : VOwn w d c v B) (hb : Below w.heap.size w w') : VOwn w' d c v B := VOwn.agree d h fun b hb' => hb.block b (VOwn.lt d h b hb')
theorem KOwn.far {w w' : World} {v : Value} {ks : List (List Int)} {B B' : List Nat} (h : KOwn w v ks B) (hT : Turned B' w w') (hd : ∀ b ∈ B, b ∉ B') : KOwn w' v ks B := h.agree fun b hb' => hT.block b (h.lt b hb') (hd b hb')
theorem KOwn.read {w : World} {v : Value} {ks : List (List Int)} {B : List Nat} (h : KOwn w v ks B) : KSeg (fun b => b < w.heap.size) w v ks := h.seg.mono fun b hb => h.lt b hb

theorem sum_cE {d : Nat} (h : ∀ v : Vl d, cE d v ≤ 2 + 2 * szV d v) : ∀ l : List (Vl d), (l.map (cE d)).sum ≤ 2 * l.length + 2 * (l.map (szV d)).sum
  | [] => by simp
  | x :: r => by
    have h1 := h x
    have h2 := sum_cE h r
    simp only [List.map_cons, List.sum_cons, List.length_cons]
    omega

theorem cE_sz : ∀ (d : Nat) (v : Vl d), cE d v ≤ 2 + 2 * szV d v
  | 0, _ => by simp [cE]
  | d + 1, (vk, vn, vs, vK, vL) => by
    have h2 := sum_cE (cE_sz d) vL
    have h3 : szV (d + 1) (vk, vn, vs, vK, vL) = szT vs + szK vK + (vL.length + (vL.map (szV d)).sum) := rfl
    have h4 : cE (d + 1) (vk, vn, vs, vK, vL) = 2 + (vs.length + ((vK.map List.length).sum + (vL.map (cE d)).sum)) := rfl
    have h5 : szK vK = vK.length + (vK.map List.length).sum := rfl
    have h6 : vs.length ≤ szT vs := by unfold szT; omega
    omega

theorem cV_le (d : Nat) (v : Vl (d + 1)) : cV d v ≤ 2 * szV (d + 1) v := by
  obtain ⟨vk, vn, vs, vK, vL⟩ := v
  have h2 := sum_cE (cE_sz d) vL
  have h3 : szV (d + 1) (vk, vn, vs, vK, vL) = szT vs + szK vK + (vL.length + (vL.map (szV d)).sum) := rfl
  have h4 : cV d (vk, vn, vs, vK, vL) = vs.length + (vK.map List.length).sum + (vL.map (cE d)).sum := rfl
  have h5 : szK vK = vK.length + (vK.map List.length).sum := rfl
  have h6 : vs.length ≤ szT vs := by unfold szT; omega
  omega

theorem VOwn.far {w w' : World} {d : Nat} {c : Value × Value × Value × Value × Value} {v : Vl d} {B B' : List Nat} (h : VOwn w d c v B) (hT : Turned B' w w') (hd : ∀ b ∈ B, b ∉ B') : VOwn w' d c v B := VOwn.agree d h fun b hb' => hT.block b (VOwn.lt d h b hb') (hd b hb')
theorem VOwn.read {w : World} {d : Nat} {c : Value × Value × Value × Value × Value} {v : Vl d} {B : List Nat} (h : VOwn w d c v B) : VSeg (fun b => b < w.heap.size) w d c v := h.below (Below.refl _ _)
theorem row_on {w w' : World} {b : Nat} {o : Obj} (h : w.heap[b]? = some o) (hb : Below w.heap.size w w') : w'.heap[b]? = some o := (hb.block b (Array.getElem?_eq_some_iff.1 h).1).trans h
theorem row_far {w w' : World} {b : Nat} {o : Obj} {B : List Nat} (h : w.heap[b]? = some o) (hT : Turned B w w') (hn : b ∉ B) : w'.heap[b]? = some o := (hT.block b (Array.getElem?_eq_some_iff.1 h).1 hn).trans h
theorem row_mark {w w' : World} {b : Nat} {o : Obj} {r : Option Nat} (h : w.heap[b]? = some o) (hg : w.grownBy w' r) (hn : some b ≠ r) : w'.heap[b]? = some o := (hg.block b (Array.getElem?_eq_some_iff.1 h).1 hn).trans h
theorem VOwn.mark {w w' : World} {d : Nat} {c : Value × Value × Value × Value × Value} {v : Vl d} {B : List Nat} {r : Option Nat} (h : VOwn w d c v B) (hg : w.grownBy w' r) (hn : ∀ b ∈ B, some b ≠ r) : VOwn w' d c v B := VOwn.agree d h fun b hb => hg.block b (VOwn.lt d h b hb) (hn b hb)

/-- What a call that hands out a value and a word leaves: a value of the call's own, and the word. -/
def Ans (D : Nat) (a : Vl (D + 1)) (bb : Bool) (w : World) (e : Ending) (w' : World) : Prop := ∃ u0 u1 u2 u3 u4, e = .returned (.tuple #[.agg #[u0, u1, u2, u3, u4], .bool bb]) ∧ ∃ B, VOwn w' (D + 1) (u0, u1, u2, u3, u4) a B ∧ (∀ b ∈ B, w.heap.size ≤ b ∧ b < w'.heap.size) ∧ Below w.heap.size w w'

/-- The value that holds nothing. -/
def vNil (d : Nat) : Vl (d + 1) := ((0 : Int), (0 : Int), ([] : List Int), ([] : List (List Int)), ([] : List (Vl d)))

theorem sz_vNil (d : Nat) : szV (d + 1) (vNil d) = 0 := rfl

theorem tOwn_nil (w : World) : TOwn w (.slice none 0 0) [] [] := ⟨⟨by simp, rfl, .inl ⟨rfl, rfl⟩⟩, .inl ⟨rfl, rfl⟩⟩

theorem own_vNil (d : Nat) (w : World) : VOwn w (d + 1) (.int .i64 0, .int .i64 0, .slice none 0 0, .slice none 0 0, .slice none 0 0) (vNil d) [] :=
  (VOwn_succ _ _ _ _ _).2 ⟨rfl, rfl, [], [], [], tOwn_nil w, .inl ⟨rfl, rfl, rfl⟩, .inl ⟨rfl, rfl, rfl⟩, rfl, by simp⟩
end Go.Proofs.YtfojpencmkmdfaaGreatDoor
/-
  markEvent, markAct: all that a record of the call's own holds is marked, and nothing else is turned.
-/
namespace Go.Proofs.YtfojpencmkmdfaaGreatDoor
open Go.RowKit
set_option linter.unusedVariables false
set_option linter.unusedSimpArgs false

theorem own_at {w wx : World} {o : Obj} {C D : List Nat} (hT : Turned C (w.alloc o) wx) (hl : ∀ b ∈ D, b < w.heap.size) (hd : ∀ b ∈ D, b ∉ C) : Agree (fun b => b ∈ D) w wx := fun b hb => by
  have h1 := hl b hb
  exact (hT.block b (by simp; omega) (hd b hb)).trans (Below.heap_alloc w o b h1)

set_option maxHeartbeats 2000000 in
set_option maxRecDepth 100000 in
theorem markEvent_any (d : Nat) (cs : List Value) (it : Rcd (d + 1)) (B : List Nat) (w : World) (h : ROwn w (d + 1) cs it B) (hz : RSz (d + 1) it) :
    Calls Tryz.prog 10 #[.agg cs.toArray, .int .i64 1] w fun e w' => (∃ n : Nat, e = .returned (.int .i64 (n : Int)) ∧ n ≤ 16777216) ∧ Turned B w w' := by
  have hlt := h.lt
  obtain ⟨c1, c3, c4, c5, c6, c7, c8, B1, B2, B3, rfl, h1, h2, h3, rfl, s1, s2, d1, d2, d3, s12⟩ := h
  obtain ⟨ik, nm, mn, by', ks⟩ := it
  obtain ⟨z0, z1, z2⟩ := hz
  simp only at h1 h2 h3 z0 z1 z2 ⊢
  have hcv := cV_le d by'
  have hsk : (ks.map List.length).sum ≤ 1048576 := by have h5 : szK ks = ks.length + (ks.map List.length).sum := rfl; omega
  obtain ⟨m1, hm1⟩ : ∃ m : Nat, m = 1 + nm.length := ⟨_, rfl⟩
  obtain ⟨m2, hm2⟩ : ∃ m : Nat, m = m1 + cV d by' := ⟨_, rfl⟩
  obtain ⟨m3, hm3⟩ : ∃ m : Nat, m = m2 + (ks.map List.length).sum := ⟨_, rfl⟩
  have l1 : ∀ b ∈ B1, b < w.heap.size := fun b hb => hlt b (by simp [hb])
  have l2 : ∀ b ∈ B2, b < w.heap.size := fun b hb => hlt b (by simp [hb])
  have l3 : ∀ b ∈ B3, b < w.heap.size := fun b hb => hlt b (by simp [hb])
  have H1 : Hid (∀ o : Obj, Calls Tryz.prog 11 #[c1, .int .i64 1] (w.alloc o) fun e w' => e = .returned (.int .i64 (m1 : Int)) ∧ Turned B1 (w.alloc o) w') := fun o => by
    have h1' : TOwn (w.alloc o) c1 nm B1 := h1.agree fun b hb => Below.heap_alloc w o b (l1 b hb)
    obtain ⟨a, c, rfl, _⟩ := h1.seg
    refine (markByteS_F a c nm 1 (w.alloc o) h1'.1 (by omega) (by omega)).mono ?_
    rintro e w' ⟨rfl, _, hg⟩
    exact ⟨by rw [hm1], h1'.turned hg⟩
  have H2 : Hid (∀ (o : Obj) wx, Turned B1 (w.alloc o) wx → Calls Tryz.prog 26 #[.agg #[c3, c4, c5, c6, c7], .int .i64 (m1 : Int)] wx fun e w' => e = .returned (.int .i64 (m2 : Int)) ∧ Turned (B1 ++ B2) (w.alloc o) w') := fun o wx hT => by
    have h2' : VOwn wx (d + 1) (c3, c4, c5, c6, c7) by' B2 := VOwn.agree (d + 1) h2 (own_at hT l2 fun b hb hb' => by have e1 := d2 b hb; have e2 := d1 b hb'; omega)
    refine (markValue_any d c3 c4 c5 c6 c7 by' B2 m1 wx h2' z1 (by omega)).mono ?_
    rintro e w' ⟨rfl, _, hg⟩
    exact ⟨by rw [hm2], (hT.mono fun b hb => by simp [hb]).trans (hg.mono fun b hb => by simp [hb])⟩
  have H3 : Hid (∀ (o : Obj) wx, Turned (B1 ++ B2) (w.alloc o) wx → Calls Tryz.prog 27 #[c8, .int .i64 (m2 : Int)] wx fun e w' => e = .returned (.int .i64 (m3 : Int)) ∧ Turned (B1 ++ (B2 ++ B3)) (w.alloc o) w') := fun o wx hT => by
    have h3' : KOwn wx c8 ks B3 := h3.agree (own_at hT l3 fun b hb hb' => by
      have e1 := d3 b hb
      rcases List.mem_append.1 hb' with hb' | hb'
      · have e2 := d1 b hb'; omega
      · have e2 := d2 b hb'; omega)
    refine (markByteSS_any c8 ks B3 m2 wx h3' (by omega) (by omega)).mono ?_
    rintro e w' ⟨rfl, _, hg⟩
    exact ⟨by rw [hm3], (hT.mono fun b hb => by simp at hb ⊢; rcases hb with hb | hb <;> simp [hb]).trans (hg.mono fun b hb => by simp [hb])⟩
  have Hrow : Hid (∀ (o : Obj) wx C, Turned C (w.alloc o) wx → (∀ b ∈ C, b ∈ B1 ++ (B2 ++ B3)) → wx.heap[w.heap.size]? = some o) := fun o wx C hT hC => (hT.block w.heap.size (by simp) (fun hb => by have := hlt _ (hC _ hb); omega)).trans (MapKept.heap_alloc w o).1
  have HEnd : Hid (∀ (o : Obj) wx, Turned (B1 ++ (B2 ++ B3)) (w.alloc o) wx → Turned (B1 ++ (B2 ++ B3)) w wx) := fun o wx hT => (Turned.of_grown (World.grownBy_alloc w o none) (by simp)).trans hT
  have S1 : Hid (∀ b ∈ B1, b ∈ B1 ++ (B2 ++ B3)) := fun b hb => by simp [hb]
  have S2 : Hid (∀ b ∈ B1 ++ B2, b ∈ B1 ++ (B2 ++ B3)) := fun b hb => by simp at hb ⊢; rcases hb with hb | hb <;> simp [hb]
  obtain ⟨a1, p1, rfl, -⟩ := h1.seg
  obtain ⟨bk, bn, a2, l2', p2, a3, l3', p3, a4, l4', p4, rfl, rfl, rfl, rfl, rfl⟩ := VOwn.form (d + 1) h2
  obtain ⟨xa, xp, rfl, -⟩ := h3.seg
  have hb1 : m1 ≤ 16777216 := by omega
  have hb2 : m2 ≤ 16777216 := by omega
  have hb3 : m3 ≤ 16777216 := by omega
  clear h1 h2 h3 hlt d1 d2 d3 s12 z0 z1 z2 hcv hsk hm1 hm2 hm3 l1 l2 l3
  generalize nm.length = n1 at *
  generalize ks.length = n2 at *
  generalize B1 ++ (B2 ++ B3) = B at *
  generalize B1 ++ B2 = B12 at *
  go_enter Tryz.func10, Tryz.ntmps10
  go_wp2_with fail
  refine (H1.out _).mono ?_
  rintro e w1 ⟨rfl, T1⟩
  have hrow := Hrow.out _ _ _ T1 S1.out
  have y3 := cell_of_row _ _ 3 _ _ _ hrow
  have y4 := cell_of_row _ _ 4 _ _ _ hrow
  have y5 := cell_of_row _ _ 5 _ _ _ hrow
  have y6 := cell_of_row _ _ 6 _ _ _ hrow
  have y7 := cell_of_row _ _ 7 _ _ _ hrow
  simp at y3 y4 y5 y6 y7
  have HC := hide' (H2.out _ _ T1)
  clear hrow T1 H1 H2
  go_wp2_with fail
  refine HC.out.mono ?_
  rintro e w2 ⟨rfl, T2⟩
  have y8 := cell_of_row _ _ 8 _ _ _ (Hrow.out _ _ _ T2 S2.out)
  simp at y8
  have HC2 := hide' (H3.out _ _ T2)
  clear T2 H3 HC y3 y4 y5 y6 y7
  go_wp2_with fail
  refine HC2.out.mono ?_
  rintro e w3 ⟨rfl, T3⟩
  have HE := hide' (HEnd.out _ _ T3)
  clear T3 HC2 y8
  go_wp2
  go_ret
  exact ⟨⟨m3, rfl, hb3⟩, HE.out⟩

end Go.Proofs.YtfojpencmkmdfaaGreatDoor
/-
  eqItem, eqItemS: two readings of one list of records.
-/
namespace Go.Proofs.YtfojpencmkmdfaaGreatDoor
open Go.RowKit
set_option linter.unusedVariables false
set_option linter.unusedSimpArgs false

set_option maxHeartbeats 3200000 in
set_option maxRecDepth 100000 in
theorem eqEvent_any (d N : Nat) (cs cs' : List Value) (it : Rcd d) (w : World) (h : RSg (fun b => b < N) w d cs it) (h' : RSg (fun b => b < N) w d cs' it) (hN : N ≤ w.heap.size) (hz : RSz d it) :
    Calls Tryz.prog 9 #[.agg cs.toArray, .agg cs'.toArray] w fun e w' => e = .returned (.bool true) ∧ Below w.heap.size w w' := by
  obtain ⟨na, np, bk, bn, a2, l2, p2, a3, l3, p3, a4, l4, p4, xa, xp, rfl, ht, hv, hk⟩ := h.form
  obtain ⟨na', np', bk', bn', a2', l2', p2', a3', l3', p3', a4', l4', p4', xa', xp', rfl, ht', hv', hk'⟩ := h'.form
  obtain ⟨k, nm, mn, by', ks⟩ := it
  obtain ⟨z0, z1, z2⟩ := hz
  simp only at ht hv hk ht' hv' hk' z0 z1 z2 ⊢
  have HB : Hid (∀ o o' : Obj, Below w.heap.size w ((w.alloc o).alloc o')) := fun o o' => ((Below.refl _ _).alloc (Nat.le_refl _) o).alloc (by simp) o'
  have Hbox : Hid (∀ o o' wx, Below ((w.alloc o).alloc o').heap.size ((w.alloc o).alloc o') wx → wx.heap[w.heap.size]? = some o ∧ wx.heap[w.heap.size + 1]? = some o') := fun o o' wx h => ⟨(h.block _ (by simp; omega)).trans (two_boxes w o o').1, (h.block _ (by simp)).trans (two_boxes w o o').2⟩
  have hA : ∀ wx, Below w.heap.size w wx → Agree (fun b => b < N) w wx := fun wx hb => agree_below (hb.mono hN)
  have HT : Hid (∀ wx, Below w.heap.size w wx → Calls Tryz.prog 8 #[.slice na nm.length np, .slice na' nm.length np'] wx fun e w' => e = .returned (.bool true) ∧ Below wx.heap.size wx w') := fun wx hb => by
    obtain ⟨_, _, e1, s1, _⟩ := ht.agree (hA wx hb)
    obtain ⟨_, _, e2, s2, _⟩ := ht'.agree (hA wx hb)
    simp at e1 e2
    obtain ⟨rfl, _⟩ := e1
    obtain ⟨rfl, _⟩ := e2
    exact eqByteS_same _ _ _ _ nm wx s1 s2 (by omega)
  have HV : Hid (∀ wx, Below w.heap.size w wx → Calls Tryz.prog 24 #[.agg #[.int .i64 bk, .int .i64 bn, .slice a2 l2 p2, .slice a3 l3 p3, .slice a4 l4 p4], .agg #[.int .i64 bk', .int .i64 bn', .slice a2' l2' p2', .slice a3' l3' p3', .slice a4' l4' p4']] wx fun e w' => e = .returned (.bool true) ∧ Below wx.heap.size wx w') := fun wx hb =>
    eqValue_any d N (.int .i64 bk, .int .i64 bn, .slice a2 l2 p2, .slice a3 l3 p3, .slice a4 l4 p4) (.int .i64 bk', .int .i64 bn', .slice a2' l2' p2', .slice a3' l3' p3', .slice a4' l4' p4') by' wx (VSeg.agree (hA wx hb) d hv) (VSeg.agree (hA wx hb) d hv') (by have := hb.size; omega) z1
  have HK : Hid (∀ wx, Below w.heap.size w wx → Calls Tryz.prog 25 #[.slice xa ks.length xp, .slice xa' ks.length xp'] wx fun e w' => e = .returned (.bool true) ∧ Below wx.heap.size wx w') := fun wx hb => eqByteSS_same N _ _ ks wx (hk.agree (hA wx hb)) (hk'.agree (hA wx hb)) (by have := hb.size; omega) z2

  clear ht hv hk ht' hv' hk' h h' hA
  generalize nm.length = s0 at *
  generalize ks.length = kl at *
  go_enter Tryz.func9, Tryz.ntmps9
  go_wp2_with fail
  refine (HT.out _ (HB.out _ _)).mono ?_
  rintro e w1 ⟨rfl, b1⟩
  obtain ⟨r1, r2⟩ := Hbox.out _ _ _ b1
  have u2 := cell_of_row _ _ 2 _ _ _ r1
  have t2 := cell_of_row _ _ 2 _ _ _ r2
  have u3 := cell_of_row _ _ 3 _ _ _ r1
  have t3 := cell_of_row _ _ 3 _ _ _ r2
  have u4 := cell_of_row _ _ 4 _ _ _ r1
  have t4 := cell_of_row _ _ 4 _ _ _ r2
  have u5 := cell_of_row _ _ 5 _ _ _ r1
  have t5 := cell_of_row _ _ 5 _ _ _ r2
  have u6 := cell_of_row _ _ 6 _ _ _ r1
  have t6 := cell_of_row _ _ 6 _ _ _ r2
  have u7 := cell_of_row _ _ 7 _ _ _ r1
  have t7 := cell_of_row _ _ 7 _ _ _ r2
  simp at u2 u3 u4 u5 u6 u7 t2 t3 t4 t5 t6 t7
  have B1 := hide' b1
  clear r1 r2 b1
  go_wp2_with fail
  refine (HV.out _ (Below.on (HB.out _ _) B1.out)).mono ?_
  rintro e w2 ⟨rfl, b2⟩
  have B2 := hide' (Below.on B1.out b2)
  obtain ⟨r1, r2⟩ := Hbox.out _ _ _ B2.out
  have u8 := cell_of_row _ _ 8 _ _ _ r1
  have t8 := cell_of_row _ _ 8 _ _ _ r2
  simp at u8 t8
  clear r1 r2 b2
  go_wp2_with fail
  refine (HK.out _ (Below.on (HB.out _ _) B2.out)).mono ?_
  rintro e w3 ⟨rfl, b3⟩
  have B3 := hide' (Below.on (HB.out _ _) (Below.on B2.out b3))
  clear b3
  go_wp2
  go_ret
  exact ⟨rfl, B3.out⟩

end Go.Proofs.YtfojpencmkmdfaaGreatDoor
/-
  FnExactEventText answers true, whatever event it is handed; it makes new memory and turns nothing old.
-/
namespace Go.Proofs.YtfojpencmkmdfaaGreatDoor
open Go.RowKit Go.Shelf
set_option linter.unusedVariables false
set_option linter.unusedSimpArgs false

theorem Seg.stay {w w' : World} {a : Option Addr} {xs : List Int} (h : Seg w a xs) (hx : ∀ x, a = some x → w'.heap[x.block]? = w.heap[x.block]?) : Seg w' a xs := by
  refine ⟨h.1, ?_⟩
  rcases h.2 with h0 | ⟨b, off, rfl, hc⟩
  · exact .inl h0
  · exact .inr ⟨b, off, rfl, fun i hi => (show w'.cell? ⟨b, off + i, none⟩ = w.cell? ⟨b, off + i, none⟩ from World.cell?_of_block (hx ⟨b, off, none⟩ rfl)).trans (hc i hi)⟩

theorem evtT_short {d : Nat} (it : Rcd d) (hz : RSz d it) : (evtT d it).length ≤ 4000 := by
  obtain ⟨kk, ad, jj, v, ds⟩ := it
  unfold evtT
  split
  · next h =>
    obtain ⟨h0, h6, hh, hr⟩ := ev_parts h
    have hw : (evW kk).length ≤ 7 := by
      unfold evW
      repeat' split
      all_goals simp
    have hn := nm_len jj
    simp only [List.length_append]
    have h1 : (if 1 ≤ kk ∧ kk ≤ 4 then [32] ++ ad else ([] : List Int)).length ≤ 61 := by
      split
      · next e =>
        unfold headE at hh
        rw [Bool.and_eq_true, if_pos e] at hh
        have := addr_short hh.1
        simp
        omega
      · simp
    have h2 : (if kk = 1 then [32] ++ nmT jj else if kk = 2 then [32] ++ sayV d v else ([] : List Int)).length ≤ 2500 := by
      split
      · simp; omega
      · split
        · next e =>
          have h3 := rest_map hr e
          have h4 := sayV_len d v 1 h3.1
          simp
          omega
        · simp
    omega
  · simp

/-- A record, as the cells of one struct. -/
def RX (d : Nat) (it : Rcd d) (X : Array Value) (w : World) : Prop := RSg (fun b => b < w.heap.size) w d X.toList it
variable {d : Nat} {it : Rcd d} {X Y : Array Value} {w w' : World} {B : List Nat}
theorem RX.on (h : RX d it X w) (hb : Below w.heap.size w w') : RX d it X w' := (RSg.agree h (agree_below hb)).mono fun b hb' => Nat.lt_of_lt_of_le hb' hb.size
theorem RX.size (h : RX d it X w) : X.size = 9 := by have h1 := RSg.len h; simpa using h1
theorem RX.one (h : RX d it X w) : ∀ v ∈ X.toList, v.oneCell' = true := RSg.one h
theorem RX.sz (h : RX d it X w) : Calls Tryz.prog 4 #[.agg X, .int .i64 1048576] w fun e w' => (e = .returned (.int .i64 (-1)) ∨ ∃ n : Int, 0 ≤ n ∧ n ≤ 1048576 ∧ e = .returned (.int .i64 n) ∧ RSz d it) ∧ Below w.heap.size w w' := by
  have h1 := szEvent_any d w.heap.size X.toList it 1048576 w h (Nat.le_refl _) (by omega) (by omega)
  rw [Array.toArray_toList] at h1
  exact h1
theorem RX.to (h : RX d it X w) (hz : RSz d it) : Calls Tryz.prog 6 #[.agg X] w fun e w' => ∃ Y, e = .returned (.agg Y) ∧ ∃ B, ROwn w' d Y.toList it B ∧ (∀ b ∈ B, w.heap.size ≤ b ∧ b < w'.heap.size) ∧ Below w.heap.size w w' := by
  have h1 := toEventO_any d w.heap.size X.toList it w h (Nat.le_refl _) hz
  rw [Array.toArray_toList] at h1
  refine h1.mono ?_
  rintro e w' ⟨cs, rfl, B, hO, hB, hb⟩
  exact ⟨cs.toArray, rfl, B, hO, hB, hb⟩
theorem RX.spec (h : RX d it X w) (hz : RSz d it) : Calls Tryz.prog 5 #[.agg X] w (SayEnd (evtT d it) w) := by
  have h1 := spec_EventText_any d w.heap.size X.toList it w h (Nat.le_refl _) hz
  rw [Array.toArray_toList] at h1
  exact h1
theorem RX.impl (h : RX d it X w) (hz : RSz d it) (hE : Errs w ∧ WrdT w ∧ Tab w.heap.size w) : Calls Tryz.prog 7 #[.agg X] w (TxEnd (evtT d it) w) := by
  have h1 := impl_EventText_any d w.heap.size X.toList it w h (Nat.le_refl _) hz hE.1 hE.2.1 hE.2.2
  rw [Array.toArray_toList] at h1
  exact h1
theorem RX.eq (h : RX d it X w) (k : RX d it Y w) (hz : RSz d it) : Calls Tryz.prog 9 #[.agg X, .agg Y] w fun e w' => e = .returned (.bool true) ∧ Below w.heap.size w w' := by
  have h1 := eqEvent_any d w.heap.size X.toList Y.toList it w h k (Nat.le_refl _) hz
  rw [Array.toArray_toList, Array.toArray_toList] at h1
  exact h1
theorem ROwn.ix (h : ROwn w d X.toList it B) : RX d it X w := h.read
theorem mark_event {d : Nat} {it : Rcd (d + 1)} {X : Array Value} (h : ROwn w (d + 1) X.toList it B) (hz : RSz (d + 1) it) : Calls Tryz.prog 10 #[.agg X, .int .i64 1] w fun e w' => (∃ n : Nat, e = .returned (.int .i64 (n : Int)) ∧ n ≤ 16777216) ∧ Turned B w w' := by
  have h1 := markEvent_any d X.toList it B w h hz
  rw [Array.toArray_toList] at h1
  exact h1

theorem range_on {g : Nat} {cs : Array Value} {T : TypeId} {fr : Nat × Nat} (h : w.heap[g]? = some (.cells cs T fr)) (hb : Below w.heap.size w w') : w'.rangeAt g 0 cs.toList :=
  range_of_row (T := T) (fr := fr) (((hb.block g (Array.getElem?_eq_some_iff.1 h).1).trans h).trans (by simp))
theorem range_below {g : Nat} {cs : List Value} (h : w.rangeAt g 0 cs) (hg : g < w.heap.size) (hb : Below w.heap.size w w') : w'.rangeAt g 0 cs := fun j v hv => (World.cell?_of_block (hb.block g hg)).trans (h j v hv)

set_option maxHeartbeats 6400000 in
set_option maxRecDepth 100000 in
theorem walk_FnExactEventText_succ {d : Nat} {it : Rcd (d + 1)} (A : Array Value) (w : World) (hE : Errs w) (hW : WrdT w) (hT : Tab w.heap.size w) (hA : RX (d + 1) it A w) :
    Calls Tryz.prog 3 #[.agg A] w fun e w' => e = .returned (.bool true) ∧ Below w.heap.size w w' := by
  have HEr := hide' hE
  have HWr := hide' hW
  have HTab := hide' hT
  clear hE hW hT
  have b0 : Hid (∀ o : Obj, Below w.heap.size w (w.alloc o)) := fun o => (Below.refl _ _).alloc (Nat.le_refl _) o
  have HA := hide' hA
  have has := hA.size
  have HR : Hid (∀ wx, Below (w.alloc (.cells A 28)).heap.size (w.alloc (.cells A 28)) wx → wx.rangeAt w.heap.size 0 A.toList) := fun wx hb => range_on (MapKept.heap_alloc w _).1 hb
  have hi28 : (Tryz.prog.info? 28).map (·.size) = some A.toList.length := by rw [Array.length_toList, has]; kernel_rfl
  have r0 := HR.out _ (Below.refl _ _)
  have HS0 := hide' ((hA.on (b0.out (.cells A 28))).sz)
  clear hA
  go_enter Tryz.func3, Tryz.ntmps3
  go_wp2_with (refine wpList_load_mid rfl 28 (.tmp 1) (by rfl) w.heap.size 0 (by rfl) A.toList _ r0 Tryz.underlying28 rfl hi28 ?_; rw [Array.toArray_toList])
  refine HS0.out.mono ?_
  rintro e w1 ⟨hcase, b1⟩
  have B1 := hide' b1
  clear b1 HS0 r0
  rcases hcase with rfl | ⟨n, hn0, hn1, rfl, hz⟩
  · go_wp2
    go_ret
    exact ⟨rfl, Below.on (b0.out _) B1.out⟩
  have HZ := hide' hz
  have hks := evtT_short it hz
  have HSp : Hid (∀ X wx, RX (d + 1) it X wx → Calls Tryz.prog 5 #[.agg X] wx (SayEnd (evtT (d + 1) it) wx)) := fun X wx h => h.spec HZ.out
  have HIm : Hid (∀ X wx, RX (d + 1) it X wx → Below w.heap.size w wx → Calls Tryz.prog 7 #[.agg X] wx (TxEnd (evtT (d + 1) it) wx)) := fun X wx h hb => h.impl HZ.out ⟨HEr.out.grow hb, HWr.out.below hb, fun w' h' => HTab.out w' (Below.on hb h')⟩
  generalize evtT (d + 1) it = xs at *
  have HEK : Hid (∀ a c a' c' N wx, Bts wx N (.slice a xs.length c) xs → Seg wx a' xs → Calls Tryz.prog 8 #[.slice a xs.length c, .slice a' xs.length c'] wx fun e w' => e = .returned (.bool true) ∧ Below wx.heap.size wx w') := fun a c a' c' N wx h h' => eqByteS_same a a' c c' xs wx h.seg h' (by omega)
  have HMK : Hid (∀ a c N wx, Bts wx N (.slice a xs.length c) xs → Calls Tryz.prog 11 #[.slice a xs.length c, .int .i64 1] wx fun e w' => e = .returned (.int .i64 ((1 + xs.length : Nat) : Int)) ∧ Bts w' N (.slice a xs.length c) (marks 1 xs.length) ∧ wx.grownBy w' (Value.slice a xs.length c).ownBlock) := fun a c N wx h => markByteS_any N a c xs 1 wx h (by omega) (by omega)
  have HHK : Hid (∀ a c N wx, Bts wx N (.slice a xs.length c) (marks 1 xs.length) → Calls Tryz.prog 12 #[.slice a xs.length c, .int .i64 1] wx fun e w' => e = .returned (.int .i64 ((1 + xs.length : Nat) : Int)) ∧ Below wx.heap.size wx w') := fun a c N wx h => heldByteS_any a c 1 xs.length wx h.seg (by omega) (by omega)
  have r1 := HR.out _ B1.out
  have HT1 := hide' ((HA.out.on (Below.on (b0.out (.cells A 28)) B1.out)).to hz)
  clear hz
  go_wp2_with (refine wpList_load_mid rfl 28 (.tmp 1) (by rfl) w.heap.size 0 (by rfl) A.toList _ r1 Tryz.underlying28 rfl hi28 ?_; rw [Array.toArray_toList])
  refine HT1.out.mono ?_
  rintro e w2 ⟨X2, rfl, Bx, hX2, hBx, b2⟩
  have B2 := hide' (Below.on B1.out b2)
  have HS2 := hide' (HSp.out _ _ hX2.ix)
  clear hX2 hBx b2 HT1 r1
  go_wp2_with fail
  refine HS2.out.mono ?_
  rintro e w3 ⟨Wa, Wc, rfl, hW3, _, hBw0, b3⟩
  have HBw : Hid (∀ x, Wa = some x → x.block < w3.heap.size) := fun x hx => (hBw0 x hx).2
  have B3 := hide' (Below.on B2.out b3)
  have r3 := HR.out _ B3.out
  have HT3 := hide' ((HA.out.on (Below.on (b0.out (.cells A 28)) B3.out)).to HZ.out)
  have HW3 := hide' hW3
  clear b3 HS2 B2 hW3 hBw0
  go_upto_region 6 with fail
  have hi35 : ∀ X : Array Value, X.size = 9 → (Tryz.prog.info? 35).map (·.size) = some X.toList.length := fun X h => by rw [Array.length_toList, h]; kernel_rfl
  have hi35' : ∀ X : Array Value, X.size = 9 → (Tryz.prog.info? 35).map (·.size) = some X.size := fun X h => by rw [h]; kernel_rfl
  have HI35 := hide' hi35
  have HI35' := hide' hi35'
  clear hi35 hi35'
  go_wp2_with (refine wpList_load_mid rfl 28 (.tmp 1) (by rfl) w.heap.size 0 (by rfl) A.toList _ r3 Tryz.underlying28 rfl hi28 ?_; rw [Array.toArray_toList])
  refine HT3.out.mono ?_
  rintro e w4 ⟨X, rfl, B4, hX4, hB4, b4⟩
  have hXs := hX4.ix.size
  have hth : (w4.alloc (.cells #[.int .i64 0, .slice none 0 0, .int .i64 0, .int .i64 0, .int .i64 0, .slice none 0 0, .slice none 0 0, .slice none 0 0, .slice none 0 0] 35)).there w4.heap.size 0 X.size := by rw [hXs]; exact there_of_row (MapKept.heap_alloc w4 _).1
  have hrs := World.rangeAt_setCells_same (w4.alloc (.cells #[.int .i64 0, .slice none 0 0, .int .i64 0, .int .i64 0, .int .i64 0, .slice none 0 0, .slice none 0 0, .slice none 0 0, .slice none 0 0] 35)) w4.heap.size 0 X.toList (by rw [Array.length_toList]; exact hth)
  have hg := grown_setCells w4.heap.size X.toList 0 (w4.alloc (.cells #[.int .i64 0, .slice none 0 0, .int .i64 0, .int .i64 0, .int .i64 0, .slice none 0 0, .slice none 0 0, .slice none 0 0, .slice none 0 0] 35))
  have b5 : Below w4.heap.size w4 ((w4.alloc (.cells #[.int .i64 0, .slice none 0 0, .int .i64 0, .int .i64 0, .int .i64 0, .slice none 0 0, .slice none 0 0, .slice none 0 0, .slice none 0 0] 35)).setCells w4.heap.size 0 X.toList) := ((Below.refl _ _).alloc (Nat.le_refl _) _).grown hg (by simp) (by intro k hk; simp at hk; omega)
  have hlt5 : w4.heap.size < ((w4.alloc (.cells #[.int .i64 0, .slice none 0 0, .int .i64 0, .int .i64 0, .int .i64 0, .slice none 0 0, .slice none 0 0, .slice none 0 0, .slice none 0 0] 35)).setCells w4.heap.size 0 X.toList).heap.size := Nat.lt_of_lt_of_le (show w4.heap.size < _ by rw [World.size_alloc]; omega) hg.size
  have hone := all_oneCell_toArray hX4.ix.one
  rw [Array.toArray_toList] at hone
  have hst := HI35'.out X hXs
  have hlt := HI35.out X hXs
  have B5 := hide' (Below.on (Below.on B3.out b4) b5)
  have HX5 := hide' (hX4.on b5)
  have HI5 := hide' (HIm.out _ _ (hX4.on b5).ix (Below.on (b0.out _) B5.out))
  have HW5 := hide' ((HW3.out.grow b4).grow b5)
  have HB4 := hide' hB4
  have hz4 : w3.heap.size ≤ w4.heap.size := b4.size
  have HZ3 : Hid ((w.alloc (.cells A 28)).heap.size ≤ w3.heap.size) := B3.out.size
  clear b4 b5 hX4 HT3 r3 hg B3 hB4 HW3
  go_wp2_with (first | (refine wpList_store_mid rfl 35 (.tmp 5) (.tmp 20) (by rfl) w4.heap.size 0 X (by rfl) (by rfl) hth hst hone ?_) | (refine wpList_load_mid rfl 35 (.tmp 5) (by rfl) w4.heap.size 0 (by rfl) X.toList _ hrs Tryz.underlying35 rfl hlt ?_; rw [Array.toArray_toList]))
  refine HI5.out.mono ?_
  rintro e w6 ⟨Ga, Gc, rfl, hG6, b6⟩
  have B6 := hide' (Below.on B5.out b6)
  have hr6 := range_below hrs hlt5 b6
  have hz6 : w4.heap.size < w6.heap.size := Nat.lt_of_lt_of_le hlt5 b6.size
  have HX6 := hide' (HX5.out.on b6)
  have hW6 := HW5.out.grow b6
  have hE6 := hide' (HEK.out _ _ _ Wc _ _ hG6 hW6)
  have HBg : Hid (∀ k, (Value.slice Ga xs.length Gc).ownBlock = some k → w4.heap.size + 1 ≤ k) := fun k hk => Nat.le_trans hlt5 (hG6.2.lt k hk).1
  have HG6 := hide' hG6
  have HW6 := hide' hW6
  clear HI5 hrs hlt5 b6 HX5 B5 hth hone hst hG6 hW6 HW5
  go_wp2_with fail
  refine hE6.out.mono ?_
  rintro e w7 ⟨rfl, b7⟩
  have B7 := hide' (Below.on B6.out b7)
  have hr7 := range_below hr6 hz6 b7
  have r7 := HR.out _ B7.out
  have hz7 : w4.heap.size < w7.heap.size := Nat.lt_of_lt_of_le hz6 b7.size
  have HX7 := hide' (HX6.out.on b7)
  have HG7 := hide' (HG6.out.grow b7)
  have HW7 := hide' (HW6.out.grow b7)
  have hz67 : w6.heap.size ≤ w7.heap.size := b7.size
  clear hE6 b7 hr6 HX6 HG6 HW6 B6
  have HT6 : Hid (Calls Tryz.prog 6 #[.agg A] w7.drew fun e wa => ∃ Y, e = .returned (.agg Y) ∧ (wa.rangeAt w.heap.size 0 A.toList ∧ wa.rangeAt w4.heap.size 0 X.toList) ∧ Hid (Calls Tryz.prog 9 #[.agg X, .agg Y] wa fun e w8 => e = .returned (.bool true) ∧ (w8.rangeAt w.heap.size 0 A.toList ∧ w8.rangeAt w4.heap.size 0 X.toList) ∧ Hid (Below w7.heap.size w7 w8))) := by
    refine ((HA.out.on (Below.on (b0.out (.cells A 28)) B7.out).drew).to HZ.out).mono ?_
    rintro e wa ⟨Y, rfl, By, hY, hBy, ba⟩
    have b7a : Below w7.heap.size w7 wa := Below.on (Below.refl _ w7).drew ba
    refine ⟨Y, rfl, ⟨HR.out _ (Below.on B7.out b7a), range_below hr7 hz7 b7a⟩, ?_⟩
    refine ((HX7.out.on b7a).ix.eq hY.ix HZ.out).mono ?_
    rintro e w8 ⟨rfl, b8⟩
    have b78 := Below.on b7a b8
    exact ⟨rfl, ⟨HR.out _ (Below.on B7.out b78), range_below hr7 hz7 b78⟩, b78⟩
  go_upto_region 10 with fail
  refine wp_region_held_drew (S := fun wx => wx.rangeAt w.heap.size 0 A.toList ∧ wx.rangeAt w4.heap.size 0 X.toList) (by kernel_rfl) ⟨r7, hr7⟩ (fun hHeld => ?_)
  refine wpAnyH_take (i := 0) (oi := { dst := some 27, op := .load 35 (.tmp 5), type := 35, pos := "exact.go:6533", after := #[], guard := none }) rfl (by kernel_rfl) (by kernel_rfl) (by kernel_rfl) (fun _ _ _ h => h) (yieldsIf_load_mid (by rfl) 35 (.tmp 5) rfl w4.heap.size 0 (by rfl) X.toList _ (fun _ h => h.2) Tryz.underlying35 rfl hlt) hHeld ?_
  rw [show X.toList.toArray = X from Array.toArray_toList]
  simp only [Act.put, List.setIfInBounds_toArray, List.set_cons_zero, List.set_cons_succ]
  refine wpAnyH_take (i := 1) (oi := { dst := some 28, op := .load 28 (.tmp 1), type := 28, pos := "exact.go:6533", after := #[], guard := none }) rfl (by kernel_rfl) (by kernel_rfl) (by kernel_rfl) (fun _ _ _ h => h) (yieldsIf_load_mid (by rfl) 28 (.tmp 1) rfl w.heap.size 0 (by rfl) A.toList _ (fun _ h => h.1) Tryz.underlying28 rfl hi28) hHeld ?_
  rw [show A.toList.toArray = A from Array.toArray_toList]
  simp only [Act.put, List.setIfInBounds_toArray, List.set_cons_zero, List.set_cons_succ]
  refine wpAnyH_ready (rs := [2]) (by kernel_rfl) (by simp) ?_
  refine AllReadyH.cons (o := { dst := some 29, op := .call { callee := .value (.func 6), args := #[.tmp 28], argTypes := #[28] }, type := 35, pos := "exact.go:6533", after := #[{ on := 1, ground := .data }], guard := none }) rfl (fun K hK => ?_) AllReadyH.nil
  go_simp
  go_at_call 6
  refine HT6.out.mono ?_
  rintro e wa ⟨Y, rfl, hSa, hEa⟩
  go_wp2_with fail
  refine hK.out _ _ hSa (fun hHeld7 => ?_)
  clear hK
  (try simp only [Act.put, List.setIfInBounds_toArray, List.set_cons_zero, List.set_cons_succ])
  refine wpAnyH_ready (rs := [3]) (by kernel_rfl) (by simp) ?_
  refine AllReadyH.cons (o := { dst := some 30, op := .call { callee := .value (.func 9), args := #[.tmp 27, .tmp 29], argTypes := #[35, 35] }, type := 4, pos := "exact.go:6533", after := #[{ on := 0, ground := .data }, { on := 2, ground := .data }, { on := 2, ground := .chain }], guard := none }) rfl (fun K hK => ?_) AllReadyH.nil
  go_simp
  go_at_call 9
  refine hEa.out.mono ?_
  rintro e w8 ⟨rfl, hS8, hb8⟩
  go_wp2_with fail
  refine hK.out _ _ hS8 (fun hHeld8 => ?_)
  clear hK
  (try simp only [Act.put, List.setIfInBounds_toArray, List.set_cons_zero, List.set_cons_succ])
  refine wpAnyH_ready (rs := [4]) (by kernel_rfl) (by simp) ?_
  refine AllReadyH.cons (o := { dst := some 31, op := .unOp .not 4 (.tmp 30), type := 4, pos := "exact.go:6533", after := #[{ on := 3, ground := .data }], guard := none }) rfl (fun K hK => ?_) AllReadyH.nil
  go_simp
  refine hK.out _ _ hS8 (fun hHeld9 => ?_)
  clear hK
  (try simp only [Act.put, List.setIfInBounds_toArray, List.set_cons_zero, List.set_cons_succ])
  refine wpAnyH_done (by kernel_rfl) ?_ _
  have hr8 := hS8.2
  have hM8 := hide' (mark_event (HX7.out.on hb8.out) HZ.out)
  have HG8 := hide' (HG7.out.grow hb8.out)
  have HW8 := hide' (HW7.out.grow hb8.out)
  have B8 := hide' (Below.on B7.out hb8.out)
  have hz78 : w7.heap.size ≤ w8.heap.size := hb8.out.size
  clear HT6 hEa HX7 HG7 HW7 B7 hr7 r7 hS8 hSa hHeld hHeld7 hHeld8 hHeld9 hb8
  go_wp2_with (refine wpList_load_mid rfl 35 (.tmp 5) (by rfl) w4.heap.size 0 (by rfl) X.toList _ hr8 Tryz.underlying35 rfl hlt ?_; rw [Array.toArray_toList])
  refine hM8.out.mono ?_
  rintro e w9 ⟨⟨mk, rfl, hmk⟩, hT9⟩
  have hG9 := HG8.out.far hT9 (fun b hb hb' => by have h1 := HBg.out b hb; have h2 := HB4.out b hb'; omega)
  have hW9 := HW8.out.stay (fun x hx => hT9.block x.block (by have h1 := HBw.out x hx; omega) (fun hb' => by have h1 := HBw.out x hx; have h2 := HB4.out x.block hb'; omega))
  have B9 := hide' (Turned.below B8.out hT9 (Nat.le_refl _) (fun b hb => by have h2 := HB4.out b hb; have h3 := HZ3.out; omega))
  have hE9 := hide' (HEK.out _ _ _ Wc _ _ hG9 hW9)
  have hz9 : w8.heap.size ≤ w9.heap.size := hT9.size
  have HG9 := hide' hG9
  have HW9 := hide' hW9
  clear hT9 hG9 hW9 HG8 HW8 B8 hM8 hr8
  go_wp2_with fail
  refine hE9.out.mono ?_
  rintro e w10 ⟨rfl, b10⟩
  have hM10 := hide' (HMK.out _ _ _ _ (HG9.out.grow b10))
  have HW10 := hide' (HW9.out.grow b10)
  have B10 := hide' (Below.on B9.out b10)
  have hz10 : w9.heap.size ≤ w10.heap.size := b10.size
  clear b10 hE9 HG9 HW9 B9
  go_wp2_with fail
  refine hM10.out.mono ?_
  rintro e w11 ⟨rfl, hG11, hg11⟩
  have HW11 := hide' (HW10.out.stay (w' := w11) (fun x hx => hg11.block x.block (by have h1 := HBw.out x hx; omega) (fun e => by have h1 := HBw.out x hx; have h2 := HBg.out x.block e.symm; omega)))
  have B11 := hide' (B10.out.grown hg11 B10.out.size (fun k hk => by have h2 := HBg.out k hk; have h3 := HZ3.out; omega))
  have hH11 := hide' (HHK.out _ _ _ _ hG11)
  have HG11 := hide' hG11
  clear hG11 hg11 hM10 HW10 B10
  go_wp2_with fail
  refine hH11.out.mono ?_
  rintro e w12 ⟨rfl, b12⟩
  have B12 := hide' (Below.on B11.out b12)
  have r12 := HR.out _ B12.out
  have HT12 := hide' ((HA.out.on (Below.on (b0.out (.cells A 28)) B12.out)).to HZ.out)
  have HG12 := hide' (HG11.out.grow b12)
  have HW12 := hide' (HW11.out.grow b12)
  clear b12 hH11 HG11 HW11 B11
  go_wp2_with (refine wpList_load_mid rfl 28 (.tmp 1) (by rfl) w.heap.size 0 (by rfl) A.toList _ r12 Tryz.underlying28 rfl hi28 ?_; rw [Array.toArray_toList])
  refine HT12.out.mono ?_
  rintro e w13 ⟨X13, rfl, B13x, hX13, hB13, b13⟩
  have B13 := hide' (Below.on B12.out b13)
  have hI13 := hide' (HIm.out _ _ hX13.ix (Below.on (b0.out _) B13.out))
  have HG13 := hide' (HG12.out.grow b13)
  have HW13 := hide' (HW12.out.grow b13)
  clear hX13 hB13 b13 HT12 HG12 HW12 B12 r12
  go_wp2_with fail
  refine hI13.out.mono ?_
  rintro e w14 ⟨Ha, Hc, rfl, hH14, b14⟩
  have hE14 := hide' (HEK.out _ _ _ Wc _ _ hH14 (HW13.out.grow b14))
  have HG14 := hide' (HG13.out.grow b14)
  have B14 := hide' (Below.on B13.out b14)
  clear hH14 b14 hI13 HG13 HW13 B13
  go_wp2_with fail
  refine hE14.out.mono ?_
  rintro e w15 ⟨rfl, b15⟩
  have hH15 := hide' (HHK.out _ _ _ _ (HG14.out.grow b15))
  have B15 := hide' (Below.on B14.out b15)
  clear b15 hE14 HG14 B14
  go_wp2_with fail
  refine hH15.out.mono ?_
  rintro e w16 ⟨rfl, b16⟩
  have B16 := hide' (Below.on (b0.out _) (Below.on B15.out b16))
  clear b16 hH15 B15
  go_wp2
  go_ret
  exact ⟨rfl, B16.out⟩

theorem walk_FnExactEventText (A : Array Value) (w : World) (hE : Errs w) (hW : WrdT w) (hT : Tab w.heap.size w) (hA : RX d it A w) :
    Calls Tryz.prog 3 #[.agg A] w fun e w' => e = .returned (.bool true) ∧ Below w.heap.size w w' := by
  cases d with
  | zero =>
    obtain ⟨_, _, _, _, _, _, _, _, _, h, _⟩ := hA
    exact h.elim
  | succ d => exact walk_FnExactEventText_succ A w hE hW hT hA
end Go.Proofs.YtfojpencmkmdfaaGreatDoor
/-
  What the row lists of the words of events and of acts: their cells.
-/
namespace Go.Proofs.YtfojpencmkmdfaaGreatDoor
open Go.RowKit
set_option linter.unusedVariables false
set_option linter.unusedSimpArgs false
set_option maxRecDepth 100000

/-- A table of texts as the row lists it. -/
def wordsF {H : Type} (ss : List (List UInt8)) : DataW H := .agg (ss.map fun s => .lit (.string s))

theorem words_of_laid {name : String} {g t n : Nat} {ss : List (List UInt8)} {rest : List (String × DataW Unit)} {w : World} (hg : Tryz.prog.globalNamed name = some g) (hty : (Tryz.prog.globals[g]?).map (·.type) = some t) (ht : Tryz.prog.underlying t = some (.array n 9)) (hce : Tryz.prog.cellsOf 9 = 1) (hct : Tryz.prog.cellsOf t = n)
    (h : laidMet Tryz.prog ((name, wordsF ss) :: rest) w) : ∀ k s, ss[k]? = some s → w.cell? ⟨g, k, none⟩ = some (.string ⟨s.toArray⟩) := by
  obtain ⟨ps, ⟨g', t', cs, fuel, p, q, hg', ht', hvar, hd, _, _⟩, _⟩ := h
  obtain rfl := Option.some.inj (hg.symm.trans hg')
  obtain rfl := Option.some.inj (hty.symm.trans ht')
  intro k s hk
  rw [World.var?_cell hg hvar]
  cases fuel with
  | zero => simp [DataW.trod] at hd
  | succ fuel =>
    simp only [DataW.trod, ht, hce, hct, Nat.mul_one] at hd
    split at hd
    · rename_i hl
      obtain ⟨xs, hm, hx⟩ := Option.map_eq_some_iff.1 hd
      have hxs : xs.map (·.1) = ss.map fun s => (DataW.lit (.string s) : DataW Unit) := by
        have := congrArg Prod.fst hx
        simpa [wordsF] using this
      have hxl : xs.length = n := by simpa using Lib.mapM_length hm
      have hzl : ss.length = n := by
        have := congrArg List.length hxs
        simp at this
        omega
      have hi : k < n := by
        have := (List.getElem?_eq_some_iff.1 hk).1
        omega
      obtain ⟨b, hb, hf⟩ := Lib.mapM_at hm k k (by simp [hi])
      obtain ⟨z, hc, rfl, _⟩ := DataW.trod_string Tryz.underlying9 hf
      have h1 : cs[k]? = some (.string z) := by
        have := congrArg (·[0]?) hc
        simpa [List.getElem?_take, List.getElem?_drop] using this
      have h2 : (xs.map (·.1))[k]? = some (DataW.lit (.string z.data.toList) : DataW Unit) := by simp [hb]
      rw [hxs] at h2
      simp only [List.getElem?_map, hk, Option.map_some, Option.some.injEq, DataW.lit.injEq, Lit.string.injEq] at h2
      rw [h1, h2]
    · cases hd

theorem wrd_of_laid {r : List (String × DataW Unit)} {w : World} (h : laidMet Tryz.prog (("loop.example/g00407/impl.eventWords", Rows.laid_loop_example_g00407_impl_eventWords) :: ("loop.example/g00407/impl.actWords", Rows.laid_loop_example_g00407_impl_actWords) :: r) w) : WrdT w := by
  have h1 := words_of_laid (g := 0) (t := 76) (n := 7) (ss := [[98, 101, 103, 105, 110], [105, 110, 116, 101, 110, 116], [100, 111, 110, 101], [103, 111, 110, 101], [102, 97, 105, 108], [101, 110, 100], [114, 101, 115, 101, 116]]) (by kernel_rfl) (by kernel_rfl) (by kernel_rfl) (by kernel_rfl) (by kernel_rfl) h
  have h2 := words_of_laid (g := 1) (t := 78) (n := 5) (ss := [[], [99, 114, 101, 97, 116, 101], [117, 112, 100, 97, 116, 101], [114, 101, 112, 108, 97, 99, 101], [100, 101, 108, 101, 116, 101]]) (by kernel_rfl) (by kernel_rfl) (by kernel_rfl) (by kernel_rfl) (by kernel_rfl) h.tail
  refine ⟨fun k hk => ?_, fun k hk1 hk4 => ?_⟩
  · obtain rfl | rfl | rfl | rfl | rfl | rfl | rfl : k = 0 ∨ k = 1 ∨ k = 2 ∨ k = 3 ∨ k = 4 ∨ k = 5 ∨ k = 6 := by omega
    all_goals exact h1 _ _ rfl
  · obtain rfl | rfl | rfl | rfl : k = 1 ∨ k = 2 ∨ k = 3 ∨ k = 4 := by omega
    all_goals exact h2 _ _ rfl
end Go.Proofs.YtfojpencmkmdfaaGreatDoor
/-
  A text that came in, as its reading has it, can be read: 'TSeg'.
-/
namespace Go.Proofs.YtfojpencmkmdfaaGreatDoor
open Go.ChangeShapes Go.WideShapes Go.ChangeAt Go.RowKit
set_option linter.unusedVariables false
set_option linter.unusedSimpArgs false
set_option maxRecDepth 100000

theorem cellsT : Tryz.prog.cellsOf 22 = 1 := by kernel_rfl
theorem cellsI : Tryz.prog.cellsOf 3 = 1 := by kernel_rfl

theorem list_of {α : Type} {Q : Nat → α → Prop} : ∀ n, (∀ i, i < n → ∃ x, Q i x) → ∃ l : List α, l.length = n ∧ ∀ i (h : i < l.length), Q i l[i]
  | 0, _ => ⟨[], rfl, fun i h => by simp at h⟩
  | n + 1, hq => by
    obtain ⟨l, hl, hi⟩ := list_of n (fun i hi => hq i (by omega))
    obtain ⟨x, hx⟩ := hq n (by omega)
    refine ⟨l ++ [x], by simp [hl], fun i h => ?_⟩
    by_cases e : i < l.length
    · rw [List.getElem_append_left e]; exact hi i e
    · have : i = n := by simp at h; omega
      subst this
      rw [List.getElem_append_right (by omega)]
      simpa using hx

variable {H : Type} {enc : TypeId × Value → H} {w : World}

theorem read_text {fuel : Nat} {cs : List Value} {x : DataW H × List MemPlace} (h : DataW.trod enc Tryz.prog w 0 (fun _ => true) true fuel 22 cs = some x) : ∃ u xs, cs = [u] ∧ TSeg (fun b => b < w.heap.size) w u xs := by
  rcases open_ints Tryz.underlying22 Tryz.underlying5 (by kernel_rfl) h with ⟨rfl, _⟩ | ⟨a, len, cap, zs, rfl, _, hl, hm, hz, _, hcell, hwz⟩
  · exact ⟨_, [], rfl, none, 0, rfl, ⟨by simp, .inl rfl⟩, Nat.le_refl _, Nat.zero_le _, fun _ => rfl, by simp⟩
  · obtain ⟨xs, e, hs, h1, h2, h3⟩ := seg_of_row (w := w) (a := some a) (len := len) (cap := cap) (zs := zs) (.inr ⟨a, rfl, hl, hm, by simpa using hz, hcell, hwz⟩)
    subst e
    exact ⟨_, xs, rfl, some a, cap, rfl, hs, h1, h2, h3, hs.lt⟩

end Go.Proofs.YtfojpencmkmdfaaGreatDoor
