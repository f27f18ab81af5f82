/-
  Texts that a law leans on, one behind the other; no statement is proved here.
-/
import Derived.Test.YteafpgaefphkfaaGreatDoorPk52
import Derived.Test.YteafpgaefphkfaaGreatDoorPk51
import Derived.Test.YteafpgaefphkfaaGreatDoorPk0
import Derived.Deep.CutRange
/-
  The walk of FnPaths. No statement is proved here.
-/
namespace Go.Proofs.YteafpgaefphkfaaGreatDoor
open Go.RowKit
set_option linter.unusedVariables false
set_option linter.unusedSimpArgs false

/-- A value that stands: its box, and that it is read, in every later world. -/
structure SdV (D : Nat) (W : World) (g : Nat) (c0 c1 c2 c3 c4 : Value) (v : Vl D) : Prop where
  row : ∀ wx, Below W.heap.size W wx → wx.heap[g]? = some (.cells #[c0, c1, c2, c3, c4] 29 (0, 0))
  seg : ∀ wx, Below W.heap.size W wx → VSeg (fun b => b < W.heap.size) wx D (c0, c1, c2, c3, c4) v
theorem SdV.of {D : Nat} {W : World} {c0 c1 c2 c3 c4 : Value} {v : Vl D} (hv : VSeg (fun b => b < W.heap.size) W D (c0, c1, c2, c3, c4) v) : SdV D (W.alloc (.cells #[c0, c1, c2, c3, c4] 29)) W.heap.size c0 c1 c2 c3 c4 v := by
  have hb : Below W.heap.size W (W.alloc (.cells #[c0, c1, c2, c3, c4] 29)) := (Below.refl _ _).alloc (Nat.le_refl _) _
  refine ⟨fun wx h => (h.block _ (by simp)).trans (heap_alloc_new _ _), fun wx h => ?_⟩
  exact VSeg.mono (fun b hb' => Nat.lt_of_lt_of_le hb' hb.size) D (VSeg.agree (agree_below (hb.trans (h.mono hb.size))) D hv)
theorem SdV.on {D : Nat} {W W' : World} {g : Nat} {c0 c1 c2 c3 c4 : Value} {v : Vl D} (h : SdV D W g c0 c1 c2 c3 c4 v) (hb : Below W.heap.size W W') : SdV D W' g c0 c1 c2 c3 c4 v :=
  ⟨fun wx k => h.row wx (hb.trans (k.mono hb.size)), fun wx k => VSeg.mono (fun b hb' => Nat.lt_of_lt_of_le hb' hb.size) D (h.seg wx (hb.trans (k.mono hb.size)))⟩

/-- A path that stands. -/
def SdP (W : World) (x : Value) (l : List Stp) : Prop := ∀ wx, Below W.heap.size W wx → PthSeg (fun b => b < W.heap.size) wx x l
theorem SdP.of {W : World} {x : Value} {l : List Stp} (h : PthSeg (fun b => b < W.heap.size) W x l) : SdP W x l := fun wx hb => h.agree (agree_below hb)
theorem SdP.on {W W' : World} {x : Value} {l : List Stp} (h : SdP W x l) (hb : Below W.heap.size W W') : SdP W' x l := fun wx k => (h wx (hb.trans (k.mono hb.size))).mono fun b h => Nat.lt_of_lt_of_le h hb.size
theorem SdP.nil (W : World) : SdP W (.slice none 0 0) [] := fun wx _ => ⟨none, 0, rfl, Nat.le_refl _, by simp [maxLen], fun _ => rfl, .inl rfl⟩

/-- What At answers. -/
def AtAns (m : Nod) (W : World) (e : Ending) (w' : World) : Prop :=
  ∃ (gk gn : Int) (s2 : Option Addr) (n2 r2 : Nat) (s3 : Option Addr) (n3 r3 : Nat) (s4 : Option Addr) (n4 r4 : Nat), e = .returned (.tuple #[.agg #[.int .i64 gk, .int .i64 gn, .slice s2 n2 r2, .slice s3 n3 r3, .slice s4 n4 r4], .bool true]) ∧
    VSeg (fun b => W.heap.size ≤ b ∧ b < w'.heap.size) w' m.1 (.int .i64 gk, .int .i64 gn, .slice s2 n2 r2, .slice s3 n3 r3, .slice s4 n4 r4) m.2 ∧ Below W.heap.size W w'
def AtNone (W : World) (e : Ending) (w' : World) : Prop :=
  ∃ (gk gn : Int) (s2 : Option Addr) (n2 r2 : Nat) (s3 : Option Addr) (n3 r3 : Nat) (s4 : Option Addr) (n4 r4 : Nat), e = .returned (.tuple #[.agg #[.int .i64 gk, .int .i64 gn, .slice s2 n2 r2, .slice s3 n3 r3, .slice s4 n4 r4], .bool false]) ∧ Below W.heap.size W w'
theorem ans_form {D : Nat} {a : Vl (D + 1)} {bb : Bool} {w w' : World} {e : Ending} (h : Ans D a bb w e w') : ∃ (gk gn : Int) (s2 : Option Addr) (n2 r2 : Nat) (s3 : Option Addr) (n3 r3 : Nat) (s4 : Option Addr) (n4 r4 : Nat), e = .returned (.tuple #[.agg #[.int .i64 gk, .int .i64 gn, .slice s2 n2 r2, .slice s3 n3 r3, .slice s4 n4 r4], .bool bb]) ∧
    VSeg (fun b => w.heap.size ≤ b ∧ b < w'.heap.size) w' (D + 1) (.int .i64 gk, .int .i64 gn, .slice s2 n2 r2, .slice s3 n3 r3, .slice s4 n4 r4) a ∧ Below w.heap.size w w' := by
  obtain ⟨u0, u1, u2, u3, u4, rfl, B, hO, hBb, hB⟩ := h
  obtain ⟨k, n, a2, l2, p2, a3, l3, p3, a4, l4, p4, rfl, rfl, rfl, rfl, rfl⟩ := VOwn.form _ hO
  exact ⟨k, n, a2, l2, p2, a3, l3, p3, a4, l4, p4, rfl, VSeg.mono (fun b hb => hBb b hb) _ (VOwn.seg _ hO), hB⟩
theorem AnsN.some {m : Nod} {w w' : World} {e : Ending} (h : AnsN (some m) w e w') : AtAns m w e w' := by
  obtain ⟨d, v⟩ := m
  cases d with
  | zero => exact h.elim
  | succ D => exact ans_form h
theorem AnsN.none {w w' : World} {e : Ending} (h : AnsN none w e w') : AtNone w e w' := by
  obtain ⟨gk, gn, s2, n2, r2, s3, n3, r3, s4, n4, r4, rfl, _, hb⟩ := ans_form h
  exact ⟨gk, gn, s2, n2, r2, s3, n3, r3, s4, n4, r4, rfl, hb⟩

section
variable {D : Nat} {W : World} {g : Nat} {c0 c1 c2 c3 c4 : Value} {v : Vl D} {a : Option Addr} {cap : Nat} {l : List Stp}
theorem SdV.at (h : SdV D W g c0 c1 c2 c3 c4 v) {x : Value} {m : Nod} (hx : SdP W x l) (hm : atN D v l = some m) : ∀ wx, Below W.heap.size W wx → Calls Tryz.prog 10 #[.agg #[c0, c1, c2, c3, c4], x] wx (AtAns m wx) := fun wx hb =>
  (impl_At_any D W.heap.size c0 c1 c2 c3 c4 v x l wx (h.seg wx hb) (hx wx hb) hb.size).mono fun e w' k => by rw [hm] at k; exact k.some
theorem SdV.at_none (h : SdV D W g c0 c1 c2 c3 c4 v) {x : Value} (hx : SdP W x l) (hm : atN D v l = none) : ∀ wx, Below W.heap.size W wx → Calls Tryz.prog 10 #[.agg #[c0, c1, c2, c3, c4], x] wx (AtNone wx) := fun wx hb =>
  (impl_At_any D W.heap.size c0 c1 c2 c3 c4 v x l wx (h.seg wx hb) (hx wx hb) hb.size).mono fun e w' k => by rw [hm] at k; exact k.none
end

/-- What At answers, said against an earlier world too. -/
def GvEnd (m : Nod) (W wx : World) (e : Ending) (w' : World) : Prop :=
  Below W.heap.size W w' ∧ Below wx.heap.size wx w' ∧ ∃ (gk gn : Int) (s2 : Option Addr) (n2 r2 : Nat) (s3 : Option Addr) (n3 r3 : Nat) (s4 : Option Addr) (n4 r4 : Nat), e = .returned (.tuple #[.agg #[.int .i64 gk, .int .i64 gn, .slice s2 n2 r2, .slice s3 n3 r3, .slice s4 n4 r4], .bool true]) ∧
    ∀ y, some m.2 = some y → VSeg (fun b => wx.heap.size ≤ b ∧ b < w'.heap.size) w' m.1 (.int .i64 gk, .int .i64 gn, .slice s2 n2 r2, .slice s3 n3 r3, .slice s4 n4 r4) y
theorem AtAns.gv {m : Nod} {W wx w' : World} {e : Ending} (h : Below W.heap.size W wx) (k : AtAns m wx e w') : GvEnd m W wx e w' := by
  obtain ⟨gk, gn, s2, n2, r2, s3, n3, r3, s4, n4, r4, rfl, hv, hb⟩ := k
  exact ⟨h.trans (hb.mono h.size), hb, gk, gn, s2, n2, r2, s3, n3, r3, s4, n4, r4, rfl, fun y hy => by obtain rfl : m.2 = y := by simpa using hy
                                                                                                       exact hv⟩

/-- The beginning of a path, and what is behind it. -/
theorem pth_take {R : Nat → Prop} {w : World} {a : Option Addr} {cap : Nat} {l : List Stp} (h : PthSeg R w (.slice a l.length cap) l) (k : Nat) (hk : k ≤ l.length) : PthSeg R w (.slice a k cap) (l.take k) := by
  obtain ⟨a', cap', e, h1, h2, h3, h4⟩ := h
  simp only [Value.slice.injEq, true_and] at e
  obtain ⟨rfl, rfl⟩ := e
  have hl : (l.take k).length = k := by rw [List.length_take]; omega
  refine ⟨a, cap, by rw [hl], by omega, h2, h3, ?_⟩
  rcases h4 with rfl | ⟨b, off, rfl, hb, hc⟩
  · exact .inl (by simp)
  · refine .inr ⟨b, off, rfl, hb, fun i hi => ?_⟩
    obtain ⟨c, hc1, hc2⟩ := hc i (by omega)
    exact ⟨c, hc1, by rw [List.getElem_take]; exact hc2⟩
theorem pth_drop {R : Nat → Prop} {w : World} {b off : Nat} {sp : _} {cap : Nat} {l : List Stp} (h : PthSeg R w (.slice (some ⟨b, off, sp⟩) l.length cap) l) (k : Nat) (hk : k ≤ l.length) : PthSeg R w (.slice (some ⟨b, off + k * 3, sp⟩) (l.length - k) (cap - k)) (l.drop k) := by
  obtain ⟨a', cap', e, h1, h2, h3, h4⟩ := h
  simp only [Value.slice.injEq, true_and] at e
  obtain ⟨rfl, rfl⟩ := e
  have hl : (l.drop k).length = l.length - k := by rw [List.length_drop]
  refine ⟨_, cap - k, by rw [hl], by omega, by omega, by simp, ?_⟩
  rcases h4 with rfl | ⟨b', off', e, hb, hc⟩
  · exact .inl (by simp)
  · simp only [Option.some.injEq, Addr.mk.injEq] at e
    obtain ⟨rfl, rfl, rfl⟩ := e
    refine .inr ⟨b, off + k * 3, rfl, hb, fun i hi => ?_⟩
    obtain ⟨c, hc1, hc2⟩ := hc (k + i) (by omega)
    refine ⟨c, ?_, by rw [List.getElem_drop]; exact hc2⟩
    rw [show off + k * 3 + i * 3 = off + (k + i) * 3 by omega]
    exact hc1

theorem pth_drop2 {R : Nat → Prop} {w : World} {b off : Nat} {sp : _} {cap : Nat} {l : List Stp} (h : PthSeg R w (.slice (some ⟨b, off, sp⟩) l.length cap) l) (k : Nat) (hk : k ≤ l.length) : PthSeg R w (.slice (if cap = k then some ⟨b, off, sp⟩ else some (Addr.add ⟨b, off, sp⟩ (k * 3))) (l.length - k) (cap - k)) (l.drop k) := by
  by_cases hc : cap = k
  · rw [if_pos hc]
    obtain ⟨a', cap', e, h1, h2, h3, h4⟩ := h
    simp only [Value.slice.injEq, true_and] at e
    obtain ⟨rfl, rfl⟩ := e
    have hz : l.drop k = [] := List.drop_eq_nil_of_le (by omega)
    rw [hz]
    have e0 : l.length - k = 0 := by omega
    exact ⟨_, cap - k, by rw [e0]; rfl, Nat.zero_le _, by omega, fun h => by simp at h, .inl rfl⟩
  · rw [if_neg hc]
    have h2 := pth_drop h k hk
    obtain ⟨a', cap', e, g1, g2, g3, g4⟩ := h
    simp only [Value.slice.injEq, true_and] at e
    obtain ⟨rfl, rfl⟩ := e
    rcases g4 with rfl | ⟨b', off', e, _, _⟩
    · simp at hk
      subst hk
      exact ⟨some (Addr.add ⟨b, off, sp⟩ (0 * 3)), cap - 0, rfl, Nat.zero_le _, by omega, (by intro h; cases h), .inl rfl⟩
    · simp only [Option.some.injEq, Addr.mk.injEq] at e
      obtain ⟨rfl, rfl, rfl⟩ := e
      rw [Addr.add_lit]
      exact h2

set_option maxHeartbeats 12800000 in
set_option maxRecDepth 100000 in
theorem walk_FnPaths (a : Option Addr) (cap : Nat) (cs : List Int) (w : World) (ha : Seg w a cs) (hl : cs.length ≤ maxLen) :
    Calls Tryz.prog 3 #[.slice a cs.length cap] w fun e w' => e = .returned (.bool true) ∧ Below w.heap.size w w' := by
  have H1 := hide' (DrawPathCmp_any a cap cs w ha hl)
  have H2 : Hid (∀ wx, Below w.heap.size w wx → Calls Tryz.prog 5 #[.slice a cs.length cap] wx (AtTwo wx)) := hide' (fun wx hb => DrawAt_any a cap cs wx (ha.grow hb) hl)
  have H3 : Hid (∀ wx, Below w.heap.size w wx → Calls Tryz.prog 13 #[.slice a cs.length cap, .int .i64 1] wx fun e w' => ∃ x : Int, e = .returned (.int .i64 x) ∧ 0 ≤ x ∧ x ≤ 255 ∧ wx = w') := hide' (fun wx hb => at_any a cap cs wx (ha.grow hb) hl)
  clear ha hl
  generalize cs.length = cl at *
  go_enter Tryz.func3, Tryz.ntmps3
  go_wp2_with fail
  refine H1.out.mono ?_
  rintro e w1 ⟨pa, pn, pc, qa, qn, qc, rfl, hp1, hq1, _, _, hb1⟩
  have HX1 := hide' (And.intro hp1 (And.intro hq1 hb1))
  clear hp1 hq1 hb1 H1
  go_wp2_with fail
  refine (H2.out w1 HX1.out.2.2).mono ?_
  rintro e w2 ⟨vk, vn, a2, l2, p2, a3, l3, p3, a4, l4, p4, ra, rn, rc, rfl, hv2, hr2, hrn, hb2⟩
  have HB2 := hide' (Below.on HX1.out.2.2 hb2)
  obtain ⟨lp, hlp, hp2⟩ := HX1.out.1.on hb2
  obtain ⟨lq, hlq, hq2⟩ := HX1.out.2.1.on hb2
  obtain ⟨lr, hlr, hr2⟩ := hr2
  obtain ⟨D, v, hv2⟩ := hv2
  subst hlp hlq hlr
  have hbW : Below w2.heap.size w2 (w2.alloc (.cells #[.int .i64 vk, .int .i64 vn, .slice a2 l2 p2, .slice a3 l3 p3, .slice a4 l4 p4] 29)) := (Below.refl _ _).alloc (Nat.le_refl _) _
  have HV := hide' (SdV.of hv2)
  have HP := hide' ((SdP.of hp2).on hbW)
  have HQ := hide' ((SdP.of hq2).on hbW)
  have HR := hide' ((SdP.of hr2).on hbW)
  have HB := hide' (Below.on HB2.out hbW)
  have HRn := hide' hrn
  clear HX1 H2 HB2 hb2 hp2 hq2 hr2 hv2 hbW hrn
  go_upto_region 3 with fail
  generalize w2.alloc (.cells #[.int .i64 vk, .int .i64 vn, .slice a2 l2 p2, .slice a3 l3 p3, .slice a4 l4 p4] 29) = W at *
  generalize w2.heap.size = gV at *
  have HC1 : Hid (∀ wx, Below W.heap.size W wx → Calls Tryz.prog 6 #[.slice pa lp.length pc, .slice qa lq.length qc] wx fun e w' => e = .returned (.int .i64 (pcI lp lq)) ∧ Below wx.heap.size wx w') := hide' (fun wx hb => impl_PathCmp_any W.heap.size _ _ lp lq wx (HP.out wx hb) (HQ.out wx hb) hb.size)
  have HC2 : Hid (∀ wx, Below W.heap.size W wx → Calls Tryz.prog 6 #[.slice qa lq.length qc, .slice pa lp.length pc] wx fun e w' => e = .returned (.int .i64 (pcI lq lp)) ∧ Below wx.heap.size wx w') := hide' (fun wx hb => impl_PathCmp_any W.heap.size _ _ lq lp wx (HQ.out wx hb) (HP.out wx hb) hb.size)
  have HO1 : Hid (∀ wx, Below W.heap.size W wx → Calls Tryz.prog 7 #[.slice pa lp.length pc] wx fun e w' => e = .returned (.bool (pathB lp)) ∧ Below wx.heap.size wx w') := hide' (fun wx hb => spec_PathOk_any W.heap.size _ lp wx (HP.out wx hb) hb.size)
  have HO2 : Hid (∀ wx, Below W.heap.size W wx → Calls Tryz.prog 7 #[.slice qa lq.length qc] wx fun e w' => e = .returned (.bool (pathB lq)) ∧ Below wx.heap.size wx w') := hide' (fun wx hb => spec_PathOk_any W.heap.size _ lq wx (HQ.out wx hb) hb.size)
  have HT1 : Hid (∀ wx, Below W.heap.size W wx → Calls Tryz.prog 9 #[.slice pa lp.length pc] wx (PtEnd lp wx)) := hide' (fun wx hb => impl_PathText_any W.heap.size _ lp wx (HP.out wx hb) hb.size)
  have HT2 : Hid (∀ wx, Below W.heap.size W wx → Calls Tryz.prog 9 #[.slice qa lq.length qc] wx (PtEnd lq wx)) := hide' (fun wx hb => impl_PathText_any W.heap.size _ lq wx (HQ.out wx hb) hb.size)
  have HS1 : Hid (pathB lp = true → pathB lq = true → ((pcI lp lq = 0) ↔ pathT lp = pathT lq)) := hide' (fun h1 h2 => by rw [pcI_yes h1 h2]; exact pth_same h1 h2)
  have HS2 : Hid (pcI lq lp = - pcI lp lq) := hide' (pcI_swap lp lq)
  generalize lp.length = npp at *
  generalize lq.length = nqq at *
  go_wp2_with fail
  refine (HC1.out W (Below.refl _ _)).mono ?_
  rintro e w3 ⟨rfl, hb3⟩
  have HB3 := hide' hb3
  clear hb3 HC1
  have hc3 : -1 ≤ pcI lp lq ∧ pcI lp lq ≤ 1 := pcI_bound lp lq
  rw [HS2.out] at HC2
  generalize pcI lp lq = c at *
  go_upto_region 4 with fail
  go_cut [51] from 28 to 51 (fun s wx => s = .bool false ∧ Hid (Below W.heap.size W wx))
  case first =>
    go_wp2_with fail
    refine (HO1.out w3 HB3.out).mono ?_
    rintro e w4 ⟨rfl, hb4⟩
    have HB4 := hide' (Below.on HB3.out hb4)
    clear hb4
    by_cases h1 : pathB lp = true
    · have HS1' := hide' (HS1.out h1)
      rw [h1]
      clear h1
      go_wp2_with fail
      refine (HO2.out w4 HB4.out).mono ?_
      rintro e w5 ⟨rfl, hb5⟩
      have HB5 := hide' (Below.on HB4.out hb5)
      clear hb5 HB4
      by_cases h2 : pathB lq = true
      · have HSc := hide' (HS1'.out h2)
        rw [h2]
        clear h2 HS1' HS1
        go_wp2_with fail
        refine (HC2.out w5 HB5.out).mono ?_
        rintro e w6 ⟨rfl, hb6⟩
        have HB6 := hide' (Below.on HB5.out hb6)
        clear hb6 HB5
        have hneg : IntKind.i64.wrap (- -c) = c := by rw [IntKind.wrap_i64]; omega
        have hwc : IntKind.i64.wrap c = c := by rw [IntKind.wrap_i64]; omega
        go_wp2_with fail
        refine (HT1.out w6 HB6.out).mono ?_
        rintro e w7 ⟨u7, rfl, hu7, hb7⟩
        have HB7 := hide' (Below.on HB6.out hb7)
        obtain ⟨t7, q7, rfl, hs7, _⟩ := hu7.shape
        have HS7 := hide' hs7
        clear hb7 HB6 hu7 hs7
        go_wp2_with fail
        refine (HT2.out w7 HB7.out).mono ?_
        rintro e w8 ⟨u8, rfl, hu8, hb8⟩
        have HB8 := hide' (Below.on HB7.out hb8)
        obtain ⟨t8, q8, rfl, hs8, _⟩ := hu8.shape
        have HSB := hide' (sameBy_any t7 t8 q7 q8 (pathT lp) (pathT lq) w8 (HS7.out.grow hb8) hs8)
        clear hb8 HB7 hu8 hs8 HS7
        have hde : decide (pathT lp = pathT lq) = (c == 0) := by
          have := HSc.out
          by_cases hc : c = 0
          · rw [decide_eq_true (this.1 hc)]; simp [hc]
          · rw [decide_eq_false (fun h => hc (this.2 h))]; simp [hc]
        rw [hde] at HSB
        clear hde
        generalize (pathT lp).length = n7 at *
        generalize (pathT lq).length = n8 at *
        go_wp2_with fail
        refine HSB.out.mono ?_
        rintro e w9 ⟨rfl, rfl⟩
        by_cases hc0 : c = 0
        · subst hc0
          go_wp2_with fail
          go_meet
          exact ⟨rfl, HB8⟩
        · go_wp2_with fail
          go_meet
          exact ⟨by first | rfl | simp [hc0] | simp, HB8⟩
      · have h2' : pathB lq = false := by simpa using h2
        rw [h2']
        go_wp2_with fail
        go_meet
        exact ⟨rfl, HB5⟩
    · have h1' : pathB lp = false := by simpa using h1
      rw [h1']
      go_wp2_with fail
      go_meet
      exact ⟨rfl, HB4⟩
  case rest =>
    obtain ⟨rfl, hBc⟩ := hcut
    clear HB3 HC2 HO1 HO2 HT1 HT2 HS1 HS2 HP HQ hc3
    obtain ⟨v0, v1, v2', v3', v4', _⟩ := row5 (HV.out.row wc hBc.out)
    rcases hat : atN D v lr with _ | m
    · have HA := hide' (HV.out.at_none HR.out hat wc hBc.out)
      have HN : Hid (okB D v = true → pathB lr = true → lr = [] → False) := hide' (fun h1 h2 h3 => by subst h3; rw [at_nil h1] at hat; simp at hat)
      have HSO : Hid (∀ wx, Below W.heap.size W wx → Calls Tryz.prog 12 #[.agg #[.int .i64 vk, .int .i64 vn, .slice a2 l2 p2, .slice a3 l3 p3, .slice a4 l4 p4]] wx fun e w' => e = .returned (.bool (okB D v)) ∧ Below wx.heap.size wx w') := hide' (fun wx hb => spec_ValOk_any D W.heap.size _ _ _ _ _ v wx (HV.out.seg wx hb) hb.size)
      have HPO : Hid (∀ wx, Below W.heap.size W wx → Calls Tryz.prog 7 #[.slice ra lr.length rc] wx fun e w' => e = .returned (.bool (pathB lr)) ∧ Below wx.heap.size wx w') := hide' (fun wx hb => spec_PathOk_any W.heap.size _ lr wx (HR.out wx hb) hb.size)
      have HL : Hid (lr ≠ [] → 0 < lr.length) := hide' (fun h => List.length_pos_iff.2 h)
      clear hat
      generalize lr.length = nr at *
      go_wp2_with fail
      refine HA.out.mono ?_
      rintro e w4 ⟨xk, xn, x2, xl2, xp2, x3, xl3, xp3, x4, xl4, xp4, rfl, hb4⟩
      have HB4 := hide' (Below.on hBc.out hb4)
      have hbX : Below w4.heap.size w4 (w4.alloc (.cells #[.int .i64 xk, .int .i64 xn, .slice x2 xl2 xp2, .slice x3 xl3 xp3, .slice x4 xl4 xp4] 29)) := (Below.refl _ _).alloc (Nat.le_refl _) _
      have HB5 := hide' (Below.on HB4.out hbX)
      clear HA hBc hb4 HB4 hbX v0 v1 v2' v3' v4'
      go_upto_region 7 with fail
      generalize w4.alloc (.cells #[.int .i64 xk, .int .i64 xn, .slice x2 xl2 xp2, .slice x3 xl3 xp3, .slice x4 xl4 xp4] 29) = W5 at *
      obtain ⟨v0, v1, v2', v3', v4', _⟩ := row5 (HV.out.row W5 HB5.out)
      go_wp2_with fail
      refine (impl_PathOk_any W5.heap.size (.slice none 0 0) [] W5 (SdP.nil W5 W5 (Below.refl _ _)) (Nat.le_refl _)).mono ?_
      rintro e w6 ⟨rfl, hb6⟩
      have hnil : pathB [] = true := rfl
      rw [hnil]
      have HB6 := hide' (Below.on HB5.out hb6)
      clear hb6 HB5 hnil v0 v1 v2' v3' v4'
      obtain ⟨v0, v1, v2', v3', v4', _⟩ := row5 (HV.out.row w6 HB6.out)
      go_wp2_with fail
      refine (HSO.out w6 HB6.out).mono ?_
      rintro e w7 ⟨rfl, hb7⟩
      have HB7 := hide' (Below.on HB6.out hb7)
      clear hb7 HB6 v0 v1 v2' v3' v4'
      by_cases ho : okB D v = true
      · have HN1 := hide' (HN.out ho)
        rw [ho]
        clear ho HN
        go_wp2_with fail
        refine (HPO.out w7 HB7.out).mono ?_
        rintro e w8 ⟨rfl, hb8⟩
        have HB8 := hide' (Below.on HB7.out hb8)
        clear hb8 HB7
        by_cases hp : pathB lr = true
        · have hpos : 0 < nr := HL.out (fun h => HN1.out hp h)
          have hpos' : (0 : Int) < (nr : Int) := by omega
          rw [hp]
          clear HN1 HL hp
          go_wp2_with fail
          go_ret
          exact ⟨rfl, HB.out.trans (HB8.out.mono HB.out.size)⟩
        · have hp' : pathB lr = false := by simpa using hp
          rw [hp']
          go_wp2_with fail
          go_ret
          exact ⟨rfl, HB.out.trans (HB8.out.mono HB.out.size)⟩
      · have ho' : okB D v = false := by simpa using ho
        rw [ho']
        go_wp2_with fail
        go_ret
        exact ⟨rfl, HB.out.trans (HB7.out.mono HB.out.size)⟩
    · have HA := hide' (HV.out.at HR.out hat wc hBc.out)
      have hab : okB D v = true ∧ pathB lr = true := by
        unfold atN at hat
        by_cases h : okB D v = true ∧ pathB lr = true
        · exact h
        · rw [if_neg h] at hat; simp at hat
      have hmok : okB m.1 m.2 = true := by
        unfold atN at hat
        rw [if_pos hab] at hat
        exact along_ok hab.1 hat
      have HSp : Hid (∀ n, ∃ k : Nod, atN D v (lr.take n) = some k ∧ atN k.1 k.2 (lr.drop n) = some m) := hide' (fun n => at_split hat n)
      have HPO : Hid (∀ wx, Below W.heap.size W wx → Calls Tryz.prog 11 #[.slice ra lr.length rc] wx fun e w' => e = .returned (.bool true) ∧ Below wx.heap.size wx w') := hide' (fun wx hb => (impl_PathOk_any W.heap.size _ lr wx (HR.out wx hb) hb.size).mono fun e w' k => by rw [hab.2] at k; exact k)
      have hrr : lr.length ≤ rc ∧ rc ≤ maxLen ∧ (ra = none → rc = 0) := by
        obtain ⟨a', c', e, h1, h2, h3, _⟩ := HR.out W (Below.refl _ _)
        simp only [Value.slice.injEq, true_and] at e
        obtain ⟨rfl, rfl⟩ := e
        exact ⟨h1, h2, h3⟩
      obtain ⟨hrc, hrm, hra⟩ := hrr
      have hrn := HRn.out
      have HM := hide' hmok
      clear hat hab hmok
      have HTk : Hid (∀ k, k ≤ lr.length → SdP W (.slice ra k rc) (lr.take k)) := hide' (fun k hk wx hb => pth_take (HR.out wx hb) k hk)
      have HDk : Hid (∀ (b off : Nat) (sp : _) (k : Nat), ra = some ⟨b, off, sp⟩ → k ≤ lr.length → SdP W (.slice (if rc = k then some ⟨b, off, sp⟩ else some (Addr.add ⟨b, off, sp⟩ (k * 3))) (lr.length - k) (rc - k)) (lr.drop k)) := hide' (fun b off sp k e hk wx hb => by subst e; exact pth_drop2 (HR.out wx hb) k hk)
      have HD0 : Hid (ra = none → lr.length = 0 ∧ SdP W (.slice none 0 0) (lr.drop 0)) := hide' (fun e => by
        have h0 : lr.length = 0 := by have := hra e; omega
        refine ⟨h0, ?_⟩
        rw [List.length_eq_zero_iff.1 h0]
        exact SdP.nil W)
      generalize lr.length = nr at *
      unfold maxLen at hrm
      go_wp2_with fail
      refine HA.out.mono ?_
      rintro e w4 ⟨xk, xn, x2, xl2, xp2, x3, xl3, xp3, x4, xl4, xp4, rfl, hx4, hb4⟩
      have HB4 := hide' (Below.on hBc.out hb4)
      have hbX : Below w4.heap.size w4 (w4.alloc (.cells #[.int .i64 xk, .int .i64 xn, .slice x2 xl2 xp2, .slice x3 xl3 xp3, .slice x4 xl4 xp4] 29)) := (Below.refl _ _).alloc (Nat.le_refl _) _
      have HB5 := hide' (Below.on HB4.out hbX)
      have HX5 := hide' (SdV.of (VSeg.mono (fun b hb => hb.2) _ hx4))
      clear HA hBc hb4 HB4 hbX v0 v1 v2' v3' v4' hx4
      go_upto_region 7 with fail
      generalize w4.alloc (.cells #[.int .i64 xk, .int .i64 xn, .slice x2 xl2 xp2, .slice x3 xl3 xp3, .slice x4 xl4 xp4] 29) = W5 at *
      generalize w4.heap.size = gX at *
      go_wp2_with fail
      refine (H3.out W5 (HB.out.trans (HB5.out.mono HB.out.size))).mono ?_
      rintro e w6 ⟨x, rfl, hx0, hx1, rfl⟩
      have hE : ∃ k : Nat, wrap64 ((wrap64 ((nr : Int) * (x % 3))).tdiv 2) = (k : Int) ∧ k ≤ nr := by
        rcases (by omega : x % 3 = 0 ∨ x % 3 = 1 ∨ x % 3 = 2) with h | h | h
        · have e1 : wrap64 ((nr : Int) * 0) = 0 := by unfold wrap64; omega
          rw [h, e1]
          exact ⟨0, by unfold wrap64; rfl, by omega⟩
        · have e1 : wrap64 ((nr : Int) * 1) = nr := by unfold wrap64; omega
          rw [h, e1, Int.tdiv_eq_ediv_of_nonneg (by omega)]
          exact ⟨nr / 2, by unfold wrap64; omega, by omega⟩
        · have e1 : wrap64 ((nr : Int) * 2) = nr * 2 := by unfold wrap64; omega
          rw [h, e1, Int.tdiv_eq_ediv_of_nonneg (by omega)]
          exact ⟨nr, by unfold wrap64; omega, by omega⟩
      go_upto_region 10 with fail
      generalize wrap64 ((wrap64 ((nr : Int) * (x % 3))).tdiv 2) = q at *
      obtain ⟨k, rfl, hk⟩ := hE
      have hkn : ¬ (nr : Int) < (k : Int) := by omega
      have hkc : k ≤ rc := by omega
      have hkc' : (k : Int) ≤ (rc : Int) := by omega
      have hkn' : (k : Int) ≤ (nr : Int) := by omega
      have hnc' : (nr : Int) ≤ (rc : Int) := by omega
      obtain ⟨m1, hm1, hm2⟩ := HSp.out k
      have HM1 := hide' hm1
      have HM2 := hide' hm2
      clear HSp hm1 hm2 H3 hx0 hx1
      rcases ra with _ | ⟨b, off, sp⟩
      · obtain ⟨h0, hd0⟩ := HD0.out rfl
        have hc0 := hra rfl
        subst h0 hc0
        obtain rfl : k = 0 := by omega
        have HSA := hide' (HTk.out 0 (by omega))
        have HSB := hide' hd0
        clear hd0 hra HTk HDk HD0
        have HA1 : Hid (∀ wx, Below W5.heap.size W5 wx → Calls Tryz.prog 10 #[.agg #[.int .i64 vk, .int .i64 vn, .slice a2 l2 p2, .slice a3 l3 p3, .slice a4 l4 p4], .slice none 0 0] wx (GvEnd m1 W5 wx)) := hide' (fun wx hb => ((HV.out.on HB5.out).at (HSA.out.on HB5.out) HM1.out wx hb).mono fun e w' h => h.gv hb)
        have hB := hide' (Below.refl W5.heap.size W5)
        go_wp2_with fail
        go_cut [11, 12] from 89 to 96 (fun p b wx => b = .bool true ∧ ∃ (g : Nat) (gk gn : Int) (s2 : Option Addr) (n2 r2 : Nat) (s3 : Option Addr) (n3 r3 : Nat) (s4 : Option Addr) (n4 r4 : Nat), p = .pointer (some ⟨g, 0, none⟩) ∧ Hid (Got m1.1 W5 (some m1.2) g (.int .i64 gk, .int .i64 gn, .slice s2 n2 r2, .slice s3 n3 r3, .slice s4 n4 r4) wx))
        case first =>
          refine wp_region_held_drew (S := (fun wx => Below W5.heap.size W5 wx)) (by kernel_rfl) hB.out.drew (fun hHeld => ?_)
          replace hB : Hid (Below W5.heap.size W5 W5.drew) := hB.out.drew
          generalize W5.drew = V0 at *
          refine take_yes (i := 0) 90 (v := ?_) rfl rfl (by kernel_rfl) (by kernel_rfl) (by kernel_rfl) (fun _ _ _ h => h) (by kernel_rfl) hHeld ?_ ?_
          rotate_left
          focus (intro w hSw; obtain ⟨z0, z1, z2, z3, z4, -⟩ := row5 (HV.out.row w (Below.on HB5.out hSw)); (try dsimp only at hSw); go_simp; (try with_reducible rfl))
          (try simp only [Act.put, List.setIfInBounds_toArray, List.set_cons_zero, List.set_cons_succ])
          refine take_yes (i := 1) 91 (v := ?_) rfl rfl (by kernel_rfl) (by kernel_rfl) (by kernel_rfl) (fun _ _ _ h => h) (by kernel_rfl) hHeld ?_ ?_
          rotate_left
          focus (intro w hSw; (try dsimp only at hSw); go_simp; (try with_reducible rfl))
          (try simp only [Act.put, List.setIfInBounds_toArray, List.set_cons_zero, List.set_cons_succ])
          refine take_yes (i := 2) 92 (v := ?_) rfl rfl (by kernel_rfl) (by kernel_rfl) (by kernel_rfl) (fun _ _ _ h => h) (by kernel_rfl) hHeld ?_ ?_
          rotate_left
          focus (intro w hSw; (try dsimp only at hSw); go_simp; (try with_reducible rfl))
          (try simp only [Act.put, List.setIfInBounds_toArray, List.set_cons_zero, List.set_cons_succ])
          refine take_yes (i := 3) 93 (v := ?_) rfl rfl (by kernel_rfl) (by kernel_rfl) (by kernel_rfl) (fun _ _ _ h => h) (by kernel_rfl) hHeld ?_ ?_
          rotate_left
          focus (intro w hSw; (try dsimp only at hSw); go_simp; (try with_reducible rfl))
          (try simp only [Act.put, List.setIfInBounds_toArray, List.set_cons_zero, List.set_cons_succ])
          refine wpAnyH_ready (rs := [4, 8]) (by kernel_rfl) (by simp) ?_
          refine AllReadyH.cons rfl (fun K hK => ?_) (AllReadyH.cons rfl (fun K hK => ?_) AllReadyH.nil)
          · go_simp
            go_at_call 10
            refine (HA1.out V0 hB.out).mono ?_
            rintro e V2 ⟨hB2, hN, gk, gn, s2, n2, r2, s3, n3, r3, s4, n4, r4, rfl, hF⟩
            have hB2 := hide' hB2; have hN := hide' hN; have hF := hide' hF
            go_wp2_with fail
            refine hK.out _ _ hB2.out (fun hHeld => ?_)
            clear hK
            (try simp only [Act.put, List.setIfInBounds_toArray, List.set_cons_zero, List.set_cons_succ])
            refine take_yes (i := 5) 89 (v := ?_) rfl rfl (by kernel_rfl) (by kernel_rfl) (by kernel_rfl) (fun _ _ _ h => h) (by kernel_rfl) hHeld ?_ ?_
            rotate_left
            focus (intro w hSw; (try dsimp only at hSw); go_simp; (try with_reducible rfl))
            (try simp only [Act.put, List.setIfInBounds_toArray, List.set_cons_zero, List.set_cons_succ])
            refine take_yes (i := 6) 95 (v := ?_) rfl rfl (by kernel_rfl) (by kernel_rfl) (by kernel_rfl) (fun _ _ _ h => h) (by kernel_rfl) hHeld ?_ ?_
            rotate_left
            focus (intro w hSw; (try dsimp only at hSw); go_simp; (try with_reducible rfl))
            (try simp only [Act.put, List.setIfInBounds_toArray, List.set_cons_zero, List.set_cons_succ])
            refine take_yes (i := 7) 96 (v := ?_) rfl rfl (by kernel_rfl) (by kernel_rfl) (by kernel_rfl) (fun _ _ _ h => h) (by kernel_rfl) hHeld ?_ ?_
            rotate_left
            focus (intro w hSw; (try dsimp only at hSw); go_simp; (try with_reducible rfl))
            (try simp only [Act.put, List.setIfInBounds_toArray, List.set_cons_zero, List.set_cons_succ])
            refine wpAnyH_ready (rs := [8]) (by kernel_rfl) (by simp) ?_
            refine AllReadyH.cons rfl (fun K hK => ?_) AllReadyH.nil
            go_simp
            have hr := hide' (heap_alloc_new V2 (.cells #[.int .i64 0, .int .i64 0, .slice none 0 0, .slice none 0 0, .slice none 0 0] 29))
            have hg := hide' hB2.out.size
            have hF3 := hide' (gt_new (.cells #[.int .i64 0, .int .i64 0, .slice none 0 0, .slice none 0 0, .slice none 0 0] 29) hF.out)
            replace hB2 := hide' (hB2.out.alloc hB2.out.size (.cells #[.int .i64 0, .int .i64 0, .slice none 0 0, .slice none 0 0, .slice none 0 0] 29))
            refine hK.out _ _ hB2.out (fun hHeld => ?_)
            clear hK
            (try simp only [Act.put, List.setIfInBounds_toArray, List.set_cons_zero, List.set_cons_succ])
            clear hF hN
            generalize V2.alloc (.cells #[.int .i64 0, .int .i64 0, .slice none 0 0, .slice none 0 0, .slice none 0 0] 29) = V3 at *
            generalize V2.heap.size = g at *
            obtain ⟨q0, q1, q2, q3, q4, qf⟩ := row5 hr.out
            have f0 := qf 0; have f1 := qf 1; have f2 := qf 2; have f3 := qf 3; have f4 := qf 4; clear qf
            have hE := hide' (got_store hB2.out hg.out hr.out hF3.out)
            have hS3 : Hid (Below W5.heap.size W5 (set5 V3 g 0 (.int .i64 gk) (.int .i64 gn) (.slice s2 n2 r2) (.slice s3 n3 r3) (.slice s4 n4 r4))) := hide' hE.out.1
            refine wpAnyH_ready (rs := [9]) (by kernel_rfl) (by simp) ?_
            refine AllReadyH.cons rfl (fun K hK => ?_) AllReadyH.nil
            go_simp
            refine hK.out _ _ (by have h := hS3.out; simp only [set5, Nat.zero_add] at h; with_reducible exact h) (fun hHeld => ?_)
            clear hK
            (try simp only [Act.put, List.setIfInBounds_toArray, List.set_cons_zero, List.set_cons_succ])
            refine take_yes (i := 10) 12 (v := ?_) rfl rfl (by kernel_rfl) (by kernel_rfl) (by kernel_rfl) (fun _ _ _ h => h) (by kernel_rfl) hHeld ?_ ?_
            rotate_left
            focus (intro w hSw; (try dsimp only at hSw); go_simp; (try with_reducible rfl))
            (try simp only [Act.put, List.setIfInBounds_toArray, List.set_cons_zero, List.set_cons_succ])
            refine wpAnyH_done (by kernel_rfl) ?_ _
            clear hHeld
            go_wp2_with fail
            go_meet
            exact ⟨rfl, g, gk, gn, s2, n2, r2, s3, n3, r3, s4, n4, r4, rfl, by have h := hE.out; simp only [set5, Nat.zero_add] at h; exact hide' h⟩
          · go_simp
            have hr := hide' (heap_alloc_new V0 (.cells #[.int .i64 0, .int .i64 0, .slice none 0 0, .slice none 0 0, .slice none 0 0] 29))
            have hg := hide' hB.out.size
            replace hB := hide' (hB.out.alloc hB.out.size (.cells #[.int .i64 0, .int .i64 0, .slice none 0 0, .slice none 0 0, .slice none 0 0] 29))
            have hlt : Hid (V0.heap.size < (V0.alloc (.cells #[.int .i64 0, .int .i64 0, .slice none 0 0, .slice none 0 0, .slice none 0 0] 29)).heap.size) := hide' (by simp)
            refine hK.out _ _ hB.out (fun hHeld => ?_)
            clear hK
            (try simp only [Act.put, List.setIfInBounds_toArray, List.set_cons_zero, List.set_cons_succ])
            generalize V0.alloc (.cells #[.int .i64 0, .int .i64 0, .slice none 0 0, .slice none 0 0, .slice none 0 0] 29) = V1 at *
            generalize V0.heap.size = g at *
            refine wpAnyH_ready (rs := [4]) (by kernel_rfl) (by simp) ?_
            refine AllReadyH.cons rfl (fun K hK => ?_) AllReadyH.nil
            go_simp
            go_at_call 10
            refine (HA1.out V1 hB.out).mono ?_
            rintro e V2 ⟨hB2, hN, gk, gn, s2, n2, r2, s3, n3, r3, s4, n4, r4, rfl, hF⟩
            have hB2 := hide' hB2; have hN := hide' hN; have hF := hide' hF
            go_wp2_with fail
            refine hK.out _ _ hB2.out (fun hHeld => ?_)
            clear hK
            (try simp only [Act.put, List.setIfInBounds_toArray, List.set_cons_zero, List.set_cons_succ])
            refine take_yes (i := 5) 89 (v := ?_) rfl rfl (by kernel_rfl) (by kernel_rfl) (by kernel_rfl) (fun _ _ _ h => h) (by kernel_rfl) hHeld ?_ ?_
            rotate_left
            focus (intro w hSw; (try dsimp only at hSw); go_simp; (try with_reducible rfl))
            (try simp only [Act.put, List.setIfInBounds_toArray, List.set_cons_zero, List.set_cons_succ])
            refine take_yes (i := 6) 95 (v := ?_) rfl rfl (by kernel_rfl) (by kernel_rfl) (by kernel_rfl) (fun _ _ _ h => h) (by kernel_rfl) hHeld ?_ ?_
            rotate_left
            focus (intro w hSw; (try dsimp only at hSw); go_simp; (try with_reducible rfl))
            (try simp only [Act.put, List.setIfInBounds_toArray, List.set_cons_zero, List.set_cons_succ])
            refine take_yes (i := 7) 96 (v := ?_) rfl rfl (by kernel_rfl) (by kernel_rfl) (by kernel_rfl) (fun _ _ _ h => h) (by kernel_rfl) hHeld ?_ ?_
            rotate_left
            focus (intro w hSw; (try dsimp only at hSw); go_simp; (try with_reducible rfl))
            (try simp only [Act.put, List.setIfInBounds_toArray, List.set_cons_zero, List.set_cons_succ])
            have hF3 := hide' (gt_old hF.out hlt.out)
            replace hr := hide' ((hN.out.block _ hlt.out).trans hr.out)
            clear hF hN hlt
            obtain ⟨V3, hV3⟩ : ∃ V3, V3 = V2 := ⟨_, rfl⟩; subst hV3
            obtain ⟨q0, q1, q2, q3, q4, qf⟩ := row5 hr.out
            have f0 := qf 0; have f1 := qf 1; have f2 := qf 2; have f3 := qf 3; have f4 := qf 4; clear qf
            have hE := hide' (got_store hB2.out hg.out hr.out hF3.out)
            have hS3 : Hid (Below W5.heap.size W5 (set5 V3 g 0 (.int .i64 gk) (.int .i64 gn) (.slice s2 n2 r2) (.slice s3 n3 r3) (.slice s4 n4 r4))) := hide' hE.out.1
            refine wpAnyH_ready (rs := [9]) (by kernel_rfl) (by simp) ?_
            refine AllReadyH.cons rfl (fun K hK => ?_) AllReadyH.nil
            go_simp
            refine hK.out _ _ (by have h := hS3.out; simp only [set5, Nat.zero_add] at h; with_reducible exact h) (fun hHeld => ?_)
            clear hK
            (try simp only [Act.put, List.setIfInBounds_toArray, List.set_cons_zero, List.set_cons_succ])
            refine take_yes (i := 10) 12 (v := ?_) rfl rfl (by kernel_rfl) (by kernel_rfl) (by kernel_rfl) (fun _ _ _ h => h) (by kernel_rfl) hHeld ?_ ?_
            rotate_left
            focus (intro w hSw; (try dsimp only at hSw); go_simp; (try with_reducible rfl))
            (try simp only [Act.put, List.setIfInBounds_toArray, List.set_cons_zero, List.set_cons_succ])
            refine wpAnyH_done (by kernel_rfl) ?_ _
            clear hHeld
            go_wp2_with fail
            go_meet
            exact ⟨rfl, g, gk, gn, s2, n2, r2, s3, n3, r3, s4, n4, r4, rfl, by have h := hE.out; simp only [set5, Nat.zero_add] at h; exact hide' h⟩
        case rest =>
          obtain ⟨rfl, gY, yk, yn, y2, yl2, yp2, y3, yl3, yp3, y4, yl4, yp4, rfl, HE⟩ := hcut
          obtain ⟨W7, hW7⟩ : ∃ W7, W7 = wc := ⟨_, rfl⟩; subst hW7
          have HY := hide' (HE.out.std rfl)
          have HB7 := hide' (Below.on HB5.out HE.out.1)
          have HX7 := hide' (HX5.out.on HE.out.1)
          have HA2 : Hid (∀ wx, Below W7.heap.size W7 wx → Calls Tryz.prog 10 #[.agg #[.int .i64 yk, .int .i64 yn, .slice y2 yl2 yp2, .slice y3 yl3 yp3, .slice y4 yl4 yp4], .slice none 0 0] wx (GvEnd m W7 wx)) := hide' (fun wx hb => ((impl_At_any m1.1 W7.heap.size _ _ _ _ _ m1.2 _ _ wx (HY.out.seg wx hb) ((HSB.out.on HB7.out) wx hb) hb.size).mono fun e w' k => by rw [HM2.out] at k; exact k.some.gv hb))
          clear HE HA1 HSA HSB HM1 HM2 HX5 hB
          have hB := hide' (Below.refl W7.heap.size W7)
          go_wp2_with fail
          go_cut [13, 14] from 97 to 104 (fun p b wx => b = .bool true ∧ ∃ (g : Nat) (gk gn : Int) (s2 : Option Addr) (n2 r2 : Nat) (s3 : Option Addr) (n3 r3 : Nat) (s4 : Option Addr) (n4 r4 : Nat), p = .pointer (some ⟨g, 0, none⟩) ∧ Hid (Got m.1 W7 (some m.2) g (.int .i64 gk, .int .i64 gn, .slice s2 n2 r2, .slice s3 n3 r3, .slice s4 n4 r4) wx))
          case first =>
            refine wp_region_held_drew (S := (fun wx => Below W7.heap.size W7 wx)) (by kernel_rfl) hB.out.drew (fun hHeld => ?_)
            replace hB : Hid (Below W7.heap.size W7 W7.drew) := hB.out.drew
            generalize W7.drew = V0 at *
            refine take_yes (i := 0) 98 (v := ?_) rfl rfl (by kernel_rfl) (by kernel_rfl) (by kernel_rfl) (fun _ _ _ h => h) (by kernel_rfl) hHeld ?_ ?_
            rotate_left
            focus (intro w hSw; obtain ⟨z0, z1, z2, z3, z4, -⟩ := row5 (HY.out.row w hSw); (try dsimp only at hSw); go_simp; (try with_reducible rfl))
            (try simp only [Act.put, List.setIfInBounds_toArray, List.set_cons_zero, List.set_cons_succ])
            refine take_yes (i := 1) 99 (v := ?_) rfl rfl (by kernel_rfl) (by kernel_rfl) (by kernel_rfl) (fun _ _ _ h => h) (by kernel_rfl) hHeld ?_ ?_
            rotate_left
            focus (intro w hSw; (try dsimp only at hSw); go_simp; (try with_reducible rfl))
            (try simp only [Act.put, List.setIfInBounds_toArray, List.set_cons_zero, List.set_cons_succ])
            refine take_yes (i := 2) 100 (v := ?_) rfl rfl (by kernel_rfl) (by kernel_rfl) (by kernel_rfl) (fun _ _ _ h => h) (by kernel_rfl) hHeld ?_ ?_
            rotate_left
            focus (intro w hSw; (try dsimp only at hSw); go_simp; (try with_reducible rfl))
            (try simp only [Act.put, List.setIfInBounds_toArray, List.set_cons_zero, List.set_cons_succ])
            refine take_yes (i := 3) 101 (v := ?_) rfl rfl (by kernel_rfl) (by kernel_rfl) (by kernel_rfl) (fun _ _ _ h => h) (by kernel_rfl) hHeld ?_ ?_
            rotate_left
            focus (intro w hSw; (try dsimp only at hSw); go_simp; (try with_reducible rfl))
            (try simp only [Act.put, List.setIfInBounds_toArray, List.set_cons_zero, List.set_cons_succ])
            refine wpAnyH_ready (rs := [4, 8]) (by kernel_rfl) (by simp) ?_
            refine AllReadyH.cons rfl (fun K hK => ?_) (AllReadyH.cons rfl (fun K hK => ?_) AllReadyH.nil)
            · go_simp
              go_at_call 10
              refine (HA2.out V0 hB.out).mono ?_
              rintro e V2 ⟨hB2, hN, gk, gn, s2, n2, r2, s3, n3, r3, s4, n4, r4, rfl, hF⟩
              have hB2 := hide' hB2; have hN := hide' hN; have hF := hide' hF
              go_wp2_with fail
              refine hK.out _ _ hB2.out (fun hHeld => ?_)
              clear hK
              (try simp only [Act.put, List.setIfInBounds_toArray, List.set_cons_zero, List.set_cons_succ])
              refine take_yes (i := 5) 97 (v := ?_) rfl rfl (by kernel_rfl) (by kernel_rfl) (by kernel_rfl) (fun _ _ _ h => h) (by kernel_rfl) hHeld ?_ ?_
              rotate_left
              focus (intro w hSw; (try dsimp only at hSw); go_simp; (try with_reducible rfl))
              (try simp only [Act.put, List.setIfInBounds_toArray, List.set_cons_zero, List.set_cons_succ])
              refine take_yes (i := 6) 103 (v := ?_) rfl rfl (by kernel_rfl) (by kernel_rfl) (by kernel_rfl) (fun _ _ _ h => h) (by kernel_rfl) hHeld ?_ ?_
              rotate_left
              focus (intro w hSw; (try dsimp only at hSw); go_simp; (try with_reducible rfl))
              (try simp only [Act.put, List.setIfInBounds_toArray, List.set_cons_zero, List.set_cons_succ])
              refine take_yes (i := 7) 104 (v := ?_) rfl rfl (by kernel_rfl) (by kernel_rfl) (by kernel_rfl) (fun _ _ _ h => h) (by kernel_rfl) hHeld ?_ ?_
              rotate_left
              focus (intro w hSw; (try dsimp only at hSw); go_simp; (try with_reducible rfl))
              (try simp only [Act.put, List.setIfInBounds_toArray, List.set_cons_zero, List.set_cons_succ])
              refine wpAnyH_ready (rs := [8]) (by kernel_rfl) (by simp) ?_
              refine AllReadyH.cons rfl (fun K hK => ?_) AllReadyH.nil
              go_simp
              have hr := hide' (heap_alloc_new V2 (.cells #[.int .i64 0, .int .i64 0, .slice none 0 0, .slice none 0 0, .slice none 0 0] 29))
              have hg := hide' hB2.out.size
              have hF3 := hide' (gt_new (.cells #[.int .i64 0, .int .i64 0, .slice none 0 0, .slice none 0 0, .slice none 0 0] 29) hF.out)
              replace hB2 := hide' (hB2.out.alloc hB2.out.size (.cells #[.int .i64 0, .int .i64 0, .slice none 0 0, .slice none 0 0, .slice none 0 0] 29))
              refine hK.out _ _ hB2.out (fun hHeld => ?_)
              clear hK
              (try simp only [Act.put, List.setIfInBounds_toArray, List.set_cons_zero, List.set_cons_succ])
              clear hF hN
              generalize V2.alloc (.cells #[.int .i64 0, .int .i64 0, .slice none 0 0, .slice none 0 0, .slice none 0 0] 29) = V3 at *
              generalize V2.heap.size = g at *
              obtain ⟨q0, q1, q2, q3, q4, qf⟩ := row5 hr.out
              have f0 := qf 0; have f1 := qf 1; have f2 := qf 2; have f3 := qf 3; have f4 := qf 4; clear qf
              have hE := hide' (got_store hB2.out hg.out hr.out hF3.out)
              have hS3 : Hid (Below W7.heap.size W7 (set5 V3 g 0 (.int .i64 gk) (.int .i64 gn) (.slice s2 n2 r2) (.slice s3 n3 r3) (.slice s4 n4 r4))) := hide' hE.out.1
              refine wpAnyH_ready (rs := [9]) (by kernel_rfl) (by simp) ?_
              refine AllReadyH.cons rfl (fun K hK => ?_) AllReadyH.nil
              go_simp
              refine hK.out _ _ (by have h := hS3.out; simp only [set5, Nat.zero_add] at h; with_reducible exact h) (fun hHeld => ?_)
              clear hK
              (try simp only [Act.put, List.setIfInBounds_toArray, List.set_cons_zero, List.set_cons_succ])
              refine take_yes (i := 10) 14 (v := ?_) rfl rfl (by kernel_rfl) (by kernel_rfl) (by kernel_rfl) (fun _ _ _ h => h) (by kernel_rfl) hHeld ?_ ?_
              rotate_left
              focus (intro w hSw; (try dsimp only at hSw); go_simp; (try with_reducible rfl))
              (try simp only [Act.put, List.setIfInBounds_toArray, List.set_cons_zero, List.set_cons_succ])
              refine wpAnyH_done (by kernel_rfl) ?_ _
              clear hHeld
              go_wp2_with fail
              go_meet
              exact ⟨rfl, g, gk, gn, s2, n2, r2, s3, n3, r3, s4, n4, r4, rfl, by have h := hE.out; simp only [set5, Nat.zero_add] at h; exact hide' h⟩
            · go_simp
              have hr := hide' (heap_alloc_new V0 (.cells #[.int .i64 0, .int .i64 0, .slice none 0 0, .slice none 0 0, .slice none 0 0] 29))
              have hg := hide' hB.out.size
              replace hB := hide' (hB.out.alloc hB.out.size (.cells #[.int .i64 0, .int .i64 0, .slice none 0 0, .slice none 0 0, .slice none 0 0] 29))
              have hlt : Hid (V0.heap.size < (V0.alloc (.cells #[.int .i64 0, .int .i64 0, .slice none 0 0, .slice none 0 0, .slice none 0 0] 29)).heap.size) := hide' (by simp)
              refine hK.out _ _ hB.out (fun hHeld => ?_)
              clear hK
              (try simp only [Act.put, List.setIfInBounds_toArray, List.set_cons_zero, List.set_cons_succ])
              generalize V0.alloc (.cells #[.int .i64 0, .int .i64 0, .slice none 0 0, .slice none 0 0, .slice none 0 0] 29) = V1 at *
              generalize V0.heap.size = g at *
              refine wpAnyH_ready (rs := [4]) (by kernel_rfl) (by simp) ?_
              refine AllReadyH.cons rfl (fun K hK => ?_) AllReadyH.nil
              go_simp
              go_at_call 10
              refine (HA2.out V1 hB.out).mono ?_
              rintro e V2 ⟨hB2, hN, gk, gn, s2, n2, r2, s3, n3, r3, s4, n4, r4, rfl, hF⟩
              have hB2 := hide' hB2; have hN := hide' hN; have hF := hide' hF
              go_wp2_with fail
              refine hK.out _ _ hB2.out (fun hHeld => ?_)
              clear hK
              (try simp only [Act.put, List.setIfInBounds_toArray, List.set_cons_zero, List.set_cons_succ])
              refine take_yes (i := 5) 97 (v := ?_) rfl rfl (by kernel_rfl) (by kernel_rfl) (by kernel_rfl) (fun _ _ _ h => h) (by kernel_rfl) hHeld ?_ ?_
              rotate_left
              focus (intro w hSw; (try dsimp only at hSw); go_simp; (try with_reducible rfl))
              (try simp only [Act.put, List.setIfInBounds_toArray, List.set_cons_zero, List.set_cons_succ])
              refine take_yes (i := 6) 103 (v := ?_) rfl rfl (by kernel_rfl) (by kernel_rfl) (by kernel_rfl) (fun _ _ _ h => h) (by kernel_rfl) hHeld ?_ ?_
              rotate_left
              focus (intro w hSw; (try dsimp only at hSw); go_simp; (try with_reducible rfl))
              (try simp only [Act.put, List.setIfInBounds_toArray, List.set_cons_zero, List.set_cons_succ])
              refine take_yes (i := 7) 104 (v := ?_) rfl rfl (by kernel_rfl) (by kernel_rfl) (by kernel_rfl) (fun _ _ _ h => h) (by kernel_rfl) hHeld ?_ ?_
              rotate_left
              focus (intro w hSw; (try dsimp only at hSw); go_simp; (try with_reducible rfl))
              (try simp only [Act.put, List.setIfInBounds_toArray, List.set_cons_zero, List.set_cons_succ])
              have hF3 := hide' (gt_old hF.out hlt.out)
              replace hr := hide' ((hN.out.block _ hlt.out).trans hr.out)
              clear hF hN hlt
              obtain ⟨V3, hV3⟩ : ∃ V3, V3 = V2 := ⟨_, rfl⟩; subst hV3
              obtain ⟨q0, q1, q2, q3, q4, qf⟩ := row5 hr.out
              have f0 := qf 0; have f1 := qf 1; have f2 := qf 2; have f3 := qf 3; have f4 := qf 4; clear qf
              have hE := hide' (got_store hB2.out hg.out hr.out hF3.out)
              have hS3 : Hid (Below W7.heap.size W7 (set5 V3 g 0 (.int .i64 gk) (.int .i64 gn) (.slice s2 n2 r2) (.slice s3 n3 r3) (.slice s4 n4 r4))) := hide' hE.out.1
              refine wpAnyH_ready (rs := [9]) (by kernel_rfl) (by simp) ?_
              refine AllReadyH.cons rfl (fun K hK => ?_) AllReadyH.nil
              go_simp
              refine hK.out _ _ (by have h := hS3.out; simp only [set5, Nat.zero_add] at h; with_reducible exact h) (fun hHeld => ?_)
              clear hK
              (try simp only [Act.put, List.setIfInBounds_toArray, List.set_cons_zero, List.set_cons_succ])
              refine take_yes (i := 10) 14 (v := ?_) rfl rfl (by kernel_rfl) (by kernel_rfl) (by kernel_rfl) (fun _ _ _ h => h) (by kernel_rfl) hHeld ?_ ?_
              rotate_left
              focus (intro w hSw; (try dsimp only at hSw); go_simp; (try with_reducible rfl))
              (try simp only [Act.put, List.setIfInBounds_toArray, List.set_cons_zero, List.set_cons_succ])
              refine wpAnyH_done (by kernel_rfl) ?_ _
              clear hHeld
              go_wp2_with fail
              go_meet
              exact ⟨rfl, g, gk, gn, s2, n2, r2, s3, n3, r3, s4, n4, r4, rfl, by have h := hE.out; simp only [set5, Nat.zero_add] at h; exact hide' h⟩
          case rest =>
            obtain ⟨rfl, gZ, zk, zn, z2, zl2, zp2, z3, zl3, zp3, z4, zl4, zp4, rfl, HE⟩ := hcut
            obtain ⟨W9, hW9⟩ : ∃ W9, W9 = wc := ⟨_, rfl⟩; subst hW9
            have HZ := hide' (HE.out.std rfl)
            have HB9 := hide' (Below.on HB7.out HE.out.1)
            have HX9 := hide' (HX7.out.on HE.out.1)
            have HSm := hide' (same_any m.1 W9.heap.size _ _ _ _ _ _ _ _ _ _ m.2 m.2 W9 (HX9.out.seg W9 (Below.refl _ _)) (HZ.out.seg W9 (Below.refl _ _)) (Nat.le_refl _))
            have hsv : sameV m.1 m.2 m.2 = true := by simp [sameV, HM.out]
            rw [hsv] at HSm
            obtain ⟨x0', x1', x2', x3', x4', _⟩ := row5 (HX9.out.row W9 (Below.refl _ _))
            obtain ⟨z0', z1', z2', z3', z4', _⟩ := row5 (HZ.out.row W9 (Below.refl _ _))
            clear HE HA2 HY HX7 hB hsv
            go_wp2_with fail
            refine HSm.out.mono ?_
            rintro e w10 ⟨rfl, hb10⟩
            have HB10 := hide' (Below.on HB9.out hb10)
            clear hb10 HSm HB9 HX9 HZ x0' x1' x2' x3' x4' z0' z1' z2' z3' z4'
            go_wp2_with fail
            refine (HPO.out w10 HB10.out).mono ?_
            rintro e w11 ⟨rfl, hb11⟩
            have HB11 := hide' (Below.on HB10.out hb11)
            go_wp2_with fail
            go_ret
            exact ⟨rfl, HB.out.trans (HB11.out.mono HB.out.size)⟩
      · have HSA := hide' (HTk.out k hk)
        have HSB := hide' (HDk.out b off sp k rfl hk)
        clear hra HTk HDk HD0
        have HA1 : Hid (∀ wx, Below W5.heap.size W5 wx → Calls Tryz.prog 10 #[.agg #[.int .i64 vk, .int .i64 vn, .slice a2 l2 p2, .slice a3 l3 p3, .slice a4 l4 p4], .slice (some ⟨b, off, sp⟩) k rc] wx (GvEnd m1 W5 wx)) := hide' (fun wx hb => ((HV.out.on HB5.out).at (HSA.out.on HB5.out) HM1.out wx hb).mono fun e w' h => h.gv hb)
        have hB := hide' (Below.refl W5.heap.size W5)
        go_wp2_with fail
        go_cut [11, 12] from 89 to 96 (fun p b wx => b = .bool true ∧ ∃ (g : Nat) (gk gn : Int) (s2 : Option Addr) (n2 r2 : Nat) (s3 : Option Addr) (n3 r3 : Nat) (s4 : Option Addr) (n4 r4 : Nat), p = .pointer (some ⟨g, 0, none⟩) ∧ Hid (Got m1.1 W5 (some m1.2) g (.int .i64 gk, .int .i64 gn, .slice s2 n2 r2, .slice s3 n3 r3, .slice s4 n4 r4) wx))
        case first =>
          refine wp_region_held_drew (S := (fun wx => Below W5.heap.size W5 wx)) (by kernel_rfl) hB.out.drew (fun hHeld => ?_)
          replace hB : Hid (Below W5.heap.size W5 W5.drew) := hB.out.drew
          generalize W5.drew = V0 at *
          refine take_yes (i := 0) 90 (v := ?_) rfl rfl (by kernel_rfl) (by kernel_rfl) (by kernel_rfl) (fun _ _ _ h => h) (by kernel_rfl) hHeld ?_ ?_
          rotate_left
          focus (intro w hSw; obtain ⟨z0, z1, z2, z3, z4, -⟩ := row5 (HV.out.row w (Below.on HB5.out hSw)); (try dsimp only at hSw); go_simp; (try with_reducible rfl))
          (try simp only [Act.put, List.setIfInBounds_toArray, List.set_cons_zero, List.set_cons_succ])
          refine take_yes (i := 1) 91 (v := ?_) rfl rfl (by kernel_rfl) (by kernel_rfl) (by kernel_rfl) (fun _ _ _ h => h) (by kernel_rfl) hHeld ?_ ?_
          rotate_left
          focus (intro w hSw; (try dsimp only at hSw); go_simp; (try with_reducible rfl))
          (try simp only [Act.put, List.setIfInBounds_toArray, List.set_cons_zero, List.set_cons_succ])
          refine take_yes (i := 2) 92 (v := ?_) rfl rfl (by kernel_rfl) (by kernel_rfl) (by kernel_rfl) (fun _ _ _ h => h) (by kernel_rfl) hHeld ?_ ?_
          rotate_left
          focus (intro w hSw; (try dsimp only at hSw); go_simp; (try with_reducible rfl))
          (try simp only [Act.put, List.setIfInBounds_toArray, List.set_cons_zero, List.set_cons_succ])
          refine take_yes (i := 3) 93 (v := ?_) rfl rfl (by kernel_rfl) (by kernel_rfl) (by kernel_rfl) (fun _ _ _ h => h) (by kernel_rfl) hHeld ?_ ?_
          rotate_left
          focus (intro w hSw; (try dsimp only at hSw); go_simp; (try with_reducible rfl))
          (try simp only [Act.put, List.setIfInBounds_toArray, List.set_cons_zero, List.set_cons_succ])
          refine wpAnyH_ready (rs := [4, 8]) (by kernel_rfl) (by simp) ?_
          refine AllReadyH.cons rfl (fun K hK => ?_) (AllReadyH.cons rfl (fun K hK => ?_) AllReadyH.nil)
          · go_simp
            go_at_call 10
            refine (HA1.out V0 hB.out).mono ?_
            rintro e V2 ⟨hB2, hN, gk, gn, s2, n2, r2, s3, n3, r3, s4, n4, r4, rfl, hF⟩
            have hB2 := hide' hB2; have hN := hide' hN; have hF := hide' hF
            go_wp2_with fail
            refine hK.out _ _ hB2.out (fun hHeld => ?_)
            clear hK
            (try simp only [Act.put, List.setIfInBounds_toArray, List.set_cons_zero, List.set_cons_succ])
            refine take_yes (i := 5) 89 (v := ?_) rfl rfl (by kernel_rfl) (by kernel_rfl) (by kernel_rfl) (fun _ _ _ h => h) (by kernel_rfl) hHeld ?_ ?_
            rotate_left
            focus (intro w hSw; (try dsimp only at hSw); go_simp; (try with_reducible rfl))
            (try simp only [Act.put, List.setIfInBounds_toArray, List.set_cons_zero, List.set_cons_succ])
            refine take_yes (i := 6) 95 (v := ?_) rfl rfl (by kernel_rfl) (by kernel_rfl) (by kernel_rfl) (fun _ _ _ h => h) (by kernel_rfl) hHeld ?_ ?_
            rotate_left
            focus (intro w hSw; (try dsimp only at hSw); go_simp; (try with_reducible rfl))
            (try simp only [Act.put, List.setIfInBounds_toArray, List.set_cons_zero, List.set_cons_succ])
            refine take_yes (i := 7) 96 (v := ?_) rfl rfl (by kernel_rfl) (by kernel_rfl) (by kernel_rfl) (fun _ _ _ h => h) (by kernel_rfl) hHeld ?_ ?_
            rotate_left
            focus (intro w hSw; (try dsimp only at hSw); go_simp; (try with_reducible rfl))
            (try simp only [Act.put, List.setIfInBounds_toArray, List.set_cons_zero, List.set_cons_succ])
            refine wpAnyH_ready (rs := [8]) (by kernel_rfl) (by simp) ?_
            refine AllReadyH.cons rfl (fun K hK => ?_) AllReadyH.nil
            go_simp
            have hr := hide' (heap_alloc_new V2 (.cells #[.int .i64 0, .int .i64 0, .slice none 0 0, .slice none 0 0, .slice none 0 0] 29))
            have hg := hide' hB2.out.size
            have hF3 := hide' (gt_new (.cells #[.int .i64 0, .int .i64 0, .slice none 0 0, .slice none 0 0, .slice none 0 0] 29) hF.out)
            replace hB2 := hide' (hB2.out.alloc hB2.out.size (.cells #[.int .i64 0, .int .i64 0, .slice none 0 0, .slice none 0 0, .slice none 0 0] 29))
            refine hK.out _ _ hB2.out (fun hHeld => ?_)
            clear hK
            (try simp only [Act.put, List.setIfInBounds_toArray, List.set_cons_zero, List.set_cons_succ])
            clear hF hN
            generalize V2.alloc (.cells #[.int .i64 0, .int .i64 0, .slice none 0 0, .slice none 0 0, .slice none 0 0] 29) = V3 at *
            generalize V2.heap.size = g at *
            obtain ⟨q0, q1, q2, q3, q4, qf⟩ := row5 hr.out
            have f0 := qf 0; have f1 := qf 1; have f2 := qf 2; have f3 := qf 3; have f4 := qf 4; clear qf
            have hE := hide' (got_store hB2.out hg.out hr.out hF3.out)
            have hS3 : Hid (Below W5.heap.size W5 (set5 V3 g 0 (.int .i64 gk) (.int .i64 gn) (.slice s2 n2 r2) (.slice s3 n3 r3) (.slice s4 n4 r4))) := hide' hE.out.1
            refine wpAnyH_ready (rs := [9]) (by kernel_rfl) (by simp) ?_
            refine AllReadyH.cons rfl (fun K hK => ?_) AllReadyH.nil
            go_simp
            refine hK.out _ _ (by have h := hS3.out; simp only [set5, Nat.zero_add] at h; with_reducible exact h) (fun hHeld => ?_)
            clear hK
            (try simp only [Act.put, List.setIfInBounds_toArray, List.set_cons_zero, List.set_cons_succ])
            refine take_yes (i := 10) 12 (v := ?_) rfl rfl (by kernel_rfl) (by kernel_rfl) (by kernel_rfl) (fun _ _ _ h => h) (by kernel_rfl) hHeld ?_ ?_
            rotate_left
            focus (intro w hSw; (try dsimp only at hSw); go_simp; (try with_reducible rfl))
            (try simp only [Act.put, List.setIfInBounds_toArray, List.set_cons_zero, List.set_cons_succ])
            refine wpAnyH_done (by kernel_rfl) ?_ _
            clear hHeld
            go_wp2_with fail
            go_meet
            exact ⟨rfl, g, gk, gn, s2, n2, r2, s3, n3, r3, s4, n4, r4, rfl, by have h := hE.out; simp only [set5, Nat.zero_add] at h; exact hide' h⟩
          · go_simp
            have hr := hide' (heap_alloc_new V0 (.cells #[.int .i64 0, .int .i64 0, .slice none 0 0, .slice none 0 0, .slice none 0 0] 29))
            have hg := hide' hB.out.size
            replace hB := hide' (hB.out.alloc hB.out.size (.cells #[.int .i64 0, .int .i64 0, .slice none 0 0, .slice none 0 0, .slice none 0 0] 29))
            have hlt : Hid (V0.heap.size < (V0.alloc (.cells #[.int .i64 0, .int .i64 0, .slice none 0 0, .slice none 0 0, .slice none 0 0] 29)).heap.size) := hide' (by simp)
            refine hK.out _ _ hB.out (fun hHeld => ?_)
            clear hK
            (try simp only [Act.put, List.setIfInBounds_toArray, List.set_cons_zero, List.set_cons_succ])
            generalize V0.alloc (.cells #[.int .i64 0, .int .i64 0, .slice none 0 0, .slice none 0 0, .slice none 0 0] 29) = V1 at *
            generalize V0.heap.size = g at *
            refine wpAnyH_ready (rs := [4]) (by kernel_rfl) (by simp) ?_
            refine AllReadyH.cons rfl (fun K hK => ?_) AllReadyH.nil
            go_simp
            go_at_call 10
            refine (HA1.out V1 hB.out).mono ?_
            rintro e V2 ⟨hB2, hN, gk, gn, s2, n2, r2, s3, n3, r3, s4, n4, r4, rfl, hF⟩
            have hB2 := hide' hB2; have hN := hide' hN; have hF := hide' hF
            go_wp2_with fail
            refine hK.out _ _ hB2.out (fun hHeld => ?_)
            clear hK
            (try simp only [Act.put, List.setIfInBounds_toArray, List.set_cons_zero, List.set_cons_succ])
            refine take_yes (i := 5) 89 (v := ?_) rfl rfl (by kernel_rfl) (by kernel_rfl) (by kernel_rfl) (fun _ _ _ h => h) (by kernel_rfl) hHeld ?_ ?_
            rotate_left
            focus (intro w hSw; (try dsimp only at hSw); go_simp; (try with_reducible rfl))
            (try simp only [Act.put, List.setIfInBounds_toArray, List.set_cons_zero, List.set_cons_succ])
            refine take_yes (i := 6) 95 (v := ?_) rfl rfl (by kernel_rfl) (by kernel_rfl) (by kernel_rfl) (fun _ _ _ h => h) (by kernel_rfl) hHeld ?_ ?_
            rotate_left
            focus (intro w hSw; (try dsimp only at hSw); go_simp; (try with_reducible rfl))
            (try simp only [Act.put, List.setIfInBounds_toArray, List.set_cons_zero, List.set_cons_succ])
            refine take_yes (i := 7) 96 (v := ?_) rfl rfl (by kernel_rfl) (by kernel_rfl) (by kernel_rfl) (fun _ _ _ h => h) (by kernel_rfl) hHeld ?_ ?_
            rotate_left
            focus (intro w hSw; (try dsimp only at hSw); go_simp; (try with_reducible rfl))
            (try simp only [Act.put, List.setIfInBounds_toArray, List.set_cons_zero, List.set_cons_succ])
            have hF3 := hide' (gt_old hF.out hlt.out)
            replace hr := hide' ((hN.out.block _ hlt.out).trans hr.out)
            clear hF hN hlt
            obtain ⟨V3, hV3⟩ : ∃ V3, V3 = V2 := ⟨_, rfl⟩; subst hV3
            obtain ⟨q0, q1, q2, q3, q4, qf⟩ := row5 hr.out
            have f0 := qf 0; have f1 := qf 1; have f2 := qf 2; have f3 := qf 3; have f4 := qf 4; clear qf
            have hE := hide' (got_store hB2.out hg.out hr.out hF3.out)
            have hS3 : Hid (Below W5.heap.size W5 (set5 V3 g 0 (.int .i64 gk) (.int .i64 gn) (.slice s2 n2 r2) (.slice s3 n3 r3) (.slice s4 n4 r4))) := hide' hE.out.1
            refine wpAnyH_ready (rs := [9]) (by kernel_rfl) (by simp) ?_
            refine AllReadyH.cons rfl (fun K hK => ?_) AllReadyH.nil
            go_simp
            refine hK.out _ _ (by have h := hS3.out; simp only [set5, Nat.zero_add] at h; with_reducible exact h) (fun hHeld => ?_)
            clear hK
            (try simp only [Act.put, List.setIfInBounds_toArray, List.set_cons_zero, List.set_cons_succ])
            refine take_yes (i := 10) 12 (v := ?_) rfl rfl (by kernel_rfl) (by kernel_rfl) (by kernel_rfl) (fun _ _ _ h => h) (by kernel_rfl) hHeld ?_ ?_
            rotate_left
            focus (intro w hSw; (try dsimp only at hSw); go_simp; (try with_reducible rfl))
            (try simp only [Act.put, List.setIfInBounds_toArray, List.set_cons_zero, List.set_cons_succ])
            refine wpAnyH_done (by kernel_rfl) ?_ _
            clear hHeld
            go_wp2_with fail
            go_meet
            exact ⟨rfl, g, gk, gn, s2, n2, r2, s3, n3, r3, s4, n4, r4, rfl, by have h := hE.out; simp only [set5, Nat.zero_add] at h; exact hide' h⟩
        case rest =>
          obtain ⟨rfl, gY, yk, yn, y2, yl2, yp2, y3, yl3, yp3, y4, yl4, yp4, rfl, HE⟩ := hcut
          obtain ⟨W7, hW7⟩ : ∃ W7, W7 = wc := ⟨_, rfl⟩; subst hW7
          have HY := hide' (HE.out.std rfl)
          have HB7 := hide' (Below.on HB5.out HE.out.1)
          have HX7 := hide' (HX5.out.on HE.out.1)
          by_cases hrk : rc = k
          · skip
            have hnk : k = nr := by omega
            have hrk2 : k = rc := hrk.symm
            subst hnk
            subst hrk2
            replace HSB : Hid (SdP W (.slice (some ⟨b, off, sp⟩) 0 0) (lr.drop k)) := hide' (by have h := HSB.out; simpa using h)
            have HA2 : Hid (∀ wx, Below W7.heap.size W7 wx → Calls Tryz.prog 10 #[.agg #[.int .i64 yk, .int .i64 yn, .slice y2 yl2 yp2, .slice y3 yl3 yp3, .slice y4 yl4 yp4], .slice (some ⟨b, off, sp⟩) 0 0] wx (GvEnd m W7 wx)) := hide' (fun wx hb => ((impl_At_any m1.1 W7.heap.size _ _ _ _ _ m1.2 _ _ wx (HY.out.seg wx hb) ((HSB.out.on HB7.out) wx hb) hb.size).mono fun e w' k => by rw [HM2.out] at k; exact k.some.gv hb))
            clear HE HA1 HSA HSB HM1 HM2 HX5 hB
            have hB := hide' (Below.refl W7.heap.size W7)
            go_wp2_with fail
            go_cut [13, 14] from 97 to 104 (fun p b wx => b = .bool true ∧ ∃ (g : Nat) (gk gn : Int) (s2 : Option Addr) (n2 r2 : Nat) (s3 : Option Addr) (n3 r3 : Nat) (s4 : Option Addr) (n4 r4 : Nat), p = .pointer (some ⟨g, 0, none⟩) ∧ Hid (Got m.1 W7 (some m.2) g (.int .i64 gk, .int .i64 gn, .slice s2 n2 r2, .slice s3 n3 r3, .slice s4 n4 r4) wx))
            case first =>
              refine wp_region_held_drew (S := (fun wx => Below W7.heap.size W7 wx)) (by kernel_rfl) hB.out.drew (fun hHeld => ?_)
              replace hB : Hid (Below W7.heap.size W7 W7.drew) := hB.out.drew
              generalize W7.drew = V0 at *
              refine take_yes (i := 0) 98 (v := ?_) rfl rfl (by kernel_rfl) (by kernel_rfl) (by kernel_rfl) (fun _ _ _ h => h) (by kernel_rfl) hHeld ?_ ?_
              rotate_left
              focus (intro w hSw; obtain ⟨z0, z1, z2, z3, z4, -⟩ := row5 (HY.out.row w hSw); (try dsimp only at hSw); go_simp; (try with_reducible rfl))
              (try simp only [Act.put, List.setIfInBounds_toArray, List.set_cons_zero, List.set_cons_succ])
              refine take_yes (i := 1) 99 (v := ?_) rfl rfl (by kernel_rfl) (by kernel_rfl) (by kernel_rfl) (fun _ _ _ h => h) (by kernel_rfl) hHeld ?_ ?_
              rotate_left
              focus (intro w hSw; (try dsimp only at hSw); go_simp; (try with_reducible rfl))
              (try simp only [Act.put, List.setIfInBounds_toArray, List.set_cons_zero, List.set_cons_succ])
              refine take_yes (i := 2) 100 (v := ?_) rfl rfl (by kernel_rfl) (by kernel_rfl) (by kernel_rfl) (fun _ _ _ h => h) (by kernel_rfl) hHeld ?_ ?_
              rotate_left
              focus (intro w hSw; (try dsimp only at hSw); go_simp; (try with_reducible rfl))
              (try simp only [Act.put, List.setIfInBounds_toArray, List.set_cons_zero, List.set_cons_succ])
              refine take_yes (i := 3) 101 (v := ?_) rfl rfl (by kernel_rfl) (by kernel_rfl) (by kernel_rfl) (fun _ _ _ h => h) (by kernel_rfl) hHeld ?_ ?_
              rotate_left
              focus (intro w hSw; (try dsimp only at hSw); go_simp; (try with_reducible rfl))
              (try simp only [Act.put, List.setIfInBounds_toArray, List.set_cons_zero, List.set_cons_succ])
              refine wpAnyH_ready (rs := [4, 8]) (by kernel_rfl) (by simp) ?_
              refine AllReadyH.cons rfl (fun K hK => ?_) (AllReadyH.cons rfl (fun K hK => ?_) AllReadyH.nil)
              · go_simp
                go_at_call 10
                refine (HA2.out V0 hB.out).mono ?_
                rintro e V2 ⟨hB2, hN, gk, gn, s2, n2, r2, s3, n3, r3, s4, n4, r4, rfl, hF⟩
                have hB2 := hide' hB2; have hN := hide' hN; have hF := hide' hF
                go_wp2_with fail
                refine hK.out _ _ hB2.out (fun hHeld => ?_)
                clear hK
                (try simp only [Act.put, List.setIfInBounds_toArray, List.set_cons_zero, List.set_cons_succ])
                refine take_yes (i := 5) 97 (v := ?_) rfl rfl (by kernel_rfl) (by kernel_rfl) (by kernel_rfl) (fun _ _ _ h => h) (by kernel_rfl) hHeld ?_ ?_
                rotate_left
                focus (intro w hSw; (try dsimp only at hSw); go_simp; (try with_reducible rfl))
                (try simp only [Act.put, List.setIfInBounds_toArray, List.set_cons_zero, List.set_cons_succ])
                refine take_yes (i := 6) 103 (v := ?_) rfl rfl (by kernel_rfl) (by kernel_rfl) (by kernel_rfl) (fun _ _ _ h => h) (by kernel_rfl) hHeld ?_ ?_
                rotate_left
                focus (intro w hSw; (try dsimp only at hSw); go_simp; (try with_reducible rfl))
                (try simp only [Act.put, List.setIfInBounds_toArray, List.set_cons_zero, List.set_cons_succ])
                refine take_yes (i := 7) 104 (v := ?_) rfl rfl (by kernel_rfl) (by kernel_rfl) (by kernel_rfl) (fun _ _ _ h => h) (by kernel_rfl) hHeld ?_ ?_
                rotate_left
                focus (intro w hSw; (try dsimp only at hSw); go_simp; (try with_reducible rfl))
                (try simp only [Act.put, List.setIfInBounds_toArray, List.set_cons_zero, List.set_cons_succ])
                refine wpAnyH_ready (rs := [8]) (by kernel_rfl) (by simp) ?_
                refine AllReadyH.cons rfl (fun K hK => ?_) AllReadyH.nil
                go_simp
                have hr := hide' (heap_alloc_new V2 (.cells #[.int .i64 0, .int .i64 0, .slice none 0 0, .slice none 0 0, .slice none 0 0] 29))
                have hg := hide' hB2.out.size
                have hF3 := hide' (gt_new (.cells #[.int .i64 0, .int .i64 0, .slice none 0 0, .slice none 0 0, .slice none 0 0] 29) hF.out)
                replace hB2 := hide' (hB2.out.alloc hB2.out.size (.cells #[.int .i64 0, .int .i64 0, .slice none 0 0, .slice none 0 0, .slice none 0 0] 29))
                refine hK.out _ _ hB2.out (fun hHeld => ?_)
                clear hK
                (try simp only [Act.put, List.setIfInBounds_toArray, List.set_cons_zero, List.set_cons_succ])
                clear hF hN
                generalize V2.alloc (.cells #[.int .i64 0, .int .i64 0, .slice none 0 0, .slice none 0 0, .slice none 0 0] 29) = V3 at *
                generalize V2.heap.size = g at *
                obtain ⟨q0, q1, q2, q3, q4, qf⟩ := row5 hr.out
                have f0 := qf 0; have f1 := qf 1; have f2 := qf 2; have f3 := qf 3; have f4 := qf 4; clear qf
                have hE := hide' (got_store hB2.out hg.out hr.out hF3.out)
                have hS3 : Hid (Below W7.heap.size W7 (set5 V3 g 0 (.int .i64 gk) (.int .i64 gn) (.slice s2 n2 r2) (.slice s3 n3 r3) (.slice s4 n4 r4))) := hide' hE.out.1
                refine wpAnyH_ready (rs := [9]) (by kernel_rfl) (by simp) ?_
                refine AllReadyH.cons rfl (fun K hK => ?_) AllReadyH.nil
                go_simp
                refine hK.out _ _ (by have h := hS3.out; simp only [set5, Nat.zero_add] at h; with_reducible exact h) (fun hHeld => ?_)
                clear hK
                (try simp only [Act.put, List.setIfInBounds_toArray, List.set_cons_zero, List.set_cons_succ])
                refine take_yes (i := 10) 14 (v := ?_) rfl rfl (by kernel_rfl) (by kernel_rfl) (by kernel_rfl) (fun _ _ _ h => h) (by kernel_rfl) hHeld ?_ ?_
                rotate_left
                focus (intro w hSw; (try dsimp only at hSw); go_simp; (try with_reducible rfl))
                (try simp only [Act.put, List.setIfInBounds_toArray, List.set_cons_zero, List.set_cons_succ])
                refine wpAnyH_done (by kernel_rfl) ?_ _
                clear hHeld
                go_wp2_with fail
                go_meet
                exact ⟨rfl, g, gk, gn, s2, n2, r2, s3, n3, r3, s4, n4, r4, rfl, by have h := hE.out; simp only [set5, Nat.zero_add] at h; exact hide' h⟩
              · go_simp
                have hr := hide' (heap_alloc_new V0 (.cells #[.int .i64 0, .int .i64 0, .slice none 0 0, .slice none 0 0, .slice none 0 0] 29))
                have hg := hide' hB.out.size
                replace hB := hide' (hB.out.alloc hB.out.size (.cells #[.int .i64 0, .int .i64 0, .slice none 0 0, .slice none 0 0, .slice none 0 0] 29))
                have hlt : Hid (V0.heap.size < (V0.alloc (.cells #[.int .i64 0, .int .i64 0, .slice none 0 0, .slice none 0 0, .slice none 0 0] 29)).heap.size) := hide' (by simp)
                refine hK.out _ _ hB.out (fun hHeld => ?_)
                clear hK
                (try simp only [Act.put, List.setIfInBounds_toArray, List.set_cons_zero, List.set_cons_succ])
                generalize V0.alloc (.cells #[.int .i64 0, .int .i64 0, .slice none 0 0, .slice none 0 0, .slice none 0 0] 29) = V1 at *
                generalize V0.heap.size = g at *
                refine wpAnyH_ready (rs := [4]) (by kernel_rfl) (by simp) ?_
                refine AllReadyH.cons rfl (fun K hK => ?_) AllReadyH.nil
                go_simp
                go_at_call 10
                refine (HA2.out V1 hB.out).mono ?_
                rintro e V2 ⟨hB2, hN, gk, gn, s2, n2, r2, s3, n3, r3, s4, n4, r4, rfl, hF⟩
                have hB2 := hide' hB2; have hN := hide' hN; have hF := hide' hF
                go_wp2_with fail
                refine hK.out _ _ hB2.out (fun hHeld => ?_)
                clear hK
                (try simp only [Act.put, List.setIfInBounds_toArray, List.set_cons_zero, List.set_cons_succ])
                refine take_yes (i := 5) 97 (v := ?_) rfl rfl (by kernel_rfl) (by kernel_rfl) (by kernel_rfl) (fun _ _ _ h => h) (by kernel_rfl) hHeld ?_ ?_
                rotate_left
                focus (intro w hSw; (try dsimp only at hSw); go_simp; (try with_reducible rfl))
                (try simp only [Act.put, List.setIfInBounds_toArray, List.set_cons_zero, List.set_cons_succ])
                refine take_yes (i := 6) 103 (v := ?_) rfl rfl (by kernel_rfl) (by kernel_rfl) (by kernel_rfl) (fun _ _ _ h => h) (by kernel_rfl) hHeld ?_ ?_
                rotate_left
                focus (intro w hSw; (try dsimp only at hSw); go_simp; (try with_reducible rfl))
                (try simp only [Act.put, List.setIfInBounds_toArray, List.set_cons_zero, List.set_cons_succ])
                refine take_yes (i := 7) 104 (v := ?_) rfl rfl (by kernel_rfl) (by kernel_rfl) (by kernel_rfl) (fun _ _ _ h => h) (by kernel_rfl) hHeld ?_ ?_
                rotate_left
                focus (intro w hSw; (try dsimp only at hSw); go_simp; (try with_reducible rfl))
                (try simp only [Act.put, List.setIfInBounds_toArray, List.set_cons_zero, List.set_cons_succ])
                have hF3 := hide' (gt_old hF.out hlt.out)
                replace hr := hide' ((hN.out.block _ hlt.out).trans hr.out)
                clear hF hN hlt
                obtain ⟨V3, hV3⟩ : ∃ V3, V3 = V2 := ⟨_, rfl⟩; subst hV3
                obtain ⟨q0, q1, q2, q3, q4, qf⟩ := row5 hr.out
                have f0 := qf 0; have f1 := qf 1; have f2 := qf 2; have f3 := qf 3; have f4 := qf 4; clear qf
                have hE := hide' (got_store hB2.out hg.out hr.out hF3.out)
                have hS3 : Hid (Below W7.heap.size W7 (set5 V3 g 0 (.int .i64 gk) (.int .i64 gn) (.slice s2 n2 r2) (.slice s3 n3 r3) (.slice s4 n4 r4))) := hide' hE.out.1
                refine wpAnyH_ready (rs := [9]) (by kernel_rfl) (by simp) ?_
                refine AllReadyH.cons rfl (fun K hK => ?_) AllReadyH.nil
                go_simp
                refine hK.out _ _ (by have h := hS3.out; simp only [set5, Nat.zero_add] at h; with_reducible exact h) (fun hHeld => ?_)
                clear hK
                (try simp only [Act.put, List.setIfInBounds_toArray, List.set_cons_zero, List.set_cons_succ])
                refine take_yes (i := 10) 14 (v := ?_) rfl rfl (by kernel_rfl) (by kernel_rfl) (by kernel_rfl) (fun _ _ _ h => h) (by kernel_rfl) hHeld ?_ ?_
                rotate_left
                focus (intro w hSw; (try dsimp only at hSw); go_simp; (try with_reducible rfl))
                (try simp only [Act.put, List.setIfInBounds_toArray, List.set_cons_zero, List.set_cons_succ])
                refine wpAnyH_done (by kernel_rfl) ?_ _
                clear hHeld
                go_wp2_with fail
                go_meet
                exact ⟨rfl, g, gk, gn, s2, n2, r2, s3, n3, r3, s4, n4, r4, rfl, by have h := hE.out; simp only [set5, Nat.zero_add] at h; exact hide' h⟩
            case rest =>
              obtain ⟨rfl, gZ, zk, zn, z2, zl2, zp2, z3, zl3, zp3, z4, zl4, zp4, rfl, HE⟩ := hcut
              obtain ⟨W9, hW9⟩ : ∃ W9, W9 = wc := ⟨_, rfl⟩; subst hW9
              have HZ := hide' (HE.out.std rfl)
              have HB9 := hide' (Below.on HB7.out HE.out.1)
              have HX9 := hide' (HX7.out.on HE.out.1)
              have HSm := hide' (same_any m.1 W9.heap.size _ _ _ _ _ _ _ _ _ _ m.2 m.2 W9 (HX9.out.seg W9 (Below.refl _ _)) (HZ.out.seg W9 (Below.refl _ _)) (Nat.le_refl _))
              have hsv : sameV m.1 m.2 m.2 = true := by simp [sameV, HM.out]
              rw [hsv] at HSm
              obtain ⟨x0', x1', x2', x3', x4', _⟩ := row5 (HX9.out.row W9 (Below.refl _ _))
              obtain ⟨z0', z1', z2', z3', z4', _⟩ := row5 (HZ.out.row W9 (Below.refl _ _))
              clear HE HA2 HY HX7 hB hsv
              go_wp2_with fail
              refine HSm.out.mono ?_
              rintro e w10 ⟨rfl, hb10⟩
              have HB10 := hide' (Below.on HB9.out hb10)
              clear hb10 HSm HB9 HX9 HZ x0' x1' x2' x3' x4' z0' z1' z2' z3' z4'
              go_wp2_with fail
              refine (HPO.out w10 HB10.out).mono ?_
              rintro e w11 ⟨rfl, hb11⟩
              have HB11 := hide' (Below.on HB10.out hb11)
              go_wp2_with fail
              go_ret
              exact ⟨rfl, HB.out.trans (HB11.out.mono HB.out.size)⟩
          · skip
            replace HSB : Hid (SdP W (.slice (some (Addr.add ⟨b, off, sp⟩ (k * 3))) (nr - k) (rc - k)) (lr.drop k)) := hide' (by have h := HSB.out; rw [if_neg hrk] at h; exact h)
            have HA2 : Hid (∀ wx, Below W7.heap.size W7 wx → Calls Tryz.prog 10 #[.agg #[.int .i64 yk, .int .i64 yn, .slice y2 yl2 yp2, .slice y3 yl3 yp3, .slice y4 yl4 yp4], .slice (some (Addr.add ⟨b, off, sp⟩ (k * 3))) (nr - k) (rc - k)] wx (GvEnd m W7 wx)) := hide' (fun wx hb => ((impl_At_any m1.1 W7.heap.size _ _ _ _ _ m1.2 _ _ wx (HY.out.seg wx hb) ((HSB.out.on HB7.out) wx hb) hb.size).mono fun e w' k => by rw [HM2.out] at k; exact k.some.gv hb))
            clear HE HA1 HSA HSB HM1 HM2 HX5 hB
            have hB := hide' (Below.refl W7.heap.size W7)
            go_wp2_with fail
            go_cut [13, 14] from 97 to 104 (fun p b wx => b = .bool true ∧ ∃ (g : Nat) (gk gn : Int) (s2 : Option Addr) (n2 r2 : Nat) (s3 : Option Addr) (n3 r3 : Nat) (s4 : Option Addr) (n4 r4 : Nat), p = .pointer (some ⟨g, 0, none⟩) ∧ Hid (Got m.1 W7 (some m.2) g (.int .i64 gk, .int .i64 gn, .slice s2 n2 r2, .slice s3 n3 r3, .slice s4 n4 r4) wx))
            case first =>
              refine wp_region_held_drew (S := (fun wx => Below W7.heap.size W7 wx)) (by kernel_rfl) hB.out.drew (fun hHeld => ?_)
              replace hB : Hid (Below W7.heap.size W7 W7.drew) := hB.out.drew
              generalize W7.drew = V0 at *
              refine take_yes (i := 0) 98 (v := ?_) rfl rfl (by kernel_rfl) (by kernel_rfl) (by kernel_rfl) (fun _ _ _ h => h) (by kernel_rfl) hHeld ?_ ?_
              rotate_left
              focus (intro w hSw; obtain ⟨z0, z1, z2, z3, z4, -⟩ := row5 (HY.out.row w hSw); (try dsimp only at hSw); go_simp; (try with_reducible rfl))
              (try simp only [Act.put, List.setIfInBounds_toArray, List.set_cons_zero, List.set_cons_succ])
              refine take_yes (i := 1) 99 (v := ?_) rfl rfl (by kernel_rfl) (by kernel_rfl) (by kernel_rfl) (fun _ _ _ h => h) (by kernel_rfl) hHeld ?_ ?_
              rotate_left
              focus (intro w hSw; (try dsimp only at hSw); go_simp; (try with_reducible rfl))
              (try simp only [Act.put, List.setIfInBounds_toArray, List.set_cons_zero, List.set_cons_succ])
              refine take_yes (i := 2) 100 (v := ?_) rfl rfl (by kernel_rfl) (by kernel_rfl) (by kernel_rfl) (fun _ _ _ h => h) (by kernel_rfl) hHeld ?_ ?_
              rotate_left
              focus (intro w hSw; (try dsimp only at hSw); go_simp; (try with_reducible rfl))
              (try simp only [Act.put, List.setIfInBounds_toArray, List.set_cons_zero, List.set_cons_succ])
              refine take_yes (i := 3) 101 (v := ?_) rfl rfl (by kernel_rfl) (by kernel_rfl) (by kernel_rfl) (fun _ _ _ h => h) (by kernel_rfl) hHeld ?_ ?_
              rotate_left
              focus (intro w hSw; (try dsimp only at hSw); go_simp; (try with_reducible rfl))
              (try simp only [Act.put, List.setIfInBounds_toArray, List.set_cons_zero, List.set_cons_succ])
              refine wpAnyH_ready (rs := [4, 8]) (by kernel_rfl) (by simp) ?_
              refine AllReadyH.cons rfl (fun K hK => ?_) (AllReadyH.cons rfl (fun K hK => ?_) AllReadyH.nil)
              · go_simp
                go_at_call 10
                refine (HA2.out V0 hB.out).mono ?_
                rintro e V2 ⟨hB2, hN, gk, gn, s2, n2, r2, s3, n3, r3, s4, n4, r4, rfl, hF⟩
                have hB2 := hide' hB2; have hN := hide' hN; have hF := hide' hF
                go_wp2_with fail
                refine hK.out _ _ hB2.out (fun hHeld => ?_)
                clear hK
                (try simp only [Act.put, List.setIfInBounds_toArray, List.set_cons_zero, List.set_cons_succ])
                refine take_yes (i := 5) 97 (v := ?_) rfl rfl (by kernel_rfl) (by kernel_rfl) (by kernel_rfl) (fun _ _ _ h => h) (by kernel_rfl) hHeld ?_ ?_
                rotate_left
                focus (intro w hSw; (try dsimp only at hSw); go_simp; (try with_reducible rfl))
                (try simp only [Act.put, List.setIfInBounds_toArray, List.set_cons_zero, List.set_cons_succ])
                refine take_yes (i := 6) 103 (v := ?_) rfl rfl (by kernel_rfl) (by kernel_rfl) (by kernel_rfl) (fun _ _ _ h => h) (by kernel_rfl) hHeld ?_ ?_
                rotate_left
                focus (intro w hSw; (try dsimp only at hSw); go_simp; (try with_reducible rfl))
                (try simp only [Act.put, List.setIfInBounds_toArray, List.set_cons_zero, List.set_cons_succ])
                refine take_yes (i := 7) 104 (v := ?_) rfl rfl (by kernel_rfl) (by kernel_rfl) (by kernel_rfl) (fun _ _ _ h => h) (by kernel_rfl) hHeld ?_ ?_
                rotate_left
                focus (intro w hSw; (try dsimp only at hSw); go_simp; (try with_reducible rfl))
                (try simp only [Act.put, List.setIfInBounds_toArray, List.set_cons_zero, List.set_cons_succ])
                refine wpAnyH_ready (rs := [8]) (by kernel_rfl) (by simp) ?_
                refine AllReadyH.cons rfl (fun K hK => ?_) AllReadyH.nil
                go_simp
                have hr := hide' (heap_alloc_new V2 (.cells #[.int .i64 0, .int .i64 0, .slice none 0 0, .slice none 0 0, .slice none 0 0] 29))
                have hg := hide' hB2.out.size
                have hF3 := hide' (gt_new (.cells #[.int .i64 0, .int .i64 0, .slice none 0 0, .slice none 0 0, .slice none 0 0] 29) hF.out)
                replace hB2 := hide' (hB2.out.alloc hB2.out.size (.cells #[.int .i64 0, .int .i64 0, .slice none 0 0, .slice none 0 0, .slice none 0 0] 29))
                refine hK.out _ _ hB2.out (fun hHeld => ?_)
                clear hK
                (try simp only [Act.put, List.setIfInBounds_toArray, List.set_cons_zero, List.set_cons_succ])
                clear hF hN
                generalize V2.alloc (.cells #[.int .i64 0, .int .i64 0, .slice none 0 0, .slice none 0 0, .slice none 0 0] 29) = V3 at *
                generalize V2.heap.size = g at *
                obtain ⟨q0, q1, q2, q3, q4, qf⟩ := row5 hr.out
                have f0 := qf 0; have f1 := qf 1; have f2 := qf 2; have f3 := qf 3; have f4 := qf 4; clear qf
                have hE := hide' (got_store hB2.out hg.out hr.out hF3.out)
                have hS3 : Hid (Below W7.heap.size W7 (set5 V3 g 0 (.int .i64 gk) (.int .i64 gn) (.slice s2 n2 r2) (.slice s3 n3 r3) (.slice s4 n4 r4))) := hide' hE.out.1
                refine wpAnyH_ready (rs := [9]) (by kernel_rfl) (by simp) ?_
                refine AllReadyH.cons rfl (fun K hK => ?_) AllReadyH.nil
                go_simp
                refine hK.out _ _ (by have h := hS3.out; simp only [set5, Nat.zero_add] at h; with_reducible exact h) (fun hHeld => ?_)
                clear hK
                (try simp only [Act.put, List.setIfInBounds_toArray, List.set_cons_zero, List.set_cons_succ])
                refine take_yes (i := 10) 14 (v := ?_) rfl rfl (by kernel_rfl) (by kernel_rfl) (by kernel_rfl) (fun _ _ _ h => h) (by kernel_rfl) hHeld ?_ ?_
                rotate_left
                focus (intro w hSw; (try dsimp only at hSw); go_simp; (try with_reducible rfl))
                (try simp only [Act.put, List.setIfInBounds_toArray, List.set_cons_zero, List.set_cons_succ])
                refine wpAnyH_done (by kernel_rfl) ?_ _
                clear hHeld
                go_wp2_with fail
                go_meet
                exact ⟨rfl, g, gk, gn, s2, n2, r2, s3, n3, r3, s4, n4, r4, rfl, by have h := hE.out; simp only [set5, Nat.zero_add] at h; exact hide' h⟩
              · go_simp
                have hr := hide' (heap_alloc_new V0 (.cells #[.int .i64 0, .int .i64 0, .slice none 0 0, .slice none 0 0, .slice none 0 0] 29))
                have hg := hide' hB.out.size
                replace hB := hide' (hB.out.alloc hB.out.size (.cells #[.int .i64 0, .int .i64 0, .slice none 0 0, .slice none 0 0, .slice none 0 0] 29))
                have hlt : Hid (V0.heap.size < (V0.alloc (.cells #[.int .i64 0, .int .i64 0, .slice none 0 0, .slice none 0 0, .slice none 0 0] 29)).heap.size) := hide' (by simp)
                refine hK.out _ _ hB.out (fun hHeld => ?_)
                clear hK
                (try simp only [Act.put, List.setIfInBounds_toArray, List.set_cons_zero, List.set_cons_succ])
                generalize V0.alloc (.cells #[.int .i64 0, .int .i64 0, .slice none 0 0, .slice none 0 0, .slice none 0 0] 29) = V1 at *
                generalize V0.heap.size = g at *
                refine wpAnyH_ready (rs := [4]) (by kernel_rfl) (by simp) ?_
                refine AllReadyH.cons rfl (fun K hK => ?_) AllReadyH.nil
                go_simp
                go_at_call 10
                refine (HA2.out V1 hB.out).mono ?_
                rintro e V2 ⟨hB2, hN, gk, gn, s2, n2, r2, s3, n3, r3, s4, n4, r4, rfl, hF⟩
                have hB2 := hide' hB2; have hN := hide' hN; have hF := hide' hF
                go_wp2_with fail
                refine hK.out _ _ hB2.out (fun hHeld => ?_)
                clear hK
                (try simp only [Act.put, List.setIfInBounds_toArray, List.set_cons_zero, List.set_cons_succ])
                refine take_yes (i := 5) 97 (v := ?_) rfl rfl (by kernel_rfl) (by kernel_rfl) (by kernel_rfl) (fun _ _ _ h => h) (by kernel_rfl) hHeld ?_ ?_
                rotate_left
                focus (intro w hSw; (try dsimp only at hSw); go_simp; (try with_reducible rfl))
                (try simp only [Act.put, List.setIfInBounds_toArray, List.set_cons_zero, List.set_cons_succ])
                refine take_yes (i := 6) 103 (v := ?_) rfl rfl (by kernel_rfl) (by kernel_rfl) (by kernel_rfl) (fun _ _ _ h => h) (by kernel_rfl) hHeld ?_ ?_
                rotate_left
                focus (intro w hSw; (try dsimp only at hSw); go_simp; (try with_reducible rfl))
                (try simp only [Act.put, List.setIfInBounds_toArray, List.set_cons_zero, List.set_cons_succ])
                refine take_yes (i := 7) 104 (v := ?_) rfl rfl (by kernel_rfl) (by kernel_rfl) (by kernel_rfl) (fun _ _ _ h => h) (by kernel_rfl) hHeld ?_ ?_
                rotate_left
                focus (intro w hSw; (try dsimp only at hSw); go_simp; (try with_reducible rfl))
                (try simp only [Act.put, List.setIfInBounds_toArray, List.set_cons_zero, List.set_cons_succ])
                have hF3 := hide' (gt_old hF.out hlt.out)
                replace hr := hide' ((hN.out.block _ hlt.out).trans hr.out)
                clear hF hN hlt
                obtain ⟨V3, hV3⟩ : ∃ V3, V3 = V2 := ⟨_, rfl⟩; subst hV3
                obtain ⟨q0, q1, q2, q3, q4, qf⟩ := row5 hr.out
                have f0 := qf 0; have f1 := qf 1; have f2 := qf 2; have f3 := qf 3; have f4 := qf 4; clear qf
                have hE := hide' (got_store hB2.out hg.out hr.out hF3.out)
                have hS3 : Hid (Below W7.heap.size W7 (set5 V3 g 0 (.int .i64 gk) (.int .i64 gn) (.slice s2 n2 r2) (.slice s3 n3 r3) (.slice s4 n4 r4))) := hide' hE.out.1
                refine wpAnyH_ready (rs := [9]) (by kernel_rfl) (by simp) ?_
                refine AllReadyH.cons rfl (fun K hK => ?_) AllReadyH.nil
                go_simp
                refine hK.out _ _ (by have h := hS3.out; simp only [set5, Nat.zero_add] at h; with_reducible exact h) (fun hHeld => ?_)
                clear hK
                (try simp only [Act.put, List.setIfInBounds_toArray, List.set_cons_zero, List.set_cons_succ])
                refine take_yes (i := 10) 14 (v := ?_) rfl rfl (by kernel_rfl) (by kernel_rfl) (by kernel_rfl) (fun _ _ _ h => h) (by kernel_rfl) hHeld ?_ ?_
                rotate_left
                focus (intro w hSw; (try dsimp only at hSw); go_simp; (try with_reducible rfl))
                (try simp only [Act.put, List.setIfInBounds_toArray, List.set_cons_zero, List.set_cons_succ])
                refine wpAnyH_done (by kernel_rfl) ?_ _
                clear hHeld
                go_wp2_with fail
                go_meet
                exact ⟨rfl, g, gk, gn, s2, n2, r2, s3, n3, r3, s4, n4, r4, rfl, by have h := hE.out; simp only [set5, Nat.zero_add] at h; exact hide' h⟩
            case rest =>
              obtain ⟨rfl, gZ, zk, zn, z2, zl2, zp2, z3, zl3, zp3, z4, zl4, zp4, rfl, HE⟩ := hcut
              obtain ⟨W9, hW9⟩ : ∃ W9, W9 = wc := ⟨_, rfl⟩; subst hW9
              have HZ := hide' (HE.out.std rfl)
              have HB9 := hide' (Below.on HB7.out HE.out.1)
              have HX9 := hide' (HX7.out.on HE.out.1)
              have HSm := hide' (same_any m.1 W9.heap.size _ _ _ _ _ _ _ _ _ _ m.2 m.2 W9 (HX9.out.seg W9 (Below.refl _ _)) (HZ.out.seg W9 (Below.refl _ _)) (Nat.le_refl _))
              have hsv : sameV m.1 m.2 m.2 = true := by simp [sameV, HM.out]
              rw [hsv] at HSm
              obtain ⟨x0', x1', x2', x3', x4', _⟩ := row5 (HX9.out.row W9 (Below.refl _ _))
              obtain ⟨z0', z1', z2', z3', z4', _⟩ := row5 (HZ.out.row W9 (Below.refl _ _))
              clear HE HA2 HY HX7 hB hsv
              go_wp2_with fail
              refine HSm.out.mono ?_
              rintro e w10 ⟨rfl, hb10⟩
              have HB10 := hide' (Below.on HB9.out hb10)
              clear hb10 HSm HB9 HX9 HZ x0' x1' x2' x3' x4' z0' z1' z2' z3' z4'
              go_wp2_with fail
              refine (HPO.out w10 HB10.out).mono ?_
              rintro e w11 ⟨rfl, hb11⟩
              have HB11 := hide' (Below.on HB10.out hb11)
              go_wp2_with fail
              go_ret
              exact ⟨rfl, HB.out.trans (HB11.out.mono HB.out.size)⟩
end Go.Proofs.YteafpgaefphkfaaGreatDoor
