/-
  Texts that a law leans on, one behind the other; no statement is proved here.
-/
import Derived.Test.YtdhlmcgbgdljmaaGreatDoorPk18
import Derived.Test.YtdhlmcgbgdljmaaGreatDoorPk10
/-
  editOf of the program: it takes a change in just where it may be, alone.
-/
namespace Go.Proofs.YtdhlmcgbgdljmaaGreatDoor
open Go.RowKit
set_option linter.unusedVariables false
set_option linter.unusedSimpArgs false

def IsIf (p : Value) : Prop := p = .nilIface ∨ ∃ t x, p = .iface t x
def sdB (d : Nat) (had : Bool) (v : Vl d) : Bool := okB d v && (had || decide (kdV d v = 0))

theorem side_all (d N : Nat) (had : Bool) (c0 c1 c2 c3 c4 : Value) (v : Vl d) (w : World) (hv : VSeg (fun b => b < N) w d (c0, c1, c2, c3, c4) v) (hN : N ≤ w.heap.size) :
    Calls Tryz.prog 42 #[.bool had, .agg #[c0, c1, c2, c3, c4]] w fun e w' => ∃ p, e = .returned (.tuple #[p, .bool (sdB d had v)]) ∧ IsIf p ∧ Below w.heap.size w w' := by
  cases had with
  | false =>
    refine (sideOf_no d N c0 c1 c2 c3 c4 v w hv hN).mono ?_
    rintro e w' ⟨rfl, b⟩
    exact ⟨_, by simp [sdB], .inl rfl, b⟩
  | true =>
    refine (sideOf_yes d N c0 c1 c2 c3 c4 v w hv hN).mono ?_
    rintro e w' ⟨b, ⟨p, rfl, hok, hp⟩ | ⟨rfl, hno⟩⟩
    · exact ⟨_, by simp [sdB, hok], .inr hp.shape, b⟩
    · exact ⟨_, by simp [sdB, hno], .inl rfl, b⟩

/-- What editOf leaves. -/
def EdEnd (d : Nat) (x : Chg d) (w : World) (e : Ending) (w' : World) : Prop := ∃ p0 p1 p2, e = .returned (.tuple #[.agg #[p0, p1, p2], .bool (okC d x)]) ∧ (∃ a n c, p0 = .slice a n c) ∧ IsIf p1 ∧ IsIf p2 ∧ Below w.heap.size w w'

set_option maxHeartbeats 6400000 in
set_option maxRecDepth 100000 in
theorem editOf_any (d N : Nat) (cs : List Value) (x : Chg d) (w : World) (h : CSg (fun b => b < N) w d cs x) (hN : N ≤ w.heap.size) :
    Calls Tryz.prog 20 #[.agg cs.toArray] w (EdEnd d x w) := by
  unfold EdEnd
  obtain ⟨pa, pc, ok, on, o2, ol2, op2, o3, ol3, op3, o4, ol4, op4, nk, nn, n2, nl2, np2, n3, nl3, np3, n4, nl4, np4, rfl, ht, hv, hu⟩ := h.form
  obtain ⟨pth, had, old, has, new⟩ := x
  simp only at ht hv hu ⊢
  have HB : Hid (∀ o o' : Obj, Below w.heap.size w ((w.alloc o).alloc o')) := fun o o' => ((Below.refl _ _).alloc (Nat.le_refl _) o).alloc (by simp) o'
  have Hbox : Hid (∀ o o' wx, Below ((w.alloc o).alloc o').heap.size ((w.alloc o).alloc o') wx → wx.heap[w.heap.size]? = some o ∧ wx.heap[w.heap.size + 1]? = some o') := fun o o' wx h => ⟨(h.block _ (by simp; omega)).trans (two_boxes w o o').1, (h.block _ (by simp)).trans (two_boxes w o o').2⟩
  have hA : ∀ wx, Below w.heap.size w wx → Agree (fun b => b < N) w wx := fun wx hb => agree_below (hb.mono hN)
  have HV : Hid (∀ wx, Below w.heap.size w wx → Calls Tryz.prog 42 #[.bool had, .agg #[.int .i64 ok, .int .i64 on, .slice o2 ol2 op2, .slice o3 ol3 op3, .slice o4 ol4 op4]] wx fun e w' => ∃ p, e = .returned (.tuple #[p, .bool (sdB d had old)]) ∧ IsIf p ∧ Below wx.heap.size wx w') := fun wx hb => side_all d N had _ _ _ _ _ old wx (VSeg.agree (hA wx hb) d hv) (by have := hb.size; omega)
  have HU : Hid (∀ wx, Below w.heap.size w wx → Calls Tryz.prog 42 #[.bool has, .agg #[.int .i64 nk, .int .i64 nn, .slice n2 nl2 np2, .slice n3 nl3 np3, .slice n4 nl4 np4]] wx fun e w' => ∃ p, e = .returned (.tuple #[p, .bool (sdB d has new)]) ∧ IsIf p ∧ Below wx.heap.size wx w') := fun wx hb => side_all d N has _ _ _ _ _ new wx (VSeg.agree (hA wx hb) d hu) (by have := hb.size; omega)
  have HP : Hid (∀ wx, Below w.heap.size w wx → Calls Tryz.prog 43 #[.slice pa pth.length pc] wx fun e w' => e = .returned (.bool (pathB pth)) ∧ Below wx.heap.size wx w') := fun wx hb => impl_PathOk_any N _ pth wx (ht.agree (hA wx hb)) (by have := hb.size; omega)
  have HK : Hid (∀ wx, Below w.heap.size w wx → Calls Tryz.prog 44 #[.slice pa pth.length pc] wx fun e w' => e = .returned (.bool (endB pth)) ∧ wx = w') := fun wx hb => endsWithKey_any N pa _ pc pth wx (ht.agree (hA wx hb)) (by have := hb.size; omega)
  have HG : Hid (pathB pth = true → ∀ wx, Below w.heap.size w wx → Calls Tryz.prog 45 #[.slice pa pth.length pc, .slice none 0 0] wx fun e w' => ∃ va vn vc, e = .returned (.slice va vn vc) ∧ Below wx.heap.size wx w') := fun hp wx hb => grown_any N _ pc pa pth wx (ht.agree (hA wx hb)) (by have := hb.size; omega) hp
  have HOk : Hid (okC d (pth, had, old, has, new) = (pathB pth && (sdB d had old && (sdB d has new && ((had || has) && (had == has || endB pth)))))) := by
    show _ = _
    unfold okC sdB
    simp only
    cases pathB pth <;> cases okB d old <;> cases okB d new <;> cases had <;> cases has <;> simp
  generalize okC d (pth, had, old, has, new) = ans at *
  clear ht hv hu h hA
  generalize sdB d had old = s1 at *
  generalize sdB d has new = s2 at *
  generalize pathB pth = pb at *
  generalize endB pth = eb at *
  generalize pth.length = pl at *
  go_enter Tryz.func20, Tryz.ntmps20
  go_wp2_with fail
  refine (HV.out _ (HB.out _ _)).mono ?_
  rintro e w1 ⟨p1, rfl, hp1, b1⟩
  have B1 := hide' b1
  have hX := (Hbox.out _ _ _ B1.out).1
  have u7 := cell_of_row _ _ 7 _ _ _ hX
  have u8 := cell_of_row _ _ 8 _ _ _ hX
  have u9 := cell_of_row _ _ 9 _ _ _ hX
  have u10 := cell_of_row _ _ 10 _ _ _ hX
  have u11 := cell_of_row _ _ 11 _ _ _ hX
  have u12 := cell_of_row _ _ 12 _ _ _ hX
  simp at u7 u8 u9 u10 u11 u12
  clear hX b1 HV
  go_wp2_with fail
  refine (HU.out _ (Below.on (HB.out _ _) B1.out)).mono ?_
  rintro e w2 ⟨p2, rfl, hp2, b2⟩
  have B2 := hide' (Below.on B1.out b2)
  clear b2 HU u7 u8 u9 u10 u11 u12 B1
  cases s1 with
  | false =>
    have HF : Hid (ans = false) := by show _ = _; rw [HOk.out]; simp
    clear HOk
    have hR := (Hbox.out _ _ _ B2.out).2
    obtain ⟨t0, t1, t2, tf⟩ := row3 hR
    have tf0 := tf 0
    have tf1 := tf 1
    have tf2 := tf 2
    have hk3 := row3 (set3_heap (j := 0) (.slice none 0 0) .nilIface .nilIface hR)
    simp only [set3, Nat.zero_add] at hk3
    have Hk3 := hide' hk3
    have HBf := hide' ((Below.on (HB.out _ _) B2.out).grown (set3_grown w2 (w.heap.size + 1) 0 (.slice none 0 0) .nilIface .nilIface) (by have := (Below.on (HB.out _ _) B2.out).size; omega) (by intro j hj; simp at hj; omega))
    clear hk3 hR tf
    go_wp2_with fail
    obtain ⟨u0, u1, u2, _⟩ := Hk3.out
    refine bodyPost_ret (v := .tuple #[.agg #[.slice none 0 0, .nilIface, .nilIface], .bool false]) (by simp [results, Tryz.results20, go_sem, u0, u1, u2]) rfl ?_
    exact ⟨_, _, _, by rw [HF.out], ⟨_, _, _, rfl⟩, .inl rfl, .inl rfl, HBf.out⟩
  | true =>
  cases s2 with
  | false =>
    have HF : Hid (ans = false) := by show _ = _; rw [HOk.out]; simp
    clear HOk
    have hR := (Hbox.out _ _ _ B2.out).2
    obtain ⟨t0, t1, t2, tf⟩ := row3 hR
    have tf0 := tf 0
    have tf1 := tf 1
    have tf2 := tf 2
    have hk3 := row3 (set3_heap (j := 0) (.slice none 0 0) .nilIface .nilIface hR)
    simp only [set3, Nat.zero_add] at hk3
    have Hk3 := hide' hk3
    have HBf := hide' ((Below.on (HB.out _ _) B2.out).grown (set3_grown w2 (w.heap.size + 1) 0 (.slice none 0 0) .nilIface .nilIface) (by have := (Below.on (HB.out _ _) B2.out).size; omega) (by intro j hj; simp at hj; omega))
    clear hk3 hR tf
    go_wp2_with fail
    obtain ⟨u0, u1, u2, _⟩ := Hk3.out
    refine bodyPost_ret (v := .tuple #[.agg #[.slice none 0 0, .nilIface, .nilIface], .bool false]) (by simp [results, Tryz.results20, go_sem, u0, u1, u2]) rfl ?_
    exact ⟨_, _, _, by rw [HF.out], ⟨_, _, _, rfl⟩, .inl rfl, .inl rfl, HBf.out⟩
  | true =>
  have hX := (Hbox.out _ _ _ B2.out).1
  have x0 := cell_of_row _ _ 0 _ _ _ hX
  simp at x0
  clear hX
  go_wp2_with fail
  refine (HP.out _ (Below.on (HB.out _ _) B2.out)).mono ?_
  rintro e w3 ⟨rfl, b3⟩
  have B3 := hide' (Below.on B2.out b3)
  clear b3 x0 B2 HP
  cases pb with
  | false =>
    have HF : Hid (ans = false) := by show _ = _; rw [HOk.out]; simp
    clear HOk
    have hR := (Hbox.out _ _ _ B3.out).2
    obtain ⟨t0, t1, t2, tf⟩ := row3 hR
    have tf0 := tf 0
    have tf1 := tf 1
    have tf2 := tf 2
    have hk3 := row3 (set3_heap (j := 0) (.slice none 0 0) .nilIface .nilIface hR)
    simp only [set3, Nat.zero_add] at hk3
    have Hk3 := hide' hk3
    have HBf := hide' ((Below.on (HB.out _ _) B3.out).grown (set3_grown w3 (w.heap.size + 1) 0 (.slice none 0 0) .nilIface .nilIface) (by have := (Below.on (HB.out _ _) B3.out).size; omega) (by intro j hj; simp at hj; omega))
    clear hk3 hR tf
    go_wp2_with fail
    obtain ⟨u0, u1, u2, _⟩ := Hk3.out
    refine bodyPost_ret (v := .tuple #[.agg #[.slice none 0 0, .nilIface, .nilIface], .bool false]) (by simp [results, Tryz.results20, go_sem, u0, u1, u2]) rfl ?_
    exact ⟨_, _, _, by rw [HF.out], ⟨_, _, _, rfl⟩, .inl rfl, .inl rfl, HBf.out⟩
  | true =>
  have HGr := hide' (HG.out rfl)
  clear HG
  have hX := (Hbox.out _ _ _ B3.out).1
  have x0 := cell_of_row _ _ 0 _ _ _ hX
  have x1 := cell_of_row _ _ 1 _ _ _ hX
  have x7 := cell_of_row _ _ 7 _ _ _ hX
  simp at x0 x1 x7
  clear hX
  cases had with
  | false =>
    cases has with
    | false =>
      have HF : Hid (ans = false) := by show _ = _; rw [HOk.out]; simp
      clear HOk
      have hR := (Hbox.out _ _ _ B3.out).2
      obtain ⟨t0, t1, t2, tf⟩ := row3 hR
      have tf0 := tf 0
      have tf1 := tf 1
      have tf2 := tf 2
      have hk3 := row3 (set3_heap (j := 0) (.slice none 0 0) .nilIface .nilIface hR)
      simp only [set3, Nat.zero_add] at hk3
      have Hk3 := hide' hk3
      have HBf := hide' ((Below.on (HB.out _ _) B3.out).grown (set3_grown w3 (w.heap.size + 1) 0 (.slice none 0 0) .nilIface .nilIface) (by have := (Below.on (HB.out _ _) B3.out).size; omega) (by intro j hj; simp at hj; omega))
      clear hk3 hR tf
      go_wp2_with fail
      obtain ⟨u0, u1, u2, _⟩ := Hk3.out
      refine bodyPost_ret (v := .tuple #[.agg #[.slice none 0 0, .nilIface, .nilIface], .bool false]) (by simp [results, Tryz.results20, go_sem, u0, u1, u2]) rfl ?_
      exact ⟨_, _, _, by rw [HF.out], ⟨_, _, _, rfl⟩, .inl rfl, .inl rfl, HBf.out⟩
    | true =>
      go_wp2_with fail
      refine (HK.out _ (Below.on (HB.out _ _) B3.out)).mono ?_
      rintro e w4 ⟨rfl, rfl⟩
      cases eb with
      | false =>
        have HF : Hid (ans = false) := by show _ = _; rw [HOk.out]; rfl
        clear HOk
        have hR := (Hbox.out _ _ _ B3.out).2
        obtain ⟨t0, t1, t2, tf⟩ := row3 hR
        have tf0 := tf 0
        have tf1 := tf 1
        have tf2 := tf 2
        have hk3 := row3 (set3_heap (j := 0) (.slice none 0 0) .nilIface .nilIface hR)
        simp only [set3, Nat.zero_add] at hk3
        have Hk3 := hide' hk3
        have HBf := hide' ((Below.on (HB.out _ _) B3.out).grown (set3_grown w3 (w.heap.size + 1) 0 (.slice none 0 0) .nilIface .nilIface) (by have := (Below.on (HB.out _ _) B3.out).size; omega) (by intro j hj; simp at hj; omega))
        clear hk3 hR tf
        go_wp2_with fail
        obtain ⟨u0, u1, u2, _⟩ := Hk3.out
        refine bodyPost_ret (v := .tuple #[.agg #[.slice none 0 0, .nilIface, .nilIface], .bool false]) (by simp [results, Tryz.results20, go_sem, u0, u1, u2]) rfl ?_
        exact ⟨_, _, _, by rw [HF.out], ⟨_, _, _, rfl⟩, .inl rfl, .inl rfl, HBf.out⟩
      | true =>
        have HF : Hid (ans = true) := by show _ = _; rw [HOk.out]; rfl
        clear HOk x0 x1 x7
        have hX := (Hbox.out _ _ _ B3.out).1
        have x0 := cell_of_row _ _ 0 _ _ _ hX
        simp at x0
        clear hX
        go_wp2_with fail
        refine (HGr.out _ (Below.on (HB.out _ _) B3.out)).mono ?_
        rintro e wg ⟨ga, gn, gc, rfl, bg⟩
        have Bg := hide' (Below.on B3.out bg)
        clear bg x0
        have hR := (Hbox.out _ _ _ Bg.out).2
        obtain ⟨t0, t1, t2, tf⟩ := row3 hR
        have tf0 := tf 0
        have tf1 := tf 1
        have tf2 := tf 2
        clear tf
        rcases hp1 with rfl | ⟨pt1, px1, rfl⟩ <;> rcases hp2 with rfl | ⟨pt2, px2, rfl⟩
        · have hk3 := row3 (set3_heap (j := 0) (.slice ga gn gc) .nilIface .nilIface hR)
          simp only [set3, Nat.zero_add] at hk3
          have Hk3 := hide' hk3
          have HBf := hide' ((Below.on (HB.out _ _) Bg.out).grown (set3_grown wg (w.heap.size + 1) 0 (.slice ga gn gc) .nilIface .nilIface) (by have := (Below.on (HB.out _ _) Bg.out).size; omega) (by intro j hj; simp at hj; omega))
          clear hk3 hR
          go_wp2_with fail
          obtain ⟨u0, u1, u2, _⟩ := Hk3.out
          refine bodyPost_ret (v := .tuple #[.agg #[.slice ga gn gc, .nilIface, .nilIface], .bool true]) (by simp [results, Tryz.results20, go_sem, u0, u1, u2]) rfl ?_
          exact ⟨_, _, _, by rw [HF.out], ⟨_, _, _, rfl⟩, .inl rfl, .inl rfl, HBf.out⟩
        · have hk3 := row3 (set3_heap (j := 0) (.slice ga gn gc) .nilIface (.iface pt2 px2) hR)
          simp only [set3, Nat.zero_add] at hk3
          have Hk3 := hide' hk3
          have HBf := hide' ((Below.on (HB.out _ _) Bg.out).grown (set3_grown wg (w.heap.size + 1) 0 (.slice ga gn gc) .nilIface (.iface pt2 px2)) (by have := (Below.on (HB.out _ _) Bg.out).size; omega) (by intro j hj; simp at hj; omega))
          clear hk3 hR
          go_wp2_with fail
          obtain ⟨u0, u1, u2, _⟩ := Hk3.out
          refine bodyPost_ret (v := .tuple #[.agg #[.slice ga gn gc, .nilIface, (.iface pt2 px2)], .bool true]) (by simp [results, Tryz.results20, go_sem, u0, u1, u2]) rfl ?_
          exact ⟨_, _, _, by rw [HF.out], ⟨_, _, _, rfl⟩, .inl rfl, .inr ⟨_, _, rfl⟩, HBf.out⟩
        · have hk3 := row3 (set3_heap (j := 0) (.slice ga gn gc) (.iface pt1 px1) .nilIface hR)
          simp only [set3, Nat.zero_add] at hk3
          have Hk3 := hide' hk3
          have HBf := hide' ((Below.on (HB.out _ _) Bg.out).grown (set3_grown wg (w.heap.size + 1) 0 (.slice ga gn gc) (.iface pt1 px1) .nilIface) (by have := (Below.on (HB.out _ _) Bg.out).size; omega) (by intro j hj; simp at hj; omega))
          clear hk3 hR
          go_wp2_with fail
          obtain ⟨u0, u1, u2, _⟩ := Hk3.out
          refine bodyPost_ret (v := .tuple #[.agg #[.slice ga gn gc, (.iface pt1 px1), .nilIface], .bool true]) (by simp [results, Tryz.results20, go_sem, u0, u1, u2]) rfl ?_
          exact ⟨_, _, _, by rw [HF.out], ⟨_, _, _, rfl⟩, .inr ⟨_, _, rfl⟩, .inl rfl, HBf.out⟩
        · have hk3 := row3 (set3_heap (j := 0) (.slice ga gn gc) (.iface pt1 px1) (.iface pt2 px2) hR)
          simp only [set3, Nat.zero_add] at hk3
          have Hk3 := hide' hk3
          have HBf := hide' ((Below.on (HB.out _ _) Bg.out).grown (set3_grown wg (w.heap.size + 1) 0 (.slice ga gn gc) (.iface pt1 px1) (.iface pt2 px2)) (by have := (Below.on (HB.out _ _) Bg.out).size; omega) (by intro j hj; simp at hj; omega))
          clear hk3 hR
          go_wp2_with fail
          obtain ⟨u0, u1, u2, _⟩ := Hk3.out
          refine bodyPost_ret (v := .tuple #[.agg #[.slice ga gn gc, (.iface pt1 px1), (.iface pt2 px2)], .bool true]) (by simp [results, Tryz.results20, go_sem, u0, u1, u2]) rfl ?_
          exact ⟨_, _, _, by rw [HF.out], ⟨_, _, _, rfl⟩, .inr ⟨_, _, rfl⟩, .inr ⟨_, _, rfl⟩, HBf.out⟩
  | true =>
    cases has with
    | true =>
      have HF : Hid (ans = true) := by show _ = _; rw [HOk.out]; rfl
      clear HOk
      have hX := (Hbox.out _ _ _ B3.out).1
      have x0 := cell_of_row _ _ 0 _ _ _ hX
      simp at x0
      clear hX
      go_wp2_with fail
      refine (HGr.out _ (Below.on (HB.out _ _) B3.out)).mono ?_
      rintro e wg ⟨ga, gn, gc, rfl, bg⟩
      have Bg := hide' (Below.on B3.out bg)
      clear bg x0
      have hR := (Hbox.out _ _ _ Bg.out).2
      obtain ⟨t0, t1, t2, tf⟩ := row3 hR
      have tf0 := tf 0
      have tf1 := tf 1
      have tf2 := tf 2
      clear tf
      rcases hp1 with rfl | ⟨pt1, px1, rfl⟩ <;> rcases hp2 with rfl | ⟨pt2, px2, rfl⟩
      · have hk3 := row3 (set3_heap (j := 0) (.slice ga gn gc) .nilIface .nilIface hR)
        simp only [set3, Nat.zero_add] at hk3
        have Hk3 := hide' hk3
        have HBf := hide' ((Below.on (HB.out _ _) Bg.out).grown (set3_grown wg (w.heap.size + 1) 0 (.slice ga gn gc) .nilIface .nilIface) (by have := (Below.on (HB.out _ _) Bg.out).size; omega) (by intro j hj; simp at hj; omega))
        clear hk3 hR
        go_wp2_with fail
        obtain ⟨u0, u1, u2, _⟩ := Hk3.out
        refine bodyPost_ret (v := .tuple #[.agg #[.slice ga gn gc, .nilIface, .nilIface], .bool true]) (by simp [results, Tryz.results20, go_sem, u0, u1, u2]) rfl ?_
        exact ⟨_, _, _, by rw [HF.out], ⟨_, _, _, rfl⟩, .inl rfl, .inl rfl, HBf.out⟩
      · have hk3 := row3 (set3_heap (j := 0) (.slice ga gn gc) .nilIface (.iface pt2 px2) hR)
        simp only [set3, Nat.zero_add] at hk3
        have Hk3 := hide' hk3
        have HBf := hide' ((Below.on (HB.out _ _) Bg.out).grown (set3_grown wg (w.heap.size + 1) 0 (.slice ga gn gc) .nilIface (.iface pt2 px2)) (by have := (Below.on (HB.out _ _) Bg.out).size; omega) (by intro j hj; simp at hj; omega))
        clear hk3 hR
        go_wp2_with fail
        obtain ⟨u0, u1, u2, _⟩ := Hk3.out
        refine bodyPost_ret (v := .tuple #[.agg #[.slice ga gn gc, .nilIface, (.iface pt2 px2)], .bool true]) (by simp [results, Tryz.results20, go_sem, u0, u1, u2]) rfl ?_
        exact ⟨_, _, _, by rw [HF.out], ⟨_, _, _, rfl⟩, .inl rfl, .inr ⟨_, _, rfl⟩, HBf.out⟩
      · have hk3 := row3 (set3_heap (j := 0) (.slice ga gn gc) (.iface pt1 px1) .nilIface hR)
        simp only [set3, Nat.zero_add] at hk3
        have Hk3 := hide' hk3
        have HBf := hide' ((Below.on (HB.out _ _) Bg.out).grown (set3_grown wg (w.heap.size + 1) 0 (.slice ga gn gc) (.iface pt1 px1) .nilIface) (by have := (Below.on (HB.out _ _) Bg.out).size; omega) (by intro j hj; simp at hj; omega))
        clear hk3 hR
        go_wp2_with fail
        obtain ⟨u0, u1, u2, _⟩ := Hk3.out
        refine bodyPost_ret (v := .tuple #[.agg #[.slice ga gn gc, (.iface pt1 px1), .nilIface], .bool true]) (by simp [results, Tryz.results20, go_sem, u0, u1, u2]) rfl ?_
        exact ⟨_, _, _, by rw [HF.out], ⟨_, _, _, rfl⟩, .inr ⟨_, _, rfl⟩, .inl rfl, HBf.out⟩
      · have hk3 := row3 (set3_heap (j := 0) (.slice ga gn gc) (.iface pt1 px1) (.iface pt2 px2) hR)
        simp only [set3, Nat.zero_add] at hk3
        have Hk3 := hide' hk3
        have HBf := hide' ((Below.on (HB.out _ _) Bg.out).grown (set3_grown wg (w.heap.size + 1) 0 (.slice ga gn gc) (.iface pt1 px1) (.iface pt2 px2)) (by have := (Below.on (HB.out _ _) Bg.out).size; omega) (by intro j hj; simp at hj; omega))
        clear hk3 hR
        go_wp2_with fail
        obtain ⟨u0, u1, u2, _⟩ := Hk3.out
        refine bodyPost_ret (v := .tuple #[.agg #[.slice ga gn gc, (.iface pt1 px1), (.iface pt2 px2)], .bool true]) (by simp [results, Tryz.results20, go_sem, u0, u1, u2]) rfl ?_
        exact ⟨_, _, _, by rw [HF.out], ⟨_, _, _, rfl⟩, .inr ⟨_, _, rfl⟩, .inr ⟨_, _, rfl⟩, HBf.out⟩
    | false =>
      go_wp2_with fail
      refine (HK.out _ (Below.on (HB.out _ _) B3.out)).mono ?_
      rintro e w4 ⟨rfl, rfl⟩
      cases eb with
      | false =>
        have HF : Hid (ans = false) := by show _ = _; rw [HOk.out]; rfl
        clear HOk
        have hR := (Hbox.out _ _ _ B3.out).2
        obtain ⟨t0, t1, t2, tf⟩ := row3 hR
        have tf0 := tf 0
        have tf1 := tf 1
        have tf2 := tf 2
        have hk3 := row3 (set3_heap (j := 0) (.slice none 0 0) .nilIface .nilIface hR)
        simp only [set3, Nat.zero_add] at hk3
        have Hk3 := hide' hk3
        have HBf := hide' ((Below.on (HB.out _ _) B3.out).grown (set3_grown w3 (w.heap.size + 1) 0 (.slice none 0 0) .nilIface .nilIface) (by have := (Below.on (HB.out _ _) B3.out).size; omega) (by intro j hj; simp at hj; omega))
        clear hk3 hR tf
        go_wp2_with fail
        obtain ⟨u0, u1, u2, _⟩ := Hk3.out
        refine bodyPost_ret (v := .tuple #[.agg #[.slice none 0 0, .nilIface, .nilIface], .bool false]) (by simp [results, Tryz.results20, go_sem, u0, u1, u2]) rfl ?_
        exact ⟨_, _, _, by rw [HF.out], ⟨_, _, _, rfl⟩, .inl rfl, .inl rfl, HBf.out⟩
      | true =>
        have HF : Hid (ans = true) := by show _ = _; rw [HOk.out]; rfl
        clear HOk x0 x1 x7
        have hX := (Hbox.out _ _ _ B3.out).1
        have x0 := cell_of_row _ _ 0 _ _ _ hX
        simp at x0
        clear hX
        go_wp2_with fail
        refine (HGr.out _ (Below.on (HB.out _ _) B3.out)).mono ?_
        rintro e wg ⟨ga, gn, gc, rfl, bg⟩
        have Bg := hide' (Below.on B3.out bg)
        clear bg x0
        have hR := (Hbox.out _ _ _ Bg.out).2
        obtain ⟨t0, t1, t2, tf⟩ := row3 hR
        have tf0 := tf 0
        have tf1 := tf 1
        have tf2 := tf 2
        clear tf
        rcases hp1 with rfl | ⟨pt1, px1, rfl⟩ <;> rcases hp2 with rfl | ⟨pt2, px2, rfl⟩
        · have hk3 := row3 (set3_heap (j := 0) (.slice ga gn gc) .nilIface .nilIface hR)
          simp only [set3, Nat.zero_add] at hk3
          have Hk3 := hide' hk3
          have HBf := hide' ((Below.on (HB.out _ _) Bg.out).grown (set3_grown wg (w.heap.size + 1) 0 (.slice ga gn gc) .nilIface .nilIface) (by have := (Below.on (HB.out _ _) Bg.out).size; omega) (by intro j hj; simp at hj; omega))
          clear hk3 hR
          go_wp2_with fail
          obtain ⟨u0, u1, u2, _⟩ := Hk3.out
          refine bodyPost_ret (v := .tuple #[.agg #[.slice ga gn gc, .nilIface, .nilIface], .bool true]) (by simp [results, Tryz.results20, go_sem, u0, u1, u2]) rfl ?_
          exact ⟨_, _, _, by rw [HF.out], ⟨_, _, _, rfl⟩, .inl rfl, .inl rfl, HBf.out⟩
        · have hk3 := row3 (set3_heap (j := 0) (.slice ga gn gc) .nilIface (.iface pt2 px2) hR)
          simp only [set3, Nat.zero_add] at hk3
          have Hk3 := hide' hk3
          have HBf := hide' ((Below.on (HB.out _ _) Bg.out).grown (set3_grown wg (w.heap.size + 1) 0 (.slice ga gn gc) .nilIface (.iface pt2 px2)) (by have := (Below.on (HB.out _ _) Bg.out).size; omega) (by intro j hj; simp at hj; omega))
          clear hk3 hR
          go_wp2_with fail
          obtain ⟨u0, u1, u2, _⟩ := Hk3.out
          refine bodyPost_ret (v := .tuple #[.agg #[.slice ga gn gc, .nilIface, (.iface pt2 px2)], .bool true]) (by simp [results, Tryz.results20, go_sem, u0, u1, u2]) rfl ?_
          exact ⟨_, _, _, by rw [HF.out], ⟨_, _, _, rfl⟩, .inl rfl, .inr ⟨_, _, rfl⟩, HBf.out⟩
        · have hk3 := row3 (set3_heap (j := 0) (.slice ga gn gc) (.iface pt1 px1) .nilIface hR)
          simp only [set3, Nat.zero_add] at hk3
          have Hk3 := hide' hk3
          have HBf := hide' ((Below.on (HB.out _ _) Bg.out).grown (set3_grown wg (w.heap.size + 1) 0 (.slice ga gn gc) (.iface pt1 px1) .nilIface) (by have := (Below.on (HB.out _ _) Bg.out).size; omega) (by intro j hj; simp at hj; omega))
          clear hk3 hR
          go_wp2_with fail
          obtain ⟨u0, u1, u2, _⟩ := Hk3.out
          refine bodyPost_ret (v := .tuple #[.agg #[.slice ga gn gc, (.iface pt1 px1), .nilIface], .bool true]) (by simp [results, Tryz.results20, go_sem, u0, u1, u2]) rfl ?_
          exact ⟨_, _, _, by rw [HF.out], ⟨_, _, _, rfl⟩, .inr ⟨_, _, rfl⟩, .inl rfl, HBf.out⟩
        · have hk3 := row3 (set3_heap (j := 0) (.slice ga gn gc) (.iface pt1 px1) (.iface pt2 px2) hR)
          simp only [set3, Nat.zero_add] at hk3
          have Hk3 := hide' hk3
          have HBf := hide' ((Below.on (HB.out _ _) Bg.out).grown (set3_grown wg (w.heap.size + 1) 0 (.slice ga gn gc) (.iface pt1 px1) (.iface pt2 px2)) (by have := (Below.on (HB.out _ _) Bg.out).size; omega) (by intro j hj; simp at hj; omega))
          clear hk3 hR
          go_wp2_with fail
          obtain ⟨u0, u1, u2, _⟩ := Hk3.out
          refine bodyPost_ret (v := .tuple #[.agg #[.slice ga gn gc, (.iface pt1 px1), (.iface pt2 px2)], .bool true]) (by simp [results, Tryz.results20, go_sem, u0, u1, u2]) rfl ?_
          exact ⟨_, _, _, by rw [HF.out], ⟨_, _, _, rfl⟩, .inr ⟨_, _, rfl⟩, .inr ⟨_, _, rfl⟩, HBf.out⟩
end Go.Proofs.YtdhlmcgbgdljmaaGreatDoor
/-
  grown of the program at a path that may be, with nothing more behind it: a path of the call's own that reads the same.
-/
namespace Go.Proofs.YtdhlmcgbgdljmaaGreatDoor
open Go.RowKit
set_option linter.unusedVariables false
set_option linter.unusedSimpArgs false

/-- A path of the call's own, or none. -/
def PthOf (w : World) (v : Value) (l : List Stp) (B : List Nat) : Prop := (l = [] ∧ v = .slice none 0 0 ∧ B = []) ∨ PthOwn w v l B

/-- Item i is the step l[i]. -/
def ItS (l : List Stp) (w : World) (i : Nat) (c : List Value) (B : List Nat) : Prop := ∃ e : Value × Value × Value, c = [e.1, e.2.1, e.2.2] ∧ ∃ h : i < l.length, StOwn w e l[i] B
theorem ItS.agree (l : List Stp) : ∀ w w' i c B, ItS l w i c B → Agree (fun b => b ∈ B) w w' → ItS l w' i c B := by
  rintro w w' i c B ⟨e, rfl, h, hv⟩ ha
  exact ⟨e, rfl, h, hv.agree ha⟩

theorem RW.pown {w : World} {base : Nat} {x : Value} {l : List Stp} {cs : List (List Value)} {Bi : List (List Nat)} (h : RW 70 3 (ItS l) w base x l.length cs Bi) : PthOf w x l (x.ownBlock.toList ++ Bi.flatten) := by
  obtain ⟨h1, h2, h3, h4, h5, h6⟩ := h
  have hl3 : ∀ c ∈ cs, c.length = 3 := by
    intro c hc
    obtain ⟨i, hi, e⟩ := getD_of_mem (z := []) hc
    obtain ⟨e', he, _⟩ := h4 i (by omega)
    rw [← e, he]
    rfl
  rcases h3.2 with ⟨rfl, h0⟩ | ⟨g, cap, cur, rfl, hb, hh, hn, hm, hs, ht⟩
  · have hl0 : l = [] := List.eq_nil_of_length_eq_zero h0
    have hb0 : Bi = [] := List.eq_nil_of_length_eq_zero (by omega)
    subst hl0 hb0
    exact .inl ⟨rfl, rfl, rfl⟩
  · refine .inr ⟨g, cap, cur, Bi, rfl, hh, hn, hm, hs, h2, fun i hi => ?_, rfl, h5⟩
    obtain ⟨e, he, _, hv⟩ := h4 i hi
    have hcell : ∀ j, j < 3 → cur[i * 3 + j]? = ([e.1, e.2.1, e.2.2] : List Value)[j]? := by
      intro j hj
      have hf := flatten_at 3 cs hl3 i (by omega) j hj
      rw [he, ← ht, List.getElem?_take_of_lt (by omega), Array.getElem?_toList] at hf
      exact hf
    exact ⟨e, ⟨hcell 0 (by omega), hcell 1 (by omega), hcell 2 (by omega)⟩, hv⟩

/-- What grown leaves. -/
def GrO (l : List Stp) (w : World) (e : Ending) (w' : World) : Prop := ∃ v B, e = .returned v ∧ PthOf w' v l B ∧ (∀ b ∈ B, w.heap.size ≤ b ∧ b < w'.heap.size) ∧ Below w.heap.size w w'
theorem GrO.mk {l : List Stp} {w w' : World} {v : Value} {B : List Nat} (h1 : PthOf w' v l B) (h2 : ∀ b ∈ B, w.heap.size ≤ b ∧ b < w'.heap.size) (h3 : Below w.heap.size w w') : GrO l w (.returned v) w' := ⟨v, B, rfl, h1, h2, h3⟩

set_option maxHeartbeats 6400000 in
set_option maxRecDepth 100000 in
theorem grownO_any (N n p : Nat) (a : Option Addr) (l : List Stp) (w : World) (hx : PthSeg (fun b => b < N) w (.slice a n p) l) (hN : N ≤ w.heap.size) (hp : pathB l = true) :
    Calls Tryz.prog 45 #[.slice a n p, .slice none 0 0] w (GrO l w) := by
  obtain ⟨i0, hi0, hz0, hz1, hz2⟩ := info_parts infoP
  obtain ⟨_, _, e1, q1, q2, _⟩ := id hx
  simp only [Value.slice.injEq] at e1
  obtain ⟨-, hn, rfl⟩ := e1
  have hp' : l.length ≤ 6 ∧ l.all stpB = true := by unfold pathB at hp; simpa using hp
  have h6 : n ≤ 6 := by omega
  have HA1 : Hid (∀ o : Obj, Below w.heap.size w (w.alloc o)) := fun o => (Below.refl _ _).alloc (Nat.le_refl _) o
  have HC : Hid (∀ o : Obj, o = .cells #[.slice a n p, .slice none 0 0] 32 → Calls Tryz.prog 64 #[.slice (some ⟨w.heap.size, 0, none⟩) 2 2] (w.alloc o) (CatEnd N n l (w.alloc o))) := fun o e => by
    subst e
    exact concat_any N w.heap.size n p a l _ (MapKept.heap_alloc w _).1 (hx.agree (agree_below ((HA1.out _).mono hN))) (by have := (HA1.out (.cells #[.slice a n p, .slice none 0 0] 32)).size; omega) h6
  have HAll := hide' hp'.2
  have Hn := hide' hn
  clear hp hp' hx q1 q2 hn
  go_enter Tryz.func45, Tryz.ntmps45
  go_wp2_with fail
  refine (HC.out _ rfl).mono ?_
  rintro e w1 ⟨v, cs, rfl, hO, hCs, b1⟩
  have B1 := hide' (Below.on (HA1.out _) b1)
  obtain ⟨va, vc, rfl⟩ : ∃ a c, v = .slice a n c := by
    rcases hO.2 with ⟨rfl, rfl⟩ | ⟨g, cap, cur, rfl, _⟩
    · exact ⟨_, _, rfl⟩
    · exact ⟨_, _, rfl⟩
  have HO := hide' hO
  have HS : Hid (∀ (k : Nat) (hk : k < l.length), ∃ c0 c1 c2, cs[k * 3]? = some c0 ∧ cs[k * 3 + 1]? = some c1 ∧ cs[k * 3 + 2]? = some c2 ∧ StSeg (fun b => b < N) w1 (c0, c1, c2) l[k]) := fun k hk => by
    obtain ⟨c0, c1, c2, e0, e1, e2, h3⟩ := hCs k hk
    exact ⟨c0, c1, c2, e0, e1, e2, h3.agree (fun b hb => b1.block b (by have := (HA1.out (.cells #[.slice a n p, .slice none 0 0] 32)).size; omega))⟩
  have hz1w := b1.size
  have hNw1 : N ≤ w1.heap.size := by have := B1.out.size; omega
  clear hO hCs b1 HC
  go_wp2
  go_loopw [5, 13] (fun x i wr => ∃ k : Nat, k ≤ n ∧ i = .int .i64 k ∧ Hid (∃ ys Bi, RW 70 3 (ItS l) wr w1.heap.size x k ys Bi ∧ Below w1.heap.size w1 wr)) (fun _ i _ => n - (intOf i).toNat)
  case atStart => exact ⟨0, Nat.zero_le _, rfl, [], [], RW.nil _ _ _ _ _, Below.refl _ _⟩
  case round =>
    obtain ⟨k, hk, rfl, hR⟩ := hrel
    obtain ⟨ys, Bi, hRW, hbel⟩ := hR.out
    have hrow := hRW.2.2.1
    generalize hxs : ys.flatten = xs at hrow
    obtain ⟨xa, xc, rfl⟩ : ∃ a c, u5 = .slice a k c := by
      rcases hrow.2 with ⟨rfl, rfl⟩ | ⟨g, cap, cur, rfl, _⟩
      · exact ⟨_, _, rfl⟩
      · exact ⟨_, _, rfl⟩
    by_cases hlt : k < n
    · have hlt' : (k : Int) < (n : Int) := by omega
      have hkl : k < l.length := by have := Hn.out; omega
      obtain ⟨g, gc, ev, hg1, _, hcell⟩ := row_cells HO.out (by omega)
      simp only [Value.slice.injEq, true_and] at ev
      obtain ⟨rfl, rfl⟩ := ev
      obtain ⟨c0, c1, c2, e0, e1, e2, ⟨s0, st, s2⟩⟩ := HS.out k hkl
      simp only at s0 s2 st
      subst s0 s2
      have hlen := key_short (all_at HAll.out hkl)
      obtain ⟨ka, kp, rfl, sg, hk1, hk2, hk3, _⟩ := st
      have r0 : wr.cell? ⟨g, k * 3, none⟩ = _ := (World.cell?_of_block (a := ⟨g, k * 3, none⟩) (hbel.block g hg1)).trans (hcell _ _ e0)
      have r1 : wr.cell? ⟨g, k * 3 + 1, none⟩ = _ := (World.cell?_of_block (a := ⟨g, k * 3 + 1, none⟩) (hbel.block g hg1)).trans (hcell _ _ e1)
      have r2 : wr.cell? ⟨g, k * 3 + 2, none⟩ = _ := (World.cell?_of_block (a := ⟨g, k * 3 + 2, none⟩) (hbel.block g hg1)).trans (hcell _ _ e2)
      generalize ekk : (l[k]).1 = kk at *
      generalize eki : (l[k]).2.2 = ki at *
      have sgr := hide' (sg.grow hbel)
      generalize ess : (l[k]).2.1 = ss at *
      generalize hsl : ss.length = sl at *
      have Hsl := hide' hsl
      have hbox : Hid (∀ w6, (wr.alloc (.cells #[.int .i64 kk, .slice ka sl kp, .int .i64 ki] 70)).grownBy w6 none → w6.heap[wr.heap.size]? = some (.cells #[.int .i64 kk, .slice ka sl kp, .int .i64 ki] 70 (0, 0))) := fun w6 h => (h.block wr.heap.size (by simp) (by simp)).trans (MapKept.heap_alloc wr _).1
      have HA : Hid (Below wr.heap.size wr (wr.alloc (.cells #[.int .i64 kk, .slice ka sl kp, .int .i64 ki] 70))) := (Below.refl _ _).alloc (Nat.le_refl _) _
      have hseg := hide' (sgr.out.grow HA.out)
      have hsz1 : wr.heap.size + 1 ≤ (wr.alloc (.cells #[.int .i64 kk, .slice ka sl kp, .int .i64 ki] 70)).heap.size := by simp
      have HRow : Hid (∀ w6 v6, (wr.alloc (.cells #[.int .i64 kk, .slice ka sl kp, .int .i64 ki] 70)).grownBy w6 none → (w6.setCell ⟨wr.heap.size, 1, none⟩ v6).ownsRow w1.heap.size 70 3 (.slice xa k xc) k xs ∧ Below w1.heap.size w1 (w6.setCell ⟨wr.heap.size, 1, none⟩ v6) ∧ w1.heap.size ≤ (w6.setCell ⟨wr.heap.size, 1, none⟩ v6).heap.size) := fun w6 v6 hg => by
        have t1 := World.ownsRow.alloc hrow (.cells #[.int .i64 kk, .slice ka sl kp, .int .i64 ki] 70)
        have t2 := World.ownsRow.kept t1 hg (by cases (Value.slice xa k xc).ownBlock <;> simp)
        have gS := grown1 w6 wr.heap.size 1 v6
        have t3 := World.ownsRow.kept t2 gS (by
          cases hv : (Value.slice xa k xc).ownBlock with
          | none => simp
          | some b => right; intro e; have := (hrow.lt b hv).2; simp at e; omega)
        have z1 := hbel.size
        have b2 : Below w1.heap.size w1 w6 := (hbel.trans (HA.out.mono hbel.size)).grown hg (by have := HA.out.size; omega) (fun k hk => by simp at hk)
        have b3 := b2.grown gS b2.size (fun j hj => by simp at hj; omega)
        exact ⟨t3, b3, b3.size⟩
      have HAdd : Hid (∀ w6 v6 B g7 cp7 w7, (wr.alloc (.cells #[.int .i64 kk, .slice ka sl kp, .int .i64 ki] 70)).grownBy w6 none → TOwn w6 v6 ss B → (∀ b ∈ B, wr.heap.size + 1 ≤ b ∧ b < w6.heap.size) → B.Nodup → w7.ownsRow w1.heap.size 70 3 (.slice (some ⟨g7, 0, none⟩) (k + 1) cp7) (k + 1) (xs ++ [.int .i64 kk, v6, .int .i64 ki]) → ((w6.setCell ⟨wr.heap.size, 1, none⟩ v6).alloc (.cells #[.int .i64 kk, v6, .int .i64 ki] 70)).grownBy w7 (Value.slice xa k xc).ownBlock → ((Value.slice xa k xc).ownBlock = some g7 ∨ g7 = ((w6.setCell ⟨wr.heap.size, 1, none⟩ v6).alloc (.cells #[.int .i64 kk, v6, .int .i64 ki] 70)).heap.size) → ∃ ys Bi, RW 70 3 (ItS l) w7 w1.heap.size (.slice (some ⟨g7, 0, none⟩) (k + 1) cp7) (k + 1) ys Bi ∧ Below w1.heap.size w1 w7) := fun w6 v6 B g7 cp7 w7 hg hT hB hBn ho hg7 hat => by
        have gS := grown1 w6 wr.heap.size 1 v6
        have b6 : Below wr.heap.size wr w6 := HA.out.grown hg HA.out.size (fun k hk => by simp at hk)
        have b6' : Below wr.heap.size wr (w6.setCell ⟨wr.heap.size, 1, none⟩ v6) := b6.grown gS b6.size (fun j hj => by simp at hj; omega)
        have b7 : Below wr.heap.size wr ((w6.setCell ⟨wr.heap.size, 1, none⟩ v6).alloc (.cells #[.int .i64 kk, v6, .int .i64 ki] 70)) := b6'.alloc b6'.size _
        have zS : (w6.setCell ⟨wr.heap.size, 1, none⟩ v6).heap.size = w6.heap.size := by simp [World.setCell]
        have hT7 : TOwn ((w6.setCell ⟨wr.heap.size, 1, none⟩ v6).alloc (.cells #[.int .i64 kk, v6, .int .i64 ki] 70)) v6 ss B := hT.agree fun b hb => (Below.heap_alloc _ _ _ (by have := hB b hb; omega)).trans (Below.heap_setCell _ _ _ _ (by have := hB b hb; show b ≠ wr.heap.size; omega))
        rw [← hxs] at ho
        have hbz := hbel.size
        refine ⟨_, _, RW.add (ItS.agree l) hRW (fun b hb => b7.block b hb) b7.size ⟨(.int .i64 kk, v6, .int .i64 ki), rfl, hkl, ⟨by rw [ekk], by rw [ess]; exact hT7, by rw [eki]⟩⟩ (fun b hb => by have := hB b hb; simp; omega) hBn (by omega) ho hg7 hat, ?_⟩
        have b17 := hbel.trans (b7.mono hbel.size)
        exact b17.grown hg7 b17.size (fun j hj => (hRW.2.2.1.lt j hj).1)
      clear hrow hbel hcell e0 e1 e2 sg hR HS hsl sgr hRW hxs ekk eki ess
      go_wp2_with (at_builtin; first
        | (refine wpList_append_seg rfl (.const (.slice none 0 0)) (.tmp 18) (by rfl) (wr.heap.size + 1) (.slice none 0 0) [] ss (by rfl) (bts_nil _ _) ka sl kp Hsl.out.symm (by rfl) hseg.out hk3 (by have := Hsl.out; simp; omega) hsz1 ?_; intro v6 w6 hB6 hg6; obtain ⟨B6, hT6, hB6b, hB6n⟩ := tOwn_of hB6; obtain ⟨ya, yc, rfl, _⟩ := hB6.shape; obtain ⟨y0, y1, y2, yf⟩ := row3 (hbox.out w6 hg6); have yf1 := yf 1; have hRw := hide' (HRow.out w6 (.slice ya (([] : List Int) ++ ss).length yc) hg6); simp only [List.nil_append] at hT6; have HTo := hide' (And.intro hT6 (And.intro hB6b (And.intro hB6n hg6))); clear hB6 hg6 yf hT6 hB6b hB6n; simp only [List.nil_append] at hRw HTo ⊢; generalize ss.length = yl at *)
        | (refine wpList_append_lies _ rfl (.tmp 21) (.tmp 23) 32 (by rfl) w1.heap.size 70 i0 _ 3 40 Tryz.underlying32 hi0 hz0 hz1 hz2 rfl (by decide) (.slice xa k xc) k xs (by rfl) (hRw.out.1.alloc _) ⟨w6.heap.size, 0, none⟩ 1 1 [.int .i64 kk, .slice ya yl yc, .int .i64 ki] (by rfl) (by rfl) (World.news_of_block (cs := #[.int .i64 kk, .slice ya yl yc, .int .i64 ki]) (t := 70) (fr := (0, 0)) (by have := heap_alloc_new (w6.setCell ⟨wr.heap.size, 1, none⟩ (.slice ya yl yc)) (.cells #[.int .i64 kk, .slice ya yl yc, .int .i64 ki] 70); rw [show (w6.setCell ⟨wr.heap.size, 1, none⟩ (.slice ya yl yc)).heap.size = w6.heap.size from (by simp [World.setCell])] at this; exact this)) (by simp [Value.oneCell']) (by omega) (by unfold maxLen; omega) (by omega) (Nat.le_trans hRw.out.2.2 (by simp)) _ rfl ?_; intro g7 cp7 w7 hown7 hg7 hat7 hlt7; have hN7 := hide' (HAdd.out w6 _ B6 g7 cp7 w7 HTo.out.2.2.2 HTo.out.1 HTo.out.2.1 HTo.out.2.2.1 hown7 hg7 hat7); clear hown7 hg7 hat7 hlt7))
      go_wp2
      go_roundw
      case rel => exact ⟨k + 1, by omega, by go_num, hN7⟩
      case measure => simp [intOf]; omega
    · have hlt' : ¬ (k : Int) < (n : Int) := by omega
      have hkn : k = l.length := by have := Hn.out; omega
      have BF := hide' (Below.on B1.out hbel)
      have hz9 := B1.out.size
      have HR : Hid (∃ B, PthOf wr (.slice xa k xc) l B ∧ ∀ b ∈ B, w.heap.size ≤ b ∧ b < wr.heap.size) := by
        have h9 := hRW
        rw [hkn] at h9 ⊢
        exact ⟨_, h9.pown, fun b hb => by have := h9.2.2.2.2.2 b hb; omega⟩
      clear hrow hbel hR hRW hkn
      go_wp2
      go_ret
      obtain ⟨B, h1, h2⟩ := HR.out
      exact GrO.mk h1 h2 BF.out
end Go.Proofs.YtdhlmcgbgdljmaaGreatDoor
