/-
  Texts that a law leans on, one behind the other; no statement is proved here.
-/
import Derived.Test.YtcepgdlnlmhecaaPk9
import Derived.Deep.RegionHeld3
/-
  editOf of the program: it takes a change in just where it may be, alone.
-/
namespace Go.Proofs.Ytcepgdlnlmhecaa
open Go.RowKit
set_option linter.unusedVariables false
set_option linter.unusedSimpArgs false

def IsIf (p : Value) : Prop := p = .nilIface ∨ ∃ t x, p = .iface t x
def sdB (d : Nat) (had : Bool) (v : Vl d) : Bool := okB d v && (had || decide (kdV d v = 0))

theorem side_all (d N : Nat) (had : Bool) (c0 c1 c2 c3 c4 : Value) (v : Vl d) (w : World) (hv : VSeg (fun b => b < N) w d (c0, c1, c2, c3, c4) v) (hN : N ≤ w.heap.size) :
    Calls Try.prog 42 #[.bool had, .agg #[c0, c1, c2, c3, c4]] w fun e w' => ∃ p, e = .returned (.tuple #[p, .bool (sdB d had v)]) ∧ IsIf p ∧ Below w.heap.size w w' := by
  cases had with
  | false =>
    refine (sideOf_no d N c0 c1 c2 c3 c4 v w hv hN).mono ?_
    rintro e w' ⟨rfl, b⟩
    exact ⟨_, by simp [sdB], .inl rfl, b⟩
  | true =>
    refine (sideOf_yes d N c0 c1 c2 c3 c4 v w hv hN).mono ?_
    rintro e w' ⟨b, ⟨p, rfl, hok, hp⟩ | ⟨rfl, hno⟩⟩
    · exact ⟨_, by simp [sdB, hok], .inr hp.shape, b⟩
    · exact ⟨_, by simp [sdB, hno], .inl rfl, b⟩

/-- What editOf leaves. -/
def EdEnd (d : Nat) (x : Chg d) (w : World) (e : Ending) (w' : World) : Prop := ∃ p0 p1 p2, e = .returned (.tuple #[.agg #[p0, p1, p2], .bool (okC d x)]) ∧ (∃ a n c, p0 = .slice a n c) ∧ IsIf p1 ∧ IsIf p2 ∧ Below w.heap.size w w'

set_option maxHeartbeats 6400000 in
set_option maxRecDepth 100000 in
theorem editOf_any (d N : Nat) (cs : List Value) (x : Chg d) (w : World) (h : CSg (fun b => b < N) w d cs x) (hN : N ≤ w.heap.size) :
    Calls Try.prog 27 #[.agg cs.toArray] w (EdEnd d x w) := by
  unfold EdEnd
  obtain ⟨pa, pc, ok, on, o2, ol2, op2, o3, ol3, op3, o4, ol4, op4, nk, nn, n2, nl2, np2, n3, nl3, np3, n4, nl4, np4, rfl, ht, hv, hu⟩ := h.form
  obtain ⟨pth, had, old, has, new⟩ := x
  simp only at ht hv hu ⊢
  have HB : Hid (∀ o o' : Obj, Below w.heap.size w ((w.alloc o).alloc o')) := fun o o' => ((Below.refl _ _).alloc (Nat.le_refl _) o).alloc (by simp) o'
  have Hbox : Hid (∀ o o' wx, Below ((w.alloc o).alloc o').heap.size ((w.alloc o).alloc o') wx → wx.heap[w.heap.size]? = some o ∧ wx.heap[w.heap.size + 1]? = some o') := fun o o' wx h => ⟨(h.block _ (by simp; omega)).trans (two_boxes w o o').1, (h.block _ (by simp)).trans (two_boxes w o o').2⟩
  have hA : ∀ wx, Below w.heap.size w wx → Agree (fun b => b < N) w wx := fun wx hb => agree_below (hb.mono hN)
  have HV : Hid (∀ wx, Below w.heap.size w wx → Calls Try.prog 42 #[.bool had, .agg #[.int .i64 ok, .int .i64 on, .slice o2 ol2 op2, .slice o3 ol3 op3, .slice o4 ol4 op4]] wx fun e w' => ∃ p, e = .returned (.tuple #[p, .bool (sdB d had old)]) ∧ IsIf p ∧ Below wx.heap.size wx w') := fun wx hb => side_all d N had _ _ _ _ _ old wx (VSeg.agree (hA wx hb) d hv) (by have := hb.size; omega)
  have HU : Hid (∀ wx, Below w.heap.size w wx → Calls Try.prog 42 #[.bool has, .agg #[.int .i64 nk, .int .i64 nn, .slice n2 nl2 np2, .slice n3 nl3 np3, .slice n4 nl4 np4]] wx fun e w' => ∃ p, e = .returned (.tuple #[p, .bool (sdB d has new)]) ∧ IsIf p ∧ Below wx.heap.size wx w') := fun wx hb => side_all d N has _ _ _ _ _ new wx (VSeg.agree (hA wx hb) d hu) (by have := hb.size; omega)
  have HP : Hid (∀ wx, Below w.heap.size w wx → Calls Try.prog 43 #[.slice pa pth.length pc] wx fun e w' => e = .returned (.bool (pathB pth)) ∧ Below wx.heap.size wx w') := fun wx hb => impl_PathOk_any N _ pth wx (ht.agree (hA wx hb)) (by have := hb.size; omega)
  have HK : Hid (∀ wx, Below w.heap.size w wx → Calls Try.prog 44 #[.slice pa pth.length pc] wx fun e w' => e = .returned (.bool (endB pth)) ∧ wx = w') := fun wx hb => endsWithKey_any N pa _ pc pth wx (ht.agree (hA wx hb)) (by have := hb.size; omega)
  have HG : Hid (pathB pth = true → ∀ wx, Below w.heap.size w wx → Calls Try.prog 45 #[.slice pa pth.length pc, .slice none 0 0] wx fun e w' => ∃ va vn vc, e = .returned (.slice va vn vc) ∧ Below wx.heap.size wx w') := fun hp wx hb => grown_any N _ pc pa pth wx (ht.agree (hA wx hb)) (by have := hb.size; omega) hp
  have HOk : Hid (okC d (pth, had, old, has, new) = (pathB pth && (sdB d had old && (sdB d has new && ((had || has) && (had == has || endB pth)))))) := by
    show _ = _
    unfold okC sdB
    simp only
    cases pathB pth <;> cases okB d old <;> cases okB d new <;> cases had <;> cases has <;> simp
  generalize okC d (pth, had, old, has, new) = ans at *
  clear ht hv hu h hA
  generalize sdB d had old = s1 at *
  generalize sdB d has new = s2 at *
  generalize pathB pth = pb at *
  generalize endB pth = eb at *
  generalize pth.length = pl at *
  go_enter Try.func27, Try.ntmps27
  go_wp2_with fail
  refine (HV.out _ (HB.out _ _)).mono ?_
  rintro e w1 ⟨p1, rfl, hp1, b1⟩
  have B1 := hide' b1
  have hX := (Hbox.out _ _ _ B1.out).1
  have u7 := cell_of_row _ _ 7 _ _ _ hX
  have u8 := cell_of_row _ _ 8 _ _ _ hX
  have u9 := cell_of_row _ _ 9 _ _ _ hX
  have u10 := cell_of_row _ _ 10 _ _ _ hX
  have u11 := cell_of_row _ _ 11 _ _ _ hX
  have u12 := cell_of_row _ _ 12 _ _ _ hX
  simp at u7 u8 u9 u10 u11 u12
  clear hX b1 HV
  go_wp2_with fail
  refine (HU.out _ (Below.on (HB.out _ _) B1.out)).mono ?_
  rintro e w2 ⟨p2, rfl, hp2, b2⟩
  have B2 := hide' (Below.on B1.out b2)
  clear b2 HU u7 u8 u9 u10 u11 u12 B1
  cases s1 with
  | false =>
    have HF : Hid (ans = false) := by show _ = _; rw [HOk.out]; simp
    clear HOk
    have hR := (Hbox.out _ _ _ B2.out).2
    obtain ⟨t0, t1, t2, tf⟩ := row3 hR
    have tf0 := tf 0
    have tf1 := tf 1
    have tf2 := tf 2
    have hk3 := row3 (set3_heap (j := 0) (.slice none 0 0) .nilIface .nilIface hR)
    simp only [set3, Nat.zero_add] at hk3
    have Hk3 := hide' hk3
    have HBf := hide' ((Below.on (HB.out _ _) B2.out).grown (set3_grown w2 (w.heap.size + 1) 0 (.slice none 0 0) .nilIface .nilIface) (by have := (Below.on (HB.out _ _) B2.out).size; omega) (by intro j hj; simp at hj; omega))
    clear hk3 hR tf
    go_wp2_with fail
    obtain ⟨u0, u1, u2, _⟩ := Hk3.out
    refine bodyPost_ret (v := .tuple #[.agg #[.slice none 0 0, .nilIface, .nilIface], .bool false]) (by simp [results, Try.results27, go_sem, u0, u1, u2]) rfl ?_
    exact ⟨_, _, _, by rw [HF.out], ⟨_, _, _, rfl⟩, .inl rfl, .inl rfl, HBf.out⟩
  | true =>
  cases s2 with
  | false =>
    have HF : Hid (ans = false) := by show _ = _; rw [HOk.out]; simp
    clear HOk
    have hR := (Hbox.out _ _ _ B2.out).2
    obtain ⟨t0, t1, t2, tf⟩ := row3 hR
    have tf0 := tf 0
    have tf1 := tf 1
    have tf2 := tf 2
    have hk3 := row3 (set3_heap (j := 0) (.slice none 0 0) .nilIface .nilIface hR)
    simp only [set3, Nat.zero_add] at hk3
    have Hk3 := hide' hk3
    have HBf := hide' ((Below.on (HB.out _ _) B2.out).grown (set3_grown w2 (w.heap.size + 1) 0 (.slice none 0 0) .nilIface .nilIface) (by have := (Below.on (HB.out _ _) B2.out).size; omega) (by intro j hj; simp at hj; omega))
    clear hk3 hR tf
    go_wp2_with fail
    obtain ⟨u0, u1, u2, _⟩ := Hk3.out
    refine bodyPost_ret (v := .tuple #[.agg #[.slice none 0 0, .nilIface, .nilIface], .bool false]) (by simp [results, Try.results27, go_sem, u0, u1, u2]) rfl ?_
    exact ⟨_, _, _, by rw [HF.out], ⟨_, _, _, rfl⟩, .inl rfl, .inl rfl, HBf.out⟩
  | true =>
  have hX := (Hbox.out _ _ _ B2.out).1
  have x0 := cell_of_row _ _ 0 _ _ _ hX
  simp at x0
  clear hX
  go_wp2_with fail
  refine (HP.out _ (Below.on (HB.out _ _) B2.out)).mono ?_
  rintro e w3 ⟨rfl, b3⟩
  have B3 := hide' (Below.on B2.out b3)
  clear b3 x0 B2 HP
  cases pb with
  | false =>
    have HF : Hid (ans = false) := by show _ = _; rw [HOk.out]; simp
    clear HOk
    have hR := (Hbox.out _ _ _ B3.out).2
    obtain ⟨t0, t1, t2, tf⟩ := row3 hR
    have tf0 := tf 0
    have tf1 := tf 1
    have tf2 := tf 2
    have hk3 := row3 (set3_heap (j := 0) (.slice none 0 0) .nilIface .nilIface hR)
    simp only [set3, Nat.zero_add] at hk3
    have Hk3 := hide' hk3
    have HBf := hide' ((Below.on (HB.out _ _) B3.out).grown (set3_grown w3 (w.heap.size + 1) 0 (.slice none 0 0) .nilIface .nilIface) (by have := (Below.on (HB.out _ _) B3.out).size; omega) (by intro j hj; simp at hj; omega))
    clear hk3 hR tf
    go_wp2_with fail
    obtain ⟨u0, u1, u2, _⟩ := Hk3.out
    refine bodyPost_ret (v := .tuple #[.agg #[.slice none 0 0, .nilIface, .nilIface], .bool false]) (by simp [results, Try.results27, go_sem, u0, u1, u2]) rfl ?_
    exact ⟨_, _, _, by rw [HF.out], ⟨_, _, _, rfl⟩, .inl rfl, .inl rfl, HBf.out⟩
  | true =>
  have HGr := hide' (HG.out rfl)
  clear HG
  have hX := (Hbox.out _ _ _ B3.out).1
  have x0 := cell_of_row _ _ 0 _ _ _ hX
  have x1 := cell_of_row _ _ 1 _ _ _ hX
  have x7 := cell_of_row _ _ 7 _ _ _ hX
  simp at x0 x1 x7
  clear hX
  cases had with
  | false =>
    cases has with
    | false =>
      have HF : Hid (ans = false) := by show _ = _; rw [HOk.out]; simp
      clear HOk
      have hR := (Hbox.out _ _ _ B3.out).2
      obtain ⟨t0, t1, t2, tf⟩ := row3 hR
      have tf0 := tf 0
      have tf1 := tf 1
      have tf2 := tf 2
      have hk3 := row3 (set3_heap (j := 0) (.slice none 0 0) .nilIface .nilIface hR)
      simp only [set3, Nat.zero_add] at hk3
      have Hk3 := hide' hk3
      have HBf := hide' ((Below.on (HB.out _ _) B3.out).grown (set3_grown w3 (w.heap.size + 1) 0 (.slice none 0 0) .nilIface .nilIface) (by have := (Below.on (HB.out _ _) B3.out).size; omega) (by intro j hj; simp at hj; omega))
      clear hk3 hR tf
      go_wp2_with fail
      obtain ⟨u0, u1, u2, _⟩ := Hk3.out
      refine bodyPost_ret (v := .tuple #[.agg #[.slice none 0 0, .nilIface, .nilIface], .bool false]) (by simp [results, Try.results27, go_sem, u0, u1, u2]) rfl ?_
      exact ⟨_, _, _, by rw [HF.out], ⟨_, _, _, rfl⟩, .inl rfl, .inl rfl, HBf.out⟩
    | true =>
      go_wp2_with fail
      refine (HK.out _ (Below.on (HB.out _ _) B3.out)).mono ?_
      rintro e w4 ⟨rfl, rfl⟩
      cases eb with
      | false =>
        have HF : Hid (ans = false) := by show _ = _; rw [HOk.out]; rfl
        clear HOk
        have hR := (Hbox.out _ _ _ B3.out).2
        obtain ⟨t0, t1, t2, tf⟩ := row3 hR
        have tf0 := tf 0
        have tf1 := tf 1
        have tf2 := tf 2
        have hk3 := row3 (set3_heap (j := 0) (.slice none 0 0) .nilIface .nilIface hR)
        simp only [set3, Nat.zero_add] at hk3
        have Hk3 := hide' hk3
        have HBf := hide' ((Below.on (HB.out _ _) B3.out).grown (set3_grown w3 (w.heap.size + 1) 0 (.slice none 0 0) .nilIface .nilIface) (by have := (Below.on (HB.out _ _) B3.out).size; omega) (by intro j hj; simp at hj; omega))
        clear hk3 hR tf
        go_wp2_with fail
        obtain ⟨u0, u1, u2, _⟩ := Hk3.out
        refine bodyPost_ret (v := .tuple #[.agg #[.slice none 0 0, .nilIface, .nilIface], .bool false]) (by simp [results, Try.results27, go_sem, u0, u1, u2]) rfl ?_
        exact ⟨_, _, _, by rw [HF.out], ⟨_, _, _, rfl⟩, .inl rfl, .inl rfl, HBf.out⟩
      | true =>
        have HF : Hid (ans = true) := by show _ = _; rw [HOk.out]; rfl
        clear HOk x0 x1 x7
        have hX := (Hbox.out _ _ _ B3.out).1
        have x0 := cell_of_row _ _ 0 _ _ _ hX
        simp at x0
        clear hX
        go_wp2_with fail
        refine (HGr.out _ (Below.on (HB.out _ _) B3.out)).mono ?_
        rintro e wg ⟨ga, gn, gc, rfl, bg⟩
        have Bg := hide' (Below.on B3.out bg)
        clear bg x0
        have hR := (Hbox.out _ _ _ Bg.out).2
        obtain ⟨t0, t1, t2, tf⟩ := row3 hR
        have tf0 := tf 0
        have tf1 := tf 1
        have tf2 := tf 2
        clear tf
        rcases hp1 with rfl | ⟨pt1, px1, rfl⟩ <;> rcases hp2 with rfl | ⟨pt2, px2, rfl⟩
        · have hk3 := row3 (set3_heap (j := 0) (.slice ga gn gc) .nilIface .nilIface hR)
          simp only [set3, Nat.zero_add] at hk3
          have Hk3 := hide' hk3
          have HBf := hide' ((Below.on (HB.out _ _) Bg.out).grown (set3_grown wg (w.heap.size + 1) 0 (.slice ga gn gc) .nilIface .nilIface) (by have := (Below.on (HB.out _ _) Bg.out).size; omega) (by intro j hj; simp at hj; omega))
          clear hk3 hR
          go_wp2_with fail
          obtain ⟨u0, u1, u2, _⟩ := Hk3.out
          refine bodyPost_ret (v := .tuple #[.agg #[.slice ga gn gc, .nilIface, .nilIface], .bool true]) (by simp [results, Try.results27, go_sem, u0, u1, u2]) rfl ?_
          exact ⟨_, _, _, by rw [HF.out], ⟨_, _, _, rfl⟩, .inl rfl, .inl rfl, HBf.out⟩
        · have hk3 := row3 (set3_heap (j := 0) (.slice ga gn gc) .nilIface (.iface pt2 px2) hR)
          simp only [set3, Nat.zero_add] at hk3
          have Hk3 := hide' hk3
          have HBf := hide' ((Below.on (HB.out _ _) Bg.out).grown (set3_grown wg (w.heap.size + 1) 0 (.slice ga gn gc) .nilIface (.iface pt2 px2)) (by have := (Below.on (HB.out _ _) Bg.out).size; omega) (by intro j hj; simp at hj; omega))
          clear hk3 hR
          go_wp2_with fail
          obtain ⟨u0, u1, u2, _⟩ := Hk3.out
          refine bodyPost_ret (v := .tuple #[.agg #[.slice ga gn gc, .nilIface, (.iface pt2 px2)], .bool true]) (by simp [results, Try.results27, go_sem, u0, u1, u2]) rfl ?_
          exact ⟨_, _, _, by rw [HF.out], ⟨_, _, _, rfl⟩, .inl rfl, .inr ⟨_, _, rfl⟩, HBf.out⟩
        · have hk3 := row3 (set3_heap (j := 0) (.slice ga gn gc) (.iface pt1 px1) .nilIface hR)
          simp only [set3, Nat.zero_add] at hk3
          have Hk3 := hide' hk3
          have HBf := hide' ((Below.on (HB.out _ _) Bg.out).grown (set3_grown wg (w.heap.size + 1) 0 (.slice ga gn gc) (.iface pt1 px1) .nilIface) (by have := (Below.on (HB.out _ _) Bg.out).size; omega) (by intro j hj; simp at hj; omega))
          clear hk3 hR
          go_wp2_with fail
          obtain ⟨u0, u1, u2, _⟩ := Hk3.out
          refine bodyPost_ret (v := .tuple #[.agg #[.slice ga gn gc, (.iface pt1 px1), .nilIface], .bool true]) (by simp [results, Try.results27, go_sem, u0, u1, u2]) rfl ?_
          exact ⟨_, _, _, by rw [HF.out], ⟨_, _, _, rfl⟩, .inr ⟨_, _, rfl⟩, .inl rfl, HBf.out⟩
        · have hk3 := row3 (set3_heap (j := 0) (.slice ga gn gc) (.iface pt1 px1) (.iface pt2 px2) hR)
          simp only [set3, Nat.zero_add] at hk3
          have Hk3 := hide' hk3
          have HBf := hide' ((Below.on (HB.out _ _) Bg.out).grown (set3_grown wg (w.heap.size + 1) 0 (.slice ga gn gc) (.iface pt1 px1) (.iface pt2 px2)) (by have := (Below.on (HB.out _ _) Bg.out).size; omega) (by intro j hj; simp at hj; omega))
          clear hk3 hR
          go_wp2_with fail
          obtain ⟨u0, u1, u2, _⟩ := Hk3.out
          refine bodyPost_ret (v := .tuple #[.agg #[.slice ga gn gc, (.iface pt1 px1), (.iface pt2 px2)], .bool true]) (by simp [results, Try.results27, go_sem, u0, u1, u2]) rfl ?_
          exact ⟨_, _, _, by rw [HF.out], ⟨_, _, _, rfl⟩, .inr ⟨_, _, rfl⟩, .inr ⟨_, _, rfl⟩, HBf.out⟩
  | true =>
    cases has with
    | true =>
      have HF : Hid (ans = true) := by show _ = _; rw [HOk.out]; rfl
      clear HOk
      have hX := (Hbox.out _ _ _ B3.out).1
      have x0 := cell_of_row _ _ 0 _ _ _ hX
      simp at x0
      clear hX
      go_wp2_with fail
      refine (HGr.out _ (Below.on (HB.out _ _) B3.out)).mono ?_
      rintro e wg ⟨ga, gn, gc, rfl, bg⟩
      have Bg := hide' (Below.on B3.out bg)
      clear bg x0
      have hR := (Hbox.out _ _ _ Bg.out).2
      obtain ⟨t0, t1, t2, tf⟩ := row3 hR
      have tf0 := tf 0
      have tf1 := tf 1
      have tf2 := tf 2
      clear tf
      rcases hp1 with rfl | ⟨pt1, px1, rfl⟩ <;> rcases hp2 with rfl | ⟨pt2, px2, rfl⟩
      · have hk3 := row3 (set3_heap (j := 0) (.slice ga gn gc) .nilIface .nilIface hR)
        simp only [set3, Nat.zero_add] at hk3
        have Hk3 := hide' hk3
        have HBf := hide' ((Below.on (HB.out _ _) Bg.out).grown (set3_grown wg (w.heap.size + 1) 0 (.slice ga gn gc) .nilIface .nilIface) (by have := (Below.on (HB.out _ _) Bg.out).size; omega) (by intro j hj; simp at hj; omega))
        clear hk3 hR
        go_wp2_with fail
        obtain ⟨u0, u1, u2, _⟩ := Hk3.out
        refine bodyPost_ret (v := .tuple #[.agg #[.slice ga gn gc, .nilIface, .nilIface], .bool true]) (by simp [results, Try.results27, go_sem, u0, u1, u2]) rfl ?_
        exact ⟨_, _, _, by rw [HF.out], ⟨_, _, _, rfl⟩, .inl rfl, .inl rfl, HBf.out⟩
      · have hk3 := row3 (set3_heap (j := 0) (.slice ga gn gc) .nilIface (.iface pt2 px2) hR)
        simp only [set3, Nat.zero_add] at hk3
        have Hk3 := hide' hk3
        have HBf := hide' ((Below.on (HB.out _ _) Bg.out).grown (set3_grown wg (w.heap.size + 1) 0 (.slice ga gn gc) .nilIface (.iface pt2 px2)) (by have := (Below.on (HB.out _ _) Bg.out).size; omega) (by intro j hj; simp at hj; omega))
        clear hk3 hR
        go_wp2_with fail
        obtain ⟨u0, u1, u2, _⟩ := Hk3.out
        refine bodyPost_ret (v := .tuple #[.agg #[.slice ga gn gc, .nilIface, (.iface pt2 px2)], .bool true]) (by simp [results, Try.results27, go_sem, u0, u1, u2]) rfl ?_
        exact ⟨_, _, _, by rw [HF.out], ⟨_, _, _, rfl⟩, .inl rfl, .inr ⟨_, _, rfl⟩, HBf.out⟩
      · have hk3 := row3 (set3_heap (j := 0) (.slice ga gn gc) (.iface pt1 px1) .nilIface hR)
        simp only [set3, Nat.zero_add] at hk3
        have Hk3 := hide' hk3
        have HBf := hide' ((Below.on (HB.out _ _) Bg.out).grown (set3_grown wg (w.heap.size + 1) 0 (.slice ga gn gc) (.iface pt1 px1) .nilIface) (by have := (Below.on (HB.out _ _) Bg.out).size; omega) (by intro j hj; simp at hj; omega))
        clear hk3 hR
        go_wp2_with fail
        obtain ⟨u0, u1, u2, _⟩ := Hk3.out
        refine bodyPost_ret (v := .tuple #[.agg #[.slice ga gn gc, (.iface pt1 px1), .nilIface], .bool true]) (by simp [results, Try.results27, go_sem, u0, u1, u2]) rfl ?_
        exact ⟨_, _, _, by rw [HF.out], ⟨_, _, _, rfl⟩, .inr ⟨_, _, rfl⟩, .inl rfl, HBf.out⟩
      · have hk3 := row3 (set3_heap (j := 0) (.slice ga gn gc) (.iface pt1 px1) (.iface pt2 px2) hR)
        simp only [set3, Nat.zero_add] at hk3
        have Hk3 := hide' hk3
        have HBf := hide' ((Below.on (HB.out _ _) Bg.out).grown (set3_grown wg (w.heap.size + 1) 0 (.slice ga gn gc) (.iface pt1 px1) (.iface pt2 px2)) (by have := (Below.on (HB.out _ _) Bg.out).size; omega) (by intro j hj; simp at hj; omega))
        clear hk3 hR
        go_wp2_with fail
        obtain ⟨u0, u1, u2, _⟩ := Hk3.out
        refine bodyPost_ret (v := .tuple #[.agg #[.slice ga gn gc, (.iface pt1 px1), (.iface pt2 px2)], .bool true]) (by simp [results, Try.results27, go_sem, u0, u1, u2]) rfl ?_
        exact ⟨_, _, _, by rw [HF.out], ⟨_, _, _, rfl⟩, .inr ⟨_, _, rfl⟩, .inr ⟨_, _, rfl⟩, HBf.out⟩
    | false =>
      go_wp2_with fail
      refine (HK.out _ (Below.on (HB.out _ _) B3.out)).mono ?_
      rintro e w4 ⟨rfl, rfl⟩
      cases eb with
      | false =>
        have HF : Hid (ans = false) := by show _ = _; rw [HOk.out]; rfl
        clear HOk
        have hR := (Hbox.out _ _ _ B3.out).2
        obtain ⟨t0, t1, t2, tf⟩ := row3 hR
        have tf0 := tf 0
        have tf1 := tf 1
        have tf2 := tf 2
        have hk3 := row3 (set3_heap (j := 0) (.slice none 0 0) .nilIface .nilIface hR)
        simp only [set3, Nat.zero_add] at hk3
        have Hk3 := hide' hk3
        have HBf := hide' ((Below.on (HB.out _ _) B3.out).grown (set3_grown w3 (w.heap.size + 1) 0 (.slice none 0 0) .nilIface .nilIface) (by have := (Below.on (HB.out _ _) B3.out).size; omega) (by intro j hj; simp at hj; omega))
        clear hk3 hR tf
        go_wp2_with fail
        obtain ⟨u0, u1, u2, _⟩ := Hk3.out
        refine bodyPost_ret (v := .tuple #[.agg #[.slice none 0 0, .nilIface, .nilIface], .bool false]) (by simp [results, Try.results27, go_sem, u0, u1, u2]) rfl ?_
        exact ⟨_, _, _, by rw [HF.out], ⟨_, _, _, rfl⟩, .inl rfl, .inl rfl, HBf.out⟩
      | true =>
        have HF : Hid (ans = true) := by show _ = _; rw [HOk.out]; rfl
        clear HOk x0 x1 x7
        have hX := (Hbox.out _ _ _ B3.out).1
        have x0 := cell_of_row _ _ 0 _ _ _ hX
        simp at x0
        clear hX
        go_wp2_with fail
        refine (HGr.out _ (Below.on (HB.out _ _) B3.out)).mono ?_
        rintro e wg ⟨ga, gn, gc, rfl, bg⟩
        have Bg := hide' (Below.on B3.out bg)
        clear bg x0
        have hR := (Hbox.out _ _ _ Bg.out).2
        obtain ⟨t0, t1, t2, tf⟩ := row3 hR
        have tf0 := tf 0
        have tf1 := tf 1
        have tf2 := tf 2
        clear tf
        rcases hp1 with rfl | ⟨pt1, px1, rfl⟩ <;> rcases hp2 with rfl | ⟨pt2, px2, rfl⟩
        · have hk3 := row3 (set3_heap (j := 0) (.slice ga gn gc) .nilIface .nilIface hR)
          simp only [set3, Nat.zero_add] at hk3
          have Hk3 := hide' hk3
          have HBf := hide' ((Below.on (HB.out _ _) Bg.out).grown (set3_grown wg (w.heap.size + 1) 0 (.slice ga gn gc) .nilIface .nilIface) (by have := (Below.on (HB.out _ _) Bg.out).size; omega) (by intro j hj; simp at hj; omega))
          clear hk3 hR
          go_wp2_with fail
          obtain ⟨u0, u1, u2, _⟩ := Hk3.out
          refine bodyPost_ret (v := .tuple #[.agg #[.slice ga gn gc, .nilIface, .nilIface], .bool true]) (by simp [results, Try.results27, go_sem, u0, u1, u2]) rfl ?_
          exact ⟨_, _, _, by rw [HF.out], ⟨_, _, _, rfl⟩, .inl rfl, .inl rfl, HBf.out⟩
        · have hk3 := row3 (set3_heap (j := 0) (.slice ga gn gc) .nilIface (.iface pt2 px2) hR)
          simp only [set3, Nat.zero_add] at hk3
          have Hk3 := hide' hk3
          have HBf := hide' ((Below.on (HB.out _ _) Bg.out).grown (set3_grown wg (w.heap.size + 1) 0 (.slice ga gn gc) .nilIface (.iface pt2 px2)) (by have := (Below.on (HB.out _ _) Bg.out).size; omega) (by intro j hj; simp at hj; omega))
          clear hk3 hR
          go_wp2_with fail
          obtain ⟨u0, u1, u2, _⟩ := Hk3.out
          refine bodyPost_ret (v := .tuple #[.agg #[.slice ga gn gc, .nilIface, (.iface pt2 px2)], .bool true]) (by simp [results, Try.results27, go_sem, u0, u1, u2]) rfl ?_
          exact ⟨_, _, _, by rw [HF.out], ⟨_, _, _, rfl⟩, .inl rfl, .inr ⟨_, _, rfl⟩, HBf.out⟩
        · have hk3 := row3 (set3_heap (j := 0) (.slice ga gn gc) (.iface pt1 px1) .nilIface hR)
          simp only [set3, Nat.zero_add] at hk3
          have Hk3 := hide' hk3
          have HBf := hide' ((Below.on (HB.out _ _) Bg.out).grown (set3_grown wg (w.heap.size + 1) 0 (.slice ga gn gc) (.iface pt1 px1) .nilIface) (by have := (Below.on (HB.out _ _) Bg.out).size; omega) (by intro j hj; simp at hj; omega))
          clear hk3 hR
          go_wp2_with fail
          obtain ⟨u0, u1, u2, _⟩ := Hk3.out
          refine bodyPost_ret (v := .tuple #[.agg #[.slice ga gn gc, (.iface pt1 px1), .nilIface], .bool true]) (by simp [results, Try.results27, go_sem, u0, u1, u2]) rfl ?_
          exact ⟨_, _, _, by rw [HF.out], ⟨_, _, _, rfl⟩, .inr ⟨_, _, rfl⟩, .inl rfl, HBf.out⟩
        · have hk3 := row3 (set3_heap (j := 0) (.slice ga gn gc) (.iface pt1 px1) (.iface pt2 px2) hR)
          simp only [set3, Nat.zero_add] at hk3
          have Hk3 := hide' hk3
          have HBf := hide' ((Below.on (HB.out _ _) Bg.out).grown (set3_grown wg (w.heap.size + 1) 0 (.slice ga gn gc) (.iface pt1 px1) (.iface pt2 px2)) (by have := (Below.on (HB.out _ _) Bg.out).size; omega) (by intro j hj; simp at hj; omega))
          clear hk3 hR
          go_wp2_with fail
          obtain ⟨u0, u1, u2, _⟩ := Hk3.out
          refine bodyPost_ret (v := .tuple #[.agg #[.slice ga gn gc, (.iface pt1 px1), (.iface pt2 px2)], .bool true]) (by simp [results, Try.results27, go_sem, u0, u1, u2]) rfl ?_
          exact ⟨_, _, _, by rw [HF.out], ⟨_, _, _, rfl⟩, .inr ⟨_, _, rfl⟩, .inr ⟨_, _, rfl⟩, HBf.out⟩
end Go.Proofs.Ytcepgdlnlmhecaa
/-
  Regions that draw, walked by hand in the order of the text: the library's 'wpAnyH_take' with the slot said; no statement is proved here. For guarded operations that are not wanted.
-/
namespace Go.Proofs.Ytcepgdlnlmhecaa
set_option linter.unusedVariables false

section
variable {P : Program} {ops : Array Oper} {Q : Exit → Act → World → Prop} {md : Region.Mode} {S : World → Prop}
theorem take_yes {i : Nat} (d : Nat) {oi : Oper} {v : Value} {fuel : Nat} {listed : Array Bool} {a : Act} {w : World} (hi : ops[i]? = some oi) (hd : oi.dst = some d)
    (hs : Region.noSelect ops = true) (hf : Region.free md ops listed i = true) (hr : (Region.ready md ops listed).contains i = true)
    (hQ : ∀ c a w, Q (.panic c) (a.put (some d) v) w → Q (.panic c) a w) (hw : Region.wanted oi (yielded ops a.tmps) = true) (hS : S w)
    (hy : ∀ w, S w → (execOp a.eval oi).run P w = .ok (.value v) w)
    (h : wpAnyH P md ops Q S fuel (listed.setIfInBounds i true) (a.put (some d) v) w) : wpAnyH P md ops Q S (fuel + 1) listed a w :=
  wpAnyH_take hi hs hf hr (by rw [hd]; exact hQ) (Or.inl ⟨hw, hy⟩) hS (by rw [hd]; exact h)
theorem take_not {i : Nat} (d : Nat) {oi : Oper} {fuel : Nat} {listed : Array Bool} {a : Act} {w : World} (hi : ops[i]? = some oi) (hd : oi.dst = some d)
    (hs : Region.noSelect ops = true) (hf : Region.free md ops listed i = true) (hr : (Region.ready md ops listed).contains i = true)
    (hQ : ∀ c a w, Q (.panic c) (a.put (some d) undef) w → Q (.panic c) a w) (hw : Region.wanted oi (yielded ops a.tmps) = false) (hS : S w)
    (h : wpAnyH P md ops Q S fuel (listed.setIfInBounds i true) (a.put (some d) undef) w) : wpAnyH P md ops Q S (fuel + 1) listed a w :=
  wpAnyH_take hi hs hf hr (by rw [hd]; exact hQ) (Or.inr ⟨hw, rfl⟩) hS (by rw [hd]; exact h)
end
end Go.Proofs.Ytcepgdlnlmhecaa
