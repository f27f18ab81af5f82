/-
  Texts that a law leans on, one behind the other; no statement is proved here.
-/
import Derived.Test.YtdhlmcgbgdljmaaGreatDoorPk19
import Derived.Test.YtdhlmcgbgdljmaaGreatDoorPk15
/-
  editOf of the program: it takes a change in just where it may be, alone.
-/
namespace Go.Proofs.YtdhlmcgbgdljmaaGreatDoor
open Go.RowKit
set_option linter.unusedVariables false
set_option linter.unusedSimpArgs false

/-- What was or is at a place, as the program holds it. -/
def SideIs (R : Nat → Prop) (w : World) (d : Nat) (had : Bool) (v : Vl d) (p : Value) : Prop := (had = false ∧ p = .nilIface) ∨ (had = true ∧ PSeg R w d p v)
theorem SideIs.carry {R R' : Nat → Prop} {w w' : World} {d : Nat} {had : Bool} {v : Vl d} {p : Value} (h : SideIs R w d had v p) (ha : Agree R w w') (hr : ∀ b, R b → R' b) : SideIs R' w' d had v p := by
  rcases h with h | ⟨h1, h2⟩
  · exact .inl h
  · exact .inr ⟨h1, PSeg.carry hr ha d h2⟩
theorem PthOf.agree {w w' : World} {v : Value} {l : List Stp} {B : List Nat} (h : PthOf w v l B) (ha : Agree (fun b => b ∈ B) w w') : PthOf w' v l B := by
  rcases h with h | h
  · exact .inl h
  · exact .inr (h.agree ha)
theorem PthOf.form {w : World} {v : Value} {l : List Stp} {B : List Nat} (h : PthOf w v l B) : ∃ a n c, v = .slice a n c := by
  rcases h with ⟨_, h, _⟩ | ⟨g, cap, _, _, h, _⟩
  · exact ⟨_, _, _, h⟩
  · exact ⟨_, _, _, h⟩
theorem PthOf.seg {w : World} {v : Value} {l : List Stp} {B : List Nat} (h : PthOf w v l B) : PthSeg (fun b => b ∈ B) w v l := by
  rcases h with ⟨rfl, rfl, rfl⟩ | h
  · exact ⟨none, 0, rfl, Nat.le_refl _, Nat.zero_le _, fun _ => rfl, .inl rfl⟩
  · exact h.seg

theorem side_full (d N : Nat) (had : Bool) (c0 c1 c2 c3 c4 : Value) (v : Vl d) (w : World) (hv : VSeg (fun b => b < N) w d (c0, c1, c2, c3, c4) v) (hN : N ≤ w.heap.size) :
    Calls Tryz.prog 42 #[.bool had, .agg #[c0, c1, c2, c3, c4]] w fun e w' => ∃ p, e = .returned (.tuple #[p, .bool (sdB d had v)]) ∧ IsIf p ∧ Hid (sdB d had v = true → SideIs (fun b => w.heap.size ≤ b ∧ b < w'.heap.size) w' d had v p) ∧ Below w.heap.size w w' := by
  cases had with
  | false =>
    refine (sideOf_no d N c0 c1 c2 c3 c4 v w hv hN).mono ?_
    rintro e w' ⟨rfl, b⟩
    exact ⟨_, by simp [sdB], .inl rfl, fun _ => .inl ⟨rfl, rfl⟩, b⟩
  | true =>
    refine (sideOf_yes d N c0 c1 c2 c3 c4 v w hv hN).mono ?_
    rintro e w' ⟨b, ⟨p, rfl, hok, hp⟩ | ⟨rfl, hno⟩⟩
    · exact ⟨_, by simp [sdB, hok], .inr hp.shape, fun _ => .inr ⟨rfl, hp⟩, b⟩
    · exact ⟨_, by simp [sdB, hno], .inl rfl, fun h => absurd h (by simp [sdB, hno]), b⟩

/-- What editOf leaves, with what it holds. -/
def EdO (d : Nat) (x : Chg d) (w : World) (e : Ending) (w' : World) : Prop := (okC d x = false ∧ e = .returned (.tuple #[.agg #[.slice none 0 0, .nilIface, .nilIface], .bool false]) ∧ Below w.heap.size w w') ∨
  (okC d x = true ∧ ∃ a n c p1 p2, e = .returned (.tuple #[.agg #[.slice a n c, p1, p2], .bool true]) ∧ (∃ B, PthOf w' (.slice a n c) x.1 B ∧ ∀ b ∈ B, w.heap.size ≤ b ∧ b < w'.heap.size) ∧ SideIs (fun b => w.heap.size ≤ b ∧ b < w'.heap.size) w' d x.2.1 x.2.2.1 p1 ∧ SideIs (fun b => w.heap.size ≤ b ∧ b < w'.heap.size) w' d x.2.2.2.1 x.2.2.2.2 p2 ∧ Below w.heap.size w w')

set_option maxHeartbeats 6400000 in
set_option maxRecDepth 100000 in
theorem editO_any (d N : Nat) (cs : List Value) (x : Chg d) (w : World) (h : CSg (fun b => b < N) w d cs x) (hN : N ≤ w.heap.size) :
    Calls Tryz.prog 20 #[.agg cs.toArray] w (EdO d x w) := by
  obtain ⟨pa, pc, ok, on, o2, ol2, op2, o3, ol3, op3, o4, ol4, op4, nk, nn, n2, nl2, np2, n3, nl3, np3, n4, nl4, np4, rfl, ht, hv, hu⟩ := h.form
  obtain ⟨pth, had, old, has, new⟩ := x
  simp only at ht hv hu
  have HNo : Hid (okC d (pth, had, old, has, new) = false → ∀ w', Below w.heap.size w w' → EdO d (pth, had, old, has, new) w (.returned (.tuple #[.agg #[.slice none 0 0, .nilIface, .nilIface], .bool false])) w') := fun h w' hb => .inl ⟨h, rfl, hb⟩
  have HYs : Hid (okC d (pth, had, old, has, new) = true → ∀ a n c p1 p2 w', (∃ B, PthOf w' (.slice a n c) pth B ∧ ∀ b ∈ B, w.heap.size ≤ b ∧ b < w'.heap.size) → SideIs (fun b => w.heap.size ≤ b ∧ b < w'.heap.size) w' d had old p1 → SideIs (fun b => w.heap.size ≤ b ∧ b < w'.heap.size) w' d has new p2 → Below w.heap.size w w' → EdO d (pth, had, old, has, new) w (.returned (.tuple #[.agg #[.slice a n c, p1, p2], .bool true])) w') := fun h a n c p1 p2 w' h1 h2 h3 h4 => .inr ⟨h, a, n, c, p1, p2, rfl, h1, h2, h3, h4⟩
  generalize EdO d (pth, had, old, has, new) w = Post at *
  have HB : Hid (∀ o o' : Obj, Below w.heap.size w ((w.alloc o).alloc o')) := fun o o' => ((Below.refl _ _).alloc (Nat.le_refl _) o).alloc (by simp) o'
  have Hbox : Hid (∀ o o' wx, Below ((w.alloc o).alloc o').heap.size ((w.alloc o).alloc o') wx → wx.heap[w.heap.size]? = some o ∧ wx.heap[w.heap.size + 1]? = some o') := fun o o' wx h => ⟨(h.block _ (by simp; omega)).trans (two_boxes w o o').1, (h.block _ (by simp)).trans (two_boxes w o o').2⟩
  have hA : ∀ wx, Below w.heap.size w wx → Agree (fun b => b < N) w wx := fun wx hb => agree_below (hb.mono hN)
  have HV : Hid (∀ wx, Below w.heap.size w wx → Calls Tryz.prog 42 #[.bool had, .agg #[.int .i64 ok, .int .i64 on, .slice o2 ol2 op2, .slice o3 ol3 op3, .slice o4 ol4 op4]] wx fun e w' => ∃ p, e = .returned (.tuple #[p, .bool (sdB d had old)]) ∧ IsIf p ∧ Hid (sdB d had old = true → SideIs (fun b => wx.heap.size ≤ b ∧ b < w'.heap.size) w' d had old p) ∧ Below wx.heap.size wx w') := fun wx hb => side_full d N had _ _ _ _ _ old wx (VSeg.agree (hA wx hb) d hv) (by have := hb.size; omega)
  have HU : Hid (∀ wx, Below w.heap.size w wx → Calls Tryz.prog 42 #[.bool has, .agg #[.int .i64 nk, .int .i64 nn, .slice n2 nl2 np2, .slice n3 nl3 np3, .slice n4 nl4 np4]] wx fun e w' => ∃ p, e = .returned (.tuple #[p, .bool (sdB d has new)]) ∧ IsIf p ∧ Hid (sdB d has new = true → SideIs (fun b => wx.heap.size ≤ b ∧ b < w'.heap.size) w' d has new p) ∧ Below wx.heap.size wx w') := fun wx hb => side_full d N has _ _ _ _ _ new wx (VSeg.agree (hA wx hb) d hu) (by have := hb.size; omega)
  have HP : Hid (∀ wx, Below w.heap.size w wx → Calls Tryz.prog 43 #[.slice pa pth.length pc] wx fun e w' => e = .returned (.bool (pathB pth)) ∧ Below wx.heap.size wx w') := fun wx hb => impl_PathOk_any N _ pth wx (ht.agree (hA wx hb)) (by have := hb.size; omega)
  have HK : Hid (∀ wx, Below w.heap.size w wx → Calls Tryz.prog 44 #[.slice pa pth.length pc] wx fun e w' => e = .returned (.bool (endB pth)) ∧ wx = w') := fun wx hb => endsWithKey_any N pa _ pc pth wx (ht.agree (hA wx hb)) (by have := hb.size; omega)
  have HG : Hid (pathB pth = true → ∀ wx, Below w.heap.size w wx → Calls Tryz.prog 45 #[.slice pa pth.length pc, .slice none 0 0] wx fun e w' => ∃ v B, e = .returned v ∧ PthOf w' v pth B ∧ (∀ b ∈ B, wx.heap.size ≤ b ∧ b < w'.heap.size) ∧ Below wx.heap.size wx w') := fun hp wx hb => grownO_any N _ pc pa pth wx (ht.agree (hA wx hb)) (by have := hb.size; omega) hp
  have HOk : Hid (okC d (pth, had, old, has, new) = (pathB pth && (sdB d had old && (sdB d has new && ((had || has) && (had == has || endB pth)))))) := by
    show _ = _
    unfold okC sdB
    simp only
    cases pathB pth <;> cases okB d old <;> cases okB d new <;> cases had <;> cases has <;> simp
  generalize okC d (pth, had, old, has, new) = ans at *
  clear ht hv hu h hA
  generalize sdB d had old = s1 at *
  generalize sdB d has new = s2 at *
  generalize pathB pth = pb at *
  generalize endB pth = eb at *
  generalize pth.length = pl at *
  go_enter Tryz.func20, Tryz.ntmps20
  go_wp2_with fail
  refine (HV.out _ (HB.out _ _)).mono ?_
  rintro e w1 ⟨p1, rfl, hp1, hs1, b1⟩
  have B1 := hide' b1
  have hX := (Hbox.out _ _ _ B1.out).1
  have u7 := cell_of_row _ _ 7 _ _ _ hX
  have u8 := cell_of_row _ _ 8 _ _ _ hX
  have u9 := cell_of_row _ _ 9 _ _ _ hX
  have u10 := cell_of_row _ _ 10 _ _ _ hX
  have u11 := cell_of_row _ _ 11 _ _ _ hX
  have u12 := cell_of_row _ _ 12 _ _ _ hX
  simp at u7 u8 u9 u10 u11 u12
  clear hX b1 HV
  go_wp2_with fail
  refine (HU.out _ (Below.on (HB.out _ _) B1.out)).mono ?_
  rintro e w2 ⟨p2, rfl, hp2, hs2, b2⟩
  have hz2 : Hid (∀ o o' : Obj, ((w.alloc o).alloc o').heap.size = w.heap.size + 2) := fun o o' => by simp
  have hzz := B1.out.size
  rw [hz2.out] at hzz
  have HSw : Hid (s1 = true → s2 = true → ∀ wz, (∀ b, w.heap.size + 2 ≤ b → b < w2.heap.size → wz.heap[b]? = w2.heap[b]?) → w2.heap.size ≤ wz.heap.size → SideIs (fun b => w.heap.size ≤ b ∧ b < wz.heap.size) wz d had old p1 ∧ SideIs (fun b => w.heap.size ≤ b ∧ b < wz.heap.size) wz d has new p2) := fun q1 q2 wz hz hs => by
    have b2s := b2.size
    refine ⟨(hs1.out q1).carry (fun b hb => ?_) (fun b hb => ?_), (hs2.out q2).carry (fun b hb => ?_) (fun b hb => ?_)⟩
    · have h1 := hb.1; have h2 := hb.2; rw [hz2.out] at h1; exact (hz b h1 (by omega)).trans (b2.block b h2)
    · have h1 := hb.1; have h2 := hb.2; rw [hz2.out] at h1; exact ⟨by omega, by omega⟩
    · have := hb.1; have := hb.2; exact hz b (by omega) (by omega)
    · have := hb.1; have := hb.2; exact ⟨by omega, by omega⟩
  have HSz : Hid (w.heap.size + 2 ≤ w2.heap.size) := by
    have := b2.size
    show _ ≤ _
    omega
  clear hs1 hs2 hz2 hzz
  have B2 := hide' (Below.on B1.out b2)
  clear b2 HU u7 u8 u9 u10 u11 u12 B1
  cases s1 with
  | false =>
    have HF : Hid (ans = false) := by show _ = _; rw [HOk.out]; simp
    clear HOk
    have hR := (Hbox.out _ _ _ B2.out).2
    obtain ⟨t0, t1, t2, tf⟩ := row3 hR
    have tf0 := tf 0
    have tf1 := tf 1
    have tf2 := tf 2
    have hk3 := row3 (set3_heap (j := 0) (.slice none 0 0) .nilIface .nilIface hR)
    simp only [set3, Nat.zero_add] at hk3
    have Hk3 := hide' hk3
    have HBf := hide' ((Below.on (HB.out _ _) B2.out).grown (set3_grown w2 (w.heap.size + 1) 0 (.slice none 0 0) .nilIface .nilIface) (by have := (Below.on (HB.out _ _) B2.out).size; omega) (by intro j hj; simp at hj; omega))
    clear hk3 hR tf
    go_wp2_with fail
    obtain ⟨u0, u1, u2, _⟩ := Hk3.out
    refine bodyPost_ret (v := .tuple #[.agg #[.slice none 0 0, .nilIface, .nilIface], .bool false]) (by simp [results, Tryz.results20, go_sem, u0, u1, u2]) rfl ?_
    exact HNo.out HF.out _ HBf.out
  | true =>
  cases s2 with
  | false =>
    have HF : Hid (ans = false) := by show _ = _; rw [HOk.out]; simp
    clear HOk
    have hR := (Hbox.out _ _ _ B2.out).2
    obtain ⟨t0, t1, t2, tf⟩ := row3 hR
    have tf0 := tf 0
    have tf1 := tf 1
    have tf2 := tf 2
    have hk3 := row3 (set3_heap (j := 0) (.slice none 0 0) .nilIface .nilIface hR)
    simp only [set3, Nat.zero_add] at hk3
    have Hk3 := hide' hk3
    have HBf := hide' ((Below.on (HB.out _ _) B2.out).grown (set3_grown w2 (w.heap.size + 1) 0 (.slice none 0 0) .nilIface .nilIface) (by have := (Below.on (HB.out _ _) B2.out).size; omega) (by intro j hj; simp at hj; omega))
    clear hk3 hR tf
    go_wp2_with fail
    obtain ⟨u0, u1, u2, _⟩ := Hk3.out
    refine bodyPost_ret (v := .tuple #[.agg #[.slice none 0 0, .nilIface, .nilIface], .bool false]) (by simp [results, Tryz.results20, go_sem, u0, u1, u2]) rfl ?_
    exact HNo.out HF.out _ HBf.out
  | true =>
  have HSw' := hide' (HSw.out rfl rfl)
  clear HSw
  have hX := (Hbox.out _ _ _ B2.out).1
  have x0 := cell_of_row _ _ 0 _ _ _ hX
  simp at x0
  clear hX
  go_wp2_with fail
  refine (HP.out _ (Below.on (HB.out _ _) B2.out)).mono ?_
  rintro e w3 ⟨rfl, b3⟩
  have B3 := hide' (Below.on B2.out b3)
  have C3 := hide' b3
  clear b3 x0 B2 HP
  cases pb with
  | false =>
    have HF : Hid (ans = false) := by show _ = _; rw [HOk.out]; simp
    clear HOk
    have hR := (Hbox.out _ _ _ B3.out).2
    obtain ⟨t0, t1, t2, tf⟩ := row3 hR
    have tf0 := tf 0
    have tf1 := tf 1
    have tf2 := tf 2
    have hk3 := row3 (set3_heap (j := 0) (.slice none 0 0) .nilIface .nilIface hR)
    simp only [set3, Nat.zero_add] at hk3
    have Hk3 := hide' hk3
    have HBf := hide' ((Below.on (HB.out _ _) B3.out).grown (set3_grown w3 (w.heap.size + 1) 0 (.slice none 0 0) .nilIface .nilIface) (by have := (Below.on (HB.out _ _) B3.out).size; omega) (by intro j hj; simp at hj; omega))
    clear hk3 hR tf
    go_wp2_with fail
    obtain ⟨u0, u1, u2, _⟩ := Hk3.out
    refine bodyPost_ret (v := .tuple #[.agg #[.slice none 0 0, .nilIface, .nilIface], .bool false]) (by simp [results, Tryz.results20, go_sem, u0, u1, u2]) rfl ?_
    exact HNo.out HF.out _ HBf.out
  | true =>
  have HGr := hide' (HG.out rfl)
  clear HG
  have hX := (Hbox.out _ _ _ B3.out).1
  have x0 := cell_of_row _ _ 0 _ _ _ hX
  have x1 := cell_of_row _ _ 1 _ _ _ hX
  have x7 := cell_of_row _ _ 7 _ _ _ hX
  simp at x0 x1 x7
  clear hX
  cases had with
  | false =>
    cases has with
    | false =>
      have HF : Hid (ans = false) := by show _ = _; rw [HOk.out]; simp
      clear HOk
      have hR := (Hbox.out _ _ _ B3.out).2
      obtain ⟨t0, t1, t2, tf⟩ := row3 hR
      have tf0 := tf 0
      have tf1 := tf 1
      have tf2 := tf 2
      have hk3 := row3 (set3_heap (j := 0) (.slice none 0 0) .nilIface .nilIface hR)
      simp only [set3, Nat.zero_add] at hk3
      have Hk3 := hide' hk3
      have HBf := hide' ((Below.on (HB.out _ _) B3.out).grown (set3_grown w3 (w.heap.size + 1) 0 (.slice none 0 0) .nilIface .nilIface) (by have := (Below.on (HB.out _ _) B3.out).size; omega) (by intro j hj; simp at hj; omega))
      clear hk3 hR tf
      go_wp2_with fail
      obtain ⟨u0, u1, u2, _⟩ := Hk3.out
      refine bodyPost_ret (v := .tuple #[.agg #[.slice none 0 0, .nilIface, .nilIface], .bool false]) (by simp [results, Tryz.results20, go_sem, u0, u1, u2]) rfl ?_
      exact HNo.out HF.out _ HBf.out
    | true =>
      go_wp2_with fail
      refine (HK.out _ (Below.on (HB.out _ _) B3.out)).mono ?_
      rintro e w4 ⟨rfl, rfl⟩
      cases eb with
      | false =>
        have HF : Hid (ans = false) := by show _ = _; rw [HOk.out]; rfl
        clear HOk
        have hR := (Hbox.out _ _ _ B3.out).2
        obtain ⟨t0, t1, t2, tf⟩ := row3 hR
        have tf0 := tf 0
        have tf1 := tf 1
        have tf2 := tf 2
        have hk3 := row3 (set3_heap (j := 0) (.slice none 0 0) .nilIface .nilIface hR)
        simp only [set3, Nat.zero_add] at hk3
        have Hk3 := hide' hk3
        have HBf := hide' ((Below.on (HB.out _ _) B3.out).grown (set3_grown w3 (w.heap.size + 1) 0 (.slice none 0 0) .nilIface .nilIface) (by have := (Below.on (HB.out _ _) B3.out).size; omega) (by intro j hj; simp at hj; omega))
        clear hk3 hR tf
        go_wp2_with fail
        obtain ⟨u0, u1, u2, _⟩ := Hk3.out
        refine bodyPost_ret (v := .tuple #[.agg #[.slice none 0 0, .nilIface, .nilIface], .bool false]) (by simp [results, Tryz.results20, go_sem, u0, u1, u2]) rfl ?_
        exact HNo.out HF.out _ HBf.out
      | true =>
        have HF : Hid (ans = true) := by show _ = _; rw [HOk.out]; rfl
        clear HOk x0 x1 x7
        have hX := (Hbox.out _ _ _ B3.out).1
        have x0 := cell_of_row _ _ 0 _ _ _ hX
        simp at x0
        clear hX
        go_wp2_with fail
        refine (HGr.out _ (Below.on (HB.out _ _) B3.out)).mono ?_
        rintro e wg ⟨gv, gB, rfl, hgP, hgB, bg⟩
        obtain ⟨ga, gn, gc, rfl⟩ := hgP.form
        have Cg := Below.on C3.out bg
        have zw2 := HSz.out
        have zwk := bg.size
        have zck := C3.out.size
        have Bg := hide' (Below.on B3.out bg)
        clear bg x0
        have hR := (Hbox.out _ _ _ Bg.out).2
        obtain ⟨t0, t1, t2, tf⟩ := row3 hR
        have tf0 := tf 0
        have tf1 := tf 1
        have tf2 := tf 2
        clear tf
        have HPg := hide' (And.intro hgP hgB)
        clear hgP hgB
        rcases hp1 with rfl | ⟨pt1, px1, rfl⟩ <;> rcases hp2 with rfl | ⟨pt2, px2, rfl⟩
        · have hk3 := row3 (set3_heap (j := 0) (.slice ga gn gc) .nilIface .nilIface hR)
          simp only [set3, Nat.zero_add] at hk3
          have Hk3 := hide' hk3
          have HBf := hide' ((Below.on (HB.out _ _) Bg.out).grown (set3_grown wg (w.heap.size + 1) 0 (.slice ga gn gc) .nilIface .nilIface) (by have := (Below.on (HB.out _ _) Bg.out).size; omega) (by intro j hj; simp at hj; omega))
          have gz := set3_grown wg (w.heap.size + 1) 0 (.slice ga gn gc) .nilIface .nilIface
          have gzs := gz.size
          have hsd := HSw'.out (set3 wg (w.heap.size + 1) 0 (.slice ga gn gc) .nilIface .nilIface) (fun b h1 h2 => (gz.block b (by omega) (by simp; omega)).trans (Cg.block b h2)) (by have := Cg.size; omega)
          have hpo : ∃ B, PthOf (set3 wg (w.heap.size + 1) 0 (.slice ga gn gc) .nilIface .nilIface) (.slice ga gn gc) pth B ∧ ∀ b ∈ B, w.heap.size ≤ b ∧ b < (set3 wg (w.heap.size + 1) 0 (.slice ga gn gc) .nilIface .nilIface).heap.size := ⟨gB, HPg.out.1.agree (fun b hb => gz.block b (HPg.out.2 b hb).2 (by have := (HPg.out.2 b hb).1; simp; omega)), fun b hb => by have := HPg.out.2 b hb; exact ⟨by omega, by omega⟩⟩
          simp only [set3, Nat.zero_add] at hsd hpo
          have HSd := hide' hsd
          have HPo := hide' hpo
          clear hk3 hR gz gzs hsd hpo HPg
          go_wp2_with fail
          obtain ⟨u0, u1, u2, _⟩ := Hk3.out
          refine bodyPost_ret (v := .tuple #[.agg #[.slice ga gn gc, .nilIface, .nilIface], .bool true]) (by simp [results, Tryz.results20, go_sem, u0, u1, u2]) rfl ?_
          exact HYs.out HF.out _ _ _ _ _ _ HPo.out HSd.out.1 HSd.out.2 HBf.out
        · have hk3 := row3 (set3_heap (j := 0) (.slice ga gn gc) .nilIface (.iface pt2 px2) hR)
          simp only [set3, Nat.zero_add] at hk3
          have Hk3 := hide' hk3
          have HBf := hide' ((Below.on (HB.out _ _) Bg.out).grown (set3_grown wg (w.heap.size + 1) 0 (.slice ga gn gc) .nilIface (.iface pt2 px2)) (by have := (Below.on (HB.out _ _) Bg.out).size; omega) (by intro j hj; simp at hj; omega))
          have gz := set3_grown wg (w.heap.size + 1) 0 (.slice ga gn gc) .nilIface (.iface pt2 px2)
          have gzs := gz.size
          have hsd := HSw'.out (set3 wg (w.heap.size + 1) 0 (.slice ga gn gc) .nilIface (.iface pt2 px2)) (fun b h1 h2 => (gz.block b (by omega) (by simp; omega)).trans (Cg.block b h2)) (by have := Cg.size; omega)
          have hpo : ∃ B, PthOf (set3 wg (w.heap.size + 1) 0 (.slice ga gn gc) .nilIface (.iface pt2 px2)) (.slice ga gn gc) pth B ∧ ∀ b ∈ B, w.heap.size ≤ b ∧ b < (set3 wg (w.heap.size + 1) 0 (.slice ga gn gc) .nilIface (.iface pt2 px2)).heap.size := ⟨gB, HPg.out.1.agree (fun b hb => gz.block b (HPg.out.2 b hb).2 (by have := (HPg.out.2 b hb).1; simp; omega)), fun b hb => by have := HPg.out.2 b hb; exact ⟨by omega, by omega⟩⟩
          simp only [set3, Nat.zero_add] at hsd hpo
          have HSd := hide' hsd
          have HPo := hide' hpo
          clear hk3 hR gz gzs hsd hpo HPg
          go_wp2_with fail
          obtain ⟨u0, u1, u2, _⟩ := Hk3.out
          refine bodyPost_ret (v := .tuple #[.agg #[.slice ga gn gc, .nilIface, (.iface pt2 px2)], .bool true]) (by simp [results, Tryz.results20, go_sem, u0, u1, u2]) rfl ?_
          exact HYs.out HF.out _ _ _ _ _ _ HPo.out HSd.out.1 HSd.out.2 HBf.out
        · have hk3 := row3 (set3_heap (j := 0) (.slice ga gn gc) (.iface pt1 px1) .nilIface hR)
          simp only [set3, Nat.zero_add] at hk3
          have Hk3 := hide' hk3
          have HBf := hide' ((Below.on (HB.out _ _) Bg.out).grown (set3_grown wg (w.heap.size + 1) 0 (.slice ga gn gc) (.iface pt1 px1) .nilIface) (by have := (Below.on (HB.out _ _) Bg.out).size; omega) (by intro j hj; simp at hj; omega))
          have gz := set3_grown wg (w.heap.size + 1) 0 (.slice ga gn gc) (.iface pt1 px1) .nilIface
          have gzs := gz.size
          have hsd := HSw'.out (set3 wg (w.heap.size + 1) 0 (.slice ga gn gc) (.iface pt1 px1) .nilIface) (fun b h1 h2 => (gz.block b (by omega) (by simp; omega)).trans (Cg.block b h2)) (by have := Cg.size; omega)
          have hpo : ∃ B, PthOf (set3 wg (w.heap.size + 1) 0 (.slice ga gn gc) (.iface pt1 px1) .nilIface) (.slice ga gn gc) pth B ∧ ∀ b ∈ B, w.heap.size ≤ b ∧ b < (set3 wg (w.heap.size + 1) 0 (.slice ga gn gc) (.iface pt1 px1) .nilIface).heap.size := ⟨gB, HPg.out.1.agree (fun b hb => gz.block b (HPg.out.2 b hb).2 (by have := (HPg.out.2 b hb).1; simp; omega)), fun b hb => by have := HPg.out.2 b hb; exact ⟨by omega, by omega⟩⟩
          simp only [set3, Nat.zero_add] at hsd hpo
          have HSd := hide' hsd
          have HPo := hide' hpo
          clear hk3 hR gz gzs hsd hpo HPg
          go_wp2_with fail
          obtain ⟨u0, u1, u2, _⟩ := Hk3.out
          refine bodyPost_ret (v := .tuple #[.agg #[.slice ga gn gc, (.iface pt1 px1), .nilIface], .bool true]) (by simp [results, Tryz.results20, go_sem, u0, u1, u2]) rfl ?_
          exact HYs.out HF.out _ _ _ _ _ _ HPo.out HSd.out.1 HSd.out.2 HBf.out
        · have hk3 := row3 (set3_heap (j := 0) (.slice ga gn gc) (.iface pt1 px1) (.iface pt2 px2) hR)
          simp only [set3, Nat.zero_add] at hk3
          have Hk3 := hide' hk3
          have HBf := hide' ((Below.on (HB.out _ _) Bg.out).grown (set3_grown wg (w.heap.size + 1) 0 (.slice ga gn gc) (.iface pt1 px1) (.iface pt2 px2)) (by have := (Below.on (HB.out _ _) Bg.out).size; omega) (by intro j hj; simp at hj; omega))
          have gz := set3_grown wg (w.heap.size + 1) 0 (.slice ga gn gc) (.iface pt1 px1) (.iface pt2 px2)
          have gzs := gz.size
          have hsd := HSw'.out (set3 wg (w.heap.size + 1) 0 (.slice ga gn gc) (.iface pt1 px1) (.iface pt2 px2)) (fun b h1 h2 => (gz.block b (by omega) (by simp; omega)).trans (Cg.block b h2)) (by have := Cg.size; omega)
          have hpo : ∃ B, PthOf (set3 wg (w.heap.size + 1) 0 (.slice ga gn gc) (.iface pt1 px1) (.iface pt2 px2)) (.slice ga gn gc) pth B ∧ ∀ b ∈ B, w.heap.size ≤ b ∧ b < (set3 wg (w.heap.size + 1) 0 (.slice ga gn gc) (.iface pt1 px1) (.iface pt2 px2)).heap.size := ⟨gB, HPg.out.1.agree (fun b hb => gz.block b (HPg.out.2 b hb).2 (by have := (HPg.out.2 b hb).1; simp; omega)), fun b hb => by have := HPg.out.2 b hb; exact ⟨by omega, by omega⟩⟩
          simp only [set3, Nat.zero_add] at hsd hpo
          have HSd := hide' hsd
          have HPo := hide' hpo
          clear hk3 hR gz gzs hsd hpo HPg
          go_wp2_with fail
          obtain ⟨u0, u1, u2, _⟩ := Hk3.out
          refine bodyPost_ret (v := .tuple #[.agg #[.slice ga gn gc, (.iface pt1 px1), (.iface pt2 px2)], .bool true]) (by simp [results, Tryz.results20, go_sem, u0, u1, u2]) rfl ?_
          exact HYs.out HF.out _ _ _ _ _ _ HPo.out HSd.out.1 HSd.out.2 HBf.out
  | true =>
    cases has with
    | true =>
      have HF : Hid (ans = true) := by show _ = _; rw [HOk.out]; rfl
      clear HOk
      have hX := (Hbox.out _ _ _ B3.out).1
      have x0 := cell_of_row _ _ 0 _ _ _ hX
      simp at x0
      clear hX
      go_wp2_with fail
      refine (HGr.out _ (Below.on (HB.out _ _) B3.out)).mono ?_
      rintro e wg ⟨gv, gB, rfl, hgP, hgB, bg⟩
      obtain ⟨ga, gn, gc, rfl⟩ := hgP.form
      have Cg := Below.on C3.out bg
      have zw2 := HSz.out
      have zwk := bg.size
      have zck := C3.out.size
      have Bg := hide' (Below.on B3.out bg)
      clear bg x0
      have hR := (Hbox.out _ _ _ Bg.out).2
      obtain ⟨t0, t1, t2, tf⟩ := row3 hR
      have tf0 := tf 0
      have tf1 := tf 1
      have tf2 := tf 2
      clear tf
      have HPg := hide' (And.intro hgP hgB)
      clear hgP hgB
      rcases hp1 with rfl | ⟨pt1, px1, rfl⟩ <;> rcases hp2 with rfl | ⟨pt2, px2, rfl⟩
      · have hk3 := row3 (set3_heap (j := 0) (.slice ga gn gc) .nilIface .nilIface hR)
        simp only [set3, Nat.zero_add] at hk3
        have Hk3 := hide' hk3
        have HBf := hide' ((Below.on (HB.out _ _) Bg.out).grown (set3_grown wg (w.heap.size + 1) 0 (.slice ga gn gc) .nilIface .nilIface) (by have := (Below.on (HB.out _ _) Bg.out).size; omega) (by intro j hj; simp at hj; omega))
        have gz := set3_grown wg (w.heap.size + 1) 0 (.slice ga gn gc) .nilIface .nilIface
        have gzs := gz.size
        have hsd := HSw'.out (set3 wg (w.heap.size + 1) 0 (.slice ga gn gc) .nilIface .nilIface) (fun b h1 h2 => (gz.block b (by omega) (by simp; omega)).trans (Cg.block b h2)) (by have := Cg.size; omega)
        have hpo : ∃ B, PthOf (set3 wg (w.heap.size + 1) 0 (.slice ga gn gc) .nilIface .nilIface) (.slice ga gn gc) pth B ∧ ∀ b ∈ B, w.heap.size ≤ b ∧ b < (set3 wg (w.heap.size + 1) 0 (.slice ga gn gc) .nilIface .nilIface).heap.size := ⟨gB, HPg.out.1.agree (fun b hb => gz.block b (HPg.out.2 b hb).2 (by have := (HPg.out.2 b hb).1; simp; omega)), fun b hb => by have := HPg.out.2 b hb; exact ⟨by omega, by omega⟩⟩
        simp only [set3, Nat.zero_add] at hsd hpo
        have HSd := hide' hsd
        have HPo := hide' hpo
        clear hk3 hR gz gzs hsd hpo HPg
        go_wp2_with fail
        obtain ⟨u0, u1, u2, _⟩ := Hk3.out
        refine bodyPost_ret (v := .tuple #[.agg #[.slice ga gn gc, .nilIface, .nilIface], .bool true]) (by simp [results, Tryz.results20, go_sem, u0, u1, u2]) rfl ?_
        exact HYs.out HF.out _ _ _ _ _ _ HPo.out HSd.out.1 HSd.out.2 HBf.out
      · have hk3 := row3 (set3_heap (j := 0) (.slice ga gn gc) .nilIface (.iface pt2 px2) hR)
        simp only [set3, Nat.zero_add] at hk3
        have Hk3 := hide' hk3
        have HBf := hide' ((Below.on (HB.out _ _) Bg.out).grown (set3_grown wg (w.heap.size + 1) 0 (.slice ga gn gc) .nilIface (.iface pt2 px2)) (by have := (Below.on (HB.out _ _) Bg.out).size; omega) (by intro j hj; simp at hj; omega))
        have gz := set3_grown wg (w.heap.size + 1) 0 (.slice ga gn gc) .nilIface (.iface pt2 px2)
        have gzs := gz.size
        have hsd := HSw'.out (set3 wg (w.heap.size + 1) 0 (.slice ga gn gc) .nilIface (.iface pt2 px2)) (fun b h1 h2 => (gz.block b (by omega) (by simp; omega)).trans (Cg.block b h2)) (by have := Cg.size; omega)
        have hpo : ∃ B, PthOf (set3 wg (w.heap.size + 1) 0 (.slice ga gn gc) .nilIface (.iface pt2 px2)) (.slice ga gn gc) pth B ∧ ∀ b ∈ B, w.heap.size ≤ b ∧ b < (set3 wg (w.heap.size + 1) 0 (.slice ga gn gc) .nilIface (.iface pt2 px2)).heap.size := ⟨gB, HPg.out.1.agree (fun b hb => gz.block b (HPg.out.2 b hb).2 (by have := (HPg.out.2 b hb).1; simp; omega)), fun b hb => by have := HPg.out.2 b hb; exact ⟨by omega, by omega⟩⟩
        simp only [set3, Nat.zero_add] at hsd hpo
        have HSd := hide' hsd
        have HPo := hide' hpo
        clear hk3 hR gz gzs hsd hpo HPg
        go_wp2_with fail
        obtain ⟨u0, u1, u2, _⟩ := Hk3.out
        refine bodyPost_ret (v := .tuple #[.agg #[.slice ga gn gc, .nilIface, (.iface pt2 px2)], .bool true]) (by simp [results, Tryz.results20, go_sem, u0, u1, u2]) rfl ?_
        exact HYs.out HF.out _ _ _ _ _ _ HPo.out HSd.out.1 HSd.out.2 HBf.out
      · have hk3 := row3 (set3_heap (j := 0) (.slice ga gn gc) (.iface pt1 px1) .nilIface hR)
        simp only [set3, Nat.zero_add] at hk3
        have Hk3 := hide' hk3
        have HBf := hide' ((Below.on (HB.out _ _) Bg.out).grown (set3_grown wg (w.heap.size + 1) 0 (.slice ga gn gc) (.iface pt1 px1) .nilIface) (by have := (Below.on (HB.out _ _) Bg.out).size; omega) (by intro j hj; simp at hj; omega))
        have gz := set3_grown wg (w.heap.size + 1) 0 (.slice ga gn gc) (.iface pt1 px1) .nilIface
        have gzs := gz.size
        have hsd := HSw'.out (set3 wg (w.heap.size + 1) 0 (.slice ga gn gc) (.iface pt1 px1) .nilIface) (fun b h1 h2 => (gz.block b (by omega) (by simp; omega)).trans (Cg.block b h2)) (by have := Cg.size; omega)
        have hpo : ∃ B, PthOf (set3 wg (w.heap.size + 1) 0 (.slice ga gn gc) (.iface pt1 px1) .nilIface) (.slice ga gn gc) pth B ∧ ∀ b ∈ B, w.heap.size ≤ b ∧ b < (set3 wg (w.heap.size + 1) 0 (.slice ga gn gc) (.iface pt1 px1) .nilIface).heap.size := ⟨gB, HPg.out.1.agree (fun b hb => gz.block b (HPg.out.2 b hb).2 (by have := (HPg.out.2 b hb).1; simp; omega)), fun b hb => by have := HPg.out.2 b hb; exact ⟨by omega, by omega⟩⟩
        simp only [set3, Nat.zero_add] at hsd hpo
        have HSd := hide' hsd
        have HPo := hide' hpo
        clear hk3 hR gz gzs hsd hpo HPg
        go_wp2_with fail
        obtain ⟨u0, u1, u2, _⟩ := Hk3.out
        refine bodyPost_ret (v := .tuple #[.agg #[.slice ga gn gc, (.iface pt1 px1), .nilIface], .bool true]) (by simp [results, Tryz.results20, go_sem, u0, u1, u2]) rfl ?_
        exact HYs.out HF.out _ _ _ _ _ _ HPo.out HSd.out.1 HSd.out.2 HBf.out
      · have hk3 := row3 (set3_heap (j := 0) (.slice ga gn gc) (.iface pt1 px1) (.iface pt2 px2) hR)
        simp only [set3, Nat.zero_add] at hk3
        have Hk3 := hide' hk3
        have HBf := hide' ((Below.on (HB.out _ _) Bg.out).grown (set3_grown wg (w.heap.size + 1) 0 (.slice ga gn gc) (.iface pt1 px1) (.iface pt2 px2)) (by have := (Below.on (HB.out _ _) Bg.out).size; omega) (by intro j hj; simp at hj; omega))
        have gz := set3_grown wg (w.heap.size + 1) 0 (.slice ga gn gc) (.iface pt1 px1) (.iface pt2 px2)
        have gzs := gz.size
        have hsd := HSw'.out (set3 wg (w.heap.size + 1) 0 (.slice ga gn gc) (.iface pt1 px1) (.iface pt2 px2)) (fun b h1 h2 => (gz.block b (by omega) (by simp; omega)).trans (Cg.block b h2)) (by have := Cg.size; omega)
        have hpo : ∃ B, PthOf (set3 wg (w.heap.size + 1) 0 (.slice ga gn gc) (.iface pt1 px1) (.iface pt2 px2)) (.slice ga gn gc) pth B ∧ ∀ b ∈ B, w.heap.size ≤ b ∧ b < (set3 wg (w.heap.size + 1) 0 (.slice ga gn gc) (.iface pt1 px1) (.iface pt2 px2)).heap.size := ⟨gB, HPg.out.1.agree (fun b hb => gz.block b (HPg.out.2 b hb).2 (by have := (HPg.out.2 b hb).1; simp; omega)), fun b hb => by have := HPg.out.2 b hb; exact ⟨by omega, by omega⟩⟩
        simp only [set3, Nat.zero_add] at hsd hpo
        have HSd := hide' hsd
        have HPo := hide' hpo
        clear hk3 hR gz gzs hsd hpo HPg
        go_wp2_with fail
        obtain ⟨u0, u1, u2, _⟩ := Hk3.out
        refine bodyPost_ret (v := .tuple #[.agg #[.slice ga gn gc, (.iface pt1 px1), (.iface pt2 px2)], .bool true]) (by simp [results, Tryz.results20, go_sem, u0, u1, u2]) rfl ?_
        exact HYs.out HF.out _ _ _ _ _ _ HPo.out HSd.out.1 HSd.out.2 HBf.out
    | false =>
      go_wp2_with fail
      refine (HK.out _ (Below.on (HB.out _ _) B3.out)).mono ?_
      rintro e w4 ⟨rfl, rfl⟩
      cases eb with
      | false =>
        have HF : Hid (ans = false) := by show _ = _; rw [HOk.out]; rfl
        clear HOk
        have hR := (Hbox.out _ _ _ B3.out).2
        obtain ⟨t0, t1, t2, tf⟩ := row3 hR
        have tf0 := tf 0
        have tf1 := tf 1
        have tf2 := tf 2
        have hk3 := row3 (set3_heap (j := 0) (.slice none 0 0) .nilIface .nilIface hR)
        simp only [set3, Nat.zero_add] at hk3
        have Hk3 := hide' hk3
        have HBf := hide' ((Below.on (HB.out _ _) B3.out).grown (set3_grown w3 (w.heap.size + 1) 0 (.slice none 0 0) .nilIface .nilIface) (by have := (Below.on (HB.out _ _) B3.out).size; omega) (by intro j hj; simp at hj; omega))
        clear hk3 hR tf
        go_wp2_with fail
        obtain ⟨u0, u1, u2, _⟩ := Hk3.out
        refine bodyPost_ret (v := .tuple #[.agg #[.slice none 0 0, .nilIface, .nilIface], .bool false]) (by simp [results, Tryz.results20, go_sem, u0, u1, u2]) rfl ?_
        exact HNo.out HF.out _ HBf.out
      | true =>
        have HF : Hid (ans = true) := by show _ = _; rw [HOk.out]; rfl
        clear HOk x0 x1 x7
        have hX := (Hbox.out _ _ _ B3.out).1
        have x0 := cell_of_row _ _ 0 _ _ _ hX
        simp at x0
        clear hX
        go_wp2_with fail
        refine (HGr.out _ (Below.on (HB.out _ _) B3.out)).mono ?_
        rintro e wg ⟨gv, gB, rfl, hgP, hgB, bg⟩
        obtain ⟨ga, gn, gc, rfl⟩ := hgP.form
        have Cg := Below.on C3.out bg
        have zw2 := HSz.out
        have zwk := bg.size
        have zck := C3.out.size
        have Bg := hide' (Below.on B3.out bg)
        clear bg x0
        have hR := (Hbox.out _ _ _ Bg.out).2
        obtain ⟨t0, t1, t2, tf⟩ := row3 hR
        have tf0 := tf 0
        have tf1 := tf 1
        have tf2 := tf 2
        clear tf
        have HPg := hide' (And.intro hgP hgB)
        clear hgP hgB
        rcases hp1 with rfl | ⟨pt1, px1, rfl⟩ <;> rcases hp2 with rfl | ⟨pt2, px2, rfl⟩
        · have hk3 := row3 (set3_heap (j := 0) (.slice ga gn gc) .nilIface .nilIface hR)
          simp only [set3, Nat.zero_add] at hk3
          have Hk3 := hide' hk3
          have HBf := hide' ((Below.on (HB.out _ _) Bg.out).grown (set3_grown wg (w.heap.size + 1) 0 (.slice ga gn gc) .nilIface .nilIface) (by have := (Below.on (HB.out _ _) Bg.out).size; omega) (by intro j hj; simp at hj; omega))
          have gz := set3_grown wg (w.heap.size + 1) 0 (.slice ga gn gc) .nilIface .nilIface
          have gzs := gz.size
          have hsd := HSw'.out (set3 wg (w.heap.size + 1) 0 (.slice ga gn gc) .nilIface .nilIface) (fun b h1 h2 => (gz.block b (by omega) (by simp; omega)).trans (Cg.block b h2)) (by have := Cg.size; omega)
          have hpo : ∃ B, PthOf (set3 wg (w.heap.size + 1) 0 (.slice ga gn gc) .nilIface .nilIface) (.slice ga gn gc) pth B ∧ ∀ b ∈ B, w.heap.size ≤ b ∧ b < (set3 wg (w.heap.size + 1) 0 (.slice ga gn gc) .nilIface .nilIface).heap.size := ⟨gB, HPg.out.1.agree (fun b hb => gz.block b (HPg.out.2 b hb).2 (by have := (HPg.out.2 b hb).1; simp; omega)), fun b hb => by have := HPg.out.2 b hb; exact ⟨by omega, by omega⟩⟩
          simp only [set3, Nat.zero_add] at hsd hpo
          have HSd := hide' hsd
          have HPo := hide' hpo
          clear hk3 hR gz gzs hsd hpo HPg
          go_wp2_with fail
          obtain ⟨u0, u1, u2, _⟩ := Hk3.out
          refine bodyPost_ret (v := .tuple #[.agg #[.slice ga gn gc, .nilIface, .nilIface], .bool true]) (by simp [results, Tryz.results20, go_sem, u0, u1, u2]) rfl ?_
          exact HYs.out HF.out _ _ _ _ _ _ HPo.out HSd.out.1 HSd.out.2 HBf.out
        · have hk3 := row3 (set3_heap (j := 0) (.slice ga gn gc) .nilIface (.iface pt2 px2) hR)
          simp only [set3, Nat.zero_add] at hk3
          have Hk3 := hide' hk3
          have HBf := hide' ((Below.on (HB.out _ _) Bg.out).grown (set3_grown wg (w.heap.size + 1) 0 (.slice ga gn gc) .nilIface (.iface pt2 px2)) (by have := (Below.on (HB.out _ _) Bg.out).size; omega) (by intro j hj; simp at hj; omega))
          have gz := set3_grown wg (w.heap.size + 1) 0 (.slice ga gn gc) .nilIface (.iface pt2 px2)
          have gzs := gz.size
          have hsd := HSw'.out (set3 wg (w.heap.size + 1) 0 (.slice ga gn gc) .nilIface (.iface pt2 px2)) (fun b h1 h2 => (gz.block b (by omega) (by simp; omega)).trans (Cg.block b h2)) (by have := Cg.size; omega)
          have hpo : ∃ B, PthOf (set3 wg (w.heap.size + 1) 0 (.slice ga gn gc) .nilIface (.iface pt2 px2)) (.slice ga gn gc) pth B ∧ ∀ b ∈ B, w.heap.size ≤ b ∧ b < (set3 wg (w.heap.size + 1) 0 (.slice ga gn gc) .nilIface (.iface pt2 px2)).heap.size := ⟨gB, HPg.out.1.agree (fun b hb => gz.block b (HPg.out.2 b hb).2 (by have := (HPg.out.2 b hb).1; simp; omega)), fun b hb => by have := HPg.out.2 b hb; exact ⟨by omega, by omega⟩⟩
          simp only [set3, Nat.zero_add] at hsd hpo
          have HSd := hide' hsd
          have HPo := hide' hpo
          clear hk3 hR gz gzs hsd hpo HPg
          go_wp2_with fail
          obtain ⟨u0, u1, u2, _⟩ := Hk3.out
          refine bodyPost_ret (v := .tuple #[.agg #[.slice ga gn gc, .nilIface, (.iface pt2 px2)], .bool true]) (by simp [results, Tryz.results20, go_sem, u0, u1, u2]) rfl ?_
          exact HYs.out HF.out _ _ _ _ _ _ HPo.out HSd.out.1 HSd.out.2 HBf.out
        · have hk3 := row3 (set3_heap (j := 0) (.slice ga gn gc) (.iface pt1 px1) .nilIface hR)
          simp only [set3, Nat.zero_add] at hk3
          have Hk3 := hide' hk3
          have HBf := hide' ((Below.on (HB.out _ _) Bg.out).grown (set3_grown wg (w.heap.size + 1) 0 (.slice ga gn gc) (.iface pt1 px1) .nilIface) (by have := (Below.on (HB.out _ _) Bg.out).size; omega) (by intro j hj; simp at hj; omega))
          have gz := set3_grown wg (w.heap.size + 1) 0 (.slice ga gn gc) (.iface pt1 px1) .nilIface
          have gzs := gz.size
          have hsd := HSw'.out (set3 wg (w.heap.size + 1) 0 (.slice ga gn gc) (.iface pt1 px1) .nilIface) (fun b h1 h2 => (gz.block b (by omega) (by simp; omega)).trans (Cg.block b h2)) (by have := Cg.size; omega)
          have hpo : ∃ B, PthOf (set3 wg (w.heap.size + 1) 0 (.slice ga gn gc) (.iface pt1 px1) .nilIface) (.slice ga gn gc) pth B ∧ ∀ b ∈ B, w.heap.size ≤ b ∧ b < (set3 wg (w.heap.size + 1) 0 (.slice ga gn gc) (.iface pt1 px1) .nilIface).heap.size := ⟨gB, HPg.out.1.agree (fun b hb => gz.block b (HPg.out.2 b hb).2 (by have := (HPg.out.2 b hb).1; simp; omega)), fun b hb => by have := HPg.out.2 b hb; exact ⟨by omega, by omega⟩⟩
          simp only [set3, Nat.zero_add] at hsd hpo
          have HSd := hide' hsd
          have HPo := hide' hpo
          clear hk3 hR gz gzs hsd hpo HPg
          go_wp2_with fail
          obtain ⟨u0, u1, u2, _⟩ := Hk3.out
          refine bodyPost_ret (v := .tuple #[.agg #[.slice ga gn gc, (.iface pt1 px1), .nilIface], .bool true]) (by simp [results, Tryz.results20, go_sem, u0, u1, u2]) rfl ?_
          exact HYs.out HF.out _ _ _ _ _ _ HPo.out HSd.out.1 HSd.out.2 HBf.out
        · have hk3 := row3 (set3_heap (j := 0) (.slice ga gn gc) (.iface pt1 px1) (.iface pt2 px2) hR)
          simp only [set3, Nat.zero_add] at hk3
          have Hk3 := hide' hk3
          have HBf := hide' ((Below.on (HB.out _ _) Bg.out).grown (set3_grown wg (w.heap.size + 1) 0 (.slice ga gn gc) (.iface pt1 px1) (.iface pt2 px2)) (by have := (Below.on (HB.out _ _) Bg.out).size; omega) (by intro j hj; simp at hj; omega))
          have gz := set3_grown wg (w.heap.size + 1) 0 (.slice ga gn gc) (.iface pt1 px1) (.iface pt2 px2)
          have gzs := gz.size
          have hsd := HSw'.out (set3 wg (w.heap.size + 1) 0 (.slice ga gn gc) (.iface pt1 px1) (.iface pt2 px2)) (fun b h1 h2 => (gz.block b (by omega) (by simp; omega)).trans (Cg.block b h2)) (by have := Cg.size; omega)
          have hpo : ∃ B, PthOf (set3 wg (w.heap.size + 1) 0 (.slice ga gn gc) (.iface pt1 px1) (.iface pt2 px2)) (.slice ga gn gc) pth B ∧ ∀ b ∈ B, w.heap.size ≤ b ∧ b < (set3 wg (w.heap.size + 1) 0 (.slice ga gn gc) (.iface pt1 px1) (.iface pt2 px2)).heap.size := ⟨gB, HPg.out.1.agree (fun b hb => gz.block b (HPg.out.2 b hb).2 (by have := (HPg.out.2 b hb).1; simp; omega)), fun b hb => by have := HPg.out.2 b hb; exact ⟨by omega, by omega⟩⟩
          simp only [set3, Nat.zero_add] at hsd hpo
          have HSd := hide' hsd
          have HPo := hide' hpo
          clear hk3 hR gz gzs hsd hpo HPg
          go_wp2_with fail
          obtain ⟨u0, u1, u2, _⟩ := Hk3.out
          refine bodyPost_ret (v := .tuple #[.agg #[.slice ga gn gc, (.iface pt1 px1), (.iface pt2 px2)], .bool true]) (by simp [results, Tryz.results20, go_sem, u0, u1, u2]) rfl ?_
          exact HYs.out HF.out _ _ _ _ _ _ HPo.out HSd.out.1 HSd.out.2 HBf.out
end Go.Proofs.YtdhlmcgbgdljmaaGreatDoor
/-
  Which type a part is: the type assertions of a part, at each type.
-/
namespace Go.Proofs.YtdhlmcgbgdljmaaGreatDoor
open Go.RowKit
set_option linter.unusedVariables false
set_option linter.unusedSimpArgs false

theorem nobool_nullPart (x : Value) (w : World) : (Instr.typeAssert (.iface 83 x) 53 85 true).run Tryz.prog w = .ok (.tuple #[.agg #[.int .i64 0], .bool false]) w := by kernel_rfl
theorem nobool_unknownPart (x : Value) (w : World) : (Instr.typeAssert (.iface 103 x) 53 85 true).run Tryz.prog w = .ok (.tuple #[.agg #[.int .i64 0], .bool false]) w := by kernel_rfl
theorem nobool_intPart (x : Value) (w : World) : (Instr.typeAssert (.iface 87 x) 53 85 true).run Tryz.prog w = .ok (.tuple #[.agg #[.int .i64 0], .bool false]) w := by kernel_rfl
theorem nobool_textPart (x : Value) (w : World) : (Instr.typeAssert (.iface 90 x) 53 85 true).run Tryz.prog w = .ok (.tuple #[.agg #[.int .i64 0], .bool false]) w := by kernel_rfl
theorem nobool_listPart (x : Value) (w : World) : (Instr.typeAssert (.iface 94 x) 53 85 true).run Tryz.prog w = .ok (.tuple #[.agg #[.int .i64 0], .bool false]) w := by kernel_rfl
theorem nobool_mapPart (x : Value) (w : World) : (Instr.typeAssert (.iface 98 x) 53 85 true).run Tryz.prog w = .ok (.tuple #[.agg #[.int .i64 0], .bool false]) w := by kernel_rfl
theorem noint_nullPart (x : Value) (w : World) : (Instr.typeAssert (.iface 83 x) 53 87 true).run Tryz.prog w = .ok (.tuple #[.agg #[.int .i64 0], .bool false]) w := by kernel_rfl
theorem noint_unknownPart (x : Value) (w : World) : (Instr.typeAssert (.iface 103 x) 53 87 true).run Tryz.prog w = .ok (.tuple #[.agg #[.int .i64 0], .bool false]) w := by kernel_rfl
theorem noint_textPart (x : Value) (w : World) : (Instr.typeAssert (.iface 90 x) 53 87 true).run Tryz.prog w = .ok (.tuple #[.agg #[.int .i64 0], .bool false]) w := by kernel_rfl
theorem noint_listPart (x : Value) (w : World) : (Instr.typeAssert (.iface 94 x) 53 87 true).run Tryz.prog w = .ok (.tuple #[.agg #[.int .i64 0], .bool false]) w := by kernel_rfl
theorem noint_mapPart (x : Value) (w : World) : (Instr.typeAssert (.iface 98 x) 53 87 true).run Tryz.prog w = .ok (.tuple #[.agg #[.int .i64 0], .bool false]) w := by kernel_rfl
theorem notext_nullPart (x : Value) (w : World) : (Instr.typeAssert (.iface 83 x) 53 90 true).run Tryz.prog w = .ok (.tuple #[.agg #[.string ⟨#[]⟩], .bool false]) w := by kernel_rfl
theorem notext_unknownPart (x : Value) (w : World) : (Instr.typeAssert (.iface 103 x) 53 90 true).run Tryz.prog w = .ok (.tuple #[.agg #[.string ⟨#[]⟩], .bool false]) w := by kernel_rfl
theorem notext_listPart (x : Value) (w : World) : (Instr.typeAssert (.iface 94 x) 53 90 true).run Tryz.prog w = .ok (.tuple #[.agg #[.string ⟨#[]⟩], .bool false]) w := by kernel_rfl
theorem notext_mapPart (x : Value) (w : World) : (Instr.typeAssert (.iface 98 x) 53 90 true).run Tryz.prog w = .ok (.tuple #[.agg #[.string ⟨#[]⟩], .bool false]) w := by kernel_rfl
theorem nolist_nullPart (x : Value) (w : World) : (Instr.typeAssert (.iface 83 x) 53 94 true).run Tryz.prog w = .ok (.tuple #[.agg #[.slice none 0 0], .bool false]) w := by kernel_rfl
theorem nolist_unknownPart (x : Value) (w : World) : (Instr.typeAssert (.iface 103 x) 53 94 true).run Tryz.prog w = .ok (.tuple #[.agg #[.slice none 0 0], .bool false]) w := by kernel_rfl
theorem nolist_mapPart (x : Value) (w : World) : (Instr.typeAssert (.iface 98 x) 53 94 true).run Tryz.prog w = .ok (.tuple #[.agg #[.slice none 0 0], .bool false]) w := by kernel_rfl
theorem nomap_nullPart (x : Value) (w : World) : (Instr.typeAssert (.iface 83 x) 53 98 true).run Tryz.prog w = .ok (.tuple #[.agg #[.map none], .bool false]) w := by kernel_rfl
theorem nomap_unknownPart (x : Value) (w : World) : (Instr.typeAssert (.iface 103 x) 53 98 true).run Tryz.prog w = .ok (.tuple #[.agg #[.map none], .bool false]) w := by kernel_rfl
theorem is_boolPart (x : Value) (w : World) : (Instr.typeAssert (.iface 85 x) 53 85 true).run Tryz.prog w = .ok (.tuple #[x, .bool true]) w := by kernel_rfl
theorem is_intPart (x : Value) (w : World) : (Instr.typeAssert (.iface 87 x) 53 87 true).run Tryz.prog w = .ok (.tuple #[x, .bool true]) w := by kernel_rfl
theorem is_textPart (x : Value) (w : World) : (Instr.typeAssert (.iface 90 x) 53 90 true).run Tryz.prog w = .ok (.tuple #[x, .bool true]) w := by kernel_rfl
theorem is_listPart (x : Value) (w : World) : (Instr.typeAssert (.iface 94 x) 53 94 true).run Tryz.prog w = .ok (.tuple #[x, .bool true]) w := by kernel_rfl
theorem is_mapPart (x : Value) (w : World) : (Instr.typeAssert (.iface 98 x) 53 98 true).run Tryz.prog w = .ok (.tuple #[x, .bool true]) w := by kernel_rfl

end Go.Proofs.YtdhlmcgbgdljmaaGreatDoor
