/-
  Texts that a law leans on, one behind the other; no statement is proved here.
-/
import Derived.Test.YtconcdjgdiccaaaPk5
import Derived.Test.YtconcdjgdiccaaaPk0
import Derived.WalkKit
import Derived.ProofKit
import Derived.ChangeSlices
import Derived.ChangeArms
/-
  take, partOf of the program, at every value.
-/
namespace Go.Proofs.Ytconcdjgdiccaaa
open Go.RowKit
set_option linter.unusedVariables false
set_option linter.unusedSimpArgs false

/-- A leaf that was taken in. -/
theorem took_leaf {d : Nat} {vk vn : Int} {vs : List Int} {vK : List (List Int)} {deep n q : Nat} {w : World} {a2 a3 a4 : Option Addr} {l2 l3 l4 p2 p3 p4 : Nat} {p : Value} (hd : deep ≤ 5) (hn : n < 40) (hs : shapeB vk vn vs vK 0 = true)
    (hp : ∀ R w', PSeg R w' (d + 1) p (vk, vn, vs, vK, [])) (e : Ending) (w' : World) (h : Ahead w q n vk vn a2 a3 a4 l2 l3 l4 p2 p3 p4 w' ∧ e = .returned (.tuple #[p, .bool true])) : TakeEnd (d + 1) (vk, vn, vs, vK, []) deep n q w e w' := by
  obtain ⟨hA, rfl⟩ := h
  have e1 : partsV (d + 1) (vk, vn, vs, vK, []) = 1 := by rw [parts_succ]; simp [pre]
  refine ⟨hA.1, .inl ⟨p, rfl, (good_succ _ _ _ _ _ _ _).2 ⟨hd, by simpa using hs, fun j h => by simp at h⟩, by rw [e1]; omega, by rw [e1]; exact hA.2.1, hp _ _⟩⟩

theorem no_take {d : Nat} {v : Vl d} {deep n q : Nat} {w : World} {vk vn : Int} {a2 a3 a4 : Option Addr} {l2 l3 l4 p2 p3 p4 : Nat} (hno : ¬ (goodB d v deep = true ∧ n + partsV d v ≤ 40)) (e : Ending) (w' : World) (h : Ahead w q n vk vn a2 a3 a4 l2 l3 l4 p2 p3 p4 w' ∧ e = .returned (.tuple #[.nilIface, .bool false])) : TakeEnd d v deep n q w e w' := by
  obtain ⟨hA, rfl⟩ := h
  exact ⟨hA.1, .inr ⟨rfl, hno⟩⟩

theorem bad_shape {d : Nat} {vk vn : Int} {vs : List Int} {vK : List (List Int)} {vL : List (Vl d)} {deep n : Nat} (h : shapeB vk vn vs vK vL.length = false) : ¬ (goodB (d + 1) (vk, vn, vs, vK, vL) deep = true ∧ n + partsV (d + 1) (vk, vn, vs, vK, vL) ≤ 40) := fun ⟨h1, _⟩ => by
  have := ((good_succ _ _ _ _ _ _ _).1 h1).2.1
  rw [h] at this
  simp at this

set_option maxHeartbeats 1600000 in
theorem take_succ (d : Nat) (ih : TakeAt d) : TakeAt (d + 1) := by
  intro N q n c v deep w hv hNq hq hc hn hd
  show Calls _ _ _ _ (TakeEnd (d + 1) v deep n q w)
  obtain ⟨c0, c1, c2, c3, c4⟩ := c
  obtain ⟨vk, vn, vs, vK, vL⟩ := v
  obtain ⟨e0, e1, ht, hk, hl⟩ := (VSeg_succ _ _ _ _ _).1 hv
  simp only at e0 e1 ht hk hl
  subst e0
  subst e1
  clear hv
  simp only
  have HT := ht
  have HK := hk
  have HL := hl
  obtain ⟨a2, p2, rfl, s2, l2, m2, _, _⟩ := ht
  obtain ⟨a3, p3, rfl, _, _, _, _⟩ := hk
  obtain ⟨a4, p4, rfl, _, _, _, _⟩ := hl
  by_cases q1 : n = 40
  · refine (take_over q n vk vn a2 a3 a4 _ _ _ p2 p3 p4 deep w hq hc q1).mono fun e w' h => ⟨h.1, .inr ⟨h.2, fun ⟨_, h2⟩ => ?_⟩⟩
    have := parts_pos d (vk, vn, vs, vK, vL)
    omega
  have hn' : n < 40 := by omega
  by_cases q2 : 5 < deep
  · refine (take_deep q n vk vn _ _ _ a2 a3 a4 p2 p3 p4 deep w hq hc hn' q2).mono (no_take fun ⟨h1, _⟩ => ?_)
    have := ((good_succ _ _ _ _ _ _ _).1 h1).1
    omega
  have hD1 : deep ≤ 5 := by omega
  by_cases q3 : bareB vk vn vs.length vK.length vL.length = false
  · exact (take_bare q n vk vn _ _ _ a2 a3 a4 p2 p3 p4 deep w hq hc hn' hD1 q3).mono (no_take (bad_shape (by simp [shapeB, q3])))
  have q4 : bareB vk vn vs.length vK.length vL.length = true := by simpa using q3
  clear q1 q2 q3
  by_cases k0 : vk = 0
  · subst k0
    have : vn = 0 ∧ vs = [] ∧ vK = [] ∧ vL = [] := by simp [bareB] at q4; simpa [and_assoc] using q4
    obtain ⟨rfl, rfl, rfl, rfl⟩ := this
    exact (take_null q n a2 a3 a4 p2 p3 p4 deep w hq hc hn' hD1).mono (took_leaf hD1 hn' (by simp [shapeB, bareB]) fun R w' => .inl ⟨rfl, rfl⟩)
  by_cases k6 : vk = 6
  · subst k6
    have : vn = 0 ∧ vs = [] ∧ vK = [] ∧ vL = [] := by simp [bareB] at q4; simpa [and_assoc] using q4
    obtain ⟨rfl, rfl, rfl, rfl⟩ := this
    exact (take_unknown q n a2 a3 a4 p2 p3 p4 deep w hq hc hn' hD1).mono (took_leaf hD1 hn' (by simp [shapeB, bareB]) fun R w' => .inr (.inl ⟨rfl, rfl⟩))
  by_cases k1 : vk = 1
  · subst k1
    have : vs = [] ∧ vK = [] ∧ vL = [] := by simp [bareB] at q4; simpa [and_assoc] using q4
    obtain ⟨rfl, rfl, rfl⟩ := this
    by_cases v0 : vn = 0
    · subst v0
      exact (take_bool0 q n a2 a3 a4 p2 p3 p4 deep w hq hc hn' hD1).mono (took_leaf hD1 hn' (by simp [shapeB, bareB]) fun R w' => .inr (.inr (.inl ⟨rfl, rfl⟩)))
    by_cases v1 : vn = 1
    · subst v1
      exact (take_bool1 q n a2 a3 a4 p2 p3 p4 deep w hq hc hn' hD1).mono (took_leaf hD1 hn' (by simp [shapeB, bareB]) fun R w' => .inr (.inr (.inl ⟨rfl, rfl⟩)))
    · exact (take_boolno q n vn v0 v1 a2 a3 a4 p2 p3 p4 deep w hq hc hn' hD1).mono (no_take (bad_shape (by simp [shapeB, bareB, v0, v1])))
  by_cases k2 : vk = 2
  · subst k2
    have : vs = [] ∧ vK = [] ∧ vL = [] := by simp [bareB] at q4; simpa [and_assoc] using q4
    obtain ⟨rfl, rfl, rfl⟩ := this
    by_cases v0 : -1000000000000 ≤ vn
    · by_cases v1 : vn ≤ 1000000000000
      · exact (take_int q n vn v0 v1 a2 a3 a4 p2 p3 p4 deep w hq hc hn' hD1).mono (took_leaf hD1 hn' (by simp [shapeB, bareB, intB, v0, v1]) fun R w' => .inr (.inr (.inr (.inl ⟨rfl, rfl⟩))))
      · exact (take_inthigh q n vn v0 v1 a2 a3 a4 p2 p3 p4 deep w hq hc hn' hD1).mono (no_take (bad_shape (by simp [shapeB, bareB, intB, v1])))
    · exact (take_intlow q n vn v0 a2 a3 a4 p2 p3 p4 deep w hq hc hn' hD1).mono (no_take (bad_shape (by simp [shapeB, bareB, intB, v0])))
  by_cases k3 : vk = 3
  · subst k3
    have : vn = 0 ∧ vK = [] ∧ vL = [] := by simp [bareB] at q4; simpa [and_assoc] using q4
    obtain ⟨rfl, rfl, rfl⟩ := this
    cases htb : textB vs with
    | true => exact (take_text q n N vs hNq a2 a3 a4 p2 p3 p4 deep w hq hc hn' hD1 HT htb).mono (took_leaf hD1 hn' (by simp [shapeB, bareB, htb]) fun R w' => .inr (.inr (.inr (.inr (.inl ⟨rfl, rfl⟩)))))
    | false => exact (take_textno q n N vs hNq a2 a3 a4 p2 p3 p4 deep w hq hc hn' hD1 HT htb).mono (no_take (bad_shape (by simp [shapeB, bareB, htb])))
  by_cases k4 : vk = 4
  · subst k4
    have : vn = 0 ∧ vs = [] ∧ vK = [] := by simp [bareB] at q4; simpa [and_assoc] using q4
    obtain ⟨rfl, rfl, rfl⟩ := this
    exact take_list d ih N q n _ vL a2 a3 p2 p3 deep w HL hNq hq hc hn' hD1
  by_cases k5 : vk = 5
  · subst k5
    have : vn = 0 ∧ vs = [] := by simp [bareB] at q4; simpa [and_assoc] using q4
    obtain ⟨rfl, rfl⟩ := this
    exact take_map d ih N q n _ _ vK vL a2 p2 deep w HK HL hNq hq hc hn' hD1
  · have : vn = 0 ∧ vs = [] ∧ vK = [] ∧ vL = [] := by simp [bareB, k1, k2, k3, k4, k5] at q4; simpa [and_assoc] using q4
    obtain ⟨rfl, rfl, rfl, rfl⟩ := this
    exact (take_none q n vk k0 k1 k2 k3 k4 k5 k6 a2 a3 a4 p2 p3 p4 deep w hq hc hn' hD1).mono (no_take (bad_shape (by simp [shapeB, bareB, k0, k1, k2, k3, k4, k5, k6])))

theorem take_any (d : Nat) : TakeAt d := by
  induction d with
  | zero => intro N q n c v deep w hv; exact hv.elim
  | succ d ih => exact take_succ d ih

/-- What partOf says. -/
def PartEnd (d : Nat) (v : Vl d) (w : World) (e : Ending) (w' : World) : Prop :=
  Below w.heap.size w w' ∧ ((∃ p, e = .returned (.tuple #[p, .bool true]) ∧ okB d v = true ∧ PSeg (fun b => w.heap.size ≤ b ∧ b < w'.heap.size) w' d p v) ∨ (e = .returned (.tuple #[.nilIface, .bool false]) ∧ okB d v = false))

set_option maxHeartbeats 1600000 in
theorem partOf_any (d N : Nat) (c0 c1 c2 c3 c4 : Value) (v : Vl d) (w : World) (hv : VSeg (fun b => b < N) w d (c0, c1, c2, c3, c4) v) (hN : N ≤ w.heap.size) :
    Calls Try.prog 16 #[.agg #[c0, c1, c2, c3, c4]] w (PartEnd d v w) := by
  have b0 : ∀ o o' : Obj, Below w.heap.size w ((w.alloc o).alloc o') := fun o o' => ((Below.refl _ _).alloc (Nat.le_refl _) o).alloc (by simp) o'
  have HC : Hid (∀ o : Obj, Calls Try.prog 23 #[.pointer (some ⟨w.heap.size + 1, 0, none⟩), .agg #[c0, c1, c2, c3, c4], .int .i64 1] ((w.alloc o).alloc (.cells #[.int .i64 0] 53)) (TakeEnd d v 1 0 (w.heap.size + 1) ((w.alloc o).alloc (.cells #[.int .i64 0] 53)))) := fun o =>
    take_any d N (w.heap.size + 1) 0 (c0, c1, c2, c3, c4) v 1 ((w.alloc o).alloc (.cells #[.int .i64 0] 53)) (VSeg.agree (agree_below ((b0 o _).mono hN)) d hv) (by omega) (by rw [size2]; omega) (two_boxes w o _).2 (by omega) (by omega)
  have Hb := hide' b0
  have hsz := fun o o' => size2 w o o'
  have Hsz := hide' hsz
  clear b0 hsz
  go_enter Try.func16, Try.ntmps16
  go_wp2_with fail
  refine (HC.out _).mono ?_
  rintro e w1 ⟨hg1, hcase⟩
  have hB1 := (Hb.out _ _).grown hg1 (by rw [Hsz.out]; omega) (by intro j hj; simp at hj; omega)
  rcases hcase with ⟨p, rfl, h1, h2, h3, h4⟩ | ⟨rfl, hno⟩
  · have hE : Hid (okB d v = true ∧ PSeg (fun b => w.heap.size ≤ b ∧ b < w1.heap.size) w1 d p v) := ⟨by simp [okB, h1]; omega, PSeg.carry (fun b hb => ⟨by have := hb.1; rw [Hsz.out] at this; omega, hb.2⟩) (fun b _ => rfl) d h4⟩
    clear h1 h2 h3 h4 hg1
    go_wp2
    go_ret2
    exact ⟨hB1, .inl ⟨_, rfl, hE.out⟩⟩
  · have hE : Hid (okB d v = false) := by
      show okB d v = false
      cases h : okB d v with
      | false => rfl
      | true => simp [okB] at h; exact absurd ⟨h.1, by omega⟩ hno
    clear hno hg1
    go_wp2
    go_ret2
    exact ⟨hB1, .inr ⟨rfl, hE.out⟩⟩

end Go.Proofs.Ytconcdjgdiccaaa
/-
  ValOk of the program: it tells whether a value may be, and turns nothing old; no statement is proved here.
-/
namespace Go.Proofs.Ytconcdjgdiccaaa
open Go.RowKit
set_option linter.unusedVariables false
set_option linter.unusedSimpArgs false

set_option maxHeartbeats 1600000 in
theorem impl_ValOk_any (d N : Nat) (c0 c1 c2 c3 c4 : Value) (v : Vl d) (w : World) (hv : VSeg (fun b => b < N) w d (c0, c1, c2, c3, c4) v) (hN : N ≤ w.heap.size) :
    Calls Try.prog 7 #[.agg #[c0, c1, c2, c3, c4]] w fun e w' => e = .returned (.bool (okB d v)) ∧ Below w.heap.size w w' := by
  have b0 : ∀ o : Obj, Below w.heap.size w (w.alloc o) := fun o => (Below.refl _ _).alloc (Nat.le_refl _) o
  have HC : Hid (∀ o : Obj, Calls Try.prog 16 #[.agg #[c0, c1, c2, c3, c4]] (w.alloc o) (PartEnd d v (w.alloc o))) := fun o =>
    partOf_any d N c0 c1 c2 c3 c4 v (w.alloc o) (VSeg.agree (agree_below ((b0 o).mono hN)) d hv) (by have := (b0 o).size; omega)
  have Hb := hide' b0
  clear b0
  go_enter Try.func7, Try.ntmps7
  go_wp2_with fail
  refine (HC.out _).mono ?_
  rintro e w1 ⟨b1, hcase⟩
  have B1 := Below.on (Hb.out _) b1
  rcases hcase with ⟨p, rfl, h1, _⟩ | ⟨rfl, h1⟩
  · have H1 := hide' h1
    clear b1 h1
    go_wp2
    go_ret
    exact ⟨ret_bool H1.out.symm, B1⟩
  · have H1 := hide' h1
    clear b1 h1
    go_wp2
    go_ret
    exact ⟨ret_bool H1.out.symm, B1⟩
end Go.Proofs.Ytconcdjgdiccaaa
/-
  FnExactValOk answers true, whatever value it is handed; it makes new memory and turns nothing old.
-/
namespace Go.Proofs.Ytconcdjgdiccaaa
open Go.RowKit
set_option linter.unusedVariables false
set_option linter.unusedSimpArgs false

/-- What a call has made for itself can be read by whoever comes behind it. -/
theorem VOwn.below {w w' : World} {d : Nat} {c : Value × Value × Value × Value × Value} {v : Vl d} {B : List Nat} (h : VOwn w d c v B) (hb : Below w.heap.size w w') : VSeg (fun b => b < w.heap.size) w' d c v :=
  VSeg.agree (agree_below hb) d (VSeg.mono (fun b hb => VOwn.lt d h b hb) d (VOwn.seg d h))

set_option maxHeartbeats 1600000 in
theorem walk_FnExactValOk (d : Nat) (c0 c1 c2 c3 c4 : Value) (v : Vl d) (w : World) (hv : VSeg (fun b => b < w.heap.size) w d (c0, c1, c2, c3, c4) v) :
    Calls Try.prog 3 #[.agg #[c0, c1, c2, c3, c4]] w fun e w' => e = .returned (.bool true) ∧ Below w.heap.size w w' := by
  have b0 : ∀ o : Obj, Below w.heap.size w (w.alloc o) := fun o => (Below.refl _ _).alloc (Nat.le_refl _) o
  have HV : Hid (∀ wx, Below w.heap.size w wx → VSeg (fun b => b < w.heap.size) wx d (c0, c1, c2, c3, c4) v) := fun wx hb => VSeg.agree (agree_below hb) d hv
  have HS : Hid (∀ wx, Below w.heap.size w wx → Calls Try.prog 4 #[.agg #[c0, c1, c2, c3, c4], .int .i64 1048576] wx fun e w' => e = .returned (.int .i64 (less 1048576 (szV d v))) ∧ Below wx.heap.size wx w') := fun wx hb =>
    szValue_any d w.heap.size (c0, c1, c2, c3, c4) v 1048576 wx (HV.out wx hb) hb.size (by omega) (by omega)
  have hbox : ∀ o wx, Below (w.alloc o).heap.size (w.alloc o) wx → wx.heap[w.heap.size]? = some o := fun o wx h => box_row h
  have Hbox := hide' hbox
  have Hb := hide' b0
  obtain ⟨ck, cn, a2, l2, p2, a3, l3, p3, a4, l4, p4, rfl, rfl, rfl, rfl, rfl⟩ := VSeg.form d hv
  clear b0 hbox hv
  by_cases hz : (1048576 : Int) < szV d v
  · have hl : less 1048576 (szV d v) = -1 := less_no _ _ hz
    rw [hl] at HS
    clear hl
    go_enter Try.func3, Try.ntmps3
    go_wp2_with fail
    refine (HS.out _ (Hb.out _)).mono ?_
    rintro e w1 ⟨rfl, b1⟩
    have B1 := Below.on (Hb.out _) b1
    clear b1
    go_wp2
    go_ret
    exact ⟨rfl, B1⟩
  · have hl : less 1048576 (szV d v) = 1048576 - szV d v := less_yes _ _ hz
    rw [hl] at HS
    have hz0 : 0 ≤ (1048576 : Int) - szV d v := by omega
    have hz1 : (1048576 : Int) - szV d v ≤ 1048576 := by omega
    have HZ : Hid (szV d v ≤ 1048576) := by show szV d v ≤ 1048576; omega
    have HT : Hid (∀ wx, Below w.heap.size w wx → Calls Try.prog 6 #[.agg #[.int .i64 ck, .int .i64 cn, .slice a2 l2 p2, .slice a3 l3 p3, .slice a4 l4 p4]] wx fun e w' => ∃ c0 c1 c2 c3 c4, e = .returned (.agg #[c0, c1, c2, c3, c4]) ∧ ∃ B, VOwn w' d (c0, c1, c2, c3, c4) v B ∧ (∀ b ∈ B, wx.heap.size ≤ b ∧ b < w'.heap.size) ∧ Below wx.heap.size wx w') := fun wx hb =>
      toValue_any d w.heap.size (.int .i64 ck, .int .i64 cn, .slice a2 l2 p2, .slice a3 l3 p3, .slice a4 l4 p4) v wx (HV.out wx hb) hb.size HZ.out
    have HEq : Hid (∀ (N : Nat) (c c' : Value × Value × Value × Value × Value) (wx : World), VSeg (fun b => b < N) wx d c v → VSeg (fun b => b < N) wx d c' v → N ≤ wx.heap.size → Calls Try.prog 8 #[.agg #[c.1, c.2.1, c.2.2.1, c.2.2.2.1, c.2.2.2.2], .agg #[c'.1, c'.2.1, c'.2.2.1, c'.2.2.2.1, c'.2.2.2.2]] wx fun e w' => e = .returned (.bool true) ∧ Below wx.heap.size wx w') := fun N c c' wx h1 h2 h3 => eqValue_any d N c c' v wx h1 h2 h3 HZ.out
    generalize szV d v = sz at *
    clear hl hz HV
    go_enter Try.func3, Try.ntmps3
    go_wp2_with fail
    refine (HS.out _ (Hb.out _)).mono ?_
    rintro e w1 ⟨rfl, b1⟩
    have B1 := Below.on (Hb.out _) b1
    have hr1 := Hbox.out _ _ b1
    obtain ⟨y0, y1, y2, y3, y4, _⟩ := row5 hr1
    have HT1 := hide' (HT.out w1 B1)
    have Hb1 := hide' b1
    have HB1 := hide' B1
    clear b1 B1 hr1 HS
    go_wp2_with fail
    refine HT1.out.mono ?_
    rintro e w2 ⟨u0, u1, u2, u3, u4, rfl, B, hO2, hB2, b2⟩
    have hS2 := hide' (spec_ValOk_any d w2.heap.size u0 u1 u2 u3 u4 v w2 (hO2.below (Below.refl _ _)) (Nat.le_refl _))
    have b12 := Below.on Hb1.out b2
    have B2 := hide' (Below.on HB1.out b2)
    clear HT1 Hb1 HB1 hO2 hB2 b2 y0 y1 y2 y3 y4
    go_wp2_with fail
    refine hS2.out.mono ?_
    rintro e w3 ⟨rfl, b3⟩
    have b13 := Below.on b12 b3
    have B3 := hide' (Below.on B2.out b3)
    obtain ⟨y0, y1, y2, y3, y4, _⟩ := row5 (Hbox.out _ _ b13)
    have HT3 := hide' (HT.out w3 B3.out)
    have Hb3 := hide' b13
    clear b12 b3 b13 B2 hS2
    go_wp2_with fail
    refine HT3.out.mono ?_
    rintro e w4 ⟨x0, x1, x2, x3, x4, rfl, B', hO4, hB4, b4⟩
    obtain ⟨xk, xn, s2, m2, q2, s3, m3, q3, s4, m4, q4, rfl, rfl, rfl, rfl, rfl⟩ := VOwn.form d hO4
    have b14 := Below.on Hb3.out b4
    have B4 := Below.on B3.out b4
    have bal : Below w4.heap.size w4 (w4.alloc (.cells #[.int .i64 xk, .int .i64 xn, .slice s2 m2 q2, .slice s3 m3 q3, .slice s4 m4 q4] 31)) := (Below.refl _ _).alloc (Nat.le_refl _) _
    have hI4 := hide' (impl_ValOk_any d w4.heap.size _ _ _ _ _ v _ (hO4.below bal) bal.size)
    have HO4 := hide' hO4
    have HB4 := hide' B4
    have Hb4 := hide' b14
    have Hbal := hide' bal
    clear hO4 hB4 b4 b14 B4 bal HT3 B3 Hb3 y0 y1 y2 y3 y4
    go_wp2_with fail
    refine hI4.out.mono ?_
    rintro e w5 ⟨rfl, b5⟩
    have hx5 : w5.heap[w4.heap.size]? = some (.cells #[.int .i64 xk, .int .i64 xn, .slice s2 m2 q2, .slice s3 m3 q3, .slice s4 m4 q4] 31) := box_row b5
    have b15 := Below.on (Below.on Hb4.out Hbal.out) b5
    have b45 := Below.on Hbal.out b5
    have B5 := Below.on HB4.out b45
    have hz5 : w4.heap.size < w5.heap.size := (Array.getElem?_eq_some_iff.1 hx5).1
    obtain ⟨y0, y1, y2, y3, y4, _⟩ := row5 (Hbox.out _ _ b15)
    obtain ⟨v0, v1, v2, v3, v4, _⟩ := row5 hx5
    have HTd : Hid (Calls Try.prog 6 #[.agg #[.int .i64 ck, .int .i64 cn, .slice a2 l2 p2, .slice a3 l3 p3, .slice a4 l4 p4]] w5.drew fun e w6 => ∃ z0 z1 z2 z3 z4, e = .returned (.agg #[z0, z1, z2, z3, z4]) ∧
        (w6.cell? ⟨w4.heap.size, 0, none⟩ = some (.int .i64 xk) ∧ w6.cell? ⟨w4.heap.size, 1, none⟩ = some (.int .i64 xn) ∧ w6.cell? ⟨w4.heap.size, 2, none⟩ = some (.slice s2 m2 q2) ∧ w6.cell? ⟨w4.heap.size, 3, none⟩ = some (.slice s3 m3 q3) ∧ w6.cell? ⟨w4.heap.size, 4, none⟩ = some (.slice s4 m4 q4)) ∧
        Hid (Calls Try.prog 8 #[.agg #[.int .i64 xk, .int .i64 xn, .slice s2 m2 q2, .slice s3 m3 q3, .slice s4 m4 q4], .agg #[z0, z1, z2, z3, z4]] w6 fun e w7 => e = .returned (.bool true) ∧ Below w.heap.size w w7)) := by
      refine (HT.out w5.drew B5.drew).mono ?_
      rintro e w6 ⟨z0, z1, z2, z3, z4, rfl, B6, hO6, hB6, b6⟩
      have hx6 := (b6.block w4.heap.size hz5).trans hx5
      obtain ⟨f0, f1, f2, f3, f4, _⟩ := row5 hx6
      have b46 : Below w4.heap.size w4 w6 := Below.on b45.drew b6
      have B6' : Below w.heap.size w w6 := Below.on B5.drew b6
      refine ⟨z0, z1, z2, z3, z4, rfl, ⟨f0, f1, f2, f3, f4⟩, ?_⟩
      exact (HEq.out w6.heap.size (.int .i64 xk, .int .i64 xn, .slice s2 m2 q2, .slice s3 m3 q3, .slice s4 m4 q4) (z0, z1, z2, z3, z4) w6 (VSeg.mono (fun b hb => Nat.lt_of_lt_of_le hb b46.size) d (HO4.out.below b46)) (hO6.below (Below.refl _ _)) (Nat.le_refl _)).mono fun e w7 h => ⟨h.1, Below.on B6' h.2⟩
    have Hx5 := hide' hx5
    have Hb45 := hide' b45
    have HB5 := hide' B5
    clear hI4 hx5 b5 b15 b45 B5 Hbal HB4 Hb4
    generalize okB d v = ok at *
    go_wp2_with fail
    go_region_with (first
      | (go_at_call 6; refine HTd.out.mono ?_; rintro e w6 ⟨z0, z1, z2, z3, z4, rfl, ⟨f0, f1, f2, f3, f4⟩, hE6⟩)
      | (go_at_call 8; refine hE6.out.mono ?_; rintro e w7 ⟨rfl, B7⟩))
    all_goals
      go_wp2
      go_ret
      exact ⟨rfl, B7⟩
end Go.Proofs.Ytconcdjgdiccaaa
/-
  A text that came in, as its reading has it, can be read: 'TSeg'.
-/
namespace Go.Proofs.Ytconcdjgdiccaaa
open Go.ChangeShapes Go.WideShapes Go.ChangeAt Go.RowKit
set_option linter.unusedVariables false
set_option linter.unusedSimpArgs false
set_option maxRecDepth 100000

theorem cellsT : Try.prog.cellsOf 22 = 1 := by kernel_rfl
theorem cellsI : Try.prog.cellsOf 3 = 1 := by kernel_rfl

theorem list_of {α : Type} {Q : Nat → α → Prop} : ∀ n, (∀ i, i < n → ∃ x, Q i x) → ∃ l : List α, l.length = n ∧ ∀ i (h : i < l.length), Q i l[i]
  | 0, _ => ⟨[], rfl, fun i h => by simp at h⟩
  | n + 1, hq => by
    obtain ⟨l, hl, hi⟩ := list_of n (fun i hi => hq i (by omega))
    obtain ⟨x, hx⟩ := hq n (by omega)
    refine ⟨l ++ [x], by simp [hl], fun i h => ?_⟩
    by_cases e : i < l.length
    · rw [List.getElem_append_left e]; exact hi i e
    · have : i = n := by simp at h; omega
      subst this
      rw [List.getElem_append_right (by omega)]
      simpa using hx

variable {H : Type} {enc : TypeId × Value → H} {w : World}

theorem read_text {fuel : Nat} {cs : List Value} {x : DataW H × List MemPlace} (h : DataW.trod enc Try.prog w 0 (fun _ => true) true fuel 22 cs = some x) : ∃ u xs, cs = [u] ∧ TSeg (fun b => b < w.heap.size) w u xs := by
  rcases open_ints Try.underlying22 Try.underlying5 (by kernel_rfl) h with ⟨rfl, _⟩ | ⟨a, len, cap, zs, rfl, _, hl, hm, hz, _, hcell, hwz⟩
  · exact ⟨_, [], rfl, none, 0, rfl, ⟨by simp, .inl rfl⟩, Nat.le_refl _, Nat.zero_le _, fun _ => rfl, by simp⟩
  · obtain ⟨xs, e, hs, h1, h2, h3⟩ := seg_of_row (w := w) (a := some a) (len := len) (cap := cap) (zs := zs) (.inr ⟨a, rfl, hl, hm, by simpa using hz, hcell, hwz⟩)
    subst e
    exact ⟨_, xs, rfl, some a, cap, rfl, hs, h1, h2, h3, hs.lt⟩

end Go.Proofs.Ytconcdjgdiccaaa
/-
  A value that came in, as its reading has it, can be read: 'VSeg'.
-/
namespace Go.Proofs.Ytconcdjgdiccaaa
open Go.ChangeShapes Go.WideShapes Go.ChangeAt Go.RowKit
set_option linter.unusedVariables false
set_option linter.unusedSimpArgs false
set_option maxRecDepth 100000

theorem cellsK : Try.prog.cellsOf 23 = 1 := by kernel_rfl
theorem cellsL : Try.prog.cellsOf 24 = 1 := by kernel_rfl
theorem cellsV : Try.prog.cellsOf 26 = 5 := by kernel_rfl
variable {H : Type} {enc : TypeId × Value → H} {w : World}

theorem read_keys {fuel : Nat} {cs : List Value} {x : DataW H × List MemPlace} (h : DataW.trod enc Try.prog w 0 (fun _ => true) true fuel 23 cs = some x) : ∃ u ks, cs = [u] ∧ KSeg (fun b => b < w.heap.size) w u ks := by
  rcases DataW.trod_slice Try.underlying23 h with ⟨rfl, _⟩ | ⟨a, len, cap, elems, rest, n, _, rfl, _, hb, hl, hm, hlen, hel, hsp, hns⟩
  · exact ⟨_, [], rfl, none, 0, rfl, Nat.le_refl _, Nat.zero_le _, fun _ => rfl, .inl rfl⟩
  · have hq : ∀ i, i < len → ∃ xs : List Int, ∃ u, w.cell? (a.add i) = some u ∧ TSeg (fun b => b < w.heap.size) w u xs := by
      intro i hi
      have h1 := hel i hi
      rw [cellsT, Nat.mul_one, List.getElem?_eq_getElem (by omega)] at h1
      obtain ⟨cs', hc, ht⟩ := Option.bind_eq_some_iff.1 h1
      obtain ⟨u, xs, rfl, hT⟩ := read_text ht
      exact ⟨xs, u, cell_of_cells?_one hc, hT⟩
    obtain ⟨ks, hkl, hks⟩ := list_of len hq
    subst hkl
    refine ⟨_, ks, rfl, some a, cap, rfl, hl, hm, by simp, ?_⟩
    by_cases he : ks = []
    · exact .inl he
    · have hp : 0 < ks.length := List.length_pos_iff.2 he
      obtain ⟨b, off, spot⟩ := a
      obtain ⟨u0, hu0, _⟩ := hks 0 hp
      have hspot : spot = none := by simpa [Addr.add] using World.cell?_spot hu0
      subst hspot
      refine .inr ⟨b, off, rfl, ?_, fun i hi => ?_⟩
      · have := World.block_lt_of_cell? w _ hu0
        simpa [Addr.add] using this
      · obtain ⟨u, hu, hT⟩ := hks i hi
        rw [Addr.add_lit] at hu
        exact ⟨u, hu, by simpa [List.getD_eq_getElem?_getD, hi] using hT⟩

theorem read_five {fuel : Nat} {cs : List Value} {x : DataW H × List MemPlace} (h : DataW.trod enc Try.prog w 0 (fun _ => true) true (fuel + 1) 26 cs = some x) :
    ∃ c0 c1 c2 c3 c4 y0 y1 y2 y3 y4, cs = [c0, c1, c2, c3, c4] ∧ DataW.trod enc Try.prog w 0 (fun _ => true) true fuel 3 [c0] = some y0 ∧ DataW.trod enc Try.prog w 0 (fun _ => true) true fuel 3 [c1] = some y1 ∧
      DataW.trod enc Try.prog w 0 (fun _ => true) true fuel 22 [c2] = some y2 ∧ DataW.trod enc Try.prog w 0 (fun _ => true) true fuel 23 [c3] = some y3 ∧ DataW.trod enc Try.prog w 0 (fun _ => true) true fuel 24 [c4] = some y4 := by
  unfold DataW.trod at h
  rw [Try.underlying26] at h
  simp only [cellsV] at h
  split at h
  · next hlen =>
    match cs, hlen with
    | [c0, c1, c2, c3, c4], _ =>
      simp [cellsT, cellsK, cellsL, cellsI, List.mapM_cons, Option.bind_eq_some_iff] at h
      obtain ⟨a0, b0, h0, _, ⟨a1, b1, h1, _, ⟨a2, b2, h2, _, ⟨a3, b3, h3, _, ⟨a4, b4, h4, _⟩, _⟩, _⟩, _⟩, _⟩ := h
      exact ⟨c0, c1, c2, c3, c4, _, _, _, _, _, rfl, h0, h1, h2, h3, h4⟩
  · simp at h

/-- How deep what is read with that fuel is at most. -/
def dep : Nat → Nat
  | 0 => 0
  | 1 => 0
  | f + 2 => dep f + 1

def ReadAt (enc : TypeId × Value → H) (w : World) (f : Nat) : Prop := ∀ (cs : List Value) (x : DataW H × List MemPlace), DataW.trod enc Try.prog w 0 (fun _ => true) true f 26 cs = some x →
  ∃ (c0 c1 c2 c3 c4 : Value) (v : Vl (dep f)), cs = [c0, c1, c2, c3, c4] ∧ VSeg (fun b => b < w.heap.size) w (dep f) (c0, c1, c2, c3, c4) v

theorem read_step (f : Nat) (ih : ReadAt enc w f) : ReadAt enc w (f + 2) := by
  intro cs x h
  obtain ⟨c0, c1, c2, c3, c4, y0, y1, y2, y3, y4, rfl, h0, h1, h2, h3, h4⟩ := read_five h
  obtain ⟨n0, e0, _, _⟩ := DataW.trod_int Try.underlying3 h0
  obtain ⟨n1, e1, _, _⟩ := DataW.trod_int Try.underlying3 h1
  obtain ⟨u2, xs, e2, hT⟩ := read_text h2
  obtain ⟨u3, ks, e3, hK⟩ := read_keys h3
  simp at e0 e1 e2 e3
  subst e0 e1 e2 e3
  have hL : ∃ l : List (Vl (dep f)), LSeg (fun b => b < w.heap.size) w (dep f) c4 l := by
    rcases DataW.trod_slice Try.underlying24 h4 with ⟨e, _⟩ | ⟨a, len, cap, elems, rest, n, hn, e, _, hb, hl, hm, hlen, hel, hsp, hns⟩
    · simp at e
      subst e
      exact ⟨[], none, 0, rfl, Nat.le_refl _, Nat.zero_le _, fun _ => rfl, .inl rfl⟩
    · simp at e
      subst e
      obtain rfl : n = f := by omega
      have hq : ∀ i, i < len → ∃ v : Vl (dep n), ∃ c0 c1 c2 c3 c4, (∀ j, j < 5 → w.cell? ((a.add (i * 5)).add j) = [c0, c1, c2, c3, c4][j]?) ∧ VSeg (fun b => b < w.heap.size) w (dep n) (c0, c1, c2, c3, c4) v := by
        intro i hi
        have h1 := hel i hi
        rw [cellsV, List.getElem?_eq_getElem (by omega)] at h1
        obtain ⟨cs', hc, ht⟩ := Option.bind_eq_some_iff.1 h1
        obtain ⟨d0, d1, d2, d3, d4, v, rfl, hv⟩ := ih cs' _ ht
        exact ⟨v, d0, d1, d2, d3, d4, (World.cells?_some hc).2.2, hv⟩
      obtain ⟨l, hll, hls⟩ := list_of len hq
      subst hll
      refine ⟨l, some a, cap, rfl, hl, hm, by simp, ?_⟩
      by_cases he : l = []
      · exact .inl he
      · have hp : 0 < l.length := List.length_pos_iff.2 he
        obtain ⟨b, off, spot⟩ := a
        obtain ⟨d0, d1, d2, d3, d4, hu0, _⟩ := hls 0 hp
        have hu := hu0 0 (by omega)
        simp [Addr.add] at hu
        have hspot : spot = none := by simpa using World.cell?_spot hu
        subst hspot
        refine .inr ⟨b, off, rfl, World.block_lt_of_cell? w _ hu, fun i hi => ?_⟩
        obtain ⟨d0, d1, d2, d3, d4, hu, hv⟩ := hls i hi
        have e : ∀ j, j < 5 → w.cell? ⟨b, off + i * 5 + j, none⟩ = [d0, d1, d2, d3, d4][j]? := by
          intro j hj
          have := hu j hj
          rw [Addr.add_lit, Addr.add_lit] at this
          exact this
        exact ⟨(d0, d1, d2, d3, d4), ⟨e 0 (by omega), e 1 (by omega), e 2 (by omega), e 3 (by omega), e 4 (by omega)⟩, hv⟩
  obtain ⟨l, hL⟩ := hL
  exact ⟨_, _, _, _, _, (n0, n1, xs, ks, l), rfl, (VSeg_succ _ _ _ _ _).2 ⟨rfl, rfl, hT, hK, hL⟩⟩

theorem read_both (f : Nat) : ReadAt enc w f ∧ ReadAt enc w (f + 1) := by
  induction f with
  | zero =>
    refine ⟨fun cs x h => by simp [DataW.trod] at h, fun cs x h => ?_⟩
    obtain ⟨_, _, _, _, _, _, _, _, _, _, _, h0, _⟩ := read_five h
    simp [DataW.trod] at h0
  | succ f ih => exact ⟨ih.2, read_step f ih.1⟩

/-- A value that came in. -/
theorem read_value {v : Value} {d : DataW H} {ps : List MemPlace} (h : DataW.Trod enc Try.prog w 0 (fun _ => true) true 26 v d ps) :
    ∃ c0 c1 c2 c3 c4 n, v = .agg #[c0, c1, c2, c3, c4] ∧ ∃ x : Vl n, VSeg (fun b => b < w.heap.size) w n (c0, c1, c2, c3, c4) x := by
  obtain ⟨fuel, hf⟩ := h
  obtain ⟨c0, c1, c2, c3, c4, x, e, hx⟩ := (read_both fuel).1 _ _ hf
  refine ⟨c0, c1, c2, c3, c4, dep fuel, ?_, x, hx⟩
  cases v <;> simp [Value.cells] at e
  rename_i cs
  cases cs
  simp at e
  simp [e]
end Go.Proofs.Ytconcdjgdiccaaa
