/-
  Texts that a law leans on, one behind the other; no statement is proved here.
-/
import Derived.Test.YthnkedbmfhokiaaGreatDoorPk16
import Derived.Test.YthnkedbmfhokiaaGreatDoorPk18
import Derived.Test.YthnkedbmfhokiaaGreatDoorPk17
import Derived.Test.YthnkedbmfhokiaaGreatDoorPk14
import Derived.Test.YthnkedbmfhokiaaGreatDoorPk15
import Derived.Test.YthnkedbmfhokiaaGreatDoorPk2
import Derived.Test.YthnkedbmfhokiaaGreatDoorPk6
/-
  ValBytes of the specification: l2put of whatever value, ValBytes.
-/
namespace Go.Proofs.YthnkedbmfhokiaaGreatDoor
open Go.RowKit
set_option linter.unusedVariables false
set_option linter.unusedSimpArgs false

theorem shape_kinds {vk vn : Int} {vs : List Int} {vK : List (List Int)} {n : Nat} (h : shapeB vk vn vs vK n = true) :
    vs.length ≤ 20 ∧ ((vk = 0 ∨ vk = 6 ∨ vk = 1 ∨ vk = 3) ∨ (vk = 2 ∧ -1000000000000 ≤ vn ∧ vn ≤ 1000000000000) ∨ (vk = 4 ∧ vK.length = 0) ∨ (vk = 5 ∧ vK.length = n ∧ ascB vK = true)) := by
  unfold shapeB bareB intB at h
  simp only [Bool.and_eq_true, Bool.or_eq_true, decide_eq_true_eq] at h
  obtain ⟨⟨⟨⟨h1, h2⟩, h3⟩, h4⟩, h5⟩ := h
  have htx : textB vs = true → vs.length ≤ 20 := fun ht => by
    unfold textB at ht
    simp only [Bool.and_eq_true, decide_eq_true_eq] at ht
    exact ht.1
  rcases h5 with (((((h5 | h5) | h5) | h5) | h5) | h5) | h5
  · exact ⟨by omega, .inl (.inl h5)⟩
  · exact ⟨by omega, .inl (.inr (.inl h5))⟩
  · exact ⟨by omega, .inl (.inr (.inr (.inl h5.1)))⟩
  · exact ⟨by omega, .inr (.inl ⟨h5.1, h5.2.1, h5.2.2⟩)⟩
  · exact ⟨htx h5.2, .inl (.inr (.inr (.inr h5.1)))⟩
  · exact ⟨by omega, .inr (.inr (.inl ⟨h5, by omega⟩))⟩
  · exact ⟨by omega, .inr (.inr (.inr ⟨h5.1, h5.2.1, h5.2.2⟩))⟩

theorem asc_short {vK : List (List Int)} (h : ascB vK = true) (j : Nat) (hj : j < vK.length) : (vK.getD j []).length ≤ 8 := by
  have h1 := ascB_at h hj
  unfold stepB nameB at h1
  simp only [Bool.and_eq_true, decide_eq_true_eq] at h1
  exact h1.1.1.2

theorem l2put_succ (d : Nat) (ih : SByAt d) : SByAt (d + 1) := by
  intro N a cap xs c v deep w hv hN hs ka hg hlen
  obtain ⟨c0, c1, c2, c3, c4⟩ := c
  obtain ⟨vk, vn, vs, vK, vL⟩ := v
  obtain ⟨_, hsh, hkids⟩ := (good_succ _ _ _ _ _ _ _).1 hg
  obtain ⟨hvs, hk⟩ := shape_kinds hsh
  obtain ⟨e0, e1, ht, hK, hl⟩ := (VSeg_succ _ _ _ _ _).1 hv
  simp only at e0 e1 ht hK hl
  subst e0
  subst e1
  have hp := parts_succ d vk vn vs vK vL
  rw [hp] at hlen
  have hl' := hl
  have hK' := hK
  obtain ⟨a2, p2, rfl, s2, l2, m2, k2, r2⟩ := ht
  obtain ⟨a3, p3, rfl, _⟩ := hK
  obtain ⟨a4, p4, rfl, hlc4, hcm4, _⟩ := hl
  unfold maxLen at hcm4
  rcases hk with hk | ⟨rfl, hlo, hhi⟩ | ⟨rfl, h0⟩ | ⟨rfl, h1, h2⟩
  · exact l2put_leaf d N a cap xs vk vn vs vK vL a2 p2 _ _ w hs ka (by omega) s2 k2 (by omega) ⟨_, _, _, rfl⟩ ⟨_, _, _, rfl⟩ hk
  · exact l2put_int d N a cap xs vn vs vK vL a2 p2 _ _ w hs ka (by omega) s2 k2 (by omega) ⟨_, _, _, rfl⟩ ⟨_, _, _, rfl⟩ hlo hhi
  · exact l2put_list d ih N a cap xs vn vs vK vL a2 _ p2 a3 p3 a4 p4 (deep + 1) w hN hs ka hl' hK' trivial (fun j hj => by omega) hkids (by omega) hlen
  · exact l2put_map d ih N a cap xs vn vs vK vL a2 _ p2 a3 p3 a4 p4 (deep + 1) w hN hs ka hl' hK' h1 (fun j hj => by have := asc_short h2 j hj; omega) hkids (by omega) hlen

theorem l2put_any (d : Nat) : SByAt d := by
  induction d with
  | zero => intro N a cap xs c v deep w hv; exact hv.elim
  | succ d ih => exact l2put_succ d ih

theorem okB_parts {d : Nat} {v : Vl d} (h : okB d v = true) : goodB d v 1 = true ∧ partsV d v ≤ 40 := by
  unfold okB at h
  simp only [Bool.and_eq_true, decide_eq_true_eq] at h
  exact h

/-- What ValBytes has answered. -/
def ByEnd (d : Nat) (v : Vl d) (w : World) (e : Ending) (w' : World) : Prop := ∃ a n c, e = .returned (.tuple #[.slice a n c, .bool (okB d v)]) ∧ Bts w' w.heap.size (.slice a n c) (valBytes d v) ∧ Below w.heap.size w w'

set_option maxHeartbeats 1600000 in
set_option maxRecDepth 100000 in
theorem spec_ValBytes_any (d N : Nat) (c0 c1 c2 c3 c4 : Value) (v : Vl d) (w : World) (hv : VSeg (fun b => b < N) w d (c0, c1, c2, c3, c4) v) (hN : N ≤ w.heap.size) :
    Calls Tryz.prog 24 #[.agg #[c0, c1, c2, c3, c4]] w (ByEnd d v w) := by
  have b0 : ∀ o : Obj, Below w.heap.size w (w.alloc o) := fun o => (Below.refl _ _).alloc (Nat.le_refl _) o
  have Hb := hide' b0
  have HC : Hid (∀ wx, Below w.heap.size w wx → Calls Tryz.prog 6 #[.agg #[c0, c1, c2, c3, c4]] wx fun e w' => e = .returned (.bool (okB d v)) ∧ Below wx.heap.size wx w') := fun wx hb =>
    spec_ValOk_any d N c0 c1 c2 c3 c4 v wx (VSeg.agree (agree_below (hb.mono hN)) d hv) (by have := hb.size; omega)
  have HP : Hid (okB d v = true → ∀ wx, Below w.heap.size w wx → Calls Tryz.prog 27 #[.slice none 0 0, .agg #[c0, c1, c2, c3, c4]] wx fun e w' => ∃ a n c, e = .returned (.slice a n c) ∧ Bts w' wx.heap.size (.slice a n c) (valBytes d v) ∧ Below wx.heap.size wx w') := fun hok wx hb => by
    obtain ⟨h1, h2⟩ := okB_parts hok
    refine (l2put_any d N none 0 [] (c0, c1, c2, c3, c4) v 1 wx (VSeg.agree (agree_below (hb.mono hN)) d hv) (by have := hb.size; omega) ⟨by simp, .inl rfl⟩ (fun _ => rfl) h1 (by simp; omega)).mono ?_
    rintro e w' ⟨u, rfl, hB, hbw⟩
    obtain ⟨a, c, rfl, _⟩ := hB.shape
    exact ⟨a, _, c, rfl, by rw [valBytes, if_pos hok]; exact hB, hbw⟩
  obtain ⟨vk, vn, a2, l2, p2, a3, l3, p3, a4, l4, p4, rfl, rfl, rfl, rfl, rfl⟩ := VSeg.form d hv
  clear hv b0
  cases hok : okB d v with
  | true =>
    have HP2 := hide' (HP.out hok)
    rw [hok] at HC
    go_enter Tryz.func24, Tryz.ntmps24
    go_wp2_with fail
    refine (HC.out _ (Hb.out _)).mono ?_
    rintro e w1 ⟨rfl, b1⟩
    obtain ⟨y0, y1, y2, y3, y4, _⟩ := row5 (box_row b1)
    have B1 := Below.on (Hb.out _) b1
    clear b1
    go_wp2_with fail
    refine (HP2.out _ B1).mono ?_
    rintro e w2 ⟨a, n, c, rfl, hB, b2⟩
    have B2 := Below.on B1 b2
    have HB := hide' (hB.mono (base' := w.heap.size) B1.size)
    clear b2 hB
    go_wp2
    go_ret2
    exact ⟨a, n, c, by rw [hok]; rfl, HB.out, B2⟩
  | false =>
    rw [hok] at HC
    go_enter Tryz.func24, Tryz.ntmps24
    go_wp2_with fail
    refine (HC.out _ (Hb.out _)).mono ?_
    rintro e w1 ⟨rfl, b1⟩
    have B1 := Below.on (Hb.out _) b1
    clear b1
    go_wp2
    go_ret2
    exact ⟨none, 0, 0, by rw [hok]; rfl, by rw [valBytes, hok]; exact bts_nil _ _, B1⟩
end Go.Proofs.YthnkedbmfhokiaaGreatDoor
/-
  cmpParts of the program at every depth: the order of two parts; slices.CompareFunc as it calls it.
-/
namespace Go.Proofs.YthnkedbmfhokiaaGreatDoor
open Go.RowKit
set_option linter.unusedVariables false
set_option linter.unusedSimpArgs false

theorem PLSeg.agree {R : Nat → Prop} {w w' : World} {d : Nat} {x : Value} {l : List (Vl d)} (h : PLSeg R w d x l) (hb : Agree R w w') : PLSeg R w' d x l := by
  obtain ⟨a, cap, e, hc⟩ := h
  refine ⟨a, cap, e, ?_⟩
  rcases hc with h0 | ⟨b, off, e1, hR, hc⟩
  · exact .inl h0
  · refine .inr ⟨b, off, e1, hR, fun i hi => ?_⟩
    obtain ⟨u, hu, hv⟩ := hc i hi
    exact ⟨u, (cell_agree hb hR).trans hu, PSeg.carry (fun b hb => hb) hb d hv⟩

end Go.Proofs.YthnkedbmfhokiaaGreatDoor
/-
  What FnValues asks of one value: plain mathematics; no Go text here.
-/
namespace Go.Proofs.YthnkedbmfhokiaaGreatDoor
open Go.RowKit
set_option linter.unusedVariables false
set_option linter.unusedSimpArgs false

theorem max_le_sum {α : Type} (f g : α → Nat) : ∀ (l : List α), (∀ x ∈ l, f x ≤ g x) → (l.map f).foldr max 0 ≤ (l.map g).sum
  | [], _ => by simp
  | x :: r, h => by
    have h1 := h x (by simp)
    have h2 := max_le_sum f g r fun y hy => h y (by simp [hy])
    simp only [List.map_cons, List.foldr_cons, List.sum_cons]
    omega
theorem max_le_all {α : Type} (f : α → Nat) (B : Nat) : ∀ (l : List α), (∀ x ∈ l, f x ≤ B) → (l.map f).foldr max 0 ≤ B
  | [], _ => by simp
  | x :: r, h => by
    have h1 := h x (by simp)
    have h2 := max_le_all f B r fun y hy => h y (by simp [hy])
    simp only [List.map_cons, List.foldr_cons]
    omega

theorem deep_parts : ∀ (d : Nat) (v : Vl d), deepV d v ≤ partsV d v
  | 0, v => v.elim
  | d + 1, (vk, vn, vs, vK, vL) => by
    have := max_le_sum (deepV d) (partsV d) vL fun x _ => deep_parts d x
    show (vL.map (deepV d)).foldr max 0 + 1 ≤ 1 + (vL.map (partsV d)).sum
    omega

theorem deep_good : ∀ (d : Nat) (v : Vl d) (dd : Nat), goodB d v dd = true → deepV d v + dd ≤ 6
  | 0, v, _, _ => v.elim
  | d + 1, (vk, vn, vs, vK, vL), dd, h => by
    obtain ⟨h1, _, hk⟩ := (good_succ _ _ _ _ _ _ _).1 h
    have := max_le_all (deepV d) (5 - dd) vL fun x hx => by
      obtain ⟨i, hi, rfl⟩ := List.getElem_of_mem hx
      have := deep_good d vL[i] (dd + 1) (hk i hi)
      omega
    show (vL.map (deepV d)).foldr max 0 + 1 + dd ≤ 6
    omega

theorem decI_pos (u : Nat) : 0 < (decI u).length := by
  by_cases h : u < 10
  · rw [decI_small h]; simp
  · rw [decI_big h]; simp

theorem say_pos : ∀ (d : Nat) (v : Vl d), 0 < (sayV d v).length
  | 0, v => v.elim
  | d + 1, (vk, vn, vs, vK, vL) => by
    show 0 < (if vk = 0 then [110, 117, 108, 108]
      else if vk = 1 then (if vn = 0 then [102, 97, 108, 115, 101] else [116, 114, 117, 101])
      else if vk = 2 then intT vn
      else if vk = 3 then quoT vs
      else if vk = 4 ∨ vk = 5 then (if vk = 5 then 123 else 91) :: (kidS (sayV d) (decide (vk = 5)) vK vL vL.length ++ [if vk = 5 then 125 else 93])
      else [(63 : Int)]).length
    split
    · simp
    · split
      · split <;> simp
      · split
        · unfold intT
          split
          · simp
          · exact decI_pos _
        · split
          · simp [quoT]
          · split <;> simp

/-- All that is asked where it may be. -/
theorem ok_counts {d : Nat} {v : Vl d} (h : okB d v = true) : ansValDeep d v ≤ ansValParts d v ∧ ansValParts d v ≤ 40 ∧ ansValDeep d v ≤ 5 ∧ 0 < (valText d v).length := by
  obtain ⟨h1, h2⟩ := okB_parts h
  have h3 := deep_parts d v
  have h4 := deep_good d v 1 h1
  have h5 := say_pos d v
  unfold ansValDeep ansValParts valText
  rw [h]
  simp only [cond_true, if_true]
  omega
end Go.Proofs.YthnkedbmfhokiaaGreatDoor
/-
  ValBytes of the program: putInt.
-/
namespace Go.Proofs.YthnkedbmfhokiaaGreatDoor
open Go.RowKit Go.Shelf
set_option linter.unusedVariables false
set_option linter.unusedSimpArgs false

theorem impl_PutNum_end (a : Option Addr) (cap : Nat) (xs : List Int) (n : Int) (w : World) (hs : Seg w a xs) (hc : a = none → cap = 0) (hl : xs.length ≤ 2097152) : Calls Tryz.prog 33 #[.slice a xs.length cap, .int .i64 n] w (PEnd w (putNum xs n)) :=
  (impl_PutNum_any a cap xs n w hs hc hl).mono fun e w' h => pend_of h
theorem impl_PutText_end (a b : Option Addr) (c1 c2 : Nat) (xs ts : List Int) (w : World) (ha : Seg w a xs) (hb : Seg w b ts) (ka : a = none → c1 = 0) (kb : b = none → c2 = 0) (hl : xs.length ≤ 2097152) (hl2 : ts.length ≤ 2097152) : Calls Tryz.prog 35 #[.slice a xs.length c1, .slice b ts.length c2] w (PEnd w (putText xs ts)) :=
  (impl_PutText_any a b c1 c2 xs ts w ha hb ka kb hl hl2).mono fun e w' h => pend_of h

set_option maxHeartbeats 1000000 in
set_option maxRecDepth 100000 in
theorem putInt_any (a : Option Addr) (cap : Nat) (xs : List Int) (vn : Int) (w : World) (hs : Seg w a xs) (ka : a = none → cap = 0) (hl : xs.length ≤ 1500000) (hlo : -1000000000000 ≤ vn) (hhi : vn ≤ 1000000000000) :
    Calls Tryz.prog 34 #[.slice a xs.length cap, .int .i64 vn] w (PEnd w (putI xs vn)) := by
  have HP : Hid (∀ (a1 : Option Addr) (c1 : Nat) (ys : List Int) (n : Int) (wx : World), Bts wx 0 (.slice a1 ys.length c1) ys → (a1 = none → c1 = 0) → ys.length ≤ 2000000 → Calls Tryz.prog 33 #[.slice a1 ys.length c1, .int .i64 n] wx (PEnd wx (putNum ys n))) := fun a1 c1 ys n wx hB k hlen => impl_PutNum_end a1 c1 ys n wx hB.seg k (by omega)
  by_cases hneg : vn < 0
  · have HF : Hid (putI xs vn = putNum (putNum (putNum xs 1) (-vn / 1000000)) (-vn % 1000000)) := by show _ = _; rw [putI, if_pos hneg]
    have H1 := hide' (impl_PutNum_end a cap xs 1 w hs ka (by omega))
    have hp1 := putNum_len xs 1
    have hp2 := putNum_len (putNum xs 1) (-vn / 1000000)
    have hm0 : 0 ≤ -vn := by omega
    have hm1 : -vn ≤ 1000000000000 := by omega
    have Hd := hide' (wd_neg vn (by omega) (by omega))
    have Hm := hide' (wm_neg vn (by omega))
    have Hmw := hide' (wmw_neg vn (by omega))
    clear hs
    go_enter Tryz.func34, Tryz.ntmps34
    go_wp2_with fail
    refine H1.out.mono ?_
    rintro e w2 ⟨a2', c2', rfl, hB2, b2, k2'⟩
    have B2 := b2
    have H3 := hide' (HP.out a2' c2' (putNum xs 1) (-vn / 1000000) w2 (hB2.mono (by omega)) k2' (by omega))
    generalize putNum xs 1 = z2 at *
    generalize z2.length = n2 at *
    clear b2 hB2 H1
    go_wp2_with fail
    try rw [Hd.out]
    refine H3.out.mono ?_
    rintro e w3 ⟨a3', c3', rfl, hB3, b3, k3'⟩
    have B3 := Below.on B2 b3
    have H4 := hide' (HP.out a3' c3' (putNum z2 (-vn / 1000000)) (-vn % 1000000) w3 (hB3.mono (by omega)) k3' (by omega))
    generalize putNum z2 (-vn / 1000000) = z3 at *
    generalize z3.length = n3' at *
    clear b3 hB3 H3
    go_wp2_with fail
    first | rw [Hmw.out] | rw [Hm.out] | skip
    refine H4.out.mono ?_
    rintro e w4 ⟨a4', c4', rfl, hB4, b4', k4'⟩
    have B4 := Below.on B3 b4'
    have HB4 := hide' (hB4.mono (base' := w.heap.size) B3.size)
    obtain ⟨z5, hz5⟩ : ∃ z5, z5 = putNum z3 (-vn % 1000000) := ⟨_, rfl⟩
    rw [← hz5] at HB4 HF
    rw [← hz5]
    clear b4' hB4 H4
    go_wp2
    go_ret
    rw [HF.out]
    exact ⟨a4', c4', by rw [hz5]; rfl, HB4.out, B4, k4'⟩
  · have HF : Hid (putI xs vn = putNum (putNum (putNum xs 0) (vn / 1000000)) (vn % 1000000)) := by show _ = _; rw [putI, if_neg hneg]
    have H1 := hide' (impl_PutNum_end a cap xs 0 w hs ka (by omega))
    have hp1 := putNum_len xs 0
    have hp2 := putNum_len (putNum xs 0) (vn / 1000000)
    have hm0 : 0 ≤ vn := by omega
    have Hd := hide' (wd_pos vn (by omega) (by omega))
    have Hm := hide' (wm_pos vn (by omega))
    have Hmw := hide' (wmw_pos vn (by omega))
    clear hs
    go_enter Tryz.func34, Tryz.ntmps34
    go_wp2_with fail
    refine H1.out.mono ?_
    rintro e w2 ⟨a2', c2', rfl, hB2, b2, k2'⟩
    have B2 := b2
    have H3 := hide' (HP.out a2' c2' (putNum xs 0) (vn / 1000000) w2 (hB2.mono (by omega)) k2' (by omega))
    generalize putNum xs 0 = z2 at *
    generalize z2.length = n2 at *
    clear b2 hB2 H1
    go_wp2_with fail
    try rw [Hd.out]
    refine H3.out.mono ?_
    rintro e w3 ⟨a3', c3', rfl, hB3, b3, k3'⟩
    have B3 := Below.on B2 b3
    have H4 := hide' (HP.out a3' c3' (putNum z2 (vn / 1000000)) (vn % 1000000) w3 (hB3.mono (by omega)) k3' (by omega))
    generalize putNum z2 (vn / 1000000) = z3 at *
    generalize z3.length = n3' at *
    clear b3 hB3 H3
    go_wp2_with fail
    first | rw [Hmw.out] | rw [Hm.out] | skip
    refine H4.out.mono ?_
    rintro e w4 ⟨a4', c4', rfl, hB4, b4', k4'⟩
    have B4 := Below.on B3 b4'
    have HB4 := hide' (hB4.mono (base' := w.heap.size) B3.size)
    obtain ⟨z5, hz5⟩ : ∃ z5, z5 = putNum z3 (vn % 1000000) := ⟨_, rfl⟩
    rw [← hz5] at HB4 HF
    rw [← hz5]
    clear b4' hB4 H4
    go_wp2
    go_ret
    rw [HF.out]
    exact ⟨a4', c4', by rw [hz5]; rfl, HB4.out, B4, k4'⟩
end Go.Proofs.YthnkedbmfhokiaaGreatDoor
