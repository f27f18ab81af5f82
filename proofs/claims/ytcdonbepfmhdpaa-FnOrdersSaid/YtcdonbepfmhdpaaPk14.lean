/-
  Texts that a law leans on, one behind the other; no statement is proved here.
-/
import Derived.Test.YtcdonbepfmhdpaaPk5
import Derived.Deep.Cut
import Derived.Test.YtcdonbepfmhdpaaPk13
import Derived.Test.YtcdonbepfmhdpaaPk8
/-
  carry of the program over numbers.
-/
namespace Go.Proofs.Ytcdonbepfmhdpaa
open Go.RowKit
set_option linter.unusedVariables false
set_option linter.unusedSimpArgs false

set_option maxHeartbeats 6400000 in
set_option maxRecDepth 100000 in
theorem carryI_any (N n D : Nat) (x : Value) (E : List Edg) (mt : Int → Int → Int) (s : List Int) (w : World) (hx : ESeg (fun b => b < N) w x E) (hN : N ≤ D) (hn : n ≤ 20) (hE : InG n E) (hs : s.length = n) (hrow : VRow (Value.int .i64) 3 D s w)
    (HM : ∀ k j, k < n → (hj : j < E.length) → ∀ wx, Calls Try.prog 28 #[(.int .i64 ((((E.take j).foldl (setE mt 0) (itE (setE mt 0) E k s)).getD E[j].2.toNat 0))), (.int .i64 ((((E.take j).foldl (setE mt 0) (itE (setE mt 0) E k s)).getD E[j].1.toNat 0)))] wx fun e w' => e = .returned (.int .i64 ((mt (((E.take j).foldl (setE mt 0) (itE (setE mt 0) E k s)).getD E[j].2.toNat 0) (((E.take j).foldl (setE mt 0) (itE (setE mt 0) E k s)).getD E[j].1.toNat 0)))) ∧ wx = w') :
    Calls Try.prog 27 #[.agg #[.int .i64 (n : Int), x], .slice (some ⟨D, 0, none⟩) n n, .func (.func 28) #[] #[]] w fun e w' => e = .returned (.tuple #[]) ∧ VRow (Value.int .i64) 3 D (itE (setE mt 0) E n s) w' ∧ w.grownBy w' (some D) := by
  have hDw := hrow.lt
  have HX := hide' hx
  have HE := hide' hE
  have HMh := hide' HM
  have HD := hide' hDw
  have hS0 := hide' (fun o => CSt.begin hrow o)
  obtain ⟨a, cap, rfl, hlc, hcm, -, -⟩ := hx
  unfold maxLen at hcm
  have hnn : (0 : Int) ≤ (n : Int) := by omega
  have hn20 : (n : Int) ≤ 20 := by omega
  clear hE HM hrow hDw
  go_enter Try.func27, Try.ntmps27
  go_wp2_with fail
  go_loopw [10] (fun i wr => ∃ k : Nat, i = .int .i64 k ∧ k ≤ n ∧ Hid (CSt (Value.int .i64) 3 D w (.cells #[.int .i64 (n : Int), .slice a E.length cap] 25) (itE (setE mt 0) E k s) wr)) (fun i _ => n - (intOf i).toNat)
  case atStart => exact ⟨0, rfl, Nat.zero_le _, hS0.out _⟩
  case round =>
    clear hS0
    obtain ⟨k, rfl, hk, hS⟩ := hrel
    obtain ⟨g0, g1, -⟩ := row2 hS.out.2.1
    by_cases hkn : k < n
    rotate_left
    · have hkn' : ¬ (k : Int) < (n : Int) := by omega
      obtain rfl : k = n := by omega
      have HF := hide' (And.intro hS.out.1 hS.out.2.2.1)
      clear hS
      go_wp2
      go_end0
      exact ⟨rfl, HF.out⟩
    have hkn' : (k : Int) < (n : Int) := by omega
    have hdl : (itE (setE mt 0) E k s).length = n := by rw [itE_len, hs]
    have hS2 : Hid (CSt (Value.int .i64) 3 D w (.cells #[.int .i64 (n : Int), .slice a E.length cap] 25) ((E.take 0).foldl (setE mt 0) (itE (setE mt 0) E k s)) wr) := hS.out
    have HNx : Hid (E.foldl (setE mt 0) (itE (setE mt 0) E k s) = itE (setE mt 0) E (k + 1) s) := rfl
    have HMk := hide' (fun j => HMh.out k j hkn)
    clear hS HMh
    generalize itE (setE mt 0) E k s = dk at *
    go_wp2_with fail
    go_loopw [15] (fun i wz => ∃ j : Nat, i = .int .i64 j ∧ j ≤ E.length ∧ Hid (CSt (Value.int .i64) 3 D w (.cells #[.int .i64 (n : Int), .slice a E.length cap] 25) ((E.take j).foldl (setE mt 0) dk) wz)) (fun i _ => E.length - (intOf i).toNat)
    case atStart => exact ⟨0, rfl, Nat.zero_le _, hS2⟩
    case round =>
      clear hS2 g0 g1
      obtain ⟨j, rfl, hj, hS⟩ := hrel
      obtain ⟨g0, g1, -⟩ := row2 hS.out.2.1
      by_cases hjl : j < E.length
      rotate_left
      · have hjl' : ¬ (j : Int) < (E.length : Int) := by omega
        obtain rfl : j = E.length := by omega
        have HN := hS
        rw [List.take_length, HNx.out] at HN
        clear hS
        go_wp2
        go_roundw
        case rel => exact ⟨k + 1, by go_num, by omega, HN⟩
        case measure => simp [intOf]; omega
      have hjl' : (j : Int) < (E.length : Int) := by omega
      have hag := hS.out.agree hN HD.out
      obtain ⟨b, off, rfl, _, q0, q1⟩ := (HX.out.agree hag).at hjl
      have he := HE.out E[j] (List.getElem_mem hjl)
      obtain ⟨m, hm⟩ : ∃ m : Nat, E[j].1 = (m : Int) := ⟨E[j].1.toNat, by omega⟩
      obtain ⟨m1, hm'⟩ : ∃ m : Nat, E[j].2 = (m : Int) := ⟨E[j].2.toNat, by omega⟩
      have hrl : ((E.take j).foldl (setE mt 0) dk).length = n := by rw [foldS_len, hdl]
      have hs : (E.take (j + 1)).foldl (setE mt 0) dk = ((E.take j).foldl (setE mt 0) dk).set m1 (mt (((E.take j).foldl (setE mt 0) dk).getD m1 0) (((E.take j).foldl (setE mt 0) dk).getD m 0)) := by
        rw [foldE_succ (setE mt 0) E dk j hjl]
        show ((E.take j).foldl (setE mt 0) dk).set E[j].2.toNat (mt (((E.take j).foldl (setE mt 0) dk).getD E[j].2.toNat 0) (((E.take j).foldl (setE mt 0) dk).getD E[j].1.toNat 0)) = _
        rw [hm, hm', Int.toNat_natCast, Int.toNat_natCast]
      have HM1 := hide' (HMk.out j hjl)
      rw [hm] at q0
      rw [hm'] at q1
      rw [hm, hm', Int.toNat_natCast, Int.toNat_natCast] at HM1
      have hm1 : (0 : Int) ≤ (m : Int) := by omega
      have hm2 : (m : Int) < (n : Int) := by omega
      have hm3 : (0 : Int) ≤ (m1 : Int) := by omega
      have hm4 : (m1 : Int) < (n : Int) := by omega
      have hS' := hS.out.alloc (.cells #[.int .i64 (m : Int), .int .i64 (m1 : Int)] 36)
      obtain ⟨e0, e1, -⟩ := row2 (MapKept.heap_alloc wr (.cells #[.int .i64 (m : Int), .int .i64 (m1 : Int)] 36)).1
      obtain ⟨r0, -⟩ := hS'.1.at (m := m) (by omega) 0
      obtain ⟨t0, t1⟩ := hS'.1.at (m := m1) (by omega) 0
      have HN := hide' (hS'.set HD.out m1 (mt (((E.take j).foldl (setE mt 0) dk).getD m1 0) (((E.take j).foldl (setE mt 0) dk).getD m 0))).drew
      rw [← hs] at HN
      have hDz : D ≠ wr.heap.size := by have := hS.out.1.lt; omega
      (try dsimp only at r0 t0)
      clear hS hS' hag hm hm' hs he
      generalize ((E.take j).foldl (setE mt 0) dk).getD m1 0 = x1 at *
      generalize ((E.take j).foldl (setE mt 0) dk).getD m 0 = x0 at *
      go_wp2_with fail
      generalize wr.alloc (.cells #[.int .i64 (m : Int), .int .i64 (m1 : Int)] 36) = W at *
      generalize wr.heap.size = eb at *
      have HSt : Hid (∀ v, (W.drew.setCell ⟨D, m1, none⟩ v).cell? ⟨eb, 0, none⟩ = some (.int .i64 (m : Int)) ∧ (W.drew.setCell ⟨D, m1, none⟩ v).cell? ⟨eb, 1, none⟩ = some (.int .i64 (m1 : Int))) := fun v => by
        have hh := Below.heap_setCell W.drew ⟨D, m1, none⟩ v eb (fun h => hDz h.symm)
        exact ⟨(World.cell?_of_block hh).trans e0, (World.cell?_of_block hh).trans e1⟩
      clear q0 q1 g0 g1 HX HE HMk HNx
      refine wp_region_held_drew (S := (fun wx => wx.cell? ⟨eb, 0, none⟩ = some (.int .i64 (m : Int)) ∧ wx.cell? ⟨eb, 1, none⟩ = some (.int .i64 (m1 : Int)))) (by kernel_rfl) ⟨e0, e1⟩ (fun hHeld => ?_)
      refine take_yes (i := 0) 19 (v := ?_) rfl rfl (by kernel_rfl) (by kernel_rfl) (by kernel_rfl) (fun _ _ _ h => h) (by kernel_rfl) hHeld ?_ ?_
      rotate_left
      focus (intro w hSw; (try dsimp only at hSw); go_simp; (try with_reducible rfl))
      simp only [Act.put, List.setIfInBounds_toArray, List.set_cons_zero, List.set_cons_succ]
      refine take_yes (i := 1) 20 (v := ?_) rfl rfl (by kernel_rfl) (by kernel_rfl) (by kernel_rfl) (fun _ _ _ h => h) (by kernel_rfl) hHeld ?_ ?_
      rotate_left
      focus (intro w hSw; (try dsimp only at hSw); go_simp; (try with_reducible rfl))
      simp only [Act.put, List.setIfInBounds_toArray, List.set_cons_zero, List.set_cons_succ]
      refine take_yes (i := 2) 21 (v := ?_) rfl rfl (by kernel_rfl) (by kernel_rfl) (by kernel_rfl) (fun _ _ _ h => h) (by kernel_rfl) hHeld ?_ ?_
      rotate_left
      focus (intro w hSw; (try dsimp only at hSw); go_simp; (try with_reducible rfl))
      simp only [Act.put, List.setIfInBounds_toArray, List.set_cons_zero, List.set_cons_succ]
      refine take_yes (i := 3) 22 (v := ?_) rfl rfl (by kernel_rfl) (by kernel_rfl) (by kernel_rfl) (fun _ _ _ h => h) (by kernel_rfl) hHeld ?_ ?_
      rotate_left
      focus (intro w hSw; (try dsimp only at hSw); go_simp; (try with_reducible rfl))
      simp only [Act.put, List.setIfInBounds_toArray, List.set_cons_zero, List.set_cons_succ]
      refine take_yes (i := 4) 23 (v := ?_) rfl rfl (by kernel_rfl) (by kernel_rfl) (by kernel_rfl) (fun _ _ _ h => h) (by kernel_rfl) hHeld ?_ ?_
      rotate_left
      focus (intro w hSw; (try dsimp only at hSw); go_simp; (try with_reducible rfl))
      simp only [Act.put, List.setIfInBounds_toArray, List.set_cons_zero, List.set_cons_succ]
      refine take_yes (i := 5) 24 (v := ?_) rfl rfl (by kernel_rfl) (by kernel_rfl) (by kernel_rfl) (fun _ _ _ h => h) (by kernel_rfl) hHeld ?_ ?_
      rotate_left
      focus (intro w hSw; (try dsimp only at hSw); go_simp; (try with_reducible rfl))
      simp only [Act.put, List.setIfInBounds_toArray, List.set_cons_zero, List.set_cons_succ]
      refine take_yes (i := 6) 25 (v := ?_) rfl rfl (by kernel_rfl) (by kernel_rfl) (by kernel_rfl) (fun _ _ _ h => h) (by kernel_rfl) hHeld ?_ ?_
      rotate_left
      focus (intro w hSw; (try dsimp only at hSw); go_simp; (try with_reducible rfl))
      simp only [Act.put, List.setIfInBounds_toArray, List.set_cons_zero, List.set_cons_succ]
      refine take_yes (i := 7) 26 (v := ?_) rfl rfl (by kernel_rfl) (by kernel_rfl) (by kernel_rfl) (fun _ _ _ h => h) (by kernel_rfl) hHeld ?_ ?_
      rotate_left
      focus (intro w hSw; (try dsimp only at hSw); go_simp; (try with_reducible rfl))
      simp only [Act.put, List.setIfInBounds_toArray, List.set_cons_zero, List.set_cons_succ]
      refine take_yes (i := 9) 28 (v := ?_) rfl rfl (by kernel_rfl) (by kernel_rfl) (by kernel_rfl) (fun _ _ _ h => h) (by kernel_rfl) hHeld ?_ ?_
      rotate_left
      focus (intro w hSw; (try dsimp only at hSw); go_simp; (try with_reducible rfl))
      simp only [Act.put, List.setIfInBounds_toArray, List.set_cons_zero, List.set_cons_succ]
      refine take_yes (i := 10) 29 (v := ?_) rfl rfl (by kernel_rfl) (by kernel_rfl) (by kernel_rfl) (fun _ _ _ h => h) (by kernel_rfl) hHeld ?_ ?_
      rotate_left
      focus (intro w hSw; (try dsimp only at hSw); go_simp; (try with_reducible rfl))
      simp only [Act.put, List.setIfInBounds_toArray, List.set_cons_zero, List.set_cons_succ]
      refine take_yes (i := 11) 30 (v := ?_) rfl rfl (by kernel_rfl) (by kernel_rfl) (by kernel_rfl) (fun _ _ _ h => h) (by kernel_rfl) hHeld ?_ ?_
      rotate_left
      focus (intro w hSw; (try dsimp only at hSw); go_simp; (try with_reducible rfl))
      simp only [Act.put, List.setIfInBounds_toArray, List.set_cons_zero, List.set_cons_succ]
      refine take_yes (i := 12) 31 (v := ?_) rfl rfl (by kernel_rfl) (by kernel_rfl) (by kernel_rfl) (fun _ _ _ h => h) (by kernel_rfl) hHeld ?_ ?_
      rotate_left
      focus (intro w hSw; (try dsimp only at hSw); go_simp; (try with_reducible rfl))
      simp only [Act.put, List.setIfInBounds_toArray, List.set_cons_zero, List.set_cons_succ]
      refine wpAnyH_ready (rs := [8, 13]) (by kernel_rfl) (by simp) ?_
      refine AllReadyH.cons rfl (fun K hK => ?_) (AllReadyH.cons rfl (fun K hK => ?_) AllReadyH.nil)
      all_goals
        go_simp
        refine hK.out _ _ hHeld (fun hHeld => ?_)
        clear hK
        (try simp only [Act.put, List.setIfInBounds_toArray, List.set_cons_zero, List.set_cons_succ])
      focus
        refine wpAnyH_ready (rs := [13]) (by kernel_rfl) (by simp) ?_
        refine AllReadyH.cons rfl (fun K hK => ?_) AllReadyH.nil
        go_simp
        refine hK.out _ _ hHeld (fun hHeld => ?_)
        clear hK
        (try simp only [Act.put, List.setIfInBounds_toArray, List.set_cons_zero, List.set_cons_succ])
      rotate_left
      focus
        refine wpAnyH_ready (rs := [8]) (by kernel_rfl) (by simp) ?_
        refine AllReadyH.cons rfl (fun K hK => ?_) AllReadyH.nil
        go_simp
        refine hK.out _ _ hHeld (fun hHeld => ?_)
        clear hK
        (try simp only [Act.put, List.setIfInBounds_toArray, List.set_cons_zero, List.set_cons_succ])
      rotate_left
      all_goals
        refine wpAnyH_ready (rs := [14]) (by kernel_rfl) (by simp) ?_
        refine AllReadyH.cons rfl (fun K hK => ?_) AllReadyH.nil
        go_simp
        go_at_call 28
        refine (HM1.out _).mono ?_
        rintro e w5 ⟨rfl, e5⟩
        obtain rfl := e5
        have hS := hHeld
        go_wp2_with fail
        refine hK.out _ _ hS (fun hHeld => ?_)
        clear hK
        (try simp only [Act.put, List.setIfInBounds_toArray, List.set_cons_zero, List.set_cons_succ])
        refine take_yes (i := 15) 34 (v := ?_) rfl rfl (by kernel_rfl) (by kernel_rfl) (by kernel_rfl) (fun _ _ _ h => h) (by kernel_rfl) hHeld ?_ ?_
        rotate_left
        focus (intro w hSw; (try dsimp only at hSw); go_simp; (try with_reducible rfl))
        simp only [Act.put, List.setIfInBounds_toArray, List.set_cons_zero, List.set_cons_succ]
        refine wpAnyH_ready (rs := [16]) (by kernel_rfl) (by simp) ?_
        refine AllReadyH.cons rfl (fun K hK => ?_) AllReadyH.nil
        go_simp
        refine hK.out _ _ (HSt.out _) (fun hHeld => ?_)
        clear hK
        (try simp only [Act.put, List.setIfInBounds_toArray, List.set_cons_zero, List.set_cons_succ])
        refine wpAnyH_done (by kernel_rfl) ?_ _
        go_wp2
        go_roundw
        case rel => exact ⟨j + 1, by go_num, by omega, HN⟩
        case measure => simp [intOf]; omega
end Go.Proofs.Ytcdonbepfmhdpaa
/-
  Layer of the program.
-/
namespace Go.Proofs.Ytcdonbepfmhdpaa
open Go.RowKit
set_option linter.unusedVariables false
set_option linter.unusedSimpArgs false

set_option maxHeartbeats 800000 in
theorem layerMeet_any (x y : Int) (hy0 : 0 ≤ y) (hy1 : y ≤ 1000000) (w : World) : Calls Try.prog 28 #[.int .i64 x, .int .i64 y] w fun e w' => e = .returned (.int .i64 (max1 x y)) ∧ w = w' := by
  have hw : IntKind.i64.wrap (y + 1) = y + 1 := by rw [IntKind.wrap_i64]; omega
  unfold max1
  by_cases h : x < y + 1
  · rw [if_pos h]
    go_enter Try.func28, Try.ntmps28
    go_wp2
    go_ret
    exact ⟨rfl, rfl⟩
  · rw [if_neg h]
    go_enter Try.func28, Try.ntmps28
    go_wp2
    go_ret
    exact ⟨rfl, rfl⟩

theorem max_small {n : Nat} {E : List Edg} (hn : n ≤ 20) (hel : E.length ≤ 400) (k j t : Nat) (hk : k < n) : 0 ≤ ((E.take j).foldl (setE max1 0) (itE (setE max1 0) E k (List.replicate n 0))).getD t 0 ∧ ((E.take j).foldl (setE max1 0) (itE (setE max1 0) E k (List.replicate n 0))).getD t 0 ≤ 1000000 := by
  have h1 : UpTo (0 + k * E.length) (maxS E k (List.replicate n 0)) := upTo_maxS E k (upTo_repl n)
  have h2 := upTo_maxR (E.take j) h1 t
  rw [itE_max]
  have h3 : (E.take j).length ≤ 400 := by simp; omega
  have h4 : (k : Int) * (E.length : Int) ≤ 8000 := by
    have h5 : k * E.length ≤ 8000 := Nat.le_trans (Nat.mul_le_mul (show k ≤ 20 by omega) hel) (by decide)
    have h6 := Int.ofNat_le.2 h5
    rw [Int.natCast_mul] at h6
    exact h6
  exact ⟨h2.1, Int.le_trans h2.2 (by omega)⟩

theorem lay_no {n : Int} {E : List Edg} {v : Int} (h : ordB n E = false ∨ hvB n v = false) : layA n E v = -1 := by
  unfold layA
  rw [if_neg]
  rintro ⟨h1, h2, h3⟩
  rcases h with h | h
  · rw [h1] at h
    cases h
  · unfold hvB at h
    simp [h2, h3] at h

set_option maxHeartbeats 3200000 in
set_option maxRecDepth 100000 in
theorem impl_Layer_any (N : Nat) (n : Int) (x : Value) (E : List Edg) (v : Int) (w : World) (hx : ESeg (fun b => b < N) w x E) (hN : N ≤ w.heap.size) :
    Calls Try.prog 12 #[.agg #[.int .i64 n, x], .int .i64 v] w fun e w' => e = .returned (.int .i64 (layA n E v)) ∧ Below w.heap.size w w' := by
  have HX : Hid (∀ wx, Below w.heap.size w wx → ESeg (fun b => b < N) wx x E) := fun wx hb => hx.agree (agree_below (hb.mono hN))
  have Hb : Hid (∀ o : Obj, Below w.heap.size w (w.alloc o)) := fun o => (Below.refl _ _).alloc (Nat.le_refl _) o
  have Hbox : Hid (∀ o wx, Below (w.alloc o).heap.size (w.alloc o) wx → wx.heap[w.heap.size]? = some o) := fun o wx h => box_row h
  have HO : Hid (∀ wx, Below w.heap.size w wx → Calls Try.prog 7 #[.agg #[.int .i64 n, x]] wx fun e w' => ∃ u, e = .returned (.tuple #[u, .bool (ordB n E)]) ∧ NOwn w' wx.heap.size u (ordA n E) ∧ Below wx.heap.size wx w') := fun wx hb => impl_Order_any N n x E wx (HX.out wx hb) (by have := hb.size; omega)
  have HV : Hid (∀ wx, Calls Try.prog 22 #[.agg #[.int .i64 n, x], .int .i64 v] wx fun e w' => e = .returned (.bool (hvB n v)) ∧ Below wx.heap.size wx w') := fun wx => hasVert_any n v x wx
  obtain ⟨i3, hi3, hy0, hy1, hy2⟩ := info_parts infoI
  cases hb : ordB n E with
  | false =>
    have HF := hide' (lay_no (v := v) (.inl hb))
    rw [hb] at HO
    obtain ⟨a, cap, rfl, -⟩ := hx
    clear HX HV hb
    generalize E.length = ll at *
    go_enter Try.func12, Try.ntmps12
    go_wp2_with fail
    refine (HO.out _ (Hb.out _)).mono ?_
    rintro e w1 ⟨u, rfl, -, b1⟩
    have B1 := hide' (Below.on (Hb.out _) b1)
    clear b1
    go_wp2
    go_ret
    exact ⟨ret_i64 HF.out.symm, B1.out⟩
  | true =>
    have hb0 := hb
    rw [hb] at HO
    cases hv : hvB n v with
    | false =>
      have HF := hide' (lay_no (E := E) (.inr hv))
      rw [hv] at HV
      obtain ⟨a, cap, rfl, -⟩ := hx
      clear HX hb hb0 hv
      generalize E.length = ll at *
      go_enter Try.func12, Try.ntmps12
      go_wp2_with fail
      refine (HO.out _ (Hb.out _)).mono ?_
      rintro e w1 ⟨u, rfl, -, b1⟩
      obtain ⟨g0, g1, -⟩ := row2 (Hbox.out _ _ b1)
      have B1 := hide' (Below.on (Hb.out _) b1)
      clear b1
      go_wp2_with fail
      refine (HV.out _).mono ?_
      rintro e w2 ⟨rfl, b2⟩
      have B2 := hide' (Below.on B1.out b2)
      clear b2
      go_wp2
      go_ret
      exact ⟨ret_i64 HF.out.symm, B2.out⟩
    | true =>
      rw [hv] at HV
      have hg : gB n E = true := by
        unfold ordB at hb
        rw [Bool.and_eq_true] at hb
        exact hb.1
      obtain ⟨c0, c1, c2, _⟩ := gB_iff.1 hg
      simp only [hvB, Bool.and_eq_true, decide_eq_true_eq] at hv
      obtain ⟨m, rfl⟩ : ∃ m : Nat, n = (m : Int) := ⟨n.toNat, by omega⟩
      obtain ⟨v', rfl⟩ : ∃ m : Nat, v = (m : Int) := ⟨v.toNat, by omega⟩
      have hm20 : m ≤ 20 := by omega
      have HF : Hid (layA (m : Int) E (v' : Int) = (maxS E m (List.replicate m 0)).getD v' 0) := by
        show _ = _
        rw [← maxS_lay (g_in hg) hb hv.1 hv.2]
        simp [fV]
      have HCy : Hid (∀ D wr o, VSd (Value.int .i64) 3 D w o (List.replicate m (0 : Int)) wr → Calls Try.prog 27 #[.agg #[.int .i64 (m : Int), x], .slice (some ⟨D, 0, none⟩) m m, .func (.func 28) #[] #[]] wr fun e w' => e = .returned (.tuple #[]) ∧ Hid (VRow (Value.int .i64) 3 D (maxS E m (List.replicate m 0)) w' ∧ Below w.heap.size w w')) := fun D wr o h => by
        refine (carryI_any N m D x E max1 (List.replicate m 0) wr (HX.out wr h.2.2.1) (by have := h.2.2.2.1; omega) hm20 (g_in hg) (by simp) h.1 (fun k j hk hj wx => layerMeet_any _ _ (max_small hm20 c2 k j _ hk).1 (max_small hm20 c2 k j _ hk).2 wx)).mono ?_
        rintro e w' ⟨rfl, h1, h2⟩
        rw [itE_max] at h1
        exact ⟨rfl, h1, h.2.2.1.grown h2 h.2.2.1.size (fun k hk => by simp at hk; have := h.2.2.2.1; omega)⟩
      have hml : (maxS E m (List.replicate m 0)).length = m := by rw [maxS_len]; simp
      have k1 : (0 : Int) ≤ (v' : Int) := hv.1
      have k2 : (v' : Int) < (m : Int) := hv.2
      have k3 : v' < m := by omega
      have hmm : (0 : Int) ≤ (m : Int) := by omega
      have hm20' : (m : Int) ≤ 20 := by omega
      obtain ⟨a, cap, rfl, -⟩ := hx
      clear HX hb hb0 hv hg c0 c1 c2
      generalize maxS E m (List.replicate m 0) = mz at *
      generalize E.length = ll at *
      go_enter Try.func12, Try.ntmps12
      go_wp2_with fail
      refine (HO.out _ (Hb.out _)).mono ?_
      rintro e w1 ⟨u, rfl, -, b1⟩
      obtain ⟨g0, g1, -⟩ := row2 (Hbox.out _ _ b1)
      have B1 := hide' b1
      clear b1
      go_wp2_with fail
      refine (HV.out _).mono ?_
      rintro e w2 ⟨rfl, b2⟩
      have B2 := hide' (Below.on B1.out b2)
      clear b2 g0 g1 B1
      have Hbx := hide' (Hbox.out _ _ B2.out)
      obtain ⟨g0, g1, -⟩ := row2 Hbx.out
      have B3 := hide' (Below.on (Hb.out _) B2.out)
      clear B2
      go_wp2_with (refine wpList_make_full _ rfl _ _ 27 rfl w2.heap.size 3 i3 (.int .i64 0) 1 Try.underlying27 hi3 hy0 hy1 .i64 .i64 _ _ m rfl rfl rfl rfl (by rw [hy2]; omega) (by unfold maxLen; omega) (Nat.le_refl _) ?_; intro w3 hown hgrow; have hS0 := vSd_made (V := Value.int .i64) (z := (0 : Int)) rfl Hbx.out B3.out hown hgrow; have HC := hide' (HCy.out _ _ _ hS0); obtain ⟨y0, y1, -⟩ := row2 hS0.2.1; clear hown hgrow hS0)
      clear HCy
      go_wp2_with fail
      refine HC.out.mono ?_
      rintro e w4 ⟨rfl, hF⟩
      obtain ⟨r0, -⟩ := hF.out.1.at (m := v') (by omega) 0
      have B4 := hide' hF.out.2
      clear hF
      generalize mz.getD v' 0 = z at *
      go_wp2
      go_ret
      exact ⟨ret_i64 HF.out.symm, B4.out⟩
end Go.Proofs.Ytcdonbepfmhdpaa
