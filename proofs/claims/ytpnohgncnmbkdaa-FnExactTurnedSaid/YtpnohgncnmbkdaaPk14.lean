/-
  Texts that a law leans on, one behind the other; no statement is proved here.
-/
import Derived.Test.YtpnohgncnmbkdaaPk13
import Derived.Test.YtpnohgncnmbkdaaPk3
/-
  Part of the program.
-/
namespace Go.Proofs.Ytpnohgncnmbkdaa
open Go.RowKit
set_option linter.unusedVariables false
set_option linter.unusedSimpArgs false

theorem partA_len (n : Int) (E : List Edg) (l : List Int) : (partA n E l).length ≤ 1048576 := by
  unfold partA
  split
  · next h =>
    unfold partB at h
    rw [Bool.and_eq_true] at h
    have h1 := List.length_filter_le (keepE l) E
    have h2 := (gB_iff.1 h.1).2.2.1
    omega
  · simp

set_option maxHeartbeats 1600000 in
theorem index_any (N : Nat) (y : Value) (l : List Int) (v : Int) (w : World) (hy : NSeg (fun b => b < N) w y l) :
    Calls Try.prog 90 #[y, .int .i64 v] w fun e w' => ∃ r, e = .returned (.int .i64 r) ∧ Hid (decide (0 ≤ r) = hasB l v) ∧ w = w' := by
  have HC := hide' hy
  obtain ⟨a, cap, rfl, hlc, hcm, -, -⟩ := hy
  unfold maxLen at hcm
  go_enter Try.func90, Try.ntmps90
  go_wp2
  go_loopw [8] (fun i wr => ∃ k : Nat, i = .int .i64 k ∧ k ≤ l.length ∧ wr = w ∧ Hid (∀ j (h : j < l.length), j < k → ¬ l[j] = v)) (fun i _ => l.length - (intOf i).toNat)
  case atStart => exact ⟨0, rfl, Nat.zero_le _, rfl, fun j h h' => by omega⟩
  case round =>
    obtain ⟨k, rfl, hk, rfl, hno⟩ := hrel
    by_cases hlt : k < l.length
    · have hlt' : (k : Int) < (l.length : Int) := by omega
      obtain ⟨b, off, rfl, _, q0⟩ := HC.out.at hlt
      by_cases c : l[k] = v
      · have HF : Hid (decide (0 ≤ (k : Int)) = hasB l v) := by
          show _ = _
          unfold hasB
          have h1 : v ∈ l := by rw [← c]; exact List.getElem_mem hlt
          simp [h1]
        rw [c] at q0
        go_wp2
        go_ret
        exact ⟨_, rfl, HF, rfl⟩
      · have HF : Hid (∀ j (h : j < l.length), j < k + 1 → ¬ l[j] = v) := fun j h h' => by
          by_cases e : j = k
          · subst e; exact c
          · exact hno.out j h (by omega)
        have c' : (v == l[k]) = false := by simpa using fun e : v = l[k] => c e.symm
        clear hno c
        generalize l[k] = lv at *
        go_wp2
        go_roundw
        case rel => exact ⟨k + 1, by go_num, by omega, trivial, HF⟩
        case measure => simp [intOf]; omega
    · have hlt' : ¬ (k : Int) < (l.length : Int) := by omega
      have HF : Hid (decide (0 ≤ (-1 : Int)) = hasB l v) := by
        show _ = _
        unfold hasB
        have h1 : ¬ v ∈ l := fun hm => by
          obtain ⟨i, hi, e⟩ := List.getElem_of_mem hm
          exact hno.out i hi (by omega) e
        simp [h1]
      go_wp2
      go_ret
      exact ⟨_, rfl, HF, rfl⟩

set_option maxHeartbeats 1600000 in
theorem contains_any (N : Nat) (y : Value) (l : List Int) (v : Int) (w : World) (hy : NSeg (fun b => b < N) w y l) :
    Calls Try.prog 74 #[y, .int .i64 v] w fun e w' => e = .returned (.bool (hasB l v)) ∧ w = w' := by
  have HI := hide' (index_any N y l v w hy)
  obtain ⟨a, cap, rfl, -⟩ := hy
  generalize l.length = ll at *
  go_enter Try.func74, Try.ntmps74
  go_wp2_with fail
  refine HI.out.mono ?_
  rintro e w1 ⟨r, rfl, hr, e1⟩
  obtain rfl := e1
  clear HI
  by_cases h0 : 0 ≤ r
  · go_wp2
    go_ret
    exact ⟨ret_bool (by have := hr.out; rw [← this]; try simp [h0]), rfl⟩
  · go_wp2
    go_ret
    exact ⟨ret_bool (by have := hr.out; rw [← this]; try (simp <;> omega)), rfl⟩

set_option maxHeartbeats 1600000 in
theorem partWants_any (N Bs : Nat) (y : Value) (l : List Int) (e : Edg) (w : World) (hy : NSeg (fun b => b < N) w y l) (hN : N ≤ w.heap.size) (hB : w.cell? ⟨Bs, 0, none⟩ = some y) :
    Calls Try.prog 73 #[.agg #[.int .i64 e.1, .int .i64 e.2], .pointer (some ⟨Bs, 0, none⟩)] w fun r w' => r = .returned (.bool (keepE l e)) ∧ Below w.heap.size w w' := by
  obtain ⟨ef, et⟩ := e
  have Hb : Hid (∀ o : Obj, Below w.heap.size w (w.alloc o)) := fun o => (Below.refl _ _).alloc (Nat.le_refl _) o
  have HC : Hid (∀ v o, Calls Try.prog 74 #[y, .int .i64 v] (w.alloc o) fun e w' => e = .returned (.bool (hasB l v)) ∧ (w.alloc o) = w') := fun v o => contains_any N y l v _ (hy.agree (agree_below ((Hb.out o).mono hN)))
  have hBo : ∀ o, (w.alloc o).cell? ⟨Bs, 0, none⟩ = some y := fun o => ((Hb.out o).cell (World.block_lt_of_cell? w _ hB)).trans hB
  have HK : Hid (keepE l (ef, et) = (hasB l ef && hasB l et)) := rfl
  have HC1 := hide' (HC.out ef)
  have HC2 := hide' (HC.out et)
  obtain ⟨a, cap, rfl, -⟩ := hy
  generalize l.length = ll at *
  simp only []
  rw [HK.out]
  clear HC HK
  generalize hasB l ef = b1 at *
  generalize hasB l et = b2 at *
  cases b1 with
  | false =>
    go_enter Try.func73, Try.ntmps73
    go_wp2_with fail
    refine (HC1.out _).mono ?_
    rintro e w1 ⟨rfl, e1⟩
    obtain rfl := e1
    go_wp2
    go_ret
    exact ⟨rfl, Hb.out _⟩
  | true =>
    go_enter Try.func73, Try.ntmps73
    go_wp2_with fail
    refine (HC1.out _).mono ?_
    rintro e w1 ⟨rfl, e1⟩
    obtain rfl := e1
    go_wp2_with fail
    refine (HC2.out _).mono ?_
    rintro e w1 ⟨rfl, e1⟩
    obtain rfl := e1
    go_wp2
    go_ret
    exact ⟨rfl, Hb.out _⟩

theorem row1 {w : World} {g : Nat} {T : TypeId} {c0 : Value} (h : w.heap[g]? = some (.cells #[c0] T (0, 0))) : w.cell? ⟨g, 0, none⟩ = some c0 ∧ ∀ j, w.frozen? ⟨g, j, none⟩ = false :=
  ⟨by rw [cell_of_row w g 0 _ _ _ h]; rfl, fun j => frozen_of_row w g j _ _ h⟩
theorem three_after {w w1 : World} {o o' o'' : Obj} (h : Below (((w.alloc o).alloc o').alloc o'').heap.size (((w.alloc o).alloc o').alloc o'') w1) : w1.heap[w.heap.size]? = some o ∧ w1.heap[w.heap.size + 1]? = some o' ∧ w1.heap[w.heap.size + 2]? = some o'' ∧ Below w.heap.size w w1 ∧ w.heap.size + 3 ≤ w1.heap.size := by
  obtain ⟨k1, k2, k3, k4, k5⟩ := three_boxes w o o' o''
  have hz := h.size
  exact ⟨(h.block _ (by omega)).trans k1, (h.block _ (by omega)).trans k2, (h.block _ (by omega)).trans k3, Below.on k5 h, by omega⟩

set_option maxHeartbeats 6400000 in
set_option maxRecDepth 100000 in
theorem impl_Part_any (N : Nat) (n : Int) (x y : Value) (E : List Edg) (l : List Int) (w : World) (hx : ESeg (fun b => b < N) w x E) (hy : NSeg (fun b => b < N) w y l) (hN : N ≤ w.heap.size) :
    Calls Try.prog 44 #[.agg #[.int .i64 n, x], y] w (GrEnd (partN n E l) (partA n E l) (partB n E l) w) := by
  have HX : Hid (∀ wx, Below w.heap.size w wx → ESeg (fun b => b < N) wx x E) := fun wx hb => hx.agree (agree_below (hb.mono hN))
  have HY : Hid (∀ wx, Below w.heap.size w wx → NSeg (fun b => b < N) wx y l) := fun wx hb => hy.agree (agree_below (hb.mono hN))
  have Hb3 : Hid (∀ o o' o'' : Obj, Below w.heap.size w (((w.alloc o).alloc o').alloc o'')) := fun o o' o'' => (three_boxes w o o' o'').2.2.2.2
  have HG : Hid (∀ wx, Below w.heap.size w wx → Calls Try.prog 18 #[.agg #[.int .i64 n, x]] wx fun e w' => e = .returned (.bool (gB n E)) ∧ Below wx.heap.size wx w') := fun wx hb => impl_GraphOk_any N n x E wx (HX.out wx hb) (by have := hb.size; omega)
  have HWe : Hid (E.length ≤ 400 → ∀ wx, Below w.heap.size w wx → wx.cell? ⟨w.heap.size + 1, 0, none⟩ = some y → Calls Try.prog 60 #[.agg #[.int .i64 n, x], .func (.func 73) #[] #[.pointer (some ⟨w.heap.size + 1, 0, none⟩)]] wx fun e w' => ∃ u, e = .returned (.agg #[.int .i64 n, u]) ∧ EOwn w' wx.heap.size u (E.filter (keepE l)) ∧ Below wx.heap.size wx w') := fun hel wx hb hc =>
    withEdgesP_any N n x _ E (keepE l) wx (HX.out wx hb) (by have := hb.size; omega) hel (fun j h wy hb2 => partWants_any N _ y l E[j] wy (HY.out wy (Below.on hb hb2)) (by have := (Below.on hb hb2).size; omega) ((hb2.cell (World.block_lt_of_cell? wx _ hc)).trans hc))
  obtain ⟨a, cap, rfl, hlc, hcm, -, -⟩ := hx
  obtain ⟨ya, yc, rfl, hlc', hcm', -, -⟩ := hy
  unfold maxLen at hcm hcm'
  show Calls _ _ _ _ fun e w' => ∃ u, e = .returned (.tuple #[.agg #[.int .i64 (partN n E l), u], .bool (partB n E l)]) ∧ EOwn w' w.heap.size u (partA n E l) ∧ Below w.heap.size w w'
  clear HX HY
  by_cases hok : partB n E l = true
  rotate_left
  · have hok' : partB n E l = false := by simpa using hok
    have ha0 : partA n E l = [] := by simp [partA, hok']
    have hn0 : partN n E l = 0 := by simp [partN, hok']
    rw [hok', ha0, hn0]
    have hcs : gB n E = false ∨ (gB n E = true ∧ (20 : Int) < (l.length : Int)) := by
      unfold partB at hok'
      cases hg : gB n E with
      | false => exact .inl rfl
      | true =>
        rw [hg] at hok'
        simp at hok'
        exact .inr ⟨rfl, by omega⟩
    clear hok hok' ha0 hn0 HWe
    generalize E.length = ll at *
    generalize l.length = ml at *
    rcases hcs with hg | ⟨hg, hll⟩
    all_goals
      rw [hg] at HG
      go_enter Try.func44, Try.ntmps44
      go_wp2_with fail
      refine (HG.out _ (Hb3.out _ _ _)).mono ?_
      rintro e w1 ⟨rfl, b1⟩
      obtain ⟨h1, h2, h2', h3, h4⟩ := three_after b1
      obtain ⟨y0, -⟩ := row1 h2
      obtain ⟨t0, t1, tf⟩ := row2 h2'
      have tf0 := tf 0
      have tf1 := tf 1
      have hrow := row2 (set2_heap (j := 0) (.int .i64 0) (.slice none 0 0) h2')
      simp only [set2, Nat.zero_add] at hrow
      have Hrow := hide' hrow
      have hgr := set2_grown w1 (w.heap.size + 2) 0 (.int .i64 0) (.slice none 0 0)
      have HB := hide' (h3.grown hgr (by omega) (by intro k hk; simp at hk; omega))
      clear b1 h1 h2 h2' tf hrow hgr
      go_wp2_with fail
      obtain ⟨u0, u1, _⟩ := Hrow.out
      refine bodyPost_ret (v := .tuple #[.agg #[.int .i64 0, .slice none 0 0], .bool false]) (by simp [results, Try.results44, go_sem, u0, u1]) rfl ?_
      exact ⟨_, rfl, EOwn.nil _ _, HB.out⟩
  have hpb : gB n E = true ∧ l.length ≤ 20 := by
    unfold partB at hok
    simpa using hok
  obtain ⟨hg, hll⟩ := hpb
  have hll' : ¬ (20 : Int) < (l.length : Int) := by omega
  obtain ⟨-, -, hel, -⟩ := gB_iff.1 hg
  have HPa : Hid (partA n E l = E.filter (keepE l)) := by show _ = _; simp [partA, hok]
  have HPn : Hid (partN n E l = n) := by show _ = _; simp [partN, hok]
  have HWe' := hide' (HWe.out hel)
  rw [hg] at HG
  rw [hok, HPn.out]
  clear hg hok HPn HWe
  generalize E.length = ll at *
  go_enter Try.func44, Try.ntmps44
  go_wp2_with fail
  refine (HG.out _ (Hb3.out _ _ _)).mono ?_
  rintro e w1 ⟨rfl, b1⟩
  obtain ⟨h1, h2, h2', h3, h4⟩ := three_after b1
  obtain ⟨g0, g1, -⟩ := row2 h1
  obtain ⟨y0, -⟩ := row1 h2
  have HW2 := hide' (HWe'.out w1 h3 y0)
  have H2' := hide' h2'
  have B3 := hide' h3
  clear b1 h1 h2 h2' h3 HG HWe'
  go_wp2_with fail
  refine HW2.out.mono ?_
  rintro e w2 ⟨u, rfl, hO, b2⟩
  have h2 := (b2.block (w.heap.size + 2) (by omega)).trans H2'.out
  obtain ⟨ua, uc, rfl⟩ := hO.form
  obtain ⟨t0, t1, tf⟩ := row2 h2
  have tf0 := tf 0
  have tf1 := tf 1
  have hrow := row2 (set2_heap (j := 0) (.int .i64 n) (.slice ua (E.filter (keepE l)).length uc) h2)
  simp only [set2, Nat.zero_add] at hrow
  have Hrow := hide' hrow
  have hgr := set2_grown w2 (w.heap.size + 2) 0 (.int .i64 n) (.slice ua (E.filter (keepE l)).length uc)
  have hz := B3.out.size
  have hz2 := b2.size
  have HB := hide' ((Below.on B3.out b2).grown hgr (by omega) (by intro k hk; simp at hk; omega))
  have HO := hide' ((hO.far hgr (fun q hq => by have := (hO.lt q hq).1; simp; omega)).down (base' := w.heap.size) (by omega))
  clear hO b2 h2 tf hrow hgr HW2 H2' B3
  generalize hfn : (E.filter (keepE l)).length = fn at *
  go_wp2_with fail
  obtain ⟨u0, u1, _⟩ := Hrow.out
  refine bodyPost_ret (v := .tuple #[.agg #[.int .i64 n, .slice ua fn uc], .bool true]) (by simp [results, Try.results44, go_sem, u0, u1]) rfl ?_
  exact ⟨_, rfl, by rw [HPa.out]; exact HO.out, HB.out⟩
end Go.Proofs.Ytpnohgncnmbkdaa
