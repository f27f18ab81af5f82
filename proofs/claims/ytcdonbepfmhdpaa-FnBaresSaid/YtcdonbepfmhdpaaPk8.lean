/-
  Texts that a law leans on, one behind the other; no statement is proved here.
-/
import Derived.Test.YtcdonbepfmhdpaaPk5
import Derived.Test.YtcdonbepfmhdpaaPk6
import Derived.Test.YtcdonbepfmhdpaaPk7
import Derived.Test.YtcdonbepfmhdpaaPk4
import Derived.Deep.AppendLies
import Derived.Test.YtcdonbepfmhdpaaPk2
import Derived.Test.YtcdonbepfmhdpaaPk3
import Derived.BigQuiet
/-
  Reach of the program.
-/
namespace Go.Proofs.Ytcdonbepfmhdpaa
open Go.RowKit
set_option linter.unusedVariables false
set_option linter.unusedSimpArgs false

theorem rchA_len (n : Int) (E : List Edg) (l : List Int) : (rchA n E l).length ≤ 1048576 := by
  unfold rchA
  split
  · next h =>
    unfold rchB at h
    rw [decide_eq_true_eq] at h
    have := reachF_len n.toNat E l
    have := (gB_iff.1 h.1).2.1
    omega
  · simp

section
variable {α : Type} {V : α → Value} {ty : Nat}
/-- A row that is read, and numbers of the call's own behind B. -/
def QSg (V : α → Value) (ty : Nat) (sr : List α) (D B : Nat) (w : World) (u : Value) (l : List Int) (wr : World) : Prop := VRow V ty D sr wr ∧ NOwn wr B u l ∧ Below w.heap.size w wr ∧ B ≤ wr.heap.size ∧ D < B ∧ w.heap.size ≤ B
theorem qSg_add {sr : List α} {D B g cp : Nat} {w wr w6 : World} {ua : Option Addr} {uc : Nat} {l : List Int} {x : Int} {o : Obj} (h : QSg V ty sr D B w (.slice ua l.length uc) l wr) (h1 : w6.ownsRow B 3 1 (.slice (some ⟨g, 0, none⟩) (l.length + 1) cp) (l.length + 1) (iC l ++ [.int .i64 x])) (h2 : (wr.alloc o).grownBy w6 (Value.slice ua l.length uc).ownBlock) : QSg V ty sr D B w (.slice (some ⟨g, 0, none⟩) (l.length + 1) cp) (l ++ [x]) w6 := by
  obtain ⟨q1, q2, q3, q4, q5, q6⟩ := h
  refine ⟨(q1.keep (World.grownBy_alloc wr o none) (by simp)).keep h2 (fun e => by have := (q2.lt _ e).1; omega), ?_, (q3.alloc (by omega) o).grown h2 (by simp; omega) (fun k hk => by have := (q2.lt _ hk).1; omega), by have := h2.size; simp at this; omega, q5, q6⟩
  unfold NOwn
  rw [iC_add, List.length_append]
  exact h1
/-- A box, a row of the call's own in block D, and all ahead of both as it was. -/
def VSd (V : α → Value) (ty D : Nat) (w : World) (o : Obj) (s : List α) (wr : World) : Prop := VRow V ty D s wr ∧ wr.heap[w.heap.size]? = some o ∧ Below w.heap.size w wr ∧ w.heap.size < D ∧ D < wr.heap.size
variable {D : Nat} {s : List α} {w wr w' : World} {o : Obj}
theorem VSd.set (h : VSd V ty D w o s wr) (m : Nat) (x : α) : VSd V ty D w o (s.set m x) (wr.setCell ⟨D, m, none⟩ (V x)) := by
  obtain ⟨h1, h2, h3, h4, h5⟩ := h
  refine ⟨h1.set m x, (Below.heap_setCell wr _ _ _ (by show w.heap.size ≠ D; omega)).trans h2, h3.setCell (by show w.heap.size ≤ D; omega) _, h4, by simp [World.setCell]; omega⟩
theorem VSd.grown {r : Option Nat} (h : VSd V ty D w o s wr) (hg : wr.grownBy w' r) (hr : ∀ k, r = some k → D < k) : VSd V ty D w o s w' := by
  obtain ⟨h1, h2, h3, h4, h5⟩ := h
  exact ⟨h1.keep hg (fun e => by have := hr _ e; omega), (hg.block _ (by omega) (fun e => by have := hr _ e.symm; omega)).trans h2, h3.grown hg (by omega) (fun k hk => by have := hr k hk; omega), h4, by have := hg.size; omega⟩
theorem VSd.on (h : VSd V ty D w o s wr) (hb : Below wr.heap.size wr w') : VSd V ty D w o s w' := h.grown (r := none) ⟨hb.os, hb.tape, hb.output, hb.size, fun k hk _ => hb.block k hk⟩ (by simp)
theorem VSd.alloc (h : VSd V ty D w o s wr) (o' : Obj) : VSd V ty D w o s (wr.alloc o') := h.grown (World.grownBy_alloc wr o' none) (by simp)
theorem vSd_made {w1 w2 : World} {n : Nat} {z : α} (hz : (V z).cells = #[V z]) (hbox : w1.heap[w.heap.size]? = some o) (hb : Below w.heap.size w w1) (hown : w2.ownsRow w1.heap.size ty 1 (.slice (some ⟨w1.heap.size, 0, none⟩) n n) n (madeCells (Value.cells (V z)) (n * 1)).toList) (hg : w1.grownBy w2 none) : VSd V ty w1.heap.size w o (List.replicate n z) w2 := by
  have hlt := (Array.getElem?_eq_some_iff.1 hbox).1
  rcases hown.2 with ⟨h1, _⟩ | ⟨g, cp, cur, h1, _, h3, _, _, h6, h7⟩
  · simp at h1
  · simp only [Value.slice.injEq, Option.some.injEq, Addr.mk.injEq, and_true, true_and] at h1
    obtain ⟨e1, e2⟩ := h1
    subst e1
    subst e2
    have hlt2 : w1.heap.size < w2.heap.size := (Array.getElem?_eq_some_iff.1 h3).1
    refine ⟨?_, (hg.block w.heap.size hlt (by simp)).trans hbox, hb.grown hg hb.size (by simp), hlt, hlt2⟩
    unfold VRow
    rw [h3]
    have hc : cur.toList = List.replicate n (V z) := by
      rw [List.take_of_length_le (by simp [h6])] at h7
      rw [h7, hz, toList_madeCells_one, Nat.mul_one]
    congr 2
    rw [List.map_replicate, ← hc]
end

set_option maxHeartbeats 800000 in
theorem reachMeet_any (x y : Bool) (w : World) : Calls Try.prog 32 #[.bool x, .bool y] w fun e w' => e = .returned (.bool (x || y)) ∧ w = w' := by
  cases x
  · go_enter Try.func32, Try.ntmps32
    go_wp2
    go_ret
    exact ⟨rfl, rfl⟩
  · go_enter Try.func32, Try.ntmps32
    go_wp2
    go_ret
    exact ⟨rfl, rfl⟩

set_option maxHeartbeats 6400000 in
set_option maxRecDepth 100000 in
theorem impl_Reach_any (N : Nat) (n : Int) (x y : Value) (E : List Edg) (l : List Int) (w : World) (hx : ESeg (fun b => b < N) w x E) (hy : NSeg (fun b => b < N) w y l) (hN : N ≤ w.heap.size) :
    Calls Try.prog 14 #[.agg #[.int .i64 n, x], y] w fun e w' => ∃ u, e = .returned u ∧ NOwn w' w.heap.size u (rchA n E l) ∧ Below w.heap.size w w' := by
  have HX : Hid (∀ wx, Below w.heap.size w wx → ESeg (fun b => b < N) wx x E) := fun wx hb => hx.agree (agree_below (hb.mono hN))
  have HY : Hid (∀ wx, Below w.heap.size w wx → NSeg (fun b => b < N) wx y l) := fun wx hb => hy.agree (agree_below (hb.mono hN))
  have Hb : Hid (∀ o : Obj, Below w.heap.size w (w.alloc o)) := fun o => (Below.refl _ _).alloc (Nat.le_refl _) o
  have Hbox : Hid (∀ o wx, Below (w.alloc o).heap.size (w.alloc o) wx → wx.heap[w.heap.size]? = some o) := fun o wx h => box_row h
  have HG : Hid (∀ wx, Below w.heap.size w wx → Calls Try.prog 9 #[.agg #[.int .i64 n, x]] wx fun e w' => e = .returned (.bool (gB n E)) ∧ Below wx.heap.size wx w') := fun wx hb => impl_GraphOk_any N n x E wx (HX.out wx hb) (by have := hb.size; omega)
  have HV : Hid (∀ v wx, Calls Try.prog 22 #[.agg #[.int .i64 n, x], .int .i64 v] wx fun e w' => e = .returned (.bool (hvB n v)) ∧ Below wx.heap.size wx w') := fun v wx => hasVert_any n v x wx
  obtain ⟨i0, hi, hz0, hz1, hz2⟩ := info_parts infoB
  obtain ⟨i3, hi3, hy0, hy1, hy2⟩ := info_parts infoI
  obtain ⟨ya, yc, rfl, hlc', hcm', -, -⟩ := hy
  unfold maxLen at hcm'
  by_cases hg : gB n E = true
  rotate_left
  · have HF := hide' (rch_no (n := n) (E := E) (l := l) (fun h => hg h.1))
    have hg' : gB n E = false := by simpa using hg
    obtain ⟨a, cap, rfl, -⟩ := hx
    rw [hg'] at HG
    rw [HF.out]
    clear HX HY hg hg' HV
    generalize E.length = ll at *
    generalize l.length = ml at *
    go_enter Try.func14, Try.ntmps14
    go_wp2_with fail
    refine (HG.out _ (Hb.out _)).mono ?_
    rintro e w1 ⟨rfl, b1⟩
    have B1 := hide' (Below.on (Hb.out _) b1)
    clear b1
    go_wp2
    go_ret
    exact ⟨_, rfl, NOwn.nil _ _, B1.out⟩
  have hg1 := hg
  rw [hg] at HG
  by_cases hl : 20 < l.length
  · have HF := hide' (rch_no (n := n) (E := E) (l := l) (by omega))
    have hl' : (20 : Int) < (l.length : Int) := by omega
    obtain ⟨a, cap, rfl, -⟩ := hx
    rw [HF.out]
    clear HX HY hg HV
    generalize E.length = ll at *
    go_enter Try.func14, Try.ntmps14
    go_wp2_with fail
    refine (HG.out _ (Hb.out _)).mono ?_
    rintro e w1 ⟨rfl, b1⟩
    have B1 := hide' (Below.on (Hb.out _) b1)
    clear b1
    go_wp2
    go_ret
    exact ⟨_, rfl, NOwn.nil _ _, B1.out⟩
  have hl' : ¬ (20 : Int) < (l.length : Int) := by omega
  obtain ⟨c0, c1, _⟩ := gB_iff.1 hg
  obtain ⟨m, rfl⟩ : ∃ m : Nat, n = (m : Int) := ⟨n.toNat, by omega⟩
  have hm20 : m ≤ 20 := by omega
  have HCy : Hid (∀ D s wr o, s.length = m → VSd Value.bool 4 D w o s wr → Calls Try.prog 31 #[.agg #[.int .i64 (m : Int), x], .slice (some ⟨D, 0, none⟩) m m, .func (.func 32) #[] #[]] wr fun e w' => e = .returned (.tuple #[]) ∧ Hid (VRow Value.bool 4 D (roundsF E m s) w' ∧ Below w.heap.size w w' ∧ D < w'.heap.size)) := fun D s wr o hs h => by
    refine (carryB_any N m D x E (· || ·) s wr (HX.out wr h.2.2.1) (by have := h.2.2.2.1; omega) hm20 (g_in hg) hs h.1 (fun k j _ _ wx => reachMeet_any _ _ wx)).mono ?_
    rintro e w' ⟨rfl, h1, h2⟩
    rw [itE_or (g_in hg) m hs] at h1
    exact ⟨rfl, h1, h.2.2.1.grown h2 h.2.2.1.size (fun k hk => by simp at hk; have := h.2.2.2.1; omega), by have := h2.size; have := h.2.2.2.2; omega⟩
  have HG1 := hide' hg
  obtain ⟨a, cap, rfl, -⟩ := hx
  clear HX hg hg1
  have hmm : (0 : Int) ≤ (m : Int) := by omega
  have hm20' : (m : Int) ≤ 20 := by omega
  clear c0 c1
  have HRe : Hid ((∀ v ∈ l, 0 ≤ v ∧ v < (m : Int)) → rchA (m : Int) E l = outF (roundsF E m (markF l (List.replicate m false))) m) := fun h => rch_yes ⟨HG1.out, by omega, h⟩
  have HRn : Hid (∀ v ∈ l, ¬ (0 ≤ v ∧ v < (m : Int)) → rchA (m : Int) E l = []) := fun v hv h => rch_no fun h' => h (h'.2.2 v hv)
  have HEl : Hid (∀ s, (roundsF E m s).length = s.length) := fun s => roundsF_len E m s
  generalize roundsF E m = rF at *
  generalize rchA (m : Int) E l = A at *
  generalize hEl : E.length = ll at *
  go_enter Try.func14, Try.ntmps14
  go_wp2_with fail
  refine (HG.out _ (Hb.out _)).mono ?_
  rintro e w1 ⟨rfl, b1⟩
  have hbx := Hbox.out _ _ b1
  obtain ⟨y0, y1, -⟩ := row2 hbx
  have Hbx := hide' hbx
  have B1 := hide' (Below.on (Hb.out _) b1)
  clear b1 hbx
  go_wp2_with (refine wpList_make_full _ rfl _ _ 41 rfl w1.heap.size 4 i0 (.bool false) 1 Try.underlying41 hi hz0 hz1 .i64 .i64 _ _ m rfl rfl rfl rfl (by rw [hz2]; omega) (by unfold maxLen; omega) (Nat.le_refl _) ?_; intro w2 hown hgrow; have hS0 := hide' (vSd_made (V := Value.bool) (z := false) rfl Hbx.out B1.out hown hgrow); clear hown hgrow)
  generalize w1.heap.size = D at *
  clear y0 y1 Hbx B1
  go_wp2_with fail
  go_loopw [24] (fun i wr => ∃ k : Nat, i = .int .i64 k ∧ k ≤ l.length ∧ Hid (VSd Value.bool 4 D w (.cells #[.int .i64 (m : Int), .slice a ll cap] 25) (markF (l.take k) (List.replicate m false)) wr ∧ ∀ j (h : j < l.length), j < k → 0 ≤ l[j] ∧ l[j] < (m : Int))) (fun i _ => l.length - (intOf i).toNat)
  case atStart => exact ⟨0, rfl, Nat.zero_le _, hS0.out, fun j h h' => by omega⟩
  case round =>
    clear hS0
    obtain ⟨k, rfl, hk, hS⟩ := hrel
    obtain ⟨g0, g1, -⟩ := row2 hS.out.1.2.1
    by_cases hlt : k < l.length
    · have hlt' : (k : Int) < (l.length : Int) := by omega
      obtain ⟨b, off, rfl, _, q0⟩ := (HY.out wr hS.out.1.2.2.1).at hlt
      have hmem : l[k] ∈ l := List.getElem_mem hlt
      have HVk := hide' (HV.out l[k])
      cases hv : hvB (m : Int) l[k] with
      | false =>
        have HF : Hid (A = []) := HRn.out _ hmem (fun h => by simp only [hvB, Bool.and_eq_false_iff, decide_eq_false_iff_not] at hv; omega)
        rw [hv] at HVk
        have B2 := hide' hS.out.1.2.2.1
        clear hS hv hmem HRn HRe HCy
        generalize l[k] = v at *
        go_wp2_with fail
        refine (HVk.out _).mono ?_
        rintro e w3 ⟨rfl, b3⟩
        have B3 := hide' (Below.on B2.out b3)
        clear b3
        go_wp2
        go_ret
        exact ⟨_, rfl, by rw [HF.out]; exact NOwn.nil _ _, B3.out⟩
      | true =>
        have hv' : 0 ≤ l[k] ∧ l[k] < (m : Int) := by
          simp only [hvB, Bool.and_eq_true, decide_eq_true_eq] at hv
          exact hv
        rw [hv] at HVk
        obtain ⟨q, hq⟩ : ∃ q : Nat, l[k] = (q : Int) := ⟨l[k].toNat, by omega⟩
        have hml : q < (markF (l.take k) (List.replicate m false)).length := by rw [markF_len]; simp; omega
        have HNx : Hid (∀ w3, Below wr.heap.size wr w3 → VSd Value.bool 4 D w (.cells #[.int .i64 (m : Int), .slice a ll cap] 25) (markF (l.take k) (List.replicate m false)) w3 ∧ (VSd Value.bool 4 D w (.cells #[.int .i64 (m : Int), .slice a ll cap] 25) (markF (l.take (k + 1)) (List.replicate m false)) (w3.setCell ⟨D, q, none⟩ (.bool true)) ∧ ∀ j (h : j < l.length), j < k + 1 → 0 ≤ l[j] ∧ l[j] < (m : Int))) := fun w3 b3 => by
          have h1 := hS.out.1.on b3
          refine ⟨h1, ?_, fun j h h' => ?_⟩
          · have h2 := h1.set q true
            rw [← bSet_nat, ← hq, ← markF_succ l _ k hlt] at h2
            exact h2
          · by_cases e : j = k
            · subst e; exact hv'
            · exact hS.out.2 j h (by omega)
        have hm1 : (0 : Int) ≤ (q : Int) := by omega
        have hm2 : (q : Int) < (m : Int) := by omega
        rw [hq] at q0 HVk
        clear hS hv hmem HRn HRe HCy hv' hq
        generalize hmk : markF (l.take k) (List.replicate m false) = mk at *
        go_wp2_with fail
        refine (HVk.out _).mono ?_
        rintro e w3 ⟨rfl, b3⟩
        obtain ⟨h3, h4⟩ := HNx.out w3 b3
        have HN := hide' h4
        obtain ⟨r0, r1⟩ := h3.1.at (m := q) hml false
        clear b3 h3 h4 HNx
        generalize mk.getD q false = bb at *
        go_wp2
        go_roundw
        case rel => exact ⟨k + 1, by go_num, by omega, HN⟩
        case measure => simp [intOf]; omega
    · have hlt' : ¬ (k : Int) < (l.length : Int) := by omega
      obtain rfl : k = l.length := by omega
      have hall : ∀ v ∈ l, 0 ≤ v ∧ v < (m : Int) := fun v hv => by
        obtain ⟨i, hi, rfl⟩ := List.getElem_of_mem hv
        exact hS.out.2 i hi (by omega)
      have HRe' := hide' (HRe.out hall)
      have hml : (markF l (List.replicate m false)).length = m := by rw [markF_len]; simp
      have HC1 : Hid (Calls Try.prog 31 #[.agg #[.int .i64 (m : Int), .slice a ll cap], .slice (some ⟨D, 0, none⟩) m m, .func (.func 32) #[] #[]] wr fun e w' => e = .returned (.tuple #[]) ∧ Hid (VRow Value.bool 4 D (rF (markF l (List.replicate m false))) w' ∧ Below w.heap.size w w' ∧ D < w'.heap.size)) := by
        have h1 := hS.out.1
        rw [List.take_length] at h1
        exact HCy.out D _ wr _ hml h1
      have hdl : (rF (markF l (List.replicate m false))).length = m := by rw [HEl.out, hml]
      have hwD := hS.out.1.2.2.2.1
      clear hS hall HRe HRn HCy HEl
      generalize rF (markF l (List.replicate m false)) = dz at *
      go_wp2_with fail
      refine HC1.out.mono ?_
      rintro e w3 ⟨rfl, hF⟩
      have hS3 : Hid (QSg Value.bool 4 dz D w3.heap.size w (.slice none 0 0) (outF dz 0) w3) := ⟨hF.out.1, NOwn.nil _ _, hF.out.2.1, Nat.le_refl _, hF.out.2.2, hF.out.2.1.size⟩
      clear hF HC1
      generalize w3.heap.size = B at *
      go_wp2_with fail
      go_loopw [8, 41] (fun u i wz => ∃ j : Nat, i = .int .i64 j ∧ j ≤ m ∧ Hid (QSg Value.bool 4 dz D B w u (outF dz j) wz)) (fun _ i _ => m - (intOf i).toNat)
      case atStart => exact ⟨0, rfl, Nat.zero_le _, hS3⟩
      case round =>
        clear hS3 g0 g1
        obtain ⟨j, rfl, hj, hS⟩ := hrel
        obtain ⟨ua, uc, rfl⟩ := hS.out.2.1.form
        have hol := outF_len dz j
        by_cases hjk : j < m
        · have hjk' : (j : Int) < (m : Int) := by omega
          obtain ⟨r0, -⟩ := hS.out.1.at (m := j) (by omega) false
          have hos := outF_succ dz j
          by_cases hb : dz.getD j false = true
          · rw [if_pos hb] at hos
            rw [hb] at r0
            have HOw : Hid (∀ o, (wr.alloc o).ownsRow B 3 1 (.slice ua (outF dz j).length uc) (outF dz j).length (iC (outF dz j))) := fun o => World.ownsRow.alloc hS.out.2.1 o
            have hzr : B ≤ wr.heap.size := hS.out.2.2.2.1
            have HNx : Hid (∀ o g cp w6, w6.ownsRow B 3 1 (.slice (some ⟨g, 0, none⟩) ((outF dz j).length + 1) cp) ((outF dz j).length + 1) (iC (outF dz j) ++ [.int .i64 (j : Int)]) → (wr.alloc o).grownBy w6 (Value.slice ua (outF dz j).length uc).ownBlock → QSg Value.bool 4 dz D B w (.slice (some ⟨g, 0, none⟩) ((outF dz j).length + 1) cp) (outF dz (j + 1)) w6) := fun o g cp w6 h1 h2 => by
              rw [hos]
              exact qSg_add hS.out h1 h2
            clear hS hos hb
            generalize hol' : (outF dz j).length = ol at *
            go_wp2_with (at_builtin; refine wpList_append_lies _ rfl (.tmp 47) (.tmp 49) 27 (by rfl) B 3 i3 (.int .i64 0) 1 8 Try.underlying27 hi3 hy0 hy1 hy2 rfl (by decide) (.slice ua ol uc) ol (iC (outF dz j)) (by rfl) (HOw.out _) ⟨wr.heap.size, 0, none⟩ 1 1 [.int .i64 (j : Int)] (by rfl) (by rfl) (World.news_of_block (cs := #[.int .i64 (j : Int)]) (t := 3) (fr := (0, 0)) (heap_alloc_new wr _)) (by simp [Value.oneCell']) (by omega) (by unfold maxLen; omega) (by omega) (by simp; omega) (wr.heap.size + 1) (by simp) ?_; intro g6 cp6 w6 hown6 hg6 hat6 hlt6; replace hown6 := hide' (HNx.out _ _ _ _ hown6 hg6); clear hg6 hat6 hlt6)
            go_wp2
            go_roundw
            case rel => exact ⟨j + 1, by go_num, by omega, hown6⟩
            case measure => simp [intOf]; omega
          · rw [if_neg hb] at hos
            have hb' : dz.getD j false = false := by simpa using hb
            rw [hb'] at r0
            have HN : Hid (QSg Value.bool 4 dz D B w (.slice ua (outF dz j).length uc) (outF dz (j + 1)) wr) := by
              rw [hos, List.append_nil]
              exact hS.out
            clear hS hos hb hb'
            generalize (outF dz j).length = ol at *
            go_wp2
            go_roundw
            case rel => exact ⟨j + 1, by go_num, by omega, HN⟩
            case measure => simp [intOf]; omega
        · have hjk' : ¬ (j : Int) < (m : Int) := by omega
          obtain rfl : j = m := by omega
          have HF' := hide' (And.intro (hS.out.2.1.down (base' := w.heap.size) hS.out.2.2.2.2.2) hS.out.2.2.1)
          clear hS
          generalize (outF dz j).length = ol at *
          go_wp2
          go_ret
          exact ⟨_, rfl, by rw [HRe'.out]; exact HF'.out.1, HF'.out.2⟩
end Go.Proofs.Ytcdonbepfmhdpaa
/-
  What the walk of FnReaches wants besides: the row of bools, the call of Reach at one vertex.
-/
namespace Go.Proofs.Ytcdonbepfmhdpaa
open Go.RowKit
set_option linter.unusedVariables false
set_option linter.unusedSimpArgs false

theorem bRow_made {w w1 : World} {n : Nat} (hown : w1.ownsRow w.heap.size 4 1 (.slice (some ⟨w.heap.size, 0, none⟩) n n) n (madeCells (Value.cells (.bool false)) (n * 1)).toList) : BRow w.heap.size (List.replicate n false) w1 := by
  rcases hown.2 with ⟨h1, _⟩ | ⟨g, cp, cur, h1, _, h3, _, _, h6, h7⟩
  · simp at h1
  · simp only [Value.slice.injEq, Option.some.injEq, Addr.mk.injEq, and_true, true_and] at h1
    obtain ⟨e1, e2⟩ := h1
    subst e1
    subst e2
    unfold BRow
    rw [h3]
    have hc : cur.toList = List.replicate n (.bool false) := by
      rw [List.take_of_length_le (by simp [h6])] at h7
      rw [h7]
      have : (Value.bool false).cells = #[.bool false] := rfl
      rw [this, toList_madeCells_one, Nat.mul_one]
    congr 2
    rw [List.map_replicate, ← hc]

/-- The bools' row behind all that w had. -/
def QBt (w : World) (dn : List Bool) (wr : World) : Prop := BRow w.heap.size dn wr ∧ Below w.heap.size w wr
theorem QBt.set {w wr : World} {dn : List Bool} (h : QBt w dn wr) (m : Nat) (b : Bool) : QBt w (dn.set m b) (wr.setCell ⟨w.heap.size, m, none⟩ (.bool b)) := ⟨h.1.set m b, h.2.setCell (by show w.heap.size ≤ w.heap.size; omega) _⟩
theorem QBt.drew {w wr : World} {dn : List Bool} (h : QBt w dn wr) : QBt w dn wr.drew := ⟨h.1, Below.on h.2 ((Below.refl _ _).drew)⟩

theorem QBt.drewN {w wr : World} {dn : List Bool} (h : QBt w dn wr) (n : Nat) : QBt w dn (wr.drewN n) := ⟨h.1, below_drewN h.2 n⟩
theorem nseg_new (w : World) (z : Int) : NSeg (fun b => b < w.heap.size + 1) (w.alloc (.cells #[.int .i64 z] 3)) (.slice (some ⟨w.heap.size, 0, none⟩) 1 1) [z] := by
  refine ⟨_, 1, rfl, by simp, by unfold maxLen; omega, by simp, .inr ⟨w.heap.size, 0, rfl, Nat.lt_succ_self _, fun i hi => ?_⟩⟩
  have : i = 0 := by simp at hi; omega
  subst this
  rw [cell_of_row _ _ _ _ _ _ (heap_alloc_new w _)]
  rfl
theorem reach_one (w : World) : Calls Try.prog 14 #[.agg #[.int .i64 1, .slice none 0 0], .slice (some ⟨w.heap.size, 0, none⟩) 1 1] (w.alloc (.cells #[.int .i64 0] 3)) fun e w' => ∃ a c, e = .returned (.slice a 1 c) ∧ Below w.heap.size w w' := by
  refine (impl_Reach_any (w.heap.size + 1) 1 (.slice none 0 0) _ [] [0] _ (eseg_none _ _) (nseg_new w 0) (by simp)).mono ?_
  rintro e w' ⟨u, rfl, hO, hb⟩
  rw [rch_one] at hO
  obtain ⟨a, c, rfl⟩ := hO.form
  exact ⟨a, c, rfl, Below.on ((Below.refl _ _).alloc (Nat.le_refl _) _) hb⟩

end Go.Proofs.Ytcdonbepfmhdpaa
/-
  The walk of FnReaches.
-/
namespace Go.Proofs.Ytcdonbepfmhdpaa
open Go.RowKit
set_option linter.unusedVariables false
set_option linter.unusedSimpArgs false

set_option maxHeartbeats 3200000 in
set_option maxRecDepth 100000 in
theorem walk_FnReaches (a : Option Addr) (cap : Nat) (xs : List Int) (w : World) (ha : Seg w a xs) (hl : xs.length ≤ maxLen) :
    Calls Try.prog 4 #[.slice a xs.length cap] w fun e w' => e = .returned (.bool true) ∧ Below w.heap.size w w' := by
  have HDr := hide' (DrawReach_any a cap xs w ha hl)
  clear ha
  generalize hlen : xs.length = len at *
  clear hlen hl
  go_enter Try.func4, Try.ntmps4
  go_wp2_with fail
  refine HDr.out.mono ?_
  rintro e w1 ⟨n, u, E, v, q, rfl, hn0, hn1, hE15, hq3, hEo, hNo, hb1⟩
  obtain ⟨ua, uc, hu⟩ := hEo.form
  subst hu
  obtain ⟨va, vc, hv⟩ := hNo.form
  subst hv
  have hA1 := (Below.refl w1.heap.size w1).alloc (Nat.le_refl _) (.cells #[.int .i64 n, .slice ua E.length uc] 25)
  have HX1 := hide' (hEo.read.agree (agree_below hA1))
  have HV1 := hide' (hNo.read.agree (agree_below hA1))
  have HRc := hide' (impl_Reach_any w1.heap.size n _ _ E q _ HX1.out HV1.out (by simp))
  have HB0 := hide' (Below.on hb1 hA1)
  have hbx := (MapKept.heap_alloc w1 (.cells #[.int .i64 n, .slice ua E.length uc] 25)).1
  have Hbx := hide' hbx
  clear hEo hNo hb1 hA1 hbx HDr
  go_wp2_with fail
  refine HRc.out.mono ?_
  rintro e w2 ⟨r, rfl, hrO, hb2⟩
  obtain ⟨ra, rc, hr⟩ := hrO.form
  subst hr
  have HX2 := hide' (HX1.out.agree (agree_below (hb2.mono (by simp))))
  have HV2 := hide' (HV1.out.agree (agree_below (hb2.mono (by simp))))
  have HR2 := hide' hrO.read
  have Hbx2 := hide' ((hb2.block w1.heap.size (by simp)).trans Hbx.out)
  have HB2 := hide' (Below.on HB0.out hb2)
  have hsz2 : w1.heap.size + 1 ≤ w2.heap.size := by have := hb2.size; simpa using this
  have HG := hide' (spec_GraphOk_any w1.heap.size n _ E w2 HX2.out (by omega))
  obtain ⟨b0, b1, -⟩ := row2 Hbx2.out
  clear HRc HX1 HV1 Hbx HB0 hrO hb2
  go_wp2_with fail
  refine HG.out.mono ?_
  rintro e w3 ⟨rfl, hb3⟩
  have HX3 := hide' ((HX2.out.agree (agree_below (hb3.mono (by omega)))).mono (R' := fun b => b < w3.heap.size) fun b hb => by have := hb3.size; omega)
  have HV3 := hide' ((HV2.out.agree (agree_below (hb3.mono (by omega)))).mono (R' := fun b => b < w3.heap.size) fun b hb => by have := hb3.size; omega)
  have HR3 := hide' ((HR2.out.agree (agree_below hb3)).mono (R' := fun b => b < w3.heap.size) fun b hb => by have := hb3.size; omega)
  have Hbx3 := hide' ((hb3.block w1.heap.size (by omega)).trans Hbx2.out)
  have HB3 := hide' (Below.on HB2.out hb3)
  have hsz3 : w1.heap.size + 1 ≤ w3.heap.size := by have := hb3.size; omega
  generalize hBx : w1.heap.size = Bx at *
  obtain ⟨c0, c1, -⟩ := row2 Hbx3.out
  clear HX2 HV2 HR2 Hbx2 HB2 HG hb3 b0 b1 hsz2 hBx
  have HAll := hide' (rch_all (n := n) (E := E) (l := q))
  have HBad := hide' (rch_bad (n := n) (E := E) (l := q))
  generalize hLd : rchA n E q = L at *
  by_cases hL : L = []
  · subst hL
    have HO := hide' (reach_one w3)
    clear HAll HBad HX3 HV3 HR3 hLd
    cases hgb : gB n E with
    | false =>
      go_wp2_with fail
      refine HO.out.mono ?_
      rintro e w4 ⟨x, c, rfl, hb4⟩
      go_wp2
      go_ret
      exact ⟨rfl, Below.on HB3.out hb4⟩
    | true =>
      go_wp2_with fail
      refine HO.out.mono ?_
      rintro e w4 ⟨x, c, rfl, hb4⟩
      go_wp2
      go_ret
      exact ⟨rfl, Below.on HB3.out hb4⟩
  · obtain ⟨m, rfl, hm20, hgb, hInG, hqin, hLin, hasc, hL20, htold, hshut, hagain⟩ := HAll.out hL
    have hLp : 0 < L.length := List.length_pos_iff.2 hL
    have hl0 : ((L.length : Int) == 0) = false := by simp; exact hL
    have hl0' : ¬ L.length = 0 := by omega
    have HF : Hid (InG m E ∧ (∀ v ∈ q, 0 ≤ v ∧ v < (m : Int)) ∧ (∀ v ∈ L, 0 ≤ v ∧ v < (m : Int)) ∧ L.Pairwise (· < ·) ∧ (∀ v ∈ q, v ∈ L) ∧ (∀ e ∈ E, e.1 ∈ L → e.2 ∈ L) ∧ rchA (m : Int) E L = L) := ⟨hInG, hqin, hLin, hasc, htold, hshut, hagain⟩
    obtain ⟨i0, hi, hz0, hz1, hz2⟩ := info_parts infoB
    have hnn : (0 : Int) ≤ (m : Int) := by omega
    have hn20 : (m : Int) ≤ 20 := by omega
    clear HAll HBad hLd hInG hqin hLin hasc htold hshut hagain hL hn0 hn1
    rw [hgb]
    go_wp2_with (refine wpList_make_full _ rfl _ _ 41 rfl w3.heap.size 4 i0 (.bool false) 1 Try.underlying41 hi hz0 hz1 .i64 .i64 _ _ m rfl rfl rfl rfl (by rw [hz2]; omega) (by unfold maxLen; omega) (by simp) ?_; intro w4 hown hgrow)
    have hS0 : Hid (QBt w3 (List.replicate m false) w4) := ⟨bRow_made hown, (Below.refl _ _).grown hgrow (Nat.le_refl _) (by simp)⟩
    clear hown hgrow hgb
    go_wp2_with fail
    go_loopw [7] (fun i wr => ∃ k : Nat, i = .int .i64 k ∧ k ≤ L.length ∧ Hid (QBt w3 (markF (L.take k) (List.replicate m false)) wr)) (fun i _ => L.length - (intOf i).toNat)
    case atStart => exact ⟨0, rfl, Nat.zero_le _, hS0⟩
    case round =>
      clear hS0
      obtain ⟨k, rfl, hk, hS⟩ := hrel
      have d0 : wr.cell? ⟨Bx, 0, none⟩ = some (.int .i64 (m : Int)) := (hS.out.2.cell (p := ⟨Bx, 0, none⟩) (by show Bx < w3.heap.size; omega)).trans c0
      have d1 : wr.cell? ⟨Bx, 1, none⟩ = some (.slice ua E.length uc) := (hS.out.2.cell (p := ⟨Bx, 1, none⟩) (by show Bx < w3.heap.size; omega)).trans c1
      by_cases hlt : k < L.length
      · have hlt' : (k : Int) < (L.length : Int) := by omega
        have hag := agree_below hS.out.2
        have hseg := HR3.out.agree hag
        obtain ⟨b, off, rfl, _, q0⟩ := hseg.at hlt
        have hv := HF.out.2.2.1 L[k] (List.getElem_mem hlt)
        obtain ⟨x, hx⟩ : ∃ x : Nat, L[k] = (x : Int) := ⟨L[k].toNat, by omega⟩
        have hml : x < (markF (L.take k) (List.replicate m false)).length := by rw [markF_len]; simp; omega
        obtain ⟨r0, r1⟩ := hS.out.1.at hml
        have HN : Hid (∀ j, QBt w3 (markF (L.take (k + 1)) (List.replicate m false)) ((wr.drewN j).setCell ⟨w3.heap.size, x, none⟩ (.bool true))) := fun j => by
          have := (hS.out.drewN j).set x true
          rw [← bSet_nat, ← hx, ← markF_succ L _ k hlt] at this
          exact this
        have Hprev : Hid (∀ k', k = k' + 1 → ∃ y : Int, wr.cell? ⟨b, off + k', none⟩ = some (.int .i64 y) ∧ y < (x : Int)) := by
          rintro k' rfl
          obtain ⟨b', off', e', _, q1⟩ := hseg.at (k := k') (by omega)
          simp only [Option.some.injEq, Addr.mk.injEq, and_true] at e'
          obtain ⟨rfl, rfl⟩ := e'
          exact ⟨_, q1, by rw [← hx]; exact List.pairwise_iff_getElem.1 HF.out.2.2.2.1 k' (k' + 1) (by omega) hlt (by omega)⟩
        rw [hx] at q0 hv
        have hm1 : (0 : Int) ≤ (x : Int) := by omega
        have hm2 : (x : Int) < (m : Int) := by omega
        have hm3 : ¬ (m : Int) ≤ (x : Int) := by omega
        clear hS hag hx hseg hv
        generalize (markF (L.take k) (List.replicate m false)).getD x false = bb at *
        have hx1 : x < m := by omega
        have hx2 : ¬ m ≤ x := by omega
        have hd3 : decide (m ≤ x) = false := decide_eq_false hx2
        have hd4 : decide ((m : Int) ≤ (x : Int)) = false := decide_eq_false hm3
        have hm0 : ¬ (x : Int) < 0 := by omega
        have hd0 : decide ((x : Int) < 0) = false := decide_eq_false hm0
        by_cases hk0 : k = 0
        · subst hk0
          clear Hprev
          rw [Nat.add_zero] at q0
          go_wp2_with fail
          go_big_quiet (fail)
          go_wp2
          go_roundw
          case rel => exact ⟨0 + 1, by go_num, by omega, HN.out _⟩
          case measure => simp [intOf]; omega
        · obtain ⟨y, q1, hy⟩ := Hprev.out (k - 1) (by omega)
          have hy' : ¬ (x : Int) ≤ y := by omega
          have hd5 : decide ((x : Int) ≤ y) = false := decide_eq_false hy'
          have hkp : 0 < k := by omega
          have hd6 : decide (0 < k) = true := decide_eq_true hkp
          have hkk : ((k : Int) - 1).toNat = k - 1 := by omega
          have hk1 : (0 : Int) ≤ (k : Int) - 1 := by omega
          have hk2 : (k : Int) - 1 < (L.length : Int) := by omega
          clear Hprev
          go_wp2_with fail
          go_big_quiet (fail)
          go_wp2
          go_roundw
          case rel => exact ⟨k + 1, by go_num, by omega, HN.out _⟩
          case measure => simp [intOf]; omega
      · have hlt' : ¬ (k : Int) < (L.length : Int) := by omega
        obtain rfl : k = L.length := by omega
        have hS1 : Hid (QBt w3 (markF L (List.replicate m false)) wr) := by
          have := hS.out
          rw [List.take_length] at this
          exact this
        have HM : Hid (∀ x : Nat, (x : Int) < (m : Int) → ∀ wx, QBt w3 (markF L (List.replicate m false)) wx → wx.cell? ⟨w3.heap.size, x, none⟩ = some (.bool (decide ((x : Int) ∈ L)))) := by
          intro x hx wx hq
          have h1 := (hq.1.at (m := x) (by rw [markF_len]; simp; omega)).1
          have h2 := mark_mem (u := (x : Int)) HF.out.2.2.1 (by omega)
          rw [bAt_nat] at h2
          rw [h1]
          congr 2
          rw [Bool.eq_iff_iff, h2]
          simp
        clear hS d0 d1
        generalize markF L (List.replicate m false) = D at *
        go_wp2_with fail
        go_loopw [8] (fun i wt => ∃ k : Nat, i = .int .i64 k ∧ k ≤ q.length ∧ Hid (QBt w3 D wt)) (fun i _ => q.length - (intOf i).toNat)
        case atStart => exact ⟨0, rfl, Nat.zero_le _, hS1⟩
        case round =>
          clear hS1
          obtain ⟨k, rfl, hk2, hS⟩ := hrel
          by_cases hlt2 : k < q.length
          · have hlt2' : (k : Int) < (q.length : Int) := by omega
            obtain ⟨b, off, rfl, _, q0⟩ := (HV3.out.agree (agree_below hS.out.2)).at hlt2
            have hv := HF.out.2.1 q[k] (List.getElem_mem hlt2)
            have hmem := HF.out.2.2.2.2.1 q[k] (List.getElem_mem hlt2)
            obtain ⟨x, hx⟩ : ∃ x : Nat, q[k] = (x : Int) := ⟨q[k].toNat, by omega⟩
            rw [hx] at q0 hv hmem
            have r0 := HM.out x hv.2 _ hS.out
            rw [decide_eq_true hmem] at r0
            have hm1 : (0 : Int) ≤ (x : Int) := by omega
            have hm2 : (x : Int) < (m : Int) := by omega
            clear hx hv hmem
            go_wp2
            go_roundw
            case rel => exact ⟨k + 1, by go_num, by omega, hS⟩
            case measure => simp [intOf]; omega
          · have hlt2' : ¬ (k : Int) < (q.length : Int) := by omega
            go_wp2_with fail
            go_loopw [9] (fun i wt => ∃ k : Nat, i = .int .i64 k ∧ k ≤ E.length ∧ Hid (QBt w3 D wt)) (fun i _ => E.length - (intOf i).toNat)
            case atStart => exact ⟨0, rfl, Nat.zero_le _, hS⟩
            case round =>
              clear hS
              obtain ⟨k, rfl, hk3, hS⟩ := hrel
              have d0 : wr.cell? ⟨Bx, 0, none⟩ = some (.int .i64 (m : Int)) := (hS.out.2.cell (p := ⟨Bx, 0, none⟩) (by show Bx < w3.heap.size; omega)).trans c0
              have d1 : wr.cell? ⟨Bx, 1, none⟩ = some (.slice ua E.length uc) := (hS.out.2.cell (p := ⟨Bx, 1, none⟩) (by show Bx < w3.heap.size; omega)).trans c1
              by_cases hlt3 : k < E.length
              · have hlt3' : (k : Int) < (E.length : Int) := by omega
                obtain ⟨b, off, rfl, _, q0, q1⟩ := (HX3.out.agree (agree_below hS.out.2)).at hlt3
                have hv := HF.out.1 E[k] (List.getElem_mem hlt3)
                have hsh := HF.out.2.2.2.2.2.1 E[k] (List.getElem_mem hlt3)
                obtain ⟨x, hx⟩ : ∃ x : Nat, E[k].1 = (x : Int) := ⟨E[k].1.toNat, by omega⟩
                obtain ⟨y, hy⟩ : ∃ y : Nat, E[k].2 = (y : Int) := ⟨E[k].2.toNat, by omega⟩
                rw [hx] at q0 hv hsh
                rw [hy] at q1 hv hsh
                have r0 := HM.out x hv.2.1 _ hS.out
                have r1 := HM.out y hv.2.2.2 _ hS.out
                have hm1 : (0 : Int) ≤ (x : Int) := by omega
                have hm2 : (x : Int) < (m : Int) := by omega
                have hm3 : (0 : Int) ≤ (y : Int) := by omega
                have hm4 : (y : Int) < (m : Int) := by omega
                clear hx hy hv
                by_cases hin : (x : Int) ∈ L
                · rw [decide_eq_true (hsh hin)] at r1
                  rw [decide_eq_true hin] at r0
                  clear hin hsh
                  go_wp2
                  go_roundw
                  case rel => exact ⟨k + 1, by go_num, by omega, hS⟩
                  case measure => simp [intOf]; omega
                · rw [decide_eq_false hin] at r0
                  clear hin hsh r1
                  go_wp2
                  go_roundw
                  case rel => exact ⟨k + 1, by go_num, by omega, hS⟩
                  case measure => simp [intOf]; omega
              · have hlt3' : ¬ (k : Int) < (E.length : Int) := by omega
                have HRa := hide' (impl_Reach_any w3.heap.size (m : Int) _ _ E L wr (HX3.out.agree (agree_below hS.out.2)) (HR3.out.agree (agree_below hS.out.2)) hS.out.2.size)
                go_wp2_with fail
                refine HRa.out.mono ?_
                rintro e w6 ⟨u6, rfl, hO6, hb6⟩
                rw [HF.out.2.2.2.2.2.2] at hO6
                obtain ⟨xa, xc, hu6⟩ := hO6.form
                subst hu6
                have HB6 := hide' (Below.on (HB3.out.trans (hS.out.2.mono (by have := HB3.out.size; omega))) hb6)
                clear hO6 hb6 HRa
                go_wp2
                go_ret
                exact ⟨rfl, HB6.out⟩
end Go.Proofs.Ytcdonbepfmhdpaa
