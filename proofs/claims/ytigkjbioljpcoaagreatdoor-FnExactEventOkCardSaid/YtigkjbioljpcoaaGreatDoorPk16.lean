/-
  Texts that a law leans on, one behind the other; no statement is proved here.
-/
import Derived.Test.YtigkjbioljpcoaaGreatDoorPk14
import Derived.Test.YtigkjbioljpcoaaGreatDoorPk15
import Derived.Test.YtigkjbioljpcoaaGreatDoorPk13
import Derived.Test.YtigkjbioljpcoaaGreatDoorPk3
import Derived.WalkKit
import Derived.ProofKit
import Derived.ChangeSlices
import Derived.ChangeArms
import Derived.Test.YtigkjbioljpcoaaGreatDoorPk7
/-
  FnExactEventOk answers true, whatever event it is handed; it makes new memory and turns nothing old.
-/
namespace Go.Proofs.YtigkjbioljpcoaaGreatDoor
open Go.RowKit
set_option linter.unusedVariables false
set_option linter.unusedSimpArgs false

theorem cell_keptE {w w' : World} (b : Below w.heap.size w w') {q : Addr} {v : Value} (h : w.cell? q = some v) : w'.cell? q = some v := (b.cell (World.block_lt_of_cell? w _ h)).trans h
theorem Rcd.parts {d : Nat} (it : Rcd d) : ∃ (kk : Int) (al : Nat) (jj : Int) (dl : Nat), it.1 = kk ∧ it.2.1.length = al ∧ it.2.2.1 = jj ∧ it.2.2.2.2.length = dl := ⟨_, _, _, _, rfl, rfl, rfl, rfl⟩
/-- What is read of an event, its cells in plain words. -/
theorem RSg.plain {R : Nat → Prop} {w : World} {d : Nat} {cs : List Value} {it : Rcd d} {kk jj : Int} {al dl : Nat} (e0 : it.1 = kk) (e1 : it.2.1.length = al) (e2 : it.2.2.1 = jj) (e4 : it.2.2.2.2.length = dl) (h : RSg R w d cs it) :
    ∃ (na : Option Addr) (np : Nat) (bk bn : Int) (a2 : Option Addr) (l2 p2 : Nat) (a3 : Option Addr) (l3 p3 : Nat) (a4 : Option Addr) (l4 p4 : Nat) (xa : Option Addr) (xp : Nat), cs = [.int .i64 kk, .slice na al np, .int .i64 jj, .int .i64 bk, .int .i64 bn, .slice a2 l2 p2, .slice a3 l3 p3, .slice a4 l4 p4, .slice xa dl xp] := by
  obtain ⟨na, np, bk, bn, a2, l2, p2, a3, l3, p3, a4, l4, p4, xa, xp, rfl, -, -, -⟩ := h.form
  subst e0 e1 e2 e4
  exact ⟨_, _, _, _, _, _, _, _, _, _, _, _, _, _, _, rfl⟩

set_option maxHeartbeats 3200000 in
set_option maxRecDepth 100000 in
theorem walk_FnExactEventOk (d : Nat) (cs : List Value) (it : Rcd d) (w : World) (hE : Errs w) (hx : RSg (fun b => b < w.heap.size) w d cs it) :
    Calls Tryz.prog 3 #[.agg cs.toArray] w fun e w' => e = .returned (.bool true) ∧ Below w.heap.size w w' := by
  have HEr := hide' hE
  have HA : Hid (∀ o : Obj, Below w.heap.size w (w.alloc o)) := fun o => (Below.refl _ _).alloc (Nat.le_refl _) o
  have HV : Hid (∀ wx, Below w.heap.size w wx → RSg (fun b => b < w.heap.size) wx d cs it) := fun wx hb => hx.agree (agree_below hb)
  have HS : Hid (∀ wx, Below w.heap.size w wx → Calls Tryz.prog 4 #[.agg cs.toArray, .int .i64 1048576] wx fun e w' => (e = .returned (.int .i64 (-1)) ∨ ∃ m : Int, 0 ≤ m ∧ m ≤ 1048576 ∧ e = .returned (.int .i64 m) ∧ RSz d it) ∧ Below wx.heap.size wx w') := fun wx hb => szEvent_any d w.heap.size cs it 1048576 wx (HV.out wx hb) hb.size (by decide) (by decide)
  have Hbox : Hid (∀ o wx, Below (w.alloc o).heap.size (w.alloc o) wx → wx.heap[w.heap.size]? = some o) := fun o wx h => box_row h
  obtain ⟨kk, al, jj, dl, e0, e1, e2, e4⟩ := it.parts
  have HP : Hid (∀ (R : Nat → Prop) (wx : World) (cs' : List Value), RSg R wx d cs' it → ∃ (na : Option Addr) (np : Nat) (bk bn : Int) (a2 : Option Addr) (l2 p2 : Nat) (a3 : Option Addr) (l3 p3 : Nat) (a4 : Option Addr) (l4 p4 : Nat) (xa : Option Addr) (xp : Nat), cs' = [.int .i64 kk, .slice na al np, .int .i64 jj, .int .i64 bk, .int .i64 bn, .slice a2 l2 p2, .slice a3 l3 p3, .slice a4 l4 p4, .slice xa dl xp]) := fun R wx cs' h => h.plain e0 e1 e2 e4
  obtain ⟨na, np, bk, bn, a2, l2, p2, a3, l3, p3, a4, l4, p4, xa, xp, rfl⟩ := HP.out _ _ _ hx
  clear hx hE e0 e1 e2 e4
  go_enter Tryz.func3, Tryz.ntmps3
  go_wp2_with fail
  refine (HS.out _ (HA.out _)).mono ?_
  rintro e w1 ⟨hcase, b1⟩
  have hr1 := hide' (Hbox.out _ _ b1)
  have B1 := hide' (Below.on (HA.out _) b1)
  clear HS b1
  rcases hcase with rfl | ⟨m, hm0, hm1, rfl, hsz⟩
  · go_wp2
    go_ret
    exact ⟨rfl, B1.out⟩
  have HZ := hide' hsz
  have hm' : ¬ m < 0 := by omega
  have HT : Hid (∀ wx, Below w.heap.size w wx → Calls Tryz.prog 6 #[.agg #[.int .i64 kk, .slice na al np, .int .i64 jj, .int .i64 bk, .int .i64 bn, .slice a2 l2 p2, .slice a3 l3 p3, .slice a4 l4 p4, .slice xa dl xp]] wx (RcEnd d it wx)) := fun wx hb => toEvent_any d w.heap.size _ it wx (HV.out wx hb) hb.size HZ.out
  have HT1 := hide' (HT.out w1 B1.out)
  obtain ⟨x0, x1, x2, x3, x4, x5, x6, x7, x8⟩ := ev_row hr1.out
  clear hsz HV Hbox
  go_wp2_with fail
  refine HT1.out.mono ?_
  rintro e w2 ⟨cu, rfl, hO2, b2⟩
  have hS2 := hide' (spec_EventOk_any d w2.heap.size _ it w2 (hO2.mono fun b hb => hb.2) (Nat.le_refl _))
  obtain ⟨na', np', bk', bn', a2', l2', p2', a3', l3', p3', a4', l4', p4', xa', xp', rfl⟩ := HP.out _ _ _ hO2
  have B2 := hide' (Below.on B1.out b2)
  have hr2 := hide' ((b2.block _ (Array.getElem?_eq_some_iff.1 hr1.out).1).trans hr1.out)
  clear HT1 hO2 b2 B1 hr1 x0 x1 x2 x3 x4 x5 x6 x7 x8
  go_wp2_with fail
  refine hS2.out.mono ?_
  rintro e w3 ⟨rfl, b3⟩
  have B3 := hide' (Below.on B2.out b3)
  have hr3 := hide' ((b3.block _ (Array.getElem?_eq_some_iff.1 hr2.out).1).trans hr2.out)
  have HT3 := hide' (HT.out w3 B3.out)
  obtain ⟨x0, x1, x2, x3, x4, x5, x6, x7, x8⟩ := ev_row hr3.out
  have HI : Hid (∀ (cs' : List Value) (wx : World), RSg (fun b => b < wx.heap.size) wx d cs' it → Below w.heap.size w wx → Calls Tryz.prog 7 #[.agg cs'.toArray] wx fun e w' => e = .returned (.bool (evB d it)) ∧ Below wx.heap.size wx w') := fun x' wx hx' hb => impl_EventOk_any d wx.heap.size x' it wx hx' (Nat.le_refl _) HZ.out (HEr.out.grow hb)
  generalize evB d it = ans at *
  clear b3 B2 hS2 hr2
  go_wp2_with fail
  refine HT3.out.mono ?_
  rintro e w4 ⟨cv, rfl, hO4, b4⟩
  obtain ⟨na'', np'', bk'', bn'', a2'', l2'', p2'', a3'', l3'', p3'', a4'', l4'', p4'', xa'', xp'', rfl⟩ := HP.out _ _ _ hO4
  have hA4 := (Below.refl w4.heap.size w4).alloc (Nat.le_refl _) (.cells #[.int .i64 kk, .slice na'' al np'', .int .i64 jj, .int .i64 bk'', .int .i64 bn'', .slice a2'' l2'' p2'', .slice a3'' l3'' p3'', .slice a4'' l4'' p4'', .slice xa'' dl xp''] 35)
  have B4 := hide' (Below.on (Below.on B3.out b4) hA4)
  have hO4' := hide' ((((hO4.mono (R' := fun b => b < w4.heap.size) fun b hb => hb.2)).agree (agree_below hA4)).mono (R' := fun b => b < (w4.alloc (.cells #[.int .i64 kk, .slice na'' al np'', .int .i64 jj, .int .i64 bk'', .int .i64 bn'', .slice a2'' l2'' p2'', .slice a3'' l3'' p3'', .slice a4'' l4'' p4'', .slice xa'' dl xp''] 35)).heap.size) fun b hb => by have h : b < w4.heap.size := hb; simp; omega)
  have hr4 := hide' ((hA4.block _ (Nat.lt_of_lt_of_le (Array.getElem?_eq_some_iff.1 hr3.out).1 b4.size)).trans ((b4.block _ (Array.getElem?_eq_some_iff.1 hr3.out).1).trans hr3.out))
  have hb4 := hide' (MapKept.heap_alloc w4 (.cells #[.int .i64 kk, .slice na'' al np'', .int .i64 jj, .int .i64 bk'', .int .i64 bn'', .slice a2'' l2'' p2'', .slice a3'' l3'' p3'', .slice a4'' l4'' p4'', .slice xa'' dl xp''] 35)).1
  have HI4 := hide' (HI.out _ _ hO4'.out B4.out)
  clear hO4 hA4 b4 B3 HT3 hr3 x0 x1 x2 x3 x4 x5 x6 x7 x8 HI
  go_wp2_with fail
  refine HI4.out.mono ?_
  rintro e w5 ⟨rfl, b5⟩
  have hr5 := hide' ((b5.block _ (Array.getElem?_eq_some_iff.1 hr4.out).1).trans hr4.out)
  have hb5 := hide' ((b5.block _ (Array.getElem?_eq_some_iff.1 hb4.out).1).trans hb4.out)
  have B5d : Hid (Below w.heap.size w w5.drew) := (Below.on B4.out b5).drew
  have HV5 : Hid (RSg (fun b => b < w5.drew.heap.size) w5.drew d [.int .i64 kk, .slice na'' al np'', .int .i64 jj, .int .i64 bk'', .int .i64 bn'', .slice a2'' l2'' p2'', .slice a3'' l3'' p3'', .slice a4'' l4'' p4'', .slice xa'' dl xp''] it) := by
    have h1 := ((hO4'.out.agree (agree_below b5)).mono (R' := fun b => b < w5.drew.heap.size) fun b hb => Nat.lt_of_lt_of_le hb b5.size)
    exact h1.agree (w' := w5.drew) (fun b _ => rfl)
  obtain ⟨x0, x1, x2, x3, x4, x5, x6, x7, x8⟩ := ev_row hr5.out
  obtain ⟨y0, y1, y2, y3, y4, y5, y6, y7, y8⟩ := ev_row hb5.out
  generalize w4.heap.size = eb at *
  clear b5 B4 hO4' HI4 hr4 hb4 hr5 hb5
  have hbb : (ans != ans) = false := by simp
  go_wp2_with fail
  refine wp_region_held_drew (S := (fun wx => wx.cell? ⟨eb, 0, none⟩ = some (.int .i64 kk) ∧ wx.cell? ⟨eb, 1, none⟩ = some (.slice na'' al np'') ∧ wx.cell? ⟨eb, 2, none⟩ = some (.int .i64 jj) ∧ wx.cell? ⟨eb, 3, none⟩ = some (.int .i64 bk'') ∧ wx.cell? ⟨eb, 4, none⟩ = some (.int .i64 bn'') ∧ wx.cell? ⟨eb, 5, none⟩ = some (.slice a2'' l2'' p2'') ∧ wx.cell? ⟨eb, 6, none⟩ = some (.slice a3'' l3'' p3'') ∧ wx.cell? ⟨eb, 7, none⟩ = some (.slice a4'' l4'' p4'') ∧ wx.cell? ⟨eb, 8, none⟩ = some (.slice xa'' dl xp'') ∧ wx.cell? ⟨w.heap.size, 0, none⟩ = some (.int .i64 kk) ∧ wx.cell? ⟨w.heap.size, 1, none⟩ = some (.slice na al np) ∧ wx.cell? ⟨w.heap.size, 2, none⟩ = some (.int .i64 jj) ∧ wx.cell? ⟨w.heap.size, 3, none⟩ = some (.int .i64 bk) ∧ wx.cell? ⟨w.heap.size, 4, none⟩ = some (.int .i64 bn) ∧ wx.cell? ⟨w.heap.size, 5, none⟩ = some (.slice a2 l2 p2) ∧ wx.cell? ⟨w.heap.size, 6, none⟩ = some (.slice a3 l3 p3) ∧ wx.cell? ⟨w.heap.size, 7, none⟩ = some (.slice a4 l4 p4) ∧ wx.cell? ⟨w.heap.size, 8, none⟩ = some (.slice xa dl xp))) (by kernel_rfl) ⟨y0, y1, y2, y3, y4, y5, y6, y7, y8, x0, x1, x2, x3, x4, x5, x6, x7, x8⟩ (fun hHeld => ?_)
  refine take_yes (i := 0) 22 (v := ?_) rfl rfl (by kernel_rfl) (by kernel_rfl) (by kernel_rfl) (fun _ _ _ h => h) (by kernel_rfl) hHeld ?_ ?_
  rotate_left
  focus (intro w hSw; (try dsimp only at hSw); go_simp; (try with_reducible rfl))
  simp only [Act.put, List.setIfInBounds_toArray, List.set_cons_zero, List.set_cons_succ]
  refine take_yes (i := 1) 23 (v := ?_) rfl rfl (by kernel_rfl) (by kernel_rfl) (by kernel_rfl) (fun _ _ _ h => h) (by kernel_rfl) hHeld ?_ ?_
  rotate_left
  focus (intro w hSw; (try dsimp only at hSw); go_simp; (try with_reducible rfl))
  simp only [Act.put, List.setIfInBounds_toArray, List.set_cons_zero, List.set_cons_succ]
  refine wpAnyH_ready (rs := [2]) (by kernel_rfl) (by simp) ?_
  refine AllReadyH.cons rfl (fun K hK => ?_) AllReadyH.nil
  go_simp
  go_at_call 6
  refine (HT.out _ B5d.out).mono ?_
  rintro e w6 ⟨cz, rfl, hO6, b6⟩
  have hS := (⟨cell_keptE b6 hHeld.1, cell_keptE b6 hHeld.2.1, cell_keptE b6 hHeld.2.2.1, cell_keptE b6 hHeld.2.2.2.1, cell_keptE b6 hHeld.2.2.2.2.1, cell_keptE b6 hHeld.2.2.2.2.2.1, cell_keptE b6 hHeld.2.2.2.2.2.2.1, cell_keptE b6 hHeld.2.2.2.2.2.2.2.1, cell_keptE b6 hHeld.2.2.2.2.2.2.2.2.1, cell_keptE b6 hHeld.2.2.2.2.2.2.2.2.2.1, cell_keptE b6 hHeld.2.2.2.2.2.2.2.2.2.2.1, cell_keptE b6 hHeld.2.2.2.2.2.2.2.2.2.2.2.1, cell_keptE b6 hHeld.2.2.2.2.2.2.2.2.2.2.2.2.1, cell_keptE b6 hHeld.2.2.2.2.2.2.2.2.2.2.2.2.2.1, cell_keptE b6 hHeld.2.2.2.2.2.2.2.2.2.2.2.2.2.2.1, cell_keptE b6 hHeld.2.2.2.2.2.2.2.2.2.2.2.2.2.2.2.1, cell_keptE b6 hHeld.2.2.2.2.2.2.2.2.2.2.2.2.2.2.2.2.1, cell_keptE b6 hHeld.2.2.2.2.2.2.2.2.2.2.2.2.2.2.2.2.2⟩ : _ ∧ _ ∧ _ ∧ _ ∧ _ ∧ _ ∧ _ ∧ _ ∧ _ ∧ _ ∧ _ ∧ _ ∧ _ ∧ _ ∧ _ ∧ _ ∧ _ ∧ _)
  have B6 := hide' (Below.on B5d.out b6)
  have hO6' := hide' (hO6.mono (R' := fun b => b < w6.heap.size) fun b hb => hb.2)
  have hV6 := hide' ((HV5.out.agree (agree_below b6)).mono (R' := fun b => b < w6.heap.size) fun b hb => by have := b6.size; exact Nat.lt_of_lt_of_le hb this)
  obtain ⟨na''', np''', bk''', bn''', a2''', l2''', p2''', a3''', l3''', p3''', a4''', l4''', p4''', xa''', xp''', rfl⟩ := HP.out _ _ _ hO6
  clear hO6 b6
  go_wp2_with fail
  refine hK.out _ _ hS (fun hHeld => ?_)
  clear hK
  (try simp only [Act.put, List.setIfInBounds_toArray, List.set_cons_zero, List.set_cons_succ])
  refine wpAnyH_ready (rs := [3]) (by kernel_rfl) (by simp) ?_
  refine AllReadyH.cons rfl (fun K hK => ?_) AllReadyH.nil
  go_simp
  go_at_call 8
  refine (eqEvent_any d w6.heap.size _ _ it w6 hV6.out hO6'.out (Nat.le_refl _) HZ.out).mono ?_
  rintro e w7 ⟨rfl, b7⟩
  have hS := (⟨cell_keptE b7 hHeld.1, cell_keptE b7 hHeld.2.1, cell_keptE b7 hHeld.2.2.1, cell_keptE b7 hHeld.2.2.2.1, cell_keptE b7 hHeld.2.2.2.2.1, cell_keptE b7 hHeld.2.2.2.2.2.1, cell_keptE b7 hHeld.2.2.2.2.2.2.1, cell_keptE b7 hHeld.2.2.2.2.2.2.2.1, cell_keptE b7 hHeld.2.2.2.2.2.2.2.2.1, cell_keptE b7 hHeld.2.2.2.2.2.2.2.2.2.1, cell_keptE b7 hHeld.2.2.2.2.2.2.2.2.2.2.1, cell_keptE b7 hHeld.2.2.2.2.2.2.2.2.2.2.2.1, cell_keptE b7 hHeld.2.2.2.2.2.2.2.2.2.2.2.2.1, cell_keptE b7 hHeld.2.2.2.2.2.2.2.2.2.2.2.2.2.1, cell_keptE b7 hHeld.2.2.2.2.2.2.2.2.2.2.2.2.2.2.1, cell_keptE b7 hHeld.2.2.2.2.2.2.2.2.2.2.2.2.2.2.2.1, cell_keptE b7 hHeld.2.2.2.2.2.2.2.2.2.2.2.2.2.2.2.2.1, cell_keptE b7 hHeld.2.2.2.2.2.2.2.2.2.2.2.2.2.2.2.2.2⟩ : _ ∧ _ ∧ _ ∧ _ ∧ _ ∧ _ ∧ _ ∧ _ ∧ _ ∧ _ ∧ _ ∧ _ ∧ _ ∧ _ ∧ _ ∧ _ ∧ _ ∧ _)
  have B7 := hide' (Below.on B6.out b7)
  clear b7
  go_wp2_with fail
  refine hK.out _ _ hS (fun hHeld => ?_)
  clear hK
  (try simp only [Act.put, List.setIfInBounds_toArray, List.set_cons_zero, List.set_cons_succ])
  refine take_yes (i := 4) 26 (v := ?_) rfl rfl (by kernel_rfl) (by kernel_rfl) (by kernel_rfl) (fun _ _ _ h => h) (by kernel_rfl) hHeld ?_ ?_
  rotate_left
  focus (intro w hSw; (try dsimp only at hSw); go_simp; (try with_reducible rfl))
  simp only [Act.put, List.setIfInBounds_toArray, List.set_cons_zero, List.set_cons_succ]
  refine wpAnyH_done (by kernel_rfl) ?_ _
  go_wp2
  go_ret
  exact ⟨rfl, B7.out⟩
end Go.Proofs.YtigkjbioljpcoaaGreatDoor
/-
  A text that came in, as its reading has it, can be read: 'TSeg'.
-/
namespace Go.Proofs.YtigkjbioljpcoaaGreatDoor
open Go.ChangeShapes Go.WideShapes Go.ChangeAt Go.RowKit
set_option linter.unusedVariables false
set_option linter.unusedSimpArgs false
set_option maxRecDepth 100000

theorem cellsT : Tryz.prog.cellsOf 22 = 1 := by kernel_rfl
theorem cellsI : Tryz.prog.cellsOf 3 = 1 := by kernel_rfl

theorem list_of {α : Type} {Q : Nat → α → Prop} : ∀ n, (∀ i, i < n → ∃ x, Q i x) → ∃ l : List α, l.length = n ∧ ∀ i (h : i < l.length), Q i l[i]
  | 0, _ => ⟨[], rfl, fun i h => by simp at h⟩
  | n + 1, hq => by
    obtain ⟨l, hl, hi⟩ := list_of n (fun i hi => hq i (by omega))
    obtain ⟨x, hx⟩ := hq n (by omega)
    refine ⟨l ++ [x], by simp [hl], fun i h => ?_⟩
    by_cases e : i < l.length
    · rw [List.getElem_append_left e]; exact hi i e
    · have : i = n := by simp at h; omega
      subst this
      rw [List.getElem_append_right (by omega)]
      simpa using hx

variable {H : Type} {enc : TypeId × Value → H} {w : World}

theorem read_text {fuel : Nat} {cs : List Value} {x : DataW H × List MemPlace} (h : DataW.trod enc Tryz.prog w 0 (fun _ => true) true fuel 22 cs = some x) : ∃ u xs, cs = [u] ∧ TSeg (fun b => b < w.heap.size) w u xs := by
  rcases open_ints Tryz.underlying22 Tryz.underlying5 (by kernel_rfl) h with ⟨rfl, _⟩ | ⟨a, len, cap, zs, rfl, _, hl, hm, hz, _, hcell, hwz⟩
  · exact ⟨_, [], rfl, none, 0, rfl, ⟨by simp, .inl rfl⟩, Nat.le_refl _, Nat.zero_le _, fun _ => rfl, by simp⟩
  · obtain ⟨xs, e, hs, h1, h2, h3⟩ := seg_of_row (w := w) (a := some a) (len := len) (cap := cap) (zs := zs) (.inr ⟨a, rfl, hl, hm, by simpa using hz, hcell, hwz⟩)
    subst e
    exact ⟨_, xs, rfl, some a, cap, rfl, hs, h1, h2, h3, hs.lt⟩

end Go.Proofs.YtigkjbioljpcoaaGreatDoor
/-
  A value that came in, as its reading has it, can be read: 'VSeg'.
-/
namespace Go.Proofs.YtigkjbioljpcoaaGreatDoor
open Go.ChangeShapes Go.WideShapes Go.ChangeAt Go.RowKit
set_option linter.unusedVariables false
set_option linter.unusedSimpArgs false
set_option maxRecDepth 100000

theorem cellsK : Tryz.prog.cellsOf 23 = 1 := by kernel_rfl
theorem cellsL : Tryz.prog.cellsOf 24 = 1 := by kernel_rfl
theorem cellsV : Tryz.prog.cellsOf 26 = 5 := by kernel_rfl
variable {H : Type} {enc : TypeId × Value → H} {w : World}

theorem read_keys {fuel : Nat} {cs : List Value} {x : DataW H × List MemPlace} (h : DataW.trod enc Tryz.prog w 0 (fun _ => true) true fuel 23 cs = some x) : ∃ u ks, cs = [u] ∧ KSeg (fun b => b < w.heap.size) w u ks := by
  rcases DataW.trod_slice Tryz.underlying23 h with ⟨rfl, _⟩ | ⟨a, len, cap, elems, rest, n, _, rfl, _, hb, hl, hm, hlen, hel, hsp, hns⟩
  · exact ⟨_, [], rfl, none, 0, rfl, Nat.le_refl _, Nat.zero_le _, fun _ => rfl, .inl rfl⟩
  · have hq : ∀ i, i < len → ∃ xs : List Int, ∃ u, w.cell? (a.add i) = some u ∧ TSeg (fun b => b < w.heap.size) w u xs := by
      intro i hi
      have h1 := hel i hi
      rw [cellsT, Nat.mul_one, List.getElem?_eq_getElem (by omega)] at h1
      obtain ⟨cs', hc, ht⟩ := Option.bind_eq_some_iff.1 h1
      obtain ⟨u, xs, rfl, hT⟩ := read_text ht
      exact ⟨xs, u, cell_of_cells?_one hc, hT⟩
    obtain ⟨ks, hkl, hks⟩ := list_of len hq
    subst hkl
    refine ⟨_, ks, rfl, some a, cap, rfl, hl, hm, by simp, ?_⟩
    by_cases he : ks = []
    · exact .inl he
    · have hp : 0 < ks.length := List.length_pos_iff.2 he
      obtain ⟨b, off, spot⟩ := a
      obtain ⟨u0, hu0, _⟩ := hks 0 hp
      have hspot : spot = none := by simpa [Addr.add] using World.cell?_spot hu0
      subst hspot
      refine .inr ⟨b, off, rfl, ?_, fun i hi => ?_⟩
      · have := World.block_lt_of_cell? w _ hu0
        simpa [Addr.add] using this
      · obtain ⟨u, hu, hT⟩ := hks i hi
        rw [Addr.add_lit] at hu
        exact ⟨u, hu, by simpa [List.getD_eq_getElem?_getD, hi] using hT⟩

theorem read_five {fuel : Nat} {cs : List Value} {x : DataW H × List MemPlace} (h : DataW.trod enc Tryz.prog w 0 (fun _ => true) true (fuel + 1) 26 cs = some x) :
    ∃ c0 c1 c2 c3 c4 y0 y1 y2 y3 y4, cs = [c0, c1, c2, c3, c4] ∧ DataW.trod enc Tryz.prog w 0 (fun _ => true) true fuel 3 [c0] = some y0 ∧ DataW.trod enc Tryz.prog w 0 (fun _ => true) true fuel 3 [c1] = some y1 ∧
      DataW.trod enc Tryz.prog w 0 (fun _ => true) true fuel 22 [c2] = some y2 ∧ DataW.trod enc Tryz.prog w 0 (fun _ => true) true fuel 23 [c3] = some y3 ∧ DataW.trod enc Tryz.prog w 0 (fun _ => true) true fuel 24 [c4] = some y4 := by
  unfold DataW.trod at h
  rw [Tryz.underlying26] at h
  simp only [cellsV] at h
  split at h
  · next hlen =>
    match cs, hlen with
    | [c0, c1, c2, c3, c4], _ =>
      simp [cellsT, cellsK, cellsL, cellsI, List.mapM_cons, Option.bind_eq_some_iff] at h
      obtain ⟨a0, b0, h0, _, ⟨a1, b1, h1, _, ⟨a2, b2, h2, _, ⟨a3, b3, h3, _, ⟨a4, b4, h4, _⟩, _⟩, _⟩, _⟩, _⟩ := h
      exact ⟨c0, c1, c2, c3, c4, _, _, _, _, _, rfl, h0, h1, h2, h3, h4⟩
  · simp at h

/-- How deep what is read with that fuel is at most. -/
def dep : Nat → Nat
  | 0 => 0
  | 1 => 0
  | f + 2 => dep f + 1

def ReadAt (enc : TypeId × Value → H) (w : World) (f : Nat) : Prop := ∀ (cs : List Value) (x : DataW H × List MemPlace), DataW.trod enc Tryz.prog w 0 (fun _ => true) true f 26 cs = some x →
  ∃ (c0 c1 c2 c3 c4 : Value) (v : Vl (dep f)), cs = [c0, c1, c2, c3, c4] ∧ VSeg (fun b => b < w.heap.size) w (dep f) (c0, c1, c2, c3, c4) v

theorem read_step (f : Nat) (ih : ReadAt enc w f) : ReadAt enc w (f + 2) := by
  intro cs x h
  obtain ⟨c0, c1, c2, c3, c4, y0, y1, y2, y3, y4, rfl, h0, h1, h2, h3, h4⟩ := read_five h
  obtain ⟨n0, e0, _, _⟩ := DataW.trod_int Tryz.underlying3 h0
  obtain ⟨n1, e1, _, _⟩ := DataW.trod_int Tryz.underlying3 h1
  obtain ⟨u2, xs, e2, hT⟩ := read_text h2
  obtain ⟨u3, ks, e3, hK⟩ := read_keys h3
  simp at e0 e1 e2 e3
  subst e0 e1 e2 e3
  have hL : ∃ l : List (Vl (dep f)), LSeg (fun b => b < w.heap.size) w (dep f) c4 l := by
    rcases DataW.trod_slice Tryz.underlying24 h4 with ⟨e, _⟩ | ⟨a, len, cap, elems, rest, n, hn, e, _, hb, hl, hm, hlen, hel, hsp, hns⟩
    · simp at e
      subst e
      exact ⟨[], none, 0, rfl, Nat.le_refl _, Nat.zero_le _, fun _ => rfl, .inl rfl⟩
    · simp at e
      subst e
      obtain rfl : n = f := by omega
      have hq : ∀ i, i < len → ∃ v : Vl (dep n), ∃ c0 c1 c2 c3 c4, (∀ j, j < 5 → w.cell? ((a.add (i * 5)).add j) = [c0, c1, c2, c3, c4][j]?) ∧ VSeg (fun b => b < w.heap.size) w (dep n) (c0, c1, c2, c3, c4) v := by
        intro i hi
        have h1 := hel i hi
        rw [cellsV, List.getElem?_eq_getElem (by omega)] at h1
        obtain ⟨cs', hc, ht⟩ := Option.bind_eq_some_iff.1 h1
        obtain ⟨d0, d1, d2, d3, d4, v, rfl, hv⟩ := ih cs' _ ht
        exact ⟨v, d0, d1, d2, d3, d4, (World.cells?_some hc).2.2, hv⟩
      obtain ⟨l, hll, hls⟩ := list_of len hq
      subst hll
      refine ⟨l, some a, cap, rfl, hl, hm, by simp, ?_⟩
      by_cases he : l = []
      · exact .inl he
      · have hp : 0 < l.length := List.length_pos_iff.2 he
        obtain ⟨b, off, spot⟩ := a
        obtain ⟨d0, d1, d2, d3, d4, hu0, _⟩ := hls 0 hp
        have hu := hu0 0 (by omega)
        simp [Addr.add] at hu
        have hspot : spot = none := by simpa using World.cell?_spot hu
        subst hspot
        refine .inr ⟨b, off, rfl, World.block_lt_of_cell? w _ hu, fun i hi => ?_⟩
        obtain ⟨d0, d1, d2, d3, d4, hu, hv⟩ := hls i hi
        have e : ∀ j, j < 5 → w.cell? ⟨b, off + i * 5 + j, none⟩ = [d0, d1, d2, d3, d4][j]? := by
          intro j hj
          have := hu j hj
          rw [Addr.add_lit, Addr.add_lit] at this
          exact this
        exact ⟨(d0, d1, d2, d3, d4), ⟨e 0 (by omega), e 1 (by omega), e 2 (by omega), e 3 (by omega), e 4 (by omega)⟩, hv⟩
  obtain ⟨l, hL⟩ := hL
  exact ⟨_, _, _, _, _, (n0, n1, xs, ks, l), rfl, (VSeg_succ _ _ _ _ _).2 ⟨rfl, rfl, hT, hK, hL⟩⟩

theorem read_both (f : Nat) : ReadAt enc w f ∧ ReadAt enc w (f + 1) := by
  induction f with
  | zero =>
    refine ⟨fun cs x h => by simp [DataW.trod] at h, fun cs x h => ?_⟩
    obtain ⟨_, _, _, _, _, _, _, _, _, _, _, h0, _⟩ := read_five h
    simp [DataW.trod] at h0
  | succ f ih => exact ⟨ih.2, read_step f ih.1⟩

/-- A value that came in. -/
theorem read_value {v : Value} {d : DataW H} {ps : List MemPlace} (h : DataW.Trod enc Tryz.prog w 0 (fun _ => true) true 26 v d ps) :
    ∃ c0 c1 c2 c3 c4 n, v = .agg #[c0, c1, c2, c3, c4] ∧ ∃ x : Vl n, VSeg (fun b => b < w.heap.size) w n (c0, c1, c2, c3, c4) x := by
  obtain ⟨fuel, hf⟩ := h
  obtain ⟨c0, c1, c2, c3, c4, x, e, hx⟩ := (read_both fuel).1 _ _ hf
  refine ⟨c0, c1, c2, c3, c4, dep fuel, ?_, x, hx⟩
  cases v <;> simp [Value.cells] at e
  rename_i cs
  cases cs
  simp at e
  simp [e]
end Go.Proofs.YtigkjbioljpcoaaGreatDoor
/-
  An event that came in, as its reading has it, can be read: 'RSg'.
-/
namespace Go.Proofs.YtigkjbioljpcoaaGreatDoor
open Go.ChangeShapes Go.WideShapes Go.ChangeAt Go.RowKit
set_option linter.unusedVariables false
set_option linter.unusedSimpArgs false
set_option maxRecDepth 100000

theorem cellsEv : Tryz.prog.cellsOf 28 = 9 := by kernel_rfl
variable {H : Type} {enc : TypeId × Value → H} {w : World}

/-- An item that came in. -/
theorem read_event {f : Nat} {cs : List Value} {x : DataW H × List MemPlace} (h : DataW.trod enc Tryz.prog w 0 (fun _ => true) true (f + 1) 28 cs = some x) :
    ∃ it : Rcd (dep f), RSg (fun b => b < w.heap.size) w (dep f) cs it := by
  unfold DataW.trod at h
  rw [Tryz.underlying28] at h
  simp only [cellsEv] at h
  split at h
  · next hlen =>
    match cs, hlen with
    | [c0, c1, c2, c3, c4, c5, c6, c7, c8], _ =>
      simp [cellsT, cellsK, cellsI, cellsV, List.mapM_cons, Option.bind_eq_some_iff] at h
      obtain ⟨a0, b0, h0, _, ⟨a1, b1, h1, _, ⟨a2, b2, h2, _, ⟨a3, b3, h3, _, ⟨a4, b4, h4, _⟩, _⟩, _⟩, _⟩, _⟩ := h
      obtain ⟨n0, e0, _, _⟩ := DataW.trod_int Tryz.underlying3 h0
      obtain ⟨u1, xs, e1, hT⟩ := read_text h1
      obtain ⟨n2, e2, _, _⟩ := DataW.trod_int Tryz.underlying3 h2
      obtain ⟨p0, p1, p2, p3, p4, v3, e3, hV⟩ := (read_both f).1 _ _ h3
      obtain ⟨u4, ks, e4, hK⟩ := read_keys h4
      simp only [List.cons.injEq, and_true] at e0 e1 e2 e3 e4
      obtain ⟨rfl, rfl, rfl, rfl, rfl⟩ := e3
      subst e0 e1 e2 e4
      exact ⟨(n0, xs, n2, v3, ks), _, _, _, _, _, _, _, rfl, hT, hV, hK⟩
  · simp at h

theorem read_event_arg {v : Value} {dd : DataW H} {ps : List MemPlace} (h : DataW.Trod enc Tryz.prog w 0 (fun _ => true) true 28 v dd ps) : ∃ d, ∃ cs : List Value, ∃ it : Rcd d, v = .agg cs.toArray ∧ RSg (fun b => b < w.heap.size) w d cs it := by
  obtain ⟨fuel, hf⟩ := h
  cases fuel with
  | zero => simp [DataW.trod] at hf
  | succ fuel =>
    obtain ⟨it, hit⟩ := read_event hf
    have hl := hit.len
    refine ⟨dep fuel, v.cells.toList, it, ?_, hit⟩
    cases v <;> simp [Value.cells] at hl ⊢
end Go.Proofs.YtigkjbioljpcoaaGreatDoor
