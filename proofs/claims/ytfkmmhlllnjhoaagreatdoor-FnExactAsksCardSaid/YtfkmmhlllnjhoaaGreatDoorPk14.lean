/-
  Texts that a law leans on, one behind the other; no statement is proved here.
-/
import Derived.Test.YtfkmmhlllnjhoaaGreatDoorPk12
import Derived.Test.YtfkmmhlllnjhoaaGreatDoorPk13
import Derived.Test.YtfkmmhlllnjhoaaGreatDoorPk2
import Derived.WalkKit
import Derived.ProofKit
import Derived.ChangeSlices
import Derived.ChangeArms
import Derived.Test.YtfkmmhlllnjhoaaGreatDoorPk5
/-
  planOk and Asks of the program, Asks of the specification.
-/
namespace Go.Proofs.YtfkmmhlllnjhoaaGreatDoor
open Go.RowKit
set_option linter.unusedVariables false
set_option linter.unusedSimpArgs false

set_option maxHeartbeats 6400000 in
set_option maxRecDepth 100000 in
theorem impl_planOk_any (d N : Nat) (x : Value) (l : List (Rcd d)) (s : Int) (w : World) (hx : RLSg (fun b => b < N) w d x l) (hN : N ≤ w.heap.size) (hz : ∀ i (h : i < l.length), RSz d l[i]) (hE : Errs w) :
    Calls Tryz.prog 12 #[.agg #[x, .int .i64 s]] w fun e w' => e = .returned (.bool (planB d l s)) ∧ Below w.heap.size w w' := by
  have HX := hide' hx
  have HEr := hide' hE
  have HZ : Hid (∀ i (h : i < l.length), (l[i]).2.1.length ≤ 1048576) := fun i h => (hz i h).1
  obtain ⟨a, cap, rfl, hlc, hcm, _, _⟩ := hx
  unfold maxLen at hcm
  clear hz hE
  have HA : Hid (∀ o : Obj, Below w.heap.size w (w.alloc o)) := fun o => (Below.refl _ _).alloc (Nat.le_refl _) o
  by_cases hh : l.length ≤ 32 ∧ 0 ≤ s ∧ s ≤ 16
  rotate_left
  · have HF := hide' (plan_no (d := d) (l := l) hh)
    have hcase : (32 : Int) < (l.length : Int) ∨ (¬ (32 : Int) < (l.length : Int) ∧ s < 0) ∨ (¬ (32 : Int) < (l.length : Int) ∧ ¬ s < 0 ∧ 16 < s) := by omega
    clear hh
    rcases hcase with h1 | ⟨h1, h2⟩ | ⟨h1, h2, h3⟩
    all_goals
      go_enter Tryz.func12, Tryz.ntmps12
      go_wp2
      go_ret
      exact ⟨ret_bool HF.out.symm, HA.out _⟩
  obtain ⟨hl32, hs0, hs16⟩ := hh
  have h1 : ¬ (32 : Int) < (l.length : Int) := by omega
  have h2 : ¬ s < 0 := by omega
  have h3 : ¬ 16 < s := by omega
  have H0 : Hid (∀ o : Obj, (∀ j (h : j < l.length), j < 0 → actB d l[j] = true) ∧ Below w.heap.size w (w.alloc o)) := fun o => ⟨fun j h h' => by omega, HA.out o⟩
  go_enter Tryz.func12, Tryz.ntmps12
  go_wp2
  go_loopw [22, 4] (fun i _ wr => ∃ k : Nat, k ≤ l.length ∧ i = .int .i64 k ∧ Hid ((∀ j (h : j < l.length), j < k → actB d l[j] = true) ∧ Below w.heap.size w wr)) (fun i _ _ => l.length - (intOf i).toNat)
  case atStart => exact ⟨0, Nat.zero_le _, rfl, H0.out _⟩
  case round =>
    clear H0 h2 h3
    obtain ⟨k, hk, rfl, hS⟩ := hrel
    obtain ⟨hall, hbr⟩ := hS.out
    have HAll := hide' hall
    have hz := hbr.size
    by_cases hlt : k < l.length
    rotate_left
    · have hlt' : ¬ (k : Int) < (l.length : Int) := by omega
      have HF := hide' (plan_yes (s := s) (by omega) (by omega) (by omega) (fun j h => hall j h (by omega)))
      have HB := hide' hbr
      clear hS hall hbr
      go_wp2
      go_ret
      exact ⟨ret_bool HF.out.symm, HB.out⟩
    have hlt' : (k : Int) < (l.length : Int) := by omega
    obtain ⟨b, off, cs, rfl, hbN, hr, hsg⟩ := (HX.out.agree (agree_below (hbr.mono hN))).at hlt
    have hadl := HZ.out k hlt
    have HAt : Hid (actB d l[k] = false → planB d l s = false) := fun h => plan_at hlt h
    have HAct : Hid (actB d l[k] = true → ∀ j (h : j < l.length), j < k + 1 → actB d l[j] = true) := fun hk1 j h hj => by
      by_cases e : j = k
      · subst e; exact hk1
      · exact HAll.out j h (by omega)
    obtain ⟨na, np, bk, bn, a2, l2, p2, a3, l3, p3, a4, l4, p4, xa, xp, rfl, ht, hv, _⟩ := hsg.form
    have u0 := hr 0 _ rfl
    have u1 := hr 1 _ rfl
    have u2 := hr 2 _ rfl
    have u3 := hr 3 _ rfl
    have u4 := hr 4 _ rfl
    have u5 := hr 5 _ rfl
    have u6 := hr 6 _ rfl
    have u7 := hr 7 _ rfl
    have u8 := hr 8 _ rfl
    simp only [Nat.add_zero] at u0
    generalize l[k] = it at *
    obtain ⟨kk, ad, jj, vv, ds⟩ := it
    simp only at ht hv hadl HAt HAct u0 u1 u2 u3 u4 u5 u6 u7 u8
    obtain ⟨na', np', e1, hsa, hac, hac2, hna', hral⟩ := ht
    simp only [Value.slice.injEq, true_and] at e1
    obtain ⟨rfl, rfl⟩ := e1
    have HSa : Hid (∀ wx, Below w.heap.size w wx → Seg wx na ad) := fun wx hb => by
      refine ⟨hsa.1, ?_⟩
      rcases hsa.2 with h | ⟨b1, o1, rfl, hc⟩
      · exact .inl h
      · by_cases he : ad = []
        · exact .inl he
        · have hb1 : b1 < N := hral _ rfl he
          exact .inr ⟨b1, o1, rfl, fun i hi => (World.cell?_of_block ((hb.block b1 (by omega)).trans (hbr.block b1 (by omega)).symm)).trans (hc i hi)⟩
    have HVs : Hid (∀ wx, Below w.heap.size w wx → VSeg (fun b => b < N) wx d (.int .i64 bk, .int .i64 bn, .slice a2 l2 p2, .slice a3 l3 p3, .slice a4 l4 p4) vv) := fun wx hb => VSeg.agree (fun b1 hb1 => (hb.block b1 (by omega)).trans (hbr.block b1 (by omega)).symm) d hv
    have hBW : Hid (Below w.heap.size w (wr.alloc (.cells #[.int .i64 kk, .slice na ad.length np, .int .i64 jj, .int .i64 bk, .int .i64 bn, .slice a2 l2 p2, .slice a3 l3 p3, .slice a4 l4 p4, .slice xa ds.length xp] 50))) := hbr.alloc hz _
    have hEW : Hid ((wr.alloc (.cells #[.int .i64 kk, .slice na ad.length np, .int .i64 jj, .int .i64 bk, .int .i64 bn, .slice a2 l2 p2, .slice a3 l3 p3, .slice a4 l4 p4, .slice xa ds.length xp] 50)).heap[wr.heap.size]? = some (.cells #[.int .i64 kk, .slice na ad.length np, .int .i64 jj, .int .i64 bk, .int .i64 bn, .slice a2 l2 p2, .slice a3 l3 p3, .slice a4 l4 p4, .slice xa ds.length xp] 50 (0, 0))) := (MapKept.heap_alloc wr _).1
    obtain ⟨f0, f1, f3, f4, f5, f6, f7⟩ := act_row hEW.out
    have HAd : Hid (∀ wx, Below w.heap.size w wx → Calls Tryz.prog 22 #[.slice na ad.length np] wx fun e w' => e = .returned (.bool (addrB ad)) ∧ Below wx.heap.size wx w') := fun wx hb => impl_AddrOk_any na np ad wx (HSa.out wx hb) (by omega) hac hac2 hna' (HEr.out.grow hb)
    have HOk : Hid (∀ wx, Below w.heap.size w wx → Calls Tryz.prog 23 #[.agg #[.int .i64 bk, .int .i64 bn, .slice a2 l2 p2, .slice a3 l3 p3, .slice a4 l4 p4]] wx fun e w' => e = .returned (.bool (okB d vv)) ∧ Below wx.heap.size wx w') := fun wx hb => impl_ValOk_any d N _ _ _ _ _ vv wx (HVs.out wx hb) (by have := hb.size; omega)
    have HAk := hide' (actOk_any kk)
    clear hsg hr hv hsa hral hS hall
    cases hak : (decide (1 ≤ kk) && decide (kk ≤ 4)) with
    | false =>
      have HF := hide' (HAt.out (by unfold actB; simp only; rw [← Bool.and_assoc, hak]; rfl))
      rw [hak] at HAk
      go_wp2_with fail
      refine (HAk.out _).mono ?_
      rintro e w1 ⟨rfl, rfl⟩
      go_wp2
      go_ret
      exact ⟨ret_bool HF.out.symm, hBW.out⟩
    | true =>
    rw [hak] at HAk
    cases hadb : addrB ad with
    | false =>
      have HF := hide' (HAt.out (by unfold actB; simp only; rw [← Bool.and_assoc, hak, hadb]; rfl))
      rw [hadb] at HAd
      go_wp2_with fail
      refine (HAk.out _).mono ?_
      rintro e w1 ⟨rfl, rfl⟩
      go_wp2_with fail
      refine (HAd.out _ hBW.out).mono ?_
      rintro e w2 ⟨rfl, b2⟩
      have B2 := hide' (Below.on hBW.out b2)
      clear b2
      go_wp2
      go_ret
      exact ⟨ret_bool HF.out.symm, B2.out⟩
    | true =>
    have HYes : Hid (okB d vv = true → ∀ j (h : j < l.length), j < k + 1 → actB d l[j] = true) := fun hok => HAct.out (by unfold actB; simp only; rw [← Bool.and_assoc, hak, hadb, hok]; rfl)
    have HNo : Hid (okB d vv = false → planB d l s = false) := fun hok => HAt.out (by unfold actB; simp only; rw [← Bool.and_assoc, hak, hadb, hok]; rfl)
    rw [hadb] at HAd
    clear hak hadb HAt HAct
    go_wp2_with fail
    refine (HAk.out _).mono ?_
    rintro e w1 ⟨rfl, rfl⟩
    go_wp2_with fail
    refine (HAd.out _ hBW.out).mono ?_
    rintro e w2 ⟨rfl, b2⟩
    have hb := hide' (Below.on hBW.out b2)
    have hE2 := hide' ((b2.block _ (Array.getElem?_eq_some_iff.1 hEW.out).1).trans hEW.out)
    clear f0 f1 f3 f4 f5 f6 f7 b2 hBW hEW u0 u1 u2 u3 u4 u5 u6 u7 u8
    obtain ⟨f0, f1, f3, f4, f5, f6, f7⟩ := act_row hE2.out
    go_wp2_with fail
    refine (HOk.out _ hb.out).mono ?_
    rintro e w3 ⟨rfl, b3⟩
    have B3 := hide' (Below.on hb.out b3)
    clear b3 hb
    cases hokb : okB d vv with
    | false =>
      have HF := hide' (HNo.out hokb)
      clear HYes HNo hokb
      go_wp2
      go_ret
      exact ⟨ret_bool HF.out.symm, B3.out⟩
    | true =>
      have HN : Hid ((∀ j (h : j < l.length), j < k + 1 → actB d l[j] = true) ∧ Below w.heap.size w w3) := ⟨HYes.out hokb, B3.out⟩
      clear HYes HNo hokb
      go_wp2
      go_roundw
      case rel => exact ⟨k + 1, by omega, by go_num, HN⟩
      case measure => simp [intOf]; omega

/-- What Asks answers. -/
def asksA (d : Nat) (l : List (Rcd d)) (s : Int) : Int := if planB d l s = true then (l.length : Int) else 0

set_option maxHeartbeats 1600000 in
theorem impl_Asks_any (d N : Nat) (x : Value) (l : List (Rcd d)) (s : Int) (w : World) (hx : RLSg (fun b => b < N) w d x l) (hN : N ≤ w.heap.size) (hz : ∀ i (h : i < l.length), RSz d l[i]) (hE : Errs w) :
    Calls Tryz.prog 7 #[.agg #[x, .int .i64 s]] w fun e w' => e = .returned (.int .i64 (asksA d l s)) ∧ Below w.heap.size w w' := by
  have HA : Hid (∀ o : Obj, Below w.heap.size w (w.alloc o)) := fun o => (Below.refl _ _).alloc (Nat.le_refl _) o
  have Hbox : Hid (∀ o wx, Below (w.alloc o).heap.size (w.alloc o) wx → wx.heap[w.heap.size]? = some o) := fun o wx h => box_row h
  have HC : Hid (∀ o : Obj, Calls Tryz.prog 12 #[.agg #[x, .int .i64 s]] (w.alloc o) fun e w' => e = .returned (.bool (planB d l s)) ∧ Below (w.alloc o).heap.size (w.alloc o) w') := fun o => impl_planOk_any d N x l s (w.alloc o) (hx.agree (agree_below ((HA.out o).mono hN))) (by have := (HA.out o).size; omega) hz (hE.grow (HA.out o))
  obtain ⟨a, p, rfl⟩ := hx.form
  clear hx hz hE
  have HA0 : Hid (planB d l s = false → asksA d l s = 0) := fun h => by unfold asksA; rw [h]; rfl
  have HA1 : Hid (planB d l s = true → asksA d l s = (l.length : Int)) := fun h => by unfold asksA; rw [h]; rfl
  generalize asksA d l s = ans at *
  generalize l.length = n at *
  cases hp : planB d l s with
  | false =>
    rw [hp] at HC
    rw [HA0.out hp]
    go_enter Tryz.func7, Tryz.ntmps7
    go_wp2_with fail
    refine (HC.out _).mono ?_
    rintro e w1 ⟨rfl, b1⟩
    have B1 := hide' (Below.on (HA.out _) b1)
    clear b1
    go_wp2
    go_ret
    exact ⟨rfl, B1.out⟩
  | true =>
    rw [hp] at HC
    rw [HA1.out hp]
    go_enter Tryz.func7, Tryz.ntmps7
    go_wp2_with fail
    refine (HC.out _).mono ?_
    rintro e w1 ⟨rfl, b1⟩
    obtain ⟨x0, x1⟩ := two_row (Hbox.out _ _ b1)
    have B1 := hide' (Below.on (HA.out _) b1)
    clear b1
    go_wp2
    go_ret
    exact ⟨rfl, B1.out⟩

set_option maxHeartbeats 1600000 in
theorem spec_Asks_any (d N : Nat) (x : Value) (l : List (Rcd d)) (s : Int) (w : World) (hx : RLSg (fun b => b < N) w d x l) (hN : N ≤ w.heap.size) (hz : ∀ i (h : i < l.length), RSz d l[i]) :
    Calls Tryz.prog 5 #[.agg #[x, .int .i64 s]] w fun e w' => e = .returned (.int .i64 (asksA d l s)) ∧ Below w.heap.size w w' := by
  have HA : Hid (∀ o : Obj, Below w.heap.size w (w.alloc o)) := fun o => (Below.refl _ _).alloc (Nat.le_refl _) o
  have Hbox : Hid (∀ o wx, Below (w.alloc o).heap.size (w.alloc o) wx → wx.heap[w.heap.size]? = some o) := fun o wx h => box_row h
  have HC : Hid (∀ o : Obj, Calls Tryz.prog 10 #[.agg #[x, .int .i64 s]] (w.alloc o) (PTxEnd d l s (w.alloc o))) := fun o => spec_PlanText_any d N x l s (w.alloc o) (hx.agree (agree_below ((HA.out o).mono hN))) (by have := (HA.out o).size; omega) hz
  have HSm := hide' (planT_some d l s)
  obtain ⟨a, p, rfl⟩ := hx.form
  clear hx hz
  have HA0 : Hid (planB d l s = false → asksA d l s = 0) := fun h => by unfold asksA; rw [h]; rfl
  have HA1 : Hid (planB d l s = true → asksA d l s = (l.length : Int)) := fun h => by unfold asksA; rw [h]; rfl
  generalize asksA d l s = ans at *
  generalize l.length = n at *
  go_enter Tryz.func5, Tryz.ntmps5
  go_wp2_with fail
  refine (HC.out _).mono ?_
  rintro e w1 ⟨v, rfl, hv, b1⟩
  obtain ⟨va, vc, rfl, _⟩ := hv.shape
  obtain ⟨x0, x1⟩ := two_row (Hbox.out _ _ b1)
  have B1 := hide' (Below.on (HA.out _) b1)
  clear b1 hv
  cases hp : planB d l s with
  | false =>
    have h0 : (planT d l s).length = 0 := HSm.out.2 hp
    rw [h0]
    have HR := hide' (HA0.out hp)
    clear HSm h0 hp HA0 HA1
    go_wp2
    go_ret
    exact ⟨ret_i64 HR.out.symm, B1.out⟩
  | true =>
    have h0 : ¬ (planT d l s).length = 0 := fun h => by rw [HSm.out.1 h] at hp; cases hp
    generalize (planT d l s).length = pl at *
    have h1 : ((pl : Int) == 0) = false := by simp; omega
    have h2 : ¬ (pl : Int) = 0 := by omega
    have HR := hide' (HA1.out hp)
    clear HSm hp HA0 HA1
    go_wp2
    go_ret
    exact ⟨ret_i64 HR.out.symm, B1.out⟩
end Go.Proofs.YtfkmmhlllnjhoaaGreatDoor
/-
  FnExactAsks answers true, whatever plan it is handed; it makes new memory and turns nothing old.
-/
namespace Go.Proofs.YtfkmmhlllnjhoaaGreatDoor
open Go.RowKit
set_option linter.unusedVariables false
set_option linter.unusedSimpArgs false

theorem cell_keptA {w w' : World} (b : Below w.heap.size w w') {q : Addr} {v : Value} (h : w.cell? q = some v) : w'.cell? q = some v := (b.cell (World.block_lt_of_cell? w _ h)).trans h

set_option maxHeartbeats 3200000 in
set_option maxRecDepth 100000 in
theorem walk_FnExactAsks (d : Nat) (x : Value) (l : List (Rcd d)) (s : Int) (w : World) (hE : Errs w) (hx : RLSg (fun b => b < w.heap.size) w d x l) :
    Calls Tryz.prog 3 #[.agg #[x, .int .i64 s]] w fun e w' => e = .returned (.bool true) ∧ Below w.heap.size w w' := by
  have HEr := hide' hE
  have HA : Hid (∀ o : Obj, Below w.heap.size w (w.alloc o)) := fun o => (Below.refl _ _).alloc (Nat.le_refl _) o
  have HV : Hid (∀ wx, Below w.heap.size w wx → RLSg (fun b => b < w.heap.size) wx d x l) := fun wx hb => hx.agree (agree_below hb)
  have HS : Hid (∀ wx, Below w.heap.size w wx → Calls Tryz.prog 4 #[.agg #[x, .int .i64 s], .int .i64 1048576] wx (SzREnd d l wx)) := fun wx hb => szPlan_any d w.heap.size x l s wx (HV.out wx hb) hb.size
  have Hbox : Hid (∀ o wx, Below (w.alloc o).heap.size (w.alloc o) wx → wx.heap[w.heap.size]? = some o) := fun o wx h => box_row h
  obtain ⟨a, p, rfl⟩ := hx.form
  clear hx hE
  generalize hn : l.length = n at *
  go_enter Tryz.func3, Tryz.ntmps3
  go_wp2_with fail
  refine (HS.out _ (HA.out _)).mono ?_
  rintro e w1 ⟨hcase, b1⟩
  have hr1 := hide' (Hbox.out _ _ b1)
  have B1 := hide' (Below.on (HA.out _) b1)
  clear HS b1
  rcases hcase with rfl | ⟨m, hm0, hm1, rfl, hlen, hsz⟩
  · go_wp2
    go_ret
    exact ⟨rfl, B1.out⟩
  have HZ := hide' hsz
  have HLn := hide' hlen
  have hm' : ¬ m < 0 := by omega
  have HT : Hid (∀ wx, Below w.heap.size w wx → Calls Tryz.prog 6 #[.agg #[.slice a n p, .int .i64 s]] wx (PlEnd d l s wx)) := fun wx hb => toPlan_any d w.heap.size _ l s wx (HV.out wx hb) hb.size HLn.out HZ.out
  have HT1 := hide' (HT.out w1 B1.out)
  obtain ⟨x0, x1⟩ := two_row hr1.out
  clear hsz hlen HV Hbox
  go_wp2_with fail
  refine HT1.out.mono ?_
  rintro e w2 ⟨ua, uc, rfl, hO2, b2⟩
  have hS2 := hide' (spec_Asks_any d w2.heap.size _ l s w2 hO2 (Nat.le_refl _) HZ.out)
  have B2 := hide' (Below.on B1.out b2)
  have hr2 := hide' ((b2.block _ (Array.getElem?_eq_some_iff.1 hr1.out).1).trans hr1.out)
  rw [hn] at hS2 ⊢
  clear HT1 hO2 b2 B1 hr1 x0 x1
  go_wp2_with fail
  refine hS2.out.mono ?_
  rintro e w3 ⟨rfl, b3⟩
  have B3 := hide' (Below.on B2.out b3)
  have hr3 := hide' ((b3.block _ (Array.getElem?_eq_some_iff.1 hr2.out).1).trans hr2.out)
  have HT3 := hide' (HT.out w3 B3.out)
  obtain ⟨x0, x1⟩ := two_row hr3.out
  have HI : Hid (∀ (x' : Value) (wx : World), RLSg (fun b => b < wx.heap.size) wx d x' l → Below w.heap.size w wx → Calls Tryz.prog 7 #[.agg #[x', .int .i64 s]] wx fun e w' => e = .returned (.int .i64 (asksA d l s)) ∧ Below wx.heap.size wx w') := fun x' wx hx' hb => impl_Asks_any d wx.heap.size x' l s wx hx' (Nat.le_refl _) HZ.out (HEr.out.grow hb)
  generalize asksA d l s = ans at *
  clear b3 B2 hS2 hr2
  go_wp2_with fail
  refine HT3.out.mono ?_
  rintro e w4 ⟨va, vc, rfl, hO4, b4⟩
  rw [hn] at hO4 ⊢
  have hA4 := (Below.refl w4.heap.size w4).alloc (Nat.le_refl _) (.cells #[.slice va n vc, .int .i64 s] 29)
  have B4 := hide' (Below.on (Below.on B3.out b4) hA4)
  have hO4' := hide' ((hO4.agree (agree_below hA4)).mono (R' := fun b => b < (w4.alloc (.cells #[.slice va n vc, .int .i64 s] 29)).heap.size) fun b hb => by have h : b < w4.heap.size := hb; simp; omega)
  have hr4 := hide' ((hA4.block _ (Nat.lt_of_lt_of_le (Array.getElem?_eq_some_iff.1 hr3.out).1 b4.size)).trans ((b4.block _ (Array.getElem?_eq_some_iff.1 hr3.out).1).trans hr3.out))
  have hb4 := hide' (MapKept.heap_alloc w4 (.cells #[.slice va n vc, .int .i64 s] 29)).1
  have HI4 := hide' (HI.out (.slice va n vc) _ hO4'.out B4.out)
  clear hO4 hA4 b4 B3 HT3 hr3 x0 x1 HI
  go_wp2_with fail
  refine HI4.out.mono ?_
  rintro e w5 ⟨rfl, b5⟩
  have hr5 := hide' ((b5.block _ (Array.getElem?_eq_some_iff.1 hr4.out).1).trans hr4.out)
  have hb5 := hide' ((b5.block _ (Array.getElem?_eq_some_iff.1 hb4.out).1).trans hb4.out)
  have B5d : Hid (Below w.heap.size w w5.drew) := (Below.on B4.out b5).drew
  have HV5 : Hid (RLSg (fun b => b < w5.drew.heap.size) w5.drew d (.slice va n vc) l) := by
    have h1 := ((hO4'.out.agree (agree_below b5)).mono (R' := fun b => b < w5.drew.heap.size) fun b hb => Nat.lt_of_lt_of_le hb b5.size)
    exact h1.agree (w' := w5.drew) (fun b _ => rfl)
  obtain ⟨x0, x1⟩ := two_row hr5.out
  obtain ⟨y0, y1⟩ := two_row hb5.out
  generalize w4.heap.size = eb at *
  clear b5 B4 hO4' HI4 hr4 hb4 hr5 hb5
  go_wp2_with fail
  refine wp_region_held_drew (S := (fun wx => wx.cell? ⟨eb, 0, none⟩ = some (.slice va n vc) ∧ wx.cell? ⟨eb, 1, none⟩ = some (.int .i64 s) ∧ wx.cell? ⟨w.heap.size, 0, none⟩ = some (.slice a n p) ∧ wx.cell? ⟨w.heap.size, 1, none⟩ = some (.int .i64 s))) (by kernel_rfl) ⟨y0, y1, x0, x1⟩ (fun hHeld => ?_)
  refine take_yes (i := 0) 22 (v := ?_) rfl rfl (by kernel_rfl) (by kernel_rfl) (by kernel_rfl) (fun _ _ _ h => h) (by kernel_rfl) hHeld ?_ ?_
  rotate_left
  focus (intro w hSw; (try dsimp only at hSw); go_simp; (try with_reducible rfl))
  simp only [Act.put, List.setIfInBounds_toArray, List.set_cons_zero, List.set_cons_succ]
  refine take_yes (i := 1) 23 (v := ?_) rfl rfl (by kernel_rfl) (by kernel_rfl) (by kernel_rfl) (fun _ _ _ h => h) (by kernel_rfl) hHeld ?_ ?_
  rotate_left
  focus (intro w hSw; (try dsimp only at hSw); go_simp; (try with_reducible rfl))
  simp only [Act.put, List.setIfInBounds_toArray, List.set_cons_zero, List.set_cons_succ]
  refine wpAnyH_ready (rs := [2]) (by kernel_rfl) (by simp) ?_
  refine AllReadyH.cons rfl (fun K hK => ?_) AllReadyH.nil
  go_simp
  go_at_call 6
  refine (HT.out _ B5d.out).mono ?_
  rintro e w6 ⟨za, zc, rfl, hO6, b6⟩
  have hS := (⟨cell_keptA b6 hHeld.1, cell_keptA b6 hHeld.2.1, cell_keptA b6 hHeld.2.2.1, cell_keptA b6 hHeld.2.2.2⟩ : _ ∧ _ ∧ _ ∧ _)
  have B6 := hide' (Below.on B5d.out b6)
  have hO6' := hide' hO6
  have hV6 := hide' ((HV5.out.agree (agree_below b6)).mono (R' := fun b => b < w6.heap.size) fun b hb => by have := b6.size; exact Nat.lt_of_lt_of_le hb this)
  rw [hn] at hO6' ⊢
  clear hO6 b6
  go_wp2_with fail
  refine hK.out _ _ hS (fun hHeld => ?_)
  clear hK
  (try simp only [Act.put, List.setIfInBounds_toArray, List.set_cons_zero, List.set_cons_succ])
  refine wpAnyH_ready (rs := [3]) (by kernel_rfl) (by simp) ?_
  refine AllReadyH.cons rfl (fun K hK => ?_) AllReadyH.nil
  go_simp
  go_at_call 8
  refine (eqPlan_any d w6.heap.size (.slice va n vc) (.slice za n zc) l s w6 hV6.out hO6'.out (Nat.le_refl _) HLn.out HZ.out).mono ?_
  rintro e w7 ⟨rfl, b7⟩
  have hS := (⟨cell_keptA b7 hHeld.1, cell_keptA b7 hHeld.2.1, cell_keptA b7 hHeld.2.2.1, cell_keptA b7 hHeld.2.2.2⟩ : _ ∧ _ ∧ _ ∧ _)
  have B7 := hide' (Below.on B6.out b7)
  clear b7
  go_wp2_with fail
  refine hK.out _ _ hS (fun hHeld => ?_)
  clear hK
  (try simp only [Act.put, List.setIfInBounds_toArray, List.set_cons_zero, List.set_cons_succ])
  refine take_yes (i := 4) 26 (v := ?_) rfl rfl (by kernel_rfl) (by kernel_rfl) (by kernel_rfl) (fun _ _ _ h => h) (by kernel_rfl) hHeld ?_ ?_
  rotate_left
  focus (intro w hSw; (try dsimp only at hSw); go_simp; (try with_reducible rfl))
  simp only [Act.put, List.setIfInBounds_toArray, List.set_cons_zero, List.set_cons_succ]
  refine wpAnyH_done (by kernel_rfl) ?_ _
  go_wp2
  go_ret
  exact ⟨rfl, B7.out⟩
end Go.Proofs.YtfkmmhlllnjhoaaGreatDoor
/-
  A text that came in, as its reading has it, can be read: 'TSeg'.
-/
namespace Go.Proofs.YtfkmmhlllnjhoaaGreatDoor
open Go.ChangeShapes Go.WideShapes Go.ChangeAt Go.RowKit
set_option linter.unusedVariables false
set_option linter.unusedSimpArgs false
set_option maxRecDepth 100000

theorem cellsT : Tryz.prog.cellsOf 34 = 1 := by kernel_rfl
theorem cellsI : Tryz.prog.cellsOf 3 = 1 := by kernel_rfl

theorem list_of {α : Type} {Q : Nat → α → Prop} : ∀ n, (∀ i, i < n → ∃ x, Q i x) → ∃ l : List α, l.length = n ∧ ∀ i (h : i < l.length), Q i l[i]
  | 0, _ => ⟨[], rfl, fun i h => by simp at h⟩
  | n + 1, hq => by
    obtain ⟨l, hl, hi⟩ := list_of n (fun i hi => hq i (by omega))
    obtain ⟨x, hx⟩ := hq n (by omega)
    refine ⟨l ++ [x], by simp [hl], fun i h => ?_⟩
    by_cases e : i < l.length
    · rw [List.getElem_append_left e]; exact hi i e
    · have : i = n := by simp at h; omega
      subst this
      rw [List.getElem_append_right (by omega)]
      simpa using hx

variable {H : Type} {enc : TypeId × Value → H} {w : World}

theorem read_text {fuel : Nat} {cs : List Value} {x : DataW H × List MemPlace} (h : DataW.trod enc Tryz.prog w 0 (fun _ => true) true fuel 34 cs = some x) : ∃ u xs, cs = [u] ∧ TSeg (fun b => b < w.heap.size) w u xs := by
  rcases open_ints Tryz.underlying34 Tryz.underlying5 (by kernel_rfl) h with ⟨rfl, _⟩ | ⟨a, len, cap, zs, rfl, _, hl, hm, hz, _, hcell, hwz⟩
  · exact ⟨_, [], rfl, none, 0, rfl, ⟨by simp, .inl rfl⟩, Nat.le_refl _, Nat.zero_le _, fun _ => rfl, by simp⟩
  · obtain ⟨xs, e, hs, h1, h2, h3⟩ := seg_of_row (w := w) (a := some a) (len := len) (cap := cap) (zs := zs) (.inr ⟨a, rfl, hl, hm, by simpa using hz, hcell, hwz⟩)
    subst e
    exact ⟨_, xs, rfl, some a, cap, rfl, hs, h1, h2, h3, hs.lt⟩

end Go.Proofs.YtfkmmhlllnjhoaaGreatDoor
/-
  A value that came in, as its reading has it, can be read: 'VSeg'.
-/
namespace Go.Proofs.YtfkmmhlllnjhoaaGreatDoor
open Go.ChangeShapes Go.WideShapes Go.ChangeAt Go.RowKit
set_option linter.unusedVariables false
set_option linter.unusedSimpArgs false
set_option maxRecDepth 100000

theorem cellsK : Tryz.prog.cellsOf 40 = 1 := by kernel_rfl
theorem cellsL : Tryz.prog.cellsOf 41 = 1 := by kernel_rfl
theorem cellsV : Tryz.prog.cellsOf 43 = 5 := by kernel_rfl
variable {H : Type} {enc : TypeId × Value → H} {w : World}

theorem read_keys {fuel : Nat} {cs : List Value} {x : DataW H × List MemPlace} (h : DataW.trod enc Tryz.prog w 0 (fun _ => true) true fuel 40 cs = some x) : ∃ u ks, cs = [u] ∧ KSeg (fun b => b < w.heap.size) w u ks := by
  rcases DataW.trod_slice Tryz.underlying40 h with ⟨rfl, _⟩ | ⟨a, len, cap, elems, rest, n, _, rfl, _, hb, hl, hm, hlen, hel, hsp, hns⟩
  · exact ⟨_, [], rfl, none, 0, rfl, Nat.le_refl _, Nat.zero_le _, fun _ => rfl, .inl rfl⟩
  · have hq : ∀ i, i < len → ∃ xs : List Int, ∃ u, w.cell? (a.add i) = some u ∧ TSeg (fun b => b < w.heap.size) w u xs := by
      intro i hi
      have h1 := hel i hi
      rw [cellsT, Nat.mul_one, List.getElem?_eq_getElem (by omega)] at h1
      obtain ⟨cs', hc, ht⟩ := Option.bind_eq_some_iff.1 h1
      obtain ⟨u, xs, rfl, hT⟩ := read_text ht
      exact ⟨xs, u, cell_of_cells?_one hc, hT⟩
    obtain ⟨ks, hkl, hks⟩ := list_of len hq
    subst hkl
    refine ⟨_, ks, rfl, some a, cap, rfl, hl, hm, by simp, ?_⟩
    by_cases he : ks = []
    · exact .inl he
    · have hp : 0 < ks.length := List.length_pos_iff.2 he
      obtain ⟨b, off, spot⟩ := a
      obtain ⟨u0, hu0, _⟩ := hks 0 hp
      have hspot : spot = none := by simpa [Addr.add] using World.cell?_spot hu0
      subst hspot
      refine .inr ⟨b, off, rfl, ?_, fun i hi => ?_⟩
      · have := World.block_lt_of_cell? w _ hu0
        simpa [Addr.add] using this
      · obtain ⟨u, hu, hT⟩ := hks i hi
        rw [Addr.add_lit] at hu
        exact ⟨u, hu, by simpa [List.getD_eq_getElem?_getD, hi] using hT⟩

theorem read_five {fuel : Nat} {cs : List Value} {x : DataW H × List MemPlace} (h : DataW.trod enc Tryz.prog w 0 (fun _ => true) true (fuel + 1) 43 cs = some x) :
    ∃ c0 c1 c2 c3 c4 y0 y1 y2 y3 y4, cs = [c0, c1, c2, c3, c4] ∧ DataW.trod enc Tryz.prog w 0 (fun _ => true) true fuel 3 [c0] = some y0 ∧ DataW.trod enc Tryz.prog w 0 (fun _ => true) true fuel 3 [c1] = some y1 ∧
      DataW.trod enc Tryz.prog w 0 (fun _ => true) true fuel 34 [c2] = some y2 ∧ DataW.trod enc Tryz.prog w 0 (fun _ => true) true fuel 40 [c3] = some y3 ∧ DataW.trod enc Tryz.prog w 0 (fun _ => true) true fuel 41 [c4] = some y4 := by
  unfold DataW.trod at h
  rw [Tryz.underlying43] at h
  simp only [cellsV] at h
  split at h
  · next hlen =>
    match cs, hlen with
    | [c0, c1, c2, c3, c4], _ =>
      simp [cellsT, cellsK, cellsL, cellsI, List.mapM_cons, Option.bind_eq_some_iff] at h
      obtain ⟨a0, b0, h0, _, ⟨a1, b1, h1, _, ⟨a2, b2, h2, _, ⟨a3, b3, h3, _, ⟨a4, b4, h4, _⟩, _⟩, _⟩, _⟩, _⟩ := h
      exact ⟨c0, c1, c2, c3, c4, _, _, _, _, _, rfl, h0, h1, h2, h3, h4⟩
  · simp at h

/-- How deep what is read with that fuel is at most. -/
def dep : Nat → Nat
  | 0 => 0
  | 1 => 0
  | f + 2 => dep f + 1

def ReadAt (enc : TypeId × Value → H) (w : World) (f : Nat) : Prop := ∀ (cs : List Value) (x : DataW H × List MemPlace), DataW.trod enc Tryz.prog w 0 (fun _ => true) true f 43 cs = some x →
  ∃ (c0 c1 c2 c3 c4 : Value) (v : Vl (dep f)), cs = [c0, c1, c2, c3, c4] ∧ VSeg (fun b => b < w.heap.size) w (dep f) (c0, c1, c2, c3, c4) v

theorem read_step (f : Nat) (ih : ReadAt enc w f) : ReadAt enc w (f + 2) := by
  intro cs x h
  obtain ⟨c0, c1, c2, c3, c4, y0, y1, y2, y3, y4, rfl, h0, h1, h2, h3, h4⟩ := read_five h
  obtain ⟨n0, e0, _, _⟩ := DataW.trod_int Tryz.underlying3 h0
  obtain ⟨n1, e1, _, _⟩ := DataW.trod_int Tryz.underlying3 h1
  obtain ⟨u2, xs, e2, hT⟩ := read_text h2
  obtain ⟨u3, ks, e3, hK⟩ := read_keys h3
  simp at e0 e1 e2 e3
  subst e0 e1 e2 e3
  have hL : ∃ l : List (Vl (dep f)), LSeg (fun b => b < w.heap.size) w (dep f) c4 l := by
    rcases DataW.trod_slice Tryz.underlying41 h4 with ⟨e, _⟩ | ⟨a, len, cap, elems, rest, n, hn, e, _, hb, hl, hm, hlen, hel, hsp, hns⟩
    · simp at e
      subst e
      exact ⟨[], none, 0, rfl, Nat.le_refl _, Nat.zero_le _, fun _ => rfl, .inl rfl⟩
    · simp at e
      subst e
      obtain rfl : n = f := by omega
      have hq : ∀ i, i < len → ∃ v : Vl (dep n), ∃ c0 c1 c2 c3 c4, (∀ j, j < 5 → w.cell? ((a.add (i * 5)).add j) = [c0, c1, c2, c3, c4][j]?) ∧ VSeg (fun b => b < w.heap.size) w (dep n) (c0, c1, c2, c3, c4) v := by
        intro i hi
        have h1 := hel i hi
        rw [cellsV, List.getElem?_eq_getElem (by omega)] at h1
        obtain ⟨cs', hc, ht⟩ := Option.bind_eq_some_iff.1 h1
        obtain ⟨d0, d1, d2, d3, d4, v, rfl, hv⟩ := ih cs' _ ht
        exact ⟨v, d0, d1, d2, d3, d4, (World.cells?_some hc).2.2, hv⟩
      obtain ⟨l, hll, hls⟩ := list_of len hq
      subst hll
      refine ⟨l, some a, cap, rfl, hl, hm, by simp, ?_⟩
      by_cases he : l = []
      · exact .inl he
      · have hp : 0 < l.length := List.length_pos_iff.2 he
        obtain ⟨b, off, spot⟩ := a
        obtain ⟨d0, d1, d2, d3, d4, hu0, _⟩ := hls 0 hp
        have hu := hu0 0 (by omega)
        simp [Addr.add] at hu
        have hspot : spot = none := by simpa using World.cell?_spot hu
        subst hspot
        refine .inr ⟨b, off, rfl, World.block_lt_of_cell? w _ hu, fun i hi => ?_⟩
        obtain ⟨d0, d1, d2, d3, d4, hu, hv⟩ := hls i hi
        have e : ∀ j, j < 5 → w.cell? ⟨b, off + i * 5 + j, none⟩ = [d0, d1, d2, d3, d4][j]? := by
          intro j hj
          have := hu j hj
          rw [Addr.add_lit, Addr.add_lit] at this
          exact this
        exact ⟨(d0, d1, d2, d3, d4), ⟨e 0 (by omega), e 1 (by omega), e 2 (by omega), e 3 (by omega), e 4 (by omega)⟩, hv⟩
  obtain ⟨l, hL⟩ := hL
  exact ⟨_, _, _, _, _, (n0, n1, xs, ks, l), rfl, (VSeg_succ _ _ _ _ _).2 ⟨rfl, rfl, hT, hK, hL⟩⟩

theorem read_both (f : Nat) : ReadAt enc w f ∧ ReadAt enc w (f + 1) := by
  induction f with
  | zero =>
    refine ⟨fun cs x h => by simp [DataW.trod] at h, fun cs x h => ?_⟩
    obtain ⟨_, _, _, _, _, _, _, _, _, _, _, h0, _⟩ := read_five h
    simp [DataW.trod] at h0
  | succ f ih => exact ⟨ih.2, read_step f ih.1⟩

/-- A value that came in. -/
theorem read_value {v : Value} {d : DataW H} {ps : List MemPlace} (h : DataW.Trod enc Tryz.prog w 0 (fun _ => true) true 43 v d ps) :
    ∃ c0 c1 c2 c3 c4 n, v = .agg #[c0, c1, c2, c3, c4] ∧ ∃ x : Vl n, VSeg (fun b => b < w.heap.size) w n (c0, c1, c2, c3, c4) x := by
  obtain ⟨fuel, hf⟩ := h
  obtain ⟨c0, c1, c2, c3, c4, x, e, hx⟩ := (read_both fuel).1 _ _ hf
  refine ⟨c0, c1, c2, c3, c4, dep fuel, ?_, x, hx⟩
  cases v <;> simp [Value.cells] at e
  rename_i cs
  cases cs
  simp at e
  simp [e]
end Go.Proofs.YtfkmmhlllnjhoaaGreatDoor
/-
  Acts and plans that came in, as their reading has them, can be read: 'RSg', 'RLSg'.
-/
namespace Go.Proofs.YtfkmmhlllnjhoaaGreatDoor
open Go.ChangeShapes Go.WideShapes Go.ChangeAt Go.RowKit
set_option linter.unusedVariables false
set_option linter.unusedSimpArgs false
set_option maxRecDepth 100000

theorem cellsAc : Tryz.prog.cellsOf 45 = 9 := by kernel_rfl
theorem cellsAs : Tryz.prog.cellsOf 22 = 1 := by kernel_rfl
theorem cellsPl : Tryz.prog.cellsOf 24 = 2 := by kernel_rfl
variable {H : Type} {enc : TypeId × Value → H} {w : World}

/-- An item that came in. -/
theorem read_act {f : Nat} {cs : List Value} {x : DataW H × List MemPlace} (h : DataW.trod enc Tryz.prog w 0 (fun _ => true) true (f + 1) 45 cs = some x) :
    ∃ it : Rcd (dep f), RSg (fun b => b < w.heap.size) w (dep f) cs it := by
  unfold DataW.trod at h
  rw [Tryz.underlying45] at h
  simp only [cellsAc] at h
  split at h
  · next hlen =>
    match cs, hlen with
    | [c0, c1, c2, c3, c4, c5, c6, c7, c8], _ =>
      simp [cellsT, cellsK, cellsI, cellsV, List.mapM_cons, Option.bind_eq_some_iff] at h
      obtain ⟨a0, b0, h0, _, ⟨a1, b1, h1, _, ⟨a2, b2, h2, _, ⟨a3, b3, h3, _, ⟨a4, b4, h4, _⟩, _⟩, _⟩, _⟩, _⟩ := h
      obtain ⟨n0, e0, _, _⟩ := DataW.trod_int Tryz.underlying3 h0
      obtain ⟨u1, xs, e1, hT⟩ := read_text h1
      obtain ⟨n2, e2, _, _⟩ := DataW.trod_int Tryz.underlying3 h2
      obtain ⟨p0, p1, p2, p3, p4, v3, e3, hV⟩ := (read_both f).1 _ _ h3
      obtain ⟨u4, ks, e4, hK⟩ := read_keys h4
      simp only [List.cons.injEq, and_true] at e0 e1 e2 e3 e4
      obtain ⟨rfl, rfl, rfl, rfl, rfl⟩ := e3
      subst e0 e1 e2 e4
      exact ⟨(n0, xs, n2, v3, ks), _, _, _, _, _, _, _, rfl, hT, hV, hK⟩
  · simp at h

/-- A list of items that came in. -/
theorem read_acts {fuel : Nat} {cs : List Value} {x : DataW H × List MemPlace} (h : DataW.trod enc Tryz.prog w 0 (fun _ => true) true fuel 22 cs = some x) :
    ∃ u d, ∃ l : List (Rcd d), cs = [u] ∧ RLSg (fun b => b < w.heap.size) w d u l := by
  rcases DataW.trod_slice Tryz.underlying22 h with ⟨rfl, _⟩ | ⟨a, len, cap, elems, rest, n, _, rfl, _, hb, hl, hm, hlen, hel, hsp, hns⟩
  · exact ⟨_, 0, [], rfl, none, 0, rfl, Nat.le_refl _, Nat.zero_le _, fun _ => rfl, .inl rfl⟩
  · cases n with
    | zero =>
      have h0 : len = 0 := by
        by_cases e : len = 0
        · exact e
        · have h1 := hel 0 (by omega)
          rw [List.getElem?_eq_getElem (by omega)] at h1
          obtain ⟨cs', hc, ht⟩ := Option.bind_eq_some_iff.1 h1
          simp [DataW.trod] at ht
      subst h0
      exact ⟨_, 0, [], rfl, some a, cap, rfl, hl, hm, by simp, .inl rfl⟩
    | succ n =>
      have hq : ∀ i, i < len → ∃ it : Rcd (dep n), ∃ cs, (∀ j, j < 9 → w.cell? ((a.add (i * 9)).add j) = cs[j]?) ∧ RSg (fun b => b < w.heap.size) w (dep n) cs it := by
        intro i hi
        have h1 := hel i hi
        rw [cellsAc, List.getElem?_eq_getElem (by omega)] at h1
        obtain ⟨cs', hc, ht⟩ := Option.bind_eq_some_iff.1 h1
        obtain ⟨it, hv⟩ := read_act ht
        exact ⟨it, cs', (World.cells?_some hc).2.2, hv⟩
      obtain ⟨l, hll, hls⟩ := list_of len hq
      subst hll
      refine ⟨_, dep n, l, rfl, some a, cap, rfl, hl, hm, by simp, ?_⟩
      by_cases he : l = []
      · exact .inl he
      · have hp : 0 < l.length := List.length_pos_iff.2 he
        obtain ⟨b, off, spot⟩ := a
        obtain ⟨cs0, hu0, hs0⟩ := hls 0 hp
        have hu := hu0 0 (by omega)
        have hl0 := hs0.len
        rw [List.getElem?_eq_getElem (by omega)] at hu
        simp [Addr.add] at hu
        have hspot : spot = none := by simpa using World.cell?_spot hu
        subst hspot
        refine .inr ⟨b, off, rfl, World.block_lt_of_cell? w _ hu, fun i hi => ?_⟩
        obtain ⟨cs, hu, hv⟩ := hls i hi
        refine ⟨cs, fun j v hj => ?_, hv⟩
        have hlj := hv.len
        have hj9 : j < 9 := by
          have := (List.getElem?_eq_some_iff.1 hj).1
          omega
        have := hu j hj9
        rw [Addr.add_lit, Addr.add_lit] at this
        rw [this]
        exact hj

/-- A plan that came in. -/
theorem read_plan {v : Value} {dd : DataW H} {ps : List MemPlace} (h : DataW.Trod enc Tryz.prog w 0 (fun _ => true) true 24 v dd ps) : ∃ d x n, ∃ l : List (Rcd d), v = .agg #[x, .int .i64 n] ∧ RLSg (fun b => b < w.heap.size) w d x l := by
  obtain ⟨fuel, hf⟩ := h
  cases fuel with
  | zero => simp [DataW.trod] at hf
  | succ fuel =>
    unfold DataW.trod at hf
    rw [Tryz.underlying24] at hf
    simp only [cellsPl] at hf
    split at hf
    · next hlen =>
      generalize hcs : v.cells.toList = cs at hf hlen
      match cs, hlen with
      | [c0, c1], _ =>
        simp [cellsI, cellsAs, List.mapM_cons, Option.bind_eq_some_iff] at hf
        obtain ⟨a0, b0, h0, _, ⟨a1, b1, h1, _⟩, _⟩ := hf
        obtain ⟨u, d, l, e0, hl⟩ := read_acts h0
        obtain ⟨n1, e1, _, _⟩ := DataW.trod_int Tryz.underlying3 h1
        simp at e0 e1
        subst e0 e1
        refine ⟨d, c0, n1, l, ?_, hl⟩
        cases v <;> simp [Value.cells] at hcs
        rename_i cs
        cases cs
        simp at hcs
        simp [hcs]
    · simp at hf
end Go.Proofs.YtfkmmhlllnjhoaaGreatDoor
