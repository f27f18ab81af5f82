/-
  Texts that a law leans on, one behind the other; no statement is proved here.
-/
import Derived.Test.YtfojpencmkmdfaaGreatDoorPk7
import Derived.Test.YtfojpencmkmdfaaGreatDoorPk2
import Derived.Test.YtfojpencmkmdfaaGreatDoorPk12
import Derived.Test.YtfojpencmkmdfaaGreatDoorPk10
/-
  Plans: which may be written, and their texts (mathematics).
-/
namespace Go.Proofs.YtfojpencmkmdfaaGreatDoor
open Go.RowKit
set_option linter.unusedVariables false
set_option linter.unusedSimpArgs false

/-- The word of an act. -/
def nmT (k : Int) : List Int := if k = 1 then [99, 114, 101, 97, 116, 101] else if k = 2 then [117, 112, 100, 97, 116, 101] else if k = 3 then [114, 101, 112, 108, 97, 99, 101] else [100, 101, 108, 101, 116, 101]
/-- An act may be written. -/
def actB (d : Nat) (a : Rcd d) : Bool := decide (1 ≤ a.1) && (decide (a.1 ≤ 4) && (addrB a.2.1 && okB d a.2.2.2.1))
/-- Its line. -/
def actT (d : Nat) (a : Rcd d) : List Int := (((nmT a.1 ++ [32]) ++ a.2.1) ++ (if a.1 = 4 then [] else [32] ++ sayV d a.2.2.2.1)) ++ [10]
/-- The lines of the first k. -/
def preA (d : Nat) (l : List (Rcd d)) (k : Nat) : List Int := ((l.take k).map (actT d)).flatten
def planB (d : Nat) (l : List (Rcd d)) (s : Int) : Bool := decide (l.length ≤ 32) && (decide (0 ≤ s) && (decide (s ≤ 16) && l.all (actB d)))
def planT (d : Nat) (l : List (Rcd d)) (s : Int) : List Int := if planB d l s = true then ((preA d l l.length ++ [107, 101, 101, 112, 32]) ++ decI s.toNat) ++ [10] else []

theorem nm_len (k : Int) : (nmT k).length ≤ 7 := by
  unfold nmT
  split
  · simp
  · split
    · simp
    · split <;> simp
theorem nm_byt (k : Int) : ∀ y ∈ nmT k, Byt y := by
  have h : (nmT k).all (fun y => decide (0 ≤ y) && decide (y ≤ 255)) = true := by
    unfold nmT
    split
    · decide
    · split
      · decide
      · split <;> decide
  intro y hy
  have := List.all_eq_true.1 h y hy
  simp at this
  exact this
theorem preA_zero (d : Nat) (l : List (Rcd d)) : preA d l 0 = [] := by simp [preA]
theorem preA_succ (d : Nat) (l : List (Rcd d)) (k : Nat) (h : k < l.length) : preA d l (k + 1) = preA d l k ++ actT d l[k] := by
  unfold preA
  rw [List.take_succ_eq_append_getElem h, List.map_append, List.flatten_append]
  simp
theorem act_of {d : Nat} {a : Rcd d} (h : actB d a = true) : 1 ≤ a.1 ∧ a.1 ≤ 4 ∧ addrB a.2.1 = true ∧ okB d a.2.2.2.1 = true := by
  unfold actB at h
  simp only [Bool.and_eq_true, decide_eq_true_eq] at h
  exact h
theorem actT_len {d : Nat} {a : Rcd d} (h : actB d a = true) (hz : a.2.1.length ≤ 1048576) : (actT d a).length ≤ 1052000 := by
  obtain ⟨_, _, _, h4⟩ := act_of h
  obtain ⟨g1, g2⟩ := ok_says h4
  have h5 := sayV_len d a.2.2.2.1 1 g1
  have h6 := nm_len a.1
  unfold actT
  split <;> simp only [List.length_append, List.length_cons, List.length_nil] <;> omega
theorem preA_len {d : Nat} {l : List (Rcd d)} (hz : ∀ i (h : i < l.length), (l[i]).2.1.length ≤ 1048576) : ∀ k, k ≤ l.length → (∀ j (h : j < l.length), j < k → actB d l[j] = true) → (preA d l k).length ≤ k * 1052000
  | 0, _, _ => by rw [preA_zero]; simp
  | k + 1, hk, h => by
    rw [preA_succ d l k (by omega), List.length_append]
    have h1 := preA_len hz k (by omega) (fun j hj hjk => h j hj (by omega))
    have h2 := actT_len (h k (by omega) (by omega)) (hz k (by omega))
    omega
theorem plan_no {d : Nat} {l : List (Rcd d)} {s : Int} (h : ¬ (l.length ≤ 32 ∧ 0 ≤ s ∧ s ≤ 16)) : planB d l s = false := by
  cases hp : planB d l s with
  | false => rfl
  | true =>
    unfold planB at hp
    simp only [Bool.and_eq_true, decide_eq_true_eq] at hp
    exact absurd ⟨hp.1, hp.2.1, hp.2.2.1⟩ h
theorem plan_at {d : Nat} {l : List (Rcd d)} {s : Int} {k : Nat} (hk : k < l.length) (h : actB d l[k] = false) : planB d l s = false := by
  cases hp : planB d l s with
  | false => rfl
  | true =>
    unfold planB at hp
    simp only [Bool.and_eq_true, decide_eq_true_eq] at hp
    rw [List.all_eq_true.1 hp.2.2.2 l[k] (List.getElem_mem hk)] at h
    cases h
theorem plan_yes {d : Nat} {l : List (Rcd d)} {s : Int} (h1 : l.length ≤ 32) (h2 : 0 ≤ s) (h3 : s ≤ 16) (h : ∀ j (h : j < l.length), actB d l[j] = true) : planB d l s = true := by
  unfold planB
  simp only [Bool.and_eq_true, decide_eq_true_eq]
  refine ⟨h1, h2, h3, List.all_eq_true.2 fun a ha => ?_⟩
  obtain ⟨i, hi, rfl⟩ := List.getElem_of_mem ha
  exact h i hi
theorem planT_no {d : Nat} {l : List (Rcd d)} {s : Int} (h : planB d l s = false) : planT d l s = [] := by
  unfold planT
  rw [if_neg (by rw [h]; simp)]
theorem planT_some (d : Nat) (l : List (Rcd d)) (s : Int) : ((planT d l s).length = 0) ↔ planB d l s = false := by
  constructor
  · intro h
    cases hp : planB d l s with
    | false => rfl
    | true =>
      unfold planT at h
      rw [if_pos hp] at h
      simp at h
  · intro h
    rw [planT_no h]
    rfl

/-- The nine cells of a block. -/
theorem act_row {w : World} {g : Nat} {T : TypeId} {c0 c1 c2 c3 c4 c5 c6 c7 c8 : Value} (h : w.heap[g]? = some (.cells #[c0, c1, c2, c3, c4, c5, c6, c7, c8] T (0, 0))) :
    w.cell? ⟨g, 0, none⟩ = some c0 ∧ w.cell? ⟨g, 1, none⟩ = some c1 ∧ w.cell? ⟨g, 3, none⟩ = some c3 ∧ w.cell? ⟨g, 4, none⟩ = some c4 ∧ w.cell? ⟨g, 5, none⟩ = some c5 ∧ w.cell? ⟨g, 6, none⟩ = some c6 ∧ w.cell? ⟨g, 7, none⟩ = some c7 := by
  refine ⟨?_, ?_, ?_, ?_, ?_, ?_, ?_⟩ <;> (rw [cell_of_row w g _ _ _ _ h]; rfl)
theorem two_row {w : World} {g : Nat} {T : TypeId} {c0 c1 : Value} (h : w.heap[g]? = some (.cells #[c0, c1] T (0, 0))) :
    w.cell? ⟨g, 0, none⟩ = some c0 ∧ w.cell? ⟨g, 1, none⟩ = some c1 := by
  refine ⟨?_, ?_⟩ <;> (rw [cell_of_row w g _ _ _ _ h]; rfl)
end Go.Proofs.YtfojpencmkmdfaaGreatDoor
/-
  What EventText tells (mathematics).
-/
namespace Go.Proofs.YtfojpencmkmdfaaGreatDoor
open Go.RowKit
set_option linter.unusedVariables false
set_option linter.unusedSimpArgs false

/-- The word of an event. -/
def evW (k : Int) : List Int := if k = 0 then [98, 101, 103, 105, 110] else if k = 1 then [105, 110, 116, 101, 110, 116] else if k = 2 then [100, 111, 110, 101] else if k = 3 then [103, 111, 110, 101] else if k = 4 then [102, 97, 105, 108] else if k = 5 then [101, 110, 100] else [114, 101, 115, 101, 116]
/-- What EventText tells. -/
def evtT (d : Nat) (it : Rcd d) : List Int := if evB d it = true then (evW it.1 ++ (if 1 ≤ it.1 ∧ it.1 ≤ 4 then [32] ++ it.2.1 else [])) ++ (if it.1 = 1 then [32] ++ nmT it.2.2.1 else if it.1 = 2 then [32] ++ sayV d it.2.2.2.1 else []) else []

theorem evtT_no {d : Nat} {it : Rcd d} (h : evB d it = false) : evtT d it = [] := by unfold evtT; rw [h]; rfl
theorem ev_parts {d : Nat} {kk : Int} {ad : List Int} {jj : Int} {v : Vl d} {ds : List (List Int)} (h : evB d (kk, ad, jj, v, ds) = true) : 0 ≤ kk ∧ kk ≤ 6 ∧ headE kk ad jj = true ∧ restE d kk v ds = true := by
  unfold evB at h
  simp only [Bool.and_eq_true, decide_eq_true_eq] at h
  exact ⟨h.1, h.2.1, h.2.2.1, h.2.2.2⟩
theorem head_addr {kk : Int} {ad : List Int} {jj : Int} (h : headE kk ad jj = true) : ((1 ≤ kk ∧ kk ≤ 4) → ¬ ad.length = 0) ∧ (¬ (1 ≤ kk ∧ kk ≤ 4) → ad.length = 0) ∧ (kk = 1 → 1 ≤ jj ∧ jj ≤ 4) := by
  unfold headE at h
  simp only [Bool.and_eq_true] at h
  refine ⟨fun e => ?_, fun e => ?_, fun e => ?_⟩
  · have h1 := h.1
    rw [if_pos e] at h1
    exact addrB_some h1
  · have h1 := h.1
    rw [if_neg e] at h1
    simpa using h1
  · have h2 := h.2
    rw [if_pos e] at h2
    simpa using h2
theorem rest_map {d : Nat} {kk : Int} {v : Vl d} {ds : List (List Int)} (h : restE d kk v ds = true) (e : kk = 2) : goodB d v 1 = true ∧ partsV d v ≤ 40 := by
  unfold restE at h
  rw [if_pos e] at h
  simp only [mapB, Bool.and_eq_true] at h
  have h2 := h.1.2.1
  unfold okB at h2
  rw [Bool.and_eq_true, decide_eq_true_eq] at h2
  exact h2
theorem evtT_len {d : Nat} {it : Rcd d} (hz : it.2.1.length ≤ 1048576) : (evtT d it).length ≤ 1060000 := by
  obtain ⟨kk, ad, jj, v, ds⟩ := it
  unfold evtT
  split
  · next h =>
    obtain ⟨h0, h6, _, hr⟩ := ev_parts h
    have hw : (evW kk).length ≤ 7 := by
      unfold evW
      repeat' split
      all_goals simp
    have hn := nm_len jj
    simp only at hz ⊢
    simp only [List.length_append]
    have h1 : (if 1 ≤ kk ∧ kk ≤ 4 then [32] ++ ad else ([] : List Int)).length ≤ 1048577 := by
      split
      · simp; omega
      · simp
    have h2 : (if kk = 1 then [32] ++ nmT jj else if kk = 2 then [32] ++ sayV d v else ([] : List Int)).length ≤ 2500 := by
      split
      · simp; omega
      · split
        · next e =>
          have h3 := rest_map hr e
          have h4 := sayV_len d v 1 h3.1
          simp
          omega
        · simp
    omega
  · simp
end Go.Proofs.YtfojpencmkmdfaaGreatDoor
/-
  EventOk of the specification.
-/
namespace Go.Proofs.YtfojpencmkmdfaaGreatDoor
open Go.RowKit
set_option linter.unusedVariables false
set_option linter.unusedSimpArgs false

set_option maxHeartbeats 6400000 in
set_option maxRecDepth 100000 in
theorem spec_EventOk_any (d N : Nat) (cs : List Value) (it : Rcd d) (w : World) (h : RSg (fun b => b < N) w d cs it) (hN : N ≤ w.heap.size) :
    Calls Tryz.prog 16 #[.agg cs.toArray] w fun e w' => e = .returned (.bool (evB d it)) ∧ Below w.heap.size w w' := by
  obtain ⟨na, np, bk, bn, a2, l2, p2, a3, l3, p3, a4, l4, p4, xa, xp, rfl, ht, hv, hkk⟩ := h.form
  obtain ⟨kk, ad, jj, vv, ds⟩ := it
  simp only at ht hv hkk ⊢
  obtain ⟨na', np', e1, hsa, hac, hac2, hna, hral⟩ := ht
  simp only [Value.slice.injEq, true_and] at e1
  obtain ⟨rfl, rfl⟩ := e1
  unfold maxLen at hac2
  have hA : ∀ wx, Below w.heap.size w wx → Agree (fun b => b < N) w wx := fun wx hb => agree_below (hb.mono hN)
  have HSa : Hid (∀ wx, Below w.heap.size w wx → Seg wx na ad) := fun wx hb => hsa.grow (hb.mono (Nat.le_refl _))
  have HA1 : Hid (∀ o : Obj, Below w.heap.size w (w.alloc o)) := fun o => (Below.refl _ _).alloc (Nat.le_refl _) o
  have Hbox : Hid (∀ o wx, Below (w.alloc o).heap.size (w.alloc o) wx → wx.heap[w.heap.size]? = some o) := fun o wx h => box_row h
  have HAd : Hid (∀ wx, Below w.heap.size w wx → Calls Tryz.prog 29 #[.slice na ad.length np] wx fun e w' => e = .returned (.bool (addrB ad)) ∧ wx = w') := fun wx hb => spec_AddrOk_any na np ad wx (HSa.out wx hb) hac (by unfold maxLen; exact hac2) hna
  have HOk : Hid (∀ wx, Below w.heap.size w wx → Calls Tryz.prog 32 #[.agg #[.int .i64 bk, .int .i64 bn, .slice a2 l2 p2, .slice a3 l3 p3, .slice a4 l4 p4]] wx fun e w' => e = .returned (.bool (okB d vv)) ∧ Below wx.heap.size wx w') := fun wx hb => spec_ValOk_any d N _ _ _ _ _ vv wx (VSeg.agree (hA wx hb) d hv) (by have := hb.size; omega)
  have HZr : Hid (okB d vv = true → ∀ wx, Below w.heap.size w wx → Calls Tryz.prog 33 #[.agg #[.int .i64 bk, .int .i64 bn, .slice a2 l2 p2, .slice a3 l3 p3, .slice a4 l4 p4]] wx fun e w' => e = .returned (.bool (decide (kindV d vv = 0))) ∧ Below wx.heap.size wx w') := fun hok wx hb => l4zero_any d N _ _ _ _ _ vv wx (VSeg.agree (hA wx hb) d hv) (by have := hb.size; omega) hok
  have HMp : Hid (∀ wx, Below w.heap.size w wx → Calls Tryz.prog 30 #[.agg #[.int .i64 bk, .int .i64 bn, .slice a2 l2 p2, .slice a3 l3 p3, .slice a4 l4 p4]] wx fun e w' => e = .returned (.bool (mapB d vv)) ∧ Below wx.heap.size wx w') := fun wx hb => l4map_any d N _ _ _ _ _ vv wx (VSeg.agree (hA wx hb) d hv) (by have := hb.size; omega)
  have HAs : Hid (∀ wx, Below w.heap.size w wx → Calls Tryz.prog 31 #[.slice xa ds.length xp] wx fun e w' => e = .returned (.bool (addrsB ds)) ∧ Below wx.heap.size wx w') := fun wx hb => l4addrs_any N _ ds wx (hkk.agree (hA wx hb)) (by have := hb.size; omega)
  have HEv : Hid (evB d (kk, ad, jj, vv, ds) = (decide (0 ≤ kk) && (decide (kk ≤ 6) && (headE kk ad jj && restE d kk vv ds)))) := rfl
  have HSm := hide' (addrB_some (ad := ad))
  have HNl : Hid (∀ o : Obj, o = .cells #[.int .i64 kk, .slice na ad.length np, .int .i64 jj, .int .i64 bk, .int .i64 bn, .slice a2 l2 p2, .slice a3 l3 p3, .slice a4 l4 p4, .slice xa ds.length xp] 35 → (w.alloc o).heap[w.heap.size]? = some (.cells #[.int .i64 kk, .slice na ad.length np, .int .i64 jj, .int .i64 bk, .int .i64 bn, .slice a2 l2 p2, .slice a3 l3 p3, .slice a4 l4 p4, .slice xa ds.length xp] 35 (0, 0))) := fun o e => by subst e; exact (MapKept.heap_alloc w _).1
  generalize evB d (kk, ad, jj, vv, ds) = ans at *
  clear h hsa hral hv hkk hA
  unfold restE headE at HEv
  generalize hokd : okB d vv = ok at *
  generalize mapB d vv = mp at *
  generalize decide (kindV d vv = 0) = zr at *
  generalize addrsB ds = asb at *
  generalize haddr : addrB ad = adb at *
  generalize ad.length = al at *
  generalize ds.length = dl at *
  clear hokd haddr
  by_cases hlo : kk < 0
  · have HF : Hid (ans = false) := by show ans = false; rw [HEv.out, decide_eq_false (p := 0 ≤ kk) (by omega)]; rfl
    go_enter Tryz.func16, Tryz.ntmps16
    go_wp2
    go_ret
    exact ⟨ret_bool HF.out.symm, HA1.out _⟩
  by_cases hhi : 6 < kk
  · have HF : Hid (ans = false) := by show ans = false; rw [HEv.out, decide_eq_false (p := kk ≤ 6) (by omega)]; simp
    go_enter Tryz.func16, Tryz.ntmps16
    go_wp2
    go_ret
    exact ⟨ret_bool HF.out.symm, HA1.out _⟩
  have hcase : kk = 0 ∨ kk = 1 ∨ kk = 2 ∨ kk = 3 ∨ kk = 4 ∨ kk = 5 ∨ kk = 6 := by omega
  clear hlo hhi
  rcases hcase with rfl | rfl | rfl | rfl | rfl | rfl | rfl
  · have hE0 := HNl.out _ rfl
    obtain ⟨f0, f1, f2, f3, f4, f5, f6, f7, f8⟩ := ev_row hE0
    by_cases hal : al = 0
    rotate_left
    · have hal' : (0 : Int) < (al : Int) := by omega
      have HF : Hid (ans = false) := by show ans = false; rw [HEv.out]; simp [hal]
      go_enter Tryz.func16, Tryz.ntmps16
      go_wp2
      go_ret
      exact ⟨ret_bool HF.out.symm, HA1.out _⟩
    subst hal
    by_cases hj : jj = 0
    rotate_left
    · have hj' : (jj != 0) = true := by simpa using hj
      have HF : Hid (ans = false) := by show ans = false; rw [HEv.out]; simp [hj]
      go_enter Tryz.func16, Tryz.ntmps16
      go_wp2
      go_ret
      exact ⟨ret_bool HF.out.symm, HA1.out _⟩
    subst hj
    have HE2 : Hid (ans = (ok && (zr && decide (dl = 0)))) := by show _ = _; rw [HEv.out]; simp
    clear HEv HSm HNl
    go_enter Tryz.func16, Tryz.ntmps16
    go_wp2_with fail
    refine (HOk.out _ (HA1.out _)).mono ?_
    rintro e w2 ⟨rfl, b2⟩
    have hE2 := (b2.block _ (by simp)).trans hE0
    clear f0 f1 f2 f3 f4 f5 f6 f7 f8
    obtain ⟨f0, f1, f2, f3, f4, f5, f6, f7, f8⟩ := ev_row hE2
    have B2 := hide' (Below.on (HA1.out _) b2)
    have hs2 : w.heap.size < w2.heap.size := by have := b2.size; simp at this; omega
    clear b2 hE0
    cases ok with
    | false =>
      have HF : Hid (ans = false) := HE2.out
      go_wp2
      go_ret
      exact ⟨ret_bool HF.out.symm, B2.out⟩
    | true =>
      have HZ2 := hide' (HZr.out rfl _ B2.out)
      go_wp2_with fail
      refine HZ2.out.mono ?_
      rintro e w3 ⟨rfl, b3⟩
      have hE3 := (b3.block _ hs2).trans hE2
      clear f0 f1 f2 f3 f4 f5 f6 f7 f8
      obtain ⟨f0, f1, f2, f3, f4, f5, f6, f7, f8⟩ := ev_row hE3
      have B3 := hide' (Below.on B2.out b3)
      clear b3 hE2 hE3 HZ2
      cases zr with
      | false =>
        have HF : Hid (ans = false) := HE2.out
        go_wp2
        go_ret
        exact ⟨ret_bool HF.out.symm, B3.out⟩
      | true =>
        by_cases hdl : dl = 0
        · subst hdl
          have HF : Hid (ans = true) := by show _ = _; rw [HE2.out]; rfl
          go_wp2
          go_ret
          exact ⟨ret_bool HF.out.symm, B3.out⟩
        · have hdl' : ((dl : Int) == 0) = false := by simp; omega
          have hdl2 : ¬ (dl : Int) = 0 := by omega
          have HF : Hid (ans = false) := by show _ = _; rw [HE2.out, decide_eq_false hdl]; rfl
          go_wp2
          go_ret
          exact ⟨ret_bool HF.out.symm, B3.out⟩
  · have hE0 := HNl.out _ rfl
    obtain ⟨f0, f1, f2, f3, f4, f5, f6, f7, f8⟩ := ev_row hE0
    by_cases hal : al = 0
    · have hab : adb = false := by cases adb with
        | false => rfl
        | true => exact absurd hal (HSm.out rfl)
      subst hal hab
      have HF : Hid (ans = false) := by show ans = false; rw [HEv.out]; simp []
      go_enter Tryz.func16, Tryz.ntmps16
      go_wp2
      go_ret
      exact ⟨ret_bool HF.out.symm, HA1.out _⟩
    have hal' : (0 : Int) < (al : Int) := by omega
    cases adb with
    | false =>
      have HF : Hid (ans = false) := by show ans = false; rw [HEv.out]; simp []
      go_enter Tryz.func16, Tryz.ntmps16
      go_wp2_with fail
      refine (HAd.out _ (HA1.out _)).mono ?_
      rintro e w1 ⟨rfl, rfl⟩
      go_wp2
      go_ret
      exact ⟨ret_bool HF.out.symm, HA1.out _⟩
    | true =>
    by_cases hj1 : jj < 1
    · have HF : Hid (ans = false) := by show ans = false; rw [HEv.out]; rw [decide_eq_false (p := 1 ≤ jj) (by omega)]; simp
      go_enter Tryz.func16, Tryz.ntmps16
      go_wp2_with fail
      refine (HAd.out _ (HA1.out _)).mono ?_
      rintro e w1 ⟨rfl, rfl⟩
      go_wp2
      go_ret
      exact ⟨ret_bool HF.out.symm, HA1.out _⟩
    by_cases hj4 : 4 < jj
    · have HF : Hid (ans = false) := by show ans = false; rw [HEv.out]; rw [decide_eq_false (p := jj ≤ 4) (by omega)]; simp
      go_enter Tryz.func16, Tryz.ntmps16
      go_wp2_with fail
      refine (HAd.out _ (HA1.out _)).mono ?_
      rintro e w1 ⟨rfl, rfl⟩
      go_wp2
      go_ret
      exact ⟨ret_bool HF.out.symm, HA1.out _⟩
    have HE2 : Hid (ans = (ok && (zr && decide (dl = 0)))) := by show _ = _; rw [HEv.out, decide_eq_true (p := 1 ≤ jj) (by omega), decide_eq_true (p := jj ≤ 4) (by omega)]; simp
    clear HEv HSm HNl
    go_enter Tryz.func16, Tryz.ntmps16
    go_wp2_with fail
    refine (HAd.out _ (HA1.out _)).mono ?_
    rintro e w1 ⟨rfl, rfl⟩
    go_wp2_with fail
    refine (HOk.out _ (HA1.out _)).mono ?_
    rintro e w2 ⟨rfl, b2⟩
    have hE2 := (b2.block _ (by simp)).trans hE0
    clear f0 f1 f2 f3 f4 f5 f6 f7 f8
    obtain ⟨f0, f1, f2, f3, f4, f5, f6, f7, f8⟩ := ev_row hE2
    have B2 := hide' (Below.on (HA1.out _) b2)
    have hs2 : w.heap.size < w2.heap.size := by have := b2.size; simp at this; omega
    clear b2 hE0
    cases ok with
    | false =>
      have HF : Hid (ans = false) := HE2.out
      go_wp2
      go_ret
      exact ⟨ret_bool HF.out.symm, B2.out⟩
    | true =>
      have HZ2 := hide' (HZr.out rfl _ B2.out)
      go_wp2_with fail
      refine HZ2.out.mono ?_
      rintro e w3 ⟨rfl, b3⟩
      have hE3 := (b3.block _ hs2).trans hE2
      clear f0 f1 f2 f3 f4 f5 f6 f7 f8
      obtain ⟨f0, f1, f2, f3, f4, f5, f6, f7, f8⟩ := ev_row hE3
      have B3 := hide' (Below.on B2.out b3)
      clear b3 hE2 hE3 HZ2
      cases zr with
      | false =>
        have HF : Hid (ans = false) := HE2.out
        go_wp2
        go_ret
        exact ⟨ret_bool HF.out.symm, B3.out⟩
      | true =>
        by_cases hdl : dl = 0
        · subst hdl
          have HF : Hid (ans = true) := by show _ = _; rw [HE2.out]; rfl
          go_wp2
          go_ret
          exact ⟨ret_bool HF.out.symm, B3.out⟩
        · have hdl' : ((dl : Int) == 0) = false := by simp; omega
          have hdl2 : ¬ (dl : Int) = 0 := by omega
          have HF : Hid (ans = false) := by show _ = _; rw [HE2.out, decide_eq_false hdl]; rfl
          go_wp2
          go_ret
          exact ⟨ret_bool HF.out.symm, B3.out⟩
  · have hE0 := HNl.out _ rfl
    obtain ⟨f0, f1, f2, f3, f4, f5, f6, f7, f8⟩ := ev_row hE0
    by_cases hal : al = 0
    · have hab : adb = false := by cases adb with
        | false => rfl
        | true => exact absurd hal (HSm.out rfl)
      subst hal hab
      have HF : Hid (ans = false) := by show ans = false; rw [HEv.out]; simp []
      go_enter Tryz.func16, Tryz.ntmps16
      go_wp2
      go_ret
      exact ⟨ret_bool HF.out.symm, HA1.out _⟩
    have hal' : (0 : Int) < (al : Int) := by omega
    cases adb with
    | false =>
      have HF : Hid (ans = false) := by show ans = false; rw [HEv.out]; simp []
      go_enter Tryz.func16, Tryz.ntmps16
      go_wp2_with fail
      refine (HAd.out _ (HA1.out _)).mono ?_
      rintro e w1 ⟨rfl, rfl⟩
      go_wp2
      go_ret
      exact ⟨ret_bool HF.out.symm, HA1.out _⟩
    | true =>
    by_cases hj : jj = 0
    rotate_left
    · have hj' : (jj != 0) = true := by simpa using hj
      have HF : Hid (ans = false) := by show ans = false; rw [HEv.out]; simp [hj]
      go_enter Tryz.func16, Tryz.ntmps16
      go_wp2_with fail
      refine (HAd.out _ (HA1.out _)).mono ?_
      rintro e w1 ⟨rfl, rfl⟩
      go_wp2
      go_ret
      exact ⟨ret_bool HF.out.symm, HA1.out _⟩
    subst hj
    have HE2 : Hid (ans = (mp && asb)) := by show _ = _; rw [HEv.out]; simp
    clear HEv HSm HNl
    go_enter Tryz.func16, Tryz.ntmps16
    go_wp2_with fail
    refine (HAd.out _ (HA1.out _)).mono ?_
    rintro e w1 ⟨rfl, rfl⟩
    go_wp2_with fail
    refine (HMp.out _ (HA1.out _)).mono ?_
    rintro e w2 ⟨rfl, b2⟩
    have hE2 := (b2.block _ (by simp)).trans hE0
    clear f0 f1 f2 f3 f4 f5 f6 f7 f8
    obtain ⟨f0, f1, f2, f3, f4, f5, f6, f7, f8⟩ := ev_row hE2
    have B2 := hide' (Below.on (HA1.out _) b2)
    clear b2 hE0 hE2
    cases mp with
    | false =>
      have HF : Hid (ans = false) := HE2.out
      go_wp2
      go_ret
      exact ⟨ret_bool HF.out.symm, B2.out⟩
    | true =>
      have HF : Hid (ans = asb) := by show _ = _; rw [HE2.out]; rfl
      go_wp2_with fail
      refine (HAs.out _ B2.out).mono ?_
      rintro e w3 ⟨rfl, b3⟩
      have B3 := hide' (Below.on B2.out b3)
      clear b3 f0 f1 f2 f3 f4 f5 f6 f7 f8
      go_wp2
      go_ret
      exact ⟨ret_bool HF.out.symm, B3.out⟩
  · have hE0 := HNl.out _ rfl
    obtain ⟨f0, f1, f2, f3, f4, f5, f6, f7, f8⟩ := ev_row hE0
    by_cases hal : al = 0
    · have hab : adb = false := by cases adb with
        | false => rfl
        | true => exact absurd hal (HSm.out rfl)
      subst hal hab
      have HF : Hid (ans = false) := by show ans = false; rw [HEv.out]; simp []
      go_enter Tryz.func16, Tryz.ntmps16
      go_wp2
      go_ret
      exact ⟨ret_bool HF.out.symm, HA1.out _⟩
    have hal' : (0 : Int) < (al : Int) := by omega
    cases adb with
    | false =>
      have HF : Hid (ans = false) := by show ans = false; rw [HEv.out]; simp []
      go_enter Tryz.func16, Tryz.ntmps16
      go_wp2_with fail
      refine (HAd.out _ (HA1.out _)).mono ?_
      rintro e w1 ⟨rfl, rfl⟩
      go_wp2
      go_ret
      exact ⟨ret_bool HF.out.symm, HA1.out _⟩
    | true =>
    by_cases hj : jj = 0
    rotate_left
    · have hj' : (jj != 0) = true := by simpa using hj
      have HF : Hid (ans = false) := by show ans = false; rw [HEv.out]; simp [hj]
      go_enter Tryz.func16, Tryz.ntmps16
      go_wp2_with fail
      refine (HAd.out _ (HA1.out _)).mono ?_
      rintro e w1 ⟨rfl, rfl⟩
      go_wp2
      go_ret
      exact ⟨ret_bool HF.out.symm, HA1.out _⟩
    subst hj
    have HE2 : Hid (ans = (ok && (zr && decide (dl = 0)))) := by show _ = _; rw [HEv.out]; simp
    clear HEv HSm HNl
    go_enter Tryz.func16, Tryz.ntmps16
    go_wp2_with fail
    refine (HAd.out _ (HA1.out _)).mono ?_
    rintro e w1 ⟨rfl, rfl⟩
    go_wp2_with fail
    refine (HOk.out _ (HA1.out _)).mono ?_
    rintro e w2 ⟨rfl, b2⟩
    have hE2 := (b2.block _ (by simp)).trans hE0
    clear f0 f1 f2 f3 f4 f5 f6 f7 f8
    obtain ⟨f0, f1, f2, f3, f4, f5, f6, f7, f8⟩ := ev_row hE2
    have B2 := hide' (Below.on (HA1.out _) b2)
    have hs2 : w.heap.size < w2.heap.size := by have := b2.size; simp at this; omega
    clear b2 hE0
    cases ok with
    | false =>
      have HF : Hid (ans = false) := HE2.out
      go_wp2
      go_ret
      exact ⟨ret_bool HF.out.symm, B2.out⟩
    | true =>
      have HZ2 := hide' (HZr.out rfl _ B2.out)
      go_wp2_with fail
      refine HZ2.out.mono ?_
      rintro e w3 ⟨rfl, b3⟩
      have hE3 := (b3.block _ hs2).trans hE2
      clear f0 f1 f2 f3 f4 f5 f6 f7 f8
      obtain ⟨f0, f1, f2, f3, f4, f5, f6, f7, f8⟩ := ev_row hE3
      have B3 := hide' (Below.on B2.out b3)
      clear b3 hE2 hE3 HZ2
      cases zr with
      | false =>
        have HF : Hid (ans = false) := HE2.out
        go_wp2
        go_ret
        exact ⟨ret_bool HF.out.symm, B3.out⟩
      | true =>
        by_cases hdl : dl = 0
        · subst hdl
          have HF : Hid (ans = true) := by show _ = _; rw [HE2.out]; rfl
          go_wp2
          go_ret
          exact ⟨ret_bool HF.out.symm, B3.out⟩
        · have hdl' : ((dl : Int) == 0) = false := by simp; omega
          have hdl2 : ¬ (dl : Int) = 0 := by omega
          have HF : Hid (ans = false) := by show _ = _; rw [HE2.out, decide_eq_false hdl]; rfl
          go_wp2
          go_ret
          exact ⟨ret_bool HF.out.symm, B3.out⟩
  · have hE0 := HNl.out _ rfl
    obtain ⟨f0, f1, f2, f3, f4, f5, f6, f7, f8⟩ := ev_row hE0
    by_cases hal : al = 0
    · have hab : adb = false := by cases adb with
        | false => rfl
        | true => exact absurd hal (HSm.out rfl)
      subst hal hab
      have HF : Hid (ans = false) := by show ans = false; rw [HEv.out]; simp []
      go_enter Tryz.func16, Tryz.ntmps16
      go_wp2
      go_ret
      exact ⟨ret_bool HF.out.symm, HA1.out _⟩
    have hal' : (0 : Int) < (al : Int) := by omega
    cases adb with
    | false =>
      have HF : Hid (ans = false) := by show ans = false; rw [HEv.out]; simp []
      go_enter Tryz.func16, Tryz.ntmps16
      go_wp2_with fail
      refine (HAd.out _ (HA1.out _)).mono ?_
      rintro e w1 ⟨rfl, rfl⟩
      go_wp2
      go_ret
      exact ⟨ret_bool HF.out.symm, HA1.out _⟩
    | true =>
    by_cases hj : jj = 0
    rotate_left
    · have hj' : (jj != 0) = true := by simpa using hj
      have HF : Hid (ans = false) := by show ans = false; rw [HEv.out]; simp [hj]
      go_enter Tryz.func16, Tryz.ntmps16
      go_wp2_with fail
      refine (HAd.out _ (HA1.out _)).mono ?_
      rintro e w1 ⟨rfl, rfl⟩
      go_wp2
      go_ret
      exact ⟨ret_bool HF.out.symm, HA1.out _⟩
    subst hj
    have HE2 : Hid (ans = (ok && (zr && decide (dl = 0)))) := by show _ = _; rw [HEv.out]; simp
    clear HEv HSm HNl
    go_enter Tryz.func16, Tryz.ntmps16
    go_wp2_with fail
    refine (HAd.out _ (HA1.out _)).mono ?_
    rintro e w1 ⟨rfl, rfl⟩
    go_wp2_with fail
    refine (HOk.out _ (HA1.out _)).mono ?_
    rintro e w2 ⟨rfl, b2⟩
    have hE2 := (b2.block _ (by simp)).trans hE0
    clear f0 f1 f2 f3 f4 f5 f6 f7 f8
    obtain ⟨f0, f1, f2, f3, f4, f5, f6, f7, f8⟩ := ev_row hE2
    have B2 := hide' (Below.on (HA1.out _) b2)
    have hs2 : w.heap.size < w2.heap.size := by have := b2.size; simp at this; omega
    clear b2 hE0
    cases ok with
    | false =>
      have HF : Hid (ans = false) := HE2.out
      go_wp2
      go_ret
      exact ⟨ret_bool HF.out.symm, B2.out⟩
    | true =>
      have HZ2 := hide' (HZr.out rfl _ B2.out)
      go_wp2_with fail
      refine HZ2.out.mono ?_
      rintro e w3 ⟨rfl, b3⟩
      have hE3 := (b3.block _ hs2).trans hE2
      clear f0 f1 f2 f3 f4 f5 f6 f7 f8
      obtain ⟨f0, f1, f2, f3, f4, f5, f6, f7, f8⟩ := ev_row hE3
      have B3 := hide' (Below.on B2.out b3)
      clear b3 hE2 hE3 HZ2
      cases zr with
      | false =>
        have HF : Hid (ans = false) := HE2.out
        go_wp2
        go_ret
        exact ⟨ret_bool HF.out.symm, B3.out⟩
      | true =>
        by_cases hdl : dl = 0
        · subst hdl
          have HF : Hid (ans = true) := by show _ = _; rw [HE2.out]; rfl
          go_wp2
          go_ret
          exact ⟨ret_bool HF.out.symm, B3.out⟩
        · have hdl' : ((dl : Int) == 0) = false := by simp; omega
          have hdl2 : ¬ (dl : Int) = 0 := by omega
          have HF : Hid (ans = false) := by show _ = _; rw [HE2.out, decide_eq_false hdl]; rfl
          go_wp2
          go_ret
          exact ⟨ret_bool HF.out.symm, B3.out⟩
  · have hE0 := HNl.out _ rfl
    obtain ⟨f0, f1, f2, f3, f4, f5, f6, f7, f8⟩ := ev_row hE0
    by_cases hal : al = 0
    rotate_left
    · have hal' : (0 : Int) < (al : Int) := by omega
      have HF : Hid (ans = false) := by show ans = false; rw [HEv.out]; simp [hal]
      go_enter Tryz.func16, Tryz.ntmps16
      go_wp2
      go_ret
      exact ⟨ret_bool HF.out.symm, HA1.out _⟩
    subst hal
    by_cases hj : jj = 0
    rotate_left
    · have hj' : (jj != 0) = true := by simpa using hj
      have HF : Hid (ans = false) := by show ans = false; rw [HEv.out]; simp [hj]
      go_enter Tryz.func16, Tryz.ntmps16
      go_wp2
      go_ret
      exact ⟨ret_bool HF.out.symm, HA1.out _⟩
    subst hj
    have HE2 : Hid (ans = (ok && (zr && decide (dl = 0)))) := by show _ = _; rw [HEv.out]; simp
    clear HEv HSm HNl
    go_enter Tryz.func16, Tryz.ntmps16
    go_wp2_with fail
    refine (HOk.out _ (HA1.out _)).mono ?_
    rintro e w2 ⟨rfl, b2⟩
    have hE2 := (b2.block _ (by simp)).trans hE0
    clear f0 f1 f2 f3 f4 f5 f6 f7 f8
    obtain ⟨f0, f1, f2, f3, f4, f5, f6, f7, f8⟩ := ev_row hE2
    have B2 := hide' (Below.on (HA1.out _) b2)
    have hs2 : w.heap.size < w2.heap.size := by have := b2.size; simp at this; omega
    clear b2 hE0
    cases ok with
    | false =>
      have HF : Hid (ans = false) := HE2.out
      go_wp2
      go_ret
      exact ⟨ret_bool HF.out.symm, B2.out⟩
    | true =>
      have HZ2 := hide' (HZr.out rfl _ B2.out)
      go_wp2_with fail
      refine HZ2.out.mono ?_
      rintro e w3 ⟨rfl, b3⟩
      have hE3 := (b3.block _ hs2).trans hE2
      clear f0 f1 f2 f3 f4 f5 f6 f7 f8
      obtain ⟨f0, f1, f2, f3, f4, f5, f6, f7, f8⟩ := ev_row hE3
      have B3 := hide' (Below.on B2.out b3)
      clear b3 hE2 hE3 HZ2
      cases zr with
      | false =>
        have HF : Hid (ans = false) := HE2.out
        go_wp2
        go_ret
        exact ⟨ret_bool HF.out.symm, B3.out⟩
      | true =>
        by_cases hdl : dl = 0
        · subst hdl
          have HF : Hid (ans = true) := by show _ = _; rw [HE2.out]; rfl
          go_wp2
          go_ret
          exact ⟨ret_bool HF.out.symm, B3.out⟩
        · have hdl' : ((dl : Int) == 0) = false := by simp; omega
          have hdl2 : ¬ (dl : Int) = 0 := by omega
          have HF : Hid (ans = false) := by show _ = _; rw [HE2.out, decide_eq_false hdl]; rfl
          go_wp2
          go_ret
          exact ⟨ret_bool HF.out.symm, B3.out⟩
  · have hE0 := HNl.out _ rfl
    obtain ⟨f0, f1, f2, f3, f4, f5, f6, f7, f8⟩ := ev_row hE0
    by_cases hal : al = 0
    rotate_left
    · have hal' : (0 : Int) < (al : Int) := by omega
      have HF : Hid (ans = false) := by show ans = false; rw [HEv.out]; simp [hal]
      go_enter Tryz.func16, Tryz.ntmps16
      go_wp2
      go_ret
      exact ⟨ret_bool HF.out.symm, HA1.out _⟩
    subst hal
    by_cases hj : jj = 0
    rotate_left
    · have hj' : (jj != 0) = true := by simpa using hj
      have HF : Hid (ans = false) := by show ans = false; rw [HEv.out]; simp [hj]
      go_enter Tryz.func16, Tryz.ntmps16
      go_wp2
      go_ret
      exact ⟨ret_bool HF.out.symm, HA1.out _⟩
    subst hj
    have HE2 : Hid (ans = (ok && (zr && decide (dl = 0)))) := by show _ = _; rw [HEv.out]; simp
    clear HEv HSm HNl
    go_enter Tryz.func16, Tryz.ntmps16
    go_wp2_with fail
    refine (HOk.out _ (HA1.out _)).mono ?_
    rintro e w2 ⟨rfl, b2⟩
    have hE2 := (b2.block _ (by simp)).trans hE0
    clear f0 f1 f2 f3 f4 f5 f6 f7 f8
    obtain ⟨f0, f1, f2, f3, f4, f5, f6, f7, f8⟩ := ev_row hE2
    have B2 := hide' (Below.on (HA1.out _) b2)
    have hs2 : w.heap.size < w2.heap.size := by have := b2.size; simp at this; omega
    clear b2 hE0
    cases ok with
    | false =>
      have HF : Hid (ans = false) := HE2.out
      go_wp2
      go_ret
      exact ⟨ret_bool HF.out.symm, B2.out⟩
    | true =>
      have HZ2 := hide' (HZr.out rfl _ B2.out)
      go_wp2_with fail
      refine HZ2.out.mono ?_
      rintro e w3 ⟨rfl, b3⟩
      have hE3 := (b3.block _ hs2).trans hE2
      clear f0 f1 f2 f3 f4 f5 f6 f7 f8
      obtain ⟨f0, f1, f2, f3, f4, f5, f6, f7, f8⟩ := ev_row hE3
      have B3 := hide' (Below.on B2.out b3)
      clear b3 hE2 hE3 HZ2
      cases zr with
      | false =>
        have HF : Hid (ans = false) := HE2.out
        go_wp2
        go_ret
        exact ⟨ret_bool HF.out.symm, B3.out⟩
      | true =>
        by_cases hdl : dl = 0
        · subst hdl
          have HF : Hid (ans = true) := by show _ = _; rw [HE2.out]; rfl
          go_wp2
          go_ret
          exact ⟨ret_bool HF.out.symm, B3.out⟩
        · have hdl' : ((dl : Int) == 0) = false := by simp; omega
          have hdl2 : ¬ (dl : Int) = 0 := by omega
          have HF : Hid (ans = false) := by show _ = _; rw [HE2.out, decide_eq_false hdl]; rfl
          go_wp2
          go_ret
          exact ⟨ret_bool HF.out.symm, B3.out⟩
end Go.Proofs.YtfojpencmkmdfaaGreatDoor
