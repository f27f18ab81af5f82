/-
  Texts that a law leans on, one behind the other; no statement is proved here.
-/
import Derived.Test.YtmkdeljdenhgcaaDoorPk2
import Derived.Deep.RegionHeld3
import Derived.Deep.RegionLaw
import Derived.Deep.RegionWith
import Derived.Test.YtmkdeljdenhgcaaDoorPk0
/-
  PathText of the program and of the specification: what a path is as a text.
-/
namespace Go.Proofs.YtmkdeljdenhgcaaDoor
open Go.RowKit
set_option linter.unusedVariables false
set_option linter.unusedSimpArgs false

/-- A step as a text. -/
def stpT (s : Stp) : List Int := if s.1 = 0 then [46] ++ s.2.1 else [91] ++ decI s.2.2.toNat ++ [93]
/-- A path as a text. -/
def pathT (l : List Stp) : List Int := if pathB l = true then (l.map stpT).flatten else []

theorem name_len {xs : List Int} (h : nameB xs = true) : xs.length ≤ 8 := by
  simp only [nameB, Bool.and_eq_true, decide_eq_true_eq] at h
  exact h.1.2

theorem stpT_len {s : Stp} (h : stpB s = true) : (stpT s).length ≤ 9 := by
  obtain ⟨k, ss, i⟩ := s
  unfold stpT
  by_cases h0 : k = 0
  · subst h0
    rw [stpB_key] at h
    simp only [Bool.and_eq_true] at h
    have := name_len h.1
    simp
    omega
  · by_cases h1 : k = 1
    · subst h1
      rw [stpB_item] at h
      simp only [Bool.and_eq_true, decide_eq_true_eq] at h
      have := decI_two (u := i.toNat) (by omega)
      simp
      omega
    · rw [stpB_none k ss i h0 h1] at h
      simp at h

/-- A box of another type is not the row. -/
theorem bts_ne {w : World} {B : Nat} {v : Value} {xs : List Int} {g : Nat} {cs : Array Value} {T : TypeId} {fr : Nat × Nat} (h : Bts w B v xs) (hb : w.heap[g]? = some (.cells cs T fr)) (hT : T ≠ 5) : some g ≠ v.ownBlock := by
  intro e
  rcases h.2.2 with ⟨rfl, _⟩ | ⟨g', cap, cur, rfl, _, hh, _⟩
  · simp [Value.ownBlock] at e
  · simp [Value.ownBlock] at e
    subst e
    rw [hh] at hb
    simp at hb
    exact hT hb.2.1.symm

set_option maxHeartbeats 1600000 in
theorem appendStep_key (N B : Nat) (v : Value) (xs ss : List Int) (i : Int) (a : Option Addr) (p : Nat) (w : World) (hk : TSeg (fun b => b < N) w (.slice a ss.length p) ss) (hB : Bts w B v xs) (hN : N ≤ B) (hBw : B ≤ w.heap.size) (hl : xs.length ≤ 1000) (hs : ss.length ≤ 8) :
    Calls Tryd.prog 18 #[v, .agg #[.int .i64 0, .slice a ss.length p, .int .i64 i]] w fun e w' => ∃ v', e = .returned v' ∧ Bts w' B v' (xs ++ ([46] ++ ss)) ∧ Below B w w' := by
  obtain ⟨a', p', e, sa, lp, mp, ka, ra⟩ := hk
  simp only [Value.slice.injEq] at e
  obtain ⟨rfl, _, rfl⟩ := e
  obtain ⟨va, vc, rfl, _⟩ := hB.shape
  have hbl : ∀ o o2 : Obj, Below w.heap.size w ((w.alloc o).alloc o2).drew := fun o o2 => (((Below.refl _ _).alloc (Nat.le_refl _) o).alloc (by simp) o2).drew
  have HBl := hide' hbl
  have HA1 : Hid (∀ o o2 : Obj, Bts ((w.alloc o).alloc o2).drew B (.slice va xs.length vc) xs) := fun o o2 => (hB.alloc o).alloc o2
  have HS1 : Hid (∀ (o : Obj) (c : Int), Byt c → Seg ((w.alloc o).alloc (.cells #[.int .u8 c] 5)).drew (some ⟨w.heap.size + 1, 0, none⟩) [c]) := fun o c hc => by
    have := seg_one (w.alloc o) c hc
    simp only [World.size_alloc] at this
    exact this
  have Hbx : Hid (∀ o o2 : Obj, ((w.alloc o).alloc o2).drew.heap[w.heap.size]? = some o) := fun o o2 => (two_boxes w o o2).1
  have Hsa : Hid (∀ wx, Below B w wx → Seg wx a ss) := fun wx hb => sa.below hb fun x hx hne => by have := ra x hx hne; omega
  have hown := hB.own
  have HOwn := hide' hown
  generalize hn : ss.length = n at *
  have Hn : Hid (n = ss.length) := hn.symm
  generalize hx : xs.length = m at *
  have Hx : Hid (m = xs.length) := hx.symm
  have hlt0 : ∀ k, (Value.slice va m vc).ownBlock = some k → k < w.heap.size := fun k hk => (hB.2.lt k hk).2
  have HLt := hide' hlt0
  clear hn hx hbl sa hown hB hlt0 ra
  go_enter Tryd.func18, Tryd.ntmps18
  go_wp2
  go_region_held3 (fun wx => wx.cell? ⟨w.heap.size, 1, none⟩ = some (.slice a n p)) (go_keep) (first
    | (refine step_append_seg (by rfl) (.tmp 8) (.tmp 9) (by rfl) B (.slice va m vc) xs [46] (by rfl) (by exact HA1.out _ _) (some ⟨w.heap.size + 1, 0, none⟩) 1 1 rfl (by rfl) (by exact HS1.out _ 46 (by simp [Byt])) (by simp) (by have := Hx.out; simp; omega) (by simp; omega) ?_; intro v1 w1 hv1 hg1; have hb1 := hide' (((HBl.out _ _).mono hBw).grown hg1 (by simp; omega) HOwn.out); have hx1 := (hg1.block w.heap.size (by simp; omega) (fun e => by have := HLt.out _ e.symm; omega)).trans (Hbx.out _ _); obtain ⟨_, r1, _, _⟩ := row3 hx1; have hs1 := hide' (Hsa.out _ hb1.out); have hz1 := hb1.out.size; replace hv1 := hide' hv1; replace hx1 := hide' hx1; clear hg1)
    | (refine step_append_seg (by rfl) (.tmp 10) (.tmp 12) (by rfl) B v1 (xs ++ [46]) ss (by rfl) (by exact hv1.out) a n p Hn.out (by rfl) (by exact hs1.out) ka (by have := Hx.out; have := Hn.out; simp; omega) (by omega) ?_; intro v2 w2 hv2 hg2; have hb2 := hide' (hb1.out.grown hg2 (by omega) hv1.out.own); obtain ⟨_, r2, _, _⟩ := row3 ((hg2.block w.heap.size (Array.getElem?_eq_some_iff.1 hx1.out).1 (bts_ne hv1.out hx1.out (by decide))).trans hx1.out); replace hv2 := hide' hv2; clear hg2))
  go_wp2
  go_ret
  exact ⟨_, rfl, by have := hv2.out; rw [List.append_assoc] at this; exact this, hb2.out⟩

set_option maxHeartbeats 1600000 in
theorem appendStep_item (B u : Nat) (v c1 : Value) (xs : List Int) (w : World) (hc1 : ∃ a n p, c1 = .slice a n p) (hB : Bts w B v xs) (hBw : B ≤ w.heap.size) (hl : xs.length ≤ 1000) (hu : u < 40) :
    Calls Tryd.prog 18 #[v, .agg #[.int .i64 1, c1, .int .i64 u]] w fun e w' => ∃ v', e = .returned v' ∧ Bts w' B v' (xs ++ ([91] ++ decI u ++ [93])) ∧ Below B w w' := by
  obtain ⟨ca, cn, cp, rfl⟩ := hc1
  obtain ⟨va, vc, rfl, _⟩ := hB.shape
  have hbl : ∀ o o2 : Obj, Below w.heap.size w ((w.alloc o).alloc o2).drew := fun o o2 => (((Below.refl _ _).alloc (Nat.le_refl _) o).alloc (by simp) o2).drew
  have HBl := hide' hbl
  have HA1 : Hid (∀ o o2 : Obj, Bts ((w.alloc o).alloc o2).drew B (.slice va xs.length vc) xs) := fun o o2 => (hB.alloc o).alloc o2
  have HS1 : Hid (∀ (o : Obj) (c : Int), Byt c → Seg ((w.alloc o).alloc (.cells #[.int .u8 c] 5)).drew (some ⟨w.heap.size + 1, 0, none⟩) [c]) := fun o c hc => by
    have := seg_one (w.alloc o) c hc
    simp only [World.size_alloc] at this
    exact this
  have Hbx : Hid (∀ o o2 : Obj, ((w.alloc o).alloc o2).drew.heap[w.heap.size]? = some o) := fun o o2 => (two_boxes w o o2).1
  have hown := hB.own
  have HOwn := hide' hown
  have HI : Hid (∀ (v : Value) (w1 : World), Bts w1 B v (xs ++ [91]) → B ≤ w1.heap.size → Calls Tryd.prog 25 #[v, .int .i64 u, .int .i64 10] w1 fun e w' => ∃ v', e = .returned v' ∧ Bts w' B v' (xs ++ [91] ++ decI u) ∧ Below B w1 w' ∧ Lib.OthersKept 5 none w1 w') := fun v w1 hv hz => AppendInt_kept B u v (xs ++ [91]) w1 (by omega) hv hz (by simp; omega)
  have hd2 := decI_two (u := u) (by omega)
  generalize hx : xs.length = m at *
  have Hx : Hid (m = xs.length) := hx.symm
  have hlt0 : ∀ k, (Value.slice va m vc).ownBlock = some k → k < w.heap.size := fun k hk => (hB.2.lt k hk).2
  have HLt := hide' hlt0
  clear hx hbl hown hB hlt0
  go_enter Tryd.func18, Tryd.ntmps18
  go_wp2
  go_region_held3 (fun wx => wx.cell? ⟨w.heap.size, 2, none⟩ = some (.int .i64 u)) (go_keep) (first
    | (refine step_append_seg (by rfl) (.tmp 14) (.tmp 15) (by rfl) B (.slice va m vc) xs [91] (by rfl) (by exact HA1.out _ _) (some ⟨w.heap.size + 1, 0, none⟩) 1 1 rfl (by rfl) (by exact HS1.out _ 91 (by simp [Byt])) (by simp) (by have := Hx.out; simp; omega) (by simp; omega) ?_; intro v1 w1 hv1 hg1; have hb1 := hide' (((HBl.out _ _).mono hBw).grown hg1 (by simp; omega) HOwn.out); have hx1 := (hg1.block w.heap.size (by simp; omega) (fun e => by have := HLt.out _ e.symm; omega)).trans (Hbx.out _ _); obtain ⟨_, _, r1, _⟩ := row3 hx1; have hz1 := hb1.out.size; replace hv1 := hide' hv1; replace hx1 := hide' hx1; clear hg1)
    | (go_at_call 25; refine (HI.out _ _ hv1.out (by omega)).mono ?_; rintro e w2 ⟨v2, rfl, hv2, b2, k2⟩; have hb2 := hide' (hb1.out.trans b2); obtain ⟨_, _, r2, _⟩ := row3 (k2 w.heap.size _ hx1.out (by simp) (by simp)); have hz2 := hb2.out.size; replace hv2 := hide' hv2; clear b2 k2))
  have hA2 := hv2.out.alloc (.cells #[.int .u8 93] 5)
  have hS2 := seg_one w2 93 (by simp [Byt])
  have hB2a := hb2.out.alloc (by omega) (.cells #[.int .u8 93] 5)
  go_wp2_with (at_builtin; refine wpList_append_seg rfl (.tmp 20) (.tmp 21) (by rfl) B v2 (xs ++ [91] ++ decI u) [93] (by rfl) hA2 _ 1 1 rfl (by rfl) hS2 (by simp) (by have := Hx.out; simp; omega) (by simp; omega) ?_; intro v3 w3 hv3 hg3; have hB3 := hide' (hB2a.grown hg3 (by simp; omega) hA2.own); replace hv3 := hide' hv3; clear hg3 hA2 hS2 hB2a)
  go_ret
  exact ⟨_, rfl, by have := hv3.out; simpa [List.append_assoc] using this, hB3.out⟩

theorem appendStep_any (N B : Nat) (v : Value) (xs : List Int) (c0 c1 c2 : Value) (s : Stp) (w : World) (hs : StSeg (fun b => b < N) w (c0, c1, c2) s) (hok : stpB s = true) (hB : Bts w B v xs) (hN : N ≤ B) (hBw : B ≤ w.heap.size) (hl : xs.length ≤ 1000) :
    Calls Tryd.prog 18 #[v, .agg #[c0, c1, c2]] w fun e w' => ∃ v', e = .returned v' ∧ Bts w' B v' (xs ++ stpT s) ∧ Below B w w' := by
  obtain ⟨k, ss, i⟩ := s
  obtain ⟨e0, ht, e2⟩ := hs
  simp only at e0 ht e2
  subst e0
  subst e2
  by_cases h0 : k = 0
  · subst h0
    rw [stpB_key] at hok
    simp only [Bool.and_eq_true] at hok
    have ht' := ht
    obtain ⟨a, p, rfl, _⟩ := ht
    exact appendStep_key N B v xs ss i a p w ht' hB hN hBw hl (name_len hok.1)
  · by_cases h1 : k = 1
    · subst h1
      rw [stpB_item] at hok
      simp only [Bool.and_eq_true, decide_eq_true_eq] at hok
      obtain ⟨u, rfl⟩ : ∃ u : Nat, i = u := ⟨i.toNat, by omega⟩
      obtain ⟨a, p, rfl, _⟩ := ht
      exact appendStep_item B u v _ xs w ⟨_, _, _, rfl⟩ hB hBw hl (by omega)
    · rw [stpB_none k ss i h0 h1] at hok
      simp at hok

/-- The text of the first k steps. -/
def preT (l : List Stp) (k : Nat) : List Int := ((l.take k).map stpT).flatten
theorem preT_zero (l : List Stp) : preT l 0 = [] := by simp [preT]
theorem preT_succ (l : List Stp) (k : Nat) (h : k < l.length) : preT l (k + 1) = preT l k ++ stpT l[k] := by
  unfold preT
  rw [List.take_succ_eq_append_getElem h, List.map_append, List.flatten_append]
  simp
theorem preT_all (l : List Stp) : preT l l.length = (l.map stpT).flatten := by simp [preT]
theorem preT_len {l : List Stp} (h : l.all stpB = true) : ∀ k, k ≤ l.length → (preT l k).length ≤ 9 * k
  | 0, _ => by simp [preT]
  | k + 1, hk => by
    have := preT_len h k (by omega)
    rw [preT_succ l k (by omega), List.length_append]
    have := stpT_len (List.all_eq_true.1 h l[k] (List.getElem_mem (by omega)))
    omega

theorem path_parts {l : List Stp} (h : pathB l = true) : l.length ≤ 6 ∧ l.all stpB = true := by
  simpa [pathB] using h
theorem pathT_len (l : List Stp) : (pathT l).length ≤ 54 := by
  unfold pathT
  split
  · next h =>
    obtain ⟨h1, h2⟩ := path_parts h
    have := preT_len h2 l.length (Nat.le_refl _)
    rw [preT_all] at this
    omega
  · simp

/-- What PathText leaves. -/
def PtEnd (l : List Stp) (w : World) (e : Ending) (w' : World) : Prop := ∃ v, e = .returned v ∧ Bts w' w.heap.size v (pathT l) ∧ Below w.heap.size w w'

set_option maxHeartbeats 1600000 in
theorem impl_PathText_any (N : Nat) (x : Value) (l : List Stp) (w : World) (hx : PthSeg (fun b => b < N) w x l) (hN : N ≤ w.heap.size) :
    Calls Tryd.prog 7 #[x] w (PtEnd l w) := by
  have HP := hide' (impl_PathOk_any N x l w hx hN)
  have HX := hide' hx
  obtain ⟨a, p, rfl, hlp, hpm, _, _⟩ := hx
  unfold maxLen at hpm
  by_cases hok : pathB l = true
  · obtain ⟨h6, hall⟩ := path_parts hok
    have hT : Hid (pathT l = preT l l.length) := by show pathT l = _; rw [preT_all]; exact if_pos hok
    have HLn : Hid (∀ k, k ≤ l.length → (preT l k).length ≤ 54) := fun k hk => by have := preT_len hall k hk; omega
    have HSt : Hid (∀ k (h : k < l.length), preT l (k + 1) = preT l k ++ stpT l[k]) := preT_succ l
    have Hall : Hid (∀ k (h : k < l.length), stpB l[k] = true) := fun k h => List.all_eq_true.1 hall l[k] (List.getElem_mem h)
    rw [hok] at HP
    clear hok hall
    go_enter Tryd.func7, Tryd.ntmps7
    go_wp2_with fail
    refine HP.out.mono ?_
    rintro e w1 ⟨rfl, b1⟩
    have H0 : Hid (Bts w1 w.heap.size (.slice none 0 0) (preT l 0) ∧ Below w.heap.size w w1) := ⟨by rw [preT_zero]; exact bts_nil _ _, b1⟩
    clear b1 HP
    go_wp2
    go_loopw [3, 11] (fun y i wr => ∃ k : Nat, k ≤ l.length ∧ i = .int .i64 k ∧ Bts wr w.heap.size y (preT l k) ∧ Below w.heap.size w wr) (fun _ i _ => l.length - (intOf i).toNat)
    case atStart => exact ⟨0, Nat.zero_le _, rfl, H0.out.1, H0.out.2⟩
    case round =>
      clear H0
      obtain ⟨k, hk, rfl, hR, hbel⟩ := hrel
      have hz := hbel.size
      by_cases hlt : k < l.length
      · have hlt' : (k : Int) < (l.length : Int) := by omega
        have hXr : PthSeg (fun b => b < N) wr (.slice a l.length p) l := HX.out.agree (agree_below (hbel.mono hN))
        obtain ⟨b, off, c0, c1, c2, rfl, hbN, ⟨q0, q1, q2⟩, hs⟩ := hXr.at hlt
        simp only at q0 q1 q2
        have hlk := HLn.out k (by omega)
        have hal : Below wr.heap.size wr (wr.alloc (.cells #[c0, c1, c2] 37)) := (Below.refl _ _).alloc (Nat.le_refl _) _
        have HC := hide' (appendStep_any N w.heap.size u3 (preT l k) c0 c1 c2 l[k] (wr.alloc (.cells #[c0, c1, c2] 37)) (hs.agree (agree_below (hal.mono (by omega)))) (Hall.out k hlt) (hR.alloc _) hN (by simp; omega) (by omega))
        rw [← HSt.out k hlt] at HC
        have hBal := hide' (hbel.alloc hz (.cells #[c0, c1, c2] 37))
        have hform : ∃ (k0 i0 : Int) (a0 : Option Addr) (n0 p0 : Nat), c0 = .int .i64 k0 ∧ c1 = .slice a0 n0 p0 ∧ c2 = .int .i64 i0 := by
          obtain ⟨e0, ⟨a0, p0, e1, _⟩, e2⟩ := hs
          exact ⟨_, _, _, _, _, e0, e1, e2⟩
        obtain ⟨k0, i0, a0, n0, p0, rfl, rfl, rfl⟩ := hform
        obtain ⟨ya, yc, hys, _⟩ := hR.shape
        generalize (preT l k).length = pl at *
        subst hys
        clear hs hXr hR hal hbel
        go_wp2_with fail
        refine HC.out.mono ?_
        rintro e w2 ⟨v2, rfl, hv2, b2⟩
        have B2 := hide' (hBal.out.trans b2)
        obtain ⟨va, vc, hvs, _⟩ := hv2.shape
        replace hv2 := hide' hv2
        generalize (preT l (k + 1)).length = pl2 at *
        subst hvs
        clear b2 q0 q1 q2 HC
        go_wp2
        go_roundw
        case rel => exact ⟨k + 1, by omega, by go_num, hv2.out, B2.out⟩
        case measure => simp [intOf]; omega
      · have hkn : k = l.length := by omega
        have hlt' : ¬ (k : Int) < (l.length : Int) := by omega
        have HF : Hid (Bts wr w.heap.size u3 (pathT l)) := by rw [hT.out, ← hkn]; exact hR
        obtain ⟨ya, yc, hys, _⟩ := hR.shape
        generalize (preT l k).length = pl at *
        subst hys
        clear hkn hR
        go_wp2
        go_ret
        exact ⟨_, rfl, HF.out, hbel⟩
  · have hno : pathB l = false := by simpa using hok
    have hT : Hid (pathT l = []) := if_neg hok
    rw [hno] at HP
    clear hno hok
    go_enter Tryd.func7, Tryd.ntmps7
    go_wp2_with fail
    refine HP.out.mono ?_
    rintro e w1 ⟨rfl, b1⟩
    go_wp2
    go_ret
    exact ⟨_, rfl, by rw [hT.out]; exact bts_nil _ _, b1⟩
end Go.Proofs.YtmkdeljdenhgcaaDoor
/-
  A slice of one byte that is made as a step of a region that draws its order, and what keeps it.
-/
namespace Go.Proofs.YtmkdeljdenhgcaaDoor
open Go.RowKit
set_option linter.unusedVariables false
set_option linter.unusedSimpArgs false

/-- A block of one byte. -/
def Lit (w : World) (g : Nat) (c : Int) : Prop := w.heap[g]? = some (.cells #[.int .u8 c] 5 (0, 0))

theorem Lit.lt {w : World} {g : Nat} {c : Int} (h : Lit w g c) : g < w.heap.size := (Array.getElem?_eq_some_iff.1 h).1
theorem Lit.kept {w w' : World} {g : Nat} {c : Int} {r : Option Nat} (h : Lit w g c) (hg : w.grownBy w' r) (hr : some g ≠ r) : Lit w' g c := (hg.block g h.lt hr).trans h
theorem Lit.grow {w w' : World} {g : Nat} {c : Int} (h : Lit w g c) (hb : Below w.heap.size w w') : Lit w' g c := (hb.block g h.lt).trans h
theorem Lit.seg {w : World} {g : Nat} {c : Int} (h : Lit w g c) (hc : Byt c) : Seg w (some ⟨g, 0, none⟩) [c] := by
  refine ⟨by simpa using hc, .inr ⟨g, 0, rfl, fun i hi => ?_⟩⟩
  obtain rfl : i = 0 := by simp at hi; omega
  rw [cell_of_row w g _ _ _ _ h]
  rfl

theorem Lit.ne {w : World} {B g : Nat} {c x : Int} {v : Value} {xs : List Int} (h : Lit w g c) (hB : Bts w B v (xs ++ [x])) (hx : x ≠ c) : some g ≠ v.ownBlock := by
  intro e
  have hlen : 0 < (xs ++ [x]).length := by simp
  rcases hB.2.2 with ⟨rfl, h0⟩ | ⟨g', cap, cur, rfl, _, hh, h4, _, h5, h6⟩
  · simp [Value.ownBlock] at e
  · simp [Value.ownBlock] at e
    subst e
    have hc : cur = #[.int .u8 c] := by
      have := h.symm.trans hh
      simp at this
      exact this.symm
    subst hc
    have hl1 : (xs ++ [x]).length = 1 := by
      have h5' : 1 = cap := by simpa using h5
      omega
    have hx0 : xs = [] := by simpa using hl1
    subst hx0
    simp [cellsOf] at h6
    exact hx h6.symm

/-- A new block of one byte, not ahead of lo. -/
def LitA (lo : Nat) (w : World) (g : Nat) (c : Int) : Prop := Lit w g c ∧ lo ≤ g
theorem lit_new {lo q : Nat} {w : World} {c : Int} (hq : w.heap.size = q) (hl : lo ≤ q) : LitA lo (w.alloc (.cells #[.int .u8 c] 5)) q c := by
  subst hq
  exact ⟨(MapKept.heap_alloc w _).1, hl⟩
theorem LitA.alloc {lo g : Nat} {w : World} {c : Int} (h : LitA lo w g c) (o : Obj) : LitA lo (w.alloc o) g c := ⟨h.1.kept (World.grownBy_alloc w o none) (by simp), h.2⟩
theorem LitA.drew {lo g : Nat} {w : World} {c : Int} (h : LitA lo w g c) : LitA lo w.drew g c := h
theorem LitA.seg {lo g : Nat} {w : World} {c : Int} (h : LitA lo w g c) (hc : Byt c) : Seg w (some ⟨g, 0, none⟩) [c] := h.1.seg hc
theorem LitA.kept {lo g : Nat} {w w' : World} {c : Int} {r : Option Nat} (h : LitA lo w g c) (hg : w.grownBy w' r) (hr : some g ≠ r) : LitA lo w' g c := ⟨h.1.kept hg hr, h.2⟩
theorem LitA.old {lo g : Nat} {w w' : World} {c : Int} {v : Value} (h : LitA lo w g c) (hg : w.grownBy w' v.ownBlock) (hr : ∀ k, v.ownBlock = some k → k < lo) : LitA lo w' g c := h.kept hg fun e => by have := hr g e.symm; have := h.2; omega
theorem LitA.grow {lo g : Nat} {w w' : World} {c : Int} (h : LitA lo w g c) (hb : Below w.heap.size w w') : LitA lo w' g c := ⟨h.1.grow hb, h.2⟩
theorem LitA.far {lo g B : Nat} {w w' : World} {c x : Int} {v : Value} {xs : List Int} (h : LitA lo w g c) (hB : Bts w B v (xs ++ [x])) (hx : x ≠ c) (hg : w.grownBy w' v.ownBlock) : LitA lo w' g c := h.kept hg (h.1.ne hB hx)
theorem Bts.young2 {lo : Nat} {w w' : World} {u v : Value} {xs : List Int} (h : Bts w lo u xs) (hg : w.grownBy w' v.ownBlock) (hv : ∀ k, u.ownBlock = some k → v.ownBlock = some k → False) : Bts w' lo u xs := by
  refine h.kept hg ?_
  cases hq : u.ownBlock with
  | none => exact .inl rfl
  | some q => exact .inr fun e => hv q hq e.symm
theorem Bts.young {lo : Nat} {w w' : World} {u v : Value} {xs : List Int} (h : Bts w lo u xs) (hg : w.grownBy w' v.ownBlock) (hv : ∀ k, v.ownBlock = some k → k < lo) : Bts w' lo u xs := by
  refine h.kept hg ?_
  cases hq : u.ownBlock with
  | none => exact .inl rfl
  | some q =>
    refine .inr fun e => ?_
    have h1 := (h.2.lt q hq).1
    have h2 := hv q e.symm
    omega
end Go.Proofs.YtmkdeljdenhgcaaDoor
/-
  PathText of the specification.
-/
namespace Go.Proofs.YtmkdeljdenhgcaaDoor
open Go.RowKit
set_option linter.unusedVariables false
set_option linter.unusedSimpArgs false

set_option maxHeartbeats 3200000 in
theorem spec_l3text_any (N : Nat) (x : Value) (l : List Stp) (w : World) (hx : PthSeg (fun b => b < N) w x l) (hN : N ≤ w.heap.size) (hok : pathB l = true) :
    Calls Tryd.prog 15 #[x] w (PtEnd l w) := by
  have HX := hide' hx
  obtain ⟨a, p, rfl, hlp, hpm, _, _⟩ := hx
  unfold maxLen at hpm
  obtain ⟨h6, hall⟩ := path_parts hok
  have hT : Hid (pathT l = preT l l.length) := by show pathT l = _; rw [preT_all]; exact if_pos hok
  have HLn : Hid (∀ k, k ≤ l.length → (preT l k).length ≤ 54) := fun k hk => by have := preT_len hall k hk; omega
  have HSt : Hid (∀ k (h : k < l.length), preT l (k + 1) = preT l k ++ stpT l[k]) := preT_succ l
  have Hall : Hid (∀ k (h : k < l.length), stpB l[k] = true) := fun k h => List.all_eq_true.1 hall l[k] (List.getElem_mem h)
  clear hok hall
  go_enter Tryd.func15, Tryd.ntmps15
  go_wp2
  go_loopw [3, 4] (fun y i wr => ∃ k : Nat, k ≤ l.length ∧ i = .int .i64 k ∧ Bts wr w.heap.size y (preT l k) ∧ Below w.heap.size w wr) (fun _ i _ => l.length - (intOf i).toNat)
  case atStart => exact ⟨0, Nat.zero_le _, rfl, by rw [preT_zero]; exact bts_nil _ _, Below.refl _ _⟩
  case round =>
    obtain ⟨k, hk, rfl, hR, hbel⟩ := hrel
    have hz := hbel.size
    by_cases hlt : k < l.length
    · have hlt' : (k : Int) < (l.length : Int) := by omega
      have hXr : PthSeg (fun b => b < N) wr (.slice a l.length p) l := HX.out.agree (agree_below (hbel.mono hN))
      obtain ⟨b, off, c0, c1, c2, rfl, hbN, ⟨q0, q1, q2⟩, hs⟩ := hXr.at hlt
      simp only at q0 q1 q2
      have hlk := HLn.out k (by omega)
      have hsb := Hall.out k hlt
      have hnext := HSt.out k hlt
      have hsl := stpT_len hsb
      generalize l[k] = s at *
      obtain ⟨sk, ss, si⟩ := s
      obtain ⟨e0, ht, e2⟩ := hs
      simp only at e0 ht e2
      subst e0
      subst e2
      have hbw : b < w.heap.size := by omega
      have HC1 : Hid (∀ wx, Below w.heap.size w wx → wx.cell? ⟨b, off + k * 3 + 1, none⟩ = some c1) := fun wx hb => (World.cell?_of_block ((hb.block b hbw).trans (hbel.block b hbw).symm)).trans q1
      have HC2 : Hid (∀ wx, Below w.heap.size w wx → wx.cell? ⟨b, off + k * 3 + 2, none⟩ = some (.int .i64 si)) := fun wx hb => (World.cell?_of_block ((hb.block b hbw).trans (hbel.block b hbw).symm)).trans q2
      obtain ⟨ya, yc, hys, _⟩ := hR.shape
      by_cases h0 : sk = 0
      · subst h0
        rw [stpB_key] at hsb
        simp only [Bool.and_eq_true] at hsb
        have hs8 := name_len hsb.1
        obtain ⟨a1, p1, rfl, sa, lp, mp, ka, ra⟩ := ht
        have Hsa : Hid (∀ wx, Below w.heap.size w wx → Seg wx a1 ss) := fun wx hb => by
          refine ⟨sa.1, ?_⟩
          rcases sa.2 with h | ⟨b1, o1, rfl, hc⟩
          · exact .inl h
          · by_cases he : ss = []
            · exact .inl he
            · have hb1 : b1 < N := ra _ rfl he
              exact .inr ⟨b1, o1, rfl, fun i hi => (World.cell?_of_block ((hb.block b1 (by omega)).trans (hbel.block b1 (by omega)).symm)).trans (hc i hi)⟩
        have Hnx : Hid (preT l (k + 1) = (preT l k ++ [46]) ++ ss) := by
          show preT l (k + 1) = _
          rw [hnext, List.append_assoc]
          simp [stpT]
        have hy0 : Hid (∀ o : Obj, Bts (wr.alloc o).drew w.heap.size u3 (preT l k)) := fun o => hR.alloc o
        have hb0 : Hid (∀ o : Obj, Below w.heap.size w (wr.alloc o).drew) := fun o => (hbel.alloc hz o).drew
        have h1 : Hid (Lit (wr.alloc (.cells #[.int .u8 46] 5)).drew wr.heap.size 46) := (MapKept.heap_alloc wr _).1
        have q1' := HC1.out _ (hb0.out (.cells #[.int .u8 46] 5))
        generalize hn : ss.length = n at *
        have Hn : Hid (n = ss.length) := hn.symm
        generalize hm : (preT l k).length = m at *
        have Hm : Hid (m = (preT l k).length) := hm.symm
        subst hys
        clear hn hm hXr hR hbel hnext hsl hsb ra sa
        go_wp2_with fail
        go_region_law (first
          | (refine step_append_seg (by rfl) (.tmp 17) (.tmp 18) (by rfl) w.heap.size (.slice ya m yc) (preT l k) [46] (by rfl) (by exact hy0.out _) (some ⟨wr.heap.size, 0, none⟩) 1 1 rfl (by rfl) (by exact h1.out.seg (by simp [Byt])) (by simp) (by have := Hm.out; simp; omega) (by have := (hb0.out (.cells #[.int .u8 46] 5)).size; exact this) ?_; intro v1 wB hv1 hgB; have hb1 := hide' ((hb0.out (.cells #[.int .u8 46] 5)).grown hgB (by have := (hb0.out (.cells #[.int .u8 46] 5)).size; exact this) (hy0.out (.cells #[.int .u8 46] 5)).own); replace hv1 := hide' hv1; have qB := HC1.out _ hb1.out)
          | (refine step_append_seg (by rfl) (.tmp 19) (.tmp 24) (by rfl) w.heap.size v1 (preT l k ++ [46]) ss (by rfl) (by exact hv1.out) a1 n p1 Hn.out (by rfl) (by exact Hsa.out _ hb1.out) ka (by have := Hm.out; have := Hn.out; simp; omega) (by have := hb1.out.size; exact this) ?_; intro v2 wC hv2 hgC; have hb2 := hide' (hb1.out.grown hgC (by have := hb1.out.size; exact this) hv1.out.own); replace hv2 := hide' hv2))
        all_goals
          rw [← Hnx.out] at hv2
          obtain ⟨za, zc, hzs, _⟩ := hv2.out.shape
          generalize (preT l (k + 1)).length = pl2 at *
          subst hzs
          go_wp2
          go_roundw
          case rel => exact ⟨k + 1, by omega, by go_num, hv2.out, hb2.out⟩
          case measure => simp [intOf]; omega
      · by_cases h1 : sk = 1
        · subst h1
          rw [stpB_item] at hsb
          simp only [Bool.and_eq_true, decide_eq_true_eq] at hsb
          obtain ⟨u, rfl⟩ : ∃ u : Nat, si = u := ⟨si.toNat, by omega⟩
          obtain ⟨a1, p1, rfl, _⟩ := ht
          have Hnx : Hid (preT l (k + 1) = ((preT l k ++ [91]) ++ decI u) ++ [93]) := by
            show preT l (k + 1) = _
            rw [hnext]
            simp [stpT]
          have hdl := decI_two (u := u) (by omega)
          have HD : Hid (∀ wx, Calls Tryd.prog 22 #[.int .i64 u] wx fun e w' => ∃ v, e = .returned v ∧ Bts w' wx.heap.size v (decI u) ∧ Below wx.heap.size wx w') := fun wx => l2digits_nat u (by omega) wx
          generalize hm : (preT l k).length = m at *
          have Hm : Hid (m = (preT l k).length) := hm.symm
          have hy : Hid (Bts wr w.heap.size u3 (preT l k)) := hR
          have hb : Hid (Below w.heap.size w wr) := hbel
          have HLt : Hid (∀ k, u3.ownBlock = some k → k < wr.heap.size) := fun k hk => (hR.2.lt k hk).2
          have hzc : wr.heap.size ≤ wr.heap.size := Nat.le_refl _
          subst hys
          clear hm hXr hR hbel hnext hsl hsb
          go_wp2_with fail
          go_region_held3 (fun wx => wx.cell? ⟨b, off + k * 3 + 2, none⟩ = some (.int .i64 u)) (go_keep) (first
            | (refine step_append_seg (by rfl) (.tmp 26) (.tmp 27) (by rfl) w.heap.size (.slice ya m yc) (preT l k) [91] (by rfl) (by first | exact hy.out | exact hy.out.alloc _ | exact (hy.out.alloc _).alloc _) (some ⟨_, 0, none⟩) 1 1 rfl (by rfl) (LitA.seg (lo := wr.heap.size) (by first | exact h91.out | exact h91.out.alloc _ | exact lit_new (by simp) (by omega) | exact (lit_new (by simp) (by omega)).alloc _) (by simp [Byt])) (by simp) (by have := Hm.out; simp; omega) (by first | omega | (simp <;> omega)) ?_; intro v1 w1 hv1 hg1; (try (have h93' := LitA.old (lo := wr.heap.size) (c := 93) (by first | exact h93.out | exact h93.out.alloc _ | exact lit_new rfl (by first | omega | (simp <;> omega)) | exact (lit_new rfl (by first | omega | (simp <;> omega))).alloc _ | exact LitA.drew (lit_new rfl (by first | omega | (simp <;> omega))) | exact LitA.drew ((lit_new rfl (by first | omega | (simp <;> omega))).alloc _)) hg1 HLt.out; (try simp only [World.size_alloc] at h93'); have h93 := hide' h93'; clear h93')); (try (replace hd := hide' (Bts.young (by first | exact hd.out | exact hd.out.alloc _ | exact (hd.out.alloc _).alloc _) hg1 HLt.out))); replace hb := hide' (Below.grown (by first | exact hb.out | exact hb.out.alloc (by omega) _ | exact (hb.out.alloc (by omega) _).alloc (by simp; omega) _ | exact hb.out.drew | exact (hb.out.alloc (by omega) _).drew | exact ((hb.out.alloc (by omega) _).alloc (by simp; omega) _).drew) hg1 (by first | omega | (simp <;> omega)) hy.out.own); have hz1 : wr.heap.size ≤ w1.heap.size := (by have := hg1.size; first | exact this | (simp at this; omega)); replace hv1 := hide' hv1; have hzw := hb.out.size; have q1' := HC2.out _ hb.out; clear hg1 hy)
            | (go_at_call 22; refine (HD.out _).mono ?_; rintro e wd ⟨vd, rfl, hd0, hbd⟩; (try (have h93' := LitA.grow (lo := wr.heap.size) (c := 93) (by first | exact h93.out | exact h93.out.alloc _ | exact lit_new rfl (by first | omega | (simp <;> omega)) | exact (lit_new rfl (by first | omega | (simp <;> omega))).alloc _ | exact LitA.drew (lit_new rfl (by first | omega | (simp <;> omega))) | exact LitA.drew ((lit_new rfl (by first | omega | (simp <;> omega))).alloc _)) hbd; (try simp only [World.size_alloc] at h93'); have h93 := hide' h93'; clear h93')); (try (have h91' := LitA.grow (lo := wr.heap.size) (c := 91) (by first | exact h91.out | exact h91.out.alloc _ | exact lit_new rfl (by first | omega | (simp <;> omega)) | exact (lit_new rfl (by first | omega | (simp <;> omega))).alloc _ | exact LitA.drew (lit_new rfl (by first | omega | (simp <;> omega))) | exact LitA.drew ((lit_new rfl (by first | omega | (simp <;> omega))).alloc _)) hbd; (try simp only [World.size_alloc] at h91'); have h91 := hide' h91'; clear h91')); (try (replace hy := hide' (Bts.grow (by first | exact hy.out | exact hy.out.alloc _ | exact (hy.out.alloc _).alloc _) hbd))); (try (replace hv1 := hide' (Bts.grow (by first | exact hv1.out | exact hv1.out.alloc _ | exact (hv1.out.alloc _).alloc _) hbd))); obtain ⟨da, dc, rfl, _, _, _, _, hdn⟩ := hd0.shape; have hd : Hid (Bts wd wr.heap.size (.slice da (decI u).length dc) (decI u)) := hd0.mono (by first | omega | (simp <;> omega)); replace hb := hide' (Below.on (by first | exact hb.out | exact hb.out.alloc (by omega) _ | exact (hb.out.alloc (by omega) _).alloc (by simp; omega) _ | exact hb.out.drew | exact (hb.out.alloc (by omega) _).drew | exact ((hb.out.alloc (by omega) _).alloc (by simp; omega) _).drew) hbd); have hzd : wr.heap.size ≤ wd.heap.size := (by have := hbd.size; first | omega | (simp at this; omega)); clear hd0 hbd; have hzw := hb.out.size; have qd := HC2.out _ hb.out)
            | (refine step_append_seg (by rfl) (.tmp 28) (.tmp 34) (by rfl) w.heap.size v1 (preT l k ++ [91]) (decI u) (by rfl) (by first | exact hv1.out | exact hv1.out.alloc _ | exact (hv1.out.alloc _).alloc _) da (decI u).length dc rfl (by rfl) (Bts.seg (by first | exact hd.out | exact hd.out.alloc _ | exact (hd.out.alloc _).alloc _)) hdn (by have := Hm.out; simp; omega) (by first | omega | (simp <;> omega)) ?_; intro v2 w2 hv2 hg2; (try (have h93' := LitA.far (lo := wr.heap.size) (c := 93) (B := w.heap.size) (xs := preT l k) (x := 91) (by first | exact h93.out | exact h93.out.alloc _ | exact lit_new rfl (by first | omega | (simp <;> omega)) | exact (lit_new rfl (by first | omega | (simp <;> omega))).alloc _ | exact LitA.drew (lit_new rfl (by first | omega | (simp <;> omega))) | exact LitA.drew ((lit_new rfl (by first | omega | (simp <;> omega))).alloc _)) (by first | exact hv1.out | exact hv1.out.alloc _ | exact (hv1.out.alloc _).alloc _) (by decide) hg2; (try simp only [World.size_alloc] at h93'); have h93 := hide' h93'; clear h93')); replace hb := hide' (Below.grown (by first | exact hb.out | exact hb.out.alloc (by omega) _ | exact (hb.out.alloc (by omega) _).alloc (by simp; omega) _ | exact hb.out.drew | exact (hb.out.alloc (by omega) _).drew | exact ((hb.out.alloc (by omega) _).alloc (by simp; omega) _).drew) hg2 (by first | omega | (simp <;> omega)) hv1.out.own); have hz2 : wr.heap.size ≤ w2.heap.size := (by have := hg2.size; first | omega | (simp at this; omega)); replace hv2 := hide' hv2; have hzw := hb.out.size; have q2' := HC2.out _ hb.out; clear hg2)
            | (refine step_append_seg (by rfl) (.tmp 35) (.tmp 36) (by rfl) w.heap.size v2 (preT l k ++ [91] ++ decI u) [93] (by rfl) (by first | exact hv2.out | exact hv2.out.alloc _ | exact (hv2.out.alloc _).alloc _) (some ⟨_, 0, none⟩) 1 1 rfl (by rfl) (LitA.seg (lo := wr.heap.size) (by first | exact h93.out | exact h93.out.alloc _ | exact lit_new (by simp) (by omega) | exact (lit_new (by simp) (by omega)).alloc _) (by simp [Byt])) (by simp) (by have := Hm.out; simp; omega) (by first | omega | (simp <;> omega)) ?_; intro v3 w3 hv3 hg3; replace hb := hide' (Below.grown (by first | exact hb.out | exact hb.out.alloc (by omega) _ | exact (hb.out.alloc (by omega) _).alloc (by simp; omega) _ | exact hb.out.drew | exact (hb.out.alloc (by omega) _).drew | exact ((hb.out.alloc (by omega) _).alloc (by simp; omega) _).drew) hg3 (by first | omega | (simp <;> omega)) hv2.out.own); replace hv3 := hide' hv3; have q3' := HC2.out _ hb.out; clear hg3)
            | fail)
          all_goals
            rw [← Hnx.out] at hv3
            obtain ⟨za, zc, hzs, _⟩ := hv3.out.shape
            generalize (preT l (k + 1)).length = pl2 at *
            subst hzs
            go_wp2
            go_roundw
            case rel => exact ⟨k + 1, by omega, by go_num, hv3.out, hb.out⟩
            case measure => simp [intOf]; omega
        · rw [stpB_none sk ss si h0 h1] at hsb
          simp at hsb
    · have hkn : k = l.length := by omega
      have hlt' : ¬ (k : Int) < (l.length : Int) := by omega
      have HF : Hid (Bts wr w.heap.size u3 (pathT l)) := by rw [hT.out, ← hkn]; exact hR
      obtain ⟨ya, yc, hys, _⟩ := hR.shape
      generalize (preT l k).length = pl at *
      subst hys
      clear hkn hR
      go_wp2
      go_ret
      exact ⟨_, rfl, HF.out, hbel⟩

set_option maxHeartbeats 1600000 in
theorem spec_PathText_any (N : Nat) (x : Value) (l : List Stp) (w : World) (hx : PthSeg (fun b => b < N) w x l) (hN : N ≤ w.heap.size) :
    Calls Tryd.prog 5 #[x] w (PtEnd l w) := by
  have HP := hide' (spec_PathOk_any N x l w hx hN)
  have HT : Hid (pathB l = true → ∀ w1, Below w.heap.size w w1 → Calls Tryd.prog 15 #[x] w1 (PtEnd l w1)) := fun h w1 hb => spec_l3text_any N x l w1 (hx.agree (agree_below (hb.mono hN))) (by have := hb.size; omega) h
  obtain ⟨a, p, rfl, _⟩ := hx
  by_cases hok : pathB l = true
  · rw [hok] at HP
    have HT1 := hide' (HT.out hok)
    clear hok HT
    go_enter Tryd.func5, Tryd.ntmps5
    go_wp2_with fail
    refine HP.out.mono ?_
    rintro e w1 ⟨rfl, b1⟩
    have HT2 := hide' (HT1.out w1 b1)
    have B1 := hide' b1
    clear HT1 HP b1
    go_wp2_with fail
    refine HT2.out.mono ?_
    rintro e w2 ⟨v, rfl, hv, b2⟩
    obtain ⟨va, vc, hvs, _⟩ := hv.shape
    have hv2 : Hid (Bts w2 w.heap.size v (pathT l)) := hv.mono B1.out.size
    have B2 := hide' (Below.on B1.out b2)
    generalize (pathT l).length = n at *
    subst hvs
    clear hv b2 B1
    go_wp2
    go_ret
    exact ⟨_, rfl, hv2.out, B2.out⟩
  · have hno : pathB l = false := by simpa using hok
    have hT : Hid (pathT l = []) := if_neg hok
    rw [hno] at HP
    clear hno hok HT
    go_enter Tryd.func5, Tryd.ntmps5
    go_wp2_with fail
    refine HP.out.mono ?_
    rintro e w1 ⟨rfl, b1⟩
    go_wp2
    go_ret
    exact ⟨_, rfl, by rw [hT.out]; exact bts_nil _ _, b1⟩
end Go.Proofs.YtmkdeljdenhgcaaDoor
/-
  The laws' own helpers markByteS and heldByteS: the one writes running numbers into a row that is the call's own, the other finds them there.
-/
namespace Go.Proofs.YtmkdeljdenhgcaaDoor
open Go.RowKit
set_option linter.unusedVariables false

/-- The running numbers, as bytes. -/
def marks (m n : Nat) : List Int := (List.range n).map fun i => (((m + i) % 256 : Nat) : Int)

theorem length_marks (m n : Nat) : (marks m n).length = n := by simp [marks]
theorem marks_byt (m n : Nat) : ∀ x ∈ marks m n, Byt x := by
  intro x hx
  simp only [marks, List.mem_map] at hx
  obtain ⟨i, _, rfl⟩ := hx
  unfold Byt
  omega
theorem marks_at (m n k : Nat) (h : k < n) : (marks m n).getD k 0 = (((m + k) % 256 : Nat) : Int) := by simp [marks, h]

/-- What a row holds after k of the marks. -/
def marked (xs : List Int) (m k : Nat) : List Value := cellsOf (marks m k) ++ cellsOf (xs.drop k)
theorem marked_zero (xs : List Int) (m : Nat) : marked xs m 0 = cellsOf xs := by simp [marked, marks, cellsOf]
theorem marked_all (xs : List Int) (m : Nat) : marked xs m xs.length = cellsOf (marks m xs.length) := by simp [marked, cellsOf]
theorem length_marked (xs : List Int) (m k : Nat) (h : k ≤ xs.length) : (marked xs m k).length = xs.length := by simp [marked, marks, cellsOf]; omega
theorem marked_set (xs : List Int) (m k : Nat) (h : k < xs.length) : (marked xs m k).set k (.int .u8 (((m + k) % 256 : Nat) : Int)) = marked xs m (k + 1) := by
  apply List.ext_getElem
  · simp [marked, marks, cellsOf]; omega
  · intro i h1 h2
    simp only [marked, marks, cellsOf, List.getElem_set, List.getElem_append, List.length_map, List.length_range]
    by_cases hik : k = i
    · subst hik
      simp
    · by_cases hlt : i < k
      · have e2 : i < k + 1 := by omega
        simp [hik, hlt, e2]
      · have e2 : ¬ i < k + 1 := by omega
        have e3 : k + 1 + (i - (k + 1)) = k + (i - k) := by omega
        simp [hik, hlt, e2, e3]



set_option maxHeartbeats 400000 in
theorem markByteS_any (base : Nat) (a : Option Addr) (cap : Nat) (xs : List Int) (m : Nat) (w : World) (hB : Bts w base (.slice a xs.length cap) xs) (hl : xs.length ≤ 2097152) (hm : m ≤ 16777216) :
    Calls Tryd.prog 11 #[.slice a xs.length cap, .int .i64 m] w fun e w' => e = .returned (.int .i64 ((m + xs.length : Nat) : Int)) ∧ Bts w' base (.slice a xs.length cap) (marks m xs.length) ∧ w.grownBy w' (Value.slice a xs.length cap).ownBlock := by
  have hown0 := hB.2
  generalize hn : xs.length = n at hown0
  have Hn : Hid (xs.length = n) := hn
  have hln : n ≤ 2097152 := by omega
  clear hn hl hB
  have hr : ∀ wr : World, ∀ k, k < n → wr.ownsRow base 5 1 (.slice a n cap) n (marked xs m k) → ∃ g, a = some ⟨g, 0, none⟩ := by
    intro wr k hk h
    rcases h.2 with ⟨h1, h2⟩ | ⟨g, cp, cur, h1, _⟩
    · omega
    · simp at h1
      exact ⟨g, h1.1⟩
  have Hr : Hid (∀ wr : World, ∀ k, k < n → wr.ownsRow base 5 1 (.slice a n cap) n (marked xs m k) → ∃ g, a = some ⟨g, 0, none⟩) := hr
  clear hr
  go_enter Tryd.func11, Tryd.ntmps11
  go_wp2
  go_loopw [1, 5] (fun m' i wr => ∃ k : Nat, k ≤ n ∧ i = .int .i64 k ∧ m' = .int .i64 ((m + k : Nat) : Int) ∧ wr.ownsRow base 5 1 (.slice a n cap) n (marked xs m k) ∧ w.grownBy wr (Value.slice a n cap).ownBlock) (fun _ i _ => n - (intOf i).toNat)
  case atStart => exact ⟨0, Nat.zero_le _, rfl, by simp, by rw [marked_zero]; exact hown0, World.grownBy.refl _ _⟩
  case round =>
    obtain ⟨k, hk, rfl, rfl, hown1, hbel⟩ := hrel
    by_cases hlt : k < n
    · obtain ⟨g, rfl⟩ := Hr.out wr k hlt hown1
      have hd : ∃ v, wr.cell? ⟨g, k, none⟩ = some v := by
        rw [hown1.cellAt k (by omega)]
        have := length_marked xs m k (by have := Hn.out; omega)
        have h2 := Hn.out
        exact ⟨_, List.getElem?_eq_getElem (by omega)⟩
      obtain ⟨v, hd⟩ := hd
      have hfz := hown1.frozenAt k
      have hst := hown1.stored k (.int .u8 (((m + k) % 256 : Nat) : Int))
      rw [marked_set xs m k (by have := Hn.out; omega)] at hst
      obtain ⟨hst1, hst2⟩ := hst
      have hbel2 := grownBy_trans hbel hst2
      clear hst2 hown1 hbel
      have e : ((((m + k) % 256 : Nat) : Int)) = ((m : Int) + k) % 256 := by omega
      rw [e] at hst1 hbel2
      clear e
      go_wp2
      go_roundw
      case rel => exact ⟨k + 1, by omega, by go_num, by go_num, hst1, hbel2⟩
      case measure => simp [intOf]; omega
    · obtain rfl : k = n := by omega
      have hB : Bts wr base (.slice a k cap) (marks m k) := by
        refine ⟨marks_byt _ _, ?_⟩
        have h2 := Hn.out
        have h3 := marked_all xs m
        rw [h2] at h3
        rw [length_marks, ← h3]
        exact hown1
      go_wp2
      go_ret
      exact ⟨rfl, hB, hbel⟩

set_option maxHeartbeats 400000 in
theorem heldByteS_any (a : Option Addr) (cap : Nat) (m n : Nat) (w : World) (hs : Seg w a (marks m n)) (hl : n ≤ 2097152) (hm : m ≤ 16777216) :
    Calls Tryd.prog 12 #[.slice a n cap, .int .i64 m] w fun e w' => e = .returned (.int .i64 ((m + n : Nat) : Int)) ∧ Below w.heap.size w w' := by
  go_enter Tryd.func12, Tryd.ntmps12
  go_wp2
  go_loopw [1, 5] (fun m' i wr => ∃ k : Nat, k ≤ n ∧ i = .int .i64 k ∧ m' = .int .i64 ((m + k : Nat) : Int) ∧ Below w.heap.size w wr) (fun _ i _ => n - (intOf i).toNat)
  case atStart => exact ⟨0, Nat.zero_le _, rfl, by simp, Below.refl _ _⟩
  case round =>
    obtain ⟨k, hk, rfl, rfl, hbel⟩ := hrel
    by_cases hlt : k < n
    · obtain ⟨b1, o1, rfl, hc1⟩ := (hs.grow hbel).at (k := k) (by rw [length_marks]; omega)
      rw [marks_at m n k hlt] at hc1
      have e : ((((m + k) % 256 : Nat) : Int)) = ((m : Int) + k) % 256 := by omega
      rw [e] at hc1
      clear e
      go_wp2
      go_roundw
      case rel => exact ⟨k + 1, by omega, by go_num, by go_num, hbel⟩
      case measure => simp [intOf]; omega
    · obtain rfl : k = n := by omega
      go_wp2
      go_ret
      exact ⟨rfl, hbel⟩
end Go.Proofs.YtmkdeljdenhgcaaDoor
/-
  markByteS over a row that may bear a mark of the run-time behind its last cell.
-/
namespace Go.Proofs.YtmkdeljdenhgcaaDoor
open Go.RowKit
set_option linter.unusedVariables false

set_option maxHeartbeats 400000 in
theorem markByteS_F (a : Option Addr) (cap : Nat) (xs : List Int) (m : Nat) (w : World) (hB : BtsF w (.slice a xs.length cap) xs) (hl : xs.length ≤ 2097152) (hm : m ≤ 16777216) :
    Calls Tryd.prog 11 #[.slice a xs.length cap, .int .i64 m] w fun e w' => e = .returned (.int .i64 ((m + xs.length : Nat) : Int)) ∧ BtsF w' (.slice a xs.length cap) (marks m xs.length) ∧ w.grownBy w' (Value.slice a xs.length cap).ownBlock := by
  have hown0 := hB.2
  generalize hn : xs.length = n at hown0
  have Hn : Hid (xs.length = n) := hn
  have hln : n ≤ 2097152 := by omega
  clear hn hl hB
  have hr : ∀ wr : World, ∀ k, k < n → RowF wr (.slice a n cap) n (marked xs m k) → ∃ g, a = some ⟨g, 0, none⟩ := by
    intro wr k hk h
    rcases h.2 with ⟨h1, h2⟩ | ⟨g, cp, cur, fr, h1, _⟩
    · omega
    · simp at h1
      exact ⟨g, h1.1⟩
  have Hr : Hid (∀ wr : World, ∀ k, k < n → RowF wr (.slice a n cap) n (marked xs m k) → ∃ g, a = some ⟨g, 0, none⟩) := hr
  clear hr
  go_enter Tryd.func11, Tryd.ntmps11
  go_wp2
  go_loopw [1, 5] (fun m' i wr => ∃ k : Nat, k ≤ n ∧ i = .int .i64 k ∧ m' = .int .i64 ((m + k : Nat) : Int) ∧ RowF wr (.slice a n cap) n (marked xs m k) ∧ w.grownBy wr (Value.slice a n cap).ownBlock) (fun _ i _ => n - (intOf i).toNat)
  case atStart => exact ⟨0, Nat.zero_le _, rfl, by simp, by rw [marked_zero]; exact hown0, World.grownBy.refl _ _⟩
  case round =>
    obtain ⟨k, hk, rfl, rfl, hown1, hbel⟩ := hrel
    by_cases hlt : k < n
    · obtain ⟨g, rfl⟩ := Hr.out wr k hlt hown1
      have hd : ∃ v, wr.cell? ⟨g, k, none⟩ = some v := by
        rw [hown1.cellAt k (by omega)]
        have := length_marked xs m k (by have := Hn.out; omega)
        have h2 := Hn.out
        exact ⟨_, List.getElem?_eq_getElem (by omega)⟩
      obtain ⟨v, hd⟩ := hd
      have hfz := hown1.frozenAt k hlt
      have hst := hown1.stored k (.int .u8 (((m + k) % 256 : Nat) : Int))
      rw [marked_set xs m k (by have := Hn.out; omega)] at hst
      obtain ⟨hst1, hst2⟩ := hst
      have hbel2 := grownBy_trans hbel hst2
      clear hst2 hown1 hbel
      have e : ((((m + k) % 256 : Nat) : Int)) = ((m : Int) + k) % 256 := by omega
      rw [e] at hst1 hbel2
      clear e
      go_wp2
      go_roundw
      case rel => exact ⟨k + 1, by omega, by go_num, by go_num, hst1, hbel2⟩
      case measure => simp [intOf]; omega
    · obtain rfl : k = n := by omega
      have hB : BtsF wr (.slice a k cap) (marks m k) := by
        refine ⟨marks_byt _ _, ?_⟩
        have h2 := Hn.out
        have h3 := marked_all xs m
        rw [h2] at h3
        rw [length_marks, ← h3]
        exact hown1
      go_wp2
      go_ret
      exact ⟨rfl, hB, hbel⟩

end Go.Proofs.YtmkdeljdenhgcaaDoor
