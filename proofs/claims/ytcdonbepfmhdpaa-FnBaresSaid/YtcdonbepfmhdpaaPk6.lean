/-
  Texts that a law leans on, one behind the other; no statement is proved here.
-/
import Derived.Test.YtcdonbepfmhdpaaPk5
import Derived.Laws.OwnMore
import Derived.Test.YtcdonbepfmhdpaaPk0
import Derived.Deep.RegionHeld3
/-
  sourcesOf of the program: for each vertex the set of those from which a way of one edge or more leads to it.
-/
namespace Go.Proofs.Ytcdonbepfmhdpaa
open Go.RowKit
set_option linter.unusedVariables false
set_option linter.unusedSimpArgs false

theorem infoVs : (Try.prog.info? 53).map (fun i => (i.zero, i.size, i.bytes)) = some (some (.int .u32 0), 1, 4) := by kernel_rfl

section
variable {α : Type} {V : α → Value} {ty : Nat} {s : List α} {w wr w' : World} {o : Obj}
/-- A box, a row behind it, and all ahead of both as it was. -/
def VSt (V : α → Value) (ty : Nat) (w : World) (o : Obj) (s : List α) (wr : World) : Prop := VRow V ty (w.heap.size + 1) s wr ∧ wr.heap[w.heap.size]? = some o ∧ Below w.heap.size w wr ∧ w.heap.size + 2 ≤ wr.heap.size
theorem VSt.set (h : VSt V ty w o s wr) (m : Nat) (x : α) : VSt V ty w o (s.set m x) (wr.setCell ⟨w.heap.size + 1, m, none⟩ (V x)) := by
  obtain ⟨h1, h2, h3, h4⟩ := h
  refine ⟨h1.set m x, (Below.heap_setCell wr _ _ _ (by show w.heap.size ≠ w.heap.size + 1; omega)).trans h2, h3.setCell (by show w.heap.size ≤ w.heap.size + 1; omega) _, by simp [World.setCell]; omega⟩
theorem VSt.grown {r : Option Nat} (h : VSt V ty w o s wr) (hg : wr.grownBy w' r) (hr : ∀ k, r = some k → w.heap.size + 2 ≤ k) : VSt V ty w o s w' := by
  obtain ⟨h1, h2, h3, h4⟩ := h
  exact ⟨h1.keep hg (fun e => by have := hr _ e; omega), (hg.block _ (by omega) (fun e => by have := hr _ e.symm; omega)).trans h2, h3.grown hg (by omega) (fun k hk => by have := hr k hk; omega), by have := hg.size; omega⟩
theorem VSt.drew (h : VSt V ty w o s wr) : VSt V ty w o s wr.drew := h.grown (r := none) ⟨rfl, rfl, rfl, Nat.le_refl _, fun _ _ _ => rfl⟩ (by simp)
theorem VSt.alloc (h : VSt V ty w o s wr) (o' : Obj) : VSt V ty w o s (wr.alloc o') := h.grown (World.grownBy_alloc wr o' none) (by simp)
theorem vSt_made {w1 : World} {n : Nat} {z : α} (hz : (V z).cells = #[V z]) (hown : w1.ownsRow (w.heap.size + 1) ty 1 (.slice (some ⟨(w.alloc o).heap.size, 0, none⟩) n n) n (madeCells (Value.cells (V z)) (n * 1)).toList) (hg : (w.alloc o).grownBy w1 none) : VSt V ty w o (List.replicate n z) w1 := by
  have hsz : (w.alloc o).heap.size = w.heap.size + 1 := by simp
  have hb : Below w.heap.size w (w.alloc o) := (Below.refl _ _).alloc (Nat.le_refl _) o
  rcases hown.2 with ⟨h1, _⟩ | ⟨g, cp, cur, h1, _, h3, _, _, h6, h7⟩
  · simp at h1
  · simp only [Value.slice.injEq, Option.some.injEq, Addr.mk.injEq, and_true, true_and] at h1
    obtain ⟨e1, e2⟩ := h1
    rw [hsz] at e1
    subst e1
    subst e2
    have hlt : w.heap.size + 1 < w1.heap.size := (Array.getElem?_eq_some_iff.1 h3).1
    refine ⟨?_, (hg.block w.heap.size (by simp) (by simp)).trans (MapKept.heap_alloc w o).1, hb.grown hg (by simp) (by simp), by omega⟩
    unfold VRow
    rw [h3]
    have hc : cur.toList = List.replicate n (V z) := by
      rw [List.take_of_length_le (by simp [h6])] at h7
      rw [h7, hz, toList_madeCells_one, Nat.mul_one]
    congr 2
    rw [List.map_replicate, ← hc]
end

set_option maxHeartbeats 800000 in
theorem sourcesMeet_any (x y : BV) (w : World) : Calls Try.prog 47 #[.int .u32 (x.toNat : Int), .int .u32 (y.toNat : Int)] w fun e w' => e = .returned (.int .u32 ((x ||| y).toNat : Int)) ∧ w = w' := by
  have HO := hide' (or_bv x y)
  go_enter Try.func47, Try.ntmps47
  go_wp2
  go_ret
  exact ⟨congrArg (fun z => Ending.returned (.int .u32 z)) HO.out, rfl⟩

set_option maxHeartbeats 800000 in
theorem has_any (x : BV) (v : Nat) (hv : v < 32) (w : World) : Calls Try.prog 26 #[.int .u32 (x.toNat : Int), .int .i64 (v : Int)] w fun e w' => e = .returned (.bool (x.getLsbD v)) ∧ w = w' := by
  have HO := hide' (has_bv x v)
  have h0 : (0 : Int) ≤ (v : Int) := by omega
  have h1 : (v : Int) ≤ 32 := by omega
  go_enter Try.func26, Try.ntmps26
  go_wp2
  go_ret
  exact ⟨ret_bool (by have := HO.out; simpa using this), rfl⟩

set_option maxHeartbeats 6400000 in
set_option maxRecDepth 100000 in
theorem sourcesOf_any (N n : Nat) (x : Value) (E : List Edg) (w : World) (hx : ESeg (fun b => b < N) w x E) (hN : N ≤ w.heap.size) (hn : n ≤ 20) (hE : InG n E) :
    Calls Try.prog 25 #[.agg #[.int .i64 (n : Int), x]] w fun e w' => ∃ D, e = .returned (.slice (some ⟨D, 0, none⟩) n n) ∧ w.heap.size ≤ D ∧ VRow (fun x : BV => Value.int .u32 (x.toNat : Int)) 53 D (srcF n E) w' ∧ Below w.heap.size w w' := by
  have HX := hide' hx
  have HE := hide' hE
  have Hsz := hide' hN
  have HCy : Hid (∀ wr o, VSt (fun x : BV => Value.int .u32 (x.toNat : Int)) 53 w o (srcI n E) wr → Calls Try.prog 46 #[.agg #[.int .i64 (n : Int), x], .slice (some ⟨w.heap.size + 1, 0, none⟩) n n, .func (.func 47) #[] #[]] wr fun e w' => e = .returned (.tuple #[]) ∧ Hid (VRow (fun x : BV => Value.int .u32 (x.toNat : Int)) 53 (w.heap.size + 1) (srcF n E) w' ∧ Below w.heap.size w w')) := fun wr o h => by
    refine (carryV_any N n (w.heap.size + 1) x E (· ||| ·) (srcI n E) wr (hx.agree (agree_below (h.2.2.1.mono hN))) (by omega) hn hE (srcI_len n E) h.1 (fun k j _ _ wx => sourcesMeet_any _ _ wx)).mono ?_
    rintro e w' ⟨rfl, h1, h2⟩
    rw [itE_car] at h1
    exact ⟨rfl, h1, h.2.2.1.grown h2 (by have := h.2.2.2; omega) (fun k hk => by simp at hk; omega)⟩
  obtain ⟨a, cap, rfl, hlc, hcm, -, -⟩ := hx
  unfold maxLen at hcm
  obtain ⟨i0, hi, hz0, hz1, hz2⟩ := info_parts infoVs
  have hnn : (0 : Int) ≤ (n : Int) := by omega
  have hn20 : (n : Int) ≤ 20 := by omega
  clear hE
  go_enter Try.func25, Try.ntmps25
  go_wp2_with (refine wpList_make_full _ rfl _ _ 50 rfl (w.heap.size + 1) 53 i0 (.int .u32 0) 1 Try.underlying50 hi hz0 hz1 .i64 .i64 _ _ n rfl rfl rfl rfl (by rw [hz2]; omega) (by unfold maxLen; omega) (by simp) ?_; intro w1 hown hgrow; have hS0 := hide' (vSt_made (V := (fun x : BV => Value.int .u32 (x.toNat : Int))) (z := (0 : BV)) rfl hown hgrow); obtain ⟨y0, y1, -⟩ := row2 hS0.out.2.1; clear hown hgrow)
  have hsz0 : (w.alloc (.cells #[.int .i64 (n : Int), .slice a E.length cap] 25)).heap.size = w.heap.size + 1 := by simp
  (try rw [hsz0])
  go_wp2_with fail
  go_loopw [12] (fun i wz => ∃ j : Nat, i = .int .i64 j ∧ j ≤ E.length ∧ Hid (VSt (fun x : BV => Value.int .u32 (x.toNat : Int)) 53 w (.cells #[.int .i64 (n : Int), .slice a E.length cap] 25) ((E.take j).foldl srcE (List.replicate n 0)) wz)) (fun i _ => E.length - (intOf i).toNat)
  case atStart => exact ⟨0, rfl, Nat.zero_le _, hS0⟩
  case round =>
    clear hS0 y0 y1
    obtain ⟨j, rfl, hj, hS⟩ := hrel
    obtain ⟨g0, g1, -⟩ := row2 hS.out.2.1
    by_cases hjl : j < E.length
    rotate_left
    · have hjl' : ¬ (j : Int) < (E.length : Int) := by omega
      obtain rfl : j = E.length := by omega
      have HN := hS.out
      rw [List.take_length] at HN
      have HC := hide' (HCy.out _ _ HN)
      clear hS HN HCy
      go_wp2_with fail
      refine HC.out.mono ?_
      rintro e w5 ⟨rfl, hF⟩
      go_wp2
      go_ret
      exact ⟨_, rfl, by omega, hF.out⟩
    have hjl' : (j : Int) < (E.length : Int) := by omega
    have hag := agree_below (hS.out.2.2.1.mono hN)
    obtain ⟨b, off, rfl, _, q0, q1⟩ := (HX.out.agree hag).at hjl
    have he := HE.out E[j] (List.getElem_mem hjl)
    obtain ⟨m, hm⟩ : ∃ m : Nat, E[j].1 = (m : Int) := ⟨E[j].1.toNat, by omega⟩
    obtain ⟨m1, hm'⟩ : ∃ m : Nat, E[j].2 = (m : Int) := ⟨E[j].2.toNat, by omega⟩
    have hrl : ((E.take j).foldl srcE (List.replicate n 0)).length = n := by rw [foldl_len srcE_len]; simp
    have hs : (E.take (j + 1)).foldl srcE (List.replicate n 0) = ((E.take j).foldl srcE (List.replicate n 0)).set m1 (((E.take j).foldl srcE (List.replicate n 0)).getD m1 0 ||| BitVec.twoPow 32 m) := by
      rw [foldE_succ srcE E _ j hjl]
      show ((E.take j).foldl srcE (List.replicate n 0)).set E[j].2.toNat (((E.take j).foldl srcE (List.replicate n 0)).getD E[j].2.toNat 0 ||| BitVec.twoPow 32 E[j].1.toNat) = _
      rw [hm, hm', Int.toNat_natCast, Int.toNat_natCast]
    rw [hm] at q0
    rw [hm'] at q1
    have hm1 : (0 : Int) ≤ (m : Int) := by omega
    have hm2 : (m : Int) < (n : Int) := by omega
    have hm3 : (0 : Int) ≤ (m1 : Int) := by omega
    have hm4 : (m1 : Int) < (n : Int) := by omega
    have hS' := hS.out.alloc (.cells #[.int .i64 (m : Int), .int .i64 (m1 : Int)] 36)
    obtain ⟨e0, e1, -⟩ := row2 (MapKept.heap_alloc wr (.cells #[.int .i64 (m : Int), .int .i64 (m1 : Int)] 36)).1
    obtain ⟨t0, t1⟩ := hS'.1.at (m := m1) (by omega) 0
    have HN := hide' (hS'.set m1 (((E.take j).foldl srcE (List.replicate n 0)).getD m1 0 ||| BitVec.twoPow 32 m)).drew
    rw [← hs] at HN
    have hDz : w.heap.size + 1 ≠ wr.heap.size := by have := hS.out.2.2.2; omega
    (try dsimp only at t0)
    have hsh1 := shl_bv m (by omega)
    have hsh2 : IntKind.u32.wrap (2 ^ m) = ((BitVec.twoPow 32 m).toNat : Int) := by rw [← hsh1, Int.one_mul]
    have hor := or_bv (((E.take j).foldl srcE (List.replicate n 0)).getD m1 0) (BitVec.twoPow 32 m)
    clear hS hS' hag hm hm' hs he HCy
    generalize ((E.take j).foldl srcE (List.replicate n 0)).getD m1 0 = x1 at *
    generalize BitVec.twoPow 32 m = z at *
    go_wp2_with fail
    generalize wr.alloc (.cells #[.int .i64 (m : Int), .int .i64 (m1 : Int)] 36) = W at *
    generalize wr.heap.size = eb at *
    have HSt : Hid (∀ v, (W.drew.setCell ⟨w.heap.size + 1, m1, none⟩ v).cell? ⟨eb, 0, none⟩ = some (.int .i64 (m : Int)) ∧ (W.drew.setCell ⟨w.heap.size + 1, m1, none⟩ v).cell? ⟨eb, 1, none⟩ = some (.int .i64 (m1 : Int))) := fun v => by
      have hh := Below.heap_setCell W.drew ⟨w.heap.size + 1, m1, none⟩ v eb (fun h => hDz h.symm)
      exact ⟨(World.cell?_of_block hh).trans e0, (World.cell?_of_block hh).trans e1⟩
    clear q0 q1 g0 g1 HX HE
    refine wp_region_held_drew (S := (fun wx => wx.cell? ⟨eb, 0, none⟩ = some (.int .i64 (m : Int)) ∧ wx.cell? ⟨eb, 1, none⟩ = some (.int .i64 (m1 : Int)))) (by kernel_rfl) ⟨e0, e1⟩ (fun hHeld => ?_)
    refine take_yes (i := 0) 16 (v := ?_) rfl rfl (by kernel_rfl) (by kernel_rfl) (by kernel_rfl) (fun _ _ _ h => h) (by kernel_rfl) hHeld ?_ ?_
    rotate_left
    focus (intro w hSw; (try dsimp only at hSw); go_simp; (try with_reducible rfl))
    simp only [Act.put, List.setIfInBounds_toArray, List.set_cons_zero, List.set_cons_succ]
    refine take_yes (i := 1) 17 (v := ?_) rfl rfl (by kernel_rfl) (by kernel_rfl) (by kernel_rfl) (fun _ _ _ h => h) (by kernel_rfl) hHeld ?_ ?_
    rotate_left
    focus (intro w hSw; (try dsimp only at hSw); go_simp; (try with_reducible rfl))
    simp only [Act.put, List.setIfInBounds_toArray, List.set_cons_zero, List.set_cons_succ]
    refine take_yes (i := 2) 18 (v := ?_) rfl rfl (by kernel_rfl) (by kernel_rfl) (by kernel_rfl) (fun _ _ _ h => h) (by kernel_rfl) hHeld ?_ ?_
    rotate_left
    focus (intro w hSw; (try dsimp only at hSw); go_simp; (try with_reducible rfl))
    simp only [Act.put, List.setIfInBounds_toArray, List.set_cons_zero, List.set_cons_succ]
    refine take_yes (i := 3) 19 (v := ?_) rfl rfl (by kernel_rfl) (by kernel_rfl) (by kernel_rfl) (fun _ _ _ h => h) (by kernel_rfl) hHeld ?_ ?_
    rotate_left
    focus (intro w hSw; (try dsimp only at hSw); go_simp; (try with_reducible rfl))
    simp only [Act.put, List.setIfInBounds_toArray, List.set_cons_zero, List.set_cons_succ]
    refine take_yes (i := 5) 21 (v := ?_) rfl rfl (by kernel_rfl) (by kernel_rfl) (by kernel_rfl) (fun _ _ _ h => h) (by kernel_rfl) hHeld ?_ ?_
    rotate_left
    focus (intro w hSw; (try dsimp only at hSw); go_simp; (try with_reducible rfl))
    simp only [Act.put, List.setIfInBounds_toArray, List.set_cons_zero, List.set_cons_succ]
    refine take_yes (i := 6) 22 (v := ?_) rfl rfl (by kernel_rfl) (by kernel_rfl) (by kernel_rfl) (fun _ _ _ h => h) (by kernel_rfl) hHeld ?_ ?_
    rotate_left
    focus (intro w hSw; (try dsimp only at hSw); go_simp; (try with_reducible rfl))
    simp only [Act.put, List.setIfInBounds_toArray, List.set_cons_zero, List.set_cons_succ]
    refine take_yes (i := 7) 23 (v := ?_) rfl rfl (by kernel_rfl) (by kernel_rfl) (by kernel_rfl) (fun _ _ _ h => h) (by kernel_rfl) hHeld ?_ ?_
    rotate_left
    focus (intro w hSw; (try dsimp only at hSw); go_simp; (try with_reducible rfl))
    simp only [Act.put, List.setIfInBounds_toArray, List.set_cons_zero, List.set_cons_succ]
    refine wpAnyH_ready (rs := [4]) (by kernel_rfl) (by simp) ?_
    refine AllReadyH.cons rfl (fun K hK => ?_) AllReadyH.nil
    go_simp
    refine hK.out _ _ hHeld (fun hHeld => ?_)
    clear hK
    (try simp only [Act.put, List.setIfInBounds_toArray, List.set_cons_zero, List.set_cons_succ])
    refine take_yes (i := 8) 24 (v := ?_) rfl rfl (by kernel_rfl) (by kernel_rfl) (by kernel_rfl) (fun _ _ _ h => h) (by kernel_rfl) hHeld ?_ ?_
    rotate_left
    focus (intro w hSw; (try dsimp only at hSw); go_simp; (try with_reducible rfl))
    simp only [Act.put, List.setIfInBounds_toArray, List.set_cons_zero, List.set_cons_succ]
    refine take_yes (i := 9) 25 (v := ?_) rfl rfl (by kernel_rfl) (by kernel_rfl) (by kernel_rfl) (fun _ _ _ h => h) (by kernel_rfl) hHeld ?_ ?_
    rotate_left
    focus (intro w hSw; (try dsimp only at hSw); go_simp; (try with_reducible rfl))
    simp only [Act.put, List.setIfInBounds_toArray, List.set_cons_zero, List.set_cons_succ]
    refine wpAnyH_ready (rs := [10]) (by kernel_rfl) (by simp) ?_
    refine AllReadyH.cons rfl (fun K hK => ?_) AllReadyH.nil
    go_simp
    refine hK.out _ _ (HSt.out _) (fun hHeld => ?_)
    clear hK
    (try simp only [Act.put, List.setIfInBounds_toArray, List.set_cons_zero, List.set_cons_succ])
    refine wpAnyH_done (by kernel_rfl) ?_ _
    go_wp2
    go_roundw
    case rel => exact ⟨j + 1, by go_num, by omega, HN⟩
    case measure => simp [intOf]; omega
end Go.Proofs.Ytcdonbepfmhdpaa
/-
  Graphs: cmp.Compare at int, cmp.Or at two ints; hasVert, cmpEdges of the program.
-/
namespace Go.Proofs.Ytcdonbepfmhdpaa
open Go.RowKit
set_option linter.unusedVariables false
set_option linter.unusedSimpArgs false

/-- The order of two numbers. -/
def numC (a b : Int) : Int := if a < b then -1 else if b < a then 1 else 0
theorem numC_lt {a b : Int} (h : a < b) : numC a b = -1 := by simp [numC, h]
theorem numC_gt {a b : Int} (h : b < a) : numC a b = 1 := by
  have : ¬ a < b := by omega
  simp [numC, h, this]
theorem numC_eq (a : Int) : numC a a = 0 := by simp [numC]

set_option maxHeartbeats 800000 in
theorem isNaN_any (a : Int) (w : World) : Calls Try.prog 53 #[.int .i64 a] w fun e w' => e = .returned (.bool false) ∧ w = w' := by
  go_enter Try.func53, Try.ntmps53
  go_wp2
  go_ret
  exact ⟨rfl, rfl⟩

set_option maxHeartbeats 800000 in
theorem cmpInt_any (a b : Int) (w : World) : Calls Try.prog 43 #[.int .i64 a, .int .i64 b] w fun e w' => e = .returned (.int .i64 (numC a b)) ∧ w = w' := by
  have H1 := hide' (isNaN_any a w)
  have H2 := hide' (isNaN_any b w)
  by_cases h1 : a < b
  · have HO := hide' (numC_lt h1)
    go_enter Try.func43, Try.ntmps43
    go_wp2_with fail
    refine H1.out.mono ?_
    rintro e w1 ⟨rfl, e1⟩
    obtain rfl := e1
    go_wp2_with fail
    refine H2.out.mono ?_
    rintro e w1 ⟨rfl, e1⟩
    obtain rfl := e1
    go_wp2
    go_ret
    exact ⟨ret_i64 (by rw [HO.out]), rfl⟩
  · by_cases h2 : b < a
    · have HO := hide' (numC_gt h2)
      go_enter Try.func43, Try.ntmps43
      go_wp2_with fail
      refine H1.out.mono ?_
      rintro e w1 ⟨rfl, e1⟩
      obtain rfl := e1
      go_wp2_with fail
      refine H2.out.mono ?_
      rintro e w1 ⟨rfl, e1⟩
      obtain rfl := e1
      go_wp2
      go_ret
      exact ⟨ret_i64 (by rw [HO.out]), rfl⟩
    · have h3 : a = b := by omega
      subst h3
      have HO := hide' (numC_eq a)
      go_enter Try.func43, Try.ntmps43
      go_wp2_with fail
      refine H1.out.mono ?_
      rintro e w1 ⟨rfl, e1⟩
      obtain rfl := e1
      go_wp2_with fail
      refine H2.out.mono ?_
      rintro e w1 ⟨rfl, e1⟩
      obtain rfl := e1
      go_wp2
      go_ret
      exact ⟨ret_i64 (by rw [HO.out]), rfl⟩

/-- The first of two that is not 0. -/
def or2 (a b : Int) : Int := if a ≠ 0 then a else b

set_option maxHeartbeats 800000 in
theorem or2_any (g : Nat) (a b : Int) (w : World) (h0 : w.cell? ⟨g, 0, none⟩ = some (.int .i64 a)) (h1 : w.cell? ⟨g, 1, none⟩ = some (.int .i64 b)) :
    Calls Try.prog 42 #[.slice (some ⟨g, 0, none⟩) 2 2] w fun e w' => e = .returned (.int .i64 (or2 a b)) ∧ w = w' := by
  go_enter Try.func42, Try.ntmps42
  go_wp2
  go_loopw [8] (fun i wr => ∃ k : Nat, k ≤ 2 ∧ i = .int .i64 k ∧ (1 ≤ k → a = 0) ∧ (2 ≤ k → b = 0) ∧ wr = w) (fun i _ => 2 - (intOf i).toNat)
  case atStart => exact ⟨0, Nat.zero_le _, rfl, by omega, by omega, rfl⟩
  case round =>
    obtain ⟨k, hk, rfl, hA, hB, rfl⟩ := hrel
    have hk4 : k = 0 ∨ k = 1 ∨ k = 2 := by omega
    rcases hk4 with rfl | rfl | rfl
    · by_cases hz : a = 0
      · subst hz
        go_wp2
        go_roundw
        case rel => exact ⟨1, by omega, by go_num, by first | trivial | (intros; first | rfl | trivial | omega), by first | trivial | (intros; first | rfl | trivial | omega), by first | rfl | trivial⟩
        case measure => simp [intOf]
      · have HO : Hid (or2 a b = a) := by show or2 a b = a; simp [or2, hz]
        go_wp2
        go_ret
        exact ⟨ret_i64 (by rw [HO.out]), rfl⟩
    · have ha := hA (by omega)
      subst ha
      by_cases hz : b = 0
      · subst hz
        go_wp2
        go_roundw
        case rel => exact ⟨2, by omega, by go_num, by first | trivial | (intros; first | rfl | trivial | omega), by first | trivial | (intros; first | rfl | trivial | omega), by first | rfl | trivial⟩
        case measure => simp [intOf]
      · have HO : Hid (or2 0 b = b) := by show or2 0 b = b; simp [or2]
        go_wp2
        go_ret
        exact ⟨ret_i64 (by rw [HO.out]), rfl⟩
    · have ha := hA (by omega)
      subst ha
      have hb := hB (by omega)
      subst hb
      have HO : Hid (or2 0 0 = 0) := by show or2 0 0 = 0; simp [or2]
      go_wp2
      go_ret
      exact ⟨ret_i64 (by rw [HO.out]), rfl⟩

/-- Is v one of them? -/
def hvB (n v : Int) : Bool := decide (0 ≤ v) && decide (v < n)
set_option maxHeartbeats 800000 in
theorem hasVert_any (n v : Int) (x : Value) (w : World) : Calls Try.prog 22 #[.agg #[.int .i64 n, x], .int .i64 v] w fun e w' => e = .returned (.bool (hvB n v)) ∧ Below w.heap.size w w' := by
  have Hb : Hid (∀ o : Obj, Below w.heap.size w (w.alloc o)) := fun o => (Below.refl _ _).alloc (Nat.le_refl _) o
  unfold hvB
  by_cases h0 : 0 ≤ v
  · by_cases h1 : v < n
    · go_enter Try.func22, Try.ntmps22
      go_wp2
      go_ret
      exact ⟨ret_bool (by simp [h0, h1]), Hb.out _⟩
    · go_enter Try.func22, Try.ntmps22
      go_wp2
      go_ret
      exact ⟨ret_bool (by simp [h0, h1]), Hb.out _⟩
  · go_enter Try.func22, Try.ntmps22
    go_wp2
    go_ret
    exact ⟨ret_bool (by simp; omega), Hb.out _⟩

/-- How two edges stand. -/
def edgC (a b : Edg) : Int := or2 (numC a.1 b.1) (numC a.2 b.2)
theorem edgC_less (a b : Edg) : (edgC a b < 0) ↔ lessE a b = true := by
  unfold edgC or2 lessE numC
  simp only [Bool.or_eq_true, Bool.and_eq_true, decide_eq_true_eq]
  split <;> (repeat' split) <;> omega
set_option maxHeartbeats 3200000 in
theorem cmpEdges_any (a b : Edg) (w : World) :
    Calls Try.prog 23 #[.agg #[.int .i64 a.1, .int .i64 a.2], .agg #[.int .i64 b.1, .int .i64 b.2]] w fun e w' => e = .returned (.int .i64 (edgC a b)) ∧ Below w.heap.size w w' := by
  obtain ⟨a1, a2⟩ := a
  obtain ⟨b1, b2⟩ := b
  simp only [edgC]
  have HR : Hid (∀ (o o' : Obj) (p q : Int), Calls Try.prog 42 #[.slice (some ⟨w.heap.size + 1 + 1, 0, none⟩) 2 2] (((w.alloc o).alloc o').alloc (.cells #[.int .i64 p, .int .i64 q] 3)).drew fun e w' => e = .returned (.int .i64 (or2 p q)) ∧ (((w.alloc o).alloc o').alloc (.cells #[.int .i64 p, .int .i64 q] 3)).drew = w') := by
    intro o o' p q
    obtain ⟨x0, x1, _⟩ := row2 (three_boxes w o o' (.cells #[.int .i64 p, .int .i64 q] 3)).2.2.1
    exact or2_any (w.heap.size + 1 + 1) p q (((w.alloc o).alloc o').alloc (.cells #[.int .i64 p, .int .i64 q] 3)).drew x0 x1
  have HB3 : Hid (∀ (o o' o'' : Obj), Below w.heap.size w (((w.alloc o).alloc o').alloc o'').drew) := fun o o' o'' => (three_boxes w o o' o'').2.2.2.2.drew
  go_enter Try.func23, Try.ntmps23
  go_wp2_with fail
  go_region_held3 (fun wx => wx.cell? ⟨w.heap.size, 0, none⟩ = some (.int .i64 a1) ∧ wx.cell? ⟨w.heap.size, 1, none⟩ = some (.int .i64 a2) ∧ wx.cell? ⟨w.heap.size + 1, 0, none⟩ = some (.int .i64 b1) ∧ wx.cell? ⟨w.heap.size + 1, 1, none⟩ = some (.int .i64 b2)) (go_keep) (first
    | (go_at_call 43; refine (cmpInt_any _ _ _).mono ?_; rintro e w1 ⟨rfl, e1⟩; obtain rfl := e1)
    | (go_at_call 42; refine (HR.out _ _ _ _).mono ?_; rintro e w1 ⟨rfl, e1⟩; obtain rfl := e1))
  all_goals
    go_wp2
    go_ret
    exact ⟨rfl, HB3.out _ _ _⟩
end Go.Proofs.Ytcdonbepfmhdpaa
