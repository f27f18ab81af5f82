/-
  Texts that a law leans on, one behind the other; no statement is proved here.
-/
import Derived.Test.YtpnohgncnmbkdaaPk8
import Derived.Test.YtpnohgncnmbkdaaPk2
import Derived.Deep.Cut
import Derived.Laws.OwnMore
import Derived.Test.YtpnohgncnmbkdaaPk3
/-
  Graphs: what carry of the program leaves, whatever is carried: rounds over all edges; a row that is written, and all else as it was.
-/
namespace Go.Proofs.Ytpnohgncnmbkdaa
open Go.RowKit
set_option linter.unusedVariables false
set_option linter.unusedSimpArgs false

section
variable {α : Type}
/-- One edge. -/
def setE (mt : α → α → α) (d : α) (s : List α) (e : Edg) : List α := s.set e.2.toNat (mt (s.getD e.2.toNat d) (s.getD e.1.toNat d))
/-- k rounds. -/
def itE (g : List α → Edg → List α) (E : List Edg) : Nat → List α → List α
  | 0, s => s
  | k + 1, s => E.foldl g (itE g E k s)
theorem setE_len (mt : α → α → α) (d : α) (s : List α) (e : Edg) : (setE mt d s e).length = s.length := by simp [setE]
theorem foldS_len (mt : α → α → α) (d : α) : ∀ (E : List Edg) (s : List α), (E.foldl (setE mt d) s).length = s.length
  | [], _ => rfl
  | e :: r, s => by
    show (r.foldl (setE mt d) (setE mt d s e)).length = _
    rw [foldS_len mt d r, setE_len]
theorem itE_len (mt : α → α → α) (d : α) (E : List Edg) : ∀ (k : Nat) (s : List α), (itE (setE mt d) E k s).length = s.length
  | 0, _ => rfl
  | k + 1, s => by
    show (E.foldl (setE mt d) (itE (setE mt d) E k s)).length = _
    rw [foldS_len, itE_len mt d E k]
end
theorem itE_car (E : List Edg) : ∀ (k : Nat) (s : List BV), itE (setE (· ||| ·) 0) E k s = carS E k s
  | 0, _ => rfl
  | k + 1, s => by
    show E.foldl (setE (· ||| ·) 0) (itE (setE (· ||| ·) 0) E k s) = carR E (carS E k s)
    rw [itE_car E k s]
    rfl
theorem itE_max (E : List Edg) : ∀ (k : Nat) (s : List Int), itE (setE max1 0) E k s = maxS E k s
  | 0, _ => rfl
  | k + 1, s => by
    show E.foldl (setE max1 0) (itE (setE max1 0) E k s) = maxR E (maxS E k s)
    rw [itE_max E k s]
    rfl
theorem setE_edge {n : Nat} {s : List Bool} {e : Edg} (hs : s.length = n) (he : 0 ≤ e.2 ∧ e.2 < (n : Int)) : setE (· || ·) false s e = edgeF s e := by
  unfold setE edgeF bAt bSet
  cases h1 : s.getD e.1.toNat false with
  | true => simp
  | false =>
    show s.set e.2.toNat (s.getD e.2.toNat false || false) = _
    rw [Bool.or_false, if_neg (by simp)]
    exact set_same (by omega)
theorem foldS_round {n : Nat} : ∀ (E : List Edg) {s : List Bool}, s.length = n → InG n E → E.foldl (setE (· || ·) false) s = roundF E s
  | [], _, _, _ => rfl
  | e :: r, s, hs, hE => by
    show r.foldl (setE (· || ·) false) (setE (· || ·) false s e) = roundF r (edgeF s e)
    rw [setE_edge hs ⟨(hE e (by simp)).2.2.1, (hE e (by simp)).2.2.2⟩]
    exact foldS_round r (by rw [edgeF_len, hs]) (fun x hx => hE x (List.mem_cons_of_mem _ hx))
theorem itE_or {n : Nat} {E : List Edg} (hE : InG n E) : ∀ (k : Nat) {s : List Bool}, s.length = n → itE (setE (· || ·) false) E k s = roundsF E k s
  | 0, _, _ => rfl
  | k + 1, s, hs => by
    show E.foldl (setE (· || ·) false) (itE (setE (· || ·) false) E k s) = roundF E (roundsF E k s)
    rw [itE_or hE k hs]
    exact foldS_round E (by rw [roundsF_len, hs]) hE

/-- A row of one-celled values in block D. -/
def VRow {α : Type} (V : α → Value) (ty D : Nat) (s : List α) (w : World) : Prop := w.heap[D]? = some (.cells (s.map V).toArray ty (0, 0))
section
variable {α : Type} {V : α → Value} {ty D : Nat} {s : List α} {w w' : World}
theorem VRow.at (h : VRow V ty D s w) {m : Nat} (hm : m < s.length) (d : α) : w.cell? ⟨D, m, none⟩ = some (V (s.getD m d)) ∧ w.frozen? ⟨D, m, none⟩ = false := by
  refine ⟨?_, frozen_of_row w D m _ _ h⟩
  rw [cell_of_row w D m _ _ _ h]
  simp [hm, List.getD_eq_getElem?_getD]
theorem VRow.set (h : VRow V ty D s w) (m : Nat) (x : α) : VRow V ty D (s.set m x) (w.setCell ⟨D, m, none⟩ (V x)) := by
  unfold VRow
  rw [heap_setCell_same w D m _ _ _ h]
  simp [List.map_set]
theorem VRow.keep {r : Option Nat} (h : VRow V ty D s w) (hg : w.grownBy w' r) (hr : r ≠ some D) : VRow V ty D s w' := (hg.block D (Array.getElem?_eq_some_iff.1 h).1 (fun e => hr e.symm)).trans h
theorem VRow.lt (h : VRow V ty D s w) : D < w.heap.size := (Array.getElem?_eq_some_iff.1 h).1
/-- The box of a call, a row that it writes, and all else as it was. -/
def CSt (V : α → Value) (ty D : Nat) (w : World) (o : Obj) (s : List α) (wr : World) : Prop := VRow V ty D s wr ∧ wr.heap[w.heap.size]? = some o ∧ w.grownBy wr (some D) ∧ w.heap.size + 1 ≤ wr.heap.size
variable {o : Obj} {wr : World}
theorem CSt.begin (h : VRow V ty D s w) (o : Obj) : CSt V ty D w o s (w.alloc o) :=
  ⟨h.keep (World.grownBy_alloc w o none) (by simp), (MapKept.heap_alloc w o).1, World.grownBy_alloc w o (some D), by simp⟩
theorem CSt.alloc (h : CSt V ty D w o s wr) (o' : Obj) : CSt V ty D w o s (wr.alloc o') := by
  obtain ⟨h1, h2, h3, h4⟩ := h
  exact ⟨h1.keep (World.grownBy_alloc wr o' none) (by simp), ((World.grownBy_alloc wr o' none).block _ (by omega) (by simp)).trans h2, grownBy_trans h3 (World.grownBy_alloc wr o' (some D)), by simp; omega⟩
theorem CSt.drew (h : CSt V ty D w o s wr) : CSt V ty D w o s wr.drew := by
  obtain ⟨h1, h2, h3, h4⟩ := h
  exact ⟨h1, h2, ⟨h3.os, h3.tape, h3.output, h3.size, h3.block⟩, h4⟩
theorem CSt.set (h : CSt V ty D w o s wr) (hD : D < w.heap.size) (m : Nat) (x : α) : CSt V ty D w o (s.set m x) (wr.setCell ⟨D, m, none⟩ (V x)) := by
  obtain ⟨h1, h2, h3, h4⟩ := h
  exact ⟨h1.set m x, (Below.heap_setCell wr _ _ _ (by show w.heap.size ≠ D; omega)).trans h2, grownBy_trans h3 (grown1 wr D m _), by simp [World.setCell]; omega⟩
theorem CSt.agree {N : Nat} (h : CSt V ty D w o s wr) (hN : N ≤ D) (hD : D < w.heap.size) : Agree (fun b => b < N) w wr := fun b hb => h.2.2.1.block b (by omega) (fun e => by simp at e; omega)
end
end Go.Proofs.Ytpnohgncnmbkdaa
/-
  carry of the program over sets of vertices.
-/
namespace Go.Proofs.Ytpnohgncnmbkdaa
open Go.RowKit
set_option linter.unusedVariables false
set_option linter.unusedSimpArgs false

set_option maxHeartbeats 6400000 in
set_option maxRecDepth 100000 in
theorem carryV_any (N n D : Nat) (x : Value) (E : List Edg) (mt : BV → BV → BV) (s : List BV) (w : World) (hx : ESeg (fun b => b < N) w x E) (hN : N ≤ D) (hn : n ≤ 20) (hE : InG n E) (hs : s.length = n) (hrow : VRow (fun x : BV => Value.int .u32 (x.toNat : Int)) 67 D s w)
    (HM : ∀ k j, k < n → (hj : j < E.length) → ∀ wx, Calls Try.prog 85 #[(.int .u32 ((((E.take j).foldl (setE mt 0) (itE (setE mt 0) E k s)).getD E[j].2.toNat 0).toNat : Int)), (.int .u32 ((((E.take j).foldl (setE mt 0) (itE (setE mt 0) E k s)).getD E[j].1.toNat 0).toNat : Int))] wx fun e w' => e = .returned (.int .u32 ((mt (((E.take j).foldl (setE mt 0) (itE (setE mt 0) E k s)).getD E[j].2.toNat 0) (((E.take j).foldl (setE mt 0) (itE (setE mt 0) E k s)).getD E[j].1.toNat 0)).toNat : Int)) ∧ wx = w') :
    Calls Try.prog 84 #[.agg #[.int .i64 (n : Int), x], .slice (some ⟨D, 0, none⟩) n n, .func (.func 85) #[] #[]] w fun e w' => e = .returned (.tuple #[]) ∧ VRow (fun x : BV => Value.int .u32 (x.toNat : Int)) 67 D (itE (setE mt 0) E n s) w' ∧ w.grownBy w' (some D) := by
  have hDw := hrow.lt
  have HX := hide' hx
  have HE := hide' hE
  have HMh := hide' HM
  have HD := hide' hDw
  have hS0 := hide' (fun o => CSt.begin hrow o)
  obtain ⟨a, cap, rfl, hlc, hcm, -, -⟩ := hx
  unfold maxLen at hcm
  have hnn : (0 : Int) ≤ (n : Int) := by omega
  have hn20 : (n : Int) ≤ 20 := by omega
  clear hE HM hrow hDw
  go_enter Try.func84, Try.ntmps84
  go_wp2_with fail
  go_loopw [10] (fun i wr => ∃ k : Nat, i = .int .i64 k ∧ k ≤ n ∧ Hid (CSt (fun x : BV => Value.int .u32 (x.toNat : Int)) 67 D w (.cells #[.int .i64 (n : Int), .slice a E.length cap] 25) (itE (setE mt 0) E k s) wr)) (fun i _ => n - (intOf i).toNat)
  case atStart => exact ⟨0, rfl, Nat.zero_le _, hS0.out _⟩
  case round =>
    clear hS0
    obtain ⟨k, rfl, hk, hS⟩ := hrel
    obtain ⟨g0, g1, -⟩ := row2 hS.out.2.1
    by_cases hkn : k < n
    rotate_left
    · have hkn' : ¬ (k : Int) < (n : Int) := by omega
      obtain rfl : k = n := by omega
      have HF := hide' (And.intro hS.out.1 hS.out.2.2.1)
      clear hS
      go_wp2
      go_end0
      exact ⟨rfl, HF.out⟩
    have hkn' : (k : Int) < (n : Int) := by omega
    have hdl : (itE (setE mt 0) E k s).length = n := by rw [itE_len, hs]
    have hS2 : Hid (CSt (fun x : BV => Value.int .u32 (x.toNat : Int)) 67 D w (.cells #[.int .i64 (n : Int), .slice a E.length cap] 25) ((E.take 0).foldl (setE mt 0) (itE (setE mt 0) E k s)) wr) := hS.out
    have HNx : Hid (E.foldl (setE mt 0) (itE (setE mt 0) E k s) = itE (setE mt 0) E (k + 1) s) := rfl
    have HMk := hide' (fun j => HMh.out k j hkn)
    clear hS HMh
    generalize itE (setE mt 0) E k s = dk at *
    go_wp2_with fail
    go_loopw [15] (fun i wz => ∃ j : Nat, i = .int .i64 j ∧ j ≤ E.length ∧ Hid (CSt (fun x : BV => Value.int .u32 (x.toNat : Int)) 67 D w (.cells #[.int .i64 (n : Int), .slice a E.length cap] 25) ((E.take j).foldl (setE mt 0) dk) wz)) (fun i _ => E.length - (intOf i).toNat)
    case atStart => exact ⟨0, rfl, Nat.zero_le _, hS2⟩
    case round =>
      clear hS2 g0 g1
      obtain ⟨j, rfl, hj, hS⟩ := hrel
      obtain ⟨g0, g1, -⟩ := row2 hS.out.2.1
      by_cases hjl : j < E.length
      rotate_left
      · have hjl' : ¬ (j : Int) < (E.length : Int) := by omega
        obtain rfl : j = E.length := by omega
        have HN := hS
        rw [List.take_length, HNx.out] at HN
        clear hS
        go_wp2
        go_roundw
        case rel => exact ⟨k + 1, by go_num, by omega, HN⟩
        case measure => simp [intOf]; omega
      have hjl' : (j : Int) < (E.length : Int) := by omega
      have hag := hS.out.agree hN HD.out
      obtain ⟨b, off, rfl, _, q0, q1⟩ := (HX.out.agree hag).at hjl
      have he := HE.out E[j] (List.getElem_mem hjl)
      obtain ⟨m, hm⟩ : ∃ m : Nat, E[j].1 = (m : Int) := ⟨E[j].1.toNat, by omega⟩
      obtain ⟨m1, hm'⟩ : ∃ m : Nat, E[j].2 = (m : Int) := ⟨E[j].2.toNat, by omega⟩
      have hrl : ((E.take j).foldl (setE mt 0) dk).length = n := by rw [foldS_len, hdl]
      have hs : (E.take (j + 1)).foldl (setE mt 0) dk = ((E.take j).foldl (setE mt 0) dk).set m1 (mt (((E.take j).foldl (setE mt 0) dk).getD m1 0) (((E.take j).foldl (setE mt 0) dk).getD m 0)) := by
        rw [foldE_succ (setE mt 0) E dk j hjl]
        show ((E.take j).foldl (setE mt 0) dk).set E[j].2.toNat (mt (((E.take j).foldl (setE mt 0) dk).getD E[j].2.toNat 0) (((E.take j).foldl (setE mt 0) dk).getD E[j].1.toNat 0)) = _
        rw [hm, hm', Int.toNat_natCast, Int.toNat_natCast]
      have HM1 := hide' (HMk.out j hjl)
      rw [hm] at q0
      rw [hm'] at q1
      rw [hm, hm', Int.toNat_natCast, Int.toNat_natCast] at HM1
      have hm1 : (0 : Int) ≤ (m : Int) := by omega
      have hm2 : (m : Int) < (n : Int) := by omega
      have hm3 : (0 : Int) ≤ (m1 : Int) := by omega
      have hm4 : (m1 : Int) < (n : Int) := by omega
      have hS' := hS.out.alloc (.cells #[.int .i64 (m : Int), .int .i64 (m1 : Int)] 36)
      obtain ⟨e0, e1, -⟩ := row2 (MapKept.heap_alloc wr (.cells #[.int .i64 (m : Int), .int .i64 (m1 : Int)] 36)).1
      obtain ⟨r0, -⟩ := hS'.1.at (m := m) (by omega) 0
      obtain ⟨t0, t1⟩ := hS'.1.at (m := m1) (by omega) 0
      have HN := hide' (hS'.set HD.out m1 (mt (((E.take j).foldl (setE mt 0) dk).getD m1 0) (((E.take j).foldl (setE mt 0) dk).getD m 0))).drew
      rw [← hs] at HN
      have hDz : D ≠ wr.heap.size := by have := hS.out.1.lt; omega
      (try dsimp only at r0 t0)
      clear hS hS' hag hm hm' hs he
      generalize ((E.take j).foldl (setE mt 0) dk).getD m1 0 = x1 at *
      generalize ((E.take j).foldl (setE mt 0) dk).getD m 0 = x0 at *
      go_wp2_with fail
      generalize wr.alloc (.cells #[.int .i64 (m : Int), .int .i64 (m1 : Int)] 36) = W at *
      generalize wr.heap.size = eb at *
      have HSt : Hid (∀ v, (W.drew.setCell ⟨D, m1, none⟩ v).cell? ⟨eb, 0, none⟩ = some (.int .i64 (m : Int)) ∧ (W.drew.setCell ⟨D, m1, none⟩ v).cell? ⟨eb, 1, none⟩ = some (.int .i64 (m1 : Int))) := fun v => by
        have hh := Below.heap_setCell W.drew ⟨D, m1, none⟩ v eb (fun h => hDz h.symm)
        exact ⟨(World.cell?_of_block hh).trans e0, (World.cell?_of_block hh).trans e1⟩
      clear q0 q1 g0 g1 HX HE HMk HNx
      refine wp_region_held_drew (S := (fun wx => wx.cell? ⟨eb, 0, none⟩ = some (.int .i64 (m : Int)) ∧ wx.cell? ⟨eb, 1, none⟩ = some (.int .i64 (m1 : Int)))) (by kernel_rfl) ⟨e0, e1⟩ (fun hHeld => ?_)
      refine take_yes (i := 0) 19 (v := ?_) rfl rfl (by kernel_rfl) (by kernel_rfl) (by kernel_rfl) (fun _ _ _ h => h) (by kernel_rfl) hHeld ?_ ?_
      rotate_left
      focus (intro w hSw; (try dsimp only at hSw); go_simp; (try with_reducible rfl))
      simp only [Act.put, List.setIfInBounds_toArray, List.set_cons_zero, List.set_cons_succ]
      refine take_yes (i := 1) 20 (v := ?_) rfl rfl (by kernel_rfl) (by kernel_rfl) (by kernel_rfl) (fun _ _ _ h => h) (by kernel_rfl) hHeld ?_ ?_
      rotate_left
      focus (intro w hSw; (try dsimp only at hSw); go_simp; (try with_reducible rfl))
      simp only [Act.put, List.setIfInBounds_toArray, List.set_cons_zero, List.set_cons_succ]
      refine take_yes (i := 2) 21 (v := ?_) rfl rfl (by kernel_rfl) (by kernel_rfl) (by kernel_rfl) (fun _ _ _ h => h) (by kernel_rfl) hHeld ?_ ?_
      rotate_left
      focus (intro w hSw; (try dsimp only at hSw); go_simp; (try with_reducible rfl))
      simp only [Act.put, List.setIfInBounds_toArray, List.set_cons_zero, List.set_cons_succ]
      refine take_yes (i := 3) 22 (v := ?_) rfl rfl (by kernel_rfl) (by kernel_rfl) (by kernel_rfl) (fun _ _ _ h => h) (by kernel_rfl) hHeld ?_ ?_
      rotate_left
      focus (intro w hSw; (try dsimp only at hSw); go_simp; (try with_reducible rfl))
      simp only [Act.put, List.setIfInBounds_toArray, List.set_cons_zero, List.set_cons_succ]
      refine take_yes (i := 4) 23 (v := ?_) rfl rfl (by kernel_rfl) (by kernel_rfl) (by kernel_rfl) (fun _ _ _ h => h) (by kernel_rfl) hHeld ?_ ?_
      rotate_left
      focus (intro w hSw; (try dsimp only at hSw); go_simp; (try with_reducible rfl))
      simp only [Act.put, List.setIfInBounds_toArray, List.set_cons_zero, List.set_cons_succ]
      refine take_yes (i := 5) 24 (v := ?_) rfl rfl (by kernel_rfl) (by kernel_rfl) (by kernel_rfl) (fun _ _ _ h => h) (by kernel_rfl) hHeld ?_ ?_
      rotate_left
      focus (intro w hSw; (try dsimp only at hSw); go_simp; (try with_reducible rfl))
      simp only [Act.put, List.setIfInBounds_toArray, List.set_cons_zero, List.set_cons_succ]
      refine take_yes (i := 6) 25 (v := ?_) rfl rfl (by kernel_rfl) (by kernel_rfl) (by kernel_rfl) (fun _ _ _ h => h) (by kernel_rfl) hHeld ?_ ?_
      rotate_left
      focus (intro w hSw; (try dsimp only at hSw); go_simp; (try with_reducible rfl))
      simp only [Act.put, List.setIfInBounds_toArray, List.set_cons_zero, List.set_cons_succ]
      refine take_yes (i := 7) 26 (v := ?_) rfl rfl (by kernel_rfl) (by kernel_rfl) (by kernel_rfl) (fun _ _ _ h => h) (by kernel_rfl) hHeld ?_ ?_
      rotate_left
      focus (intro w hSw; (try dsimp only at hSw); go_simp; (try with_reducible rfl))
      simp only [Act.put, List.setIfInBounds_toArray, List.set_cons_zero, List.set_cons_succ]
      refine take_yes (i := 9) 28 (v := ?_) rfl rfl (by kernel_rfl) (by kernel_rfl) (by kernel_rfl) (fun _ _ _ h => h) (by kernel_rfl) hHeld ?_ ?_
      rotate_left
      focus (intro w hSw; (try dsimp only at hSw); go_simp; (try with_reducible rfl))
      simp only [Act.put, List.setIfInBounds_toArray, List.set_cons_zero, List.set_cons_succ]
      refine take_yes (i := 10) 29 (v := ?_) rfl rfl (by kernel_rfl) (by kernel_rfl) (by kernel_rfl) (fun _ _ _ h => h) (by kernel_rfl) hHeld ?_ ?_
      rotate_left
      focus (intro w hSw; (try dsimp only at hSw); go_simp; (try with_reducible rfl))
      simp only [Act.put, List.setIfInBounds_toArray, List.set_cons_zero, List.set_cons_succ]
      refine take_yes (i := 11) 30 (v := ?_) rfl rfl (by kernel_rfl) (by kernel_rfl) (by kernel_rfl) (fun _ _ _ h => h) (by kernel_rfl) hHeld ?_ ?_
      rotate_left
      focus (intro w hSw; (try dsimp only at hSw); go_simp; (try with_reducible rfl))
      simp only [Act.put, List.setIfInBounds_toArray, List.set_cons_zero, List.set_cons_succ]
      refine take_yes (i := 12) 31 (v := ?_) rfl rfl (by kernel_rfl) (by kernel_rfl) (by kernel_rfl) (fun _ _ _ h => h) (by kernel_rfl) hHeld ?_ ?_
      rotate_left
      focus (intro w hSw; (try dsimp only at hSw); go_simp; (try with_reducible rfl))
      simp only [Act.put, List.setIfInBounds_toArray, List.set_cons_zero, List.set_cons_succ]
      refine wpAnyH_ready (rs := [8, 13]) (by kernel_rfl) (by simp) ?_
      refine AllReadyH.cons rfl (fun K hK => ?_) (AllReadyH.cons rfl (fun K hK => ?_) AllReadyH.nil)
      all_goals
        go_simp
        refine hK.out _ _ hHeld (fun hHeld => ?_)
        clear hK
        (try simp only [Act.put, List.setIfInBounds_toArray, List.set_cons_zero, List.set_cons_succ])
      focus
        refine wpAnyH_ready (rs := [13]) (by kernel_rfl) (by simp) ?_
        refine AllReadyH.cons rfl (fun K hK => ?_) AllReadyH.nil
        go_simp
        refine hK.out _ _ hHeld (fun hHeld => ?_)
        clear hK
        (try simp only [Act.put, List.setIfInBounds_toArray, List.set_cons_zero, List.set_cons_succ])
      rotate_left
      focus
        refine wpAnyH_ready (rs := [8]) (by kernel_rfl) (by simp) ?_
        refine AllReadyH.cons rfl (fun K hK => ?_) AllReadyH.nil
        go_simp
        refine hK.out _ _ hHeld (fun hHeld => ?_)
        clear hK
        (try simp only [Act.put, List.setIfInBounds_toArray, List.set_cons_zero, List.set_cons_succ])
      rotate_left
      all_goals
        refine wpAnyH_ready (rs := [14]) (by kernel_rfl) (by simp) ?_
        refine AllReadyH.cons rfl (fun K hK => ?_) AllReadyH.nil
        go_simp
        go_at_call 85
        refine (HM1.out _).mono ?_
        rintro e w5 ⟨rfl, e5⟩
        obtain rfl := e5
        have hS := hHeld
        go_wp2_with fail
        refine hK.out _ _ hS (fun hHeld => ?_)
        clear hK
        (try simp only [Act.put, List.setIfInBounds_toArray, List.set_cons_zero, List.set_cons_succ])
        refine take_yes (i := 15) 34 (v := ?_) rfl rfl (by kernel_rfl) (by kernel_rfl) (by kernel_rfl) (fun _ _ _ h => h) (by kernel_rfl) hHeld ?_ ?_
        rotate_left
        focus (intro w hSw; (try dsimp only at hSw); go_simp; (try with_reducible rfl))
        simp only [Act.put, List.setIfInBounds_toArray, List.set_cons_zero, List.set_cons_succ]
        refine wpAnyH_ready (rs := [16]) (by kernel_rfl) (by simp) ?_
        refine AllReadyH.cons rfl (fun K hK => ?_) AllReadyH.nil
        go_simp
        refine hK.out _ _ (HSt.out _) (fun hHeld => ?_)
        clear hK
        (try simp only [Act.put, List.setIfInBounds_toArray, List.set_cons_zero, List.set_cons_succ])
        refine wpAnyH_done (by kernel_rfl) ?_ _
        go_wp2
        go_roundw
        case rel => exact ⟨j + 1, by go_num, by omega, HN⟩
        case measure => simp [intOf]; omega
end Go.Proofs.Ytpnohgncnmbkdaa
/-
  sourcesOf of the program: for each vertex the set of those from which a way of one edge or more leads to it.
-/
namespace Go.Proofs.Ytpnohgncnmbkdaa
open Go.RowKit
set_option linter.unusedVariables false
set_option linter.unusedSimpArgs false

theorem infoVs : (Try.prog.info? 67).map (fun i => (i.zero, i.size, i.bytes)) = some (some (.int .u32 0), 1, 4) := by kernel_rfl

section
variable {α : Type} {V : α → Value} {ty : Nat} {s : List α} {w wr w' : World} {o : Obj}
/-- A box, a row behind it, and all ahead of both as it was. -/
def VSt (V : α → Value) (ty : Nat) (w : World) (o : Obj) (s : List α) (wr : World) : Prop := VRow V ty (w.heap.size + 1) s wr ∧ wr.heap[w.heap.size]? = some o ∧ Below w.heap.size w wr ∧ w.heap.size + 2 ≤ wr.heap.size
theorem VSt.set (h : VSt V ty w o s wr) (m : Nat) (x : α) : VSt V ty w o (s.set m x) (wr.setCell ⟨w.heap.size + 1, m, none⟩ (V x)) := by
  obtain ⟨h1, h2, h3, h4⟩ := h
  refine ⟨h1.set m x, (Below.heap_setCell wr _ _ _ (by show w.heap.size ≠ w.heap.size + 1; omega)).trans h2, h3.setCell (by show w.heap.size ≤ w.heap.size + 1; omega) _, by simp [World.setCell]; omega⟩
theorem VSt.grown {r : Option Nat} (h : VSt V ty w o s wr) (hg : wr.grownBy w' r) (hr : ∀ k, r = some k → w.heap.size + 2 ≤ k) : VSt V ty w o s w' := by
  obtain ⟨h1, h2, h3, h4⟩ := h
  exact ⟨h1.keep hg (fun e => by have := hr _ e; omega), (hg.block _ (by omega) (fun e => by have := hr _ e.symm; omega)).trans h2, h3.grown hg (by omega) (fun k hk => by have := hr k hk; omega), by have := hg.size; omega⟩
theorem VSt.drew (h : VSt V ty w o s wr) : VSt V ty w o s wr.drew := h.grown (r := none) ⟨rfl, rfl, rfl, Nat.le_refl _, fun _ _ _ => rfl⟩ (by simp)
theorem VSt.alloc (h : VSt V ty w o s wr) (o' : Obj) : VSt V ty w o s (wr.alloc o') := h.grown (World.grownBy_alloc wr o' none) (by simp)
theorem vSt_made {w1 : World} {n : Nat} {z : α} (hz : (V z).cells = #[V z]) (hown : w1.ownsRow (w.heap.size + 1) ty 1 (.slice (some ⟨(w.alloc o).heap.size, 0, none⟩) n n) n (madeCells (Value.cells (V z)) (n * 1)).toList) (hg : (w.alloc o).grownBy w1 none) : VSt V ty w o (List.replicate n z) w1 := by
  have hsz : (w.alloc o).heap.size = w.heap.size + 1 := by simp
  have hb : Below w.heap.size w (w.alloc o) := (Below.refl _ _).alloc (Nat.le_refl _) o
  rcases hown.2 with ⟨h1, _⟩ | ⟨g, cp, cur, h1, _, h3, _, _, h6, h7⟩
  · simp at h1
  · simp only [Value.slice.injEq, Option.some.injEq, Addr.mk.injEq, and_true, true_and] at h1
    obtain ⟨e1, e2⟩ := h1
    rw [hsz] at e1
    subst e1
    subst e2
    have hlt : w.heap.size + 1 < w1.heap.size := (Array.getElem?_eq_some_iff.1 h3).1
    refine ⟨?_, (hg.block w.heap.size (by simp) (by simp)).trans (MapKept.heap_alloc w o).1, hb.grown hg (by simp) (by simp), by omega⟩
    unfold VRow
    rw [h3]
    have hc : cur.toList = List.replicate n (V z) := by
      rw [List.take_of_length_le (by simp [h6])] at h7
      rw [h7, hz, toList_madeCells_one, Nat.mul_one]
    congr 2
    rw [List.map_replicate, ← hc]
end

set_option maxHeartbeats 800000 in
theorem sourcesMeet_any (x y : BV) (w : World) : Calls Try.prog 85 #[.int .u32 (x.toNat : Int), .int .u32 (y.toNat : Int)] w fun e w' => e = .returned (.int .u32 ((x ||| y).toNat : Int)) ∧ w = w' := by
  have HO := hide' (or_bv x y)
  go_enter Try.func85, Try.ntmps85
  go_wp2
  go_ret
  exact ⟨congrArg (fun z => Ending.returned (.int .u32 z)) HO.out, rfl⟩

set_option maxHeartbeats 800000 in
theorem has_any (x : BV) (v : Nat) (hv : v < 32) (w : World) : Calls Try.prog 53 #[.int .u32 (x.toNat : Int), .int .i64 (v : Int)] w fun e w' => e = .returned (.bool (x.getLsbD v)) ∧ w = w' := by
  have HO := hide' (has_bv x v)
  have h0 : (0 : Int) ≤ (v : Int) := by omega
  have h1 : (v : Int) ≤ 32 := by omega
  go_enter Try.func53, Try.ntmps53
  go_wp2
  go_ret
  exact ⟨ret_bool (by have := HO.out; simpa using this), rfl⟩

set_option maxHeartbeats 6400000 in
set_option maxRecDepth 100000 in
theorem sourcesOf_any (N n : Nat) (x : Value) (E : List Edg) (w : World) (hx : ESeg (fun b => b < N) w x E) (hN : N ≤ w.heap.size) (hn : n ≤ 20) (hE : InG n E) :
    Calls Try.prog 52 #[.agg #[.int .i64 (n : Int), x]] w fun e w' => ∃ D, e = .returned (.slice (some ⟨D, 0, none⟩) n n) ∧ w.heap.size ≤ D ∧ VRow (fun x : BV => Value.int .u32 (x.toNat : Int)) 67 D (srcF n E) w' ∧ Below w.heap.size w w' := by
  have HX := hide' hx
  have HE := hide' hE
  have Hsz := hide' hN
  have HCy : Hid (∀ wr o, VSt (fun x : BV => Value.int .u32 (x.toNat : Int)) 67 w o (srcI n E) wr → Calls Try.prog 84 #[.agg #[.int .i64 (n : Int), x], .slice (some ⟨w.heap.size + 1, 0, none⟩) n n, .func (.func 85) #[] #[]] wr fun e w' => e = .returned (.tuple #[]) ∧ Hid (VRow (fun x : BV => Value.int .u32 (x.toNat : Int)) 67 (w.heap.size + 1) (srcF n E) w' ∧ Below w.heap.size w w')) := fun wr o h => by
    refine (carryV_any N n (w.heap.size + 1) x E (· ||| ·) (srcI n E) wr (hx.agree (agree_below (h.2.2.1.mono hN))) (by omega) hn hE (srcI_len n E) h.1 (fun k j _ _ wx => sourcesMeet_any _ _ wx)).mono ?_
    rintro e w' ⟨rfl, h1, h2⟩
    rw [itE_car] at h1
    exact ⟨rfl, h1, h.2.2.1.grown h2 (by have := h.2.2.2; omega) (fun k hk => by simp at hk; omega)⟩
  obtain ⟨a, cap, rfl, hlc, hcm, -, -⟩ := hx
  unfold maxLen at hcm
  obtain ⟨i0, hi, hz0, hz1, hz2⟩ := info_parts infoVs
  have hnn : (0 : Int) ≤ (n : Int) := by omega
  have hn20 : (n : Int) ≤ 20 := by omega
  clear hE
  go_enter Try.func52, Try.ntmps52
  go_wp2_with (refine wpList_make_full _ rfl _ _ 64 rfl (w.heap.size + 1) 67 i0 (.int .u32 0) 1 Try.underlying64 hi hz0 hz1 .i64 .i64 _ _ n rfl rfl rfl rfl (by rw [hz2]; omega) (by unfold maxLen; omega) (by simp) ?_; intro w1 hown hgrow; have hS0 := hide' (vSt_made (V := (fun x : BV => Value.int .u32 (x.toNat : Int))) (z := (0 : BV)) rfl hown hgrow); obtain ⟨y0, y1, -⟩ := row2 hS0.out.2.1; clear hown hgrow)
  have hsz0 : (w.alloc (.cells #[.int .i64 (n : Int), .slice a E.length cap] 25)).heap.size = w.heap.size + 1 := by simp
  (try rw [hsz0])
  go_wp2_with fail
  go_loopw [12] (fun i wz => ∃ j : Nat, i = .int .i64 j ∧ j ≤ E.length ∧ Hid (VSt (fun x : BV => Value.int .u32 (x.toNat : Int)) 67 w (.cells #[.int .i64 (n : Int), .slice a E.length cap] 25) ((E.take j).foldl srcE (List.replicate n 0)) wz)) (fun i _ => E.length - (intOf i).toNat)
  case atStart => exact ⟨0, rfl, Nat.zero_le _, hS0⟩
  case round =>
    clear hS0 y0 y1
    obtain ⟨j, rfl, hj, hS⟩ := hrel
    obtain ⟨g0, g1, -⟩ := row2 hS.out.2.1
    by_cases hjl : j < E.length
    rotate_left
    · have hjl' : ¬ (j : Int) < (E.length : Int) := by omega
      obtain rfl : j = E.length := by omega
      have HN := hS.out
      rw [List.take_length] at HN
      have HC := hide' (HCy.out _ _ HN)
      clear hS HN HCy
      go_wp2_with fail
      refine HC.out.mono ?_
      rintro e w5 ⟨rfl, hF⟩
      go_wp2
      go_ret
      exact ⟨_, rfl, by omega, hF.out⟩
    have hjl' : (j : Int) < (E.length : Int) := by omega
    have hag := agree_below (hS.out.2.2.1.mono hN)
    obtain ⟨b, off, rfl, _, q0, q1⟩ := (HX.out.agree hag).at hjl
    have he := HE.out E[j] (List.getElem_mem hjl)
    obtain ⟨m, hm⟩ : ∃ m : Nat, E[j].1 = (m : Int) := ⟨E[j].1.toNat, by omega⟩
    obtain ⟨m1, hm'⟩ : ∃ m : Nat, E[j].2 = (m : Int) := ⟨E[j].2.toNat, by omega⟩
    have hrl : ((E.take j).foldl srcE (List.replicate n 0)).length = n := by rw [foldl_len srcE_len]; simp
    have hs : (E.take (j + 1)).foldl srcE (List.replicate n 0) = ((E.take j).foldl srcE (List.replicate n 0)).set m1 (((E.take j).foldl srcE (List.replicate n 0)).getD m1 0 ||| BitVec.twoPow 32 m) := by
      rw [foldE_succ srcE E _ j hjl]
      show ((E.take j).foldl srcE (List.replicate n 0)).set E[j].2.toNat (((E.take j).foldl srcE (List.replicate n 0)).getD E[j].2.toNat 0 ||| BitVec.twoPow 32 E[j].1.toNat) = _
      rw [hm, hm', Int.toNat_natCast, Int.toNat_natCast]
    rw [hm] at q0
    rw [hm'] at q1
    have hm1 : (0 : Int) ≤ (m : Int) := by omega
    have hm2 : (m : Int) < (n : Int) := by omega
    have hm3 : (0 : Int) ≤ (m1 : Int) := by omega
    have hm4 : (m1 : Int) < (n : Int) := by omega
    have hS' := hS.out.alloc (.cells #[.int .i64 (m : Int), .int .i64 (m1 : Int)] 36)
    obtain ⟨e0, e1, -⟩ := row2 (MapKept.heap_alloc wr (.cells #[.int .i64 (m : Int), .int .i64 (m1 : Int)] 36)).1
    obtain ⟨t0, t1⟩ := hS'.1.at (m := m1) (by omega) 0
    have HN := hide' (hS'.set m1 (((E.take j).foldl srcE (List.replicate n 0)).getD m1 0 ||| BitVec.twoPow 32 m)).drew
    rw [← hs] at HN
    have hDz : w.heap.size + 1 ≠ wr.heap.size := by have := hS.out.2.2.2; omega
    (try dsimp only at t0)
    have hsh1 := shl_bv m (by omega)
    have hsh2 : IntKind.u32.wrap (2 ^ m) = ((BitVec.twoPow 32 m).toNat : Int) := by rw [← hsh1, Int.one_mul]
    have hor := or_bv (((E.take j).foldl srcE (List.replicate n 0)).getD m1 0) (BitVec.twoPow 32 m)
    clear hS hS' hag hm hm' hs he HCy
    generalize ((E.take j).foldl srcE (List.replicate n 0)).getD m1 0 = x1 at *
    generalize BitVec.twoPow 32 m = z at *
    go_wp2_with fail
    generalize wr.alloc (.cells #[.int .i64 (m : Int), .int .i64 (m1 : Int)] 36) = W at *
    generalize wr.heap.size = eb at *
    have HSt : Hid (∀ v, (W.drew.setCell ⟨w.heap.size + 1, m1, none⟩ v).cell? ⟨eb, 0, none⟩ = some (.int .i64 (m : Int)) ∧ (W.drew.setCell ⟨w.heap.size + 1, m1, none⟩ v).cell? ⟨eb, 1, none⟩ = some (.int .i64 (m1 : Int))) := fun v => by
      have hh := Below.heap_setCell W.drew ⟨w.heap.size + 1, m1, none⟩ v eb (fun h => hDz h.symm)
      exact ⟨(World.cell?_of_block hh).trans e0, (World.cell?_of_block hh).trans e1⟩
    clear q0 q1 g0 g1 HX HE
    refine wp_region_held_drew (S := (fun wx => wx.cell? ⟨eb, 0, none⟩ = some (.int .i64 (m : Int)) ∧ wx.cell? ⟨eb, 1, none⟩ = some (.int .i64 (m1 : Int)))) (by kernel_rfl) ⟨e0, e1⟩ (fun hHeld => ?_)
    refine take_yes (i := 0) 16 (v := ?_) rfl rfl (by kernel_rfl) (by kernel_rfl) (by kernel_rfl) (fun _ _ _ h => h) (by kernel_rfl) hHeld ?_ ?_
    rotate_left
    focus (intro w hSw; (try dsimp only at hSw); go_simp; (try with_reducible rfl))
    simp only [Act.put, List.setIfInBounds_toArray, List.set_cons_zero, List.set_cons_succ]
    refine take_yes (i := 1) 17 (v := ?_) rfl rfl (by kernel_rfl) (by kernel_rfl) (by kernel_rfl) (fun _ _ _ h => h) (by kernel_rfl) hHeld ?_ ?_
    rotate_left
    focus (intro w hSw; (try dsimp only at hSw); go_simp; (try with_reducible rfl))
    simp only [Act.put, List.setIfInBounds_toArray, List.set_cons_zero, List.set_cons_succ]
    refine take_yes (i := 2) 18 (v := ?_) rfl rfl (by kernel_rfl) (by kernel_rfl) (by kernel_rfl) (fun _ _ _ h => h) (by kernel_rfl) hHeld ?_ ?_
    rotate_left
    focus (intro w hSw; (try dsimp only at hSw); go_simp; (try with_reducible rfl))
    simp only [Act.put, List.setIfInBounds_toArray, List.set_cons_zero, List.set_cons_succ]
    refine take_yes (i := 3) 19 (v := ?_) rfl rfl (by kernel_rfl) (by kernel_rfl) (by kernel_rfl) (fun _ _ _ h => h) (by kernel_rfl) hHeld ?_ ?_
    rotate_left
    focus (intro w hSw; (try dsimp only at hSw); go_simp; (try with_reducible rfl))
    simp only [Act.put, List.setIfInBounds_toArray, List.set_cons_zero, List.set_cons_succ]
    refine take_yes (i := 5) 21 (v := ?_) rfl rfl (by kernel_rfl) (by kernel_rfl) (by kernel_rfl) (fun _ _ _ h => h) (by kernel_rfl) hHeld ?_ ?_
    rotate_left
    focus (intro w hSw; (try dsimp only at hSw); go_simp; (try with_reducible rfl))
    simp only [Act.put, List.setIfInBounds_toArray, List.set_cons_zero, List.set_cons_succ]
    refine take_yes (i := 6) 22 (v := ?_) rfl rfl (by kernel_rfl) (by kernel_rfl) (by kernel_rfl) (fun _ _ _ h => h) (by kernel_rfl) hHeld ?_ ?_
    rotate_left
    focus (intro w hSw; (try dsimp only at hSw); go_simp; (try with_reducible rfl))
    simp only [Act.put, List.setIfInBounds_toArray, List.set_cons_zero, List.set_cons_succ]
    refine take_yes (i := 7) 23 (v := ?_) rfl rfl (by kernel_rfl) (by kernel_rfl) (by kernel_rfl) (fun _ _ _ h => h) (by kernel_rfl) hHeld ?_ ?_
    rotate_left
    focus (intro w hSw; (try dsimp only at hSw); go_simp; (try with_reducible rfl))
    simp only [Act.put, List.setIfInBounds_toArray, List.set_cons_zero, List.set_cons_succ]
    refine wpAnyH_ready (rs := [4]) (by kernel_rfl) (by simp) ?_
    refine AllReadyH.cons rfl (fun K hK => ?_) AllReadyH.nil
    go_simp
    refine hK.out _ _ hHeld (fun hHeld => ?_)
    clear hK
    (try simp only [Act.put, List.setIfInBounds_toArray, List.set_cons_zero, List.set_cons_succ])
    refine take_yes (i := 8) 24 (v := ?_) rfl rfl (by kernel_rfl) (by kernel_rfl) (by kernel_rfl) (fun _ _ _ h => h) (by kernel_rfl) hHeld ?_ ?_
    rotate_left
    focus (intro w hSw; (try dsimp only at hSw); go_simp; (try with_reducible rfl))
    simp only [Act.put, List.setIfInBounds_toArray, List.set_cons_zero, List.set_cons_succ]
    refine take_yes (i := 9) 25 (v := ?_) rfl rfl (by kernel_rfl) (by kernel_rfl) (by kernel_rfl) (fun _ _ _ h => h) (by kernel_rfl) hHeld ?_ ?_
    rotate_left
    focus (intro w hSw; (try dsimp only at hSw); go_simp; (try with_reducible rfl))
    simp only [Act.put, List.setIfInBounds_toArray, List.set_cons_zero, List.set_cons_succ]
    refine wpAnyH_ready (rs := [10]) (by kernel_rfl) (by simp) ?_
    refine AllReadyH.cons rfl (fun K hK => ?_) AllReadyH.nil
    go_simp
    refine hK.out _ _ (HSt.out _) (fun hHeld => ?_)
    clear hK
    (try simp only [Act.put, List.setIfInBounds_toArray, List.set_cons_zero, List.set_cons_succ])
    refine wpAnyH_done (by kernel_rfl) ?_ _
    go_wp2
    go_roundw
    case rel => exact ⟨j + 1, by go_num, by omega, HN⟩
    case measure => simp [intOf]; omega
end Go.Proofs.Ytpnohgncnmbkdaa
/-
  Leads of the program.
-/
namespace Go.Proofs.Ytpnohgncnmbkdaa
open Go.RowKit
set_option linter.unusedVariables false
set_option linter.unusedSimpArgs false

theorem leadsB_hv (n : Int) (E : List Edg) (p q : Int) : leadsB n E p q = (gB n E && (hvB n p && (hvB n q && leadsF n.toNat E p q (-1)))) := by
  simp only [leadsB, hvB, Bool.and_assoc]
theorem leads_src {n : Nat} {E : List Edg} (hg : gB (n : Int) E = true) {p q : Int} (hp : 0 ≤ p) (hq : 0 ≤ q) : leadsF n E p q (-1) = (bvAt (srcF n E) q).getLsbD p.toNat := by
  have hE := g_in hg
  have hn : n ≤ 20 := by have := (gB_iff.1 hg).2.1; omega
  rw [Bool.eq_iff_iff, leads_iff hE, src_iff hn hE _ hq, Int.toNat_of_nonneg hp]
/-- What sourcesOf leaves, asked of a graph that may be. -/
theorem sources_g (N : Nat) (n : Int) (x : Value) (E : List Edg) (w : World) (hx : ESeg (fun b => b < N) w x E) (hN : N ≤ w.heap.size) (hg : gB n E = true) :
    Calls Try.prog 52 #[.agg #[.int .i64 n, x]] w fun e w' => ∃ D, e = .returned (.slice (some ⟨D, 0, none⟩) n.toNat n.toNat) ∧ w.heap.size ≤ D ∧ VRow (fun x : BV => Value.int .u32 (x.toNat : Int)) 67 D (srcF n.toNat E) w' ∧ Below w.heap.size w w' := by
  obtain ⟨h0, h1, _⟩ := gB_iff.1 hg
  obtain ⟨m, rfl⟩ : ∃ m : Nat, n = (m : Int) := ⟨n.toNat, by omega⟩
  have := sourcesOf_any N m x E w hx hN (by omega) (g_in hg)
  simpa using this

set_option maxHeartbeats 3200000 in
set_option maxRecDepth 100000 in
theorem impl_Leads_any (N : Nat) (n : Int) (x : Value) (E : List Edg) (p q : Int) (w : World) (hx : ESeg (fun b => b < N) w x E) (hN : N ≤ w.heap.size) :
    Calls Try.prog 26 #[.agg #[.int .i64 n, x], .int .i64 p, .int .i64 q] w fun e w' => e = .returned (.bool (leadsB n E p q)) ∧ Below w.heap.size w w' := by
  have HX : Hid (∀ wx, Below w.heap.size w wx → ESeg (fun b => b < N) wx x E) := fun wx hb => hx.agree (agree_below (hb.mono hN))
  have Hb : Hid (∀ o : Obj, Below w.heap.size w (w.alloc o)) := fun o => (Below.refl _ _).alloc (Nat.le_refl _) o
  have Hbox : Hid (∀ o wx, Below (w.alloc o).heap.size (w.alloc o) wx → wx.heap[w.heap.size]? = some o) := fun o wx h => box_row h
  have HG : Hid (∀ wx, Below w.heap.size w wx → Calls Try.prog 18 #[.agg #[.int .i64 n, x]] wx fun e w' => e = .returned (.bool (gB n E)) ∧ Below wx.heap.size wx w') := fun wx hb => impl_GraphOk_any N n x E wx (HX.out wx hb) (by have := hb.size; omega)
  have HV : Hid (∀ v wx, Calls Try.prog 49 #[.agg #[.int .i64 n, x], .int .i64 v] wx fun e w' => e = .returned (.bool (hvB n v)) ∧ Below wx.heap.size wx w') := fun v wx => hasVert_any n v x wx
  have HSr : Hid (gB n E = true → ∀ wx, Below w.heap.size w wx → Calls Try.prog 52 #[.agg #[.int .i64 n, x]] wx fun e w' => ∃ D, e = .returned (.slice (some ⟨D, 0, none⟩) n.toNat n.toNat) ∧ wx.heap.size ≤ D ∧ VRow (fun x : BV => Value.int .u32 (x.toNat : Int)) 67 D (srcF n.toNat E) w' ∧ Below wx.heap.size wx w') := fun hg wx hb => sources_g N n x E wx (HX.out wx hb) (by have := hb.size; omega) hg
  have HL := hide' (leadsB_hv n E p q)
  obtain ⟨a, cap, rfl, -⟩ := hx
  clear HX
  generalize hll : E.length = ll at *
  cases hg : gB n E with
  | false =>
    have HF : Hid (leadsB n E p q = false) := by show _ = _; rw [HL.out, hg]; rfl
    rw [hg] at HG
    clear HSr HL HV
    go_enter Try.func26, Try.ntmps26
    go_wp2_with fail
    refine (HG.out _ (Hb.out _)).mono ?_
    rintro e w1 ⟨rfl, b1⟩
    have B1 := hide' (Below.on (Hb.out _) b1)
    clear b1
    go_wp2
    go_ret
    exact ⟨ret_bool HF.out.symm, B1.out⟩
  | true =>
    have hg0 := hg
    rw [hg] at HG
    have HV1 := hide' (HV.out p)
    have HV2 := hide' (HV.out q)
    clear HV
    cases h1 : hvB n p with
    | false =>
      have HF : Hid (leadsB n E p q = false) := by show _ = _; rw [HL.out, hg, h1]; rfl
      rw [h1] at HV1
      clear HSr HL HV2
      go_enter Try.func26, Try.ntmps26
      go_wp2_with fail
      refine (HG.out _ (Hb.out _)).mono ?_
      rintro e w1 ⟨rfl, b1⟩
      obtain ⟨y0, y1, -⟩ := row2 (Hbox.out _ _ b1)
      have B1 := hide' (Below.on (Hb.out _) b1)
      clear b1
      go_wp2_with fail
      refine (HV1.out _).mono ?_
      rintro e w2 ⟨rfl, b2⟩
      have B2 := hide' (Below.on B1.out b2)
      clear b2 y0 y1
      go_wp2
      go_ret
      exact ⟨ret_bool HF.out.symm, B2.out⟩
    | true =>
      rw [h1] at HV1
      cases h2 : hvB n q with
      | false =>
        have HF : Hid (leadsB n E p q = false) := by show _ = _; rw [HL.out, hg, h1, h2]; rfl
        rw [h2] at HV2
        clear HSr HL
        go_enter Try.func26, Try.ntmps26
        go_wp2_with fail
        refine (HG.out _ (Hb.out _)).mono ?_
        rintro e w1 ⟨rfl, b1⟩
        obtain ⟨y0, y1, -⟩ := row2 (Hbox.out _ _ b1)
        have B1 := hide' b1
        clear b1
        go_wp2_with fail
        refine (HV1.out _).mono ?_
        rintro e w2 ⟨rfl, b2⟩
        have B2 := hide' (Below.on B1.out b2)
        clear b2 y0 y1 B1
        obtain ⟨y0, y1, -⟩ := row2 (Hbox.out _ _ B2.out)
        go_wp2_with fail
        refine (HV2.out _).mono ?_
        rintro e w3 ⟨rfl, b3⟩
        have B3 := hide' (Below.on (Hb.out _) (Below.on B2.out b3))
        clear b3 y0 y1
        go_wp2
        go_ret
        exact ⟨ret_bool HF.out.symm, B3.out⟩
      | true =>
        rw [h2] at HV2
        obtain ⟨c0, c1, _⟩ := gB_iff.1 hg
        simp only [hvB, Bool.and_eq_true, decide_eq_true_eq] at h1 h2
        obtain ⟨m, rfl⟩ : ∃ m : Nat, n = (m : Int) := ⟨n.toNat, by omega⟩
        obtain ⟨p', rfl⟩ : ∃ m : Nat, p = (m : Int) := ⟨p.toNat, by omega⟩
        obtain ⟨q', rfl⟩ : ∃ m : Nat, q = (m : Int) := ⟨q.toNat, by omega⟩
        have HF : Hid (leadsB (m : Int) E (p' : Int) (q' : Int) = ((srcF m E).getD q' 0).getLsbD p') := by
          show _ = _
          rw [HL.out, hg]
          have e1 : hvB (m : Int) (p' : Int) = true := by simp only [hvB, Bool.and_eq_true, decide_eq_true_eq]; exact h1
          have e2 : hvB (m : Int) (q' : Int) = true := by simp only [hvB, Bool.and_eq_true, decide_eq_true_eq]; exact h2
          rw [e1, e2, Int.toNat_natCast, leads_src hg h1.1 h2.1]
          simp [bvAt]
        have HSr' := hide' (HSr.out hg)
        have hsl := srcF_len m E
        simp only [Int.toNat_natCast] at HSr'
        have k1 : (0 : Int) ≤ (q' : Int) := h2.1
        have k2 : (q' : Int) < (m : Int) := h2.2
        have k3 : p' < 32 := by omega
        have k4 : q' < m := by omega
        clear HSr HL h1 h2 c0 c1
        generalize srcF m E = sr at *
        go_enter Try.func26, Try.ntmps26
        go_wp2_with fail
        refine (HG.out _ (Hb.out _)).mono ?_
        rintro e w1 ⟨rfl, b1⟩
        obtain ⟨y0, y1, -⟩ := row2 (Hbox.out _ _ b1)
        have B1 := hide' b1
        clear b1
        go_wp2_with fail
        refine (HV1.out _).mono ?_
        rintro e w2 ⟨rfl, b2⟩
        have B2 := hide' (Below.on B1.out b2)
        clear b2 y0 y1 B1
        obtain ⟨y0, y1, -⟩ := row2 (Hbox.out _ _ B2.out)
        go_wp2_with fail
        refine (HV2.out _).mono ?_
        rintro e w3 ⟨rfl, b3⟩
        have B3 := hide' (Below.on B2.out b3)
        clear b3 y0 y1 B2
        obtain ⟨y0, y1, -⟩ := row2 (Hbox.out _ _ B3.out)
        go_wp2_with fail
        refine (HSr'.out _ (Below.on (Hb.out _) B3.out)).mono ?_
        rintro e w4 ⟨D, rfl, -, hrow, b4⟩
        have B4 := hide' (Below.on (Below.on (Hb.out _) B3.out) b4)
        obtain ⟨r0, -⟩ := hrow.at (m := q') (by omega) 0
        (try dsimp only at r0)
        have HH := hide' (has_any (sr.getD q' 0) p' k3)
        clear b4 y0 y1 B3 hrow
        generalize sr.getD q' 0 = bv at *
        go_wp2_with fail
        refine (HH.out _).mono ?_
        rintro e w5 ⟨rfl, e5⟩
        obtain rfl := e5
        go_wp2
        go_ret
        exact ⟨ret_bool HF.out.symm, B4.out⟩
end Go.Proofs.Ytpnohgncnmbkdaa
