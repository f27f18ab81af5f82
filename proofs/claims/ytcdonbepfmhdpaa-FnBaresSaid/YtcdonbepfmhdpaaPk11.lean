/-
  Texts that a law leans on, one behind the other; no statement is proved here.
-/
import Derived.Test.YtcdonbepfmhdpaaPk9
import Derived.Test.YtcdonbepfmhdpaaPk5
import Derived.Test.YtcdonbepfmhdpaaPk0
import Derived.Shelf.Abstract
import Derived.Deep.Cut
import Derived.Deep.AppendLies
/-
  A heap of numbers in memory: the methods of the program's own heap, as the library calls them through an interface: Len, Less, Swap.
-/
namespace Go.Proofs.Ytcdonbepfmhdpaa
open Go.RowKit Go.Shelf
set_option linter.unusedVariables false
set_option linter.unusedSimpArgs false

theorem nilchk (ts : Array TypeId) (t : TypeId) (a : Addr) (s1 s2 : ByteArray) : Builtin.ssaWrapNilChk_ ts t #[.pointer (some a), .string s1, .string s2] = pure (.pointer (some a)) := rfl
theorem findLen : Array.find? (fun x => x.name == "Len") Try.t67.methods = some { name := "Len", sig := 70, path := #[], func := some (40, false) } := by kernel_rfl
set_option maxRecDepth 100000 in
theorem methLen (Bp : Nat) (s : Value) (w : World) (h : w.cell? ⟨Bp, 0, none⟩ = some s) : (method 224 67 (.pointer (some ⟨Bp, 0, none⟩)) "Len").run Try.prog w = .ok (40, s) w := by
  unfold method
  simp [go_sem, follow, receiverAt, Place.get, findLen, nilchk, strVal, h]
theorem callsLen (args : Array Value) (w : World) : (callFunc 40 args).run Try.prog w = .ok (.enter 40 args) w := enters_of Try.func40 (by kernel_rfl) rfl args w
theorem findLess : Array.find? (fun x => x.name == "Less") Try.t67.methods = some { name := "Less", sig := 99, path := #[], func := some (86, false) } := by kernel_rfl
set_option maxRecDepth 100000 in
theorem methLess (Bp : Nat) (s : Value) (w : World) (h : w.cell? ⟨Bp, 0, none⟩ = some s) : (method 224 67 (.pointer (some ⟨Bp, 0, none⟩)) "Less").run Try.prog w = .ok (86, s) w := by
  unfold method
  simp [go_sem, follow, receiverAt, Place.get, findLess, nilchk, strVal, h]
theorem callsLess (args : Array Value) (w : World) : (callFunc 86 args).run Try.prog w = .ok (.enter 86 args) w := enters_of Try.func86 (by kernel_rfl) rfl args w
theorem findSwap : Array.find? (fun x => x.name == "Swap") Try.t67.methods = some { name := "Swap", sig := 85, path := #[], func := some (89, false) } := by kernel_rfl
set_option maxRecDepth 100000 in
theorem methSwap (Bp : Nat) (s : Value) (w : World) (h : w.cell? ⟨Bp, 0, none⟩ = some s) : (method 224 67 (.pointer (some ⟨Bp, 0, none⟩)) "Swap").run Try.prog w = .ok (89, s) w := by
  unfold method
  simp [go_sem, follow, receiverAt, Place.get, findSwap, nilchk, strVal, h]
theorem callsSwap (args : Array Value) (w : World) : (callFunc 89 args).run Try.prog w = .ok (.enter 89 args) w := enters_of Try.func89 (by kernel_rfl) rfl args w
set_option maxRecDepth 100000 in
theorem methPush (a : Addr) (w : World) : (method 224 67 (.pointer (some a)) "Push").run Try.prog w = .ok (88, .pointer (some a)) w := by kernel_rfl
theorem callsPush (args : Array Value) (w : World) : (callFunc 88 args).run Try.prog w = .ok (.enter 88 args) w := enters_of Try.func88 (by kernel_rfl) rfl args w
set_option maxRecDepth 100000 in
theorem methPop (a : Addr) (w : World) : (method 224 67 (.pointer (some a)) "Pop").run Try.prog w = .ok (87, .pointer (some a)) w := by kernel_rfl
theorem callsPop (args : Array Value) (w : World) : (callFunc 87 args).run Try.prog w = .ok (.enter 87 args) w := enters_of Try.func87 (by kernel_rfl) rfl args w

/-- What R names is as it was. -/
structure Fr (R : Nat → Prop) (w w' : World) : Prop where
  os : w'.os = w.os
  tape : w'.tape = w.tape
  output : w'.output = w.output
  size : w.heap.size ≤ w'.heap.size
  block : ∀ k, R k → w'.heap[k]? = w.heap[k]?
theorem Fr.refl (R : Nat → Prop) (w : World) : Fr R w w := ⟨rfl, rfl, rfl, Nat.le_refl _, fun _ _ => rfl⟩
theorem Fr.trans {R : Nat → Prop} {a b c : World} (h : Fr R a b) (k : Fr R b c) : Fr R a c := ⟨k.os.trans h.os, k.tape.trans h.tape, k.output.trans h.output, Nat.le_trans h.size k.size, fun i hi => (k.block i hi).trans (h.block i hi)⟩
theorem Fr.mono {R R' : Nat → Prop} {a b : World} (h : Fr R a b) (hr : ∀ k, R' k → R k) : Fr R' a b := ⟨h.os, h.tape, h.output, h.size, fun k hk => h.block k (hr k hk)⟩
theorem fr_drewN (R : Nat → Prop) (w : World) (q : Nat) : Fr R w (w.drewN q) := by
  have h := below_drewN (Below.refl w.heap.size w) q
  have h2 : (w.drewN q).heap = w.heap := by
    induction q with
    | zero => rfl
    | succ q ih => first | exact ih | rfl
  exact ⟨h.os, h.tape, h.output, h.size, fun k _ => by rw [h2]⟩
theorem fr_grown {R : Nat → Prop} {w w' : World} {r : Option Nat} (h : w.grownBy w' r) (hR : ∀ k, R k → k < w.heap.size) (hr : ∀ k, r = some k → ¬ R k) : Fr R w w' := ⟨h.os, h.tape, h.output, h.size, fun k hk => h.block k (hR k hk) (fun e => hr k e.symm hk)⟩

/-- A heap: the pointer's block, the row, in none of the blocks that R names. -/
def HSt (R : Nat → Prop) (Bp : Nat) (u : Value) (H : List Int) (w : World) : Prop :=
  w.heap[Bp]? = some (.cells #[u] 68 (0, 0)) ∧ NOwn w 0 u H ∧ (∀ b, u.ownBlock = some b → ¬ R b ∧ b ≠ Bp) ∧ ¬ R Bp ∧ ∀ b, R b → b < w.heap.size
theorem HSt.cell {R : Nat → Prop} {Bp : Nat} {u : Value} {H : List Int} {w : World} (h : HSt R Bp u H w) : w.cell? ⟨Bp, 0, none⟩ = some u ∧ w.frozen? ⟨Bp, 0, none⟩ = false := ⟨by rw [cell_of_row w Bp 0 _ _ _ h.1]; rfl, frozen_of_row w Bp 0 _ _ h.1⟩
theorem HSt.drewN {R : Nat → Prop} {Bp : Nat} {u : Value} {H : List Int} {w : World} (h : HSt R Bp u H w) (q : Nat) : HSt R Bp u H (w.drewN q) := by
  have hb := below_drewN (Below.refl w.heap.size w) q
  obtain ⟨h1, h2, h3, h4, h5⟩ := h
  exact ⟨(hb.block Bp (Array.getElem?_eq_some_iff.1 h1).1).trans h1, h2.on hb, h3, h4, fun b hb' => Nat.lt_of_lt_of_le (h5 b hb') hb.size⟩

theorem nOwn_set {w : World} {base g c k : Nat} {H : List Int} (h : NOwn w base (.slice (some ⟨g, 0, none⟩) H.length c) H) (hk : k < H.length) (x : Int) : NOwn (w.setCell ⟨g, k, none⟩ (.int .i64 x)) base (.slice (some ⟨g, 0, none⟩) H.length c) (H.set k x) := by
  obtain ⟨h1, ⟨h2, _⟩ | ⟨g', cap, cur, e, hb, hg, hn, hm, hs, ht⟩⟩ := h
  · simp at h2
  · simp only [Value.slice.injEq, Option.some.injEq, Addr.mk.injEq, and_true, true_and] at e
    obtain ⟨rfl, rfl⟩ := e
    refine ⟨by simp [iC], .inr ⟨g, c, cur.setIfInBounds k (.int .i64 x), by simp, hb, heap_setCell_same w g k _ _ _ hg, by simpa using hn, hm, by simpa using hs, ?_⟩⟩
    rw [Array.toList_setIfInBounds, List.length_set, List.take_set, ht]
    simp [iC, List.map_set]
theorem nOwn_cell {w : World} {base g c k : Nat} {H : List Int} (h : NOwn w base (.slice (some ⟨g, 0, none⟩) H.length c) H) (hk : k < H.length) : w.cell? ⟨g, k, none⟩ = some (.int .i64 (hp H k)) ∧ w.frozen? ⟨g, k, none⟩ = false := by
  obtain ⟨b, off, e, _, hc⟩ := h.seg.at hk
  obtain ⟨h1, ⟨h2, _⟩ | ⟨g', cap, cur, e', hb, hg, hn, hm, hs, ht⟩⟩ := h
  · simp at h2
  · simp only [Value.slice.injEq, Option.some.injEq, Addr.mk.injEq, and_true, true_and] at e e'
    obtain ⟨rfl, rfl⟩ := e
    obtain ⟨rfl, rfl⟩ := e'
    refine ⟨?_, frozen_of_row w g k _ _ hg⟩
    rw [hp_get hk]
    simpa using hc
theorem nOwn_some {w : World} {base : Nat} {u : Value} {H : List Int} (h : NOwn w base u H) (hl : 0 < H.length) : ∃ g c, u = .slice (some ⟨g, 0, none⟩) H.length c ∧ H.length ≤ c := by
  obtain ⟨h1, ⟨rfl, h2⟩ | ⟨g', cap, cur, e', hb, hg, hn, hm, hs, ht⟩⟩ := h
  · omega
  · exact ⟨g', cap, e', hn⟩

set_option maxHeartbeats 800000 in
theorem len_any (a : Option Addr) (L c : Nat) (w : World) : Calls Try.prog 40 #[.slice a L c] w fun e w' => e = .returned (.int .i64 (L : Int)) ∧ w = w' := by
  go_enter Try.func40, Try.ntmps40
  go_wp2
  go_ret
  exact ⟨rfl, rfl⟩

set_option maxHeartbeats 1600000 in
theorem less_any (g c i j : Nat) (H : List Int) (w : World) (h : NOwn w 0 (.slice (some ⟨g, 0, none⟩) H.length c) H) (hi : i < H.length) (hj : j < H.length) :
    Calls Try.prog 86 #[.slice (some ⟨g, 0, none⟩) H.length c, .int .i64 (i : Int), .int .i64 (j : Int)] w fun e w' => e = .returned (.bool (decide (hp H i < hp H j))) ∧ ∃ q, w' = w.drewN q := by
  obtain ⟨q0, -⟩ := nOwn_cell h hi
  obtain ⟨q1, -⟩ := nOwn_cell h hj
  have hi0 : (0 : Int) ≤ (i : Int) := by omega
  have hi1 : (i : Int) < (H.length : Int) := by omega
  have hj0 : (0 : Int) ≤ (j : Int) := by omega
  have hj1 : (j : Int) < (H.length : Int) := by omega
  clear h hi hj
  generalize H.length = L at *
  generalize hp H i = a at *
  generalize hp H j = b at *
  by_cases hlt : a < b
  · go_enter Try.func86, Try.ntmps86
    go_wp2_with fail
    go_quiet (fail)
    go_wp2
    go_ret
    exact ⟨ret_bool (by simp [hlt]), _, rfl⟩
  · go_enter Try.func86, Try.ntmps86
    go_wp2_with fail
    go_quiet (fail)
    go_wp2
    go_ret
    exact ⟨ret_bool (by simp [hlt]), _, rfl⟩

set_option maxHeartbeats 3200000 in
set_option maxRecDepth 100000 in
theorem swap_any (g c i j : Nat) (H : List Int) (w : World) (h : NOwn w 0 (.slice (some ⟨g, 0, none⟩) H.length c) H) (hi : i < H.length) (hj : j < H.length) :
    Calls Try.prog 89 #[.slice (some ⟨g, 0, none⟩) H.length c, .int .i64 (i : Int), .int .i64 (j : Int)] w fun e w' => e = .returned (.tuple #[]) ∧ NOwn w' 0 (.slice (some ⟨g, 0, none⟩) H.length c) (swapL H i j) ∧ w.grownBy w' (some g) := by
  obtain ⟨q0, f0⟩ := nOwn_cell h hi
  obtain ⟨q1, f1⟩ := nOwn_cell h hj
  have h2 := nOwn_set h hi (hp H j)
  have h2' : NOwn (w.setCell ⟨g, i, none⟩ (.int .i64 (hp H j))) 0 (.slice (some ⟨g, 0, none⟩) (H.set i (hp H j)).length c) (H.set i (hp H j)) := by simpa using h2
  obtain ⟨q2, f2⟩ := nOwn_cell (k := j) h2' (by simpa using hj)
  have h3 := nOwn_set h2' (by simpa using hj) (hp H i)
  have HE : Hid (NOwn ((w.setCell ⟨g, i, none⟩ (.int .i64 (hp H j))).setCell ⟨g, j, none⟩ (.int .i64 (hp H i))).drew 0 (.slice (some ⟨g, 0, none⟩) H.length c) (swapL H i j) ∧ w.grownBy ((w.setCell ⟨g, i, none⟩ (.int .i64 (hp H j))).setCell ⟨g, j, none⟩ (.int .i64 (hp H i))).drew (some g)) := by
    have hg := grownBy_trans (grown1 w g i (.int .i64 (hp H j))) (grown1 (w.setCell ⟨g, i, none⟩ (.int .i64 (hp H j))) g j (.int .i64 (hp H i)))
    refine ⟨?_, ⟨hg.os, hg.tape, hg.output, hg.size, hg.block⟩⟩
    have h4 : NOwn ((w.setCell ⟨g, i, none⟩ (.int .i64 (hp H j))).setCell ⟨g, j, none⟩ (.int .i64 (hp H i))) 0 (.slice (some ⟨g, 0, none⟩) H.length c) (swapL H i j) := by simpa [swapL] using h3
    exact h4.on ((Below.refl _ _).drew)
  have hi0 : (0 : Int) ≤ (i : Int) := by omega
  have hi1 : (i : Int) < (H.length : Int) := by omega
  have hj0 : (0 : Int) ≤ (j : Int) := by omega
  have hj1 : (j : Int) < (H.length : Int) := by omega
  clear h h2 h2' h3 hi hj
  generalize H.length = L at *
  generalize hp (H.set i (hp H j)) j = z at *
  generalize hp H i = a at *
  generalize hp H j = b at *
  go_enter Try.func89, Try.ntmps89
  go_wp2_with fail
  refine wp_region_held_drew (S := (fun _ => True)) (by kernel_rfl) trivial (fun hHeld => ?_)
  refine take_yes (i := 0) 6 (v := ?_) rfl rfl (by kernel_rfl) (by kernel_rfl) (by kernel_rfl) (fun _ _ _ h => h) (by kernel_rfl) hHeld ?_ ?_
  rotate_left
  focus (intro w hSw; (try dsimp only at hSw); go_simp; (try with_reducible rfl))
  simp only [Act.put, List.setIfInBounds_toArray, List.set_cons_zero, List.set_cons_succ]
  refine take_yes (i := 1) 7 (v := ?_) rfl rfl (by kernel_rfl) (by kernel_rfl) (by kernel_rfl) (fun _ _ _ h => h) (by kernel_rfl) hHeld ?_ ?_
  rotate_left
  focus (intro w hSw; (try dsimp only at hSw); go_simp; (try with_reducible rfl))
  simp only [Act.put, List.setIfInBounds_toArray, List.set_cons_zero, List.set_cons_succ]
  refine take_yes (i := 2) 8 (v := ?_) rfl rfl (by kernel_rfl) (by kernel_rfl) (by kernel_rfl) (fun _ _ _ h => h) (by kernel_rfl) hHeld ?_ ?_
  rotate_left
  focus (intro w hSw; (try dsimp only at hSw); go_simp; (try with_reducible rfl))
  simp only [Act.put, List.setIfInBounds_toArray, List.set_cons_zero, List.set_cons_succ]
  refine take_yes (i := 3) 9 (v := ?_) rfl rfl (by kernel_rfl) (by kernel_rfl) (by kernel_rfl) (fun _ _ _ h => h) (by kernel_rfl) hHeld ?_ ?_
  rotate_left
  focus (intro w hSw; (try dsimp only at hSw); go_simp; (try with_reducible rfl))
  simp only [Act.put, List.setIfInBounds_toArray, List.set_cons_zero, List.set_cons_succ]
  refine take_yes (i := 4) 10 (v := ?_) rfl rfl (by kernel_rfl) (by kernel_rfl) (by kernel_rfl) (fun _ _ _ h => h) (by kernel_rfl) hHeld ?_ ?_
  rotate_left
  focus (intro w hSw; (try dsimp only at hSw); go_simp; (try with_reducible rfl))
  simp only [Act.put, List.setIfInBounds_toArray, List.set_cons_zero, List.set_cons_succ]
  refine take_yes (i := 5) 11 (v := ?_) rfl rfl (by kernel_rfl) (by kernel_rfl) (by kernel_rfl) (fun _ _ _ h => h) (by kernel_rfl) hHeld ?_ ?_
  rotate_left
  focus (intro w hSw; (try dsimp only at hSw); go_simp; (try with_reducible rfl))
  simp only [Act.put, List.setIfInBounds_toArray, List.set_cons_zero, List.set_cons_succ]
  refine take_yes (i := 6) 12 (v := ?_) rfl rfl (by kernel_rfl) (by kernel_rfl) (by kernel_rfl) (fun _ _ _ h => h) (by kernel_rfl) hHeld ?_ ?_
  rotate_left
  focus (intro w hSw; (try dsimp only at hSw); go_simp; (try with_reducible rfl))
  simp only [Act.put, List.setIfInBounds_toArray, List.set_cons_zero, List.set_cons_succ]
  refine take_yes (i := 8) 14 (v := ?_) rfl rfl (by kernel_rfl) (by kernel_rfl) (by kernel_rfl) (fun _ _ _ h => h) (by kernel_rfl) hHeld ?_ ?_
  rotate_left
  focus (intro w hSw; (try dsimp only at hSw); go_simp; (try with_reducible rfl))
  simp only [Act.put, List.setIfInBounds_toArray, List.set_cons_zero, List.set_cons_succ]
  refine take_yes (i := 9) 15 (v := ?_) rfl rfl (by kernel_rfl) (by kernel_rfl) (by kernel_rfl) (fun _ _ _ h => h) (by kernel_rfl) hHeld ?_ ?_
  rotate_left
  focus (intro w hSw; (try dsimp only at hSw); go_simp; (try with_reducible rfl))
  simp only [Act.put, List.setIfInBounds_toArray, List.set_cons_zero, List.set_cons_succ]
  refine take_yes (i := 10) 16 (v := ?_) rfl rfl (by kernel_rfl) (by kernel_rfl) (by kernel_rfl) (fun _ _ _ h => h) (by kernel_rfl) hHeld ?_ ?_
  rotate_left
  focus (intro w hSw; (try dsimp only at hSw); go_simp; (try with_reducible rfl))
  simp only [Act.put, List.setIfInBounds_toArray, List.set_cons_zero, List.set_cons_succ]
  refine wpAnyH_ready (rs := [7, 11]) (by kernel_rfl) (by simp) ?_
  refine AllReadyH.cons rfl (fun K hK => ?_) (AllReadyH.cons rfl (fun K hK => ?_) AllReadyH.nil)
  all_goals
    go_simp
    refine hK.out _ _ hHeld (fun hHeld => ?_)
    clear hK
    (try simp only [Act.put, List.setIfInBounds_toArray, List.set_cons_zero, List.set_cons_succ])
  focus
    refine wpAnyH_ready (rs := [11]) (by kernel_rfl) (by simp) ?_
    refine AllReadyH.cons rfl (fun K hK => ?_) AllReadyH.nil
    go_simp
    refine hK.out _ _ hHeld (fun hHeld => ?_)
    clear hK
    (try simp only [Act.put, List.setIfInBounds_toArray, List.set_cons_zero, List.set_cons_succ])
  rotate_left
  focus
    refine wpAnyH_ready (rs := [7]) (by kernel_rfl) (by simp) ?_
    refine AllReadyH.cons rfl (fun K hK => ?_) AllReadyH.nil
    go_simp
    refine hK.out _ _ hHeld (fun hHeld => ?_)
    clear hK
    (try simp only [Act.put, List.setIfInBounds_toArray, List.set_cons_zero, List.set_cons_succ])
  rotate_left
  all_goals
    refine take_yes (i := 12) 18 (v := ?_) rfl rfl (by kernel_rfl) (by kernel_rfl) (by kernel_rfl) (fun _ _ _ h => h) (by kernel_rfl) hHeld ?_ ?_
    rotate_left
    focus (intro w hSw; (try dsimp only at hSw); go_simp; (try with_reducible rfl))
    simp only [Act.put, List.setIfInBounds_toArray, List.set_cons_zero, List.set_cons_succ]
    refine wpAnyH_ready (rs := [13]) (by kernel_rfl) (by simp) ?_
    refine AllReadyH.cons rfl (fun K hK => ?_) AllReadyH.nil
    go_simp
    refine hK.out _ _ (trivial) (fun hHeld => ?_)
    clear hK
    (try simp only [Act.put, List.setIfInBounds_toArray, List.set_cons_zero, List.set_cons_succ])
    refine take_yes (i := 14) 19 (v := ?_) rfl rfl (by kernel_rfl) (by kernel_rfl) (by kernel_rfl) (fun _ _ _ h => h) (by kernel_rfl) hHeld ?_ ?_
    rotate_left
    focus (intro w hSw; (try dsimp only at hSw); go_simp; (try with_reducible rfl))
    simp only [Act.put, List.setIfInBounds_toArray, List.set_cons_zero, List.set_cons_succ]
    refine wpAnyH_ready (rs := [15]) (by kernel_rfl) (by simp) ?_
    refine AllReadyH.cons rfl (fun K hK => ?_) AllReadyH.nil
    go_simp
    refine hK.out _ _ (trivial) (fun hHeld => ?_)
    clear hK
    (try simp only [Act.put, List.setIfInBounds_toArray, List.set_cons_zero, List.set_cons_succ])
    refine wpAnyH_done (by kernel_rfl) ?_ _
    go_wp2
    go_end0
    exact ⟨rfl, HE.out⟩
end Go.Proofs.Ytcdonbepfmhdpaa
/-
  A heap of numbers in memory: Push and Pop of the program's own heap.
-/
namespace Go.Proofs.Ytcdonbepfmhdpaa
open Go.RowKit Go.Shelf
set_option linter.unusedVariables false
set_option linter.unusedSimpArgs false

theorem push_end {R : Nat → Prop} {Bp g cap L uc : Nat} {ua : Option Addr} {H : List Int} {w w6 : World} {o : Obj} {x : Int} (h : HSt R Bp (.slice ua L uc) H w) (hL : H.length = L) (h1 : w6.ownsRow 0 3 1 (.slice (some ⟨g, 0, none⟩) (L + 1) cap) (L + 1) (iC H ++ [.int .i64 x])) (h2 : (w.alloc o).grownBy w6 (Value.slice ua L uc).ownBlock) (h3 : (Value.slice ua L uc).ownBlock = some g ∨ g = w.heap.size + 1) :
    (w6.cell? ⟨Bp, 0, none⟩ = some (.slice ua L uc) ∧ w6.frozen? ⟨Bp, 0, none⟩ = false) ∧ HSt R Bp (.slice (some ⟨g, 0, none⟩) (L + 1) cap) (H ++ [x]) (w6.setCell ⟨Bp, 0, none⟩ (.slice (some ⟨g, 0, none⟩) (L + 1) cap)) ∧ Fr R w (w6.setCell ⟨Bp, 0, none⟩ (.slice (some ⟨g, 0, none⟩) (L + 1) cap)) := by
  obtain ⟨k1, k2, k3, k4, k5⟩ := h
  have hBp : Bp < w.heap.size := (Array.getElem?_eq_some_iff.1 k1).1
  have hgB : g ≠ Bp ∧ ¬ R g := by
    rcases h3 with h3 | rfl
    · exact ⟨(k3 g h3).2, (k3 g h3).1⟩
    · exact ⟨by omega, fun hr => by have := k5 _ hr; omega⟩
  have hk : w6.heap[Bp]? = some (.cells #[.slice ua L uc] 68 (0, 0)) := (h2.block Bp (by simp; omega) (fun e => (k3 Bp e.symm).2 rfl)).trans ((Below.heap_alloc w o Bp hBp).trans k1)
  have hO : NOwn w6 0 (.slice (some ⟨g, 0, none⟩) (L + 1) cap) (H ++ [x]) := by
    unfold NOwn
    rw [iC_add, List.length_append, hL]
    exact h1
  refine ⟨⟨by rw [cell_of_row w6 Bp 0 _ _ _ hk]; rfl, frozen_of_row w6 Bp 0 _ _ hk⟩, ⟨?_, ?_, ?_, k4, ?_⟩, ?_⟩
  · have := heap_setCell_same w6 Bp 0 _ _ (.slice (some ⟨g, 0, none⟩) (L + 1) cap) hk
    exact this
  · exact (hO.far (grown1 w6 Bp 0 _) (fun q hq => by simp [Value.ownBlock] at hq; simp; omega))
  · intro b hb
    simp [Value.ownBlock] at hb
    subst hb
    exact ⟨hgB.2, hgB.1⟩
  · intro b hb
    have := k5 b hb
    have := h2.size
    simp [World.setCell] at *
    omega
  · refine ⟨h2.os, h2.tape, h2.output, ?_, fun b hb => ?_⟩
    · have := h2.size
      simp [World.setCell] at *
      omega
    · have e1 : b ≠ Bp := fun e => k4 (e ▸ hb)
      have := k5 b hb
      exact (Below.heap_setCell w6 ⟨Bp, 0, none⟩ _ b e1).trans ((h2.block b (by simp; omega) (fun e => (k3 b e.symm).1 hb)).trans (Below.heap_alloc w o b this))

theorem ta_int (x : Value) (w : World) : (Instr.typeAssert (.iface 3 x) 20 3 false).run Try.prog w = .ok x w := by kernel_rfl

set_option maxHeartbeats 3200000 in
set_option maxRecDepth 100000 in
theorem pushM_any (R : Nat → Prop) (Bp : Nat) (u : Value) (H : List Int) (x : Int) (w : World) (h : HSt R Bp u H w) (hl : H.length ≤ 100) :
    Calls Try.prog 88 #[.pointer (some ⟨Bp, 0, none⟩), .iface 3 (.int .i64 x)] w fun e w' => e = .returned (.tuple #[]) ∧ ∃ u', HSt R Bp u' (H ++ [x]) w' ∧ Fr R w w' := by
  obtain ⟨i3, hi3, hy0, hy1, hy2⟩ := info_parts infoI
  obtain ⟨c0, c1⟩ := h.cell
  obtain ⟨ua, uc, rfl⟩ := h.2.1.form
  have HA : ∀ o, (w.alloc o).cell? ⟨Bp, 0, none⟩ = some (.slice ua H.length uc) := fun o => (World.cell?_of_block (Below.heap_alloc w o Bp (Array.getElem?_eq_some_iff.1 h.1).1)).trans c0
  have HOw : Hid (∀ o, (w.alloc o).ownsRow 0 3 1 (.slice ua H.length uc) H.length (iC H)) := fun o => World.ownsRow.alloc h.2.1 o
  have HPe : Hid (∀ o g cap w6, w6.ownsRow 0 3 1 (.slice (some ⟨g, 0, none⟩) (H.length + 1) cap) (H.length + 1) (iC H ++ [.int .i64 x]) → (w.alloc o).grownBy w6 (Value.slice ua H.length uc).ownBlock → ((Value.slice ua H.length uc).ownBlock = some g ∨ g = w.heap.size + 1) → (w6.cell? ⟨Bp, 0, none⟩ = some (.slice ua H.length uc) ∧ w6.frozen? ⟨Bp, 0, none⟩ = false) ∧ HSt R Bp (.slice (some ⟨g, 0, none⟩) (H.length + 1) cap) (H ++ [x]) (w6.setCell ⟨Bp, 0, none⟩ (.slice (some ⟨g, 0, none⟩) (H.length + 1) cap)) ∧ Fr R w (w6.setCell ⟨Bp, 0, none⟩ (.slice (some ⟨g, 0, none⟩) (H.length + 1) cap))) := fun o g cap w6 h1 h2 h3 => push_end h rfl h1 h2 h3
  clear h
  have hta := fun w => ta_int (.int .i64 x) w
  generalize hL : H.length = L at *
  go_enter Try.func88, Try.ntmps88
  go_wp2_with fail
  refine wp_region_held_drew (S := (fun _ => True)) (by kernel_rfl) trivial (fun hHeld => ?_)
  refine take_yes (i := 0) 4 (v := ?_) rfl rfl (by kernel_rfl) (by kernel_rfl) (by kernel_rfl) (fun _ _ _ h => h) (by kernel_rfl) hHeld ?_ ?_
  rotate_left
  focus (intro w hSw; (try dsimp only at hSw); go_simp; (try with_reducible rfl))
  simp only [Act.put, List.setIfInBounds_toArray, List.set_cons_zero, List.set_cons_succ]
  refine take_yes (i := 1) 5 (v := ?_) rfl rfl (by kernel_rfl) (by kernel_rfl) (by kernel_rfl) (fun _ _ _ h => h) (by kernel_rfl) hHeld ?_ ?_
  rotate_left
  focus (intro w hSw; (try dsimp only at hSw); go_simp; (try with_reducible rfl))
  simp only [Act.put, List.setIfInBounds_toArray, List.set_cons_zero, List.set_cons_succ]
  refine take_yes (i := 2) 6 (v := ?_) rfl rfl (by kernel_rfl) (by kernel_rfl) (by kernel_rfl) (fun _ _ _ h => h) (by kernel_rfl) hHeld ?_ ?_
  rotate_left
  focus (intro w hSw; (try dsimp only at hSw); go_simp; (try with_reducible rfl))
  simp only [Act.put, List.setIfInBounds_toArray, List.set_cons_zero, List.set_cons_succ]
  refine take_yes (i := 4) 8 (v := ?_) rfl rfl (by kernel_rfl) (by kernel_rfl) (by kernel_rfl) (fun _ _ _ h => h) (by kernel_rfl) hHeld ?_ ?_
  rotate_left
  focus (intro w hSw; (try dsimp only at hSw); go_simp; (try with_reducible rfl))
  simp only [Act.put, List.setIfInBounds_toArray, List.set_cons_zero, List.set_cons_succ]
  refine take_yes (i := 5) 9 (v := ?_) rfl rfl (by kernel_rfl) (by kernel_rfl) (by kernel_rfl) (fun _ _ _ h => h) (by kernel_rfl) hHeld ?_ ?_
  rotate_left
  focus (intro w hSw; (try dsimp only at hSw); go_simp; (try with_reducible rfl))
  simp only [Act.put, List.setIfInBounds_toArray, List.set_cons_zero, List.set_cons_succ]
  refine wpAnyH_ready (rs := [3, 6]) (by kernel_rfl) (by simp) ?_
  refine AllReadyH.cons rfl (fun K hK => ?_) (AllReadyH.cons rfl (fun K hK => ?_) AllReadyH.nil)
  all_goals
    go_simp
    refine hK.out _ _ hHeld (fun hHeld => ?_)
    clear hK
    (try simp only [Act.put, List.setIfInBounds_toArray, List.set_cons_zero, List.set_cons_succ])
  focus
    refine wpAnyH_ready (rs := [6]) (by kernel_rfl) (by simp) ?_
    refine AllReadyH.cons rfl (fun K hK => ?_) AllReadyH.nil
    go_simp
    refine hK.out _ _ hHeld (fun hHeld => ?_)
    clear hK
    (try simp only [Act.put, List.setIfInBounds_toArray, List.set_cons_zero, List.set_cons_succ])
  rotate_left
  focus
    refine wpAnyH_ready (rs := [3]) (by kernel_rfl) (by simp) ?_
    refine AllReadyH.cons rfl (fun K hK => ?_) AllReadyH.nil
    go_simp
    refine hK.out _ _ hHeld (fun hHeld => ?_)
    clear hK
    (try simp only [Act.put, List.setIfInBounds_toArray, List.set_cons_zero, List.set_cons_succ])
  rotate_left
  all_goals
    refine wpAnyH_ready (rs := [7]) (by kernel_rfl) (by simp) ?_
    refine AllReadyH.cons rfl (fun K hK => ?_) AllReadyH.nil
    refine step_append_lies _ (by rfl) (.tmp 7) (.tmp 10) 68 (by rfl) 0 3 i3 (.int .i64 0) 1 8 Try.underlying68 hi3 hy0 hy1 hy2 rfl (by decide) (.slice ua L uc) L (iC H) (by rfl) (by first | exact HOw.out _ | exact (HOw.out _).drew) ⟨w.heap.size, 0, none⟩ 1 1 [.int .i64 x] (by rfl) (by rfl) (World.news_of_block (cs := #[.int .i64 x]) (t := 3) (fr := (0, 0)) (heap_alloc_new w _)) (by simp [Value.oneCell']) (by omega) (by unfold maxLen; omega) (by omega) (by simp) (w.heap.size + 1) (by simp) ?_
    intro g6 cp6 w6 hown6 hg6 hat6 hlt6
    have hg7 : (w.alloc (.cells #[.int .i64 x] 3)).grownBy w6 (Value.slice ua L uc).ownBlock := ⟨hg6.os, hg6.tape, hg6.output, hg6.size, hg6.block⟩
    obtain ⟨⟨s1, s2⟩, hF6⟩ := HPe.out _ _ _ _ hown6 hg7 hat6
    replace hF6 := hide' hF6
    clear hown6 hg6 hg7 hat6 hlt6
    refine hK.out _ _ (trivial) (fun hHeld => ?_)
    clear hK
    (try simp only [Act.put, List.setIfInBounds_toArray, List.set_cons_zero, List.set_cons_succ])
    refine take_yes (i := 8) 12 (v := ?_) rfl rfl (by kernel_rfl) (by kernel_rfl) (by kernel_rfl) (fun _ _ _ h => h) (by kernel_rfl) hHeld ?_ ?_
    rotate_left
    focus (intro w hSw; (try dsimp only at hSw); go_simp; (try with_reducible rfl))
    simp only [Act.put, List.setIfInBounds_toArray, List.set_cons_zero, List.set_cons_succ]
    refine wpAnyH_ready (rs := [9]) (by kernel_rfl) (by simp) ?_
    refine AllReadyH.cons rfl (fun K hK => ?_) AllReadyH.nil
    go_simp
    refine hK.out _ _ (trivial) (fun hHeld => ?_)
    clear hK
    (try simp only [Act.put, List.setIfInBounds_toArray, List.set_cons_zero, List.set_cons_succ])
    refine wpAnyH_done (by kernel_rfl) ?_ _
    go_wp2
    go_end0
    exact ⟨rfl, _, hF6.out⟩

set_option maxHeartbeats 1600000 in
theorem popM_any (R : Nat → Prop) (Bp : Nat) (u : Value) (H : List Int) (n : Nat) (w : World) (h : HSt R Bp u H w) (hl : H.length = n + 1) (hl2 : n ≤ 100) :
    Calls Try.prog 87 #[.pointer (some ⟨Bp, 0, none⟩)] w fun e w' => e = .returned (.iface 3 (.int .i64 (hp H n))) ∧ ∃ u', HSt R Bp u' (H.take n) w' ∧ Fr R w w' := by
  obtain ⟨c0, c1⟩ := h.cell
  obtain ⟨g, c, rfl, hc⟩ := nOwn_some h.2.1 (by omega)
  obtain ⟨q0, -⟩ := nOwn_cell (k := n) h.2.1 (by omega)
  have HE : Hid (HSt R Bp (.slice (some ⟨g, 0, none⟩) n c) (H.take n) (w.setCell ⟨Bp, 0, none⟩ (.slice (some ⟨g, 0, none⟩) n c)) ∧ Fr R w (w.setCell ⟨Bp, 0, none⟩ (.slice (some ⟨g, 0, none⟩) n c))) := by
    obtain ⟨k1, k2, k3, k4, k5⟩ := h
    have hgB := k3 g rfl
    have hO : NOwn w 0 (.slice (some ⟨g, 0, none⟩) n c) (H.take n) := by
      obtain ⟨h1, ⟨h2, _⟩ | ⟨g', cap, cur, e, hb, hg, hn, hm, hs, ht⟩⟩ := k2
      · simp at h2
      · simp only [Value.slice.injEq, Option.some.injEq, Addr.mk.injEq, and_true, true_and] at e
        obtain ⟨rfl, rfl⟩ := e
        have hln : (H.take n).length = n := by simp; omega
        refine ⟨by simp [iC], .inr ⟨g, c, cur, by rw [hln], hb, hg, by omega, hm, hs, ?_⟩⟩
        rw [hln]
        have h7 := congrArg (List.take (n * 1)) ht
        rw [List.take_take] at h7
        have h8 : min (n * 1) (H.length * 1) = n * 1 := by omega
        rw [h8] at h7
        rw [h7]
        simp [iC]
    refine ⟨⟨?_, hO.far (grown1 w Bp 0 _) (fun q hq => by simp [Value.ownBlock] at hq; simp; omega), fun b hb => by simp [Value.ownBlock] at hb; subst hb; exact hgB, k4, fun b hb => by have := k5 b hb; simp [World.setCell]; omega⟩, ⟨rfl, rfl, rfl, by simp [World.setCell], fun b hb => Below.heap_setCell w ⟨Bp, 0, none⟩ _ b (fun e => k4 (by have : b = Bp := e; rw [← this]; exact hb))⟩⟩
    have := heap_setCell_same w Bp 0 _ _ (.slice (some ⟨g, 0, none⟩) n c) k1
    exact this
  rw [hl] at c0
  have b0 : (0 : Int) ≤ (n : Int) := by omega
  have b1 : (n : Int) < ((n + 1 : Nat) : Int) := by omega
  have b2 : ((n + 1 : Nat) : Int) - 1 = (n : Int) := by omega
  have b3 : (n : Int) ≤ (c : Int) := by omega
  have b4 : IntKind.i64.wrap (((n + 1 : Nat) : Int) - 1) = (n : Int) := by rw [b2, IntKind.wrap_i64]; omega
  have b5 : IntKind.i64.wrap ((n : Int) + 1 - 1) = (n : Int) := by rw [IntKind.wrap_i64]; omega
  clear h
  generalize hp H n = z at *
  go_enter Try.func87, Try.ntmps87
  go_wp2
  go_ret
  exact ⟨rfl, _, HE.out⟩
end Go.Proofs.Ytcdonbepfmhdpaa
/-
  A heap of numbers in memory: the library's up.
-/
namespace Go.Proofs.Ytcdonbepfmhdpaa
open Go.RowKit Go.Shelf
set_option linter.unusedVariables false
set_option linter.unusedSimpArgs false

theorem HSt.swapped {R : Nat → Prop} {Bp g c i j : Nat} {H : List Int} {w w' : World} (h : HSt R Bp (.slice (some ⟨g, 0, none⟩) H.length c) H w) (h1 : NOwn w' 0 (.slice (some ⟨g, 0, none⟩) H.length c) (swapL H i j)) (h2 : w.grownBy w' (some g)) : HSt R Bp (.slice (some ⟨g, 0, none⟩) H.length c) (swapL H i j) w' ∧ Fr R w w' := by
  obtain ⟨k1, k2, k3, k4, k5⟩ := h
  have hg := k3 g rfl
  exact ⟨⟨(h2.block Bp (Array.getElem?_eq_some_iff.1 k1).1 (fun e => hg.2 (by simpa using e.symm))).trans k1, h1, k3, k4, fun b hb => Nat.lt_of_lt_of_le (k5 b hb) h2.size⟩, fr_grown h2 k5 (fun k hk => by simp at hk; subst hk; exact hg.1)⟩

set_option maxHeartbeats 3200000 in
set_option maxRecDepth 100000 in
theorem up_any (R : Nat → Prop) (Bp g c j0 : Nat) (H : List Int) (w : World) (h : HSt R Bp (.slice (some ⟨g, 0, none⟩) H.length c) H w) (hl : H.length ≤ 100) (hj0 : j0 < H.length) (hU : UpI H H.length j0) :
    Calls Try.prog 51 #[.iface 67 (.pointer (some ⟨Bp, 0, none⟩)), .int .i64 (j0 : Int)] w fun e w' => e = .returned (.tuple #[]) ∧ ∃ H', HSt R Bp (.slice (some ⟨g, 0, none⟩) H.length c) H' w' ∧ H'.Perm H ∧ HeapN H' H.length ∧ Fr R w w' := by
  have HS0 : Hid (HSt R Bp (.slice (some ⟨g, 0, none⟩) H.length c) H w ∧ H.Perm H ∧ UpI H H.length j0 ∧ Fr R w w) := ⟨h, List.Perm.refl _, hU, Fr.refl _ _⟩
  clear h hU
  generalize hL : H.length = L at *
  go_enter Try.func51, Try.ntmps51
  go_wp2_with fail
  go_loopw [1] (fun jv wr => ∃ (j : Nat) (H' : List Int), jv = .int .i64 (j : Int) ∧ j < L ∧ Hid (HSt R Bp (.slice (some ⟨g, 0, none⟩) L c) H' wr ∧ H'.Perm H ∧ UpI H' L j ∧ Fr R w wr)) (fun jv _ => (intOf jv).toNat)
  case atStart => exact ⟨j0, H, rfl, hj0, HS0⟩
  case round =>
    clear HS0
    obtain ⟨j, H', rfl, hj, hS⟩ := hrel
    have hL' : H'.length = L := by rw [hS.out.2.1.length_eq, hL]
    cases j with
    | zero =>
      have HE : Hid (∃ H', HSt R Bp (.slice (some ⟨g, 0, none⟩) L c) H' wr ∧ H'.Perm H ∧ HeapN H' L ∧ Fr R w wr) := ⟨H', hS.out.1, hS.out.2.1, up_end0 hS.out.2.2.1, hS.out.2.2.2⟩
      clear hS
      go_wp2
      go_end0
      exact ⟨rfl, HE.out⟩
    | succ q =>
      have e1 : (q + 1 - 1) / 2 = q / 2 := by simp
      obtain ⟨c0, -⟩ := hS.out.1.cell
      have mL := methLess Bp _ wr c0
      have cL := fun args => callsLess args wr
      have i0 : (0 : Int) ≤ (q : Int) := by omega
      have i1 : (((q + 1 : Nat) : Int)) - 1 = (q : Int) := by omega
      have i2 : IntKind.i64.wrap ((q : Int) + 1 - 1) = (q : Int) := by rw [IntKind.wrap_i64]; omega
      have i3 : IntKind.i64.wrap (q : Int) = (q : Int) := by rw [IntKind.wrap_i64]; omega
      have i7 : ((q : Int) / 2 == (q : Int) + 1) = false := by simp; omega
      have e2 : ((q + 1 : Nat) : Int) = (q : Int) + 1 := by omega
      have e3 : ((q / 2 : Nat) : Int) = (q : Int) / 2 := by omega
      have hq2 : q / 2 < H'.length := by omega
      have hq1 : q + 1 < H'.length := by omega
      have hS1 : HSt R Bp (.slice (some ⟨g, 0, none⟩) H'.length c) H' wr := by rw [hL']; exact hS.out.1
      have HLs : Hid (Calls Try.prog 86 #[.slice (some ⟨g, 0, none⟩) L c, .int .i64 ((q : Int) + 1), .int .i64 ((q : Int) / 2)] wr fun e w' => e = .returned (.bool (decide (hp H' (q + 1) < hp H' (q / 2)))) ∧ ∃ n, w' = wr.drewN n) := by
        have := less_any g c (q + 1) (q / 2) H' wr hS1.2.1 hq1 hq2
        rw [e2, e3, hL'] at this
        exact this
      by_cases hlt : hp H' (q + 1) < hp H' (q / 2)
      · have HSw : Hid (∀ n, Calls Try.prog 89 #[.slice (some ⟨g, 0, none⟩) L c, .int .i64 ((q : Int) / 2), .int .i64 ((q : Int) + 1)] (wr.drewN n) fun e w' => e = .returned (.tuple #[]) ∧ Hid (HSt R Bp (.slice (some ⟨g, 0, none⟩) L c) (swapL H' (q / 2) (q + 1)) w' ∧ (swapL H' (q / 2) (q + 1)).Perm H ∧ UpI (swapL H' (q / 2) (q + 1)) L (q / 2) ∧ Fr R w w')) := fun n => by
          have h1 := hS1.drewN n
          have h2 := swap_any g c (q / 2) (q + 1) H' (wr.drewN n) h1.2.1 hq2 hq1
          rw [e2, e3, hL'] at h2
          refine h2.mono ?_
          rintro e w' ⟨rfl, k1, k2⟩
          rw [← hL'] at k1
          obtain ⟨k3, k4⟩ := h1.swapped k1 k2
          rw [hL'] at k3
          refine ⟨rfl, k3, (swapL_perm hq2 hq1).trans hS.out.2.1, ?_, (hS.out.2.2.2.trans (fr_drewN R wr n)).trans k4⟩
          have := up_step hS.out.2.2.1 (by omega) (by omega) hj (by rw [e1]; exact hlt)
          rw [e1] at this
          exact this
        have HMs : Hid (∀ n, (method 224 67 (.pointer (some ⟨Bp, 0, none⟩)) "Swap").run Try.prog (wr.drewN n) = .ok (89, .slice (some ⟨g, 0, none⟩) L c) (wr.drewN n)) := fun n => methSwap Bp _ _ (hS.out.1.drewN n).cell.1
        rw [decide_eq_true hlt] at HLs
        clear hS hS1 hlt
        go_wp2_with fail
        refine HLs.out.mono ?_
        rintro e w2 ⟨rfl, n, rfl⟩
        have mS := HMs.out n
        have cS := fun args => callsSwap args (wr.drewN n)
        go_wp2_with fail
        refine (HSw.out n).mono ?_
        rintro e w3 ⟨rfl, hF⟩
        go_wp2
        go_roundw
        case rel => exact ⟨q / 2, _, by rw [e3], by omega, hF⟩
        case measure => simp [intOf]; omega
      · have HE : Hid (∀ n, ∃ H', HSt R Bp (.slice (some ⟨g, 0, none⟩) L c) H' (wr.drewN n) ∧ H'.Perm H ∧ HeapN H' L ∧ Fr R w (wr.drewN n)) := fun n => ⟨H', hS.out.1.drewN n, hS.out.2.1, up_end hS.out.2.2.1 (by rw [e1]; exact hlt), hS.out.2.2.2.trans (fr_drewN R wr n)⟩
        rw [decide_eq_false hlt] at HLs
        clear hS hS1 hlt
        go_wp2_with fail
        refine HLs.out.mono ?_
        rintro e w2 ⟨rfl, n, rfl⟩
        go_wp2
        go_end0
        exact ⟨rfl, HE.out n⟩
end Go.Proofs.Ytcdonbepfmhdpaa
