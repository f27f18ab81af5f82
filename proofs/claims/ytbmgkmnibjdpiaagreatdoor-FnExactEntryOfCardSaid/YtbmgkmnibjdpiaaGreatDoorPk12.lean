/-
  Texts that a law leans on, one behind the other; no statement is proved here.
-/
import Derived.Test.YtbmgkmnibjdpiaaGreatDoorPk11
import Derived.Test.YtbmgkmnibjdpiaaGreatDoorPk10
import Derived.Maps.Own
import Derived.Maps.AppendAt
/-
  l2parts, l2deep, l2known of the specification, and ValParts, ValDeep, ValKnown of it, at every value.
-/
namespace Go.Proofs.YtbmgkmnibjdpiaaGreatDoor
open Go.RowKit
set_option linter.unusedVariables false
set_option linter.unusedSimpArgs false

/-- How deep the deepest part is. -/
def deepV : (d : Nat) → Vl d → Nat
  | 0, _ => 0
  | d + 1, v => (v.2.2.2.2.map (deepV d)).foldr max 0 + 1
/-- No part is unknown. -/
def knownV : (d : Nat) → Vl d → Bool
  | 0, _ => false
  | d + 1, v => decide (v.1 ≠ 6) && v.2.2.2.2.all (knownV d)

/-- The greatest of the first k. -/
def mx {α : Type} (f : α → Nat) (l : List α) (k : Nat) : Nat := ((l.take k).map f).foldl max 0
theorem mx_zero {α : Type} (f : α → Nat) (l : List α) : mx f l 0 = 0 := by simp [mx]
theorem mx_succ {α : Type} (f : α → Nat) (l : List α) (k : Nat) (h : k < l.length) : mx f l (k + 1) = max (mx f l k) (f l[k]) := by
  unfold mx
  rw [List.take_succ_eq_append_getElem h, List.map_append, List.foldl_append]
  simp only [List.map_cons, List.map_nil, List.foldl_cons, List.foldl_nil]
theorem foldl_max (l : List Nat) : ∀ a, l.foldl max a = max a (l.foldr max 0) := by
  induction l with
  | nil => intro a; simp
  | cons x l ih => intro a; simp only [List.foldl_cons, List.foldr_cons]; rw [ih]; omega
theorem mx_all {α : Type} (f : α → Nat) (l : List α) : mx f l l.length = (l.map f).foldr max 0 := by
  unfold mx
  rw [List.take_length, foldl_max]
  omega
theorem deep_succ (d : Nat) (vk vn : Int) (vs : List Int) (vK : List (List Int)) (vL : List (Vl d)) : deepV (d + 1) (vk, vn, vs, vK, vL) = mx (deepV d) vL vL.length + 1 := by
  rw [mx_all]; rfl
theorem mx_le_pre {α : Type} (f g : α → Nat) (l : List α) (h : ∀ x, f x ≤ g x) : ∀ k, k ≤ l.length → mx f l k ≤ pre g l k
  | 0, _ => by simp [mx_zero]
  | k + 1, hk => by
    have := mx_le_pre f g l h k (by omega)
    have h1 := mx_succ f l k (by omega)
    have h2 := pre_succ g l k (by omega)
    have := h l[k]
    omega
theorem deep_le (d : Nat) : ∀ v : Vl d, deepV d v ≤ partsV d v := by
  induction d with
  | zero => intro v; exact v.elim
  | succ d ih =>
    intro v
    obtain ⟨vk, vn, vs, vK, vL⟩ := v
    rw [deep_succ, parts_succ]
    have := mx_le_pre (deepV d) (partsV d) vL ih vL.length (Nat.le_refl _)
    omega
theorem known_no {d : Nat} {vk vn : Int} {vs : List Int} {vK : List (List Int)} {vL : List (Vl d)} {k : Nat} (hk : k < vL.length) (h : knownV d vL[k] = false) : knownV (d + 1) (vk, vn, vs, vK, vL) = false := by
  show (decide (vk ≠ 6) && vL.all (knownV d)) = false
  rw [Bool.and_eq_false_iff]
  refine .inr ?_
  rw [List.all_eq_false]
  exact ⟨vL[k], List.getElem_mem hk, by simp [h]⟩
theorem known_yes {d : Nat} {vk vn : Int} {vs : List Int} {vK : List (List Int)} {vL : List (Vl d)} (hk : vk ≠ 6) (h : ∀ k (hk : k < vL.length), knownV d vL[k] = true) : knownV (d + 1) (vk, vn, vs, vK, vL) = true := by
  show (decide (vk ≠ 6) && vL.all (knownV d)) = true
  simp only [Bool.and_eq_true, decide_eq_true_eq, List.all_eq_true]
  refine ⟨hk, fun x hx => ?_⟩
  obtain ⟨i, hi, rfl⟩ := List.getElem_of_mem hx
  exact h i hi
theorem kid_parts {d : Nat} {vk vn : Int} {vs : List Int} {vK : List (List Int)} {vL : List (Vl d)} {k : Nat} (hk : k < vL.length) (h : partsV (d + 1) (vk, vn, vs, vK, vL) ≤ 40) : partsV d vL[k] ≤ 40 ∧ 1 + pre (partsV d) vL (k + 1) ≤ 40 := by
  rw [parts_succ] at h
  have h1 := pre_succ (partsV d) vL k hk
  have h2 := pre_le (partsV d) vL (k + 1)
  have h3 := pre_all (partsV d) vL
  omega
theorem pre_le_len {α : Type} (f : α → Nat) (l : List α) (k : Nat) : pre f l k ≤ pre f l l.length := by
  have := pre_le f l k
  have := pre_all f l
  omega

/-- A function of a value that only reads it: what it answers at depth d. -/
def FnAt (F : Nat) (ans : (d : Nat) → Vl d → Value) (d : Nat) : Prop := ∀ (N : Nat) (c : Value × Value × Value × Value × Value) (v : Vl d) (w : World), VSeg (fun b => b < N) w d c v → N ≤ w.heap.size → partsV d v ≤ 40 →
  Calls Tryz.prog F #[.agg #[c.1, c.2.1, c.2.2.1, c.2.2.2.1, c.2.2.2.2]] w fun e w' => e = .returned (ans d v) ∧ Below w.heap.size w w'

set_option maxHeartbeats 4000000 in
theorem l2known_succ (d : Nat) (ih : FnAt 42 (fun d v => .bool (knownV d v)) d) : FnAt 42 (fun d v => .bool (knownV d v)) (d + 1) := by
  intro N c v w hv hN hp
  obtain ⟨c0, c1, c2, c3, c4⟩ := c
  obtain ⟨vk, vn, vs, vK, vL⟩ := v
  obtain ⟨e0, e1, ht, hk, hl⟩ := (VSeg_succ _ _ _ _ _).1 hv
  simp only at e0 e1 ht hk hl
  subst e0
  subst e1
  clear hv
  simp only
  have HX := hide' hl
  obtain ⟨a2, p2, rfl, s2, l2, m2, _, _⟩ := ht
  obtain ⟨a3, p3, rfl, _, _, _, _⟩ := hk
  obtain ⟨a4, p4, rfl, hlc, hcm, ka, _⟩ := hl
  unfold maxLen at hcm
  have b0 : ∀ o : Obj, Below w.heap.size w (w.alloc o) := fun o => (Below.refl _ _).alloc (Nat.le_refl _) o
  have Hb := hide' b0
  have HI := hide' ih
  have HP := hide' hp
  generalize hO : Obj.cells #[.int .i64 vk, .int .i64 vn, .slice a2 vs.length p2, .slice a3 vK.length p3, .slice a4 vL.length p4] 37 = ob
  have HOb := hide' hO
  clear ih b0 hp s2
  by_cases hk6 : vk = 6
  · subst hk6
    subst hO
    have HF : Hid (knownV (d + 1) (6, vn, vs, vK, vL) = false) := rfl
    go_enter Tryz.func42, Tryz.ntmps42
    go_wp2
    go_ret
    exact ⟨ret_bool HF.out.symm, Hb.out _⟩
  have HK6 : Hid (vk ≠ 6) := hk6
  clear hO
  go_enter Tryz.func42, Tryz.ntmps42
  go_wp2
  go_loopw [3] (fun i wr => ∃ k : Nat, k ≤ vL.length ∧ i = .int .i64 k ∧ (∀ j (h : j < vL.length), j < k → knownV d vL[j] = true) ∧ Hid (Below (w.alloc ob).heap.size (w.alloc ob) wr)) (fun i _ => vL.length - (intOf i).toNat)
  case atStart => exact ⟨0, Nat.zero_le _, rfl, fun j _ h => by omega, by rw [← HOb.out]; exact Below.refl _ _⟩
  case round =>
    obtain ⟨k, hk, rfl, hall, hbel⟩ := hrel
    have hrow := box_row hbel.out
    rw [← HOb.out] at hrow
    obtain ⟨y0, y1, y2, y3, y4, _⟩ := row5 hrow
    have B := Below.on (Hb.out ob) hbel.out
    clear hrow
    by_cases hlt : k < vL.length
    · have hlt' : (k : Int) < (vL.length : Int) := by omega
      obtain ⟨b, off, c, rfl, h5', hv⟩ := HX.out.at B hN hlt
      obtain ⟨c0, c1, c2, c3, c4⟩ := c
      obtain ⟨q0, q1, q2, q3, q4⟩ := h5'
      simp only at q0 q1 q2 q3 q4
      have hz := B.size
      obtain ⟨hp1, hp2⟩ := kid_parts hlt HP.out
      have HC0 := HI.out N (c0, c1, c2, c3, c4) vL[k] wr (hv wr B) (by omega) hp1
      dsimp only at HC0
      have HC := hide' HC0
      clear HC0
      cases hkb : knownV d vL[k] with
      | true =>
        have HF : Hid (∀ j (h : j < vL.length), j < k + 1 → knownV d vL[j] = true) := fun j h hj => by
          by_cases e : j = k
          · subst e; exact hkb
          · exact hall j h (by omega)
        rw [hkb] at HC
        clear hv hkb hall hp1 hp2
        go_wp2_with fail
        refine HC.out.mono ?_
        rintro e w1 ⟨rfl, b1⟩
        have B1 : Hid (Below (w.alloc ob).heap.size (w.alloc ob) w1) := Below.on hbel.out b1
        clear q0 q1 q2 q3 q4 b1
        go_wp2
        go_roundw
        case rel => exact ⟨k + 1, by omega, by go_num, HF.out, B1⟩
        case measure => simp [intOf]; omega
      | false =>
        have HF := hide' (known_no (vk := vk) (vn := vn) (vs := vs) (vK := vK) hlt hkb)
        rw [hkb] at HC
        clear hv hkb hall hp1 hp2
        go_wp2_with fail
        refine HC.out.mono ?_
        rintro e w1 ⟨rfl, b1⟩
        have B1 : Below w.heap.size w w1 := Below.on B b1
        clear q0 q1 q2 q3 q4 b1
        go_wp2
        go_ret
        exact ⟨ret_bool HF.out.symm, B1⟩
    · have hlt' : ¬ (k : Int) < (vL.length : Int) := by omega
      have HF := hide' (known_yes (vn := vn) (vs := vs) (vK := vK) HK6.out fun j h => hall j h (by omega))
      clear hall
      go_wp2
      go_ret
      exact ⟨ret_bool HF.out.symm, B⟩

theorem l2known_any (d : Nat) : FnAt 42 (fun d v => .bool (knownV d v)) d := by
  induction d with
  | zero => intro N c v w hv; exact hv.elim
  | succ d ih => exact l2known_succ d ih

/-- What ValParts answers. -/
def ansValParts (d : Nat) (v : Vl d) : Nat := cond (okB d v) (partsV d v) 0

/-- What ValDeep answers. -/
def ansValDeep (d : Nat) (v : Vl d) : Nat := cond (okB d v) (deepV d v) 0

/-- What ValKnown answers. -/
def ansValKnown (d : Nat) (v : Vl d) : Bool := okB d v && knownV d v

end Go.Proofs.YtbmgkmnibjdpiaaGreatDoor
/-
  The datum of a map of parts while its keys are put; no statement is proved here.
-/
namespace Go.Proofs.YtbmgkmnibjdpiaaGreatDoor
open Go.RowKit
set_option linter.unusedVariables false

/-- How an element of a map of parts reads: as itself. -/
def tokR (v : Value) : Option (DataW Value × List MemPlace) := some (.held v, [])

/-- The map's datum after the first k of its keys were put. -/
def mapD (vK : List (List Int)) (ps : List Value) : Nat → DataW Value
  | 0 => .map []
  | k + 1 => (mapD vK ps k).put (.string (u8s (vK.getD k []))) (.held (ps.getD k .nilIface))

theorem below_grows {w w' : World} (h : Below w.heap.size w w') (r : Option Nat) : w.grownBy w' r := ⟨h.os, h.tape, h.output, h.size, fun k hk _ => h.block k hk⟩
end Go.Proofs.YtbmgkmnibjdpiaaGreatDoor
/-
  What the program's inner parts (an interface with one type a kind) hold: 'PSeg' reads one as a value; lists and maps of them.
-/
namespace Go.Proofs.YtbmgkmnibjdpiaaGreatDoor
open Go.RowKit
set_option linter.unusedVariables false
set_option linter.unusedSimpArgs false

/-- A part of the program's reads as a value of depth at most d; it lies in blocks of R. -/
def PSeg (R : Nat → Prop) (w : World) : (d : Nat) → Value → Vl d → Prop
  | 0, _, _ => False
  | d + 1, p, v =>
    (v.1 = 0 ∧ p = .iface 149 (.agg #[])) ∨ (v.1 = 6 ∧ p = .iface 150 (.agg #[])) ∨
    (v.1 = 1 ∧ p = .iface 106 (.agg #[.int .i64 v.2.1])) ∨ (v.1 = 2 ∧ p = .iface 107 (.agg #[.int .i64 v.2.1])) ∨
    (v.1 = 3 ∧ p = .iface 109 (.agg #[.string (strOf v.2.2.1)])) ∨
    (v.1 = 4 ∧ ∃ a cap, p = .iface 112 (.agg #[.slice a v.2.2.2.2.length cap]) ∧ (v.2.2.2.2 = [] ∨ ∃ b off, a = some ⟨b, off, none⟩ ∧ R b ∧ ∀ i (h : i < v.2.2.2.2.length), ∃ u, w.cell? ⟨b, off + i, none⟩ = some u ∧ PSeg R w d u (v.2.2.2.2[i]))) ∨
    (v.1 = 5 ∧ ∃ b ps, p = .iface 81 (.agg #[.map (some b)]) ∧ R b ∧ w.ownsMap Tryz.prog 9 tokR b 64 (mapD v.2.2.2.1 ps v.2.2.2.2.length) ∧ ∀ i (h : i < v.2.2.2.2.length), PSeg R w d (ps.getD i .nilIface) (v.2.2.2.2[i]))

/-- A slice of parts. -/
def PLSeg (R : Nat → Prop) (w : World) (d : Nat) (x : Value) (l : List (Vl d)) : Prop :=
  ∃ a cap, x = .slice a l.length cap ∧ (l = [] ∨ ∃ b off, a = some ⟨b, off, none⟩ ∧ R b ∧ ∀ i (h : i < l.length), ∃ u, w.cell? ⟨b, off + i, none⟩ = some u ∧ PSeg R w d u (l[i]))

theorem ownsMap_agree {R : Nat → Prop} {w w' : World} {b n : Nat} {D : DataW Value} (h : w.ownsMap Tryz.prog 9 tokR b n D) (ha : Agree R w w') (hb : R b) : w'.ownsMap Tryz.prog 9 tokR b n D := by
  obtain ⟨es, clock, h1, r⟩ := h
  exact ⟨es, clock, (ha b hb).trans h1, r⟩

theorem PSeg.carry {R R' : Nat → Prop} {w w' : World} (hr : ∀ b, R b → R' b) (ha : Agree R w w') (d : Nat) : ∀ {p : Value} {v : Vl d}, PSeg R w d p v → PSeg R' w' d p v := by
  induction d with
  | zero => intro p v h; exact h
  | succ d ih =>
    intro p v h
    rcases h with h | h | h | h | h | ⟨hk, a, cap, hp, hc⟩ | ⟨hk, b, ps, hp, hR, hm, hc⟩
    · exact .inl h
    · exact .inr (.inl h)
    · exact .inr (.inr (.inl h))
    · exact .inr (.inr (.inr (.inl h)))
    · exact .inr (.inr (.inr (.inr (.inl h))))
    · refine .inr (.inr (.inr (.inr (.inr (.inl ⟨hk, a, cap, hp, ?_⟩)))))
      rcases hc with h0 | ⟨b, off, e, hR, hc⟩
      · exact .inl h0
      · refine .inr ⟨b, off, e, hr b hR, fun i hi => ?_⟩
        obtain ⟨u, hu, hv⟩ := hc i hi
        exact ⟨u, (cell_agree ha hR).trans hu, ih hv⟩
    · exact .inr (.inr (.inr (.inr (.inr (.inr ⟨hk, b, ps, hp, hr b hR, ownsMap_agree hm ha hR, fun i hi => ih (hc i hi)⟩)))))

/-- What take leaves of all that was there: all but the block of its counter. -/
theorem agree_grown {N q : Nat} {w w' : World} (h : w.grownBy w' (some q)) (hN : N ≤ q) (hq : q < w.heap.size) : Agree (fun b => b < N) w w' := fun b hb => h.block b (by omega) (by simp; omega)

theorem run_makeMapN (t k e : TypeId) (n : Int) (w : World) (ht : Tryz.prog.underlying t = some (.map k e)) : (Instr.makeMap t (some (.int .i64 n))).run Tryz.prog w = .ok (.map (some w.heap.size)) (w.alloc (.map #[] 0)) := by
  unfold Instr.makeMap
  simp only [Sem.run_bind, Sem.run_pure, run_underlying ht, Result.andThen]
  rfl

theorem info_part : (Tryz.prog.info? 103).map (fun i => (i.zero, i.size, i.bytes)) = some (some .nilIface, 1, 16) := by kernel_rfl

/-- The counter of an intake. -/
def Cnt (w : World) (q : Nat) (n : Nat) : Prop := w.heap[q]? = some (.cells #[.int .i64 n] 126 (0, 0))

/-- What a good take has brought about. -/
def Took (d : Nat) (v : Vl d) (deep n q : Nat) (w w' : World) (p : Value) : Prop :=
  goodB d v deep = true ∧ n + partsV d v ≤ 40 ∧ Cnt w' q (n + partsV d v) ∧ PSeg (fun b => w.heap.size ≤ b ∧ b < w'.heap.size) w' d p v

/-- The contract of take at depth d. -/
def TakeAt (d : Nat) : Prop := ∀ (N q n : Nat) (c : Value × Value × Value × Value × Value) (v : Vl d) (deep : Nat) (w : World), VSeg (fun b => b < N) w d c v → N ≤ q → q < w.heap.size → Cnt w q n → n ≤ 40 → deep ≤ 6 →
  Calls Tryz.prog 76 #[.pointer (some ⟨q, 0, none⟩), .agg #[c.1, c.2.1, c.2.2.1, c.2.2.2.1, c.2.2.2.2], .int .i64 deep] w fun e w' =>
    w.grownBy w' (some q) ∧ ((∃ p, e = .returned (.tuple #[p, .bool true]) ∧ Took d v deep n q w w' p) ∨ (e = .returned (.tuple #[.nilIface, .bool false]) ∧ ¬ (goodB d v deep = true ∧ n + partsV d v ≤ 40)))

theorem Cnt.cell {w : World} {q n : Nat} (h : Cnt w q n) : w.cell? ⟨q, 0, none⟩ = some (.int .i64 n) ∧ w.frozen? ⟨q, 0, none⟩ = false := by
  refine ⟨?_, frozen_of_row w q 0 _ _ h⟩
  rw [cell_of_row w q 0 _ _ (0, 0) h]
  rfl

theorem Cnt.set {w : World} {q n : Nat} (h : Cnt w q n) (m : Nat) : Cnt (w.setCell ⟨q, 0, none⟩ (.int .i64 m)) q m := heap_setCell_same w q 0 _ _ _ h
end Go.Proofs.YtbmgkmnibjdpiaaGreatDoor
/-
  Which type a part is: the type assertions of a part, at each type.
-/
namespace Go.Proofs.YtbmgkmnibjdpiaaGreatDoor
open Go.RowKit
set_option linter.unusedVariables false
set_option linter.unusedSimpArgs false

theorem nobool_nullPart (x : Value) (w : World) : (Instr.typeAssert (.iface 149 x) 103 106 true).run Tryz.prog w = .ok (.tuple #[.agg #[.int .i64 0], .bool false]) w := by kernel_rfl
theorem nobool_unknownPart (x : Value) (w : World) : (Instr.typeAssert (.iface 150 x) 103 106 true).run Tryz.prog w = .ok (.tuple #[.agg #[.int .i64 0], .bool false]) w := by kernel_rfl
theorem nobool_intPart (x : Value) (w : World) : (Instr.typeAssert (.iface 107 x) 103 106 true).run Tryz.prog w = .ok (.tuple #[.agg #[.int .i64 0], .bool false]) w := by kernel_rfl
theorem nobool_textPart (x : Value) (w : World) : (Instr.typeAssert (.iface 109 x) 103 106 true).run Tryz.prog w = .ok (.tuple #[.agg #[.int .i64 0], .bool false]) w := by kernel_rfl
theorem nobool_listPart (x : Value) (w : World) : (Instr.typeAssert (.iface 112 x) 103 106 true).run Tryz.prog w = .ok (.tuple #[.agg #[.int .i64 0], .bool false]) w := by kernel_rfl
theorem nobool_mapPart (x : Value) (w : World) : (Instr.typeAssert (.iface 81 x) 103 106 true).run Tryz.prog w = .ok (.tuple #[.agg #[.int .i64 0], .bool false]) w := by kernel_rfl
theorem noint_nullPart (x : Value) (w : World) : (Instr.typeAssert (.iface 149 x) 103 107 true).run Tryz.prog w = .ok (.tuple #[.agg #[.int .i64 0], .bool false]) w := by kernel_rfl
theorem noint_unknownPart (x : Value) (w : World) : (Instr.typeAssert (.iface 150 x) 103 107 true).run Tryz.prog w = .ok (.tuple #[.agg #[.int .i64 0], .bool false]) w := by kernel_rfl
theorem noint_textPart (x : Value) (w : World) : (Instr.typeAssert (.iface 109 x) 103 107 true).run Tryz.prog w = .ok (.tuple #[.agg #[.int .i64 0], .bool false]) w := by kernel_rfl
theorem noint_listPart (x : Value) (w : World) : (Instr.typeAssert (.iface 112 x) 103 107 true).run Tryz.prog w = .ok (.tuple #[.agg #[.int .i64 0], .bool false]) w := by kernel_rfl
theorem noint_mapPart (x : Value) (w : World) : (Instr.typeAssert (.iface 81 x) 103 107 true).run Tryz.prog w = .ok (.tuple #[.agg #[.int .i64 0], .bool false]) w := by kernel_rfl
theorem notext_nullPart (x : Value) (w : World) : (Instr.typeAssert (.iface 149 x) 103 109 true).run Tryz.prog w = .ok (.tuple #[.agg #[.string ⟨#[]⟩], .bool false]) w := by kernel_rfl
theorem notext_unknownPart (x : Value) (w : World) : (Instr.typeAssert (.iface 150 x) 103 109 true).run Tryz.prog w = .ok (.tuple #[.agg #[.string ⟨#[]⟩], .bool false]) w := by kernel_rfl
theorem notext_listPart (x : Value) (w : World) : (Instr.typeAssert (.iface 112 x) 103 109 true).run Tryz.prog w = .ok (.tuple #[.agg #[.string ⟨#[]⟩], .bool false]) w := by kernel_rfl
theorem notext_mapPart (x : Value) (w : World) : (Instr.typeAssert (.iface 81 x) 103 109 true).run Tryz.prog w = .ok (.tuple #[.agg #[.string ⟨#[]⟩], .bool false]) w := by kernel_rfl
theorem nolist_nullPart (x : Value) (w : World) : (Instr.typeAssert (.iface 149 x) 103 112 true).run Tryz.prog w = .ok (.tuple #[.agg #[.slice none 0 0], .bool false]) w := by kernel_rfl
theorem nolist_unknownPart (x : Value) (w : World) : (Instr.typeAssert (.iface 150 x) 103 112 true).run Tryz.prog w = .ok (.tuple #[.agg #[.slice none 0 0], .bool false]) w := by kernel_rfl
theorem nolist_mapPart (x : Value) (w : World) : (Instr.typeAssert (.iface 81 x) 103 112 true).run Tryz.prog w = .ok (.tuple #[.agg #[.slice none 0 0], .bool false]) w := by kernel_rfl
theorem nomap_nullPart (x : Value) (w : World) : (Instr.typeAssert (.iface 149 x) 103 81 true).run Tryz.prog w = .ok (.tuple #[.agg #[.map none], .bool false]) w := by kernel_rfl
theorem nomap_unknownPart (x : Value) (w : World) : (Instr.typeAssert (.iface 150 x) 103 81 true).run Tryz.prog w = .ok (.tuple #[.agg #[.map none], .bool false]) w := by kernel_rfl
theorem is_boolPart (x : Value) (w : World) : (Instr.typeAssert (.iface 106 x) 103 106 true).run Tryz.prog w = .ok (.tuple #[x, .bool true]) w := by kernel_rfl
theorem is_intPart (x : Value) (w : World) : (Instr.typeAssert (.iface 107 x) 103 107 true).run Tryz.prog w = .ok (.tuple #[x, .bool true]) w := by kernel_rfl
theorem is_textPart (x : Value) (w : World) : (Instr.typeAssert (.iface 109 x) 103 109 true).run Tryz.prog w = .ok (.tuple #[x, .bool true]) w := by kernel_rfl
theorem is_listPart (x : Value) (w : World) : (Instr.typeAssert (.iface 112 x) 103 112 true).run Tryz.prog w = .ok (.tuple #[x, .bool true]) w := by kernel_rfl
theorem is_mapPart (x : Value) (w : World) : (Instr.typeAssert (.iface 81 x) 103 81 true).run Tryz.prog w = .ok (.tuple #[x, .bool true]) w := by kernel_rfl

end Go.Proofs.YtbmgkmnibjdpiaaGreatDoor
/-
  takeAll of the program: it takes a list of values in, out of what take does at one.
-/
namespace Go.Proofs.YtbmgkmnibjdpiaaGreatDoor
open Go.RowKit
set_option linter.unusedVariables false
set_option linter.unusedSimpArgs false

theorem grownBy_fresh {w w1 w2 : World} {r r' : Option Nat} (h : w.grownBy w1 r) (k : w1.grownBy w2 r') (hr : ∀ j, r' = some j → w.heap.size ≤ j) : w.grownBy w2 r :=
  ⟨k.os.trans h.os, k.tape.trans h.tape, k.output.trans h.output, Nat.le_trans h.size k.size, fun i hi hne => (k.block i (Nat.lt_of_lt_of_le hi h.size) (fun e => by have := hr i e.symm; omega)).trans (h.block i hi hne)⟩

theorem parts_one (d : Nat) (v : Vl d) : 1 ≤ partsV d v := by
  cases d with
  | zero => exact v.elim
  | succ d => exact parts_pos d v

theorem pre_ge (d : Nat) (l : List (Vl d)) (k : Nat) (h : k ≤ l.length) : k ≤ pre (partsV d) l k := by
  induction k with
  | zero => omega
  | succ k ih =>
    have := pre_succ (partsV d) l k (by omega)
    have := parts_one d l[k]
    have := ih (by omega)
    omega

theorem Cnt.keep {w w' : World} {q n : Nat} {r : Option Nat} (h : Cnt w q n) (hg : w.grownBy w' r) (hr : some q ≠ r) : Cnt w' q n :=
  (hg.block q (Array.getElem?_eq_some_iff.1 h).1 hr).trans h

/-- What holds after k rounds of takeAll. -/
def TA (d : Nat) (l : List (Vl d)) (deep n q : Nat) (w wr : World) (k : Nat) (y : Value) (ps : List Value) : Prop :=
  k ≤ l.length ∧ ps.length = k ∧ wr.ownsRow w.heap.size 103 1 y k ps ∧ (∀ j (h : j < l.length), j < k → goodB d l[j] deep = true) ∧ n + pre (partsV d) l k ≤ 40 ∧ Cnt wr q (n + pre (partsV d) l k) ∧
    (∀ j (h : j < l.length), j < k → PSeg (fun b => w.heap.size ≤ b ∧ b < wr.heap.size ∧ some b ≠ y.ownBlock) wr d (ps.getD j .nilIface) l[j]) ∧ w.grownBy wr (some q)

theorem TA_zero {d : Nat} {l : List (Vl d)} {deep n q : Nat} {w : World} (hc : Cnt w q n) (hn : n ≤ 40) : TA d l deep n q w w 0 (.slice none 0 0) [] :=
  ⟨Nat.zero_le _, rfl, World.ownsRow_nil w _ _ _, fun j _ h => by omega, by rw [pre_zero]; omega, by rw [pre_zero]; exact hc, fun j _ h => by omega, World.grownBy.refl _ _⟩

theorem own_ne {w : World} {base e n q : Nat} {y : Value} {xs : List Value} (h : w.ownsRow base e 1 y n xs) (hq : q < base) : some q ≠ y.ownBlock := fun e => by
  have := h.lt q e.symm
  omega

theorem TA_none {d : Nat} {l : List (Vl d)} {deep n q : Nat} {w wr W : World} {k : Nat} {y : Value} {ps : List Value} (h : TA d l deep n q w wr k y ps) (hg : wr.grownBy W none) : TA d l deep n q w W k y ps := by
  obtain ⟨h1, h2, h3, h4, h5, h6, h7, h8⟩ := h
  refine ⟨h1, h2, h3.kept hg ?_, h4, h5, h6.keep hg (by simp), fun j hj hjk => ?_, grownBy_fresh h8 hg (by simp)⟩
  · cases hy : y.ownBlock with
    | none => exact .inl rfl
    | some z => exact .inr (by simp)
  · refine PSeg.carry (fun b hb => ⟨hb.1, Nat.lt_of_lt_of_le hb.2.1 hg.size, hb.2.2⟩) (fun b hb => hg.block b hb.2.1 (by simp)) d (h7 j hj hjk)

/-- Behind take: the same, but for the counter. -/
theorem TA_row {d : Nat} {l : List (Vl d)} {deep n q : Nat} {w wr w1 : World} {k : Nat} {y : Value} {ps : List Value} (h : TA d l deep n q w wr k y ps) (hq : q < w.heap.size) (hg : wr.grownBy w1 (some q)) (o : Obj) : (w1.alloc o).ownsRow w.heap.size 103 1 y k ps := by
  obtain ⟨h1, h2, h3, h4, h5, h6, h7, h8⟩ := h
  have := h3.kept hg (.inr (fun e => own_ne h3 hq e.symm))
  exact this.alloc o

theorem TA_next {d : Nat} {l : List (Vl d)} {deep n q : Nat} {w wr w1 w2 : World} {k : Nat} {y y' p : Value} {ps : List Value} {T : TypeId} (h : TA d l deep n q w wr k y ps) (hq : q < w.heap.size) (hk : k < l.length) (hg : wr.grownBy w1 (some q))
    (ht : Took d l[k] deep (n + pre (partsV d) l k) q wr w1 p) (hown : w2.ownsRow w.heap.size 103 1 y' (k + 1) (ps ++ [p])) (hg2 : (w1.alloc (.cells #[p] T)).grownBy w2 y.ownBlock) (hloc : y'.ownBlock = y.ownBlock ∨ y'.ownBlock = some (w1.alloc (.cells #[p] T)).heap.size) :
    TA d l deep n q w w2 (k + 1) y' (ps ++ [p]) := by
  obtain ⟨h1, h2, h3, h4, h5, h6, h7, h8⟩ := h
  obtain ⟨t1, t2, t3, t4⟩ := ht
  have hps := pre_succ (partsV d) l k hk
  have hal : w1.grownBy (w1.alloc (.cells #[p] T)) none := World.grownBy_alloc w1 _ none
  have hsz : (w1.alloc (.cells #[p] T)).heap.size = w1.heap.size + 1 := by simp
  have hyb : ∀ j, y.ownBlock = some j → w.heap.size ≤ j ∧ j < wr.heap.size := fun j hj => h3.lt j hj
  have hs1 := hg.size
  have hs2 := hg2.size
  have hs8 := h8.size
  refine ⟨hk, by simp [h2], hown, fun j hj hjk => ?_, by rw [hps]; omega, ?_, fun j hj hjk => ?_, ?_⟩
  · by_cases e : j = k
    · subst e; exact t1
    · exact h4 j hj (by omega)
  · rw [hps, ← Nat.add_assoc]
    exact (t3.keep hal (by simp)).keep hg2 (fun e => by have := hyb q e.symm; omega)
  · by_cases e : j = k
    · subst e
      have : (ps ++ [p]).getD j .nilIface = p := by simp [List.getD_eq_getElem?_getD, ← h2]
      rw [this]
      refine PSeg.carry (fun b hb => ⟨by omega, by omega, fun e => ?_⟩) (fun b hb => (hg2.block b (by omega) (fun e => by have := hyb b e.symm; omega)).trans (hal.block b hb.2 (by simp))) d t4
      rcases hloc with e2 | e2
      · have := hyb b (e2.symm.trans e.symm); omega
      · rw [e2] at e; simp at e; omega
    · have hjk' : j < k := by omega
      have : (ps ++ [p]).getD j .nilIface = ps.getD j .nilIface := by
        simp only [List.getD_eq_getElem?_getD]
        rw [List.getElem?_append_left (by omega)]
      rw [this]
      refine PSeg.carry (fun b hb => ⟨hb.1, by omega, fun e => ?_⟩) (fun b hb => (hg2.block b (by omega) hb.2.2).trans ((hal.block b (by omega) (by simp)).trans (hg.block b hb.2.1 (by simp; omega)))) d (h7 j hj hjk')
      rcases hloc with e2 | e2
      · exact hb.2.2 (e.trans e2)
      · rw [e2] at e; simp at e; omega
  · exact grownBy_fresh (grownBy_fresh (grownBy_trans h8 hg) hal (by simp)) hg2 (fun j hj => (hyb j hj).1)

/-- What a good takeAll has brought about. -/
def TookAll (d : Nat) (l : List (Vl d)) (deep n q : Nat) (w w' : World) (y : Value) : Prop :=
  (∀ j (h : j < l.length), goodB d l[j] deep = true) ∧ n + pre (partsV d) l l.length ≤ 40 ∧ Cnt w' q (n + pre (partsV d) l l.length) ∧
    ∃ (a : Option Addr) (cap : Nat) (ps : List Value), y = .slice a l.length cap ∧ (l = [] ∨ ∃ b, a = some ⟨b, 0, none⟩ ∧ w.heap.size ≤ b ∧ b < w'.heap.size ∧ ∀ i, i < l.length → w'.cell? ⟨b, i, none⟩ = some (ps.getD i .nilIface)) ∧ ∀ i (h : i < l.length), PSeg (fun b => w.heap.size ≤ b ∧ b < w'.heap.size) w' d (ps.getD i .nilIface) l[i]

theorem TA_end {d : Nat} {l : List (Vl d)} {deep n q : Nat} {w wr : World} {y : Value} {ps : List Value} (h : TA d l deep n q w wr l.length y ps) : TookAll d l deep n q w wr y := by
  obtain ⟨h1, h2, h3, h4, h5, h6, h7, h8⟩ := h
  have hcell := fun g (hg : y.ownBlock = some g) => h3.lt g hg
  refine ⟨fun j hj => h4 j hj hj, h5, h6, ?_⟩
  have h3' := h3
  rcases h3.2 with ⟨rfl, e0⟩ | ⟨g, cap, cur, rfl, hg, hh, hle, hm, hsz, htk⟩
  · exact ⟨none, 0, ps, by rw [e0], .inl (List.eq_nil_of_length_eq_zero e0), fun i hi => by omega⟩
  · refine ⟨some ⟨g, 0, none⟩, cap, ps, rfl, .inr ⟨g, rfl, hg, (Array.getElem?_eq_some_iff.1 hh).1, fun i hi => ?_⟩, fun i hi => PSeg.carry (fun b hb => ⟨hb.1, hb.2.1⟩) (fun b _ => rfl) d (h7 i hi hi)⟩
    have := World.ownsRow.cellAt h3' i (by omega)
    rw [this]
    simp [List.getD_eq_getElem?_getD, show i < ps.length from by omega]

end Go.Proofs.YtbmgkmnibjdpiaaGreatDoor
/-
  takeAll of the program, walked.
-/
namespace Go.Proofs.YtbmgkmnibjdpiaaGreatDoor
open Go.RowKit
set_option linter.unusedVariables false
set_option linter.unusedSimpArgs false

theorem PSeg.shape {R : Nat → Prop} {w : World} {d : Nat} {p : Value} {v : Vl d} (h : PSeg R w d p v) : ∃ t x, p = .iface t x := by
  cases d with
  | zero => exact h.elim
  | succ d =>
    rcases h with ⟨_, rfl⟩ | ⟨_, rfl⟩ | ⟨_, rfl⟩ | ⟨_, rfl⟩ | ⟨_, rfl⟩ | ⟨_, _, _, rfl, _⟩ | ⟨_, _, _, rfl, _⟩ <;> exact ⟨_, _, rfl⟩

set_option maxHeartbeats 4000000 in
theorem takeAll_of (d : Nat) (ih : TakeAt d) (N q n : Nat) (x : Value) (l : List (Vl d)) (deep : Nat) (w : World) (hx : LSeg (fun b => b < N) w d x l) (hNq : N ≤ q) (hq : q < w.heap.size) (hc : Cnt w q n) (hn : n ≤ 40) (hd : deep ≤ 6) :
    Calls Tryz.prog 92 #[.pointer (some ⟨q, 0, none⟩), x, .int .i64 deep] w fun e w' =>
      w.grownBy w' (some q) ∧ ((∃ y, e = .returned (.tuple #[y, .bool true]) ∧ TookAll d l deep n q w w' y) ∨ (e = .returned (.tuple #[.slice none 0 0, .bool false]) ∧ ¬ ((∀ j (h : j < l.length), goodB d l[j] deep = true) ∧ n + pre (partsV d) l l.length ≤ 40))) := by
  have HX := hide' hx
  obtain ⟨a4, p4, rfl, hlc, hcm, ka, _⟩ := hx
  unfold maxLen at hcm
  have HI := hide' ih
  have H0 : Hid (TA d l deep n q w w 0 (.slice none 0 0) []) := TA_zero hc hn
  obtain ⟨i0, hi, hz0, hz1, hz2⟩ := info_parts info_part
  clear ih hc
  go_enter Tryz.func92, Tryz.ntmps92
  go_wp2
  go_loopw [8, 15] (fun y i wr => ∃ (k : Nat) (ps : List Value), i = .int .i64 k ∧ TA d l deep n q w wr k y ps) (fun _ i _ => l.length - (intOf i).toNat)
  case atStart => exact ⟨0, [], rfl, H0.out⟩
  case round =>
    obtain ⟨k, ps, rfl, hT⟩ := hrel
    have HT := hide' hT
    obtain ⟨hk, hps, hown, hgood, hple, hcnt, hpseg, hgr⟩ := hT
    clear hgood hpseg hcnt
    by_cases hlt : k < l.length
    · have hlt' : (k : Int) < (l.length : Int) := by omega
      have hag := agree_grown hgr hNq hq
      have hcell : ∃ b off c, a4 = some ⟨b, off, none⟩ ∧ Five wr b (off + k * 5) c ∧ VSeg (fun b => b < N) wr d c (l[k]) := by
        obtain ⟨a', cap', e1, _, _, _, h5⟩ := HX.out
        simp only [Value.slice.injEq] at e1
        obtain ⟨rfl, _, _⟩ := e1
        rcases h5 with h0 | ⟨b, off, rfl, hR, hcc⟩
        · rw [h0] at hlt; simp at hlt
        · obtain ⟨c, h5, hv⟩ := hcc k hlt
          exact ⟨b, off, c, rfl, h5.agree hag hR, VSeg.agree hag d hv⟩
      obtain ⟨b, off, c, rfl, h5', hv⟩ := hcell
      obtain ⟨c0, c1, c2, c3, c4⟩ := c
      obtain ⟨q0, q1, q2, q3, q4⟩ := h5'
      simp only at q0 q1 q2 q3 q4
      have HV := hide' hv
      have hs := hgr.size
      obtain ⟨ck, cn, s2, l2, e2, s3, l3, e3, s4, l4, e4, rfl, rfl, rfl, rfl, rfl⟩ := VSeg.form d hv
      have hgW := World.grownBy_alloc wr (.cells #[.int .i64 ck, .int .i64 cn, .slice s2 l2 e2, .slice s3 l3 e3, .slice s4 l4 e4] 37) none
      have hTW := TA_none HT.out hgW
      have hC := HI.out N q (n + pre (partsV d) l k) _ l[k] deep _ (VSeg.agree (fun b hb => hgW.block b (by omega) (by simp)) d hv) hNq (by simp; omega) hTW.2.2.2.2.2.1 hple hd
      have HC := hide' hC
      have HTW := hide' hTW
      clear hv hag hgr hTW hC hgW
      go_wp2_with fail
      refine HC.out.mono ?_
      rintro e w1 ⟨hg1, hcase⟩
      clear q0 q1 q2 q3 q4
      rcases hcase with ⟨p, rfl, htook⟩ | ⟨rfl, hbad⟩
      · obtain ⟨pt, px, rfl⟩ := htook.2.2.2.shape
        have hrw := TA_row HTW.out hq hg1 (.cells #[.iface pt px] 103)
        have h63 : k + 1 ≤ 40 := by have := pre_ge d l (k + 1) hlt; have := pre_succ (partsV d) l k hlt; have := htook.2.1; omega
        have hs1 := hg1.size
        have hsW := HTW.out.2.2.2.2.2.2.2.size
        have HK := hide' htook
        clear htook hown
        go_wp2_with (at_builtin; refine wpList_append_own_at _ rfl _ _ 110 rfl w.heap.size 103 i0 .nilIface 1 16 Tryz.underlying110 hi hz0 hz1 hz2 rfl (by decide) _ k ps rfl hrw ⟨w1.heap.size, 0, none⟩ 1 1 [.iface pt px] rfl rfl (cell_one_new _ _ _) (by intro u hu; simp at hu; rw [hu]; rfl) (by unfold maxLen; omega) (by omega) (by simp; omega) ?_; intro y' w2 hown' hg2 hnil hloc)
        have hN := TA_next HTW.out hq hlt hg1 HK.out hown' hg2 hloc
        clear hown' hg2 hnil hloc hrw HK HTW HC
        go_wp2
        go_roundw
        case rel => exact ⟨k + 1, _, by go_num, hN⟩
        case measure => simp [intOf]; omega
      · have hgf := grownBy_trans HTW.out.2.2.2.2.2.2.2 hg1
        have hno : ¬ ((∀ j (h : j < l.length), goodB d l[j] deep = true) ∧ n + pre (partsV d) l l.length ≤ 40) := fun ⟨h1, h2⟩ => hbad ⟨h1 k hlt, by
          have h3 := pre_succ (partsV d) l k hlt
          have h4 := pre_le (partsV d) l (k + 1)
          have h5 := pre_all (partsV d) l
          omega⟩
        go_wp2
        go_ret2
        exact ⟨hgf, .inr ⟨rfl, hno⟩⟩
    · have hkn : k = l.length := by omega
      have hlt' : ¬ (k : Int) < (l.length : Int) := by omega
      rw [hkn] at HT
      have hE := TA_end HT.out
      have hgf := HT.out.2.2.2.2.2.2.2
      clear hkn
      go_wp2
      go_ret2
      exact ⟨hgf, .inl ⟨_, rfl, hE⟩⟩
end Go.Proofs.YtbmgkmnibjdpiaaGreatDoor
/-
  mapWith of the program, walked: it makes a map of names and parts.
-/
namespace Go.Proofs.YtbmgkmnibjdpiaaGreatDoor
open Go.RowKit
set_option linter.unusedVariables false
set_option linter.unusedSimpArgs false

theorem keyS (xs : List Int) (h : xs.length ≤ maxLen) : Go.keyOf Tryz.prog 9 (.string (strOf xs)) = some (.string (u8s xs)) :=
  WideMaps.keyOf_string_mk Tryz.underlying9 (by show (xs.map _).toArray.size ≤ maxLen; rw [List.size_toArray, List.length_map]; exact h)

/-- What mapWith leaves: a new map with these entries. -/
def MapWEnd (vK : List (List Int)) (ps : List Value) (m : Nat) (w : World) (e : Ending) (w' : World) : Prop :=
  ∃ b, e = .returned (.agg #[.map (some b)]) ∧ w.heap.size ≤ b ∧ b < w'.heap.size ∧ w'.ownsMap Tryz.prog 9 tokR b m (mapD vK ps m) ∧ Below w.heap.size w w'

set_option maxHeartbeats 4000000 in
theorem mapWith_of (N : Nat) (z : Value) (vK : List (List Int)) (m : Nat) (a : Option Addr) (cap : Nat) (ps : List Value) (w : World) (hz : KSeg (fun b => b < N) w z vK) (hN : N ≤ w.heap.size) (hkl : vK.length = m) (hlen : m ≤ 40)
    (hcell : m = 0 ∨ ∃ b off, a = some ⟨b, off, none⟩ ∧ b < w.heap.size ∧ ∀ i, i < m → w.cell? ⟨b, off + i, none⟩ = some (ps.getD i .nilIface)) (hsh : ∀ i, i < m → ∃ pt px, ps.getD i .nilIface = .iface pt px) :
    Calls Tryz.prog 126 #[z, .slice a m cap] w (MapWEnd vK ps m w) := by
  have HZ := hide' hz
  have HC := hide' hcell
  have HSh := hide' hsh
  have HKL := hide' hkl
  obtain ⟨a3, p3, rfl, hlc3, hcm3, ka3, _⟩ := hz
  unfold maxLen at hcm3
  have hmk := run_makeMapN 79 9 103 (m : Int) (w.alloc (.cells #[.map none] 81)) Tryz.underlying79
  have hM0 : ((w.alloc (.cells #[.map none] 81)).alloc (.map #[] 0)).ownsMap Tryz.prog 9 tokR (w.heap.size + 1) 0 (mapD vK ps 0) := by
    have := World.ownsMap_made (w.alloc (.cells #[.map none] 81)) Tryz.prog 9 tokR
    rw [World.size_alloc] at this
    exact this
  rw [World.size_alloc] at hmk
  rw [hkl] at HZ
  rw [hkl] at hlc3
  rw [hkl]
  clear hcell hsh hkl
  go_enter Tryz.func126, Tryz.ntmps126
  go_wp2
  go_loopw [13] (fun i wr => ∃ k : Nat, k ≤ m ∧ i = .int .i64 k ∧ wr.ownsMap Tryz.prog 9 tokR (w.heap.size + 1) k (mapD vK ps k) ∧ Hid (((w.alloc (.cells #[.map none] 81)).alloc (.map #[] 0)).grownBy wr (some (w.heap.size + 1)))) (fun i _ => m - (intOf i).toNat)
  case atStart => exact ⟨0, Nat.zero_le _, rfl, hM0, World.grownBy.refl _ _⟩
  case round =>
    obtain ⟨k, hk, rfl, hown, hgr⟩ := hrel
    clear hM0 hmk
    have hal1 : w.grownBy (w.alloc (.cells #[.map none] 81)) none := World.grownBy_alloc w _ none
    have hal2 : (w.alloc (.cells #[.map none] 81)).grownBy ((w.alloc (.cells #[.map none] 81)).alloc (.map #[] 0)) none := World.grownBy_alloc _ _ none
    have hlow2 : ∀ b, b < w.heap.size + 1 → wr.heap[b]? = (w.alloc (.cells #[.map none] 81)).heap[b]? := fun b hb => (hgr.out.block b (by simp; omega) (by simp; omega)).trans (hal2.block b (by simp; omega) (by simp))
    have hlow : ∀ b, b < w.heap.size → wr.heap[b]? = w.heap[b]? := fun b hb => (hlow2 b (by omega)).trans (hal1.block b hb (by simp))
    by_cases hlt : k < m
    · have hlt' : (k : Int) < (m : Int) := by omega
      have hit : ∃ b off, a = some ⟨b, off, none⟩ ∧ wr.cell? ⟨b, off + k, none⟩ = some (ps.getD k .nilIface) := by
        rcases HC.out with h0 | ⟨b, off, rfl, hb, hcc⟩
        · omega
        · exact ⟨b, off, rfl, (World.cell?_of_block (hlow b hb)).trans (hcc k hlt)⟩
      obtain ⟨ib, io, rfl, hitem⟩ := hit
      have hag : Agree (fun b => b < N) w wr := fun b hb => hlow b (by omega)
      have hKr : KSeg (fun b => b < N) wr (.slice a3 m p3) vK := HZ.out.agree hag
      have hltK : k < vK.length := by have := HKL.out; omega
      obtain ⟨kb, ko, rfl, hat⟩ := hKr.at hltK
      obtain ⟨s2, e2, hu, g2, m2⟩ := hat k hltK
      have hcv := conv_seg e2 g2
      have hkey := keyS (vK.getD k []) m2
      have HD : Hid (mapD vK ps (k + 1) = (mapD vK ps k).put (.string (u8s (vK.getD k []))) (.held (ps.getD k .nilIface))) := rfl
      obtain ⟨pt, px, hpx⟩ := HSh.out k hlt
      rw [hpx] at hitem HD
      generalize vK.getD k [] = ys at *
      clear hlow hlow2 hag hKr hat g2 hal1 hal2 hpx
      go_wp2_with (at_mapUpdate; refine wpList_mapUpdate_own _ rfl _ _ _ 79 rfl 9 103 (Maps.string_keyed Tryz.underlying9) Tryz.underlying79 tokR (w.heap.size + 1) k _ rfl hown (by unfold maxLen; omega) _ _ _ rfl rfl hkey _ [] rfl ?_; intro w3 hown3 hg3)
      have hown4 : w3.ownsMap Tryz.prog 9 tokR (w.heap.size + 1) (k + 1) (mapD vK ps (k + 1)) := by rw [HD.out]; exact hown3
      have hgr3 : Hid (((w.alloc (.cells #[.map none] 81)).alloc (.map #[] 0)).grownBy w3 (some (w.heap.size + 1))) := grownBy_trans hgr.out hg3
      clear hown3 hg3 hown hgr hkey hcv hitem hu
      go_wp2
      go_roundw
      case rel => exact ⟨k + 1, by omega, by go_num, hown4, hgr3⟩
      case measure => simp [intOf]; omega
    · have hkn : k = m := by omega
      have hlt' : ¬ (k : Int) < (m : Int) := by omega
      obtain rfl := hkn
      have hsz3 : w.heap.size + 2 ≤ wr.heap.size := by have := hgr.out.size; simpa using this
      have hR : wr.heap[w.heap.size]? = some (.cells #[.map none] 81 (0, 0)) := (hlow2 w.heap.size (by omega)).trans (MapKept.heap_alloc w _).1
      have rc : wr.cell? ⟨w.heap.size, 0, none⟩ = some (.map none) := by rw [cell_of_row wr w.heap.size 0 _ _ _ hR]; rfl
      have rf : wr.frozen? ⟨w.heap.size, 0, none⟩ = false := frozen_of_row _ _ _ _ _ hR
      have hBw : Below w.heap.size w wr := ⟨hgr.out.os, hgr.out.tape, hgr.out.output, by omega, fun b hb => hlow b hb⟩
      have HR := hide' hR
      have HBw := hide' hBw
      clear hlow hlow2 hal1 hal2 hgr hR hBw
      go_wp2_with fail
      have hrow := heap_setCell_same wr w.heap.size 0 _ _ (.map (some (w.heap.size + 1))) HR.out
      have hc := cell_of_row _ _ 0 _ _ _ hrow
      have hg := grown1 wr w.heap.size 0 (.map (some (w.heap.size + 1)))
      refine bodyPost_ret (v := .agg #[.map (some (w.heap.size + 1))]) (by simp [results, Tryz.results126, go_sem, hc]) rfl ?_
      exact ⟨w.heap.size + 1, rfl, by omega, by simp [World.setCell]; omega, hown.kept hg (by simp), HBw.out.grown hg (by omega) (by intro j hj; simp at hj; omega)⟩
end Go.Proofs.YtbmgkmnibjdpiaaGreatDoor
