/-
  Texts that a law leans on, one behind the other; no statement is proved here.
-/
import Derived.Test.YteafpgaefphkfaaGreatDoorPk18
import Derived.Test.YteafpgaefphkfaaGreatDoorPk21
import Derived.Test.YteafpgaefphkfaaGreatDoorPk14
import Derived.Maps.Own
import Derived.Test.YteafpgaefphkfaaGreatDoorPk7
/-
  l2ok and ValOk of the specification, at every value.
-/
namespace Go.Proofs.YteafpgaefphkfaaGreatDoor
open Go.RowKit
set_option linter.unusedVariables false
set_option linter.unusedSimpArgs false

theorem okI_leaf_sel {d : Nat} {vk vn : Int} {vs : List Int} {vK : List (List Int)} {deep : Nat} {left : Int} (p : Bool) (h1 : deep ≤ 5) (h2 : shapeB vk vn vs vK 0 = p) (h4 : 1 ≤ left) : okI (d + 1) (vk, vn, vs, vK, []) deep left = sel p (left - 1) := by
  cases p with
  | true => rw [okI_leaf h1 h2 h4]; rfl
  | false => rw [okI_shape (d := d) (vL := []) deep left (by simpa using h2)]; rfl

set_option maxHeartbeats 1600000 in
theorem l2ok_succ (d : Nat) (ih : OkAt d) : OkAt (d + 1) := by
  intro N c v deep left w hv hN hd h0 h1
  obtain ⟨c0, c1, c2, c3, c4⟩ := c
  obtain ⟨vk, vn, vs, vK, vL⟩ := v
  obtain ⟨e0, e1, ht, hk, hl⟩ := (VSeg_succ _ _ _ _ _).1 hv
  simp only at e0 e1 ht hk hl
  subst e0
  subst e1
  clear hv
  simp only
  have HK := hk
  have HL := hl
  obtain ⟨a2, p2, rfl, s2, l2, m2, _, _⟩ := ht
  obtain ⟨a3, p3, rfl, _, _, _, _⟩ := hk
  obtain ⟨a4, p4, rfl, _, _, _, _⟩ := hl
  by_cases q1 : left < 1
  · exact (l2ok_left _ _ _ _ _ _ _ _ _ _ _ deep left w q1 h0).mono fun e w' h => ⟨h.1.trans (ret_i64 (okI_left _ deep q1).symm), h.2⟩
  by_cases q2 : 5 < deep
  · exact (l2ok_deep _ _ _ _ _ _ _ _ _ _ _ deep left w (by omega) h1 q2).mono fun e w' h => ⟨h.1.trans (ret_i64 (okI_deep _ left q2).symm), h.2⟩
  by_cases q3 : bareB vk vn vs.length vK.length vL.length = false
  · exact (l2ok_bare _ _ _ _ _ _ _ _ _ _ _ deep left w (by omega) h1 (by omega) q3).mono fun e w' h => ⟨h.1.trans (ret_i64 (okI_bare deep left q3).symm), h.2⟩
  have q4 : bareB vk vn vs.length vK.length vL.length = true := by simpa using q3
  have hL1 : 1 ≤ left := by omega
  have hD1 : deep ≤ 5 := by omega
  clear q1 q2 q3
  by_cases k0 : vk = 0 ∨ vk = 6
  · have : vn = 0 ∧ vs = [] ∧ vK = [] ∧ vL = [] := by rcases k0 with rfl | rfl <;> · simp [bareB] at q4; simpa [and_assoc] using q4
    obtain ⟨rfl, rfl, rfl, rfl⟩ := this
    exact (l2ok_null vk k0 _ _ _ _ _ _ deep left w hL1 h1 hD1).mono fun e w' h => ⟨h.1.trans (ret_i64 (okI_leaf_sel true hD1 (by rcases k0 with rfl | rfl <;> simp [shapeB, bareB]) hL1).symm), h.2⟩
  by_cases k1 : vk = 1
  · subst k1
    have : vs = [] ∧ vK = [] ∧ vL = [] := by simp [bareB] at q4; simpa [and_assoc] using q4
    obtain ⟨rfl, rfl, rfl⟩ := this
    exact (l2ok_bool vn _ _ _ _ _ _ deep left w hL1 h1 hD1).mono fun e w' h => ⟨h.1.trans (ret_i64 (okI_leaf_sel (decide (vn = 0) || decide (vn = 1)) hD1 (by simp [shapeB, bareB]) hL1).symm), h.2⟩
  by_cases k2 : vk = 2
  · subst k2
    have : vs = [] ∧ vK = [] ∧ vL = [] := by simp [bareB] at q4; simpa [and_assoc] using q4
    obtain ⟨rfl, rfl, rfl⟩ := this
    exact (l2ok_int vn _ _ _ _ _ _ deep left w hL1 h1 hD1).mono fun e w' h => ⟨h.1.trans (ret_i64 (okI_leaf_sel (intB vn) hD1 (by simp [shapeB, bareB]) hL1).symm), h.2⟩
  by_cases k3 : vk = 3
  · subst k3
    have : vn = 0 ∧ vK = [] ∧ vL = [] := by simp [bareB] at q4; simpa [and_assoc] using q4
    obtain ⟨rfl, rfl, rfl⟩ := this
    exact (l2ok_text vs _ _ _ _ _ _ deep left w s2 (by omega) hL1 h1 hD1).mono fun e w' h => ⟨h.1.trans (ret_i64 (okI_leaf_sel (textB vs) hD1 (by simp [shapeB, bareB]) hL1).symm), h.2⟩
  by_cases k4 : vk = 4
  · subst k4
    have : vn = 0 ∧ vs = [] ∧ vK = [] := by simp [bareB] at q4; simpa [and_assoc] using q4
    obtain ⟨rfl, rfl, rfl⟩ := this
    exact l2ok_list d ih N vL _ _ _ _ _ deep left w HL hN hL1 h1 hD1
  by_cases k5 : vk = 5
  · subst k5
    have : vn = 0 ∧ vs = [] := by simp [bareB] at q4; simpa [and_assoc] using q4
    obtain ⟨rfl, rfl⟩ := this
    exact l2ok_map d ih N vK vL _ _ _ _ deep left w HK HL hN hL1 h1 hD1
  · have : vn = 0 ∧ vs = [] ∧ vK = [] ∧ vL = [] := by simp [bareB, k1, k2, k3, k4, k5] at q4; simpa [and_assoc] using q4
    obtain ⟨rfl, rfl, rfl, rfl⟩ := this
    have k6 : ¬ vk = 6 := fun e => k0 (.inr e)
    have k0' : ¬ vk = 0 := fun e => k0 (.inl e)
    exact (l2ok_none vk k0' k1 k2 k3 k4 k5 k6 _ _ _ _ _ _ deep left w hL1 h1 hD1).mono fun e w' h => ⟨h.1.trans (ret_i64 (okI_leaf_sel false hD1 (by simp [shapeB, bareB, k0', k1, k2, k3, k4, k5, k6]) hL1).symm), h.2⟩

theorem l2ok_any (d : Nat) : OkAt d := by
  induction d with
  | zero => intro N c v deep left w hv; exact hv.elim
  | succ d ih => exact l2ok_succ d ih

/-- What ValOk answers. -/
def okB (d : Nat) (v : Vl d) : Bool := goodB d v 1 && decide (partsV d v ≤ 40)

theorem okI_okB (d : Nat) (v : Vl d) : (okB d v = true → 0 ≤ okI d v 1 40 ∧ okI d v 1 40 ≤ 40) ∧ (okB d v = false → okI d v 1 40 = -1) := by
  constructor
  · intro h
    simp [okB] at h
    rw [okI_yes h.1 (by omega)]
    omega
  · intro h
    refine okI_no fun ⟨h1, h2⟩ => ?_
    simp [okB, h1] at h
    omega

set_option maxHeartbeats 1600000 in
theorem spec_ValOk_any (d N : Nat) (c0 c1 c2 c3 c4 : Value) (v : Vl d) (w : World) (hv : VSeg (fun b => b < N) w d (c0, c1, c2, c3, c4) v) (hN : N ≤ w.heap.size) :
    Calls Tryz.prog 12 #[.agg #[c0, c1, c2, c3, c4]] w fun e w' => e = .returned (.bool (okB d v)) ∧ Below w.heap.size w w' := by
  have b0 : ∀ o : Obj, Below w.heap.size w (w.alloc o) := fun o => (Below.refl _ _).alloc (Nat.le_refl _) o
  have HC : Hid (∀ o : Obj, Calls Tryz.prog 30 #[.agg #[c0, c1, c2, c3, c4], .int .i64 1, .int .i64 40] (w.alloc o) fun e w' => e = .returned (.int .i64 (okI d v 1 40)) ∧ Below (w.alloc o).heap.size (w.alloc o) w') := fun o =>
    l2ok_any d N (c0, c1, c2, c3, c4) v 1 40 (w.alloc o) (VSeg.agree (agree_below ((b0 o).mono hN)) d hv) (by have := (b0 o).size; omega) (by omega) (by omega) (by omega)
  have Hb := hide' b0
  have hq := okI_okB d v
  clear b0
  cases hb : okB d v with
  | true =>
    obtain ⟨h1, h2⟩ := hq.1 hb
    generalize okI d v 1 40 = q at *
    clear hq hb
    go_enter Tryz.func12, Tryz.ntmps12
    go_wp2_with fail
    refine (HC.out _).mono ?_
    rintro e w1 ⟨rfl, b1⟩
    have B1 := Below.on (Hb.out _) b1
    clear b1
    go_wp2
    go_ret
    exact ⟨rfl, B1⟩
  | false =>
    have h1 := hq.2 hb
    rw [h1] at HC
    clear hq hb h1
    go_enter Tryz.func12, Tryz.ntmps12
    go_wp2_with fail
    refine (HC.out _).mono ?_
    rintro e w1 ⟨rfl, b1⟩
    have B1 := Below.on (Hb.out _) b1
    clear b1
    go_wp2
    go_ret
    exact ⟨rfl, B1⟩
end Go.Proofs.YteafpgaefphkfaaGreatDoor
/-
  l2find of the specification: where a key stands.
-/
namespace Go.Proofs.YteafpgaefphkfaaGreatDoor
open Go.RowKit
set_option linter.unusedVariables false
set_option linter.unusedSimpArgs false

/-- Where a key stands; -1 where it does not. -/
def findK (ks : List (List Int)) (key : List Int) : Int := match ks.findIdx? (fun k => decide (k = key)) with | some i => i | none => -1

theorem findK_at {ks : List (List Int)} {key : List Int} {k : Nat} (hk : k < ks.length) (hn : ∀ i, i < k → ks.getD i [] ≠ key) (he : ks.getD k [] = key) : findK ks key = k := by
  have : ks.findIdx? (fun x => decide (x = key)) = some k := by
    rw [List.findIdx?_eq_some_iff_getElem]
    refine ⟨hk, ?_, fun j hj => ?_⟩
    · simp [List.getD_eq_getElem?_getD, hk] at he
      simp [he]
    · have h1 := hn j hj
      simp [List.getD_eq_getElem?_getD, (show j < ks.length by omega)] at h1
      simp [h1]
  simp [findK, this]

theorem findK_no {ks : List (List Int)} {key : List Int} (hn : ∀ i, i < ks.length → ks.getD i [] ≠ key) : findK ks key = -1 := by
  have : ks.findIdx? (fun x => decide (x = key)) = none := by
    rw [List.findIdx?_eq_none_iff]
    intro x hx
    obtain ⟨i, hi, rfl⟩ := List.getElem_of_mem hx
    have h1 := hn i hi
    simp [List.getD_eq_getElem?_getD, hi] at h1
    simp [h1]
  simp [findK, this]

end Go.Proofs.YteafpgaefphkfaaGreatDoor
/-
  What the program's inner parts (an interface with one type a kind) hold: 'PSeg' reads one as a value; lists and maps of them.
-/
namespace Go.Proofs.YteafpgaefphkfaaGreatDoor
open Go.RowKit
set_option linter.unusedVariables false
set_option linter.unusedSimpArgs false

/-- A part of the program's reads as a value of depth at most d; it lies in blocks of R. -/
def PSeg (R : Nat → Prop) (w : World) : (d : Nat) → Value → Vl d → Prop
  | 0, _, _ => False
  | d + 1, p, v =>
    (v.1 = 0 ∧ p = .iface 103 (.agg #[])) ∨ (v.1 = 6 ∧ p = .iface 104 (.agg #[])) ∨
    (v.1 = 1 ∧ p = .iface 84 (.agg #[.int .i64 v.2.1])) ∨ (v.1 = 2 ∧ p = .iface 85 (.agg #[.int .i64 v.2.1])) ∨
    (v.1 = 3 ∧ p = .iface 87 (.agg #[.string (strOf v.2.2.1)])) ∨
    (v.1 = 4 ∧ ∃ a cap, p = .iface 90 (.agg #[.slice a v.2.2.2.2.length cap]) ∧ (v.2.2.2.2 = [] ∨ ∃ b off, a = some ⟨b, off, none⟩ ∧ R b ∧ ∀ i (h : i < v.2.2.2.2.length), ∃ u, w.cell? ⟨b, off + i, none⟩ = some u ∧ PSeg R w d u (v.2.2.2.2[i]))) ∨
    (v.1 = 5 ∧ ∃ b ps, p = .iface 93 (.agg #[.map (some b)]) ∧ R b ∧ w.ownsMap Tryz.prog 9 tokR b 64 (mapD v.2.2.2.1 ps v.2.2.2.2.length) ∧ ∀ i (h : i < v.2.2.2.2.length), PSeg R w d (ps.getD i .nilIface) (v.2.2.2.2[i]))

/-- A slice of parts. -/
def PLSeg (R : Nat → Prop) (w : World) (d : Nat) (x : Value) (l : List (Vl d)) : Prop :=
  ∃ a cap, x = .slice a l.length cap ∧ (l = [] ∨ ∃ b off, a = some ⟨b, off, none⟩ ∧ R b ∧ ∀ i (h : i < l.length), ∃ u, w.cell? ⟨b, off + i, none⟩ = some u ∧ PSeg R w d u (l[i]))

theorem ownsMap_agree {R : Nat → Prop} {w w' : World} {b n : Nat} {D : DataW Value} (h : w.ownsMap Tryz.prog 9 tokR b n D) (ha : Agree R w w') (hb : R b) : w'.ownsMap Tryz.prog 9 tokR b n D := by
  obtain ⟨es, clock, h1, r⟩ := h
  exact ⟨es, clock, (ha b hb).trans h1, r⟩

theorem PSeg.carry {R R' : Nat → Prop} {w w' : World} (hr : ∀ b, R b → R' b) (ha : Agree R w w') (d : Nat) : ∀ {p : Value} {v : Vl d}, PSeg R w d p v → PSeg R' w' d p v := by
  induction d with
  | zero => intro p v h; exact h
  | succ d ih =>
    intro p v h
    rcases h with h | h | h | h | h | ⟨hk, a, cap, hp, hc⟩ | ⟨hk, b, ps, hp, hR, hm, hc⟩
    · exact .inl h
    · exact .inr (.inl h)
    · exact .inr (.inr (.inl h))
    · exact .inr (.inr (.inr (.inl h)))
    · exact .inr (.inr (.inr (.inr (.inl h))))
    · refine .inr (.inr (.inr (.inr (.inr (.inl ⟨hk, a, cap, hp, ?_⟩)))))
      rcases hc with h0 | ⟨b, off, e, hR, hc⟩
      · exact .inl h0
      · refine .inr ⟨b, off, e, hr b hR, fun i hi => ?_⟩
        obtain ⟨u, hu, hv⟩ := hc i hi
        exact ⟨u, (cell_agree ha hR).trans hu, ih hv⟩
    · exact .inr (.inr (.inr (.inr (.inr (.inr ⟨hk, b, ps, hp, hr b hR, ownsMap_agree hm ha hR, fun i hi => ih (hc i hi)⟩)))))

/-- What take leaves of all that was there: all but the block of its counter. -/
theorem agree_grown {N q : Nat} {w w' : World} (h : w.grownBy w' (some q)) (hN : N ≤ q) (hq : q < w.heap.size) : Agree (fun b => b < N) w w' := fun b hb => h.block b (by omega) (by simp; omega)

theorem run_makeMapN (t k e : TypeId) (n : Int) (w : World) (ht : Tryz.prog.underlying t = some (.map k e)) : (Instr.makeMap t (some (.int .i64 n))).run Tryz.prog w = .ok (.map (some w.heap.size)) (w.alloc (.map #[] 0)) := by
  unfold Instr.makeMap
  simp only [Sem.run_bind, Sem.run_pure, run_underlying ht, Result.andThen]
  rfl

theorem info_part : (Tryz.prog.info? 55).map (fun i => (i.zero, i.size, i.bytes)) = some (some .nilIface, 1, 16) := by kernel_rfl

/-- The counter of an intake. -/
def Cnt (w : World) (q : Nat) (n : Nat) : Prop := w.heap[q]? = some (.cells #[.int .i64 n] 79 (0, 0))

/-- What a good take has brought about. -/
def Took (d : Nat) (v : Vl d) (deep n q : Nat) (w w' : World) (p : Value) : Prop :=
  goodB d v deep = true ∧ n + partsV d v ≤ 40 ∧ Cnt w' q (n + partsV d v) ∧ PSeg (fun b => w.heap.size ≤ b ∧ b < w'.heap.size) w' d p v

/-- The contract of take at depth d. -/
def TakeAt (d : Nat) : Prop := ∀ (N q n : Nat) (c : Value × Value × Value × Value × Value) (v : Vl d) (deep : Nat) (w : World), VSeg (fun b => b < N) w d c v → N ≤ q → q < w.heap.size → Cnt w q n → n ≤ 40 → deep ≤ 6 →
  Calls Tryz.prog 41 #[.pointer (some ⟨q, 0, none⟩), .agg #[c.1, c.2.1, c.2.2.1, c.2.2.2.1, c.2.2.2.2], .int .i64 deep] w fun e w' =>
    w.grownBy w' (some q) ∧ ((∃ p, e = .returned (.tuple #[p, .bool true]) ∧ Took d v deep n q w w' p) ∨ (e = .returned (.tuple #[.nilIface, .bool false]) ∧ ¬ (goodB d v deep = true ∧ n + partsV d v ≤ 40)))

theorem Cnt.cell {w : World} {q n : Nat} (h : Cnt w q n) : w.cell? ⟨q, 0, none⟩ = some (.int .i64 n) ∧ w.frozen? ⟨q, 0, none⟩ = false := by
  refine ⟨?_, frozen_of_row w q 0 _ _ h⟩
  rw [cell_of_row w q 0 _ _ (0, 0) h]
  rfl

theorem Cnt.set {w : World} {q n : Nat} (h : Cnt w q n) (m : Nat) : Cnt (w.setCell ⟨q, 0, none⟩ (.int .i64 m)) q m := heap_setCell_same w q 0 _ _ _ h
end Go.Proofs.YteafpgaefphkfaaGreatDoor
/-
  The bytes of a value. Plain mathematics.
-/
namespace Go.Proofs.YteafpgaefphkfaaGreatDoor
open Go.RowKit
set_option linter.unusedVariables false
set_option linter.unusedSimpArgs false

/-- A number with its sign. -/
def putI (xs : List Int) (n : Int) : List Int := if n < 0 then putNum (putNum (putNum xs 1) (-n / 1000000)) (-n % 1000000) else putNum (putNum (putNum xs 0) (n / 1000000)) (n % 1000000)

/-- The bytes of the first k kids, each behind its key, if there are keys. -/
def kidB {α : Type} (f : α → List Int → List Int) (m : Bool) (K : List (List Int)) (L : List α) (b : List Int) : Nat → List Int
  | 0 => b
  | k + 1 => match L[k]? with
    | some x => f x (if m then putText (kidB f m K L b k) (K.getD k []) else kidB f m K L b k)
    | none => kidB f m K L b k

/-- The bytes of a value, behind what is there. -/
def bytV : (d : Nat) → Vl d → List Int → List Int
  | 0, _, xs => xs
  | d + 1, v, xs =>
    if v.1 = 1 then putNum (putNum xs v.1) v.2.1
    else if v.1 = 2 then putI (putNum xs v.1) v.2.1
    else if v.1 = 3 then putText (putNum xs v.1) v.2.2.1
    else if v.1 = 4 ∨ v.1 = 5 then kidB (fun x b => bytV d x b) (decide (v.1 = 5)) v.2.2.2.1 v.2.2.2.2 (putNum (putNum xs v.1) v.2.2.2.2.length) v.2.2.2.2.length
    else putNum xs v.1

theorem kidB_succ {α : Type} (f : α → List Int → List Int) (m : Bool) (K : List (List Int)) (L : List α) (b : List Int) (k : Nat) (h : k < L.length) :
    kidB f m K L b (k + 1) = f L[k] (if m then putText (kidB f m K L b k) (K.getD k []) else kidB f m K L b k) := by
  show (match L[k]? with | some x => _ | none => _) = _
  rw [List.getElem?_eq_getElem h]

theorem putI_len (xs : List Int) (n : Int) : (putI xs n).length ≤ xs.length + 15 := by
  unfold putI
  split
  · have h1 := putNum_len xs 1
    have h2 := putNum_len (putNum xs 1) (-n / 1000000)
    have h3 := putNum_len (putNum (putNum xs 1) (-n / 1000000)) (-n % 1000000)
    omega
  · have h1 := putNum_len xs 0
    have h2 := putNum_len (putNum xs 0) (n / 1000000)
    have h3 := putNum_len (putNum (putNum xs 0) (n / 1000000)) (n % 1000000)
    omega

theorem kidB_len {α : Type} (f : α → List Int → List Int) (c : α → Nat) (hf : ∀ x b, (f x b).length + 25 ≤ b.length + 60 * c x) (m : Bool) (K : List (List Int)) (L : List α) (b : List Int) : ∀ k, k ≤ L.length → (kidB f m K L b k).length ≤ b.length + 60 * pre c L k
  | 0, _ => by simp [kidB]
  | k + 1, hk => by
    have ih := kidB_len f c hf m K L b k (by omega)
    rw [kidB_succ f m K L b k (by omega), pre_succ c L k (by omega)]
    cases m with
    | true =>
      have h1 := hf L[k] (putText (kidB f true K L b k) (K.getD k []))
      have h2 := putText_len (kidB f true K L b k) (K.getD k [])
      simp only [if_true]
      omega
    | false =>
      have h1 := hf L[k] (kidB f false K L b k)
      simp only [Bool.false_eq_true, if_false]
      omega

theorem bytV_len : ∀ (d : Nat) (v : Vl d) (xs : List Int), (bytV d v xs).length + 25 ≤ xs.length + 60 * partsV d v
  | 0, v, _ => v.elim
  | d + 1, v, xs => by
    obtain ⟨vk, vn, vs, vK, vL⟩ := v
    have hp := parts_succ d vk vn vs vK vL
    have h0 := putNum_len xs vk
    show (if vk = 1 then putNum (putNum xs vk) vn else if vk = 2 then putI (putNum xs vk) vn else if vk = 3 then putText (putNum xs vk) vs
      else if vk = 4 ∨ vk = 5 then kidB (fun x b => bytV d x b) (decide (vk = 5)) vK vL (putNum (putNum xs vk) vL.length) vL.length else putNum xs vk).length + 25 ≤ _
    split
    · have := putNum_len (putNum xs vk) vn
      omega
    split
    · have := putI_len (putNum xs vk) vn
      omega
    split
    · have := putText_len (putNum xs vk) vs
      omega
    split
    · have h1 := kidB_len (fun x b => bytV d x b) (partsV d) (fun x b => bytV_len d x b) (decide (vk = 5)) vK vL (putNum (putNum xs vk) vL.length) vL.length (Nat.le_refl _)
      have h2 := putNum_len (putNum xs vk) vL.length
      omega
    · omega

theorem bytV_bool (d : Nat) (vn : Int) (vs : List Int) (vK : List (List Int)) (vL : List (Vl d)) (xs : List Int) : bytV (d + 1) (1, vn, vs, vK, vL) xs = putNum (putNum xs 1) vn := rfl
theorem bytV_int (d : Nat) (vn : Int) (vs : List Int) (vK : List (List Int)) (vL : List (Vl d)) (xs : List Int) : bytV (d + 1) (2, vn, vs, vK, vL) xs = putI (putNum xs 2) vn := rfl
theorem bytV_text (d : Nat) (vn : Int) (vs : List Int) (vK : List (List Int)) (vL : List (Vl d)) (xs : List Int) : bytV (d + 1) (3, vn, vs, vK, vL) xs = putText (putNum xs 3) vs := rfl
theorem bytV_list (d : Nat) (vn : Int) (vs : List Int) (vK : List (List Int)) (vL : List (Vl d)) (xs : List Int) : bytV (d + 1) (4, vn, vs, vK, vL) xs = kidB (fun x b => bytV d x b) false vK vL (putNum (putNum xs 4) vL.length) vL.length := rfl
theorem bytV_map (d : Nat) (vn : Int) (vs : List Int) (vK : List (List Int)) (vL : List (Vl d)) (xs : List Int) : bytV (d + 1) (5, vn, vs, vK, vL) xs = kidB (fun x b => bytV d x b) true vK vL (putNum (putNum xs 5) vL.length) vL.length := rfl
theorem bytV_bare (d : Nat) (vk vn : Int) (hk : vk = 0 ∨ vk = 6) (vs : List Int) (vK : List (List Int)) (vL : List (Vl d)) (xs : List Int) : bytV (d + 1) (vk, vn, vs, vK, vL) xs = putNum xs vk := by
  rcases hk with rfl | rfl <;> rfl

/-- What ValBytes answers. -/
def valBytes (d : Nat) (v : Vl d) : List Int := if okB d v = true then bytV d v [] else []
end Go.Proofs.YteafpgaefphkfaaGreatDoor
