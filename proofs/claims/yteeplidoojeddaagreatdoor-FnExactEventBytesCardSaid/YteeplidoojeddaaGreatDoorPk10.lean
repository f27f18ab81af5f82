/-
  Texts that a law leans on, one behind the other; no statement is proved here.
-/
import Derived.Test.YteeplidoojeddaaGreatDoorPk9
import Derived.Test.YteeplidoojeddaaGreatDoorPk8
import Derived.Test.YteeplidoojeddaaGreatDoorPk0
import Derived.Test.YteeplidoojeddaaGreatDoorPk3
import Derived.Test.YteeplidoojeddaaGreatDoorPk7
/-
  take, partOf of the program, at every value.
-/
namespace Go.Proofs.YteeplidoojeddaaGreatDoor
open Go.RowKit
set_option linter.unusedVariables false
set_option linter.unusedSimpArgs false

/-- A leaf that was taken in. -/
theorem took_leaf {d : Nat} {vk vn : Int} {vs : List Int} {vK : List (List Int)} {deep n q : Nat} {w : World} {a2 a3 a4 : Option Addr} {l2 l3 l4 p2 p3 p4 : Nat} {p : Value} (hd : deep ≤ 5) (hn : n < 40) (hs : shapeB vk vn vs vK 0 = true)
    (hp : ∀ R w', PSeg R w' (d + 1) p (vk, vn, vs, vK, [])) (e : Ending) (w' : World) (h : Ahead w q n vk vn a2 a3 a4 l2 l3 l4 p2 p3 p4 w' ∧ e = .returned (.tuple #[p, .bool true])) : TakeEnd (d + 1) (vk, vn, vs, vK, []) deep n q w e w' := by
  obtain ⟨hA, rfl⟩ := h
  have e1 : partsV (d + 1) (vk, vn, vs, vK, []) = 1 := by rw [parts_succ]; simp [pre]
  refine ⟨hA.1, .inl ⟨p, rfl, (good_succ _ _ _ _ _ _ _).2 ⟨hd, by simpa using hs, fun j h => by simp at h⟩, by rw [e1]; omega, by rw [e1]; exact hA.2.1, hp _ _⟩⟩

theorem no_take {d : Nat} {v : Vl d} {deep n q : Nat} {w : World} {vk vn : Int} {a2 a3 a4 : Option Addr} {l2 l3 l4 p2 p3 p4 : Nat} (hno : ¬ (goodB d v deep = true ∧ n + partsV d v ≤ 40)) (e : Ending) (w' : World) (h : Ahead w q n vk vn a2 a3 a4 l2 l3 l4 p2 p3 p4 w' ∧ e = .returned (.tuple #[.nilIface, .bool false])) : TakeEnd d v deep n q w e w' := by
  obtain ⟨hA, rfl⟩ := h
  exact ⟨hA.1, .inr ⟨rfl, hno⟩⟩

theorem bad_shape {d : Nat} {vk vn : Int} {vs : List Int} {vK : List (List Int)} {vL : List (Vl d)} {deep n : Nat} (h : shapeB vk vn vs vK vL.length = false) : ¬ (goodB (d + 1) (vk, vn, vs, vK, vL) deep = true ∧ n + partsV (d + 1) (vk, vn, vs, vK, vL) ≤ 40) := fun ⟨h1, _⟩ => by
  have := ((good_succ _ _ _ _ _ _ _).1 h1).2.1
  rw [h] at this
  simp at this

set_option maxHeartbeats 1600000 in
theorem take_succ (d : Nat) (ih : TakeAt d) : TakeAt (d + 1) := by
  intro N q n c v deep w hv hNq hq hc hn hd
  show Calls _ _ _ _ (TakeEnd (d + 1) v deep n q w)
  obtain ⟨c0, c1, c2, c3, c4⟩ := c
  obtain ⟨vk, vn, vs, vK, vL⟩ := v
  obtain ⟨e0, e1, ht, hk, hl⟩ := (VSeg_succ _ _ _ _ _).1 hv
  simp only at e0 e1 ht hk hl
  subst e0
  subst e1
  clear hv
  simp only
  have HT := ht
  have HK := hk
  have HL := hl
  obtain ⟨a2, p2, rfl, s2, l2, m2, _, _⟩ := ht
  obtain ⟨a3, p3, rfl, _, _, _, _⟩ := hk
  obtain ⟨a4, p4, rfl, _, _, _, _⟩ := hl
  by_cases q1 : n = 40
  · refine (take_over q n vk vn a2 a3 a4 _ _ _ p2 p3 p4 deep w hq hc q1).mono fun e w' h => ⟨h.1, .inr ⟨h.2, fun ⟨_, h2⟩ => ?_⟩⟩
    have := parts_pos d (vk, vn, vs, vK, vL)
    omega
  have hn' : n < 40 := by omega
  by_cases q2 : 5 < deep
  · refine (take_deep q n vk vn _ _ _ a2 a3 a4 p2 p3 p4 deep w hq hc hn' q2).mono (no_take fun ⟨h1, _⟩ => ?_)
    have := ((good_succ _ _ _ _ _ _ _).1 h1).1
    omega
  have hD1 : deep ≤ 5 := by omega
  by_cases q3 : bareB vk vn vs.length vK.length vL.length = false
  · exact (take_bare q n vk vn _ _ _ a2 a3 a4 p2 p3 p4 deep w hq hc hn' hD1 q3).mono (no_take (bad_shape (by simp [shapeB, q3])))
  have q4 : bareB vk vn vs.length vK.length vL.length = true := by simpa using q3
  clear q1 q2 q3
  by_cases k0 : vk = 0
  · subst k0
    have : vn = 0 ∧ vs = [] ∧ vK = [] ∧ vL = [] := by simp [bareB] at q4; simpa [and_assoc] using q4
    obtain ⟨rfl, rfl, rfl, rfl⟩ := this
    exact (take_null q n a2 a3 a4 p2 p3 p4 deep w hq hc hn' hD1).mono (took_leaf hD1 hn' (by simp [shapeB, bareB]) fun R w' => .inl ⟨rfl, rfl⟩)
  by_cases k6 : vk = 6
  · subst k6
    have : vn = 0 ∧ vs = [] ∧ vK = [] ∧ vL = [] := by simp [bareB] at q4; simpa [and_assoc] using q4
    obtain ⟨rfl, rfl, rfl, rfl⟩ := this
    exact (take_unknown q n a2 a3 a4 p2 p3 p4 deep w hq hc hn' hD1).mono (took_leaf hD1 hn' (by simp [shapeB, bareB]) fun R w' => .inr (.inl ⟨rfl, rfl⟩))
  by_cases k1 : vk = 1
  · subst k1
    have : vs = [] ∧ vK = [] ∧ vL = [] := by simp [bareB] at q4; simpa [and_assoc] using q4
    obtain ⟨rfl, rfl, rfl⟩ := this
    by_cases v0 : vn = 0
    · subst v0
      exact (take_bool0 q n a2 a3 a4 p2 p3 p4 deep w hq hc hn' hD1).mono (took_leaf hD1 hn' (by simp [shapeB, bareB]) fun R w' => .inr (.inr (.inl ⟨rfl, rfl⟩)))
    by_cases v1 : vn = 1
    · subst v1
      exact (take_bool1 q n a2 a3 a4 p2 p3 p4 deep w hq hc hn' hD1).mono (took_leaf hD1 hn' (by simp [shapeB, bareB]) fun R w' => .inr (.inr (.inl ⟨rfl, rfl⟩)))
    · exact (take_boolno q n vn v0 v1 a2 a3 a4 p2 p3 p4 deep w hq hc hn' hD1).mono (no_take (bad_shape (by simp [shapeB, bareB, v0, v1])))
  by_cases k2 : vk = 2
  · subst k2
    have : vs = [] ∧ vK = [] ∧ vL = [] := by simp [bareB] at q4; simpa [and_assoc] using q4
    obtain ⟨rfl, rfl, rfl⟩ := this
    by_cases v0 : -1000000000000 ≤ vn
    · by_cases v1 : vn ≤ 1000000000000
      · exact (take_int q n vn v0 v1 a2 a3 a4 p2 p3 p4 deep w hq hc hn' hD1).mono (took_leaf hD1 hn' (by simp [shapeB, bareB, intB, v0, v1]) fun R w' => .inr (.inr (.inr (.inl ⟨rfl, rfl⟩))))
      · exact (take_inthigh q n vn v0 v1 a2 a3 a4 p2 p3 p4 deep w hq hc hn' hD1).mono (no_take (bad_shape (by simp [shapeB, bareB, intB, v1])))
    · exact (take_intlow q n vn v0 a2 a3 a4 p2 p3 p4 deep w hq hc hn' hD1).mono (no_take (bad_shape (by simp [shapeB, bareB, intB, v0])))
  by_cases k3 : vk = 3
  · subst k3
    have : vn = 0 ∧ vK = [] ∧ vL = [] := by simp [bareB] at q4; simpa [and_assoc] using q4
    obtain ⟨rfl, rfl, rfl⟩ := this
    cases htb : textB vs with
    | true => exact (take_text q n N vs hNq a2 a3 a4 p2 p3 p4 deep w hq hc hn' hD1 HT htb).mono (took_leaf hD1 hn' (by simp [shapeB, bareB, htb]) fun R w' => .inr (.inr (.inr (.inr (.inl ⟨rfl, rfl⟩)))))
    | false => exact (take_textno q n N vs hNq a2 a3 a4 p2 p3 p4 deep w hq hc hn' hD1 HT htb).mono (no_take (bad_shape (by simp [shapeB, bareB, htb])))
  by_cases k4 : vk = 4
  · subst k4
    have : vn = 0 ∧ vs = [] ∧ vK = [] := by simp [bareB] at q4; simpa [and_assoc] using q4
    obtain ⟨rfl, rfl, rfl⟩ := this
    exact take_list d ih N q n _ vL a2 a3 p2 p3 deep w HL hNq hq hc hn' hD1
  by_cases k5 : vk = 5
  · subst k5
    have : vn = 0 ∧ vs = [] := by simp [bareB] at q4; simpa [and_assoc] using q4
    obtain ⟨rfl, rfl⟩ := this
    exact take_map d ih N q n _ _ vK vL a2 p2 deep w HK HL hNq hq hc hn' hD1
  · have : vn = 0 ∧ vs = [] ∧ vK = [] ∧ vL = [] := by simp [bareB, k1, k2, k3, k4, k5] at q4; simpa [and_assoc] using q4
    obtain ⟨rfl, rfl, rfl, rfl⟩ := this
    exact (take_none q n vk k0 k1 k2 k3 k4 k5 k6 a2 a3 a4 p2 p3 p4 deep w hq hc hn' hD1).mono (no_take (bad_shape (by simp [shapeB, bareB, k0, k1, k2, k3, k4, k5, k6])))

theorem take_any (d : Nat) : TakeAt d := by
  induction d with
  | zero => intro N q n c v deep w hv; exact hv.elim
  | succ d ih => exact take_succ d ih

/-- What partOf says. -/
def PartEnd (d : Nat) (v : Vl d) (w : World) (e : Ending) (w' : World) : Prop :=
  Below w.heap.size w w' ∧ ((∃ p, e = .returned (.tuple #[p, .bool true]) ∧ okB d v = true ∧ PSeg (fun b => w.heap.size ≤ b ∧ b < w'.heap.size) w' d p v) ∨ (e = .returned (.tuple #[.nilIface, .bool false]) ∧ okB d v = false))

set_option maxHeartbeats 1600000 in
theorem partOf_any (d N : Nat) (c0 c1 c2 c3 c4 : Value) (v : Vl d) (w : World) (hv : VSeg (fun b => b < N) w d (c0, c1, c2, c3, c4) v) (hN : N ≤ w.heap.size) :
    Calls Tryz.prog 52 #[.agg #[c0, c1, c2, c3, c4]] w (PartEnd d v w) := by
  have b0 : ∀ o o' : Obj, Below w.heap.size w ((w.alloc o).alloc o') := fun o o' => ((Below.refl _ _).alloc (Nat.le_refl _) o).alloc (by simp) o'
  have HC : Hid (∀ o : Obj, Calls Tryz.prog 66 #[.pointer (some ⟨w.heap.size + 1, 0, none⟩), .agg #[c0, c1, c2, c3, c4], .int .i64 1] ((w.alloc o).alloc (.cells #[.int .i64 0] 110)) (TakeEnd d v 1 0 (w.heap.size + 1) ((w.alloc o).alloc (.cells #[.int .i64 0] 110)))) := fun o =>
    take_any d N (w.heap.size + 1) 0 (c0, c1, c2, c3, c4) v 1 ((w.alloc o).alloc (.cells #[.int .i64 0] 110)) (VSeg.agree (agree_below ((b0 o _).mono hN)) d hv) (by omega) (by rw [size2]; omega) (two_boxes w o _).2 (by omega) (by omega)
  have Hb := hide' b0
  have hsz := fun o o' => size2 w o o'
  have Hsz := hide' hsz
  clear b0 hsz
  go_enter Tryz.func52, Tryz.ntmps52
  go_wp2_with fail
  refine (HC.out _).mono ?_
  rintro e w1 ⟨hg1, hcase⟩
  have hB1 := (Hb.out _ _).grown hg1 (by rw [Hsz.out]; omega) (by intro j hj; simp at hj; omega)
  rcases hcase with ⟨p, rfl, h1, h2, h3, h4⟩ | ⟨rfl, hno⟩
  · have hE : Hid (okB d v = true ∧ PSeg (fun b => w.heap.size ≤ b ∧ b < w1.heap.size) w1 d p v) := ⟨by simp [okB, h1]; omega, PSeg.carry (fun b hb => ⟨by have := hb.1; rw [Hsz.out] at this; omega, hb.2⟩) (fun b _ => rfl) d h4⟩
    clear h1 h2 h3 h4 hg1
    go_wp2
    go_ret2
    exact ⟨hB1, .inl ⟨_, rfl, hE.out⟩⟩
  · have hE : Hid (okB d v = false) := by
      show okB d v = false
      cases h : okB d v with
      | false => rfl
      | true => simp [okB] at h; exact absurd ⟨h.1, by omega⟩ hno
    clear hno hg1
    go_wp2
    go_ret2
    exact ⟨hB1, .inr ⟨rfl, hE.out⟩⟩

end Go.Proofs.YteeplidoojeddaaGreatDoor
/-
  mapOf of the program.
-/
namespace Go.Proofs.YteeplidoojeddaaGreatDoor
open Go.RowKit
set_option linter.unusedVariables false
set_option linter.unusedSimpArgs false

theorem nomap_boolPart (x : Value) (w : World) : (Instr.typeAssert (.iface 95 x) 73 52 true).run Tryz.prog w = .ok (.tuple #[.agg #[.map none], .bool false]) w := by kernel_rfl
theorem nomap_intPart (x : Value) (w : World) : (Instr.typeAssert (.iface 96 x) 73 52 true).run Tryz.prog w = .ok (.tuple #[.agg #[.map none], .bool false]) w := by kernel_rfl
theorem nomap_textPart (x : Value) (w : World) : (Instr.typeAssert (.iface 98 x) 73 52 true).run Tryz.prog w = .ok (.tuple #[.agg #[.map none], .bool false]) w := by kernel_rfl
theorem nomap_listPart (x : Value) (w : World) : (Instr.typeAssert (.iface 101 x) 73 52 true).run Tryz.prog w = .ok (.tuple #[.agg #[.map none], .bool false]) w := by kernel_rfl
theorem nomap_nil (w : World) : (Instr.typeAssert .nilIface 73 52 true).run Tryz.prog w = .ok (.tuple #[.agg #[.map none], .bool false]) w := by kernel_rfl

/-- The kind of a value. -/
def kindV : (d : Nat) → Vl d → Int
  | 0, _ => 0
  | d + 1, v => v.1

/-- What mapOf leaves. -/
def MapOf (d : Nat) (v : Vl d) (w : World) (e : Ending) (w' : World) : Prop :=
  Below w.heap.size w w' ∧ ((∃ b, e = .returned (.tuple #[.agg #[.map (some b)], .bool true]) ∧ okB d v = true ∧ kindV d v = 5 ∧ PSeg (fun b => w.heap.size ≤ b ∧ b < w'.heap.size) w' d (.iface 52 (.agg #[.map (some b)])) v) ∨
    (e = .returned (.tuple #[.agg #[.map none], .bool false]) ∧ ¬ (okB d v = true ∧ kindV d v = 5)))

/-- What partOf leaves, asked for a map. -/
theorem part_map {d : Nat} {v : Vl d} {w w' : World} {e : Ending} (h : PartEnd d v w e w') : Below w.heap.size w w' ∧ ∃ p f, e = .returned (.tuple #[p, .bool f]) ∧ ∃ mo ok, (∀ wx, (Instr.typeAssert p 73 52 true).run Tryz.prog wx = .ok (.tuple #[.agg #[.map mo], .bool ok]) wx) ∧
    ((∃ b, mo = some b ∧ ok = true ∧ okB d v = true ∧ kindV d v = 5 ∧ PSeg (fun b => w.heap.size ≤ b ∧ b < w'.heap.size) w' d (.iface 52 (.agg #[.map (some b)])) v) ∨ (mo = none ∧ ok = false ∧ ¬ (okB d v = true ∧ kindV d v = 5))) := by
  obtain ⟨hb, ⟨p, rfl, hok, hp⟩ | ⟨rfl, hno⟩⟩ := h
  · refine ⟨hb, p, true, rfl, ?_⟩
    cases d with
    | zero => exact hp.elim
    | succ d =>
      have hp' := hp
      rcases hp with ⟨hk, rfl⟩ | ⟨hk, rfl⟩ | ⟨hk, rfl⟩ | ⟨hk, rfl⟩ | ⟨hk, rfl⟩ | ⟨hk, a, cap, rfl, hc⟩ | ⟨hk, b, ps, rfl, hR, hm, hc⟩
      · exact ⟨none, false, nomap_nullPart _, .inr ⟨rfl, rfl, fun h => by have h2 : v.1 = 5 := h.2; omega⟩⟩
      · exact ⟨none, false, nomap_unknownPart _, .inr ⟨rfl, rfl, fun h => by have h2 : v.1 = 5 := h.2; omega⟩⟩
      · exact ⟨none, false, nomap_boolPart _, .inr ⟨rfl, rfl, fun h => by have h2 : v.1 = 5 := h.2; omega⟩⟩
      · exact ⟨none, false, nomap_intPart _, .inr ⟨rfl, rfl, fun h => by have h2 : v.1 = 5 := h.2; omega⟩⟩
      · exact ⟨none, false, nomap_textPart _, .inr ⟨rfl, rfl, fun h => by have h2 : v.1 = 5 := h.2; omega⟩⟩
      · exact ⟨none, false, nomap_listPart _, .inr ⟨rfl, rfl, fun h => by have h2 : v.1 = 5 := h.2; omega⟩⟩
      · exact ⟨some b, true, is_mapPart _, .inl ⟨b, rfl, rfl, hok, hk, hp'⟩⟩
  · exact ⟨hb, .nilIface, false, rfl, none, false, nomap_nil, .inr ⟨rfl, rfl, fun h => by rw [hno] at h; simp at h⟩⟩

set_option maxHeartbeats 1600000 in
theorem mapOf_any (d N : Nat) (c0 c1 c2 c3 c4 : Value) (v : Vl d) (w : World) (hv : VSeg (fun b => b < N) w d (c0, c1, c2, c3, c4) v) (hN : N ≤ w.heap.size) :
    Calls Tryz.prog 53 #[.agg #[c0, c1, c2, c3, c4]] w (MapOf d v w) := by
  have HA : Hid (∀ o o' : Obj, Below w.heap.size w ((w.alloc o).alloc o') ∧ ((w.alloc o).alloc o').heap[w.heap.size + 1]? = some o') := fun o o' => ⟨((Below.refl _ _).alloc (Nat.le_refl _) o).alloc (by simp) o', by have := (MapKept.heap_alloc (w.alloc o) o').1; simpa using this⟩
  have HP : Hid (∀ o o' : Obj, Calls Tryz.prog 52 #[.agg #[c0, c1, c2, c3, c4]] ((w.alloc o).alloc o') (PartEnd d v ((w.alloc o).alloc o'))) := fun o o' => partOf_any d N c0 c1 c2 c3 c4 v _ (VSeg.agree (fun b (h : b < N) => (HA.out o o').1.block b (by omega)) d hv) (by simp; omega)
  clear hv
  go_enter Tryz.func53, Tryz.ntmps53
  go_wp2_with fail
  refine (HP.out _ _).mono ?_
  intro e w1 he
  obtain ⟨b1, p, f, rfl, mo, ok, hta, hres⟩ := part_map he
  have hR : w1.heap[w.heap.size + 1]? = some (.cells #[.map none] 52 (0, 0)) := (b1.block _ (by simp)).trans (HA.out _ _).2
  have hB1 := Below.on (HA.out _ _).1 b1
  have hlt : w.heap.size + 1 < w1.heap.size := (Array.getElem?_eq_some_iff.1 hR).1
  have hne : ¬ w.heap.size + 1 = w1.heap.size := by omega
  have hne' : ¬ w1.heap.size = w.heap.size + 1 := by omega
  have rc : ∀ o, (w1.alloc o).cell? ⟨w.heap.size + 1, 0, none⟩ = some (.map none) := fun o => by
    rw [cell_of_row (w1.alloc o) (w.heap.size + 1) 0 _ _ _ ((Below.heap_alloc w1 o _ hlt).trans hR)]
    rfl
  have rf : ∀ o, (w1.alloc o).frozen? ⟨w.heap.size + 1, 0, none⟩ = false := fun o => frozen_of_row _ _ _ _ _ ((Below.heap_alloc w1 o _ hlt).trans hR)
  have HR := hide' hR
  have HB1 := hide' hB1
  have HRes := hide' hres
  have Hb1 := hide' b1
  clear hR hB1 hres b1 he HP
  go_wp2_with fail
  have hrow : ((w1.setCell ⟨w.heap.size + 1, 0, none⟩ (.map mo)).alloc (.cells #[.map mo] 52)).heap[w.heap.size + 1]? = some (.cells #[.map mo] 52 (0, 0)) := (Below.heap_alloc _ _ _ (by simp [World.setCell]; omega)).trans (heap_setCell_same w1 _ 0 _ _ _ HR.out)
  have hc := cell_of_row _ _ 0 _ _ _ hrow
  have hg := grown1 w1 (w.heap.size + 1) 0 (.map mo)
  have hBf : Below w.heap.size w ((w1.setCell ⟨w.heap.size + 1, 0, none⟩ (.map mo)).alloc (.cells #[.map mo] 52)) := (HB1.out.grown hg (by omega) (by intro j hj; simp at hj; omega)).alloc (by simp [World.setCell]; omega) _
  have hsz : w1.heap.size ≤ ((w1.setCell ⟨w.heap.size + 1, 0, none⟩ (.map mo)).alloc (.cells #[.map mo] 52)).heap.size := by simp [World.setCell]
  refine bodyPost_ret (v := .tuple #[.agg #[.map mo], .bool ok]) (by simp [results, Tryz.results53, go_sem, hc]) rfl ?_
  refine ⟨hBf, ?_⟩
  rcases HRes.out with ⟨b, rfl, rfl, h1, h2, h3⟩ | ⟨rfl, rfl, h1⟩
  · refine .inl ⟨b, rfl, h1, h2, PSeg.carry (fun b' hb' => ?_) (fun b' hb' => ?_) d h3⟩
    · simp at hb'
      omega
    · simp at hb'
      exact (Below.heap_alloc _ _ _ (by simp [World.setCell]; omega)).trans (hg.block b' hb'.2 (by simp; omega))
  · exact .inr ⟨rfl, h1⟩
end Go.Proofs.YteeplidoojeddaaGreatDoor
/-
  The order of texts, as the specification asks it: l2bytes.
-/
namespace Go.Proofs.YteeplidoojeddaaGreatDoor
open Go.RowKit
set_option linter.unusedVariables false
set_option linter.unusedSimpArgs false

/-- The order of two texts. -/
def bytesC (xs ys : List Int) : Int := Lib.compareBytes (u8s xs) (u8s ys)

theorem cmp_swap : ∀ (a b : List UInt8), Lib.compareBytes b a = - Lib.compareBytes a b
  | [], [] => by simp [Lib.compareBytes]
  | [], _ :: _ => by simp [Lib.compareBytes]
  | _ :: _, [] => by simp [Lib.compareBytes]
  | x :: a, y :: b => by
    have ih := cmp_swap a b
    unfold Lib.compareBytes
    by_cases h1 : x < y
    · have h2 : ¬ y < x := fun h => absurd (UInt8.lt_trans h1 h) (UInt8.lt_irrefl _)
      have h3 : ¬ x = y := fun e => by subst e; exact absurd h1 (UInt8.lt_irrefl _)
      have h4 : ¬ y = x := fun e => h3 e.symm
      simp [h1, h2, h3, h4]
    · by_cases h2 : y < x
      · have h3 : ¬ x = y := fun e => by subst e; exact absurd h2 (UInt8.lt_irrefl _)
        have h4 : ¬ y = x := fun e => h3 e.symm
        simp [h1, h2, h3, h4]
      · have h3 : x = y := UInt8.le_antisymm (UInt8.not_lt.1 h2) (UInt8.not_lt.1 h1)
        subst h3
        simp [h1, ih]

theorem less_ab (xs ys : List Int) : Op.bytesLess (strOf xs).toList (strOf ys).toList = decide (bytesC xs ys < 0) := by rw [strOf_list, strOf_list, less_cmp]; rfl
theorem less_ba (xs ys : List Int) : Op.bytesLess (strOf ys).toList (strOf xs).toList = decide (0 < bytesC xs ys) := by
  rw [strOf_list, strOf_list, less_cmp, cmp_swap]
  show decide (-(bytesC xs ys) < 0) = _
  by_cases h : 0 < bytesC xs ys
  · simp [h]
  · simp [h]
theorem cmp_zero : ∀ (a b : List UInt8), Lib.compareBytes a b = 0 ↔ a = b
  | [], [] => by simp [Lib.compareBytes]
  | [], _ :: _ => by simp [Lib.compareBytes]
  | _ :: _, [] => by simp [Lib.compareBytes]
  | x :: a, y :: b => by
    have ih := cmp_zero a b
    unfold Lib.compareBytes
    by_cases h1 : x < y
    · have h3 : ¬ x = y := fun e => by subst e; exact absurd h1 (UInt8.lt_irrefl _)
      simp [h1, h3]
    · by_cases h2 : y < x
      · have h3 : ¬ x = y := fun e => by subst e; exact absurd h2 (UInt8.lt_irrefl _)
        simp [h1, h2, h3]
      · have h3 : x = y := UInt8.le_antisymm (UInt8.not_lt.1 h2) (UInt8.not_lt.1 h1)
        subst h3
        simp [h1, ih]
theorem same_ab (xs ys : List Int) : ((strOf xs).toList == (strOf ys).toList) = decide (bytesC xs ys = 0) := by
  rw [strOf_list, strOf_list]
  have h := cmp_zero (u8s xs) (u8s ys)
  show _ = decide (Lib.compareBytes (u8s xs) (u8s ys) = 0)
  by_cases e : u8s xs = u8s ys
  · simp [e, h.2 e]
    exact (cmp_zero _ _).2 rfl
  · have : ¬ Lib.compareBytes (u8s xs) (u8s ys) = 0 := fun k => e (h.1 k)
    simp [e, this]
theorem bytesC_cases (xs ys : List Int) : bytesC xs ys = -1 ∨ bytesC xs ys = 0 ∨ bytesC xs ys = 1 := by
  have := cmp_range (u8s xs) (u8s ys)
  have e : bytesC xs ys = Lib.compareBytes (u8s xs) (u8s ys) := rfl
  omega

set_option maxHeartbeats 800000 in
theorem l2bytes_any (a b : Option Addr) (c1 c2 : Nat) (xs ys : List Int) (w : World) (ha : Seg w a xs) (hb : Seg w b ys) :
    Calls Tryz.prog 64 #[.slice a xs.length c1, .slice b ys.length c2] w fun e w' => e = .returned (.int .i64 (bytesC xs ys)) ∧ w = w' := by
  have k1 := conv_seg c1 ha
  have k2 := conv_seg c2 hb
  have l1 := less_ab xs ys
  have l2 := less_ba xs ys
  have l3 := same_ab xs ys
  rcases bytesC_cases xs ys with h | h | h
  · rw [h] at l1 l2 l3
    simp only [Int.reduceNeg, Int.reduceLT, Int.reduceEq, decide_true, decide_false, Int.lt_irrefl] at l1 l2 l3
    have HO := hide' h
    clear h
    go_enter Tryz.func64, Tryz.ntmps64
    go_wp2
    go_ret
    exact ⟨ret_i64 (by rw [HO.out]), rfl⟩
  · rw [h] at l1 l2 l3
    simp only [Int.reduceNeg, Int.reduceLT, Int.reduceEq, decide_true, decide_false, Int.lt_irrefl] at l1 l2 l3
    have HO := hide' h
    clear h
    go_enter Tryz.func64, Tryz.ntmps64
    go_wp2
    go_ret
    exact ⟨ret_i64 (by rw [HO.out]), rfl⟩
  · rw [h] at l1 l2 l3
    simp only [Int.reduceNeg, Int.reduceLT, Int.reduceEq, decide_true, decide_false, Int.lt_irrefl] at l1 l2 l3
    have HO := hide' h
    clear h
    go_enter Tryz.func64, Tryz.ntmps64
    go_wp2
    go_ret
    exact ⟨ret_i64 (by rw [HO.out]), rfl⟩

end Go.Proofs.YteeplidoojeddaaGreatDoor
/-
  The order of numbers and of texts, as the specification and as the program ask it: l2num; cmp.Compare at int.
-/
namespace Go.Proofs.YteeplidoojeddaaGreatDoor
open Go.RowKit
set_option linter.unusedVariables false
set_option linter.unusedSimpArgs false

/-- The order of two numbers. -/
def numC (a b : Int) : Int := if a < b then -1 else if b < a then 1 else 0
theorem numC_lt {a b : Int} (h : a < b) : numC a b = -1 := by simp [numC, h]
theorem numC_gt {a b : Int} (h : b < a) : numC a b = 1 := by
  have : ¬ a < b := by omega
  simp [numC, h, this]
theorem numC_eq (a : Int) : numC a a = 0 := by simp [numC]

set_option maxHeartbeats 800000 in
theorem l2num_any (a b : Int) (w : World) : Calls Tryz.prog 63 #[.int .i64 a, .int .i64 b] w fun e w' => e = .returned (.int .i64 (numC a b)) ∧ w = w' := by
  by_cases h1 : a < b
  · have HO := hide' (numC_lt h1)
    go_enter Tryz.func63, Tryz.ntmps63
    go_wp2
    go_ret
    exact ⟨ret_i64 (by rw [HO.out]), rfl⟩
  · by_cases h2 : b < a
    · have HO := hide' (numC_gt h2)
      go_enter Tryz.func63, Tryz.ntmps63
      go_wp2
      go_ret
      exact ⟨ret_i64 (by rw [HO.out]), rfl⟩
    · have h3 : a = b := by omega
      subst h3
      have HO := hide' (numC_eq a)
      go_enter Tryz.func63, Tryz.ntmps63
      go_wp2
      go_ret
      exact ⟨ret_i64 (by rw [HO.out]), rfl⟩

end Go.Proofs.YteeplidoojeddaaGreatDoor
/-
  Events: which may be (mathematics); EventOk of the specification.
-/
namespace Go.Proofs.YteeplidoojeddaaGreatDoor
open Go.RowKit
set_option linter.unusedVariables false
set_option linter.unusedSimpArgs false

def mapB (d : Nat) (v : Vl d) : Bool := decide (kindV d v = 5) && (okB d v && knownV d v)
def headE (k : Int) (ad : List Int) (j : Int) : Bool := (if 1 ≤ k ∧ k ≤ 4 then addrB ad else decide (ad.length = 0)) && (if k = 1 then decide (1 ≤ j) && decide (j ≤ 4) else decide (j = 0))
def restE (d : Nat) (k : Int) (v : Vl d) (ds : List (List Int)) : Bool := if k = 2 then mapB d v && addrsB ds else okB d v && (decide (kindV d v = 0) && decide (ds.length = 0))
/-- What EventOk answers. -/
def evB (d : Nat) (e : Rcd d) : Bool := decide (0 ≤ e.1) && (decide (e.1 ≤ 6) && (headE e.1 e.2.1 e.2.2.1 && restE d e.1 e.2.2.2.1 e.2.2.2.2))

theorem addrB_some {ad : List Int} (h : addrB ad = true) : ¬ ad.length = 0 := by
  intro h0
  obtain rfl : ad = [] := List.length_eq_zero_iff.1 h0
  exact absurd h (by decide)
theorem ev_row {w : World} {g : Nat} {T : TypeId} {c0 c1 c2 c3 c4 c5 c6 c7 c8 : Value} (h : w.heap[g]? = some (.cells #[c0, c1, c2, c3, c4, c5, c6, c7, c8] T (0, 0))) :
    w.cell? ⟨g, 0, none⟩ = some c0 ∧ w.cell? ⟨g, 1, none⟩ = some c1 ∧ w.cell? ⟨g, 2, none⟩ = some c2 ∧ w.cell? ⟨g, 3, none⟩ = some c3 ∧ w.cell? ⟨g, 4, none⟩ = some c4 ∧ w.cell? ⟨g, 5, none⟩ = some c5 ∧ w.cell? ⟨g, 6, none⟩ = some c6 ∧ w.cell? ⟨g, 7, none⟩ = some c7 ∧ w.cell? ⟨g, 8, none⟩ = some c8 := by
  refine ⟨?_, ?_, ?_, ?_, ?_, ?_, ?_, ?_, ?_⟩ <;> (rw [cell_of_row w g _ _ _ _ h]; rfl)

theorem shape_null {vn : Int} {vs : List Int} {vK : List (List Int)} {n : Nat} (h : shapeB 0 vn vs vK n = true) : vn = 0 ∧ n = 0 := by
  unfold shapeB bareB at h
  simp only [Bool.and_eq_true, Bool.or_eq_true, decide_eq_true_eq] at h
  omega

set_option maxHeartbeats 3200000 in
set_option maxRecDepth 100000 in
theorem l2cmp_zero (bk bn : Int) (a2 : Option Addr) (l2 p2 : Nat) (a3 : Option Addr) (l3 p3 : Nat) (a4 : Option Addr) (l4 p4 : Nat) (hq : bk = 0 → bn = 0 ∧ l4 = 0) (wx : World) :
    Calls Tryz.prog 49 #[.agg #[.int .i64 bk, .int .i64 bn, .slice a2 l2 p2, .slice a3 l3 p3, .slice a4 l4 p4], .agg #[.int .i64 0, .int .i64 0, .slice none 0 0, .slice none 0 0, .slice none 0 0]] wx fun e w' => e = .returned (.int .i64 (numC bk 0)) ∧ Below wx.heap.size wx w' := by
  have HA : Hid (∀ o o' : Obj, Below wx.heap.size wx ((wx.alloc o).alloc o')) := fun o o' => ((Below.refl _ _).alloc (Nat.le_refl _) o).alloc (by simp) o'
  have HN : Hid (∀ w, Calls Tryz.prog 63 #[.int .i64 bk, .int .i64 0] w fun e w' => e = .returned (.int .i64 (numC bk 0)) ∧ w = w') := fun w => l2num_any bk 0 w
  by_cases h0 : bk = 0
  · obtain ⟨rfl, rfl⟩ := hq h0
    subst h0
    have e0 : numC 0 0 = 0 := numC_eq 0
    rw [e0] at HN ⊢
    clear hq e0
    go_enter Tryz.func49, Tryz.ntmps49
    go_wp2_with fail
    go_loopw [5] (fun i wr => i = .int .i64 0 ∧ wr = (wx.alloc (.cells #[.int .i64 0, .int .i64 0, .slice a2 l2 p2, .slice a3 l3 p3, .slice a4 0 p4] 34)).alloc (.cells #[.int .i64 0, .int .i64 0, .slice none 0 0, .slice none 0 0, .slice none 0 0] 34)) (fun _ _ => 0)
    case atStart => exact ⟨rfl, rfl⟩
    case round =>
      obtain ⟨rfl, rfl⟩ := hrel
      go_wp2_with fail
      refine (HN.out _).mono ?_
      rintro e w1 ⟨rfl, rfl⟩
      go_wp2
      go_ret
      exact ⟨rfl, HA.out _ _⟩
  · have h0' : (bk != 0) = true := by simpa using h0
    generalize numC bk 0 = q at *
    clear hq
    go_enter Tryz.func49, Tryz.ntmps49
    go_wp2_with fail
    refine (HN.out _).mono ?_
    rintro e w1 ⟨rfl, rfl⟩
    go_wp2
    go_ret
    exact ⟨rfl, HA.out _ _⟩

set_option maxHeartbeats 3200000 in
set_option maxRecDepth 100000 in
theorem l4zero_any (d N : Nat) (c0 c1 c2 c3 c4 : Value) (v : Vl d) (w : World) (hv : VSeg (fun b => b < N) w d (c0, c1, c2, c3, c4) v) (hN : N ≤ w.heap.size) (hok : okB d v = true) :
    Calls Tryz.prog 32 #[.agg #[c0, c1, c2, c3, c4]] w fun e w' => e = .returned (.bool (decide (kindV d v = 0))) ∧ Below w.heap.size w w' := by
  cases d with
  | zero => exact hv.elim
  | succ d =>
  obtain ⟨bk, bn, a2, l2, p2, a3, l3, p3, a4, l4, p4, rfl, rfl, rfl, rfl, rfl⟩ := VSeg.form (d + 1) hv
  obtain ⟨vk, vn, vs, vK, vL⟩ := v
  obtain ⟨e0, e1, _, _, hl⟩ := hv
  simp only [Value.int.injEq, true_and] at e0 e1
  subst e0 e1
  obtain ⟨a4', c4', e4, _⟩ := hl
  simp only [Value.slice.injEq] at e4
  obtain ⟨-, hl4, -⟩ := e4
  have hk : kindV (d + 1) (bk, bn, vs, vK, vL) = bk := rfl
  rw [hk]
  have hg : goodB (d + 1) (bk, bn, vs, vK, vL) 1 = true := by unfold okB at hok; rw [Bool.and_eq_true] at hok; exact hok.1
  have hsh := ((good_succ _ _ _ _ _ _ _).1 hg).2.1
  have HA1 : Hid (∀ o : Obj, Below w.heap.size w (w.alloc o)) := fun o => (Below.refl _ _).alloc (Nat.le_refl _) o
  have HC : Hid (∀ wx, Calls Tryz.prog 49 #[.agg #[.int .i64 bk, .int .i64 bn, .slice a2 l2 p2, .slice a3 l3 p3, .slice a4 l4 p4], .agg #[.int .i64 0, .int .i64 0, .slice none 0 0, .slice none 0 0, .slice none 0 0]] wx fun e w' => e = .returned (.int .i64 (numC bk 0)) ∧ Below wx.heap.size wx w') := fun wx => l2cmp_zero bk bn a2 l2 p2 a3 l3 p3 a4 l4 p4 (fun h0 => by subst h0; obtain ⟨q1, q2⟩ := shape_null hsh; exact ⟨q1, by omega⟩) wx
  have Hbox : Hid (∀ o wx, Below (w.alloc o).heap.size (w.alloc o) wx → wx.heap[w.heap.size]? = some o) := fun o wx h => box_row h
  by_cases h0 : bk = 0
  · subst h0
    obtain ⟨q1, q2⟩ := shape_null hsh
    subst q1
    have ql : l4 = 0 := by omega
    have e0 : numC 0 0 = 0 := numC_eq 0
    rw [e0] at HC
    clear hsh hg hok hk hl4 q2
    subst ql
    go_enter Tryz.func32, Tryz.ntmps32
    go_wp2_with fail
    refine (HC.out _).mono ?_
    rintro e w1 ⟨rfl, b1⟩
    have hr := Hbox.out _ _ b1
    have f1 : w1.cell? ⟨w.heap.size, 1, none⟩ = some (.int .i64 0) := by rw [cell_of_row _ _ 1 _ _ _ hr]; rfl
    have B1 := hide' (Below.on (HA1.out _) b1)
    clear hr b1
    go_wp2
    go_ret
    exact ⟨rfl, B1.out⟩
  · have hnz : ¬ numC bk 0 = 0 := by
      unfold numC
      split
      · omega
      · split <;> omega
    have hd : decide (bk = 0) = false := decide_eq_false h0
    rw [hd]
    generalize numC bk 0 = q at *
    have hq : (q == 0) = false := by simpa using hnz
    clear hsh hg hok hk hl4
    go_enter Tryz.func32, Tryz.ntmps32
    go_wp2_with fail
    refine (HC.out _).mono ?_
    rintro e w1 ⟨rfl, b1⟩
    have B1 := hide' (Below.on (HA1.out _) b1)
    clear b1
    go_wp2
    go_ret
    exact ⟨rfl, B1.out⟩

set_option maxHeartbeats 1600000 in
theorem l4map_any (d N : Nat) (c0 c1 c2 c3 c4 : Value) (v : Vl d) (w : World) (hv : VSeg (fun b => b < N) w d (c0, c1, c2, c3, c4) v) (hN : N ≤ w.heap.size) :
    Calls Tryz.prog 29 #[.agg #[c0, c1, c2, c3, c4]] w fun e w' => e = .returned (.bool (mapB d v)) ∧ Below w.heap.size w w' := by
  have HA1 : Hid (∀ o : Obj, Below w.heap.size w (w.alloc o)) := fun o => (Below.refl _ _).alloc (Nat.le_refl _) o
  have Hbox : Hid (∀ o wx, Below (w.alloc o).heap.size (w.alloc o) wx → wx.heap[w.heap.size]? = some o) := fun o wx h => box_row h
  have HOk : Hid (∀ wx, Below w.heap.size w wx → Calls Tryz.prog 31 #[.agg #[c0, c1, c2, c3, c4]] wx fun e w' => e = .returned (.bool (okB d v)) ∧ Below wx.heap.size wx w') := fun wx hb => spec_ValOk_any d N _ _ _ _ _ v wx (VSeg.agree (agree_below (hb.mono hN)) d hv) (by have := hb.size; omega)
  have HKn : Hid (∀ wx, Below w.heap.size w wx → okB d v = true → Calls Tryz.prog 47 #[.agg #[c0, c1, c2, c3, c4]] wx fun e w' => e = .returned (.bool (knownV d v)) ∧ Below wx.heap.size wx w') := fun wx hb hok => l2known_any d N (c0, c1, c2, c3, c4) v wx (VSeg.agree (agree_below (hb.mono hN)) d hv) (by have := hb.size; omega) (by unfold okB at hok; rw [Bool.and_eq_true, decide_eq_true_eq] at hok; exact hok.2)
  have HM : Hid (mapB d v = (decide (kindV d v = 5) && (okB d v && knownV d v))) := rfl
  cases d with
  | zero => exact hv.elim
  | succ d =>
  obtain ⟨bk, bn, a2, l2, p2, a3, l3, p3, a4, l4, p4, rfl, rfl, rfl, rfl, rfl⟩ := VSeg.form (d + 1) hv
  have hk : kindV (d + 1) v = bk := by
    obtain ⟨vk, vn, vs, vK, vL⟩ := v
    obtain ⟨e0, _⟩ := hv
    simp only [Value.int.injEq, true_and] at e0
    exact e0.symm
  rw [hk] at HM
  clear hv hk
  generalize mapB (d + 1) v = ans at *
  generalize knownV (d + 1) v = kn at *
  by_cases h5 : bk = 5
  rotate_left
  · have h5' : (bk == 5) = false := by simpa using h5
    have HF : Hid (ans = false) := by show ans = false; rw [HM.out, decide_eq_false h5]; rfl
    clear HM
    go_enter Tryz.func29, Tryz.ntmps29
    go_wp2
    go_ret
    exact ⟨ret_bool HF.out.symm, HA1.out _⟩
  subst h5
  cases hok : okB (d + 1) v with
  | false =>
    have HF : Hid (ans = false) := by show ans = false; rw [HM.out, hok]; simp
    rw [hok] at HOk
    clear HM HKn hok
    go_enter Tryz.func29, Tryz.ntmps29
    go_wp2_with fail
    refine (HOk.out _ (HA1.out _)).mono ?_
    rintro e w1 ⟨rfl, b1⟩
    have B1 := hide' (Below.on (HA1.out _) b1)
    clear b1
    go_wp2
    go_ret
    exact ⟨ret_bool HF.out.symm, B1.out⟩
  | true =>
    have HF : Hid (ans = kn) := by show ans = kn; rw [HM.out, hok]; simp
    have HKn2 : Hid (∀ wx, Below w.heap.size w wx → Calls Tryz.prog 47 #[.agg #[.int .i64 5, .int .i64 bn, .slice a2 l2 p2, .slice a3 l3 p3, .slice a4 l4 p4]] wx fun e w' => e = .returned (.bool kn) ∧ Below wx.heap.size wx w') := fun wx hb => HKn.out wx hb hok
    rw [hok] at HOk
    clear HM HKn hok
    go_enter Tryz.func29, Tryz.ntmps29
    go_wp2_with fail
    refine (HOk.out _ (HA1.out _)).mono ?_
    rintro e w1 ⟨rfl, b1⟩
    have hr := Hbox.out _ _ b1
    have f0 : w1.cell? ⟨w.heap.size, 0, none⟩ = some (.int .i64 5) := by rw [cell_of_row _ _ 0 _ _ _ hr]; rfl
    have f1 : w1.cell? ⟨w.heap.size, 1, none⟩ = some (.int .i64 bn) := by rw [cell_of_row _ _ 1 _ _ _ hr]; rfl
    have f2 : w1.cell? ⟨w.heap.size, 2, none⟩ = some (.slice a2 l2 p2) := by rw [cell_of_row _ _ 2 _ _ _ hr]; rfl
    have f3 : w1.cell? ⟨w.heap.size, 3, none⟩ = some (.slice a3 l3 p3) := by rw [cell_of_row _ _ 3 _ _ _ hr]; rfl
    have f4 : w1.cell? ⟨w.heap.size, 4, none⟩ = some (.slice a4 l4 p4) := by rw [cell_of_row _ _ 4 _ _ _ hr]; rfl
    have B1 := hide' (Below.on (HA1.out _) b1)
    clear hr b1
    go_wp2_with fail
    refine (HKn2.out _ B1.out).mono ?_
    rintro e w2 ⟨rfl, b2⟩
    have B2 := hide' (Below.on B1.out b2)
    clear b2 f0 f1 f2 f3 f4
    go_wp2
    go_ret
    exact ⟨ret_bool HF.out.symm, B2.out⟩

end Go.Proofs.YteeplidoojeddaaGreatDoor
/-
  Texts in quotes, numbers, as people read them. Plain mathematics.
-/
namespace Go.Proofs.YteeplidoojeddaaGreatDoor
open Go.RowKit
set_option linter.unusedVariables false
set_option linter.unusedSimpArgs false

/-- A text with a mark ahead of each quote and each such mark. -/
def escQ (t : List Int) : List Int := t.flatMap fun c => if c = 34 ∨ c = 92 then [92, c] else [c]
/-- A text in quotes. -/
def quoT (t : List Int) : List Int := 34 :: (escQ t ++ [34])
/-- A number. -/
def intT (n : Int) : List Int := if n < 0 then 45 :: decI (-n).toNat else decI n.toNat

theorem escQ_step (t : List Int) (k : Nat) (h : k < t.length) : escQ (t.take (k + 1)) = escQ (t.take k) ++ (if t[k] = 34 ∨ t[k] = 92 then [92, t[k]] else [t[k]]) := by
  unfold escQ
  rw [List.take_succ_eq_append_getElem h, List.flatMap_append]
  simp
theorem escQ_len (t : List Int) : (escQ t).length ≤ 2 * t.length := by
  induction t with
  | nil => simp [escQ]
  | cons c r ih =>
    have e : escQ (c :: r) = (if c = 34 ∨ c = 92 then [92, c] else [c]) ++ escQ r := rfl
    rw [e, List.length_append, List.length_cons]
    have : (if c = 34 ∨ c = 92 then [92, c] else [c]).length ≤ 2 := by split <;> simp
    omega
theorem quoT_len (t : List Int) : (quoT t).length ≤ 2 * t.length + 2 := by
  have := escQ_len t
  simp only [quoT, List.length_cons, List.length_append, List.length_nil]
  omega
theorem intT_len (n : Int) (h0 : -1000000000000 ≤ n) (h1 : n ≤ 1000000000000) : (intT n).length ≤ 21 := by
  unfold intT
  split
  · have := decI_len (-n).toNat (by omega)
    simp; omega
  · have := decI_len n.toNat (by omega)
    omega

end Go.Proofs.YteeplidoojeddaaGreatDoor
/-
  A value as people read it. Plain mathematics.
-/
namespace Go.Proofs.YteeplidoojeddaaGreatDoor
open Go.RowKit
set_option linter.unusedVariables false
set_option linter.unusedSimpArgs false

/-- What stands at place k ahead of the kid: a comma, and its key. -/
def aheadS (m : Bool) (K : List (List Int)) (k : Nat) : List Int := (if k = 0 then [] else [44, 32]) ++ (if m then K.getD k [] ++ [32, 61, 32] else [])
/-- The first k kids. -/
def kidS {α : Type} (f : α → List Int) (m : Bool) (K : List (List Int)) (L : List α) : Nat → List Int
  | 0 => []
  | k + 1 => match L[k]? with
    | some x => kidS f m K L k ++ (aheadS m K k ++ f x)
    | none => kidS f m K L k

theorem kidS_succ {α : Type} (f : α → List Int) (m : Bool) (K : List (List Int)) (L : List α) (k : Nat) (h : k < L.length) : kidS f m K L (k + 1) = kidS f m K L k ++ (aheadS m K k ++ f L[k]) := by
  show (match L[k]? with | some x => _ | none => _) = _
  rw [List.getElem?_eq_getElem h]

/-- A value as people read it. -/
def sayV : (d : Nat) → Vl d → List Int
  | 0, _ => []
  | d + 1, v =>
    if v.1 = 0 then [110, 117, 108, 108]
    else if v.1 = 1 then (if v.2.1 = 0 then [102, 97, 108, 115, 101] else [116, 114, 117, 101])
    else if v.1 = 2 then intT v.2.1
    else if v.1 = 3 then quoT v.2.2.1
    else if v.1 = 4 ∨ v.1 = 5 then (if v.1 = 5 then 123 else 91) :: (kidS (sayV d) (decide (v.1 = 5)) v.2.2.2.1 v.2.2.2.2 v.2.2.2.2.length ++ [if v.1 = 5 then 125 else 93])
    else [63]

theorem sayV_null (d : Nat) (vn : Int) (vs : List Int) (vK : List (List Int)) (vL : List (Vl d)) : sayV (d + 1) (0, vn, vs, vK, vL) = [110, 117, 108, 108] := rfl
theorem sayV_bool (d : Nat) (vn : Int) (vs : List Int) (vK : List (List Int)) (vL : List (Vl d)) : sayV (d + 1) (1, vn, vs, vK, vL) = if vn = 0 then [102, 97, 108, 115, 101] else [116, 114, 117, 101] := rfl
theorem sayV_int (d : Nat) (vn : Int) (vs : List Int) (vK : List (List Int)) (vL : List (Vl d)) : sayV (d + 1) (2, vn, vs, vK, vL) = intT vn := rfl
theorem sayV_text (d : Nat) (vn : Int) (vs : List Int) (vK : List (List Int)) (vL : List (Vl d)) : sayV (d + 1) (3, vn, vs, vK, vL) = quoT vs := rfl
theorem sayV_list (d : Nat) (vn : Int) (vs : List Int) (vK : List (List Int)) (vL : List (Vl d)) : sayV (d + 1) (4, vn, vs, vK, vL) = 91 :: (kidS (sayV d) false vK vL vL.length ++ [93]) := rfl
theorem sayV_map (d : Nat) (vn : Int) (vs : List Int) (vK : List (List Int)) (vL : List (Vl d)) : sayV (d + 1) (5, vn, vs, vK, vL) = 123 :: (kidS (sayV d) true vK vL vL.length ++ [125]) := rfl
theorem sayV_unknown (d : Nat) (vn : Int) (vs : List Int) (vK : List (List Int)) (vL : List (Vl d)) : sayV (d + 1) (6, vn, vs, vK, vL) = [63] := rfl

/-- What a part takes at most. -/
theorem kidS_len {α : Type} (f : α → List Int) (c : α → Nat) (m : Bool) (K : List (List Int)) (L : List α) (hK : m = true → ∀ j, j < L.length → (K.getD j []).length ≤ 8) (hf : ∀ j (h : j < L.length), (f L[j]).length + 15 ≤ 60 * c L[j]) : ∀ k, k ≤ L.length → (kidS f m K L k).length ≤ 60 * pre c L k
  | 0, _ => by simp [kidS]
  | k + 1, hk => by
    have ih := kidS_len f c m K L hK hf k (by omega)
    have h1 := hf k (by omega)
    have h2 := pre_succ c L k (by omega)
    have h3 : (aheadS m K k).length ≤ 13 := by
      unfold aheadS
      rw [List.length_append]
      have e1 : (if k = 0 then [] else [(44 : Int), 32]).length ≤ 2 := by split <;> simp
      cases m with
      | true =>
        have := hK rfl k (by omega)
        simp only [if_true, List.length_append, List.length_cons, List.length_nil]
        omega
      | false => simp only [Bool.false_eq_true, if_false, List.length_nil]; omega
    rw [kidS_succ f m K L k (by omega), List.length_append, List.length_append]
    omega

theorem asc_few {vK : List (List Int)} (h : ascB vK = true) (j : Nat) (hj : j < vK.length) : (vK.getD j []).length ≤ 8 := by
  have h1 := ascB_at h hj
  unfold stepB nameB at h1
  simp only [Bool.and_eq_true, decide_eq_true_eq] at h1
  exact h1.1.1.2

theorem sayV_len : ∀ (d : Nat) (v : Vl d) (deep : Nat), goodB d v deep = true → (sayV d v).length + 15 ≤ 60 * partsV d v
  | 0, v, _, _ => v.elim
  | d + 1, v, deep, hg => by
    obtain ⟨vk, vn, vs, vK, vL⟩ := v
    have hp := parts_succ d vk vn vs vK vL
    obtain ⟨_, hsh, hkids⟩ := (good_succ _ _ _ _ _ _ _).1 hg
    unfold shapeB bareB intB at hsh
    simp only [Bool.and_eq_true, Bool.or_eq_true, decide_eq_true_eq] at hsh
    obtain ⟨_, h5⟩ := hsh
    have hK : ∀ m, m = true → vk = 5 → ∀ j, j < vL.length → (vK.getD j []).length ≤ 8 := fun m _ hk j hj => by
      rcases h5 with (((((h5 | h5) | h5) | h5) | h5) | h5) | h5
      all_goals first | omega | skip
      exact asc_few h5.2.2 j (by omega)
    rcases h5 with (((((h5 | h5) | h5) | h5) | h5) | h5) | h5
    · subst h5; rw [sayV_null, hp]; simp; omega
    · subst h5; rw [sayV_unknown, hp]; simp; omega
    · obtain ⟨rfl, _⟩ := h5; rw [sayV_bool, hp]; split <;> simp <;> omega
    · obtain ⟨rfl, h1, h2⟩ := h5; rw [sayV_int, hp]; have := intT_len vn h1 h2; omega
    · obtain ⟨rfl, h1⟩ := h5
      unfold textB at h1
      simp only [Bool.and_eq_true, decide_eq_true_eq] at h1
      rw [sayV_text, hp]; have := quoT_len vs; omega
    · subst h5
      rw [sayV_list, hp]
      have := kidS_len (sayV d) (partsV d) false vK vL (fun h => by simp at h) (fun j h => sayV_len d vL[j] (deep + 1) (hkids j h)) vL.length (Nat.le_refl _)
      simp only [List.length_cons, List.length_append, List.length_nil]
      omega
    · obtain ⟨rfl, h1⟩ := h5
      rw [sayV_map, hp]
      have := kidS_len (sayV d) (partsV d) true vK vL (fun h j hj => hK true h rfl j hj) (fun j h => sayV_len d vL[j] (deep + 1) (hkids j h)) vL.length (Nat.le_refl _)
      simp only [List.length_cons, List.length_append, List.length_nil]
      omega

/-- What ValText answers. -/
def valText (d : Nat) (v : Vl d) : List Int := if okB d v = true then sayV d v else []
end Go.Proofs.YteeplidoojeddaaGreatDoor
/-
  l2quoted of the specification.
-/
namespace Go.Proofs.YteeplidoojeddaaGreatDoor
open Go.RowKit
set_option linter.unusedVariables false
set_option linter.unusedSimpArgs false

theorem Seg.byte {w : World} {b off : Nat} {ts : List Int} (h : Seg w (some ⟨b, off, none⟩) ts) {k : Nat} (hk : k < ts.length) : w.cell? ⟨b, off + k, none⟩ = some (.int .u8 ts[k]) := by
  obtain ⟨b', off', e, hc⟩ := h.at hk
  simp only [Option.some.injEq, Addr.mk.injEq] at e
  obtain ⟨rfl, rfl, _⟩ := e
  rw [hc]
  simp [List.getD_eq_getElem?_getD, hk]

end Go.Proofs.YteeplidoojeddaaGreatDoor
/-
  l2digits of the specification, at whatever number.
-/
namespace Go.Proofs.YteeplidoojeddaaGreatDoor
open Go.RowKit
set_option linter.unusedVariables false
set_option linter.unusedSimpArgs false

end Go.Proofs.YteeplidoojeddaaGreatDoor
