/-
  Texts that a law leans on, one behind the other; no statement is proved here.
-/
import Derived.Test.YteiahjknlcmloaaPk13
import Derived.Test.YteiahjknlcmloaaPk12
import Derived.Test.YteiahjknlcmloaaPk11
import Derived.Test.YteiahjknlcmloaaPk8
import Derived.Maps.OwnSet
import Derived.Test.YteiahjknlcmloaaPk9
/-
  take, partOf of the program, at every value.
-/
namespace Go.Proofs.Yteiahjknlcmloaa
open Go.RowKit
set_option linter.unusedVariables false
set_option linter.unusedSimpArgs false

/-- A leaf that was taken in. -/
theorem took_leaf {d : Nat} {vk vn : Int} {vs : List Int} {vK : List (List Int)} {deep n q : Nat} {w : World} {a2 a3 a4 : Option Addr} {l2 l3 l4 p2 p3 p4 : Nat} {p : Value} (hd : deep ≤ 5) (hn : n < 40) (hs : shapeB vk vn vs vK 0 = true)
    (hp : ∀ R w', PSeg R w' (d + 1) p (vk, vn, vs, vK, [])) (e : Ending) (w' : World) (h : Ahead w q n vk vn a2 a3 a4 l2 l3 l4 p2 p3 p4 w' ∧ e = .returned (.tuple #[p, .bool true])) : TakeEnd (d + 1) (vk, vn, vs, vK, []) deep n q w e w' := by
  obtain ⟨hA, rfl⟩ := h
  have e1 : partsV (d + 1) (vk, vn, vs, vK, []) = 1 := by rw [parts_succ]; simp [pre]
  refine ⟨hA.1, .inl ⟨p, rfl, (good_succ _ _ _ _ _ _ _).2 ⟨hd, by simpa using hs, fun j h => by simp at h⟩, by rw [e1]; omega, by rw [e1]; exact hA.2.1, hp _ _⟩⟩

theorem no_take {d : Nat} {v : Vl d} {deep n q : Nat} {w : World} {vk vn : Int} {a2 a3 a4 : Option Addr} {l2 l3 l4 p2 p3 p4 : Nat} (hno : ¬ (goodB d v deep = true ∧ n + partsV d v ≤ 40)) (e : Ending) (w' : World) (h : Ahead w q n vk vn a2 a3 a4 l2 l3 l4 p2 p3 p4 w' ∧ e = .returned (.tuple #[.nilIface, .bool false])) : TakeEnd d v deep n q w e w' := by
  obtain ⟨hA, rfl⟩ := h
  exact ⟨hA.1, .inr ⟨rfl, hno⟩⟩

theorem bad_shape {d : Nat} {vk vn : Int} {vs : List Int} {vK : List (List Int)} {vL : List (Vl d)} {deep n : Nat} (h : shapeB vk vn vs vK vL.length = false) : ¬ (goodB (d + 1) (vk, vn, vs, vK, vL) deep = true ∧ n + partsV (d + 1) (vk, vn, vs, vK, vL) ≤ 40) := fun ⟨h1, _⟩ => by
  have := ((good_succ _ _ _ _ _ _ _).1 h1).2.1
  rw [h] at this
  simp at this

set_option maxHeartbeats 1600000 in
theorem take_succ (d : Nat) (ih : TakeAt d) : TakeAt (d + 1) := by
  intro N q n c v deep w hv hNq hq hc hn hd
  show Calls _ _ _ _ (TakeEnd (d + 1) v deep n q w)
  obtain ⟨c0, c1, c2, c3, c4⟩ := c
  obtain ⟨vk, vn, vs, vK, vL⟩ := v
  obtain ⟨e0, e1, ht, hk, hl⟩ := (VSeg_succ _ _ _ _ _).1 hv
  simp only at e0 e1 ht hk hl
  subst e0
  subst e1
  clear hv
  simp only
  have HT := ht
  have HK := hk
  have HL := hl
  obtain ⟨a2, p2, rfl, s2, l2, m2, _, _⟩ := ht
  obtain ⟨a3, p3, rfl, _, _, _, _⟩ := hk
  obtain ⟨a4, p4, rfl, _, _, _, _⟩ := hl
  by_cases q1 : n = 40
  · refine (take_over q n vk vn a2 a3 a4 _ _ _ p2 p3 p4 deep w hq hc q1).mono fun e w' h => ⟨h.1, .inr ⟨h.2, fun ⟨_, h2⟩ => ?_⟩⟩
    have := parts_pos d (vk, vn, vs, vK, vL)
    omega
  have hn' : n < 40 := by omega
  by_cases q2 : 5 < deep
  · refine (take_deep q n vk vn _ _ _ a2 a3 a4 p2 p3 p4 deep w hq hc hn' q2).mono (no_take fun ⟨h1, _⟩ => ?_)
    have := ((good_succ _ _ _ _ _ _ _).1 h1).1
    omega
  have hD1 : deep ≤ 5 := by omega
  by_cases q3 : bareB vk vn vs.length vK.length vL.length = false
  · exact (take_bare q n vk vn _ _ _ a2 a3 a4 p2 p3 p4 deep w hq hc hn' hD1 q3).mono (no_take (bad_shape (by simp [shapeB, q3])))
  have q4 : bareB vk vn vs.length vK.length vL.length = true := by simpa using q3
  clear q1 q2 q3
  by_cases k0 : vk = 0
  · subst k0
    have : vn = 0 ∧ vs = [] ∧ vK = [] ∧ vL = [] := by simp [bareB] at q4; simpa [and_assoc] using q4
    obtain ⟨rfl, rfl, rfl, rfl⟩ := this
    exact (take_null q n a2 a3 a4 p2 p3 p4 deep w hq hc hn' hD1).mono (took_leaf hD1 hn' (by simp [shapeB, bareB]) fun R w' => .inl ⟨rfl, rfl⟩)
  by_cases k6 : vk = 6
  · subst k6
    have : vn = 0 ∧ vs = [] ∧ vK = [] ∧ vL = [] := by simp [bareB] at q4; simpa [and_assoc] using q4
    obtain ⟨rfl, rfl, rfl, rfl⟩ := this
    exact (take_unknown q n a2 a3 a4 p2 p3 p4 deep w hq hc hn' hD1).mono (took_leaf hD1 hn' (by simp [shapeB, bareB]) fun R w' => .inr (.inl ⟨rfl, rfl⟩))
  by_cases k1 : vk = 1
  · subst k1
    have : vs = [] ∧ vK = [] ∧ vL = [] := by simp [bareB] at q4; simpa [and_assoc] using q4
    obtain ⟨rfl, rfl, rfl⟩ := this
    by_cases v0 : vn = 0
    · subst v0
      exact (take_bool0 q n a2 a3 a4 p2 p3 p4 deep w hq hc hn' hD1).mono (took_leaf hD1 hn' (by simp [shapeB, bareB]) fun R w' => .inr (.inr (.inl ⟨rfl, rfl⟩)))
    by_cases v1 : vn = 1
    · subst v1
      exact (take_bool1 q n a2 a3 a4 p2 p3 p4 deep w hq hc hn' hD1).mono (took_leaf hD1 hn' (by simp [shapeB, bareB]) fun R w' => .inr (.inr (.inl ⟨rfl, rfl⟩)))
    · exact (take_boolno q n vn v0 v1 a2 a3 a4 p2 p3 p4 deep w hq hc hn' hD1).mono (no_take (bad_shape (by simp [shapeB, bareB, v0, v1])))
  by_cases k2 : vk = 2
  · subst k2
    have : vs = [] ∧ vK = [] ∧ vL = [] := by simp [bareB] at q4; simpa [and_assoc] using q4
    obtain ⟨rfl, rfl, rfl⟩ := this
    by_cases v0 : -1000000000000 ≤ vn
    · by_cases v1 : vn ≤ 1000000000000
      · exact (take_int q n vn v0 v1 a2 a3 a4 p2 p3 p4 deep w hq hc hn' hD1).mono (took_leaf hD1 hn' (by simp [shapeB, bareB, intB, v0, v1]) fun R w' => .inr (.inr (.inr (.inl ⟨rfl, rfl⟩))))
      · exact (take_inthigh q n vn v0 v1 a2 a3 a4 p2 p3 p4 deep w hq hc hn' hD1).mono (no_take (bad_shape (by simp [shapeB, bareB, intB, v1])))
    · exact (take_intlow q n vn v0 a2 a3 a4 p2 p3 p4 deep w hq hc hn' hD1).mono (no_take (bad_shape (by simp [shapeB, bareB, intB, v0])))
  by_cases k3 : vk = 3
  · subst k3
    have : vn = 0 ∧ vK = [] ∧ vL = [] := by simp [bareB] at q4; simpa [and_assoc] using q4
    obtain ⟨rfl, rfl, rfl⟩ := this
    cases htb : textB vs with
    | true => exact (take_text q n N vs hNq a2 a3 a4 p2 p3 p4 deep w hq hc hn' hD1 HT htb).mono (took_leaf hD1 hn' (by simp [shapeB, bareB, htb]) fun R w' => .inr (.inr (.inr (.inr (.inl ⟨rfl, rfl⟩)))))
    | false => exact (take_textno q n N vs hNq a2 a3 a4 p2 p3 p4 deep w hq hc hn' hD1 HT htb).mono (no_take (bad_shape (by simp [shapeB, bareB, htb])))
  by_cases k4 : vk = 4
  · subst k4
    have : vn = 0 ∧ vs = [] ∧ vK = [] := by simp [bareB] at q4; simpa [and_assoc] using q4
    obtain ⟨rfl, rfl, rfl⟩ := this
    exact take_list d ih N q n _ vL a2 a3 p2 p3 deep w HL hNq hq hc hn' hD1
  by_cases k5 : vk = 5
  · subst k5
    have : vn = 0 ∧ vs = [] := by simp [bareB] at q4; simpa [and_assoc] using q4
    obtain ⟨rfl, rfl⟩ := this
    exact take_map d ih N q n _ _ vK vL a2 p2 deep w HK HL hNq hq hc hn' hD1
  · have : vn = 0 ∧ vs = [] ∧ vK = [] ∧ vL = [] := by simp [bareB, k1, k2, k3, k4, k5] at q4; simpa [and_assoc] using q4
    obtain ⟨rfl, rfl, rfl, rfl⟩ := this
    exact (take_none q n vk k0 k1 k2 k3 k4 k5 k6 a2 a3 a4 p2 p3 p4 deep w hq hc hn' hD1).mono (no_take (bad_shape (by simp [shapeB, bareB, k0, k1, k2, k3, k4, k5, k6])))

theorem take_any (d : Nat) : TakeAt d := by
  induction d with
  | zero => intro N q n c v deep w hv; exact hv.elim
  | succ d ih => exact take_succ d ih

/-- What partOf says. -/
def PartEnd (d : Nat) (v : Vl d) (w : World) (e : Ending) (w' : World) : Prop :=
  Below w.heap.size w w' ∧ ((∃ p, e = .returned (.tuple #[p, .bool true]) ∧ okB d v = true ∧ PSeg (fun b => w.heap.size ≤ b ∧ b < w'.heap.size) w' d p v) ∨ (e = .returned (.tuple #[.nilIface, .bool false]) ∧ okB d v = false))

set_option maxHeartbeats 1600000 in
theorem partOf_any (d N : Nat) (c0 c1 c2 c3 c4 : Value) (v : Vl d) (w : World) (hv : VSeg (fun b => b < N) w d (c0, c1, c2, c3, c4) v) (hN : N ≤ w.heap.size) :
    Calls Try.prog 45 #[.agg #[c0, c1, c2, c3, c4]] w (PartEnd d v w) := by
  have b0 : ∀ o o' : Obj, Below w.heap.size w ((w.alloc o).alloc o') := fun o o' => ((Below.refl _ _).alloc (Nat.le_refl _) o).alloc (by simp) o'
  have HC : Hid (∀ o : Obj, Calls Try.prog 78 #[.pointer (some ⟨w.heap.size + 1, 0, none⟩), .agg #[c0, c1, c2, c3, c4], .int .i64 1] ((w.alloc o).alloc (.cells #[.int .i64 0] 107)) (TakeEnd d v 1 0 (w.heap.size + 1) ((w.alloc o).alloc (.cells #[.int .i64 0] 107)))) := fun o =>
    take_any d N (w.heap.size + 1) 0 (c0, c1, c2, c3, c4) v 1 ((w.alloc o).alloc (.cells #[.int .i64 0] 107)) (VSeg.agree (agree_below ((b0 o _).mono hN)) d hv) (by omega) (by rw [size2]; omega) (two_boxes w o _).2 (by omega) (by omega)
  have Hb := hide' b0
  have hsz := fun o o' => size2 w o o'
  have Hsz := hide' hsz
  clear b0 hsz
  go_enter Try.func45, Try.ntmps45
  go_wp2_with fail
  refine (HC.out _).mono ?_
  rintro e w1 ⟨hg1, hcase⟩
  have hB1 := (Hb.out _ _).grown hg1 (by rw [Hsz.out]; omega) (by intro j hj; simp at hj; omega)
  rcases hcase with ⟨p, rfl, h1, h2, h3, h4⟩ | ⟨rfl, hno⟩
  · have hE : Hid (okB d v = true ∧ PSeg (fun b => w.heap.size ≤ b ∧ b < w1.heap.size) w1 d p v) := ⟨by simp [okB, h1]; omega, PSeg.carry (fun b hb => ⟨by have := hb.1; rw [Hsz.out] at this; omega, hb.2⟩) (fun b _ => rfl) d h4⟩
    clear h1 h2 h3 h4 hg1
    go_wp2
    go_ret2
    exact ⟨hB1, .inl ⟨_, rfl, hE.out⟩⟩
  · have hE : Hid (okB d v = false) := by
      show okB d v = false
      cases h : okB d v with
      | false => rfl
      | true => simp [okB] at h; exact absurd ⟨h.1, by omega⟩ hno
    clear hno hg1
    go_wp2
    go_ret2
    exact ⟨hB1, .inr ⟨rfl, hE.out⟩⟩

end Go.Proofs.Yteiahjknlcmloaa
/-
  mapOf of the program.
-/
namespace Go.Proofs.Yteiahjknlcmloaa
open Go.RowKit Go.Shelf
set_option linter.unusedVariables false
set_option linter.unusedSimpArgs false

theorem nomap_boolPart (x : Value) (w : World) : (Instr.typeAssert (.iface 112 x) 67 78 true).run Try.prog w = .ok (.tuple #[.agg #[.map none], .bool false]) w := by kernel_rfl
theorem nomap_intPart (x : Value) (w : World) : (Instr.typeAssert (.iface 113 x) 67 78 true).run Try.prog w = .ok (.tuple #[.agg #[.map none], .bool false]) w := by kernel_rfl
theorem nomap_textPart (x : Value) (w : World) : (Instr.typeAssert (.iface 115 x) 67 78 true).run Try.prog w = .ok (.tuple #[.agg #[.map none], .bool false]) w := by kernel_rfl
theorem nomap_listPart (x : Value) (w : World) : (Instr.typeAssert (.iface 119 x) 67 78 true).run Try.prog w = .ok (.tuple #[.agg #[.map none], .bool false]) w := by kernel_rfl
theorem nomap_nil (w : World) : (Instr.typeAssert .nilIface 67 78 true).run Try.prog w = .ok (.tuple #[.agg #[.map none], .bool false]) w := by kernel_rfl

/-- The kind of a value. -/
def kindV : (d : Nat) → Vl d → Int
  | 0, _ => 0
  | d + 1, v => v.1

/-- What mapOf leaves. -/
def MapOf (d : Nat) (v : Vl d) (w : World) (e : Ending) (w' : World) : Prop :=
  Below w.heap.size w w' ∧ ((∃ b, e = .returned (.tuple #[.agg #[.map (some b)], .bool true]) ∧ okB d v = true ∧ kindV d v = 5 ∧ PSeg (fun b => w.heap.size ≤ b ∧ b < w'.heap.size) w' d (.iface 78 (.agg #[.map (some b)])) v) ∨
    (e = .returned (.tuple #[.agg #[.map none], .bool false]) ∧ ¬ (okB d v = true ∧ kindV d v = 5)))

/-- What partOf leaves, asked for a map. -/
theorem part_map {d : Nat} {v : Vl d} {w w' : World} {e : Ending} (h : PartEnd d v w e w') : Below w.heap.size w w' ∧ ∃ p f, e = .returned (.tuple #[p, .bool f]) ∧ ∃ mo ok, (∀ wx, (Instr.typeAssert p 67 78 true).run Try.prog wx = .ok (.tuple #[.agg #[.map mo], .bool ok]) wx) ∧
    ((∃ b, mo = some b ∧ ok = true ∧ okB d v = true ∧ kindV d v = 5 ∧ PSeg (fun b => w.heap.size ≤ b ∧ b < w'.heap.size) w' d (.iface 78 (.agg #[.map (some b)])) v) ∨ (mo = none ∧ ok = false ∧ ¬ (okB d v = true ∧ kindV d v = 5))) := by
  obtain ⟨hb, ⟨p, rfl, hok, hp⟩ | ⟨rfl, hno⟩⟩ := h
  · refine ⟨hb, p, true, rfl, ?_⟩
    cases d with
    | zero => exact hp.elim
    | succ d =>
      have hp' := hp
      rcases hp with ⟨hk, rfl⟩ | ⟨hk, rfl⟩ | ⟨hk, rfl⟩ | ⟨hk, rfl⟩ | ⟨hk, rfl⟩ | ⟨hk, a, cap, rfl, hc⟩ | ⟨hk, b, ps, rfl, hR, hm, hc⟩
      · exact ⟨none, false, nomap_nullPart _, .inr ⟨rfl, rfl, fun h => by have h2 : v.1 = 5 := h.2; omega⟩⟩
      · exact ⟨none, false, nomap_unknownPart _, .inr ⟨rfl, rfl, fun h => by have h2 : v.1 = 5 := h.2; omega⟩⟩
      · exact ⟨none, false, nomap_boolPart _, .inr ⟨rfl, rfl, fun h => by have h2 : v.1 = 5 := h.2; omega⟩⟩
      · exact ⟨none, false, nomap_intPart _, .inr ⟨rfl, rfl, fun h => by have h2 : v.1 = 5 := h.2; omega⟩⟩
      · exact ⟨none, false, nomap_textPart _, .inr ⟨rfl, rfl, fun h => by have h2 : v.1 = 5 := h.2; omega⟩⟩
      · exact ⟨none, false, nomap_listPart _, .inr ⟨rfl, rfl, fun h => by have h2 : v.1 = 5 := h.2; omega⟩⟩
      · exact ⟨some b, true, is_mapPart _, .inl ⟨b, rfl, rfl, hok, hk, hp'⟩⟩
  · exact ⟨hb, .nilIface, false, rfl, none, false, nomap_nil, .inr ⟨rfl, rfl, fun h => by rw [hno] at h; simp at h⟩⟩

set_option maxHeartbeats 1600000 in
theorem mapOf_any (d N : Nat) (c0 c1 c2 c3 c4 : Value) (v : Vl d) (w : World) (hv : VSeg (fun b => b < N) w d (c0, c1, c2, c3, c4) v) (hN : N ≤ w.heap.size) :
    Calls Try.prog 52 #[.agg #[c0, c1, c2, c3, c4]] w (MapOf d v w) := by
  have HA : Hid (∀ o o' : Obj, Below w.heap.size w ((w.alloc o).alloc o') ∧ ((w.alloc o).alloc o').heap[w.heap.size + 1]? = some o') := fun o o' => ⟨((Below.refl _ _).alloc (Nat.le_refl _) o).alloc (by simp) o', by have := (MapKept.heap_alloc (w.alloc o) o').1; simpa using this⟩
  have HP : Hid (∀ o o' : Obj, Calls Try.prog 45 #[.agg #[c0, c1, c2, c3, c4]] ((w.alloc o).alloc o') (PartEnd d v ((w.alloc o).alloc o'))) := fun o o' => partOf_any d N c0 c1 c2 c3 c4 v _ (VSeg.agree (fun b (h : b < N) => (HA.out o o').1.block b (by omega)) d hv) (by simp; omega)
  clear hv
  go_enter Try.func52, Try.ntmps52
  go_wp2_with fail
  refine (HP.out _ _).mono ?_
  intro e w1 he
  obtain ⟨b1, p, f, rfl, mo, ok, hta, hres⟩ := part_map he
  have hR : w1.heap[w.heap.size + 1]? = some (.cells #[.map none] 78 (0, 0)) := (b1.block _ (by simp)).trans (HA.out _ _).2
  have hB1 := Below.on (HA.out _ _).1 b1
  have hlt : w.heap.size + 1 < w1.heap.size := (Array.getElem?_eq_some_iff.1 hR).1
  have hne : ¬ w.heap.size + 1 = w1.heap.size := by omega
  have hne' : ¬ w1.heap.size = w.heap.size + 1 := by omega
  have rc : ∀ o, (w1.alloc o).cell? ⟨w.heap.size + 1, 0, none⟩ = some (.map none) := fun o => by
    rw [cell_of_row (w1.alloc o) (w.heap.size + 1) 0 _ _ _ ((Below.heap_alloc w1 o _ hlt).trans hR)]
    rfl
  have rf : ∀ o, (w1.alloc o).frozen? ⟨w.heap.size + 1, 0, none⟩ = false := fun o => frozen_of_row _ _ _ _ _ ((Below.heap_alloc w1 o _ hlt).trans hR)
  have HR := hide' hR
  have HB1 := hide' hB1
  have HRes := hide' hres
  have Hb1 := hide' b1
  clear hR hB1 hres b1 he HP
  go_wp2_with fail
  have hrow : ((w1.setCell ⟨w.heap.size + 1, 0, none⟩ (.map mo)).alloc (.cells #[.map mo] 78)).heap[w.heap.size + 1]? = some (.cells #[.map mo] 78 (0, 0)) := (Below.heap_alloc _ _ _ (by simp [World.setCell]; omega)).trans (heap_setCell_same w1 _ 0 _ _ _ HR.out)
  have hc := cell_of_row _ _ 0 _ _ _ hrow
  have hg := grown1 w1 (w.heap.size + 1) 0 (.map mo)
  have hBf : Below w.heap.size w ((w1.setCell ⟨w.heap.size + 1, 0, none⟩ (.map mo)).alloc (.cells #[.map mo] 78)) := (HB1.out.grown hg (by omega) (by intro j hj; simp at hj; omega)).alloc (by simp [World.setCell]; omega) _
  have hsz : w1.heap.size ≤ ((w1.setCell ⟨w.heap.size + 1, 0, none⟩ (.map mo)).alloc (.cells #[.map mo] 78)).heap.size := by simp [World.setCell]
  refine bodyPost_ret (v := .tuple #[.agg #[.map mo], .bool ok]) (by simp [results, Try.results52, go_sem, hc]) rfl ?_
  refine ⟨hBf, ?_⟩
  rcases HRes.out with ⟨b, rfl, rfl, h1, h2, h3⟩ | ⟨rfl, rfl, h1⟩
  · refine .inl ⟨b, rfl, h1, h2, PSeg.carry (fun b' hb' => ?_) (fun b' hb' => ?_) d h3⟩
    · simp at hb'
      omega
    · simp at hb'
      exact (Below.heap_alloc _ _ _ (by simp [World.setCell]; omega)).trans (hg.block b' hb'.2 (by simp; omega))
  · exact .inr ⟨rfl, h1⟩
end Go.Proofs.Yteiahjknlcmloaa
/-
  What stands under a key in the datum of a map of parts whose keys ascend; no statement is proved here.
-/
namespace Go.Proofs.Yteiahjknlcmloaa
open Go.RowKit
set_option linter.unusedVariables false
set_option linter.unusedSimpArgs false

theorem same_u8s {xs ys : List Int} (hx : ∀ x ∈ xs, Byt x) (hy : ∀ y ∈ ys, Byt y) : (Lit.string (u8s xs)).sameKey (.string (u8s ys)) = decide (xs = ys) := by
  have h := strOf_eq hx hy
  rw [strOf_list, strOf_list] at h
  rw [← h]
  simp [Lit.sameKey]

/-- Where the key is none of the map's. -/
theorem look_no {vK : List (List Int)} {ps : List Value} {n : Nat} {key : List Int} (hy : ∀ y ∈ key, Byt y) (hb : ∀ i, i < n → ∀ x ∈ vK.getD i [], Byt x) (hn : ∀ i, i < n → vK.getD i [] ≠ key) (zd : DataW Value) :
    Maps.has (.map (entF vK ps n)) (.string (u8s key)) = false ∧ (DataW.map (entF vK ps n)).atKey (.string (u8s key)) zd = zd := by
  have hnone : ∀ p ∈ entF vK ps n, p.1.sameKey (.string (u8s key)) = false := by
    intro p hp
    simp only [entF, List.mem_map, List.mem_range] at hp
    obtain ⟨i, hi, rfl⟩ := hp
    rw [same_u8s (hb i hi) hy]
    simpa using hn i hi
  refine ⟨?_, ?_⟩
  · simp only [Maps.has, List.any_eq_false]
    intro p hp
    simp [hnone p hp]
  · have : (entF vK ps n).find? (fun p => p.1.sameKey (.string (u8s key))) = none := by
      rw [List.find?_eq_none]
      intro p hp
      simp [hnone p hp]
    simp [DataW.atKey, this]

/-- Where it is the k-th, and none before it. -/
theorem look_yes {vK : List (List Int)} {ps : List Value} {n k : Nat} {key : List Int} (hy : ∀ y ∈ key, Byt y) (hb : ∀ i, i < n → ∀ x ∈ vK.getD i [], Byt x) (hk : k < n) (hn : ∀ i, i < k → vK.getD i [] ≠ key) (he : vK.getD k [] = key) (zd : DataW Value) :
    Maps.has (.map (entF vK ps n)) (.string (u8s key)) = true ∧ (DataW.map (entF vK ps n)).atKey (.string (u8s key)) zd = .held (ps.getD k .nilIface) := by
  have hfind : (entF vK ps n).find? (fun p => p.1.sameKey (.string (u8s key))) = some (.string (u8s (vK.getD k [])), .held (ps.getD k .nilIface)) := by
    rw [List.find?_eq_some_iff_getElem]
    refine ⟨?_, k, by simpa [entF] using hk, by simp [entF], fun j hj => ?_⟩
    · simp only
      rw [same_u8s (hb k hk) hy]
      simpa using he
    · have hj' : j < n := by omega
      simp only [entF, List.getElem_map, List.getElem_range]
      rw [same_u8s (hb j hj') hy]
      simpa using hn j hj
  refine ⟨?_, by simp [DataW.atKey, hfind]⟩
  simp only [Maps.has, List.any_eq_true]
  exact ⟨_, List.mem_of_find?_eq_some hfind, by have := List.find?_some hfind; simpa using this⟩
end Go.Proofs.Yteiahjknlcmloaa
/-
  The look-up of a key in a map of parts, as the program runs it; no statement is proved here.
-/
namespace Go.Proofs.Yteiahjknlcmloaa
open Go.RowKit
set_option linter.unusedVariables false
set_option linter.unusedSimpArgs false

theorem zero_part (w : World) : (zeroValue 67).run Try.prog w = .ok .nilIface w := by kernel_rfl

theorem look_at {wx : World} {b n k : Nat} {ks : List (List Int)} {ps : List Value} {key : List Int} (hm : wx.ownsMap Try.prog 9 tokR b 64 (mapD ks ps n)) (ha : ∀ i, i < n → stepB ks i = true) (hb : ∀ i, i < n → ∀ x ∈ ks.getD i [], Byt x) (hy : ∀ y ∈ key, Byt y) (hl : key.length ≤ maxLen)
    (hk : k < n) (hn : ∀ i, i < k → ks.getD i [] ≠ key) (he : ks.getD k [] = key) : (Instr.lookup 76 (.map (some b)) (.string (strOf key)) true).run Try.prog wx = .ok (.tuple #[ps.getD k .nilIface, .bool true]) wx := by
  rw [mapD_list ks ps n ha] at hm
  obtain ⟨v, q, hrun, hv⟩ := hm.look_ok (Maps.string_keyed Try.underlying9) Try.underlying76 (zero_part wx) (zd := .held .nilIface) (zp := []) rfl (keyS key hl)
  obtain ⟨h1, h2⟩ := look_yes (ps := ps) hy hb hk hn he (.held .nilIface)
  rw [h1] at hrun
  rw [h2] at hv
  simp only [tokR, Option.some.injEq, Prod.mk.injEq, DataW.held.injEq] at hv
  rw [← hv.1]
  exact hrun

theorem look_none {wx : World} {b n : Nat} {ks : List (List Int)} {ps : List Value} {key : List Int} (hm : wx.ownsMap Try.prog 9 tokR b 64 (mapD ks ps n)) (ha : ∀ i, i < n → stepB ks i = true) (hb : ∀ i, i < n → ∀ x ∈ ks.getD i [], Byt x) (hy : ∀ y ∈ key, Byt y) (hl : key.length ≤ maxLen)
    (hn : ∀ i, i < n → ks.getD i [] ≠ key) : (Instr.lookup 76 (.map (some b)) (.string (strOf key)) true).run Try.prog wx = .ok (.tuple #[.nilIface, .bool false]) wx := by
  rw [mapD_list ks ps n ha] at hm
  obtain ⟨v, q, hrun, hv⟩ := hm.look_ok (Maps.string_keyed Try.underlying9) Try.underlying76 (zero_part wx) (zd := .held .nilIface) (zp := []) rfl (keyS key hl)
  obtain ⟨h1, h2⟩ := look_no (ps := ps) hy hb hn (.held .nilIface)
  rw [h1] at hrun
  rw [h2] at hv
  simp only [tokR, Option.some.injEq, Prod.mk.injEq, DataW.held.injEq] at hv
  rw [hv.1] at hrun
  exact hrun
end Go.Proofs.Yteiahjknlcmloaa
/-
  ValGet of the program.
-/
namespace Go.Proofs.Yteiahjknlcmloaa
open Go.RowKit Go.Shelf
set_option linter.unusedVariables false
set_option linter.unusedSimpArgs false

/-- What ValGet leaves. -/
def GetEnd (d : Nat) (v : Vl (d + 1)) (key : List Int) (w : World) (e : Ending) (w' : World) : Prop :=
  Below w.heap.size w w' ∧ ((∃ (k : Nat) (hk : k < v.2.2.2.2.length), okB (d + 1) v = true ∧ v.1 = 5 ∧ findK v.2.2.2.1 key = k ∧ ∃ u0 u1 u2 u3 u4, e = .returned (.tuple #[.agg #[u0, u1, u2, u3, u4], .bool true]) ∧ ∃ B, VOwn w' d (u0, u1, u2, u3, u4) v.2.2.2.2[k] B ∧ ∀ b ∈ B, w.heap.size ≤ b ∧ b < w'.heap.size) ∨
    (¬ (okB (d + 1) v = true ∧ v.1 = 5 ∧ 0 ≤ findK v.2.2.2.1 key) ∧ e = .returned (.tuple #[.agg #[.int .i64 0, .int .i64 0, .slice none 0 0, .slice none 0 0, .slice none 0 0], .bool false])))

/-- What a map's part holds. -/
theorem mapPart_inv {R : Nat → Prop} {w : World} {d b : Nat} {v : Vl (d + 1)} (h : PSeg R w (d + 1) (.iface 78 (.agg #[.map (some b)])) v) (hk : v.1 = 5) :
    R b ∧ ∃ ps, w.ownsMap Try.prog 9 tokR b 64 (mapD v.2.2.2.1 ps v.2.2.2.2.length) ∧ ∀ i (h : i < v.2.2.2.2.length), PSeg R w d (ps.getD i .nilIface) (v.2.2.2.2[i]) := by
  rcases h with ⟨h, _⟩ | ⟨h, _⟩ | ⟨h, _⟩ | ⟨h, _⟩ | ⟨h, _⟩ | ⟨h, _⟩ | ⟨_, b', ps, e, hR, hm, hc⟩
  · omega
  · omega
  · omega
  · omega
  · omega
  · omega
  · simp at e
    subst e
    exact ⟨hR, ps, hm, hc⟩

/-- Found, or not. -/
theorem find_cases (ks : List (List Int)) (key : List Int) : (∃ k, k < ks.length ∧ ks.getD k [] = key ∧ (∀ i, i < k → ks.getD i [] ≠ key) ∧ findK ks key = k) ∨ ((∀ i, i < ks.length → ks.getD i [] ≠ key) ∧ findK ks key = -1) := by
  by_cases h : ∀ i, i < ks.length → ks.getD i [] ≠ key
  · exact .inr ⟨h, findK_no h⟩
  · have hex : ∃ i, i < ks.length ∧ ks.getD i [] = key := by
      simpa using h
    have hmin : ∀ n, (∃ i, i < n ∧ i < ks.length ∧ ks.getD i [] = key) → ∃ k, k < ks.length ∧ ks.getD k [] = key ∧ ∀ i, i < k → ks.getD i [] ≠ key := by
      intro n
      induction n with
      | zero => rintro ⟨i, h0, _⟩; omega
      | succ n ih =>
        rintro ⟨i, hi, hl, he⟩
        by_cases hlow : ∃ j, j < n ∧ j < ks.length ∧ ks.getD j [] = key
        · exact ih hlow
        · refine ⟨i, hl, he, fun j hj hje => hlow ⟨j, by omega, by omega, hje⟩⟩
    obtain ⟨i, hi, he⟩ := hex
    obtain ⟨k, h1, h2, h3⟩ := hmin (i + 1) ⟨i, by omega, hi, he⟩
    exact .inl ⟨k, h1, h2, h3, findK_at h1 h3 h2⟩
end Go.Proofs.Yteiahjknlcmloaa
/-
  partAt and partAlong of the program: the part at a step, at a path; no statement is proved here.
-/
namespace Go.Proofs.Yteiahjknlcmloaa
open Go.RowKit Go.Shelf
set_option linter.unusedVariables false
set_option linter.unusedSimpArgs false

theorem nolist_boolPart (x : Value) (w : World) : (Instr.typeAssert (.iface 112 x) 67 119 true).run Try.prog w = .ok (.tuple #[.agg #[.slice none 0 0], .bool false]) w := by kernel_rfl
theorem nolist_intPart (x : Value) (w : World) : (Instr.typeAssert (.iface 113 x) 67 119 true).run Try.prog w = .ok (.tuple #[.agg #[.slice none 0 0], .bool false]) w := by kernel_rfl
theorem nolist_textPart (x : Value) (w : World) : (Instr.typeAssert (.iface 115 x) 67 119 true).run Try.prog w = .ok (.tuple #[.agg #[.slice none 0 0], .bool false]) w := by kernel_rfl
theorem nolist_nil (w : World) : (Instr.typeAssert .nilIface 67 119 true).run Try.prog w = .ok (.tuple #[.agg #[.slice none 0 0], .bool false]) w := by kernel_rfl

/-- The part for a place: nil where there is none. -/
def PNod (R : Nat → Prop) (w : World) (p : Value) : Option Nod → Prop
  | none => p = .nilIface
  | some n => PSeg R w n.1 p n.2 ∧ ∃ dp, goodB n.1 n.2 dp = true ∧ partsV n.1 n.2 ≤ 40

theorem PNod.carry {R R' : Nat → Prop} {w w' : World} {p : Value} {o : Option Nod} (h : PNod R w p o) (hr : ∀ b, R b → R' b) (ha : Agree R w w') : PNod R' w' p o := by
  cases o with
  | none => exact h
  | some n => exact ⟨PSeg.carry hr ha n.1 h.1, h.2⟩

theorem PNod.form {R : Nat → Prop} {w : World} {p : Value} {o : Option Nod} (h : PNod R w p o) : (o = none ∧ p = .nilIface) ∨ ∃ n t x, o = some n ∧ p = .iface t x := by
  cases o with
  | none => exact .inl ⟨rfl, h⟩
  | some n =>
    obtain ⟨t, x, e⟩ := h.1.shape
    exact .inr ⟨n, t, x, rfl, e⟩

theorem look1_at {wx : World} {b n k : Nat} {ks : List (List Int)} {ps : List Value} {key : List Int} (hm : wx.ownsMap Try.prog 9 tokR b 64 (mapD ks ps n)) (ha : ∀ i, i < n → stepB ks i = true) (hb : ∀ i, i < n → ∀ x ∈ ks.getD i [], Byt x) (hy : ∀ y ∈ key, Byt y) (hl : key.length ≤ maxLen)
    (hk : k < n) (hn : ∀ i, i < k → ks.getD i [] ≠ key) (he : ks.getD k [] = key) : (Instr.lookup 76 (.map (some b)) (.string (strOf key)) false).run Try.prog wx = .ok (ps.getD k .nilIface) wx := by
  rw [mapD_list ks ps n ha] at hm
  obtain ⟨v, q, hrun, hv⟩ := hm.lookup (Maps.string_keyed Try.underlying9) Try.underlying76 (zero_part wx) (zd := .held .nilIface) (zp := []) rfl (keyS key hl)
  obtain ⟨h1, h2⟩ := look_yes (ps := ps) hy hb hk hn he (.held .nilIface)
  rw [h2] at hv
  simp only [tokR, Option.some.injEq, Prod.mk.injEq, DataW.held.injEq] at hv
  rw [← hv.1]
  exact hrun

theorem look1_none {wx : World} {b n : Nat} {ks : List (List Int)} {ps : List Value} {key : List Int} (hm : wx.ownsMap Try.prog 9 tokR b 64 (mapD ks ps n)) (ha : ∀ i, i < n → stepB ks i = true) (hb : ∀ i, i < n → ∀ x ∈ ks.getD i [], Byt x) (hy : ∀ y ∈ key, Byt y) (hl : key.length ≤ maxLen)
    (hn : ∀ i, i < n → ks.getD i [] ≠ key) : (Instr.lookup 76 (.map (some b)) (.string (strOf key)) false).run Try.prog wx = .ok .nilIface wx := by
  rw [mapD_list ks ps n ha] at hm
  obtain ⟨v, q, hrun, hv⟩ := hm.lookup (Maps.string_keyed Try.underlying9) Try.underlying76 (zero_part wx) (zd := .held .nilIface) (zp := []) rfl (keyS key hl)
  obtain ⟨h1, h2⟩ := look_no (ps := ps) hy hb hn (.held .nilIface)
  rw [h2] at hv
  simp only [tokR, Option.some.injEq, Prod.mk.injEq, DataW.held.injEq] at hv
  rw [hv.1] at hrun
  exact hrun

/-- What partAt leaves. -/
def PAtEnd (N : Nat) (o : Option Nod) (s : Stp) (w : World) (e : Ending) (w' : World) : Prop := ∃ q, e = .returned q ∧ PNod (fun b => b < N) w' q (o.bind fun n => stepN n s) ∧ Below w.heap.size w w'

set_option maxHeartbeats 1600000 in
/-- .. at what is neither a list nor a map. -/
theorem partAt_none (p : Value) (sk : Int) (a1 : Option Addr) (n1 p1 : Nat) (si : Int) (w : World) (hnl : ∀ w, (Instr.typeAssert p 67 119 true).run Try.prog w = .ok (.tuple #[.agg #[.slice none 0 0], .bool false]) w) (hnm : ∀ w, (Instr.typeAssert p 67 78 true).run Try.prog w = .ok (.tuple #[.agg #[.map none], .bool false]) w)
    (hpf : p = .nilIface ∨ ∃ t x, p = .iface t x) : Calls Try.prog 94 #[p, .agg #[.int .i64 sk, .slice a1 n1 p1, .int .i64 si]] w fun e w' => e = .returned .nilIface ∧ Below w.heap.size w w' := by
  have HA : Hid (∀ o : Obj, Below w.heap.size w (w.alloc o)) := fun o => (Below.refl _ _).alloc (Nat.le_refl _) o
  rcases hpf with rfl | ⟨t, x, rfl⟩
  · go_enter Try.func94, Try.ntmps94
    go_wp2
    go_ret
    exact ⟨rfl, HA.out _⟩
  · go_enter Try.func94, Try.ntmps94
    go_wp2
    go_ret
    exact ⟨rfl, HA.out _⟩

set_option maxHeartbeats 1600000 in
/-- .. at a list, a place that it has. -/
theorem partAt_item (a : Option Addr) (n c : Nat) (b off : Nat) (ha : a = some ⟨b, off, none⟩) (k : Nat) (hk : k < n) (t : TypeId) (x : Value) (a1 : Option Addr) (n1 p1 : Nat) (w : World) (hb : b < w.heap.size) (hc : w.cell? ⟨b, off + k, none⟩ = some (.iface t x)) :
    Calls Try.prog 94 #[.iface 119 (.agg #[.slice a n c]), .agg #[.int .i64 1, .slice a1 n1 p1, .int .i64 k]] w fun e w' => e = .returned (.iface t x) ∧ Below w.heap.size w w' := by
  subst ha
  have h1 := is_listPart (.agg #[.slice (some ⟨b, off, none⟩) n c])
  have HA : Hid (∀ o o' : Obj, Below w.heap.size w ((w.alloc o).alloc o')) := fun o o' => ((Below.refl _ _).alloc (Nat.le_refl _) o).alloc (by simp) o'
  have hc2 : ∀ o o' : Obj, ((w.alloc o).alloc o').cell? ⟨b, off + k, none⟩ = some (.iface t x) := fun o o' => (World.cell?_of_block ((HA.out o o').block b hb)).trans hc
  have hk' : (k : Int) < (n : Int) := by omega
  have hk0 : (0 : Int) ≤ (k : Int) := Int.natCast_nonneg _
  clear hc
  go_enter Try.func94, Try.ntmps94
  go_wp2
  go_ret
  exact ⟨rfl, HA.out _ _⟩

set_option maxHeartbeats 1600000 in
/-- .. at a list, all else. -/
theorem partAt_list (a : Option Addr) (n c : Nat) (sk : Int) (a1 : Option Addr) (n1 p1 : Nat) (si : Int) (w : World) (h : sk = 1 → ¬ si < (n : Int)) :
    Calls Try.prog 94 #[.iface 119 (.agg #[.slice a n c]), .agg #[.int .i64 sk, .slice a1 n1 p1, .int .i64 si]] w fun e w' => e = .returned .nilIface ∧ Below w.heap.size w w' := by
  have h1 := is_listPart (.agg #[.slice a n c])
  have HA : Hid (∀ o o' : Obj, Below w.heap.size w ((w.alloc o).alloc o')) := fun o o' => ((Below.refl _ _).alloc (Nat.le_refl _) o).alloc (by simp) o'
  by_cases hk : sk = 1
  · subst hk
    have h' := h rfl
    clear h
    go_enter Try.func94, Try.ntmps94
    go_wp2
    go_ret
    exact ⟨rfl, HA.out _ _⟩
  · clear h
    go_enter Try.func94, Try.ntmps94
    go_wp2
    go_ret
    exact ⟨rfl, HA.out _ _⟩

set_option maxHeartbeats 1600000 in
/-- .. at a map, a key. -/
theorem partAt_key (b : Nat) (a1 : Option Addr) (p1 : Nat) (key : List Int) (si : Int) (q : Value) (w : World) (hS : Seg w a1 key) (hSb : ∀ x, a1 = some x → key ≠ [] → x.block < w.heap.size) (hq : ∀ o o' : Obj, (Instr.lookup 76 (.map (some b)) (.string (strOf key)) false).run Try.prog ((w.alloc o).alloc o') = .ok q ((w.alloc o).alloc o')) (hqf : q = .nilIface ∨ ∃ t x, q = .iface t x) :
    Calls Try.prog 94 #[.iface 78 (.agg #[.map (some b)]), .agg #[.int .i64 0, .slice a1 key.length p1, .int .i64 si]] w fun e w' => e = .returned q ∧ Below w.heap.size w w' := by
  have h1 := nolist_mapPart (.agg #[.map (some b)])
  have h2 := is_mapPart (.agg #[.map (some b)])
  have HA : Hid (∀ o o' : Obj, Below w.heap.size w ((w.alloc o).alloc o')) := fun o o' => ((Below.refl _ _).alloc (Nat.le_refl _) o).alloc (by simp) o'
  have hcv : ∀ o o' : Obj, (convert 22 9 (.slice a1 key.length p1)).run Try.prog ((w.alloc o).alloc o') = .ok (.string (strOf key)) ((w.alloc o).alloc o') := fun o o' => conv_seg p1 (hS.below (HA.out o o') hSb)
  clear hS hSb
  generalize strOf key = sx at *
  generalize key.length = kn at *
  rcases hqf with rfl | ⟨t, x, rfl⟩
  · go_enter Try.func94, Try.ntmps94
    go_wp2
    go_ret
    exact ⟨rfl, HA.out _ _⟩
  · go_enter Try.func94, Try.ntmps94
    go_wp2
    go_ret
    exact ⟨rfl, HA.out _ _⟩

set_option maxHeartbeats 1600000 in
/-- .. at a map, all else. -/
theorem partAt_map (b : Nat) (sk : Int) (a1 : Option Addr) (n1 p1 : Nat) (si : Int) (w : World) (h : sk ≠ 0) :
    Calls Try.prog 94 #[.iface 78 (.agg #[.map (some b)]), .agg #[.int .i64 sk, .slice a1 n1 p1, .int .i64 si]] w fun e w' => e = .returned .nilIface ∧ Below w.heap.size w w' := by
  have h1 := nolist_mapPart (.agg #[.map (some b)])
  have h2 := is_mapPart (.agg #[.map (some b)])
  have HA : Hid (∀ o o' : Obj, Below w.heap.size w ((w.alloc o).alloc o')) := fun o o' => ((Below.refl _ _).alloc (Nat.le_refl _) o).alloc (by simp) o'
  go_enter Try.func94, Try.ntmps94
  go_wp2
  go_ret
  exact ⟨rfl, HA.out _ _⟩

theorem partAt_any (N : Nat) (p : Value) (o : Option Nod) (c0 c1 c2 : Value) (s : Stp) (w : World) (hp : PNod (fun b => b < N) w p o) (hs : StSeg (fun b => b < N) w (c0, c1, c2) s) (hN : N ≤ w.heap.size) (hok : stpB s = true) (hkl : s.2.1.length ≤ maxLen) :
    Calls Try.prog 94 #[p, .agg #[c0, c1, c2]] w (PAtEnd N o s w) := by
  obtain ⟨sk, ss, si⟩ := s
  obtain ⟨e0, ht, e2⟩ := hs
  simp only at e0 ht e2 hkl
  subst e0
  subst e2
  obtain ⟨a1, p1, rfl, hS, _, _, _, hSb⟩ := ht
  have hSb' : ∀ x, a1 = some x → ss ≠ [] → x.block < w.heap.size := fun x hx he => by have := hSb x hx he; omega
  have none_of : ∀ q : Value, q = p → (o.bind fun n => stepN n (sk, ss, si)) = none → (Calls Try.prog 94 #[p, .agg #[.int .i64 sk, .slice a1 ss.length p1, .int .i64 si]] w fun e w' => e = .returned .nilIface ∧ Below w.heap.size w w') → Calls Try.prog 94 #[p, .agg #[.int .i64 sk, .slice a1 ss.length p1, .int .i64 si]] w (PAtEnd N o (sk, ss, si) w) := by
    intro q _ h1 h2
    refine h2.mono ?_
    rintro e w' ⟨rfl, hb⟩
    exact ⟨_, rfl, by rw [h1]; rfl, hb⟩
  cases o with
  | none =>
    have hp' : p = .nilIface := hp
    subst hp'
    exact none_of _ rfl rfl (partAt_none _ sk a1 _ p1 si w nolist_nil nomap_nil (.inl rfl))
  | some n =>
    obtain ⟨d, v⟩ := n
    obtain ⟨hps, dp, hg, hn⟩ := hp
    simp only at hps hg hn
    cases d with
    | zero => exact hps.elim
    | succ d =>
      obtain ⟨vk, vn, vs, vK, vL⟩ := v
      have hps0 := hps
      have hgs := (good_succ _ _ _ _ _ _ _).1 hg
      have hkid := parts_kid hn
      have kid_no : ∀ h : ¬ (sk = 0 ∧ vk = 5) ∧ ¬ (sk = 1 ∧ vk = 4 ∧ si < vL.length), ((some (⟨d + 1, (vk, vn, vs, vK, vL)⟩ : Nod)).bind fun n => stepN n (sk, ss, si)) = none := by
        intro h
        refine stepN_none ?_
        show (if sk = 0 ∧ vk = 5 then findK vK ss else if sk = 1 ∧ vk = 4 ∧ si < vL.length then si else -1) < 0
        rw [if_neg h.1, if_neg h.2]
        omega
      rcases hps with ⟨hk, rfl⟩ | ⟨hk, rfl⟩ | ⟨hk, rfl⟩ | ⟨hk, rfl⟩ | ⟨hk, rfl⟩ | ⟨hk, a, cap, rfl, hc⟩ | ⟨hk, b, ps, rfl, hR, hm, hc⟩ <;> simp only at hk
      · exact none_of _ rfl (kid_no ⟨by omega, by omega⟩) (partAt_none _ sk a1 _ p1 si w (nolist_nullPart _) (nomap_nullPart _) (.inr ⟨_, _, rfl⟩))
      · exact none_of _ rfl (kid_no ⟨by omega, by omega⟩) (partAt_none _ sk a1 _ p1 si w (nolist_unknownPart _) (nomap_unknownPart _) (.inr ⟨_, _, rfl⟩))
      · exact none_of _ rfl (kid_no ⟨by omega, by omega⟩) (partAt_none _ sk a1 _ p1 si w (nolist_boolPart _) (nomap_boolPart _) (.inr ⟨_, _, rfl⟩))
      · exact none_of _ rfl (kid_no ⟨by omega, by omega⟩) (partAt_none _ sk a1 _ p1 si w (nolist_intPart _) (nomap_intPart _) (.inr ⟨_, _, rfl⟩))
      · exact none_of _ rfl (kid_no ⟨by omega, by omega⟩) (partAt_none _ sk a1 _ p1 si w (nolist_textPart _) (nomap_textPart _) (.inr ⟨_, _, rfl⟩))
      · simp only at hc ⊢
        subst hk
        by_cases hi : sk = 1 ∧ si < (vL.length : Int)
        · obtain ⟨rfl, hi⟩ := hi
          rw [stpB_item] at hok
          simp only [Bool.and_eq_true, decide_eq_true_eq] at hok
          obtain ⟨k, rfl⟩ : ∃ k : Nat, si = k := ⟨si.toNat, by omega⟩
          have hkl' : k < vL.length := by omega
          rcases hc with h0 | ⟨b, off, rfl, hRb, hc⟩
          · rw [h0] at hkl'; simp at hkl'
          · obtain ⟨u, hu, hv⟩ := hc k hkl'
            obtain ⟨t, x, rfl⟩ := hv.shape
            refine (partAt_item _ vL.length cap b off rfl k hkl' t x a1 _ p1 w (by omega) hu).mono ?_
            rintro e w' ⟨rfl, hb⟩
            have hst : stepN ⟨d + 1, ((4 : Int), vn, vs, vK, vL)⟩ (1, ss, (k : Int)) = some ⟨d, vL[k]⟩ := stepN_some (d := d) (v := ((4 : Int), vn, vs, vK, vL)) hkl' (by
              show (if (1 : Int) = 0 ∧ (4 : Int) = 5 then findK vK ss else if (1 : Int) = 1 ∧ (4 : Int) = 4 ∧ (k : Int) < vL.length then (k : Int) else -1) = (k : Int)
              rw [if_neg (by omega), if_pos ⟨rfl, rfl, hi⟩])
            refine ⟨_, rfl, ?_, hb⟩
            show PNod _ w' _ (stepN ⟨d + 1, ((4 : Int), vn, vs, vK, vL)⟩ (1, ss, (k : Int)))
            rw [hst]
            exact ⟨PSeg.carry (fun b h => h) (fun b (h : b < N) => hb.block b (by omega)) d hv, dp + 1, hgs.2.2 k hkl', hkid k hkl'⟩
        · refine none_of _ rfl (kid_no ⟨by omega, fun h => hi ⟨h.1, h.2.2⟩⟩) (partAt_list a _ cap sk a1 _ p1 si w (fun h1 h2 => hi ⟨h1, h2⟩))
      · simp only at hc hm
        subst hk
        obtain ⟨hKL, hasc⟩ := shape_mapB hgs.2.1
        have hst : ∀ i, i < vL.length → stepB vK i = true := fun i hi => ascB_at hasc (by omega)
        by_cases hs0 : sk = 0
        · subst hs0
          have HA : ∀ o o' : Obj, Below w.heap.size w ((w.alloc o).alloc o') := fun o o' => ((Below.refl _ _).alloc (Nat.le_refl _) o).alloc (by simp) o'
          have hkI : kidI d ((5 : Int), vn, vs, vK, vL) (0, ss, si) = findK vK ss := if_pos ⟨rfl, rfl⟩
          obtain ⟨k, hkK, hke, hkn, hfk⟩ | ⟨hnone, hfk⟩ := find_cases vK ss
          · have hkL : k < vL.length := by omega
            obtain ⟨t, x, hpx⟩ := (hc k hkL).shape
            refine (partAt_key b a1 p1 ss si (.iface t x) w hS hSb' (fun o o' => by rw [← hpx]; exact look1_at ((hm.alloc o).alloc o') hst (fun i hi => (step_name (hst i hi)).1) hS.1 hkl hkL hkn hke) (.inr ⟨_, _, rfl⟩)).mono ?_
            rintro e w' ⟨rfl, hb⟩
            refine ⟨_, rfl, ?_, hb⟩
            show PNod _ w' _ (stepN ⟨d + 1, ((5 : Int), vn, vs, vK, vL)⟩ (0, ss, si))
            rw [stepN_some (d := d) (v := ((5 : Int), vn, vs, vK, vL)) hkL (by rw [hkI]; exact hfk)]
            have hv := hc k hkL
            rw [hpx] at hv
            exact ⟨PSeg.carry (fun b h => h) (fun b (h : b < N) => hb.block b (by omega)) d hv, dp + 1, hgs.2.2 k hkL, hkid k hkL⟩
          · refine (partAt_key b a1 p1 ss si .nilIface w hS hSb' (fun o o' => look1_none ((hm.alloc o).alloc o') hst (fun i hi => (step_name (hst i hi)).1) hS.1 hkl (fun i hi => hnone i (by omega))) (.inl rfl)).mono ?_
            rintro e w' ⟨rfl, hb⟩
            refine ⟨_, rfl, ?_, hb⟩
            show PNod _ w' _ (stepN ⟨d + 1, ((5 : Int), vn, vs, vK, vL)⟩ (0, ss, si))
            rw [stepN_none (d := d) (v := ((5 : Int), vn, vs, vK, vL)) (s := (0, ss, si)) (by rw [hkI, hfk]; omega)]
            rfl
        · exact none_of _ rfl (kid_no ⟨fun h => hs0 h.1, by omega⟩) (partAt_map b sk a1 _ p1 si w hs0)

theorem all_stp {l : List Stp} (h : pathB l = true) {k : Nat} (hk : k < l.length) : stpB l[k] = true := by
  simp only [pathB, Bool.and_eq_true, List.all_eq_true] at h
  exact h.2 _ (List.getElem_mem hk)
theorem stp_len {s : Stp} (h : stpB s = true) : s.2.1.length ≤ 8 := by
  obtain ⟨k, ss, i⟩ := s
  simp only [stpB, Bool.or_eq_true, Bool.and_eq_true, decide_eq_true_eq] at h
  rcases h with ⟨_, h, _⟩ | ⟨_, ⟨h, _⟩, _⟩
  · simp only [nameB, Bool.and_eq_true, decide_eq_true_eq] at h
    show ss.length ≤ 8
    omega
  · show ss.length ≤ 8
    omega

set_option maxHeartbeats 1600000 in
theorem partAlong_any (N : Nat) (p : Value) (o : Option Nod) (x : Value) (l : List Stp) (w : World) (hp : PNod (fun b => b < N) w p o) (hx : PthSeg (fun b => b < N) w x l) (hN : N ≤ w.heap.size) (hok : pathB l = true) :
    Calls Try.prog 74 #[p, x] w fun e w' => ∃ q, e = .returned q ∧ PNod (fun b => b < N) w' q (alongN o l) ∧ Below w.heap.size w w' := by
  have HC := hide' hx
  have HP := hide' hp
  have HO := hide' hok
  obtain ⟨a, cap, rfl, hlc, hcm, ka, hc⟩ := hx
  unfold maxLen at hcm
  have hpf : p = .nilIface ∨ ∃ t x, p = .iface t x := by
    rcases hp.form with ⟨_, h⟩ | ⟨_, t, x, _, h⟩
    · exact .inl h
    · exact .inr ⟨t, x, h⟩
  clear hc hp hok
  have go : ∀ q : Value, q = p → (q = .nilIface ∨ ∃ t x, q = .iface t x) → Calls Try.prog 74 #[q, .slice a l.length cap] w fun e w' => ∃ q, e = .returned q ∧ PNod (fun b => b < N) w' q (alongN o l) ∧ Below w.heap.size w w' := by
    intro q hq hqf
    have HQ : Hid (PNod (fun b => b < N) w q (alongN o (l.take 0))) := by subst hq; exact HP.out
    clear HP hq
    go_enter Try.func74, Try.ntmps74
    go_wp2
    go_loopw [0, 9] (fun r i wr => ∃ k : Nat, k ≤ l.length ∧ i = .int .i64 k ∧ Hid (PNod (fun b => b < N) wr r (alongN o (l.take k))) ∧ Below w.heap.size w wr) (fun _ i _ => l.length - (intOf i).toNat)
    case atStart => exact ⟨0, Nat.zero_le _, rfl, HQ, Below.refl _ _⟩
    case round =>
      obtain ⟨k, hk, rfl, hP, hbel⟩ := hrel
      have hsz := hbel.size
      by_cases hlt : k < l.length
      · have hlt' : (k : Int) < (l.length : Int) := by omega
        obtain ⟨b, off, c0, c1, c2, rfl, _, h3, hv⟩ := (HC.out.agree (agree_below (hbel.mono hN))).at hlt
        obtain ⟨q0, q1, q2⟩ := h3
        simp only at q0 q1 q2
        have HS : Hid (∀ o' : Obj, Calls Try.prog 94 #[u0, .agg #[c0, c1, c2]] (wr.alloc o') fun e w' => ∃ q, e = .returned q ∧ Hid (PNod (fun b => b < N) w' q (alongN o (l.take (k + 1)))) ∧ Below w.heap.size w w') := by
          intro o'
          have b0 : Below wr.heap.size wr (wr.alloc o') := (Below.refl _ _).alloc (Nat.le_refl _) o'
          refine (partAt_any N u0 _ c0 c1 c2 l[k] (wr.alloc o') (hP.out.carry (fun b h => h) (fun b (h : b < N) => b0.block b (by omega))) (hv.agree (agree_below (b0.mono (by omega)))) (by have := b0.size; omega) (all_stp HO.out hlt) (by have := stp_len (all_stp HO.out hlt); unfold maxLen; omega)).mono ?_
          rintro e w' ⟨q, rfl, h1, h2⟩
          exact ⟨q, rfl, by rw [alongN_take o l k hlt]; exact h1, Below.on (Below.on hbel b0) h2⟩
        have huf : u0 = .nilIface ∨ ∃ t x, u0 = .iface t x := by
          rcases hP.out.form with ⟨_, h⟩ | ⟨_, t, x, _, h⟩
          · exact .inl h
          · exact .inr ⟨t, x, h⟩
        obtain ⟨g0, gt, g2⟩ := hv
        obtain ⟨a2, cp2, g1, _⟩ := gt
        simp only at g0 g1 g2
        subst g0
        subst g1
        subst g2
        generalize (l[k]).1 = vk at *
        generalize (l[k]).2.1.length = vn at *
        generalize (l[k]).2.2 = vi at *
        clear hP
        rcases huf with rfl | ⟨t, x, rfl⟩
        all_goals
          go_wp2_with fail
          refine (HS.out _).mono ?_
          rintro e w1 ⟨q, rfl, hP1, B1⟩
          clear HS q0 q1 q2
          go_wp2
          go_roundw
          case rel => exact ⟨k + 1, by omega, by go_num, hP1, B1⟩
          case measure => simp [intOf]; omega
      · have hkn : k = l.length := by omega
        have hkn' : ¬ (k : Int) < (l.length : Int) := by omega
        have HF : Hid (PNod (fun b => b < N) wr u0 (alongN o l)) := by
          have := hP.out
          rw [hkn, List.take_length] at this
          exact this
        clear hkn hP
        go_wp2
        go_ret
        exact ⟨_, rfl, HF.out, hbel⟩
  exact go p rfl hpf
end Go.Proofs.Yteiahjknlcmloaa
