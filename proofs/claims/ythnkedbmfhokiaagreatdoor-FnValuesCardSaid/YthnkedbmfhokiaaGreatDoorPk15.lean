/-
  Texts that a law leans on, one behind the other; no statement is proved here.
-/
import Derived.Test.YthnkedbmfhokiaaGreatDoorPk13
import Derived.Test.YthnkedbmfhokiaaGreatDoorPk14
import Derived.Maps.OwnSet
import Derived.Test.YthnkedbmfhokiaaGreatDoorPk2
import Derived.Test.YthnkedbmfhokiaaGreatDoorPk5
import Derived.Test.YthnkedbmfhokiaaGreatDoorPk6
/-
  What stands under a key in the datum of a map of parts whose keys ascend; no statement is proved here.
-/
namespace Go.Proofs.YthnkedbmfhokiaaGreatDoor
open Go.RowKit
set_option linter.unusedVariables false
set_option linter.unusedSimpArgs false

end Go.Proofs.YthnkedbmfhokiaaGreatDoor
/-
  Which type a part is: the type assertions of a part, at each type.
-/
namespace Go.Proofs.YthnkedbmfhokiaaGreatDoor
open Go.RowKit
set_option linter.unusedVariables false
set_option linter.unusedSimpArgs false

theorem nobool_nullPart (x : Value) (w : World) : (Instr.typeAssert (.iface 84 x) 43 67 true).run Tryz.prog w = .ok (.tuple #[.agg #[.int .i64 0], .bool false]) w := by kernel_rfl
theorem nobool_unknownPart (x : Value) (w : World) : (Instr.typeAssert (.iface 88 x) 43 67 true).run Tryz.prog w = .ok (.tuple #[.agg #[.int .i64 0], .bool false]) w := by kernel_rfl
theorem nobool_intPart (x : Value) (w : World) : (Instr.typeAssert (.iface 68 x) 43 67 true).run Tryz.prog w = .ok (.tuple #[.agg #[.int .i64 0], .bool false]) w := by kernel_rfl
theorem nobool_textPart (x : Value) (w : World) : (Instr.typeAssert (.iface 70 x) 43 67 true).run Tryz.prog w = .ok (.tuple #[.agg #[.int .i64 0], .bool false]) w := by kernel_rfl
theorem nobool_listPart (x : Value) (w : World) : (Instr.typeAssert (.iface 74 x) 43 67 true).run Tryz.prog w = .ok (.tuple #[.agg #[.int .i64 0], .bool false]) w := by kernel_rfl
theorem nobool_mapPart (x : Value) (w : World) : (Instr.typeAssert (.iface 77 x) 43 67 true).run Tryz.prog w = .ok (.tuple #[.agg #[.int .i64 0], .bool false]) w := by kernel_rfl
theorem noint_nullPart (x : Value) (w : World) : (Instr.typeAssert (.iface 84 x) 43 68 true).run Tryz.prog w = .ok (.tuple #[.agg #[.int .i64 0], .bool false]) w := by kernel_rfl
theorem noint_unknownPart (x : Value) (w : World) : (Instr.typeAssert (.iface 88 x) 43 68 true).run Tryz.prog w = .ok (.tuple #[.agg #[.int .i64 0], .bool false]) w := by kernel_rfl
theorem noint_textPart (x : Value) (w : World) : (Instr.typeAssert (.iface 70 x) 43 68 true).run Tryz.prog w = .ok (.tuple #[.agg #[.int .i64 0], .bool false]) w := by kernel_rfl
theorem noint_listPart (x : Value) (w : World) : (Instr.typeAssert (.iface 74 x) 43 68 true).run Tryz.prog w = .ok (.tuple #[.agg #[.int .i64 0], .bool false]) w := by kernel_rfl
theorem noint_mapPart (x : Value) (w : World) : (Instr.typeAssert (.iface 77 x) 43 68 true).run Tryz.prog w = .ok (.tuple #[.agg #[.int .i64 0], .bool false]) w := by kernel_rfl
theorem notext_nullPart (x : Value) (w : World) : (Instr.typeAssert (.iface 84 x) 43 70 true).run Tryz.prog w = .ok (.tuple #[.agg #[.string ⟨#[]⟩], .bool false]) w := by kernel_rfl
theorem notext_unknownPart (x : Value) (w : World) : (Instr.typeAssert (.iface 88 x) 43 70 true).run Tryz.prog w = .ok (.tuple #[.agg #[.string ⟨#[]⟩], .bool false]) w := by kernel_rfl
theorem notext_listPart (x : Value) (w : World) : (Instr.typeAssert (.iface 74 x) 43 70 true).run Tryz.prog w = .ok (.tuple #[.agg #[.string ⟨#[]⟩], .bool false]) w := by kernel_rfl
theorem notext_mapPart (x : Value) (w : World) : (Instr.typeAssert (.iface 77 x) 43 70 true).run Tryz.prog w = .ok (.tuple #[.agg #[.string ⟨#[]⟩], .bool false]) w := by kernel_rfl
theorem nolist_nullPart (x : Value) (w : World) : (Instr.typeAssert (.iface 84 x) 43 74 true).run Tryz.prog w = .ok (.tuple #[.agg #[.slice none 0 0], .bool false]) w := by kernel_rfl
theorem nolist_unknownPart (x : Value) (w : World) : (Instr.typeAssert (.iface 88 x) 43 74 true).run Tryz.prog w = .ok (.tuple #[.agg #[.slice none 0 0], .bool false]) w := by kernel_rfl
theorem nolist_mapPart (x : Value) (w : World) : (Instr.typeAssert (.iface 77 x) 43 74 true).run Tryz.prog w = .ok (.tuple #[.agg #[.slice none 0 0], .bool false]) w := by kernel_rfl
theorem nomap_nullPart (x : Value) (w : World) : (Instr.typeAssert (.iface 84 x) 43 77 true).run Tryz.prog w = .ok (.tuple #[.agg #[.map none], .bool false]) w := by kernel_rfl
theorem nomap_unknownPart (x : Value) (w : World) : (Instr.typeAssert (.iface 88 x) 43 77 true).run Tryz.prog w = .ok (.tuple #[.agg #[.map none], .bool false]) w := by kernel_rfl
theorem is_boolPart (x : Value) (w : World) : (Instr.typeAssert (.iface 67 x) 43 67 true).run Tryz.prog w = .ok (.tuple #[x, .bool true]) w := by kernel_rfl
theorem is_intPart (x : Value) (w : World) : (Instr.typeAssert (.iface 68 x) 43 68 true).run Tryz.prog w = .ok (.tuple #[x, .bool true]) w := by kernel_rfl
theorem is_textPart (x : Value) (w : World) : (Instr.typeAssert (.iface 70 x) 43 70 true).run Tryz.prog w = .ok (.tuple #[x, .bool true]) w := by kernel_rfl
theorem is_listPart (x : Value) (w : World) : (Instr.typeAssert (.iface 74 x) 43 74 true).run Tryz.prog w = .ok (.tuple #[x, .bool true]) w := by kernel_rfl
theorem is_mapPart (x : Value) (w : World) : (Instr.typeAssert (.iface 77 x) 43 77 true).run Tryz.prog w = .ok (.tuple #[x, .bool true]) w := by kernel_rfl

end Go.Proofs.YthnkedbmfhokiaaGreatDoor
/-
  The kind of a part: a method of an interface value, by the value's own type.
-/
namespace Go.Proofs.YthnkedbmfhokiaaGreatDoor
open Go.RowKit Go.Shelf
set_option linter.unusedVariables false
set_option linter.unusedSimpArgs false

theorem meth_nullPart (x : Value) (w : World) : (method 279 84 x "loop.example/g00407/impl.kind").run Tryz.prog w = .ok (136, x) w := by kernel_rfl
theorem meth_unknownPart (x : Value) (w : World) : (method 279 88 x "loop.example/g00407/impl.kind").run Tryz.prog w = .ok (137, x) w := by kernel_rfl
theorem meth_boolPart (x : Value) (w : World) : (method 279 67 x "loop.example/g00407/impl.kind").run Tryz.prog w = .ok (131, x) w := by kernel_rfl
theorem meth_intPart (x : Value) (w : World) : (method 279 68 x "loop.example/g00407/impl.kind").run Tryz.prog w = .ok (132, x) w := by kernel_rfl
theorem meth_textPart (x : Value) (w : World) : (method 279 70 x "loop.example/g00407/impl.kind").run Tryz.prog w = .ok (133, x) w := by kernel_rfl
theorem meth_listPart (x : Value) (w : World) : (method 279 74 x "loop.example/g00407/impl.kind").run Tryz.prog w = .ok (134, x) w := by kernel_rfl
theorem meth_mapPart (x : Value) (w : World) : (method 279 77 x "loop.example/g00407/impl.kind").run Tryz.prog w = .ok (135, x) w := by kernel_rfl
set_option maxHeartbeats 800000 in
theorem kind_nullPart (w : World) : Calls Tryz.prog 136 #[.agg #[]] w fun e w' => e = .returned (.int .i64 0) ∧ Below w.heap.size w w' := by
  have Hb : Hid (∀ o : Obj, Below w.heap.size w (w.alloc o)) := fun o => (Below.refl _ _).alloc (Nat.le_refl _) o
  go_enter Tryz.func136, Tryz.ntmps136
  go_wp2
  go_ret
  exact ⟨rfl, Hb.out _⟩
set_option maxHeartbeats 800000 in
theorem kind_unknownPart (w : World) : Calls Tryz.prog 137 #[.agg #[]] w fun e w' => e = .returned (.int .i64 6) ∧ Below w.heap.size w w' := by
  have Hb : Hid (∀ o : Obj, Below w.heap.size w (w.alloc o)) := fun o => (Below.refl _ _).alloc (Nat.le_refl _) o
  go_enter Tryz.func137, Tryz.ntmps137
  go_wp2
  go_ret
  exact ⟨rfl, Hb.out _⟩
set_option maxHeartbeats 800000 in
theorem kind_boolPart (n : Int) (w : World) : Calls Tryz.prog 131 #[.agg #[.int .i64 n]] w fun e w' => e = .returned (.int .i64 1) ∧ Below w.heap.size w w' := by
  have Hb : Hid (∀ o : Obj, Below w.heap.size w (w.alloc o)) := fun o => (Below.refl _ _).alloc (Nat.le_refl _) o
  go_enter Tryz.func131, Tryz.ntmps131
  go_wp2
  go_ret
  exact ⟨rfl, Hb.out _⟩
set_option maxHeartbeats 800000 in
theorem kind_intPart (n : Int) (w : World) : Calls Tryz.prog 132 #[.agg #[.int .i64 n]] w fun e w' => e = .returned (.int .i64 2) ∧ Below w.heap.size w w' := by
  have Hb : Hid (∀ o : Obj, Below w.heap.size w (w.alloc o)) := fun o => (Below.refl _ _).alloc (Nat.le_refl _) o
  go_enter Tryz.func132, Tryz.ntmps132
  go_wp2
  go_ret
  exact ⟨rfl, Hb.out _⟩
set_option maxHeartbeats 800000 in
theorem kind_textPart (s : ByteArray) (w : World) : Calls Tryz.prog 133 #[.agg #[.string s]] w fun e w' => e = .returned (.int .i64 3) ∧ Below w.heap.size w w' := by
  have Hb : Hid (∀ o : Obj, Below w.heap.size w (w.alloc o)) := fun o => (Below.refl _ _).alloc (Nat.le_refl _) o
  go_enter Tryz.func133, Tryz.ntmps133
  go_wp2
  go_ret
  exact ⟨rfl, Hb.out _⟩
set_option maxHeartbeats 800000 in
theorem kind_listPart (a : Option Addr) (n c : Nat) (w : World) : Calls Tryz.prog 134 #[.agg #[.slice a n c]] w fun e w' => e = .returned (.int .i64 4) ∧ Below w.heap.size w w' := by
  have Hb : Hid (∀ o : Obj, Below w.heap.size w (w.alloc o)) := fun o => (Below.refl _ _).alloc (Nat.le_refl _) o
  go_enter Tryz.func134, Tryz.ntmps134
  go_wp2
  go_ret
  exact ⟨rfl, Hb.out _⟩
set_option maxHeartbeats 800000 in
theorem kind_mapPart (b : Nat) (w : World) : Calls Tryz.prog 135 #[.agg #[.map (some b)]] w fun e w' => e = .returned (.int .i64 5) ∧ Below w.heap.size w w' := by
  have Hb : Hid (∀ o : Obj, Below w.heap.size w (w.alloc o)) := fun o => (Below.refl _ _).alloc (Nat.le_refl _) o
  go_enter Tryz.func135, Tryz.ntmps135
  go_wp2
  go_ret
  exact ⟨rfl, Hb.out _⟩

end Go.Proofs.YthnkedbmfhokiaaGreatDoor
/-
  The order of values: it is one; and values are alike just if their bytes are. Plain mathematics.
-/
namespace Go.Proofs.YthnkedbmfhokiaaGreatDoor
open Go.RowKit
set_option linter.unusedVariables false
set_option linter.unusedSimpArgs false

theorem num_pre (ys : List Int) (n : Int) : ∃ r, putNum ys n = ys ++ r := by
  unfold putNum
  split
  · exact ⟨[], by simp⟩
  · exact ⟨_, rfl⟩
theorem text_pre (ys ts : List Int) : ∃ r, putText ys ts = ys ++ r := by
  unfold putText
  split
  · exact ⟨[], by simp⟩
  · obtain ⟨r, e⟩ := num_pre ys ts.length
    exact ⟨r ++ ts, by rw [e, List.append_assoc]⟩
theorem kid_pre {α : Type} (f : α → List Int → List Int) (hf : ∀ x b, ∃ r, f x b = b ++ r) (m : Bool) (K : List (List Int)) (L : List α) (b : List Int) (k : Nat) : ∀ j, k + j ≤ L.length → ∃ r, kidB f m K L b (k + j) = kidB f m K L b k ++ r
  | 0, _ => ⟨[], by simp⟩
  | j + 1, hj => by
    obtain ⟨r, e⟩ := kid_pre f hf m K L b k j (by omega)
    rw [show k + (j + 1) = (k + j) + 1 from rfl, kidB_succ f m K L b (k + j) (by omega)]
    cases m
    · obtain ⟨r2, e2⟩ := hf L[k + j] (kidB f false K L b (k + j))
      exact ⟨r ++ r2, by simp only [Bool.false_eq_true, if_false]; rw [e2, e, List.append_assoc]⟩
    · obtain ⟨r1, e1⟩ := text_pre (kidB f true K L b (k + j)) (K.getD (k + j) [])
      obtain ⟨r2, e2⟩ := hf L[k + j] (putText (kidB f true K L b (k + j)) (K.getD (k + j) []))
      exact ⟨r ++ (r1 ++ r2), by simp only [if_true]; rw [e2, e1, e]; simp⟩

end Go.Proofs.YthnkedbmfhokiaaGreatDoor
/-
  Values that lie as cells, and a part of them; no statement is proved here.
-/
namespace Go.Proofs.YthnkedbmfhokiaaGreatDoor
open Go.RowKit
set_option linter.unusedVariables false
set_option linter.unusedSimpArgs false

abbrev V5 := Value × Value × Value × Value × Value

theorem flat_len : ∀ fs : List V5, ((fs.map enc5).flatten).length = fs.length * 5
  | [] => rfl
  | f :: fs => by have := flat_len fs; simp only [List.map_cons, List.flatten_cons, List.length_append, List.length_cons, this]; simp [enc5]; omega

theorem flat5_at (fs : List V5) (i : Nat) (hi : i < fs.length) (r : Nat) (hr : r < 5) : ((fs.map enc5).flatten)[i * 5 + r]? = (enc5 fs[i])[r]? := by
  rw [flatten_at 5 (fs.map enc5) (by intro c hc; simp only [List.mem_map] at hc; obtain ⟨f, _, rfl⟩ := hc; rfl) i (by simpa using hi) r hr]
  simp [List.getD_eq_getElem?_getD, hi]

theorem lie_five {w : World} {b off : Nat} {fs : List V5} (h : ∀ i (hi : i < fs.length), Five w b (off + i * 5) fs[i]) : Lie w b off ((fs.map enc5).flatten) := by
  intro j u hu
  have hj := (List.getElem?_eq_some_iff.1 hu).1
  rw [flat_len] at hj
  have hi : j / 5 < fs.length := by omega
  have hr : j % 5 < 5 := Nat.mod_lt _ (by omega)
  have e : j = j / 5 * 5 + j % 5 := by omega
  rw [e, flat5_at fs (j / 5) hi (j % 5) hr] at hu
  obtain ⟨h0, h1, h2, h3, h4⟩ := h (j / 5) hi
  rw [e, ← Nat.add_assoc]
  generalize j % 5 = r at *
  match r, hr with
  | 0, _ => simp [enc5] at hu; rw [← hu]; exact h0
  | 1, _ => simp [enc5] at hu; rw [← hu]; exact h1
  | 2, _ => simp [enc5] at hu; rw [← hu]; exact h2
  | 3, _ => simp [enc5] at hu; rw [← hu]; exact h3
  | 4, _ => simp [enc5] at hu; rw [← hu]; exact h4

theorem five_lie {w : World} {b off : Nat} {fs : List V5} (h : Lie w b off ((fs.map enc5).flatten)) (i : Nat) (hi : i < fs.length) : Five w b (off + i * 5) fs[i] := by
  have key : ∀ r u, r < 5 → (enc5 fs[i])[r]? = some u → w.cell? ⟨b, off + i * 5 + r, none⟩ = some u := fun r u hr hu => by
    have := h (i * 5 + r) u (by rw [flat5_at fs i hi r hr]; exact hu)
    rw [← Nat.add_assoc] at this
    exact this
  exact ⟨key 0 _ (by omega) rfl, key 1 _ (by omega) rfl, key 2 _ (by omega) rfl, key 3 _ (by omega) rfl, key 4 _ (by omega) rfl⟩

/-- A slice of values lies as cells. -/
theorem LSeg.lie {R : Nat → Prop} {w : World} {d : Nat} {a : Option Addr} {l p : Nat} {vl : List (Vl d)} (h : LSeg R w d (.slice a l p) vl) (hne : vl ≠ []) : l = vl.length ∧ vl.length ≤ p ∧ ∃ b off, ∃ fs : List V5, a = some ⟨b, off, none⟩ ∧ R b ∧ fs.length = vl.length ∧ Lie w b off ((fs.map enc5).flatten) ∧ (∀ u ∈ (fs.map enc5).flatten, u.oneCell' = true) ∧ ∀ i (h : i < fs.length) (h' : i < vl.length), VSeg R w d fs[i] vl[i] := by
  obtain ⟨a', cap, e, h1, h2, h3, h4⟩ := h
  simp only [Value.slice.injEq] at e
  obtain ⟨rfl, rfl, rfl⟩ := e
  rcases h4 with h0 | ⟨b, off, ha, hR, hc⟩
  · exact absurd h0 hne
  · obtain ⟨fs, hl, hu⟩ := list_of (Q := fun i e => Five w b (off + i * 5) e ∧ ∀ h : i < vl.length, VSeg R w d e vl[i]) vl.length (fun i hi => by obtain ⟨e, he, hv⟩ := hc i hi; exact ⟨e, he, fun _ => hv⟩)
    refine ⟨rfl, h1, b, off, fs, ha, hR, hl, lie_five fun i hi => (hu i hi).1, fun u hu' => ?_, fun i hi h' => (hu i hi).2 h'⟩
    simp only [List.mem_flatten, List.mem_map] at hu'
    obtain ⟨_, ⟨f, hf, rfl⟩, hmem⟩ := hu'
    obtain ⟨i, hi, rfl⟩ := List.mem_iff_getElem.1 hf
    have hv := (hu i hi).2 (by omega)
    generalize fs[i] = f at *
    obtain ⟨x0, x1, x2, x3, x4⟩ := f
    obtain ⟨_, _, _, _, _, _, _, _, _, _, _, rfl, rfl, rfl, rfl, rfl⟩ := VSeg.form d hv
    simp only [enc5, List.mem_cons, List.not_mem_nil, or_false] at hmem
    rcases hmem with rfl | rfl | rfl | rfl | rfl <;> rfl

end Go.Proofs.YthnkedbmfhokiaaGreatDoor
/-
  l2say of the specification: lists and maps, all; ValText.
-/
namespace Go.Proofs.YthnkedbmfhokiaaGreatDoor
open Go.RowKit
set_option linter.unusedVariables false
set_option linter.unusedSimpArgs false

end Go.Proofs.YthnkedbmfhokiaaGreatDoor
/-
  ValBytes of the specification: l2put of a number.
-/
namespace Go.Proofs.YthnkedbmfhokiaaGreatDoor
open Go.RowKit
set_option linter.unusedVariables false
set_option linter.unusedSimpArgs false

theorem wrap_id (x : Int) (h : 0 ≤ x) (h2 : x ≤ 1000000000000) : wrap64 x = x := by unfold wrap64; omega
theorem wd_pos (n : Int) (h : 0 ≤ n) (h2 : n ≤ 1000000000000) : wrap64 (n.tdiv 1000000) = n / 1000000 := by
  rw [Int.tdiv_eq_ediv_of_nonneg h]; exact wrap_id _ (by omega) (by omega)
theorem wm_pos (n : Int) (h : 0 ≤ n) : n.tmod 1000000 = n % 1000000 := Int.tmod_eq_emod_of_nonneg h
theorem wmw_pos (n : Int) (h : 0 ≤ n) : wrap64 (n.tmod 1000000) = n % 1000000 := by rw [wm_pos n h]; exact wrap_id _ (by omega) (by omega)
theorem wd_neg (n : Int) (h : n < 0) (h2 : -n ≤ 1000000000000) : wrap64 (-n.tdiv 1000000) = -n / 1000000 := by
  rw [← Int.neg_tdiv]; exact wd_pos (-n) (by omega) h2
theorem wm_neg (n : Int) (h : n < 0) : -n.tmod 1000000 = -n % 1000000 := by rw [← Int.neg_tmod]; exact wm_pos (-n) (by omega)
theorem wmw_neg (n : Int) (h : n < 0) : wrap64 (-n.tmod 1000000) = -n % 1000000 := by rw [wm_neg n h]; exact wrap_id _ (by omega) (by omega)

set_option maxHeartbeats 1000000 in
set_option maxRecDepth 100000 in
theorem l2put_int (d N : Nat) (a : Option Addr) (cap : Nat) (xs : List Int) (vn : Int) (vs : List Int) (vK : List (List Int)) (vL : List (Vl d)) (a2 : Option Addr) (p2 : Nat) (c3 c4 : Value) (w : World) (hs : Seg w a xs) (ka : a = none → cap = 0) (hl : xs.length ≤ 1000000) (s2 : Seg w a2 vs) (k2 : a2 = none → p2 = 0) (m2 : vs.length ≤ 1000000)
    (h3 : ∃ b n p, c3 = .slice b n p) (h4 : ∃ b n p, c4 = .slice b n p) (hlo : -1000000000000 ≤ vn) (hhi : vn ≤ 1000000000000) :
    Calls Tryz.prog 27 #[.slice a xs.length cap, .agg #[.int .i64 2, .int .i64 vn, .slice a2 vs.length p2, c3, c4]] w fun e w' => ∃ u, e = .returned u ∧ Bts w' w.heap.size u (bytV (d + 1) (2, vn, vs, vK, vL) xs) ∧ Below w.heap.size w w' := by
  obtain ⟨b3, n3, q3, rfl⟩ := h3
  obtain ⟨b4, n4, q4, rfl⟩ := h4
  have b0 : ∀ o : Obj, Below w.heap.size w (w.alloc o) := fun o => (Below.refl _ _).alloc (Nat.le_refl _) o
  have Hb := hide' b0
  have H1 : Hid (∀ o : Obj, Calls Tryz.prog 49 #[.slice a xs.length cap, .int .i64 2] (w.alloc o) (PEnd (w.alloc o) (putNum xs 2))) := fun o => spec_PutNum_end a cap xs 2 _ (hs.grow (b0 o)) ka (by omega)
  have hpl := putNum_len xs 2
  have HS2 : Hid (∀ wx, Below w.heap.size w wx → Seg wx a2 vs) := fun wx hb => s2.grow hb
  have HP : Hid (∀ (a1 : Option Addr) (c1 : Nat) (ys : List Int) (n : Int) (wx : World), Bts wx 0 (.slice a1 ys.length c1) ys → (a1 = none → c1 = 0) → ys.length ≤ 2000000 → Calls Tryz.prog 49 #[.slice a1 ys.length c1, .int .i64 n] wx (PEnd wx (putNum ys n))) := fun a1 c1 ys n wx hB k hlen => spec_PutNum_end a1 c1 ys n wx hB.seg k (by omega)
  have HT : Hid (∀ (a1 : Option Addr) (c1 : Nat) (ys : List Int) (wx : World), Bts wx 0 (.slice a1 ys.length c1) ys → (a1 = none → c1 = 0) → ys.length ≤ 2000000 → Below w.heap.size w wx → Calls Tryz.prog 50 #[.slice a1 ys.length c1, .slice a2 vs.length p2] wx (PEnd wx (putText ys vs))) := fun a1 c1 ys wx hB k hlen hbw => spec_PutText_end a1 a2 c1 p2 ys vs wx hB.seg (HS2.out wx hbw) k k2 (by omega) (by omega)
  clear b0 hs s2
  by_cases hneg : vn < 0
  · have HF : Hid (bytV (d + 1) (2, vn, vs, vK, vL) xs = putNum (putNum (putNum (putNum xs 2) 1) (-vn / 1000000)) (-vn % 1000000)) := by show _ = _; rw [bytV_int, putI, if_pos hneg]
    have hp1 := putNum_len (putNum xs 2) 1
    have hp2 := putNum_len (putNum (putNum xs 2) 1) (-vn / 1000000)
    have hm0 : 0 ≤ -vn := by omega
    have hm1 : -vn ≤ 1000000000000 := by omega
    have hd : wrap64 (-vn.tdiv 1000000) = -vn / 1000000 := wd_neg vn (by omega) (by omega)
    have hm : -vn.tmod 1000000 = -vn % 1000000 := wm_neg vn (by omega)
    have hmw : wrap64 (-vn.tmod 1000000) = -vn % 1000000 := wmw_neg vn (by omega)
    have Hd := hide' hd
    have Hm := hide' hm
    have Hmw := hide' hmw
    clear hd hm hmw
    go_enter Tryz.func27, Tryz.ntmps27
    go_wp2_with fail
    refine (H1.out _).mono ?_
    rintro e w1 ⟨a1, c1, rfl, hB1, b1, k1⟩
    obtain ⟨y0, y1, y2, y3, y4, _⟩ := row5 (box_row b1)
    have B1 := Below.on (Hb.out _) b1
    have H2 := hide' (HP.out a1 c1 (putNum xs 2) 1 w1 (hB1.mono (by omega)) k1 (by omega))
    generalize putNum xs 2 = z1 at *
    generalize z1.length = n1 at *
    clear b1 hB1
    go_wp2_with fail
    refine H2.out.mono ?_
    rintro e w2 ⟨a2', c2', rfl, hB2, b2, k2'⟩
    have B2 := Below.on B1 b2
    have H3 := hide' (HP.out a2' c2' (putNum z1 1) (-vn / 1000000) w2 (hB2.mono (by omega)) k2' (by omega))
    generalize putNum z1 1 = z2 at *
    generalize z2.length = n2 at *
    clear b2 hB2 H2
    go_wp2_with fail
    try rw [Hd.out]
    refine H3.out.mono ?_
    rintro e w3 ⟨a3', c3', rfl, hB3, b3, k3'⟩
    have B3 := Below.on B2 b3
    have H4 := hide' (HP.out a3' c3' (putNum z2 (-vn / 1000000)) (-vn % 1000000) w3 (hB3.mono (by omega)) k3' (by omega))
    generalize putNum z2 (-vn / 1000000) = z3 at *
    generalize z3.length = n3' at *
    clear b3 hB3 H3
    go_wp2_with fail
    first | rw [Hmw.out] | rw [Hm.out] | skip
    refine H4.out.mono ?_
    rintro e w4 ⟨a4', c4', rfl, hB4, b4', k4'⟩
    have B4 := Below.on B3 b4'
    have HB4 := hide' (hB4.mono (base' := w.heap.size) B3.size)
    generalize (putNum z3 (-vn % 1000000)).length = n4' at *
    clear b4' hB4 H4
    go_wp2
    go_ret
    exact ⟨_, rfl, by rw [HF.out]; exact HB4.out, B4⟩
  · have HF : Hid (bytV (d + 1) (2, vn, vs, vK, vL) xs = putNum (putNum (putNum (putNum xs 2) 0) (vn / 1000000)) (vn % 1000000)) := by show _ = _; rw [bytV_int, putI, if_neg hneg]
    have hp1 := putNum_len (putNum xs 2) 0
    have hp2 := putNum_len (putNum (putNum xs 2) 0) (vn / 1000000)
    have hm0 : 0 ≤ vn := by omega
    have hd : wrap64 (vn.tdiv 1000000) = vn / 1000000 := wd_pos vn (by omega) (by omega)
    have hm : vn.tmod 1000000 = vn % 1000000 := wm_pos vn (by omega)
    have hmw : wrap64 (vn.tmod 1000000) = vn % 1000000 := wmw_pos vn (by omega)
    have Hd := hide' hd
    have Hm := hide' hm
    have Hmw := hide' hmw
    clear hd hm hmw
    go_enter Tryz.func27, Tryz.ntmps27
    go_wp2_with fail
    refine (H1.out _).mono ?_
    rintro e w1 ⟨a1, c1, rfl, hB1, b1, k1⟩
    obtain ⟨y0, y1, y2, y3, y4, _⟩ := row5 (box_row b1)
    have B1 := Below.on (Hb.out _) b1
    have H2 := hide' (HP.out a1 c1 (putNum xs 2) 0 w1 (hB1.mono (by omega)) k1 (by omega))
    generalize putNum xs 2 = z1 at *
    generalize z1.length = n1 at *
    clear b1 hB1
    go_wp2_with fail
    refine H2.out.mono ?_
    rintro e w2 ⟨a2', c2', rfl, hB2, b2, k2'⟩
    have B2 := Below.on B1 b2
    have H3 := hide' (HP.out a2' c2' (putNum z1 0) (vn / 1000000) w2 (hB2.mono (by omega)) k2' (by omega))
    generalize putNum z1 0 = z2 at *
    generalize z2.length = n2 at *
    clear b2 hB2 H2
    go_wp2_with fail
    try rw [Hd.out]
    refine H3.out.mono ?_
    rintro e w3 ⟨a3', c3', rfl, hB3, b3, k3'⟩
    have B3 := Below.on B2 b3
    have H4 := hide' (HP.out a3' c3' (putNum z2 (vn / 1000000)) (vn % 1000000) w3 (hB3.mono (by omega)) k3' (by omega))
    generalize putNum z2 (vn / 1000000) = z3 at *
    generalize z3.length = n3' at *
    clear b3 hB3 H3
    go_wp2_with fail
    first | rw [Hmw.out] | rw [Hm.out] | skip
    refine H4.out.mono ?_
    rintro e w4 ⟨a4', c4', rfl, hB4, b4', k4'⟩
    have B4 := Below.on B3 b4'
    have HB4 := hide' (hB4.mono (base' := w.heap.size) B3.size)
    generalize (putNum z3 (vn % 1000000)).length = n4' at *
    clear b4' hB4 H4
    go_wp2
    go_ret
    exact ⟨_, rfl, by rw [HF.out]; exact HB4.out, B4⟩
end Go.Proofs.YthnkedbmfhokiaaGreatDoor
/-
  takeAll of the program, walked.
-/
namespace Go.Proofs.YthnkedbmfhokiaaGreatDoor
open Go.RowKit
set_option linter.unusedVariables false
set_option linter.unusedSimpArgs false

theorem PSeg.shape {R : Nat → Prop} {w : World} {d : Nat} {p : Value} {v : Vl d} (h : PSeg R w d p v) : ∃ t x, p = .iface t x := by
  cases d with
  | zero => exact h.elim
  | succ d =>
    rcases h with ⟨_, rfl⟩ | ⟨_, rfl⟩ | ⟨_, rfl⟩ | ⟨_, rfl⟩ | ⟨_, rfl⟩ | ⟨_, _, _, rfl, _⟩ | ⟨_, _, _, rfl, _⟩ <;> exact ⟨_, _, rfl⟩

set_option maxHeartbeats 4000000 in
theorem takeAll_of (d : Nat) (ih : TakeAt d) (N q n : Nat) (x : Value) (l : List (Vl d)) (deep : Nat) (w : World) (hx : LSeg (fun b => b < N) w d x l) (hNq : N ≤ q) (hq : q < w.heap.size) (hc : Cnt w q n) (hn : n ≤ 40) (hd : deep ≤ 6) :
    Calls Tryz.prog 58 #[.pointer (some ⟨q, 0, none⟩), x, .int .i64 deep] w fun e w' =>
      w.grownBy w' (some q) ∧ ((∃ y, e = .returned (.tuple #[y, .bool true]) ∧ TookAll d l deep n q w w' y) ∨ (e = .returned (.tuple #[.slice none 0 0, .bool false]) ∧ ¬ ((∀ j (h : j < l.length), goodB d l[j] deep = true) ∧ n + pre (partsV d) l l.length ≤ 40))) := by
  have HX := hide' hx
  obtain ⟨a4, p4, rfl, hlc, hcm, ka, _⟩ := hx
  unfold maxLen at hcm
  have HI := hide' ih
  have H0 : Hid (TA d l deep n q w w 0 (.slice none 0 0) []) := TA_zero hc hn
  obtain ⟨i0, hi, hz0, hz1, hz2⟩ := info_parts info_part
  clear ih hc
  go_enter Tryz.func58, Tryz.ntmps58
  go_wp2
  go_loopw [8, 15] (fun y i wr => ∃ (k : Nat) (ps : List Value), i = .int .i64 k ∧ TA d l deep n q w wr k y ps) (fun _ i _ => l.length - (intOf i).toNat)
  case atStart => exact ⟨0, [], rfl, H0.out⟩
  case round =>
    obtain ⟨k, ps, rfl, hT⟩ := hrel
    have HT := hide' hT
    obtain ⟨hk, hps, hown, hgood, hple, hcnt, hpseg, hgr⟩ := hT
    clear hgood hpseg hcnt
    by_cases hlt : k < l.length
    · have hlt' : (k : Int) < (l.length : Int) := by omega
      have hag := agree_grown hgr hNq hq
      have hcell : ∃ b off c, a4 = some ⟨b, off, none⟩ ∧ Five wr b (off + k * 5) c ∧ VSeg (fun b => b < N) wr d c (l[k]) := by
        obtain ⟨a', cap', e1, _, _, _, h5⟩ := HX.out
        simp only [Value.slice.injEq] at e1
        obtain ⟨rfl, _, _⟩ := e1
        rcases h5 with h0 | ⟨b, off, rfl, hR, hcc⟩
        · rw [h0] at hlt; simp at hlt
        · obtain ⟨c, h5, hv⟩ := hcc k hlt
          exact ⟨b, off, c, rfl, h5.agree hag hR, VSeg.agree hag d hv⟩
      obtain ⟨b, off, c, rfl, h5', hv⟩ := hcell
      obtain ⟨c0, c1, c2, c3, c4⟩ := c
      obtain ⟨q0, q1, q2, q3, q4⟩ := h5'
      simp only at q0 q1 q2 q3 q4
      have HV := hide' hv
      have hs := hgr.size
      obtain ⟨ck, cn, s2, l2, e2, s3, l3, e3, s4, l4, e4, rfl, rfl, rfl, rfl, rfl⟩ := VSeg.form d hv
      have hgW := World.grownBy_alloc wr (.cells #[.int .i64 ck, .int .i64 cn, .slice s2 l2 e2, .slice s3 l3 e3, .slice s4 l4 e4] 26) none
      have hTW := TA_none HT.out hgW
      have hC := HI.out N q (n + pre (partsV d) l k) _ l[k] deep _ (VSeg.agree (fun b hb => hgW.block b (by omega) (by simp)) d hv) hNq (by simp; omega) hTW.2.2.2.2.2.1 hple hd
      have HC := hide' hC
      have HTW := hide' hTW
      clear hv hag hgr hTW hC hgW
      go_wp2_with fail
      refine HC.out.mono ?_
      rintro e w1 ⟨hg1, hcase⟩
      clear q0 q1 q2 q3 q4
      rcases hcase with ⟨p, rfl, htook⟩ | ⟨rfl, hbad⟩
      · obtain ⟨pt, px, rfl⟩ := htook.2.2.2.shape
        have hrw := TA_row HTW.out hq hg1 (.cells #[.iface pt px] 43)
        have h63 : k + 1 ≤ 40 := by have := pre_ge d l (k + 1) hlt; have := pre_succ (partsV d) l k hlt; have := htook.2.1; omega
        have hs1 := hg1.size
        have hsW := HTW.out.2.2.2.2.2.2.2.size
        have HK := hide' htook
        clear htook hown
        go_wp2_with (at_builtin; refine wpList_append_own_at _ rfl _ _ 72 rfl w.heap.size 43 i0 .nilIface 1 16 Tryz.underlying72 hi hz0 hz1 hz2 rfl (by decide) _ k ps rfl hrw ⟨w1.heap.size, 0, none⟩ 1 1 [.iface pt px] rfl rfl (cell_one_new _ _ _) (by intro u hu; simp at hu; rw [hu]; rfl) (by unfold maxLen; omega) (by omega) (by simp; omega) ?_; intro y' w2 hown' hg2 hnil hloc)
        have hN := TA_next HTW.out hq hlt hg1 HK.out hown' hg2 hloc
        clear hown' hg2 hnil hloc hrw HK HTW HC
        go_wp2
        go_roundw
        case rel => exact ⟨k + 1, _, by go_num, hN⟩
        case measure => simp [intOf]; omega
      · have hgf := grownBy_trans HTW.out.2.2.2.2.2.2.2 hg1
        have hno : ¬ ((∀ j (h : j < l.length), goodB d l[j] deep = true) ∧ n + pre (partsV d) l l.length ≤ 40) := fun ⟨h1, h2⟩ => hbad ⟨h1 k hlt, by
          have h3 := pre_succ (partsV d) l k hlt
          have h4 := pre_le (partsV d) l (k + 1)
          have h5 := pre_all (partsV d) l
          omega⟩
        go_wp2
        go_ret2
        exact ⟨hgf, .inr ⟨rfl, hno⟩⟩
    · have hkn : k = l.length := by omega
      have hlt' : ¬ (k : Int) < (l.length : Int) := by omega
      rw [hkn] at HT
      have hE := TA_end HT.out
      have hgf := HT.out.2.2.2.2.2.2.2
      clear hkn
      go_wp2
      go_ret2
      exact ⟨hgf, .inl ⟨_, rfl, hE⟩⟩
end Go.Proofs.YthnkedbmfhokiaaGreatDoor
/-
  mapWith of the program, walked: it makes a map of names and parts.
-/
namespace Go.Proofs.YthnkedbmfhokiaaGreatDoor
open Go.RowKit
set_option linter.unusedVariables false
set_option linter.unusedSimpArgs false

theorem keyS (xs : List Int) (h : xs.length ≤ maxLen) : Go.keyOf Tryz.prog 9 (.string (strOf xs)) = some (.string (u8s xs)) :=
  WideMaps.keyOf_string_mk Tryz.underlying9 (by show (xs.map _).toArray.size ≤ maxLen; rw [List.size_toArray, List.length_map]; exact h)

/-- What mapWith leaves: a new map with these entries. -/
def MapWEnd (vK : List (List Int)) (ps : List Value) (m : Nat) (w : World) (e : Ending) (w' : World) : Prop :=
  ∃ b, e = .returned (.agg #[.map (some b)]) ∧ w.heap.size ≤ b ∧ b < w'.heap.size ∧ w'.ownsMap Tryz.prog 9 tokR b m (mapD vK ps m) ∧ Below w.heap.size w w'

set_option maxHeartbeats 4000000 in
theorem mapWith_of (N : Nat) (z : Value) (vK : List (List Int)) (m : Nat) (a : Option Addr) (cap : Nat) (ps : List Value) (w : World) (hz : KSeg (fun b => b < N) w z vK) (hN : N ≤ w.heap.size) (hkl : vK.length = m) (hlen : m ≤ 40)
    (hcell : m = 0 ∨ ∃ b off, a = some ⟨b, off, none⟩ ∧ b < w.heap.size ∧ ∀ i, i < m → w.cell? ⟨b, off + i, none⟩ = some (ps.getD i .nilIface)) (hsh : ∀ i, i < m → ∃ pt px, ps.getD i .nilIface = .iface pt px) :
    Calls Tryz.prog 70 #[z, .slice a m cap] w (MapWEnd vK ps m w) := by
  have HZ := hide' hz
  have HC := hide' hcell
  have HSh := hide' hsh
  have HKL := hide' hkl
  obtain ⟨a3, p3, rfl, hlc3, hcm3, ka3, _⟩ := hz
  unfold maxLen at hcm3
  have hmk := run_makeMapN 75 9 43 (m : Int) (w.alloc (.cells #[.map none] 77)) Tryz.underlying75
  have hM0 : ((w.alloc (.cells #[.map none] 77)).alloc (.map #[] 0)).ownsMap Tryz.prog 9 tokR (w.heap.size + 1) 0 (mapD vK ps 0) := by
    have := World.ownsMap_made (w.alloc (.cells #[.map none] 77)) Tryz.prog 9 tokR
    rw [World.size_alloc] at this
    exact this
  rw [World.size_alloc] at hmk
  rw [hkl] at HZ
  rw [hkl] at hlc3
  rw [hkl]
  clear hcell hsh hkl
  go_enter Tryz.func70, Tryz.ntmps70
  go_wp2
  go_loopw [13] (fun i wr => ∃ k : Nat, k ≤ m ∧ i = .int .i64 k ∧ wr.ownsMap Tryz.prog 9 tokR (w.heap.size + 1) k (mapD vK ps k) ∧ Hid (((w.alloc (.cells #[.map none] 77)).alloc (.map #[] 0)).grownBy wr (some (w.heap.size + 1)))) (fun i _ => m - (intOf i).toNat)
  case atStart => exact ⟨0, Nat.zero_le _, rfl, hM0, World.grownBy.refl _ _⟩
  case round =>
    obtain ⟨k, hk, rfl, hown, hgr⟩ := hrel
    clear hM0 hmk
    have hal1 : w.grownBy (w.alloc (.cells #[.map none] 77)) none := World.grownBy_alloc w _ none
    have hal2 : (w.alloc (.cells #[.map none] 77)).grownBy ((w.alloc (.cells #[.map none] 77)).alloc (.map #[] 0)) none := World.grownBy_alloc _ _ none
    have hlow2 : ∀ b, b < w.heap.size + 1 → wr.heap[b]? = (w.alloc (.cells #[.map none] 77)).heap[b]? := fun b hb => (hgr.out.block b (by simp; omega) (by simp; omega)).trans (hal2.block b (by simp; omega) (by simp))
    have hlow : ∀ b, b < w.heap.size → wr.heap[b]? = w.heap[b]? := fun b hb => (hlow2 b (by omega)).trans (hal1.block b hb (by simp))
    by_cases hlt : k < m
    · have hlt' : (k : Int) < (m : Int) := by omega
      have hit : ∃ b off, a = some ⟨b, off, none⟩ ∧ wr.cell? ⟨b, off + k, none⟩ = some (ps.getD k .nilIface) := by
        rcases HC.out with h0 | ⟨b, off, rfl, hb, hcc⟩
        · omega
        · exact ⟨b, off, rfl, (World.cell?_of_block (hlow b hb)).trans (hcc k hlt)⟩
      obtain ⟨ib, io, rfl, hitem⟩ := hit
      have hag : Agree (fun b => b < N) w wr := fun b hb => hlow b (by omega)
      have hKr : KSeg (fun b => b < N) wr (.slice a3 m p3) vK := HZ.out.agree hag
      have hltK : k < vK.length := by have := HKL.out; omega
      obtain ⟨kb, ko, rfl, hat⟩ := hKr.at hltK
      obtain ⟨s2, e2, hu, g2, m2⟩ := hat k hltK
      have hcv := conv_seg e2 g2
      have hkey := keyS (vK.getD k []) m2
      have HD : Hid (mapD vK ps (k + 1) = (mapD vK ps k).put (.string (u8s (vK.getD k []))) (.held (ps.getD k .nilIface))) := rfl
      obtain ⟨pt, px, hpx⟩ := HSh.out k hlt
      rw [hpx] at hitem HD
      generalize vK.getD k [] = ys at *
      clear hlow hlow2 hag hKr hat g2 hal1 hal2 hpx
      go_wp2_with (at_mapUpdate; refine wpList_mapUpdate_own _ rfl _ _ _ 75 rfl 9 43 (Maps.string_keyed Tryz.underlying9) Tryz.underlying75 tokR (w.heap.size + 1) k _ rfl hown (by unfold maxLen; omega) _ _ _ rfl rfl hkey _ [] rfl ?_; intro w3 hown3 hg3)
      have hown4 : w3.ownsMap Tryz.prog 9 tokR (w.heap.size + 1) (k + 1) (mapD vK ps (k + 1)) := by rw [HD.out]; exact hown3
      have hgr3 : Hid (((w.alloc (.cells #[.map none] 77)).alloc (.map #[] 0)).grownBy w3 (some (w.heap.size + 1))) := grownBy_trans hgr.out hg3
      clear hown3 hg3 hown hgr hkey hcv hitem hu
      go_wp2
      go_roundw
      case rel => exact ⟨k + 1, by omega, by go_num, hown4, hgr3⟩
      case measure => simp [intOf]; omega
    · have hkn : k = m := by omega
      have hlt' : ¬ (k : Int) < (m : Int) := by omega
      obtain rfl := hkn
      have hsz3 : w.heap.size + 2 ≤ wr.heap.size := by have := hgr.out.size; simpa using this
      have hR : wr.heap[w.heap.size]? = some (.cells #[.map none] 77 (0, 0)) := (hlow2 w.heap.size (by omega)).trans (MapKept.heap_alloc w _).1
      have rc : wr.cell? ⟨w.heap.size, 0, none⟩ = some (.map none) := by rw [cell_of_row wr w.heap.size 0 _ _ _ hR]; rfl
      have rf : wr.frozen? ⟨w.heap.size, 0, none⟩ = false := frozen_of_row _ _ _ _ _ hR
      have hBw : Below w.heap.size w wr := ⟨hgr.out.os, hgr.out.tape, hgr.out.output, by omega, fun b hb => hlow b hb⟩
      have HR := hide' hR
      have HBw := hide' hBw
      clear hlow hlow2 hal1 hal2 hgr hR hBw
      go_wp2_with fail
      have hrow := heap_setCell_same wr w.heap.size 0 _ _ (.map (some (w.heap.size + 1))) HR.out
      have hc := cell_of_row _ _ 0 _ _ _ hrow
      have hg := grown1 wr w.heap.size 0 (.map (some (w.heap.size + 1)))
      refine bodyPost_ret (v := .agg #[.map (some (w.heap.size + 1))]) (by simp [results, Tryz.results70, go_sem, hc]) rfl ?_
      exact ⟨w.heap.size + 1, rfl, by omega, by simp [World.setCell]; omega, hown.kept hg (by simp), HBw.out.grown hg (by omega) (by intro j hj; simp at hj; omega)⟩
end Go.Proofs.YthnkedbmfhokiaaGreatDoor
