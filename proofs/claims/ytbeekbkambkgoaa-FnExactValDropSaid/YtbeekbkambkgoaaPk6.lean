/-
  Texts that a law leans on, one behind the other; no statement is proved here.
-/
import Derived.Test.YtbeekbkambkgoaaPk3
import Derived.Test.YtbeekbkambkgoaaPk5
import Derived.Test.YtbeekbkambkgoaaPk1
import Derived.Lib.AppendStr
import Derived.Deep.AppendLies
import Derived.Maps.AppendAt
import Derived.Test.YtbeekbkambkgoaaPk0
/-
  What a call that makes a value leaves; a block of five cells, read behind new blocks.
-/
namespace Go.Proofs.Ytbeekbkambkgoaa
open Go.RowKit
set_option linter.unusedVariables false
set_option linter.unusedSimpArgs false

/-- A block of five, read behind a new block. -/
theorem box_later {w : World} {g : Nat} {T : TypeId} {c0 c1 c2 c3 c4 : Value} (h : w.heap[g]? = some (.cells #[c0, c1, c2, c3, c4] T (0, 0))) :
    (∀ o, (w.alloc o).cell? ⟨g, 0, none⟩ = some c0) ∧ (∀ o, (w.alloc o).cell? ⟨g, 1, none⟩ = some c1) ∧ (∀ o, (w.alloc o).cell? ⟨g, 2, none⟩ = some c2) ∧ (∀ o, (w.alloc o).cell? ⟨g, 3, none⟩ = some c3) ∧ (∀ o, (w.alloc o).cell? ⟨g, 4, none⟩ = some c4) ∧ ∀ o j, (w.alloc o).frozen? ⟨g, j, none⟩ = false := by
  have hr : ∀ o, (w.alloc o).heap[g]? = some (.cells #[c0, c1, c2, c3, c4] T (0, 0)) := fun o => (Below.heap_alloc w o g (Array.getElem?_eq_some_iff.1 h).1).trans h
  exact ⟨fun o => (row5 (hr o)).1, fun o => (row5 (hr o)).2.1, fun o => (row5 (hr o)).2.2.1, fun o => (row5 (hr o)).2.2.2.1, fun o => (row5 (hr o)).2.2.2.2.1, fun o j => (row5 (hr o)).2.2.2.2.2 j⟩

/-- What valueOf leaves. -/
def ValEnd (d : Nat) (v : Vl d) (w : World) (e : Ending) (w' : World) : Prop :=
  ∃ u0 u1 u2 u3 u4, e = .returned (.agg #[u0, u1, u2, u3, u4]) ∧ ∃ B, VOwn w' d (u0, u1, u2, u3, u4) v B ∧ (∀ b ∈ B, w.heap.size ≤ b ∧ b < w'.heap.size) ∧ Below w.heap.size w w'

/-- .. and behind two. -/
theorem box_later2 {w : World} {g : Nat} {T : TypeId} {c0 c1 c2 c3 c4 : Value} (h : w.heap[g]? = some (.cells #[c0, c1, c2, c3, c4] T (0, 0))) :
    (∀ o o', ((w.alloc o).alloc o').cell? ⟨g, 0, none⟩ = some c0) ∧ (∀ o o', ((w.alloc o).alloc o').cell? ⟨g, 1, none⟩ = some c1) ∧ (∀ o o', ((w.alloc o).alloc o').cell? ⟨g, 2, none⟩ = some c2) ∧ (∀ o o', ((w.alloc o).alloc o').cell? ⟨g, 3, none⟩ = some c3) ∧ (∀ o o', ((w.alloc o).alloc o').cell? ⟨g, 4, none⟩ = some c4) ∧ ∀ o o' j, ((w.alloc o).alloc o').frozen? ⟨g, j, none⟩ = false := by
  have hr : ∀ o, (w.alloc o).heap[g]? = some (.cells #[c0, c1, c2, c3, c4] T (0, 0)) := fun o => (Below.heap_alloc w o g (Array.getElem?_eq_some_iff.1 h).1).trans h
  exact ⟨fun o => (box_later (hr o)).1, fun o => (box_later (hr o)).2.1, fun o => (box_later (hr o)).2.2.1, fun o => (box_later (hr o)).2.2.2.1, fun o => (box_later (hr o)).2.2.2.2.1, fun o => (box_later (hr o)).2.2.2.2.2⟩

end Go.Proofs.Ytbeekbkambkgoaa
/-
  valueOf of the program: parts without parts.
-/
namespace Go.Proofs.Ytbeekbkambkgoaa
open Go.RowKit Go.Shelf
set_option linter.unusedVariables false
set_option linter.unusedSimpArgs false

set_option maxHeartbeats 3200000 in
set_option maxRecDepth 100000 in
theorem valueOf_nullPart  (w : World) : Calls Try.prog 32 #[.iface 86 (.agg #[])] w fun e w' => e = .returned (.agg #[.int .i64 0, .int .i64 0, .slice none 0 0, .slice none 0 0, .slice none 0 0]) ∧ Below w.heap.size w w' := by
  have m1 := meth_nullPart (.agg #[])
  have t1 := nobool_nullPart (.agg #[])
  have t2 := noint_nullPart (.agg #[])
  have t3 := notext_nullPart (.agg #[])
  have t4 := nolist_nullPart (.agg #[])
  have t5 := nomap_nullPart (.agg #[])
  have HK := hide' (kind_nullPart)
  have HA : Hid (∀ o : Obj, Below w.heap.size w (w.alloc o)) := fun o => (Below.refl _ _).alloc (Nat.le_refl _) o
  go_enter Try.func32, Try.ntmps32
  go_wp2_with fail
  refine (HK.out _).mono ?_
  rintro e w1 ⟨rfl, b1⟩
  have hr : w1.heap[w.heap.size]? = some (.cells #[.int .i64 0, .int .i64 0, .slice none 0 0, .slice none 0 0, .slice none 0 0] 30 (0, 0)) := box_row b1
  obtain ⟨r0, r1, r2, r3, r4, rf⟩ := row5 hr
  have f0 := rf 0
  have f1 := rf 1
  have f2 := rf 2
  have f3 := rf 3
  have f4 := rf 4
  obtain ⟨s0, s1, s2, s3, s4, sf⟩ := box_later hr
  have B1 := hide' (Below.on (HA.out _) b1)
  have hlt : w.heap.size < w1.heap.size := (Array.getElem?_eq_some_iff.1 hr).1
  have Hr := hide' hr
  clear b1 rf hr
  go_wp2_with fail
  have hfin := box_later (set5_heap (j := 0) (.int .i64 0) (.int .i64 0) (.slice none 0 0) (.slice none 0 0) (.slice none 0 0) Hr.out)
  simp only [set5, Nat.zero_add] at hfin
  obtain ⟨y0, y1, y2, y3, y4, _⟩ := hfin
  refine bodyPost_ret (v := .agg #[.int .i64 0, .int .i64 0, .slice none 0 0, .slice none 0 0, .slice none 0 0]) (by simp [results, Try.results32, go_sem, y0, y1, y2, y3, y4]) rfl ?_
  refine ⟨rfl, ?_⟩
  have hz := B1.out.size
  have hg := set5_grown w1 w.heap.size 0 (.int .i64 0) (.int .i64 0) (.slice none 0 0) (.slice none 0 0) (.slice none 0 0)
  have hB := B1.out.grown hg hz (by intro j hj; simp at hj; omega)
  have hs5 := set5_size w1 w.heap.size 0 (.int .i64 0) (.int .i64 0) (.slice none 0 0) (.slice none 0 0) (.slice none 0 0)
  exact hB.alloc (by omega) _

set_option maxHeartbeats 3200000 in
set_option maxRecDepth 100000 in
theorem valueOf_unknownPart  (w : World) : Calls Try.prog 32 #[.iface 87 (.agg #[])] w fun e w' => e = .returned (.agg #[.int .i64 6, .int .i64 0, .slice none 0 0, .slice none 0 0, .slice none 0 0]) ∧ Below w.heap.size w w' := by
  have m1 := meth_unknownPart (.agg #[])
  have t1 := nobool_unknownPart (.agg #[])
  have t2 := noint_unknownPart (.agg #[])
  have t3 := notext_unknownPart (.agg #[])
  have t4 := nolist_unknownPart (.agg #[])
  have t5 := nomap_unknownPart (.agg #[])
  have HK := hide' (kind_unknownPart)
  have HA : Hid (∀ o : Obj, Below w.heap.size w (w.alloc o)) := fun o => (Below.refl _ _).alloc (Nat.le_refl _) o
  go_enter Try.func32, Try.ntmps32
  go_wp2_with fail
  refine (HK.out _).mono ?_
  rintro e w1 ⟨rfl, b1⟩
  have hr : w1.heap[w.heap.size]? = some (.cells #[.int .i64 0, .int .i64 0, .slice none 0 0, .slice none 0 0, .slice none 0 0] 30 (0, 0)) := box_row b1
  obtain ⟨r0, r1, r2, r3, r4, rf⟩ := row5 hr
  have f0 := rf 0
  have f1 := rf 1
  have f2 := rf 2
  have f3 := rf 3
  have f4 := rf 4
  obtain ⟨s0, s1, s2, s3, s4, sf⟩ := box_later hr
  have B1 := hide' (Below.on (HA.out _) b1)
  have hlt : w.heap.size < w1.heap.size := (Array.getElem?_eq_some_iff.1 hr).1
  have Hr := hide' hr
  clear b1 rf hr
  go_wp2_with fail
  have hfin := box_later (set5_heap (j := 0) (.int .i64 6) (.int .i64 0) (.slice none 0 0) (.slice none 0 0) (.slice none 0 0) Hr.out)
  simp only [set5, Nat.zero_add] at hfin
  obtain ⟨y0, y1, y2, y3, y4, _⟩ := hfin
  refine bodyPost_ret (v := .agg #[.int .i64 6, .int .i64 0, .slice none 0 0, .slice none 0 0, .slice none 0 0]) (by simp [results, Try.results32, go_sem, y0, y1, y2, y3, y4]) rfl ?_
  refine ⟨rfl, ?_⟩
  have hz := B1.out.size
  have hg := set5_grown w1 w.heap.size 0 (.int .i64 6) (.int .i64 0) (.slice none 0 0) (.slice none 0 0) (.slice none 0 0)
  have hB := B1.out.grown hg hz (by intro j hj; simp at hj; omega)
  have hs5 := set5_size w1 w.heap.size 0 (.int .i64 6) (.int .i64 0) (.slice none 0 0) (.slice none 0 0) (.slice none 0 0)
  exact hB.alloc (by omega) _

set_option maxHeartbeats 3200000 in
set_option maxRecDepth 100000 in
theorem valueOf_boolPart (n : Int) (w : World) : Calls Try.prog 32 #[.iface 66 (.agg #[.int .i64 n])] w fun e w' => e = .returned (.agg #[.int .i64 1, .int .i64 n, .slice none 0 0, .slice none 0 0, .slice none 0 0]) ∧ Below w.heap.size w w' := by
  have m1 := meth_boolPart (.agg #[.int .i64 n])
  have t1 := is_boolPart (.agg #[.int .i64 n])
  have HK := hide' (kind_boolPart n)
  have HA : Hid (∀ o : Obj, Below w.heap.size w (w.alloc o)) := fun o => (Below.refl _ _).alloc (Nat.le_refl _) o
  go_enter Try.func32, Try.ntmps32
  go_wp2_with fail
  refine (HK.out _).mono ?_
  rintro e w1 ⟨rfl, b1⟩
  have hr : w1.heap[w.heap.size]? = some (.cells #[.int .i64 0, .int .i64 0, .slice none 0 0, .slice none 0 0, .slice none 0 0] 30 (0, 0)) := box_row b1
  obtain ⟨r0, r1, r2, r3, r4, rf⟩ := row5 hr
  have f0 := rf 0
  have f1 := rf 1
  have f2 := rf 2
  have f3 := rf 3
  have f4 := rf 4
  obtain ⟨s0, s1, s2, s3, s4, sf⟩ := box_later2 hr
  have B1 := hide' (Below.on (HA.out _) b1)
  have hlt : w.heap.size < w1.heap.size := (Array.getElem?_eq_some_iff.1 hr).1
  have Hr := hide' hr
  clear b1 rf hr
  go_wp2_with fail
  have hfin := box_later2 (set5_heap (j := 0) (.int .i64 1) (.int .i64 n) (.slice none 0 0) (.slice none 0 0) (.slice none 0 0) Hr.out)
  simp only [set5, Nat.zero_add] at hfin
  obtain ⟨y0, y1, y2, y3, y4, _⟩ := hfin
  refine bodyPost_ret (v := .agg #[.int .i64 1, .int .i64 n, .slice none 0 0, .slice none 0 0, .slice none 0 0]) (by simp [results, Try.results32, go_sem, y0, y1, y2, y3, y4]) rfl ?_
  refine ⟨rfl, ?_⟩
  have hz := B1.out.size
  have hg := set5_grown w1 w.heap.size 0 (.int .i64 1) (.int .i64 n) (.slice none 0 0) (.slice none 0 0) (.slice none 0 0)
  have hB := B1.out.grown hg hz (by intro j hj; simp at hj; omega)
  have hs5 := set5_size w1 w.heap.size 0 (.int .i64 1) (.int .i64 n) (.slice none 0 0) (.slice none 0 0) (.slice none 0 0)
  exact (hB.alloc (by omega) _).alloc (by simp; omega) _

set_option maxHeartbeats 3200000 in
set_option maxRecDepth 100000 in
theorem valueOf_intPart (n : Int) (w : World) : Calls Try.prog 32 #[.iface 67 (.agg #[.int .i64 n])] w fun e w' => e = .returned (.agg #[.int .i64 2, .int .i64 n, .slice none 0 0, .slice none 0 0, .slice none 0 0]) ∧ Below w.heap.size w w' := by
  have m1 := meth_intPart (.agg #[.int .i64 n])
  have t1 := nobool_intPart (.agg #[.int .i64 n])
  have t2 := is_intPart (.agg #[.int .i64 n])
  have HK := hide' (kind_intPart n)
  have HA : Hid (∀ o : Obj, Below w.heap.size w (w.alloc o)) := fun o => (Below.refl _ _).alloc (Nat.le_refl _) o
  go_enter Try.func32, Try.ntmps32
  go_wp2_with fail
  refine (HK.out _).mono ?_
  rintro e w1 ⟨rfl, b1⟩
  have hr : w1.heap[w.heap.size]? = some (.cells #[.int .i64 0, .int .i64 0, .slice none 0 0, .slice none 0 0, .slice none 0 0] 30 (0, 0)) := box_row b1
  obtain ⟨r0, r1, r2, r3, r4, rf⟩ := row5 hr
  have f0 := rf 0
  have f1 := rf 1
  have f2 := rf 2
  have f3 := rf 3
  have f4 := rf 4
  obtain ⟨s0, s1, s2, s3, s4, sf⟩ := box_later2 hr
  have B1 := hide' (Below.on (HA.out _) b1)
  have hlt : w.heap.size < w1.heap.size := (Array.getElem?_eq_some_iff.1 hr).1
  have Hr := hide' hr
  clear b1 rf hr
  go_wp2_with fail
  have hfin := box_later2 (set5_heap (j := 0) (.int .i64 2) (.int .i64 n) (.slice none 0 0) (.slice none 0 0) (.slice none 0 0) Hr.out)
  simp only [set5, Nat.zero_add] at hfin
  obtain ⟨y0, y1, y2, y3, y4, _⟩ := hfin
  refine bodyPost_ret (v := .agg #[.int .i64 2, .int .i64 n, .slice none 0 0, .slice none 0 0, .slice none 0 0]) (by simp [results, Try.results32, go_sem, y0, y1, y2, y3, y4]) rfl ?_
  refine ⟨rfl, ?_⟩
  have hz := B1.out.size
  have hg := set5_grown w1 w.heap.size 0 (.int .i64 2) (.int .i64 n) (.slice none 0 0) (.slice none 0 0) (.slice none 0 0)
  have hB := B1.out.grown hg hz (by intro j hj; simp at hj; omega)
  have hs5 := set5_size w1 w.heap.size 0 (.int .i64 2) (.int .i64 n) (.slice none 0 0) (.slice none 0 0) (.slice none 0 0)
  exact (hB.alloc (by omega) _).alloc (by simp; omega) _

end Go.Proofs.Ytbeekbkambkgoaa
/-
  A string of bytes as cells; 'append(out, s...)' of a string.
-/
namespace Go.Proofs.Ytbeekbkambkgoaa
open Go.RowKit
set_option linter.unusedVariables false

theorem strCells_of {xs : List Int} (h : ∀ x ∈ xs, Byt x) : Lib.strCells (strOf xs) = cellsOf xs := by
  show (u8s xs).map (fun b => Value.int .u8 (b.toNat : Int)) = _
  unfold u8s cellsOf
  rw [List.map_map]
  refine List.map_congr_left fun x hx => ?_
  have hb := h x hx
  unfold Byt at hb
  simp
  omega

theorem size_strOf (xs : List Int) : (strOf xs).size = xs.length := by simp [strOf, ByteArray.size]

/-- 'append(out, s...)', out nil or the call's own, s a string: what is owned grows by the bytes of s. -/
theorem wpList_append_text {w : World} {ops : Array Oper} {rest : List Oper} {o : Oper} {a : Act} {Q : Exit → Act → World → Prop} (hgd : o.guard = none) (s x : Operand) (t : TypeId)
    (ho : o.op = .call { callee := .builtin .append, args := #[s, x], argTypes := #[22, t] }) (ht : Try.prog.underlying t = some .string)
    (base : Nat) (v : Value) (xs ys : List Int) (hs : a.eval s = v) (hB : Bts w base v xs) (sx : ByteArray) (hsx : sx = strOf ys) (hy : ∀ y ∈ ys, Byt y) (hx : a.eval x = .string sx)
    (hlen : xs.length + ys.length ≤ 1099511627776) (hbase : base ≤ w.heap.size)
    (h : ∀ v' w', Bts w' base v' (xs ++ ys) → w.grownBy w' v.ownBlock → wpList Try.prog ops Q rest (a.put o.dst v') w') : wpList Try.prog ops Q (o :: rest) a w := by
  obtain ⟨i0, hi, hz0, hz1, hz2⟩ := info_parts info5
  subst hsx
  have hsz := size_strOf ys
  refine Lib.wpList_append_own_string w hgd s x 22 t ho base 5 i0 Try.underlying22 ht hi hz0 hz1 hz2 v xs.length (cellsOf xs) hs hB.2 (strOf ys) hx (by unfold maxLen; omega) (by omega) hbase ?_
  intro v' w' hown hg _
  refine h v' w' ⟨?_, ?_⟩ hg
  · intro z hz
    rcases List.mem_append.1 hz with h1 | h1
    · exact hB.1 z h1
    · exact hy z h1
  · rw [strCells_of hy, hsz, ← cellsOf_append] at hown
    rw [List.length_append]
    exact hown

end Go.Proofs.Ytbeekbkambkgoaa
/-
  valueOf of the program at a text.
-/
namespace Go.Proofs.Ytbeekbkambkgoaa
open Go.RowKit Go.Shelf
set_option linter.unusedVariables false
set_option linter.unusedSimpArgs false

/-- After the append: the boxes stand, the row is the call's own. -/
theorem valT_after {w1 w2 : World} {r : Nat} {xs : List Int} {v' : Value} {oV oT : Obj} {n : Nat} {ys : List Value} (hx : ∀ x ∈ xs, Byt x) (hr : w1.heap[r]? = some (.cells #[.int .i64 0, .int .i64 0, .slice none 0 0, .slice none 0 0, .slice none 0 0] 30 (0, 0)))
    (hown : w2.ownsRow (w1.heap.size + 2) 5 1 v' n ys) (hn : n = xs.length) (hys : ys = cellsOf xs) (hg : ((w1.alloc oV).alloc oT).grownBy w2 none) :
    ∃ a cap, v' = .slice a xs.length cap ∧ w2.heap[w1.heap.size]? = some oV ∧ w2.heap[r]? = some (.cells #[.int .i64 0, .int .i64 0, .slice none 0 0, .slice none 0 0, .slice none 0 0] 30 (0, 0)) ∧
      ∃ B, TOwn w2 (.slice a xs.length cap) xs B ∧ (∀ b ∈ B, w1.heap.size + 2 ≤ b ∧ b < w2.heap.size) ∧ Below w1.heap.size w1 w2 ∧ w1.heap.size + 2 ≤ w2.heap.size := by
  subst hn hys
  have hsz : w1.heap.size + 2 ≤ w2.heap.size := by have := hg.size; simp at this; omega
  have hlt := (Array.getElem?_eq_some_iff.1 hr).1
  have hV : w2.heap[w1.heap.size]? = some oV := (hg.block _ (by simp; omega) (by simp)).trans ((Below.heap_alloc _ _ _ (by simp)).trans (MapKept.heap_alloc w1 oV).1)
  have hR := (hg.block r (by simp; omega) (by simp)).trans ((Below.heap_alloc _ _ _ (by simp; omega)).trans ((Below.heap_alloc _ _ _ hlt).trans hr))
  have hB : Below w1.heap.size w1 w2 := (((Below.refl _ w1).alloc (Nat.le_refl _) oV).alloc (by simp) oT).grown hg (by simp; omega) (by simp)
  have hown' := hown
  obtain ⟨hl, ⟨rfl, h0⟩ | ⟨g, cap, cur, rfl, hb, hh, r⟩⟩ := hown
  · have : xs = [] := List.eq_nil_of_length_eq_zero h0
    subst this
    exact ⟨none, 0, rfl, hV, hR, [], ⟨⟨hx, by simp [cellsOf], .inl ⟨rfl, rfl⟩⟩, .inl ⟨rfl, rfl⟩⟩, by simp, hB, hsz⟩
  · exact ⟨some ⟨g, 0, none⟩, cap, rfl, hV, hR, [g], ⟨Bts.free (base := 0) ⟨hx, hl, .inr ⟨g, cap, cur, rfl, Nat.zero_le _, hh, r⟩⟩, .inr ⟨g, cap, rfl, rfl⟩⟩, by intro b hb'; simp at hb'; subst hb'; exact ⟨hb, (Array.getElem?_eq_some_iff.1 hh).1⟩, hB, hsz⟩

set_option maxHeartbeats 3200000 in
set_option maxRecDepth 100000 in
theorem valueOf_textPart (xs : List Int) (hx : ∀ x ∈ xs, Byt x) (hl : xs.length ≤ 64) (w : World) : Calls Try.prog 32 #[.iface 69 (.agg #[.string (strOf xs)])] w fun e w' => ∃ u B, e = .returned (.agg #[.int .i64 3, .int .i64 0, u, .slice none 0 0, .slice none 0 0]) ∧ TOwn w' u xs B ∧ (∀ b ∈ B, w.heap.size ≤ b ∧ b < w'.heap.size) ∧ Below w.heap.size w w' := by
  have hsz : (strOf xs).size = xs.length := size_strOf xs
  have hsc := strCells_of hx
  obtain ⟨i0, hi, hz0, hz1, hz2⟩ := info_parts info5
  generalize strOf xs = sx at *
  have m1 := meth_textPart (.agg #[.string sx])
  have t1 := nobool_textPart (.agg #[.string sx])
  have t2 := noint_textPart (.agg #[.string sx])
  have t3 := is_textPart (.agg #[.string sx])
  have HK := hide' (kind_textPart sx)
  have HA : Hid (∀ o : Obj, Below w.heap.size w (w.alloc o)) := fun o => (Below.refl _ _).alloc (Nat.le_refl _) o
  go_enter Try.func32, Try.ntmps32
  go_wp2_with fail
  refine (HK.out _).mono ?_
  rintro e w1 ⟨rfl, b1⟩
  have hr : w1.heap[w.heap.size]? = some (.cells #[.int .i64 0, .int .i64 0, .slice none 0 0, .slice none 0 0, .slice none 0 0] 30 (0, 0)) := box_row b1
  have B1 := hide' (Below.on (HA.out _) b1)
  have hlt : w.heap.size < w1.heap.size := (Array.getElem?_eq_some_iff.1 hr).1
  have hne : ¬ w.heap.size = w1.heap.size := by omega
  have hne' : ¬ w1.heap.size = w.heap.size := by omega
  have Hr := hide' hr
  clear b1 hr
  go_wp2_with (at_builtin; refine Lib.wpList_append_own_string _ rfl _ _ 22 9 rfl (w1.heap.size + 2) 5 i0 Try.underlying22 Try.underlying9 hi hz0 hz1 hz2 _ 0 [] rfl ⟨rfl, .inl ⟨rfl, rfl⟩⟩ sx rfl (by unfold maxLen; omega) (by omega) (by simp) ?_; intro v' w2 hown hg hnil; obtain ⟨a, cap, hv', hV, hR, B, hT, hBs, hB2, hsz2⟩ := valT_after hx Hr.out hown (by rw [Nat.zero_add]; exact hsz) (by rw [List.nil_append]; exact hsc) hg; clear hown hg hnil; subst hv'; obtain ⟨c0, c1, c2, c3, c4, cf⟩ := row5 hV; have cf2 := cf 2; obtain ⟨r0, r1, r2, r3, r4, rf⟩ := row5 hR; have f0 := rf 0; have f1 := rf 1; have f2 := rf 2; have f3 := rf 3; have f4 := rf 4; replace hV := hide' hV; replace hR := hide' hR; replace hT := hide' hT; replace hBs := hide' hBs; replace hB2 := hide' hB2; clear rf cf)
  have hR3 : (w2.setCell ⟨w1.heap.size, 2, none⟩ (.slice a xs.length cap)).heap[w.heap.size]? = _ := (Below.heap_setCell w2 ⟨w1.heap.size, 2, none⟩ (.slice a xs.length cap) w.heap.size hne).trans hR.out
  have hrow := set5_heap (j := 0) (.int .i64 3) (.int .i64 0) (.slice a xs.length cap) (.slice none 0 0) (.slice none 0 0) hR3
  have hfin := row5 hrow
  simp only [set5, Nat.zero_add] at hfin
  obtain ⟨y0, y1, y2, y3, y4, _⟩ := hfin
  refine bodyPost_ret (v := .agg #[.int .i64 3, .int .i64 0, .slice a xs.length cap, .slice none 0 0, .slice none 0 0]) (by simp [results, Try.results32, go_sem, y0, y1, y2, y3, y4]) rfl ?_
  have hA := grown1 w2 w1.heap.size 2 (.slice a xs.length cap)
  have hsz3 : (w2.setCell ⟨w1.heap.size, 2, none⟩ (.slice a xs.length cap)).heap.size = w2.heap.size := by simp [World.setCell]
  have hB5 := set5_grown (w2.setCell ⟨w1.heap.size, 2, none⟩ (.slice a xs.length cap)) w.heap.size 0 (.int .i64 3) (.int .i64 0) (.slice a xs.length cap) (.slice none 0 0) (.slice none 0 0)
  have hsz4 := set5_size (w2.setCell ⟨w1.heap.size, 2, none⟩ (.slice a xs.length cap)) w.heap.size 0 (.int .i64 3) (.int .i64 0) (.slice a xs.length cap) (.slice none 0 0) (.slice none 0 0)
  have hBn := Below.on B1.out hB2.out
  have hBf := (hBn.grown hA (by omega) (by intro j hj; simp at hj; omega)).grown hB5 (by omega) (by intro j hj; simp at hj; omega)
  refine ⟨_, B, rfl, hT.out.agree fun b h => ?_, fun b h => ?_, hBf⟩
  · have hb := hBs.out b h
    exact (hB5.block b (by omega) (by simp; omega)).trans (hA.block b (by omega) (by simp; omega))
  · have hb := hBs.out b h
    show w.heap.size ≤ b ∧ b < (set5 _ _ _ _ _ _ _ _).heap.size
    omega
end Go.Proofs.Ytbeekbkambkgoaa
/-
  A row that is being appended to, each of its items in blocks of its own.
-/
namespace Go.Proofs.Ytbeekbkambkgoaa
open Go.RowKit
set_option linter.unusedVariables false
set_option linter.unusedSimpArgs false

theorem flatten_at (s : Nat) : ∀ (cs : List (List Value)), (∀ c ∈ cs, c.length = s) → ∀ i, i < cs.length → ∀ j, j < s → cs.flatten[i * s + j]? = (cs.getD i [])[j]? := by
  intro cs
  induction cs with
  | nil => intro _ i hi; simp at hi
  | cons c cs ih =>
    intro hl i hi j hj
    have hc := hl c (by simp)
    rw [List.flatten_cons]
    cases i with
    | zero => rw [List.getElem?_append_left (by omega)]; simp
    | succ i =>
      have hge : s ≤ (i + 1) * s + j := by rw [Nat.add_mul, Nat.one_mul]; omega
      rw [List.getElem?_append_right (by omega), hc]
      have he : (i + 1) * s + j - s = i * s + j := by rw [Nat.add_mul, Nat.one_mul]; omega
      rw [he, ih (fun c' h => hl c' (by simp [h])) i (by simpa using hi) j hj]
      simp

/-- A row of n items that lies from block 'base' on; item i has the cells cs[i], and what it reaches lies in the blocks Bi[i]. -/
def RW (T : TypeId) (s : Nat) (It : World → Nat → List Value → List Nat → Prop) (w : World) (base : Nat) (x : Value) (n : Nat) (cs : List (List Value)) (Bi : List (List Nat)) : Prop :=
  cs.length = n ∧ Bi.length = n ∧ w.ownsRow base T s x n cs.flatten ∧ (∀ i, i < n → It w i (cs.getD i []) (Bi.getD i [])) ∧ (x.ownBlock.toList ++ Bi.flatten).Nodup ∧ ∀ b ∈ x.ownBlock.toList ++ Bi.flatten, base ≤ b ∧ b < w.heap.size

theorem RW.nil (T : TypeId) (s : Nat) (It : World → Nat → List Value → List Nat → Prop) (w : World) (base : Nat) : RW T s It w base (.slice none 0 0) 0 [] [] :=
  ⟨rfl, rfl, ⟨by simp, .inl ⟨rfl, rfl⟩⟩, fun i hi => by omega, by simp [Value.ownBlock], by simp [Value.ownBlock]⟩

theorem mem_flat {Bi : List (List Nat)} {i b : Nat} (h : b ∈ Bi.getD i []) : b ∈ Bi.flatten := by
  rw [List.getD_eq_getElem?_getD] at h
  cases hi : Bi[i]? with
  | none => rw [hi] at h; simp at h
  | some l => rw [hi] at h; exact List.mem_flatten.2 ⟨l, List.mem_of_getElem? hi, h⟩

/-- It stands where its blocks do. -/
theorem RW.agree {T : TypeId} {s : Nat} {It : World → Nat → List Value → List Nat → Prop} (hIt : ∀ w w' i c B, It w i c B → Agree (fun b => b ∈ B) w w' → It w' i c B) {w w' : World} {base : Nat} {x : Value} {n : Nat} {cs : List (List Value)} {Bi : List (List Nat)}
    (h : RW T s It w base x n cs Bi) (ha : Agree (fun b => b ∈ x.ownBlock.toList ++ Bi.flatten) w w') (hz : w.heap.size ≤ w'.heap.size) : RW T s It w' base x n cs Bi := by
  obtain ⟨h1, h2, h3, h4, h5, h6⟩ := h
  refine ⟨h1, h2, ⟨h3.1, ?_⟩, fun i hi => hIt _ _ _ _ _ (h4 i hi) fun b hb => ha b (by simp only [List.mem_append]; exact .inr (mem_flat hb)), h5, fun b hb => ⟨(h6 b hb).1, Nat.lt_of_lt_of_le (h6 b hb).2 hz⟩⟩
  rcases h3.2 with h0 | ⟨g, cap, cur, rfl, hb, hh, r⟩
  · exact .inl h0
  · exact .inr ⟨g, cap, cur, rfl, hb, (ha g (by simp [Value.ownBlock])).trans hh, r⟩

/-- One item more. -/
theorem RW.add {T : TypeId} {s : Nat} {It : World → Nat → List Value → List Nat → Prop} (hIt : ∀ w w' i c B, It w i c B → Agree (fun b => b ∈ B) w w' → It w' i c B) {w w2 w3 : World} {base : Nat} {x : Value} {n : Nat} {cs : List (List Value)} {Bi : List (List Nat)} {c : List Value} {Bv : List Nat} {g cap : Nat}
    (h : RW T s It w base x n cs Bi) (ha : ∀ b, b < w.heap.size → w2.heap[b]? = w.heap[b]?) (hz : w.heap.size ≤ w2.heap.size) (hc : It w2 n c Bv) (hBv : ∀ b ∈ Bv, w.heap.size ≤ b ∧ b < w2.heap.size) (hBn : Bv.Nodup) (hbase : base ≤ w.heap.size)
    (hown : w3.ownsRow base T s (.slice (some ⟨g, 0, none⟩) (n + 1) cap) (n + 1) (cs.flatten ++ c)) (hg : w2.grownBy w3 x.ownBlock) (hat : x.ownBlock = some g ∨ g = w2.heap.size) :
    RW T s It w3 base (.slice (some ⟨g, 0, none⟩) (n + 1) cap) (n + 1) (cs ++ [c]) (Bi ++ [Bv]) := by
  obtain ⟨h1, h2, h3, h4, h5, h6⟩ := h
  have hlt := hown.lt g rfl
  have hsz := hg.size
  have hfl : ∀ b ∈ Bi.flatten, base ≤ b ∧ b < w.heap.size := fun b hb => h6 b (by simp only [List.mem_append]; exact .inr hb)
  have hdis : ∀ b ∈ Bi.flatten, x.ownBlock ≠ some b := by
    intro b hb hx
    rw [hx] at h5
    simp only [Option.toList_some, List.nodup_append] at h5
    exact h5.2.2 b (by simp) b hb rfl
  have hxb : ∀ b, x.ownBlock = some b → b < w.heap.size := fun b hb => (h3.lt b hb).2
  refine ⟨by simp [h1], by simp [h2], by simpa using hown, fun i hi => ?_, ?_, ?_⟩
  · by_cases hin : i < n
    · have e1 : (cs ++ [c]).getD i [] = cs.getD i [] := by simp [List.getD_eq_getElem?_getD, List.getElem?_append_left (show i < cs.length by omega)]
      have e2 : (Bi ++ [Bv]).getD i [] = Bi.getD i [] := by simp [List.getD_eq_getElem?_getD, List.getElem?_append_left (show i < Bi.length by omega)]
      rw [e1, e2]
      refine hIt _ _ _ _ _ (h4 i hin) fun b hb => ?_
      have hm := mem_flat hb
      have hb' := hfl b hm
      exact (hg.block b (by omega) (fun e => hdis b hm e.symm)).trans (ha b hb'.2)
    · have hin' : i = n := by omega
      subst hin'
      have e1 : (cs ++ [c]).getD i [] = c := by rw [← h1]; simp [List.getD_eq_getElem?_getD]
      have e2 : (Bi ++ [Bv]).getD i [] = Bv := by rw [← h2]; simp [List.getD_eq_getElem?_getD]
      rw [e1, e2]
      refine hIt _ _ _ _ _ hc fun b hb => ?_
      have hb' := hBv b hb
      exact hg.block b hb'.2 (fun e => by have := hxb b e.symm; omega)
  · have hmid : (Bi.flatten ++ Bv).Nodup := by
      rw [List.nodup_append]
      refine ⟨(List.nodup_append.1 h5).2.1, hBn, fun a ha' b hb' => ?_⟩
      have := hfl a ha'
      have := hBv b hb'
      omega
    have hgn : g ∉ Bi.flatten ++ Bv := by
      intro hm
      rcases hat with hx | hx
      · rcases List.mem_append.1 hm with h' | h'
        · exact hdis g h' hx
        · have := hBv g h'
          have := hxb g hx
          omega
      · rcases List.mem_append.1 hm with h' | h'
        · have := hfl g h'; omega
        · have := hBv g h'; omega
    simp only [Value.ownBlock, Option.toList_some, List.flatten_append, List.flatten_singleton, List.singleton_append]
    exact List.nodup_cons.2 ⟨hgn, hmid⟩
  · intro b hb
    simp only [Value.ownBlock, Option.toList_some, List.flatten_append, List.flatten_singleton, List.singleton_append, List.mem_cons, List.mem_append] at hb
    rcases hb with rfl | hb | hb
    · exact hlt
    · have := hfl b hb; omega
    · have := hBv b hb; omega

/-- A value's five cells. -/
def enc5 (e : Value × Value × Value × Value × Value) : List Value := [e.1, e.2.1, e.2.2.1, e.2.2.2.1, e.2.2.2.2]

/-- Item i is the value l[i]. -/
def ItV (d : Nat) (l : List (Vl d)) (w : World) (i : Nat) (c : List Value) (B : List Nat) : Prop := ∃ e, c = enc5 e ∧ ∃ h : i < l.length, VOwn w d e l[i] B

/-- Item i is the text ks[i]. -/
def ItK (ks : List (List Int)) (w : World) (i : Nat) (c : List Value) (B : List Nat) : Prop := ∃ u, c = [u] ∧ TOwn w u (ks.getD i []) B

theorem ItV.agree (d : Nat) (l : List (Vl d)) : ∀ w w' i c B, ItV d l w i c B → Agree (fun b => b ∈ B) w w' → ItV d l w' i c B := by
  rintro w w' i c B ⟨e, rfl, h, hv⟩ ha
  exact ⟨e, rfl, h, VOwn.agree d hv ha⟩

theorem ItK.agree (ks : List (List Int)) : ∀ w w' i c B, ItK ks w i c B → Agree (fun b => b ∈ B) w w' → ItK ks w' i c B := by
  rintro w w' i c B ⟨u, rfl, hv⟩ ha
  exact ⟨u, rfl, hv.agree ha⟩

theorem getD_of_mem {α : Type} {cs : List α} {c z : α} (h : c ∈ cs) : ∃ i, i < cs.length ∧ cs.getD i z = c := by
  obtain ⟨i, hi, e⟩ := List.getElem_of_mem h
  exact ⟨i, hi, by simp [List.getD_eq_getElem?_getD, hi, e]⟩

/-- All of it: a list of values of the call's own. -/
theorem RW.lown {w : World} {base d : Nat} {x : Value} {l : List (Vl d)} {cs : List (List Value)} {Bi : List (List Nat)} (h : RW 30 5 (ItV d l) w base x l.length cs Bi) : LOwn w d x l (x.ownBlock.toList ++ Bi.flatten) := by
  obtain ⟨h1, h2, h3, h4, h5, h6⟩ := h
  have hl5 : ∀ c ∈ cs, c.length = 5 := by
    intro c hc
    obtain ⟨i, hi, e⟩ := getD_of_mem (z := []) hc
    obtain ⟨e', he, _⟩ := h4 i (by omega)
    rw [← e, he]
    rfl
  rcases h3.2 with ⟨rfl, h0⟩ | ⟨g, cap, cur, rfl, hb, hh, hn, hm, hs, ht⟩
  · have hl0 : l = [] := List.eq_nil_of_length_eq_zero h0
    have hb0 : Bi = [] := List.eq_nil_of_length_eq_zero (by omega)
    subst hl0 hb0
    exact .inl ⟨rfl, rfl, rfl⟩
  · refine .inr ⟨g, cap, cur, Bi, rfl, hh, hn, hm, hs, h2, fun i hi => ?_, rfl, h5⟩
    obtain ⟨e, he, _, hv⟩ := h4 i hi
    have hcell : ∀ j, j < 5 → cur[i * 5 + j]? = (enc5 e)[j]? := by
      intro j hj
      have hf := flatten_at 5 cs hl5 i (by omega) j hj
      rw [he, ← ht, List.getElem?_take_of_lt (by omega), Array.getElem?_toList] at hf
      exact hf
    exact ⟨e, ⟨hcell 0 (by omega), hcell 1 (by omega), hcell 2 (by omega), hcell 3 (by omega), hcell 4 (by omega)⟩, hv⟩

/-- All of it: a list of texts of the call's own. -/
theorem RW.kown {w : World} {base : Nat} {x : Value} {ks : List (List Int)} {cs : List (List Value)} {Bi : List (List Nat)} (h : RW 22 1 (ItK ks) w base x ks.length cs Bi) : KOwn w x ks (x.ownBlock.toList ++ Bi.flatten) := by
  obtain ⟨h1, h2, h3, h4, h5, h6⟩ := h
  have hl1 : ∀ c ∈ cs, c.length = 1 := by
    intro c hc
    obtain ⟨i, hi, e⟩ := getD_of_mem (z := []) hc
    obtain ⟨e', he, _⟩ := h4 i (by omega)
    rw [← e, he]
    rfl
  rcases h3.2 with ⟨rfl, h0⟩ | ⟨g, cap, cur, rfl, hb, hh, hn, hm, hs, ht⟩
  · have hl0 : ks = [] := List.eq_nil_of_length_eq_zero h0
    have hb0 : Bi = [] := List.eq_nil_of_length_eq_zero (by omega)
    subst hl0 hb0
    exact .inl ⟨rfl, rfl, rfl⟩
  · refine .inr ⟨g, cap, cur, Bi, rfl, hh, hn, hm, by omega, h2, fun i hi => ?_, rfl, h5⟩
    obtain ⟨u, he, hv⟩ := h4 i hi
    have hcell : cur[i]? = some u := by
      have hf := flatten_at 1 cs hl1 i (by omega) 0 (by omega)
      rw [he, ← ht, List.getElem?_take_of_lt (by omega), Array.getElem?_toList] at hf
      simpa using hf
    exact ⟨u, hcell, hv⟩
end Go.Proofs.Ytbeekbkambkgoaa
/-
  takeAll of the program: it takes a list of values in, out of what take does at one.
-/
namespace Go.Proofs.Ytbeekbkambkgoaa
open Go.RowKit
set_option linter.unusedVariables false
set_option linter.unusedSimpArgs false

theorem grownBy_fresh {w w1 w2 : World} {r r' : Option Nat} (h : w.grownBy w1 r) (k : w1.grownBy w2 r') (hr : ∀ j, r' = some j → w.heap.size ≤ j) : w.grownBy w2 r :=
  ⟨k.os.trans h.os, k.tape.trans h.tape, k.output.trans h.output, Nat.le_trans h.size k.size, fun i hi hne => (k.block i (Nat.lt_of_lt_of_le hi h.size) (fun e => by have := hr i e.symm; omega)).trans (h.block i hi hne)⟩

theorem parts_one (d : Nat) (v : Vl d) : 1 ≤ partsV d v := by
  cases d with
  | zero => exact v.elim
  | succ d => exact parts_pos d v

theorem pre_ge (d : Nat) (l : List (Vl d)) (k : Nat) (h : k ≤ l.length) : k ≤ pre (partsV d) l k := by
  induction k with
  | zero => omega
  | succ k ih =>
    have := pre_succ (partsV d) l k (by omega)
    have := parts_one d l[k]
    have := ih (by omega)
    omega

theorem Cnt.keep {w w' : World} {q n : Nat} {r : Option Nat} (h : Cnt w q n) (hg : w.grownBy w' r) (hr : some q ≠ r) : Cnt w' q n :=
  (hg.block q (Array.getElem?_eq_some_iff.1 h).1 hr).trans h

/-- What holds after k rounds of takeAll. -/
def TA (d : Nat) (l : List (Vl d)) (deep n q : Nat) (w wr : World) (k : Nat) (y : Value) (ps : List Value) : Prop :=
  k ≤ l.length ∧ ps.length = k ∧ wr.ownsRow w.heap.size 56 1 y k ps ∧ (∀ j (h : j < l.length), j < k → goodB d l[j] deep = true) ∧ n + pre (partsV d) l k ≤ 40 ∧ Cnt wr q (n + pre (partsV d) l k) ∧
    (∀ j (h : j < l.length), j < k → PSeg (fun b => w.heap.size ≤ b ∧ b < wr.heap.size ∧ some b ≠ y.ownBlock) wr d (ps.getD j .nilIface) l[j]) ∧ w.grownBy wr (some q)

theorem TA_zero {d : Nat} {l : List (Vl d)} {deep n q : Nat} {w : World} (hc : Cnt w q n) (hn : n ≤ 40) : TA d l deep n q w w 0 (.slice none 0 0) [] :=
  ⟨Nat.zero_le _, rfl, World.ownsRow_nil w _ _ _, fun j _ h => by omega, by rw [pre_zero]; omega, by rw [pre_zero]; exact hc, fun j _ h => by omega, World.grownBy.refl _ _⟩

theorem own_ne {w : World} {base e n q : Nat} {y : Value} {xs : List Value} (h : w.ownsRow base e 1 y n xs) (hq : q < base) : some q ≠ y.ownBlock := fun e => by
  have := h.lt q e.symm
  omega

theorem TA_none {d : Nat} {l : List (Vl d)} {deep n q : Nat} {w wr W : World} {k : Nat} {y : Value} {ps : List Value} (h : TA d l deep n q w wr k y ps) (hg : wr.grownBy W none) : TA d l deep n q w W k y ps := by
  obtain ⟨h1, h2, h3, h4, h5, h6, h7, h8⟩ := h
  refine ⟨h1, h2, h3.kept hg ?_, h4, h5, h6.keep hg (by simp), fun j hj hjk => ?_, grownBy_fresh h8 hg (by simp)⟩
  · cases hy : y.ownBlock with
    | none => exact .inl rfl
    | some z => exact .inr (by simp)
  · refine PSeg.carry (fun b hb => ⟨hb.1, Nat.lt_of_lt_of_le hb.2.1 hg.size, hb.2.2⟩) (fun b hb => hg.block b hb.2.1 (by simp)) d (h7 j hj hjk)

/-- Behind take: the same, but for the counter. -/
theorem TA_row {d : Nat} {l : List (Vl d)} {deep n q : Nat} {w wr w1 : World} {k : Nat} {y : Value} {ps : List Value} (h : TA d l deep n q w wr k y ps) (hq : q < w.heap.size) (hg : wr.grownBy w1 (some q)) (o : Obj) : (w1.alloc o).ownsRow w.heap.size 56 1 y k ps := by
  obtain ⟨h1, h2, h3, h4, h5, h6, h7, h8⟩ := h
  have := h3.kept hg (.inr (fun e => own_ne h3 hq e.symm))
  exact this.alloc o

theorem TA_next {d : Nat} {l : List (Vl d)} {deep n q : Nat} {w wr w1 w2 : World} {k : Nat} {y y' p : Value} {ps : List Value} {T : TypeId} (h : TA d l deep n q w wr k y ps) (hq : q < w.heap.size) (hk : k < l.length) (hg : wr.grownBy w1 (some q))
    (ht : Took d l[k] deep (n + pre (partsV d) l k) q wr w1 p) (hown : w2.ownsRow w.heap.size 56 1 y' (k + 1) (ps ++ [p])) (hg2 : (w1.alloc (.cells #[p] T)).grownBy w2 y.ownBlock) (hloc : y'.ownBlock = y.ownBlock ∨ y'.ownBlock = some (w1.alloc (.cells #[p] T)).heap.size) :
    TA d l deep n q w w2 (k + 1) y' (ps ++ [p]) := by
  obtain ⟨h1, h2, h3, h4, h5, h6, h7, h8⟩ := h
  obtain ⟨t1, t2, t3, t4⟩ := ht
  have hps := pre_succ (partsV d) l k hk
  have hal : w1.grownBy (w1.alloc (.cells #[p] T)) none := World.grownBy_alloc w1 _ none
  have hsz : (w1.alloc (.cells #[p] T)).heap.size = w1.heap.size + 1 := by simp
  have hyb : ∀ j, y.ownBlock = some j → w.heap.size ≤ j ∧ j < wr.heap.size := fun j hj => h3.lt j hj
  have hs1 := hg.size
  have hs2 := hg2.size
  have hs8 := h8.size
  refine ⟨hk, by simp [h2], hown, fun j hj hjk => ?_, by rw [hps]; omega, ?_, fun j hj hjk => ?_, ?_⟩
  · by_cases e : j = k
    · subst e; exact t1
    · exact h4 j hj (by omega)
  · rw [hps, ← Nat.add_assoc]
    exact (t3.keep hal (by simp)).keep hg2 (fun e => by have := hyb q e.symm; omega)
  · by_cases e : j = k
    · subst e
      have : (ps ++ [p]).getD j .nilIface = p := by simp [List.getD_eq_getElem?_getD, ← h2]
      rw [this]
      refine PSeg.carry (fun b hb => ⟨by omega, by omega, fun e => ?_⟩) (fun b hb => (hg2.block b (by omega) (fun e => by have := hyb b e.symm; omega)).trans (hal.block b hb.2 (by simp))) d t4
      rcases hloc with e2 | e2
      · have := hyb b (e2.symm.trans e.symm); omega
      · rw [e2] at e; simp at e; omega
    · have hjk' : j < k := by omega
      have : (ps ++ [p]).getD j .nilIface = ps.getD j .nilIface := by
        simp only [List.getD_eq_getElem?_getD]
        rw [List.getElem?_append_left (by omega)]
      rw [this]
      refine PSeg.carry (fun b hb => ⟨hb.1, by omega, fun e => ?_⟩) (fun b hb => (hg2.block b (by omega) hb.2.2).trans ((hal.block b (by omega) (by simp)).trans (hg.block b hb.2.1 (by simp; omega)))) d (h7 j hj hjk')
      rcases hloc with e2 | e2
      · exact hb.2.2 (e.trans e2)
      · rw [e2] at e; simp at e; omega
  · exact grownBy_fresh (grownBy_fresh (grownBy_trans h8 hg) hal (by simp)) hg2 (fun j hj => (hyb j hj).1)

/-- What a good takeAll has brought about. -/
def TookAll (d : Nat) (l : List (Vl d)) (deep n q : Nat) (w w' : World) (y : Value) : Prop :=
  (∀ j (h : j < l.length), goodB d l[j] deep = true) ∧ n + pre (partsV d) l l.length ≤ 40 ∧ Cnt w' q (n + pre (partsV d) l l.length) ∧
    ∃ (a : Option Addr) (cap : Nat) (ps : List Value), y = .slice a l.length cap ∧ (l = [] ∨ ∃ b, a = some ⟨b, 0, none⟩ ∧ w.heap.size ≤ b ∧ b < w'.heap.size ∧ ∀ i, i < l.length → w'.cell? ⟨b, i, none⟩ = some (ps.getD i .nilIface)) ∧ ∀ i (h : i < l.length), PSeg (fun b => w.heap.size ≤ b ∧ b < w'.heap.size) w' d (ps.getD i .nilIface) l[i]

theorem TA_end {d : Nat} {l : List (Vl d)} {deep n q : Nat} {w wr : World} {y : Value} {ps : List Value} (h : TA d l deep n q w wr l.length y ps) : TookAll d l deep n q w wr y := by
  obtain ⟨h1, h2, h3, h4, h5, h6, h7, h8⟩ := h
  have hcell := fun g (hg : y.ownBlock = some g) => h3.lt g hg
  refine ⟨fun j hj => h4 j hj hj, h5, h6, ?_⟩
  have h3' := h3
  rcases h3.2 with ⟨rfl, e0⟩ | ⟨g, cap, cur, rfl, hg, hh, hle, hm, hsz, htk⟩
  · exact ⟨none, 0, ps, by rw [e0], .inl (List.eq_nil_of_length_eq_zero e0), fun i hi => by omega⟩
  · refine ⟨some ⟨g, 0, none⟩, cap, ps, rfl, .inr ⟨g, rfl, hg, (Array.getElem?_eq_some_iff.1 hh).1, fun i hi => ?_⟩, fun i hi => PSeg.carry (fun b hb => ⟨hb.1, hb.2.1⟩) (fun b _ => rfl) d (h7 i hi hi)⟩
    have := World.ownsRow.cellAt h3' i (by omega)
    rw [this]
    simp [List.getD_eq_getElem?_getD, show i < ps.length from by omega]

end Go.Proofs.Ytbeekbkambkgoaa
/-
  takeAll of the program, walked.
-/
namespace Go.Proofs.Ytbeekbkambkgoaa
open Go.RowKit
set_option linter.unusedVariables false
set_option linter.unusedSimpArgs false

theorem PSeg.shape {R : Nat → Prop} {w : World} {d : Nat} {p : Value} {v : Vl d} (h : PSeg R w d p v) : ∃ t x, p = .iface t x := by
  cases d with
  | zero => exact h.elim
  | succ d =>
    rcases h with ⟨_, rfl⟩ | ⟨_, rfl⟩ | ⟨_, rfl⟩ | ⟨_, rfl⟩ | ⟨_, rfl⟩ | ⟨_, _, _, rfl, _⟩ | ⟨_, _, _, rfl, _⟩ <;> exact ⟨_, _, rfl⟩

set_option maxHeartbeats 4000000 in
theorem takeAll_of (d : Nat) (ih : TakeAt d) (N q n : Nat) (x : Value) (l : List (Vl d)) (deep : Nat) (w : World) (hx : LSeg (fun b => b < N) w d x l) (hNq : N ≤ q) (hq : q < w.heap.size) (hc : Cnt w q n) (hn : n ≤ 40) (hd : deep ≤ 6) :
    Calls Try.prog 49 #[.pointer (some ⟨q, 0, none⟩), x, .int .i64 deep] w fun e w' =>
      w.grownBy w' (some q) ∧ ((∃ y, e = .returned (.tuple #[y, .bool true]) ∧ TookAll d l deep n q w w' y) ∨ (e = .returned (.tuple #[.slice none 0 0, .bool false]) ∧ ¬ ((∀ j (h : j < l.length), goodB d l[j] deep = true) ∧ n + pre (partsV d) l l.length ≤ 40))) := by
  have HX := hide' hx
  obtain ⟨a4, p4, rfl, hlc, hcm, ka, _⟩ := hx
  unfold maxLen at hcm
  have HI := hide' ih
  have H0 : Hid (TA d l deep n q w w 0 (.slice none 0 0) []) := TA_zero hc hn
  obtain ⟨i0, hi, hz0, hz1, hz2⟩ := info_parts info_part
  clear ih hc
  go_enter Try.func49, Try.ntmps49
  go_wp2
  go_loopw [8, 15] (fun y i wr => ∃ (k : Nat) (ps : List Value), i = .int .i64 k ∧ TA d l deep n q w wr k y ps) (fun _ i _ => l.length - (intOf i).toNat)
  case atStart => exact ⟨0, [], rfl, H0.out⟩
  case round =>
    obtain ⟨k, ps, rfl, hT⟩ := hrel
    have HT := hide' hT
    obtain ⟨hk, hps, hown, hgood, hple, hcnt, hpseg, hgr⟩ := hT
    clear hgood hpseg hcnt
    by_cases hlt : k < l.length
    · have hlt' : (k : Int) < (l.length : Int) := by omega
      have hag := agree_grown hgr hNq hq
      have hcell : ∃ b off c, a4 = some ⟨b, off, none⟩ ∧ Five wr b (off + k * 5) c ∧ VSeg (fun b => b < N) wr d c (l[k]) := by
        obtain ⟨a', cap', e1, _, _, _, h5⟩ := HX.out
        simp only [Value.slice.injEq] at e1
        obtain ⟨rfl, _, _⟩ := e1
        rcases h5 with h0 | ⟨b, off, rfl, hR, hcc⟩
        · rw [h0] at hlt; simp at hlt
        · obtain ⟨c, h5, hv⟩ := hcc k hlt
          exact ⟨b, off, c, rfl, h5.agree hag hR, VSeg.agree hag d hv⟩
      obtain ⟨b, off, c, rfl, h5', hv⟩ := hcell
      obtain ⟨c0, c1, c2, c3, c4⟩ := c
      obtain ⟨q0, q1, q2, q3, q4⟩ := h5'
      simp only at q0 q1 q2 q3 q4
      have HV := hide' hv
      have hs := hgr.size
      obtain ⟨ck, cn, s2, l2, e2, s3, l3, e3, s4, l4, e4, rfl, rfl, rfl, rfl, rfl⟩ := VSeg.form d hv
      have hgW := World.grownBy_alloc wr (.cells #[.int .i64 ck, .int .i64 cn, .slice s2 l2 e2, .slice s3 l3 e3, .slice s4 l4 e4] 30) none
      have hTW := TA_none HT.out hgW
      have hC := HI.out N q (n + pre (partsV d) l k) _ l[k] deep _ (VSeg.agree (fun b hb => hgW.block b (by omega) (by simp)) d hv) hNq (by simp; omega) hTW.2.2.2.2.2.1 hple hd
      have HC := hide' hC
      have HTW := hide' hTW
      clear hv hag hgr hTW hC hgW
      go_wp2_with fail
      refine HC.out.mono ?_
      rintro e w1 ⟨hg1, hcase⟩
      clear q0 q1 q2 q3 q4
      rcases hcase with ⟨p, rfl, htook⟩ | ⟨rfl, hbad⟩
      · obtain ⟨pt, px, rfl⟩ := htook.2.2.2.shape
        have hrw := TA_row HTW.out hq hg1 (.cells #[.iface pt px] 56)
        have h63 : k + 1 ≤ 40 := by have := pre_ge d l (k + 1) hlt; have := pre_succ (partsV d) l k hlt; have := htook.2.1; omega
        have hs1 := hg1.size
        have hsW := HTW.out.2.2.2.2.2.2.2.size
        have HK := hide' htook
        clear htook hown
        go_wp2_with (at_builtin; refine wpList_append_own_at _ rfl _ _ 70 rfl w.heap.size 56 i0 .nilIface 1 16 Try.underlying70 hi hz0 hz1 hz2 rfl (by decide) _ k ps rfl hrw ⟨w1.heap.size, 0, none⟩ 1 1 [.iface pt px] rfl rfl (cell_one_new _ _ _) (by intro u hu; simp at hu; rw [hu]; rfl) (by unfold maxLen; omega) (by omega) (by simp; omega) ?_; intro y' w2 hown' hg2 hnil hloc)
        have hN := TA_next HTW.out hq hlt hg1 HK.out hown' hg2 hloc
        clear hown' hg2 hnil hloc hrw HK HTW HC
        go_wp2
        go_roundw
        case rel => exact ⟨k + 1, _, by go_num, hN⟩
        case measure => simp [intOf]; omega
      · have hgf := grownBy_trans HTW.out.2.2.2.2.2.2.2 hg1
        have hno : ¬ ((∀ j (h : j < l.length), goodB d l[j] deep = true) ∧ n + pre (partsV d) l l.length ≤ 40) := fun ⟨h1, h2⟩ => hbad ⟨h1 k hlt, by
          have h3 := pre_succ (partsV d) l k hlt
          have h4 := pre_le (partsV d) l (k + 1)
          have h5 := pre_all (partsV d) l
          omega⟩
        go_wp2
        go_ret2
        exact ⟨hgf, .inr ⟨rfl, hno⟩⟩
    · have hkn : k = l.length := by omega
      have hlt' : ¬ (k : Int) < (l.length : Int) := by omega
      rw [hkn] at HT
      have hE := TA_end HT.out
      have hgf := HT.out.2.2.2.2.2.2.2
      clear hkn
      go_wp2
      go_ret2
      exact ⟨hgf, .inl ⟨_, rfl, hE⟩⟩
end Go.Proofs.Ytbeekbkambkgoaa
/-
  A slice of parts, read place by place; no statement is proved here.
-/
namespace Go.Proofs.Ytbeekbkambkgoaa
open Go.RowKit
set_option linter.unusedVariables false

theorem PLSeg.at {R : Nat → Prop} {w : World} {d : Nat} {a : Option Addr} {n cap : Nat} {l : List (Vl d)} (h : PLSeg R w d (.slice a n cap) l) {k : Nat} (hk : k < l.length) : ∃ b off t x, a = some ⟨b, off, none⟩ ∧ R b ∧ w.cell? ⟨b, off + k, none⟩ = some (.iface t x) ∧ PSeg R w d (.iface t x) (l[k]) := by
  obtain ⟨a', cap', e, hc⟩ := h
  simp only [Value.slice.injEq] at e
  obtain ⟨rfl, _, _⟩ := e
  rcases hc with h0 | ⟨b, off, rfl, hR, hc⟩
  · rw [h0] at hk; simp at hk
  · obtain ⟨u, hu, hv⟩ := hc k hk
    obtain ⟨t, x, rfl⟩ := hv.shape
    exact ⟨b, off, t, x, rfl, hR, hu, hv⟩

theorem PLSeg.grow {w w' : World} {d : Nat} {x : Value} {l : List (Vl d)} (h : PLSeg (fun b => b < w.heap.size) w d x l) (hb : Below w.heap.size w w') : PLSeg (fun b => b < w.heap.size) w' d x l := by
  obtain ⟨a, cap, e, hc⟩ := h
  refine ⟨a, cap, e, ?_⟩
  rcases hc with h0 | ⟨b, off, e1, hR, hc⟩
  · exact .inl h0
  · refine .inr ⟨b, off, e1, hR, fun i hi => ?_⟩
    obtain ⟨u, hu, hv⟩ := hc i hi
    exact ⟨u, (cell_agree (agree_below hb) hR).trans hu, PSeg.carry (fun b hb => hb) (agree_below hb) d hv⟩
end Go.Proofs.Ytbeekbkambkgoaa
/-
  What the model holds of the type of values.
-/
namespace Go.Proofs.Ytbeekbkambkgoaa
open Go.RowKit

theorem info_valueT : (Try.prog.info? 30).map (fun i => (i.zero, i.size, i.bytes)) = some (some (.agg #[.int .i64 0, .int .i64 0, .slice none 0 0, .slice none 0 0, .slice none 0 0]), 5, 88) := by kernel_rfl

end Go.Proofs.Ytbeekbkambkgoaa
