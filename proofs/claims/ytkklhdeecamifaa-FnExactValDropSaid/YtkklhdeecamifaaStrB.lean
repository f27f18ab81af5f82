/-
  A string of bytes as cells; 'append(out, s...)' of a string.
-/
import Derived.Test.YtkklhdeecamifaaStr0
import Derived.Lib.AppendStr
namespace Go.Proofs.Ytkklhdeecamifaa
open Go.RowKit
set_option linter.unusedVariables false

theorem strCells_of {xs : List Int} (h : ∀ x ∈ xs, Byt x) : Lib.strCells (strOf xs) = cellsOf xs := by
  show (u8s xs).map (fun b => Value.int .u8 (b.toNat : Int)) = _
  unfold u8s cellsOf
  rw [List.map_map]
  refine List.map_congr_left fun x hx => ?_
  have hb := h x hx
  unfold Byt at hb
  simp
  omega

theorem size_strOf (xs : List Int) : (strOf xs).size = xs.length := by simp [strOf, ByteArray.size]

/-- 'append(out, s...)', out nil or the call's own, s a string: what is owned grows by the bytes of s. -/
theorem wpList_append_text {w : World} {ops : Array Oper} {rest : List Oper} {o : Oper} {a : Act} {Q : Exit → Act → World → Prop} (hgd : o.guard = none) (s x : Operand) (t : TypeId)
    (ho : o.op = .call { callee := .builtin .append, args := #[s, x], argTypes := #[22, t] }) (ht : Try.prog.underlying t = some .string)
    (base : Nat) (v : Value) (xs ys : List Int) (hs : a.eval s = v) (hB : Bts w base v xs) (sx : ByteArray) (hsx : sx = strOf ys) (hy : ∀ y ∈ ys, Byt y) (hx : a.eval x = .string sx)
    (hlen : xs.length + ys.length ≤ 1099511627776) (hbase : base ≤ w.heap.size)
    (h : ∀ v' w', Bts w' base v' (xs ++ ys) → w.grownBy w' v.ownBlock → wpList Try.prog ops Q rest (a.put o.dst v') w') : wpList Try.prog ops Q (o :: rest) a w := by
  obtain ⟨i0, hi, hz0, hz1, hz2⟩ := info_parts info5
  subst hsx
  have hsz := size_strOf ys
  refine Lib.wpList_append_own_string w hgd s x 22 t ho base 5 i0 Try.underlying22 ht hi hz0 hz1 hz2 v xs.length (cellsOf xs) hs hB.2 (strOf ys) hx (by unfold maxLen; omega) (by omega) hbase ?_
  intro v' w' hown hg _
  refine h v' w' ⟨?_, ?_⟩ hg
  · intro z hz
    rcases List.mem_append.1 hz with h1 | h1
    · exact hB.1 z h1
    · exact hy z h1
  · rw [strCells_of hy, hsz, ← cellsOf_append] at hown
    rw [List.length_append]
    exact hown

end Go.Proofs.Ytkklhdeecamifaa
