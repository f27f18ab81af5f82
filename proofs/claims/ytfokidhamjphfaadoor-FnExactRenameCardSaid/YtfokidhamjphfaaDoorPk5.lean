/-
  Texts that a law leans on, one behind the other; no statement is proved here.
-/
import Derived.Deep.RegionHeld3
import Derived.Test.YtfokidhamjphfaaDoorPk0
import Derived.Deep.RegionLaw
import Derived.Deep.RegionWith
/-
  Regions that draw, walked by hand in the order of the text: the library's 'wpAnyH_take' with the slot said; no statement is proved here. For guarded operations that are not wanted.
-/
namespace Go.Proofs.YtfokidhamjphfaaDoor
set_option linter.unusedVariables false

section
variable {P : Program} {ops : Array Oper} {Q : Exit → Act → World → Prop} {md : Region.Mode} {S : World → Prop}
theorem take_yes {i : Nat} (d : Nat) {oi : Oper} {v : Value} {fuel : Nat} {listed : Array Bool} {a : Act} {w : World} (hi : ops[i]? = some oi) (hd : oi.dst = some d)
    (hs : Region.noSelect ops = true) (hf : Region.free md ops listed i = true) (hr : (Region.ready md ops listed).contains i = true)
    (hQ : ∀ c a w, Q (.panic c) (a.put (some d) v) w → Q (.panic c) a w) (hw : Region.wanted oi (yielded ops a.tmps) = true) (hS : S w)
    (hy : ∀ w, S w → (execOp a.eval oi).run P w = .ok (.value v) w)
    (h : wpAnyH P md ops Q S fuel (listed.setIfInBounds i true) (a.put (some d) v) w) : wpAnyH P md ops Q S (fuel + 1) listed a w :=
  wpAnyH_take hi hs hf hr (by rw [hd]; exact hQ) (Or.inl ⟨hw, hy⟩) hS (by rw [hd]; exact h)
end
end Go.Proofs.YtfokidhamjphfaaDoor
/-
  Rows of bytes of the call's own: an empty one, one byte laid in a block, a nil slice.
-/
namespace Go.Proofs.YtfokidhamjphfaaDoor
open Go.RowKit
set_option linter.unusedVariables false

theorem Bts.alloc {w : World} {base : Nat} {v : Value} {xs : List Int} (h : Bts w base v xs) (o : Obj) : Bts (w.alloc o) base v xs := ⟨h.1, h.2.alloc o⟩

theorem Bts.own {w : World} {base : Nat} {v : Value} {xs : List Int} (h : Bts w base v xs) : ∀ k, v.ownBlock = some k → base ≤ k := fun k hk => (h.2.lt k hk).1

end Go.Proofs.YtfokidhamjphfaaDoor
/-
  'append(own, ys...)' as a step of a region that draws its order.
-/
namespace Go.Proofs.YtfokidhamjphfaaDoor
open Go.RowKit
set_option linter.unusedVariables false
set_option linter.unusedSimpArgs false

end Go.Proofs.YtfokidhamjphfaaDoor
/-
  What the model holds of the type of values.
-/
namespace Go.Proofs.YtfokidhamjphfaaDoor
open Go.RowKit

theorem info_valueT : (Tryd.prog.info? 26).map (fun i => (i.zero, i.size, i.bytes)) = some (some (.agg #[.int .i64 0, .int .i64 0, .slice none 0 0, .slice none 0 0, .slice none 0 0]), 5, 88) := by kernel_rfl

end Go.Proofs.YtfokidhamjphfaaDoor
/-
  Numbers as bytes, plain: what PutNum makes of a number, and what is read back; no Go text here.
-/
namespace Go.Proofs.YtfokidhamjphfaaDoor
set_option linter.unusedVariables false

end Go.Proofs.YtfokidhamjphfaaDoor
