/-
  What the row lists of the library's sentinels: they hold something.
-/
import Derived.Test.YthmljjebggljmaaDoorRows
import Derived.Test.YthmljjebggljmaaDoorAdH
import Derived.Stop.LaidErr
import Derived.MakeChecks
namespace Go.Proofs.YthmljjebggljmaaDoor
open Go.RowKit
set_option linter.unusedVariables false
set_option maxRecDepth 100000

theorem err_row (u : TypeId) (nm : String) (he : nm.toList = (42 :: [101, 114, 114, 111, 114, 115, 46, 101, 114, 114, 111, 114, 83, 116, 114, 105, 110, 103]).map Char.ofNat) (h : Tryd.prog.typeName? 3 u = some nm) : u = 102 :=
  typeName_ptr_named (nm := "errors.errorString") (by kernel_rfl) (by kernel_rfl) (by decide) u (h.trans (congrArg some (String.toList_inj.1 (he.trans (by decide)))))

theorem err_of_laid {n : String} {text : List UInt8} {nm : String} {r : List (String × DataW Unit)} {w : World} (he : nm.toList = (42 :: [101, 114, 114, 111, 114, 115, 46, 101, 114, 114, 111, 114, 83, 116, 114, 105, 110, 103]).map Char.ofNat) (hl : laidMet Tryd.prog ((n, .iface nm (.ptr (.agg [.lit (.string text)]))) :: r) w)
    (ht : (Tryd.prog.globalNamed n).bind (fun g => (Tryd.prog.globals[g]?).map (·.type)) = some 47) : ∃ t p, w.var? Tryd.prog n = some #[.iface t p] := by
  cases hg : Tryd.prog.globalNamed n with
  | none => rw [hg] at ht; simp at ht
  | some g =>
    rw [hg] at ht
    obtain ⟨a, s, hv, _⟩ := laid_sentinel hl hg ht Tryd.underlying47 (fun u h => err_row u nm he h) Tryd.underlying102 Tryd.underlying104 rfl rfl Tryd.underlying9 (by kernel_rfl) (by kernel_rfl)
    exact ⟨_, _, hv⟩

theorem errs_of_laid {r : List (String × DataW Unit)} {w : World} (h : laidMet Tryd.prog (("strconv.ErrRange", Rows.laid_strconv_ErrRange) :: ("strconv.ErrSyntax", Rows.laid_strconv_ErrSyntax) :: r) w) : Errs w :=
  ⟨err_of_laid (by decide) h.tail (by kernel_rfl), err_of_laid (by decide) h (by kernel_rfl)⟩
end Go.Proofs.YthmljjebggljmaaDoor
