/-
  What the model holds of the type of values.
-/
import Derived.Test.YtkklhdeecamifaaBase
namespace Go.Proofs.Ytkklhdeecamifaa
open Go.RowKit

theorem info_valueT : (Try.prog.info? 30).map (fun i => (i.zero, i.size, i.bytes)) = some (some (.agg #[.int .i64 0, .int .i64 0, .slice none 0 0, .slice none 0 0, .slice none 0 0]), 5, 88) := by kernel_rfl

end Go.Proofs.Ytkklhdeecamifaa
