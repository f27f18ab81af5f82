/-
  DERIVED: THE SHELF's CONTRACTS AT THIS DUMP, IN PLAIN WORDS (tools/lay-plain.mjs out of 'TryShelf.lean', which tools/lay-shelf.mjs wrote): THE SAME DECLARATIONS UNDER THE SAME NAMES: 'import', 'namespace', 'open', 'def', 'theorem' AND NOTHING ELSE: no command of the shelf's: FOR A HAND-IN. Each laying: the table of numbers ('.._ren') and one theorem, a field a fact of the dump's own or the kernel's comparison; each contract: ONE APPLICATION.
-/
import Derived.Shelf.Small.Bits
import Derived.Shelf.Strconv.Itoa0
import Derived.Ground.GgsProg
import Derived.Shelf.GgSortFunc.Insertion
import Derived.Shelf.GgSortFunc.Small
import Derived.Shelf.GgSortFunc.InsertionK
import Derived.Shelf.GgSortFunc.SmallK
import Derived.Shelf.GgSortFunc.Tiny
import Derived.Shelf.GgSortFunc.Compose
import Derived.Shelf.GgSortFunc.LotD
import Derived.Shelf.SlSortFunc.Xorshift
import Derived.Shelf.SlSortFuncK.ComposeK
import Derived.Shelf.SlSortFuncK.SiftDownK
import Derived.Shelf.SlSortFuncK.HeapSortK
import Derived.Shelf.SlSortFuncK.PartialInsertionK
import Derived.Shelf.SlSortFuncK.LotDK
import Derived.Shelf.SlSortFuncK.PivotK
import Derived.Shelf.SlSortFuncK.PartitionK
import Derived.Shelf.SlSortFuncK.PdqK
import Derived.Shelf.SlSortFuncK.WholeK
import Derived.Test.YtkklhdeecamifaaProg
namespace Go.Proofs
open Go.Shelf
def Try.laysGg6_ren : Go.Shelf.Ren := ⟨fun | 6 => 52 | 10 => 58 | 11 => 59 | 12 => 60 | 13 => 61 | 14 => 62 | 24 => 73 | 25 => 74 | 26 => 75 | 27 => 76 | 28 => 77 | 29 => 78 | 30 => 79 | 31 => 80 | 32 => 81 | 33 => 82 | 34 => 85 | 35 => 86 | 36 => 87 | 37 => 88 | 38 => 89 | 39 => 91 | n => n, fun | 20 => 20 | 26 => 89 | 35 => 98 | 0 => 0 | 37 => 100 | 3 => 3 | 41 => 103 | 44 => 106 | 49 => 112 | 51 => 114 | 4 => 4 | 54 => 117 | 53 => 116 | 58 => 121 | 5 => 5 | 9 => 9 | 60 => 123 | 64 => 127 | 66 => 129 | 67 => 130 | 17 => 17 | 32 => 95 | 33 => 96 | 82 => 145 | 12 => 12 | 75 => 138 | 76 => 139 | 77 => 140 | 78 => 141 | 79 => 142 | 80 => 143 | n => n, fun | n => n⟩
theorem Try.laysGg6 : Go.Proofs.LaysGg.n6 Try.prog Try.laysGg6_ren := {
  mixed := by kernel_rfl
  f6 := Try.func52.trans (congrArg some (by kernel_rfl))
  f10 := Try.func58.trans (congrArg some (by kernel_rfl))
  f11 := Try.func59.trans (congrArg some (by kernel_rfl))
  f12 := Try.func60.trans (congrArg some (by kernel_rfl))
  f13 := Try.func61.trans (congrArg some (by kernel_rfl))
  f14 := Try.func62.trans (congrArg some (by kernel_rfl))
  f24 := Try.func73.trans (congrArg some (by kernel_rfl))
  f25 := Try.func74.trans (congrArg some (by kernel_rfl))
  f26 := Try.func75.trans (congrArg some (by kernel_rfl))
  f27 := Try.func76.trans (congrArg some (by kernel_rfl))
  f28 := Try.func77.trans (congrArg some (by kernel_rfl))
  f29 := Try.func78.trans (congrArg some (by kernel_rfl))
  f30 := Try.func79.trans (congrArg some (by kernel_rfl))
  f31 := Try.func80.trans (congrArg some (by kernel_rfl))
  f32 := Try.func81.trans (congrArg some (by kernel_rfl))
  f33 := Try.func82.trans (congrArg some (by kernel_rfl))
  f34 := Try.func85.trans (congrArg some (by kernel_rfl))
  f35 := Try.func86.trans (congrArg some (by kernel_rfl))
  f36 := Try.func87.trans (congrArg some (by kernel_rfl))
  f37 := Try.func88.trans (congrArg some (by kernel_rfl))
  f38 := Try.func89.trans (congrArg some (by kernel_rfl))
  f39 := Try.func91.trans (congrArg some (by kernel_rfl))
  t0 := Try.underlying0
  a0 := Try.isAgg0
  z0 := Try.sizeOf0
  v0 := Try.zeroValue0
  i0 := by kernel_rfl
  t3 := Try.underlying3
  a3 := Try.isAgg3
  z3 := Try.sizeOf3
  v3 := Try.zeroValue3
  i3 := by kernel_rfl
  t4 := Try.underlying4
  a4 := Try.isAgg4
  z4 := Try.sizeOf4
  v4 := Try.zeroValue4
  i4 := by kernel_rfl
  t5 := Try.underlying5
  a5 := Try.isAgg5
  z5 := Try.sizeOf5
  v5 := Try.zeroValue5
  i5 := by kernel_rfl
  t9 := Try.underlying9
  a9 := Try.isAgg9
  z9 := Try.sizeOf9
  v9 := Try.zeroValue9
  i9 := by kernel_rfl
  t12 := Try.underlying12
  a12 := Try.isAgg12
  z12 := Try.sizeOf12
  v12 := Try.zeroValue12
  i12 := by kernel_rfl
  t17 := Try.underlying17
  a17 := Try.isAgg17
  z17 := Try.sizeOf17
  v17 := Try.zeroValue17
  i17 := by kernel_rfl
  t20 := Try.underlying20
  a20 := Try.isAgg20
  z20 := Try.sizeOf20
  v20 := Try.zeroValue20
  i20 := by kernel_rfl
  t26 := Try.underlying89
  a26 := Try.isAgg89
  z26 := Try.sizeOf89
  v26 := Try.zeroValue89
  i26 := by kernel_rfl
  t32 := Try.underlying95
  a32 := Try.isAgg95
  z32 := Try.sizeOf95
  v32 := Try.zeroValue95
  i32 := by kernel_rfl
  t33 := Try.underlying96
  a33 := Try.isAgg96
  z33 := Try.sizeOf96
  v33 := Try.zeroValue96
  i33 := by kernel_rfl
  t35 := Try.underlying98
  a35 := Try.isAgg98
  z35 := Try.sizeOf98
  v35 := Try.zeroValue98
  i35 := by kernel_rfl
  t37 := Try.underlying100
  a37 := Try.isAgg100
  z37 := Try.sizeOf100
  v37 := Try.zeroValue100
  i37 := by kernel_rfl
  t41 := Try.underlying103
  a41 := Try.isAgg103
  z41 := Try.sizeOf103
  v41 := Try.zeroValue103
  i41 := by kernel_rfl
  t44 := Try.underlying106
  a44 := Try.isAgg106
  z44 := Try.sizeOf106
  v44 := Try.zeroValue106
  i44 := by kernel_rfl
  t49 := Try.underlying112
  a49 := Try.isAgg112
  z49 := Try.sizeOf112
  v49 := Try.zeroValue112
  i49 := by kernel_rfl
  t51 := Try.underlying114
  a51 := Try.isAgg114
  z51 := Try.sizeOf114
  v51 := Try.zeroValue114
  i51 := by kernel_rfl
  t53 := Try.underlying116
  a53 := Try.isAgg116
  z53 := Try.sizeOf116
  v53 := Try.zeroValue116
  i53 := by kernel_rfl
  t54 := Try.underlying117
  a54 := Try.isAgg117
  z54 := Try.sizeOf117
  v54 := Try.zeroValue117
  i54 := by kernel_rfl
  t58 := Try.underlying121
  a58 := Try.isAgg121
  z58 := Try.sizeOf121
  v58 := Try.zeroValue121
  i58 := by kernel_rfl
  t60 := Try.underlying123
  a60 := Try.isAgg123
  z60 := Try.sizeOf123
  v60 := Try.zeroValue123
  i60 := by kernel_rfl
  t64 := Try.underlying127
  a64 := Try.isAgg127
  z64 := Try.sizeOf127
  v64 := Try.zeroValue127
  i64 := by kernel_rfl
  t66 := Try.underlying129
  a66 := Try.isAgg129
  z66 := Try.sizeOf129
  v66 := Try.zeroValue129
  i66 := by kernel_rfl
  t67 := Try.underlying130
  a67 := Try.isAgg130
  z67 := Try.sizeOf130
  v67 := Try.zeroValue130
  i67 := by kernel_rfl
  t75 := Try.underlying138
  a75 := Try.isAgg138
  z75 := Try.sizeOf138
  v75 := Try.zeroValue138
  i75 := by kernel_rfl
  t76 := Try.underlying139
  a76 := Try.isAgg139
  z76 := Try.sizeOf139
  v76 := Try.zeroValue139
  i76 := by kernel_rfl
  t77 := Try.underlying140
  a77 := Try.isAgg140
  z77 := Try.sizeOf140
  v77 := Try.zeroValue140
  i77 := by kernel_rfl
  t78 := Try.underlying141
  a78 := Try.isAgg141
  z78 := Try.sizeOf141
  v78 := Try.zeroValue141
  i78 := by kernel_rfl
  t79 := Try.underlying142
  a79 := Try.isAgg142
  z79 := Try.sizeOf142
  v79 := Try.zeroValue142
  i79 := by kernel_rfl
  t80 := Try.underlying143
  a80 := Try.isAgg143
  z80 := Try.sizeOf143
  v80 := Try.zeroValue143
  i80 := by kernel_rfl
  t82 := Try.underlying145
  a82 := Try.isAgg145
  z82 := Try.sizeOf145
  v82 := Try.zeroValue145
  i82 := by kernel_rfl }
end Go.Proofs
