/-
  Texts that a law leans on, one behind the other; no statement is proved here.
-/
import Derived.Shelf.Small.Bits
import Derived.Shelf.Strconv.Itoa0
import Derived.Shelf.Strconv.Itoa1
import Derived.Shelf.LaysM
import Derived.Shelf.Strconv.Itoa2
import Derived.Ground.GgsProg
import Derived.Shelf.GgSortFunc.Insertion
import Derived.Shelf.GgSortFunc.Small
import Derived.Shelf.GgSortFunc.InsertionK
import Derived.Shelf.GgSortFunc.SmallK
import Derived.Shelf.GgSortFunc.Tiny
import Derived.Shelf.GgSortFunc.Compose
import Derived.Shelf.GgSortFunc.LotD
import Derived.Shelf.Strconv.AppendUint10
import Derived.Shelf.Strconv.AppendInt10
import Derived.Shelf.Strconv.AppendIntPublic10
import Derived.Shelf.SlSortFunc.Xorshift
import Derived.Shelf.SlSortFuncK.ComposeK
import Derived.Shelf.SlSortFuncK.SiftDownK
import Derived.Shelf.SlSortFuncK.HeapSortK
import Derived.Shelf.SlSortFuncK.PartialInsertionK
import Derived.Shelf.SlSortFuncK.LotDK
import Derived.Shelf.SlSortFuncK.PivotK
import Derived.Shelf.SlSortFuncK.PartitionK
import Derived.Shelf.SlSortFuncK.PdqK
import Derived.Shelf.SlSortFuncK.WholeK
import Derived.Test.YtblnpjcmcjebkaaDoorProg
import Derived.Test.YtblnpjcmcjebkaaDoorPk6
import Derived.Test.YtblnpjcmcjebkaaDoorPk5
import Derived.Maps.AppendAt
/-
  DERIVED: THE SHELF's CONTRACTS AT THIS DUMP, IN PLAIN WORDS (tools/lay-plain.mjs out of 'TrydShelf.lean', which tools/lay-shelf.mjs wrote): THE SAME DECLARATIONS UNDER THE SAME NAMES: 'import', 'namespace', 'open', 'def', 'theorem' AND NOTHING ELSE: no command of the shelf's: FOR A HAND-IN. Each laying: the table of numbers ('.._ren') and one theorem, a field a fact of the dump's own or the kernel's comparison; each contract: ONE APPLICATION.
-/
namespace Go.Proofs
open Go.Shelf
def Tryd.laysM176_ren : Go.Shelf.Ren := ⟨fun | 176 => 32 | 249 => 44 | 288 => 49 | 283 => 57 | 284 => 58 | 285 => 59 | 286 => 60 | 129 => 71 | 317 => 81 | 318 => 82 | 319 => 83 | 320 => 84 | 337 => 90 | 338 => 91 | n => n, fun | 37 => 22 | 2 => 2 | 3 => 3 | 53 => 89 | 4 => 4 | 9 => 9 | 171 => 106 | 0 => 0 | 173 => 109 | 212 => 126 | 51 => 115 | 5 => 5 | 20 => 20 | 213 => 127 | 46 => 100 | 232 => 137 | 233 => 138 | n => n, fun | 17 => 0 | 18 => 2 | 19 => 3 | n => n⟩
theorem Tryd.laysM176 : Go.Proofs.LaysM.n176 Tryd.prog Tryd.laysM176_ren := {
  mixed := by kernel_rfl
  f129 := Tryd.func71.trans (congrArg some (by kernel_rfl))
  f176 := Tryd.func32.trans (congrArg some (by kernel_rfl))
  f249 := Tryd.func44.trans (congrArg some (by kernel_rfl))
  f283 := Tryd.func57.trans (congrArg some (by kernel_rfl))
  f284 := Tryd.func58.trans (congrArg some (by kernel_rfl))
  f285 := Tryd.func59.trans (congrArg some (by kernel_rfl))
  f286 := Tryd.func60.trans (congrArg some (by kernel_rfl))
  f288 := Tryd.func49.trans (congrArg some (by kernel_rfl))
  f317 := Tryd.func81.trans (congrArg some (by kernel_rfl))
  f318 := Tryd.func82.trans (congrArg some (by kernel_rfl))
  f319 := Tryd.func83.trans (congrArg some (by kernel_rfl))
  f320 := Tryd.func84.trans (congrArg some (by kernel_rfl))
  f337 := Tryd.func90.trans (congrArg some (by kernel_rfl))
  f338 := Tryd.func91.trans (congrArg some (by kernel_rfl))
  t0 := Tryd.underlying0
  a0 := Tryd.isAgg0
  z0 := Tryd.sizeOf0
  v0 := Tryd.zeroValue0
  t2 := Tryd.underlying2
  a2 := Tryd.isAgg2
  z2 := Tryd.sizeOf2
  v2 := Tryd.zeroValue2
  t3 := Tryd.underlying3
  a3 := Tryd.isAgg3
  z3 := Tryd.sizeOf3
  v3 := Tryd.zeroValue3
  t4 := Tryd.underlying4
  a4 := Tryd.isAgg4
  z4 := Tryd.sizeOf4
  v4 := Tryd.zeroValue4
  t5 := Tryd.underlying5
  a5 := Tryd.isAgg5
  z5 := Tryd.sizeOf5
  v5 := Tryd.zeroValue5
  t9 := Tryd.underlying9
  a9 := Tryd.isAgg9
  z9 := Tryd.sizeOf9
  v9 := Tryd.zeroValue9
  t20 := Tryd.underlying20
  a20 := Tryd.isAgg20
  z20 := Tryd.sizeOf20
  v20 := Tryd.zeroValue20
  t37 := Tryd.underlying22
  a37 := Tryd.isAgg22
  z37 := Tryd.sizeOf22
  v37 := Tryd.zeroValue22
  t46 := Tryd.underlying100
  a46 := Tryd.isAgg100
  z46 := Tryd.sizeOf100
  v46 := Tryd.zeroValue100
  t51 := Tryd.underlying115
  a51 := Tryd.isAgg115
  z51 := Tryd.sizeOf115
  v51 := Tryd.zeroValue115
  t53 := Tryd.underlying89
  a53 := Tryd.isAgg89
  z53 := Tryd.sizeOf89
  v53 := Tryd.zeroValue89
  t171 := Tryd.underlying106
  a171 := Tryd.isAgg106
  z171 := Tryd.sizeOf106
  v171 := Tryd.zeroValue106
  t173 := Tryd.underlying109
  a173 := Tryd.isAgg109
  z173 := Tryd.sizeOf109
  v173 := Tryd.zeroValue109
  t212 := Tryd.underlying126
  a212 := Tryd.isAgg126
  z212 := Tryd.sizeOf126
  v212 := Tryd.zeroValue126
  t213 := Tryd.underlying127
  a213 := Tryd.isAgg127
  z213 := Tryd.sizeOf127
  t232 := Tryd.underlying137
  a232 := Tryd.isAgg137
  z232 := Tryd.sizeOf137
  v232 := Tryd.zeroValue137
  t233 := Tryd.underlying138
  a233 := Tryd.isAgg138
  z233 := Tryd.sizeOf138
  v233 := Tryd.zeroValue138
  g17 := by kernel_rfl
  g18 := by kernel_rfl
  g19 := by kernel_rfl
  i0 := by kernel_rfl
  i2 := by kernel_rfl
  i3 := by kernel_rfl
  i4 := by kernel_rfl
  i5 := by kernel_rfl
  i9 := by kernel_rfl
  i20 := by kernel_rfl
  i37 := by kernel_rfl
  i46 := by kernel_rfl
  i51 := by kernel_rfl
  i53 := by kernel_rfl
  i171 := by kernel_rfl
  i173 := by kernel_rfl
  i212 := by kernel_rfl
  i232 := by kernel_rfl
  i233 := by kernel_rfl
  m17 := by kernel_rfl
  m18 := by kernel_rfl
  m19 := by kernel_rfl }
def Tryd.laysGg6_ren : Go.Shelf.Ren := ⟨fun | 6 => 45 | 10 => 50 | 11 => 51 | 12 => 52 | 13 => 53 | 14 => 54 | 24 => 70 | 25 => 71 | 26 => 72 | 27 => 73 | 28 => 74 | 29 => 75 | 30 => 76 | 31 => 77 | 32 => 78 | 33 => 79 | 34 => 85 | 35 => 86 | 36 => 87 | 37 => 88 | 38 => 89 | 39 => 92 | n => n, fun | 20 => 20 | 26 => 86 | 35 => 94 | 0 => 0 | 37 => 96 | 3 => 3 | 41 => 100 | 44 => 103 | 49 => 115 | 51 => 89 | 4 => 4 | 54 => 118 | 53 => 117 | 58 => 122 | 5 => 5 | 9 => 9 | 60 => 128 | 64 => 132 | 66 => 134 | 67 => 135 | 17 => 17 | 32 => 91 | 33 => 92 | 82 => 152 | 12 => 12 | 75 => 145 | 76 => 146 | 77 => 147 | 78 => 148 | 79 => 149 | 80 => 150 | n => n, fun | n => n⟩
theorem Tryd.laysGg6 : Go.Proofs.LaysGg.n6 Tryd.prog Tryd.laysGg6_ren := {
  mixed := by kernel_rfl
  f6 := Tryd.func45.trans (congrArg some (by kernel_rfl))
  f10 := Tryd.func50.trans (congrArg some (by kernel_rfl))
  f11 := Tryd.func51.trans (congrArg some (by kernel_rfl))
  f12 := Tryd.func52.trans (congrArg some (by kernel_rfl))
  f13 := Tryd.func53.trans (congrArg some (by kernel_rfl))
  f14 := Tryd.func54.trans (congrArg some (by kernel_rfl))
  f24 := Tryd.func70.trans (congrArg some (by kernel_rfl))
  f25 := Tryd.func71.trans (congrArg some (by kernel_rfl))
  f26 := Tryd.func72.trans (congrArg some (by kernel_rfl))
  f27 := Tryd.func73.trans (congrArg some (by kernel_rfl))
  f28 := Tryd.func74.trans (congrArg some (by kernel_rfl))
  f29 := Tryd.func75.trans (congrArg some (by kernel_rfl))
  f30 := Tryd.func76.trans (congrArg some (by kernel_rfl))
  f31 := Tryd.func77.trans (congrArg some (by kernel_rfl))
  f32 := Tryd.func78.trans (congrArg some (by kernel_rfl))
  f33 := Tryd.func79.trans (congrArg some (by kernel_rfl))
  f34 := Tryd.func85.trans (congrArg some (by kernel_rfl))
  f35 := Tryd.func86.trans (congrArg some (by kernel_rfl))
  f36 := Tryd.func87.trans (congrArg some (by kernel_rfl))
  f37 := Tryd.func88.trans (congrArg some (by kernel_rfl))
  f38 := Tryd.func89.trans (congrArg some (by kernel_rfl))
  f39 := Tryd.func92.trans (congrArg some (by kernel_rfl))
  t0 := Tryd.underlying0
  a0 := Tryd.isAgg0
  z0 := Tryd.sizeOf0
  v0 := Tryd.zeroValue0
  i0 := by kernel_rfl
  t3 := Tryd.underlying3
  a3 := Tryd.isAgg3
  z3 := Tryd.sizeOf3
  v3 := Tryd.zeroValue3
  i3 := by kernel_rfl
  t4 := Tryd.underlying4
  a4 := Tryd.isAgg4
  z4 := Tryd.sizeOf4
  v4 := Tryd.zeroValue4
  i4 := by kernel_rfl
  t5 := Tryd.underlying5
  a5 := Tryd.isAgg5
  z5 := Tryd.sizeOf5
  v5 := Tryd.zeroValue5
  i5 := by kernel_rfl
  t9 := Tryd.underlying9
  a9 := Tryd.isAgg9
  z9 := Tryd.sizeOf9
  v9 := Tryd.zeroValue9
  i9 := by kernel_rfl
  t12 := Tryd.underlying12
  a12 := Tryd.isAgg12
  z12 := Tryd.sizeOf12
  v12 := Tryd.zeroValue12
  i12 := by kernel_rfl
  t17 := Tryd.underlying17
  a17 := Tryd.isAgg17
  z17 := Tryd.sizeOf17
  v17 := Tryd.zeroValue17
  i17 := by kernel_rfl
  t20 := Tryd.underlying20
  a20 := Tryd.isAgg20
  z20 := Tryd.sizeOf20
  v20 := Tryd.zeroValue20
  i20 := by kernel_rfl
  t26 := Tryd.underlying86
  a26 := Tryd.isAgg86
  z26 := Tryd.sizeOf86
  v26 := Tryd.zeroValue86
  i26 := by kernel_rfl
  t32 := Tryd.underlying91
  a32 := Tryd.isAgg91
  z32 := Tryd.sizeOf91
  v32 := Tryd.zeroValue91
  i32 := by kernel_rfl
  t33 := Tryd.underlying92
  a33 := Tryd.isAgg92
  z33 := Tryd.sizeOf92
  v33 := Tryd.zeroValue92
  i33 := by kernel_rfl
  t35 := Tryd.underlying94
  a35 := Tryd.isAgg94
  z35 := Tryd.sizeOf94
  v35 := Tryd.zeroValue94
  i35 := by kernel_rfl
  t37 := Tryd.underlying96
  a37 := Tryd.isAgg96
  z37 := Tryd.sizeOf96
  v37 := Tryd.zeroValue96
  i37 := by kernel_rfl
  t41 := Tryd.underlying100
  a41 := Tryd.isAgg100
  z41 := Tryd.sizeOf100
  v41 := Tryd.zeroValue100
  i41 := by kernel_rfl
  t44 := Tryd.underlying103
  a44 := Tryd.isAgg103
  z44 := Tryd.sizeOf103
  v44 := Tryd.zeroValue103
  i44 := by kernel_rfl
  t49 := Tryd.underlying115
  a49 := Tryd.isAgg115
  z49 := Tryd.sizeOf115
  v49 := Tryd.zeroValue115
  i49 := by kernel_rfl
  t51 := Tryd.underlying89
  a51 := Tryd.isAgg89
  z51 := Tryd.sizeOf89
  v51 := Tryd.zeroValue89
  i51 := by kernel_rfl
  t53 := Tryd.underlying117
  a53 := Tryd.isAgg117
  z53 := Tryd.sizeOf117
  v53 := Tryd.zeroValue117
  i53 := by kernel_rfl
  t54 := Tryd.underlying118
  a54 := Tryd.isAgg118
  z54 := Tryd.sizeOf118
  v54 := Tryd.zeroValue118
  i54 := by kernel_rfl
  t58 := Tryd.underlying122
  a58 := Tryd.isAgg122
  z58 := Tryd.sizeOf122
  v58 := Tryd.zeroValue122
  i58 := by kernel_rfl
  t60 := Tryd.underlying128
  a60 := Tryd.isAgg128
  z60 := Tryd.sizeOf128
  v60 := Tryd.zeroValue128
  i60 := by kernel_rfl
  t64 := Tryd.underlying132
  a64 := Tryd.isAgg132
  z64 := Tryd.sizeOf132
  v64 := Tryd.zeroValue132
  i64 := by kernel_rfl
  t66 := Tryd.underlying134
  a66 := Tryd.isAgg134
  z66 := Tryd.sizeOf134
  v66 := Tryd.zeroValue134
  i66 := by kernel_rfl
  t67 := Tryd.underlying135
  a67 := Tryd.isAgg135
  z67 := Tryd.sizeOf135
  v67 := Tryd.zeroValue135
  i67 := by kernel_rfl
  t75 := Tryd.underlying145
  a75 := Tryd.isAgg145
  z75 := Tryd.sizeOf145
  v75 := Tryd.zeroValue145
  i75 := by kernel_rfl
  t76 := Tryd.underlying146
  a76 := Tryd.isAgg146
  z76 := Tryd.sizeOf146
  v76 := Tryd.zeroValue146
  i76 := by kernel_rfl
  t77 := Tryd.underlying147
  a77 := Tryd.isAgg147
  z77 := Tryd.sizeOf147
  v77 := Tryd.zeroValue147
  i77 := by kernel_rfl
  t78 := Tryd.underlying148
  a78 := Tryd.isAgg148
  z78 := Tryd.sizeOf148
  v78 := Tryd.zeroValue148
  i78 := by kernel_rfl
  t79 := Tryd.underlying149
  a79 := Tryd.isAgg149
  z79 := Tryd.sizeOf149
  v79 := Tryd.zeroValue149
  i79 := by kernel_rfl
  t80 := Tryd.underlying150
  a80 := Tryd.isAgg150
  z80 := Tryd.sizeOf150
  v80 := Tryd.zeroValue150
  i80 := by kernel_rfl
  t82 := Tryd.underlying152
  a82 := Tryd.isAgg152
  z82 := Tryd.sizeOf152
  v82 := Tryd.zeroValue152
  i82 := by kernel_rfl }
open Go.RowKit Go.Sort Go.Lib in
/-- strconv.AppendInt: "AppendInt appends the string form of the integer i, as generated by FormatInt, to dst and returns the extended buffer.": AT BASE 10: WHAT COMES BACK OWNS dst's CELLS AND, BEHIND THEM, i's DECIMAL NUMERAL ('Lib.itoa i': at most 20 bytes), for every int64. Below the call's own blocks nothing has turned. (LAID: no walk: one application.) -/
theorem Tryd.strconv_AppendInt_10 (B n : Nat) (i : Int) (h0 : -9223372036854775808 ≤ i) (h1 : i ≤ 9223372036854775807) (sv : Value) (xs : List Value) (w : World) (hown : w.ownsRow B 5 1 sv n xs) (hBw : B ≤ w.heap.size) (hlim : n + 21 ≤ 140737488355328) (htab : Lib.TabBelow Tryd.prog B w "internal/strconv.uint64pow10" .u64 Lib.pow10Tab) :
    Calls Tryd.prog 32 #[sv, .int .i64 i, .int .i64 10] w fun e w' => ∃ v', e = .returned v' ∧ w'.ownsRow B 5 1 v' (n + (Lib.itoa i).length) (xs ++ Lib.byteCells (Lib.itoa i)) ∧ Below B w w' ∧ Lib.OthersKept 5 none w w' := Any.strconv_AppendInt_10 Tryd.laysM176 B n i h0 h1 sv xs w hown hBw hlim htab
end Go.Proofs
/-
  ValText of the program: commas, quotes, numbers, words.
-/
namespace Go.Proofs.YtblnpjcmcjebkaaDoor
open Go.RowKit Go.Shelf
set_option linter.unusedVariables false
set_option linter.unusedSimpArgs false

/-- What a call that appends has left. -/
def ApEnd (B : Nat) (ys : List Int) (w : World) (e : Ending) (w' : World) : Prop := ∃ a c, e = .returned (.slice a ys.length c) ∧ Bts w' B (.slice a ys.length c) ys ∧ Below B w w' ∧ Kept w w'

theorem apEnd_of {B : Nat} {ys : List Int} {w w' : World} {u : Value} (h : Bts w' B u ys) (hb : Below B w w') (hk : Kept w w') : ApEnd B ys w (.returned u) w' := by
  obtain ⟨a, c, rfl, _⟩ := h.shape
  exact ⟨a, c, rfl, h, hb, hk⟩

theorem nonull_unknownPart (x : Value) (w : World) : (Instr.typeAssert (.iface 80 x) 45 60 true).run Tryd.prog w = .ok (.tuple #[.agg #[], .bool false]) w := by kernel_rfl
theorem nonull_boolPart (x : Value) (w : World) : (Instr.typeAssert (.iface 62 x) 45 60 true).run Tryd.prog w = .ok (.tuple #[.agg #[], .bool false]) w := by kernel_rfl
theorem nonull_intPart (x : Value) (w : World) : (Instr.typeAssert (.iface 64 x) 45 60 true).run Tryd.prog w = .ok (.tuple #[.agg #[], .bool false]) w := by kernel_rfl
theorem nonull_textPart (x : Value) (w : World) : (Instr.typeAssert (.iface 67 x) 45 60 true).run Tryd.prog w = .ok (.tuple #[.agg #[], .bool false]) w := by kernel_rfl
theorem nonull_listPart (x : Value) (w : World) : (Instr.typeAssert (.iface 71 x) 45 60 true).run Tryd.prog w = .ok (.tuple #[.agg #[], .bool false]) w := by kernel_rfl
theorem nonull_mapPart (x : Value) (w : World) : (Instr.typeAssert (.iface 75 x) 45 60 true).run Tryd.prog w = .ok (.tuple #[.agg #[], .bool false]) w := by kernel_rfl
theorem is_nullPart (x : Value) (w : World) : (Instr.typeAssert (.iface 60 x) 45 60 true).run Tryd.prog w = .ok (.tuple #[x, .bool true]) w := by kernel_rfl
theorem is_unknownPart (x : Value) (w : World) : (Instr.typeAssert (.iface 80 x) 45 80 true).run Tryd.prog w = .ok (.tuple #[x, .bool true]) w := by kernel_rfl

set_option maxHeartbeats 1600000 in
set_option maxRecDepth 100000 in
theorem appendComma_any (B k : Nat) (a : Option Addr) (c : Nat) (xs ys : List Int) (w : World) (hB : Bts w B (.slice a xs.length c) xs) (hBw : B ≤ w.heap.size) (hl : xs.length ≤ 1000000) (hk : k ≤ 1000) (hy0 : k = 0 → ys = xs) (hy1 : ¬ k = 0 → ys = xs ++ [44, 32]) :
    Calls Tryd.prog 34 #[.slice a xs.length c, .int .i64 k] w (ApEnd B ys w) := by
  have HB := hide' hB
  by_cases h0 : k = 0
  · have HF := hide' (hy0 h0)
    subst h0
    clear hB hy0 hy1
    go_enter Tryd.func34, Tryd.ntmps34
    go_wp2
    go_ret
    rw [HF.out]
    exact apEnd_of HB.out (Below.refl _ _) (Kept.refl _)
  · have HF := hide' (hy1 h0)
    have h0' : ((k : Int) == 0) = false := by simpa using h0
    clear h0 hy0 hy1 hB
    go_enter Tryd.func34, Tryd.ntmps34
    go_wp2_with (at_builtin; refine wpList_append_text rfl _ (.const (.string { data := #[44, 32] })) 9 (by rfl) Tryd.underlying9 B (.slice a xs.length c) xs [44, 32] (by rfl) HB.out _ (by rfl) (by simp [Byt]) (by rfl) (by (try simp); omega) hBw ?_; intro v1 w1 hv1 hg1; have hb1 := hide' ((Below.refl B w).grown hg1 hBw HB.out.own); have hk1 := hide' (kept_grown HB.out hg1); replace hv1 := hide' hv1; clear hg1)
    go_ret
    rw [HF.out]
    exact apEnd_of hv1.out hb1.out hk1.out

theorem itoa_int (n : Int) : Lib.byteCells (Lib.itoa n) = cellsOf (intT n) ∧ (Lib.itoa n).length = (intT n).length ∧ ∀ x ∈ intT n, Byt x := by
  unfold Lib.itoa intT
  by_cases h : n < 0
  · rw [if_pos h, if_pos h]
    have e : n.natAbs = (-n).toNat := by omega
    refine ⟨?_, ?_, ?_⟩
    · rw [e]; unfold Lib.byteCells cellsOf decI; simp
    · rw [e]; simp [decI]
    · intro x hx
      rcases List.mem_cons.1 hx with rfl | hx
      · unfold Byt; omega
      · exact decI_byt _ x hx
  · rw [if_neg h, if_neg h]
    refine ⟨?_, ?_, decI_byt _⟩
    · unfold Lib.byteCells cellsOf decI; simp
    · simp [decI]

/-- The table that AppendInt reads. -/
def Tab (B : Nat) (w : World) : Prop := Lib.TabBelow Tryd.prog B w "internal/strconv.uint64pow10" .u64 Lib.pow10Tab

theorem AppendInt_any (B : Nat) (n : Int) (v : Value) (xs : List Int) (w : World) (h0 : -1000000000000 ≤ n) (h1 : n ≤ 1000000000000) (hB : Bts w B v xs) (hBw : B ≤ w.heap.size) (hl : xs.length ≤ 1000000) (ht : Tab B w) :
    Calls Tryd.prog 32 #[v, .int .i64 n, .int .i64 10] w (ApEnd B (xs ++ intT n) w) := by
  refine (Tryd.strconv_AppendInt_10 B xs.length n (by omega) (by omega) v (cellsOf xs) w hB.2 hBw (by omega) ht).mono ?_
  rintro e w' ⟨u, rfl, ho, hb, hok⟩
  obtain ⟨e1, e2, e3⟩ := itoa_int n
  refine apEnd_of ⟨?_, ?_⟩ hb (fun g cs T fr h hT => hok g _ h (by simp) (by intro c fz e; simp only [Obj.cells.injEq] at e; exact hT e.2.1))
  · intro z hz
    rcases List.mem_append.1 hz with h | h
    · exact hB.1 z h
    · exact e3 z h
  · rw [e1, e2, ← cellsOf_append] at ho
    rw [List.length_append]
    exact ho
end Go.Proofs.YtblnpjcmcjebkaaDoor
/-
  ValText of the program: AppendBool, appendQuoted.
-/
namespace Go.Proofs.YtblnpjcmcjebkaaDoor
open Go.RowKit Go.Shelf
set_option linter.unusedVariables false
set_option linter.unusedSimpArgs false

set_option maxHeartbeats 1600000 in
set_option maxRecDepth 100000 in
theorem AppendBool_any (B : Nat) (q : Bool) (a : Option Addr) (c : Nat) (xs : List Int) (w : World) (hB : Bts w B (.slice a xs.length c) xs) (hBw : B ≤ w.heap.size) (hl : xs.length ≤ 1000000) :
    Calls Tryd.prog 31 #[.slice a xs.length c, .bool q] w (ApEnd B (xs ++ (if q then [116, 114, 117, 101] else [102, 97, 108, 115, 101])) w) := by
  have HB := hide' hB
  clear hB
  cases q with
  | true =>
    have HI : Hid (Calls Tryd.prog 43 #[.slice a xs.length c, .bool true] w (ApEnd B (xs ++ [116, 114, 117, 101]) w)) := by
      show Calls _ _ _ _ _
      go_enter Tryd.func43, Tryd.ntmps43
      go_wp2_with (at_builtin; refine wpList_append_text rfl _ (.const (.string { data := #[116, 114, 117, 101] })) 9 (by rfl) Tryd.underlying9 B (.slice a xs.length c) xs [116, 114, 117, 101] (by rfl) HB.out _ (by rfl) (by simp [Byt]) (by rfl) (by (try simp); omega) hBw ?_; intro v1 w1 hv1 hg1; have hb1 := hide' ((Below.refl B w).grown hg1 hBw HB.out.own); have hk1 := hide' (kept_grown HB.out hg1); replace hv1 := hide' hv1; clear hg1)
      go_ret
      exact apEnd_of hv1.out hb1.out hk1.out
    go_enter Tryd.func31, Tryd.ntmps31
    go_wp2_with fail
    refine HI.out.mono ?_
    rintro e w1 ⟨a1, c1, rfl, hv1, hb1, hk1⟩
    have Hk := hide' hk1
    have Hv := hide' hv1
    have Hb := hide' hb1
    clear hv1 hb1 hk1
    generalize (xs ++ [116, 114, 117, 101]).length = m at *
    go_wp2
    go_ret
    exact apEnd_of Hv.out Hb.out Hk.out
  | false =>
    have HI : Hid (Calls Tryd.prog 43 #[.slice a xs.length c, .bool false] w (ApEnd B (xs ++ [102, 97, 108, 115, 101]) w)) := by
      show Calls _ _ _ _ _
      go_enter Tryd.func43, Tryd.ntmps43
      go_wp2_with (at_builtin; refine wpList_append_text rfl _ (.const (.string { data := #[102, 97, 108, 115, 101] })) 9 (by rfl) Tryd.underlying9 B (.slice a xs.length c) xs [102, 97, 108, 115, 101] (by rfl) HB.out _ (by rfl) (by simp [Byt]) (by rfl) (by (try simp); omega) hBw ?_; intro v1 w1 hv1 hg1; have hb1 := hide' ((Below.refl B w).grown hg1 hBw HB.out.own); have hk1 := hide' (kept_grown HB.out hg1); replace hv1 := hide' hv1; clear hg1)
      go_ret
      exact apEnd_of hv1.out hb1.out hk1.out
    go_enter Tryd.func31, Tryd.ntmps31
    go_wp2_with fail
    refine HI.out.mono ?_
    rintro e w1 ⟨a1, c1, rfl, hv1, hb1, hk1⟩
    have Hk := hide' hk1
    have Hv := hide' hv1
    have Hb := hide' hb1
    clear hv1 hb1 hk1
    generalize (xs ++ [102, 97, 108, 115, 101]).length = m at *
    go_wp2
    go_ret
    exact apEnd_of Hv.out Hb.out Hk.out

/-- '[]byte(s)': the block bears a mark behind its last cell. -/
theorem conv_row (xs : List Int) (hx : ∀ x ∈ xs, Byt x) (hl : xs.length ≤ 1048576) (w : World) : ∃ cap wB cur fr, (convert 9 22 (.string (strOf xs))).run Tryd.prog w = .ok (.slice (some ⟨w.heap.size, 0, none⟩) xs.length cap) wB ∧
    Seg wB (some ⟨w.heap.size, 0, none⟩) xs ∧ Below w.heap.size w wB ∧ wB.heap.size = w.heap.size + 1 ∧ wB.heap[w.heap.size]? = some (.cells cur 5 fr) ∧ fr.2 ≠ 0 := by
  obtain ⟨cap, wB, h1, h2, h3, h4⟩ := conv_back xs hx hl w
  have h1' := h1
  rw [run_bytes_of_string (P := Tryd.prog) w 9 22 5 (strOf xs) Tryd.underlying9 Tryd.underlying22 Tryd.underlying5] at h1
  simp only [Result.ok.injEq] at h1
  obtain ⟨_, hw⟩ := h1
  have hrow : ∃ cur fr, wB.heap[w.heap.size]? = some (.cells cur 5 fr) ∧ fr.2 ≠ 0 := by
    rw [← hw]
    exact ⟨_, _, heap_alloc_new w.drew _, by simp⟩
  obtain ⟨cur, fr, hr, hf⟩ := hrow
  exact ⟨cap, wB, cur, fr, h1', h2.seg.out.1, h3, h4, hr, hf⟩

theorem bts_free {w : World} {B g : Nat} {v : Value} {xs : List Int} {cur : Array Value} {fr : Nat × Nat} (h : Bts w B v xs) (hg : w.heap[g]? = some (.cells cur 5 fr)) (hf : fr.2 ≠ 0) : some g ≠ v.ownBlock := by
  intro e
  obtain ⟨_, _, ⟨rfl, _⟩ | ⟨g', cap, cur', rfl, _, hh, _⟩⟩ := h
  · simp [Value.ownBlock] at e
  · simp only [Value.ownBlock, Option.some.injEq] at e
    subst e
    rw [hg] at hh
    simp only [Option.some.injEq, Obj.cells.injEq] at hh
    obtain ⟨_, _, rfl⟩ := hh
    exact hf rfl

set_option maxHeartbeats 1600000 in
set_option maxRecDepth 100000 in
theorem appendQuoted_any (B : Nat) (a : Option Addr) (c : Nat) (xs ts : List Int) (w : World) (hB : Bts w B (.slice a xs.length c) xs) (hBw : B ≤ w.heap.size) (hl : xs.length ≤ 1000000) (ht : ∀ x ∈ ts, Byt x) (hlt : ts.length ≤ 1000) :
    Calls Tryd.prog 33 #[.slice a xs.length c, .string (strOf ts)] w (ApEnd B (xs ++ quoT ts) w) := by
  have HB := hide' hB
  clear hB
  have hA1 := HB.out.alloc (.cells #[.int .u8 34] 5)
  have hS1 := seg_one w 34 (by unfold Byt; omega)
  have hb0 : Hid (Below B w (w.alloc (.cells #[.int .u8 34] 5))) := (Below.refl _ _).alloc hBw _
  have HT := hide' ht
  have hcb : Hid (∀ wx, ∃ ck wB cur fr, (convert 9 22 (.string (strOf ts))).run Tryd.prog wx = .ok (.slice (some ⟨wx.heap.size, 0, none⟩) ts.length ck) wB ∧ Seg wB (some ⟨wx.heap.size, 0, none⟩) ts ∧ Below wx.heap.size wx wB ∧ wB.heap.size = wx.heap.size + 1 ∧ wB.heap[wx.heap.size]? = some (.cells cur 5 fr) ∧ fr.2 ≠ 0) := fun wx => conv_row ts HT.out (by omega) wx
  have HF : Hid (xs ++ quoT ts = (xs ++ 34 :: escQ (ts.take ts.length)) ++ [34]) := by show _ = _; rw [List.take_length]; simp [quoT]
  generalize hn : ts.length = n at *
  have Hn : Hid (n = ts.length) := hn.symm
  obtain ⟨res, hres⟩ : ∃ res, res = xs ++ quoT ts := ⟨_, rfl⟩
  rw [← hres] at HF
  rw [← hres]
  clear ht hn hres
  go_enter Tryd.func33, Tryd.ntmps33
  go_wp2_with (at_builtin; refine wpList_append_seg rfl (.tmp 7) (.tmp 8) (by rfl) B (.slice a xs.length c) xs [34] (by rfl) hA1 _ 1 1 rfl (by rfl) hS1 (by simp) (by simp; omega) (by simp; omega) ?_; intro v1 w1 hv1 hg1; have hb1 := hide' (hb0.out.grown hg1 (by simp; omega) HB.out.own); have hz1 : B ≤ w1.heap.size := (by have h1 := hb1.out.size; omega); obtain ⟨ck, wB, cur, fr, hcv, hSg, hbB, hzB, hrB, hfr⟩ := hcb.out w1; have HbB := hide' (Below.trans hb1.out (hbB.mono hz1)); have HvB := hide' (hv1.grow hbB); have HkB := hide' ((kept_app (Kept.refl w) hA1 hg1).trans (kept_below hbB)); have HzB := hide' hzB; have HrB := hide' hrB; have HSg := hide' hSg; have Hfr := hide' hfr; clear hg1 hbB hzB hv1 hrB hSg hfr)
  go_loopw [0, 13] (fun y i wr => ∃ k : Nat, k ≤ n ∧ i = .int .i64 k ∧ Hid (Bts wr B y (xs ++ 34 :: escQ (ts.take k))) ∧ Hid (Below B w wr) ∧ Hid (wr.heap[w1.heap.size]? = some (.cells cur 5 fr)) ∧ Hid (Kept w wr)) (fun _ i _ => n - (intOf i).toNat)
  case atStart => exact ⟨0, Nat.zero_le _, rfl, HvB, HbB, HrB, HkB⟩
  case round =>
    obtain ⟨k, hk, rfl, hB, B', hrow, hkp⟩ := hrel
    obtain ⟨ya, yc, rfl, _, _, _, _, kk⟩ := hB.out.shape
    have hz : B ≤ wr.heap.size := by have := B'.out.size; omega
    have hzw : w1.heap.size < wr.heap.size := (Array.getElem?_eq_some_iff.1 hrow.out).1
    have hk2 : (xs ++ 34 :: escQ (ts.take k)).length ≤ 1003000 := by
      have h1 := escQ_len (ts.take k)
      have h2 : (ts.take k).length ≤ ts.length := by simp [List.length_take]; omega
      have := Hn.out
      simp; omega
    have HOwn := hide' hB.out.own
    have hbA : Hid (∀ o : Obj, Below B w (wr.alloc o)) := fun o => B'.out.alloc hz o
    have hrA : Hid (∀ o : Obj, (wr.alloc o).heap[w1.heap.size]? = some (.cells cur 5 fr)) := fun o => (Below.heap_alloc wr o w1.heap.size hzw).trans hrow.out
    obtain ⟨zs, hzs⟩ : ∃ zs, zs = xs ++ 34 :: escQ (ts.take k) := ⟨_, rfl⟩
    rw [← hzs] at hB hk2 HOwn
    have hzl : zs.length = (xs ++ 34 :: escQ (ts.take k)).length := by rw [hzs]
    rw [← hzl]
    have Hne := hide' (bts_free hB.out hrow.out Hfr.out)
    by_cases hlt : k < n
    · have hlt' : (k : Int) < (n : Int) := by omega
      have hlt0 : k < ts.length := by have := Hn.out; omega
      have hst := escQ_step ts k hlt0
      have hcb' : Byt ts[k] := HT.out _ (List.getElem_mem hlt0)
      have HCell : Hid (∀ wx : World, wx.heap[w1.heap.size]? = some (.cells cur 5 fr) → wx.cell? ⟨w1.heap.size, k, none⟩ = some (.int .u8 ts[k])) := fun wx hb => by
        have h := HSg.out.byte hlt0
        rw [Nat.zero_add] at h
        exact (World.cell?_of_block (hb.trans HrB.out.symm)).trans h
      generalize ts[k] = c at *
      have hc := HCell.out wr hrow.out
      by_cases hq : c = 34 ∨ c = 92
      · rw [if_pos hq] at hst
        have HF2 : Hid (xs ++ 34 :: escQ (ts.take (k + 1)) = (zs ++ [92]) ++ [c]) := by show _ = _; rw [hst, hzs]; simp
        have hS92 := seg_one wr 92 (by unfold Byt; omega)
        have hA92 := hB.out.alloc (.cells #[.int .u8 92] 5)
        have hqq : (c == 34) = true ∨ ((c == 34) = false ∧ (c == 92) = true) := by
          rcases hq with rfl | rfl
          · exact .inl rfl
          · exact .inr ⟨rfl, rfl⟩
        have HSc : Hid (∀ wx : World, Seg (wx.alloc (.cells #[.int .u8 c] 5)) (some ⟨wx.heap.size, 0, none⟩) [c]) := fun wx => seg_one wx c hcb'
        clear hst hzs hzl hq hcb hcb'
        have main : True := trivial
        rcases hqq with h34 | ⟨h34, h92⟩
        all_goals
          go_wp2_with (first
            | (at_builtin; refine wpList_append_seg rfl (.tmp 23) (.tmp 24) (by rfl) B (.slice ya zs.length yc) zs [92] (by rfl) hA92 _ 1 1 rfl (by rfl) hS92 (by simp) (by simp; omega) (by simp; omega) ?_; intro v1' w1' hv1' hg1'; have hb1' := hide' ((hbA.out _).grown hg1' (by simp; omega) HOwn.out); have hr1' := hide' ((hg1'.block w1.heap.size (by simp; omega) Hne.out).trans (hrA.out _)); have hz1' : B ≤ w1'.heap.size := (by have h1 := hb1'.out.size; omega); have hzw' : w1.heap.size < w1'.heap.size := (Array.getElem?_eq_some_iff.1 hr1'.out).1; have hSc := HSc.out w1'; have hAc := hv1'.alloc (.cells #[.int .u8 c] 5); have HOwn1 := hide' hv1'.own; have Hne1 := hide' (bts_free hv1' hr1'.out Hfr.out); have hkp1 := hide' (kept_app hkp.out hA92 hg1'); clear hv1' hg1')
            | (at_builtin; refine wpList_append_seg rfl (.tmp 26) (.tmp 28) (by rfl) B v1' (zs ++ [92]) [c] (by rfl) hAc _ 1 1 rfl (by rfl) hSc (by simp) (by simp; omega) (by simp; omega) ?_; intro v2 w2 hv2 hg2; have hb2 := hide' ((hb1'.out.alloc hz1' _).grown hg2 (by simp; omega) HOwn1.out); have hr2 := hide' ((hg2.block w1.heap.size (by simp; omega) Hne1.out).trans ((Below.heap_alloc w1' _ w1.heap.size hzw').trans hr1'.out)); have hkp2 := hide' (kept_app hkp1.out hAc hg2); replace hv2 := hide' hv2; clear hg2))
          go_roundw
          case rel => exact ⟨k + 1, by omega, by go_num, by rw [HF2.out]; exact hv2, hb2, hr2, hkp2⟩
          case measure => simp [intOf]; omega
      · rw [if_neg hq] at hst
        have HF2 : Hid (xs ++ 34 :: escQ (ts.take (k + 1)) = zs ++ [c]) := by show _ = _; rw [hst, hzs]; simp
        have h34 : ¬ c = 34 := fun h => hq (.inl h)
        have h92 : ¬ c = 92 := fun h => hq (.inr h)
        have h34' : (c == 34) = false := by simpa using h34
        have h92' : (c == 92) = false := by simpa using h92
        have hSc := seg_one wr c hcb'
        have hAc := hB.out.alloc (.cells #[.int .u8 c] 5)
        clear hst hzs hzl hcb hcb' hq
        go_wp2_with (at_builtin; refine wpList_append_seg rfl (.tmp 26) (.tmp 28) (by rfl) B (.slice ya zs.length yc) zs [c] (by rfl) hAc _ 1 1 rfl (by rfl) hSc (by simp) (by simp; omega) (by simp; omega) ?_; intro v2 w2 hv2 hg2; have hb2 := hide' ((hbA.out _).grown hg2 (by simp; omega) HOwn.out); have hr2 := hide' ((hg2.block w1.heap.size (by simp; omega) Hne.out).trans (hrA.out _)); have hkp2 := hide' (kept_app hkp.out hAc hg2); replace hv2 := hide' hv2; clear hg2)
        go_roundw
        case rel => exact ⟨k + 1, by omega, by go_num, by rw [HF2.out]; exact hv2, hb2, hr2, hkp2⟩
        case measure => simp [intOf]; omega
    · have hkn : k = ts.length := by have := Hn.out; omega
      have hlt' : ¬ (k : Int) < (n : Int) := by omega
      have HF2 : Hid (res = zs ++ [34]) := by show _ = _; rw [HF.out, hzs, Hn.out, hkn]
      have hS34 := seg_one wr 34 (by unfold Byt; omega)
      have hA34 := hB.out.alloc (.cells #[.int .u8 34] 5)
      clear hkn hzs hzl hcb
      go_wp2_with (at_builtin; refine wpList_append_seg rfl _ _ (by rfl) B (.slice ya zs.length yc) zs [34] (by rfl) hA34 _ 1 1 rfl (by rfl) hS34 (by simp) (by simp; omega) (by simp; omega) ?_; intro v2 w2 hv2 hg2; have hb2 := hide' ((hbA.out _).grown hg2 (by simp; omega) HOwn.out); have hkp2 := hide' (kept_app hkp.out hA34 hg2); replace hv2 := hide' hv2; clear hg2)
      go_ret
      rw [HF2.out]
      exact apEnd_of hv2.out hb2.out hkp2.out
end Go.Proofs.YtblnpjcmcjebkaaDoor
/-
  takeAll of the program: it takes a list of values in, out of what take does at one.
-/
namespace Go.Proofs.YtblnpjcmcjebkaaDoor
open Go.RowKit
set_option linter.unusedVariables false
set_option linter.unusedSimpArgs false

theorem grownBy_fresh {w w1 w2 : World} {r r' : Option Nat} (h : w.grownBy w1 r) (k : w1.grownBy w2 r') (hr : ∀ j, r' = some j → w.heap.size ≤ j) : w.grownBy w2 r :=
  ⟨k.os.trans h.os, k.tape.trans h.tape, k.output.trans h.output, Nat.le_trans h.size k.size, fun i hi hne => (k.block i (Nat.lt_of_lt_of_le hi h.size) (fun e => by have := hr i e.symm; omega)).trans (h.block i hi hne)⟩

theorem parts_one (d : Nat) (v : Vl d) : 1 ≤ partsV d v := by
  cases d with
  | zero => exact v.elim
  | succ d => exact parts_pos d v

theorem pre_ge (d : Nat) (l : List (Vl d)) (k : Nat) (h : k ≤ l.length) : k ≤ pre (partsV d) l k := by
  induction k with
  | zero => omega
  | succ k ih =>
    have := pre_succ (partsV d) l k (by omega)
    have := parts_one d l[k]
    have := ih (by omega)
    omega

theorem Cnt.keep {w w' : World} {q n : Nat} {r : Option Nat} (h : Cnt w q n) (hg : w.grownBy w' r) (hr : some q ≠ r) : Cnt w' q n :=
  (hg.block q (Array.getElem?_eq_some_iff.1 h).1 hr).trans h

/-- What holds after k rounds of takeAll. -/
def TA (d : Nat) (l : List (Vl d)) (deep n q : Nat) (w wr : World) (k : Nat) (y : Value) (ps : List Value) : Prop :=
  k ≤ l.length ∧ ps.length = k ∧ wr.ownsRow w.heap.size 45 1 y k ps ∧ (∀ j (h : j < l.length), j < k → goodB d l[j] deep = true) ∧ n + pre (partsV d) l k ≤ 40 ∧ Cnt wr q (n + pre (partsV d) l k) ∧
    (∀ j (h : j < l.length), j < k → PSeg (fun b => w.heap.size ≤ b ∧ b < wr.heap.size ∧ some b ≠ y.ownBlock) wr d (ps.getD j .nilIface) l[j]) ∧ w.grownBy wr (some q)

theorem TA_zero {d : Nat} {l : List (Vl d)} {deep n q : Nat} {w : World} (hc : Cnt w q n) (hn : n ≤ 40) : TA d l deep n q w w 0 (.slice none 0 0) [] :=
  ⟨Nat.zero_le _, rfl, World.ownsRow_nil w _ _ _, fun j _ h => by omega, by rw [pre_zero]; omega, by rw [pre_zero]; exact hc, fun j _ h => by omega, World.grownBy.refl _ _⟩

theorem own_ne {w : World} {base e n q : Nat} {y : Value} {xs : List Value} (h : w.ownsRow base e 1 y n xs) (hq : q < base) : some q ≠ y.ownBlock := fun e => by
  have := h.lt q e.symm
  omega

theorem TA_none {d : Nat} {l : List (Vl d)} {deep n q : Nat} {w wr W : World} {k : Nat} {y : Value} {ps : List Value} (h : TA d l deep n q w wr k y ps) (hg : wr.grownBy W none) : TA d l deep n q w W k y ps := by
  obtain ⟨h1, h2, h3, h4, h5, h6, h7, h8⟩ := h
  refine ⟨h1, h2, h3.kept hg ?_, h4, h5, h6.keep hg (by simp), fun j hj hjk => ?_, grownBy_fresh h8 hg (by simp)⟩
  · cases hy : y.ownBlock with
    | none => exact .inl rfl
    | some z => exact .inr (by simp)
  · refine PSeg.carry (fun b hb => ⟨hb.1, Nat.lt_of_lt_of_le hb.2.1 hg.size, hb.2.2⟩) (fun b hb => hg.block b hb.2.1 (by simp)) d (h7 j hj hjk)

/-- Behind take: the same, but for the counter. -/
theorem TA_row {d : Nat} {l : List (Vl d)} {deep n q : Nat} {w wr w1 : World} {k : Nat} {y : Value} {ps : List Value} (h : TA d l deep n q w wr k y ps) (hq : q < w.heap.size) (hg : wr.grownBy w1 (some q)) (o : Obj) : (w1.alloc o).ownsRow w.heap.size 45 1 y k ps := by
  obtain ⟨h1, h2, h3, h4, h5, h6, h7, h8⟩ := h
  have := h3.kept hg (.inr (fun e => own_ne h3 hq e.symm))
  exact this.alloc o

theorem TA_next {d : Nat} {l : List (Vl d)} {deep n q : Nat} {w wr w1 w2 : World} {k : Nat} {y y' p : Value} {ps : List Value} {T : TypeId} (h : TA d l deep n q w wr k y ps) (hq : q < w.heap.size) (hk : k < l.length) (hg : wr.grownBy w1 (some q))
    (ht : Took d l[k] deep (n + pre (partsV d) l k) q wr w1 p) (hown : w2.ownsRow w.heap.size 45 1 y' (k + 1) (ps ++ [p])) (hg2 : (w1.alloc (.cells #[p] T)).grownBy w2 y.ownBlock) (hloc : y'.ownBlock = y.ownBlock ∨ y'.ownBlock = some (w1.alloc (.cells #[p] T)).heap.size) :
    TA d l deep n q w w2 (k + 1) y' (ps ++ [p]) := by
  obtain ⟨h1, h2, h3, h4, h5, h6, h7, h8⟩ := h
  obtain ⟨t1, t2, t3, t4⟩ := ht
  have hps := pre_succ (partsV d) l k hk
  have hal : w1.grownBy (w1.alloc (.cells #[p] T)) none := World.grownBy_alloc w1 _ none
  have hsz : (w1.alloc (.cells #[p] T)).heap.size = w1.heap.size + 1 := by simp
  have hyb : ∀ j, y.ownBlock = some j → w.heap.size ≤ j ∧ j < wr.heap.size := fun j hj => h3.lt j hj
  have hs1 := hg.size
  have hs2 := hg2.size
  have hs8 := h8.size
  refine ⟨hk, by simp [h2], hown, fun j hj hjk => ?_, by rw [hps]; omega, ?_, fun j hj hjk => ?_, ?_⟩
  · by_cases e : j = k
    · subst e; exact t1
    · exact h4 j hj (by omega)
  · rw [hps, ← Nat.add_assoc]
    exact (t3.keep hal (by simp)).keep hg2 (fun e => by have := hyb q e.symm; omega)
  · by_cases e : j = k
    · subst e
      have : (ps ++ [p]).getD j .nilIface = p := by simp [List.getD_eq_getElem?_getD, ← h2]
      rw [this]
      refine PSeg.carry (fun b hb => ⟨by omega, by omega, fun e => ?_⟩) (fun b hb => (hg2.block b (by omega) (fun e => by have := hyb b e.symm; omega)).trans (hal.block b hb.2 (by simp))) d t4
      rcases hloc with e2 | e2
      · have := hyb b (e2.symm.trans e.symm); omega
      · rw [e2] at e; simp at e; omega
    · have hjk' : j < k := by omega
      have : (ps ++ [p]).getD j .nilIface = ps.getD j .nilIface := by
        simp only [List.getD_eq_getElem?_getD]
        rw [List.getElem?_append_left (by omega)]
      rw [this]
      refine PSeg.carry (fun b hb => ⟨hb.1, by omega, fun e => ?_⟩) (fun b hb => (hg2.block b (by omega) hb.2.2).trans ((hal.block b (by omega) (by simp)).trans (hg.block b hb.2.1 (by simp; omega)))) d (h7 j hj hjk')
      rcases hloc with e2 | e2
      · exact hb.2.2 (e.trans e2)
      · rw [e2] at e; simp at e; omega
  · exact grownBy_fresh (grownBy_fresh (grownBy_trans h8 hg) hal (by simp)) hg2 (fun j hj => (hyb j hj).1)

/-- What a good takeAll has brought about. -/
def TookAll (d : Nat) (l : List (Vl d)) (deep n q : Nat) (w w' : World) (y : Value) : Prop :=
  (∀ j (h : j < l.length), goodB d l[j] deep = true) ∧ n + pre (partsV d) l l.length ≤ 40 ∧ Cnt w' q (n + pre (partsV d) l l.length) ∧
    ∃ (a : Option Addr) (cap : Nat) (ps : List Value), y = .slice a l.length cap ∧ (l = [] ∨ ∃ b, a = some ⟨b, 0, none⟩ ∧ w.heap.size ≤ b ∧ b < w'.heap.size ∧ ∀ i, i < l.length → w'.cell? ⟨b, i, none⟩ = some (ps.getD i .nilIface)) ∧ ∀ i (h : i < l.length), PSeg (fun b => w.heap.size ≤ b ∧ b < w'.heap.size) w' d (ps.getD i .nilIface) l[i]

theorem TA_end {d : Nat} {l : List (Vl d)} {deep n q : Nat} {w wr : World} {y : Value} {ps : List Value} (h : TA d l deep n q w wr l.length y ps) : TookAll d l deep n q w wr y := by
  obtain ⟨h1, h2, h3, h4, h5, h6, h7, h8⟩ := h
  have hcell := fun g (hg : y.ownBlock = some g) => h3.lt g hg
  refine ⟨fun j hj => h4 j hj hj, h5, h6, ?_⟩
  have h3' := h3
  rcases h3.2 with ⟨rfl, e0⟩ | ⟨g, cap, cur, rfl, hg, hh, hle, hm, hsz, htk⟩
  · exact ⟨none, 0, ps, by rw [e0], .inl (List.eq_nil_of_length_eq_zero e0), fun i hi => by omega⟩
  · refine ⟨some ⟨g, 0, none⟩, cap, ps, rfl, .inr ⟨g, rfl, hg, (Array.getElem?_eq_some_iff.1 hh).1, fun i hi => ?_⟩, fun i hi => PSeg.carry (fun b hb => ⟨hb.1, hb.2.1⟩) (fun b _ => rfl) d (h7 i hi hi)⟩
    have := World.ownsRow.cellAt h3' i (by omega)
    rw [this]
    simp [List.getD_eq_getElem?_getD, show i < ps.length from by omega]

end Go.Proofs.YtblnpjcmcjebkaaDoor
/-
  takeAll of the program, walked.
-/
namespace Go.Proofs.YtblnpjcmcjebkaaDoor
open Go.RowKit
set_option linter.unusedVariables false
set_option linter.unusedSimpArgs false

theorem PSeg.shape {R : Nat → Prop} {w : World} {d : Nat} {p : Value} {v : Vl d} (h : PSeg R w d p v) : ∃ t x, p = .iface t x := by
  cases d with
  | zero => exact h.elim
  | succ d =>
    rcases h with ⟨_, rfl⟩ | ⟨_, rfl⟩ | ⟨_, rfl⟩ | ⟨_, rfl⟩ | ⟨_, rfl⟩ | ⟨_, _, _, rfl, _⟩ | ⟨_, _, _, rfl, _⟩ <;> exact ⟨_, _, rfl⟩

set_option maxHeartbeats 4000000 in
theorem takeAll_of (d : Nat) (ih : TakeAt d) (N q n : Nat) (x : Value) (l : List (Vl d)) (deep : Nat) (w : World) (hx : LSeg (fun b => b < N) w d x l) (hNq : N ≤ q) (hq : q < w.heap.size) (hc : Cnt w q n) (hn : n ≤ 40) (hd : deep ≤ 6) :
    Calls Tryd.prog 41 #[.pointer (some ⟨q, 0, none⟩), x, .int .i64 deep] w fun e w' =>
      w.grownBy w' (some q) ∧ ((∃ y, e = .returned (.tuple #[y, .bool true]) ∧ TookAll d l deep n q w w' y) ∨ (e = .returned (.tuple #[.slice none 0 0, .bool false]) ∧ ¬ ((∀ j (h : j < l.length), goodB d l[j] deep = true) ∧ n + pre (partsV d) l l.length ≤ 40))) := by
  have HX := hide' hx
  obtain ⟨a4, p4, rfl, hlc, hcm, ka, _⟩ := hx
  unfold maxLen at hcm
  have HI := hide' ih
  have H0 : Hid (TA d l deep n q w w 0 (.slice none 0 0) []) := TA_zero hc hn
  obtain ⟨i0, hi, hz0, hz1, hz2⟩ := info_parts info_part
  clear ih hc
  go_enter Tryd.func41, Tryd.ntmps41
  go_wp2
  go_loopw [8, 15] (fun y i wr => ∃ (k : Nat) (ps : List Value), i = .int .i64 k ∧ TA d l deep n q w wr k y ps) (fun _ i _ => l.length - (intOf i).toNat)
  case atStart => exact ⟨0, [], rfl, H0.out⟩
  case round =>
    obtain ⟨k, ps, rfl, hT⟩ := hrel
    have HT := hide' hT
    obtain ⟨hk, hps, hown, hgood, hple, hcnt, hpseg, hgr⟩ := hT
    clear hgood hpseg hcnt
    by_cases hlt : k < l.length
    · have hlt' : (k : Int) < (l.length : Int) := by omega
      have hag := agree_grown hgr hNq hq
      have hcell : ∃ b off c, a4 = some ⟨b, off, none⟩ ∧ Five wr b (off + k * 5) c ∧ VSeg (fun b => b < N) wr d c (l[k]) := by
        obtain ⟨a', cap', e1, _, _, _, h5⟩ := HX.out
        simp only [Value.slice.injEq] at e1
        obtain ⟨rfl, _, _⟩ := e1
        rcases h5 with h0 | ⟨b, off, rfl, hR, hcc⟩
        · rw [h0] at hlt; simp at hlt
        · obtain ⟨c, h5, hv⟩ := hcc k hlt
          exact ⟨b, off, c, rfl, h5.agree hag hR, VSeg.agree hag d hv⟩
      obtain ⟨b, off, c, rfl, h5', hv⟩ := hcell
      obtain ⟨c0, c1, c2, c3, c4⟩ := c
      obtain ⟨q0, q1, q2, q3, q4⟩ := h5'
      simp only at q0 q1 q2 q3 q4
      have HV := hide' hv
      have hs := hgr.size
      obtain ⟨ck, cn, s2, l2, e2, s3, l3, e3, s4, l4, e4, rfl, rfl, rfl, rfl, rfl⟩ := VSeg.form d hv
      have hgW := World.grownBy_alloc wr (.cells #[.int .i64 ck, .int .i64 cn, .slice s2 l2 e2, .slice s3 l3 e3, .slice s4 l4 e4] 31) none
      have hTW := TA_none HT.out hgW
      have hC := HI.out N q (n + pre (partsV d) l k) _ l[k] deep _ (VSeg.agree (fun b hb => hgW.block b (by omega) (by simp)) d hv) hNq (by simp; omega) hTW.2.2.2.2.2.1 hple hd
      have HC := hide' hC
      have HTW := hide' hTW
      clear hv hag hgr hTW hC hgW
      go_wp2_with fail
      refine HC.out.mono ?_
      rintro e w1 ⟨hg1, hcase⟩
      clear q0 q1 q2 q3 q4
      rcases hcase with ⟨p, rfl, htook⟩ | ⟨rfl, hbad⟩
      · obtain ⟨pt, px, rfl⟩ := htook.2.2.2.shape
        have hrw := TA_row HTW.out hq hg1 (.cells #[.iface pt px] 45)
        have h63 : k + 1 ≤ 40 := by have := pre_ge d l (k + 1) hlt; have := pre_succ (partsV d) l k hlt; have := htook.2.1; omega
        have hs1 := hg1.size
        have hsW := HTW.out.2.2.2.2.2.2.2.size
        have HK := hide' htook
        clear htook hown
        go_wp2_with (at_builtin; refine wpList_append_own_at _ rfl _ _ 69 rfl w.heap.size 45 i0 .nilIface 1 16 Tryd.underlying69 hi hz0 hz1 hz2 rfl (by decide) _ k ps rfl hrw ⟨w1.heap.size, 0, none⟩ 1 1 [.iface pt px] rfl rfl (cell_one_new _ _ _) (by intro u hu; simp at hu; rw [hu]; rfl) (by unfold maxLen; omega) (by omega) (by simp; omega) ?_; intro y' w2 hown' hg2 hnil hloc)
        have hN := TA_next HTW.out hq hlt hg1 HK.out hown' hg2 hloc
        clear hown' hg2 hnil hloc hrw HK HTW HC
        go_wp2
        go_roundw
        case rel => exact ⟨k + 1, _, by go_num, hN⟩
        case measure => simp [intOf]; omega
      · have hgf := grownBy_trans HTW.out.2.2.2.2.2.2.2 hg1
        have hno : ¬ ((∀ j (h : j < l.length), goodB d l[j] deep = true) ∧ n + pre (partsV d) l l.length ≤ 40) := fun ⟨h1, h2⟩ => hbad ⟨h1 k hlt, by
          have h3 := pre_succ (partsV d) l k hlt
          have h4 := pre_le (partsV d) l (k + 1)
          have h5 := pre_all (partsV d) l
          omega⟩
        go_wp2
        go_ret2
        exact ⟨hgf, .inr ⟨rfl, hno⟩⟩
    · have hkn : k = l.length := by omega
      have hlt' : ¬ (k : Int) < (l.length : Int) := by omega
      rw [hkn] at HT
      have hE := TA_end HT.out
      have hgf := HT.out.2.2.2.2.2.2.2
      clear hkn
      go_wp2
      go_ret2
      exact ⟨hgf, .inl ⟨_, rfl, hE⟩⟩
end Go.Proofs.YtblnpjcmcjebkaaDoor
/-
  A slice of parts, read place by place; no statement is proved here.
-/
namespace Go.Proofs.YtblnpjcmcjebkaaDoor
open Go.RowKit
set_option linter.unusedVariables false

theorem PLSeg.at {R : Nat → Prop} {w : World} {d : Nat} {a : Option Addr} {n cap : Nat} {l : List (Vl d)} (h : PLSeg R w d (.slice a n cap) l) {k : Nat} (hk : k < l.length) : ∃ b off t x, a = some ⟨b, off, none⟩ ∧ R b ∧ w.cell? ⟨b, off + k, none⟩ = some (.iface t x) ∧ PSeg R w d (.iface t x) (l[k]) := by
  obtain ⟨a', cap', e, hc⟩ := h
  simp only [Value.slice.injEq] at e
  obtain ⟨rfl, _, _⟩ := e
  rcases hc with h0 | ⟨b, off, rfl, hR, hc⟩
  · rw [h0] at hk; simp at hk
  · obtain ⟨u, hu, hv⟩ := hc k hk
    obtain ⟨t, x, rfl⟩ := hv.shape
    exact ⟨b, off, t, x, rfl, hR, hu, hv⟩

theorem PLSeg.grow {w w' : World} {d : Nat} {x : Value} {l : List (Vl d)} (h : PLSeg (fun b => b < w.heap.size) w d x l) (hb : Below w.heap.size w w') : PLSeg (fun b => b < w.heap.size) w' d x l := by
  obtain ⟨a, cap, e, hc⟩ := h
  refine ⟨a, cap, e, ?_⟩
  rcases hc with h0 | ⟨b, off, e1, hR, hc⟩
  · exact .inl h0
  · refine .inr ⟨b, off, e1, hR, fun i hi => ?_⟩
    obtain ⟨u, hu, hv⟩ := hc i hi
    exact ⟨u, (cell_agree (agree_below hb) hR).trans hu, PSeg.carry (fun b hb => hb) (agree_below hb) d hv⟩
end Go.Proofs.YtblnpjcmcjebkaaDoor
