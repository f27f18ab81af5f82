/-
  Texts that a law leans on, one behind the other; no statement is proved here.
-/
import Derived.Shelf.Lay
import Derived.Shelf.LaySoft
import Derived.Shelf.Small.Utf8
import Derived.Shelf.Small.Bits
import Derived.Shelf.Strconv.Atoi
import Derived.Shelf.Strconv.Itoa0
import Derived.Shelf.Strconv.Itoa1
import Derived.Shelf.LaysM
import Derived.Shelf.Strconv.Itoa2
import Derived.Shelf.Strconv.AtoiErrFast
import Derived.Shelf.Strconv.ParseIntEmpty
import Derived.Shelf.Strconv.AtoiFail
import Derived.Shelf.Strconv.Clone
import Derived.Shelf.Strconv.SyntaxError
import Derived.Shelf.LaysC
import Derived.Shelf.Strconv.ToError
import Derived.Shelf.Strconv.Lower
import Derived.Shelf.Strconv.ParseUint10
import Derived.Shelf.Strconv.ParseUint10Empty
import Derived.Shelf.Strconv.ParseUint10Any
import Derived.Shelf.Strconv.ParseInt10
import Derived.Shelf.Strconv.AtoiLong
import Derived.Shelf.Strconv.AtoiInnerAll
import Derived.Shelf.Strconv.RangeError
import Derived.Shelf.Strconv.ToErrorRange
import Derived.Shelf.Strconv.AtoiAll
import Derived.Shelf.Strconv.ErrVarAll
import Derived.Shelf.Strings.Search1
import Derived.Ground.GgsProg
import Derived.Shelf.GgSortFunc.Insertion
import Derived.Shelf.GgSortFunc.Small
import Derived.Shelf.GgSortFunc.InsertionK
import Derived.Shelf.GgSortFunc.SmallK
import Derived.Shelf.GgSortFunc.Compose
import Derived.Shelf.GgSortFunc.LotD
import Derived.Shelf.Strconv.AppendUint10
import Derived.Shelf.Strconv.AppendInt10
import Derived.Shelf.Strconv.AppendIntPublic10
import Derived.Shelf.Bytes.SlIndexSmall
import Derived.Shelf.Bytes.SlIndexAt
import Derived.Shelf.Bytes.SlSearch0
import Derived.Shelf.Bytes.SlSearch1
import Derived.Shelf.Bytes.SlSearch2
import Derived.Shelf.Bytes.SlIndexWhole
import Derived.Shelf.SlSortFunc.Xorshift
import Derived.Shelf.SlSortFuncK.ComposeK
import Derived.Shelf.SlSortFuncK.SiftDownK
import Derived.Shelf.SlSortFuncK.HeapSortK
import Derived.Shelf.SlSortFuncK.PartialInsertionK
import Derived.Shelf.SlSortFuncK.LotDK
import Derived.Shelf.SlSortFuncK.PivotK
import Derived.Shelf.SlSortFuncK.PartitionK
import Derived.Shelf.SlSortFuncK.PdqK
import Derived.Shelf.SlSortFuncK.WholeK
import Derived.Shelf.Bytes.SlEqualAll
import Derived.Ground.SlbtProg
import Derived.Shelf.Bytes.SlCut
import Derived.Shelf.Bytes.Small
import Derived.Shelf.Bytes.IndexByte
import Derived.Shelf.Bytes.SlTrim
import Derived.Ground.SlbvProg
import Derived.Shelf.GgSortFunc.Tiny
import Derived.Test.YtbmgkmnibjdpiaaGreatDoorProg
import Derived.Test.YtbmgkmnibjdpiaaGreatDoorPk0
import Derived.Lib.AppendStr
/-
  DERIVED: LAID BY THE SHELF's lay-shelf.mjs AT THE DUMP 'toys/ytbmgkmnibjdpiaagreatdoor/ytbmgkmnibjdpiaagreatdoor.cut.gsa' (alias 'Tryz'): THE LIBRARY CONTRACTS THAT ARE PROVED ONCE, OVER ANY PROGRAM AND ANY NUMBERING, AS THEOREMS OF THIS PROGRAM: WITHOUT A WALK: 'shelf_lay' reads the table of numbers off the bodies and has the kernel compare each body; then each contract is ONE APPLICATION. EACH COMMAND STANDS UNDER 'shelf_try': one that errs is rolled back and told in the build's print ('SHELF: NOT LAID: <name>: ..'); THE MODULE's LAST ROW OF PRINT COUNTS THEM ('SHELF: n LAID, m NOT LAID'): READ IT: a contract that is not laid is not there to be used.
-/
namespace Go.Proofs
open Go.Shelf
shelf_try shelf_lay LaysC.n172 Nm 172 at Tryz as Tryz.laysC172
shelf_try shelf_lay LaysM.n288 Nm 288 at Tryz as Tryz.laysM288
shelf_try shelf_lay Lays.n185 Nm 185 at Tryz as Tryz.lays185
shelf_try shelf_lay Lays.nb115 Nm 115 at Tryz as Tryz.laysnb115
shelf_try shelf_lay SlLaysT.n4 Slbt 4 at Tryz as Tryz.laysSlT4
shelf_try shelf_lay SlLaysV.n7 Slbv 7 at Tryz as Tryz.laysV7
shelf_try shelf_lay SlLaysV.n6 Slbv 6 at Tryz as Tryz.laysV6
shelf_try shelf_lay LaysGg.n6 Ggs 6 at Tryz as Tryz.laysGg6
shelf_try open Go.RowKit in
/-- strconv.Atoi, AT EVERY STRING THAT SPELLS AN int ('Lib.atoiAll .. = .ok v'; of whatever length: leading zeros count): v, AND NO ERROR. The world: as it was, or with the one new row that '[]byte(..)' lays. (LAID: no walk: one application.) -/
theorem Tryz.strconv_Atoi_ok (s : ByteArray) (hmax : s.size ≤ 9223372036854775806) (v : Int) (h : Lib.atoiAll s.data.toList = .ok v) (w : World) :
    Calls Tryz.prog 79 #[.string s] w fun e w' => e = .returned (.tuple #[.int .i64 v, .nilIface]) ∧ (w' = w ∨ ∃ t, w' = Lib.bytesWorld w 5 t) := Any.strconv_Atoi_ok Tryz.laysC172 s hmax v h w
shelf_try open Go.RowKit in
theorem Tryz.strconv_Atoi_syntax_var (s : ByteArray) (hlim : s.size ≤ 281474976710656) (h : Lib.atoiAll s.data.toList = .«syntax») (tp : TypeId) (p : Value) (w : World) (hvar : w.var? Tryz.prog "strconv.ErrSyntax" = some #[.iface tp p]) :
    Calls Tryz.prog 79 #[.string s] w fun e w' => ∃ N, e = .returned (.tuple #[.int .i64 0, .iface 187 (.pointer (some ⟨N, 0, none⟩))]) ∧ w.heap.size ≤ N ∧ w'.heap[N]? = some (.cells #[.string ⟨#[65, 116, 111, 105]⟩, .string s, .iface tp p] 202 (0, 0)) ∧ Below w.heap.size w w' := Any.strconv_Atoi_syntax_var Tryz.laysC172 s hlim h tp p w hvar
shelf_try open Go.RowKit in
theorem Tryz.strconv_Atoi_range_var (s : ByteArray) (hlim : s.size ≤ 281474976710656) (h : Lib.atoiAll s.data.toList = .range) (tp : TypeId) (p : Value) (w : World) (hvar : w.var? Tryz.prog "strconv.ErrRange" = some #[.iface tp p]) :
    Calls Tryz.prog 79 #[.string s] w fun e w' => ∃ N, e = .returned (.tuple #[.int .i64 (Lib.atoiSat s.data.toList), .iface 187 (.pointer (some ⟨N, 0, none⟩))]) ∧ w.heap.size ≤ N ∧ w'.heap[N]? = some (.cells #[.string ⟨#[65, 116, 111, 105]⟩, .string s, .iface tp p] 202 (0, 0)) ∧ Below w.heap.size w w' := Any.strconv_Atoi_range_var Tryz.laysC172 s hlim h tp p w hvar
shelf_try open Go.RowKit Go.Sort Go.Lib in
/-- internal/strconv.AppendUint(dst, i, 10), i BELOW 100: WHAT COMES BACK OWNS dst's CELLS AND, BEHIND THEM, i's DECIMAL NUMERAL. No table is read. Below the call's own blocks nothing has turned. (LAID: no walk: one application.) -/
theorem Tryz.internal_strconv_AppendUint_10_small (B n u : Nat) (hu : u < 100) (sv : Value) (xs : List Value) (w : World) (hown : w.ownsRow B 5 1 sv n xs) (hBw : B ≤ w.heap.size) (hlim : n + 20 ≤ 140737488355328) :
    Calls Tryz.prog 154 #[sv, .int .u64 u, .int .i64 10] w fun e w' => ∃ v', e = .returned v' ∧ w'.ownsRow B 5 1 v' (n + (Lib.decDigits u).length) (xs ++ Lib.byteCells (Lib.decDigits u)) ∧ Below B w w' ∧ Lib.OthersKept 5 none w w' := Any.internal_strconv_AppendUint_10_small Tryz.laysM288 B n u hu sv xs w hown hBw hlim
shelf_try open Go.RowKit Go.Lib in
/-- bytes.Index at a separator of one byte: "Index returns the index of the first instance of sep in s, or -1 if sep is not present in s.": 'Lib.indexByte' of s's bytes and that byte; the world is as it was. 'xs': s's elements; 'cv': the separator's one byte. (LAID: no walk: one application.) -/
theorem Tryz.bytes_Index_one (b o n c b2 o2 d : Nat) (xs : List Int) (cv : Int) (w : World) (hx : xs.length = n) (hc : ∀ i, i < n → w.cell? ⟨b, o + i, none⟩ = some (.int .u8 (xs.getD i 0))) (hc2 : w.cell? ⟨b2, o2, none⟩ = some (.int .u8 cv)) :
    Calls Tryz.prog 94 #[.slice (some ⟨b, o, none⟩) n c, .slice (some ⟨b2, o2, none⟩) 1 d] w fun e w' => e = .returned (.int .i64 (Lib.indexByte (Lib.bytesOf xs) cv.toNat.toUInt8)) ∧ w' = w := Any.bytes_Index_one Tryz.lays185 b o n c b2 o2 d xs cv w hx hc hc2
shelf_try open Go.RowKit Go.Lib in
/-- The same where s is nil: -1. (LAID: no walk: one application.) -/
theorem Tryz.bytes_Index_one_nil (b2 o2 d : Nat) (cv : Int) (w : World) (hc2 : w.cell? ⟨b2, o2, none⟩ = some (.int .u8 cv)) :
    Calls Tryz.prog 94 #[.slice none 0 0, .slice (some ⟨b2, o2, none⟩) 1 d] w fun e w' => e = .returned (.int .i64 (-1)) ∧ w' = w := Any.bytes_Index_one_nil Tryz.lays185 b2 o2 d cv w hc2
shelf_try open Go.RowKit Go.Lib in
/-- bytes.Index at a separator of one byte, s at whatever address. (LAID: no walk: one application.) -/
theorem Tryz.bytes_Index_one_at (a : Addr) (n c b2 o2 d : Nat) (xs : List Int) (cv : Int) (w : World) (hx : xs.length = n) (hc : ∀ i, i < n → w.cell? (a.add i) = some (.int .u8 (xs.getD i 0))) (hc2 : w.cell? ⟨b2, o2, none⟩ = some (.int .u8 cv)) :
    Calls Tryz.prog 94 #[.slice (some a) n c, .slice (some ⟨b2, o2, none⟩) 1 d] w fun e w' => e = .returned (.int .i64 (Lib.indexByte (Lib.bytesOf xs) cv.toNat.toUInt8)) ∧ w' = w := Any.bytes_Index_one_at Tryz.lays185 a n c b2 o2 d xs cv w hx hc hc2
shelf_try /-- bytes.Equal: WHOLE. (LAID: no walk: one application.) -/
theorem Tryz.bytes_Equal_all (p1 p2 : Option Addr) (n c m d : Nat) (xs ys : List Int) (w : World) (hx : xs.length = n) (hy : ys.length = m) (h1 : Lib.BytesIn w p1 n xs) (h2 : Lib.BytesIn w p2 m ys) :
    Calls Tryz.prog 81 #[.slice p1 n c, .slice p2 m d] w fun e w' => e = .returned (.bool (Lib.bytesOf xs == Lib.bytesOf ys)) ∧ w' = w := Any.bytes_Equal_all Tryz.laysnb115 p1 p2 n c m d xs ys w hx hy h1 h2
shelf_try /-- THE WALK, bytes.Index's answer a premise: whatever the two slices' addresses. (LAID: no walk: one application.) -/
theorem Tryz.bytes_Cut_of (p1 p2 : Option Addr) (n c1 k c2 : Nat) (i : Int) (w : World) (hcap : n ≤ c1) (hlo : -1 ≤ i) (hroom : 0 ≤ i → i + k ≤ n) (hn : n ≤ 4611686018427387904) (hidx : Calls Tryz.prog 94 #[.slice p1 n c1, .slice p2 k c2] w fun e w' => e = .returned (.int .i64 i) ∧ ∃ q, w' = w.drewN q) :
    Calls Tryz.prog 77 #[.slice p1 n c1, .slice p2 k c2] w fun e w' => e = .returned (Lib.cutV p1 n c1 k i) ∧ ∃ q, w' = w.drewN q := Any.bytes_Cut_of Tryz.laysSlT4 p1 p2 n c1 k c2 i w hcap hlo hroom hn hidx
shelf_tried
end Go.Proofs
/-
  strconv.AppendInt at a small number: its digits behind what is there.
-/
namespace Go.Proofs.YtbmgkmnibjdpiaaGreatDoor
open Go.RowKit
set_option linter.unusedVariables false

theorem byteCells_decI (u : Nat) : Lib.byteCells (Lib.decDigits u) = cellsOf (decI u) := by
  unfold Lib.byteCells cellsOf decI
  rw [List.map_map]
  rfl
theorem length_decI (u : Nat) : (Lib.decDigits u).length = (decI u).length := by simp [decI]

set_option maxHeartbeats 800000 in
theorem AppendInt_kept (B u : Nat) (sv : Value) (xs : List Int) (w : World) (hu : u < 100) (hB : Bts w B sv xs) (hBw : B ≤ w.heap.size) (hl : xs.length ≤ 2097152) :
    Calls Tryz.prog 105 #[sv, .int .i64 u, .int .i64 10] w fun e w' => ∃ v, e = .returned v ∧ Bts w' B v (xs ++ decI u) ∧ Below B w w' ∧ Lib.OthersKept 5 none w w' := by
  have HU := hide' (Tryz.internal_strconv_AppendUint_10_small B xs.length u hu sv (cellsOf xs) w hB.2 hBw (by omega))
  have HF : Hid (∀ v' w', w'.ownsRow B 5 1 v' (xs.length + (Lib.decDigits u).length) (cellsOf xs ++ Lib.byteCells (Lib.decDigits u)) → Bts w' B v' (xs ++ decI u)) := by
    intro v' w' h
    refine ⟨?_, ?_⟩
    · intro z hz
      rcases List.mem_append.1 hz with h1 | h1
      · exact hB.1 z h1
      · exact decI_byt u z h1
    · rw [byteCells_decI, length_decI, ← cellsOf_append] at h
      rw [List.length_append]
      exact h
  have h0 : ¬ (u : Int) < 0 := by omega
  have HI : Hid (Calls Tryz.prog 140 #[sv, .int .i64 u, .int .i64 10] w fun e w' => ∃ v, e = .returned v ∧ Bts w' B v (xs ++ decI u) ∧ Below B w w' ∧ Lib.OthersKept 5 none w w') := by
    show Calls _ _ _ _ _
    clear hB
    go_enter Tryz.func140, Tryz.ntmps140
    go_wp2_with fail
    refine HU.out.mono ?_
    rintro e w1 ⟨v1, rfl, ho, hb, hk⟩
    have HB := hide' (HF.out _ _ ho)
    clear ho
    go_wp2
    go_ret
    exact ⟨_, rfl, HB.out, hb, hk⟩
  clear hB HU HF
  go_enter Tryz.func105, Tryz.ntmps105
  go_wp2_with fail
  refine HI.out.mono ?_
  rintro e w1 ⟨v1, rfl, hB1, hb, hk⟩
  go_wp2
  go_ret
  exact ⟨_, rfl, hB1, hb, hk⟩

theorem AppendInt_small (B u : Nat) (sv : Value) (xs : List Int) (w : World) (hu : u < 100) (hB : Bts w B sv xs) (hBw : B ≤ w.heap.size) (hl : xs.length ≤ 2097152) :
    Calls Tryz.prog 105 #[sv, .int .i64 u, .int .i64 10] w fun e w' => ∃ v, e = .returned v ∧ Bts w' B v (xs ++ decI u) ∧ Below B w w' :=
  (AppendInt_kept B u sv xs w hu hB hBw hl).mono fun e w' ⟨v, h1, h2, h3, _⟩ => ⟨v, h1, h2, h3⟩
end Go.Proofs.YtbmgkmnibjdpiaaGreatDoor
/-
  AddrItem of the program and of the specification: a name with a number.
-/
namespace Go.Proofs.YtbmgkmnibjdpiaaGreatDoor
open Go.RowKit
set_option linter.unusedVariables false

/-- What AddrItem answers. -/
def addrItem (xs : List Int) (n : Int) : List Int := if nameB xs = true ∧ 0 ≤ n ∧ n ≤ 99 then xs ++ [91] ++ decI n.toNat ++ [93] else []
theorem addrItem_no (xs : List Int) (n : Int) (h : ¬ (nameB xs = true ∧ 0 ≤ n ∧ n ≤ 99)) : addrItem xs n = [] := if_neg h
theorem addrItem_yes (xs : List Int) (u : Nat) (h1 : nameB xs = true) (h2 : u ≤ 99) : addrItem xs u = xs ++ [91] ++ decI u ++ [93] := by
  unfold addrItem
  rw [if_pos ⟨h1, by omega, by omega⟩]
  simp
theorem addrItem_len (xs : List Int) (n : Int) : (addrItem xs n).length ≤ 12 := by
  unfold addrItem
  split
  · rename_i h
    have h1 := nameB_le h.1
    have h2 := decI_two (u := n.toNat) (by omega)
    simp; omega
  · simp

set_option maxHeartbeats 800000 in
theorem impl_AddrItem_any (a : Option Addr) (c1 : Nat) (xs : List Int) (n : Int) (w : World) (ha : Seg w a xs) (ka : a = none → c1 = 0) (hl : xs.length ≤ maxLen) :
    Calls Tryz.prog 82 #[.slice a xs.length c1, .int .i64 n] w fun e w' => ∃ v, e = .returned v ∧ Bts w' w.heap.size v (addrItem xs n) ∧ Below w.heap.size w w' := by
  have HA := hide' (impl_NameOk_any a c1 xs w ha hl)
  by_cases h1 : nameB xs = true
  · rw [h1] at HA
    by_cases h2 : n < 0
    · have Hp : Hid (addrItem xs n = []) := addrItem_no xs n fun h => by omega
      go_enter Tryz.func82, Tryz.ntmps82
      go_wp2_with fail
      refine HA.out.mono ?_
      rintro e w1 ⟨rfl, rfl⟩
      go_wp2
      go_ret
      exact ⟨_, rfl, by rw [Hp.out]; exact bts_nil _ _, Below.refl _ _⟩
    · by_cases h3 : 99 < n
      · have Hp : Hid (addrItem xs n = []) := addrItem_no xs n fun h => by omega
        go_enter Tryz.func82, Tryz.ntmps82
        go_wp2_with fail
        refine HA.out.mono ?_
        rintro e w1 ⟨rfl, rfl⟩
        go_wp2
        go_ret
        exact ⟨_, rfl, by rw [Hp.out]; exact bts_nil _ _, Below.refl _ _⟩
      · obtain ⟨u, rfl⟩ : ∃ u : Nat, n = u := ⟨n.toNat, by omega⟩
        have hu : u ≤ 99 := by omega
        have hd2 := decI_two (u := u) (by omega)
        have HN := hide' (nameAlone_any a c1 xs w ha ka hl)
        have hnc : nameC xs = xs := by simp [nameC, h1]
        rw [hnc] at HN
        have hl8 := (nameB_le h1).2
        have Hp : Hid (addrItem xs u = xs ++ [91] ++ decI u ++ [93]) := addrItem_yes xs u h1 hu
        have HI : Hid (∀ (v : Value) (w1 : World), Bts w1 w.heap.size v (xs ++ [91]) → w.heap.size ≤ w1.heap.size → Calls Tryz.prog 105 #[v, .int .i64 u, .int .i64 10] w1 fun e w' => ∃ v', e = .returned v' ∧ Bts w' w.heap.size v' (xs ++ [91] ++ decI u) ∧ Below w.heap.size w1 w') := fun v w1 hv hz => AppendInt_small w.heap.size u v (xs ++ [91]) w1 (by omega) hv hz (by simp; omega)
        go_enter Tryz.func82, Tryz.ntmps82
        go_wp2_with fail
        refine HA.out.mono ?_
        rintro e w1 ⟨rfl, rfl⟩
        go_wp2_with fail
        refine HN.out.mono ?_
        rintro e w2 ⟨v2, rfl, hv2, hB2⟩
        have hz2 := hB2.size
        have hA2 := hv2.alloc (.cells #[.int .u8 91] 5)
        have hS2 := seg_one w2 91 (by simp [Byt])
        have hB2a := hB2.alloc hz2 (.cells #[.int .u8 91] 5)
        go_wp2_with (at_builtin; refine wpList_append_seg rfl (.tmp 18) (.tmp 19) (by rfl) w.heap.size v2 xs [91] (by rfl) hA2 _ 1 1 rfl (by rfl) hS2 (by simp) (by simp; omega) (by simp; omega) ?_; intro v3 w3 hv3 hg3; have hB3 := hB2a.grown hg3 (by simp; omega) hA2.own; have hz3 := hB3.size; clear hv2 hA2 hB2 hB2a hS2 hg3)
        refine (HI.out _ _ hv3 hz3).mono ?_
        rintro e w4 ⟨v4, rfl, hv4, b4⟩
        have hB4 := hB3.trans b4
        have hz4 := hB4.size
        have hA4 := hv4.alloc (.cells #[.int .u8 93] 5)
        have hS4 := seg_one w4 93 (by simp [Byt])
        have hB4a := hB4.alloc hz4 (.cells #[.int .u8 93] 5)
        clear hv3 hB3 b4
        go_wp2_with (at_builtin; refine wpList_append_seg rfl (.tmp 23) (.tmp 24) (by rfl) w.heap.size v4 (xs ++ [91] ++ decI u) [93] (by rfl) hA4 _ 1 1 rfl (by rfl) hS4 (by simp) (by simp; omega) (by simp; omega) ?_; intro v6 w6 hv6 hg6; have hB6 := hB4a.grown hg6 (by simp; omega) hA4.own; clear hv4 hA4 hB4 hB4a hS4 hg6)
        go_ret
        exact ⟨_, rfl, by rw [Hp.out]; exact hv6, hB6⟩
  · have h1' : nameB xs = false := by simpa using h1
    rw [h1'] at HA
    have Hp : Hid (addrItem xs n = []) := addrItem_no xs n fun h => h1 h.1
    go_enter Tryz.func82, Tryz.ntmps82
    go_wp2_with fail
    refine HA.out.mono ?_
    rintro e w1 ⟨rfl, rfl⟩
    go_wp2
    go_ret
    exact ⟨_, rfl, by rw [Hp.out]; exact bts_nil _ _, Below.refl _ _⟩

end Go.Proofs.YtbmgkmnibjdpiaaGreatDoor
/-
  A string of bytes as cells; 'append(out, s...)' of a string.
-/
namespace Go.Proofs.YtbmgkmnibjdpiaaGreatDoor
open Go.RowKit
set_option linter.unusedVariables false

theorem strCells_of {xs : List Int} (h : ∀ x ∈ xs, Byt x) : Lib.strCells (strOf xs) = cellsOf xs := by
  show (u8s xs).map (fun b => Value.int .u8 (b.toNat : Int)) = _
  unfold u8s cellsOf
  rw [List.map_map]
  refine List.map_congr_left fun x hx => ?_
  have hb := h x hx
  unfold Byt at hb
  simp
  omega

theorem size_strOf (xs : List Int) : (strOf xs).size = xs.length := by simp [strOf, ByteArray.size]

/-- 'append(out, s...)', out nil or the call's own, s a string: what is owned grows by the bytes of s. -/
theorem wpList_append_text {w : World} {ops : Array Oper} {rest : List Oper} {o : Oper} {a : Act} {Q : Exit → Act → World → Prop} (hgd : o.guard = none) (s x : Operand) (t : TypeId)
    (ho : o.op = .call { callee := .builtin .append, args := #[s, x], argTypes := #[22, t] }) (ht : Tryz.prog.underlying t = some .string)
    (base : Nat) (v : Value) (xs ys : List Int) (hs : a.eval s = v) (hB : Bts w base v xs) (sx : ByteArray) (hsx : sx = strOf ys) (hy : ∀ y ∈ ys, Byt y) (hx : a.eval x = .string sx)
    (hlen : xs.length + ys.length ≤ 1099511627776) (hbase : base ≤ w.heap.size)
    (h : ∀ v' w', Bts w' base v' (xs ++ ys) → w.grownBy w' v.ownBlock → wpList Tryz.prog ops Q rest (a.put o.dst v') w') : wpList Tryz.prog ops Q (o :: rest) a w := by
  obtain ⟨i0, hi, hz0, hz1, hz2⟩ := info_parts info5
  subst hsx
  have hsz := size_strOf ys
  refine Lib.wpList_append_own_string w hgd s x 22 t ho base 5 i0 Tryz.underlying22 ht hi hz0 hz1 hz2 v xs.length (cellsOf xs) hs hB.2 (strOf ys) hx (by unfold maxLen; omega) (by omega) hbase ?_
  intro v' w' hown hg _
  refine h v' w' ⟨?_, ?_⟩ hg
  · intro z hz
    rcases List.mem_append.1 hz with h1 | h1
    · exact hB.1 z h1
    · exact hy z h1
  · rw [strCells_of hy, hsz, ← cellsOf_append] at hown
    rw [List.length_append]
    exact hown

end Go.Proofs.YtbmgkmnibjdpiaaGreatDoor
