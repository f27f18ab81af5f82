/-
  Texts that a law leans on, one behind the other; no statement is proved here.
-/
import Derived.Test.YtenfnbnhdmkhkaaPk15
import Derived.Test.YtenfnbnhdmkhkaaPk23
import Derived.Maps.OwnSet
import Derived.Test.YtenfnbnhdmkhkaaPk22
import Derived.Test.YtenfnbnhdmkhkaaPk20
import Derived.Test.YtenfnbnhdmkhkaaPk21
import Derived.Test.YtenfnbnhdmkhkaaPk3
import Derived.Test.YtenfnbnhdmkhkaaPk10
import Derived.Test.YtenfnbnhdmkhkaaPk1
import Derived.Deep.RegionHeld3
import Derived.Laws.IdiomStrings
/-
  l2find of the specification: where a key stands.
-/
namespace Go.Proofs.Ytenfnbnhdmkhkaa
open Go.RowKit
set_option linter.unusedVariables false
set_option linter.unusedSimpArgs false

/-- Where a key stands; -1 where it does not. -/
def findK (ks : List (List Int)) (key : List Int) : Int := match ks.findIdx? (fun k => decide (k = key)) with | some i => i | none => -1

theorem findK_at {ks : List (List Int)} {key : List Int} {k : Nat} (hk : k < ks.length) (hn : ∀ i, i < k → ks.getD i [] ≠ key) (he : ks.getD k [] = key) : findK ks key = k := by
  have : ks.findIdx? (fun x => decide (x = key)) = some k := by
    rw [List.findIdx?_eq_some_iff_getElem]
    refine ⟨hk, ?_, fun j hj => ?_⟩
    · simp [List.getD_eq_getElem?_getD, hk] at he
      simp [he]
    · have h1 := hn j hj
      simp [List.getD_eq_getElem?_getD, (show j < ks.length by omega)] at h1
      simp [h1]
  simp [findK, this]

theorem findK_no {ks : List (List Int)} {key : List Int} (hn : ∀ i, i < ks.length → ks.getD i [] ≠ key) : findK ks key = -1 := by
  have : ks.findIdx? (fun x => decide (x = key)) = none := by
    rw [List.findIdx?_eq_none_iff]
    intro x hx
    obtain ⟨i, hi, rfl⟩ := List.getElem_of_mem hx
    have h1 := hn i hi
    simp [List.getD_eq_getElem?_getD, hi] at h1
    simp [h1]
  simp [findK, this]

end Go.Proofs.Ytenfnbnhdmkhkaa
/-
  What stands under a key in the datum of a map of parts whose keys ascend; no statement is proved here.
-/
namespace Go.Proofs.Ytenfnbnhdmkhkaa
open Go.RowKit
set_option linter.unusedVariables false
set_option linter.unusedSimpArgs false

theorem same_u8s {xs ys : List Int} (hx : ∀ x ∈ xs, Byt x) (hy : ∀ y ∈ ys, Byt y) : (Lit.string (u8s xs)).sameKey (.string (u8s ys)) = decide (xs = ys) := by
  have h := strOf_eq hx hy
  rw [strOf_list, strOf_list] at h
  rw [← h]
  simp [Lit.sameKey]

/-- Where the key is none of the map's. -/
theorem look_no {vK : List (List Int)} {ps : List Value} {n : Nat} {key : List Int} (hy : ∀ y ∈ key, Byt y) (hb : ∀ i, i < n → ∀ x ∈ vK.getD i [], Byt x) (hn : ∀ i, i < n → vK.getD i [] ≠ key) (zd : DataW Value) :
    Maps.has (.map (entF vK ps n)) (.string (u8s key)) = false ∧ (DataW.map (entF vK ps n)).atKey (.string (u8s key)) zd = zd := by
  have hnone : ∀ p ∈ entF vK ps n, p.1.sameKey (.string (u8s key)) = false := by
    intro p hp
    simp only [entF, List.mem_map, List.mem_range] at hp
    obtain ⟨i, hi, rfl⟩ := hp
    rw [same_u8s (hb i hi) hy]
    simpa using hn i hi
  refine ⟨?_, ?_⟩
  · simp only [Maps.has, List.any_eq_false]
    intro p hp
    simp [hnone p hp]
  · have : (entF vK ps n).find? (fun p => p.1.sameKey (.string (u8s key))) = none := by
      rw [List.find?_eq_none]
      intro p hp
      simp [hnone p hp]
    simp [DataW.atKey, this]

/-- Where it is the k-th, and none before it. -/
theorem look_yes {vK : List (List Int)} {ps : List Value} {n k : Nat} {key : List Int} (hy : ∀ y ∈ key, Byt y) (hb : ∀ i, i < n → ∀ x ∈ vK.getD i [], Byt x) (hk : k < n) (hn : ∀ i, i < k → vK.getD i [] ≠ key) (he : vK.getD k [] = key) (zd : DataW Value) :
    Maps.has (.map (entF vK ps n)) (.string (u8s key)) = true ∧ (DataW.map (entF vK ps n)).atKey (.string (u8s key)) zd = .held (ps.getD k .nilIface) := by
  have hfind : (entF vK ps n).find? (fun p => p.1.sameKey (.string (u8s key))) = some (.string (u8s (vK.getD k [])), .held (ps.getD k .nilIface)) := by
    rw [List.find?_eq_some_iff_getElem]
    refine ⟨?_, k, by simpa [entF] using hk, by simp [entF], fun j hj => ?_⟩
    · simp only
      rw [same_u8s (hb k hk) hy]
      simpa using he
    · have hj' : j < n := by omega
      simp only [entF, List.getElem_map, List.getElem_range]
      rw [same_u8s (hb j hj') hy]
      simpa using hn j hj
  refine ⟨?_, by simp [DataW.atKey, hfind]⟩
  simp only [Maps.has, List.any_eq_true]
  exact ⟨_, List.mem_of_find?_eq_some hfind, by have := List.find?_some hfind; simpa using this⟩
end Go.Proofs.Ytenfnbnhdmkhkaa
/-
  The look-up of a key in a map of parts, as the program runs it; no statement is proved here.
-/
namespace Go.Proofs.Ytenfnbnhdmkhkaa
open Go.RowKit
set_option linter.unusedVariables false
set_option linter.unusedSimpArgs false

theorem zero_part (w : World) : (zeroValue 49).run Try.prog w = .ok .nilIface w := by kernel_rfl

theorem look_at {wx : World} {b n k : Nat} {ks : List (List Int)} {ps : List Value} {key : List Int} (hm : wx.ownsMap Try.prog 9 tokR b 64 (mapD ks ps n)) (ha : ∀ i, i < n → stepB ks i = true) (hb : ∀ i, i < n → ∀ x ∈ ks.getD i [], Byt x) (hy : ∀ y ∈ key, Byt y) (hl : key.length ≤ maxLen)
    (hk : k < n) (hn : ∀ i, i < k → ks.getD i [] ≠ key) (he : ks.getD k [] = key) : (Instr.lookup 58 (.map (some b)) (.string (strOf key)) true).run Try.prog wx = .ok (.tuple #[ps.getD k .nilIface, .bool true]) wx := by
  rw [mapD_list ks ps n ha] at hm
  obtain ⟨v, q, hrun, hv⟩ := hm.look_ok (Maps.string_keyed Try.underlying9) Try.underlying58 (zero_part wx) (zd := .held .nilIface) (zp := []) rfl (keyS key hl)
  obtain ⟨h1, h2⟩ := look_yes (ps := ps) hy hb hk hn he (.held .nilIface)
  rw [h1] at hrun
  rw [h2] at hv
  simp only [tokR, Option.some.injEq, Prod.mk.injEq, DataW.held.injEq] at hv
  rw [← hv.1]
  exact hrun

theorem look_none {wx : World} {b n : Nat} {ks : List (List Int)} {ps : List Value} {key : List Int} (hm : wx.ownsMap Try.prog 9 tokR b 64 (mapD ks ps n)) (ha : ∀ i, i < n → stepB ks i = true) (hb : ∀ i, i < n → ∀ x ∈ ks.getD i [], Byt x) (hy : ∀ y ∈ key, Byt y) (hl : key.length ≤ maxLen)
    (hn : ∀ i, i < n → ks.getD i [] ≠ key) : (Instr.lookup 58 (.map (some b)) (.string (strOf key)) true).run Try.prog wx = .ok (.tuple #[.nilIface, .bool false]) wx := by
  rw [mapD_list ks ps n ha] at hm
  obtain ⟨v, q, hrun, hv⟩ := hm.look_ok (Maps.string_keyed Try.underlying9) Try.underlying58 (zero_part wx) (zd := .held .nilIface) (zp := []) rfl (keyS key hl)
  obtain ⟨h1, h2⟩ := look_no (ps := ps) hy hb hn (.held .nilIface)
  rw [h1] at hrun
  rw [h2] at hv
  simp only [tokR, Option.some.injEq, Prod.mk.injEq, DataW.held.injEq] at hv
  rw [hv.1] at hrun
  exact hrun
end Go.Proofs.Ytenfnbnhdmkhkaa
/-
  Which type a part is: the type assertions of a part, at each type.
-/
namespace Go.Proofs.Ytenfnbnhdmkhkaa
open Go.RowKit
set_option linter.unusedVariables false
set_option linter.unusedSimpArgs false

theorem nobool_nullPart (x : Value) (w : World) : (Instr.typeAssert (.iface 102 x) 49 77 true).run Try.prog w = .ok (.tuple #[.agg #[.int .i64 0], .bool false]) w := by kernel_rfl
theorem nobool_unknownPart (x : Value) (w : World) : (Instr.typeAssert (.iface 103 x) 49 77 true).run Try.prog w = .ok (.tuple #[.agg #[.int .i64 0], .bool false]) w := by kernel_rfl
theorem nobool_intPart (x : Value) (w : World) : (Instr.typeAssert (.iface 78 x) 49 77 true).run Try.prog w = .ok (.tuple #[.agg #[.int .i64 0], .bool false]) w := by kernel_rfl
theorem nobool_textPart (x : Value) (w : World) : (Instr.typeAssert (.iface 80 x) 49 77 true).run Try.prog w = .ok (.tuple #[.agg #[.int .i64 0], .bool false]) w := by kernel_rfl
theorem nobool_listPart (x : Value) (w : World) : (Instr.typeAssert (.iface 84 x) 49 77 true).run Try.prog w = .ok (.tuple #[.agg #[.int .i64 0], .bool false]) w := by kernel_rfl
theorem nobool_mapPart (x : Value) (w : World) : (Instr.typeAssert (.iface 60 x) 49 77 true).run Try.prog w = .ok (.tuple #[.agg #[.int .i64 0], .bool false]) w := by kernel_rfl
theorem noint_nullPart (x : Value) (w : World) : (Instr.typeAssert (.iface 102 x) 49 78 true).run Try.prog w = .ok (.tuple #[.agg #[.int .i64 0], .bool false]) w := by kernel_rfl
theorem noint_unknownPart (x : Value) (w : World) : (Instr.typeAssert (.iface 103 x) 49 78 true).run Try.prog w = .ok (.tuple #[.agg #[.int .i64 0], .bool false]) w := by kernel_rfl
theorem noint_textPart (x : Value) (w : World) : (Instr.typeAssert (.iface 80 x) 49 78 true).run Try.prog w = .ok (.tuple #[.agg #[.int .i64 0], .bool false]) w := by kernel_rfl
theorem noint_listPart (x : Value) (w : World) : (Instr.typeAssert (.iface 84 x) 49 78 true).run Try.prog w = .ok (.tuple #[.agg #[.int .i64 0], .bool false]) w := by kernel_rfl
theorem noint_mapPart (x : Value) (w : World) : (Instr.typeAssert (.iface 60 x) 49 78 true).run Try.prog w = .ok (.tuple #[.agg #[.int .i64 0], .bool false]) w := by kernel_rfl
theorem notext_nullPart (x : Value) (w : World) : (Instr.typeAssert (.iface 102 x) 49 80 true).run Try.prog w = .ok (.tuple #[.agg #[.string ⟨#[]⟩], .bool false]) w := by kernel_rfl
theorem notext_unknownPart (x : Value) (w : World) : (Instr.typeAssert (.iface 103 x) 49 80 true).run Try.prog w = .ok (.tuple #[.agg #[.string ⟨#[]⟩], .bool false]) w := by kernel_rfl
theorem notext_listPart (x : Value) (w : World) : (Instr.typeAssert (.iface 84 x) 49 80 true).run Try.prog w = .ok (.tuple #[.agg #[.string ⟨#[]⟩], .bool false]) w := by kernel_rfl
theorem notext_mapPart (x : Value) (w : World) : (Instr.typeAssert (.iface 60 x) 49 80 true).run Try.prog w = .ok (.tuple #[.agg #[.string ⟨#[]⟩], .bool false]) w := by kernel_rfl
theorem nolist_nullPart (x : Value) (w : World) : (Instr.typeAssert (.iface 102 x) 49 84 true).run Try.prog w = .ok (.tuple #[.agg #[.slice none 0 0], .bool false]) w := by kernel_rfl
theorem nolist_unknownPart (x : Value) (w : World) : (Instr.typeAssert (.iface 103 x) 49 84 true).run Try.prog w = .ok (.tuple #[.agg #[.slice none 0 0], .bool false]) w := by kernel_rfl
theorem nolist_mapPart (x : Value) (w : World) : (Instr.typeAssert (.iface 60 x) 49 84 true).run Try.prog w = .ok (.tuple #[.agg #[.slice none 0 0], .bool false]) w := by kernel_rfl
theorem nomap_nullPart (x : Value) (w : World) : (Instr.typeAssert (.iface 102 x) 49 60 true).run Try.prog w = .ok (.tuple #[.agg #[.map none], .bool false]) w := by kernel_rfl
theorem nomap_unknownPart (x : Value) (w : World) : (Instr.typeAssert (.iface 103 x) 49 60 true).run Try.prog w = .ok (.tuple #[.agg #[.map none], .bool false]) w := by kernel_rfl
theorem is_boolPart (x : Value) (w : World) : (Instr.typeAssert (.iface 77 x) 49 77 true).run Try.prog w = .ok (.tuple #[x, .bool true]) w := by kernel_rfl
theorem is_intPart (x : Value) (w : World) : (Instr.typeAssert (.iface 78 x) 49 78 true).run Try.prog w = .ok (.tuple #[x, .bool true]) w := by kernel_rfl
theorem is_textPart (x : Value) (w : World) : (Instr.typeAssert (.iface 80 x) 49 80 true).run Try.prog w = .ok (.tuple #[x, .bool true]) w := by kernel_rfl
theorem is_listPart (x : Value) (w : World) : (Instr.typeAssert (.iface 84 x) 49 84 true).run Try.prog w = .ok (.tuple #[x, .bool true]) w := by kernel_rfl
theorem is_mapPart (x : Value) (w : World) : (Instr.typeAssert (.iface 60 x) 49 60 true).run Try.prog w = .ok (.tuple #[x, .bool true]) w := by kernel_rfl

end Go.Proofs.Ytenfnbnhdmkhkaa
/-
  valueOf of the program: parts without parts.
-/
namespace Go.Proofs.Ytenfnbnhdmkhkaa
open Go.RowKit Go.Shelf
set_option linter.unusedVariables false
set_option linter.unusedSimpArgs false

set_option maxHeartbeats 3200000 in
set_option maxRecDepth 100000 in
theorem valueOf_nullPart  (w : World) : Calls Try.prog 34 #[.iface 102 (.agg #[])] w fun e w' => e = .returned (.agg #[.int .i64 0, .int .i64 0, .slice none 0 0, .slice none 0 0, .slice none 0 0]) ∧ Below w.heap.size w w' := by
  have m1 := meth_nullPart (.agg #[])
  have t1 := nobool_nullPart (.agg #[])
  have t2 := noint_nullPart (.agg #[])
  have t3 := notext_nullPart (.agg #[])
  have t4 := nolist_nullPart (.agg #[])
  have t5 := nomap_nullPart (.agg #[])
  have HK := hide' (kind_nullPart)
  have HA : Hid (∀ o : Obj, Below w.heap.size w (w.alloc o)) := fun o => (Below.refl _ _).alloc (Nat.le_refl _) o
  go_enter Try.func34, Try.ntmps34
  go_wp2_with fail
  refine (HK.out _).mono ?_
  rintro e w1 ⟨rfl, b1⟩
  have hr : w1.heap[w.heap.size]? = some (.cells #[.int .i64 0, .int .i64 0, .slice none 0 0, .slice none 0 0, .slice none 0 0] 26 (0, 0)) := box_row b1
  obtain ⟨r0, r1, r2, r3, r4, rf⟩ := row5 hr
  have f0 := rf 0
  have f1 := rf 1
  have f2 := rf 2
  have f3 := rf 3
  have f4 := rf 4
  obtain ⟨s0, s1, s2, s3, s4, sf⟩ := box_later hr
  have B1 := hide' (Below.on (HA.out _) b1)
  have hlt : w.heap.size < w1.heap.size := (Array.getElem?_eq_some_iff.1 hr).1
  have Hr := hide' hr
  clear b1 rf hr
  go_wp2_with fail
  have hfin := box_later (set5_heap (j := 0) (.int .i64 0) (.int .i64 0) (.slice none 0 0) (.slice none 0 0) (.slice none 0 0) Hr.out)
  simp only [set5, Nat.zero_add] at hfin
  obtain ⟨y0, y1, y2, y3, y4, _⟩ := hfin
  refine bodyPost_ret (v := .agg #[.int .i64 0, .int .i64 0, .slice none 0 0, .slice none 0 0, .slice none 0 0]) (by simp [results, Try.results34, go_sem, y0, y1, y2, y3, y4]) rfl ?_
  refine ⟨rfl, ?_⟩
  have hz := B1.out.size
  have hg := set5_grown w1 w.heap.size 0 (.int .i64 0) (.int .i64 0) (.slice none 0 0) (.slice none 0 0) (.slice none 0 0)
  have hB := B1.out.grown hg hz (by intro j hj; simp at hj; omega)
  have hs5 := set5_size w1 w.heap.size 0 (.int .i64 0) (.int .i64 0) (.slice none 0 0) (.slice none 0 0) (.slice none 0 0)
  exact hB.alloc (by omega) _

set_option maxHeartbeats 3200000 in
set_option maxRecDepth 100000 in
theorem valueOf_unknownPart  (w : World) : Calls Try.prog 34 #[.iface 103 (.agg #[])] w fun e w' => e = .returned (.agg #[.int .i64 6, .int .i64 0, .slice none 0 0, .slice none 0 0, .slice none 0 0]) ∧ Below w.heap.size w w' := by
  have m1 := meth_unknownPart (.agg #[])
  have t1 := nobool_unknownPart (.agg #[])
  have t2 := noint_unknownPart (.agg #[])
  have t3 := notext_unknownPart (.agg #[])
  have t4 := nolist_unknownPart (.agg #[])
  have t5 := nomap_unknownPart (.agg #[])
  have HK := hide' (kind_unknownPart)
  have HA : Hid (∀ o : Obj, Below w.heap.size w (w.alloc o)) := fun o => (Below.refl _ _).alloc (Nat.le_refl _) o
  go_enter Try.func34, Try.ntmps34
  go_wp2_with fail
  refine (HK.out _).mono ?_
  rintro e w1 ⟨rfl, b1⟩
  have hr : w1.heap[w.heap.size]? = some (.cells #[.int .i64 0, .int .i64 0, .slice none 0 0, .slice none 0 0, .slice none 0 0] 26 (0, 0)) := box_row b1
  obtain ⟨r0, r1, r2, r3, r4, rf⟩ := row5 hr
  have f0 := rf 0
  have f1 := rf 1
  have f2 := rf 2
  have f3 := rf 3
  have f4 := rf 4
  obtain ⟨s0, s1, s2, s3, s4, sf⟩ := box_later hr
  have B1 := hide' (Below.on (HA.out _) b1)
  have hlt : w.heap.size < w1.heap.size := (Array.getElem?_eq_some_iff.1 hr).1
  have Hr := hide' hr
  clear b1 rf hr
  go_wp2_with fail
  have hfin := box_later (set5_heap (j := 0) (.int .i64 6) (.int .i64 0) (.slice none 0 0) (.slice none 0 0) (.slice none 0 0) Hr.out)
  simp only [set5, Nat.zero_add] at hfin
  obtain ⟨y0, y1, y2, y3, y4, _⟩ := hfin
  refine bodyPost_ret (v := .agg #[.int .i64 6, .int .i64 0, .slice none 0 0, .slice none 0 0, .slice none 0 0]) (by simp [results, Try.results34, go_sem, y0, y1, y2, y3, y4]) rfl ?_
  refine ⟨rfl, ?_⟩
  have hz := B1.out.size
  have hg := set5_grown w1 w.heap.size 0 (.int .i64 6) (.int .i64 0) (.slice none 0 0) (.slice none 0 0) (.slice none 0 0)
  have hB := B1.out.grown hg hz (by intro j hj; simp at hj; omega)
  have hs5 := set5_size w1 w.heap.size 0 (.int .i64 6) (.int .i64 0) (.slice none 0 0) (.slice none 0 0) (.slice none 0 0)
  exact hB.alloc (by omega) _

set_option maxHeartbeats 3200000 in
set_option maxRecDepth 100000 in
theorem valueOf_boolPart (n : Int) (w : World) : Calls Try.prog 34 #[.iface 77 (.agg #[.int .i64 n])] w fun e w' => e = .returned (.agg #[.int .i64 1, .int .i64 n, .slice none 0 0, .slice none 0 0, .slice none 0 0]) ∧ Below w.heap.size w w' := by
  have m1 := meth_boolPart (.agg #[.int .i64 n])
  have t1 := is_boolPart (.agg #[.int .i64 n])
  have HK := hide' (kind_boolPart n)
  have HA : Hid (∀ o : Obj, Below w.heap.size w (w.alloc o)) := fun o => (Below.refl _ _).alloc (Nat.le_refl _) o
  go_enter Try.func34, Try.ntmps34
  go_wp2_with fail
  refine (HK.out _).mono ?_
  rintro e w1 ⟨rfl, b1⟩
  have hr : w1.heap[w.heap.size]? = some (.cells #[.int .i64 0, .int .i64 0, .slice none 0 0, .slice none 0 0, .slice none 0 0] 26 (0, 0)) := box_row b1
  obtain ⟨r0, r1, r2, r3, r4, rf⟩ := row5 hr
  have f0 := rf 0
  have f1 := rf 1
  have f2 := rf 2
  have f3 := rf 3
  have f4 := rf 4
  obtain ⟨s0, s1, s2, s3, s4, sf⟩ := box_later2 hr
  have B1 := hide' (Below.on (HA.out _) b1)
  have hlt : w.heap.size < w1.heap.size := (Array.getElem?_eq_some_iff.1 hr).1
  have Hr := hide' hr
  clear b1 rf hr
  go_wp2_with fail
  have hfin := box_later2 (set5_heap (j := 0) (.int .i64 1) (.int .i64 n) (.slice none 0 0) (.slice none 0 0) (.slice none 0 0) Hr.out)
  simp only [set5, Nat.zero_add] at hfin
  obtain ⟨y0, y1, y2, y3, y4, _⟩ := hfin
  refine bodyPost_ret (v := .agg #[.int .i64 1, .int .i64 n, .slice none 0 0, .slice none 0 0, .slice none 0 0]) (by simp [results, Try.results34, go_sem, y0, y1, y2, y3, y4]) rfl ?_
  refine ⟨rfl, ?_⟩
  have hz := B1.out.size
  have hg := set5_grown w1 w.heap.size 0 (.int .i64 1) (.int .i64 n) (.slice none 0 0) (.slice none 0 0) (.slice none 0 0)
  have hB := B1.out.grown hg hz (by intro j hj; simp at hj; omega)
  have hs5 := set5_size w1 w.heap.size 0 (.int .i64 1) (.int .i64 n) (.slice none 0 0) (.slice none 0 0) (.slice none 0 0)
  exact (hB.alloc (by omega) _).alloc (by simp; omega) _

set_option maxHeartbeats 3200000 in
set_option maxRecDepth 100000 in
theorem valueOf_intPart (n : Int) (w : World) : Calls Try.prog 34 #[.iface 78 (.agg #[.int .i64 n])] w fun e w' => e = .returned (.agg #[.int .i64 2, .int .i64 n, .slice none 0 0, .slice none 0 0, .slice none 0 0]) ∧ Below w.heap.size w w' := by
  have m1 := meth_intPart (.agg #[.int .i64 n])
  have t1 := nobool_intPart (.agg #[.int .i64 n])
  have t2 := is_intPart (.agg #[.int .i64 n])
  have HK := hide' (kind_intPart n)
  have HA : Hid (∀ o : Obj, Below w.heap.size w (w.alloc o)) := fun o => (Below.refl _ _).alloc (Nat.le_refl _) o
  go_enter Try.func34, Try.ntmps34
  go_wp2_with fail
  refine (HK.out _).mono ?_
  rintro e w1 ⟨rfl, b1⟩
  have hr : w1.heap[w.heap.size]? = some (.cells #[.int .i64 0, .int .i64 0, .slice none 0 0, .slice none 0 0, .slice none 0 0] 26 (0, 0)) := box_row b1
  obtain ⟨r0, r1, r2, r3, r4, rf⟩ := row5 hr
  have f0 := rf 0
  have f1 := rf 1
  have f2 := rf 2
  have f3 := rf 3
  have f4 := rf 4
  obtain ⟨s0, s1, s2, s3, s4, sf⟩ := box_later2 hr
  have B1 := hide' (Below.on (HA.out _) b1)
  have hlt : w.heap.size < w1.heap.size := (Array.getElem?_eq_some_iff.1 hr).1
  have Hr := hide' hr
  clear b1 rf hr
  go_wp2_with fail
  have hfin := box_later2 (set5_heap (j := 0) (.int .i64 2) (.int .i64 n) (.slice none 0 0) (.slice none 0 0) (.slice none 0 0) Hr.out)
  simp only [set5, Nat.zero_add] at hfin
  obtain ⟨y0, y1, y2, y3, y4, _⟩ := hfin
  refine bodyPost_ret (v := .agg #[.int .i64 2, .int .i64 n, .slice none 0 0, .slice none 0 0, .slice none 0 0]) (by simp [results, Try.results34, go_sem, y0, y1, y2, y3, y4]) rfl ?_
  refine ⟨rfl, ?_⟩
  have hz := B1.out.size
  have hg := set5_grown w1 w.heap.size 0 (.int .i64 2) (.int .i64 n) (.slice none 0 0) (.slice none 0 0) (.slice none 0 0)
  have hB := B1.out.grown hg hz (by intro j hj; simp at hj; omega)
  have hs5 := set5_size w1 w.heap.size 0 (.int .i64 2) (.int .i64 n) (.slice none 0 0) (.slice none 0 0) (.slice none 0 0)
  exact (hB.alloc (by omega) _).alloc (by simp; omega) _

end Go.Proofs.Ytenfnbnhdmkhkaa
/-
  valueOf of the program at a text.
-/
namespace Go.Proofs.Ytenfnbnhdmkhkaa
open Go.RowKit Go.Shelf
set_option linter.unusedVariables false
set_option linter.unusedSimpArgs false

/-- After the append: the boxes stand, the row is the call's own. -/
theorem valT_after {w1 w2 : World} {r : Nat} {xs : List Int} {v' : Value} {oV oT : Obj} {n : Nat} {ys : List Value} (hx : ∀ x ∈ xs, Byt x) (hr : w1.heap[r]? = some (.cells #[.int .i64 0, .int .i64 0, .slice none 0 0, .slice none 0 0, .slice none 0 0] 26 (0, 0)))
    (hown : w2.ownsRow (w1.heap.size + 2) 5 1 v' n ys) (hn : n = xs.length) (hys : ys = cellsOf xs) (hg : ((w1.alloc oV).alloc oT).grownBy w2 none) :
    ∃ a cap, v' = .slice a xs.length cap ∧ w2.heap[w1.heap.size]? = some oV ∧ w2.heap[r]? = some (.cells #[.int .i64 0, .int .i64 0, .slice none 0 0, .slice none 0 0, .slice none 0 0] 26 (0, 0)) ∧
      ∃ B, TOwn w2 (.slice a xs.length cap) xs B ∧ (∀ b ∈ B, w1.heap.size + 2 ≤ b ∧ b < w2.heap.size) ∧ Below w1.heap.size w1 w2 ∧ w1.heap.size + 2 ≤ w2.heap.size := by
  subst hn hys
  have hsz : w1.heap.size + 2 ≤ w2.heap.size := by have := hg.size; simp at this; omega
  have hlt := (Array.getElem?_eq_some_iff.1 hr).1
  have hV : w2.heap[w1.heap.size]? = some oV := (hg.block _ (by simp; omega) (by simp)).trans ((Below.heap_alloc _ _ _ (by simp)).trans (MapKept.heap_alloc w1 oV).1)
  have hR := (hg.block r (by simp; omega) (by simp)).trans ((Below.heap_alloc _ _ _ (by simp; omega)).trans ((Below.heap_alloc _ _ _ hlt).trans hr))
  have hB : Below w1.heap.size w1 w2 := (((Below.refl _ w1).alloc (Nat.le_refl _) oV).alloc (by simp) oT).grown hg (by simp; omega) (by simp)
  have hown' := hown
  obtain ⟨hl, ⟨rfl, h0⟩ | ⟨g, cap, cur, rfl, hb, hh, r⟩⟩ := hown
  · have : xs = [] := List.eq_nil_of_length_eq_zero h0
    subst this
    exact ⟨none, 0, rfl, hV, hR, [], ⟨⟨hx, by simp [cellsOf], .inl ⟨rfl, rfl⟩⟩, .inl ⟨rfl, rfl⟩⟩, by simp, hB, hsz⟩
  · exact ⟨some ⟨g, 0, none⟩, cap, rfl, hV, hR, [g], ⟨Bts.free (base := 0) ⟨hx, hl, .inr ⟨g, cap, cur, rfl, Nat.zero_le _, hh, r⟩⟩, .inr ⟨g, cap, rfl, rfl⟩⟩, by intro b hb'; simp at hb'; subst hb'; exact ⟨hb, (Array.getElem?_eq_some_iff.1 hh).1⟩, hB, hsz⟩

set_option maxHeartbeats 3200000 in
set_option maxRecDepth 100000 in
theorem valueOf_textPart (xs : List Int) (hx : ∀ x ∈ xs, Byt x) (hl : xs.length ≤ 64) (w : World) : Calls Try.prog 34 #[.iface 80 (.agg #[.string (strOf xs)])] w fun e w' => ∃ u B, e = .returned (.agg #[.int .i64 3, .int .i64 0, u, .slice none 0 0, .slice none 0 0]) ∧ TOwn w' u xs B ∧ (∀ b ∈ B, w.heap.size ≤ b ∧ b < w'.heap.size) ∧ Below w.heap.size w w' := by
  have hsz : (strOf xs).size = xs.length := size_strOf xs
  have hsc := strCells_of hx
  obtain ⟨i0, hi, hz0, hz1, hz2⟩ := info_parts info5
  generalize strOf xs = sx at *
  have m1 := meth_textPart (.agg #[.string sx])
  have t1 := nobool_textPart (.agg #[.string sx])
  have t2 := noint_textPart (.agg #[.string sx])
  have t3 := is_textPart (.agg #[.string sx])
  have HK := hide' (kind_textPart sx)
  have HA : Hid (∀ o : Obj, Below w.heap.size w (w.alloc o)) := fun o => (Below.refl _ _).alloc (Nat.le_refl _) o
  go_enter Try.func34, Try.ntmps34
  go_wp2_with fail
  refine (HK.out _).mono ?_
  rintro e w1 ⟨rfl, b1⟩
  have hr : w1.heap[w.heap.size]? = some (.cells #[.int .i64 0, .int .i64 0, .slice none 0 0, .slice none 0 0, .slice none 0 0] 26 (0, 0)) := box_row b1
  have B1 := hide' (Below.on (HA.out _) b1)
  have hlt : w.heap.size < w1.heap.size := (Array.getElem?_eq_some_iff.1 hr).1
  have hne : ¬ w.heap.size = w1.heap.size := by omega
  have hne' : ¬ w1.heap.size = w.heap.size := by omega
  have Hr := hide' hr
  clear b1 hr
  go_wp2_with (at_builtin; refine Lib.wpList_append_own_string _ rfl _ _ 22 9 rfl (w1.heap.size + 2) 5 i0 Try.underlying22 Try.underlying9 hi hz0 hz1 hz2 _ 0 [] rfl ⟨rfl, .inl ⟨rfl, rfl⟩⟩ sx rfl (by unfold maxLen; omega) (by omega) (by simp) ?_; intro v' w2 hown hg hnil; obtain ⟨a, cap, hv', hV, hR, B, hT, hBs, hB2, hsz2⟩ := valT_after hx Hr.out hown (by rw [Nat.zero_add]; exact hsz) (by rw [List.nil_append]; exact hsc) hg; clear hown hg hnil; subst hv'; obtain ⟨c0, c1, c2, c3, c4, cf⟩ := row5 hV; have cf2 := cf 2; obtain ⟨r0, r1, r2, r3, r4, rf⟩ := row5 hR; have f0 := rf 0; have f1 := rf 1; have f2 := rf 2; have f3 := rf 3; have f4 := rf 4; replace hV := hide' hV; replace hR := hide' hR; replace hT := hide' hT; replace hBs := hide' hBs; replace hB2 := hide' hB2; clear rf cf)
  have hR3 : (w2.setCell ⟨w1.heap.size, 2, none⟩ (.slice a xs.length cap)).heap[w.heap.size]? = _ := (Below.heap_setCell w2 ⟨w1.heap.size, 2, none⟩ (.slice a xs.length cap) w.heap.size hne).trans hR.out
  have hrow := set5_heap (j := 0) (.int .i64 3) (.int .i64 0) (.slice a xs.length cap) (.slice none 0 0) (.slice none 0 0) hR3
  have hfin := row5 hrow
  simp only [set5, Nat.zero_add] at hfin
  obtain ⟨y0, y1, y2, y3, y4, _⟩ := hfin
  refine bodyPost_ret (v := .agg #[.int .i64 3, .int .i64 0, .slice a xs.length cap, .slice none 0 0, .slice none 0 0]) (by simp [results, Try.results34, go_sem, y0, y1, y2, y3, y4]) rfl ?_
  have hA := grown1 w2 w1.heap.size 2 (.slice a xs.length cap)
  have hsz3 : (w2.setCell ⟨w1.heap.size, 2, none⟩ (.slice a xs.length cap)).heap.size = w2.heap.size := by simp [World.setCell]
  have hB5 := set5_grown (w2.setCell ⟨w1.heap.size, 2, none⟩ (.slice a xs.length cap)) w.heap.size 0 (.int .i64 3) (.int .i64 0) (.slice a xs.length cap) (.slice none 0 0) (.slice none 0 0)
  have hsz4 := set5_size (w2.setCell ⟨w1.heap.size, 2, none⟩ (.slice a xs.length cap)) w.heap.size 0 (.int .i64 3) (.int .i64 0) (.slice a xs.length cap) (.slice none 0 0) (.slice none 0 0)
  have hBn := Below.on B1.out hB2.out
  have hBf := (hBn.grown hA (by omega) (by intro j hj; simp at hj; omega)).grown hB5 (by omega) (by intro j hj; simp at hj; omega)
  refine ⟨_, B, rfl, hT.out.agree fun b h => ?_, fun b h => ?_, hBf⟩
  · have hb := hBs.out b h
    exact (hB5.block b (by omega) (by simp; omega)).trans (hA.block b (by omega) (by simp; omega))
  · have hb := hBs.out b h
    show w.heap.size ≤ b ∧ b < (set5 _ _ _ _ _ _ _ _).heap.size
    omega
end Go.Proofs.Ytenfnbnhdmkhkaa
/-
  valueOf of the program at a list.
-/
namespace Go.Proofs.Ytenfnbnhdmkhkaa
open Go.RowKit Go.Shelf
set_option linter.unusedVariables false
set_option linter.unusedSimpArgs false


/-- The contract of valueOf, at depth d. -/
def ValAt (d : Nat) : Prop := ∀ (N : Nat) (p : Value) (v : Vl d) (deep : Nat) (w : World), PSeg (fun b => b < N) w d p v → N ≤ w.heap.size → goodB d v deep = true → partsV d v ≤ 40 → Calls Try.prog 34 #[p] w (ValEnd d v w)

/-- After k rounds: V's box (block B) holds a list of k values of the call's own, in blocks from 'base' on. -/
def VInv (w1 : World) (B base : Nat) (d : Nat) (l : List (Vl d)) (kk : Int) (y3 : Value) (k : Nat) (wr : World) (x : Value) (cs : List (List Value)) (Bi : List (List Nat)) : Prop :=
  wr.heap[B]? = some (.cells #[.int .i64 kk, .int .i64 0, .slice none 0 0, y3, x] 26 (0, 0)) ∧ RW 26 5 (ItV d l) wr base x k cs Bi ∧ Below B w1 wr ∧ base ≤ wr.heap.size

theorem vinv_step {w1 wr w5 w6 : World} {B base d : Nat} {l : List (Vl d)} {kk : Int} {y3 : Value} {k : Nat} {x : Value} {cs : List (List Value)} {Bi : List (List Nat)} {c : List Value} {Bv : List Nat} {g cp : Nat} {o : Obj} (h : VInv w1 B base d l kk y3 k wr x cs Bi) (hB : B < base)
    (b5 : Below wr.heap.size wr w5) (hv : ItV d l w5 k c Bv) (hBv : ∀ b ∈ Bv, wr.heap.size ≤ b ∧ b < w5.heap.size) (hBn : Bv.Nodup)
    (hown : w6.ownsRow base 26 5 (.slice (some ⟨g, 0, none⟩) (k + 1) cp) (k + 1) (cs.flatten ++ c)) (hg : (w5.alloc o).grownBy w6 x.ownBlock) (hat : x.ownBlock = some g ∨ g = w5.heap.size + 1) :
    w6.heap[B]? = some (.cells #[.int .i64 kk, .int .i64 0, .slice none 0 0, y3, x] 26 (0, 0)) ∧ VInv w1 B base d l kk y3 (k + 1) (w6.setCell ⟨B, 4, none⟩ (.slice (some ⟨g, 0, none⟩) (k + 1) cp)) (.slice (some ⟨g, 0, none⟩) (k + 1) cp) (cs ++ [c]) (Bi ++ [Bv]) ∧ Below wr.heap.size wr w5 := by
  obtain ⟨h1, h2, h3, h4⟩ := h
  have hz5 := b5.size
  have hz6 := hg.size
  simp at hz6
  have hxlt := h2.2.2.1.lt
  have hBw : B < wr.heap.size := by omega
  have hneB : some B ≠ x.ownBlock := fun e => by have := hxlt B e.symm; omega
  have hV6 : w6.heap[B]? = some (.cells #[.int .i64 kk, .int .i64 0, .slice none 0 0, y3, x] 26 (0, 0)) := (hg.block B (by simp; omega) hneB).trans ((Below.heap_alloc _ _ _ (by omega)).trans ((b5.block B hBw).trans h1))
  have hA := grown1 w6 B 4 (.slice (some ⟨g, 0, none⟩) (k + 1) cp)
  have hR := RW.add (w2 := w5.alloc o) (ItV.agree d l) h2 (fun b hb => (Below.heap_alloc _ _ _ (by omega)).trans (b5.block b hb)) (by simp; omega) (ItV.agree d l _ _ _ _ _ hv fun b hb => Below.heap_alloc _ _ _ (hBv b hb).2) (fun b hb => by have := hBv b hb; simp; omega) hBn h4 hown hg (by simpa using hat)
  refine ⟨hV6, ⟨heap_setCell_same w6 B 4 _ _ _ hV6, ?_, ?_, ?_⟩, b5⟩
  · refine hR.agree (ItV.agree d l) (fun b hb => ?_) (by simp [World.setCell])
    have := hR.2.2.2.2.2 b hb
    exact Below.heap_setCell w6 _ _ b (by show b ≠ B; omega)
  · have hb1 : Below B w1 (w5.alloc o) := (Below.trans h3 (b5.mono (by omega))).alloc (by have := h3.size; omega) o
    have hb2 := hb1.grown hg (by simp; omega) (fun j hj => by have := hxlt j hj; omega)
    exact hb2.grown hA (by omega) (by intro j hj; simp at hj; omega)
  · show base ≤ (w6.setCell _ _).heap.size
    simp [World.setCell]
    omega

/-- What a call of valueOf leaves of it. -/
def VCall (B base : Nat) (d : Nat) (l : List (Vl d)) (k : Nat) (wr : World) (x : Value) (xs : List Value) (e : Ending) (w5 : World) : Prop :=
  ∃ (uk un : Int) (s2 : Option Addr) (n2 r2 : Nat) (s3 : Option Addr) (n3 r3 : Nat) (s4 : Option Addr) (n4 r4 : Nat), e = .returned (.agg #[.int .i64 uk, .int .i64 un, .slice s2 n2 r2, .slice s3 n3 r3, .slice s4 n4 r4]) ∧
    ∃ Bv, ItV d l w5 k [.int .i64 uk, .int .i64 un, .slice s2 n2 r2, .slice s3 n3 r3, .slice s4 n4 r4] Bv ∧ (∀ b ∈ Bv, wr.heap.size ≤ b ∧ b < w5.heap.size) ∧ Bv.Nodup ∧ Below wr.heap.size wr w5 ∧ w5.cell? ⟨B, 4, none⟩ = some x ∧ w5.ownsRow base 26 5 x k xs

theorem vinv_call {w1 wr wy w5 : World} {B base d : Nat} {l : List (Vl d)} {kk : Int} {y3 : Value} {k : Nat} {x : Value} {cs : List (List Value)} {Bi : List (List Nat)} {e : Ending} (h : VInv w1 B base d l kk y3 k wr x cs Bi) (hB : B < base) (hk : k < l.length)
    (hy : Below wr.heap.size wr wy) (he : ValEnd d l[k] wy e w5) : VCall B base d l k wr x cs.flatten e w5 := by
  obtain ⟨u0, u1, u2, u3, u4, rfl, Bv, hv, hb, h5⟩ := he
  obtain ⟨uk, un, s2, n2, r2, s3, n3, r3, s4, n4, r4, rfl, rfl, rfl, rfl, rfl⟩ := VOwn.form d hv
  have hb5 := Below.on hy h5
  have hz := hy.size
  refine ⟨uk, un, s2, n2, r2, s3, n3, r3, s4, n4, r4, rfl, Bv, ⟨_, rfl, hk, hv⟩, fun b hm => ?_, VOwn.nodup d hv, hb5, ?_, ?_⟩
  · have := hb b hm; omega
  · exact (World.cell?_of_block (hb5.block B (by have := h.2.2.2; omega))).trans (row5 h.1).2.2.2.2.1
  · exact h.2.1.2.2.1.kept (row := none) ⟨hb5.os, hb5.tape, hb5.output, hb5.size, fun k hk _ => hb5.block k hk⟩ (by cases hv : x.ownBlock <;> simp)
end Go.Proofs.Ytenfnbnhdmkhkaa
/-
  valueOf of the program at a list: the walk.
-/
namespace Go.Proofs.Ytenfnbnhdmkhkaa
open Go.RowKit Go.Shelf
set_option linter.unusedVariables false
set_option linter.unusedSimpArgs false

set_option maxHeartbeats 6400000 in
set_option maxRecDepth 100000 in
theorem valueOf_listPart (d : Nat) (ih : ValAt d) (N : Nat) (a : Option Addr) (cap : Nat) (l : List (Vl d)) (deep : Nat) (w : World) (hp : PLSeg (fun b => b < N) w d (.slice a l.length cap) l) (hN : N ≤ w.heap.size) (hl : l.length ≤ 40) (hgd : ∀ i (h : i < l.length), goodB d l[i] deep = true ∧ partsV d l[i] ≤ 40) :
    Calls Try.prog 34 #[.iface 84 (.agg #[.slice a l.length cap])] w fun e w' => ∃ u, e = .returned (.agg #[.int .i64 4, .int .i64 0, .slice none 0 0, .slice none 0 0, u]) ∧ ∃ B, LOwn w' d u l B ∧ (∀ b ∈ B, w.heap.size ≤ b ∧ b < w'.heap.size) ∧ Below w.heap.size w w' := by
  obtain ⟨i0, hi, hz0, hz1, hz2⟩ := info_parts info_valueT
  have m1 := meth_listPart (.agg #[.slice a l.length cap])
  have t1 := nobool_listPart (.agg #[.slice a l.length cap])
  have t2 := noint_listPart (.agg #[.slice a l.length cap])
  have t3 := notext_listPart (.agg #[.slice a l.length cap])
  have t4 := is_listPart (.agg #[.slice a l.length cap])
  have HK := hide' (kind_listPart a l.length cap)
  have HA : Hid (∀ o : Obj, Below w.heap.size w (w.alloc o)) := fun o => (Below.refl _ _).alloc (Nat.le_refl _) o
  have HP := hide' hp
  have HG := hide' hgd
  clear hp hgd
  go_enter Try.func34, Try.ntmps34
  go_wp2_with fail
  refine (HK.out _).mono ?_
  rintro e w1 ⟨rfl, b1⟩
  have hr : w1.heap[w.heap.size]? = some (.cells #[.int .i64 0, .int .i64 0, .slice none 0 0, .slice none 0 0, .slice none 0 0] 26 (0, 0)) := box_row b1
  have B1 := hide' (Below.on (HA.out _) b1)
  have hlt : w.heap.size < w1.heap.size := (Array.getElem?_eq_some_iff.1 hr).1
  have hne : ¬ w.heap.size = w1.heap.size := by omega
  have hne' : ¬ w1.heap.size = w.heap.size := by omega
  have Hr := hide' hr
  have HV : Hid (∀ o o' : Obj, ((w1.alloc o).alloc o').heap[w1.heap.size]? = some o ∧ Below w1.heap.size w1 ((w1.alloc o).alloc o')) := fun o o' => ⟨(Below.heap_alloc _ _ _ (by simp)).trans (MapKept.heap_alloc w1 o).1, ((Below.refl _ _).alloc (Nat.le_refl _) o).alloc (by simp) o'⟩
  clear b1 hr
  go_wp2_with fail
  go_loopw [44] (fun i wr => ∃ k : Nat, k ≤ l.length ∧ i = .int .i64 k ∧ ∃ x cs Bi, VInv w1 w1.heap.size (w1.heap.size + 2) d l 4 (.slice none 0 0) k wr x cs Bi) (fun i _ => l.length - (intOf i).toNat)
  case atStart => exact ⟨0, Nat.zero_le _, rfl, _, _, _, (HV.out _ _).1, RW.nil _ _ _ _ _, (HV.out _ _).2, by simp⟩
  case round =>
    obtain ⟨k, hk, rfl, x, cs, Bi, hI⟩ := hrel
    have HI := hide' hI
    have hvs : ∃ p c, x = .slice p k c := by
      rcases hI.2.1.2.2.1.2 with ⟨rfl, h0⟩ | ⟨g, cap, cur, rfl, _⟩
      · exact ⟨none, 0, by rw [h0]⟩
      · exact ⟨_, _, rfl⟩
    obtain ⟨vp, vc, rfl⟩ := hvs
    obtain ⟨c0, c1, c2, c3, c4, cf⟩ := row5 hI.1
    have hz4 := hI.2.2.2
    clear hI
    by_cases hkl : k < l.length
    · have hkl' : (k : Int) < (l.length : Int) := by omega
      have hk0 : (0 : Int) ≤ (k : Int) := Int.natCast_nonneg _
      obtain ⟨b, off, t, px, rfl, hb, hcell, hps⟩ := HP.out.at hkl
      have hbN : b < N := hb
      have hBw : Below w.heap.size w wr := Below.on B1.out HI.out.2.2.1
      have hcell' : wr.cell? ⟨b, off + k, none⟩ = some (.iface t px) := (World.cell?_of_block (hBw.block b (by omega))).trans hcell
      have HE : Hid (∀ wy, Below wr.heap.size wr wy → Calls Try.prog 34 #[.iface t px] wy (VCall w1.heap.size (w1.heap.size + 2) d l k wr (.slice vp k vc) cs.flatten)) := fun wy hy => (ih N _ _ deep wy (PSeg.carry (fun b h => h) (fun b (h : b < N) => (Below.on hBw hy).block b (by omega)) d hps) (by have := (Below.on hBw hy).size; omega) (HG.out k hkl).1 (HG.out k hkl).2).mono fun e w5 he => vinv_call HI.out (by omega) hkl hy he
      clear hps hBw hcell hb
      go_wp2_with fail
      have HC := hide' (And.intro c0 (And.intro c1 (And.intro c2 (And.intro c3 cf))))
      clear c0 c1 c2 c3 cf m1 t1 t2 t3 t4 HK hcell'
      go_region_law
        (first
          | (go_simp; go_at_call 34; refine (HE.out _ (by first | exact Below.refl _ _ | exact (Below.refl _ _).drew | exact (Below.refl _ _).drew.drew)).mono ?_; rintro e w5 ⟨uk, un, s2, n2, r2, s3, n3, r3, s4, n4, r4, rfl, Bv, hit, hbv, hbn, b5, hc5, ho5⟩; replace hit := hide' (And.intro hit (And.intro hbv (And.intro hbn (And.intro b5 ho5)))); have hz5 : w1.heap.size < w5.heap.size := (by have := b5.size; omega); have hc5o : ∀ o, (w5.alloc o).cell? ⟨w1.heap.size, 4, none⟩ = some (.slice vp k vc) := (fun o => (World.cell?_of_block (Below.heap_alloc w5 o w1.heap.size hz5)).trans hc5); clear hbv hbn b5 ho5)
          | (refine step_append_lies _ (by rfl) _ _ _ (by rfl) (w1.heap.size + 2) 26 i0 _ 5 88 Try.underlying24 hi hz0 hz1 hz2 rfl (by decide) (.slice vp k vc) k cs.flatten (by rfl) (by first | exact hit.out.2.2.2.2.alloc _ | exact (hit.out.2.2.2.2.alloc _).drew) ⟨w5.heap.size, 0, none⟩ 1 1 [.int .i64 uk, .int .i64 un, .slice s2 n2 r2, .slice s3 n3 r3, .slice s4 n4 r4] (by rfl) (by rfl) (World.news_of_block (cs := #[.int .i64 uk, .int .i64 un, .slice s2 n2 r2, .slice s3 n3 r3, .slice s4 n4 r4]) (t := 26) (fr := (0, 0)) (heap_alloc_new w5 _)) (by simp [Value.oneCell']) (by omega) (by unfold maxLen; omega) (by omega) (by have := hit.out.2.2.2.1.size; simp; omega) (w5.heap.size + 1) (by simp) ?_; intro g cp w6 hown6 hg6 hat6 hlt6; obtain ⟨hV6, hI6, _⟩ := vinv_step HI.out (by omega) hit.out.2.2.2.1 hit.out.1 hit.out.2.1 hit.out.2.2.1 hown6 hg6 hat6; obtain ⟨_, _, _, _, hc6, hf6⟩ := row5 hV6; replace hf6 := hf6 4; replace hI6 := hide' hI6; clear hown6 hg6 hat6 hlt6 hV6 hit hc5 hc5o))
      all_goals go_wp2
      all_goals go_roundw
      case rel => exact ⟨k + 1, by omega, by go_num, _, _, _, hI6.out⟩
      case measure => simp [intOf]; omega
      case rel => exact ⟨k + 1, by omega, by go_num, _, _, _, hI6.out⟩
      case measure => simp [intOf]; omega
      case rel => exact ⟨k + 1, by omega, by go_num, _, _, _, hI6.out⟩
      case measure => simp [intOf]; omega
    · have hkn : k = l.length := by omega
      subst hkn
      have hkl' : ¬ (l.length : Int) < (l.length : Int) := by omega
      have hR : wr.heap[w.heap.size]? = some (.cells #[.int .i64 0, .int .i64 0, .slice none 0 0, .slice none 0 0, .slice none 0 0] 26 (0, 0)) := (HI.out.2.2.1.block _ hlt).trans Hr.out
      obtain ⟨r0, r1, r2, r3, r4, rf⟩ := row5 hR
      have f0 := rf 0
      have f1 := rf 1
      have f2 := rf 2
      have f3 := rf 3
      have f4 := rf 4
      replace hR := hide' hR
      clear rf cf m1 t1 t2 t3 t4 HK
      go_wp2_with fail
      have hrow := set5_heap (j := 0) (.int .i64 4) (.int .i64 0) (.slice none 0 0) (.slice none 0 0) (.slice vp l.length vc) hR.out
      have hfin := row5 hrow
      simp only [set5, Nat.zero_add] at hfin
      obtain ⟨y0, y1, y2, y3, y4, _⟩ := hfin
      refine bodyPost_ret (v := .agg #[.int .i64 4, .int .i64 0, .slice none 0 0, .slice none 0 0, .slice vp l.length vc]) (by simp [results, Try.results34, go_sem, y0, y1, y2, y3, y4]) rfl ?_
      have hB5 := set5_grown wr w.heap.size 0 (.int .i64 4) (.int .i64 0) (.slice none 0 0) (.slice none 0 0) (.slice vp l.length vc)
      have hsz4 := set5_size wr w.heap.size 0 (.int .i64 4) (.int .i64 0) (.slice none 0 0) (.slice none 0 0) (.slice vp l.length vc)
      have hBn := Below.on B1.out HI.out.2.2.1
      have hBf := hBn.grown hB5 (by omega) (by intro j hj; simp at hj; omega)
      have hbd := HI.out.2.1.2.2.2.2.2
      refine ⟨_, rfl, _, HI.out.2.1.lown.agree fun b h => ?_, fun b h => ?_, hBf⟩
      · have hb := hbd b h
        exact hB5.block b (by omega) (by simp; omega)
      · have hb := hbd b h
        show w.heap.size ≤ b ∧ b < (set5 _ _ _ _ _ _ _ _).heap.size
        omega
end Go.Proofs.Ytenfnbnhdmkhkaa
/-
  '[]byte(s)': a text of the call's own.
-/
namespace Go.Proofs.Ytenfnbnhdmkhkaa
open Go.RowKit
set_option linter.unusedVariables false
set_option linter.unusedSimpArgs false

/-- '[]byte(s)': a text of the call's own. -/
theorem conv_back (xs : List Int) (hx : ∀ x ∈ xs, Byt x) (hl : xs.length ≤ 1048576) (w : World) : ∃ cap wB, (convert 9 22 (.string (strOf xs))).run Try.prog w = .ok (.slice (some ⟨w.heap.size, 0, none⟩) xs.length cap) wB ∧
    TOwn wB (.slice (some ⟨w.heap.size, 0, none⟩) xs.length cap) xs [w.heap.size] ∧ Below w.heap.size w wB ∧ wB.heap.size = w.heap.size + 1 := by
  have hsz := size_strOf xs
  have hsc := strCells_of hx
  have hrun := run_bytes_of_string (P := Try.prog) w 9 22 5 (strOf xs) Try.underlying9 Try.underlying22 Try.underlying5
  rw [hsz] at hrun
  have hge := grownCap_ge w xs.length 0 5
  have hle := grownCap_le_maxLen w xs.length 0 5 (by unfold maxLen; omega)
  generalize grownCap w xs.length 0 5 = cap at hrun hge hle
  have hrs : (bytesRow (strOf xs) cap).size = cap := by
    have h1 : (strOf xs).data.size = xs.length := hsz
    simp [bytesRow, h1, hsz]
    omega
  have hrt : (bytesRow (strOf xs) cap).toList.take xs.length = cellsOf xs := by
    rw [← hsc]
    unfold bytesRow Lib.strCells
    rw [Array.toList_append, Array.toList_map, List.take_append_of_le_length (by simp; exact Nat.le_of_eq hsz.symm)]
    rw [List.take_of_length_le (by simp; exact Nat.le_of_eq hsz)]
  rw [hrs] at hrun
  refine ⟨cap, _, hrun, ⟨⟨hx, by simp [cellsOf], .inr ⟨w.heap.size, cap, _, _, rfl, heap_alloc_new w.drew _, .inr (Nat.le_refl _), hge, hle, hrs, hrt⟩⟩, .inr ⟨_, _, rfl, rfl⟩⟩, ((Below.refl _ w).drew).alloc (Nat.le_refl _) _, by simp⟩
end Go.Proofs.Ytenfnbnhdmkhkaa
