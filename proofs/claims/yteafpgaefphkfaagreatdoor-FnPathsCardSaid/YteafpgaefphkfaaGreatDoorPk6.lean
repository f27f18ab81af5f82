/-
  Texts that a law leans on, one behind the other; no statement is proved here.
-/
import Derived.Test.YteafpgaefphkfaaGreatDoorPk1
import Derived.Test.YteafpgaefphkfaaGreatDoorPk3
import Derived.Test.YteafpgaefphkfaaGreatDoorPk0
import Derived.Test.YteafpgaefphkfaaGreatDoorPk2
/-
  The specification's PutNum: it makes a row of its own that holds its argument's bytes and those of the number behind them.
-/
namespace Go.Proofs.YteafpgaefphkfaaGreatDoor
open Go.RowKit
set_option linter.unusedVariables false

set_option maxHeartbeats 800000 in
theorem spec_PutNum_no (a : Option Addr) (cap : Nat) (xs : List Int) (n : Int) (w : World) (hs : Seg w a xs) (hc : a = none → cap = 0) (hl : xs.length ≤ 2097152) (hn : n < 0 ∨ 2147483647 < n) :
    Calls Tryz.prog 58 #[.slice a xs.length cap, .int .i64 n] w fun e w' => ∃ v, e = .returned v ∧ Bts w' w.heap.size v (putNum xs n) ∧ Below w.heap.size w w' := by
  have hE := bts_empty w
  have hS1 : Seg (w.alloc (.cells #[] 5)) a xs := hs.grow ((Below.refl _ _).alloc (Nat.le_refl _) _)
  have hB1 : Below w.heap.size w (w.alloc (.cells #[] 5)) := (Below.refl _ _).alloc (Nat.le_refl _) _
  have Hp : Hid (putNum xs n = xs) := putNum_no xs n hn
  generalize hnn : xs.length = nn
  have Hnn : Hid (nn = xs.length) := hnn.symm
  clear hnn
  rcases hn with hn | hn
  · go_enter Tryz.func58, Tryz.ntmps58
    go_wp2_with (at_builtin; refine wpList_append_seg rfl _ _ rfl w.heap.size _ [] xs rfl hE a nn cap Hnn.out rfl hS1 hc (by simp; omega) (by simp) ?_; intro v2 w2 hv2 hg2)
    go_ret
    exact ⟨_, rfl, by rw [Hp.out]; exact hv2, hB1.grown hg2 (by simp) hE.own⟩
  · have hn0 : ¬ n < 0 := by omega
    go_enter Tryz.func58, Tryz.ntmps58
    go_wp2_with (at_builtin; refine wpList_append_seg rfl _ _ rfl w.heap.size _ [] xs rfl hE a nn cap Hnn.out rfl hS1 hc (by simp; omega) (by simp) ?_; intro v2 w2 hv2 hg2)
    go_ret
    exact ⟨_, rfl, by rw [Hp.out]; exact hv2, hB1.grown hg2 (by simp) hE.own⟩

set_option maxHeartbeats 800000 in
theorem spec_PutNum_yes (a : Option Addr) (cap : Nat) (xs : List Int) (n : Int) (w : World) (hs : Seg w a xs) (hc : a = none → cap = 0) (hl : xs.length ≤ 2097152) (hn0 : 0 ≤ n) (hn1 : n ≤ 2147483647) :
    Calls Tryz.prog 58 #[.slice a xs.length cap, .int .i64 n] w fun e w' => ∃ v, e = .returned v ∧ Bts w' w.heap.size v (putNum xs n) ∧ Below w.heap.size w w' := by
  have hE := bts_empty w
  have hS1 : Seg (w.alloc (.cells #[] 5)) a xs := hs.grow ((Below.refl _ _).alloc (Nat.le_refl _) _)
  have hB1 : Below w.heap.size w (w.alloc (.cells #[] 5)) := (Below.refl _ _).alloc (Nat.le_refl _) _
  have Hp : Hid (putNum xs n = xs ++ digs n.toNat) := putNum_yes xs n hn0 hn1
  generalize hnn : xs.length = nn
  have Hnn : Hid (nn = xs.length) := hnn.symm
  clear hnn
  go_enter Tryz.func58, Tryz.ntmps58
  go_wp2_with (at_builtin; refine wpList_append_seg rfl _ _ rfl w.heap.size _ [] xs rfl hE a nn cap Hnn.out rfl hS1 hc (by simp; omega) (by simp) ?_; intro v2 w2 hv2 hg2)
  go_loopw [1, 5] (fun n' v wr => ∃ (m : Nat) (pre : List Int), m ≤ 2147483647 ∧ n' = .int .i64 m ∧ Bts wr w.heap.size v (xs ++ pre) ∧ pre ++ digs m = digs n.toNat ∧ Below w.heap.size w wr) (fun n' _ _ => (intOf n').toNat)
  case atStart => exact ⟨n.toNat, [], by omega, by rw [Int.toNat_of_nonneg hn0], by simpa using hv2, by simp, hB1.grown hg2 (by simp) hE.own⟩
  case round =>
    obtain ⟨m, pre, hm, rfl, hv, hpre, hbel⟩ := hrel
    have Hpre : Hid (pre ++ digs m = digs n.toNat) := hpre
    clear hpre hv2 hg2
    have hsz := hbel.size
    have hpl : pre.length ≤ 5 := by
      have h1 := congrArg List.length Hpre.out
      have h2 := digs_len n.toNat (by omega)
      simp at h1
      omega
    by_cases hbig : (127 : Int) < (m : Int)
    · have hc1 : Byt ((m : Int) % 128 + 128) := by unfold Byt; omega
      have hS2 := seg_one wr _ hc1
      have hv' := hv.alloc (.cells #[.int .u8 ((m : Int) % 128 + 128)] 5)
      have hB2 : Below w.heap.size w (wr.alloc (.cells #[.int .u8 ((m : Int) % 128 + 128)] 5)) := hbel.alloc (by omega) _
      go_wp2_with (at_builtin; refine wpList_append_seg rfl _ _ rfl w.heap.size _ (xs ++ pre) [(m : Int) % 128 + 128] rfl hv' (some ⟨wr.heap.size, 0, none⟩) 1 1 rfl rfl hS2 (by simp) (by simp; omega) (by simp; omega) ?_; intro v3 w3 hv3 hg3)
      go_roundw
      case rel =>
        refine ⟨m / 128, pre ++ [(m : Int) % 128 + 128], by omega, by go_num, by simpa using hv3, ?_, hB2.grown hg3 (by simp; omega) hv'.own⟩
        rw [← Hpre.out, digs_big m (by omega)]
        simp
      case measure => simp [intOf]; omega
    · have hc1 : Byt (m : Int) := by unfold Byt; omega
      have hS2 := seg_one wr _ hc1
      have hv' := hv.alloc (.cells #[.int .u8 (m : Int)] 5)
      have hB2 : Below w.heap.size w (wr.alloc (.cells #[.int .u8 (m : Int)] 5)) := hbel.alloc (by omega) _
      go_wp2_with (at_builtin; refine wpList_append_seg rfl _ _ rfl w.heap.size _ (xs ++ pre) [(m : Int)] rfl hv' (some ⟨wr.heap.size, 0, none⟩) 1 1 rfl rfl hS2 (by simp) (by simp; omega) (by simp; omega) ?_; intro v3 w3 hv3 hg3)
      go_ret
      refine ⟨_, rfl, ?_, hB2.grown hg3 (by simp; omega) hv'.own⟩
      rw [Hp.out, ← Hpre.out, digs_small m (by omega), ← List.append_assoc]
      exact hv3

theorem spec_PutNum_any (a : Option Addr) (cap : Nat) (xs : List Int) (n : Int) (w : World) (hs : Seg w a xs) (hc : a = none → cap = 0) (hl : xs.length ≤ 2097152) :
    Calls Tryz.prog 58 #[.slice a xs.length cap, .int .i64 n] w fun e w' => ∃ v, e = .returned v ∧ Bts w' w.heap.size v (putNum xs n) ∧ Below w.heap.size w w' := by
  by_cases h : n < 0 ∨ 2147483647 < n
  · exact spec_PutNum_no a cap xs n w hs hc hl h
  · exact spec_PutNum_yes a cap xs n w hs hc hl (by omega) (by omega)

end Go.Proofs.YteafpgaefphkfaaGreatDoor
/-
  GetNum of the specification answers as getNum, and turns nothing.
-/
namespace Go.Proofs.YteafpgaefphkfaaGreatDoor
open Go.RowKit
set_option linter.unusedVariables false

end Go.Proofs.YteafpgaefphkfaaGreatDoor
/-
  sort.Slice as the program's fields calls it, walked by the shelf's contract: what it leaves is a permutation, ascending by the keys.
-/
namespace Go.Proofs.YteafpgaefphkfaaGreatDoor
open Go.Shelf Go.RowKit Go.Lib Go.Sort
set_option linter.unusedVariables false
set_option linter.unusedSimpArgs false
set_option maxRecDepth 100000

theorem infoFT : (Tryz.prog.info? 94).isSome = true := by kernel_rfl
theorem infoFE : (Tryz.prog.info? 97).isSome = true := by kernel_rfl

theorem sort_fields (blk off c Bs : Nat) (d : Array (List UInt8 × (TypeId × Value))) (h2 : 2 ≤ d.size) (hsz : d.size < 4611686018427387904) (w : World) (hH : HoldsK encF 2 w blk off d) (hblk : blk < w.heap.size)
    (hBs : w.cell? ⟨Bs, 0, none⟩ = some (.slice (some ⟨blk, off, none⟩) d.size c)) (hB1 : Bs < w.heap.size) (hB2 : Bs ≠ blk) :
    Calls Tryz.prog 56 #[.iface 94 (.slice (some ⟨blk, off, none⟩) d.size c), .func (.func 57) #[] #[.pointer (some ⟨Bs, 0, none⟩)]] w fun e w' =>
      e = .returned (.tuple #[]) ∧ ∃ d' n os, PermIn 0 d.size d d' ∧ SortedIn ltF 0 d.size d' ∧ w' = grow (putRowK encF 2 (Sort.ahead w n) blk off d') os := by
  have hless : LessReadsK Tryz.prog 57 #[.pointer (some ⟨Bs, 0, none⟩)] encF 2 ltF blk off d.size w := by
    intro m os dk hs i j hi hj
    have e : sortWorldK encF 2 w blk off m dk os = putRowK encF 2 (grow (Sort.ahead w m) os) blk off dk := by
      unfold sortWorldK; rw [putRowK_grow _ _ (Sort.ahead w m) _ blk off _ hblk]
    have hHg : HoldsK encF 2 (grow (Sort.ahead w m) os) blk off d := holdsK_grow _ _ _ _ blk off d hblk (holdsK_ahead _ _ _ _ _ _ _ hH)
    refine fields_less blk off c Bs d.size _ (fun t => dk[t]!.1) ?_ (fun t ht => ?_) i j hi hj (by omega)
    · rw [e, cell?_putRowK_other _ _ _ blk off dk _ (by exact hB2), cell?_grow _ _ _ (by exact hB1)]; exact hBs
    · rw [e]; exact ((holdsK_putRowK _ _ _ blk off d dk hHg hs).cell (i := t) (c := 0) (by omega) (by omega)).1
  have hk9 : ∀ ie, Tryz.prog.info? 97 = some ie → Lib.swapperK d.size ie 25 = 9 := by
    intro ie hie
    have a : ((Tryz.prog.info? 97).map fun i => (i.hasPointers, i.bytes)) = some (true, 32) := by kernel_rfl
    rw [hie] at a
    simp at a
    have c : (d.size == 0) = false := by rw [beq_eq_false_iff_ne]; omega
    have d' : (d.size == 1) = false := by rw [beq_eq_false_iff_ne]; omega
    simp [Lib.swapperK, a.1, a.2, c, d']
  obtain ⟨iT, hiT⟩ := Option.isSome_iff_exists.1 infoFT
  obtain ⟨iE, hiE⟩ := Option.isSome_iff_exists.1 infoFE
  have hdT : iT.desc = .slice 97 := by
    have a : ((Tryz.prog.info? 94).map fun i => i.desc) = some (.slice 97) := by kernel_rfl
    rw [hiT] at a
    simpa using a
  have hsE : iE.size = 2 := by
    have a : ((Tryz.prog.info? 97).map fun i => i.size) = some 2 := by kernel_rfl
    rw [hiE] at a
    simpa using a
  exact Any.sort_Slice_cells_sorted Tryz.laysGg6 94 97 iT iE hiT hdT (by kernel_rfl) hiE 25 (fun _ => by kernel_rfl) encF 2 (fun _ => rfl) hsE (fun _ => by kernel_rfl)
    (fun x v hv => by simp [encF] at hv; rcases hv with rfl | rfl <;> rfl) ltF swo_ltF 57 _
    (enters_of Tryz.func57 (by kernel_rfl) rfl) blk off c d h2 hsz 80 (by rw [hk9 _ hiE]; kernel_rfl) false
    (fun args W => run_callFunc_extern Tryz.func80 (by kernel_rfl) (by kernel_rfl) (by kernel_rfl) (e := Extern.ReflectliteSwapper.swap false) (by kernel_rfl) args W) w hless hH hblk

theorem swap_none (ie : TypeInfo) : Lib.swapperK 0 ie 25 = 1 := rfl
theorem swap_one (ie : TypeInfo) : Lib.swapperK 1 ie 25 = 2 := rfl
/-- .. at no field or one: nothing that lay turns. -/
theorem sort_tiny (p : Option Addr) (n c Bs : Nat) (h1 : n ≤ 1) (w : World) :
    Calls Tryz.prog 56 #[.iface 94 (.slice p n c), .func (.func 57) #[] #[.pointer (some ⟨Bs, 0, none⟩)]] w fun e w' => e = .returned (.tuple #[]) ∧ ∃ os, w' = grow w os := by
  obtain ⟨iT, hiT⟩ := Option.isSome_iff_exists.1 infoFT
  obtain ⟨iE, hiE⟩ := Option.isSome_iff_exists.1 infoFE
  have hdT : iT.desc = .slice 97 := by
    have a : ((Tryz.prog.info? 94).map fun i => i.desc) = some (.slice 97) := by kernel_rfl
    rw [hiT] at a
    simpa using a
  have h01 : n = 0 ∨ n = 1 := by omega
  rcases h01 with rfl | rfl
  · exact Any.sort_Slice_tiny Tryz.laysGg6 94 97 iT iE hiT hdT (by kernel_rfl) hiE 25 (fun _ => by kernel_rfl) p 0 c h1 72 (by rw [swap_none]; kernel_rfl) _ _ _ w
  · exact Any.sort_Slice_tiny Tryz.laysGg6 94 97 iT iE hiT hdT (by kernel_rfl) hiE 25 (fun _ => by kernel_rfl) p 1 c h1 73 (by rw [swap_one]; kernel_rfl) _ _ _ w
end Go.Proofs.YteafpgaefphkfaaGreatDoor
