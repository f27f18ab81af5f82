/-
  sort.Slice as the program's fields calls it, walked by the shelf's contract: what it leaves is a permutation, ascending by the keys.
-/
import Derived.Test.YtkklhdeecamifaaFldS
namespace Go.Proofs.Ytkklhdeecamifaa
open Go.Shelf Go.RowKit Go.Lib Go.Sort
set_option linter.unusedVariables false
set_option linter.unusedSimpArgs false
set_option maxRecDepth 100000

theorem infoFT : (Try.prog.info? 77).isSome = true := by kernel_rfl
theorem infoFE : (Try.prog.info? 80).isSome = true := by kernel_rfl

theorem sort_fields (blk off c Bs : Nat) (d : Array (List UInt8 × (TypeId × Value))) (h2 : 2 ≤ d.size) (hsz : d.size < 4611686018427387904) (w : World) (hH : HoldsK encF 2 w blk off d) (hblk : blk < w.heap.size)
    (hBs : w.cell? ⟨Bs, 0, none⟩ = some (.slice (some ⟨blk, off, none⟩) d.size c)) (hB1 : Bs < w.heap.size) (hB2 : Bs ≠ blk) :
    Calls Try.prog 52 #[.iface 77 (.slice (some ⟨blk, off, none⟩) d.size c), .func (.func 53) #[] #[.pointer (some ⟨Bs, 0, none⟩)]] w fun e w' =>
      e = .returned (.tuple #[]) ∧ ∃ d' n os, PermIn 0 d.size d d' ∧ SortedIn ltF 0 d.size d' ∧ w' = grow (putRowK encF 2 (Sort.ahead w n) blk off d') os := by
  have hless : LessReadsK Try.prog 53 #[.pointer (some ⟨Bs, 0, none⟩)] encF 2 ltF blk off d.size w := by
    intro m os dk hs i j hi hj
    have e : sortWorldK encF 2 w blk off m dk os = putRowK encF 2 (grow (Sort.ahead w m) os) blk off dk := by
      unfold sortWorldK; rw [putRowK_grow _ _ (Sort.ahead w m) _ blk off _ hblk]
    have hHg : HoldsK encF 2 (grow (Sort.ahead w m) os) blk off d := holdsK_grow _ _ _ _ blk off d hblk (holdsK_ahead _ _ _ _ _ _ _ hH)
    refine fields_less blk off c Bs d.size _ (fun t => dk[t]!.1) ?_ (fun t ht => ?_) i j hi hj (by omega)
    · rw [e, cell?_putRowK_other _ _ _ blk off dk _ (by exact hB2), cell?_grow _ _ _ (by exact hB1)]; exact hBs
    · rw [e]; exact ((holdsK_putRowK _ _ _ blk off d dk hHg hs).cell (i := t) (c := 0) (by omega) (by omega)).1
  have hk9 : ∀ ie, Try.prog.info? 80 = some ie → Lib.swapperK d.size ie 25 = 9 := by
    intro ie hie
    have a : ((Try.prog.info? 80).map fun i => (i.hasPointers, i.bytes)) = some (true, 32) := by kernel_rfl
    rw [hie] at a
    simp at a
    have c : (d.size == 0) = false := by rw [beq_eq_false_iff_ne]; omega
    have d' : (d.size == 1) = false := by rw [beq_eq_false_iff_ne]; omega
    simp [Lib.swapperK, a.1, a.2, c, d']
  obtain ⟨iT, hiT⟩ := Option.isSome_iff_exists.1 infoFT
  obtain ⟨iE, hiE⟩ := Option.isSome_iff_exists.1 infoFE
  have hdT : iT.desc = .slice 80 := by
    have a : ((Try.prog.info? 77).map fun i => i.desc) = some (.slice 80) := by kernel_rfl
    rw [hiT] at a
    simpa using a
  have hsE : iE.size = 2 := by
    have a : ((Try.prog.info? 80).map fun i => i.size) = some 2 := by kernel_rfl
    rw [hiE] at a
    simpa using a
  exact Any.sort_Slice_cells_sorted Try.laysGg6 77 80 iT iE hiT hdT (by kernel_rfl) hiE 25 (fun _ => by kernel_rfl) encF 2 (fun _ => rfl) hsE (fun _ => by kernel_rfl)
    (fun x v hv => by simp [encF] at hv; rcases hv with rfl | rfl <;> rfl) ltF swo_ltF 53 _
    (enters_of Try.func53 (by kernel_rfl) rfl) blk off c d h2 hsz 72 (by rw [hk9 _ hiE]; kernel_rfl) false
    (fun args W => run_callFunc_extern Try.func72 (by kernel_rfl) (by kernel_rfl) (by kernel_rfl) (e := Extern.ReflectliteSwapper.swap false) (by kernel_rfl) args W) w hless hH hblk

theorem swap_none (ie : TypeInfo) : Lib.swapperK 0 ie 25 = 1 := rfl
theorem swap_one (ie : TypeInfo) : Lib.swapperK 1 ie 25 = 2 := rfl
/-- .. at no field or one: nothing that lay turns. -/
theorem sort_tiny (p : Option Addr) (n c Bs : Nat) (h1 : n ≤ 1) (w : World) :
    Calls Try.prog 52 #[.iface 77 (.slice p n c), .func (.func 53) #[] #[.pointer (some ⟨Bs, 0, none⟩)]] w fun e w' => e = .returned (.tuple #[]) ∧ ∃ os, w' = grow w os := by
  obtain ⟨iT, hiT⟩ := Option.isSome_iff_exists.1 infoFT
  obtain ⟨iE, hiE⟩ := Option.isSome_iff_exists.1 infoFE
  have hdT : iT.desc = .slice 80 := by
    have a : ((Try.prog.info? 77).map fun i => i.desc) = some (.slice 80) := by kernel_rfl
    rw [hiT] at a
    simpa using a
  have h01 : n = 0 ∨ n = 1 := by omega
  rcases h01 with rfl | rfl
  · exact Any.sort_Slice_tiny Try.laysGg6 77 80 iT iE hiT hdT (by kernel_rfl) hiE 25 (fun _ => by kernel_rfl) p 0 c h1 64 (by rw [swap_none]; kernel_rfl) _ _ _ w
  · exact Any.sort_Slice_tiny Try.laysGg6 77 80 iT iE hiT hdT (by kernel_rfl) hiE 25 (fun _ => by kernel_rfl) p 1 c h1 65 (by rw [swap_one]; kernel_rfl) _ _ _ w
end Go.Proofs.Ytkklhdeecamifaa
