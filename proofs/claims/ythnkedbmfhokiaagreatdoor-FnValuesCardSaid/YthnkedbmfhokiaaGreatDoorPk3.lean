/-
  Texts that a law leans on, one behind the other; no statement is proved here.
-/
import Derived.Test.YthnkedbmfhokiaaGreatDoorPk0
import Derived.Test.YthnkedbmfhokiaaGreatDoorPk1
import Derived.Test.YthnkedbmfhokiaaGreatDoorPk2
/-
  What the model holds of the type of values.
-/
namespace Go.Proofs.YthnkedbmfhokiaaGreatDoor
open Go.RowKit

theorem info_valueT : (Tryz.prog.info? 26).map (fun i => (i.zero, i.size, i.bytes)) = some (some (.agg #[.int .i64 0, .int .i64 0, .slice none 0 0, .slice none 0 0, .slice none 0 0]), 5, 88) := by kernel_rfl

end Go.Proofs.YthnkedbmfhokiaaGreatDoor
/-
  The laws of Rgm with their closed premises laid by themselves: shorter to write.
-/
namespace Go.Proofs.YthnkedbmfhokiaaGreatDoor
set_option linter.unusedVariables false

section
variable {P : Program} {ops : Array Oper} {Q : Exit → Act → World → Prop} {md : Region.Mode} {S : World → Prop}
theorem tkY (i d : Nat) {oi : Oper} {v : Value} {fuel : Nat} {listed : Array Bool} {a : Act} {w : World} (hS : S w)
    (h : wpAnyH P md ops Q S fuel (listed.setIfInBounds i true) (a.put (some d) v) w)
    (hi : ops[i]? = some oi := by rfl) (hd : oi.dst = some d := by rfl) (hQ : ∀ c a w, Q (.panic c) (a.put (some d) v) w → Q (.panic c) a w := by exact fun _ _ _ h => h)
    (hy : ∀ w, S w → (execOp a.eval oi).run P w = .ok (.value v) w := by intro w hSw; (try dsimp only at hSw); go_simp; (try with_reducible rfl))
    (hs : Region.noSelect ops = true := by kernel_rfl) (hf : Region.free md ops listed i = true := by kernel_rfl) (hr : (Region.ready md ops listed).contains i = true := by kernel_rfl) (hw : Region.wanted oi (yielded ops a.tmps) = true := by kernel_rfl) : wpAnyH P md ops Q S (fuel + 1) listed a w :=
  take_yes d hi hd hs hf hr hQ hw hS hy h
end
end Go.Proofs.YthnkedbmfhokiaaGreatDoor
/-
  Reading a number, plain: what GetNum answers; no Go text here.
-/
namespace Go.Proofs.YthnkedbmfhokiaaGreatDoor
set_option linter.unusedVariables false

/-- The bytes from place a on are read, k of them behind, each worth s; 'acc' is what they come to. -/
def getFrom (xs : List Int) (a : Nat) : Nat → Nat → Int → Int → Int × Int
  | 0, _, _, _ => (0, -1)
  | fuel + 1, k, s, acc =>
    if a + k < xs.length then
      if xs.getD (a + k) 0 < 128 then
        if (xs.getD (a + k) 0 = 0 ∧ 0 < k) ∨ 2147483647 < acc + xs.getD (a + k) 0 * s then (0, -1) else (acc + xs.getD (a + k) 0 * s, ((a + k + 1 : Nat) : Int))
      else getFrom xs a fuel (k + 1) (s * 128) (acc + (xs.getD (a + k) 0 - 128) * s)
    else (0, -1)

/-- What GetNum answers. -/
def getNum (xs : List Int) (a : Int) : Int × Int := if a < 0 then (0, -1) else getFrom xs a.toNat 5 0 1 0

/-- How many bytes were read, and what the next one is worth. -/
def Place (k : Nat) (s : Int) : Prop := (k = 0 ∧ s = 1) ∨ (k = 1 ∧ s = 128) ∨ (k = 2 ∧ s = 16384) ∨ (k = 3 ∧ s = 2097152) ∨ (k = 4 ∧ s = 268435456) ∨ (k = 5 ∧ s = 34359738368)

theorem getFrom_out (xs : List Int) (a fuel k : Nat) (s acc : Int) (h : ¬ a + k < xs.length) : getFrom xs a fuel k s acc = (0, -1) := by
  cases fuel with
  | zero => rfl
  | succ f => simp [getFrom, h]

theorem getFrom_bad (xs : List Int) (a fuel k : Nat) (s acc : Int) (h : a + k < xs.length) (h1 : xs.getD (a + k) 0 < 128) (h2 : (xs.getD (a + k) 0 = 0 ∧ 0 < k) ∨ 2147483647 < acc + xs.getD (a + k) 0 * s) : getFrom xs a (fuel + 1) k s acc = (0, -1) := by
  rw [getFrom, if_pos h, if_pos h1, if_pos h2]

theorem getFrom_last (xs : List Int) (a fuel k : Nat) (s acc : Int) (h : a + k < xs.length) (h1 : xs.getD (a + k) 0 < 128) (h2 : ¬ ((xs.getD (a + k) 0 = 0 ∧ 0 < k) ∨ 2147483647 < acc + xs.getD (a + k) 0 * s)) : getFrom xs a (fuel + 1) k s acc = (acc + xs.getD (a + k) 0 * s, ((a + k + 1 : Nat) : Int)) := by
  rw [getFrom, if_pos h, if_pos h1, if_neg h2]

theorem getFrom_more (xs : List Int) (a fuel k : Nat) (s acc : Int) (h : a + k < xs.length) (h1 : ¬ xs.getD (a + k) 0 < 128) : getFrom xs a (fuel + 1) k s acc = getFrom xs a fuel (k + 1) (s * 128) (acc + (xs.getD (a + k) 0 - 128) * s) := by
  rw [getFrom, if_pos h, if_neg h1]

theorem getNum_neg (xs : List Int) (a : Int) (h : a < 0) : getNum xs a = (0, -1) := by simp [getNum, h]
theorem getNum_nat (xs : List Int) (a : Nat) : getNum xs a = getFrom xs a 5 0 1 0 := by
  rw [getNum, if_neg (by omega)]
  simp
theorem getNum_out (xs : List Int) (a : Nat) (h : xs.length ≤ a) : getNum xs a = (0, -1) := by
  rw [getNum_nat, getFrom_out _ _ _ _ _ _ (by omega)]

/-- What is read as a number fits; the place behind it lies in the bytes. -/
theorem getFrom_fits (xs : List Int) (a fuel k : Nat) (s acc : Int) (hb : ∀ x ∈ xs, Byt x) (hs : 0 ≤ s) (ha : 0 ≤ acc) :
    (getFrom xs a fuel k s acc = (0, -1)) ∨ (0 ≤ (getFrom xs a fuel k s acc).1 ∧ (getFrom xs a fuel k s acc).1 ≤ 2147483647 ∧ ∃ j : Nat, (getFrom xs a fuel k s acc).2 = j ∧ a < j ∧ j ≤ xs.length) := by
  induction fuel generalizing k s acc with
  | zero => exact .inl rfl
  | succ f ih =>
    have hx := getD_byt hb (a + k)
    by_cases h : a + k < xs.length
    · by_cases h1 : xs.getD (a + k) 0 < 128
      · by_cases h2 : (xs.getD (a + k) 0 = 0 ∧ 0 < k) ∨ 2147483647 < acc + xs.getD (a + k) 0 * s
        · exact .inl (getFrom_bad xs a f k s acc h h1 h2)
        · have hm : 0 ≤ xs.getD (a + k) 0 * s := Int.mul_nonneg hx.1 hs
          rw [getFrom_last xs a f k s acc h h1 h2]
          refine .inr ⟨by simp only; omega, by simp only; omega, a + k + 1, rfl, by omega, by omega⟩
      · have hm : 0 ≤ (xs.getD (a + k) 0 - 128) * s := Int.mul_nonneg (by omega) hs
        rw [getFrom_more xs a f k s acc h h1]
        exact ih (k + 1) (s * 128) _ (by omega) (by omega)
    · exact .inl (getFrom_out xs a (f + 1) k s acc h)

theorem getNum_fits (xs : List Int) (a : Int) (hb : ∀ x ∈ xs, Byt x) :
    getNum xs a = (0, -1) ∨ (0 ≤ (getNum xs a).1 ∧ (getNum xs a).1 ≤ 2147483647 ∧ ∃ j : Nat, (getNum xs a).2 = j ∧ a < j ∧ j ≤ xs.length ∧ 0 ≤ a) := by
  by_cases h : a < 0
  · exact .inl (getNum_neg xs a h)
  · obtain ⟨p, rfl⟩ := Int.eq_ofNat_of_zero_le (show 0 ≤ a by omega)
    rw [getNum_nat]
    rcases getFrom_fits xs p 5 0 1 0 hb (by omega) (by omega) with h1 | ⟨h1, h2, j, h3, h4, h5⟩
    · exact .inl h1
    · exact .inr ⟨h1, h2, j, h3, by omega, h5, by omega⟩

end Go.Proofs.YthnkedbmfhokiaaGreatDoor
/-
  bytes.Compare of two slices of bytes.
-/
namespace Go.Proofs.YthnkedbmfhokiaaGreatDoor
open Go.RowKit
set_option linter.unusedVariables false

set_option maxHeartbeats 800000 in
set_option maxRecDepth 100000 in
theorem bytes_Compare_any (a b : Option Addr) (c1 c2 : Nat) (xs ys : List Int) (w : World) (ha : Seg w a xs) (hb : Seg w b ys) :
    Calls Tryz.prog 79 #[.slice a xs.length c1, .slice b ys.length c2] w fun e w' => e = .returned (.int .i64 (Lib.compareBytes (u8s xs) (u8s ys))) ∧ w = w' := by
  go_enter Tryz.func79, Tryz.ntmps79
  go_wp2
  rw [run_callFunc_extern Tryz.func103 (by kernel_rfl) (by kernel_rfl) (by kernel_rfl) (e := Extern.BytealgCompare.compare) (by kernel_rfl), run_compare_seg c1 c2 ha hb]
  simp only [Result.andThen]
  rw [Oper.upon_value]
  go_wp2
  go_ret
  exact ⟨rfl, rfl⟩

end Go.Proofs.YthnkedbmfhokiaaGreatDoor
/-
  sort.Slice as the program's fields calls it: at fields (a key, a part), by the keys.
-/
namespace Go.Proofs.YthnkedbmfhokiaaGreatDoor
open Go.Shelf Go.RowKit Go.Lib Go.Sort
set_option linter.unusedVariables false
set_option linter.unusedSimpArgs false

/-- A field: its key's bytes, its part's type and what that holds. -/
def encF (x : List UInt8 × (TypeId × Value)) : List Value := [.string ⟨x.1.toArray⟩, .iface x.2.1 x.2.2]
/-- One field is ahead of another one. -/
def ltF (x y : List UInt8 × (TypeId × Value)) : Bool := Op.bytesLess x.1 y.1

theorem less_irrefl : ∀ a : List UInt8, Op.bytesLess a a = false
  | [] => rfl
  | x :: a => by
    have ih := less_irrefl a
    have h : ¬ x < x := UInt8.lt_irrefl x
    simp [Op.bytesLess, ih, h]

theorem less_trans : ∀ a b c : List UInt8, Op.bytesLess a b = true → Op.bytesLess b c = true → Op.bytesLess a c = true
  | [], b, [], _, h2 => by cases b <;> simp [Op.bytesLess] at h2
  | [], _, _ :: _, _, _ => rfl
  | _ :: _, [], _, h1, _ => by simp [Op.bytesLess] at h1
  | _ :: _, _ :: _, [], _, h2 => by simp [Op.bytesLess] at h2
  | x :: a, y :: b, z :: c, h1, h2 => by
    have ih := less_trans a b c
    simp only [Op.bytesLess, Bool.or_eq_true, decide_eq_true_eq, Bool.and_eq_true, beq_iff_eq] at h1 h2 ⊢
    rcases h1 with h1 | ⟨rfl, h1⟩
    · rcases h2 with h2 | ⟨rfl, h2⟩
      · exact .inl (UInt8.lt_trans h1 h2)
      · exact .inl h1
    · rcases h2 with h2 | ⟨rfl, h2⟩
      · exact .inl h2
      · exact .inr ⟨rfl, ih h1 h2⟩

theorem less_total : ∀ a b : List UInt8, Op.bytesLess a b = false → Op.bytesLess b a = false → a = b
  | [], [], _, _ => rfl
  | [], _ :: _, h, _ => by simp [Op.bytesLess] at h
  | _ :: _, [], _, h => by simp [Op.bytesLess] at h
  | x :: a, y :: b, h1, h2 => by
    have ih := less_total a b
    simp only [Op.bytesLess, Bool.or_eq_false_iff, decide_eq_false_iff_not, Bool.and_eq_false_iff, beq_eq_false_iff_ne] at h1 h2
    have e : x = y := UInt8.le_antisymm (UInt8.not_lt.1 h2.1) (UInt8.not_lt.1 h1.1)
    subst e
    rw [ih (h1.2.resolve_left (fun h => h rfl)) (h2.2.resolve_left (fun h => h rfl))]

theorem swo_ltF : SWO ltF where
  irrefl x := less_irrefl x.1
  trans x y z h1 h2 := less_trans x.1 y.1 z.1 h1 h2
  ntrans x y z h1 h2 := by
    show Op.bytesLess x.1 z.1 = false
    cases h : Op.bytesLess x.1 z.1 with
    | false => rfl
    | true =>
      have h1' : Op.bytesLess x.1 y.1 = false := h1
      have h2' : Op.bytesLess y.1 z.1 = false := h2
      cases h3 : Op.bytesLess y.1 x.1 with
      | true => rw [less_trans _ _ _ h3 h] at h2'; simp at h2'
      | false =>
        have e := less_total _ _ h1' h3
        rw [e] at h
        rw [h] at h2'
        simp at h2'

set_option maxHeartbeats 2000000 in
/-- The closure of fields. -/
theorem fields_less (blk off c Bs size : Nat) (W : World) (G : Nat → List UInt8) (hs : W.cell? ⟨Bs, 0, none⟩ = some (.slice (some ⟨blk, off, none⟩) size c))
    (hc : ∀ t, t < size → W.cell? ⟨blk, off + t * 2, none⟩ = some (.string ⟨(G t).toArray⟩)) (i j : Nat) (hi : i < size) (hj : j < size) (_hsz : size < 4611686018427387904) :
    Calls Tryz.prog 63 #[.int .i64 i, .int .i64 j, .pointer (some ⟨Bs, 0, none⟩)] W fun e w' => e = .returned (.bool (Op.bytesLess (G i) (G j))) ∧ ∃ q, w' = W.drewN q := by
  have ci := hc i hi
  have cj := hc j hj
  have hi' : (i : Int) < (size : Int) := by omega
  have hj' : (j : Int) < (size : Int) := by omega
  go_enter Tryz.func63, Tryz.ntmps63
  go_wp2
  go_quiet (fail)
  go_wp2
  go_ret
  exact ⟨ret_bool (by simp [ByteArray.toList_mk]), nq, rfl⟩
end Go.Proofs.YthnkedbmfhokiaaGreatDoor
/-
  GetNum of the specification answers as getNum, and turns nothing.
-/
namespace Go.Proofs.YthnkedbmfhokiaaGreatDoor
open Go.RowKit
set_option linter.unusedVariables false

theorem ret2_i64 {x y x' y' : Int} {r : Int × Int} (h : r = (x', y')) (h1 : x = x') (h2 : y = y') : Ending.returned (.tuple #[.int .i64 x, .int .i64 y]) = .returned (.tuple #[.int .i64 r.1, .int .i64 r.2]) := by rw [h, h1, h2]

end Go.Proofs.YthnkedbmfhokiaaGreatDoor
/-
  l2quoted of the specification.
-/
namespace Go.Proofs.YthnkedbmfhokiaaGreatDoor
open Go.RowKit
set_option linter.unusedVariables false
set_option linter.unusedSimpArgs false

theorem Seg.byte {w : World} {b off : Nat} {ts : List Int} (h : Seg w (some ⟨b, off, none⟩) ts) {k : Nat} (hk : k < ts.length) : w.cell? ⟨b, off + k, none⟩ = some (.int .u8 ts[k]) := by
  obtain ⟨b', off', e, hc⟩ := h.at hk
  simp only [Option.some.injEq, Addr.mk.injEq] at e
  obtain ⟨rfl, rfl, _⟩ := e
  rw [hc]
  simp [List.getD_eq_getElem?_getD, hk]

end Go.Proofs.YthnkedbmfhokiaaGreatDoor
/-
  l2digits of the specification, at whatever number.
-/
namespace Go.Proofs.YthnkedbmfhokiaaGreatDoor
open Go.RowKit
set_option linter.unusedVariables false
set_option linter.unusedSimpArgs false

end Go.Proofs.YthnkedbmfhokiaaGreatDoor
/-
  A text that is read: its bytes, and that nil has no room.
-/
namespace Go.Proofs.YthnkedbmfhokiaaGreatDoor
open Go.RowKit
set_option linter.unusedVariables false

theorem TSeg.out {R : Nat → Prop} {w : World} {a : Option Addr} {n c : Nat} {xs : List Int} (h : TSeg R w (.slice a n c) xs) : Seg w a xs ∧ (a = none → c = 0) := by
  obtain ⟨a', c', h1, h2, h3, h4, h5, _⟩ := h
  simp only [Value.slice.injEq] at h1
  obtain ⟨rfl, _, rfl⟩ := h1
  exact ⟨h2, h5⟩
end Go.Proofs.YthnkedbmfhokiaaGreatDoor
/-
  sort.Slice as the program's fields calls it, walked by the shelf's contract: what it leaves is a permutation, ascending by the keys.
-/
namespace Go.Proofs.YthnkedbmfhokiaaGreatDoor
open Go.Shelf Go.RowKit Go.Lib Go.Sort
set_option linter.unusedVariables false
set_option linter.unusedSimpArgs false
set_option maxRecDepth 100000

theorem infoFT : (Tryz.prog.info? 78).isSome = true := by kernel_rfl
theorem infoFE : (Tryz.prog.info? 81).isSome = true := by kernel_rfl

theorem sort_fields (blk off c Bs : Nat) (d : Array (List UInt8 × (TypeId × Value))) (h2 : 2 ≤ d.size) (hsz : d.size < 4611686018427387904) (w : World) (hH : HoldsK encF 2 w blk off d) (hblk : blk < w.heap.size)
    (hBs : w.cell? ⟨Bs, 0, none⟩ = some (.slice (some ⟨blk, off, none⟩) d.size c)) (hB1 : Bs < w.heap.size) (hB2 : Bs ≠ blk) :
    Calls Tryz.prog 62 #[.iface 78 (.slice (some ⟨blk, off, none⟩) d.size c), .func (.func 63) #[] #[.pointer (some ⟨Bs, 0, none⟩)]] w fun e w' =>
      e = .returned (.tuple #[]) ∧ ∃ d' n os, PermIn 0 d.size d d' ∧ SortedIn ltF 0 d.size d' ∧ w' = grow (putRowK encF 2 (Sort.ahead w n) blk off d') os := by
  have hless : LessReadsK Tryz.prog 63 #[.pointer (some ⟨Bs, 0, none⟩)] encF 2 ltF blk off d.size w := by
    intro m os dk hs i j hi hj
    have e : sortWorldK encF 2 w blk off m dk os = putRowK encF 2 (grow (Sort.ahead w m) os) blk off dk := by
      unfold sortWorldK; rw [putRowK_grow _ _ (Sort.ahead w m) _ blk off _ hblk]
    have hHg : HoldsK encF 2 (grow (Sort.ahead w m) os) blk off d := holdsK_grow _ _ _ _ blk off d hblk (holdsK_ahead _ _ _ _ _ _ _ hH)
    refine fields_less blk off c Bs d.size _ (fun t => dk[t]!.1) ?_ (fun t ht => ?_) i j hi hj (by omega)
    · rw [e, cell?_putRowK_other _ _ _ blk off dk _ (by exact hB2), cell?_grow _ _ _ (by exact hB1)]; exact hBs
    · rw [e]; exact ((holdsK_putRowK _ _ _ blk off d dk hHg hs).cell (i := t) (c := 0) (by omega) (by omega)).1
  have hk9 : ∀ ie, Tryz.prog.info? 81 = some ie → Lib.swapperK d.size ie 25 = 9 := by
    intro ie hie
    have a : ((Tryz.prog.info? 81).map fun i => (i.hasPointers, i.bytes)) = some (true, 32) := by kernel_rfl
    rw [hie] at a
    simp at a
    have c : (d.size == 0) = false := by rw [beq_eq_false_iff_ne]; omega
    have d' : (d.size == 1) = false := by rw [beq_eq_false_iff_ne]; omega
    simp [Lib.swapperK, a.1, a.2, c, d']
  obtain ⟨iT, hiT⟩ := Option.isSome_iff_exists.1 infoFT
  obtain ⟨iE, hiE⟩ := Option.isSome_iff_exists.1 infoFE
  have hdT : iT.desc = .slice 81 := by
    have a : ((Tryz.prog.info? 78).map fun i => i.desc) = some (.slice 81) := by kernel_rfl
    rw [hiT] at a
    simpa using a
  have hsE : iE.size = 2 := by
    have a : ((Tryz.prog.info? 81).map fun i => i.size) = some 2 := by kernel_rfl
    rw [hiE] at a
    simpa using a
  exact Any.sort_Slice_cells_sorted Tryz.laysGg6 78 81 iT iE hiT hdT (by kernel_rfl) hiE 25 (fun _ => by kernel_rfl) encF 2 (fun _ => rfl) hsE (fun _ => by kernel_rfl)
    (fun x v hv => by simp [encF] at hv; rcases hv with rfl | rfl <;> rfl) ltF swo_ltF 63 _
    (enters_of Tryz.func63 (by kernel_rfl) rfl) blk off c d h2 hsz 88 (by rw [hk9 _ hiE]; kernel_rfl) false
    (fun args W => run_callFunc_extern Tryz.func88 (by kernel_rfl) (by kernel_rfl) (by kernel_rfl) (e := Extern.ReflectliteSwapper.swap false) (by kernel_rfl) args W) w hless hH hblk

theorem swap_none (ie : TypeInfo) : Lib.swapperK 0 ie 25 = 1 := rfl
theorem swap_one (ie : TypeInfo) : Lib.swapperK 1 ie 25 = 2 := rfl
/-- .. at no field or one: nothing that lay turns. -/
theorem sort_tiny (p : Option Addr) (n c Bs : Nat) (h1 : n ≤ 1) (w : World) :
    Calls Tryz.prog 62 #[.iface 78 (.slice p n c), .func (.func 63) #[] #[.pointer (some ⟨Bs, 0, none⟩)]] w fun e w' => e = .returned (.tuple #[]) ∧ ∃ os, w' = grow w os := by
  obtain ⟨iT, hiT⟩ := Option.isSome_iff_exists.1 infoFT
  obtain ⟨iE, hiE⟩ := Option.isSome_iff_exists.1 infoFE
  have hdT : iT.desc = .slice 81 := by
    have a : ((Tryz.prog.info? 78).map fun i => i.desc) = some (.slice 81) := by kernel_rfl
    rw [hiT] at a
    simpa using a
  have h01 : n = 0 ∨ n = 1 := by omega
  rcases h01 with rfl | rfl
  · exact Any.sort_Slice_tiny Tryz.laysGg6 78 81 iT iE hiT hdT (by kernel_rfl) hiE 25 (fun _ => by kernel_rfl) p 0 c h1 80 (by rw [swap_none]; kernel_rfl) _ _ _ w
  · exact Any.sort_Slice_tiny Tryz.laysGg6 78 81 iT iE hiT hdT (by kernel_rfl) hiE 25 (fun _ => by kernel_rfl) p 1 c h1 81 (by rw [swap_one]; kernel_rfl) _ _ _ w
end Go.Proofs.YthnkedbmfhokiaaGreatDoor
