/-
  string(b) of a slice of bytes; the order of two such.
-/
import Derived.Test.YtkklhdeecamifaaHelpB
import Derived.Laws.IdiomStrings
import Derived.Lib.Bytealg
namespace Go.Proofs.Ytkklhdeecamifaa
open Go.RowKit
set_option linter.unusedVariables false

/-- The bytes as a string. -/
def strOf (xs : List Int) : ByteArray := ⟨(xs.map fun n => UInt8.ofNat n.toNat).toArray⟩

theorem map_byt_inj {xs ys : List Int} (hx : ∀ x ∈ xs, Byt x) (hy : ∀ y ∈ ys, Byt y) (h : (xs.map fun n => UInt8.ofNat n.toNat) = ys.map fun n => UInt8.ofNat n.toNat) : xs = ys := by
  induction xs generalizing ys with
  | nil => simpa using h.symm
  | cons x xs ih =>
    cases ys with
    | nil => simp at h
    | cons y ys =>
      simp only [List.map_cons, List.cons.injEq] at h
      have h1 : x = y := by
        have hx0 := hx x (by simp)
        have hy0 := hy y (by simp)
        unfold Byt at hx0 hy0
        have := congrArg UInt8.toNat h.1
        simp at this
        omega
      rw [h1, ih (fun z hz => hx z (by simp [hz])) (fun z hz => hy z (by simp [hz])) h.2]

theorem strOf_eq {xs ys : List Int} (hx : ∀ x ∈ xs, Byt x) (hy : ∀ y ∈ ys, Byt y) : ((strOf xs).toList == (strOf ys).toList) = decide (xs = ys) := by
  rw [strOf, strOf, ByteArray.toList_mk, ByteArray.toList_mk]
  by_cases h : xs = ys
  · simp [h]
  · have : (xs.map fun n => UInt8.ofNat n.toNat) ≠ ys.map fun n => UInt8.ofNat n.toNat := fun e => h (map_byt_inj hx hy e)
    simp [h, this]

theorem conv_seg {w : World} {a : Option Addr} {xs : List Int} (cap : Nat) (h : Seg w a xs) : (convert 22 9 (.slice a xs.length cap)).run Try.prog w = .ok (.string (strOf xs)) w := by
  cases a with
  | none =>
    have hx : xs = [] := by
      rcases h.2 with h0 | ⟨b, off, h1, _⟩
      · exact h0
      · simp at h1
    subst hx
    rw [run_convert_bytes_string w 22 9 5 none _ cap Try.underlying22 Try.underlying5 Try.underlying9]
    rfl
  | some ad =>
    have hl : (xs.map fun n => UInt8.ofNat n.toNat).length = xs.length := by simp
    have := run_convert_bytes_back (P := Try.prog) w 22 9 5 ad cap (xs.map fun n => UInt8.ofNat n.toNat) Try.underlying22 Try.underlying5 Try.underlying9 (by
      intro j hj
      rcases h.2 with h0 | ⟨b, off, h1, h2⟩
      · subst h0; simp at hj
      · simp at h1
        subst h1
        have hj' : j < xs.length := by simpa using hj
        rw [Addr.add_lit, h2 j hj']
        have hb := h.1 xs[j] (List.getElem_mem hj')
        unfold Byt at hb
        simp [hj']
        omega)
    rw [hl] at this
    exact this

theorem ret_bool {x y : Bool} (h : x = y) : Ending.returned (.bool x) = .returned (.bool y) := by rw [h]


/-- The bytes as such. -/
def u8s (xs : List Int) : List UInt8 := xs.map fun n => UInt8.ofNat n.toNat
theorem strOf_list (xs : List Int) : (strOf xs).toList = u8s xs := by rw [strOf, ByteArray.toList_mk]; rfl
theorem strOf_data (xs : List Int) : (strOf xs).data.toList = u8s xs := rfl

/-- One text is ahead of another one. -/
def ltS (xs ys : List Int) : Bool := Op.bytesLess (u8s xs) (u8s ys)

theorem less_cmp : ∀ (a b : List UInt8), Op.bytesLess a b = decide (Lib.compareBytes a b < 0)
  | [], [] => by simp [Op.bytesLess, Lib.compareBytes]
  | [], _ :: _ => by simp [Op.bytesLess, Lib.compareBytes]
  | _ :: _, [] => by simp [Op.bytesLess, Lib.compareBytes]
  | x :: a, y :: b => by
    have ih := less_cmp a b
    unfold Op.bytesLess Lib.compareBytes
    by_cases h1 : x < y
    · simp [h1]
    · by_cases h2 : y < x
      · have h3 : ¬ x = y := fun e => by subst e; exact absurd h2 (UInt8.lt_irrefl _)
        simp [h1, h2, h3]
      · have h3 : x = y := UInt8.le_antisymm (UInt8.not_lt.1 h2) (UInt8.not_lt.1 h1)
        subst h3
        simp [h1, ih]

theorem cmp_range : ∀ (a b : List UInt8), -1 ≤ Lib.compareBytes a b ∧ Lib.compareBytes a b ≤ 1
  | [], [] => by simp [Lib.compareBytes]
  | [], _ :: _ => by simp [Lib.compareBytes]
  | _ :: _, [] => by simp [Lib.compareBytes]
  | x :: a, y :: b => by
    have ih := cmp_range a b
    unfold Lib.compareBytes
    split
    · omega
    · split
      · omega
      · exact ih

theorem load_bytes {P : Program} (w : World) (xs : List Int) : ∀ (b off : Nat) (acc : ByteArray), (∀ i, i < xs.length → w.cell? ⟨b, off + i, none⟩ = some (.int .u8 (xs.getD i 0))) →
    (Extern.Bytes.loadBytes ⟨b, off, none⟩ xs.length acc).run P w = .ok ⟨acc.data ++ (u8s xs).toArray⟩ w := by
  induction xs with
  | nil => intro b off acc _; simp [Extern.Bytes.loadBytes, u8s]
  | cons x xs ih =>
    intro b off acc h
    have h0 := h 0 (by simp)
    simp only [Nat.add_zero, List.getD_cons_zero] at h0
    have h1 := ih b (off + 1) (acc.push x.toNat.toUInt8) (fun i hi => by
      have := h (i + 1) (by simp; omega)
      rw [show off + 1 + i = off + (i + 1) from by omega, this]
      simp)
    have e : (⟨b, off, none⟩ : Addr).add 1 = ⟨b, off + 1, none⟩ := Addr.add_lit b off 1
    simp only [List.length_cons, Extern.Bytes.loadBytes, Sem.run_bind, run_load, h0, Result.andThen, e]
    rw [h1]
    congr 1
    apply ByteArray.ext
    simp [ByteArray.push, u8s]

theorem bytes_of_seg {P : Program} {w : World} {a : Option Addr} {xs : List Int} (cap : Nat) (h : Seg w a xs) : (Extern.Bytes.bytesOf (.slice a xs.length cap)).run P w = .ok (strOf xs) w := by
  cases a with
  | none =>
    have hx : xs = [] := by
      rcases h.2 with h0 | ⟨b, off, h1, _⟩
      · exact h0
      · simp at h1
    subst hx
    rfl
  | some ad =>
    rcases h.2 with h0 | ⟨b, off, h1, h2⟩
    · subst h0
      rfl
    · simp at h1
      subst h1
      have := load_bytes (P := P) w xs b off .empty h2
      have he : (⟨ByteArray.empty.data ++ (u8s xs).toArray⟩ : ByteArray) = strOf xs := by
        apply ByteArray.ext
        show (#[] : Array UInt8) ++ (u8s xs).toArray = _
        simp [strOf, u8s]
      rw [he] at this
      exact this

theorem run_compare_seg {P : Program} {w : World} {a b : Option Addr} {xs ys : List Int} (c1 c2 : Nat) (ha : Seg w a xs) (hb : Seg w b ys) :
    (Extern.BytealgCompare.compare #[.slice a xs.length c1, .slice b ys.length c2]).run P w = .ok (.int .i64 (Lib.compareBytes (u8s xs) (u8s ys))) w := by
  change Sem.run P (do pure (goInt (Extern.BytealgCompare.cmp (← Extern.Bytes.bytesOf (.slice a xs.length c1)) (← Extern.Bytes.bytesOf (.slice b ys.length c2))))) w = _
  simp only [Sem.run_bind, bytes_of_seg c1 ha, bytes_of_seg c2 hb, Sem.run_pure, Result.andThen]
  rw [Lib.cmp_eq]
  rfl

end Go.Proofs.Ytkklhdeecamifaa
