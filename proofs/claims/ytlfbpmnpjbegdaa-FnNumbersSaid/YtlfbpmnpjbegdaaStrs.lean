/-
  string(b) of a slice of bytes, and the equality of two such strings: bytes.Equal, sameBytes, bytes.HasPrefix.
-/
import Derived.Test.YtlfbpmnpjbegdaaGetTxt
import Derived.Test.YtlfbpmnpjbegdaaComm
import Derived.Laws.IdiomStrings
namespace Go.Proofs.Ytlfbpmnpjbegdaa
open Go.RowKit
set_option linter.unusedVariables false

/-- The bytes as a string. -/
def strOf (xs : List Int) : ByteArray := ⟨(xs.map fun n => UInt8.ofNat n.toNat).toArray⟩

theorem map_byt_inj {xs ys : List Int} (hx : ∀ x ∈ xs, Byt x) (hy : ∀ y ∈ ys, Byt y) (h : (xs.map fun n => UInt8.ofNat n.toNat) = ys.map fun n => UInt8.ofNat n.toNat) : xs = ys := by
  induction xs generalizing ys with
  | nil => simpa using h.symm
  | cons x xs ih =>
    cases ys with
    | nil => simp at h
    | cons y ys =>
      simp only [List.map_cons, List.cons.injEq] at h
      have h1 : x = y := by
        have hx0 := hx x (by simp)
        have hy0 := hy y (by simp)
        unfold Byt at hx0 hy0
        have := congrArg UInt8.toNat h.1
        simp at this
        omega
      rw [h1, ih (fun z hz => hx z (by simp [hz])) (fun z hz => hy z (by simp [hz])) h.2]

theorem strOf_eq {xs ys : List Int} (hx : ∀ x ∈ xs, Byt x) (hy : ∀ y ∈ ys, Byt y) : ((strOf xs).toList == (strOf ys).toList) = decide (xs = ys) := by
  rw [strOf, strOf, ByteArray.toList_mk, ByteArray.toList_mk]
  by_cases h : xs = ys
  · simp [h]
  · have : (xs.map fun n => UInt8.ofNat n.toNat) ≠ ys.map fun n => UInt8.ofNat n.toNat := fun e => h (map_byt_inj hx hy e)
    simp [h, this]

theorem conv_seg {w : World} {a : Option Addr} {xs : List Int} (cap : Nat) (h : Seg w a xs) : (convert 22 9 (.slice a xs.length cap)).run Try.prog w = .ok (.string (strOf xs)) w := by
  cases a with
  | none =>
    have hx : xs = [] := by
      rcases h.2 with h0 | ⟨b, off, h1, _⟩
      · exact h0
      · simp at h1
    subst hx
    rw [run_convert_bytes_string w 22 9 5 none _ cap Try.underlying22 Try.underlying5 Try.underlying9]
    rfl
  | some ad =>
    have hl : (xs.map fun n => UInt8.ofNat n.toNat).length = xs.length := by simp
    have := run_convert_bytes_back (P := Try.prog) w 22 9 5 ad cap (xs.map fun n => UInt8.ofNat n.toNat) Try.underlying22 Try.underlying5 Try.underlying9 (by
      intro j hj
      rcases h.2 with h0 | ⟨b, off, h1, h2⟩
      · subst h0; simp at hj
      · simp at h1
        subst h1
        have hj' : j < xs.length := by simpa using hj
        rw [Addr.add_lit, h2 j hj']
        have hb := h.1 xs[j] (List.getElem_mem hj')
        unfold Byt at hb
        simp [hj']
        omega)
    rw [hl] at this
    exact this

theorem ret_bool {x y : Bool} (h : x = y) : Ending.returned (.bool x) = .returned (.bool y) := by rw [h]

set_option maxHeartbeats 800000 in
theorem bytes_Equal_any (a b : Option Addr) (c1 c2 : Nat) (xs ys : List Int) (w : World) (ha : Seg w a xs) (hb : Seg w b ys) :
    Calls Try.prog 49 #[.slice a xs.length c1, .slice b ys.length c2] w fun e w' => e = .returned (.bool (decide (xs = ys))) ∧ w = w' := by
  have k1 := conv_seg c1 ha
  have k2 := conv_seg c2 hb
  go_enter Try.func49, Try.ntmps49
  go_wp2
  go_ret
  exact ⟨ret_bool (strOf_eq ha.1 hb.1), rfl⟩
set_option maxHeartbeats 800000 in
theorem laws_sameBytes_any (a b : Option Addr) (c1 c2 : Nat) (xs ys : List Int) (w : World) (ha : Seg w a xs) (hb : Seg w b ys) :
    Calls Try.prog 18 #[.slice a xs.length c1, .slice b ys.length c2] w fun e w' => e = .returned (.bool (decide (xs = ys))) ∧ w = w' := by
  have k1 := conv_seg c1 ha
  have k2 := conv_seg c2 hb
  go_enter Try.func18, Try.ntmps18
  go_wp2
  go_ret
  exact ⟨ret_bool (strOf_eq ha.1 hb.1), rfl⟩

theorem seg_take {w : World} {a : Option Addr} {xs : List Int} (h : Seg w a xs) (n : Nat) : Seg w a (xs.take n) := by
  refine ⟨fun x hx => h.1 x (List.mem_of_mem_take hx), ?_⟩
  rcases h.2 with h0 | ⟨b, off, h1, h2⟩
  · exact .inl (by simp [h0])
  · refine .inr ⟨b, off, h1, fun i hi => ?_⟩
    have hi' : i < n ∧ i < xs.length := by simp at hi; omega
    rw [h2 i hi'.2]
    simp [List.getD_eq_getElem?_getD, hi'.1]

theorem elemSize (w : World) : (sizeOf (Try.prog.elem 22)).run Try.prog w = .ok 1 w := by kernel_rfl

/-- 'b[:n]'. -/
theorem slice_to (w : World) (a : Option Addr) (len cap n : Nat) (h : n ≤ cap) : (Instr.slice 22 (.slice a len cap) none (some (.int .i64 n)) none).run Try.prog w = .ok (.slice a n cap) w := by
  rw [run_slice_h (P := Try.prog) w 22 a len cap (by kernel_rfl) .i64 n (by omega) (by omega), elemSize]
  cases a with
  | none => simp [Result.andThen, sliced]
  | some x => simp [Result.andThen, sliced, Addr.add]

/-- What HasPrefix answers. -/
def hasPre (xs ys : List Int) : Bool := decide (xs.take ys.length = ys)

theorem hasPre_no (xs ys : List Int) (h : xs.length < ys.length) : hasPre xs ys = false := by
  have : ¬ xs.take ys.length = ys := fun e => by
    have := congrArg List.length e
    simp at this
    omega
  simp [hasPre, this]

set_option maxHeartbeats 800000 in
theorem bytes_HasPrefix_any (a b : Option Addr) (c1 c2 : Nat) (xs ys : List Int) (w : World) (ha : Seg w a xs) (hb : Seg w b ys) (hc : xs.length ≤ c1) (hc2 : c1 ≤ maxLen) (hy : ys.length ≤ maxLen) :
    Calls Try.prog 47 #[.slice a xs.length c1, .slice b ys.length c2] w fun e w' => e = .returned (.bool (hasPre xs ys)) ∧ w = w' := by
  unfold maxLen at hc2 hy
  by_cases h : xs.length < ys.length
  · have Hh : Hid (hasPre xs ys = false) := hasPre_no xs ys h
    have h' : (xs.length : Int) < (ys.length : Int) := by omega
    go_enter Try.func47, Try.ntmps47
    go_wp2
    go_ret
    exact ⟨ret_bool (by rw [Hh.out]), rfl⟩
  · have h' : ¬ (xs.length : Int) < (ys.length : Int) := by omega
    go_enter Try.func47, Try.ntmps47
    go_wp2_with fail
    have hE := bytes_Equal_any a b c1 c2 (xs.take ys.length) ys w (seg_take ha _) hb
    rw [show (xs.take ys.length).length = ys.length from by simp; omega] at hE
    refine hE.mono ?_
    rintro e w1 ⟨rfl, rfl⟩
    clear hE
    go_wp2
    go_ret
    exact ⟨ret_bool rfl, rfl⟩

set_option maxHeartbeats 800000 in
theorem impl_HasPrefix_any (a b : Option Addr) (c1 c2 : Nat) (xs ys : List Int) (w : World) (ha : Seg w a xs) (hb : Seg w b ys) (hc : xs.length ≤ c1) (hc2 : c1 ≤ maxLen) (hy : ys.length ≤ maxLen) :
    Calls Try.prog 24 #[.slice a xs.length c1, .slice b ys.length c2] w fun e w' => e = .returned (.bool (hasPre xs ys)) ∧ w = w' := by
  go_enter Try.func24, Try.ntmps24
  go_wp2_with fail
  refine (bytes_HasPrefix_any a b c1 c2 xs ys _ ha hb hc hc2 hy).mono ?_
  rintro e w1 ⟨rfl, rfl⟩
  go_wp2
  go_ret
  exact ⟨rfl, rfl⟩

set_option maxHeartbeats 800000 in
theorem spec_HasPrefix_any (a b : Option Addr) (c1 c2 : Nat) (xs ys : List Int) (w : World) (ha : Seg w a xs) (hb : Seg w b ys) (hc : xs.length ≤ c1) (hc2 : c1 ≤ maxLen) (hy : ys.length ≤ maxLen) :
    Calls Try.prog 35 #[.slice a xs.length c1, .slice b ys.length c2] w fun e w' => e = .returned (.bool (hasPre xs ys)) ∧ Below w.heap.size w w' := by
  unfold maxLen at hc2 hy
  by_cases h : xs.length < ys.length
  · have Hh : Hid (hasPre xs ys = false) := hasPre_no xs ys h
    have h' : (xs.length : Int) < (ys.length : Int) := by omega
    have hd : decide ((ys.length : Int) ≤ (xs.length : Int)) = false := by simp; omega
    have hd2 : decide (ys.length ≤ xs.length) = false := by simp; omega
    go_enter Try.func35, Try.ntmps35
    go_wp2
    go_quiet (fail)
    go_wp2
    go_ret
    exact ⟨ret_bool (by rw [Hh.out]), below_drewN (Below.refl _ _) _⟩
  · have h' : (ys.length : Int) ≤ (xs.length : Int) := by omega
    have hd : decide ((ys.length : Int) ≤ (xs.length : Int)) = true := by simp; omega
    have k1 : ∀ nq, (convert 22 9 (.slice a ys.length c1)).run Try.prog (w.drewN nq) = .ok (.string (strOf (xs.take ys.length))) (w.drewN nq) := by
      intro nq
      have := conv_seg c1 (seg_take (ha.grow (below_drewN (Below.refl _ _) nq)) ys.length)
      rw [show (xs.take ys.length).length = ys.length from by simp; omega] at this
      exact this
    have k2 : ∀ nq, (convert 22 9 (.slice b ys.length c2)).run Try.prog (w.drewN nq) = .ok (.string (strOf ys)) (w.drewN nq) := fun nq => conv_seg c2 (hb.grow (below_drewN (Below.refl _ _) nq))
    have hE := strOf_eq (seg_take ha ys.length).1 hb.1
    have hsl := fun wx => slice_to wx a xs.length c1 ys.length (by omega)
    have HE : Hid (((strOf (xs.take ys.length)).toList == (strOf ys).toList) = decide (xs.take ys.length = ys)) := hE
    clear hE
    go_enter Try.func35, Try.ntmps35
    go_wp2
    go_quiet (fail)
    go_wp2
    go_ret
    exact ⟨ret_bool HE.out, below_drewN (Below.refl _ _) _⟩
end Go.Proofs.Ytlfbpmnpjbegdaa
