/-
  Texts that a law leans on, one behind the other; no statement is proved here.
-/
import Derived.Test.YthidmlfmcjdcnaaPk0
import Derived.WalkKit
import Derived.ProofKit
import Derived.ChangeSlices
import Derived.ChangeArms
import Derived.Test.YthidmlfmcjdcnaaPk4
import Derived.Deep.RegionWith
import Derived.Maps.AppendAt
/-
  The order of texts, as the specification asks it: l2bytes.
-/
namespace Go.Proofs.Ythidmlfmcjdcnaa
open Go.RowKit
set_option linter.unusedVariables false
set_option linter.unusedSimpArgs false

/-- The order of two texts. -/
def bytesC (xs ys : List Int) : Int := Lib.compareBytes (u8s xs) (u8s ys)

theorem cmp_swap : ∀ (a b : List UInt8), Lib.compareBytes b a = - Lib.compareBytes a b
  | [], [] => by simp [Lib.compareBytes]
  | [], _ :: _ => by simp [Lib.compareBytes]
  | _ :: _, [] => by simp [Lib.compareBytes]
  | x :: a, y :: b => by
    have ih := cmp_swap a b
    unfold Lib.compareBytes
    by_cases h1 : x < y
    · have h2 : ¬ y < x := fun h => absurd (UInt8.lt_trans h1 h) (UInt8.lt_irrefl _)
      have h3 : ¬ x = y := fun e => by subst e; exact absurd h1 (UInt8.lt_irrefl _)
      have h4 : ¬ y = x := fun e => h3 e.symm
      simp [h1, h2, h3, h4]
    · by_cases h2 : y < x
      · have h3 : ¬ x = y := fun e => by subst e; exact absurd h2 (UInt8.lt_irrefl _)
        have h4 : ¬ y = x := fun e => h3 e.symm
        simp [h1, h2, h3, h4]
      · have h3 : x = y := UInt8.le_antisymm (UInt8.not_lt.1 h2) (UInt8.not_lt.1 h1)
        subst h3
        simp [h1, ih]

theorem less_ab (xs ys : List Int) : Op.bytesLess (strOf xs).toList (strOf ys).toList = decide (bytesC xs ys < 0) := by rw [strOf_list, strOf_list, less_cmp]; rfl
theorem less_ba (xs ys : List Int) : Op.bytesLess (strOf ys).toList (strOf xs).toList = decide (0 < bytesC xs ys) := by
  rw [strOf_list, strOf_list, less_cmp, cmp_swap]
  show decide (-(bytesC xs ys) < 0) = _
  by_cases h : 0 < bytesC xs ys
  · simp [h]
  · simp [h]
theorem cmp_zero : ∀ (a b : List UInt8), Lib.compareBytes a b = 0 ↔ a = b
  | [], [] => by simp [Lib.compareBytes]
  | [], _ :: _ => by simp [Lib.compareBytes]
  | _ :: _, [] => by simp [Lib.compareBytes]
  | x :: a, y :: b => by
    have ih := cmp_zero a b
    unfold Lib.compareBytes
    by_cases h1 : x < y
    · have h3 : ¬ x = y := fun e => by subst e; exact absurd h1 (UInt8.lt_irrefl _)
      simp [h1, h3]
    · by_cases h2 : y < x
      · have h3 : ¬ x = y := fun e => by subst e; exact absurd h2 (UInt8.lt_irrefl _)
        simp [h1, h2, h3]
      · have h3 : x = y := UInt8.le_antisymm (UInt8.not_lt.1 h2) (UInt8.not_lt.1 h1)
        subst h3
        simp [h1, ih]
theorem same_ab (xs ys : List Int) : ((strOf xs).toList == (strOf ys).toList) = decide (bytesC xs ys = 0) := by
  rw [strOf_list, strOf_list]
  have h := cmp_zero (u8s xs) (u8s ys)
  show _ = decide (Lib.compareBytes (u8s xs) (u8s ys) = 0)
  by_cases e : u8s xs = u8s ys
  · simp [e, h.2 e]
    exact (cmp_zero _ _).2 rfl
  · have : ¬ Lib.compareBytes (u8s xs) (u8s ys) = 0 := fun k => e (h.1 k)
    simp [e, this]
theorem bytesC_cases (xs ys : List Int) : bytesC xs ys = -1 ∨ bytesC xs ys = 0 ∨ bytesC xs ys = 1 := by
  have := cmp_range (u8s xs) (u8s ys)
  have e : bytesC xs ys = Lib.compareBytes (u8s xs) (u8s ys) := rfl
  omega

set_option maxHeartbeats 800000 in
theorem l2bytes_any (a b : Option Addr) (c1 c2 : Nat) (xs ys : List Int) (w : World) (ha : Seg w a xs) (hb : Seg w b ys) :
    Calls Try.prog 24 #[.slice a xs.length c1, .slice b ys.length c2] w fun e w' => e = .returned (.int .i64 (bytesC xs ys)) ∧ w = w' := by
  have k1 := conv_seg c1 ha
  have k2 := conv_seg c2 hb
  have l1 := less_ab xs ys
  have l2 := less_ba xs ys
  have l3 := same_ab xs ys
  rcases bytesC_cases xs ys with h | h | h
  · rw [h] at l1 l2 l3
    simp only [Int.reduceNeg, Int.reduceLT, Int.reduceEq, decide_true, decide_false, Int.lt_irrefl] at l1 l2 l3
    have HO := hide' h
    clear h
    go_enter Try.func24, Try.ntmps24
    go_wp2
    go_ret
    exact ⟨ret_i64 (by rw [HO.out]), rfl⟩
  · rw [h] at l1 l2 l3
    simp only [Int.reduceNeg, Int.reduceLT, Int.reduceEq, decide_true, decide_false, Int.lt_irrefl] at l1 l2 l3
    have HO := hide' h
    clear h
    go_enter Try.func24, Try.ntmps24
    go_wp2
    go_ret
    exact ⟨ret_i64 (by rw [HO.out]), rfl⟩
  · rw [h] at l1 l2 l3
    simp only [Int.reduceNeg, Int.reduceLT, Int.reduceEq, decide_true, decide_false, Int.lt_irrefl] at l1 l2 l3
    have HO := hide' h
    clear h
    go_enter Try.func24, Try.ntmps24
    go_wp2
    go_ret
    exact ⟨ret_i64 (by rw [HO.out]), rfl⟩

end Go.Proofs.Ythidmlfmcjdcnaa
/-
  The order of numbers and of texts, as the specification and as the program ask it: l2num; cmp.Compare at int.
-/
namespace Go.Proofs.Ythidmlfmcjdcnaa
open Go.RowKit
set_option linter.unusedVariables false
set_option linter.unusedSimpArgs false

/-- The order of two numbers. -/
def numC (a b : Int) : Int := if a < b then -1 else if b < a then 1 else 0
theorem numC_lt {a b : Int} (h : a < b) : numC a b = -1 := by simp [numC, h]
theorem numC_gt {a b : Int} (h : b < a) : numC a b = 1 := by
  have : ¬ a < b := by omega
  simp [numC, h, this]
theorem numC_eq (a : Int) : numC a a = 0 := by simp [numC]

set_option maxHeartbeats 800000 in
theorem l2num_any (a b : Int) (w : World) : Calls Try.prog 23 #[.int .i64 a, .int .i64 b] w fun e w' => e = .returned (.int .i64 (numC a b)) ∧ w = w' := by
  by_cases h1 : a < b
  · have HO := hide' (numC_lt h1)
    go_enter Try.func23, Try.ntmps23
    go_wp2
    go_ret
    exact ⟨ret_i64 (by rw [HO.out]), rfl⟩
  · by_cases h2 : b < a
    · have HO := hide' (numC_gt h2)
      go_enter Try.func23, Try.ntmps23
      go_wp2
      go_ret
      exact ⟨ret_i64 (by rw [HO.out]), rfl⟩
    · have h3 : a = b := by omega
      subst h3
      have HO := hide' (numC_eq a)
      go_enter Try.func23, Try.ntmps23
      go_wp2
      go_ret
      exact ⟨ret_i64 (by rw [HO.out]), rfl⟩

set_option maxHeartbeats 800000 in
theorem isNaN_any (a : Int) (w : World) : Calls Try.prog 39 #[.int .i64 a] w fun e w' => e = .returned (.bool false) ∧ w = w' := by
  go_enter Try.func39, Try.ntmps39
  go_wp2
  go_ret
  exact ⟨rfl, rfl⟩

set_option maxHeartbeats 800000 in
theorem cmpInt_any (a b : Int) (w : World) : Calls Try.prog 26 #[.int .i64 a, .int .i64 b] w fun e w' => e = .returned (.int .i64 (numC a b)) ∧ w = w' := by
  have H1 := hide' (isNaN_any a w)
  have H2 := hide' (isNaN_any b w)
  by_cases h1 : a < b
  · have HO := hide' (numC_lt h1)
    go_enter Try.func26, Try.ntmps26
    go_wp2_with fail
    refine H1.out.mono ?_
    rintro e w1 ⟨rfl, e1⟩
    obtain rfl := e1
    go_wp2_with fail
    refine H2.out.mono ?_
    rintro e w1 ⟨rfl, e1⟩
    obtain rfl := e1
    go_wp2
    go_ret
    exact ⟨ret_i64 (by rw [HO.out]), rfl⟩
  · by_cases h2 : b < a
    · have HO := hide' (numC_gt h2)
      go_enter Try.func26, Try.ntmps26
      go_wp2_with fail
      refine H1.out.mono ?_
      rintro e w1 ⟨rfl, e1⟩
      obtain rfl := e1
      go_wp2_with fail
      refine H2.out.mono ?_
      rintro e w1 ⟨rfl, e1⟩
      obtain rfl := e1
      go_wp2
      go_ret
      exact ⟨ret_i64 (by rw [HO.out]), rfl⟩
    · have h3 : a = b := by omega
      subst h3
      have HO := hide' (numC_eq a)
      go_enter Try.func26, Try.ntmps26
      go_wp2_with fail
      refine H1.out.mono ?_
      rintro e w1 ⟨rfl, e1⟩
      obtain rfl := e1
      go_wp2_with fail
      refine H2.out.mono ?_
      rintro e w1 ⟨rfl, e1⟩
      obtain rfl := e1
      go_wp2
      go_ret
      exact ⟨ret_i64 (by rw [HO.out]), rfl⟩

end Go.Proofs.Ythidmlfmcjdcnaa
/-
  strings.Compare: the order of two texts.
-/
namespace Go.Proofs.Ythidmlfmcjdcnaa
open Go.RowKit
set_option linter.unusedVariables false
set_option linter.unusedSimpArgs false

theorem run_cmpS (xs ys : List Int) (w : World) : (Extern.BytealgCompare.compare #[.string (strOf xs), .string (strOf ys)]).run Try.prog w = .ok (.int .i64 (bytesC xs ys)) w := Lib.run_compareString (strOf xs) (strOf ys) w

set_option maxHeartbeats 800000 in
set_option maxRecDepth 100000 in
theorem bytealg_CompareString_any (xs ys : List Int) (w : World) : Calls Try.prog 40 #[.string (strOf xs), .string (strOf ys)] w fun e w' => e = .returned (.int .i64 (bytesC xs ys)) ∧ w = w' := by
  go_enter Try.func40, Try.ntmps40
  go_wp2
  rw [run_callFunc_extern Try.func45 (by kernel_rfl) (by kernel_rfl) (by kernel_rfl) (e := Extern.BytealgCompare.compare) (by kernel_rfl), run_cmpS]
  simp only [Result.andThen]
  rw [Oper.upon_value]
  go_wp2
  go_ret
  exact ⟨rfl, rfl⟩

set_option maxHeartbeats 800000 in
theorem strings_Compare_any (xs ys : List Int) (w : World) : Calls Try.prog 27 #[.string (strOf xs), .string (strOf ys)] w fun e w' => e = .returned (.int .i64 (bytesC xs ys)) ∧ w = w' := by
  have H := hide' (bytealg_CompareString_any xs ys w)
  go_enter Try.func27, Try.ntmps27
  go_wp2_with fail
  refine H.out.mono ?_
  rintro e w1 ⟨rfl, e1⟩
  obtain rfl := e1
  go_wp2
  go_ret
  exact ⟨rfl, rfl⟩
end Go.Proofs.Ythidmlfmcjdcnaa
/-
  A text that came in, as its reading has it, can be read: 'TSeg'.
-/
namespace Go.Proofs.Ythidmlfmcjdcnaa
open Go.ChangeShapes Go.WideShapes Go.ChangeAt Go.RowKit
set_option linter.unusedVariables false
set_option linter.unusedSimpArgs false
set_option maxRecDepth 100000

theorem cellsT : Try.prog.cellsOf 22 = 1 := by kernel_rfl
theorem cellsI : Try.prog.cellsOf 3 = 1 := by kernel_rfl

theorem list_of {α : Type} {Q : Nat → α → Prop} : ∀ n, (∀ i, i < n → ∃ x, Q i x) → ∃ l : List α, l.length = n ∧ ∀ i (h : i < l.length), Q i l[i]
  | 0, _ => ⟨[], rfl, fun i h => by simp at h⟩
  | n + 1, hq => by
    obtain ⟨l, hl, hi⟩ := list_of n (fun i hi => hq i (by omega))
    obtain ⟨x, hx⟩ := hq n (by omega)
    refine ⟨l ++ [x], by simp [hl], fun i h => ?_⟩
    by_cases e : i < l.length
    · rw [List.getElem_append_left e]; exact hi i e
    · have : i = n := by simp at h; omega
      subst this
      rw [List.getElem_append_right (by omega)]
      simpa using hx

variable {H : Type} {enc : TypeId × Value → H} {w : World}

theorem read_text {fuel : Nat} {cs : List Value} {x : DataW H × List MemPlace} (h : DataW.trod enc Try.prog w 0 (fun _ => true) true fuel 22 cs = some x) : ∃ u xs, cs = [u] ∧ TSeg (fun b => b < w.heap.size) w u xs := by
  rcases open_ints Try.underlying22 Try.underlying5 (by kernel_rfl) h with ⟨rfl, _⟩ | ⟨a, len, cap, zs, rfl, _, hl, hm, hz, _, hcell, hwz⟩
  · exact ⟨_, [], rfl, none, 0, rfl, ⟨by simp, .inl rfl⟩, Nat.le_refl _, Nat.zero_le _, fun _ => rfl, by simp⟩
  · obtain ⟨xs, e, hs, h1, h2, h3⟩ := seg_of_row (w := w) (a := some a) (len := len) (cap := cap) (zs := zs) (.inr ⟨a, rfl, hl, hm, by simpa using hz, hcell, hwz⟩)
    subst e
    exact ⟨_, xs, rfl, some a, cap, rfl, hs, h1, h2, h3, hs.lt⟩

end Go.Proofs.Ythidmlfmcjdcnaa
/-
  The order of values, as the specification has it: 'cmpV'; readings at one depth. Plain mathematics.
-/
namespace Go.Proofs.Ythidmlfmcjdcnaa
open Go.RowKit
set_option linter.unusedVariables false
set_option linter.unusedSimpArgs false

/-- The order of two lists of parts, with their keys where they are those of maps. -/
def cmpLs {α : Type} (m : Bool) (f : α → α → Int) : List (List Int) → List (List Int) → List α → List α → Int
  | _, _, [], [] => 0
  | _, _, [], _ :: _ => -1
  | _, _, _ :: _, [] => 1
  | aK, bK, a :: aL, b :: bL => if m = true ∧ bytesC (aK.headD []) (bK.headD []) ≠ 0 then bytesC (aK.headD []) (bK.headD []) else if f a b ≠ 0 then f a b else cmpLs m f aK.tail bK.tail aL bL

/-- The order of two values. -/
def cmpV : (d : Nat) → Vl d → Vl d → Int
  | 0, _, _ => 0
  | d + 1, a, b => if a.1 ≠ b.1 then numC a.1 b.1 else if a.1 = 3 then bytesC a.2.2.1 b.2.2.1 else if a.2.1 ≠ b.2.1 then numC a.2.1 b.2.1 else cmpLs (decide (a.1 = 5)) (cmpV d) a.2.2.2.1 b.2.2.2.1 a.2.2.2.2 b.2.2.2.2

/-- From the k-th parts on. -/
def cmpK {d : Nat} (m : Bool) (aK bK : List (List Int)) (aL bL : List (Vl d)) (k : Nat) : Int := cmpLs m (cmpV d) (aK.drop k) (bK.drop k) (aL.drop k) (bL.drop k)

theorem headD_drop (l : List (List Int)) (k : Nat) : (l.drop k).headD [] = l.getD k [] := by
  induction l generalizing k with
  | nil => simp
  | cons a l ih =>
    cases k with
    | zero => rfl
    | succ k => simp

theorem tail_drop (l : List (List Int)) (k : Nat) : (l.drop k).tail = l.drop (k + 1) := by rw [List.tail_drop]

theorem cmpK_step {d : Nat} {m : Bool} {aK bK : List (List Int)} {aL bL : List (Vl d)} {k : Nat} (ha : k < aL.length) (hb : k < bL.length) :
    cmpK m aK bK aL bL k = if m = true ∧ bytesC (aK.getD k []) (bK.getD k []) ≠ 0 then bytesC (aK.getD k []) (bK.getD k []) else if cmpV d aL[k] bL[k] ≠ 0 then cmpV d aL[k] bL[k] else cmpK m aK bK aL bL (k + 1) := by
  unfold cmpK
  rw [List.drop_eq_getElem_cons ha, List.drop_eq_getElem_cons hb]
  simp only [cmpLs, headD_drop, tail_drop]
theorem cmpK_end1 {d : Nat} {m : Bool} {aK bK : List (List Int)} {aL bL : List (Vl d)} {k : Nat} (ha : k < aL.length) (hb : ¬ k < bL.length) : cmpK m aK bK aL bL k = 1 := by
  unfold cmpK
  rw [List.drop_eq_getElem_cons ha, List.drop_eq_nil_of_le (by omega : bL.length ≤ k)]
  rfl
theorem cmpK_end2 {d : Nat} {m : Bool} {aK bK : List (List Int)} {aL bL : List (Vl d)} {k : Nat} (ha : ¬ k < aL.length) (hb : k < bL.length) : cmpK m aK bK aL bL k = -1 := by
  unfold cmpK
  rw [List.drop_eq_getElem_cons hb, List.drop_eq_nil_of_le (by omega : aL.length ≤ k)]
  rfl
theorem cmpK_end3 {d : Nat} {m : Bool} {aK bK : List (List Int)} {aL bL : List (Vl d)} {k : Nat} (ha : ¬ k < aL.length) (hb : ¬ k < bL.length) : cmpK m aK bK aL bL k = 0 := by
  unfold cmpK
  rw [List.drop_eq_nil_of_le (by omega : aL.length ≤ k), List.drop_eq_nil_of_le (by omega : bL.length ≤ k)]
  rfl
theorem cmpK_zero {d : Nat} (m : Bool) (aK bK : List (List Int)) (aL bL : List (Vl d)) : cmpK m aK bK aL bL 0 = cmpLs m (cmpV d) aK bK aL bL := by simp [cmpK]

theorem cmpV_kind {d : Nat} {a b : Vl (d + 1)} (h : a.1 ≠ b.1) : cmpV (d + 1) a b = numC a.1 b.1 := by
  show (if a.1 ≠ b.1 then _ else _) = _
  rw [if_pos h]
theorem cmpV_text {d : Nat} {a b : Vl (d + 1)} (h : a.1 = b.1) (h3 : a.1 = 3) : cmpV (d + 1) a b = bytesC a.2.2.1 b.2.2.1 := by
  show (if a.1 ≠ b.1 then _ else if a.1 = 3 then _ else _) = _
  rw [if_neg (by simpa using h), if_pos h3]
theorem cmpV_num {d : Nat} {a b : Vl (d + 1)} (h : a.1 = b.1) (h3 : a.1 ≠ 3) (hn : a.2.1 ≠ b.2.1) : cmpV (d + 1) a b = numC a.2.1 b.2.1 := by
  show (if a.1 ≠ b.1 then _ else if a.1 = 3 then _ else if a.2.1 ≠ b.2.1 then _ else _) = _
  rw [if_neg (by simpa using h), if_neg h3, if_pos hn]
theorem cmpV_parts {d : Nat} {a b : Vl (d + 1)} (h : a.1 = b.1) (h3 : a.1 ≠ 3) (hn : a.2.1 = b.2.1) : cmpV (d + 1) a b = cmpK (decide (a.1 = 5)) a.2.2.2.1 b.2.2.2.1 a.2.2.2.2 b.2.2.2.2 0 := by
  rw [cmpK_zero]
  show (if a.1 ≠ b.1 then _ else if a.1 = 3 then _ else if a.2.1 ≠ b.2.1 then _ else _) = _
  rw [if_neg (by simpa using h), if_neg h3, if_neg (by simpa using hn)]

/-- What is read at a depth is read at the next one. -/
theorem VSeg.up {R : Nat → Prop} {w : World} (d : Nat) : ∀ {c : Value × Value × Value × Value × Value} {v : Vl d}, VSeg R w d c v → ∃ v' : Vl (d + 1), VSeg R w (d + 1) c v' := by
  induction d with
  | zero => intro c v h; exact h.elim
  | succ d ih =>
    intro c v h
    obtain ⟨h0, h1, h2, h3, a, cap, g1, g2, g3, g4, g5⟩ := h
    have hq : ∀ i, i < v.2.2.2.2.length → ∃ x : Vl (d + 1), ∀ b off, a = some ⟨b, off, none⟩ → (∀ i (h : i < v.2.2.2.2.length), ∃ e, Five w b (off + i * 5) e ∧ VSeg R w d e (v.2.2.2.2[i])) → ∃ e, Five w b (off + i * 5) e ∧ VSeg R w (d + 1) e x := by
      intro i hi
      rcases g5 with e | ⟨b, off, hb, hR, hc⟩
      · rw [e] at hi; simp at hi
      · obtain ⟨e, he, hv⟩ := hc i hi
        obtain ⟨x, hx⟩ := ih hv
        refine ⟨x, fun b' off' hb' _ => ?_⟩
        rw [hb] at hb'
        simp at hb'
        obtain ⟨rfl, rfl⟩ := hb'
        exact ⟨e, he, hx⟩
    obtain ⟨l, hl, hls⟩ := list_of v.2.2.2.2.length hq
    refine ⟨(v.1, v.2.1, v.2.2.1, v.2.2.2.1, l), h0, h1, h2, h3, a, cap, by simpa [hl] using g1, by simpa [hl] using g2, g3, g4, ?_⟩
    rcases g5 with e | ⟨b, off, hb, hR, hc⟩
    · refine .inl ?_
      show l = []
      exact List.eq_nil_of_length_eq_zero (by rw [hl, e]; rfl)
    · refine .inr ⟨b, off, hb, hR, fun i hi => ?_⟩
      exact hls i hi b off hb hc

theorem VSeg.upto {R : Nat → Prop} {w : World} (d k : Nat) {c : Value × Value × Value × Value × Value} {v : Vl d} (h : VSeg R w d c v) : ∃ v' : Vl (d + k), VSeg R w (d + k) c v' := by
  induction k with
  | zero => exact ⟨v, h⟩
  | succ k ih =>
    obtain ⟨v', h'⟩ := ih
    exact VSeg.up (d + k) h'
end Go.Proofs.Ythidmlfmcjdcnaa
/-
  cmpParts of the program: parts of different kinds; what has no parts.
-/
namespace Go.Proofs.Ythidmlfmcjdcnaa
open Go.RowKit Go.Shelf
set_option linter.unusedVariables false
set_option linter.unusedSimpArgs false

set_option maxHeartbeats 3200000 in
set_option maxRecDepth 100000 in
theorem cmp_kinds {pt qt : TypeId} {px qx : Value} {ak bk : Int} (h1 : KindOf pt px ak) (h2 : KindOf qt qx bk) (hne : ak ≠ bk) (w : World) :
    Calls Try.prog 18 #[.iface pt px, .iface qt qx] w fun e w' => e = .returned (.int .i64 (numC ak bk)) ∧ Below w.heap.size w w' := by
  obtain ⟨f, m1, hcf, k1⟩ := h1
  obtain ⟨g, m2, hcg, k2⟩ := h2
  have HK1 := hide' k1
  have HK2 := hide' k2
  have hn0 : (numC ak bk != 0) = true := by
    unfold numC
    split
    · decide
    · split
      · decide
      · omega
  have HC := hide' (cmpInt_any ak bk)
  generalize numC ak bk = nc at *
  clear k1 k2
  go_enter Try.func18, Try.ntmps18
  go_wp2_with (first
    | (go_at_fn f; refine (HK1.out _).mono ?_; rintro e w1 ⟨rfl, b1⟩)
    | (go_at_fn g; refine (HK2.out _).mono ?_; rintro e w2 ⟨rfl, b2⟩)
    | (go_at_call 26; refine (HC.out _).mono ?_; rintro e w3 ⟨rfl, e3⟩; obtain rfl := e3))
  go_ret
  exact ⟨rfl, Below.on b1 b2⟩

theorem yes_boolPart (x : Value) (w : World) : (Instr.typeAssert (.iface 59 x) 43 59 true).run Try.prog w = .ok (.tuple #[x, .bool true]) w := by kernel_rfl
theorem yes_intPart (x : Value) (w : World) : (Instr.typeAssert (.iface 60 x) 43 60 true).run Try.prog w = .ok (.tuple #[x, .bool true]) w := by kernel_rfl
theorem yes_textPart (x : Value) (w : World) : (Instr.typeAssert (.iface 62 x) 43 62 true).run Try.prog w = .ok (.tuple #[x, .bool true]) w := by kernel_rfl
theorem yes_listPart (x : Value) (w : World) : (Instr.typeAssert (.iface 66 x) 43 66 true).run Try.prog w = .ok (.tuple #[x, .bool true]) w := by kernel_rfl
theorem yes_mapPart (x : Value) (w : World) : (Instr.typeAssert (.iface 70 x) 43 70 true).run Try.prog w = .ok (.tuple #[x, .bool true]) w := by kernel_rfl
theorem must_boolPart (x : Value) (w : World) : (Instr.typeAssert (.iface 59 x) 43 59 false).run Try.prog w = .ok x w := by kernel_rfl
theorem must_intPart (x : Value) (w : World) : (Instr.typeAssert (.iface 60 x) 43 60 false).run Try.prog w = .ok x w := by kernel_rfl
theorem must_textPart (x : Value) (w : World) : (Instr.typeAssert (.iface 62 x) 43 62 false).run Try.prog w = .ok x w := by kernel_rfl
theorem must_listPart (x : Value) (w : World) : (Instr.typeAssert (.iface 66 x) 43 66 false).run Try.prog w = .ok x w := by kernel_rfl
theorem must_mapPart (x : Value) (w : World) : (Instr.typeAssert (.iface 70 x) 43 70 false).run Try.prog w = .ok x w := by kernel_rfl
theorem fld_boolPart (x : Value) (w : World) : (Instr.field 59 (.agg #[x]) 0).run Try.prog w = .ok x w := by kernel_rfl
theorem fld_intPart (x : Value) (w : World) : (Instr.field 60 (.agg #[x]) 0).run Try.prog w = .ok x w := by kernel_rfl
theorem fld_textPart (x : Value) (w : World) : (Instr.field 62 (.agg #[x]) 0).run Try.prog w = .ok x w := by kernel_rfl
theorem fld_listPart (x : Value) (w : World) : (Instr.field 66 (.agg #[x]) 0).run Try.prog w = .ok x w := by kernel_rfl
theorem no_bool_nullPart (x : Value) (w : World) : (Instr.typeAssert (.iface 80 x) 43 59 true).run Try.prog w = .ok (.tuple #[.agg #[.int .i64 0], .bool false]) w := by kernel_rfl
theorem no_bool_unknownPart (x : Value) (w : World) : (Instr.typeAssert (.iface 81 x) 43 59 true).run Try.prog w = .ok (.tuple #[.agg #[.int .i64 0], .bool false]) w := by kernel_rfl
theorem no_bool_intPart (x : Value) (w : World) : (Instr.typeAssert (.iface 60 x) 43 59 true).run Try.prog w = .ok (.tuple #[.agg #[.int .i64 0], .bool false]) w := by kernel_rfl
theorem no_bool_textPart (x : Value) (w : World) : (Instr.typeAssert (.iface 62 x) 43 59 true).run Try.prog w = .ok (.tuple #[.agg #[.int .i64 0], .bool false]) w := by kernel_rfl
theorem no_bool_listPart (x : Value) (w : World) : (Instr.typeAssert (.iface 66 x) 43 59 true).run Try.prog w = .ok (.tuple #[.agg #[.int .i64 0], .bool false]) w := by kernel_rfl
theorem no_bool_mapPart (x : Value) (w : World) : (Instr.typeAssert (.iface 70 x) 43 59 true).run Try.prog w = .ok (.tuple #[.agg #[.int .i64 0], .bool false]) w := by kernel_rfl
theorem no_int_nullPart (x : Value) (w : World) : (Instr.typeAssert (.iface 80 x) 43 60 true).run Try.prog w = .ok (.tuple #[.agg #[.int .i64 0], .bool false]) w := by kernel_rfl
theorem no_int_unknownPart (x : Value) (w : World) : (Instr.typeAssert (.iface 81 x) 43 60 true).run Try.prog w = .ok (.tuple #[.agg #[.int .i64 0], .bool false]) w := by kernel_rfl
theorem no_int_textPart (x : Value) (w : World) : (Instr.typeAssert (.iface 62 x) 43 60 true).run Try.prog w = .ok (.tuple #[.agg #[.int .i64 0], .bool false]) w := by kernel_rfl
theorem no_int_listPart (x : Value) (w : World) : (Instr.typeAssert (.iface 66 x) 43 60 true).run Try.prog w = .ok (.tuple #[.agg #[.int .i64 0], .bool false]) w := by kernel_rfl
theorem no_int_mapPart (x : Value) (w : World) : (Instr.typeAssert (.iface 70 x) 43 60 true).run Try.prog w = .ok (.tuple #[.agg #[.int .i64 0], .bool false]) w := by kernel_rfl
theorem no_text_nullPart (x : Value) (w : World) : (Instr.typeAssert (.iface 80 x) 43 62 true).run Try.prog w = .ok (.tuple #[.agg #[.string ⟨#[]⟩], .bool false]) w := by kernel_rfl
theorem no_text_unknownPart (x : Value) (w : World) : (Instr.typeAssert (.iface 81 x) 43 62 true).run Try.prog w = .ok (.tuple #[.agg #[.string ⟨#[]⟩], .bool false]) w := by kernel_rfl
theorem no_text_listPart (x : Value) (w : World) : (Instr.typeAssert (.iface 66 x) 43 62 true).run Try.prog w = .ok (.tuple #[.agg #[.string ⟨#[]⟩], .bool false]) w := by kernel_rfl
theorem no_text_mapPart (x : Value) (w : World) : (Instr.typeAssert (.iface 70 x) 43 62 true).run Try.prog w = .ok (.tuple #[.agg #[.string ⟨#[]⟩], .bool false]) w := by kernel_rfl
theorem no_list_nullPart (x : Value) (w : World) : (Instr.typeAssert (.iface 80 x) 43 66 true).run Try.prog w = .ok (.tuple #[.agg #[.slice none 0 0], .bool false]) w := by kernel_rfl
theorem no_list_unknownPart (x : Value) (w : World) : (Instr.typeAssert (.iface 81 x) 43 66 true).run Try.prog w = .ok (.tuple #[.agg #[.slice none 0 0], .bool false]) w := by kernel_rfl
theorem no_list_mapPart (x : Value) (w : World) : (Instr.typeAssert (.iface 70 x) 43 66 true).run Try.prog w = .ok (.tuple #[.agg #[.slice none 0 0], .bool false]) w := by kernel_rfl
theorem no_map_nullPart (x : Value) (w : World) : (Instr.typeAssert (.iface 80 x) 43 70 true).run Try.prog w = .ok (.tuple #[.agg #[.map none], .bool false]) w := by kernel_rfl
theorem no_map_unknownPart (x : Value) (w : World) : (Instr.typeAssert (.iface 81 x) 43 70 true).run Try.prog w = .ok (.tuple #[.agg #[.map none], .bool false]) w := by kernel_rfl

set_option maxHeartbeats 3200000 in
set_option maxRecDepth 100000 in
theorem cmp_nullPart (w : World) : Calls Try.prog 18 #[.iface 80 (.agg #[]), .iface 80 (.agg #[])] w fun e w' => e = .returned (.int .i64 0) ∧ Below w.heap.size w w' := by
  have m1 := meth_nullPart (.agg #[])
  have HK := hide' kind_nullPart
  have t1 := no_bool_nullPart (.agg #[])
  have t2 := no_int_nullPart (.agg #[])
  have t3 := no_text_nullPart (.agg #[])
  have t4 := no_list_nullPart (.agg #[])
  have t5 := no_map_nullPart (.agg #[])
  have HC := hide' (fun a => cmpInt_any a a)
  have HZ := hide' numC_eq
  go_enter Try.func18, Try.ntmps18
  go_wp2_with fail
  refine (HK.out _).mono ?_
  rintro e w1 ⟨rfl, b1⟩
  go_wp2_with fail
  refine (HK.out _).mono ?_
  rintro e w2 ⟨rfl, b2⟩
  go_wp2_with fail
  refine (HC.out _ _).mono ?_
  rw [HZ.out]
  rintro e w3 ⟨rfl, e3⟩
  obtain rfl := e3
  go_wp2
  go_ret
  exact ⟨rfl, Below.on b1 b2⟩
set_option maxHeartbeats 3200000 in
set_option maxRecDepth 100000 in
theorem cmp_unknownPart (w : World) : Calls Try.prog 18 #[.iface 81 (.agg #[]), .iface 81 (.agg #[])] w fun e w' => e = .returned (.int .i64 0) ∧ Below w.heap.size w w' := by
  have m1 := meth_unknownPart (.agg #[])
  have HK := hide' kind_unknownPart
  have t1 := no_bool_unknownPart (.agg #[])
  have t2 := no_int_unknownPart (.agg #[])
  have t3 := no_text_unknownPart (.agg #[])
  have t4 := no_list_unknownPart (.agg #[])
  have t5 := no_map_unknownPart (.agg #[])
  have HC := hide' (fun a => cmpInt_any a a)
  have HZ := hide' numC_eq
  go_enter Try.func18, Try.ntmps18
  go_wp2_with fail
  refine (HK.out _).mono ?_
  rintro e w1 ⟨rfl, b1⟩
  go_wp2_with fail
  refine (HK.out _).mono ?_
  rintro e w2 ⟨rfl, b2⟩
  go_wp2_with fail
  refine (HC.out _ _).mono ?_
  rw [HZ.out]
  rintro e w3 ⟨rfl, e3⟩
  obtain rfl := e3
  go_wp2
  go_ret
  exact ⟨rfl, Below.on b1 b2⟩

set_option maxHeartbeats 3200000 in
set_option maxRecDepth 100000 in
theorem cmp_boolPart (n m : Int) (w : World) : Calls Try.prog 18 #[.iface 59 (.agg #[.int .i64 n]), .iface 59 (.agg #[.int .i64 m])] w fun e w' => e = .returned (.int .i64 (numC n m)) ∧ Below w.heap.size w w' := by
  have m1 := meth_boolPart (.agg #[.int .i64 n])
  have m2 := meth_boolPart (.agg #[.int .i64 m])
  have HK := hide' (kind_boolPart n)
  have HK2 := hide' (kind_boolPart m)
  have ty := yes_boolPart (.agg #[.int .i64 n])
  have tm := must_boolPart (.agg #[.int .i64 m])
  have tf := fld_boolPart (.int .i64 m)
  have HC := hide' (fun a => cmpInt_any a a)
  have HZ := hide' numC_eq
  have HQ := hide' (cmpInt_any n m)
  have Hb : Hid (∀ (wx : World) (o : Obj), Below wx.heap.size wx (wx.alloc o)) := fun wx o => (Below.refl _ _).alloc (Nat.le_refl _) o
  generalize numC n m = ans at *
  go_enter Try.func18, Try.ntmps18
  go_wp2_with fail
  refine (HK.out _).mono ?_
  rintro e w1 ⟨rfl, b1⟩
  go_wp2_with fail
  refine (HK2.out _).mono ?_
  rintro e w2 ⟨rfl, b2⟩
  have B2 := hide' (Below.on b1 b2)
  clear b1 b2
  go_wp2_with fail
  refine (HC.out _ _).mono ?_
  rw [HZ.out]
  rintro e w3 ⟨rfl, e3⟩
  obtain rfl := e3
  go_wp2_with fail
  go_quiet ((go_at_call 26; exact quiet_same (HQ.out _)))
  go_wp2
  go_ret
  exact ⟨rfl, below_drewN (Below.on B2.out (Hb.out _ _)) _⟩

set_option maxHeartbeats 3200000 in
set_option maxRecDepth 100000 in
theorem cmp_intPart (n m : Int) (w : World) : Calls Try.prog 18 #[.iface 60 (.agg #[.int .i64 n]), .iface 60 (.agg #[.int .i64 m])] w fun e w' => e = .returned (.int .i64 (numC n m)) ∧ Below w.heap.size w w' := by
  have m1 := meth_intPart (.agg #[.int .i64 n])
  have m2 := meth_intPart (.agg #[.int .i64 m])
  have HK := hide' (kind_intPart n)
  have HK2 := hide' (kind_intPart m)
  have t1 := no_bool_intPart (.agg #[.int .i64 n])
  have ty := yes_intPart (.agg #[.int .i64 n])
  have tm := must_intPart (.agg #[.int .i64 m])
  have tf := fld_intPart (.int .i64 m)
  have HC := hide' (fun a => cmpInt_any a a)
  have HZ := hide' numC_eq
  have HQ := hide' (cmpInt_any n m)
  have Hb : Hid (∀ (wx : World) (o : Obj), Below wx.heap.size wx (wx.alloc o)) := fun wx o => (Below.refl _ _).alloc (Nat.le_refl _) o
  generalize numC n m = ans at *
  go_enter Try.func18, Try.ntmps18
  go_wp2_with fail
  refine (HK.out _).mono ?_
  rintro e w1 ⟨rfl, b1⟩
  go_wp2_with fail
  refine (HK2.out _).mono ?_
  rintro e w2 ⟨rfl, b2⟩
  have B2 := hide' (Below.on b1 b2)
  clear b1 b2
  go_wp2_with fail
  refine (HC.out _ _).mono ?_
  rw [HZ.out]
  rintro e w3 ⟨rfl, e3⟩
  obtain rfl := e3
  go_wp2_with fail
  go_quiet ((go_at_call 26; exact quiet_same (HQ.out _)))
  go_wp2
  go_ret
  exact ⟨rfl, below_drewN (Below.on B2.out (Hb.out _ _)) _⟩

set_option maxHeartbeats 3200000 in
set_option maxRecDepth 100000 in
theorem cmp_textPart (xs ys : List Int) (w : World) : Calls Try.prog 18 #[.iface 62 (.agg #[.string (strOf xs)]), .iface 62 (.agg #[.string (strOf ys)])] w fun e w' => e = .returned (.int .i64 (bytesC xs ys)) ∧ Below w.heap.size w w' := by
  have m1 := meth_textPart (.agg #[.string (strOf xs)])
  have m2 := meth_textPart (.agg #[.string (strOf ys)])
  have HK := hide' (kind_textPart (strOf xs))
  have HK2 := hide' (kind_textPart (strOf ys))
  have t1 := no_bool_textPart (.agg #[.string (strOf xs)])
  have t2 := no_int_textPart (.agg #[.string (strOf xs)])
  have ty := yes_textPart (.agg #[.string (strOf xs)])
  have tm := must_textPart (.agg #[.string (strOf ys)])
  have tf := fld_textPart (.string (strOf ys))
  have HC := hide' (fun a => cmpInt_any a a)
  have HZ := hide' numC_eq
  have HQ := hide' (strings_Compare_any xs ys)
  have Hb : Hid (∀ (wx : World) (o : Obj), Below wx.heap.size wx (wx.alloc o)) := fun wx o => (Below.refl _ _).alloc (Nat.le_refl _) o
  generalize bytesC xs ys = ans at *
  go_enter Try.func18, Try.ntmps18
  go_wp2_with fail
  refine (HK.out _).mono ?_
  rintro e w1 ⟨rfl, b1⟩
  go_wp2_with fail
  refine (HK2.out _).mono ?_
  rintro e w2 ⟨rfl, b2⟩
  have B2 := hide' (Below.on b1 b2)
  clear b1 b2
  go_wp2_with fail
  refine (HC.out _ _).mono ?_
  rw [HZ.out]
  rintro e w3 ⟨rfl, e3⟩
  obtain rfl := e3
  go_wp2_with fail
  go_quiet ((go_at_call 27; exact quiet_same (HQ.out _)))
  go_wp2
  go_ret
  exact ⟨rfl, below_drewN (Below.on B2.out (Hb.out _ _)) _⟩
end Go.Proofs.Ythidmlfmcjdcnaa
/-
  takeAll of the program: it takes a list of values in, out of what take does at one.
-/
namespace Go.Proofs.Ythidmlfmcjdcnaa
open Go.RowKit
set_option linter.unusedVariables false
set_option linter.unusedSimpArgs false

theorem grownBy_fresh {w w1 w2 : World} {r r' : Option Nat} (h : w.grownBy w1 r) (k : w1.grownBy w2 r') (hr : ∀ j, r' = some j → w.heap.size ≤ j) : w.grownBy w2 r :=
  ⟨k.os.trans h.os, k.tape.trans h.tape, k.output.trans h.output, Nat.le_trans h.size k.size, fun i hi hne => (k.block i (Nat.lt_of_lt_of_le hi h.size) (fun e => by have := hr i e.symm; omega)).trans (h.block i hi hne)⟩

theorem parts_one (d : Nat) (v : Vl d) : 1 ≤ partsV d v := by
  cases d with
  | zero => exact v.elim
  | succ d => exact parts_pos d v

theorem pre_ge (d : Nat) (l : List (Vl d)) (k : Nat) (h : k ≤ l.length) : k ≤ pre (partsV d) l k := by
  induction k with
  | zero => omega
  | succ k ih =>
    have := pre_succ (partsV d) l k (by omega)
    have := parts_one d l[k]
    have := ih (by omega)
    omega

theorem Cnt.keep {w w' : World} {q n : Nat} {r : Option Nat} (h : Cnt w q n) (hg : w.grownBy w' r) (hr : some q ≠ r) : Cnt w' q n :=
  (hg.block q (Array.getElem?_eq_some_iff.1 h).1 hr).trans h

/-- What holds after k rounds of takeAll. -/
def TA (d : Nat) (l : List (Vl d)) (deep n q : Nat) (w wr : World) (k : Nat) (y : Value) (ps : List Value) : Prop :=
  k ≤ l.length ∧ ps.length = k ∧ wr.ownsRow w.heap.size 43 1 y k ps ∧ (∀ j (h : j < l.length), j < k → goodB d l[j] deep = true) ∧ n + pre (partsV d) l k ≤ 40 ∧ Cnt wr q (n + pre (partsV d) l k) ∧
    (∀ j (h : j < l.length), j < k → PSeg (fun b => w.heap.size ≤ b ∧ b < wr.heap.size ∧ some b ≠ y.ownBlock) wr d (ps.getD j .nilIface) l[j]) ∧ w.grownBy wr (some q)

theorem TA_zero {d : Nat} {l : List (Vl d)} {deep n q : Nat} {w : World} (hc : Cnt w q n) (hn : n ≤ 40) : TA d l deep n q w w 0 (.slice none 0 0) [] :=
  ⟨Nat.zero_le _, rfl, World.ownsRow_nil w _ _ _, fun j _ h => by omega, by rw [pre_zero]; omega, by rw [pre_zero]; exact hc, fun j _ h => by omega, World.grownBy.refl _ _⟩

theorem own_ne {w : World} {base e n q : Nat} {y : Value} {xs : List Value} (h : w.ownsRow base e 1 y n xs) (hq : q < base) : some q ≠ y.ownBlock := fun e => by
  have := h.lt q e.symm
  omega

theorem TA_none {d : Nat} {l : List (Vl d)} {deep n q : Nat} {w wr W : World} {k : Nat} {y : Value} {ps : List Value} (h : TA d l deep n q w wr k y ps) (hg : wr.grownBy W none) : TA d l deep n q w W k y ps := by
  obtain ⟨h1, h2, h3, h4, h5, h6, h7, h8⟩ := h
  refine ⟨h1, h2, h3.kept hg ?_, h4, h5, h6.keep hg (by simp), fun j hj hjk => ?_, grownBy_fresh h8 hg (by simp)⟩
  · cases hy : y.ownBlock with
    | none => exact .inl rfl
    | some z => exact .inr (by simp)
  · refine PSeg.carry (fun b hb => ⟨hb.1, Nat.lt_of_lt_of_le hb.2.1 hg.size, hb.2.2⟩) (fun b hb => hg.block b hb.2.1 (by simp)) d (h7 j hj hjk)

/-- Behind take: the same, but for the counter. -/
theorem TA_row {d : Nat} {l : List (Vl d)} {deep n q : Nat} {w wr w1 : World} {k : Nat} {y : Value} {ps : List Value} (h : TA d l deep n q w wr k y ps) (hq : q < w.heap.size) (hg : wr.grownBy w1 (some q)) (o : Obj) : (w1.alloc o).ownsRow w.heap.size 43 1 y k ps := by
  obtain ⟨h1, h2, h3, h4, h5, h6, h7, h8⟩ := h
  have := h3.kept hg (.inr (fun e => own_ne h3 hq e.symm))
  exact this.alloc o

theorem TA_next {d : Nat} {l : List (Vl d)} {deep n q : Nat} {w wr w1 w2 : World} {k : Nat} {y y' p : Value} {ps : List Value} {T : TypeId} (h : TA d l deep n q w wr k y ps) (hq : q < w.heap.size) (hk : k < l.length) (hg : wr.grownBy w1 (some q))
    (ht : Took d l[k] deep (n + pre (partsV d) l k) q wr w1 p) (hown : w2.ownsRow w.heap.size 43 1 y' (k + 1) (ps ++ [p])) (hg2 : (w1.alloc (.cells #[p] T)).grownBy w2 y.ownBlock) (hloc : y'.ownBlock = y.ownBlock ∨ y'.ownBlock = some (w1.alloc (.cells #[p] T)).heap.size) :
    TA d l deep n q w w2 (k + 1) y' (ps ++ [p]) := by
  obtain ⟨h1, h2, h3, h4, h5, h6, h7, h8⟩ := h
  obtain ⟨t1, t2, t3, t4⟩ := ht
  have hps := pre_succ (partsV d) l k hk
  have hal : w1.grownBy (w1.alloc (.cells #[p] T)) none := World.grownBy_alloc w1 _ none
  have hsz : (w1.alloc (.cells #[p] T)).heap.size = w1.heap.size + 1 := by simp
  have hyb : ∀ j, y.ownBlock = some j → w.heap.size ≤ j ∧ j < wr.heap.size := fun j hj => h3.lt j hj
  have hs1 := hg.size
  have hs2 := hg2.size
  have hs8 := h8.size
  refine ⟨hk, by simp [h2], hown, fun j hj hjk => ?_, by rw [hps]; omega, ?_, fun j hj hjk => ?_, ?_⟩
  · by_cases e : j = k
    · subst e; exact t1
    · exact h4 j hj (by omega)
  · rw [hps, ← Nat.add_assoc]
    exact (t3.keep hal (by simp)).keep hg2 (fun e => by have := hyb q e.symm; omega)
  · by_cases e : j = k
    · subst e
      have : (ps ++ [p]).getD j .nilIface = p := by simp [List.getD_eq_getElem?_getD, ← h2]
      rw [this]
      refine PSeg.carry (fun b hb => ⟨by omega, by omega, fun e => ?_⟩) (fun b hb => (hg2.block b (by omega) (fun e => by have := hyb b e.symm; omega)).trans (hal.block b hb.2 (by simp))) d t4
      rcases hloc with e2 | e2
      · have := hyb b (e2.symm.trans e.symm); omega
      · rw [e2] at e; simp at e; omega
    · have hjk' : j < k := by omega
      have : (ps ++ [p]).getD j .nilIface = ps.getD j .nilIface := by
        simp only [List.getD_eq_getElem?_getD]
        rw [List.getElem?_append_left (by omega)]
      rw [this]
      refine PSeg.carry (fun b hb => ⟨hb.1, by omega, fun e => ?_⟩) (fun b hb => (hg2.block b (by omega) hb.2.2).trans ((hal.block b (by omega) (by simp)).trans (hg.block b hb.2.1 (by simp; omega)))) d (h7 j hj hjk')
      rcases hloc with e2 | e2
      · exact hb.2.2 (e.trans e2)
      · rw [e2] at e; simp at e; omega
  · exact grownBy_fresh (grownBy_fresh (grownBy_trans h8 hg) hal (by simp)) hg2 (fun j hj => (hyb j hj).1)

/-- What a good takeAll has brought about. -/
def TookAll (d : Nat) (l : List (Vl d)) (deep n q : Nat) (w w' : World) (y : Value) : Prop :=
  (∀ j (h : j < l.length), goodB d l[j] deep = true) ∧ n + pre (partsV d) l l.length ≤ 40 ∧ Cnt w' q (n + pre (partsV d) l l.length) ∧
    ∃ (a : Option Addr) (cap : Nat) (ps : List Value), y = .slice a l.length cap ∧ (l = [] ∨ ∃ b, a = some ⟨b, 0, none⟩ ∧ w.heap.size ≤ b ∧ b < w'.heap.size ∧ ∀ i, i < l.length → w'.cell? ⟨b, i, none⟩ = some (ps.getD i .nilIface)) ∧ ∀ i (h : i < l.length), PSeg (fun b => w.heap.size ≤ b ∧ b < w'.heap.size) w' d (ps.getD i .nilIface) l[i]

theorem TA_end {d : Nat} {l : List (Vl d)} {deep n q : Nat} {w wr : World} {y : Value} {ps : List Value} (h : TA d l deep n q w wr l.length y ps) : TookAll d l deep n q w wr y := by
  obtain ⟨h1, h2, h3, h4, h5, h6, h7, h8⟩ := h
  have hcell := fun g (hg : y.ownBlock = some g) => h3.lt g hg
  refine ⟨fun j hj => h4 j hj hj, h5, h6, ?_⟩
  have h3' := h3
  rcases h3.2 with ⟨rfl, e0⟩ | ⟨g, cap, cur, rfl, hg, hh, hle, hm, hsz, htk⟩
  · exact ⟨none, 0, ps, by rw [e0], .inl (List.eq_nil_of_length_eq_zero e0), fun i hi => by omega⟩
  · refine ⟨some ⟨g, 0, none⟩, cap, ps, rfl, .inr ⟨g, rfl, hg, (Array.getElem?_eq_some_iff.1 hh).1, fun i hi => ?_⟩, fun i hi => PSeg.carry (fun b hb => ⟨hb.1, hb.2.1⟩) (fun b _ => rfl) d (h7 i hi hi)⟩
    have := World.ownsRow.cellAt h3' i (by omega)
    rw [this]
    simp [List.getD_eq_getElem?_getD, show i < ps.length from by omega]

end Go.Proofs.Ythidmlfmcjdcnaa
/-
  takeAll of the program, walked.
-/
namespace Go.Proofs.Ythidmlfmcjdcnaa
open Go.RowKit
set_option linter.unusedVariables false
set_option linter.unusedSimpArgs false

theorem PSeg.shape {R : Nat → Prop} {w : World} {d : Nat} {p : Value} {v : Vl d} (h : PSeg R w d p v) : ∃ t x, p = .iface t x := by
  cases d with
  | zero => exact h.elim
  | succ d =>
    rcases h with ⟨_, rfl⟩ | ⟨_, rfl⟩ | ⟨_, rfl⟩ | ⟨_, rfl⟩ | ⟨_, rfl⟩ | ⟨_, _, _, rfl, _⟩ | ⟨_, _, _, rfl, _⟩ <;> exact ⟨_, _, rfl⟩

set_option maxHeartbeats 4000000 in
theorem takeAll_of (d : Nat) (ih : TakeAt d) (N q n : Nat) (x : Value) (l : List (Vl d)) (deep : Nat) (w : World) (hx : LSeg (fun b => b < N) w d x l) (hNq : N ≤ q) (hq : q < w.heap.size) (hc : Cnt w q n) (hn : n ≤ 40) (hd : deep ≤ 6) :
    Calls Try.prog 37 #[.pointer (some ⟨q, 0, none⟩), x, .int .i64 deep] w fun e w' =>
      w.grownBy w' (some q) ∧ ((∃ y, e = .returned (.tuple #[y, .bool true]) ∧ TookAll d l deep n q w w' y) ∨ (e = .returned (.tuple #[.slice none 0 0, .bool false]) ∧ ¬ ((∀ j (h : j < l.length), goodB d l[j] deep = true) ∧ n + pre (partsV d) l l.length ≤ 40))) := by
  have HX := hide' hx
  obtain ⟨a4, p4, rfl, hlc, hcm, ka, _⟩ := hx
  unfold maxLen at hcm
  have HI := hide' ih
  have H0 : Hid (TA d l deep n q w w 0 (.slice none 0 0) []) := TA_zero hc hn
  obtain ⟨i0, hi, hz0, hz1, hz2⟩ := info_parts info_part
  clear ih hc
  go_enter Try.func37, Try.ntmps37
  go_wp2
  go_loopw [8, 15] (fun y i wr => ∃ (k : Nat) (ps : List Value), i = .int .i64 k ∧ TA d l deep n q w wr k y ps) (fun _ i _ => l.length - (intOf i).toNat)
  case atStart => exact ⟨0, [], rfl, H0.out⟩
  case round =>
    obtain ⟨k, ps, rfl, hT⟩ := hrel
    have HT := hide' hT
    obtain ⟨hk, hps, hown, hgood, hple, hcnt, hpseg, hgr⟩ := hT
    clear hgood hpseg hcnt
    by_cases hlt : k < l.length
    · have hlt' : (k : Int) < (l.length : Int) := by omega
      have hag := agree_grown hgr hNq hq
      have hcell : ∃ b off c, a4 = some ⟨b, off, none⟩ ∧ Five wr b (off + k * 5) c ∧ VSeg (fun b => b < N) wr d c (l[k]) := by
        obtain ⟨a', cap', e1, _, _, _, h5⟩ := HX.out
        simp only [Value.slice.injEq] at e1
        obtain ⟨rfl, _, _⟩ := e1
        rcases h5 with h0 | ⟨b, off, rfl, hR, hcc⟩
        · rw [h0] at hlt; simp at hlt
        · obtain ⟨c, h5, hv⟩ := hcc k hlt
          exact ⟨b, off, c, rfl, h5.agree hag hR, VSeg.agree hag d hv⟩
      obtain ⟨b, off, c, rfl, h5', hv⟩ := hcell
      obtain ⟨c0, c1, c2, c3, c4⟩ := c
      obtain ⟨q0, q1, q2, q3, q4⟩ := h5'
      simp only at q0 q1 q2 q3 q4
      have HV := hide' hv
      have hs := hgr.size
      obtain ⟨ck, cn, s2, l2, e2, s3, l3, e3, s4, l4, e4, rfl, rfl, rfl, rfl, rfl⟩ := VSeg.form d hv
      have hgW := World.grownBy_alloc wr (.cells #[.int .i64 ck, .int .i64 cn, .slice s2 l2 e2, .slice s3 l3 e3, .slice s4 l4 e4] 31) none
      have hTW := TA_none HT.out hgW
      have hC := HI.out N q (n + pre (partsV d) l k) _ l[k] deep _ (VSeg.agree (fun b hb => hgW.block b (by omega) (by simp)) d hv) hNq (by simp; omega) hTW.2.2.2.2.2.1 hple hd
      have HC := hide' hC
      have HTW := hide' hTW
      clear hv hag hgr hTW hC hgW
      go_wp2_with fail
      refine HC.out.mono ?_
      rintro e w1 ⟨hg1, hcase⟩
      clear q0 q1 q2 q3 q4
      rcases hcase with ⟨p, rfl, htook⟩ | ⟨rfl, hbad⟩
      · obtain ⟨pt, px, rfl⟩ := htook.2.2.2.shape
        have hrw := TA_row HTW.out hq hg1 (.cells #[.iface pt px] 43)
        have h63 : k + 1 ≤ 40 := by have := pre_ge d l (k + 1) hlt; have := pre_succ (partsV d) l k hlt; have := htook.2.1; omega
        have hs1 := hg1.size
        have hsW := HTW.out.2.2.2.2.2.2.2.size
        have HK := hide' htook
        clear htook hown
        go_wp2_with (at_builtin; refine wpList_append_own_at _ rfl _ _ 64 rfl w.heap.size 43 i0 .nilIface 1 16 Try.underlying64 hi hz0 hz1 hz2 rfl (by decide) _ k ps rfl hrw ⟨w1.heap.size, 0, none⟩ 1 1 [.iface pt px] rfl rfl (cell_one_new _ _ _) (by intro u hu; simp at hu; rw [hu]; rfl) (by unfold maxLen; omega) (by omega) (by simp; omega) ?_; intro y' w2 hown' hg2 hnil hloc)
        have hN := TA_next HTW.out hq hlt hg1 HK.out hown' hg2 hloc
        clear hown' hg2 hnil hloc hrw HK HTW HC
        go_wp2
        go_roundw
        case rel => exact ⟨k + 1, _, by go_num, hN⟩
        case measure => simp [intOf]; omega
      · have hgf := grownBy_trans HTW.out.2.2.2.2.2.2.2 hg1
        have hno : ¬ ((∀ j (h : j < l.length), goodB d l[j] deep = true) ∧ n + pre (partsV d) l l.length ≤ 40) := fun ⟨h1, h2⟩ => hbad ⟨h1 k hlt, by
          have h3 := pre_succ (partsV d) l k hlt
          have h4 := pre_le (partsV d) l (k + 1)
          have h5 := pre_all (partsV d) l
          omega⟩
        go_wp2
        go_ret2
        exact ⟨hgf, .inr ⟨rfl, hno⟩⟩
    · have hkn : k = l.length := by omega
      have hlt' : ¬ (k : Int) < (l.length : Int) := by omega
      rw [hkn] at HT
      have hE := TA_end HT.out
      have hgf := HT.out.2.2.2.2.2.2.2
      clear hkn
      go_wp2
      go_ret2
      exact ⟨hgf, .inl ⟨_, rfl, hE⟩⟩
end Go.Proofs.Ythidmlfmcjdcnaa
/-
  A slice of parts, read place by place; no statement is proved here.
-/
namespace Go.Proofs.Ythidmlfmcjdcnaa
open Go.RowKit
set_option linter.unusedVariables false

theorem PLSeg.at {R : Nat → Prop} {w : World} {d : Nat} {a : Option Addr} {n cap : Nat} {l : List (Vl d)} (h : PLSeg R w d (.slice a n cap) l) {k : Nat} (hk : k < l.length) : ∃ b off t x, a = some ⟨b, off, none⟩ ∧ R b ∧ w.cell? ⟨b, off + k, none⟩ = some (.iface t x) ∧ PSeg R w d (.iface t x) (l[k]) := by
  obtain ⟨a', cap', e, hc⟩ := h
  simp only [Value.slice.injEq] at e
  obtain ⟨rfl, _, _⟩ := e
  rcases hc with h0 | ⟨b, off, rfl, hR, hc⟩
  · rw [h0] at hk; simp at hk
  · obtain ⟨u, hu, hv⟩ := hc k hk
    obtain ⟨t, x, rfl⟩ := hv.shape
    exact ⟨b, off, t, x, rfl, hR, hu, hv⟩

theorem PLSeg.grow {w w' : World} {d : Nat} {x : Value} {l : List (Vl d)} (h : PLSeg (fun b => b < w.heap.size) w d x l) (hb : Below w.heap.size w w') : PLSeg (fun b => b < w.heap.size) w' d x l := by
  obtain ⟨a, cap, e, hc⟩ := h
  refine ⟨a, cap, e, ?_⟩
  rcases hc with h0 | ⟨b, off, e1, hR, hc⟩
  · exact .inl h0
  · refine .inr ⟨b, off, e1, hR, fun i hi => ?_⟩
    obtain ⟨u, hu, hv⟩ := hc i hi
    exact ⟨u, (cell_agree (agree_below hb) hR).trans hu, PSeg.carry (fun b hb => hb) (agree_below hb) d hv⟩
end Go.Proofs.Ythidmlfmcjdcnaa
