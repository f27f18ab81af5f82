/-
  Texts that a law leans on, one behind the other; no statement is proved here.
-/
import Derived.Test.YteafpgaefphkfaaGreatDoorPk1
import Derived.Test.YteafpgaefphkfaaGreatDoorPk0
import Derived.Lib.ItoaNum
import Derived.Test.YteafpgaefphkfaaGreatDoorPk2
/-
  Reading a number, plain: what GetNum answers; no Go text here.
-/
namespace Go.Proofs.YteafpgaefphkfaaGreatDoor
set_option linter.unusedVariables false

/-- The bytes from place a on are read, k of them behind, each worth s; 'acc' is what they come to. -/
def getFrom (xs : List Int) (a : Nat) : Nat → Nat → Int → Int → Int × Int
  | 0, _, _, _ => (0, -1)
  | fuel + 1, k, s, acc =>
    if a + k < xs.length then
      if xs.getD (a + k) 0 < 128 then
        if (xs.getD (a + k) 0 = 0 ∧ 0 < k) ∨ 2147483647 < acc + xs.getD (a + k) 0 * s then (0, -1) else (acc + xs.getD (a + k) 0 * s, ((a + k + 1 : Nat) : Int))
      else getFrom xs a fuel (k + 1) (s * 128) (acc + (xs.getD (a + k) 0 - 128) * s)
    else (0, -1)

/-- What GetNum answers. -/
def getNum (xs : List Int) (a : Int) : Int × Int := if a < 0 then (0, -1) else getFrom xs a.toNat 5 0 1 0

end Go.Proofs.YteafpgaefphkfaaGreatDoor
/-
  The decimal digits of a number, as bytes.
-/
namespace Go.Proofs.YteafpgaefphkfaaGreatDoor
open Go.RowKit
set_option linter.unusedVariables false

/-- The digits of a number that is not below nought. -/
def decI (u : Nat) : List Int := (Lib.decDigits u).map fun b => (b.toNat : Int)
theorem decI_small {u : Nat} (h : u < 10) : decI u = [48 + (u : Int)] := by
  unfold decI
  rw [Lib.decDigits, dif_pos h]
  simp
  omega
theorem decI_big {u : Nat} (h : ¬ u < 10) : decI u = decI (u / 10) ++ [48 + ((u % 10 : Nat) : Int)] := by
  unfold decI
  rw [Lib.decDigits, dif_neg h]
  simp
  omega
theorem decI_byt (u : Nat) : ∀ x ∈ decI u, Byt x := by
  intro x hx
  simp only [decI, List.mem_map] at hx
  obtain ⟨b, _, rfl⟩ := hx
  have := b.toNat_lt
  unfold Byt
  omega
theorem decI_two {u : Nat} (h : u < 100) : (decI u).length ≤ 2 := by
  by_cases h1 : u < 10
  · rw [decI_small h1]; simp
  · rw [decI_big h1, decI_small (by omega)]; simp
end Go.Proofs.YteafpgaefphkfaaGreatDoor
/-
  The draws' cursor: what is drawn of a code is within its bounds, and nothing but the cursor's own block turns.
-/
namespace Go.Proofs.YteafpgaefphkfaaGreatDoor
open Go.RowKit
set_option linter.unusedVariables false

theorem and_bound (x y : Int) (m : Nat) (hm : m < 4294967296) (hy : y = m) : 0 ≤ bits .and .i64 x y ∧ bits .and .i64 x y ≤ m := by
  subst hy
  have h1 : (BitVec.ofInt 64 x &&& BitVec.ofInt 64 (m : Int)).toNat ≤ m := by
    rw [BitVec.toNat_and]
    refine Nat.le_trans Nat.and_le_right ?_
    simp
    omega
  show 0 ≤ IntKind.i64.wrap ((BitVec.ofInt 64 x &&& BitVec.ofInt 64 (m : Int)).toNat : Int) ∧ IntKind.i64.wrap ((BitVec.ofInt 64 x &&& BitVec.ofInt 64 (m : Int)).toNat : Int) ≤ (m : Int)
  generalize (BitVec.ofInt 64 x &&& BitVec.ofInt 64 (m : Int)).toNat = q at h1
  simp only [IntKind.wrap, IntKind.bits, IntKind.signed]
  simp
  omega

/-- The cursor in block g over the code at a. -/
def Cur (w : World) (g : Nat) (a : Option Addr) (n cap : Nat) : Prop :=
  ∃ (i : Nat) (h : Int), w.heap[g]? = some (.cells #[.slice a n cap, .int .i64 i, .int .i64 h] 65 (0, 0)) ∧ i ≤ n

theorem Cur.lt {w : World} {g : Nat} {a : Option Addr} {n cap : Nat} (h : Cur w g a n cap) : g < w.heap.size := by
  obtain ⟨i, h, hh, _⟩ := h
  exact (Array.getElem?_eq_some_iff.1 hh).1

theorem Cur.grow {w w' : World} {g : Nat} {a : Option Addr} {n cap : Nat} (h : Cur w g a n cap) (hb : Below w.heap.size w w') : Cur w' g a n cap := by
  have hl := h.lt
  obtain ⟨i, h, hh, hi⟩ := h
  exact ⟨i, h, (hb.block g hl).trans hh, hi⟩

theorem Cur.away {w w' : World} {g : Nat} {a : Option Addr} {n cap : Nat} {row : Option Nat} (h : Cur w g a n cap) (hg : w.grownBy w' row) (hne : row ≠ some g) : Cur w' g a n cap := by
  have hl := h.lt
  obtain ⟨i, h, hh, hi⟩ := h
  exact ⟨i, h, (hg.block g hl (fun e => hne e.symm)).trans hh, hi⟩

theorem grownBy_set (w : World) (g j : Nat) (v : Value) : w.grownBy (w.setCell ⟨g, j, none⟩ v) (some g) :=
  ⟨rfl, rfl, rfl, by simp [World.setCell], fun k _ hk => Below.heap_setCell w ⟨g, j, none⟩ v k (fun e => hk (by simp [e]))⟩
theorem grownBy_drewN {w w1 : World} {row : Option Nat} (h : w.grownBy w1 row) (n : Nat) : w.grownBy (w1.drewN n) row := ⟨h.os, h.tape, h.output, h.size, h.block⟩

theorem cur_one {w : World} {g : Nat} {a : Option Addr} {n cap i : Nat} {h : Int} (hh : w.heap[g]? = some (.cells #[.slice a n cap, .int .i64 i, .int .i64 h] 65 (0, 0))) (h' : Int) (m1 m2 : Nat) (hi : i ≤ n) :
    Cur (((w.setCell ⟨g, 2, none⟩ (.int .i64 h')).drewN m1).drewN m2) g a n cap ∧ w.grownBy (((w.setCell ⟨g, 2, none⟩ (.int .i64 h')).drewN m1).drewN m2) (some g) := by
  refine ⟨⟨i, h', ?_, hi⟩, grownBy_drewN (grownBy_drewN (grownBy_set w g 2 _) _) _⟩
  exact heap_setCell_same w g 2 _ 65 _ hh

theorem cur_two {w : World} {g : Nat} {a : Option Addr} {n cap i : Nat} {h : Int} (hh : w.heap[g]? = some (.cells #[.slice a n cap, .int .i64 i, .int .i64 h] 65 (0, 0))) (h' : Int) (m : Nat) (hi : i < n) :
    Cur (((w.setCell ⟨g, 2, none⟩ (.int .i64 h')).drewN m).setCell ⟨g, 1, none⟩ (.int .i64 ((i : Int) + 1))) g a n cap ∧ w.grownBy (((w.setCell ⟨g, 2, none⟩ (.int .i64 h')).drewN m).setCell ⟨g, 1, none⟩ (.int .i64 ((i : Int) + 1))) (some g) := by
  refine ⟨⟨i + 1, h', ?_, hi⟩, grownBy_trans (grownBy_drewN (grownBy_set w g 2 _) _) (grownBy_set _ g 1 _)⟩
  have h1 : ((w.setCell ⟨g, 2, none⟩ (.int .i64 h')).drewN m).heap[g]? = some (.cells #[.slice a n cap, .int .i64 i, .int .i64 h'] 65 (0, 0)) := heap_setCell_same w g 2 _ 65 _ hh
  exact heap_setCell_same _ g 1 _ 65 _ h1

/-- The cursor stands, and the code can be read. -/
def Drw (w : World) (g : Nat) (a : Option Addr) (cap : Nat) (xs : List Int) : Prop :=
  Seg w a xs ∧ xs.length ≤ maxLen ∧ Cur w g a xs.length cap ∧ ∀ x, a = some x → xs ≠ [] → x.block ≠ g

theorem Drw.grow {w w' : World} {g : Nat} {a : Option Addr} {cap : Nat} {xs : List Int} (h : Drw w g a cap xs) (hb : Below w.heap.size w w') : Drw w' g a cap xs :=
  ⟨h.1.grow hb, h.2.1, h.2.2.1.grow hb, h.2.2.2⟩

/-- Other blocks were written, or made: the cursor stands. -/
theorem Drw.away {w w' : World} {g : Nat} {a : Option Addr} {cap : Nat} {xs : List Int} {row : Option Nat} (h : Drw w g a cap xs) (hg : w.grownBy w' row) (h1 : row ≠ some g) (h2 : ∀ x, a = some x → xs ≠ [] → row ≠ some x.block) : Drw w' g a cap xs :=
  ⟨h.1.away hg h2, h.2.1, h.2.2.1.away hg h1, h.2.2.2⟩

theorem Drw.lt {w : World} {g : Nat} {a : Option Addr} {cap : Nat} {xs : List Int} (h : Drw w g a cap xs) : g < w.heap.size := h.2.2.1.lt

end Go.Proofs.YteafpgaefphkfaaGreatDoor
/-
  The laws' own helpers markByteS and heldByteS: the one writes running numbers into a row that is the call's own, the other finds them there.
-/
namespace Go.Proofs.YteafpgaefphkfaaGreatDoor
open Go.RowKit
set_option linter.unusedVariables false

/-- The running numbers, as bytes. -/
def marks (m n : Nat) : List Int := (List.range n).map fun i => (((m + i) % 256 : Nat) : Int)

theorem length_marks (m n : Nat) : (marks m n).length = n := by simp [marks]
/-- What a row holds after k of the marks. -/
def marked (xs : List Int) (m k : Nat) : List Value := cellsOf (marks m k) ++ cellsOf (xs.drop k)
end Go.Proofs.YteafpgaefphkfaaGreatDoor
/-
  strconv.AppendInt at a small number: its digits behind what is there.
-/
namespace Go.Proofs.YteafpgaefphkfaaGreatDoor
open Go.RowKit
set_option linter.unusedVariables false

theorem byteCells_decI (u : Nat) : Lib.byteCells (Lib.decDigits u) = cellsOf (decI u) := by
  unfold Lib.byteCells cellsOf decI
  rw [List.map_map]
  rfl
theorem length_decI (u : Nat) : (Lib.decDigits u).length = (decI u).length := by simp [decI]

set_option maxHeartbeats 800000 in
theorem AppendInt_kept (B u : Nat) (sv : Value) (xs : List Int) (w : World) (hu : u < 100) (hB : Bts w B sv xs) (hBw : B ≤ w.heap.size) (hl : xs.length ≤ 2097152) :
    Calls Tryz.prog 40 #[sv, .int .i64 u, .int .i64 10] w fun e w' => ∃ v, e = .returned v ∧ Bts w' B v (xs ++ decI u) ∧ Below B w w' ∧ Lib.OthersKept 5 none w w' := by
  have HU := hide' (Tryz.internal_strconv_AppendUint_10_small B xs.length u hu sv (cellsOf xs) w hB.2 hBw (by omega))
  have HF : Hid (∀ v' w', w'.ownsRow B 5 1 v' (xs.length + (Lib.decDigits u).length) (cellsOf xs ++ Lib.byteCells (Lib.decDigits u)) → Bts w' B v' (xs ++ decI u)) := by
    intro v' w' h
    refine ⟨?_, ?_⟩
    · intro z hz
      rcases List.mem_append.1 hz with h1 | h1
      · exact hB.1 z h1
      · exact decI_byt u z h1
    · rw [byteCells_decI, length_decI, ← cellsOf_append] at h
      rw [List.length_append]
      exact h
  have h0 : ¬ (u : Int) < 0 := by omega
  have HI : Hid (Calls Tryz.prog 51 #[sv, .int .i64 u, .int .i64 10] w fun e w' => ∃ v, e = .returned v ∧ Bts w' B v (xs ++ decI u) ∧ Below B w w' ∧ Lib.OthersKept 5 none w w') := by
    show Calls _ _ _ _ _
    clear hB
    go_enter Tryz.func51, Tryz.ntmps51
    go_wp2_with fail
    refine HU.out.mono ?_
    rintro e w1 ⟨v1, rfl, ho, hb, hk⟩
    have HB := hide' (HF.out _ _ ho)
    clear ho
    go_wp2
    go_ret
    exact ⟨_, rfl, HB.out, hb, hk⟩
  clear hB HU HF
  go_enter Tryz.func40, Tryz.ntmps40
  go_wp2_with fail
  refine HI.out.mono ?_
  rintro e w1 ⟨v1, rfl, hB1, hb, hk⟩
  go_wp2
  go_ret
  exact ⟨_, rfl, hB1, hb, hk⟩

end Go.Proofs.YteafpgaefphkfaaGreatDoor
/-
  l2digits of the specification at a number that is not below nought.
-/
namespace Go.Proofs.YteafpgaefphkfaaGreatDoor
open Go.RowKit
set_option linter.unusedVariables false

end Go.Proofs.YteafpgaefphkfaaGreatDoor
/-
  szByteSS, szValueS, szValue of the laws: what is left of a bound behind a value's weight, or -1.
-/
namespace Go.Proofs.YteafpgaefphkfaaGreatDoor
open Go.RowKit
set_option linter.unusedVariables false

end Go.Proofs.YteafpgaefphkfaaGreatDoor
/-
  The order of texts, as the specification asks it: l2bytes.
-/
namespace Go.Proofs.YteafpgaefphkfaaGreatDoor
open Go.RowKit
set_option linter.unusedVariables false
set_option linter.unusedSimpArgs false

/-- The order of two texts. -/
def bytesC (xs ys : List Int) : Int := Lib.compareBytes (u8s xs) (u8s ys)

theorem cmp_swap : ∀ (a b : List UInt8), Lib.compareBytes b a = - Lib.compareBytes a b
  | [], [] => by simp [Lib.compareBytes]
  | [], _ :: _ => by simp [Lib.compareBytes]
  | _ :: _, [] => by simp [Lib.compareBytes]
  | x :: a, y :: b => by
    have ih := cmp_swap a b
    unfold Lib.compareBytes
    by_cases h1 : x < y
    · have h2 : ¬ y < x := fun h => absurd (UInt8.lt_trans h1 h) (UInt8.lt_irrefl _)
      have h3 : ¬ x = y := fun e => by subst e; exact absurd h1 (UInt8.lt_irrefl _)
      have h4 : ¬ y = x := fun e => h3 e.symm
      simp [h1, h2, h3, h4]
    · by_cases h2 : y < x
      · have h3 : ¬ x = y := fun e => by subst e; exact absurd h2 (UInt8.lt_irrefl _)
        have h4 : ¬ y = x := fun e => h3 e.symm
        simp [h1, h2, h3, h4]
      · have h3 : x = y := UInt8.le_antisymm (UInt8.not_lt.1 h2) (UInt8.not_lt.1 h1)
        subst h3
        simp [h1, ih]

theorem less_ab (xs ys : List Int) : Op.bytesLess (strOf xs).toList (strOf ys).toList = decide (bytesC xs ys < 0) := by rw [strOf_list, strOf_list, less_cmp]; rfl
theorem less_ba (xs ys : List Int) : Op.bytesLess (strOf ys).toList (strOf xs).toList = decide (0 < bytesC xs ys) := by
  rw [strOf_list, strOf_list, less_cmp, cmp_swap]
  show decide (-(bytesC xs ys) < 0) = _
  by_cases h : 0 < bytesC xs ys
  · simp [h]
  · simp [h]
theorem cmp_zero : ∀ (a b : List UInt8), Lib.compareBytes a b = 0 ↔ a = b
  | [], [] => by simp [Lib.compareBytes]
  | [], _ :: _ => by simp [Lib.compareBytes]
  | _ :: _, [] => by simp [Lib.compareBytes]
  | x :: a, y :: b => by
    have ih := cmp_zero a b
    unfold Lib.compareBytes
    by_cases h1 : x < y
    · have h3 : ¬ x = y := fun e => by subst e; exact absurd h1 (UInt8.lt_irrefl _)
      simp [h1, h3]
    · by_cases h2 : y < x
      · have h3 : ¬ x = y := fun e => by subst e; exact absurd h2 (UInt8.lt_irrefl _)
        simp [h1, h2, h3]
      · have h3 : x = y := UInt8.le_antisymm (UInt8.not_lt.1 h2) (UInt8.not_lt.1 h1)
        subst h3
        simp [h1, ih]
theorem same_ab (xs ys : List Int) : ((strOf xs).toList == (strOf ys).toList) = decide (bytesC xs ys = 0) := by
  rw [strOf_list, strOf_list]
  have h := cmp_zero (u8s xs) (u8s ys)
  show _ = decide (Lib.compareBytes (u8s xs) (u8s ys) = 0)
  by_cases e : u8s xs = u8s ys
  · simp [e, h.2 e]
    exact (cmp_zero _ _).2 rfl
  · have : ¬ Lib.compareBytes (u8s xs) (u8s ys) = 0 := fun k => e (h.1 k)
    simp [e, this]
theorem bytesC_cases (xs ys : List Int) : bytesC xs ys = -1 ∨ bytesC xs ys = 0 ∨ bytesC xs ys = 1 := by
  have := cmp_range (u8s xs) (u8s ys)
  have e : bytesC xs ys = Lib.compareBytes (u8s xs) (u8s ys) := rfl
  omega

set_option maxHeartbeats 800000 in
theorem l2bytes_any (a b : Option Addr) (c1 c2 : Nat) (xs ys : List Int) (w : World) (ha : Seg w a xs) (hb : Seg w b ys) :
    Calls Tryz.prog 48 #[.slice a xs.length c1, .slice b ys.length c2] w fun e w' => e = .returned (.int .i64 (bytesC xs ys)) ∧ w = w' := by
  have k1 := conv_seg c1 ha
  have k2 := conv_seg c2 hb
  have l1 := less_ab xs ys
  have l2 := less_ba xs ys
  have l3 := same_ab xs ys
  rcases bytesC_cases xs ys with h | h | h
  · rw [h] at l1 l2 l3
    simp only [Int.reduceNeg, Int.reduceLT, Int.reduceEq, decide_true, decide_false, Int.lt_irrefl] at l1 l2 l3
    have HO := hide' h
    clear h
    go_enter Tryz.func48, Tryz.ntmps48
    go_wp2
    go_ret
    exact ⟨ret_i64 (by rw [HO.out]), rfl⟩
  · rw [h] at l1 l2 l3
    simp only [Int.reduceNeg, Int.reduceLT, Int.reduceEq, decide_true, decide_false, Int.lt_irrefl] at l1 l2 l3
    have HO := hide' h
    clear h
    go_enter Tryz.func48, Tryz.ntmps48
    go_wp2
    go_ret
    exact ⟨ret_i64 (by rw [HO.out]), rfl⟩
  · rw [h] at l1 l2 l3
    simp only [Int.reduceNeg, Int.reduceLT, Int.reduceEq, decide_true, decide_false, Int.lt_irrefl] at l1 l2 l3
    have HO := hide' h
    clear h
    go_enter Tryz.func48, Tryz.ntmps48
    go_wp2
    go_ret
    exact ⟨ret_i64 (by rw [HO.out]), rfl⟩

end Go.Proofs.YteafpgaefphkfaaGreatDoor
/-
  What a call owns: a text, a list of texts, a value, each with the list of the blocks in which it lies, no block twice.
-/
namespace Go.Proofs.YteafpgaefphkfaaGreatDoor
open Go.RowKit
set_option linter.unusedVariables false

/-- A text of the call's own, in the blocks B. -/
def TOwn (w : World) (v : Value) (xs : List Int) (B : List Nat) : Prop :=
  BtsF w v xs ∧ ((v = .slice none 0 0 ∧ B = []) ∨ ∃ g cap, v = .slice (some ⟨g, 0, none⟩) xs.length cap ∧ B = [g])

/-- A list of texts of the call's own, in the blocks B. -/
def KOwn (w : World) (v : Value) (ks : List (List Int)) (B : List Nat) : Prop :=
  (v = .slice none 0 0 ∧ ks = [] ∧ B = []) ∨
  ∃ (g cap : Nat) (cur : Array Value) (Bs : List (List Nat)), v = .slice (some ⟨g, 0, none⟩) ks.length cap ∧ w.heap[g]? = some (.cells cur 22 (0, 0)) ∧ ks.length ≤ cap ∧ cap ≤ maxLen ∧ cur.size = cap ∧ Bs.length = ks.length ∧
    (∀ i, i < ks.length → ∃ u, cur[i]? = some u ∧ TOwn w u (ks.getD i []) (Bs.getD i [])) ∧ B = g :: Bs.flatten ∧ B.Nodup

theorem TOwn.agree {w w' : World} {v : Value} {xs : List Int} {B : List Nat} (h : TOwn w v xs B) (ha : Agree (fun b => b ∈ B) w w') : TOwn w' v xs B := by
  refine ⟨?_, h.2⟩
  rcases h.2 with ⟨rfl, rfl⟩ | ⟨g, cap, rfl, rfl⟩
  · refine ⟨h.1.1, h.1.2.1, ?_⟩
    rcases h.1.2.2 with h0 | ⟨g, cap, cur, fr, h1, _⟩
    · exact .inl h0
    · simp at h1
  · refine ⟨h.1.1, h.1.2.1, ?_⟩
    rcases h.1.2.2 with ⟨h0, _⟩ | ⟨g', cap', cur, fr, h1, h3, h4⟩
    · simp at h0
    · simp only [Value.slice.injEq, Option.some.injEq, Addr.mk.injEq, and_true, true_and] at h1
      obtain ⟨rfl, rfl⟩ := h1
      exact .inr ⟨g, cap, cur, fr, rfl, (ha g (by simp)).trans h3, h4⟩

theorem TOwn.lt {w : World} {v : Value} {xs : List Int} {B : List Nat} (h : TOwn w v xs B) : ∀ b ∈ B, b < w.heap.size := by
  intro b hb
  rcases h.2 with ⟨rfl, rfl⟩ | ⟨g, cap, rfl, rfl⟩
  · simp at hb
  · simp at hb
    subst hb
    exact h.1.2.lt b rfl

theorem flatten_mem_getD {Bs : List (List Nat)} {i : Nat} (hi : i < Bs.length) {b : Nat} (hb : b ∈ Bs.getD i []) : b ∈ Bs.flatten := by
  rw [List.mem_flatten]
  refine ⟨Bs[i], List.getElem_mem hi, ?_⟩
  simpa [List.getD_eq_getElem?_getD, hi] using hb

theorem KOwn.agree {w w' : World} {v : Value} {ks : List (List Int)} {B : List Nat} (h : KOwn w v ks B) (ha : Agree (fun b => b ∈ B) w w') : KOwn w' v ks B := by
  rcases h with h0 | ⟨g, cap, cur, Bs, h1, h2, h3, h4, h5, h6, h7, rfl, h9⟩
  · exact .inl h0
  · refine .inr ⟨g, cap, cur, Bs, h1, (ha g (by simp)).trans h2, h3, h4, h5, h6, fun i hi => ?_, rfl, h9⟩
    obtain ⟨u, hu, ht⟩ := h7 i hi
    exact ⟨u, hu, ht.agree fun b hb => ha b (List.mem_cons_of_mem _ (flatten_mem_getD (by omega) hb))⟩

/-- What is owned can be read. -/
theorem TOwn.seg {w : World} {v : Value} {xs : List Int} {B : List Nat} (h : TOwn w v xs B) : TSeg (fun b => b ∈ B) w v xs := by
  obtain ⟨a, cap, h1, h2, h3, h4, h5, h6⟩ := h.1.shape
  refine ⟨a, cap, h1, h2, h3, h4, h6, fun x hx he => ?_⟩
  rcases h.2 with ⟨e, rfl⟩ | ⟨g, cp, e, rfl⟩
  · rw [e] at h1; simp at h1; rw [← h1.1] at hx; simp at hx
  · rw [e] at h1; simp at h1; rw [← h1.1] at hx; simp at hx; simp [← hx]

theorem TSeg.mono {R R' : Nat → Prop} {w : World} {v : Value} {xs : List Int} (h : TSeg R w v xs) (hr : ∀ b, R b → R' b) : TSeg R' w v xs := by
  obtain ⟨a, cap, h1, h2, h3, h4, h5, h6⟩ := h
  exact ⟨a, cap, h1, h2, h3, h4, h5, fun x hx he => hr _ (h6 x hx he)⟩

theorem KOwn.seg {w : World} {v : Value} {ks : List (List Int)} {B : List Nat} (h : KOwn w v ks B) : KSeg (fun b => b ∈ B) w v ks := by
  rcases h with ⟨rfl, rfl, rfl⟩ | ⟨g, cap, cur, Bs, rfl, h2, h3, h4, h5, h6, h7, rfl, h9⟩
  · exact ⟨none, 0, rfl, Nat.le_refl _, Nat.zero_le _, fun _ => rfl, .inl rfl⟩
  · refine ⟨some ⟨g, 0, none⟩, cap, rfl, h3, h4, by simp, .inr ⟨g, 0, rfl, by simp, fun i hi => ?_⟩⟩
    obtain ⟨u, hu, ht⟩ := h7 i hi
    refine ⟨u, ?_, ht.seg.mono fun b hb => List.mem_cons_of_mem _ (flatten_mem_getD (by omega) hb)⟩
    rw [Nat.zero_add, cell_of_row w g i cur 22 (0, 0) h2]
    exact hu

theorem infoT : (Tryz.prog.info? 22).map (fun i => (i.zero, i.size, i.bytes)) = some (some (.slice none 0 0), 1, 24) := by kernel_rfl

end Go.Proofs.YteafpgaefphkfaaGreatDoor
/-
  toByteSS of the laws: it makes a list of texts of its own that holds what its argument holds.
-/
namespace Go.Proofs.YteafpgaefphkfaaGreatDoor
open Go.RowKit
set_option linter.unusedVariables false

end Go.Proofs.YteafpgaefphkfaaGreatDoor
