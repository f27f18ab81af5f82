/-
  Texts that a law leans on, one behind the other; no statement is proved here.
-/
import Derived.Test.YteafpgaefphkfaaGreatDoorPk2
import Derived.Lib.AppendStr
import Derived.Test.YteafpgaefphkfaaGreatDoorPk1
import Derived.Test.YteafpgaefphkfaaGreatDoorPk3
import Derived.Test.YteafpgaefphkfaaGreatDoorPk0
/-
  A string of bytes as cells; 'append(out, s...)' of a string.
-/
namespace Go.Proofs.YteafpgaefphkfaaGreatDoor
open Go.RowKit
set_option linter.unusedVariables false

theorem strCells_of {xs : List Int} (h : ∀ x ∈ xs, Byt x) : Lib.strCells (strOf xs) = cellsOf xs := by
  show (u8s xs).map (fun b => Value.int .u8 (b.toNat : Int)) = _
  unfold u8s cellsOf
  rw [List.map_map]
  refine List.map_congr_left fun x hx => ?_
  have hb := h x hx
  unfold Byt at hb
  simp
  omega

theorem size_strOf (xs : List Int) : (strOf xs).size = xs.length := by simp [strOf, ByteArray.size]

end Go.Proofs.YteafpgaefphkfaaGreatDoor
/-
  numDigits of the program: the five bytes and how many of them count.
-/
namespace Go.Proofs.YteafpgaefphkfaaGreatDoor
open Go.RowKit
set_option linter.unusedVariables false

end Go.Proofs.YteafpgaefphkfaaGreatDoor
/-
  The order of numbers and of texts, as the specification and as the program ask it: l2num; cmp.Compare at int.
-/
namespace Go.Proofs.YteafpgaefphkfaaGreatDoor
open Go.RowKit
set_option linter.unusedVariables false
set_option linter.unusedSimpArgs false

/-- The order of two numbers. -/
def numC (a b : Int) : Int := if a < b then -1 else if b < a then 1 else 0
theorem numC_lt {a b : Int} (h : a < b) : numC a b = -1 := by simp [numC, h]
theorem numC_gt {a b : Int} (h : b < a) : numC a b = 1 := by
  have : ¬ a < b := by omega
  simp [numC, h, this]
theorem numC_eq (a : Int) : numC a a = 0 := by simp [numC]

set_option maxHeartbeats 800000 in
theorem isNaN_any (a : Int) (w : World) : Calls Tryz.prog 49 #[.int .i64 a] w fun e w' => e = .returned (.bool false) ∧ w = w' := by
  go_enter Tryz.func49, Tryz.ntmps49
  go_wp2
  go_ret
  exact ⟨rfl, rfl⟩

set_option maxHeartbeats 800000 in
theorem cmpInt_any (a b : Int) (w : World) : Calls Tryz.prog 38 #[.int .i64 a, .int .i64 b] w fun e w' => e = .returned (.int .i64 (numC a b)) ∧ w = w' := by
  have H1 := hide' (isNaN_any a w)
  have H2 := hide' (isNaN_any b w)
  by_cases h1 : a < b
  · have HO := hide' (numC_lt h1)
    go_enter Tryz.func38, Tryz.ntmps38
    go_wp2_with fail
    refine H1.out.mono ?_
    rintro e w1 ⟨rfl, e1⟩
    obtain rfl := e1
    go_wp2_with fail
    refine H2.out.mono ?_
    rintro e w1 ⟨rfl, e1⟩
    obtain rfl := e1
    go_wp2
    go_ret
    exact ⟨ret_i64 (by rw [HO.out]), rfl⟩
  · by_cases h2 : b < a
    · have HO := hide' (numC_gt h2)
      go_enter Tryz.func38, Tryz.ntmps38
      go_wp2_with fail
      refine H1.out.mono ?_
      rintro e w1 ⟨rfl, e1⟩
      obtain rfl := e1
      go_wp2_with fail
      refine H2.out.mono ?_
      rintro e w1 ⟨rfl, e1⟩
      obtain rfl := e1
      go_wp2
      go_ret
      exact ⟨ret_i64 (by rw [HO.out]), rfl⟩
    · have h3 : a = b := by omega
      subst h3
      have HO := hide' (numC_eq a)
      go_enter Tryz.func38, Tryz.ntmps38
      go_wp2_with fail
      refine H1.out.mono ?_
      rintro e w1 ⟨rfl, e1⟩
      obtain rfl := e1
      go_wp2_with fail
      refine H2.out.mono ?_
      rintro e w1 ⟨rfl, e1⟩
      obtain rfl := e1
      go_wp2
      go_ret
      exact ⟨ret_i64 (by rw [HO.out]), rfl⟩

end Go.Proofs.YteafpgaefphkfaaGreatDoor
/-
  Paths: a list of steps (kind, key, place), as it is read ('PthSeg') and as a call owns it ('PthOwn'); no statement is proved here.
-/
namespace Go.Proofs.YteafpgaefphkfaaGreatDoor
open Go.RowKit
set_option linter.unusedVariables false

/-- A step: its kind, its key, its place. -/
abbrev Stp : Type := Int × List Int × Int

/-- The three cells of a step at a place. -/
def Three (w : World) (b off : Nat) (c : Value × Value × Value) : Prop :=
  w.cell? ⟨b, off, none⟩ = some c.1 ∧ w.cell? ⟨b, off + 1, none⟩ = some c.2.1 ∧ w.cell? ⟨b, off + 2, none⟩ = some c.2.2

/-- Three cells read as a step. -/
def StSeg (R : Nat → Prop) (w : World) (c : Value × Value × Value) (s : Stp) : Prop := c.1 = .int .i64 s.1 ∧ TSeg R w c.2.1 s.2.1 ∧ c.2.2 = .int .i64 s.2.2

/-- A slice of steps. -/
def PthSeg (R : Nat → Prop) (w : World) (x : Value) (l : List Stp) : Prop := ∃ a cap, x = .slice a l.length cap ∧ l.length ≤ cap ∧ cap ≤ maxLen ∧ (a = none → cap = 0) ∧
  (l = [] ∨ ∃ b off, a = some ⟨b, off, none⟩ ∧ R b ∧ ∀ i (h : i < l.length), ∃ e, Three w b (off + i * 3) e ∧ StSeg R w e (l[i]))

theorem Three.agree {R : Nat → Prop} {w w' : World} {b off : Nat} {c : Value × Value × Value} (h : Three w b off c) (ha : Agree R w w') (hb : R b) : Three w' b off c := by
  obtain ⟨h0, h1, h2⟩ := h
  exact ⟨(cell_agree ha hb).trans h0, (cell_agree ha hb).trans h1, (cell_agree ha hb).trans h2⟩

theorem StSeg.agree {R : Nat → Prop} {w w' : World} {c : Value × Value × Value} {s : Stp} (h : StSeg R w c s) (ha : Agree R w w') : StSeg R w' c s := ⟨h.1, h.2.1.agree ha, h.2.2⟩

theorem StSeg.mono {R R' : Nat → Prop} {w : World} {c : Value × Value × Value} {s : Stp} (h : StSeg R w c s) (hr : ∀ b, R b → R' b) : StSeg R' w c s := ⟨h.1, h.2.1.mono hr, h.2.2⟩

theorem PthSeg.agree {R : Nat → Prop} {w w' : World} {x : Value} {l : List Stp} (h : PthSeg R w x l) (ha : Agree R w w') : PthSeg R w' x l := by
  obtain ⟨a, cap, g1, g2, g3, g4, g5⟩ := h
  refine ⟨a, cap, g1, g2, g3, g4, ?_⟩
  rcases g5 with e | ⟨b, off, hb, hR, hc⟩
  · exact .inl e
  · refine .inr ⟨b, off, hb, hR, fun i hi => ?_⟩
    obtain ⟨e, he, hv⟩ := hc i hi
    exact ⟨e, he.agree ha hR, hv.agree ha⟩

theorem PthSeg.mono {R R' : Nat → Prop} {w : World} {x : Value} {l : List Stp} (h : PthSeg R w x l) (hr : ∀ b, R b → R' b) : PthSeg R' w x l := by
  obtain ⟨a, cap, g1, g2, g3, g4, g5⟩ := h
  refine ⟨a, cap, g1, g2, g3, g4, ?_⟩
  rcases g5 with e | ⟨b, off, hb, hR, hc⟩
  · exact .inl e
  · refine .inr ⟨b, off, hb, hr b hR, fun i hi => ?_⟩
    obtain ⟨e, he, hv⟩ := hc i hi
    exact ⟨e, he, hv.mono hr⟩

/-- The k-th step, in the world of then. -/
theorem PthSeg.at {R : Nat → Prop} {w : World} {a : Option Addr} {n cap : Nat} {l : List Stp} (h : PthSeg R w (.slice a n cap) l) {k : Nat} (hk : k < l.length) :
    ∃ b off c0 c1 c2, a = some ⟨b, off, none⟩ ∧ R b ∧ Three w b (off + k * 3) (c0, c1, c2) ∧ StSeg R w (c0, c1, c2) (l[k]) := by
  obtain ⟨a', cap', g1, _, _, _, g5⟩ := h
  simp only [Value.slice.injEq] at g1
  obtain ⟨rfl, _, _⟩ := g1
  rcases g5 with e | ⟨b, off, hb, hR, hc⟩
  · rw [e] at hk; simp at hk
  · obtain ⟨⟨c0, c1, c2⟩, he, hv⟩ := hc k hk
    exact ⟨b, off, c0, c1, c2, hb, hR, he, hv⟩

/-- The three cells of a step in an array of cells. -/
def Cells3 (cur : Array Value) (j : Nat) (e : Value × Value × Value) : Prop := cur[j]? = some e.1 ∧ cur[j + 1]? = some e.2.1 ∧ cur[j + 2]? = some e.2.2

/-- A step of the call's own. -/
def StOwn (w : World) (c : Value × Value × Value) (s : Stp) (B : List Nat) : Prop := c.1 = .int .i64 s.1 ∧ TOwn w c.2.1 s.2.1 B ∧ c.2.2 = .int .i64 s.2.2

/-- A list of steps of the call's own. -/
def PthOwn (w : World) (x : Value) (l : List Stp) (B : List Nat) : Prop :=
  ∃ (g cap : Nat) (cur : Array Value) (Bi : List (List Nat)), x = .slice (some ⟨g, 0, none⟩) l.length cap ∧ w.heap[g]? = some (.cells cur 50 (0, 0)) ∧ l.length ≤ cap ∧ cap ≤ maxLen ∧ cur.size = cap * 3 ∧ Bi.length = l.length ∧
    (∀ i (h : i < l.length), ∃ e, Cells3 cur (i * 3) e ∧ StOwn w e (l[i]) (Bi.getD i [])) ∧ B = g :: Bi.flatten ∧ B.Nodup

theorem StOwn.agree {w w' : World} {c : Value × Value × Value} {s : Stp} {B : List Nat} (h : StOwn w c s B) (ha : Agree (fun b => b ∈ B) w w') : StOwn w' c s B := ⟨h.1, h.2.1.agree ha, h.2.2⟩

theorem PthOwn.agree {w w' : World} {x : Value} {l : List Stp} {B : List Nat} (h : PthOwn w x l B) (ha : Agree (fun b => b ∈ B) w w') : PthOwn w' x l B := by
  obtain ⟨g, cap, cur, Bi, h1, h2, h3, h4, h5, h6, h7, rfl, h9⟩ := h
  refine ⟨g, cap, cur, Bi, h1, (ha g (by simp)).trans h2, h3, h4, h5, h6, fun i hi => ?_, rfl, h9⟩
  obtain ⟨e, he, hv⟩ := h7 i hi
  exact ⟨e, he, hv.agree fun b hb => ha b (List.mem_cons_of_mem _ (flatten_mem_getD (by omega) hb))⟩

theorem PthOwn.lt {w : World} {x : Value} {l : List Stp} {B : List Nat} (h : PthOwn w x l B) : ∀ b ∈ B, b < w.heap.size := by
  intro b hb
  obtain ⟨g, cap, cur, Bi, h1, h2, h3, h4, h5, h6, h7, rfl, h9⟩ := h
  rcases List.mem_cons.1 hb with rfl | hb
  · exact (Array.getElem?_eq_some_iff.1 h2).1
  · obtain ⟨q, hq, hbq⟩ := List.mem_flatten.1 hb
    obtain ⟨i, hi, rfl⟩ := List.getElem_of_mem hq
    obtain ⟨u, _, ht⟩ := h7 i (by omega)
    exact ht.2.1.lt b (by simpa [List.getD_eq_getElem?_getD, hi] using hbq)

theorem Cells3.three {w : World} {g : Nat} {cur : Array Value} {T : TypeId} (h : w.heap[g]? = some (.cells cur T (0, 0))) {j : Nat} {e : Value × Value × Value} (he : Cells3 cur j e) : Three w g j e := by
  obtain ⟨h0, h1, h2⟩ := he
  refine ⟨?_, ?_, ?_⟩ <;> rw [cell_of_row w g _ cur _ (0, 0) h] <;> assumption

theorem PthOwn.seg {w : World} {x : Value} {l : List Stp} {B : List Nat} (h : PthOwn w x l B) : PthSeg (fun b => b ∈ B) w x l := by
  obtain ⟨g, cap, cur, Bi, h1, h2, h3, h4, h5, h6, h7, rfl, h9⟩ := h
  refine ⟨some ⟨g, 0, none⟩, cap, h1, h3, h4, by simp, .inr ⟨g, 0, rfl, by simp, fun i hi => ?_⟩⟩
  obtain ⟨e, he, hv⟩ := h7 i hi
  exact ⟨e, by rw [Nat.zero_add]; exact he.three h2, hv.1, hv.2.1.seg.mono fun b hb => List.mem_cons_of_mem _ (flatten_mem_getD (by omega) hb), hv.2.2⟩

/-- What a call has made for itself can be read by whoever comes behind it. -/
theorem PthOwn.below {w w' : World} {x : Value} {l : List Stp} {B : List Nat} (h : PthOwn w x l B) (hb : Below w.heap.size w w') : PthSeg (fun b => b < w.heap.size) w' x l :=
  (h.seg.mono fun b hb => h.lt b hb).agree (agree_below hb)

/-- A path that came in is of this shape. -/
theorem PthSeg.form {R : Nat → Prop} {w : World} {x : Value} {l : List Stp} (h : PthSeg R w x l) : ∃ a n p, x = .slice a n p := by
  obtain ⟨a, cap, h1, _⟩ := h
  exact ⟨_, _, _, h1⟩
end Go.Proofs.YteafpgaefphkfaaGreatDoor
/-
  The order of values, as the specification has it: 'cmpV'; readings at one depth. Plain mathematics.
-/
namespace Go.Proofs.YteafpgaefphkfaaGreatDoor
open Go.RowKit
set_option linter.unusedVariables false
set_option linter.unusedSimpArgs false

end Go.Proofs.YteafpgaefphkfaaGreatDoor
/-
  cmp.Or at three ints: the first that is not 0.
-/
namespace Go.Proofs.YteafpgaefphkfaaGreatDoor
open Go.RowKit
set_option linter.unusedVariables false
set_option linter.unusedSimpArgs false

/-- The first of three that is not 0. -/
def or3 (a b c : Int) : Int := if a ≠ 0 then a else if b ≠ 0 then b else c

set_option maxHeartbeats 800000 in
theorem or_any (g : Nat) (a b c : Int) (w : World) (h0 : w.cell? ⟨g, 0, none⟩ = some (.int .i64 a)) (h1 : w.cell? ⟨g, 1, none⟩ = some (.int .i64 b)) (h2 : w.cell? ⟨g, 2, none⟩ = some (.int .i64 c)) :
    Calls Tryz.prog 37 #[.slice (some ⟨g, 0, none⟩) 3 3] w fun e w' => e = .returned (.int .i64 (or3 a b c)) ∧ w = w' := by
  go_enter Tryz.func37, Tryz.ntmps37
  go_wp2
  go_loopw [8] (fun i wr => ∃ k : Nat, k ≤ 3 ∧ i = .int .i64 k ∧ (1 ≤ k → a = 0) ∧ (2 ≤ k → b = 0) ∧ (3 ≤ k → c = 0) ∧ wr = w) (fun i _ => 3 - (intOf i).toNat)
  case atStart => exact ⟨0, Nat.zero_le _, rfl, by omega, by omega, by omega, rfl⟩
  case round =>
    obtain ⟨k, hk, rfl, hA, hB, hC, rfl⟩ := hrel
    have hk4 : k = 0 ∨ k = 1 ∨ k = 2 ∨ k = 3 := by omega
    rcases hk4 with rfl | rfl | rfl | rfl
    · by_cases hz : a = 0
      · subst hz
        go_wp2
        go_roundw
        case rel => exact ⟨1, by omega, by go_num, by first | trivial | (intros; first | rfl | trivial | omega), by first | trivial | (intros; first | rfl | trivial | omega), by first | trivial | (intros; first | rfl | trivial | omega), by first | rfl | trivial⟩
        case measure => simp [intOf]
      · have HO : Hid (or3 a b c = a) := by show or3 a b c = a; simp [or3, hz]
        go_wp2
        go_ret
        exact ⟨ret_i64 (by rw [HO.out]), rfl⟩
    · have ha := hA (by omega)
      subst ha
      by_cases hz : b = 0
      · subst hz
        go_wp2
        go_roundw
        case rel => exact ⟨2, by omega, by go_num, by first | trivial | (intros; first | rfl | trivial | omega), by first | trivial | (intros; first | rfl | trivial | omega), by first | trivial | (intros; first | rfl | trivial | omega), by first | rfl | trivial⟩
        case measure => simp [intOf]
      · have HO : Hid (or3 0 b c = b) := by show or3 0 b c = b; simp [or3, hz]
        go_wp2
        go_ret
        exact ⟨ret_i64 (by rw [HO.out]), rfl⟩
    · have ha := hA (by omega)
      subst ha
      have hb := hB (by omega)
      subst hb
      by_cases hz : c = 0
      · subst hz
        go_wp2
        go_roundw
        case rel => exact ⟨3, by omega, by go_num, by first | trivial | (intros; first | rfl | trivial | omega), by first | trivial | (intros; first | rfl | trivial | omega), by first | trivial | (intros; first | rfl | trivial | omega), by first | rfl | trivial⟩
        case measure => simp [intOf]
      · have HO : Hid (or3 0 0 c = c) := by show or3 0 0 c = c; simp [or3]
        go_wp2
        go_ret
        exact ⟨ret_i64 (by rw [HO.out]), rfl⟩
    · have ha := hA (by omega)
      subst ha
      have hb := hB (by omega)
      subst hb
      have hc := hC (by omega)
      subst hc
      have HO : Hid (or3 0 0 0 = 0) := by show or3 0 0 0 = 0; simp [or3]
      go_wp2
      go_ret
      exact ⟨ret_i64 (by rw [HO.out]), rfl⟩
end Go.Proofs.YteafpgaefphkfaaGreatDoor
/-
  strings.Compare: the order of two texts.
-/
namespace Go.Proofs.YteafpgaefphkfaaGreatDoor
open Go.RowKit
set_option linter.unusedVariables false
set_option linter.unusedSimpArgs false

end Go.Proofs.YteafpgaefphkfaaGreatDoor
/-
  Values that a call owns, with the blocks in which they lie.
-/
namespace Go.Proofs.YteafpgaefphkfaaGreatDoor
open Go.RowKit
set_option linter.unusedVariables false

/-- The five cells of a value in an array of cells. -/
def Cells5 (cur : Array Value) (j : Nat) (e : Value × Value × Value × Value × Value) : Prop :=
  cur[j]? = some e.1 ∧ cur[j + 1]? = some e.2.1 ∧ cur[j + 2]? = some e.2.2.1 ∧ cur[j + 3]? = some e.2.2.2.1 ∧ cur[j + 4]? = some e.2.2.2.2

/-- A value of the call's own, in the blocks B. -/
def VOwn (w : World) : (d : Nat) → Value × Value × Value × Value × Value → Vl d → List Nat → Prop
  | 0, _, _, _ => False
  | d + 1, c, v, B => c.1 = .int .i64 v.1 ∧ c.2.1 = .int .i64 v.2.1 ∧ ∃ Bs Bk Bl, TOwn w c.2.2.1 v.2.2.1 Bs ∧ KOwn w c.2.2.2.1 v.2.2.2.1 Bk ∧
      ((c.2.2.2.2 = .slice none 0 0 ∧ v.2.2.2.2 = [] ∧ Bl = []) ∨
        ∃ (g cap : Nat) (cur : Array Value) (Bi : List (List Nat)), c.2.2.2.2 = .slice (some ⟨g, 0, none⟩) v.2.2.2.2.length cap ∧ w.heap[g]? = some (.cells cur 29 (0, 0)) ∧ v.2.2.2.2.length ≤ cap ∧ cap ≤ maxLen ∧ cur.size = cap * 5 ∧ Bi.length = v.2.2.2.2.length ∧
          (∀ i (h : i < v.2.2.2.2.length), ∃ e, Cells5 cur (i * 5) e ∧ VOwn w d e (v.2.2.2.2[i]) (Bi.getD i [])) ∧ Bl = g :: Bi.flatten ∧ Bl.Nodup) ∧
      B = Bs ++ (Bk ++ Bl) ∧ B.Nodup

/-- A list of values of the call's own. -/
def LOwn (w : World) (d : Nat) (x : Value) (l : List (Vl d)) (B : List Nat) : Prop :=
  (x = .slice none 0 0 ∧ l = [] ∧ B = []) ∨
  ∃ (g cap : Nat) (cur : Array Value) (Bi : List (List Nat)), x = .slice (some ⟨g, 0, none⟩) l.length cap ∧ w.heap[g]? = some (.cells cur 29 (0, 0)) ∧ l.length ≤ cap ∧ cap ≤ maxLen ∧ cur.size = cap * 5 ∧ Bi.length = l.length ∧
    (∀ i (h : i < l.length), ∃ e, Cells5 cur (i * 5) e ∧ VOwn w d e (l[i]) (Bi.getD i [])) ∧ B = g :: Bi.flatten ∧ B.Nodup

theorem VOwn_succ (w : World) (d : Nat) (c : Value × Value × Value × Value × Value) (v : Vl (d + 1)) (B : List Nat) :
    VOwn w (d + 1) c v B ↔ c.1 = .int .i64 v.1 ∧ c.2.1 = .int .i64 v.2.1 ∧ ∃ Bs Bk Bl, TOwn w c.2.2.1 v.2.2.1 Bs ∧ KOwn w c.2.2.2.1 v.2.2.2.1 Bk ∧ LOwn w d c.2.2.2.2 v.2.2.2.2 Bl ∧ B = Bs ++ (Bk ++ Bl) ∧ B.Nodup := Iff.rfl

theorem KOwn.lt {w : World} {v : Value} {ks : List (List Int)} {B : List Nat} (h : KOwn w v ks B) : ∀ b ∈ B, b < w.heap.size := by
  intro b hb
  rcases h with ⟨_, _, rfl⟩ | ⟨g, cap, cur, Bs, _, h2, _, _, _, h6, h7, rfl, _⟩
  · simp at hb
  · rcases List.mem_cons.1 hb with rfl | hb
    · exact (Array.getElem?_eq_some_iff.1 h2).1
    · obtain ⟨l, hl, hbl⟩ := List.mem_flatten.1 hb
      obtain ⟨i, hi, rfl⟩ := List.getElem_of_mem hl
      obtain ⟨u, _, ht⟩ := h7 i (by omega)
      exact ht.lt b (by simpa [List.getD_eq_getElem?_getD, hi] using hbl)

theorem VOwn.lt {w : World} (d : Nat) : ∀ {c : Value × Value × Value × Value × Value} {v : Vl d} {B : List Nat}, VOwn w d c v B → ∀ b ∈ B, b < w.heap.size := by
  induction d with
  | zero => intro c v B h; exact h.elim
  | succ d ih =>
    intro c v B h b hb
    obtain ⟨_, _, Bs, Bk, Bl, ht, hk, hl, rfl, _⟩ := h
    rw [List.mem_append, List.mem_append] at hb
    rcases hb with hb | hb | hb
    · exact ht.lt b hb
    · exact hk.lt b hb
    · rcases hl with ⟨_, _, rfl⟩ | ⟨g, cap, cur, Bi, _, h2, _, _, _, h6, h7, rfl, _⟩
      · simp at hb
      · rcases List.mem_cons.1 hb with rfl | hb
        · exact (Array.getElem?_eq_some_iff.1 h2).1
        · obtain ⟨q, hq, hbq⟩ := List.mem_flatten.1 hb
          obtain ⟨i, hi, rfl⟩ := List.getElem_of_mem hq
          obtain ⟨e, _, hv⟩ := h7 i (by omega)
          exact ih hv b (by simpa [List.getD_eq_getElem?_getD, hi] using hbq)

theorem VOwn.agree {w w' : World} (d : Nat) : ∀ {c : Value × Value × Value × Value × Value} {v : Vl d} {B : List Nat}, VOwn w d c v B → Agree (fun b => b ∈ B) w w' → VOwn w' d c v B := by
  induction d with
  | zero => intro c v B h _; exact h.elim
  | succ d ih =>
    intro c v B h ha
    obtain ⟨e0, e1, Bs, Bk, Bl, ht, hk, hl, rfl, hn⟩ := h
    refine ⟨e0, e1, Bs, Bk, Bl, ht.agree fun b hb => ha b (by simp [hb]), hk.agree fun b hb => ha b (by simp [hb]), ?_, rfl, hn⟩
    rcases hl with h0 | ⟨g, cap, cur, Bi, h1, h2, h3, h4, h5, h6, h7, rfl, h9⟩
    · exact .inl h0
    · refine .inr ⟨g, cap, cur, Bi, h1, (ha g (by simp)).trans h2, h3, h4, h5, h6, fun i hi => ?_, rfl, h9⟩
      obtain ⟨e, he, hv⟩ := h7 i hi
      exact ⟨e, he, ih hv fun b hb => ha b (by have := flatten_mem_getD (Bs := Bi) (by omega) hb; simp only [List.mem_append, List.mem_cons]; exact .inr (.inr (.inr this)))⟩

theorem LOwn.agree {w w' : World} {d : Nat} {x : Value} {l : List (Vl d)} {B : List Nat} (h : LOwn w d x l B) (ha : Agree (fun b => b ∈ B) w w') : LOwn w' d x l B := by
  rcases h with h0 | ⟨g, cap, cur, Bi, h1, h2, h3, h4, h5, h6, h7, rfl, h9⟩
  · exact .inl h0
  · refine .inr ⟨g, cap, cur, Bi, h1, (ha g (by simp)).trans h2, h3, h4, h5, h6, fun i hi => ?_, rfl, h9⟩
    obtain ⟨e, he, hv⟩ := h7 i hi
    exact ⟨e, he, VOwn.agree d hv fun b hb => ha b (List.mem_cons_of_mem _ (flatten_mem_getD (by omega) hb))⟩

theorem KSeg.mono {R R' : Nat → Prop} {w : World} {v : Value} {ks : List (List Int)} (h : KSeg R w v ks) (hr : ∀ b, R b → R' b) : KSeg R' w v ks := by
  obtain ⟨a, cap, h1, h2, h3, h4, h5⟩ := h
  refine ⟨a, cap, h1, h2, h3, h4, ?_⟩
  rcases h5 with h0 | ⟨b, off, e, hb, hc⟩
  · exact .inl h0
  · refine .inr ⟨b, off, e, hr b hb, fun i hi => ?_⟩
    obtain ⟨u, hu, ht⟩ := hc i hi
    exact ⟨u, hu, ht.mono hr⟩

theorem VSeg.mono {R R' : Nat → Prop} {w : World} (hr : ∀ b, R b → R' b) (d : Nat) : ∀ {c : Value × Value × Value × Value × Value} {v : Vl d}, VSeg R w d c v → VSeg R' w d c v := by
  induction d with
  | zero => intro c v h; exact h
  | succ d ih =>
    intro c v h
    obtain ⟨h0, h1, h2, h3, a, cap, g1, g2, g3, g4, g5⟩ := h
    refine ⟨h0, h1, h2.mono hr, h3.mono hr, a, cap, g1, g2, g3, g4, ?_⟩
    rcases g5 with e | ⟨b, off, hb, hR, hc⟩
    · exact .inl e
    · refine .inr ⟨b, off, hb, hr b hR, fun i hi => ?_⟩
      obtain ⟨e, he, hv⟩ := hc i hi
      exact ⟨e, he, ih hv⟩

theorem Cells5.five {w : World} {g : Nat} {cur : Array Value} (h : w.heap[g]? = some (.cells cur 29 (0, 0))) {j : Nat} {e : Value × Value × Value × Value × Value} (he : Cells5 cur j e) : Five w g j e := by
  obtain ⟨h0, h1, h2, h3, h4⟩ := he
  refine ⟨?_, ?_, ?_, ?_, ?_⟩ <;> rw [cell_of_row w g _ cur _ (0, 0) h] <;> assumption

theorem VOwn.seg {w : World} (d : Nat) : ∀ {c : Value × Value × Value × Value × Value} {v : Vl d} {B : List Nat}, VOwn w d c v B → VSeg (fun b => b ∈ B) w d c v := by
  induction d with
  | zero => intro c v B h; exact h
  | succ d ih =>
    intro c v B h
    obtain ⟨e0, e1, Bs, Bk, Bl, ht, hk, hl, rfl, _⟩ := h
    refine ⟨e0, e1, ht.seg.mono fun b hb => by simp [hb], hk.seg.mono fun b hb => by simp [hb], ?_⟩
    rcases hl with ⟨h1, h2, rfl⟩ | ⟨g, cap, cur, Bi, h1, h2, h3, h4, h5, h6, h7, rfl, h9⟩
    · exact ⟨none, 0, by rw [h1, h2]; rfl, by rw [h2]; exact Nat.le_refl _, Nat.zero_le _, fun _ => rfl, .inl h2⟩
    · refine ⟨some ⟨g, 0, none⟩, cap, h1, h3, h4, by simp, .inr ⟨g, 0, rfl, by simp, fun i hi => ?_⟩⟩
      obtain ⟨e, he, hv⟩ := h7 i hi
      refine ⟨e, by rw [Nat.zero_add]; exact he.five h2, VSeg.mono (fun b hb => ?_) d (ih hv)⟩
      have := flatten_mem_getD (Bs := Bi) (by omega) hb
      simp only [List.mem_append, List.mem_cons]
      exact .inr (.inr (.inr this))

end Go.Proofs.YteafpgaefphkfaaGreatDoor
/-
  szStep, szStepS of the laws: what is left of a bound behind a path's weight, or -1.
-/
namespace Go.Proofs.YteafpgaefphkfaaGreatDoor
open Go.RowKit
set_option linter.unusedVariables false

end Go.Proofs.YteafpgaefphkfaaGreatDoor
/-
  toValueS and toValue of the laws: they make a value of their own that holds what their argument holds, at every depth.
-/
namespace Go.Proofs.YteafpgaefphkfaaGreatDoor
open Go.RowKit
set_option linter.unusedVariables false

/-- Five cells stored one behind the other. -/
def set5 (w : World) (g j : Nat) (c0 c1 c2 c3 c4 : Value) : World :=
  ((((w.setCell ⟨g, j, none⟩ c0).setCell ⟨g, j + 1, none⟩ c1).setCell ⟨g, j + 2, none⟩ c2).setCell ⟨g, j + 3, none⟩ c3).setCell ⟨g, j + 4, none⟩ c4

/-- The array behind it. -/
def arrSet5 (cur : Array Value) (j : Nat) (c0 c1 c2 c3 c4 : Value) : Array Value :=
  ((((cur.setIfInBounds j c0).setIfInBounds (j + 1) c1).setIfInBounds (j + 2) c2).setIfInBounds (j + 3) c3).setIfInBounds (j + 4) c4

theorem set5_heap {w : World} {g j : Nat} {cur : Array Value} {T : TypeId} (c0 c1 c2 c3 c4 : Value) (h : w.heap[g]? = some (.cells cur T (0, 0))) :
    (set5 w g j c0 c1 c2 c3 c4).heap[g]? = some (.cells (arrSet5 cur j c0 c1 c2 c3 c4) T (0, 0)) :=
  heap_setCell_same _ g (j + 4) _ T c4 (heap_setCell_same _ g (j + 3) _ T c3 (heap_setCell_same _ g (j + 2) _ T c2 (heap_setCell_same _ g (j + 1) _ T c1 (heap_setCell_same w g j cur T c0 h))))

theorem set5_other (w : World) (g j : Nat) (c0 c1 c2 c3 c4 : Value) (b : Nat) (hb : b ≠ g) : (set5 w g j c0 c1 c2 c3 c4).heap[b]? = w.heap[b]? := by
  unfold set5
  rw [Below.heap_setCell _ _ _ b hb, Below.heap_setCell _ _ _ b hb, Below.heap_setCell _ _ _ b hb, Below.heap_setCell _ _ _ b hb, Below.heap_setCell _ _ _ b hb]

theorem set5_size (w : World) (g j : Nat) (c0 c1 c2 c3 c4 : Value) : (set5 w g j c0 c1 c2 c3 c4).heap.size = w.heap.size := by simp [set5, World.setCell]

theorem set5_grown (w : World) (g j : Nat) (c0 c1 c2 c3 c4 : Value) : w.grownBy (set5 w g j c0 c1 c2 c3 c4) (some g) :=
  grownBy_trans (grownBy_trans (grownBy_trans (grownBy_trans (grown1 _ _ _ _) (grown1 _ _ _ _)) (grown1 _ _ _ _)) (grown1 _ _ _ _)) (grown1 _ _ _ _)

theorem arrSet5_size (cur : Array Value) (j : Nat) (c0 c1 c2 c3 c4 : Value) : (arrSet5 cur j c0 c1 c2 c3 c4).size = cur.size := by simp [arrSet5]

theorem VOwn.nodup {w : World} (d : Nat) {c : Value × Value × Value × Value × Value} {v : Vl d} {B : List Nat} (h : VOwn w d c v B) : B.Nodup := by
  cases d with
  | zero => exact h.elim
  | succ d =>
    obtain ⟨_, _, _, _, _, _, _, _, _, hn⟩ := h
    exact hn

/-- Of what shape the cells of a value are. -/
theorem VOwn.form {w : World} (d : Nat) {c0 c1 c2 c3 c4 : Value} {v : Vl d} {B : List Nat} (h : VOwn w d (c0, c1, c2, c3, c4) v B) :
    ∃ (k n : Int) (a2 : Option Addr) (l2 p2 : Nat) (a3 : Option Addr) (l3 p3 : Nat) (a4 : Option Addr) (l4 p4 : Nat), c0 = .int .i64 k ∧ c1 = .int .i64 n ∧ c2 = .slice a2 l2 p2 ∧ c3 = .slice a3 l3 p3 ∧ c4 = .slice a4 l4 p4 := by
  cases d with
  | zero => exact h.elim
  | succ d =>
    obtain ⟨e0, e1, Bs, Bk, Bl, ht, hk, hl, _, _⟩ := h
    obtain ⟨a2, p2, e2, _⟩ := ht.1.shape
    have e3 : ∃ (a3 : Option Addr) (l3 p3 : Nat), c3 = .slice a3 l3 p3 := by
      rcases hk with ⟨h1, _⟩ | ⟨g, cap, cur, Bs, h1, _⟩
      · exact ⟨_, _, _, h1⟩
      · exact ⟨_, _, _, h1⟩
    have e4 : ∃ (a4 : Option Addr) (l4 p4 : Nat), c4 = .slice a4 l4 p4 := by
      rcases hl with ⟨h1, _⟩ | ⟨g, cap, cur, Bs, h1, _⟩
      · exact ⟨_, _, _, h1⟩
      · exact ⟨_, _, _, h1⟩
    obtain ⟨a3, l3, p3, e3⟩ := e3
    obtain ⟨a4, l4, p4, e4⟩ := e4
    exact ⟨_, _, _, _, _, _, _, _, _, _, _, e0, e1, e2, e3, e4⟩

/-- The cells of a block of five that is known. -/
theorem row5 {w : World} {g : Nat} {T : TypeId} {c0 c1 c2 c3 c4 : Value} (h : w.heap[g]? = some (.cells #[c0, c1, c2, c3, c4] T (0, 0))) :
    w.cell? ⟨g, 0, none⟩ = some c0 ∧ w.cell? ⟨g, 1, none⟩ = some c1 ∧ w.cell? ⟨g, 2, none⟩ = some c2 ∧ w.cell? ⟨g, 3, none⟩ = some c3 ∧ w.cell? ⟨g, 4, none⟩ = some c4 ∧ ∀ j, w.frozen? ⟨g, j, none⟩ = false := by
  refine ⟨?_, ?_, ?_, ?_, ?_, fun j => frozen_of_row w g j _ T h⟩ <;> rw [cell_of_row w g _ _ T (0, 0) h] <;> rfl

end Go.Proofs.YteafpgaefphkfaaGreatDoor
