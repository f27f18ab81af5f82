/-
  Texts that a law leans on, one behind the other; no statement is proved here.
-/
import Derived.Test.YtcgmfmdoconecaaDoorPk3
import Derived.Test.YtcgmfmdoconecaaDoorPk1
import Derived.Test.YtcgmfmdoconecaaDoorPk0
import Derived.Sort.Walk0
import Derived.Lib.SlicesCompact
import Derived.Maps.AppendAt
/-
  What an expression that may be is, by its depth: 'goodE'; how many parts it has: 'partsV'; what the specification's l6expr answers: 'okE'. Plain mathematics.
-/
namespace Go.Proofs.YtcgmfmdoconecaaDoor
open Go.RowKit
set_option linter.unusedVariables false
set_option linter.unusedSimpArgs false

/-- How many kids a kind has; -1: any. -/
def arI (k : Int) : Int := if k = 4 ∨ k = 5 ∨ k = 23 then -1 else if k = 8 ∨ k = 13 ∨ k = 14 then 1 else if k = 9 ∨ (15 ≤ k ∧ k ≤ 21) then 2 else if k = 22 then 3 else 0
/-- The greatest N of a kind. -/
def mostI (k : Int) : Int := if k = 1 then 1 else if k = 2 then 1000000000000 else 0
/-- What the S of a kind is: 0 nothing, 1 a text, 2 a name, 3 a word. -/
def saysI (k : Int) : Int := if k = 3 then 1 else if k = 6 ∨ k = 8 then 2 else if k = 7 ∨ k = 23 then 3 else 0
/-- The names that are kept. -/
def keptS : List ByteArray := [⟨#[110, 117, 108, 108]⟩, ⟨#[116, 114, 117, 101]⟩, ⟨#[102, 97, 108, 115, 101]⟩, ⟨#[105, 110, 100, 101, 120]⟩, ⟨#[107, 101, 121]⟩, ⟨#[118, 97, 108]⟩, ⟨#[108, 111, 99, 97, 108]⟩, ⟨#[114, 101, 115]⟩, ⟨#[111, 117, 116]⟩, ⟨#[99, 111, 117, 110, 116]⟩, ⟨#[101, 97, 99, 104]⟩]
def keptB (s : List Int) : Bool := keptS.any fun u => (strOf s).toList == u.toList
/-- A word. -/
def wordB (s : List Int) : Bool := nameB s && !keptB s
def saysB (c : Int) (s : List Int) : Bool := if c = 1 then textB s else if c = 2 then nameB s else if c = 3 then wordB s else decide (s.length = 0)
/-- The keys of a kind. -/
def keysB (k : Int) (K : List (List Int)) (nL : Nat) : Bool := if k = 5 then decide (K.length = nL) && ascB K else decide (K.length = 0)
/-- The kids of a kind. -/
def kidsB (k : Int) (nL : Nat) : Bool := decide (arI k = -1) || decide (arI k = nL)
/-- The rules of one part by itself. -/
def shpB (k n : Int) (s : List Int) (K : List (List Int)) (nL : Nat) : Bool :=
  decide (0 ≤ k) && decide (k ≤ 23) && keysB k K nL && kidsB k nL && decide (0 ≤ n) && decide (n ≤ mostI k) && saysB (saysI k) s

/-- The rules of all parts, and of the depth. -/
def goodE : (d : Nat) → Vl d → Nat → Bool
  | 0, _, _ => false
  | d + 1, v, deep => decide (deep ≤ 10) && (shpB v.1 v.2.1 v.2.2.1 v.2.2.2.1 v.2.2.2.2.length && v.2.2.2.2.all fun x => goodE d x (deep + 1))

/-- How many parts. -/
def partsE : (d : Nat) → Vl d → Nat
  | 0, _ => 0
  | d + 1, v => 1 + (v.2.2.2.2.map (partsE d)).sum

/-- What l6expr answers. -/
def okE (d : Nat) (v : Vl d) (deep : Nat) (left : Int) : Int := if goodE d v deep = true ∧ (partsE d v : Int) ≤ left then left - partsE d v else -1

theorem okE_yes {d : Nat} {v : Vl d} {deep : Nat} {left : Int} (h : goodE d v deep = true) (h2 : (partsE d v : Int) ≤ left) : okE d v deep left = left - partsE d v := by simp [okE, h, h2]
theorem okE_no {d : Nat} {v : Vl d} {deep : Nat} {left : Int} (h : ¬ (goodE d v deep = true ∧ (partsE d v : Int) ≤ left)) : okE d v deep left = -1 := by simp only [okE, h, if_false]

theorem goodE_succ (d : Nat) (vk vn : Int) (vs : List Int) (vK : List (List Int)) (vL : List (Vl d)) (deep : Nat) :
    goodE (d + 1) (vk, vn, vs, vK, vL) deep = true ↔ deep ≤ 10 ∧ shpB vk vn vs vK vL.length = true ∧ ∀ j (h : j < vL.length), goodE d vL[j] (deep + 1) = true := by
  show (decide (deep ≤ 10) && (shpB vk vn vs vK vL.length && vL.all fun x => goodE d x (deep + 1))) = true ↔ _
  simp only [Bool.and_eq_true, decide_eq_true_eq, List.all_eq_true]
  constructor
  · rintro ⟨h1, h2, h3⟩
    exact ⟨h1, h2, fun j h => h3 _ (List.getElem_mem h)⟩
  · rintro ⟨h1, h2, h3⟩
    refine ⟨h1, h2, fun x hx => ?_⟩
    obtain ⟨j, h, rfl⟩ := List.getElem_of_mem hx
    exact h3 j h

theorem partsE_succ (d : Nat) (vk vn : Int) (vs : List Int) (vK : List (List Int)) (vL : List (Vl d)) : partsE (d + 1) (vk, vn, vs, vK, vL) = 1 + pre (partsE d) vL vL.length := by
  rw [pre_all]
  rfl

theorem partsE_pos (d : Nat) (v : Vl (d + 1)) : 1 ≤ partsE (d + 1) v := by
  obtain ⟨vk, vn, vs, vK, vL⟩ := v
  rw [partsE_succ]
  omega

theorem okE_left {d : Nat} (v : Vl (d + 1)) (deep : Nat) {left : Int} (h : left < 1) : okE (d + 1) v deep left = -1 :=
  okE_no fun ⟨_, h2⟩ => by have := partsE_pos d v; omega

theorem okE_deep {d : Nat} (v : Vl (d + 1)) {deep : Nat} (left : Int) (h : 10 < deep) : okE (d + 1) v deep left = -1 := by
  obtain ⟨vk, vn, vs, vK, vL⟩ := v
  exact okE_no fun ⟨h1, _⟩ => by have := ((goodE_succ _ _ _ _ _ _ _).1 h1).1; omega

theorem okE_shape {d : Nat} {vk vn : Int} {vs : List Int} {vK : List (List Int)} {vL : List (Vl d)} (deep : Nat) (left : Int) (h : shpB vk vn vs vK vL.length = false) : okE (d + 1) (vk, vn, vs, vK, vL) deep left = -1 :=
  okE_no fun ⟨h1, _⟩ => by have := ((goodE_succ _ _ _ _ _ _ _).1 h1).2.1; rw [h] at this; simp at this

theorem okE_kid {d : Nat} {vk vn : Int} {vs : List Int} {vK : List (List Int)} {vL : List (Vl d)} {deep : Nat} {left : Int} {k : Nat} (hk : k < vL.length)
    (h : ¬ (goodE d vL[k] (deep + 1) = true ∧ (partsE d vL[k] : Int) ≤ left - 1 - pre (partsE d) vL k)) : okE (d + 1) (vk, vn, vs, vK, vL) deep left = -1 := by
  refine okE_no fun ⟨h1, h2⟩ => h ⟨((goodE_succ _ _ _ _ _ _ _).1 h1).2.2 k hk, ?_⟩
  rw [partsE_succ] at h2
  have h3 := pre_succ (partsE d) vL k hk
  have h4 := pre_le (partsE d) vL (k + 1)
  have h5 := pre_all (partsE d) vL
  omega

theorem okE_all {d : Nat} {vk vn : Int} {vs : List Int} {vK : List (List Int)} {vL : List (Vl d)} {deep : Nat} {left : Int} (h1 : deep ≤ 10) (h2 : shpB vk vn vs vK vL.length = true)
    (h3 : ∀ j (h : j < vL.length), goodE d vL[j] (deep + 1) = true) (h4 : (pre (partsE d) vL vL.length : Int) ≤ left - 1) : okE (d + 1) (vk, vn, vs, vK, vL) deep left = left - 1 - pre (partsE d) vL vL.length := by
  rw [okE_yes ((goodE_succ _ _ _ _ _ _ _).2 ⟨h1, h2, h3⟩) (by rw [partsE_succ]; omega), partsE_succ]
  omega

/-- What holds ahead of the round k of l6expr. -/
def E6K (d : Nat) (vL : List (Vl d)) (deep : Nat) (left : Int) (k : Nat) (l : Value) : Prop :=
  k ≤ vL.length ∧ l = .int .i64 (left - 1 - pre (partsE d) vL k) ∧ (pre (partsE d) vL k : Int) ≤ left - 1 ∧ ∀ j (h : j < vL.length), j < k → goodE d vL[j] (deep + 1) = true

theorem E6K_zero {d : Nat} {vL : List (Vl d)} {deep : Nat} {left : Int} (h : 1 ≤ left) : E6K d vL deep left 0 (.int .i64 (left - 1)) :=
  ⟨Nat.zero_le _, by rw [pre_zero]; simp, by rw [pre_zero]; simp; omega, fun j _ h => by omega⟩

theorem E6K_succ {d : Nat} {vL : List (Vl d)} {deep : Nat} {left : Int} {k : Nat} {l : Value} (h : E6K d vL deep left k l) (hk : k < vL.length) (hg : goodE d vL[k] (deep + 1) = true) (hp : (partsE d vL[k] : Int) ≤ left - 1 - pre (partsE d) vL k) :
    E6K d vL deep left (k + 1) (.int .i64 (left - 1 - pre (partsE d) vL k - partsE d vL[k])) := by
  have h3 := pre_succ (partsE d) vL k hk
  refine ⟨hk, by rw [h3]; simp; omega, by rw [h3]; simp; omega, fun j hj hjk => ?_⟩
  by_cases e : j = k
  · subst e; exact hg
  · exact h.2.2.2 j hj (by omega)

/-- What ExprOk answers. -/
def exprB (d : Nat) (v : Vl d) : Bool := goodE d v 1 && decide (partsE d v ≤ 150)

theorem okE_exprB (d : Nat) (v : Vl d) : (exprB d v = true → 0 ≤ okE d v 1 150 ∧ okE d v 1 150 ≤ 150) ∧ (exprB d v = false → okE d v 1 150 = -1) := by
  constructor
  · intro h
    simp [exprB] at h
    rw [okE_yes h.1 (by omega)]
    omega
  · intro h
    refine okE_no fun ⟨h1, h2⟩ => ?_
    simp [exprB, h1] at h
    omega
end Go.Proofs.YtcgmfmdoconecaaDoor
/-
  The order of texts, as the specification asks it: l2bytes.
-/
namespace Go.Proofs.YtcgmfmdoconecaaDoor
open Go.RowKit
set_option linter.unusedVariables false
set_option linter.unusedSimpArgs false

/-- The order of two texts. -/
def bytesC (xs ys : List Int) : Int := Lib.compareBytes (u8s xs) (u8s ys)

theorem cmp_swap : ∀ (a b : List UInt8), Lib.compareBytes b a = - Lib.compareBytes a b
  | [], [] => by simp [Lib.compareBytes]
  | [], _ :: _ => by simp [Lib.compareBytes]
  | _ :: _, [] => by simp [Lib.compareBytes]
  | x :: a, y :: b => by
    have ih := cmp_swap a b
    unfold Lib.compareBytes
    by_cases h1 : x < y
    · have h2 : ¬ y < x := fun h => absurd (UInt8.lt_trans h1 h) (UInt8.lt_irrefl _)
      have h3 : ¬ x = y := fun e => by subst e; exact absurd h1 (UInt8.lt_irrefl _)
      have h4 : ¬ y = x := fun e => h3 e.symm
      simp [h1, h2, h3, h4]
    · by_cases h2 : y < x
      · have h3 : ¬ x = y := fun e => by subst e; exact absurd h2 (UInt8.lt_irrefl _)
        have h4 : ¬ y = x := fun e => h3 e.symm
        simp [h1, h2, h3, h4]
      · have h3 : x = y := UInt8.le_antisymm (UInt8.not_lt.1 h2) (UInt8.not_lt.1 h1)
        subst h3
        simp [h1, ih]

theorem less_ab (xs ys : List Int) : Op.bytesLess (strOf xs).toList (strOf ys).toList = decide (bytesC xs ys < 0) := by rw [strOf_list, strOf_list, less_cmp]; rfl
theorem less_ba (xs ys : List Int) : Op.bytesLess (strOf ys).toList (strOf xs).toList = decide (0 < bytesC xs ys) := by
  rw [strOf_list, strOf_list, less_cmp, cmp_swap]
  show decide (-(bytesC xs ys) < 0) = _
  by_cases h : 0 < bytesC xs ys
  · simp [h]
  · simp [h]
theorem cmp_zero : ∀ (a b : List UInt8), Lib.compareBytes a b = 0 ↔ a = b
  | [], [] => by simp [Lib.compareBytes]
  | [], _ :: _ => by simp [Lib.compareBytes]
  | _ :: _, [] => by simp [Lib.compareBytes]
  | x :: a, y :: b => by
    have ih := cmp_zero a b
    unfold Lib.compareBytes
    by_cases h1 : x < y
    · have h3 : ¬ x = y := fun e => by subst e; exact absurd h1 (UInt8.lt_irrefl _)
      simp [h1, h3]
    · by_cases h2 : y < x
      · have h3 : ¬ x = y := fun e => by subst e; exact absurd h2 (UInt8.lt_irrefl _)
        simp [h1, h2, h3]
      · have h3 : x = y := UInt8.le_antisymm (UInt8.not_lt.1 h2) (UInt8.not_lt.1 h1)
        subst h3
        simp [h1, ih]
theorem same_ab (xs ys : List Int) : ((strOf xs).toList == (strOf ys).toList) = decide (bytesC xs ys = 0) := by
  rw [strOf_list, strOf_list]
  have h := cmp_zero (u8s xs) (u8s ys)
  show _ = decide (Lib.compareBytes (u8s xs) (u8s ys) = 0)
  by_cases e : u8s xs = u8s ys
  · simp [e, h.2 e]
    exact (cmp_zero _ _).2 rfl
  · have : ¬ Lib.compareBytes (u8s xs) (u8s ys) = 0 := fun k => e (h.1 k)
    simp [e, this]
theorem bytesC_cases (xs ys : List Int) : bytesC xs ys = -1 ∨ bytesC xs ys = 0 ∨ bytesC xs ys = 1 := by
  have := cmp_range (u8s xs) (u8s ys)
  have e : bytesC xs ys = Lib.compareBytes (u8s xs) (u8s ys) := rfl
  omega

set_option maxHeartbeats 800000 in
theorem l2bytes_any (a b : Option Addr) (c1 c2 : Nat) (xs ys : List Int) (w : World) (ha : Seg w a xs) (hb : Seg w b ys) :
    Calls Tryd.prog 41 #[.slice a xs.length c1, .slice b ys.length c2] w fun e w' => e = .returned (.int .i64 (bytesC xs ys)) ∧ w = w' := by
  have k1 := conv_seg c1 ha
  have k2 := conv_seg c2 hb
  have l1 := less_ab xs ys
  have l2 := less_ba xs ys
  have l3 := same_ab xs ys
  rcases bytesC_cases xs ys with h | h | h
  · rw [h] at l1 l2 l3
    simp only [Int.reduceNeg, Int.reduceLT, Int.reduceEq, decide_true, decide_false, Int.lt_irrefl] at l1 l2 l3
    have HO := hide' h
    clear h
    go_enter Tryd.func41, Tryd.ntmps41
    go_wp2
    go_ret
    exact ⟨ret_i64 (by rw [HO.out]), rfl⟩
  · rw [h] at l1 l2 l3
    simp only [Int.reduceNeg, Int.reduceLT, Int.reduceEq, decide_true, decide_false, Int.lt_irrefl] at l1 l2 l3
    have HO := hide' h
    clear h
    go_enter Tryd.func41, Tryd.ntmps41
    go_wp2
    go_ret
    exact ⟨ret_i64 (by rw [HO.out]), rfl⟩
  · rw [h] at l1 l2 l3
    simp only [Int.reduceNeg, Int.reduceLT, Int.reduceEq, decide_true, decide_false, Int.lt_irrefl] at l1 l2 l3
    have HO := hide' h
    clear h
    go_enter Tryd.func41, Tryd.ntmps41
    go_wp2
    go_ret
    exact ⟨ret_i64 (by rw [HO.out]), rfl⟩

end Go.Proofs.YtcgmfmdoconecaaDoor
/-
  The names that parts of a kind have, in order, each once: as the specification puts them in ('insN'), and as the program sorts them and leaves out what stands twice. Plain mathematics.
-/
namespace Go.Proofs.YtcgmfmdoconecaaDoor
open Go.RowKit
set_option linter.unusedVariables false
set_option linter.unusedSimpArgs false

/-- The names of all parts of a kind, ahead of their kids'. -/
def rawN (k : Int) : (d : Nat) → Vl d → List (List Int)
  | 0, _ => []
  | d + 1, v => (if v.1 = k then [v.2.2.1] else []) ++ (v.2.2.2.2.map (rawN k d)).flatten

/-- A name put where it belongs, once; 'put': it is there already. -/
def insA (w : List Int) : Bool → List (List Int) → List (List Int)
  | put, [] => if put then [] else [w]
  | put, x :: r => (if !put && decide (bytesC w x ≤ 0) then [w] else []) ++ ((if bytesC w x ≠ 0 then [x] else []) ++ insA w (put || decide (bytesC w x ≤ 0)) r)
def insN (l : List (List Int)) (w : List Int) : List (List Int) := insA w false l

/-- The names of an expression that may be. -/
def namesE (k : Int) (d : Nat) (v : Vl d) : List (List Int) := if exprB d v = true then (rawN k d v).foldl insN [] else []

theorem lt_of_cmp {a b : List UInt8} : Lib.compareBytes a b < 0 ↔ a < b := by
  have h1 := less_cmp a b
  have h2 := bytesLess_eq a b
  rw [h1] at h2
  simpa using h2
theorem gt_of_cmp {a b : List UInt8} : 0 < Lib.compareBytes a b ↔ b < a := by
  rw [← lt_of_cmp, cmp_swap]
  omega

/-- The same, of texts as the run-time has them. -/
def insU (w : List UInt8) : List (List UInt8) → List (List UInt8)
  | [] => [w]
  | x :: r => if w < x then w :: x :: r else if x < w then x :: insU w r else x :: r

abbrev AscU (l : List (List UInt8)) : Prop := l.Pairwise (· < ·)

theorem u_trans {a b c : List UInt8} (h : a < b) (k : b < c) : a < c := List.lt_trans h k
theorem u_irrefl (a : List UInt8) : ¬ a < a := List.lt_irrefl a
theorem u_same {a b : List UInt8} (h : ¬ a < b) (k : ¬ b < a) : a = b := List.le_antisymm k h

theorem insA_true (w : List Int) : ∀ (l : List (List Int)), (∀ x ∈ l, u8s w < u8s x) → insA w true l = l
  | [], _ => rfl
  | x :: r, h => by
    have h1 : bytesC w x < 0 := lt_of_cmp.2 (h x (by simp))
    have h2 : ¬ bytesC w x = 0 := by omega
    simp only [insA, Bool.not_true, Bool.false_and, Bool.true_or]
    rw [insA_true w r fun y hy => h y (by simp [hy])]
    simp [h2]

theorem insN_map (w : List Int) : ∀ (l : List (List Int)), AscU (l.map u8s) → (insA w false l).map u8s = insU (u8s w) (l.map u8s)
  | [], _ => rfl
  | x :: r, h => by
    rw [List.map_cons, AscU, List.pairwise_cons] at h
    obtain ⟨h1, h2⟩ := h
    have h1' : ∀ y ∈ r, u8s x < u8s y := fun y hy => h1 _ (List.mem_map.2 ⟨y, hy, rfl⟩)
    simp only [insA, List.map_cons, insU]
    by_cases hlt : u8s w < u8s x
    · have c1 : bytesC w x < 0 := lt_of_cmp.2 hlt
      have c2 : ¬ bytesC w x = 0 := by omega
      have c3 : bytesC w x ≤ 0 := by omega
      simp only [Bool.not_false, Bool.true_and, Bool.false_or, decide_eq_true c3, if_true, c2, ne_eq, not_false_eq_true, hlt]
      rw [insA_true w r fun y hy => u_trans hlt (h1' y hy)]
      simp
    · by_cases hgt : u8s x < u8s w
      · have c1 : 0 < bytesC w x := gt_of_cmp.2 hgt
        have c2 : ¬ bytesC w x = 0 := by omega
        have c3 : ¬ bytesC w x ≤ 0 := by omega
        simp only [Bool.not_false, Bool.true_and, Bool.false_or, decide_eq_false c3, c2, ne_eq, not_false_eq_true, hlt, hgt, if_true, if_false]
        have ih := insN_map w r h2
        simp [ih]
      · have he : u8s w = u8s x := u_same hlt hgt
        have c2 : bytesC w x = 0 := (cmp_zero _ _).2 he
        have c3 : bytesC w x ≤ 0 := by omega
        rw [decide_eq_true c3]
        simp only [Bool.not_false, Bool.true_and, Bool.false_or, if_true, c2, ne_eq, not_true_eq_false, if_false, hlt, hgt]
        rw [insA_true w r fun y hy => by rw [he]; exact h1' y hy]
        simp [he]

theorem mem_insU (w : List UInt8) : ∀ (l : List (List UInt8)) (x : List UInt8), x ∈ insU w l ↔ x = w ∨ x ∈ l
  | [], x => by simp [insU]
  | y :: r, x => by
    unfold insU
    split
    · simp
    split
    · rw [List.mem_cons, mem_insU w r x, List.mem_cons]
      constructor
      · rintro (h | h | h)
        · exact .inr (.inl h)
        · exact .inl h
        · exact .inr (.inr h)
      · rintro (h | h | h)
        · exact .inr (.inl h)
        · exact .inl h
        · exact .inr (.inr h)
    · next h1 h2 =>
      have he := u_same h1 h2
      rw [List.mem_cons, he]
      constructor
      · rintro (h | h)
        · exact .inl h
        · exact .inr (.inr h)
      · rintro (h | h | h)
        · exact .inl h
        · exact .inl h
        · exact .inr h

theorem asc_insU (w : List UInt8) : ∀ (l : List (List UInt8)), AscU l → AscU (insU w l)
  | [], _ => by simp [insU, AscU]
  | y :: r, h => by
    have h' := h
    rw [AscU, List.pairwise_cons] at h
    obtain ⟨h1, h2⟩ := h
    unfold insU
    split
    · next hlt =>
      rw [AscU, List.pairwise_cons]
      refine ⟨fun z hz => ?_, h'⟩
      rcases List.mem_cons.1 hz with rfl | hz
      · exact hlt
      · exact u_trans hlt (h1 z hz)
    split
    · next hgt =>
      rw [AscU, List.pairwise_cons]
      refine ⟨fun z hz => ?_, asc_insU w r h2⟩
      rcases (mem_insU w r z).1 hz with rfl | hz
      · exact hgt
      · exact h1 z hz
    · exact h'

theorem fold_u8s : ∀ (r : List (List Int)) (l : List (List Int)), AscU (l.map u8s) → AscU ((r.foldl insN l).map u8s) ∧ ∀ x, x ∈ (r.foldl insN l).map u8s ↔ x ∈ r.map u8s ∨ x ∈ l.map u8s
  | [], l, h => ⟨h, fun x => by simp⟩
  | w :: r, l, h => by
    have e : (insN l w).map u8s = insU (u8s w) (l.map u8s) := insN_map w l h
    have ha : AscU ((insN l w).map u8s) := by rw [e]; exact asc_insU _ _ h
    obtain ⟨i1, i2⟩ := fold_u8s r (insN l w) ha
    refine ⟨i1, fun x => ?_⟩
    rw [List.foldl_cons, i2 x, e, mem_insU, List.map_cons, List.mem_cons]
    constructor
    · rintro (h | h | h)
      · exact .inl (.inr h)
      · exact .inl (.inl h)
      · exact .inr h
    · rintro ((h | h) | h)
      · exact .inr (.inl h)
      · exact .inl h
      · exact .inr (.inr h)

theorem asc_unique {l l' : List (List UInt8)} (h : AscU l) (h' : AscU l') (hm : ∀ x, x ∈ l ↔ x ∈ l') : l = l' := by
  have nd : ∀ {m : List (List UInt8)}, AscU m → m.Nodup := fun {m} hm => by
    refine List.Pairwise.imp (R := fun a b => a < b) (S := fun a b => a ≠ b) ?_ hm
    intro a b hab e
    subst e
    exact u_irrefl a hab
  have hp : l.Perm l' := (List.perm_ext_iff_of_nodup (nd h) (nd h')).2 hm
  exact List.Perm.eq_of_pairwise (le := fun a b => a < b) (fun a b _ _ h1 h2 => absurd (u_trans h1 h2) (u_irrefl a)) h h' hp

/-- Of a list in order, what stands twice left out: in order, each once. -/
theorem compact_asc (zs : List (List UInt8)) (h : zs.Pairwise (· ≤ ·)) : AscU (Lib.compact zs) ∧ ∀ x, x ∈ Lib.compact zs ↔ x ∈ zs := by
  have key : ∀ m, m ≤ zs.length → AscU (Lib.compactUpTo zs.toArray m) ∧ (∀ x, x ∈ Lib.compactUpTo zs.toArray m ↔ x ∈ zs.take m) := by
    intro m
    induction m with
    | zero => intro _; exact ⟨by simp [Lib.compactUpTo, AscU], fun x => by simp [Lib.compactUpTo]⟩
    | succ m ih =>
      intro hm
      obtain ⟨i1, i2⟩ := ih (by omega)
      have hg : zs.toArray[m]! = zs[m] := by simp [getElem!_pos, show m < zs.length by omega]
      have hpw := List.pairwise_iff_getElem.1 h
      rw [Lib.compactUpTo_succ, List.take_succ_eq_append_getElem (by omega), hg]
      by_cases hk : Lib.keeps zs.toArray m = true
      · rw [if_pos hk]
        refine ⟨?_, fun x => by rw [List.mem_append, List.mem_append, i2 x]⟩
        rw [AscU, List.pairwise_append]
        refine ⟨i1, by simp, fun a ha b hb => ?_⟩
        have hb' : b = zs[m] := by simpa using hb
        subst hb'
        obtain ⟨j, hj, rfl⟩ := List.getElem_of_mem ((i2 a).1 ha)
        rw [List.length_take] at hj
        rw [List.getElem_take]
        have hjm : j < m := by omega
        have hne : zs[m] ≠ zs[m - 1] := by
          simp only [Lib.keeps, decide_eq_true_eq] at hk
          rcases hk with h0 | h0
          · omega
          · simpa [getElem!_pos, show m < zs.length by omega, show m - 1 < zs.length by omega] using h0
        have h2 : zs[m - 1] ≤ zs[m] := hpw (m - 1) m (by omega) (by omega) (by omega)
        have h3 : zs[m - 1] < zs[m] := by
          rcases Classical.em (zs[m - 1] < zs[m]) with h4 | h4
          · exact h4
          · exact absurd (u_same h2 h4) hne
        by_cases hj1 : j = m - 1
        · subst hj1; exact h3
        · have h5 : zs[j] ≤ zs[m - 1] := hpw j (m - 1) (by omega) (by omega) (by omega)
          rcases Classical.em (zs[j] < zs[m - 1]) with h6 | h6
          · exact u_trans h6 h3
          · rw [u_same h6 h5]; exact h3
      · have hk' : Lib.keeps zs.toArray m = false := by simpa using hk
        rw [if_neg hk]
        refine ⟨by rw [List.append_nil]; exact i1, fun x => ?_⟩
        rw [List.append_nil, List.mem_append, i2 x]
        simp only [Lib.keeps, decide_eq_false_iff_not] at hk'
        have hm0 : m ≠ 0 := fun e => hk' (.inl e)
        have heq : zs[m] = zs[m - 1] := by
          have h0 := Classical.not_not.1 fun e => hk' (.inr e)
          simpa [getElem!_pos, show m < zs.length by omega, show m - 1 < zs.length by omega] using h0
        constructor
        · exact .inl
        · rintro (h1 | h1)
          · exact h1
          · have : x = zs[m - 1] := by rw [← heq]; simpa using h1
            rw [this]
            exact List.mem_iff_getElem.2 ⟨m - 1, by simp; omega, by rw [List.getElem_take]⟩
  obtain ⟨k1, k2⟩ := key zs.length (Nat.le_refl _)
  exact ⟨k1, fun x => by rw [show Lib.compact zs = Lib.compactUpTo zs.toArray zs.length from rfl, k2 x, List.take_length]⟩

/-- What the program makes of the names is what the specification makes of them. -/
theorem names_same (r : List (List Int)) : Lib.compact ((r.map u8s).mergeSort fun x y => decide (x ≤ y)) = (r.foldl insN []).map u8s := by
  have tr : ∀ a b c : List UInt8, decide (a ≤ b) = true → decide (b ≤ c) = true → decide (a ≤ c) = true := fun a b c h1 h2 => by simp only [decide_eq_true_eq] at *; exact List.le_trans h1 h2
  have to : ∀ a b : List UInt8, (decide (a ≤ b) || decide (b ≤ a)) = true := fun a b => by simp only [Bool.or_eq_true, decide_eq_true_eq]; exact List.le_total a b
  have hs := List.pairwise_mergeSort tr to (r.map u8s)
  have hs' : ((r.map u8s).mergeSort fun x y => decide (x ≤ y)).Pairwise (· ≤ ·) := hs.imp fun h => by simpa using h
  obtain ⟨c1, c2⟩ := compact_asc _ hs'
  obtain ⟨f1, f2⟩ := fold_u8s r [] (by simp [AscU])
  refine asc_unique c1 f1 fun x => ?_
  rw [c2 x, f2 x]
  have := (List.mergeSort_perm (r.map u8s) fun x y => decide (x ≤ y)).mem_iff (a := x)
  rw [this]
  simp
end Go.Proofs.YtcgmfmdoconecaaDoor
/-
  Small laws on calls that turn nothing, on the box of a value, on lists of values; no statement is proved here.
-/
namespace Go.Proofs.YtcgmfmdoconecaaDoor
open Go.RowKit
set_option linter.unusedVariables false
set_option linter.unusedSimpArgs false

theorem quiet_same {P : Program} {f : FuncId} {args : Array Value} {w : World} {n : Nat} {v : Value}
    (h : Calls P f args (w.drewN n) fun e w' => e = .returned v ∧ w.drewN n = w') : Calls P f args (w.drewN n) fun e w'' => e = .returned v ∧ ∃ m, w'' = w.drewN m :=
  Calls.quiet_of_same (h.mono fun _ _ ⟨he, hm⟩ => ⟨he, hm.symm⟩)

/-- The box of a value that was handed in. -/
theorem box_row {w wr : World} {o : Obj} (h : Below (w.alloc o).heap.size (w.alloc o) wr) : wr.heap[w.heap.size]? = some o :=
  (h.block w.heap.size (by simp)).trans (MapKept.heap_alloc w o).1

theorem LSeg.at {N : Nat} {w wr : World} {d : Nat} {a : Option Addr} {n cap : Nat} {l : List (Vl d)} (h : LSeg (fun b => b < N) w d (.slice a n cap) l) (hb : Below w.heap.size w wr) (hN : N ≤ w.heap.size) {k : Nat} (hk : k < l.length) :
    ∃ b off c, a = some ⟨b, off, none⟩ ∧ Five wr b (off + k * 5) c ∧ ∀ wx, Below w.heap.size w wx → VSeg (fun b => b < N) wx d c (l[k]) := by
  obtain ⟨a', cap', h1, h2, h3, h4, h5⟩ := h
  simp only [Value.slice.injEq] at h1
  obtain ⟨rfl, _, _⟩ := h1
  rcases h5 with h0 | ⟨b, off, rfl, hR, hc⟩
  · subst h0; simp at hk
  · obtain ⟨c, h5, hv⟩ := hc k hk
    exact ⟨b, off, c, rfl, h5.agree (agree_below (hb.mono hN)) hR, fun wx hx => VSeg.agree (agree_below (hx.mono hN)) d hv⟩

theorem VSeg.form {R : Nat → Prop} {w : World} (d : Nat) {c0 c1 c2 c3 c4 : Value} {v : Vl d} (h : VSeg R w d (c0, c1, c2, c3, c4) v) :
    ∃ (k n : Int) (a2 : Option Addr) (l2 p2 : Nat) (a3 : Option Addr) (l3 p3 : Nat) (a4 : Option Addr) (l4 p4 : Nat), c0 = .int .i64 k ∧ c1 = .int .i64 n ∧ c2 = .slice a2 l2 p2 ∧ c3 = .slice a3 l3 p3 ∧ c4 = .slice a4 l4 p4 := by
  cases d with
  | zero => exact h.elim
  | succ d =>
    obtain ⟨e0, e1, ⟨a2, p2, e2, _⟩, ⟨a3, p3, e3, _⟩, a4, p4, e4, _⟩ := h
    exact ⟨_, _, _, _, _, _, _, _, _, _, _, e0, e1, e2, e3, e4⟩
end Go.Proofs.YtcgmfmdoconecaaDoor
/-
  A row of the call's own that holds texts which lie in old blocks: 'NR'; one text more behind it.
-/
namespace Go.Proofs.YtcgmfmdoconecaaDoor
open Go.RowKit
set_option linter.unusedVariables false
set_option linter.unusedSimpArgs false

/-- A row of the call's own, from block 'base' on; the texts that it holds lie below N. -/
def NR (N : Nat) (w : World) (base : Nat) (v : Value) (os : List (List Int)) : Prop :=
  ∃ us : List Value, us.length = os.length ∧ w.ownsRow base 22 1 v os.length us ∧ ∀ i, i < os.length → TSeg (fun b => b < N) w (us.getD i (.slice none 0 0)) (os.getD i [])

theorem NR.nil (N : Nat) (w : World) (base : Nat) : NR N w base (.slice none 0 0) [] := ⟨[], rfl, ⟨rfl, .inl ⟨rfl, rfl⟩⟩, fun i hi => by simp at hi⟩

theorem NR.below {N : Nat} {w w' : World} {base : Nat} {v : Value} {os : List (List Int)} (h : NR N w base v os) (hb : Below w.heap.size w w') (hN : N ≤ w.heap.size) : NR N w' base v os := by
  obtain ⟨us, h1, h2, h3⟩ := h
  refine ⟨us, h1, h2.kept (row := none) ⟨hb.os, hb.tape, hb.output, hb.size, fun k hk _ => hb.block k hk⟩ (by cases hv : v.ownBlock <;> simp), fun i hi => (h3 i hi).agree (agree_below (hb.mono hN))⟩

theorem NR.mono {N : Nat} {w : World} {base base' : Nat} {v : Value} {os : List (List Int)} (h : NR N w base v os) (hb : base' ≤ base) : NR N w base' v os := by
  obtain ⟨us, h1, ⟨h2, h3⟩, h4⟩ := h
  refine ⟨us, h1, ⟨h2, ?_⟩, h4⟩
  rcases h3 with h0 | ⟨g, cap, cur, e, hg, r⟩
  · exact .inl h0
  · exact .inr ⟨g, cap, cur, e, by omega, r⟩

theorem NR.shape {N : Nat} {w : World} {base : Nat} {v : Value} {os : List (List Int)} (h : NR N w base v os) : ∃ a cap, v = .slice a os.length cap := by
  obtain ⟨us, h1, ⟨h2, h3⟩, h4⟩ := h
  rcases h3 with ⟨rfl, h0⟩ | ⟨g, cap, cur, rfl, _⟩
  · exact ⟨none, 0, by rw [h0]⟩
  · exact ⟨_, _, rfl⟩

theorem NR.at {N : Nat} {w : World} {base : Nat} {a : Option Addr} {n cap : Nat} {os : List (List Int)} (h : NR N w base (.slice a n cap) os) {k : Nat} (hk : k < os.length) :
    ∃ g ua uc, a = some ⟨g, 0, none⟩ ∧ g < w.heap.size ∧ w.cell? ⟨g, k, none⟩ = some (.slice ua (os.getD k []).length uc) ∧ TSeg (fun b => b < N) w (.slice ua (os.getD k []).length uc) (os.getD k []) := by
  obtain ⟨us, h1, h2, h4⟩ := h
  have h2' := h2
  obtain ⟨_, h3⟩ := h2
  rcases h3 with ⟨e, h0⟩ | ⟨g, cap', cur, e, hg, hh, _⟩
  · omega
  · simp only [Value.slice.injEq] at e
    obtain ⟨rfl, rfl, rfl⟩ := e
    have hc := World.ownsRow.cellAt h2' k (by omega)
    have ht := h4 k hk
    obtain ⟨ua, uc, eu, r⟩ := ht
    have hk' : k < us.length := by omega
    have e2 : us[k]? = some (us.getD k (.slice none 0 0)) := by simp [List.getD_eq_getElem?_getD, hk']
    refine ⟨g, ua, uc, rfl, (Array.getElem?_eq_some_iff.1 hh).1, by rw [hc, e2, eu], ⟨ua, uc, rfl, r⟩⟩

/-- One text more. -/
theorem NR.add {N : Nat} {w w' : World} {base : Nat} {v v' u : Value} {os us : List (List Int)} {vs : List Value} {xs : List Int} (h1 : vs.length = os.length) (h3 : ∀ i, i < os.length → TSeg (fun b => b < N) w (vs.getD i (.slice none 0 0)) (os.getD i [])) (hown : w.ownsRow base 22 1 v os.length vs)
    (hu : TSeg (fun b => b < N) w u xs) (hown' : w'.ownsRow base 22 1 v' (os.length + 1) (vs ++ [u])) (hg : w.grownBy w' v.ownBlock) (hN : N ≤ base) (hbase : base ≤ w.heap.size) : NR N w' base v' (os ++ [xs]) ∧ Below base w w' := by
  have hB : Below base w w' := (Below.refl base w).grown hg hbase (fun j hj => (hown.lt j hj).1)
  have ag : Agree (fun b => b < N) w w' := agree_below (hB.mono hN)
  refine ⟨⟨vs ++ [u], by simp [h1], by simpa using hown', fun i hi => ?_⟩, hB⟩
  by_cases hin : i < os.length
  · have e1 : (vs ++ [u]).getD i (.slice none 0 0) = vs.getD i (.slice none 0 0) := by simp [List.getD_eq_getElem?_getD, List.getElem?_append_left (show i < vs.length by omega)]
    have e2 : (os ++ [xs]).getD i [] = os.getD i [] := by simp [List.getD_eq_getElem?_getD, List.getElem?_append_left hin]
    rw [e1, e2]
    exact (h3 i hin).agree ag
  · have hin' : i = os.length := by simp at hi; omega
    subst hin'
    have e1 : (vs ++ [u]).getD os.length (.slice none 0 0) = u := by rw [← h1]; simp [List.getD_eq_getElem?_getD]
    have e2 : (os ++ [xs]).getD os.length [] = xs := by simp [List.getD_eq_getElem?_getD]
    rw [e1, e2]
    exact hu.agree ag

/-- 'append(out, x)' of a text that lies below N. -/
theorem wpList_NR_add {w : World} {ops : Array Oper} {rest : List Oper} {o : Oper} {a : Act} {Q : Exit → Act → World → Prop} (hgd : o.guard = none) (s x : Operand)
    (ho : o.op = .call { callee := .builtin .append, args := #[s, x], argTypes := #[23, 23] }) (N base : Nat) (v u : Value) (os : List (List Int)) (xs : List Int) (hs : a.eval s = v) (hR : NR N w base v os)
    (hx : a.eval x = .slice (some ⟨w.heap.size, 0, none⟩) 1 1) (hu : TSeg (fun b => b < N) w u xs) (n : Nat) (hn : os.length = n) (hlen : n ≤ 100000) (hN : N ≤ base) (hbase : base ≤ w.heap.size)
    (h : ∀ a' c' w', NR N w' base (.slice a' (n + 1) c') (os ++ [xs]) → Below base w w' → wpList Tryd.prog ops Q rest (a.put o.dst (.slice a' (n + 1) c')) w') : wpList Tryd.prog ops Q (o :: rest) a (w.alloc (.cells #[u] 22)) := by
  obtain ⟨iT, hiT, hy0, hy1, hy2⟩ := info_parts infoT
  obtain ⟨vs, h1, h2, h3⟩ := hR
  have hal : Below w.heap.size w (w.alloc (.cells #[u] 22)) := (Below.refl _ _).alloc (Nat.le_refl _) _
  have hu1 : u.oneCell' = true := by obtain ⟨_, _, rfl, _⟩ := hu; rfl
  have hown := h2.alloc (.cells #[u] 22)
  refine wpList_append_own_at (w := w.alloc (.cells #[u] 22)) hgd s x 23 ho base 22 iT (.slice none 0 0) 1 24 Tryd.underlying23 hiT hy0 hy1 hy2 rfl (by decide) v os.length vs hs hown ⟨w.heap.size, 0, none⟩ 1 1 [u] hx rfl (cell_one_new _ _ _) (by intro z hz; simp at hz; rw [hz]; exact hu1) (by unfold maxLen; omega) (by omega) (by simp; omega) ?_
  intro v' w' ho' hg' _ _
  have ag : Agree (fun b => b < N) w (w.alloc (.cells #[u] 22)) := agree_below (hal.mono (by omega))
  obtain ⟨k1, k2⟩ := NR.add (us := os) h1 (fun i hi => (h3 i hi).agree ag) hown (hu.agree ag) ho' hg' hN (by simp; omega)
  obtain ⟨a', c', e⟩ := k1.shape
  rw [List.length_append, List.length_singleton, hn] at e
  subst e
  exact h a' c' w' k1 ((hal.mono hbase).trans k2)
end Go.Proofs.YtcgmfmdoconecaaDoor
