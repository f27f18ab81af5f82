/-
  Texts that a law leans on, one behind the other; no statement is proved here.
-/
import Derived.Test.YthkbapkndmlpfaaDoorPk0
import Derived.Test.YthkbapkndmlpfaaDoorPk3
import Derived.Sort.Walk0
import Derived.Lib.SlicesCompact
import Derived.Maps.AppendAt
/-
  The order of texts, as the specification asks it: l2bytes.
-/
namespace Go.Proofs.YthkbapkndmlpfaaDoor
open Go.RowKit
set_option linter.unusedVariables false
set_option linter.unusedSimpArgs false

/-- The order of two texts. -/
def bytesC (xs ys : List Int) : Int := Lib.compareBytes (u8s xs) (u8s ys)

theorem cmp_swap : ∀ (a b : List UInt8), Lib.compareBytes b a = - Lib.compareBytes a b
  | [], [] => by simp [Lib.compareBytes]
  | [], _ :: _ => by simp [Lib.compareBytes]
  | _ :: _, [] => by simp [Lib.compareBytes]
  | x :: a, y :: b => by
    have ih := cmp_swap a b
    unfold Lib.compareBytes
    by_cases h1 : x < y
    · have h2 : ¬ y < x := fun h => absurd (UInt8.lt_trans h1 h) (UInt8.lt_irrefl _)
      have h3 : ¬ x = y := fun e => by subst e; exact absurd h1 (UInt8.lt_irrefl _)
      have h4 : ¬ y = x := fun e => h3 e.symm
      simp [h1, h2, h3, h4]
    · by_cases h2 : y < x
      · have h3 : ¬ x = y := fun e => by subst e; exact absurd h2 (UInt8.lt_irrefl _)
        have h4 : ¬ y = x := fun e => h3 e.symm
        simp [h1, h2, h3, h4]
      · have h3 : x = y := UInt8.le_antisymm (UInt8.not_lt.1 h2) (UInt8.not_lt.1 h1)
        subst h3
        simp [h1, ih]

theorem less_ab (xs ys : List Int) : Op.bytesLess (strOf xs).toList (strOf ys).toList = decide (bytesC xs ys < 0) := by rw [strOf_list, strOf_list, less_cmp]; rfl
theorem less_ba (xs ys : List Int) : Op.bytesLess (strOf ys).toList (strOf xs).toList = decide (0 < bytesC xs ys) := by
  rw [strOf_list, strOf_list, less_cmp, cmp_swap]
  show decide (-(bytesC xs ys) < 0) = _
  by_cases h : 0 < bytesC xs ys
  · simp [h]
  · simp [h]
theorem cmp_zero : ∀ (a b : List UInt8), Lib.compareBytes a b = 0 ↔ a = b
  | [], [] => by simp [Lib.compareBytes]
  | [], _ :: _ => by simp [Lib.compareBytes]
  | _ :: _, [] => by simp [Lib.compareBytes]
  | x :: a, y :: b => by
    have ih := cmp_zero a b
    unfold Lib.compareBytes
    by_cases h1 : x < y
    · have h3 : ¬ x = y := fun e => by subst e; exact absurd h1 (UInt8.lt_irrefl _)
      simp [h1, h3]
    · by_cases h2 : y < x
      · have h3 : ¬ x = y := fun e => by subst e; exact absurd h2 (UInt8.lt_irrefl _)
        simp [h1, h2, h3]
      · have h3 : x = y := UInt8.le_antisymm (UInt8.not_lt.1 h2) (UInt8.not_lt.1 h1)
        subst h3
        simp [h1, ih]
theorem same_ab (xs ys : List Int) : ((strOf xs).toList == (strOf ys).toList) = decide (bytesC xs ys = 0) := by
  rw [strOf_list, strOf_list]
  have h := cmp_zero (u8s xs) (u8s ys)
  show _ = decide (Lib.compareBytes (u8s xs) (u8s ys) = 0)
  by_cases e : u8s xs = u8s ys
  · simp [e, h.2 e]
    exact (cmp_zero _ _).2 rfl
  · have : ¬ Lib.compareBytes (u8s xs) (u8s ys) = 0 := fun k => e (h.1 k)
    simp [e, this]
theorem bytesC_cases (xs ys : List Int) : bytesC xs ys = -1 ∨ bytesC xs ys = 0 ∨ bytesC xs ys = 1 := by
  have := cmp_range (u8s xs) (u8s ys)
  have e : bytesC xs ys = Lib.compareBytes (u8s xs) (u8s ys) := rfl
  omega

set_option maxHeartbeats 800000 in
theorem l2bytes_any (a b : Option Addr) (c1 c2 : Nat) (xs ys : List Int) (w : World) (ha : Seg w a xs) (hb : Seg w b ys) :
    Calls Tryd.prog 69 #[.slice a xs.length c1, .slice b ys.length c2] w fun e w' => e = .returned (.int .i64 (bytesC xs ys)) ∧ w = w' := by
  have k1 := conv_seg c1 ha
  have k2 := conv_seg c2 hb
  have l1 := less_ab xs ys
  have l2 := less_ba xs ys
  have l3 := same_ab xs ys
  rcases bytesC_cases xs ys with h | h | h
  · rw [h] at l1 l2 l3
    simp only [Int.reduceNeg, Int.reduceLT, Int.reduceEq, decide_true, decide_false, Int.lt_irrefl] at l1 l2 l3
    have HO := hide' h
    clear h
    go_enter Tryd.func69, Tryd.ntmps69
    go_wp2
    go_ret
    exact ⟨ret_i64 (by rw [HO.out]), rfl⟩
  · rw [h] at l1 l2 l3
    simp only [Int.reduceNeg, Int.reduceLT, Int.reduceEq, decide_true, decide_false, Int.lt_irrefl] at l1 l2 l3
    have HO := hide' h
    clear h
    go_enter Tryd.func69, Tryd.ntmps69
    go_wp2
    go_ret
    exact ⟨ret_i64 (by rw [HO.out]), rfl⟩
  · rw [h] at l1 l2 l3
    simp only [Int.reduceNeg, Int.reduceLT, Int.reduceEq, decide_true, decide_false, Int.lt_irrefl] at l1 l2 l3
    have HO := hide' h
    clear h
    go_enter Tryd.func69, Tryd.ntmps69
    go_wp2
    go_ret
    exact ⟨ret_i64 (by rw [HO.out]), rfl⟩

end Go.Proofs.YthkbapkndmlpfaaDoor
/-
  The names that parts of a kind have, in order, each once: as the specification puts them in ('insN'), and as the program sorts them and leaves out what stands twice. Plain mathematics.
-/
namespace Go.Proofs.YthkbapkndmlpfaaDoor
open Go.RowKit
set_option linter.unusedVariables false
set_option linter.unusedSimpArgs false

/-- The names of all parts of a kind, ahead of their kids'. -/
def rawN (k : Int) : (d : Nat) → Vl d → List (List Int)
  | 0, _ => []
  | d + 1, v => (if v.1 = k then [v.2.2.1] else []) ++ (v.2.2.2.2.map (rawN k d)).flatten

/-- A name put where it belongs, once; 'put': it is there already. -/
def insA (w : List Int) : Bool → List (List Int) → List (List Int)
  | put, [] => if put then [] else [w]
  | put, x :: r => (if !put && decide (bytesC w x ≤ 0) then [w] else []) ++ ((if bytesC w x ≠ 0 then [x] else []) ++ insA w (put || decide (bytesC w x ≤ 0)) r)
def insN (l : List (List Int)) (w : List Int) : List (List Int) := insA w false l

/-- The names of an expression that may be. -/
def namesE (k : Int) (d : Nat) (v : Vl d) : List (List Int) := if exprB d v = true then (rawN k d v).foldl insN [] else []

theorem lt_of_cmp {a b : List UInt8} : Lib.compareBytes a b < 0 ↔ a < b := by
  have h1 := less_cmp a b
  have h2 := bytesLess_eq a b
  rw [h1] at h2
  simpa using h2
theorem gt_of_cmp {a b : List UInt8} : 0 < Lib.compareBytes a b ↔ b < a := by
  rw [← lt_of_cmp, cmp_swap]
  omega

/-- The same, of texts as the run-time has them. -/
def insU (w : List UInt8) : List (List UInt8) → List (List UInt8)
  | [] => [w]
  | x :: r => if w < x then w :: x :: r else if x < w then x :: insU w r else x :: r

abbrev AscU (l : List (List UInt8)) : Prop := l.Pairwise (· < ·)

theorem u_trans {a b c : List UInt8} (h : a < b) (k : b < c) : a < c := List.lt_trans h k
theorem u_irrefl (a : List UInt8) : ¬ a < a := List.lt_irrefl a
theorem u_same {a b : List UInt8} (h : ¬ a < b) (k : ¬ b < a) : a = b := List.le_antisymm k h

theorem insA_true (w : List Int) : ∀ (l : List (List Int)), (∀ x ∈ l, u8s w < u8s x) → insA w true l = l
  | [], _ => rfl
  | x :: r, h => by
    have h1 : bytesC w x < 0 := lt_of_cmp.2 (h x (by simp))
    have h2 : ¬ bytesC w x = 0 := by omega
    simp only [insA, Bool.not_true, Bool.false_and, Bool.true_or]
    rw [insA_true w r fun y hy => h y (by simp [hy])]
    simp [h2]

theorem insN_map (w : List Int) : ∀ (l : List (List Int)), AscU (l.map u8s) → (insA w false l).map u8s = insU (u8s w) (l.map u8s)
  | [], _ => rfl
  | x :: r, h => by
    rw [List.map_cons, AscU, List.pairwise_cons] at h
    obtain ⟨h1, h2⟩ := h
    have h1' : ∀ y ∈ r, u8s x < u8s y := fun y hy => h1 _ (List.mem_map.2 ⟨y, hy, rfl⟩)
    simp only [insA, List.map_cons, insU]
    by_cases hlt : u8s w < u8s x
    · have c1 : bytesC w x < 0 := lt_of_cmp.2 hlt
      have c2 : ¬ bytesC w x = 0 := by omega
      have c3 : bytesC w x ≤ 0 := by omega
      simp only [Bool.not_false, Bool.true_and, Bool.false_or, decide_eq_true c3, if_true, c2, ne_eq, not_false_eq_true, hlt]
      rw [insA_true w r fun y hy => u_trans hlt (h1' y hy)]
      simp
    · by_cases hgt : u8s x < u8s w
      · have c1 : 0 < bytesC w x := gt_of_cmp.2 hgt
        have c2 : ¬ bytesC w x = 0 := by omega
        have c3 : ¬ bytesC w x ≤ 0 := by omega
        simp only [Bool.not_false, Bool.true_and, Bool.false_or, decide_eq_false c3, c2, ne_eq, not_false_eq_true, hlt, hgt, if_true, if_false]
        have ih := insN_map w r h2
        simp [ih]
      · have he : u8s w = u8s x := u_same hlt hgt
        have c2 : bytesC w x = 0 := (cmp_zero _ _).2 he
        have c3 : bytesC w x ≤ 0 := by omega
        rw [decide_eq_true c3]
        simp only [Bool.not_false, Bool.true_and, Bool.false_or, if_true, c2, ne_eq, not_true_eq_false, if_false, hlt, hgt]
        rw [insA_true w r fun y hy => by rw [he]; exact h1' y hy]
        simp [he]

theorem mem_insU (w : List UInt8) : ∀ (l : List (List UInt8)) (x : List UInt8), x ∈ insU w l ↔ x = w ∨ x ∈ l
  | [], x => by simp [insU]
  | y :: r, x => by
    unfold insU
    split
    · simp
    split
    · rw [List.mem_cons, mem_insU w r x, List.mem_cons]
      constructor
      · rintro (h | h | h)
        · exact .inr (.inl h)
        · exact .inl h
        · exact .inr (.inr h)
      · rintro (h | h | h)
        · exact .inr (.inl h)
        · exact .inl h
        · exact .inr (.inr h)
    · next h1 h2 =>
      have he := u_same h1 h2
      rw [List.mem_cons, he]
      constructor
      · rintro (h | h)
        · exact .inl h
        · exact .inr (.inr h)
      · rintro (h | h | h)
        · exact .inl h
        · exact .inl h
        · exact .inr h

theorem asc_insU (w : List UInt8) : ∀ (l : List (List UInt8)), AscU l → AscU (insU w l)
  | [], _ => by simp [insU, AscU]
  | y :: r, h => by
    have h' := h
    rw [AscU, List.pairwise_cons] at h
    obtain ⟨h1, h2⟩ := h
    unfold insU
    split
    · next hlt =>
      rw [AscU, List.pairwise_cons]
      refine ⟨fun z hz => ?_, h'⟩
      rcases List.mem_cons.1 hz with rfl | hz
      · exact hlt
      · exact u_trans hlt (h1 z hz)
    split
    · next hgt =>
      rw [AscU, List.pairwise_cons]
      refine ⟨fun z hz => ?_, asc_insU w r h2⟩
      rcases (mem_insU w r z).1 hz with rfl | hz
      · exact hgt
      · exact h1 z hz
    · exact h'

theorem fold_u8s : ∀ (r : List (List Int)) (l : List (List Int)), AscU (l.map u8s) → AscU ((r.foldl insN l).map u8s) ∧ ∀ x, x ∈ (r.foldl insN l).map u8s ↔ x ∈ r.map u8s ∨ x ∈ l.map u8s
  | [], l, h => ⟨h, fun x => by simp⟩
  | w :: r, l, h => by
    have e : (insN l w).map u8s = insU (u8s w) (l.map u8s) := insN_map w l h
    have ha : AscU ((insN l w).map u8s) := by rw [e]; exact asc_insU _ _ h
    obtain ⟨i1, i2⟩ := fold_u8s r (insN l w) ha
    refine ⟨i1, fun x => ?_⟩
    rw [List.foldl_cons, i2 x, e, mem_insU, List.map_cons, List.mem_cons]
    constructor
    · rintro (h | h | h)
      · exact .inl (.inr h)
      · exact .inl (.inl h)
      · exact .inr h
    · rintro ((h | h) | h)
      · exact .inr (.inl h)
      · exact .inl h
      · exact .inr (.inr h)

theorem asc_unique {l l' : List (List UInt8)} (h : AscU l) (h' : AscU l') (hm : ∀ x, x ∈ l ↔ x ∈ l') : l = l' := by
  have nd : ∀ {m : List (List UInt8)}, AscU m → m.Nodup := fun {m} hm => by
    refine List.Pairwise.imp (R := fun a b => a < b) (S := fun a b => a ≠ b) ?_ hm
    intro a b hab e
    subst e
    exact u_irrefl a hab
  have hp : l.Perm l' := (List.perm_ext_iff_of_nodup (nd h) (nd h')).2 hm
  exact List.Perm.eq_of_pairwise (le := fun a b => a < b) (fun a b _ _ h1 h2 => absurd (u_trans h1 h2) (u_irrefl a)) h h' hp

/-- Of a list in order, what stands twice left out: in order, each once. -/
theorem compact_asc (zs : List (List UInt8)) (h : zs.Pairwise (· ≤ ·)) : AscU (Lib.compact zs) ∧ ∀ x, x ∈ Lib.compact zs ↔ x ∈ zs := by
  have key : ∀ m, m ≤ zs.length → AscU (Lib.compactUpTo zs.toArray m) ∧ (∀ x, x ∈ Lib.compactUpTo zs.toArray m ↔ x ∈ zs.take m) := by
    intro m
    induction m with
    | zero => intro _; exact ⟨by simp [Lib.compactUpTo, AscU], fun x => by simp [Lib.compactUpTo]⟩
    | succ m ih =>
      intro hm
      obtain ⟨i1, i2⟩ := ih (by omega)
      have hg : zs.toArray[m]! = zs[m] := by simp [getElem!_pos, show m < zs.length by omega]
      have hpw := List.pairwise_iff_getElem.1 h
      rw [Lib.compactUpTo_succ, List.take_succ_eq_append_getElem (by omega), hg]
      by_cases hk : Lib.keeps zs.toArray m = true
      · rw [if_pos hk]
        refine ⟨?_, fun x => by rw [List.mem_append, List.mem_append, i2 x]⟩
        rw [AscU, List.pairwise_append]
        refine ⟨i1, by simp, fun a ha b hb => ?_⟩
        have hb' : b = zs[m] := by simpa using hb
        subst hb'
        obtain ⟨j, hj, rfl⟩ := List.getElem_of_mem ((i2 a).1 ha)
        rw [List.length_take] at hj
        rw [List.getElem_take]
        have hjm : j < m := by omega
        have hne : zs[m] ≠ zs[m - 1] := by
          simp only [Lib.keeps, decide_eq_true_eq] at hk
          rcases hk with h0 | h0
          · omega
          · simpa [getElem!_pos, show m < zs.length by omega, show m - 1 < zs.length by omega] using h0
        have h2 : zs[m - 1] ≤ zs[m] := hpw (m - 1) m (by omega) (by omega) (by omega)
        have h3 : zs[m - 1] < zs[m] := by
          rcases Classical.em (zs[m - 1] < zs[m]) with h4 | h4
          · exact h4
          · exact absurd (u_same h2 h4) hne
        by_cases hj1 : j = m - 1
        · subst hj1; exact h3
        · have h5 : zs[j] ≤ zs[m - 1] := hpw j (m - 1) (by omega) (by omega) (by omega)
          rcases Classical.em (zs[j] < zs[m - 1]) with h6 | h6
          · exact u_trans h6 h3
          · rw [u_same h6 h5]; exact h3
      · have hk' : Lib.keeps zs.toArray m = false := by simpa using hk
        rw [if_neg hk]
        refine ⟨by rw [List.append_nil]; exact i1, fun x => ?_⟩
        rw [List.append_nil, List.mem_append, i2 x]
        simp only [Lib.keeps, decide_eq_false_iff_not] at hk'
        have hm0 : m ≠ 0 := fun e => hk' (.inl e)
        have heq : zs[m] = zs[m - 1] := by
          have h0 := Classical.not_not.1 fun e => hk' (.inr e)
          simpa [getElem!_pos, show m < zs.length by omega, show m - 1 < zs.length by omega] using h0
        constructor
        · exact .inl
        · rintro (h1 | h1)
          · exact h1
          · have : x = zs[m - 1] := by rw [← heq]; simpa using h1
            rw [this]
            exact List.mem_iff_getElem.2 ⟨m - 1, by simp; omega, by rw [List.getElem_take]⟩
  obtain ⟨k1, k2⟩ := key zs.length (Nat.le_refl _)
  exact ⟨k1, fun x => by rw [show Lib.compact zs = Lib.compactUpTo zs.toArray zs.length from rfl, k2 x, List.take_length]⟩

/-- What the program makes of the names is what the specification makes of them. -/
theorem names_same (r : List (List Int)) : Lib.compact ((r.map u8s).mergeSort fun x y => decide (x ≤ y)) = (r.foldl insN []).map u8s := by
  have tr : ∀ a b c : List UInt8, decide (a ≤ b) = true → decide (b ≤ c) = true → decide (a ≤ c) = true := fun a b c h1 h2 => by simp only [decide_eq_true_eq] at *; exact List.le_trans h1 h2
  have to : ∀ a b : List UInt8, (decide (a ≤ b) || decide (b ≤ a)) = true := fun a b => by simp only [Bool.or_eq_true, decide_eq_true_eq]; exact List.le_total a b
  have hs := List.pairwise_mergeSort tr to (r.map u8s)
  have hs' : ((r.map u8s).mergeSort fun x y => decide (x ≤ y)).Pairwise (· ≤ ·) := hs.imp fun h => by simpa using h
  obtain ⟨c1, c2⟩ := compact_asc _ hs'
  obtain ⟨f1, f2⟩ := fold_u8s r [] (by simp [AscU])
  refine asc_unique c1 f1 fun x => ?_
  rw [c2 x, f2 x]
  have := (List.mergeSort_perm (r.map u8s) fun x y => decide (x ≤ y)).mem_iff (a := x)
  rw [this]
  simp
end Go.Proofs.YthkbapkndmlpfaaDoor
/-
  A row of the call's own that holds texts which lie in old blocks: 'NR'; one text more behind it.
-/
namespace Go.Proofs.YthkbapkndmlpfaaDoor
open Go.RowKit
set_option linter.unusedVariables false
set_option linter.unusedSimpArgs false

/-- A row of the call's own, from block 'base' on; the texts that it holds lie below N. -/
def NR (N : Nat) (w : World) (base : Nat) (v : Value) (os : List (List Int)) : Prop :=
  ∃ us : List Value, us.length = os.length ∧ w.ownsRow base 29 1 v os.length us ∧ ∀ i, i < os.length → TSeg (fun b => b < N) w (us.getD i (.slice none 0 0)) (os.getD i [])

theorem NR.nil (N : Nat) (w : World) (base : Nat) : NR N w base (.slice none 0 0) [] := ⟨[], rfl, ⟨rfl, .inl ⟨rfl, rfl⟩⟩, fun i hi => by simp at hi⟩

theorem NR.below {N : Nat} {w w' : World} {base : Nat} {v : Value} {os : List (List Int)} (h : NR N w base v os) (hb : Below w.heap.size w w') (hN : N ≤ w.heap.size) : NR N w' base v os := by
  obtain ⟨us, h1, h2, h3⟩ := h
  refine ⟨us, h1, h2.kept (row := none) ⟨hb.os, hb.tape, hb.output, hb.size, fun k hk _ => hb.block k hk⟩ (by cases hv : v.ownBlock <;> simp), fun i hi => (h3 i hi).agree (agree_below (hb.mono hN))⟩

theorem NR.mono {N : Nat} {w : World} {base base' : Nat} {v : Value} {os : List (List Int)} (h : NR N w base v os) (hb : base' ≤ base) : NR N w base' v os := by
  obtain ⟨us, h1, ⟨h2, h3⟩, h4⟩ := h
  refine ⟨us, h1, ⟨h2, ?_⟩, h4⟩
  rcases h3 with h0 | ⟨g, cap, cur, e, hg, r⟩
  · exact .inl h0
  · exact .inr ⟨g, cap, cur, e, by omega, r⟩

theorem NR.shape {N : Nat} {w : World} {base : Nat} {v : Value} {os : List (List Int)} (h : NR N w base v os) : ∃ a cap, v = .slice a os.length cap := by
  obtain ⟨us, h1, ⟨h2, h3⟩, h4⟩ := h
  rcases h3 with ⟨rfl, h0⟩ | ⟨g, cap, cur, rfl, _⟩
  · exact ⟨none, 0, by rw [h0]⟩
  · exact ⟨_, _, rfl⟩

theorem NR.at {N : Nat} {w : World} {base : Nat} {a : Option Addr} {n cap : Nat} {os : List (List Int)} (h : NR N w base (.slice a n cap) os) {k : Nat} (hk : k < os.length) :
    ∃ g ua uc, a = some ⟨g, 0, none⟩ ∧ g < w.heap.size ∧ w.cell? ⟨g, k, none⟩ = some (.slice ua (os.getD k []).length uc) ∧ TSeg (fun b => b < N) w (.slice ua (os.getD k []).length uc) (os.getD k []) := by
  obtain ⟨us, h1, h2, h4⟩ := h
  have h2' := h2
  obtain ⟨_, h3⟩ := h2
  rcases h3 with ⟨e, h0⟩ | ⟨g, cap', cur, e, hg, hh, _⟩
  · omega
  · simp only [Value.slice.injEq] at e
    obtain ⟨rfl, rfl, rfl⟩ := e
    have hc := World.ownsRow.cellAt h2' k (by omega)
    have ht := h4 k hk
    obtain ⟨ua, uc, eu, r⟩ := ht
    have hk' : k < us.length := by omega
    have e2 : us[k]? = some (us.getD k (.slice none 0 0)) := by simp [List.getD_eq_getElem?_getD, hk']
    refine ⟨g, ua, uc, rfl, (Array.getElem?_eq_some_iff.1 hh).1, by rw [hc, e2, eu], ⟨ua, uc, rfl, r⟩⟩

/-- One text more. -/
theorem NR.add {N : Nat} {w w' : World} {base : Nat} {v v' u : Value} {os us : List (List Int)} {vs : List Value} {xs : List Int} (h1 : vs.length = os.length) (h3 : ∀ i, i < os.length → TSeg (fun b => b < N) w (vs.getD i (.slice none 0 0)) (os.getD i [])) (hown : w.ownsRow base 29 1 v os.length vs)
    (hu : TSeg (fun b => b < N) w u xs) (hown' : w'.ownsRow base 29 1 v' (os.length + 1) (vs ++ [u])) (hg : w.grownBy w' v.ownBlock) (hN : N ≤ base) (hbase : base ≤ w.heap.size) : NR N w' base v' (os ++ [xs]) ∧ Below base w w' := by
  have hB : Below base w w' := (Below.refl base w).grown hg hbase (fun j hj => (hown.lt j hj).1)
  have ag : Agree (fun b => b < N) w w' := agree_below (hB.mono hN)
  refine ⟨⟨vs ++ [u], by simp [h1], by simpa using hown', fun i hi => ?_⟩, hB⟩
  by_cases hin : i < os.length
  · have e1 : (vs ++ [u]).getD i (.slice none 0 0) = vs.getD i (.slice none 0 0) := by simp [List.getD_eq_getElem?_getD, List.getElem?_append_left (show i < vs.length by omega)]
    have e2 : (os ++ [xs]).getD i [] = os.getD i [] := by simp [List.getD_eq_getElem?_getD, List.getElem?_append_left hin]
    rw [e1, e2]
    exact (h3 i hin).agree ag
  · have hin' : i = os.length := by simp at hi; omega
    subst hin'
    have e1 : (vs ++ [u]).getD os.length (.slice none 0 0) = u := by rw [← h1]; simp [List.getD_eq_getElem?_getD]
    have e2 : (os ++ [xs]).getD os.length [] = xs := by simp [List.getD_eq_getElem?_getD]
    rw [e1, e2]
    exact hu.agree ag

/-- 'append(out, x)' of a text that lies below N. -/
theorem wpList_NR_add {w : World} {ops : Array Oper} {rest : List Oper} {o : Oper} {a : Act} {Q : Exit → Act → World → Prop} (hgd : o.guard = none) (s x : Operand)
    (ho : o.op = .call { callee := .builtin .append, args := #[s, x], argTypes := #[30, 30] }) (N base : Nat) (v u : Value) (os : List (List Int)) (xs : List Int) (hs : a.eval s = v) (hR : NR N w base v os)
    (hx : a.eval x = .slice (some ⟨w.heap.size, 0, none⟩) 1 1) (hu : TSeg (fun b => b < N) w u xs) (n : Nat) (hn : os.length = n) (hlen : n ≤ 100000) (hN : N ≤ base) (hbase : base ≤ w.heap.size)
    (h : ∀ a' c' w', NR N w' base (.slice a' (n + 1) c') (os ++ [xs]) → Below base w w' → wpList Tryd.prog ops Q rest (a.put o.dst (.slice a' (n + 1) c')) w') : wpList Tryd.prog ops Q (o :: rest) a (w.alloc (.cells #[u] 29)) := by
  obtain ⟨iT, hiT, hy0, hy1, hy2⟩ := info_parts infoT
  obtain ⟨vs, h1, h2, h3⟩ := hR
  have hal : Below w.heap.size w (w.alloc (.cells #[u] 29)) := (Below.refl _ _).alloc (Nat.le_refl _) _
  have hu1 : u.oneCell' = true := by obtain ⟨_, _, rfl, _⟩ := hu; rfl
  have hown := h2.alloc (.cells #[u] 29)
  refine wpList_append_own_at (w := w.alloc (.cells #[u] 29)) hgd s x 30 ho base 29 iT (.slice none 0 0) 1 24 Tryd.underlying30 hiT hy0 hy1 hy2 rfl (by decide) v os.length vs hs hown ⟨w.heap.size, 0, none⟩ 1 1 [u] hx rfl (cell_one_new _ _ _) (by intro z hz; simp at hz; rw [hz]; exact hu1) (by unfold maxLen; omega) (by omega) (by simp; omega) ?_
  intro v' w' ho' hg' _ _
  have ag : Agree (fun b => b < N) w (w.alloc (.cells #[u] 29)) := agree_below (hal.mono (by omega))
  obtain ⟨k1, k2⟩ := NR.add (us := os) h1 (fun i hi => (h3 i hi).agree ag) hown (hu.agree ag) ho' hg' hN (by simp; omega)
  obtain ⟨a', c', e⟩ := k1.shape
  rw [List.length_append, List.length_singleton, hn] at e
  subst e
  exact h a' c' w' k1 ((hal.mono hbase).trans k2)
end Go.Proofs.YthkbapkndmlpfaaDoor
/-
  Uses and Locals of the specification: l6insert, l6names, l4ownAddrs.
-/
namespace Go.Proofs.YthkbapkndmlpfaaDoor
open Go.RowKit
set_option linter.unusedVariables false
set_option linter.unusedSimpArgs false

theorem insA_step (ws : List Int) (put : Bool) (ks : List (List Int)) (k : Nat) (hk : k < ks.length) :
    insA ws put (ks.drop k) = (if !put && decide (bytesC ws (ks.getD k []) ≤ 0) then [ws] else []) ++ ((if bytesC ws (ks.getD k []) ≠ 0 then [ks.getD k []] else []) ++ insA ws (put || decide (bytesC ws (ks.getD k []) ≤ 0)) (ks.drop (k + 1))) := by
  have e : ks.getD k [] = ks[k] := by simp [List.getD_eq_getElem?_getD, hk]
  rw [List.drop_eq_getElem_cons hk, e]
  rfl

set_option maxHeartbeats 2000000 in
set_option maxRecDepth 100000 in
theorem l6insert_any (N base : Nat) (x u : Value) (ks : List (List Int)) (ws : List Int) (w : World) (hx : NR N w base x ks) (hu : TSeg (fun b => b < N) w u ws) (hN : N ≤ w.heap.size) (hl : ks.length ≤ 1000) :
    Calls Tryd.prog 64 #[x, u] w fun e w' => ∃ y, e = .returned y ∧ NR N w' w.heap.size y (insN ks ws) ∧ Below w.heap.size w w' := by
  have HX := hide' hx
  have HU := hide' hu
  obtain ⟨a, cap, rfl⟩ := hx.shape
  obtain ⟨ua, uc, rfl, su, _, _, _, _⟩ := hu
  clear hx su
  go_enter Tryd.func64, Tryd.ntmps64
  go_wp2
  go_loopw [5, 6, 7] (fun y p i wr => ∃ (k : Nat) (put : Bool) (os : List (List Int)), k ≤ ks.length ∧ i = .int .i64 k ∧ p = .bool put ∧ NR N wr w.heap.size y os ∧ Below w.heap.size w wr ∧ Hid (os ++ insA ws put (ks.drop k) = insA ws false ks) ∧ os.length ≤ 2 * k) (fun _ _ i _ => ks.length - (intOf i).toNat)
  case atStart => exact ⟨0, false, [], Nat.zero_le _, rfl, rfl, NR.nil _ _ _, Below.refl _ _, rfl, by simp⟩
  case round =>
    obtain ⟨k, put, os, hk, rfl, rfl, hR, hbel, hins, hol⟩ := hrel
    have hsz := hbel.size
    obtain ⟨ya, yc, rfl⟩ := hR.shape
    by_cases hlt : k < ks.length
    · have hlt' : (k : Int) < (ks.length : Int) := by omega
      have hst := insA_step ws put ks k hlt
      obtain ⟨g, va, vc, rfl, hgl, hcell0, hT⟩ := HX.out.at hlt
      have HCell : Hid (∀ wx, Below w.heap.size w wx → wx.cell? ⟨g, k, none⟩ = some (.slice va (ks.getD k []).length vc)) := fun wx hb => (World.cell?_of_block (hb.block g hgl)).trans hcell0
      have hcell := HCell.out wr hbel
      have HUr : Hid (∀ wx, Below w.heap.size w wx → TSeg (fun b => b < N) wx (.slice ua ws.length uc) ws) := fun wx hb => HU.out.agree (agree_below (hb.mono hN))
      have HTr : Hid (∀ wx, Below w.heap.size w wx → TSeg (fun b => b < N) wx (.slice va (ks.getD k []).length vc) (ks.getD k [])) := fun wx hb => hT.agree (agree_below (hb.mono hN))
      have hcs := bytesC_cases ws (ks.getD k [])
      have HC : Hid (Calls Tryd.prog 69 #[.slice ua ws.length uc, .slice va (ks.getD k []).length vc] wr fun e w' => e = .returned (.int .i64 (bytesC ws (ks.getD k []))) ∧ wr = w') := by
        obtain ⟨_, _, e1, s1, _⟩ := HUr.out wr hbel
        obtain ⟨_, _, e2, s2, _⟩ := HTr.out wr hbel
        simp at e1 e2
        obtain ⟨rfl, _⟩ := e1
        obtain ⟨rfl, _⟩ := e2
        exact l2bytes_any _ _ _ _ ws (ks.getD k []) wr s1 s2
      clear hcell0 hT
      cases put with
      | true =>
        by_cases hc0 : bytesC ws (ks.getD k []) = 0
        · rw [hc0] at HC
          generalize ks.getD k [] = zs at *
          have HF : Hid (os ++ insA ws true (ks.drop (k + 1)) = insA ws false ks) := by
            have h := hins.out
            rw [hst, hc0] at h
            exact hide' (by simpa using h)
          clear hst hcs hc0
          go_wp2_with (go_at_call 69; refine HC.out.mono ?_; rintro e w1 ⟨rfl, e1⟩; obtain rfl := e1)
          go_roundw
          case rel => exact ⟨k + 1, true, os, by omega, by go_num, rfl, hR, hbel, HF, by omega⟩
          case measure => simp [intOf]; omega
        · generalize ks.getD k [] = zs at *
          generalize bytesC ws zs = c at *
          have HF : Hid ((os ++ [zs]) ++ insA ws true (ks.drop (k + 1)) = insA ws false ks) := by
            have h := hins.out
            rw [hst] at h
            exact hide' (by simpa [hc0] using h)
          have hne : (c != 0) = true := by simpa using hc0
          clear hst hc0
          go_wp2_with (first | (go_at_call 69; refine HC.out.mono ?_; rintro e w1 ⟨rfl, e1⟩; obtain rfl := e1) | (at_builtin; refine wpList_NR_add rfl (.tmp 33) (.tmp 38) (by rfl) N w.heap.size _ (.slice va zs.length vc) os zs (by rfl) hR (by rfl) (HTr.out _ hbel) os.length rfl (by omega) hN (by have := (hbel : Below w.heap.size w _).size; omega) ?_; intro y2a y2c w2 hR2 hB2; replace hB2 := (hbel).trans hB2))
          go_roundw
          case rel => exact ⟨k + 1, true, _, by omega, by go_num, rfl, hR2, hB2, HF, by simp; omega⟩
          case measure => simp [intOf]; omega
      | false =>
        by_cases hc0 : bytesC ws (ks.getD k []) = 0
        · rw [hc0] at HC
          generalize ks.getD k [] = zs at *
          have HF : Hid ((os ++ [ws]) ++ insA ws true (ks.drop (k + 1)) = insA ws false ks) := by
            have h := hins.out
            rw [hst, hc0] at h
            exact hide' (by simpa using h)
          clear hst hcs hc0
          go_wp2_with (first | (go_at_call 69; refine HC.out.mono ?_; rintro e w1 ⟨rfl, e1⟩; obtain rfl := e1) | (at_builtin; refine wpList_NR_add rfl (.tmp 27) (.tmp 29) (by rfl) N w.heap.size _ (.slice ua ws.length uc) os ws (by rfl) hR (by rfl) (HUr.out _ (by first | exact hbel | exact hB1)) os.length rfl (by omega) hN (by have := hbel.size; omega) ?_; intro y1a y1c w1 hR1 hB1; replace hB1 := hbel.trans hB1; have hcell1 := HCell.out _ hB1))
          go_roundw
          case rel => exact ⟨k + 1, true, _, by omega, by go_num, rfl, hR1, hB1, HF, by simp; omega⟩
          case measure => simp [intOf]; omega
        · generalize ks.getD k [] = zs at *
          generalize bytesC ws zs = c at *
          have hne : (c != 0) = true := by simpa using hc0
          by_cases hc1 : c ≤ 0
          · have HF : Hid (((os ++ [ws]) ++ [zs]) ++ insA ws true (ks.drop (k + 1)) = insA ws false ks) := by
              have h := hins.out
              rw [hst] at h
              exact hide' (by simpa [hc0, hc1] using h)
            clear hst hc0
            go_wp2_with (first | (go_at_call 69; refine HC.out.mono ?_; rintro e w1 ⟨rfl, e1⟩; obtain rfl := e1) | (at_builtin; refine wpList_NR_add rfl (.tmp 27) (.tmp 29) (by rfl) N w.heap.size _ (.slice ua ws.length uc) os ws (by rfl) hR (by rfl) (HUr.out _ (by first | exact hbel | exact hB1)) os.length rfl (by omega) hN (by have := hbel.size; omega) ?_; intro y1a y1c w1 hR1 hB1; replace hB1 := hbel.trans hB1; have hcell1 := HCell.out _ hB1) | (at_builtin; refine wpList_NR_add rfl (.tmp 33) (.tmp 38) (by rfl) N w.heap.size _ (.slice va zs.length vc) (os ++ [ws]) zs (by rfl) hR1 (by rfl) (HTr.out _ hB1) (os.length + 1) (by simp) (by omega) hN (by have := (hB1 : Below w.heap.size w _).size; omega) ?_; intro y2a y2c w2 hR2 hB2; replace hB2 := (hB1).trans hB2))
            go_roundw
            case rel => exact ⟨k + 1, true, _, by omega, by go_num, rfl, hR2, hB2, HF, by simp; omega⟩
            case measure => simp [intOf]; omega
          · have HF : Hid ((os ++ [zs]) ++ insA ws false (ks.drop (k + 1)) = insA ws false ks) := by
              have h := hins.out
              rw [hst] at h
              exact hide' (by simpa [hc0, hc1] using h)
            clear hst hc0
            go_wp2_with (first | (go_at_call 69; refine HC.out.mono ?_; rintro e w1 ⟨rfl, e1⟩; obtain rfl := e1) | (at_builtin; refine wpList_NR_add rfl (.tmp 33) (.tmp 38) (by rfl) N w.heap.size _ (.slice va zs.length vc) os zs (by rfl) hR (by rfl) (HTr.out _ hbel) os.length rfl (by omega) hN (by have := (hbel : Below w.heap.size w _).size; omega) ?_; intro y2a y2c w2 hR2 hB2; replace hB2 := (hbel).trans hB2))
            go_roundw
            case rel => exact ⟨k + 1, false, _, by omega, by go_num, rfl, hR2, hB2, HF, by simp; omega⟩
            case measure => simp [intOf]; omega
    · have hkn : k = ks.length := by omega
      have hlt' : ¬ (k : Int) < (ks.length : Int) := by omega
      have HUr : Hid (∀ wx, Below w.heap.size w wx → TSeg (fun b => b < N) wx (.slice ua ws.length uc) ws) := fun wx hb => HU.out.agree (agree_below (hb.mono hN))
      cases put with
      | true =>
        have HF : Hid (os = insN ks ws) := by
          have h := hins.out
          rw [hkn, List.drop_length] at h
          exact hide' (by simpa [insA, insN] using h)
        clear hkn
        go_wp2
        go_ret
        exact ⟨_, rfl, by rw [← HF.out]; exact hR, hbel⟩
      | false =>
        have HF : Hid (os ++ [ws] = insN ks ws) := by
          have h := hins.out
          rw [hkn, List.drop_length] at h
          exact hide' (by simpa [insA, insN] using h)
        clear hkn
        go_wp2_with (at_builtin; refine wpList_NR_add rfl (.tmp 42) (.tmp 44) (by rfl) N w.heap.size _ (.slice ua ws.length uc) os ws (by rfl) hR (by rfl) (HUr.out _ hbel) os.length rfl (by omega) hN (by omega) ?_; intro y1a y1c w1 hR1 hB1; replace hB1 := hbel.trans hB1)
        go_ret
        exact ⟨_, rfl, by rw [← HF.out]; exact hR1, hB1⟩

theorem insA_len (w : List Int) : ∀ (put : Bool) (l : List (List Int)), (insA w put l).length ≤ l.length + 1
  | put, [] => by unfold insA; split <;> simp
  | put, x :: r => by
    have h1 := insA_len w (put || decide (bytesC w x ≤ 0)) r
    cases put with
    | true =>
      have h2 : ∀ l : List (List Int), (insA w true l).length ≤ l.length := by
        intro l
        induction l with
        | nil => simp [insA]
        | cons y s ih =>
          simp only [insA, Bool.not_true, Bool.false_and, Bool.true_or, List.length_append, List.length_cons]
          have : (if bytesC w y ≠ 0 then [y] else []).length ≤ 1 := by split <;> simp
          simp only [Bool.false_eq_true, if_false, List.length_nil]
          omega
      have := h2 (x :: r)
      omega
    | false =>
      by_cases hc : bytesC w x ≤ 0
      · have h2 : ∀ l : List (List Int), (insA w true l).length ≤ l.length := by
          intro l
          induction l with
          | nil => simp [insA]
          | cons y s ih =>
            simp only [insA, Bool.not_true, Bool.false_and, Bool.true_or, List.length_append, List.length_cons]
            have : (if bytesC w y ≠ 0 then [y] else []).length ≤ 1 := by split <;> simp
            simp only [Bool.false_eq_true, if_false, List.length_nil]
            omega
        have h3 := h2 r
        simp only [insA, Bool.not_false, Bool.true_and, Bool.false_or, decide_eq_true hc, if_true, List.length_append, List.length_cons, List.length_nil]
        have : (if bytesC w x ≠ 0 then [x] else []).length ≤ 1 := by split <;> simp
        omega
      · simp only [insA, Bool.not_false, Bool.true_and, Bool.false_or, decide_eq_false hc, List.length_append, List.length_cons]
        rw [Bool.false_or, decide_eq_false hc] at h1
        have : (if bytesC w x ≠ 0 then [x] else []).length ≤ 1 := by split <;> simp
        simp only [Bool.false_eq_true, if_false, List.length_nil]
        omega

theorem insN_len (l : List (List Int)) (w : List Int) : (insN l w).length ≤ l.length + 1 := insA_len w false l

theorem fold_len : ∀ (r l : List (List Int)), (r.foldl insN l).length ≤ l.length + r.length
  | [], l => by simp
  | w :: r, l => by
    have := fold_len r (insN l w)
    have := insN_len l w
    simp only [List.foldl_cons, List.length_cons]
    omega

theorem rawN_len (k : Int) : ∀ (d : Nat) (v : Vl d), (rawN k d v).length ≤ partsE d v := by
  intro d
  induction d with
  | zero => intro v; exact v.elim
  | succ d ih =>
    intro v
    obtain ⟨vk, vn, vs, vK, vL⟩ := v
    show ((if vk = k then [vs] else []) ++ (vL.map (rawN k d)).flatten).length ≤ 1 + (vL.map (partsE d)).sum
    have h1 : (if vk = k then [vs] else []).length ≤ 1 := by split <;> simp
    have h2 : ((vL.map (rawN k d)).flatten).length ≤ (vL.map (partsE d)).sum := by
      induction vL with
      | nil => simp
      | cons x r ih2 =>
        have := ih x
        simp only [List.map_cons, List.flatten_cons, List.length_append, List.sum_cons]
        omega
    rw [List.length_append]
    omega

/-- The names of the first j kids. -/
def preN (k : Int) (d : Nat) (vL : List (Vl d)) (j : Nat) : List (List Int) := ((vL.take j).map (rawN k d)).flatten
theorem preN_zero (k : Int) (d : Nat) (vL : List (Vl d)) : preN k d vL 0 = [] := by simp [preN]
theorem preN_succ (k : Int) (d : Nat) (vL : List (Vl d)) (j : Nat) (h : j < vL.length) : preN k d vL (j + 1) = preN k d vL j ++ rawN k d vL[j] := by
  unfold preN
  rw [List.take_succ_eq_append_getElem h, List.map_append, List.flatten_append]
  simp
theorem preN_all (k : Int) (d : Nat) (vL : List (Vl d)) : preN k d vL vL.length = (vL.map (rawN k d)).flatten := by simp [preN]
theorem preN_len (k : Int) (d : Nat) (vL : List (Vl d)) (j : Nat) : (preN k d vL j).length ≤ pre (partsE d) vL j := by
  unfold preN pre
  generalize vL.take j = l
  induction l with
  | nil => simp
  | cons x r ih =>
    have := rawN_len k d x
    simp only [List.map_cons, List.flatten_cons, List.length_append, List.sum_cons]
    omega

/-- The contract of l6names at depth d. -/
def L6NAt (k : Int) (d : Nat) : Prop := ∀ (N base : Nat) (x : Value) (os : List (List Int)) (c : Value × Value × Value × Value × Value) (v : Vl d) (w : World), VSeg (fun b => b < N) w d c v → N ≤ base → base ≤ w.heap.size → NR N w base x os → os.length + partsE d v ≤ 500 →
  Calls Tryd.prog 53 #[.agg #[c.1, c.2.1, c.2.2.1, c.2.2.2.1, c.2.2.2.2], .int .i64 k, x] w fun e w' => ∃ y, e = .returned y ∧ NR N w' base y ((rawN k d v).foldl insN os) ∧ Below w.heap.size w w'

set_option maxHeartbeats 2000000 in
set_option maxRecDepth 100000 in
theorem l6names_succ (k : Int) (d : Nat) (ih : L6NAt k d) : L6NAt k (d + 1) := by
  intro N base x os c v w hv hNb hbw hx hlen
  obtain ⟨c0, c1, c2, c3, c4⟩ := c
  obtain ⟨vk, vn, vs, vK, vL⟩ := v
  obtain ⟨e0, e1, ht, hk, hl⟩ := (VSeg_succ _ _ _ _ _).1 hv
  simp only at e0 e1 ht hk hl
  subst e0
  subst e1
  clear hv
  simp only
  have HL := hide' hl
  have HT := hide' ht
  obtain ⟨a2, p2, rfl, s2, l2, m2, _, r2⟩ := ht
  obtain ⟨a3, p3, rfl, _, _, _, _⟩ := hk
  obtain ⟨a4, p4, rfl, hlc4, hcm4, _, _⟩ := hl
  unfold maxLen at hcm4
  have hp := partsE_succ d vk vn vs vK vL
  have hraw : rawN k (d + 1) (vk, vn, vs, vK, vL) = (if vk = k then [vs] else []) ++ (vL.map (rawN k d)).flatten := rfl
  rw [hp] at hlen
  have b0 : ∀ o : Obj, Below w.heap.size w (w.alloc o) := fun o => (Below.refl _ _).alloc (Nat.le_refl _) o
  have Hb := hide' b0
  have HI := hide' ih
  have hN : N ≤ w.heap.size := by omega
  obtain ⟨os1, hos1⟩ : ∃ os1, os1 = (if vk = k then [vs] else []).foldl insN os := ⟨_, rfl⟩
  have hl1 : os1.length ≤ os.length + 1 := by
    rw [hos1]
    have h1 := fold_len (if vk = k then [vs] else []) os
    have h2 : (if vk = k then [vs] else []).length ≤ 1 := by split <;> simp
    omega
  have HEnd : Hid ((rawN k (d + 1) (vk, vn, vs, vK, vL)).foldl insN os = (preN k d vL vL.length).foldl insN os1) := by
    show _ = _
    rw [hraw, List.foldl_append, ← hos1, preN_all]
  have HSt : Hid (∀ j (h : j < vL.length), (preN k d vL (j + 1)).foldl insN os1 = (rawN k d vL[j]).foldl insN ((preN k d vL j).foldl insN os1)) := fun j h => by rw [preN_succ k d vL j h, List.foldl_append]
  have HLen : Hid (∀ j (h : j < vL.length), ((preN k d vL j).foldl insN os1).length + partsE d vL[j] ≤ 500) := fun j h => by
    have h1 := fold_len (preN k d vL j) os1
    have h2 := preN_len k d vL j
    have h3 := pre_succ (partsE d) vL j h
    have h4 := pre_le (partsE d) vL (j + 1)
    have h5 := pre_all (partsE d) vL
    omega
  have HX : Hid (∀ wx, Below w.heap.size w wx → NR N wx base x os) := fun wx hb => hx.below hb hN
  have HIns : Hid (∀ wx, Below w.heap.size w wx → Calls Tryd.prog 64 #[x, .slice a2 vs.length p2] wx fun e w' => ∃ y, e = .returned y ∧ NR N w' base y (insN os vs) ∧ Below wx.heap.size wx w') := fun wx hb =>
    (l6insert_any N base x _ os vs wx (HX.out wx hb) (HT.out.agree (agree_below (hb.mono hN))) (by have := hb.size; omega) (by omega)).mono fun e w' ⟨y, h1, h2, h3⟩ => ⟨y, h1, h2.mono (by have := hb.size; omega), h3⟩
  obtain ⟨xa, xc, rfl⟩ := hx.shape
  obtain ⟨ob, HOb⟩ : ∃ ob, Hid (ob = Obj.cells #[.int .i64 vk, .int .i64 vn, .slice a2 vs.length p2, .slice a3 vK.length p3, .slice a4 vL.length p4] 40) := ⟨_, rfl⟩
  clear s2 b0 hp hraw ih hx
  by_cases hk0 : vk = k
  · subst hk0
    have he1 : Hid (os1 = insN os vs) := by show _ = _; rw [hos1]; simp
    clear hos1 HX
    go_enter Tryd.func53, Tryd.ntmps53
    go_wp2_with fail
    refine (HIns.out _ (Hb.out _)).mono ?_
    rintro e w1 ⟨y, rfl, hR1, b1⟩
    rw [← he1.out] at hR1
    obtain ⟨y0, y1, y2, y3, y4, _⟩ := row5 (box_row b1)
    have Bb1 : Hid (Below (w.alloc ob).heap.size (w.alloc ob) w1) := by rw [HOb.out]; exact b1
    have HR1 := hide' hR1
    obtain ⟨ya, yc, rfl⟩ := hR1.shape
    clear b1 hR1 he1
    go_wp2
    go_loopw [2, 7] (fun y i wr => ∃ j : Nat, j ≤ vL.length ∧ i = .int .i64 j ∧ NR N wr base y ((preN vk d vL j).foldl insN os1) ∧ Hid (Below (w.alloc ob).heap.size (w.alloc ob) wr)) (fun _ i _ => vL.length - (intOf i).toNat)
    case atStart => exact ⟨0, Nat.zero_le _, rfl, by rw [preN_zero]; exact HR1.out, Bb1⟩
    case round =>
      clear y0 y1 y2 y3 y4
      obtain ⟨j, hj, rfl, hR, hbel⟩ := hrel
      have hrow := box_row hbel.out
      rw [HOb.out] at hrow
      obtain ⟨y0, y1, y2, y3, y4, _⟩ := row5 hrow
      have B := Below.on (Hb.out ob) hbel.out
      clear hrow
      obtain ⟨ya', yc', rfl⟩ := hR.shape
      by_cases hlt : j < vL.length
      · have hlt' : (j : Int) < (vL.length : Int) := by omega
        obtain ⟨b, off, c, rfl, h5', hv⟩ := HL.out.at B hN hlt
        obtain ⟨c0, c1, c2, c3, c4⟩ := c
        obtain ⟨q0, q1, q2, q3, q4⟩ := h5'
        simp only at q0 q1 q2 q3 q4
        have hz := B.size
        have HC := hide' (HI.out N base _ _ (c0, c1, c2, c3, c4) vL[j] wr (hv wr B) hNb (by omega) hR (HLen.out j hlt))
        rw [← HSt.out j hlt] at HC
        generalize ((preN vk d vL j).foldl insN os1).length = n1 at *
        clear hv hR
        go_wp2_with fail
        refine HC.out.mono ?_
        rintro e w2 ⟨y', rfl, hR2, b2⟩
        have B2 : Hid (Below (w.alloc ob).heap.size (w.alloc ob) w2) := Below.on hbel.out b2
        obtain ⟨ya2, yc2, hy2⟩ := hR2.shape
        have HR2 := hide' hR2
        generalize ((preN vk d vL (j + 1)).foldl insN os1).length = n2 at *
        subst hy2
        clear q0 q1 q2 q3 q4 b2 HC hR2
        go_wp2
        go_roundw
        case rel => exact ⟨j + 1, by omega, by go_num, HR2.out, B2⟩
        case measure => simp [intOf]; omega
      · have hkn : j = vL.length := by omega
        have hlt' : ¬ (j : Int) < (vL.length : Int) := by omega
        have HF : Hid (NR N wr base (.slice ya' ((preN vk d vL j).foldl insN os1).length yc') ((rawN vk (d + 1) (vk, vn, vs, vK, vL)).foldl insN os)) := by rw [HEnd.out, ← hkn]; exact hR
        clear hkn hR
        generalize ((preN vk d vL j).foldl insN os1).length = n1 at *
        go_wp2
        go_ret
        exact ⟨_, rfl, HF.out, B⟩
  · have he1 : os1 = os := by rw [hos1]; simp [hk0]
    have hk0' : (vk == k) = false := by simpa using hk0
    subst he1
    have H0 : Hid (NR N (w.alloc ob) base (.slice xa os1.length xc) os1) := HX.out _ (Hb.out _)
    generalize hn0 : os1.length = n0 at *
    clear hos1 HX HIns hn0 hk0
    go_enter Tryd.func53, Tryd.ntmps53
    go_wp2
    go_loopw [2, 7] (fun y i wr => ∃ j : Nat, j ≤ vL.length ∧ i = .int .i64 j ∧ NR N wr base y ((preN k d vL j).foldl insN os1) ∧ Hid (Below (w.alloc ob).heap.size (w.alloc ob) wr)) (fun _ i _ => vL.length - (intOf i).toNat)
    case atStart => exact ⟨0, Nat.zero_le _, rfl, by rw [preN_zero]; have := H0.out; rw [HOb.out] at this; exact this, by rw [HOb.out]; exact Below.refl _ _⟩
    case round =>
      obtain ⟨j, hj, rfl, hR, hbel⟩ := hrel
      have hrow := box_row hbel.out
      rw [HOb.out] at hrow
      obtain ⟨y0, y1, y2, y3, y4, _⟩ := row5 hrow
      have B := Below.on (Hb.out ob) hbel.out
      clear hrow
      obtain ⟨ya', yc', rfl⟩ := hR.shape
      by_cases hlt : j < vL.length
      · have hlt' : (j : Int) < (vL.length : Int) := by omega
        obtain ⟨b, off, c, rfl, h5', hv⟩ := HL.out.at B hN hlt
        obtain ⟨c0, c1, c2, c3, c4⟩ := c
        obtain ⟨q0, q1, q2, q3, q4⟩ := h5'
        simp only at q0 q1 q2 q3 q4
        have hz := B.size
        have HC := hide' (HI.out N base _ _ (c0, c1, c2, c3, c4) vL[j] wr (hv wr B) hNb (by omega) hR (HLen.out j hlt))
        rw [← HSt.out j hlt] at HC
        generalize ((preN k d vL j).foldl insN os1).length = n1 at *
        clear hv hR
        go_wp2_with fail
        refine HC.out.mono ?_
        rintro e w2 ⟨y', rfl, hR2, b2⟩
        have B2 : Hid (Below (w.alloc ob).heap.size (w.alloc ob) w2) := Below.on hbel.out b2
        obtain ⟨ya2, yc2, hy2⟩ := hR2.shape
        have HR2 := hide' hR2
        generalize ((preN k d vL (j + 1)).foldl insN os1).length = n2 at *
        subst hy2
        clear q0 q1 q2 q3 q4 b2 HC hR2
        go_wp2
        go_roundw
        case rel => exact ⟨j + 1, by omega, by go_num, HR2.out, B2⟩
        case measure => simp [intOf]; omega
      · have hkn : j = vL.length := by omega
        have hlt' : ¬ (j : Int) < (vL.length : Int) := by omega
        have HF : Hid (NR N wr base (.slice ya' ((preN k d vL j).foldl insN os1).length yc') ((rawN k (d + 1) (vk, vn, vs, vK, vL)).foldl insN os1)) := by rw [HEnd.out, ← hkn]; exact hR
        clear hkn hR
        generalize ((preN k d vL j).foldl insN os1).length = n1 at *
        go_wp2
        go_ret
        exact ⟨_, rfl, HF.out, B⟩

theorem l6names_any (k : Int) (d : Nat) : L6NAt k d := by
  induction d with
  | zero => intro N base x os c v w hv; exact hv.elim
  | succ d ih => exact l6names_succ k d ih
end Go.Proofs.YthkbapkndmlpfaaDoor
