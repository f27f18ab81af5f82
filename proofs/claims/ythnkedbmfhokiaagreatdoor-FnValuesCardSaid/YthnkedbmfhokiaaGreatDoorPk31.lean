/-
  Texts that a law leans on, one behind the other; no statement is proved here.
-/
import Derived.Test.YthnkedbmfhokiaaGreatDoorPk18
import Derived.Test.YthnkedbmfhokiaaGreatDoorPk13
import Derived.Test.YthnkedbmfhokiaaGreatDoorPk0
import Derived.Test.YthnkedbmfhokiaaGreatDoorPk15
import Derived.Test.YthnkedbmfhokiaaGreatDoorPk2
import Derived.Test.YthnkedbmfhokiaaGreatDoorPk1
import Derived.Test.YthnkedbmfhokiaaGreatDoorPk6
import Derived.Lib.LaidTab
import Derived.Stop.LaidErr
/-
  Reading a value from bytes, as both readers do it: plain mathematics; no Go text here.
-/
namespace Go.Proofs.YthnkedbmfhokiaaGreatDoor
open Go.RowKit
set_option linter.unusedVariables false
set_option linter.unusedSimpArgs false

/-- The kids of a list or a map: at most n, each behind its key, if there are keys. -/
def rdK {α : Type} (f : Int → Int → α × Int × Int) (xs : List Int) (m : Bool) : Nat → List (List Int) → List α → Int → Int → List (List Int) × List α × Int × Int
  | 0, K, L, at_, left => (K, L, at_, left)
  | n + 1, K, L, at_, left => if at_ < 0 then (K, L, at_, left) else
    rdK f xs m n (if m then K ++ [(getText xs at_).1] else K) (L ++ [(f (if m then (getText xs at_).2 else at_) left).1]) (f (if m then (getText xs at_).2 else at_) left).2.1 (f (if m then (getText xs at_).2 else at_) left).2.2

/-- A value: what was read, where it ends (-1: nowhere), and how many parts may still come. -/
def rdV (xs : List Int) : (dp : Nat) → Int → Int → Vl (dp + 1) × Int × Int
  | 0, _, left => (((0 : Int), (0 : Int), ([] : List Int), ([] : List (List Int)), ([] : List (Vl 0))), -1, left - 1)
  | dp + 1, at_, left => if left - 1 < 0 then (((0 : Int), (0 : Int), ([] : List Int), ([] : List (List Int)), ([] : List (Vl (dp + 1)))), -1, left - 1) else
    if (getNum xs at_).1 = 1 then ((1, (getNum xs (getNum xs at_).2).1, [], [], []), (getNum xs (getNum xs at_).2).2, left - 1)
    else if (getNum xs at_).1 = 2 then ((2, if (getNum xs (getNum xs at_).2).1 = 1 then -((getNum xs (getNum xs (getNum xs at_).2).2).1 * 1000000 + (getNum xs (getNum xs (getNum xs (getNum xs at_).2).2).2).1) else (getNum xs (getNum xs (getNum xs at_).2).2).1 * 1000000 + (getNum xs (getNum xs (getNum xs (getNum xs at_).2).2).2).1, [], [], []), (getNum xs (getNum xs (getNum xs (getNum xs at_).2).2).2).2, left - 1)
    else if (getNum xs at_).1 = 3 then ((3, 0, (getText xs (getNum xs at_).2).1, [], []), (getText xs (getNum xs at_).2).2, left - 1)
    else if (getNum xs at_).1 = 4 ∨ (getNum xs at_).1 = 5 then
      (((getNum xs at_).1, 0, [], (rdK (fun a l => rdV xs dp a l) xs (decide ((getNum xs at_).1 = 5)) (getNum xs (getNum xs at_).2).1.toNat [] [] (getNum xs (getNum xs at_).2).2 (left - 1)).1, (rdK (fun a l => rdV xs dp a l) xs (decide ((getNum xs at_).1 = 5)) (getNum xs (getNum xs at_).2).1.toNat [] [] (getNum xs (getNum xs at_).2).2 (left - 1)).2.1),
        (rdK (fun a l => rdV xs dp a l) xs (decide ((getNum xs at_).1 = 5)) (getNum xs (getNum xs at_).2).1.toNat [] [] (getNum xs (getNum xs at_).2).2 (left - 1)).2.2.1, (rdK (fun a l => rdV xs dp a l) xs (decide ((getNum xs at_).1 = 5)) (getNum xs (getNum xs at_).2).1.toNat [] [] (getNum xs (getNum xs at_).2).2 (left - 1)).2.2.2)
    else (((getNum xs at_).1, 0, [], [], []), (getNum xs at_).2, left - 1)

theorem rdK_zero {α : Type} (f : Int → Int → α × Int × Int) (xs : List Int) (m : Bool) (K : List (List Int)) (L : List α) (at_ left : Int) : rdK f xs m 0 K L at_ left = (K, L, at_, left) := rfl
theorem rdK_end {α : Type} (f : Int → Int → α × Int × Int) (xs : List Int) (m : Bool) (n : Nat) (K : List (List Int)) (L : List α) (at_ left : Int) (h : at_ < 0) : rdK f xs m n K L at_ left = (K, L, at_, left) := by
  cases n with
  | zero => rfl
  | succ n => rw [rdK, if_pos h]
theorem rdK_step {α : Type} (f : Int → Int → α × Int × Int) (xs : List Int) (m : Bool) (n : Nat) (K : List (List Int)) (L : List α) (at_ left : Int) (h : ¬ at_ < 0) : rdK f xs m (n + 1) K L at_ left =
    rdK f xs m n (if m then K ++ [(getText xs at_).1] else K) (L ++ [(f (if m then (getText xs at_).2 else at_) left).1]) (f (if m then (getText xs at_).2 else at_) left).2.1 (f (if m then (getText xs at_).2 else at_) left).2.2 := by
  rw [rdK, if_neg h]

section
variable {xs : List Int} {dp : Nat} {at_ left : Int}
theorem rdV_zero : rdV xs 0 at_ left = (((0 : Int), (0 : Int), ([] : List Int), ([] : List (List Int)), ([] : List (Vl 0))), -1, left - 1) := rfl
theorem rdV_many (h : left - 1 < 0) : rdV xs dp at_ left = (((0 : Int), (0 : Int), ([] : List Int), ([] : List (List Int)), ([] : List (Vl dp))), -1, left - 1) := by
  cases dp with
  | zero => rfl
  | succ dp => rw [rdV, if_pos h]; rfl
theorem rdV_bool (h : ¬ left - 1 < 0) (hk : (getNum xs at_).1 = 1) : rdV xs (dp + 1) at_ left = ((1, (getNum xs (getNum xs at_).2).1, [], [], []), (getNum xs (getNum xs at_).2).2, left - 1) := by
  rw [rdV, if_neg h, if_pos hk]; rfl
theorem rdV_int (h : ¬ left - 1 < 0) (hk : (getNum xs at_).1 = 2) : rdV xs (dp + 1) at_ left = ((2, if (getNum xs (getNum xs at_).2).1 = 1 then -((getNum xs (getNum xs (getNum xs at_).2).2).1 * 1000000 + (getNum xs (getNum xs (getNum xs (getNum xs at_).2).2).2).1) else (getNum xs (getNum xs (getNum xs at_).2).2).1 * 1000000 + (getNum xs (getNum xs (getNum xs (getNum xs at_).2).2).2).1, [], [], []), (getNum xs (getNum xs (getNum xs (getNum xs at_).2).2).2).2, left - 1) := by
  rw [rdV, if_neg h, if_neg (by omega), if_pos hk]; rfl
theorem rdV_text (h : ¬ left - 1 < 0) (hk : (getNum xs at_).1 = 3) : rdV xs (dp + 1) at_ left = ((3, 0, (getText xs (getNum xs at_).2).1, [], []), (getText xs (getNum xs at_).2).2, left - 1) := by
  rw [rdV, if_neg h, if_neg (by omega), if_neg (by omega), if_pos hk]; rfl
/-- What the kids come to. -/
abbrev kidsOf (xs : List Int) (dp : Nat) (at_ left : Int) : List (List Int) × List (Vl (dp + 1)) × Int × Int :=
  rdK (fun a l => rdV xs dp a l) xs (decide ((getNum xs at_).1 = 5)) (getNum xs (getNum xs at_).2).1.toNat [] [] (getNum xs (getNum xs at_).2).2 (left - 1)
theorem rdV_kids (h : ¬ left - 1 < 0) (hk : (getNum xs at_).1 = 4 ∨ (getNum xs at_).1 = 5) : rdV xs (dp + 1) at_ left = (((getNum xs at_).1, 0, [], (kidsOf xs dp at_ left).1, (kidsOf xs dp at_ left).2.1), (kidsOf xs dp at_ left).2.2.1, (kidsOf xs dp at_ left).2.2.2) := by
  rw [rdV, if_neg h, if_neg (by omega), if_neg (by omega), if_neg (by omega), if_pos hk]; rfl
theorem rdV_leaf (h : ¬ left - 1 < 0) (h1 : (getNum xs at_).1 ≠ 1) (h2 : (getNum xs at_).1 ≠ 2) (h3 : (getNum xs at_).1 ≠ 3) (h4 : (getNum xs at_).1 ≠ 4) (h5 : (getNum xs at_).1 ≠ 5) : rdV xs (dp + 1) at_ left = (((getNum xs at_).1, 0, [], [], []), (getNum xs at_).2, left - 1) := by
  rw [rdV, if_neg h, if_neg h1, if_neg h2, if_neg h3, if_neg (by omega)]; rfl
end

/-- One value, read at two depths. -/
def SimV : (d D : Nat) → Vl d → Vl D → Prop
  | 0, _, _, _ => False
  | _ + 1, 0, _, _ => False
  | d + 1, D + 1, v, u => v.1 = u.1 ∧ v.2.1 = u.2.1 ∧ v.2.2.1 = u.2.2.1 ∧ v.2.2.2.1 = u.2.2.2.1 ∧ v.2.2.2.2.length = u.2.2.2.2.length ∧ ∀ i (hi : i < v.2.2.2.2.length) (hj : i < u.2.2.2.2.length), SimV d D v.2.2.2.2[i] u.2.2.2.2[i]

theorem sim_nil (d D : Nat) (k n : Int) (s : List Int) (K : List (List Int)) : SimV (d + 1) (D + 1) (k, n, s, K, []) (k, n, s, K, []) := ⟨rfl, rfl, rfl, rfl, rfl, fun i hi => absurd hi (by simp)⟩

theorem sim_parts : ∀ (d D : Nat) (v : Vl d) (u : Vl D), SimV d D v u → partsV d v = partsV D u
  | 0, _, v, _, h => v.elim
  | _ + 1, 0, _, u, h => u.elim
  | d + 1, D + 1, (vk, vn, vs, vK, vL), (uk, un, us, uK, uL), h => by
    obtain ⟨_, _, _, _, hl, hk⟩ := h
    rw [parts_succ, parts_succ]
    simp only at hl hk
    have : ∀ k, k ≤ vL.length → pre (partsV d) vL k = pre (partsV D) uL k := by
      intro k
      induction k with
      | zero => intro _; simp [pre_zero]
      | succ k ih =>
        intro hk'
        rw [pre_succ _ _ k (by omega), pre_succ _ _ k (by omega), ih (by omega), sim_parts d D _ _ (hk k (by omega) (by omega))]
    rw [this vL.length (Nat.le_refl _), hl]

theorem sim_good : ∀ (d D : Nat) (v : Vl d) (u : Vl D) (deep : Nat), SimV d D v u → goodB d v deep = goodB D u deep
  | 0, _, v, _, _, h => v.elim
  | _ + 1, 0, _, u, _, h => u.elim
  | d + 1, D + 1, (vk, vn, vs, vK, vL), (uk, un, us, uK, uL), deep, h => by
    obtain ⟨h1, h2, h3, h4, hl, hk⟩ := h
    simp only at h1 h2 h3 h4 hl hk
    subst h1 h2 h3 h4
    rw [Bool.eq_iff_iff, good_succ, good_succ]
    constructor
    · rintro ⟨a, b, c⟩
      exact ⟨a, by rw [← hl]; exact b, fun j hj => by rw [← sim_good d D _ _ (deep + 1) (hk j (by omega) hj)]; exact c j (by omega)⟩
    · rintro ⟨a, b, c⟩
      exact ⟨a, by rw [hl]; exact b, fun j hj => by rw [sim_good d D _ _ (deep + 1) (hk j hj (by omega))]; exact c j (by omega)⟩

theorem sim_ok {d D : Nat} {v : Vl d} {u : Vl D} (h : SimV d D v u) : okB d v = okB D u := by
  unfold okB
  rw [sim_parts d D v u h, sim_good d D v u 1 h]

theorem kidB_sim {α β : Type} (f : α → List Int → List Int) (g : β → List Int → List Int) (m : Bool) (K : List (List Int)) (L : List α) (M : List β) (b : List Int) (hl : L.length = M.length) (h : ∀ i (hi : i < L.length) (hj : i < M.length) b, f L[i] b = g M[i] b) : ∀ k, k ≤ L.length → kidB f m K L b k = kidB g m K M b k
  | 0, _ => rfl
  | k + 1, hk => by
    rw [kidB_succ f m K L b k (by omega), kidB_succ g m K M b k (by omega), kidB_sim f g m K L M b hl h k (by omega), h k (by omega) (by omega)]

theorem sim_byt : ∀ (d D : Nat) (v : Vl d) (u : Vl D) (xs : List Int), SimV d D v u → bytV d v xs = bytV D u xs
  | 0, _, v, _, _, h => v.elim
  | _ + 1, 0, _, u, _, h => u.elim
  | d + 1, D + 1, (vk, vn, vs, vK, vL), (uk, un, us, uK, uL), xs, h => by
    obtain ⟨h1, h2, h3, h4, hl, hk⟩ := h
    simp only at h1 h2 h3 h4 hl hk
    subst h1 h2 h3 h4
    show (if vk = 1 then putNum (putNum xs vk) vn else if vk = 2 then putI (putNum xs vk) vn else if vk = 3 then putText (putNum xs vk) vs else if vk = 4 ∨ vk = 5 then kidB (fun x b => bytV d x b) (decide (vk = 5)) vK vL (putNum (putNum xs vk) vL.length) vL.length else putNum xs vk) =
      (if vk = 1 then putNum (putNum xs vk) vn else if vk = 2 then putI (putNum xs vk) vn else if vk = 3 then putText (putNum xs vk) vs else if vk = 4 ∨ vk = 5 then kidB (fun x b => bytV D x b) (decide (vk = 5)) vK uL (putNum (putNum xs vk) uL.length) uL.length else putNum xs vk)
    rw [← hl, kidB_sim (fun x b => bytV d x b) (fun x b => bytV D x b) (decide (vk = 5)) vK vL uL _ hl (fun i hi hj b => sim_byt d D _ _ b (hk i hi hj)) vL.length (Nat.le_refl _)]

theorem getText_far (cs ts rest : List Int) (h : ts.length ≤ 20) : getText (putText cs ts ++ rest) (cs.length : Nat) = (ts, (((putText cs ts).length : Nat) : Int)) := by
  have hp : putText cs ts = putNum cs ts.length ++ ts := putText_yes cs ts (by omega)
  have hg := getNum_put cs (ts ++ rest) ts.length (by omega) (by omega)
  rw [← List.append_assoc, ← hp] at hg
  have hl : (putText cs ts).length = (putNum cs ts.length).length + ts.length := by rw [hp]; simp
  rw [getText_yes _ _ (by rw [hg]; simp only [List.length_append]; omega), hg]
  simp only [Int.toNat_natCast]
  rw [hp]
  simp

/-- The bytes of what may be are read as what they are of. -/
theorem rd_kids (dp D : Nat) (m : Bool) (K : List (List Int)) (L : List (Vl D)) (b rest : List Int) (left : Int) (deep : Nat) (hpos : 1 ≤ D)
    (ih : ∀ (v : Vl D) (ys rest : List Int) (left : Int), goodB D v deep = true → (partsV D v : Int) ≤ left → partsV D v ≤ 40 → ∃ v' : Vl (dp + 1), rdV (bytV D v ys ++ rest) dp ys.length left = (v', (((bytV D v ys).length : Nat) : Int), left - partsV D v) ∧ SimV (dp + 1) D v' v)
    (h40 : pre (partsV D) L L.length ≤ 40) (hg : ∀ i (hi : i < L.length), goodB D L[i] deep = true) (hK : m = true → K.length = L.length ∧ ∀ i, i < L.length → (K.getD i []).length ≤ 20) (hp : (pre (partsV D) L L.length : Int) ≤ left) :
    ∀ n i (L' : List (Vl (dp + 1))), n + i = L.length → L'.length = i → (∀ j (hj : j < L'.length) (hj' : j < L.length), SimV (dp + 1) D L'[j] L[j]) →
      ∃ L2 : List (Vl (dp + 1)), rdK (fun a l => rdV (kidB (fun x b => bytV D x b) m K L b L.length ++ rest) dp a l) (kidB (fun x b => bytV D x b) m K L b L.length ++ rest) m n (if m then K.take i else []) L' ((kidB (fun x b => bytV D x b) m K L b i).length : Nat) (left - pre (partsV D) L i) =
        ((if m then K.take L.length else []), L2, (((kidB (fun x b => bytV D x b) m K L b L.length).length : Nat) : Int), left - pre (partsV D) L L.length) ∧ L2.length = L.length ∧ ∀ j (hj : j < L2.length) (hj' : j < L.length), SimV (dp + 1) D L2[j] L[j]
  | 0, i, L', hn, hl, hs => by
    obtain rfl : i = L.length := by omega
    exact ⟨L', rdK_zero _ _ _ _ _ _ _, hl, hs⟩
  | n + 1, i, L', hn, hl, hs => by
    have hi : i < L.length := by omega
    obtain ⟨r, hr⟩ := kid_pre (fun x b => bytV D x b) (fun x b => byt_pre D x b) m K L b (i + 1) n (by omega)
    rw [show i + 1 + n = L.length by omega] at hr
    have hps := pre_succ (partsV D) L i hi
    have hple := pre_le (partsV D) L (i + 1)
    rw [← pre_all] at hple
    have hsz := kidB_succ (fun x b => bytV D x b) m K L b i hi
    generalize hP : kidB (fun x b => bytV D x b) m K L b i = P at *
    generalize hXe : kidB (fun x b => bytV D x b) m K L b L.length ++ rest = X
    cases m with
    | false =>
      simp only [Bool.false_eq_true, if_false] at hsz
      obtain ⟨v', hv, hsim⟩ := ih L[i] P (r ++ rest) (left - pre (partsV D) L i) (hg i hi) (by omega) (by omega)
      have hX : X = bytV D L[i] P ++ (r ++ rest) := by rw [← hXe, hr, hsz, List.append_assoc]
      rw [← hX] at hv
      rw [rdK_step _ _ _ _ _ _ _ _ (by omega)]
      simp only [Bool.false_eq_true, if_false, hv]
      have := rd_kids dp D false K L b rest left deep hpos ih h40 hg hK hp n (i + 1) (L' ++ [v']) (by omega) (by simp [hl]) (fun j hj hj' => by
        by_cases e : j < L'.length
        · rw [List.getElem_append_left e]; exact hs j e hj'
        · have : j = L'.length := by simp at hj; omega
          subst this
          rw [List.getElem_append_right (Nat.le_refl _)]
          simp only [Nat.sub_self, List.getElem_cons_zero]
          have e2 : L[L'.length]'hj' = L[i] := by congr 1
          rw [e2]
          exact hsim)
      rw [hXe, hsz] at this
      simp only [Bool.false_eq_true, if_false] at this
      rw [show left - (pre (partsV D) L i : Int) - (partsV D L[i] : Int) = left - (pre (partsV D) L (i + 1) : Int) by omega]
      exact this
    | true =>
      obtain ⟨hKl, hK2⟩ := hK rfl
      simp only [if_true] at hsz
      have hg1 := getText_put P (K.getD i []) (hK2 i hi)
      obtain ⟨v', hv, hsim⟩ := ih L[i] (putText P (K.getD i [])) (r ++ rest) (left - pre (partsV D) L i) (hg i hi) (by omega) (by omega)
      have hX : X = bytV D L[i] (putText P (K.getD i [])) ++ (r ++ rest) := by rw [← hXe, hr, hsz, List.append_assoc]
      rw [← hX] at hv
      obtain ⟨r2, hr2⟩ := byt_pre D L[i] (putText P (K.getD i []))
      have hT : getText X ((P.length : Nat) : Int) = (K.getD i [], (((putText P (K.getD i [])).length : Nat) : Int)) := by
        rw [hX, hr2, List.append_assoc]
        exact getText_far P (K.getD i []) (r2 ++ (r ++ rest)) (hK2 i hi)
      rw [rdK_step _ _ _ _ _ _ _ _ (by omega)]
      simp only [if_true, hT, hv]
      have hKs : K.take (i + 1) = K.take i ++ [K.getD i []] := by
        rw [List.take_succ_eq_append_getElem (by omega)]
        congr 2
        simp [List.getD_eq_getElem?_getD, show i < K.length by omega]
      have := rd_kids dp D true K L b rest left deep hpos ih h40 hg hK hp n (i + 1) (L' ++ [v']) (by omega) (by simp [hl]) (fun j hj hj' => by
        by_cases e : j < L'.length
        · rw [List.getElem_append_left e]; exact hs j e hj'
        · have : j = L'.length := by simp at hj; omega
          subst this
          rw [List.getElem_append_right (Nat.le_refl _)]
          simp only [Nat.sub_self, List.getElem_cons_zero]
          have e2 : L[L'.length]'hj' = L[i] := by congr 1
          rw [e2]
          exact hsim)
      rw [hXe, hsz, hKs] at this
      simp only [if_true] at this
      rw [show left - (pre (partsV D) L i : Int) - (partsV D L[i] : Int) = left - (pre (partsV D) L (i + 1) : Int) by omega]
      exact this
theorem rd_zero {vk vn : Int} {vs : List Int} {vK : List (List Int)} {n : Nat} (h : shapeB vk vn vs vK n = true) :
    (vk = 1 ∨ vk = 2 ∨ vn = 0) ∧ (vk = 3 ∨ vs = []) ∧ (vk = 5 ∨ vK = []) ∧ (vk = 4 ∨ vk = 5 ∨ n = 0) := by
  simp only [shapeB, bareB, Bool.and_eq_true, Bool.or_eq_true, decide_eq_true_eq, List.length_eq_zero_iff] at h
  obtain ⟨⟨⟨⟨h1, h2⟩, h3⟩, h4⟩, _⟩ := h
  exact ⟨by rcases h1 with (h1 | h1) | h1 <;> simp [h1], h2, h3, by rcases h4 with (h4 | h4) | h4 <;> simp [h4]⟩

theorem num_app (ys rest : List Int) (n : Int) (h0 : 0 ≤ n) (h1 : n ≤ 2147483647) (X : List Int) (hX : X = putNum ys n ++ rest) : getNum X (ys.length : Nat) = (n, (((putNum ys n).length : Nat) : Int)) := by
  rw [hX]
  exact getNum_put ys rest n h0 h1

theorem rd_good : ∀ (D dp : Nat) (v : Vl D) (ys rest : List Int) (left : Int) (deep : Nat), goodB D v deep = true → 6 ≤ dp + deep → (partsV D v : Int) ≤ left → partsV D v ≤ 40 →
    ∃ v' : Vl (dp + 1), rdV (bytV D v ys ++ rest) dp ys.length left = (v', (((bytV D v ys).length : Nat) : Int), left - partsV D v) ∧ SimV (dp + 1) D v' v
  | 0, _, v, _, _, _, _, _, _, _, _ => v.elim
  | D + 1, 0, (vk, vn, vs, vK, vL), ys, rest, left, deep, hg, hd, hp, h40 => by
    obtain ⟨h1, _⟩ := (good_succ _ _ _ _ _ _ _).1 hg
    omega
  | D + 1, dp + 1, (vk, vn, vs, vK, vL), ys, rest, left, deep, hg, hd, hp, h40 => by
    obtain ⟨h1, hsh, hk⟩ := (good_succ _ _ _ _ _ _ _).1 hg
    have hparts := parts_succ D vk vn vs vK vL
    obtain ⟨hkind, _, _⟩ := or_shape hsh
    obtain ⟨z1, z2, z3, z4⟩ := rd_zero hsh
    have hk6 : 0 ≤ vk ∧ vk ≤ 6 := by omega
    obtain ⟨r, hr⟩ := byt_pre_kind D vk vn vs vK vL ys
    have hl1 : ¬ left - 1 < 0 := by omega
    have hsum := pre_all (partsV D) vL
    generalize hX : bytV (D + 1) (vk, vn, vs, vK, vL) ys ++ rest = X
    have hN := num_app ys (r ++ rest) vk hk6.1 (by omega) X (by rw [← hX, hr, List.append_assoc])
    have hX' : bytV (D + 1) (vk, vn, vs, vK, vL) ys = (bytV (D + 1) (vk, vn, vs, vK, vL) ys) := rfl
    rcases hkind with rfl | rfl | ⟨rfl, hn⟩ | ⟨rfl, hlo, hhi⟩ | ⟨rfl, hs, hb⟩ | rfl | ⟨rfl, hKl, hKs⟩
    · obtain rfl : vn = 0 := by omega
      obtain rfl : vs = [] := by simpa using z2
      obtain rfl : vK = [] := by simpa using z3
      obtain rfl : vL = [] := List.length_eq_zero_iff.1 (by omega)
      refine ⟨(0, 0, [], [], []), ?_, sim_nil _ _ _ _ _ _⟩
      rw [rdV_leaf hl1 (by rw [hN]; simp) (by rw [hN]; simp) (by rw [hN]; simp) (by rw [hN]; simp) (by rw [hN]; simp), hN, hparts, bytV_bare _ _ _ (.inl rfl)]
      (simp [pre]; rfl)
    · obtain rfl : vn = 0 := by omega
      obtain rfl : vs = [] := by simpa using z2
      obtain rfl : vK = [] := by simpa using z3
      obtain rfl : vL = [] := List.length_eq_zero_iff.1 (by omega)
      refine ⟨(6, 0, [], [], []), ?_, sim_nil _ _ _ _ _ _⟩
      rw [rdV_leaf hl1 (by rw [hN]; simp) (by rw [hN]; simp) (by rw [hN]; simp) (by rw [hN]; simp) (by rw [hN]; simp), hN, hparts, bytV_bare _ _ _ (.inr rfl)]
      (simp [pre]; rfl)
    · obtain rfl : vs = [] := by simpa using z2
      obtain rfl : vK = [] := by simpa using z3
      obtain rfl : vL = [] := List.length_eq_zero_iff.1 (by omega)
      rw [bytV_bool] at hX ⊢
      have hN2 := num_app (putNum ys 1) rest vn (by omega) (by omega) X hX.symm
      refine ⟨(1, vn, [], [], []), ?_, sim_nil _ _ _ _ _ _⟩
      rw [rdV_bool hl1 (by rw [hN]), hN, hN2, hparts]
      (simp [pre]; rfl)
    · obtain rfl : vs = [] := by simpa using z2
      obtain rfl : vK = [] := by simpa using z3
      obtain rfl : vL = [] := List.length_eq_zero_iff.1 (by omega)
      rw [bytV_int] at hX ⊢
      refine ⟨(2, vn, [], [], []), ?_, sim_nil _ _ _ _ _ _⟩
      by_cases h0 : vn < 0
      · have e : putI (putNum ys 2) vn = putNum (putNum (putNum (putNum ys 2) 1) (-vn / 1000000)) (-vn % 1000000) := if_pos h0
        rw [e] at hX ⊢
        obtain ⟨r2, hr2⟩ := num_pre (putNum (putNum (putNum ys 2) 1) (-vn / 1000000)) (-vn % 1000000)
        obtain ⟨r1, hr1⟩ := num_pre (putNum (putNum ys 2) 1) (-vn / 1000000)
        have hA := num_app (putNum ys 2) (r1 ++ (r2 ++ rest)) 1 (by omega) (by omega) X (by rw [← hX, hr2, hr1]; simp)
        have hB := num_app (putNum (putNum ys 2) 1) (r2 ++ rest) (-vn / 1000000) (by omega) (by omega) X (by rw [← hX, hr2]; simp)
        have hC := num_app (putNum (putNum (putNum ys 2) 1) (-vn / 1000000)) rest (-vn % 1000000) (by omega) (by omega) X hX.symm
        rw [rdV_int hl1 (by rw [hN]), hN, hA, hB, hC, hparts]
        have e2 : -(-vn / 1000000 * 1000000 + -vn % 1000000) = vn := by omega
        (simp [pre, e2]; rfl)
      · have e : putI (putNum ys 2) vn = putNum (putNum (putNum (putNum ys 2) 0) (vn / 1000000)) (vn % 1000000) := if_neg h0
        rw [e] at hX ⊢
        obtain ⟨r2, hr2⟩ := num_pre (putNum (putNum (putNum ys 2) 0) (vn / 1000000)) (vn % 1000000)
        obtain ⟨r1, hr1⟩ := num_pre (putNum (putNum ys 2) 0) (vn / 1000000)
        have hA := num_app (putNum ys 2) (r1 ++ (r2 ++ rest)) 0 (by omega) (by omega) X (by rw [← hX, hr2, hr1]; simp)
        have hB := num_app (putNum (putNum ys 2) 0) (r2 ++ rest) (vn / 1000000) (by omega) (by omega) X (by rw [← hX, hr2]; simp)
        have hC := num_app (putNum (putNum (putNum ys 2) 0) (vn / 1000000)) rest (vn % 1000000) (by omega) (by omega) X hX.symm
        rw [rdV_int hl1 (by rw [hN]), hN, hA, hB, hC, hparts]
        have e2 : vn / 1000000 * 1000000 + vn % 1000000 = vn := by omega
        (simp [pre, e2]; rfl)
    · obtain rfl : vn = 0 := by omega
      obtain rfl : vK = [] := by simpa using z3
      obtain rfl : vL = [] := List.length_eq_zero_iff.1 (by omega)
      rw [bytV_text] at hX ⊢
      have hT := getText_far (putNum ys 3) vs rest hs
      rw [hX] at hT
      refine ⟨(3, 0, vs, [], []), ?_, sim_nil _ _ _ _ _ _⟩
      rw [rdV_text hl1 (by rw [hN]), hN, hT, hparts]
      (simp [pre]; rfl)
    · obtain rfl : vn = 0 := by omega
      obtain rfl : vs = [] := by simpa using z2
      obtain rfl : vK = [] := by simpa using z3
      have hlen : vL.length ≤ 40 := or_len (fun i hi => hk i hi) h40
      rw [bytV_list] at hX ⊢
      obtain ⟨r3, hr3⟩ := kid_pre (fun x b => bytV D x b) (fun x b => byt_pre D x b) false ([] : List (List Int)) vL (putNum (putNum ys 4) vL.length) 0 vL.length (by omega)
      rw [Nat.zero_add] at hr3
      have hN2 := num_app (putNum ys 4) (r3 ++ rest) vL.length (by omega) (by omega) X (by rw [← hX, hr3]; show putNum _ _ ++ r3 ++ rest = _; simp)
      have hgoal : ∃ L2 : List (Vl (dp + 1)), kidsOf X dp ys.length left = ([], L2, (((kidB (fun x b => bytV D x b) false ([] : List (List Int)) vL (putNum (putNum ys 4) vL.length) vL.length).length : Nat) : Int), left - 1 - pre (partsV D) vL vL.length) ∧ L2.length = vL.length ∧ ∀ j (hj : j < L2.length) (hj' : j < vL.length), SimV (dp + 1) D L2[j] vL[j] := by
        cases D with
        | zero =>
          cases vL with
          | nil =>
            refine ⟨[], ?_, rfl, fun j hj => absurd hj (by simp)⟩
            unfold kidsOf
            rw [hN]
            simp only
            rw [hN2]
            simp [rdK, pre, kidB]
          | cons x l => exact (x : Empty).elim
        | succ D =>
          have := rd_kids dp (D + 1) false ([] : List (List Int)) vL (putNum (putNum ys 4) vL.length) rest (left - 1) (deep + 1) (by omega)
            (fun v ys rest left hg hp h4 => rd_good (D + 1) dp v ys rest left (deep + 1) hg (by omega) hp h4) (by omega) (fun i hi => hk i hi) (by simp) (by omega) vL.length 0 [] (by omega) rfl (fun j hj => absurd hj (by simp))
          rw [hX] at this
          obtain ⟨L2, e1, e2, e3⟩ := this
          refine ⟨L2, ?_, e2, e3⟩
          unfold kidsOf
          rw [hN]
          simp only
          rw [hN2]
          simp only [Int.toNat_natCast]
          simpa [kidB, pre] using e1
      obtain ⟨L2, e1, e2, e3⟩ := hgoal
      refine ⟨(4, 0, [], [], L2), ?_, rfl, rfl, rfl, rfl, e2, e3⟩
      rw [rdV_kids hl1 (by rw [hN]; simp), e1, hN, hparts, show left - 1 - (pre (partsV D) vL vL.length : Int) = left - ((1 + pre (partsV D) vL vL.length : Nat) : Int) by omega]
      rfl
    · obtain rfl : vn = 0 := by omega
      obtain rfl : vs = [] := by simpa using z2
      have hlen : vL.length ≤ 40 := or_len (fun i hi => hk i hi) h40
      rw [bytV_map] at hX ⊢
      obtain ⟨r3, hr3⟩ := kid_pre (fun x b => bytV D x b) (fun x b => byt_pre D x b) true vK vL (putNum (putNum ys 5) vL.length) 0 vL.length (by omega)
      rw [Nat.zero_add] at hr3
      have hN2 := num_app (putNum ys 5) (r3 ++ rest) vL.length (by omega) (by omega) X (by rw [← hX, hr3]; show putNum _ _ ++ r3 ++ rest = _; simp)
      have hgoal : ∃ L2 : List (Vl (dp + 1)), kidsOf X dp ys.length left = (vK, L2, (((kidB (fun x b => bytV D x b) true vK vL (putNum (putNum ys 5) vL.length) vL.length).length : Nat) : Int), left - 1 - pre (partsV D) vL vL.length) ∧ L2.length = vL.length ∧ ∀ j (hj : j < L2.length) (hj' : j < vL.length), SimV (dp + 1) D L2[j] vL[j] := by
        cases D with
        | zero =>
          cases vL with
          | nil =>
            obtain rfl : vK = [] := List.length_eq_zero_iff.1 hKl
            refine ⟨[], ?_, rfl, fun j hj => absurd hj (by simp)⟩
            unfold kidsOf
            rw [hN]
            simp only
            rw [hN2]
            simp [rdK, pre, kidB]
          | cons x l => exact (x : Empty).elim
        | succ D =>
          have := rd_kids dp (D + 1) true vK vL (putNum (putNum ys 5) vL.length) rest (left - 1) (deep + 1) (by omega)
            (fun v ys rest left hg hp h4 => rd_good (D + 1) dp v ys rest left (deep + 1) hg (by omega) hp h4) (by omega) (fun i hi => hk i hi) (fun _ => ⟨hKl, fun i hi => (hKs i hi).1⟩) (by omega) vL.length 0 [] (by omega) rfl (fun j hj => absurd hj (by simp))
          rw [hX] at this
          obtain ⟨L2, e1, e2, e3⟩ := this
          refine ⟨L2, ?_, e2, e3⟩
          unfold kidsOf
          rw [hN]
          simp only
          rw [hN2]
          simp only [Int.toNat_natCast]
          rw [← hKl, List.take_length, hKl] at e1
          simpa [kidB, pre] using e1
      obtain ⟨L2, e1, e2, e3⟩ := hgoal
      refine ⟨(5, 0, [], vK, L2), ?_, rfl, rfl, rfl, rfl, e2, e3⟩
      rw [rdV_kids hl1 (by rw [hN]; simp), e1, hN, hparts, show left - 1 - (pre (partsV D) vL vL.length : Int) = left - ((1 + pre (partsV D) vL vL.length : Nat) : Int) by omega]
      rfl
end Go.Proofs.YthnkedbmfhokiaaGreatDoor
/-
  l2say of whatever value; ValText of the specification.
-/
namespace Go.Proofs.YthnkedbmfhokiaaGreatDoor
open Go.RowKit
set_option linter.unusedVariables false
set_option linter.unusedSimpArgs false

theorem shape_says {vk vn : Int} {vs : List Int} {vK : List (List Int)} {n : Nat} (h : shapeB vk vn vs vK n = true) :
    vs.length ≤ 20 ∧ (vk = 0 ∨ vk = 6 ∨ (vk = 1 ∧ (vn = 0 ∨ vn = 1)) ∨ (vk = 2 ∧ -1000000000000 ≤ vn ∧ vn ≤ 1000000000000) ∨ vk = 3 ∨ (vk = 4 ∧ vK.length = 0) ∨ (vk = 5 ∧ vK.length = n ∧ ascB vK = true)) := by
  unfold shapeB bareB intB at h
  simp only [Bool.and_eq_true, Bool.or_eq_true, decide_eq_true_eq] at h
  obtain ⟨⟨⟨⟨h1, h2⟩, h3⟩, h4⟩, h5⟩ := h
  have htx : textB vs = true → vs.length ≤ 20 := fun ht => by
    unfold textB at ht
    simp only [Bool.and_eq_true, decide_eq_true_eq] at ht
    exact ht.1
  rcases h5 with (((((h5 | h5) | h5) | h5) | h5) | h5) | h5
  · exact ⟨by omega, .inl h5⟩
  · exact ⟨by omega, .inr (.inl h5)⟩
  · exact ⟨by omega, .inr (.inr (.inl h5))⟩
  · exact ⟨by omega, .inr (.inr (.inr (.inl ⟨h5.1, h5.2.1, h5.2.2⟩)))⟩
  · exact ⟨htx h5.2, .inr (.inr (.inr (.inr (.inl h5.1))))⟩
  · exact ⟨by omega, .inr (.inr (.inr (.inr (.inr (.inl ⟨h5, by omega⟩)))))⟩
  · exact ⟨by omega, .inr (.inr (.inr (.inr (.inr (.inr ⟨h5.1, h5.2.1, h5.2.2⟩)))))⟩

theorem kids_less {d : Nat} (vL : List (Vl d)) : ∀ k, k ≤ vL.length → k ≤ pre (partsV d) vL k := by
  intro k
  induction k with
  | zero => intro _; exact Nat.zero_le _
  | succ k ih =>
    intro hk
    have h1 := pre_succ (partsV d) vL k (by omega)
    have h2 := ih (by omega)
    have h3 : 1 ≤ partsV d vL[k] := by
      cases d with
      | zero => exact (vL[k]).elim
      | succ d => exact parts_pos d _
    omega

theorem ok_says {d : Nat} {v : Vl d} (h : okB d v = true) : goodB d v 1 = true ∧ partsV d v ≤ 40 := by
  unfold okB at h
  simp only [Bool.and_eq_true, decide_eq_true_eq] at h
  exact h

end Go.Proofs.YthnkedbmfhokiaaGreatDoor
/-
  Two readers of the same bytes, one with little room for depth, one with much: what both answer. Plain mathematics; no Go text here.
-/
namespace Go.Proofs.YthnkedbmfhokiaaGreatDoor
open Go.RowKit
set_option linter.unusedVariables false
set_option linter.unusedSimpArgs false

theorem sim_seg {R : Nat → Prop} {w : World} : ∀ (d D : Nat) (v : Vl d) (u : Vl D) (c : Value × Value × Value × Value × Value), SimV d D v u → VSeg R w d c v → VSeg R w D c u
  | 0, _, v, _, _, h, _ => v.elim
  | _ + 1, 0, _, u, _, h, _ => u.elim
  | d + 1, D + 1, (vk, vn, vs, vK, vL), (uk, un, us, uK, uL), c, h, hv => by
    obtain ⟨h1, h2, h3, h4, hl, hk⟩ := h
    simp only at h1 h2 h3 h4 hl hk
    subst h1 h2 h3 h4
    obtain ⟨a0, a1, a2, a3, a, cap, g1, g2, g3, g4, g5⟩ := hv
    simp only at g1 g2 g5
    refine ⟨a0, a1, a2, a3, a, cap, by rw [g1]; simp only [hl], by simp only; omega, g3, g4, ?_⟩
    rcases g5 with e | ⟨b, off, hb, hR, hc⟩
    · left; simp only; rw [← List.length_eq_zero_iff, ← hl, e]; rfl
    · refine .inr ⟨b, off, hb, hR, fun i hi => ?_⟩
      obtain ⟨e, he, hve⟩ := hc i (by simp only at hi; omega)
      exact ⟨e, he, sim_seg d D _ _ e (hk i (by simp only at hi; omega) hi) hve⟩

/-- What the specification's reader and what the program's reader come to. -/
def rdS (xs : List Int) : Vl 6 × Int × Int := rdV xs 5 0 40
def rdJ (xs : List Int) : Vl 42 × Int × Int := rdV xs 41 0 40
/-- .. and whether the bytes are a value's. -/
def isS (xs : List Int) : Bool := decide ((rdS xs).2.1 = xs.length) && okB 6 (rdS xs).1 && decide (bytV 6 (rdS xs).1 [] = xs)
def isJ (xs : List Int) : Bool := okB 42 (rdJ xs).1 && decide (bytV 42 (rdJ xs).1 [] = xs)

theorem rd_ok (D dp : Nat) (v : Vl D) (hok : okB D v = true) (hd : 5 ≤ dp) (xs : List Int) (hx : bytV D v [] = xs) : ∃ v' : Vl (dp + 1), rdV xs dp 0 40 = (v', ((xs.length : Nat) : Int), 40 - (partsV D v : Int)) ∧ SimV (dp + 1) D v' v := by
  subst hx
  unfold okB at hok
  simp only [Bool.and_eq_true, decide_eq_true_eq] at hok
  have := rd_good D dp v [] [] 40 1 hok.1 (by omega) (by have := hok.2; omega) hok.2
  simpa using this

theorem rd_both (xs : List Int) : isS xs = isJ xs ∧ (isS xs = true → SimV 42 6 (rdJ xs).1 (rdS xs).1) := by
  have hSJ : isS xs = true → isJ xs = true ∧ SimV 42 6 (rdJ xs).1 (rdS xs).1 := by
    intro h
    unfold isS at h
    simp only [Bool.and_eq_true, decide_eq_true_eq] at h
    obtain ⟨⟨h1, h2⟩, h3⟩ := h
    obtain ⟨v', e, hs⟩ := rd_ok 6 41 _ h2 (by omega) xs h3
    have e1 : (rdJ xs).1 = v' := by unfold rdJ; rw [e]
    rw [e1]
    refine ⟨?_, hs⟩
    unfold isJ
    rw [e1, sim_ok hs, sim_byt 42 6 _ _ [] hs, h2, h3]
    simp
  have hJS : isJ xs = true → isS xs = true := by
    intro h
    unfold isJ at h
    simp only [Bool.and_eq_true, decide_eq_true_eq] at h
    obtain ⟨h2, h3⟩ := h
    obtain ⟨v', e, hs⟩ := rd_ok 42 5 _ h2 (by omega) xs h3
    have e1 : (rdS xs).1 = v' := by unfold rdS; rw [e]
    have e2 : (rdS xs).2.1 = ((xs.length : Nat) : Int) := by unfold rdS; rw [e]
    unfold isS
    rw [e1, e2, sim_ok hs, sim_byt 6 42 _ _ [] hs, h2, h3]
    simp
  refine ⟨?_, fun h => (hSJ h).2⟩
  rw [Bool.eq_iff_iff]
  exact ⟨fun h => (hSJ h).1, hJS⟩

theorem isS_iff (xs : List Int) : isS xs = true ↔ (rdS xs).2.1 = xs.length ∧ okB 6 (rdS xs).1 = true ∧ bytV 6 (rdS xs).1 [] = xs := by
  unfold isS; simp [and_assoc]
theorem isJ_iff (xs : List Int) : isJ xs = true ↔ okB 42 (rdJ xs).1 = true ∧ bytV 42 (rdJ xs).1 [] = xs := by
  unfold isJ; simp

/-- The value that the bytes are of. -/
theorem rd_is (D : Nat) (v : Vl D) (hok : okB D v = true) : isS (bytV D v []) = true ∧ SimV 6 D (rdS (bytV D v [])).1 v := by
  obtain ⟨v', e, hs⟩ := rd_ok D 5 v hok (by omega) _ rfl
  have e1 : (rdS (bytV D v [])).1 = v' := by unfold rdS; rw [e]
  have e2 : (rdS (bytV D v [])).2.1 = (((bytV D v []).length : Nat) : Int) := by unfold rdS; rw [e]
  rw [isS_iff, e1, e2, sim_ok hs, sim_byt 6 D _ _ [] hs]
  exact ⟨⟨rfl, hok, rfl⟩, hs⟩

/-- Where a number's reading ends. -/
theorem get_at (xs : List Int) (a : Int) (hb : ∀ x ∈ xs, Byt x) : 0 ≤ (getNum xs a).1 ∧ (getNum xs a).1 ≤ 2147483647 ∧ -1 ≤ (getNum xs a).2 ∧ (getNum xs a).2 ≤ xs.length := by
  rcases getNum_fits xs a hb with h | ⟨h1, h2, j, h3, h4, h5, h6⟩
  · rw [h]; simp only; omega
  · omega
end Go.Proofs.YthnkedbmfhokiaaGreatDoor
/-
  ValText of the program: commas, quotes, numbers, words.
-/
namespace Go.Proofs.YthnkedbmfhokiaaGreatDoor
open Go.RowKit Go.Shelf
set_option linter.unusedVariables false
set_option linter.unusedSimpArgs false

/-- What a call that appends has left. -/
def ApEnd (B : Nat) (ys : List Int) (w : World) (e : Ending) (w' : World) : Prop := ∃ a c, e = .returned (.slice a ys.length c) ∧ Bts w' B (.slice a ys.length c) ys ∧ Below B w w' ∧ Kept w w'

theorem apEnd_of {B : Nat} {ys : List Int} {w w' : World} {u : Value} (h : Bts w' B u ys) (hb : Below B w w') (hk : Kept w w') : ApEnd B ys w (.returned u) w' := by
  obtain ⟨a, c, rfl, _⟩ := h.shape
  exact ⟨a, c, rfl, h, hb, hk⟩

theorem nonull_unknownPart (x : Value) (w : World) : (Instr.typeAssert (.iface 88 x) 43 84 true).run Tryz.prog w = .ok (.tuple #[.agg #[], .bool false]) w := by kernel_rfl
theorem nonull_boolPart (x : Value) (w : World) : (Instr.typeAssert (.iface 67 x) 43 84 true).run Tryz.prog w = .ok (.tuple #[.agg #[], .bool false]) w := by kernel_rfl
theorem nonull_intPart (x : Value) (w : World) : (Instr.typeAssert (.iface 68 x) 43 84 true).run Tryz.prog w = .ok (.tuple #[.agg #[], .bool false]) w := by kernel_rfl
theorem nonull_textPart (x : Value) (w : World) : (Instr.typeAssert (.iface 70 x) 43 84 true).run Tryz.prog w = .ok (.tuple #[.agg #[], .bool false]) w := by kernel_rfl
theorem nonull_listPart (x : Value) (w : World) : (Instr.typeAssert (.iface 74 x) 43 84 true).run Tryz.prog w = .ok (.tuple #[.agg #[], .bool false]) w := by kernel_rfl
theorem nonull_mapPart (x : Value) (w : World) : (Instr.typeAssert (.iface 77 x) 43 84 true).run Tryz.prog w = .ok (.tuple #[.agg #[], .bool false]) w := by kernel_rfl
theorem is_nullPart (x : Value) (w : World) : (Instr.typeAssert (.iface 84 x) 43 84 true).run Tryz.prog w = .ok (.tuple #[x, .bool true]) w := by kernel_rfl
theorem is_unknownPart (x : Value) (w : World) : (Instr.typeAssert (.iface 88 x) 43 88 true).run Tryz.prog w = .ok (.tuple #[x, .bool true]) w := by kernel_rfl

set_option maxHeartbeats 1600000 in
set_option maxRecDepth 100000 in
theorem appendComma_any (B k : Nat) (a : Option Addr) (c : Nat) (xs ys : List Int) (w : World) (hB : Bts w B (.slice a xs.length c) xs) (hBw : B ≤ w.heap.size) (hl : xs.length ≤ 1000000) (hk : k ≤ 1000) (hy0 : k = 0 → ys = xs) (hy1 : ¬ k = 0 → ys = xs ++ [44, 32]) :
    Calls Tryz.prog 43 #[.slice a xs.length c, .int .i64 k] w (ApEnd B ys w) := by
  have HB := hide' hB
  by_cases h0 : k = 0
  · have HF := hide' (hy0 h0)
    subst h0
    clear hB hy0 hy1
    go_enter Tryz.func43, Tryz.ntmps43
    go_wp2
    go_ret
    rw [HF.out]
    exact apEnd_of HB.out (Below.refl _ _) (Kept.refl _)
  · have HF := hide' (hy1 h0)
    have h0' : ((k : Int) == 0) = false := by simpa using h0
    clear h0 hy0 hy1 hB
    go_enter Tryz.func43, Tryz.ntmps43
    go_wp2_with (at_builtin; refine wpList_append_text rfl _ (.const (.string { data := #[44, 32] })) 9 (by rfl) Tryz.underlying9 B (.slice a xs.length c) xs [44, 32] (by rfl) HB.out _ (by rfl) (by simp [Byt]) (by rfl) (by (try simp); omega) hBw ?_; intro v1 w1 hv1 hg1; have hb1 := hide' ((Below.refl B w).grown hg1 hBw HB.out.own); have hk1 := hide' (kept_grown HB.out hg1); replace hv1 := hide' hv1; clear hg1)
    go_ret
    rw [HF.out]
    exact apEnd_of hv1.out hb1.out hk1.out

theorem itoa_int (n : Int) : Lib.byteCells (Lib.itoa n) = cellsOf (intT n) ∧ (Lib.itoa n).length = (intT n).length ∧ ∀ x ∈ intT n, Byt x := by
  unfold Lib.itoa intT
  by_cases h : n < 0
  · rw [if_pos h, if_pos h]
    have e : n.natAbs = (-n).toNat := by omega
    refine ⟨?_, ?_, ?_⟩
    · rw [e]; unfold Lib.byteCells cellsOf decI; simp
    · rw [e]; simp [decI]
    · intro x hx
      rcases List.mem_cons.1 hx with rfl | hx
      · unfold Byt; omega
      · exact decI_byt _ x hx
  · rw [if_neg h, if_neg h]
    refine ⟨?_, ?_, decI_byt _⟩
    · unfold Lib.byteCells cellsOf decI; simp
    · simp [decI]

/-- The table that AppendInt reads. -/
def Tab (B : Nat) (w : World) : Prop := Lib.TabBelow Tryz.prog B w "internal/strconv.uint64pow10" .u64 Lib.pow10Tab

theorem AppendInt_any (B : Nat) (n : Int) (v : Value) (xs : List Int) (w : World) (h0 : -1000000000000 ≤ n) (h1 : n ≤ 1000000000000) (hB : Bts w B v xs) (hBw : B ≤ w.heap.size) (hl : xs.length ≤ 1000000) (ht : Tab B w) :
    Calls Tryz.prog 41 #[v, .int .i64 n, .int .i64 10] w (ApEnd B (xs ++ intT n) w) := by
  refine (Tryz.strconv_AppendInt_10 B xs.length n (by omega) (by omega) v (cellsOf xs) w hB.2 hBw (by omega) ht).mono ?_
  rintro e w' ⟨u, rfl, ho, hb, hok⟩
  obtain ⟨e1, e2, e3⟩ := itoa_int n
  refine apEnd_of ⟨?_, ?_⟩ hb (fun g cs T fr h hT => hok g _ h (by simp) (by intro c fz e; simp only [Obj.cells.injEq] at e; exact hT e.2.1))
  · intro z hz
    rcases List.mem_append.1 hz with h | h
    · exact hB.1 z h
    · exact e3 z h
  · rw [e1, e2, ← cellsOf_append] at ho
    rw [List.length_append]
    exact ho
end Go.Proofs.YthnkedbmfhokiaaGreatDoor
/-
  The look-up of a key in a map of parts, as the program runs it; no statement is proved here.
-/
namespace Go.Proofs.YthnkedbmfhokiaaGreatDoor
open Go.RowKit
set_option linter.unusedVariables false
set_option linter.unusedSimpArgs false

end Go.Proofs.YthnkedbmfhokiaaGreatDoor
/-
  ValText of the program: AppendBool, appendQuoted.
-/
namespace Go.Proofs.YthnkedbmfhokiaaGreatDoor
open Go.RowKit Go.Shelf
set_option linter.unusedVariables false
set_option linter.unusedSimpArgs false

set_option maxHeartbeats 1600000 in
set_option maxRecDepth 100000 in
theorem AppendBool_any (B : Nat) (q : Bool) (a : Option Addr) (c : Nat) (xs : List Int) (w : World) (hB : Bts w B (.slice a xs.length c) xs) (hBw : B ≤ w.heap.size) (hl : xs.length ≤ 1000000) :
    Calls Tryz.prog 40 #[.slice a xs.length c, .bool q] w (ApEnd B (xs ++ (if q then [116, 114, 117, 101] else [102, 97, 108, 115, 101])) w) := by
  have HB := hide' hB
  clear hB
  cases q with
  | true =>
    have HI : Hid (Calls Tryz.prog 64 #[.slice a xs.length c, .bool true] w (ApEnd B (xs ++ [116, 114, 117, 101]) w)) := by
      show Calls _ _ _ _ _
      go_enter Tryz.func64, Tryz.ntmps64
      go_wp2_with (at_builtin; refine wpList_append_text rfl _ (.const (.string { data := #[116, 114, 117, 101] })) 9 (by rfl) Tryz.underlying9 B (.slice a xs.length c) xs [116, 114, 117, 101] (by rfl) HB.out _ (by rfl) (by simp [Byt]) (by rfl) (by (try simp); omega) hBw ?_; intro v1 w1 hv1 hg1; have hb1 := hide' ((Below.refl B w).grown hg1 hBw HB.out.own); have hk1 := hide' (kept_grown HB.out hg1); replace hv1 := hide' hv1; clear hg1)
      go_ret
      exact apEnd_of hv1.out hb1.out hk1.out
    go_enter Tryz.func40, Tryz.ntmps40
    go_wp2_with fail
    refine HI.out.mono ?_
    rintro e w1 ⟨a1, c1, rfl, hv1, hb1, hk1⟩
    have Hk := hide' hk1
    have Hv := hide' hv1
    have Hb := hide' hb1
    clear hv1 hb1 hk1
    generalize (xs ++ [116, 114, 117, 101]).length = m at *
    go_wp2
    go_ret
    exact apEnd_of Hv.out Hb.out Hk.out
  | false =>
    have HI : Hid (Calls Tryz.prog 64 #[.slice a xs.length c, .bool false] w (ApEnd B (xs ++ [102, 97, 108, 115, 101]) w)) := by
      show Calls _ _ _ _ _
      go_enter Tryz.func64, Tryz.ntmps64
      go_wp2_with (at_builtin; refine wpList_append_text rfl _ (.const (.string { data := #[102, 97, 108, 115, 101] })) 9 (by rfl) Tryz.underlying9 B (.slice a xs.length c) xs [102, 97, 108, 115, 101] (by rfl) HB.out _ (by rfl) (by simp [Byt]) (by rfl) (by (try simp); omega) hBw ?_; intro v1 w1 hv1 hg1; have hb1 := hide' ((Below.refl B w).grown hg1 hBw HB.out.own); have hk1 := hide' (kept_grown HB.out hg1); replace hv1 := hide' hv1; clear hg1)
      go_ret
      exact apEnd_of hv1.out hb1.out hk1.out
    go_enter Tryz.func40, Tryz.ntmps40
    go_wp2_with fail
    refine HI.out.mono ?_
    rintro e w1 ⟨a1, c1, rfl, hv1, hb1, hk1⟩
    have Hk := hide' hk1
    have Hv := hide' hv1
    have Hb := hide' hb1
    clear hv1 hb1 hk1
    generalize (xs ++ [102, 97, 108, 115, 101]).length = m at *
    go_wp2
    go_ret
    exact apEnd_of Hv.out Hb.out Hk.out

/-- '[]byte(s)': the block bears a mark behind its last cell. -/
theorem conv_row (xs : List Int) (hx : ∀ x ∈ xs, Byt x) (hl : xs.length ≤ 1048576) (w : World) : ∃ cap wB cur fr, (convert 9 22 (.string (strOf xs))).run Tryz.prog w = .ok (.slice (some ⟨w.heap.size, 0, none⟩) xs.length cap) wB ∧
    Seg wB (some ⟨w.heap.size, 0, none⟩) xs ∧ Below w.heap.size w wB ∧ wB.heap.size = w.heap.size + 1 ∧ wB.heap[w.heap.size]? = some (.cells cur 5 fr) ∧ fr.2 ≠ 0 := by
  obtain ⟨cap, wB, h1, h2, h3, h4⟩ := conv_back xs hx hl w
  have h1' := h1
  rw [run_bytes_of_string (P := Tryz.prog) w 9 22 5 (strOf xs) Tryz.underlying9 Tryz.underlying22 Tryz.underlying5] at h1
  simp only [Result.ok.injEq] at h1
  obtain ⟨_, hw⟩ := h1
  have hrow : ∃ cur fr, wB.heap[w.heap.size]? = some (.cells cur 5 fr) ∧ fr.2 ≠ 0 := by
    rw [← hw]
    exact ⟨_, _, heap_alloc_new w.drew _, by simp⟩
  obtain ⟨cur, fr, hr, hf⟩ := hrow
  exact ⟨cap, wB, cur, fr, h1', h2.seg.out.1, h3, h4, hr, hf⟩

theorem bts_free {w : World} {B g : Nat} {v : Value} {xs : List Int} {cur : Array Value} {fr : Nat × Nat} (h : Bts w B v xs) (hg : w.heap[g]? = some (.cells cur 5 fr)) (hf : fr.2 ≠ 0) : some g ≠ v.ownBlock := by
  intro e
  obtain ⟨_, _, ⟨rfl, _⟩ | ⟨g', cap, cur', rfl, _, hh, _⟩⟩ := h
  · simp [Value.ownBlock] at e
  · simp only [Value.ownBlock, Option.some.injEq] at e
    subst e
    rw [hg] at hh
    simp only [Option.some.injEq, Obj.cells.injEq] at hh
    obtain ⟨_, _, rfl⟩ := hh
    exact hf rfl

set_option maxHeartbeats 1600000 in
set_option maxRecDepth 100000 in
theorem appendQuoted_any (B : Nat) (a : Option Addr) (c : Nat) (xs ts : List Int) (w : World) (hB : Bts w B (.slice a xs.length c) xs) (hBw : B ≤ w.heap.size) (hl : xs.length ≤ 1000000) (ht : ∀ x ∈ ts, Byt x) (hlt : ts.length ≤ 1000) :
    Calls Tryz.prog 42 #[.slice a xs.length c, .string (strOf ts)] w (ApEnd B (xs ++ quoT ts) w) := by
  have HB := hide' hB
  clear hB
  have hA1 := HB.out.alloc (.cells #[.int .u8 34] 5)
  have hS1 := seg_one w 34 (by unfold Byt; omega)
  have hb0 : Hid (Below B w (w.alloc (.cells #[.int .u8 34] 5))) := (Below.refl _ _).alloc hBw _
  have HT := hide' ht
  have hcb : Hid (∀ wx, ∃ ck wB cur fr, (convert 9 22 (.string (strOf ts))).run Tryz.prog wx = .ok (.slice (some ⟨wx.heap.size, 0, none⟩) ts.length ck) wB ∧ Seg wB (some ⟨wx.heap.size, 0, none⟩) ts ∧ Below wx.heap.size wx wB ∧ wB.heap.size = wx.heap.size + 1 ∧ wB.heap[wx.heap.size]? = some (.cells cur 5 fr) ∧ fr.2 ≠ 0) := fun wx => conv_row ts HT.out (by omega) wx
  have HF : Hid (xs ++ quoT ts = (xs ++ 34 :: escQ (ts.take ts.length)) ++ [34]) := by show _ = _; rw [List.take_length]; simp [quoT]
  generalize hn : ts.length = n at *
  have Hn : Hid (n = ts.length) := hn.symm
  obtain ⟨res, hres⟩ : ∃ res, res = xs ++ quoT ts := ⟨_, rfl⟩
  rw [← hres] at HF
  rw [← hres]
  clear ht hn hres
  go_enter Tryz.func42, Tryz.ntmps42
  go_wp2_with (at_builtin; refine wpList_append_seg rfl (.tmp 7) (.tmp 8) (by rfl) B (.slice a xs.length c) xs [34] (by rfl) hA1 _ 1 1 rfl (by rfl) hS1 (by simp) (by simp; omega) (by simp; omega) ?_; intro v1 w1 hv1 hg1; have hb1 := hide' (hb0.out.grown hg1 (by simp; omega) HB.out.own); have hz1 : B ≤ w1.heap.size := (by have h1 := hb1.out.size; omega); obtain ⟨ck, wB, cur, fr, hcv, hSg, hbB, hzB, hrB, hfr⟩ := hcb.out w1; have HbB := hide' (Below.trans hb1.out (hbB.mono hz1)); have HvB := hide' (hv1.grow hbB); have HkB := hide' ((kept_app (Kept.refl w) hA1 hg1).trans (kept_below hbB)); have HzB := hide' hzB; have HrB := hide' hrB; have HSg := hide' hSg; have Hfr := hide' hfr; clear hg1 hbB hzB hv1 hrB hSg hfr)
  go_loopw [0, 13] (fun y i wr => ∃ k : Nat, k ≤ n ∧ i = .int .i64 k ∧ Hid (Bts wr B y (xs ++ 34 :: escQ (ts.take k))) ∧ Hid (Below B w wr) ∧ Hid (wr.heap[w1.heap.size]? = some (.cells cur 5 fr)) ∧ Hid (Kept w wr)) (fun _ i _ => n - (intOf i).toNat)
  case atStart => exact ⟨0, Nat.zero_le _, rfl, HvB, HbB, HrB, HkB⟩
  case round =>
    obtain ⟨k, hk, rfl, hB, B', hrow, hkp⟩ := hrel
    obtain ⟨ya, yc, rfl, _, _, _, _, kk⟩ := hB.out.shape
    have hz : B ≤ wr.heap.size := by have := B'.out.size; omega
    have hzw : w1.heap.size < wr.heap.size := (Array.getElem?_eq_some_iff.1 hrow.out).1
    have hk2 : (xs ++ 34 :: escQ (ts.take k)).length ≤ 1003000 := by
      have h1 := escQ_len (ts.take k)
      have h2 : (ts.take k).length ≤ ts.length := by simp [List.length_take]; omega
      have := Hn.out
      simp; omega
    have HOwn := hide' hB.out.own
    have hbA : Hid (∀ o : Obj, Below B w (wr.alloc o)) := fun o => B'.out.alloc hz o
    have hrA : Hid (∀ o : Obj, (wr.alloc o).heap[w1.heap.size]? = some (.cells cur 5 fr)) := fun o => (Below.heap_alloc wr o w1.heap.size hzw).trans hrow.out
    obtain ⟨zs, hzs⟩ : ∃ zs, zs = xs ++ 34 :: escQ (ts.take k) := ⟨_, rfl⟩
    rw [← hzs] at hB hk2 HOwn
    have hzl : zs.length = (xs ++ 34 :: escQ (ts.take k)).length := by rw [hzs]
    rw [← hzl]
    have Hne := hide' (bts_free hB.out hrow.out Hfr.out)
    by_cases hlt : k < n
    · have hlt' : (k : Int) < (n : Int) := by omega
      have hlt0 : k < ts.length := by have := Hn.out; omega
      have hst := escQ_step ts k hlt0
      have hcb' : Byt ts[k] := HT.out _ (List.getElem_mem hlt0)
      have HCell : Hid (∀ wx : World, wx.heap[w1.heap.size]? = some (.cells cur 5 fr) → wx.cell? ⟨w1.heap.size, k, none⟩ = some (.int .u8 ts[k])) := fun wx hb => by
        have h := HSg.out.byte hlt0
        rw [Nat.zero_add] at h
        exact (World.cell?_of_block (hb.trans HrB.out.symm)).trans h
      generalize ts[k] = c at *
      have hc := HCell.out wr hrow.out
      by_cases hq : c = 34 ∨ c = 92
      · rw [if_pos hq] at hst
        have HF2 : Hid (xs ++ 34 :: escQ (ts.take (k + 1)) = (zs ++ [92]) ++ [c]) := by show _ = _; rw [hst, hzs]; simp
        have hS92 := seg_one wr 92 (by unfold Byt; omega)
        have hA92 := hB.out.alloc (.cells #[.int .u8 92] 5)
        have hqq : (c == 34) = true ∨ ((c == 34) = false ∧ (c == 92) = true) := by
          rcases hq with rfl | rfl
          · exact .inl rfl
          · exact .inr ⟨rfl, rfl⟩
        have HSc : Hid (∀ wx : World, Seg (wx.alloc (.cells #[.int .u8 c] 5)) (some ⟨wx.heap.size, 0, none⟩) [c]) := fun wx => seg_one wx c hcb'
        clear hst hzs hzl hq hcb hcb'
        have main : True := trivial
        rcases hqq with h34 | ⟨h34, h92⟩
        all_goals
          go_wp2_with (first
            | (at_builtin; refine wpList_append_seg rfl (.tmp 23) (.tmp 24) (by rfl) B (.slice ya zs.length yc) zs [92] (by rfl) hA92 _ 1 1 rfl (by rfl) hS92 (by simp) (by simp; omega) (by simp; omega) ?_; intro v1' w1' hv1' hg1'; have hb1' := hide' ((hbA.out _).grown hg1' (by simp; omega) HOwn.out); have hr1' := hide' ((hg1'.block w1.heap.size (by simp; omega) Hne.out).trans (hrA.out _)); have hz1' : B ≤ w1'.heap.size := (by have h1 := hb1'.out.size; omega); have hzw' : w1.heap.size < w1'.heap.size := (Array.getElem?_eq_some_iff.1 hr1'.out).1; have hSc := HSc.out w1'; have hAc := hv1'.alloc (.cells #[.int .u8 c] 5); have HOwn1 := hide' hv1'.own; have Hne1 := hide' (bts_free hv1' hr1'.out Hfr.out); have hkp1 := hide' (kept_app hkp.out hA92 hg1'); clear hv1' hg1')
            | (at_builtin; refine wpList_append_seg rfl (.tmp 26) (.tmp 28) (by rfl) B v1' (zs ++ [92]) [c] (by rfl) hAc _ 1 1 rfl (by rfl) hSc (by simp) (by simp; omega) (by simp; omega) ?_; intro v2 w2 hv2 hg2; have hb2 := hide' ((hb1'.out.alloc hz1' _).grown hg2 (by simp; omega) HOwn1.out); have hr2 := hide' ((hg2.block w1.heap.size (by simp; omega) Hne1.out).trans ((Below.heap_alloc w1' _ w1.heap.size hzw').trans hr1'.out)); have hkp2 := hide' (kept_app hkp1.out hAc hg2); replace hv2 := hide' hv2; clear hg2))
          go_roundw
          case rel => exact ⟨k + 1, by omega, by go_num, by rw [HF2.out]; exact hv2, hb2, hr2, hkp2⟩
          case measure => simp [intOf]; omega
      · rw [if_neg hq] at hst
        have HF2 : Hid (xs ++ 34 :: escQ (ts.take (k + 1)) = zs ++ [c]) := by show _ = _; rw [hst, hzs]; simp
        have h34 : ¬ c = 34 := fun h => hq (.inl h)
        have h92 : ¬ c = 92 := fun h => hq (.inr h)
        have h34' : (c == 34) = false := by simpa using h34
        have h92' : (c == 92) = false := by simpa using h92
        have hSc := seg_one wr c hcb'
        have hAc := hB.out.alloc (.cells #[.int .u8 c] 5)
        clear hst hzs hzl hcb hcb' hq
        go_wp2_with (at_builtin; refine wpList_append_seg rfl (.tmp 26) (.tmp 28) (by rfl) B (.slice ya zs.length yc) zs [c] (by rfl) hAc _ 1 1 rfl (by rfl) hSc (by simp) (by simp; omega) (by simp; omega) ?_; intro v2 w2 hv2 hg2; have hb2 := hide' ((hbA.out _).grown hg2 (by simp; omega) HOwn.out); have hr2 := hide' ((hg2.block w1.heap.size (by simp; omega) Hne.out).trans (hrA.out _)); have hkp2 := hide' (kept_app hkp.out hAc hg2); replace hv2 := hide' hv2; clear hg2)
        go_roundw
        case rel => exact ⟨k + 1, by omega, by go_num, by rw [HF2.out]; exact hv2, hb2, hr2, hkp2⟩
        case measure => simp [intOf]; omega
    · have hkn : k = ts.length := by have := Hn.out; omega
      have hlt' : ¬ (k : Int) < (n : Int) := by omega
      have HF2 : Hid (res = zs ++ [34]) := by show _ = _; rw [HF.out, hzs, Hn.out, hkn]
      have hS34 := seg_one wr 34 (by unfold Byt; omega)
      have hA34 := hB.out.alloc (.cells #[.int .u8 34] 5)
      clear hkn hzs hzl hcb
      go_wp2_with (at_builtin; refine wpList_append_seg rfl _ _ (by rfl) B (.slice ya zs.length yc) zs [34] (by rfl) hA34 _ 1 1 rfl (by rfl) hS34 (by simp) (by simp; omega) (by simp; omega) ?_; intro v2 w2 hv2 hg2; have hb2 := hide' ((hbA.out _).grown hg2 (by simp; omega) HOwn.out); have hkp2 := hide' (kept_app hkp.out hA34 hg2); replace hv2 := hide' hv2; clear hg2)
      go_ret
      rw [HF2.out]
      exact apEnd_of hv2.out hb2.out hkp2.out
end Go.Proofs.YthnkedbmfhokiaaGreatDoor
/-
  The powers of ten, as the library's text lays them: what the row's list says of them. No statement is proved here.
-/
namespace Go.Proofs.YthnkedbmfhokiaaGreatDoor
open Go.RowKit
set_option linter.unusedVariables false

theorem tab_of_laid {w : World} (hL : laidMet Tryz.prog [("internal/strconv.uint64pow10", Lib.tabData .u64 Lib.pow10Tab)] w) : Tab w.heap.size w :=
  Lib.tabBelow_of_tabIs (Lib.tabIs_of_head (g := 0) (t := 157) (n := 20) (e := 127) (by kernel_rfl) (by kernel_rfl) (by kernel_rfl) (by kernel_rfl) (by kernel_rfl) (by kernel_rfl) hL)
end Go.Proofs.YthnkedbmfhokiaaGreatDoor
