/-
  Texts that a law leans on, one behind the other; no statement is proved here.
-/
import Derived.Test.YtmdmiiikbdnioaaPk22
import Derived.Test.YtmdmiiikbdnioaaPk14
import Derived.Test.YtmdmiiikbdnioaaPk24
/-
  Reading a value from bytes, as both readers do it: plain mathematics; no Go text here.
-/
namespace Go.Proofs.Ytmdmiiikbdnioaa
open Go.RowKit
set_option linter.unusedVariables false
set_option linter.unusedSimpArgs false

/-- The kids of a list or a map: at most n, each behind its key, if there are keys. -/
def rdK {α : Type} (f : Int → Int → α × Int × Int) (xs : List Int) (m : Bool) : Nat → List (List Int) → List α → Int → Int → List (List Int) × List α × Int × Int
  | 0, K, L, at_, left => (K, L, at_, left)
  | n + 1, K, L, at_, left => if at_ < 0 then (K, L, at_, left) else
    rdK f xs m n (if m then K ++ [(getText xs at_).1] else K) (L ++ [(f (if m then (getText xs at_).2 else at_) left).1]) (f (if m then (getText xs at_).2 else at_) left).2.1 (f (if m then (getText xs at_).2 else at_) left).2.2

/-- A value: what was read, where it ends (-1: nowhere), and how many parts may still come. -/
def rdV (xs : List Int) : (dp : Nat) → Int → Int → Vl (dp + 1) × Int × Int
  | 0, _, left => (((0 : Int), (0 : Int), ([] : List Int), ([] : List (List Int)), ([] : List (Vl 0))), -1, left - 1)
  | dp + 1, at_, left => if left - 1 < 0 then (((0 : Int), (0 : Int), ([] : List Int), ([] : List (List Int)), ([] : List (Vl (dp + 1)))), -1, left - 1) else
    if (getNum xs at_).1 = 1 then ((1, (getNum xs (getNum xs at_).2).1, [], [], []), (getNum xs (getNum xs at_).2).2, left - 1)
    else if (getNum xs at_).1 = 2 then ((2, if (getNum xs (getNum xs at_).2).1 = 1 then -((getNum xs (getNum xs (getNum xs at_).2).2).1 * 1000000 + (getNum xs (getNum xs (getNum xs (getNum xs at_).2).2).2).1) else (getNum xs (getNum xs (getNum xs at_).2).2).1 * 1000000 + (getNum xs (getNum xs (getNum xs (getNum xs at_).2).2).2).1, [], [], []), (getNum xs (getNum xs (getNum xs (getNum xs at_).2).2).2).2, left - 1)
    else if (getNum xs at_).1 = 3 then ((3, 0, (getText xs (getNum xs at_).2).1, [], []), (getText xs (getNum xs at_).2).2, left - 1)
    else if (getNum xs at_).1 = 4 ∨ (getNum xs at_).1 = 5 then
      (((getNum xs at_).1, 0, [], (rdK (fun a l => rdV xs dp a l) xs (decide ((getNum xs at_).1 = 5)) (getNum xs (getNum xs at_).2).1.toNat [] [] (getNum xs (getNum xs at_).2).2 (left - 1)).1, (rdK (fun a l => rdV xs dp a l) xs (decide ((getNum xs at_).1 = 5)) (getNum xs (getNum xs at_).2).1.toNat [] [] (getNum xs (getNum xs at_).2).2 (left - 1)).2.1),
        (rdK (fun a l => rdV xs dp a l) xs (decide ((getNum xs at_).1 = 5)) (getNum xs (getNum xs at_).2).1.toNat [] [] (getNum xs (getNum xs at_).2).2 (left - 1)).2.2.1, (rdK (fun a l => rdV xs dp a l) xs (decide ((getNum xs at_).1 = 5)) (getNum xs (getNum xs at_).2).1.toNat [] [] (getNum xs (getNum xs at_).2).2 (left - 1)).2.2.2)
    else (((getNum xs at_).1, 0, [], [], []), (getNum xs at_).2, left - 1)

theorem rdK_zero {α : Type} (f : Int → Int → α × Int × Int) (xs : List Int) (m : Bool) (K : List (List Int)) (L : List α) (at_ left : Int) : rdK f xs m 0 K L at_ left = (K, L, at_, left) := rfl
theorem rdK_end {α : Type} (f : Int → Int → α × Int × Int) (xs : List Int) (m : Bool) (n : Nat) (K : List (List Int)) (L : List α) (at_ left : Int) (h : at_ < 0) : rdK f xs m n K L at_ left = (K, L, at_, left) := by
  cases n with
  | zero => rfl
  | succ n => rw [rdK, if_pos h]
theorem rdK_step {α : Type} (f : Int → Int → α × Int × Int) (xs : List Int) (m : Bool) (n : Nat) (K : List (List Int)) (L : List α) (at_ left : Int) (h : ¬ at_ < 0) : rdK f xs m (n + 1) K L at_ left =
    rdK f xs m n (if m then K ++ [(getText xs at_).1] else K) (L ++ [(f (if m then (getText xs at_).2 else at_) left).1]) (f (if m then (getText xs at_).2 else at_) left).2.1 (f (if m then (getText xs at_).2 else at_) left).2.2 := by
  rw [rdK, if_neg h]

section
variable {xs : List Int} {dp : Nat} {at_ left : Int}
theorem rdV_zero : rdV xs 0 at_ left = (((0 : Int), (0 : Int), ([] : List Int), ([] : List (List Int)), ([] : List (Vl 0))), -1, left - 1) := rfl
theorem rdV_many (h : left - 1 < 0) : rdV xs dp at_ left = (((0 : Int), (0 : Int), ([] : List Int), ([] : List (List Int)), ([] : List (Vl dp))), -1, left - 1) := by
  cases dp with
  | zero => rfl
  | succ dp => rw [rdV, if_pos h]; rfl
theorem rdV_bool (h : ¬ left - 1 < 0) (hk : (getNum xs at_).1 = 1) : rdV xs (dp + 1) at_ left = ((1, (getNum xs (getNum xs at_).2).1, [], [], []), (getNum xs (getNum xs at_).2).2, left - 1) := by
  rw [rdV, if_neg h, if_pos hk]; rfl
theorem rdV_int (h : ¬ left - 1 < 0) (hk : (getNum xs at_).1 = 2) : rdV xs (dp + 1) at_ left = ((2, if (getNum xs (getNum xs at_).2).1 = 1 then -((getNum xs (getNum xs (getNum xs at_).2).2).1 * 1000000 + (getNum xs (getNum xs (getNum xs (getNum xs at_).2).2).2).1) else (getNum xs (getNum xs (getNum xs at_).2).2).1 * 1000000 + (getNum xs (getNum xs (getNum xs (getNum xs at_).2).2).2).1, [], [], []), (getNum xs (getNum xs (getNum xs (getNum xs at_).2).2).2).2, left - 1) := by
  rw [rdV, if_neg h, if_neg (by omega), if_pos hk]; rfl
theorem rdV_text (h : ¬ left - 1 < 0) (hk : (getNum xs at_).1 = 3) : rdV xs (dp + 1) at_ left = ((3, 0, (getText xs (getNum xs at_).2).1, [], []), (getText xs (getNum xs at_).2).2, left - 1) := by
  rw [rdV, if_neg h, if_neg (by omega), if_neg (by omega), if_pos hk]; rfl
/-- What the kids come to. -/
abbrev kidsOf (xs : List Int) (dp : Nat) (at_ left : Int) : List (List Int) × List (Vl (dp + 1)) × Int × Int :=
  rdK (fun a l => rdV xs dp a l) xs (decide ((getNum xs at_).1 = 5)) (getNum xs (getNum xs at_).2).1.toNat [] [] (getNum xs (getNum xs at_).2).2 (left - 1)
theorem rdV_kids (h : ¬ left - 1 < 0) (hk : (getNum xs at_).1 = 4 ∨ (getNum xs at_).1 = 5) : rdV xs (dp + 1) at_ left = (((getNum xs at_).1, 0, [], (kidsOf xs dp at_ left).1, (kidsOf xs dp at_ left).2.1), (kidsOf xs dp at_ left).2.2.1, (kidsOf xs dp at_ left).2.2.2) := by
  rw [rdV, if_neg h, if_neg (by omega), if_neg (by omega), if_neg (by omega), if_pos hk]; rfl
theorem rdV_leaf (h : ¬ left - 1 < 0) (h1 : (getNum xs at_).1 ≠ 1) (h2 : (getNum xs at_).1 ≠ 2) (h3 : (getNum xs at_).1 ≠ 3) (h4 : (getNum xs at_).1 ≠ 4) (h5 : (getNum xs at_).1 ≠ 5) : rdV xs (dp + 1) at_ left = (((getNum xs at_).1, 0, [], [], []), (getNum xs at_).2, left - 1) := by
  rw [rdV, if_neg h, if_neg h1, if_neg h2, if_neg h3, if_neg (by omega)]; rfl
end

/-- One value, read at two depths. -/
def SimV : (d D : Nat) → Vl d → Vl D → Prop
  | 0, _, _, _ => False
  | _ + 1, 0, _, _ => False
  | d + 1, D + 1, v, u => v.1 = u.1 ∧ v.2.1 = u.2.1 ∧ v.2.2.1 = u.2.2.1 ∧ v.2.2.2.1 = u.2.2.2.1 ∧ v.2.2.2.2.length = u.2.2.2.2.length ∧ ∀ i (hi : i < v.2.2.2.2.length) (hj : i < u.2.2.2.2.length), SimV d D v.2.2.2.2[i] u.2.2.2.2[i]

theorem sim_nil (d D : Nat) (k n : Int) (s : List Int) (K : List (List Int)) : SimV (d + 1) (D + 1) (k, n, s, K, []) (k, n, s, K, []) := ⟨rfl, rfl, rfl, rfl, rfl, fun i hi => absurd hi (by simp)⟩

theorem sim_parts : ∀ (d D : Nat) (v : Vl d) (u : Vl D), SimV d D v u → partsV d v = partsV D u
  | 0, _, v, _, h => v.elim
  | _ + 1, 0, _, u, h => u.elim
  | d + 1, D + 1, (vk, vn, vs, vK, vL), (uk, un, us, uK, uL), h => by
    obtain ⟨_, _, _, _, hl, hk⟩ := h
    rw [parts_succ, parts_succ]
    simp only at hl hk
    have : ∀ k, k ≤ vL.length → pre (partsV d) vL k = pre (partsV D) uL k := by
      intro k
      induction k with
      | zero => intro _; simp [pre_zero]
      | succ k ih =>
        intro hk'
        rw [pre_succ _ _ k (by omega), pre_succ _ _ k (by omega), ih (by omega), sim_parts d D _ _ (hk k (by omega) (by omega))]
    rw [this vL.length (Nat.le_refl _), hl]

theorem sim_good : ∀ (d D : Nat) (v : Vl d) (u : Vl D) (deep : Nat), SimV d D v u → goodB d v deep = goodB D u deep
  | 0, _, v, _, _, h => v.elim
  | _ + 1, 0, _, u, _, h => u.elim
  | d + 1, D + 1, (vk, vn, vs, vK, vL), (uk, un, us, uK, uL), deep, h => by
    obtain ⟨h1, h2, h3, h4, hl, hk⟩ := h
    simp only at h1 h2 h3 h4 hl hk
    subst h1 h2 h3 h4
    rw [Bool.eq_iff_iff, good_succ, good_succ]
    constructor
    · rintro ⟨a, b, c⟩
      exact ⟨a, by rw [← hl]; exact b, fun j hj => by rw [← sim_good d D _ _ (deep + 1) (hk j (by omega) hj)]; exact c j (by omega)⟩
    · rintro ⟨a, b, c⟩
      exact ⟨a, by rw [hl]; exact b, fun j hj => by rw [sim_good d D _ _ (deep + 1) (hk j hj (by omega))]; exact c j (by omega)⟩

theorem sim_ok {d D : Nat} {v : Vl d} {u : Vl D} (h : SimV d D v u) : okB d v = okB D u := by
  unfold okB
  rw [sim_parts d D v u h, sim_good d D v u 1 h]

theorem kidB_sim {α β : Type} (f : α → List Int → List Int) (g : β → List Int → List Int) (m : Bool) (K : List (List Int)) (L : List α) (M : List β) (b : List Int) (hl : L.length = M.length) (h : ∀ i (hi : i < L.length) (hj : i < M.length) b, f L[i] b = g M[i] b) : ∀ k, k ≤ L.length → kidB f m K L b k = kidB g m K M b k
  | 0, _ => rfl
  | k + 1, hk => by
    rw [kidB_succ f m K L b k (by omega), kidB_succ g m K M b k (by omega), kidB_sim f g m K L M b hl h k (by omega), h k (by omega) (by omega)]

theorem sim_byt : ∀ (d D : Nat) (v : Vl d) (u : Vl D) (xs : List Int), SimV d D v u → bytV d v xs = bytV D u xs
  | 0, _, v, _, _, h => v.elim
  | _ + 1, 0, _, u, _, h => u.elim
  | d + 1, D + 1, (vk, vn, vs, vK, vL), (uk, un, us, uK, uL), xs, h => by
    obtain ⟨h1, h2, h3, h4, hl, hk⟩ := h
    simp only at h1 h2 h3 h4 hl hk
    subst h1 h2 h3 h4
    show (if vk = 1 then putNum (putNum xs vk) vn else if vk = 2 then putI (putNum xs vk) vn else if vk = 3 then putText (putNum xs vk) vs else if vk = 4 ∨ vk = 5 then kidB (fun x b => bytV d x b) (decide (vk = 5)) vK vL (putNum (putNum xs vk) vL.length) vL.length else putNum xs vk) =
      (if vk = 1 then putNum (putNum xs vk) vn else if vk = 2 then putI (putNum xs vk) vn else if vk = 3 then putText (putNum xs vk) vs else if vk = 4 ∨ vk = 5 then kidB (fun x b => bytV D x b) (decide (vk = 5)) vK uL (putNum (putNum xs vk) uL.length) uL.length else putNum xs vk)
    rw [← hl, kidB_sim (fun x b => bytV d x b) (fun x b => bytV D x b) (decide (vk = 5)) vK vL uL _ hl (fun i hi hj b => sim_byt d D _ _ b (hk i hi hj)) vL.length (Nat.le_refl _)]

theorem getText_far (cs ts rest : List Int) (h : ts.length ≤ 20) : getText (putText cs ts ++ rest) (cs.length : Nat) = (ts, (((putText cs ts).length : Nat) : Int)) := by
  have hp : putText cs ts = putNum cs ts.length ++ ts := putText_yes cs ts (by omega)
  have hg := getNum_put cs (ts ++ rest) ts.length (by omega) (by omega)
  rw [← List.append_assoc, ← hp] at hg
  have hl : (putText cs ts).length = (putNum cs ts.length).length + ts.length := by rw [hp]; simp
  rw [getText_yes _ _ (by rw [hg]; simp only [List.length_append]; omega), hg]
  simp only [Int.toNat_natCast]
  rw [hp]
  simp

/-- The bytes of what may be are read as what they are of. -/
theorem rd_kids (dp D : Nat) (m : Bool) (K : List (List Int)) (L : List (Vl D)) (b rest : List Int) (left : Int) (deep : Nat) (hpos : 1 ≤ D)
    (ih : ∀ (v : Vl D) (ys rest : List Int) (left : Int), goodB D v deep = true → (partsV D v : Int) ≤ left → partsV D v ≤ 40 → ∃ v' : Vl (dp + 1), rdV (bytV D v ys ++ rest) dp ys.length left = (v', (((bytV D v ys).length : Nat) : Int), left - partsV D v) ∧ SimV (dp + 1) D v' v)
    (h40 : pre (partsV D) L L.length ≤ 40) (hg : ∀ i (hi : i < L.length), goodB D L[i] deep = true) (hK : m = true → K.length = L.length ∧ ∀ i, i < L.length → (K.getD i []).length ≤ 20) (hp : (pre (partsV D) L L.length : Int) ≤ left) :
    ∀ n i (L' : List (Vl (dp + 1))), n + i = L.length → L'.length = i → (∀ j (hj : j < L'.length) (hj' : j < L.length), SimV (dp + 1) D L'[j] L[j]) →
      ∃ L2 : List (Vl (dp + 1)), rdK (fun a l => rdV (kidB (fun x b => bytV D x b) m K L b L.length ++ rest) dp a l) (kidB (fun x b => bytV D x b) m K L b L.length ++ rest) m n (if m then K.take i else []) L' ((kidB (fun x b => bytV D x b) m K L b i).length : Nat) (left - pre (partsV D) L i) =
        ((if m then K.take L.length else []), L2, (((kidB (fun x b => bytV D x b) m K L b L.length).length : Nat) : Int), left - pre (partsV D) L L.length) ∧ L2.length = L.length ∧ ∀ j (hj : j < L2.length) (hj' : j < L.length), SimV (dp + 1) D L2[j] L[j]
  | 0, i, L', hn, hl, hs => by
    obtain rfl : i = L.length := by omega
    exact ⟨L', rdK_zero _ _ _ _ _ _ _, hl, hs⟩
  | n + 1, i, L', hn, hl, hs => by
    have hi : i < L.length := by omega
    obtain ⟨r, hr⟩ := kid_pre (fun x b => bytV D x b) (fun x b => byt_pre D x b) m K L b (i + 1) n (by omega)
    rw [show i + 1 + n = L.length by omega] at hr
    have hps := pre_succ (partsV D) L i hi
    have hple := pre_le (partsV D) L (i + 1)
    rw [← pre_all] at hple
    have hsz := kidB_succ (fun x b => bytV D x b) m K L b i hi
    generalize hP : kidB (fun x b => bytV D x b) m K L b i = P at *
    generalize hXe : kidB (fun x b => bytV D x b) m K L b L.length ++ rest = X
    cases m with
    | false =>
      simp only [Bool.false_eq_true, if_false] at hsz
      obtain ⟨v', hv, hsim⟩ := ih L[i] P (r ++ rest) (left - pre (partsV D) L i) (hg i hi) (by omega) (by omega)
      have hX : X = bytV D L[i] P ++ (r ++ rest) := by rw [← hXe, hr, hsz, List.append_assoc]
      rw [← hX] at hv
      rw [rdK_step _ _ _ _ _ _ _ _ (by omega)]
      simp only [Bool.false_eq_true, if_false, hv]
      have := rd_kids dp D false K L b rest left deep hpos ih h40 hg hK hp n (i + 1) (L' ++ [v']) (by omega) (by simp [hl]) (fun j hj hj' => by
        by_cases e : j < L'.length
        · rw [List.getElem_append_left e]; exact hs j e hj'
        · have : j = L'.length := by simp at hj; omega
          subst this
          rw [List.getElem_append_right (Nat.le_refl _)]
          simp only [Nat.sub_self, List.getElem_cons_zero]
          have e2 : L[L'.length]'hj' = L[i] := by congr 1
          rw [e2]
          exact hsim)
      rw [hXe, hsz] at this
      simp only [Bool.false_eq_true, if_false] at this
      rw [show left - (pre (partsV D) L i : Int) - (partsV D L[i] : Int) = left - (pre (partsV D) L (i + 1) : Int) by omega]
      exact this
    | true =>
      obtain ⟨hKl, hK2⟩ := hK rfl
      simp only [if_true] at hsz
      have hg1 := getText_put P (K.getD i []) (hK2 i hi)
      obtain ⟨v', hv, hsim⟩ := ih L[i] (putText P (K.getD i [])) (r ++ rest) (left - pre (partsV D) L i) (hg i hi) (by omega) (by omega)
      have hX : X = bytV D L[i] (putText P (K.getD i [])) ++ (r ++ rest) := by rw [← hXe, hr, hsz, List.append_assoc]
      rw [← hX] at hv
      obtain ⟨r2, hr2⟩ := byt_pre D L[i] (putText P (K.getD i []))
      have hT : getText X ((P.length : Nat) : Int) = (K.getD i [], (((putText P (K.getD i [])).length : Nat) : Int)) := by
        rw [hX, hr2, List.append_assoc]
        exact getText_far P (K.getD i []) (r2 ++ (r ++ rest)) (hK2 i hi)
      rw [rdK_step _ _ _ _ _ _ _ _ (by omega)]
      simp only [if_true, hT, hv]
      have hKs : K.take (i + 1) = K.take i ++ [K.getD i []] := by
        rw [List.take_succ_eq_append_getElem (by omega)]
        congr 2
        simp [List.getD_eq_getElem?_getD, show i < K.length by omega]
      have := rd_kids dp D true K L b rest left deep hpos ih h40 hg hK hp n (i + 1) (L' ++ [v']) (by omega) (by simp [hl]) (fun j hj hj' => by
        by_cases e : j < L'.length
        · rw [List.getElem_append_left e]; exact hs j e hj'
        · have : j = L'.length := by simp at hj; omega
          subst this
          rw [List.getElem_append_right (Nat.le_refl _)]
          simp only [Nat.sub_self, List.getElem_cons_zero]
          have e2 : L[L'.length]'hj' = L[i] := by congr 1
          rw [e2]
          exact hsim)
      rw [hXe, hsz, hKs] at this
      simp only [if_true] at this
      rw [show left - (pre (partsV D) L i : Int) - (partsV D L[i] : Int) = left - (pre (partsV D) L (i + 1) : Int) by omega]
      exact this
theorem rd_zero {vk vn : Int} {vs : List Int} {vK : List (List Int)} {n : Nat} (h : shapeB vk vn vs vK n = true) :
    (vk = 1 ∨ vk = 2 ∨ vn = 0) ∧ (vk = 3 ∨ vs = []) ∧ (vk = 5 ∨ vK = []) ∧ (vk = 4 ∨ vk = 5 ∨ n = 0) := by
  simp only [shapeB, bareB, Bool.and_eq_true, Bool.or_eq_true, decide_eq_true_eq, List.length_eq_zero_iff] at h
  obtain ⟨⟨⟨⟨h1, h2⟩, h3⟩, h4⟩, _⟩ := h
  exact ⟨by rcases h1 with (h1 | h1) | h1 <;> simp [h1], h2, h3, by rcases h4 with (h4 | h4) | h4 <;> simp [h4]⟩

theorem num_app (ys rest : List Int) (n : Int) (h0 : 0 ≤ n) (h1 : n ≤ 2147483647) (X : List Int) (hX : X = putNum ys n ++ rest) : getNum X (ys.length : Nat) = (n, (((putNum ys n).length : Nat) : Int)) := by
  rw [hX]
  exact getNum_put ys rest n h0 h1

theorem rd_good : ∀ (D dp : Nat) (v : Vl D) (ys rest : List Int) (left : Int) (deep : Nat), goodB D v deep = true → 6 ≤ dp + deep → (partsV D v : Int) ≤ left → partsV D v ≤ 40 →
    ∃ v' : Vl (dp + 1), rdV (bytV D v ys ++ rest) dp ys.length left = (v', (((bytV D v ys).length : Nat) : Int), left - partsV D v) ∧ SimV (dp + 1) D v' v
  | 0, _, v, _, _, _, _, _, _, _, _ => v.elim
  | D + 1, 0, (vk, vn, vs, vK, vL), ys, rest, left, deep, hg, hd, hp, h40 => by
    obtain ⟨h1, _⟩ := (good_succ _ _ _ _ _ _ _).1 hg
    omega
  | D + 1, dp + 1, (vk, vn, vs, vK, vL), ys, rest, left, deep, hg, hd, hp, h40 => by
    obtain ⟨h1, hsh, hk⟩ := (good_succ _ _ _ _ _ _ _).1 hg
    have hparts := parts_succ D vk vn vs vK vL
    obtain ⟨hkind, _, _⟩ := or_shape hsh
    obtain ⟨z1, z2, z3, z4⟩ := rd_zero hsh
    have hk6 : 0 ≤ vk ∧ vk ≤ 6 := by omega
    obtain ⟨r, hr⟩ := byt_pre_kind D vk vn vs vK vL ys
    have hl1 : ¬ left - 1 < 0 := by omega
    have hsum := pre_all (partsV D) vL
    generalize hX : bytV (D + 1) (vk, vn, vs, vK, vL) ys ++ rest = X
    have hN := num_app ys (r ++ rest) vk hk6.1 (by omega) X (by rw [← hX, hr, List.append_assoc])
    have hX' : bytV (D + 1) (vk, vn, vs, vK, vL) ys = (bytV (D + 1) (vk, vn, vs, vK, vL) ys) := rfl
    rcases hkind with rfl | rfl | ⟨rfl, hn⟩ | ⟨rfl, hlo, hhi⟩ | ⟨rfl, hs, hb⟩ | rfl | ⟨rfl, hKl, hKs⟩
    · obtain rfl : vn = 0 := by omega
      obtain rfl : vs = [] := by simpa using z2
      obtain rfl : vK = [] := by simpa using z3
      obtain rfl : vL = [] := List.length_eq_zero_iff.1 (by omega)
      refine ⟨(0, 0, [], [], []), ?_, sim_nil _ _ _ _ _ _⟩
      rw [rdV_leaf hl1 (by rw [hN]; simp) (by rw [hN]; simp) (by rw [hN]; simp) (by rw [hN]; simp) (by rw [hN]; simp), hN, hparts, bytV_bare _ _ _ (.inl rfl)]
      (simp [pre]; rfl)
    · obtain rfl : vn = 0 := by omega
      obtain rfl : vs = [] := by simpa using z2
      obtain rfl : vK = [] := by simpa using z3
      obtain rfl : vL = [] := List.length_eq_zero_iff.1 (by omega)
      refine ⟨(6, 0, [], [], []), ?_, sim_nil _ _ _ _ _ _⟩
      rw [rdV_leaf hl1 (by rw [hN]; simp) (by rw [hN]; simp) (by rw [hN]; simp) (by rw [hN]; simp) (by rw [hN]; simp), hN, hparts, bytV_bare _ _ _ (.inr rfl)]
      (simp [pre]; rfl)
    · obtain rfl : vs = [] := by simpa using z2
      obtain rfl : vK = [] := by simpa using z3
      obtain rfl : vL = [] := List.length_eq_zero_iff.1 (by omega)
      rw [bytV_bool] at hX ⊢
      have hN2 := num_app (putNum ys 1) rest vn (by omega) (by omega) X hX.symm
      refine ⟨(1, vn, [], [], []), ?_, sim_nil _ _ _ _ _ _⟩
      rw [rdV_bool hl1 (by rw [hN]), hN, hN2, hparts]
      (simp [pre]; rfl)
    · obtain rfl : vs = [] := by simpa using z2
      obtain rfl : vK = [] := by simpa using z3
      obtain rfl : vL = [] := List.length_eq_zero_iff.1 (by omega)
      rw [bytV_int] at hX ⊢
      refine ⟨(2, vn, [], [], []), ?_, sim_nil _ _ _ _ _ _⟩
      by_cases h0 : vn < 0
      · have e : putI (putNum ys 2) vn = putNum (putNum (putNum (putNum ys 2) 1) (-vn / 1000000)) (-vn % 1000000) := if_pos h0
        rw [e] at hX ⊢
        obtain ⟨r2, hr2⟩ := num_pre (putNum (putNum (putNum ys 2) 1) (-vn / 1000000)) (-vn % 1000000)
        obtain ⟨r1, hr1⟩ := num_pre (putNum (putNum ys 2) 1) (-vn / 1000000)
        have hA := num_app (putNum ys 2) (r1 ++ (r2 ++ rest)) 1 (by omega) (by omega) X (by rw [← hX, hr2, hr1]; simp)
        have hB := num_app (putNum (putNum ys 2) 1) (r2 ++ rest) (-vn / 1000000) (by omega) (by omega) X (by rw [← hX, hr2]; simp)
        have hC := num_app (putNum (putNum (putNum ys 2) 1) (-vn / 1000000)) rest (-vn % 1000000) (by omega) (by omega) X hX.symm
        rw [rdV_int hl1 (by rw [hN]), hN, hA, hB, hC, hparts]
        have e2 : -(-vn / 1000000 * 1000000 + -vn % 1000000) = vn := by omega
        (simp [pre, e2]; rfl)
      · have e : putI (putNum ys 2) vn = putNum (putNum (putNum (putNum ys 2) 0) (vn / 1000000)) (vn % 1000000) := if_neg h0
        rw [e] at hX ⊢
        obtain ⟨r2, hr2⟩ := num_pre (putNum (putNum (putNum ys 2) 0) (vn / 1000000)) (vn % 1000000)
        obtain ⟨r1, hr1⟩ := num_pre (putNum (putNum ys 2) 0) (vn / 1000000)
        have hA := num_app (putNum ys 2) (r1 ++ (r2 ++ rest)) 0 (by omega) (by omega) X (by rw [← hX, hr2, hr1]; simp)
        have hB := num_app (putNum (putNum ys 2) 0) (r2 ++ rest) (vn / 1000000) (by omega) (by omega) X (by rw [← hX, hr2]; simp)
        have hC := num_app (putNum (putNum (putNum ys 2) 0) (vn / 1000000)) rest (vn % 1000000) (by omega) (by omega) X hX.symm
        rw [rdV_int hl1 (by rw [hN]), hN, hA, hB, hC, hparts]
        have e2 : vn / 1000000 * 1000000 + vn % 1000000 = vn := by omega
        (simp [pre, e2]; rfl)
    · obtain rfl : vn = 0 := by omega
      obtain rfl : vK = [] := by simpa using z3
      obtain rfl : vL = [] := List.length_eq_zero_iff.1 (by omega)
      rw [bytV_text] at hX ⊢
      have hT := getText_far (putNum ys 3) vs rest hs
      rw [hX] at hT
      refine ⟨(3, 0, vs, [], []), ?_, sim_nil _ _ _ _ _ _⟩
      rw [rdV_text hl1 (by rw [hN]), hN, hT, hparts]
      (simp [pre]; rfl)
    · obtain rfl : vn = 0 := by omega
      obtain rfl : vs = [] := by simpa using z2
      obtain rfl : vK = [] := by simpa using z3
      have hlen : vL.length ≤ 40 := or_len (fun i hi => hk i hi) h40
      rw [bytV_list] at hX ⊢
      obtain ⟨r3, hr3⟩ := kid_pre (fun x b => bytV D x b) (fun x b => byt_pre D x b) false ([] : List (List Int)) vL (putNum (putNum ys 4) vL.length) 0 vL.length (by omega)
      rw [Nat.zero_add] at hr3
      have hN2 := num_app (putNum ys 4) (r3 ++ rest) vL.length (by omega) (by omega) X (by rw [← hX, hr3]; show putNum _ _ ++ r3 ++ rest = _; simp)
      have hgoal : ∃ L2 : List (Vl (dp + 1)), kidsOf X dp ys.length left = ([], L2, (((kidB (fun x b => bytV D x b) false ([] : List (List Int)) vL (putNum (putNum ys 4) vL.length) vL.length).length : Nat) : Int), left - 1 - pre (partsV D) vL vL.length) ∧ L2.length = vL.length ∧ ∀ j (hj : j < L2.length) (hj' : j < vL.length), SimV (dp + 1) D L2[j] vL[j] := by
        cases D with
        | zero =>
          cases vL with
          | nil =>
            refine ⟨[], ?_, rfl, fun j hj => absurd hj (by simp)⟩
            unfold kidsOf
            rw [hN]
            simp only
            rw [hN2]
            simp [rdK, pre, kidB]
          | cons x l => exact (x : Empty).elim
        | succ D =>
          have := rd_kids dp (D + 1) false ([] : List (List Int)) vL (putNum (putNum ys 4) vL.length) rest (left - 1) (deep + 1) (by omega)
            (fun v ys rest left hg hp h4 => rd_good (D + 1) dp v ys rest left (deep + 1) hg (by omega) hp h4) (by omega) (fun i hi => hk i hi) (by simp) (by omega) vL.length 0 [] (by omega) rfl (fun j hj => absurd hj (by simp))
          rw [hX] at this
          obtain ⟨L2, e1, e2, e3⟩ := this
          refine ⟨L2, ?_, e2, e3⟩
          unfold kidsOf
          rw [hN]
          simp only
          rw [hN2]
          simp only [Int.toNat_natCast]
          simpa [kidB, pre] using e1
      obtain ⟨L2, e1, e2, e3⟩ := hgoal
      refine ⟨(4, 0, [], [], L2), ?_, rfl, rfl, rfl, rfl, e2, e3⟩
      rw [rdV_kids hl1 (by rw [hN]; simp), e1, hN, hparts, show left - 1 - (pre (partsV D) vL vL.length : Int) = left - ((1 + pre (partsV D) vL vL.length : Nat) : Int) by omega]
      rfl
    · obtain rfl : vn = 0 := by omega
      obtain rfl : vs = [] := by simpa using z2
      have hlen : vL.length ≤ 40 := or_len (fun i hi => hk i hi) h40
      rw [bytV_map] at hX ⊢
      obtain ⟨r3, hr3⟩ := kid_pre (fun x b => bytV D x b) (fun x b => byt_pre D x b) true vK vL (putNum (putNum ys 5) vL.length) 0 vL.length (by omega)
      rw [Nat.zero_add] at hr3
      have hN2 := num_app (putNum ys 5) (r3 ++ rest) vL.length (by omega) (by omega) X (by rw [← hX, hr3]; show putNum _ _ ++ r3 ++ rest = _; simp)
      have hgoal : ∃ L2 : List (Vl (dp + 1)), kidsOf X dp ys.length left = (vK, L2, (((kidB (fun x b => bytV D x b) true vK vL (putNum (putNum ys 5) vL.length) vL.length).length : Nat) : Int), left - 1 - pre (partsV D) vL vL.length) ∧ L2.length = vL.length ∧ ∀ j (hj : j < L2.length) (hj' : j < vL.length), SimV (dp + 1) D L2[j] vL[j] := by
        cases D with
        | zero =>
          cases vL with
          | nil =>
            obtain rfl : vK = [] := List.length_eq_zero_iff.1 hKl
            refine ⟨[], ?_, rfl, fun j hj => absurd hj (by simp)⟩
            unfold kidsOf
            rw [hN]
            simp only
            rw [hN2]
            simp [rdK, pre, kidB]
          | cons x l => exact (x : Empty).elim
        | succ D =>
          have := rd_kids dp (D + 1) true vK vL (putNum (putNum ys 5) vL.length) rest (left - 1) (deep + 1) (by omega)
            (fun v ys rest left hg hp h4 => rd_good (D + 1) dp v ys rest left (deep + 1) hg (by omega) hp h4) (by omega) (fun i hi => hk i hi) (fun _ => ⟨hKl, fun i hi => (hKs i hi).1⟩) (by omega) vL.length 0 [] (by omega) rfl (fun j hj => absurd hj (by simp))
          rw [hX] at this
          obtain ⟨L2, e1, e2, e3⟩ := this
          refine ⟨L2, ?_, e2, e3⟩
          unfold kidsOf
          rw [hN]
          simp only
          rw [hN2]
          simp only [Int.toNat_natCast]
          rw [← hKl, List.take_length, hKl] at e1
          simpa [kidB, pre] using e1
      obtain ⟨L2, e1, e2, e3⟩ := hgoal
      refine ⟨(5, 0, [], vK, L2), ?_, rfl, rfl, rfl, rfl, e2, e3⟩
      rw [rdV_kids hl1 (by rw [hN]; simp), e1, hN, hparts, show left - 1 - (pre (partsV D) vL vL.length : Int) = left - ((1 + pre (partsV D) vL vL.length : Nat) : Int) by omega]
      rfl
end Go.Proofs.Ytmdmiiikbdnioaa
/-
  A slice of parts, read place by place; no statement is proved here.
-/
namespace Go.Proofs.Ytmdmiiikbdnioaa
open Go.RowKit
set_option linter.unusedVariables false

theorem PLSeg.at {R : Nat → Prop} {w : World} {d : Nat} {a : Option Addr} {n cap : Nat} {l : List (Vl d)} (h : PLSeg R w d (.slice a n cap) l) {k : Nat} (hk : k < l.length) : ∃ b off t x, a = some ⟨b, off, none⟩ ∧ R b ∧ w.cell? ⟨b, off + k, none⟩ = some (.iface t x) ∧ PSeg R w d (.iface t x) (l[k]) := by
  obtain ⟨a', cap', e, hc⟩ := h
  simp only [Value.slice.injEq] at e
  obtain ⟨rfl, _, _⟩ := e
  rcases hc with h0 | ⟨b, off, rfl, hR, hc⟩
  · rw [h0] at hk; simp at hk
  · obtain ⟨u, hu, hv⟩ := hc k hk
    obtain ⟨t, x, rfl⟩ := hv.shape
    exact ⟨b, off, t, x, rfl, hR, hu, hv⟩

theorem PLSeg.grow {w w' : World} {d : Nat} {x : Value} {l : List (Vl d)} (h : PLSeg (fun b => b < w.heap.size) w d x l) (hb : Below w.heap.size w w') : PLSeg (fun b => b < w.heap.size) w' d x l := by
  obtain ⟨a, cap, e, hc⟩ := h
  refine ⟨a, cap, e, ?_⟩
  rcases hc with h0 | ⟨b, off, e1, hR, hc⟩
  · exact .inl h0
  · refine .inr ⟨b, off, e1, hR, fun i hi => ?_⟩
    obtain ⟨u, hu, hv⟩ := hc i hi
    exact ⟨u, (cell_agree (agree_below hb) hR).trans hu, PSeg.carry (fun b hb => hb) (agree_below hb) d hv⟩
end Go.Proofs.Ytmdmiiikbdnioaa
/-
  mapWith of the program, walked: it makes a map of names and parts.
-/
namespace Go.Proofs.Ytmdmiiikbdnioaa
open Go.RowKit
set_option linter.unusedVariables false
set_option linter.unusedSimpArgs false

theorem keyS (xs : List Int) (h : xs.length ≤ maxLen) : Go.keyOf Try.prog 9 (.string (strOf xs)) = some (.string (u8s xs)) :=
  WideMaps.keyOf_string_mk Try.underlying9 (by show (xs.map _).toArray.size ≤ maxLen; rw [List.size_toArray, List.length_map]; exact h)

/-- What mapWith leaves: a new map with these entries. -/
def MapWEnd (vK : List (List Int)) (ps : List Value) (m : Nat) (w : World) (e : Ending) (w' : World) : Prop :=
  ∃ b, e = .returned (.agg #[.map (some b)]) ∧ w.heap.size ≤ b ∧ b < w'.heap.size ∧ w'.ownsMap Try.prog 9 tokR b m (mapD vK ps m) ∧ Below w.heap.size w w'

set_option maxHeartbeats 4000000 in
theorem mapWith_of (N : Nat) (z : Value) (vK : List (List Int)) (m : Nat) (a : Option Addr) (cap : Nat) (ps : List Value) (w : World) (hz : KSeg (fun b => b < N) w z vK) (hN : N ≤ w.heap.size) (hkl : vK.length = m) (hlen : m ≤ 40)
    (hcell : m = 0 ∨ ∃ b off, a = some ⟨b, off, none⟩ ∧ b < w.heap.size ∧ ∀ i, i < m → w.cell? ⟨b, off + i, none⟩ = some (ps.getD i .nilIface)) (hsh : ∀ i, i < m → ∃ pt px, ps.getD i .nilIface = .iface pt px) :
    Calls Try.prog 57 #[z, .slice a m cap] w (MapWEnd vK ps m w) := by
  have HZ := hide' hz
  have HC := hide' hcell
  have HSh := hide' hsh
  have HKL := hide' hkl
  obtain ⟨a3, p3, rfl, hlc3, hcm3, ka3, _⟩ := hz
  unfold maxLen at hcm3
  have hmk := run_makeMapN 76 9 44 (m : Int) (w.alloc (.cells #[.map none] 78)) Try.underlying76
  have hM0 : ((w.alloc (.cells #[.map none] 78)).alloc (.map #[] 0)).ownsMap Try.prog 9 tokR (w.heap.size + 1) 0 (mapD vK ps 0) := by
    have := World.ownsMap_made (w.alloc (.cells #[.map none] 78)) Try.prog 9 tokR
    rw [World.size_alloc] at this
    exact this
  rw [World.size_alloc] at hmk
  rw [hkl] at HZ
  rw [hkl] at hlc3
  rw [hkl]
  clear hcell hsh hkl
  go_enter Try.func57, Try.ntmps57
  go_wp2
  go_loopw [13] (fun i wr => ∃ k : Nat, k ≤ m ∧ i = .int .i64 k ∧ wr.ownsMap Try.prog 9 tokR (w.heap.size + 1) k (mapD vK ps k) ∧ Hid (((w.alloc (.cells #[.map none] 78)).alloc (.map #[] 0)).grownBy wr (some (w.heap.size + 1)))) (fun i _ => m - (intOf i).toNat)
  case atStart => exact ⟨0, Nat.zero_le _, rfl, hM0, World.grownBy.refl _ _⟩
  case round =>
    obtain ⟨k, hk, rfl, hown, hgr⟩ := hrel
    clear hM0 hmk
    have hal1 : w.grownBy (w.alloc (.cells #[.map none] 78)) none := World.grownBy_alloc w _ none
    have hal2 : (w.alloc (.cells #[.map none] 78)).grownBy ((w.alloc (.cells #[.map none] 78)).alloc (.map #[] 0)) none := World.grownBy_alloc _ _ none
    have hlow2 : ∀ b, b < w.heap.size + 1 → wr.heap[b]? = (w.alloc (.cells #[.map none] 78)).heap[b]? := fun b hb => (hgr.out.block b (by simp; omega) (by simp; omega)).trans (hal2.block b (by simp; omega) (by simp))
    have hlow : ∀ b, b < w.heap.size → wr.heap[b]? = w.heap[b]? := fun b hb => (hlow2 b (by omega)).trans (hal1.block b hb (by simp))
    by_cases hlt : k < m
    · have hlt' : (k : Int) < (m : Int) := by omega
      have hit : ∃ b off, a = some ⟨b, off, none⟩ ∧ wr.cell? ⟨b, off + k, none⟩ = some (ps.getD k .nilIface) := by
        rcases HC.out with h0 | ⟨b, off, rfl, hb, hcc⟩
        · omega
        · exact ⟨b, off, rfl, (World.cell?_of_block (hlow b hb)).trans (hcc k hlt)⟩
      obtain ⟨ib, io, rfl, hitem⟩ := hit
      have hag : Agree (fun b => b < N) w wr := fun b hb => hlow b (by omega)
      have hKr : KSeg (fun b => b < N) wr (.slice a3 m p3) vK := HZ.out.agree hag
      have hltK : k < vK.length := by have := HKL.out; omega
      obtain ⟨kb, ko, rfl, hat⟩ := hKr.at hltK
      obtain ⟨s2, e2, hu, g2, m2⟩ := hat k hltK
      have hcv := conv_seg e2 g2
      have hkey := keyS (vK.getD k []) m2
      have HD : Hid (mapD vK ps (k + 1) = (mapD vK ps k).put (.string (u8s (vK.getD k []))) (.held (ps.getD k .nilIface))) := rfl
      obtain ⟨pt, px, hpx⟩ := HSh.out k hlt
      rw [hpx] at hitem HD
      generalize vK.getD k [] = ys at *
      clear hlow hlow2 hag hKr hat g2 hal1 hal2 hpx
      go_wp2_with (at_mapUpdate; refine wpList_mapUpdate_own _ rfl _ _ _ 76 rfl 9 44 (Maps.string_keyed Try.underlying9) Try.underlying76 tokR (w.heap.size + 1) k _ rfl hown (by unfold maxLen; omega) _ _ _ rfl rfl hkey _ [] rfl ?_; intro w3 hown3 hg3)
      have hown4 : w3.ownsMap Try.prog 9 tokR (w.heap.size + 1) (k + 1) (mapD vK ps (k + 1)) := by rw [HD.out]; exact hown3
      have hgr3 : Hid (((w.alloc (.cells #[.map none] 78)).alloc (.map #[] 0)).grownBy w3 (some (w.heap.size + 1))) := grownBy_trans hgr.out hg3
      clear hown3 hg3 hown hgr hkey hcv hitem hu
      go_wp2
      go_roundw
      case rel => exact ⟨k + 1, by omega, by go_num, hown4, hgr3⟩
      case measure => simp [intOf]; omega
    · have hkn : k = m := by omega
      have hlt' : ¬ (k : Int) < (m : Int) := by omega
      obtain rfl := hkn
      have hsz3 : w.heap.size + 2 ≤ wr.heap.size := by have := hgr.out.size; simpa using this
      have hR : wr.heap[w.heap.size]? = some (.cells #[.map none] 78 (0, 0)) := (hlow2 w.heap.size (by omega)).trans (MapKept.heap_alloc w _).1
      have rc : wr.cell? ⟨w.heap.size, 0, none⟩ = some (.map none) := by rw [cell_of_row wr w.heap.size 0 _ _ _ hR]; rfl
      have rf : wr.frozen? ⟨w.heap.size, 0, none⟩ = false := frozen_of_row _ _ _ _ _ hR
      have hBw : Below w.heap.size w wr := ⟨hgr.out.os, hgr.out.tape, hgr.out.output, by omega, fun b hb => hlow b hb⟩
      have HR := hide' hR
      have HBw := hide' hBw
      clear hlow hlow2 hal1 hal2 hgr hR hBw
      go_wp2_with fail
      have hrow := heap_setCell_same wr w.heap.size 0 _ _ (.map (some (w.heap.size + 1))) HR.out
      have hc := cell_of_row _ _ 0 _ _ _ hrow
      have hg := grown1 wr w.heap.size 0 (.map (some (w.heap.size + 1)))
      refine bodyPost_ret (v := .agg #[.map (some (w.heap.size + 1))]) (by simp [results, Try.results57, go_sem, hc]) rfl ?_
      exact ⟨w.heap.size + 1, rfl, by omega, by simp [World.setCell]; omega, hown.kept hg (by simp), HBw.out.grown hg (by omega) (by intro j hj; simp at hj; omega)⟩
end Go.Proofs.Ytmdmiiikbdnioaa
/-
  Two readers of the same bytes, one with little room for depth, one with much: what both answer. Plain mathematics; no Go text here.
-/
namespace Go.Proofs.Ytmdmiiikbdnioaa
open Go.RowKit
set_option linter.unusedVariables false
set_option linter.unusedSimpArgs false

theorem sim_symm : ∀ (d D : Nat) (v : Vl d) (u : Vl D), SimV d D v u → SimV D d u v
  | 0, _, v, _, h => v.elim
  | _ + 1, 0, _, u, h => u.elim
  | d + 1, D + 1, (vk, vn, vs, vK, vL), (uk, un, us, uK, uL), h => by
    obtain ⟨h1, h2, h3, h4, hl, hk⟩ := h
    exact ⟨h1.symm, h2.symm, h3.symm, h4.symm, hl.symm, fun i hi hj => sim_symm d D _ _ (hk i hj hi)⟩

theorem sim_seg {R : Nat → Prop} {w : World} : ∀ (d D : Nat) (v : Vl d) (u : Vl D) (c : Value × Value × Value × Value × Value), SimV d D v u → VSeg R w d c v → VSeg R w D c u
  | 0, _, v, _, _, h, _ => v.elim
  | _ + 1, 0, _, u, _, h, _ => u.elim
  | d + 1, D + 1, (vk, vn, vs, vK, vL), (uk, un, us, uK, uL), c, h, hv => by
    obtain ⟨h1, h2, h3, h4, hl, hk⟩ := h
    simp only at h1 h2 h3 h4 hl hk
    subst h1 h2 h3 h4
    obtain ⟨a0, a1, a2, a3, a, cap, g1, g2, g3, g4, g5⟩ := hv
    simp only at g1 g2 g5
    refine ⟨a0, a1, a2, a3, a, cap, by rw [g1]; simp only [hl], by simp only; omega, g3, g4, ?_⟩
    rcases g5 with e | ⟨b, off, hb, hR, hc⟩
    · left; simp only; rw [← List.length_eq_zero_iff, ← hl, e]; rfl
    · refine .inr ⟨b, off, hb, hR, fun i hi => ?_⟩
      obtain ⟨e, he, hve⟩ := hc i (by simp only at hi; omega)
      exact ⟨e, he, sim_seg d D _ _ e (hk i (by simp only at hi; omega) hi) hve⟩

/-- What the specification's reader and what the program's reader come to. -/
def rdS (xs : List Int) : Vl 6 × Int × Int := rdV xs 5 0 40
def rdJ (xs : List Int) : Vl 42 × Int × Int := rdV xs 41 0 40
/-- .. and whether the bytes are a value's. -/
def isS (xs : List Int) : Bool := decide ((rdS xs).2.1 = xs.length) && okB 6 (rdS xs).1 && decide (bytV 6 (rdS xs).1 [] = xs)
def isJ (xs : List Int) : Bool := okB 42 (rdJ xs).1 && decide (bytV 42 (rdJ xs).1 [] = xs)

theorem rd_ok (D dp : Nat) (v : Vl D) (hok : okB D v = true) (hd : 5 ≤ dp) (xs : List Int) (hx : bytV D v [] = xs) : ∃ v' : Vl (dp + 1), rdV xs dp 0 40 = (v', ((xs.length : Nat) : Int), 40 - (partsV D v : Int)) ∧ SimV (dp + 1) D v' v := by
  subst hx
  unfold okB at hok
  simp only [Bool.and_eq_true, decide_eq_true_eq] at hok
  have := rd_good D dp v [] [] 40 1 hok.1 (by omega) (by have := hok.2; omega) hok.2
  simpa using this

theorem rd_both (xs : List Int) : isS xs = isJ xs ∧ (isS xs = true → SimV 42 6 (rdJ xs).1 (rdS xs).1) := by
  have hSJ : isS xs = true → isJ xs = true ∧ SimV 42 6 (rdJ xs).1 (rdS xs).1 := by
    intro h
    unfold isS at h
    simp only [Bool.and_eq_true, decide_eq_true_eq] at h
    obtain ⟨⟨h1, h2⟩, h3⟩ := h
    obtain ⟨v', e, hs⟩ := rd_ok 6 41 _ h2 (by omega) xs h3
    have e1 : (rdJ xs).1 = v' := by unfold rdJ; rw [e]
    rw [e1]
    refine ⟨?_, hs⟩
    unfold isJ
    rw [e1, sim_ok hs, sim_byt 42 6 _ _ [] hs, h2, h3]
    simp
  have hJS : isJ xs = true → isS xs = true := by
    intro h
    unfold isJ at h
    simp only [Bool.and_eq_true, decide_eq_true_eq] at h
    obtain ⟨h2, h3⟩ := h
    obtain ⟨v', e, hs⟩ := rd_ok 42 5 _ h2 (by omega) xs h3
    have e1 : (rdS xs).1 = v' := by unfold rdS; rw [e]
    have e2 : (rdS xs).2.1 = ((xs.length : Nat) : Int) := by unfold rdS; rw [e]
    unfold isS
    rw [e1, e2, sim_ok hs, sim_byt 6 42 _ _ [] hs, h2, h3]
    simp
  refine ⟨?_, fun h => (hSJ h).2⟩
  rw [Bool.eq_iff_iff]
  exact ⟨fun h => (hSJ h).1, hJS⟩

theorem isS_iff (xs : List Int) : isS xs = true ↔ (rdS xs).2.1 = xs.length ∧ okB 6 (rdS xs).1 = true ∧ bytV 6 (rdS xs).1 [] = xs := by
  unfold isS; simp [and_assoc]
theorem isJ_iff (xs : List Int) : isJ xs = true ↔ okB 42 (rdJ xs).1 = true ∧ bytV 42 (rdJ xs).1 [] = xs := by
  unfold isJ; simp

/-- The value that the bytes are of. -/
theorem rd_is (D : Nat) (v : Vl D) (hok : okB D v = true) : isS (bytV D v []) = true ∧ SimV 6 D (rdS (bytV D v [])).1 v := by
  obtain ⟨v', e, hs⟩ := rd_ok D 5 v hok (by omega) _ rfl
  have e1 : (rdS (bytV D v [])).1 = v' := by unfold rdS; rw [e]
  have e2 : (rdS (bytV D v [])).2.1 = (((bytV D v []).length : Nat) : Int) := by unfold rdS; rw [e]
  rw [isS_iff, e1, e2, sim_ok hs, sim_byt 6 D _ _ [] hs]
  exact ⟨⟨rfl, hok, rfl⟩, hs⟩

/-- Where a number's reading ends. -/
theorem get_at (xs : List Int) (a : Int) (hb : ∀ x ∈ xs, Byt x) : 0 ≤ (getNum xs a).1 ∧ (getNum xs a).1 ≤ 2147483647 ∧ -1 ≤ (getNum xs a).2 ∧ (getNum xs a).2 ≤ xs.length := by
  rcases getNum_fits xs a hb with h | ⟨h1, h2, j, h3, h4, h5, h6⟩
  · rw [h]; simp only; omega
  · omega
end Go.Proofs.Ytmdmiiikbdnioaa
