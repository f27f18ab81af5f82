/-
  Texts that a law leans on, one behind the other; no statement is proved here.
-/
import Derived.Test.YtenfnbnhdmkhkaaPk17
/-
  The order of values: it is one; and values are alike just if their bytes are. Plain mathematics.
-/
namespace Go.Proofs.Ytenfnbnhdmkhkaa
open Go.RowKit
set_option linter.unusedVariables false
set_option linter.unusedSimpArgs false

/-- Of three: not ahead, and alike only if all are. -/
def T3 (x y z : Int) : Prop := 0 ≤ x → 0 ≤ y → 0 ≤ z ∧ (z = 0 → x = 0 ∧ y = 0)
/-- First this, then that. -/
def lex (x y : Int) : Int := if x ≠ 0 then x else y

theorem t3_lex {x1 y1 z1 x2 y2 z2 : Int} (h1 : T3 x1 y1 z1) (h2 : x1 = 0 → y1 = 0 → T3 x2 y2 z2) : T3 (lex x1 x2) (lex y1 y2) (lex z1 z2) := by
  unfold T3 lex at *
  intro ha hb
  have hx : 0 ≤ x1 := by by_cases h : x1 = 0 <;> simp_all
  have hy : 0 ≤ y1 := by by_cases h : y1 = 0 <;> simp_all
  obtain ⟨hz, he⟩ := h1 hx hy
  by_cases hz0 : z1 = 0
  · obtain ⟨e1, e2⟩ := he hz0
    subst e1 e2 hz0
    simp at ha hb ⊢
    exact h2 rfl rfl ha hb
  · rw [if_pos hz0]
    exact ⟨hz, fun e => absurd e hz0⟩

theorem lex_neg (x y : Int) : lex (-x) (-y) = - lex x y := by
  unfold lex
  by_cases h : x = 0 <;> simp [h]

theorem or_num (a b c : Int) : T3 (numC a b) (numC b c) (numC a c) := by
  unfold T3 numC
  intro h1 h2
  split at h1 <;> split at h2 <;> split <;> (try split at h1) <;> (try split at h2) <;> (try split) <;> simp_all <;> omega
theorem num_zero (a b : Int) : numC a b = 0 ↔ a = b := by
  unfold numC
  split
  · simp; omega
  · split
    · simp; omega
    · simp; omega
theorem num_swap (a b : Int) : numC b a = - numC a b := by
  unfold numC
  split <;> split <;> first | omega | rfl

theorem cmp_cons (x y : UInt8) (a b : List UInt8) : Lib.compareBytes (x :: a) (y :: b) = lex (numC x.toNat y.toNat) (Lib.compareBytes a b) := by
  show (if x < y then (-1 : Int) else if y < x then 1 else Lib.compareBytes a b) = _
  generalize Lib.compareBytes a b = z
  unfold lex numC
  by_cases h1 : x < y
  · have h1' : (x.toNat : Int) < y.toNat := by have := UInt8.lt_iff_toNat_lt.1 h1; omega
    simp [h1, h1']
  · by_cases h2 : y < x
    · have h2' : (y.toNat : Int) < x.toNat := by have := UInt8.lt_iff_toNat_lt.1 h2; omega
      have h1' : ¬ (x.toNat : Int) < y.toNat := by omega
      simp [h1, h2, h1', h2']
    · have h1' : ¬ (x.toNat : Int) < y.toNat := fun h => h1 (UInt8.lt_iff_toNat_lt.2 (by omega))
      have h2' : ¬ (y.toNat : Int) < x.toNat := fun h => h2 (UInt8.lt_iff_toNat_lt.2 (by omega))
      simp [h1, h2, h1', h2']

theorem or_bytes : ∀ a b c : List UInt8, T3 (Lib.compareBytes a b) (Lib.compareBytes b c) (Lib.compareBytes a c)
  | [], [], [] => by simp [T3, Lib.compareBytes]
  | [], [], _ :: _ => by simp [T3, Lib.compareBytes]
  | [], _ :: _, _ => by simp [T3, Lib.compareBytes]
  | _ :: _, [], [] => by simp [T3, Lib.compareBytes]
  | _ :: _, [], _ :: _ => by simp [T3, Lib.compareBytes]
  | _ :: _, _ :: _, [] => by simp [T3, Lib.compareBytes]
  | x :: a, y :: b, z :: c => by
    rw [cmp_cons, cmp_cons, cmp_cons]
    exact t3_lex (or_num _ _ _) fun _ _ => or_bytes a b c
theorem or_text (a b c : List Int) : T3 (bytesC a b) (bytesC b c) (bytesC a c) := or_bytes _ _ _
theorem text_swap (a b : List Int) : bytesC b a = - bytesC a b := cmp_swap _ _

theorem byt_inj : ∀ {xs ys : List Int}, (∀ x ∈ xs, Byt x) → (∀ x ∈ ys, Byt x) → u8s xs = u8s ys → xs = ys
  | [], [], _, _, _ => rfl
  | [], _ :: _, _, _, h => by simp [u8s] at h
  | _ :: _, [], _, _, h => by simp [u8s] at h
  | x :: xs, y :: ys, hx, hy, h => by
    simp only [u8s, List.map_cons, List.cons.injEq] at h
    have e := byt_inj (fun z hz => hx z (by simp [hz])) (fun z hz => hy z (by simp [hz])) h.2
    have bx := hx x (by simp)
    have by' := hy y (by simp)
    unfold Byt at bx by'
    have h1 := congrArg UInt8.toNat h.1
    simp at h1
    rw [e]
    congr 1
    omega
theorem text_zero {xs ys : List Int} (hx : ∀ x ∈ xs, Byt x) (hy : ∀ x ∈ ys, Byt x) : bytesC xs ys = 0 ↔ xs = ys := by
  constructor
  · intro h
    exact byt_inj hx hy ((cmp_zero _ _).1 h)
  · rintro rfl
    exact (cmp_zero _ _).2 rfl

theorem ls_cons {α : Type} (m : Bool) (f : α → α → Int) (aK bK : List (List Int)) (a b : α) (aL bL : List α) : cmpLs m f aK bK (a :: aL) (b :: bL) = lex (if m = true then bytesC (aK.headD []) (bK.headD []) else 0) (lex (f a b) (cmpLs m f aK.tail bK.tail aL bL)) := by
  show (if m = true ∧ _ then _ else _) = _
  unfold lex
  cases m
  · simp
  · simp

theorem or_ls {α : Type} (m : Bool) (f : α → α → Int) (hf : ∀ a b c, T3 (f a b) (f b c) (f a c)) : ∀ (aK bK cK : List (List Int)) (aL bL cL : List α), T3 (cmpLs m f aK bK aL bL) (cmpLs m f bK cK bL cL) (cmpLs m f aK cK aL cL)
  | _, _, _, [], [], [] => by simp [T3, cmpLs]
  | _, _, _, [], [], _ :: _ => by simp [T3, cmpLs]
  | _, _, _, [], _ :: _, _ => by simp [T3, cmpLs]
  | _, _, _, _ :: _, [], [] => by simp [T3, cmpLs]
  | _, _, _, _ :: _, [], _ :: _ => by simp [T3, cmpLs]
  | _, _, _, _ :: _, _ :: _, [] => by simp [T3, cmpLs]
  | aK, bK, cK, a :: aL, b :: bL, c :: cL => by
    rw [ls_cons, ls_cons, ls_cons]
    refine t3_lex ?_ fun _ _ => t3_lex (hf a b c) fun _ _ => or_ls m f hf _ _ _ aL bL cL
    cases m
    · simp [T3]
    · exact or_text _ _ _
theorem ls_swap {α : Type} (m : Bool) (f : α → α → Int) (hf : ∀ a b, f b a = - f a b) : ∀ (aK bK : List (List Int)) (aL bL : List α), cmpLs m f bK aK bL aL = - cmpLs m f aK bK aL bL
  | _, _, [], [] => by simp [cmpLs]
  | _, _, [], _ :: _ => by simp [cmpLs]
  | _, _, _ :: _, [] => by simp [cmpLs]
  | aK, bK, a :: aL, b :: bL => by
    rw [ls_cons, ls_cons, hf a b, ls_swap m f hf aK.tail bK.tail aL bL, text_swap (aK.headD []) (bK.headD [])]
    rw [lex_neg]
    cases m
    · simp [lex]
    · rw [if_pos rfl, if_pos rfl, lex_neg]

theorem cmpV_lex (d : Nat) (a b : Vl (d + 1)) : cmpV (d + 1) a b = lex (numC a.1 b.1) (if a.1 = 3 then bytesC a.2.2.1 b.2.2.1 else lex (numC a.2.1 b.2.1) (cmpLs (decide (a.1 = 5)) (cmpV d) a.2.2.2.1 b.2.2.2.1 a.2.2.2.2 b.2.2.2.2)) := by
  show (if a.1 ≠ b.1 then numC a.1 b.1 else if a.1 = 3 then bytesC a.2.2.1 b.2.2.1 else if a.2.1 ≠ b.2.1 then numC a.2.1 b.2.1 else cmpLs (decide (a.1 = 5)) (cmpV d) a.2.2.2.1 b.2.2.2.1 a.2.2.2.2 b.2.2.2.2) = _
  have e1 := num_zero a.1 b.1
  have e2 := num_zero a.2.1 b.2.1
  unfold lex
  by_cases h1 : a.1 = b.1
  · have h1' := e1.2 h1
    rw [if_neg (not_not_intro h1), if_neg (not_not_intro h1')]
    by_cases h3 : a.1 = 3
    · rw [if_pos h3, if_pos h3]
    · rw [if_neg h3, if_neg h3]
      by_cases h2 : a.2.1 = b.2.1
      · rw [if_neg (not_not_intro h2), if_neg (not_not_intro (e2.2 h2))]
      · rw [if_pos h2, if_pos (fun h => h2 (e2.1 h))]
  · rw [if_pos h1, if_pos (fun h => h1 (e1.1 h))]

/-- The order is one. -/
theorem or_val : ∀ (d : Nat) (a b c : Vl d), T3 (cmpV d a b) (cmpV d b c) (cmpV d a c)
  | 0, _, _, _ => by simp [T3, cmpV]
  | d + 1, a, b, c => by
    rw [cmpV_lex, cmpV_lex, cmpV_lex]
    refine t3_lex (or_num _ _ _) fun h1 h2 => ?_
    have e1 : a.1 = b.1 := (num_zero _ _).1 h1
    have e2 : b.1 = c.1 := (num_zero _ _).1 h2
    rw [← e1]
    by_cases h3 : a.1 = 3
    · rw [if_pos h3, if_pos h3, if_pos h3]
      exact or_text _ _ _
    · rw [if_neg h3, if_neg h3, if_neg h3]
      exact t3_lex (or_num _ _ _) fun _ _ => or_ls _ _ (or_val d) _ _ _ _ _ _
theorem val_swap : ∀ (d : Nat) (a b : Vl d), cmpV d b a = - cmpV d a b
  | 0, _, _ => by simp [cmpV]
  | d + 1, a, b => by
    rw [cmpV_lex, cmpV_lex, num_swap a.1 b.1, num_swap a.2.1 b.2.1, text_swap a.2.2.1 b.2.2.1]
    unfold lex
    by_cases h1 : numC a.1 b.1 = 0
    · have e1 : a.1 = b.1 := (num_zero _ _).1 h1
      rw [h1, e1]
      simp only [Int.neg_zero, ne_eq, not_true_eq_false, if_false]
      by_cases h3 : b.1 = 3
      · rw [if_pos h3, if_pos h3]
      · rw [if_neg h3, if_neg h3, ls_swap _ _ (val_swap d) a.2.2.2.1 b.2.2.2.1 a.2.2.2.2 b.2.2.2.2]
        by_cases h2 : numC a.2.1 b.2.1 = 0 <;> simp [h2]
    · simp [h1]

/-- Lists are alike just if all parts are, and the keys where they count. -/
theorem ls_zero {α : Type} (m : Bool) (f : α → α → Int) : ∀ (aK bK : List (List Int)) (aL bL : List α), cmpLs m f aK bK aL bL = 0 ↔ aL.length = bL.length ∧ ∀ i (h : i < aL.length) (h' : i < bL.length), f aL[i] bL[i] = 0 ∧ (m = true → bytesC (aK.getD i []) (bK.getD i []) = 0)
  | _, _, [], [] => by simp [cmpLs]
  | _, _, [], _ :: _ => by simp [cmpLs]
  | _, _, _ :: _, [] => by simp [cmpLs]
  | aK, bK, a :: aL, b :: bL => by
    have ih := ls_zero m f aK.tail bK.tail aL bL
    have ht : ∀ (K : List (List Int)) i, K.tail.getD i [] = K.getD (i + 1) [] := fun K i => by cases K <;> simp
    have hh : ∀ K : List (List Int), K.headD [] = K.getD 0 [] := fun K => by cases K <;> simp
    rw [ls_cons]
    have hlx : ∀ x y : Int, lex x y = 0 ↔ x = 0 ∧ y = 0 := fun x y => by unfold lex; by_cases h : x = 0 <;> simp [h]
    rw [hlx, hlx, ih, hh, hh]
    constructor
    · rintro ⟨h1, h2, h3, h4⟩
      refine ⟨by simp [h3], fun i h h' => ?_⟩
      cases i with
      | zero => exact ⟨h2, fun hm => by simpa [hm] using h1⟩
      | succ i =>
        obtain ⟨g1, g2⟩ := h4 i (by simpa using h) (by simpa using h')
        refine ⟨by simpa using g1, fun hm => ?_⟩
        have := g2 hm
        rwa [ht, ht] at this
    · rintro ⟨h1, h2⟩
      obtain ⟨g1, g2⟩ := h2 0 (by simp) (by simp)
      refine ⟨?_, by simpa using g1, by simpa using h1, fun i h h' => ?_⟩
      · cases m
        · simp
        · simpa using g2 rfl
      · obtain ⟨k1, k2⟩ := h2 (i + 1) (by simpa using h) (by simpa using h')
        refine ⟨by simpa using k1, fun hm => ?_⟩
        rw [ht, ht]
        exact k2 hm

/-- A number is read back from its bytes. -/
theorem num_inj {ys s t : List Int} {n m : Int} (h0 : 0 ≤ n) (h1 : n ≤ 2147483647) (g0 : 0 ≤ m) (g1 : m ≤ 2147483647) (h : putNum ys n ++ s = putNum ys m ++ t) : n = m ∧ s = t := by
  have e1 := getNum_put ys s n h0 h1
  have e2 := getNum_put ys t m g0 g1
  rw [h, e2] at e1
  simp only [Prod.mk.injEq] at e1
  obtain rfl := e1.1
  exact ⟨rfl, List.append_cancel_left h⟩
theorem text_inj {ys s t us vs : List Int} (hu : us.length ≤ 20) (hv : vs.length ≤ 20) (h : putText ys us ++ s = putText ys vs ++ t) : us = vs ∧ s = t := by
  rw [putText_yes ys us (by omega), putText_yes ys vs (by omega), List.append_assoc, List.append_assoc] at h
  obtain ⟨hl, h2⟩ := num_inj (by omega) (by omega) (by omega) (by omega) h
  have := List.append_inj h2 (by omega)
  exact this
theorem num_pre (ys : List Int) (n : Int) : ∃ r, putNum ys n = ys ++ r := by
  unfold putNum
  split
  · exact ⟨[], by simp⟩
  · exact ⟨_, rfl⟩
theorem text_pre (ys ts : List Int) : ∃ r, putText ys ts = ys ++ r := by
  unfold putText
  split
  · exact ⟨[], by simp⟩
  · obtain ⟨r, e⟩ := num_pre ys ts.length
    exact ⟨r ++ ts, by rw [e, List.append_assoc]⟩
theorem kid_pre {α : Type} (f : α → List Int → List Int) (hf : ∀ x b, ∃ r, f x b = b ++ r) (m : Bool) (K : List (List Int)) (L : List α) (b : List Int) (k : Nat) : ∀ j, k + j ≤ L.length → ∃ r, kidB f m K L b (k + j) = kidB f m K L b k ++ r
  | 0, _ => ⟨[], by simp⟩
  | j + 1, hj => by
    obtain ⟨r, e⟩ := kid_pre f hf m K L b k j (by omega)
    rw [show k + (j + 1) = (k + j) + 1 from rfl, kidB_succ f m K L b (k + j) (by omega)]
    cases m
    · obtain ⟨r2, e2⟩ := hf L[k + j] (kidB f false K L b (k + j))
      exact ⟨r ++ r2, by simp only [Bool.false_eq_true, if_false]; rw [e2, e, List.append_assoc]⟩
    · obtain ⟨r1, e1⟩ := text_pre (kidB f true K L b (k + j)) (K.getD (k + j) [])
      obtain ⟨r2, e2⟩ := hf L[k + j] (putText (kidB f true K L b (k + j)) (K.getD (k + j) []))
      exact ⟨r ++ (r1 ++ r2), by simp only [if_true]; rw [e2, e1, e]; simp⟩

theorem kid_inj {α : Type} (f : α → List Int → List Int) (hf : ∀ x b, ∃ r, f x b = b ++ r) (m : Bool) (Ka Kb : List (List Int)) (La Lb : List α) (b s t : List Int) (hl : La.length = Lb.length) (hk : m = true → ∀ i, i < La.length → (Ka.getD i []).length ≤ 20 ∧ (Kb.getD i []).length ≤ 20)
    (R : α → α → Prop) (hi : ∀ i (h : i < La.length) (h' : i < Lb.length) (P s t : List Int), f La[i] P ++ s = f Lb[i] P ++ t → R La[i] Lb[i] ∧ s = t) (h : kidB f m Ka La b La.length ++ s = kidB f m Kb Lb b Lb.length ++ t) :
    ∀ k, k ≤ La.length → kidB f m Ka La b k = kidB f m Kb Lb b k ∧ ∀ i (h : i < La.length) (h' : i < Lb.length), i < k → R La[i] Lb[i] ∧ (m = true → Ka.getD i [] = Kb.getD i [])
  | 0, _ => ⟨rfl, fun i _ _ h => by omega⟩
  | k + 1, hkl => by
    obtain ⟨e, hall⟩ := kid_inj f hf m Ka Kb La Lb b s t hl hk R hi h k (by omega)
    obtain ⟨ra, ea⟩ := kid_pre f hf m Ka La b (k + 1) (La.length - (k + 1)) (by omega)
    obtain ⟨rb, eb⟩ := kid_pre f hf m Kb Lb b (k + 1) (Lb.length - (k + 1)) (by omega)
    rw [show k + 1 + (La.length - (k + 1)) = La.length by omega] at ea
    rw [show k + 1 + (Lb.length - (k + 1)) = Lb.length by omega] at eb
    have h' := h
    rw [ea, eb, List.append_assoc, List.append_assoc] at h'
    have sa := kidB_succ f m Ka La b k (by omega)
    have sb := kidB_succ f m Kb Lb b k (by omega)
    rw [e] at sa
    generalize kidB f m Kb Lb b k = P at *
    cases m
    · simp only [Bool.false_eq_true, if_false] at sa sb
      rw [sa, sb] at h' ⊢
      obtain ⟨hR, hst⟩ := hi k (by omega) (by omega) _ _ _ h'
      rw [hst] at h'
      refine ⟨List.append_cancel_right h', fun i g1 g2 g3 => ?_⟩
      by_cases hik : i = k
      · subst hik; exact ⟨hR, fun h => by simp at h⟩
      · exact hall i g1 g2 (by omega)
    · simp only [if_true] at sa sb
      rw [sa, sb] at h' ⊢
      obtain ⟨q1, q2⟩ := hk rfl k (by omega)
      have hkey : Ka.getD k [] = Kb.getD k [] := by
        obtain ⟨r1, e1⟩ := hf La[k] (putText P (Ka.getD k []))
        obtain ⟨r2, e2⟩ := hf Lb[k] (putText P (Kb.getD k []))
        have h2 := h'
        rw [e1, e2, List.append_assoc, List.append_assoc] at h2
        exact (text_inj q1 q2 h2).1
      rw [hkey] at h' ⊢
      obtain ⟨hR, hst⟩ := hi k (by omega) (by omega) _ _ _ h'
      rw [hst] at h'
      refine ⟨List.append_cancel_right h', fun i g1 g2 g3 => ?_⟩
      by_cases hik : i = k
      · subst hik; exact ⟨hR, fun _ => hkey⟩
      · exact hall i g1 g2 (by omega)
end Go.Proofs.Ytenfnbnhdmkhkaa
/-
  Good values are alike just if their bytes are. Plain mathematics.
-/
namespace Go.Proofs.Ytenfnbnhdmkhkaa
open Go.RowKit
set_option linter.unusedVariables false
set_option linter.unusedSimpArgs false

theorem or_kid {d : Nat} {vk vn : Int} {vs : List Int} {vK : List (List Int)} {vL : List (Vl d)} (h : partsV (d + 1) (vk, vn, vs, vK, vL) ≤ 40) : ∀ i (hi : i < vL.length), partsV d vL[i] ≤ 40 := by
  intro i hi
  rw [parts_succ] at h
  have h1 := pre_succ (partsV d) vL i hi
  have h2 := pre_le (partsV d) vL (i + 1)
  have h3 := pre_all (partsV d) vL
  omega
theorem or_many {d : Nat} {vk vn : Int} {vs : List Int} {vK : List (List Int)} {vL : List (Vl (d + 1))} (h : partsV (d + 1 + 1) (vk, vn, vs, vK, vL) ≤ 40) : vL.length ≤ 40 := by
  have hk : ∀ k, k ≤ vL.length → k ≤ pre (partsV (d + 1)) vL k := by
    intro k
    induction k with
    | zero => intro _; exact Nat.zero_le _
    | succ k ih =>
      intro hk
      have h1 := pre_succ (partsV (d + 1)) vL k (by omega)
      have h2 := parts_pos d vL[k]
      have h3 := ih (by omega)
      omega
  rw [parts_succ] at h
  have := hk vL.length (Nat.le_refl _)
  omega

theorem byt_pre : ∀ (d : Nat) (v : Vl d) (xs : List Int), ∃ r, bytV d v xs = xs ++ r
  | 0, v, _ => v.elim
  | d + 1, (vk, vn, vs, vK, vL), xs => by
    obtain ⟨r0, e0⟩ := num_pre xs vk
    show ∃ r, (if vk = 1 then putNum (putNum xs vk) vn else if vk = 2 then putI (putNum xs vk) vn else if vk = 3 then putText (putNum xs vk) vs else if vk = 4 ∨ vk = 5 then kidB (fun x b => bytV d x b) (decide (vk = 5)) vK vL (putNum (putNum xs vk) vL.length) vL.length else putNum xs vk) = xs ++ r
    rw [e0]
    split
    · obtain ⟨r1, e1⟩ := num_pre (xs ++ r0) vn
      exact ⟨r0 ++ r1, by rw [e1, List.append_assoc]⟩
    · split
      · unfold putI
        split
        · obtain ⟨r1, e1⟩ := num_pre (xs ++ r0) 1
          obtain ⟨r2, e2⟩ := num_pre (xs ++ r0 ++ r1) (-vn / 1000000)
          obtain ⟨r3, e3⟩ := num_pre (xs ++ r0 ++ r1 ++ r2) (-vn % 1000000)
          exact ⟨r0 ++ r1 ++ r2 ++ r3, by rw [e1, e2, e3]; simp⟩
        · obtain ⟨r1, e1⟩ := num_pre (xs ++ r0) 0
          obtain ⟨r2, e2⟩ := num_pre (xs ++ r0 ++ r1) (vn / 1000000)
          obtain ⟨r3, e3⟩ := num_pre (xs ++ r0 ++ r1 ++ r2) (vn % 1000000)
          exact ⟨r0 ++ r1 ++ r2 ++ r3, by rw [e1, e2, e3]; simp⟩
      · split
        · obtain ⟨r1, e1⟩ := text_pre (xs ++ r0) vs
          exact ⟨r0 ++ r1, by rw [e1, List.append_assoc]⟩
        · split
          · obtain ⟨r1, e1⟩ := num_pre (xs ++ r0) vL.length
            obtain ⟨r2, e2⟩ := kid_pre (fun x b => bytV d x b) (fun x b => byt_pre d x b) (decide (vk = 5)) vK vL (putNum (xs ++ r0) vL.length) 0 vL.length (by omega)
            rw [Nat.zero_add] at e2
            exact ⟨r0 ++ r1 ++ r2, by rw [e2]; show putNum (xs ++ r0) vL.length ++ r2 = _; rw [e1]; simp⟩
          · exact ⟨r0, rfl⟩

/-- The kind's bytes stand ahead. -/
theorem byt_pre_kind (d : Nat) (vk vn : Int) (vs : List Int) (vK : List (List Int)) (vL : List (Vl d)) (xs : List Int) : ∃ r, bytV (d + 1) (vk, vn, vs, vK, vL) xs = putNum xs vk ++ r := by
  show ∃ r, (if vk = 1 then putNum (putNum xs vk) vn else if vk = 2 then putI (putNum xs vk) vn else if vk = 3 then putText (putNum xs vk) vs else if vk = 4 ∨ vk = 5 then kidB (fun x b => bytV d x b) (decide (vk = 5)) vK vL (putNum (putNum xs vk) vL.length) vL.length else putNum xs vk) = putNum xs vk ++ r
  generalize putNum xs vk = ys
  split
  · exact num_pre _ _
  · split
    · unfold putI
      split
      · obtain ⟨r1, e1⟩ := num_pre ys 1
        obtain ⟨r2, e2⟩ := num_pre (ys ++ r1) (-vn / 1000000)
        obtain ⟨r3, e3⟩ := num_pre (ys ++ r1 ++ r2) (-vn % 1000000)
        exact ⟨r1 ++ r2 ++ r3, by rw [e1, e2, e3]; simp⟩
      · obtain ⟨r1, e1⟩ := num_pre ys 0
        obtain ⟨r2, e2⟩ := num_pre (ys ++ r1) (vn / 1000000)
        obtain ⟨r3, e3⟩ := num_pre (ys ++ r1 ++ r2) (vn % 1000000)
        exact ⟨r1 ++ r2 ++ r3, by rw [e1, e2, e3]; simp⟩
    · split
      · exact text_pre _ _
      · split
        · obtain ⟨r1, e1⟩ := num_pre ys vL.length
          obtain ⟨r2, e2⟩ := kid_pre (fun x b => bytV d x b) (fun x b => byt_pre d x b) (decide (vk = 5)) vK vL (putNum ys vL.length) 0 vL.length (by omega)
          rw [Nat.zero_add] at e2
          exact ⟨r1 ++ r2, by rw [e2]; show putNum ys vL.length ++ r2 = _; rw [e1]; simp⟩
        · exact ⟨[], by simp⟩

/-- What the rules of one part say, kind by kind. -/
theorem or_shape {vk vn : Int} {vs : List Int} {vK : List (List Int)} {n : Nat} (h : shapeB vk vn vs vK n = true) :
    (vk = 0 ∨ vk = 6 ∨ (vk = 1 ∧ (vn = 0 ∨ vn = 1)) ∨ (vk = 2 ∧ -1000000000000 ≤ vn ∧ vn ≤ 1000000000000) ∨ (vk = 3 ∧ vs.length ≤ 20 ∧ ∀ x ∈ vs, Byt x) ∨ vk = 4 ∨ (vk = 5 ∧ vK.length = n ∧ ∀ i, i < n → (vK.getD i []).length ≤ 20 ∧ ∀ x ∈ vK.getD i [], Byt x)) ∧
    (vk = 1 ∨ vk = 2 ∨ vn = 0) ∧ (vk = 4 ∨ vk = 5 ∨ n = 0) := by
  simp only [shapeB, bareB, intB, Bool.and_eq_true, Bool.or_eq_true, decide_eq_true_eq] at h
  obtain ⟨⟨⟨⟨h1, h2⟩, h3⟩, h4⟩, h5⟩ := h
  refine ⟨?_, by omega, by omega⟩
  rcases h5 with ((((((h | h) | h) | h) | h) | h) | h)
  · exact .inl h
  · exact .inr (.inl h)
  · exact .inr (.inr (.inl h))
  · exact .inr (.inr (.inr (.inl h)))
  · refine .inr (.inr (.inr (.inr (.inl ⟨h.1, ?_⟩))))
    have ht := h.2
    simp only [textB, Bool.and_eq_true, decide_eq_true_eq, List.all_eq_true] at ht
    refine ⟨ht.1, fun x hx => ?_⟩
    have := ht.2 x hx
    simp only [chrB, Bool.and_eq_true, decide_eq_true_eq] at this
    unfold Byt
    omega
  · exact .inr (.inr (.inr (.inr (.inr (.inl h)))))
  · refine .inr (.inr (.inr (.inr (.inr (.inr ⟨h.1, h.2.1, fun i hi => ?_⟩)))))
    have ha := h.2.2
    rw [ascB, List.all_eq_true] at ha
    have hs := ha i (List.mem_range.2 (by omega))
    simp only [stepB, Bool.and_eq_true] at hs
    have h1 := hs.1
    simp only [nameB, Bool.and_eq_true, decide_eq_true_eq, List.all_eq_true] at h1
    refine ⟨by omega, fun x hx => ?_⟩
    have := h1.2 x hx
    simp only [letB, Bool.and_eq_true, decide_eq_true_eq] at this
    unfold Byt
    omega

theorem lex_zero (x y : Int) : lex x y = 0 ↔ x = 0 ∧ y = 0 := by unfold lex; by_cases h : x = 0 <;> simp [h]

theorem or_len {d : Nat} {vk vn : Int} {vs : List Int} {vK : List (List Int)} {vL : List (Vl d)} {deep : Nat} (hg : ∀ i (h : i < vL.length), goodB d vL[i] deep = true) (h : partsV (d + 1) (vk, vn, vs, vK, vL) ≤ 40) : vL.length ≤ 40 := by
  cases d with
  | zero =>
    cases vL with
    | nil => simp
    | cons x r => exact (x : Empty).elim
  | succ d => exact or_many h

/-- Values whose bytes are alike are alike. -/
theorem val_inj : ∀ (d : Nat) (a b : Vl d) (da db : Nat) (xs s t : List Int), goodB d a da = true → goodB d b db = true → partsV d a ≤ 40 → partsV d b ≤ 40 → bytV d a xs ++ s = bytV d b xs ++ t → cmpV d a b = 0 ∧ s = t
  | 0, a, _, _, _, _, _, _, _, _, _, _, _ => a.elim
  | d + 1, (ak, an, aS, aK, aL), (bk, bn, bS, bK, bL), da, db, xs, s, t, ha, hb, pa, pb, h => by
    obtain ⟨_, sa, ga⟩ := (good_succ _ _ _ _ _ _ _).1 ha
    obtain ⟨_, sb, gb⟩ := (good_succ _ _ _ _ _ _ _).1 hb
    obtain ⟨ka, na, la⟩ := or_shape sa
    obtain ⟨kb, nb, lb⟩ := or_shape sb
    have lea := or_len ga pa
    have leb := or_len gb pb
    have ka0 : 0 ≤ ak ∧ ak ≤ 6 := by omega
    have kb0 : 0 ≤ bk ∧ bk ≤ 6 := by omega
    suffices hs : lex (numC ak bk) (if ak = 3 then bytesC aS bS else lex (numC an bn) (cmpLs (decide (ak = 5)) (cmpV d) aK bK aL bL)) = 0 ∧ s = t from ⟨(cmpV_lex d (ak, an, aS, aK, aL) (bk, bn, bS, bK, bL)).trans hs.1, hs.2⟩
    have hk : ak = bk := by
      obtain ⟨ra, ea⟩ : ∃ r, bytV (d + 1) (ak, an, aS, aK, aL) xs = putNum xs ak ++ r := byt_pre_kind d ak an aS aK aL xs
      obtain ⟨rb, eb⟩ : ∃ r, bytV (d + 1) (bk, bn, bS, bK, bL) xs = putNum xs bk ++ r := byt_pre_kind d bk bn bS bK bL xs
      rw [ea, eb, List.append_assoc, List.append_assoc] at h
      exact (num_inj (by omega) (by omega) (by omega) (by omega) h).1
    subst hk
    rw [show numC ak ak = 0 from (num_zero _ _).2 rfl]
    have hl0 : ∀ z : Int, lex 0 z = z := fun z => by simp [lex]
    rw [hl0]
    change (if ak = 1 then putNum (putNum xs ak) an else if ak = 2 then putI (putNum xs ak) an else if ak = 3 then putText (putNum xs ak) aS else if ak = 4 ∨ ak = 5 then kidB (fun x b => bytV d x b) (decide (ak = 5)) aK aL (putNum (putNum xs ak) aL.length) aL.length else putNum xs ak) ++ s = (if ak = 1 then putNum (putNum xs ak) bn else if ak = 2 then putI (putNum xs ak) bn else if ak = 3 then putText (putNum xs ak) bS else if ak = 4 ∨ ak = 5 then kidB (fun x b => bytV d x b) (decide (ak = 5)) bK bL (putNum (putNum xs ak) bL.length) bL.length else putNum xs ak) ++ t at h
    generalize putNum xs ak = ys at *
    by_cases k1 : ak = 1
    · subst k1
      rw [if_pos rfl, if_pos rfl] at h
      obtain ⟨e, hst⟩ := num_inj (by omega) (by omega) (by omega) (by omega) h
      subst e
      refine ⟨?_, hst⟩
      rw [if_neg (by omega), lex_zero, ls_zero]
      have l1 : aL = [] := List.eq_nil_of_length_eq_zero (by omega)
      have l2 : bL = [] := List.eq_nil_of_length_eq_zero (by omega)
      subst l1 l2
      exact ⟨(num_zero _ _).2 rfl, rfl, fun i h => by simp at h⟩
    · rw [if_neg k1, if_neg k1] at h
      by_cases k2 : ak = 2
      · subst k2
        rw [if_pos rfl, if_pos rfl] at h
        have l1 : aL = [] := List.eq_nil_of_length_eq_zero (by omega)
        have l2 : bL = [] := List.eq_nil_of_length_eq_zero (by omega)
        have hn : an = bn ∧ s = t := by
          unfold putI at h
          have ra : -1000000000000 ≤ an ∧ an ≤ 1000000000000 := by omega
          have rb : -1000000000000 ≤ bn ∧ bn ≤ 1000000000000 := by omega
          by_cases c1 : an < 0 <;> by_cases c2 : bn < 0
          · rw [if_pos c1, if_pos c2] at h
            obtain ⟨r3, e3⟩ := num_pre (putNum (putNum ys 1) (-an / 1000000)) (-an % 1000000)
            obtain ⟨q3, f3⟩ := num_pre (putNum (putNum ys 1) (-bn / 1000000)) (-bn % 1000000)
            have h2 := h
            rw [e3, f3, List.append_assoc, List.append_assoc] at h2
            have i1 := (num_inj (by omega) (by omega) (by omega) (by omega) h2).1
            rw [i1] at h
            have i2 := num_inj (by omega) (by omega) (by omega) (by omega) h
            exact ⟨by omega, i2.2⟩
          · rw [if_pos c1, if_neg c2] at h
            obtain ⟨r3, e3⟩ := num_pre (putNum (putNum ys 1) (-an / 1000000)) (-an % 1000000)
            obtain ⟨r2, e2⟩ := num_pre (putNum ys 1) (-an / 1000000)
            obtain ⟨q3, f3⟩ := num_pre (putNum (putNum ys 0) (bn / 1000000)) (bn % 1000000)
            obtain ⟨q2, f2⟩ := num_pre (putNum ys 0) (bn / 1000000)
            rw [e3, e2, f3, f2] at h
            simp only [List.append_assoc] at h
            have := (num_inj (by omega) (by omega) (by omega) (by omega) h).1
            omega
          · rw [if_neg c1, if_pos c2] at h
            obtain ⟨r3, e3⟩ := num_pre (putNum (putNum ys 0) (an / 1000000)) (an % 1000000)
            obtain ⟨r2, e2⟩ := num_pre (putNum ys 0) (an / 1000000)
            obtain ⟨q3, f3⟩ := num_pre (putNum (putNum ys 1) (-bn / 1000000)) (-bn % 1000000)
            obtain ⟨q2, f2⟩ := num_pre (putNum ys 1) (-bn / 1000000)
            rw [e3, e2, f3, f2] at h
            simp only [List.append_assoc] at h
            have := (num_inj (by omega) (by omega) (by omega) (by omega) h).1
            omega
          · rw [if_neg c1, if_neg c2] at h
            obtain ⟨r3, e3⟩ := num_pre (putNum (putNum ys 0) (an / 1000000)) (an % 1000000)
            obtain ⟨q3, f3⟩ := num_pre (putNum (putNum ys 0) (bn / 1000000)) (bn % 1000000)
            have h2 := h
            rw [e3, f3, List.append_assoc, List.append_assoc] at h2
            have i1 := (num_inj (by omega) (by omega) (by omega) (by omega) h2).1
            rw [i1] at h
            have i2 := num_inj (by omega) (by omega) (by omega) (by omega) h
            exact ⟨by omega, i2.2⟩
        obtain ⟨rfl, hst⟩ := hn
        refine ⟨?_, hst⟩
        rw [if_neg (by omega), lex_zero, ls_zero]
        subst l1 l2
        exact ⟨(num_zero _ _).2 rfl, rfl, fun i h => by simp at h⟩
      · rw [if_neg k2, if_neg k2] at h
        have en : an = bn := by omega
        subst en
        by_cases k3 : ak = 3
        · subst k3
          rw [if_pos rfl, if_pos rfl] at h
          have ta : aS.length ≤ 20 := by rcases ka with h | h | h | h | h | h | h <;> first | exact h.2.1 | omega
          have tb : bS.length ≤ 20 := by rcases kb with h | h | h | h | h | h | h <;> first | exact h.2.1 | omega
          obtain ⟨rfl, hst⟩ := text_inj ta tb h
          rw [if_pos rfl]
          exact ⟨(cmp_zero _ _).2 rfl, hst⟩
        · rw [if_neg k3, if_neg k3] at h
          rw [if_neg k3, lex_zero, ls_zero]
          by_cases k4 : ak = 4 ∨ ak = 5
          · rw [if_pos k4, if_pos k4] at h
            obtain ⟨r1, e1⟩ := kid_pre (fun x b => bytV d x b) (fun x b => byt_pre d x b) (decide (ak = 5)) aK aL (putNum ys aL.length) 0 aL.length (by omega)
            obtain ⟨r2, e2⟩ := kid_pre (fun x b => bytV d x b) (fun x b => byt_pre d x b) (decide (ak = 5)) bK bL (putNum ys bL.length) 0 bL.length (by omega)
            rw [Nat.zero_add] at e1 e2
            have h2 := h
            rw [e1, e2] at h2
            change (putNum ys aL.length ++ r1) ++ s = (putNum ys bL.length ++ r2) ++ t at h2
            rw [List.append_assoc, List.append_assoc] at h2
            have hlen : aL.length = bL.length := by
              have := (num_inj (by omega) (by omega) (by omega) (by omega) h2).1
              omega
            rw [hlen] at h
            have h3 : kidB (fun x b => bytV d x b) (decide (ak = 5)) aK aL (putNum ys bL.length) aL.length ++ s = kidB (fun x b => bytV d x b) (decide (ak = 5)) bK bL (putNum ys bL.length) bL.length ++ t := by rw [hlen]; exact h
            have hkey : (decide (ak = 5)) = true → ∀ i, i < aL.length → (aK.getD i []).length ≤ 20 ∧ (bK.getD i []).length ≤ 20 := by
              intro h5 i hi
              have h5 := of_decide_eq_true h5
              have q1 : ∀ i, i < aL.length → (aK.getD i []).length ≤ 20 := by rcases ka with h | h | h | h | h | h | h <;> first | exact fun i hi => (h.2.2 i hi).1 | omega
              have q2 : ∀ i, i < bL.length → (bK.getD i []).length ≤ 20 := by rcases kb with h | h | h | h | h | h | h <;> first | exact fun i hi => (h.2.2 i hi).1 | omega
              exact ⟨q1 i hi, q2 i (by omega)⟩
            obtain ⟨e, hall⟩ := kid_inj (fun x b => bytV d x b) (fun x b => byt_pre d x b) (decide (ak = 5)) aK bK aL bL (putNum ys bL.length) s t hlen hkey (fun x y => cmpV d x y = 0) (fun i h1 h2 P s t hP => val_inj d aL[i] bL[i] (da + 1) (db + 1) P s t (ga i h1) (gb i h2) (or_kid pa i h1) (or_kid pb i h2) hP) h3 aL.length (Nat.le_refl _)
            rw [e, hlen] at h3
            refine ⟨⟨(num_zero _ _).2 rfl, hlen, fun i h1 h2 => ⟨(hall i h1 h2 h1).1, fun hm => ?_⟩⟩, List.append_cancel_left h3⟩
            rw [(hall i h1 h2 h1).2 hm]
            exact (cmp_zero _ _).2 rfl
          · rw [if_neg k4, if_neg k4] at h
            have l1 : aL = [] := List.eq_nil_of_length_eq_zero (by omega)
            have l2 : bL = [] := List.eq_nil_of_length_eq_zero (by omega)
            subst l1 l2
            exact ⟨⟨(num_zero _ _).2 rfl, rfl, fun i h => by simp at h⟩, List.append_cancel_left h⟩
end Go.Proofs.Ytenfnbnhdmkhkaa
