/-
  Texts that a law leans on, one behind the other; no statement is proved here.
-/
import Derived.Test.YtenfnbnhdmkhkaaPk16
import Derived.Test.YtenfnbnhdmkhkaaPk15
import Derived.Test.YtenfnbnhdmkhkaaPk0
import Derived.WalkKit
import Derived.ProofKit
import Derived.ChangeSlices
import Derived.ChangeArms
import Derived.Test.YtenfnbnhdmkhkaaPk4
/-
  GetNum of the program answers as getNum, and turns nothing.
-/
namespace Go.Proofs.Ytenfnbnhdmkhkaa
open Go.RowKit
set_option linter.unusedVariables false

end Go.Proofs.Ytenfnbnhdmkhkaa
/-
  GetText of the program and of the specification: the text at a place and the place behind it, in memory of its own.
-/
namespace Go.Proofs.Ytenfnbnhdmkhkaa
open Go.RowKit
set_option linter.unusedVariables false

/-- What GetText answers. -/
def getText (xs : List Int) (a : Int) : List Int × Int :=
  if (getNum xs a).2 < 0 ∨ 20 < (getNum xs a).1 ∨ (xs.length : Int) - (getNum xs a).2 < (getNum xs a).1 then ([], -1)
  else ((xs.drop (getNum xs a).2.toNat).take (getNum xs a).1.toNat, (getNum xs a).2 + (getNum xs a).1)

theorem getText_no (xs : List Int) (a : Int) (h : (getNum xs a).2 < 0 ∨ 20 < (getNum xs a).1 ∨ (xs.length : Int) - (getNum xs a).2 < (getNum xs a).1) : getText xs a = ([], -1) := by
  rw [getText, if_pos h]
theorem getText_yes (xs : List Int) (a : Int) (h : ¬ ((getNum xs a).2 < 0 ∨ 20 < (getNum xs a).1 ∨ (xs.length : Int) - (getNum xs a).2 < (getNum xs a).1)) :
    getText xs a = ((xs.drop (getNum xs a).2.toNat).take (getNum xs a).1.toNat, (getNum xs a).2 + (getNum xs a).1) := by
  rw [getText, if_neg h]

theorem getText_len (xs : List Int) (a : Int) : (getText xs a).1.length ≤ 20 := by
  unfold getText
  split
  · simp
  · simp
    omega

/-- A piece of what can be read can be read. -/
theorem seg_cut {w : World} {b off : Nat} {xs : List Int} {j s cap : Nat} (h : Seg w (some ⟨b, off, none⟩) xs) (hj : j + s ≤ xs.length) (hcap : xs.length ≤ cap) :
    Seg w (some (if cap = j then ⟨b, off, none⟩ else ⟨b, off + j, none⟩)) ((xs.drop j).take s) := by
  refine ⟨fun x hx => h.1 x (List.mem_of_mem_drop (List.mem_of_mem_take hx)), ?_⟩
  by_cases hs : s = 0
  · exact .inl (by simp [hs])
  · have hc : ¬ cap = j := by omega
    rw [if_neg hc]
    rcases h.2 with h0 | ⟨b', off', h1, h2⟩
    · subst h0; simp at hj; omega
    · simp at h1
      obtain ⟨rfl, rfl⟩ := h1
      refine .inr ⟨b, off + j, rfl, fun i hi => ?_⟩
      have hl : i < s := by simp at hi; omega
      have := h2 (j + i) (by omega)
      rw [Nat.add_assoc, this]
      simp [List.getD_eq_getElem?_getD, List.getElem?_drop, hl]

theorem ret_bi {v : Value} {y : Int} {r : List Int × Int} {t : List Int} {z : Int} (h : r = (t, z)) (hy : y = z) : Ending.returned (.tuple #[v, .int .i64 y]) = .returned (.tuple #[v, .int .i64 r.2]) := by rw [h, hy]

end Go.Proofs.Ytenfnbnhdmkhkaa
/-
  What was put is got, and what is got was put: numbers and texts, plain; no Go text here.
-/
namespace Go.Proofs.Ytenfnbnhdmkhkaa
set_option linter.unusedVariables false

theorem getD_mid (pre ds rest : List Int) (d : Int) : (pre ++ (d :: ds) ++ rest).getD pre.length 0 = d := by
  simp [List.getD_eq_getElem?_getD, List.append_assoc]

theorem getFrom_digs (m : Nat) : ∀ (pre rest : List Int) (p fuel k : Nat) (s acc : Int), pre.length = p + k → (digs m).length ≤ fuel → 0 < s → 0 ≤ acc → acc + (m : Int) * s ≤ 2147483647 → (0 < k → 0 < m) →
    getFrom (pre ++ digs m ++ rest) p fuel k s acc = (acc + (m : Int) * s, ((p + k + (digs m).length : Nat) : Int)) := by
  induction m using Nat.strongRecOn with
  | ind m ih =>
    intro pre rest p fuel k s acc hp hf hs ha hN hk
    have hpos := digs_len_pos m
    obtain ⟨f, rfl⟩ : ∃ f, fuel = f + 1 := ⟨fuel - 1, by omega⟩
    have hin : p + k < (pre ++ digs m ++ rest).length := by simp; omega
    by_cases h : m < 128
    · have hd : (pre ++ digs m ++ rest).getD (p + k) 0 = m := by
        rw [digs_small m h, ← hp]
        exact getD_mid pre [] rest m
      rw [getFrom_last _ _ _ _ _ _ hin (by rw [hd]; omega) (by
        rw [hd]
        rintro (⟨h1, h2⟩ | h1)
        · have := hk h2; omega
        · omega), hd, digs_small m h]
      simp
    · have hd : (pre ++ digs m ++ rest).getD (p + k) 0 = ((m % 128 + 128 : Nat) : Int) := by
        rw [digs_big m h, ← hp]
        exact getD_mid pre (digs (m / 128)) rest _
      rw [getFrom_more _ _ _ _ _ _ hin (by rw [hd]; omega), hd]
      have e1 : (((m % 128 + 128 : Nat) : Int) - 128) = ((m % 128 : Nat) : Int) := by omega
      rw [e1]
      have hm2 : (m : Int) = ((m % 128 : Nat) : Int) + 128 * ((m / 128 : Nat) : Int) := by omega
      have e2 : acc + ((m % 128 : Nat) : Int) * s + ((m / 128 : Nat) : Int) * (s * 128) = acc + (m : Int) * s := by
        rw [hm2, Int.add_mul, Int.mul_comm s 128, ← Int.mul_assoc, Int.mul_comm ((m / 128 : Nat) : Int) 128]
        omega
      have hlen : (digs m).length = (digs (m / 128)).length + 1 := by rw [digs_big m h]; simp
      have key := ih (m / 128) (by omega) (pre ++ [((m % 128 + 128 : Nat) : Int)]) rest p f (k + 1) (s * 128) (acc + ((m % 128 : Nat) : Int) * s)
        (by simp; omega) (by omega) (by omega) (by have := Int.mul_nonneg (show (0 : Int) ≤ ((m % 128 : Nat) : Int) by omega) (Int.le_of_lt hs); omega) (by rw [e2]; exact hN) (by intro _; omega)
      have e3 : pre ++ [((m % 128 + 128 : Nat) : Int)] ++ digs (m / 128) ++ rest = pre ++ digs m ++ rest := by rw [digs_big m h]; simp
      rw [e3, e2] at key
      rw [key, hlen]
      rw [show p + (k + 1) + (digs (m / 128)).length = p + k + ((digs (m / 128)).length + 1) from by omega]

theorem getNum_put (ys rest : List Int) (n : Int) (h0 : 0 ≤ n) (h1 : n ≤ 2147483647) : getNum (putNum ys n ++ rest) (ys.length : Nat) = (n, (((putNum ys n).length : Nat) : Int)) := by
  rw [getNum_nat, putNum_yes ys n h0 h1]
  have := getFrom_digs n.toNat ys rest ys.length 5 0 1 0 (by simp) (digs_len _ (by omega)) (by omega) (by omega) (by omega) (by omega)
  rw [this]
  simp
  omega

theorem getText_put (cs ts : List Int) (h : ts.length ≤ 20) : getText (putText cs ts) (cs.length : Nat) = (ts, (((putText cs ts).length : Nat) : Int)) := by
  have hp : putText cs ts = putNum cs ts.length ++ ts := putText_yes cs ts (by omega)
  have hg := getNum_put cs ts ts.length (by omega) (by omega)
  rw [← hp] at hg
  have hl : (putText cs ts).length = (putNum cs ts.length).length + ts.length := by rw [hp]; simp
  rw [getText_yes _ _ (by rw [hg]; simp only; omega), hg]
  simp only [Int.toNat_natCast]
  rw [hp]
  simp

theorem getFrom_back (xs : List Int) (hb : ∀ x ∈ xs, Byt x) (p : Nat) : ∀ (fuel k : Nat) (s acc n : Int) (j : Nat), getFrom xs p fuel k s acc = (n, (j : Int)) →
    ∃ m : Nat, n = acc + (m : Int) * s ∧ digs m = (xs.drop (p + k)).take (j - (p + k)) ∧ p + k < j ∧ j ≤ xs.length ∧ (0 < k → 0 < m) := by
  intro fuel
  induction fuel with
  | zero => intro k s acc n j h; simp [getFrom] at h
  | succ f ih =>
    intro k s acc n j h
    have hx := getD_byt hb (p + k)
    by_cases hin : p + k < xs.length
    · have hdrop : xs.drop (p + k) = xs.getD (p + k) 0 :: xs.drop (p + k + 1) := by
        rw [List.drop_eq_getElem_cons hin]
        simp [List.getD_eq_getElem?_getD, hin]
      by_cases h1 : xs.getD (p + k) 0 < 128
      · by_cases h2 : (xs.getD (p + k) 0 = 0 ∧ 0 < k) ∨ 2147483647 < acc + xs.getD (p + k) 0 * s
        · rw [getFrom_bad xs p f k s acc hin h1 h2] at h
          simp at h
        · rw [getFrom_last xs p f k s acc hin h1 h2] at h
          simp only [Prod.mk.injEq] at h
          obtain ⟨hn, hj⟩ := h
          have hj' : j = p + k + 1 := by omega
          refine ⟨(xs.getD (p + k) 0).toNat, ?_, ?_, by omega, by omega, by omega⟩
          · rw [Int.toNat_of_nonneg hx.1]; exact hn.symm
          · rw [digs_small _ (by omega), Int.toNat_of_nonneg hx.1, hdrop, hj', show p + k + 1 - (p + k) = 1 from by omega]
            simp
      · rw [getFrom_more xs p f k s acc hin h1] at h
        obtain ⟨m, hn, hd, hlt, hle, hm⟩ := ih (k + 1) _ _ n j h
        have hm0 := hm (by omega)
        refine ⟨(xs.getD (p + k) 0 - 128).toNat + 128 * m, ?_, ?_, by omega, hle, by omega⟩
        · rw [hn]
          have e1 : (((xs.getD (p + k) 0 - 128).toNat + 128 * m : Nat) : Int) = (xs.getD (p + k) 0 - 128) + 128 * (m : Int) := by omega
          rw [e1, Int.add_mul, Int.mul_comm s 128, ← Int.mul_assoc, Int.mul_comm (m : Int) 128]
          omega
        · rw [digs_big _ (by omega), hdrop, show j - (p + k) = (j - (p + (k + 1))) + 1 from by omega, List.take_succ_cons]
          have e1 : ((xs.getD (p + k) 0 - 128).toNat + 128 * m) / 128 = m := by omega
          have e2 : ((((xs.getD (p + k) 0 - 128).toNat + 128 * m) % 128 + 128 : Nat) : Int) = xs.getD (p + k) 0 := by omega
          rw [e1, e2, hd, show p + k + 1 = p + (k + 1) from by omega]
    · rw [getFrom_out xs p (f + 1) k s acc hin] at h
      simp at h

/-- What is read as a number is just its bytes. -/
theorem putNum_got (xs : List Int) (hb : ∀ x ∈ xs, Byt x) (a n : Int) (j : Nat) (h : getNum xs a = (n, (j : Int))) :
    ∃ p : Nat, a = p ∧ p < j ∧ j ≤ xs.length ∧ putNum (xs.take p) n = xs.take j := by
  by_cases ha : a < 0
  · rw [getNum_neg xs a ha] at h; simp at h
  · obtain ⟨p, rfl⟩ := Int.eq_ofNat_of_zero_le (show 0 ≤ a by omega)
    have hf := getNum_fits xs p hb
    have h' := h
    rw [getNum_nat] at h'
    obtain ⟨m, hn, hd, hlt, hle, _⟩ := getFrom_back xs hb p 5 0 1 0 n j h'
    refine ⟨p, rfl, by omega, hle, ?_⟩
    have hn' : n = (m : Int) := by omega
    subst hn'
    rw [h] at hf
    rcases hf with hf | ⟨h0, h1, _⟩
    · simp at hf
    · rw [putNum_yes _ _ h0 h1, Int.toNat_natCast, hd]
      have : xs.take j = xs.take p ++ (xs.drop p).take (j - p) := by
        rw [← List.take_add]
        congr 1
        omega
      rw [this]
      rfl

end Go.Proofs.Ytenfnbnhdmkhkaa
/-
  The bytes of a value. Plain mathematics.
-/
namespace Go.Proofs.Ytenfnbnhdmkhkaa
open Go.RowKit
set_option linter.unusedVariables false
set_option linter.unusedSimpArgs false

/-- A number with its sign. -/
def putI (xs : List Int) (n : Int) : List Int := if n < 0 then putNum (putNum (putNum xs 1) (-n / 1000000)) (-n % 1000000) else putNum (putNum (putNum xs 0) (n / 1000000)) (n % 1000000)

/-- The bytes of the first k kids, each behind its key, if there are keys. -/
def kidB {α : Type} (f : α → List Int → List Int) (m : Bool) (K : List (List Int)) (L : List α) (b : List Int) : Nat → List Int
  | 0 => b
  | k + 1 => match L[k]? with
    | some x => f x (if m then putText (kidB f m K L b k) (K.getD k []) else kidB f m K L b k)
    | none => kidB f m K L b k

/-- The bytes of a value, behind what is there. -/
def bytV : (d : Nat) → Vl d → List Int → List Int
  | 0, _, xs => xs
  | d + 1, v, xs =>
    if v.1 = 1 then putNum (putNum xs v.1) v.2.1
    else if v.1 = 2 then putI (putNum xs v.1) v.2.1
    else if v.1 = 3 then putText (putNum xs v.1) v.2.2.1
    else if v.1 = 4 ∨ v.1 = 5 then kidB (fun x b => bytV d x b) (decide (v.1 = 5)) v.2.2.2.1 v.2.2.2.2 (putNum (putNum xs v.1) v.2.2.2.2.length) v.2.2.2.2.length
    else putNum xs v.1

theorem kidB_succ {α : Type} (f : α → List Int → List Int) (m : Bool) (K : List (List Int)) (L : List α) (b : List Int) (k : Nat) (h : k < L.length) :
    kidB f m K L b (k + 1) = f L[k] (if m then putText (kidB f m K L b k) (K.getD k []) else kidB f m K L b k) := by
  show (match L[k]? with | some x => _ | none => _) = _
  rw [List.getElem?_eq_getElem h]

theorem putI_len (xs : List Int) (n : Int) : (putI xs n).length ≤ xs.length + 15 := by
  unfold putI
  split
  · have h1 := putNum_len xs 1
    have h2 := putNum_len (putNum xs 1) (-n / 1000000)
    have h3 := putNum_len (putNum (putNum xs 1) (-n / 1000000)) (-n % 1000000)
    omega
  · have h1 := putNum_len xs 0
    have h2 := putNum_len (putNum xs 0) (n / 1000000)
    have h3 := putNum_len (putNum (putNum xs 0) (n / 1000000)) (n % 1000000)
    omega

theorem kidB_len {α : Type} (f : α → List Int → List Int) (c : α → Nat) (hf : ∀ x b, (f x b).length + 25 ≤ b.length + 60 * c x) (m : Bool) (K : List (List Int)) (L : List α) (b : List Int) : ∀ k, k ≤ L.length → (kidB f m K L b k).length ≤ b.length + 60 * pre c L k
  | 0, _ => by simp [kidB]
  | k + 1, hk => by
    have ih := kidB_len f c hf m K L b k (by omega)
    rw [kidB_succ f m K L b k (by omega), pre_succ c L k (by omega)]
    cases m with
    | true =>
      have h1 := hf L[k] (putText (kidB f true K L b k) (K.getD k []))
      have h2 := putText_len (kidB f true K L b k) (K.getD k [])
      simp only [if_true]
      omega
    | false =>
      have h1 := hf L[k] (kidB f false K L b k)
      simp only [Bool.false_eq_true, if_false]
      omega

theorem bytV_len : ∀ (d : Nat) (v : Vl d) (xs : List Int), (bytV d v xs).length + 25 ≤ xs.length + 60 * partsV d v
  | 0, v, _ => v.elim
  | d + 1, v, xs => by
    obtain ⟨vk, vn, vs, vK, vL⟩ := v
    have hp := parts_succ d vk vn vs vK vL
    have h0 := putNum_len xs vk
    show (if vk = 1 then putNum (putNum xs vk) vn else if vk = 2 then putI (putNum xs vk) vn else if vk = 3 then putText (putNum xs vk) vs
      else if vk = 4 ∨ vk = 5 then kidB (fun x b => bytV d x b) (decide (vk = 5)) vK vL (putNum (putNum xs vk) vL.length) vL.length else putNum xs vk).length + 25 ≤ _
    split
    · have := putNum_len (putNum xs vk) vn
      omega
    split
    · have := putI_len (putNum xs vk) vn
      omega
    split
    · have := putText_len (putNum xs vk) vs
      omega
    split
    · have h1 := kidB_len (fun x b => bytV d x b) (partsV d) (fun x b => bytV_len d x b) (decide (vk = 5)) vK vL (putNum (putNum xs vk) vL.length) vL.length (Nat.le_refl _)
      have h2 := putNum_len (putNum xs vk) vL.length
      omega
    · omega

theorem bytV_bool (d : Nat) (vn : Int) (vs : List Int) (vK : List (List Int)) (vL : List (Vl d)) (xs : List Int) : bytV (d + 1) (1, vn, vs, vK, vL) xs = putNum (putNum xs 1) vn := rfl
theorem bytV_int (d : Nat) (vn : Int) (vs : List Int) (vK : List (List Int)) (vL : List (Vl d)) (xs : List Int) : bytV (d + 1) (2, vn, vs, vK, vL) xs = putI (putNum xs 2) vn := rfl
theorem bytV_text (d : Nat) (vn : Int) (vs : List Int) (vK : List (List Int)) (vL : List (Vl d)) (xs : List Int) : bytV (d + 1) (3, vn, vs, vK, vL) xs = putText (putNum xs 3) vs := rfl
theorem bytV_list (d : Nat) (vn : Int) (vs : List Int) (vK : List (List Int)) (vL : List (Vl d)) (xs : List Int) : bytV (d + 1) (4, vn, vs, vK, vL) xs = kidB (fun x b => bytV d x b) false vK vL (putNum (putNum xs 4) vL.length) vL.length := rfl
theorem bytV_map (d : Nat) (vn : Int) (vs : List Int) (vK : List (List Int)) (vL : List (Vl d)) (xs : List Int) : bytV (d + 1) (5, vn, vs, vK, vL) xs = kidB (fun x b => bytV d x b) true vK vL (putNum (putNum xs 5) vL.length) vL.length := rfl
theorem bytV_bare (d : Nat) (vk vn : Int) (hk : vk = 0 ∨ vk = 6) (vs : List Int) (vK : List (List Int)) (vL : List (Vl d)) (xs : List Int) : bytV (d + 1) (vk, vn, vs, vK, vL) xs = putNum xs vk := by
  rcases hk with rfl | rfl <;> rfl

/-- What ValBytes answers. -/
def valBytes (d : Nat) (v : Vl d) : List Int := if okB d v = true then bytV d v [] else []
end Go.Proofs.Ytenfnbnhdmkhkaa
/-
  A text that came in, as its reading has it, can be read: 'TSeg'.
-/
namespace Go.Proofs.Ytenfnbnhdmkhkaa
open Go.ChangeShapes Go.WideShapes Go.ChangeAt Go.RowKit
set_option linter.unusedVariables false
set_option linter.unusedSimpArgs false
set_option maxRecDepth 100000

theorem cellsT : Try.prog.cellsOf 22 = 1 := by kernel_rfl
theorem cellsI : Try.prog.cellsOf 3 = 1 := by kernel_rfl

theorem list_of {α : Type} {Q : Nat → α → Prop} : ∀ n, (∀ i, i < n → ∃ x, Q i x) → ∃ l : List α, l.length = n ∧ ∀ i (h : i < l.length), Q i l[i]
  | 0, _ => ⟨[], rfl, fun i h => by simp at h⟩
  | n + 1, hq => by
    obtain ⟨l, hl, hi⟩ := list_of n (fun i hi => hq i (by omega))
    obtain ⟨x, hx⟩ := hq n (by omega)
    refine ⟨l ++ [x], by simp [hl], fun i h => ?_⟩
    by_cases e : i < l.length
    · rw [List.getElem_append_left e]; exact hi i e
    · have : i = n := by simp at h; omega
      subst this
      rw [List.getElem_append_right (by omega)]
      simpa using hx

variable {H : Type} {enc : TypeId × Value → H} {w : World}

theorem read_text {fuel : Nat} {cs : List Value} {x : DataW H × List MemPlace} (h : DataW.trod enc Try.prog w 0 (fun _ => true) true fuel 22 cs = some x) : ∃ u xs, cs = [u] ∧ TSeg (fun b => b < w.heap.size) w u xs := by
  rcases open_ints Try.underlying22 Try.underlying5 (by kernel_rfl) h with ⟨rfl, _⟩ | ⟨a, len, cap, zs, rfl, _, hl, hm, hz, _, hcell, hwz⟩
  · exact ⟨_, [], rfl, none, 0, rfl, ⟨by simp, .inl rfl⟩, Nat.le_refl _, Nat.zero_le _, fun _ => rfl, by simp⟩
  · obtain ⟨xs, e, hs, h1, h2, h3⟩ := seg_of_row (w := w) (a := some a) (len := len) (cap := cap) (zs := zs) (.inr ⟨a, rfl, hl, hm, by simpa using hz, hcell, hwz⟩)
    subst e
    exact ⟨_, xs, rfl, some a, cap, rfl, hs, h1, h2, h3, hs.lt⟩

end Go.Proofs.Ytenfnbnhdmkhkaa
/-
  The order of numbers and of texts, as the specification and as the program ask it: l2num; cmp.Compare at int.
-/
namespace Go.Proofs.Ytenfnbnhdmkhkaa
open Go.RowKit
set_option linter.unusedVariables false
set_option linter.unusedSimpArgs false

/-- The order of two numbers. -/
def numC (a b : Int) : Int := if a < b then -1 else if b < a then 1 else 0
theorem numC_lt {a b : Int} (h : a < b) : numC a b = -1 := by simp [numC, h]
theorem numC_gt {a b : Int} (h : b < a) : numC a b = 1 := by
  have : ¬ a < b := by omega
  simp [numC, h, this]
theorem numC_eq (a : Int) : numC a a = 0 := by simp [numC]

set_option maxHeartbeats 800000 in
theorem isNaN_any (a : Int) (w : World) : Calls Try.prog 58 #[.int .i64 a] w fun e w' => e = .returned (.bool false) ∧ w = w' := by
  go_enter Try.func58, Try.ntmps58
  go_wp2
  go_ret
  exact ⟨rfl, rfl⟩

set_option maxHeartbeats 800000 in
theorem cmpInt_any (a b : Int) (w : World) : Calls Try.prog 40 #[.int .i64 a, .int .i64 b] w fun e w' => e = .returned (.int .i64 (numC a b)) ∧ w = w' := by
  have H1 := hide' (isNaN_any a w)
  have H2 := hide' (isNaN_any b w)
  by_cases h1 : a < b
  · have HO := hide' (numC_lt h1)
    go_enter Try.func40, Try.ntmps40
    go_wp2_with fail
    refine H1.out.mono ?_
    rintro e w1 ⟨rfl, e1⟩
    obtain rfl := e1
    go_wp2_with fail
    refine H2.out.mono ?_
    rintro e w1 ⟨rfl, e1⟩
    obtain rfl := e1
    go_wp2
    go_ret
    exact ⟨ret_i64 (by rw [HO.out]), rfl⟩
  · by_cases h2 : b < a
    · have HO := hide' (numC_gt h2)
      go_enter Try.func40, Try.ntmps40
      go_wp2_with fail
      refine H1.out.mono ?_
      rintro e w1 ⟨rfl, e1⟩
      obtain rfl := e1
      go_wp2_with fail
      refine H2.out.mono ?_
      rintro e w1 ⟨rfl, e1⟩
      obtain rfl := e1
      go_wp2
      go_ret
      exact ⟨ret_i64 (by rw [HO.out]), rfl⟩
    · have h3 : a = b := by omega
      subst h3
      have HO := hide' (numC_eq a)
      go_enter Try.func40, Try.ntmps40
      go_wp2_with fail
      refine H1.out.mono ?_
      rintro e w1 ⟨rfl, e1⟩
      obtain rfl := e1
      go_wp2_with fail
      refine H2.out.mono ?_
      rintro e w1 ⟨rfl, e1⟩
      obtain rfl := e1
      go_wp2
      go_ret
      exact ⟨ret_i64 (by rw [HO.out]), rfl⟩

end Go.Proofs.Ytenfnbnhdmkhkaa
/-
  The order of values, as the specification has it: 'cmpV'; readings at one depth. Plain mathematics.
-/
namespace Go.Proofs.Ytenfnbnhdmkhkaa
open Go.RowKit
set_option linter.unusedVariables false
set_option linter.unusedSimpArgs false

/-- The order of two lists of parts, with their keys where they are those of maps. -/
def cmpLs {α : Type} (m : Bool) (f : α → α → Int) : List (List Int) → List (List Int) → List α → List α → Int
  | _, _, [], [] => 0
  | _, _, [], _ :: _ => -1
  | _, _, _ :: _, [] => 1
  | aK, bK, a :: aL, b :: bL => if m = true ∧ bytesC (aK.headD []) (bK.headD []) ≠ 0 then bytesC (aK.headD []) (bK.headD []) else if f a b ≠ 0 then f a b else cmpLs m f aK.tail bK.tail aL bL

/-- The order of two values. -/
def cmpV : (d : Nat) → Vl d → Vl d → Int
  | 0, _, _ => 0
  | d + 1, a, b => if a.1 ≠ b.1 then numC a.1 b.1 else if a.1 = 3 then bytesC a.2.2.1 b.2.2.1 else if a.2.1 ≠ b.2.1 then numC a.2.1 b.2.1 else cmpLs (decide (a.1 = 5)) (cmpV d) a.2.2.2.1 b.2.2.2.1 a.2.2.2.2 b.2.2.2.2

/-- From the k-th parts on. -/
def cmpK {d : Nat} (m : Bool) (aK bK : List (List Int)) (aL bL : List (Vl d)) (k : Nat) : Int := cmpLs m (cmpV d) (aK.drop k) (bK.drop k) (aL.drop k) (bL.drop k)

theorem headD_drop (l : List (List Int)) (k : Nat) : (l.drop k).headD [] = l.getD k [] := by
  induction l generalizing k with
  | nil => simp
  | cons a l ih =>
    cases k with
    | zero => rfl
    | succ k => simp

theorem tail_drop (l : List (List Int)) (k : Nat) : (l.drop k).tail = l.drop (k + 1) := by rw [List.tail_drop]

theorem cmpK_step {d : Nat} {m : Bool} {aK bK : List (List Int)} {aL bL : List (Vl d)} {k : Nat} (ha : k < aL.length) (hb : k < bL.length) :
    cmpK m aK bK aL bL k = if m = true ∧ bytesC (aK.getD k []) (bK.getD k []) ≠ 0 then bytesC (aK.getD k []) (bK.getD k []) else if cmpV d aL[k] bL[k] ≠ 0 then cmpV d aL[k] bL[k] else cmpK m aK bK aL bL (k + 1) := by
  unfold cmpK
  rw [List.drop_eq_getElem_cons ha, List.drop_eq_getElem_cons hb]
  simp only [cmpLs, headD_drop, tail_drop]
theorem cmpK_end1 {d : Nat} {m : Bool} {aK bK : List (List Int)} {aL bL : List (Vl d)} {k : Nat} (ha : k < aL.length) (hb : ¬ k < bL.length) : cmpK m aK bK aL bL k = 1 := by
  unfold cmpK
  rw [List.drop_eq_getElem_cons ha, List.drop_eq_nil_of_le (by omega : bL.length ≤ k)]
  rfl
theorem cmpK_end2 {d : Nat} {m : Bool} {aK bK : List (List Int)} {aL bL : List (Vl d)} {k : Nat} (ha : ¬ k < aL.length) (hb : k < bL.length) : cmpK m aK bK aL bL k = -1 := by
  unfold cmpK
  rw [List.drop_eq_getElem_cons hb, List.drop_eq_nil_of_le (by omega : aL.length ≤ k)]
  rfl
theorem cmpK_end3 {d : Nat} {m : Bool} {aK bK : List (List Int)} {aL bL : List (Vl d)} {k : Nat} (ha : ¬ k < aL.length) (hb : ¬ k < bL.length) : cmpK m aK bK aL bL k = 0 := by
  unfold cmpK
  rw [List.drop_eq_nil_of_le (by omega : aL.length ≤ k), List.drop_eq_nil_of_le (by omega : bL.length ≤ k)]
  rfl
theorem cmpK_zero {d : Nat} (m : Bool) (aK bK : List (List Int)) (aL bL : List (Vl d)) : cmpK m aK bK aL bL 0 = cmpLs m (cmpV d) aK bK aL bL := by simp [cmpK]

theorem cmpV_kind {d : Nat} {a b : Vl (d + 1)} (h : a.1 ≠ b.1) : cmpV (d + 1) a b = numC a.1 b.1 := by
  show (if a.1 ≠ b.1 then _ else _) = _
  rw [if_pos h]
theorem cmpV_text {d : Nat} {a b : Vl (d + 1)} (h : a.1 = b.1) (h3 : a.1 = 3) : cmpV (d + 1) a b = bytesC a.2.2.1 b.2.2.1 := by
  show (if a.1 ≠ b.1 then _ else if a.1 = 3 then _ else _) = _
  rw [if_neg (by simpa using h), if_pos h3]
theorem cmpV_num {d : Nat} {a b : Vl (d + 1)} (h : a.1 = b.1) (h3 : a.1 ≠ 3) (hn : a.2.1 ≠ b.2.1) : cmpV (d + 1) a b = numC a.2.1 b.2.1 := by
  show (if a.1 ≠ b.1 then _ else if a.1 = 3 then _ else if a.2.1 ≠ b.2.1 then _ else _) = _
  rw [if_neg (by simpa using h), if_neg h3, if_pos hn]
theorem cmpV_parts {d : Nat} {a b : Vl (d + 1)} (h : a.1 = b.1) (h3 : a.1 ≠ 3) (hn : a.2.1 = b.2.1) : cmpV (d + 1) a b = cmpK (decide (a.1 = 5)) a.2.2.2.1 b.2.2.2.1 a.2.2.2.2 b.2.2.2.2 0 := by
  rw [cmpK_zero]
  show (if a.1 ≠ b.1 then _ else if a.1 = 3 then _ else if a.2.1 ≠ b.2.1 then _ else _) = _
  rw [if_neg (by simpa using h), if_neg h3, if_neg (by simpa using hn)]

/-- What is read at a depth is read at the next one. -/
theorem VSeg.up {R : Nat → Prop} {w : World} (d : Nat) : ∀ {c : Value × Value × Value × Value × Value} {v : Vl d}, VSeg R w d c v → ∃ v' : Vl (d + 1), VSeg R w (d + 1) c v' := by
  induction d with
  | zero => intro c v h; exact h.elim
  | succ d ih =>
    intro c v h
    obtain ⟨h0, h1, h2, h3, a, cap, g1, g2, g3, g4, g5⟩ := h
    have hq : ∀ i, i < v.2.2.2.2.length → ∃ x : Vl (d + 1), ∀ b off, a = some ⟨b, off, none⟩ → (∀ i (h : i < v.2.2.2.2.length), ∃ e, Five w b (off + i * 5) e ∧ VSeg R w d e (v.2.2.2.2[i])) → ∃ e, Five w b (off + i * 5) e ∧ VSeg R w (d + 1) e x := by
      intro i hi
      rcases g5 with e | ⟨b, off, hb, hR, hc⟩
      · rw [e] at hi; simp at hi
      · obtain ⟨e, he, hv⟩ := hc i hi
        obtain ⟨x, hx⟩ := ih hv
        refine ⟨x, fun b' off' hb' _ => ?_⟩
        rw [hb] at hb'
        simp at hb'
        obtain ⟨rfl, rfl⟩ := hb'
        exact ⟨e, he, hx⟩
    obtain ⟨l, hl, hls⟩ := list_of v.2.2.2.2.length hq
    refine ⟨(v.1, v.2.1, v.2.2.1, v.2.2.2.1, l), h0, h1, h2, h3, a, cap, by simpa [hl] using g1, by simpa [hl] using g2, g3, g4, ?_⟩
    rcases g5 with e | ⟨b, off, hb, hR, hc⟩
    · refine .inl ?_
      show l = []
      exact List.eq_nil_of_length_eq_zero (by rw [hl, e]; rfl)
    · refine .inr ⟨b, off, hb, hR, fun i hi => ?_⟩
      exact hls i hi b off hb hc

theorem VSeg.upto {R : Nat → Prop} {w : World} (d k : Nat) {c : Value × Value × Value × Value × Value} {v : Vl d} (h : VSeg R w d c v) : ∃ v' : Vl (d + k), VSeg R w (d + k) c v' := by
  induction k with
  | zero => exact ⟨v, h⟩
  | succ k ih =>
    obtain ⟨v', h'⟩ := ih
    exact VSeg.up (d + k) h'
end Go.Proofs.Ytenfnbnhdmkhkaa
