/-
  Texts that a law leans on, one behind the other; no statement is proved here.
-/
import Derived.Test.YthnkedbmfhokiaaGreatDoorPk12
import Derived.Test.YthnkedbmfhokiaaGreatDoorPk6
import Derived.Maps.Own
import Derived.Test.YthnkedbmfhokiaaGreatDoorPk3
import Derived.Sort.KeysCollected
/-
  GetText of the program and of the specification: the text at a place and the place behind it, in memory of its own.
-/
namespace Go.Proofs.YthnkedbmfhokiaaGreatDoor
open Go.RowKit
set_option linter.unusedVariables false

/-- What GetText answers. -/
def getText (xs : List Int) (a : Int) : List Int × Int :=
  if (getNum xs a).2 < 0 ∨ 20 < (getNum xs a).1 ∨ (xs.length : Int) - (getNum xs a).2 < (getNum xs a).1 then ([], -1)
  else ((xs.drop (getNum xs a).2.toNat).take (getNum xs a).1.toNat, (getNum xs a).2 + (getNum xs a).1)

theorem getText_no (xs : List Int) (a : Int) (h : (getNum xs a).2 < 0 ∨ 20 < (getNum xs a).1 ∨ (xs.length : Int) - (getNum xs a).2 < (getNum xs a).1) : getText xs a = ([], -1) := by
  rw [getText, if_pos h]
theorem getText_yes (xs : List Int) (a : Int) (h : ¬ ((getNum xs a).2 < 0 ∨ 20 < (getNum xs a).1 ∨ (xs.length : Int) - (getNum xs a).2 < (getNum xs a).1)) :
    getText xs a = ((xs.drop (getNum xs a).2.toNat).take (getNum xs a).1.toNat, (getNum xs a).2 + (getNum xs a).1) := by
  rw [getText, if_neg h]

theorem getText_len (xs : List Int) (a : Int) : (getText xs a).1.length ≤ 20 := by
  unfold getText
  split
  · simp
  · simp
    omega

/-- A piece of what can be read can be read. -/
theorem seg_cut {w : World} {b off : Nat} {xs : List Int} {j s cap : Nat} (h : Seg w (some ⟨b, off, none⟩) xs) (hj : j + s ≤ xs.length) (hcap : xs.length ≤ cap) :
    Seg w (some (if cap = j then ⟨b, off, none⟩ else ⟨b, off + j, none⟩)) ((xs.drop j).take s) := by
  refine ⟨fun x hx => h.1 x (List.mem_of_mem_drop (List.mem_of_mem_take hx)), ?_⟩
  by_cases hs : s = 0
  · exact .inl (by simp [hs])
  · have hc : ¬ cap = j := by omega
    rw [if_neg hc]
    rcases h.2 with h0 | ⟨b', off', h1, h2⟩
    · subst h0; simp at hj; omega
    · simp at h1
      obtain ⟨rfl, rfl⟩ := h1
      refine .inr ⟨b, off + j, rfl, fun i hi => ?_⟩
      have hl : i < s := by simp at hi; omega
      have := h2 (j + i) (by omega)
      rw [Nat.add_assoc, this]
      simp [List.getD_eq_getElem?_getD, List.getElem?_drop, hl]

theorem ret_bi {v : Value} {y : Int} {r : List Int × Int} {t : List Int} {z : Int} (h : r = (t, z)) (hy : y = z) : Ending.returned (.tuple #[v, .int .i64 y]) = .returned (.tuple #[v, .int .i64 r.2]) := by rw [h, hy]

set_option maxHeartbeats 1600000 in
theorem impl_GetText_any (a : Option Addr) (c1 : Nat) (xs : List Int) (at_ : Int) (w : World) (ha : Seg w a xs) (hcap : xs.length ≤ c1) (hc2 : c1 ≤ maxLen) (hl : xs.length ≤ 2097152) (hw : at_ ≤ 9223372036854775807) :
    Calls Tryz.prog 67 #[.slice a xs.length c1, .int .i64 at_] w fun e w' => ∃ v, e = .returned (.tuple #[v, .int .i64 (getText xs at_).2]) ∧ Bts w' w.heap.size v (getText xs at_).1 ∧ Below w.heap.size w w' := by
  unfold maxLen at hc2
  have hF := getNum_fits xs at_ ha.1
  have HN : Hid ((getNum xs at_).2 < 0 ∨ 20 < (getNum xs at_).1 ∨ (xs.length : Int) - (getNum xs at_).2 < (getNum xs at_).1 → getText xs at_ = ([], -1)) := getText_no xs at_
  have HY : Hid (¬ ((getNum xs at_).2 < 0 ∨ 20 < (getNum xs at_).1 ∨ (xs.length : Int) - (getNum xs at_).2 < (getNum xs at_).1) → getText xs at_ = ((xs.drop (getNum xs at_).2.toNat).take (getNum xs at_).1.toNat, (getNum xs at_).2 + (getNum xs at_).1)) := getText_yes xs at_
  have HC : Hid (Calls Tryz.prog 66 #[.slice a xs.length c1, .int .i64 at_] w fun e w' => e = .returned (.tuple #[.int .i64 (getNum xs at_).1, .int .i64 (getNum xs at_).2]) ∧ Below w.heap.size w w') := impl_GetNum_any a c1 xs at_ w ha hl hw
  generalize getText xs at_ = r at *
  generalize getNum xs at_ = q at *
  obtain ⟨q1, q2⟩ := q
  simp only at hF HN HY HC
  by_cases hbad : q2 < 0 ∨ 20 < q1 ∨ (xs.length : Int) - q2 < q1
  · have HR : Hid (r = ([], -1)) := HN.out hbad
    clear HN HY
    have hsz : ∀ w1 : World, Bts w1 w.heap.size (.slice none 0 0) r.1 := fun w1 => by rw [HR.out]; exact ⟨by simp, World.ownsRow_nil _ _ _ _⟩
    have HS : Hid (∀ w1 : World, Bts w1 w.heap.size (.slice none 0 0) r.1) := hsz
    clear hsz
    have hfit : q2 < 0 ∨ (0 ≤ q2 ∧ q2 ≤ xs.length ∧ 0 ≤ q1 ∧ q1 ≤ 2147483647) := by
      rcases hF with h | ⟨h1, h2, j, h3, h4, h5, h6⟩
      · simp at h; omega
      · omega
    clear hF
    by_cases h1 : q2 < 0
    · clear hbad hfit
      go_enter Tryz.func67, Tryz.ntmps67
      go_wp2_with fail
      refine HC.out.mono ?_
      rintro e w1 ⟨rfl, b1⟩
      go_wp2
      go_ret2
      exact ⟨_, ret_bi HR.out rfl, HS.out _, b1⟩
    · by_cases h2 : 20 < q1
      · clear hbad
        go_enter Tryz.func67, Tryz.ntmps67
        go_wp2_with fail
        refine HC.out.mono ?_
        rintro e w1 ⟨rfl, b1⟩
        go_wp2
        go_ret2
        exact ⟨_, ret_bi HR.out rfl, HS.out _, b1⟩
      · have h3 : (xs.length : Int) - q2 < q1 := by omega
        have h4 : 0 ≤ q2 ∧ q2 ≤ xs.length ∧ 0 ≤ q1 ∧ q1 ≤ 2147483647 := by omega
        obtain ⟨h5, h6, h7, h8⟩ := h4
        clear hbad hfit
        go_enter Tryz.func67, Tryz.ntmps67
        go_wp2_with fail
        refine HC.out.mono ?_
        rintro e w1 ⟨rfl, b1⟩
        go_wp2
        go_ret2
        exact ⟨_, ret_bi HR.out rfl, HS.out _, b1⟩
  · have HR : Hid (r = ((xs.drop q2.toNat).take q1.toNat, q2 + q1)) := HY.out hbad
    clear HN HY
    obtain ⟨s, j, rfl, rfl, hj0, hjl, hjs, hs20⟩ : ∃ s j : Nat, q1 = s ∧ q2 = j ∧ 0 < j ∧ j ≤ xs.length ∧ j + s ≤ xs.length ∧ s ≤ 20 := by
      rcases hF with h | ⟨h1, h2, j, h3, h4, h5, h6⟩
      · simp at h; omega
      · exact ⟨q1.toNat, j, by omega, h3, by omega, h5, by omega, by omega⟩
    clear hbad hF
    obtain ⟨b, off, rfl, _⟩ := ha.at (k := 0) (by omega)
    have HR' : Hid (r = ((xs.drop j).take s, ((j + s : Nat) : Int))) := by show r = _; rw [HR.out]; simp
    clear HR
    have HB : Hid (((xs.drop j).take s).length = s) := by show _ = s; simp; omega
    by_cases hcj : c1 = j
    · subst hcj
      have hs0 : s = 0 := by omega
      subst hs0
      go_enter Tryz.func67, Tryz.ntmps67
      go_wp2_with fail
      refine HC.out.mono ?_
      rintro e w1 ⟨rfl, b1⟩
      go_wp2_with fail
      refine (joined_any none _ 0 _ [] [] _ ⟨by simp, .inl rfl⟩ ⟨by simp, .inl rfl⟩ (by simp) (by simp) (by simp) (by simp)).mono ?_
      rintro e w2 ⟨v, rfl, hv, b2⟩
      go_wp2
      go_ret2
      exact ⟨_, ret_bi HR'.out (by simp), by rw [HR'.out]; exact hv.mono b1.size, Below.on b1 b2⟩
    · have hS := seg_cut (j := j) (s := s) (cap := c1) ha (by omega) hcap
      rw [if_neg hcj] at hS
      go_enter Tryz.func67, Tryz.ntmps67
      go_wp2_with fail
      refine HC.out.mono ?_
      rintro e w1 ⟨rfl, b1⟩
      have hJ := joined_any none (some ⟨b, off + j, none⟩) 0 (c1 - j) [] ((xs.drop j).take s) w1 ⟨by simp, .inl rfl⟩ (hS.grow b1) (by simp) (by simp) (by simp) (by rw [HB.out]; omega)
      rw [HB.out] at hJ
      have HJ := hJ
      clear hJ
      go_wp2_with fail
      refine HJ.mono ?_
      rintro e w2 ⟨v, rfl, hv, b2⟩
      go_wp2
      go_ret2
      exact ⟨_, ret_bi HR'.out (by simp), by rw [HR'.out]; exact hv.mono b1.size, Below.on b1 b2⟩
end Go.Proofs.YthnkedbmfhokiaaGreatDoor
/-
  What was put is got, and what is got was put: numbers and texts, plain; no Go text here.
-/
namespace Go.Proofs.YthnkedbmfhokiaaGreatDoor
set_option linter.unusedVariables false

theorem getD_mid (pre ds rest : List Int) (d : Int) : (pre ++ (d :: ds) ++ rest).getD pre.length 0 = d := by
  simp [List.getD_eq_getElem?_getD, List.append_assoc]

theorem getFrom_digs (m : Nat) : ∀ (pre rest : List Int) (p fuel k : Nat) (s acc : Int), pre.length = p + k → (digs m).length ≤ fuel → 0 < s → 0 ≤ acc → acc + (m : Int) * s ≤ 2147483647 → (0 < k → 0 < m) →
    getFrom (pre ++ digs m ++ rest) p fuel k s acc = (acc + (m : Int) * s, ((p + k + (digs m).length : Nat) : Int)) := by
  induction m using Nat.strongRecOn with
  | ind m ih =>
    intro pre rest p fuel k s acc hp hf hs ha hN hk
    have hpos := digs_len_pos m
    obtain ⟨f, rfl⟩ : ∃ f, fuel = f + 1 := ⟨fuel - 1, by omega⟩
    have hin : p + k < (pre ++ digs m ++ rest).length := by simp; omega
    by_cases h : m < 128
    · have hd : (pre ++ digs m ++ rest).getD (p + k) 0 = m := by
        rw [digs_small m h, ← hp]
        exact getD_mid pre [] rest m
      rw [getFrom_last _ _ _ _ _ _ hin (by rw [hd]; omega) (by
        rw [hd]
        rintro (⟨h1, h2⟩ | h1)
        · have := hk h2; omega
        · omega), hd, digs_small m h]
      simp
    · have hd : (pre ++ digs m ++ rest).getD (p + k) 0 = ((m % 128 + 128 : Nat) : Int) := by
        rw [digs_big m h, ← hp]
        exact getD_mid pre (digs (m / 128)) rest _
      rw [getFrom_more _ _ _ _ _ _ hin (by rw [hd]; omega), hd]
      have e1 : (((m % 128 + 128 : Nat) : Int) - 128) = ((m % 128 : Nat) : Int) := by omega
      rw [e1]
      have hm2 : (m : Int) = ((m % 128 : Nat) : Int) + 128 * ((m / 128 : Nat) : Int) := by omega
      have e2 : acc + ((m % 128 : Nat) : Int) * s + ((m / 128 : Nat) : Int) * (s * 128) = acc + (m : Int) * s := by
        rw [hm2, Int.add_mul, Int.mul_comm s 128, ← Int.mul_assoc, Int.mul_comm ((m / 128 : Nat) : Int) 128]
        omega
      have hlen : (digs m).length = (digs (m / 128)).length + 1 := by rw [digs_big m h]; simp
      have key := ih (m / 128) (by omega) (pre ++ [((m % 128 + 128 : Nat) : Int)]) rest p f (k + 1) (s * 128) (acc + ((m % 128 : Nat) : Int) * s)
        (by simp; omega) (by omega) (by omega) (by have := Int.mul_nonneg (show (0 : Int) ≤ ((m % 128 : Nat) : Int) by omega) (Int.le_of_lt hs); omega) (by rw [e2]; exact hN) (by intro _; omega)
      have e3 : pre ++ [((m % 128 + 128 : Nat) : Int)] ++ digs (m / 128) ++ rest = pre ++ digs m ++ rest := by rw [digs_big m h]; simp
      rw [e3, e2] at key
      rw [key, hlen]
      rw [show p + (k + 1) + (digs (m / 128)).length = p + k + ((digs (m / 128)).length + 1) from by omega]

theorem getNum_put (ys rest : List Int) (n : Int) (h0 : 0 ≤ n) (h1 : n ≤ 2147483647) : getNum (putNum ys n ++ rest) (ys.length : Nat) = (n, (((putNum ys n).length : Nat) : Int)) := by
  rw [getNum_nat, putNum_yes ys n h0 h1]
  have := getFrom_digs n.toNat ys rest ys.length 5 0 1 0 (by simp) (digs_len _ (by omega)) (by omega) (by omega) (by omega) (by omega)
  rw [this]
  simp
  omega

theorem getText_put (cs ts : List Int) (h : ts.length ≤ 20) : getText (putText cs ts) (cs.length : Nat) = (ts, (((putText cs ts).length : Nat) : Int)) := by
  have hp : putText cs ts = putNum cs ts.length ++ ts := putText_yes cs ts (by omega)
  have hg := getNum_put cs ts ts.length (by omega) (by omega)
  rw [← hp] at hg
  have hl : (putText cs ts).length = (putNum cs ts.length).length + ts.length := by rw [hp]; simp
  rw [getText_yes _ _ (by rw [hg]; simp only; omega), hg]
  simp only [Int.toNat_natCast]
  rw [hp]
  simp

end Go.Proofs.YthnkedbmfhokiaaGreatDoor
/-
  The datum of a map of parts while its keys are put; no statement is proved here.
-/
namespace Go.Proofs.YthnkedbmfhokiaaGreatDoor
open Go.RowKit
set_option linter.unusedVariables false

/-- How an element of a map of parts reads: as itself. -/
def tokR (v : Value) : Option (DataW Value × List MemPlace) := some (.held v, [])

/-- The map's datum after the first k of its keys were put. -/
def mapD (vK : List (List Int)) (ps : List Value) : Nat → DataW Value
  | 0 => .map []
  | k + 1 => (mapD vK ps k).put (.string (u8s (vK.getD k []))) (.held (ps.getD k .nilIface))

theorem below_grows {w w' : World} (h : Below w.heap.size w w') (r : Option Nat) : w.grownBy w' r := ⟨h.os, h.tape, h.output, h.size, fun k hk _ => h.block k hk⟩
end Go.Proofs.YthnkedbmfhokiaaGreatDoor
/-
  What is owned, behind later calls; how many marks a value takes.
-/
namespace Go.Proofs.YthnkedbmfhokiaaGreatDoor
open Go.RowKit
set_option linter.unusedVariables false
set_option linter.unusedSimpArgs false

theorem KOwn.on {w w' : World} {v : Value} {ks : List (List Int)} {B : List Nat} (h : KOwn w v ks B) (hb : Below w.heap.size w w') : KOwn w' v ks B := h.agree fun b hb' => hb.block b (h.lt b hb')
theorem VOwn.on {w w' : World} {d : Nat} {c : Value × Value × Value × Value × Value} {v : Vl d} {B : List Nat} (h : VOwn w d c v B) (hb : Below w.heap.size w w') : VOwn w' d c v B := VOwn.agree d h fun b hb' => hb.block b (VOwn.lt d h b hb')
theorem KOwn.read {w : World} {v : Value} {ks : List (List Int)} {B : List Nat} (h : KOwn w v ks B) : KSeg (fun b => b < w.heap.size) w v ks := h.seg.mono fun b hb => h.lt b hb

theorem VOwn.read {w : World} {d : Nat} {c : Value × Value × Value × Value × Value} {v : Vl d} {B : List Nat} (h : VOwn w d c v B) : VSeg (fun b => b < w.heap.size) w d c v := h.below (Below.refl _ _)
end Go.Proofs.YthnkedbmfhokiaaGreatDoor
/-
  l2say of the specification: a value without parts.
-/
namespace Go.Proofs.YthnkedbmfhokiaaGreatDoor
open Go.RowKit
set_option linter.unusedVariables false
set_option linter.unusedSimpArgs false

end Go.Proofs.YthnkedbmfhokiaaGreatDoor
/-
  A map of parts as its datum: the entries in the order of the keys.
-/
namespace Go.Proofs.YthnkedbmfhokiaaGreatDoor
open Go.RowKit
set_option linter.unusedVariables false
set_option linter.unusedSimpArgs false

theorem before_eq : ∀ a b : List UInt8, bytesBefore a b = Op.bytesLess a b
  | [], [] => rfl
  | [], _ :: _ => rfl
  | _ :: _, [] => rfl
  | x :: a, y :: b => by
    have ih := before_eq a b
    unfold bytesBefore Op.bytesLess
    rw [ih]

/-- The key at place i is behind the one ahead of it. -/
def upB (ks : List (List Int)) (i : Nat) : Bool := i == 0 || ltS (ks.getD (i - 1) []) (ks.getD i [])
theorem step_up {ks : List (List Int)} {n : Nat} (h : ∀ i, i < n → stepB ks i = true) : ∀ i, i < n → upB ks i = true := by
  intro i hi
  have h1 := h i hi
  simp only [stepB, Bool.and_eq_true] at h1
  exact h1.2

/-- Keys that ascend one by one ascend. -/
theorem asc_ltU {vK : List (List Int)} {k : Nat} (h : ∀ i, i < k → upB vK i = true) : ∀ j, j < k → ∀ i, i < j → Op.bytesLess (u8s (vK.getD i [])) (u8s (vK.getD j [])) = true := by
  intro j
  induction j with
  | zero => intro _ i hi; omega
  | succ j ih =>
    intro hj i hi
    have hs := h (j + 1) hj
    have h1 : Op.bytesLess (u8s (vK.getD j [])) (u8s (vK.getD (j + 1) [])) = true := by
      unfold upB at hs
      have h2 := hs
      rw [Nat.add_sub_cancel] at h2
      have e : (j + 1 == 0) = false := by simp
      rw [e, Bool.false_or] at h2
      exact h2
    by_cases e : i = j
    · rw [e]; exact h1
    · exact less_trans _ _ _ (ih (by omega) i (by omega)) h1

theorem less_ne {a b : List UInt8} (h : Op.bytesLess a b = true) : (a == b) = false := by
  rw [beq_eq_false_iff_ne]
  intro e
  rw [e, less_irrefl] at h
  simp at h

theorem less_asymm {a b : List UInt8} (h : Op.bytesLess a b = true) : Op.bytesLess b a = false := by
  cases h2 : Op.bytesLess b a with
  | false => rfl
  | true =>
    have := less_trans _ _ _ h h2
    rw [less_irrefl] at this
    simp at this

theorem insert_last {H : Type} (x : Go.Lit × DataW H) : ∀ l : List (Go.Lit × DataW H), (∀ y ∈ l, x.1.before y.1 = false) → DataW.insert x l = l ++ [x]
  | [], _ => rfl
  | y :: r, h => by
    have h1 := h y (by simp)
    have ih := insert_last x r (fun z hz => h z (by simp [hz]))
    unfold DataW.insert
    rw [h1, ih]
    rfl

/-- The first k entries. -/
def entF (vK : List (List Int)) (ps : List Value) (k : Nat) : List (Go.Lit × DataW Value) := (List.range k).map fun i => (.string (u8s (vK.getD i [])), .held (ps.getD i .nilIface))

theorem mapD_listU (vK : List (List Int)) (ps : List Value) : ∀ k, (∀ i, i < k → upB vK i = true) → mapD vK ps k = .map (entF vK ps k)
  | 0, _ => rfl
  | k + 1, h => by
    have ih := mapD_listU vK ps k (fun i hi => h i (by omega))
    show (mapD vK ps k).put _ _ = _
    rw [ih]
    have hl : ∀ y ∈ entF vK ps k, Op.bytesLess (match y.1 with | .string s => s | _ => []) (u8s (vK.getD k [])) = true ∧ ∃ s, y.1 = .string s := by
      intro y hy
      simp only [entF, List.mem_map, List.mem_range] at hy
      obtain ⟨i, hi, rfl⟩ := hy
      exact ⟨asc_ltU h k (by omega) i hi, _, rfl⟩
    have hf : (entF vK ps k).filter (fun p => !p.1.sameKey (.string (u8s (vK.getD k [])))) = entF vK ps k := by
      rw [List.filter_eq_self]
      intro y hy
      obtain ⟨h1, s, hs⟩ := hl y hy
      rw [hs] at h1 ⊢
      show (!(s == u8s (vK.getD k []))) = true
      rw [less_ne h1]
      rfl
    show DataW.map (DataW.insert _ ((entF vK ps k).filter _)) = _
    rw [hf, insert_last _ _ (fun y hy => by
      obtain ⟨h1, s, hs⟩ := hl y hy
      rw [hs] at h1 ⊢
      show bytesBefore _ _ = false
      rw [before_eq]
      exact less_asymm h1)]
    simp [entF, List.range_succ]
theorem mapD_list (vK : List (List Int)) (ps : List Value) (k : Nat) (h : ∀ i, i < k → stepB vK i = true) : mapD vK ps k = .map (entF vK ps k) := mapD_listU vK ps k (step_up h)
end Go.Proofs.YthnkedbmfhokiaaGreatDoor
/-
  Entries of a map, in whatever order they were met: put in order by their keys they are the one list of the map's entries.
-/
namespace Go.Proofs.YthnkedbmfhokiaaGreatDoor
open Go.RowKit Go.Sort
set_option linter.unusedVariables false
set_option linter.unusedSimpArgs false

/-- What an interface holds. -/
def unI : Value → TypeId × Value
  | .iface t v => (t, v)
  | _ => (0, .nilIface)

abbrev Fd : Type := List UInt8 × (TypeId × Value)

/-- The entries, in the order of the keys. -/
def fieldL (vK : List (List Int)) (ps : List Value) (n : Nat) : List Fd := (List.range n).map fun i => (u8s (vK.getD i []), unI (ps.getD i .nilIface))

theorem length_fieldL (vK : List (List Int)) (ps : List Value) (n : Nat) : (fieldL vK ps n).length = n := by simp [fieldL]
theorem fieldL_at (vK : List (List Int)) (ps : List Value) (n i : Nat) (h : i < n) : (fieldL vK ps n)[i]'(by rw [length_fieldL]; exact h) = (u8s (vK.getD i []), unI (ps.getD i .nilIface)) := by simp [fieldL]

theorem key_inj {vK : List (List Int)} {n : Nat} (h : ∀ i, i < n → upB vK i = true) {i j : Nat} (hi : i < n) (hj : j < n) (e : u8s (vK.getD i []) = u8s (vK.getD j [])) : i = j := by
  rcases Nat.lt_trichotomy i j with hlt | heq | hgt
  · have := asc_ltU h j hj i hlt
    rw [e, less_irrefl] at this
    simp at this
  · exact heq
  · have := asc_ltU h i hi j hgt
    rw [e, less_irrefl] at this
    simp at this

theorem find_ent (vK : List (List Int)) (ps : List Value) (k : List UInt8) : ∀ (l : List Nat) (i : Nat), i ∈ l → u8s (vK.getD i []) = k → (∀ j ∈ l, u8s (vK.getD j []) = k → j = i) →
    (l.map fun i => ((.string (u8s (vK.getD i [])), .held (ps.getD i .nilIface)) : Go.Lit × DataW Value)).find? (fun p => p.1.sameKey (.string k)) = some (.string k, .held (ps.getD i .nilIface))
  | [], i, h, _, _ => by simp at h
  | j :: l, i, h, e, hu => by
    simp only [List.map_cons, List.find?_cons]
    by_cases hj : u8s (vK.getD j []) = k
    · have := hu j (by simp) hj
      subst this
      rw [hj]
      simp [Lit.sameKey]
    · have hf : (Lit.string (u8s (vK.getD j []))).sameKey (.string k) = false := by simpa [Lit.sameKey] using hj
      rw [hf]
      have hi : i ∈ l := by
        rcases List.mem_cons.1 h with rfl | h
        · exact absurd e hj
        · exact h
      exact find_ent vK ps k l i hi e (fun q hq => hu q (by simp [hq]))

theorem at_ent {vK : List (List Int)} {ps : List Value} {n : Nat} (h : ∀ i, i < n → upB vK i = true) {i : Nat} (hi : i < n) (zd : DataW Value) : (DataW.map (entF vK ps n)).atKey (.string (u8s (vK.getD i []))) zd = .held (ps.getD i .nilIface) := by
  have := find_ent vK ps (u8s (vK.getD i [])) (List.range n) i (by simpa using hi) rfl (fun j hj e => key_inj h (by simpa using hj) hi e)
  unfold entF DataW.atKey
  simp only
  rw [this]

/-- Met in whatever order. -/
def Met (D : DataW Value) (es : List Fd) : Prop := ∀ x ∈ es, ∀ zd, D.atKey (.string x.1) zd = .held (.iface x.2.1 x.2.2)

theorem strKeys_ent (vK : List (List Int)) (ps : List Value) (n : Nat) : Go.strKeys (DataW.map (entF vK ps n)) = (fieldL vK ps n).map (·.1) := by
  simp [Go.strKeys, entF, fieldL, Go.strOf, Function.comp_def]

theorem met_eq {vK : List (List Int)} {ps : List Value} {n : Nat} (h : ∀ i, i < n → upB vK i = true) {es : List Fd} (hm : Met (DataW.map (entF vK ps n)) es) {x : Fd} (hx : x ∈ es) {i : Nat} (hi : i < n) (e : x.1 = u8s (vK.getD i [])) : x = (u8s (vK.getD i []), unI (ps.getD i .nilIface)) := by
  have h1 := hm x hx .nil
  rw [e, at_ent h hi] at h1
  simp only [DataW.held.injEq] at h1
  obtain ⟨x1, x2, x3⟩ := x
  simp only at e h1
  rw [h1, e]
  rfl

theorem nodup_of_map {α β : Type} (f : α → β) {l : List α} (h : (l.map f).Nodup) : l.Nodup := (List.pairwise_map.1 h).imp fun hne e => hne (congrArg f e)

theorem met_perm {vK : List (List Int)} {ps : List Value} {n : Nat} (h : ∀ i, i < n → upB vK i = true) {es : List Fd} (hm : Met (DataW.map (entF vK ps n)) es) (hp : (es.map (·.1)).Perm (Go.strKeys (DataW.map (entF vK ps n)))) : es.Perm (fieldL vK ps n) := by
  rw [strKeys_ent] at hp
  have hnd : ((fieldL vK ps n).map (·.1)).Nodup := by
    rw [List.nodup_iff_pairwise_ne, List.pairwise_map, fieldL, List.pairwise_map]
    refine List.Pairwise.imp_of_mem ?_ (List.nodup_range (n := n))
    intro a b ha hb hne e
    exact hne (key_inj h (by simpa using ha) (by simpa using hb) e)
  have hn1 : (fieldL vK ps n).Nodup := nodup_of_map _ hnd
  have hn2 : es.Nodup := nodup_of_map _ (hp.nodup_iff.2 hnd)
  refine (List.perm_ext_iff_of_nodup hn2 hn1).2 fun x => ⟨fun hx => ?_, fun hx => ?_⟩
  · have h1 : x.1 ∈ (fieldL vK ps n).map (·.1) := hp.mem_iff.1 (List.mem_map.2 ⟨x, hx, rfl⟩)
    obtain ⟨y, hy, e⟩ := List.mem_map.1 h1
    simp only [fieldL, List.mem_map, List.mem_range] at hy
    obtain ⟨i, hi, rfl⟩ := hy
    rw [met_eq h hm hx hi e.symm]
    simp only [fieldL, List.mem_map, List.mem_range]
    exact ⟨i, hi, rfl⟩
  · have h1 : x.1 ∈ es.map (·.1) := hp.mem_iff.2 (List.mem_map.2 ⟨x, hx, rfl⟩)
    obtain ⟨y, hy, e⟩ := List.mem_map.1 h1
    simp only [fieldL, List.mem_map, List.mem_range] at hx
    obtain ⟨i, hi, rfl⟩ := hx
    rw [← met_eq h hm hy hi e]
    exact hy

/-- What is in order and a permutation of the entries is the list of the entries. -/
theorem sorted_eq {vK : List (List Int)} {ps : List Value} {n : Nat} (h : ∀ i, i < n → upB vK i = true) (d d' : Array Fd) (hd : d.toList.Perm (fieldL vK ps n)) (hp : PermIn 0 d.size d d') (hs : SortedIn ltF 0 d.size d') : d'.toList = fieldL vK ps n := by
  have hsz : d'.size = d.size := hp.1
  have hp2 : d'.toList.Perm d.toList := by
    have := hp.2.2
    rw [Array.extract_eq_self_of_le (by omega), Array.extract_eq_self_of_le (by omega)] at this
    exact this
  have hP := hp2.trans hd
  refine List.Perm.eq_of_pairwise (le := fun x y => ltF y x = false) ?_ ?_ ?_ hP
  · intro a b ha hb h1 h2
    have ha' : a ∈ fieldL vK ps n := hP.mem_iff.1 ha
    simp only [fieldL, List.mem_map, List.mem_range] at ha' hb
    obtain ⟨i, hi, rfl⟩ := ha'
    obtain ⟨j, hj, rfl⟩ := hb
    have e := less_total _ _ h2 h1
    have := key_inj h hi hj e
    rw [this]
  · rw [List.pairwise_iff_getElem]
    intro i j hi hj hij
    have := hs i j (Nat.zero_le _) hij (by rw [← hsz]; simpa using hj)
    rw [getElem!_pos d' i (by simpa using hi), getElem!_pos d' j (by simpa using hj)] at this
    simpa using this
  · rw [fieldL, List.pairwise_map]
    refine List.Pairwise.imp_of_mem ?_ (List.pairwise_lt_range (n := n))
    intro a b ha hb hlt
    exact less_asymm (asc_ltU h b (by simpa using hb) a hlt)
end Go.Proofs.YthnkedbmfhokiaaGreatDoor
