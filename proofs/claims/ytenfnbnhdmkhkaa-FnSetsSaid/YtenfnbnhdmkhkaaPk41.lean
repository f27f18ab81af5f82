/-
  Texts that a law leans on, one behind the other; no statement is proved here.
-/
import Derived.Test.YtenfnbnhdmkhkaaPk36
import Derived.Test.YtenfnbnhdmkhkaaPk33
import Derived.Test.YtenfnbnhdmkhkaaPk15
import Derived.Test.YtenfnbnhdmkhkaaPk37
import Derived.Test.YtenfnbnhdmkhkaaPk39
import Derived.Test.YtenfnbnhdmkhkaaPk23
import Derived.Test.YtenfnbnhdmkhkaaPk26
import Derived.Test.YtenfnbnhdmkhkaaPk22
import Derived.Test.YtenfnbnhdmkhkaaPk21
import Derived.Test.YtenfnbnhdmkhkaaPk34
/-
  impl.ValDrop, whatever it is handed: the map without the key, the map itself where the key is not there, or nothing; no statement is proved here.
-/
namespace Go.Proofs.Ytenfnbnhdmkhkaa
open Go.RowKit Go.Shelf
set_option linter.unusedVariables false
set_option linter.unusedSimpArgs false

/-- What ValDrop answers. -/
def dropA (d : Nat) (v : Vl (d + 1)) (key : List Int) : Vl (d + 1) := if okB (d + 1) v = true ∧ v.1 = 5 then (if 0 ≤ findK v.2.2.2.1 key then dropV d v (findK v.2.2.2.1 key).toNat else v) else vNil d
def dropF (d : Nat) (v : Vl (d + 1)) (key : List Int) : Bool := decide (okB (d + 1) v = true ∧ v.1 = 5 ∧ 0 ≤ findK v.2.2.2.1 key)

theorem dropA_yes {d k : Nat} {v : Vl (d + 1)} {key : List Int} (hok : okB (d + 1) v = true) (h5 : v.1 = 5) (hf : findK v.2.2.2.1 key = k) : dropA d v key = dropV d v k ∧ dropF d v key = true := by
  have h0 : 0 ≤ findK v.2.2.2.1 key := by rw [hf]; omega
  refine ⟨(if_pos ⟨hok, h5⟩).trans ((if_pos h0).trans (by rw [hf]; rfl)), decide_eq_true ⟨hok, h5, h0⟩⟩
theorem dropA_none {d : Nat} {v : Vl (d + 1)} {key : List Int} (hok : okB (d + 1) v = true) (h5 : v.1 = 5) (hf : findK v.2.2.2.1 key = -1) : dropA d v key = v ∧ dropF d v key = false := by
  have h0 : ¬ 0 ≤ findK v.2.2.2.1 key := by rw [hf]; omega
  exact ⟨(if_pos ⟨hok, h5⟩).trans (if_neg h0), decide_eq_false fun h => h0 h.2.2⟩
theorem dropA_no {d : Nat} {v : Vl (d + 1)} {key : List Int} (h : ¬ (okB (d + 1) v = true ∧ v.1 = 5)) : dropA d v key = vNil d ∧ dropF d v key = false :=
  ⟨if_neg h, decide_eq_false fun h' => h ⟨h'.1, h'.2.1⟩⟩

theorem turned_cell {w1 w2 : World} {b : Nat} {T : TypeId} {c : Value} (h : (w1.alloc (.cells #[c] T)).mapTurned w2 b) (hb : b < w1.heap.size) : w2.cell? ⟨w1.heap.size, 0, none⟩ = some c := by
  refine h.grown.cell (a := ⟨w1.heap.size, 0, none⟩) ?_ (by simp; omega)
  have := (MapKept.heap_alloc w1 (.cells #[c] T)).1
  simp only [World.cell?, this]
  rfl

theorem avoid_all {R : Nat → Prop} {w w2 : World} {d b deep : Nat} {vn : Int} {vs : List Int} {vK : List (List Int)} {vL : List (Vl d)} (hp : PSeg R w (d + 1) (.iface 60 (.agg #[.map (some b)])) (5, vn, vs, vK, vL)) (hg : goodB (d + 1) (5, vn, vs, vK, vL) deep = true) (ht : w.mapTurned w2 b) (hR : ∀ c, R c → c < w.heap.size) :
    ∃ ps, R b ∧ w.ownsMap Try.prog 9 tokR b 64 (.map (entF vK ps vL.length)) ∧ ∀ i (h : i < vL.length), PSeg R w2 d (ps.getD i .nilIface) (vL[i]) := by
  rcases hp.kinds hg with ⟨_, _, n2⟩ | ⟨a, cap, e, _⟩ | ⟨b', ps, e, hRb, hm, hc⟩
  · exact absurd rfl (n2 _)
  · simp at e
  · simp at e
    subst e
    refine ⟨ps, hRb, hm, fun i hi => ?_⟩
    have h1 := PSeg.avoid hp hg d _ _ (deep + 1) (hc i hi) (((good_succ _ _ _ _ _ _ _).1 hg).2.2 i hi) (kid_lt (5, vn, vs, vK, vL) i hi)
    exact PSeg.carry (fun c h => h.1) (fun c h => ht.grown.block c (hR c h.1) (by simpa using h.2)) d h1

theorem drop_pseg {R : Nat → Prop} {w w2 : World} {d b deep k : Nat} {key : List Int} {vn : Int} {vs : List Int} {vK : List (List Int)} {vL : List (Vl d)} {D0 : DataW Value} (hp : PSeg R w (d + 1) (.iface 60 (.agg #[.map (some b)])) (5, vn, vs, vK, vL)) (hg : goodB (d + 1) (5, vn, vs, vK, vL) deep = true) (ht : w.mapTurned w2 b) (hR : ∀ c, R c → c < w.heap.size)
    (hm0 : w.ownsMap Try.prog 9 tokR b 64 D0) (hm2 : w2.ownsMap Try.prog 9 tokR b 64 (D0.del (.string (u8s key)))) (hy : ∀ y ∈ key, Byt y) (hk : k < vL.length) (he : vK.getD k [] = key) :
    PSeg R w2 (d + 1) (.iface 60 (.agg #[.map (some b)])) (dropV d (5, vn, vs, vK, vL) k) := by
  obtain ⟨ps, hRb, hm, hc⟩ := avoid_all hp hg ht hR
  obtain ⟨_, hs, _⟩ := (good_succ _ _ _ _ _ _ _).1 hg
  obtain ⟨hl, ha⟩ := shape_mapB hs
  have hst : ∀ i, i < vL.length → stepB vK i = true := fun i hi => ascB_at ha (by omega)
  rw [owns_same hm0 hm, del_ent hy (fun i hi => (step_name (hst i hi)).1) hk (fun i hi hne => by rw [← he]; exact asc_ne hst hi hk hne) he] at hm2
  have hl2 : (vL.eraseIdx k).length = vL.length - 1 := List.length_eraseIdx_of_lt hk
  refine .inr (.inr (.inr (.inr (.inr (.inr ⟨rfl, b, ps.eraseIdx k, rfl, hRb, ?_, fun i hi => ?_⟩)))))
  · show w2.ownsMap Try.prog 9 tokR b 64 (mapD (vK.eraseIdx k) (ps.eraseIdx k) (vL.eraseIdx k).length)
    rw [hl2, mapD_list _ _ _ (asc_erase hst hk)]
    exact hm2
  · have hi' : i < (vL.eraseIdx k).length := hi
    show PSeg R w2 d ((ps.eraseIdx k).getD i .nilIface) (vL.eraseIdx k)[i]
    rw [getD_erase, List.getElem_eraseIdx]
    by_cases h : i < k
    · rw [if_pos h, dif_pos h]; exact hc i _
    · rw [if_neg h, dif_neg h]; exact hc (i + 1) _

theorem keep_pseg {R : Nat → Prop} {w w2 : World} {d b deep : Nat} {key : List Int} {vn : Int} {vs : List Int} {vK : List (List Int)} {vL : List (Vl d)} {D0 : DataW Value} (hp : PSeg R w (d + 1) (.iface 60 (.agg #[.map (some b)])) (5, vn, vs, vK, vL)) (hg : goodB (d + 1) (5, vn, vs, vK, vL) deep = true) (ht : w.mapTurned w2 b) (hR : ∀ c, R c → c < w.heap.size)
    (hm0 : w.ownsMap Try.prog 9 tokR b 64 D0) (hm2 : w2.ownsMap Try.prog 9 tokR b 64 (D0.del (.string (u8s key)))) (hy : ∀ y ∈ key, Byt y) (hu : ∀ i, i < vL.length → vK.getD i [] ≠ key) :
    PSeg R w2 (d + 1) (.iface 60 (.agg #[.map (some b)])) (5, vn, vs, vK, vL) := by
  obtain ⟨ps, hRb, hm, hc⟩ := avoid_all hp hg ht hR
  obtain ⟨_, hs, _⟩ := (good_succ _ _ _ _ _ _ _).1 hg
  obtain ⟨hl, ha⟩ := shape_mapB hs
  have hst : ∀ i, i < vL.length → stepB vK i = true := fun i hi => ascB_at ha (by omega)
  rw [owns_same hm0 hm, del_none hy (fun i hi => (step_name (hst i hi)).1) hu] at hm2
  refine .inr (.inr (.inr (.inr (.inr (.inr ⟨rfl, b, ps, rfl, hRb, ?_, hc⟩)))))
  show w2.ownsMap Try.prog 9 tokR b 64 (mapD vK ps vL.length)
  rw [mapD_list _ _ _ hst]
  exact hm2
end Go.Proofs.Ytenfnbnhdmkhkaa
/-
  l2parts, l2deep, l2known of the specification, and ValParts, ValDeep, ValKnown of it, at every value.
-/
namespace Go.Proofs.Ytenfnbnhdmkhkaa
open Go.RowKit
set_option linter.unusedVariables false
set_option linter.unusedSimpArgs false

/-- How deep the deepest part is. -/
def deepV : (d : Nat) → Vl d → Nat
  | 0, _ => 0
  | d + 1, v => (v.2.2.2.2.map (deepV d)).foldr max 0 + 1
/-- No part is unknown. -/
def knownV : (d : Nat) → Vl d → Bool
  | 0, _ => false
  | d + 1, v => decide (v.1 ≠ 6) && v.2.2.2.2.all (knownV d)

/-- The greatest of the first k. -/
def mx {α : Type} (f : α → Nat) (l : List α) (k : Nat) : Nat := ((l.take k).map f).foldl max 0
theorem mx_zero {α : Type} (f : α → Nat) (l : List α) : mx f l 0 = 0 := by simp [mx]
theorem mx_succ {α : Type} (f : α → Nat) (l : List α) (k : Nat) (h : k < l.length) : mx f l (k + 1) = max (mx f l k) (f l[k]) := by
  unfold mx
  rw [List.take_succ_eq_append_getElem h, List.map_append, List.foldl_append]
  simp only [List.map_cons, List.map_nil, List.foldl_cons, List.foldl_nil]
theorem foldl_max (l : List Nat) : ∀ a, l.foldl max a = max a (l.foldr max 0) := by
  induction l with
  | nil => intro a; simp
  | cons x l ih => intro a; simp only [List.foldl_cons, List.foldr_cons]; rw [ih]; omega
theorem mx_all {α : Type} (f : α → Nat) (l : List α) : mx f l l.length = (l.map f).foldr max 0 := by
  unfold mx
  rw [List.take_length, foldl_max]
  omega
theorem deep_succ (d : Nat) (vk vn : Int) (vs : List Int) (vK : List (List Int)) (vL : List (Vl d)) : deepV (d + 1) (vk, vn, vs, vK, vL) = mx (deepV d) vL vL.length + 1 := by
  rw [mx_all]; rfl
theorem mx_le_pre {α : Type} (f g : α → Nat) (l : List α) (h : ∀ x, f x ≤ g x) : ∀ k, k ≤ l.length → mx f l k ≤ pre g l k
  | 0, _ => by simp [mx_zero]
  | k + 1, hk => by
    have := mx_le_pre f g l h k (by omega)
    have h1 := mx_succ f l k (by omega)
    have h2 := pre_succ g l k (by omega)
    have := h l[k]
    omega
theorem deep_le (d : Nat) : ∀ v : Vl d, deepV d v ≤ partsV d v := by
  induction d with
  | zero => intro v; exact v.elim
  | succ d ih =>
    intro v
    obtain ⟨vk, vn, vs, vK, vL⟩ := v
    rw [deep_succ, parts_succ]
    have := mx_le_pre (deepV d) (partsV d) vL ih vL.length (Nat.le_refl _)
    omega
theorem known_no {d : Nat} {vk vn : Int} {vs : List Int} {vK : List (List Int)} {vL : List (Vl d)} {k : Nat} (hk : k < vL.length) (h : knownV d vL[k] = false) : knownV (d + 1) (vk, vn, vs, vK, vL) = false := by
  show (decide (vk ≠ 6) && vL.all (knownV d)) = false
  rw [Bool.and_eq_false_iff]
  refine .inr ?_
  rw [List.all_eq_false]
  exact ⟨vL[k], List.getElem_mem hk, by simp [h]⟩
theorem known_yes {d : Nat} {vk vn : Int} {vs : List Int} {vK : List (List Int)} {vL : List (Vl d)} (hk : vk ≠ 6) (h : ∀ k (hk : k < vL.length), knownV d vL[k] = true) : knownV (d + 1) (vk, vn, vs, vK, vL) = true := by
  show (decide (vk ≠ 6) && vL.all (knownV d)) = true
  simp only [Bool.and_eq_true, decide_eq_true_eq, List.all_eq_true]
  refine ⟨hk, fun x hx => ?_⟩
  obtain ⟨i, hi, rfl⟩ := List.getElem_of_mem hx
  exact h i hi
theorem kid_parts {d : Nat} {vk vn : Int} {vs : List Int} {vK : List (List Int)} {vL : List (Vl d)} {k : Nat} (hk : k < vL.length) (h : partsV (d + 1) (vk, vn, vs, vK, vL) ≤ 40) : partsV d vL[k] ≤ 40 ∧ 1 + pre (partsV d) vL (k + 1) ≤ 40 := by
  rw [parts_succ] at h
  have h1 := pre_succ (partsV d) vL k hk
  have h2 := pre_le (partsV d) vL (k + 1)
  have h3 := pre_all (partsV d) vL
  omega
theorem pre_le_len {α : Type} (f : α → Nat) (l : List α) (k : Nat) : pre f l k ≤ pre f l l.length := by
  have := pre_le f l k
  have := pre_all f l
  omega

/-- A function of a value that only reads it: what it answers at depth d. -/
def FnAt (F : Nat) (ans : (d : Nat) → Vl d → Value) (d : Nat) : Prop := ∀ (N : Nat) (c : Value × Value × Value × Value × Value) (v : Vl d) (w : World), VSeg (fun b => b < N) w d c v → N ≤ w.heap.size → partsV d v ≤ 40 →
  Calls Try.prog F #[.agg #[c.1, c.2.1, c.2.2.1, c.2.2.2.1, c.2.2.2.2]] w fun e w' => e = .returned (ans d v) ∧ Below w.heap.size w w'

/-- What ValParts answers. -/
def ansValParts (d : Nat) (v : Vl d) : Nat := cond (okB d v) (partsV d v) 0

/-- What ValDeep answers. -/
def ansValDeep (d : Nat) (v : Vl d) : Nat := cond (okB d v) (deepV d v) 0

/-- What ValKnown answers. -/
def ansValKnown (d : Nat) (v : Vl d) : Bool := okB d v && knownV d v

end Go.Proofs.Ytenfnbnhdmkhkaa
/-
  All that FnSets asks of a map, a key and a value: plain mathematics.
-/
namespace Go.Proofs.Ytenfnbnhdmkhkaa
open Go.RowKit Go.Shelf
set_option linter.unusedVariables false
set_option linter.unusedSimpArgs false

theorem all_erase {α : Type} (f : α → Bool) : ∀ (l : List α) (k : Nat) (hk : k < l.length), l.all f = (f l[k] && (l.eraseIdx k).all f)
  | [], k, hk => absurd hk (by simp)
  | x :: l, 0, _ => by simp
  | x :: l, k + 1, hk => by
    have := all_erase f l k (by simpa using hk)
    simp only [List.all_cons, List.eraseIdx_cons_succ, List.getElem_cons_succ]
    rw [this, Bool.and_left_comm]

theorem up_ne {K : List (List Int)} (hu : ∀ i, i < K.length → upB K i = true) {i j : Nat} (hi : i < K.length) (hj : j < K.length) (hne : i ≠ j) : K.getD i [] ≠ K.getD j [] := by
  rcases Nat.lt_or_gt_of_ne hne with h | h
  · exact ne_of_lt (asc_ltU hu j hj i h)
  · exact fun e => ne_of_lt (asc_ltU hu i hi j h) e.symm

/-- What a map is in which a key was put, held against the elder one. -/
structure Putd (d : Nat) (v : Vl (d + 1)) (key : List Int) (x : Vl d) (y : Vl (d + 1)) : Prop where
  ok : okB (d + 1) y = true
  kind : y.1 = 5
  invV : SInv d v 40
  okX : okB d x = true
  at_ : ∃ (k : Nat) (hk : k < y.2.2.2.2.length), findK y.2.2.2.1 key = k ∧ y.2.2.2.2[k] = x ∧ dropA d y key = dropV d y k ∧ dropF d y key = true ∧ okB (d + 1) (dropV d y k) = true ∧ findK (dropV d y k).2.2.2.1 key = -1 ∧ knownV (d + 1) y = (knownV d x && knownV (d + 1) (dropV d y k))
  all : ∀ i (hi : i < v.2.2.2.2.length), ∃ (j : Nat) (hj : j < y.2.2.2.2.length), findK y.2.2.2.1 (v.2.2.2.1.getD i []) = j ∧ (v.2.2.2.1.getD i [] ≠ key → y.2.2.2.2[j] = v.2.2.2.2[i])
  kids : ∀ i (hi : i < v.2.2.2.2.length), okB d v.2.2.2.2[i] = true

theorem putd_of {d : Nat} {v : Vl (d + 1)} {key : List Int} {x : Vl d} (hF : setF d v key x = true) (hy : ∀ b ∈ key, Byt b) : Putd d v key x (setA d v key x) := by
  have hc : okB (d + 1) v = true ∧ v.1 = 5 ∧ okB d x = true ∧ okB (d + 1) (setV d v key x) = true := by unfold setF at hF; exact of_decide_eq_true hF
  obtain ⟨hV, h5, hX, hY⟩ := hc
  rw [(setA_yes hV h5 hX hY).1]
  have iV := ok_up hV h5
  have y5 : (setV d v key x).1 = 5 := rfl
  have iY := ok_up hY y5
  have hH := fun k z => set_has (k := k) (z := z) (x := x) iV hy
  have hgo : goodB (d + 1) (setV d v key x) 1 = true ∧ partsV (d + 1) (setV d v key x) ≤ 40 := by
    have h := hY
    simp only [okB, Bool.and_eq_true, decide_eq_true_eq] at h
    exact h
  obtain ⟨k, hk, e1, e2⟩ := (hH key x).2 (.inl ⟨rfl, rfl⟩)
  have hform : ∃ K L, setV d v key x = ((5 : Int), (0 : Int), ([] : List Int), K, L) := ⟨_, _, rfl⟩
  generalize setV d v key x = y at *
  obtain ⟨K, L, rfl⟩ := hform
  have hKL : K.length = L.length := iY.1
  simp only at hk e1 e2
  have hf : findK K key = k := find_up iY.2.2.1 (by show k < K.length; omega) e1
  have hD := dropA_yes hY y5 hf
  have hup : ∀ i, i < K.length → upB K i = true := iY.2.2.1
  refine ⟨hY, rfl, iV, hX, ⟨k, hk, hf, ?_, hD.1, hD.2, ?_, ?_, ?_⟩, fun i hi => ?_, fun i hi => ok_kid hV i hi⟩
  · rw [getD_eq _ _ _ hk] at e2
    exact e2
  · have := drop_parts d (5, 0, [], K, L) k
    simp only [okB, Bool.and_eq_true, decide_eq_true_eq]
    exact ⟨drop_good hgo.1 hk, by omega⟩
  · refine findK_no fun i hi => ?_
    have hi' : i < (K.eraseIdx k).length := hi
    rw [List.length_eraseIdx_of_lt (by omega)] at hi'
    show (K.eraseIdx k).getD i [] ≠ key
    rw [getD_erase, ← e1]
    split
    · exact up_ne hup (by omega) (by omega) (by omega)
    · exact up_ne hup (by omega) (by omega) (by omega)
  · have hx : L[k] = x := by rw [getD_eq _ _ _ hk] at e2; exact e2
    show (decide ((5 : Int) ≠ 6) && L.all (knownV d)) = (knownV d x && (decide ((5 : Int) ≠ 6) && (L.eraseIdx k).all (knownV d)))
    rw [all_erase _ L k hk, hx]
    simp
  · by_cases hne : v.2.2.2.1.getD i [] = key
    · exact ⟨k, hk, by rw [hne]; exact hf, fun h => absurd hne h⟩
    · obtain ⟨j, hj, g1, g2⟩ := (hH (v.2.2.2.1.getD i []) v.2.2.2.2[i]).2 (.inr ⟨hne, i, hi, rfl, getD_eq _ _ _ hi⟩)
      simp only at hj g1 g2
      refine ⟨j, hj, find_up hup (by omega) g1, fun _ => ?_⟩
      rw [getD_eq _ _ _ hj] at g2
      exact g2
end Go.Proofs.Ytenfnbnhdmkhkaa
/-
  impl.ValDrop answers as dropA and dropF say, whatever it is handed, on its own memory; no statement is proved here.
-/
namespace Go.Proofs.Ytenfnbnhdmkhkaa
open Go.RowKit Go.Shelf
set_option linter.unusedVariables false
set_option linter.unusedSimpArgs false

set_option maxHeartbeats 3200000 in
set_option maxRecDepth 100000 in
theorem impl_ValDrop_any (d N : Nat) (c0 c1 c2 c3 c4 : Value) (v : Vl (d + 1)) (ka : Option Addr) (kc : Nat) (key : List Int) (w : World) (hv : VSeg (fun b => b < N) w (d + 1) (c0, c1, c2, c3, c4) v) (hN : N ≤ w.heap.size) (hS : Seg w ka key) (hSb : ∀ x, ka = some x → key ≠ [] → x.block < w.heap.size) (hkl : key.length ≤ maxLen) :
    Calls Try.prog 16 #[.agg #[c0, c1, c2, c3, c4], .slice ka key.length kc] w (Ans d (dropA d v key) (dropF d v key) w) := by
  have HA : Hid (∀ o o' : Obj, Below w.heap.size w ((w.alloc o).alloc o') ∧ ((w.alloc o).alloc o').heap[w.heap.size + 1]? = some o') := fun o o' => ⟨((Below.refl _ _).alloc (Nat.le_refl _) o).alloc (by simp) o', by have := (MapKept.heap_alloc (w.alloc o) o').1; simpa using this⟩
  have HP : Hid (∀ o o' : Obj, Calls Try.prog 33 #[.agg #[c0, c1, c2, c3, c4]] ((w.alloc o).alloc o') (MapOf (d + 1) v ((w.alloc o).alloc o'))) := fun o o' => mapOf_any (d + 1) N c0 c1 c2 c3 c4 v _ (VSeg.agree (fun b (h : b < N) => (HA.out o o').1.block b (by omega)) (d + 1) hv) (by simp; omega)
  have HSg : Hid (∀ wx, Below w.heap.size w wx → Seg wx ka key) := fun wx hb => hS.below hb hSb
  have HByt : Hid (∀ y ∈ key, Byt y) := hS.1
  clear hv hS hSb
  go_enter Try.func16, Try.ntmps16
  go_wp2_with fail
  refine (HP.out _ _).mono ?_
  rintro e w1 ⟨b1, ⟨b, rfl, hok, hk, hp⟩ | ⟨rfl, hno⟩⟩
  · have hR1 : w1.heap[w.heap.size + 1]? = some (.cells #[.int .i64 0, .int .i64 0, .slice none 0 0, .slice none 0 0, .slice none 0 0] 26 (0, 0)) := (b1.block _ (by simp)).trans (HA.out _ _).2
    have hlt : w.heap.size + 1 < w1.heap.size := (Array.getElem?_eq_some_iff.1 hR1).1
    have hB1 := Below.on (HA.out _ _).1 b1
    have HBM : Hid (∀ o, Below w.heap.size w (w1.alloc o)) := fun o => hB1.alloc hB1.size o
    have hk5 : v.1 = 5 := hk
    have hok' := hok
    simp only [okB, Bool.and_eq_true, decide_eq_true_eq] at hok'
    obtain ⟨vk, vn, vs, vK, vL⟩ := v
    simp only at hk5
    subst hk5
    obtain ⟨_, hsh, hgk⟩ := (good_succ _ _ _ _ _ _ _).1 hok'.1
    obtain ⟨hKL, hasc⟩ := shape_mapB hsh
    have hst : ∀ i, i < vL.length → stepB vK i = true := fun i hi => ascB_at hasc (by omega)
    obtain ⟨hbR, ps, hm, _⟩ := mapPart_inv hp rfl
    simp only at hm
    have hbR' : w.heap.size + 2 ≤ b ∧ b < w1.heap.size := by have := hbR; simp at this; exact this
    have hcv : ∀ o, (convert 22 9 (.slice ka key.length kc)).run Try.prog (w1.alloc o) = .ok (.string (strOf key)) (w1.alloc o) := fun o => conv_seg kc (HSg.out _ (HBM.out o))
    have HR1 := hide' hR1
    have hPs : ∀ o, PSeg (fun b => b < w1.heap.size) (w1.alloc o) (d + 1) (.iface 60 (.agg #[.map (some b)])) (5, vn, vs, vK, vL) := fun o => PSeg.carry (fun b' h => h.2) (fun b' h => Below.heap_alloc w1 o b' h.2) (d + 1) hp
    have HMo : Hid (∀ o, (w1.alloc o).ownsMap Try.prog 9 tokR b 64 (mapD vK ps vL.length)) := fun o => hm.alloc o
    have key9 : Hid (Go.keyOf Try.prog 9 (.string (strOf key)) = some (.string (u8s key))) := keyS key hkl
    have hans : ∃ (a : Vl (d + 1)) (bb : Bool), (dropA d (5, vn, vs, vK, vL) key = a ∧ dropF d (5, vn, vs, vK, vL) key = bb) ∧ (∃ pv, ∀ o, (Instr.lookup 58 (.map (some b)) (.string (strOf key)) true).run Try.prog (w1.alloc o) = .ok (.tuple #[pv, .bool bb]) (w1.alloc o)) ∧ ∀ o w2, w2.ownsMap Try.prog 9 tokR b 64 ((mapD vK ps vL.length).del (.string (u8s key))) → (w1.alloc o).mapTurned w2 b → Calls Try.prog 34 #[.iface 60 (.agg #[.map (some b)])] w2 (ValEnd (d + 1) a w2) := by
      obtain ⟨k, hkK, hke, hkn, hfk⟩ | ⟨hnone, hfk⟩ := find_cases vK key
      · refine ⟨dropV d (5, vn, vs, vK, vL) k, true, dropA_yes hok rfl hfk, ⟨ps.getD k .nilIface, fun o => look_at (HMo.out o) hst (fun i hi => (step_name (hst i hi)).1) HByt.out hkl (by omega) hkn hke⟩, fun o w2 h2 ht => ?_⟩
        · exact valueOf_any (d + 1) w2.heap.size _ _ 1 w2 (PSeg.carry (fun c h => by have := ht.grown.size; simp at this; omega) (fun c h => rfl) (d + 1) (drop_pseg (hPs o) hok'.1 ht (fun c h => by simp; omega) (HMo.out o) h2 HByt.out (by omega) hke)) (Nat.le_refl _) (drop_good hok'.1 (by omega)) (Nat.le_trans (drop_parts d (5, vn, vs, vK, vL) k) hok'.2)
      · refine ⟨(5, vn, vs, vK, vL), false, dropA_none hok rfl hfk, ⟨.nilIface, fun o => look_none (HMo.out o) hst (fun i hi => (step_name (hst i hi)).1) HByt.out hkl (fun i hi => hnone i (by omega))⟩, fun o w2 h2 ht => ?_⟩
        · exact valueOf_any (d + 1) w2.heap.size _ _ 1 w2 (PSeg.carry (fun c h => by have := ht.grown.size; simp at this; omega) (fun c h => rfl) (d + 1) (keep_pseg (hPs o) hok'.1 ht (fun c h => by simp; omega) (HMo.out o) h2 HByt.out (fun i hi => hnone i (by omega)))) (Nat.le_refl _) hok'.1 hok'.2
    obtain ⟨a, bb, ⟨ha, hbb⟩, ⟨pv, hlk⟩, hVo⟩ := hans
    have HAe := hide' (And.intro ha hbb)
    have HVo := hide' hVo
    clear hp hm hsh hgk hasc hst hR1 hB1 b1 hok hok' HP hPs hVo ha hbb hKL hbR hk
    generalize hsx : strOf key = sx at *
    generalize hD : mapD vK ps vL.length = D0 at *
    have hc1 : b < w1.heap.size := hbR'.2
    go_wp2_with (at_delete; refine wpList_delete_own _ rfl _ _ 58 9 rfl 49 (Maps.string_keyed Try.underlying9) Try.underlying58 tokR b 64 D0 rfl (HMo.out _) _ _ rfl key9.out ?_; intro w2 hm2 ht2; have hc2 := turned_cell ht2 hc1)
    refine (HVo.out _ w2 hm2 ht2).mono ?_
    rintro e w3 ⟨u0, u1, u2, u3, u4, rfl, B, hO, hB, hb3⟩
    obtain ⟨uk, un, s2, n2, r2, s3, n3, r3, s4, n4, r4, rfl, rfl, rfl, rfl, rfl⟩ := VOwn.form (d + 1) hO
    have hz2 : w1.heap.size + 1 ≤ w2.heap.size := by have h := ht2.grown.size; simpa using h
    have hz3 := hb3.size
    have hR3 : w3.heap[w.heap.size + 1]? = some (.cells #[.int .i64 0, .int .i64 0, .slice none 0 0, .slice none 0 0, .slice none 0 0] 26 (0, 0)) := (hb3.block _ (by omega)).trans ((ht2.grown.block _ (by simp; omega) (by simp; omega)).trans ((Below.heap_alloc _ _ _ hlt).trans HR1.out))
    obtain ⟨r0', r1', r2', r3', r4', rf⟩ := row5 hR3
    have f0 := rf 0
    have f1 := rf 1
    have f2 := rf 2
    have f3 := rf 3
    have f4 := rf 4
    have hB2 : Below w.heap.size w w2 := (HBM.out _).grown ht2.grown (HBM.out _).size (by intro j hj; simp at hj; omega)
    have hBf := Below.on hB2 hb3
    have HR3 := hide' hR3
    have HO := hide' hO
    have HB := hide' hB
    have HBf := hide' hBf
    clear rf hR3 hO hB hBf hb3 hB2 HVo hm2 ht2 hc2 hlk hcv HMo
    go_wp2_with fail
    have hrow := set5_heap (j := 0) (.int .i64 uk) (.int .i64 un) (.slice s2 n2 r2) (.slice s3 n3 r3) (.slice s4 n4 r4) HR3.out
    have hfin := row5 hrow
    simp only [set5, Nat.zero_add] at hfin
    obtain ⟨y0, y1, y2, y3, y4, _⟩ := hfin
    refine bodyPost_ret (v := .tuple #[.agg #[.int .i64 uk, .int .i64 un, .slice s2 n2 r2, .slice s3 n3 r3, .slice s4 n4 r4], .bool bb]) (by simp [results, Try.results16, go_sem, y0, y1, y2, y3, y4]) rfl ?_
    have hB5 := set5_grown w3 (w.heap.size + 1) 0 (.int .i64 uk) (.int .i64 un) (.slice s2 n2 r2) (.slice s3 n3 r3) (.slice s4 n4 r4)
    have hsz4 := set5_size w3 (w.heap.size + 1) 0 (.int .i64 uk) (.int .i64 un) (.slice s2 n2 r2) (.slice s3 n3 r3) (.slice s4 n4 r4)
    rw [HAe.out.1, HAe.out.2]
    refine ⟨_, _, _, _, _, rfl, B, ?_, fun b hb => ?_, HBf.out.grown hB5 (by omega) (by intro j hj; simp at hj; omega)⟩
    · exact VOwn.agree (d + 1) HO.out fun b hb => hB5.block b (HB.out b hb).2 (by have := HB.out b hb; simp; omega)
    · have := HB.out b hb
      show w.heap.size ≤ b ∧ b < (set5 _ _ _ _ _ _ _ _).heap.size
      omega
  · have HF : Hid (¬ (okB (d + 1) v = true ∧ v.1 = 5)) := hno
    have hR1 : w1.heap[w.heap.size + 1]? = some (.cells #[.int .i64 0, .int .i64 0, .slice none 0 0, .slice none 0 0, .slice none 0 0] 26 (0, 0)) := (b1.block _ (by simp)).trans (HA.out _ _).2
    have hlt : w.heap.size + 1 < w1.heap.size := (Array.getElem?_eq_some_iff.1 hR1).1
    have hB1 := Below.on (HA.out _ _).1 b1
    have HBM : Hid (∀ o, Below w.heap.size w (w1.alloc o)) := fun o => hB1.alloc hB1.size o
    have HB1' := hide' hB1
    have HR1 := hide' hR1
    clear hR1 hB1 b1 hno HP
    obtain ⟨r0, r1, r2, r3, r4, rf⟩ := row5 HR1.out
    have f0 := rf 0
    have f1 := rf 1
    have f2 := rf 2
    have f3 := rf 3
    have f4 := rf 4
    obtain ⟨s0, s1, s2, s3, s4, sf⟩ := box_later HR1.out
    clear rf
    go_wp2_with fail
    have hfin := box_later (set5_heap (j := 0) (.int .i64 0) (.int .i64 0) (.slice none 0 0) (.slice none 0 0) (.slice none 0 0) HR1.out)
    simp only [set5, Nat.zero_add] at hfin
    obtain ⟨y0, y1, y2, y3, y4, _⟩ := hfin
    refine bodyPost_ret (v := .tuple #[.agg #[.int .i64 0, .int .i64 0, .slice none 0 0, .slice none 0 0, .slice none 0 0], .bool false]) (by simp [results, Try.results16, go_sem, y0, y1, y2, y3, y4]) rfl ?_
    have hB5 := set5_grown w1 (w.heap.size + 1) 0 (.int .i64 0) (.int .i64 0) (.slice none 0 0) (.slice none 0 0) (.slice none 0 0)
    have hsz4 := set5_size w1 (w.heap.size + 1) 0 (.int .i64 0) (.int .i64 0) (.slice none 0 0) (.slice none 0 0) (.slice none 0 0)
    rw [(dropA_no HF.out).1, (dropA_no HF.out).2]
    exact ⟨_, _, _, _, _, rfl, [], own_vNil d _, by simp, (HB1'.out.grown hB5 (by omega) (by intro j hj; simp at hj; omega)).alloc (by omega) _⟩
end Go.Proofs.Ytenfnbnhdmkhkaa
/-
  kids of a part: the parts that stand right in it, in order.
-/
namespace Go.Proofs.Ytenfnbnhdmkhkaa
open Go.RowKit
set_option linter.unusedVariables false
set_option linter.unusedSimpArgs false

theorem list_nullPart (x : Value) (w : World) : (Instr.typeAssert (.iface 102 x) 49 84 true).run Try.prog w = .ok (.tuple #[.agg #[.slice none 0 0], .bool false]) w := by kernel_rfl
theorem list_unknownPart (x : Value) (w : World) : (Instr.typeAssert (.iface 103 x) 49 84 true).run Try.prog w = .ok (.tuple #[.agg #[.slice none 0 0], .bool false]) w := by kernel_rfl
theorem list_boolPart (x : Value) (w : World) : (Instr.typeAssert (.iface 77 x) 49 84 true).run Try.prog w = .ok (.tuple #[.agg #[.slice none 0 0], .bool false]) w := by kernel_rfl
theorem list_intPart (x : Value) (w : World) : (Instr.typeAssert (.iface 78 x) 49 84 true).run Try.prog w = .ok (.tuple #[.agg #[.slice none 0 0], .bool false]) w := by kernel_rfl
theorem list_textPart (x : Value) (w : World) : (Instr.typeAssert (.iface 80 x) 49 84 true).run Try.prog w = .ok (.tuple #[.agg #[.slice none 0 0], .bool false]) w := by kernel_rfl
theorem list_mapPart (x : Value) (w : World) : (Instr.typeAssert (.iface 60 x) 49 84 true).run Try.prog w = .ok (.tuple #[.agg #[.slice none 0 0], .bool false]) w := by kernel_rfl
theorem map_nullPart (x : Value) (w : World) : (Instr.typeAssert (.iface 102 x) 49 60 true).run Try.prog w = .ok (.tuple #[.agg #[.map none], .bool false]) w := by kernel_rfl
theorem map_unknownPart (x : Value) (w : World) : (Instr.typeAssert (.iface 103 x) 49 60 true).run Try.prog w = .ok (.tuple #[.agg #[.map none], .bool false]) w := by kernel_rfl
theorem map_boolPart (x : Value) (w : World) : (Instr.typeAssert (.iface 77 x) 49 60 true).run Try.prog w = .ok (.tuple #[.agg #[.map none], .bool false]) w := by kernel_rfl
theorem map_intPart (x : Value) (w : World) : (Instr.typeAssert (.iface 78 x) 49 60 true).run Try.prog w = .ok (.tuple #[.agg #[.map none], .bool false]) w := by kernel_rfl
theorem map_textPart (x : Value) (w : World) : (Instr.typeAssert (.iface 80 x) 49 60 true).run Try.prog w = .ok (.tuple #[.agg #[.map none], .bool false]) w := by kernel_rfl
theorem list_listPart (x : Value) (w : World) : (Instr.typeAssert (.iface 84 x) 49 84 true).run Try.prog w = .ok (.tuple #[x, .bool true]) w := by kernel_rfl
theorem map_mapPart (x : Value) (w : World) : (Instr.typeAssert (.iface 60 x) 49 60 true).run Try.prog w = .ok (.tuple #[x, .bool true]) w := by kernel_rfl

set_option maxHeartbeats 1600000 in
theorem kids_nullPart (x : Value) (w : World) : Calls Try.prog 52 #[.iface 102 x] w fun e w' => e = .returned (.slice none 0 0) ∧ w = w' := by
  have h1 := list_nullPart x w
  have h2 := map_nullPart x w
  go_enter Try.func52, Try.ntmps52
  go_wp2
  go_ret
  exact ⟨rfl, rfl⟩
set_option maxHeartbeats 1600000 in
theorem kids_unknownPart (x : Value) (w : World) : Calls Try.prog 52 #[.iface 103 x] w fun e w' => e = .returned (.slice none 0 0) ∧ w = w' := by
  have h1 := list_unknownPart x w
  have h2 := map_unknownPart x w
  go_enter Try.func52, Try.ntmps52
  go_wp2
  go_ret
  exact ⟨rfl, rfl⟩
set_option maxHeartbeats 1600000 in
theorem kids_boolPart (x : Value) (w : World) : Calls Try.prog 52 #[.iface 77 x] w fun e w' => e = .returned (.slice none 0 0) ∧ w = w' := by
  have h1 := list_boolPart x w
  have h2 := map_boolPart x w
  go_enter Try.func52, Try.ntmps52
  go_wp2
  go_ret
  exact ⟨rfl, rfl⟩
set_option maxHeartbeats 1600000 in
theorem kids_intPart (x : Value) (w : World) : Calls Try.prog 52 #[.iface 78 x] w fun e w' => e = .returned (.slice none 0 0) ∧ w = w' := by
  have h1 := list_intPart x w
  have h2 := map_intPart x w
  go_enter Try.func52, Try.ntmps52
  go_wp2
  go_ret
  exact ⟨rfl, rfl⟩
set_option maxHeartbeats 1600000 in
theorem kids_textPart (x : Value) (w : World) : Calls Try.prog 52 #[.iface 80 x] w fun e w' => e = .returned (.slice none 0 0) ∧ w = w' := by
  have h1 := list_textPart x w
  have h2 := map_textPart x w
  go_enter Try.func52, Try.ntmps52
  go_wp2
  go_ret
  exact ⟨rfl, rfl⟩

set_option maxHeartbeats 1600000 in
theorem kids_list (a : Option Addr) (n c : Nat) (w : World) : Calls Try.prog 52 #[.iface 84 (.agg #[.slice a n c])] w fun e w' => e = .returned (.slice a n c) ∧ Below w.heap.size w w' := by
  have h1 := list_listPart (.agg #[.slice a n c]) w
  have Hb : Hid (∀ o : Obj, Below w.heap.size w (w.alloc o)) := fun o => (Below.refl _ _).alloc (Nat.le_refl _) o
  go_enter Try.func52, Try.ntmps52
  go_wp2
  go_ret
  exact ⟨rfl, Hb.out _⟩

/-- After k rounds: the first k parts. -/
def KP (w wr : World) (ps : List Value) (k : Nat) (v : Value) : Prop := wr.ownsRow w.heap.size 49 1 v k (ps.take k) ∧ Below w.heap.size w wr

set_option maxHeartbeats 3200000 in
theorem kids_map (b n : Nat) (vK : List (List Int)) (ps : List Value) (w : World) (hm : w.ownsMap Try.prog 9 tokR b 64 (mapD vK ps n)) (ha : ∀ i, i < n → stepB vK i = true) (hps : ∀ i, i < n → ∃ t x, ps.getD i .nilIface = .iface t x) (hn : n ≤ 40) :
    Calls Try.prog 52 #[.iface 60 (.agg #[.map (some b)])] w fun e w' => ∃ v, e = .returned v ∧ w'.ownsRow w.heap.size 49 1 v n ((List.range n).map fun i => ps.getD i .nilIface) ∧ Below w.heap.size w w' := by
  have h1 := list_mapPart (.agg #[.map (some b)]) w
  have h2 := map_mapPart (.agg #[.map (some b)]) w
  have HF : Hid (∀ o : Obj, Calls Try.prog 44 #[.agg #[.map (some b)]] (w.alloc o) fun e w' => ∃ u, e = .returned u ∧ FRow w' u vK ps n ∧ Below w.heap.size w w') := by
    intro o
    have b0 : Below w.heap.size w (w.alloc o) := (Below.refl _ _).alloc (Nat.le_refl _) o
    refine (fields_any b n vK ps (w.alloc o) (hm.kept (below_grows b0 none) (by simp)) ha hps hn).mono ?_
    rintro e w' ⟨u, rfl, hF, hb⟩
    exact ⟨u, rfl, hF, Below.on b0 hb⟩
  obtain ⟨i0, hi, hz0, hz1, hz2⟩ := info_parts info_part
  have HPs := hide' hps
  clear hm ha hps
  go_enter Try.func52, Try.ntmps52
  go_wp2_with fail
  refine (HF.out _).mono ?_
  rintro e w1 ⟨u, rfl, hF, hb1⟩
  obtain ⟨fa, fc, rfl, hfc, hfm, hcell⟩ := hF
  have HC := hide' hcell
  have Hb1 := hide' hb1
  unfold maxLen at hfm
  clear hcell HF
  go_wp2
  go_loopw [3, 20] (fun v i wr => ∃ k : Nat, k ≤ n ∧ i = .int .i64 k ∧ wr.ownsRow w1.heap.size 49 1 v k ((List.range k).map fun i => ps.getD i .nilIface) ∧ Below w1.heap.size w1 wr) (fun _ i _ => n - (intOf i).toNat)
  case atStart => exact ⟨0, Nat.zero_le _, rfl, ⟨by simp, .inl ⟨rfl, rfl⟩⟩, Below.refl _ _⟩
  case round =>
    obtain ⟨k, hk, rfl, hown, hbel⟩ := hrel
    have hsz := hbel.size
    by_cases hlt : k < n
    · have hlt' : (k : Int) < (n : Int) := by omega
      have hat : ∃ g, fa = some ⟨g, 0, none⟩ ∧ g < w1.heap.size ∧ wr.cell? ⟨g, k * 2, none⟩ = some (.string (strOf (vK.getD k []))) ∧ wr.cell? ⟨g, k * 2 + 1, none⟩ = some (ps.getD k .nilIface) := by
        rcases HC.out with h0 | ⟨g, rfl, hg, hc⟩
        · omega
        · obtain ⟨c0, c1⟩ := hc k hlt
          exact ⟨g, rfl, hg, (World.cell?_of_block (hbel.block g hg)).trans c0, (World.cell?_of_block (hbel.block g hg)).trans c1⟩
      obtain ⟨g, rfl, hg, c0, c1⟩ := hat
      obtain ⟨pt, px, hp⟩ := HPs.out k hlt
      rw [hp] at c1
      have hvs : ∃ p c, u3 = .slice p k c := by
        rcases hown.2 with ⟨rfl, h0⟩ | ⟨g, cap, cur, rfl, _⟩
        · exact ⟨none, 0, by rw [h0]⟩
        · exact ⟨_, _, rfl⟩
      obtain ⟨vp, vc, rfl⟩ := hvs
      have hz2' : wr.heap.size + 1 ≤ ((wr.alloc (.cells #[.string (strOf (vK.getD k [])), .iface pt px] 89)).alloc (.cells #[.iface pt px] 49)).heap.size := by simp
      have hrw := (hown.alloc (.cells #[.string (strOf (vK.getD k [])), .iface pt px] 89)).alloc (.cells #[.iface pt px] 49)
      have hcn : ∀ j u, [Value.iface pt px][j]? = some u → ((wr.alloc (.cells #[.string (strOf (vK.getD k [])), .iface pt px] 89)).alloc (.cells #[.iface pt px] 49)).cell? ((⟨wr.heap.size + 1, 0, none⟩ : Addr).add j) = some u := by
        have := cell_one_new (wr.alloc (.cells #[.string (strOf (vK.getD k [])), .iface pt px] 89)) (.iface pt px) 49
        simpa using this
      have HX : Hid (∀ w3, ((wr.alloc (.cells #[.string (strOf (vK.getD k [])), .iface pt px] 89)).alloc (.cells #[.iface pt px] 49)).grownBy w3 (Value.slice vp k vc).ownBlock → Below w1.heap.size w1 w3) := by
        intro w3 hg3
        refine ((hbel.alloc hbel.size _).alloc (by simp; omega) _).grown hg3 (by omega) fun j hj => (hown.lt j hj).1
      have HL : Hid (((List.range (k + 1)).map fun i => ps.getD i .nilIface) = ((List.range k).map fun i => ps.getD i .nilIface) ++ [.iface pt px]) := by
        show ((List.range (k + 1)).map fun i => ps.getD i .nilIface) = _
        rw [List.range_succ, List.map_append, List.map_singleton, hp]
      generalize strOf (vK.getD k []) = key at *
      clear hb1 HC hbel hown h1 h2 hp
      go_wp2_with (at_builtin; refine wpList_append_own_at _ rfl _ _ 82 rfl w1.heap.size 49 i0 .nilIface 1 16 Try.underlying82 hi hz0 hz1 hz2 rfl (by decide) _ k _ rfl hrw ⟨wr.heap.size + 1, 0, none⟩ 1 1 [.iface pt px] rfl rfl hcn (by intro u hu; simp at hu; rw [hu]; rfl) (by unfold maxLen; omega) (by omega) (by omega) ?_; intro y' w3 hown' hg3 hnil hloc)
      have hB3 := HX.out w3 hg3
      rw [← HL.out] at hown'
      clear hg3 hnil hloc hrw hcn
      go_wp2
      go_roundw
      case rel => exact ⟨k + 1, by omega, by go_num, hown', hB3⟩
      case measure => simp [intOf]; omega
    · have hkn : k = n := by omega
      subst hkn
      have hkn' : ¬ (k : Int) < (k : Int) := by omega
      have hown' : Hid (wr.ownsRow w.heap.size 49 1 u3 k ((List.range k).map fun i => ps.getD i .nilIface)) := by
        refine ⟨hown.1, ?_⟩
        rcases hown.2 with h0 | ⟨g, cap, cur, rfl, hg, r⟩
        · exact .inl h0
        · exact .inr ⟨g, cap, cur, rfl, by have := Hb1.out.size; omega, r⟩
      have hB := Below.on Hb1.out hbel
      clear hown hbel
      go_wp2
      go_ret
      exact ⟨_, rfl, hown'.out, hB⟩
end Go.Proofs.Ytenfnbnhdmkhkaa
/-
  kids of whatever part; countParts and depthOf at every depth.
-/
namespace Go.Proofs.Ytenfnbnhdmkhkaa
open Go.RowKit
set_option linter.unusedVariables false
set_option linter.unusedSimpArgs false

theorem shape_leaf {vk vn : Int} {vs : List Int} {vK : List (List Int)} {n : Nat} (h : shapeB vk vn vs vK n = true) (h4 : vk ≠ 4) (h5 : vk ≠ 5) : n = 0 := by
  unfold shapeB bareB at h
  simp [h4, h5] at h
  exact h.1.2

theorem shape_mp {vn : Int} {vs : List Int} {vK : List (List Int)} {n : Nat} (h : shapeB 5 vn vs vK n = true) : vK.length = n ∧ ascB vK = true := by
  unfold shapeB at h
  simp at h
  exact h.2

theorem getD_range (ps : List Value) (n i : Nat) (h : i < n) : ((List.range n).map fun i => ps.getD i .nilIface)[i]? = some (ps.getD i .nilIface) := by
  simp [h]

theorem kids_any (d N : Nat) (p : Value) (v : Vl (d + 1)) (deep : Nat) (w : World) (hp : PSeg (fun b => b < N) w (d + 1) p v) (hN : N ≤ w.heap.size) (hg : goodB (d + 1) v deep = true) (hn : v.2.2.2.2.length ≤ 40) :
    Calls Try.prog 52 #[p] w fun e w' => ∃ u, e = .returned u ∧ PLSeg (fun b => b < w'.heap.size) w' d u v.2.2.2.2 ∧ Below w.heap.size w w' := by
  obtain ⟨vk, vn, vs, vK, vL⟩ := v
  have hsh := ((good_succ _ _ _ _ _ _ _).1 hg).2.1
  simp only at hn ⊢
  have leaf : vL.length = 0 → ∀ w' : World, PLSeg (fun b => b < w'.heap.size) w' d (.slice none 0 0) vL := by
    intro h0 w'
    have : vL = [] := List.eq_nil_of_length_eq_zero h0
    exact ⟨none, 0, by rw [h0], .inl this⟩
  rcases hp with ⟨hk, rfl⟩ | ⟨hk, rfl⟩ | ⟨hk, rfl⟩ | ⟨hk, rfl⟩ | ⟨hk, rfl⟩ | ⟨hk, a, cap, rfl, hc⟩ | ⟨hk, b, ps, rfl, hR, hm, hc⟩
  · simp only at hk
    exact (kids_nullPart _ w).mono fun e w' ⟨he, hw⟩ => ⟨_, he, leaf (shape_leaf hsh (by omega) (by omega)) w', hw ▸ Below.refl _ _⟩
  · simp only at hk
    exact (kids_unknownPart _ w).mono fun e w' ⟨he, hw⟩ => ⟨_, he, leaf (shape_leaf hsh (by omega) (by omega)) w', hw ▸ Below.refl _ _⟩
  · simp only at hk
    exact (kids_boolPart _ w).mono fun e w' ⟨he, hw⟩ => ⟨_, he, leaf (shape_leaf hsh (by omega) (by omega)) w', hw ▸ Below.refl _ _⟩
  · simp only at hk
    exact (kids_intPart _ w).mono fun e w' ⟨he, hw⟩ => ⟨_, he, leaf (shape_leaf hsh (by omega) (by omega)) w', hw ▸ Below.refl _ _⟩
  · simp only at hk
    exact (kids_textPart _ w).mono fun e w' ⟨he, hw⟩ => ⟨_, he, leaf (shape_leaf hsh (by omega) (by omega)) w', hw ▸ Below.refl _ _⟩
  · refine (kids_list a vL.length cap w).mono fun e w' ⟨he, hb⟩ => ⟨_, he, ⟨a, cap, rfl, ?_⟩, hb⟩
    have hsz := hb.size
    rcases hc with h0 | ⟨b, off, e1, hR, hc⟩
    · exact .inl h0
    · refine .inr ⟨b, off, e1, Nat.lt_of_lt_of_le hR (Nat.le_trans hN hsz), fun i hi => ?_⟩
      obtain ⟨u, hu, hv⟩ := hc i hi
      have ag := agree_below (hb.mono hN)
      exact ⟨u, (cell_agree ag hR).trans hu, PSeg.carry (fun b hb => Nat.lt_of_lt_of_le hb (Nat.le_trans hN hsz)) ag d hv⟩
  · simp only at hk hm hc
    subst hk
    obtain ⟨hkl, hasc⟩ := shape_mp hsh
    refine (kids_map b vL.length vK ps w hm (fun i hi => ascB_at hasc (by omega)) (fun i hi => (hc i hi).shape) hn).mono ?_
    rintro e w' ⟨u, rfl, hown, hb⟩
    have hsz := hb.size
    refine ⟨u, rfl, ?_, hb⟩
    rcases hown.2 with ⟨rfl, h0⟩ | ⟨g, cp, cur, rfl, hg, hh, hle, hm, hcs, ht⟩
    · exact leaf h0 w'
    · refine ⟨_, cp, rfl, ?_⟩
      by_cases he : vL = []
      · exact .inl he
      · refine .inr ⟨g, 0, rfl, (Array.getElem?_eq_some_iff.1 hh).1, fun i hi => ⟨ps.getD i .nilIface, ?_, PSeg.carry (fun b hb => Nat.lt_of_lt_of_le hb (Nat.le_trans hN hsz)) (agree_below (hb.mono hN)) d (hc i hi)⟩⟩
        have := hown.cellAt i (by omega)
        rw [Nat.zero_add, this]
        exact getD_range ps vL.length i hi

/-- The contract of a function of a part, at depth d. -/
def PAt (F : Nat) (ans : (d : Nat) → Vl d → Value) (d : Nat) : Prop := ∀ (N : Nat) (p : Value) (v : Vl d) (deep : Nat) (w : World), PSeg (fun b => b < N) w d p v → N ≤ w.heap.size → goodB d v deep = true → partsV d v ≤ 40 →
  Calls Try.prog F #[p] w fun e w' => e = .returned (ans d v) ∧ Below w.heap.size w w'

end Go.Proofs.Ytenfnbnhdmkhkaa
/-
  known of a part at every depth: a method of an interface value, by the value's own type.
-/
namespace Go.Proofs.Ytenfnbnhdmkhkaa
open Go.RowKit Go.Shelf
set_option linter.unusedVariables false
set_option linter.unusedSimpArgs false

set_option maxHeartbeats 1600000 in
set_option maxRecDepth 100000 in
theorem known_succ (d : Nat) (ih : PAt 35 (fun d v => .bool (knownV d v)) d) : PAt 35 (fun d v => .bool (knownV d v)) (d + 1) := by
  intro N p v deep w hp hN hg hn
  obtain ⟨pt, px, rfl⟩ := hp.shape
  obtain ⟨f, hm, hcf, hkind⟩ := kind_of hp
  obtain ⟨vk, vn, vs, vK, vL⟩ := v
  simp only at hkind
  have hgd := ((good_succ _ _ _ _ _ _ _).1 hg).2.2
  have hps := parts_succ d vk vn vs vK vL
  have hlen : vL.length ≤ 40 := by have := pre_ge d vL vL.length (Nat.le_refl _); omega
  have HK := hide' (kids_any d N _ _ deep w hp hN hg hlen)
  have HI := hide' ih
  have HG := hide' hgd
  have HKp : Hid (∀ k (hk : k < vL.length), partsV d vL[k] ≤ 40) := fun k hk => (kid_parts hk hn).1
  have HNo : Hid (∀ k (hk : k < vL.length), knownV d vL[k] = false → knownV (d + 1) (vk, vn, vs, vK, vL) = false) := fun k hk h => known_no hk h
  have HYes : Hid (vk ≠ 6 → (∀ k (hk : k < vL.length), knownV d vL[k] = true) → knownV (d + 1) (vk, vn, vs, vK, vL) = true) := fun h1 h2 => known_yes h1 h2
  have HSix : Hid (vk = 6 → knownV (d + 1) (vk, vn, vs, vK, vL) = false) := fun h => by
    subst h
    show (!decide ((6 : Int) = 6) && _) = false
    simp
  have HKd := hide' hkind
  clear ih hgd hps hp hg hn hkind
  go_enter Try.func35, Try.ntmps35
  go_wp2_with fail
  refine HK.out.mono ?_
  rintro e w1 ⟨u, rfl, hL, b1⟩
  have HLs := hide' hL
  have Hb1 := hide' b1
  obtain ⟨a, cap, rfl, _⟩ := hL
  clear b1 HK
  go_wp2
  go_loopw [4, 8] (fun _ i wr => ∃ k : Nat, k ≤ vL.length ∧ i = .int .i64 k ∧ (∀ j (hj : j < vL.length), j < k → knownV d vL[j] = true) ∧ Below w1.heap.size w1 wr) (fun _ i _ => vL.length - (intOf i).toNat)
  case atStart => exact ⟨0, Nat.zero_le _, rfl, fun j _ h => by omega, Below.refl _ _⟩
  case round =>
    obtain ⟨k, hk, rfl, hall, hbel⟩ := hrel
    have hsz := hbel.size
    by_cases hlt : k < vL.length
    · have hlt' : (k : Int) < (vL.length : Int) := by omega
      obtain ⟨b, off, qt, qx, rfl, hb, hcell, hq⟩ := (HLs.out.grow hbel).at hlt
      have HC : Hid (Calls Try.prog 35 #[.iface qt qx] wr fun e w' => e = .returned (.bool (knownV d vL[k])) ∧ Below wr.heap.size wr w') := HI.out w1.heap.size _ vL[k] (deep + 1) wr hq hsz (HG.out k hlt) (HKp.out k hlt)
      have HN : Hid (knownV d vL[k] = false → knownV (d + 1) (vk, vn, vs, vK, vL) = false) := HNo.out k hlt
      have HA : Hid (knownV d vL[k] = true → ∀ j (hj : j < vL.length), j < k + 1 → knownV d vL[j] = true) := fun h j hj hjk => by
        by_cases e : j = k
        · subst e; exact h
        · exact hall j hj (by omega)
      generalize knownV d vL[k] = kb at *
      clear hq hall
      go_wp2_with fail
      refine HC.out.mono ?_
      rintro e w2 ⟨rfl, b2⟩
      have B2 := Below.on hbel b2
      have B2' := hide' (Below.on Hb1.out B2)
      clear hcell HC b2
      cases kb
      · have HF := hide' (HN.out rfl)
        go_wp2
        go_ret
        exact ⟨ret_bool (by rw [HF.out]), B2'.out⟩
      · have HF := hide' (HA.out rfl)
        go_wp2
        go_roundw
        case rel => exact ⟨k + 1, by omega, by go_num, HF.out, B2⟩
        case measure => simp [intOf]; omega
    · have hkn : k = vL.length := by omega
      have hkn' : ¬ (k : Int) < (vL.length : Int) := by omega
      have B := hide' (Below.on Hb1.out hbel)
      have HA : Hid (∀ j (hj : j < vL.length), knownV d vL[j] = true) := fun j hj => hall j hj (by omega)
      have HD := hide' (HKd.out wr)
      clear hkn hall
      by_cases h6 : vk = 6
      · have HF := hide' (HSix.out h6)
        have h6' : (vk != 6) = false := by simp [h6]
        go_wp2_with (go_at_fn f; refine HD.out.mono ?_; rintro e w2 ⟨rfl, b2⟩)
        have B2 := Below.on B.out b2
        go_ret
        exact ⟨ret_bool (by rw [HF.out]), B2⟩
      · have HF := hide' (HYes.out h6 HA.out)
        have h6' : (vk != 6) = true := by simp [h6]
        go_wp2_with (go_at_fn f; refine HD.out.mono ?_; rintro e w2 ⟨rfl, b2⟩)
        have B2 := Below.on B.out b2
        go_ret
        exact ⟨ret_bool (by rw [HF.out]), B2⟩

theorem known_any (d : Nat) : PAt 35 (fun d v => .bool (knownV d v)) d := by
  induction d with
  | zero => intro N p v deep w hv; exact hv.elim
  | succ d ih => exact known_succ d ih
end Go.Proofs.Ytenfnbnhdmkhkaa
/-
  What the laws of a value's count, depth and knownness lean on besides; no statement is proved here.
-/
namespace Go.Proofs.Ytenfnbnhdmkhkaa
open Go.RowKit
set_option linter.unusedVariables false

theorem okB_cnt {d : Nat} {v : Vl d} (h : okB d v = true) : goodB d v 1 = true ∧ partsV d v ≤ 40 := by
  unfold okB at h
  simp only [Bool.and_eq_true, decide_eq_true_eq] at h
  exact h
end Go.Proofs.Ytenfnbnhdmkhkaa
