/-
  Texts that a law leans on, one behind the other; no statement is proved here.
-/
import Derived.Test.YtmkdeljdenhgcaaDoorPk0
import Derived.Test.YtmkdeljdenhgcaaDoorPk3
import Derived.Test.YtmkdeljdenhgcaaDoorPk1
import Derived.WalkKit
import Derived.ProofKit
import Derived.ChangeSlices
import Derived.ChangeArms
/-
  What marking turns: blocks of the call's own alone.
-/
namespace Go.Proofs.YtmkdeljdenhgcaaDoor
open Go.RowKit
set_option linter.unusedVariables false
set_option linter.unusedSimpArgs false

/-- Nothing has turned but what lies in the blocks B. -/
structure Turned (B : List Nat) (w w' : World) : Prop where
  os : w'.os = w.os
  tape : w'.tape = w.tape
  output : w'.output = w.output
  size : w.heap.size ≤ w'.heap.size
  block : ∀ b, b < w.heap.size → b ∉ B → w'.heap[b]? = w.heap[b]?

theorem Turned.refl (B : List Nat) (w : World) : Turned B w w := ⟨rfl, rfl, rfl, Nat.le_refl _, fun _ _ _ => rfl⟩
theorem Turned.trans {B : List Nat} {w w1 w2 : World} (h : Turned B w w1) (k : Turned B w1 w2) : Turned B w w2 :=
  ⟨k.os.trans h.os, k.tape.trans h.tape, k.output.trans h.output, Nat.le_trans h.size k.size, fun b hb hn => (k.block b (Nat.lt_of_lt_of_le hb h.size) hn).trans (h.block b hb hn)⟩
theorem Turned.mono {B B' : List Nat} {w w' : World} (h : Turned B w w') (hb : ∀ b ∈ B, b ∈ B') : Turned B' w w' := ⟨h.os, h.tape, h.output, h.size, fun b hl hn => h.block b hl fun hm => hn (hb b hm)⟩
theorem Turned.of_grown {w w' : World} {r : Option Nat} {B : List Nat} (h : w.grownBy w' r) (hr : ∀ g, r = some g → g ∈ B) : Turned B w w' :=
  ⟨h.os, h.tape, h.output, h.size, fun b hb hn => h.block b hb fun e => hn (hr b e.symm)⟩
theorem Turned.below {B : List Nat} {N : Nat} {w w1 w2 : World} (h : Below N w w1) (k : Turned B w1 w2) (hN : N ≤ w.heap.size) (hB : ∀ b ∈ B, N ≤ b) : Below N w w2 :=
  ⟨k.os.trans h.os, k.tape.trans h.tape, k.output.trans h.output, Nat.le_trans h.size k.size, fun b hb => (k.block b (by have := h.size; omega) fun hm => by have := hB b hm; omega).trans (h.block b hb)⟩

/-- The texts after they were marked, from k on. -/
def mkKs : List (List Int) → Nat → List (List Int)
  | [], _ => []
  | x :: r, k => marks k x.length :: mkKs r (k + x.length)
theorem length_mkKs : ∀ (l : List (List Int)) (k : Nat), (mkKs l k).length = l.length
  | [], _ => rfl
  | x :: r, k => by simp [mkKs, length_mkKs r]
/-- The first n are marked. -/
def mixK (l : List (List Int)) (k n : Nat) : List (List Int) := mkKs (l.take n) k ++ l.drop n
theorem mixK_zero (l : List (List Int)) (k : Nat) : mixK l k 0 = l := by simp [mixK, mkKs]
theorem mixK_all (l : List (List Int)) (k : Nat) : mixK l k l.length = mkKs l k := by simp [mixK]
theorem length_mixK (l : List (List Int)) (k n : Nat) (h : n ≤ l.length) : (mixK l k n).length = l.length := by simp [mixK, length_mkKs]; omega
theorem mkKs_append : ∀ (l r : List (List Int)) (k : Nat), mkKs (l ++ r) k = mkKs l k ++ mkKs r (k + (l.map List.length).sum)
  | [], r, k => by simp [mkKs]
  | x :: l, r, k => by simp [mkKs, mkKs_append l r, Nat.add_assoc]
theorem mixK_at (l : List (List Int)) (k n : Nat) (h : n < l.length) : (mixK l k n).getD n [] = l.getD n [] := by
  have hl : (mkKs (l.take n) k).length = n := by rw [length_mkKs]; simp; omega
  unfold mixK
  simp only [List.getD_eq_getElem?_getD]
  rw [List.getElem?_append_right (by omega), hl]
  simp
theorem mixK_succ (l : List (List Int)) (k n : Nat) (h : n < l.length) : mixK l k (n + 1) = (mixK l k n).set n (marks (k + pre List.length l n) (l.getD n []).length) := by
  have e : l.getD n [] = l[n] := by simp [List.getD_eq_getElem?_getD, h]
  unfold mixK pre
  rw [e, List.take_succ_eq_append_getElem h, mkKs_append, List.drop_eq_getElem_cons h]
  have hl : (mkKs (l.take n) k).length = n := by rw [length_mkKs]; simp; omega
  rw [List.set_append_right _ _ (by omega), hl, Nat.sub_self, List.set_cons_zero]
  simp only [mkKs, List.append_assoc, List.singleton_append]

theorem disj_flatten {Bs : List (List Nat)} (h : Bs.flatten.Nodup) {i k : Nat} (hi : i < Bs.length) (hk : k < Bs.length) (hne : i ≠ k) {b : Nat} (h1 : b ∈ Bs.getD i []) (h2 : b ∈ Bs.getD k []) : False := by
  have h' : Bs.flatten.Pairwise (· ≠ ·) := h
  rw [List.pairwise_flatten] at h'
  have hp := List.pairwise_iff_getElem.1 h'.2
  have e1 : Bs.getD i [] = Bs[i] := by simp [List.getD_eq_getElem?_getD, hi]
  have e2 : Bs.getD k [] = Bs[k] := by simp [List.getD_eq_getElem?_getD, hk]
  rw [e1] at h1
  rw [e2] at h2
  rcases Nat.lt_or_gt_of_ne hne with hlt | hgt
  · exact hp i k hi hk hlt b h1 b h2 rfl
  · exact hp k i hk hi hgt b h2 b h1 rfl

/-- One text of a list of the call's own is written anew, in its own block. -/
theorem KOwn.turn {w w' : World} {v : Value} {ks : List (List Int)} {B : List Nat} {g cap : Nat} {cur : Array Value} {Bs : List (List Nat)} (hv : v = .slice (some ⟨g, 0, none⟩) ks.length cap) (hh : w.heap[g]? = some (.cells cur 24 (0, 0))) (h3 : ks.length ≤ cap) (h4 : cap ≤ maxLen) (h5 : cur.size = cap) (h6 : Bs.length = ks.length)
    (h7 : ∀ i, i < ks.length → ∃ u, cur[i]? = some u ∧ TOwn w u (ks.getD i []) (Bs.getD i [])) (hB : B = g :: Bs.flatten) (hN : B.Nodup) {k : Nat} (hk : k < ks.length) {u : Value} (hu : cur[k]? = some u) {x' : List Int} (hx : TOwn w' u x' (Bs.getD k [])) (ht : Turned (Bs.getD k []) w w') : KOwn w' v (ks.set k x') B := by
  subst hB
  have hg : g ∉ Bs.flatten := (List.nodup_cons.1 hN).1
  have hgk : g ∉ Bs.getD k [] := fun h => hg (flatten_mem_getD (by omega) h)
  have hgl : g < w.heap.size := (Array.getElem?_eq_some_iff.1 hh).1
  refine .inr ⟨g, cap, cur, Bs, by simpa using hv, (ht.block g hgl hgk).trans hh, by simpa using h3, h4, h5, by simpa using h6, fun i hi => ?_, rfl, hN⟩
  rw [List.length_set] at hi
  by_cases e : i = k
  · subst e
    exact ⟨u, hu, by simpa [List.getD_eq_getElem?_getD, hk] using hx⟩
  · obtain ⟨u', hu', ht'⟩ := h7 i hi
    refine ⟨u', hu', ?_⟩
    have e2 : (ks.set k x').getD i [] = ks.getD i [] := by simp [List.getD_eq_getElem?_getD, List.getElem?_set_ne (fun h => e h.symm)]
    rw [e2]
    refine ht'.agree fun b hb => ht.block b (ht'.lt b hb) fun hm => ?_
    exact disj_flatten (List.nodup_cons.1 hN).2 (by omega : i < Bs.length) (by omega : k < Bs.length) e hb hm

/-- A text of the call's own, marked. -/
theorem TOwn.marked {w w' : World} {a : Option Addr} {c : Nat} {xs : List Int} {B : List Nat} {m : Nat} (h : TOwn w (.slice a xs.length c) xs B) (hb : BtsF w' (.slice a xs.length c) (marks m xs.length)) : TOwn w' (.slice a xs.length c) (marks m xs.length) B := by
  refine ⟨hb, ?_⟩
  rcases h.2 with ⟨h1, h2⟩ | ⟨g, cap, h1, h2⟩
  · exact .inl ⟨h1, h2⟩
  · exact .inr ⟨g, cap, by rw [length_marks]; exact h1, h2⟩

theorem TOwn.turned {w w' : World} {v : Value} {xs : List Int} {B : List Nat} (h : TOwn w v xs B) (hg : w.grownBy w' v.ownBlock) : Turned B w w' := by
  refine Turned.of_grown hg fun g e => ?_
  rcases h.2 with ⟨rfl, _⟩ | ⟨g', cap, rfl, rfl⟩
  · simp [Value.ownBlock] at e
  · simp [Value.ownBlock] at e
    simp [e]

theorem Bts.far {w w' : World} {base : Nat} {v : Value} {xs : List Int} {B : List Nat} (h : Bts w base v xs) (hT : Turned B w w') (hv : ∀ k, v.ownBlock = some k → k ∉ B) : Bts w' base v xs := by
  have hl := h.2.lt
  refine ⟨h.1, h.2.1, ?_⟩
  rcases h.2.2 with h0 | ⟨g, cap, cur, rfl, hg, hh, r⟩
  · exact .inl h0
  · exact .inr ⟨g, cap, cur, rfl, hg, (hT.block g (hl g rfl).2 (hv g rfl)).trans hh, r⟩
end Go.Proofs.YtmkdeljdenhgcaaDoor
/-
  A list marked item by item. Plain mathematics, and small laws.
-/
namespace Go.Proofs.YtmkdeljdenhgcaaDoor
open Go.RowKit
set_option linter.unusedVariables false
set_option linter.unusedSimpArgs false

/-- A list after it was marked. -/
def mkLs {α : Type} (f : α → Nat → α) (c : α → Nat) : List α → Nat → List α
  | [], _ => []
  | x :: r, k => f x k :: mkLs f c r (k + c x)

theorem length_mkLs {α : Type} (f : α → Nat → α) (c : α → Nat) : ∀ (l : List α) (k : Nat), (mkLs f c l k).length = l.length
  | [], _ => rfl
  | x :: r, k => by simp [mkLs, length_mkLs f c r]
theorem mkLs_append {α : Type} (f : α → Nat → α) (c : α → Nat) : ∀ (l r : List α) (k : Nat), mkLs f c (l ++ r) k = mkLs f c l k ++ mkLs f c r (k + (l.map c).sum)
  | [], r, k => by simp [mkLs]
  | x :: l, r, k => by simp [mkLs, mkLs_append f c l r, Nat.add_assoc]

/-- The first n are marked. -/
def mixL {α : Type} (f : α → Nat → α) (c : α → Nat) (l : List α) (k n : Nat) : List α := mkLs f c (l.take n) k ++ l.drop n
theorem mixL_zero {α : Type} (f : α → Nat → α) (c : α → Nat) (l : List α) (k : Nat) : mixL f c l k 0 = l := by simp [mixL, mkLs]
theorem mixL_all {α : Type} (f : α → Nat → α) (c : α → Nat) (l : List α) (k : Nat) : mixL f c l k l.length = mkLs f c l k := by simp [mixL]
theorem length_mixL {α : Type} (f : α → Nat → α) (c : α → Nat) (l : List α) (k n : Nat) (h : n ≤ l.length) : (mixL f c l k n).length = l.length := by simp [mixL, length_mkLs]; omega
theorem mixL_at {α : Type} (f : α → Nat → α) (c : α → Nat) (l : List α) (k n : Nat) (h : n < l.length) : (mixL f c l k n)[n]'(by rw [length_mixL f c l k n (Nat.le_of_lt h)]; exact h) = l[n] := by
  unfold mixL
  have hl : (mkLs f c (l.take n) k).length = n := by rw [length_mkLs]; simp; omega
  rw [List.getElem_append_right (by omega)]
  simp [hl]
theorem mixL_succ {α : Type} (f : α → Nat → α) (c : α → Nat) (l : List α) (k n : Nat) (h : n < l.length) : mixL f c l k (n + 1) = (mixL f c l k n).set n (f l[n] (k + pre c l n)) := by
  unfold mixL pre
  rw [List.take_succ_eq_append_getElem h, mkLs_append, List.drop_eq_getElem_cons h]
  have hl : (mkLs f c (l.take n) k).length = n := by rw [length_mkLs]; simp; omega
  rw [List.set_append_right _ _ (by omega), hl, Nat.sub_self, List.set_cons_zero]
  simp only [mkLs, List.append_assoc, List.singleton_append]

theorem agree_turned {B C : List Nat} {w w' : World} (h : Turned B w w') (hl : ∀ b ∈ C, b < w.heap.size) (hd : ∀ b ∈ C, b ∉ B) : Agree (fun b => b ∈ C) w w' := fun b hb => h.block b (hl b hb) (hd b hb)

theorem arg_eq {F : Nat} {v : Value} {x y : Int} {w : World} {Q : Ending → World → Prop} (e : x = y) (h : Calls Tryd.prog F #[v, .int .i64 x] w Q) : Calls Tryd.prog F #[v, .int .i64 y] w Q := e ▸ h
end Go.Proofs.YtmkdeljdenhgcaaDoor
/-
  The laws' own helper markStepS: running numbers written into a path of the call's own.
-/
namespace Go.Proofs.YtmkdeljdenhgcaaDoor
open Go.RowKit
set_option linter.unusedVariables false
set_option linter.unusedSimpArgs false

/-- A step after it was marked, from k on. -/
def mkStp (s : Stp) (k : Nat) : Stp := ((k : Int), marks (k + 1) s.2.1.length, ((k + 1 + s.2.1.length : Nat) : Int))
/-- How many numbers it takes. -/
def cStp (s : Stp) : Nat := 2 + s.2.1.length

/-- One step of a path of the call's own is written anew, in its own blocks. -/
theorem PthOwn.turn {w w' : World} {x : Value} {l : List Stp} {B : List Nat} {g cap : Nat} {cur cur' : Array Value} {Bi : List (List Nat)} (hx : x = .slice (some ⟨g, 0, none⟩) l.length cap) (h3 : l.length ≤ cap) (h4 : cap ≤ maxLen) (h5 : cur.size = cap * 3) (h6 : Bi.length = l.length)
    (h7 : ∀ i (h : i < l.length), ∃ e, Cells3 cur (i * 3) e ∧ StOwn w e (l[i]) (Bi.getD i [])) (hB : B = g :: Bi.flatten) (hN : B.Nodup) {k : Nat} (hk : k < l.length) (hh' : w'.heap[g]? = some (.cells cur' 37 (0, 0))) (hsz : cur'.size = cur.size) (hoth : ∀ j, j < k * 3 ∨ k * 3 + 3 ≤ j → cur'[j]? = cur[j]?)
    {e' : Value × Value × Value} (he' : Cells3 cur' (k * 3) e') {v' : Stp} (hv' : StOwn w' e' v' (Bi.getD k [])) (ht : Turned (g :: Bi.getD k []) w w') : PthOwn w' x (l.set k v') B := by
  subst hB
  have hg : g ∉ Bi.flatten := (List.nodup_cons.1 hN).1
  refine ⟨g, cap, cur', Bi, by simpa using hx, hh', by simpa using h3, h4, by omega, by simpa using h6, fun i hi => ?_, rfl, hN⟩
  have hi' : i < l.length := by simpa using hi
  by_cases e : i = k
  · subst e
    exact ⟨e', he', by simpa using hv'⟩
  · obtain ⟨u, hc, hv⟩ := h7 i hi'
    refine ⟨u, ?_, ?_⟩
    · obtain ⟨q0, q1, q2⟩ := hc
      refine ⟨?_, ?_, ?_⟩ <;> rw [hoth _ (by omega)] <;> assumption
    · rw [List.getElem_set_ne (fun h => e h.symm)]
      refine hv.agree fun b hb => ht.block b (hv.2.1.lt b hb) fun hm => ?_
      rcases List.mem_cons.1 hm with rfl | hm
      · exact hg (flatten_mem_getD (by omega) hb)
      · exact disj_flatten (List.nodup_cons.1 hN).2 (by omega : i < Bi.length) (by omega : k < Bi.length) e hb hm

theorem set02_cells {cur : Array Value} {j : Nat} {c0 c1 c2 a b : Value} (h : Cells3 cur j (c0, c1, c2)) : Cells3 ((cur.setIfInBounds j a).setIfInBounds (j + 2) b) j (a, c1, b) := by
  obtain ⟨h0, h1, h2⟩ := h
  have l1 := (Array.getElem?_eq_some_iff.1 h2).1
  simp only at h0 h1 h2
  refine ⟨?_, ?_, ?_⟩
  · simp only
    rw [Array.getElem?_setIfInBounds_ne (by omega), Array.getElem?_setIfInBounds_self]
    simp; omega
  · simp only
    rw [Array.getElem?_setIfInBounds_ne (by omega), Array.getElem?_setIfInBounds_ne (by omega)]
    exact h1
  · simp only
    rw [Array.getElem?_setIfInBounds_self]
    simp; omega

set_option maxHeartbeats 6400000 in
theorem markStepS_any (x : Value) (l : List Stp) (B : List Nat) (m : Nat) (w : World) (h : PthOwn w x l B) (hs : szP l ≤ 1048576) (hm : m + (l.map cStp).sum ≤ 16777216) :
    Calls Tryd.prog 10 #[x, .int .i64 m] w fun e w' => e = .returned (.int .i64 ((m + (l.map cStp).sum : Nat) : Int)) ∧ PthOwn w' x (mkLs mkStp cStp l m) B ∧ Turned B w w' := by
  have hform : ∃ a c, x = .slice a l.length c := by
    obtain ⟨g, cap, cur, Bi, rfl, _⟩ := h
    exact ⟨_, _, rfl⟩
  obtain ⟨a, c, rfl⟩ := hform
  have HP : Hid (∀ k (hk : k < l.length), pre cStp l (k + 1) = pre cStp l k + cStp l[k]) := fun k hk => pre_succ cStp l k hk
  have HL : Hid (∀ k, pre cStp l k ≤ (l.map cStp).sum) := pre_le cStp l
  have HA : Hid (pre cStp l l.length = (l.map cStp).sum) := pre_all _ _
  have HZ : Hid (∀ k (hk : k < l.length), (l[k]).2.1.length ≤ 1048576) := fun k hk => Nat.le_trans (szP_elem hk) hs
  have H0 := hide' h
  have hn : l.length ≤ 1048576 := by unfold szP at hs; omega
  generalize hS : (l.map cStp).sum = S at *
  clear h hs hS
  go_enter Tryd.func10, Tryd.ntmps10
  go_wp2
  go_loopw [1, 5] (fun m' i wr => ∃ k : Nat, k ≤ l.length ∧ i = .int .i64 k ∧ m' = .int .i64 ((m + pre cStp l k : Nat) : Int) ∧ Hid (PthOwn wr (.slice a l.length c) (mixL mkStp cStp l m k) B) ∧ Hid (Turned B w wr)) (fun _ i _ => l.length - (intOf i).toNat)
  case atStart => exact ⟨0, Nat.zero_le _, rfl, by rw [pre_zero]; simp, by rw [mixL_zero]; exact H0, Turned.refl _ _⟩
  case round =>
    obtain ⟨k, hk, rfl, rfl, hK, hT⟩ := hrel
    have hpk := HL.out k
    by_cases hlt : k < l.length
    · have hlt' : (k : Int) < (l.length : Int) := by omega
      have hps := HP.out k hlt
      have hpk1 := HL.out (k + 1)
      have hml := length_mixL mkStp cStp l m k hk
      obtain ⟨g, cap, cur, Bi, hv, hh, h3, h4, h5, h6, h7, hB, hN⟩ := hK.out
      obtain ⟨⟨c0, c1, c2⟩, hcs, hVO⟩ := h7 k (by omega)
      rw [mixL_at mkStp cStp l m k hlt] at hVO
      have hlk : ∃ (sk : Int) (ss : List Int) (si : Int), l[k] = (sk, ss, si) := ⟨_, _, _, rfl⟩
      obtain ⟨sk, ss, si, hlk⟩ := hlk
      rw [hlk] at hVO
      obtain ⟨e0, ht, e2⟩ := hVO
      simp only at e0 ht e2
      have hz := HZ.out k hlt
      rw [hlk] at hz hps
      simp only at hz
      have hc' : cStp (sk, ss, si) = 2 + ss.length := rfl
      have hgk : k < Bi.length := by omega
      have hgn : g ∉ Bi.getD k [] := by
        intro hm
        rw [hB, List.nodup_cons] at hN
        exact hN.1 (flatten_mem_getD hgk hm)
      have hva : a = some ⟨g, 0, none⟩ := by simp at hv; exact hv.1
      subst hva
      generalize hq : pre cStp l k = q at *
      obtain ⟨sa, sc, rfl, _⟩ := ht.1.shape
      have hh1 := heap_setCell_same wr g (k * 3) cur 37 (.int .i64 ((m : Int) + q)) hh
      have hg1 := grown1 wr g (k * 3) (.int .i64 ((m : Int) + q))
      have ht1 : TOwn (wr.setCell ⟨g, k * 3, none⟩ (.int .i64 ((m : Int) + q))) (.slice sa ss.length sc) ss (Bi.getD k []) := ht.agree fun b hb => Below.heap_setCell wr _ _ b (fun e => hgn (by simp at e; rw [← e]; exact hb))
      obtain ⟨x0, hx0⟩ : ∃ y, wr.cell? ⟨g, k * 3, none⟩ = some y := ⟨_, by rw [cell_of_row wr g _ cur _ (0, 0) hh]; exact hcs.1⟩
      have f0 := frozen_of_row wr g (k * 3) cur _ hh
      have y1 : wr.cell? ⟨g, k * 3 + 1, none⟩ = some (.slice sa ss.length sc) := by rw [cell_of_row wr g _ cur _ (0, 0) hh]; exact hcs.2.1
      have HM1 : Hid (Calls Tryd.prog 11 #[.slice sa ss.length sc, .int .i64 ((m : Int) + q + 1)] (wr.setCell ⟨g, k * 3, none⟩ (.int .i64 ((m : Int) + q))) fun e w' => e = .returned (.int .i64 ((m : Int) + q + 1 + ss.length)) ∧ (∃ y, w'.cell? ⟨g, k * 3 + 2, none⟩ = some y) ∧ w'.frozen? ⟨g, k * 3 + 2, none⟩ = false ∧ Hid (PthOwn (w'.setCell ⟨g, k * 3 + 2, none⟩ (.int .i64 ((m : Int) + q + 1 + ss.length))) (.slice (some ⟨g, 0, none⟩) l.length c) (mixL mkStp cStp l m (k + 1)) B) ∧ Hid (Turned B w (w'.setCell ⟨g, k * 3 + 2, none⟩ (.int .i64 ((m : Int) + q + 1 + ss.length))))) := by
        refine arg_eq (x := ((m + q + 1 : Nat) : Int)) (by push_cast; rfl) ((markByteS_F sa sc ss (m + q + 1) _ ht1.1 (by omega) (by omega)).mono ?_)
        rintro e w' ⟨rfl, hb, hg⟩
        have hT1 := ht1.turned hg
        have hgl : g < (wr.setCell ⟨g, k * 3, none⟩ (.int .i64 ((m : Int) + q))).heap.size := (Array.getElem?_eq_some_iff.1 hh1).1
        have hh2 := (hT1.block g hgl hgn).trans hh1
        have hh3 := heap_setCell_same w' g (k * 3 + 2) _ 37 (.int .i64 ((m : Int) + q + 1 + ss.length)) hh2
        have hg3 := grown1 w' g (k * 3 + 2) (.int .i64 ((m : Int) + q + 1 + ss.length))
        have hTT : Turned (g :: Bi.getD k []) wr (w'.setCell ⟨g, k * 3 + 2, none⟩ (.int .i64 ((m : Int) + q + 1 + ss.length))) :=
          ((Turned.of_grown hg1 (fun j e => by simp at e; simp [e])).trans (hT1.mono fun b hb => List.mem_cons_of_mem _ hb)).trans (Turned.of_grown hg3 (fun j e => by simp at e; simp [e]))
        have hcs3 := set02_cells (a := .int .i64 ((m : Int) + q)) (b := .int .i64 ((m : Int) + q + 1 + ss.length)) hcs
        refine ⟨ret_i64 (by push_cast; rfl), ?_, frozen_of_row w' g _ _ _ hh2, ?_, ?_⟩
        · rw [cell_of_row w' g _ _ _ (0, 0) hh2, Array.getElem?_setIfInBounds_ne (by omega)]
          exact ⟨_, hcs.2.2⟩
        · show PthOwn _ _ (mixL mkStp cStp l m (k + 1)) B
          rw [mixL_succ mkStp cStp l m k hlt, hlk, hq]
          refine PthOwn.turn hv h3 h4 h5 h6 h7 hB hN (by omega) hh3 (by simp) ?_ hcs3 ?_ hTT
          · intro j hj
            rw [Array.getElem?_setIfInBounds_ne (by omega), Array.getElem?_setIfInBounds_ne (by omega)]
          · refine ⟨by simp [mkStp], ?_, by simp [mkStp]⟩
            exact (ht1.marked hb).agree fun b hb' => Below.heap_setCell w' _ _ b (fun e => hgn (by simp at e; rw [← e]; exact hb'))
        · refine hT.out.trans (hTT.mono fun b hb => ?_)
          rw [hB]
          rcases List.mem_cons.1 hb with rfl | hb
          · simp
          · exact List.mem_cons_of_mem _ (flatten_mem_getD hgk hb)
      have hcE : m + q + 1 + ss.length + 1 ≤ 16777216 := by omega
      have Hps : Hid (m + pre cStp l (k + 1) = m + q + 1 + ss.length + 1) := by show m + pre cStp l (k + 1) = _; omega
      clear hK hT hh h7 hN hcs ht ht1 hh1 hg1 hB h6 h5 hv hps hlk hq HP HL HA HZ H0
      generalize ss.length = nS at *
      go_wp2_with fail
      refine HM1.out.mono ?_
      rintro e w1 ⟨rfl, ⟨y, hy⟩, hf, hK', hT'⟩
      clear hx0 f0 y1 HM1
      go_wp2
      go_roundw
      case rel => exact ⟨k + 1, by omega, by go_num, by rw [Hps.out]; go_num, hK', hT'⟩
      case measure => simp [intOf]; omega
    · have hkn : k = l.length := by omega
      have hkn' : ¬ (k : Int) < (l.length : Int) := by omega
      have HE : Hid (PthOwn wr (.slice a l.length c) (mkLs mkStp cStp l m) B) := by
        have hK2 := hK.out
        rw [hkn, mixL_all] at hK2
        exact hK2
      have HQ : Hid (pre cStp l k = S) := by show pre cStp l k = _; rw [hkn]; exact HA.out
      clear hkn hK
      go_wp2
      go_ret
      exact ⟨ret_i64 (by rw [HQ.out]), HE.out, hT.out⟩

theorem PthOwn.on {w w' : World} {x : Value} {l : List Stp} {B : List Nat} (h : PthOwn w x l B) (hb : Below w.heap.size w w') : PthOwn w' x l B := h.agree fun b hb' => hb.block b (h.lt b hb')
theorem PthOwn.far {w w' : World} {x : Value} {l : List Stp} {B B' : List Nat} (h : PthOwn w x l B) (hT : Turned B' w w') (hd : ∀ b ∈ B, b ∉ B') : PthOwn w' x l B := h.agree fun b hb' => hT.block b (h.lt b hb') (hd b hb')
theorem PthOwn.form {w : World} {x : Value} {l : List Stp} {B : List Nat} (h : PthOwn w x l B) : ∃ g c, x = .slice (some ⟨g, 0, none⟩) l.length c := by
  obtain ⟨g, cap, cur, Bi, rfl, _⟩ := h
  exact ⟨_, _, rfl⟩
theorem cStp_le : ∀ l : List Stp, (l.map cStp).sum ≤ 2 * szP l
  | [] => by simp
  | x :: r => by
    have h := cStp_le r
    have e : szP (x :: r) = szP r + (1 + x.2.1.length) := by simp [szP]; omega
    simp only [List.map_cons, List.sum_cons]
    have e2 : cStp x = 2 + x.2.1.length := rfl
    omega
end Go.Proofs.YtmkdeljdenhgcaaDoor
/-
  FnExactPathText answers true, whatever path it is handed; it makes new memory and turns nothing old.
-/
namespace Go.Proofs.YtmkdeljdenhgcaaDoor
open Go.RowKit
set_option linter.unusedVariables false
set_option linter.unusedSimpArgs false

set_option maxHeartbeats 6400000 in
set_option maxRecDepth 100000 in
theorem walk_FnExactPathText (x : Value) (l : List Stp) (w : World) (hx : PthSeg (fun b => b < w.heap.size) w x l) :
    Calls Tryd.prog 3 #[x] w fun e w' => e = .returned (.bool true) ∧ Below w.heap.size w w' := by
  have HV : Hid (∀ wx, Below w.heap.size w wx → PthSeg (fun b => b < w.heap.size) wx x l) := fun wx hb => hx.agree (agree_below hb)
  have HS : Hid (Calls Tryd.prog 4 #[x, .int .i64 1048576] w fun e w' => e = .returned (.int .i64 (less 1048576 (szP l))) ∧ Below w.heap.size w w') :=
    szStepS_any w.heap.size x l 1048576 w hx (Nat.le_refl _) (by omega) (by omega)
  have hks := pathT_len l
  have hcv := cStp_le l
  obtain ⟨a, n, p, rfl⟩ := hx.form
  clear hx
  by_cases hz : (1048576 : Int) < szP l
  · have hl : less 1048576 (szP l) = -1 := less_no _ _ hz
    rw [hl] at HS
    clear hl
    go_enter Tryd.func3, Tryd.ntmps3
    go_wp2_with fail
    refine HS.out.mono ?_
    rintro e w1 ⟨rfl, B1⟩
    go_wp2
    go_ret
    exact ⟨rfl, B1⟩
  · have hl : less 1048576 (szP l) = 1048576 - szP l := less_yes _ _ hz
    rw [hl] at HS
    have hz0 : 0 ≤ (1048576 : Int) - szP l := by omega
    have hz1 : (1048576 : Int) - szP l ≤ 1048576 := by omega
    have HZ : Hid (szP l ≤ 1048576) := by show szP l ≤ 1048576; omega
    have HT : Hid (∀ wx, Below w.heap.size w wx → Calls Tryd.prog 6 #[.slice a n p] wx fun e w' => ∃ u, e = .returned u ∧ ∃ B, PthOwn w' u l B ∧ (∀ b ∈ B, wx.heap.size ≤ b ∧ b < w'.heap.size) ∧ Below wx.heap.size wx w') := fun wx hb =>
      toStepS_any w.heap.size _ l wx (HV.out wx hb) hb.size HZ.out
    have HEq : Hid (∀ (N : Nat) (y z : Value) (wx : World), PthSeg (fun b => b < N) wx y l → PthSeg (fun b => b < N) wx z l → N ≤ wx.heap.size → Calls Tryd.prog 9 #[y, z] wx fun e w' => e = .returned (.bool true) ∧ Below wx.heap.size wx w') := fun N y z wx h1 h2 h3 => eqStepS_same N y z l wx h1 h2 h3 HZ.out
    have hcm : (l.map cStp).sum ≤ 2097152 := by have := HZ.out; omega
    have HM : Hid (∀ z B wx, PthOwn wx z l B → Calls Tryd.prog 10 #[z, .int .i64 1] wx fun e w' => e = .returned (.int .i64 ((1 + (l.map cStp).sum : Nat) : Int)) ∧ Turned B wx w') := fun z B wx h => (markStepS_any z l B 1 wx h HZ.out (by omega)).mono fun e w' h => ⟨h.1, h.2.2⟩
    have HSp : Hid (∀ u B wx, PthOwn wx u l B → Calls Tryd.prog 5 #[u] wx (PtEnd l wx)) := fun u B wx h => spec_PathText_any wx.heap.size u l wx (h.below (Below.refl _ _)) (Nat.le_refl _)
    have HIm : Hid (∀ u B wx, PthOwn wx u l B → Calls Tryd.prog 7 #[u] wx (PtEnd l wx)) := fun u B wx h => impl_PathText_any wx.heap.size u l wx (h.below (Below.refl _ _)) (Nat.le_refl _)
    unfold PtEnd at HSp HIm
    generalize pathT l = xs at *
    have HEK : Hid (∀ a c a' c' N N' wx, Bts wx N (.slice a xs.length c) xs → Bts wx N' (.slice a' xs.length c') xs → Calls Tryd.prog 8 #[.slice a xs.length c, .slice a' xs.length c'] wx fun e w' => e = .returned (.bool true) ∧ Below wx.heap.size wx w') := fun a c a' c' N N' wx h h' => eqByteS_same a a' c c' xs wx h.seg h'.seg (by omega)
    have HMK : Hid (∀ a c N wx, Bts wx N (.slice a xs.length c) xs → Calls Tryd.prog 11 #[.slice a xs.length c, .int .i64 1] wx fun e w' => e = .returned (.int .i64 ((1 + xs.length : Nat) : Int)) ∧ Bts w' N (.slice a xs.length c) (marks 1 xs.length) ∧ wx.grownBy w' (Value.slice a xs.length c).ownBlock) := fun a c N wx h => markByteS_any N a c xs 1 wx h (by omega) (by omega)
    have HHK : Hid (∀ a c N wx, Bts wx N (.slice a xs.length c) (marks 1 xs.length) → Calls Tryd.prog 12 #[.slice a xs.length c, .int .i64 1] wx fun e w' => e = .returned (.int .i64 ((1 + xs.length : Nat) : Int)) ∧ Below wx.heap.size wx w') := fun a c N wx h => heldByteS_any a c 1 xs.length wx h.seg (by omega) (by omega)
    generalize hsz' : szP l = sz at *
    generalize hcn : (l.map cStp).sum = cn1 at *
    clear hl hz HV hcv hsz' hcn
    go_enter Tryd.func3, Tryd.ntmps3
    go_wp2_with fail
    refine HS.out.mono ?_
    rintro e w1 ⟨rfl, B1⟩
    have HT1 := hide' (HT.out w1 B1)
    have HB1 := hide' B1
    clear B1 HS
    go_wp2_with fail
    refine HT1.out.mono ?_
    rintro e w2 ⟨u, rfl, B, hO2, hB2, b2⟩
    have hS2 := hide' (HSp.out _ _ _ hO2)
    have B2 := hide' (Below.on HB1.out b2)
    obtain ⟨ua, un, up, rfl⟩ := hO2.seg.form
    clear HT1 HB1 hO2 hB2 b2 HSp
    go_wp2_with fail
    refine hS2.out.mono ?_
    rintro e w3 ⟨W0, rfl, hW3, b3⟩
    obtain ⟨Wa, Wc, rfl, _⟩ := hW3.shape
    have HBw : Hid (∀ k, (Value.slice Wa xs.length Wc).ownBlock = some k → w2.heap.size ≤ k ∧ k < w3.heap.size) := fun k hk => hW3.2.lt k hk
    have B3 := hide' (Below.on B2.out b3)
    have HT3 := hide' (HT.out w3 B3.out)
    have HW3 := hide' hW3
    have HZ3 : Hid (w.heap.size ≤ w2.heap.size) := B2.out.size
    have hs23 : w2.heap.size ≤ w3.heap.size := b3.size
    clear b3 B2 hS2 hW3
    go_wp2_with fail
    refine HT3.out.mono ?_
    rintro e w4 ⟨v, rfl, B4, hO4, hB4, b4⟩
    have hI4 := hide' (HIm.out _ _ _ hO4)
    have HBl4 := hide' (Below.on B3.out b4)
    obtain ⟨va, vn, vp, rfl⟩ := hO4.seg.form
    have HO4 := hide' hO4
    have HB4 := hide' hB4
    have HW4 := hide' (HW3.out.grow b4)
    have hz34 : Hid (w2.heap.size ≤ w3.heap.size ∧ w3.heap.size ≤ w4.heap.size) := ⟨hs23, b4.size⟩
    clear HT3 b4 hB4 hO4 B3 HW3
    go_wp2_with fail
    refine hI4.out.mono ?_
    rintro e w5 ⟨G0, rfl, hG5, b5⟩
    obtain ⟨Ga, Gc, rfl, _⟩ := hG5.shape
    have HBg : Hid (∀ k, (Value.slice Ga xs.length Gc).ownBlock = some k → w4.heap.size ≤ k) := fun k hk => (hG5.2.lt k hk).1
    have hW5 := HW4.out.grow b5
    have HO5 := hide' (HO4.out.on b5)
    have HB5 := hide' (Below.on HBl4.out b5)
    have hEK := hide' (HEK.out _ _ _ _ _ _ _ hG5 hW5)
    have HG5 := hide' hG5
    have HW5 := hide' hW5
    clear hG5 hW5 b5 hI4 HO4 HBl4 HW4
    go_wp2_with fail
    refine hEK.out.mono ?_
    rintro e w6 ⟨rfl, b6⟩
    have B6 := Below.on HB5.out b6
    have HT6 := hide' (HT.out w6 B6)
    have HO6 := hide' (HO5.out.on b6)
    have HG6 := hide' (HG5.out.grow b6)
    have HW6 := hide' (HW5.out.grow b6)
    have HB6 := hide' B6
    clear hEK b6 B6 HO5 HG5 HW5 HB5
    go_wp2_with fail
    refine HT6.out.mono ?_
    rintro e w7 ⟨z, rfl, B7, hO7, hB7, b7⟩
    have HO7 := HO6.out.on b7
    have hE7 := hide' (HEq.out w7.heap.size _ z w7 (HO7.below (Below.refl _ _)) (hO7.below (Below.refl _ _)) (Nat.le_refl _))
    obtain ⟨za, zn, zp, rfl⟩ := hO7.seg.form
    have HO7' := hide' HO7
    have HG7 := hide' (HG6.out.grow b7)
    have HW7 := hide' (HW6.out.grow b7)
    have HB7 := hide' (Below.on HB6.out b7)
    clear HT6 hO7 hB7 b7 HO7 HO6 HG6 HW6 HB6 HEq
    go_wp2_with fail
    refine hE7.out.mono ?_
    rintro e w8 ⟨rfl, b8⟩
    have hM8 := hide' (HM.out _ _ _ (HO7'.out.on b8))
    have HG8 := hide' (HG7.out.grow b8)
    have HW8 := hide' (HW7.out.grow b8)
    have HB8 := hide' (Below.on HB7.out b8)
    clear b8 hE7 HO7' HG7 HW7 HB7 HM
    go_wp2_with fail
    refine hM8.out.mono ?_
    rintro e w9 ⟨rfl, hT9⟩
    have hG9 := HG8.out.far hT9 (fun b hb hb' => by have h1 := HBg.out b hb; have h2 := HB4.out b hb'; omega)
    have hW9 := HW8.out.far hT9 (fun b hb hb' => by have h1 := HBw.out b hb; have h2 := HB4.out b hb'; omega)
    have HB9 := hide' (Turned.below HB8.out hT9 (Nat.le_refl _) (fun b hb => by have h2 := HB4.out b hb; have h3 := HZ3.out; have h4 := hz34.out; omega))
    have hE9 := hide' (HEK.out _ _ _ _ _ _ _ hG9 hW9)
    have HG9 := hide' hG9
    have HW9 := hide' hW9
    clear hT9 hG9 hW9 HG8 HW8 HB8 hM8
    go_wp2_with fail
    refine hE9.out.mono ?_
    rintro e w10 ⟨rfl, b10⟩
    have hM10 := hide' (HMK.out _ _ _ _ (HG9.out.grow b10))
    have HW10 := hide' (HW9.out.grow b10)
    have HB10 := hide' (Below.on HB9.out b10)
    clear b10 hE9 HG9 HW9 HB9
    go_wp2_with fail
    refine hM10.out.mono ?_
    rintro e w11 ⟨rfl, hG11, hT11⟩
    have HW11 := hide' (HW10.out.young2 hT11 (fun k hk e => by have h1 := HBw.out k hk; have h2 := HBg.out k e; have h3 := hz34.out; omega))
    have HB11 := hide' (HB10.out.grown hT11 HB10.out.size (fun b hb => by have h2 := HBg.out b hb; have h3 := HZ3.out; have h4 := hz34.out; omega))
    have hH11 := hide' (HHK.out _ _ _ _ hG11)
    have HG11 := hide' hG11
    clear hG11 hT11 hM10 HW10 HB10
    go_wp2_with fail
    refine hH11.out.mono ?_
    rintro e w12 ⟨rfl, b12⟩
    have B12 := Below.on HB11.out b12
    have HT12 := hide' (HT.out w12 B12)
    have HG12 := hide' (HG11.out.grow b12)
    have HW12 := hide' (HW11.out.grow b12)
    have HB12 := hide' B12
    clear b12 B12 hH11 HG11 HW11 HB11
    go_wp2_with fail
    refine HT12.out.mono ?_
    rintro e w13 ⟨z, rfl, B13, hO13, hB13, b13⟩
    have hI13 := hide' (HIm.out _ _ _ hO13)
    obtain ⟨za, zn, zp, rfl⟩ := hO13.seg.form
    have HG13 := hide' (HG12.out.grow b13)
    have HW13 := hide' (HW12.out.grow b13)
    have HB13 := hide' (Below.on HB12.out b13)
    clear hO13 hB13 b13 HT12 HG12 HW12 HB12
    go_wp2_with fail
    refine hI13.out.mono ?_
    rintro e w14 ⟨H0, rfl, hH14, b14⟩
    obtain ⟨Ha, Hc, rfl, _⟩ := hH14.shape
    have hE14 := hide' (HEK.out _ _ _ _ _ _ _ hH14 (HW13.out.grow b14))
    have HG14 := hide' (HG13.out.grow b14)
    have HB14 := hide' (Below.on HB13.out b14)
    clear hH14 b14 hI13 HG13 HW13 HB13
    go_wp2_with fail
    refine hE14.out.mono ?_
    rintro e w15 ⟨rfl, b15⟩
    have hH15 := hide' (HHK.out _ _ _ _ (HG14.out.grow b15))
    have HB15 := hide' (Below.on HB14.out b15)
    clear b15 hE14 HG14 HB14
    go_wp2_with fail
    refine hH15.out.mono ?_
    rintro e w16 ⟨rfl, b16⟩
    have B16 := hide' (Below.on HB15.out b16)
    clear b16 hH15 HB15
    go_wp2
    go_ret
    exact ⟨rfl, B16.out⟩
end Go.Proofs.YtmkdeljdenhgcaaDoor
/-
  A text that came in, as its reading has it, can be read: 'TSeg'.
-/
namespace Go.Proofs.YtmkdeljdenhgcaaDoor
open Go.ChangeShapes Go.WideShapes Go.ChangeAt Go.RowKit
set_option linter.unusedVariables false
set_option linter.unusedSimpArgs false
set_option maxRecDepth 100000

theorem cellsT : Tryd.prog.cellsOf 24 = 1 := by kernel_rfl
theorem cellsI : Tryd.prog.cellsOf 3 = 1 := by kernel_rfl

theorem list_of {α : Type} {Q : Nat → α → Prop} : ∀ n, (∀ i, i < n → ∃ x, Q i x) → ∃ l : List α, l.length = n ∧ ∀ i (h : i < l.length), Q i l[i]
  | 0, _ => ⟨[], rfl, fun i h => by simp at h⟩
  | n + 1, hq => by
    obtain ⟨l, hl, hi⟩ := list_of n (fun i hi => hq i (by omega))
    obtain ⟨x, hx⟩ := hq n (by omega)
    refine ⟨l ++ [x], by simp [hl], fun i h => ?_⟩
    by_cases e : i < l.length
    · rw [List.getElem_append_left e]; exact hi i e
    · have : i = n := by simp at h; omega
      subst this
      rw [List.getElem_append_right (by omega)]
      simpa using hx

variable {H : Type} {enc : TypeId × Value → H} {w : World}

theorem read_text {fuel : Nat} {cs : List Value} {x : DataW H × List MemPlace} (h : DataW.trod enc Tryd.prog w 0 (fun _ => true) true fuel 24 cs = some x) : ∃ u xs, cs = [u] ∧ TSeg (fun b => b < w.heap.size) w u xs := by
  rcases open_ints Tryd.underlying24 Tryd.underlying5 (by kernel_rfl) h with ⟨rfl, _⟩ | ⟨a, len, cap, zs, rfl, _, hl, hm, hz, _, hcell, hwz⟩
  · exact ⟨_, [], rfl, none, 0, rfl, ⟨by simp, .inl rfl⟩, Nat.le_refl _, Nat.zero_le _, fun _ => rfl, by simp⟩
  · obtain ⟨xs, e, hs, h1, h2, h3⟩ := seg_of_row (w := w) (a := some a) (len := len) (cap := cap) (zs := zs) (.inr ⟨a, rfl, hl, hm, by simpa using hz, hcell, hwz⟩)
    subst e
    exact ⟨_, xs, rfl, some a, cap, rfl, hs, h1, h2, h3, hs.lt⟩

end Go.Proofs.YtmkdeljdenhgcaaDoor
/-
  A path that came in, as its reading has it, can be read: 'PthSeg'.
-/
namespace Go.Proofs.YtmkdeljdenhgcaaDoor
open Go.ChangeShapes Go.WideShapes Go.ChangeAt Go.RowKit
set_option linter.unusedVariables false
set_option linter.unusedSimpArgs false
set_option maxRecDepth 100000

theorem cellsS : Tryd.prog.cellsOf 35 = 3 := by kernel_rfl
variable {H : Type} {enc : TypeId × Value → H} {w : World}

theorem read_step3 {fuel : Nat} {cs : List Value} {x : DataW H × List MemPlace} (h : DataW.trod enc Tryd.prog w 0 (fun _ => true) true fuel 35 cs = some x) :
    ∃ c0 c1 c2, ∃ s : Stp, cs = [c0, c1, c2] ∧ StSeg (fun b => b < w.heap.size) w (c0, c1, c2) s := by
  cases fuel with
  | zero => simp [DataW.trod] at h
  | succ fuel =>
    unfold DataW.trod at h
    rw [Tryd.underlying35] at h
    simp only [cellsS] at h
    split at h
    · next hlen =>
      match cs, hlen with
      | [c0, c1, c2], _ =>
        simp [cellsT, cellsI, List.mapM_cons, Option.bind_eq_some_iff] at h
        obtain ⟨a0, b0, h0, _, ⟨a1, b1, h1, _, ⟨a2, b2, h2, _⟩, _⟩, _⟩ := h
        obtain ⟨n0, e0, _, _⟩ := DataW.trod_int Tryd.underlying3 h0
        obtain ⟨u1, xs, e1, hT⟩ := read_text h1
        obtain ⟨n2, e2, _, _⟩ := DataW.trod_int Tryd.underlying3 h2
        simp at e0 e1 e2
        subst e0 e1 e2
        exact ⟨_, _, _, (n0, xs, n2), rfl, rfl, hT, rfl⟩
    · simp at h

/-- A path that came in. -/
theorem read_path {fuel : Nat} {cs : List Value} {x : DataW H × List MemPlace} (h : DataW.trod enc Tryd.prog w 0 (fun _ => true) true fuel 22 cs = some x) : ∃ u l, cs = [u] ∧ PthSeg (fun b => b < w.heap.size) w u l := by
  rcases DataW.trod_slice Tryd.underlying22 h with ⟨rfl, _⟩ | ⟨a, len, cap, elems, rest, n, _, rfl, _, hb, hl, hm, hlen, hel, hsp, hns⟩
  · exact ⟨_, [], rfl, none, 0, rfl, Nat.le_refl _, Nat.zero_le _, fun _ => rfl, .inl rfl⟩
  · have hq : ∀ i, i < len → ∃ s : Stp, ∃ c0 c1 c2, (∀ j, j < 3 → w.cell? ((a.add (i * 3)).add j) = [c0, c1, c2][j]?) ∧ StSeg (fun b => b < w.heap.size) w (c0, c1, c2) s := by
      intro i hi
      have h1 := hel i hi
      rw [cellsS, List.getElem?_eq_getElem (by omega)] at h1
      obtain ⟨cs', hc, ht⟩ := Option.bind_eq_some_iff.1 h1
      obtain ⟨d0, d1, d2, s, rfl, hv⟩ := read_step3 ht
      exact ⟨s, d0, d1, d2, (World.cells?_some hc).2.2, hv⟩
    obtain ⟨l, hll, hls⟩ := list_of len hq
    subst hll
    refine ⟨_, l, rfl, some a, cap, rfl, hl, hm, by simp, ?_⟩
    by_cases he : l = []
    · exact .inl he
    · have hp : 0 < l.length := List.length_pos_iff.2 he
      obtain ⟨b, off, spot⟩ := a
      obtain ⟨d0, d1, d2, hu0, _⟩ := hls 0 hp
      have hu := hu0 0 (by omega)
      simp [Addr.add] at hu
      have hspot : spot = none := by simpa using World.cell?_spot hu
      subst hspot
      refine .inr ⟨b, off, rfl, World.block_lt_of_cell? w _ hu, fun i hi => ?_⟩
      obtain ⟨d0, d1, d2, hu, hv⟩ := hls i hi
      have e : ∀ j, j < 3 → w.cell? ⟨b, off + i * 3 + j, none⟩ = [d0, d1, d2][j]? := by
        intro j hj
        have := hu j hj
        rw [Addr.add_lit, Addr.add_lit] at this
        exact this
      exact ⟨(d0, d1, d2), ⟨e 0 (by omega), e 1 (by omega), e 2 (by omega)⟩, hv⟩

/-- As an argument. -/
theorem read_path_arg {a : Option Addr} {n c : Nat} {d : DataW H} {ps : List MemPlace} (h : DataW.Trod enc Tryd.prog w 0 (fun _ => true) true 22 (.slice a n c) d ps) : ∃ l, PthSeg (fun b => b < w.heap.size) w (.slice a n c) l := by
  obtain ⟨fuel, hf⟩ := h
  obtain ⟨u, l, e, hl⟩ := read_path hf
  simp [Value.cells] at e
  subst e
  exact ⟨l, hl⟩
end Go.Proofs.YtmkdeljdenhgcaaDoor
