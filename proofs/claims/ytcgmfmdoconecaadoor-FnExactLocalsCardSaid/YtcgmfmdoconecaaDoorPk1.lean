/-
  Texts that a law leans on, one behind the other; no statement is proved here.
-/
import Derived.Test.YtcgmfmdoconecaaDoorPk0
import Derived.Laws.IdiomStrings
import Derived.Lib.Bytealg
/-
  The laws' own helpers markByteS and heldByteS: the one writes running numbers into a row that is the call's own, the other finds them there.
-/
namespace Go.Proofs.YtcgmfmdoconecaaDoor
open Go.RowKit
set_option linter.unusedVariables false

/-- The running numbers, as bytes. -/
def marks (m n : Nat) : List Int := (List.range n).map fun i => (((m + i) % 256 : Nat) : Int)

theorem length_marks (m n : Nat) : (marks m n).length = n := by simp [marks]
theorem marks_byt (m n : Nat) : ∀ x ∈ marks m n, Byt x := by
  intro x hx
  simp only [marks, List.mem_map] at hx
  obtain ⟨i, _, rfl⟩ := hx
  unfold Byt
  omega
theorem marks_at (m n k : Nat) (h : k < n) : (marks m n).getD k 0 = (((m + k) % 256 : Nat) : Int) := by simp [marks, h]

/-- What a row holds after k of the marks. -/
def marked (xs : List Int) (m k : Nat) : List Value := cellsOf (marks m k) ++ cellsOf (xs.drop k)
theorem marked_zero (xs : List Int) (m : Nat) : marked xs m 0 = cellsOf xs := by simp [marked, marks, cellsOf]
theorem marked_all (xs : List Int) (m : Nat) : marked xs m xs.length = cellsOf (marks m xs.length) := by simp [marked, cellsOf]
theorem length_marked (xs : List Int) (m k : Nat) (h : k ≤ xs.length) : (marked xs m k).length = xs.length := by simp [marked, marks, cellsOf]; omega
theorem marked_set (xs : List Int) (m k : Nat) (h : k < xs.length) : (marked xs m k).set k (.int .u8 (((m + k) % 256 : Nat) : Int)) = marked xs m (k + 1) := by
  apply List.ext_getElem
  · simp [marked, marks, cellsOf]; omega
  · intro i h1 h2
    simp only [marked, marks, cellsOf, List.getElem_set, List.getElem_append, List.length_map, List.length_range]
    by_cases hik : k = i
    · subst hik
      simp
    · by_cases hlt : i < k
      · have e2 : i < k + 1 := by omega
        simp [hik, hlt, e2]
      · have e2 : ¬ i < k + 1 := by omega
        have e3 : k + 1 + (i - (k + 1)) = k + (i - k) := by omega
        simp [hik, hlt, e2, e3]



set_option maxHeartbeats 400000 in
theorem markByteS_any (base : Nat) (a : Option Addr) (cap : Nat) (xs : List Int) (m : Nat) (w : World) (hB : Bts w base (.slice a xs.length cap) xs) (hl : xs.length ≤ 2097152) (hm : m ≤ 1125899906842624) :
    Calls Tryd.prog 28 #[.slice a xs.length cap, .int .i64 m] w fun e w' => e = .returned (.int .i64 ((m + xs.length : Nat) : Int)) ∧ Bts w' base (.slice a xs.length cap) (marks m xs.length) ∧ w.grownBy w' (Value.slice a xs.length cap).ownBlock := by
  have hown0 := hB.2
  generalize hn : xs.length = n at hown0
  have Hn : Hid (xs.length = n) := hn
  have hln : n ≤ 2097152 := by omega
  clear hn hl hB
  have hr : ∀ wr : World, ∀ k, k < n → wr.ownsRow base 5 1 (.slice a n cap) n (marked xs m k) → ∃ g, a = some ⟨g, 0, none⟩ := by
    intro wr k hk h
    rcases h.2 with ⟨h1, h2⟩ | ⟨g, cp, cur, h1, _⟩
    · omega
    · simp at h1
      exact ⟨g, h1.1⟩
  have Hr : Hid (∀ wr : World, ∀ k, k < n → wr.ownsRow base 5 1 (.slice a n cap) n (marked xs m k) → ∃ g, a = some ⟨g, 0, none⟩) := hr
  clear hr
  go_enter Tryd.func28, Tryd.ntmps28
  go_wp2
  go_loopw [1, 5] (fun m' i wr => ∃ k : Nat, k ≤ n ∧ i = .int .i64 k ∧ m' = .int .i64 ((m + k : Nat) : Int) ∧ wr.ownsRow base 5 1 (.slice a n cap) n (marked xs m k) ∧ w.grownBy wr (Value.slice a n cap).ownBlock) (fun _ i _ => n - (intOf i).toNat)
  case atStart => exact ⟨0, Nat.zero_le _, rfl, by simp, by rw [marked_zero]; exact hown0, World.grownBy.refl _ _⟩
  case round =>
    obtain ⟨k, hk, rfl, rfl, hown1, hbel⟩ := hrel
    by_cases hlt : k < n
    · obtain ⟨g, rfl⟩ := Hr.out wr k hlt hown1
      have hd : ∃ v, wr.cell? ⟨g, k, none⟩ = some v := by
        rw [hown1.cellAt k (by omega)]
        have := length_marked xs m k (by have := Hn.out; omega)
        have h2 := Hn.out
        exact ⟨_, List.getElem?_eq_getElem (by omega)⟩
      obtain ⟨v, hd⟩ := hd
      have hfz := hown1.frozenAt k
      have hst := hown1.stored k (.int .u8 (((m + k) % 256 : Nat) : Int))
      rw [marked_set xs m k (by have := Hn.out; omega)] at hst
      obtain ⟨hst1, hst2⟩ := hst
      have hbel2 := grownBy_trans hbel hst2
      clear hst2 hown1 hbel
      have e : ((((m + k) % 256 : Nat) : Int)) = ((m : Int) + k) % 256 := by omega
      rw [e] at hst1 hbel2
      clear e
      go_wp2
      go_roundw
      case rel => exact ⟨k + 1, by omega, by go_num, by go_num, hst1, hbel2⟩
      case measure => simp [intOf]; omega
    · obtain rfl : k = n := by omega
      have hB : Bts wr base (.slice a k cap) (marks m k) := by
        refine ⟨marks_byt _ _, ?_⟩
        have h2 := Hn.out
        have h3 := marked_all xs m
        rw [h2] at h3
        rw [length_marks, ← h3]
        exact hown1
      go_wp2
      go_ret
      exact ⟨rfl, hB, hbel⟩

set_option maxHeartbeats 400000 in
theorem heldByteS_any (a : Option Addr) (cap : Nat) (m n : Nat) (w : World) (hs : Seg w a (marks m n)) (hl : n ≤ 2097152) (hm : m ≤ 1125899906842624) :
    Calls Tryd.prog 30 #[.slice a n cap, .int .i64 m] w fun e w' => e = .returned (.int .i64 ((m + n : Nat) : Int)) ∧ Below w.heap.size w w' := by
  go_enter Tryd.func30, Tryd.ntmps30
  go_wp2
  go_loopw [1, 5] (fun m' i wr => ∃ k : Nat, k ≤ n ∧ i = .int .i64 k ∧ m' = .int .i64 ((m + k : Nat) : Int) ∧ Below w.heap.size w wr) (fun _ i _ => n - (intOf i).toNat)
  case atStart => exact ⟨0, Nat.zero_le _, rfl, by simp, Below.refl _ _⟩
  case round =>
    obtain ⟨k, hk, rfl, rfl, hbel⟩ := hrel
    by_cases hlt : k < n
    · obtain ⟨b1, o1, rfl, hc1⟩ := (hs.grow hbel).at (k := k) (by rw [length_marks]; omega)
      rw [marks_at m n k hlt] at hc1
      have e : ((((m + k) % 256 : Nat) : Int)) = ((m : Int) + k) % 256 := by omega
      rw [e] at hc1
      clear e
      go_wp2
      go_roundw
      case rel => exact ⟨k + 1, by omega, by go_num, by go_num, hbel⟩
      case measure => simp [intOf]; omega
    · obtain rfl : k = n := by omega
      go_wp2
      go_ret
      exact ⟨rfl, hbel⟩
end Go.Proofs.YtcgmfmdoconecaaDoor
/-
  markByteS over a row that may bear a mark of the run-time behind its last cell.
-/
namespace Go.Proofs.YtcgmfmdoconecaaDoor
open Go.RowKit
set_option linter.unusedVariables false

set_option maxHeartbeats 400000 in
theorem markByteS_F (a : Option Addr) (cap : Nat) (xs : List Int) (m : Nat) (w : World) (hB : BtsF w (.slice a xs.length cap) xs) (hl : xs.length ≤ 2097152) (hm : m ≤ 1125899906842624) :
    Calls Tryd.prog 28 #[.slice a xs.length cap, .int .i64 m] w fun e w' => e = .returned (.int .i64 ((m + xs.length : Nat) : Int)) ∧ BtsF w' (.slice a xs.length cap) (marks m xs.length) ∧ w.grownBy w' (Value.slice a xs.length cap).ownBlock := by
  have hown0 := hB.2
  generalize hn : xs.length = n at hown0
  have Hn : Hid (xs.length = n) := hn
  have hln : n ≤ 2097152 := by omega
  clear hn hl hB
  have hr : ∀ wr : World, ∀ k, k < n → RowF wr (.slice a n cap) n (marked xs m k) → ∃ g, a = some ⟨g, 0, none⟩ := by
    intro wr k hk h
    rcases h.2 with ⟨h1, h2⟩ | ⟨g, cp, cur, fr, h1, _⟩
    · omega
    · simp at h1
      exact ⟨g, h1.1⟩
  have Hr : Hid (∀ wr : World, ∀ k, k < n → RowF wr (.slice a n cap) n (marked xs m k) → ∃ g, a = some ⟨g, 0, none⟩) := hr
  clear hr
  go_enter Tryd.func28, Tryd.ntmps28
  go_wp2
  go_loopw [1, 5] (fun m' i wr => ∃ k : Nat, k ≤ n ∧ i = .int .i64 k ∧ m' = .int .i64 ((m + k : Nat) : Int) ∧ RowF wr (.slice a n cap) n (marked xs m k) ∧ w.grownBy wr (Value.slice a n cap).ownBlock) (fun _ i _ => n - (intOf i).toNat)
  case atStart => exact ⟨0, Nat.zero_le _, rfl, by simp, by rw [marked_zero]; exact hown0, World.grownBy.refl _ _⟩
  case round =>
    obtain ⟨k, hk, rfl, rfl, hown1, hbel⟩ := hrel
    by_cases hlt : k < n
    · obtain ⟨g, rfl⟩ := Hr.out wr k hlt hown1
      have hd : ∃ v, wr.cell? ⟨g, k, none⟩ = some v := by
        rw [hown1.cellAt k (by omega)]
        have := length_marked xs m k (by have := Hn.out; omega)
        have h2 := Hn.out
        exact ⟨_, List.getElem?_eq_getElem (by omega)⟩
      obtain ⟨v, hd⟩ := hd
      have hfz := hown1.frozenAt k hlt
      have hst := hown1.stored k (.int .u8 (((m + k) % 256 : Nat) : Int))
      rw [marked_set xs m k (by have := Hn.out; omega)] at hst
      obtain ⟨hst1, hst2⟩ := hst
      have hbel2 := grownBy_trans hbel hst2
      clear hst2 hown1 hbel
      have e : ((((m + k) % 256 : Nat) : Int)) = ((m : Int) + k) % 256 := by omega
      rw [e] at hst1 hbel2
      clear e
      go_wp2
      go_roundw
      case rel => exact ⟨k + 1, by omega, by go_num, by go_num, hst1, hbel2⟩
      case measure => simp [intOf]; omega
    · obtain rfl : k = n := by omega
      have hB : BtsF wr (.slice a k cap) (marks m k) := by
        refine ⟨marks_byt _ _, ?_⟩
        have h2 := Hn.out
        have h3 := marked_all xs m
        rw [h2] at h3
        rw [length_marks, ← h3]
        exact hown1
      go_wp2
      go_ret
      exact ⟨rfl, hB, hbel⟩

end Go.Proofs.YtcgmfmdoconecaaDoor
/-
  What marking turns: blocks of the call's own alone.
-/
namespace Go.Proofs.YtcgmfmdoconecaaDoor
open Go.RowKit
set_option linter.unusedVariables false
set_option linter.unusedSimpArgs false

/-- Nothing has turned but what lies in the blocks B. -/
structure Turned (B : List Nat) (w w' : World) : Prop where
  os : w'.os = w.os
  tape : w'.tape = w.tape
  output : w'.output = w.output
  size : w.heap.size ≤ w'.heap.size
  block : ∀ b, b < w.heap.size → b ∉ B → w'.heap[b]? = w.heap[b]?

theorem Turned.refl (B : List Nat) (w : World) : Turned B w w := ⟨rfl, rfl, rfl, Nat.le_refl _, fun _ _ _ => rfl⟩
theorem Turned.trans {B : List Nat} {w w1 w2 : World} (h : Turned B w w1) (k : Turned B w1 w2) : Turned B w w2 :=
  ⟨k.os.trans h.os, k.tape.trans h.tape, k.output.trans h.output, Nat.le_trans h.size k.size, fun b hb hn => (k.block b (Nat.lt_of_lt_of_le hb h.size) hn).trans (h.block b hb hn)⟩
theorem Turned.mono {B B' : List Nat} {w w' : World} (h : Turned B w w') (hb : ∀ b ∈ B, b ∈ B') : Turned B' w w' := ⟨h.os, h.tape, h.output, h.size, fun b hl hn => h.block b hl fun hm => hn (hb b hm)⟩
theorem Turned.of_grown {w w' : World} {r : Option Nat} {B : List Nat} (h : w.grownBy w' r) (hr : ∀ g, r = some g → g ∈ B) : Turned B w w' :=
  ⟨h.os, h.tape, h.output, h.size, fun b hb hn => h.block b hb fun e => hn (hr b e.symm)⟩
theorem Turned.below {B : List Nat} {N : Nat} {w w1 w2 : World} (h : Below N w w1) (k : Turned B w1 w2) (hN : N ≤ w.heap.size) (hB : ∀ b ∈ B, N ≤ b) : Below N w w2 :=
  ⟨k.os.trans h.os, k.tape.trans h.tape, k.output.trans h.output, Nat.le_trans h.size k.size, fun b hb => (k.block b (by have := h.size; omega) fun hm => by have := hB b hm; omega).trans (h.block b hb)⟩

/-- The texts after they were marked, from k on. -/
def mkKs : List (List Int) → Nat → List (List Int)
  | [], _ => []
  | x :: r, k => marks k x.length :: mkKs r (k + x.length)
theorem length_mkKs : ∀ (l : List (List Int)) (k : Nat), (mkKs l k).length = l.length
  | [], _ => rfl
  | x :: r, k => by simp [mkKs, length_mkKs r]
/-- The first n are marked. -/
def mixK (l : List (List Int)) (k n : Nat) : List (List Int) := mkKs (l.take n) k ++ l.drop n
theorem mixK_zero (l : List (List Int)) (k : Nat) : mixK l k 0 = l := by simp [mixK, mkKs]
theorem mixK_all (l : List (List Int)) (k : Nat) : mixK l k l.length = mkKs l k := by simp [mixK]
theorem length_mixK (l : List (List Int)) (k n : Nat) (h : n ≤ l.length) : (mixK l k n).length = l.length := by simp [mixK, length_mkKs]; omega
theorem mkKs_append : ∀ (l r : List (List Int)) (k : Nat), mkKs (l ++ r) k = mkKs l k ++ mkKs r (k + (l.map List.length).sum)
  | [], r, k => by simp [mkKs]
  | x :: l, r, k => by simp [mkKs, mkKs_append l r, Nat.add_assoc]
theorem mixK_at (l : List (List Int)) (k n : Nat) (h : n < l.length) : (mixK l k n).getD n [] = l.getD n [] := by
  have hl : (mkKs (l.take n) k).length = n := by rw [length_mkKs]; simp; omega
  unfold mixK
  simp only [List.getD_eq_getElem?_getD]
  rw [List.getElem?_append_right (by omega), hl]
  simp
theorem mixK_succ (l : List (List Int)) (k n : Nat) (h : n < l.length) : mixK l k (n + 1) = (mixK l k n).set n (marks (k + pre List.length l n) (l.getD n []).length) := by
  have e : l.getD n [] = l[n] := by simp [List.getD_eq_getElem?_getD, h]
  unfold mixK pre
  rw [e, List.take_succ_eq_append_getElem h, mkKs_append, List.drop_eq_getElem_cons h]
  have hl : (mkKs (l.take n) k).length = n := by rw [length_mkKs]; simp; omega
  rw [List.set_append_right _ _ (by omega), hl, Nat.sub_self, List.set_cons_zero]
  simp only [mkKs, List.append_assoc, List.singleton_append]

theorem disj_flatten {Bs : List (List Nat)} (h : Bs.flatten.Nodup) {i k : Nat} (hi : i < Bs.length) (hk : k < Bs.length) (hne : i ≠ k) {b : Nat} (h1 : b ∈ Bs.getD i []) (h2 : b ∈ Bs.getD k []) : False := by
  have h' : Bs.flatten.Pairwise (· ≠ ·) := h
  rw [List.pairwise_flatten] at h'
  have hp := List.pairwise_iff_getElem.1 h'.2
  have e1 : Bs.getD i [] = Bs[i] := by simp [List.getD_eq_getElem?_getD, hi]
  have e2 : Bs.getD k [] = Bs[k] := by simp [List.getD_eq_getElem?_getD, hk]
  rw [e1] at h1
  rw [e2] at h2
  rcases Nat.lt_or_gt_of_ne hne with hlt | hgt
  · exact hp i k hi hk hlt b h1 b h2 rfl
  · exact hp k i hk hi hgt b h2 b h1 rfl

/-- One text of a list of the call's own is written anew, in its own block. -/
theorem KOwn.turn {w w' : World} {v : Value} {ks : List (List Int)} {B : List Nat} {g cap : Nat} {cur : Array Value} {Bs : List (List Nat)} (hv : v = .slice (some ⟨g, 0, none⟩) ks.length cap) (hh : w.heap[g]? = some (.cells cur 22 (0, 0))) (h3 : ks.length ≤ cap) (h4 : cap ≤ maxLen) (h5 : cur.size = cap) (h6 : Bs.length = ks.length)
    (h7 : ∀ i, i < ks.length → ∃ u, cur[i]? = some u ∧ TOwn w u (ks.getD i []) (Bs.getD i [])) (hB : B = g :: Bs.flatten) (hN : B.Nodup) {k : Nat} (hk : k < ks.length) {u : Value} (hu : cur[k]? = some u) {x' : List Int} (hx : TOwn w' u x' (Bs.getD k [])) (ht : Turned (Bs.getD k []) w w') : KOwn w' v (ks.set k x') B := by
  subst hB
  have hg : g ∉ Bs.flatten := (List.nodup_cons.1 hN).1
  have hgk : g ∉ Bs.getD k [] := fun h => hg (flatten_mem_getD (by omega) h)
  have hgl : g < w.heap.size := (Array.getElem?_eq_some_iff.1 hh).1
  refine .inr ⟨g, cap, cur, Bs, by simpa using hv, (ht.block g hgl hgk).trans hh, by simpa using h3, h4, h5, by simpa using h6, fun i hi => ?_, rfl, hN⟩
  rw [List.length_set] at hi
  by_cases e : i = k
  · subst e
    exact ⟨u, hu, by simpa [List.getD_eq_getElem?_getD, hk] using hx⟩
  · obtain ⟨u', hu', ht'⟩ := h7 i hi
    refine ⟨u', hu', ?_⟩
    have e2 : (ks.set k x').getD i [] = ks.getD i [] := by simp [List.getD_eq_getElem?_getD, List.getElem?_set_ne (fun h => e h.symm)]
    rw [e2]
    refine ht'.agree fun b hb => ht.block b (ht'.lt b hb) fun hm => ?_
    exact disj_flatten (List.nodup_cons.1 hN).2 (by omega : i < Bs.length) (by omega : k < Bs.length) e hb hm

/-- A text of the call's own, marked. -/
theorem TOwn.marked {w w' : World} {a : Option Addr} {c : Nat} {xs : List Int} {B : List Nat} {m : Nat} (h : TOwn w (.slice a xs.length c) xs B) (hb : BtsF w' (.slice a xs.length c) (marks m xs.length)) : TOwn w' (.slice a xs.length c) (marks m xs.length) B := by
  refine ⟨hb, ?_⟩
  rcases h.2 with ⟨h1, h2⟩ | ⟨g, cap, h1, h2⟩
  · exact .inl ⟨h1, h2⟩
  · exact .inr ⟨g, cap, by rw [length_marks]; exact h1, h2⟩

theorem TOwn.turned {w w' : World} {v : Value} {xs : List Int} {B : List Nat} (h : TOwn w v xs B) (hg : w.grownBy w' v.ownBlock) : Turned B w w' := by
  refine Turned.of_grown hg fun g e => ?_
  rcases h.2 with ⟨rfl, _⟩ | ⟨g', cap, rfl, rfl⟩
  · simp [Value.ownBlock] at e
  · simp [Value.ownBlock] at e
    simp [e]

theorem Bts.far {w w' : World} {base : Nat} {v : Value} {xs : List Int} {B : List Nat} (h : Bts w base v xs) (hT : Turned B w w') (hv : ∀ k, v.ownBlock = some k → k ∉ B) : Bts w' base v xs := by
  have hl := h.2.lt
  refine ⟨h.1, h.2.1, ?_⟩
  rcases h.2.2 with h0 | ⟨g, cap, cur, rfl, hg, hh, r⟩
  · exact .inl h0
  · exact .inr ⟨g, cap, cur, rfl, hg, (hT.block g (hl g rfl).2 (hv g rfl)).trans hh, r⟩
end Go.Proofs.YtcgmfmdoconecaaDoor
/-
  markByteSS of the laws: a list of texts of the call's own, marked.
-/
namespace Go.Proofs.YtcgmfmdoconecaaDoor
open Go.RowKit
set_option linter.unusedVariables false
set_option linter.unusedSimpArgs false

set_option maxHeartbeats 3200000 in
theorem markByteSS_any (v : Value) (ks : List (List Int)) (B : List Nat) (m : Nat) (w : World) (h : KOwn w v ks B) (hs : szK ks ≤ 2097152) (hm : m + (ks.map List.length).sum ≤ 1125899906842624) :
    Calls Tryd.prog 12 #[v, .int .i64 m] w fun e w' => e = .returned (.int .i64 ((m + (ks.map List.length).sum : Nat) : Int)) ∧ KOwn w' v (mkKs ks m) B ∧ Turned B w w' := by
  have hsz : szK ks = ks.length + (ks.map List.length).sum := rfl
  have hform : ∃ a c, v = .slice a ks.length c := by
    rcases h with ⟨rfl, rfl, _⟩ | ⟨g, cap, cur, Bs, rfl, _⟩
    · exact ⟨none, 0, rfl⟩
    · exact ⟨_, _, rfl⟩
  obtain ⟨a, c, rfl⟩ := hform
  have HP : Hid (∀ k (hk : k < ks.length), pre List.length ks (k + 1) = pre List.length ks k + ks[k].length) := fun k hk => pre_succ List.length ks k hk
  have HL : Hid (∀ k, pre List.length ks k ≤ (ks.map List.length).sum) := pre_le List.length ks
  have HA : Hid (pre List.length ks ks.length = (ks.map List.length).sum) := pre_all _ _
  have H0 := hide' h
  have hn : ks.length ≤ 2097152 := by omega
  have hsum : (ks.map List.length).sum ≤ 2097152 := by omega
  have hmm : m + (ks.map List.length).sum ≤ 1125899906842624 := by omega
  clear h hs hsz hm
  go_enter Tryd.func12, Tryd.ntmps12
  go_wp2
  go_loopw [1, 5] (fun m' i wr => ∃ k : Nat, k ≤ ks.length ∧ i = .int .i64 k ∧ m' = .int .i64 ((m + pre List.length ks k : Nat) : Int) ∧ Hid (KOwn wr (.slice a ks.length c) (mixK ks m k) B) ∧ Hid (Turned B w wr)) (fun _ i _ => ks.length - (intOf i).toNat)
  case atStart => exact ⟨0, Nat.zero_le _, rfl, by rw [pre_zero]; simp, by rw [mixK_zero]; exact H0, Turned.refl _ _⟩
  case round =>
    obtain ⟨k, hk, rfl, rfl, hK, hT⟩ := hrel
    have hpk := HL.out k
    by_cases hlt : k < ks.length
    · have hlt' : (k : Int) < (ks.length : Int) := by omega
      have hps := HP.out k hlt
      have hpk1 := HL.out (k + 1)
      have hml := length_mixK ks m k hk
      rcases hK.out with ⟨_, h0, _⟩ | ⟨g, cap, cur, Bs, hv, hh, h3, h4, h5, h6, h7, hB, hN⟩
      · rw [h0] at hml
        simp at hml
        omega
      · obtain ⟨u, hu, htu⟩ := h7 k (by omega)
        have e1 : (mixK ks m k).getD k [] = ks.getD k [] := mixK_at ks m k hlt
        have e2 : ks.getD k [] = ks[k] := by simp [List.getD_eq_getElem?_getD, hlt]
        rw [e1, e2] at htu
        obtain ⟨ua, uc, rfl, _⟩ := htu.1.shape
        have hva : a = some ⟨g, 0, none⟩ := by simp at hv; exact hv.1
        subst hva
        have hcell : wr.cell? ⟨g, k, none⟩ = some (.slice ua ks[k].length uc) := by rw [cell_of_row wr g k cur _ (0, 0) hh]; exact hu
        have HM : Hid (Calls Tryd.prog 28 #[.slice ua ks[k].length uc, .int .i64 ((m + pre List.length ks k : Nat) : Int)] wr fun e w' => e = .returned (.int .i64 ((m + pre List.length ks k + ks[k].length : Nat) : Int)) ∧ Hid (KOwn w' (.slice (some ⟨g, 0, none⟩) ks.length c) (mixK ks m (k + 1)) B) ∧ Hid (Turned B w w')) := by
          refine (markByteS_F ua uc ks[k] (m + pre List.length ks k) wr htu.1 (by omega) (by omega)).mono ?_
          rintro e w' ⟨rfl, hb, hg⟩
          have ht2 := htu.turned hg
          refine ⟨rfl, ?_, ?_⟩
          · show KOwn w' _ (mixK ks m (k + 1)) B
            rw [mixK_succ ks m k hlt, e2]
            exact KOwn.turn hv hh h3 h4 h5 h6 h7 hB hN (by omega) hu (htu.marked hb) ht2
          · refine hT.out.trans (ht2.mono fun b hb => ?_)
            rw [hB]
            exact List.mem_cons_of_mem _ (flatten_mem_getD (by omega) hb)
        generalize ks[k].length = nk at *
        have Hps := hide' hps
        clear hK hT hh h7 hN htu hu hB hv h6 h5 e1 e2 hps
        generalize pre List.length ks k = q at *
        go_wp2_with fail
        refine HM.out.mono ?_
        rintro e w' ⟨rfl, hK', hT'⟩
        clear hcell HM
        go_wp2
        go_roundw
        case rel => exact ⟨k + 1, by omega, by go_num, by rw [Hps.out]; go_num, hK', hT'⟩
        case measure => simp [intOf]; omega
    · have hkn : k = ks.length := by omega
      have hkn' : ¬ (k : Int) < (ks.length : Int) := by omega
      have HE : Hid (KOwn wr (.slice a ks.length c) (mkKs ks m) B) := by
        show KOwn wr (.slice a ks.length c) (mkKs ks m) B
        have hK2 := hK.out
        rw [hkn, mixK_all] at hK2
        exact hK2
      have HQ : Hid (pre List.length ks k = (ks.map List.length).sum) := by show pre List.length ks k = _; rw [hkn]; exact HA.out
      clear hkn hK
      go_wp2
      go_ret
      exact ⟨ret_i64 (by rw [HQ.out]), HE.out, hT.out⟩
end Go.Proofs.YtcgmfmdoconecaaDoor
/-
  string(b) of a slice of bytes; the order of two such.
-/
namespace Go.Proofs.YtcgmfmdoconecaaDoor
open Go.RowKit
set_option linter.unusedVariables false

/-- The bytes as a string. -/
def strOf (xs : List Int) : ByteArray := ⟨(xs.map fun n => UInt8.ofNat n.toNat).toArray⟩

theorem map_byt_inj {xs ys : List Int} (hx : ∀ x ∈ xs, Byt x) (hy : ∀ y ∈ ys, Byt y) (h : (xs.map fun n => UInt8.ofNat n.toNat) = ys.map fun n => UInt8.ofNat n.toNat) : xs = ys := by
  induction xs generalizing ys with
  | nil => simpa using h.symm
  | cons x xs ih =>
    cases ys with
    | nil => simp at h
    | cons y ys =>
      simp only [List.map_cons, List.cons.injEq] at h
      have h1 : x = y := by
        have hx0 := hx x (by simp)
        have hy0 := hy y (by simp)
        unfold Byt at hx0 hy0
        have := congrArg UInt8.toNat h.1
        simp at this
        omega
      rw [h1, ih (fun z hz => hx z (by simp [hz])) (fun z hz => hy z (by simp [hz])) h.2]

theorem strOf_eq {xs ys : List Int} (hx : ∀ x ∈ xs, Byt x) (hy : ∀ y ∈ ys, Byt y) : ((strOf xs).toList == (strOf ys).toList) = decide (xs = ys) := by
  rw [strOf, strOf, ByteArray.toList_mk, ByteArray.toList_mk]
  by_cases h : xs = ys
  · simp [h]
  · have : (xs.map fun n => UInt8.ofNat n.toNat) ≠ ys.map fun n => UInt8.ofNat n.toNat := fun e => h (map_byt_inj hx hy e)
    simp [h, this]

theorem conv_seg {w : World} {a : Option Addr} {xs : List Int} (cap : Nat) (h : Seg w a xs) : (convert 22 9 (.slice a xs.length cap)).run Tryd.prog w = .ok (.string (strOf xs)) w := by
  cases a with
  | none =>
    have hx : xs = [] := by
      rcases h.2 with h0 | ⟨b, off, h1, _⟩
      · exact h0
      · simp at h1
    subst hx
    rw [run_convert_bytes_string w 22 9 5 none _ cap Tryd.underlying22 Tryd.underlying5 Tryd.underlying9]
    rfl
  | some ad =>
    have hl : (xs.map fun n => UInt8.ofNat n.toNat).length = xs.length := by simp
    have := run_convert_bytes_back (P := Tryd.prog) w 22 9 5 ad cap (xs.map fun n => UInt8.ofNat n.toNat) Tryd.underlying22 Tryd.underlying5 Tryd.underlying9 (by
      intro j hj
      rcases h.2 with h0 | ⟨b, off, h1, h2⟩
      · subst h0; simp at hj
      · simp at h1
        subst h1
        have hj' : j < xs.length := by simpa using hj
        rw [Addr.add_lit, h2 j hj']
        have hb := h.1 xs[j] (List.getElem_mem hj')
        unfold Byt at hb
        simp [hj']
        omega)
    rw [hl] at this
    exact this

theorem ret_bool {x y : Bool} (h : x = y) : Ending.returned (.bool x) = .returned (.bool y) := by rw [h]


/-- The bytes as such. -/
def u8s (xs : List Int) : List UInt8 := xs.map fun n => UInt8.ofNat n.toNat
theorem strOf_list (xs : List Int) : (strOf xs).toList = u8s xs := by rw [strOf, ByteArray.toList_mk]; rfl
theorem strOf_data (xs : List Int) : (strOf xs).data.toList = u8s xs := rfl

/-- One text is ahead of another one. -/
def ltS (xs ys : List Int) : Bool := Op.bytesLess (u8s xs) (u8s ys)

theorem less_cmp : ∀ (a b : List UInt8), Op.bytesLess a b = decide (Lib.compareBytes a b < 0)
  | [], [] => by simp [Op.bytesLess, Lib.compareBytes]
  | [], _ :: _ => by simp [Op.bytesLess, Lib.compareBytes]
  | _ :: _, [] => by simp [Op.bytesLess, Lib.compareBytes]
  | x :: a, y :: b => by
    have ih := less_cmp a b
    unfold Op.bytesLess Lib.compareBytes
    by_cases h1 : x < y
    · simp [h1]
    · by_cases h2 : y < x
      · have h3 : ¬ x = y := fun e => by subst e; exact absurd h2 (UInt8.lt_irrefl _)
        simp [h1, h2, h3]
      · have h3 : x = y := UInt8.le_antisymm (UInt8.not_lt.1 h2) (UInt8.not_lt.1 h1)
        subst h3
        simp [h1, ih]

theorem cmp_range : ∀ (a b : List UInt8), -1 ≤ Lib.compareBytes a b ∧ Lib.compareBytes a b ≤ 1
  | [], [] => by simp [Lib.compareBytes]
  | [], _ :: _ => by simp [Lib.compareBytes]
  | _ :: _, [] => by simp [Lib.compareBytes]
  | x :: a, y :: b => by
    have ih := cmp_range a b
    unfold Lib.compareBytes
    split
    · omega
    · split
      · omega
      · exact ih

theorem load_bytes {P : Program} (w : World) (xs : List Int) : ∀ (b off : Nat) (acc : ByteArray), (∀ i, i < xs.length → w.cell? ⟨b, off + i, none⟩ = some (.int .u8 (xs.getD i 0))) →
    (Extern.Bytes.loadBytes ⟨b, off, none⟩ xs.length acc).run P w = .ok ⟨acc.data ++ (u8s xs).toArray⟩ w := by
  induction xs with
  | nil => intro b off acc _; simp [Extern.Bytes.loadBytes, u8s]
  | cons x xs ih =>
    intro b off acc h
    have h0 := h 0 (by simp)
    simp only [Nat.add_zero, List.getD_cons_zero] at h0
    have h1 := ih b (off + 1) (acc.push x.toNat.toUInt8) (fun i hi => by
      have := h (i + 1) (by simp; omega)
      rw [show off + 1 + i = off + (i + 1) from by omega, this]
      simp)
    have e : (⟨b, off, none⟩ : Addr).add 1 = ⟨b, off + 1, none⟩ := Addr.add_lit b off 1
    simp only [List.length_cons, Extern.Bytes.loadBytes, Sem.run_bind, run_load, h0, Result.andThen, e]
    rw [h1]
    congr 1
    apply ByteArray.ext
    simp [ByteArray.push, u8s]

theorem bytes_of_seg {P : Program} {w : World} {a : Option Addr} {xs : List Int} (cap : Nat) (h : Seg w a xs) : (Extern.Bytes.bytesOf (.slice a xs.length cap)).run P w = .ok (strOf xs) w := by
  cases a with
  | none =>
    have hx : xs = [] := by
      rcases h.2 with h0 | ⟨b, off, h1, _⟩
      · exact h0
      · simp at h1
    subst hx
    rfl
  | some ad =>
    rcases h.2 with h0 | ⟨b, off, h1, h2⟩
    · subst h0
      rfl
    · simp at h1
      subst h1
      have := load_bytes (P := P) w xs b off .empty h2
      have he : (⟨ByteArray.empty.data ++ (u8s xs).toArray⟩ : ByteArray) = strOf xs := by
        apply ByteArray.ext
        show (#[] : Array UInt8) ++ (u8s xs).toArray = _
        simp [strOf, u8s]
      rw [he] at this
      exact this

theorem run_compare_seg {P : Program} {w : World} {a b : Option Addr} {xs ys : List Int} (c1 c2 : Nat) (ha : Seg w a xs) (hb : Seg w b ys) :
    (Extern.BytealgCompare.compare #[.slice a xs.length c1, .slice b ys.length c2]).run P w = .ok (.int .i64 (Lib.compareBytes (u8s xs) (u8s ys))) w := by
  change Sem.run P (do pure (goInt (Extern.BytealgCompare.cmp (← Extern.Bytes.bytesOf (.slice a xs.length c1)) (← Extern.Bytes.bytesOf (.slice b ys.length c2))))) w = _
  simp only [Sem.run_bind, bytes_of_seg c1 ha, bytes_of_seg c2 hb, Sem.run_pure, Result.andThen]
  rw [Lib.cmp_eq]
  rfl

end Go.Proofs.YtcgmfmdoconecaaDoor
/-
  NameOk, of the program and of the specification: of a slice of bytes it tells whether it is a name, and turns nothing; the law FnExactNameOk.
-/
namespace Go.Proofs.YtcgmfmdoconecaaDoor
open Go.RowKit
set_option linter.unusedVariables false

/-- A letter of a name. -/
def letB (c : Int) : Bool := decide (97 ≤ c) && decide (c ≤ 122)
/-- A name. -/
def nameB (xs : List Int) : Bool := decide (1 ≤ xs.length) && decide (xs.length ≤ 8) && xs.all letB

theorem nameB_short (xs : List Int) (h : xs.length < 1) : nameB xs = false := by simp [nameB]; omega
theorem nameB_long (xs : List Int) (h : 8 < xs.length) : nameB xs = false := by simp [nameB]; omega
theorem nameB_all (xs : List Int) (h1 : 1 ≤ xs.length) (h2 : xs.length ≤ 8) : nameB xs = xs.all letB := by simp [nameB, h1, h2]

/-- The first k all fulfil p. -/
def fstAll (p : Int → Bool) (xs : List Int) (k : Nat) : Prop := ∀ i, i < k → p (xs.getD i 0) = true
theorem fstAll_zero (p : Int → Bool) (xs : List Int) : fstAll p xs 0 := fun i h => by omega
theorem fstAll_succ {p : Int → Bool} {xs : List Int} {k : Nat} (h : fstAll p xs k) (hk : p (xs.getD k 0) = true) : fstAll p xs (k + 1) := by
  intro i hi
  by_cases e : i = k
  · rw [e]; exact hk
  · exact h i (by omega)
theorem all_of_fstAll {p : Int → Bool} {xs : List Int} (h : fstAll p xs xs.length) : xs.all p = true := by
  rw [List.all_eq_true]
  intro x hx
  obtain ⟨i, hi, rfl⟩ := List.getElem_of_mem hx
  have := h i hi
  simpa [List.getD_eq_getElem?_getD, hi] using this
theorem not_all_of {p : Int → Bool} {xs : List Int} {k : Nat} (hk : k < xs.length) (h : p (xs.getD k 0) = false) : xs.all p = false := by
  rw [List.all_eq_false]
  refine ⟨xs[k], List.getElem_mem hk, ?_⟩
  simpa [List.getD_eq_getElem?_getD, hk] using h

set_option maxHeartbeats 800000 in
theorem impl_NameOk_any (a : Option Addr) (c1 : Nat) (xs : List Int) (w : World) (ha : Seg w a xs) (hl : xs.length ≤ maxLen) :
    Calls Tryd.prog 61 #[.slice a xs.length c1] w fun e w' => e = .returned (.bool (nameB xs)) ∧ w = w' := by
  unfold maxLen at hl
  by_cases h1 : xs.length < 1
  · have HO : Hid (nameB xs = false) := nameB_short xs h1
    have h1' : (xs.length : Int) < 1 := by omega
    go_enter Tryd.func61, Tryd.ntmps61
    go_wp2
    go_ret
    exact ⟨ret_bool HO.out.symm, rfl⟩
  by_cases h2 : 8 < xs.length
  · have HO : Hid (nameB xs = false) := nameB_long xs h2
    have h1' : ¬ (xs.length : Int) < 1 := by omega
    have h2' : (8 : Int) < (xs.length : Int) := by omega
    go_enter Tryd.func61, Tryd.ntmps61
    go_wp2
    go_ret
    exact ⟨ret_bool HO.out.symm, rfl⟩
  have HO : Hid (nameB xs = xs.all letB) := nameB_all xs (by omega) (by omega)
  have hb := getD_byt ha.1
  generalize hn : xs.length = n at *
  have Hn : Hid (xs.length = n) := hn
  have h1' : ¬ (n : Int) < 1 := by omega
  have h2' : ¬ (8 : Int) < (n : Int) := by omega
  clear hn
  go_enter Tryd.func61, Tryd.ntmps61
  go_wp2
  go_loopw [15] (fun i wr => ∃ k : Nat, k ≤ n ∧ i = .int .i64 k ∧ fstAll letB xs k ∧ wr = w) (fun i _ => n - (intOf i).toNat)
  case atStart => exact ⟨0, Nat.zero_le _, rfl, fstAll_zero _ _, rfl⟩
  case round =>
    obtain ⟨k, hk, rfl, hall, rfl⟩ := hrel
    by_cases hlt : k < n
    · obtain ⟨b1, o1, rfl, hc1⟩ := ha.at (k := k) (by have := Hn.out; omega)
      have hbk := hb k
      have HS : Hid (letB (xs.getD k 0) = true → fstAll letB xs (k + 1)) := fun h => fstAll_succ hall h
      have HN : Hid (letB (xs.getD k 0) = false → xs.all letB = false) := fun h => not_all_of (by have := Hn.out; omega) h
      generalize xs.getD k 0 = c at hc1 hbk HS HN
      have hlt' : (k : Int) < (n : Int) := by omega
      obtain ⟨hb1, hb2⟩ := hbk
      by_cases hc : c < 97
      · have HF : Hid (xs.all letB = false) := HN.out (by simp [letB]; omega)
        go_wp2
        go_ret
        exact ⟨ret_bool (by rw [HO.out, HF.out]), rfl⟩
      · by_cases hd : 122 < c
        · have HF : Hid (xs.all letB = false) := HN.out (by simp [letB]; omega)
          go_wp2
          go_ret
          exact ⟨ret_bool (by rw [HO.out, HF.out]), rfl⟩
        · have HF : Hid (fstAll letB xs (k + 1)) := HS.out (by simp [letB]; omega)
          go_wp2
          go_roundw
          case rel => exact ⟨k + 1, by omega, by go_num, HF.out, by first | rfl | trivial⟩
          case measure => simp [intOf]; omega
    · have HF : Hid (xs.all letB = true) := all_of_fstAll (by rw [Hn.out]; have e : k = n := by omega
                                                              rw [← e]; exact hall)
      have hlt' : ¬ (k : Int) < (n : Int) := by omega
      go_wp2
      go_ret
      exact ⟨ret_bool (by rw [HO.out, HF.out]), rfl⟩

set_option maxHeartbeats 800000 in
theorem spec_NameOk_any (a : Option Addr) (c1 : Nat) (xs : List Int) (w : World) (ha : Seg w a xs) (hl : xs.length ≤ maxLen) :
    Calls Tryd.prog 38 #[.slice a xs.length c1] w fun e w' => e = .returned (.bool (nameB xs)) ∧ w = w' := by
  unfold maxLen at hl
  by_cases h1 : xs.length < 1
  · have HO : Hid (nameB xs = false) := nameB_short xs h1
    have h1' : (xs.length : Int) < 1 := by omega
    go_enter Tryd.func38, Tryd.ntmps38
    go_wp2
    go_ret
    exact ⟨ret_bool HO.out.symm, rfl⟩
  by_cases h2 : 8 < xs.length
  · have HO : Hid (nameB xs = false) := nameB_long xs h2
    have h1' : ¬ (xs.length : Int) < 1 := by omega
    have h2' : (8 : Int) < (xs.length : Int) := by omega
    go_enter Tryd.func38, Tryd.ntmps38
    go_wp2
    go_ret
    exact ⟨ret_bool HO.out.symm, rfl⟩
  have HO : Hid (nameB xs = xs.all letB) := nameB_all xs (by omega) (by omega)
  have hb := getD_byt ha.1
  generalize hn : xs.length = n at *
  have Hn : Hid (xs.length = n) := hn
  have h1' : ¬ (n : Int) < 1 := by omega
  have h2' : ¬ (8 : Int) < (n : Int) := by omega
  clear hn
  go_enter Tryd.func38, Tryd.ntmps38
  go_wp2
  go_loopw [3] (fun i wr => ∃ k : Nat, k ≤ n ∧ i = .int .i64 k ∧ fstAll letB xs k ∧ wr = w) (fun i _ => n - (intOf i).toNat)
  case atStart => exact ⟨0, Nat.zero_le _, rfl, fstAll_zero _ _, rfl⟩
  case round =>
    obtain ⟨k, hk, rfl, hall, rfl⟩ := hrel
    by_cases hlt : k < n
    · obtain ⟨b1, o1, rfl, hc1⟩ := ha.at (k := k) (by have := Hn.out; omega)
      have hbk := hb k
      have HS : Hid (letB (xs.getD k 0) = true → fstAll letB xs (k + 1)) := fun h => fstAll_succ hall h
      have HN : Hid (letB (xs.getD k 0) = false → xs.all letB = false) := fun h => not_all_of (by have := Hn.out; omega) h
      generalize xs.getD k 0 = c at hc1 hbk HS HN
      have hlt' : (k : Int) < (n : Int) := by omega
      obtain ⟨hb1, hb2⟩ := hbk
      by_cases hc : c < 97
      · have HF : Hid (xs.all letB = false) := HN.out (by simp [letB]; omega)
        go_wp2
        go_ret
        exact ⟨ret_bool (by rw [HO.out, HF.out]), rfl⟩
      · by_cases hd : 122 < c
        · have HF : Hid (xs.all letB = false) := HN.out (by simp [letB]; omega)
          go_wp2
          go_ret
          exact ⟨ret_bool (by rw [HO.out, HF.out]), rfl⟩
        · have HF : Hid (fstAll letB xs (k + 1)) := HS.out (by simp [letB]; omega)
          go_wp2
          go_roundw
          case rel => exact ⟨k + 1, by omega, by go_num, HF.out, by first | rfl | trivial⟩
          case measure => simp [intOf]; omega
    · have HF : Hid (xs.all letB = true) := all_of_fstAll (by rw [Hn.out]; have e : k = n := by omega
                                                              rw [← e]; exact hall)
      have hlt' : ¬ (k : Int) < (n : Int) := by omega
      go_wp2
      go_ret
      exact ⟨ret_bool (by rw [HO.out, HF.out]), rfl⟩
end Go.Proofs.YtcgmfmdoconecaaDoor
/-
  bytes.Compare of two slices of bytes.
-/
namespace Go.Proofs.YtcgmfmdoconecaaDoor
open Go.RowKit
set_option linter.unusedVariables false

set_option maxHeartbeats 800000 in
set_option maxRecDepth 100000 in
theorem bytes_Compare_any (a b : Option Addr) (c1 c2 : Nat) (xs ys : List Int) (w : World) (ha : Seg w a xs) (hb : Seg w b ys) :
    Calls Tryd.prog 62 #[.slice a xs.length c1, .slice b ys.length c2] w fun e w' => e = .returned (.int .i64 (Lib.compareBytes (u8s xs) (u8s ys))) ∧ w = w' := by
  go_enter Tryd.func62, Tryd.ntmps62
  go_wp2
  rw [run_callFunc_extern Tryd.func71 (by kernel_rfl) (by kernel_rfl) (by kernel_rfl) (e := Extern.BytealgCompare.compare) (by kernel_rfl), run_compare_seg c1 c2 ha hb]
  simp only [Result.andThen]
  rw [Oper.upon_value]
  go_wp2
  go_ret
  exact ⟨rfl, rfl⟩

end Go.Proofs.YtcgmfmdoconecaaDoor
