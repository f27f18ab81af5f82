/-
  Texts that a law leans on, one behind the other; no statement is proved here.
-/
import Derived.Test.YtenfnbnhdmkhkaaPk1
import Derived.Test.YtenfnbnhdmkhkaaPk0
import Derived.Laws.IdiomStrings
import Derived.Lib.Bytealg
/-
  An append to a slice that lies on such a heap leaves such a heap. No statement is proved here.
-/
namespace Go.Proofs.Ytenfnbnhdmkhkaa
open Go.RowKit
set_option linter.unusedVariables false
set_option linter.unusedSimpArgs false

/-- Each five of these cells fulfil Q. -/
def Gps (Q : Value × Value × Value × Value × Value → Prop) (l : List Value) : Prop := ∀ (j : Nat) (c0 c1 c2 c3 c4 : Value), l[j * 5]? = some c0 → l[j * 5 + 1]? = some c1 → l[j * 5 + 2]? = some c2 → l[j * 5 + 3]? = some c3 → l[j * 5 + 4]? = some c4 → Q (c0, c1, c2, c3, c4)

theorem Gps.app {Q : Value × Value × Value × Value × Value → Prop} {xs ys : List Value} (k : Nat) (hk : xs.length = k * 5) (h1 : Gps Q xs) (h2 : Gps Q ys) : Gps Q (xs ++ ys) := by
  intro j c0 c1 c2 c3 c4 g0 g1 g2 g3 g4
  by_cases hj : j < k
  · rw [List.getElem?_append_left (by omega)] at g0 g1 g2 g3 g4
    exact h1 j _ _ _ _ _ g0 g1 g2 g3 g4
  · rw [List.getElem?_append_right (by omega)] at g0 g1 g2 g3 g4
    have e : ∀ q, j * 5 + q - xs.length = (j - k) * 5 + q := fun q => by omega
    have e0 : j * 5 - xs.length = (j - k) * 5 := by omega
    rw [e0] at g0
    rw [e] at g1 g2 g3 g4
    exact h2 (j - k) _ _ _ _ _ g0 g1 g2 g3 g4

theorem take_some {l : List Value} {n j : Nat} {c : Value} (h : (l.take n)[j]? = some c) : l[j]? = some c := by
  rw [List.getElem?_take] at h
  split at h
  · exact h
  · cases h
theorem Gps.take {Q : Value × Value × Value × Value × Value → Prop} {xs : List Value} (n : Nat) (h : Gps Q xs) : Gps Q (xs.take n) := fun j c0 c1 c2 c3 c4 g0 g1 g2 g3 g4 => h j _ _ _ _ _ (take_some g0) (take_some g1) (take_some g2) (take_some g3) (take_some g4)
theorem Gps.drop {Q : Value × Value × Value × Value × Value → Prop} {xs : List Value} (k : Nat) (h : Gps Q xs) : Gps Q (xs.drop (k * 5)) := fun j c0 c1 c2 c3 c4 g0 g1 g2 g3 g4 => by
  rw [List.getElem?_drop] at g0 g1 g2 g3 g4
  have e : ∀ q, k * 5 + (j * 5 + q) = (k + j) * 5 + q := fun q => by omega
  have e0 : k * 5 + j * 5 = (k + j) * 5 := by omega
  rw [e0] at g0
  rw [e] at g1 g2 g3 g4
  exact h (k + j) _ _ _ _ _ g0 g1 g2 g3 g4
theorem Gps.one {Q : Value × Value × Value × Value × Value → Prop} {c0 c1 c2 c3 c4 : Value} (h : Q (c0, c1, c2, c3, c4)) : Gps Q [c0, c1, c2, c3, c4] := fun j d0 d1 d2 d3 d4 g0 g1 g2 g3 g4 => by
  have hj : j = 0 := by
    have := (List.getElem?_eq_some_iff.1 g0).1
    simp at this
    omega
  subst hj
  simp at g0 g1 g2 g3 g4
  subst g0 g1 g2 g3 g4
  exact h
theorem zeroCells_at {z : Array Value} {n j : Nat} {c : Value} (h : (Builtin.zeroCells z n).toList[j]? = some c) : c = z[j % z.size]! := by
  unfold Builtin.zeroCells at h
  rw [Array.getElem?_toList] at h
  have hl := (Array.getElem?_eq_some_iff.1 h).1
  simp at hl
  simp [hl] at h
  exact h.symm
theorem Gps.zero {Q : Value × Value × Value × Value × Value → Prop} (n : Nat) (h : Q (.int .i64 0, .int .i64 0, .slice none 0 0, .slice none 0 0, .slice none 0 0)) : Gps Q (Builtin.zeroCells (Value.cells (.agg #[.int .i64 0, .int .i64 0, .slice none 0 0, .slice none 0 0, .slice none 0 0])) n).toList := fun j d0 d1 d2 d3 d4 g0 g1 g2 g3 g4 => by
  have e : (Value.cells (.agg #[.int .i64 0, .int .i64 0, .slice none 0 0, .slice none 0 0, .slice none 0 0])) = #[.int .i64 0, .int .i64 0, .slice none 0 0, .slice none 0 0, .slice none 0 0] := by rfl
  rw [e] at g0 g1 g2 g3 g4
  have a0 := zeroCells_at g0
  have a1 := zeroCells_at g1
  have a2 := zeroCells_at g2
  have a3 := zeroCells_at g3
  have a4 := zeroCells_at g4
  have m0 : j * 5 % 5 = 0 := by omega
  have m1 : (j * 5 + 1) % 5 = 1 := by omega
  have m2 : (j * 5 + 2) % 5 = 2 := by omega
  have m3 : (j * 5 + 3) % 5 = 3 := by omega
  have m4 : (j * 5 + 4) % 5 = 4 := by omega
  simp only [List.size_toArray, List.length_cons, List.length_nil] at a0 a1 a2 a3 a4
  simp only [Nat.zero_add, Nat.reduceAdd, m0, m1, m2, m3, m4] at a0 a1 a2 a3 a4
  simp at a0 a1 a2 a3 a4
  subst a0 a1 a2 a3 a4
  exact h

theorem sli_nil (B M : Nat) (T : TypeId) (s : Nat) (p : Nat → Prop) (w : World) : Sli B M T s p w (.slice none 0 0) := ⟨none, 0, 0, rfl, Nat.zero_le _, Nat.le_refl _, Nat.zero_le _, .inl ⟨rfl, rfl⟩⟩
theorem grp_leaf (B M : Nat) (rk : Nat → Nat) (r : Nat) (w : World) (k n : Int) : Grp B M rk r w (.int .i64 k, .int .i64 n, .slice none 0 0, .slice none 0 0, .slice none 0 0) :=
  ⟨⟨k, rfl⟩, ⟨n, rfl⟩, sli_nil _ _ _ _ _ _, sli_nil _ _ _ _ _ _, sli_nil _ _ _ _ _ _⟩

theorem Sli.one {B M s : Nat} {T : TypeId} {p : Nat → Prop} {w : World} {v : Value} (h : Sli B M T s p w v) : v.oneCell' = true := by
  obtain ⟨a, n, cap, rfl, _⟩ := h
  rfl
theorem Grp.one {B M : Nat} {rk : Nat → Nat} {r : Nat} {w : World} {c0 c1 c2 c3 c4 : Value} (h : Grp B M rk r w (c0, c1, c2, c3, c4)) : ∀ u ∈ [c0, c1, c2, c3, c4], u.oneCell' = true := by
  obtain ⟨⟨x0, h0⟩, ⟨x1, h1⟩, h2, h3, h4⟩ := h
  simp only at h0 h1 h2 h3 h4
  intro u hu
  simp at hu
  rcases hu with rfl | rfl | rfl | rfl | rfl
  · rw [h0]; rfl
  · rw [h1]; rfl
  · exact h2.one
  · exact h3.one
  · exact h4.one

theorem own_slice {a : Option Addr} {n c g : Nat} (h : a = some ⟨g, 0, none⟩) : (Value.slice a n c).ownBlock = some g := by rw [h]; rfl

/-- A row is written anew in its place. -/
theorem Hw.setRow {B M : Nat} {rk : Nat → Nat} {w : World} {g : Nat} {cur new : Array Value} {T : TypeId} {fr : Nat × Nat} (h : Hw B M rk w) (hB : B ≤ g) (hg : w.heap[g]? = some (.cells cur T fr)) (hs : new.size = cur.size) (hn : Okc B M rk (w.setRow g new) g new T fr) : Hw B M rk (w.setRow g new) := by
  refine h.step (Shp.setRow hg hs) (Rks.refl _ _) fun b hb hbz => ?_
  by_cases he : b = g
  · subst he
    refine .inr fun c T' fr' hh => ?_
    rw [setRow_heap w b cur new T fr hg] at hh
    simp only [Option.some.injEq, Obj.cells.injEq] at hh
    obtain ⟨rfl, rfl, rfl⟩ := hh
    exact hn
  · exact .inl ⟨by simpa using hbz, setRow_other w g b new he⟩

theorem grownBy_setRow (w : World) (g : Nat) (new : Array Value) : w.grownBy (w.setRow g new) (some g) := ⟨rfl, rfl, rfl, by simp, fun k _ hk => setRow_other w g k _ (fun e => hk (by simp [e]))⟩
theorem grownBy_drewAlloc (w : World) (o : Obj) (row : Option Nat) : w.grownBy (w.drew.alloc o) row := ⟨rfl, rfl, rfl, by simp, fun k hk _ => Below.heap_alloc w.drew o k hk⟩

/-- 'append(l, x)' of a value. -/
theorem run_append_hv (w : World) (ty : TypeId) (B2 B M : Nat) (rk : Nat → Nat) (r R : Nat) (a : Option Addr) (n cap : Nat) (hv : Sli B2 M 26 5 (fun g => r ≤ rk g ∧ rk g < R) w (.slice a n cap)) (hH : Hw B M rk w) (hB2 : B ≤ B2) (hBw : B2 ≤ w.heap.size) (hn : n ≤ 1000000)
    (c0 c1 c2 c3 c4 : Value) (hc : Grp B M rk r w (c0, c1, c2, c3, c4)) (hrR : r < R) (ad : Addr) (c : Nat) (hnews : ∀ (j : Nat) (u : Value), [c0, c1, c2, c3, c4][j]? = some u → w.cell? (ad.add j) = some u) :
    ∃ (g' cap' : Nat) (w' : World) (rk' : Nat → Nat), (Builtin.append_ #[24, 24] ty #[.slice a n cap, .slice (some ad) 1 c]).run Try.prog w = .ok (.slice (some ⟨g', 0, none⟩) (n + 1) cap') w' ∧ Hw B M rk' w' ∧ Rks rk rk' w.heap.size ∧
      (∀ M', n + 1 ≤ M' → Sli B2 M' 26 5 (fun g => r ≤ rk' g ∧ rk' g < R) w' (.slice (some ⟨g', 0, none⟩) (n + 1) cap')) ∧ Shp w w' ∧ w.grownBy w' (Value.slice a n cap).ownBlock := by
  obtain ⟨i, hi, hz0, hz1, hz2⟩ := info_parts info_valueT
  have hfr : ∀ (g : Nat) (cur : Array Value) (fr : Nat × Nat), B ≤ g → w.heap[g]? = some (.cells cur 26 fr) → fr.2 = 0 ∨ cur.size ≤ fr.1 := fun g cur fr hB hg => .inl (by rw [((hH g hB cur _ fr hg).2.2 rfl).1])
  obtain ⟨g', cap', w', hrun, k1, k2, hcase⟩ := run_append_sl w 24 ty 26 i _ 5 88 Try.underlying24 hi hz0 hz1 hz2 (by omega) (by rfl) B2 M _ a n cap hv (fun g cur fr hB hg => hfr g cur fr (by omega) hg) hn ad 1 c [c0, c1, c2, c3, c4] rfl hnews hc.one (by omega) (by omega)
  rcases hcase with ⟨cur, fr, rfl, hB, hp, rfl, hg, hcz, hfit, rfl⟩ | ⟨rfl, old, hol, hold, rfl⟩
  · obtain rfl : fr = (0, 0) := ((hH g' (by omega) cur _ fr hg).2.2 rfl).1
    have hQ : Gps (Grp B M rk (rk g') w) cur.toList := fun j d0 d1 d2 d3 d4 e0 e1 e2 e3 e4 => ((hH g' (by omega) cur _ _ hg).2.2 rfl).2 j d0 d1 d2 d3 d4 (by rwa [Array.getElem?_toList] at e0) (by rwa [Array.getElem?_toList] at e1) (by rwa [Array.getElem?_toList] at e2) (by rwa [Array.getElem?_toList] at e3) (by rwa [Array.getElem?_toList] at e4)
    have hsz : (cur.toList.take (n * 5) ++ [c0, c1, c2, c3, c4] ++ cur.toList.drop (n * 5 + 1 * 5)).toArray.size = cur.size := by
      simp only [List.size_toArray, List.length_append, List.length_take, List.length_drop, Array.length_toList, List.length_cons, List.length_nil]
      omega
    have hS := Shp.setRow (new := (cur.toList.take (n * 5) ++ [c0, c1, c2, c3, c4] ++ cur.toList.drop (n * 5 + 1 * 5)).toArray) hg hsz
    refine ⟨g', cap', _, rk, hrun, hH.setRow (by omega) hg hsz ⟨fun h => absurd h (by decide), fun h => absurd h (by decide), fun _ => ⟨rfl, fun j d0 d1 d2 d3 d4 e0 e1 e2 e3 e4 => ?_⟩⟩, Rks.refl _ _, fun M' hM' => ⟨_, _, _, rfl, hM', k1, k2, .inr ⟨g', _, (0, 0), rfl, hB, hp, setRow_heap w g' cur _ _ _ hg, hsz.trans hcz⟩⟩, hS, ?_⟩
    · have hA : Gps (Grp B M rk (rk g') w) (cur.toList.take (n * 5) ++ [c0, c1, c2, c3, c4] ++ cur.toList.drop (n * 5 + 1 * 5)) := by
        refine Gps.app (n + 1) (by simp only [List.length_append, List.length_take, Array.length_toList, List.length_cons, List.length_nil]; omega) (Gps.app n (by simp only [List.length_take, Array.length_toList]; omega) (hQ.take _) (Gps.one (hc.shp (Shp.refl _) (Rks.refl _ _) hp.1))) ?_
        have e : n * 5 + 1 * 5 = (n + 1) * 5 := by omega
        rw [e]
        exact hQ.drop _
      simp only [List.getElem?_toArray] at e0 e1 e2 e3 e4
      exact (hA j _ _ _ _ _ e0 e1 e2 e3 e4).shp hS (Rks.refl _ _) (Nat.le_refl _)
    · exact grownBy_setRow _ _ _
  · have hQ : ∃ ρ, r ≤ ρ ∧ ρ < R ∧ Gps (Grp B M rk ρ w) old := by
      rcases hold with ⟨_, rfl⟩ | ⟨g, cur, fr, _, hB, hp, hg, rfl⟩
      · exact ⟨r, Nat.le_refl _, hrR, fun j d0 d1 d2 d3 d4 e0 => by simp at e0⟩
      · refine ⟨rk g, hp.1, hp.2, Gps.take _ fun j d0 d1 d2 d3 d4 e0 e1 e2 e3 e4 => ((hH g (by omega) cur _ _ hg).2.2 rfl).2 j d0 d1 d2 d3 d4 (by rwa [Array.getElem?_toList] at e0) (by rwa [Array.getElem?_toList] at e1) (by rwa [Array.getElem?_toList] at e2) (by rwa [Array.getElem?_toList] at e3) (by rwa [Array.getElem?_toList] at e4)⟩
    obtain ⟨ρ, hρ1, hρ2, hQ⟩ := hQ
    have hA : Gps (Grp B M rk ρ w) (old ++ [c0, c1, c2, c3, c4] ++ (Builtin.zeroCells (Value.cells (.agg #[.int .i64 0, .int .i64 0, .slice none 0 0, .slice none 0 0, .slice none 0 0])) (cap' - (n + 1))).toList) :=
      Gps.app (n + 1) (by simp only [List.length_append, List.length_cons, List.length_nil]; omega) (Gps.app n hol hQ (Gps.one (hc.shp (Shp.refl _) (Rks.refl _ _) hρ1))) (Gps.zero _ (grp_leaf _ _ _ _ _ _ _))
    have hS : Shp w.drew (w.drew.alloc (.cells (old.toArray ++ #[c0, c1, c2, c3, c4] ++ Builtin.zeroCells (Value.cells (.agg #[.int .i64 0, .int .i64 0, .slice none 0 0, .slice none 0 0, .slice none 0 0])) (cap' - (n + 1))) 26)) := Shp.alloc _ _
    have hK : Rks rk (rkUp rk w.heap.size ρ) w.heap.size := rkUp_old _ _ _
    refine ⟨w.heap.size, cap', _, rkUp rk w.heap.size ρ, hrun, Hw.alloc (w := w.drew) hH _ hK fun cur T fr e => ?_, hK, fun M' hM' => ⟨_, _, _, rfl, hM', k1, k2, .inr ⟨w.heap.size, _, (0, 0), rfl, hBw, ⟨by rw [rkUp_at]; exact hρ1, by rw [rkUp_at]; exact hρ2⟩, heap_alloc_new w.drew _, ?_⟩⟩, hS, grownBy_drewAlloc _ _ _⟩
    · simp only [Obj.cells.injEq] at e
      obtain ⟨rfl, rfl, rfl⟩ := e
      refine ⟨fun h => absurd h (by decide), fun h => absurd h (by decide), fun _ => ⟨rfl, fun j d0 d1 d2 d3 d4 e0 e1 e2 e3 e4 => ?_⟩⟩
      have el : (old.toArray ++ [c0, c1, c2, c3, c4].toArray ++ Builtin.zeroCells (Value.cells (.agg #[.int .i64 0, .int .i64 0, .slice none 0 0, .slice none 0 0, .slice none 0 0])) (cap' - (n + 1))).toList = old ++ [c0, c1, c2, c3, c4] ++ (Builtin.zeroCells (Value.cells (.agg #[.int .i64 0, .int .i64 0, .slice none 0 0, .slice none 0 0, .slice none 0 0])) (cap' - (n + 1))).toList := by simp
      have hA2 := hA j d0 d1 d2 d3 d4
      rw [← el] at hA2
      simp only [Array.getElem?_toList] at hA2
      exact (hA2 e0 e1 e2 e3 e4).shp hS hK (by rw [show (w.drew).heap.size = w.heap.size from rfl, rkUp_at]; exact Nat.le_refl _)
    · simp only [Array.size_append, List.size_toArray, size_zeroCells, hol]
      simp [Value.cells]
      omega

/-- 'append(l, x)' of a text. -/
theorem run_append_hk (w : World) (ty : TypeId) (B2 B M : Nat) (rk : Nat → Nat) (a : Option Addr) (n cap : Nat) (hv : Sli B2 M 22 1 (fun _ => True) w (.slice a n cap)) (hH : Hw B M rk w) (hB2 : B ≤ B2) (hBw : B2 ≤ w.heap.size) (hn : n ≤ 1000000)
    (c0 : Value) (hc : Sli B M 5 1 (fun _ => True) w c0) (ad : Addr) (c : Nat) (hnews : ∀ (j : Nat) (u : Value), [c0][j]? = some u → w.cell? (ad.add j) = some u) :
    ∃ (g' cap' : Nat) (w' : World), (Builtin.append_ #[23, 23] ty #[.slice a n cap, .slice (some ad) 1 c]).run Try.prog w = .ok (.slice (some ⟨g', 0, none⟩) (n + 1) cap') w' ∧ Hw B M rk w' ∧
      (∀ M', n + 1 ≤ M' → Sli B2 M' 22 1 (fun _ => True) w' (.slice (some ⟨g', 0, none⟩) (n + 1) cap')) ∧ Shp w w' ∧ w.grownBy w' (Value.slice a n cap).ownBlock := by
  obtain ⟨i, hi, hz0, hz1, hz2⟩ := info_parts infoT
  have hfr : ∀ (g : Nat) (cur : Array Value) (fr : Nat × Nat), B ≤ g → w.heap[g]? = some (.cells cur 22 fr) → fr.2 = 0 ∨ cur.size ≤ fr.1 := fun g cur fr hB hg => .inl (by rw [((hH g hB cur _ fr hg).2.1 rfl).1])
  obtain ⟨g', cap', w', hrun, k1, k2, hcase⟩ := run_append_sl w 23 ty 22 i _ 1 24 Try.underlying23 hi hz0 hz1 hz2 (by omega) (by rfl) B2 M _ a n cap hv (fun g cur fr hB hg => hfr g cur fr (by omega) hg) hn ad 1 c [c0] rfl hnews (fun u hu => by simp at hu; subst hu; exact hc.one) (by omega) (by omega)
  rcases hcase with ⟨cur, fr, rfl, hB, hp, rfl, hg, hcz, hfit, rfl⟩ | ⟨rfl, old, hol, hold, rfl⟩
  · obtain rfl : fr = (0, 0) := ((hH g' (by omega) cur _ fr hg).2.1 rfl).1
    have hQ := ((hH g' (by omega) cur _ _ hg).2.1 rfl).2
    have hsz : (cur.toList.take (n * 1) ++ [c0] ++ cur.toList.drop (n * 1 + 1 * 1)).toArray.size = cur.size := by
      simp only [List.size_toArray, List.length_append, List.length_take, List.length_drop, Array.length_toList, List.length_cons, List.length_nil]
      omega
    have hS := Shp.setRow (new := (cur.toList.take (n * 1) ++ [c0] ++ cur.toList.drop (n * 1 + 1 * 1)).toArray) hg hsz
    refine ⟨g', cap', _, hrun, hH.setRow (by omega) hg hsz ⟨fun h => absurd h (by decide), fun _ => ⟨rfl, fun j d e => ?_⟩, fun h => absurd h (by decide)⟩, fun M' hM' => ⟨_, _, _, rfl, hM', k1, k2, .inr ⟨g', _, (0, 0), rfl, hB, trivial, setRow_heap w g' cur _ _ _ hg, hsz.trans hcz⟩⟩, hS, grownBy_setRow _ _ _⟩
    simp only [List.getElem?_toArray] at e
    have hm := List.mem_of_getElem? e
    rcases List.mem_append.1 hm with hm | hm
    · rcases List.mem_append.1 hm with hm | hm
      · obtain ⟨q, hq⟩ := List.getElem?_of_mem (List.mem_of_mem_take hm)
        exact (hQ q d (by rwa [Array.getElem?_toList] at hq)).shp row3_b hS fun _ _ h => h
      · simp at hm
        subst hm
        exact hc.shp row3_b hS fun _ _ h => h
    · obtain ⟨q, hq⟩ := List.getElem?_of_mem (List.mem_of_mem_drop hm)
      exact (hQ q d (by rwa [Array.getElem?_toList] at hq)).shp row3_b hS fun _ _ h => h
  · have hQ : ∀ u ∈ old, Sli B M 5 1 (fun _ => True) w u := by
      intro u hu
      rcases hold with ⟨_, rfl⟩ | ⟨g, cur, fr, _, hB, hp, hg, rfl⟩
      · simp at hu
      · obtain ⟨q, hq⟩ := List.getElem?_of_mem (List.mem_of_mem_take hu)
        exact ((hH g (by omega) cur _ _ hg).2.1 rfl).2 q u (by rwa [Array.getElem?_toList] at hq)
    have hS : Shp w.drew (w.drew.alloc (.cells (old.toArray ++ [c0].toArray ++ Builtin.zeroCells (Value.cells (.slice none 0 0)) (cap' - (n + 1))) 22)) := Shp.alloc _ _
    refine ⟨w.heap.size, cap', _, hrun, Hw.alloc (w := w.drew) hH _ (Rks.refl _ _) fun cur T fr e => ?_, fun M' hM' => ⟨_, _, _, rfl, hM', k1, k2, .inr ⟨w.heap.size, _, (0, 0), rfl, hBw, trivial, heap_alloc_new w.drew _, ?_⟩⟩, hS, grownBy_drewAlloc _ _ _⟩
    · simp only [Obj.cells.injEq] at e
      obtain ⟨rfl, rfl, rfl⟩ := e
      refine ⟨fun h => absurd h (by decide), fun _ => ⟨rfl, fun j d e => ?_⟩, fun h => absurd h (by decide)⟩
      rw [← Array.getElem?_toList] at e
      have e' : (old ++ [c0] ++ (Builtin.zeroCells (Value.cells (.slice none 0 0)) (cap' - (n + 1))).toList)[j]? = some d := by simpa using e
      have hm := List.mem_of_getElem? e'
      rcases List.mem_append.1 hm with hm | hm
      · rcases List.mem_append.1 hm with hm | hm
        · exact Sli.shp (w := w) (hQ d hm) row3_b hS fun _ _ h => h
        · simp at hm
          subst hm
          exact Sli.shp (w := w) hc row3_b hS fun _ _ h => h
      · obtain ⟨q, hq⟩ := List.getElem?_of_mem hm
        have := zeroCells_at hq
        have ez : (Value.cells (.slice none 0 0)) = #[.slice none 0 0] := by rfl
        rw [ez] at this
        simp [Nat.mod_one] at this
        subst this
        exact sli_nil _ _ _ _ _ _
    · simp only [Array.size_append, List.size_toArray, size_zeroCells, hol]
      simp [Value.cells]
      omega
end Go.Proofs.Ytenfnbnhdmkhkaa
/-
  The draws' cursor: what is drawn of a code is within its bounds, and nothing but the cursor's own block turns.
-/
namespace Go.Proofs.Ytenfnbnhdmkhkaa
open Go.RowKit
set_option linter.unusedVariables false

theorem and_bound (x y : Int) (m : Nat) (hm : m < 4294967296) (hy : y = m) : 0 ≤ bits .and .i64 x y ∧ bits .and .i64 x y ≤ m := by
  subst hy
  have h1 : (BitVec.ofInt 64 x &&& BitVec.ofInt 64 (m : Int)).toNat ≤ m := by
    rw [BitVec.toNat_and]
    refine Nat.le_trans Nat.and_le_right ?_
    simp
    omega
  show 0 ≤ IntKind.i64.wrap ((BitVec.ofInt 64 x &&& BitVec.ofInt 64 (m : Int)).toNat : Int) ∧ IntKind.i64.wrap ((BitVec.ofInt 64 x &&& BitVec.ofInt 64 (m : Int)).toNat : Int) ≤ (m : Int)
  generalize (BitVec.ofInt 64 x &&& BitVec.ofInt 64 (m : Int)).toNat = q at h1
  simp only [IntKind.wrap, IntKind.bits, IntKind.signed]
  simp
  omega

/-- The cursor in block g over the code at a. -/
def Cur (w : World) (g : Nat) (a : Option Addr) (n cap : Nat) : Prop :=
  ∃ (i : Nat) (h : Int), w.heap[g]? = some (.cells #[.slice a n cap, .int .i64 i, .int .i64 h] 67 (0, 0)) ∧ i ≤ n

theorem Cur.lt {w : World} {g : Nat} {a : Option Addr} {n cap : Nat} (h : Cur w g a n cap) : g < w.heap.size := by
  obtain ⟨i, h, hh, _⟩ := h
  exact (Array.getElem?_eq_some_iff.1 hh).1

theorem Cur.grow {w w' : World} {g : Nat} {a : Option Addr} {n cap : Nat} (h : Cur w g a n cap) (hb : Below w.heap.size w w') : Cur w' g a n cap := by
  have hl := h.lt
  obtain ⟨i, h, hh, hi⟩ := h
  exact ⟨i, h, (hb.block g hl).trans hh, hi⟩

theorem Cur.away {w w' : World} {g : Nat} {a : Option Addr} {n cap : Nat} {row : Option Nat} (h : Cur w g a n cap) (hg : w.grownBy w' row) (hne : row ≠ some g) : Cur w' g a n cap := by
  have hl := h.lt
  obtain ⟨i, h, hh, hi⟩ := h
  exact ⟨i, h, (hg.block g hl (fun e => hne e.symm)).trans hh, hi⟩

set_option maxHeartbeats 800000 in
theorem l1New_any (a : Option Addr) (cap : Nat) (xs : List Int) (w : World) (ha : Seg w a xs) (hl : xs.length ≤ maxLen) :
    Calls Try.prog 22 #[.slice a xs.length cap] w fun e w' => e = .returned (.pointer (some ⟨w.heap.size, 0, none⟩)) ∧ Cur w' w.heap.size a xs.length cap ∧ Below w.heap.size w w' := by
  unfold maxLen at hl
  generalize hn : xs.length = n at *
  have Hn : Hid (xs.length = n) := hn
  clear hn
  go_enter Try.func22, Try.ntmps22
  go_wp2
  go_loopw [3, 4] (fun h i wr => ∃ (k : Nat) (hv : Int), k ≤ n ∧ k ≤ 4000 ∧ i = .int .i64 k ∧ h = .int .i64 hv ∧ wr = w) (fun _ i _ => n - (intOf i).toNat)
  case atStart => exact ⟨0, _, Nat.zero_le _, Nat.zero_le _, rfl, rfl, rfl⟩
  case round =>
    obtain ⟨k, hv, hk, hk4, rfl, rfl, rfl⟩ := hrel
    by_cases hlt : k < n ∧ k < 4000
    · obtain ⟨hlt1, hlt2⟩ := hlt
      have hlt1' : (k : Int) < (n : Int) := by omega
      have hlt2' : (k : Int) < 4000 := by omega
      obtain ⟨b, off, rfl, hc⟩ := ha.at (k := k) (by have := Hn.out; omega)
      generalize xs.getD k 0 = c at hc
      go_wp2
      go_roundw
      case rel => exact ⟨k + 1, _, by omega, by omega, by go_num, by first | exact ⟨rfl, rfl⟩ | exact ⟨rfl, trivial⟩⟩
      case measure => simp [intOf]; omega
    · by_cases h1 : (k : Int) < (n : Int)
      · have h2 : ¬ (k : Int) < 4000 := by omega
        clear hlt
        go_wp2
        go_ret
        exact ⟨rfl, ⟨0, hv, heap_alloc_new _ _, Nat.zero_le _⟩, (Below.refl _ _).alloc (Nat.le_refl _) _⟩
      · clear hlt
        go_wp2
        go_ret
        exact ⟨rfl, ⟨0, hv, heap_alloc_new _ _, Nat.zero_le _⟩, (Below.refl _ _).alloc (Nat.le_refl _) _⟩

theorem grownBy_set (w : World) (g j : Nat) (v : Value) : w.grownBy (w.setCell ⟨g, j, none⟩ v) (some g) :=
  ⟨rfl, rfl, rfl, by simp [World.setCell], fun k _ hk => Below.heap_setCell w ⟨g, j, none⟩ v k (fun e => hk (by simp [e]))⟩
theorem grownBy_drewN {w w1 : World} {row : Option Nat} (h : w.grownBy w1 row) (n : Nat) : w.grownBy (w1.drewN n) row := ⟨h.os, h.tape, h.output, h.size, h.block⟩

theorem cur_one {w : World} {g : Nat} {a : Option Addr} {n cap i : Nat} {h : Int} (hh : w.heap[g]? = some (.cells #[.slice a n cap, .int .i64 i, .int .i64 h] 67 (0, 0))) (h' : Int) (m1 m2 : Nat) (hi : i ≤ n) :
    Cur (((w.setCell ⟨g, 2, none⟩ (.int .i64 h')).drewN m1).drewN m2) g a n cap ∧ w.grownBy (((w.setCell ⟨g, 2, none⟩ (.int .i64 h')).drewN m1).drewN m2) (some g) := by
  refine ⟨⟨i, h', ?_, hi⟩, grownBy_drewN (grownBy_drewN (grownBy_set w g 2 _) _) _⟩
  exact heap_setCell_same w g 2 _ 67 _ hh

theorem cur_two {w : World} {g : Nat} {a : Option Addr} {n cap i : Nat} {h : Int} (hh : w.heap[g]? = some (.cells #[.slice a n cap, .int .i64 i, .int .i64 h] 67 (0, 0))) (h' : Int) (m : Nat) (hi : i < n) :
    Cur (((w.setCell ⟨g, 2, none⟩ (.int .i64 h')).drewN m).setCell ⟨g, 1, none⟩ (.int .i64 ((i : Int) + 1))) g a n cap ∧ w.grownBy (((w.setCell ⟨g, 2, none⟩ (.int .i64 h')).drewN m).setCell ⟨g, 1, none⟩ (.int .i64 ((i : Int) + 1))) (some g) := by
  refine ⟨⟨i + 1, h', ?_, hi⟩, grownBy_trans (grownBy_drewN (grownBy_set w g 2 _) _) (grownBy_set _ g 1 _)⟩
  have h1 : ((w.setCell ⟨g, 2, none⟩ (.int .i64 h')).drewN m).heap[g]? = some (.cells #[.slice a n cap, .int .i64 i, .int .i64 h'] 67 (0, 0)) := heap_setCell_same w g 2 _ 67 _ hh
  exact heap_setCell_same _ g 1 _ 67 _ h1

set_option maxHeartbeats 1600000 in
theorem l1Byte_any (g : Nat) (a : Option Addr) (cap : Nat) (xs : List Int) (w : World) (ha : Seg w a xs) (hl : xs.length ≤ maxLen) (hC : Cur w g a xs.length cap) (hne : ∀ x, a = some x → xs ≠ [] → x.block ≠ g) :
    Calls Try.prog 53 #[.pointer (some ⟨g, 0, none⟩)] w fun e w' => ∃ x : Int, e = .returned (.int .i64 x) ∧ 0 ≤ x ∧ x ≤ 255 ∧ Cur w' g a xs.length cap ∧ w.grownBy w' (some g) := by
  unfold maxLen at hl
  obtain ⟨i, h, hh, hi⟩ := hC
  have c0 : w.cell? ⟨g, 0, none⟩ = some (.slice a xs.length cap) := by rw [cell_of_row w g 0 _ 67 (0, 0) hh]; rfl
  have c1 : w.cell? ⟨g, 1, none⟩ = some (.int .i64 i) := by rw [cell_of_row w g 1 _ 67 (0, 0) hh]; rfl
  have c2 : w.cell? ⟨g, 2, none⟩ = some (.int .i64 h) := by rw [cell_of_row w g 2 _ 67 (0, 0) hh]; rfl
  have f1 : w.frozen? ⟨g, 1, none⟩ = false := frozen_of_row w g 1 _ 67 hh
  have f2 : w.frozen? ⟨g, 2, none⟩ = false := frozen_of_row w g 2 _ 67 hh
  generalize hn : xs.length = n at *
  have Hn : Hid (xs.length = n) := hn
  have Hh : Hid (w.heap[g]? = some (.cells #[.slice a n cap, .int .i64 i, .int .i64 h] 67 (0, 0))) := hh
  clear hn hh
  by_cases hlt : i < n
  · have hlt' : (i : Int) < (n : Int) := by omega
    obtain ⟨b, off, rfl, hc⟩ := ha.at (k := i) (by have := Hn.out; omega)
    have hbg : b ≠ g := hne _ rfl (by intro e; have := Hn.out; rw [e] at this; simp at this; omega)
    generalize xs.getD i 0 = c at hc
    have hcs : ∀ v, (w.setCell ⟨g, 2, none⟩ v).cell? ⟨b, off + i, none⟩ = some (.int .u8 c) := fun v => (World.cell?_of_block (Below.heap_setCell w ⟨g, 2, none⟩ v b hbg)).trans hc
    go_enter Try.func53, Try.ntmps53
    go_wp2
    go_quiet (fail)
    go_wp2
    go_quiet (fail)
    go_wp2
    go_quiet (fail)
    go_wp2
    go_ret
    exact ⟨_, rfl, (and_bound _ _ 255 (by omega) rfl).1, (and_bound _ _ 255 (by omega) rfl).2, cur_two Hh.out _ _ hlt⟩
  · have hlt' : ¬ (i : Int) < (n : Int) := by omega
    go_enter Try.func53, Try.ntmps53
    go_wp2
    go_quiet (fail)
    go_wp2
    go_quiet (fail)
    go_wp2
    go_ret
    exact ⟨_, rfl, (and_bound _ _ 255 (by omega) rfl).1, (and_bound _ _ 255 (by omega) rfl).2, cur_one Hh.out _ _ _ hi⟩

/-- The cursor stands, and the code can be read. -/
def Drw (w : World) (g : Nat) (a : Option Addr) (cap : Nat) (xs : List Int) : Prop :=
  Seg w a xs ∧ xs.length ≤ maxLen ∧ Cur w g a xs.length cap ∧ ∀ x, a = some x → xs ≠ [] → x.block ≠ g

theorem Drw.grow {w w' : World} {g : Nat} {a : Option Addr} {cap : Nat} {xs : List Int} (h : Drw w g a cap xs) (hb : Below w.heap.size w w') : Drw w' g a cap xs :=
  ⟨h.1.grow hb, h.2.1, h.2.2.1.grow hb, h.2.2.2⟩

/-- Other blocks were written, or made: the cursor stands. -/
theorem Drw.away {w w' : World} {g : Nat} {a : Option Addr} {cap : Nat} {xs : List Int} {row : Option Nat} (h : Drw w g a cap xs) (hg : w.grownBy w' row) (h1 : row ≠ some g) (h2 : ∀ x, a = some x → xs ≠ [] → row ≠ some x.block) : Drw w' g a cap xs :=
  ⟨h.1.away hg h2, h.2.1, h.2.2.1.away hg h1, h.2.2.2⟩

theorem Drw.lt {w : World} {g : Nat} {a : Option Addr} {cap : Nat} {xs : List Int} (h : Drw w g a cap xs) : g < w.heap.size := h.2.2.1.lt

theorem l1New_drw (a : Option Addr) (cap : Nat) (xs : List Int) (w : World) (ha : Seg w a xs) (hl : xs.length ≤ maxLen) :
    Calls Try.prog 22 #[.slice a xs.length cap] w fun e w' => e = .returned (.pointer (some ⟨w.heap.size, 0, none⟩)) ∧ Drw w' w.heap.size a cap xs ∧ Below w.heap.size w w' := by
  refine (l1New_any a cap xs w ha hl).mono ?_
  rintro e w1 ⟨rfl, hc, b1⟩
  exact ⟨rfl, ⟨ha.grow b1, hl, hc, fun x hx he => by have := ha.lt x hx he; omega⟩, b1⟩

theorem l1Byte_drw (g : Nat) (a : Option Addr) (cap : Nat) (xs : List Int) (w : World) (h : Drw w g a cap xs) :
    Calls Try.prog 53 #[.pointer (some ⟨g, 0, none⟩)] w fun e w' => ∃ x : Int, e = .returned (.int .i64 x) ∧ 0 ≤ x ∧ x ≤ 255 ∧ Drw w' g a cap xs ∧ w.grownBy w' (some g) := by
  refine (l1Byte_any g a cap xs w h.1 h.2.1 h.2.2.1 h.2.2.2).mono ?_
  rintro e w1 ⟨x, rfl, h0, h1, hc, hg⟩
  exact ⟨x, rfl, h0, h1, ⟨h.1.away hg (fun y hy he e => h.2.2.2 y hy he (by simpa using e.symm)), h.2.1, hc, h.2.2.2⟩, hg⟩

set_option maxHeartbeats 1600000 in
theorem l1Below_drw (g : Nat) (a : Option Addr) (cap : Nat) (xs : List Int) (n : Int) (w : World) (h : Drw w g a cap xs) (hn : n ≤ 9223372036854775807) :
    Calls Try.prog 38 #[.pointer (some ⟨g, 0, none⟩), .int .i64 n] w fun e w' => ∃ x : Int, e = .returned (.int .i64 x) ∧ 0 ≤ x ∧ (0 < n → x < n) ∧ (n ≤ 0 → x = 0) ∧ Drw w' g a cap xs ∧ w.grownBy w' (some g) := by
  by_cases h0 : n ≤ 0
  · go_enter Try.func38, Try.ntmps38
    go_wp2
    go_ret
    exact ⟨0, rfl, by omega, by omega, fun _ => rfl, h, World.grownBy.refl _ _⟩
  · have hp : 0 < n := by omega
    by_cases h1 : n ≤ 256
    · go_enter Try.func38, Try.ntmps38
      go_wp2_with fail
      refine (l1Byte_drw g a cap xs _ h).mono ?_
      rintro e w1 ⟨x, rfl, hx0, hx1, hd, hg⟩
      go_wp2
      go_ret
      exact ⟨_, rfl, Int.emod_nonneg _ (by omega), fun _ => Int.emod_lt_of_pos _ hp, by omega, hd, hg⟩
    · go_enter Try.func38, Try.ntmps38
      go_wp2_with fail
      refine (l1Byte_drw g a cap xs _ h).mono ?_
      rintro e w1 ⟨x1, rfl, hx0, hx1, hd1, hg1⟩
      go_wp2_with fail
      refine (l1Byte_drw g a cap xs _ hd1).mono ?_
      rintro e w2 ⟨x2, rfl, hy0, hy1, hd2, hg2⟩
      go_wp2_with fail
      refine (l1Byte_drw g a cap xs _ hd2).mono ?_
      rintro e w3 ⟨x3, rfl, hz0, hz1, hd3, hg3⟩
      go_wp2_with fail
      refine (l1Byte_drw g a cap xs _ hd3).mono ?_
      rintro e w4 ⟨x4, rfl, ht0, ht1, hd4, hg4⟩
      have G := grownBy_trans (grownBy_trans (grownBy_trans hg1 hg2) hg3) hg4
      clear hg1 hg2 hg3 hg4 hd1 hd2 hd3
      go_wp2
      go_ret
      exact ⟨_, rfl, Int.emod_nonneg _ (by omega), fun _ => Int.emod_lt_of_pos _ hp, by omega, hd4, G⟩
end Go.Proofs.Ytenfnbnhdmkhkaa
/-
  string(b) of a slice of bytes; the order of two such.
-/
namespace Go.Proofs.Ytenfnbnhdmkhkaa
open Go.RowKit
set_option linter.unusedVariables false

/-- The bytes as a string. -/
def strOf (xs : List Int) : ByteArray := ⟨(xs.map fun n => UInt8.ofNat n.toNat).toArray⟩

theorem map_byt_inj {xs ys : List Int} (hx : ∀ x ∈ xs, Byt x) (hy : ∀ y ∈ ys, Byt y) (h : (xs.map fun n => UInt8.ofNat n.toNat) = ys.map fun n => UInt8.ofNat n.toNat) : xs = ys := by
  induction xs generalizing ys with
  | nil => simpa using h.symm
  | cons x xs ih =>
    cases ys with
    | nil => simp at h
    | cons y ys =>
      simp only [List.map_cons, List.cons.injEq] at h
      have h1 : x = y := by
        have hx0 := hx x (by simp)
        have hy0 := hy y (by simp)
        unfold Byt at hx0 hy0
        have := congrArg UInt8.toNat h.1
        simp at this
        omega
      rw [h1, ih (fun z hz => hx z (by simp [hz])) (fun z hz => hy z (by simp [hz])) h.2]

theorem strOf_eq {xs ys : List Int} (hx : ∀ x ∈ xs, Byt x) (hy : ∀ y ∈ ys, Byt y) : ((strOf xs).toList == (strOf ys).toList) = decide (xs = ys) := by
  rw [strOf, strOf, ByteArray.toList_mk, ByteArray.toList_mk]
  by_cases h : xs = ys
  · simp [h]
  · have : (xs.map fun n => UInt8.ofNat n.toNat) ≠ ys.map fun n => UInt8.ofNat n.toNat := fun e => h (map_byt_inj hx hy e)
    simp [h, this]

theorem conv_seg {w : World} {a : Option Addr} {xs : List Int} (cap : Nat) (h : Seg w a xs) : (convert 22 9 (.slice a xs.length cap)).run Try.prog w = .ok (.string (strOf xs)) w := by
  cases a with
  | none =>
    have hx : xs = [] := by
      rcases h.2 with h0 | ⟨b, off, h1, _⟩
      · exact h0
      · simp at h1
    subst hx
    rw [run_convert_bytes_string w 22 9 5 none _ cap Try.underlying22 Try.underlying5 Try.underlying9]
    rfl
  | some ad =>
    have hl : (xs.map fun n => UInt8.ofNat n.toNat).length = xs.length := by simp
    have := run_convert_bytes_back (P := Try.prog) w 22 9 5 ad cap (xs.map fun n => UInt8.ofNat n.toNat) Try.underlying22 Try.underlying5 Try.underlying9 (by
      intro j hj
      rcases h.2 with h0 | ⟨b, off, h1, h2⟩
      · subst h0; simp at hj
      · simp at h1
        subst h1
        have hj' : j < xs.length := by simpa using hj
        rw [Addr.add_lit, h2 j hj']
        have hb := h.1 xs[j] (List.getElem_mem hj')
        unfold Byt at hb
        simp [hj']
        omega)
    rw [hl] at this
    exact this

theorem ret_bool {x y : Bool} (h : x = y) : Ending.returned (.bool x) = .returned (.bool y) := by rw [h]


/-- The bytes as such. -/
def u8s (xs : List Int) : List UInt8 := xs.map fun n => UInt8.ofNat n.toNat
theorem strOf_list (xs : List Int) : (strOf xs).toList = u8s xs := by rw [strOf, ByteArray.toList_mk]; rfl
theorem strOf_data (xs : List Int) : (strOf xs).data.toList = u8s xs := rfl

/-- One text is ahead of another one. -/
def ltS (xs ys : List Int) : Bool := Op.bytesLess (u8s xs) (u8s ys)

theorem less_cmp : ∀ (a b : List UInt8), Op.bytesLess a b = decide (Lib.compareBytes a b < 0)
  | [], [] => by simp [Op.bytesLess, Lib.compareBytes]
  | [], _ :: _ => by simp [Op.bytesLess, Lib.compareBytes]
  | _ :: _, [] => by simp [Op.bytesLess, Lib.compareBytes]
  | x :: a, y :: b => by
    have ih := less_cmp a b
    unfold Op.bytesLess Lib.compareBytes
    by_cases h1 : x < y
    · simp [h1]
    · by_cases h2 : y < x
      · have h3 : ¬ x = y := fun e => by subst e; exact absurd h2 (UInt8.lt_irrefl _)
        simp [h1, h2, h3]
      · have h3 : x = y := UInt8.le_antisymm (UInt8.not_lt.1 h2) (UInt8.not_lt.1 h1)
        subst h3
        simp [h1, ih]

theorem cmp_range : ∀ (a b : List UInt8), -1 ≤ Lib.compareBytes a b ∧ Lib.compareBytes a b ≤ 1
  | [], [] => by simp [Lib.compareBytes]
  | [], _ :: _ => by simp [Lib.compareBytes]
  | _ :: _, [] => by simp [Lib.compareBytes]
  | x :: a, y :: b => by
    have ih := cmp_range a b
    unfold Lib.compareBytes
    split
    · omega
    · split
      · omega
      · exact ih

theorem load_bytes {P : Program} (w : World) (xs : List Int) : ∀ (b off : Nat) (acc : ByteArray), (∀ i, i < xs.length → w.cell? ⟨b, off + i, none⟩ = some (.int .u8 (xs.getD i 0))) →
    (Extern.Bytes.loadBytes ⟨b, off, none⟩ xs.length acc).run P w = .ok ⟨acc.data ++ (u8s xs).toArray⟩ w := by
  induction xs with
  | nil => intro b off acc _; simp [Extern.Bytes.loadBytes, u8s]
  | cons x xs ih =>
    intro b off acc h
    have h0 := h 0 (by simp)
    simp only [Nat.add_zero, List.getD_cons_zero] at h0
    have h1 := ih b (off + 1) (acc.push x.toNat.toUInt8) (fun i hi => by
      have := h (i + 1) (by simp; omega)
      rw [show off + 1 + i = off + (i + 1) from by omega, this]
      simp)
    have e : (⟨b, off, none⟩ : Addr).add 1 = ⟨b, off + 1, none⟩ := Addr.add_lit b off 1
    simp only [List.length_cons, Extern.Bytes.loadBytes, Sem.run_bind, run_load, h0, Result.andThen, e]
    rw [h1]
    congr 1
    apply ByteArray.ext
    simp [ByteArray.push, u8s]

theorem bytes_of_seg {P : Program} {w : World} {a : Option Addr} {xs : List Int} (cap : Nat) (h : Seg w a xs) : (Extern.Bytes.bytesOf (.slice a xs.length cap)).run P w = .ok (strOf xs) w := by
  cases a with
  | none =>
    have hx : xs = [] := by
      rcases h.2 with h0 | ⟨b, off, h1, _⟩
      · exact h0
      · simp at h1
    subst hx
    rfl
  | some ad =>
    rcases h.2 with h0 | ⟨b, off, h1, h2⟩
    · subst h0
      rfl
    · simp at h1
      subst h1
      have := load_bytes (P := P) w xs b off .empty h2
      have he : (⟨ByteArray.empty.data ++ (u8s xs).toArray⟩ : ByteArray) = strOf xs := by
        apply ByteArray.ext
        show (#[] : Array UInt8) ++ (u8s xs).toArray = _
        simp [strOf, u8s]
      rw [he] at this
      exact this

theorem run_compare_seg {P : Program} {w : World} {a b : Option Addr} {xs ys : List Int} (c1 c2 : Nat) (ha : Seg w a xs) (hb : Seg w b ys) :
    (Extern.BytealgCompare.compare #[.slice a xs.length c1, .slice b ys.length c2]).run P w = .ok (.int .i64 (Lib.compareBytes (u8s xs) (u8s ys))) w := by
  change Sem.run P (do pure (goInt (Extern.BytealgCompare.cmp (← Extern.Bytes.bytesOf (.slice a xs.length c1)) (← Extern.Bytes.bytesOf (.slice b ys.length c2))))) w = _
  simp only [Sem.run_bind, bytes_of_seg c1 ha, bytes_of_seg c2 hb, Sem.run_pure, Result.andThen]
  rw [Lib.cmp_eq]
  rfl

end Go.Proofs.Ytenfnbnhdmkhkaa
/-
  NameOk, of the program and of the specification: of a slice of bytes it tells whether it is a name, and turns nothing; the law FnExactNameOk.
-/
namespace Go.Proofs.Ytenfnbnhdmkhkaa
open Go.RowKit
set_option linter.unusedVariables false

/-- A letter of a name. -/
def letB (c : Int) : Bool := decide (97 ≤ c) && decide (c ≤ 122)
/-- A name. -/
def nameB (xs : List Int) : Bool := decide (1 ≤ xs.length) && decide (xs.length ≤ 8) && xs.all letB

theorem nameB_short (xs : List Int) (h : xs.length < 1) : nameB xs = false := by simp [nameB]; omega
theorem nameB_long (xs : List Int) (h : 8 < xs.length) : nameB xs = false := by simp [nameB]; omega
theorem nameB_all (xs : List Int) (h1 : 1 ≤ xs.length) (h2 : xs.length ≤ 8) : nameB xs = xs.all letB := by simp [nameB, h1, h2]

/-- The first k all fulfil p. -/
def fstAll (p : Int → Bool) (xs : List Int) (k : Nat) : Prop := ∀ i, i < k → p (xs.getD i 0) = true
theorem fstAll_zero (p : Int → Bool) (xs : List Int) : fstAll p xs 0 := fun i h => by omega
theorem fstAll_succ {p : Int → Bool} {xs : List Int} {k : Nat} (h : fstAll p xs k) (hk : p (xs.getD k 0) = true) : fstAll p xs (k + 1) := by
  intro i hi
  by_cases e : i = k
  · rw [e]; exact hk
  · exact h i (by omega)
theorem all_of_fstAll {p : Int → Bool} {xs : List Int} (h : fstAll p xs xs.length) : xs.all p = true := by
  rw [List.all_eq_true]
  intro x hx
  obtain ⟨i, hi, rfl⟩ := List.getElem_of_mem hx
  have := h i hi
  simpa [List.getD_eq_getElem?_getD, hi] using this
theorem not_all_of {p : Int → Bool} {xs : List Int} {k : Nat} (hk : k < xs.length) (h : p (xs.getD k 0) = false) : xs.all p = false := by
  rw [List.all_eq_false]
  refine ⟨xs[k], List.getElem_mem hk, ?_⟩
  simpa [List.getD_eq_getElem?_getD, hk] using h

set_option maxHeartbeats 800000 in
theorem impl_NameOk_any (a : Option Addr) (c1 : Nat) (xs : List Int) (w : World) (ha : Seg w a xs) (hl : xs.length ≤ maxLen) :
    Calls Try.prog 73 #[.slice a xs.length c1] w fun e w' => e = .returned (.bool (nameB xs)) ∧ w = w' := by
  unfold maxLen at hl
  by_cases h1 : xs.length < 1
  · have HO : Hid (nameB xs = false) := nameB_short xs h1
    have h1' : (xs.length : Int) < 1 := by omega
    go_enter Try.func73, Try.ntmps73
    go_wp2
    go_ret
    exact ⟨ret_bool HO.out.symm, rfl⟩
  by_cases h2 : 8 < xs.length
  · have HO : Hid (nameB xs = false) := nameB_long xs h2
    have h1' : ¬ (xs.length : Int) < 1 := by omega
    have h2' : (8 : Int) < (xs.length : Int) := by omega
    go_enter Try.func73, Try.ntmps73
    go_wp2
    go_ret
    exact ⟨ret_bool HO.out.symm, rfl⟩
  have HO : Hid (nameB xs = xs.all letB) := nameB_all xs (by omega) (by omega)
  have hb := getD_byt ha.1
  generalize hn : xs.length = n at *
  have Hn : Hid (xs.length = n) := hn
  have h1' : ¬ (n : Int) < 1 := by omega
  have h2' : ¬ (8 : Int) < (n : Int) := by omega
  clear hn
  go_enter Try.func73, Try.ntmps73
  go_wp2
  go_loopw [15] (fun i wr => ∃ k : Nat, k ≤ n ∧ i = .int .i64 k ∧ fstAll letB xs k ∧ wr = w) (fun i _ => n - (intOf i).toNat)
  case atStart => exact ⟨0, Nat.zero_le _, rfl, fstAll_zero _ _, rfl⟩
  case round =>
    obtain ⟨k, hk, rfl, hall, rfl⟩ := hrel
    by_cases hlt : k < n
    · obtain ⟨b1, o1, rfl, hc1⟩ := ha.at (k := k) (by have := Hn.out; omega)
      have hbk := hb k
      have HS : Hid (letB (xs.getD k 0) = true → fstAll letB xs (k + 1)) := fun h => fstAll_succ hall h
      have HN : Hid (letB (xs.getD k 0) = false → xs.all letB = false) := fun h => not_all_of (by have := Hn.out; omega) h
      generalize xs.getD k 0 = c at hc1 hbk HS HN
      have hlt' : (k : Int) < (n : Int) := by omega
      obtain ⟨hb1, hb2⟩ := hbk
      by_cases hc : c < 97
      · have HF : Hid (xs.all letB = false) := HN.out (by simp [letB]; omega)
        go_wp2
        go_ret
        exact ⟨ret_bool (by rw [HO.out, HF.out]), rfl⟩
      · by_cases hd : 122 < c
        · have HF : Hid (xs.all letB = false) := HN.out (by simp [letB]; omega)
          go_wp2
          go_ret
          exact ⟨ret_bool (by rw [HO.out, HF.out]), rfl⟩
        · have HF : Hid (fstAll letB xs (k + 1)) := HS.out (by simp [letB]; omega)
          go_wp2
          go_roundw
          case rel => exact ⟨k + 1, by omega, by go_num, HF.out, by first | rfl | trivial⟩
          case measure => simp [intOf]; omega
    · have HF : Hid (xs.all letB = true) := all_of_fstAll (by rw [Hn.out]; have e : k = n := by omega
                                                              rw [← e]; exact hall)
      have hlt' : ¬ (k : Int) < (n : Int) := by omega
      go_wp2
      go_ret
      exact ⟨ret_bool (by rw [HO.out, HF.out]), rfl⟩

set_option maxHeartbeats 800000 in
theorem spec_NameOk_any (a : Option Addr) (c1 : Nat) (xs : List Int) (w : World) (ha : Seg w a xs) (hl : xs.length ≤ maxLen) :
    Calls Try.prog 48 #[.slice a xs.length c1] w fun e w' => e = .returned (.bool (nameB xs)) ∧ w = w' := by
  unfold maxLen at hl
  by_cases h1 : xs.length < 1
  · have HO : Hid (nameB xs = false) := nameB_short xs h1
    have h1' : (xs.length : Int) < 1 := by omega
    go_enter Try.func48, Try.ntmps48
    go_wp2
    go_ret
    exact ⟨ret_bool HO.out.symm, rfl⟩
  by_cases h2 : 8 < xs.length
  · have HO : Hid (nameB xs = false) := nameB_long xs h2
    have h1' : ¬ (xs.length : Int) < 1 := by omega
    have h2' : (8 : Int) < (xs.length : Int) := by omega
    go_enter Try.func48, Try.ntmps48
    go_wp2
    go_ret
    exact ⟨ret_bool HO.out.symm, rfl⟩
  have HO : Hid (nameB xs = xs.all letB) := nameB_all xs (by omega) (by omega)
  have hb := getD_byt ha.1
  generalize hn : xs.length = n at *
  have Hn : Hid (xs.length = n) := hn
  have h1' : ¬ (n : Int) < 1 := by omega
  have h2' : ¬ (8 : Int) < (n : Int) := by omega
  clear hn
  go_enter Try.func48, Try.ntmps48
  go_wp2
  go_loopw [3] (fun i wr => ∃ k : Nat, k ≤ n ∧ i = .int .i64 k ∧ fstAll letB xs k ∧ wr = w) (fun i _ => n - (intOf i).toNat)
  case atStart => exact ⟨0, Nat.zero_le _, rfl, fstAll_zero _ _, rfl⟩
  case round =>
    obtain ⟨k, hk, rfl, hall, rfl⟩ := hrel
    by_cases hlt : k < n
    · obtain ⟨b1, o1, rfl, hc1⟩ := ha.at (k := k) (by have := Hn.out; omega)
      have hbk := hb k
      have HS : Hid (letB (xs.getD k 0) = true → fstAll letB xs (k + 1)) := fun h => fstAll_succ hall h
      have HN : Hid (letB (xs.getD k 0) = false → xs.all letB = false) := fun h => not_all_of (by have := Hn.out; omega) h
      generalize xs.getD k 0 = c at hc1 hbk HS HN
      have hlt' : (k : Int) < (n : Int) := by omega
      obtain ⟨hb1, hb2⟩ := hbk
      by_cases hc : c < 97
      · have HF : Hid (xs.all letB = false) := HN.out (by simp [letB]; omega)
        go_wp2
        go_ret
        exact ⟨ret_bool (by rw [HO.out, HF.out]), rfl⟩
      · by_cases hd : 122 < c
        · have HF : Hid (xs.all letB = false) := HN.out (by simp [letB]; omega)
          go_wp2
          go_ret
          exact ⟨ret_bool (by rw [HO.out, HF.out]), rfl⟩
        · have HF : Hid (fstAll letB xs (k + 1)) := HS.out (by simp [letB]; omega)
          go_wp2
          go_roundw
          case rel => exact ⟨k + 1, by omega, by go_num, HF.out, by first | rfl | trivial⟩
          case measure => simp [intOf]; omega
    · have HF : Hid (xs.all letB = true) := all_of_fstAll (by rw [Hn.out]; have e : k = n := by omega
                                                              rw [← e]; exact hall)
      have hlt' : ¬ (k : Int) < (n : Int) := by omega
      go_wp2
      go_ret
      exact ⟨ret_bool (by rw [HO.out, HF.out]), rfl⟩
end Go.Proofs.Ytenfnbnhdmkhkaa
