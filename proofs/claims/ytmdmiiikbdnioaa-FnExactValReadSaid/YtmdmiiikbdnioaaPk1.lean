/-
  Texts that a law leans on, one behind the other; no statement is proved here.
-/
import Derived.Test.YtmdmiiikbdnioaaPk0
/-
  What a value (kind, number, text, keys, parts) holds in memory, by its depth: 'Vl d' and 'VSeg'; lists of texts: 'KSeg'; no statement is proved here.
-/
namespace Go.Proofs.Ytmdmiiikbdnioaa
open Go.RowKit
set_option linter.unusedVariables false

/-- Values of depth at most d. -/
def Vl : Nat → Type
  | 0 => Empty
  | d + 1 => Int × Int × List Int × List (List Int) × List (Vl d)

/-- The blocks in which something lies all fulfil R, and may be read alike in two worlds. -/
def Agree (R : Nat → Prop) (w w' : World) : Prop := ∀ b, R b → w'.heap[b]? = w.heap[b]?

/-- A slice of bytes, all in blocks of R. -/
def TSeg (R : Nat → Prop) (w : World) (v : Value) (xs : List Int) : Prop := ∃ a cap, v = .slice a xs.length cap ∧ Seg w a xs ∧ xs.length ≤ cap ∧ cap ≤ maxLen ∧ (a = none → cap = 0) ∧ ∀ x, a = some x → xs ≠ [] → R x.block

/-- A slice of slices of bytes. -/
def KSeg (R : Nat → Prop) (w : World) (v : Value) (ks : List (List Int)) : Prop := ∃ a cap, v = .slice a ks.length cap ∧ ks.length ≤ cap ∧ cap ≤ maxLen ∧ (a = none → cap = 0) ∧
  (ks = [] ∨ ∃ b off, a = some ⟨b, off, none⟩ ∧ R b ∧ ∀ i, i < ks.length → ∃ u, w.cell? ⟨b, off + i, none⟩ = some u ∧ TSeg R w u (ks.getD i []))

/-- The five cells of a value at a place. -/
def Five (w : World) (b off : Nat) (c : Value × Value × Value × Value × Value) : Prop :=
  w.cell? ⟨b, off, none⟩ = some c.1 ∧ w.cell? ⟨b, off + 1, none⟩ = some c.2.1 ∧ w.cell? ⟨b, off + 2, none⟩ = some c.2.2.1 ∧ w.cell? ⟨b, off + 3, none⟩ = some c.2.2.2.1 ∧ w.cell? ⟨b, off + 4, none⟩ = some c.2.2.2.2

/-- Five cells read as a value. -/
def VSeg (R : Nat → Prop) (w : World) : (d : Nat) → Value × Value × Value × Value × Value → Vl d → Prop
  | 0, _, _ => False
  | d + 1, c, v => c.1 = .int .i64 v.1 ∧ c.2.1 = .int .i64 v.2.1 ∧ TSeg R w c.2.2.1 v.2.2.1 ∧ KSeg R w c.2.2.2.1 v.2.2.2.1 ∧
      ∃ a cap, c.2.2.2.2 = .slice a v.2.2.2.2.length cap ∧ v.2.2.2.2.length ≤ cap ∧ cap ≤ maxLen ∧ (a = none → cap = 0) ∧
        (v.2.2.2.2 = [] ∨ ∃ b off, a = some ⟨b, off, none⟩ ∧ R b ∧ ∀ i (h : i < v.2.2.2.2.length), ∃ e, Five w b (off + i * 5) e ∧ VSeg R w d e (v.2.2.2.2[i]))

/-- A slice of values. -/
def LSeg (R : Nat → Prop) (w : World) (d : Nat) (x : Value) (l : List (Vl d)) : Prop := ∃ a cap, x = .slice a l.length cap ∧ l.length ≤ cap ∧ cap ≤ maxLen ∧ (a = none → cap = 0) ∧
  (l = [] ∨ ∃ b off, a = some ⟨b, off, none⟩ ∧ R b ∧ ∀ i (h : i < l.length), ∃ e, Five w b (off + i * 5) e ∧ VSeg R w d e (l[i]))

theorem VSeg_succ (R : Nat → Prop) (w : World) (d : Nat) (c : Value × Value × Value × Value × Value) (v : Vl (d + 1)) :
    VSeg R w (d + 1) c v ↔ c.1 = .int .i64 v.1 ∧ c.2.1 = .int .i64 v.2.1 ∧ TSeg R w c.2.2.1 v.2.2.1 ∧ KSeg R w c.2.2.2.1 v.2.2.2.1 ∧ LSeg R w d c.2.2.2.2 v.2.2.2.2 := Iff.rfl

theorem cell_agree {R : Nat → Prop} {w w' : World} (h : Agree R w w') {b o : Nat} (hb : R b) : w'.cell? ⟨b, o, none⟩ = w.cell? ⟨b, o, none⟩ := World.cell?_of_block (h b hb)

theorem TSeg.agree {R : Nat → Prop} {w w' : World} {v : Value} {xs : List Int} (h : TSeg R w v xs) (ha : Agree R w w') : TSeg R w' v xs := by
  obtain ⟨a, cap, h1, h2, h3, h4, h5, h6⟩ := h
  refine ⟨a, cap, h1, ⟨h2.1, ?_⟩, h3, h4, h5, h6⟩
  rcases h2.2 with h0 | ⟨b, off, rfl, hc⟩
  · exact .inl h0
  · by_cases he : xs = []
    · exact .inl he
    · exact .inr ⟨b, off, rfl, fun i hi => (cell_agree ha (h6 _ rfl he)).trans (hc i hi)⟩

theorem KSeg.agree {R : Nat → Prop} {w w' : World} {v : Value} {ks : List (List Int)} (h : KSeg R w v ks) (ha : Agree R w w') : KSeg R w' v ks := by
  obtain ⟨a, cap, h1, h2, h3, h4, h5⟩ := h
  refine ⟨a, cap, h1, h2, h3, h4, ?_⟩
  rcases h5 with h0 | ⟨b, off, hb, hR, hc⟩
  · exact .inl h0
  · refine .inr ⟨b, off, hb, hR, fun i hi => ?_⟩
    obtain ⟨u, hu, ht⟩ := hc i hi
    exact ⟨u, (cell_agree ha hR).trans hu, ht.agree ha⟩

theorem Five.agree {R : Nat → Prop} {w w' : World} {b off : Nat} {c : Value × Value × Value × Value × Value} (h : Five w b off c) (ha : Agree R w w') (hb : R b) : Five w' b off c := by
  obtain ⟨h0, h1, h2, h3, h4⟩ := h
  exact ⟨(cell_agree ha hb).trans h0, (cell_agree ha hb).trans h1, (cell_agree ha hb).trans h2, (cell_agree ha hb).trans h3, (cell_agree ha hb).trans h4⟩

theorem VSeg.agree {R : Nat → Prop} {w w' : World} (ha : Agree R w w') (d : Nat) : ∀ {c : Value × Value × Value × Value × Value} {v : Vl d}, VSeg R w d c v → VSeg R w' d c v := by
  induction d with
  | zero => intro c v h; exact h
  | succ d ih =>
    intro c v h
    obtain ⟨h0, h1, h2, h3, a, cap, g1, g2, g3, g4, g5⟩ := h
    refine ⟨h0, h1, h2.agree ha, h3.agree ha, a, cap, g1, g2, g3, g4, ?_⟩
    rcases g5 with e | ⟨b, off, hb, hR, hc⟩
    · exact .inl e
    · refine .inr ⟨b, off, hb, hR, fun i hi => ?_⟩
      obtain ⟨e, he, hv⟩ := hc i hi
      exact ⟨e, he.agree ha hR, ih hv⟩

theorem LSeg.agree {R : Nat → Prop} {w w' : World} {d : Nat} {x : Value} {l : List (Vl d)} (h : LSeg R w d x l) (ha : Agree R w w') : LSeg R w' d x l := by
  obtain ⟨a, cap, g1, g2, g3, g4, g5⟩ := h
  refine ⟨a, cap, g1, g2, g3, g4, ?_⟩
  rcases g5 with e | ⟨b, off, hb, hR, hc⟩
  · exact .inl e
  · refine .inr ⟨b, off, hb, hR, fun i hi => ?_⟩
    obtain ⟨e, he, hv⟩ := hc i hi
    exact ⟨e, he.agree ha hR, VSeg.agree ha d hv⟩

/-- What lies below N is read alike behind whatever leaves what is below N. -/
theorem agree_below {N : Nat} {w w' : World} (h : Below N w w') : Agree (fun b => b < N) w w' := fun b hb => h.block b hb

/-- A value's weight: how much szValue takes off. -/
def szT (xs : List Int) : Nat := xs.length
def szK (ks : List (List Int)) : Nat := ks.length + (ks.map List.length).sum
def szV : (d : Nat) → Vl d → Nat
  | 0, _ => 0
  | d + 1, v => szT v.2.2.1 + szK v.2.2.2.1 + (v.2.2.2.2.length + (v.2.2.2.2.map (szV d)).sum)
def szL (d : Nat) (l : List (Vl d)) : Nat := l.length + (l.map (szV d)).sum

end Go.Proofs.Ytmdmiiikbdnioaa
/-
  The laws' own helpers markByteS and heldByteS: the one writes running numbers into a row that is the call's own, the other finds them there.
-/
namespace Go.Proofs.Ytmdmiiikbdnioaa
open Go.RowKit
set_option linter.unusedVariables false

/-- The running numbers, as bytes. -/
def marks (m n : Nat) : List Int := (List.range n).map fun i => (((m + i) % 256 : Nat) : Int)

theorem length_marks (m n : Nat) : (marks m n).length = n := by simp [marks]
theorem marks_byt (m n : Nat) : ∀ x ∈ marks m n, Byt x := by
  intro x hx
  simp only [marks, List.mem_map] at hx
  obtain ⟨i, _, rfl⟩ := hx
  unfold Byt
  omega
theorem marks_at (m n k : Nat) (h : k < n) : (marks m n).getD k 0 = (((m + k) % 256 : Nat) : Int) := by simp [marks, h]

/-- What a row holds after k of the marks. -/
def marked (xs : List Int) (m k : Nat) : List Value := cellsOf (marks m k) ++ cellsOf (xs.drop k)
theorem marked_zero (xs : List Int) (m : Nat) : marked xs m 0 = cellsOf xs := by simp [marked, marks, cellsOf]
theorem marked_all (xs : List Int) (m : Nat) : marked xs m xs.length = cellsOf (marks m xs.length) := by simp [marked, cellsOf]
theorem length_marked (xs : List Int) (m k : Nat) (h : k ≤ xs.length) : (marked xs m k).length = xs.length := by simp [marked, marks, cellsOf]; omega
theorem marked_set (xs : List Int) (m k : Nat) (h : k < xs.length) : (marked xs m k).set k (.int .u8 (((m + k) % 256 : Nat) : Int)) = marked xs m (k + 1) := by
  apply List.ext_getElem
  · simp [marked, marks, cellsOf]; omega
  · intro i h1 h2
    simp only [marked, marks, cellsOf, List.getElem_set, List.getElem_append, List.length_map, List.length_range]
    by_cases hik : k = i
    · subst hik
      simp
    · by_cases hlt : i < k
      · have e2 : i < k + 1 := by omega
        simp [hik, hlt, e2]
      · have e2 : ¬ i < k + 1 := by omega
        have e3 : k + 1 + (i - (k + 1)) = k + (i - k) := by omega
        simp [hik, hlt, e2, e3]



set_option maxHeartbeats 400000 in
theorem markByteS_any (base : Nat) (a : Option Addr) (cap : Nat) (xs : List Int) (m : Nat) (w : World) (hB : Bts w base (.slice a xs.length cap) xs) (hl : xs.length ≤ 2097152) (hm : m ≤ 1125899906842624) :
    Calls Try.prog 9 #[.slice a xs.length cap, .int .i64 m] w fun e w' => e = .returned (.int .i64 ((m + xs.length : Nat) : Int)) ∧ Bts w' base (.slice a xs.length cap) (marks m xs.length) ∧ w.grownBy w' (Value.slice a xs.length cap).ownBlock := by
  have hown0 := hB.2
  generalize hn : xs.length = n at hown0
  have Hn : Hid (xs.length = n) := hn
  have hln : n ≤ 2097152 := by omega
  clear hn hl hB
  have hr : ∀ wr : World, ∀ k, k < n → wr.ownsRow base 5 1 (.slice a n cap) n (marked xs m k) → ∃ g, a = some ⟨g, 0, none⟩ := by
    intro wr k hk h
    rcases h.2 with ⟨h1, h2⟩ | ⟨g, cp, cur, h1, _⟩
    · omega
    · simp at h1
      exact ⟨g, h1.1⟩
  have Hr : Hid (∀ wr : World, ∀ k, k < n → wr.ownsRow base 5 1 (.slice a n cap) n (marked xs m k) → ∃ g, a = some ⟨g, 0, none⟩) := hr
  clear hr
  go_enter Try.func9, Try.ntmps9
  go_wp2
  go_loopw [1, 5] (fun m' i wr => ∃ k : Nat, k ≤ n ∧ i = .int .i64 k ∧ m' = .int .i64 ((m + k : Nat) : Int) ∧ wr.ownsRow base 5 1 (.slice a n cap) n (marked xs m k) ∧ w.grownBy wr (Value.slice a n cap).ownBlock) (fun _ i _ => n - (intOf i).toNat)
  case atStart => exact ⟨0, Nat.zero_le _, rfl, by simp, by rw [marked_zero]; exact hown0, World.grownBy.refl _ _⟩
  case round =>
    obtain ⟨k, hk, rfl, rfl, hown1, hbel⟩ := hrel
    by_cases hlt : k < n
    · obtain ⟨g, rfl⟩ := Hr.out wr k hlt hown1
      have hd : ∃ v, wr.cell? ⟨g, k, none⟩ = some v := by
        rw [hown1.cellAt k (by omega)]
        have := length_marked xs m k (by have := Hn.out; omega)
        have h2 := Hn.out
        exact ⟨_, List.getElem?_eq_getElem (by omega)⟩
      obtain ⟨v, hd⟩ := hd
      have hfz := hown1.frozenAt k
      have hst := hown1.stored k (.int .u8 (((m + k) % 256 : Nat) : Int))
      rw [marked_set xs m k (by have := Hn.out; omega)] at hst
      obtain ⟨hst1, hst2⟩ := hst
      have hbel2 := grownBy_trans hbel hst2
      clear hst2 hown1 hbel
      have e : ((((m + k) % 256 : Nat) : Int)) = ((m : Int) + k) % 256 := by omega
      rw [e] at hst1 hbel2
      clear e
      go_wp2
      go_roundw
      case rel => exact ⟨k + 1, by omega, by go_num, by go_num, hst1, hbel2⟩
      case measure => simp [intOf]; omega
    · obtain rfl : k = n := by omega
      have hB : Bts wr base (.slice a k cap) (marks m k) := by
        refine ⟨marks_byt _ _, ?_⟩
        have h2 := Hn.out
        have h3 := marked_all xs m
        rw [h2] at h3
        rw [length_marks, ← h3]
        exact hown1
      go_wp2
      go_ret
      exact ⟨rfl, hB, hbel⟩

set_option maxHeartbeats 400000 in
theorem heldByteS_any (a : Option Addr) (cap : Nat) (m n : Nat) (w : World) (hs : Seg w a (marks m n)) (hl : n ≤ 2097152) (hm : m ≤ 1125899906842624) :
    Calls Try.prog 24 #[.slice a n cap, .int .i64 m] w fun e w' => e = .returned (.int .i64 ((m + n : Nat) : Int)) ∧ Below w.heap.size w w' := by
  go_enter Try.func24, Try.ntmps24
  go_wp2
  go_loopw [1, 5] (fun m' i wr => ∃ k : Nat, k ≤ n ∧ i = .int .i64 k ∧ m' = .int .i64 ((m + k : Nat) : Int) ∧ Below w.heap.size w wr) (fun _ i _ => n - (intOf i).toNat)
  case atStart => exact ⟨0, Nat.zero_le _, rfl, by simp, Below.refl _ _⟩
  case round =>
    obtain ⟨k, hk, rfl, rfl, hbel⟩ := hrel
    by_cases hlt : k < n
    · obtain ⟨b1, o1, rfl, hc1⟩ := (hs.grow hbel).at (k := k) (by rw [length_marks]; omega)
      rw [marks_at m n k hlt] at hc1
      have e : ((((m + k) % 256 : Nat) : Int)) = ((m : Int) + k) % 256 := by omega
      rw [e] at hc1
      clear e
      go_wp2
      go_roundw
      case rel => exact ⟨k + 1, by omega, by go_num, by go_num, hbel⟩
      case measure => simp [intOf]; omega
    · obtain rfl : k = n := by omega
      go_wp2
      go_ret
      exact ⟨rfl, hbel⟩
end Go.Proofs.Ytmdmiiikbdnioaa
/-
  NameOk, of the program and of the specification: of a slice of bytes it tells whether it is a name, and turns nothing; the law FnExactNameOk.
-/
namespace Go.Proofs.Ytmdmiiikbdnioaa
open Go.RowKit
set_option linter.unusedVariables false

/-- A letter of a name. -/
def letB (c : Int) : Bool := decide (97 ≤ c) && decide (c ≤ 122)
/-- A name. -/
def nameB (xs : List Int) : Bool := decide (1 ≤ xs.length) && decide (xs.length ≤ 8) && xs.all letB

theorem nameB_short (xs : List Int) (h : xs.length < 1) : nameB xs = false := by simp [nameB]; omega
theorem nameB_long (xs : List Int) (h : 8 < xs.length) : nameB xs = false := by simp [nameB]; omega
theorem nameB_all (xs : List Int) (h1 : 1 ≤ xs.length) (h2 : xs.length ≤ 8) : nameB xs = xs.all letB := by simp [nameB, h1, h2]

/-- The first k all fulfil p. -/
def fstAll (p : Int → Bool) (xs : List Int) (k : Nat) : Prop := ∀ i, i < k → p (xs.getD i 0) = true
theorem fstAll_zero (p : Int → Bool) (xs : List Int) : fstAll p xs 0 := fun i h => by omega
theorem fstAll_succ {p : Int → Bool} {xs : List Int} {k : Nat} (h : fstAll p xs k) (hk : p (xs.getD k 0) = true) : fstAll p xs (k + 1) := by
  intro i hi
  by_cases e : i = k
  · rw [e]; exact hk
  · exact h i (by omega)
theorem all_of_fstAll {p : Int → Bool} {xs : List Int} (h : fstAll p xs xs.length) : xs.all p = true := by
  rw [List.all_eq_true]
  intro x hx
  obtain ⟨i, hi, rfl⟩ := List.getElem_of_mem hx
  have := h i hi
  simpa [List.getD_eq_getElem?_getD, hi] using this
theorem not_all_of {p : Int → Bool} {xs : List Int} {k : Nat} (hk : k < xs.length) (h : p (xs.getD k 0) = false) : xs.all p = false := by
  rw [List.all_eq_false]
  refine ⟨xs[k], List.getElem_mem hk, ?_⟩
  simpa [List.getD_eq_getElem?_getD, hk] using h

set_option maxHeartbeats 800000 in
theorem impl_NameOk_any (a : Option Addr) (c1 : Nat) (xs : List Int) (w : World) (ha : Seg w a xs) (hl : xs.length ≤ maxLen) :
    Calls Try.prog 64 #[.slice a xs.length c1] w fun e w' => e = .returned (.bool (nameB xs)) ∧ w = w' := by
  unfold maxLen at hl
  by_cases h1 : xs.length < 1
  · have HO : Hid (nameB xs = false) := nameB_short xs h1
    have h1' : (xs.length : Int) < 1 := by omega
    go_enter Try.func64, Try.ntmps64
    go_wp2
    go_ret
    exact ⟨ret_bool HO.out.symm, rfl⟩
  by_cases h2 : 8 < xs.length
  · have HO : Hid (nameB xs = false) := nameB_long xs h2
    have h1' : ¬ (xs.length : Int) < 1 := by omega
    have h2' : (8 : Int) < (xs.length : Int) := by omega
    go_enter Try.func64, Try.ntmps64
    go_wp2
    go_ret
    exact ⟨ret_bool HO.out.symm, rfl⟩
  have HO : Hid (nameB xs = xs.all letB) := nameB_all xs (by omega) (by omega)
  have hb := getD_byt ha.1
  generalize hn : xs.length = n at *
  have Hn : Hid (xs.length = n) := hn
  have h1' : ¬ (n : Int) < 1 := by omega
  have h2' : ¬ (8 : Int) < (n : Int) := by omega
  clear hn
  go_enter Try.func64, Try.ntmps64
  go_wp2
  go_loopw [15] (fun i wr => ∃ k : Nat, k ≤ n ∧ i = .int .i64 k ∧ fstAll letB xs k ∧ wr = w) (fun i _ => n - (intOf i).toNat)
  case atStart => exact ⟨0, Nat.zero_le _, rfl, fstAll_zero _ _, rfl⟩
  case round =>
    obtain ⟨k, hk, rfl, hall, rfl⟩ := hrel
    by_cases hlt : k < n
    · obtain ⟨b1, o1, rfl, hc1⟩ := ha.at (k := k) (by have := Hn.out; omega)
      have hbk := hb k
      have HS : Hid (letB (xs.getD k 0) = true → fstAll letB xs (k + 1)) := fun h => fstAll_succ hall h
      have HN : Hid (letB (xs.getD k 0) = false → xs.all letB = false) := fun h => not_all_of (by have := Hn.out; omega) h
      generalize xs.getD k 0 = c at hc1 hbk HS HN
      have hlt' : (k : Int) < (n : Int) := by omega
      obtain ⟨hb1, hb2⟩ := hbk
      by_cases hc : c < 97
      · have HF : Hid (xs.all letB = false) := HN.out (by simp [letB]; omega)
        go_wp2
        go_ret
        exact ⟨ret_bool (by rw [HO.out, HF.out]), rfl⟩
      · by_cases hd : 122 < c
        · have HF : Hid (xs.all letB = false) := HN.out (by simp [letB]; omega)
          go_wp2
          go_ret
          exact ⟨ret_bool (by rw [HO.out, HF.out]), rfl⟩
        · have HF : Hid (fstAll letB xs (k + 1)) := HS.out (by simp [letB]; omega)
          go_wp2
          go_roundw
          case rel => exact ⟨k + 1, by omega, by go_num, HF.out, by first | rfl | trivial⟩
          case measure => simp [intOf]; omega
    · have HF : Hid (xs.all letB = true) := all_of_fstAll (by rw [Hn.out]; have e : k = n := by omega
                                                              rw [← e]; exact hall)
      have hlt' : ¬ (k : Int) < (n : Int) := by omega
      go_wp2
      go_ret
      exact ⟨ret_bool (by rw [HO.out, HF.out]), rfl⟩

set_option maxHeartbeats 800000 in
theorem spec_NameOk_any (a : Option Addr) (c1 : Nat) (xs : List Int) (w : World) (ha : Seg w a xs) (hl : xs.length ≤ maxLen) :
    Calls Try.prog 45 #[.slice a xs.length c1] w fun e w' => e = .returned (.bool (nameB xs)) ∧ w = w' := by
  unfold maxLen at hl
  by_cases h1 : xs.length < 1
  · have HO : Hid (nameB xs = false) := nameB_short xs h1
    have h1' : (xs.length : Int) < 1 := by omega
    go_enter Try.func45, Try.ntmps45
    go_wp2
    go_ret
    exact ⟨ret_bool HO.out.symm, rfl⟩
  by_cases h2 : 8 < xs.length
  · have HO : Hid (nameB xs = false) := nameB_long xs h2
    have h1' : ¬ (xs.length : Int) < 1 := by omega
    have h2' : (8 : Int) < (xs.length : Int) := by omega
    go_enter Try.func45, Try.ntmps45
    go_wp2
    go_ret
    exact ⟨ret_bool HO.out.symm, rfl⟩
  have HO : Hid (nameB xs = xs.all letB) := nameB_all xs (by omega) (by omega)
  have hb := getD_byt ha.1
  generalize hn : xs.length = n at *
  have Hn : Hid (xs.length = n) := hn
  have h1' : ¬ (n : Int) < 1 := by omega
  have h2' : ¬ (8 : Int) < (n : Int) := by omega
  clear hn
  go_enter Try.func45, Try.ntmps45
  go_wp2
  go_loopw [3] (fun i wr => ∃ k : Nat, k ≤ n ∧ i = .int .i64 k ∧ fstAll letB xs k ∧ wr = w) (fun i _ => n - (intOf i).toNat)
  case atStart => exact ⟨0, Nat.zero_le _, rfl, fstAll_zero _ _, rfl⟩
  case round =>
    obtain ⟨k, hk, rfl, hall, rfl⟩ := hrel
    by_cases hlt : k < n
    · obtain ⟨b1, o1, rfl, hc1⟩ := ha.at (k := k) (by have := Hn.out; omega)
      have hbk := hb k
      have HS : Hid (letB (xs.getD k 0) = true → fstAll letB xs (k + 1)) := fun h => fstAll_succ hall h
      have HN : Hid (letB (xs.getD k 0) = false → xs.all letB = false) := fun h => not_all_of (by have := Hn.out; omega) h
      generalize xs.getD k 0 = c at hc1 hbk HS HN
      have hlt' : (k : Int) < (n : Int) := by omega
      obtain ⟨hb1, hb2⟩ := hbk
      by_cases hc : c < 97
      · have HF : Hid (xs.all letB = false) := HN.out (by simp [letB]; omega)
        go_wp2
        go_ret
        exact ⟨ret_bool (by rw [HO.out, HF.out]), rfl⟩
      · by_cases hd : 122 < c
        · have HF : Hid (xs.all letB = false) := HN.out (by simp [letB]; omega)
          go_wp2
          go_ret
          exact ⟨ret_bool (by rw [HO.out, HF.out]), rfl⟩
        · have HF : Hid (fstAll letB xs (k + 1)) := HS.out (by simp [letB]; omega)
          go_wp2
          go_roundw
          case rel => exact ⟨k + 1, by omega, by go_num, HF.out, by first | rfl | trivial⟩
          case measure => simp [intOf]; omega
    · have HF : Hid (xs.all letB = true) := all_of_fstAll (by rw [Hn.out]; have e : k = n := by omega
                                                              rw [← e]; exact hall)
      have hlt' : ¬ (k : Int) < (n : Int) := by omega
      go_wp2
      go_ret
      exact ⟨ret_bool (by rw [HO.out, HF.out]), rfl⟩
end Go.Proofs.Ytmdmiiikbdnioaa
/-
  bytes.Compare of two slices of bytes.
-/
namespace Go.Proofs.Ytmdmiiikbdnioaa
open Go.RowKit
set_option linter.unusedVariables false

set_option maxHeartbeats 800000 in
set_option maxRecDepth 100000 in
theorem bytes_Compare_any (a b : Option Addr) (c1 c2 : Nat) (xs ys : List Int) (w : World) (ha : Seg w a xs) (hb : Seg w b ys) :
    Calls Try.prog 65 #[.slice a xs.length c1, .slice b ys.length c2] w fun e w' => e = .returned (.int .i64 (Lib.compareBytes (u8s xs) (u8s ys))) ∧ w = w' := by
  go_enter Try.func65, Try.ntmps65
  go_wp2
  rw [run_callFunc_extern Try.func85 (by kernel_rfl) (by kernel_rfl) (by kernel_rfl) (e := Extern.BytealgCompare.compare) (by kernel_rfl), run_compare_seg c1 c2 ha hb]
  simp only [Result.andThen]
  rw [Oper.upon_value]
  go_wp2
  go_ret
  exact ⟨rfl, rfl⟩

end Go.Proofs.Ytmdmiiikbdnioaa
/-
  szByteS of the laws: what is left of a bound behind a text's weight, or -1.
-/
namespace Go.Proofs.Ytmdmiiikbdnioaa
open Go.RowKit
set_option linter.unusedVariables false

/-- What is left. -/
def less (l : Int) (n : Nat) : Int := if l < n then -1 else l - n
theorem less_no (l : Int) (n : Nat) (h : l < n) : less l n = -1 := by simp [less, h]
theorem less_yes (l : Int) (n : Nat) (h : ¬ l < n) : less l n = l - n := by simp [less, h]

/-- The weight of the first k. -/
def pre {α : Type} (f : α → Nat) (l : List α) (k : Nat) : Nat := ((l.take k).map f).sum
theorem pre_zero {α : Type} (f : α → Nat) (l : List α) : pre f l 0 = 0 := by simp [pre]
theorem pre_succ {α : Type} (f : α → Nat) (l : List α) (k : Nat) (h : k < l.length) : pre f l (k + 1) = pre f l k + f l[k] := by
  unfold pre
  rw [List.take_succ_eq_append_getElem h, List.map_append, List.sum_append]
  simp only [List.map_cons, List.map_nil, List.sum_cons, List.sum_nil, Nat.add_zero]
theorem pre_all {α : Type} (f : α → Nat) (l : List α) : pre f l l.length = (l.map f).sum := by simp [pre]
theorem pre_le {α : Type} (f : α → Nat) (l : List α) (k : Nat) : pre f l k ≤ (l.map f).sum := by
  unfold pre
  have : (l.map f).sum = ((l.take k).map f).sum + ((l.drop k).map f).sum := by
    rw [← List.sum_append, ← List.map_append, List.take_append_drop]
  omega

theorem less_less (l : Int) (a b : Nat) (h : ¬ l < a) : less (l - a) b = less l (a + b) := by
  unfold less
  by_cases h2 : l - a < b
  · rw [if_pos h2, if_pos (by omega)]
  · rw [if_neg h2, if_neg (by omega)]
    omega

theorem grown1 (w : World) (g j : Nat) (v : Value) : w.grownBy (w.setCell ⟨g, j, none⟩ v) (some g) :=
  ⟨rfl, rfl, rfl, by simp [World.setCell], fun k _ hk => Below.heap_setCell w ⟨g, j, none⟩ v k (fun e => hk (by simp [e]))⟩

theorem size2 (w : World) (o o' : Obj) : ((w.alloc o).alloc o').heap.size = w.heap.size + 2 := by simp
theorem two_boxes (w : World) (o o' : Obj) : ((w.alloc o).alloc o').heap[w.heap.size]? = some o ∧ ((w.alloc o).alloc o').heap[w.heap.size + 1]? = some o' := by
  have e : (w.alloc o).heap.size = w.heap.size + 1 := by simp
  constructor
  · exact (((Below.refl (w.alloc o).heap.size (w.alloc o)).alloc (Nat.le_refl _) o').block w.heap.size (by omega)).trans (MapKept.heap_alloc w o).1
  · have h := (MapKept.heap_alloc (w.alloc o) o').1
    rw [e] at h
    exact h


end Go.Proofs.Ytmdmiiikbdnioaa
/-
  numDigits of the program: the five bytes and how many of them count.
-/
namespace Go.Proofs.Ytmdmiiikbdnioaa
open Go.RowKit
set_option linter.unusedVariables false

/-- Five bytes as an array's block. -/
def arr5 (c0 c1 c2 c3 c4 : Int) : Obj := .cells #[.int .u8 c0, .int .u8 c1, .int .u8 c2, .int .u8 c3, .int .u8 c4] 93

theorem below2 (w : World) (o1 o2 : Obj) : Below w.heap.size w ((w.alloc o1).alloc o2) :=
  ((Below.refl _ _).alloc (Nat.le_refl _) _).alloc (by simp) _

set_option maxHeartbeats 800000 in
theorem numDigits_no (n : Int) (w : World) (hn : n < 0 ∨ 2147483647 < n) :
    Calls Try.prog 52 #[.int .i64 n] w fun e w' => e = .returned (.tuple #[.agg #[.int .u8 0, .int .u8 0, .int .u8 0, .int .u8 0, .int .u8 0], .int .i64 0]) ∧ Below w.heap.size w w' := by
  rcases hn with hn | hn
  · go_enter Try.func52, Try.ntmps52
    go_wp2
    exact bodyPost_ret (v := .tuple #[.agg #[.int .u8 0, .int .u8 0, .int .u8 0, .int .u8 0, .int .u8 0], .int .i64 0]) (by simp [results, Try.results52, go_sem]) rfl ⟨rfl, below2 _ _ _⟩
  · have hn0 : ¬ n < 0 := by omega
    go_enter Try.func52, Try.ntmps52
    go_wp2
    exact bodyPost_ret (v := .tuple #[.agg #[.int .u8 0, .int .u8 0, .int .u8 0, .int .u8 0, .int .u8 0], .int .i64 0]) (by simp [results, Try.results52, go_sem]) rfl ⟨rfl, below2 _ _ _⟩

/-- After k rounds: k bytes are laid, m is left of n. -/
def DigAt (n k m : Nat) (c0 c1 c2 c3 c4 : Int) : Prop :=
  m * 128 ^ k ≤ 2147483647 ∧ ∃ pre : List Int, pre.length = k ∧ pre ++ digs m = digs n ∧ [c0, c1, c2, c3, c4] = pre ++ List.replicate (5 - k) 0

theorem digAt_k {n k m : Nat} {c0 c1 c2 c3 c4 : Int} (h : DigAt n k m c0 c1 c2 c3 c4) (hm : 128 ≤ m) : k = 0 ∨ k = 1 ∨ k = 2 ∨ k = 3 := by
  obtain ⟨h1, _⟩ := h
  by_cases hk : k < 4
  · omega
  · have h2 : 128 ^ 4 ≤ 128 ^ k := Nat.pow_le_pow_right (by omega) (by omega)
    have h3 : 128 * 128 ^ 4 ≤ m * 128 ^ k := Nat.mul_le_mul hm h2
    have : (128 : Nat) * 128 ^ 4 = 34359738368 := by decide
    omega

theorem digAt_k4 {n k m : Nat} {c0 c1 c2 c3 c4 : Int} (h : DigAt n k m c0 c1 c2 c3 c4) (hn : n ≤ 2147483647) : k = 0 ∨ k = 1 ∨ k = 2 ∨ k = 3 ∨ k = 4 := by
  obtain ⟨_, pre, hp, he, _⟩ := h
  have h1 := congrArg List.length he
  have h2 := digs_len n hn
  have h3 := digs_len_pos m
  simp at h1
  omega

theorem digAt_next {n k m : Nat} {c0 c1 c2 c3 c4 d0 d1 d2 d3 d4 : Int} (h : DigAt n k m c0 c1 c2 c3 c4) (hm : 128 ≤ m) (hd : [d0, d1, d2, d3, d4] = [c0, c1, c2, c3, c4].set k ((m : Int) % 128 + 128)) : DigAt n (k + 1) (m / 128) d0 d1 d2 d3 d4 := by
  have hk := digAt_k h hm
  obtain ⟨h1, pre, hp, he, hc⟩ := h
  refine ⟨?_, pre ++ [(m : Int) % 128 + 128], by simp [hp], ?_, ?_⟩
  · rw [Nat.pow_succ, Nat.mul_comm (128 ^ k) 128, ← Nat.mul_assoc]
    exact Nat.le_trans (Nat.mul_le_mul_right _ (Nat.div_mul_le_self m 128)) h1
  · rw [← he, digs_big m (by omega)]
    simp
  · rw [hd, hc, List.set_append_right _ _ (by omega), hp, Nat.sub_self]
    have : 5 - k = (5 - (k + 1)) + 1 := by omega
    rw [this, List.replicate_succ, List.set_cons_zero, List.append_assoc]
    rfl

theorem digAt_last {n k m : Nat} {c0 c1 c2 c3 c4 d0 d1 d2 d3 d4 : Int} (h : DigAt n k m c0 c1 c2 c3 c4) (hn : n ≤ 2147483647) (hm : m < 128) (hd : [d0, d1, d2, d3, d4] = [c0, c1, c2, c3, c4].set k (m : Int)) :
    (digs n).length = k + 1 ∧ [d0, d1, d2, d3, d4] = digs n ++ List.replicate (5 - (k + 1)) 0 := by
  have hk := digAt_k4 h hn
  obtain ⟨_, pre, hp, he, hc⟩ := h
  rw [digs_small m hm] at he
  refine ⟨by rw [← he]; simp [hp], ?_⟩
  rw [hd, hc, List.set_append_right _ _ (by omega), hp, Nat.sub_self]
  have : 5 - k = (5 - (k + 1)) + 1 := by omega
  rw [this, List.replicate_succ, List.set_cons_zero, ← he, List.append_assoc]
  rfl

set_option maxHeartbeats 1600000 in
theorem numDigits_yes (n : Nat) (w : World) (hn : n ≤ 2147483647) :
    Calls Try.prog 52 #[.int .i64 n] w fun e w' => ∃ c0 c1 c2 c3 c4 : Int, e = .returned (.tuple #[.agg #[.int .u8 c0, .int .u8 c1, .int .u8 c2, .int .u8 c3, .int .u8 c4], .int .i64 ((digs n).length : Nat)]) ∧
      [c0, c1, c2, c3, c4] = digs n ++ List.replicate (5 - (digs n).length) 0 ∧ Below w.heap.size w w' := by
  have hb1 : ¬ ((n : Int) < 0) := by omega
  have hb2 : ¬ ((2147483647 : Int) < n) := by omega
  have hd1 : decide ((n : Int) < 0) = false := by simp
  have hd2 : decide ((2147483647 : Int) < n) = false := by simp; omega
  go_enter Try.func52, Try.ntmps52
  go_wp2
  go_loopw [0, 5] (fun n' u wr => ∃ (m k : Nat) (c0 c1 c2 c3 c4 : Int), m ≤ 2147483647 ∧ n' = .int .i64 m ∧ u = .int .i64 k ∧ DigAt n k m c0 c1 c2 c3 c4 ∧
      wr = (w.alloc (.cells #[.int .u8 0, .int .u8 0, .int .u8 0, .int .u8 0, .int .u8 0] 93)).alloc (.cells #[.int .u8 c0, .int .u8 c1, .int .u8 c2, .int .u8 c3, .int .u8 c4] 93)) (fun n' _ _ => (intOf n').toNat)
  case atStart => exact ⟨n, 0, 0, 0, 0, 0, 0, hn, rfl, rfl, ⟨by simpa using hn, [], rfl, by simp, rfl⟩, rfl⟩
  case round =>
    obtain ⟨m, k, c0, c1, c2, c3, c4, hm, rfl, rfl, hD, rfl⟩ := hrel
    by_cases hbig : (128 : Int) ≤ (m : Int)
    · have HN : Hid (∀ d0 d1 d2 d3 d4 : Int, [d0, d1, d2, d3, d4] = [c0, c1, c2, c3, c4].set k ((m : Int) % 128 + 128) → DigAt n (k + 1) (m / 128) d0 d1 d2 d3 d4) := fun _ _ _ _ _ => digAt_next hD (by omega)
      rcases digAt_k hD (by omega) with rfl | rfl | rfl | rfl
      all_goals
        clear hD
        go_wp2
        go_roundw
        case rel => exact ⟨m / 128, _, _, _, _, _, _, by omega, by go_num, rfl, HN.out _ _ _ _ _ rfl, rfl⟩
        case measure => simp [intOf]; omega
    · have HN : Hid (∀ d0 d1 d2 d3 d4 : Int, [d0, d1, d2, d3, d4] = [c0, c1, c2, c3, c4].set k (m : Int) → (digs n).length = k + 1 ∧ [d0, d1, d2, d3, d4] = digs n ++ List.replicate (5 - (k + 1)) 0) := fun _ _ _ _ _ => digAt_last hD hn (by omega)
      rcases digAt_k4 hD hn with rfl | rfl | rfl | rfl | rfl
      · clear hD
        go_wp2
        refine bodyPost_ret (v := .tuple #[.agg #[.int .u8 (m : Int), .int .u8 c1, .int .u8 c2, .int .u8 c3, .int .u8 c4], .int .i64 1]) (by simp [results, Try.results52, go_sem]) rfl ?_
        obtain ⟨h1, h2⟩ := HN.out (m : Int) c1 c2 c3 c4 rfl
        exact ⟨(m : Int), c1, c2, c3, c4, by rw [h1]; rfl, by rw [h1]; exact h2, below2 _ _ _⟩
      · clear hD
        go_wp2
        refine bodyPost_ret (v := .tuple #[.agg #[.int .u8 c0, .int .u8 (m : Int), .int .u8 c2, .int .u8 c3, .int .u8 c4], .int .i64 2]) (by simp [results, Try.results52, go_sem]) rfl ?_
        obtain ⟨h1, h2⟩ := HN.out c0 (m : Int) c2 c3 c4 rfl
        exact ⟨c0, (m : Int), c2, c3, c4, by rw [h1]; rfl, by rw [h1]; exact h2, below2 _ _ _⟩
      · clear hD
        go_wp2
        refine bodyPost_ret (v := .tuple #[.agg #[.int .u8 c0, .int .u8 c1, .int .u8 (m : Int), .int .u8 c3, .int .u8 c4], .int .i64 3]) (by simp [results, Try.results52, go_sem]) rfl ?_
        obtain ⟨h1, h2⟩ := HN.out c0 c1 (m : Int) c3 c4 rfl
        exact ⟨c0, c1, (m : Int), c3, c4, by rw [h1]; rfl, by rw [h1]; exact h2, below2 _ _ _⟩
      · clear hD
        go_wp2
        refine bodyPost_ret (v := .tuple #[.agg #[.int .u8 c0, .int .u8 c1, .int .u8 c2, .int .u8 (m : Int), .int .u8 c4], .int .i64 4]) (by simp [results, Try.results52, go_sem]) rfl ?_
        obtain ⟨h1, h2⟩ := HN.out c0 c1 c2 (m : Int) c4 rfl
        exact ⟨c0, c1, c2, (m : Int), c4, by rw [h1]; rfl, by rw [h1]; exact h2, below2 _ _ _⟩
      · clear hD
        go_wp2
        refine bodyPost_ret (v := .tuple #[.agg #[.int .u8 c0, .int .u8 c1, .int .u8 c2, .int .u8 c3, .int .u8 (m : Int)], .int .i64 5]) (by simp [results, Try.results52, go_sem]) rfl ?_
        obtain ⟨h1, h2⟩ := HN.out c0 c1 c2 c3 (m : Int) rfl
        exact ⟨c0, c1, c2, c3, (m : Int), by rw [h1]; rfl, by rw [h1]; exact h2, below2 _ _ _⟩
end Go.Proofs.Ytmdmiiikbdnioaa
/-
  The specification's PutNum: it makes a row of its own that holds its argument's bytes and those of the number behind them.
-/
namespace Go.Proofs.Ytmdmiiikbdnioaa
open Go.RowKit
set_option linter.unusedVariables false

set_option maxHeartbeats 800000 in
theorem spec_PutNum_no (a : Option Addr) (cap : Nat) (xs : List Int) (n : Int) (w : World) (hs : Seg w a xs) (hc : a = none → cap = 0) (hl : xs.length ≤ 2097152) (hn : n < 0 ∨ 2147483647 < n) :
    Calls Try.prog 30 #[.slice a xs.length cap, .int .i64 n] w fun e w' => ∃ v, e = .returned v ∧ Bts w' w.heap.size v (putNum xs n) ∧ Below w.heap.size w w' := by
  have hE := bts_empty w
  have hS1 : Seg (w.alloc (.cells #[] 5)) a xs := hs.grow ((Below.refl _ _).alloc (Nat.le_refl _) _)
  have hB1 : Below w.heap.size w (w.alloc (.cells #[] 5)) := (Below.refl _ _).alloc (Nat.le_refl _) _
  have Hp : Hid (putNum xs n = xs) := putNum_no xs n hn
  generalize hnn : xs.length = nn
  have Hnn : Hid (nn = xs.length) := hnn.symm
  clear hnn
  rcases hn with hn | hn
  · go_enter Try.func30, Try.ntmps30
    go_wp2_with (at_builtin; refine wpList_append_seg rfl _ _ rfl w.heap.size _ [] xs rfl hE a nn cap Hnn.out rfl hS1 hc (by simp; omega) (by simp) ?_; intro v2 w2 hv2 hg2)
    go_ret
    exact ⟨_, rfl, by rw [Hp.out]; exact hv2, hB1.grown hg2 (by simp) hE.own⟩
  · have hn0 : ¬ n < 0 := by omega
    go_enter Try.func30, Try.ntmps30
    go_wp2_with (at_builtin; refine wpList_append_seg rfl _ _ rfl w.heap.size _ [] xs rfl hE a nn cap Hnn.out rfl hS1 hc (by simp; omega) (by simp) ?_; intro v2 w2 hv2 hg2)
    go_ret
    exact ⟨_, rfl, by rw [Hp.out]; exact hv2, hB1.grown hg2 (by simp) hE.own⟩

set_option maxHeartbeats 800000 in
theorem spec_PutNum_yes (a : Option Addr) (cap : Nat) (xs : List Int) (n : Int) (w : World) (hs : Seg w a xs) (hc : a = none → cap = 0) (hl : xs.length ≤ 2097152) (hn0 : 0 ≤ n) (hn1 : n ≤ 2147483647) :
    Calls Try.prog 30 #[.slice a xs.length cap, .int .i64 n] w fun e w' => ∃ v, e = .returned v ∧ Bts w' w.heap.size v (putNum xs n) ∧ Below w.heap.size w w' := by
  have hE := bts_empty w
  have hS1 : Seg (w.alloc (.cells #[] 5)) a xs := hs.grow ((Below.refl _ _).alloc (Nat.le_refl _) _)
  have hB1 : Below w.heap.size w (w.alloc (.cells #[] 5)) := (Below.refl _ _).alloc (Nat.le_refl _) _
  have Hp : Hid (putNum xs n = xs ++ digs n.toNat) := putNum_yes xs n hn0 hn1
  generalize hnn : xs.length = nn
  have Hnn : Hid (nn = xs.length) := hnn.symm
  clear hnn
  go_enter Try.func30, Try.ntmps30
  go_wp2_with (at_builtin; refine wpList_append_seg rfl _ _ rfl w.heap.size _ [] xs rfl hE a nn cap Hnn.out rfl hS1 hc (by simp; omega) (by simp) ?_; intro v2 w2 hv2 hg2)
  go_loopw [1, 5] (fun n' v wr => ∃ (m : Nat) (pre : List Int), m ≤ 2147483647 ∧ n' = .int .i64 m ∧ Bts wr w.heap.size v (xs ++ pre) ∧ pre ++ digs m = digs n.toNat ∧ Below w.heap.size w wr) (fun n' _ _ => (intOf n').toNat)
  case atStart => exact ⟨n.toNat, [], by omega, by rw [Int.toNat_of_nonneg hn0], by simpa using hv2, by simp, hB1.grown hg2 (by simp) hE.own⟩
  case round =>
    obtain ⟨m, pre, hm, rfl, hv, hpre, hbel⟩ := hrel
    have Hpre : Hid (pre ++ digs m = digs n.toNat) := hpre
    clear hpre hv2 hg2
    have hsz := hbel.size
    have hpl : pre.length ≤ 5 := by
      have h1 := congrArg List.length Hpre.out
      have h2 := digs_len n.toNat (by omega)
      simp at h1
      omega
    by_cases hbig : (127 : Int) < (m : Int)
    · have hc1 : Byt ((m : Int) % 128 + 128) := by unfold Byt; omega
      have hS2 := seg_one wr _ hc1
      have hv' := hv.alloc (.cells #[.int .u8 ((m : Int) % 128 + 128)] 5)
      have hB2 : Below w.heap.size w (wr.alloc (.cells #[.int .u8 ((m : Int) % 128 + 128)] 5)) := hbel.alloc (by omega) _
      go_wp2_with (at_builtin; refine wpList_append_seg rfl _ _ rfl w.heap.size _ (xs ++ pre) [(m : Int) % 128 + 128] rfl hv' (some ⟨wr.heap.size, 0, none⟩) 1 1 rfl rfl hS2 (by simp) (by simp; omega) (by simp; omega) ?_; intro v3 w3 hv3 hg3)
      go_roundw
      case rel =>
        refine ⟨m / 128, pre ++ [(m : Int) % 128 + 128], by omega, by go_num, by simpa using hv3, ?_, hB2.grown hg3 (by simp; omega) hv'.own⟩
        rw [← Hpre.out, digs_big m (by omega)]
        simp
      case measure => simp [intOf]; omega
    · have hc1 : Byt (m : Int) := by unfold Byt; omega
      have hS2 := seg_one wr _ hc1
      have hv' := hv.alloc (.cells #[.int .u8 (m : Int)] 5)
      have hB2 : Below w.heap.size w (wr.alloc (.cells #[.int .u8 (m : Int)] 5)) := hbel.alloc (by omega) _
      go_wp2_with (at_builtin; refine wpList_append_seg rfl _ _ rfl w.heap.size _ (xs ++ pre) [(m : Int)] rfl hv' (some ⟨wr.heap.size, 0, none⟩) 1 1 rfl rfl hS2 (by simp) (by simp; omega) (by simp; omega) ?_; intro v3 w3 hv3 hg3)
      go_ret
      refine ⟨_, rfl, ?_, hB2.grown hg3 (by simp; omega) hv'.own⟩
      rw [Hp.out, ← Hpre.out, digs_small m (by omega), ← List.append_assoc]
      exact hv3

theorem spec_PutNum_any (a : Option Addr) (cap : Nat) (xs : List Int) (n : Int) (w : World) (hs : Seg w a xs) (hc : a = none → cap = 0) (hl : xs.length ≤ 2097152) :
    Calls Try.prog 30 #[.slice a xs.length cap, .int .i64 n] w fun e w' => ∃ v, e = .returned v ∧ Bts w' w.heap.size v (putNum xs n) ∧ Below w.heap.size w w' := by
  by_cases h : n < 0 ∨ 2147483647 < n
  · exact spec_PutNum_no a cap xs n w hs hc hl h
  · exact spec_PutNum_yes a cap xs n w hs hc hl (by omega) (by omega)

end Go.Proofs.Ytmdmiiikbdnioaa
