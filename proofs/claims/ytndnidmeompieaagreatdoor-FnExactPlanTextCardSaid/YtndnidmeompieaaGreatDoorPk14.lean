/-
  Texts that a law leans on, one behind the other; no statement is proved here.
-/
import Derived.Test.YtndnidmeompieaaGreatDoorPk6
import Derived.Test.YtndnidmeompieaaGreatDoorPk13
import Derived.Test.YtndnidmeompieaaGreatDoorPk12
/-
  toActS, toPlan: a list of acts copied, each in blocks of its own; what marks it.
-/
namespace Go.Proofs.YtndnidmeompieaaGreatDoor
open Go.RowKit
set_option linter.unusedVariables false
set_option linter.unusedSimpArgs false

/-- A row of records of the call's own: the first k of them, record i in blocks from s i on and ahead of s (i + 1). -/
def RLO (w : World) (d g : Nat) (l : List (Rcd d)) (s : Nat → Nat) (k : Nat) : Prop :=
  w.there g 0 (l.length * 9) ∧ g < s 0 ∧ (∀ i, i < k → s i ≤ s (i + 1)) ∧ s k ≤ w.heap.size ∧ ∀ i (h : i < l.length), i < k → ∃ cs B, w.rangeAt g (i * 9) cs ∧ ROwn w d cs l[i] B ∧ ∀ b ∈ B, s i ≤ b ∧ b < s (i + 1)

theorem win_mono {s : Nat → Nat} {k : Nat} (h : ∀ i, i < k → s i ≤ s (i + 1)) : ∀ j i, i ≤ j → j ≤ k → s i ≤ s j
  | 0, i, hi, _ => by
    obtain rfl : i = 0 := by omega
    exact Nat.le_refl _
  | j + 1, i, hi, hj => by
    by_cases e : i = j + 1
    · subst e; exact Nat.le_refl _
    · exact Nat.le_trans (win_mono h j i (by omega) (by omega)) (h j (by omega))

theorem ROwn.len {w : World} {d : Nat} {cs : List Value} {it : Rcd d} {B : List Nat} (h : ROwn w d cs it B) : cs.length = 9 := RSg.len h.read

theorem rlo_next {wr w2 : World} {g d : Nat} {l : List (Rcd d)} {s : Nat → Nat} {k : Nat} {cs : List Value} {B : List Nat} (h : RLO wr d g l s k) (hk : k < l.length) (b2 : Below wr.heap.size wr w2) (hs : ROwn w2 d cs l[k] B) (hB : ∀ b ∈ B, wr.heap.size ≤ b ∧ b < w2.heap.size) :
    w2.there g (k * 9) 9 ∧ RLO (w2.setCells g (k * 9) cs) d g l (fun i => if i ≤ k then s i else w2.heap.size) (k + 1) := by
  obtain ⟨h1, h2, h3, h4, h5⟩ := h
  have hlen := hs.len
  have hg0 : g < wr.heap.size := by have := win_mono h3 k 0 (by omega) (by omega); omega
  have hth := there_below h1 hg0 b2
  have hg := grown_setCells g cs (k * 9) w2
  have hz := b2.size
  have hz2 := hg.size
  have htk := there_cut hth (k * 9) 9 (by omega)
  refine ⟨htk, World.there_setCells hth _ _ _, by simpa using h2, fun i hi => ?_, by dsimp only; rw [if_neg (by omega)]; exact hz2, fun i hi hik => ?_⟩
  · by_cases e : i = k
    · subst e
      dsimp only
      rw [if_pos (by omega), if_neg (by omega)]
      omega
    · dsimp only
      rw [if_pos (by omega), if_pos (by omega)]
      exact h3 i (by omega)
  · by_cases e : i = k
    · subst e
      refine ⟨cs, B, World.rangeAt_setCells_same _ _ _ _ (by rw [hlen]; exact htk), hs.agree (fun b hb => hg.block b (hB b hb).2 (by have := (hB b hb).1; simp; omega)), fun b hb => ?_⟩
      dsimp only
      rw [if_pos (by omega), if_neg (by omega)]
      have := hB b hb
      omega
    · obtain ⟨cs', B', hr, hv, hB'⟩ := h5 i hi (by omega)
      have hl' := hv.len
      have hw1 := win_mono h3 i 0 (by omega) (by omega)
      have hw2 := win_mono h3 k (i + 1) (by omega) (by omega)
      refine ⟨cs', B', World.rangeAt_setCells_apart (range_keep hr hg0 b2) _ _ _ (by omega), hv.agree (fun b hb => ?_), fun b hb => ?_⟩
      · have hb' := hB' b hb
        exact (hg.block b (by omega) (by simp; omega)).trans (b2.block b (by omega))
      · dsimp only
        rw [if_pos (by omega), if_pos (by omega)]
        exact hB' b hb

/-- What toActS leaves, in blocks of its own. -/
def RLEnd (d : Nat) (l : List (Rcd d)) (w : World) (e : Ending) (w' : World) : Prop := ∃ g c s, e = .returned (.slice (some ⟨g, 0, none⟩) l.length c) ∧ l.length ≤ c ∧ c ≤ maxLen ∧ RLO w' d g l s l.length ∧ w.heap.size ≤ g ∧ Below w.heap.size w w'

set_option maxHeartbeats 3200000 in
set_option maxRecDepth 100000 in
theorem toActSO_any (d N : Nat) (x : Value) (l : List (Rcd d)) (w : World) (hx : RLSg (fun b => b < N) w d x l) (hN : N ≤ w.heap.size) (hn : l.length ≤ 1048576) (hz : ∀ i (h : i < l.length), RSz d l[i]) :
    Calls Tryz.prog 19 #[x] w (RLEnd d l w) := by
  have HX := hide' hx
  have HZ := hide' hz
  obtain ⟨a, cap, rfl, _, _, _, _⟩ := hx
  obtain ⟨i0, hi, hz0, hz1, hz2⟩ := info_parts infoRc
  clear hz
  go_enter Tryz.func19, Tryz.ntmps19
  go_wp2_with (refine wpList_make_full _ rfl _ _ 28 rfl w.heap.size 43 i0 (.agg #[.int .i64 0, .slice none 0 0, .int .i64 0, .int .i64 0, .int .i64 0, .slice none 0 0, .slice none 0 0, .slice none 0 0, .slice none 0 0]) 9 Tryz.underlying28 hi hz0 hz1 .i64 .i64 _ _ l.length rfl rfl rfl rfl (by rw [hz2]; omega) (by unfold maxLen; omega) (Nat.le_refl _) ?_; intro w1 hown hgrow)
  have hK0 : Hid (RLO w1 d w.heap.size l (fun _ => w1.heap.size) 0) := by
    rcases hown.2 with ⟨h1, _⟩ | ⟨g, cp, cur, h1, _, h3, _, _, h6, _⟩
    · simp at h1
    · simp only [Value.slice.injEq, Option.some.injEq, Addr.mk.injEq, and_true, true_and] at h1
      obtain ⟨e1, e2⟩ := h1
      subst e1
      refine ⟨?_, (Array.getElem?_eq_some_iff.1 h3).1, fun i h => by omega, Nat.le_refl _, fun i hi h => by omega⟩
      have := there_of_row h3
      rw [h6, ← e2] at this
      exact this
  have hb1 : Below w.heap.size w w1 := (Below.refl _ _).grown hgrow (Nat.le_refl _) (by simp)
  clear hown hgrow
  go_loopw [4] (fun i wr => ∃ (k : Nat) (s : Nat → Nat), k ≤ l.length ∧ i = .int .i64 k ∧ Hid (RLO wr d w.heap.size l s k) ∧ Below w.heap.size w wr) (fun i _ => l.length - (intOf i).toNat)
  case atStart => exact ⟨0, _, Nat.zero_le _, rfl, hK0, hb1⟩
  case round =>
    obtain ⟨k, s, hk, rfl, hK, hbel⟩ := hrel
    clear hK0 hb1
    have hzz := hbel.size
    by_cases hlt : k < l.length
    · have hlt' : (k : Int) < (l.length : Int) := by omega
      have hXr := HX.out.agree (agree_below (hbel.mono hN))
      obtain ⟨b, off, cs, rfl, hbN, hr, hs⟩ := hXr.at hlt
      have HC := hide' (toActO_any d N cs l[k] wr hs (by omega) (HZ.out k hlt))
      have hlen := hs.len
      clear hs hXr
      go_wp2_with (refine wpList_load_mid rfl 60 (.tmp 18) (by rfl) b (off + k * 9) (by rfl) cs _ hr Tryz.underlying60 rfl (info_laws_Act hlen) ?_)
      refine HC.out.mono ?_
      rintro e w2 ⟨cs2, rfl, B2, hs2, hB2, b2⟩
      obtain ⟨hth, hP⟩ := rlo_next hK.out hlt b2 hs2 hB2
      have hl2 := hs2.len
      have HP := hide' hP
      have hone := all_oneCell_toArray (RSg.one hs2.read)
      have hsz2 : cs2.toArray.size = 9 := by simpa using hl2
      have hth' : w2.there w.heap.size (k * 9) cs2.toArray.size := by rw [hsz2]; exact hth
      have hB := hide' ((Below.on hbel b2).grown (grown_setCells w.heap.size cs2 (k * 9) w2) (Below.on hbel b2).size (by intro j hj; simp at hj; omega))
      clear hP hs2 hB2 b2 hbel hr HC
      go_wp2_with (refine wpList_store_mid rfl 43 (.tmp 21) (.tmp 20) (by rfl) w.heap.size (k * 9) cs2.toArray (by rfl) (by rfl) hth' (info_Act hsz2) hone ?_)
      go_roundw
      case rel => exact ⟨k + 1, _, by omega, by go_num, HP, hB.out⟩
      case measure => simp [intOf]; omega
    · have hkn : k = l.length := by omega
      have hkn' : ¬ (k : Int) < (l.length : Int) := by omega
      have HF : Hid (RLO wr d w.heap.size l s l.length) := by rw [← hkn]; exact hK
      clear hkn hK
      go_wp2
      go_ret
      exact ⟨_, _, s, rfl, Nat.le_refl _, by unfold maxLen; omega, HF.out, Nat.le_refl _, hbel⟩

/-- A plan of the call's own: its acts' row and their blocks are just B. -/
def POwn (w : World) (d : Nat) (cs : List Value) (p : List (Rcd d) × Int) (B : List Nat) : Prop :=
  ∃ g c s, cs = [.slice (some ⟨g, 0, none⟩) p.1.length c, .int .i64 p.2] ∧ p.1.length ≤ c ∧ c ≤ maxLen ∧ RLO w d g p.1 s p.1.length ∧ B = List.range' g (s p.1.length - g)

variable {w w' : World} {d : Nat} {cs : List Value} {p : List (Rcd d) × Int} {B : List Nat}
theorem rlo_win {g : Nat} {l : List (Rcd d)} {s : Nat → Nat} (h : RLO w d g l s l.length) : g < s l.length := by
  have := win_mono h.2.2.1 l.length 0 (by omega) (by omega)
  have := h.2.1
  omega
theorem POwn.lt (h : POwn w d cs p B) : ∀ b ∈ B, b < w.heap.size := by
  obtain ⟨g, c, s, rfl, _, _, hR, rfl⟩ := h
  intro b hb
  have h1 := hR.2.2.2.1
  have h2 := rlo_win hR
  simp only [List.mem_range'_1] at hb
  omega
theorem rlo_agree {g : Nat} {l : List (Rcd d)} {s : Nat → Nat} (h : RLO w d g l s l.length) (hz : w.heap.size ≤ w'.heap.size) (ha : ∀ b, g ≤ b → b < s l.length → w'.heap[b]? = w.heap[b]?) : RLO w' d g l s l.length := by
  have hw := rlo_win h
  obtain ⟨h1, h2, h3, h4, h5⟩ := h
  refine ⟨fun j hj => ?_, h2, h3, by omega, fun i hi hik => ?_⟩
  · obtain ⟨q1, q2⟩ := h1 j hj
    exact ⟨by rw [World.cell?_of_block (w := w) (w' := w') (ha g (Nat.le_refl _) hw)]; exact q1, by rw [World.frozen?_of_block (w := w) (w' := w') (ha g (Nat.le_refl _) hw)]; exact q2⟩
  · obtain ⟨cs, B, hr, ho, hB⟩ := h5 i hi hik
    have hw1 := win_mono h3 i 0 (by omega) (by omega)
    have hw2 := win_mono h3 l.length (i + 1) (by omega) (by omega)
    exact ⟨cs, B, fun j v hv => (World.cell?_of_block (ha g (Nat.le_refl _) hw)).trans (hr j v hv), ho.agree fun b hb => ha b (by have := hB b hb; omega) (by have := hB b hb; omega), hB⟩
theorem POwn.on (h : POwn w d cs p B) (hb : Below w.heap.size w w') : POwn w' d cs p B := by
  obtain ⟨g, c, s, rfl, h1, h2, hR, rfl⟩ := h
  exact ⟨g, c, s, rfl, h1, h2, rlo_agree hR hb.size fun b _ hb2 => hb.block b (by have := hR.2.2.2.1; omega), rfl⟩
theorem POwn.read (h : POwn w d cs p B) : ∃ x, cs = [x, .int .i64 p.2] ∧ RLSg (fun b => b < w.heap.size) w d x p.1 := by
  obtain ⟨g, c, s, rfl, h1, h2, hR, rfl⟩ := h
  have hw := rlo_win hR
  have h4 := hR.2.2.2.1
  refine ⟨_, rfl, _, _, rfl, h1, h2, by simp, .inr ⟨g, 0, rfl, by omega, fun i hi => ?_⟩⟩
  obtain ⟨cs, B, hr, ho, hB⟩ := hR.2.2.2.2 i hi hi
  exact ⟨cs, by rw [Nat.zero_add]; exact hr, ho.read⟩
end Go.Proofs.YtndnidmeompieaaGreatDoor
/-
  markActS, markPlan: all that a list of acts of the call's own holds is marked, and nothing else is turned.
-/
namespace Go.Proofs.YtndnidmeompieaaGreatDoor
open Go.RowKit
set_option linter.unusedVariables false
set_option linter.unusedSimpArgs false

/-- Record i as it was, in blocks of its window. -/
def Whole1 (w : World) (d g : Nat) (s : Nat → Nat) (it : Rcd d) (i : Nat) : Prop := ∃ cs B, w.rangeAt g (i * 9) cs ∧ ROwn w d cs it B ∧ ∀ b ∈ B, s i ≤ b ∧ b < s (i + 1)

/-- What stands while the records from k on are still as they were. -/
def MkS (w0 : World) (d g : Nat) (l : List (Rcd d)) (s : Nat → Nat) (k : Nat) (w : World) : Prop :=
  w.there g 0 (l.length * 9) ∧ (∀ i (h : i < l.length), k ≤ i → Whole1 w d g s l[i] i) ∧ Turned (List.range' g (s l.length - g)) w0 w

/-- The same while record k is being marked; its five slices stand in their cells. -/
def MkK9 (w0 : World) (d g : Nat) (l : List (Rcd d)) (s : Nat → Nat) (k : Nat) (c1 c5 c6 c7 c8 : Value) (w : World) : Prop :=
  MkS w0 d g l s (k + 1) w ∧ w.cell? ⟨g, k * 9 + 1, none⟩ = some c1 ∧ w.cell? ⟨g, k * 9 + 3 + 2, none⟩ = some c5 ∧ w.cell? ⟨g, k * 9 + 3 + 3, none⟩ = some c6 ∧ w.cell? ⟨g, k * 9 + 3 + 4, none⟩ = some c7 ∧ w.cell? ⟨g, k * 9 + 8, none⟩ = some c8

theorem cell_store_ne {w : World} {g o : Nat} {v : Value} {x : Addr} (h : x.block = g → x.spot = none → x.off ≠ o) : (w.setCell ⟨g, o, none⟩ v).cell? x = w.cell? x := World.cell?_setCells_out g [v] o w x (fun e1 e2 => by have := h e1 e2; simp; omega)

variable {w0 w w' : World} {d g k : Nat} {l : List (Rcd d)} {s : Nat → Nat} {c1 c5 c6 c7 c8 : Value}

theorem mks_store (h : MkS w0 d g l s (k + 1) w) (hw : ∀ i, i < l.length → s i ≤ s (i + 1)) (hg0 : g < s 0) (hk : k < l.length) (j : Nat) (hj : j < 9) (v : Value) : MkS w0 d g l s (k + 1) (w.setCell ⟨g, k * 9 + j, none⟩ v) := by
  obtain ⟨h1, h2, h3⟩ := h
  have hg := grown1 w g (k * 9 + j) v
  have hwin := win_mono hw l.length 0 (by omega) (by omega)
  refine ⟨?_, fun i hi hik => ?_, ?_⟩
  · have := World.there_setCells h1 g (k * 9 + j) [v]
    exact this
  · obtain ⟨cs, B, hr, ho, hB⟩ := h2 i hi hik
    have hl := ho.len
    have hw1 := win_mono hw i 0 (by omega) (by omega)
    refine ⟨cs, B, fun q u hu => ?_, ho.agree fun b hb => ?_, hB⟩
    · have hq : q < 9 := by rw [← hl]; exact (List.getElem?_eq_some_iff.1 hu).1
      rw [← hr q u hu]
      exact cell_store_ne (by intro _ _; simp; omega)
    · have hb' := hB b hb
      exact hg.block b (ho.lt b hb) (by simp; omega)
  · refine h3.trans (Turned.of_grown hg fun b hb => ?_)
    simp at hb
    subst hb
    simp only [List.mem_range'_1]
    omega

theorem mks_mark {C : List Nat} (h : MkS w0 d g l s (k + 1) w) (hw : ∀ i, i < l.length → s i ≤ s (i + 1)) (hg0 : g < s 0) (hk : k < l.length) (hT : Turned C w w') (hC : ∀ b ∈ C, s k ≤ b ∧ b < s (k + 1)) (hgl : g < w.heap.size) : MkS w0 d g l s (k + 1) w' := by
  obtain ⟨h1, h2, h3⟩ := h
  have hgC : g ∉ C := fun hm => by have := hC g hm; have := win_mono hw k 0 (by omega) (by omega); omega
  have hgb := hT.block g hgl hgC
  refine ⟨fun q hq => ?_, fun i hi hik => ?_, h3.trans (hT.mono fun b hb => ?_)⟩
  · obtain ⟨q1, q2⟩ := h1 q hq
    exact ⟨by rw [World.cell?_of_block (w := w) (w' := w') hgb]; exact q1, by rw [World.frozen?_of_block (w := w) (w' := w') hgb]; exact q2⟩
  · obtain ⟨cs, B, hr, ho, hB⟩ := h2 i hi hik
    have hw1 := win_mono hw i (k + 1) (by omega) (by omega)
    refine ⟨cs, B, fun q u hu => (World.cell?_of_block hgb).trans (hr q u hu), ho.agree fun b hb => hT.block b (ho.lt b hb) fun hm => ?_, hB⟩
    have e1 := hB b hb
    have e2 := hC b hm
    omega
  · have e2 := hC b hb
    have hw1 := win_mono hw l.length (k + 1) (by omega) (by omega)
    have hw2 := win_mono hw k 0 (by omega) (by omega)
    simp only [List.mem_range'_1]
    omega

theorem mk9_store (h : MkK9 w0 d g l s k c1 c5 c6 c7 c8 w) (hw : ∀ i, i < l.length → s i ≤ s (i + 1)) (hg0 : g < s 0) (hk : k < l.length) (j : Nat) (hj : j = 0 ∨ j = 2 ∨ j = 3 ∨ j = 4) (v : Value) : MkK9 w0 d g l s k c1 c5 c6 c7 c8 (w.setCell ⟨g, k * 9 + j, none⟩ v) := by
  obtain ⟨h1, q1, q5, q6, q7, q8⟩ := h
  refine ⟨mks_store h1 hw hg0 hk j (by omega) v, ?_, ?_, ?_, ?_, ?_⟩
  · rw [← q1]; exact cell_store_ne (by intro _ _; simp; omega)
  · rw [← q5]; exact cell_store_ne (by intro _ _; simp; omega)
  · rw [← q6]; exact cell_store_ne (by intro _ _; simp; omega)
  · rw [← q7]; exact cell_store_ne (by intro _ _; simp; omega)
  · rw [← q8]; exact cell_store_ne (by intro _ _; simp; omega)

theorem mk9_lt (h : MkK9 w0 d g l s k c1 c5 c6 c7 c8 w) : g < w.heap.size := World.block_lt_of_cell? w _ h.2.1
theorem mk9_mark {C : List Nat} (h : MkK9 w0 d g l s k c1 c5 c6 c7 c8 w) (hw : ∀ i, i < l.length → s i ≤ s (i + 1)) (hg0 : g < s 0) (hk : k < l.length) (hT : Turned C w w') (hC : ∀ b ∈ C, s k ≤ b ∧ b < s (k + 1)) : MkK9 w0 d g l s k c1 c5 c6 c7 c8 w' := by
  have hgl := mk9_lt h
  obtain ⟨h1, q1, q5, q6, q7, q8⟩ := h
  have hgC : g ∉ C := fun hm => by have := hC g hm; have := win_mono hw k 0 (by omega) (by omega); omega
  have hgb := hT.block g hgl hgC
  exact ⟨mks_mark h1 hw hg0 hk hT hC hgl, (World.cell?_of_block hgb).trans q1, (World.cell?_of_block hgb).trans q5, (World.cell?_of_block hgb).trans q6, (World.cell?_of_block hgb).trans q7, (World.cell?_of_block hgb).trans q8⟩

theorem mk9_cell (h : MkK9 w0 d g l s k c1 c5 c6 c7 c8 w) (hk : k < l.length) (j : Nat) (hj : j < 9) : (∃ y, w.cell? ⟨g, k * 9 + j, none⟩ = some y) ∧ w.frozen? ⟨g, k * 9 + j, none⟩ = false := by
  obtain ⟨q1, q2⟩ := h.1.1 (k * 9 + j) (by omega)
  rw [Nat.zero_add] at q1 q2
  exact ⟨Option.isSome_iff_exists.1 q1, q2⟩
end Go.Proofs.YtndnidmeompieaaGreatDoor
/-
  markActS, markPlan: the walk.
-/
namespace Go.Proofs.YtndnidmeompieaaGreatDoor
open Go.RowKit
set_option linter.unusedVariables false
set_option linter.unusedSimpArgs false

theorem mk9_start {w0 wr : World} {d g k : Nat} {l : List (Rcd d)} {s : Nat → Nat} {c0 c1 c2 c3 c4 c5 c6 c7 c8 : Value} (h : MkS w0 d g l s k wr) (hr : wr.rangeAt g (k * 9) [c0, c1, c2, c3, c4, c5, c6, c7, c8]) : MkK9 w0 d g l s k c1 c5 c6 c7 c8 wr :=
  ⟨⟨h.1, fun i hi hik => h.2.1 i hi (by omega), h.2.2⟩, hr 1 _ rfl, hr 5 _ rfl, hr 6 _ rfl, hr 7 _ rfl, hr 8 _ rfl⟩

set_option maxHeartbeats 6400000 in
set_option maxRecDepth 100000 in
theorem markActS_any (d g c : Nat) (l : List (Rcd (d + 1))) (s : Nat → Nat) (w : World) (h : RLO w (d + 1) g l s l.length) (hn : l.length ≤ 1048576) (hz : ∀ i (h : i < l.length), RSz (d + 1) l[i]) :
    Calls Tryz.prog 24 #[.slice (some ⟨g, 0, none⟩) l.length c, .int .i64 1] w fun e w' => (∃ n : Nat, e = .returned (.int .i64 (n : Int)) ∧ n ≤ 1125899906842624) ∧ Turned (List.range' g (s l.length - g)) w w' := by
  have HZ := hide' hz
  have hw : ∀ i, i < l.length → s i ≤ s (i + 1) := h.2.2.1
  have hg0 : g < s 0 := h.2.1
  have H0 : Hid (MkS w (d + 1) g l s 0 w) := ⟨h.1, fun i hi _ => h.2.2.2.2 i hi hi, Turned.refl _ _⟩
  have HW := hide' hw
  have HG := hide' hg0
  clear h hz hw hg0
  go_enter Tryz.func24, Tryz.ntmps24
  go_wp2
  go_loopw [1, 5] (fun m i wr => ∃ (k q : Nat), k ≤ l.length ∧ i = .int .i64 k ∧ m = .int .i64 (q : Int) ∧ q ≤ 1 + k * 536870912 ∧ Hid (MkS w (d + 1) g l s k wr)) (fun _ i _ => l.length - (intOf i).toNat)
  case atStart => exact ⟨0, 1, Nat.zero_le _, rfl, rfl, by omega, H0⟩
  case round =>
    clear H0
    obtain ⟨k, q, hk, rfl, rfl, hq, hS⟩ := hrel
    by_cases hlt : k < l.length
    rotate_left
    · have hlt' : ¬ (k : Int) < (l.length : Int) := by omega
      have HF := hide' hS.out.2.2
      clear hS
      go_wp2
      go_ret
      exact ⟨⟨q, rfl, by omega⟩, HF.out⟩
    have hlt' : (k : Int) < (l.length : Int) := by omega
    obtain ⟨cs, B, hr, ho, hB⟩ := hS.out.2.1 k hlt (Nat.le_refl _)
    obtain ⟨c1, c3, c4, c5, c6, c7, c8, B1, B2, B3, rfl, h1, h2, h3, rfl, s1, s2, d1, d2, d3, s12⟩ := ho
    have hm9 := mk9_start hS.out hr
    obtain ⟨z0, z1, z2⟩ := HZ.out k hlt
    have hl1 := h1.lt
    have hl3 := h3.lt
    obtain ⟨-, -, Bs, Bk, Bl, t5, t6, t7, hB2, hnd⟩ := (VOwn_succ _ _ _ _ _).1 h2
    have hl5 := t5.lt
    have hl6 := t6.lt
    have hl7 := t7.lt
    rw [hB2, List.nodup_append, List.nodup_append] at hnd
    obtain ⟨-, ⟨-, -, n2⟩, n1⟩ := hnd
    subst hB2
    have dsk : ∀ b ∈ Bk, b ∉ Bs := fun b hb hs => n1 b hs b (List.mem_append_left _ hb) rfl
    have dsl : ∀ b ∈ Bl, b ∉ Bs := fun b hb hs => n1 b hs b (List.mem_append_right _ hb) rfl
    have dkl : ∀ b ∈ Bl, b ∉ Bk := fun b hb hs => n2 b hs b hb rfl
    have w1 : ∀ b ∈ B1, s k ≤ b ∧ b < s (k + 1) := fun b hb => hB b (by simp [hb])
    have w5 : ∀ b ∈ Bs, s k ≤ b ∧ b < s (k + 1) := fun b hb => hB b (by simp [hb])
    have w6 : ∀ b ∈ Bk, s k ≤ b ∧ b < s (k + 1) := fun b hb => hB b (by simp [hb])
    have w7 : ∀ b ∈ Bl, s k ≤ b ∧ b < s (k + 1) := fun b hb => hB b (by simp [hb])
    have w8 : ∀ b ∈ B3, s k ≤ b ∧ b < s (k + 1) := fun b hb => hB b (by simp [hb])
    have e5 : ∀ b ∈ Bs, s1 ≤ b ∧ b < s2 := fun b hb => d2 b (by simp [hb])
    have e6 : ∀ b ∈ Bk, s1 ≤ b ∧ b < s2 := fun b hb => d2 b (by simp [hb])
    have e7 : ∀ b ∈ Bl, s1 ≤ b ∧ b < s2 := fun b hb => d2 b (by simp [hb])
    have hgw : ∀ b, s k ≤ b → g ≠ b := fun b hb e => by have h1 := win_mono HW.out k 0 (by omega) (by omega); have h2 := HG.out; omega
    clear h2 hr hS hB d2 n1 n2
    generalize hit : l[k] = it at *
    obtain ⟨kk, ad, jj, vv, ds⟩ := it
    obtain ⟨vk, vn, vS, vK, vL⟩ := vv
    simp only at h1 h3 t5 t6 t7 z0 z1 z2
    have hz' : szV (d + 1) (vk, vn, vS, vK, vL) = vS.length + szK vK + szL d vL := rfl
    have hkz : szK vK = vK.length + (vK.map List.length).sum := rfl
    have hkz3 : szK ds = ds.length + (ds.map List.length).sum := rfl
    have hsl : (vL.map (cE d)).sum ≤ 2097152 := by
      have h5 := sum_cE (cE_sz d) vL
      have h6 : szL d vL = vL.length + (vL.map (szV d)).sum := rfl
      omega
    obtain ⟨a1, p1, rfl, -⟩ := h1.seg
    obtain ⟨a5, p5, rfl, -⟩ := t5.seg
    obtain ⟨a6, p6, rfl, -⟩ := t6.seg
    have hlf : ∃ la lc, c7 = .slice la vL.length lc := by
      rcases t7 with ⟨e, e', _⟩ | ⟨_, _, _, _, e, _⟩
      · exact ⟨none, 0, by rw [e, e']; rfl⟩
      · exact ⟨_, _, e⟩
    obtain ⟨a7, p7, rfl⟩ := hlf
    obtain ⟨a8, p8, rfl, -⟩ := h3.seg
    obtain ⟨q2, hq2⟩ : ∃ q2 : Nat, q2 = q + 1 + ad.length := ⟨_, rfl⟩
    obtain ⟨q3, hq3⟩ : ∃ q3 : Nat, q3 = q2 + 1 + 1 + 1 + vS.length := ⟨_, rfl⟩
    obtain ⟨q4, hq4⟩ : ∃ q4 : Nat, q4 = q3 + (vK.map List.length).sum := ⟨_, rfl⟩
    obtain ⟨q5, hq5⟩ : ∃ q5 : Nat, q5 = q4 + (vL.map (cE d)).sum := ⟨_, rfl⟩
    obtain ⟨q6, hq6⟩ : ∃ q6 : Nat, q6 = q5 + (ds.map List.length).sum := ⟨_, rfl⟩
    have T0 : ∀ (wx : World) (o : Nat) (v : Value), Turned [g] wx (wx.setCell ⟨g, o, none⟩ v) := fun wx o v => Turned.of_grown (grown1 wx g o v) fun k e => by simp at e; simp [e]
    -- the five calls
    have HM1 : Hid (Calls Tryz.prog 11 #[.slice a1 ad.length p1, .int .i64 ((q : Int) + 1)] (wr.setCell ⟨g, k * 9, none⟩ (.int .i64 (q : Int))) fun e w' => e = .returned (.int .i64 (q2 : Int)) ∧ MkK9 w (d + 1) g l s k (.slice a1 ad.length p1) (.slice a5 vS.length p5) (.slice a6 vK.length p6) (.slice a7 vL.length p7) (.slice a8 ds.length p8) w' ∧ Turned (g :: B1) wr w') := by
      have hst := mk9_store hm9 HW.out HG.out hlt 0 (.inl rfl) (.int .i64 (q : Int))
      simp only [Nat.add_zero] at hst
      have ho := h1.agree (agree_turned (T0 wr (k * 9) (.int .i64 (q : Int))) hl1 fun b hb => by simp; exact fun e => hgw b (w1 b hb).1 e.symm)
      refine arg_eq (x := ((q + 1 : Nat) : Int)) (by push_cast; rfl) ((markByteS_F a1 p1 ad (q + 1) _ ho.1 (by omega) (by omega)).mono ?_)
      rintro e w' ⟨rfl, hb, hg⟩
      exact ⟨ret_i64 (by rw [hq2]), mk9_mark hst HW.out HG.out hlt (ho.turned hg) w1, ((T0 wr _ _).mono (by simp)).trans ((ho.turned hg).mono fun b hb => by simp [hb])⟩
    have HM2 : Hid (∀ wx, MkK9 w (d + 1) g l s k (.slice a1 ad.length p1) (.slice a5 vS.length p5) (.slice a6 vK.length p6) (.slice a7 vL.length p7) (.slice a8 ds.length p8) wx → Turned (g :: B1) wr wx → Calls Tryz.prog 11 #[.slice a5 vS.length p5, .int .i64 ((q2 : Int) + 1 + 1 + 1)] (((wx.setCell ⟨g, k * 9 + 2, none⟩ (.int .i64 (q2 : Int))).setCell ⟨g, k * 9 + 3, none⟩ (.int .i64 ((q2 : Int) + 1))).setCell ⟨g, k * 9 + 3 + 1, none⟩ (.int .i64 ((q2 : Int) + 1 + 1))) fun e w' => e = .returned (.int .i64 (q3 : Int)) ∧ MkK9 w (d + 1) g l s k (.slice a1 ad.length p1) (.slice a5 vS.length p5) (.slice a6 vK.length p6) (.slice a7 vL.length p7) (.slice a8 ds.length p8) w' ∧ Turned (g :: (B1 ++ Bs)) wr w') := fun wx hm hT => by
      have hst := mk9_store (mk9_store (mk9_store hm HW.out HG.out hlt 2 (by omega) (.int .i64 (q2 : Int))) HW.out HG.out hlt 3 (by omega) (.int .i64 ((q2 : Int) + 1))) HW.out HG.out hlt 4 (by omega) (.int .i64 ((q2 : Int) + 1 + 1))
      have hTT : Turned (g :: B1) wr (((wx.setCell ⟨g, k * 9 + 2, none⟩ (.int .i64 (q2 : Int))).setCell ⟨g, k * 9 + 3, none⟩ (.int .i64 ((q2 : Int) + 1))).setCell ⟨g, k * 9 + 4, none⟩ (.int .i64 ((q2 : Int) + 1 + 1))) := ((hT.trans ((T0 _ _ _).mono (by simp))).trans ((T0 _ _ _).mono (by simp))).trans ((T0 _ _ _).mono (by simp))
      have ho := t5.agree (agree_turned hTT hl5 fun b hb hm => by
        rcases List.mem_cons.1 hm with e | hm
        · exact hgw b (w5 b hb).1 e.symm
        · have f1 := e5 b hb; have f2 := d1 b hm; omega)
      refine arg_eq (x := ((q2 + 1 + 1 + 1 : Nat) : Int)) (by push_cast; rfl) ((markByteS_F a5 p5 vS (q2 + 1 + 1 + 1) _ ho.1 (by omega) (by omega)).mono ?_)
      rintro e w' ⟨rfl, hb, hg⟩
      exact ⟨ret_i64 (by rw [hq3]), mk9_mark hst HW.out HG.out hlt (ho.turned hg) w5, (hTT.mono fun b hb => by simp at hb ⊢; rcases hb with hb | hb <;> simp [hb]).trans ((ho.turned hg).mono fun b hb => by simp [hb])⟩
    have HM3 : Hid (∀ wx, MkK9 w (d + 1) g l s k (.slice a1 ad.length p1) (.slice a5 vS.length p5) (.slice a6 vK.length p6) (.slice a7 vL.length p7) (.slice a8 ds.length p8) wx → Turned (g :: (B1 ++ Bs)) wr wx → Calls Tryz.prog 36 #[.slice a6 vK.length p6, .int .i64 (q3 : Int)] wx fun e w' => e = .returned (.int .i64 (q4 : Int)) ∧ MkK9 w (d + 1) g l s k (.slice a1 ad.length p1) (.slice a5 vS.length p5) (.slice a6 vK.length p6) (.slice a7 vL.length p7) (.slice a8 ds.length p8) w' ∧ Turned (g :: (B1 ++ (Bs ++ Bk))) wr w') := fun wx hm hT => by
      have ho := t6.agree (agree_turned hT hl6 fun b hb hm => by
        simp only [List.mem_cons, List.mem_append] at hm
        rcases hm with e | hm | hm
        · exact hgw b (w6 b hb).1 e.symm
        · have f1 := e6 b hb; have f2 := d1 b hm; omega
        · exact dsk b hb hm)
      refine (markByteSS_any _ vK Bk q3 wx ho (by omega) (by omega)).mono ?_
      rintro e w' ⟨rfl, hb, hg⟩
      exact ⟨ret_i64 (by rw [hq4]), mk9_mark hm HW.out HG.out hlt hg w6, (hT.mono fun b hb => by simp at hb ⊢; rcases hb with hb | hb | hb <;> simp [hb]).trans (hg.mono fun b hb => by simp [hb])⟩
    have HM4 : Hid (∀ wx, MkK9 w (d + 1) g l s k (.slice a1 ad.length p1) (.slice a5 vS.length p5) (.slice a6 vK.length p6) (.slice a7 vL.length p7) (.slice a8 ds.length p8) wx → Turned (g :: (B1 ++ (Bs ++ Bk))) wr wx → Calls Tryz.prog 37 #[.slice a7 vL.length p7, .int .i64 (q4 : Int)] wx fun e w' => e = .returned (.int .i64 (q5 : Int)) ∧ MkK9 w (d + 1) g l s k (.slice a1 ad.length p1) (.slice a5 vS.length p5) (.slice a6 vK.length p6) (.slice a7 vL.length p7) (.slice a8 ds.length p8) w' ∧ Turned (g :: (B1 ++ (Bs ++ (Bk ++ Bl)))) wr w') := fun wx hm hT => by
      have ho := t7.agree (agree_turned hT hl7 fun b hb hm => by
        simp only [List.mem_cons, List.mem_append] at hm
        rcases hm with e | hm | hm | hm
        · exact hgw b (w7 b hb).1 e.symm
        · have f1 := e7 b hb; have f2 := d1 b hm; omega
        · exact dsl b hb hm
        · exact dkl b hb hm)
      refine (markValueS_any d _ vL Bl q4 wx ho (by omega) (by omega)).mono ?_
      rintro e w' ⟨rfl, hb, hg⟩
      exact ⟨ret_i64 (by rw [hq5]), mk9_mark hm HW.out HG.out hlt hg w7, (hT.mono fun b hb => by simp at hb ⊢; rcases hb with hb | hb | hb | hb <;> simp [hb]).trans (hg.mono fun b hb => by simp [hb])⟩
    have HM5 : Hid (∀ wx, MkK9 w (d + 1) g l s k (.slice a1 ad.length p1) (.slice a5 vS.length p5) (.slice a6 vK.length p6) (.slice a7 vL.length p7) (.slice a8 ds.length p8) wx → Turned (g :: (B1 ++ (Bs ++ (Bk ++ Bl)))) wr wx → Calls Tryz.prog 36 #[.slice a8 ds.length p8, .int .i64 (q5 : Int)] wx fun e w' => e = .returned (.int .i64 (q6 : Int)) ∧ Hid (MkS w (d + 1) g l s (k + 1) w')) := fun wx hm hT => by
      have ho := h3.agree (agree_turned hT hl3 fun b hb hm => by
        simp only [List.mem_cons, List.mem_append] at hm
        rcases hm with e | hm | hm | hm | hm
        · exact hgw b (w8 b hb).1 e.symm
        · have f1 := d3 b hb; have f2 := d1 b hm; omega
        · have f1 := d3 b hb; have f2 := e5 b hm; omega
        · have f1 := d3 b hb; have f2 := e6 b hm; omega
        · have f1 := d3 b hb; have f2 := e7 b hm; omega)
      refine (markByteSS_any _ ds B3 q5 wx ho (by omega) (by omega)).mono ?_
      rintro e w' ⟨rfl, hb, hg⟩
      exact ⟨ret_i64 (by rw [hq6]), (mk9_mark hm HW.out HG.out hlt hg w8).1⟩
    have HC : Hid (∀ wx, MkK9 w (d + 1) g l s k (.slice a1 ad.length p1) (.slice a5 vS.length p5) (.slice a6 vK.length p6) (.slice a7 vL.length p7) (.slice a8 ds.length p8) wx → ∀ j, j < 9 → (∃ y, wx.cell? ⟨g, k * 9 + j, none⟩ = some y) ∧ wx.frozen? ⟨g, k * 9 + j, none⟩ = false) := fun wx hm j hj => mk9_cell hm hlt j hj
    have hq6b : q6 ≤ 1 + (k + 1) * 536870912 := by omega
    have hq2b : q2 ≤ 1 + (k + 1) * 536870912 := by omega
    obtain ⟨⟨y0, hy0⟩, hf0⟩ := HC.out wr hm9 0 (by omega)
    simp only [Nat.add_zero] at hy0 hf0
    have hy1 := hm9.2.1
    clear hm9 h1 h3 t5 t6 t7 hl1 hl3 hl5 hl6 hl7 dsk dsl dkl w1 w5 w6 w7 w8 e5 e6 e7 d1 d3 s12 hgw z0 z1 z2 hz' hkz hkz3 hsl hit T0 hq2 hq3 hq4 hq5 hq6
    generalize ad.length = n1 at *
    generalize vS.length = n5 at *
    generalize vK.length = n6 at *
    generalize vL.length = n7 at *
    generalize ds.length = n8 at *
    go_wp2_with fail
    refine HM1.out.mono ?_
    rintro e x1 ⟨rfl, hm1, hT1⟩
    have HM2' := hide' (HM2.out _ hm1 hT1)
    obtain ⟨⟨y2, hy2⟩, hf2⟩ := HC.out x1 hm1 2 (by omega)
    obtain ⟨⟨y3, hy3⟩, hf3⟩ := HC.out x1 hm1 3 (by omega)
    obtain ⟨⟨y4, hy4⟩, hf4⟩ := HC.out x1 hm1 4 (by omega)
    have hy4' : x1.cell? ⟨g, k * 9 + 3 + 1, none⟩ = some y4 := hy4
    have hf4' : x1.frozen? ⟨g, k * 9 + 3 + 1, none⟩ = false := hf4
    have hy5 := hm1.2.2.1
    clear hm1 hT1 hy0 hf0 hy1 HM1 HM2
    go_wp2_with fail
    refine HM2'.out.mono ?_
    rintro e x2 ⟨rfl, hm2, hT2⟩
    have HM3' := hide' (HM3.out _ hm2 hT2)
    have hy6 := hm2.2.2.2.1
    clear hm2 hT2 hy2 hf2 hy3 hf3 hy4 hf4 hy4' hf4' hy5 HM2' HM3
    go_wp2_with fail
    refine HM3'.out.mono ?_
    rintro e x3 ⟨rfl, hm3, hT3⟩
    have HM4' := hide' (HM4.out _ hm3 hT3)
    have hy7 := hm3.2.2.2.2.1
    clear hm3 hT3 hy6 HM3' HM4
    go_wp2_with fail
    refine HM4'.out.mono ?_
    rintro e x4 ⟨rfl, hm4, hT4⟩
    have HM5' := hide' (HM5.out _ hm4 hT4)
    have hy8 := hm4.2.2.2.2.2
    clear hm4 hT4 hy7 HM4' HM5
    go_wp2_with fail
    refine HM5'.out.mono ?_
    rintro e x5 ⟨rfl, hS5⟩
    clear hy8 HM5'
    go_wp2
    go_roundw
    case rel => exact ⟨k + 1, q6, by omega, by go_num, rfl, hq6b, hS5⟩
    case measure => simp [intOf]; omega
end Go.Proofs.YtndnidmeompieaaGreatDoor
/-
  toPlan, markPlan: a plan copied, in blocks of its own; what marks it.
-/
namespace Go.Proofs.YtndnidmeompieaaGreatDoor
open Go.RowKit
set_option linter.unusedVariables false
set_option linter.unusedSimpArgs false

/-- What toPlan leaves, in blocks of its own. -/
def PlEndO (d : Nat) (l : List (Rcd d)) (s : Int) (w : World) (e : Ending) (w' : World) : Prop := ∃ cs, e = .returned (.agg cs.toArray) ∧ ∃ B, POwn w' d cs (l, s) B ∧ (∀ b ∈ B, w.heap.size ≤ b ∧ b < w'.heap.size) ∧ Below w.heap.size w w'

set_option maxHeartbeats 1600000 in
theorem toPlanO_any (d N : Nat) (x : Value) (l : List (Rcd d)) (s : Int) (w : World) (hx : RLSg (fun b => b < N) w d x l) (hN : N ≤ w.heap.size) (hn : l.length ≤ 1048576) (hz : ∀ i (h : i < l.length), RSz d l[i]) :
    Calls Tryz.prog 6 #[.agg #[x, .int .i64 s]] w (PlEndO d l s w) := by
  have H3 := hide' (bx_start w 24 30 #[x, .int .i64 s] #[.slice none 0 0, .int .i64 0] #[.slice none 0 0, .int .i64 0])
  have HX : Hid (∀ wx, Below w.heap.size w wx → Calls Tryz.prog 19 #[x] wx (RLEnd d l wx)) := fun wx hb => toActSO_any d N x l wx (hx.agree (agree_below (hb.mono hN))) (by have := hb.size; omega) hn hz
  obtain ⟨a, p, rfl⟩ := hx.form
  clear hx hz
  show Calls _ _ _ _ fun e w' => PlEndO d l s w e w'
  generalize hll : l.length = ll at *
  have Hll := hide' hll
  clear hll
  go_enter Tryz.func6, Tryz.ntmps6
  go_wp2_with fail
  refine (HX.out _ H3.out.1).mono ?_
  rintro e w1 ⟨ug, uc, us, rfl, hlc, hcm, hO, hug, b1⟩
  rw [Hll.out] at hlc ⊢
  have hq := bx_below H3.out b1
  have h3s := H3.out.2.2.2.2
  have hz1 := b1.size
  obtain ⟨x0, x1⟩ := two_row hq.2.1
  obtain ⟨y0, y1⟩ := two_row hq.2.2.1
  obtain ⟨c0, c1⟩ := two_row hq.2.2.2.1
  have yf0 := frozen_of_row _ _ 0 _ _ hq.2.2.1
  have yf1 := frozen_of_row _ _ 1 _ _ hq.2.2.1
  have cf0 := frozen_of_row _ _ 0 _ _ hq.2.2.2.1
  have cf1 := frozen_of_row _ _ 1 _ _ hq.2.2.2.1
  have gA := grownBy_trans (grown1 w1 (w.heap.size + 1 + 1) 0 (.slice (some ⟨ug, 0, none⟩) ll uc)) (grown1 _ (w.heap.size + 1 + 1) 1 (.int .i64 s))
  have hrow0 : ((w1.setCell ⟨w.heap.size + 1 + 1, 0, none⟩ (.slice (some ⟨ug, 0, none⟩) ll uc)).setCell ⟨w.heap.size + 1 + 1, 1, none⟩ (.int .i64 s)).heap[w.heap.size + 1]? = some (.cells #[.slice none 0 0, .int .i64 0] 30 (0, 0)) := (gA.block _ (by have := hq.2.2.2.2; omega) (by simp)).trans hq.2.2.1
  have gB := grownBy_trans (grown1 ((w1.setCell ⟨w.heap.size + 1 + 1, 0, none⟩ (.slice (some ⟨ug, 0, none⟩) ll uc)).setCell ⟨w.heap.size + 1 + 1, 1, none⟩ (.int .i64 s)) (w.heap.size + 1) 0 (.slice (some ⟨ug, 0, none⟩) ll uc)) (grown1 _ (w.heap.size + 1) 1 (.int .i64 s))
  have Hk := hide' (two_row (heap_setCell_same _ _ 1 _ _ (.int .i64 s) (heap_setCell_same _ _ 0 _ _ (.slice (some ⟨ug, 0, none⟩) ll uc) hrow0)))
  have HB := hide' ((hq.1.grown gA hq.1.size (by intro j hj; simp at hj; omega)).grown gB (by have := gA.size; have := hq.1.size; omega) (by intro j hj; simp at hj; omega))
  have hw3 : w.heap.size + 3 ≤ ug := by have := H3.out.2.2.2.2; omega
  have hRw := rlo_win hO
  have HF := hide' (rlo_agree (rlo_agree hO gA.size (fun b h1 h2 => gA.block b (by have := hO.2.2.2.1; omega) (by simp; omega))) gB.size (fun b h1 h2 => gB.block b (by have := hO.2.2.2.1; have := gA.size; omega) (by simp; omega)))
  have HL2 : Hid (∀ b, ug ≤ b → b < us l.length → w.heap.size ≤ b ∧ b < ((((w1.setCell ⟨w.heap.size + 1 + 1, 0, none⟩ (.slice (some ⟨ug, 0, none⟩) ll uc)).setCell ⟨w.heap.size + 1 + 1, 1, none⟩ (.int .i64 s)).setCell ⟨w.heap.size + 1, 0, none⟩ (.slice (some ⟨ug, 0, none⟩) ll uc)).setCell ⟨w.heap.size + 1, 1, none⟩ (.int .i64 s)).heap.size) := fun b h1 h2 => ⟨by omega, by have := hO.2.2.2.1; have := gA.size; have := gB.size; omega⟩
  clear hO b1 hq H3 HX gA gB hrow0 h3s hz1 hn hw3 hRw hug
  go_wp2_with fail
  obtain ⟨u0, u1⟩ := Hk.out
  refine bodyPost_ret (v := .agg #[.slice (some ⟨ug, 0, none⟩) ll uc, .int .i64 s]) (by simp [results, Tryz.results6, go_sem, u0, u1]) rfl ?_
  refine ⟨[.slice (some ⟨ug, 0, none⟩) ll uc, .int .i64 s], rfl, _, ⟨ug, uc, us, by rw [Hll.out], by rw [Hll.out]; exact hlc, hcm, HF.out, rfl⟩, fun b hb => ?_, HB.out⟩
  simp only [List.mem_range'_1] at hb
  exact HL2.out b hb.1 (by omega)

set_option maxHeartbeats 1600000 in
theorem markPlan_any (d : Nat) (cs : List Value) (p : List (Rcd (d + 1)) × Int) (B : List Nat) (w : World) (h : POwn w (d + 1) cs p B) (hn : p.1.length ≤ 1048576) (hz : ∀ i (h : i < p.1.length), RSz (d + 1) p.1[i]) :
    Calls Tryz.prog 10 #[.agg cs.toArray, .int .i64 1] w fun e w' => (∃ n : Nat, e = .returned (.int .i64 (n : Int)) ∧ n ≤ 1125899906842624) ∧ Turned B w w' := by
  obtain ⟨g, c, s, rfl, h1, h2, hR, rfl⟩ := h
  have HC : Hid (∀ o : Obj, Calls Tryz.prog 24 #[.slice (some ⟨g, 0, none⟩) p.1.length c, .int .i64 1] (w.alloc o) fun e w' => (∃ n : Nat, e = .returned (.int .i64 (n : Int)) ∧ n ≤ 1125899906842624) ∧ Turned (List.range' g (s p.1.length - g)) (w.alloc o) w') := fun o => markActS_any d g c p.1 s (w.alloc o) (rlo_agree hR (by simp) fun b _ hb => Below.heap_alloc w o b (by have := hR.2.2.2.1; omega)) hn hz
  have HT : Hid (∀ (o : Obj) wx, Turned (List.range' g (s p.1.length - g)) (w.alloc o) wx → Turned (List.range' g (s p.1.length - g)) w wx) := fun o wx hT => (Turned.of_grown (World.grownBy_alloc w o none) (by simp)).trans hT
  clear hR hz hn h1 h2
  generalize List.range' g (s p.1.length - g) = B at *
  generalize p.1.length = n at *
  go_enter Tryz.func10, Tryz.ntmps10
  go_wp2_with fail
  refine (HC.out _).mono ?_
  rintro e w1 ⟨⟨q, rfl, hq⟩, hT⟩
  have HT1 := hide' (HT.out _ _ hT)
  clear hT
  go_wp2
  go_ret
  exact ⟨⟨q, rfl, hq⟩, HT1.out⟩
end Go.Proofs.YtndnidmeompieaaGreatDoor
