/-
  Texts that a law leans on, one behind the other; no statement is proved here.
-/
import Derived.Test.YtngjhimieacjhaaGreatDoorPk6
import Derived.Test.YtngjhimieacjhaaGreatDoorPk7
import Derived.Test.YtngjhimieacjhaaGreatDoorPk5
/-
  toActS, toPlan: a list of acts copied, each in blocks of its own; what marks it.
-/
namespace Go.Proofs.YtngjhimieacjhaaGreatDoor
open Go.RowKit
set_option linter.unusedVariables false
set_option linter.unusedSimpArgs false

/-- A row of records of the call's own: the first k of them, record i in blocks from s i on and ahead of s (i + 1). -/
def RLO (w : World) (d g : Nat) (l : List (Rcd d)) (s : Nat → Nat) (k : Nat) : Prop :=
  w.there g 0 (l.length * 9) ∧ g < s 0 ∧ (∀ i, i < k → s i ≤ s (i + 1)) ∧ s k ≤ w.heap.size ∧ ∀ i (h : i < l.length), i < k → ∃ cs B, w.rangeAt g (i * 9) cs ∧ ROwn w d cs l[i] B ∧ ∀ b ∈ B, s i ≤ b ∧ b < s (i + 1)

theorem win_mono {s : Nat → Nat} {k : Nat} (h : ∀ i, i < k → s i ≤ s (i + 1)) : ∀ j i, i ≤ j → j ≤ k → s i ≤ s j
  | 0, i, hi, _ => by
    obtain rfl : i = 0 := by omega
    exact Nat.le_refl _
  | j + 1, i, hi, hj => by
    by_cases e : i = j + 1
    · subst e; exact Nat.le_refl _
    · exact Nat.le_trans (win_mono h j i (by omega) (by omega)) (h j (by omega))

theorem ROwn.len {w : World} {d : Nat} {cs : List Value} {it : Rcd d} {B : List Nat} (h : ROwn w d cs it B) : cs.length = 9 := RSg.len h.read

theorem rlo_next {wr w2 : World} {g d : Nat} {l : List (Rcd d)} {s : Nat → Nat} {k : Nat} {cs : List Value} {B : List Nat} (h : RLO wr d g l s k) (hk : k < l.length) (b2 : Below wr.heap.size wr w2) (hs : ROwn w2 d cs l[k] B) (hB : ∀ b ∈ B, wr.heap.size ≤ b ∧ b < w2.heap.size) :
    w2.there g (k * 9) 9 ∧ RLO (w2.setCells g (k * 9) cs) d g l (fun i => if i ≤ k then s i else w2.heap.size) (k + 1) := by
  obtain ⟨h1, h2, h3, h4, h5⟩ := h
  have hlen := hs.len
  have hg0 : g < wr.heap.size := by have := win_mono h3 k 0 (by omega) (by omega); omega
  have hth := there_below h1 hg0 b2
  have hg := grown_setCells g cs (k * 9) w2
  have hz := b2.size
  have hz2 := hg.size
  have htk := there_cut hth (k * 9) 9 (by omega)
  refine ⟨htk, World.there_setCells hth _ _ _, by simpa using h2, fun i hi => ?_, by dsimp only; rw [if_neg (by omega)]; exact hz2, fun i hi hik => ?_⟩
  · by_cases e : i = k
    · subst e
      dsimp only
      rw [if_pos (by omega), if_neg (by omega)]
      omega
    · dsimp only
      rw [if_pos (by omega), if_pos (by omega)]
      exact h3 i (by omega)
  · by_cases e : i = k
    · subst e
      refine ⟨cs, B, World.rangeAt_setCells_same _ _ _ _ (by rw [hlen]; exact htk), hs.agree (fun b hb => hg.block b (hB b hb).2 (by have := (hB b hb).1; simp; omega)), fun b hb => ?_⟩
      dsimp only
      rw [if_pos (by omega), if_neg (by omega)]
      have := hB b hb
      omega
    · obtain ⟨cs', B', hr, hv, hB'⟩ := h5 i hi (by omega)
      have hl' := hv.len
      have hw1 := win_mono h3 i 0 (by omega) (by omega)
      have hw2 := win_mono h3 k (i + 1) (by omega) (by omega)
      refine ⟨cs', B', World.rangeAt_setCells_apart (range_keep hr hg0 b2) _ _ _ (by omega), hv.agree (fun b hb => ?_), fun b hb => ?_⟩
      · have hb' := hB' b hb
        exact (hg.block b (by omega) (by simp; omega)).trans (b2.block b (by omega))
      · dsimp only
        rw [if_pos (by omega), if_pos (by omega)]
        exact hB' b hb

/-- What toActS leaves, in blocks of its own. -/
def RLEnd (d : Nat) (l : List (Rcd d)) (w : World) (e : Ending) (w' : World) : Prop := ∃ g c s, e = .returned (.slice (some ⟨g, 0, none⟩) l.length c) ∧ l.length ≤ c ∧ c ≤ maxLen ∧ RLO w' d g l s l.length ∧ w.heap.size ≤ g ∧ Below w.heap.size w w'

/-- A plan of the call's own: its acts' row and their blocks are just B. -/
def POwn (w : World) (d : Nat) (cs : List Value) (p : List (Rcd d) × Int) (B : List Nat) : Prop :=
  ∃ g c s, cs = [.slice (some ⟨g, 0, none⟩) p.1.length c, .int .i64 p.2] ∧ p.1.length ≤ c ∧ c ≤ maxLen ∧ RLO w d g p.1 s p.1.length ∧ B = List.range' g (s p.1.length - g)

variable {w w' : World} {d : Nat} {cs : List Value} {p : List (Rcd d) × Int} {B : List Nat}
theorem rlo_win {g : Nat} {l : List (Rcd d)} {s : Nat → Nat} (h : RLO w d g l s l.length) : g < s l.length := by
  have := win_mono h.2.2.1 l.length 0 (by omega) (by omega)
  have := h.2.1
  omega
theorem POwn.lt (h : POwn w d cs p B) : ∀ b ∈ B, b < w.heap.size := by
  obtain ⟨g, c, s, rfl, _, _, hR, rfl⟩ := h
  intro b hb
  have h1 := hR.2.2.2.1
  have h2 := rlo_win hR
  simp only [List.mem_range'_1] at hb
  omega
theorem rlo_agree {g : Nat} {l : List (Rcd d)} {s : Nat → Nat} (h : RLO w d g l s l.length) (hz : w.heap.size ≤ w'.heap.size) (ha : ∀ b, g ≤ b → b < s l.length → w'.heap[b]? = w.heap[b]?) : RLO w' d g l s l.length := by
  have hw := rlo_win h
  obtain ⟨h1, h2, h3, h4, h5⟩ := h
  refine ⟨fun j hj => ?_, h2, h3, by omega, fun i hi hik => ?_⟩
  · obtain ⟨q1, q2⟩ := h1 j hj
    exact ⟨by rw [World.cell?_of_block (w := w) (w' := w') (ha g (Nat.le_refl _) hw)]; exact q1, by rw [World.frozen?_of_block (w := w) (w' := w') (ha g (Nat.le_refl _) hw)]; exact q2⟩
  · obtain ⟨cs, B, hr, ho, hB⟩ := h5 i hi hik
    have hw1 := win_mono h3 i 0 (by omega) (by omega)
    have hw2 := win_mono h3 l.length (i + 1) (by omega) (by omega)
    exact ⟨cs, B, fun j v hv => (World.cell?_of_block (ha g (Nat.le_refl _) hw)).trans (hr j v hv), ho.agree fun b hb => ha b (by have := hB b hb; omega) (by have := hB b hb; omega), hB⟩
theorem POwn.on (h : POwn w d cs p B) (hb : Below w.heap.size w w') : POwn w' d cs p B := by
  obtain ⟨g, c, s, rfl, h1, h2, hR, rfl⟩ := h
  exact ⟨g, c, s, rfl, h1, h2, rlo_agree hR hb.size fun b _ hb2 => hb.block b (by have := hR.2.2.2.1; omega), rfl⟩
theorem POwn.read (h : POwn w d cs p B) : ∃ x, cs = [x, .int .i64 p.2] ∧ RLSg (fun b => b < w.heap.size) w d x p.1 := by
  obtain ⟨g, c, s, rfl, h1, h2, hR, rfl⟩ := h
  have hw := rlo_win hR
  have h4 := hR.2.2.2.1
  refine ⟨_, rfl, _, _, rfl, h1, h2, by simp, .inr ⟨g, 0, rfl, by omega, fun i hi => ?_⟩⟩
  obtain ⟨cs, B, hr, ho, hB⟩ := hR.2.2.2.2 i hi hi
  exact ⟨cs, by rw [Nat.zero_add]; exact hr, ho.read⟩
end Go.Proofs.YtngjhimieacjhaaGreatDoor
/-
  toEntryS: a list of entries copied, each in blocks of its own; what marks it.
-/
namespace Go.Proofs.YtngjhimieacjhaaGreatDoor
open Go.RowKit
set_option linter.unusedVariables false
set_option linter.unusedSimpArgs false

theorem infoNt : (Tryz.prog.info? 51).map (fun i => (i.zero, i.size, i.bytes)) = some (some (.agg #[.slice none 0 0, .int .i64 0, .int .i64 0, .slice none 0 0, .slice none 0 0, .slice none 0 0, .slice none 0 0, .bool false, .int .i64 0]), 9, 152) := by kernel_rfl

/-- A row of entries of the call's own: the first k of them, record i in blocks from s i on and ahead of s (i + 1). -/
def NtLO (w : World) (d g : Nat) (l : List (Ntr d)) (s : Nat → Nat) (k : Nat) : Prop :=
  w.there g 0 (l.length * 9) ∧ g < s 0 ∧ (∀ i, i < k → s i ≤ s (i + 1)) ∧ s k ≤ w.heap.size ∧ ∀ i (h : i < l.length), i < k → ∃ cs B, w.rangeAt g (i * 9) cs ∧ NtOwn w d cs l[i] B ∧ ∀ b ∈ B, s i ≤ b ∧ b < s (i + 1)

theorem NtOwn.len {w : World} {d : Nat} {cs : List Value} {it : Ntr d} {B : List Nat} (h : NtOwn w d cs it B) : cs.length = 9 := NtSg.len h.read

theorem ntlo_next {wr w2 : World} {g d : Nat} {l : List (Ntr d)} {s : Nat → Nat} {k : Nat} {cs : List Value} {B : List Nat} (h : NtLO wr d g l s k) (hk : k < l.length) (b2 : Below wr.heap.size wr w2) (hs : NtOwn w2 d cs l[k] B) (hB : ∀ b ∈ B, wr.heap.size ≤ b ∧ b < w2.heap.size) :
    w2.there g (k * 9) 9 ∧ NtLO (w2.setCells g (k * 9) cs) d g l (fun i => if i ≤ k then s i else w2.heap.size) (k + 1) := by
  obtain ⟨h1, h2, h3, h4, h5⟩ := h
  have hlen := hs.len
  have hg0 : g < wr.heap.size := by have := win_mono h3 k 0 (by omega) (by omega); omega
  have hth := there_below h1 hg0 b2
  have hg := grown_setCells g cs (k * 9) w2
  have hz := b2.size
  have hz2 := hg.size
  have htk := there_cut hth (k * 9) 9 (by omega)
  refine ⟨htk, World.there_setCells hth _ _ _, by simpa using h2, fun i hi => ?_, by dsimp only; rw [if_neg (by omega)]; exact hz2, fun i hi hik => ?_⟩
  · by_cases e : i = k
    · subst e
      dsimp only
      rw [if_pos (by omega), if_neg (by omega)]
      omega
    · dsimp only
      rw [if_pos (by omega), if_pos (by omega)]
      exact h3 i (by omega)
  · by_cases e : i = k
    · subst e
      refine ⟨cs, B, World.rangeAt_setCells_same _ _ _ _ (by rw [hlen]; exact htk), hs.agree (fun b hb => hg.block b (hB b hb).2 (by have := (hB b hb).1; simp; omega)), fun b hb => ?_⟩
      dsimp only
      rw [if_pos (by omega), if_neg (by omega)]
      have := hB b hb
      omega
    · obtain ⟨cs', B', hr, hv, hB'⟩ := h5 i hi (by omega)
      have hl' := hv.len
      have hw1 := win_mono h3 i 0 (by omega) (by omega)
      have hw2 := win_mono h3 k (i + 1) (by omega) (by omega)
      refine ⟨cs', B', World.rangeAt_setCells_apart (range_keep hr hg0 b2) _ _ _ (by omega), hv.agree (fun b hb => ?_), fun b hb => ?_⟩
      · have hb' := hB' b hb
        exact (hg.block b (by omega) (by simp; omega)).trans (b2.block b (by omega))
      · dsimp only
        rw [if_pos (by omega), if_pos (by omega)]
        exact hB' b hb

/-- What toEntryS leaves, in blocks of its own. -/
def NtLEnd (d : Nat) (l : List (Ntr d)) (w : World) (e : Ending) (w' : World) : Prop := ∃ g c s, e = .returned (.slice (some ⟨g, 0, none⟩) l.length c) ∧ l.length ≤ c ∧ c ≤ maxLen ∧ NtLO w' d g l s l.length ∧ w.heap.size ≤ g ∧ Below w.heap.size w w'

set_option maxHeartbeats 3200000 in
set_option maxRecDepth 100000 in
theorem toEntrySO_any (d N : Nat) (x : Value) (l : List (Ntr d)) (w : World) (hx : NtLS (fun b => b < N) w d x l) (hN : N ≤ w.heap.size) (hn : l.length ≤ 1048576) (hz : ∀ i (h : i < l.length), NtSz d l[i]) :
    Calls Tryz.prog 25 #[x] w (NtLEnd d l w) := by
  have HX := hide' hx
  have HZ := hide' hz
  obtain ⟨a, cap, rfl, _, _, _, _⟩ := hx
  obtain ⟨i0, hi, hz0, hz1, hz2⟩ := info_parts infoNt
  clear hz
  go_enter Tryz.func25, Tryz.ntmps25
  go_wp2_with (refine wpList_make_full _ rfl _ _ 29 rfl w.heap.size 51 i0 (.agg #[.slice none 0 0, .int .i64 0, .int .i64 0, .slice none 0 0, .slice none 0 0, .slice none 0 0, .slice none 0 0, .bool false, .int .i64 0]) 9 Tryz.underlying29 hi hz0 hz1 .i64 .i64 _ _ l.length rfl rfl rfl rfl (by rw [hz2]; omega) (by unfold maxLen; omega) (Nat.le_refl _) ?_; intro w1 hown hgrow)
  have hK0 : Hid (NtLO w1 d w.heap.size l (fun _ => w1.heap.size) 0) := by
    rcases hown.2 with ⟨h1, _⟩ | ⟨g, cp, cur, h1, _, h3, _, _, h6, _⟩
    · simp at h1
    · simp only [Value.slice.injEq, Option.some.injEq, Addr.mk.injEq, and_true, true_and] at h1
      obtain ⟨e1, e2⟩ := h1
      subst e1
      refine ⟨?_, (Array.getElem?_eq_some_iff.1 h3).1, fun i h => by omega, Nat.le_refl _, fun i hi h => by omega⟩
      have := there_of_row h3
      rw [h6, ← e2] at this
      exact this
  have hb1 : Below w.heap.size w w1 := (Below.refl _ _).grown hgrow (Nat.le_refl _) (by simp)
  clear hown hgrow
  go_loopw [4] (fun i wr => ∃ (k : Nat) (s : Nat → Nat), k ≤ l.length ∧ i = .int .i64 k ∧ Hid (NtLO wr d w.heap.size l s k) ∧ Below w.heap.size w wr) (fun i _ => l.length - (intOf i).toNat)
  case atStart => exact ⟨0, _, Nat.zero_le _, rfl, hK0, hb1⟩
  case round =>
    obtain ⟨k, s, hk, rfl, hK, hbel⟩ := hrel
    clear hK0 hb1
    have hzz := hbel.size
    by_cases hlt : k < l.length
    · have hlt' : (k : Int) < (l.length : Int) := by omega
      have hXr := HX.out.agree (agree_below (hbel.mono hN))
      obtain ⟨b, off, cs, rfl, hbN, hr, hs⟩ := hXr.at hlt
      have HC := hide' (toEntryO_any d N cs l[k] wr hs (by omega) (HZ.out k hlt))
      have hlen := hs.len
      clear hs hXr
      go_wp2_with (refine wpList_load_mid rfl 81 (.tmp 18) (by rfl) b (off + k * 9) (by rfl) cs _ hr Tryz.underlying81 rfl (info_laws_Entry hlen) ?_)
      refine HC.out.mono ?_
      rintro e w2 ⟨cs2, rfl, B2, hs2, hB2, b2⟩
      obtain ⟨hth, hP⟩ := ntlo_next hK.out hlt b2 hs2 hB2
      have hl2 := hs2.len
      have HP := hide' hP
      have hone := all_oneCell_toArray (NtSg.one hs2.read)
      have hsz2 : cs2.toArray.size = 9 := by simpa using hl2
      have hth' : w2.there w.heap.size (k * 9) cs2.toArray.size := by rw [hsz2]; exact hth
      have hB := hide' ((Below.on hbel b2).grown (grown_setCells w.heap.size cs2 (k * 9) w2) (Below.on hbel b2).size (by intro j hj; simp at hj; omega))
      clear hP hs2 hB2 b2 hbel hr HC
      go_wp2_with (refine wpList_store_mid rfl 51 (.tmp 21) (.tmp 20) (by rfl) w.heap.size (k * 9) cs2.toArray (by rfl) (by rfl) hth' (info_Entry hsz2) hone ?_)
      go_roundw
      case rel => exact ⟨k + 1, _, by omega, by go_num, HP, hB.out⟩
      case measure => simp [intOf]; omega
    · have hkn : k = l.length := by omega
      have hkn' : ¬ (k : Int) < (l.length : Int) := by omega
      have HF : Hid (NtLO wr d w.heap.size l s l.length) := by rw [← hkn]; exact hK
      clear hkn hK
      go_wp2
      go_ret
      exact ⟨_, _, s, rfl, Nat.le_refl _, by unfold maxLen; omega, HF.out, Nat.le_refl _, hbel⟩

variable {w w' : World} {d : Nat}
theorem ntlo_win {g : Nat} {l : List (Ntr d)} {s : Nat → Nat} (h : NtLO w d g l s l.length) : g < s l.length := by
  have := win_mono h.2.2.1 l.length 0 (by omega) (by omega)
  have := h.2.1
  omega
theorem ntlo_agree {g : Nat} {l : List (Ntr d)} {s : Nat → Nat} (h : NtLO w d g l s l.length) (hz : w.heap.size ≤ w'.heap.size) (ha : ∀ b, g ≤ b → b < s l.length → w'.heap[b]? = w.heap[b]?) : NtLO w' d g l s l.length := by
  have hw := ntlo_win h
  obtain ⟨h1, h2, h3, h4, h5⟩ := h
  refine ⟨fun j hj => ?_, h2, h3, by omega, fun i hi hik => ?_⟩
  · obtain ⟨q1, q2⟩ := h1 j hj
    exact ⟨by rw [World.cell?_of_block (w := w) (w' := w') (ha g (Nat.le_refl _) hw)]; exact q1, by rw [World.frozen?_of_block (w := w) (w' := w') (ha g (Nat.le_refl _) hw)]; exact q2⟩
  · obtain ⟨cs, B, hr, ho, hB⟩ := h5 i hi hik
    have hw1 := win_mono h3 i 0 (by omega) (by omega)
    have hw2 := win_mono h3 l.length (i + 1) (by omega) (by omega)
    exact ⟨cs, B, fun j v hv => (World.cell?_of_block (ha g (Nat.le_refl _) hw)).trans (hr j v hv), ho.agree fun b hb => ha b (by have := hB b hb; omega) (by have := hB b hb; omega), hB⟩
end Go.Proofs.YtngjhimieacjhaaGreatDoor
/-
  eqItem, eqItemS: two readings of one list of entries.
-/
namespace Go.Proofs.YtngjhimieacjhaaGreatDoor
open Go.RowKit
set_option linter.unusedVariables false
set_option linter.unusedSimpArgs false

set_option maxHeartbeats 3200000 in
set_option maxRecDepth 100000 in
theorem eqEntry_any (d N : Nat) (cs cs' : List Value) (it : Ntr d) (w : World) (h : NtSg (fun b => b < N) w d cs it) (h' : NtSg (fun b => b < N) w d cs' it) (hN : N ≤ w.heap.size) (hz : NtSz d it) :
    Calls Tryz.prog 51 #[.agg cs.toArray, .agg cs'.toArray] w fun e w' => e = .returned (.bool true) ∧ Below w.heap.size w w' := by
  obtain ⟨na, np, bk, bn, a2, l2, p2, a3, l3, p3, a4, l4, p4, xa, xp, rfl, ht, hv, hk⟩ := h.form
  obtain ⟨na', np', bk', bn', a2', l2', p2', a3', l3', p3', a4', l4', p4', xa', xp', rfl, ht', hv', hk'⟩ := h'.form
  obtain ⟨nm, by', ks, tn, tu⟩ := it
  obtain ⟨z0, z1, z2⟩ := hz
  simp only at ht hv hk ht' hv' hk' z0 z1 z2 ⊢
  have HB : Hid (∀ o o' : Obj, Below w.heap.size w ((w.alloc o).alloc o')) := fun o o' => ((Below.refl _ _).alloc (Nat.le_refl _) o).alloc (by simp) o'
  have Hbox : Hid (∀ o o' wx, Below ((w.alloc o).alloc o').heap.size ((w.alloc o).alloc o') wx → wx.heap[w.heap.size]? = some o ∧ wx.heap[w.heap.size + 1]? = some o') := fun o o' wx h => ⟨(h.block _ (by simp; omega)).trans (two_boxes w o o').1, (h.block _ (by simp)).trans (two_boxes w o o').2⟩
  have hA : ∀ wx, Below w.heap.size w wx → Agree (fun b => b < N) w wx := fun wx hb => agree_below (hb.mono hN)
  have HT : Hid (∀ wx, Below w.heap.size w wx → Calls Tryz.prog 13 #[.slice na nm.length np, .slice na' nm.length np'] wx fun e w' => e = .returned (.bool true) ∧ Below wx.heap.size wx w') := fun wx hb => by
    obtain ⟨_, _, e1, s1, _⟩ := ht.agree (hA wx hb)
    obtain ⟨_, _, e2, s2, _⟩ := ht'.agree (hA wx hb)
    simp at e1 e2
    obtain ⟨rfl, _⟩ := e1
    obtain ⟨rfl, _⟩ := e2
    exact eqByteS_same _ _ _ _ nm wx s1 s2 (by omega)
  have HV : Hid (∀ wx, Below w.heap.size w wx → Calls Tryz.prog 70 #[.agg #[.int .i64 bk, .int .i64 bn, .slice a2 l2 p2, .slice a3 l3 p3, .slice a4 l4 p4], .agg #[.int .i64 bk', .int .i64 bn', .slice a2' l2' p2', .slice a3' l3' p3', .slice a4' l4' p4']] wx fun e w' => e = .returned (.bool true) ∧ Below wx.heap.size wx w') := fun wx hb =>
    eqValue_any d N (.int .i64 bk, .int .i64 bn, .slice a2 l2 p2, .slice a3 l3 p3, .slice a4 l4 p4) (.int .i64 bk', .int .i64 bn', .slice a2' l2' p2', .slice a3' l3' p3', .slice a4' l4' p4') by' wx (VSeg.agree (hA wx hb) d hv) (VSeg.agree (hA wx hb) d hv') (by have := hb.size; omega) z1
  have HK : Hid (∀ wx, Below w.heap.size w wx → Calls Tryz.prog 11 #[.slice xa ks.length xp, .slice xa' ks.length xp'] wx fun e w' => e = .returned (.bool true) ∧ Below wx.heap.size wx w') := fun wx hb => eqByteSS_same N _ _ ks wx (hk.agree (hA wx hb)) (hk'.agree (hA wx hb)) (by have := hb.size; omega) z2

  clear ht hv hk ht' hv' hk' h h' hA
  generalize nm.length = s0 at *
  generalize ks.length = kl at *
  go_enter Tryz.func51, Tryz.ntmps51
  go_wp2_with fail
  refine (HT.out _ (HB.out _ _)).mono ?_
  rintro e w1 ⟨rfl, b1⟩
  obtain ⟨r1, r2⟩ := Hbox.out _ _ _ b1
  have u1 := cell_of_row _ _ 1 _ _ _ r1
  have t1 := cell_of_row _ _ 1 _ _ _ r2
  have u2 := cell_of_row _ _ 2 _ _ _ r1
  have t2 := cell_of_row _ _ 2 _ _ _ r2
  have u3 := cell_of_row _ _ 3 _ _ _ r1
  have t3 := cell_of_row _ _ 3 _ _ _ r2
  have u4 := cell_of_row _ _ 4 _ _ _ r1
  have t4 := cell_of_row _ _ 4 _ _ _ r2
  have u5 := cell_of_row _ _ 5 _ _ _ r1
  have t5 := cell_of_row _ _ 5 _ _ _ r2
  simp at u1 u2 u3 u4 u5 t1 t2 t3 t4 t5
  have B1 := hide' b1
  clear r1 r2 b1
  go_wp2_with fail
  refine (HV.out _ (Below.on (HB.out _ _) B1.out)).mono ?_
  rintro e w2 ⟨rfl, b2⟩
  have B2 := hide' (Below.on B1.out b2)
  obtain ⟨r1, r2⟩ := Hbox.out _ _ _ B2.out
  have u8 := cell_of_row _ _ 6 _ _ _ r1
  have t8 := cell_of_row _ _ 6 _ _ _ r2
  simp at u8 t8
  clear r1 r2 b2
  go_wp2_with fail
  refine (HK.out _ (Below.on (HB.out _ _) B2.out)).mono ?_
  rintro e w3 ⟨rfl, b3⟩
  have B3 := hide' (Below.on (HB.out _ _) (Below.on B2.out b3))
  obtain ⟨r1, r2⟩ := Hbox.out _ _ _ (Below.on B2.out b3)
  have u9 := cell_of_row _ _ 7 _ _ _ r1
  have t9 := cell_of_row _ _ 7 _ _ _ r2
  have u10 := cell_of_row _ _ 8 _ _ _ r1
  have t10 := cell_of_row _ _ 8 _ _ _ r2
  simp at u9 t9 u10 t10
  clear b3 r1 r2
  go_wp2
  go_ret
  exact ⟨rfl, B3.out⟩

set_option maxHeartbeats 3200000 in
set_option maxRecDepth 100000 in
theorem eqEntryS_any (d N : Nat) (x y : Value) (l : List (Ntr d)) (w : World) (hx : NtLS (fun b => b < N) w d x l) (hy : NtLS (fun b => b < N) w d y l) (hN : N ≤ w.heap.size) (hll : l.length ≤ 1048576) (hz : ∀ i (h : i < l.length), NtSz d l[i]) :
    Calls Tryz.prog 30 #[x, y] w fun e w' => e = .returned (.bool true) ∧ Below w.heap.size w w' := by
  have HX := hide' hx
  have HY := hide' hy
  have HZ := hide' hz
  obtain ⟨a, cap, rfl, _, _, _, _⟩ := hx
  obtain ⟨a', cap', rfl, _, _, _, _⟩ := hy
  clear hz
  go_enter Tryz.func30, Tryz.ntmps30
  go_wp2
  go_loopw [5] (fun i wr => ∃ k : Nat, k ≤ l.length ∧ i = .int .i64 k ∧ Below w.heap.size w wr) (fun i _ => l.length - (intOf i).toNat)
  case atStart => exact ⟨0, Nat.zero_le _, rfl, Below.refl _ _⟩
  case round =>
    obtain ⟨k, hk, rfl, hbel⟩ := hrel
    have hz := hbel.size
    by_cases hlt : k < l.length
    · have hlt' : (k : Int) < (l.length : Int) := by omega
      have hXr := HX.out.agree (agree_below (hbel.mono hN))
      have hYr := HY.out.agree (agree_below (hbel.mono hN))
      obtain ⟨b, off, cs, rfl, hbN, hr, hs⟩ := hXr.at hlt
      obtain ⟨b', off', cs', rfl, hbN', hr', hs'⟩ := hYr.at hlt
      have HC := hide' (eqEntry_any d N cs cs' l[k] wr.drew (hs.agree (w' := wr.drew) (fun b _ => rfl)) (hs'.agree (w' := wr.drew) (fun b _ => rfl)) (by show N ≤ wr.heap.size; omega) (HZ.out k hlt))
      have hlen := hs.len
      have hlen' := hs'.len
      obtain ⟨na, np, bk, bn, a2, l2, p2, a3, l3, p3, a4, l4, p4, xa, xp, rfl, _⟩ := hs.form
      obtain ⟨na', np', bk', bn', a2', l2', p2', a3', l3', p3', a4', l4', p4', xa', xp', rfl, _⟩ := hs'.form
      have u0 := hr 0 _ rfl
      have t0 := hr' 0 _ rfl
      have u1 := hr 1 _ rfl
      have t1 := hr' 1 _ rfl
      have u2 := hr 2 _ rfl
      have t2 := hr' 2 _ rfl
      have u3 := hr 3 _ rfl
      have t3 := hr' 3 _ rfl
      have u4 := hr 4 _ rfl
      have t4 := hr' 4 _ rfl
      have u5 := hr 5 _ rfl
      have t5 := hr' 5 _ rfl
      have u6 := hr 6 _ rfl
      have t6 := hr' 6 _ rfl
      have u7 := hr 7 _ rfl
      have t7 := hr' 7 _ rfl
      have u8 := hr 8 _ rfl
      have t8 := hr' 8 _ rfl
      simp only [Nat.add_zero] at u0 t0
      have HB := hide' hbel
      clear hs hXr hs' hYr hr hr' hlen hlen' hbel
      generalize l[k] = it at *
      obtain ⟨inm, iby, iks, itn, itu⟩ := it
      simp only at u0 u1 u2 u3 u4 u5 u6 u7 u8 t0 t1 t2 t3 t4 t5 t6 t7 t8 HC
      go_wp2_with fail
      go_region_with (go_at_call 51; refine HC.out.mono ?_; rintro e w1 ⟨rfl, b1⟩)
      all_goals
        have B1 := Below.on HB.out.drew b1
        clear u0 u1 u2 u3 u4 u5 u6 u7 u8 t0 t1 t2 t3 t4 t5 t6 t7 t8
        go_wp2
        go_roundw
        case rel => exact ⟨k + 1, by omega, by go_num, B1⟩
        case measure => simp [intOf]; omega
    · have hlt' : ¬ (k : Int) < (l.length : Int) := by omega
      go_wp2
      go_ret
      exact ⟨rfl, hbel⟩

end Go.Proofs.YtngjhimieacjhaaGreatDoor
/-
  States: a number, a bool, a text, a number, a list of entries: read, their size, held against one another, copied in blocks of their own.
-/
namespace Go.Proofs.YtngjhimieacjhaaGreatDoor
open Go.RowKit
set_option linter.unusedVariables false
set_option linter.unusedSimpArgs false

/-- A state: serial, open, pending, act, entries. -/
def Stt (d : Nat) : Type := Int × Bool × List Int × Int × List (Ntr d)

/-- Five cells that read as a state. -/
def SaSg (R : Nat → Prop) (w : World) (d : Nat) (cs : List Value) (s : Stt d) : Prop :=
  ∃ c2 c4, cs = [.int .i64 s.1, .bool s.2.1, c2, .int .i64 s.2.2.2.1, c4] ∧ TSeg R w c2 s.2.2.1 ∧ NtLS R w d c4 s.2.2.2.2

def SaSz (d : Nat) (s : Stt d) : Prop := s.2.2.1.length ≤ 1048576 ∧ s.2.2.2.2.length ≤ 1048576 ∧ ∀ i (h : i < s.2.2.2.2.length), NtSz d s.2.2.2.2[i]

theorem NtLS.mono {R R' : Nat → Prop} {w : World} {d : Nat} {x : Value} {l : List (Ntr d)} (h : NtLS R w d x l) (hr : ∀ b, R b → R' b) : NtLS R' w d x l := by
  obtain ⟨a, c, e, h1, h2, h3, h4⟩ := h
  refine ⟨a, c, e, h1, h2, h3, ?_⟩
  rcases h4 with h4 | ⟨b, off, ha, hb, hc⟩
  · exact .inl h4
  · refine .inr ⟨b, off, ha, hr _ hb, fun i hi => ?_⟩
    obtain ⟨cs, h5, h6⟩ := hc i hi
    exact ⟨cs, h5, h6.mono hr⟩
theorem SaSg.agree {R : Nat → Prop} {w w' : World} {d : Nat} {cs : List Value} {s : Stt d} (h : SaSg R w d cs s) (ha : Agree R w w') : SaSg R w' d cs s := by
  obtain ⟨c2, c4, e, h1, h2⟩ := h
  exact ⟨c2, c4, e, h1.agree ha, h2.agree ha⟩
theorem SaSg.mono {R R' : Nat → Prop} {w : World} {d : Nat} {cs : List Value} {s : Stt d} (h : SaSg R w d cs s) (hr : ∀ b, R b → R' b) : SaSg R' w d cs s := by
  obtain ⟨c2, c4, e, h1, h2⟩ := h
  exact ⟨c2, c4, e, h1.mono hr, h2.mono hr⟩
theorem SaSg.form {R : Nat → Prop} {w : World} {d : Nat} {cs : List Value} {s : Stt d} (h : SaSg R w d cs s) : ∃ pa pc ea ec, cs = [.int .i64 s.1, .bool s.2.1, .slice pa s.2.2.1.length pc, .int .i64 s.2.2.2.1, .slice ea s.2.2.2.2.length ec] ∧ TSeg R w (.slice pa s.2.2.1.length pc) s.2.2.1 ∧ NtLS R w d (.slice ea s.2.2.2.2.length ec) s.2.2.2.2 := by
  obtain ⟨c2, c4, rfl, h1, h2⟩ := h
  have h1' := h1
  have h2' := h2
  obtain ⟨pa, pc, rfl, _⟩ := h1
  obtain ⟨ea, ec, rfl, _⟩ := h2
  exact ⟨pa, pc, ea, ec, rfl, h1', h2'⟩

/-- What szState leaves. -/
def SzSaE (d : Nat) (s : Stt d) (w : World) (e : Ending) (w' : World) : Prop := (e = .returned (.int .i64 (-1)) ∨ ∃ n : Int, 0 ≤ n ∧ n ≤ 1048576 ∧ e = .returned (.int .i64 n) ∧ SaSz d s) ∧ Below w.heap.size w w'

set_option maxHeartbeats 1600000 in
theorem szState_any (d N : Nat) (cs : List Value) (s : Stt d) (w : World) (hx : SaSg (fun b => b < N) w d cs s) (hN : N ≤ w.heap.size) :
    Calls Tryz.prog 6 #[.agg cs.toArray, .int .i64 1048576] w (SzSaE d s w) := by
  obtain ⟨pa, pc, ea, ec, rfl, ht, he⟩ := hx.form
  obtain ⟨s0, s1, nm, s3, l⟩ := s
  simp only at ht he ⊢
  have HA : Hid (∀ o : Obj, Below w.heap.size w (w.alloc o)) := fun o => (Below.refl _ _).alloc (Nat.le_refl _) o
  have hnm : nm.length ≤ maxLen := by obtain ⟨a, c, e, _, h2, h3, _⟩ := ht; omega
  have HT : Hid (∀ wx, Calls Tryz.prog 22 #[.slice pa nm.length pc, .int .i64 1048576] wx fun e w' => e = .returned (.int .i64 (less 1048576 nm.length)) ∧ wx = w') := fun wx => szByteS_any pa nm.length pc 1048576 wx (by omega) (by omega) hnm
  have HS : Hid (∀ (o : Obj) (m : Int), 0 ≤ m → m ≤ 1048576 → Calls Tryz.prog 23 #[.slice ea l.length ec, .int .i64 m] (w.alloc o) (SzNtE d l (w.alloc o))) := fun o m h0 h1 => szEntryS_any d N _ l m h0 h1 (w.alloc o) (he.agree (agree_below ((HA.out o).mono hN))) (by have := (HA.out o).size; omega)
  have HEnd : Hid (∀ e w', SzSaE d (s0, s1, nm, s3, l) w e w' ↔ ((e = .returned (.int .i64 (-1)) ∨ ∃ n : Int, 0 ≤ n ∧ n ≤ 1048576 ∧ e = .returned (.int .i64 n) ∧ nm.length ≤ 1048576 ∧ l.length ≤ 1048576 ∧ ∀ i (h : i < l.length), NtSz d l[i]) ∧ Below w.heap.size w w')) := fun e w' => Iff.rfl
  clear ht he hx
  obtain ⟨sn, hsn⟩ : ∃ sn, sn = nm.length := ⟨_, rfl⟩
  rw [← hsn] at HT HEnd
  rw [← hsn]
  clear hsn hnm
  have HL : Hid (∀ o e w', SzNtE d l (w.alloc o) e w' → (e = .returned (.int .i64 (-1)) ∨ ∃ n : Int, 0 ≤ n ∧ n ≤ 1048576 ∧ e = .returned (.int .i64 n) ∧ l.length ≤ 1048576 ∧ ∀ i (h : i < l.length), NtSz d l[i]) ∧ Below (w.alloc o).heap.size (w.alloc o) w') := fun o e w' h => h
  obtain ⟨ln, hln⟩ : ∃ ln, ln = l.length := ⟨_, rfl⟩
  rw [← hln] at HS
  rw [← hln]
  clear hln
  show Calls _ _ _ _ fun e w' => SzSaE d (s0, s1, nm, s3, l) w e w'
  go_enter Tryz.func6, Tryz.ntmps6
  go_wp2_with fail
  refine (HT.out _).mono ?_
  rintro e w1 ⟨rfl, rfl⟩
  by_cases q0 : (1048576 : Int) < (sn : Int)
  · rw [less_no _ _ q0]
    go_wp2
    go_ret
    exact (HEnd.out _ _).2 ⟨.inl rfl, HA.out _⟩
  rw [less_yes _ _ q0]
  obtain ⟨n1, e1⟩ : ∃ m : Int, m = 1048576 - sn := ⟨_, rfl⟩
  rw [← e1]
  have g10 : 0 ≤ n1 := by omega
  have g11 : n1 ≤ 1048576 := by omega
  have z0 : sn ≤ 1048576 := by omega
  clear e1 q0
  go_wp2_with fail
  refine (HS.out _ n1 g10 g11).mono ?_
  intro e w2 hE
  obtain ⟨hcase, b1⟩ := HL.out _ _ _ hE
  have B1 := hide' (Below.on (HA.out _) b1)
  clear b1 HS hE HL
  rcases hcase with rfl | ⟨m, hm0, hm1, rfl, hlen, hall⟩
  · go_wp2
    go_ret
    exact (HEnd.out _ _).2 ⟨.inl rfl, B1.out⟩
  · have HAll := hide' hall
    have HLn := hide' hlen
    have hm' : ¬ m < 0 := by omega
    clear hall hlen
    go_wp2
    go_ret
    exact (HEnd.out _ _).2 ⟨.inr ⟨m, hm0, hm1, rfl, z0, HLn.out, HAll.out⟩, B1.out⟩

theorem five_row {w : World} {g : Nat} {T : TypeId} {c0 c1 c2 c3 c4 : Value} (h : w.heap[g]? = some (.cells #[c0, c1, c2, c3, c4] T (0, 0))) :
    w.cell? ⟨g, 0, none⟩ = some c0 ∧ w.cell? ⟨g, 1, none⟩ = some c1 ∧ w.cell? ⟨g, 2, none⟩ = some c2 ∧ w.cell? ⟨g, 3, none⟩ = some c3 ∧ w.cell? ⟨g, 4, none⟩ = some c4 := by
  refine ⟨?_, ?_, ?_, ?_, ?_⟩ <;> (rw [cell_of_row w g _ _ _ _ h]; rfl)

set_option maxHeartbeats 1600000 in
theorem eqState_any (d N : Nat) (cs cs' : List Value) (s : Stt d) (w : World) (hx : SaSg (fun b => b < N) w d cs s) (hy : SaSg (fun b => b < N) w d cs' s) (hN : N ≤ w.heap.size) (hz : SaSz d s) :
    Calls Tryz.prog 12 #[.agg cs.toArray, .agg cs'.toArray] w fun e w' => e = .returned (.bool true) ∧ Below w.heap.size w w' := by
  obtain ⟨pa, pc, ea, ec, rfl, ht, he⟩ := hx.form
  obtain ⟨pa', pc', ea', ec', rfl, ht', he'⟩ := hy.form
  obtain ⟨s0, s1, nm, s3, l⟩ := s
  obtain ⟨z0, z1, z2⟩ := hz
  simp only at ht he ht' he' z0 z1 z2 ⊢
  have hA : ∀ wx, Below w.heap.size w wx → Agree (fun b => b < N) w wx := fun wx hb => agree_below (hb.mono hN)
  have Hb : Hid (∀ o o' : Obj, Below w.heap.size w ((w.alloc o).alloc o')) := fun o o' => ((Below.refl _ _).alloc (Nat.le_refl _) o).alloc (by simp) o'
  have HT : Hid (∀ wx, Below w.heap.size w wx → Calls Tryz.prog 13 #[.slice pa nm.length pc, .slice pa' nm.length pc'] wx fun e w' => e = .returned (.bool true) ∧ Below wx.heap.size wx w') := fun wx hb => by
    obtain ⟨_, _, e1, s1, _⟩ := ht.agree (hA wx hb)
    obtain ⟨_, _, e2, s2, _⟩ := ht'.agree (hA wx hb)
    simp at e1 e2
    obtain ⟨rfl, _⟩ := e1
    obtain ⟨rfl, _⟩ := e2
    exact eqByteS_same _ _ _ _ nm wx s1 s2 (by omega)
  have HC : Hid (∀ wx, Below w.heap.size w wx → Calls Tryz.prog 30 #[.slice ea l.length ec, .slice ea' l.length ec'] wx fun e w' => e = .returned (.bool true) ∧ Below wx.heap.size wx w') := fun wx hb => eqEntryS_any d N _ _ l wx (he.agree (hA wx hb)) (he'.agree (hA wx hb)) (by have := hb.size; omega) z1 z2
  have Hbox : Hid (∀ o o' wx, Below ((w.alloc o).alloc o').heap.size ((w.alloc o).alloc o') wx → wx.heap[w.heap.size]? = some o ∧ wx.heap[w.heap.size + 1]? = some o') := fun o o' wx h => ⟨(h.block _ (by simp; omega)).trans (two_boxes w o o').1, (h.block _ (by simp)).trans (two_boxes w o o').2⟩
  clear hx hy ht he ht' he' hA z0 z1 z2
  generalize l.length = ll at *
  generalize nm.length = nl at *
  go_enter Tryz.func12, Tryz.ntmps12
  go_wp2_with fail
  refine (HT.out _ (Hb.out _ _)).mono ?_
  rintro e w1 ⟨rfl, b1⟩
  obtain ⟨r1, r2⟩ := Hbox.out _ _ _ b1
  obtain ⟨x0, x1, x2, x3, x4⟩ := five_row r1
  obtain ⟨y0, y1, y2, y3, y4⟩ := five_row r2
  have B1 := hide' (Below.on (Hb.out _ _) b1)
  clear b1 r1 r2 HT
  go_wp2_with fail
  refine (HC.out _ B1.out).mono ?_
  rintro e w2 ⟨rfl, b2⟩
  have B2 := hide' (Below.on B1.out b2)
  clear b2 B1 x0 x1 x2 x3 x4 y0 y1 y2 y3 y4
  go_wp2
  go_ret
  exact ⟨rfl, B2.out⟩

/-- A state of the call's own: its text, its entries' row and their blocks are just B. -/
def SaOwn (w : World) (d : Nat) (cs : List Value) (s : Stt d) (B : List Nat) : Prop :=
  ∃ c2 B2 g c sf, cs = [.int .i64 s.1, .bool s.2.1, c2, .int .i64 s.2.2.2.1, .slice (some ⟨g, 0, none⟩) s.2.2.2.2.length c] ∧ TOwn w c2 s.2.2.1 B2 ∧ s.2.2.2.2.length ≤ c ∧ c ≤ maxLen ∧ NtLO w d g s.2.2.2.2 sf s.2.2.2.2.length ∧ B = B2 ++ List.range' g (sf s.2.2.2.2.length - g) ∧ ∀ b ∈ B2, b < g

section
variable {w w' : World} {d : Nat} {cs : List Value} {s : Stt d} {B : List Nat}
theorem SaOwn.lt (h : SaOwn w d cs s B) : ∀ b ∈ B, b < w.heap.size := by
  obtain ⟨c2, B2, g, c, sf, rfl, h1, _, _, hR, rfl, _⟩ := h
  intro b hb
  have h3 := hR.2.2.2.1
  have h2 := ntlo_win hR
  simp only [List.mem_append, List.mem_range'_1] at hb
  rcases hb with hb | hb
  · exact h1.lt b hb
  · omega
theorem SaOwn.on (h : SaOwn w d cs s B) (hb : Below w.heap.size w w') : SaOwn w' d cs s B := by
  obtain ⟨c2, B2, g, c, sf, rfl, h1, h2, h3, hR, rfl, h4⟩ := h
  exact ⟨c2, B2, g, c, sf, rfl, h1.agree fun b hb' => hb.block b (h1.lt b hb'), h2, h3, ntlo_agree hR hb.size fun b _ hb2 => hb.block b (by have := hR.2.2.2.1; omega), rfl, h4⟩
theorem SaOwn.read (h : SaOwn w d cs s B) : SaSg (fun b => b < w.heap.size) w d cs s := by
  obtain ⟨c2, B2, g, c, sf, rfl, h0, h1, h2, hR, rfl, h3⟩ := h
  have hw := ntlo_win hR
  have h4 := hR.2.2.2.1
  refine ⟨_, _, rfl, h0.seg.mono fun b hb => h0.lt b hb, _, _, rfl, h1, h2, by simp, .inr ⟨g, 0, rfl, by omega, fun i hi => ?_⟩⟩
  obtain ⟨cs, B, hr, ho, hB⟩ := hR.2.2.2.2 i hi hi
  exact ⟨cs, by rw [Nat.zero_add]; exact hr, ho.read⟩
end

/-- What toState leaves. -/
def SaEndO (d : Nat) (s : Stt d) (w : World) (e : Ending) (w' : World) : Prop := ∃ cs, e = .returned (.agg cs.toArray) ∧ ∃ B, SaOwn w' d cs s B ∧ (∀ b ∈ B, w.heap.size ≤ b ∧ b < w'.heap.size) ∧ Below w.heap.size w w'

set_option maxHeartbeats 3200000 in
theorem toStateO_any (d N : Nat) (cs : List Value) (s : Stt d) (w : World) (hx : SaSg (fun b => b < N) w d cs s) (hN : N ≤ w.heap.size) (hz : SaSz d s) :
    Calls Tryz.prog 8 #[.agg cs.toArray] w (SaEndO d s w) := by
  obtain ⟨pa, pc, ea, ec, rfl, ht, he⟩ := hx.form
  obtain ⟨s0, s1, nm, s3, l⟩ := s
  obtain ⟨z0, z1, z2⟩ := hz
  simp only at ht he z0 z1 z2 ⊢
  have hA : ∀ wx, Below w.heap.size w wx → Agree (fun b => b < N) w wx := fun wx hb => agree_below (hb.mono hN)
  have HT : Hid (∀ wx, Below w.heap.size w wx → w.heap.size + 3 ≤ wx.heap.size → Calls Tryz.prog 9 #[.slice pa nm.length pc] wx fun e w' => ∃ g c, e = .returned (.slice (some ⟨g, 0, none⟩) nm.length c) ∧ TW (w.heap.size + 3) w'.heap.size w' (.slice (some ⟨g, 0, none⟩) nm.length c) nm ∧ Below wx.heap.size wx w') := fun wx hb hs => by
    obtain ⟨_, _, e1, s1, _⟩ := ht.agree (hA wx hb)
    simp at e1
    obtain ⟨rfl, _⟩ := e1
    refine (toByteS_any _ _ nm wx s1 (by omega)).mono ?_
    rintro e w' ⟨rfl, hB, b⟩
    refine ⟨_, _, rfl, ⟨_, tOwn_new hB, fun b' hb' => ?_⟩, b⟩
    have h1 := (tOwn_new hB).lt b' hb'
    simp at hb'
    exact ⟨by omega, h1⟩
  have HX : Hid (∀ wx, Below w.heap.size w wx → Calls Tryz.prog 25 #[.slice ea l.length ec] wx (NtLEnd d l wx)) := fun wx hb => toEntrySO_any d N _ l wx (he.agree (hA wx hb)) (by have := hb.size; omega) z1 z2
  have H3 := hide' (bx_start w 25 31 #[.int .i64 s0, .bool s1, .slice pa nm.length pc, .int .i64 s3, .slice ea l.length ec] #[.int .i64 0, .bool false, .slice none 0 0, .int .i64 0, .slice none 0 0] #[.int .i64 s0, .bool s1, .slice none 0 0, .int .i64 0, .slice none 0 0])
  have HFin : Hid (∀ e w', (∃ c2 B2 g c sf, e = Ending.returned (.agg #[.int .i64 s0, .bool s1, c2, .int .i64 s3, .slice (some ⟨g, 0, none⟩) l.length c]) ∧ TOwn w' c2 nm B2 ∧ l.length ≤ c ∧ c ≤ maxLen ∧ NtLO w' d g l sf l.length ∧ (∀ b ∈ B2, w.heap.size ≤ b ∧ b < g) ∧ w.heap.size ≤ g ∧ Below w.heap.size w w') → SaEndO d (s0, s1, nm, s3, l) w e w') := by
    rintro e w' ⟨c2, B2, g, c, sf, rfl, h1, h2, h3, h4, h5, h6, h7⟩
    refine ⟨[.int .i64 s0, .bool s1, c2, .int .i64 s3, .slice (some ⟨g, 0, none⟩) l.length c], rfl, _, ⟨c2, B2, g, c, sf, rfl, h1, h2, h3, h4, rfl, fun b hb => (h5 b hb).2⟩, fun b hb => ?_, h7⟩
    have hw := ntlo_win h4
    have h8 := h4.2.2.2.1
    simp only [List.mem_append, List.mem_range'_1] at hb
    rcases hb with hb | hb
    · exact ⟨(h5 b hb).1, h1.lt b hb⟩
    · omega
  clear hx ht he hA z0 z1 z2
  show Calls _ _ _ _ fun e w' => SaEndO d (s0, s1, nm, s3, l) w e w'
  generalize SaEndO d (s0, s1, nm, s3, l) w = Q at *
  obtain ⟨ll, hll⟩ : ∃ ll, ll = l.length := ⟨_, rfl⟩
  have HLL : Hid (∀ wx e w', NtLEnd d l wx e w' → ∃ g c s, e = .returned (.slice (some ⟨g, 0, none⟩) ll c) ∧ ll ≤ c ∧ c ≤ maxLen ∧ NtLO w' d g l s l.length ∧ wx.heap.size ≤ g ∧ Below wx.heap.size wx w') := fun wx e w' h => by rw [hll]; exact h
  rw [← hll] at HX H3
  have HFin' : Hid (∀ e w', (∃ c2 B2 g c sf, e = Ending.returned (.agg #[.int .i64 s0, .bool s1, c2, .int .i64 s3, .slice (some ⟨g, 0, none⟩) ll c]) ∧ TOwn w' c2 nm B2 ∧ ll ≤ c ∧ c ≤ maxLen ∧ NtLO w' d g l sf l.length ∧ (∀ b ∈ B2, w.heap.size ≤ b ∧ b < g) ∧ w.heap.size ≤ g ∧ Below w.heap.size w w') → Q e w') := by rw [hll]; exact HFin
  rw [← hll]
  clear HFin hll
  obtain ⟨nl, hnl⟩ : ∃ nl, nl = nm.length := ⟨_, rfl⟩
  rw [← hnl] at HT H3
  rw [← hnl]
  clear hnl
  show Calls _ _ _ _ fun e w' => Q e w'
  go_enter Tryz.func8, Tryz.ntmps8
  go_wp2_with fail
  refine (HT.out _ H3.out.1 H3.out.2.2.2.2).mono ?_
  rintro e w1 ⟨g1, c1, rfl, hT1, b1⟩
  have hq := bx_below H3.out b1
  have hs1 := hide' (bx_set (bx_set hq 2 (.slice (some ⟨g1, 0, none⟩) nl c1) rfl) 3 (.int .i64 s3) rfl)
  have hg1 := grownBy_trans (grown1 w1 (w.heap.size + 1 + 1) 2 (.slice (some ⟨g1, 0, none⟩) nl c1)) (grown1 _ (w.heap.size + 1 + 1) 3 (.int .i64 s3))
  have HT1 := hide' (hT1.agree (win_turn hg1 (Nat.le_refl _) (Nat.le_refl _)))
  have hx1 := hg1.size
  obtain ⟨x0, x1, x2, x3, x4⟩ := five_row hq.2.1
  obtain ⟨t0, t1, t2, t3, t4⟩ := five_row hq.2.2.2.1
  have f2 := frozen_of_row _ _ 2 _ _ hq.2.2.2.1
  have f3 := frozen_of_row _ _ 3 _ _ hq.2.2.2.1
  simp at hs1
  clear hT1 b1 hq hg1 H3 HT
  go_wp2_with fail
  refine (HX.out _ hs1.out.1).mono ?_
  intro e w2 hE
  obtain ⟨ug, uc, us, rfl, hlc, hcm, hO, hug, b2⟩ := HLL.out _ _ _ hE
  have hq := bx_below hs1.out b2
  have h3s := hq.2.2.2.2
  have hz1 := b2.size
  have h3t := hs1.out.2.2.2.2
  obtain ⟨y0, y1, y2, y3, y4⟩ := five_row hq.2.2.1
  obtain ⟨c0', c1', c2', c3', c4'⟩ := five_row hq.2.2.2.1
  have yf := fun j => frozen_of_row _ _ j _ _ hq.2.2.1
  have yf0 := yf 0
  have yf1 := yf 1
  have yf2 := yf 2
  have yf3 := yf 3
  have yf4 := yf 4
  have cf4 := frozen_of_row _ _ 4 _ _ hq.2.2.2.1
  have gA := grown1 w2 (w.heap.size + 1 + 1) 4 (.slice (some ⟨ug, 0, none⟩) ll uc)
  have hrow0 := (gA.block _ (by omega) (by simp)).trans hq.2.2.1
  have gB := set5_grown (w2.setCell ⟨w.heap.size + 1 + 1, 4, none⟩ (.slice (some ⟨ug, 0, none⟩) ll uc)) (w.heap.size + 1) 0 (.int .i64 s0) (.bool s1) (.slice (some ⟨g1, 0, none⟩) nl c1) (.int .i64 s3) (.slice (some ⟨ug, 0, none⟩) ll uc)
  have Hk := hide' (set5_heap (j := 0) (w := w2.setCell ⟨w.heap.size + 1 + 1, 4, none⟩ (.slice (some ⟨ug, 0, none⟩) ll uc)) (.int .i64 s0) (.bool s1) (.slice (some ⟨g1, 0, none⟩) nl c1) (.int .i64 s3) (.slice (some ⟨ug, 0, none⟩) ll uc) hrow0)
  have HB := hide' ((hq.1.grown gA hq.1.size (by intro j hj; simp at hj; omega)).grown gB (by have := gA.size; have := hq.1.size; omega) (by intro j hj; simp at hj; omega))
  have HF := hide' (ntlo_agree (ntlo_agree hO gA.size (fun b h1 h2 => gA.block b (by have := hO.2.2.2.1; omega) (by simp; omega))) gB.size (fun b h1 h2 => gB.block b (by have := hO.2.2.2.1; have := gA.size; omega) (by simp; omega)))
  have HTT := hide' (((HT1.out.agree (win_below b2 hx1)).agree (win_turn gA (Nat.le_refl _) (by omega))).agree (fun b hb => gB.block b (by have := gA.size; omega) (by simp; omega)))
  clear hO b2 hq gA gB hrow0 hz1 hE HX HLL yf x0 x1 x2 x3 x4 t0 t1 t2 t3 t4 f2 f3 HT1 hs1
  go_wp2_with fail
  obtain ⟨u0, u1, u2, u3, u4⟩ := five_row Hk.out
  simp only [set5, Nat.zero_add] at u0 u1 u2 u3 u4
  refine bodyPost_ret (v := .agg #[.int .i64 s0, .bool s1, .slice (some ⟨g1, 0, none⟩) nl c1, .int .i64 s3, .slice (some ⟨ug, 0, none⟩) ll uc]) (by simp [results, Tryz.results8, go_sem, u0, u1, u2, u3, u4]) rfl ?_
  obtain ⟨B2, hB2, hB2'⟩ := HTT.out
  refine HFin'.out _ _ ⟨_, B2, ug, uc, us, rfl, hB2, hlc, hcm, HF.out, fun b hb => ?_, by omega, HB.out⟩
  have := hB2' b hb
  omega
end Go.Proofs.YtngjhimieacjhaaGreatDoor
