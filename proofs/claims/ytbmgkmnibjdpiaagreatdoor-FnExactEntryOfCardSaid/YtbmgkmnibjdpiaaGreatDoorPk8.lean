/-
  Texts that a law leans on, one behind the other; no statement is proved here.
-/
import Derived.Test.YtbmgkmnibjdpiaaGreatDoorPk7
import Derived.Test.YtbmgkmnibjdpiaaGreatDoorPk4
import Derived.Test.YtbmgkmnibjdpiaaGreatDoorPk5
/-
  What is owned, behind later calls; how many marks a value takes.
-/
namespace Go.Proofs.YtbmgkmnibjdpiaaGreatDoor
open Go.RowKit
set_option linter.unusedVariables false
set_option linter.unusedSimpArgs false

theorem KOwn.on {w w' : World} {v : Value} {ks : List (List Int)} {B : List Nat} (h : KOwn w v ks B) (hb : Below w.heap.size w w') : KOwn w' v ks B := h.agree fun b hb' => hb.block b (h.lt b hb')
theorem VOwn.on {w w' : World} {d : Nat} {c : Value × Value × Value × Value × Value} {v : Vl d} {B : List Nat} (h : VOwn w d c v B) (hb : Below w.heap.size w w') : VOwn w' d c v B := VOwn.agree d h fun b hb' => hb.block b (VOwn.lt d h b hb')
theorem KOwn.far {w w' : World} {v : Value} {ks : List (List Int)} {B B' : List Nat} (h : KOwn w v ks B) (hT : Turned B' w w') (hd : ∀ b ∈ B, b ∉ B') : KOwn w' v ks B := h.agree fun b hb' => hT.block b (h.lt b hb') (hd b hb')
theorem KOwn.read {w : World} {v : Value} {ks : List (List Int)} {B : List Nat} (h : KOwn w v ks B) : KSeg (fun b => b < w.heap.size) w v ks := h.seg.mono fun b hb => h.lt b hb

theorem sum_cE {d : Nat} (h : ∀ v : Vl d, cE d v ≤ 2 + 2 * szV d v) : ∀ l : List (Vl d), (l.map (cE d)).sum ≤ 2 * l.length + 2 * (l.map (szV d)).sum
  | [] => by simp
  | x :: r => by
    have h1 := h x
    have h2 := sum_cE h r
    simp only [List.map_cons, List.sum_cons, List.length_cons]
    omega

theorem cE_sz : ∀ (d : Nat) (v : Vl d), cE d v ≤ 2 + 2 * szV d v
  | 0, _ => by simp [cE]
  | d + 1, (vk, vn, vs, vK, vL) => by
    have h2 := sum_cE (cE_sz d) vL
    have h3 : szV (d + 1) (vk, vn, vs, vK, vL) = szT vs + szK vK + (vL.length + (vL.map (szV d)).sum) := rfl
    have h4 : cE (d + 1) (vk, vn, vs, vK, vL) = 2 + (vs.length + ((vK.map List.length).sum + (vL.map (cE d)).sum)) := rfl
    have h5 : szK vK = vK.length + (vK.map List.length).sum := rfl
    have h6 : vs.length ≤ szT vs := by unfold szT; omega
    omega

theorem cV_le (d : Nat) (v : Vl (d + 1)) : cV d v ≤ 2 * szV (d + 1) v := by
  obtain ⟨vk, vn, vs, vK, vL⟩ := v
  have h2 := sum_cE (cE_sz d) vL
  have h3 : szV (d + 1) (vk, vn, vs, vK, vL) = szT vs + szK vK + (vL.length + (vL.map (szV d)).sum) := rfl
  have h4 : cV d (vk, vn, vs, vK, vL) = vs.length + (vK.map List.length).sum + (vL.map (cE d)).sum := rfl
  have h5 : szK vK = vK.length + (vK.map List.length).sum := rfl
  have h6 : vs.length ≤ szT vs := by unfold szT; omega
  omega

theorem VOwn.far {w w' : World} {d : Nat} {c : Value × Value × Value × Value × Value} {v : Vl d} {B B' : List Nat} (h : VOwn w d c v B) (hT : Turned B' w w') (hd : ∀ b ∈ B, b ∉ B') : VOwn w' d c v B := VOwn.agree d h fun b hb' => hT.block b (VOwn.lt d h b hb') (hd b hb')
theorem VOwn.read {w : World} {d : Nat} {c : Value × Value × Value × Value × Value} {v : Vl d} {B : List Nat} (h : VOwn w d c v B) : VSeg (fun b => b < w.heap.size) w d c v := h.below (Below.refl _ _)
theorem row_on {w w' : World} {b : Nat} {o : Obj} (h : w.heap[b]? = some o) (hb : Below w.heap.size w w') : w'.heap[b]? = some o := (hb.block b (Array.getElem?_eq_some_iff.1 h).1).trans h
theorem row_far {w w' : World} {b : Nat} {o : Obj} {B : List Nat} (h : w.heap[b]? = some o) (hT : Turned B w w') (hn : b ∉ B) : w'.heap[b]? = some o := (hT.block b (Array.getElem?_eq_some_iff.1 h).1 hn).trans h
theorem row_mark {w w' : World} {b : Nat} {o : Obj} {r : Option Nat} (h : w.heap[b]? = some o) (hg : w.grownBy w' r) (hn : some b ≠ r) : w'.heap[b]? = some o := (hg.block b (Array.getElem?_eq_some_iff.1 h).1 hn).trans h
theorem VOwn.mark {w w' : World} {d : Nat} {c : Value × Value × Value × Value × Value} {v : Vl d} {B : List Nat} {r : Option Nat} (h : VOwn w d c v B) (hg : w.grownBy w' r) (hn : ∀ b ∈ B, some b ≠ r) : VOwn w' d c v B := VOwn.agree d h fun b hb => hg.block b (VOwn.lt d h b hb) (hn b hb)

/-- What a call that hands out a value and a word leaves: a value of the call's own, and the word. -/
def Ans (D : Nat) (a : Vl (D + 1)) (bb : Bool) (w : World) (e : Ending) (w' : World) : Prop := ∃ u0 u1 u2 u3 u4, e = .returned (.tuple #[.agg #[u0, u1, u2, u3, u4], .bool bb]) ∧ ∃ B, VOwn w' (D + 1) (u0, u1, u2, u3, u4) a B ∧ (∀ b ∈ B, w.heap.size ≤ b ∧ b < w'.heap.size) ∧ Below w.heap.size w w'

/-- The value that holds nothing. -/
def vNil (d : Nat) : Vl (d + 1) := ((0 : Int), (0 : Int), ([] : List Int), ([] : List (List Int)), ([] : List (Vl d)))

theorem sz_vNil (d : Nat) : szV (d + 1) (vNil d) = 0 := rfl

theorem tOwn_nil (w : World) : TOwn w (.slice none 0 0) [] [] := ⟨⟨by simp, rfl, .inl ⟨rfl, rfl⟩⟩, .inl ⟨rfl, rfl⟩⟩

theorem own_vNil (d : Nat) (w : World) : VOwn w (d + 1) (.int .i64 0, .int .i64 0, .slice none 0 0, .slice none 0 0, .slice none 0 0) (vNil d) [] :=
  (VOwn_succ _ _ _ _ _).2 ⟨rfl, rfl, [], [], [], tOwn_nil w, .inl ⟨rfl, rfl, rfl⟩, .inl ⟨rfl, rfl, rfl⟩, rfl, by simp⟩
end Go.Proofs.YtbmgkmnibjdpiaaGreatDoor
/-
  markEvent, markAct: all that a record of the call's own holds is marked, and nothing else is turned.
-/
namespace Go.Proofs.YtbmgkmnibjdpiaaGreatDoor
open Go.RowKit
set_option linter.unusedVariables false
set_option linter.unusedSimpArgs false

theorem own_at {w wx : World} {o : Obj} {C D : List Nat} (hT : Turned C (w.alloc o) wx) (hl : ∀ b ∈ D, b < w.heap.size) (hd : ∀ b ∈ D, b ∉ C) : Agree (fun b => b ∈ D) w wx := fun b hb => by
  have h1 := hl b hb
  exact (hT.block b (by simp; omega) (hd b hb)).trans (Below.heap_alloc w o b h1)

end Go.Proofs.YtbmgkmnibjdpiaaGreatDoor
/-
  toActS, toPlan: a list of acts copied, each in blocks of its own; what marks it.
-/
namespace Go.Proofs.YtbmgkmnibjdpiaaGreatDoor
open Go.RowKit
set_option linter.unusedVariables false
set_option linter.unusedSimpArgs false

/-- A row of records of the call's own: the first k of them, record i in blocks from s i on and ahead of s (i + 1). -/
def RLO (w : World) (d g : Nat) (l : List (Rcd d)) (s : Nat → Nat) (k : Nat) : Prop :=
  w.there g 0 (l.length * 9) ∧ g < s 0 ∧ (∀ i, i < k → s i ≤ s (i + 1)) ∧ s k ≤ w.heap.size ∧ ∀ i (h : i < l.length), i < k → ∃ cs B, w.rangeAt g (i * 9) cs ∧ ROwn w d cs l[i] B ∧ ∀ b ∈ B, s i ≤ b ∧ b < s (i + 1)

theorem win_mono {s : Nat → Nat} {k : Nat} (h : ∀ i, i < k → s i ≤ s (i + 1)) : ∀ j i, i ≤ j → j ≤ k → s i ≤ s j
  | 0, i, hi, _ => by
    obtain rfl : i = 0 := by omega
    exact Nat.le_refl _
  | j + 1, i, hi, hj => by
    by_cases e : i = j + 1
    · subst e; exact Nat.le_refl _
    · exact Nat.le_trans (win_mono h j i (by omega) (by omega)) (h j (by omega))

theorem ROwn.len {w : World} {d : Nat} {cs : List Value} {it : Rcd d} {B : List Nat} (h : ROwn w d cs it B) : cs.length = 9 := RSg.len h.read

theorem rlo_next {wr w2 : World} {g d : Nat} {l : List (Rcd d)} {s : Nat → Nat} {k : Nat} {cs : List Value} {B : List Nat} (h : RLO wr d g l s k) (hk : k < l.length) (b2 : Below wr.heap.size wr w2) (hs : ROwn w2 d cs l[k] B) (hB : ∀ b ∈ B, wr.heap.size ≤ b ∧ b < w2.heap.size) :
    w2.there g (k * 9) 9 ∧ RLO (w2.setCells g (k * 9) cs) d g l (fun i => if i ≤ k then s i else w2.heap.size) (k + 1) := by
  obtain ⟨h1, h2, h3, h4, h5⟩ := h
  have hlen := hs.len
  have hg0 : g < wr.heap.size := by have := win_mono h3 k 0 (by omega) (by omega); omega
  have hth := there_below h1 hg0 b2
  have hg := grown_setCells g cs (k * 9) w2
  have hz := b2.size
  have hz2 := hg.size
  have htk := there_cut hth (k * 9) 9 (by omega)
  refine ⟨htk, World.there_setCells hth _ _ _, by simpa using h2, fun i hi => ?_, by dsimp only; rw [if_neg (by omega)]; exact hz2, fun i hi hik => ?_⟩
  · by_cases e : i = k
    · subst e
      dsimp only
      rw [if_pos (by omega), if_neg (by omega)]
      omega
    · dsimp only
      rw [if_pos (by omega), if_pos (by omega)]
      exact h3 i (by omega)
  · by_cases e : i = k
    · subst e
      refine ⟨cs, B, World.rangeAt_setCells_same _ _ _ _ (by rw [hlen]; exact htk), hs.agree (fun b hb => hg.block b (hB b hb).2 (by have := (hB b hb).1; simp; omega)), fun b hb => ?_⟩
      dsimp only
      rw [if_pos (by omega), if_neg (by omega)]
      have := hB b hb
      omega
    · obtain ⟨cs', B', hr, hv, hB'⟩ := h5 i hi (by omega)
      have hl' := hv.len
      have hw1 := win_mono h3 i 0 (by omega) (by omega)
      have hw2 := win_mono h3 k (i + 1) (by omega) (by omega)
      refine ⟨cs', B', World.rangeAt_setCells_apart (range_keep hr hg0 b2) _ _ _ (by omega), hv.agree (fun b hb => ?_), fun b hb => ?_⟩
      · have hb' := hB' b hb
        exact (hg.block b (by omega) (by simp; omega)).trans (b2.block b (by omega))
      · dsimp only
        rw [if_pos (by omega), if_pos (by omega)]
        exact hB' b hb

/-- What toActS leaves, in blocks of its own. -/
def RLEnd (d : Nat) (l : List (Rcd d)) (w : World) (e : Ending) (w' : World) : Prop := ∃ g c s, e = .returned (.slice (some ⟨g, 0, none⟩) l.length c) ∧ l.length ≤ c ∧ c ≤ maxLen ∧ RLO w' d g l s l.length ∧ w.heap.size ≤ g ∧ Below w.heap.size w w'

/-- A plan of the call's own: its acts' row and their blocks are just B. -/
def POwn (w : World) (d : Nat) (cs : List Value) (p : List (Rcd d) × Int) (B : List Nat) : Prop :=
  ∃ g c s, cs = [.slice (some ⟨g, 0, none⟩) p.1.length c, .int .i64 p.2] ∧ p.1.length ≤ c ∧ c ≤ maxLen ∧ RLO w d g p.1 s p.1.length ∧ B = List.range' g (s p.1.length - g)

variable {w w' : World} {d : Nat} {cs : List Value} {p : List (Rcd d) × Int} {B : List Nat}
theorem rlo_win {g : Nat} {l : List (Rcd d)} {s : Nat → Nat} (h : RLO w d g l s l.length) : g < s l.length := by
  have := win_mono h.2.2.1 l.length 0 (by omega) (by omega)
  have := h.2.1
  omega
theorem POwn.lt (h : POwn w d cs p B) : ∀ b ∈ B, b < w.heap.size := by
  obtain ⟨g, c, s, rfl, _, _, hR, rfl⟩ := h
  intro b hb
  have h1 := hR.2.2.2.1
  have h2 := rlo_win hR
  simp only [List.mem_range'_1] at hb
  omega
theorem rlo_agree {g : Nat} {l : List (Rcd d)} {s : Nat → Nat} (h : RLO w d g l s l.length) (hz : w.heap.size ≤ w'.heap.size) (ha : ∀ b, g ≤ b → b < s l.length → w'.heap[b]? = w.heap[b]?) : RLO w' d g l s l.length := by
  have hw := rlo_win h
  obtain ⟨h1, h2, h3, h4, h5⟩ := h
  refine ⟨fun j hj => ?_, h2, h3, by omega, fun i hi hik => ?_⟩
  · obtain ⟨q1, q2⟩ := h1 j hj
    exact ⟨by rw [World.cell?_of_block (w := w) (w' := w') (ha g (Nat.le_refl _) hw)]; exact q1, by rw [World.frozen?_of_block (w := w) (w' := w') (ha g (Nat.le_refl _) hw)]; exact q2⟩
  · obtain ⟨cs, B, hr, ho, hB⟩ := h5 i hi hik
    have hw1 := win_mono h3 i 0 (by omega) (by omega)
    have hw2 := win_mono h3 l.length (i + 1) (by omega) (by omega)
    exact ⟨cs, B, fun j v hv => (World.cell?_of_block (ha g (Nat.le_refl _) hw)).trans (hr j v hv), ho.agree fun b hb => ha b (by have := hB b hb; omega) (by have := hB b hb; omega), hB⟩
theorem POwn.on (h : POwn w d cs p B) (hb : Below w.heap.size w w') : POwn w' d cs p B := by
  obtain ⟨g, c, s, rfl, h1, h2, hR, rfl⟩ := h
  exact ⟨g, c, s, rfl, h1, h2, rlo_agree hR hb.size fun b _ hb2 => hb.block b (by have := hR.2.2.2.1; omega), rfl⟩
theorem POwn.read (h : POwn w d cs p B) : ∃ x, cs = [x, .int .i64 p.2] ∧ RLSg (fun b => b < w.heap.size) w d x p.1 := by
  obtain ⟨g, c, s, rfl, h1, h2, hR, rfl⟩ := h
  have hw := rlo_win hR
  have h4 := hR.2.2.2.1
  refine ⟨_, rfl, _, _, rfl, h1, h2, by simp, .inr ⟨g, 0, rfl, by omega, fun i hi => ?_⟩⟩
  obtain ⟨cs, B, hr, ho, hB⟩ := hR.2.2.2.2 i hi hi
  exact ⟨cs, by rw [Nat.zero_add]; exact hr, ho.read⟩
end Go.Proofs.YtbmgkmnibjdpiaaGreatDoor
/-
  toEntryS: a list of entries copied, each in blocks of its own; what marks it.
-/
namespace Go.Proofs.YtbmgkmnibjdpiaaGreatDoor
open Go.RowKit
set_option linter.unusedVariables false
set_option linter.unusedSimpArgs false

theorem infoNt : (Tryz.prog.info? 39).map (fun i => (i.zero, i.size, i.bytes)) = some (some (.agg #[.slice none 0 0, .int .i64 0, .int .i64 0, .slice none 0 0, .slice none 0 0, .slice none 0 0, .slice none 0 0, .bool false, .int .i64 0]), 9, 152) := by kernel_rfl

/-- A row of entries of the call's own: the first k of them, record i in blocks from s i on and ahead of s (i + 1). -/
def NtLO (w : World) (d g : Nat) (l : List (Ntr d)) (s : Nat → Nat) (k : Nat) : Prop :=
  w.there g 0 (l.length * 9) ∧ g < s 0 ∧ (∀ i, i < k → s i ≤ s (i + 1)) ∧ s k ≤ w.heap.size ∧ ∀ i (h : i < l.length), i < k → ∃ cs B, w.rangeAt g (i * 9) cs ∧ NtOwn w d cs l[i] B ∧ ∀ b ∈ B, s i ≤ b ∧ b < s (i + 1)

theorem NtOwn.len {w : World} {d : Nat} {cs : List Value} {it : Ntr d} {B : List Nat} (h : NtOwn w d cs it B) : cs.length = 9 := NtSg.len h.read

theorem ntlo_next {wr w2 : World} {g d : Nat} {l : List (Ntr d)} {s : Nat → Nat} {k : Nat} {cs : List Value} {B : List Nat} (h : NtLO wr d g l s k) (hk : k < l.length) (b2 : Below wr.heap.size wr w2) (hs : NtOwn w2 d cs l[k] B) (hB : ∀ b ∈ B, wr.heap.size ≤ b ∧ b < w2.heap.size) :
    w2.there g (k * 9) 9 ∧ NtLO (w2.setCells g (k * 9) cs) d g l (fun i => if i ≤ k then s i else w2.heap.size) (k + 1) := by
  obtain ⟨h1, h2, h3, h4, h5⟩ := h
  have hlen := hs.len
  have hg0 : g < wr.heap.size := by have := win_mono h3 k 0 (by omega) (by omega); omega
  have hth := there_below h1 hg0 b2
  have hg := grown_setCells g cs (k * 9) w2
  have hz := b2.size
  have hz2 := hg.size
  have htk := there_cut hth (k * 9) 9 (by omega)
  refine ⟨htk, World.there_setCells hth _ _ _, by simpa using h2, fun i hi => ?_, by dsimp only; rw [if_neg (by omega)]; exact hz2, fun i hi hik => ?_⟩
  · by_cases e : i = k
    · subst e
      dsimp only
      rw [if_pos (by omega), if_neg (by omega)]
      omega
    · dsimp only
      rw [if_pos (by omega), if_pos (by omega)]
      exact h3 i (by omega)
  · by_cases e : i = k
    · subst e
      refine ⟨cs, B, World.rangeAt_setCells_same _ _ _ _ (by rw [hlen]; exact htk), hs.agree (fun b hb => hg.block b (hB b hb).2 (by have := (hB b hb).1; simp; omega)), fun b hb => ?_⟩
      dsimp only
      rw [if_pos (by omega), if_neg (by omega)]
      have := hB b hb
      omega
    · obtain ⟨cs', B', hr, hv, hB'⟩ := h5 i hi (by omega)
      have hl' := hv.len
      have hw1 := win_mono h3 i 0 (by omega) (by omega)
      have hw2 := win_mono h3 k (i + 1) (by omega) (by omega)
      refine ⟨cs', B', World.rangeAt_setCells_apart (range_keep hr hg0 b2) _ _ _ (by omega), hv.agree (fun b hb => ?_), fun b hb => ?_⟩
      · have hb' := hB' b hb
        exact (hg.block b (by omega) (by simp; omega)).trans (b2.block b (by omega))
      · dsimp only
        rw [if_pos (by omega), if_pos (by omega)]
        exact hB' b hb

/-- What toEntryS leaves, in blocks of its own. -/
def NtLEnd (d : Nat) (l : List (Ntr d)) (w : World) (e : Ending) (w' : World) : Prop := ∃ g c s, e = .returned (.slice (some ⟨g, 0, none⟩) l.length c) ∧ l.length ≤ c ∧ c ≤ maxLen ∧ NtLO w' d g l s l.length ∧ w.heap.size ≤ g ∧ Below w.heap.size w w'

set_option maxHeartbeats 3200000 in
set_option maxRecDepth 100000 in
theorem toEntrySO_any (d N : Nat) (x : Value) (l : List (Ntr d)) (w : World) (hx : NtLS (fun b => b < N) w d x l) (hN : N ≤ w.heap.size) (hn : l.length ≤ 1048576) (hz : ∀ i (h : i < l.length), NtSz d l[i]) :
    Calls Tryz.prog 25 #[x] w (NtLEnd d l w) := by
  have HX := hide' hx
  have HZ := hide' hz
  obtain ⟨a, cap, rfl, _, _, _, _⟩ := hx
  obtain ⟨i0, hi, hz0, hz1, hz2⟩ := info_parts infoNt
  clear hz
  go_enter Tryz.func25, Tryz.ntmps25
  go_wp2_with (refine wpList_make_full _ rfl _ _ 28 rfl w.heap.size 39 i0 (.agg #[.slice none 0 0, .int .i64 0, .int .i64 0, .slice none 0 0, .slice none 0 0, .slice none 0 0, .slice none 0 0, .bool false, .int .i64 0]) 9 Tryz.underlying28 hi hz0 hz1 .i64 .i64 _ _ l.length rfl rfl rfl rfl (by rw [hz2]; omega) (by unfold maxLen; omega) (Nat.le_refl _) ?_; intro w1 hown hgrow)
  have hK0 : Hid (NtLO w1 d w.heap.size l (fun _ => w1.heap.size) 0) := by
    rcases hown.2 with ⟨h1, _⟩ | ⟨g, cp, cur, h1, _, h3, _, _, h6, _⟩
    · simp at h1
    · simp only [Value.slice.injEq, Option.some.injEq, Addr.mk.injEq, and_true, true_and] at h1
      obtain ⟨e1, e2⟩ := h1
      subst e1
      refine ⟨?_, (Array.getElem?_eq_some_iff.1 h3).1, fun i h => by omega, Nat.le_refl _, fun i hi h => by omega⟩
      have := there_of_row h3
      rw [h6, ← e2] at this
      exact this
  have hb1 : Below w.heap.size w w1 := (Below.refl _ _).grown hgrow (Nat.le_refl _) (by simp)
  clear hown hgrow
  go_loopw [4] (fun i wr => ∃ (k : Nat) (s : Nat → Nat), k ≤ l.length ∧ i = .int .i64 k ∧ Hid (NtLO wr d w.heap.size l s k) ∧ Below w.heap.size w wr) (fun i _ => l.length - (intOf i).toNat)
  case atStart => exact ⟨0, _, Nat.zero_le _, rfl, hK0, hb1⟩
  case round =>
    obtain ⟨k, s, hk, rfl, hK, hbel⟩ := hrel
    clear hK0 hb1
    have hzz := hbel.size
    by_cases hlt : k < l.length
    · have hlt' : (k : Int) < (l.length : Int) := by omega
      have hXr := HX.out.agree (agree_below (hbel.mono hN))
      obtain ⟨b, off, cs, rfl, hbN, hr, hs⟩ := hXr.at hlt
      have HC := hide' (toEntryO_any d N cs l[k] wr hs (by omega) (HZ.out k hlt))
      have hlen := hs.len
      clear hs hXr
      go_wp2_with (refine wpList_load_mid rfl 72 (.tmp 18) (by rfl) b (off + k * 9) (by rfl) cs _ hr Tryz.underlying72 rfl (info_laws_Entry hlen) ?_)
      refine HC.out.mono ?_
      rintro e w2 ⟨cs2, rfl, B2, hs2, hB2, b2⟩
      obtain ⟨hth, hP⟩ := ntlo_next hK.out hlt b2 hs2 hB2
      have hl2 := hs2.len
      have HP := hide' hP
      have hone := all_oneCell_toArray (NtSg.one hs2.read)
      have hsz2 : cs2.toArray.size = 9 := by simpa using hl2
      have hth' : w2.there w.heap.size (k * 9) cs2.toArray.size := by rw [hsz2]; exact hth
      have hB := hide' ((Below.on hbel b2).grown (grown_setCells w.heap.size cs2 (k * 9) w2) (Below.on hbel b2).size (by intro j hj; simp at hj; omega))
      clear hP hs2 hB2 b2 hbel hr HC
      go_wp2_with (refine wpList_store_mid rfl 39 (.tmp 21) (.tmp 20) (by rfl) w.heap.size (k * 9) cs2.toArray (by rfl) (by rfl) hth' (info_Entry hsz2) hone ?_)
      go_roundw
      case rel => exact ⟨k + 1, _, by omega, by go_num, HP, hB.out⟩
      case measure => simp [intOf]; omega
    · have hkn : k = l.length := by omega
      have hkn' : ¬ (k : Int) < (l.length : Int) := by omega
      have HF : Hid (NtLO wr d w.heap.size l s l.length) := by rw [← hkn]; exact hK
      clear hkn hK
      go_wp2
      go_ret
      exact ⟨_, _, s, rfl, Nat.le_refl _, by unfold maxLen; omega, HF.out, Nat.le_refl _, hbel⟩

variable {w w' : World} {d : Nat}
theorem ntlo_win {g : Nat} {l : List (Ntr d)} {s : Nat → Nat} (h : NtLO w d g l s l.length) : g < s l.length := by
  have := win_mono h.2.2.1 l.length 0 (by omega) (by omega)
  have := h.2.1
  omega
theorem ntlo_agree {g : Nat} {l : List (Ntr d)} {s : Nat → Nat} (h : NtLO w d g l s l.length) (hz : w.heap.size ≤ w'.heap.size) (ha : ∀ b, g ≤ b → b < s l.length → w'.heap[b]? = w.heap[b]?) : NtLO w' d g l s l.length := by
  have hw := ntlo_win h
  obtain ⟨h1, h2, h3, h4, h5⟩ := h
  refine ⟨fun j hj => ?_, h2, h3, by omega, fun i hi hik => ?_⟩
  · obtain ⟨q1, q2⟩ := h1 j hj
    exact ⟨by rw [World.cell?_of_block (w := w) (w' := w') (ha g (Nat.le_refl _) hw)]; exact q1, by rw [World.frozen?_of_block (w := w) (w' := w') (ha g (Nat.le_refl _) hw)]; exact q2⟩
  · obtain ⟨cs, B, hr, ho, hB⟩ := h5 i hi hik
    have hw1 := win_mono h3 i 0 (by omega) (by omega)
    have hw2 := win_mono h3 l.length (i + 1) (by omega) (by omega)
    exact ⟨cs, B, fun j v hv => (World.cell?_of_block (ha g (Nat.le_refl _) hw)).trans (hr j v hv), ho.agree fun b hb => ha b (by have := hB b hb; omega) (by have := hB b hb; omega), hB⟩
end Go.Proofs.YtbmgkmnibjdpiaaGreatDoor
/-
  eqItem, eqItemS: two readings of one list of entries.
-/
namespace Go.Proofs.YtbmgkmnibjdpiaaGreatDoor
open Go.RowKit
set_option linter.unusedVariables false
set_option linter.unusedSimpArgs false

set_option maxHeartbeats 3200000 in
set_option maxRecDepth 100000 in
theorem eqEntry_any (d N : Nat) (cs cs' : List Value) (it : Ntr d) (w : World) (h : NtSg (fun b => b < N) w d cs it) (h' : NtSg (fun b => b < N) w d cs' it) (hN : N ≤ w.heap.size) (hz : NtSz d it) :
    Calls Tryz.prog 13 #[.agg cs.toArray, .agg cs'.toArray] w fun e w' => e = .returned (.bool true) ∧ Below w.heap.size w w' := by
  obtain ⟨na, np, bk, bn, a2, l2, p2, a3, l3, p3, a4, l4, p4, xa, xp, rfl, ht, hv, hk⟩ := h.form
  obtain ⟨na', np', bk', bn', a2', l2', p2', a3', l3', p3', a4', l4', p4', xa', xp', rfl, ht', hv', hk'⟩ := h'.form
  obtain ⟨nm, by', ks, tn, tu⟩ := it
  obtain ⟨z0, z1, z2⟩ := hz
  simp only at ht hv hk ht' hv' hk' z0 z1 z2 ⊢
  have HB : Hid (∀ o o' : Obj, Below w.heap.size w ((w.alloc o).alloc o')) := fun o o' => ((Below.refl _ _).alloc (Nat.le_refl _) o).alloc (by simp) o'
  have Hbox : Hid (∀ o o' wx, Below ((w.alloc o).alloc o').heap.size ((w.alloc o).alloc o') wx → wx.heap[w.heap.size]? = some o ∧ wx.heap[w.heap.size + 1]? = some o') := fun o o' wx h => ⟨(h.block _ (by simp; omega)).trans (two_boxes w o o').1, (h.block _ (by simp)).trans (two_boxes w o o').2⟩
  have hA : ∀ wx, Below w.heap.size w wx → Agree (fun b => b < N) w wx := fun wx hb => agree_below (hb.mono hN)
  have HT : Hid (∀ wx, Below w.heap.size w wx → Calls Tryz.prog 14 #[.slice na nm.length np, .slice na' nm.length np'] wx fun e w' => e = .returned (.bool true) ∧ Below wx.heap.size wx w') := fun wx hb => by
    obtain ⟨_, _, e1, s1, _⟩ := ht.agree (hA wx hb)
    obtain ⟨_, _, e2, s2, _⟩ := ht'.agree (hA wx hb)
    simp at e1 e2
    obtain ⟨rfl, _⟩ := e1
    obtain ⟨rfl, _⟩ := e2
    exact eqByteS_same _ _ _ _ nm wx s1 s2 (by omega)
  have HV : Hid (∀ wx, Below w.heap.size w wx → Calls Tryz.prog 31 #[.agg #[.int .i64 bk, .int .i64 bn, .slice a2 l2 p2, .slice a3 l3 p3, .slice a4 l4 p4], .agg #[.int .i64 bk', .int .i64 bn', .slice a2' l2' p2', .slice a3' l3' p3', .slice a4' l4' p4']] wx fun e w' => e = .returned (.bool true) ∧ Below wx.heap.size wx w') := fun wx hb =>
    eqValue_any d N (.int .i64 bk, .int .i64 bn, .slice a2 l2 p2, .slice a3 l3 p3, .slice a4 l4 p4) (.int .i64 bk', .int .i64 bn', .slice a2' l2' p2', .slice a3' l3' p3', .slice a4' l4' p4') by' wx (VSeg.agree (hA wx hb) d hv) (VSeg.agree (hA wx hb) d hv') (by have := hb.size; omega) z1
  have HK : Hid (∀ wx, Below w.heap.size w wx → Calls Tryz.prog 32 #[.slice xa ks.length xp, .slice xa' ks.length xp'] wx fun e w' => e = .returned (.bool true) ∧ Below wx.heap.size wx w') := fun wx hb => eqByteSS_same N _ _ ks wx (hk.agree (hA wx hb)) (hk'.agree (hA wx hb)) (by have := hb.size; omega) z2

  clear ht hv hk ht' hv' hk' h h' hA
  generalize nm.length = s0 at *
  generalize ks.length = kl at *
  go_enter Tryz.func13, Tryz.ntmps13
  go_wp2_with fail
  refine (HT.out _ (HB.out _ _)).mono ?_
  rintro e w1 ⟨rfl, b1⟩
  obtain ⟨r1, r2⟩ := Hbox.out _ _ _ b1
  have u1 := cell_of_row _ _ 1 _ _ _ r1
  have t1 := cell_of_row _ _ 1 _ _ _ r2
  have u2 := cell_of_row _ _ 2 _ _ _ r1
  have t2 := cell_of_row _ _ 2 _ _ _ r2
  have u3 := cell_of_row _ _ 3 _ _ _ r1
  have t3 := cell_of_row _ _ 3 _ _ _ r2
  have u4 := cell_of_row _ _ 4 _ _ _ r1
  have t4 := cell_of_row _ _ 4 _ _ _ r2
  have u5 := cell_of_row _ _ 5 _ _ _ r1
  have t5 := cell_of_row _ _ 5 _ _ _ r2
  simp at u1 u2 u3 u4 u5 t1 t2 t3 t4 t5
  have B1 := hide' b1
  clear r1 r2 b1
  go_wp2_with fail
  refine (HV.out _ (Below.on (HB.out _ _) B1.out)).mono ?_
  rintro e w2 ⟨rfl, b2⟩
  have B2 := hide' (Below.on B1.out b2)
  obtain ⟨r1, r2⟩ := Hbox.out _ _ _ B2.out
  have u8 := cell_of_row _ _ 6 _ _ _ r1
  have t8 := cell_of_row _ _ 6 _ _ _ r2
  simp at u8 t8
  clear r1 r2 b2
  go_wp2_with fail
  refine (HK.out _ (Below.on (HB.out _ _) B2.out)).mono ?_
  rintro e w3 ⟨rfl, b3⟩
  have B3 := hide' (Below.on (HB.out _ _) (Below.on B2.out b3))
  obtain ⟨r1, r2⟩ := Hbox.out _ _ _ (Below.on B2.out b3)
  have u9 := cell_of_row _ _ 7 _ _ _ r1
  have t9 := cell_of_row _ _ 7 _ _ _ r2
  have u10 := cell_of_row _ _ 8 _ _ _ r1
  have t10 := cell_of_row _ _ 8 _ _ _ r2
  simp at u9 t9 u10 t10
  clear b3 r1 r2
  go_wp2
  go_ret
  exact ⟨rfl, B3.out⟩

set_option maxHeartbeats 3200000 in
set_option maxRecDepth 100000 in
theorem eqEntryS_any (d N : Nat) (x y : Value) (l : List (Ntr d)) (w : World) (hx : NtLS (fun b => b < N) w d x l) (hy : NtLS (fun b => b < N) w d y l) (hN : N ≤ w.heap.size) (hll : l.length ≤ 1048576) (hz : ∀ i (h : i < l.length), NtSz d l[i]) :
    Calls Tryz.prog 27 #[x, y] w fun e w' => e = .returned (.bool true) ∧ Below w.heap.size w w' := by
  have HX := hide' hx
  have HY := hide' hy
  have HZ := hide' hz
  obtain ⟨a, cap, rfl, _, _, _, _⟩ := hx
  obtain ⟨a', cap', rfl, _, _, _, _⟩ := hy
  clear hz
  go_enter Tryz.func27, Tryz.ntmps27
  go_wp2
  go_loopw [5] (fun i wr => ∃ k : Nat, k ≤ l.length ∧ i = .int .i64 k ∧ Below w.heap.size w wr) (fun i _ => l.length - (intOf i).toNat)
  case atStart => exact ⟨0, Nat.zero_le _, rfl, Below.refl _ _⟩
  case round =>
    obtain ⟨k, hk, rfl, hbel⟩ := hrel
    have hz := hbel.size
    by_cases hlt : k < l.length
    · have hlt' : (k : Int) < (l.length : Int) := by omega
      have hXr := HX.out.agree (agree_below (hbel.mono hN))
      have hYr := HY.out.agree (agree_below (hbel.mono hN))
      obtain ⟨b, off, cs, rfl, hbN, hr, hs⟩ := hXr.at hlt
      obtain ⟨b', off', cs', rfl, hbN', hr', hs'⟩ := hYr.at hlt
      have HC := hide' (eqEntry_any d N cs cs' l[k] wr.drew (hs.agree (w' := wr.drew) (fun b _ => rfl)) (hs'.agree (w' := wr.drew) (fun b _ => rfl)) (by show N ≤ wr.heap.size; omega) (HZ.out k hlt))
      have hlen := hs.len
      have hlen' := hs'.len
      obtain ⟨na, np, bk, bn, a2, l2, p2, a3, l3, p3, a4, l4, p4, xa, xp, rfl, _⟩ := hs.form
      obtain ⟨na', np', bk', bn', a2', l2', p2', a3', l3', p3', a4', l4', p4', xa', xp', rfl, _⟩ := hs'.form
      have u0 := hr 0 _ rfl
      have t0 := hr' 0 _ rfl
      have u1 := hr 1 _ rfl
      have t1 := hr' 1 _ rfl
      have u2 := hr 2 _ rfl
      have t2 := hr' 2 _ rfl
      have u3 := hr 3 _ rfl
      have t3 := hr' 3 _ rfl
      have u4 := hr 4 _ rfl
      have t4 := hr' 4 _ rfl
      have u5 := hr 5 _ rfl
      have t5 := hr' 5 _ rfl
      have u6 := hr 6 _ rfl
      have t6 := hr' 6 _ rfl
      have u7 := hr 7 _ rfl
      have t7 := hr' 7 _ rfl
      have u8 := hr 8 _ rfl
      have t8 := hr' 8 _ rfl
      simp only [Nat.add_zero] at u0 t0
      have HB := hide' hbel
      clear hs hXr hs' hYr hr hr' hlen hlen' hbel
      generalize l[k] = it at *
      obtain ⟨inm, iby, iks, itn, itu⟩ := it
      simp only at u0 u1 u2 u3 u4 u5 u6 u7 u8 t0 t1 t2 t3 t4 t5 t6 t7 t8 HC
      go_wp2_with fail
      go_region_with (go_at_call 13; refine HC.out.mono ?_; rintro e w1 ⟨rfl, b1⟩)
      all_goals
        have B1 := Below.on HB.out.drew b1
        clear u0 u1 u2 u3 u4 u5 u6 u7 u8 t0 t1 t2 t3 t4 t5 t6 t7 t8
        go_wp2
        go_roundw
        case rel => exact ⟨k + 1, by omega, by go_num, B1⟩
        case measure => simp [intOf]; omega
    · have hlt' : ¬ (k : Int) < (l.length : Int) := by omega
      go_wp2
      go_ret
      exact ⟨rfl, hbel⟩

end Go.Proofs.YtbmgkmnibjdpiaaGreatDoor
