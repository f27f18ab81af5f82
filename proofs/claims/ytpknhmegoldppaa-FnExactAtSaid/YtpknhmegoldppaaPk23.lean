/-
  Texts that a law leans on, one behind the other; no statement is proved here.
-/
import Derived.Test.YtpknhmegoldppaaPk0
import Derived.Test.YtpknhmegoldppaaPk1
import Derived.Deep.RegionWith
/-
  Paths: a list of steps (kind, key, place), as it is read ('PthSeg') and as a call owns it ('PthOwn'); no statement is proved here.
-/
namespace Go.Proofs.Ytpknhmegoldppaa
open Go.RowKit
set_option linter.unusedVariables false

/-- A step: its kind, its key, its place. -/
abbrev Stp : Type := Int × List Int × Int

/-- The three cells of a step at a place. -/
def Three (w : World) (b off : Nat) (c : Value × Value × Value) : Prop :=
  w.cell? ⟨b, off, none⟩ = some c.1 ∧ w.cell? ⟨b, off + 1, none⟩ = some c.2.1 ∧ w.cell? ⟨b, off + 2, none⟩ = some c.2.2

/-- Three cells read as a step. -/
def StSeg (R : Nat → Prop) (w : World) (c : Value × Value × Value) (s : Stp) : Prop := c.1 = .int .i64 s.1 ∧ TSeg R w c.2.1 s.2.1 ∧ c.2.2 = .int .i64 s.2.2

/-- A slice of steps. -/
def PthSeg (R : Nat → Prop) (w : World) (x : Value) (l : List Stp) : Prop := ∃ a cap, x = .slice a l.length cap ∧ l.length ≤ cap ∧ cap ≤ maxLen ∧ (a = none → cap = 0) ∧
  (l = [] ∨ ∃ b off, a = some ⟨b, off, none⟩ ∧ R b ∧ ∀ i (h : i < l.length), ∃ e, Three w b (off + i * 3) e ∧ StSeg R w e (l[i]))

theorem Three.agree {R : Nat → Prop} {w w' : World} {b off : Nat} {c : Value × Value × Value} (h : Three w b off c) (ha : Agree R w w') (hb : R b) : Three w' b off c := by
  obtain ⟨h0, h1, h2⟩ := h
  exact ⟨(cell_agree ha hb).trans h0, (cell_agree ha hb).trans h1, (cell_agree ha hb).trans h2⟩

theorem StSeg.agree {R : Nat → Prop} {w w' : World} {c : Value × Value × Value} {s : Stp} (h : StSeg R w c s) (ha : Agree R w w') : StSeg R w' c s := ⟨h.1, h.2.1.agree ha, h.2.2⟩

theorem StSeg.mono {R R' : Nat → Prop} {w : World} {c : Value × Value × Value} {s : Stp} (h : StSeg R w c s) (hr : ∀ b, R b → R' b) : StSeg R' w c s := ⟨h.1, h.2.1.mono hr, h.2.2⟩

theorem PthSeg.agree {R : Nat → Prop} {w w' : World} {x : Value} {l : List Stp} (h : PthSeg R w x l) (ha : Agree R w w') : PthSeg R w' x l := by
  obtain ⟨a, cap, g1, g2, g3, g4, g5⟩ := h
  refine ⟨a, cap, g1, g2, g3, g4, ?_⟩
  rcases g5 with e | ⟨b, off, hb, hR, hc⟩
  · exact .inl e
  · refine .inr ⟨b, off, hb, hR, fun i hi => ?_⟩
    obtain ⟨e, he, hv⟩ := hc i hi
    exact ⟨e, he.agree ha hR, hv.agree ha⟩

theorem PthSeg.mono {R R' : Nat → Prop} {w : World} {x : Value} {l : List Stp} (h : PthSeg R w x l) (hr : ∀ b, R b → R' b) : PthSeg R' w x l := by
  obtain ⟨a, cap, g1, g2, g3, g4, g5⟩ := h
  refine ⟨a, cap, g1, g2, g3, g4, ?_⟩
  rcases g5 with e | ⟨b, off, hb, hR, hc⟩
  · exact .inl e
  · refine .inr ⟨b, off, hb, hr b hR, fun i hi => ?_⟩
    obtain ⟨e, he, hv⟩ := hc i hi
    exact ⟨e, he, hv.mono hr⟩

/-- The k-th step, in the world of then. -/
theorem PthSeg.at {R : Nat → Prop} {w : World} {a : Option Addr} {n cap : Nat} {l : List Stp} (h : PthSeg R w (.slice a n cap) l) {k : Nat} (hk : k < l.length) :
    ∃ b off c0 c1 c2, a = some ⟨b, off, none⟩ ∧ R b ∧ Three w b (off + k * 3) (c0, c1, c2) ∧ StSeg R w (c0, c1, c2) (l[k]) := by
  obtain ⟨a', cap', g1, _, _, _, g5⟩ := h
  simp only [Value.slice.injEq] at g1
  obtain ⟨rfl, _, _⟩ := g1
  rcases g5 with e | ⟨b, off, hb, hR, hc⟩
  · rw [e] at hk; simp at hk
  · obtain ⟨⟨c0, c1, c2⟩, he, hv⟩ := hc k hk
    exact ⟨b, off, c0, c1, c2, hb, hR, he, hv⟩

/-- What szStepS takes off. -/
def szP (l : List Stp) : Nat := l.length + (l.map fun s => s.2.1.length).sum

/-- The three cells of a step in an array of cells. -/
def Cells3 (cur : Array Value) (j : Nat) (e : Value × Value × Value) : Prop := cur[j]? = some e.1 ∧ cur[j + 1]? = some e.2.1 ∧ cur[j + 2]? = some e.2.2

/-- A step of the call's own. -/
def StOwn (w : World) (c : Value × Value × Value) (s : Stp) (B : List Nat) : Prop := c.1 = .int .i64 s.1 ∧ TOwn w c.2.1 s.2.1 B ∧ c.2.2 = .int .i64 s.2.2

/-- A list of steps of the call's own. -/
def PthOwn (w : World) (x : Value) (l : List Stp) (B : List Nat) : Prop :=
  ∃ (g cap : Nat) (cur : Array Value) (Bi : List (List Nat)), x = .slice (some ⟨g, 0, none⟩) l.length cap ∧ w.heap[g]? = some (.cells cur 76 (0, 0)) ∧ l.length ≤ cap ∧ cap ≤ maxLen ∧ cur.size = cap * 3 ∧ Bi.length = l.length ∧
    (∀ i (h : i < l.length), ∃ e, Cells3 cur (i * 3) e ∧ StOwn w e (l[i]) (Bi.getD i [])) ∧ B = g :: Bi.flatten ∧ B.Nodup

theorem StOwn.agree {w w' : World} {c : Value × Value × Value} {s : Stp} {B : List Nat} (h : StOwn w c s B) (ha : Agree (fun b => b ∈ B) w w') : StOwn w' c s B := ⟨h.1, h.2.1.agree ha, h.2.2⟩

theorem PthOwn.agree {w w' : World} {x : Value} {l : List Stp} {B : List Nat} (h : PthOwn w x l B) (ha : Agree (fun b => b ∈ B) w w') : PthOwn w' x l B := by
  obtain ⟨g, cap, cur, Bi, h1, h2, h3, h4, h5, h6, h7, rfl, h9⟩ := h
  refine ⟨g, cap, cur, Bi, h1, (ha g (by simp)).trans h2, h3, h4, h5, h6, fun i hi => ?_, rfl, h9⟩
  obtain ⟨e, he, hv⟩ := h7 i hi
  exact ⟨e, he, hv.agree fun b hb => ha b (List.mem_cons_of_mem _ (flatten_mem_getD (by omega) hb))⟩

theorem PthOwn.lt {w : World} {x : Value} {l : List Stp} {B : List Nat} (h : PthOwn w x l B) : ∀ b ∈ B, b < w.heap.size := by
  intro b hb
  obtain ⟨g, cap, cur, Bi, h1, h2, h3, h4, h5, h6, h7, rfl, h9⟩ := h
  rcases List.mem_cons.1 hb with rfl | hb
  · exact (Array.getElem?_eq_some_iff.1 h2).1
  · obtain ⟨q, hq, hbq⟩ := List.mem_flatten.1 hb
    obtain ⟨i, hi, rfl⟩ := List.getElem_of_mem hq
    obtain ⟨u, _, ht⟩ := h7 i (by omega)
    exact ht.2.1.lt b (by simpa [List.getD_eq_getElem?_getD, hi] using hbq)

theorem Cells3.three {w : World} {g : Nat} {cur : Array Value} {T : TypeId} (h : w.heap[g]? = some (.cells cur T (0, 0))) {j : Nat} {e : Value × Value × Value} (he : Cells3 cur j e) : Three w g j e := by
  obtain ⟨h0, h1, h2⟩ := he
  refine ⟨?_, ?_, ?_⟩ <;> rw [cell_of_row w g _ cur _ (0, 0) h] <;> assumption

theorem PthOwn.seg {w : World} {x : Value} {l : List Stp} {B : List Nat} (h : PthOwn w x l B) : PthSeg (fun b => b ∈ B) w x l := by
  obtain ⟨g, cap, cur, Bi, h1, h2, h3, h4, h5, h6, h7, rfl, h9⟩ := h
  refine ⟨some ⟨g, 0, none⟩, cap, h1, h3, h4, by simp, .inr ⟨g, 0, rfl, by simp, fun i hi => ?_⟩⟩
  obtain ⟨e, he, hv⟩ := h7 i hi
  exact ⟨e, by rw [Nat.zero_add]; exact he.three h2, hv.1, hv.2.1.seg.mono fun b hb => List.mem_cons_of_mem _ (flatten_mem_getD (by omega) hb), hv.2.2⟩

/-- What a call has made for itself can be read by whoever comes behind it. -/
theorem PthOwn.below {w w' : World} {x : Value} {l : List Stp} {B : List Nat} (h : PthOwn w x l B) (hb : Below w.heap.size w w') : PthSeg (fun b => b < w.heap.size) w' x l :=
  (h.seg.mono fun b hb => h.lt b hb).agree (agree_below hb)

/-- After k rounds of toStepS. -/
def PPart (w : World) (g n : Nat) (l : List Stp) (k : Nat) (N : Nat) : Prop :=
  ∃ (cur : Array Value) (Bi : List (List Nat)), w.heap[g]? = some (.cells cur 76 (0, 0)) ∧ cur.size = n * 3 ∧ Bi.length = k ∧
    (∀ i (h : i < l.length), i < k → ∃ e, Cells3 cur (i * 3) e ∧ StOwn w e (l[i]) (Bi.getD i [])) ∧ (∀ b ∈ Bi.flatten, N ≤ b ∧ b < w.heap.size) ∧ Bi.flatten.Nodup

/-- Three cells stored one behind the other. -/
def set3 (w : World) (g j : Nat) (c0 c1 c2 : Value) : World := ((w.setCell ⟨g, j, none⟩ c0).setCell ⟨g, j + 1, none⟩ c1).setCell ⟨g, j + 2, none⟩ c2

/-- The array behind it. -/
def arrSet3 (cur : Array Value) (j : Nat) (c0 c1 c2 : Value) : Array Value := ((cur.setIfInBounds j c0).setIfInBounds (j + 1) c1).setIfInBounds (j + 2) c2

theorem set3_heap {w : World} {g j : Nat} {cur : Array Value} {T : TypeId} (c0 c1 c2 : Value) (h : w.heap[g]? = some (.cells cur T (0, 0))) :
    (set3 w g j c0 c1 c2).heap[g]? = some (.cells (arrSet3 cur j c0 c1 c2) T (0, 0)) :=
  heap_setCell_same _ g (j + 2) _ T c2 (heap_setCell_same _ g (j + 1) _ T c1 (heap_setCell_same w g j cur T c0 h))

theorem set3_other (w : World) (g j : Nat) (c0 c1 c2 : Value) (b : Nat) (hb : b ≠ g) : (set3 w g j c0 c1 c2).heap[b]? = w.heap[b]? := by
  unfold set3
  rw [Below.heap_setCell _ _ _ b hb, Below.heap_setCell _ _ _ b hb, Below.heap_setCell _ _ _ b hb]

theorem set3_size (w : World) (g j : Nat) (c0 c1 c2 : Value) : (set3 w g j c0 c1 c2).heap.size = w.heap.size := by simp [set3, World.setCell]

theorem set3_grown (w : World) (g j : Nat) (c0 c1 c2 : Value) : w.grownBy (set3 w g j c0 c1 c2) (some g) :=
  grownBy_trans (grownBy_trans (grown1 _ _ _ _) (grown1 _ _ _ _)) (grown1 _ _ _ _)

theorem arrSet3_size (cur : Array Value) (j : Nat) (c0 c1 c2 : Value) : (arrSet3 cur j c0 c1 c2).size = cur.size := by simp [arrSet3]

theorem arrSet3_at (cur : Array Value) (j : Nat) (c0 c1 c2 : Value) (h : j + 2 < cur.size) : Cells3 (arrSet3 cur j c0 c1 c2) j (c0, c1, c2) := by
  unfold arrSet3 Cells3
  refine ⟨?_, ?_, ?_⟩ <;> simp [Array.getElem?_setIfInBounds] <;> omega

theorem arrSet3_ne (cur : Array Value) (j i : Nat) (c0 c1 c2 : Value) (h : i < j ∨ j + 2 < i) : (arrSet3 cur j c0 c1 c2)[i]? = cur[i]? := by
  unfold arrSet3
  rw [Array.getElem?_setIfInBounds_ne (by omega), Array.getElem?_setIfInBounds_ne (by omega), Array.getElem?_setIfInBounds_ne (by omega)]

theorem pPart_next {w w1 : World} {g n : Nat} {l : List Stp} {k N : Nat} (h : PPart w g n l k N) (hgN : g < N) (hk : k < l.length) (hkn : k < n) (b1 : Below w.heap.size w w1) (hN : N ≤ w.heap.size) (c0 c1 c2 : Value) (B : List Nat) (hu : StOwn w1 (c0, c1, c2) l[k] B) (hB : ∀ b ∈ B, w.heap.size ≤ b ∧ b < w1.heap.size) (hBn : B.Nodup) :
    PPart (set3 w1 g (k * 3) c0 c1 c2) g n l (k + 1) N := by
  obtain ⟨cur, Bi, h1, h2, h3, h4, h5, h6⟩ := h
  have hgw : g < w.heap.size := (Array.getElem?_eq_some_iff.1 h1).1
  have h1' : w1.heap[g]? = some (.cells cur 76 (0, 0)) := (b1.block g hgw).trans h1
  refine ⟨arrSet3 cur (k * 3) c0 c1 c2, Bi ++ [B], set3_heap c0 c1 c2 h1', by rw [arrSet3_size]; exact h2, by simp [h3], fun i hi hik => ?_, ?_, ?_⟩
  · by_cases he : i = k
    · subst he
      have e : (Bi ++ [B]).getD i [] = B := by simp [List.getD_eq_getElem?_getD, ← h3]
      rw [e]
      exact ⟨_, arrSet3_at cur (i * 3) c0 c1 c2 (by omega), hu.agree fun b hb => set3_other w1 g _ _ _ _ b (by have := hB b hb; omega)⟩
    · have hi' : i < k := by omega
      obtain ⟨e5, hc5, hv⟩ := h4 i hi hi'
      have e : (Bi ++ [B]).getD i [] = Bi.getD i [] := by
        simp only [List.getD_eq_getElem?_getD]
        rw [List.getElem?_append_left (by omega)]
      rw [e]
      refine ⟨e5, ?_, (hv.agree fun b hb => b1.block b (hv.2.1.lt b hb)).agree fun b hb => set3_other w1 g _ _ _ _ b ?_⟩
      · obtain ⟨q0, q1, q2⟩ := hc5
        refine ⟨?_, ?_, ?_⟩ <;> rw [arrSet3_ne _ _ _ _ _ _ (by omega)] <;> assumption
      · have := h5 b (flatten_mem_getD (by omega) hb)
        omega
  · intro b hb
    rw [List.flatten_append, List.mem_append] at hb
    rw [set3_size]
    rcases hb with hb | hb
    · have := h5 b hb
      have := b1.size
      omega
    · have hb' : b ∈ B := by simpa using hb
      have := hB b hb'
      omega
  · rw [List.flatten_append, List.nodup_append]
    refine ⟨h6, by simpa using hBn, fun b hb c hc => ?_⟩
    have hc' : c ∈ B := by simpa using hc
    have := h5 b hb
    have := hB c hc'
    omega


/-- A path that came in is of this shape. -/
theorem PthSeg.form {R : Nat → Prop} {w : World} {x : Value} {l : List Stp} (h : PthSeg R w x l) : ∃ a n p, x = .slice a n p := by
  obtain ⟨a, cap, h1, _⟩ := h
  exact ⟨_, _, _, h1⟩
end Go.Proofs.Ytpknhmegoldppaa
/-
  szStep, szStepS of the laws: what is left of a bound behind a path's weight, or -1.
-/
namespace Go.Proofs.Ytpknhmegoldppaa
open Go.RowKit
set_option linter.unusedVariables false

/-- A key's length. -/
def keyLen (s : Stp) : Nat := s.2.1.length
theorem szP_eq (l : List Stp) : szP l = l.length + (l.map keyLen).sum := rfl
theorem szP_elem {l : List Stp} {k : Nat} (hk : k < l.length) : (l[k]).2.1.length ≤ szP l := by
  have h1 := pre_succ keyLen l k hk
  have h2 := pre_le keyLen l (k + 1)
  have h3 : keyLen l[k] = (l[k]).2.1.length := rfl
  rw [szP_eq]
  omega

set_option maxHeartbeats 1600000 in
theorem szStep_any (N : Nat) (c0 c1 c2 : Value) (s : Stp) (l : Int) (w : World) (hs : StSeg (fun b => b < N) w (c0, c1, c2) s) (h0 : 0 ≤ l) (h1 : l ≤ 1048576) :
    Calls Try.prog 44 #[.agg #[c0, c1, c2], .int .i64 l] w fun e w' => e = .returned (.int .i64 (less l (keyLen s))) ∧ Below w.heap.size w w' := by
  obtain ⟨sk, ss, si⟩ := s
  obtain ⟨e0, ht, e2⟩ := hs
  simp only at e0 ht e2
  subst e0
  subst e2
  obtain ⟨a2, cp2, rfl, s2, hl2, hm2, _, _⟩ := ht
  have b0 : ∀ o : Obj, Below w.heap.size w (w.alloc o) := fun o => (Below.refl _ _).alloc (Nat.le_refl _) o
  have Hb := hide' b0
  have hn2 : ss.length ≤ maxLen := by omega
  show Calls Try.prog 44 _ w fun e w' => e = .returned (.int .i64 (less l ss.length)) ∧ Below w.heap.size w w'
  clear s2 b0
  go_enter Try.func44, Try.ntmps44
  go_wp2_with fail
  refine (szByteS_any _ ss.length _ l _ h0 h1 hn2).mono ?_
  rintro e w1 ⟨rfl, e1⟩
  obtain rfl := e1
  by_cases hb1 : l < ss.length
  · rw [less_no _ _ hb1]
    go_wp2
    go_ret
    exact ⟨ret_i64 (less_no _ _ hb1).symm, Hb.out _⟩
  · rw [less_yes _ _ hb1]
    have hq : ¬ (l - (ss.length : Int) < 0) := by omega
    go_wp2
    go_ret
    exact ⟨ret_i64 (less_yes _ _ (by omega)).symm, Hb.out _⟩

set_option maxHeartbeats 1600000 in
theorem szStepS_any (N : Nat) (x : Value) (l : List Stp) (m : Int) (w : World) (hx : PthSeg (fun b => b < N) w x l) (hN : N ≤ w.heap.size) (h0 : 0 ≤ m) (h1 : m ≤ 1048576) :
    Calls Try.prog 18 #[x, .int .i64 m] w fun e w' => e = .returned (.int .i64 (less m (szP l))) ∧ Below w.heap.size w w' := by
  have hx0 := hx
  obtain ⟨a, cap, rfl, hlc, hcm, ka, hc⟩ := hx
  unfold maxLen at hcm
  have hsz := szP_eq l
  by_cases h : m < l.length
  · have HO : Hid (less m (szP l) = -1) := less_no m _ (by rw [hsz]; omega)
    have h' : m - (l.length : Int) < 0 := by omega
    clear hsz hc hx0
    go_enter Try.func18, Try.ntmps18
    go_wp2
    go_ret
    exact ⟨ret_i64 (by rw [HO.out]), Below.refl _ _⟩
  · have h' : ¬ m - (l.length : Int) < 0 := by omega
    have HP : Hid (∀ k (hk : k < l.length), pre keyLen l (k + 1) = pre keyLen l k + keyLen l[k]) := fun k hk => pre_succ keyLen l k hk
    have HL : Hid (∀ k, pre keyLen l k ≤ (l.map keyLen).sum) := pre_le keyLen l
    have HZ : Hid (szP l = l.length + (l.map keyLen).sum) := hsz
    have HA : Hid (pre keyLen l l.length = (l.map keyLen).sum) := pre_all _ _
    have HC := hide' hx0
    clear hsz hc hx0
    go_enter Try.func18, Try.ntmps18
    go_wp2
    go_loopw [1, 5] (fun l' i wr => ∃ (k : Nat), k ≤ l.length ∧ i = .int .i64 k ∧ (pre keyLen l k : Int) ≤ m - l.length ∧ l' = .int .i64 (m - l.length - pre keyLen l k) ∧ Below w.heap.size w wr) (fun _ i _ => l.length - (intOf i).toNat)
    case atStart => exact ⟨0, Nat.zero_le _, rfl, by rw [pre_zero]; omega, by rw [pre_zero]; simp, Below.refl _ _⟩
    case round =>
      obtain ⟨k, hk, rfl, hle, rfl, hbel⟩ := hrel
      have hpk := HL.out k
      by_cases hlt : k < l.length
      · have hps := HP.out k hlt
        obtain ⟨b, off, c0, c1, c2, rfl, _, h3, hv⟩ := (HC.out.agree (agree_below (hbel.mono hN))).at hlt
        obtain ⟨q0, q1, q2⟩ := h3
        simp only at q0 q1 q2
        generalize hp0 : pre keyLen l k = p at *
        have Hps : Hid (pre keyLen l (k + 1) = p + keyLen l[k]) := hps
        have HV := hide' hv
        clear hps hp0 hv
        have hlt' : (k : Int) < (l.length : Int) := by omega
        go_wp2_with fail
        refine (szStep_any N c0 c1 c2 l[k] _ wr HV.out (by omega) (by omega)).mono ?_
        rintro e w1 ⟨rfl, b1⟩
        have B1 := Below.on hbel b1
        generalize keyLen l[k] = q at *
        clear b1 HV q0 q1 q2
        by_cases hbad : m - l.length - p < q
        · rw [less_no _ _ hbad]
          have HO : Hid (less m (szP l) = -1) := less_no m _ (by have := HZ.out; have := Hps.out; have := HL.out (k + 1); omega)
          go_wp2
          go_ret
          exact ⟨ret_i64 (by rw [HO.out]), B1⟩
        · rw [less_yes _ _ hbad]
          have hpos : ¬ (m - l.length - p - q < 0) := by omega
          go_wp2
          go_roundw
          case rel => exact ⟨k + 1, by omega, by go_num, by have := Hps.out; omega, by have := Hps.out; rw [this]; go_num, B1⟩
          case measure => simp [intOf]; omega
      · have hkn : k = l.length := by omega
        have HO : Hid (less m (szP l) = m - l.length - pre keyLen l k) := by
          show less m (szP l) = _
          have h1 := HZ.out
          have h2 := HA.out
          rw [less_yes _ _ (by rw [← hkn] at h2; omega), hkn]
          omega
        have hkn' : ¬ (k : Int) < (l.length : Int) := by omega
        clear hkn
        go_wp2
        go_ret
        exact ⟨ret_i64 (by rw [HO.out]), hbel⟩
end Go.Proofs.Ytpknhmegoldppaa
/-
  The laws' own helper markStepS: running numbers written into a path of the call's own.
-/
namespace Go.Proofs.Ytpknhmegoldppaa
open Go.RowKit
set_option linter.unusedVariables false
set_option linter.unusedSimpArgs false

/-- A step after it was marked, from k on. -/
def mkStp (s : Stp) (k : Nat) : Stp := ((k : Int), marks (k + 1) s.2.1.length, ((k + 1 + s.2.1.length : Nat) : Int))
/-- How many numbers it takes. -/
def cStp (s : Stp) : Nat := 2 + s.2.1.length

/-- One step of a path of the call's own is written anew, in its own blocks. -/
theorem PthOwn.turn {w w' : World} {x : Value} {l : List Stp} {B : List Nat} {g cap : Nat} {cur cur' : Array Value} {Bi : List (List Nat)} (hx : x = .slice (some ⟨g, 0, none⟩) l.length cap) (h3 : l.length ≤ cap) (h4 : cap ≤ maxLen) (h5 : cur.size = cap * 3) (h6 : Bi.length = l.length)
    (h7 : ∀ i (h : i < l.length), ∃ e, Cells3 cur (i * 3) e ∧ StOwn w e (l[i]) (Bi.getD i [])) (hB : B = g :: Bi.flatten) (hN : B.Nodup) {k : Nat} (hk : k < l.length) (hh' : w'.heap[g]? = some (.cells cur' 76 (0, 0))) (hsz : cur'.size = cur.size) (hoth : ∀ j, j < k * 3 ∨ k * 3 + 3 ≤ j → cur'[j]? = cur[j]?)
    {e' : Value × Value × Value} (he' : Cells3 cur' (k * 3) e') {v' : Stp} (hv' : StOwn w' e' v' (Bi.getD k [])) (ht : Turned (g :: Bi.getD k []) w w') : PthOwn w' x (l.set k v') B := by
  subst hB
  have hg : g ∉ Bi.flatten := (List.nodup_cons.1 hN).1
  refine ⟨g, cap, cur', Bi, by simpa using hx, hh', by simpa using h3, h4, by omega, by simpa using h6, fun i hi => ?_, rfl, hN⟩
  have hi' : i < l.length := by simpa using hi
  by_cases e : i = k
  · subst e
    exact ⟨e', he', by simpa using hv'⟩
  · obtain ⟨u, hc, hv⟩ := h7 i hi'
    refine ⟨u, ?_, ?_⟩
    · obtain ⟨q0, q1, q2⟩ := hc
      refine ⟨?_, ?_, ?_⟩ <;> rw [hoth _ (by omega)] <;> assumption
    · rw [List.getElem_set_ne (fun h => e h.symm)]
      refine hv.agree fun b hb => ht.block b (hv.2.1.lt b hb) fun hm => ?_
      rcases List.mem_cons.1 hm with rfl | hm
      · exact hg (flatten_mem_getD (by omega) hb)
      · exact disj_flatten (List.nodup_cons.1 hN).2 (by omega : i < Bi.length) (by omega : k < Bi.length) e hb hm

theorem set02_cells {cur : Array Value} {j : Nat} {c0 c1 c2 a b : Value} (h : Cells3 cur j (c0, c1, c2)) : Cells3 ((cur.setIfInBounds j a).setIfInBounds (j + 2) b) j (a, c1, b) := by
  obtain ⟨h0, h1, h2⟩ := h
  have l1 := (Array.getElem?_eq_some_iff.1 h2).1
  simp only at h0 h1 h2
  refine ⟨?_, ?_, ?_⟩
  · simp only
    rw [Array.getElem?_setIfInBounds_ne (by omega), Array.getElem?_setIfInBounds_self]
    simp; omega
  · simp only
    rw [Array.getElem?_setIfInBounds_ne (by omega), Array.getElem?_setIfInBounds_ne (by omega)]
    exact h1
  · simp only
    rw [Array.getElem?_setIfInBounds_self]
    simp; omega

set_option maxHeartbeats 6400000 in
theorem markStepS_any (x : Value) (l : List Stp) (B : List Nat) (m : Nat) (w : World) (h : PthOwn w x l B) (hs : szP l ≤ 1048576) (hm : m + (l.map cStp).sum ≤ 1125899906842624) :
    Calls Try.prog 23 #[x, .int .i64 m] w fun e w' => e = .returned (.int .i64 ((m + (l.map cStp).sum : Nat) : Int)) ∧ PthOwn w' x (mkLs mkStp cStp l m) B ∧ Turned B w w' := by
  have hform : ∃ a c, x = .slice a l.length c := by
    obtain ⟨g, cap, cur, Bi, rfl, _⟩ := h
    exact ⟨_, _, rfl⟩
  obtain ⟨a, c, rfl⟩ := hform
  have HP : Hid (∀ k (hk : k < l.length), pre cStp l (k + 1) = pre cStp l k + cStp l[k]) := fun k hk => pre_succ cStp l k hk
  have HL : Hid (∀ k, pre cStp l k ≤ (l.map cStp).sum) := pre_le cStp l
  have HA : Hid (pre cStp l l.length = (l.map cStp).sum) := pre_all _ _
  have HZ : Hid (∀ k (hk : k < l.length), (l[k]).2.1.length ≤ 1048576) := fun k hk => Nat.le_trans (szP_elem hk) hs
  have H0 := hide' h
  have hn : l.length ≤ 1048576 := by unfold szP at hs; omega
  generalize hS : (l.map cStp).sum = S at *
  clear h hs hS
  go_enter Try.func23, Try.ntmps23
  go_wp2
  go_loopw [1, 5] (fun m' i wr => ∃ k : Nat, k ≤ l.length ∧ i = .int .i64 k ∧ m' = .int .i64 ((m + pre cStp l k : Nat) : Int) ∧ Hid (PthOwn wr (.slice a l.length c) (mixL mkStp cStp l m k) B) ∧ Hid (Turned B w wr)) (fun _ i _ => l.length - (intOf i).toNat)
  case atStart => exact ⟨0, Nat.zero_le _, rfl, by rw [pre_zero]; simp, by rw [mixL_zero]; exact H0, Turned.refl _ _⟩
  case round =>
    obtain ⟨k, hk, rfl, rfl, hK, hT⟩ := hrel
    have hpk := HL.out k
    by_cases hlt : k < l.length
    · have hlt' : (k : Int) < (l.length : Int) := by omega
      have hps := HP.out k hlt
      have hpk1 := HL.out (k + 1)
      have hml := length_mixL mkStp cStp l m k hk
      obtain ⟨g, cap, cur, Bi, hv, hh, h3, h4, h5, h6, h7, hB, hN⟩ := hK.out
      obtain ⟨⟨c0, c1, c2⟩, hcs, hVO⟩ := h7 k (by omega)
      rw [mixL_at mkStp cStp l m k hlt] at hVO
      have hlk : ∃ (sk : Int) (ss : List Int) (si : Int), l[k] = (sk, ss, si) := ⟨_, _, _, rfl⟩
      obtain ⟨sk, ss, si, hlk⟩ := hlk
      rw [hlk] at hVO
      obtain ⟨e0, ht, e2⟩ := hVO
      simp only at e0 ht e2
      have hz := HZ.out k hlt
      rw [hlk] at hz hps
      simp only at hz
      have hc' : cStp (sk, ss, si) = 2 + ss.length := rfl
      have hgk : k < Bi.length := by omega
      have hgn : g ∉ Bi.getD k [] := by
        intro hm
        rw [hB, List.nodup_cons] at hN
        exact hN.1 (flatten_mem_getD hgk hm)
      have hva : a = some ⟨g, 0, none⟩ := by simp at hv; exact hv.1
      subst hva
      generalize hq : pre cStp l k = q at *
      obtain ⟨sa, sc, rfl, _⟩ := ht.1.shape
      have hh1 := heap_setCell_same wr g (k * 3) cur 76 (.int .i64 ((m : Int) + q)) hh
      have hg1 := grown1 wr g (k * 3) (.int .i64 ((m : Int) + q))
      have ht1 : TOwn (wr.setCell ⟨g, k * 3, none⟩ (.int .i64 ((m : Int) + q))) (.slice sa ss.length sc) ss (Bi.getD k []) := ht.agree fun b hb => Below.heap_setCell wr _ _ b (fun e => hgn (by simp at e; rw [← e]; exact hb))
      obtain ⟨x0, hx0⟩ : ∃ y, wr.cell? ⟨g, k * 3, none⟩ = some y := ⟨_, by rw [cell_of_row wr g _ cur _ (0, 0) hh]; exact hcs.1⟩
      have f0 := frozen_of_row wr g (k * 3) cur _ hh
      have y1 : wr.cell? ⟨g, k * 3 + 1, none⟩ = some (.slice sa ss.length sc) := by rw [cell_of_row wr g _ cur _ (0, 0) hh]; exact hcs.2.1
      have HM1 : Hid (Calls Try.prog 14 #[.slice sa ss.length sc, .int .i64 ((m : Int) + q + 1)] (wr.setCell ⟨g, k * 3, none⟩ (.int .i64 ((m : Int) + q))) fun e w' => e = .returned (.int .i64 ((m : Int) + q + 1 + ss.length)) ∧ (∃ y, w'.cell? ⟨g, k * 3 + 2, none⟩ = some y) ∧ w'.frozen? ⟨g, k * 3 + 2, none⟩ = false ∧ Hid (PthOwn (w'.setCell ⟨g, k * 3 + 2, none⟩ (.int .i64 ((m : Int) + q + 1 + ss.length))) (.slice (some ⟨g, 0, none⟩) l.length c) (mixL mkStp cStp l m (k + 1)) B) ∧ Hid (Turned B w (w'.setCell ⟨g, k * 3 + 2, none⟩ (.int .i64 ((m : Int) + q + 1 + ss.length))))) := by
        refine arg_eq (x := ((m + q + 1 : Nat) : Int)) (by push_cast; rfl) ((markByteS_F sa sc ss (m + q + 1) _ ht1.1 (by omega) (by omega)).mono ?_)
        rintro e w' ⟨rfl, hb, hg⟩
        have hT1 := ht1.turned hg
        have hgl : g < (wr.setCell ⟨g, k * 3, none⟩ (.int .i64 ((m : Int) + q))).heap.size := (Array.getElem?_eq_some_iff.1 hh1).1
        have hh2 := (hT1.block g hgl hgn).trans hh1
        have hh3 := heap_setCell_same w' g (k * 3 + 2) _ 76 (.int .i64 ((m : Int) + q + 1 + ss.length)) hh2
        have hg3 := grown1 w' g (k * 3 + 2) (.int .i64 ((m : Int) + q + 1 + ss.length))
        have hTT : Turned (g :: Bi.getD k []) wr (w'.setCell ⟨g, k * 3 + 2, none⟩ (.int .i64 ((m : Int) + q + 1 + ss.length))) :=
          ((Turned.of_grown hg1 (fun j e => by simp at e; simp [e])).trans (hT1.mono fun b hb => List.mem_cons_of_mem _ hb)).trans (Turned.of_grown hg3 (fun j e => by simp at e; simp [e]))
        have hcs3 := set02_cells (a := .int .i64 ((m : Int) + q)) (b := .int .i64 ((m : Int) + q + 1 + ss.length)) hcs
        refine ⟨ret_i64 (by push_cast; rfl), ?_, frozen_of_row w' g _ _ _ hh2, ?_, ?_⟩
        · rw [cell_of_row w' g _ _ _ (0, 0) hh2, Array.getElem?_setIfInBounds_ne (by omega)]
          exact ⟨_, hcs.2.2⟩
        · show PthOwn _ _ (mixL mkStp cStp l m (k + 1)) B
          rw [mixL_succ mkStp cStp l m k hlt, hlk, hq]
          refine PthOwn.turn hv h3 h4 h5 h6 h7 hB hN (by omega) hh3 (by simp) ?_ hcs3 ?_ hTT
          · intro j hj
            rw [Array.getElem?_setIfInBounds_ne (by omega), Array.getElem?_setIfInBounds_ne (by omega)]
          · refine ⟨by simp [mkStp], ?_, by simp [mkStp]⟩
            exact (ht1.marked hb).agree fun b hb' => Below.heap_setCell w' _ _ b (fun e => hgn (by simp at e; rw [← e]; exact hb'))
        · refine hT.out.trans (hTT.mono fun b hb => ?_)
          rw [hB]
          rcases List.mem_cons.1 hb with rfl | hb
          · simp
          · exact List.mem_cons_of_mem _ (flatten_mem_getD hgk hb)
      have hcE : m + q + 1 + ss.length + 1 ≤ 1125899906842624 := by omega
      have Hps : Hid (m + pre cStp l (k + 1) = m + q + 1 + ss.length + 1) := by show m + pre cStp l (k + 1) = _; omega
      clear hK hT hh h7 hN hcs ht ht1 hh1 hg1 hB h6 h5 hv hps hlk hq HP HL HA HZ H0
      generalize ss.length = nS at *
      go_wp2_with fail
      refine HM1.out.mono ?_
      rintro e w1 ⟨rfl, ⟨y, hy⟩, hf, hK', hT'⟩
      clear hx0 f0 y1 HM1
      go_wp2
      go_roundw
      case rel => exact ⟨k + 1, by omega, by go_num, by rw [Hps.out]; go_num, hK', hT'⟩
      case measure => simp [intOf]; omega
    · have hkn : k = l.length := by omega
      have hkn' : ¬ (k : Int) < (l.length : Int) := by omega
      have HE : Hid (PthOwn wr (.slice a l.length c) (mkLs mkStp cStp l m) B) := by
        have hK2 := hK.out
        rw [hkn, mixL_all] at hK2
        exact hK2
      have HQ : Hid (pre cStp l k = S) := by show pre cStp l k = _; rw [hkn]; exact HA.out
      clear hkn hK
      go_wp2
      go_ret
      exact ⟨ret_i64 (by rw [HQ.out]), HE.out, hT.out⟩

theorem PthOwn.on {w w' : World} {x : Value} {l : List Stp} {B : List Nat} (h : PthOwn w x l B) (hb : Below w.heap.size w w') : PthOwn w' x l B := h.agree fun b hb' => hb.block b (h.lt b hb')
theorem PthOwn.far {w w' : World} {x : Value} {l : List Stp} {B B' : List Nat} (h : PthOwn w x l B) (hT : Turned B' w w') (hd : ∀ b ∈ B, b ∉ B') : PthOwn w' x l B := h.agree fun b hb' => hT.block b (h.lt b hb') (hd b hb')
theorem PthOwn.form {w : World} {x : Value} {l : List Stp} {B : List Nat} (h : PthOwn w x l B) : ∃ g c, x = .slice (some ⟨g, 0, none⟩) l.length c := by
  obtain ⟨g, cap, cur, Bi, rfl, _⟩ := h
  exact ⟨_, _, rfl⟩
theorem cStp_le : ∀ l : List Stp, (l.map cStp).sum ≤ 2 * szP l
  | [] => by simp
  | x :: r => by
    have h := cStp_le r
    have e : szP (x :: r) = szP r + (1 + x.2.1.length) := by simp [szP]; omega
    simp only [List.map_cons, List.sum_cons]
    have e2 : cStp x = 2 + x.2.1.length := rfl
    omega
end Go.Proofs.Ytpknhmegoldppaa
/-
  toStep, toStepS of the laws: they make a path of their own that holds what their argument holds.
-/
namespace Go.Proofs.Ytpknhmegoldppaa
open Go.RowKit
set_option linter.unusedVariables false

theorem infoP : (Try.prog.info? 76).map (fun i => (i.zero, i.size, i.bytes)) = some (some (.agg #[.int .i64 0, .slice none 0 0, .int .i64 0]), 3, 40) := by kernel_rfl

/-- The cells of a block of three that is known. -/
theorem row3 {w : World} {g : Nat} {T : TypeId} {c0 c1 c2 : Value} (h : w.heap[g]? = some (.cells #[c0, c1, c2] T (0, 0))) :
    w.cell? ⟨g, 0, none⟩ = some c0 ∧ w.cell? ⟨g, 1, none⟩ = some c1 ∧ w.cell? ⟨g, 2, none⟩ = some c2 ∧ ∀ j, w.frozen? ⟨g, j, none⟩ = false := by
  refine ⟨?_, ?_, ?_, fun j => frozen_of_row w g j _ T h⟩ <;> rw [cell_of_row w g _ _ T (0, 0) h] <;> rfl

/-- Three blocks, one behind the other. -/
theorem three_boxes (w : World) (o1 o2 o3 : Obj) : (((w.alloc o1).alloc o2).alloc o3).heap[w.heap.size]? = some o1 ∧ (((w.alloc o1).alloc o2).alloc o3).heap[w.heap.size + 1]? = some o2 ∧ (((w.alloc o1).alloc o2).alloc o3).heap[w.heap.size + 1 + 1]? = some o3 ∧ (((w.alloc o1).alloc o2).alloc o3).heap.size = w.heap.size + 3 ∧ Below w.heap.size w (((w.alloc o1).alloc o2).alloc o3) := by
  obtain ⟨h1, h2⟩ := two_boxes w o1 o2
  have z2 := size2 w o1 o2
  have hb : Below ((w.alloc o1).alloc o2).heap.size ((w.alloc o1).alloc o2) (((w.alloc o1).alloc o2).alloc o3) := (Below.refl _ _).alloc (Nat.le_refl _) o3
  refine ⟨(hb.block _ (by omega)).trans h1, (hb.block _ (by omega)).trans h2, ?_, by simp, ((((Below.refl _ _).alloc (Nat.le_refl _) o1).alloc (by simp) o2).alloc (by simp; omega) o3)⟩
  have h := (MapKept.heap_alloc ((w.alloc o1).alloc o2) o3).1
  rw [z2] at h
  exact h

set_option maxHeartbeats 1600000 in
theorem toStep_any (N : Nat) (c0 c1 c2 : Value) (s : Stp) (w : World) (hs : StSeg (fun b => b < N) w (c0, c1, c2) s) (hN : N ≤ w.heap.size) (hz : s.2.1.length ≤ 1048576) :
    Calls Try.prog 47 #[.agg #[c0, c1, c2]] w fun e w' => ∃ d0 d1 d2, e = .returned (.agg #[d0, d1, d2]) ∧ ∃ B, StOwn w' (d0, d1, d2) s B ∧ (∀ b ∈ B, w.heap.size ≤ b ∧ b < w'.heap.size) ∧ B.Nodup ∧ Below w.heap.size w w' := by
  obtain ⟨sk, ss, si⟩ := s
  obtain ⟨e0, ht, e2⟩ := hs
  simp only at e0 ht e2 hz
  subst e0
  subst e2
  have Ht : Hid (∀ w' : World, Below w.heap.size w w' → TSeg (fun b => b < N) w' c1 ss) := fun w' h => ht.agree (agree_below (h.mono hN))
  obtain ⟨a2, cp2, rfl, s2, hl2, hm2, _, _⟩ := ht
  have H3 := hide' (three_boxes w (.cells #[.int .i64 sk, .slice a2 ss.length cp2, .int .i64 si] 73) (.cells #[.int .i64 0, .slice none 0 0, .int .i64 0] 76) (.cells #[.int .i64 sk, .slice none 0 0, .int .i64 0] 76))
  clear s2
  go_enter Try.func47, Try.ntmps47
  go_wp2_with fail
  obtain ⟨hr1, hr2, hr3, hsz, hb0⟩ := H3.out
  generalize ((w.alloc (.cells #[.int .i64 sk, .slice a2 ss.length cp2, .int .i64 si] 73)).alloc (.cells #[.int .i64 0, .slice none 0 0, .int .i64 0] 76)).alloc (.cells #[.int .i64 sk, .slice none 0 0, .int .i64 0] 76) = w0 at *
  obtain ⟨a2', cp2', e2, sT, _⟩ := Ht.out _ hb0
  simp only [Value.slice.injEq, true_and] at e2
  obtain ⟨rfl, rfl⟩ := e2
  refine (toByteS_any _ _ ss _ sT (by omega)).mono ?_
  rintro e w1 ⟨rfl, hB1, b1⟩
  have hT1 := tOwn_new hB1
  have hz1 := b1.size
  obtain ⟨x0, x1, x2, _⟩ := row3 ((b1.block _ (by omega)).trans hr1)
  have hr2' := (b1.block _ (by omega)).trans hr2
  have hr3' := (b1.block _ (by omega)).trans hr3
  obtain ⟨y0, y1, y2, yf⟩ := row3 hr2'
  obtain ⟨z0, z1, z2, zf⟩ := row3 hr3'
  have zf1 := zf 1
  have zf2 := zf 2
  have yf0 := yf 0
  have yf1 := yf 1
  have yf2 := yf 2
  have hlt1 := hT1.lt w0.heap.size (by simp)
  have B1 := Below.on hb0 b1
  have hgS : w.heap.size + 3 ≤ w0.heap.size := by omega
  clear hsz b1 hB1 sT
  generalize w0.heap.size = gS at *
  have hrow : (set3 ((w1.setCell ⟨w.heap.size + 1 + 1, 1, none⟩ (.slice (some ⟨gS, 0, none⟩) ss.length ss.length)).setCell ⟨w.heap.size + 1 + 1, 2, none⟩ (.int .i64 si)) (w.heap.size + 1) 0 (.int .i64 sk) (.slice (some ⟨gS, 0, none⟩) ss.length ss.length) (.int .i64 si)).heap[w.heap.size + 1]? = some (.cells #[.int .i64 sk, .slice (some ⟨gS, 0, none⟩) ss.length ss.length, .int .i64 si] 76 (0, 0)) :=
    set3_heap _ _ _ ((Below.heap_setCell _ _ _ _ (by show w.heap.size + 1 ≠ w.heap.size + 1 + 1; omega)).trans ((Below.heap_setCell w1 _ _ _ (by show w.heap.size + 1 ≠ w.heap.size + 1 + 1; omega)).trans hr2'))
  have hk3 := row3 hrow
  simp only [set3, Nat.zero_add] at hk3
  have Hk3 := hide' hk3
  have HT1 := hide' hT1
  clear hrow hk3 hT1 hr1 hr2 hr3 hr2' hr3' zf yf H3
  go_wp2_with fail
  obtain ⟨u0, u1, u2, _⟩ := Hk3.out
  refine bodyPost_ret (v := .agg #[.int .i64 sk, .slice (some ⟨gS, 0, none⟩) ss.length ss.length, .int .i64 si]) (by simp [results, Try.results47, go_sem, u0, u1, u2]) rfl ?_
  have g1 := grown1 w1 (w.heap.size + 1 + 1) 1 (.slice (some ⟨gS, 0, none⟩) ss.length ss.length)
  have g2 := grown1 (w1.setCell ⟨w.heap.size + 1 + 1, 1, none⟩ (.slice (some ⟨gS, 0, none⟩) ss.length ss.length)) (w.heap.size + 1 + 1) 2 (.int .i64 si)
  have gA := grownBy_trans g1 g2
  have gB := set3_grown ((w1.setCell ⟨w.heap.size + 1 + 1, 1, none⟩ (.slice (some ⟨gS, 0, none⟩) ss.length ss.length)).setCell ⟨w.heap.size + 1 + 1, 2, none⟩ (.int .i64 si)) (w.heap.size + 1) 0 (.int .i64 sk) (.slice (some ⟨gS, 0, none⟩) ss.length ss.length) (.int .i64 si)
  have hs2 : ((w1.setCell ⟨w.heap.size + 1 + 1, 1, none⟩ (.slice (some ⟨gS, 0, none⟩) ss.length ss.length)).setCell ⟨w.heap.size + 1 + 1, 2, none⟩ (.int .i64 si)).heap.size = w1.heap.size := by simp [World.setCell]
  have hs3 := set3_size ((w1.setCell ⟨w.heap.size + 1 + 1, 1, none⟩ (.slice (some ⟨gS, 0, none⟩) ss.length ss.length)).setCell ⟨w.heap.size + 1 + 1, 2, none⟩ (.int .i64 si)) (w.heap.size + 1) 0 (.int .i64 sk) (.slice (some ⟨gS, 0, none⟩) ss.length ss.length) (.int .i64 si)
  have hBf : Below w.heap.size w (set3 ((w1.setCell ⟨w.heap.size + 1 + 1, 1, none⟩ (.slice (some ⟨gS, 0, none⟩) ss.length ss.length)).setCell ⟨w.heap.size + 1 + 1, 2, none⟩ (.int .i64 si)) (w.heap.size + 1) 0 (.int .i64 sk) (.slice (some ⟨gS, 0, none⟩) ss.length ss.length) (.int .i64 si)) :=
    (B1.grown gA B1.size (by intro j hj; simp at hj; omega)).grown gB (by omega) (by intro j hj; simp at hj; omega)
  refine ⟨_, _, _, rfl, [gS], ⟨rfl, HT1.out.agree fun b hb => ?_, rfl⟩, ?_, by simp, hBf⟩
  · simp at hb
    subst hb
    refine (gB.block _ (by omega) (by simp; omega)).trans (gA.block _ hlt1 (by simp; omega))
  · intro b hb
    rw [List.mem_singleton] at hb
    rw [hb]
    show _ ∧ _ < (set3 ((w1.setCell ⟨w.heap.size + 1 + 1, 1, none⟩ (.slice (some ⟨gS, 0, none⟩) ss.length ss.length)).setCell ⟨w.heap.size + 1 + 1, 2, none⟩ (.int .i64 si)) (w.heap.size + 1) 0 (.int .i64 sk) (.slice (some ⟨gS, 0, none⟩) ss.length ss.length) (.int .i64 si)).heap.size
    rw [hs3, hs2]
    omega

theorem StOwn.form {w : World} {c0 c1 c2 : Value} {s : Stp} {B : List Nat} (h : StOwn w (c0, c1, c2) s B) : ∃ (k i : Int) (a : Option Addr) (n p : Nat), c0 = .int .i64 k ∧ c1 = .slice a n p ∧ c2 = .int .i64 i := by
  obtain ⟨e0, ht, e2⟩ := h
  obtain ⟨a2, p2, e1, _⟩ := ht.1.shape
  exact ⟨_, _, _, _, _, e0, e1, e2⟩

set_option maxHeartbeats 1600000 in
theorem toStepS_any (N : Nat) (x : Value) (l : List Stp) (w : World) (hx : PthSeg (fun b => b < N) w x l) (hN : N ≤ w.heap.size) (hz : szP l ≤ 1048576) :
    Calls Try.prog 20 #[x] w fun e w' => ∃ u, e = .returned u ∧ ∃ B, PthOwn w' u l B ∧ (∀ b ∈ B, w.heap.size ≤ b ∧ b < w'.heap.size) ∧ Below w.heap.size w w' := by
  have HC := hide' hx
  obtain ⟨a, cap, rfl, hlc, hcm, ka, hc⟩ := hx
  unfold maxLen at hcm
  obtain ⟨i0, hi, hz0, hz1, hz2⟩ := info_parts infoP
  have hn : l.length ≤ 1048576 := by unfold szP at hz; omega
  have HZ := hide' hz
  clear hc hz
  go_enter Try.func20, Try.ntmps20
  go_wp2_with (refine wpList_make_full _ rfl _ _ 45 rfl w.heap.size 76 i0 (.agg #[.int .i64 0, .slice none 0 0, .int .i64 0]) 3 Try.underlying45 hi hz0 hz1 .i64 .i64 _ _ l.length rfl rfl rfl rfl (by rw [hz2]; omega) (by unfold maxLen; omega) (Nat.le_refl _) ?_; intro w1 hown hgrow)
  have hK0 : PPart w1 w.heap.size l.length l 0 (w.heap.size + 1) := by
    rcases hown.2 with ⟨h1, _⟩ | ⟨g, cp, cur, h1, _, h3, _, _, h6, _⟩
    · simp at h1
    · simp only [Value.slice.injEq, Option.some.injEq, Addr.mk.injEq, and_true, true_and] at h1
      obtain ⟨e1, e2⟩ := h1
      subst e1
      exact ⟨cur, [], h3, by omega, rfl, by intro i _ h; omega, by simp, by simp⟩
  have hb1 : Below w.heap.size w w1 := (Below.refl _ _).grown hgrow (Nat.le_refl _) (by simp)
  clear hown hgrow
  go_loopw [4] (fun i wr => ∃ k : Nat, k ≤ l.length ∧ i = .int .i64 k ∧ PPart wr w.heap.size l.length l k (w.heap.size + 1) ∧ Below w.heap.size w wr) (fun i _ => l.length - (intOf i).toNat)
  case atStart => exact ⟨0, Nat.zero_le _, rfl, hK0, hb1⟩
  case round =>
    obtain ⟨k, hk, rfl, hK, hbel⟩ := hrel
    clear hK0 hb1
    by_cases hlt : k < l.length
    · have hlt' : (k : Int) < (l.length : Int) := by omega
      obtain ⟨b, off, e0, e1, e2, rfl, _, h3, hv⟩ := (HC.out.agree (agree_below (hbel.mono hN))).at hlt
      obtain ⟨q0, q1, q2⟩ := h3
      simp only at q0 q1 q2
      have HV := hide' hv
      clear hv
      have hzk := hide' (Nat.le_trans (szP_elem hlt) HZ.out)
      have hgw : w.heap.size < wr.heap.size := by
        obtain ⟨cur, Bs, h1, _⟩ := hK
        exact (Array.getElem?_eq_some_iff.1 h1).1
      go_wp2_with fail
      refine (toStep_any N e0 e1 e2 l[k] wr HV.out (by omega) hzk.out).mono ?_
      rintro e w2 ⟨c0, c1, c2, rfl, B, hB2, hBb, hBn, b2⟩
      clear q0 q1 q2 HV
      obtain ⟨ck, ci, s2, l2, p2, rfl, rfl, rfl⟩ := hB2.form
      have hcells : ∃ cur : Array Value, w2.heap[w.heap.size]? = some (.cells cur 76 (0, 0)) ∧ cur.size = l.length * 3 := by
        obtain ⟨cur, Bs, h1, h2, _⟩ := hK
        exact ⟨cur, (b2.block _ hgw).trans h1, h2⟩
      obtain ⟨cur, hcur, hcs⟩ := hcells
      have hx : ∀ j, j < l.length * 3 → ∃ x, w2.cell? ⟨w.heap.size, j, none⟩ = some x := by
        intro j hj
        rw [cell_of_row w2 _ j cur _ (0, 0) hcur]
        exact ⟨_, Array.getElem?_eq_getElem (by omega)⟩
      have hf : ∀ j, w2.frozen? ⟨w.heap.size, j, none⟩ = false := fun j => frozen_of_row w2 _ j cur _ hcur
      obtain ⟨x0, hx0⟩ := hx (k * 3) (by omega)
      obtain ⟨x1, hx1⟩ := hx (k * 3 + 1) (by omega)
      obtain ⟨x2, hx2⟩ := hx (k * 3 + 2) (by omega)
      have f0 := hf (k * 3)
      have f1 := hf (k * 3 + 1)
      have f2 := hf (k * 3 + 2)
      have hL := pPart_next hK (by omega) hlt hlt b2 (by omega) _ _ _ B hB2 hBb hBn
      have hb2 := Below.on hbel b2
      have hb3 := hb2.grown (set3_grown w2 w.heap.size (k * 3) (.int .i64 ck) (.slice s2 l2 p2) (.int .i64 ci)) hb2.size (by intro j hj; simp at hj; omega)
      have HL := hide' hL
      have HB := hide' hb3
      clear hx hf hcur hL hb2 hb3 hK hB2
      go_wp2
      go_roundw
      case rel => exact ⟨k + 1, by omega, by go_num, HL.out, HB.out⟩
      case measure => simp [intOf]; omega
    · have hkn : k = l.length := by omega
      have hkn' : ¬ (k : Int) < (l.length : Int) := by omega
      rw [hkn] at hK
      clear hkn
      go_wp2
      go_ret
      obtain ⟨cur, Bi, h1, h2, h3, h4, h5, h6⟩ := hK
      have hgw := (Array.getElem?_eq_some_iff.1 h1).1
      refine ⟨_, rfl, w.heap.size :: Bi.flatten, ⟨w.heap.size, l.length, cur, Bi, rfl, h1, Nat.le_refl _, by unfold maxLen; omega, h2, h3, fun i h => h4 i h h, rfl, ?_⟩, ?_, hbel⟩
      · rw [List.nodup_cons]
        exact ⟨fun hm => by have := h5 _ hm; omega, h6⟩
      · intro b hb
        rcases List.mem_cons.1 hb with rfl | hb
        · exact ⟨Nat.le_refl _, hgw⟩
        · have := h5 b hb
          omega
end Go.Proofs.Ytpknhmegoldppaa
/-
  eqStep, eqStepS of the laws: of two readings of the same path they answer true, and turn nothing old.
-/
namespace Go.Proofs.Ytpknhmegoldppaa
open Go.RowKit
set_option linter.unusedVariables false

set_option maxHeartbeats 1600000 in
theorem eqStep_same (N : Nat) (c0 c1 c2 e0 e1 e2 : Value) (s : Stp) (w : World) (h : StSeg (fun b => b < N) w (c0, c1, c2) s) (h' : StSeg (fun b => b < N) w (e0, e1, e2) s) (hN : N ≤ w.heap.size) (hz : s.2.1.length ≤ 1048576) :
    Calls Try.prog 50 #[.agg #[c0, c1, c2], .agg #[e0, e1, e2]] w fun e w' => e = .returned (.bool true) ∧ Below w.heap.size w w' := by
  obtain ⟨sk, ss, si⟩ := s
  obtain ⟨g0, ht, g2⟩ := h
  obtain ⟨f0, ht', f2⟩ := h'
  simp only at g0 ht g2 f0 ht' f2 hz
  subst g0
  subst g2
  subst f0
  subst f2
  have Ht : Hid (∀ wx, Below w.heap.size w wx → TSeg (fun b => b < N) wx c1 ss ∧ TSeg (fun b => b < N) wx e1 ss) := fun wx hb => ⟨ht.agree (agree_below (hb.mono hN)), ht'.agree (agree_below (hb.mono hN))⟩
  have Hb : Hid (∀ o o' : Obj, Below w.heap.size w ((w.alloc o).alloc o')) := fun o o' => ((Below.refl _ _).alloc (Nat.le_refl _) o).alloc (by simp) o'
  obtain ⟨a2, cp2, rfl, s2, hl2, hm2, _, _⟩ := ht
  obtain ⟨a2', cp2', rfl, s2', hl2', hm2', _, _⟩ := ht'
  have Hs : Hid (∀ wx, Below w.heap.size w wx → Seg wx a2 ss ∧ Seg wx a2' ss) := by
    intro wx hb
    obtain ⟨x1, x2⟩ := Ht.out wx hb
    obtain ⟨_, _, y1, y2, _⟩ := x1
    obtain ⟨_, _, z1, z2, _⟩ := x2
    simp at y1 z1
    exact ⟨y1.1 ▸ y2, z1.1 ▸ z2⟩
  clear Ht s2 s2'
  have R1 := hide' (two_boxes w (.cells #[.int .i64 sk, .slice a2 ss.length cp2, .int .i64 si] 76) (.cells #[.int .i64 sk, .slice a2' ss.length cp2', .int .i64 si] 76))
  go_enter Try.func50, Try.ntmps50
  go_wp2_with fail
  have q1 := Hb.out (.cells #[.int .i64 sk, .slice a2 ss.length cp2, .int .i64 si] 76) (.cells #[.int .i64 sk, .slice a2' ss.length cp2', .int .i64 si] 76)
  refine (eqByteS_same _ _ _ _ ss _ (Hs.out _ q1).1 (Hs.out _ q1).2 (by omega)).mono ?_
  rintro e w1 ⟨rfl, b1⟩
  have B1 := Below.on q1 b1
  obtain ⟨_, _, x2, _⟩ := row3 ((b1.block _ (by rw [size2]; omega)).trans R1.out.1)
  obtain ⟨_, _, y2, _⟩ := row3 ((b1.block _ (by rw [size2]; omega)).trans R1.out.2)
  clear q1 b1 Hs
  go_wp2
  go_ret
  exact ⟨rfl, B1⟩

set_option maxHeartbeats 1600000 in
theorem eqStepS_same (N : Nat) (x y : Value) (l : List Stp) (w : World) (hx : PthSeg (fun b => b < N) w x l) (hy : PthSeg (fun b => b < N) w y l) (hN : N ≤ w.heap.size) (hz : szP l ≤ 1048576) :
    Calls Try.prog 22 #[x, y] w fun e w' => e = .returned (.bool true) ∧ Below w.heap.size w w' := by
  have HC := hide' hx
  have HC' := hide' hy
  obtain ⟨a, cap, rfl, hlc, hcm, ka, hc⟩ := hx
  obtain ⟨a', cap', rfl, hlc', hcm', ka', hc'⟩ := hy
  have hn : l.length ≤ 1048576 := by unfold szP at hz; omega
  have HZ := hide' hz
  clear hc hc' hz
  unfold maxLen at hcm hcm'
  go_enter Try.func22, Try.ntmps22
  go_wp2
  go_loopw [5] (fun i wr => ∃ k : Nat, k ≤ l.length ∧ i = .int .i64 k ∧ Below w.heap.size w wr) (fun i _ => l.length - (intOf i).toNat)
  case atStart => exact ⟨0, Nat.zero_le _, rfl, Below.refl _ _⟩
  case round =>
    obtain ⟨k, hk, rfl, hbel⟩ := hrel
    have hsz2 := hbel.size
    by_cases hlt : k < l.length
    · obtain ⟨b, off, c0, c1, c2, rfl, _, h3, hv⟩ := (HC.out.agree (agree_below (hbel.mono hN))).at hlt
      obtain ⟨b', off', e0, e1, e2, rfl, _, h3', hv'⟩ := (HC'.out.agree (agree_below (hbel.mono hN))).at hlt
      obtain ⟨q0, q1, q2⟩ := h3
      obtain ⟨r0, r1, r2⟩ := h3'
      simp only at q0 q1 q2 r0 r1 r2
      have hlt' : (k : Int) < (l.length : Int) := by omega
      have hzk := Nat.le_trans (szP_elem hlt) HZ.out
      have hE := hide' (eqStep_same N c0 c1 c2 e0 e1 e2 l[k] wr.drew (hv.agree (w' := wr.drew) (fun b _ => rfl)) (hv'.agree (w' := wr.drew) (fun b _ => rfl)) (by show N ≤ wr.heap.size; omega) hzk)
      clear hv hv' hzk
      go_wp2_with fail
      go_region_with (go_at_call 50; refine hE.out.mono ?_; rintro e w1 ⟨rfl, b1⟩)
      all_goals
        have B1 : Below w.heap.size w w1 := Below.on hbel.drew b1
        clear q0 q1 q2 r0 r1 r2
        go_wp2
        go_roundw
        case rel => exact ⟨k + 1, by omega, by go_num, B1⟩
        case measure => simp [intOf]; omega
    · have hlt' : ¬ (k : Int) < (l.length : Int) := by omega
      go_wp2
      go_ret
      exact ⟨rfl, hbel⟩
end Go.Proofs.Ytpknhmegoldppaa
