/-
  Texts that a law leans on, one behind the other; no statement is proved here.
-/
import Derived.Test.YtpknhmegoldppaaPk14
import Derived.Lib.SlMapMerge
import Derived.Test.YtpknhmegoldppaaPk15
import Derived.Test.YtpknhmegoldppaaPk17
import Derived.Test.YtpknhmegoldppaaPk18
import Derived.Shelf.SlMaps.Copy
/-
  The entries of a map laid into another, one by one: the value that comes of it, and the datum of a map of parts; no statement is proved here.
-/
namespace Go.Proofs.Ytpknhmegoldppaa
open Go.RowKit Go.Shelf
set_option linter.unusedVariables false
set_option linter.unusedSimpArgs false

/-- Entries laid into a map. -/
def mrgV (d : Nat) (v : Vl (d + 1)) (es : List (List Int × Vl d)) : Vl (d + 1) := es.foldl (fun o e => setV d o e.1 e.2) v
/-- The entries of a map. -/
def entV (d : Nat) (b : Vl (d + 1)) : List (List Int × Vl d) := b.2.2.2.1.zip b.2.2.2.2

theorem mrgV_zero (d : Nat) (v : Vl (d + 1)) (es : List (List Int × Vl d)) : mrgV d v (es.take 0) = v := rfl
theorem mrgV_step {d : Nat} {v : Vl (d + 1)} {bK : List (List Int)} {bL : List (Vl d)} (hKL : bK.length = bL.length) {i : Nat} (hi : i < bL.length) :
    mrgV d v ((bK.zip bL).take (i + 1)) = setV d (mrgV d v ((bK.zip bL).take i)) (bK.getD i []) bL[i] := by
  have hz : i < (bK.zip bL).length := by rw [List.length_zip]; omega
  rw [List.take_add_one, List.getElem?_eq_getElem hz]
  have e : (bK.zip bL)[i] = (bK.getD i [], bL[i]) := by
    rw [List.getElem_zip]
    simp [List.getD_eq_getElem?_getD, List.getElem?_eq_getElem (show i < bK.length by omega)]
  rw [e, mrgV, Option.toList_some, List.foldl_append]
  rfl

/-- What may be laid together. -/
def SInv (d : Nat) (o : Vl (d + 1)) (n : Nat) : Prop := o.2.2.2.1.length = o.2.2.2.2.length ∧ o.2.2.2.1.length ≤ n ∧ (∀ i, i < o.2.2.2.1.length → upB o.2.2.2.1 i = true) ∧ (∀ i, i < o.2.2.2.1.length → (∀ x ∈ o.2.2.2.1.getD i [], Byt x) ∧ (o.2.2.2.1.getD i []).length ≤ 1048576)

theorem SInv.set {d n : Nat} {o : Vl (d + 1)} {key : List Int} {x : Vl d} (h : SInv d o n) (hy : ∀ y ∈ key, Byt y) (hk : key.length ≤ 1048576) : SInv d (setV d o key x) (n + 1) := by
  obtain ⟨k, vn, vs, K, L⟩ := o
  obtain ⟨hKL, hn, hu, hb⟩ := h
  simp only at hKL hn hu hb
  have hbt : ∀ i, i < K.length → ∀ x ∈ K.getD i [], Byt x := fun i hi => (hb i hi).1
  have hl1 : (setK K key).length = posK K key + 1 + (K.length - skipK K key) := length_putL _ rfl
  have hl2 : (putL K key L x).length = posK K key + 1 + (K.length - skipK K key) := length_putL _ hKL.symm
  have hpl := posK_le K key
  have hsl := skipK_le K key
  have hsp : posK K key ≤ skipK K key := by rcases skipK_cases K key with ⟨h, _⟩ | ⟨h, _⟩ <;> omega
  exact ⟨by show (setK K key).length = (putL K key L x).length; omega, by show (setK K key).length ≤ n + 1; omega, set_up hu hbt hy, set_byt hbt hy 1048576 (fun i hi => (hb i hi).2) hk⟩

theorem SInv.of_ok {d : Nat} {vn : Int} {vs : List Int} {vK : List (List Int)} {vL : List (Vl d)} (h : okB (d + 1) (5, vn, vs, vK, vL) = true) : SInv d (5, vn, vs, vK, vL) 40 := by
  obtain ⟨hKL, hlen, hup, hbt, hkb⟩ := ok_keys h
  exact ⟨hKL, by show vK.length ≤ 40; omega, hup, fun i hi => ⟨hbt i hi, Nat.le_trans (hkb i hi) (by omega)⟩⟩

theorem SInv.all {d : Nat} {a : Vl (d + 1)} {bK : List (List Int)} {bL : List (Vl d)} (h : SInv d a 40) (hKL : bK.length = bL.length) (hb : ∀ i, i < bK.length → (∀ x ∈ bK.getD i [], Byt x) ∧ (bK.getD i []).length ≤ 1048576) : ∀ i, i ≤ bL.length → SInv d (mrgV d a ((bK.zip bL).take i)) (40 + i)
  | 0, _ => h
  | i + 1, hi => by
    rw [mrgV_step hKL (by omega)]
    exact (SInv.all h hKL hb i (by omega)).set (hb i (by omega)).1 (hb i (by omega)).2

/-- A map of parts, and the value that it stands for. -/
def GInv (R : Nat → Prop) (w : World) (d : Nat) (o : Vl (d + 1)) (P : List Value) : Prop :=
  P.length = o.2.2.2.1.length ∧ ∀ i (h : i < o.2.2.2.2.length), PSeg R w d (P.getD i .nilIface) o.2.2.2.2[i] ∧ ∃ deep, goodB d o.2.2.2.2[i] deep = true ∧ partsV d o.2.2.2.2[i] ≤ 40

theorem padP_self (ps : List Value) {n : Nat} (h : ps.length = n) : padP ps n = ps := by
  apply List.ext_getElem?
  intro i
  by_cases hi : i < n
  · simp [padP, hi, List.getD_eq_getElem?_getD, List.getElem?_eq_getElem (show i < ps.length by omega)]
  · rw [List.getElem?_eq_none (by rw [length_padP]; omega), List.getElem?_eq_none (by omega)]

theorem GInv.put {R : Nat → Prop} {w : World} {d n : Nat} {o : Vl (d + 1)} {P : List Value} {key : List Int} {x : Vl d} {p : Value} (hs : SInv d o n) (h : GInv R w d o P) (hy : ∀ y ∈ key, Byt y) (hp : PSeg R w d p x) (hg : ∃ deep, goodB d x deep = true ∧ partsV d x ≤ 40) :
    GInv R w d (setV d o key x) (putL o.2.2.2.1 key P p) ∧ (DataW.map (entF o.2.2.2.1 P o.2.2.2.1.length)).put (.string (u8s key)) (.held p) = .map (entF (setV d o key x).2.2.2.1 (putL o.2.2.2.1 key P p) (setV d o key x).2.2.2.1.length) := by
  obtain ⟨k, vn, vs, K, L⟩ := o
  obtain ⟨hKL, hn, hu, hb⟩ := hs
  obtain ⟨hP, hall⟩ := h
  simp only at hKL hn hu hb hP hall
  have hbt : ∀ i, i < K.length → ∀ x ∈ K.getD i [], Byt x := fun i hi => (hb i hi).1
  have hl1 : (setK K key).length = posK K key + 1 + (K.length - skipK K key) := length_putL _ rfl
  have hl2 : (putL K key L x).length = posK K key + 1 + (K.length - skipK K key) := length_putL _ hKL.symm
  have hl3 : (putL K key P p).length = posK K key + 1 + (K.length - skipK K key) := length_putL _ hP
  have hpl := posK_le K key
  have hsl := skipK_le K key
  refine ⟨⟨by show (putL K key P p).length = (setK K key).length; omega, ?_⟩, ?_⟩
  · show ∀ i (h : i < (putL K key L x).length), PSeg R w d ((putL K key P p).getD i .nilIface) (putL K key L x)[i] ∧ ∃ deep, goodB d (putL K key L x)[i] deep = true ∧ partsV d (putL K key L x)[i] ≤ 40
    intro i hi
    have hi' : i < posK K key + 1 + (K.length - skipK K key) := by omega
    rcases Nat.lt_trichotomy i (posK K key) with hlt | heq | hgt
    · have e1 := putL_lt (key := key) p .nilIface hP (j := i) hlt
      have e2 := putL_lt (key := key) x x hKL.symm (j := i) hlt
      rw [getD_eq _ _ _ hi, getD_eq L i x (by omega)] at e2
      rw [e1, e2]
      exact hall i (by omega)
    · subst heq
      have e1 := putL_at (key := key) p .nilIface hP
      have e2 := putL_at (key := key) x x hKL.symm
      rw [getD_eq _ _ _ hi] at e2
      rw [e1, e2]
      exact ⟨hp, hg⟩
    · obtain ⟨j, rfl⟩ : ∃ j, i = posK K key + 1 + j := ⟨i - posK K key - 1, by omega⟩
      have e1 := putL_gt (key := key) p .nilIface hP (i := j)
      have e2 := putL_gt (key := key) x x hKL.symm (i := j)
      rw [getD_eq _ _ _ hi, getD_eq L _ x (by omega)] at e2
      rw [e1, e2]
      exact hall _ (by omega)
  · have := put_ent (ps := P) (p := p) hu hbt hy
    rw [padP_self P hP] at this
    exact this

/-- Entries laid into a map of parts, one by one. -/
theorem merge_fold {R : Nat → Prop} {w : World} {d : Nat} {a : Vl (d + 1)} {P : List Value} {bK : List (List Int)} {bL : List (Vl d)} {ps : List Value} (hs : SInv d a 40) (h : GInv R w d a P) (hKL : bK.length = bL.length) (hb : ∀ i, i < bK.length → (∀ x ∈ bK.getD i [], Byt x) ∧ (bK.getD i []).length ≤ 1048576)
    (hps : ∀ i (h : i < bL.length), PSeg R w d (ps.getD i .nilIface) bL[i] ∧ ∃ deep, goodB d bL[i] deep = true ∧ partsV d bL[i] ≤ 40) : ∀ i, i ≤ bL.length → ∃ P', GInv R w d (mrgV d a ((bK.zip bL).take i)) P' ∧
      (entF bK ps i).foldl (fun D q => D.put q.1 q.2) (DataW.map (entF a.2.2.2.1 P a.2.2.2.1.length)) = .map (entF (mrgV d a ((bK.zip bL).take i)).2.2.2.1 P' (mrgV d a ((bK.zip bL).take i)).2.2.2.1.length)
  | 0, _ => ⟨P, h, rfl⟩
  | i + 1, hi => by
    obtain ⟨P', hM, hD⟩ := merge_fold hs h hKL hb hps i (by omega)
    have hsi := SInv.all hs hKL hb i (by omega)
    obtain ⟨h1, h2⟩ := GInv.put hsi hM (hb i (by omega)).1 (hps i (by omega)).1 (hps i (by omega)).2
    rw [mrgV_step hKL (show i < bL.length by omega)]
    refine ⟨_, h1, ?_⟩
    have e : entF bK ps (i + 1) = entF bK ps i ++ [(.string (u8s (bK.getD i [])), .held (ps.getD i .nilIface))] := by simp [entF, List.range_succ]
    rw [e, List.foldl_append, hD]
    exact h2

/-- What ValMerge answers. -/
def mrgA (d : Nat) (a b : Vl (d + 1)) : Vl (d + 1) := if (okB (d + 1) a = true ∧ a.1 = 5) ∧ (okB (d + 1) b = true ∧ b.1 = 5) ∧ okB (d + 1) (mrgV d a (entV d b)) = true then mrgV d a (entV d b) else vNil d
def mrgF (d : Nat) (a b : Vl (d + 1)) : Bool := decide ((okB (d + 1) a = true ∧ a.1 = 5) ∧ (okB (d + 1) b = true ∧ b.1 = 5) ∧ okB (d + 1) (mrgV d a (entV d b)) = true)
theorem mrgA_yes {d : Nat} {a b : Vl (d + 1)} (h : (okB (d + 1) a = true ∧ a.1 = 5) ∧ (okB (d + 1) b = true ∧ b.1 = 5) ∧ okB (d + 1) (mrgV d a (entV d b)) = true) : mrgA d a b = mrgV d a (entV d b) ∧ mrgF d a b = true := ⟨if_pos h, decide_eq_true h⟩
theorem mrgA_no {d : Nat} {a b : Vl (d + 1)} (h : ¬ ((okB (d + 1) a = true ∧ a.1 = 5) ∧ (okB (d + 1) b = true ∧ b.1 = 5) ∧ okB (d + 1) (mrgV d a (entV d b)) = true)) : mrgA d a b = vNil d ∧ mrgF d a b = false := ⟨if_neg h, decide_eq_false h⟩
theorem mrgA_sz (d : Nat) (a b : Vl (d + 1)) : szV (d + 1) (mrgA d a b) ≤ 1200 := by
  by_cases h : (okB (d + 1) a = true ∧ a.1 = 5) ∧ (okB (d + 1) b = true ∧ b.1 = 5) ∧ okB (d + 1) (mrgV d a (entV d b)) = true
  · rw [(mrgA_yes h).1]; exact ok_sz h.2.2
  · rw [(mrgA_no h).1, sz_vNil]; omega

/-- A map that may be has neither number nor text. -/
theorem ok_bare5 {d : Nat} {vn : Int} {vs : List Int} {vK : List (List Int)} {vL : List (Vl d)} (h : okB (d + 1) (5, vn, vs, vK, vL) = true) : vn = 0 ∧ vs = [] := by
  simp only [okB, Bool.and_eq_true, decide_eq_true_eq] at h
  have hsh := ((good_succ _ _ _ _ _ _ _).1 h.1).2.1
  simp [shapeB, bareB] at hsh
  exact ⟨hsh.1.1, hsh.1.2⟩

/-- The merged value's head. -/
theorem mrg_head {d : Nat} {vn : Int} {vs : List Int} {aK : List (List Int)} {aL : List (Vl d)} (h : okB (d + 1) (5, vn, vs, aK, aL) = true) (es : List (List Int × Vl d)) : mrgV d (5, vn, vs, aK, aL) es = ((5 : Int), (0 : Int), ([] : List Int), (mrgV d (5, vn, vs, aK, aL) es).2.2.2.1, (mrgV d (5, vn, vs, aK, aL) es).2.2.2.2) := by
  obtain ⟨rfl, rfl⟩ := ok_bare5 h
  have key : ∀ (es : List (List Int × Vl d)) (o : Vl (d + 1)), o = ((5 : Int), (0 : Int), ([] : List Int), o.2.2.2.1, o.2.2.2.2) → mrgV d o es = ((5 : Int), (0 : Int), ([] : List Int), (mrgV d o es).2.2.2.1, (mrgV d o es).2.2.2.2) := by
    intro es
    induction es with
    | nil => exact fun o h => h
    | cons e es ih => exact fun o _ => ih (setV d o e.1 e.2) rfl
  exact key es _ rfl
end Go.Proofs.Ytpknhmegoldppaa
/-
  ValMerge of the specification, whatever it is handed, on its own memory; no statement is proved here.
-/
namespace Go.Proofs.Ytpknhmegoldppaa
open Go.RowKit Go.Shelf
set_option linter.unusedVariables false
set_option linter.unusedSimpArgs false

/-- While entries are laid: what has come of it so far, in its box. -/
def MIx (w : World) (O d : Nat) (bx : Array Value) (o : Vl (d + 1)) (c : V5) (wr : World) : Prop :=
  wr.heap[O]? = some (.cells #[c.1, c.2.1, c.2.2.1, c.2.2.2.1, c.2.2.2.2] 30 (0, 0)) ∧ VSeg (fun b => b < wr.heap.size ∧ b ≠ O) wr (d + 1) c o ∧ Below w.heap.size w wr ∧ wr.heap[w.heap.size + 1]? = some (.cells bx 30 (0, 0)) ∧ wr.heap[w.heap.size + 1 + 1]? = some (.cells #[.int .i64 0, .int .i64 0, .slice none 0 0, .slice none 0 0, .slice none 0 0] 30 (0, 0))

set_option maxHeartbeats 3200000 in
theorem mix_step {w wr w4 : World} {O d : Nat} {bx : Array Value} {o o' : Vl (d + 1)} {c : V5} {u0 u1 u2 u3 u4 : Value} (h : MIx w O d bx o c wr) (hO : w.heap.size + 3 ≤ O) (hV : VSeg (fun b => (b < wr.heap.size ∧ b ≠ O) ∨ (wr.drew.heap.size ≤ b ∧ b < w4.heap.size)) w4 (d + 1) (u0, u1, u2, u3, u4) o') (hb : Below wr.drew.heap.size wr.drew w4) : MIx w O d bx o' (u0, u1, u2, u3, u4) (set5 w4 O 0 u0 u1 u2 u3 u4) := by
  obtain ⟨h1, h2, h3, h4, h5⟩ := h
  have hOl : O < wr.heap.size := (Array.getElem?_eq_some_iff.1 h1).1
  have hz : wr.heap.size ≤ w4.heap.size := hb.size
  have hz3 := h3.size
  have hg := set5_grown w4 O 0 u0 u1 u2 u3 u4
  have hsz := set5_size w4 O 0 u0 u1 u2 u3 u4
  have hbw := Below.on h3.drew hb
  have hrow : (set5 w4 O 0 u0 u1 u2 u3 u4).heap[O]? = some (.cells #[u0, u1, u2, u3, u4] 30 (0, 0)) := set5_heap (j := 0) u0 u1 u2 u3 u4 ((hb.block O hOl).trans h1)
  have hx1 : (set5 w4 O 0 u0 u1 u2 u3 u4).heap[w.heap.size + 1]? = some (.cells bx 30 (0, 0)) := (hg.block (w.heap.size + 1) (by omega) (by simp; omega)).trans ((hb.block (w.heap.size + 1) (by show _ < wr.heap.size; omega)).trans h4)
  have hx2 : (set5 w4 O 0 u0 u1 u2 u3 u4).heap[w.heap.size + 1 + 1]? = _ := (hg.block (w.heap.size + 1 + 1) (by omega) (by simp; omega)).trans ((hb.block (w.heap.size + 1 + 1) (by show _ < wr.heap.size; omega)).trans h5)
  have hbf : Below w.heap.size w (set5 w4 O 0 u0 u1 u2 u3 u4) := hbw.grown hg hbw.size (by intro j hj; simp at hj; omega)
  generalize set5 w4 O 0 u0 u1 u2 u3 u4 = wz at *
  have hV' : VSeg (fun b => b < wz.heap.size ∧ b ≠ O) w4 (d + 1) (u0, u1, u2, u3, u4) o' := VSeg.mono (fun b h => by
    rcases h with h | h
    · exact ⟨by omega, h.2⟩
    · have h1 : wr.heap.size ≤ b := h.1
      exact ⟨by omega, by omega⟩) (d + 1) hV
  exact ⟨hrow, VSeg.agree (w := w4) (fun b (h : b < wz.heap.size ∧ b ≠ O) => hg.block b (by omega) (by have := h.2; simpa using this)) (d + 1) hV', hbf, hx1, hx2⟩

set_option maxHeartbeats 12800000 in
set_option maxRecDepth 100000 in
theorem spec_ValMerge_any (d : Nat) (c0 c1 c2 c3 c4 e0 e1 e2 e3 e4 : Value) (v x : Vl (d + 1)) (w : World) (hv : VSeg (fun b => b < w.heap.size) w (d + 1) (c0, c1, c2, c3, c4) v) (hx : VSeg (fun b => b < w.heap.size) w (d + 1) (e0, e1, e2, e3, e4) x) :
    Calls Try.prog 16 #[.agg #[c0, c1, c2, c3, c4], .agg #[e0, e1, e2, e3, e4]] w (Ans d (mrgA d v x) (mrgF d v x) w) := by
  have HV : Hid (∀ wx, Below w.heap.size w wx → VSeg (fun b => b < w.heap.size) wx (d + 1) (c0, c1, c2, c3, c4) v) := fun wx hb => VSeg.agree (agree_below hb) (d + 1) hv
  have HX : Hid (∀ wx, Below w.heap.size w wx → VSeg (fun b => b < w.heap.size) wx (d + 1) (e0, e1, e2, e3, e4) x) := fun wx hb => VSeg.agree (agree_below hb) (d + 1) hx
  have HP : Hid (∀ wx, Below w.heap.size w wx → Calls Try.prog 27 #[.agg #[c0, c1, c2, c3, c4]] wx fun e w' => e = .returned (.bool (okB (d + 1) v)) ∧ Below wx.heap.size wx w') := fun wx hb => spec_ValOk_any (d + 1) w.heap.size _ _ _ _ _ v wx (HV.out wx hb) hb.size
  have HPx : Hid (∀ wx, Below w.heap.size w wx → Calls Try.prog 27 #[.agg #[e0, e1, e2, e3, e4]] wx fun e w' => e = .returned (.bool (okB (d + 1) x)) ∧ Below wx.heap.size wx w') := fun wx hb => spec_ValOk_any (d + 1) w.heap.size _ _ _ _ _ x wx (HX.out wx hb) hb.size
  obtain ⟨ck, cn, a2, l2, p2, a3, l3, p3, a4, l4, p4, rfl, rfl, rfl, rfl, rfl⟩ := VSeg.form (d + 1) hv
  obtain ⟨xk, xn, b2, m2, q2, b3, m3, q3, b4, m4, q4, rfl, rfl, rfl, rfl, rfl⟩ := VSeg.form (d + 1) hx
  obtain ⟨vk, vn, vs, vK, vL⟩ := v
  obtain ⟨yk, yn, ys, yK, yL⟩ := x
  have hck : ck = vk := by have h := ((VSeg_succ _ _ _ _ _).1 hv).1; simpa using h
  subst hck
  obtain ⟨hxk0, -, -, hK, hL⟩ := (VSeg_succ _ _ _ _ _).1 hx
  have hxk : xk = yk := by simpa using hxk0
  subst hxk
  simp only at hK hL
  obtain rfl : m3 = yK.length := by obtain ⟨a, c, e, _⟩ := hK; simp at e; exact e.2.1
  obtain rfl : m4 = yL.length := by obtain ⟨a, c, e, _⟩ := hL; simp at e; exact e.2.1
  have HK := hide' hK
  have HL := hide' hL
  have H3 := hide' (boxes3 w (.cells #[.int .i64 ck, .int .i64 cn, .slice a2 l2 p2, .slice a3 l3 p3, .slice a4 l4 p4] 30) (.cells #[.int .i64 xk, .int .i64 xn, .slice b2 m2 q2, .slice b3 yK.length q3, .slice b4 yL.length q4] 30) (.cells #[.int .i64 0, .int .i64 0, .slice none 0 0, .slice none 0 0, .slice none 0 0] 30))
  clear hv hx hK hL hxk0
  go_enter Try.func16, Try.ntmps16
  go_wp2_with fail
  refine (HP.out _ H3.out.2.2.2.2).mono ?_
  rintro e w1 ⟨rfl, b1⟩
  obtain ⟨hP0, hX0, hR0, hs0, hB0⟩ := H3.out
  generalize (((w.alloc (.cells #[.int .i64 ck, .int .i64 cn, .slice a2 l2 p2, .slice a3 l3 p3, .slice a4 l4 p4] 30)).alloc (.cells #[.int .i64 xk, .int .i64 xn, .slice b2 m2 q2, .slice b3 yK.length q3, .slice b4 yL.length q4] 30)).alloc (.cells #[.int .i64 0, .int .i64 0, .slice none 0 0, .slice none 0 0, .slice none 0 0] 30)) = w0 at *
  have hz1 := b1.size
  have HP1 := hide' ((b1.block w.heap.size (by omega)).trans hP0)
  have HX1 := hide' ((b1.block (w.heap.size + 1) (by omega)).trans hX0)
  have HR1 := hide' ((b1.block (w.heap.size + 1 + 1) (by omega)).trans hR0)
  have HB1 : Hid (Below w.heap.size w w1) := hB0.trans (b1.mono (by omega))
  obtain ⟨y0, y1, y2, y3, y4, _⟩ := row5 HX1.out
  clear hP0 hX0 hR0 hB0 b1 HP H3
  by_cases hok : okB (d + 1) (ck, vn, vs, vK, vL) = true
  · rw [hok]
    have HPx1 := hide' (HPx.out w1 HB1.out)
    go_wp2_with fail
    refine HPx1.out.mono ?_
    rintro e w2 ⟨rfl, b2'⟩
    have hz2 := b2'.size
    have HP2 := hide' ((b2'.block w.heap.size (by omega)).trans HP1.out)
    have HX2 := hide' ((b2'.block (w.heap.size + 1) (by omega)).trans HX1.out)
    have HR2 := hide' ((b2'.block (w.heap.size + 1 + 1) (by omega)).trans HR1.out)
    have HB2 := hide' (Below.on HB1.out b2')
    clear b2' HPx1 y0 y1 y2 y3 y4
    by_cases hokx : okB (d + 1) (xk, yn, ys, yK, yL) = true
    · rw [hokx]
      obtain ⟨t0, t1, t2, t3, t4, _⟩ := row5 HP2.out
      obtain ⟨y0, y1, y2, y3, y4, _⟩ := row5 HX2.out
      by_cases hk5 : ck = 5
      · subst hk5
        by_cases hx5 : xk = 5
        · subst hx5
          have Hok := hide' hok
          have Hokx := hide' hokx
          obtain ⟨hKL, hlen, hup, hbt, hkb⟩ := ok_keys hokx
          have HKL := hide' hKL
          have hlen' : yL.length ≤ 40 := hlen
          have HSv : Hid (∀ i, i ≤ yL.length → SInv d (mrgV d (5, vn, vs, vK, vL) ((yK.zip yL).take i)) (40 + i)) := SInv.all (SInv.of_ok hok) hKL (fun i hi => ⟨hbt i hi, Nat.le_trans (hkb i hi) (by omega)⟩)
          have HSt : Hid (∀ i (hi : i < yL.length), mrgV d (5, vn, vs, vK, vL) ((yK.zip yL).take (i + 1)) = setV d (mrgV d (5, vn, vs, vK, vL) ((yK.zip yL).take i)) (yK.getD i []) yL[i]) := fun i hi => mrgV_step hKL hi
          have HEn : Hid (mrgV d (5, vn, vs, vK, vL) ((yK.zip yL).take yL.length) = mrgV d (5, vn, vs, vK, vL) (entV d (5, yn, ys, yK, yL))) := congrArg (mrgV d (5, vn, vs, vK, vL)) (List.take_of_length_le (by rw [List.length_zip]; omega))
          have hVw : VSeg (fun b => b < w.heap.size) w2 (d + 1) _ _ := HV.out w2 HB2.out
          have bal : Below w2.heap.size w2 (w2.alloc (.cells #[.int .i64 5, .int .i64 cn, .slice a2 l2 p2, .slice a3 l3 p3, .slice a4 l4 p4] 30)) := (Below.refl _ _).alloc (Nat.le_refl _) _
          have HI0 : Hid (MIx w w2.heap.size d #[.int .i64 5, .int .i64 xn, .slice b2 m2 q2, .slice b3 yK.length q3, .slice b4 yL.length q4] (mrgV d (5, vn, vs, vK, vL) ((yK.zip yL).take 0)) (.int .i64 5, .int .i64 cn, .slice a2 l2 p2, .slice a3 l3 p3, .slice a4 l4 p4) (w2.alloc (.cells #[.int .i64 5, .int .i64 cn, .slice a2 l2 p2, .slice a3 l3 p3, .slice a4 l4 p4] 30))) :=
            ⟨(MapKept.heap_alloc w2 _).1, VSeg.agree (w := w2) (fun b (h : b < (w2.alloc (.cells #[.int .i64 5, .int .i64 cn, .slice a2 l2 p2, .slice a3 l3 p3, .slice a4 l4 p4] 30)).heap.size ∧ b ≠ w2.heap.size) => bal.block b (by have h1 := h.1; have h2 := h.2; simp at h1; omega)) (d + 1) (VSeg.mono (fun b (h : b < w.heap.size) => by simp; omega) (d + 1) hVw), Below.on HB2.out bal, (bal.block _ (by omega)).trans HX2.out, (bal.block _ (by omega)).trans HR2.out⟩
          clear hok hokx hKL hup hbt hkb hlen hVw bal
          generalize hEv : mrgV d (5, vn, vs, vK, vL) (entV d (5, yn, ys, yK, yL)) = oE at *
          go_wp2_with fail
          clear t0 t1 t2 t3 t4 y0 y1 y2 y3 y4
          generalize (w2.alloc (.cells #[.int .i64 5, .int .i64 cn, .slice a2 l2 p2, .slice a3 l3 p3, .slice a4 l4 p4] 30)) = w3 at *
          generalize hOO : w2.heap.size = O at *
          go_loopw [7] (fun i wr => ∃ (k : Nat), k ≤ yL.length ∧ i = .int .i64 k ∧ ∃ (gk gn : Int) (s2 : Option Addr) (n2 r2 : Nat) (s3 : Option Addr) (n3 r3 : Nat) (s4 : Option Addr) (n4 r4 : Nat), Hid (MIx w O d #[.int .i64 5, .int .i64 xn, .slice b2 m2 q2, .slice b3 yK.length q3, .slice b4 yL.length q4] (mrgV d (5, vn, vs, vK, vL) ((yK.zip yL).take k)) (.int .i64 gk, .int .i64 gn, .slice s2 n2 r2, .slice s3 n3 r3, .slice s4 n4 r4) wr)) (fun i _ => yL.length - (intOf i).toNat)
          case atStart => exact ⟨0, Nat.zero_le _, rfl, _, _, _, _, _, _, _, _, _, _, _, HI0⟩
          case round =>
            obtain ⟨k, hk, rfl, gk, gn, s2, n2, r2, s3, n3, r3, s4, n4, r4, hI⟩ := hrel
            obtain ⟨hOr, hOv, hBr, hXr, hRr⟩ := hI.out
            simp only at hOr
            have hzr := hBr.size
            have hOl : O < wr.heap.size := (Array.getElem?_eq_some_iff.1 hOr).1
            obtain ⟨x0, x1, x2, x3, x4, _⟩ := row5 hXr
            obtain ⟨o0, o1, o2, o3, o4, of⟩ := row5 hOr
            have HOr := hide' hOr
            have HOv := hide' hOv
            have HBr := hide' hBr
            have HRr := hide' hRr
            by_cases hlt : k < yL.length
            · have hltK : k < yK.length := by have := HKL.out; omega
              have hne : yK ≠ [] := by intro h; rw [h] at hltK; simp at hltK
              have hneL : yL ≠ [] := by intro h; rw [h] at hlt; simp at hlt
              obtain ⟨-, -, bK, oK, us0, rfl, hbK, hus0, hliK, -, hTs⟩ := HK.out.lie hne
              obtain ⟨-, -, bL, oL, fs0, rfl, hbL, hfs0, hliL, -, hVs⟩ := HL.out.lie hneL
              have hbK' : bK < w.heap.size := hbK
              have hbL' : bL < w.heap.size := hbL
              have hku : k < us0.length := by omega
              have hkf : k < fs0.length := by omega
              have hTk := hTs k hku
              have hVk := hVs k hkf hlt
              have hcK : wr.cell? ⟨bK, oK + k, none⟩ = some us0[k] := (World.cell?_of_block (hBr.block bK hbK')).trans (hliK k _ (List.getElem?_eq_getElem hku))
              have hTk2 := hTk
              obtain ⟨ak, akc, hak, hakS, _⟩ := hTk
              have hfv := five_lie hliL k hkf
              generalize hek : fs0[k] = ek at *
              obtain ⟨f0, f1, f2, f3, f4⟩ := ek
              obtain ⟨zk, zn, g2, nn2, rr2, g3, nn3, rr3, g4, nn4, rr4, rfl, rfl, rfl, rfl, rfl⟩ := VSeg.form d hVk
              obtain ⟨z0, z1, z2, z3, z4⟩ := hfv.agree (R := fun b => b < w.heap.size) (agree_below hBr) hbL'
              simp only at z0 z1 z2 z3 z4
              rw [hak] at hcK hTk2
              have hSk := HSv.out k (by omega)
              have HE := hide' (l2set_R (fun b => b < wr.heap.size ∧ b ≠ O) d gk gn s2 n2 r2 s3 n3 r3 s4 n4 r4 (mrgV d (5, vn, vs, vK, vL) ((yK.zip yL).take k)) zk zn g2 nn2 rr2 g3 nn3 rr3 g4 nn4 rr4 yL[k] ak akc (yK.getD k []) wr.drew
                (VSeg.agree (w := wr) (w' := wr.drew) (fun b _ => rfl) (d + 1) hOv) ((hTk2.agree (w' := wr.drew) (fun b (h : b < w.heap.size) => hBr.block b h)).mono (fun b (h : b < w.heap.size) => ⟨by omega, by omega⟩)) (VSeg.mono (fun b (h : b < w.heap.size) => ⟨by omega, by omega⟩) d (VSeg.agree (w' := wr.drew) (fun b (h : b < w.heap.size) => hBr.block b h) d hVk))
                hSk.2.2.1 (fun i hi => (hSk.2.2.2 i hi).1) hSk.1 (Nat.le_trans hSk.2.1 (by omega)) (fun b h => h.1))
              have HNx := hide' (HSt.out k hlt)
              have hlt' : (k : Int) < (yK.length : Int) := by omega
              have hltL : (k : Int) < (yL.length : Int) := by omega
              have hk0 : (0 : Int) ≤ (k : Int) := Int.natCast_nonneg _
              have ff0 := of 0
              have ff1 := of 1
              have ff2 := of 2
              have ff3 := of 3
              have ff4 := of 4
              generalize hkn : (yK.getD k []).length = kn at *
              clear hTs hVs hliK hliL hVk hakS hak hek hfv hSk hTk2 hOr hOv hBr hXr hRr of
              go_wp2_with fail
              go_region_with (go_at_call 28; refine HE.out.mono ?_; rintro e w4 ⟨u0, u1, u2, u3, u4, rfl, hM4, hb4⟩; obtain ⟨ik, im, j2, i2, h2, j3, i3, h3, j4, i4, h4, rfl, rfl, rfl, rfl, rfl⟩ := VSeg.form (d + 1) hM4; have hr4 := (hb4.block O hOl).trans HOr.out; obtain ⟨w40, w41, w42, w43, w44, wf4⟩ := row5 hr4; have wf0 := wf4 0; have wf1 := wf4 1; have wf2 := wf4 2; have wf3 := wf4 3; have wf5 := wf4 4; replace hM4 := hide' (mix_step hI.out (by omega) hM4 hb4); clear wf4 hr4 hb4)
              all_goals go_wp2
              all_goals go_roundw
              all_goals first | exact ⟨k + 1, by omega, by go_num, _, _, _, _, _, _, _, _, _, _, _, hide' (by rw [HNx.out]; exact hM4.out)⟩ | (simp [intOf]; omega)
            · have hkn : k = yL.length := by omega
              have hltn : ¬ (k : Int) < (yK.length : Int) := by have := HKL.out; omega
              subst hkn
              rw [HEn.out] at hOv
              have HOk := hide' (spec_ValOk_any (d + 1) wr.heap.size _ _ _ _ _ oE wr (VSeg.mono (fun b h => h.1) (d + 1) hOv) (Nat.le_refl _))
              have HVo := hide' (VSeg.mono (R' := fun b => b < wr.heap.size) (fun b h => h.1) (d + 1) hOv)
              clear hOr hOv hBr hXr hRr of HOv hI
              go_wp2_with fail
              refine HOk.out.mono ?_
              rintro e w4 ⟨rfl, b4'⟩
              have hz4 := b4'.size
              have HB4 := hide' (Below.on HBr.out b4')
              have HR4 := hide' ((b4'.block (w.heap.size + 1 + 1) (by omega)).trans HRr.out)
              have HO4 := hide' ((b4'.block O hOl).trans HOr.out)
              have HV4 := hide' (VSeg.agree (fun b (h : b < wr.heap.size) => b4'.block b h) (d + 1) HVo.out)
              clear HOk b4' x0 x1 x2 x3 x4 o0 o1 o2 o3 o4
              by_cases hfo : okB (d + 1) oE = true
              · rw [hfo]
                have HE := hide' (mrgA_yes (d := d) (a := (5, vn, vs, vK, vL)) (b := (5, yn, ys, yK, yL)) ⟨⟨Hok.out, rfl⟩, ⟨Hokx.out, rfl⟩, by rw [hEv]; exact hfo⟩)
                have hsz := ok_sz hfo
                clear hfo
                have HOw := hide' (l2own_any (d + 1) wr.heap.size _ _ _ _ _ _ w4 HV4.out (by omega) (by omega))
                obtain ⟨t0, t1, t2, t3, t4, _⟩ := row5 HO4.out
                go_wp2_with fail
                refine HOw.out.mono ?_
                rintro e w5 ⟨u0, u1, u2, u3, u4, rfl, B, hO, hB, hbn⟩
                obtain ⟨uk, un, v2, i2, j2, v3, i3, j3, v4, i4, j4, rfl, rfl, rfl, rfl, rfl⟩ := VOwn.form (d + 1) hO
                have HRn := hide' ((hbn.block (w.heap.size + 1 + 1) (by omega)).trans HR4.out)
                have HBn := hide' (Below.on HB4.out hbn)
                have HO := hide' hO
                have HB := hide' hB
                obtain ⟨r0, r1, r2', r3', r4', rf⟩ := row5 HRn.out
                have f0 := rf 0
                have f1 := rf 1
                have f2 := rf 2
                have f3 := rf 3
                have f4 := rf 4
                clear rf hO hB hbn HOw
                go_wp2_with fail
                have hfin := row5 (set5_heap (j := 0) (.int .i64 uk) (.int .i64 un) (.slice v2 i2 j2) (.slice v3 i3 j3) (.slice v4 i4 j4) HRn.out)
                simp only [set5, Nat.zero_add] at hfin
                obtain ⟨o0, o1, o2, o3, o4, _⟩ := hfin
                refine bodyPost_ret (v := .tuple #[.agg #[.int .i64 uk, .int .i64 un, .slice v2 i2 j2, .slice v3 i3 j3, .slice v4 i4 j4], .bool true]) (by simp [results, Try.results16, go_sem, o0, o1, o2, o3, o4]) rfl ?_
                exact ans_val ⟨HE.out.1.trans hEv, HE.out.2⟩ HO.out (fun c hc => by have := HB.out c hc; omega) HBn.out (by omega)
              · have hfo' : okB (d + 1) oE = false := by simpa using hfo
                rw [hfo']
                have HE := hide' (mrgA_no (d := d) (a := (5, vn, vs, vK, vL)) (b := (5, yn, ys, yK, yL)) (fun h => hfo (by rw [← hEv]; exact h.2.2)))
                clear hfo hfo'
                obtain ⟨r0, r1, r2', r3', r4', rf⟩ := row5 HR4.out
                have f0 := rf 0
                have f1 := rf 1
                have f2 := rf 2
                have f3 := rf 3
                have f4 := rf 4
                clear rf
                go_wp2_with fail
                have hfin := row5 (set5_heap (j := 0) (.int .i64 0) (.int .i64 0) (.slice none 0 0) (.slice none 0 0) (.slice none 0 0) HR4.out)
                simp only [set5, Nat.zero_add] at hfin
                obtain ⟨o0, o1, o2, o3, o4, _⟩ := hfin
                refine bodyPost_ret (v := .tuple #[.agg #[.int .i64 0, .int .i64 0, .slice none 0 0, .slice none 0 0, .slice none 0 0], .bool false]) (by simp [results, Try.results16, go_sem, o0, o1, o2, o3, o4]) rfl ?_
                exact ans_nil HE.out HB4.out (by omega)
        · have hx5b : (xk != 5) = true := by simp [hx5]
          have HE := hide' (mrgA_no (d := d) (a := (5, vn, vs, vK, vL)) (b := (xk, yn, ys, yK, yL)) (fun h => hx5 h.2.1.2))
          clear hok hokx
          obtain ⟨r0, r1, r2', r3', r4', rf⟩ := row5 HR2.out
          have f0 := rf 0
          have f1 := rf 1
          have f2 := rf 2
          have f3 := rf 3
          have f4 := rf 4
          clear rf
          go_wp2_with fail
          have hfin := row5 (set5_heap (j := 0) (.int .i64 0) (.int .i64 0) (.slice none 0 0) (.slice none 0 0) (.slice none 0 0) HR2.out)
          simp only [set5, Nat.zero_add] at hfin
          obtain ⟨o0, o1, o2, o3, o4, _⟩ := hfin
          refine bodyPost_ret (v := .tuple #[.agg #[.int .i64 0, .int .i64 0, .slice none 0 0, .slice none 0 0, .slice none 0 0], .bool false]) (by simp [results, Try.results16, go_sem, o0, o1, o2, o3, o4]) rfl ?_
          exact ans_nil HE.out HB2.out (by omega)
      · have hk5b : (ck != 5) = true := by simp [hk5]
        have HE := hide' (mrgA_no (d := d) (a := (ck, vn, vs, vK, vL)) (b := (xk, yn, ys, yK, yL)) (fun h => hk5 h.1.2))
        clear hok hokx
        obtain ⟨r0, r1, r2', r3', r4', rf⟩ := row5 HR2.out
        have f0 := rf 0
        have f1 := rf 1
        have f2 := rf 2
        have f3 := rf 3
        have f4 := rf 4
        clear rf
        go_wp2_with fail
        have hfin := row5 (set5_heap (j := 0) (.int .i64 0) (.int .i64 0) (.slice none 0 0) (.slice none 0 0) (.slice none 0 0) HR2.out)
        simp only [set5, Nat.zero_add] at hfin
        obtain ⟨o0, o1, o2, o3, o4, _⟩ := hfin
        refine bodyPost_ret (v := .tuple #[.agg #[.int .i64 0, .int .i64 0, .slice none 0 0, .slice none 0 0, .slice none 0 0], .bool false]) (by simp [results, Try.results16, go_sem, o0, o1, o2, o3, o4]) rfl ?_
        exact ans_nil HE.out HB2.out (by omega)
    · have hno : okB (d + 1) (xk, yn, ys, yK, yL) = false := by simpa using hokx
      rw [hno]
      have HE := hide' (mrgA_no (d := d) (a := (ck, vn, vs, vK, vL)) (b := (xk, yn, ys, yK, yL)) (fun h => hokx h.2.1.1))
      clear hok hokx hno
      obtain ⟨r0, r1, r2', r3', r4', rf⟩ := row5 HR2.out
      have f0 := rf 0
      have f1 := rf 1
      have f2 := rf 2
      have f3 := rf 3
      have f4 := rf 4
      clear rf
      go_wp2_with fail
      have hfin := row5 (set5_heap (j := 0) (.int .i64 0) (.int .i64 0) (.slice none 0 0) (.slice none 0 0) (.slice none 0 0) HR2.out)
      simp only [set5, Nat.zero_add] at hfin
      obtain ⟨o0, o1, o2, o3, o4, _⟩ := hfin
      refine bodyPost_ret (v := .tuple #[.agg #[.int .i64 0, .int .i64 0, .slice none 0 0, .slice none 0 0, .slice none 0 0], .bool false]) (by simp [results, Try.results16, go_sem, o0, o1, o2, o3, o4]) rfl ?_
      exact ans_nil HE.out HB2.out (by omega)
  · have hno : okB (d + 1) (ck, vn, vs, vK, vL) = false := by simpa using hok
    rw [hno]
    have HE := hide' (mrgA_no (d := d) (a := (ck, vn, vs, vK, vL)) (b := (xk, yn, ys, yK, yL)) (fun h => hok h.1.1))
    clear hok hno
    obtain ⟨r0, r1, r2', r3', r4', rf⟩ := row5 HR1.out
    have f0 := rf 0
    have f1 := rf 1
    have f2 := rf 2
    have f3 := rf 3
    have f4 := rf 4
    clear rf
    go_wp2_with fail
    have hfin := row5 (set5_heap (j := 0) (.int .i64 0) (.int .i64 0) (.slice none 0 0) (.slice none 0 0) (.slice none 0 0) HR1.out)
    simp only [set5, Nat.zero_add] at hfin
    obtain ⟨o0, o1, o2, o3, o4, _⟩ := hfin
    refine bodyPost_ret (v := .tuple #[.agg #[.int .i64 0, .int .i64 0, .slice none 0 0, .slice none 0 0, .slice none 0 0], .bool false]) (by simp [results, Try.results16, go_sem, o0, o1, o2, o3, o4]) rfl ?_
    exact ans_nil HE.out HB1.out (by omega)
end Go.Proofs.Ytpknhmegoldppaa
/-
  maps.Copy over the maps of parts: the shelf's contract at this program, in plain words; no statement is proved here.
-/
namespace Go.Proofs.Ytpknhmegoldppaa
open Go.RowKit Go.Shelf
set_option linter.unusedVariables false

def copyRen : Go.Shelf.Ren := ⟨fun | 5 => 43 | n => n, fun | 23 => 57 | 24 => 57 | 26 => 9 | 27 => 63 | n => n, fun n => n⟩

set_option maxRecDepth 100000 in
theorem copyLays : Go.Proofs.SlLaysX.n5 Try.prog copyRen := {
  mixed := by kernel_rfl
  f5 := ⟨Try.f43.name, by kernel_rfl, Try.func43.trans (congrArg some (by kernel_rfl))⟩
  t0 := Try.underlying0
  a0 := Try.isAgg0
  z0 := Try.sizeOf0
  v0 := Try.zeroValue0
  t4 := Try.underlying4
  a4 := Try.isAgg4
  z4 := Try.sizeOf4
  v4 := Try.zeroValue4
  t23 := Try.underlying57
  a23 := Try.isAgg57
  z23 := Try.sizeOf57
  v23 := Try.zeroValue57
  t24 := Try.underlying57
  a24 := Try.isAgg57
  z24 := Try.sizeOf57
  v24 := Try.zeroValue57
  a26 := Try.isAgg9
  z26 := Try.sizeOf9
  a27 := Try.isAgg63
  z27 := Try.sizeOf63 }

/-- maps.Copy of one map of parts into another. -/
theorem copy_parts (bd bs nd ns : Nat) (Dd Ds : DataW Value) (w : World) (hd : w.ownsMap Try.prog 9 tokR bd nd Dd) (hs : w.ownsMap Try.prog 9 tokR bs ns Ds) (hne : bd ≠ bs) (hroom : nd + Maps.size Ds ≤ maxLen) :
    Calls Try.prog 43 #[.map (some bd), .map (some bs)] w fun e w' => e = .returned (.tuple #[]) ∧ w'.ownsMap Try.prog 9 tokR bd (nd + Maps.size Ds) (Lib.mergeD Dd Ds) ∧ w.grownBy w' (some bd) :=
  (AnyX.maps_Copy copyLays (Maps.string_keyed Try.underlying9) tokR bd bs nd ns Dd Ds w hd hs hne hroom).mono fun e w' h => ⟨h.1, h.2.1, h.2.2.2⟩

/-- valueOf of a map of parts into which another's entries were laid. -/
theorem merge_value {Ra Rb : Nat → Prop} {w w4 : World} {d b : Nat} {vn un : Int} {vs us : List Int} {aK bK : List (List Int)} {aL bL : List (Vl d)} {psB : List Value} {D0 : DataW Value} (hp : PSeg Ra w (d + 1) (.iface 59 (.agg #[.map (some b)])) (5, vn, vs, aK, aL)) (hok : okB (d + 1) (5, vn, vs, aK, aL) = true) (hokb : okB (d + 1) (5, un, us, bK, bL) = true) (ht : w.grownBy w4 (some b)) (hR : ∀ c, Ra c → c < w.heap.size) (hRb : ∀ c, Rb c → c < w.heap.size ∧ c ≠ b)
    (hm0 : w.ownsMap Try.prog 9 tokR b 64 D0) (hm4 : w4.ownsMap Try.prog 9 tokR b (64 + Maps.size (mapD bK psB bL.length)) (Lib.mergeD D0 (mapD bK psB bL.length))) (hcb : ∀ i (h : i < bL.length), PSeg Rb w d (psB.getD i .nilIface) bL[i]) :
    Calls Try.prog 34 #[.iface 59 (.agg #[.map (some b)])] w4 (MapEnd d (mrgV d (5, vn, vs, aK, aL) (bK.zip bL)).2.2.2.2 (mrgV d (5, vn, vs, aK, aL) (bK.zip bL)).2.2.2.1 w4) := by
  have hsA := SInv.of_ok hok
  obtain ⟨hKL, hlen, hup, hbt, hkb⟩ := ok_keys hok
  obtain ⟨bKL, blen, bup, bbt, bkb⟩ := ok_keys hokb
  have hok' := hok
  have hokb' := hokb
  simp only [okB, Bool.and_eq_true, decide_eq_true_eq] at hok' hokb'
  obtain ⟨ps, hRa, hm, hc⟩ := avoid_allG hp hok'.1 ht hR
  have hgk := ((good_succ _ _ _ _ _ _ _).1 hok'.1).2.2
  have hkid := parts_kid hok'.2
  have bgk := ((good_succ _ _ _ _ _ _ _).1 hokb'.1).2.2
  have bkid := parts_kid hokb'.2
  have hz4 := ht.size
  have hblt := hR b hRa
  have hG : GInv (fun c => c < w4.heap.size) w4 d (5, vn, vs, aK, aL) (padP ps aK.length) := by
    refine ⟨length_padP _ _, fun i hi => ?_⟩
    have hi' : i < aL.length := hi
    rw [padP_at ps (by omega)]
    exact ⟨PSeg.carry (fun c h => by have := hR c h; omega) (fun c _ => rfl) d (hc i hi'), _, hgk i hi', hkid i hi'⟩
  have hps : ∀ i (h : i < bL.length), PSeg (fun c => c < w4.heap.size) w4 d (psB.getD i .nilIface) bL[i] ∧ ∃ deep, goodB d bL[i] deep = true ∧ partsV d bL[i] ≤ 40 := fun i hi =>
    ⟨PSeg.carry (fun c h => by have := hRb c h; omega) (fun c h => ht.block c (hRb c h).1 (by have := (hRb c h).2; simpa using this)) d (hcb i hi), _, bgk i hi, bkid i hi⟩
  have hbb : ∀ i, i < bK.length → (∀ x ∈ bK.getD i [], Byt x) ∧ (bK.getD i []).length ≤ 1048576 := fun i hi => ⟨bbt i hi, Nat.le_trans (bkb i hi) (by omega)⟩
  obtain ⟨P', hG', hD'⟩ := merge_fold hsA hG bKL hbb hps bL.length (Nat.le_refl _)
  have hS' := SInv.all hsA bKL hbb bL.length (Nat.le_refl _)
  have htk : (bK.zip bL).take bL.length = bK.zip bL := List.take_of_length_le (by rw [List.length_zip]; omega)
  rw [htk] at hG' hD' hS'
  rw [owns_same hm0 hm, ← hKL, ent_pad, mapD_listU _ _ _ (fun i hi => bup i (by omega))] at hm4
  have hD2 : Lib.mergeD (DataW.map (entF aK (padP ps aK.length) aK.length)) (DataW.map (entF bK psB bL.length)) = _ := hD'
  rw [hD2, size_ent] at hm4
  generalize mrgV d (5, vn, vs, aK, aL) (bK.zip bL) = o at *
  obtain ⟨ok_, on_, os_, oK, oL⟩ := o
  obtain ⟨gP, gall⟩ := hG'
  obtain ⟨sKL, sn, su, sb⟩ := hS'
  simp only at gP gall sKL sn su sb hm4
  refine valueOf_mapPart d (valueOf_any d) w4.heap.size b P' oL oK w4 (by omega) ?_ sKL (fun i hi => su i (by omega)) (fun i hi => sb i (by omega)) (fun i hi => (gall i hi).1) (Nat.le_refl _) (by omega) (fun i hi => (gall i hi).2)
  rw [mapD_listU _ _ _ (fun i hi => su i (by omega)), ← sKL]
  exact hm4.mono (by omega)
end Go.Proofs.Ytpknhmegoldppaa
