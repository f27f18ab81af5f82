/-
  Texts that a law leans on, one behind the other; no statement is proved here.
-/
import Derived.Test.YtenfnbnhdmkhkaaPk36
import Derived.Test.YtenfnbnhdmkhkaaPk38
/-
  Parts of a value that may be may be themselves: plain mathematics.
-/
namespace Go.Proofs.Ytenfnbnhdmkhkaa
open Go.RowKit
set_option linter.unusedVariables false
set_option linter.unusedSimpArgs false

theorem parts_kid_le {d : Nat} : ∀ (l : List (Vl d)) (i : Nat) (hi : i < l.length), partsV d l[i] ≤ (l.map (partsV d)).sum
  | [], i, hi => absurd hi (by simp)
  | x :: l, 0, _ => by simp
  | x :: l, i + 1, hi => by
    have := parts_kid_le l i (by simpa using hi)
    simp
    omega

/-- A deeper limit is kept at a higher place. -/
theorem good_up : ∀ (d : Nat) (v : Vl d) (a b : Nat), b ≤ a → goodB d v a = true → goodB d v b = true
  | 0, _, _, _, _, h => by simp [goodB] at h
  | d + 1, (vk, vn, vs, vK, vL), a, b, hab, h => by
    obtain ⟨h1, h2, h3⟩ := (good_succ _ _ _ _ _ _ _).1 h
    exact (good_succ _ _ _ _ _ _ _).2 ⟨by omega, h2, fun j hj => good_up d _ (a + 1) (b + 1) (by omega) (h3 j hj)⟩

theorem ok_kid {d : Nat} {v : Vl (d + 1)} (h : okB (d + 1) v = true) (i : Nat) (hi : i < v.2.2.2.2.length) : okB d v.2.2.2.2[i] = true := by
  obtain ⟨vk, vn, vs, vK, vL⟩ := v
  simp only [okB, Bool.and_eq_true, decide_eq_true_eq] at h ⊢
  obtain ⟨_, _, h3⟩ := (good_succ _ _ _ _ _ _ _).1 h.1
  refine ⟨good_up d _ 2 1 (by omega) (h3 i hi), ?_⟩
  have h4 := h.2
  have h5 : partsV (d + 1) (vk, vn, vs, vK, vL) = 1 + (vL.map (partsV d)).sum := rfl
  have := parts_kid_le vL i hi
  rw [h5] at h4
  show partsV d vL[i] ≤ 40
  omega
end Go.Proofs.Ytenfnbnhdmkhkaa
/-
  ValGet of a value that stands, as a function of the key; a box that the answer is laid into. No statement is proved here.
-/
namespace Go.Proofs.Ytenfnbnhdmkhkaa
open Go.RowKit Go.Shelf
set_option linter.unusedVariables false
set_option linter.unusedSimpArgs false

/-- What stands under a key in a map that may be. -/
def getF (d : Nat) (v : Vl (d + 1)) (key : List Int) : Option (Vl d) := if okB (d + 1) v = true ∧ v.1 = 5 ∧ 0 ≤ findK v.2.2.2.1 key then v.2.2.2.2[(findK v.2.2.2.1 key).toNat]? else none
theorem getF_yes {d k : Nat} {v : Vl (d + 1)} {key : List Int} (hok : okB (d + 1) v = true) (h5 : v.1 = 5) (hk : k < v.2.2.2.2.length) (hf : findK v.2.2.2.1 key = k) : getF d v key = some v.2.2.2.2[k] := by
  unfold getF
  rw [if_pos ⟨hok, h5, by rw [hf]; omega⟩, hf]
  simp [hk]
theorem getF_no {d : Nat} {v : Vl (d + 1)} {key : List Int} (h : ¬ (okB (d + 1) v = true ∧ v.1 = 5 ∧ 0 ≤ findK v.2.2.2.1 key)) : getF d v key = none := if_neg h

/-- What ValGet leaves: the cells of what it found (or of nothing), in blocks of its own. -/
def GtEnd (D : Nat) (W : World) (f : Option (Vl D)) (wx : World) (e : Ending) (w' : World) : Prop :=
  Below W.heap.size W w' ∧ Below wx.heap.size wx w' ∧ ∃ (gk gn : Int) (s2 : Option Addr) (n2 r2 : Nat) (s3 : Option Addr) (n3 r3 : Nat) (s4 : Option Addr) (n4 r4 : Nat), e = .returned (.tuple #[.agg #[.int .i64 gk, .int .i64 gn, .slice s2 n2 r2, .slice s3 n3 r3, .slice s4 n4 r4], .bool f.isSome]) ∧
    ∀ x, f = some x → VSeg (fun b => wx.heap.size ≤ b ∧ b < w'.heap.size) w' D (.int .i64 gk, .int .i64 gn, .slice s2 n2 r2, .slice s3 n3 r3, .slice s4 n4 r4) x
theorem Std.gt {D : Nat} {W : World} {g : Nat} {a : Value × Value × Value × Value × Value} {va : Vl (D + 1)} {ka : Option Addr} {kc : Nat} {key : List Int} (ha : Std (D + 1) W g a va) (hS : Seg W ka key) (hSb : ∀ x, ka = some x → key ≠ [] → x.block < W.heap.size) (hl : key.length ≤ maxLen) : ∀ wx, Below W.heap.size W wx →
    Calls Try.prog 15 #[av a, .slice ka key.length kc] wx (GtEnd D W (getF D va key) wx) := fun wx h =>
  (impl_ValGet_any D W.heap.size _ _ _ _ _ va ka kc key wx (ha.seg wx h) h.size (hS.below h hSb) (fun x hx hne => Nat.lt_of_lt_of_le (hSb x hx hne) h.size) hl).mono fun e w' ⟨hk, he⟩ => by
    refine ⟨below_out h hk, hk, ?_⟩
    rcases he with ⟨k, hk', hok, h5, hf, u0, u1, u2, u3, u4, rfl, B, hO, hB⟩ | ⟨hn, rfl⟩
    · rw [getF_yes hok h5 hk' hf]
      obtain ⟨gk, gn, s2, n2, r2, s3, n3, r3, s4, n4, r4, rfl, rfl, rfl, rfl, rfl⟩ := VOwn.form D hO
      refine ⟨gk, gn, s2, n2, r2, s3, n3, r3, s4, n4, r4, rfl, fun x hx => ?_⟩
      obtain rfl : va.2.2.2.2[k] = x := by simpa using hx
      exact VSeg.mono (fun b hb => hB b hb) D (VOwn.seg D hO)
    · rw [getF_no hn]
      exact ⟨_, _, _, _, _, _, _, _, _, _, _, rfl, fun x hx => by simp at hx⟩

/-- A box that ValGet's answer was laid into, behind all that was there. -/
def Got (D : Nat) (W : World) (f : Option (Vl D)) (g : Nat) (c : Value × Value × Value × Value × Value) (w' : World) : Prop :=
  Below W.heap.size W w' ∧ W.heap.size ≤ g ∧ w'.heap[g]? = some (bx c) ∧ ∀ x, f = some x → VSeg (fun b => b < w'.heap.size) w' D c x
theorem got_store {D g n : Nat} {W V : World} {f : Option (Vl D)} {c0 c1 c2 c3 c4 : Value} (hb : Below W.heap.size W V) (hg : W.heap.size ≤ g) (hr : V.heap[g]? = some (.cells #[.int .i64 0, .int .i64 0, .slice none 0 0, .slice none 0 0, .slice none 0 0] 26 (0, 0))) (hv : ∀ x, f = some x → VSeg (fun b => n ≤ b ∧ b < V.heap.size ∧ b ≠ g) V D (c0, c1, c2, c3, c4) x) :
    Got D W f g (c0, c1, c2, c3, c4) (set5 V g 0 c0 c1 c2 c3 c4) := by
  have hs := set5_grown V g 0 c0 c1 c2 c3 c4
  have hz := set5_size V g 0 c0 c1 c2 c3 c4
  have ho := set5_other V g 0 c0 c1 c2 c3 c4
  refine ⟨hb.grown hs hb.size (by intro j hj; simp at hj; omega), hg, set5_row c0 c1 c2 c3 c4 hr, fun x hx => ?_⟩
  exact VSeg.mono (fun b hb => by rw [hz]; exact hb.2.1) D (VSeg.agree (fun b hb => ho b hb.2.2) D (hv x hx))
theorem Got.std {D g : Nat} {W w' : World} {x : Vl D} {f : Option (Vl D)} {c : Value × Value × Value × Value × Value} (h : Got D W f g c w') (hf : f = some x) : Std D w' g c x := Std.of h.2.2.1 (h.2.2.2 x hf)
/-- Behind a call, when the box was made behind it .. -/
theorem gt_new {D n : Nat} {V : World} {f : Option (Vl D)} {c : Value × Value × Value × Value × Value} (o : Obj) (h : ∀ x, f = some x → VSeg (fun b => n ≤ b ∧ b < V.heap.size) V D c x) : ∀ x, f = some x → VSeg (fun b => n ≤ b ∧ b < (V.alloc o).heap.size ∧ b ≠ V.heap.size) (V.alloc o) D c x := fun x hx =>
  VSeg.mono (fun b hb => ⟨hb.1, by simp; omega, by omega⟩) D (VSeg.agree (fun b hb => Below.heap_alloc V o b hb.2) D (h x hx))
/-- .. and when it was made ahead of it. -/
theorem gt_old {D n g : Nat} {V : World} {f : Option (Vl D)} {c : Value × Value × Value × Value × Value} (h : ∀ x, f = some x → VSeg (fun b => n ≤ b ∧ b < V.heap.size) V D c x) (hg : g < n) : ∀ x, f = some x → VSeg (fun b => n ≤ b ∧ b < V.heap.size ∧ b ≠ g) V D c x := fun x hx =>
  VSeg.mono (fun b hb => ⟨hb.1, hb.2, by omega⟩) D (h x hx)

/-- An answer that was laid into a box: it stands. -/
theorem Std.box {D : Nat} {W w' : World} {v : Vl D} {c : Value × Value × Value × Value × Value} (hb : Below W.heap.size W w') (hv : VSeg (fun b => b < w'.heap.size) w' D c v) : Std D (w'.alloc (bx c)) w'.heap.size c v ∧ Below W.heap.size W (w'.alloc (bx c)) := by
  have hbm : Below w'.heap.size w' (w'.alloc (bx c)) := (Below.refl _ _).alloc (Nat.le_refl _) _
  exact ⟨Std.of (heap_alloc_new w' _) (VSeg.mono (fun b hb => Nat.lt_of_lt_of_le hb hbm.size) _ (VSeg.agree (agree_below hbm) _ hv)), Below.on2 hb hbm hb.size⟩

theorem same_true {D : Nat} {x : Vl D} (h : okB D x = true) : sameV D x x = true := by simp [sameV, h]

/-- All that FnMerges asks of a key of the merged map. -/
theorem mgd_get {D : Nat} {a b m : Vl (D + 1)} (h : Mgd D a b m) {i : Nat} (hi : i < m.2.2.2.2.length) :
    getF D m (m.2.2.2.1.getD i []) = some m.2.2.2.2[i] ∧ sameV D m.2.2.2.2[i] m.2.2.2.2[i] = true ∧ (getF D b (m.2.2.2.1.getD i []) = some m.2.2.2.2[i] ∨ (getF D b (m.2.2.2.1.getD i []) = none ∧ getF D a (m.2.2.2.1.getD i []) = some m.2.2.2.2[i])) := by
  refine ⟨getF_yes h.ok h.kind hi (h.find i hi), same_true ?_, ?_⟩
  · exact ok_kid h.ok i hi
  · rcases h.from' i hi with ⟨j, hj, e1, e2⟩ | ⟨e1, j, hj, e2, e3⟩
    · exact .inl (by rw [getF_yes h.okB'.1 h.okB'.2 hj e1, e2])
    · refine .inr ⟨getF_no fun hh => ?_, by rw [getF_yes h.okA.1 h.okA.2 hj e2, e3]⟩
      rw [e1] at hh
      exact absurd hh.2.2 (by decide)
/-- .. likewise against any later world. -/
theorem Std.gt_on {D : Nat} {W : World} {g : Nat} {a : Value × Value × Value × Value × Value} {va : Vl (D + 1)} {ka : Option Addr} {kc : Nat} {key : List Int} (ha : Std (D + 1) W g a va) (hS : Seg W ka key) (hSb : ∀ x, ka = some x → key ≠ [] → x.block < W.heap.size) (hl : key.length ≤ maxLen) : ∀ U, Below W.heap.size W U → ∀ wx, Below U.heap.size U wx →
    Calls Try.prog 15 #[av a, .slice ka key.length kc] wx (GtEnd D U (getF D va key) wx) := fun U hU =>
  (ha.on hU).gt (hS.below hU hSb) (fun x hx hne => Nat.lt_of_lt_of_le (hSb x hx hne) hU.size) hl

/-- The keys of a row of keys that stands: each text's slice, its reading and its conversion in every later world. -/
theorem keys_at {W : World} {a : Option Addr} {n cap : Nat} {ks : List (List Int)} (h : KSeg (fun b => b < W.heap.size) W (.slice a n cap) ks) {j : Nat} (hj : j < ks.length) :
    ∃ b off, a = some ⟨b, off, none⟩ ∧ ∀ i, i < ks.length → ∃ a2 c2, (∀ wx, Below W.heap.size W wx → wx.cell? ⟨b, off + i, none⟩ = some (.slice a2 (ks.getD i []).length c2)) ∧ Seg W a2 (ks.getD i []) ∧ (∀ x, a2 = some x → ks.getD i [] ≠ [] → x.block < W.heap.size) ∧ (ks.getD i []).length ≤ maxLen ∧
      ∀ wx, Below W.heap.size W wx → (convert 22 9 (.slice a2 (ks.getD i []).length c2)).run Try.prog wx = .ok (.string (strOf (ks.getD i []))) wx := by
  obtain ⟨a', cap', h1, h2, h3, h4, h5⟩ := h
  simp only [Value.slice.injEq] at h1
  obtain ⟨rfl, _, _⟩ := h1
  rcases h5 with h0 | ⟨b, off, rfl, hb, hc⟩
  · subst h0; simp at hj
  · refine ⟨b, off, rfl, fun i hi => ?_⟩
    obtain ⟨u, hu, a2, c2, rfl, s2, l2, m2, _, r2⟩ := hc i hi
    exact ⟨a2, c2, fun wx hx => (hx.cell (p := ⟨b, off + i, none⟩) hb).trans hu, s2, r2, Nat.le_trans l2 m2, fun wx hx => conv_seg c2 (s2.below hx r2)⟩
end Go.Proofs.Ytenfnbnhdmkhkaa
