/-
  Texts that a law leans on, one behind the other; no statement is proved here.
-/
import Derived.Test.YtfokidhamjphfaaDoorPk31
import Derived.Test.YtfokidhamjphfaaDoorPk21
/-
  markValue of the laws over a value of the call's own; heldValueS and heldValue find the running numbers there.
-/
namespace Go.Proofs.YtfokidhamjphfaaDoor
open Go.RowKit
set_option linter.unusedVariables false
set_option linter.unusedSimpArgs false

set_option maxHeartbeats 3200000 in
theorem markValue_any (d : Nat) (c0 c1 c2 c3 c4 : Value) (v : Vl (d + 1)) (B : List Nat) (m : Nat) (w : World) (h : VOwn w (d + 1) (c0, c1, c2, c3, c4) v B) (hs : szV (d + 1) v ≤ 1048576) (hm : m + cV d v ≤ 1125899906842624) :
    Calls Tryd.prog 19 #[.agg #[c0, c1, c2, c3, c4], .int .i64 m] w fun e w' => e = .returned (.int .i64 ((m + cV d v : Nat) : Int)) ∧ VOwn w' (d + 1) (c0, c1, c2, c3, c4) (mkV d v m) B ∧ Turned B w w' := by
  obtain ⟨vk, vn, vS, vK, vL⟩ := v
  obtain ⟨e0, e1, Bs, Bk, Bl, ht, hkk, hll, hB, hnd0⟩ := (VOwn_succ _ _ _ _ _).1 h
  simp only at e0 e1 ht hkk hll
  subst hB
  have hz' : szV (d + 1) (vk, vn, vS, vK, vL) = vS.length + szK vK + szL d vL := rfl
  have hc' : cV d (vk, vn, vS, vK, vL) = vS.length + (vK.map List.length).sum + (vL.map (cE d)).sum := rfl
  have hkz : szK vK = vK.length + (vK.map List.length).sum := rfl
  have hlt : ∀ b ∈ Bs ++ (Bk ++ Bl), b < w.heap.size := VOwn.lt (d + 1) h
  have hnd : (w.heap.size :: (Bs ++ (Bk ++ Bl))).Nodup := by
    rw [List.nodup_cons]
    exact ⟨fun hm => by have := hlt _ hm; omega, hnd0⟩
  have hal : Below w.heap.size w (w.alloc (.cells #[c0, c1, c2, c3, c4] 26)) := (Below.refl _ _).alloc (Nat.le_refl _) _
  have hst : MkSt (w.alloc (.cells #[c0, c1, c2, c3, c4] 26)) w.heap.size #[c0, c1, c2, c3, c4] d c2 c3 c4 vS vK vL Bs Bk Bl (w.alloc (.cells #[c0, c1, c2, c3, c4] 26)) :=
    ⟨ht.agree fun b hb => hal.block b (ht.lt b hb), hkk.agree fun b hb => hal.block b (hkk.lt b hb), LOwn.agree hll fun b hb => hal.block b (hll.lt b hb), (MapKept.heap_alloc w _).1, Turned.refl _ _⟩
  obtain ⟨sa, sc, rfl, _⟩ := ht.1.shape
  have hkf : ∃ ka kc, c3 = .slice ka vK.length kc := by
    rcases hkk with ⟨e, e', _⟩ | ⟨_, _, _, _, e, _⟩
    · exact ⟨none, 0, by rw [e, e']; rfl⟩
    · exact ⟨_, _, e⟩
  obtain ⟨ka, kc, rfl⟩ := hkf
  have hlf : ∃ la lc, c4 = .slice la vL.length lc := by
    rcases hll with ⟨e, e', _⟩ | ⟨_, _, _, _, e, _⟩
    · exact ⟨none, 0, by rw [e, e']; rfl⟩
    · exact ⟨_, _, e⟩
  obtain ⟨la, lc, rfl⟩ := hlf
  have HM1 : Hid (Calls Tryd.prog 20 #[.slice sa vS.length sc, .int .i64 m] (w.alloc (.cells #[c0, c1, .slice sa vS.length sc, .slice ka vK.length kc, .slice la vL.length lc] 26)) fun e w' => e = .returned (.int .i64 ((m : Int) + vS.length)) ∧ w'.cell? ⟨w.heap.size, 3, none⟩ = some (.slice ka vK.length kc) ∧ Hid (MkSt (w.alloc (.cells #[c0, c1, .slice sa vS.length sc, .slice ka vK.length kc, .slice la vL.length lc] 26)) w.heap.size #[c0, c1, .slice sa vS.length sc, .slice ka vK.length kc, .slice la vL.length lc] d (.slice sa vS.length sc) (.slice ka vK.length kc) (.slice la vL.length lc) (marks m vS.length) vK vL Bs Bk Bl w')) := by
    refine (markByteS_F sa sc vS m _ hst.1.1 (by omega) (by omega)).mono ?_
    rintro e w' ⟨rfl, hb, hg⟩
    have h' := hst.text hnd (hst.1.marked hb) (hst.1.turned hg)
    exact ⟨ret_i64 (by push_cast; rfl), by rw [cell_of_row w' _ _ _ _ (0, 0) h'.2.2.2.1]; rfl, h'⟩
  have HM2 : Hid (∀ w1, Hid (MkSt (w.alloc (.cells #[c0, c1, .slice sa vS.length sc, .slice ka vK.length kc, .slice la vL.length lc] 26)) w.heap.size #[c0, c1, .slice sa vS.length sc, .slice ka vK.length kc, .slice la vL.length lc] d (.slice sa vS.length sc) (.slice ka vK.length kc) (.slice la vL.length lc) (marks m vS.length) vK vL Bs Bk Bl w1) → Calls Tryd.prog 42 #[.slice ka vK.length kc, .int .i64 ((m : Int) + vS.length)] w1 fun e w' => e = .returned (.int .i64 ((m : Int) + vS.length + ((vK.map List.length).sum : Nat))) ∧ w'.cell? ⟨w.heap.size, 4, none⟩ = some (.slice la vL.length lc) ∧ Hid (MkSt (w.alloc (.cells #[c0, c1, .slice sa vS.length sc, .slice ka vK.length kc, .slice la vL.length lc] 26)) w.heap.size #[c0, c1, .slice sa vS.length sc, .slice ka vK.length kc, .slice la vL.length lc] d (.slice sa vS.length sc) (.slice ka vK.length kc) (.slice la vL.length lc) (marks m vS.length) (mkKs vK (m + vS.length)) vL Bs Bk Bl w')) := by
    intro w1 h1
    refine arg_eq (x := ((m + vS.length : Nat) : Int)) (by push_cast; rfl) ((markByteSS_any _ vK Bk (m + vS.length) w1 h1.out.2.1 (by omega) (by omega)).mono ?_)
    rintro e w' ⟨rfl, hb, hg⟩
    have h' := h1.out.keys hnd hb hg
    exact ⟨ret_i64 (by push_cast; rfl), by rw [cell_of_row w' _ _ _ _ (0, 0) h'.2.2.2.1]; rfl, h'⟩
  have HM3 : Hid (∀ w1, Hid (MkSt (w.alloc (.cells #[c0, c1, .slice sa vS.length sc, .slice ka vK.length kc, .slice la vL.length lc] 26)) w.heap.size #[c0, c1, .slice sa vS.length sc, .slice ka vK.length kc, .slice la vL.length lc] d (.slice sa vS.length sc) (.slice ka vK.length kc) (.slice la vL.length lc) (marks m vS.length) (mkKs vK (m + vS.length)) vL Bs Bk Bl w1) → Calls Tryd.prog 43 #[.slice la vL.length lc, .int .i64 ((m : Int) + vS.length + ((vK.map List.length).sum : Nat))] w1 fun e w' => e = .returned (.int .i64 ((m : Int) + vS.length + ((vK.map List.length).sum : Nat) + ((vL.map (cE d)).sum : Nat))) ∧ Hid (VOwn w' (d + 1) (c0, c1, .slice sa vS.length sc, .slice ka vK.length kc, .slice la vL.length lc) (mkV d (vk, vn, vS, vK, vL) m) (Bs ++ (Bk ++ Bl))) ∧ Hid (Turned (Bs ++ (Bk ++ Bl)) w w')) := by
    intro w1 h1
    refine arg_eq (x := ((m + vS.length + (vK.map List.length).sum : Nat) : Int)) (by push_cast; rfl) ((markValueS_any d _ vL Bl (m + vS.length + (vK.map List.length).sum) w1 h1.out.2.2.1 (by omega) (by omega)).mono ?_)
    rintro e w' ⟨rfl, hb, hg⟩
    obtain ⟨g1, g2, g3, g4, g5⟩ := h1.out.list hnd hb hg
    refine ⟨ret_i64 (by push_cast; rfl), ?_, ?_⟩
    · exact (VOwn_succ _ _ _ _ _).2 ⟨e0, e1, Bs, Bk, Bl, g1, g2, g3, rfl, hnd0⟩
    · refine ⟨g5.os.trans hal.os, g5.tape.trans hal.tape, g5.output.trans hal.output, Nat.le_trans hal.size g5.size, fun b hb hn => ?_⟩
      refine (g5.block b (Nat.lt_of_lt_of_le hb hal.size) fun hm => ?_).trans (hal.block b hb)
      rcases List.mem_cons.1 hm with rfl | hm
      · omega
      · exact hn hm
  have HO : Hid (m + cV d (vk, vn, vS, vK, vL) = m + vS.length + (vK.map List.length).sum + (vL.map (cE d)).sum) := by show m + cV d (vk, vn, vS, vK, vL) = _; omega
  generalize cV d (vk, vn, vS, vK, vL) = tot at *
  clear hst ht hkk hll h hnd hnd0 hal hlt hz' hc' hkz hs e0 e1
  generalize (vK.map List.length).sum = nK at *
  generalize (vL.map (cE d)).sum = nL at *
  generalize vS.length = nS at *
  generalize vK.length = kK at *
  generalize vL.length = kL at *
  have hbig : m + nS + nK + nL ≤ 1125899906842624 := by have := HO.out; omega
  go_enter Tryd.func19, Tryd.ntmps19
  go_wp2_with fail
  refine HM1.out.mono ?_
  rintro e w1 ⟨rfl, z3, hS1⟩
  have HM2' := hide' (HM2.out w1 hS1)
  clear HM1 HM2
  go_wp2_with fail
  refine HM2'.out.mono ?_
  rintro e w2 ⟨rfl, z4, hS2⟩
  have HM3' := hide' (HM3.out w2 hS2)
  clear z3 hS1 HM2' HM3
  go_wp2_with fail
  refine HM3'.out.mono ?_
  rintro e w3 ⟨rfl, hK', hT'⟩
  clear z4 hS2 HM3'
  go_wp2
  go_ret
  exact ⟨ret_i64 (by rw [HO.out]; push_cast; rfl), hK'.out, hT'.out⟩
end Go.Proofs.YtfokidhamjphfaaDoor
/-
  What an expression that may be is, by its depth: 'goodE'; how many parts it has: 'partsV'; what the specification's l6expr answers: 'okE'. Plain mathematics.
-/
namespace Go.Proofs.YtfokidhamjphfaaDoor
open Go.RowKit
set_option linter.unusedVariables false
set_option linter.unusedSimpArgs false

/-- How many kids a kind has; -1: any. -/
def arI (k : Int) : Int := if k = 4 ∨ k = 5 ∨ k = 23 then -1 else if k = 8 ∨ k = 13 ∨ k = 14 then 1 else if k = 9 ∨ (15 ≤ k ∧ k ≤ 21) then 2 else if k = 22 then 3 else 0
/-- The greatest N of a kind. -/
def mostI (k : Int) : Int := if k = 1 then 1 else if k = 2 then 1000000000000 else 0
/-- What the S of a kind is: 0 nothing, 1 a text, 2 a name, 3 a word. -/
def saysI (k : Int) : Int := if k = 3 then 1 else if k = 6 ∨ k = 8 then 2 else if k = 7 ∨ k = 23 then 3 else 0
/-- The names that are kept. -/
def keptS : List ByteArray := [⟨#[110, 117, 108, 108]⟩, ⟨#[116, 114, 117, 101]⟩, ⟨#[102, 97, 108, 115, 101]⟩, ⟨#[105, 110, 100, 101, 120]⟩, ⟨#[107, 101, 121]⟩, ⟨#[118, 97, 108]⟩, ⟨#[108, 111, 99, 97, 108]⟩, ⟨#[114, 101, 115]⟩, ⟨#[111, 117, 116]⟩, ⟨#[99, 111, 117, 110, 116]⟩, ⟨#[101, 97, 99, 104]⟩]
def keptB (s : List Int) : Bool := keptS.any fun u => (strOf s).toList == u.toList
/-- A word. -/
def wordB (s : List Int) : Bool := nameB s && !keptB s
def saysB (c : Int) (s : List Int) : Bool := if c = 1 then textB s else if c = 2 then nameB s else if c = 3 then wordB s else decide (s.length = 0)
/-- The keys of a kind. -/
def keysB (k : Int) (K : List (List Int)) (nL : Nat) : Bool := if k = 5 then decide (K.length = nL) && ascB K else decide (K.length = 0)
/-- The kids of a kind. -/
def kidsB (k : Int) (nL : Nat) : Bool := decide (arI k = -1) || decide (arI k = nL)
/-- The rules of one part by itself. -/
def shpB (k n : Int) (s : List Int) (K : List (List Int)) (nL : Nat) : Bool :=
  decide (0 ≤ k) && decide (k ≤ 23) && keysB k K nL && kidsB k nL && decide (0 ≤ n) && decide (n ≤ mostI k) && saysB (saysI k) s

/-- The rules of all parts, and of the depth. -/
def goodE : (d : Nat) → Vl d → Nat → Bool
  | 0, _, _ => false
  | d + 1, v, deep => decide (deep ≤ 10) && (shpB v.1 v.2.1 v.2.2.1 v.2.2.2.1 v.2.2.2.2.length && v.2.2.2.2.all fun x => goodE d x (deep + 1))

/-- How many parts. -/
def partsE : (d : Nat) → Vl d → Nat
  | 0, _ => 0
  | d + 1, v => 1 + (v.2.2.2.2.map (partsE d)).sum

/-- What l6expr answers. -/
def okE (d : Nat) (v : Vl d) (deep : Nat) (left : Int) : Int := if goodE d v deep = true ∧ (partsE d v : Int) ≤ left then left - partsE d v else -1

theorem okE_yes {d : Nat} {v : Vl d} {deep : Nat} {left : Int} (h : goodE d v deep = true) (h2 : (partsE d v : Int) ≤ left) : okE d v deep left = left - partsE d v := by simp [okE, h, h2]
theorem okE_no {d : Nat} {v : Vl d} {deep : Nat} {left : Int} (h : ¬ (goodE d v deep = true ∧ (partsE d v : Int) ≤ left)) : okE d v deep left = -1 := by simp only [okE, h, if_false]

theorem goodE_succ (d : Nat) (vk vn : Int) (vs : List Int) (vK : List (List Int)) (vL : List (Vl d)) (deep : Nat) :
    goodE (d + 1) (vk, vn, vs, vK, vL) deep = true ↔ deep ≤ 10 ∧ shpB vk vn vs vK vL.length = true ∧ ∀ j (h : j < vL.length), goodE d vL[j] (deep + 1) = true := by
  show (decide (deep ≤ 10) && (shpB vk vn vs vK vL.length && vL.all fun x => goodE d x (deep + 1))) = true ↔ _
  simp only [Bool.and_eq_true, decide_eq_true_eq, List.all_eq_true]
  constructor
  · rintro ⟨h1, h2, h3⟩
    exact ⟨h1, h2, fun j h => h3 _ (List.getElem_mem h)⟩
  · rintro ⟨h1, h2, h3⟩
    refine ⟨h1, h2, fun x hx => ?_⟩
    obtain ⟨j, h, rfl⟩ := List.getElem_of_mem hx
    exact h3 j h

theorem partsE_succ (d : Nat) (vk vn : Int) (vs : List Int) (vK : List (List Int)) (vL : List (Vl d)) : partsE (d + 1) (vk, vn, vs, vK, vL) = 1 + pre (partsE d) vL vL.length := by
  rw [pre_all]
  rfl

theorem partsE_pos (d : Nat) (v : Vl (d + 1)) : 1 ≤ partsE (d + 1) v := by
  obtain ⟨vk, vn, vs, vK, vL⟩ := v
  rw [partsE_succ]
  omega

theorem okE_left {d : Nat} (v : Vl (d + 1)) (deep : Nat) {left : Int} (h : left < 1) : okE (d + 1) v deep left = -1 :=
  okE_no fun ⟨_, h2⟩ => by have := partsE_pos d v; omega

theorem okE_deep {d : Nat} (v : Vl (d + 1)) {deep : Nat} (left : Int) (h : 10 < deep) : okE (d + 1) v deep left = -1 := by
  obtain ⟨vk, vn, vs, vK, vL⟩ := v
  exact okE_no fun ⟨h1, _⟩ => by have := ((goodE_succ _ _ _ _ _ _ _).1 h1).1; omega

theorem okE_shape {d : Nat} {vk vn : Int} {vs : List Int} {vK : List (List Int)} {vL : List (Vl d)} (deep : Nat) (left : Int) (h : shpB vk vn vs vK vL.length = false) : okE (d + 1) (vk, vn, vs, vK, vL) deep left = -1 :=
  okE_no fun ⟨h1, _⟩ => by have := ((goodE_succ _ _ _ _ _ _ _).1 h1).2.1; rw [h] at this; simp at this

theorem okE_kid {d : Nat} {vk vn : Int} {vs : List Int} {vK : List (List Int)} {vL : List (Vl d)} {deep : Nat} {left : Int} {k : Nat} (hk : k < vL.length)
    (h : ¬ (goodE d vL[k] (deep + 1) = true ∧ (partsE d vL[k] : Int) ≤ left - 1 - pre (partsE d) vL k)) : okE (d + 1) (vk, vn, vs, vK, vL) deep left = -1 := by
  refine okE_no fun ⟨h1, h2⟩ => h ⟨((goodE_succ _ _ _ _ _ _ _).1 h1).2.2 k hk, ?_⟩
  rw [partsE_succ] at h2
  have h3 := pre_succ (partsE d) vL k hk
  have h4 := pre_le (partsE d) vL (k + 1)
  have h5 := pre_all (partsE d) vL
  omega

theorem okE_all {d : Nat} {vk vn : Int} {vs : List Int} {vK : List (List Int)} {vL : List (Vl d)} {deep : Nat} {left : Int} (h1 : deep ≤ 10) (h2 : shpB vk vn vs vK vL.length = true)
    (h3 : ∀ j (h : j < vL.length), goodE d vL[j] (deep + 1) = true) (h4 : (pre (partsE d) vL vL.length : Int) ≤ left - 1) : okE (d + 1) (vk, vn, vs, vK, vL) deep left = left - 1 - pre (partsE d) vL vL.length := by
  rw [okE_yes ((goodE_succ _ _ _ _ _ _ _).2 ⟨h1, h2, h3⟩) (by rw [partsE_succ]; omega), partsE_succ]
  omega

/-- What holds ahead of the round k of l6expr. -/
def E6K (d : Nat) (vL : List (Vl d)) (deep : Nat) (left : Int) (k : Nat) (l : Value) : Prop :=
  k ≤ vL.length ∧ l = .int .i64 (left - 1 - pre (partsE d) vL k) ∧ (pre (partsE d) vL k : Int) ≤ left - 1 ∧ ∀ j (h : j < vL.length), j < k → goodE d vL[j] (deep + 1) = true

theorem E6K_zero {d : Nat} {vL : List (Vl d)} {deep : Nat} {left : Int} (h : 1 ≤ left) : E6K d vL deep left 0 (.int .i64 (left - 1)) :=
  ⟨Nat.zero_le _, by rw [pre_zero]; simp, by rw [pre_zero]; simp; omega, fun j _ h => by omega⟩

theorem E6K_succ {d : Nat} {vL : List (Vl d)} {deep : Nat} {left : Int} {k : Nat} {l : Value} (h : E6K d vL deep left k l) (hk : k < vL.length) (hg : goodE d vL[k] (deep + 1) = true) (hp : (partsE d vL[k] : Int) ≤ left - 1 - pre (partsE d) vL k) :
    E6K d vL deep left (k + 1) (.int .i64 (left - 1 - pre (partsE d) vL k - partsE d vL[k])) := by
  have h3 := pre_succ (partsE d) vL k hk
  refine ⟨hk, by rw [h3]; simp; omega, by rw [h3]; simp; omega, fun j hj hjk => ?_⟩
  by_cases e : j = k
  · subst e; exact hg
  · exact h.2.2.2 j hj (by omega)

/-- What ExprOk answers. -/
def exprB (d : Nat) (v : Vl d) : Bool := goodE d v 1 && decide (partsE d v ≤ 150)

theorem okE_exprB (d : Nat) (v : Vl d) : (exprB d v = true → 0 ≤ okE d v 1 150 ∧ okE d v 1 150 ≤ 150) ∧ (exprB d v = false → okE d v 1 150 = -1) := by
  constructor
  · intro h
    simp [exprB] at h
    rw [okE_yes h.1 (by omega)]
    omega
  · intro h
    refine okE_no fun ⟨h1, h2⟩ => ?_
    simp [exprB, h1] at h
    omega
end Go.Proofs.YtfokidhamjphfaaDoor
