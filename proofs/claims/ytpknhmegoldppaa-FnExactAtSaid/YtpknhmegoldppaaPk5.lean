/-
  Texts that a law leans on, one behind the other; no statement is proved here.
-/
import Derived.Test.YtpknhmegoldppaaPk4
/-
  heldValueS and heldValue of the laws: they find the running numbers in values that were marked.
-/
namespace Go.Proofs.Ytpknhmegoldppaa
open Go.RowKit
set_option linter.unusedVariables false
set_option linter.unusedSimpArgs false

theorem mkLs_at {α : Type} (f : α → Nat → α) (c : α → Nat) : ∀ (l : List α) (k i : Nat) (h : i < l.length), (mkLs f c l k)[i]'(by rw [length_mkLs]; exact h) = f l[i] (k + pre c l i)
  | [], _, _, h => by simp at h
  | x :: r, k, 0, _ => by simp [mkLs, pre]
  | x :: r, k, i + 1, h => by
    have ih := mkLs_at f c r (k + c x) i (by simpa using h)
    have e : pre c (x :: r) (i + 1) = c x + pre c r i := by simp [pre]
    simp only [mkLs, List.getElem_cons_succ]
    rw [ih, e, Nat.add_assoc]

theorem LSeg.num {R : Nat → Prop} {w : World} {d : Nat} {a : Option Addr} {n cap : Nat} {l : List (Vl d)} (h : LSeg R w d (.slice a n cap) l) {k : Nat} (hk : k < l.length) :
    ∃ b off c0 c1 c2 c3 c4, a = some ⟨b, off, none⟩ ∧ R b ∧ Five w b (off + k * 5) (c0, c1, c2, c3, c4) ∧ VSeg R w d (c0, c1, c2, c3, c4) (l[k]) := by
  obtain ⟨a', cap', g1, _, _, _, g5⟩ := h
  simp only [Value.slice.injEq] at g1
  obtain ⟨rfl, _, _⟩ := g1
  rcases g5 with e | ⟨b, off, hb, hR, hc⟩
  · rw [e] at hk; simp at hk
  · obtain ⟨⟨c0, c1, c2, c3, c4⟩, he, hv⟩ := hc k hk
    exact ⟨b, off, c0, c1, c2, c3, c4, hb, hR, he, hv⟩

/-- The contract of heldValueS at depth d. -/
def HdAt (d : Nat) : Prop := ∀ (N : Nat) (x : Value) (l : List (Vl d)) (m : Nat) (w : World), LSeg (fun b => b < N) w d x (mkLs (mkE d) (cE d) l m) → N ≤ w.heap.size → szL d l ≤ 1048576 → m + (l.map (cE d)).sum ≤ 1125899906842624 →
  Calls Try.prog 42 #[x, .int .i64 m] w fun e w' => e = .returned (.int .i64 ((m + (l.map (cE d)).sum : Nat) : Int)) ∧ Below w.heap.size w w'

theorem keep5 {w wx : World} {N b o : Nat} {c : Value × Value × Value × Value × Value} (hb : b < N) (h : Below N w wx) (h5 : Five w b o c) : Five wx b o c := h5.agree (agree_below h) hb

set_option maxHeartbeats 6400000 in
theorem heldValueS_succ (d : Nat) (ih : HdAt d) : HdAt (d + 1) := by
  intro N x l m w h hN hs hm
  have H0 := hide' h
  obtain ⟨a, c, rfl, _⟩ := h
  rw [length_mkLs] at H0 ⊢
  have hsl : szL (d + 1) l = l.length + (l.map (szV (d + 1))).sum := rfl
  have HP : Hid (∀ k (hk : k < l.length), pre (cE (d + 1)) l (k + 1) = pre (cE (d + 1)) l k + cE (d + 1) l[k]) := fun k hk => pre_succ (cE (d + 1)) l k hk
  have HL : Hid (∀ k, pre (cE (d + 1)) l k ≤ (l.map (cE (d + 1))).sum) := pre_le (cE (d + 1)) l
  have HA : Hid (pre (cE (d + 1)) l l.length = (l.map (cE (d + 1))).sum) := pre_all _ _
  have HZ : Hid (∀ k (hk : k < l.length), szV (d + 1) l[k] ≤ 1048576) := fun k hk => Nat.le_trans (sz_elem hk) hs
  have HI := hide' ih
  have hn : l.length ≤ 1048576 := by omega
  generalize hS : (l.map (cE (d + 1))).sum = S at *
  clear hs hsl ih hS
  go_enter Try.func42, Try.ntmps42
  go_wp2
  go_loopw [1, 5] (fun m' i wr => ∃ k : Nat, k ≤ l.length ∧ i = .int .i64 k ∧ m' = .int .i64 ((m + pre (cE (d + 1)) l k : Nat) : Int) ∧ Below w.heap.size w wr) (fun _ i _ => l.length - (intOf i).toNat)
  case atStart => exact ⟨0, Nat.zero_le _, rfl, by rw [pre_zero]; simp, Below.refl _ _⟩
  case round =>
    obtain ⟨k, hk, rfl, rfl, hbel⟩ := hrel
    have hpk := HL.out k
    have hsz := hbel.size
    by_cases hlt : k < l.length
    · have hlt' : (k : Int) < (l.length : Int) := by omega
      have hps := HP.out k hlt
      have hpk1 := HL.out (k + 1)
      have hz := HZ.out k hlt
      obtain ⟨b, off, c0, c1, c2, c3, c4, rfl, hb, h5, hv⟩ := (H0.out.agree (agree_below (hbel.mono hN))).num (k := k) (by rw [length_mkLs]; exact hlt)
      rw [mkLs_at (mkE (d + 1)) (cE (d + 1)) l m k hlt] at hv
      have hlk : ∃ (vk vn : Int) (vS : List Int) (vK : List (List Int)) (vL : List (Vl d)), l[k] = (vk, vn, vS, vK, vL) := ⟨_, _, _, _, _, rfl⟩
      obtain ⟨vk, vn, vS, vK, vL, hlk⟩ := hlk
      rw [hlk] at hv hz hps
      generalize hq : pre (cE (d + 1)) l k = q at *
      have hz' : szV (d + 1) (vk, vn, vS, vK, vL) = vS.length + szK vK + szL d vL := rfl
      have hc' : cE (d + 1) (vk, vn, vS, vK, vL) = 2 + (vS.length + ((vK.map List.length).sum + (vL.map (cE d)).sum)) := rfl
      have hkz : szK vK = vK.length + (vK.map List.length).sum := rfl
      obtain ⟨e0, e1, htt, hkk, hll⟩ := (VSeg_succ _ _ _ _ _).1 hv
      have e0' : c0 = .int .i64 ((m : Int) + q) := by have h := e0; simpa [mkE] using h
      have e1' : c1 = .int .i64 ((m : Int) + q + 1) := by have h := e1; simpa [mkE] using h
      subst e0'
      subst e1'
      have htt' : TSeg (fun b => b < N) wr c2 (marks (m + q + 2) vS.length) := htt
      have hkk' : KSeg (fun b => b < N) wr c3 (mkKs vK (m + q + 2 + vS.length)) := hkk
      have hll' : LSeg (fun b => b < N) wr d c4 (mkLs (mkE d) (cE d) vL (m + q + 2 + vS.length + (vK.map List.length).sum)) := hll
      have h5F : Hid (∀ wx, Below wr.heap.size wr wx → Five wx b (off + k * 5) (.int .i64 ((m : Int) + q), .int .i64 ((m : Int) + q + 1), c2, c3, c4)) := fun wx hx => keep5 hb (hx.mono (by omega)) h5
      obtain ⟨sa, sc, rfl, hseg, _⟩ := htt'
      rw [length_marks] at h5 h5F
      have hkf : ∃ ka kc, c3 = .slice ka vK.length kc := by
        obtain ⟨ka, kc, e, _⟩ := hkk'
        exact ⟨ka, kc, by rw [e, length_mkKs]⟩
      obtain ⟨ka, kc, rfl⟩ := hkf
      have hlf : ∃ la lc, c4 = .slice la vL.length lc := by
        obtain ⟨la, lc, e, _⟩ := hll'
        exact ⟨la, lc, by rw [e, length_mkLs]⟩
      obtain ⟨la, lc, rfl⟩ := hlf
      have HM1 : Hid (Calls Try.prog 40 #[.slice sa vS.length sc, .int .i64 ((m : Int) + q + 1 + 1)] wr fun e w' => e = .returned (.int .i64 ((m : Int) + q + 1 + 1 + vS.length)) ∧ w'.cell? ⟨b, off + k * 5 + 3, none⟩ = some (.slice ka vK.length kc) ∧ Hid (Below wr.heap.size wr w')) := by
        refine arg_eq (x := ((m + q + 2 : Nat) : Int)) (by push_cast; omega) ((heldByteS_any sa sc (m + q + 2) vS.length wr hseg (by omega) (by omega)).mono ?_)
        rintro e w' ⟨rfl, hb'⟩
        exact ⟨ret_i64 (by push_cast; omega), (h5F.out w' hb').2.2.2.1, hb'⟩
      have HM2 : Hid (∀ w1, Hid (Below wr.heap.size wr w1) → Calls Try.prog 41 #[.slice ka vK.length kc, .int .i64 ((m : Int) + q + 1 + 1 + vS.length)] w1 fun e w' => e = .returned (.int .i64 ((m : Int) + q + 1 + 1 + vS.length + ((vK.map List.length).sum : Nat))) ∧ w'.cell? ⟨b, off + k * 5 + 4, none⟩ = some (.slice la vL.length lc) ∧ Hid (Below wr.heap.size wr w')) := by
        intro w1 h1
        refine arg_eq (x := ((m + q + 2 + vS.length : Nat) : Int)) (by push_cast; omega) ((heldByteSS_any N _ vK (m + q + 2 + vS.length) w1 (hkk'.agree (agree_below (h1.out.mono (by omega)))) (by have := h1.out.size; omega) (by omega) (by omega)).mono ?_)
        rintro e w' ⟨rfl, hb'⟩
        have hb2 := Below.on h1.out hb'
        exact ⟨ret_i64 (by push_cast; omega), (h5F.out w' hb2).2.2.2.2, hb2⟩
      have HM3 : Hid (∀ w1, Hid (Below wr.heap.size wr w1) → Calls Try.prog 42 #[.slice la vL.length lc, .int .i64 ((m : Int) + q + 1 + 1 + vS.length + ((vK.map List.length).sum : Nat))] w1 fun e w' => e = .returned (.int .i64 ((m : Int) + q + 1 + 1 + vS.length + ((vK.map List.length).sum : Nat) + ((vL.map (cE d)).sum : Nat))) ∧ Hid (Below w.heap.size w w')) := by
        intro w1 h1
        refine arg_eq (x := ((m + q + 2 + vS.length + (vK.map List.length).sum : Nat) : Int)) (by push_cast; omega) ((HI.out N _ vL (m + q + 2 + vS.length + (vK.map List.length).sum) w1 (hll'.agree (agree_below (h1.out.mono (by omega)))) (by have := h1.out.size; omega) (by omega) (by omega)).mono ?_)
        rintro e w' ⟨rfl, hb'⟩
        exact ⟨ret_i64 (by push_cast; omega), Below.on hbel (Below.on h1.out hb')⟩
      have hcE : m + q + 1 + 1 + vS.length + (vK.map List.length).sum + (vL.map (cE d)).sum ≤ 1125899906842624 := by omega
      have Hps : Hid (m + pre (cE (d + 1)) l (k + 1) = m + q + 1 + 1 + vS.length + (vK.map List.length).sum + (vL.map (cE d)).sum) := by show m + pre (cE (d + 1)) l (k + 1) = _; omega
      obtain ⟨y0, y1, y2, y3, y4⟩ := h5
      simp only at y0 y1 y2 y3 y4
      clear hv htt hkk hll hkk' hll' hseg h5F hps hlk hq HP HL HA HZ H0 HI hz hz' hc' hkz e0 e1 hpk1 hpk
      generalize (vK.map List.length).sum = nK at *
      generalize (vL.map (cE d)).sum = nL at *
      generalize vS.length = nS at *
      generalize vK.length = kK at *
      generalize vL.length = kL at *
      go_wp2_with fail
      refine HM1.out.mono ?_
      rintro e w1 ⟨rfl, z3, hS1⟩
      have HM2' := hide' (HM2.out w1 hS1)
      clear y0 y1 y2 y3 y4 HM1 HM2
      go_wp2_with fail
      refine HM2'.out.mono ?_
      rintro e w2 ⟨rfl, z4, hS2⟩
      have HM3' := hide' (HM3.out w2 hS2)
      clear z3 hS1 HM2' HM3
      go_wp2_with fail
      refine HM3'.out.mono ?_
      rintro e w3 ⟨rfl, hB3⟩
      clear z4 hS2 HM3'
      go_wp2
      go_roundw
      case rel => exact ⟨k + 1, by omega, by go_num, by rw [Hps.out]; go_num, hB3.out⟩
      case measure => simp [intOf]; omega
    · have hkn : k = l.length := by omega
      have hkn' : ¬ (k : Int) < (l.length : Int) := by omega
      have HQ : Hid (pre (cE (d + 1)) l k = S) := by show pre (cE (d + 1)) l k = _; rw [hkn]; exact HA.out
      clear hkn
      go_wp2
      go_ret
      exact ⟨ret_i64 (by rw [HQ.out]), hbel⟩

set_option maxHeartbeats 1600000 in
theorem heldValueS_zero : HdAt 0 := by
  intro N x l m w h hN hs hm
  have hl : l = [] := by
    cases l with
    | nil => rfl
    | cons y r => exact nomatch y
  subst hl
  obtain ⟨a, c, rfl, _⟩ := h
  go_enter Try.func42, Try.ntmps42
  go_wp2
  go_loopw [1, 5] (fun m' i wr => i = .int .i64 0 ∧ m' = .int .i64 m ∧ wr = w) (fun _ i _ => 0)
  case atStart => exact ⟨rfl, rfl, rfl⟩
  case round =>
    obtain ⟨rfl, rfl, rfl⟩ := hrel
    go_wp2
    go_ret
    exact ⟨ret_i64 (by simp), Below.refl _ _⟩

theorem heldValueS_any (d : Nat) : HdAt d := by
  induction d with
  | zero => exact heldValueS_zero
  | succ d ih => exact heldValueS_succ d ih
end Go.Proofs.Ytpknhmegoldppaa
/-
  heldValue: what markValue has written is found.
-/
namespace Go.Proofs.Ytpknhmegoldppaa
open Go.RowKit
set_option linter.unusedVariables false
set_option linter.unusedSimpArgs false

set_option maxHeartbeats 3200000 in
theorem heldValue_any (d N : Nat) (c0 c1 c2 c3 c4 : Value) (v : Vl (d + 1)) (m : Nat) (w : World) (h : VSeg (fun b => b < N) w (d + 1) (c0, c1, c2, c3, c4) (mkV d v m)) (hN : N ≤ w.heap.size) (hs : szV (d + 1) v ≤ 1048576) (hm : m + cV d v ≤ 1125899906842624) :
    Calls Try.prog 15 #[.agg #[c0, c1, c2, c3, c4], .int .i64 m] w fun e w' => e = .returned (.int .i64 ((m + cV d v : Nat) : Int)) ∧ Below w.heap.size w w' := by
  obtain ⟨vk, vn, vS, vK, vL⟩ := v
  have hz' : szV (d + 1) (vk, vn, vS, vK, vL) = szT vS + szK vK + szL d vL := rfl
  have hT' : szT vS = vS.length := rfl
  have hc' : cV d (vk, vn, vS, vK, vL) = vS.length + (vK.map List.length).sum + (vL.map (cE d)).sum := rfl
  obtain ⟨e0, e1, hT, hK, hL⟩ := h
  simp only [mkV] at e0 e1 hT hK hL
  have hL' : LSeg (fun b => b < N) w d c4 (mkLs (mkE d) (cE d) vL (m + vS.length + (vK.map List.length).sum)) := hL
  obtain ⟨sa, sc, e2, hSg, _, _, _, hR⟩ := hT
  rw [length_marks] at e2
  subst e2
  have hkf : ∃ ka kn kc, c3 = .slice ka kn kc := by obtain ⟨a, c, e, _⟩ := hK; exact ⟨_, _, _, e⟩
  obtain ⟨ka, kn, kc, rfl⟩ := hkf
  have hlf : ∃ la ln lc, c4 = .slice la ln lc := by obtain ⟨a, c, e, _⟩ := hL; exact ⟨_, _, _, e⟩
  obtain ⟨la, ln, lc, rfl⟩ := hlf
  have hal : ∀ o : Obj, Below w.heap.size w (w.alloc o) := fun o => (Below.refl _ _).alloc (Nat.le_refl _) o
  have Hal := hide' hal
  have Hbox : Hid (∀ o wx, Below (w.alloc o).heap.size (w.alloc o) wx → wx.heap[w.heap.size]? = some o) := fun o wx h => (h.block w.heap.size (by simp)).trans (MapKept.heap_alloc w o).1
  have H1 : Hid (∀ wx, Below w.heap.size w wx → Calls Try.prog 40 #[.slice sa vS.length sc, .int .i64 m] wx fun e w' => e = .returned (.int .i64 ((m : Int) + vS.length)) ∧ Below wx.heap.size wx w') := by
    intro wx hb
    refine (heldByteS_any sa sc m vS.length wx (hSg.below hb fun x hx hne => Nat.lt_of_lt_of_le (hR x hx hne) hN) (by omega) (by omega)).mono ?_
    rintro e w' ⟨rfl, h⟩
    exact ⟨ret_i64 (by push_cast; rfl), h⟩
  have H2 : Hid (∀ wx, Below w.heap.size w wx → Calls Try.prog 41 #[.slice ka kn kc, .int .i64 ((m : Int) + vS.length)] wx fun e w' => e = .returned (.int .i64 ((m : Int) + vS.length + (vK.map List.length).sum)) ∧ Below wx.heap.size wx w') := by
    intro wx hb
    refine arg_eq (x := ((m + vS.length : Nat) : Int)) (by push_cast; rfl) ((heldByteSS_any N _ vK (m + vS.length) wx (hK.agree (agree_below (hb.mono hN))) (by have := hb.size; omega) (by omega) (by omega)).mono ?_)
    rintro e w' ⟨rfl, h⟩
    exact ⟨ret_i64 (by push_cast; rfl), h⟩
  have H3 : Hid (∀ wx, Below w.heap.size w wx → Calls Try.prog 42 #[.slice la ln lc, .int .i64 ((m : Int) + vS.length + (vK.map List.length).sum)] wx fun e w' => e = .returned (.int .i64 ((m : Int) + vS.length + (vK.map List.length).sum + (vL.map (cE d)).sum)) ∧ Below wx.heap.size wx w') := by
    intro wx hb
    refine arg_eq (x := ((m + vS.length + (vK.map List.length).sum : Nat) : Int)) (by push_cast; rfl) ((heldValueS_any d N _ vL (m + vS.length + (vK.map List.length).sum) wx (hL'.agree (agree_below (hb.mono hN))) (by have := hb.size; omega) (by omega) (by omega)).mono ?_)
    rintro e w' ⟨rfl, h⟩
    exact ⟨ret_i64 (by push_cast; rfl), h⟩
  have HO : Hid (m + cV d (vk, vn, vS, vK, vL) = m + vS.length + (vK.map List.length).sum + (vL.map (cE d)).sum) := by show m + cV d (vk, vn, vS, vK, vL) = _; omega
  generalize cV d (vk, vn, vS, vK, vL) = tot at *
  clear hSg hR hK hL hL' hal hz' hT' hc' hs
  generalize (vK.map List.length).sum = nK at *
  generalize (vL.map (cE d)).sum = nL at *
  generalize vS.length = nS at *
  have hbig : m + nS + nK + nL ≤ 1125899906842624 := by have := HO.out; omega
  go_enter Try.func15, Try.ntmps15
  go_wp2_with fail
  refine (H1.out _ (Hal.out _)).mono ?_
  rintro e w1 ⟨rfl, b1⟩
  obtain ⟨_, _, _, y3, y4, _⟩ := row5 (Hbox.out _ _ b1)
  have h2 := hide' (H2.out _ (Below.on (Hal.out _) b1))
  have Hb1 := hide' b1
  clear b1 H1
  go_wp2_with fail
  refine h2.out.mono ?_
  rintro e w2 ⟨rfl, b2⟩
  have b12 := Below.on Hb1.out b2
  clear y3 y4
  obtain ⟨_, _, _, y3, y4, _⟩ := row5 (Hbox.out _ _ b12)
  have h3 := hide' (H3.out _ (Below.on (Hal.out _) b12))
  have Hb2 := hide' b12
  clear b12 b2 H2 h2 Hb1
  go_wp2_with fail
  refine h3.out.mono ?_
  rintro e w3 ⟨rfl, b3⟩
  have B3 := hide' (Below.on (Hal.out _) (Below.on Hb2.out b3))
  clear b3
  go_wp2
  go_ret
  exact ⟨by rw [HO.out]; push_cast; rfl, B3.out⟩
end Go.Proofs.Ytpknhmegoldppaa
/-
  What l2int of the specification answers.
-/
namespace Go.Proofs.Ytpknhmegoldppaa
open Go.RowKit
set_option linter.unusedVariables false

/-- A number of a value. -/
def intB (n : Int) : Bool := decide (-1000000000000 ≤ n) && decide (n ≤ 1000000000000)

set_option maxHeartbeats 800000 in
theorem spec_l2int_any (n : Int) (w : World) :
    Calls Try.prog 59 #[.int .i64 n] w fun e w' => e = .returned (.bool (intB n)) ∧ w = w' := by
  by_cases h1 : -1000000000000 ≤ n
  · by_cases h2 : n ≤ 1000000000000
    · have HO : Hid (intB n = true) := by simp [Hid, intB, h1, h2]
      go_enter Try.func59, Try.ntmps59
      go_wp2
      go_ret
      exact ⟨ret_bool HO.out.symm, rfl⟩
    · have HO : Hid (intB n = false) := by simp [Hid, intB, h2]
      go_enter Try.func59, Try.ntmps59
      go_wp2
      go_ret
      exact ⟨ret_bool HO.out.symm, rfl⟩
  · have HO : Hid (intB n = false) := by simp [Hid, intB, h1]
    go_enter Try.func59, Try.ntmps59
    go_wp2
    go_ret
    exact ⟨ret_bool HO.out.symm, rfl⟩
end Go.Proofs.Ytpknhmegoldppaa
/-
  bare of the program: it tells whether all fields are nought that a kind does not have.
-/
namespace Go.Proofs.Ytpknhmegoldppaa
open Go.RowKit
set_option linter.unusedVariables false
set_option linter.unusedSimpArgs false

/-- All fields are nought that the kind does not have. -/
def bareB (vk vn : Int) (n2 n3 n4 : Nat) : Bool := (decide (vk = 1) || decide (vk = 2) || decide (vn = 0)) && (decide (vk = 3) || decide (n2 = 0)) && (decide (vk = 5) || decide (n3 = 0)) && (decide (vk = 4) || decide (vk = 5) || decide (n4 = 0))

set_option maxHeartbeats 4000000 in
theorem impl_bare_any (vk vn : Int) (a2 a3 a4 : Option Addr) (n2 n3 n4 p2 p3 p4 : Nat) (w : World) :
    Calls Try.prog 61 #[.agg #[.int .i64 vk, .int .i64 vn, .slice a2 n2 p2, .slice a3 n3 p3, .slice a4 n4 p4]] w fun e w' => e = .returned (.bool (bareB vk vn n2 n3 n4)) ∧ Below w.heap.size w w' := by
  have Hb : Hid (∀ o : Obj, Below w.heap.size w (w.alloc o)) := fun o => (Below.refl _ _).alloc (Nat.le_refl _) o
  by_cases k1 : vk = 1
  · subst k1
    by_cases an2 : n2 = 0
    · subst an2
      by_cases an3 : n3 = 0
      · subst an3
        by_cases an4 : n4 = 0
        · subst an4
          go_enter Try.func61, Try.ntmps61
          go_wp2
          go_ret
          exact ⟨ret_bool (by simp [bareB, *]), Hb.out _⟩
        · have bn4 : ¬ (n4 : Int) = 0 := by omega
          go_enter Try.func61, Try.ntmps61
          go_wp2
          go_ret
          exact ⟨ret_bool (by simp [bareB, *]), Hb.out _⟩
      · have bn3 : ¬ (n3 : Int) = 0 := by omega
        go_enter Try.func61, Try.ntmps61
        go_wp2
        go_ret
        exact ⟨ret_bool (by simp [bareB, *]), Hb.out _⟩
    · have bn2 : ¬ (n2 : Int) = 0 := by omega
      go_enter Try.func61, Try.ntmps61
      go_wp2
      go_ret
      exact ⟨ret_bool (by simp [bareB, *]), Hb.out _⟩
  by_cases k2 : vk = 2
  · subst k2
    by_cases an2 : n2 = 0
    · subst an2
      by_cases an3 : n3 = 0
      · subst an3
        by_cases an4 : n4 = 0
        · subst an4
          go_enter Try.func61, Try.ntmps61
          go_wp2
          go_ret
          exact ⟨ret_bool (by simp [bareB, *]), Hb.out _⟩
        · have bn4 : ¬ (n4 : Int) = 0 := by omega
          go_enter Try.func61, Try.ntmps61
          go_wp2
          go_ret
          exact ⟨ret_bool (by simp [bareB, *]), Hb.out _⟩
      · have bn3 : ¬ (n3 : Int) = 0 := by omega
        go_enter Try.func61, Try.ntmps61
        go_wp2
        go_ret
        exact ⟨ret_bool (by simp [bareB, *]), Hb.out _⟩
    · have bn2 : ¬ (n2 : Int) = 0 := by omega
      go_enter Try.func61, Try.ntmps61
      go_wp2
      go_ret
      exact ⟨ret_bool (by simp [bareB, *]), Hb.out _⟩
  by_cases k3 : vk = 3
  · subst k3
    by_cases an : vn = 0
    · subst an
      by_cases an3 : n3 = 0
      · subst an3
        by_cases an4 : n4 = 0
        · subst an4
          go_enter Try.func61, Try.ntmps61
          go_wp2
          go_ret
          exact ⟨ret_bool (by simp [bareB, *]), Hb.out _⟩
        · have bn4 : ¬ (n4 : Int) = 0 := by omega
          go_enter Try.func61, Try.ntmps61
          go_wp2
          go_ret
          exact ⟨ret_bool (by simp [bareB, *]), Hb.out _⟩
      · have bn3 : ¬ (n3 : Int) = 0 := by omega
        go_enter Try.func61, Try.ntmps61
        go_wp2
        go_ret
        exact ⟨ret_bool (by simp [bareB, *]), Hb.out _⟩
    · go_enter Try.func61, Try.ntmps61
      go_wp2
      go_ret
      exact ⟨ret_bool (by simp [bareB, *]), Hb.out _⟩
  by_cases k4 : vk = 4
  · subst k4
    by_cases an : vn = 0
    · subst an
      by_cases an2 : n2 = 0
      · subst an2
        by_cases an3 : n3 = 0
        · subst an3
          go_enter Try.func61, Try.ntmps61
          go_wp2
          go_ret
          exact ⟨ret_bool (by simp [bareB, *]), Hb.out _⟩
        · have bn3 : ¬ (n3 : Int) = 0 := by omega
          go_enter Try.func61, Try.ntmps61
          go_wp2
          go_ret
          exact ⟨ret_bool (by simp [bareB, *]), Hb.out _⟩
      · have bn2 : ¬ (n2 : Int) = 0 := by omega
        go_enter Try.func61, Try.ntmps61
        go_wp2
        go_ret
        exact ⟨ret_bool (by simp [bareB, *]), Hb.out _⟩
    · go_enter Try.func61, Try.ntmps61
      go_wp2
      go_ret
      exact ⟨ret_bool (by simp [bareB, *]), Hb.out _⟩
  by_cases k5 : vk = 5
  · subst k5
    by_cases an : vn = 0
    · subst an
      by_cases an2 : n2 = 0
      · subst an2
        go_enter Try.func61, Try.ntmps61
        go_wp2
        go_ret
        exact ⟨ret_bool (by simp [bareB, *]), Hb.out _⟩
      · have bn2 : ¬ (n2 : Int) = 0 := by omega
        go_enter Try.func61, Try.ntmps61
        go_wp2
        go_ret
        exact ⟨ret_bool (by simp [bareB, *]), Hb.out _⟩
    · go_enter Try.func61, Try.ntmps61
      go_wp2
      go_ret
      exact ⟨ret_bool (by simp [bareB, *]), Hb.out _⟩
  by_cases an : vn = 0
  · subst an
    by_cases an2 : n2 = 0
    · subst an2
      by_cases an3 : n3 = 0
      · subst an3
        by_cases an4 : n4 = 0
        · subst an4
          go_enter Try.func61, Try.ntmps61
          go_wp2
          go_ret
          exact ⟨ret_bool (by simp [bareB, *]), Hb.out _⟩
        · have bn4 : ¬ (n4 : Int) = 0 := by omega
          go_enter Try.func61, Try.ntmps61
          go_wp2
          go_ret
          exact ⟨ret_bool (by simp [bareB, *]), Hb.out _⟩
      · have bn3 : ¬ (n3 : Int) = 0 := by omega
        go_enter Try.func61, Try.ntmps61
        go_wp2
        go_ret
        exact ⟨ret_bool (by simp [bareB, *]), Hb.out _⟩
    · have bn2 : ¬ (n2 : Int) = 0 := by omega
      go_enter Try.func61, Try.ntmps61
      go_wp2
      go_ret
      exact ⟨ret_bool (by simp [bareB, *]), Hb.out _⟩
  · go_enter Try.func61, Try.ntmps61
    go_wp2
    go_ret
    exact ⟨ret_bool (by simp [bareB, *]), Hb.out _⟩
end Go.Proofs.Ytpknhmegoldppaa
/-
  What a value that may be is, by its depth: 'goodB'; how many parts it has: 'partsV'; what the specification's l2ok answers: 'okI'. Plain mathematics.
-/
namespace Go.Proofs.Ytpknhmegoldppaa
open Go.RowKit
set_option linter.unusedVariables false
set_option linter.unusedSimpArgs false

/-- The rules of one part by itself. -/
def shapeB (vk vn : Int) (vs : List Int) (vK : List (List Int)) (nL : Nat) : Bool :=
  bareB vk vn vs.length vK.length nL && (decide (vk = 0) || decide (vk = 6) || (decide (vk = 1) && (decide (vn = 0) || decide (vn = 1))) || (decide (vk = 2) && intB vn) || (decide (vk = 3) && textB vs) || decide (vk = 4) || (decide (vk = 5) && (decide (vK.length = nL) && ascB vK)))

/-- The rules of all parts, and of the depth. -/
def goodB : (d : Nat) → Vl d → Nat → Bool
  | 0, _, _ => false
  | d + 1, v, deep => decide (deep ≤ 5) && (shapeB v.1 v.2.1 v.2.2.1 v.2.2.2.1 v.2.2.2.2.length && v.2.2.2.2.all fun x => goodB d x (deep + 1))

/-- How many parts. -/
def partsV : (d : Nat) → Vl d → Nat
  | 0, _ => 0
  | d + 1, v => 1 + (v.2.2.2.2.map (partsV d)).sum

/-- What l2ok answers. -/
def okI (d : Nat) (v : Vl d) (deep : Nat) (left : Int) : Int := if goodB d v deep = true ∧ (partsV d v : Int) ≤ left then left - partsV d v else -1

theorem okI_yes {d : Nat} {v : Vl d} {deep : Nat} {left : Int} (h : goodB d v deep = true) (h2 : (partsV d v : Int) ≤ left) : okI d v deep left = left - partsV d v := by simp [okI, h, h2]
theorem okI_no {d : Nat} {v : Vl d} {deep : Nat} {left : Int} (h : ¬ (goodB d v deep = true ∧ (partsV d v : Int) ≤ left)) : okI d v deep left = -1 := by simp only [okI, h, if_false]

theorem good_succ (d : Nat) (vk vn : Int) (vs : List Int) (vK : List (List Int)) (vL : List (Vl d)) (deep : Nat) :
    goodB (d + 1) (vk, vn, vs, vK, vL) deep = true ↔ deep ≤ 5 ∧ shapeB vk vn vs vK vL.length = true ∧ ∀ j (h : j < vL.length), goodB d vL[j] (deep + 1) = true := by
  show (decide (deep ≤ 5) && (shapeB vk vn vs vK vL.length && vL.all fun x => goodB d x (deep + 1))) = true ↔ _
  simp only [Bool.and_eq_true, decide_eq_true_eq, List.all_eq_true]
  constructor
  · rintro ⟨h1, h2, h3⟩
    exact ⟨h1, h2, fun j h => h3 _ (List.getElem_mem h)⟩
  · rintro ⟨h1, h2, h3⟩
    refine ⟨h1, h2, fun x hx => ?_⟩
    obtain ⟨j, h, rfl⟩ := List.getElem_of_mem hx
    exact h3 j h

theorem parts_succ (d : Nat) (vk vn : Int) (vs : List Int) (vK : List (List Int)) (vL : List (Vl d)) : partsV (d + 1) (vk, vn, vs, vK, vL) = 1 + pre (partsV d) vL vL.length := by
  rw [pre_all]
  rfl

theorem parts_pos (d : Nat) (v : Vl (d + 1)) : 1 ≤ partsV (d + 1) v := by
  obtain ⟨vk, vn, vs, vK, vL⟩ := v
  rw [parts_succ]
  omega

theorem okI_left {d : Nat} (v : Vl (d + 1)) (deep : Nat) {left : Int} (h : left < 1) : okI (d + 1) v deep left = -1 :=
  okI_no fun ⟨_, h2⟩ => by have := parts_pos d v; omega

theorem okI_deep {d : Nat} (v : Vl (d + 1)) {deep : Nat} (left : Int) (h : 5 < deep) : okI (d + 1) v deep left = -1 := by
  obtain ⟨vk, vn, vs, vK, vL⟩ := v
  exact okI_no fun ⟨h1, _⟩ => by have := ((good_succ _ _ _ _ _ _ _).1 h1).1; omega

theorem okI_shape {d : Nat} {vk vn : Int} {vs : List Int} {vK : List (List Int)} {vL : List (Vl d)} (deep : Nat) (left : Int) (h : shapeB vk vn vs vK vL.length = false) : okI (d + 1) (vk, vn, vs, vK, vL) deep left = -1 :=
  okI_no fun ⟨h1, _⟩ => by have := ((good_succ _ _ _ _ _ _ _).1 h1).2.1; rw [h] at this; simp at this

theorem okI_bare {d : Nat} {vk vn : Int} {vs : List Int} {vK : List (List Int)} {vL : List (Vl d)} (deep : Nat) (left : Int) (h : bareB vk vn vs.length vK.length vL.length = false) : okI (d + 1) (vk, vn, vs, vK, vL) deep left = -1 :=
  okI_shape deep left (by simp [shapeB, h])

theorem okI_kid {d : Nat} {vk vn : Int} {vs : List Int} {vK : List (List Int)} {vL : List (Vl d)} {deep : Nat} {left : Int} {k : Nat} (hk : k < vL.length)
    (h : ¬ (goodB d vL[k] (deep + 1) = true ∧ (partsV d vL[k] : Int) ≤ left - 1 - pre (partsV d) vL k)) : okI (d + 1) (vk, vn, vs, vK, vL) deep left = -1 := by
  refine okI_no fun ⟨h1, h2⟩ => h ⟨((good_succ _ _ _ _ _ _ _).1 h1).2.2 k hk, ?_⟩
  rw [parts_succ] at h2
  have h3 := pre_succ (partsV d) vL k hk
  have h4 := pre_le (partsV d) vL (k + 1)
  have h5 := pre_all (partsV d) vL
  omega

theorem okI_all {d : Nat} {vk vn : Int} {vs : List Int} {vK : List (List Int)} {vL : List (Vl d)} {deep : Nat} {left : Int} (h1 : deep ≤ 5) (h2 : shapeB vk vn vs vK vL.length = true)
    (h3 : ∀ j (h : j < vL.length), goodB d vL[j] (deep + 1) = true) (h4 : (pre (partsV d) vL vL.length : Int) ≤ left - 1) : okI (d + 1) (vk, vn, vs, vK, vL) deep left = left - 1 - pre (partsV d) vL vL.length := by
  rw [okI_yes ((good_succ _ _ _ _ _ _ _).2 ⟨h1, h2, h3⟩) (by rw [parts_succ]; omega), parts_succ]
  omega

theorem okI_leaf {d : Nat} {vk vn : Int} {vs : List Int} {vK : List (List Int)} {deep : Nat} {left : Int} (h1 : deep ≤ 5) (h2 : shapeB vk vn vs vK 0 = true) (h4 : 1 ≤ left) : okI (d + 1) (vk, vn, vs, vK, []) deep left = left - 1 := by
  have := okI_all (d := d) (vL := []) (deep := deep) (left := left) h1 (by simpa using h2) (by intro j h; simp at h) (by simp [pre]; omega)
  simpa [pre] using this
end Go.Proofs.Ytpknhmegoldppaa
/-
  l2ok of the specification, its ways out ahead of the kinds: too many parts, too deep, a field that the kind does not have.
-/
namespace Go.Proofs.Ytpknhmegoldppaa
open Go.RowKit
set_option linter.unusedVariables false
set_option linter.unusedSimpArgs false

set_option maxHeartbeats 4000000 in
set_option maxRecDepth 100000 in
theorem l2ok_left (vk vn : Int) (a2 a3 a4 : Option Addr) (n2 n3 n4 p2 p3 p4 : Nat) (deep : Nat) (left : Int) (w : World) (h1 : left < 1) (h2 : 0 ≤ left) :
    Calls Try.prog 51 #[.agg #[.int .i64 vk, .int .i64 vn, .slice a2 n2 p2, .slice a3 n3 p3, .slice a4 n4 p4], .int .i64 deep, .int .i64 left] w fun e w' => e = .returned (.int .i64 (-1)) ∧ Below w.heap.size w w' := by
  have Hb : Hid (∀ o : Obj, Below w.heap.size w (w.alloc o)) := fun o => (Below.refl _ _).alloc (Nat.le_refl _) o
  have h3 : left - 1 < 0 := by omega
  go_enter Try.func51, Try.ntmps51
  go_wp2
  go_ret
  exact ⟨rfl, Hb.out _⟩

set_option maxHeartbeats 4000000 in
set_option maxRecDepth 100000 in
theorem l2ok_deep (vk vn : Int) (a2 a3 a4 : Option Addr) (n2 n3 n4 p2 p3 p4 : Nat) (deep : Nat) (left : Int) (w : World) (h1 : 1 ≤ left) (h2 : left ≤ 40) (h3 : 5 < deep) :
    Calls Try.prog 51 #[.agg #[.int .i64 vk, .int .i64 vn, .slice a2 n2 p2, .slice a3 n3 p3, .slice a4 n4 p4], .int .i64 deep, .int .i64 left] w fun e w' => e = .returned (.int .i64 (-1)) ∧ Below w.heap.size w w' := by
  have Hb : Hid (∀ o : Obj, Below w.heap.size w (w.alloc o)) := fun o => (Below.refl _ _).alloc (Nat.le_refl _) o
  have h4 : ¬ left - 1 < 0 := by omega
  have h5 : (5 : Int) < (deep : Int) := by omega
  go_enter Try.func51, Try.ntmps51
  go_wp2
  go_ret
  exact ⟨rfl, Hb.out _⟩

set_option maxHeartbeats 8000000 in
set_option maxRecDepth 100000 in
theorem l2ok_bare (vk vn : Int) (a2 a3 a4 : Option Addr) (n2 n3 n4 p2 p3 p4 : Nat) (deep : Nat) (left : Int) (w : World) (h1 : 1 ≤ left) (h2 : left ≤ 40) (h3 : deep ≤ 5) (hbare : bareB vk vn n2 n3 n4 = false) :
    Calls Try.prog 51 #[.agg #[.int .i64 vk, .int .i64 vn, .slice a2 n2 p2, .slice a3 n3 p3, .slice a4 n4 p4], .int .i64 deep, .int .i64 left] w fun e w' => e = .returned (.int .i64 (-1)) ∧ Below w.heap.size w w' := by
  have Hb : Hid (∀ o : Obj, Below w.heap.size w (w.alloc o)) := fun o => (Below.refl _ _).alloc (Nat.le_refl _) o
  have h4 : ¬ left - 1 < 0 := by omega
  have h5 : ¬ (5 : Int) < (deep : Int) := by omega
  by_cases k1 : vk = 1
  · subst k1
    by_cases an2 : n2 = 0
    · subst an2
      by_cases an3 : n3 = 0
      · subst an3
        by_cases an4 : n4 = 0
        · subst an4
          simp [bareB, *] at hbare
        · have bn4 : (0 : Int) < (n4 : Int) := by omega
          clear hbare
          go_enter Try.func51, Try.ntmps51
          go_wp2
          go_ret
          exact ⟨rfl, Hb.out _⟩
      · have bn3 : (0 : Int) < (n3 : Int) := by omega
        clear hbare
        go_enter Try.func51, Try.ntmps51
        go_wp2
        go_ret
        exact ⟨rfl, Hb.out _⟩
    · have bn2 : (0 : Int) < (n2 : Int) := by omega
      clear hbare
      go_enter Try.func51, Try.ntmps51
      go_wp2
      go_ret
      exact ⟨rfl, Hb.out _⟩
  by_cases k2 : vk = 2
  · subst k2
    by_cases an2 : n2 = 0
    · subst an2
      by_cases an3 : n3 = 0
      · subst an3
        by_cases an4 : n4 = 0
        · subst an4
          simp [bareB, *] at hbare
        · have bn4 : (0 : Int) < (n4 : Int) := by omega
          clear hbare
          go_enter Try.func51, Try.ntmps51
          go_wp2
          go_ret
          exact ⟨rfl, Hb.out _⟩
      · have bn3 : (0 : Int) < (n3 : Int) := by omega
        clear hbare
        go_enter Try.func51, Try.ntmps51
        go_wp2
        go_ret
        exact ⟨rfl, Hb.out _⟩
    · have bn2 : (0 : Int) < (n2 : Int) := by omega
      clear hbare
      go_enter Try.func51, Try.ntmps51
      go_wp2
      go_ret
      exact ⟨rfl, Hb.out _⟩
  by_cases k3 : vk = 3
  · subst k3
    by_cases an3 : n3 = 0
    · subst an3
      by_cases an : vn = 0
      · subst an
        by_cases an4 : n4 = 0
        · subst an4
          simp [bareB, *] at hbare
        · have bn4 : (0 : Int) < (n4 : Int) := by omega
          clear hbare
          go_enter Try.func51, Try.ntmps51
          go_wp2
          go_ret
          exact ⟨rfl, Hb.out _⟩
      · clear hbare
        go_enter Try.func51, Try.ntmps51
        go_wp2
        go_ret
        exact ⟨rfl, Hb.out _⟩
    · have bn3 : (0 : Int) < (n3 : Int) := by omega
      clear hbare
      go_enter Try.func51, Try.ntmps51
      go_wp2
      go_ret
      exact ⟨rfl, Hb.out _⟩
  by_cases k4 : vk = 4
  · subst k4
    by_cases an2 : n2 = 0
    · subst an2
      by_cases an3 : n3 = 0
      · subst an3
        by_cases an : vn = 0
        · subst an
          simp [bareB, *] at hbare
        · clear hbare
          go_enter Try.func51, Try.ntmps51
          go_wp2
          go_ret
          exact ⟨rfl, Hb.out _⟩
      · have bn3 : (0 : Int) < (n3 : Int) := by omega
        clear hbare
        go_enter Try.func51, Try.ntmps51
        go_wp2
        go_ret
        exact ⟨rfl, Hb.out _⟩
    · have bn2 : (0 : Int) < (n2 : Int) := by omega
      clear hbare
      go_enter Try.func51, Try.ntmps51
      go_wp2
      go_ret
      exact ⟨rfl, Hb.out _⟩
  by_cases k5 : vk = 5
  · subst k5
    by_cases an2 : n2 = 0
    · subst an2
      by_cases an : vn = 0
      · subst an
        simp [bareB, *] at hbare
      · clear hbare
        go_enter Try.func51, Try.ntmps51
        go_wp2
        go_ret
        exact ⟨rfl, Hb.out _⟩
    · have bn2 : (0 : Int) < (n2 : Int) := by omega
      clear hbare
      go_enter Try.func51, Try.ntmps51
      go_wp2
      go_ret
      exact ⟨rfl, Hb.out _⟩
  have q1 : (vk != 1) = true := by simp [k1]
  have q2 : (vk != 2) = true := by simp [k2]
  have q3 : (vk != 3) = true := by simp [k3]
  have q4 : (vk != 4) = true := by simp [k4]
  have q5 : (vk != 5) = true := by simp [k5]
  by_cases an2 : n2 = 0
  · subst an2
    by_cases an3 : n3 = 0
    · subst an3
      by_cases an : vn = 0
      · subst an
        by_cases an4 : n4 = 0
        · subst an4
          simp [bareB, *] at hbare
        · have bn4 : (0 : Int) < (n4 : Int) := by omega
          clear hbare
          go_enter Try.func51, Try.ntmps51
          go_wp2
          go_ret
          exact ⟨rfl, Hb.out _⟩
      · clear hbare
        go_enter Try.func51, Try.ntmps51
        go_wp2
        go_ret
        exact ⟨rfl, Hb.out _⟩
    · have bn3 : (0 : Int) < (n3 : Int) := by omega
      clear hbare
      go_enter Try.func51, Try.ntmps51
      go_wp2
      go_ret
      exact ⟨rfl, Hb.out _⟩
  · have bn2 : (0 : Int) < (n2 : Int) := by omega
    clear hbare
    go_enter Try.func51, Try.ntmps51
    go_wp2
    go_ret
    exact ⟨rfl, Hb.out _⟩
end Go.Proofs.Ytpknhmegoldppaa
/-
  l2ok of the specification, at every depth: 'okI'.
-/
namespace Go.Proofs.Ytpknhmegoldppaa
open Go.RowKit
set_option linter.unusedVariables false
set_option linter.unusedSimpArgs false

/-- The contract of l2ok at depth d. -/
def OkAt (d : Nat) : Prop := ∀ (N : Nat) (c : Value × Value × Value × Value × Value) (v : Vl d) (deep : Nat) (left : Int) (w : World), VSeg (fun b => b < N) w d c v → N ≤ w.heap.size → deep ≤ 6 → 0 ≤ left → left ≤ 40 →
  Calls Try.prog 51 #[.agg #[c.1, c.2.1, c.2.2.1, c.2.2.2.1, c.2.2.2.2], .int .i64 deep, .int .i64 left] w fun e w' => e = .returned (.int .i64 (okI d v deep left)) ∧ Below w.heap.size w w'

/-- One of two answers. -/
def sel (p : Bool) (x : Int) : Int := cond p x (-1)
theorem sel_yes {p : Bool} (x : Int) (h : p = true) : sel p x = x := by rw [h]; rfl
theorem sel_no {p : Bool} (x : Int) (h : p = false) : sel p x = -1 := by rw [h]; rfl

set_option maxHeartbeats 4000000 in
set_option maxRecDepth 100000 in
theorem l2ok_null (vk : Int) (hvk : vk = 0 ∨ vk = 6) (a2 a3 a4 : Option Addr) (p2 p3 p4 : Nat) (deep : Nat) (left : Int) (w : World) (h1 : 1 ≤ left) (h2 : left ≤ 40) (h3 : deep ≤ 5) :
    Calls Try.prog 51 #[.agg #[.int .i64 vk, .int .i64 0, .slice a2 0 p2, .slice a3 0 p3, .slice a4 0 p4], .int .i64 deep, .int .i64 left] w fun e w' => e = .returned (.int .i64 (left - 1)) ∧ Below w.heap.size w w' := by
  have Hb : Hid (∀ o : Obj, Below w.heap.size w (w.alloc o)) := fun o => (Below.refl _ _).alloc (Nat.le_refl _) o
  have h4 : ¬ left - 1 < 0 := by omega
  have h5 : ¬ (5 : Int) < (deep : Int) := by omega
  rcases hvk with rfl | rfl <;>
  · go_enter Try.func51, Try.ntmps51
    go_wp2
    go_ret
    exact ⟨rfl, Hb.out _⟩

set_option maxHeartbeats 4000000 in
set_option maxRecDepth 100000 in
theorem l2ok_none (vk : Int) (k0 : ¬ vk = 0) (k1 : ¬ vk = 1) (k2 : ¬ vk = 2) (k3 : ¬ vk = 3) (k4 : ¬ vk = 4) (k5 : ¬ vk = 5) (k6 : ¬ vk = 6) (a2 a3 a4 : Option Addr) (p2 p3 p4 : Nat) (deep : Nat) (left : Int) (w : World) (h1 : 1 ≤ left) (h2 : left ≤ 40) (h3 : deep ≤ 5) :
    Calls Try.prog 51 #[.agg #[.int .i64 vk, .int .i64 0, .slice a2 0 p2, .slice a3 0 p3, .slice a4 0 p4], .int .i64 deep, .int .i64 left] w fun e w' => e = .returned (.int .i64 (-1)) ∧ Below w.heap.size w w' := by
  have Hb : Hid (∀ o : Obj, Below w.heap.size w (w.alloc o)) := fun o => (Below.refl _ _).alloc (Nat.le_refl _) o
  have h4 : ¬ left - 1 < 0 := by omega
  have h5 : ¬ (5 : Int) < (deep : Int) := by omega
  go_enter Try.func51, Try.ntmps51
  go_wp2
  go_ret
  exact ⟨rfl, Hb.out _⟩

set_option maxHeartbeats 4000000 in
set_option maxRecDepth 100000 in
theorem l2ok_bool (vn : Int) (a2 a3 a4 : Option Addr) (p2 p3 p4 : Nat) (deep : Nat) (left : Int) (w : World) (h1 : 1 ≤ left) (h2 : left ≤ 40) (h3 : deep ≤ 5) :
    Calls Try.prog 51 #[.agg #[.int .i64 1, .int .i64 vn, .slice a2 0 p2, .slice a3 0 p3, .slice a4 0 p4], .int .i64 deep, .int .i64 left] w fun e w' => e = .returned (.int .i64 (sel (decide (vn = 0) || decide (vn = 1)) (left - 1))) ∧ Below w.heap.size w w' := by
  have Hb : Hid (∀ o : Obj, Below w.heap.size w (w.alloc o)) := fun o => (Below.refl _ _).alloc (Nat.le_refl _) o
  have h4 : ¬ left - 1 < 0 := by omega
  have h5 : ¬ (5 : Int) < (deep : Int) := by omega
  by_cases hn : vn < 0
  · have HO : Hid ((sel (decide (vn = 0) || decide (vn = 1)) (left - 1)) = -1) := sel_no _ (by simp; omega)
    go_enter Try.func51, Try.ntmps51
    go_wp2
    go_ret
    exact ⟨ret_i64 (by rw [HO.out]), Hb.out _⟩
  by_cases hm : 1 < vn
  · have HO : Hid ((sel (decide (vn = 0) || decide (vn = 1)) (left - 1)) = -1) := sel_no _ (by simp; omega)
    go_enter Try.func51, Try.ntmps51
    go_wp2
    go_ret
    exact ⟨ret_i64 (by rw [HO.out]), Hb.out _⟩
  have HO : Hid ((sel (decide (vn = 0) || decide (vn = 1)) (left - 1)) = left - 1) := sel_yes _ (by simp; omega)
  go_enter Try.func51, Try.ntmps51
  go_wp2
  go_ret
  exact ⟨ret_i64 (by rw [HO.out]), Hb.out _⟩

set_option maxHeartbeats 4000000 in
set_option maxRecDepth 100000 in
theorem l2ok_int (vn : Int) (a2 a3 a4 : Option Addr) (p2 p3 p4 : Nat) (deep : Nat) (left : Int) (w : World) (h1 : 1 ≤ left) (h2 : left ≤ 40) (h3 : deep ≤ 5) :
    Calls Try.prog 51 #[.agg #[.int .i64 2, .int .i64 vn, .slice a2 0 p2, .slice a3 0 p3, .slice a4 0 p4], .int .i64 deep, .int .i64 left] w fun e w' => e = .returned (.int .i64 (sel (intB vn) (left - 1))) ∧ Below w.heap.size w w' := by
  have Hb : Hid (∀ o : Obj, Below w.heap.size w (w.alloc o)) := fun o => (Below.refl _ _).alloc (Nat.le_refl _) o
  have h4 : ¬ left - 1 < 0 := by omega
  have h5 : ¬ (5 : Int) < (deep : Int) := by omega
  have HI : Hid (∀ wx, Calls Try.prog 59 #[.int .i64 vn] wx fun e w' => e = .returned (.bool (intB vn)) ∧ wx = w') := fun wx => spec_l2int_any vn wx
  by_cases hi : intB vn = true
  · have HO : Hid ((sel (intB vn) (left - 1)) = left - 1) := sel_yes _ hi
    rw [hi] at HI
    clear hi
    go_enter Try.func51, Try.ntmps51
    go_wp2_with fail
    refine (HI.out _).mono ?_
    rintro e w1 ⟨rfl, e1⟩
    obtain rfl := e1
    go_wp2
    go_ret
    exact ⟨ret_i64 (by rw [HO.out]), Hb.out _⟩
  · have HO : Hid ((sel (intB vn) (left - 1)) = -1) := sel_no _ (by simpa using hi)
    have hi' : intB vn = false := by simpa using hi
    rw [hi'] at HI
    clear hi hi'
    go_enter Try.func51, Try.ntmps51
    go_wp2_with fail
    refine (HI.out _).mono ?_
    rintro e w1 ⟨rfl, e1⟩
    obtain rfl := e1
    go_wp2
    go_ret
    exact ⟨ret_i64 (by rw [HO.out]), Hb.out _⟩

set_option maxHeartbeats 4000000 in
set_option maxRecDepth 100000 in
theorem l2ok_text (vs : List Int) (a2 a3 a4 : Option Addr) (p2 p3 p4 : Nat) (deep : Nat) (left : Int) (w : World) (hs : Seg w a2 vs) (hm : vs.length ≤ maxLen) (h1 : 1 ≤ left) (h2 : left ≤ 40) (h3 : deep ≤ 5) :
    Calls Try.prog 51 #[.agg #[.int .i64 3, .int .i64 0, .slice a2 vs.length p2, .slice a3 0 p3, .slice a4 0 p4], .int .i64 deep, .int .i64 left] w fun e w' => e = .returned (.int .i64 (sel (textB vs) (left - 1))) ∧ Below w.heap.size w w' := by
  have b0 : ∀ o : Obj, Below w.heap.size w (w.alloc o) := fun o => (Below.refl _ _).alloc (Nat.le_refl _) o
  have Hb : Hid (∀ o : Obj, Below w.heap.size w (w.alloc o)) := b0
  have h4 : ¬ left - 1 < 0 := by omega
  have h5 : ¬ (5 : Int) < (deep : Int) := by omega
  have HI : Hid (∀ o : Obj, Calls Try.prog 60 #[.slice a2 vs.length p2] (w.alloc o) fun e w' => e = .returned (.bool (textB vs)) ∧ (w.alloc o) = w') := fun o => spec_l2text_any a2 p2 vs _ (hs.grow (b0 o)) hm
  by_cases hi : textB vs = true
  · have HO : Hid ((sel (textB vs) (left - 1)) = left - 1) := sel_yes _ hi
    rw [hi] at HI
    clear hi b0 hs
    go_enter Try.func51, Try.ntmps51
    go_wp2_with fail
    refine (HI.out _).mono ?_
    rintro e w1 ⟨rfl, e1⟩
    obtain rfl := e1
    go_wp2
    go_ret
    exact ⟨ret_i64 (by rw [HO.out]), Hb.out _⟩
  · have HO : Hid ((sel (textB vs) (left - 1)) = -1) := sel_no _ (by simpa using hi)
    have hi' : textB vs = false := by simpa using hi
    rw [hi'] at HI
    clear hi hi' b0 hs
    go_enter Try.func51, Try.ntmps51
    go_wp2_with fail
    refine (HI.out _).mono ?_
    rintro e w1 ⟨rfl, e1⟩
    obtain rfl := e1
    go_wp2
    go_ret
    exact ⟨ret_i64 (by rw [HO.out]), Hb.out _⟩
end Go.Proofs.Ytpknhmegoldppaa
