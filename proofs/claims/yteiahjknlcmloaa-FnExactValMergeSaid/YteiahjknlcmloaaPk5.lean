/-
  Texts that a law leans on, one behind the other; no statement is proved here.
-/
import Derived.Test.YteiahjknlcmloaaPk4
import Derived.Test.YteiahjknlcmloaaPk0
import Derived.Test.YteiahjknlcmloaaPk3
/-
  heldValueS and heldValue of the laws: they find the running numbers in values that were marked.
-/
namespace Go.Proofs.Yteiahjknlcmloaa
open Go.RowKit
set_option linter.unusedVariables false
set_option linter.unusedSimpArgs false

theorem mkLs_at {α : Type} (f : α → Nat → α) (c : α → Nat) : ∀ (l : List α) (k i : Nat) (h : i < l.length), (mkLs f c l k)[i]'(by rw [length_mkLs]; exact h) = f l[i] (k + pre c l i)
  | [], _, _, h => by simp at h
  | x :: r, k, 0, _ => by simp [mkLs, pre]
  | x :: r, k, i + 1, h => by
    have ih := mkLs_at f c r (k + c x) i (by simpa using h)
    have e : pre c (x :: r) (i + 1) = c x + pre c r i := by simp [pre]
    simp only [mkLs, List.getElem_cons_succ]
    rw [ih, e, Nat.add_assoc]

theorem LSeg.num {R : Nat → Prop} {w : World} {d : Nat} {a : Option Addr} {n cap : Nat} {l : List (Vl d)} (h : LSeg R w d (.slice a n cap) l) {k : Nat} (hk : k < l.length) :
    ∃ b off c0 c1 c2 c3 c4, a = some ⟨b, off, none⟩ ∧ R b ∧ Five w b (off + k * 5) (c0, c1, c2, c3, c4) ∧ VSeg R w d (c0, c1, c2, c3, c4) (l[k]) := by
  obtain ⟨a', cap', g1, _, _, _, g5⟩ := h
  simp only [Value.slice.injEq] at g1
  obtain ⟨rfl, _, _⟩ := g1
  rcases g5 with e | ⟨b, off, hb, hR, hc⟩
  · rw [e] at hk; simp at hk
  · obtain ⟨⟨c0, c1, c2, c3, c4⟩, he, hv⟩ := hc k hk
    exact ⟨b, off, c0, c1, c2, c3, c4, hb, hR, he, hv⟩

/-- The contract of heldValueS at depth d. -/
def HdAt (d : Nat) : Prop := ∀ (N : Nat) (x : Value) (l : List (Vl d)) (m : Nat) (w : World), LSeg (fun b => b < N) w d x (mkLs (mkE d) (cE d) l m) → N ≤ w.heap.size → szL d l ≤ 1048576 → m + (l.map (cE d)).sum ≤ 16777216 →
  Calls Try.prog 68 #[x, .int .i64 m] w fun e w' => e = .returned (.int .i64 ((m + (l.map (cE d)).sum : Nat) : Int)) ∧ Below w.heap.size w w'

theorem keep5 {w wx : World} {N b o : Nat} {c : Value × Value × Value × Value × Value} (hb : b < N) (h : Below N w wx) (h5 : Five w b o c) : Five wx b o c := h5.agree (agree_below h) hb

set_option maxHeartbeats 6400000 in
theorem heldValueS_succ (d : Nat) (ih : HdAt d) : HdAt (d + 1) := by
  intro N x l m w h hN hs hm
  have H0 := hide' h
  obtain ⟨a, c, rfl, _⟩ := h
  rw [length_mkLs] at H0 ⊢
  have hsl : szL (d + 1) l = l.length + (l.map (szV (d + 1))).sum := rfl
  have HP : Hid (∀ k (hk : k < l.length), pre (cE (d + 1)) l (k + 1) = pre (cE (d + 1)) l k + cE (d + 1) l[k]) := fun k hk => pre_succ (cE (d + 1)) l k hk
  have HL : Hid (∀ k, pre (cE (d + 1)) l k ≤ (l.map (cE (d + 1))).sum) := pre_le (cE (d + 1)) l
  have HA : Hid (pre (cE (d + 1)) l l.length = (l.map (cE (d + 1))).sum) := pre_all _ _
  have HZ : Hid (∀ k (hk : k < l.length), szV (d + 1) l[k] ≤ 1048576) := fun k hk => Nat.le_trans (sz_elem hk) hs
  have HI := hide' ih
  have hn : l.length ≤ 1048576 := by omega
  generalize hS : (l.map (cE (d + 1))).sum = S at *
  clear hs hsl ih hS
  go_enter Try.func68, Try.ntmps68
  go_wp2
  go_loopw [1, 5] (fun m' i wr => ∃ k : Nat, k ≤ l.length ∧ i = .int .i64 k ∧ m' = .int .i64 ((m + pre (cE (d + 1)) l k : Nat) : Int) ∧ Below w.heap.size w wr) (fun _ i _ => l.length - (intOf i).toNat)
  case atStart => exact ⟨0, Nat.zero_le _, rfl, by rw [pre_zero]; simp, Below.refl _ _⟩
  case round =>
    obtain ⟨k, hk, rfl, rfl, hbel⟩ := hrel
    have hpk := HL.out k
    have hsz := hbel.size
    by_cases hlt : k < l.length
    · have hlt' : (k : Int) < (l.length : Int) := by omega
      have hps := HP.out k hlt
      have hpk1 := HL.out (k + 1)
      have hz := HZ.out k hlt
      obtain ⟨b, off, c0, c1, c2, c3, c4, rfl, hb, h5, hv⟩ := (H0.out.agree (agree_below (hbel.mono hN))).num (k := k) (by rw [length_mkLs]; exact hlt)
      rw [mkLs_at (mkE (d + 1)) (cE (d + 1)) l m k hlt] at hv
      have hlk : ∃ (vk vn : Int) (vS : List Int) (vK : List (List Int)) (vL : List (Vl d)), l[k] = (vk, vn, vS, vK, vL) := ⟨_, _, _, _, _, rfl⟩
      obtain ⟨vk, vn, vS, vK, vL, hlk⟩ := hlk
      rw [hlk] at hv hz hps
      generalize hq : pre (cE (d + 1)) l k = q at *
      have hz' : szV (d + 1) (vk, vn, vS, vK, vL) = vS.length + szK vK + szL d vL := rfl
      have hc' : cE (d + 1) (vk, vn, vS, vK, vL) = 2 + (vS.length + ((vK.map List.length).sum + (vL.map (cE d)).sum)) := rfl
      have hkz : szK vK = vK.length + (vK.map List.length).sum := rfl
      obtain ⟨e0, e1, htt, hkk, hll⟩ := (VSeg_succ _ _ _ _ _).1 hv
      have e0' : c0 = .int .i64 ((m : Int) + q) := by have h := e0; simpa [mkE] using h
      have e1' : c1 = .int .i64 ((m : Int) + q + 1) := by have h := e1; simpa [mkE] using h
      subst e0'
      subst e1'
      have htt' : TSeg (fun b => b < N) wr c2 (marks (m + q + 2) vS.length) := htt
      have hkk' : KSeg (fun b => b < N) wr c3 (mkKs vK (m + q + 2 + vS.length)) := hkk
      have hll' : LSeg (fun b => b < N) wr d c4 (mkLs (mkE d) (cE d) vL (m + q + 2 + vS.length + (vK.map List.length).sum)) := hll
      have h5F : Hid (∀ wx, Below wr.heap.size wr wx → Five wx b (off + k * 5) (.int .i64 ((m : Int) + q), .int .i64 ((m : Int) + q + 1), c2, c3, c4)) := fun wx hx => keep5 hb (hx.mono (by omega)) h5
      obtain ⟨sa, sc, rfl, hseg, _⟩ := htt'
      rw [length_marks] at h5 h5F
      have hkf : ∃ ka kc, c3 = .slice ka vK.length kc := by
        obtain ⟨ka, kc, e, _⟩ := hkk'
        exact ⟨ka, kc, by rw [e, length_mkKs]⟩
      obtain ⟨ka, kc, rfl⟩ := hkf
      have hlf : ∃ la lc, c4 = .slice la vL.length lc := by
        obtain ⟨la, lc, e, _⟩ := hll'
        exact ⟨la, lc, by rw [e, length_mkLs]⟩
      obtain ⟨la, lc, rfl⟩ := hlf
      have HM1 : Hid (Calls Try.prog 66 #[.slice sa vS.length sc, .int .i64 ((m : Int) + q + 1 + 1)] wr fun e w' => e = .returned (.int .i64 ((m : Int) + q + 1 + 1 + vS.length)) ∧ w'.cell? ⟨b, off + k * 5 + 3, none⟩ = some (.slice ka vK.length kc) ∧ Hid (Below wr.heap.size wr w')) := by
        refine arg_eq (x := ((m + q + 2 : Nat) : Int)) (by push_cast; omega) ((heldByteS_any sa sc (m + q + 2) vS.length wr hseg (by omega) (by omega)).mono ?_)
        rintro e w' ⟨rfl, hb'⟩
        exact ⟨ret_i64 (by push_cast; omega), (h5F.out w' hb').2.2.2.1, hb'⟩
      have HM2 : Hid (∀ w1, Hid (Below wr.heap.size wr w1) → Calls Try.prog 67 #[.slice ka vK.length kc, .int .i64 ((m : Int) + q + 1 + 1 + vS.length)] w1 fun e w' => e = .returned (.int .i64 ((m : Int) + q + 1 + 1 + vS.length + ((vK.map List.length).sum : Nat))) ∧ w'.cell? ⟨b, off + k * 5 + 4, none⟩ = some (.slice la vL.length lc) ∧ Hid (Below wr.heap.size wr w')) := by
        intro w1 h1
        refine arg_eq (x := ((m + q + 2 + vS.length : Nat) : Int)) (by push_cast; omega) ((heldByteSS_any N _ vK (m + q + 2 + vS.length) w1 (hkk'.agree (agree_below (h1.out.mono (by omega)))) (by have := h1.out.size; omega) (by omega) (by omega)).mono ?_)
        rintro e w' ⟨rfl, hb'⟩
        have hb2 := Below.on h1.out hb'
        exact ⟨ret_i64 (by push_cast; omega), (h5F.out w' hb2).2.2.2.2, hb2⟩
      have HM3 : Hid (∀ w1, Hid (Below wr.heap.size wr w1) → Calls Try.prog 68 #[.slice la vL.length lc, .int .i64 ((m : Int) + q + 1 + 1 + vS.length + ((vK.map List.length).sum : Nat))] w1 fun e w' => e = .returned (.int .i64 ((m : Int) + q + 1 + 1 + vS.length + ((vK.map List.length).sum : Nat) + ((vL.map (cE d)).sum : Nat))) ∧ Hid (Below w.heap.size w w')) := by
        intro w1 h1
        refine arg_eq (x := ((m + q + 2 + vS.length + (vK.map List.length).sum : Nat) : Int)) (by push_cast; omega) ((HI.out N _ vL (m + q + 2 + vS.length + (vK.map List.length).sum) w1 (hll'.agree (agree_below (h1.out.mono (by omega)))) (by have := h1.out.size; omega) (by omega) (by omega)).mono ?_)
        rintro e w' ⟨rfl, hb'⟩
        exact ⟨ret_i64 (by push_cast; omega), Below.on hbel (Below.on h1.out hb')⟩
      have hcE : m + q + 1 + 1 + vS.length + (vK.map List.length).sum + (vL.map (cE d)).sum ≤ 16777216 := by omega
      have Hps : Hid (m + pre (cE (d + 1)) l (k + 1) = m + q + 1 + 1 + vS.length + (vK.map List.length).sum + (vL.map (cE d)).sum) := by show m + pre (cE (d + 1)) l (k + 1) = _; omega
      obtain ⟨y0, y1, y2, y3, y4⟩ := h5
      simp only at y0 y1 y2 y3 y4
      clear hv htt hkk hll hkk' hll' hseg h5F hps hlk hq HP HL HA HZ H0 HI hz hz' hc' hkz e0 e1 hpk1 hpk
      generalize (vK.map List.length).sum = nK at *
      generalize (vL.map (cE d)).sum = nL at *
      generalize vS.length = nS at *
      generalize vK.length = kK at *
      generalize vL.length = kL at *
      go_wp2_with fail
      refine HM1.out.mono ?_
      rintro e w1 ⟨rfl, z3, hS1⟩
      have HM2' := hide' (HM2.out w1 hS1)
      clear y0 y1 y2 y3 y4 HM1 HM2
      go_wp2_with fail
      refine HM2'.out.mono ?_
      rintro e w2 ⟨rfl, z4, hS2⟩
      have HM3' := hide' (HM3.out w2 hS2)
      clear z3 hS1 HM2' HM3
      go_wp2_with fail
      refine HM3'.out.mono ?_
      rintro e w3 ⟨rfl, hB3⟩
      clear z4 hS2 HM3'
      go_wp2
      go_roundw
      case rel => exact ⟨k + 1, by omega, by go_num, by rw [Hps.out]; go_num, hB3.out⟩
      case measure => simp [intOf]; omega
    · have hkn : k = l.length := by omega
      have hkn' : ¬ (k : Int) < (l.length : Int) := by omega
      have HQ : Hid (pre (cE (d + 1)) l k = S) := by show pre (cE (d + 1)) l k = _; rw [hkn]; exact HA.out
      clear hkn
      go_wp2
      go_ret
      exact ⟨ret_i64 (by rw [HQ.out]), hbel⟩

set_option maxHeartbeats 1600000 in
theorem heldValueS_zero : HdAt 0 := by
  intro N x l m w h hN hs hm
  have hl : l = [] := by
    cases l with
    | nil => rfl
    | cons y r => exact nomatch y
  subst hl
  obtain ⟨a, c, rfl, _⟩ := h
  go_enter Try.func68, Try.ntmps68
  go_wp2
  go_loopw [1, 5] (fun m' i wr => i = .int .i64 0 ∧ m' = .int .i64 m ∧ wr = w) (fun _ i _ => 0)
  case atStart => exact ⟨rfl, rfl, rfl⟩
  case round =>
    obtain ⟨rfl, rfl, rfl⟩ := hrel
    go_wp2
    go_ret
    exact ⟨ret_i64 (by simp), Below.refl _ _⟩

theorem heldValueS_any (d : Nat) : HdAt d := by
  induction d with
  | zero => exact heldValueS_zero
  | succ d ih => exact heldValueS_succ d ih
end Go.Proofs.Yteiahjknlcmloaa
/-
  heldValue: what markValue has written is found.
-/
namespace Go.Proofs.Yteiahjknlcmloaa
open Go.RowKit
set_option linter.unusedVariables false
set_option linter.unusedSimpArgs false

set_option maxHeartbeats 3200000 in
theorem heldValue_any (d N : Nat) (c0 c1 c2 c3 c4 : Value) (v : Vl (d + 1)) (m : Nat) (w : World) (h : VSeg (fun b => b < N) w (d + 1) (c0, c1, c2, c3, c4) (mkV d v m)) (hN : N ≤ w.heap.size) (hs : szV (d + 1) v ≤ 1048576) (hm : m + cV d v ≤ 16777216) :
    Calls Try.prog 33 #[.agg #[c0, c1, c2, c3, c4], .int .i64 m] w fun e w' => e = .returned (.int .i64 ((m + cV d v : Nat) : Int)) ∧ Below w.heap.size w w' := by
  obtain ⟨vk, vn, vS, vK, vL⟩ := v
  have hz' : szV (d + 1) (vk, vn, vS, vK, vL) = szT vS + szK vK + szL d vL := rfl
  have hT' : szT vS = vS.length := rfl
  have hc' : cV d (vk, vn, vS, vK, vL) = vS.length + (vK.map List.length).sum + (vL.map (cE d)).sum := rfl
  obtain ⟨e0, e1, hT, hK, hL⟩ := h
  simp only [mkV] at e0 e1 hT hK hL
  have hL' : LSeg (fun b => b < N) w d c4 (mkLs (mkE d) (cE d) vL (m + vS.length + (vK.map List.length).sum)) := hL
  obtain ⟨sa, sc, e2, hSg, _, _, _, hR⟩ := hT
  rw [length_marks] at e2
  subst e2
  have hkf : ∃ ka kn kc, c3 = .slice ka kn kc := by obtain ⟨a, c, e, _⟩ := hK; exact ⟨_, _, _, e⟩
  obtain ⟨ka, kn, kc, rfl⟩ := hkf
  have hlf : ∃ la ln lc, c4 = .slice la ln lc := by obtain ⟨a, c, e, _⟩ := hL; exact ⟨_, _, _, e⟩
  obtain ⟨la, ln, lc, rfl⟩ := hlf
  have hal : ∀ o : Obj, Below w.heap.size w (w.alloc o) := fun o => (Below.refl _ _).alloc (Nat.le_refl _) o
  have Hal := hide' hal
  have Hbox : Hid (∀ o wx, Below (w.alloc o).heap.size (w.alloc o) wx → wx.heap[w.heap.size]? = some o) := fun o wx h => (h.block w.heap.size (by simp)).trans (MapKept.heap_alloc w o).1
  have H1 : Hid (∀ wx, Below w.heap.size w wx → Calls Try.prog 66 #[.slice sa vS.length sc, .int .i64 m] wx fun e w' => e = .returned (.int .i64 ((m : Int) + vS.length)) ∧ Below wx.heap.size wx w') := by
    intro wx hb
    refine (heldByteS_any sa sc m vS.length wx (hSg.below hb fun x hx hne => Nat.lt_of_lt_of_le (hR x hx hne) hN) (by omega) (by omega)).mono ?_
    rintro e w' ⟨rfl, h⟩
    exact ⟨ret_i64 (by push_cast; rfl), h⟩
  have H2 : Hid (∀ wx, Below w.heap.size w wx → Calls Try.prog 67 #[.slice ka kn kc, .int .i64 ((m : Int) + vS.length)] wx fun e w' => e = .returned (.int .i64 ((m : Int) + vS.length + (vK.map List.length).sum)) ∧ Below wx.heap.size wx w') := by
    intro wx hb
    refine arg_eq (x := ((m + vS.length : Nat) : Int)) (by push_cast; rfl) ((heldByteSS_any N _ vK (m + vS.length) wx (hK.agree (agree_below (hb.mono hN))) (by have := hb.size; omega) (by omega) (by omega)).mono ?_)
    rintro e w' ⟨rfl, h⟩
    exact ⟨ret_i64 (by push_cast; rfl), h⟩
  have H3 : Hid (∀ wx, Below w.heap.size w wx → Calls Try.prog 68 #[.slice la ln lc, .int .i64 ((m : Int) + vS.length + (vK.map List.length).sum)] wx fun e w' => e = .returned (.int .i64 ((m : Int) + vS.length + (vK.map List.length).sum + (vL.map (cE d)).sum)) ∧ Below wx.heap.size wx w') := by
    intro wx hb
    refine arg_eq (x := ((m + vS.length + (vK.map List.length).sum : Nat) : Int)) (by push_cast; rfl) ((heldValueS_any d N _ vL (m + vS.length + (vK.map List.length).sum) wx (hL'.agree (agree_below (hb.mono hN))) (by have := hb.size; omega) (by omega) (by omega)).mono ?_)
    rintro e w' ⟨rfl, h⟩
    exact ⟨ret_i64 (by push_cast; rfl), h⟩
  have HO : Hid (m + cV d (vk, vn, vS, vK, vL) = m + vS.length + (vK.map List.length).sum + (vL.map (cE d)).sum) := by show m + cV d (vk, vn, vS, vK, vL) = _; omega
  generalize cV d (vk, vn, vS, vK, vL) = tot at *
  clear hSg hR hK hL hL' hal hz' hT' hc' hs
  generalize (vK.map List.length).sum = nK at *
  generalize (vL.map (cE d)).sum = nL at *
  generalize vS.length = nS at *
  have hbig : m + nS + nK + nL ≤ 16777216 := by have := HO.out; omega
  go_enter Try.func33, Try.ntmps33
  go_wp2_with fail
  refine (H1.out _ (Hal.out _)).mono ?_
  rintro e w1 ⟨rfl, b1⟩
  obtain ⟨_, _, _, y3, y4, _⟩ := row5 (Hbox.out _ _ b1)
  have h2 := hide' (H2.out _ (Below.on (Hal.out _) b1))
  have Hb1 := hide' b1
  clear b1 H1
  go_wp2_with fail
  refine h2.out.mono ?_
  rintro e w2 ⟨rfl, b2⟩
  have b12 := Below.on Hb1.out b2
  clear y3 y4
  obtain ⟨_, _, _, y3, y4, _⟩ := row5 (Hbox.out _ _ b12)
  have h3 := hide' (H3.out _ (Below.on (Hal.out _) b12))
  have Hb2 := hide' b12
  clear b12 b2 H2 h2 Hb1
  go_wp2_with fail
  refine h3.out.mono ?_
  rintro e w3 ⟨rfl, b3⟩
  have B3 := hide' (Below.on (Hal.out _) (Below.on Hb2.out b3))
  clear b3
  go_wp2
  go_ret
  exact ⟨by rw [HO.out]; push_cast; rfl, B3.out⟩
end Go.Proofs.Yteiahjknlcmloaa
/-
  Paths: a list of steps (kind, key, place), as it is read ('PthSeg') and as a call owns it ('PthOwn'); no statement is proved here.
-/
namespace Go.Proofs.Yteiahjknlcmloaa
open Go.RowKit
set_option linter.unusedVariables false

/-- A step: its kind, its key, its place. -/
abbrev Stp : Type := Int × List Int × Int

/-- The three cells of a step at a place. -/
def Three (w : World) (b off : Nat) (c : Value × Value × Value) : Prop :=
  w.cell? ⟨b, off, none⟩ = some c.1 ∧ w.cell? ⟨b, off + 1, none⟩ = some c.2.1 ∧ w.cell? ⟨b, off + 2, none⟩ = some c.2.2

/-- Three cells read as a step. -/
def StSeg (R : Nat → Prop) (w : World) (c : Value × Value × Value) (s : Stp) : Prop := c.1 = .int .i64 s.1 ∧ TSeg R w c.2.1 s.2.1 ∧ c.2.2 = .int .i64 s.2.2

/-- A slice of steps. -/
def PthSeg (R : Nat → Prop) (w : World) (x : Value) (l : List Stp) : Prop := ∃ a cap, x = .slice a l.length cap ∧ l.length ≤ cap ∧ cap ≤ maxLen ∧ (a = none → cap = 0) ∧
  (l = [] ∨ ∃ b off, a = some ⟨b, off, none⟩ ∧ R b ∧ ∀ i (h : i < l.length), ∃ e, Three w b (off + i * 3) e ∧ StSeg R w e (l[i]))

theorem Three.agree {R : Nat → Prop} {w w' : World} {b off : Nat} {c : Value × Value × Value} (h : Three w b off c) (ha : Agree R w w') (hb : R b) : Three w' b off c := by
  obtain ⟨h0, h1, h2⟩ := h
  exact ⟨(cell_agree ha hb).trans h0, (cell_agree ha hb).trans h1, (cell_agree ha hb).trans h2⟩

theorem StSeg.agree {R : Nat → Prop} {w w' : World} {c : Value × Value × Value} {s : Stp} (h : StSeg R w c s) (ha : Agree R w w') : StSeg R w' c s := ⟨h.1, h.2.1.agree ha, h.2.2⟩

theorem StSeg.mono {R R' : Nat → Prop} {w : World} {c : Value × Value × Value} {s : Stp} (h : StSeg R w c s) (hr : ∀ b, R b → R' b) : StSeg R' w c s := ⟨h.1, h.2.1.mono hr, h.2.2⟩

theorem PthSeg.agree {R : Nat → Prop} {w w' : World} {x : Value} {l : List Stp} (h : PthSeg R w x l) (ha : Agree R w w') : PthSeg R w' x l := by
  obtain ⟨a, cap, g1, g2, g3, g4, g5⟩ := h
  refine ⟨a, cap, g1, g2, g3, g4, ?_⟩
  rcases g5 with e | ⟨b, off, hb, hR, hc⟩
  · exact .inl e
  · refine .inr ⟨b, off, hb, hR, fun i hi => ?_⟩
    obtain ⟨e, he, hv⟩ := hc i hi
    exact ⟨e, he.agree ha hR, hv.agree ha⟩

theorem PthSeg.mono {R R' : Nat → Prop} {w : World} {x : Value} {l : List Stp} (h : PthSeg R w x l) (hr : ∀ b, R b → R' b) : PthSeg R' w x l := by
  obtain ⟨a, cap, g1, g2, g3, g4, g5⟩ := h
  refine ⟨a, cap, g1, g2, g3, g4, ?_⟩
  rcases g5 with e | ⟨b, off, hb, hR, hc⟩
  · exact .inl e
  · refine .inr ⟨b, off, hb, hr b hR, fun i hi => ?_⟩
    obtain ⟨e, he, hv⟩ := hc i hi
    exact ⟨e, he, hv.mono hr⟩

/-- The k-th step, in the world of then. -/
theorem PthSeg.at {R : Nat → Prop} {w : World} {a : Option Addr} {n cap : Nat} {l : List Stp} (h : PthSeg R w (.slice a n cap) l) {k : Nat} (hk : k < l.length) :
    ∃ b off c0 c1 c2, a = some ⟨b, off, none⟩ ∧ R b ∧ Three w b (off + k * 3) (c0, c1, c2) ∧ StSeg R w (c0, c1, c2) (l[k]) := by
  obtain ⟨a', cap', g1, _, _, _, g5⟩ := h
  simp only [Value.slice.injEq] at g1
  obtain ⟨rfl, _, _⟩ := g1
  rcases g5 with e | ⟨b, off, hb, hR, hc⟩
  · rw [e] at hk; simp at hk
  · obtain ⟨⟨c0, c1, c2⟩, he, hv⟩ := hc k hk
    exact ⟨b, off, c0, c1, c2, hb, hR, he, hv⟩

/-- What szStepS takes off. -/
def szP (l : List Stp) : Nat := l.length + (l.map fun s => s.2.1.length).sum

/-- The three cells of a step in an array of cells. -/
def Cells3 (cur : Array Value) (j : Nat) (e : Value × Value × Value) : Prop := cur[j]? = some e.1 ∧ cur[j + 1]? = some e.2.1 ∧ cur[j + 2]? = some e.2.2

/-- A step of the call's own. -/
def StOwn (w : World) (c : Value × Value × Value) (s : Stp) (B : List Nat) : Prop := c.1 = .int .i64 s.1 ∧ TOwn w c.2.1 s.2.1 B ∧ c.2.2 = .int .i64 s.2.2

/-- A list of steps of the call's own. -/
def PthOwn (w : World) (x : Value) (l : List Stp) (B : List Nat) : Prop :=
  ∃ (g cap : Nat) (cur : Array Value) (Bi : List (List Nat)), x = .slice (some ⟨g, 0, none⟩) l.length cap ∧ w.heap[g]? = some (.cells cur 97 (0, 0)) ∧ l.length ≤ cap ∧ cap ≤ maxLen ∧ cur.size = cap * 3 ∧ Bi.length = l.length ∧
    (∀ i (h : i < l.length), ∃ e, Cells3 cur (i * 3) e ∧ StOwn w e (l[i]) (Bi.getD i [])) ∧ B = g :: Bi.flatten ∧ B.Nodup

theorem StOwn.agree {w w' : World} {c : Value × Value × Value} {s : Stp} {B : List Nat} (h : StOwn w c s B) (ha : Agree (fun b => b ∈ B) w w') : StOwn w' c s B := ⟨h.1, h.2.1.agree ha, h.2.2⟩

theorem PthOwn.agree {w w' : World} {x : Value} {l : List Stp} {B : List Nat} (h : PthOwn w x l B) (ha : Agree (fun b => b ∈ B) w w') : PthOwn w' x l B := by
  obtain ⟨g, cap, cur, Bi, h1, h2, h3, h4, h5, h6, h7, rfl, h9⟩ := h
  refine ⟨g, cap, cur, Bi, h1, (ha g (by simp)).trans h2, h3, h4, h5, h6, fun i hi => ?_, rfl, h9⟩
  obtain ⟨e, he, hv⟩ := h7 i hi
  exact ⟨e, he, hv.agree fun b hb => ha b (List.mem_cons_of_mem _ (flatten_mem_getD (by omega) hb))⟩

theorem PthOwn.lt {w : World} {x : Value} {l : List Stp} {B : List Nat} (h : PthOwn w x l B) : ∀ b ∈ B, b < w.heap.size := by
  intro b hb
  obtain ⟨g, cap, cur, Bi, h1, h2, h3, h4, h5, h6, h7, rfl, h9⟩ := h
  rcases List.mem_cons.1 hb with rfl | hb
  · exact (Array.getElem?_eq_some_iff.1 h2).1
  · obtain ⟨q, hq, hbq⟩ := List.mem_flatten.1 hb
    obtain ⟨i, hi, rfl⟩ := List.getElem_of_mem hq
    obtain ⟨u, _, ht⟩ := h7 i (by omega)
    exact ht.2.1.lt b (by simpa [List.getD_eq_getElem?_getD, hi] using hbq)

theorem Cells3.three {w : World} {g : Nat} {cur : Array Value} {T : TypeId} (h : w.heap[g]? = some (.cells cur T (0, 0))) {j : Nat} {e : Value × Value × Value} (he : Cells3 cur j e) : Three w g j e := by
  obtain ⟨h0, h1, h2⟩ := he
  refine ⟨?_, ?_, ?_⟩ <;> rw [cell_of_row w g _ cur _ (0, 0) h] <;> assumption

theorem PthOwn.seg {w : World} {x : Value} {l : List Stp} {B : List Nat} (h : PthOwn w x l B) : PthSeg (fun b => b ∈ B) w x l := by
  obtain ⟨g, cap, cur, Bi, h1, h2, h3, h4, h5, h6, h7, rfl, h9⟩ := h
  refine ⟨some ⟨g, 0, none⟩, cap, h1, h3, h4, by simp, .inr ⟨g, 0, rfl, by simp, fun i hi => ?_⟩⟩
  obtain ⟨e, he, hv⟩ := h7 i hi
  exact ⟨e, by rw [Nat.zero_add]; exact he.three h2, hv.1, hv.2.1.seg.mono fun b hb => List.mem_cons_of_mem _ (flatten_mem_getD (by omega) hb), hv.2.2⟩

/-- What a call has made for itself can be read by whoever comes behind it. -/
theorem PthOwn.below {w w' : World} {x : Value} {l : List Stp} {B : List Nat} (h : PthOwn w x l B) (hb : Below w.heap.size w w') : PthSeg (fun b => b < w.heap.size) w' x l :=
  (h.seg.mono fun b hb => h.lt b hb).agree (agree_below hb)

/-- After k rounds of toStepS. -/
def PPart (w : World) (g n : Nat) (l : List Stp) (k : Nat) (N : Nat) : Prop :=
  ∃ (cur : Array Value) (Bi : List (List Nat)), w.heap[g]? = some (.cells cur 97 (0, 0)) ∧ cur.size = n * 3 ∧ Bi.length = k ∧
    (∀ i (h : i < l.length), i < k → ∃ e, Cells3 cur (i * 3) e ∧ StOwn w e (l[i]) (Bi.getD i [])) ∧ (∀ b ∈ Bi.flatten, N ≤ b ∧ b < w.heap.size) ∧ Bi.flatten.Nodup

/-- Three cells stored one behind the other. -/
def set3 (w : World) (g j : Nat) (c0 c1 c2 : Value) : World := ((w.setCell ⟨g, j, none⟩ c0).setCell ⟨g, j + 1, none⟩ c1).setCell ⟨g, j + 2, none⟩ c2

/-- The array behind it. -/
def arrSet3 (cur : Array Value) (j : Nat) (c0 c1 c2 : Value) : Array Value := ((cur.setIfInBounds j c0).setIfInBounds (j + 1) c1).setIfInBounds (j + 2) c2

theorem set3_heap {w : World} {g j : Nat} {cur : Array Value} {T : TypeId} (c0 c1 c2 : Value) (h : w.heap[g]? = some (.cells cur T (0, 0))) :
    (set3 w g j c0 c1 c2).heap[g]? = some (.cells (arrSet3 cur j c0 c1 c2) T (0, 0)) :=
  heap_setCell_same _ g (j + 2) _ T c2 (heap_setCell_same _ g (j + 1) _ T c1 (heap_setCell_same w g j cur T c0 h))

theorem set3_other (w : World) (g j : Nat) (c0 c1 c2 : Value) (b : Nat) (hb : b ≠ g) : (set3 w g j c0 c1 c2).heap[b]? = w.heap[b]? := by
  unfold set3
  rw [Below.heap_setCell _ _ _ b hb, Below.heap_setCell _ _ _ b hb, Below.heap_setCell _ _ _ b hb]

theorem set3_size (w : World) (g j : Nat) (c0 c1 c2 : Value) : (set3 w g j c0 c1 c2).heap.size = w.heap.size := by simp [set3, World.setCell]

theorem set3_grown (w : World) (g j : Nat) (c0 c1 c2 : Value) : w.grownBy (set3 w g j c0 c1 c2) (some g) :=
  grownBy_trans (grownBy_trans (grown1 _ _ _ _) (grown1 _ _ _ _)) (grown1 _ _ _ _)

theorem arrSet3_size (cur : Array Value) (j : Nat) (c0 c1 c2 : Value) : (arrSet3 cur j c0 c1 c2).size = cur.size := by simp [arrSet3]

theorem arrSet3_at (cur : Array Value) (j : Nat) (c0 c1 c2 : Value) (h : j + 2 < cur.size) : Cells3 (arrSet3 cur j c0 c1 c2) j (c0, c1, c2) := by
  unfold arrSet3 Cells3
  refine ⟨?_, ?_, ?_⟩ <;> simp [Array.getElem?_setIfInBounds] <;> omega

theorem arrSet3_ne (cur : Array Value) (j i : Nat) (c0 c1 c2 : Value) (h : i < j ∨ j + 2 < i) : (arrSet3 cur j c0 c1 c2)[i]? = cur[i]? := by
  unfold arrSet3
  rw [Array.getElem?_setIfInBounds_ne (by omega), Array.getElem?_setIfInBounds_ne (by omega), Array.getElem?_setIfInBounds_ne (by omega)]

theorem pPart_next {w w1 : World} {g n : Nat} {l : List Stp} {k N : Nat} (h : PPart w g n l k N) (hgN : g < N) (hk : k < l.length) (hkn : k < n) (b1 : Below w.heap.size w w1) (hN : N ≤ w.heap.size) (c0 c1 c2 : Value) (B : List Nat) (hu : StOwn w1 (c0, c1, c2) l[k] B) (hB : ∀ b ∈ B, w.heap.size ≤ b ∧ b < w1.heap.size) (hBn : B.Nodup) :
    PPart (set3 w1 g (k * 3) c0 c1 c2) g n l (k + 1) N := by
  obtain ⟨cur, Bi, h1, h2, h3, h4, h5, h6⟩ := h
  have hgw : g < w.heap.size := (Array.getElem?_eq_some_iff.1 h1).1
  have h1' : w1.heap[g]? = some (.cells cur 97 (0, 0)) := (b1.block g hgw).trans h1
  refine ⟨arrSet3 cur (k * 3) c0 c1 c2, Bi ++ [B], set3_heap c0 c1 c2 h1', by rw [arrSet3_size]; exact h2, by simp [h3], fun i hi hik => ?_, ?_, ?_⟩
  · by_cases he : i = k
    · subst he
      have e : (Bi ++ [B]).getD i [] = B := by simp [List.getD_eq_getElem?_getD, ← h3]
      rw [e]
      exact ⟨_, arrSet3_at cur (i * 3) c0 c1 c2 (by omega), hu.agree fun b hb => set3_other w1 g _ _ _ _ b (by have := hB b hb; omega)⟩
    · have hi' : i < k := by omega
      obtain ⟨e5, hc5, hv⟩ := h4 i hi hi'
      have e : (Bi ++ [B]).getD i [] = Bi.getD i [] := by
        simp only [List.getD_eq_getElem?_getD]
        rw [List.getElem?_append_left (by omega)]
      rw [e]
      refine ⟨e5, ?_, (hv.agree fun b hb => b1.block b (hv.2.1.lt b hb)).agree fun b hb => set3_other w1 g _ _ _ _ b ?_⟩
      · obtain ⟨q0, q1, q2⟩ := hc5
        refine ⟨?_, ?_, ?_⟩ <;> rw [arrSet3_ne _ _ _ _ _ _ (by omega)] <;> assumption
      · have := h5 b (flatten_mem_getD (by omega) hb)
        omega
  · intro b hb
    rw [List.flatten_append, List.mem_append] at hb
    rw [set3_size]
    rcases hb with hb | hb
    · have := h5 b hb
      have := b1.size
      omega
    · have hb' : b ∈ B := by simpa using hb
      have := hB b hb'
      omega
  · rw [List.flatten_append, List.nodup_append]
    refine ⟨h6, by simpa using hBn, fun b hb c hc => ?_⟩
    have hc' : c ∈ B := by simpa using hc
    have := h5 b hb
    have := hB c hc'
    omega

end Go.Proofs.Yteiahjknlcmloaa
/-
  szStep, szStepS of the laws: what is left of a bound behind a path's weight, or -1.
-/
namespace Go.Proofs.Yteiahjknlcmloaa
open Go.RowKit
set_option linter.unusedVariables false

/-- A key's length. -/
def keyLen (s : Stp) : Nat := s.2.1.length
theorem szP_eq (l : List Stp) : szP l = l.length + (l.map keyLen).sum := rfl
theorem szP_elem {l : List Stp} {k : Nat} (hk : k < l.length) : (l[k]).2.1.length ≤ szP l := by
  have h1 := pre_succ keyLen l k hk
  have h2 := pre_le keyLen l (k + 1)
  have h3 : keyLen l[k] = (l[k]).2.1.length := rfl
  rw [szP_eq]
  omega

set_option maxHeartbeats 1600000 in
theorem szStep_any (N : Nat) (c0 c1 c2 : Value) (s : Stp) (l : Int) (w : World) (hs : StSeg (fun b => b < N) w (c0, c1, c2) s) (h0 : 0 ≤ l) (h1 : l ≤ 1048576) :
    Calls Try.prog 69 #[.agg #[c0, c1, c2], .int .i64 l] w fun e w' => e = .returned (.int .i64 (less l (keyLen s))) ∧ Below w.heap.size w w' := by
  obtain ⟨sk, ss, si⟩ := s
  obtain ⟨e0, ht, e2⟩ := hs
  simp only at e0 ht e2
  subst e0
  subst e2
  obtain ⟨a2, cp2, rfl, s2, hl2, hm2, _, _⟩ := ht
  have b0 : ∀ o : Obj, Below w.heap.size w (w.alloc o) := fun o => (Below.refl _ _).alloc (Nat.le_refl _) o
  have Hb := hide' b0
  have hn2 : ss.length ≤ maxLen := by omega
  show Calls Try.prog 69 _ w fun e w' => e = .returned (.int .i64 (less l ss.length)) ∧ Below w.heap.size w w'
  clear s2 b0
  go_enter Try.func69, Try.ntmps69
  go_wp2_with fail
  refine (szByteS_any _ ss.length _ l _ h0 h1 hn2).mono ?_
  rintro e w1 ⟨rfl, e1⟩
  obtain rfl := e1
  by_cases hb1 : l < ss.length
  · rw [less_no _ _ hb1]
    go_wp2
    go_ret
    exact ⟨ret_i64 (less_no _ _ hb1).symm, Hb.out _⟩
  · rw [less_yes _ _ hb1]
    have hq : ¬ (l - (ss.length : Int) < 0) := by omega
    go_wp2
    go_ret
    exact ⟨ret_i64 (less_yes _ _ (by omega)).symm, Hb.out _⟩

set_option maxHeartbeats 1600000 in
theorem szStepS_any (N : Nat) (x : Value) (l : List Stp) (m : Int) (w : World) (hx : PthSeg (fun b => b < N) w x l) (hN : N ≤ w.heap.size) (h0 : 0 ≤ m) (h1 : m ≤ 1048576) :
    Calls Try.prog 35 #[x, .int .i64 m] w fun e w' => e = .returned (.int .i64 (less m (szP l))) ∧ Below w.heap.size w w' := by
  have hx0 := hx
  obtain ⟨a, cap, rfl, hlc, hcm, ka, hc⟩ := hx
  unfold maxLen at hcm
  have hsz := szP_eq l
  by_cases h : m < l.length
  · have HO : Hid (less m (szP l) = -1) := less_no m _ (by rw [hsz]; omega)
    have h' : m - (l.length : Int) < 0 := by omega
    clear hsz hc hx0
    go_enter Try.func35, Try.ntmps35
    go_wp2
    go_ret
    exact ⟨ret_i64 (by rw [HO.out]), Below.refl _ _⟩
  · have h' : ¬ m - (l.length : Int) < 0 := by omega
    have HP : Hid (∀ k (hk : k < l.length), pre keyLen l (k + 1) = pre keyLen l k + keyLen l[k]) := fun k hk => pre_succ keyLen l k hk
    have HL : Hid (∀ k, pre keyLen l k ≤ (l.map keyLen).sum) := pre_le keyLen l
    have HZ : Hid (szP l = l.length + (l.map keyLen).sum) := hsz
    have HA : Hid (pre keyLen l l.length = (l.map keyLen).sum) := pre_all _ _
    have HC := hide' hx0
    clear hsz hc hx0
    go_enter Try.func35, Try.ntmps35
    go_wp2
    go_loopw [1, 5] (fun l' i wr => ∃ (k : Nat), k ≤ l.length ∧ i = .int .i64 k ∧ (pre keyLen l k : Int) ≤ m - l.length ∧ l' = .int .i64 (m - l.length - pre keyLen l k) ∧ Below w.heap.size w wr) (fun _ i _ => l.length - (intOf i).toNat)
    case atStart => exact ⟨0, Nat.zero_le _, rfl, by rw [pre_zero]; omega, by rw [pre_zero]; simp, Below.refl _ _⟩
    case round =>
      obtain ⟨k, hk, rfl, hle, rfl, hbel⟩ := hrel
      have hpk := HL.out k
      by_cases hlt : k < l.length
      · have hps := HP.out k hlt
        obtain ⟨b, off, c0, c1, c2, rfl, _, h3, hv⟩ := (HC.out.agree (agree_below (hbel.mono hN))).at hlt
        obtain ⟨q0, q1, q2⟩ := h3
        simp only at q0 q1 q2
        generalize hp0 : pre keyLen l k = p at *
        have Hps : Hid (pre keyLen l (k + 1) = p + keyLen l[k]) := hps
        have HV := hide' hv
        clear hps hp0 hv
        have hlt' : (k : Int) < (l.length : Int) := by omega
        go_wp2_with fail
        refine (szStep_any N c0 c1 c2 l[k] _ wr HV.out (by omega) (by omega)).mono ?_
        rintro e w1 ⟨rfl, b1⟩
        have B1 := Below.on hbel b1
        generalize keyLen l[k] = q at *
        clear b1 HV q0 q1 q2
        by_cases hbad : m - l.length - p < q
        · rw [less_no _ _ hbad]
          have HO : Hid (less m (szP l) = -1) := less_no m _ (by have := HZ.out; have := Hps.out; have := HL.out (k + 1); omega)
          go_wp2
          go_ret
          exact ⟨ret_i64 (by rw [HO.out]), B1⟩
        · rw [less_yes _ _ hbad]
          have hpos : ¬ (m - l.length - p - q < 0) := by omega
          go_wp2
          go_roundw
          case rel => exact ⟨k + 1, by omega, by go_num, by have := Hps.out; omega, by have := Hps.out; rw [this]; go_num, B1⟩
          case measure => simp [intOf]; omega
      · have hkn : k = l.length := by omega
        have HO : Hid (less m (szP l) = m - l.length - pre keyLen l k) := by
          show less m (szP l) = _
          have h1 := HZ.out
          have h2 := HA.out
          rw [less_yes _ _ (by rw [← hkn] at h2; omega), hkn]
          omega
        have hkn' : ¬ (k : Int) < (l.length : Int) := by omega
        clear hkn
        go_wp2
        go_ret
        exact ⟨ret_i64 (by rw [HO.out]), hbel⟩
end Go.Proofs.Yteiahjknlcmloaa
/-
  The laws' own helper markStepS: running numbers written into a path of the call's own.
-/
namespace Go.Proofs.Yteiahjknlcmloaa
open Go.RowKit
set_option linter.unusedVariables false
set_option linter.unusedSimpArgs false

/-- A step after it was marked, from k on. -/
def mkStp (s : Stp) (k : Nat) : Stp := ((k : Int), marks (k + 1) s.2.1.length, ((k + 1 + s.2.1.length : Nat) : Int))
/-- How many numbers it takes. -/
def cStp (s : Stp) : Nat := 2 + s.2.1.length

/-- One step of a path of the call's own is written anew, in its own blocks. -/
theorem PthOwn.turn {w w' : World} {x : Value} {l : List Stp} {B : List Nat} {g cap : Nat} {cur cur' : Array Value} {Bi : List (List Nat)} (hx : x = .slice (some ⟨g, 0, none⟩) l.length cap) (h3 : l.length ≤ cap) (h4 : cap ≤ maxLen) (h5 : cur.size = cap * 3) (h6 : Bi.length = l.length)
    (h7 : ∀ i (h : i < l.length), ∃ e, Cells3 cur (i * 3) e ∧ StOwn w e (l[i]) (Bi.getD i [])) (hB : B = g :: Bi.flatten) (hN : B.Nodup) {k : Nat} (hk : k < l.length) (hh' : w'.heap[g]? = some (.cells cur' 97 (0, 0))) (hsz : cur'.size = cur.size) (hoth : ∀ j, j < k * 3 ∨ k * 3 + 3 ≤ j → cur'[j]? = cur[j]?)
    {e' : Value × Value × Value} (he' : Cells3 cur' (k * 3) e') {v' : Stp} (hv' : StOwn w' e' v' (Bi.getD k [])) (ht : Turned (g :: Bi.getD k []) w w') : PthOwn w' x (l.set k v') B := by
  subst hB
  have hg : g ∉ Bi.flatten := (List.nodup_cons.1 hN).1
  refine ⟨g, cap, cur', Bi, by simpa using hx, hh', by simpa using h3, h4, by omega, by simpa using h6, fun i hi => ?_, rfl, hN⟩
  have hi' : i < l.length := by simpa using hi
  by_cases e : i = k
  · subst e
    exact ⟨e', he', by simpa using hv'⟩
  · obtain ⟨u, hc, hv⟩ := h7 i hi'
    refine ⟨u, ?_, ?_⟩
    · obtain ⟨q0, q1, q2⟩ := hc
      refine ⟨?_, ?_, ?_⟩ <;> rw [hoth _ (by omega)] <;> assumption
    · rw [List.getElem_set_ne (fun h => e h.symm)]
      refine hv.agree fun b hb => ht.block b (hv.2.1.lt b hb) fun hm => ?_
      rcases List.mem_cons.1 hm with rfl | hm
      · exact hg (flatten_mem_getD (by omega) hb)
      · exact disj_flatten (List.nodup_cons.1 hN).2 (by omega : i < Bi.length) (by omega : k < Bi.length) e hb hm

theorem set02_cells {cur : Array Value} {j : Nat} {c0 c1 c2 a b : Value} (h : Cells3 cur j (c0, c1, c2)) : Cells3 ((cur.setIfInBounds j a).setIfInBounds (j + 2) b) j (a, c1, b) := by
  obtain ⟨h0, h1, h2⟩ := h
  have l1 := (Array.getElem?_eq_some_iff.1 h2).1
  simp only at h0 h1 h2
  refine ⟨?_, ?_, ?_⟩
  · simp only
    rw [Array.getElem?_setIfInBounds_ne (by omega), Array.getElem?_setIfInBounds_self]
    simp; omega
  · simp only
    rw [Array.getElem?_setIfInBounds_ne (by omega), Array.getElem?_setIfInBounds_ne (by omega)]
    exact h1
  · simp only
    rw [Array.getElem?_setIfInBounds_self]
    simp; omega

set_option maxHeartbeats 6400000 in
theorem markStepS_any (x : Value) (l : List Stp) (B : List Nat) (m : Nat) (w : World) (h : PthOwn w x l B) (hs : szP l ≤ 1048576) (hm : m + (l.map cStp).sum ≤ 16777216) :
    Calls Try.prog 40 #[x, .int .i64 m] w fun e w' => e = .returned (.int .i64 ((m + (l.map cStp).sum : Nat) : Int)) ∧ PthOwn w' x (mkLs mkStp cStp l m) B ∧ Turned B w w' := by
  have hform : ∃ a c, x = .slice a l.length c := by
    obtain ⟨g, cap, cur, Bi, rfl, _⟩ := h
    exact ⟨_, _, rfl⟩
  obtain ⟨a, c, rfl⟩ := hform
  have HP : Hid (∀ k (hk : k < l.length), pre cStp l (k + 1) = pre cStp l k + cStp l[k]) := fun k hk => pre_succ cStp l k hk
  have HL : Hid (∀ k, pre cStp l k ≤ (l.map cStp).sum) := pre_le cStp l
  have HA : Hid (pre cStp l l.length = (l.map cStp).sum) := pre_all _ _
  have HZ : Hid (∀ k (hk : k < l.length), (l[k]).2.1.length ≤ 1048576) := fun k hk => Nat.le_trans (szP_elem hk) hs
  have H0 := hide' h
  have hn : l.length ≤ 1048576 := by unfold szP at hs; omega
  generalize hS : (l.map cStp).sum = S at *
  clear h hs hS
  go_enter Try.func40, Try.ntmps40
  go_wp2
  go_loopw [1, 5] (fun m' i wr => ∃ k : Nat, k ≤ l.length ∧ i = .int .i64 k ∧ m' = .int .i64 ((m + pre cStp l k : Nat) : Int) ∧ Hid (PthOwn wr (.slice a l.length c) (mixL mkStp cStp l m k) B) ∧ Hid (Turned B w wr)) (fun _ i _ => l.length - (intOf i).toNat)
  case atStart => exact ⟨0, Nat.zero_le _, rfl, by rw [pre_zero]; simp, by rw [mixL_zero]; exact H0, Turned.refl _ _⟩
  case round =>
    obtain ⟨k, hk, rfl, rfl, hK, hT⟩ := hrel
    have hpk := HL.out k
    by_cases hlt : k < l.length
    · have hlt' : (k : Int) < (l.length : Int) := by omega
      have hps := HP.out k hlt
      have hpk1 := HL.out (k + 1)
      have hml := length_mixL mkStp cStp l m k hk
      obtain ⟨g, cap, cur, Bi, hv, hh, h3, h4, h5, h6, h7, hB, hN⟩ := hK.out
      obtain ⟨⟨c0, c1, c2⟩, hcs, hVO⟩ := h7 k (by omega)
      rw [mixL_at mkStp cStp l m k hlt] at hVO
      have hlk : ∃ (sk : Int) (ss : List Int) (si : Int), l[k] = (sk, ss, si) := ⟨_, _, _, rfl⟩
      obtain ⟨sk, ss, si, hlk⟩ := hlk
      rw [hlk] at hVO
      obtain ⟨e0, ht, e2⟩ := hVO
      simp only at e0 ht e2
      have hz := HZ.out k hlt
      rw [hlk] at hz hps
      simp only at hz
      have hc' : cStp (sk, ss, si) = 2 + ss.length := rfl
      have hgk : k < Bi.length := by omega
      have hgn : g ∉ Bi.getD k [] := by
        intro hm
        rw [hB, List.nodup_cons] at hN
        exact hN.1 (flatten_mem_getD hgk hm)
      have hva : a = some ⟨g, 0, none⟩ := by simp at hv; exact hv.1
      subst hva
      generalize hq : pre cStp l k = q at *
      obtain ⟨sa, sc, rfl, _⟩ := ht.1.shape
      have hh1 := heap_setCell_same wr g (k * 3) cur 97 (.int .i64 ((m : Int) + q)) hh
      have hg1 := grown1 wr g (k * 3) (.int .i64 ((m : Int) + q))
      have ht1 : TOwn (wr.setCell ⟨g, k * 3, none⟩ (.int .i64 ((m : Int) + q))) (.slice sa ss.length sc) ss (Bi.getD k []) := ht.agree fun b hb => Below.heap_setCell wr _ _ b (fun e => hgn (by simp at e; rw [← e]; exact hb))
      obtain ⟨x0, hx0⟩ : ∃ y, wr.cell? ⟨g, k * 3, none⟩ = some y := ⟨_, by rw [cell_of_row wr g _ cur _ (0, 0) hh]; exact hcs.1⟩
      have f0 := frozen_of_row wr g (k * 3) cur _ hh
      have y1 : wr.cell? ⟨g, k * 3 + 1, none⟩ = some (.slice sa ss.length sc) := by rw [cell_of_row wr g _ cur _ (0, 0) hh]; exact hcs.2.1
      have HM1 : Hid (Calls Try.prog 32 #[.slice sa ss.length sc, .int .i64 ((m : Int) + q + 1)] (wr.setCell ⟨g, k * 3, none⟩ (.int .i64 ((m : Int) + q))) fun e w' => e = .returned (.int .i64 ((m : Int) + q + 1 + ss.length)) ∧ (∃ y, w'.cell? ⟨g, k * 3 + 2, none⟩ = some y) ∧ w'.frozen? ⟨g, k * 3 + 2, none⟩ = false ∧ Hid (PthOwn (w'.setCell ⟨g, k * 3 + 2, none⟩ (.int .i64 ((m : Int) + q + 1 + ss.length))) (.slice (some ⟨g, 0, none⟩) l.length c) (mixL mkStp cStp l m (k + 1)) B) ∧ Hid (Turned B w (w'.setCell ⟨g, k * 3 + 2, none⟩ (.int .i64 ((m : Int) + q + 1 + ss.length))))) := by
        refine arg_eq (x := ((m + q + 1 : Nat) : Int)) (by push_cast; rfl) ((markByteS_F sa sc ss (m + q + 1) _ ht1.1 (by omega) (by omega)).mono ?_)
        rintro e w' ⟨rfl, hb, hg⟩
        have hT1 := ht1.turned hg
        have hgl : g < (wr.setCell ⟨g, k * 3, none⟩ (.int .i64 ((m : Int) + q))).heap.size := (Array.getElem?_eq_some_iff.1 hh1).1
        have hh2 := (hT1.block g hgl hgn).trans hh1
        have hh3 := heap_setCell_same w' g (k * 3 + 2) _ 97 (.int .i64 ((m : Int) + q + 1 + ss.length)) hh2
        have hg3 := grown1 w' g (k * 3 + 2) (.int .i64 ((m : Int) + q + 1 + ss.length))
        have hTT : Turned (g :: Bi.getD k []) wr (w'.setCell ⟨g, k * 3 + 2, none⟩ (.int .i64 ((m : Int) + q + 1 + ss.length))) :=
          ((Turned.of_grown hg1 (fun j e => by simp at e; simp [e])).trans (hT1.mono fun b hb => List.mem_cons_of_mem _ hb)).trans (Turned.of_grown hg3 (fun j e => by simp at e; simp [e]))
        have hcs3 := set02_cells (a := .int .i64 ((m : Int) + q)) (b := .int .i64 ((m : Int) + q + 1 + ss.length)) hcs
        refine ⟨ret_i64 (by push_cast; rfl), ?_, frozen_of_row w' g _ _ _ hh2, ?_, ?_⟩
        · rw [cell_of_row w' g _ _ _ (0, 0) hh2, Array.getElem?_setIfInBounds_ne (by omega)]
          exact ⟨_, hcs.2.2⟩
        · show PthOwn _ _ (mixL mkStp cStp l m (k + 1)) B
          rw [mixL_succ mkStp cStp l m k hlt, hlk, hq]
          refine PthOwn.turn hv h3 h4 h5 h6 h7 hB hN (by omega) hh3 (by simp) ?_ hcs3 ?_ hTT
          · intro j hj
            rw [Array.getElem?_setIfInBounds_ne (by omega), Array.getElem?_setIfInBounds_ne (by omega)]
          · refine ⟨by simp [mkStp], ?_, by simp [mkStp]⟩
            exact (ht1.marked hb).agree fun b hb' => Below.heap_setCell w' _ _ b (fun e => hgn (by simp at e; rw [← e]; exact hb'))
        · refine hT.out.trans (hTT.mono fun b hb => ?_)
          rw [hB]
          rcases List.mem_cons.1 hb with rfl | hb
          · simp
          · exact List.mem_cons_of_mem _ (flatten_mem_getD hgk hb)
      have hcE : m + q + 1 + ss.length + 1 ≤ 16777216 := by omega
      have Hps : Hid (m + pre cStp l (k + 1) = m + q + 1 + ss.length + 1) := by show m + pre cStp l (k + 1) = _; omega
      clear hK hT hh h7 hN hcs ht ht1 hh1 hg1 hB h6 h5 hv hps hlk hq HP HL HA HZ H0
      generalize ss.length = nS at *
      go_wp2_with fail
      refine HM1.out.mono ?_
      rintro e w1 ⟨rfl, ⟨y, hy⟩, hf, hK', hT'⟩
      clear hx0 f0 y1 HM1
      go_wp2
      go_roundw
      case rel => exact ⟨k + 1, by omega, by go_num, by rw [Hps.out]; go_num, hK', hT'⟩
      case measure => simp [intOf]; omega
    · have hkn : k = l.length := by omega
      have hkn' : ¬ (k : Int) < (l.length : Int) := by omega
      have HE : Hid (PthOwn wr (.slice a l.length c) (mkLs mkStp cStp l m) B) := by
        have hK2 := hK.out
        rw [hkn, mixL_all] at hK2
        exact hK2
      have HQ : Hid (pre cStp l k = S) := by show pre cStp l k = _; rw [hkn]; exact HA.out
      clear hkn hK
      go_wp2
      go_ret
      exact ⟨ret_i64 (by rw [HQ.out]), HE.out, hT.out⟩
end Go.Proofs.Yteiahjknlcmloaa
