/-
  Texts that a law leans on, one behind the other; no statement is proved here.
-/
import Derived.Test.YteafpgaefphkfaaGreatDoorPk39
/-
  l2draw of the specification on a heap on which values are drawn. No statement is proved here.
-/
namespace Go.Proofs.YteafpgaefphkfaaGreatDoor
open Go.RowKit
set_option linter.unusedVariables false
set_option linter.unusedSimpArgs false

/-- The contract of l2draw: parts at most n deep. -/
def DrAt (n : Nat) : Prop := ∀ (B M : Nat) (rk : Nat → Nat) (g : Nat) (a : Option Addr) (cap : Nat) (cs : List Int) (deep : Int) (w : World), Hs B M rk w g a cap cs → deep ≤ n → -1000 ≤ deep → n ≤ 1000 → 64 ≤ M → M ≤ 1000000 → Calls Tryz.prog 36 #[.pointer (some ⟨g, 0, none⟩), .int .i64 deep] w (DrwEnd B M rk n g a cap cs w)

/-- While a list is being drawn: its box O, the answer's box R. -/
def LSt (B M : Nat) (rk : Nat → Nat) (n : Nat) (w : World) (g : Nat) (a : Option Addr) (cap : Nat) (cs : List Int) (R O : Nat) (w2 : World) (rk2 : Nat → Nat) (k : Nat) (rkr : Nat → Nat) (wr : World) (pL : Option Addr) (cL : Nat) : Prop :=
  SIy B M rk2 n w2 O 4 0 k rkr wr none 0 pL cL ∧ Hs B M rkr wr g a cap cs ∧ Hst rk w rkr wr g ∧ wr.heap[R]? = some (.cells #[.int .i64 0, .int .i64 0, .slice none 0 0, .slice none 0 0, .slice none 0 0] 29 (0, 0)) ∧ rkr R = n + 1

section
variable {B M : Nat} {rk rk2 rkr rk5 rk6 : Nat → Nat} {n : Nat} {w w2 wr w5 wf : World} {g : Nat} {a : Option Addr} {cap : Nat} {cs : List Int} {R O k : Nat} {pL pL' : Option Addr} {cL cL' : Nat}

theorem lst_call (h : LSt B M rk n w g a cap cs R O w2 rk2 k rkr wr pL cL) (hT : Hst rkr wr rk5 w5 g) (hS : Hs B M rk5 w5 g a cap cs) : LSt B M rk n w g a cap cs R O w2 rk2 k rk5 w5 pL cL := by
  obtain ⟨⟨h1, h2, h3, h4, h5, h6⟩, h7, h8, h9, h10⟩ := h
  have hO := h7.ne_row h5 row3_v
  have hR := h7.ne_row h9 row3_v
  have hRl := (Array.getElem?_eq_some_iff.1 h9).1
  have hOl := (Array.getElem?_eq_some_iff.1 h5).1
  have hz := hT.2.1.size
  exact ⟨⟨hS.1, fun b hb => (hT.1 b (by omega)).trans (h2 b hb), h3.shp row3_k hT.2.2 fun _ _ h => h, h4.shp row3_v hT.2.2 fun b hb h => by rw [hT.1 b hb]; exact h, (hT.block hOl hO).trans h5, by omega⟩, hS, h8.trans hT, (hT.block hRl hR).trans h9, (hT.1 R hRl).trans h10⟩

theorem lst_app (h : LSt B M rk n w g a cap cs R O w2 rk2 k rk5 w5 pL cL) (hs : SIy B M rk2 n w2 O 4 0 (k + 1) rk6 wf none 0 pL' cL') (hk : Rks rk5 rk6 w5.heap.size) (ho : Off w2.heap.size O w5 wf) (hg : g < w2.heap.size) (hRO : R < O) (hO : O < w2.heap.size) (hwR : w.heap.size ≤ R) (hBR : B ≤ R) : LSt B M rk n w g a cap cs R O w2 rk2 (k + 1) rk6 wf pL' cL' := by
  obtain ⟨h1, h7, h8, h9, h10⟩ := h
  have hOg := h7.ne_row h1.2.2.2.2.1 row3_v
  have hz5 := h1.2.2.2.2.2
  refine ⟨hs, h7.on hs.1 (ho.2.1 g hg (Ne.symm hOg)) (fun b hb => ho.2.1 b (by omega) (by omega)), ⟨fun b hb => (hk b (by omega)).trans (h8.1 b hb), ⟨ho.1.1.trans h8.2.1.os, ho.1.2.1.trans h8.2.1.tape, ho.1.2.2.1.trans h8.2.1.output, Nat.le_trans h8.2.1.size ho.1.2.2.2, fun b hb hne => (ho.2.1 b (by omega) (by omega)).trans (h8.2.1.block b hb hne)⟩, h8.2.2.trans ho.2.2⟩, (ho.2.1 R (by omega) (by omega)).trans h9, (hk R (by omega)).trans h10⟩
end

/-- What a call of l2draw leaves of a list's state. -/
def LCallD (B M : Nat) (rk : Nat → Nat) (n : Nat) (w : World) (g : Nat) (a : Option Addr) (cap : Nat) (cs : List Int) (R O : Nat) (w2 : World) (rk2 : Nat → Nat) (k : Nat) (pL : Option Addr) (cL : Nat) (e : Ending) (w5 : World) : Prop :=
  ∃ (xk xn : Int) (b2 : Option Addr) (m2 q2 : Nat) (b3 : Option Addr) (m3 q3 : Nat) (b4 : Option Addr) (m4 q4 : Nat) (rk5 : Nat → Nat), e = .returned (.agg #[.int .i64 xk, .int .i64 xn, .slice b2 m2 q2, .slice b3 m3 q3, .slice b4 m4 q4]) ∧
    Grp B M rk5 n w5 (.int .i64 xk, .int .i64 xn, .slice b2 m2 q2, .slice b3 m3 q3, .slice b4 m4 q4) ∧ LSt B M rk n w g a cap cs R O w2 rk2 k rk5 w5 pL cL ∧ w5.cell? ⟨O, 4, none⟩ = some (.slice pL k cL) ∧ ∀ o, (w5.alloc o).cell? ⟨O, 4, none⟩ = some (.slice pL k cL)

theorem lst_drawn {B M : Nat} {rk rk2 rkr : Nat → Nat} {n : Nat} {w w2 wr wy w5 : World} {g : Nat} {a : Option Addr} {cap : Nat} {cs : List Int} {R O k : Nat} {pL : Option Addr} {cL : Nat} {e : Ending} (h : LSt B M rk n w g a cap cs R O w2 rk2 k rkr wr pL cL) (e0 : wy.heap = wr.heap) (e1 : wy.os = wr.os) (e2 : wy.tape = wr.tape) (e3 : wy.output = wr.output) (hd : DrwEnd B M rkr n g a cap cs wy e w5) : LCallD B M rk n w g a cap cs R O w2 rk2 k pL cL e w5 := by
  obtain ⟨xk, xn, b2, m2, q2, b3, m3, q3, b4, m4, q4, rk5, rfl, hG, hS, hT⟩ := hd
  have hL := lst_call h (hT.heap e0 e1 e2 e3) hS
  exact ⟨xk, xn, b2, m2, q2, b3, m3, q3, b4, m4, q4, rk5, rfl, hG, hL, (row5 hL.1.2.2.2.2.1).2.2.2.2.1, (box_later hL.1.2.2.2.2.1).2.2.2.2.1⟩

/-- The texts that are drawn. -/
def texts6 : List (List Int) := [[], [120], [97, 32, 98], [34], [92], [101, 97, 115, 116]]
theorem texts6_ok : ∀ k, k < 6 → (texts6.getD k []).length ≤ 4 ∧ ∀ x ∈ texts6.getD k [], 0 ≤ x ∧ x ≤ 255 := by decide

theorem below_heap {w w' wx : World} (h : Below wx.heap.size wx w') (e : wx.heap = w.heap) (e1 : wx.os = w.os) (e2 : wx.tape = w.tape) (e3 : wx.output = w.output) : Below w.heap.size w w' := ⟨h.os.trans e1, h.tape.trans e2, h.output.trans e3, by rw [← e]; exact h.size, fun b hb => by rw [← e]; exact h.block b (by rw [e]; exact hb)⟩

set_option maxHeartbeats 12800000 in
set_option maxRecDepth 100000 in
theorem l2draw_flat_hs (ρ B M : Nat) (rk : Nat → Nat) (g : Nat) (a : Option Addr) (cap : Nat) (cs : List Int) (deep : Int) (w : World) (h : Hs B M rk w g a cap cs) (hdp : deep ≤ 0) (hM1 : 64 ≤ M) (hM2 : M ≤ 1000000) : Calls Tryz.prog 36 #[.pointer (some ⟨g, 0, none⟩), .int .i64 deep] w (DrwEnd B M rk ρ g a cap cs w) := by
  have hgl := h.lt
  have hB := h.base
  have HA : Hid (∀ o : Obj, Below w.heap.size w (w.alloc o) ∧ (w.alloc o).heap[w.heap.size]? = some o) := fun o => ⟨(Below.refl _ _).alloc (Nat.le_refl _) o, heap_alloc_new w o⟩
  have HL : Hid (∀ (n : Int) (rkx : Nat → Nat) (wx : World), n ≤ 9223372036854775807 → Hs B M rkx wx g a cap cs → _) := fun n rkx wx hn hd => l1Below_hs hd n hn
  have hH0 : Hw B M (rkUp rk w.heap.size ρ) (w.alloc (.cells #[.int .i64 0, .int .i64 0, .slice none 0 0, .slice none 0 0, .slice none 0 0] 29)) := h.1.alloc_v ρ _ _ _ _ _ (grp_leaf _ _ _ _ _ _ _)
  have HS0 : Hid (Hs B M (rkUp rk w.heap.size ρ) (w.alloc (.cells #[.int .i64 0, .int .i64 0, .slice none 0 0, .slice none 0 0, .slice none 0 0] 29)) g a cap cs) := h.below hH0 (HA.out _).1
  have HT0 : Hid (Hst rk w (rkUp rk w.heap.size ρ) (w.alloc (.cells #[.int .i64 0, .int .i64 0, .slice none 0 0, .slice none 0 0, .slice none 0 0] 29)) g) := Hst.below (HA.out _).1 (rkUp_old _ _ _)
  have HkR : Hid (rkUp rk w.heap.size ρ w.heap.size = ρ) := rkUp_at _ _ _
  generalize rkUp rk w.heap.size ρ = rk0 at *
  clear h hH0
  go_enter Tryz.func36, Tryz.ntmps36
  go_wp2_with fail
  refine (HL.out 9 rk0 _ (by omega) HS0.out).mono ?_
  rintro e w1 ⟨k, rfl, hk0, hk9, _, hd1, hg1, hsh1⟩
  have hk9' : k < 9 := hk9 (by omega)
  have HT1 : Hid (Hst rk w rk0 w1 g) := HT0.out.trans (Hst.cus hg1 hsh1)
  have hr1 := (hg1.1.block w.heap.size (by simp) (by simp; omega)).trans (HA.out _).2
  have hz1 : w.heap.size < w1.heap.size := (Array.getElem?_eq_some_iff.1 hr1).1
  have HR1 := hide' hr1
  have HS1 := hide' hd1
  clear hd1 hg1 hr1 hk9 HS0 hsh1 HT0
  by_cases k0 : k = 0
  · subst k0
    obtain ⟨r0, r1, r2, r3, r4, rf⟩ := row5 HR1.out
    have f0 := rf 0
    have f1 := rf 1
    have f2 := rf 2
    have f3 := rf 3
    have f4 := rf 4
    clear rf
    go_wp2_with fail
    have hfin := row5 (set5_heap (j := 0) (.int .i64 0) (.int .i64 0) (.slice none 0 0) (.slice none 0 0) (.slice none 0 0) HR1.out)
    simp only [set5, Nat.zero_add] at hfin
    obtain ⟨o0, o1, o2, o3, o4, _⟩ := hfin
    refine bodyPost_ret (v := .agg #[.int .i64 0, .int .i64 0, .slice none 0 0, .slice none 0 0, .slice none 0 0]) (by simp [results, Tryz.results36, go_sem, o0, o1, o2, o3, o4]) rfl ?_
    exact drw_end HS1.out HT1.out HR1.out (Nat.le_refl _) hB (grp_leaf _ _ _ _ _ _ _) (by rw [HkR.out]; exact Nat.le_refl _)
  · have k0' : (k == 0) = false := by simp [k0]
    by_cases k1 : k = 1
    · subst k1
      have HL1 := hide' (HL.out 2 rk0 w1 (by omega) HS1.out)
      go_wp2_with fail
      refine HL1.out.mono ?_
      rintro e w2 ⟨n2, rfl, hn0, hn2, _, hd2, hg2, hsh2⟩
      have HS2 := hide' hd2
      have HT2 := hide' (HT1.out.trans (Hst.cus hg2 hsh2))
      have HR2 := hide' ((hg2.1.block w.heap.size hz1 (by simp; omega)).trans HR1.out)
      have hz2 := Nat.le_of_eq hg2.2.symm
      clear hd2 hg2 hsh2 HL1
      clear hn2
      obtain ⟨r0, r1, r2, r3, r4, rf⟩ := row5 HR2.out
      have f0 := rf 0
      have f1 := rf 1
      have f2 := rf 2
      have f3 := rf 3
      have f4 := rf 4
      clear rf
      go_wp2_with fail
      have hfin := row5 (set5_heap (j := 0) (.int .i64 1) (.int .i64 n2) (.slice none 0 0) (.slice none 0 0) (.slice none 0 0) HR2.out)
      simp only [set5, Nat.zero_add] at hfin
      obtain ⟨o0, o1, o2, o3, o4, _⟩ := hfin
      refine bodyPost_ret (v := .agg #[.int .i64 1, .int .i64 n2, .slice none 0 0, .slice none 0 0, .slice none 0 0]) (by simp [results, Tryz.results36, go_sem, o0, o1, o2, o3, o4]) rfl ?_
      exact drw_end HS2.out HT2.out HR2.out (Nat.le_refl _) hB (grp_leaf _ _ _ _ _ _ _) (by rw [HkR.out]; exact Nat.le_refl _)
    · have k1' : (k == 1) = false := by simp [k1]
      have HL1 := hide' (HL.out 5000 rk0 w1 (by omega) HS1.out)
      have hdp' : ¬ (0 : Int) < deep := by omega
      go_wp2_with fail
      all_goals
        refine HL1.out.mono ?_
        rintro e w2 ⟨z, rfl, hz0, hzn, _, hd2, hg2, hsh2⟩
        have HS2 := hide' hd2
        have HT2 := hide' (HT1.out.trans (Hst.cus hg2 hsh2))
        have HR2 := hide' ((hg2.1.block w.heap.size hz1 (by simp; omega)).trans HR1.out)
        have hz2 := Nat.le_of_eq hg2.2.symm
        clear hd2 hg2 hsh2 HL1
        clear hzn
        have HA2 : Hid (∀ o : Obj, Below w2.heap.size w2 (w2.alloc o) ∧ (w2.alloc o).heap[w2.heap.size]? = some o) := fun o => ⟨(Below.refl _ _).alloc (Nat.le_refl _) o, heap_alloc_new w2 o⟩
        have HC : Hid (∀ k, k < 8 → ∃ y : Int, (w2.alloc (.cells #[.int .i64 0, .int .i64 1, .int .i64 (-1), .int .i64 7, .int .i64 42, .int .i64 1000000000000, .int .i64 (-1000000000000), .int .i64 z] 3)).cell? ⟨w2.heap.size, k, none⟩ = some (.int .i64 y)) := by
          intro k hk
          rw [cell_of_row _ w2.heap.size k _ 3 (0, 0) (HA2.out _).2]
          obtain rfl | rfl | rfl | rfl | rfl | rfl | rfl | rfl : k = 0 ∨ k = 1 ∨ k = 2 ∨ k = 3 ∨ k = 4 ∨ k = 5 ∨ k = 6 ∨ k = 7 := by omega
          all_goals exact ⟨_, rfl⟩
        have hHx := HS2.out.below (HS2.out.1.alloc_other #[.int .i64 0, .int .i64 1, .int .i64 (-1), .int .i64 7, .int .i64 42, .int .i64 1000000000000, .int .i64 (-1000000000000), .int .i64 z] 3 (0, 0) (by decide)) (HA2.out _).1
        have hgl2 := HS2.out.lt
        have HPk := hide' (l1PickInt_hs hHx w2.heap.size 8 8 (by omega) (by omega) (by omega) (by simp) HC.out)
        clear HC hHx
        go_wp2_with fail
        refine HPk.out.mono ?_
        rintro e w3 ⟨n3, rfl, hd3, hg3, hsh3⟩
        have HS3 := hide' hd3
        have HT3 := hide' (HT2.out.trans ((Hst.below (HA2.out _).1 (Rks.refl _ _)).trans (Hst.cus hg3 hsh3)))
        have HR3 := hide' ((hg3.1.block w.heap.size (by simp; omega) (by simp; omega)).trans (((HA2.out _).1.block w.heap.size (by omega)).trans HR2.out))
        clear hd3 hg3 HPk hsh3
        obtain ⟨r0, r1, r2, r3, r4, rf⟩ := row5 HR3.out
        have f0 := rf 0
        have f1 := rf 1
        have f2 := rf 2
        have f3 := rf 3
        have f4 := rf 4
        clear rf
        go_wp2_with fail
        have hfin := row5 (set5_heap (j := 0) (.int .i64 2) (.int .i64 n3) (.slice none 0 0) (.slice none 0 0) (.slice none 0 0) HR3.out)
        simp only [set5, Nat.zero_add] at hfin
        obtain ⟨o0, o1, o2, o3, o4, _⟩ := hfin
        refine bodyPost_ret (v := .agg #[.int .i64 2, .int .i64 n3, .slice none 0 0, .slice none 0 0, .slice none 0 0]) (by simp [results, Tryz.results36, go_sem, o0, o1, o2, o3, o4]) rfl ?_
        exact drw_end HS3.out HT3.out HR3.out (Nat.le_refl _) hB (grp_leaf _ _ _ _ _ _ _) (by rw [HkR.out]; exact Nat.le_refl _)
end Go.Proofs.YteafpgaefphkfaaGreatDoor
