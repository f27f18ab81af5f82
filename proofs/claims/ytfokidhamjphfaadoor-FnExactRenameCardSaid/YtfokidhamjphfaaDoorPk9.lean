/-
  Texts that a law leans on, one behind the other; no statement is proved here.
-/
import Derived.Test.YtfokidhamjphfaaDoorPk3
/-
  szByteSS, szValueS, szValue of the laws: what is left of a bound behind a value's weight, or -1.
-/
namespace Go.Proofs.YtfokidhamjphfaaDoor
open Go.RowKit
set_option linter.unusedVariables false

set_option maxHeartbeats 800000 in
theorem szByteSS_any (R : Nat → Prop) (v : Value) (ks : List (List Int)) (l : Int) (w : World) (hk : KSeg R w v ks) (h0 : 0 ≤ l) (h1 : l ≤ 1048576) :
    Calls Tryd.prog 33 #[v, .int .i64 l] w fun e w' => e = .returned (.int .i64 (less l (szK ks))) ∧ w = w' := by
  obtain ⟨a, cap, rfl, hlc, hcm, ka, hc⟩ := hk
  unfold maxLen at hcm
  have hsz : szK ks = ks.length + (ks.map List.length).sum := rfl
  by_cases h : l < ks.length
  · have HO : Hid (less l (szK ks) = -1) := less_no l _ (by rw [hsz]; omega)
    have h' : l - (ks.length : Int) < 0 := by omega
    clear hsz
    go_enter Tryd.func33, Tryd.ntmps33
    go_wp2
    go_ret
    exact ⟨ret_i64 (by rw [HO.out]), rfl⟩
  · have h' : ¬ l - (ks.length : Int) < 0 := by omega
    have hpre := pre_le List.length ks
    have Hpre := fun k (hk : k < ks.length) => pre_succ List.length ks k hk
    have HP : Hid (∀ k (hk : k < ks.length), pre List.length ks (k + 1) = pre List.length ks k + ks[k].length) := Hpre
    have HL : Hid (∀ k, pre List.length ks k ≤ (ks.map List.length).sum) := hpre
    have HZ : Hid (szK ks = ks.length + (ks.map List.length).sum) := hsz
    have HA : Hid (pre List.length ks ks.length = (ks.map List.length).sum) := pre_all _ _
    have HC : Hid (ks = [] ∨ ∃ b off, a = some ⟨b, off, none⟩ ∧ R b ∧ ∀ i, i < ks.length → ∃ u, w.cell? ⟨b, off + i, none⟩ = some u ∧ TSeg R w u (ks.getD i [])) := hc
    clear hsz hpre Hpre hc
    go_enter Tryd.func33, Tryd.ntmps33
    go_wp2
    go_loopw [1, 5] (fun l' i wr => ∃ (k : Nat), k ≤ ks.length ∧ i = .int .i64 k ∧ (pre List.length ks k : Int) ≤ l - ks.length ∧ l' = .int .i64 (l - ks.length - pre List.length ks k) ∧ wr = w) (fun _ i _ => ks.length - (intOf i).toNat)
    case atStart => exact ⟨0, Nat.zero_le _, rfl, by rw [pre_zero]; omega, by rw [pre_zero]; simp, rfl⟩
    case round =>
      obtain ⟨k, hk, rfl, hle, rfl, rfl⟩ := hrel
      have hpk := HL.out k
      by_cases hlt : k < ks.length
      · have hps := HP.out k hlt
        have hcell : ∃ b off u, a = some ⟨b, off, none⟩ ∧ wr.cell? ⟨b, off + k, none⟩ = some u ∧ TSeg R wr u (ks.getD k []) := by
          rcases HC.out with e | ⟨b, off, e, _, hc⟩
          · rw [e] at hlt; simp at hlt
          · obtain ⟨u, hu, ht⟩ := hc k hlt
            exact ⟨b, off, u, e, hu, ht⟩
        obtain ⟨b, off, u, rfl, hu, a2, c2, rfl, s2, hl2, hm2, k2, _⟩ := hcell
        have hgk : (ks.getD k []).length = ks[k].length := by simp [List.getD_eq_getElem?_getD, hlt]
        rw [hgk] at hl2 hu
        generalize ks[k].length = m at *
        have hm3 : m ≤ maxLen := by omega
        generalize hp0 : pre List.length ks k = p at *
        have Hps : Hid (pre List.length ks (k + 1) = p + m) := hps
        clear hps hgk hp0 s2
        unfold maxLen at hm2
        have hlt' : (k : Int) < (ks.length : Int) := by omega
        go_wp2_with fail
        refine (szByteS_any _ m _ _ _ (by omega) (by omega) hm3).mono ?_
        rintro e w1 ⟨rfl, e1⟩
        obtain rfl := e1
        by_cases hbad : l - ks.length - p < m
        · rw [less_no _ _ hbad]
          have HO : Hid (less l (szK ks) = -1) := less_no l _ (by have := HZ.out; have := Hps.out; have := HL.out (k + 1); omega)
          go_wp2
          go_ret
          exact ⟨ret_i64 (by rw [HO.out]), rfl⟩
        · rw [less_yes _ _ hbad]
          have hpos : ¬ (l - ks.length - p - m < 0) := by omega
          go_wp2
          go_roundw
          case rel => exact ⟨k + 1, by omega, by go_num, by have := Hps.out; omega, by have := Hps.out; rw [this]; go_num, by first | rfl | trivial⟩
          case measure => simp [intOf]; omega
      · have hkn : k = ks.length := by omega
        have HO : Hid (less l (szK ks) = l - ks.length - pre List.length ks k) := by
          show less l (szK ks) = _
          have h1 := HZ.out
          have h2 := HA.out
          rw [less_yes _ _ (by rw [← hkn] at h2; omega), hkn]
          omega
        have hkn' : ¬ (k : Int) < (ks.length : Int) := by omega
        clear hkn
        go_wp2
        go_ret
        exact ⟨ret_i64 (by rw [HO.out]), rfl⟩

/-- The contract of szValue at depth d. -/
def SzAt (d : Nat) : Prop := ∀ (N : Nat) (c : Value × Value × Value × Value × Value) (v : Vl d) (l : Int) (w : World), VSeg (fun b => b < N) w d c v → N ≤ w.heap.size → 0 ≤ l → l ≤ 1048576 →
  Calls Tryd.prog 13 #[.agg #[c.1, c.2.1, c.2.2.1, c.2.2.2.1, c.2.2.2.2], .int .i64 l] w fun e w' => e = .returned (.int .i64 (less l (szV d v))) ∧ Below w.heap.size w w'

set_option maxHeartbeats 1600000 in
theorem szValueS_of (d : Nat) (ih : SzAt d) (N : Nat) (x : Value) (l : List (Vl d)) (m : Int) (w : World) (hx : LSeg (fun b => b < N) w d x l) (hN : N ≤ w.heap.size) (h0 : 0 ≤ m) (h1 : m ≤ 1048576) :
    Calls Tryd.prog 34 #[x, .int .i64 m] w fun e w' => e = .returned (.int .i64 (less m (szL d l))) ∧ Below w.heap.size w w' := by
  obtain ⟨a, cap, rfl, hlc, hcm, ka, hc⟩ := hx
  unfold maxLen at hcm
  have hsz : szL d l = l.length + (l.map (szV d)).sum := rfl
  by_cases h : m < l.length
  · have HO : Hid (less m (szL d l) = -1) := less_no m _ (by rw [hsz]; omega)
    have h' : m - (l.length : Int) < 0 := by omega
    clear hsz
    go_enter Tryd.func34, Tryd.ntmps34
    go_wp2
    go_ret
    exact ⟨ret_i64 (by rw [HO.out]), Below.refl _ _⟩
  · have h' : ¬ m - (l.length : Int) < 0 := by omega
    have HP : Hid (∀ k (hk : k < l.length), pre (szV d) l (k + 1) = pre (szV d) l k + szV d l[k]) := fun k hk => pre_succ (szV d) l k hk
    have HL : Hid (∀ k, pre (szV d) l k ≤ (l.map (szV d)).sum) := pre_le (szV d) l
    have HZ : Hid (szL d l = l.length + (l.map (szV d)).sum) := hsz
    have HA : Hid (pre (szV d) l l.length = (l.map (szV d)).sum) := pre_all _ _
    have HC : Hid (l = [] ∨ ∃ b off, a = some ⟨b, off, none⟩ ∧ b < N ∧ ∀ i (h : i < l.length), ∃ e, Five w b (off + i * 5) e ∧ VSeg (fun b => b < N) w d e (l[i])) := hc
    have HI : Hid (SzAt d) := ih
    clear hsz hc ih
    go_enter Tryd.func34, Tryd.ntmps34
    go_wp2
    go_loopw [1, 5] (fun l' i wr => ∃ (k : Nat), k ≤ l.length ∧ i = .int .i64 k ∧ (pre (szV d) l k : Int) ≤ m - l.length ∧ l' = .int .i64 (m - l.length - pre (szV d) l k) ∧ Below w.heap.size w wr) (fun _ i _ => l.length - (intOf i).toNat)
    case atStart => exact ⟨0, Nat.zero_le _, rfl, by rw [pre_zero]; omega, by rw [pre_zero]; simp, Below.refl _ _⟩
    case round =>
      obtain ⟨k, hk, rfl, hle, rfl, hbel⟩ := hrel
      have hpk := HL.out k
      have hsz2 := hbel.size
      by_cases hlt : k < l.length
      · have hps := HP.out k hlt
        have hcell : ∃ b off e, a = some ⟨b, off, none⟩ ∧ Five wr b (off + k * 5) e ∧ VSeg (fun b => b < N) wr d e (l[k]) := by
          rcases HC.out with e | ⟨b, off, e, hb, hc⟩
          · rw [e] at hlt; simp at hlt
          · obtain ⟨c, h5, hv⟩ := hc k hlt
            have ag : Agree (fun b => b < N) w wr := agree_below (hbel.mono hN)
            exact ⟨b, off, c, e, h5.agree ag hb, VSeg.agree ag d hv⟩
        obtain ⟨b, off, c, rfl, h5, hv⟩ := hcell
        obtain ⟨c0, c1, c2, c3, c4⟩ := c
        obtain ⟨q0, q1, q2, q3, q4⟩ := h5
        simp only at q0 q1 q2 q3 q4
        generalize hp0 : pre (szV d) l k = p at *
        have Hps : Hid (pre (szV d) l (k + 1) = p + szV d l[k]) := hps
        have HV : Hid (VSeg (fun b => b < N) wr d (c0, c1, c2, c3, c4) l[k]) := hv
        clear hps hp0 hv
        have hlt' : (k : Int) < (l.length : Int) := by omega
        go_wp2_with fail
        refine (HI.out N (c0, c1, c2, c3, c4) l[k] _ wr HV.out (by omega) (by omega) (by omega)).mono ?_
        rintro e w1 ⟨rfl, b1⟩
        have B1 := Below.on hbel b1
        generalize szV d l[k] = q at *
        clear b1 HV q0 q1 q2 q3 q4
        by_cases hbad : m - l.length - p < q
        · rw [less_no _ _ hbad]
          have HO : Hid (less m (szL d l) = -1) := less_no m _ (by have := HZ.out; have := Hps.out; have := HL.out (k + 1); omega)
          go_wp2
          go_ret
          exact ⟨ret_i64 (by rw [HO.out]), B1⟩
        · rw [less_yes _ _ hbad]
          have hpos : ¬ (m - l.length - p - q < 0) := by omega
          go_wp2
          go_roundw
          case rel => exact ⟨k + 1, by omega, by go_num, by have := Hps.out; omega, by have := Hps.out; rw [this]; go_num, B1⟩
          case measure => simp [intOf]; omega
      · have hkn : k = l.length := by omega
        have HO : Hid (less m (szL d l) = m - l.length - pre (szV d) l k) := by
          show less m (szL d l) = _
          have h1 := HZ.out
          have h2 := HA.out
          rw [less_yes _ _ (by rw [← hkn] at h2; omega), hkn]
          omega
        have hkn' : ¬ (k : Int) < (l.length : Int) := by omega
        clear hkn
        go_wp2
        go_ret
        exact ⟨ret_i64 (by rw [HO.out]), hbel⟩

set_option maxHeartbeats 1600000 in
theorem szValue_succ (d : Nat) (ih : SzAt d) : SzAt (d + 1) := by
  intro N c v l w hv hN h0 h1
  obtain ⟨c0, c1, c2, c3, c4⟩ := c
  obtain ⟨vk, vn, vs, vK, vL⟩ := v
  obtain ⟨e0, e1, ht, hk, hl⟩ := (VSeg_succ _ _ _ _ _).1 hv
  simp only at e0 e1 ht hk hl
  subst e0
  subst e1
  have hsz : szV (d + 1) (vk, vn, vs, vK, vL) = vs.length + szK vK + szL d vL := rfl
  rw [hsz]
  clear hsz hv
  simp only
  have b0 : ∀ o : Obj, Below w.heap.size w (w.alloc o) := fun o => (Below.refl _ _).alloc (Nat.le_refl _) o
  have hN1 : ∀ o : Obj, N ≤ (w.alloc o).heap.size := fun o => by simp; omega
  have hkA : ∀ o : Obj, KSeg (fun b => b < N) (w.alloc o) c3 vK := fun o => hk.agree (agree_below ((b0 o).mono hN))
  have hlA : ∀ o : Obj, LSeg (fun b => b < N) (w.alloc o) d c4 vL := fun o => hl.agree (agree_below ((b0 o).mono hN))
  have HkA := hkA
  have Hk : Hid (∀ o : Obj, KSeg (fun b => b < N) (w.alloc o) c3 vK) := hkA
  have Hl : Hid (∀ o : Obj, LSeg (fun b => b < N) (w.alloc o) d c4 vL) := hlA
  have HI : Hid (SzAt d) := ih
  have Hb : Hid (∀ o : Obj, Below w.heap.size w (w.alloc o)) := b0
  obtain ⟨a3, cp3, rfl, _, _, _, _⟩ := hk
  obtain ⟨a4, cp4, rfl, _, _, _, _⟩ := hl
  obtain ⟨a2, cp2, rfl, s2, hl2, hm2, _, _⟩ := ht
  clear hkA hlA HkA ih b0
  have hn2 : vs.length ≤ maxLen := by omega
  go_enter Tryd.func13, Tryd.ntmps13
  go_wp2_with fail
  refine (szByteS_any _ vs.length _ l _ h0 h1 hn2).mono ?_
  rintro e w1 ⟨rfl, e1⟩
  obtain rfl := e1
  by_cases hb1 : l < vs.length
  · rw [less_no _ _ hb1]
    have HO : Hid (less l (vs.length + szK vK + szL d vL) = -1) := less_no _ _ (by omega)
    go_wp2
    go_ret
    exact ⟨ret_i64 (by rw [HO.out]), Hb.out _⟩
  · have hq1 : 0 ≤ l - (vs.length : Int) := by omega
    have hq2 : l - (vs.length : Int) ≤ 1048576 := by omega
    rw [less_yes _ _ hb1]
    go_wp2_with fail
    refine (szByteSS_any _ _ vK (l - vs.length) _ (Hk.out _) hq1 hq2).mono ?_
    rintro e w1 ⟨rfl, e1⟩
    obtain rfl := e1
    by_cases hb2 : l - vs.length < szK vK
    · rw [less_no _ _ hb2]
      have HO : Hid (less l (vs.length + szK vK + szL d vL) = -1) := less_no _ _ (by omega)
      go_wp2
      go_ret
      exact ⟨ret_i64 (by rw [HO.out]), Hb.out _⟩
    · rw [less_yes _ _ hb2]
      have hq3 : 0 ≤ l - (vs.length : Int) - (szK vK : Nat) := by omega
      have hq4 : l - (vs.length : Int) - (szK vK : Nat) ≤ 1048576 := by omega
      go_wp2_with fail
      refine (szValueS_of d HI.out N _ vL (l - vs.length - (szK vK : Nat)) _ (Hl.out _) (hN1 _) hq3 hq4).mono ?_
      rintro e w2 ⟨rfl, b2⟩
      have B2 := Below.on (Hb.out _) b2
      by_cases hb3 : l - vs.length - (szK vK : Nat) < szL d vL
      · rw [less_no _ _ hb3]
        have HO : Hid (less l (vs.length + szK vK + szL d vL) = -1) := less_no _ _ (by omega)
        go_wp2
        go_ret
        exact ⟨ret_i64 (by rw [HO.out]), B2⟩
      · rw [less_yes _ _ hb3]
        have HO : Hid (less l (vs.length + szK vK + szL d vL) = l - vs.length - (szK vK : Nat) - (szL d vL : Nat)) := by
          show less l (vs.length + szK vK + szL d vL) = _
          rw [less_yes _ _ (by omega)]
          omega
        have hq5 : ¬ (l - (vs.length : Int) - (szK vK : Nat) - (szL d vL : Nat) < 0) := by omega
        go_wp2
        go_ret
        exact ⟨ret_i64 (by rw [HO.out]), B2⟩

theorem szValue_any (d : Nat) : SzAt d := by
  induction d with
  | zero => intro N c v l w hv; exact hv.elim
  | succ d ih => exact szValue_succ d ih
end Go.Proofs.YtfokidhamjphfaaDoor
