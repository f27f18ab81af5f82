/-
  Texts that a law leans on, one behind the other; no statement is proved here.
-/
import Derived.Test.YtcgmfmdoconecaaDoorPk0
/-
  szByteSS, szValueS, szValue of the laws: what is left of a bound behind a value's weight, or -1.
-/
namespace Go.Proofs.YtcgmfmdoconecaaDoor
open Go.RowKit
set_option linter.unusedVariables false

set_option maxHeartbeats 800000 in
theorem szByteSS_any (R : Nat → Prop) (v : Value) (ks : List (List Int)) (l : Int) (w : World) (hk : KSeg R w v ks) (h0 : 0 ≤ l) (h1 : l ≤ 1048576) :
    Calls Tryd.prog 17 #[v, .int .i64 l] w fun e w' => e = .returned (.int .i64 (less l (szK ks))) ∧ w = w' := by
  obtain ⟨a, cap, rfl, hlc, hcm, ka, hc⟩ := hk
  unfold maxLen at hcm
  have hsz : szK ks = ks.length + (ks.map List.length).sum := rfl
  by_cases h : l < ks.length
  · have HO : Hid (less l (szK ks) = -1) := less_no l _ (by rw [hsz]; omega)
    have h' : l - (ks.length : Int) < 0 := by omega
    clear hsz
    go_enter Tryd.func17, Tryd.ntmps17
    go_wp2
    go_ret
    exact ⟨ret_i64 (by rw [HO.out]), rfl⟩
  · have h' : ¬ l - (ks.length : Int) < 0 := by omega
    have hpre := pre_le List.length ks
    have Hpre := fun k (hk : k < ks.length) => pre_succ List.length ks k hk
    have HP : Hid (∀ k (hk : k < ks.length), pre List.length ks (k + 1) = pre List.length ks k + ks[k].length) := Hpre
    have HL : Hid (∀ k, pre List.length ks k ≤ (ks.map List.length).sum) := hpre
    have HZ : Hid (szK ks = ks.length + (ks.map List.length).sum) := hsz
    have HA : Hid (pre List.length ks ks.length = (ks.map List.length).sum) := pre_all _ _
    have HC : Hid (ks = [] ∨ ∃ b off, a = some ⟨b, off, none⟩ ∧ R b ∧ ∀ i, i < ks.length → ∃ u, w.cell? ⟨b, off + i, none⟩ = some u ∧ TSeg R w u (ks.getD i [])) := hc
    clear hsz hpre Hpre hc
    go_enter Tryd.func17, Tryd.ntmps17
    go_wp2
    go_loopw [1, 5] (fun l' i wr => ∃ (k : Nat), k ≤ ks.length ∧ i = .int .i64 k ∧ (pre List.length ks k : Int) ≤ l - ks.length ∧ l' = .int .i64 (l - ks.length - pre List.length ks k) ∧ wr = w) (fun _ i _ => ks.length - (intOf i).toNat)
    case atStart => exact ⟨0, Nat.zero_le _, rfl, by rw [pre_zero]; omega, by rw [pre_zero]; simp, rfl⟩
    case round =>
      obtain ⟨k, hk, rfl, hle, rfl, rfl⟩ := hrel
      have hpk := HL.out k
      by_cases hlt : k < ks.length
      · have hps := HP.out k hlt
        have hcell : ∃ b off u, a = some ⟨b, off, none⟩ ∧ wr.cell? ⟨b, off + k, none⟩ = some u ∧ TSeg R wr u (ks.getD k []) := by
          rcases HC.out with e | ⟨b, off, e, _, hc⟩
          · rw [e] at hlt; simp at hlt
          · obtain ⟨u, hu, ht⟩ := hc k hlt
            exact ⟨b, off, u, e, hu, ht⟩
        obtain ⟨b, off, u, rfl, hu, a2, c2, rfl, s2, hl2, hm2, k2, _⟩ := hcell
        have hgk : (ks.getD k []).length = ks[k].length := by simp [List.getD_eq_getElem?_getD, hlt]
        rw [hgk] at hl2 hu
        generalize ks[k].length = m at *
        have hm3 : m ≤ maxLen := by omega
        generalize hp0 : pre List.length ks k = p at *
        have Hps : Hid (pre List.length ks (k + 1) = p + m) := hps
        clear hps hgk hp0 s2
        unfold maxLen at hm2
        have hlt' : (k : Int) < (ks.length : Int) := by omega
        go_wp2_with fail
        refine (szByteS_any _ m _ _ _ (by omega) (by omega) hm3).mono ?_
        rintro e w1 ⟨rfl, e1⟩
        obtain rfl := e1
        by_cases hbad : l - ks.length - p < m
        · rw [less_no _ _ hbad]
          have HO : Hid (less l (szK ks) = -1) := less_no l _ (by have := HZ.out; have := Hps.out; have := HL.out (k + 1); omega)
          go_wp2
          go_ret
          exact ⟨ret_i64 (by rw [HO.out]), rfl⟩
        · rw [less_yes _ _ hbad]
          have hpos : ¬ (l - ks.length - p - m < 0) := by omega
          go_wp2
          go_roundw
          case rel => exact ⟨k + 1, by omega, by go_num, by have := Hps.out; omega, by have := Hps.out; rw [this]; go_num, by first | rfl | trivial⟩
          case measure => simp [intOf]; omega
      · have hkn : k = ks.length := by omega
        have HO : Hid (less l (szK ks) = l - ks.length - pre List.length ks k) := by
          show less l (szK ks) = _
          have h1 := HZ.out
          have h2 := HA.out
          rw [less_yes _ _ (by rw [← hkn] at h2; omega), hkn]
          omega
        have hkn' : ¬ (k : Int) < (ks.length : Int) := by omega
        clear hkn
        go_wp2
        go_ret
        exact ⟨ret_i64 (by rw [HO.out]), rfl⟩

/-- The contract of szValue at depth d. -/
def SzAt (d : Nat) : Prop := ∀ (N : Nat) (c : Value × Value × Value × Value × Value) (v : Vl d) (l : Int) (w : World), VSeg (fun b => b < N) w d c v → N ≤ w.heap.size → 0 ≤ l → l ≤ 1048576 →
  Calls Tryd.prog 5 #[.agg #[c.1, c.2.1, c.2.2.1, c.2.2.2.1, c.2.2.2.2], .int .i64 l] w fun e w' => e = .returned (.int .i64 (less l (szV d v))) ∧ Below w.heap.size w w'

set_option maxHeartbeats 1600000 in
theorem szValueS_of (d : Nat) (ih : SzAt d) (N : Nat) (x : Value) (l : List (Vl d)) (m : Int) (w : World) (hx : LSeg (fun b => b < N) w d x l) (hN : N ≤ w.heap.size) (h0 : 0 ≤ m) (h1 : m ≤ 1048576) :
    Calls Tryd.prog 18 #[x, .int .i64 m] w fun e w' => e = .returned (.int .i64 (less m (szL d l))) ∧ Below w.heap.size w w' := by
  obtain ⟨a, cap, rfl, hlc, hcm, ka, hc⟩ := hx
  unfold maxLen at hcm
  have hsz : szL d l = l.length + (l.map (szV d)).sum := rfl
  by_cases h : m < l.length
  · have HO : Hid (less m (szL d l) = -1) := less_no m _ (by rw [hsz]; omega)
    have h' : m - (l.length : Int) < 0 := by omega
    clear hsz
    go_enter Tryd.func18, Tryd.ntmps18
    go_wp2
    go_ret
    exact ⟨ret_i64 (by rw [HO.out]), Below.refl _ _⟩
  · have h' : ¬ m - (l.length : Int) < 0 := by omega
    have HP : Hid (∀ k (hk : k < l.length), pre (szV d) l (k + 1) = pre (szV d) l k + szV d l[k]) := fun k hk => pre_succ (szV d) l k hk
    have HL : Hid (∀ k, pre (szV d) l k ≤ (l.map (szV d)).sum) := pre_le (szV d) l
    have HZ : Hid (szL d l = l.length + (l.map (szV d)).sum) := hsz
    have HA : Hid (pre (szV d) l l.length = (l.map (szV d)).sum) := pre_all _ _
    have HC : Hid (l = [] ∨ ∃ b off, a = some ⟨b, off, none⟩ ∧ b < N ∧ ∀ i (h : i < l.length), ∃ e, Five w b (off + i * 5) e ∧ VSeg (fun b => b < N) w d e (l[i])) := hc
    have HI : Hid (SzAt d) := ih
    clear hsz hc ih
    go_enter Tryd.func18, Tryd.ntmps18
    go_wp2
    go_loopw [1, 5] (fun l' i wr => ∃ (k : Nat), k ≤ l.length ∧ i = .int .i64 k ∧ (pre (szV d) l k : Int) ≤ m - l.length ∧ l' = .int .i64 (m - l.length - pre (szV d) l k) ∧ Below w.heap.size w wr) (fun _ i _ => l.length - (intOf i).toNat)
    case atStart => exact ⟨0, Nat.zero_le _, rfl, by rw [pre_zero]; omega, by rw [pre_zero]; simp, Below.refl _ _⟩
    case round =>
      obtain ⟨k, hk, rfl, hle, rfl, hbel⟩ := hrel
      have hpk := HL.out k
      have hsz2 := hbel.size
      by_cases hlt : k < l.length
      · have hps := HP.out k hlt
        have hcell : ∃ b off e, a = some ⟨b, off, none⟩ ∧ Five wr b (off + k * 5) e ∧ VSeg (fun b => b < N) wr d e (l[k]) := by
          rcases HC.out with e | ⟨b, off, e, hb, hc⟩
          · rw [e] at hlt; simp at hlt
          · obtain ⟨c, h5, hv⟩ := hc k hlt
            have ag : Agree (fun b => b < N) w wr := agree_below (hbel.mono hN)
            exact ⟨b, off, c, e, h5.agree ag hb, VSeg.agree ag d hv⟩
        obtain ⟨b, off, c, rfl, h5, hv⟩ := hcell
        obtain ⟨c0, c1, c2, c3, c4⟩ := c
        obtain ⟨q0, q1, q2, q3, q4⟩ := h5
        simp only at q0 q1 q2 q3 q4
        generalize hp0 : pre (szV d) l k = p at *
        have Hps : Hid (pre (szV d) l (k + 1) = p + szV d l[k]) := hps
        have HV : Hid (VSeg (fun b => b < N) wr d (c0, c1, c2, c3, c4) l[k]) := hv
        clear hps hp0 hv
        have hlt' : (k : Int) < (l.length : Int) := by omega
        go_wp2_with fail
        refine (HI.out N (c0, c1, c2, c3, c4) l[k] _ wr HV.out (by omega) (by omega) (by omega)).mono ?_
        rintro e w1 ⟨rfl, b1⟩
        have B1 := Below.on hbel b1
        generalize szV d l[k] = q at *
        clear b1 HV q0 q1 q2 q3 q4
        by_cases hbad : m - l.length - p < q
        · rw [less_no _ _ hbad]
          have HO : Hid (less m (szL d l) = -1) := less_no m _ (by have := HZ.out; have := Hps.out; have := HL.out (k + 1); omega)
          go_wp2
          go_ret
          exact ⟨ret_i64 (by rw [HO.out]), B1⟩
        · rw [less_yes _ _ hbad]
          have hpos : ¬ (m - l.length - p - q < 0) := by omega
          go_wp2
          go_roundw
          case rel => exact ⟨k + 1, by omega, by go_num, by have := Hps.out; omega, by have := Hps.out; rw [this]; go_num, B1⟩
          case measure => simp [intOf]; omega
      · have hkn : k = l.length := by omega
        have HO : Hid (less m (szL d l) = m - l.length - pre (szV d) l k) := by
          show less m (szL d l) = _
          have h1 := HZ.out
          have h2 := HA.out
          rw [less_yes _ _ (by rw [← hkn] at h2; omega), hkn]
          omega
        have hkn' : ¬ (k : Int) < (l.length : Int) := by omega
        clear hkn
        go_wp2
        go_ret
        exact ⟨ret_i64 (by rw [HO.out]), hbel⟩

set_option maxHeartbeats 1600000 in
theorem szValue_succ (d : Nat) (ih : SzAt d) : SzAt (d + 1) := by
  intro N c v l w hv hN h0 h1
  obtain ⟨c0, c1, c2, c3, c4⟩ := c
  obtain ⟨vk, vn, vs, vK, vL⟩ := v
  obtain ⟨e0, e1, ht, hk, hl⟩ := (VSeg_succ _ _ _ _ _).1 hv
  simp only at e0 e1 ht hk hl
  subst e0
  subst e1
  have hsz : szV (d + 1) (vk, vn, vs, vK, vL) = vs.length + szK vK + szL d vL := rfl
  rw [hsz]
  clear hsz hv
  simp only
  have b0 : ∀ o : Obj, Below w.heap.size w (w.alloc o) := fun o => (Below.refl _ _).alloc (Nat.le_refl _) o
  have hN1 : ∀ o : Obj, N ≤ (w.alloc o).heap.size := fun o => by simp; omega
  have hkA : ∀ o : Obj, KSeg (fun b => b < N) (w.alloc o) c3 vK := fun o => hk.agree (agree_below ((b0 o).mono hN))
  have hlA : ∀ o : Obj, LSeg (fun b => b < N) (w.alloc o) d c4 vL := fun o => hl.agree (agree_below ((b0 o).mono hN))
  have HkA := hkA
  have Hk : Hid (∀ o : Obj, KSeg (fun b => b < N) (w.alloc o) c3 vK) := hkA
  have Hl : Hid (∀ o : Obj, LSeg (fun b => b < N) (w.alloc o) d c4 vL) := hlA
  have HI : Hid (SzAt d) := ih
  have Hb : Hid (∀ o : Obj, Below w.heap.size w (w.alloc o)) := b0
  obtain ⟨a3, cp3, rfl, _, _, _, _⟩ := hk
  obtain ⟨a4, cp4, rfl, _, _, _, _⟩ := hl
  obtain ⟨a2, cp2, rfl, s2, hl2, hm2, _, _⟩ := ht
  clear hkA hlA HkA ih b0
  have hn2 : vs.length ≤ maxLen := by omega
  go_enter Tryd.func5, Tryd.ntmps5
  go_wp2_with fail
  refine (szByteS_any _ vs.length _ l _ h0 h1 hn2).mono ?_
  rintro e w1 ⟨rfl, e1⟩
  obtain rfl := e1
  by_cases hb1 : l < vs.length
  · rw [less_no _ _ hb1]
    have HO : Hid (less l (vs.length + szK vK + szL d vL) = -1) := less_no _ _ (by omega)
    go_wp2
    go_ret
    exact ⟨ret_i64 (by rw [HO.out]), Hb.out _⟩
  · have hq1 : 0 ≤ l - (vs.length : Int) := by omega
    have hq2 : l - (vs.length : Int) ≤ 1048576 := by omega
    rw [less_yes _ _ hb1]
    go_wp2_with fail
    refine (szByteSS_any _ _ vK (l - vs.length) _ (Hk.out _) hq1 hq2).mono ?_
    rintro e w1 ⟨rfl, e1⟩
    obtain rfl := e1
    by_cases hb2 : l - vs.length < szK vK
    · rw [less_no _ _ hb2]
      have HO : Hid (less l (vs.length + szK vK + szL d vL) = -1) := less_no _ _ (by omega)
      go_wp2
      go_ret
      exact ⟨ret_i64 (by rw [HO.out]), Hb.out _⟩
    · rw [less_yes _ _ hb2]
      have hq3 : 0 ≤ l - (vs.length : Int) - (szK vK : Nat) := by omega
      have hq4 : l - (vs.length : Int) - (szK vK : Nat) ≤ 1048576 := by omega
      go_wp2_with fail
      refine (szValueS_of d HI.out N _ vL (l - vs.length - (szK vK : Nat)) _ (Hl.out _) (hN1 _) hq3 hq4).mono ?_
      rintro e w2 ⟨rfl, b2⟩
      have B2 := Below.on (Hb.out _) b2
      by_cases hb3 : l - vs.length - (szK vK : Nat) < szL d vL
      · rw [less_no _ _ hb3]
        have HO : Hid (less l (vs.length + szK vK + szL d vL) = -1) := less_no _ _ (by omega)
        go_wp2
        go_ret
        exact ⟨ret_i64 (by rw [HO.out]), B2⟩
      · rw [less_yes _ _ hb3]
        have HO : Hid (less l (vs.length + szK vK + szL d vL) = l - vs.length - (szK vK : Nat) - (szL d vL : Nat)) := by
          show less l (vs.length + szK vK + szL d vL) = _
          rw [less_yes _ _ (by omega)]
          omega
        have hq5 : ¬ (l - (vs.length : Int) - (szK vK : Nat) - (szL d vL : Nat) < 0) := by omega
        go_wp2
        go_ret
        exact ⟨ret_i64 (by rw [HO.out]), B2⟩

theorem szValue_any (d : Nat) : SzAt d := by
  induction d with
  | zero => intro N c v l w hv; exact hv.elim
  | succ d ih => exact szValue_succ d ih
end Go.Proofs.YtcgmfmdoconecaaDoor
/-
  toByteSS of the laws: it makes a list of texts of its own that holds what its argument holds.
-/
namespace Go.Proofs.YtcgmfmdoconecaaDoor
open Go.RowKit
set_option linter.unusedVariables false

set_option maxHeartbeats 1600000 in
theorem toByteSS_any (N : Nat) (v : Value) (ks : List (List Int)) (w : World) (hk : KSeg (fun b => b < N) w v ks) (hN : N ≤ w.heap.size) (hn : ks.length ≤ 1048576) (hs : ∀ t ∈ ks, t.length ≤ 1048576) :
    Calls Tryd.prog 23 #[v] w fun e w' => ∃ u, e = .returned u ∧ ∃ B, KOwn w' u ks B ∧ (∀ b ∈ B, w.heap.size ≤ b ∧ b < w'.heap.size) ∧ Below w.heap.size w w' := by
  obtain ⟨a, cap, rfl, hlc, hcm, ka, hc⟩ := hk
  unfold maxLen at hcm
  obtain ⟨i0, hi, hz0, hz1, hz2⟩ := info_parts infoT
  have HC : Hid (ks = [] ∨ ∃ b off, a = some ⟨b, off, none⟩ ∧ b < N ∧ ∀ i, i < ks.length → ∃ u, w.cell? ⟨b, off + i, none⟩ = some u ∧ TSeg (fun b => b < N) w u (ks.getD i [])) := hc
  have HS : Hid (∀ t ∈ ks, t.length ≤ 1048576) := hs
  clear hc hs
  go_enter Tryd.func23, Tryd.ntmps23
  go_wp2_with (refine wpList_make_full _ rfl _ _ 23 rfl w.heap.size 22 i0 (.slice none 0 0) 1 Tryd.underlying23 hi hz0 hz1 .i64 .i64 _ _ ks.length rfl rfl rfl rfl (by rw [hz2]; omega) (by unfold maxLen; omega) (Nat.le_refl _) ?_; intro w1 hown hgrow)
  have hK0 : KPart w1 w.heap.size ks.length ks 0 (w.heap.size + 1) := by
    rcases hown.2 with ⟨h1, _⟩ | ⟨g, cp, cur, h1, _, h3, _, _, h6, _⟩
    · simp at h1
    · simp only [Value.slice.injEq, Option.some.injEq, Addr.mk.injEq, and_true, true_and] at h1
      obtain ⟨e1, e2⟩ := h1
      subst e1
      exact ⟨cur, [], h3, by omega, rfl, by omega, by simp, by simp⟩
  have hb1 : Below w.heap.size w w1 := (Below.refl _ _).grown hgrow (Nat.le_refl _) (by simp)
  clear hown hgrow
  go_loopw [4] (fun i wr => ∃ k : Nat, k ≤ ks.length ∧ i = .int .i64 k ∧ KPart wr w.heap.size ks.length ks k (w.heap.size + 1) ∧ Below w.heap.size w wr) (fun i _ => ks.length - (intOf i).toNat)
  case atStart => exact ⟨0, Nat.zero_le _, rfl, hK0, hb1⟩
  case round =>
    obtain ⟨k, hk, rfl, hK, hbel⟩ := hrel
    clear hK0 hb1
    by_cases hlt : k < ks.length
    · have hlt' : (k : Int) < (ks.length : Int) := by omega
      have hcell : ∃ b off u, a = some ⟨b, off, none⟩ ∧ wr.cell? ⟨b, off + k, none⟩ = some u ∧ TSeg (fun b => b < N) wr u (ks.getD k []) := by
        rcases HC.out with e | ⟨b, off, e, hb, hc⟩
        · rw [e] at hlt; simp at hlt
        · obtain ⟨u, hu, ht⟩ := hc k hlt
          have ag : Agree (fun b => b < N) w wr := agree_below (hbel.mono hN)
          exact ⟨b, off, u, e, (cell_agree ag hb).trans hu, ht.agree ag⟩
      obtain ⟨b, off, u, rfl, hu, a2, c2, rfl, s2, hl2, hm2, k2, _⟩ := hcell
      have hle : (ks.getD k []).length ≤ 1048576 := by
        have := HS.out ks[k] (List.getElem_mem hlt)
        simpa [List.getD_eq_getElem?_getD, hlt] using this
      have hgw : w.heap.size < wr.heap.size := by
        obtain ⟨cur, Bs, h1, _⟩ := hK
        exact (Array.getElem?_eq_some_iff.1 h1).1
      generalize ht : ks.getD k [] = t at hu s2 hl2 hle
      have Ht : Hid (ks.getD k [] = t) := ht
      clear ht
      go_wp2_with fail
      refine (toByteS_any _ _ t _ s2 (by omega)).mono ?_
      rintro e w2 ⟨rfl, hB2, b2⟩
      have hT2 := tOwn_new hB2
      have hcells : ∃ x, w2.cell? ⟨w.heap.size, k, none⟩ = some x := by
        obtain ⟨cur, Bs, h1, h2, _⟩ := hK
        have h1' : w2.heap[w.heap.size]? = some (.cells cur 22 (0, 0)) := (b2.block _ hgw).trans h1
        rw [cell_of_row w2 _ k cur _ (0, 0) h1']
        exact ⟨_, Array.getElem?_eq_getElem (by omega)⟩
      obtain ⟨x, hx⟩ := hcells
      have hfz : w2.frozen? ⟨w.heap.size, k, none⟩ = false := by
        obtain ⟨cur, Bs, h1, h2, _⟩ := hK
        have h1' : w2.heap[w.heap.size]? = some (.cells cur 22 (0, 0)) := (b2.block _ hgw).trans h1
        exact frozen_of_row w2 _ k cur _ h1'
      obtain ⟨hK2, hg2⟩ := kPart_next hK (by omega) hlt b2 (by omega) _ wr.heap.size (by rw [Ht.out]; exact hT2) (Nat.le_refl _)
      have hb2 := Below.on hbel b2
      have hb3 := hb2.grown hg2 hb2.size (by intro j hj; simp at hj; omega)
      clear hK hbel hB2 hT2 b2 hu hg2 hb2
      go_wp2
      go_roundw
      case rel => exact ⟨k + 1, by omega, by go_num, hK2, hb3⟩
      case measure => simp [intOf]; omega
    · have hkn : k = ks.length := by omega
      have hkn' : ¬ (k : Int) < (ks.length : Int) := by omega
      rw [hkn] at hK
      clear hkn
      go_wp2
      go_ret
      obtain ⟨cur, Bs, h1, h2, h3, h4, h5, h6⟩ := hK
      have hgw := (Array.getElem?_eq_some_iff.1 h1).1
      refine ⟨_, rfl, w.heap.size :: Bs.flatten, .inr ⟨w.heap.size, ks.length, cur, Bs, rfl, h1, Nat.le_refl _, by unfold maxLen; omega, h2, h3, h4, rfl, ?_⟩, ?_, hbel⟩
      · rw [List.nodup_cons]
        exact ⟨fun hm => by have := h5 _ hm; omega, h6⟩
      · intro b hb
        rcases List.mem_cons.1 hb with rfl | hb
        · exact ⟨Nat.le_refl _, hgw⟩
        · have := h5 b hb
          omega
end Go.Proofs.YtcgmfmdoconecaaDoor
/-
  Values that a call owns, with the blocks in which they lie.
-/
namespace Go.Proofs.YtcgmfmdoconecaaDoor
open Go.RowKit
set_option linter.unusedVariables false

/-- The five cells of a value in an array of cells. -/
def Cells5 (cur : Array Value) (j : Nat) (e : Value × Value × Value × Value × Value) : Prop :=
  cur[j]? = some e.1 ∧ cur[j + 1]? = some e.2.1 ∧ cur[j + 2]? = some e.2.2.1 ∧ cur[j + 3]? = some e.2.2.2.1 ∧ cur[j + 4]? = some e.2.2.2.2

/-- A value of the call's own, in the blocks B. -/
def VOwn (w : World) : (d : Nat) → Value × Value × Value × Value × Value → Vl d → List Nat → Prop
  | 0, _, _, _ => False
  | d + 1, c, v, B => c.1 = .int .i64 v.1 ∧ c.2.1 = .int .i64 v.2.1 ∧ ∃ Bs Bk Bl, TOwn w c.2.2.1 v.2.2.1 Bs ∧ KOwn w c.2.2.2.1 v.2.2.2.1 Bk ∧
      ((c.2.2.2.2 = .slice none 0 0 ∧ v.2.2.2.2 = [] ∧ Bl = []) ∨
        ∃ (g cap : Nat) (cur : Array Value) (Bi : List (List Nat)), c.2.2.2.2 = .slice (some ⟨g, 0, none⟩) v.2.2.2.2.length cap ∧ w.heap[g]? = some (.cells cur 31 (0, 0)) ∧ v.2.2.2.2.length ≤ cap ∧ cap ≤ maxLen ∧ cur.size = cap * 5 ∧ Bi.length = v.2.2.2.2.length ∧
          (∀ i (h : i < v.2.2.2.2.length), ∃ e, Cells5 cur (i * 5) e ∧ VOwn w d e (v.2.2.2.2[i]) (Bi.getD i [])) ∧ Bl = g :: Bi.flatten ∧ Bl.Nodup) ∧
      B = Bs ++ (Bk ++ Bl) ∧ B.Nodup

/-- A list of values of the call's own. -/
def LOwn (w : World) (d : Nat) (x : Value) (l : List (Vl d)) (B : List Nat) : Prop :=
  (x = .slice none 0 0 ∧ l = [] ∧ B = []) ∨
  ∃ (g cap : Nat) (cur : Array Value) (Bi : List (List Nat)), x = .slice (some ⟨g, 0, none⟩) l.length cap ∧ w.heap[g]? = some (.cells cur 31 (0, 0)) ∧ l.length ≤ cap ∧ cap ≤ maxLen ∧ cur.size = cap * 5 ∧ Bi.length = l.length ∧
    (∀ i (h : i < l.length), ∃ e, Cells5 cur (i * 5) e ∧ VOwn w d e (l[i]) (Bi.getD i [])) ∧ B = g :: Bi.flatten ∧ B.Nodup

theorem VOwn_succ (w : World) (d : Nat) (c : Value × Value × Value × Value × Value) (v : Vl (d + 1)) (B : List Nat) :
    VOwn w (d + 1) c v B ↔ c.1 = .int .i64 v.1 ∧ c.2.1 = .int .i64 v.2.1 ∧ ∃ Bs Bk Bl, TOwn w c.2.2.1 v.2.2.1 Bs ∧ KOwn w c.2.2.2.1 v.2.2.2.1 Bk ∧ LOwn w d c.2.2.2.2 v.2.2.2.2 Bl ∧ B = Bs ++ (Bk ++ Bl) ∧ B.Nodup := Iff.rfl

theorem KOwn.lt {w : World} {v : Value} {ks : List (List Int)} {B : List Nat} (h : KOwn w v ks B) : ∀ b ∈ B, b < w.heap.size := by
  intro b hb
  rcases h with ⟨_, _, rfl⟩ | ⟨g, cap, cur, Bs, _, h2, _, _, _, h6, h7, rfl, _⟩
  · simp at hb
  · rcases List.mem_cons.1 hb with rfl | hb
    · exact (Array.getElem?_eq_some_iff.1 h2).1
    · obtain ⟨l, hl, hbl⟩ := List.mem_flatten.1 hb
      obtain ⟨i, hi, rfl⟩ := List.getElem_of_mem hl
      obtain ⟨u, _, ht⟩ := h7 i (by omega)
      exact ht.lt b (by simpa [List.getD_eq_getElem?_getD, hi] using hbl)

theorem VOwn.lt {w : World} (d : Nat) : ∀ {c : Value × Value × Value × Value × Value} {v : Vl d} {B : List Nat}, VOwn w d c v B → ∀ b ∈ B, b < w.heap.size := by
  induction d with
  | zero => intro c v B h; exact h.elim
  | succ d ih =>
    intro c v B h b hb
    obtain ⟨_, _, Bs, Bk, Bl, ht, hk, hl, rfl, _⟩ := h
    rw [List.mem_append, List.mem_append] at hb
    rcases hb with hb | hb | hb
    · exact ht.lt b hb
    · exact hk.lt b hb
    · rcases hl with ⟨_, _, rfl⟩ | ⟨g, cap, cur, Bi, _, h2, _, _, _, h6, h7, rfl, _⟩
      · simp at hb
      · rcases List.mem_cons.1 hb with rfl | hb
        · exact (Array.getElem?_eq_some_iff.1 h2).1
        · obtain ⟨q, hq, hbq⟩ := List.mem_flatten.1 hb
          obtain ⟨i, hi, rfl⟩ := List.getElem_of_mem hq
          obtain ⟨e, _, hv⟩ := h7 i (by omega)
          exact ih hv b (by simpa [List.getD_eq_getElem?_getD, hi] using hbq)

theorem VOwn.agree {w w' : World} (d : Nat) : ∀ {c : Value × Value × Value × Value × Value} {v : Vl d} {B : List Nat}, VOwn w d c v B → Agree (fun b => b ∈ B) w w' → VOwn w' d c v B := by
  induction d with
  | zero => intro c v B h _; exact h.elim
  | succ d ih =>
    intro c v B h ha
    obtain ⟨e0, e1, Bs, Bk, Bl, ht, hk, hl, rfl, hn⟩ := h
    refine ⟨e0, e1, Bs, Bk, Bl, ht.agree fun b hb => ha b (by simp [hb]), hk.agree fun b hb => ha b (by simp [hb]), ?_, rfl, hn⟩
    rcases hl with h0 | ⟨g, cap, cur, Bi, h1, h2, h3, h4, h5, h6, h7, rfl, h9⟩
    · exact .inl h0
    · refine .inr ⟨g, cap, cur, Bi, h1, (ha g (by simp)).trans h2, h3, h4, h5, h6, fun i hi => ?_, rfl, h9⟩
      obtain ⟨e, he, hv⟩ := h7 i hi
      exact ⟨e, he, ih hv fun b hb => ha b (by have := flatten_mem_getD (Bs := Bi) (by omega) hb; simp only [List.mem_append, List.mem_cons]; exact .inr (.inr (.inr this)))⟩

theorem LOwn.agree {w w' : World} {d : Nat} {x : Value} {l : List (Vl d)} {B : List Nat} (h : LOwn w d x l B) (ha : Agree (fun b => b ∈ B) w w') : LOwn w' d x l B := by
  rcases h with h0 | ⟨g, cap, cur, Bi, h1, h2, h3, h4, h5, h6, h7, rfl, h9⟩
  · exact .inl h0
  · refine .inr ⟨g, cap, cur, Bi, h1, (ha g (by simp)).trans h2, h3, h4, h5, h6, fun i hi => ?_, rfl, h9⟩
    obtain ⟨e, he, hv⟩ := h7 i hi
    exact ⟨e, he, VOwn.agree d hv fun b hb => ha b (List.mem_cons_of_mem _ (flatten_mem_getD (by omega) hb))⟩

theorem KSeg.mono {R R' : Nat → Prop} {w : World} {v : Value} {ks : List (List Int)} (h : KSeg R w v ks) (hr : ∀ b, R b → R' b) : KSeg R' w v ks := by
  obtain ⟨a, cap, h1, h2, h3, h4, h5⟩ := h
  refine ⟨a, cap, h1, h2, h3, h4, ?_⟩
  rcases h5 with h0 | ⟨b, off, e, hb, hc⟩
  · exact .inl h0
  · refine .inr ⟨b, off, e, hr b hb, fun i hi => ?_⟩
    obtain ⟨u, hu, ht⟩ := hc i hi
    exact ⟨u, hu, ht.mono hr⟩

theorem VSeg.mono {R R' : Nat → Prop} {w : World} (hr : ∀ b, R b → R' b) (d : Nat) : ∀ {c : Value × Value × Value × Value × Value} {v : Vl d}, VSeg R w d c v → VSeg R' w d c v := by
  induction d with
  | zero => intro c v h; exact h
  | succ d ih =>
    intro c v h
    obtain ⟨h0, h1, h2, h3, a, cap, g1, g2, g3, g4, g5⟩ := h
    refine ⟨h0, h1, h2.mono hr, h3.mono hr, a, cap, g1, g2, g3, g4, ?_⟩
    rcases g5 with e | ⟨b, off, hb, hR, hc⟩
    · exact .inl e
    · refine .inr ⟨b, off, hb, hr b hR, fun i hi => ?_⟩
      obtain ⟨e, he, hv⟩ := hc i hi
      exact ⟨e, he, ih hv⟩

theorem Cells5.five {w : World} {g : Nat} {cur : Array Value} (h : w.heap[g]? = some (.cells cur 31 (0, 0))) {j : Nat} {e : Value × Value × Value × Value × Value} (he : Cells5 cur j e) : Five w g j e := by
  obtain ⟨h0, h1, h2, h3, h4⟩ := he
  refine ⟨?_, ?_, ?_, ?_, ?_⟩ <;> rw [cell_of_row w g _ cur _ (0, 0) h] <;> assumption

theorem VOwn.seg {w : World} (d : Nat) : ∀ {c : Value × Value × Value × Value × Value} {v : Vl d} {B : List Nat}, VOwn w d c v B → VSeg (fun b => b ∈ B) w d c v := by
  induction d with
  | zero => intro c v B h; exact h
  | succ d ih =>
    intro c v B h
    obtain ⟨e0, e1, Bs, Bk, Bl, ht, hk, hl, rfl, _⟩ := h
    refine ⟨e0, e1, ht.seg.mono fun b hb => by simp [hb], hk.seg.mono fun b hb => by simp [hb], ?_⟩
    rcases hl with ⟨h1, h2, rfl⟩ | ⟨g, cap, cur, Bi, h1, h2, h3, h4, h5, h6, h7, rfl, h9⟩
    · exact ⟨none, 0, by rw [h1, h2]; rfl, by rw [h2]; exact Nat.le_refl _, Nat.zero_le _, fun _ => rfl, .inl h2⟩
    · refine ⟨some ⟨g, 0, none⟩, cap, h1, h3, h4, by simp, .inr ⟨g, 0, rfl, by simp, fun i hi => ?_⟩⟩
      obtain ⟨e, he, hv⟩ := h7 i hi
      refine ⟨e, by rw [Nat.zero_add]; exact he.five h2, VSeg.mono (fun b hb => ?_) d (ih hv)⟩
      have := flatten_mem_getD (Bs := Bi) (by omega) hb
      simp only [List.mem_append, List.mem_cons]
      exact .inr (.inr (.inr this))

end Go.Proofs.YtcgmfmdoconecaaDoor
/-
  toValueS and toValue of the laws: they make a value of their own that holds what their argument holds, at every depth.
-/
namespace Go.Proofs.YtcgmfmdoconecaaDoor
open Go.RowKit
set_option linter.unusedVariables false

theorem infoV : (Tryd.prog.info? 31).map (fun i => (i.zero, i.size, i.bytes)) = some (some (.agg #[.int .i64 0, .int .i64 0, .slice none 0 0, .slice none 0 0, .slice none 0 0]), 5, 88) := by kernel_rfl

/-- After k rounds of toValueS. -/
def LPart (w : World) (g n d : Nat) (l : List (Vl d)) (k : Nat) (N : Nat) : Prop :=
  ∃ (cur : Array Value) (Bi : List (List Nat)), w.heap[g]? = some (.cells cur 31 (0, 0)) ∧ cur.size = n * 5 ∧ Bi.length = k ∧
    (∀ i (h : i < l.length), i < k → ∃ e, Cells5 cur (i * 5) e ∧ VOwn w d e l[i] (Bi.getD i [])) ∧ (∀ b ∈ Bi.flatten, N ≤ b ∧ b < w.heap.size) ∧ Bi.flatten.Nodup

/-- The contract of toValue at depth d. -/
def ToAt (d : Nat) : Prop := ∀ (N : Nat) (c : Value × Value × Value × Value × Value) (v : Vl d) (w : World), VSeg (fun b => b < N) w d c v → N ≤ w.heap.size → szV d v ≤ 1048576 →
  Calls Tryd.prog 7 #[.agg #[c.1, c.2.1, c.2.2.1, c.2.2.2.1, c.2.2.2.2]] w fun e w' => ∃ c0 c1 c2 c3 c4, e = .returned (.agg #[c0, c1, c2, c3, c4]) ∧ ∃ B, VOwn w' d (c0, c1, c2, c3, c4) v B ∧ (∀ b ∈ B, w.heap.size ≤ b ∧ b < w'.heap.size) ∧ Below w.heap.size w w'

theorem sz_elem {d : Nat} {l : List (Vl d)} {i : Nat} (hi : i < l.length) : szV d l[i] ≤ szL d l := by
  have h1 := pre_succ (szV d) l i hi
  have h2 := pre_le (szV d) l (i + 1)
  unfold szL
  omega

/-- Five cells stored one behind the other. -/
def set5 (w : World) (g j : Nat) (c0 c1 c2 c3 c4 : Value) : World :=
  ((((w.setCell ⟨g, j, none⟩ c0).setCell ⟨g, j + 1, none⟩ c1).setCell ⟨g, j + 2, none⟩ c2).setCell ⟨g, j + 3, none⟩ c3).setCell ⟨g, j + 4, none⟩ c4

/-- The array behind it. -/
def arrSet5 (cur : Array Value) (j : Nat) (c0 c1 c2 c3 c4 : Value) : Array Value :=
  ((((cur.setIfInBounds j c0).setIfInBounds (j + 1) c1).setIfInBounds (j + 2) c2).setIfInBounds (j + 3) c3).setIfInBounds (j + 4) c4

theorem set5_heap {w : World} {g j : Nat} {cur : Array Value} {T : TypeId} (c0 c1 c2 c3 c4 : Value) (h : w.heap[g]? = some (.cells cur T (0, 0))) :
    (set5 w g j c0 c1 c2 c3 c4).heap[g]? = some (.cells (arrSet5 cur j c0 c1 c2 c3 c4) T (0, 0)) :=
  heap_setCell_same _ g (j + 4) _ T c4 (heap_setCell_same _ g (j + 3) _ T c3 (heap_setCell_same _ g (j + 2) _ T c2 (heap_setCell_same _ g (j + 1) _ T c1 (heap_setCell_same w g j cur T c0 h))))

theorem set5_other (w : World) (g j : Nat) (c0 c1 c2 c3 c4 : Value) (b : Nat) (hb : b ≠ g) : (set5 w g j c0 c1 c2 c3 c4).heap[b]? = w.heap[b]? := by
  unfold set5
  rw [Below.heap_setCell _ _ _ b hb, Below.heap_setCell _ _ _ b hb, Below.heap_setCell _ _ _ b hb, Below.heap_setCell _ _ _ b hb, Below.heap_setCell _ _ _ b hb]

theorem set5_size (w : World) (g j : Nat) (c0 c1 c2 c3 c4 : Value) : (set5 w g j c0 c1 c2 c3 c4).heap.size = w.heap.size := by simp [set5, World.setCell]

theorem set5_grown (w : World) (g j : Nat) (c0 c1 c2 c3 c4 : Value) : w.grownBy (set5 w g j c0 c1 c2 c3 c4) (some g) :=
  grownBy_trans (grownBy_trans (grownBy_trans (grownBy_trans (grown1 _ _ _ _) (grown1 _ _ _ _)) (grown1 _ _ _ _)) (grown1 _ _ _ _)) (grown1 _ _ _ _)

theorem arrSet5_size (cur : Array Value) (j : Nat) (c0 c1 c2 c3 c4 : Value) : (arrSet5 cur j c0 c1 c2 c3 c4).size = cur.size := by simp [arrSet5]

theorem arrSet5_at (cur : Array Value) (j : Nat) (c0 c1 c2 c3 c4 : Value) (h : j + 4 < cur.size) : Cells5 (arrSet5 cur j c0 c1 c2 c3 c4) j (c0, c1, c2, c3, c4) := by
  unfold arrSet5 Cells5
  refine ⟨?_, ?_, ?_, ?_, ?_⟩ <;> simp [Array.getElem?_setIfInBounds] <;> omega

theorem arrSet5_ne (cur : Array Value) (j i : Nat) (c0 c1 c2 c3 c4 : Value) (h : i < j ∨ j + 4 < i) : (arrSet5 cur j c0 c1 c2 c3 c4)[i]? = cur[i]? := by
  unfold arrSet5
  rw [Array.getElem?_setIfInBounds_ne (by omega), Array.getElem?_setIfInBounds_ne (by omega), Array.getElem?_setIfInBounds_ne (by omega), Array.getElem?_setIfInBounds_ne (by omega), Array.getElem?_setIfInBounds_ne (by omega)]

theorem lPart_next {w w1 : World} {g n d : Nat} {l : List (Vl d)} {k N : Nat} (h : LPart w g n d l k N) (hgN : g < N) (hk : k < l.length) (hkn : k < n) (b1 : Below w.heap.size w w1) (hN : N ≤ w.heap.size) (c0 c1 c2 c3 c4 : Value) (B : List Nat) (hu : VOwn w1 d (c0, c1, c2, c3, c4) l[k] B) (hB : ∀ b ∈ B, w.heap.size ≤ b ∧ b < w1.heap.size) (hBn : B.Nodup) :
    LPart (set5 w1 g (k * 5) c0 c1 c2 c3 c4) g n d l (k + 1) N := by
  obtain ⟨cur, Bi, h1, h2, h3, h4, h5, h6⟩ := h
  have hgw : g < w.heap.size := (Array.getElem?_eq_some_iff.1 h1).1
  have h1' : w1.heap[g]? = some (.cells cur 31 (0, 0)) := (b1.block g hgw).trans h1
  refine ⟨arrSet5 cur (k * 5) c0 c1 c2 c3 c4, Bi ++ [B], set5_heap c0 c1 c2 c3 c4 h1', by rw [arrSet5_size]; exact h2, by simp [h3], fun i hi hik => ?_, ?_, ?_⟩
  · by_cases he : i = k
    · subst he
      have e : (Bi ++ [B]).getD i [] = B := by simp [List.getD_eq_getElem?_getD, ← h3]
      rw [e]
      exact ⟨_, arrSet5_at cur (i * 5) c0 c1 c2 c3 c4 (by omega), VOwn.agree d hu fun b hb => set5_other w1 g _ _ _ _ _ _ b (by have := hB b hb; omega)⟩
    · have hi' : i < k := by omega
      obtain ⟨e5, hc5, hv⟩ := h4 i hi hi'
      have e : (Bi ++ [B]).getD i [] = Bi.getD i [] := by
        simp only [List.getD_eq_getElem?_getD]
        rw [List.getElem?_append_left (by omega)]
      rw [e]
      refine ⟨e5, ?_, VOwn.agree d (VOwn.agree d hv fun b hb => b1.block b (VOwn.lt d hv b hb)) fun b hb => set5_other w1 g _ _ _ _ _ _ b ?_⟩
      · obtain ⟨q0, q1, q2, q3, q4⟩ := hc5
        refine ⟨?_, ?_, ?_, ?_, ?_⟩ <;> rw [arrSet5_ne _ _ _ _ _ _ _ _ (by omega)] <;> assumption
      · have := h5 b (flatten_mem_getD (by omega) hb)
        omega
  · intro b hb
    rw [List.flatten_append, List.mem_append] at hb
    rw [set5_size]
    rcases hb with hb | hb
    · have := h5 b hb
      have := b1.size
      omega
    · have hb' : b ∈ B := by simpa using hb
      have := hB b hb'
      omega
  · rw [List.flatten_append, List.nodup_append]
    refine ⟨h6, by simpa using hBn, fun b hb c hc => ?_⟩
    have hc' : c ∈ B := by simpa using hc
    have := h5 b hb
    have := hB c hc'
    omega

theorem VOwn.nodup {w : World} (d : Nat) {c : Value × Value × Value × Value × Value} {v : Vl d} {B : List Nat} (h : VOwn w d c v B) : B.Nodup := by
  cases d with
  | zero => exact h.elim
  | succ d =>
    obtain ⟨_, _, _, _, _, _, _, _, _, hn⟩ := h
    exact hn

/-- Of what shape the cells of a value are. -/
theorem VOwn.form {w : World} (d : Nat) {c0 c1 c2 c3 c4 : Value} {v : Vl d} {B : List Nat} (h : VOwn w d (c0, c1, c2, c3, c4) v B) :
    ∃ (k n : Int) (a2 : Option Addr) (l2 p2 : Nat) (a3 : Option Addr) (l3 p3 : Nat) (a4 : Option Addr) (l4 p4 : Nat), c0 = .int .i64 k ∧ c1 = .int .i64 n ∧ c2 = .slice a2 l2 p2 ∧ c3 = .slice a3 l3 p3 ∧ c4 = .slice a4 l4 p4 := by
  cases d with
  | zero => exact h.elim
  | succ d =>
    obtain ⟨e0, e1, Bs, Bk, Bl, ht, hk, hl, _, _⟩ := h
    obtain ⟨a2, p2, e2, _⟩ := ht.1.shape
    have e3 : ∃ (a3 : Option Addr) (l3 p3 : Nat), c3 = .slice a3 l3 p3 := by
      rcases hk with ⟨h1, _⟩ | ⟨g, cap, cur, Bs, h1, _⟩
      · exact ⟨_, _, _, h1⟩
      · exact ⟨_, _, _, h1⟩
    have e4 : ∃ (a4 : Option Addr) (l4 p4 : Nat), c4 = .slice a4 l4 p4 := by
      rcases hl with ⟨h1, _⟩ | ⟨g, cap, cur, Bs, h1, _⟩
      · exact ⟨_, _, _, h1⟩
      · exact ⟨_, _, _, h1⟩
    obtain ⟨a3, l3, p3, e3⟩ := e3
    obtain ⟨a4, l4, p4, e4⟩ := e4
    exact ⟨_, _, _, _, _, _, _, _, _, _, _, e0, e1, e2, e3, e4⟩

set_option maxHeartbeats 1600000 in
theorem toValueS_of (d : Nat) (ih : ToAt d) (N : Nat) (x : Value) (l : List (Vl d)) (w : World) (hx : LSeg (fun b => b < N) w d x l) (hN : N ≤ w.heap.size) (hz : szL d l ≤ 1048576) :
    Calls Tryd.prog 24 #[x] w fun e w' => ∃ u, e = .returned u ∧ ∃ B, LOwn w' d u l B ∧ (∀ b ∈ B, w.heap.size ≤ b ∧ b < w'.heap.size) ∧ Below w.heap.size w w' := by
  obtain ⟨a, cap, rfl, hlc, hcm, ka, hc⟩ := hx
  unfold maxLen at hcm
  obtain ⟨i0, hi, hz0, hz1, hz2⟩ := info_parts infoV
  have hn : l.length ≤ 1048576 := by unfold szL at hz; omega
  have HC : Hid (l = [] ∨ ∃ b off, a = some ⟨b, off, none⟩ ∧ b < N ∧ ∀ i (h : i < l.length), ∃ e, Five w b (off + i * 5) e ∧ VSeg (fun b => b < N) w d e (l[i])) := hc
  have HI : Hid (ToAt d) := ih
  have HZ : Hid (szL d l ≤ 1048576) := hz
  clear hc ih hz
  go_enter Tryd.func24, Tryd.ntmps24
  go_wp2_with (refine wpList_make_full _ rfl _ _ 29 rfl w.heap.size 31 i0 (.agg #[.int .i64 0, .int .i64 0, .slice none 0 0, .slice none 0 0, .slice none 0 0]) 5 Tryd.underlying29 hi hz0 hz1 .i64 .i64 _ _ l.length rfl rfl rfl rfl (by rw [hz2]; omega) (by unfold maxLen; omega) (Nat.le_refl _) ?_; intro w1 hown hgrow)
  have hK0 : LPart w1 w.heap.size l.length d l 0 (w.heap.size + 1) := by
    rcases hown.2 with ⟨h1, _⟩ | ⟨g, cp, cur, h1, _, h3, _, _, h6, _⟩
    · simp at h1
    · simp only [Value.slice.injEq, Option.some.injEq, Addr.mk.injEq, and_true, true_and] at h1
      obtain ⟨e1, e2⟩ := h1
      subst e1
      exact ⟨cur, [], h3, by omega, rfl, by intro i _ h; omega, by simp, by simp⟩
  have hb1 : Below w.heap.size w w1 := (Below.refl _ _).grown hgrow (Nat.le_refl _) (by simp)
  clear hown hgrow
  go_loopw [4] (fun i wr => ∃ k : Nat, k ≤ l.length ∧ i = .int .i64 k ∧ LPart wr w.heap.size l.length d l k (w.heap.size + 1) ∧ Below w.heap.size w wr) (fun i _ => l.length - (intOf i).toNat)
  case atStart => exact ⟨0, Nat.zero_le _, rfl, hK0, hb1⟩
  case round =>
    obtain ⟨k, hk, rfl, hK, hbel⟩ := hrel
    clear hK0 hb1
    by_cases hlt : k < l.length
    · have hlt' : (k : Int) < (l.length : Int) := by omega
      have hcell : ∃ b off e, a = some ⟨b, off, none⟩ ∧ Five wr b (off + k * 5) e ∧ VSeg (fun b => b < N) wr d e (l[k]) := by
        rcases HC.out with e | ⟨b, off, e, hb, hc⟩
        · rw [e] at hlt; simp at hlt
        · obtain ⟨c, h5, hv⟩ := hc k hlt
          have ag : Agree (fun b => b < N) w wr := agree_below (hbel.mono hN)
          exact ⟨b, off, c, e, h5.agree ag hb, VSeg.agree ag d hv⟩
      obtain ⟨b, off, c, rfl, h5, hv⟩ := hcell
      obtain ⟨e0, e1, e2, e3, e4⟩ := c
      obtain ⟨q0, q1, q2, q3, q4⟩ := h5
      simp only at q0 q1 q2 q3 q4
      have HV : Hid (VSeg (fun b => b < N) wr d (e0, e1, e2, e3, e4) l[k]) := hv
      clear hv
      have hzk : Hid (szV d l[k] ≤ 1048576) := Nat.le_trans (sz_elem hlt) HZ.out
      have hgw : w.heap.size < wr.heap.size := by
        obtain ⟨cur, Bs, h1, _⟩ := hK
        exact (Array.getElem?_eq_some_iff.1 h1).1
      go_wp2_with fail
      refine (HI.out N (e0, e1, e2, e3, e4) l[k] wr HV.out (by omega) hzk.out).mono ?_
      rintro e w2 ⟨c0, c1, c2, c3, c4, rfl, B, hB2, hBb, b2⟩
      clear q0 q1 q2 q3 q4 HV
      obtain ⟨ck, cn, s2, l2, p2, s3, l3, p3, s4, l4, p4, rfl, rfl, rfl, rfl, rfl⟩ := VOwn.form d hB2
      have hcells : ∃ cur : Array Value, w2.heap[w.heap.size]? = some (.cells cur 31 (0, 0)) ∧ cur.size = l.length * 5 := by
        obtain ⟨cur, Bs, h1, h2, _⟩ := hK
        exact ⟨cur, (b2.block _ hgw).trans h1, h2⟩
      obtain ⟨cur, hcur, hcs⟩ := hcells
      have hx : ∀ j, j < l.length * 5 → ∃ x, w2.cell? ⟨w.heap.size, j, none⟩ = some x := by
        intro j hj
        rw [cell_of_row w2 _ j cur _ (0, 0) hcur]
        exact ⟨_, Array.getElem?_eq_getElem (by omega)⟩
      have hf : ∀ j, w2.frozen? ⟨w.heap.size, j, none⟩ = false := fun j => frozen_of_row w2 _ j cur _ hcur
      obtain ⟨x0, hx0⟩ := hx (k * 5) (by omega)
      obtain ⟨x1, hx1⟩ := hx (k * 5 + 1) (by omega)
      obtain ⟨x2, hx2⟩ := hx (k * 5 + 2) (by omega)
      obtain ⟨x3, hx3⟩ := hx (k * 5 + 3) (by omega)
      obtain ⟨x4, hx4⟩ := hx (k * 5 + 4) (by omega)
      have f0 := hf (k * 5)
      have f1 := hf (k * 5 + 1)
      have f2 := hf (k * 5 + 2)
      have f3 := hf (k * 5 + 3)
      have f4 := hf (k * 5 + 4)
      have hL := lPart_next hK (by omega) hlt hlt b2 (by omega) _ _ _ _ _ B hB2 hBb (VOwn.nodup d hB2)
      have hb2 := Below.on hbel b2
      have hb3 := hb2.grown (set5_grown w2 w.heap.size (k * 5) (.int .i64 ck) (.int .i64 cn) (.slice s2 l2 p2) (.slice s3 l3 p3) (.slice s4 l4 p4)) hb2.size (by intro j hj; simp at hj; omega)
      have HL : Hid (LPart (set5 w2 w.heap.size (k * 5) (.int .i64 ck) (.int .i64 cn) (.slice s2 l2 p2) (.slice s3 l3 p3) (.slice s4 l4 p4)) w.heap.size l.length d l (k + 1) (w.heap.size + 1)) := hL
      have HB : Hid (Below w.heap.size w (set5 w2 w.heap.size (k * 5) (.int .i64 ck) (.int .i64 cn) (.slice s2 l2 p2) (.slice s3 l3 p3) (.slice s4 l4 p4))) := hb3
      clear hx hf hcur hL hb2 hb3 hK hB2
      go_wp2
      go_roundw
      case rel => exact ⟨k + 1, by omega, by go_num, HL.out, HB.out⟩
      case measure => simp [intOf]; omega
    · have hkn : k = l.length := by omega
      have hkn' : ¬ (k : Int) < (l.length : Int) := by omega
      rw [hkn] at hK
      clear hkn
      go_wp2
      go_ret
      obtain ⟨cur, Bi, h1, h2, h3, h4, h5, h6⟩ := hK
      have hgw := (Array.getElem?_eq_some_iff.1 h1).1
      refine ⟨_, rfl, w.heap.size :: Bi.flatten, .inr ⟨w.heap.size, l.length, cur, Bi, rfl, h1, Nat.le_refl _, by unfold maxLen; omega, h2, h3, fun i h => h4 i h h, rfl, ?_⟩, ?_, hbel⟩
      · rw [List.nodup_cons]
        exact ⟨fun hm => by have := h5 _ hm; omega, h6⟩
      · intro b hb
        rcases List.mem_cons.1 hb with rfl | hb
        · exact ⟨Nat.le_refl _, hgw⟩
        · have := h5 b hb
          omega

/-- The cells of a block of five that is known. -/
theorem row5 {w : World} {g : Nat} {T : TypeId} {c0 c1 c2 c3 c4 : Value} (h : w.heap[g]? = some (.cells #[c0, c1, c2, c3, c4] T (0, 0))) :
    w.cell? ⟨g, 0, none⟩ = some c0 ∧ w.cell? ⟨g, 1, none⟩ = some c1 ∧ w.cell? ⟨g, 2, none⟩ = some c2 ∧ w.cell? ⟨g, 3, none⟩ = some c3 ∧ w.cell? ⟨g, 4, none⟩ = some c4 ∧ ∀ j, w.frozen? ⟨g, j, none⟩ = false := by
  refine ⟨?_, ?_, ?_, ?_, ?_, fun j => frozen_of_row w g j _ T h⟩ <;> rw [cell_of_row w g _ _ T (0, 0) h] <;> rfl

/-- What toValue's three blocks hold while it goes. -/
def St (w : World) (X : Array Value) (vk vn : Int) (wx : World) (cS cK cL : Value) : Prop :=
  Below w.heap.size w wx ∧ wx.heap[w.heap.size]? = some (.cells X 26 (0, 0)) ∧ wx.heap[w.heap.size + 1]? = some (.cells #[.int .i64 0, .int .i64 0, .slice none 0 0, .slice none 0 0, .slice none 0 0] 31 (0, 0)) ∧
    wx.heap[w.heap.size + 1 + 1]? = some (.cells #[.int .i64 vk, .int .i64 vn, cS, cK, cL] 31 (0, 0)) ∧ w.heap.size + 3 ≤ wx.heap.size

theorem st_below {w : World} {X : Array Value} {vk vn : Int} {wx wy : World} {cS cK cL : Value} (h : St w X vk vn wx cS cK cL) (hb : Below wx.heap.size wx wy) : St w X vk vn wy cS cK cL := by
  obtain ⟨h0, h1, h2, h3, h4⟩ := h
  have := hb.size
  exact ⟨Below.on h0 hb, (hb.block _ (by omega)).trans h1, (hb.block _ (by omega)).trans h2, (hb.block _ (by omega)).trans h3, by omega⟩

theorem st_set {w : World} {X : Array Value} {vk vn : Int} {wx : World} {cS cK cL : Value} (h : St w X vk vn wx cS cK cL) (j : Nat) (u dS dK dL : Value) (hj : (#[.int .i64 vk, .int .i64 vn, cS, cK, cL] : Array Value).setIfInBounds j u = #[.int .i64 vk, .int .i64 vn, dS, dK, dL]) : St w X vk vn (wx.setCell ⟨w.heap.size + 1 + 1, j, none⟩ u) dS dK dL := by
  obtain ⟨h0, h1, h2, h3, h4⟩ := h
  refine ⟨h0.setCell (p := ⟨w.heap.size + 1 + 1, j, none⟩) (by show w.heap.size ≤ w.heap.size + 1 + 1; omega) u, (Below.heap_setCell wx _ u _ (by show w.heap.size ≠ w.heap.size + 1 + 1; omega)).trans h1, (Below.heap_setCell wx _ u _ (by show w.heap.size + 1 ≠ w.heap.size + 1 + 1; omega)).trans h2, ?_, by simp [World.setCell]; omega⟩
  rw [← hj]
  exact heap_setCell_same wx _ j _ _ u h3

theorem st_start (w : World) (X : Array Value) (vk vn : Int) (Z Y : Array Value) (hZ : Z = #[.int .i64 0, .int .i64 0, .slice none 0 0, .slice none 0 0, .slice none 0 0]) (hY : Y = #[.int .i64 vk, .int .i64 vn, .slice none 0 0, .slice none 0 0, .slice none 0 0]) :
    St w X vk vn (((w.alloc (.cells X 26)).alloc (.cells Z 31)).alloc (.cells Y 31)) (.slice none 0 0) (.slice none 0 0) (.slice none 0 0) := by
  subst hZ
  subst hY
  have z1 : (w.alloc (.cells X 26)).heap.size = w.heap.size + 1 := by simp
  have z2 : ((w.alloc (.cells X 26)).alloc (.cells #[.int .i64 0, .int .i64 0, .slice none 0 0, .slice none 0 0, .slice none 0 0] 31)).heap.size = w.heap.size + 1 + 1 := by simp
  refine ⟨(((Below.refl _ _).alloc (Nat.le_refl _) _).alloc (by simp) _).alloc (by simp; omega) _, ?_, ?_, ?_, by simp⟩
  · rw [Below.heap_alloc _ _ _ (by rw [z2]; omega), Below.heap_alloc _ _ _ (by rw [z1]; omega)]
    exact heap_alloc_new w _
  · rw [Below.heap_alloc _ _ _ (by rw [z2]; omega), ← z1]
    exact heap_alloc_new _ _
  · rw [← z2]
    exact heap_alloc_new _ _

end Go.Proofs.YtcgmfmdoconecaaDoor
