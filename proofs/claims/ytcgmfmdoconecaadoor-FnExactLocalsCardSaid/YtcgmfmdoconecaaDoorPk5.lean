/-
  Texts that a law leans on, one behind the other; no statement is proved here.
-/
import Derived.Test.YtcgmfmdoconecaaDoorPk4
import Derived.Test.YtcgmfmdoconecaaDoorPk3
import Derived.Deep.AppendLies
/-
  Uses and Locals of the specification: l6insert, l6names, l4ownAddrs.
-/
namespace Go.Proofs.YtcgmfmdoconecaaDoor
open Go.RowKit
set_option linter.unusedVariables false
set_option linter.unusedSimpArgs false

theorem insA_step (ws : List Int) (put : Bool) (ks : List (List Int)) (k : Nat) (hk : k < ks.length) :
    insA ws put (ks.drop k) = (if !put && decide (bytesC ws (ks.getD k []) ≤ 0) then [ws] else []) ++ ((if bytesC ws (ks.getD k []) ≠ 0 then [ks.getD k []] else []) ++ insA ws (put || decide (bytesC ws (ks.getD k []) ≤ 0)) (ks.drop (k + 1))) := by
  have e : ks.getD k [] = ks[k] := by simp [List.getD_eq_getElem?_getD, hk]
  rw [List.drop_eq_getElem_cons hk, e]
  rfl

set_option maxHeartbeats 2000000 in
set_option maxRecDepth 100000 in
theorem l6insert_any (N base : Nat) (x u : Value) (ks : List (List Int)) (ws : List Int) (w : World) (hx : NR N w base x ks) (hu : TSeg (fun b => b < N) w u ws) (hN : N ≤ w.heap.size) (hl : ks.length ≤ 1000) :
    Calls Tryd.prog 32 #[x, u] w fun e w' => ∃ y, e = .returned y ∧ NR N w' w.heap.size y (insN ks ws) ∧ Below w.heap.size w w' := by
  have HX := hide' hx
  have HU := hide' hu
  obtain ⟨a, cap, rfl⟩ := hx.shape
  obtain ⟨ua, uc, rfl, su, _, _, _, _⟩ := hu
  clear hx su
  go_enter Tryd.func32, Tryd.ntmps32
  go_wp2
  go_loopw [5, 6, 7] (fun y p i wr => ∃ (k : Nat) (put : Bool) (os : List (List Int)), k ≤ ks.length ∧ i = .int .i64 k ∧ p = .bool put ∧ NR N wr w.heap.size y os ∧ Below w.heap.size w wr ∧ Hid (os ++ insA ws put (ks.drop k) = insA ws false ks) ∧ os.length ≤ 2 * k) (fun _ _ i _ => ks.length - (intOf i).toNat)
  case atStart => exact ⟨0, false, [], Nat.zero_le _, rfl, rfl, NR.nil _ _ _, Below.refl _ _, rfl, by simp⟩
  case round =>
    obtain ⟨k, put, os, hk, rfl, rfl, hR, hbel, hins, hol⟩ := hrel
    have hsz := hbel.size
    obtain ⟨ya, yc, rfl⟩ := hR.shape
    by_cases hlt : k < ks.length
    · have hlt' : (k : Int) < (ks.length : Int) := by omega
      have hst := insA_step ws put ks k hlt
      obtain ⟨g, va, vc, rfl, hgl, hcell0, hT⟩ := HX.out.at hlt
      have HCell : Hid (∀ wx, Below w.heap.size w wx → wx.cell? ⟨g, k, none⟩ = some (.slice va (ks.getD k []).length vc)) := fun wx hb => (World.cell?_of_block (hb.block g hgl)).trans hcell0
      have hcell := HCell.out wr hbel
      have HUr : Hid (∀ wx, Below w.heap.size w wx → TSeg (fun b => b < N) wx (.slice ua ws.length uc) ws) := fun wx hb => HU.out.agree (agree_below (hb.mono hN))
      have HTr : Hid (∀ wx, Below w.heap.size w wx → TSeg (fun b => b < N) wx (.slice va (ks.getD k []).length vc) (ks.getD k [])) := fun wx hb => hT.agree (agree_below (hb.mono hN))
      have hcs := bytesC_cases ws (ks.getD k [])
      have HC : Hid (Calls Tryd.prog 41 #[.slice ua ws.length uc, .slice va (ks.getD k []).length vc] wr fun e w' => e = .returned (.int .i64 (bytesC ws (ks.getD k []))) ∧ wr = w') := by
        obtain ⟨_, _, e1, s1, _⟩ := HUr.out wr hbel
        obtain ⟨_, _, e2, s2, _⟩ := HTr.out wr hbel
        simp at e1 e2
        obtain ⟨rfl, _⟩ := e1
        obtain ⟨rfl, _⟩ := e2
        exact l2bytes_any _ _ _ _ ws (ks.getD k []) wr s1 s2
      clear hcell0 hT
      cases put with
      | true =>
        by_cases hc0 : bytesC ws (ks.getD k []) = 0
        · rw [hc0] at HC
          generalize ks.getD k [] = zs at *
          have HF : Hid (os ++ insA ws true (ks.drop (k + 1)) = insA ws false ks) := by
            have h := hins.out
            rw [hst, hc0] at h
            exact hide' (by simpa using h)
          clear hst hcs hc0
          go_wp2_with (go_at_call 41; refine HC.out.mono ?_; rintro e w1 ⟨rfl, e1⟩; obtain rfl := e1)
          go_roundw
          case rel => exact ⟨k + 1, true, os, by omega, by go_num, rfl, hR, hbel, HF, by omega⟩
          case measure => simp [intOf]; omega
        · generalize ks.getD k [] = zs at *
          generalize bytesC ws zs = c at *
          have HF : Hid ((os ++ [zs]) ++ insA ws true (ks.drop (k + 1)) = insA ws false ks) := by
            have h := hins.out
            rw [hst] at h
            exact hide' (by simpa [hc0] using h)
          have hne : (c != 0) = true := by simpa using hc0
          clear hst hc0
          go_wp2_with (first | (go_at_call 41; refine HC.out.mono ?_; rintro e w1 ⟨rfl, e1⟩; obtain rfl := e1) | (at_builtin; refine wpList_NR_add rfl (.tmp 33) (.tmp 38) (by rfl) N w.heap.size _ (.slice va zs.length vc) os zs (by rfl) hR (by rfl) (HTr.out _ hbel) os.length rfl (by omega) hN (by have := (hbel : Below w.heap.size w _).size; omega) ?_; intro y2a y2c w2 hR2 hB2; replace hB2 := (hbel).trans hB2))
          go_roundw
          case rel => exact ⟨k + 1, true, _, by omega, by go_num, rfl, hR2, hB2, HF, by simp; omega⟩
          case measure => simp [intOf]; omega
      | false =>
        by_cases hc0 : bytesC ws (ks.getD k []) = 0
        · rw [hc0] at HC
          generalize ks.getD k [] = zs at *
          have HF : Hid ((os ++ [ws]) ++ insA ws true (ks.drop (k + 1)) = insA ws false ks) := by
            have h := hins.out
            rw [hst, hc0] at h
            exact hide' (by simpa using h)
          clear hst hcs hc0
          go_wp2_with (first | (go_at_call 41; refine HC.out.mono ?_; rintro e w1 ⟨rfl, e1⟩; obtain rfl := e1) | (at_builtin; refine wpList_NR_add rfl (.tmp 27) (.tmp 29) (by rfl) N w.heap.size _ (.slice ua ws.length uc) os ws (by rfl) hR (by rfl) (HUr.out _ (by first | exact hbel | exact hB1)) os.length rfl (by omega) hN (by have := hbel.size; omega) ?_; intro y1a y1c w1 hR1 hB1; replace hB1 := hbel.trans hB1; have hcell1 := HCell.out _ hB1))
          go_roundw
          case rel => exact ⟨k + 1, true, _, by omega, by go_num, rfl, hR1, hB1, HF, by simp; omega⟩
          case measure => simp [intOf]; omega
        · generalize ks.getD k [] = zs at *
          generalize bytesC ws zs = c at *
          have hne : (c != 0) = true := by simpa using hc0
          by_cases hc1 : c ≤ 0
          · have HF : Hid (((os ++ [ws]) ++ [zs]) ++ insA ws true (ks.drop (k + 1)) = insA ws false ks) := by
              have h := hins.out
              rw [hst] at h
              exact hide' (by simpa [hc0, hc1] using h)
            clear hst hc0
            go_wp2_with (first | (go_at_call 41; refine HC.out.mono ?_; rintro e w1 ⟨rfl, e1⟩; obtain rfl := e1) | (at_builtin; refine wpList_NR_add rfl (.tmp 27) (.tmp 29) (by rfl) N w.heap.size _ (.slice ua ws.length uc) os ws (by rfl) hR (by rfl) (HUr.out _ (by first | exact hbel | exact hB1)) os.length rfl (by omega) hN (by have := hbel.size; omega) ?_; intro y1a y1c w1 hR1 hB1; replace hB1 := hbel.trans hB1; have hcell1 := HCell.out _ hB1) | (at_builtin; refine wpList_NR_add rfl (.tmp 33) (.tmp 38) (by rfl) N w.heap.size _ (.slice va zs.length vc) (os ++ [ws]) zs (by rfl) hR1 (by rfl) (HTr.out _ hB1) (os.length + 1) (by simp) (by omega) hN (by have := (hB1 : Below w.heap.size w _).size; omega) ?_; intro y2a y2c w2 hR2 hB2; replace hB2 := (hB1).trans hB2))
            go_roundw
            case rel => exact ⟨k + 1, true, _, by omega, by go_num, rfl, hR2, hB2, HF, by simp; omega⟩
            case measure => simp [intOf]; omega
          · have HF : Hid ((os ++ [zs]) ++ insA ws false (ks.drop (k + 1)) = insA ws false ks) := by
              have h := hins.out
              rw [hst] at h
              exact hide' (by simpa [hc0, hc1] using h)
            clear hst hc0
            go_wp2_with (first | (go_at_call 41; refine HC.out.mono ?_; rintro e w1 ⟨rfl, e1⟩; obtain rfl := e1) | (at_builtin; refine wpList_NR_add rfl (.tmp 33) (.tmp 38) (by rfl) N w.heap.size _ (.slice va zs.length vc) os zs (by rfl) hR (by rfl) (HTr.out _ hbel) os.length rfl (by omega) hN (by have := (hbel : Below w.heap.size w _).size; omega) ?_; intro y2a y2c w2 hR2 hB2; replace hB2 := (hbel).trans hB2))
            go_roundw
            case rel => exact ⟨k + 1, false, _, by omega, by go_num, rfl, hR2, hB2, HF, by simp; omega⟩
            case measure => simp [intOf]; omega
    · have hkn : k = ks.length := by omega
      have hlt' : ¬ (k : Int) < (ks.length : Int) := by omega
      have HUr : Hid (∀ wx, Below w.heap.size w wx → TSeg (fun b => b < N) wx (.slice ua ws.length uc) ws) := fun wx hb => HU.out.agree (agree_below (hb.mono hN))
      cases put with
      | true =>
        have HF : Hid (os = insN ks ws) := by
          have h := hins.out
          rw [hkn, List.drop_length] at h
          exact hide' (by simpa [insA, insN] using h)
        clear hkn
        go_wp2
        go_ret
        exact ⟨_, rfl, by rw [← HF.out]; exact hR, hbel⟩
      | false =>
        have HF : Hid (os ++ [ws] = insN ks ws) := by
          have h := hins.out
          rw [hkn, List.drop_length] at h
          exact hide' (by simpa [insA, insN] using h)
        clear hkn
        go_wp2_with (at_builtin; refine wpList_NR_add rfl (.tmp 42) (.tmp 44) (by rfl) N w.heap.size _ (.slice ua ws.length uc) os ws (by rfl) hR (by rfl) (HUr.out _ hbel) os.length rfl (by omega) hN (by omega) ?_; intro y1a y1c w1 hR1 hB1; replace hB1 := hbel.trans hB1)
        go_ret
        exact ⟨_, rfl, by rw [← HF.out]; exact hR1, hB1⟩

theorem insA_len (w : List Int) : ∀ (put : Bool) (l : List (List Int)), (insA w put l).length ≤ l.length + 1
  | put, [] => by unfold insA; split <;> simp
  | put, x :: r => by
    have h1 := insA_len w (put || decide (bytesC w x ≤ 0)) r
    cases put with
    | true =>
      have h2 : ∀ l : List (List Int), (insA w true l).length ≤ l.length := by
        intro l
        induction l with
        | nil => simp [insA]
        | cons y s ih =>
          simp only [insA, Bool.not_true, Bool.false_and, Bool.true_or, List.length_append, List.length_cons]
          have : (if bytesC w y ≠ 0 then [y] else []).length ≤ 1 := by split <;> simp
          simp only [Bool.false_eq_true, if_false, List.length_nil]
          omega
      have := h2 (x :: r)
      omega
    | false =>
      by_cases hc : bytesC w x ≤ 0
      · have h2 : ∀ l : List (List Int), (insA w true l).length ≤ l.length := by
          intro l
          induction l with
          | nil => simp [insA]
          | cons y s ih =>
            simp only [insA, Bool.not_true, Bool.false_and, Bool.true_or, List.length_append, List.length_cons]
            have : (if bytesC w y ≠ 0 then [y] else []).length ≤ 1 := by split <;> simp
            simp only [Bool.false_eq_true, if_false, List.length_nil]
            omega
        have h3 := h2 r
        simp only [insA, Bool.not_false, Bool.true_and, Bool.false_or, decide_eq_true hc, if_true, List.length_append, List.length_cons, List.length_nil]
        have : (if bytesC w x ≠ 0 then [x] else []).length ≤ 1 := by split <;> simp
        omega
      · simp only [insA, Bool.not_false, Bool.true_and, Bool.false_or, decide_eq_false hc, List.length_append, List.length_cons]
        rw [Bool.false_or, decide_eq_false hc] at h1
        have : (if bytesC w x ≠ 0 then [x] else []).length ≤ 1 := by split <;> simp
        simp only [Bool.false_eq_true, if_false, List.length_nil]
        omega

theorem insN_len (l : List (List Int)) (w : List Int) : (insN l w).length ≤ l.length + 1 := insA_len w false l

theorem fold_len : ∀ (r l : List (List Int)), (r.foldl insN l).length ≤ l.length + r.length
  | [], l => by simp
  | w :: r, l => by
    have := fold_len r (insN l w)
    have := insN_len l w
    simp only [List.foldl_cons, List.length_cons]
    omega

theorem rawN_len (k : Int) : ∀ (d : Nat) (v : Vl d), (rawN k d v).length ≤ partsE d v := by
  intro d
  induction d with
  | zero => intro v; exact v.elim
  | succ d ih =>
    intro v
    obtain ⟨vk, vn, vs, vK, vL⟩ := v
    show ((if vk = k then [vs] else []) ++ (vL.map (rawN k d)).flatten).length ≤ 1 + (vL.map (partsE d)).sum
    have h1 : (if vk = k then [vs] else []).length ≤ 1 := by split <;> simp
    have h2 : ((vL.map (rawN k d)).flatten).length ≤ (vL.map (partsE d)).sum := by
      induction vL with
      | nil => simp
      | cons x r ih2 =>
        have := ih x
        simp only [List.map_cons, List.flatten_cons, List.length_append, List.sum_cons]
        omega
    rw [List.length_append]
    omega

/-- The names of the first j kids. -/
def preN (k : Int) (d : Nat) (vL : List (Vl d)) (j : Nat) : List (List Int) := ((vL.take j).map (rawN k d)).flatten
theorem preN_zero (k : Int) (d : Nat) (vL : List (Vl d)) : preN k d vL 0 = [] := by simp [preN]
theorem preN_succ (k : Int) (d : Nat) (vL : List (Vl d)) (j : Nat) (h : j < vL.length) : preN k d vL (j + 1) = preN k d vL j ++ rawN k d vL[j] := by
  unfold preN
  rw [List.take_succ_eq_append_getElem h, List.map_append, List.flatten_append]
  simp
theorem preN_all (k : Int) (d : Nat) (vL : List (Vl d)) : preN k d vL vL.length = (vL.map (rawN k d)).flatten := by simp [preN]
theorem preN_len (k : Int) (d : Nat) (vL : List (Vl d)) (j : Nat) : (preN k d vL j).length ≤ pre (partsE d) vL j := by
  unfold preN pre
  generalize vL.take j = l
  induction l with
  | nil => simp
  | cons x r ih =>
    have := rawN_len k d x
    simp only [List.map_cons, List.flatten_cons, List.length_append, List.sum_cons]
    omega

/-- The contract of l6names at depth d. -/
def L6NAt (k : Int) (d : Nat) : Prop := ∀ (N base : Nat) (x : Value) (os : List (List Int)) (c : Value × Value × Value × Value × Value) (v : Vl d) (w : World), VSeg (fun b => b < N) w d c v → N ≤ base → base ≤ w.heap.size → NR N w base x os → os.length + partsE d v ≤ 500 →
  Calls Tryd.prog 21 #[.agg #[c.1, c.2.1, c.2.2.1, c.2.2.2.1, c.2.2.2.2], .int .i64 k, x] w fun e w' => ∃ y, e = .returned y ∧ NR N w' base y ((rawN k d v).foldl insN os) ∧ Below w.heap.size w w'

set_option maxHeartbeats 2000000 in
set_option maxRecDepth 100000 in
theorem l6names_succ (k : Int) (d : Nat) (ih : L6NAt k d) : L6NAt k (d + 1) := by
  intro N base x os c v w hv hNb hbw hx hlen
  obtain ⟨c0, c1, c2, c3, c4⟩ := c
  obtain ⟨vk, vn, vs, vK, vL⟩ := v
  obtain ⟨e0, e1, ht, hk, hl⟩ := (VSeg_succ _ _ _ _ _).1 hv
  simp only at e0 e1 ht hk hl
  subst e0
  subst e1
  clear hv
  simp only
  have HL := hide' hl
  have HT := hide' ht
  obtain ⟨a2, p2, rfl, s2, l2, m2, _, r2⟩ := ht
  obtain ⟨a3, p3, rfl, _, _, _, _⟩ := hk
  obtain ⟨a4, p4, rfl, hlc4, hcm4, _, _⟩ := hl
  unfold maxLen at hcm4
  have hp := partsE_succ d vk vn vs vK vL
  have hraw : rawN k (d + 1) (vk, vn, vs, vK, vL) = (if vk = k then [vs] else []) ++ (vL.map (rawN k d)).flatten := rfl
  rw [hp] at hlen
  have b0 : ∀ o : Obj, Below w.heap.size w (w.alloc o) := fun o => (Below.refl _ _).alloc (Nat.le_refl _) o
  have Hb := hide' b0
  have HI := hide' ih
  have hN : N ≤ w.heap.size := by omega
  obtain ⟨os1, hos1⟩ : ∃ os1, os1 = (if vk = k then [vs] else []).foldl insN os := ⟨_, rfl⟩
  have hl1 : os1.length ≤ os.length + 1 := by
    rw [hos1]
    have h1 := fold_len (if vk = k then [vs] else []) os
    have h2 : (if vk = k then [vs] else []).length ≤ 1 := by split <;> simp
    omega
  have HEnd : Hid ((rawN k (d + 1) (vk, vn, vs, vK, vL)).foldl insN os = (preN k d vL vL.length).foldl insN os1) := by
    show _ = _
    rw [hraw, List.foldl_append, ← hos1, preN_all]
  have HSt : Hid (∀ j (h : j < vL.length), (preN k d vL (j + 1)).foldl insN os1 = (rawN k d vL[j]).foldl insN ((preN k d vL j).foldl insN os1)) := fun j h => by rw [preN_succ k d vL j h, List.foldl_append]
  have HLen : Hid (∀ j (h : j < vL.length), ((preN k d vL j).foldl insN os1).length + partsE d vL[j] ≤ 500) := fun j h => by
    have h1 := fold_len (preN k d vL j) os1
    have h2 := preN_len k d vL j
    have h3 := pre_succ (partsE d) vL j h
    have h4 := pre_le (partsE d) vL (j + 1)
    have h5 := pre_all (partsE d) vL
    omega
  have HX : Hid (∀ wx, Below w.heap.size w wx → NR N wx base x os) := fun wx hb => hx.below hb hN
  have HIns : Hid (∀ wx, Below w.heap.size w wx → Calls Tryd.prog 32 #[x, .slice a2 vs.length p2] wx fun e w' => ∃ y, e = .returned y ∧ NR N w' base y (insN os vs) ∧ Below wx.heap.size wx w') := fun wx hb =>
    (l6insert_any N base x _ os vs wx (HX.out wx hb) (HT.out.agree (agree_below (hb.mono hN))) (by have := hb.size; omega) (by omega)).mono fun e w' ⟨y, h1, h2, h3⟩ => ⟨y, h1, h2.mono (by have := hb.size; omega), h3⟩
  obtain ⟨xa, xc, rfl⟩ := hx.shape
  obtain ⟨ob, HOb⟩ : ∃ ob, Hid (ob = Obj.cells #[.int .i64 vk, .int .i64 vn, .slice a2 vs.length p2, .slice a3 vK.length p3, .slice a4 vL.length p4] 31) := ⟨_, rfl⟩
  clear s2 b0 hp hraw ih hx
  by_cases hk0 : vk = k
  · subst hk0
    have he1 : Hid (os1 = insN os vs) := by show _ = _; rw [hos1]; simp
    clear hos1 HX
    go_enter Tryd.func21, Tryd.ntmps21
    go_wp2_with fail
    refine (HIns.out _ (Hb.out _)).mono ?_
    rintro e w1 ⟨y, rfl, hR1, b1⟩
    rw [← he1.out] at hR1
    obtain ⟨y0, y1, y2, y3, y4, _⟩ := row5 (box_row b1)
    have Bb1 : Hid (Below (w.alloc ob).heap.size (w.alloc ob) w1) := by rw [HOb.out]; exact b1
    have HR1 := hide' hR1
    obtain ⟨ya, yc, rfl⟩ := hR1.shape
    clear b1 hR1 he1
    go_wp2
    go_loopw [2, 7] (fun y i wr => ∃ j : Nat, j ≤ vL.length ∧ i = .int .i64 j ∧ NR N wr base y ((preN vk d vL j).foldl insN os1) ∧ Hid (Below (w.alloc ob).heap.size (w.alloc ob) wr)) (fun _ i _ => vL.length - (intOf i).toNat)
    case atStart => exact ⟨0, Nat.zero_le _, rfl, by rw [preN_zero]; exact HR1.out, Bb1⟩
    case round =>
      clear y0 y1 y2 y3 y4
      obtain ⟨j, hj, rfl, hR, hbel⟩ := hrel
      have hrow := box_row hbel.out
      rw [HOb.out] at hrow
      obtain ⟨y0, y1, y2, y3, y4, _⟩ := row5 hrow
      have B := Below.on (Hb.out ob) hbel.out
      clear hrow
      obtain ⟨ya', yc', rfl⟩ := hR.shape
      by_cases hlt : j < vL.length
      · have hlt' : (j : Int) < (vL.length : Int) := by omega
        obtain ⟨b, off, c, rfl, h5', hv⟩ := HL.out.at B hN hlt
        obtain ⟨c0, c1, c2, c3, c4⟩ := c
        obtain ⟨q0, q1, q2, q3, q4⟩ := h5'
        simp only at q0 q1 q2 q3 q4
        have hz := B.size
        have HC := hide' (HI.out N base _ _ (c0, c1, c2, c3, c4) vL[j] wr (hv wr B) hNb (by omega) hR (HLen.out j hlt))
        rw [← HSt.out j hlt] at HC
        generalize ((preN vk d vL j).foldl insN os1).length = n1 at *
        clear hv hR
        go_wp2_with fail
        refine HC.out.mono ?_
        rintro e w2 ⟨y', rfl, hR2, b2⟩
        have B2 : Hid (Below (w.alloc ob).heap.size (w.alloc ob) w2) := Below.on hbel.out b2
        obtain ⟨ya2, yc2, hy2⟩ := hR2.shape
        have HR2 := hide' hR2
        generalize ((preN vk d vL (j + 1)).foldl insN os1).length = n2 at *
        subst hy2
        clear q0 q1 q2 q3 q4 b2 HC hR2
        go_wp2
        go_roundw
        case rel => exact ⟨j + 1, by omega, by go_num, HR2.out, B2⟩
        case measure => simp [intOf]; omega
      · have hkn : j = vL.length := by omega
        have hlt' : ¬ (j : Int) < (vL.length : Int) := by omega
        have HF : Hid (NR N wr base (.slice ya' ((preN vk d vL j).foldl insN os1).length yc') ((rawN vk (d + 1) (vk, vn, vs, vK, vL)).foldl insN os)) := by rw [HEnd.out, ← hkn]; exact hR
        clear hkn hR
        generalize ((preN vk d vL j).foldl insN os1).length = n1 at *
        go_wp2
        go_ret
        exact ⟨_, rfl, HF.out, B⟩
  · have he1 : os1 = os := by rw [hos1]; simp [hk0]
    have hk0' : (vk == k) = false := by simpa using hk0
    subst he1
    have H0 : Hid (NR N (w.alloc ob) base (.slice xa os1.length xc) os1) := HX.out _ (Hb.out _)
    generalize hn0 : os1.length = n0 at *
    clear hos1 HX HIns hn0 hk0
    go_enter Tryd.func21, Tryd.ntmps21
    go_wp2
    go_loopw [2, 7] (fun y i wr => ∃ j : Nat, j ≤ vL.length ∧ i = .int .i64 j ∧ NR N wr base y ((preN k d vL j).foldl insN os1) ∧ Hid (Below (w.alloc ob).heap.size (w.alloc ob) wr)) (fun _ i _ => vL.length - (intOf i).toNat)
    case atStart => exact ⟨0, Nat.zero_le _, rfl, by rw [preN_zero]; have := H0.out; rw [HOb.out] at this; exact this, by rw [HOb.out]; exact Below.refl _ _⟩
    case round =>
      obtain ⟨j, hj, rfl, hR, hbel⟩ := hrel
      have hrow := box_row hbel.out
      rw [HOb.out] at hrow
      obtain ⟨y0, y1, y2, y3, y4, _⟩ := row5 hrow
      have B := Below.on (Hb.out ob) hbel.out
      clear hrow
      obtain ⟨ya', yc', rfl⟩ := hR.shape
      by_cases hlt : j < vL.length
      · have hlt' : (j : Int) < (vL.length : Int) := by omega
        obtain ⟨b, off, c, rfl, h5', hv⟩ := HL.out.at B hN hlt
        obtain ⟨c0, c1, c2, c3, c4⟩ := c
        obtain ⟨q0, q1, q2, q3, q4⟩ := h5'
        simp only at q0 q1 q2 q3 q4
        have hz := B.size
        have HC := hide' (HI.out N base _ _ (c0, c1, c2, c3, c4) vL[j] wr (hv wr B) hNb (by omega) hR (HLen.out j hlt))
        rw [← HSt.out j hlt] at HC
        generalize ((preN k d vL j).foldl insN os1).length = n1 at *
        clear hv hR
        go_wp2_with fail
        refine HC.out.mono ?_
        rintro e w2 ⟨y', rfl, hR2, b2⟩
        have B2 : Hid (Below (w.alloc ob).heap.size (w.alloc ob) w2) := Below.on hbel.out b2
        obtain ⟨ya2, yc2, hy2⟩ := hR2.shape
        have HR2 := hide' hR2
        generalize ((preN k d vL (j + 1)).foldl insN os1).length = n2 at *
        subst hy2
        clear q0 q1 q2 q3 q4 b2 HC hR2
        go_wp2
        go_roundw
        case rel => exact ⟨j + 1, by omega, by go_num, HR2.out, B2⟩
        case measure => simp [intOf]; omega
      · have hkn : j = vL.length := by omega
        have hlt' : ¬ (j : Int) < (vL.length : Int) := by omega
        have HF : Hid (NR N wr base (.slice ya' ((preN k d vL j).foldl insN os1).length yc') ((rawN k (d + 1) (vk, vn, vs, vK, vL)).foldl insN os1)) := by rw [HEnd.out, ← hkn]; exact hR
        clear hkn hR
        generalize ((preN k d vL j).foldl insN os1).length = n1 at *
        go_wp2
        go_ret
        exact ⟨_, rfl, HF.out, B⟩

theorem l6names_any (k : Int) (d : Nat) : L6NAt k d := by
  induction d with
  | zero => intro N base x os c v w hv; exact hv.elim
  | succ d ih => exact l6names_succ k d ih
end Go.Proofs.YtcgmfmdoconecaaDoor
/-
  A row that is being appended to, each of its items in blocks of its own.
-/
namespace Go.Proofs.YtcgmfmdoconecaaDoor
open Go.RowKit
set_option linter.unusedVariables false
set_option linter.unusedSimpArgs false

theorem flatten_at (s : Nat) : ∀ (cs : List (List Value)), (∀ c ∈ cs, c.length = s) → ∀ i, i < cs.length → ∀ j, j < s → cs.flatten[i * s + j]? = (cs.getD i [])[j]? := by
  intro cs
  induction cs with
  | nil => intro _ i hi; simp at hi
  | cons c cs ih =>
    intro hl i hi j hj
    have hc := hl c (by simp)
    rw [List.flatten_cons]
    cases i with
    | zero => rw [List.getElem?_append_left (by omega)]; simp
    | succ i =>
      have hge : s ≤ (i + 1) * s + j := by rw [Nat.add_mul, Nat.one_mul]; omega
      rw [List.getElem?_append_right (by omega), hc]
      have he : (i + 1) * s + j - s = i * s + j := by rw [Nat.add_mul, Nat.one_mul]; omega
      rw [he, ih (fun c' h => hl c' (by simp [h])) i (by simpa using hi) j hj]
      simp

/-- A row of n items that lies from block 'base' on; item i has the cells cs[i], and what it reaches lies in the blocks Bi[i]. -/
def RW (T : TypeId) (s : Nat) (It : World → Nat → List Value → List Nat → Prop) (w : World) (base : Nat) (x : Value) (n : Nat) (cs : List (List Value)) (Bi : List (List Nat)) : Prop :=
  cs.length = n ∧ Bi.length = n ∧ w.ownsRow base T s x n cs.flatten ∧ (∀ i, i < n → It w i (cs.getD i []) (Bi.getD i [])) ∧ (x.ownBlock.toList ++ Bi.flatten).Nodup ∧ ∀ b ∈ x.ownBlock.toList ++ Bi.flatten, base ≤ b ∧ b < w.heap.size

theorem RW.nil (T : TypeId) (s : Nat) (It : World → Nat → List Value → List Nat → Prop) (w : World) (base : Nat) : RW T s It w base (.slice none 0 0) 0 [] [] :=
  ⟨rfl, rfl, ⟨by simp, .inl ⟨rfl, rfl⟩⟩, fun i hi => by omega, by simp [Value.ownBlock], by simp [Value.ownBlock]⟩

theorem mem_flat {Bi : List (List Nat)} {i b : Nat} (h : b ∈ Bi.getD i []) : b ∈ Bi.flatten := by
  rw [List.getD_eq_getElem?_getD] at h
  cases hi : Bi[i]? with
  | none => rw [hi] at h; simp at h
  | some l => rw [hi] at h; exact List.mem_flatten.2 ⟨l, List.mem_of_getElem? hi, h⟩

/-- It stands where its blocks do. -/
theorem RW.agree {T : TypeId} {s : Nat} {It : World → Nat → List Value → List Nat → Prop} (hIt : ∀ w w' i c B, It w i c B → Agree (fun b => b ∈ B) w w' → It w' i c B) {w w' : World} {base : Nat} {x : Value} {n : Nat} {cs : List (List Value)} {Bi : List (List Nat)}
    (h : RW T s It w base x n cs Bi) (ha : Agree (fun b => b ∈ x.ownBlock.toList ++ Bi.flatten) w w') (hz : w.heap.size ≤ w'.heap.size) : RW T s It w' base x n cs Bi := by
  obtain ⟨h1, h2, h3, h4, h5, h6⟩ := h
  refine ⟨h1, h2, ⟨h3.1, ?_⟩, fun i hi => hIt _ _ _ _ _ (h4 i hi) fun b hb => ha b (by simp only [List.mem_append]; exact .inr (mem_flat hb)), h5, fun b hb => ⟨(h6 b hb).1, Nat.lt_of_lt_of_le (h6 b hb).2 hz⟩⟩
  rcases h3.2 with h0 | ⟨g, cap, cur, rfl, hb, hh, r⟩
  · exact .inl h0
  · exact .inr ⟨g, cap, cur, rfl, hb, (ha g (by simp [Value.ownBlock])).trans hh, r⟩

/-- One item more. -/
theorem RW.add {T : TypeId} {s : Nat} {It : World → Nat → List Value → List Nat → Prop} (hIt : ∀ w w' i c B, It w i c B → Agree (fun b => b ∈ B) w w' → It w' i c B) {w w2 w3 : World} {base : Nat} {x : Value} {n : Nat} {cs : List (List Value)} {Bi : List (List Nat)} {c : List Value} {Bv : List Nat} {g cap : Nat}
    (h : RW T s It w base x n cs Bi) (ha : ∀ b, b < w.heap.size → w2.heap[b]? = w.heap[b]?) (hz : w.heap.size ≤ w2.heap.size) (hc : It w2 n c Bv) (hBv : ∀ b ∈ Bv, w.heap.size ≤ b ∧ b < w2.heap.size) (hBn : Bv.Nodup) (hbase : base ≤ w.heap.size)
    (hown : w3.ownsRow base T s (.slice (some ⟨g, 0, none⟩) (n + 1) cap) (n + 1) (cs.flatten ++ c)) (hg : w2.grownBy w3 x.ownBlock) (hat : x.ownBlock = some g ∨ g = w2.heap.size) :
    RW T s It w3 base (.slice (some ⟨g, 0, none⟩) (n + 1) cap) (n + 1) (cs ++ [c]) (Bi ++ [Bv]) := by
  obtain ⟨h1, h2, h3, h4, h5, h6⟩ := h
  have hlt := hown.lt g rfl
  have hsz := hg.size
  have hfl : ∀ b ∈ Bi.flatten, base ≤ b ∧ b < w.heap.size := fun b hb => h6 b (by simp only [List.mem_append]; exact .inr hb)
  have hdis : ∀ b ∈ Bi.flatten, x.ownBlock ≠ some b := by
    intro b hb hx
    rw [hx] at h5
    simp only [Option.toList_some, List.nodup_append] at h5
    exact h5.2.2 b (by simp) b hb rfl
  have hxb : ∀ b, x.ownBlock = some b → b < w.heap.size := fun b hb => (h3.lt b hb).2
  refine ⟨by simp [h1], by simp [h2], by simpa using hown, fun i hi => ?_, ?_, ?_⟩
  · by_cases hin : i < n
    · have e1 : (cs ++ [c]).getD i [] = cs.getD i [] := by simp [List.getD_eq_getElem?_getD, List.getElem?_append_left (show i < cs.length by omega)]
      have e2 : (Bi ++ [Bv]).getD i [] = Bi.getD i [] := by simp [List.getD_eq_getElem?_getD, List.getElem?_append_left (show i < Bi.length by omega)]
      rw [e1, e2]
      refine hIt _ _ _ _ _ (h4 i hin) fun b hb => ?_
      have hm := mem_flat hb
      have hb' := hfl b hm
      exact (hg.block b (by omega) (fun e => hdis b hm e.symm)).trans (ha b hb'.2)
    · have hin' : i = n := by omega
      subst hin'
      have e1 : (cs ++ [c]).getD i [] = c := by rw [← h1]; simp [List.getD_eq_getElem?_getD]
      have e2 : (Bi ++ [Bv]).getD i [] = Bv := by rw [← h2]; simp [List.getD_eq_getElem?_getD]
      rw [e1, e2]
      refine hIt _ _ _ _ _ hc fun b hb => ?_
      have hb' := hBv b hb
      exact hg.block b hb'.2 (fun e => by have := hxb b e.symm; omega)
  · have hmid : (Bi.flatten ++ Bv).Nodup := by
      rw [List.nodup_append]
      refine ⟨(List.nodup_append.1 h5).2.1, hBn, fun a ha' b hb' => ?_⟩
      have := hfl a ha'
      have := hBv b hb'
      omega
    have hgn : g ∉ Bi.flatten ++ Bv := by
      intro hm
      rcases hat with hx | hx
      · rcases List.mem_append.1 hm with h' | h'
        · exact hdis g h' hx
        · have := hBv g h'
          have := hxb g hx
          omega
      · rcases List.mem_append.1 hm with h' | h'
        · have := hfl g h'; omega
        · have := hBv g h'; omega
    simp only [Value.ownBlock, Option.toList_some, List.flatten_append, List.flatten_singleton, List.singleton_append]
    exact List.nodup_cons.2 ⟨hgn, hmid⟩
  · intro b hb
    simp only [Value.ownBlock, Option.toList_some, List.flatten_append, List.flatten_singleton, List.singleton_append, List.mem_cons, List.mem_append] at hb
    rcases hb with rfl | hb | hb
    · exact hlt
    · have := hfl b hb; omega
    · have := hBv b hb; omega

/-- A value's five cells. -/
def enc5 (e : Value × Value × Value × Value × Value) : List Value := [e.1, e.2.1, e.2.2.1, e.2.2.2.1, e.2.2.2.2]

/-- Item i is the value l[i]. -/
def ItV (d : Nat) (l : List (Vl d)) (w : World) (i : Nat) (c : List Value) (B : List Nat) : Prop := ∃ e, c = enc5 e ∧ ∃ h : i < l.length, VOwn w d e l[i] B

/-- Item i is the text ks[i]. -/
def ItK (ks : List (List Int)) (w : World) (i : Nat) (c : List Value) (B : List Nat) : Prop := ∃ u, c = [u] ∧ TOwn w u (ks.getD i []) B

theorem ItV.agree (d : Nat) (l : List (Vl d)) : ∀ w w' i c B, ItV d l w i c B → Agree (fun b => b ∈ B) w w' → ItV d l w' i c B := by
  rintro w w' i c B ⟨e, rfl, h, hv⟩ ha
  exact ⟨e, rfl, h, VOwn.agree d hv ha⟩

theorem ItK.agree (ks : List (List Int)) : ∀ w w' i c B, ItK ks w i c B → Agree (fun b => b ∈ B) w w' → ItK ks w' i c B := by
  rintro w w' i c B ⟨u, rfl, hv⟩ ha
  exact ⟨u, rfl, hv.agree ha⟩

theorem getD_of_mem {α : Type} {cs : List α} {c z : α} (h : c ∈ cs) : ∃ i, i < cs.length ∧ cs.getD i z = c := by
  obtain ⟨i, hi, e⟩ := List.getElem_of_mem h
  exact ⟨i, hi, by simp [List.getD_eq_getElem?_getD, hi, e]⟩

/-- All of it: a list of values of the call's own. -/
theorem RW.lown {w : World} {base d : Nat} {x : Value} {l : List (Vl d)} {cs : List (List Value)} {Bi : List (List Nat)} (h : RW 31 5 (ItV d l) w base x l.length cs Bi) : LOwn w d x l (x.ownBlock.toList ++ Bi.flatten) := by
  obtain ⟨h1, h2, h3, h4, h5, h6⟩ := h
  have hl5 : ∀ c ∈ cs, c.length = 5 := by
    intro c hc
    obtain ⟨i, hi, e⟩ := getD_of_mem (z := []) hc
    obtain ⟨e', he, _⟩ := h4 i (by omega)
    rw [← e, he]
    rfl
  rcases h3.2 with ⟨rfl, h0⟩ | ⟨g, cap, cur, rfl, hb, hh, hn, hm, hs, ht⟩
  · have hl0 : l = [] := List.eq_nil_of_length_eq_zero h0
    have hb0 : Bi = [] := List.eq_nil_of_length_eq_zero (by omega)
    subst hl0 hb0
    exact .inl ⟨rfl, rfl, rfl⟩
  · refine .inr ⟨g, cap, cur, Bi, rfl, hh, hn, hm, hs, h2, fun i hi => ?_, rfl, h5⟩
    obtain ⟨e, he, _, hv⟩ := h4 i hi
    have hcell : ∀ j, j < 5 → cur[i * 5 + j]? = (enc5 e)[j]? := by
      intro j hj
      have hf := flatten_at 5 cs hl5 i (by omega) j hj
      rw [he, ← ht, List.getElem?_take_of_lt (by omega), Array.getElem?_toList] at hf
      exact hf
    exact ⟨e, ⟨hcell 0 (by omega), hcell 1 (by omega), hcell 2 (by omega), hcell 3 (by omega), hcell 4 (by omega)⟩, hv⟩

/-- All of it: a list of texts of the call's own. -/
theorem RW.kown {w : World} {base : Nat} {x : Value} {ks : List (List Int)} {cs : List (List Value)} {Bi : List (List Nat)} (h : RW 22 1 (ItK ks) w base x ks.length cs Bi) : KOwn w x ks (x.ownBlock.toList ++ Bi.flatten) := by
  obtain ⟨h1, h2, h3, h4, h5, h6⟩ := h
  have hl1 : ∀ c ∈ cs, c.length = 1 := by
    intro c hc
    obtain ⟨i, hi, e⟩ := getD_of_mem (z := []) hc
    obtain ⟨e', he, _⟩ := h4 i (by omega)
    rw [← e, he]
    rfl
  rcases h3.2 with ⟨rfl, h0⟩ | ⟨g, cap, cur, rfl, hb, hh, hn, hm, hs, ht⟩
  · have hl0 : ks = [] := List.eq_nil_of_length_eq_zero h0
    have hb0 : Bi = [] := List.eq_nil_of_length_eq_zero (by omega)
    subst hl0 hb0
    exact .inl ⟨rfl, rfl, rfl⟩
  · refine .inr ⟨g, cap, cur, Bi, rfl, hh, hn, hm, by omega, h2, fun i hi => ?_, rfl, h5⟩
    obtain ⟨u, he, hv⟩ := h4 i hi
    have hcell : cur[i]? = some u := by
      have hf := flatten_at 1 cs hl1 i (by omega) 0 (by omega)
      rw [he, ← ht, List.getElem?_take_of_lt (by omega), Array.getElem?_toList] at hf
      simpa using hf
    exact ⟨u, hcell, hv⟩
end Go.Proofs.YtcgmfmdoconecaaDoor
/-
  A row of bytes of the call's own, as a text with its blocks.
-/
namespace Go.Proofs.YtcgmfmdoconecaaDoor
open Go.RowKit
set_option linter.unusedVariables false
set_option linter.unusedSimpArgs false

theorem tOwn_of {w : World} {base : Nat} {v : Value} {xs : List Int} (h : Bts w base v xs) : ∃ B, TOwn w v xs B ∧ (∀ b ∈ B, base ≤ b ∧ b < w.heap.size) ∧ B.Nodup := by
  have hlt := h.2.lt
  rcases h.2.2 with ⟨rfl, h0⟩ | ⟨g, cap, cur, rfl, _⟩
  · exact ⟨[], ⟨h.free, .inl ⟨rfl, rfl⟩⟩, by simp, by simp⟩
  · exact ⟨[g], ⟨h.free, .inr ⟨g, cap, rfl, rfl⟩⟩, by intro b hb; simp at hb; subst hb; exact hlt b rfl, by simp⟩

end Go.Proofs.YtcgmfmdoconecaaDoor
/-
  One text more behind a row of texts, each of the call's own.
-/
namespace Go.Proofs.YtcgmfmdoconecaaDoor
open Go.RowKit
set_option linter.unusedVariables false
set_option linter.unusedSimpArgs false

theorem rwk_step {w1 wr w5 w6 : World} {ks : List (List Int)} {x v5 : Value} {k g cp : Nat} {cs : List (List Value)} {Bi : List (List Nat)} {o : Obj} (h : RW 22 1 (ItK ks) wr w1.heap.size x k cs Bi) (hb : Below w1.heap.size w1 wr) (b5 : Below wr.heap.size wr w5) (hv : Bts w5 wr.heap.size v5 (ks.getD k []))
    (hown : w6.ownsRow w1.heap.size 22 1 (.slice (some ⟨g, 0, none⟩) (k + 1) cp) (k + 1) (cs.flatten ++ [v5])) (hg : (w5.alloc o).grownBy w6 x.ownBlock) (hat : x.ownBlock = some g ∨ g = w5.heap.size + 1) :
    ∃ cs' Bi', RW 22 1 (ItK ks) w6 w1.heap.size (.slice (some ⟨g, 0, none⟩) (k + 1) cp) (k + 1) cs' Bi' ∧ Below w1.heap.size w1 w6 := by
  obtain ⟨Bv, hT, hBv, hBn⟩ := tOwn_of hv
  have hz := hb.size
  have hz5 := b5.size
  have hxlt := h.2.2.1.lt
  refine ⟨_, _, RW.add (w2 := w5.alloc o) (ItK.agree ks) h (fun b hb => (Below.heap_alloc _ _ _ (by omega)).trans (b5.block b hb)) (by simp; omega) ⟨v5, rfl, hT.agree fun b hb => Below.heap_alloc _ _ _ (hBv b hb).2⟩ (fun b hb => by have := hBv b hb; simp; omega) hBn hz hown hg (by simpa using hat), ?_⟩
  exact ((Below.on hb b5).alloc (by omega) o).grown hg (by simp; omega) (fun j hj => (hxlt j hj).1)
end Go.Proofs.YtcgmfmdoconecaaDoor
/-
  l4ownAddrs of the specification; the names of an expression's parts are names.
-/
namespace Go.Proofs.YtcgmfmdoconecaaDoor
open Go.RowKit
set_option linter.unusedVariables false
set_option linter.unusedSimpArgs false

theorem kNilE (w : World) : KOwn w (.slice none 0 0) [] [] := .inl ⟨rfl, rfl, rfl⟩

set_option maxHeartbeats 2000000 in
set_option maxRecDepth 100000 in
theorem l4ownAddrs_any (N base : Nat) (x : Value) (ks : List (List Int)) (w : World) (hx : NR N w base x ks) (hN : N ≤ w.heap.size) (hl : ks.length ≤ 1000) (hl1 : ∀ i, i < ks.length → (ks.getD i []).length ≤ 1000) :
    Calls Tryd.prog 20 #[x] w fun e w' => ∃ u, e = .returned u ∧ ∃ B, KOwn w' u ks B ∧ (∀ b ∈ B, w.heap.size ≤ b ∧ b < w'.heap.size) ∧ Below w.heap.size w w' := by
  obtain ⟨iT, hiT, hy0, hy1, hy2⟩ := info_parts infoT
  have HX := hide' hx
  have HL := hide' hl1
  obtain ⟨xa, xc, rfl⟩ := hx.shape
  clear hx hl1
  go_enter Tryd.func20, Tryd.ntmps20
  go_wp2
  go_loopw [3, 4] (fun x i wr => ∃ k : Nat, k ≤ ks.length ∧ i = .int .i64 k ∧ ∃ cs Bi, RW 22 1 (ItK ks) wr w.heap.size x k cs Bi ∧ Below w.heap.size w wr) (fun _ i _ => ks.length - (intOf i).toNat)
  case atStart => exact ⟨0, Nat.zero_le _, rfl, _, _, RW.nil _ _ _ _ _, Below.refl _ _⟩
  case round =>
    obtain ⟨k, hk, rfl, cs, Bi, hR, hbel⟩ := hrel
    have hsz := hbel.size
    have hvK : ∃ p c, u3 = .slice p k c := by
      rcases hR.2.2.1.2 with ⟨rfl, h0⟩ | ⟨g, cap, cur, rfl, _⟩
      · exact ⟨none, 0, by rw [h0]⟩
      · exact ⟨_, _, rfl⟩
    obtain ⟨pK, cK, rfl⟩ := hvK
    by_cases hkn : k < ks.length
    · have hkn' : (k : Int) < (ks.length : Int) := by omega
      have hk0 : (0 : Int) ≤ (k : Int) := Int.natCast_nonneg _
      obtain ⟨g, ua, uc, rfl, hgl, hcu, hT⟩ := HX.out.at hkn
      have hlk := HL.out k hkn
      obtain ⟨_, _, eT, hsu, _, _, hnu, hRu⟩ := hT
      simp only [Value.slice.injEq] at eT
      obtain ⟨rfl, _, rfl⟩ := eT
      have hBa : Below w.heap.size w (wr.alloc (.cells #[] 5)) := hbel.alloc (by omega) _
      have hcu' : (wr.alloc (.cells #[] 5)).cell? ⟨g, k, none⟩ = some (.slice ua (ks.getD k []).length uc) := (World.cell?_of_block (hBa.block g hgl)).trans hcu
      have hsu' : Seg (wr.alloc (.cells #[] 5)) ua (ks.getD k []) := hsu.below hBa fun x hx hne => by have := hRu x hx hne; omega
      have hE : Bts (wr.alloc (.cells #[] 5)) wr.heap.size (.slice (some ⟨wr.heap.size, 0, none⟩) 0 0) [] := ⟨by simp, by simp [cellsOf], .inr ⟨wr.heap.size, 0, #[], rfl, Nat.le_refl _, heap_alloc_new wr _, Nat.le_refl _, Nat.zero_le _, rfl, rfl⟩⟩
      have HR := hide' (And.intro hR hbel)
      have hBe : Hid (Below wr.heap.size wr (wr.alloc (.cells #[] 5))) := (Below.refl _ _).alloc (Nat.le_refl _) _
      have Hv : Hid (∀ w5, Below wr.heap.size wr w5 → w5.ownsRow w.heap.size 22 1 (.slice pK k cK) k cs.flatten) := fun w5 hb5 => hR.2.2.1.kept (row := none) ⟨hb5.os, hb5.tape, hb5.output, hb5.size, fun k hk _ => hb5.block k hk⟩ (by cases hv : (Value.slice pK k cK).ownBlock <;> simp)
      generalize hks : ks.getD k [] = xs at *
      have Hks := hide' hks
      generalize hnk : xs.length = nk at *
      clear hR hbel hBa hcu hsu hks hRu
      go_wp2_with (at_builtin; first
        | (refine wpList_append_seg rfl (.tmp 12) (.tmp 16) (by rfl) wr.heap.size (.slice (some ⟨wr.heap.size, 0, none⟩) 0 0) [] xs (by rfl) hE ua nk uc hnk.symm (by rfl) hsu' hnu (by simp; omega) (by simp) ?_; intro v5 w5 hv5 hg5; rw [List.nil_append] at hv5; have hb5 := hide' (hBe.out.grown hg5 (by simp) (by intro j hj; simp [Value.ownBlock] at hj; omega)); obtain ⟨a5, c5, h5, _⟩ := hv5.shape; rw [hnk] at h5; subst h5; replace hv5 := hide' hv5; clear hg5 hE hsu')
        | (refine wpList_append_lies _ rfl (.tmp 11) (.tmp 18) 23 (by rfl) w.heap.size 22 iT (.slice none 0 0) 1 24 Tryd.underlying23 hiT hy0 hy1 hy2 rfl (by decide) (.slice pK k cK) k cs.flatten (by rfl) ((Hv.out w5 hb5.out).alloc _) ⟨w5.heap.size, 0, none⟩ 1 1 [.slice a5 nk c5] (by rfl) (by rfl) (World.news_of_block (cs := #[.slice a5 nk c5]) (t := 22) (fr := (0, 0)) (heap_alloc_new w5 _)) (by simp [Value.oneCell']) (by omega) (by unfold maxLen; omega) (by omega) (by have := hb5.out.size; simp; omega) (w5.heap.size + 1) (by simp) ?_; intro g6 cp6 w6 hown6 hg6 hat6 hlt6; obtain ⟨cs', Bi', hR6, hB6⟩ := rwk_step HR.out.1 HR.out.2 hb5.out (by rw [Hks.out]; exact hv5.out) hown6 hg6 hat6; replace hR6 := hide' hR6; replace hB6 := hide' hB6; clear hown6 hg6 hat6 hlt6))
      go_wp2
      go_roundw
      case rel => exact ⟨k + 1, by omega, by go_num, _, _, hR6.out, hB6.out⟩
      case measure => simp [intOf]; omega
    · have hkn' : k = ks.length := by omega
      subst hkn'
      have hkl' : ¬ (ks.length : Int) < (ks.length : Int) := by omega
      have HR := hide' (And.intro hR hbel)
      clear hR hbel
      go_wp2_with fail
      go_ret
      have hbd := HR.out.1.2.2.2.2.2
      exact ⟨_, rfl, _, HR.out.1.kown, fun b hb => by have := hbd b hb; omega, HR.out.2⟩

theorem mem_insA (w : List Int) : ∀ (put : Bool) (l : List (List Int)) (x : List Int), x ∈ insA w put l → x = w ∨ x ∈ l
  | put, [], x, h => by
    unfold insA at h
    split at h <;> simp at h
    exact .inl h
  | put, y :: r, x, h => by
    unfold insA at h
    rcases List.mem_append.1 h with h | h
    · split at h <;> simp at h
      exact .inl h
    rcases List.mem_append.1 h with h | h
    · split at h <;> simp at h
      exact .inr (by simp [h])
    · rcases mem_insA w _ r x h with h | h
      · exact .inl h
      · exact .inr (by simp [h])

theorem mem_fold : ∀ (r l : List (List Int)) (x : List Int), x ∈ r.foldl insN l → x ∈ r ∨ x ∈ l
  | [], l, x, h => .inr h
  | w :: r, l, x, h => by
    rcases mem_fold r (insN l w) x h with h | h
    · exact .inl (by simp [h])
    · rcases mem_insA w false l x h with h | h
      · exact .inl (by simp [h])
      · exact .inr h

/-- Names of resources and of locals are names. -/
theorem raw_names (k : Int) (hk : k = 6 ∨ k = 7) : ∀ (d : Nat) (v : Vl d) (deep : Nat), goodE d v deep = true → ∀ x ∈ rawN k d v, nameB x = true := by
  intro d
  induction d with
  | zero => intro v; exact v.elim
  | succ d ih =>
    intro v deep hg x hx
    obtain ⟨vk, vn, vs, vK, vL⟩ := v
    obtain ⟨_, hsh, hkids⟩ := (goodE_succ _ _ _ _ _ _ _).1 hg
    have hx' : x ∈ (if vk = k then [vs] else []) ++ (vL.map (rawN k d)).flatten := hx
    rcases List.mem_append.1 hx' with h | h
    · split at h
      · next e =>
        have hx2 : x = vs := by simpa using h
        subst hx2
        unfold shpB at hsh
        simp only [Bool.and_eq_true] at hsh
        have hs := hsh.2
        rcases hk with rfl | rfl
        · subst e
          exact hs
        · subst e
          have hs' : (nameB x && !keptB x) = true := hs
          simp only [Bool.and_eq_true] at hs'
          exact hs'.1
      · simp at h
    · obtain ⟨l, hl, hxl⟩ := List.mem_flatten.1 h
      obtain ⟨y, hy, rfl⟩ := List.mem_map.1 hl
      obtain ⟨j, hj, rfl⟩ := List.getElem_of_mem hy
      exact ih _ _ (hkids j hj) x hxl
end Go.Proofs.YtcgmfmdoconecaaDoor
