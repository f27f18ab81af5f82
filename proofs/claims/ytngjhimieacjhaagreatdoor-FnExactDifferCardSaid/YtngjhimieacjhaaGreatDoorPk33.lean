/-
  Texts that a law leans on, one behind the other; no statement is proved here.
-/
import Derived.Test.YtngjhimieacjhaaGreatDoorPk5
import Derived.Maps.AppendAt
import Derived.Test.YtngjhimieacjhaaGreatDoorPk31
import Derived.Test.YtngjhimieacjhaaGreatDoorPk19
import Derived.Test.YtngjhimieacjhaaGreatDoorPk15
import Derived.Test.YtngjhimieacjhaaGreatDoorPk25
import Derived.Sort.KeysCollected
import Derived.Test.YtngjhimieacjhaaGreatDoorPk14
import Derived.Maps.Views
import Derived.Test.YtngjhimieacjhaaGreatDoorPk32
import Derived.Maps.RangeWalk
import Derived.Maps.OwnSet
/-
  A row of the call's own that holds texts which lie in old blocks: 'NR'; one text more behind it.
-/
namespace Go.Proofs.YtngjhimieacjhaaGreatDoor
open Go.RowKit
set_option linter.unusedVariables false
set_option linter.unusedSimpArgs false

/-- A row of the call's own, from block 'base' on; the texts that it holds lie below N. -/
def NR (N : Nat) (w : World) (base : Nat) (v : Value) (os : List (List Int)) : Prop :=
  ∃ us : List Value, us.length = os.length ∧ w.ownsRow base 22 1 v os.length us ∧ ∀ i, i < os.length → TSeg (fun b => b < N) w (us.getD i (.slice none 0 0)) (os.getD i [])

theorem NR.nil (N : Nat) (w : World) (base : Nat) : NR N w base (.slice none 0 0) [] := ⟨[], rfl, ⟨rfl, .inl ⟨rfl, rfl⟩⟩, fun i hi => by simp at hi⟩

theorem NR.below {N : Nat} {w w' : World} {base : Nat} {v : Value} {os : List (List Int)} (h : NR N w base v os) (hb : Below w.heap.size w w') (hN : N ≤ w.heap.size) : NR N w' base v os := by
  obtain ⟨us, h1, h2, h3⟩ := h
  refine ⟨us, h1, h2.kept (row := none) ⟨hb.os, hb.tape, hb.output, hb.size, fun k hk _ => hb.block k hk⟩ (by cases hv : v.ownBlock <;> simp), fun i hi => (h3 i hi).agree (agree_below (hb.mono hN))⟩

theorem NR.mono {N : Nat} {w : World} {base base' : Nat} {v : Value} {os : List (List Int)} (h : NR N w base v os) (hb : base' ≤ base) : NR N w base' v os := by
  obtain ⟨us, h1, ⟨h2, h3⟩, h4⟩ := h
  refine ⟨us, h1, ⟨h2, ?_⟩, h4⟩
  rcases h3 with h0 | ⟨g, cap, cur, e, hg, r⟩
  · exact .inl h0
  · exact .inr ⟨g, cap, cur, e, by omega, r⟩

theorem NR.shape {N : Nat} {w : World} {base : Nat} {v : Value} {os : List (List Int)} (h : NR N w base v os) : ∃ a cap, v = .slice a os.length cap := by
  obtain ⟨us, h1, ⟨h2, h3⟩, h4⟩ := h
  rcases h3 with ⟨rfl, h0⟩ | ⟨g, cap, cur, rfl, _⟩
  · exact ⟨none, 0, by rw [h0]⟩
  · exact ⟨_, _, rfl⟩

theorem NR.at {N : Nat} {w : World} {base : Nat} {a : Option Addr} {n cap : Nat} {os : List (List Int)} (h : NR N w base (.slice a n cap) os) {k : Nat} (hk : k < os.length) :
    ∃ g ua uc, a = some ⟨g, 0, none⟩ ∧ g < w.heap.size ∧ w.cell? ⟨g, k, none⟩ = some (.slice ua (os.getD k []).length uc) ∧ TSeg (fun b => b < N) w (.slice ua (os.getD k []).length uc) (os.getD k []) := by
  obtain ⟨us, h1, h2, h4⟩ := h
  have h2' := h2
  obtain ⟨_, h3⟩ := h2
  rcases h3 with ⟨e, h0⟩ | ⟨g, cap', cur, e, hg, hh, _⟩
  · omega
  · simp only [Value.slice.injEq] at e
    obtain ⟨rfl, rfl, rfl⟩ := e
    have hc := World.ownsRow.cellAt h2' k (by omega)
    have ht := h4 k hk
    obtain ⟨ua, uc, eu, r⟩ := ht
    have hk' : k < us.length := by omega
    have e2 : us[k]? = some (us.getD k (.slice none 0 0)) := by simp [List.getD_eq_getElem?_getD, hk']
    refine ⟨g, ua, uc, rfl, (Array.getElem?_eq_some_iff.1 hh).1, by rw [hc, e2, eu], ⟨ua, uc, rfl, r⟩⟩

/-- One text more. -/
theorem NR.add {N : Nat} {w w' : World} {base : Nat} {v v' u : Value} {os us : List (List Int)} {vs : List Value} {xs : List Int} (h1 : vs.length = os.length) (h3 : ∀ i, i < os.length → TSeg (fun b => b < N) w (vs.getD i (.slice none 0 0)) (os.getD i [])) (hown : w.ownsRow base 22 1 v os.length vs)
    (hu : TSeg (fun b => b < N) w u xs) (hown' : w'.ownsRow base 22 1 v' (os.length + 1) (vs ++ [u])) (hg : w.grownBy w' v.ownBlock) (hN : N ≤ base) (hbase : base ≤ w.heap.size) : NR N w' base v' (os ++ [xs]) ∧ Below base w w' := by
  have hB : Below base w w' := (Below.refl base w).grown hg hbase (fun j hj => (hown.lt j hj).1)
  have ag : Agree (fun b => b < N) w w' := agree_below (hB.mono hN)
  refine ⟨⟨vs ++ [u], by simp [h1], by simpa using hown', fun i hi => ?_⟩, hB⟩
  by_cases hin : i < os.length
  · have e1 : (vs ++ [u]).getD i (.slice none 0 0) = vs.getD i (.slice none 0 0) := by simp [List.getD_eq_getElem?_getD, List.getElem?_append_left (show i < vs.length by omega)]
    have e2 : (os ++ [xs]).getD i [] = os.getD i [] := by simp [List.getD_eq_getElem?_getD, List.getElem?_append_left hin]
    rw [e1, e2]
    exact (h3 i hin).agree ag
  · have hin' : i = os.length := by simp at hi; omega
    subst hin'
    have e1 : (vs ++ [u]).getD os.length (.slice none 0 0) = u := by rw [← h1]; simp [List.getD_eq_getElem?_getD]
    have e2 : (os ++ [xs]).getD os.length [] = xs := by simp [List.getD_eq_getElem?_getD]
    rw [e1, e2]
    exact hu.agree ag

/-- 'append(out, x)' of a text that lies below N. -/
theorem wpList_NR_add {w : World} {ops : Array Oper} {rest : List Oper} {o : Oper} {a : Act} {Q : Exit → Act → World → Prop} (hgd : o.guard = none) (s x : Operand)
    (ho : o.op = .call { callee := .builtin .append, args := #[s, x], argTypes := #[27, 27] }) (N base : Nat) (v u : Value) (os : List (List Int)) (xs : List Int) (hs : a.eval s = v) (hR : NR N w base v os)
    (hx : a.eval x = .slice (some ⟨w.heap.size, 0, none⟩) 1 1) (hu : TSeg (fun b => b < N) w u xs) (n : Nat) (hn : os.length = n) (hlen : n ≤ 100000) (hN : N ≤ base) (hbase : base ≤ w.heap.size)
    (h : ∀ a' c' w', NR N w' base (.slice a' (n + 1) c') (os ++ [xs]) → Below base w w' → wpList Tryz.prog ops Q rest (a.put o.dst (.slice a' (n + 1) c')) w') : wpList Tryz.prog ops Q (o :: rest) a (w.alloc (.cells #[u] 22)) := by
  obtain ⟨iT, hiT, hy0, hy1, hy2⟩ := info_parts infoT
  obtain ⟨vs, h1, h2, h3⟩ := hR
  have hal : Below w.heap.size w (w.alloc (.cells #[u] 22)) := (Below.refl _ _).alloc (Nat.le_refl _) _
  have hu1 : u.oneCell' = true := by obtain ⟨_, _, rfl, _⟩ := hu; rfl
  have hown := h2.alloc (.cells #[u] 22)
  refine wpList_append_own_at (w := w.alloc (.cells #[u] 22)) hgd s x 27 ho base 22 iT (.slice none 0 0) 1 24 Tryz.underlying27 hiT hy0 hy1 hy2 rfl (by decide) v os.length vs hs hown ⟨w.heap.size, 0, none⟩ 1 1 [u] hx rfl (cell_one_new _ _ _) (by intro z hz; simp at hz; rw [hz]; exact hu1) (by unfold maxLen; omega) (by omega) (by simp; omega) ?_
  intro v' w' ho' hg' _ _
  have ag : Agree (fun b => b < N) w (w.alloc (.cells #[u] 22)) := agree_below (hal.mono (by omega))
  obtain ⟨k1, k2⟩ := NR.add (us := os) h1 (fun i hi => (h3 i hi).agree ag) hown (hu.agree ag) ho' hg' hN (by simp; omega)
  obtain ⟨a', c', e⟩ := k1.shape
  rw [List.length_append, List.length_singleton, hn] at e
  subst e
  exact h a' c' w' k1 ((hal.mono hbase).trans k2)
end Go.Proofs.YtngjhimieacjhaaGreatDoor
/-
  Uses and Locals of the specification: l6insert, l6names, l4ownAddrs.
-/
namespace Go.Proofs.YtngjhimieacjhaaGreatDoor
open Go.RowKit
set_option linter.unusedVariables false
set_option linter.unusedSimpArgs false

theorem insA_step (ws : List Int) (put : Bool) (ks : List (List Int)) (k : Nat) (hk : k < ks.length) :
    insA ws put (ks.drop k) = (if !put && decide (bytesC ws (ks.getD k []) ≤ 0) then [ws] else []) ++ ((if bytesC ws (ks.getD k []) ≠ 0 then [ks.getD k []] else []) ++ insA ws (put || decide (bytesC ws (ks.getD k []) ≤ 0)) (ks.drop (k + 1))) := by
  have e : ks.getD k [] = ks[k] := by simp [List.getD_eq_getElem?_getD, hk]
  rw [List.drop_eq_getElem_cons hk, e]
  rfl

set_option maxHeartbeats 2000000 in
set_option maxRecDepth 100000 in
theorem l6insert_any (N base : Nat) (x u : Value) (ks : List (List Int)) (ws : List Int) (w : World) (hx : NR N w base x ks) (hu : TSeg (fun b => b < N) w u ws) (hN : N ≤ w.heap.size) (hl : ks.length ≤ 1000) :
    Calls Tryz.prog 36 #[x, u] w fun e w' => ∃ y, e = .returned y ∧ NR N w' w.heap.size y (insN ks ws) ∧ Below w.heap.size w w' := by
  have HX := hide' hx
  have HU := hide' hu
  obtain ⟨a, cap, rfl⟩ := hx.shape
  obtain ⟨ua, uc, rfl, su, _, _, _, _⟩ := hu
  clear hx su
  go_enter Tryz.func36, Tryz.ntmps36
  go_wp2
  go_loopw [5, 6, 7] (fun y p i wr => ∃ (k : Nat) (put : Bool) (os : List (List Int)), k ≤ ks.length ∧ i = .int .i64 k ∧ p = .bool put ∧ NR N wr w.heap.size y os ∧ Below w.heap.size w wr ∧ Hid (os ++ insA ws put (ks.drop k) = insA ws false ks) ∧ os.length ≤ 2 * k) (fun _ _ i _ => ks.length - (intOf i).toNat)
  case atStart => exact ⟨0, false, [], Nat.zero_le _, rfl, rfl, NR.nil _ _ _, Below.refl _ _, rfl, by simp⟩
  case round =>
    obtain ⟨k, put, os, hk, rfl, rfl, hR, hbel, hins, hol⟩ := hrel
    have hsz := hbel.size
    obtain ⟨ya, yc, rfl⟩ := hR.shape
    by_cases hlt : k < ks.length
    · have hlt' : (k : Int) < (ks.length : Int) := by omega
      have hst := insA_step ws put ks k hlt
      obtain ⟨g, va, vc, rfl, hgl, hcell0, hT⟩ := HX.out.at hlt
      have HCell : Hid (∀ wx, Below w.heap.size w wx → wx.cell? ⟨g, k, none⟩ = some (.slice va (ks.getD k []).length vc)) := fun wx hb => (World.cell?_of_block (hb.block g hgl)).trans hcell0
      have hcell := HCell.out wr hbel
      have HUr : Hid (∀ wx, Below w.heap.size w wx → TSeg (fun b => b < N) wx (.slice ua ws.length uc) ws) := fun wx hb => HU.out.agree (agree_below (hb.mono hN))
      have HTr : Hid (∀ wx, Below w.heap.size w wx → TSeg (fun b => b < N) wx (.slice va (ks.getD k []).length vc) (ks.getD k [])) := fun wx hb => hT.agree (agree_below (hb.mono hN))
      have hcs := bytesC_cases ws (ks.getD k [])
      have HC : Hid (Calls Tryz.prog 54 #[.slice ua ws.length uc, .slice va (ks.getD k []).length vc] wr fun e w' => e = .returned (.int .i64 (bytesC ws (ks.getD k []))) ∧ wr = w') := by
        obtain ⟨_, _, e1, s1, _⟩ := HUr.out wr hbel
        obtain ⟨_, _, e2, s2, _⟩ := HTr.out wr hbel
        simp at e1 e2
        obtain ⟨rfl, _⟩ := e1
        obtain ⟨rfl, _⟩ := e2
        exact l2bytes_any _ _ _ _ ws (ks.getD k []) wr s1 s2
      clear hcell0 hT
      cases put with
      | true =>
        by_cases hc0 : bytesC ws (ks.getD k []) = 0
        · rw [hc0] at HC
          generalize ks.getD k [] = zs at *
          have HF : Hid (os ++ insA ws true (ks.drop (k + 1)) = insA ws false ks) := by
            have h := hins.out
            rw [hst, hc0] at h
            exact hide' (by simpa using h)
          clear hst hcs hc0
          go_wp2_with (go_at_call 54; refine HC.out.mono ?_; rintro e w1 ⟨rfl, e1⟩; obtain rfl := e1)
          go_roundw
          case rel => exact ⟨k + 1, true, os, by omega, by go_num, rfl, hR, hbel, HF, by omega⟩
          case measure => simp [intOf]; omega
        · generalize ks.getD k [] = zs at *
          generalize bytesC ws zs = c at *
          have HF : Hid ((os ++ [zs]) ++ insA ws true (ks.drop (k + 1)) = insA ws false ks) := by
            have h := hins.out
            rw [hst] at h
            exact hide' (by simpa [hc0] using h)
          have hne : (c != 0) = true := by simpa using hc0
          clear hst hc0
          go_wp2_with (first | (go_at_call 54; refine HC.out.mono ?_; rintro e w1 ⟨rfl, e1⟩; obtain rfl := e1) | (at_builtin; refine wpList_NR_add rfl (.tmp 33) (.tmp 38) (by rfl) N w.heap.size _ (.slice va zs.length vc) os zs (by rfl) hR (by rfl) (HTr.out _ hbel) os.length rfl (by omega) hN (by have := (hbel : Below w.heap.size w _).size; omega) ?_; intro y2a y2c w2 hR2 hB2; replace hB2 := (hbel).trans hB2))
          go_roundw
          case rel => exact ⟨k + 1, true, _, by omega, by go_num, rfl, hR2, hB2, HF, by simp; omega⟩
          case measure => simp [intOf]; omega
      | false =>
        by_cases hc0 : bytesC ws (ks.getD k []) = 0
        · rw [hc0] at HC
          generalize ks.getD k [] = zs at *
          have HF : Hid ((os ++ [ws]) ++ insA ws true (ks.drop (k + 1)) = insA ws false ks) := by
            have h := hins.out
            rw [hst, hc0] at h
            exact hide' (by simpa using h)
          clear hst hcs hc0
          go_wp2_with (first | (go_at_call 54; refine HC.out.mono ?_; rintro e w1 ⟨rfl, e1⟩; obtain rfl := e1) | (at_builtin; refine wpList_NR_add rfl (.tmp 27) (.tmp 29) (by rfl) N w.heap.size _ (.slice ua ws.length uc) os ws (by rfl) hR (by rfl) (HUr.out _ (by first | exact hbel | exact hB1)) os.length rfl (by omega) hN (by have := hbel.size; omega) ?_; intro y1a y1c w1 hR1 hB1; replace hB1 := hbel.trans hB1; have hcell1 := HCell.out _ hB1))
          go_roundw
          case rel => exact ⟨k + 1, true, _, by omega, by go_num, rfl, hR1, hB1, HF, by simp; omega⟩
          case measure => simp [intOf]; omega
        · generalize ks.getD k [] = zs at *
          generalize bytesC ws zs = c at *
          have hne : (c != 0) = true := by simpa using hc0
          by_cases hc1 : c ≤ 0
          · have HF : Hid (((os ++ [ws]) ++ [zs]) ++ insA ws true (ks.drop (k + 1)) = insA ws false ks) := by
              have h := hins.out
              rw [hst] at h
              exact hide' (by simpa [hc0, hc1] using h)
            clear hst hc0
            go_wp2_with (first | (go_at_call 54; refine HC.out.mono ?_; rintro e w1 ⟨rfl, e1⟩; obtain rfl := e1) | (at_builtin; refine wpList_NR_add rfl (.tmp 27) (.tmp 29) (by rfl) N w.heap.size _ (.slice ua ws.length uc) os ws (by rfl) hR (by rfl) (HUr.out _ (by first | exact hbel | exact hB1)) os.length rfl (by omega) hN (by have := hbel.size; omega) ?_; intro y1a y1c w1 hR1 hB1; replace hB1 := hbel.trans hB1; have hcell1 := HCell.out _ hB1) | (at_builtin; refine wpList_NR_add rfl (.tmp 33) (.tmp 38) (by rfl) N w.heap.size _ (.slice va zs.length vc) (os ++ [ws]) zs (by rfl) hR1 (by rfl) (HTr.out _ hB1) (os.length + 1) (by simp) (by omega) hN (by have := (hB1 : Below w.heap.size w _).size; omega) ?_; intro y2a y2c w2 hR2 hB2; replace hB2 := (hB1).trans hB2))
            go_roundw
            case rel => exact ⟨k + 1, true, _, by omega, by go_num, rfl, hR2, hB2, HF, by simp; omega⟩
            case measure => simp [intOf]; omega
          · have HF : Hid ((os ++ [zs]) ++ insA ws false (ks.drop (k + 1)) = insA ws false ks) := by
              have h := hins.out
              rw [hst] at h
              exact hide' (by simpa [hc0, hc1] using h)
            clear hst hc0
            go_wp2_with (first | (go_at_call 54; refine HC.out.mono ?_; rintro e w1 ⟨rfl, e1⟩; obtain rfl := e1) | (at_builtin; refine wpList_NR_add rfl (.tmp 33) (.tmp 38) (by rfl) N w.heap.size _ (.slice va zs.length vc) os zs (by rfl) hR (by rfl) (HTr.out _ hbel) os.length rfl (by omega) hN (by have := (hbel : Below w.heap.size w _).size; omega) ?_; intro y2a y2c w2 hR2 hB2; replace hB2 := (hbel).trans hB2))
            go_roundw
            case rel => exact ⟨k + 1, false, _, by omega, by go_num, rfl, hR2, hB2, HF, by simp; omega⟩
            case measure => simp [intOf]; omega
    · have hkn : k = ks.length := by omega
      have hlt' : ¬ (k : Int) < (ks.length : Int) := by omega
      have HUr : Hid (∀ wx, Below w.heap.size w wx → TSeg (fun b => b < N) wx (.slice ua ws.length uc) ws) := fun wx hb => HU.out.agree (agree_below (hb.mono hN))
      cases put with
      | true =>
        have HF : Hid (os = insN ks ws) := by
          have h := hins.out
          rw [hkn, List.drop_length] at h
          exact hide' (by simpa [insA, insN] using h)
        clear hkn
        go_wp2
        go_ret
        exact ⟨_, rfl, by rw [← HF.out]; exact hR, hbel⟩
      | false =>
        have HF : Hid (os ++ [ws] = insN ks ws) := by
          have h := hins.out
          rw [hkn, List.drop_length] at h
          exact hide' (by simpa [insA, insN] using h)
        clear hkn
        go_wp2_with (at_builtin; refine wpList_NR_add rfl (.tmp 42) (.tmp 44) (by rfl) N w.heap.size _ (.slice ua ws.length uc) os ws (by rfl) hR (by rfl) (HUr.out _ hbel) os.length rfl (by omega) hN (by omega) ?_; intro y1a y1c w1 hR1 hB1; replace hB1 := hbel.trans hB1)
        go_ret
        exact ⟨_, rfl, by rw [← HF.out]; exact hR1, hB1⟩

theorem insA_len (w : List Int) : ∀ (put : Bool) (l : List (List Int)), (insA w put l).length ≤ l.length + 1
  | put, [] => by unfold insA; split <;> simp
  | put, x :: r => by
    have h1 := insA_len w (put || decide (bytesC w x ≤ 0)) r
    cases put with
    | true =>
      have h2 : ∀ l : List (List Int), (insA w true l).length ≤ l.length := by
        intro l
        induction l with
        | nil => simp [insA]
        | cons y s ih =>
          simp only [insA, Bool.not_true, Bool.false_and, Bool.true_or, List.length_append, List.length_cons]
          have : (if bytesC w y ≠ 0 then [y] else []).length ≤ 1 := by split <;> simp
          simp only [Bool.false_eq_true, if_false, List.length_nil]
          omega
      have := h2 (x :: r)
      omega
    | false =>
      by_cases hc : bytesC w x ≤ 0
      · have h2 : ∀ l : List (List Int), (insA w true l).length ≤ l.length := by
          intro l
          induction l with
          | nil => simp [insA]
          | cons y s ih =>
            simp only [insA, Bool.not_true, Bool.false_and, Bool.true_or, List.length_append, List.length_cons]
            have : (if bytesC w y ≠ 0 then [y] else []).length ≤ 1 := by split <;> simp
            simp only [Bool.false_eq_true, if_false, List.length_nil]
            omega
        have h3 := h2 r
        simp only [insA, Bool.not_false, Bool.true_and, Bool.false_or, decide_eq_true hc, if_true, List.length_append, List.length_cons, List.length_nil]
        have : (if bytesC w x ≠ 0 then [x] else []).length ≤ 1 := by split <;> simp
        omega
      · simp only [insA, Bool.not_false, Bool.true_and, Bool.false_or, decide_eq_false hc, List.length_append, List.length_cons]
        rw [Bool.false_or, decide_eq_false hc] at h1
        have : (if bytesC w x ≠ 0 then [x] else []).length ≤ 1 := by split <;> simp
        simp only [Bool.false_eq_true, if_false, List.length_nil]
        omega

theorem insN_len (l : List (List Int)) (w : List Int) : (insN l w).length ≤ l.length + 1 := insA_len w false l

theorem fold_len : ∀ (r l : List (List Int)), (r.foldl insN l).length ≤ l.length + r.length
  | [], l => by simp
  | w :: r, l => by
    have := fold_len r (insN l w)
    have := insN_len l w
    simp only [List.foldl_cons, List.length_cons]
    omega

theorem rawN_len (k : Int) : ∀ (d : Nat) (v : Vl d), (rawN k d v).length ≤ partsE d v := by
  intro d
  induction d with
  | zero => intro v; exact v.elim
  | succ d ih =>
    intro v
    obtain ⟨vk, vn, vs, vK, vL⟩ := v
    show ((if vk = k then [vs] else []) ++ (vL.map (rawN k d)).flatten).length ≤ 1 + (vL.map (partsE d)).sum
    have h1 : (if vk = k then [vs] else []).length ≤ 1 := by split <;> simp
    have h2 : ((vL.map (rawN k d)).flatten).length ≤ (vL.map (partsE d)).sum := by
      induction vL with
      | nil => simp
      | cons x r ih2 =>
        have := ih x
        simp only [List.map_cons, List.flatten_cons, List.length_append, List.sum_cons]
        omega
    rw [List.length_append]
    omega

/-- The names of the first j kids. -/
def preN (k : Int) (d : Nat) (vL : List (Vl d)) (j : Nat) : List (List Int) := ((vL.take j).map (rawN k d)).flatten
theorem preN_zero (k : Int) (d : Nat) (vL : List (Vl d)) : preN k d vL 0 = [] := by simp [preN]
theorem preN_succ (k : Int) (d : Nat) (vL : List (Vl d)) (j : Nat) (h : j < vL.length) : preN k d vL (j + 1) = preN k d vL j ++ rawN k d vL[j] := by
  unfold preN
  rw [List.take_succ_eq_append_getElem h, List.map_append, List.flatten_append]
  simp
theorem preN_all (k : Int) (d : Nat) (vL : List (Vl d)) : preN k d vL vL.length = (vL.map (rawN k d)).flatten := by simp [preN]
theorem preN_len (k : Int) (d : Nat) (vL : List (Vl d)) (j : Nat) : (preN k d vL j).length ≤ pre (partsE d) vL j := by
  unfold preN pre
  generalize vL.take j = l
  induction l with
  | nil => simp
  | cons x r ih =>
    have := rawN_len k d x
    simp only [List.map_cons, List.flatten_cons, List.length_append, List.sum_cons]
    omega

end Go.Proofs.YtngjhimieacjhaaGreatDoor
/-
  l4ownAddrs of the specification; the names of an expression's parts are names.
-/
namespace Go.Proofs.YtngjhimieacjhaaGreatDoor
open Go.RowKit
set_option linter.unusedVariables false
set_option linter.unusedSimpArgs false

theorem kNilE (w : World) : KOwn w (.slice none 0 0) [] [] := .inl ⟨rfl, rfl, rfl⟩

set_option maxHeartbeats 2000000 in
set_option maxRecDepth 100000 in
theorem l4ownAddrs_any (N base : Nat) (x : Value) (ks : List (List Int)) (w : World) (hx : NR N w base x ks) (hN : N ≤ w.heap.size) (hl : ks.length ≤ 1000) (hl1 : ∀ i, i < ks.length → (ks.getD i []).length ≤ 1000) :
    Calls Tryz.prog 37 #[x] w fun e w' => ∃ u, e = .returned u ∧ ∃ B, KOwn w' u ks B ∧ (∀ b ∈ B, w.heap.size ≤ b ∧ b < w'.heap.size) ∧ Below w.heap.size w w' := by
  obtain ⟨iT, hiT, hy0, hy1, hy2⟩ := info_parts infoT
  have HX := hide' hx
  have HL := hide' hl1
  obtain ⟨xa, xc, rfl⟩ := hx.shape
  clear hx hl1
  go_enter Tryz.func37, Tryz.ntmps37
  go_wp2
  go_loopw [3, 4] (fun x i wr => ∃ k : Nat, k ≤ ks.length ∧ i = .int .i64 k ∧ ∃ cs Bi, RW 22 1 (ItK ks) wr w.heap.size x k cs Bi ∧ Below w.heap.size w wr) (fun _ i _ => ks.length - (intOf i).toNat)
  case atStart => exact ⟨0, Nat.zero_le _, rfl, _, _, RW.nil _ _ _ _ _, Below.refl _ _⟩
  case round =>
    obtain ⟨k, hk, rfl, cs, Bi, hR, hbel⟩ := hrel
    have hsz := hbel.size
    have hvK : ∃ p c, u3 = .slice p k c := by
      rcases hR.2.2.1.2 with ⟨rfl, h0⟩ | ⟨g, cap, cur, rfl, _⟩
      · exact ⟨none, 0, by rw [h0]⟩
      · exact ⟨_, _, rfl⟩
    obtain ⟨pK, cK, rfl⟩ := hvK
    by_cases hkn : k < ks.length
    · have hkn' : (k : Int) < (ks.length : Int) := by omega
      have hk0 : (0 : Int) ≤ (k : Int) := Int.natCast_nonneg _
      obtain ⟨g, ua, uc, rfl, hgl, hcu, hT⟩ := HX.out.at hkn
      have hlk := HL.out k hkn
      obtain ⟨_, _, eT, hsu, _, _, hnu, hRu⟩ := hT
      simp only [Value.slice.injEq] at eT
      obtain ⟨rfl, _, rfl⟩ := eT
      have hBa : Below w.heap.size w (wr.alloc (.cells #[] 5)) := hbel.alloc (by omega) _
      have hcu' : (wr.alloc (.cells #[] 5)).cell? ⟨g, k, none⟩ = some (.slice ua (ks.getD k []).length uc) := (World.cell?_of_block (hBa.block g hgl)).trans hcu
      have hsu' : Seg (wr.alloc (.cells #[] 5)) ua (ks.getD k []) := hsu.below hBa fun x hx hne => by have := hRu x hx hne; omega
      have hE : Bts (wr.alloc (.cells #[] 5)) wr.heap.size (.slice (some ⟨wr.heap.size, 0, none⟩) 0 0) [] := ⟨by simp, by simp [cellsOf], .inr ⟨wr.heap.size, 0, #[], rfl, Nat.le_refl _, heap_alloc_new wr _, Nat.le_refl _, Nat.zero_le _, rfl, rfl⟩⟩
      have HR := hide' (And.intro hR hbel)
      have hBe : Hid (Below wr.heap.size wr (wr.alloc (.cells #[] 5))) := (Below.refl _ _).alloc (Nat.le_refl _) _
      have Hv : Hid (∀ w5, Below wr.heap.size wr w5 → w5.ownsRow w.heap.size 22 1 (.slice pK k cK) k cs.flatten) := fun w5 hb5 => hR.2.2.1.kept (row := none) ⟨hb5.os, hb5.tape, hb5.output, hb5.size, fun k hk _ => hb5.block k hk⟩ (by cases hv : (Value.slice pK k cK).ownBlock <;> simp)
      generalize hks : ks.getD k [] = xs at *
      have Hks := hide' hks
      generalize hnk : xs.length = nk at *
      clear hR hbel hBa hcu hsu hks hRu
      go_wp2_with (at_builtin; first
        | (refine wpList_append_seg rfl (.tmp 12) (.tmp 16) (by rfl) wr.heap.size (.slice (some ⟨wr.heap.size, 0, none⟩) 0 0) [] xs (by rfl) hE ua nk uc hnk.symm (by rfl) hsu' hnu (by simp; omega) (by simp) ?_; intro v5 w5 hv5 hg5; rw [List.nil_append] at hv5; have hb5 := hide' (hBe.out.grown hg5 (by simp) (by intro j hj; simp [Value.ownBlock] at hj; omega)); obtain ⟨a5, c5, h5, _⟩ := hv5.shape; rw [hnk] at h5; subst h5; replace hv5 := hide' hv5; clear hg5 hE hsu')
        | (refine wpList_append_lies _ rfl (.tmp 11) (.tmp 18) 27 (by rfl) w.heap.size 22 iT (.slice none 0 0) 1 24 Tryz.underlying27 hiT hy0 hy1 hy2 rfl (by decide) (.slice pK k cK) k cs.flatten (by rfl) ((Hv.out w5 hb5.out).alloc _) ⟨w5.heap.size, 0, none⟩ 1 1 [.slice a5 nk c5] (by rfl) (by rfl) (World.news_of_block (cs := #[.slice a5 nk c5]) (t := 22) (fr := (0, 0)) (heap_alloc_new w5 _)) (by simp [Value.oneCell']) (by omega) (by unfold maxLen; omega) (by omega) (by have := hb5.out.size; simp; omega) (w5.heap.size + 1) (by simp) ?_; intro g6 cp6 w6 hown6 hg6 hat6 hlt6; obtain ⟨cs', Bi', hR6, hB6⟩ := rwk_step HR.out.1 HR.out.2 hb5.out (by rw [Hks.out]; exact hv5.out) hown6 hg6 hat6; replace hR6 := hide' hR6; replace hB6 := hide' hB6; clear hown6 hg6 hat6 hlt6))
      go_wp2
      go_roundw
      case rel => exact ⟨k + 1, by omega, by go_num, _, _, hR6.out, hB6.out⟩
      case measure => simp [intOf]; omega
    · have hkn' : k = ks.length := by omega
      subst hkn'
      have hkl' : ¬ (ks.length : Int) < (ks.length : Int) := by omega
      have HR := hide' (And.intro hR hbel)
      clear hR hbel
      go_wp2_with fail
      go_ret
      have hbd := HR.out.1.2.2.2.2.2
      exact ⟨_, rfl, _, HR.out.1.kown, fun b hb => by have := hbd b hb; omega, HR.out.2⟩

theorem mem_insA (w : List Int) : ∀ (put : Bool) (l : List (List Int)) (x : List Int), x ∈ insA w put l → x = w ∨ x ∈ l
  | put, [], x, h => by
    unfold insA at h
    split at h <;> simp at h
    exact .inl h
  | put, y :: r, x, h => by
    unfold insA at h
    rcases List.mem_append.1 h with h | h
    · split at h <;> simp at h
      exact .inl h
    rcases List.mem_append.1 h with h | h
    · split at h <;> simp at h
      exact .inr (by simp [h])
    · rcases mem_insA w _ r x h with h | h
      · exact .inl h
      · exact .inr (by simp [h])

theorem mem_fold : ∀ (r l : List (List Int)) (x : List Int), x ∈ r.foldl insN l → x ∈ r ∨ x ∈ l
  | [], l, x, h => .inr h
  | w :: r, l, x, h => by
    rcases mem_fold r (insN l w) x h with h | h
    · exact .inl (by simp [h])
    · rcases mem_insA w false l x h with h | h
      · exact .inl (by simp [h])
      · exact .inr h

/-- Names of resources and of locals are names. -/
theorem raw_names (k : Int) (hk : k = 6 ∨ k = 7) : ∀ (d : Nat) (v : Vl d) (deep : Nat), goodE d v deep = true → ∀ x ∈ rawN k d v, nameB x = true := by
  intro d
  induction d with
  | zero => intro v; exact v.elim
  | succ d ih =>
    intro v deep hg x hx
    obtain ⟨vk, vn, vs, vK, vL⟩ := v
    obtain ⟨_, hsh, hkids⟩ := (goodE_succ _ _ _ _ _ _ _).1 hg
    have hx' : x ∈ (if vk = k then [vs] else []) ++ (vL.map (rawN k d)).flatten := hx
    rcases List.mem_append.1 hx' with h | h
    · split at h
      · next e =>
        have hx2 : x = vs := by simpa using h
        subst hx2
        unfold shpB at hsh
        simp only [Bool.and_eq_true] at hsh
        have hs := hsh.2
        rcases hk with rfl | rfl
        · subst e
          exact hs
        · subst e
          have hs' : (nameB x && !keptB x) = true := hs
          simp only [Bool.and_eq_true] at hs'
          exact hs'.1
      · simp at h
    · obtain ⟨l, hl, hxl⟩ := List.mem_flatten.1 h
      obtain ⟨y, hy, rfl⟩ := List.mem_map.1 hl
      obtain ⟨j, hj, rfl⟩ := List.getElem_of_mem hy
      exact ih _ _ (hkids j hj) x hxl
end Go.Proofs.YtngjhimieacjhaaGreatDoor
/-
  What Differ answers (mathematics): the addresses whose entries are not there, or not of one value, in both.
-/
namespace Go.Proofs.YtngjhimieacjhaaGreatDoor
open Go.RowKit
set_option linter.unusedVariables false
set_option linter.unusedSimpArgs false

/-- The entry of an address; a zero one if there is none. -/
def entA (D : Nat) (l : List (Ntr (D + 1))) (x : List Int) : Ntr (D + 1) := l.getD (findK (adrL l) x).toNat (ntNil D)
/-- Whether an entry is in the other list too, with the same value. -/
def sameE (D : Nat) (l : List (Ntr (D + 1))) (e : Ntr (D + 1)) : Bool := hasA (adrL l) e.1 && decide (cmpV (D + 1) e.2.1 (entA D l e.1).2.1 = 0)
def difP (D : Nat) (l : List (Ntr (D + 1))) (e : Ntr (D + 1)) : Bool := !sameE D l e
def newP (D : Nat) (l : List (Ntr (D + 1))) (e : Ntr (D + 1)) : Bool := !hasA (adrL l) e.1
def dfL (D : Nat) (la lb : List (Ntr (D + 1))) : List (List Int) := (fltA la (difP D lb) ++ fltA lb (newP D la)).foldl insN []
/-- What Differ answers. -/
def dfA (D : Nat) (s t : Stt (D + 1)) : List (List Int) := if staB (D + 1) s = true ∧ staB (D + 1) t = true then dfL D s.2.2.2.2 t.2.2.2.2 else []

theorem dfL_asc (D : Nat) (la lb : List (Ntr (D + 1))) : AscU ((dfL D la lb).map u8s) := (fold_u8s _ [] (by simp [AscU])).1
theorem dfL_mem (D : Nat) (la lb : List (Ntr (D + 1))) (x : List UInt8) : x ∈ (dfL D la lb).map u8s ↔ x ∈ (fltA la (difP D lb)).map u8s ∨ x ∈ (fltA lb (newP D la)).map u8s := by
  unfold dfL
  rw [(fold_u8s _ [] (by simp [AscU])).2 x, List.map_append, List.mem_append]
  simp
theorem fltA_map {d : Nat} {l : List (Ntr d)} {p : Ntr d → Bool} {x : List UInt8} : x ∈ (fltA l p).map u8s ↔ ∃ i, ∃ h : i < l.length, p l[i] = true ∧ x = u8s (l[i]).1 := by
  unfold fltA adrL
  rw [List.map_map, List.mem_map]
  constructor
  · rintro ⟨e, he, rfl⟩
    obtain ⟨h1, h2⟩ := List.mem_filter.1 he
    obtain ⟨i, hi, rfl⟩ := List.getElem_of_mem h1
    exact ⟨i, hi, h2, rfl⟩
  · rintro ⟨i, hi, hp, rfl⟩
    exact ⟨l[i], List.mem_filter.2 ⟨List.getElem_mem _, hp⟩, rfl⟩

theorem hasA_iff {ks : List (List Int)} {x : List Int} : hasA ks x = true ↔ ∃ i, i < ks.length ∧ ks.getD i [] = x := by
  unfold hasA
  rw [decide_eq_true_eq]
  constructor
  · intro h
    obtain ⟨k, h1, _, h2⟩ := findK_in h
    exact ⟨k, h1, h2⟩
  · rintro ⟨i, hi, e⟩
    by_cases hf : 0 ≤ findK ks x
    · exact hf
    · exfalso
      have h1 := findK_range ks x
      unfold findK at h1 hf
      cases hq : ks.findIdx? (fun k => decide (k = x)) with
      | some j => rw [hq] at hf; simp at hf
      | none =>
        have := List.findIdx?_eq_none_iff.1 hq ks[i] (List.getElem_mem _)
        rw [List.getD_eq_getElem?_getD, List.getElem?_eq_getElem hi] at e
        have e' : ks[i] = x := e
        simp [e'] at this

section
variable {D : Nat} {la lb : List (Ntr (D + 1))}
/-- Where the addresses ascend an entry is the one of its address. -/
theorem entA_at (h : ∀ i, i < (adrL la).length → upB (adrL la) i = true) {i : Nat} (hi : i < la.length) {x : List Int} (e : (la[i]).1 = x) : findK (adrL la) x = i ∧ entA D la x = la[i] := by
  have hf : findK (adrL la) x = i := findK_at (by rw [adrL_len]; exact hi) (fun j hj e' => by
    have := up_inj h (i := j) (j := i) (by rw [adrL_len]; omega) (by rw [adrL_len]; exact hi) (by rw [e', adrL_at la hi, e])
    omega) (by rw [adrL_at la hi, e])
  refine ⟨hf, ?_⟩
  unfold entA
  rw [hf]
  simp [List.getD_eq_getElem?_getD, hi]

/-- What is there in the end. -/
theorem dfL_iff (hA : ∀ i, i < (adrL la).length → upB (adrL la) i = true) (hB : ∀ i, i < (adrL lb).length → upB (adrL lb) i = true)
    (bA : ∀ i (h : i < la.length), ∀ y ∈ (la[i]).1, Byt y) (bB : ∀ i (h : i < lb.length), ∀ y ∈ (lb[i]).1, Byt y) (x : List UInt8) :
    x ∈ (dfL D la lb).map u8s ↔ (∃ j, ∃ h : j < lb.length, x = u8s (lb[j]).1 ∧ (hasA (adrL la) (lb[j]).1 && decide (cmpV (D + 1) (entA D la (lb[j]).1).2.1 (lb[j]).2.1 = 0)) = false) ∨ ((∃ i, ∃ h : i < la.length, x = u8s (la[i]).1) ∧ ∀ j (h : j < lb.length), x ≠ u8s (lb[j]).1) := by
  rw [dfL_mem, fltA_map, fltA_map]
  have inj : ∀ i (h : i < la.length) j (h' : j < lb.length), u8s (la[i]).1 = u8s (lb[j]).1 → (la[i]).1 = (lb[j]).1 := fun i h j h' e => map_byt_inj (bA i h) (bB j h') e
  constructor
  · rintro (⟨i, hi, hp, rfl⟩ | ⟨j, hj, hp, rfl⟩)
    · by_cases hx : ∃ j, ∃ h : j < lb.length, (lb[j]).1 = (la[i]).1
      · obtain ⟨j, hj, e⟩ := hx
        refine .inl ⟨j, hj, by rw [e], ?_⟩
        have h1 := (entA_at hB hj e).2
        have h2 := (entA_at hA hi e.symm).2
        rw [h2]
        unfold difP sameE at hp
        rw [h1] at hp
        have hh : hasA (adrL lb) (la[i]).1 = true := hasA_iff.2 ⟨j, by rw [adrL_len]; exact hj, by rw [adrL_at lb hj]; exact e⟩
        rw [hh] at hp
        have hh2 : hasA (adrL la) (lb[j]).1 = true := hasA_iff.2 ⟨i, by rw [adrL_len]; exact hi, by rw [adrL_at la hi]; exact e.symm⟩
        rw [hh2]
        simpa using hp
      · exact .inr ⟨⟨i, hi, rfl⟩, fun j hj e => hx ⟨j, hj, (inj i hi j hj e).symm⟩⟩
    · unfold newP at hp
      refine .inl ⟨j, hj, rfl, ?_⟩
      have : hasA (adrL la) (lb[j]).1 = false := by simpa using hp
      rw [this]; rfl
  · rintro (⟨j, hj, rfl, hs⟩ | ⟨⟨i, hi, rfl⟩, hn⟩)
    · by_cases hx : hasA (adrL la) (lb[j]).1 = true
      · obtain ⟨i, hi, e⟩ := hasA_iff.1 hx
        rw [adrL_len] at hi
        rw [adrL_at la hi] at e
        refine .inl ⟨i, hi, ?_, by rw [e]⟩
        have h1 := (entA_at hB hj e.symm).2
        have h2 := (entA_at hA hi e).2
        rw [h2, hx] at hs
        unfold difP sameE
        rw [h1]
        have : decide (cmpV (D + 1) (la[i]).2.1 (lb[j]).2.1 = 0) = false := by simpa using hs
        rw [this]
        simp
      · refine .inr ⟨j, hj, ?_, rfl⟩
        unfold newP
        simpa using hx
    · refine .inl ⟨i, hi, ?_, rfl⟩
      unfold difP sameE
      have : hasA (adrL lb) (la[i]).1 = false := by
        cases h : hasA (adrL lb) (la[i]).1 with
        | false => rfl
        | true =>
          obtain ⟨j, hj, e⟩ := hasA_iff.1 h
          rw [adrL_len] at hj
          rw [adrL_at lb hj] at e
          exact absurd (by rw [e]) (hn j hj)
      rw [this]; rfl
end

/-- The keys of a map in order, where it is known which there are. -/
theorem sorted_of_has {H : Type} {P : Program} {k : TypeId} {R : Go.Value → Option (DataW H × List MemPlace)} {w : World} {b n : Nat} {D0 : DataW H} (hown : w.ownsMap P k R b n D0) (K : Maps.Keyed P k) (hk : P.underlying k = some .string) {ks : List (List Int)} (ha : AscU (ks.map u8s)) (hm : ∀ x, x ∈ ks.map u8s ↔ Maps.has D0 (.string x) = true) {ss : List (List UInt8)} (hp : ss.Perm (Go.strKeys D0)) :
    ss.mergeSort (fun x y => decide (x ≤ y)) = ks.map u8s := by
  have hnd : (ks.map u8s).Nodup := ha.imp fun h e => by subst e; exact u_irrefl _ h
  obtain ⟨es, hD, hpw, _⟩ := hown.entries K
  obtain ⟨es', hD', hko⟩ := hown.keysOf
  obtain rfl : es = es' := by rw [hD] at hD'; simpa using hD'
  subst hD
  have h1 : (ks.map u8s).Perm (Go.strKeys (.map es)) := Go.perm_strKeys hpw (fun p hp => by obtain ⟨v, hv⟩ := hko p hp; obtain ⟨x, _, hx, _⟩ := Maps.keyOf_str hk hv; exact ⟨x, hx⟩) hnd hm
  have h2 : ss.mergeSort (fun x y => decide (x ≤ y)) = (ks.map u8s).mergeSort (fun x y => decide (x ≤ y)) := Go.mergeSort_of_perm (hp.trans h1.symm)
  rw [h2]
  refine List.mergeSort_of_pairwise (ha.imp fun h => decide_eq_true (List.le_of_lt h))
end Go.Proofs.YtngjhimieacjhaaGreatDoor
/-
  While Differ of the program goes through the other state's entries: what the map holds (mathematics).
-/
namespace Go.Proofs.YtngjhimieacjhaaGreatDoor
open Go.RowKit Go.Maps
set_option linter.unusedVariables false
set_option linter.unusedSimpArgs false

/-- Whether an entry of the other state is in this one, with the same value. -/
def samE (D : Nat) (la : List (Ntr (D + 1))) (e : Ntr (D + 1)) : Bool := hasA (adrL la) e.1 && decide (cmpV (D + 1) (entA D la e.1).2.1 e.2.1 = 0)
def Frm (d : DataW Value) : Prop := ∃ m a n c t u, d = .held (.agg #[.map m, .slice a n c, .bool t, .int .i64 u])

theorem key_lit (x : List UInt8) : WideAt.IsKeyLit (.string x) := trivial
theorem str_key {x y : List UInt8} : (Lit.string x).sameKey (.string y) = decide (x = y) := by
  by_cases h : x = y
  · subst h; simp [Lit.sameKey]
  · simp [Lit.sameKey, h]
theorem str_ne {x y : List UInt8} (h : x ≠ y) : (Lit.string x) ≠ .string y := fun e => h (by simpa using e)

theorem has_ent {ks : List (List Int)} {ps : List Value} {n : Nat} {x : List UInt8} : has (DataW.map (entF ks ps n)) (.string x) = true ↔ ∃ i, i < n ∧ x = u8s (ks.getD i []) := by
  rw [has_eq, List.any_eq_true]
  constructor
  · rintro ⟨p, hp, hk⟩
    simp only [entF, List.mem_map, List.mem_range] at hp
    obtain ⟨i, hi, rfl⟩ := hp
    rw [str_key] at hk
    exact ⟨i, hi, (of_decide_eq_true hk).symm⟩
  · rintro ⟨i, hi, rfl⟩
    refine ⟨(.string (u8s (ks.getD i [])), .held (ps.getD i .nilIface)), ?_, by rw [str_key]; exact decide_eq_true rfl⟩
    simp only [entF, List.mem_map, List.mem_range]
    exact ⟨i, hi, rfl⟩

/-- What comes of a range is an entry. -/
theorem held_key {ks : List (List Int)} {ps : List Value} {n : Nat} {x : List UInt8} {c : Value} (h : ∀ zd, (DataW.map (entF ks ps n)).atKey (.string x) zd = .held c) : ∃ i, i < n ∧ x = u8s (ks.getD i []) ∧ c = ps.getD i .nilIface := by
  have h1 := h .nil
  unfold DataW.atKey at h1
  simp only at h1
  split at h1
  · next p hp =>
    have hm := List.mem_of_find?_eq_some hp
    have hk := List.find?_some hp
    simp only [entF, List.mem_map, List.mem_range] at hm
    obtain ⟨i, hi, rfl⟩ := hm
    simp only [DataW.held.injEq] at h1
    rw [str_key] at hk
    exact ⟨i, hi, (of_decide_eq_true hk).symm, h1.symm⟩
  · simp at h1

/-- What stands in the map when some keys are no longer to come. -/
structure DInv (D : Nat) (la lb : List (Ntr (D + 1))) (DA : DataW Value) (left : Lit → Bool) (Dt : DataW Value) : Prop where
  vis : ∀ j (h : j < lb.length), left (.string (u8s (lb[j]).1)) = false → has Dt (.string (u8s (lb[j]).1)) = !samE D la lb[j]
  old : ∀ x, (∀ j (h : j < lb.length), x = u8s (lb[j]).1 → left (.string x) = true) → has Dt (.string x) = has DA (.string x) ∧ ∀ z, Dt.atKey (.string x) z = DA.atKey (.string x) z
  frm : ∀ x, has Dt (.string x) = true → ∃ d, Frm d ∧ ∀ z, Dt.atKey (.string x) z = d

section
variable {D : Nat} {la lb : List (Ntr (D + 1))} {DA Dt : DataW Value} {left : Lit → Bool}
theorem dinv_start {pB : List Value} (hf : ∀ x, has DA (.string x) = true → ∃ d, Frm d ∧ ∀ z, DA.atKey (.string x) z = d) : DInv D la lb DA (has (DataW.map (entF (adrL lb) pB lb.length))) DA := by
  refine ⟨fun j h hl => ?_, fun x _ => ⟨rfl, fun z => rfl⟩, hf⟩
  rw [has_ent.2 ⟨j, h, by rw [adrL_at lb h]⟩] at hl
  cases hl

theorem dinv_put (h : DInv D la lb DA left Dt) (hm : IsMap Dt) {j : Nat} (hj : j < lb.length) (hl : left (.string (u8s (lb[j]).1)) = true) (hs : samE D la lb[j] = false) {c : DataW Value} (hc : Frm c) (hinj : ∀ i (h : i < lb.length), u8s (lb[i]).1 = u8s (lb[j]).1 → i = j) :
    DInv D la lb DA (fun z => left z && !z.sameKey (.string (u8s (lb[j]).1))) (Dt.put (.string (u8s (lb[j]).1)) c) := by
  refine ⟨fun i hi he => ?_, fun x hx => ?_, fun x hx => ?_⟩
  · by_cases e : u8s (lb[i]).1 = u8s (lb[j]).1
    · obtain rfl := hinj i hi e
      rw [has_put_same hm (key_lit _), hs]
      rfl
    · rw [has_put_other (str_ne e)]
      refine h.vis i hi ?_
      rw [str_key, decide_eq_false e] at he
      simpa using he
  · have hne : x ≠ u8s (lb[j]).1 := fun e => by
      have := hx j hj e
      subst e
      rw [str_key] at this
      simp at this
    rw [has_put_other (str_ne hne)]
    have ho := h.old x fun i hi e => by
      have := hx i hi e
      simp only [Bool.and_eq_true] at this
      exact this.1
    exact ⟨ho.1, fun z => by rw [atKey_put_other (str_ne hne)]; exact ho.2 z⟩
  · by_cases e : x = u8s (lb[j]).1
    · subst e
      exact ⟨c, hc, fun z => atKey_put_same hm (key_lit _) c z⟩
    · rw [has_put_other (str_ne e)] at hx
      obtain ⟨d, h1, h2⟩ := h.frm x hx
      exact ⟨d, h1, fun z => by rw [atKey_put_other (str_ne e)]; exact h2 z⟩

theorem dinv_del (h : DInv D la lb DA left Dt) {j : Nat} (hj : j < lb.length) (hl : left (.string (u8s (lb[j]).1)) = true) (hs : samE D la lb[j] = true) (hinj : ∀ i (h : i < lb.length), u8s (lb[i]).1 = u8s (lb[j]).1 → i = j) :
    DInv D la lb DA (fun z => left z && !z.sameKey (.string (u8s (lb[j]).1))) (Dt.del (.string (u8s (lb[j]).1))) := by
  refine ⟨fun i hi he => ?_, fun x hx => ?_, fun x hx => ?_⟩
  · by_cases e : u8s (lb[i]).1 = u8s (lb[j]).1
    · obtain rfl := hinj i hi e
      rw [has_del_same, hs]
      rfl
    · rw [has_del_other (str_ne e)]
      refine h.vis i hi ?_
      rw [str_key, decide_eq_false e] at he
      simpa using he
  · have hne : x ≠ u8s (lb[j]).1 := fun e => by
      have := hx j hj e
      subst e
      rw [str_key] at this
      simp at this
    rw [has_del_other (str_ne hne)]
    have ho := h.old x fun i hi e => by
      have := hx i hi e
      simp only [Bool.and_eq_true] at this
      exact this.1
    exact ⟨ho.1, fun z => by rw [atKey_del_other (str_ne hne)]; exact ho.2 z⟩
  · by_cases e : x = u8s (lb[j]).1
    · subst e
      rw [has_del_same] at hx
      cases hx
    · rw [has_del_other (str_ne e)] at hx
      obtain ⟨d, h1, h2⟩ := h.frm x hx
      exact ⟨d, h1, fun z => by rw [atKey_del_other (str_ne e)]; exact h2 z⟩

/-- In the end the map has just what differs. -/
theorem dinv_end {pA : List Value} (h : DInv D la lb (DataW.map (entF (adrL la) pA la.length)) left Dt) (hl : ∀ k, left k = false) (hA : ∀ i, i < (adrL la).length → upB (adrL la) i = true) (hB : ∀ i, i < (adrL lb).length → upB (adrL lb) i = true)
    (bA : ∀ i (h : i < la.length), ∀ y ∈ (la[i]).1, Byt y) (bB : ∀ i (h : i < lb.length), ∀ y ∈ (lb[i]).1, Byt y) (x : List UInt8) : x ∈ (dfL D la lb).map u8s ↔ has Dt (.string x) = true := by
  rw [dfL_iff hA hB bA bB]
  by_cases hx : ∃ j, ∃ h : j < lb.length, x = u8s (lb[j]).1
  · obtain ⟨j, hj, rfl⟩ := hx
    rw [h.vis j hj (hl _)]
    constructor
    · rintro (⟨i, hi, e, hs⟩ | ⟨_, hn⟩)
      · have he : (lb[j]).1 = (lb[i]).1 := map_byt_inj (bB j hj) (bB i hi) e
        have hij : j = i := up_inj hB (by rw [adrL_len]; exact hj) (by rw [adrL_len]; exact hi) (by rw [adrL_at lb hj, adrL_at lb hi]; exact he)
        subst hij
        have : samE D la lb[j] = false := hs
        rw [this]; rfl
      · exact absurd rfl (hn j hj)
    · intro hh
      refine .inl ⟨j, hj, rfl, ?_⟩
      have : samE D la lb[j] = false := by simpa using hh
      exact this
  · have ho := (h.old x fun j hj e => absurd ⟨j, hj, e⟩ hx).1
    rw [ho, has_ent]
    constructor
    · rintro (⟨j, hj, e, _⟩ | ⟨⟨i, hi, e⟩, _⟩)
      · exact absurd ⟨j, hj, e⟩ hx
      · exact ⟨i, hi, by rw [adrL_at la hi]; exact e⟩
    · rintro ⟨i, hi, e⟩
      rw [adrL_at la hi] at e
      exact .inr ⟨⟨i, hi, e⟩, fun j hj e' => hx ⟨j, hj, e'⟩⟩
end
end Go.Proofs.YtngjhimieacjhaaGreatDoor
/-
  Differ of the program.
-/
namespace Go.Proofs.YtngjhimieacjhaaGreatDoor
open Go.RowKit Go.Maps Go.Shelf
set_option linter.unusedVariables false
set_option linter.unusedSimpArgs false

set_option maxHeartbeats 1600000 in
theorem sameParts_any (d N : Nat) (m m' : Option Nat) (a b : Vl d) (w : World) (hp : PSeg (fun q => q < N) w d (.iface 59 (.agg #[.map m])) a) (hq : PSeg (fun q => q < N) w d (.iface 59 (.agg #[.map m'])) b) (hN : N ≤ w.heap.size) (ga : goodB d a 1 = true ∧ partsV d a ≤ 40) (gb : goodB d b 1 = true ∧ partsV d b ≤ 40) :
    Calls Tryz.prog 39 #[.iface 59 (.agg #[.map m]), .iface 59 (.agg #[.map m'])] w fun e w' => e = .returned (.bool (decide (cmpV d a b = 0))) ∧ Below w.heap.size w w' := by
  have HC := hide' (cmpParts_any d N _ _ a b 1 1 w hp hq hN ga.1 gb.1 ga.2 gb.2)
  have HE : Hid (∀ cv : Int, (Value.bool (decide (cv = 0))) = .bool (cv == 0)) := fun cv => by
    by_cases h : cv = 0 <;> simp [h]
  generalize cmpV d a b = cv at *
  clear hp hq ga gb hN
  go_enter Tryz.func39, Tryz.ntmps39
  go_wp2_with fail
  refine HC.out.mono ?_
  rintro e w1 ⟨rfl, b1⟩
  have B1 := hide' b1
  clear b1 HC
  by_cases hc : cv = 0
  · subst hc
    go_wp2
    go_ret
    exact ⟨rfl, B1.out⟩
  · have hcb : (cv == 0) = false := by simp [hc]
    have hd : Hid (decide (cv = 0) = false) := decide_eq_false hc
    go_wp2
    go_ret
    exact ⟨by rw [hd.out]; rfl, B1.out⟩

set_option maxHeartbeats 800000 in
theorem differ1_any (m : Option Nat) (a : Option Addr) (n c : Nat) (t : Bool) (u : Int) (w : World) :
    Calls Tryz.prog 40 #[.agg #[.map m, .slice a n c, .bool t, .int .i64 u]] w fun e w' => e = .returned (.bool true) ∧ Below w.heap.size w w' := by
  have HA : Hid (Below w.heap.size w (w.alloc (.cells #[.map m, .slice a n c, .bool t, .int .i64 u] 62))) := (Below.refl _ _).alloc (Nat.le_refl _) _
  go_enter Tryz.func40, Tryz.ntmps40
  go_wp2
  go_ret
  exact ⟨rfl, HA.out⟩

set_option maxHeartbeats 3200000 in
set_option maxRecDepth 100000 in
theorem addrsD_any (K : List (List Int)) (wB mB n : Nat) (Dt : DataW Value) (w : World) (hE : w.cell? ⟨wB, 4, none⟩ = some (.map (some mB))) (hw : wB < w.heap.size) (hO : w.ownsMap Tryz.prog 9 tokR mB n Dt) (hn : n ≤ 1000) (ha : AscU (K.map u8s)) (hm : ∀ x, x ∈ K.map u8s ↔ Maps.has Dt (.string x) = true) (hf : ∀ x, has Dt (.string x) = true → ∃ d, Frm d ∧ ∀ z, Dt.atKey (.string x) z = d) (hK : K.length ≤ 32) (hb : ∀ k (h : k < K.length), (K[k]).length ≤ 60 ∧ ∀ x ∈ K[k], Byt x) :
    Calls Tryz.prog 27 #[.pointer (some ⟨wB, 0, none⟩), .func (.func 40) #[] #[]] w (KEnd K w) := by
  obtain ⟨iT, hiT, hy0, hy1, hy2⟩ := info_parts infoT
  have HSo : Hid (Calls Tryz.prog 49 #[.pointer (some ⟨wB, 0, none⟩)] w fun e w' => ∃ y, e = .returned y ∧ SR w' w.heap.size y K ∧ Below w.heap.size w w') := by
    have hz := hO.size_le
    refine (sorted_call wB mB n _ tokR w hE hO (by unfold maxLen; omega) (by omega)).mono ?_
    rintro e w' ⟨v, ss, rfl, hp, hrow, -, hbl⟩
    have hs := sorted_of_has hO (Maps.string_keyed Tryz.underlying9) Tryz.underlying9 ha hm hp
    have hlen : ss.length = K.length := by
      have := congrArg List.length hs
      simpa using this
    rw [hs, strC_u8, hlen] at hrow
    exact ⟨v, rfl, hrow, hbl⟩
  have HLk : Hid (∀ k (hk : k < K.length) wx, Below w.heap.size w wx → ∃ m a n c t u, (Instr.lookup 71 (.map (some mB)) (.string (strOf K[k])) false).run Tryz.prog wx = .ok (.agg #[.map m, .slice a n c, .bool t, .int .i64 u]) wx) := fun k hk wx hbx => by
    have hx : has Dt (.string (u8s K[k])) = true := (hm _).1 (List.mem_map.2 ⟨K[k], List.getElem_mem _, rfl⟩)
    obtain ⟨d, ⟨m, a, n', c, t, u, rfl⟩, hd⟩ := hf _ hx
    have hOx : wx.ownsMap Tryz.prog 9 tokR mB n Dt := hO.kept (below_grows hbx none) (by simp)
    obtain ⟨v, q, hrun, hv⟩ := hOx.lookup (Maps.string_keyed Tryz.underlying9) Tryz.underlying71 (zero_held wx) (zd := .held heldZ) (zp := []) rfl (keyS K[k] (by have := (hb k hk).1; unfold maxLen; omega))
    rw [hd] at hv
    simp only [tokR, Option.some.injEq, Prod.mk.injEq, DataW.held.injEq] at hv
    obtain ⟨rfl, _⟩ := hv
    exact ⟨m, a, n', c, t, u, hrun⟩
  have HC0 : Hid (∀ m a n c t u (wx : World), Calls Tryz.prog 40 #[.agg #[.map m, .slice a n c, .bool t, .int .i64 u]] wx fun e w' => e = .returned (.bool true) ∧ Below wx.heap.size wx w') := fun m a n c t u wx => differ1_any m a n c t u wx
  have HSh := hide' hb
  have HCe : Hid (∀ wx, Below w.heap.size w wx → wx.cell? ⟨wB, 4, none⟩ = some (.map (some mB))) := fun wx hb => (World.cell?_of_block (hb.block wB hw)).trans hE
  have HEnd : Hid (∀ u e B w', e = .returned u → KOwn w' u K B → (∀ b ∈ B, w.heap.size ≤ b ∧ b < w'.heap.size) → Below w.heap.size w w' → KEnd K w e w') := fun u e B w' h1 h2 h3 h4 => ⟨u, h1, B, h2, h3, h4⟩
  have hg : ∀ k (hk : k < K.length), K.getD k [] = K[k] := fun k hk => by rw [List.getD_eq_getElem?_getD, List.getElem?_eq_getElem hk]; rfl
  have HG := hide' hg
  show Calls _ _ _ _ fun e w' => KEnd K w e w'
  clear hE hw hO hn ha hm hf hb hg
  go_enter Tryz.func27, Tryz.ntmps27
  go_wp2_with fail
  refine HSo.out.mono ?_
  rintro e w1 ⟨y, rfl, hSR, b1⟩
  obtain ⟨ya, yc, ey⟩ := hSR.shape
  have hSR' := hSR
  rw [ey] at hSR'
  have HSr : Hid (∀ wx, Below w1.heap.size w1 wx → ∀ j (hj : j < K.length), ∃ g, ya = some ⟨g, 0, none⟩ ∧ wx.cell? ⟨g, j, none⟩ = some (.string (strOf K[j]))) := fun wx hb j hj => by
    obtain ⟨g, e1, e2, e3⟩ := hSR'.at (j := j) (hj)
    rw [HG.out j hj] at e3
    exact ⟨g, e1, (World.cell?_of_block (hb.block g e2)).trans e3⟩
  subst ey
  have HB1 := hide' b1
  have hz1 := b1.size
  clear hSR hSR' b1 HSo
  go_wp2_with fail
  go_loopw [5, 11] (fun x i wr => ∃ j : Nat, j ≤ K.length ∧ i = .int .i64 j ∧ ∃ cs Bi, RW 22 1 (ItK K) wr w1.heap.size x j cs Bi ∧ Below w1.heap.size w1 wr) (fun _ i _ => K.length - (intOf i).toNat)
  case atStart => exact ⟨0, Nat.zero_le _, rfl, _, _, RW.nil _ _ _ _ _, Below.refl _ _⟩
  case round =>
    obtain ⟨j, hj, rfl, cs, Bi, hR, hbel⟩ := hrel
    have hsz := hbel.size
    by_cases hjn : j < K.length
    · have hjn' : (j : Int) < (K.length : Int) := by omega
      obtain ⟨g, rfl, hcell⟩ := HSr.out wr hbel j hjn
      have hbw : Below w.heap.size w wr := Below.on HB1.out hbel
      have hce := HCe.out wr hbw
      obtain ⟨m0, a0, n0, c0, t0, u0, hlk⟩ := HLk.out j hjn wr hbw
      have HCj := hide' (HC0.out m0 a0 n0 c0 t0 u0 wr)
      obtain ⟨hls, hbs⟩ := HSh.out j hjn
      have hvK : ∃ q c, u5 = .slice q j c := by
        rcases hR.2.2.1.2 with ⟨rfl, h0⟩ | ⟨g, cap, cur, rfl, _⟩
        · exact ⟨none, 0, by rw [h0]⟩
        · exact ⟨_, _, rfl⟩
      obtain ⟨pK, cK, rfl⟩ := hvK
      have HN : Hid (∀ w2, Below wr.heap.size wr w2 → RW 22 1 (ItK K) w2 w1.heap.size (.slice pK j cK) j cs Bi ∧ Below w1.heap.size w1 w2) := fun w2 h => ⟨hR.agree (ItK.agree K) (fun b hb => h.block b (hR.2.2.2.2.2 b hb).2) h.size, Below.on hbel h⟩
      have hnl : j ≤ 32 := by omega
      have HCv : Hid (∀ w2 : World, ∃ cap wB, (convert 9 22 (.string (strOf K[j]))).run Tryz.prog w2 = .ok (.slice (some ⟨w2.heap.size, 0, none⟩) K[j].length cap) wB ∧ TOwn wB (.slice (some ⟨w2.heap.size, 0, none⟩) K[j].length cap) K[j] [w2.heap.size] ∧ Below w2.heap.size w2 wB ∧ wB.heap.size = w2.heap.size + 1) := fun w2 => conv_back K[j] hbs (by omega) w2
      have HE2 := hide' (HG.out j hjn)
      generalize K[j] = xs at *
      generalize hnk : xs.length = nk at *
      generalize hsx : strOf xs = sx at *
      clear hR hbel hbs hbw hsx hnk
      go_wp2_with fail
      refine HCj.out.mono ?_
      rintro e w2 ⟨rfl, b2⟩
      obtain ⟨hR2, hbel2⟩ := HN.out w2 b2
      obtain ⟨ck', wC, hconv, hTo, hBb, hzB⟩ := HCv.out w2
      have hrowK : wC.ownsRow w1.heap.size 22 1 (.slice pK j cK) j cs.flatten := hR2.2.2.1.kept (row := none) ⟨hBb.os, hBb.tape, hBb.output, hBb.size, fun k hk _ => hBb.block k hk⟩ (by cases hv : (Value.slice pK j cK).ownBlock <;> simp)
      have HR := hide' (And.intro hR2 hbel2)
      have hsz2 := hbel2.size
      have HTo := hide' hTo
      have HBb := hide' hBb
      have HzB := hide' hzB
      have HRK := hide' hrowK
      clear hR2 hbel2 hTo hBb hzB hrowK b2 HN HCv HCj hcell hce hlk
      go_wp2_with (at_builtin; refine wpList_append_lies _ rfl (.tmp 23) (.tmp 26) 27 (by rfl) w1.heap.size 22 iT (.slice none 0 0) 1 24 Tryz.underlying27 hiT hy0 hy1 hy2 rfl (by decide) (.slice pK j cK) j cs.flatten (by rfl) (HRK.out.alloc _) ⟨wC.heap.size, 0, none⟩ 1 1 [.slice (some ⟨w2.heap.size, 0, none⟩) nk ck'] (by rfl) (by rfl) (World.news_of_block (cs := #[.slice (some ⟨w2.heap.size, 0, none⟩) nk ck']) (t := 22) (fr := (0, 0)) (heap_alloc_new wC _)) (by simp [Value.oneCell']) (by omega) (by unfold maxLen; omega) (by omega) (by have := HzB.out; simp; omega) (wC.heap.size + 1) (by simp) ?_; intro g6 cp6 w6 hown6 hg6 hat6 hlt6; obtain ⟨cs', Bi', hR6, hB6⟩ := rwk_stepT HR.out.1 HR.out.2 HBb.out (by rw [HE2.out]; exact HTo.out) (by have := HzB.out; intro b hb; simp at hb; omega) (by simp) hown6 hg6 hat6; replace hR6 := hide' hR6; replace hB6 := hide' hB6; clear hown6 hg6 hat6 hlt6)
      go_wp2
      go_roundw
      case rel => exact ⟨j + 1, by omega, by go_num, _, _, hR6.out, hB6.out⟩
      case measure => simp [intOf]; omega
    · have hjn' : j = K.length := by omega
      subst hjn'
      have hkl' : ¬ (K.length : Int) < (K.length : Int) := by omega
      have HR := hide' (And.intro hR hbel)
      clear hR hbel
      go_wp2_with fail
      go_ret
      have hbd := HR.out.1.2.2.2.2.2
      exact HEnd.out _ _ _ _ rfl HR.out.1.kown (fun b hb => by have := hbd b hb; omega) (Below.on HB1.out HR.out.2)

end Go.Proofs.YtngjhimieacjhaaGreatDoor
