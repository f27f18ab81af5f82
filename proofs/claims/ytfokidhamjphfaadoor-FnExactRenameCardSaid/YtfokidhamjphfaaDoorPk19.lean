/-
  Texts that a law leans on, one behind the other; no statement is proved here.
-/
import Derived.Test.YtfokidhamjphfaaDoorPk13
/-
  markByteSS of the laws: a list of texts of the call's own, marked.
-/
namespace Go.Proofs.YtfokidhamjphfaaDoor
open Go.RowKit
set_option linter.unusedVariables false
set_option linter.unusedSimpArgs false

set_option maxHeartbeats 3200000 in
theorem markByteSS_any (v : Value) (ks : List (List Int)) (B : List Nat) (m : Nat) (w : World) (h : KOwn w v ks B) (hs : szK ks ≤ 2097152) (hm : m + (ks.map List.length).sum ≤ 1125899906842624) :
    Calls Tryd.prog 42 #[v, .int .i64 m] w fun e w' => e = .returned (.int .i64 ((m + (ks.map List.length).sum : Nat) : Int)) ∧ KOwn w' v (mkKs ks m) B ∧ Turned B w w' := by
  have hsz : szK ks = ks.length + (ks.map List.length).sum := rfl
  have hform : ∃ a c, v = .slice a ks.length c := by
    rcases h with ⟨rfl, rfl, _⟩ | ⟨g, cap, cur, Bs, rfl, _⟩
    · exact ⟨none, 0, rfl⟩
    · exact ⟨_, _, rfl⟩
  obtain ⟨a, c, rfl⟩ := hform
  have HP : Hid (∀ k (hk : k < ks.length), pre List.length ks (k + 1) = pre List.length ks k + ks[k].length) := fun k hk => pre_succ List.length ks k hk
  have HL : Hid (∀ k, pre List.length ks k ≤ (ks.map List.length).sum) := pre_le List.length ks
  have HA : Hid (pre List.length ks ks.length = (ks.map List.length).sum) := pre_all _ _
  have H0 := hide' h
  have hn : ks.length ≤ 2097152 := by omega
  have hsum : (ks.map List.length).sum ≤ 2097152 := by omega
  have hmm : m + (ks.map List.length).sum ≤ 1125899906842624 := by omega
  clear h hs hsz hm
  go_enter Tryd.func42, Tryd.ntmps42
  go_wp2
  go_loopw [1, 5] (fun m' i wr => ∃ k : Nat, k ≤ ks.length ∧ i = .int .i64 k ∧ m' = .int .i64 ((m + pre List.length ks k : Nat) : Int) ∧ Hid (KOwn wr (.slice a ks.length c) (mixK ks m k) B) ∧ Hid (Turned B w wr)) (fun _ i _ => ks.length - (intOf i).toNat)
  case atStart => exact ⟨0, Nat.zero_le _, rfl, by rw [pre_zero]; simp, by rw [mixK_zero]; exact H0, Turned.refl _ _⟩
  case round =>
    obtain ⟨k, hk, rfl, rfl, hK, hT⟩ := hrel
    have hpk := HL.out k
    by_cases hlt : k < ks.length
    · have hlt' : (k : Int) < (ks.length : Int) := by omega
      have hps := HP.out k hlt
      have hpk1 := HL.out (k + 1)
      have hml := length_mixK ks m k hk
      rcases hK.out with ⟨_, h0, _⟩ | ⟨g, cap, cur, Bs, hv, hh, h3, h4, h5, h6, h7, hB, hN⟩
      · rw [h0] at hml
        simp at hml
        omega
      · obtain ⟨u, hu, htu⟩ := h7 k (by omega)
        have e1 : (mixK ks m k).getD k [] = ks.getD k [] := mixK_at ks m k hlt
        have e2 : ks.getD k [] = ks[k] := by simp [List.getD_eq_getElem?_getD, hlt]
        rw [e1, e2] at htu
        obtain ⟨ua, uc, rfl, _⟩ := htu.1.shape
        have hva : a = some ⟨g, 0, none⟩ := by simp at hv; exact hv.1
        subst hva
        have hcell : wr.cell? ⟨g, k, none⟩ = some (.slice ua ks[k].length uc) := by rw [cell_of_row wr g k cur _ (0, 0) hh]; exact hu
        have HM : Hid (Calls Tryd.prog 20 #[.slice ua ks[k].length uc, .int .i64 ((m + pre List.length ks k : Nat) : Int)] wr fun e w' => e = .returned (.int .i64 ((m + pre List.length ks k + ks[k].length : Nat) : Int)) ∧ Hid (KOwn w' (.slice (some ⟨g, 0, none⟩) ks.length c) (mixK ks m (k + 1)) B) ∧ Hid (Turned B w w')) := by
          refine (markByteS_F ua uc ks[k] (m + pre List.length ks k) wr htu.1 (by omega) (by omega)).mono ?_
          rintro e w' ⟨rfl, hb, hg⟩
          have ht2 := htu.turned hg
          refine ⟨rfl, ?_, ?_⟩
          · show KOwn w' _ (mixK ks m (k + 1)) B
            rw [mixK_succ ks m k hlt, e2]
            exact KOwn.turn hv hh h3 h4 h5 h6 h7 hB hN (by omega) hu (htu.marked hb) ht2
          · refine hT.out.trans (ht2.mono fun b hb => ?_)
            rw [hB]
            exact List.mem_cons_of_mem _ (flatten_mem_getD (by omega) hb)
        generalize ks[k].length = nk at *
        have Hps := hide' hps
        clear hK hT hh h7 hN htu hu hB hv h6 h5 e1 e2 hps
        generalize pre List.length ks k = q at *
        go_wp2_with fail
        refine HM.out.mono ?_
        rintro e w' ⟨rfl, hK', hT'⟩
        clear hcell HM
        go_wp2
        go_roundw
        case rel => exact ⟨k + 1, by omega, by go_num, by rw [Hps.out]; go_num, hK', hT'⟩
        case measure => simp [intOf]; omega
    · have hkn : k = ks.length := by omega
      have hkn' : ¬ (k : Int) < (ks.length : Int) := by omega
      have HE : Hid (KOwn wr (.slice a ks.length c) (mkKs ks m) B) := by
        show KOwn wr (.slice a ks.length c) (mkKs ks m) B
        have hK2 := hK.out
        rw [hkn, mixK_all] at hK2
        exact hK2
      have HQ : Hid (pre List.length ks k = (ks.map List.length).sum) := by show pre List.length ks k = _; rw [hkn]; exact HA.out
      clear hkn hK
      go_wp2
      go_ret
      exact ⟨ret_i64 (by rw [HQ.out]), HE.out, hT.out⟩
end Go.Proofs.YtfokidhamjphfaaDoor
/-
  A list marked item by item. Plain mathematics, and small laws.
-/
namespace Go.Proofs.YtfokidhamjphfaaDoor
open Go.RowKit
set_option linter.unusedVariables false
set_option linter.unusedSimpArgs false

/-- A list after it was marked. -/
def mkLs {α : Type} (f : α → Nat → α) (c : α → Nat) : List α → Nat → List α
  | [], _ => []
  | x :: r, k => f x k :: mkLs f c r (k + c x)

theorem length_mkLs {α : Type} (f : α → Nat → α) (c : α → Nat) : ∀ (l : List α) (k : Nat), (mkLs f c l k).length = l.length
  | [], _ => rfl
  | x :: r, k => by simp [mkLs, length_mkLs f c r]
theorem mkLs_append {α : Type} (f : α → Nat → α) (c : α → Nat) : ∀ (l r : List α) (k : Nat), mkLs f c (l ++ r) k = mkLs f c l k ++ mkLs f c r (k + (l.map c).sum)
  | [], r, k => by simp [mkLs]
  | x :: l, r, k => by simp [mkLs, mkLs_append f c l r, Nat.add_assoc]

/-- The first n are marked. -/
def mixL {α : Type} (f : α → Nat → α) (c : α → Nat) (l : List α) (k n : Nat) : List α := mkLs f c (l.take n) k ++ l.drop n
theorem mixL_zero {α : Type} (f : α → Nat → α) (c : α → Nat) (l : List α) (k : Nat) : mixL f c l k 0 = l := by simp [mixL, mkLs]
theorem mixL_all {α : Type} (f : α → Nat → α) (c : α → Nat) (l : List α) (k : Nat) : mixL f c l k l.length = mkLs f c l k := by simp [mixL]
theorem length_mixL {α : Type} (f : α → Nat → α) (c : α → Nat) (l : List α) (k n : Nat) (h : n ≤ l.length) : (mixL f c l k n).length = l.length := by simp [mixL, length_mkLs]; omega
theorem mixL_at {α : Type} (f : α → Nat → α) (c : α → Nat) (l : List α) (k n : Nat) (h : n < l.length) : (mixL f c l k n)[n]'(by rw [length_mixL f c l k n (Nat.le_of_lt h)]; exact h) = l[n] := by
  unfold mixL
  have hl : (mkLs f c (l.take n) k).length = n := by rw [length_mkLs]; simp; omega
  rw [List.getElem_append_right (by omega)]
  simp [hl]
theorem mixL_succ {α : Type} (f : α → Nat → α) (c : α → Nat) (l : List α) (k n : Nat) (h : n < l.length) : mixL f c l k (n + 1) = (mixL f c l k n).set n (f l[n] (k + pre c l n)) := by
  unfold mixL pre
  rw [List.take_succ_eq_append_getElem h, mkLs_append, List.drop_eq_getElem_cons h]
  have hl : (mkLs f c (l.take n) k).length = n := by rw [length_mkLs]; simp; omega
  rw [List.set_append_right _ _ (by omega), hl, Nat.sub_self, List.set_cons_zero]
  simp only [mkLs, List.append_assoc, List.singleton_append]

theorem arg_eq {F : Nat} {v : Value} {x y : Int} {w : World} {Q : Ending → World → Prop} (e : x = y) (h : Calls Tryd.prog F #[v, .int .i64 x] w Q) : Calls Tryd.prog F #[v, .int .i64 y] w Q := e ▸ h
end Go.Proofs.YtfokidhamjphfaaDoor
