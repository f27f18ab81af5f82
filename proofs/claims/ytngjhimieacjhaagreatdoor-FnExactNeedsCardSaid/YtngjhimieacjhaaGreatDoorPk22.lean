/-
  Texts that a law leans on, one behind the other; no statement is proved here.
-/
import Derived.Test.YtngjhimieacjhaaGreatDoorPk14
import Derived.Test.YtngjhimieacjhaaGreatDoorPk21
import Derived.Test.YtngjhimieacjhaaGreatDoorPk19
import Derived.Test.YtngjhimieacjhaaGreatDoorPk12
import Derived.Test.YtngjhimieacjhaaGreatDoorPk15
import Derived.BigQuiet
/-
  Worlds of the program: states that were taken in; has, pendingOk.
-/
namespace Go.Proofs.YtngjhimieacjhaaGreatDoor
open Go.RowKit
set_option linter.unusedVariables false
set_option linter.unusedSimpArgs false

def heldZ : Value := .agg #[.map none, .slice none 0 0, .bool false, .int .i64 0]
theorem zero_held (w : World) : (zeroValue 62).run Tryz.prog w = .ok heldZ w := by kernel_rfl

theorem mapD_same {vK : List (List Int)} {ps ps' : List Value} : ∀ {k : Nat}, (∀ i, i < k → ps.getD i .nilIface = ps'.getD i .nilIface) → mapD vK ps k = mapD vK ps' k
  | 0, _ => rfl
  | k + 1, h => by
    show (mapD vK ps k).put _ _ = (mapD vK ps' k).put _ _
    rw [mapD_same (k := k) (fun i hi => h i (by omega)), h k (by omega)]

/-- What stands under an address. -/
theorem look_held {wx : World} {b : Nat} {ks : List (List Int)} {ps : List Value} {key : List Int} (hm : wx.ownsMap Tryz.prog 9 tokR b 64 (mapD ks ps ks.length)) (ha : ∀ i, i < ks.length → upB ks i = true) (hb : ∀ i, i < ks.length → ∀ x ∈ ks.getD i [], Byt x) (hy : ∀ y ∈ key, Byt y) (hl : key.length ≤ maxLen) :
    ∃ p, (Instr.lookup 71 (.map (some b)) (.string (strOf key)) true).run Tryz.prog wx = .ok (.tuple #[p, .bool (hasA ks key)]) wx ∧ ((findK ks key = -1 ∧ p = heldZ) ∨ ∃ k : Nat, k < ks.length ∧ findK ks key = k ∧ ks.getD k [] = key ∧ p = ps.getD k .nilIface) := by
  rw [mapD_listU ks ps ks.length ha] at hm
  obtain ⟨v, q, hrun, hv⟩ := hm.look_ok (Maps.string_keyed Tryz.underlying9) Tryz.underlying71 (zero_held wx) (zd := .held heldZ) (zp := []) rfl (keyS key hl)
  have hat : ∀ i (h : i < ks.length), ks.getD i [] = ks[i] := fun i h => by rw [List.getD_eq_getElem?_getD, List.getElem?_eq_getElem h]; rfl
  cases hfi : ks.findIdx? (fun x => decide (x = key)) with
  | some k =>
    obtain ⟨hk, he0, hmin⟩ := List.findIdx?_eq_some_iff_getElem.1 hfi
    have he : ks.getD k [] = key := by rw [hat k hk]; simpa using he0
    have hn : ∀ i, i < k → ks.getD i [] ≠ key := fun i hi e => by
      have h1 := hmin i hi
      rw [hat i (by omega)] at e
      simp [e] at h1
    obtain ⟨h1, h2⟩ := look_yes (ps := ps) hy hb hk hn he (.held heldZ)
    rw [h1] at hrun
    rw [h2] at hv
    have hf := findK_at hk hn he
    have hh : hasA ks key = true := by unfold hasA; rw [hf]; simp
    simp only [tokR, Option.some.injEq, Prod.mk.injEq, DataW.held.injEq] at hv
    refine ⟨v, by rw [hh]; exact hrun, .inr ⟨k, hk, hf, he, hv.1⟩⟩
  | none =>
    have hn : ∀ i, i < ks.length → ks.getD i [] ≠ key := fun i hi e => by
      have h1 := List.findIdx?_eq_none_iff.1 hfi ks[i] (List.getElem_mem _)
      rw [hat i hi] at e
      simp [e] at h1
    obtain ⟨h1, h2⟩ := look_no (ps := ps) hy hb hn (.held heldZ)
    rw [h1] at hrun
    rw [h2] at hv
    have hf := findK_no hn
    have hh : hasA ks key = false := by unfold hasA; rw [hf]; rfl
    simp only [tokR, Option.some.injEq, Prod.mk.injEq, DataW.held.injEq] at hv
    exact ⟨v, by rw [hh]; exact hrun, .inl ⟨hf, hv.1⟩⟩

/-- The box of a world. -/
def WBx (w : World) (wB mB : Nat) (s0 : Int) (s1 : Bool) (nm : List Int) (s3 : Int) : Prop := w.heap[wB]? = some (.cells #[.int .i64 s0, .bool s1, .string (strOf nm), .int .i64 s3, .map (some mB)] 73 (0, 0))

set_option maxHeartbeats 1600000 in
theorem has_any {w : World} {wB mB : Nat} {s0 : Int} {s1 : Bool} {nm : List Int} {s3 : Int} {st : ByteArray} {p0 p1 p2 p3 : Value} {bb : Bool} (hB : WBx w wB mB s0 s1 nm s3) (hsh : ∃ m a n c t u, p0 = .map m ∧ p1 = .slice a n c ∧ p2 = .bool t ∧ p3 = .int .i64 u) (hl : (Instr.lookup 71 (.map (some mB)) (.string st) true).run Tryz.prog w = .ok (.tuple #[.agg #[p0, p1, p2, p3], .bool bb]) w) :
    Calls Tryz.prog 38 #[.pointer (some ⟨wB, 0, none⟩), .string st] w fun e w' => e = .returned (.bool bb) ∧ Below w.heap.size w w' := by
  have hA : ∀ o : Obj, Below w.heap.size w (w.alloc o) := fun o => (Below.refl _ _).alloc (Nat.le_refl _) o
  have HA := hide' hA
  obtain ⟨m, a, n, c, t, u, rfl, rfl, rfl, rfl⟩ := hsh
  obtain ⟨f0, f1, f2, f3, f4⟩ := five_row hB
  clear hA hB
  go_enter Tryz.func38, Tryz.ntmps38
  go_wp2
  go_ret
  exact ⟨rfl, HA.out _⟩

theorem strOf_some {xs : List Int} (hx : ∀ x ∈ xs, Byt x) (h : ¬ xs.length = 0) : (strOf xs).toList.isEmpty = false := by
  have := size_strOf xs
  cases hq : (strOf xs).toList.isEmpty with
  | false => rfl
  | true =>
    rw [strOf_list] at hq
    cases xs with
    | nil => simp at h
    | cons a l => simp [u8s] at hq

set_option maxHeartbeats 6400000 in
set_option maxRecDepth 100000 in
theorem pendingOk_any {w : World} {wB mB : Nat} {s0 : Int} {s1 : Bool} {nm : List Int} {s3 : Int} (hb : Bool) (hB : WBx w wB mB s0 s1 nm s3) (hby : ∀ x ∈ nm, Byt x) (hln : nm.length ≤ 1048576) (hEr : Errs w)
    (hHs : ¬ nm.length = 0 → ∀ wx, Below w.heap.size w wx → Calls Tryz.prog 38 #[.pointer (some ⟨wB, 0, none⟩), .string (strOf nm)] wx fun e w' => e = .returned (.bool hb) ∧ Below wx.heap.size wx w') :
    Calls Tryz.prog 48 #[.pointer (some ⟨wB, 0, none⟩)] w fun e w' => e = .returned (.bool (pendB s1 nm s3 hb)) ∧ Below w.heap.size w w' := by
  have hwB := (Array.getElem?_eq_some_iff.1 hB).1
  have HPd : Hid (pendB s1 nm s3 hb = if nm.length = 0 then decide (s3 = 0) else s1 && (addrB nm && (decide (1 ≤ s3) && (decide (s3 ≤ 4) && (hb == !decide (s3 = 1)))))) := rfl
  generalize pendB s1 nm s3 hb = ans at *
  by_cases h0 : nm.length = 0
  · obtain rfl : nm = [] := List.length_eq_zero_iff.1 h0
    rw [if_pos h0] at HPd
    have hse : strOf [] = ByteArray.mk #[] := rfl
    obtain ⟨f0, f1, f2, f3, f4⟩ := five_row hB
    rw [hse] at f2
    clear hB hHs hEr hby hse h0 hln
    by_cases h3 : s3 = 0
    · have HF : Hid (ans = true) := by show ans = true; rw [HPd.out, decide_eq_true h3]
      subst h3
      clear HPd
      go_enter Tryz.func48, Tryz.ntmps48
      go_wp2
      go_ret
      exact ⟨ret_bool HF.out.symm, Below.refl _ _⟩
    · have HF : Hid (ans = false) := by show ans = false; rw [HPd.out, decide_eq_false h3]
      have h3' : (s3 == 0) = false := by simpa using h3
      clear HPd
      go_enter Tryz.func48, Tryz.ntmps48
      go_wp2
      go_ret
      exact ⟨ret_bool HF.out.symm, Below.refl _ _⟩
  rw [if_neg h0] at HPd
  have hse := strOf_some hby h0
  have HHs : Hid (∀ wx, Below w.drew.heap.size w.drew wx → Calls Tryz.prog 38 #[.pointer (some ⟨wB, 0, none⟩), .string (strOf nm)] wx fun e w' => e = .returned (.bool hb) ∧ Below wx.heap.size wx w') := fun wx hb' => hHs h0 wx (Below.on (Below.refl w.heap.size w).drew hb')
  have HAc : Hid (∀ wx, Calls Tryz.prog 67 #[.int .i64 s3] wx fun e w' => e = .returned (.bool (decide (1 ≤ s3) && decide (s3 ≤ 4))) ∧ wx = w') := fun wx => actOk_any s3 wx
  have HAd : Hid (∀ (ck : Nat) (wx : World), TOwn wx (.slice (some ⟨w.heap.size, 0, none⟩) nm.length ck) nm [w.heap.size] → Below w.drew.heap.size w.drew wx → Calls Tryz.prog 65 #[.slice (some ⟨w.heap.size, 0, none⟩) nm.length ck] wx fun e w' => e = .returned (.bool (addrB nm)) ∧ Below wx.heap.size wx w') := fun ck wx hT hb' => by
    obtain ⟨a', c', e1, hs, h1, h2, h3, _⟩ := hT.seg
    simp only [Value.slice.injEq, true_and] at e1
    obtain ⟨rfl, rfl⟩ := e1
    exact impl_AddrOk_any _ _ nm wx hs (by omega) h1 h2 h3 (hEr.grow (Below.on (Below.refl w.heap.size w).drew hb'))
  obtain ⟨ck, wC, hcv, hTo, hBC, hzC⟩ := conv_back nm hby hln w.drew
  have HSn : Hid (∀ wx, Below w.drew.heap.size w.drew wx → wx.cell? ⟨wB, 0, none⟩ = some (.int .i64 s0) ∧ wx.cell? ⟨wB, 1, none⟩ = some (.bool s1) ∧ wx.cell? ⟨wB, 2, none⟩ = some (.string (strOf nm)) ∧ wx.cell? ⟨wB, 3, none⟩ = some (.int .i64 s3) ∧ wx.cell? ⟨wB, 4, none⟩ = some (.map (some mB))) := fun wx hb' => five_row ((hb'.block wB hwB).trans hB)
  obtain ⟨f0, f1, f2, f3, f4⟩ := five_row hB
  have HW : Hid (Below w.heap.size w w.drew) := (Below.refl w.heap.size w).drew
  replace hcv : (convert 9 22 (.string (strOf nm))).run Tryz.prog w.drew = .ok (.slice (some ⟨w.heap.size, 0, none⟩) nm.length ck) wC := hcv
  replace hTo : TOwn wC (.slice (some ⟨w.heap.size, 0, none⟩) nm.length ck) nm [w.heap.size] := hTo
  clear hB hHs hEr hby hln h0 hzC hwB
  generalize addrB nm = ab at *
  cases s1 with
  | false =>
    have HF : Hid (ans = false) := by show ans = false; rw [HPd.out]; rfl
    clear HPd
    go_enter Tryz.func48, Tryz.ntmps48
    go_wp2_with fail
    refine wp_region_held_drew (S := fun w' => w'.cell? ⟨wB, 0, none⟩ = some (.int .i64 s0) ∧ w'.cell? ⟨wB, 1, none⟩ = some (.bool false) ∧ w'.cell? ⟨wB, 2, none⟩ = some (.string (strOf nm)) ∧ w'.cell? ⟨wB, 3, none⟩ = some (.int .i64 s3) ∧ w'.cell? ⟨wB, 4, none⟩ = some (.map (some mB))) (by kernel_rfl) (HSn.out _ (Below.refl _ _)) (fun hHeld => ?_)
    refine tkY 0 13 hHeld ?_; simp only [Act.put, List.setIfInBounds_toArray, List.set_cons_zero, List.set_cons_succ]
    refine tkY 1 14 hHeld ?_; simp only [Act.put, List.setIfInBounds_toArray, List.set_cons_zero, List.set_cons_succ]
    refine tkY 2 15 hHeld ?_; simp only [Act.put, List.setIfInBounds_toArray, List.set_cons_zero, List.set_cons_succ]
    refine tkY 3 16 hHeld ?_; simp only [Act.put, List.setIfInBounds_toArray, List.set_cons_zero, List.set_cons_succ]
    refine tkY 4 17 hHeld ?_; simp only [Act.put, List.setIfInBounds_toArray, List.set_cons_zero, List.set_cons_succ]
    refine tkN 5 18 hHeld ?_
    refine tkN 6 19 hHeld ?_
    refine tkN 7 20 hHeld ?_
    refine tkN 8 21 hHeld ?_
    refine tkN 9 22 hHeld ?_
    refine tkN 10 23 hHeld ?_; simp only [Act.put, List.setIfInBounds_toArray, List.set_cons_zero, List.set_cons_succ]
    refine tkY 11 24 hHeld ?_; simp only [Act.put, List.setIfInBounds_toArray, List.set_cons_zero, List.set_cons_succ]
    refine tkY 12 25 hHeld ?_; simp only [Act.put, List.setIfInBounds_toArray, List.set_cons_zero, List.set_cons_succ]
    refine tkN 13 26 hHeld ?_
    refine tkN 14 27 hHeld ?_
    refine tkN 15 28 hHeld ?_
    refine tkN 16 29 hHeld ?_
    refine tkN 17 30 hHeld ?_; simp only [Act.put, List.setIfInBounds_toArray, List.set_cons_zero, List.set_cons_succ]
    refine tkY 18 31 hHeld ?_; simp only [Act.put, List.setIfInBounds_toArray, List.set_cons_zero, List.set_cons_succ]
    refine tkY 19 32 hHeld ?_; simp only [Act.put, List.setIfInBounds_toArray, List.set_cons_zero, List.set_cons_succ]
    refine tkN 20 33 hHeld ?_
    refine tkN 21 34 hHeld ?_
    refine tkN 22 35 hHeld ?_
    refine tkN 23 36 hHeld ?_
    refine tkN 24 37 hHeld ?_
    refine tkN 25 38 hHeld ?_
    refine tkN 26 39 hHeld ?_
    refine tkN 27 40 hHeld ?_
    refine tkN 28 41 hHeld ?_
    refine tkN 29 42 hHeld ?_
    refine tkN 30 43 hHeld ?_
    refine tkN 31 44 hHeld ?_; simp only [Act.put, List.setIfInBounds_toArray, List.set_cons_zero, List.set_cons_succ]
    refine tkY 32 45 hHeld ?_; simp only [Act.put, List.setIfInBounds_toArray, List.set_cons_zero, List.set_cons_succ]
    refine tkY 33 2 hHeld ?_; simp only [Act.put, List.setIfInBounds_toArray, List.set_cons_zero, List.set_cons_succ]
    refine wpAnyH_done (by kernel_rfl) ?_ _
    have HBF := hide' (HW.out)
    go_wp2
    go_ret
    exact ⟨ret_bool (HF.out.symm), HBF.out⟩
  | true =>
  cases ab with
  | false =>
    have HF : Hid (ans = false) := by show ans = false; rw [HPd.out]; rfl
    clear HPd
    go_enter Tryz.func48, Tryz.ntmps48
    go_wp2_with fail
    refine wp_region_held_drew (S := fun w' => w'.cell? ⟨wB, 0, none⟩ = some (.int .i64 s0) ∧ w'.cell? ⟨wB, 1, none⟩ = some (.bool true) ∧ w'.cell? ⟨wB, 2, none⟩ = some (.string (strOf nm)) ∧ w'.cell? ⟨wB, 3, none⟩ = some (.int .i64 s3) ∧ w'.cell? ⟨wB, 4, none⟩ = some (.map (some mB))) (by kernel_rfl) (HSn.out _ (Below.refl _ _)) (fun hHeld => ?_)
    refine tkY 0 13 hHeld ?_; simp only [Act.put, List.setIfInBounds_toArray, List.set_cons_zero, List.set_cons_succ]
    refine tkY 1 14 hHeld ?_; simp only [Act.put, List.setIfInBounds_toArray, List.set_cons_zero, List.set_cons_succ]
    refine tkY 2 15 hHeld ?_; simp only [Act.put, List.setIfInBounds_toArray, List.set_cons_zero, List.set_cons_succ]
    refine tkY 3 16 hHeld ?_; simp only [Act.put, List.setIfInBounds_toArray, List.set_cons_zero, List.set_cons_succ]
    refine tkY 4 17 hHeld ?_; simp only [Act.put, List.setIfInBounds_toArray, List.set_cons_zero, List.set_cons_succ]
    refine tkY 5 18 hHeld ?_; simp only [Act.put, List.setIfInBounds_toArray, List.set_cons_zero, List.set_cons_succ]
    refine tkY 6 19 hHeld ?_; simp only [Act.put, List.setIfInBounds_toArray, List.set_cons_zero, List.set_cons_succ]
    refine tkY 7 20 hHeld ?_; simp only [Act.put, List.setIfInBounds_toArray, List.set_cons_zero, List.set_cons_succ]
    refine tkY 8 21 hHeld ?_; simp only [Act.put, List.setIfInBounds_toArray, List.set_cons_zero, List.set_cons_succ]
    refine wpAnyH_ready (rs := [9]) (by kernel_rfl) (by simp) ?_
    refine AllReadyH.cons rfl (fun K hK => ?_) AllReadyH.nil
    go_simp
    refine hK.out _ _ (HSn.out wC hBC) (fun hHeld => ?_)
    clear hK
    (try simp only [Act.put, List.setIfInBounds_toArray, List.set_cons_zero, List.set_cons_succ])
    refine wpAnyH_ready (rs := [10]) (by kernel_rfl) (by simp) ?_
    refine AllReadyH.cons rfl (fun K hK => ?_) AllReadyH.nil
    go_simp
    go_at_call 65
    refine (HAd.out ck wC hTo hBC).mono ?_
    rintro e w5 ⟨rfl, b5⟩
    have hS := HSn.out w5 (Below.on hBC b5)
    go_wp2_with fail
    refine hK.out _ _ hS (fun hHeld => ?_)
    clear hK
    (try simp only [Act.put, List.setIfInBounds_toArray, List.set_cons_zero, List.set_cons_succ])
    refine tkY 11 24 hHeld ?_; simp only [Act.put, List.setIfInBounds_toArray, List.set_cons_zero, List.set_cons_succ]
    refine tkY 12 25 hHeld ?_; simp only [Act.put, List.setIfInBounds_toArray, List.set_cons_zero, List.set_cons_succ]
    refine tkN 13 26 hHeld ?_
    refine tkN 14 27 hHeld ?_
    refine tkN 15 28 hHeld ?_
    refine tkN 16 29 hHeld ?_
    refine tkN 17 30 hHeld ?_; simp only [Act.put, List.setIfInBounds_toArray, List.set_cons_zero, List.set_cons_succ]
    refine tkY 18 31 hHeld ?_; simp only [Act.put, List.setIfInBounds_toArray, List.set_cons_zero, List.set_cons_succ]
    refine tkY 19 32 hHeld ?_; simp only [Act.put, List.setIfInBounds_toArray, List.set_cons_zero, List.set_cons_succ]
    refine tkN 20 33 hHeld ?_
    refine tkN 21 34 hHeld ?_
    refine tkN 22 35 hHeld ?_
    refine tkN 23 36 hHeld ?_
    refine tkN 24 37 hHeld ?_
    refine tkN 25 38 hHeld ?_
    refine tkN 26 39 hHeld ?_
    refine tkN 27 40 hHeld ?_
    refine tkN 28 41 hHeld ?_
    refine tkN 29 42 hHeld ?_
    refine tkN 30 43 hHeld ?_
    refine tkN 31 44 hHeld ?_; simp only [Act.put, List.setIfInBounds_toArray, List.set_cons_zero, List.set_cons_succ]
    refine tkY 32 45 hHeld ?_; simp only [Act.put, List.setIfInBounds_toArray, List.set_cons_zero, List.set_cons_succ]
    refine tkY 33 2 hHeld ?_; simp only [Act.put, List.setIfInBounds_toArray, List.set_cons_zero, List.set_cons_succ]
    refine wpAnyH_done (by kernel_rfl) ?_ _
    have HBF := hide' (Below.on HW.out (Below.on hBC b5))
    go_wp2
    go_ret
    exact ⟨ret_bool (HF.out.symm), HBF.out⟩
  | true =>
  cases hac : (decide (1 ≤ s3) && decide (s3 ≤ 4)) with
  | false =>
    have HF : Hid (ans = false) := by
      show ans = false
      rw [HPd.out]
      rw [Bool.and_eq_false_iff] at hac
      rcases hac with h | h <;> rw [h] <;> simp
    rw [hac] at HAc
    clear HPd hac
    go_enter Tryz.func48, Tryz.ntmps48
    go_wp2_with fail
    refine wp_region_held_drew (S := fun w' => w'.cell? ⟨wB, 0, none⟩ = some (.int .i64 s0) ∧ w'.cell? ⟨wB, 1, none⟩ = some (.bool true) ∧ w'.cell? ⟨wB, 2, none⟩ = some (.string (strOf nm)) ∧ w'.cell? ⟨wB, 3, none⟩ = some (.int .i64 s3) ∧ w'.cell? ⟨wB, 4, none⟩ = some (.map (some mB))) (by kernel_rfl) (HSn.out _ (Below.refl _ _)) (fun hHeld => ?_)
    refine tkY 0 13 hHeld ?_; simp only [Act.put, List.setIfInBounds_toArray, List.set_cons_zero, List.set_cons_succ]
    refine tkY 1 14 hHeld ?_; simp only [Act.put, List.setIfInBounds_toArray, List.set_cons_zero, List.set_cons_succ]
    refine tkY 2 15 hHeld ?_; simp only [Act.put, List.setIfInBounds_toArray, List.set_cons_zero, List.set_cons_succ]
    refine tkY 3 16 hHeld ?_; simp only [Act.put, List.setIfInBounds_toArray, List.set_cons_zero, List.set_cons_succ]
    refine tkY 4 17 hHeld ?_; simp only [Act.put, List.setIfInBounds_toArray, List.set_cons_zero, List.set_cons_succ]
    refine tkY 5 18 hHeld ?_; simp only [Act.put, List.setIfInBounds_toArray, List.set_cons_zero, List.set_cons_succ]
    refine tkY 6 19 hHeld ?_; simp only [Act.put, List.setIfInBounds_toArray, List.set_cons_zero, List.set_cons_succ]
    refine tkY 7 20 hHeld ?_; simp only [Act.put, List.setIfInBounds_toArray, List.set_cons_zero, List.set_cons_succ]
    refine tkY 8 21 hHeld ?_; simp only [Act.put, List.setIfInBounds_toArray, List.set_cons_zero, List.set_cons_succ]
    refine wpAnyH_ready (rs := [9]) (by kernel_rfl) (by simp) ?_
    refine AllReadyH.cons rfl (fun K hK => ?_) AllReadyH.nil
    go_simp
    refine hK.out _ _ (HSn.out wC hBC) (fun hHeld => ?_)
    clear hK
    (try simp only [Act.put, List.setIfInBounds_toArray, List.set_cons_zero, List.set_cons_succ])
    refine wpAnyH_ready (rs := [10]) (by kernel_rfl) (by simp) ?_
    refine AllReadyH.cons rfl (fun K hK => ?_) AllReadyH.nil
    go_simp
    go_at_call 65
    refine (HAd.out ck wC hTo hBC).mono ?_
    rintro e w5 ⟨rfl, b5⟩
    have hS := HSn.out w5 (Below.on hBC b5)
    go_wp2_with fail
    refine hK.out _ _ hS (fun hHeld => ?_)
    clear hK
    (try simp only [Act.put, List.setIfInBounds_toArray, List.set_cons_zero, List.set_cons_succ])
    refine tkY 11 24 hHeld ?_; simp only [Act.put, List.setIfInBounds_toArray, List.set_cons_zero, List.set_cons_succ]
    refine tkY 12 25 hHeld ?_; simp only [Act.put, List.setIfInBounds_toArray, List.set_cons_zero, List.set_cons_succ]
    refine tkY 13 26 hHeld ?_; simp only [Act.put, List.setIfInBounds_toArray, List.set_cons_zero, List.set_cons_succ]
    refine tkY 14 27 hHeld ?_; simp only [Act.put, List.setIfInBounds_toArray, List.set_cons_zero, List.set_cons_succ]
    refine tkY 15 28 hHeld ?_; simp only [Act.put, List.setIfInBounds_toArray, List.set_cons_zero, List.set_cons_succ]
    refine tkY 16 29 hHeld ?_; simp only [Act.put, List.setIfInBounds_toArray, List.set_cons_zero, List.set_cons_succ]
    refine wpAnyH_ready (rs := [17]) (by kernel_rfl) (by simp) ?_
    refine AllReadyH.cons rfl (fun K hK => ?_) AllReadyH.nil
    go_simp
    go_at_call 67
    refine (HAc.out _).mono ?_
    rintro e w6 ⟨rfl, e6⟩
    obtain rfl := e6
    have hS := hHeld
    go_wp2_with fail
    refine hK.out _ _ hS (fun hHeld => ?_)
    clear hK
    (try simp only [Act.put, List.setIfInBounds_toArray, List.set_cons_zero, List.set_cons_succ])
    refine tkY 18 31 hHeld ?_; simp only [Act.put, List.setIfInBounds_toArray, List.set_cons_zero, List.set_cons_succ]
    refine tkY 19 32 hHeld ?_; simp only [Act.put, List.setIfInBounds_toArray, List.set_cons_zero, List.set_cons_succ]
    refine tkN 20 33 hHeld ?_
    refine tkN 21 34 hHeld ?_
    refine tkN 22 35 hHeld ?_
    refine tkN 23 36 hHeld ?_
    refine tkN 24 37 hHeld ?_
    refine tkN 25 38 hHeld ?_
    refine tkN 26 39 hHeld ?_
    refine tkN 27 40 hHeld ?_
    refine tkN 28 41 hHeld ?_
    refine tkN 29 42 hHeld ?_
    refine tkN 30 43 hHeld ?_
    refine tkN 31 44 hHeld ?_; simp only [Act.put, List.setIfInBounds_toArray, List.set_cons_zero, List.set_cons_succ]
    refine tkY 32 45 hHeld ?_; simp only [Act.put, List.setIfInBounds_toArray, List.set_cons_zero, List.set_cons_succ]
    refine tkY 33 2 hHeld ?_; simp only [Act.put, List.setIfInBounds_toArray, List.set_cons_zero, List.set_cons_succ]
    refine wpAnyH_done (by kernel_rfl) ?_ _
    have HBF := hide' (Below.on HW.out (Below.on hBC b5))
    go_wp2
    go_ret
    exact ⟨ret_bool (HF.out.symm), HBF.out⟩
  | true =>
  rw [hac] at HAc
  have HF0 : Hid (ans = (hb == !decide (s3 = 1))) := by
    show ans = _
    rw [HPd.out]
    rw [Bool.and_eq_true] at hac
    rw [hac.1, hac.2]
    rfl
  clear HPd hac
  by_cases h1 : s3 = 1
  · have hq : (s3 != 1) = false := by simpa using h1
    rw [decide_eq_true h1] at HF0
    subst h1
    cases hb with
    | true =>
      have HF : Hid (ans = false) := HF0.out
      go_enter Tryz.func48, Tryz.ntmps48
      go_wp2_with fail
      refine wp_region_held_drew (S := fun w' => w'.cell? ⟨wB, 0, none⟩ = some (.int .i64 s0) ∧ w'.cell? ⟨wB, 1, none⟩ = some (.bool true) ∧ w'.cell? ⟨wB, 2, none⟩ = some (.string (strOf nm)) ∧ w'.cell? ⟨wB, 3, none⟩ = some (.int .i64 1) ∧ w'.cell? ⟨wB, 4, none⟩ = some (.map (some mB))) (by kernel_rfl) (HSn.out _ (Below.refl _ _)) (fun hHeld => ?_)
      refine tkY 0 13 hHeld ?_; simp only [Act.put, List.setIfInBounds_toArray, List.set_cons_zero, List.set_cons_succ]
      refine tkY 1 14 hHeld ?_; simp only [Act.put, List.setIfInBounds_toArray, List.set_cons_zero, List.set_cons_succ]
      refine tkY 2 15 hHeld ?_; simp only [Act.put, List.setIfInBounds_toArray, List.set_cons_zero, List.set_cons_succ]
      refine tkY 3 16 hHeld ?_; simp only [Act.put, List.setIfInBounds_toArray, List.set_cons_zero, List.set_cons_succ]
      refine tkY 4 17 hHeld ?_; simp only [Act.put, List.setIfInBounds_toArray, List.set_cons_zero, List.set_cons_succ]
      refine tkY 5 18 hHeld ?_; simp only [Act.put, List.setIfInBounds_toArray, List.set_cons_zero, List.set_cons_succ]
      refine tkY 6 19 hHeld ?_; simp only [Act.put, List.setIfInBounds_toArray, List.set_cons_zero, List.set_cons_succ]
      refine tkY 7 20 hHeld ?_; simp only [Act.put, List.setIfInBounds_toArray, List.set_cons_zero, List.set_cons_succ]
      refine tkY 8 21 hHeld ?_; simp only [Act.put, List.setIfInBounds_toArray, List.set_cons_zero, List.set_cons_succ]
      refine wpAnyH_ready (rs := [9]) (by kernel_rfl) (by simp) ?_
      refine AllReadyH.cons rfl (fun K hK => ?_) AllReadyH.nil
      go_simp
      refine hK.out _ _ (HSn.out wC hBC) (fun hHeld => ?_)
      clear hK
      (try simp only [Act.put, List.setIfInBounds_toArray, List.set_cons_zero, List.set_cons_succ])
      refine wpAnyH_ready (rs := [10]) (by kernel_rfl) (by simp) ?_
      refine AllReadyH.cons rfl (fun K hK => ?_) AllReadyH.nil
      go_simp
      go_at_call 65
      refine (HAd.out ck wC hTo hBC).mono ?_
      rintro e w5 ⟨rfl, b5⟩
      have hS := HSn.out w5 (Below.on hBC b5)
      go_wp2_with fail
      refine hK.out _ _ hS (fun hHeld => ?_)
      clear hK
      (try simp only [Act.put, List.setIfInBounds_toArray, List.set_cons_zero, List.set_cons_succ])
      refine tkY 11 24 hHeld ?_; simp only [Act.put, List.setIfInBounds_toArray, List.set_cons_zero, List.set_cons_succ]
      refine tkY 12 25 hHeld ?_; simp only [Act.put, List.setIfInBounds_toArray, List.set_cons_zero, List.set_cons_succ]
      refine tkY 13 26 hHeld ?_; simp only [Act.put, List.setIfInBounds_toArray, List.set_cons_zero, List.set_cons_succ]
      refine tkY 14 27 hHeld ?_; simp only [Act.put, List.setIfInBounds_toArray, List.set_cons_zero, List.set_cons_succ]
      refine tkY 15 28 hHeld ?_; simp only [Act.put, List.setIfInBounds_toArray, List.set_cons_zero, List.set_cons_succ]
      refine tkY 16 29 hHeld ?_; simp only [Act.put, List.setIfInBounds_toArray, List.set_cons_zero, List.set_cons_succ]
      refine wpAnyH_ready (rs := [17]) (by kernel_rfl) (by simp) ?_
      refine AllReadyH.cons rfl (fun K hK => ?_) AllReadyH.nil
      go_simp
      go_at_call 67
      refine (HAc.out _).mono ?_
      rintro e w6 ⟨rfl, e6⟩
      obtain rfl := e6
      have hS := hHeld
      go_wp2_with fail
      refine hK.out _ _ hS (fun hHeld => ?_)
      clear hK
      (try simp only [Act.put, List.setIfInBounds_toArray, List.set_cons_zero, List.set_cons_succ])
      refine tkY 18 31 hHeld ?_; simp only [Act.put, List.setIfInBounds_toArray, List.set_cons_zero, List.set_cons_succ]
      refine tkY 19 32 hHeld ?_; simp only [Act.put, List.setIfInBounds_toArray, List.set_cons_zero, List.set_cons_succ]
      refine tkY 20 33 hHeld ?_; simp only [Act.put, List.setIfInBounds_toArray, List.set_cons_zero, List.set_cons_succ]
      refine tkY 21 34 hHeld ?_; simp only [Act.put, List.setIfInBounds_toArray, List.set_cons_zero, List.set_cons_succ]
      refine tkY 22 35 hHeld ?_; simp only [Act.put, List.setIfInBounds_toArray, List.set_cons_zero, List.set_cons_succ]
      refine tkY 23 36 hHeld ?_; simp only [Act.put, List.setIfInBounds_toArray, List.set_cons_zero, List.set_cons_succ]
      refine tkY 24 37 hHeld ?_; simp only [Act.put, List.setIfInBounds_toArray, List.set_cons_zero, List.set_cons_succ]
      refine tkY 26 39 hHeld ?_; simp only [Act.put, List.setIfInBounds_toArray, List.set_cons_zero, List.set_cons_succ]
      refine tkY 27 40 hHeld ?_; simp only [Act.put, List.setIfInBounds_toArray, List.set_cons_zero, List.set_cons_succ]
      refine tkY 28 41 hHeld ?_; simp only [Act.put, List.setIfInBounds_toArray, List.set_cons_zero, List.set_cons_succ]
      refine tkY 29 42 hHeld ?_; simp only [Act.put, List.setIfInBounds_toArray, List.set_cons_zero, List.set_cons_succ]
      refine tkY 30 43 hHeld ?_; simp only [Act.put, List.setIfInBounds_toArray, List.set_cons_zero, List.set_cons_succ]
      refine wpAnyH_ready (rs := [25]) (by kernel_rfl) (by simp) ?_
      refine AllReadyH.cons rfl (fun K hK => ?_) AllReadyH.nil
      go_simp
      go_at_call 38
      refine (HHs.out _ (Below.on hBC b5)).mono ?_
      rintro e w7 ⟨rfl, b7⟩
      have hS := HSn.out w7 (Below.on (Below.on hBC b5) b7)
      go_wp2_with fail
      refine hK.out _ _ hS (fun hHeld => ?_)
      clear hK
      (try simp only [Act.put, List.setIfInBounds_toArray, List.set_cons_zero, List.set_cons_succ])
      refine tkY 31 44 hHeld ?_; simp only [Act.put, List.setIfInBounds_toArray, List.set_cons_zero, List.set_cons_succ]
      refine tkY 32 45 hHeld ?_; simp only [Act.put, List.setIfInBounds_toArray, List.set_cons_zero, List.set_cons_succ]
      refine tkY 33 2 hHeld ?_; simp only [Act.put, List.setIfInBounds_toArray, List.set_cons_zero, List.set_cons_succ]
      refine wpAnyH_done (by kernel_rfl) ?_ _
      have HBF := hide' (Below.on HW.out (Below.on (Below.on hBC b5) b7))
      go_wp2
      go_ret
      exact ⟨ret_bool (HF.out.symm), HBF.out⟩
    | false =>
      have HF : Hid (ans = true) := HF0.out
      go_enter Tryz.func48, Tryz.ntmps48
      go_wp2_with fail
      refine wp_region_held_drew (S := fun w' => w'.cell? ⟨wB, 0, none⟩ = some (.int .i64 s0) ∧ w'.cell? ⟨wB, 1, none⟩ = some (.bool true) ∧ w'.cell? ⟨wB, 2, none⟩ = some (.string (strOf nm)) ∧ w'.cell? ⟨wB, 3, none⟩ = some (.int .i64 1) ∧ w'.cell? ⟨wB, 4, none⟩ = some (.map (some mB))) (by kernel_rfl) (HSn.out _ (Below.refl _ _)) (fun hHeld => ?_)
      refine tkY 0 13 hHeld ?_; simp only [Act.put, List.setIfInBounds_toArray, List.set_cons_zero, List.set_cons_succ]
      refine tkY 1 14 hHeld ?_; simp only [Act.put, List.setIfInBounds_toArray, List.set_cons_zero, List.set_cons_succ]
      refine tkY 2 15 hHeld ?_; simp only [Act.put, List.setIfInBounds_toArray, List.set_cons_zero, List.set_cons_succ]
      refine tkY 3 16 hHeld ?_; simp only [Act.put, List.setIfInBounds_toArray, List.set_cons_zero, List.set_cons_succ]
      refine tkY 4 17 hHeld ?_; simp only [Act.put, List.setIfInBounds_toArray, List.set_cons_zero, List.set_cons_succ]
      refine tkY 5 18 hHeld ?_; simp only [Act.put, List.setIfInBounds_toArray, List.set_cons_zero, List.set_cons_succ]
      refine tkY 6 19 hHeld ?_; simp only [Act.put, List.setIfInBounds_toArray, List.set_cons_zero, List.set_cons_succ]
      refine tkY 7 20 hHeld ?_; simp only [Act.put, List.setIfInBounds_toArray, List.set_cons_zero, List.set_cons_succ]
      refine tkY 8 21 hHeld ?_; simp only [Act.put, List.setIfInBounds_toArray, List.set_cons_zero, List.set_cons_succ]
      refine wpAnyH_ready (rs := [9]) (by kernel_rfl) (by simp) ?_
      refine AllReadyH.cons rfl (fun K hK => ?_) AllReadyH.nil
      go_simp
      refine hK.out _ _ (HSn.out wC hBC) (fun hHeld => ?_)
      clear hK
      (try simp only [Act.put, List.setIfInBounds_toArray, List.set_cons_zero, List.set_cons_succ])
      refine wpAnyH_ready (rs := [10]) (by kernel_rfl) (by simp) ?_
      refine AllReadyH.cons rfl (fun K hK => ?_) AllReadyH.nil
      go_simp
      go_at_call 65
      refine (HAd.out ck wC hTo hBC).mono ?_
      rintro e w5 ⟨rfl, b5⟩
      have hS := HSn.out w5 (Below.on hBC b5)
      go_wp2_with fail
      refine hK.out _ _ hS (fun hHeld => ?_)
      clear hK
      (try simp only [Act.put, List.setIfInBounds_toArray, List.set_cons_zero, List.set_cons_succ])
      refine tkY 11 24 hHeld ?_; simp only [Act.put, List.setIfInBounds_toArray, List.set_cons_zero, List.set_cons_succ]
      refine tkY 12 25 hHeld ?_; simp only [Act.put, List.setIfInBounds_toArray, List.set_cons_zero, List.set_cons_succ]
      refine tkY 13 26 hHeld ?_; simp only [Act.put, List.setIfInBounds_toArray, List.set_cons_zero, List.set_cons_succ]
      refine tkY 14 27 hHeld ?_; simp only [Act.put, List.setIfInBounds_toArray, List.set_cons_zero, List.set_cons_succ]
      refine tkY 15 28 hHeld ?_; simp only [Act.put, List.setIfInBounds_toArray, List.set_cons_zero, List.set_cons_succ]
      refine tkY 16 29 hHeld ?_; simp only [Act.put, List.setIfInBounds_toArray, List.set_cons_zero, List.set_cons_succ]
      refine wpAnyH_ready (rs := [17]) (by kernel_rfl) (by simp) ?_
      refine AllReadyH.cons rfl (fun K hK => ?_) AllReadyH.nil
      go_simp
      go_at_call 67
      refine (HAc.out _).mono ?_
      rintro e w6 ⟨rfl, e6⟩
      obtain rfl := e6
      have hS := hHeld
      go_wp2_with fail
      refine hK.out _ _ hS (fun hHeld => ?_)
      clear hK
      (try simp only [Act.put, List.setIfInBounds_toArray, List.set_cons_zero, List.set_cons_succ])
      refine tkY 18 31 hHeld ?_; simp only [Act.put, List.setIfInBounds_toArray, List.set_cons_zero, List.set_cons_succ]
      refine tkY 19 32 hHeld ?_; simp only [Act.put, List.setIfInBounds_toArray, List.set_cons_zero, List.set_cons_succ]
      refine tkY 20 33 hHeld ?_; simp only [Act.put, List.setIfInBounds_toArray, List.set_cons_zero, List.set_cons_succ]
      refine tkY 21 34 hHeld ?_; simp only [Act.put, List.setIfInBounds_toArray, List.set_cons_zero, List.set_cons_succ]
      refine tkY 22 35 hHeld ?_; simp only [Act.put, List.setIfInBounds_toArray, List.set_cons_zero, List.set_cons_succ]
      refine tkY 23 36 hHeld ?_; simp only [Act.put, List.setIfInBounds_toArray, List.set_cons_zero, List.set_cons_succ]
      refine tkY 24 37 hHeld ?_; simp only [Act.put, List.setIfInBounds_toArray, List.set_cons_zero, List.set_cons_succ]
      refine tkY 26 39 hHeld ?_; simp only [Act.put, List.setIfInBounds_toArray, List.set_cons_zero, List.set_cons_succ]
      refine tkY 27 40 hHeld ?_; simp only [Act.put, List.setIfInBounds_toArray, List.set_cons_zero, List.set_cons_succ]
      refine tkY 28 41 hHeld ?_; simp only [Act.put, List.setIfInBounds_toArray, List.set_cons_zero, List.set_cons_succ]
      refine tkY 29 42 hHeld ?_; simp only [Act.put, List.setIfInBounds_toArray, List.set_cons_zero, List.set_cons_succ]
      refine tkY 30 43 hHeld ?_; simp only [Act.put, List.setIfInBounds_toArray, List.set_cons_zero, List.set_cons_succ]
      refine wpAnyH_ready (rs := [25]) (by kernel_rfl) (by simp) ?_
      refine AllReadyH.cons rfl (fun K hK => ?_) AllReadyH.nil
      go_simp
      go_at_call 38
      refine (HHs.out _ (Below.on hBC b5)).mono ?_
      rintro e w7 ⟨rfl, b7⟩
      have hS := HSn.out w7 (Below.on (Below.on hBC b5) b7)
      go_wp2_with fail
      refine hK.out _ _ hS (fun hHeld => ?_)
      clear hK
      (try simp only [Act.put, List.setIfInBounds_toArray, List.set_cons_zero, List.set_cons_succ])
      refine tkY 31 44 hHeld ?_; simp only [Act.put, List.setIfInBounds_toArray, List.set_cons_zero, List.set_cons_succ]
      refine tkY 32 45 hHeld ?_; simp only [Act.put, List.setIfInBounds_toArray, List.set_cons_zero, List.set_cons_succ]
      refine tkY 33 2 hHeld ?_; simp only [Act.put, List.setIfInBounds_toArray, List.set_cons_zero, List.set_cons_succ]
      refine wpAnyH_done (by kernel_rfl) ?_ _
      have HBF := hide' (Below.on HW.out (Below.on (Below.on hBC b5) b7))
      go_wp2
      go_ret
      exact ⟨ret_bool (HF.out.symm), HBF.out⟩
  · have hq : (s3 != 1) = true := by simpa using h1
    rw [decide_eq_false h1] at HF0
    cases hb with
    | true =>
      have HF : Hid (ans = true) := HF0.out
      go_enter Tryz.func48, Tryz.ntmps48
      go_wp2_with fail
      refine wp_region_held_drew (S := fun w' => w'.cell? ⟨wB, 0, none⟩ = some (.int .i64 s0) ∧ w'.cell? ⟨wB, 1, none⟩ = some (.bool true) ∧ w'.cell? ⟨wB, 2, none⟩ = some (.string (strOf nm)) ∧ w'.cell? ⟨wB, 3, none⟩ = some (.int .i64 s3) ∧ w'.cell? ⟨wB, 4, none⟩ = some (.map (some mB))) (by kernel_rfl) (HSn.out _ (Below.refl _ _)) (fun hHeld => ?_)
      refine tkY 0 13 hHeld ?_; simp only [Act.put, List.setIfInBounds_toArray, List.set_cons_zero, List.set_cons_succ]
      refine tkY 1 14 hHeld ?_; simp only [Act.put, List.setIfInBounds_toArray, List.set_cons_zero, List.set_cons_succ]
      refine tkY 2 15 hHeld ?_; simp only [Act.put, List.setIfInBounds_toArray, List.set_cons_zero, List.set_cons_succ]
      refine tkY 3 16 hHeld ?_; simp only [Act.put, List.setIfInBounds_toArray, List.set_cons_zero, List.set_cons_succ]
      refine tkY 4 17 hHeld ?_; simp only [Act.put, List.setIfInBounds_toArray, List.set_cons_zero, List.set_cons_succ]
      refine tkY 5 18 hHeld ?_; simp only [Act.put, List.setIfInBounds_toArray, List.set_cons_zero, List.set_cons_succ]
      refine tkY 6 19 hHeld ?_; simp only [Act.put, List.setIfInBounds_toArray, List.set_cons_zero, List.set_cons_succ]
      refine tkY 7 20 hHeld ?_; simp only [Act.put, List.setIfInBounds_toArray, List.set_cons_zero, List.set_cons_succ]
      refine tkY 8 21 hHeld ?_; simp only [Act.put, List.setIfInBounds_toArray, List.set_cons_zero, List.set_cons_succ]
      refine wpAnyH_ready (rs := [9]) (by kernel_rfl) (by simp) ?_
      refine AllReadyH.cons rfl (fun K hK => ?_) AllReadyH.nil
      go_simp
      refine hK.out _ _ (HSn.out wC hBC) (fun hHeld => ?_)
      clear hK
      (try simp only [Act.put, List.setIfInBounds_toArray, List.set_cons_zero, List.set_cons_succ])
      refine wpAnyH_ready (rs := [10]) (by kernel_rfl) (by simp) ?_
      refine AllReadyH.cons rfl (fun K hK => ?_) AllReadyH.nil
      go_simp
      go_at_call 65
      refine (HAd.out ck wC hTo hBC).mono ?_
      rintro e w5 ⟨rfl, b5⟩
      have hS := HSn.out w5 (Below.on hBC b5)
      go_wp2_with fail
      refine hK.out _ _ hS (fun hHeld => ?_)
      clear hK
      (try simp only [Act.put, List.setIfInBounds_toArray, List.set_cons_zero, List.set_cons_succ])
      refine tkY 11 24 hHeld ?_; simp only [Act.put, List.setIfInBounds_toArray, List.set_cons_zero, List.set_cons_succ]
      refine tkY 12 25 hHeld ?_; simp only [Act.put, List.setIfInBounds_toArray, List.set_cons_zero, List.set_cons_succ]
      refine tkY 13 26 hHeld ?_; simp only [Act.put, List.setIfInBounds_toArray, List.set_cons_zero, List.set_cons_succ]
      refine tkY 14 27 hHeld ?_; simp only [Act.put, List.setIfInBounds_toArray, List.set_cons_zero, List.set_cons_succ]
      refine tkY 15 28 hHeld ?_; simp only [Act.put, List.setIfInBounds_toArray, List.set_cons_zero, List.set_cons_succ]
      refine tkY 16 29 hHeld ?_; simp only [Act.put, List.setIfInBounds_toArray, List.set_cons_zero, List.set_cons_succ]
      refine wpAnyH_ready (rs := [17]) (by kernel_rfl) (by simp) ?_
      refine AllReadyH.cons rfl (fun K hK => ?_) AllReadyH.nil
      go_simp
      go_at_call 67
      refine (HAc.out _).mono ?_
      rintro e w6 ⟨rfl, e6⟩
      obtain rfl := e6
      have hS := hHeld
      go_wp2_with fail
      refine hK.out _ _ hS (fun hHeld => ?_)
      clear hK
      (try simp only [Act.put, List.setIfInBounds_toArray, List.set_cons_zero, List.set_cons_succ])
      refine tkY 18 31 hHeld ?_; simp only [Act.put, List.setIfInBounds_toArray, List.set_cons_zero, List.set_cons_succ]
      refine tkY 19 32 hHeld ?_; simp only [Act.put, List.setIfInBounds_toArray, List.set_cons_zero, List.set_cons_succ]
      refine tkY 20 33 hHeld ?_; simp only [Act.put, List.setIfInBounds_toArray, List.set_cons_zero, List.set_cons_succ]
      refine tkY 21 34 hHeld ?_; simp only [Act.put, List.setIfInBounds_toArray, List.set_cons_zero, List.set_cons_succ]
      refine tkY 22 35 hHeld ?_; simp only [Act.put, List.setIfInBounds_toArray, List.set_cons_zero, List.set_cons_succ]
      refine tkY 23 36 hHeld ?_; simp only [Act.put, List.setIfInBounds_toArray, List.set_cons_zero, List.set_cons_succ]
      refine tkY 24 37 hHeld ?_; simp only [Act.put, List.setIfInBounds_toArray, List.set_cons_zero, List.set_cons_succ]
      refine tkY 26 39 hHeld ?_; simp only [Act.put, List.setIfInBounds_toArray, List.set_cons_zero, List.set_cons_succ]
      refine tkY 27 40 hHeld ?_; simp only [Act.put, List.setIfInBounds_toArray, List.set_cons_zero, List.set_cons_succ]
      refine tkY 28 41 hHeld ?_; simp only [Act.put, List.setIfInBounds_toArray, List.set_cons_zero, List.set_cons_succ]
      refine tkY 29 42 hHeld ?_; simp only [Act.put, List.setIfInBounds_toArray, List.set_cons_zero, List.set_cons_succ]
      refine tkY 30 43 hHeld ?_; simp only [Act.put, List.setIfInBounds_toArray, List.set_cons_zero, List.set_cons_succ]
      refine wpAnyH_ready (rs := [25]) (by kernel_rfl) (by simp) ?_
      refine AllReadyH.cons rfl (fun K hK => ?_) AllReadyH.nil
      go_simp
      go_at_call 38
      refine (HHs.out _ (Below.on hBC b5)).mono ?_
      rintro e w7 ⟨rfl, b7⟩
      have hS := HSn.out w7 (Below.on (Below.on hBC b5) b7)
      go_wp2_with fail
      refine hK.out _ _ hS (fun hHeld => ?_)
      clear hK
      (try simp only [Act.put, List.setIfInBounds_toArray, List.set_cons_zero, List.set_cons_succ])
      refine tkY 31 44 hHeld ?_; simp only [Act.put, List.setIfInBounds_toArray, List.set_cons_zero, List.set_cons_succ]
      refine tkY 32 45 hHeld ?_; simp only [Act.put, List.setIfInBounds_toArray, List.set_cons_zero, List.set_cons_succ]
      refine tkY 33 2 hHeld ?_; simp only [Act.put, List.setIfInBounds_toArray, List.set_cons_zero, List.set_cons_succ]
      refine wpAnyH_done (by kernel_rfl) ?_ _
      have HBF := hide' (Below.on HW.out (Below.on (Below.on hBC b5) b7))
      go_wp2
      go_ret
      exact ⟨ret_bool (HF.out.symm), HBF.out⟩
    | false =>
      have HF : Hid (ans = false) := HF0.out
      go_enter Tryz.func48, Tryz.ntmps48
      go_wp2_with fail
      refine wp_region_held_drew (S := fun w' => w'.cell? ⟨wB, 0, none⟩ = some (.int .i64 s0) ∧ w'.cell? ⟨wB, 1, none⟩ = some (.bool true) ∧ w'.cell? ⟨wB, 2, none⟩ = some (.string (strOf nm)) ∧ w'.cell? ⟨wB, 3, none⟩ = some (.int .i64 s3) ∧ w'.cell? ⟨wB, 4, none⟩ = some (.map (some mB))) (by kernel_rfl) (HSn.out _ (Below.refl _ _)) (fun hHeld => ?_)
      refine tkY 0 13 hHeld ?_; simp only [Act.put, List.setIfInBounds_toArray, List.set_cons_zero, List.set_cons_succ]
      refine tkY 1 14 hHeld ?_; simp only [Act.put, List.setIfInBounds_toArray, List.set_cons_zero, List.set_cons_succ]
      refine tkY 2 15 hHeld ?_; simp only [Act.put, List.setIfInBounds_toArray, List.set_cons_zero, List.set_cons_succ]
      refine tkY 3 16 hHeld ?_; simp only [Act.put, List.setIfInBounds_toArray, List.set_cons_zero, List.set_cons_succ]
      refine tkY 4 17 hHeld ?_; simp only [Act.put, List.setIfInBounds_toArray, List.set_cons_zero, List.set_cons_succ]
      refine tkY 5 18 hHeld ?_; simp only [Act.put, List.setIfInBounds_toArray, List.set_cons_zero, List.set_cons_succ]
      refine tkY 6 19 hHeld ?_; simp only [Act.put, List.setIfInBounds_toArray, List.set_cons_zero, List.set_cons_succ]
      refine tkY 7 20 hHeld ?_; simp only [Act.put, List.setIfInBounds_toArray, List.set_cons_zero, List.set_cons_succ]
      refine tkY 8 21 hHeld ?_; simp only [Act.put, List.setIfInBounds_toArray, List.set_cons_zero, List.set_cons_succ]
      refine wpAnyH_ready (rs := [9]) (by kernel_rfl) (by simp) ?_
      refine AllReadyH.cons rfl (fun K hK => ?_) AllReadyH.nil
      go_simp
      refine hK.out _ _ (HSn.out wC hBC) (fun hHeld => ?_)
      clear hK
      (try simp only [Act.put, List.setIfInBounds_toArray, List.set_cons_zero, List.set_cons_succ])
      refine wpAnyH_ready (rs := [10]) (by kernel_rfl) (by simp) ?_
      refine AllReadyH.cons rfl (fun K hK => ?_) AllReadyH.nil
      go_simp
      go_at_call 65
      refine (HAd.out ck wC hTo hBC).mono ?_
      rintro e w5 ⟨rfl, b5⟩
      have hS := HSn.out w5 (Below.on hBC b5)
      go_wp2_with fail
      refine hK.out _ _ hS (fun hHeld => ?_)
      clear hK
      (try simp only [Act.put, List.setIfInBounds_toArray, List.set_cons_zero, List.set_cons_succ])
      refine tkY 11 24 hHeld ?_; simp only [Act.put, List.setIfInBounds_toArray, List.set_cons_zero, List.set_cons_succ]
      refine tkY 12 25 hHeld ?_; simp only [Act.put, List.setIfInBounds_toArray, List.set_cons_zero, List.set_cons_succ]
      refine tkY 13 26 hHeld ?_; simp only [Act.put, List.setIfInBounds_toArray, List.set_cons_zero, List.set_cons_succ]
      refine tkY 14 27 hHeld ?_; simp only [Act.put, List.setIfInBounds_toArray, List.set_cons_zero, List.set_cons_succ]
      refine tkY 15 28 hHeld ?_; simp only [Act.put, List.setIfInBounds_toArray, List.set_cons_zero, List.set_cons_succ]
      refine tkY 16 29 hHeld ?_; simp only [Act.put, List.setIfInBounds_toArray, List.set_cons_zero, List.set_cons_succ]
      refine wpAnyH_ready (rs := [17]) (by kernel_rfl) (by simp) ?_
      refine AllReadyH.cons rfl (fun K hK => ?_) AllReadyH.nil
      go_simp
      go_at_call 67
      refine (HAc.out _).mono ?_
      rintro e w6 ⟨rfl, e6⟩
      obtain rfl := e6
      have hS := hHeld
      go_wp2_with fail
      refine hK.out _ _ hS (fun hHeld => ?_)
      clear hK
      (try simp only [Act.put, List.setIfInBounds_toArray, List.set_cons_zero, List.set_cons_succ])
      refine tkY 18 31 hHeld ?_; simp only [Act.put, List.setIfInBounds_toArray, List.set_cons_zero, List.set_cons_succ]
      refine tkY 19 32 hHeld ?_; simp only [Act.put, List.setIfInBounds_toArray, List.set_cons_zero, List.set_cons_succ]
      refine tkY 20 33 hHeld ?_; simp only [Act.put, List.setIfInBounds_toArray, List.set_cons_zero, List.set_cons_succ]
      refine tkY 21 34 hHeld ?_; simp only [Act.put, List.setIfInBounds_toArray, List.set_cons_zero, List.set_cons_succ]
      refine tkY 22 35 hHeld ?_; simp only [Act.put, List.setIfInBounds_toArray, List.set_cons_zero, List.set_cons_succ]
      refine tkY 23 36 hHeld ?_; simp only [Act.put, List.setIfInBounds_toArray, List.set_cons_zero, List.set_cons_succ]
      refine tkY 24 37 hHeld ?_; simp only [Act.put, List.setIfInBounds_toArray, List.set_cons_zero, List.set_cons_succ]
      refine tkY 26 39 hHeld ?_; simp only [Act.put, List.setIfInBounds_toArray, List.set_cons_zero, List.set_cons_succ]
      refine tkY 27 40 hHeld ?_; simp only [Act.put, List.setIfInBounds_toArray, List.set_cons_zero, List.set_cons_succ]
      refine tkY 28 41 hHeld ?_; simp only [Act.put, List.setIfInBounds_toArray, List.set_cons_zero, List.set_cons_succ]
      refine tkY 29 42 hHeld ?_; simp only [Act.put, List.setIfInBounds_toArray, List.set_cons_zero, List.set_cons_succ]
      refine tkY 30 43 hHeld ?_; simp only [Act.put, List.setIfInBounds_toArray, List.set_cons_zero, List.set_cons_succ]
      refine wpAnyH_ready (rs := [25]) (by kernel_rfl) (by simp) ?_
      refine AllReadyH.cons rfl (fun K hK => ?_) AllReadyH.nil
      go_simp
      go_at_call 38
      refine (HHs.out _ (Below.on hBC b5)).mono ?_
      rintro e w7 ⟨rfl, b7⟩
      have hS := HSn.out w7 (Below.on (Below.on hBC b5) b7)
      go_wp2_with fail
      refine hK.out _ _ hS (fun hHeld => ?_)
      clear hK
      (try simp only [Act.put, List.setIfInBounds_toArray, List.set_cons_zero, List.set_cons_succ])
      refine tkY 31 44 hHeld ?_; simp only [Act.put, List.setIfInBounds_toArray, List.set_cons_zero, List.set_cons_succ]
      refine tkY 32 45 hHeld ?_; simp only [Act.put, List.setIfInBounds_toArray, List.set_cons_zero, List.set_cons_succ]
      refine tkY 33 2 hHeld ?_; simp only [Act.put, List.setIfInBounds_toArray, List.set_cons_zero, List.set_cons_succ]
      refine wpAnyH_done (by kernel_rfl) ?_ _
      have HBF := hide' (Below.on HW.out (Below.on (Below.on hBC b5) b7))
      go_wp2
      go_ret
      exact ⟨ret_bool (HF.out.symm), HBF.out⟩
end Go.Proofs.YtngjhimieacjhaaGreatDoor
