/-
  Texts that a law leans on, one behind the other; no statement is proved here.
-/
import Derived.Test.YthnkedbmfhokiaaGreatDoorPk32
import Derived.Test.YthnkedbmfhokiaaGreatDoorPk44
import Derived.Test.YthnkedbmfhokiaaGreatDoorPk33
import Derived.Test.YthnkedbmfhokiaaGreatDoorPk31
import Derived.Test.YthnkedbmfhokiaaGreatDoorPk41
import Derived.Test.YthnkedbmfhokiaaGreatDoorPk30
import Derived.Test.YthnkedbmfhokiaaGreatDoorPk1
/-
  valueOf of the program at whatever part: a value of the call's own.
-/
namespace Go.Proofs.YthnkedbmfhokiaaGreatDoor
open Go.RowKit Go.Shelf
set_option linter.unusedVariables false
set_option linter.unusedSimpArgs false

theorem tNil (w : World) : TOwn w (.slice none 0 0) [] [] := ⟨⟨by simp, rfl, .inl ⟨rfl, rfl⟩⟩, .inl ⟨rfl, rfl⟩⟩
theorem kNil (w : World) : KOwn w (.slice none 0 0) [] [] := .inl ⟨rfl, rfl, rfl⟩
theorem lNil (w : World) (d : Nat) : LOwn w d (.slice none 0 0) [] [] := .inl ⟨rfl, rfl, rfl⟩

/-- What the rules of one part say of its fields. -/
theorem shape_zero {vk vn : Int} {vs : List Int} {vK : List (List Int)} {n : Nat} (h : shapeB vk vn vs vK n = true) :
    (vk = 1 ∨ vk = 2 ∨ vn = 0) ∧ (vk = 3 ∨ vs = []) ∧ (vk = 5 ∨ vK = []) ∧ (vk = 4 ∨ vk = 5 ∨ n = 0) := by
  simp only [shapeB, bareB, Bool.and_eq_true, Bool.or_eq_true, decide_eq_true_eq, List.length_eq_zero_iff] at h
  obtain ⟨⟨⟨⟨h1, h2⟩, h3⟩, h4⟩, _⟩ := h
  exact ⟨by rcases h1 with (h1 | h1) | h1 <;> simp [h1], h2, h3, by rcases h4 with (h4 | h4) | h4 <;> simp [h4]⟩

theorem shape_text {vn : Int} {vs : List Int} {vK : List (List Int)} {n : Nat} (h : shapeB 3 vn vs vK n = true) : textB vs = true := by
  simp [shapeB] at h
  exact h.2

theorem textB_byt {xs : List Int} (h : textB xs = true) : (∀ x ∈ xs, Byt x) ∧ xs.length ≤ 20 := by
  simp only [textB, Bool.and_eq_true, decide_eq_true_eq, List.all_eq_true] at h
  refine ⟨fun x hx => ?_, h.1⟩
  have := h.2 x hx
  simp only [chrB, Bool.and_eq_true, decide_eq_true_eq] at this
  unfold Byt
  omega

theorem shape_mapB {vn : Int} {vs : List Int} {vK : List (List Int)} {n : Nat} (h : shapeB 5 vn vs vK n = true) : vK.length = n ∧ ascB vK = true := by
  simp [shapeB] at h
  exact h.2

theorem step_name {ks : List (List Int)} {i : Nat} (h : stepB ks i = true) : (∀ x ∈ ks.getD i [], Byt x) ∧ (ks.getD i []).length ≤ 1000 := by
  simp only [stepB, Bool.and_eq_true] at h
  have h1 := h.1
  simp only [nameB, Bool.and_eq_true, decide_eq_true_eq, List.all_eq_true] at h1
  refine ⟨fun x hx => ?_, by omega⟩
  have := h1.2 x hx
  simp only [letB, Bool.and_eq_true, decide_eq_true_eq] at this
  unfold Byt
  omega

theorem parts_kid {d : Nat} {vk vn : Int} {vs : List Int} {vK : List (List Int)} {vL : List (Vl d)} (h : partsV (d + 1) (vk, vn, vs, vK, vL) ≤ 40) : ∀ i (hi : i < vL.length), partsV d vL[i] ≤ 40 := by
  intro i hi
  rw [parts_succ] at h
  have h1 := pre_succ (partsV d) vL i hi
  have h2 := pre_le (partsV d) vL (i + 1)
  have h3 := pre_all (partsV d) vL
  omega

theorem parts_many {d : Nat} {vk vn : Int} {vs : List Int} {vK : List (List Int)} {vL : List (Vl (d + 1))} (h : partsV (d + 1 + 1) (vk, vn, vs, vK, vL) ≤ 40) : vL.length ≤ 40 := by
  have hk : ∀ k, k ≤ vL.length → k ≤ pre (partsV (d + 1)) vL k := by
    intro k
    induction k with
    | zero => intro _; exact Nat.zero_le _
    | succ k ih =>
      intro hk
      have h1 := pre_succ (partsV (d + 1)) vL k (by omega)
      have h2 := parts_pos d vL[k]
      have h3 := ih (by omega)
      omega
  rw [parts_succ] at h
  have := hk vL.length (Nat.le_refl _)
  omega

theorem valueOf_succ (d : Nat) (ih : ValAt d) : ValAt (d + 1) := by
  intro N p v deep w hp hN hg hn
  obtain ⟨vk, vn, vs, vK, vL⟩ := v
  obtain ⟨_, hsh, hgk⟩ := (good_succ _ _ _ _ _ _ _).1 hg
  obtain ⟨z1, z2, z3, z4⟩ := shape_zero hsh
  have hkid := parts_kid hn
  have hlen : vL.length ≤ 40 := by
    cases d with
    | zero =>
      cases vL with
      | nil => simp
      | cons x r => have := hgk 0 (by simp); exact absurd this (by simp [goodB])
    | succ d => exact parts_many hn
  rcases hp with ⟨hk, rfl⟩ | ⟨hk, rfl⟩ | ⟨hk, rfl⟩ | ⟨hk, rfl⟩ | ⟨hk, rfl⟩ | ⟨hk, a, cap, rfl, hc⟩ | ⟨hk, b, ps, rfl, hR, hm, hc⟩ <;> simp only at hk <;> subst hk
  · have e1 : vn = 0 := by omega
    have e2 : vs = [] := by simpa using z2
    have e3 : vK = [] := by simpa using z3
    have e4 : vL = [] := by simpa using z4
    subst e1 e2 e3 e4
    refine (valueOf_nullPart w).mono ?_
    rintro e w' ⟨rfl, hb⟩
    exact ⟨_, _, _, _, _, rfl, [], (VOwn_succ _ _ _ _ _).2 ⟨rfl, rfl, [], [], [], tNil _, kNil _, lNil _ _, rfl, by simp⟩, by simp, hb⟩
  · have e1 : vn = 0 := by omega
    have e2 : vs = [] := by simpa using z2
    have e3 : vK = [] := by simpa using z3
    have e4 : vL = [] := by simpa using z4
    subst e1 e2 e3 e4
    refine (valueOf_unknownPart w).mono ?_
    rintro e w' ⟨rfl, hb⟩
    exact ⟨_, _, _, _, _, rfl, [], (VOwn_succ _ _ _ _ _).2 ⟨rfl, rfl, [], [], [], tNil _, kNil _, lNil _ _, rfl, by simp⟩, by simp, hb⟩
  · have e2 : vs = [] := by simpa using z2
    have e3 : vK = [] := by simpa using z3
    have e4 : vL = [] := by simpa using z4
    subst e2 e3 e4
    refine (valueOf_boolPart vn w).mono ?_
    rintro e w' ⟨rfl, hb⟩
    exact ⟨_, _, _, _, _, rfl, [], (VOwn_succ _ _ _ _ _).2 ⟨rfl, rfl, [], [], [], tNil _, kNil _, lNil _ _, rfl, by simp⟩, by simp, hb⟩
  · have e2 : vs = [] := by simpa using z2
    have e3 : vK = [] := by simpa using z3
    have e4 : vL = [] := by simpa using z4
    subst e2 e3 e4
    refine (valueOf_intPart vn w).mono ?_
    rintro e w' ⟨rfl, hb⟩
    exact ⟨_, _, _, _, _, rfl, [], (VOwn_succ _ _ _ _ _).2 ⟨rfl, rfl, [], [], [], tNil _, kNil _, lNil _ _, rfl, by simp⟩, by simp, hb⟩
  · have e1 : vn = 0 := by omega
    have e3 : vK = [] := by simpa using z3
    have e4 : vL = [] := by simpa using z4
    subst e1 e3 e4
    obtain ⟨hx, hl⟩ := textB_byt (shape_text hsh)
    refine (valueOf_textPart vs hx (by omega) w).mono ?_
    rintro e w' ⟨u, B, rfl, hT, hB, hb⟩
    have hnd : B.Nodup := by
      rcases hT.2 with ⟨_, rfl⟩ | ⟨g, cap, _, rfl⟩ <;> simp
    exact ⟨_, _, _, _, _, rfl, B, (VOwn_succ _ _ _ _ _).2 ⟨rfl, rfl, B, [], [], hT, kNil _, lNil _ _, by simp, hnd⟩, hB, hb⟩
  · have e1 : vn = 0 := by omega
    have e2 : vs = [] := by simpa using z2
    have e3 : vK = [] := by simpa using z3
    subst e1 e2 e3
    refine (valueOf_listPart d ih N a cap vL (deep + 1) w ⟨a, cap, rfl, hc⟩ hN hlen (fun i hi => ⟨hgk i hi, hkid i hi⟩)).mono ?_
    rintro e w' ⟨u, rfl, B, hL, hB, hb⟩
    exact ⟨_, _, _, _, _, rfl, B, (VOwn_succ _ _ _ _ _).2 ⟨rfl, rfl, [], [], B, tNil _, kNil _, hL, by simp, hL.nodup⟩, hB, hb⟩
  · have e1 : vn = 0 := by omega
    have e2 : vs = [] := by simpa using z2
    subst e1 e2
    obtain ⟨hkl, hasc⟩ := shape_mapB hsh
    have hst : ∀ i, i < vL.length → stepB vK i = true := by
      intro i hi
      rw [ascB, List.all_eq_true] at hasc
      exact hasc i (List.mem_range.2 (by omega))
    refine (valueOf_mapPart d ih N b ps vL vK w hR (hm.mono (n' := 128) (by omega)) hkl (step_up hst) (fun i hi => ⟨(step_name (hst i hi)).1, by have := (step_name (hst i hi)).2; omega⟩) hc hN (by omega) (fun i hi => ⟨_, hgk i hi, hkid i hi⟩)).mono ?_
    rintro e w' ⟨uK, uL, rfl, Bk, Bl, hK, hL, hB, hnd, hb⟩
    exact ⟨_, _, _, _, _, rfl, Bk ++ Bl, (VOwn_succ _ _ _ _ _).2 ⟨rfl, rfl, [], Bk, Bl, tNil _, hK, hL, by simp, hnd⟩, hB, hb⟩

theorem valueOf_any (d : Nat) : ValAt d := by
  induction d with
  | zero => intro N p v deep w hp; exact hp.elim
  | succ d ih => exact valueOf_succ d ih
end Go.Proofs.YthnkedbmfhokiaaGreatDoor
/-
  ValGet of the program.
-/
namespace Go.Proofs.YthnkedbmfhokiaaGreatDoor
open Go.RowKit Go.Shelf
set_option linter.unusedVariables false
set_option linter.unusedSimpArgs false

end Go.Proofs.YthnkedbmfhokiaaGreatDoor
/-
  The datum of a map of parts whose keys ascend, when one key is taken out of it, and the value that is left; no statement is proved here.
-/
namespace Go.Proofs.YthnkedbmfhokiaaGreatDoor
open Go.RowKit
set_option linter.unusedVariables false
set_option linter.unusedSimpArgs false

end Go.Proofs.YthnkedbmfhokiaaGreatDoor
/-
  ValBytes of the program: putPart of whatever part, ValBytes.
-/
namespace Go.Proofs.YthnkedbmfhokiaaGreatDoor
open Go.RowKit Go.Shelf
set_option linter.unusedVariables false
set_option linter.unusedSimpArgs false

theorem txt_byt {vn : Int} {vs : List Int} {vK : List (List Int)} {n : Nat} (h : shapeB 3 vn vs vK n = true) : ∀ x ∈ vs, Byt x := by
  simp [shapeB] at h
  have h2 := h.2
  simp only [textB, Bool.and_eq_true, decide_eq_true_eq, List.all_eq_true] at h2
  intro x hx
  have := h2.2 x hx
  simp only [chrB, Bool.and_eq_true, decide_eq_true_eq] at this
  unfold Byt
  omega

theorem key_byt {ks : List (List Int)} {i : Nat} (h : stepB ks i = true) : (∀ x ∈ ks.getD i [], Byt x) ∧ (ks.getD i []).length ≤ 8 := by
  simp only [stepB, Bool.and_eq_true] at h
  have h1 := h.1
  simp only [nameB, Bool.and_eq_true, decide_eq_true_eq, List.all_eq_true] at h1
  refine ⟨fun x hx => ?_, by omega⟩
  have := h1.2 x hx
  simp only [letB, Bool.and_eq_true, decide_eq_true_eq] at this
  unfold Byt
  omega

theorem kids_few {d : Nat} (vL : List (Vl d)) : ∀ k, k ≤ vL.length → k ≤ pre (partsV d) vL k := by
  intro k
  induction k with
  | zero => intro _; exact Nat.zero_le _
  | succ k ih =>
    intro hk
    have h1 := pre_succ (partsV d) vL k (by omega)
    have h2 := ih (by omega)
    have h3 : 1 ≤ partsV d vL[k] := by
      cases d with
      | zero => exact (vL[k]).elim
      | succ d => exact parts_pos d _
    omega

theorem putPart_succ (d : Nat) (ih : PByAt d) : PByAt (d + 1) := by
  intro N a cap xs p v deep w hp hN hs ka hg hn hlen
  obtain ⟨vk, vn, vs, vK, vL⟩ := v
  obtain ⟨_, hsh, hkids⟩ := (good_succ _ _ _ _ _ _ _).1 hg
  obtain ⟨hvs, hk⟩ := shape_kinds hsh
  have hpp := parts_succ d vk vn vs vK vL
  have hfew := kids_few vL vL.length (Nat.le_refl _)
  rw [hpp] at hlen hn
  rcases hp with ⟨rfl, rfl⟩ | ⟨rfl, rfl⟩ | ⟨rfl, rfl⟩ | ⟨rfl, rfl⟩ | ⟨rfl, rfl⟩ | ⟨rfl, la, lc, rfl, hc⟩ | ⟨rfl, b, ps, rfl, hR, hm, hc⟩
  · rw [bytV_bare d _ vn (.inl rfl)]; exact putPart_nullPart a cap xs w hs ka (by omega)
  · rw [bytV_bare d _ vn (.inr rfl)]; exact putPart_unknownPart a cap xs w hs ka (by omega)
  · rw [bytV_bool]; exact putPart_boolPart vn a cap xs w hs ka (by omega)
  · have h2 : -1000000000000 ≤ vn ∧ vn ≤ 1000000000000 := by
      rcases hk with hk | ⟨_, h1, h2⟩ | ⟨hk, _⟩ | ⟨hk, _⟩
      · omega
      · exact ⟨h1, h2⟩
      · omega
      · omega
    rw [bytV_int]; exact putPart_intPart vn a cap xs w hs ka (by omega) h2.1 h2.2
  · rw [bytV_text]; exact putPart_textPart _ vs a cap xs w hs ka (by omega) (txt_byt hsh) rfl (by omega)
  · rw [bytV_list]
    exact putPart_list d ih N a cap xs vK vL la lc (deep + 1) w hN hs ka ⟨la, lc, rfl, hc⟩ hkids hn (by omega) hlen
  · have hmm : vK.length = vL.length ∧ ascB vK = true := by
      rcases hk with hk | ⟨hk, _⟩ | ⟨hk, _⟩ | ⟨_, h1, h2⟩
      · omega
      · omega
      · omega
      · exact ⟨h1, h2⟩
    have hst : ∀ i, i < vL.length → stepB vK i = true := fun i hi => ascB_at hmm.2 (by omega)
    rw [bytV_map]
    exact putPart_map d ih N a cap xs vK vL b ps (deep + 1) w hN hs ka hm hc hst (fun i hi => key_byt (hst i hi)) hkids hn (by omega) hlen

theorem putPart_any (d : Nat) : PByAt d := by
  induction d with
  | zero => intro N a cap xs p v deep w hv; exact hv.elim
  | succ d ih => exact putPart_succ d ih

set_option maxHeartbeats 1600000 in
set_option maxRecDepth 100000 in
theorem impl_ValBytes_any (d N : Nat) (c0 c1 c2 c3 c4 : Value) (v : Vl d) (w : World) (hv : VSeg (fun b => b < N) w d (c0, c1, c2, c3, c4) v) (hN : N ≤ w.heap.size) :
    Calls Tryz.prog 5 #[.agg #[c0, c1, c2, c3, c4]] w (ByEnd d v w) := by
  have b0 : ∀ o : Obj, Below w.heap.size w (w.alloc o) := fun o => (Below.refl _ _).alloc (Nat.le_refl _) o
  have Hb := hide' b0
  have HC : Hid (∀ wx, Below w.heap.size w wx → Calls Tryz.prog 17 #[.agg #[c0, c1, c2, c3, c4]] wx (PartEnd d v wx)) := fun wx hb =>
    partOf_any d N c0 c1 c2 c3 c4 v wx (VSeg.agree (agree_below (hb.mono hN)) d hv) (by have := hb.size; omega)
  have HP : Hid (∀ p wx, okB d v = true → PSeg (fun b => b < wx.heap.size) wx d p v → Calls Tryz.prog 18 #[.slice none 0 0, p] wx fun e w' => ∃ a n c, e = .returned (.slice a n c) ∧ Bts w' wx.heap.size (.slice a n c) (valBytes d v) ∧ Below wx.heap.size wx w') := fun p wx hok hp => by
    obtain ⟨h1, h2⟩ := okB_parts hok
    refine (putPart_any d wx.heap.size none 0 [] p v 1 wx hp (Nat.le_refl _) ⟨by simp, .inl rfl⟩ (fun _ => rfl) h1 h2 (by simp; omega)).mono ?_
    rintro e w' ⟨u, rfl, hB, hbw⟩
    obtain ⟨a, c, rfl, _⟩ := hB.shape
    exact ⟨a, _, c, rfl, by rw [valBytes, if_pos hok]; exact hB, hbw⟩
  obtain ⟨vk, vn, a2, l2, p2, a3, l3, p3, a4, l4, p4, rfl, rfl, rfl, rfl, rfl⟩ := VSeg.form d hv
  clear hv b0
  go_enter Tryz.func5, Tryz.ntmps5
  go_wp2_with fail
  refine (HC.out _ (Hb.out _)).mono ?_
  rintro e w1 ⟨b1, ⟨p, rfl, hok, hps⟩ | ⟨rfl, hok⟩⟩
  · have B1 := Below.on (Hb.out _) b1
    have HP2 := hide' (HP.out p w1 hok (PSeg.carry (fun b h => h.2) (fun _ _ => rfl) d hps))
    obtain ⟨tp, xp, rfl⟩ := hps.shape
    clear b1 hps HC HP
    go_wp2_with fail
    refine HP2.out.mono ?_
    rintro e w2 ⟨a, n, c, rfl, hB, b2⟩
    have B2 := Below.on B1 b2
    have HB := hide' (hB.mono (base' := w.heap.size) B1.size)
    clear b2 hB
    go_wp2
    go_ret2
    exact ⟨a, n, c, by rw [hok]; rfl, HB.out, B2⟩
  · have B1 := Below.on (Hb.out _) b1
    clear b1
    go_wp2
    go_ret2
    exact ⟨none, 0, 0, by rw [hok]; rfl, by rw [valBytes, hok]; exact bts_nil _ _, B1⟩
end Go.Proofs.YthnkedbmfhokiaaGreatDoor
/-
  A key put into a map whose keys ascend: where it comes, and the datum of a map of parts behind it; no statement is proved here.
-/
namespace Go.Proofs.YthnkedbmfhokiaaGreatDoor
open Go.RowKit
set_option linter.unusedVariables false
set_option linter.unusedSimpArgs false

/-- How many keys are ahead of a key. -/
def posK (ks : List (List Int)) (key : List Int) : Nat := (ks.takeWhile fun k => ltS k key).length
/-- .. and how many of them and it. -/
def skipK (ks : List (List Int)) (key : List Int) : Nat := if posK ks key < ks.length ∧ ks.getD (posK ks key) [] = key then posK ks key + 1 else posK ks key

theorem posK_le (ks : List (List Int)) (key : List Int) : posK ks key ≤ ks.length := List.takeWhile_prefix _ |>.length_le
theorem skipK_le (ks : List (List Int)) (key : List Int) : skipK ks key ≤ ks.length := by
  unfold skipK
  have := posK_le ks key
  split <;> omega
theorem skipK_cases (ks : List (List Int)) (key : List Int) : (skipK ks key = posK ks key + 1 ∧ posK ks key < ks.length ∧ ks.getD (posK ks key) [] = key) ∨ (skipK ks key = posK ks key ∧ ¬ (posK ks key < ks.length ∧ ks.getD (posK ks key) [] = key)) := by
  unfold skipK
  by_cases h : posK ks key < ks.length ∧ ks.getD (posK ks key) [] = key
  · exact .inl ⟨if_pos h, h⟩
  · exact .inr ⟨if_neg h, h⟩

theorem pos_lt : ∀ (ks : List (List Int)) (key : List Int) (i : Nat), i < posK ks key → ltS (ks.getD i []) key = true
  | [], key, i, h => by simp [posK] at h
  | k :: ks, key, i, h => by
    by_cases hk : ltS k key = true
    · cases i with
      | zero => simpa using hk
      | succ i =>
        have : i < posK ks key := by simpa [posK, List.takeWhile_cons, hk] using h
        simpa using pos_lt ks key i this
    · simp [posK, List.takeWhile_cons, hk] at h
theorem pos_ge : ∀ (ks : List (List Int)) (key : List Int), posK ks key < ks.length → ltS (ks.getD (posK ks key) []) key = false
  | [], key, h => by simp at h
  | k :: ks, key, h => by
    by_cases hk : ltS k key = true
    · have e : posK (k :: ks) key = posK ks key + 1 := by simp [posK, List.takeWhile_cons, hk]
      rw [e] at h ⊢
      simpa using pos_ge ks key (by simpa using h)
    · have e : posK (k :: ks) key = 0 := by simp [posK, List.takeWhile_cons, hk]
      rw [e]
      simpa using hk

/-- Keys behind the place are behind the key. -/
theorem skip_gt {ks : List (List Int)} {key : List Int} (hu : ∀ i, i < ks.length → upB ks i = true) (hb : ∀ i, i < ks.length → ∀ x ∈ ks.getD i [], Byt x) (hy : ∀ y ∈ key, Byt y) {i : Nat} (h1 : skipK ks key ≤ i) (h2 : i < ks.length) : ltS key (ks.getD i []) = true := by
  have hp : posK ks key < ks.length := by
    rcases skipK_cases ks key with ⟨_, h, _⟩ | ⟨h, _⟩ <;> omega
  have hge := pos_ge ks key hp
  rcases skipK_cases ks key with ⟨hs, _, he⟩ | ⟨hs, hn⟩
  · have := asc_ltU hu i h2 (posK ks key) (by omega)
    rw [he] at this
    exact this
  · have hlt : ltS key (ks.getD (posK ks key) []) = true := by
      cases h : ltS key (ks.getD (posK ks key) []) with
      | true => rfl
      | false =>
        have e := less_total _ _ hge h
        exfalso
        apply hn
        refine ⟨hp, ?_⟩
        have h3 := strOf_eq (hb _ hp) hy
        rw [strOf_list, strOf_list, e] at h3
        simpa using h3.symm
    by_cases e : i = posK ks key
    · rw [e]; exact hlt
    · exact less_trans _ _ _ hlt (asc_ltU hu i h2 (posK ks key) (by omega))

/-- A list with x at the key's place. -/
def putL {α : Type} (ks : List (List Int)) (key : List Int) (l : List α) (x : α) : List α := l.take (posK ks key) ++ x :: l.drop (skipK ks key)
/-- The keys with the key. -/
def setK (ks : List (List Int)) (key : List Int) : List (List Int) := putL ks key ks key
/-- The map with x under the key. -/
def setV (d : Nat) (v : Vl (d + 1)) (key : List Int) (x : Vl d) : Vl (d + 1) := ((5 : Int), (0 : Int), ([] : List Int), setK v.2.2.2.1 key, putL v.2.2.2.1 key v.2.2.2.2 x)

theorem length_putL {α : Type} {ks : List (List Int)} {key : List Int} {l : List α} (x : α) (h : l.length = ks.length) : (putL ks key l x).length = posK ks key + 1 + (ks.length - skipK ks key) := by
  have := posK_le ks key
  simp [putL, h]
  omega
theorem putL_lt {α : Type} {ks : List (List Int)} {key : List Int} {l : List α} (x z : α) (h : l.length = ks.length) {j : Nat} (hj : j < posK ks key) : (putL ks key l x).getD j z = l.getD j z := by
  have := posK_le ks key
  simp only [putL, List.getD_eq_getElem?_getD]
  rw [List.getElem?_append_left (by simp; omega), List.getElem?_take_of_lt hj]
theorem putL_at {α : Type} {ks : List (List Int)} {key : List Int} {l : List α} (x z : α) (h : l.length = ks.length) : (putL ks key l x).getD (posK ks key) z = x := by
  have := posK_le ks key
  have hl : (l.take (posK ks key)).length = posK ks key := by simp; omega
  simp only [putL, List.getD_eq_getElem?_getD]
  rw [List.getElem?_append_right (by omega), hl]
  simp
theorem putL_gt {α : Type} {ks : List (List Int)} {key : List Int} {l : List α} (x z : α) (h : l.length = ks.length) {i : Nat} : (putL ks key l x).getD (posK ks key + 1 + i) z = l.getD (skipK ks key + i) z := by
  have := posK_le ks key
  have hl : (l.take (posK ks key)).length = posK ks key := by simp; omega
  simp only [putL, List.getD_eq_getElem?_getD]
  rw [List.getElem?_append_right (by omega), hl, show posK ks key + 1 + i - posK ks key = i + 1 by omega, List.getElem?_cons_succ, List.getElem?_drop]

theorem set_up {ks : List (List Int)} {key : List Int} (hu : ∀ i, i < ks.length → upB ks i = true) (hb : ∀ i, i < ks.length → ∀ x ∈ ks.getD i [], Byt x) (hy : ∀ y ∈ key, Byt y) : ∀ i, i < (setK ks key).length → upB (setK ks key) i = true := by
  intro i hi
  rw [setK, length_putL _ rfl] at hi
  have hpl := posK_le ks key
  have hsl := skipK_le ks key
  unfold upB
  rw [Bool.or_eq_true, beq_iff_eq]
  by_cases h0 : i = 0
  · exact .inl h0
  refine .inr ?_
  rcases Nat.lt_trichotomy i (posK ks key) with hlt | heq | hgt
  · rw [setK, putL_lt _ _ rfl hlt, putL_lt _ _ rfl (by omega)]
    have := hu i (by omega)
    simpa [upB, h0] using this
  · rw [heq, setK, putL_at _ _ rfl, putL_lt _ _ rfl (by omega)]
    exact pos_lt ks key _ (by omega)
  · obtain ⟨j, rfl⟩ : ∃ j, i = posK ks key + 1 + j := ⟨i - posK ks key - 1, by omega⟩
    rw [setK, putL_gt _ _ rfl]
    have hj : skipK ks key + j < ks.length := by omega
    cases j with
    | zero =>
      rw [show posK ks key + 1 + 0 - 1 = posK ks key by omega, putL_at _ _ rfl]
      exact skip_gt hu hb hy (Nat.le_refl _) hj
    | succ j =>
      rw [show posK ks key + 1 + (j + 1) - 1 = posK ks key + 1 + j by omega, putL_gt _ _ rfl]
      have := hu (skipK ks key + (j + 1)) hj
      have e : ¬ skipK ks key + (j + 1) = 0 := by omega
      simpa [upB, e] using this

theorem set_byt {ks : List (List Int)} {key : List Int} (hb : ∀ i, i < ks.length → ∀ x ∈ ks.getD i [], Byt x) (hy : ∀ y ∈ key, Byt y) (B : Nat) (hl : ∀ i, i < ks.length → (ks.getD i []).length ≤ B) (hk : key.length ≤ B) : ∀ i, i < (setK ks key).length → (∀ x ∈ (setK ks key).getD i [], Byt x) ∧ ((setK ks key).getD i []).length ≤ B := by
  intro i hi
  rw [setK, length_putL _ rfl] at hi
  have hpl := posK_le ks key
  have hsl := skipK_le ks key
  rcases Nat.lt_trichotomy i (posK ks key) with hlt | heq | hgt
  · rw [setK, putL_lt _ _ rfl hlt]
    exact ⟨hb i (by omega), hl i (by omega)⟩
  · rw [heq, setK, putL_at _ _ rfl]
    exact ⟨hy, hk⟩
  · obtain ⟨j, rfl⟩ : ∃ j, i = posK ks key + 1 + j := ⟨i - posK ks key - 1, by omega⟩
    rw [setK, putL_gt _ _ rfl]
    exact ⟨hb _ (by omega), hl _ (by omega)⟩

/-- The parts of a map as a list of as many. -/
def padP (ps : List Value) (n : Nat) : List Value := (List.range n).map fun i => ps.getD i .nilIface
theorem length_padP (ps : List Value) (n : Nat) : (padP ps n).length = n := by simp [padP]
theorem padP_at (ps : List Value) {n i : Nat} (h : i < n) : (padP ps n).getD i .nilIface = ps.getD i .nilIface := by simp [padP, List.getD_eq_getElem?_getD, h]
theorem ent_pad (ks : List (List Int)) (ps : List Value) (n : Nat) : entF ks ps n = entF ks (padP ps n) n := by
  unfold entF
  refine List.map_congr_left fun i hi => ?_
  rw [padP_at ps (List.mem_range.1 hi)]

theorem insert_mid {H : Type} (x : Go.Lit × DataW H) : ∀ (A B : List (Go.Lit × DataW H)), (∀ y ∈ A, x.1.before y.1 = false) → (∀ y ∈ B, x.1.before y.1 = true) → DataW.insert x (A ++ B) = A ++ x :: B
  | [], [], _, _ => rfl
  | [], y :: r, _, h => by
    have h1 := h y (by simp)
    show DataW.insert x (y :: r) = x :: y :: r
    unfold DataW.insert
    rw [h1]
    rfl
  | y :: A, B, h, h' => by
    have h1 := h y (by simp)
    have ih := insert_mid x A B (fun z hz => h z (by simp [hz])) h'
    show DataW.insert x (y :: (A ++ B)) = y :: (A ++ x :: B)
    unfold DataW.insert
    rw [h1, ih]
    rfl

theorem ent_take (ks : List (List Int)) (ps : List Value) {n p : Nat} (h : p ≤ n) : (entF ks ps n).take p = entF ks ps p := by
  unfold entF
  rw [← List.map_take, List.take_range, Nat.min_eq_left h]
theorem ent_at (ks : List (List Int)) (ps : List Value) {n i : Nat} (h : i < n) : (entF ks ps n)[i]? = some (.string (u8s (ks.getD i [])), .held (ps.getD i .nilIface)) := by simp [entF, h]
theorem length_entF (ks : List (List Int)) (ps : List Value) (n : Nat) : (entF ks ps n).length = n := by simp [entF]

theorem before_u8s (a b : List Int) : (Lit.string (u8s a)).before (.string (u8s b)) = ltS a b := before_eq _ _

/-- A key is put. -/
theorem put_ent {ks : List (List Int)} {ps : List Value} {key : List Int} {p : Value} (hu : ∀ i, i < ks.length → upB ks i = true) (hb : ∀ i, i < ks.length → ∀ x ∈ ks.getD i [], Byt x) (hy : ∀ y ∈ key, Byt y) :
    (DataW.map (entF ks ps ks.length)).put (.string (u8s key)) (.held p) = .map (entF (setK ks key) (putL ks key (padP ps ks.length) p) (setK ks key).length) := by
  have hpl := posK_le ks key
  have hsl := skipK_le ks key
  have hln : (setK ks key).length = posK ks key + 1 + (ks.length - skipK ks key) := length_putL _ rfl
  have hlp := length_padP ps ks.length
  rw [ent_pad]
  generalize hq : padP ps ks.length = qs at *
  show DataW.map (DataW.insert (.string (u8s key), .held p) ((entF ks qs ks.length).filter fun q => !q.1.sameKey (.string (u8s key)))) = _
  congr 1
  have hA : ∀ y ∈ (entF ks qs ks.length).take (posK ks key), ∃ i, i < posK ks key ∧ y = (.string (u8s (ks.getD i [])), .held (qs.getD i .nilIface)) := by
    intro y hy'
    rw [ent_take ks qs hpl] at hy'
    simp only [entF, List.mem_map, List.mem_range] at hy'
    obtain ⟨i, hi, rfl⟩ := hy'
    exact ⟨i, hi, rfl⟩
  have hB : ∀ y ∈ (entF ks qs ks.length).drop (skipK ks key), ∃ i, skipK ks key ≤ i ∧ i < ks.length ∧ y = (.string (u8s (ks.getD i [])), .held (qs.getD i .nilIface)) := by
    intro y hy'
    obtain ⟨j, hj⟩ := List.mem_iff_getElem?.1 hy'
    rw [List.getElem?_drop] at hj
    have hl := (List.getElem?_eq_some_iff.1 hj).1
    rw [length_entF] at hl
    rw [ent_at ks qs hl] at hj
    exact ⟨_, by omega, hl, by simpa using hj.symm⟩
  have hf : (entF ks qs ks.length).filter (fun q => !q.1.sameKey (.string (u8s key))) = (entF ks qs ks.length).take (posK ks key) ++ (entF ks qs ks.length).drop (skipK ks key) := by
    have hAf : ((entF ks qs ks.length).take (posK ks key)).filter (fun q => !q.1.sameKey (.string (u8s key))) = (entF ks qs ks.length).take (posK ks key) := by
      rw [List.filter_eq_self]
      intro y hy'
      obtain ⟨i, hi, rfl⟩ := hA y hy'
      have := less_ne (pos_lt ks key i hi)
      simpa [Lit.sameKey] using this
    have hBf : ((entF ks qs ks.length).drop (skipK ks key)).filter (fun q => !q.1.sameKey (.string (u8s key))) = (entF ks qs ks.length).drop (skipK ks key) := by
      rw [List.filter_eq_self]
      intro y hy'
      obtain ⟨i, h1, h2, rfl⟩ := hB y hy'
      have := less_ne (skip_gt hu hb hy h1 h2)
      have h3 : ¬ u8s (ks.getD i []) = u8s key := fun e => by rw [e] at this; simp at this
      simpa [Lit.sameKey] using h3
    rcases skipK_cases ks key with ⟨hs, hlt, he⟩ | ⟨hs, hn⟩
    · have e1 : entF ks qs ks.length = (entF ks qs ks.length).take (posK ks key) ++ ((Lit.string (u8s (ks.getD (posK ks key) [])), DataW.held (qs.getD (posK ks key) .nilIface)) :: (entF ks qs ks.length).drop (skipK ks key)) := by
        conv => lhs; rw [← List.take_append_drop (posK ks key) (entF ks qs ks.length)]
        congr 1
        rw [hs, List.drop_eq_getElem_cons (by rw [length_entF]; exact hlt)]
        congr 1
        have := ent_at ks qs hlt
        rw [List.getElem?_eq_getElem (by rw [length_entF]; exact hlt)] at this
        simpa using this
      conv => lhs; rw [e1]
      rw [List.filter_append, hAf, List.filter_cons]
      have hsame : (Lit.string (u8s (ks.getD (posK ks key) []))).sameKey (.string (u8s key)) = true := by rw [he]; simp [Lit.sameKey]
      simp only [hsame, Bool.not_true, Bool.false_eq_true, if_false]
      rw [hBf]
    · have e1 : entF ks qs ks.length = (entF ks qs ks.length).take (posK ks key) ++ (entF ks qs ks.length).drop (skipK ks key) := by
        rw [hs, List.take_append_drop]
      conv => lhs; rw [e1]
      rw [List.filter_append, hAf, hBf]
  rw [hf, insert_mid]
  · apply List.ext_getElem?
    intro j
    rcases Nat.lt_trichotomy j (posK ks key) with hlt | heq | hgt
    · rw [List.getElem?_append_left (by simp [length_entF]; omega), List.getElem?_take_of_lt hlt, ent_at ks qs (by omega), ent_at _ _ (by omega), setK, putL_lt _ _ rfl hlt, putL_lt _ _ hlp hlt]
    · subst heq
      rw [List.getElem?_append_right (by simp [length_entF]; omega)]
      have e : ((entF ks qs ks.length).take (posK ks key)).length = posK ks key := by simp [length_entF]; omega
      rw [e, Nat.sub_self, List.getElem?_cons_zero, ent_at _ _ (by omega), setK, putL_at _ _ rfl, putL_at _ _ hlp]
    · obtain ⟨i, rfl⟩ : ∃ i, j = posK ks key + 1 + i := ⟨j - posK ks key - 1, by omega⟩
      have e : ((entF ks qs ks.length).take (posK ks key)).length = posK ks key := by simp [length_entF]; omega
      rw [List.getElem?_append_right (by omega), e, show posK ks key + 1 + i - posK ks key = i + 1 by omega, List.getElem?_cons_succ, List.getElem?_drop]
      by_cases hi : skipK ks key + i < ks.length
      · rw [ent_at ks qs hi, ent_at _ _ (by omega), setK, putL_gt _ _ rfl, putL_gt _ _ hlp]
      · rw [List.getElem?_eq_none (by rw [length_entF]; omega), List.getElem?_eq_none (by rw [length_entF]; omega)]
  · intro y hy'
    obtain ⟨i, hi, rfl⟩ := hA y hy'
    show (Lit.string (u8s key)).before (.string (u8s (ks.getD i []))) = false
    rw [before_u8s]
    exact less_asymm (pos_lt ks key i hi)
  · intro y hy'
    obtain ⟨i, h1, h2, rfl⟩ := hB y hy'
    show (Lit.string (u8s key)).before (.string (u8s (ks.getD i []))) = true
    rw [before_u8s]
    exact skip_gt hu hb hy h1 h2
end Go.Proofs.YthnkedbmfhokiaaGreatDoor
