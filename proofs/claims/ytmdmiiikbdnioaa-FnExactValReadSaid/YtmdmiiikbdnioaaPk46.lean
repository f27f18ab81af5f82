/-
  Texts that a law leans on, one behind the other; no statement is proved here.
-/
import Derived.Test.YtmdmiiikbdnioaaPk38
import Derived.Test.YtmdmiiikbdnioaaPk34
import Derived.Test.YtmdmiiikbdnioaaPk36
import Derived.Test.YtmdmiiikbdnioaaPk40
import Derived.Test.YtmdmiiikbdnioaaPk30
import Derived.Test.YtmdmiiikbdnioaaPk3
import Derived.Test.YtmdmiiikbdnioaaPk10
/-
  ValBytes of the program: putPart of whatever part, ValBytes.
-/
namespace Go.Proofs.Ytmdmiiikbdnioaa
open Go.RowKit Go.Shelf
set_option linter.unusedVariables false
set_option linter.unusedSimpArgs false

theorem txt_byt {vn : Int} {vs : List Int} {vK : List (List Int)} {n : Nat} (h : shapeB 3 vn vs vK n = true) : ∀ x ∈ vs, Byt x := by
  simp [shapeB] at h
  have h2 := h.2
  simp only [textB, Bool.and_eq_true, decide_eq_true_eq, List.all_eq_true] at h2
  intro x hx
  have := h2.2 x hx
  simp only [chrB, Bool.and_eq_true, decide_eq_true_eq] at this
  unfold Byt
  omega

theorem key_byt {ks : List (List Int)} {i : Nat} (h : stepB ks i = true) : (∀ x ∈ ks.getD i [], Byt x) ∧ (ks.getD i []).length ≤ 8 := by
  simp only [stepB, Bool.and_eq_true] at h
  have h1 := h.1
  simp only [nameB, Bool.and_eq_true, decide_eq_true_eq, List.all_eq_true] at h1
  refine ⟨fun x hx => ?_, by omega⟩
  have := h1.2 x hx
  simp only [letB, Bool.and_eq_true, decide_eq_true_eq] at this
  unfold Byt
  omega

theorem kids_few {d : Nat} (vL : List (Vl d)) : ∀ k, k ≤ vL.length → k ≤ pre (partsV d) vL k := by
  intro k
  induction k with
  | zero => intro _; exact Nat.zero_le _
  | succ k ih =>
    intro hk
    have h1 := pre_succ (partsV d) vL k (by omega)
    have h2 := ih (by omega)
    have h3 : 1 ≤ partsV d vL[k] := by
      cases d with
      | zero => exact (vL[k]).elim
      | succ d => exact parts_pos d _
    omega

theorem putPart_succ (d : Nat) (ih : PByAt d) : PByAt (d + 1) := by
  intro N a cap xs p v deep w hp hN hs ka hg hn hlen
  obtain ⟨vk, vn, vs, vK, vL⟩ := v
  obtain ⟨_, hsh, hkids⟩ := (good_succ _ _ _ _ _ _ _).1 hg
  obtain ⟨hvs, hk⟩ := shape_kinds hsh
  have hpp := parts_succ d vk vn vs vK vL
  have hfew := kids_few vL vL.length (Nat.le_refl _)
  rw [hpp] at hlen hn
  rcases hp with ⟨rfl, rfl⟩ | ⟨rfl, rfl⟩ | ⟨rfl, rfl⟩ | ⟨rfl, rfl⟩ | ⟨rfl, rfl⟩ | ⟨rfl, la, lc, rfl, hc⟩ | ⟨rfl, b, ps, rfl, hR, hm, hc⟩
  · rw [bytV_bare d _ vn (.inl rfl)]; exact putPart_nullPart a cap xs w hs ka (by omega)
  · rw [bytV_bare d _ vn (.inr rfl)]; exact putPart_unknownPart a cap xs w hs ka (by omega)
  · rw [bytV_bool]; exact putPart_boolPart vn a cap xs w hs ka (by omega)
  · have h2 : -1000000000000 ≤ vn ∧ vn ≤ 1000000000000 := by
      rcases hk with hk | ⟨_, h1, h2⟩ | ⟨hk, _⟩ | ⟨hk, _⟩
      · omega
      · exact ⟨h1, h2⟩
      · omega
      · omega
    rw [bytV_int]; exact putPart_intPart vn a cap xs w hs ka (by omega) h2.1 h2.2
  · rw [bytV_text]; exact putPart_textPart _ vs a cap xs w hs ka (by omega) (txt_byt hsh) rfl (by omega)
  · rw [bytV_list]
    exact putPart_list d ih N a cap xs vK vL la lc (deep + 1) w hN hs ka ⟨la, lc, rfl, hc⟩ hkids hn (by omega) hlen
  · have hmm : vK.length = vL.length ∧ ascB vK = true := by
      rcases hk with hk | ⟨hk, _⟩ | ⟨hk, _⟩ | ⟨_, h1, h2⟩
      · omega
      · omega
      · omega
      · exact ⟨h1, h2⟩
    have hst : ∀ i, i < vL.length → stepB vK i = true := fun i hi => ascB_at hmm.2 (by omega)
    rw [bytV_map]
    exact putPart_map d ih N a cap xs vK vL b ps (deep + 1) w hN hs ka hm hc hst (fun i hi => key_byt (hst i hi)) hkids hn (by omega) hlen

theorem putPart_any (d : Nat) : PByAt d := by
  induction d with
  | zero => intro N a cap xs p v deep w hv; exact hv.elim
  | succ d ih => exact putPart_succ d ih

end Go.Proofs.Ytmdmiiikbdnioaa
/-
  valueOf of the program at whatever part: a value of the call's own.
-/
namespace Go.Proofs.Ytmdmiiikbdnioaa
open Go.RowKit Go.Shelf
set_option linter.unusedVariables false
set_option linter.unusedSimpArgs false

theorem tNil (w : World) : TOwn w (.slice none 0 0) [] [] := ⟨⟨by simp, rfl, .inl ⟨rfl, rfl⟩⟩, .inl ⟨rfl, rfl⟩⟩
theorem kNil (w : World) : KOwn w (.slice none 0 0) [] [] := .inl ⟨rfl, rfl, rfl⟩
theorem lNil (w : World) (d : Nat) : LOwn w d (.slice none 0 0) [] [] := .inl ⟨rfl, rfl, rfl⟩

/-- What the rules of one part say of its fields. -/
theorem shape_zero {vk vn : Int} {vs : List Int} {vK : List (List Int)} {n : Nat} (h : shapeB vk vn vs vK n = true) :
    (vk = 1 ∨ vk = 2 ∨ vn = 0) ∧ (vk = 3 ∨ vs = []) ∧ (vk = 5 ∨ vK = []) ∧ (vk = 4 ∨ vk = 5 ∨ n = 0) := by
  simp only [shapeB, bareB, Bool.and_eq_true, Bool.or_eq_true, decide_eq_true_eq, List.length_eq_zero_iff] at h
  obtain ⟨⟨⟨⟨h1, h2⟩, h3⟩, h4⟩, _⟩ := h
  exact ⟨by rcases h1 with (h1 | h1) | h1 <;> simp [h1], h2, h3, by rcases h4 with (h4 | h4) | h4 <;> simp [h4]⟩

theorem shape_text {vn : Int} {vs : List Int} {vK : List (List Int)} {n : Nat} (h : shapeB 3 vn vs vK n = true) : textB vs = true := by
  simp [shapeB] at h
  exact h.2

theorem textB_byt {xs : List Int} (h : textB xs = true) : (∀ x ∈ xs, Byt x) ∧ xs.length ≤ 20 := by
  simp only [textB, Bool.and_eq_true, decide_eq_true_eq, List.all_eq_true] at h
  refine ⟨fun x hx => ?_, h.1⟩
  have := h.2 x hx
  simp only [chrB, Bool.and_eq_true, decide_eq_true_eq] at this
  unfold Byt
  omega

theorem shape_mapB {vn : Int} {vs : List Int} {vK : List (List Int)} {n : Nat} (h : shapeB 5 vn vs vK n = true) : vK.length = n ∧ ascB vK = true := by
  simp [shapeB] at h
  exact h.2

theorem step_name {ks : List (List Int)} {i : Nat} (h : stepB ks i = true) : (∀ x ∈ ks.getD i [], Byt x) ∧ (ks.getD i []).length ≤ 1000 := by
  simp only [stepB, Bool.and_eq_true] at h
  have h1 := h.1
  simp only [nameB, Bool.and_eq_true, decide_eq_true_eq, List.all_eq_true] at h1
  refine ⟨fun x hx => ?_, by omega⟩
  have := h1.2 x hx
  simp only [letB, Bool.and_eq_true, decide_eq_true_eq] at this
  unfold Byt
  omega

theorem parts_kid {d : Nat} {vk vn : Int} {vs : List Int} {vK : List (List Int)} {vL : List (Vl d)} (h : partsV (d + 1) (vk, vn, vs, vK, vL) ≤ 40) : ∀ i (hi : i < vL.length), partsV d vL[i] ≤ 40 := by
  intro i hi
  rw [parts_succ] at h
  have h1 := pre_succ (partsV d) vL i hi
  have h2 := pre_le (partsV d) vL (i + 1)
  have h3 := pre_all (partsV d) vL
  omega

theorem parts_many {d : Nat} {vk vn : Int} {vs : List Int} {vK : List (List Int)} {vL : List (Vl (d + 1))} (h : partsV (d + 1 + 1) (vk, vn, vs, vK, vL) ≤ 40) : vL.length ≤ 40 := by
  have hk : ∀ k, k ≤ vL.length → k ≤ pre (partsV (d + 1)) vL k := by
    intro k
    induction k with
    | zero => intro _; exact Nat.zero_le _
    | succ k ih =>
      intro hk
      have h1 := pre_succ (partsV (d + 1)) vL k (by omega)
      have h2 := parts_pos d vL[k]
      have h3 := ih (by omega)
      omega
  rw [parts_succ] at h
  have := hk vL.length (Nat.le_refl _)
  omega

theorem valueOf_succ (d : Nat) (ih : ValAt d) : ValAt (d + 1) := by
  intro N p v deep w hp hN hg hn
  obtain ⟨vk, vn, vs, vK, vL⟩ := v
  obtain ⟨_, hsh, hgk⟩ := (good_succ _ _ _ _ _ _ _).1 hg
  obtain ⟨z1, z2, z3, z4⟩ := shape_zero hsh
  have hkid := parts_kid hn
  have hlen : vL.length ≤ 40 := by
    cases d with
    | zero =>
      cases vL with
      | nil => simp
      | cons x r => have := hgk 0 (by simp); exact absurd this (by simp [goodB])
    | succ d => exact parts_many hn
  rcases hp with ⟨hk, rfl⟩ | ⟨hk, rfl⟩ | ⟨hk, rfl⟩ | ⟨hk, rfl⟩ | ⟨hk, rfl⟩ | ⟨hk, a, cap, rfl, hc⟩ | ⟨hk, b, ps, rfl, hR, hm, hc⟩ <;> simp only at hk <;> subst hk
  · have e1 : vn = 0 := by omega
    have e2 : vs = [] := by simpa using z2
    have e3 : vK = [] := by simpa using z3
    have e4 : vL = [] := by simpa using z4
    subst e1 e2 e3 e4
    refine (valueOf_nullPart w).mono ?_
    rintro e w' ⟨rfl, hb⟩
    exact ⟨_, _, _, _, _, rfl, [], (VOwn_succ _ _ _ _ _).2 ⟨rfl, rfl, [], [], [], tNil _, kNil _, lNil _ _, rfl, by simp⟩, by simp, hb⟩
  · have e1 : vn = 0 := by omega
    have e2 : vs = [] := by simpa using z2
    have e3 : vK = [] := by simpa using z3
    have e4 : vL = [] := by simpa using z4
    subst e1 e2 e3 e4
    refine (valueOf_unknownPart w).mono ?_
    rintro e w' ⟨rfl, hb⟩
    exact ⟨_, _, _, _, _, rfl, [], (VOwn_succ _ _ _ _ _).2 ⟨rfl, rfl, [], [], [], tNil _, kNil _, lNil _ _, rfl, by simp⟩, by simp, hb⟩
  · have e2 : vs = [] := by simpa using z2
    have e3 : vK = [] := by simpa using z3
    have e4 : vL = [] := by simpa using z4
    subst e2 e3 e4
    refine (valueOf_boolPart vn w).mono ?_
    rintro e w' ⟨rfl, hb⟩
    exact ⟨_, _, _, _, _, rfl, [], (VOwn_succ _ _ _ _ _).2 ⟨rfl, rfl, [], [], [], tNil _, kNil _, lNil _ _, rfl, by simp⟩, by simp, hb⟩
  · have e2 : vs = [] := by simpa using z2
    have e3 : vK = [] := by simpa using z3
    have e4 : vL = [] := by simpa using z4
    subst e2 e3 e4
    refine (valueOf_intPart vn w).mono ?_
    rintro e w' ⟨rfl, hb⟩
    exact ⟨_, _, _, _, _, rfl, [], (VOwn_succ _ _ _ _ _).2 ⟨rfl, rfl, [], [], [], tNil _, kNil _, lNil _ _, rfl, by simp⟩, by simp, hb⟩
  · have e1 : vn = 0 := by omega
    have e3 : vK = [] := by simpa using z3
    have e4 : vL = [] := by simpa using z4
    subst e1 e3 e4
    obtain ⟨hx, hl⟩ := textB_byt (shape_text hsh)
    refine (valueOf_textPart vs hx (by omega) w).mono ?_
    rintro e w' ⟨u, B, rfl, hT, hB, hb⟩
    have hnd : B.Nodup := by
      rcases hT.2 with ⟨_, rfl⟩ | ⟨g, cap, _, rfl⟩ <;> simp
    exact ⟨_, _, _, _, _, rfl, B, (VOwn_succ _ _ _ _ _).2 ⟨rfl, rfl, B, [], [], hT, kNil _, lNil _ _, by simp, hnd⟩, hB, hb⟩
  · have e1 : vn = 0 := by omega
    have e2 : vs = [] := by simpa using z2
    have e3 : vK = [] := by simpa using z3
    subst e1 e2 e3
    refine (valueOf_listPart d ih N a cap vL (deep + 1) w ⟨a, cap, rfl, hc⟩ hN hlen (fun i hi => ⟨hgk i hi, hkid i hi⟩)).mono ?_
    rintro e w' ⟨u, rfl, B, hL, hB, hb⟩
    exact ⟨_, _, _, _, _, rfl, B, (VOwn_succ _ _ _ _ _).2 ⟨rfl, rfl, [], [], B, tNil _, kNil _, hL, by simp, hL.nodup⟩, hB, hb⟩
  · have e1 : vn = 0 := by omega
    have e2 : vs = [] := by simpa using z2
    subst e1 e2
    obtain ⟨hkl, hasc⟩ := shape_mapB hsh
    have hst : ∀ i, i < vL.length → stepB vK i = true := by
      intro i hi
      rw [ascB, List.all_eq_true] at hasc
      exact hasc i (List.mem_range.2 (by omega))
    refine (valueOf_mapPart d ih N b ps vL vK w hR (hm.mono (n' := 128) (by omega)) hkl (step_up hst) (fun i hi => ⟨(step_name (hst i hi)).1, by have := (step_name (hst i hi)).2; omega⟩) hc hN (by omega) (fun i hi => ⟨_, hgk i hi, hkid i hi⟩)).mono ?_
    rintro e w' ⟨uK, uL, rfl, Bk, Bl, hK, hL, hB, hnd, hb⟩
    exact ⟨_, _, _, _, _, rfl, Bk ++ Bl, (VOwn_succ _ _ _ _ _).2 ⟨rfl, rfl, [], Bk, Bl, tNil _, hK, hL, by simp, hnd⟩, hB, hb⟩

theorem valueOf_any (d : Nat) : ValAt d := by
  induction d with
  | zero => intro N p v deep w hp; exact hp.elim
  | succ d ih => exact valueOf_succ d ih
end Go.Proofs.Ytmdmiiikbdnioaa
/-
  ValGet of the program.
-/
namespace Go.Proofs.Ytmdmiiikbdnioaa
open Go.RowKit Go.Shelf
set_option linter.unusedVariables false
set_option linter.unusedSimpArgs false

/-- What ValGet leaves. -/
def GetEnd (d : Nat) (v : Vl (d + 1)) (key : List Int) (w : World) (e : Ending) (w' : World) : Prop :=
  Below w.heap.size w w' ∧ ((∃ (k : Nat) (hk : k < v.2.2.2.2.length), okB (d + 1) v = true ∧ v.1 = 5 ∧ findK v.2.2.2.1 key = k ∧ ∃ u0 u1 u2 u3 u4, e = .returned (.tuple #[.agg #[u0, u1, u2, u3, u4], .bool true]) ∧ ∃ B, VOwn w' d (u0, u1, u2, u3, u4) v.2.2.2.2[k] B ∧ ∀ b ∈ B, w.heap.size ≤ b ∧ b < w'.heap.size) ∨
    (¬ (okB (d + 1) v = true ∧ v.1 = 5 ∧ 0 ≤ findK v.2.2.2.1 key) ∧ e = .returned (.tuple #[.agg #[.int .i64 0, .int .i64 0, .slice none 0 0, .slice none 0 0, .slice none 0 0], .bool false])))

/-- What a map's part holds. -/
theorem mapPart_inv {R : Nat → Prop} {w : World} {d b : Nat} {v : Vl (d + 1)} (h : PSeg R w (d + 1) (.iface 78 (.agg #[.map (some b)])) v) (hk : v.1 = 5) :
    R b ∧ ∃ ps, w.ownsMap Try.prog 9 tokR b 64 (mapD v.2.2.2.1 ps v.2.2.2.2.length) ∧ ∀ i (h : i < v.2.2.2.2.length), PSeg R w d (ps.getD i .nilIface) (v.2.2.2.2[i]) := by
  rcases h with ⟨h, _⟩ | ⟨h, _⟩ | ⟨h, _⟩ | ⟨h, _⟩ | ⟨h, _⟩ | ⟨h, _⟩ | ⟨_, b', ps, e, hR, hm, hc⟩
  · omega
  · omega
  · omega
  · omega
  · omega
  · omega
  · simp at e
    subst e
    exact ⟨hR, ps, hm, hc⟩

/-- Found, or not. -/
theorem find_cases (ks : List (List Int)) (key : List Int) : (∃ k, k < ks.length ∧ ks.getD k [] = key ∧ (∀ i, i < k → ks.getD i [] ≠ key) ∧ findK ks key = k) ∨ ((∀ i, i < ks.length → ks.getD i [] ≠ key) ∧ findK ks key = -1) := by
  by_cases h : ∀ i, i < ks.length → ks.getD i [] ≠ key
  · exact .inr ⟨h, findK_no h⟩
  · have hex : ∃ i, i < ks.length ∧ ks.getD i [] = key := by
      simpa using h
    have hmin : ∀ n, (∃ i, i < n ∧ i < ks.length ∧ ks.getD i [] = key) → ∃ k, k < ks.length ∧ ks.getD k [] = key ∧ ∀ i, i < k → ks.getD i [] ≠ key := by
      intro n
      induction n with
      | zero => rintro ⟨i, h0, _⟩; omega
      | succ n ih =>
        rintro ⟨i, hi, hl, he⟩
        by_cases hlow : ∃ j, j < n ∧ j < ks.length ∧ ks.getD j [] = key
        · exact ih hlow
        · refine ⟨i, hl, he, fun j hj hje => hlow ⟨j, by omega, by omega, hje⟩⟩
    obtain ⟨i, hi, he⟩ := hex
    obtain ⟨k, h1, h2, h3⟩ := hmin (i + 1) ⟨i, by omega, hi, he⟩
    exact .inl ⟨k, h1, h2, h3, findK_at h1 h3 h2⟩
end Go.Proofs.Ytmdmiiikbdnioaa
/-
  The datum of a map of parts whose keys ascend, when one key is taken out of it, and the value that is left; no statement is proved here.
-/
namespace Go.Proofs.Ytmdmiiikbdnioaa
open Go.RowKit
set_option linter.unusedVariables false
set_option linter.unusedSimpArgs false

theorem getD_erase {α : Type} (l : List α) (k j : Nat) (x : α) : (l.eraseIdx k).getD j x = l.getD (if j < k then j else j + 1) x := by
  simp only [List.getD, List.getElem?_eraseIdx]
  split <;> rfl

theorem asc_ne {vK : List (List Int)} {n : Nat} (h : ∀ i, i < n → stepB vK i = true) {i j : Nat} (hi : i < n) (hj : j < n) (hne : i ≠ j) : vK.getD i [] ≠ vK.getD j [] := by
  intro e
  rcases Nat.lt_or_gt_of_ne hne with hl | hl
  · have := less_ne (asc_lt h j hj i hl); rw [e] at this; simp at this
  · have := less_ne (asc_lt h i hi j hl); rw [e] at this; simp at this

theorem rng_add (a b : Nat) : List.range (a + b) = List.range a ++ (List.range b).map (fun x => a + x) := List.range_add

theorem range_but (k m : Nat) : (List.range (k + (1 + m))).filter (fun i => !decide (i = k)) = List.range k ++ (List.range m).map (fun i => k + (1 + i)) := by
  rw [rng_add k (1 + m), List.filter_append, rng_add 1 m, List.map_append, List.filter_append]
  have h0 : (List.range k).filter (fun i => !decide (i = k)) = List.range k := by
    rw [List.filter_eq_self]; intro i hi; have := List.mem_range.1 hi; simp; omega
  have h1 : ((List.range 1).map (fun x => k + x)).filter (fun i => !decide (i = k)) = [] := by simp [List.range_succ]
  have h2 : (((List.range m).map (fun x => 1 + x)).map (fun x => k + x)).filter (fun i => !decide (i = k)) = (List.range m).map (fun i => k + (1 + i)) := by
    rw [List.filter_eq_self.2, List.map_map]
    · rfl
    · intro i hi; simp only [List.mem_map] at hi; obtain ⟨a, ⟨b, _, rfl⟩, rfl⟩ := hi; simp
  rw [h0, h1, h2, List.nil_append]

/-- The k-th key is taken out. -/
theorem del_ent {vK : List (List Int)} {ps : List Value} {n k : Nat} {key : List Int} (hy : ∀ y ∈ key, Byt y) (hb : ∀ i, i < n → ∀ x ∈ vK.getD i [], Byt x) (hk : k < n) (hu : ∀ i, i < n → i ≠ k → vK.getD i [] ≠ key) (he : vK.getD k [] = key) :
    (DataW.map (entF vK ps n)).del (.string (u8s key)) = .map (entF (vK.eraseIdx k) (ps.eraseIdx k) (n - 1)) := by
  obtain ⟨m, rfl⟩ : ∃ m, n = k + (1 + m) := ⟨n - 1 - k, by omega⟩
  have e1 : k + (1 + m) - 1 = k + m := by omega
  rw [e1]
  show DataW.map ((entF vK ps (k + (1 + m))).filter fun p => !p.1.sameKey (.string (u8s key))) = _
  congr 1
  have hs : ∀ i, i < k + (1 + m) → (Lit.string (u8s (vK.getD i []))).sameKey (.string (u8s key)) = decide (i = k) := by
    intro i hi
    rw [same_u8s (hb i hi) hy]
    by_cases h : i = k
    · subst h; exact (decide_eq_true he).trans (decide_eq_true rfl).symm
    · exact (decide_eq_false (hu i hi h)).trans (decide_eq_false h).symm
  unfold entF
  rw [List.filter_map, List.filter_congr (q := fun i => !decide (i = k)) (fun i hi => by simp only [Function.comp]; rw [hs i (List.mem_range.1 hi)]), range_but, rng_add k m, List.map_append, List.map_append, List.map_map, List.map_map]
  congr 1
  · refine List.map_congr_left fun i hi => ?_
    have := List.mem_range.1 hi
    rw [getD_erase, getD_erase, if_pos this]
  · refine List.map_congr_left fun i hi => ?_
    simp only [Function.comp]
    rw [getD_erase, getD_erase, if_neg (by omega), show k + i + 1 = k + (1 + i) by omega]

/-- A key that is not there is taken out: nothing turns. -/
theorem del_none {vK : List (List Int)} {ps : List Value} {n : Nat} {key : List Int} (hy : ∀ y ∈ key, Byt y) (hb : ∀ i, i < n → ∀ x ∈ vK.getD i [], Byt x) (hu : ∀ i, i < n → vK.getD i [] ≠ key) :
    (DataW.map (entF vK ps n)).del (.string (u8s key)) = .map (entF vK ps n) := by
  show DataW.map ((entF vK ps n).filter fun p => !p.1.sameKey (.string (u8s key))) = _
  congr 1
  rw [List.filter_eq_self]
  intro p hp
  simp only [entF, List.mem_map, List.mem_range] at hp
  obtain ⟨i, hi, rfl⟩ := hp
  rw [same_u8s (hb i hi) hy]
  simpa using hu i hi

theorem asc_erase {vK : List (List Int)} {n k : Nat} (h : ∀ i, i < n → stepB vK i = true) (hk : k < n) : ∀ i, i < n - 1 → stepB (vK.eraseIdx k) i = true := by
  intro i hi
  simp only [stepB, getD_erase, Bool.and_eq_true, Bool.or_eq_true, beq_iff_eq]
  have hn : ∀ j, j < n → nameB (vK.getD j []) = true := fun j hj => by have := h j hj; simp only [stepB, Bool.and_eq_true] at this; exact this.1
  refine ⟨hn _ (by split <;> omega), ?_⟩
  by_cases h0 : i = 0
  · exact .inl h0
  · exact .inr (asc_lt h _ (by split <;> omega) _ (by split <;> split <;> omega))

/-- The map without its k-th key. -/
def dropV (d : Nat) (v : Vl (d + 1)) (k : Nat) : Vl (d + 1) := ((5 : Int), (0 : Int), ([] : List Int), v.2.2.2.1.eraseIdx k, v.2.2.2.2.eraseIdx k)

theorem sum_erase {α : Type} (f : α → Nat) : ∀ (l : List α) (k : Nat), ((l.eraseIdx k).map f).sum ≤ (l.map f).sum
  | [], k => by simp
  | x :: l, 0 => by simp
  | x :: l, k + 1 => by have := sum_erase f l k; simp; omega

theorem drop_sz (d : Nat) (v : Vl (d + 1)) (k : Nat) : szV (d + 1) (dropV d v k) ≤ szV (d + 1) v := by
  have h1 : szV (d + 1) (dropV d v k) = 0 + szK (v.2.2.2.1.eraseIdx k) + ((v.2.2.2.2.eraseIdx k).length + ((v.2.2.2.2.eraseIdx k).map (szV d)).sum) := rfl
  have h2 : szV (d + 1) v = szT v.2.2.1 + szK v.2.2.2.1 + (v.2.2.2.2.length + (v.2.2.2.2.map (szV d)).sum) := rfl
  have h3 := sum_erase (szV d) v.2.2.2.2 k
  have h4 := sum_erase List.length v.2.2.2.1 k
  have h5 : (v.2.2.2.1.eraseIdx k).length ≤ v.2.2.2.1.length := List.length_eraseIdx_le _ _
  have h6 : (v.2.2.2.2.eraseIdx k).length ≤ v.2.2.2.2.length := List.length_eraseIdx_le _ _
  have h7 : ∀ l : List (List Int), szK l = l.length + (l.map List.length).sum := fun l => rfl
  rw [h1, h2, h7, h7]
  omega

theorem drop_parts (d : Nat) (v : Vl (d + 1)) (k : Nat) : partsV (d + 1) (dropV d v k) ≤ partsV (d + 1) v := by
  have h1 : partsV (d + 1) (dropV d v k) = 1 + ((v.2.2.2.2.eraseIdx k).map (partsV d)).sum := rfl
  have h2 : partsV (d + 1) v = 1 + (v.2.2.2.2.map (partsV d)).sum := rfl
  have h3 := sum_erase (partsV d) v.2.2.2.2 k
  omega

theorem drop_good {d : Nat} {vn : Int} {vs : List Int} {vK : List (List Int)} {vL : List (Vl d)} {deep k : Nat} (h : goodB (d + 1) (5, vn, vs, vK, vL) deep = true) (hk : k < vL.length) : goodB (d + 1) (dropV d (5, vn, vs, vK, vL) k) deep = true := by
  obtain ⟨h1, h2, h3⟩ := (good_succ _ _ _ _ _ _ _).1 h
  obtain ⟨hl, ha⟩ := shape_mapB h2
  refine (good_succ _ _ _ _ _ _ _).2 ⟨h1, ?_, fun j hj => ?_⟩
  · have hst : ∀ i, i < vK.length → stepB vK i = true := fun i hi => ascB_at ha hi
    have hl1 : (vK.eraseIdx k).length = vK.length - 1 := List.length_eraseIdx_of_lt (by omega)
    have hl2 : (vL.eraseIdx k).length = vL.length - 1 := List.length_eraseIdx_of_lt hk
    have ha' : ascB (vK.eraseIdx k) = true := ascB_yes (fun i hi => asc_erase hst (by omega) i (by omega))
    simp only [shapeB, Bool.and_eq_true] at h2 ⊢
    refine ⟨?_, ?_⟩
    · have := h2.1
      simp [bareB] at this ⊢
    · simp [ha', hl1, hl2, hl]
  · have hj' : j < (vL.eraseIdx k).length := hj
    show goodB d (vL.eraseIdx k)[j] (deep + 1) = true
    rw [List.getElem_eraseIdx]
    split
    · exact h3 _ _
    · exact h3 _ _
end Go.Proofs.Ytmdmiiikbdnioaa
/-
  A key put into a map whose keys ascend: where it comes, and the datum of a map of parts behind it; no statement is proved here.
-/
namespace Go.Proofs.Ytmdmiiikbdnioaa
open Go.RowKit
set_option linter.unusedVariables false
set_option linter.unusedSimpArgs false

/-- How many keys are ahead of a key. -/
def posK (ks : List (List Int)) (key : List Int) : Nat := (ks.takeWhile fun k => ltS k key).length
/-- .. and how many of them and it. -/
def skipK (ks : List (List Int)) (key : List Int) : Nat := if posK ks key < ks.length ∧ ks.getD (posK ks key) [] = key then posK ks key + 1 else posK ks key

theorem posK_le (ks : List (List Int)) (key : List Int) : posK ks key ≤ ks.length := List.takeWhile_prefix _ |>.length_le
theorem skipK_le (ks : List (List Int)) (key : List Int) : skipK ks key ≤ ks.length := by
  unfold skipK
  have := posK_le ks key
  split <;> omega
theorem skipK_cases (ks : List (List Int)) (key : List Int) : (skipK ks key = posK ks key + 1 ∧ posK ks key < ks.length ∧ ks.getD (posK ks key) [] = key) ∨ (skipK ks key = posK ks key ∧ ¬ (posK ks key < ks.length ∧ ks.getD (posK ks key) [] = key)) := by
  unfold skipK
  by_cases h : posK ks key < ks.length ∧ ks.getD (posK ks key) [] = key
  · exact .inl ⟨if_pos h, h⟩
  · exact .inr ⟨if_neg h, h⟩

theorem pos_lt : ∀ (ks : List (List Int)) (key : List Int) (i : Nat), i < posK ks key → ltS (ks.getD i []) key = true
  | [], key, i, h => by simp [posK] at h
  | k :: ks, key, i, h => by
    by_cases hk : ltS k key = true
    · cases i with
      | zero => simpa using hk
      | succ i =>
        have : i < posK ks key := by simpa [posK, List.takeWhile_cons, hk] using h
        simpa using pos_lt ks key i this
    · simp [posK, List.takeWhile_cons, hk] at h
theorem pos_ge : ∀ (ks : List (List Int)) (key : List Int), posK ks key < ks.length → ltS (ks.getD (posK ks key) []) key = false
  | [], key, h => by simp at h
  | k :: ks, key, h => by
    by_cases hk : ltS k key = true
    · have e : posK (k :: ks) key = posK ks key + 1 := by simp [posK, List.takeWhile_cons, hk]
      rw [e] at h ⊢
      simpa using pos_ge ks key (by simpa using h)
    · have e : posK (k :: ks) key = 0 := by simp [posK, List.takeWhile_cons, hk]
      rw [e]
      simpa using hk

/-- Keys behind the place are behind the key. -/
theorem skip_gt {ks : List (List Int)} {key : List Int} (hu : ∀ i, i < ks.length → upB ks i = true) (hb : ∀ i, i < ks.length → ∀ x ∈ ks.getD i [], Byt x) (hy : ∀ y ∈ key, Byt y) {i : Nat} (h1 : skipK ks key ≤ i) (h2 : i < ks.length) : ltS key (ks.getD i []) = true := by
  have hp : posK ks key < ks.length := by
    rcases skipK_cases ks key with ⟨_, h, _⟩ | ⟨h, _⟩ <;> omega
  have hge := pos_ge ks key hp
  rcases skipK_cases ks key with ⟨hs, _, he⟩ | ⟨hs, hn⟩
  · have := asc_ltU hu i h2 (posK ks key) (by omega)
    rw [he] at this
    exact this
  · have hlt : ltS key (ks.getD (posK ks key) []) = true := by
      cases h : ltS key (ks.getD (posK ks key) []) with
      | true => rfl
      | false =>
        have e := less_total _ _ hge h
        exfalso
        apply hn
        refine ⟨hp, ?_⟩
        have h3 := strOf_eq (hb _ hp) hy
        rw [strOf_list, strOf_list, e] at h3
        simpa using h3.symm
    by_cases e : i = posK ks key
    · rw [e]; exact hlt
    · exact less_trans _ _ _ hlt (asc_ltU hu i h2 (posK ks key) (by omega))

/-- A list with x at the key's place. -/
def putL {α : Type} (ks : List (List Int)) (key : List Int) (l : List α) (x : α) : List α := l.take (posK ks key) ++ x :: l.drop (skipK ks key)
/-- The keys with the key. -/
def setK (ks : List (List Int)) (key : List Int) : List (List Int) := putL ks key ks key
/-- The map with x under the key. -/
def setV (d : Nat) (v : Vl (d + 1)) (key : List Int) (x : Vl d) : Vl (d + 1) := ((5 : Int), (0 : Int), ([] : List Int), setK v.2.2.2.1 key, putL v.2.2.2.1 key v.2.2.2.2 x)

theorem length_putL {α : Type} {ks : List (List Int)} {key : List Int} {l : List α} (x : α) (h : l.length = ks.length) : (putL ks key l x).length = posK ks key + 1 + (ks.length - skipK ks key) := by
  have := posK_le ks key
  simp [putL, h]
  omega
theorem putL_lt {α : Type} {ks : List (List Int)} {key : List Int} {l : List α} (x z : α) (h : l.length = ks.length) {j : Nat} (hj : j < posK ks key) : (putL ks key l x).getD j z = l.getD j z := by
  have := posK_le ks key
  simp only [putL, List.getD_eq_getElem?_getD]
  rw [List.getElem?_append_left (by simp; omega), List.getElem?_take_of_lt hj]
theorem putL_at {α : Type} {ks : List (List Int)} {key : List Int} {l : List α} (x z : α) (h : l.length = ks.length) : (putL ks key l x).getD (posK ks key) z = x := by
  have := posK_le ks key
  have hl : (l.take (posK ks key)).length = posK ks key := by simp; omega
  simp only [putL, List.getD_eq_getElem?_getD]
  rw [List.getElem?_append_right (by omega), hl]
  simp
theorem putL_gt {α : Type} {ks : List (List Int)} {key : List Int} {l : List α} (x z : α) (h : l.length = ks.length) {i : Nat} : (putL ks key l x).getD (posK ks key + 1 + i) z = l.getD (skipK ks key + i) z := by
  have := posK_le ks key
  have hl : (l.take (posK ks key)).length = posK ks key := by simp; omega
  simp only [putL, List.getD_eq_getElem?_getD]
  rw [List.getElem?_append_right (by omega), hl, show posK ks key + 1 + i - posK ks key = i + 1 by omega, List.getElem?_cons_succ, List.getElem?_drop]

theorem set_up {ks : List (List Int)} {key : List Int} (hu : ∀ i, i < ks.length → upB ks i = true) (hb : ∀ i, i < ks.length → ∀ x ∈ ks.getD i [], Byt x) (hy : ∀ y ∈ key, Byt y) : ∀ i, i < (setK ks key).length → upB (setK ks key) i = true := by
  intro i hi
  rw [setK, length_putL _ rfl] at hi
  have hpl := posK_le ks key
  have hsl := skipK_le ks key
  unfold upB
  rw [Bool.or_eq_true, beq_iff_eq]
  by_cases h0 : i = 0
  · exact .inl h0
  refine .inr ?_
  rcases Nat.lt_trichotomy i (posK ks key) with hlt | heq | hgt
  · rw [setK, putL_lt _ _ rfl hlt, putL_lt _ _ rfl (by omega)]
    have := hu i (by omega)
    simpa [upB, h0] using this
  · rw [heq, setK, putL_at _ _ rfl, putL_lt _ _ rfl (by omega)]
    exact pos_lt ks key _ (by omega)
  · obtain ⟨j, rfl⟩ : ∃ j, i = posK ks key + 1 + j := ⟨i - posK ks key - 1, by omega⟩
    rw [setK, putL_gt _ _ rfl]
    have hj : skipK ks key + j < ks.length := by omega
    cases j with
    | zero =>
      rw [show posK ks key + 1 + 0 - 1 = posK ks key by omega, putL_at _ _ rfl]
      exact skip_gt hu hb hy (Nat.le_refl _) hj
    | succ j =>
      rw [show posK ks key + 1 + (j + 1) - 1 = posK ks key + 1 + j by omega, putL_gt _ _ rfl]
      have := hu (skipK ks key + (j + 1)) hj
      have e : ¬ skipK ks key + (j + 1) = 0 := by omega
      simpa [upB, e] using this

theorem set_byt {ks : List (List Int)} {key : List Int} (hb : ∀ i, i < ks.length → ∀ x ∈ ks.getD i [], Byt x) (hy : ∀ y ∈ key, Byt y) (B : Nat) (hl : ∀ i, i < ks.length → (ks.getD i []).length ≤ B) (hk : key.length ≤ B) : ∀ i, i < (setK ks key).length → (∀ x ∈ (setK ks key).getD i [], Byt x) ∧ ((setK ks key).getD i []).length ≤ B := by
  intro i hi
  rw [setK, length_putL _ rfl] at hi
  have hpl := posK_le ks key
  have hsl := skipK_le ks key
  rcases Nat.lt_trichotomy i (posK ks key) with hlt | heq | hgt
  · rw [setK, putL_lt _ _ rfl hlt]
    exact ⟨hb i (by omega), hl i (by omega)⟩
  · rw [heq, setK, putL_at _ _ rfl]
    exact ⟨hy, hk⟩
  · obtain ⟨j, rfl⟩ : ∃ j, i = posK ks key + 1 + j := ⟨i - posK ks key - 1, by omega⟩
    rw [setK, putL_gt _ _ rfl]
    exact ⟨hb _ (by omega), hl _ (by omega)⟩

/-- The parts of a map as a list of as many. -/
def padP (ps : List Value) (n : Nat) : List Value := (List.range n).map fun i => ps.getD i .nilIface
theorem length_padP (ps : List Value) (n : Nat) : (padP ps n).length = n := by simp [padP]
theorem padP_at (ps : List Value) {n i : Nat} (h : i < n) : (padP ps n).getD i .nilIface = ps.getD i .nilIface := by simp [padP, List.getD_eq_getElem?_getD, h]
theorem ent_pad (ks : List (List Int)) (ps : List Value) (n : Nat) : entF ks ps n = entF ks (padP ps n) n := by
  unfold entF
  refine List.map_congr_left fun i hi => ?_
  rw [padP_at ps (List.mem_range.1 hi)]

theorem insert_mid {H : Type} (x : Go.Lit × DataW H) : ∀ (A B : List (Go.Lit × DataW H)), (∀ y ∈ A, x.1.before y.1 = false) → (∀ y ∈ B, x.1.before y.1 = true) → DataW.insert x (A ++ B) = A ++ x :: B
  | [], [], _, _ => rfl
  | [], y :: r, _, h => by
    have h1 := h y (by simp)
    show DataW.insert x (y :: r) = x :: y :: r
    unfold DataW.insert
    rw [h1]
    rfl
  | y :: A, B, h, h' => by
    have h1 := h y (by simp)
    have ih := insert_mid x A B (fun z hz => h z (by simp [hz])) h'
    show DataW.insert x (y :: (A ++ B)) = y :: (A ++ x :: B)
    unfold DataW.insert
    rw [h1, ih]
    rfl

theorem ent_take (ks : List (List Int)) (ps : List Value) {n p : Nat} (h : p ≤ n) : (entF ks ps n).take p = entF ks ps p := by
  unfold entF
  rw [← List.map_take, List.take_range, Nat.min_eq_left h]
theorem ent_at (ks : List (List Int)) (ps : List Value) {n i : Nat} (h : i < n) : (entF ks ps n)[i]? = some (.string (u8s (ks.getD i [])), .held (ps.getD i .nilIface)) := by simp [entF, h]
theorem length_entF (ks : List (List Int)) (ps : List Value) (n : Nat) : (entF ks ps n).length = n := by simp [entF]

theorem before_u8s (a b : List Int) : (Lit.string (u8s a)).before (.string (u8s b)) = ltS a b := before_eq _ _

/-- A key is put. -/
theorem put_ent {ks : List (List Int)} {ps : List Value} {key : List Int} {p : Value} (hu : ∀ i, i < ks.length → upB ks i = true) (hb : ∀ i, i < ks.length → ∀ x ∈ ks.getD i [], Byt x) (hy : ∀ y ∈ key, Byt y) :
    (DataW.map (entF ks ps ks.length)).put (.string (u8s key)) (.held p) = .map (entF (setK ks key) (putL ks key (padP ps ks.length) p) (setK ks key).length) := by
  have hpl := posK_le ks key
  have hsl := skipK_le ks key
  have hln : (setK ks key).length = posK ks key + 1 + (ks.length - skipK ks key) := length_putL _ rfl
  have hlp := length_padP ps ks.length
  rw [ent_pad]
  generalize hq : padP ps ks.length = qs at *
  show DataW.map (DataW.insert (.string (u8s key), .held p) ((entF ks qs ks.length).filter fun q => !q.1.sameKey (.string (u8s key)))) = _
  congr 1
  have hA : ∀ y ∈ (entF ks qs ks.length).take (posK ks key), ∃ i, i < posK ks key ∧ y = (.string (u8s (ks.getD i [])), .held (qs.getD i .nilIface)) := by
    intro y hy'
    rw [ent_take ks qs hpl] at hy'
    simp only [entF, List.mem_map, List.mem_range] at hy'
    obtain ⟨i, hi, rfl⟩ := hy'
    exact ⟨i, hi, rfl⟩
  have hB : ∀ y ∈ (entF ks qs ks.length).drop (skipK ks key), ∃ i, skipK ks key ≤ i ∧ i < ks.length ∧ y = (.string (u8s (ks.getD i [])), .held (qs.getD i .nilIface)) := by
    intro y hy'
    obtain ⟨j, hj⟩ := List.mem_iff_getElem?.1 hy'
    rw [List.getElem?_drop] at hj
    have hl := (List.getElem?_eq_some_iff.1 hj).1
    rw [length_entF] at hl
    rw [ent_at ks qs hl] at hj
    exact ⟨_, by omega, hl, by simpa using hj.symm⟩
  have hf : (entF ks qs ks.length).filter (fun q => !q.1.sameKey (.string (u8s key))) = (entF ks qs ks.length).take (posK ks key) ++ (entF ks qs ks.length).drop (skipK ks key) := by
    have hAf : ((entF ks qs ks.length).take (posK ks key)).filter (fun q => !q.1.sameKey (.string (u8s key))) = (entF ks qs ks.length).take (posK ks key) := by
      rw [List.filter_eq_self]
      intro y hy'
      obtain ⟨i, hi, rfl⟩ := hA y hy'
      have := less_ne (pos_lt ks key i hi)
      simpa [Lit.sameKey] using this
    have hBf : ((entF ks qs ks.length).drop (skipK ks key)).filter (fun q => !q.1.sameKey (.string (u8s key))) = (entF ks qs ks.length).drop (skipK ks key) := by
      rw [List.filter_eq_self]
      intro y hy'
      obtain ⟨i, h1, h2, rfl⟩ := hB y hy'
      have := less_ne (skip_gt hu hb hy h1 h2)
      have h3 : ¬ u8s (ks.getD i []) = u8s key := fun e => by rw [e] at this; simp at this
      simpa [Lit.sameKey] using h3
    rcases skipK_cases ks key with ⟨hs, hlt, he⟩ | ⟨hs, hn⟩
    · have e1 : entF ks qs ks.length = (entF ks qs ks.length).take (posK ks key) ++ ((Lit.string (u8s (ks.getD (posK ks key) [])), DataW.held (qs.getD (posK ks key) .nilIface)) :: (entF ks qs ks.length).drop (skipK ks key)) := by
        conv => lhs; rw [← List.take_append_drop (posK ks key) (entF ks qs ks.length)]
        congr 1
        rw [hs, List.drop_eq_getElem_cons (by rw [length_entF]; exact hlt)]
        congr 1
        have := ent_at ks qs hlt
        rw [List.getElem?_eq_getElem (by rw [length_entF]; exact hlt)] at this
        simpa using this
      conv => lhs; rw [e1]
      rw [List.filter_append, hAf, List.filter_cons]
      have hsame : (Lit.string (u8s (ks.getD (posK ks key) []))).sameKey (.string (u8s key)) = true := by rw [he]; simp [Lit.sameKey]
      simp only [hsame, Bool.not_true, Bool.false_eq_true, if_false]
      rw [hBf]
    · have e1 : entF ks qs ks.length = (entF ks qs ks.length).take (posK ks key) ++ (entF ks qs ks.length).drop (skipK ks key) := by
        rw [hs, List.take_append_drop]
      conv => lhs; rw [e1]
      rw [List.filter_append, hAf, hBf]
  rw [hf, insert_mid]
  · apply List.ext_getElem?
    intro j
    rcases Nat.lt_trichotomy j (posK ks key) with hlt | heq | hgt
    · rw [List.getElem?_append_left (by simp [length_entF]; omega), List.getElem?_take_of_lt hlt, ent_at ks qs (by omega), ent_at _ _ (by omega), setK, putL_lt _ _ rfl hlt, putL_lt _ _ hlp hlt]
    · subst heq
      rw [List.getElem?_append_right (by simp [length_entF]; omega)]
      have e : ((entF ks qs ks.length).take (posK ks key)).length = posK ks key := by simp [length_entF]; omega
      rw [e, Nat.sub_self, List.getElem?_cons_zero, ent_at _ _ (by omega), setK, putL_at _ _ rfl, putL_at _ _ hlp]
    · obtain ⟨i, rfl⟩ : ∃ i, j = posK ks key + 1 + i := ⟨j - posK ks key - 1, by omega⟩
      have e : ((entF ks qs ks.length).take (posK ks key)).length = posK ks key := by simp [length_entF]; omega
      rw [List.getElem?_append_right (by omega), e, show posK ks key + 1 + i - posK ks key = i + 1 by omega, List.getElem?_cons_succ, List.getElem?_drop]
      by_cases hi : skipK ks key + i < ks.length
      · rw [ent_at ks qs hi, ent_at _ _ (by omega), setK, putL_gt _ _ rfl, putL_gt _ _ hlp]
      · rw [List.getElem?_eq_none (by rw [length_entF]; omega), List.getElem?_eq_none (by rw [length_entF]; omega)]
  · intro y hy'
    obtain ⟨i, hi, rfl⟩ := hA y hy'
    show (Lit.string (u8s key)).before (.string (u8s (ks.getD i []))) = false
    rw [before_u8s]
    exact less_asymm (pos_lt ks key i hi)
  · intro y hy'
    obtain ⟨i, h1, h2, rfl⟩ := hB y hy'
    show (Lit.string (u8s key)).before (.string (u8s (ks.getD i []))) = true
    rw [before_u8s]
    exact skip_gt hu hb hy h1 h2
end Go.Proofs.Ytmdmiiikbdnioaa
/-
  What ValSet answers, and how great it can be; no statement is proved here.
-/
namespace Go.Proofs.Ytmdmiiikbdnioaa
open Go.RowKit
set_option linter.unusedVariables false
set_option linter.unusedSimpArgs false

theorem sum_keys : ∀ (ks : List (List Int)), (∀ k ∈ ks, k.length ≤ 8) → (ks.map List.length).sum ≤ 8 * ks.length
  | [], _ => by simp
  | k :: ks, h => by
    have h1 := h k (by simp)
    have h2 := sum_keys ks (fun z hz => h z (by simp [hz]))
    simp only [List.map_cons, List.sum_cons, List.length_cons]
    omega

theorem sum_kids {d : Nat} : ∀ (l : List (Vl d)), (∀ v ∈ l, szV d v + 10 ≤ 30 * partsV d v) → (l.map (szV d)).sum + 10 * l.length ≤ 30 * (l.map (partsV d)).sum
  | [], _ => by simp
  | v :: l, h => by
    have h1 := h v (by simp)
    have h2 := sum_kids l (fun z hz => h z (by simp [hz]))
    simp only [List.map_cons, List.sum_cons, List.length_cons]
    omega

/-- A value that may be is small. -/
theorem good_sz : ∀ (d : Nat) (v : Vl d) (deep : Nat), goodB d v deep = true → szV d v + 10 ≤ 30 * partsV d v
  | 0, v, _, h => by simp [goodB] at h
  | d + 1, (vk, vn, vs, vK, vL), deep, h => by
    obtain ⟨_, hsh, hk⟩ := (good_succ _ _ _ _ _ _ _).1 h
    have hkids := sum_kids vL (fun v hv => by
      obtain ⟨i, hi, rfl⟩ := List.mem_iff_getElem.1 hv
      exact good_sz d _ _ (hk i hi))
    have h1 : szV (d + 1) (vk, vn, vs, vK, vL) = vs.length + (vK.length + (vK.map List.length).sum) + (vL.length + (vL.map (szV d)).sum) := rfl
    have h2 : partsV (d + 1) (vk, vn, vs, vK, vL) = 1 + (vL.map (partsV d)).sum := rfl
    obtain ⟨_, z2, z3, _⟩ := shape_zero hsh
    have hs : vs.length ≤ 20 := by
      rcases z2 with rfl | rfl
      · exact (textB_byt (shape_text hsh)).2
      · simp
    have hK : vK.length + (vK.map List.length).sum ≤ 9 * vL.length := by
      rcases z3 with rfl | rfl
      · obtain ⟨hl, ha⟩ := shape_mapB hsh
        have := sum_keys vK (fun k hk' => by
          obtain ⟨i, hi, rfl⟩ := List.mem_iff_getElem.1 hk'
          have h3 := ascB_at ha hi
          simp only [stepB, Bool.and_eq_true] at h3
          have h4 := h3.1
          simp only [nameB, Bool.and_eq_true, decide_eq_true_eq] at h4
          have e : vK.getD i [] = vK[i] := by simp [List.getD_eq_getElem?_getD, hi]
          rw [e] at h4
          omega)
        omega
      · simp
    rw [h1, h2]
    omega

theorem ok_sz {d : Nat} {v : Vl d} (h : okB d v = true) : szV d v ≤ 1200 := by
  simp only [okB, Bool.and_eq_true, decide_eq_true_eq] at h
  have := good_sz d v 1 h.1
  omega

/-- What ValSet answers. -/
def setA (d : Nat) (v : Vl (d + 1)) (key : List Int) (x : Vl d) : Vl (d + 1) := if okB (d + 1) v = true ∧ v.1 = 5 ∧ okB d x = true then (if okB (d + 1) (setV d v key x) = true then setV d v key x else v) else vNil d
def setF (d : Nat) (v : Vl (d + 1)) (key : List Int) (x : Vl d) : Bool := decide (okB (d + 1) v = true ∧ v.1 = 5 ∧ okB d x = true ∧ okB (d + 1) (setV d v key x) = true)

theorem setA_yes {d : Nat} {v : Vl (d + 1)} {key : List Int} {x : Vl d} (h1 : okB (d + 1) v = true) (h2 : v.1 = 5) (h3 : okB d x = true) (h4 : okB (d + 1) (setV d v key x) = true) : setA d v key x = setV d v key x ∧ setF d v key x = true :=
  ⟨(if_pos ⟨h1, h2, h3⟩).trans (if_pos h4), decide_eq_true ⟨h1, h2, h3, h4⟩⟩
theorem setA_back {d : Nat} {v : Vl (d + 1)} {key : List Int} {x : Vl d} (h1 : okB (d + 1) v = true) (h2 : v.1 = 5) (h3 : okB d x = true) (h4 : ¬ okB (d + 1) (setV d v key x) = true) : setA d v key x = v ∧ setF d v key x = false :=
  ⟨(if_pos ⟨h1, h2, h3⟩).trans (if_neg h4), decide_eq_false fun h => h4 h.2.2.2⟩
theorem setA_no {d : Nat} {v : Vl (d + 1)} {key : List Int} {x : Vl d} (h : ¬ (okB (d + 1) v = true ∧ v.1 = 5 ∧ okB d x = true)) : setA d v key x = vNil d ∧ setF d v key x = false :=
  ⟨if_neg h, decide_eq_false fun h' => h ⟨h'.1, h'.2.1, h'.2.2.1⟩⟩

theorem setA_sz (d : Nat) (v : Vl (d + 1)) (key : List Int) (x : Vl d) : szV (d + 1) (setA d v key x) ≤ 1200 := by
  by_cases h : okB (d + 1) v = true ∧ v.1 = 5 ∧ okB d x = true
  · by_cases h4 : okB (d + 1) (setV d v key x) = true
    · rw [(setA_yes h.1 h.2.1 h.2.2 h4).1]; exact ok_sz h4
    · rw [(setA_back h.1 h.2.1 h.2.2 h4).1]; exact ok_sz h.1
  · rw [(setA_no h).1, sz_vNil]; omega

/-- Keys of a map that may be. -/
theorem ok_keys {d : Nat} {vn : Int} {vs : List Int} {vK : List (List Int)} {vL : List (Vl d)} (h : okB (d + 1) (5, vn, vs, vK, vL) = true) :
    vK.length = vL.length ∧ vL.length ≤ 40 ∧ (∀ i, i < vK.length → upB vK i = true) ∧ (∀ i, i < vK.length → ∀ y ∈ vK.getD i [], Byt y) ∧ (∀ i, i < vK.length → (vK.getD i []).length ≤ 1000) := by
  simp only [okB, Bool.and_eq_true, decide_eq_true_eq] at h
  obtain ⟨_, hsh, hgk⟩ := (good_succ _ _ _ _ _ _ _).1 h.1
  obtain ⟨hkl, hasc⟩ := shape_mapB hsh
  have hst : ∀ i, i < vK.length → stepB vK i = true := fun i hi => ascB_at hasc hi
  have hlen : vL.length ≤ 40 := by
    cases d with
    | zero =>
      cases vL with
      | nil => simp
      | cons x r => have := hgk 0 (by simp); exact absurd this (by simp [goodB])
    | succ d => exact parts_many h.2
  exact ⟨hkl, hlen, step_up hst, fun i hi => (step_name (hst i hi)).1, fun i hi => (step_name (hst i hi)).2⟩
end Go.Proofs.Ytmdmiiikbdnioaa
