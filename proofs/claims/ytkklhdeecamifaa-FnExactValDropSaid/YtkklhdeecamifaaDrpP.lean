/-
  A part of a value holds no map that holds the part: what is turned in the map's own block leaves its parts as they were; no statement is proved here.
-/
import Derived.Test.YtkklhdeecamifaaDrpD
namespace Go.Proofs.Ytkklhdeecamifaa
open Go.RowKit
set_option linter.unusedVariables false
set_option linter.unusedSimpArgs false

theorem owns_same {w : World} {b n n' : Nat} {D D' : DataW Value} (h : w.ownsMap Try.prog 9 tokR b n D) (h' : w.ownsMap Try.prog 9 tokR b n' D') : D = D' := by
  obtain ⟨es, cl, hb, _, _, rfl⟩ := h
  obtain ⟨es', cl', hb', _, _, rfl⟩ := h'
  rw [hb] at hb'
  simp only [Option.some.injEq, Obj.map.injEq] at hb'
  rw [hb'.1]

theorem ent_inj {vK vK' : List (List Int)} {ps ps' : List Value} {n n' : Nat} (h : DataW.map (entF vK ps n) = DataW.map (entF vK' ps' n')) : n = n' ∧ ∀ i, i < n → ps.getD i .nilIface = ps'.getD i .nilIface := by
  have h1 : entF vK ps n = entF vK' ps' n' := by injection h
  have hn : n = n' := by have := congrArg List.length h1; simpa [entF] using this
  subst hn
  refine ⟨rfl, fun i hi => ?_⟩
  have h2 := congrArg (fun l => l[i]?) h1
  simp only [entF, List.getElem?_map, List.getElem?_range hi, Option.map_some, Option.some.injEq, Prod.mk.injEq, DataW.held.injEq] at h2
  exact h2.2

theorem sum_same {α β : Type} {f : α → Nat} {g : β → Nat} {l : List α} {l' : List β} (hl : l.length = l'.length) (h : ∀ i (h : i < l.length) (h' : i < l'.length), f l[i] = g l'[i]) : (l.map f).sum = (l'.map g).sum := by
  congr 1
  refine List.ext_getElem (by simpa using hl) fun i h1 h2 => ?_
  simp only [List.getElem_map]
  exact h i (by simpa using h1) (by simpa using h2)

theorem sum_mem {α : Type} (f : α → Nat) : ∀ (l : List α) (i : Nat) (h : i < l.length), f l[i] ≤ (l.map f).sum
  | x :: l, 0, _ => by simp
  | x :: l, i + 1, h => by have := sum_mem f l i (by simpa using h); simp; omega

theorem kid_lt {d : Nat} (v : Vl (d + 1)) (i : Nat) (h : i < v.2.2.2.2.length) : partsV d v.2.2.2.2[i] < partsV (d + 1) v := by
  have h1 := sum_mem (partsV d) v.2.2.2.2 i h
  have h2 : partsV (d + 1) v = 1 + (v.2.2.2.2.map (partsV d)).sum := rfl
  omega

/-- A part: without parts of its own, a list, or a map. -/
theorem PSeg.kinds {R : Nat → Prop} {w : World} {d deep : Nat} {p : Value} {vk vn : Int} {vs : List Int} {vK : List (List Int)} {vL : List (Vl d)} (h : PSeg R w (d + 1) p (vk, vn, vs, vK, vL)) (hg : goodB (d + 1) (vk, vn, vs, vK, vL) deep = true) :
    (vL = [] ∧ (∀ x, p ≠ .iface 76 x) ∧ ∀ x, p ≠ .iface 53 x) ∨
    (∃ a cap, p = .iface 76 (.agg #[.slice a vL.length cap]) ∧ (vL = [] ∨ ∃ b off, a = some ⟨b, off, none⟩ ∧ R b ∧ ∀ i (h : i < vL.length), ∃ u, w.cell? ⟨b, off + i, none⟩ = some u ∧ PSeg R w d u (vL[i]))) ∨
    (∃ b ps, p = .iface 53 (.agg #[.map (some b)]) ∧ R b ∧ w.ownsMap Try.prog 9 tokR b 64 (.map (entF vK ps vL.length)) ∧ ∀ i (h : i < vL.length), PSeg R w d (ps.getD i .nilIface) (vL[i])) := by
  obtain ⟨_, hs, _⟩ := (good_succ _ _ _ _ _ _ _).1 hg
  have hbare : vk = 4 ∨ vk = 5 ∨ vL = [] := by
    simp only [shapeB, bareB, Bool.and_eq_true, Bool.or_eq_true, decide_eq_true_eq] at hs
    rcases hs.1.2 with (h | h) | h
    · exact .inl h
    · exact .inr (.inl h)
    · exact .inr (.inr (List.length_eq_zero_iff.1 h))
  rcases h with ⟨hk, rfl⟩ | ⟨hk, rfl⟩ | ⟨hk, rfl⟩ | ⟨hk, rfl⟩ | ⟨hk, rfl⟩ | ⟨hk, a, cap, hp, hc⟩ | ⟨hk, b, ps, hp, hR, hm, hc⟩
  · simp only at hk; exact .inl ⟨by rcases hbare with h | h | h <;> first | omega | exact h, by simp, by simp⟩
  · simp only at hk; exact .inl ⟨by rcases hbare with h | h | h <;> first | omega | exact h, by simp, by simp⟩
  · simp only at hk; exact .inl ⟨by rcases hbare with h | h | h <;> first | omega | exact h, by simp, by simp⟩
  · simp only at hk; exact .inl ⟨by rcases hbare with h | h | h <;> first | omega | exact h, by simp, by simp⟩
  · simp only at hk; exact .inl ⟨by rcases hbare with h | h | h <;> first | omega | exact h, by simp, by simp⟩
  · exact .inr (.inl ⟨a, cap, hp, hc⟩)
  · simp only at hk
    subst hk
    obtain ⟨hl, ha⟩ := shape_mapB hs
    refine .inr (.inr ⟨b, ps, hp, hR, ?_, hc⟩)
    have hm' : w.ownsMap Try.prog 9 tokR b 64 (mapD vK ps vL.length) := hm
    rw [mapD_list vK ps vL.length (fun i hi => ascB_at ha (by omega))] at hm'
    exact hm'

/-- What lies in a part is one value. -/
theorem PSeg.same {R R' : Nat → Prop} {w : World} : ∀ (d d' : Nat) (p : Value) (v : Vl d) (v' : Vl d') (deep deep' : Nat), PSeg R w d p v → PSeg R' w d' p v' → goodB d v deep = true → goodB d' v' deep' = true → partsV d v = partsV d' v' := by
  intro d
  induction d with
  | zero => intro d' p v v' deep deep' h; exact h.elim
  | succ d ih =>
    intro d' p v v' deep deep' h h' hg hg'
    cases d' with
    | zero => exact h'.elim
    | succ d' =>
      obtain ⟨vk, vn, vs, vK, vL⟩ := v
      obtain ⟨vk', vn', vs', vK', vL'⟩ := v'
      obtain ⟨_, _, hk⟩ := (good_succ _ _ _ _ _ _ _).1 hg
      obtain ⟨_, _, hk'⟩ := (good_succ _ _ _ _ _ _ _).1 hg'
      show 1 + (vL.map (partsV d)).sum = 1 + (vL'.map (partsV d')).sum
      congr 1
      rcases h.kinds hg with ⟨e, n1, n2⟩ | ⟨a, cap, hp, hc⟩ | ⟨b, ps, hp, _, hm, hc⟩ <;> rcases h'.kinds hg' with ⟨e', n1', n2'⟩ | ⟨a', cap', hp', hc'⟩ | ⟨b', ps', hp', _, hm', hc'⟩
      · subst e; subst e'; rfl
      · exact absurd hp' (n1 _)
      · exact absurd hp' (n2 _)
      · exact absurd hp (n1' _)
      · rw [hp] at hp'
        simp only [Value.iface.injEq, true_and, Value.agg.injEq, Array.mk.injEq, List.cons.injEq, Value.slice.injEq, and_true] at hp'
        obtain ⟨rfl, hl, _⟩ := hp'
        refine sum_same hl fun i h1 h2 => ?_
        rcases hc with h0 | ⟨b, off, e, _, hc⟩
        · subst h0; simp at h1
        rcases hc' with h0 | ⟨b', off', e', _, hc'⟩
        · subst h0; simp at h2
        rw [e] at e'
        simp only [Option.some.injEq, Addr.mk.injEq, and_true] at e'
        obtain ⟨rfl, rfl⟩ := e'
        obtain ⟨u, hu, hs⟩ := hc i h1
        obtain ⟨u', hu', hs'⟩ := hc' i h2
        rw [hu] at hu'
        obtain rfl : u = u' := by simpa using hu'
        exact ih d' u _ _ (deep + 1) (deep' + 1) hs hs' (hk i h1) (hk' i h2)
      · rw [hp] at hp'; simp at hp'
      · exact absurd hp (n2' _)
      · rw [hp] at hp'; simp at hp'
      · rw [hp] at hp'
        simp only [Value.iface.injEq, true_and, Value.agg.injEq, Array.mk.injEq, List.cons.injEq, Value.map.injEq, Option.some.injEq, and_true] at hp'
        subst hp'
        obtain ⟨hl, hps⟩ := ent_inj (owns_same hm hm')
        refine sum_same hl fun i h1 h2 => ?_
        have hs := hc i h1
        rw [hps i h1] at hs
        exact ih d' _ _ _ (deep + 1) (deep' + 1) hs (hc' i h2) (hk i h1) (hk' i h2)

/-- The parts of a map lie elsewhere than the map. -/
theorem PSeg.avoid {R : Nat → Prop} {w : World} {D deep b : Nat} {V : Vl (D + 1)} (hV : PSeg R w (D + 1) (.iface 53 (.agg #[.map (some b)])) V) (hG : goodB (D + 1) V deep = true) :
    ∀ (d : Nat) (p : Value) (v : Vl d) (dp : Nat), PSeg R w d p v → goodB d v dp = true → partsV d v < partsV (D + 1) V → PSeg (fun c => R c ∧ c ≠ b) w d p v := by
  intro d
  induction d with
  | zero => intro p v dp h; exact h.elim
  | succ d ih =>
    intro p v dp h hg hlt
    have h0 := h
    have hkid : ∀ i (hi : i < v.2.2.2.2.length), goodB d v.2.2.2.2[i] (dp + 1) = true := by
      obtain ⟨vk, vn, vs, vK, vL⟩ := v
      exact ((good_succ _ _ _ _ _ _ _).1 hg).2.2
    have hmap : ∃ es cl, w.heap[b]? = some (.map es cl) := by
      obtain ⟨vk, vn, vs, vK, vL⟩ := V
      rcases hV.kinds hG with ⟨_, _, n2⟩ | ⟨a, cap, hp, _⟩ | ⟨b', ps, hp, _, hm, _⟩
      · exact absurd rfl (n2 _)
      · simp at hp
      · simp at hp
        subst hp
        obtain ⟨es, cl, hb, _⟩ := hm
        exact ⟨es, cl, hb⟩
    rcases h with h | h | h | h | h | ⟨hk, a, cap, hp, hc⟩ | ⟨hk, b', ps, hp, hR, hm, hc⟩
    · exact .inl h
    · exact .inr (.inl h)
    · exact .inr (.inr (.inl h))
    · exact .inr (.inr (.inr (.inl h)))
    · exact .inr (.inr (.inr (.inr (.inl h))))
    · refine .inr (.inr (.inr (.inr (.inr (.inl ⟨hk, a, cap, hp, ?_⟩)))))
      rcases hc with h0 | ⟨c, off, e, hR, hc⟩
      · exact .inl h0
      · by_cases hn : v.2.2.2.2 = []
        · exact .inl hn
        · refine .inr ⟨c, off, e, ⟨hR, ?_⟩, fun i hi => ?_⟩
          · rintro rfl
            obtain ⟨u, hu, _⟩ := hc 0 (List.length_pos_iff.2 hn)
            obtain ⟨es, cl, hb⟩ := hmap
            simp [World.cell?, hb] at hu
          · obtain ⟨u, hu, hv⟩ := hc i hi
            exact ⟨u, hu, ih u _ (dp + 1) hv (hkid i hi) (by have := kid_lt v i hi; omega)⟩
    · refine .inr (.inr (.inr (.inr (.inr (.inr ⟨hk, b', ps, hp, ⟨hR, ?_⟩, hm, fun i hi => ih _ _ (dp + 1) (hc i hi) (hkid i hi) (by have := kid_lt v i hi; omega)⟩)))))
      rintro rfl
      have := PSeg.same (d + 1) (D + 1) p v V dp deep h0 (hp ▸ hV) hg hG
      omega
end Go.Proofs.Ytkklhdeecamifaa
