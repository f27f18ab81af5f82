/-
  Texts that a law leans on, one behind the other; no statement is proved here.
-/
import Derived.Test.YtbeekbkambkgoaaPk13
import Derived.Test.YtbeekbkambkgoaaPk11
/-
  The datum of a map of parts whose keys ascend, when one key is taken out of it, and the value that is left; no statement is proved here.
-/
namespace Go.Proofs.Ytbeekbkambkgoaa
open Go.RowKit
set_option linter.unusedVariables false
set_option linter.unusedSimpArgs false

theorem getD_erase {α : Type} (l : List α) (k j : Nat) (x : α) : (l.eraseIdx k).getD j x = l.getD (if j < k then j else j + 1) x := by
  simp only [List.getD, List.getElem?_eraseIdx]
  split <;> rfl

theorem asc_ne {vK : List (List Int)} {n : Nat} (h : ∀ i, i < n → stepB vK i = true) {i j : Nat} (hi : i < n) (hj : j < n) (hne : i ≠ j) : vK.getD i [] ≠ vK.getD j [] := by
  intro e
  rcases Nat.lt_or_gt_of_ne hne with hl | hl
  · have := less_ne (asc_lt h j hj i hl); rw [e] at this; simp at this
  · have := less_ne (asc_lt h i hi j hl); rw [e] at this; simp at this

theorem rng_add (a b : Nat) : List.range (a + b) = List.range a ++ (List.range b).map (fun x => a + x) := List.range_add

theorem range_but (k m : Nat) : (List.range (k + (1 + m))).filter (fun i => !decide (i = k)) = List.range k ++ (List.range m).map (fun i => k + (1 + i)) := by
  rw [rng_add k (1 + m), List.filter_append, rng_add 1 m, List.map_append, List.filter_append]
  have h0 : (List.range k).filter (fun i => !decide (i = k)) = List.range k := by
    rw [List.filter_eq_self]; intro i hi; have := List.mem_range.1 hi; simp; omega
  have h1 : ((List.range 1).map (fun x => k + x)).filter (fun i => !decide (i = k)) = [] := by simp [List.range_succ]
  have h2 : (((List.range m).map (fun x => 1 + x)).map (fun x => k + x)).filter (fun i => !decide (i = k)) = (List.range m).map (fun i => k + (1 + i)) := by
    rw [List.filter_eq_self.2, List.map_map]
    · rfl
    · intro i hi; simp only [List.mem_map] at hi; obtain ⟨a, ⟨b, _, rfl⟩, rfl⟩ := hi; simp
  rw [h0, h1, h2, List.nil_append]

/-- The k-th key is taken out. -/
theorem del_ent {vK : List (List Int)} {ps : List Value} {n k : Nat} {key : List Int} (hy : ∀ y ∈ key, Byt y) (hb : ∀ i, i < n → ∀ x ∈ vK.getD i [], Byt x) (hk : k < n) (hu : ∀ i, i < n → i ≠ k → vK.getD i [] ≠ key) (he : vK.getD k [] = key) :
    (DataW.map (entF vK ps n)).del (.string (u8s key)) = .map (entF (vK.eraseIdx k) (ps.eraseIdx k) (n - 1)) := by
  obtain ⟨m, rfl⟩ : ∃ m, n = k + (1 + m) := ⟨n - 1 - k, by omega⟩
  have e1 : k + (1 + m) - 1 = k + m := by omega
  rw [e1]
  show DataW.map ((entF vK ps (k + (1 + m))).filter fun p => !p.1.sameKey (.string (u8s key))) = _
  congr 1
  have hs : ∀ i, i < k + (1 + m) → (Lit.string (u8s (vK.getD i []))).sameKey (.string (u8s key)) = decide (i = k) := by
    intro i hi
    rw [same_u8s (hb i hi) hy]
    by_cases h : i = k
    · subst h; exact (decide_eq_true he).trans (decide_eq_true rfl).symm
    · exact (decide_eq_false (hu i hi h)).trans (decide_eq_false h).symm
  unfold entF
  rw [List.filter_map, List.filter_congr (q := fun i => !decide (i = k)) (fun i hi => by simp only [Function.comp]; rw [hs i (List.mem_range.1 hi)]), range_but, rng_add k m, List.map_append, List.map_append, List.map_map, List.map_map]
  congr 1
  · refine List.map_congr_left fun i hi => ?_
    have := List.mem_range.1 hi
    rw [getD_erase, getD_erase, if_pos this]
  · refine List.map_congr_left fun i hi => ?_
    simp only [Function.comp]
    rw [getD_erase, getD_erase, if_neg (by omega), show k + i + 1 = k + (1 + i) by omega]

/-- A key that is not there is taken out: nothing turns. -/
theorem del_none {vK : List (List Int)} {ps : List Value} {n : Nat} {key : List Int} (hy : ∀ y ∈ key, Byt y) (hb : ∀ i, i < n → ∀ x ∈ vK.getD i [], Byt x) (hu : ∀ i, i < n → vK.getD i [] ≠ key) :
    (DataW.map (entF vK ps n)).del (.string (u8s key)) = .map (entF vK ps n) := by
  show DataW.map ((entF vK ps n).filter fun p => !p.1.sameKey (.string (u8s key))) = _
  congr 1
  rw [List.filter_eq_self]
  intro p hp
  simp only [entF, List.mem_map, List.mem_range] at hp
  obtain ⟨i, hi, rfl⟩ := hp
  rw [same_u8s (hb i hi) hy]
  simpa using hu i hi

theorem asc_erase {vK : List (List Int)} {n k : Nat} (h : ∀ i, i < n → stepB vK i = true) (hk : k < n) : ∀ i, i < n - 1 → stepB (vK.eraseIdx k) i = true := by
  intro i hi
  simp only [stepB, getD_erase, Bool.and_eq_true, Bool.or_eq_true, beq_iff_eq]
  have hn : ∀ j, j < n → nameB (vK.getD j []) = true := fun j hj => by have := h j hj; simp only [stepB, Bool.and_eq_true] at this; exact this.1
  refine ⟨hn _ (by split <;> omega), ?_⟩
  by_cases h0 : i = 0
  · exact .inl h0
  · exact .inr (asc_lt h _ (by split <;> omega) _ (by split <;> split <;> omega))

/-- The map without its k-th key. -/
def dropV (d : Nat) (v : Vl (d + 1)) (k : Nat) : Vl (d + 1) := ((5 : Int), (0 : Int), ([] : List Int), v.2.2.2.1.eraseIdx k, v.2.2.2.2.eraseIdx k)

theorem sum_erase {α : Type} (f : α → Nat) : ∀ (l : List α) (k : Nat), ((l.eraseIdx k).map f).sum ≤ (l.map f).sum
  | [], k => by simp
  | x :: l, 0 => by simp
  | x :: l, k + 1 => by have := sum_erase f l k; simp; omega

theorem drop_sz (d : Nat) (v : Vl (d + 1)) (k : Nat) : szV (d + 1) (dropV d v k) ≤ szV (d + 1) v := by
  have h1 : szV (d + 1) (dropV d v k) = 0 + szK (v.2.2.2.1.eraseIdx k) + ((v.2.2.2.2.eraseIdx k).length + ((v.2.2.2.2.eraseIdx k).map (szV d)).sum) := rfl
  have h2 : szV (d + 1) v = szT v.2.2.1 + szK v.2.2.2.1 + (v.2.2.2.2.length + (v.2.2.2.2.map (szV d)).sum) := rfl
  have h3 := sum_erase (szV d) v.2.2.2.2 k
  have h4 := sum_erase List.length v.2.2.2.1 k
  have h5 : (v.2.2.2.1.eraseIdx k).length ≤ v.2.2.2.1.length := List.length_eraseIdx_le _ _
  have h6 : (v.2.2.2.2.eraseIdx k).length ≤ v.2.2.2.2.length := List.length_eraseIdx_le _ _
  have h7 : ∀ l : List (List Int), szK l = l.length + (l.map List.length).sum := fun l => rfl
  rw [h1, h2, h7, h7]
  omega

theorem drop_parts (d : Nat) (v : Vl (d + 1)) (k : Nat) : partsV (d + 1) (dropV d v k) ≤ partsV (d + 1) v := by
  have h1 : partsV (d + 1) (dropV d v k) = 1 + ((v.2.2.2.2.eraseIdx k).map (partsV d)).sum := rfl
  have h2 : partsV (d + 1) v = 1 + (v.2.2.2.2.map (partsV d)).sum := rfl
  have h3 := sum_erase (partsV d) v.2.2.2.2 k
  omega

theorem drop_good {d : Nat} {vn : Int} {vs : List Int} {vK : List (List Int)} {vL : List (Vl d)} {deep k : Nat} (h : goodB (d + 1) (5, vn, vs, vK, vL) deep = true) (hk : k < vL.length) : goodB (d + 1) (dropV d (5, vn, vs, vK, vL) k) deep = true := by
  obtain ⟨h1, h2, h3⟩ := (good_succ _ _ _ _ _ _ _).1 h
  obtain ⟨hl, ha⟩ := shape_mapB h2
  refine (good_succ _ _ _ _ _ _ _).2 ⟨h1, ?_, fun j hj => ?_⟩
  · have hst : ∀ i, i < vK.length → stepB vK i = true := fun i hi => ascB_at ha hi
    have hl1 : (vK.eraseIdx k).length = vK.length - 1 := List.length_eraseIdx_of_lt (by omega)
    have hl2 : (vL.eraseIdx k).length = vL.length - 1 := List.length_eraseIdx_of_lt hk
    have ha' : ascB (vK.eraseIdx k) = true := ascB_yes (fun i hi => asc_erase hst (by omega) i (by omega))
    simp only [shapeB, Bool.and_eq_true] at h2 ⊢
    refine ⟨?_, ?_⟩
    · have := h2.1
      simp [bareB] at this ⊢
    · simp [ha', hl1, hl2, hl]
  · have hj' : j < (vL.eraseIdx k).length := hj
    show goodB d (vL.eraseIdx k)[j] (deep + 1) = true
    rw [List.getElem_eraseIdx]
    split
    · exact h3 _ _
    · exact h3 _ _
end Go.Proofs.Ytbeekbkambkgoaa
/-
  A part of a value holds no map that holds the part: what is turned in the map's own block leaves its parts as they were; no statement is proved here.
-/
namespace Go.Proofs.Ytbeekbkambkgoaa
open Go.RowKit
set_option linter.unusedVariables false
set_option linter.unusedSimpArgs false

theorem owns_same {w : World} {b n n' : Nat} {D D' : DataW Value} (h : w.ownsMap Try.prog 9 tokR b n D) (h' : w.ownsMap Try.prog 9 tokR b n' D') : D = D' := by
  obtain ⟨es, cl, hb, _, _, rfl⟩ := h
  obtain ⟨es', cl', hb', _, _, rfl⟩ := h'
  rw [hb] at hb'
  simp only [Option.some.injEq, Obj.map.injEq] at hb'
  rw [hb'.1]

theorem ent_inj {vK vK' : List (List Int)} {ps ps' : List Value} {n n' : Nat} (h : DataW.map (entF vK ps n) = DataW.map (entF vK' ps' n')) : n = n' ∧ ∀ i, i < n → ps.getD i .nilIface = ps'.getD i .nilIface := by
  have h1 : entF vK ps n = entF vK' ps' n' := by injection h
  have hn : n = n' := by have := congrArg List.length h1; simpa [entF] using this
  subst hn
  refine ⟨rfl, fun i hi => ?_⟩
  have h2 := congrArg (fun l => l[i]?) h1
  simp only [entF, List.getElem?_map, List.getElem?_range hi, Option.map_some, Option.some.injEq, Prod.mk.injEq, DataW.held.injEq] at h2
  exact h2.2

theorem sum_same {α β : Type} {f : α → Nat} {g : β → Nat} {l : List α} {l' : List β} (hl : l.length = l'.length) (h : ∀ i (h : i < l.length) (h' : i < l'.length), f l[i] = g l'[i]) : (l.map f).sum = (l'.map g).sum := by
  congr 1
  refine List.ext_getElem (by simpa using hl) fun i h1 h2 => ?_
  simp only [List.getElem_map]
  exact h i (by simpa using h1) (by simpa using h2)

theorem sum_mem {α : Type} (f : α → Nat) : ∀ (l : List α) (i : Nat) (h : i < l.length), f l[i] ≤ (l.map f).sum
  | x :: l, 0, _ => by simp
  | x :: l, i + 1, h => by have := sum_mem f l i (by simpa using h); simp; omega

theorem kid_lt {d : Nat} (v : Vl (d + 1)) (i : Nat) (h : i < v.2.2.2.2.length) : partsV d v.2.2.2.2[i] < partsV (d + 1) v := by
  have h1 := sum_mem (partsV d) v.2.2.2.2 i h
  have h2 : partsV (d + 1) v = 1 + (v.2.2.2.2.map (partsV d)).sum := rfl
  omega

/-- A part: without parts of its own, a list, or a map. -/
theorem PSeg.kinds {R : Nat → Prop} {w : World} {d deep : Nat} {p : Value} {vk vn : Int} {vs : List Int} {vK : List (List Int)} {vL : List (Vl d)} (h : PSeg R w (d + 1) p (vk, vn, vs, vK, vL)) (hg : goodB (d + 1) (vk, vn, vs, vK, vL) deep = true) :
    (vL = [] ∧ (∀ x, p ≠ .iface 72 x) ∧ ∀ x, p ≠ .iface 52 x) ∨
    (∃ a cap, p = .iface 72 (.agg #[.slice a vL.length cap]) ∧ (vL = [] ∨ ∃ b off, a = some ⟨b, off, none⟩ ∧ R b ∧ ∀ i (h : i < vL.length), ∃ u, w.cell? ⟨b, off + i, none⟩ = some u ∧ PSeg R w d u (vL[i]))) ∨
    (∃ b ps, p = .iface 52 (.agg #[.map (some b)]) ∧ R b ∧ w.ownsMap Try.prog 9 tokR b 64 (.map (entF vK ps vL.length)) ∧ ∀ i (h : i < vL.length), PSeg R w d (ps.getD i .nilIface) (vL[i])) := by
  obtain ⟨_, hs, _⟩ := (good_succ _ _ _ _ _ _ _).1 hg
  have hbare : vk = 4 ∨ vk = 5 ∨ vL = [] := by
    simp only [shapeB, bareB, Bool.and_eq_true, Bool.or_eq_true, decide_eq_true_eq] at hs
    rcases hs.1.2 with (h | h) | h
    · exact .inl h
    · exact .inr (.inl h)
    · exact .inr (.inr (List.length_eq_zero_iff.1 h))
  rcases h with ⟨hk, rfl⟩ | ⟨hk, rfl⟩ | ⟨hk, rfl⟩ | ⟨hk, rfl⟩ | ⟨hk, rfl⟩ | ⟨hk, a, cap, hp, hc⟩ | ⟨hk, b, ps, hp, hR, hm, hc⟩
  · simp only at hk; exact .inl ⟨by rcases hbare with h | h | h <;> first | omega | exact h, by simp, by simp⟩
  · simp only at hk; exact .inl ⟨by rcases hbare with h | h | h <;> first | omega | exact h, by simp, by simp⟩
  · simp only at hk; exact .inl ⟨by rcases hbare with h | h | h <;> first | omega | exact h, by simp, by simp⟩
  · simp only at hk; exact .inl ⟨by rcases hbare with h | h | h <;> first | omega | exact h, by simp, by simp⟩
  · simp only at hk; exact .inl ⟨by rcases hbare with h | h | h <;> first | omega | exact h, by simp, by simp⟩
  · exact .inr (.inl ⟨a, cap, hp, hc⟩)
  · simp only at hk
    subst hk
    obtain ⟨hl, ha⟩ := shape_mapB hs
    refine .inr (.inr ⟨b, ps, hp, hR, ?_, hc⟩)
    have hm' : w.ownsMap Try.prog 9 tokR b 64 (mapD vK ps vL.length) := hm
    rw [mapD_list vK ps vL.length (fun i hi => ascB_at ha (by omega))] at hm'
    exact hm'

/-- What lies in a part is one value. -/
theorem PSeg.same {R R' : Nat → Prop} {w : World} : ∀ (d d' : Nat) (p : Value) (v : Vl d) (v' : Vl d') (deep deep' : Nat), PSeg R w d p v → PSeg R' w d' p v' → goodB d v deep = true → goodB d' v' deep' = true → partsV d v = partsV d' v' := by
  intro d
  induction d with
  | zero => intro d' p v v' deep deep' h; exact h.elim
  | succ d ih =>
    intro d' p v v' deep deep' h h' hg hg'
    cases d' with
    | zero => exact h'.elim
    | succ d' =>
      obtain ⟨vk, vn, vs, vK, vL⟩ := v
      obtain ⟨vk', vn', vs', vK', vL'⟩ := v'
      obtain ⟨_, _, hk⟩ := (good_succ _ _ _ _ _ _ _).1 hg
      obtain ⟨_, _, hk'⟩ := (good_succ _ _ _ _ _ _ _).1 hg'
      show 1 + (vL.map (partsV d)).sum = 1 + (vL'.map (partsV d')).sum
      congr 1
      rcases h.kinds hg with ⟨e, n1, n2⟩ | ⟨a, cap, hp, hc⟩ | ⟨b, ps, hp, _, hm, hc⟩ <;> rcases h'.kinds hg' with ⟨e', n1', n2'⟩ | ⟨a', cap', hp', hc'⟩ | ⟨b', ps', hp', _, hm', hc'⟩
      · subst e; subst e'; rfl
      · exact absurd hp' (n1 _)
      · exact absurd hp' (n2 _)
      · exact absurd hp (n1' _)
      · rw [hp] at hp'
        simp only [Value.iface.injEq, true_and, Value.agg.injEq, Array.mk.injEq, List.cons.injEq, Value.slice.injEq, and_true] at hp'
        obtain ⟨rfl, hl, _⟩ := hp'
        refine sum_same hl fun i h1 h2 => ?_
        rcases hc with h0 | ⟨b, off, e, _, hc⟩
        · subst h0; simp at h1
        rcases hc' with h0 | ⟨b', off', e', _, hc'⟩
        · subst h0; simp at h2
        rw [e] at e'
        simp only [Option.some.injEq, Addr.mk.injEq, and_true] at e'
        obtain ⟨rfl, rfl⟩ := e'
        obtain ⟨u, hu, hs⟩ := hc i h1
        obtain ⟨u', hu', hs'⟩ := hc' i h2
        rw [hu] at hu'
        obtain rfl : u = u' := by simpa using hu'
        exact ih d' u _ _ (deep + 1) (deep' + 1) hs hs' (hk i h1) (hk' i h2)
      · rw [hp] at hp'; simp at hp'
      · exact absurd hp (n2' _)
      · rw [hp] at hp'; simp at hp'
      · rw [hp] at hp'
        simp only [Value.iface.injEq, true_and, Value.agg.injEq, Array.mk.injEq, List.cons.injEq, Value.map.injEq, Option.some.injEq, and_true] at hp'
        subst hp'
        obtain ⟨hl, hps⟩ := ent_inj (owns_same hm hm')
        refine sum_same hl fun i h1 h2 => ?_
        have hs := hc i h1
        rw [hps i h1] at hs
        exact ih d' _ _ _ (deep + 1) (deep' + 1) hs (hc' i h2) (hk i h1) (hk' i h2)

/-- The parts of a map lie elsewhere than the map. -/
theorem PSeg.avoid {R : Nat → Prop} {w : World} {D deep b : Nat} {V : Vl (D + 1)} (hV : PSeg R w (D + 1) (.iface 52 (.agg #[.map (some b)])) V) (hG : goodB (D + 1) V deep = true) :
    ∀ (d : Nat) (p : Value) (v : Vl d) (dp : Nat), PSeg R w d p v → goodB d v dp = true → partsV d v < partsV (D + 1) V → PSeg (fun c => R c ∧ c ≠ b) w d p v := by
  intro d
  induction d with
  | zero => intro p v dp h; exact h.elim
  | succ d ih =>
    intro p v dp h hg hlt
    have h0 := h
    have hkid : ∀ i (hi : i < v.2.2.2.2.length), goodB d v.2.2.2.2[i] (dp + 1) = true := by
      obtain ⟨vk, vn, vs, vK, vL⟩ := v
      exact ((good_succ _ _ _ _ _ _ _).1 hg).2.2
    have hmap : ∃ es cl, w.heap[b]? = some (.map es cl) := by
      obtain ⟨vk, vn, vs, vK, vL⟩ := V
      rcases hV.kinds hG with ⟨_, _, n2⟩ | ⟨a, cap, hp, _⟩ | ⟨b', ps, hp, _, hm, _⟩
      · exact absurd rfl (n2 _)
      · simp at hp
      · simp at hp
        subst hp
        obtain ⟨es, cl, hb, _⟩ := hm
        exact ⟨es, cl, hb⟩
    rcases h with h | h | h | h | h | ⟨hk, a, cap, hp, hc⟩ | ⟨hk, b', ps, hp, hR, hm, hc⟩
    · exact .inl h
    · exact .inr (.inl h)
    · exact .inr (.inr (.inl h))
    · exact .inr (.inr (.inr (.inl h)))
    · exact .inr (.inr (.inr (.inr (.inl h))))
    · refine .inr (.inr (.inr (.inr (.inr (.inl ⟨hk, a, cap, hp, ?_⟩)))))
      rcases hc with h0 | ⟨c, off, e, hR, hc⟩
      · exact .inl h0
      · by_cases hn : v.2.2.2.2 = []
        · exact .inl hn
        · refine .inr ⟨c, off, e, ⟨hR, ?_⟩, fun i hi => ?_⟩
          · rintro rfl
            obtain ⟨u, hu, _⟩ := hc 0 (List.length_pos_iff.2 hn)
            obtain ⟨es, cl, hb⟩ := hmap
            simp [World.cell?, hb] at hu
          · obtain ⟨u, hu, hv⟩ := hc i hi
            exact ⟨u, hu, ih u _ (dp + 1) hv (hkid i hi) (by have := kid_lt v i hi; omega)⟩
    · refine .inr (.inr (.inr (.inr (.inr (.inr ⟨hk, b', ps, hp, ⟨hR, ?_⟩, hm, fun i hi => ih _ _ (dp + 1) (hc i hi) (hkid i hi) (by have := kid_lt v i hi; omega)⟩)))))
      rintro rfl
      have := PSeg.same (d + 1) (D + 1) p v V dp deep h0 (hp ▸ hV) hg hG
      omega
end Go.Proofs.Ytbeekbkambkgoaa
/-
  impl.ValDrop, whatever it is handed: the map without the key, the map itself where the key is not there, or nothing; no statement is proved here.
-/
namespace Go.Proofs.Ytbeekbkambkgoaa
open Go.RowKit Go.Shelf
set_option linter.unusedVariables false
set_option linter.unusedSimpArgs false

/-- What ValDrop answers. -/
def dropA (d : Nat) (v : Vl (d + 1)) (key : List Int) : Vl (d + 1) := if okB (d + 1) v = true ∧ v.1 = 5 then (if 0 ≤ findK v.2.2.2.1 key then dropV d v (findK v.2.2.2.1 key).toNat else v) else vNil d
def dropF (d : Nat) (v : Vl (d + 1)) (key : List Int) : Bool := decide (okB (d + 1) v = true ∧ v.1 = 5 ∧ 0 ≤ findK v.2.2.2.1 key)

theorem dropA_yes {d k : Nat} {v : Vl (d + 1)} {key : List Int} (hok : okB (d + 1) v = true) (h5 : v.1 = 5) (hf : findK v.2.2.2.1 key = k) : dropA d v key = dropV d v k ∧ dropF d v key = true := by
  have h0 : 0 ≤ findK v.2.2.2.1 key := by rw [hf]; omega
  refine ⟨(if_pos ⟨hok, h5⟩).trans ((if_pos h0).trans (by rw [hf]; rfl)), decide_eq_true ⟨hok, h5, h0⟩⟩
theorem dropA_none {d : Nat} {v : Vl (d + 1)} {key : List Int} (hok : okB (d + 1) v = true) (h5 : v.1 = 5) (hf : findK v.2.2.2.1 key = -1) : dropA d v key = v ∧ dropF d v key = false := by
  have h0 : ¬ 0 ≤ findK v.2.2.2.1 key := by rw [hf]; omega
  exact ⟨(if_pos ⟨hok, h5⟩).trans (if_neg h0), decide_eq_false fun h => h0 h.2.2⟩
theorem dropA_no {d : Nat} {v : Vl (d + 1)} {key : List Int} (h : ¬ (okB (d + 1) v = true ∧ v.1 = 5)) : dropA d v key = vNil d ∧ dropF d v key = false :=
  ⟨if_neg h, decide_eq_false fun h' => h ⟨h'.1, h'.2.1⟩⟩

theorem turned_cell {w1 w2 : World} {b : Nat} {T : TypeId} {c : Value} (h : (w1.alloc (.cells #[c] T)).mapTurned w2 b) (hb : b < w1.heap.size) : w2.cell? ⟨w1.heap.size, 0, none⟩ = some c := by
  refine h.grown.cell (a := ⟨w1.heap.size, 0, none⟩) ?_ (by simp; omega)
  have := (MapKept.heap_alloc w1 (.cells #[c] T)).1
  simp only [World.cell?, this]
  rfl

theorem avoid_all {R : Nat → Prop} {w w2 : World} {d b deep : Nat} {vn : Int} {vs : List Int} {vK : List (List Int)} {vL : List (Vl d)} (hp : PSeg R w (d + 1) (.iface 52 (.agg #[.map (some b)])) (5, vn, vs, vK, vL)) (hg : goodB (d + 1) (5, vn, vs, vK, vL) deep = true) (ht : w.mapTurned w2 b) (hR : ∀ c, R c → c < w.heap.size) :
    ∃ ps, R b ∧ w.ownsMap Try.prog 9 tokR b 64 (.map (entF vK ps vL.length)) ∧ ∀ i (h : i < vL.length), PSeg R w2 d (ps.getD i .nilIface) (vL[i]) := by
  rcases hp.kinds hg with ⟨_, _, n2⟩ | ⟨a, cap, e, _⟩ | ⟨b', ps, e, hRb, hm, hc⟩
  · exact absurd rfl (n2 _)
  · simp at e
  · simp at e
    subst e
    refine ⟨ps, hRb, hm, fun i hi => ?_⟩
    have h1 := PSeg.avoid hp hg d _ _ (deep + 1) (hc i hi) (((good_succ _ _ _ _ _ _ _).1 hg).2.2 i hi) (kid_lt (5, vn, vs, vK, vL) i hi)
    exact PSeg.carry (fun c h => h.1) (fun c h => ht.grown.block c (hR c h.1) (by simpa using h.2)) d h1

theorem drop_pseg {R : Nat → Prop} {w w2 : World} {d b deep k : Nat} {key : List Int} {vn : Int} {vs : List Int} {vK : List (List Int)} {vL : List (Vl d)} {D0 : DataW Value} (hp : PSeg R w (d + 1) (.iface 52 (.agg #[.map (some b)])) (5, vn, vs, vK, vL)) (hg : goodB (d + 1) (5, vn, vs, vK, vL) deep = true) (ht : w.mapTurned w2 b) (hR : ∀ c, R c → c < w.heap.size)
    (hm0 : w.ownsMap Try.prog 9 tokR b 64 D0) (hm2 : w2.ownsMap Try.prog 9 tokR b 64 (D0.del (.string (u8s key)))) (hy : ∀ y ∈ key, Byt y) (hk : k < vL.length) (he : vK.getD k [] = key) :
    PSeg R w2 (d + 1) (.iface 52 (.agg #[.map (some b)])) (dropV d (5, vn, vs, vK, vL) k) := by
  obtain ⟨ps, hRb, hm, hc⟩ := avoid_all hp hg ht hR
  obtain ⟨_, hs, _⟩ := (good_succ _ _ _ _ _ _ _).1 hg
  obtain ⟨hl, ha⟩ := shape_mapB hs
  have hst : ∀ i, i < vL.length → stepB vK i = true := fun i hi => ascB_at ha (by omega)
  rw [owns_same hm0 hm, del_ent hy (fun i hi => (step_name (hst i hi)).1) hk (fun i hi hne => by rw [← he]; exact asc_ne hst hi hk hne) he] at hm2
  have hl2 : (vL.eraseIdx k).length = vL.length - 1 := List.length_eraseIdx_of_lt hk
  refine .inr (.inr (.inr (.inr (.inr (.inr ⟨rfl, b, ps.eraseIdx k, rfl, hRb, ?_, fun i hi => ?_⟩)))))
  · show w2.ownsMap Try.prog 9 tokR b 64 (mapD (vK.eraseIdx k) (ps.eraseIdx k) (vL.eraseIdx k).length)
    rw [hl2, mapD_list _ _ _ (asc_erase hst hk)]
    exact hm2
  · have hi' : i < (vL.eraseIdx k).length := hi
    show PSeg R w2 d ((ps.eraseIdx k).getD i .nilIface) (vL.eraseIdx k)[i]
    rw [getD_erase, List.getElem_eraseIdx]
    by_cases h : i < k
    · rw [if_pos h, dif_pos h]; exact hc i _
    · rw [if_neg h, dif_neg h]; exact hc (i + 1) _

theorem keep_pseg {R : Nat → Prop} {w w2 : World} {d b deep : Nat} {key : List Int} {vn : Int} {vs : List Int} {vK : List (List Int)} {vL : List (Vl d)} {D0 : DataW Value} (hp : PSeg R w (d + 1) (.iface 52 (.agg #[.map (some b)])) (5, vn, vs, vK, vL)) (hg : goodB (d + 1) (5, vn, vs, vK, vL) deep = true) (ht : w.mapTurned w2 b) (hR : ∀ c, R c → c < w.heap.size)
    (hm0 : w.ownsMap Try.prog 9 tokR b 64 D0) (hm2 : w2.ownsMap Try.prog 9 tokR b 64 (D0.del (.string (u8s key)))) (hy : ∀ y ∈ key, Byt y) (hu : ∀ i, i < vL.length → vK.getD i [] ≠ key) :
    PSeg R w2 (d + 1) (.iface 52 (.agg #[.map (some b)])) (5, vn, vs, vK, vL) := by
  obtain ⟨ps, hRb, hm, hc⟩ := avoid_all hp hg ht hR
  obtain ⟨_, hs, _⟩ := (good_succ _ _ _ _ _ _ _).1 hg
  obtain ⟨hl, ha⟩ := shape_mapB hs
  have hst : ∀ i, i < vL.length → stepB vK i = true := fun i hi => ascB_at ha (by omega)
  rw [owns_same hm0 hm, del_none hy (fun i hi => (step_name (hst i hi)).1) hu] at hm2
  refine .inr (.inr (.inr (.inr (.inr (.inr ⟨rfl, b, ps, rfl, hRb, ?_, hc⟩)))))
  show w2.ownsMap Try.prog 9 tokR b 64 (mapD vK ps vL.length)
  rw [mapD_list _ _ _ hst]
  exact hm2
end Go.Proofs.Ytbeekbkambkgoaa
/-
  impl.ValDrop answers as dropA and dropF say, whatever it is handed, on its own memory; no statement is proved here.
-/
namespace Go.Proofs.Ytbeekbkambkgoaa
open Go.RowKit Go.Shelf
set_option linter.unusedVariables false
set_option linter.unusedSimpArgs false

set_option maxHeartbeats 3200000 in
set_option maxRecDepth 100000 in
theorem impl_ValDrop_any (d N : Nat) (c0 c1 c2 c3 c4 : Value) (v : Vl (d + 1)) (ka : Option Addr) (kc : Nat) (key : List Int) (w : World) (hv : VSeg (fun b => b < N) w (d + 1) (c0, c1, c2, c3, c4) v) (hN : N ≤ w.heap.size) (hS : Seg w ka key) (hSb : ∀ x, ka = some x → key ≠ [] → x.block < w.heap.size) (hkl : key.length ≤ maxLen) :
    Calls Try.prog 17 #[.agg #[c0, c1, c2, c3, c4], .slice ka key.length kc] w (Ans d (dropA d v key) (dropF d v key) w) := by
  have HA : Hid (∀ o o' : Obj, Below w.heap.size w ((w.alloc o).alloc o') ∧ ((w.alloc o).alloc o').heap[w.heap.size + 1]? = some o') := fun o o' => ⟨((Below.refl _ _).alloc (Nat.le_refl _) o).alloc (by simp) o', by have := (MapKept.heap_alloc (w.alloc o) o').1; simpa using this⟩
  have HP : Hid (∀ o o' : Obj, Calls Try.prog 31 #[.agg #[c0, c1, c2, c3, c4]] ((w.alloc o).alloc o') (MapOf (d + 1) v ((w.alloc o).alloc o'))) := fun o o' => mapOf_any (d + 1) N c0 c1 c2 c3 c4 v _ (VSeg.agree (fun b (h : b < N) => (HA.out o o').1.block b (by omega)) (d + 1) hv) (by simp; omega)
  have HSg : Hid (∀ wx, Below w.heap.size w wx → Seg wx ka key) := fun wx hb => hS.below hb hSb
  have HByt : Hid (∀ y ∈ key, Byt y) := hS.1
  clear hv hS hSb
  go_enter Try.func17, Try.ntmps17
  go_wp2_with fail
  refine (HP.out _ _).mono ?_
  rintro e w1 ⟨b1, ⟨b, rfl, hok, hk, hp⟩ | ⟨rfl, hno⟩⟩
  · have hR1 : w1.heap[w.heap.size + 1]? = some (.cells #[.int .i64 0, .int .i64 0, .slice none 0 0, .slice none 0 0, .slice none 0 0] 30 (0, 0)) := (b1.block _ (by simp)).trans (HA.out _ _).2
    have hlt : w.heap.size + 1 < w1.heap.size := (Array.getElem?_eq_some_iff.1 hR1).1
    have hB1 := Below.on (HA.out _ _).1 b1
    have HBM : Hid (∀ o, Below w.heap.size w (w1.alloc o)) := fun o => hB1.alloc hB1.size o
    have hk5 : v.1 = 5 := hk
    have hok' := hok
    simp only [okB, Bool.and_eq_true, decide_eq_true_eq] at hok'
    obtain ⟨vk, vn, vs, vK, vL⟩ := v
    simp only at hk5
    subst hk5
    obtain ⟨_, hsh, hgk⟩ := (good_succ _ _ _ _ _ _ _).1 hok'.1
    obtain ⟨hKL, hasc⟩ := shape_mapB hsh
    have hst : ∀ i, i < vL.length → stepB vK i = true := fun i hi => ascB_at hasc (by omega)
    obtain ⟨hbR, ps, hm, _⟩ := mapPart_inv hp rfl
    simp only at hm
    have hbR' : w.heap.size + 2 ≤ b ∧ b < w1.heap.size := by have := hbR; simp at this; exact this
    have hcv : ∀ o, (convert 22 9 (.slice ka key.length kc)).run Try.prog (w1.alloc o) = .ok (.string (strOf key)) (w1.alloc o) := fun o => conv_seg kc (HSg.out _ (HBM.out o))
    have HR1 := hide' hR1
    have hPs : ∀ o, PSeg (fun b => b < w1.heap.size) (w1.alloc o) (d + 1) (.iface 52 (.agg #[.map (some b)])) (5, vn, vs, vK, vL) := fun o => PSeg.carry (fun b' h => h.2) (fun b' h => Below.heap_alloc w1 o b' h.2) (d + 1) hp
    have HMo : Hid (∀ o, (w1.alloc o).ownsMap Try.prog 9 tokR b 64 (mapD vK ps vL.length)) := fun o => hm.alloc o
    have key9 : Hid (Go.keyOf Try.prog 9 (.string (strOf key)) = some (.string (u8s key))) := keyS key hkl
    have hans : ∃ (a : Vl (d + 1)) (bb : Bool), (dropA d (5, vn, vs, vK, vL) key = a ∧ dropF d (5, vn, vs, vK, vL) key = bb) ∧ (∃ pv, ∀ o, (Instr.lookup 50 (.map (some b)) (.string (strOf key)) true).run Try.prog (w1.alloc o) = .ok (.tuple #[pv, .bool bb]) (w1.alloc o)) ∧ ∀ o w2, w2.ownsMap Try.prog 9 tokR b 64 ((mapD vK ps vL.length).del (.string (u8s key))) → (w1.alloc o).mapTurned w2 b → Calls Try.prog 32 #[.iface 52 (.agg #[.map (some b)])] w2 (ValEnd (d + 1) a w2) := by
      obtain ⟨k, hkK, hke, hkn, hfk⟩ | ⟨hnone, hfk⟩ := find_cases vK key
      · refine ⟨dropV d (5, vn, vs, vK, vL) k, true, dropA_yes hok rfl hfk, ⟨ps.getD k .nilIface, fun o => look_at (HMo.out o) hst (fun i hi => (step_name (hst i hi)).1) HByt.out hkl (by omega) hkn hke⟩, fun o w2 h2 ht => ?_⟩
        · exact valueOf_any (d + 1) w2.heap.size _ _ 1 w2 (PSeg.carry (fun c h => by have := ht.grown.size; simp at this; omega) (fun c h => rfl) (d + 1) (drop_pseg (hPs o) hok'.1 ht (fun c h => by simp; omega) (HMo.out o) h2 HByt.out (by omega) hke)) (Nat.le_refl _) (drop_good hok'.1 (by omega)) (Nat.le_trans (drop_parts d (5, vn, vs, vK, vL) k) hok'.2)
      · refine ⟨(5, vn, vs, vK, vL), false, dropA_none hok rfl hfk, ⟨.nilIface, fun o => look_none (HMo.out o) hst (fun i hi => (step_name (hst i hi)).1) HByt.out hkl (fun i hi => hnone i (by omega))⟩, fun o w2 h2 ht => ?_⟩
        · exact valueOf_any (d + 1) w2.heap.size _ _ 1 w2 (PSeg.carry (fun c h => by have := ht.grown.size; simp at this; omega) (fun c h => rfl) (d + 1) (keep_pseg (hPs o) hok'.1 ht (fun c h => by simp; omega) (HMo.out o) h2 HByt.out (fun i hi => hnone i (by omega)))) (Nat.le_refl _) hok'.1 hok'.2
    obtain ⟨a, bb, ⟨ha, hbb⟩, ⟨pv, hlk⟩, hVo⟩ := hans
    have HAe := hide' (And.intro ha hbb)
    have HVo := hide' hVo
    clear hp hm hsh hgk hasc hst hR1 hB1 b1 hok hok' HP hPs hVo ha hbb hKL hbR hk
    generalize hsx : strOf key = sx at *
    generalize hD : mapD vK ps vL.length = D0 at *
    have hc1 : b < w1.heap.size := hbR'.2
    go_wp2_with (at_delete; refine wpList_delete_own _ rfl _ _ 50 9 rfl 56 (Maps.string_keyed Try.underlying9) Try.underlying50 tokR b 64 D0 rfl (HMo.out _) _ _ rfl key9.out ?_; intro w2 hm2 ht2; have hc2 := turned_cell ht2 hc1)
    refine (HVo.out _ w2 hm2 ht2).mono ?_
    rintro e w3 ⟨u0, u1, u2, u3, u4, rfl, B, hO, hB, hb3⟩
    obtain ⟨uk, un, s2, n2, r2, s3, n3, r3, s4, n4, r4, rfl, rfl, rfl, rfl, rfl⟩ := VOwn.form (d + 1) hO
    have hz2 : w1.heap.size + 1 ≤ w2.heap.size := by have h := ht2.grown.size; simpa using h
    have hz3 := hb3.size
    have hR3 : w3.heap[w.heap.size + 1]? = some (.cells #[.int .i64 0, .int .i64 0, .slice none 0 0, .slice none 0 0, .slice none 0 0] 30 (0, 0)) := (hb3.block _ (by omega)).trans ((ht2.grown.block _ (by simp; omega) (by simp; omega)).trans ((Below.heap_alloc _ _ _ hlt).trans HR1.out))
    obtain ⟨r0', r1', r2', r3', r4', rf⟩ := row5 hR3
    have f0 := rf 0
    have f1 := rf 1
    have f2 := rf 2
    have f3 := rf 3
    have f4 := rf 4
    have hB2 : Below w.heap.size w w2 := (HBM.out _).grown ht2.grown (HBM.out _).size (by intro j hj; simp at hj; omega)
    have hBf := Below.on hB2 hb3
    have HR3 := hide' hR3
    have HO := hide' hO
    have HB := hide' hB
    have HBf := hide' hBf
    clear rf hR3 hO hB hBf hb3 hB2 HVo hm2 ht2 hc2 hlk hcv HMo
    go_wp2_with fail
    have hrow := set5_heap (j := 0) (.int .i64 uk) (.int .i64 un) (.slice s2 n2 r2) (.slice s3 n3 r3) (.slice s4 n4 r4) HR3.out
    have hfin := row5 hrow
    simp only [set5, Nat.zero_add] at hfin
    obtain ⟨y0, y1, y2, y3, y4, _⟩ := hfin
    refine bodyPost_ret (v := .tuple #[.agg #[.int .i64 uk, .int .i64 un, .slice s2 n2 r2, .slice s3 n3 r3, .slice s4 n4 r4], .bool bb]) (by simp [results, Try.results17, go_sem, y0, y1, y2, y3, y4]) rfl ?_
    have hB5 := set5_grown w3 (w.heap.size + 1) 0 (.int .i64 uk) (.int .i64 un) (.slice s2 n2 r2) (.slice s3 n3 r3) (.slice s4 n4 r4)
    have hsz4 := set5_size w3 (w.heap.size + 1) 0 (.int .i64 uk) (.int .i64 un) (.slice s2 n2 r2) (.slice s3 n3 r3) (.slice s4 n4 r4)
    rw [HAe.out.1, HAe.out.2]
    refine ⟨_, _, _, _, _, rfl, B, ?_, fun b hb => ?_, HBf.out.grown hB5 (by omega) (by intro j hj; simp at hj; omega)⟩
    · exact VOwn.agree (d + 1) HO.out fun b hb => hB5.block b (HB.out b hb).2 (by have := HB.out b hb; simp; omega)
    · have := HB.out b hb
      show w.heap.size ≤ b ∧ b < (set5 _ _ _ _ _ _ _ _).heap.size
      omega
  · have HF : Hid (¬ (okB (d + 1) v = true ∧ v.1 = 5)) := hno
    have hR1 : w1.heap[w.heap.size + 1]? = some (.cells #[.int .i64 0, .int .i64 0, .slice none 0 0, .slice none 0 0, .slice none 0 0] 30 (0, 0)) := (b1.block _ (by simp)).trans (HA.out _ _).2
    have hlt : w.heap.size + 1 < w1.heap.size := (Array.getElem?_eq_some_iff.1 hR1).1
    have hB1 := Below.on (HA.out _ _).1 b1
    have HBM : Hid (∀ o, Below w.heap.size w (w1.alloc o)) := fun o => hB1.alloc hB1.size o
    have HB1' := hide' hB1
    have HR1 := hide' hR1
    clear hR1 hB1 b1 hno HP
    obtain ⟨r0, r1, r2, r3, r4, rf⟩ := row5 HR1.out
    have f0 := rf 0
    have f1 := rf 1
    have f2 := rf 2
    have f3 := rf 3
    have f4 := rf 4
    obtain ⟨s0, s1, s2, s3, s4, sf⟩ := box_later HR1.out
    clear rf
    go_wp2_with fail
    have hfin := box_later (set5_heap (j := 0) (.int .i64 0) (.int .i64 0) (.slice none 0 0) (.slice none 0 0) (.slice none 0 0) HR1.out)
    simp only [set5, Nat.zero_add] at hfin
    obtain ⟨y0, y1, y2, y3, y4, _⟩ := hfin
    refine bodyPost_ret (v := .tuple #[.agg #[.int .i64 0, .int .i64 0, .slice none 0 0, .slice none 0 0, .slice none 0 0], .bool false]) (by simp [results, Try.results17, go_sem, y0, y1, y2, y3, y4]) rfl ?_
    have hB5 := set5_grown w1 (w.heap.size + 1) 0 (.int .i64 0) (.int .i64 0) (.slice none 0 0) (.slice none 0 0) (.slice none 0 0)
    have hsz4 := set5_size w1 (w.heap.size + 1) 0 (.int .i64 0) (.int .i64 0) (.slice none 0 0) (.slice none 0 0) (.slice none 0 0)
    rw [(dropA_no HF.out).1, (dropA_no HF.out).2]
    exact ⟨_, _, _, _, _, rfl, [], own_vNil d _, by simp, (HB1'.out.grown hB5 (by omega) (by intro j hj; simp at hj; omega)).alloc (by omega) _⟩
end Go.Proofs.Ytbeekbkambkgoaa
