/-
  Texts that a law leans on, one behind the other; no statement is proved here.
-/
import Derived.Test.YtenfnbnhdmkhkaaPk34
import Derived.Lib.SlMapMerge
/-
  What is owned, behind later calls; how many marks a value takes.
-/
namespace Go.Proofs.Ytenfnbnhdmkhkaa
open Go.RowKit
set_option linter.unusedVariables false
set_option linter.unusedSimpArgs false

theorem KOwn.on {w w' : World} {v : Value} {ks : List (List Int)} {B : List Nat} (h : KOwn w v ks B) (hb : Below w.heap.size w w') : KOwn w' v ks B := h.agree fun b hb' => hb.block b (h.lt b hb')
theorem VOwn.on {w w' : World} {d : Nat} {c : Value × Value × Value × Value × Value} {v : Vl d} {B : List Nat} (h : VOwn w d c v B) (hb : Below w.heap.size w w') : VOwn w' d c v B := VOwn.agree d h fun b hb' => hb.block b (VOwn.lt d h b hb')
theorem KOwn.far {w w' : World} {v : Value} {ks : List (List Int)} {B B' : List Nat} (h : KOwn w v ks B) (hT : Turned B' w w') (hd : ∀ b ∈ B, b ∉ B') : KOwn w' v ks B := h.agree fun b hb' => hT.block b (h.lt b hb') (hd b hb')
theorem KOwn.read {w : World} {v : Value} {ks : List (List Int)} {B : List Nat} (h : KOwn w v ks B) : KSeg (fun b => b < w.heap.size) w v ks := h.seg.mono fun b hb => h.lt b hb

theorem sum_cE {d : Nat} (h : ∀ v : Vl d, cE d v ≤ 2 + 2 * szV d v) : ∀ l : List (Vl d), (l.map (cE d)).sum ≤ 2 * l.length + 2 * (l.map (szV d)).sum
  | [] => by simp
  | x :: r => by
    have h1 := h x
    have h2 := sum_cE h r
    simp only [List.map_cons, List.sum_cons, List.length_cons]
    omega

theorem cE_sz : ∀ (d : Nat) (v : Vl d), cE d v ≤ 2 + 2 * szV d v
  | 0, _ => by simp [cE]
  | d + 1, (vk, vn, vs, vK, vL) => by
    have h2 := sum_cE (cE_sz d) vL
    have h3 : szV (d + 1) (vk, vn, vs, vK, vL) = szT vs + szK vK + (vL.length + (vL.map (szV d)).sum) := rfl
    have h4 : cE (d + 1) (vk, vn, vs, vK, vL) = 2 + (vs.length + ((vK.map List.length).sum + (vL.map (cE d)).sum)) := rfl
    have h5 : szK vK = vK.length + (vK.map List.length).sum := rfl
    have h6 : vs.length ≤ szT vs := by unfold szT; omega
    omega

theorem cV_le (d : Nat) (v : Vl (d + 1)) : cV d v ≤ 2 * szV (d + 1) v := by
  obtain ⟨vk, vn, vs, vK, vL⟩ := v
  have h2 := sum_cE (cE_sz d) vL
  have h3 : szV (d + 1) (vk, vn, vs, vK, vL) = szT vs + szK vK + (vL.length + (vL.map (szV d)).sum) := rfl
  have h4 : cV d (vk, vn, vs, vK, vL) = vs.length + (vK.map List.length).sum + (vL.map (cE d)).sum := rfl
  have h5 : szK vK = vK.length + (vK.map List.length).sum := rfl
  have h6 : vs.length ≤ szT vs := by unfold szT; omega
  omega

theorem VOwn.far {w w' : World} {d : Nat} {c : Value × Value × Value × Value × Value} {v : Vl d} {B B' : List Nat} (h : VOwn w d c v B) (hT : Turned B' w w') (hd : ∀ b ∈ B, b ∉ B') : VOwn w' d c v B := VOwn.agree d h fun b hb' => hT.block b (VOwn.lt d h b hb') (hd b hb')
theorem VOwn.read {w : World} {d : Nat} {c : Value × Value × Value × Value × Value} {v : Vl d} {B : List Nat} (h : VOwn w d c v B) : VSeg (fun b => b < w.heap.size) w d c v := h.below (Below.refl _ _)
theorem row_on {w w' : World} {b : Nat} {o : Obj} (h : w.heap[b]? = some o) (hb : Below w.heap.size w w') : w'.heap[b]? = some o := (hb.block b (Array.getElem?_eq_some_iff.1 h).1).trans h
theorem row_far {w w' : World} {b : Nat} {o : Obj} {B : List Nat} (h : w.heap[b]? = some o) (hT : Turned B w w') (hn : b ∉ B) : w'.heap[b]? = some o := (hT.block b (Array.getElem?_eq_some_iff.1 h).1 hn).trans h
theorem row_mark {w w' : World} {b : Nat} {o : Obj} {r : Option Nat} (h : w.heap[b]? = some o) (hg : w.grownBy w' r) (hn : some b ≠ r) : w'.heap[b]? = some o := (hg.block b (Array.getElem?_eq_some_iff.1 h).1 hn).trans h
theorem VOwn.mark {w w' : World} {d : Nat} {c : Value × Value × Value × Value × Value} {v : Vl d} {B : List Nat} {r : Option Nat} (h : VOwn w d c v B) (hg : w.grownBy w' r) (hn : ∀ b ∈ B, some b ≠ r) : VOwn w' d c v B := VOwn.agree d h fun b hb => hg.block b (VOwn.lt d h b hb) (hn b hb)

/-- What a call that hands out a value and a word leaves: a value of the call's own, and the word. -/
def Ans (D : Nat) (a : Vl (D + 1)) (bb : Bool) (w : World) (e : Ending) (w' : World) : Prop := ∃ u0 u1 u2 u3 u4, e = .returned (.tuple #[.agg #[u0, u1, u2, u3, u4], .bool bb]) ∧ ∃ B, VOwn w' (D + 1) (u0, u1, u2, u3, u4) a B ∧ (∀ b ∈ B, w.heap.size ≤ b ∧ b < w'.heap.size) ∧ Below w.heap.size w w'

/-- The value that holds nothing. -/
def vNil (d : Nat) : Vl (d + 1) := ((0 : Int), (0 : Int), ([] : List Int), ([] : List (List Int)), ([] : List (Vl d)))

theorem sz_vNil (d : Nat) : szV (d + 1) (vNil d) = 0 := rfl

theorem tOwn_nil (w : World) : TOwn w (.slice none 0 0) [] [] := ⟨⟨by simp, rfl, .inl ⟨rfl, rfl⟩⟩, .inl ⟨rfl, rfl⟩⟩

theorem own_vNil (d : Nat) (w : World) : VOwn w (d + 1) (.int .i64 0, .int .i64 0, .slice none 0 0, .slice none 0 0, .slice none 0 0) (vNil d) [] :=
  (VOwn_succ _ _ _ _ _).2 ⟨rfl, rfl, [], [], [], tOwn_nil w, .inl ⟨rfl, rfl, rfl⟩, .inl ⟨rfl, rfl, rfl⟩, rfl, by simp⟩
end Go.Proofs.Ytenfnbnhdmkhkaa
/-
  What ValSet answers, and how great it can be; no statement is proved here.
-/
namespace Go.Proofs.Ytenfnbnhdmkhkaa
open Go.RowKit
set_option linter.unusedVariables false
set_option linter.unusedSimpArgs false

theorem sum_keys : ∀ (ks : List (List Int)), (∀ k ∈ ks, k.length ≤ 8) → (ks.map List.length).sum ≤ 8 * ks.length
  | [], _ => by simp
  | k :: ks, h => by
    have h1 := h k (by simp)
    have h2 := sum_keys ks (fun z hz => h z (by simp [hz]))
    simp only [List.map_cons, List.sum_cons, List.length_cons]
    omega

theorem sum_kids {d : Nat} : ∀ (l : List (Vl d)), (∀ v ∈ l, szV d v + 10 ≤ 30 * partsV d v) → (l.map (szV d)).sum + 10 * l.length ≤ 30 * (l.map (partsV d)).sum
  | [], _ => by simp
  | v :: l, h => by
    have h1 := h v (by simp)
    have h2 := sum_kids l (fun z hz => h z (by simp [hz]))
    simp only [List.map_cons, List.sum_cons, List.length_cons]
    omega

/-- A value that may be is small. -/
theorem good_sz : ∀ (d : Nat) (v : Vl d) (deep : Nat), goodB d v deep = true → szV d v + 10 ≤ 30 * partsV d v
  | 0, v, _, h => by simp [goodB] at h
  | d + 1, (vk, vn, vs, vK, vL), deep, h => by
    obtain ⟨_, hsh, hk⟩ := (good_succ _ _ _ _ _ _ _).1 h
    have hkids := sum_kids vL (fun v hv => by
      obtain ⟨i, hi, rfl⟩ := List.mem_iff_getElem.1 hv
      exact good_sz d _ _ (hk i hi))
    have h1 : szV (d + 1) (vk, vn, vs, vK, vL) = vs.length + (vK.length + (vK.map List.length).sum) + (vL.length + (vL.map (szV d)).sum) := rfl
    have h2 : partsV (d + 1) (vk, vn, vs, vK, vL) = 1 + (vL.map (partsV d)).sum := rfl
    obtain ⟨_, z2, z3, _⟩ := shape_zero hsh
    have hs : vs.length ≤ 20 := by
      rcases z2 with rfl | rfl
      · exact (textB_byt (shape_text hsh)).2
      · simp
    have hK : vK.length + (vK.map List.length).sum ≤ 9 * vL.length := by
      rcases z3 with rfl | rfl
      · obtain ⟨hl, ha⟩ := shape_mapB hsh
        have := sum_keys vK (fun k hk' => by
          obtain ⟨i, hi, rfl⟩ := List.mem_iff_getElem.1 hk'
          have h3 := ascB_at ha hi
          simp only [stepB, Bool.and_eq_true] at h3
          have h4 := h3.1
          simp only [nameB, Bool.and_eq_true, decide_eq_true_eq] at h4
          have e : vK.getD i [] = vK[i] := by simp [List.getD_eq_getElem?_getD, hi]
          rw [e] at h4
          omega)
        omega
      · simp
    rw [h1, h2]
    omega

theorem ok_sz {d : Nat} {v : Vl d} (h : okB d v = true) : szV d v ≤ 1200 := by
  simp only [okB, Bool.and_eq_true, decide_eq_true_eq] at h
  have := good_sz d v 1 h.1
  omega

/-- What ValSet answers. -/
def setA (d : Nat) (v : Vl (d + 1)) (key : List Int) (x : Vl d) : Vl (d + 1) := if okB (d + 1) v = true ∧ v.1 = 5 ∧ okB d x = true then (if okB (d + 1) (setV d v key x) = true then setV d v key x else v) else vNil d
def setF (d : Nat) (v : Vl (d + 1)) (key : List Int) (x : Vl d) : Bool := decide (okB (d + 1) v = true ∧ v.1 = 5 ∧ okB d x = true ∧ okB (d + 1) (setV d v key x) = true)

theorem setA_yes {d : Nat} {v : Vl (d + 1)} {key : List Int} {x : Vl d} (h1 : okB (d + 1) v = true) (h2 : v.1 = 5) (h3 : okB d x = true) (h4 : okB (d + 1) (setV d v key x) = true) : setA d v key x = setV d v key x ∧ setF d v key x = true :=
  ⟨(if_pos ⟨h1, h2, h3⟩).trans (if_pos h4), decide_eq_true ⟨h1, h2, h3, h4⟩⟩
theorem setA_back {d : Nat} {v : Vl (d + 1)} {key : List Int} {x : Vl d} (h1 : okB (d + 1) v = true) (h2 : v.1 = 5) (h3 : okB d x = true) (h4 : ¬ okB (d + 1) (setV d v key x) = true) : setA d v key x = v ∧ setF d v key x = false :=
  ⟨(if_pos ⟨h1, h2, h3⟩).trans (if_neg h4), decide_eq_false fun h => h4 h.2.2.2⟩
theorem setA_no {d : Nat} {v : Vl (d + 1)} {key : List Int} {x : Vl d} (h : ¬ (okB (d + 1) v = true ∧ v.1 = 5 ∧ okB d x = true)) : setA d v key x = vNil d ∧ setF d v key x = false :=
  ⟨if_neg h, decide_eq_false fun h' => h ⟨h'.1, h'.2.1, h'.2.2.1⟩⟩

theorem setA_sz (d : Nat) (v : Vl (d + 1)) (key : List Int) (x : Vl d) : szV (d + 1) (setA d v key x) ≤ 1200 := by
  by_cases h : okB (d + 1) v = true ∧ v.1 = 5 ∧ okB d x = true
  · by_cases h4 : okB (d + 1) (setV d v key x) = true
    · rw [(setA_yes h.1 h.2.1 h.2.2 h4).1]; exact ok_sz h4
    · rw [(setA_back h.1 h.2.1 h.2.2 h4).1]; exact ok_sz h.1
  · rw [(setA_no h).1, sz_vNil]; omega

/-- Keys of a map that may be. -/
theorem ok_keys {d : Nat} {vn : Int} {vs : List Int} {vK : List (List Int)} {vL : List (Vl d)} (h : okB (d + 1) (5, vn, vs, vK, vL) = true) :
    vK.length = vL.length ∧ vL.length ≤ 40 ∧ (∀ i, i < vK.length → upB vK i = true) ∧ (∀ i, i < vK.length → ∀ y ∈ vK.getD i [], Byt y) ∧ (∀ i, i < vK.length → (vK.getD i []).length ≤ 1000) := by
  simp only [okB, Bool.and_eq_true, decide_eq_true_eq] at h
  obtain ⟨_, hsh, hgk⟩ := (good_succ _ _ _ _ _ _ _).1 h.1
  obtain ⟨hkl, hasc⟩ := shape_mapB hsh
  have hst : ∀ i, i < vK.length → stepB vK i = true := fun i hi => ascB_at hasc hi
  have hlen : vL.length ≤ 40 := by
    cases d with
    | zero =>
      cases vL with
      | nil => simp
      | cons x r => have := hgk 0 (by simp); exact absurd this (by simp [goodB])
    | succ d => exact parts_many h.2
  exact ⟨hkl, hlen, step_up hst, fun i hi => (step_name (hst i hi)).1, fun i hi => (step_name (hst i hi)).2⟩
end Go.Proofs.Ytenfnbnhdmkhkaa
/-
  A part of a value holds no map that holds the part: what is turned in the map's own block leaves its parts as they were; no statement is proved here.
-/
namespace Go.Proofs.Ytenfnbnhdmkhkaa
open Go.RowKit
set_option linter.unusedVariables false
set_option linter.unusedSimpArgs false

theorem owns_same {w : World} {b n n' : Nat} {D D' : DataW Value} (h : w.ownsMap Try.prog 9 tokR b n D) (h' : w.ownsMap Try.prog 9 tokR b n' D') : D = D' := by
  obtain ⟨es, cl, hb, _, _, rfl⟩ := h
  obtain ⟨es', cl', hb', _, _, rfl⟩ := h'
  rw [hb] at hb'
  simp only [Option.some.injEq, Obj.map.injEq] at hb'
  rw [hb'.1]

theorem ent_inj {vK vK' : List (List Int)} {ps ps' : List Value} {n n' : Nat} (h : DataW.map (entF vK ps n) = DataW.map (entF vK' ps' n')) : n = n' ∧ ∀ i, i < n → ps.getD i .nilIface = ps'.getD i .nilIface := by
  have h1 : entF vK ps n = entF vK' ps' n' := by injection h
  have hn : n = n' := by have := congrArg List.length h1; simpa [entF] using this
  subst hn
  refine ⟨rfl, fun i hi => ?_⟩
  have h2 := congrArg (fun l => l[i]?) h1
  simp only [entF, List.getElem?_map, List.getElem?_range hi, Option.map_some, Option.some.injEq, Prod.mk.injEq, DataW.held.injEq] at h2
  exact h2.2

theorem sum_same {α β : Type} {f : α → Nat} {g : β → Nat} {l : List α} {l' : List β} (hl : l.length = l'.length) (h : ∀ i (h : i < l.length) (h' : i < l'.length), f l[i] = g l'[i]) : (l.map f).sum = (l'.map g).sum := by
  congr 1
  refine List.ext_getElem (by simpa using hl) fun i h1 h2 => ?_
  simp only [List.getElem_map]
  exact h i (by simpa using h1) (by simpa using h2)

theorem sum_mem {α : Type} (f : α → Nat) : ∀ (l : List α) (i : Nat) (h : i < l.length), f l[i] ≤ (l.map f).sum
  | x :: l, 0, _ => by simp
  | x :: l, i + 1, h => by have := sum_mem f l i (by simpa using h); simp; omega

theorem kid_lt {d : Nat} (v : Vl (d + 1)) (i : Nat) (h : i < v.2.2.2.2.length) : partsV d v.2.2.2.2[i] < partsV (d + 1) v := by
  have h1 := sum_mem (partsV d) v.2.2.2.2 i h
  have h2 : partsV (d + 1) v = 1 + (v.2.2.2.2.map (partsV d)).sum := rfl
  omega

/-- A part: without parts of its own, a list, or a map. -/
theorem PSeg.kinds {R : Nat → Prop} {w : World} {d deep : Nat} {p : Value} {vk vn : Int} {vs : List Int} {vK : List (List Int)} {vL : List (Vl d)} (h : PSeg R w (d + 1) p (vk, vn, vs, vK, vL)) (hg : goodB (d + 1) (vk, vn, vs, vK, vL) deep = true) :
    (vL = [] ∧ (∀ x, p ≠ .iface 84 x) ∧ ∀ x, p ≠ .iface 60 x) ∨
    (∃ a cap, p = .iface 84 (.agg #[.slice a vL.length cap]) ∧ (vL = [] ∨ ∃ b off, a = some ⟨b, off, none⟩ ∧ R b ∧ ∀ i (h : i < vL.length), ∃ u, w.cell? ⟨b, off + i, none⟩ = some u ∧ PSeg R w d u (vL[i]))) ∨
    (∃ b ps, p = .iface 60 (.agg #[.map (some b)]) ∧ R b ∧ w.ownsMap Try.prog 9 tokR b 64 (.map (entF vK ps vL.length)) ∧ ∀ i (h : i < vL.length), PSeg R w d (ps.getD i .nilIface) (vL[i])) := by
  obtain ⟨_, hs, _⟩ := (good_succ _ _ _ _ _ _ _).1 hg
  have hbare : vk = 4 ∨ vk = 5 ∨ vL = [] := by
    simp only [shapeB, bareB, Bool.and_eq_true, Bool.or_eq_true, decide_eq_true_eq] at hs
    rcases hs.1.2 with (h | h) | h
    · exact .inl h
    · exact .inr (.inl h)
    · exact .inr (.inr (List.length_eq_zero_iff.1 h))
  rcases h with ⟨hk, rfl⟩ | ⟨hk, rfl⟩ | ⟨hk, rfl⟩ | ⟨hk, rfl⟩ | ⟨hk, rfl⟩ | ⟨hk, a, cap, hp, hc⟩ | ⟨hk, b, ps, hp, hR, hm, hc⟩
  · simp only at hk; exact .inl ⟨by rcases hbare with h | h | h <;> first | omega | exact h, by simp, by simp⟩
  · simp only at hk; exact .inl ⟨by rcases hbare with h | h | h <;> first | omega | exact h, by simp, by simp⟩
  · simp only at hk; exact .inl ⟨by rcases hbare with h | h | h <;> first | omega | exact h, by simp, by simp⟩
  · simp only at hk; exact .inl ⟨by rcases hbare with h | h | h <;> first | omega | exact h, by simp, by simp⟩
  · simp only at hk; exact .inl ⟨by rcases hbare with h | h | h <;> first | omega | exact h, by simp, by simp⟩
  · exact .inr (.inl ⟨a, cap, hp, hc⟩)
  · simp only at hk
    subst hk
    obtain ⟨hl, ha⟩ := shape_mapB hs
    refine .inr (.inr ⟨b, ps, hp, hR, ?_, hc⟩)
    have hm' : w.ownsMap Try.prog 9 tokR b 64 (mapD vK ps vL.length) := hm
    rw [mapD_list vK ps vL.length (fun i hi => ascB_at ha (by omega))] at hm'
    exact hm'

/-- What lies in a part is one value. -/
theorem PSeg.same {R R' : Nat → Prop} {w : World} : ∀ (d d' : Nat) (p : Value) (v : Vl d) (v' : Vl d') (deep deep' : Nat), PSeg R w d p v → PSeg R' w d' p v' → goodB d v deep = true → goodB d' v' deep' = true → partsV d v = partsV d' v' := by
  intro d
  induction d with
  | zero => intro d' p v v' deep deep' h; exact h.elim
  | succ d ih =>
    intro d' p v v' deep deep' h h' hg hg'
    cases d' with
    | zero => exact h'.elim
    | succ d' =>
      obtain ⟨vk, vn, vs, vK, vL⟩ := v
      obtain ⟨vk', vn', vs', vK', vL'⟩ := v'
      obtain ⟨_, _, hk⟩ := (good_succ _ _ _ _ _ _ _).1 hg
      obtain ⟨_, _, hk'⟩ := (good_succ _ _ _ _ _ _ _).1 hg'
      show 1 + (vL.map (partsV d)).sum = 1 + (vL'.map (partsV d')).sum
      congr 1
      rcases h.kinds hg with ⟨e, n1, n2⟩ | ⟨a, cap, hp, hc⟩ | ⟨b, ps, hp, _, hm, hc⟩ <;> rcases h'.kinds hg' with ⟨e', n1', n2'⟩ | ⟨a', cap', hp', hc'⟩ | ⟨b', ps', hp', _, hm', hc'⟩
      · subst e; subst e'; rfl
      · exact absurd hp' (n1 _)
      · exact absurd hp' (n2 _)
      · exact absurd hp (n1' _)
      · rw [hp] at hp'
        simp only [Value.iface.injEq, true_and, Value.agg.injEq, Array.mk.injEq, List.cons.injEq, Value.slice.injEq, and_true] at hp'
        obtain ⟨rfl, hl, _⟩ := hp'
        refine sum_same hl fun i h1 h2 => ?_
        rcases hc with h0 | ⟨b, off, e, _, hc⟩
        · subst h0; simp at h1
        rcases hc' with h0 | ⟨b', off', e', _, hc'⟩
        · subst h0; simp at h2
        rw [e] at e'
        simp only [Option.some.injEq, Addr.mk.injEq, and_true] at e'
        obtain ⟨rfl, rfl⟩ := e'
        obtain ⟨u, hu, hs⟩ := hc i h1
        obtain ⟨u', hu', hs'⟩ := hc' i h2
        rw [hu] at hu'
        obtain rfl : u = u' := by simpa using hu'
        exact ih d' u _ _ (deep + 1) (deep' + 1) hs hs' (hk i h1) (hk' i h2)
      · rw [hp] at hp'; simp at hp'
      · exact absurd hp (n2' _)
      · rw [hp] at hp'; simp at hp'
      · rw [hp] at hp'
        simp only [Value.iface.injEq, true_and, Value.agg.injEq, Array.mk.injEq, List.cons.injEq, Value.map.injEq, Option.some.injEq, and_true] at hp'
        subst hp'
        obtain ⟨hl, hps⟩ := ent_inj (owns_same hm hm')
        refine sum_same hl fun i h1 h2 => ?_
        have hs := hc i h1
        rw [hps i h1] at hs
        exact ih d' _ _ _ (deep + 1) (deep' + 1) hs (hc' i h2) (hk i h1) (hk' i h2)

/-- The parts of a map lie elsewhere than the map. -/
theorem PSeg.avoid {R : Nat → Prop} {w : World} {D deep b : Nat} {V : Vl (D + 1)} (hV : PSeg R w (D + 1) (.iface 60 (.agg #[.map (some b)])) V) (hG : goodB (D + 1) V deep = true) :
    ∀ (d : Nat) (p : Value) (v : Vl d) (dp : Nat), PSeg R w d p v → goodB d v dp = true → partsV d v < partsV (D + 1) V → PSeg (fun c => R c ∧ c ≠ b) w d p v := by
  intro d
  induction d with
  | zero => intro p v dp h; exact h.elim
  | succ d ih =>
    intro p v dp h hg hlt
    have h0 := h
    have hkid : ∀ i (hi : i < v.2.2.2.2.length), goodB d v.2.2.2.2[i] (dp + 1) = true := by
      obtain ⟨vk, vn, vs, vK, vL⟩ := v
      exact ((good_succ _ _ _ _ _ _ _).1 hg).2.2
    have hmap : ∃ es cl, w.heap[b]? = some (.map es cl) := by
      obtain ⟨vk, vn, vs, vK, vL⟩ := V
      rcases hV.kinds hG with ⟨_, _, n2⟩ | ⟨a, cap, hp, _⟩ | ⟨b', ps, hp, _, hm, _⟩
      · exact absurd rfl (n2 _)
      · simp at hp
      · simp at hp
        subst hp
        obtain ⟨es, cl, hb, _⟩ := hm
        exact ⟨es, cl, hb⟩
    rcases h with h | h | h | h | h | ⟨hk, a, cap, hp, hc⟩ | ⟨hk, b', ps, hp, hR, hm, hc⟩
    · exact .inl h
    · exact .inr (.inl h)
    · exact .inr (.inr (.inl h))
    · exact .inr (.inr (.inr (.inl h)))
    · exact .inr (.inr (.inr (.inr (.inl h))))
    · refine .inr (.inr (.inr (.inr (.inr (.inl ⟨hk, a, cap, hp, ?_⟩)))))
      rcases hc with h0 | ⟨c, off, e, hR, hc⟩
      · exact .inl h0
      · by_cases hn : v.2.2.2.2 = []
        · exact .inl hn
        · refine .inr ⟨c, off, e, ⟨hR, ?_⟩, fun i hi => ?_⟩
          · rintro rfl
            obtain ⟨u, hu, _⟩ := hc 0 (List.length_pos_iff.2 hn)
            obtain ⟨es, cl, hb⟩ := hmap
            simp [World.cell?, hb] at hu
          · obtain ⟨u, hu, hv⟩ := hc i hi
            exact ⟨u, hu, ih u _ (dp + 1) hv (hkid i hi) (by have := kid_lt v i hi; omega)⟩
    · refine .inr (.inr (.inr (.inr (.inr (.inr ⟨hk, b', ps, hp, ⟨hR, ?_⟩, hm, fun i hi => ih _ _ (dp + 1) (hc i hi) (hkid i hi) (by have := kid_lt v i hi; omega)⟩)))))
      rintro rfl
      have := PSeg.same (d + 1) (D + 1) p v V dp deep h0 (hp ▸ hV) hg hG
      omega
end Go.Proofs.Ytenfnbnhdmkhkaa
/-
  A map of parts into which a key was put: valueOf of it; no statement is proved here.
-/
namespace Go.Proofs.Ytenfnbnhdmkhkaa
open Go.RowKit Go.Shelf
set_option linter.unusedVariables false
set_option linter.unusedSimpArgs false

theorem avoid_allG {R : Nat → Prop} {w w2 : World} {d b deep : Nat} {vn : Int} {vs : List Int} {vK : List (List Int)} {vL : List (Vl d)} (hp : PSeg R w (d + 1) (.iface 60 (.agg #[.map (some b)])) (5, vn, vs, vK, vL)) (hg : goodB (d + 1) (5, vn, vs, vK, vL) deep = true) (ht : w.grownBy w2 (some b)) (hR : ∀ c, R c → c < w.heap.size) :
    ∃ ps, R b ∧ w.ownsMap Try.prog 9 tokR b 64 (.map (entF vK ps vL.length)) ∧ ∀ i (h : i < vL.length), PSeg R w2 d (ps.getD i .nilIface) (vL[i]) := by
  rcases hp.kinds hg with ⟨_, _, n2⟩ | ⟨a, cap, e, _⟩ | ⟨b', ps, e, hRb, hm, hc⟩
  · exact absurd rfl (n2 _)
  · simp at e
  · simp at e
    subst e
    refine ⟨ps, hRb, hm, fun i hi => ?_⟩
    have h1 := PSeg.avoid hp hg d _ _ (deep + 1) (hc i hi) (((good_succ _ _ _ _ _ _ _).1 hg).2.2 i hi) (kid_lt (5, vn, vs, vK, vL) i hi)
    exact PSeg.carry (fun c h => h.1) (fun c h => ht.block c (hR c h.1) (by simpa using h.2)) d h1

theorem putL_all {α : Type} {ks : List (List Int)} {key : List Int} {l : List α} {x : α} (h : l.length = ks.length) (P : Nat → α → Prop) (z : α) (h1 : ∀ j, j < posK ks key → P j (l.getD j z)) (h2 : P (posK ks key) x) (h3 : ∀ i, skipK ks key + i < ks.length → P (posK ks key + 1 + i) (l.getD (skipK ks key + i) z)) : ∀ i, i < (putL ks key l x).length → P i ((putL ks key l x).getD i z) := by
  intro i hi
  rw [length_putL _ h] at hi
  have hsl := skipK_le ks key
  rcases Nat.lt_trichotomy i (posK ks key) with hlt | heq | hgt
  · rw [putL_lt _ _ h hlt]; exact h1 i hlt
  · rw [heq, putL_at _ _ h]; exact h2
  · obtain ⟨j, rfl⟩ : ∃ j, i = posK ks key + 1 + j := ⟨i - posK ks key - 1, by omega⟩
    rw [putL_gt _ _ h]
    exact h3 j (by omega)

theorem getD_eq {α : Type} (l : List α) (i : Nat) (x : α) (h : i < l.length) : l.getD i x = l[i] := by simp [List.getD, List.getElem?_eq_getElem h]

/-- valueOf of a map whose part under the key was put. -/
theorem set_value {R : Nat → Prop} {w w4 : World} {d b : Nat} {key : List Int} {vn : Int} {vs : List Int} {vK : List (List Int)} {vL : List (Vl d)} {x : Vl d} {p : Value} {D0 : DataW Value} (hp : PSeg R w (d + 1) (.iface 60 (.agg #[.map (some b)])) (5, vn, vs, vK, vL)) (hok : okB (d + 1) (5, vn, vs, vK, vL) = true) (ht : w.grownBy w4 (some b)) (hR : ∀ c, R c → c < w.heap.size)
    (hm0 : w.ownsMap Try.prog 9 tokR b 64 D0) (hm4 : w4.ownsMap Try.prog 9 tokR b 65 (D0.put (.string (u8s key)) (.held p))) (hy : ∀ y ∈ key, Byt y) (hkl : key.length ≤ 1048576) (hpx : PSeg (fun c => c < w4.heap.size) w4 d p x) (hokx : okB d x = true) :
    Calls Try.prog 34 #[.iface 60 (.agg #[.map (some b)])] w4 (MapEnd d (putL vK key vL x) (setK vK key) w4) := by
  obtain ⟨hKL, hlen, hup, hbt, hkb⟩ := ok_keys hok
  have hok' := hok
  simp only [okB, Bool.and_eq_true, decide_eq_true_eq] at hok' hokx
  obtain ⟨ps, hRb, hm, hc⟩ := avoid_allG hp hok'.1 ht hR
  have hgk := ((good_succ _ _ _ _ _ _ _).1 hok'.1).2.2
  have hkid := parts_kid hok'.2
  have hz4 := ht.size
  rw [owns_same hm0 hm, ← hKL, put_ent hup hbt hy] at hm4
  have hl1 : (setK vK key).length = posK vK key + 1 + (vK.length - skipK vK key) := length_putL _ rfl
  have hl2 : (putL vK key vL x).length = posK vK key + 1 + (vK.length - skipK vK key) := length_putL _ hKL.symm
  have hpl := posK_le vK key
  have hsl := skipK_le vK key
  have hll : (setK vK key).length = (putL vK key vL x).length := by omega
  have hsb := set_byt hbt hy 1048576 (fun i hi => by have := hkb i hi; omega) hkl
  have hsu := set_up hup hbt hy
  have hskp : skipK vK key ≤ posK vK key + 1 ∧ posK vK key ≤ skipK vK key := by rcases skipK_cases vK key with ⟨h, _⟩ | ⟨h, _⟩ <;> omega
  refine valueOf_mapPart d (valueOf_any d) w4.heap.size b (putL vK key (padP ps vK.length) p) (putL vK key vL x) (setK vK key) w4 (by have := hR b hRb; omega) ?_ hll (fun i hi => hsu i (by omega)) (fun i hi => hsb i (by omega)) ?_ (Nat.le_refl _) (by omega) ?_
  · rw [mapD_listU _ _ _ (fun i hi => hsu i (by omega)), ← hll]
    exact hm4.mono (by omega)
  · intro i hi
    have hlp := length_padP ps vK.length
    have hi' : i < posK vK key + 1 + (vK.length - skipK vK key) := by omega
    rcases Nat.lt_trichotomy i (posK vK key) with hlt | heq | hgt
    · have e1 := putL_lt (key := key) p .nilIface hlp (j := i) hlt
      have e2 := putL_lt (key := key) x x hKL.symm (j := i) hlt
      rw [getD_eq _ _ _ hi, getD_eq vL i x (by omega)] at e2
      rw [e1, e2, padP_at ps (by omega)]
      exact PSeg.carry (fun c h => by have := hR c h; omega) (fun c _ => rfl) d (hc i (by omega))
    · subst heq
      have e1 := putL_at (key := key) p .nilIface hlp
      have e2 := putL_at (key := key) x x hKL.symm
      rw [getD_eq _ _ _ hi] at e2
      rw [e1, e2]
      exact hpx
    · obtain ⟨j, rfl⟩ : ∃ j, i = posK vK key + 1 + j := ⟨i - posK vK key - 1, by omega⟩
      have e1 := putL_gt (key := key) p .nilIface hlp (i := j)
      have e2 := putL_gt (key := key) x x hKL.symm (i := j)
      rw [getD_eq _ _ _ hi, getD_eq vL _ x (by omega)] at e2
      rw [e1, e2, padP_at ps (by omega)]
      exact PSeg.carry (fun c h => by have := hR c h; omega) (fun c _ => rfl) d (hc _ (by omega))
  · intro i hi
    rcases Nat.lt_trichotomy i (posK vK key) with hlt | heq | hgt
    · have e2 := putL_lt (key := key) x x hKL.symm (j := i) hlt
      rw [getD_eq _ _ _ hi, getD_eq vL i x (by omega)] at e2
      rw [e2]
      exact ⟨_, hgk i (by omega), hkid i (by omega)⟩
    · subst heq
      have e2 := putL_at (key := key) x x hKL.symm
      rw [getD_eq _ _ _ hi] at e2
      rw [e2]
      exact ⟨_, hokx.1, hokx.2⟩
    · obtain ⟨j, rfl⟩ : ∃ j, i = posK vK key + 1 + j := ⟨i - posK vK key - 1, by omega⟩
      have e2 := putL_gt (key := key) x x hKL.symm (i := j)
      rw [getD_eq _ _ _ hi, getD_eq vL _ x (by omega)] at e2
      rw [e2]
      exact ⟨_, hgk _ (by omega), hkid _ (by omega)⟩
end Go.Proofs.Ytenfnbnhdmkhkaa
/-
  The entries of a map laid into another, one by one: the value that comes of it, and the datum of a map of parts; no statement is proved here.
-/
namespace Go.Proofs.Ytenfnbnhdmkhkaa
open Go.RowKit Go.Shelf
set_option linter.unusedVariables false
set_option linter.unusedSimpArgs false

/-- Entries laid into a map. -/
def mrgV (d : Nat) (v : Vl (d + 1)) (es : List (List Int × Vl d)) : Vl (d + 1) := es.foldl (fun o e => setV d o e.1 e.2) v
/-- The entries of a map. -/
def entV (d : Nat) (b : Vl (d + 1)) : List (List Int × Vl d) := b.2.2.2.1.zip b.2.2.2.2

theorem mrgV_zero (d : Nat) (v : Vl (d + 1)) (es : List (List Int × Vl d)) : mrgV d v (es.take 0) = v := rfl
theorem mrgV_step {d : Nat} {v : Vl (d + 1)} {bK : List (List Int)} {bL : List (Vl d)} (hKL : bK.length = bL.length) {i : Nat} (hi : i < bL.length) :
    mrgV d v ((bK.zip bL).take (i + 1)) = setV d (mrgV d v ((bK.zip bL).take i)) (bK.getD i []) bL[i] := by
  have hz : i < (bK.zip bL).length := by rw [List.length_zip]; omega
  rw [List.take_add_one, List.getElem?_eq_getElem hz]
  have e : (bK.zip bL)[i] = (bK.getD i [], bL[i]) := by
    rw [List.getElem_zip]
    simp [List.getD_eq_getElem?_getD, List.getElem?_eq_getElem (show i < bK.length by omega)]
  rw [e, mrgV, Option.toList_some, List.foldl_append]
  rfl

/-- What may be laid together. -/
def SInv (d : Nat) (o : Vl (d + 1)) (n : Nat) : Prop := o.2.2.2.1.length = o.2.2.2.2.length ∧ o.2.2.2.1.length ≤ n ∧ (∀ i, i < o.2.2.2.1.length → upB o.2.2.2.1 i = true) ∧ (∀ i, i < o.2.2.2.1.length → (∀ x ∈ o.2.2.2.1.getD i [], Byt x) ∧ (o.2.2.2.1.getD i []).length ≤ 1048576)

theorem SInv.set {d n : Nat} {o : Vl (d + 1)} {key : List Int} {x : Vl d} (h : SInv d o n) (hy : ∀ y ∈ key, Byt y) (hk : key.length ≤ 1048576) : SInv d (setV d o key x) (n + 1) := by
  obtain ⟨k, vn, vs, K, L⟩ := o
  obtain ⟨hKL, hn, hu, hb⟩ := h
  simp only at hKL hn hu hb
  have hbt : ∀ i, i < K.length → ∀ x ∈ K.getD i [], Byt x := fun i hi => (hb i hi).1
  have hl1 : (setK K key).length = posK K key + 1 + (K.length - skipK K key) := length_putL _ rfl
  have hl2 : (putL K key L x).length = posK K key + 1 + (K.length - skipK K key) := length_putL _ hKL.symm
  have hpl := posK_le K key
  have hsl := skipK_le K key
  have hsp : posK K key ≤ skipK K key := by rcases skipK_cases K key with ⟨h, _⟩ | ⟨h, _⟩ <;> omega
  exact ⟨by show (setK K key).length = (putL K key L x).length; omega, by show (setK K key).length ≤ n + 1; omega, set_up hu hbt hy, set_byt hbt hy 1048576 (fun i hi => (hb i hi).2) hk⟩

theorem SInv.of_ok {d : Nat} {vn : Int} {vs : List Int} {vK : List (List Int)} {vL : List (Vl d)} (h : okB (d + 1) (5, vn, vs, vK, vL) = true) : SInv d (5, vn, vs, vK, vL) 40 := by
  obtain ⟨hKL, hlen, hup, hbt, hkb⟩ := ok_keys h
  exact ⟨hKL, by show vK.length ≤ 40; omega, hup, fun i hi => ⟨hbt i hi, Nat.le_trans (hkb i hi) (by omega)⟩⟩

theorem SInv.all {d : Nat} {a : Vl (d + 1)} {bK : List (List Int)} {bL : List (Vl d)} (h : SInv d a 40) (hKL : bK.length = bL.length) (hb : ∀ i, i < bK.length → (∀ x ∈ bK.getD i [], Byt x) ∧ (bK.getD i []).length ≤ 1048576) : ∀ i, i ≤ bL.length → SInv d (mrgV d a ((bK.zip bL).take i)) (40 + i)
  | 0, _ => h
  | i + 1, hi => by
    rw [mrgV_step hKL (by omega)]
    exact (SInv.all h hKL hb i (by omega)).set (hb i (by omega)).1 (hb i (by omega)).2

/-- A map of parts, and the value that it stands for. -/
def GInv (R : Nat → Prop) (w : World) (d : Nat) (o : Vl (d + 1)) (P : List Value) : Prop :=
  P.length = o.2.2.2.1.length ∧ ∀ i (h : i < o.2.2.2.2.length), PSeg R w d (P.getD i .nilIface) o.2.2.2.2[i] ∧ ∃ deep, goodB d o.2.2.2.2[i] deep = true ∧ partsV d o.2.2.2.2[i] ≤ 40

theorem padP_self (ps : List Value) {n : Nat} (h : ps.length = n) : padP ps n = ps := by
  apply List.ext_getElem?
  intro i
  by_cases hi : i < n
  · simp [padP, hi, List.getD_eq_getElem?_getD, List.getElem?_eq_getElem (show i < ps.length by omega)]
  · rw [List.getElem?_eq_none (by rw [length_padP]; omega), List.getElem?_eq_none (by omega)]

theorem GInv.put {R : Nat → Prop} {w : World} {d n : Nat} {o : Vl (d + 1)} {P : List Value} {key : List Int} {x : Vl d} {p : Value} (hs : SInv d o n) (h : GInv R w d o P) (hy : ∀ y ∈ key, Byt y) (hp : PSeg R w d p x) (hg : ∃ deep, goodB d x deep = true ∧ partsV d x ≤ 40) :
    GInv R w d (setV d o key x) (putL o.2.2.2.1 key P p) ∧ (DataW.map (entF o.2.2.2.1 P o.2.2.2.1.length)).put (.string (u8s key)) (.held p) = .map (entF (setV d o key x).2.2.2.1 (putL o.2.2.2.1 key P p) (setV d o key x).2.2.2.1.length) := by
  obtain ⟨k, vn, vs, K, L⟩ := o
  obtain ⟨hKL, hn, hu, hb⟩ := hs
  obtain ⟨hP, hall⟩ := h
  simp only at hKL hn hu hb hP hall
  have hbt : ∀ i, i < K.length → ∀ x ∈ K.getD i [], Byt x := fun i hi => (hb i hi).1
  have hl1 : (setK K key).length = posK K key + 1 + (K.length - skipK K key) := length_putL _ rfl
  have hl2 : (putL K key L x).length = posK K key + 1 + (K.length - skipK K key) := length_putL _ hKL.symm
  have hl3 : (putL K key P p).length = posK K key + 1 + (K.length - skipK K key) := length_putL _ hP
  have hpl := posK_le K key
  have hsl := skipK_le K key
  refine ⟨⟨by show (putL K key P p).length = (setK K key).length; omega, ?_⟩, ?_⟩
  · show ∀ i (h : i < (putL K key L x).length), PSeg R w d ((putL K key P p).getD i .nilIface) (putL K key L x)[i] ∧ ∃ deep, goodB d (putL K key L x)[i] deep = true ∧ partsV d (putL K key L x)[i] ≤ 40
    intro i hi
    have hi' : i < posK K key + 1 + (K.length - skipK K key) := by omega
    rcases Nat.lt_trichotomy i (posK K key) with hlt | heq | hgt
    · have e1 := putL_lt (key := key) p .nilIface hP (j := i) hlt
      have e2 := putL_lt (key := key) x x hKL.symm (j := i) hlt
      rw [getD_eq _ _ _ hi, getD_eq L i x (by omega)] at e2
      rw [e1, e2]
      exact hall i (by omega)
    · subst heq
      have e1 := putL_at (key := key) p .nilIface hP
      have e2 := putL_at (key := key) x x hKL.symm
      rw [getD_eq _ _ _ hi] at e2
      rw [e1, e2]
      exact ⟨hp, hg⟩
    · obtain ⟨j, rfl⟩ : ∃ j, i = posK K key + 1 + j := ⟨i - posK K key - 1, by omega⟩
      have e1 := putL_gt (key := key) p .nilIface hP (i := j)
      have e2 := putL_gt (key := key) x x hKL.symm (i := j)
      rw [getD_eq _ _ _ hi, getD_eq L _ x (by omega)] at e2
      rw [e1, e2]
      exact hall _ (by omega)
  · have := put_ent (ps := P) (p := p) hu hbt hy
    rw [padP_self P hP] at this
    exact this

/-- Entries laid into a map of parts, one by one. -/
theorem merge_fold {R : Nat → Prop} {w : World} {d : Nat} {a : Vl (d + 1)} {P : List Value} {bK : List (List Int)} {bL : List (Vl d)} {ps : List Value} (hs : SInv d a 40) (h : GInv R w d a P) (hKL : bK.length = bL.length) (hb : ∀ i, i < bK.length → (∀ x ∈ bK.getD i [], Byt x) ∧ (bK.getD i []).length ≤ 1048576)
    (hps : ∀ i (h : i < bL.length), PSeg R w d (ps.getD i .nilIface) bL[i] ∧ ∃ deep, goodB d bL[i] deep = true ∧ partsV d bL[i] ≤ 40) : ∀ i, i ≤ bL.length → ∃ P', GInv R w d (mrgV d a ((bK.zip bL).take i)) P' ∧
      (entF bK ps i).foldl (fun D q => D.put q.1 q.2) (DataW.map (entF a.2.2.2.1 P a.2.2.2.1.length)) = .map (entF (mrgV d a ((bK.zip bL).take i)).2.2.2.1 P' (mrgV d a ((bK.zip bL).take i)).2.2.2.1.length)
  | 0, _ => ⟨P, h, rfl⟩
  | i + 1, hi => by
    obtain ⟨P', hM, hD⟩ := merge_fold hs h hKL hb hps i (by omega)
    have hsi := SInv.all hs hKL hb i (by omega)
    obtain ⟨h1, h2⟩ := GInv.put hsi hM (hb i (by omega)).1 (hps i (by omega)).1 (hps i (by omega)).2
    rw [mrgV_step hKL (show i < bL.length by omega)]
    refine ⟨_, h1, ?_⟩
    have e : entF bK ps (i + 1) = entF bK ps i ++ [(.string (u8s (bK.getD i [])), .held (ps.getD i .nilIface))] := by simp [entF, List.range_succ]
    rw [e, List.foldl_append, hD]
    exact h2

/-- What ValMerge answers. -/
def mrgA (d : Nat) (a b : Vl (d + 1)) : Vl (d + 1) := if (okB (d + 1) a = true ∧ a.1 = 5) ∧ (okB (d + 1) b = true ∧ b.1 = 5) ∧ okB (d + 1) (mrgV d a (entV d b)) = true then mrgV d a (entV d b) else vNil d
def mrgF (d : Nat) (a b : Vl (d + 1)) : Bool := decide ((okB (d + 1) a = true ∧ a.1 = 5) ∧ (okB (d + 1) b = true ∧ b.1 = 5) ∧ okB (d + 1) (mrgV d a (entV d b)) = true)
theorem mrgA_yes {d : Nat} {a b : Vl (d + 1)} (h : (okB (d + 1) a = true ∧ a.1 = 5) ∧ (okB (d + 1) b = true ∧ b.1 = 5) ∧ okB (d + 1) (mrgV d a (entV d b)) = true) : mrgA d a b = mrgV d a (entV d b) ∧ mrgF d a b = true := ⟨if_pos h, decide_eq_true h⟩
theorem mrgA_no {d : Nat} {a b : Vl (d + 1)} (h : ¬ ((okB (d + 1) a = true ∧ a.1 = 5) ∧ (okB (d + 1) b = true ∧ b.1 = 5) ∧ okB (d + 1) (mrgV d a (entV d b)) = true)) : mrgA d a b = vNil d ∧ mrgF d a b = false := ⟨if_neg h, decide_eq_false h⟩
theorem mrgA_sz (d : Nat) (a b : Vl (d + 1)) : szV (d + 1) (mrgA d a b) ≤ 1200 := by
  by_cases h : (okB (d + 1) a = true ∧ a.1 = 5) ∧ (okB (d + 1) b = true ∧ b.1 = 5) ∧ okB (d + 1) (mrgV d a (entV d b)) = true
  · rw [(mrgA_yes h).1]; exact ok_sz h.2.2
  · rw [(mrgA_no h).1, sz_vNil]; omega

/-- A map that may be has neither number nor text. -/
theorem ok_bare5 {d : Nat} {vn : Int} {vs : List Int} {vK : List (List Int)} {vL : List (Vl d)} (h : okB (d + 1) (5, vn, vs, vK, vL) = true) : vn = 0 ∧ vs = [] := by
  simp only [okB, Bool.and_eq_true, decide_eq_true_eq] at h
  have hsh := ((good_succ _ _ _ _ _ _ _).1 h.1).2.1
  simp [shapeB, bareB] at hsh
  exact ⟨hsh.1.1, hsh.1.2⟩

/-- The merged value's head. -/
theorem mrg_head {d : Nat} {vn : Int} {vs : List Int} {aK : List (List Int)} {aL : List (Vl d)} (h : okB (d + 1) (5, vn, vs, aK, aL) = true) (es : List (List Int × Vl d)) : mrgV d (5, vn, vs, aK, aL) es = ((5 : Int), (0 : Int), ([] : List Int), (mrgV d (5, vn, vs, aK, aL) es).2.2.2.1, (mrgV d (5, vn, vs, aK, aL) es).2.2.2.2) := by
  obtain ⟨rfl, rfl⟩ := ok_bare5 h
  have key : ∀ (es : List (List Int × Vl d)) (o : Vl (d + 1)), o = ((5 : Int), (0 : Int), ([] : List Int), o.2.2.2.1, o.2.2.2.2) → mrgV d o es = ((5 : Int), (0 : Int), ([] : List Int), (mrgV d o es).2.2.2.1, (mrgV d o es).2.2.2.2) := by
    intro es
    induction es with
    | nil => exact fun o h => h
    | cons e es ih => exact fun o _ => ih (setV d o e.1 e.2) rfl
  exact key es _ rfl
end Go.Proofs.Ytenfnbnhdmkhkaa
/-
  What stands under a key in a map: behind a key that was put, and behind another's entries that were laid in; no statement is proved here.
-/
namespace Go.Proofs.Ytenfnbnhdmkhkaa
open Go.RowKit Go.Shelf
set_option linter.unusedVariables false
set_option linter.unusedSimpArgs false

/-- Under the key k stands z. -/
def HasK (d : Nat) (o : Vl (d + 1)) (k : List Int) (z : Vl d) : Prop := ∃ i, i < o.2.2.2.2.length ∧ o.2.2.2.1.getD i [] = k ∧ o.2.2.2.2.getD i z = z

theorem ne_of_lt {a b : List Int} (h : ltS a b = true) : a ≠ b := by
  intro e
  have := less_ne h
  rw [e] at this
  simp at this

/-- A key that was put. -/
theorem set_has {d n : Nat} {o : Vl (d + 1)} {key k : List Int} {x z : Vl d} (hs : SInv d o n) (hy : ∀ y ∈ key, Byt y) : HasK d (setV d o key x) k z ↔ (k = key ∧ z = x) ∨ (k ≠ key ∧ HasK d o k z) := by
  obtain ⟨vk, vn, vs, K, L⟩ := o
  obtain ⟨hKL, hn, hu, hb⟩ := hs
  simp only at hKL hn hu hb
  have hbt : ∀ i, i < K.length → ∀ x ∈ K.getD i [], Byt x := fun i hi => (hb i hi).1
  have hl2 : (putL K key L x).length = posK K key + 1 + (K.length - skipK K key) := length_putL _ hKL.symm
  have hpl := posK_le K key
  have hsl := skipK_le K key
  show (∃ i, i < (putL K key L x).length ∧ (putL K key K key).getD i [] = k ∧ (putL K key L x).getD i z = z) ↔ (k = key ∧ z = x) ∨ (k ≠ key ∧ ∃ i, i < L.length ∧ K.getD i [] = k ∧ L.getD i z = z)
  constructor
  · rintro ⟨i, hi, h1, h2⟩
    rcases Nat.lt_trichotomy i (posK K key) with hlt | heq | hgt
    · rw [putL_lt _ _ rfl hlt] at h1
      rw [putL_lt _ _ hKL.symm hlt] at h2
      have := ne_of_lt (pos_lt K key i hlt)
      rw [h1] at this
      exact .inr ⟨this, i, by omega, h1, h2⟩
    · rw [heq, putL_at _ _ rfl] at h1
      rw [heq, putL_at _ _ hKL.symm] at h2
      exact .inl ⟨h1.symm, h2.symm⟩
    · obtain ⟨j, rfl⟩ : ∃ j, i = posK K key + 1 + j := ⟨i - posK K key - 1, by omega⟩
      rw [putL_gt _ _ rfl] at h1
      rw [putL_gt _ _ hKL.symm] at h2
      have := ne_of_lt (skip_gt hu hbt hy (show skipK K key ≤ skipK K key + j by omega) (by omega))
      rw [h1] at this
      exact .inr ⟨fun e => this e.symm, _, by omega, h1, h2⟩
  · rintro (⟨rfl, rfl⟩ | ⟨hne, i, hi, h1, h2⟩)
    · exact ⟨posK K k, by omega, putL_at _ _ rfl, putL_at _ _ hKL.symm⟩
    · by_cases hlt : i < posK K key
      · exact ⟨i, by omega, (putL_lt _ _ rfl hlt).trans h1, (putL_lt _ _ hKL.symm hlt).trans h2⟩
      · have hge : skipK K key ≤ i := by
          rcases skipK_cases K key with ⟨hs, _, he⟩ | ⟨hs, _⟩
          · by_cases e : i = posK K key
            · rw [e] at h1
              exact absurd (h1.symm.trans he) hne
            · omega
          · omega
        obtain ⟨j, rfl⟩ : ∃ j, i = skipK K key + j := ⟨i - skipK K key, by omega⟩
        exact ⟨posK K key + 1 + j, by omega, (putL_gt _ _ rfl).trans h1, (putL_gt _ _ hKL.symm).trans h2⟩

/-- Entries that were laid in: up to the i-th. -/
theorem mrg_has {d : Nat} {a : Vl (d + 1)} {bK : List (List Int)} {bL : List (Vl d)} {k : List Int} {z : Vl d} (hs : SInv d a 40) (hKL : bK.length = bL.length) (hu : ∀ i, i < bK.length → upB bK i = true) (hb : ∀ i, i < bK.length → (∀ x ∈ bK.getD i [], Byt x) ∧ (bK.getD i []).length ≤ 1048576) : ∀ i, i ≤ bL.length →
    (HasK d (mrgV d a ((bK.zip bL).take i)) k z ↔ (∃ j, j < i ∧ bK.getD j [] = k ∧ bL.getD j z = z) ∨ ((∀ j, j < i → bK.getD j [] ≠ k) ∧ HasK d a k z))
  | 0, _ => by
    rw [mrgV_zero]
    constructor
    · exact fun h => .inr ⟨fun j hj => absurd hj (by omega), h⟩
    · rintro (⟨j, hj, _⟩ | h)
      · omega
      · exact h.2
  | i + 1, hi => by
    have ih := mrg_has (k := k) (z := z) hs hKL hu hb i (by omega)
    rw [mrgV_step hKL (show i < bL.length by omega), set_has (SInv.all hs hKL hb i (by omega)) (hb i (by omega)).1, ih]
    have hd : ∀ j, j < i → bK.getD j [] ≠ bK.getD i [] := fun j hj => ne_of_lt (asc_ltU hu i (by omega) j hj)
    have hg : bL.getD i z = bL[i] := getD_eq _ _ _ (by omega)
    constructor
    · rintro (⟨rfl, rfl⟩ | ⟨hne, ⟨j, hj, h1, h2⟩ | ⟨h1, h2⟩⟩)
      · exact .inl ⟨i, by omega, rfl, hg⟩
      · exact .inl ⟨j, by omega, h1, h2⟩
      · refine .inr ⟨fun j hj => ?_, h2⟩
        by_cases e : j = i
        · rw [e]; exact fun e' => hne e'.symm
        · exact h1 j (by omega)
    · rintro (⟨j, hj, h1, h2⟩ | ⟨h1, h2⟩)
      · by_cases e : j = i
        · subst e
          exact .inl ⟨h1.symm, h2.symm.trans hg⟩
        · refine .inr ⟨fun e' => hd j (by omega) (h1.trans e'), .inl ⟨j, by omega, h1, h2⟩⟩
      · exact .inr ⟨fun e' => h1 i (by omega) e'.symm, .inr ⟨fun j hj => h1 j (by omega), h2⟩⟩
end Go.Proofs.Ytenfnbnhdmkhkaa
