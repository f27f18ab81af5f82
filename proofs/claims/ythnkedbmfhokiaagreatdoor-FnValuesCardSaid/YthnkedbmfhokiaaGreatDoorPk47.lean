/-
  Texts that a law leans on, one behind the other; no statement is proved here.
-/
import Derived.Test.YthnkedbmfhokiaaGreatDoorPk44
import Derived.Test.YthnkedbmfhokiaaGreatDoorPk30
import Derived.Test.YthnkedbmfhokiaaGreatDoorPk45
import Derived.Test.YthnkedbmfhokiaaGreatDoorPk13
import Derived.Test.YthnkedbmfhokiaaGreatDoorPk15
import Derived.Lib.SlMapMerge
import Derived.Test.YthnkedbmfhokiaaGreatDoorPk18
/-
  ValText of the program: appendPart of whatever part, ValText.
-/
namespace Go.Proofs.YthnkedbmfhokiaaGreatDoor
open Go.RowKit Go.Shelf
set_option linter.unusedVariables false
set_option linter.unusedSimpArgs false

theorem say_txt {vn : Int} {vs : List Int} {vK : List (List Int)} {n : Nat} (h : shapeB 3 vn vs vK n = true) : ∀ x ∈ vs, Byt x := by
  simp [shapeB] at h
  have h2 := h.2
  simp only [textB, Bool.and_eq_true, decide_eq_true_eq, List.all_eq_true] at h2
  intro x hx
  have := h2.2 x hx
  simp only [chrB, Bool.and_eq_true, decide_eq_true_eq] at this
  unfold Byt
  omega

theorem say_key {ks : List (List Int)} {i : Nat} (h : stepB ks i = true) : (∀ x ∈ ks.getD i [], Byt x) ∧ (ks.getD i []).length ≤ 8 := by
  simp only [stepB, Bool.and_eq_true] at h
  have h1 := h.1
  simp only [nameB, Bool.and_eq_true, decide_eq_true_eq, List.all_eq_true] at h1
  refine ⟨fun x hx => ?_, by omega⟩
  have := h1.2 x hx
  simp only [letB, Bool.and_eq_true, decide_eq_true_eq] at this
  unfold Byt
  omega

theorem appendPart_succ (d : Nat) (ih : PSayAt d) : PSayAt (d + 1) := by
  intro N B a c xs p v deep w hp hN hBw hB hg hn hlen ht
  obtain ⟨vk, vn, vs, vK, vL⟩ := v
  obtain ⟨_, hsh, hkids⟩ := (good_succ _ _ _ _ _ _ _).1 hg
  obtain ⟨hvs, hk⟩ := shape_says hsh
  have hpp := parts_succ d vk vn vs vK vL
  have hfew := kids_less vL vL.length (Nat.le_refl _)
  rw [hpp] at hlen hn
  rcases hp with ⟨rfl, rfl⟩ | ⟨rfl, rfl⟩ | ⟨rfl, rfl⟩ | ⟨rfl, rfl⟩ | ⟨rfl, rfl⟩ | ⟨rfl, la, lc, rfl, hc⟩ | ⟨rfl, b, ps, rfl, hR, hm, hc⟩
  · rw [sayV_null]; exact appendPart_null B a c xs w hB hBw (by omega)
  · rw [sayV_unknown]; exact appendPart_unknown B a c xs w hB hBw (by omega)
  · have h2 : vn = 0 ∨ vn = 1 := by
      rcases hk with hk | hk | ⟨_, h⟩ | ⟨hk, _⟩ | hk | ⟨hk, _⟩ | ⟨hk, _⟩
      all_goals first | exact h | (exfalso; revert hk; simp)
    rw [sayV_bool]
    rcases h2 with rfl | rfl
    · exact appendPart_false B a c xs w hB hBw (by omega)
    · exact appendPart_true B a c xs w hB hBw (by omega)
  · have h2 : -1000000000000 ≤ vn ∧ vn ≤ 1000000000000 := by
      rcases hk with hk | hk | ⟨hk, _⟩ | ⟨_, h⟩ | hk | ⟨hk, _⟩ | ⟨hk, _⟩
      all_goals first | exact h | (exfalso; revert hk; simp)
    rw [sayV_int]; exact appendPart_int vn B a c xs w hB hBw (by omega) h2.1 h2.2 ht
  · rw [sayV_text]; exact appendPart_text _ vs B a c xs w hB hBw (by omega) rfl (say_txt hsh) (by omega)
  · rw [sayV_list]
    exact appendPart_list d ih N B a c xs vK vL la lc (deep + 1) w hN hBw hB ⟨la, lc, rfl, hc⟩ hkids hn (by omega) hlen ht
  · have hmm : vK.length = vL.length ∧ ascB vK = true := by
      rcases hk with hk | hk | ⟨hk, _⟩ | ⟨hk, _⟩ | hk | ⟨hk, _⟩ | ⟨_, h⟩
      all_goals first | exact h | (exfalso; revert hk; simp)
    have hst : ∀ i, i < vL.length → stepB vK i = true := fun i hi => ascB_at hmm.2 (by omega)
    rw [sayV_map]
    exact appendPart_map d ih N B a c xs vK vL b ps (deep + 1) w hN hBw hB hm hc hst hR (fun i hi => say_key (hst i hi)) hkids hn (by omega) hlen ht

theorem appendPart_any (d : Nat) : PSayAt d := by
  induction d with
  | zero => intro N B a c xs p v deep w hv; exact hv.elim
  | succ d ih => exact appendPart_succ d ih

/-- What ValText of the program has left. -/
def TxEnd (xs : List Int) (w : World) (e : Ending) (w' : World) : Prop := ∃ a c, e = .returned (.slice a xs.length c) ∧ Bts w' w.heap.size (.slice a xs.length c) xs ∧ Below w.heap.size w w'

set_option maxHeartbeats 1600000 in
set_option maxRecDepth 100000 in
theorem impl_ValText_any (d N : Nat) (c0 c1 c2 c3 c4 : Value) (v : Vl d) (w : World) (hv : VSeg (fun b => b < N) w d (c0, c1, c2, c3, c4) v) (hN : N ≤ w.heap.size) (ht : Tab w.heap.size w) :
    Calls Tryz.prog 8 #[.agg #[c0, c1, c2, c3, c4]] w (TxEnd (valText d v) w) := by
  have b0 : ∀ o : Obj, Below w.heap.size w (w.alloc o) := fun o => (Below.refl _ _).alloc (Nat.le_refl _) o
  have Hb := hide' b0
  have HC : Hid (∀ wx, Below w.heap.size w wx → Calls Tryz.prog 17 #[.agg #[c0, c1, c2, c3, c4]] wx (PartEnd d v wx)) := fun wx hb =>
    partOf_any d N c0 c1 c2 c3 c4 v wx (VSeg.agree (agree_below (hb.mono hN)) d hv) (by have := hb.size; omega)
  have HP : Hid (∀ p wx, okB d v = true → Below w.heap.size w wx → PSeg (fun b => b < wx.heap.size) wx d p v → Calls Tryz.prog 20 #[.slice none 0 0, p] wx (TxEnd (valText d v) wx)) := fun p wx hok hbw hp => by
    obtain ⟨h1, h2⟩ := ok_says hok
    rw [valText, if_pos hok]
    refine (appendPart_any d wx.heap.size wx.heap.size none 0 [] p v 1 wx hp (Nat.le_refl _) (Nat.le_refl _) (bts_nil _ _) h1 h2 (by simp; omega) (fun w' h' => ht w' (Below.on hbw h'))).mono ?_
    rintro e w' ⟨a, c, rfl, hB, hb, _⟩
    rw [List.nil_append] at hB
    exact ⟨a, c, rfl, hB, hb⟩
  obtain ⟨vk, vn, a2, l2, p2, a3, l3, p3, a4, l4, p4, rfl, rfl, rfl, rfl, rfl⟩ := VSeg.form d hv
  have HNo : Hid (okB d v = false → valText d v = []) := fun h => by rw [valText, h]; rfl
  generalize valText d v = xs at *
  clear hv b0 ht
  go_enter Tryz.func8, Tryz.ntmps8
  go_wp2_with fail
  refine (HC.out _ (Hb.out _)).mono ?_
  rintro e w1 ⟨b1, ⟨p, rfl, hok, hps⟩ | ⟨rfl, hok⟩⟩
  · have B1 := Below.on (Hb.out _) b1
    have HP2 := hide' (HP.out p w1 hok B1 (PSeg.carry (fun b h => h.2) (fun _ _ => rfl) d hps))
    obtain ⟨tp, xp, rfl⟩ := hps.shape
    clear b1 hps HC HP
    go_wp2_with fail
    refine HP2.out.mono ?_
    rintro e w2 ⟨a, c, rfl, hB, b2⟩
    have B2 := Below.on B1 b2
    have HB := hide' (hB.mono (base' := w.heap.size) B1.size)
    clear b2 hB
    go_wp2
    go_ret
    exact ⟨a, c, rfl, HB.out, B2⟩
  · have B1 := Below.on (Hb.out _) b1
    have HX := hide' (HNo.out hok)
    clear b1 HNo HP HC
    go_wp2
    go_ret
    rw [HX.out]
    exact ⟨none, 0, rfl, bts_nil _ _, B1⟩
end Go.Proofs.YthnkedbmfhokiaaGreatDoor
/-
  A part of a value holds no map that holds the part: what is turned in the map's own block leaves its parts as they were; no statement is proved here.
-/
namespace Go.Proofs.YthnkedbmfhokiaaGreatDoor
open Go.RowKit
set_option linter.unusedVariables false
set_option linter.unusedSimpArgs false

theorem owns_same {w : World} {b n n' : Nat} {D D' : DataW Value} (h : w.ownsMap Tryz.prog 9 tokR b n D) (h' : w.ownsMap Tryz.prog 9 tokR b n' D') : D = D' := by
  obtain ⟨es, cl, hb, _, _, rfl⟩ := h
  obtain ⟨es', cl', hb', _, _, rfl⟩ := h'
  rw [hb] at hb'
  simp only [Option.some.injEq, Obj.map.injEq] at hb'
  rw [hb'.1]

theorem ent_inj {vK vK' : List (List Int)} {ps ps' : List Value} {n n' : Nat} (h : DataW.map (entF vK ps n) = DataW.map (entF vK' ps' n')) : n = n' ∧ ∀ i, i < n → ps.getD i .nilIface = ps'.getD i .nilIface := by
  have h1 : entF vK ps n = entF vK' ps' n' := by injection h
  have hn : n = n' := by have := congrArg List.length h1; simpa [entF] using this
  subst hn
  refine ⟨rfl, fun i hi => ?_⟩
  have h2 := congrArg (fun l => l[i]?) h1
  simp only [entF, List.getElem?_map, List.getElem?_range hi, Option.map_some, Option.some.injEq, Prod.mk.injEq, DataW.held.injEq] at h2
  exact h2.2

theorem sum_same {α β : Type} {f : α → Nat} {g : β → Nat} {l : List α} {l' : List β} (hl : l.length = l'.length) (h : ∀ i (h : i < l.length) (h' : i < l'.length), f l[i] = g l'[i]) : (l.map f).sum = (l'.map g).sum := by
  congr 1
  refine List.ext_getElem (by simpa using hl) fun i h1 h2 => ?_
  simp only [List.getElem_map]
  exact h i (by simpa using h1) (by simpa using h2)

/-- A part: without parts of its own, a list, or a map. -/
theorem PSeg.kinds {R : Nat → Prop} {w : World} {d deep : Nat} {p : Value} {vk vn : Int} {vs : List Int} {vK : List (List Int)} {vL : List (Vl d)} (h : PSeg R w (d + 1) p (vk, vn, vs, vK, vL)) (hg : goodB (d + 1) (vk, vn, vs, vK, vL) deep = true) :
    (vL = [] ∧ (∀ x, p ≠ .iface 74 x) ∧ ∀ x, p ≠ .iface 77 x) ∨
    (∃ a cap, p = .iface 74 (.agg #[.slice a vL.length cap]) ∧ (vL = [] ∨ ∃ b off, a = some ⟨b, off, none⟩ ∧ R b ∧ ∀ i (h : i < vL.length), ∃ u, w.cell? ⟨b, off + i, none⟩ = some u ∧ PSeg R w d u (vL[i]))) ∨
    (∃ b ps, p = .iface 77 (.agg #[.map (some b)]) ∧ R b ∧ w.ownsMap Tryz.prog 9 tokR b 64 (.map (entF vK ps vL.length)) ∧ ∀ i (h : i < vL.length), PSeg R w d (ps.getD i .nilIface) (vL[i])) := by
  obtain ⟨_, hs, _⟩ := (good_succ _ _ _ _ _ _ _).1 hg
  have hbare : vk = 4 ∨ vk = 5 ∨ vL = [] := by
    simp only [shapeB, bareB, Bool.and_eq_true, Bool.or_eq_true, decide_eq_true_eq] at hs
    rcases hs.1.2 with (h | h) | h
    · exact .inl h
    · exact .inr (.inl h)
    · exact .inr (.inr (List.length_eq_zero_iff.1 h))
  rcases h with ⟨hk, rfl⟩ | ⟨hk, rfl⟩ | ⟨hk, rfl⟩ | ⟨hk, rfl⟩ | ⟨hk, rfl⟩ | ⟨hk, a, cap, hp, hc⟩ | ⟨hk, b, ps, hp, hR, hm, hc⟩
  · simp only at hk; exact .inl ⟨by rcases hbare with h | h | h <;> first | omega | exact h, by simp, by simp⟩
  · simp only at hk; exact .inl ⟨by rcases hbare with h | h | h <;> first | omega | exact h, by simp, by simp⟩
  · simp only at hk; exact .inl ⟨by rcases hbare with h | h | h <;> first | omega | exact h, by simp, by simp⟩
  · simp only at hk; exact .inl ⟨by rcases hbare with h | h | h <;> first | omega | exact h, by simp, by simp⟩
  · simp only at hk; exact .inl ⟨by rcases hbare with h | h | h <;> first | omega | exact h, by simp, by simp⟩
  · exact .inr (.inl ⟨a, cap, hp, hc⟩)
  · simp only at hk
    subst hk
    obtain ⟨hl, ha⟩ := shape_mapB hs
    refine .inr (.inr ⟨b, ps, hp, hR, ?_, hc⟩)
    have hm' : w.ownsMap Tryz.prog 9 tokR b 64 (mapD vK ps vL.length) := hm
    rw [mapD_list vK ps vL.length (fun i hi => ascB_at ha (by omega))] at hm'
    exact hm'

/-- What lies in a part is one value. -/
theorem PSeg.same {R R' : Nat → Prop} {w : World} : ∀ (d d' : Nat) (p : Value) (v : Vl d) (v' : Vl d') (deep deep' : Nat), PSeg R w d p v → PSeg R' w d' p v' → goodB d v deep = true → goodB d' v' deep' = true → partsV d v = partsV d' v' := by
  intro d
  induction d with
  | zero => intro d' p v v' deep deep' h; exact h.elim
  | succ d ih =>
    intro d' p v v' deep deep' h h' hg hg'
    cases d' with
    | zero => exact h'.elim
    | succ d' =>
      obtain ⟨vk, vn, vs, vK, vL⟩ := v
      obtain ⟨vk', vn', vs', vK', vL'⟩ := v'
      obtain ⟨_, _, hk⟩ := (good_succ _ _ _ _ _ _ _).1 hg
      obtain ⟨_, _, hk'⟩ := (good_succ _ _ _ _ _ _ _).1 hg'
      show 1 + (vL.map (partsV d)).sum = 1 + (vL'.map (partsV d')).sum
      congr 1
      rcases h.kinds hg with ⟨e, n1, n2⟩ | ⟨a, cap, hp, hc⟩ | ⟨b, ps, hp, _, hm, hc⟩ <;> rcases h'.kinds hg' with ⟨e', n1', n2'⟩ | ⟨a', cap', hp', hc'⟩ | ⟨b', ps', hp', _, hm', hc'⟩
      · subst e; subst e'; rfl
      · exact absurd hp' (n1 _)
      · exact absurd hp' (n2 _)
      · exact absurd hp (n1' _)
      · rw [hp] at hp'
        simp only [Value.iface.injEq, true_and, Value.agg.injEq, Array.mk.injEq, List.cons.injEq, Value.slice.injEq, and_true] at hp'
        obtain ⟨rfl, hl, _⟩ := hp'
        refine sum_same hl fun i h1 h2 => ?_
        rcases hc with h0 | ⟨b, off, e, _, hc⟩
        · subst h0; simp at h1
        rcases hc' with h0 | ⟨b', off', e', _, hc'⟩
        · subst h0; simp at h2
        rw [e] at e'
        simp only [Option.some.injEq, Addr.mk.injEq, and_true] at e'
        obtain ⟨rfl, rfl⟩ := e'
        obtain ⟨u, hu, hs⟩ := hc i h1
        obtain ⟨u', hu', hs'⟩ := hc' i h2
        rw [hu] at hu'
        obtain rfl : u = u' := by simpa using hu'
        exact ih d' u _ _ (deep + 1) (deep' + 1) hs hs' (hk i h1) (hk' i h2)
      · rw [hp] at hp'; simp at hp'
      · exact absurd hp (n2' _)
      · rw [hp] at hp'; simp at hp'
      · rw [hp] at hp'
        simp only [Value.iface.injEq, true_and, Value.agg.injEq, Array.mk.injEq, List.cons.injEq, Value.map.injEq, Option.some.injEq, and_true] at hp'
        subst hp'
        obtain ⟨hl, hps⟩ := ent_inj (owns_same hm hm')
        refine sum_same hl fun i h1 h2 => ?_
        have hs := hc i h1
        rw [hps i h1] at hs
        exact ih d' _ _ _ (deep + 1) (deep' + 1) hs (hc' i h2) (hk i h1) (hk' i h2)

end Go.Proofs.YthnkedbmfhokiaaGreatDoor
/-
  What ValSet answers, and how great it can be; no statement is proved here.
-/
namespace Go.Proofs.YthnkedbmfhokiaaGreatDoor
open Go.RowKit
set_option linter.unusedVariables false
set_option linter.unusedSimpArgs false

end Go.Proofs.YthnkedbmfhokiaaGreatDoor
/-
  A map that is being made anew, key by key: what its block and its two rows hold; no statement is proved here.
-/
namespace Go.Proofs.YthnkedbmfhokiaaGreatDoor
open Go.RowKit
set_option linter.unusedVariables false
set_option linter.unusedSimpArgs false

/-- The new map's block O holds rows of mK keys and mL values, each read in the world w of old; nothing old has turned but O. -/
def SIx (R : Nat → Prop) (w w1 : World) (O d : Nat) (F : List (List Int)) (FL : List (Vl d)) (x0 : Vl d) (mK mL : Nat) (wr : World) (xK xL : Value) (us : List Value) (fs : List V5) : Prop :=
  wr.heap[O]? = some (.cells #[.int .i64 5, .int .i64 0, .slice none 0 0, xK, xL] 26 (0, 0)) ∧ w1.grownBy wr (some O) ∧ wr.ownsRow w1.heap.size 22 1 xK mK us ∧ wr.ownsRow w1.heap.size 26 5 xL mL ((fs.map enc5).flatten) ∧
    (∀ b, xK.ownBlock = some b → xL.ownBlock ≠ some b) ∧ us.length = mK ∧ fs.length = mL ∧ (∀ j (h : j < us.length), TSeg R w us[j] (F.getD j [])) ∧ ∀ j (h : j < fs.length), VSeg R w d fs[j] (FL.getD j x0)

theorem row_on_below {w w' : World} {base n s : Nat} {e : TypeId} {v : Value} {xs : List Value} (h : w.ownsRow base e s v n xs) (hb : Below w.heap.size w w') : w'.ownsRow base e s v n xs :=
  h.kept (row := none) ⟨hb.os, hb.tape, hb.output, hb.size, fun k hk _ => hb.block k hk⟩ (by cases hv : v.ownBlock <;> simp)

theorem row_off {w w' : World} {base n s : Nat} {e : TypeId} {v : Value} {xs : List Value} {r : Option Nat} (h : w.ownsRow base e s v n xs) (hg : w.grownBy w' r) (hne : ∀ b, v.ownBlock = some b → r ≠ some b) : w'.ownsRow base e s v n xs := by
  refine h.kept hg ?_
  cases hx : v.ownBlock with
  | none => exact .inl rfl
  | some g => exact .inr fun e => hne g hx e.symm

theorem grown_chain {w1 wr wa wb : World} {O j : Nat} {x : Value} {r : Option Nat} (h : w1.grownBy wr (some O)) (hb : Below wr.heap.size wr wa) (hg : wa.grownBy wb r) (hr : ∀ b, r = some b → w1.heap.size ≤ b) : w1.grownBy (wb.setCell ⟨O, j, none⟩ x) (some O) := by
  have hs := grown1 wb O j x
  have z1 := h.size
  have z2 := hb.size
  have z3 := hg.size
  refine ⟨hs.os.trans (hg.os.trans (hb.os.trans h.os)), hs.tape.trans (hg.tape.trans (hb.tape.trans h.tape)), hs.output.trans (hg.output.trans (hb.output.trans h.output)), by have := hs.size; omega, fun b hl hne => ?_⟩
  refine (hs.block b (by omega) hne).trans ((hg.block b (by omega) fun e => ?_).trans ((hb.block b (by omega)).trans (h.block b hl hne)))
  have := hr b e.symm
  omega

theorem kseg_ofR {R : Nat → Prop} {w : World} {base : Nat} {v : Value} {n : Nat} {us : List Value} {ks : List (List Int)} (h : w.ownsRow base 22 1 v n us) (hn : n = ks.length) (hR : ∀ g, base ≤ g → g < w.heap.size → R g) (hT : ∀ i (hi : i < us.length), TSeg R w us[i] (ks.getD i [])) : KSeg R w v ks := by
  have hul : us.length = n := by have := h.1; omega
  have hcell := fun g hg => h.cells (g := g) hg
  have hlt := h.lt
  rcases h.2 with ⟨rfl, h0⟩ | ⟨g, cap, cur, rfl, hg, hh, hle, hm, _, _⟩
  · have hk : ks = [] := List.eq_nil_of_length_eq_zero (by omega)
    subst hk
    exact ⟨none, 0, rfl, by simp, by simp, fun _ => rfl, .inl rfl⟩
  · subst hn
    refine ⟨some ⟨g, 0, none⟩, cap, rfl, hle, hm, by simp, .inr ⟨g, 0, rfl, hR g (hlt g rfl).1 (Array.getElem?_eq_some_iff.1 hh).1, fun i hi => ?_⟩⟩
    have hi' : i < us.length := by omega
    refine ⟨us[i], ?_, hT i hi'⟩
    have := hcell g rfl i us[i] (List.getElem?_eq_getElem hi')
    rw [Addr.add_lit] at this
    exact this

theorem lseg_ofR {R : Nat → Prop} {w : World} {base d : Nat} {v : Value} {n : Nat} {fs : List V5} {vl : List (Vl d)} (h : w.ownsRow base 26 5 v n ((fs.map enc5).flatten)) (hn : n = vl.length) (hR : ∀ g, base ≤ g → g < w.heap.size → R g) (hV : ∀ i (hi : i < fs.length) (h' : i < vl.length), VSeg R w d fs[i] vl[i]) : LSeg R w d v vl := by
  have hul : fs.length = n := by have := h.1; rw [flat_len] at this; omega
  have hcell := fun g hg => h.cells (g := g) hg
  have hlt := h.lt
  rcases h.2 with ⟨rfl, h0⟩ | ⟨g, cap, cur, rfl, hg, hh, hle, hm, _, _⟩
  · have hk : vl = [] := List.eq_nil_of_length_eq_zero (by omega)
    subst hk
    exact ⟨none, 0, rfl, by simp, by simp, fun _ => rfl, .inl rfl⟩
  · subst hn
    refine ⟨some ⟨g, 0, none⟩, cap, rfl, hle, hm, by simp, .inr ⟨g, 0, rfl, hR g (hlt g rfl).1 (Array.getElem?_eq_some_iff.1 hh).1, fun i hi => ?_⟩⟩
    have hi' : i < fs.length := by omega
    refine ⟨fs[i], five_lie (fun j u hj => ?_) i hi', hV i hi' hi⟩
    have := hcell g rfl j u hj
    rw [Addr.add_lit] at this
    exact this

section
variable {R : Nat → Prop} {w w1 wr wa wb : World} {O d mK mL : Nat} {F : List (List Int)} {FL : List (Vl d)} {x0 : Vl d} {xK xL : Value} {us : List Value} {fs : List V5}

theorem six_k {u : Value} {g cap : Nat} (h : SIx R w w1 O d F FL x0 mK mL wr xK xL us fs) (hO : O < w1.heap.size) (hb : Below wr.heap.size wr wa) (hown : wb.ownsRow w1.heap.size 22 1 (.slice (some ⟨g, 0, none⟩) (mK + 1) cap) (mK + 1) (us ++ [u])) (hg : wa.grownBy wb xK.ownBlock) (hat : xK.ownBlock = some g ∨ g = wa.heap.size) (hu : TSeg R w u (F.getD mK [])) :
    wb.heap[O]? = some (.cells #[.int .i64 5, .int .i64 0, .slice none 0 0, xK, xL] 26 (0, 0)) ∧ wb.frozen? ⟨O, 3, none⟩ = false ∧ SIx R w w1 O d F FL x0 (mK + 1) mL (wb.setCell ⟨O, 3, none⟩ (.slice (some ⟨g, 0, none⟩) (mK + 1) cap)) (.slice (some ⟨g, 0, none⟩) (mK + 1) cap) xL (us ++ [u]) fs := by
  obtain ⟨h1, h2, h3, h4, h5, h6, h7, h8, h9⟩ := h
  have z1 := h2.size
  have z2 := hb.size
  have hgl := hown.lt g rfl
  have hK := h3.lt
  have hL := h4.lt
  have hV : wb.heap[O]? = some (.cells #[.int .i64 5, .int .i64 0, .slice none 0 0, xK, xL] 26 (0, 0)) := (hg.block O (by omega) fun e => by have := hK O e.symm; omega).trans ((hb.block O (by omega)).trans h1)
  have hs := grown1 wb O 3 (.slice (some ⟨g, 0, none⟩) (mK + 1) cap)
  refine ⟨hV, frozen_of_row _ _ _ _ _ hV, heap_setCell_same wb O 3 _ _ _ hV, grown_chain h2 hb hg (fun b hb => (hK b hb).1), row_off hown hs (fun b e => by simp [Value.ownBlock] at e; intro e2; simp at e2; omega), row_off (row_off (row_on_below h4 hb) hg (fun b e e2 => h5 b e2 e)) hs (fun b e e2 => by have := hL b e; simp at e2; omega), ?_, by simp [h6], h7, ?_, h9⟩
  · intro b e e2
    simp [Value.ownBlock] at e
    rcases hat with h | h
    · exact h5 g h (by rw [e]; exact e2)
    · have := hL b e2
      omega
  · intro j hj
    by_cases hlt : j < us.length
    · rw [List.getElem_append_left hlt]
      exact h8 j hlt
    · have hj' : j = us.length := by simp at hj; omega
      subst hj'
      rw [List.getElem_append_right (Nat.le_refl _)]
      simpa [h6] using hu

theorem six_l {e : V5} {g cap : Nat} (h : SIx R w w1 O d F FL x0 mK mL wr xK xL us fs) (hO : O < w1.heap.size) (hb : Below wr.heap.size wr wa) (hown : wb.ownsRow w1.heap.size 26 5 (.slice (some ⟨g, 0, none⟩) (mL + 1) cap) (mL + 1) ((fs.map enc5).flatten ++ enc5 e)) (hg : wa.grownBy wb xL.ownBlock) (hat : xL.ownBlock = some g ∨ g = wa.heap.size) (hu : VSeg R w d e (FL.getD mL x0)) :
    wb.heap[O]? = some (.cells #[.int .i64 5, .int .i64 0, .slice none 0 0, xK, xL] 26 (0, 0)) ∧ wb.frozen? ⟨O, 4, none⟩ = false ∧ SIx R w w1 O d F FL x0 mK (mL + 1) (wb.setCell ⟨O, 4, none⟩ (.slice (some ⟨g, 0, none⟩) (mL + 1) cap)) xK (.slice (some ⟨g, 0, none⟩) (mL + 1) cap) us (fs ++ [e]) := by
  obtain ⟨h1, h2, h3, h4, h5, h6, h7, h8, h9⟩ := h
  have z1 := h2.size
  have z2 := hb.size
  have hgl := hown.lt g rfl
  have hK := h3.lt
  have hL := h4.lt
  have hV : wb.heap[O]? = some (.cells #[.int .i64 5, .int .i64 0, .slice none 0 0, xK, xL] 26 (0, 0)) := (hg.block O (by omega) fun e => by have := hL O e.symm; omega).trans ((hb.block O (by omega)).trans h1)
  have hs := grown1 wb O 4 (.slice (some ⟨g, 0, none⟩) (mL + 1) cap)
  have hfl : (((fs ++ [e]).map enc5).flatten) = (fs.map enc5).flatten ++ enc5 e := by simp
  refine ⟨hV, frozen_of_row _ _ _ _ _ hV, heap_setCell_same wb O 4 _ _ _ hV, grown_chain h2 hb hg (fun b hb => (hL b hb).1), row_off (row_off (row_on_below h3 hb) hg (fun b e e2 => h5 b e e2)) hs (fun b e e2 => by have := hK b e; simp at e2; omega), by rw [hfl]; exact row_off hown hs (fun b e => by simp [Value.ownBlock] at e; intro e2; simp at e2; omega), ?_, h6, by simp [h7], h8, ?_⟩
  · intro b e1 e2
    simp [Value.ownBlock] at e2
    rcases hat with h | h
    · exact h5 b e1 (by rw [← e2]; exact h)
    · have := hK b e1
      omega
  · intro j hj
    by_cases hlt : j < fs.length
    · rw [List.getElem_append_left hlt]
      exact h9 j hlt
    · have hj' : j = fs.length := by simp at hj; omega
      subst hj'
      rw [List.getElem_append_right (Nat.le_refl _)]
      simpa [h7] using hu

/-- All of it: it can be read, behind a store into another block of before. -/
theorem six_end {G : Nat} {wf : World} (h : SIx R w w1 O d F FL x0 mK mL wr xK xL us fs) (hK : mK = F.length) (hL : mL = FL.length) (hgf : wr.grownBy wf (some G)) (hG : G < w1.heap.size) (hb : Below w.heap.size w wf) (hR : ∀ b, R b → b < w.heap.size) (hw1 : w.heap.size ≤ w1.heap.size) : VSeg (fun b => R b ∨ (w.heap.size ≤ b ∧ b < wf.heap.size)) wf (d + 1) (.int .i64 5, .int .i64 0, .slice none 0 0, xK, xL) ((5 : Int), (0 : Int), ([] : List Int), F, FL) := by
  obtain ⟨h1, h2, h3, h4, h5, h6, h7, h8, h9⟩ := h
  have hz := hb.size
  have h3 := row_off h3 hgf (fun b e e2 => by have := (h3.lt b e).1; simp at e2; omega)
  have h4 := row_off h4 hgf (fun b e e2 => by have := (h4.lt b e).1; simp at e2; omega)
  refine (VSeg_succ _ _ _ _ _).2 ⟨rfl, rfl, ⟨none, 0, rfl, ⟨by simp, .inl rfl⟩, by simp, by simp, fun _ => rfl, by simp⟩, ?_, ?_⟩
  · exact kseg_ofR h3 hK (fun g h1 h2 => .inr ⟨by omega, h2⟩) fun i hi => ((h8 i hi).agree (fun b hb' => hb.block b (hR b hb'))).mono (fun b hb' => .inl hb')
  · refine lseg_ofR h4 hL (fun g h1 h2 => .inr ⟨by omega, h2⟩) fun i hi h' => ?_
    have h10 := h9 i hi
    have e : FL.getD i x0 = FL[i] := by simp [List.getD_eq_getElem?_getD, h']
    rw [e] at h10
    exact VSeg.mono (fun b hb' => .inl hb') d (VSeg.agree (fun b hb' => hb.block b (hR b hb')) d h10)
end

theorem six_start {R : Nat → Prop} {w w1 : World} {O d : Nat} {F : List (List Int)} {FL : List (Vl d)} {x0 : Vl d} (h : w1.heap[O]? = some (.cells #[.int .i64 5, .int .i64 0, .slice none 0 0, .slice none 0 0, .slice none 0 0] 26 (0, 0))) : SIx R w w1 O d F FL x0 0 0 w1 (.slice none 0 0) (.slice none 0 0) [] [] :=
  ⟨h, World.grownBy.refl _ _, World.ownsRow_nil _ _ _ _, World.ownsRow_nil _ _ _ _, by simp [Value.ownBlock], rfl, rfl, fun j hj => by simp at hj, fun j hj => by simp at hj⟩
end Go.Proofs.YthnkedbmfhokiaaGreatDoor
/-
  The rounds of l2set: which key comes next into the new map; no statement is proved here.
-/
namespace Go.Proofs.YthnkedbmfhokiaaGreatDoor
open Go.RowKit
set_option linter.unusedVariables false
set_option linter.unusedSimpArgs false

/-- After k keys: m of the new map's are there; pb: the new one among them. -/
def StK (ks : List (List Int)) (key : List Int) (pb : Bool) (m k : Nat) : Prop := (pb = false ∧ k ≤ posK ks key ∧ m = k) ∨ (pb = true ∧ skipK ks key ≤ k ∧ m = posK ks key + 1 + (k - skipK ks key))

theorem cmp_gt {a b : List Int} (h : ltS b a = true) : bytesC a b = 1 := by
  have h1 := less_ba a b
  rw [strOf_list, strOf_list] at h1
  have h2 : Op.bytesLess (u8s b) (u8s a) = true := h
  rw [h2] at h1
  have := of_decide_eq_true h1.symm
  rcases bytesC_cases a b with h | h | h <;> omega
theorem cmp_lt {a b : List Int} (h : ltS a b = true) : bytesC a b = -1 := by
  have h1 := less_ab a b
  rw [strOf_list, strOf_list] at h1
  have h2 : Op.bytesLess (u8s a) (u8s b) = true := h
  rw [h2] at h1
  have := of_decide_eq_true h1.symm
  rcases bytesC_cases a b with h | h | h <;> omega
theorem cmp_self (a : List Int) : bytesC a a = 0 := (cmp_zero _ _).2 rfl

theorem set_round {d : Nat} {ks : List (List Int)} {key : List Int} {vL : List (Vl d)} {x : Vl d} (hu : ∀ i, i < ks.length → upB ks i = true) (hb : ∀ i, i < ks.length → ∀ y ∈ ks.getD i [], Byt y) (hy : ∀ y ∈ key, Byt y) (hKL : ks.length = vL.length) {k m : Nat} {pb : Bool} (hk : k < ks.length) (h : StK ks key pb m k) :
    (pb = false ∧ bytesC key (ks.getD k []) = 1 ∧ (setK ks key).getD m [] = ks.getD k [] ∧ (putL ks key vL x).getD m x = vL.getD k x ∧ StK ks key false (m + 1) (k + 1)) ∨
    (pb = true ∧ bytesC key (ks.getD k []) = -1 ∧ (setK ks key).getD m [] = ks.getD k [] ∧ (putL ks key vL x).getD m x = vL.getD k x ∧ StK ks key true (m + 1) (k + 1)) ∨
    (pb = false ∧ (setK ks key).getD m [] = key ∧ (putL ks key vL x).getD m x = x ∧ ((bytesC key (ks.getD k []) = 0 ∧ StK ks key true (m + 1) (k + 1)) ∨ (bytesC key (ks.getD k []) = -1 ∧ (setK ks key).getD (m + 1) [] = ks.getD k [] ∧ (putL ks key vL x).getD (m + 1) x = vL.getD k x ∧ StK ks key true (m + 1 + 1) (k + 1)))) := by
  have hpl := posK_le ks key
  have hsl := skipK_le ks key
  rcases h with ⟨rfl, h1, rfl⟩ | ⟨rfl, h1, rfl⟩
  · by_cases hlt : m < posK ks key
    · exact .inl ⟨rfl, cmp_gt (pos_lt ks key m hlt), putL_lt _ _ rfl hlt, putL_lt _ _ hKL.symm hlt, .inl ⟨rfl, by omega, rfl⟩⟩
    · have he : m = posK ks key := by omega
      subst he
      refine .inr (.inr ⟨rfl, putL_at _ _ rfl, putL_at _ _ hKL.symm, ?_⟩)
      rcases skipK_cases ks key with ⟨hs, _, hh⟩ | ⟨hs, hn⟩
      · refine .inl ⟨by rw [hh]; exact cmp_self key, .inr ⟨rfl, by omega, by omega⟩⟩
      · refine .inr ⟨cmp_lt (skip_gt hu hb hy (by omega) hk), ?_, ?_, .inr ⟨rfl, by omega, by omega⟩⟩
        · have := putL_gt (key := key) key ([] : List Int) (l := ks) rfl (i := 0)
          rw [hs] at this
          show (putL ks key ks key).getD (posK ks key + 1) [] = _
          simpa using this
        · have := putL_gt (key := key) x x (l := vL) hKL.symm (i := 0)
          rw [hs] at this
          simpa using this
  · obtain ⟨i, rfl⟩ : ∃ i, k = skipK ks key + i := ⟨k - skipK ks key, by omega⟩
    rw [Nat.add_sub_cancel_left]
    exact .inr (.inl ⟨rfl, cmp_lt (skip_gt hu hb hy (by omega) hk), putL_gt _ _ rfl, putL_gt _ _ hKL.symm, .inr ⟨rfl, by omega, by omega⟩⟩)

theorem set_last {d : Nat} {ks : List (List Int)} {key : List Int} {vL : List (Vl d)} {x : Vl d} (hKL : ks.length = vL.length) {m : Nat} {pb : Bool} (h : StK ks key pb m ks.length) :
    (pb = false ∧ (setK ks key).getD m [] = key ∧ (putL ks key vL x).getD m x = x ∧ m + 1 = (setK ks key).length ∧ m + 1 = (putL ks key vL x).length) ∨ (pb = true ∧ m = (setK ks key).length ∧ m = (putL ks key vL x).length) := by
  have hpl := posK_le ks key
  have hsl := skipK_le ks key
  have l1 : (setK ks key).length = posK ks key + 1 + (ks.length - skipK ks key) := length_putL _ rfl
  have l2 : (putL ks key vL x).length = posK ks key + 1 + (ks.length - skipK ks key) := length_putL _ hKL.symm
  rcases h with ⟨rfl, h1, rfl⟩ | ⟨rfl, h1, rfl⟩
  · have he : posK ks key = ks.length := by omega
    have hsk : skipK ks key = ks.length := by rcases skipK_cases ks key with ⟨hs, h, _⟩ | ⟨hs, _⟩ <;> omega
    refine .inl ⟨rfl, ?_, ?_, by omega, by omega⟩
    · have := putL_at (key := key) key ([] : List Int) (l := ks) rfl
      rw [he] at this
      exact this
    · have := putL_at (key := key) x x (l := vL) hKL.symm
      rw [he] at this
      exact this
  · exact .inr ⟨rfl, by omega, by omega⟩
end Go.Proofs.YthnkedbmfhokiaaGreatDoor
/-
  A map of parts into which a key was put: valueOf of it; no statement is proved here.
-/
namespace Go.Proofs.YthnkedbmfhokiaaGreatDoor
open Go.RowKit Go.Shelf
set_option linter.unusedVariables false
set_option linter.unusedSimpArgs false

theorem getD_eq {α : Type} (l : List α) (i : Nat) (x : α) (h : i < l.length) : l.getD i x = l[i] := by simp [List.getD, List.getElem?_eq_getElem h]

end Go.Proofs.YthnkedbmfhokiaaGreatDoor
/-
  The entries of a map laid into another, one by one: the value that comes of it, and the datum of a map of parts; no statement is proved here.
-/
namespace Go.Proofs.YthnkedbmfhokiaaGreatDoor
open Go.RowKit Go.Shelf
set_option linter.unusedVariables false
set_option linter.unusedSimpArgs false

/-- Entries laid into a map. -/
def mrgV (d : Nat) (v : Vl (d + 1)) (es : List (List Int × Vl d)) : Vl (d + 1) := es.foldl (fun o e => setV d o e.1 e.2) v
theorem mrgV_step {d : Nat} {v : Vl (d + 1)} {bK : List (List Int)} {bL : List (Vl d)} (hKL : bK.length = bL.length) {i : Nat} (hi : i < bL.length) :
    mrgV d v ((bK.zip bL).take (i + 1)) = setV d (mrgV d v ((bK.zip bL).take i)) (bK.getD i []) bL[i] := by
  have hz : i < (bK.zip bL).length := by rw [List.length_zip]; omega
  rw [List.take_add_one, List.getElem?_eq_getElem hz]
  have e : (bK.zip bL)[i] = (bK.getD i [], bL[i]) := by
    rw [List.getElem_zip]
    simp [List.getD_eq_getElem?_getD, List.getElem?_eq_getElem (show i < bK.length by omega)]
  rw [e, mrgV, Option.toList_some, List.foldl_append]
  rfl

/-- What may be laid together. -/
def SInv (d : Nat) (o : Vl (d + 1)) (n : Nat) : Prop := o.2.2.2.1.length = o.2.2.2.2.length ∧ o.2.2.2.1.length ≤ n ∧ (∀ i, i < o.2.2.2.1.length → upB o.2.2.2.1 i = true) ∧ (∀ i, i < o.2.2.2.1.length → (∀ x ∈ o.2.2.2.1.getD i [], Byt x) ∧ (o.2.2.2.1.getD i []).length ≤ 1048576)

theorem SInv.set {d n : Nat} {o : Vl (d + 1)} {key : List Int} {x : Vl d} (h : SInv d o n) (hy : ∀ y ∈ key, Byt y) (hk : key.length ≤ 1048576) : SInv d (setV d o key x) (n + 1) := by
  obtain ⟨k, vn, vs, K, L⟩ := o
  obtain ⟨hKL, hn, hu, hb⟩ := h
  simp only at hKL hn hu hb
  have hbt : ∀ i, i < K.length → ∀ x ∈ K.getD i [], Byt x := fun i hi => (hb i hi).1
  have hl1 : (setK K key).length = posK K key + 1 + (K.length - skipK K key) := length_putL _ rfl
  have hl2 : (putL K key L x).length = posK K key + 1 + (K.length - skipK K key) := length_putL _ hKL.symm
  have hpl := posK_le K key
  have hsl := skipK_le K key
  have hsp : posK K key ≤ skipK K key := by rcases skipK_cases K key with ⟨h, _⟩ | ⟨h, _⟩ <;> omega
  exact ⟨by show (setK K key).length = (putL K key L x).length; omega, by show (setK K key).length ≤ n + 1; omega, set_up hu hbt hy, set_byt hbt hy 1048576 (fun i hi => (hb i hi).2) hk⟩

theorem SInv.all {d : Nat} {a : Vl (d + 1)} {bK : List (List Int)} {bL : List (Vl d)} (h : SInv d a 40) (hKL : bK.length = bL.length) (hb : ∀ i, i < bK.length → (∀ x ∈ bK.getD i [], Byt x) ∧ (bK.getD i []).length ≤ 1048576) : ∀ i, i ≤ bL.length → SInv d (mrgV d a ((bK.zip bL).take i)) (40 + i)
  | 0, _ => h
  | i + 1, hi => by
    rw [mrgV_step hKL (by omega)]
    exact (SInv.all h hKL hb i (by omega)).set (hb i (by omega)).1 (hb i (by omega)).2

/-- A map of parts, and the value that it stands for. -/
def GInv (R : Nat → Prop) (w : World) (d : Nat) (o : Vl (d + 1)) (P : List Value) : Prop :=
  P.length = o.2.2.2.1.length ∧ ∀ i (h : i < o.2.2.2.2.length), PSeg R w d (P.getD i .nilIface) o.2.2.2.2[i] ∧ ∃ deep, goodB d o.2.2.2.2[i] deep = true ∧ partsV d o.2.2.2.2[i] ≤ 40

theorem padP_self (ps : List Value) {n : Nat} (h : ps.length = n) : padP ps n = ps := by
  apply List.ext_getElem?
  intro i
  by_cases hi : i < n
  · simp [padP, hi, List.getD_eq_getElem?_getD, List.getElem?_eq_getElem (show i < ps.length by omega)]
  · rw [List.getElem?_eq_none (by rw [length_padP]; omega), List.getElem?_eq_none (by omega)]

theorem GInv.put {R : Nat → Prop} {w : World} {d n : Nat} {o : Vl (d + 1)} {P : List Value} {key : List Int} {x : Vl d} {p : Value} (hs : SInv d o n) (h : GInv R w d o P) (hy : ∀ y ∈ key, Byt y) (hp : PSeg R w d p x) (hg : ∃ deep, goodB d x deep = true ∧ partsV d x ≤ 40) :
    GInv R w d (setV d o key x) (putL o.2.2.2.1 key P p) ∧ (DataW.map (entF o.2.2.2.1 P o.2.2.2.1.length)).put (.string (u8s key)) (.held p) = .map (entF (setV d o key x).2.2.2.1 (putL o.2.2.2.1 key P p) (setV d o key x).2.2.2.1.length) := by
  obtain ⟨k, vn, vs, K, L⟩ := o
  obtain ⟨hKL, hn, hu, hb⟩ := hs
  obtain ⟨hP, hall⟩ := h
  simp only at hKL hn hu hb hP hall
  have hbt : ∀ i, i < K.length → ∀ x ∈ K.getD i [], Byt x := fun i hi => (hb i hi).1
  have hl1 : (setK K key).length = posK K key + 1 + (K.length - skipK K key) := length_putL _ rfl
  have hl2 : (putL K key L x).length = posK K key + 1 + (K.length - skipK K key) := length_putL _ hKL.symm
  have hl3 : (putL K key P p).length = posK K key + 1 + (K.length - skipK K key) := length_putL _ hP
  have hpl := posK_le K key
  have hsl := skipK_le K key
  refine ⟨⟨by show (putL K key P p).length = (setK K key).length; omega, ?_⟩, ?_⟩
  · show ∀ i (h : i < (putL K key L x).length), PSeg R w d ((putL K key P p).getD i .nilIface) (putL K key L x)[i] ∧ ∃ deep, goodB d (putL K key L x)[i] deep = true ∧ partsV d (putL K key L x)[i] ≤ 40
    intro i hi
    have hi' : i < posK K key + 1 + (K.length - skipK K key) := by omega
    rcases Nat.lt_trichotomy i (posK K key) with hlt | heq | hgt
    · have e1 := putL_lt (key := key) p .nilIface hP (j := i) hlt
      have e2 := putL_lt (key := key) x x hKL.symm (j := i) hlt
      rw [getD_eq _ _ _ hi, getD_eq L i x (by omega)] at e2
      rw [e1, e2]
      exact hall i (by omega)
    · subst heq
      have e1 := putL_at (key := key) p .nilIface hP
      have e2 := putL_at (key := key) x x hKL.symm
      rw [getD_eq _ _ _ hi] at e2
      rw [e1, e2]
      exact ⟨hp, hg⟩
    · obtain ⟨j, rfl⟩ : ∃ j, i = posK K key + 1 + j := ⟨i - posK K key - 1, by omega⟩
      have e1 := putL_gt (key := key) p .nilIface hP (i := j)
      have e2 := putL_gt (key := key) x x hKL.symm (i := j)
      rw [getD_eq _ _ _ hi, getD_eq L _ x (by omega)] at e2
      rw [e1, e2]
      exact hall _ (by omega)
  · have := put_ent (ps := P) (p := p) hu hbt hy
    rw [padP_self P hP] at this
    exact this

end Go.Proofs.YthnkedbmfhokiaaGreatDoor
/-
  Values that are drawn are good ones: plain mathematics; no Go text here.
-/
namespace Go.Proofs.YthnkedbmfhokiaaGreatDoor
open Go.RowKit
set_option linter.unusedVariables false
set_option linter.unusedSimpArgs false

/-- How many parts there may be, so many levels below. -/
def pnD : Nat → Nat
  | 0 => 1
  | n + 1 => 1 + 3 * pnD n
theorem pnD_pos : ∀ n, 1 ≤ pnD n
  | 0 => Nat.le_refl _
  | n + 1 => by unfold pnD; omega

/-- A drawn value: good wherever there is room for its depth, and not of too many parts. -/
def GoodD (n : Nat) (v : Vl (n + 1)) : Prop := (∀ dd, dd + n ≤ 5 → goodB (n + 1) v dd = true) ∧ partsV (n + 1) v ≤ pnD n

theorem good_leafD (n : Nat) (k m : Int) (s : List Int) (h : shapeB k m s [] 0 = true) : GoodD n (k, m, s, [], []) := by
  refine ⟨fun dd hd => ?_, ?_⟩
  · rw [good_succ]
    exact ⟨by omega, h, fun j hj => absurd hj (by simp)⟩
  · rw [parts_succ]
    have := pnD_pos n
    simpa [pre] using this

theorem pre_boundD {n : Nat} {L : List (Vl (n + 1))} (h : ∀ i (hi : i < L.length), GoodD n L[i]) : ∀ k, k ≤ L.length → pre (partsV (n + 1)) L k ≤ k * pnD n
  | 0, _ => by simp [pre]
  | k + 1, hk => by
    have h1 := pre_boundD h k (by omega)
    have h2 := pre_succ (partsV (n + 1)) L k (by omega)
    have h3 := (h k (by omega)).2
    rw [h2, Nat.succ_mul]
    omega

theorem good_listD {n : Nat} {L : List (Vl (n + 1))} (h : ∀ i (hi : i < L.length), GoodD n L[i]) (hl : L.length ≤ 3) : GoodD (n + 1) (4, 0, [], [], L) := by
  refine ⟨fun dd hd => ?_, ?_⟩
  · rw [good_succ]
    exact ⟨by omega, by simp [shapeB, bareB], fun j hj => (h j hj).1 (dd + 1) (by omega)⟩
  · rw [parts_succ]
    have h1 := pre_boundD h L.length (Nat.le_refl _)
    have h2 : L.length * pnD n ≤ 3 * pnD n := Nat.mul_le_mul_right _ hl
    show _ ≤ 1 + 3 * pnD n
    omega

/-- A map of drawn parts. -/
def MapG (n k : Nat) (v : Vl (n + 1 + 1)) : Prop := v.1 = 5 ∧ v.2.1 = 0 ∧ v.2.2.1 = [] ∧ SInv (n + 1) v k ∧ (∀ i, i < v.2.2.2.1.length → nameB (v.2.2.2.1.getD i []) = true) ∧ ∀ i (hi : i < v.2.2.2.2.length), GoodD n v.2.2.2.2[i]

theorem mapG_nil (n : Nat) : MapG n 0 ((5 : Int), (0 : Int), ([] : List Int), ([] : List (List Int)), ([] : List (Vl (n + 1)))) :=
  ⟨rfl, rfl, rfl, ⟨rfl, Nat.le_refl _, fun i hi => absurd hi (by simp), fun i hi => absurd hi (by simp)⟩, fun i hi => absurd hi (by simp), fun i hi => absurd hi (by simp)⟩

theorem name_byt {xs : List Int} (h : nameB xs = true) : (∀ x ∈ xs, Byt x) ∧ xs.length ≤ 8 := by
  simp only [nameB, Bool.and_eq_true, decide_eq_true_eq, List.all_eq_true] at h
  refine ⟨fun x hx => ?_, by omega⟩
  have := h.2 x hx
  simp only [letB, Bool.and_eq_true, decide_eq_true_eq] at this
  unfold Byt
  omega

theorem MapG.set {n k : Nat} {v : Vl (n + 1 + 1)} {key : List Int} {x : Vl (n + 1)} (h : MapG n k v) (hk : nameB key = true) (hx : GoodD n x) : MapG n (k + 1) (setV (n + 1) v key x) := by
  obtain ⟨vk, vn, vs, K, L⟩ := v
  obtain ⟨h1, h2, h3, hs, hn, hg⟩ := h
  obtain ⟨hy, hl8⟩ := name_byt hk
  refine ⟨rfl, rfl, rfl, hs.set hy (by omega), ?_, ?_⟩
  · obtain ⟨hKL, hkn, hu, hb⟩ := hs
    simp only at hKL hkn hu hb hn
    have hl1 : (setK K key).length = posK K key + 1 + (K.length - skipK K key) := length_putL _ rfl
    have hpl := posK_le K key
    have hsl := skipK_le K key
    show ∀ i, i < (setK K key).length → nameB ((setK K key).getD i []) = true
    intro i hi
    rcases Nat.lt_trichotomy i (posK K key) with hlt | heq | hgt
    · unfold setK
      rw [putL_lt (key := key) key [] rfl hlt]
      exact hn i (by omega)
    · subst heq
      unfold setK
      rw [putL_at (key := key) key [] rfl]
      exact hk
    · obtain ⟨j, rfl⟩ : ∃ j, i = posK K key + 1 + j := ⟨i - posK K key - 1, by omega⟩
      unfold setK
      rw [putL_gt (key := key) key [] rfl]
      exact hn _ (by omega)
  · obtain ⟨hKL, hkn, hu, hb⟩ := hs
    simp only at hKL hkn hu hb hg
    have hl2 : (putL K key L x).length = posK K key + 1 + (K.length - skipK K key) := length_putL _ hKL.symm
    have hpl := posK_le K key
    have hsl := skipK_le K key
    show ∀ i (hi : i < (putL K key L x).length), GoodD n (putL K key L x)[i]
    intro i hi
    rcases Nat.lt_trichotomy i (posK K key) with hlt | heq | hgt
    · have e2 := putL_lt (key := key) x x hKL.symm (j := i) hlt
      rw [getD_eq _ _ _ hi, getD_eq L i x (by omega)] at e2
      rw [e2]
      exact hg i (by omega)
    · subst heq
      have e2 := putL_at (key := key) x x hKL.symm
      rw [getD_eq _ _ _ hi] at e2
      rw [e2]
      exact hx
    · obtain ⟨j, rfl⟩ : ∃ j, i = posK K key + 1 + j := ⟨i - posK K key - 1, by omega⟩
      have e2 := putL_gt (key := key) x x hKL.symm (i := j)
      rw [getD_eq _ _ _ hi, getD_eq L _ x (by omega)] at e2
      rw [e2]
      exact hg _ (by omega)

theorem MapG.good {n k : Nat} {v : Vl (n + 1 + 1)} (h : MapG n k v) (hk : k ≤ 3) : GoodD (n + 1) v := by
  obtain ⟨vk, vn, vs, K, L⟩ := v
  obtain ⟨h1, h2, h3, ⟨hKL, hkn, hu, hb⟩, hn, hg⟩ := h
  simp only at h1 h2 h3 hKL hkn hu hb hn hg
  subst h1 h2 h3
  have hasc : ascB K = true := ascB_yes fun i hi => by
    unfold stepB
    have := hu i hi
    unfold upB at this
    rw [hn i hi, this]
    rfl
  refine ⟨fun dd hd => ?_, ?_⟩
  · rw [good_succ]
    exact ⟨by omega, by simp [shapeB, bareB, hKL, hasc], fun j hj => (hg j hj).1 (dd + 1) (by omega)⟩
  · rw [parts_succ]
    have e1 := pre_boundD hg L.length (Nat.le_refl _)
    have e2 : L.length * pnD n ≤ 3 * pnD n := Nat.mul_le_mul_right _ (by omega)
    show _ ≤ 1 + 3 * pnD n
    omega

/-- What may be, whatever depth it is drawn at. -/
theorem GoodD.ok {v : Vl 4} (h : GoodD 3 v) : okB 4 v = true := by
  unfold okB
  rw [h.1 1 (by omega)]
  have := h.2
  simp [pnD] at this
  simp
  exact this
end Go.Proofs.YthnkedbmfhokiaaGreatDoor
