/-
  Texts that a law leans on, one behind the other; no statement is proved here.
-/
import Derived.Test.YtpknhmegoldppaaPk15
import Derived.Test.YtpknhmegoldppaaPk14
/-
  A map that is being made anew, key by key: what its block and its two rows hold; no statement is proved here.
-/
namespace Go.Proofs.Ytpknhmegoldppaa
open Go.RowKit
set_option linter.unusedVariables false
set_option linter.unusedSimpArgs false

/-- The new map's block O holds rows of mK keys and mL values, each read in the world w of old; nothing old has turned but O. -/
def SIx (R : Nat → Prop) (w w1 : World) (O d : Nat) (F : List (List Int)) (FL : List (Vl d)) (x0 : Vl d) (mK mL : Nat) (wr : World) (xK xL : Value) (us : List Value) (fs : List V5) : Prop :=
  wr.heap[O]? = some (.cells #[.int .i64 5, .int .i64 0, .slice none 0 0, xK, xL] 30 (0, 0)) ∧ w1.grownBy wr (some O) ∧ wr.ownsRow w1.heap.size 22 1 xK mK us ∧ wr.ownsRow w1.heap.size 30 5 xL mL ((fs.map enc5).flatten) ∧
    (∀ b, xK.ownBlock = some b → xL.ownBlock ≠ some b) ∧ us.length = mK ∧ fs.length = mL ∧ (∀ j (h : j < us.length), TSeg R w us[j] (F.getD j [])) ∧ ∀ j (h : j < fs.length), VSeg R w d fs[j] (FL.getD j x0)

theorem row_on_below {w w' : World} {base n s : Nat} {e : TypeId} {v : Value} {xs : List Value} (h : w.ownsRow base e s v n xs) (hb : Below w.heap.size w w') : w'.ownsRow base e s v n xs :=
  h.kept (row := none) ⟨hb.os, hb.tape, hb.output, hb.size, fun k hk _ => hb.block k hk⟩ (by cases hv : v.ownBlock <;> simp)

theorem row_off {w w' : World} {base n s : Nat} {e : TypeId} {v : Value} {xs : List Value} {r : Option Nat} (h : w.ownsRow base e s v n xs) (hg : w.grownBy w' r) (hne : ∀ b, v.ownBlock = some b → r ≠ some b) : w'.ownsRow base e s v n xs := by
  refine h.kept hg ?_
  cases hx : v.ownBlock with
  | none => exact .inl rfl
  | some g => exact .inr fun e => hne g hx e.symm

theorem grown_chain {w1 wr wa wb : World} {O j : Nat} {x : Value} {r : Option Nat} (h : w1.grownBy wr (some O)) (hb : Below wr.heap.size wr wa) (hg : wa.grownBy wb r) (hr : ∀ b, r = some b → w1.heap.size ≤ b) : w1.grownBy (wb.setCell ⟨O, j, none⟩ x) (some O) := by
  have hs := grown1 wb O j x
  have z1 := h.size
  have z2 := hb.size
  have z3 := hg.size
  refine ⟨hs.os.trans (hg.os.trans (hb.os.trans h.os)), hs.tape.trans (hg.tape.trans (hb.tape.trans h.tape)), hs.output.trans (hg.output.trans (hb.output.trans h.output)), by have := hs.size; omega, fun b hl hne => ?_⟩
  refine (hs.block b (by omega) hne).trans ((hg.block b (by omega) fun e => ?_).trans ((hb.block b (by omega)).trans (h.block b hl hne)))
  have := hr b e.symm
  omega

theorem kseg_ofR {R : Nat → Prop} {w : World} {base : Nat} {v : Value} {n : Nat} {us : List Value} {ks : List (List Int)} (h : w.ownsRow base 22 1 v n us) (hn : n = ks.length) (hR : ∀ g, base ≤ g → g < w.heap.size → R g) (hT : ∀ i (hi : i < us.length), TSeg R w us[i] (ks.getD i [])) : KSeg R w v ks := by
  have hul : us.length = n := by have := h.1; omega
  have hcell := fun g hg => h.cells (g := g) hg
  have hlt := h.lt
  rcases h.2 with ⟨rfl, h0⟩ | ⟨g, cap, cur, rfl, hg, hh, hle, hm, _, _⟩
  · have hk : ks = [] := List.eq_nil_of_length_eq_zero (by omega)
    subst hk
    exact ⟨none, 0, rfl, by simp, by simp, fun _ => rfl, .inl rfl⟩
  · subst hn
    refine ⟨some ⟨g, 0, none⟩, cap, rfl, hle, hm, by simp, .inr ⟨g, 0, rfl, hR g (hlt g rfl).1 (Array.getElem?_eq_some_iff.1 hh).1, fun i hi => ?_⟩⟩
    have hi' : i < us.length := by omega
    refine ⟨us[i], ?_, hT i hi'⟩
    have := hcell g rfl i us[i] (List.getElem?_eq_getElem hi')
    rw [Addr.add_lit] at this
    exact this

theorem lseg_ofR {R : Nat → Prop} {w : World} {base d : Nat} {v : Value} {n : Nat} {fs : List V5} {vl : List (Vl d)} (h : w.ownsRow base 30 5 v n ((fs.map enc5).flatten)) (hn : n = vl.length) (hR : ∀ g, base ≤ g → g < w.heap.size → R g) (hV : ∀ i (hi : i < fs.length) (h' : i < vl.length), VSeg R w d fs[i] vl[i]) : LSeg R w d v vl := by
  have hul : fs.length = n := by have := h.1; rw [flat_len] at this; omega
  have hcell := fun g hg => h.cells (g := g) hg
  have hlt := h.lt
  rcases h.2 with ⟨rfl, h0⟩ | ⟨g, cap, cur, rfl, hg, hh, hle, hm, _, _⟩
  · have hk : vl = [] := List.eq_nil_of_length_eq_zero (by omega)
    subst hk
    exact ⟨none, 0, rfl, by simp, by simp, fun _ => rfl, .inl rfl⟩
  · subst hn
    refine ⟨some ⟨g, 0, none⟩, cap, rfl, hle, hm, by simp, .inr ⟨g, 0, rfl, hR g (hlt g rfl).1 (Array.getElem?_eq_some_iff.1 hh).1, fun i hi => ?_⟩⟩
    have hi' : i < fs.length := by omega
    refine ⟨fs[i], five_lie (fun j u hj => ?_) i hi', hV i hi' hi⟩
    have := hcell g rfl j u hj
    rw [Addr.add_lit] at this
    exact this

section
variable {R : Nat → Prop} {w w1 wr wa wb : World} {O d mK mL : Nat} {F : List (List Int)} {FL : List (Vl d)} {x0 : Vl d} {xK xL : Value} {us : List Value} {fs : List V5}

theorem six_k {u : Value} {g cap : Nat} (h : SIx R w w1 O d F FL x0 mK mL wr xK xL us fs) (hO : O < w1.heap.size) (hb : Below wr.heap.size wr wa) (hown : wb.ownsRow w1.heap.size 22 1 (.slice (some ⟨g, 0, none⟩) (mK + 1) cap) (mK + 1) (us ++ [u])) (hg : wa.grownBy wb xK.ownBlock) (hat : xK.ownBlock = some g ∨ g = wa.heap.size) (hu : TSeg R w u (F.getD mK [])) :
    wb.heap[O]? = some (.cells #[.int .i64 5, .int .i64 0, .slice none 0 0, xK, xL] 30 (0, 0)) ∧ wb.frozen? ⟨O, 3, none⟩ = false ∧ SIx R w w1 O d F FL x0 (mK + 1) mL (wb.setCell ⟨O, 3, none⟩ (.slice (some ⟨g, 0, none⟩) (mK + 1) cap)) (.slice (some ⟨g, 0, none⟩) (mK + 1) cap) xL (us ++ [u]) fs := by
  obtain ⟨h1, h2, h3, h4, h5, h6, h7, h8, h9⟩ := h
  have z1 := h2.size
  have z2 := hb.size
  have hgl := hown.lt g rfl
  have hK := h3.lt
  have hL := h4.lt
  have hV : wb.heap[O]? = some (.cells #[.int .i64 5, .int .i64 0, .slice none 0 0, xK, xL] 30 (0, 0)) := (hg.block O (by omega) fun e => by have := hK O e.symm; omega).trans ((hb.block O (by omega)).trans h1)
  have hs := grown1 wb O 3 (.slice (some ⟨g, 0, none⟩) (mK + 1) cap)
  refine ⟨hV, frozen_of_row _ _ _ _ _ hV, heap_setCell_same wb O 3 _ _ _ hV, grown_chain h2 hb hg (fun b hb => (hK b hb).1), row_off hown hs (fun b e => by simp [Value.ownBlock] at e; intro e2; simp at e2; omega), row_off (row_off (row_on_below h4 hb) hg (fun b e e2 => h5 b e2 e)) hs (fun b e e2 => by have := hL b e; simp at e2; omega), ?_, by simp [h6], h7, ?_, h9⟩
  · intro b e e2
    simp [Value.ownBlock] at e
    rcases hat with h | h
    · exact h5 g h (by rw [e]; exact e2)
    · have := hL b e2
      omega
  · intro j hj
    by_cases hlt : j < us.length
    · rw [List.getElem_append_left hlt]
      exact h8 j hlt
    · have hj' : j = us.length := by simp at hj; omega
      subst hj'
      rw [List.getElem_append_right (Nat.le_refl _)]
      simpa [h6] using hu

theorem six_l {e : V5} {g cap : Nat} (h : SIx R w w1 O d F FL x0 mK mL wr xK xL us fs) (hO : O < w1.heap.size) (hb : Below wr.heap.size wr wa) (hown : wb.ownsRow w1.heap.size 30 5 (.slice (some ⟨g, 0, none⟩) (mL + 1) cap) (mL + 1) ((fs.map enc5).flatten ++ enc5 e)) (hg : wa.grownBy wb xL.ownBlock) (hat : xL.ownBlock = some g ∨ g = wa.heap.size) (hu : VSeg R w d e (FL.getD mL x0)) :
    wb.heap[O]? = some (.cells #[.int .i64 5, .int .i64 0, .slice none 0 0, xK, xL] 30 (0, 0)) ∧ wb.frozen? ⟨O, 4, none⟩ = false ∧ SIx R w w1 O d F FL x0 mK (mL + 1) (wb.setCell ⟨O, 4, none⟩ (.slice (some ⟨g, 0, none⟩) (mL + 1) cap)) xK (.slice (some ⟨g, 0, none⟩) (mL + 1) cap) us (fs ++ [e]) := by
  obtain ⟨h1, h2, h3, h4, h5, h6, h7, h8, h9⟩ := h
  have z1 := h2.size
  have z2 := hb.size
  have hgl := hown.lt g rfl
  have hK := h3.lt
  have hL := h4.lt
  have hV : wb.heap[O]? = some (.cells #[.int .i64 5, .int .i64 0, .slice none 0 0, xK, xL] 30 (0, 0)) := (hg.block O (by omega) fun e => by have := hL O e.symm; omega).trans ((hb.block O (by omega)).trans h1)
  have hs := grown1 wb O 4 (.slice (some ⟨g, 0, none⟩) (mL + 1) cap)
  have hfl : (((fs ++ [e]).map enc5).flatten) = (fs.map enc5).flatten ++ enc5 e := by simp
  refine ⟨hV, frozen_of_row _ _ _ _ _ hV, heap_setCell_same wb O 4 _ _ _ hV, grown_chain h2 hb hg (fun b hb => (hL b hb).1), row_off (row_off (row_on_below h3 hb) hg (fun b e e2 => h5 b e e2)) hs (fun b e e2 => by have := hK b e; simp at e2; omega), by rw [hfl]; exact row_off hown hs (fun b e => by simp [Value.ownBlock] at e; intro e2; simp at e2; omega), ?_, h6, by simp [h7], h8, ?_⟩
  · intro b e1 e2
    simp [Value.ownBlock] at e2
    rcases hat with h | h
    · exact h5 b e1 (by rw [← e2]; exact h)
    · have := hK b e1
      omega
  · intro j hj
    by_cases hlt : j < fs.length
    · rw [List.getElem_append_left hlt]
      exact h9 j hlt
    · have hj' : j = fs.length := by simp at hj; omega
      subst hj'
      rw [List.getElem_append_right (Nat.le_refl _)]
      simpa [h7] using hu

/-- All of it: it can be read, behind a store into another block of before. -/
theorem six_end {G : Nat} {wf : World} (h : SIx R w w1 O d F FL x0 mK mL wr xK xL us fs) (hK : mK = F.length) (hL : mL = FL.length) (hgf : wr.grownBy wf (some G)) (hG : G < w1.heap.size) (hb : Below w.heap.size w wf) (hR : ∀ b, R b → b < w.heap.size) (hw1 : w.heap.size ≤ w1.heap.size) : VSeg (fun b => R b ∨ (w.heap.size ≤ b ∧ b < wf.heap.size)) wf (d + 1) (.int .i64 5, .int .i64 0, .slice none 0 0, xK, xL) ((5 : Int), (0 : Int), ([] : List Int), F, FL) := by
  obtain ⟨h1, h2, h3, h4, h5, h6, h7, h8, h9⟩ := h
  have hz := hb.size
  have h3 := row_off h3 hgf (fun b e e2 => by have := (h3.lt b e).1; simp at e2; omega)
  have h4 := row_off h4 hgf (fun b e e2 => by have := (h4.lt b e).1; simp at e2; omega)
  refine (VSeg_succ _ _ _ _ _).2 ⟨rfl, rfl, ⟨none, 0, rfl, ⟨by simp, .inl rfl⟩, by simp, by simp, fun _ => rfl, by simp⟩, ?_, ?_⟩
  · exact kseg_ofR h3 hK (fun g h1 h2 => .inr ⟨by omega, h2⟩) fun i hi => ((h8 i hi).agree (fun b hb' => hb.block b (hR b hb'))).mono (fun b hb' => .inl hb')
  · refine lseg_ofR h4 hL (fun g h1 h2 => .inr ⟨by omega, h2⟩) fun i hi h' => ?_
    have h10 := h9 i hi
    have e : FL.getD i x0 = FL[i] := by simp [List.getD_eq_getElem?_getD, h']
    rw [e] at h10
    exact VSeg.mono (fun b hb' => .inl hb') d (VSeg.agree (fun b hb' => hb.block b (hR b hb')) d h10)
end

theorem six_start {R : Nat → Prop} {w w1 : World} {O d : Nat} {F : List (List Int)} {FL : List (Vl d)} {x0 : Vl d} (h : w1.heap[O]? = some (.cells #[.int .i64 5, .int .i64 0, .slice none 0 0, .slice none 0 0, .slice none 0 0] 30 (0, 0))) : SIx R w w1 O d F FL x0 0 0 w1 (.slice none 0 0) (.slice none 0 0) [] [] :=
  ⟨h, World.grownBy.refl _ _, World.ownsRow_nil _ _ _ _, World.ownsRow_nil _ _ _ _, by simp [Value.ownBlock], rfl, rfl, fun j hj => by simp at hj, fun j hj => by simp at hj⟩
end Go.Proofs.Ytpknhmegoldppaa
/-
  The rounds of l2set: which key comes next into the new map; no statement is proved here.
-/
namespace Go.Proofs.Ytpknhmegoldppaa
open Go.RowKit
set_option linter.unusedVariables false
set_option linter.unusedSimpArgs false

/-- After k keys: m of the new map's are there; pb: the new one among them. -/
def StK (ks : List (List Int)) (key : List Int) (pb : Bool) (m k : Nat) : Prop := (pb = false ∧ k ≤ posK ks key ∧ m = k) ∨ (pb = true ∧ skipK ks key ≤ k ∧ m = posK ks key + 1 + (k - skipK ks key))

theorem cmp_gt {a b : List Int} (h : ltS b a = true) : bytesC a b = 1 := by
  have h1 := less_ba a b
  rw [strOf_list, strOf_list] at h1
  have h2 : Op.bytesLess (u8s b) (u8s a) = true := h
  rw [h2] at h1
  have := of_decide_eq_true h1.symm
  rcases bytesC_cases a b with h | h | h <;> omega
theorem cmp_lt {a b : List Int} (h : ltS a b = true) : bytesC a b = -1 := by
  have h1 := less_ab a b
  rw [strOf_list, strOf_list] at h1
  have h2 : Op.bytesLess (u8s a) (u8s b) = true := h
  rw [h2] at h1
  have := of_decide_eq_true h1.symm
  rcases bytesC_cases a b with h | h | h <;> omega
theorem cmp_self (a : List Int) : bytesC a a = 0 := (cmp_zero _ _).2 rfl

theorem set_round {d : Nat} {ks : List (List Int)} {key : List Int} {vL : List (Vl d)} {x : Vl d} (hu : ∀ i, i < ks.length → upB ks i = true) (hb : ∀ i, i < ks.length → ∀ y ∈ ks.getD i [], Byt y) (hy : ∀ y ∈ key, Byt y) (hKL : ks.length = vL.length) {k m : Nat} {pb : Bool} (hk : k < ks.length) (h : StK ks key pb m k) :
    (pb = false ∧ bytesC key (ks.getD k []) = 1 ∧ (setK ks key).getD m [] = ks.getD k [] ∧ (putL ks key vL x).getD m x = vL.getD k x ∧ StK ks key false (m + 1) (k + 1)) ∨
    (pb = true ∧ bytesC key (ks.getD k []) = -1 ∧ (setK ks key).getD m [] = ks.getD k [] ∧ (putL ks key vL x).getD m x = vL.getD k x ∧ StK ks key true (m + 1) (k + 1)) ∨
    (pb = false ∧ (setK ks key).getD m [] = key ∧ (putL ks key vL x).getD m x = x ∧ ((bytesC key (ks.getD k []) = 0 ∧ StK ks key true (m + 1) (k + 1)) ∨ (bytesC key (ks.getD k []) = -1 ∧ (setK ks key).getD (m + 1) [] = ks.getD k [] ∧ (putL ks key vL x).getD (m + 1) x = vL.getD k x ∧ StK ks key true (m + 1 + 1) (k + 1)))) := by
  have hpl := posK_le ks key
  have hsl := skipK_le ks key
  rcases h with ⟨rfl, h1, rfl⟩ | ⟨rfl, h1, rfl⟩
  · by_cases hlt : m < posK ks key
    · exact .inl ⟨rfl, cmp_gt (pos_lt ks key m hlt), putL_lt _ _ rfl hlt, putL_lt _ _ hKL.symm hlt, .inl ⟨rfl, by omega, rfl⟩⟩
    · have he : m = posK ks key := by omega
      subst he
      refine .inr (.inr ⟨rfl, putL_at _ _ rfl, putL_at _ _ hKL.symm, ?_⟩)
      rcases skipK_cases ks key with ⟨hs, _, hh⟩ | ⟨hs, hn⟩
      · refine .inl ⟨by rw [hh]; exact cmp_self key, .inr ⟨rfl, by omega, by omega⟩⟩
      · refine .inr ⟨cmp_lt (skip_gt hu hb hy (by omega) hk), ?_, ?_, .inr ⟨rfl, by omega, by omega⟩⟩
        · have := putL_gt (key := key) key ([] : List Int) (l := ks) rfl (i := 0)
          rw [hs] at this
          show (putL ks key ks key).getD (posK ks key + 1) [] = _
          simpa using this
        · have := putL_gt (key := key) x x (l := vL) hKL.symm (i := 0)
          rw [hs] at this
          simpa using this
  · obtain ⟨i, rfl⟩ : ∃ i, k = skipK ks key + i := ⟨k - skipK ks key, by omega⟩
    rw [Nat.add_sub_cancel_left]
    exact .inr (.inl ⟨rfl, cmp_lt (skip_gt hu hb hy (by omega) hk), putL_gt _ _ rfl, putL_gt _ _ hKL.symm, .inr ⟨rfl, by omega, by omega⟩⟩)

theorem set_last {d : Nat} {ks : List (List Int)} {key : List Int} {vL : List (Vl d)} {x : Vl d} (hKL : ks.length = vL.length) {m : Nat} {pb : Bool} (h : StK ks key pb m ks.length) :
    (pb = false ∧ (setK ks key).getD m [] = key ∧ (putL ks key vL x).getD m x = x ∧ m + 1 = (setK ks key).length ∧ m + 1 = (putL ks key vL x).length) ∨ (pb = true ∧ m = (setK ks key).length ∧ m = (putL ks key vL x).length) := by
  have hpl := posK_le ks key
  have hsl := skipK_le ks key
  have l1 : (setK ks key).length = posK ks key + 1 + (ks.length - skipK ks key) := length_putL _ rfl
  have l2 : (putL ks key vL x).length = posK ks key + 1 + (ks.length - skipK ks key) := length_putL _ hKL.symm
  rcases h with ⟨rfl, h1, rfl⟩ | ⟨rfl, h1, rfl⟩
  · have he : posK ks key = ks.length := by omega
    have hsk : skipK ks key = ks.length := by rcases skipK_cases ks key with ⟨hs, h, _⟩ | ⟨hs, _⟩ <;> omega
    refine .inl ⟨rfl, ?_, ?_, by omega, by omega⟩
    · have := putL_at (key := key) key ([] : List Int) (l := ks) rfl
      rw [he] at this
      exact this
    · have := putL_at (key := key) x x (l := vL) hKL.symm
      rw [he] at this
      exact this
  · exact .inr ⟨rfl, by omega, by omega⟩
end Go.Proofs.Ytpknhmegoldppaa
