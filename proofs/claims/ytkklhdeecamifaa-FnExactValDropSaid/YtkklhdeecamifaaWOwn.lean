/-
  What is owned, behind later calls; how many marks a value takes.
-/
import Derived.Test.YtkklhdeecamifaaMkW
namespace Go.Proofs.Ytkklhdeecamifaa
open Go.RowKit
set_option linter.unusedVariables false
set_option linter.unusedSimpArgs false

theorem VOwn.below {w w' : World} {d : Nat} {c : Value × Value × Value × Value × Value} {v : Vl d} {B : List Nat} (h : VOwn w d c v B) (hb : Below w.heap.size w w') : VSeg (fun b => b < w.heap.size) w' d c v :=
  VSeg.agree (agree_below hb) d (VSeg.mono (fun b hb => VOwn.lt d h b hb) d (VOwn.seg d h))

theorem KOwn.on {w w' : World} {v : Value} {ks : List (List Int)} {B : List Nat} (h : KOwn w v ks B) (hb : Below w.heap.size w w') : KOwn w' v ks B := h.agree fun b hb' => hb.block b (h.lt b hb')
theorem VOwn.on {w w' : World} {d : Nat} {c : Value × Value × Value × Value × Value} {v : Vl d} {B : List Nat} (h : VOwn w d c v B) (hb : Below w.heap.size w w') : VOwn w' d c v B := VOwn.agree d h fun b hb' => hb.block b (VOwn.lt d h b hb')
theorem KOwn.far {w w' : World} {v : Value} {ks : List (List Int)} {B B' : List Nat} (h : KOwn w v ks B) (hT : Turned B' w w') (hd : ∀ b ∈ B, b ∉ B') : KOwn w' v ks B := h.agree fun b hb' => hT.block b (h.lt b hb') (hd b hb')
theorem KOwn.read {w : World} {v : Value} {ks : List (List Int)} {B : List Nat} (h : KOwn w v ks B) : KSeg (fun b => b < w.heap.size) w v ks := h.seg.mono fun b hb => h.lt b hb

theorem sum_cE {d : Nat} (h : ∀ v : Vl d, cE d v ≤ 2 + 2 * szV d v) : ∀ l : List (Vl d), (l.map (cE d)).sum ≤ 2 * l.length + 2 * (l.map (szV d)).sum
  | [] => by simp
  | x :: r => by
    have h1 := h x
    have h2 := sum_cE h r
    simp only [List.map_cons, List.sum_cons, List.length_cons]
    omega

theorem cE_sz : ∀ (d : Nat) (v : Vl d), cE d v ≤ 2 + 2 * szV d v
  | 0, _ => by simp [cE]
  | d + 1, (vk, vn, vs, vK, vL) => by
    have h2 := sum_cE (cE_sz d) vL
    have h3 : szV (d + 1) (vk, vn, vs, vK, vL) = szT vs + szK vK + (vL.length + (vL.map (szV d)).sum) := rfl
    have h4 : cE (d + 1) (vk, vn, vs, vK, vL) = 2 + (vs.length + ((vK.map List.length).sum + (vL.map (cE d)).sum)) := rfl
    have h5 : szK vK = vK.length + (vK.map List.length).sum := rfl
    have h6 : vs.length ≤ szT vs := by unfold szT; omega
    omega

theorem cV_le (d : Nat) (v : Vl (d + 1)) : cV d v ≤ 2 * szV (d + 1) v := by
  obtain ⟨vk, vn, vs, vK, vL⟩ := v
  have h2 := sum_cE (cE_sz d) vL
  have h3 : szV (d + 1) (vk, vn, vs, vK, vL) = szT vs + szK vK + (vL.length + (vL.map (szV d)).sum) := rfl
  have h4 : cV d (vk, vn, vs, vK, vL) = vs.length + (vK.map List.length).sum + (vL.map (cE d)).sum := rfl
  have h5 : szK vK = vK.length + (vK.map List.length).sum := rfl
  have h6 : vs.length ≤ szT vs := by unfold szT; omega
  omega

theorem VOwn.far {w w' : World} {d : Nat} {c : Value × Value × Value × Value × Value} {v : Vl d} {B B' : List Nat} (h : VOwn w d c v B) (hT : Turned B' w w') (hd : ∀ b ∈ B, b ∉ B') : VOwn w' d c v B := VOwn.agree d h fun b hb' => hT.block b (VOwn.lt d h b hb') (hd b hb')
theorem VOwn.read {w : World} {d : Nat} {c : Value × Value × Value × Value × Value} {v : Vl d} {B : List Nat} (h : VOwn w d c v B) : VSeg (fun b => b < w.heap.size) w d c v := h.below (Below.refl _ _)
theorem row_on {w w' : World} {b : Nat} {o : Obj} (h : w.heap[b]? = some o) (hb : Below w.heap.size w w') : w'.heap[b]? = some o := (hb.block b (Array.getElem?_eq_some_iff.1 h).1).trans h
theorem row_far {w w' : World} {b : Nat} {o : Obj} {B : List Nat} (h : w.heap[b]? = some o) (hT : Turned B w w') (hn : b ∉ B) : w'.heap[b]? = some o := (hT.block b (Array.getElem?_eq_some_iff.1 h).1 hn).trans h
theorem row_mark {w w' : World} {b : Nat} {o : Obj} {r : Option Nat} (h : w.heap[b]? = some o) (hg : w.grownBy w' r) (hn : some b ≠ r) : w'.heap[b]? = some o := (hg.block b (Array.getElem?_eq_some_iff.1 h).1 hn).trans h
theorem VOwn.mark {w w' : World} {d : Nat} {c : Value × Value × Value × Value × Value} {v : Vl d} {B : List Nat} {r : Option Nat} (h : VOwn w d c v B) (hg : w.grownBy w' r) (hn : ∀ b ∈ B, some b ≠ r) : VOwn w' d c v B := VOwn.agree d h fun b hb => hg.block b (VOwn.lt d h b hb) (hn b hb)

theorem Bts.far {w w' : World} {base : Nat} {v : Value} {xs : List Int} {B : List Nat} (h : Bts w base v xs) (hT : Turned B w w') (hv : ∀ k, v.ownBlock = some k → k ∉ B) : Bts w' base v xs := by
  have hl := h.2.lt
  refine ⟨h.1, h.2.1, ?_⟩
  rcases h.2.2 with h0 | ⟨g, cap, cur, rfl, hg, hh, r⟩
  · exact .inl h0
  · exact .inr ⟨g, cap, cur, rfl, hg, (hT.block g (hl g rfl).2 (hv g rfl)).trans hh, r⟩

/-- What a call that hands out a value and a word leaves: a value of the call's own, and the word. -/
def Ans (D : Nat) (a : Vl (D + 1)) (bb : Bool) (w : World) (e : Ending) (w' : World) : Prop := ∃ u0 u1 u2 u3 u4, e = .returned (.tuple #[.agg #[u0, u1, u2, u3, u4], .bool bb]) ∧ ∃ B, VOwn w' (D + 1) (u0, u1, u2, u3, u4) a B ∧ (∀ b ∈ B, w.heap.size ≤ b ∧ b < w'.heap.size) ∧ Below w.heap.size w w'

/-- The value that holds nothing. -/
def vNil (d : Nat) : Vl (d + 1) := ((0 : Int), (0 : Int), ([] : List Int), ([] : List (List Int)), ([] : List (Vl d)))

theorem sz_vNil (d : Nat) : szV (d + 1) (vNil d) = 0 := rfl

theorem tOwn_nil (w : World) : TOwn w (.slice none 0 0) [] [] := ⟨⟨by simp, rfl, .inl ⟨rfl, rfl⟩⟩, .inl ⟨rfl, rfl⟩⟩

theorem own_vNil (d : Nat) (w : World) : VOwn w (d + 1) (.int .i64 0, .int .i64 0, .slice none 0 0, .slice none 0 0, .slice none 0 0) (vNil d) [] :=
  (VOwn_succ _ _ _ _ _).2 ⟨rfl, rfl, [], [], [], tOwn_nil w, .inl ⟨rfl, rfl, rfl⟩, .inl ⟨rfl, rfl, rfl⟩, rfl, by simp⟩
end Go.Proofs.Ytkklhdeecamifaa
