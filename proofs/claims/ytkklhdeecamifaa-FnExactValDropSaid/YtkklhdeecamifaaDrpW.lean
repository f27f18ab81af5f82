/-
  impl.ValDrop, whatever it is handed: the map without the key, the map itself where the key is not there, or nothing; no statement is proved here.
-/
import Derived.Test.YtkklhdeecamifaaDrpP
import Derived.Test.YtkklhdeecamifaaGetI
import Derived.Test.YtkklhdeecamifaaWOwn
namespace Go.Proofs.Ytkklhdeecamifaa
open Go.RowKit Go.Shelf
set_option linter.unusedVariables false
set_option linter.unusedSimpArgs false

/-- What ValDrop answers. -/
def dropA (d : Nat) (v : Vl (d + 1)) (key : List Int) : Vl (d + 1) := if okB (d + 1) v = true ∧ v.1 = 5 then (if 0 ≤ findK v.2.2.2.1 key then dropV d v (findK v.2.2.2.1 key).toNat else v) else vNil d
def dropF (d : Nat) (v : Vl (d + 1)) (key : List Int) : Bool := decide (okB (d + 1) v = true ∧ v.1 = 5 ∧ 0 ≤ findK v.2.2.2.1 key)

theorem dropA_yes {d k : Nat} {v : Vl (d + 1)} {key : List Int} (hok : okB (d + 1) v = true) (h5 : v.1 = 5) (hf : findK v.2.2.2.1 key = k) : dropA d v key = dropV d v k ∧ dropF d v key = true := by
  have h0 : 0 ≤ findK v.2.2.2.1 key := by rw [hf]; omega
  refine ⟨(if_pos ⟨hok, h5⟩).trans ((if_pos h0).trans (by rw [hf]; rfl)), decide_eq_true ⟨hok, h5, h0⟩⟩
theorem dropA_none {d : Nat} {v : Vl (d + 1)} {key : List Int} (hok : okB (d + 1) v = true) (h5 : v.1 = 5) (hf : findK v.2.2.2.1 key = -1) : dropA d v key = v ∧ dropF d v key = false := by
  have h0 : ¬ 0 ≤ findK v.2.2.2.1 key := by rw [hf]; omega
  exact ⟨(if_pos ⟨hok, h5⟩).trans (if_neg h0), decide_eq_false fun h => h0 h.2.2⟩
theorem dropA_no {d : Nat} {v : Vl (d + 1)} {key : List Int} (h : ¬ (okB (d + 1) v = true ∧ v.1 = 5)) : dropA d v key = vNil d ∧ dropF d v key = false :=
  ⟨if_neg h, decide_eq_false fun h' => h ⟨h'.1, h'.2.1⟩⟩

theorem turned_cell {w1 w2 : World} {b : Nat} {T : TypeId} {c : Value} (h : (w1.alloc (.cells #[c] T)).mapTurned w2 b) (hb : b < w1.heap.size) : w2.cell? ⟨w1.heap.size, 0, none⟩ = some c := by
  refine h.grown.cell (a := ⟨w1.heap.size, 0, none⟩) ?_ (by simp; omega)
  have := (MapKept.heap_alloc w1 (.cells #[c] T)).1
  simp only [World.cell?, this]
  rfl

theorem avoid_all {R : Nat → Prop} {w w2 : World} {d b deep : Nat} {vn : Int} {vs : List Int} {vK : List (List Int)} {vL : List (Vl d)} (hp : PSeg R w (d + 1) (.iface 53 (.agg #[.map (some b)])) (5, vn, vs, vK, vL)) (hg : goodB (d + 1) (5, vn, vs, vK, vL) deep = true) (ht : w.mapTurned w2 b) (hR : ∀ c, R c → c < w.heap.size) :
    ∃ ps, R b ∧ w.ownsMap Try.prog 9 tokR b 64 (.map (entF vK ps vL.length)) ∧ ∀ i (h : i < vL.length), PSeg R w2 d (ps.getD i .nilIface) (vL[i]) := by
  rcases hp.kinds hg with ⟨_, _, n2⟩ | ⟨a, cap, e, _⟩ | ⟨b', ps, e, hRb, hm, hc⟩
  · exact absurd rfl (n2 _)
  · simp at e
  · simp at e
    subst e
    refine ⟨ps, hRb, hm, fun i hi => ?_⟩
    have h1 := PSeg.avoid hp hg d _ _ (deep + 1) (hc i hi) (((good_succ _ _ _ _ _ _ _).1 hg).2.2 i hi) (kid_lt (5, vn, vs, vK, vL) i hi)
    exact PSeg.carry (fun c h => h.1) (fun c h => ht.grown.block c (hR c h.1) (by simpa using h.2)) d h1

theorem drop_pseg {R : Nat → Prop} {w w2 : World} {d b deep k : Nat} {key : List Int} {vn : Int} {vs : List Int} {vK : List (List Int)} {vL : List (Vl d)} {D0 : DataW Value} (hp : PSeg R w (d + 1) (.iface 53 (.agg #[.map (some b)])) (5, vn, vs, vK, vL)) (hg : goodB (d + 1) (5, vn, vs, vK, vL) deep = true) (ht : w.mapTurned w2 b) (hR : ∀ c, R c → c < w.heap.size)
    (hm0 : w.ownsMap Try.prog 9 tokR b 64 D0) (hm2 : w2.ownsMap Try.prog 9 tokR b 64 (D0.del (.string (u8s key)))) (hy : ∀ y ∈ key, Byt y) (hk : k < vL.length) (he : vK.getD k [] = key) :
    PSeg R w2 (d + 1) (.iface 53 (.agg #[.map (some b)])) (dropV d (5, vn, vs, vK, vL) k) := by
  obtain ⟨ps, hRb, hm, hc⟩ := avoid_all hp hg ht hR
  obtain ⟨_, hs, _⟩ := (good_succ _ _ _ _ _ _ _).1 hg
  obtain ⟨hl, ha⟩ := shape_mapB hs
  have hst : ∀ i, i < vL.length → stepB vK i = true := fun i hi => ascB_at ha (by omega)
  rw [owns_same hm0 hm, del_ent hy (fun i hi => (step_name (hst i hi)).1) hk (fun i hi hne => by rw [← he]; exact asc_ne hst hi hk hne) he] at hm2
  have hl2 : (vL.eraseIdx k).length = vL.length - 1 := List.length_eraseIdx_of_lt hk
  refine .inr (.inr (.inr (.inr (.inr (.inr ⟨rfl, b, ps.eraseIdx k, rfl, hRb, ?_, fun i hi => ?_⟩)))))
  · show w2.ownsMap Try.prog 9 tokR b 64 (mapD (vK.eraseIdx k) (ps.eraseIdx k) (vL.eraseIdx k).length)
    rw [hl2, mapD_list _ _ _ (asc_erase hst hk)]
    exact hm2
  · have hi' : i < (vL.eraseIdx k).length := hi
    show PSeg R w2 d ((ps.eraseIdx k).getD i .nilIface) (vL.eraseIdx k)[i]
    rw [getD_erase, List.getElem_eraseIdx]
    by_cases h : i < k
    · rw [if_pos h, dif_pos h]; exact hc i _
    · rw [if_neg h, dif_neg h]; exact hc (i + 1) _

theorem keep_pseg {R : Nat → Prop} {w w2 : World} {d b deep : Nat} {key : List Int} {vn : Int} {vs : List Int} {vK : List (List Int)} {vL : List (Vl d)} {D0 : DataW Value} (hp : PSeg R w (d + 1) (.iface 53 (.agg #[.map (some b)])) (5, vn, vs, vK, vL)) (hg : goodB (d + 1) (5, vn, vs, vK, vL) deep = true) (ht : w.mapTurned w2 b) (hR : ∀ c, R c → c < w.heap.size)
    (hm0 : w.ownsMap Try.prog 9 tokR b 64 D0) (hm2 : w2.ownsMap Try.prog 9 tokR b 64 (D0.del (.string (u8s key)))) (hy : ∀ y ∈ key, Byt y) (hu : ∀ i, i < vL.length → vK.getD i [] ≠ key) :
    PSeg R w2 (d + 1) (.iface 53 (.agg #[.map (some b)])) (5, vn, vs, vK, vL) := by
  obtain ⟨ps, hRb, hm, hc⟩ := avoid_all hp hg ht hR
  obtain ⟨_, hs, _⟩ := (good_succ _ _ _ _ _ _ _).1 hg
  obtain ⟨hl, ha⟩ := shape_mapB hs
  have hst : ∀ i, i < vL.length → stepB vK i = true := fun i hi => ascB_at ha (by omega)
  rw [owns_same hm0 hm, del_none hy (fun i hi => (step_name (hst i hi)).1) hu] at hm2
  refine .inr (.inr (.inr (.inr (.inr (.inr ⟨rfl, b, ps, rfl, hRb, ?_, hc⟩)))))
  show w2.ownsMap Try.prog 9 tokR b 64 (mapD vK ps vL.length)
  rw [mapD_list _ _ _ hst]
  exact hm2
end Go.Proofs.Ytkklhdeecamifaa
