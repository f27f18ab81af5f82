/-
  Texts that a law leans on, one behind the other; no statement is proved here.
-/
import Derived.Test.YtgdjdgaoflekgaaDoorPk10
import Derived.Test.YtgdjdgaoflekgaaDoorPk3
import Derived.Test.YtgdjdgaoflekgaaDoorPk9
import Derived.Deep.RegionHeld3
import Derived.Test.YtgdjdgaoflekgaaDoorRows
import Derived.Test.YtgdjdgaoflekgaaDoorPk7
import Derived.Lib.LaidTab
import Derived.MakeChecks
import Derived.Test.YtgdjdgaoflekgaaDoorPk0
import Derived.WalkKit
import Derived.ProofKit
import Derived.ChangeSlices
import Derived.ChangeArms
/-
  markValue of the laws over a value of the call's own; heldValueS and heldValue find the running numbers there.
-/
namespace Go.Proofs.YtgdjdgaoflekgaaDoor
open Go.RowKit
set_option linter.unusedVariables false
set_option linter.unusedSimpArgs false

set_option maxHeartbeats 3200000 in
theorem markValue_any (d : Nat) (c0 c1 c2 c3 c4 : Value) (v : Vl (d + 1)) (B : List Nat) (m : Nat) (w : World) (h : VOwn w (d + 1) (c0, c1, c2, c3, c4) v B) (hs : szV (d + 1) v ≤ 1048576) (hm : m + cV d v ≤ 16777216) :
    Calls Tryd.prog 17 #[.agg #[c0, c1, c2, c3, c4], .int .i64 m] w fun e w' => e = .returned (.int .i64 ((m + cV d v : Nat) : Int)) ∧ VOwn w' (d + 1) (c0, c1, c2, c3, c4) (mkV d v m) B ∧ Turned B w w' := by
  obtain ⟨vk, vn, vS, vK, vL⟩ := v
  obtain ⟨e0, e1, Bs, Bk, Bl, ht, hkk, hll, hB, hnd0⟩ := (VOwn_succ _ _ _ _ _).1 h
  simp only at e0 e1 ht hkk hll
  subst hB
  have hz' : szV (d + 1) (vk, vn, vS, vK, vL) = vS.length + szK vK + szL d vL := rfl
  have hc' : cV d (vk, vn, vS, vK, vL) = vS.length + (vK.map List.length).sum + (vL.map (cE d)).sum := rfl
  have hkz : szK vK = vK.length + (vK.map List.length).sum := rfl
  have hlt : ∀ b ∈ Bs ++ (Bk ++ Bl), b < w.heap.size := VOwn.lt (d + 1) h
  have hnd : (w.heap.size :: (Bs ++ (Bk ++ Bl))).Nodup := by
    rw [List.nodup_cons]
    exact ⟨fun hm => by have := hlt _ hm; omega, hnd0⟩
  have hal : Below w.heap.size w (w.alloc (.cells #[c0, c1, c2, c3, c4] 31)) := (Below.refl _ _).alloc (Nat.le_refl _) _
  have hst : MkSt (w.alloc (.cells #[c0, c1, c2, c3, c4] 31)) w.heap.size #[c0, c1, c2, c3, c4] d c2 c3 c4 vS vK vL Bs Bk Bl (w.alloc (.cells #[c0, c1, c2, c3, c4] 31)) :=
    ⟨ht.agree fun b hb => hal.block b (ht.lt b hb), hkk.agree fun b hb => hal.block b (hkk.lt b hb), LOwn.agree hll fun b hb => hal.block b (hll.lt b hb), (MapKept.heap_alloc w _).1, Turned.refl _ _⟩
  obtain ⟨sa, sc, rfl, _⟩ := ht.1.shape
  have hkf : ∃ ka kc, c3 = .slice ka vK.length kc := by
    rcases hkk with ⟨e, e', _⟩ | ⟨_, _, _, _, e, _⟩
    · exact ⟨none, 0, by rw [e, e']; rfl⟩
    · exact ⟨_, _, e⟩
  obtain ⟨ka, kc, rfl⟩ := hkf
  have hlf : ∃ la lc, c4 = .slice la vL.length lc := by
    rcases hll with ⟨e, e', _⟩ | ⟨_, _, _, _, e, _⟩
    · exact ⟨none, 0, by rw [e, e']; rfl⟩
    · exact ⟨_, _, e⟩
  obtain ⟨la, lc, rfl⟩ := hlf
  have HM1 : Hid (Calls Tryd.prog 18 #[.slice sa vS.length sc, .int .i64 m] (w.alloc (.cells #[c0, c1, .slice sa vS.length sc, .slice ka vK.length kc, .slice la vL.length lc] 31)) fun e w' => e = .returned (.int .i64 ((m : Int) + vS.length)) ∧ w'.cell? ⟨w.heap.size, 3, none⟩ = some (.slice ka vK.length kc) ∧ Hid (MkSt (w.alloc (.cells #[c0, c1, .slice sa vS.length sc, .slice ka vK.length kc, .slice la vL.length lc] 31)) w.heap.size #[c0, c1, .slice sa vS.length sc, .slice ka vK.length kc, .slice la vL.length lc] d (.slice sa vS.length sc) (.slice ka vK.length kc) (.slice la vL.length lc) (marks m vS.length) vK vL Bs Bk Bl w')) := by
    refine (markByteS_F sa sc vS m _ hst.1.1 (by omega) (by omega)).mono ?_
    rintro e w' ⟨rfl, hb, hg⟩
    have h' := hst.text hnd (hst.1.marked hb) (hst.1.turned hg)
    exact ⟨ret_i64 (by push_cast; rfl), by rw [cell_of_row w' _ _ _ _ (0, 0) h'.2.2.2.1]; rfl, h'⟩
  have HM2 : Hid (∀ w1, Hid (MkSt (w.alloc (.cells #[c0, c1, .slice sa vS.length sc, .slice ka vK.length kc, .slice la vL.length lc] 31)) w.heap.size #[c0, c1, .slice sa vS.length sc, .slice ka vK.length kc, .slice la vL.length lc] d (.slice sa vS.length sc) (.slice ka vK.length kc) (.slice la vL.length lc) (marks m vS.length) vK vL Bs Bk Bl w1) → Calls Tryd.prog 31 #[.slice ka vK.length kc, .int .i64 ((m : Int) + vS.length)] w1 fun e w' => e = .returned (.int .i64 ((m : Int) + vS.length + ((vK.map List.length).sum : Nat))) ∧ w'.cell? ⟨w.heap.size, 4, none⟩ = some (.slice la vL.length lc) ∧ Hid (MkSt (w.alloc (.cells #[c0, c1, .slice sa vS.length sc, .slice ka vK.length kc, .slice la vL.length lc] 31)) w.heap.size #[c0, c1, .slice sa vS.length sc, .slice ka vK.length kc, .slice la vL.length lc] d (.slice sa vS.length sc) (.slice ka vK.length kc) (.slice la vL.length lc) (marks m vS.length) (mkKs vK (m + vS.length)) vL Bs Bk Bl w')) := by
    intro w1 h1
    refine arg_eq (x := ((m + vS.length : Nat) : Int)) (by push_cast; rfl) ((markByteSS_any _ vK Bk (m + vS.length) w1 h1.out.2.1 (by omega) (by omega)).mono ?_)
    rintro e w' ⟨rfl, hb, hg⟩
    have h' := h1.out.keys hnd hb hg
    exact ⟨ret_i64 (by push_cast; rfl), by rw [cell_of_row w' _ _ _ _ (0, 0) h'.2.2.2.1]; rfl, h'⟩
  have HM3 : Hid (∀ w1, Hid (MkSt (w.alloc (.cells #[c0, c1, .slice sa vS.length sc, .slice ka vK.length kc, .slice la vL.length lc] 31)) w.heap.size #[c0, c1, .slice sa vS.length sc, .slice ka vK.length kc, .slice la vL.length lc] d (.slice sa vS.length sc) (.slice ka vK.length kc) (.slice la vL.length lc) (marks m vS.length) (mkKs vK (m + vS.length)) vL Bs Bk Bl w1) → Calls Tryd.prog 46 #[.slice la vL.length lc, .int .i64 ((m : Int) + vS.length + ((vK.map List.length).sum : Nat))] w1 fun e w' => e = .returned (.int .i64 ((m : Int) + vS.length + ((vK.map List.length).sum : Nat) + ((vL.map (cE d)).sum : Nat))) ∧ Hid (VOwn w' (d + 1) (c0, c1, .slice sa vS.length sc, .slice ka vK.length kc, .slice la vL.length lc) (mkV d (vk, vn, vS, vK, vL) m) (Bs ++ (Bk ++ Bl))) ∧ Hid (Turned (Bs ++ (Bk ++ Bl)) w w')) := by
    intro w1 h1
    refine arg_eq (x := ((m + vS.length + (vK.map List.length).sum : Nat) : Int)) (by push_cast; rfl) ((markValueS_any d _ vL Bl (m + vS.length + (vK.map List.length).sum) w1 h1.out.2.2.1 (by omega) (by omega)).mono ?_)
    rintro e w' ⟨rfl, hb, hg⟩
    obtain ⟨g1, g2, g3, g4, g5⟩ := h1.out.list hnd hb hg
    refine ⟨ret_i64 (by push_cast; rfl), ?_, ?_⟩
    · exact (VOwn_succ _ _ _ _ _).2 ⟨e0, e1, Bs, Bk, Bl, g1, g2, g3, rfl, hnd0⟩
    · refine ⟨g5.os.trans hal.os, g5.tape.trans hal.tape, g5.output.trans hal.output, Nat.le_trans hal.size g5.size, fun b hb hn => ?_⟩
      refine (g5.block b (Nat.lt_of_lt_of_le hb hal.size) fun hm => ?_).trans (hal.block b hb)
      rcases List.mem_cons.1 hm with rfl | hm
      · omega
      · exact hn hm
  have HO : Hid (m + cV d (vk, vn, vS, vK, vL) = m + vS.length + (vK.map List.length).sum + (vL.map (cE d)).sum) := by show m + cV d (vk, vn, vS, vK, vL) = _; omega
  generalize cV d (vk, vn, vS, vK, vL) = tot at *
  clear hst ht hkk hll h hnd hnd0 hal hlt hz' hc' hkz hs e0 e1
  generalize (vK.map List.length).sum = nK at *
  generalize (vL.map (cE d)).sum = nL at *
  generalize vS.length = nS at *
  generalize vK.length = kK at *
  generalize vL.length = kL at *
  have hbig : m + nS + nK + nL ≤ 16777216 := by have := HO.out; omega
  go_enter Tryd.func17, Tryd.ntmps17
  go_wp2_with fail
  refine HM1.out.mono ?_
  rintro e w1 ⟨rfl, z3, hS1⟩
  have HM2' := hide' (HM2.out w1 hS1)
  clear HM1 HM2
  go_wp2_with fail
  refine HM2'.out.mono ?_
  rintro e w2 ⟨rfl, z4, hS2⟩
  have HM3' := hide' (HM3.out w2 hS2)
  clear z3 hS1 HM2' HM3
  go_wp2_with fail
  refine HM3'.out.mono ?_
  rintro e w3 ⟨rfl, hK', hT'⟩
  clear z4 hS2 HM3'
  go_wp2
  go_ret
  exact ⟨ret_i64 (by rw [HO.out]; push_cast; rfl), hK'.out, hT'.out⟩
end Go.Proofs.YtgdjdgaoflekgaaDoor
/-
  What a call has made for itself can be read by whoever comes behind it.
-/
namespace Go.Proofs.YtgdjdgaoflekgaaDoor
open Go.RowKit
set_option linter.unusedVariables false

/-- What a call has made for itself can be read by whoever comes behind it. -/
theorem VOwn.below {w w' : World} {d : Nat} {c : Value × Value × Value × Value × Value} {v : Vl d} {B : List Nat} (h : VOwn w d c v B) (hb : Below w.heap.size w w') : VSeg (fun b => b < w.heap.size) w' d c v :=
  VSeg.agree (agree_below hb) d (VSeg.mono (fun b hb => VOwn.lt d h b hb) d (VOwn.seg d h))
end Go.Proofs.YtgdjdgaoflekgaaDoor
/-
  What is owned, behind later calls; how many marks a value takes.
-/
namespace Go.Proofs.YtgdjdgaoflekgaaDoor
open Go.RowKit
set_option linter.unusedVariables false
set_option linter.unusedSimpArgs false

theorem KOwn.on {w w' : World} {v : Value} {ks : List (List Int)} {B : List Nat} (h : KOwn w v ks B) (hb : Below w.heap.size w w') : KOwn w' v ks B := h.agree fun b hb' => hb.block b (h.lt b hb')
theorem VOwn.on {w w' : World} {d : Nat} {c : Value × Value × Value × Value × Value} {v : Vl d} {B : List Nat} (h : VOwn w d c v B) (hb : Below w.heap.size w w') : VOwn w' d c v B := VOwn.agree d h fun b hb' => hb.block b (VOwn.lt d h b hb')
theorem KOwn.far {w w' : World} {v : Value} {ks : List (List Int)} {B B' : List Nat} (h : KOwn w v ks B) (hT : Turned B' w w') (hd : ∀ b ∈ B, b ∉ B') : KOwn w' v ks B := h.agree fun b hb' => hT.block b (h.lt b hb') (hd b hb')
theorem KOwn.read {w : World} {v : Value} {ks : List (List Int)} {B : List Nat} (h : KOwn w v ks B) : KSeg (fun b => b < w.heap.size) w v ks := h.seg.mono fun b hb => h.lt b hb

theorem sum_cE {d : Nat} (h : ∀ v : Vl d, cE d v ≤ 2 + 2 * szV d v) : ∀ l : List (Vl d), (l.map (cE d)).sum ≤ 2 * l.length + 2 * (l.map (szV d)).sum
  | [] => by simp
  | x :: r => by
    have h1 := h x
    have h2 := sum_cE h r
    simp only [List.map_cons, List.sum_cons, List.length_cons]
    omega

theorem cE_sz : ∀ (d : Nat) (v : Vl d), cE d v ≤ 2 + 2 * szV d v
  | 0, _ => by simp [cE]
  | d + 1, (vk, vn, vs, vK, vL) => by
    have h2 := sum_cE (cE_sz d) vL
    have h3 : szV (d + 1) (vk, vn, vs, vK, vL) = szT vs + szK vK + (vL.length + (vL.map (szV d)).sum) := rfl
    have h4 : cE (d + 1) (vk, vn, vs, vK, vL) = 2 + (vs.length + ((vK.map List.length).sum + (vL.map (cE d)).sum)) := rfl
    have h5 : szK vK = vK.length + (vK.map List.length).sum := rfl
    have h6 : vs.length ≤ szT vs := by unfold szT; omega
    omega

theorem cV_le (d : Nat) (v : Vl (d + 1)) : cV d v ≤ 2 * szV (d + 1) v := by
  obtain ⟨vk, vn, vs, vK, vL⟩ := v
  have h2 := sum_cE (cE_sz d) vL
  have h3 : szV (d + 1) (vk, vn, vs, vK, vL) = szT vs + szK vK + (vL.length + (vL.map (szV d)).sum) := rfl
  have h4 : cV d (vk, vn, vs, vK, vL) = vs.length + (vK.map List.length).sum + (vL.map (cE d)).sum := rfl
  have h5 : szK vK = vK.length + (vK.map List.length).sum := rfl
  have h6 : vs.length ≤ szT vs := by unfold szT; omega
  omega

theorem VOwn.far {w w' : World} {d : Nat} {c : Value × Value × Value × Value × Value} {v : Vl d} {B B' : List Nat} (h : VOwn w d c v B) (hT : Turned B' w w') (hd : ∀ b ∈ B, b ∉ B') : VOwn w' d c v B := VOwn.agree d h fun b hb' => hT.block b (VOwn.lt d h b hb') (hd b hb')
theorem VOwn.read {w : World} {d : Nat} {c : Value × Value × Value × Value × Value} {v : Vl d} {B : List Nat} (h : VOwn w d c v B) : VSeg (fun b => b < w.heap.size) w d c v := h.below (Below.refl _ _)
theorem row_on {w w' : World} {b : Nat} {o : Obj} (h : w.heap[b]? = some o) (hb : Below w.heap.size w w') : w'.heap[b]? = some o := (hb.block b (Array.getElem?_eq_some_iff.1 h).1).trans h
theorem row_far {w w' : World} {b : Nat} {o : Obj} {B : List Nat} (h : w.heap[b]? = some o) (hT : Turned B w w') (hn : b ∉ B) : w'.heap[b]? = some o := (hT.block b (Array.getElem?_eq_some_iff.1 h).1 hn).trans h
theorem row_mark {w w' : World} {b : Nat} {o : Obj} {r : Option Nat} (h : w.heap[b]? = some o) (hg : w.grownBy w' r) (hn : some b ≠ r) : w'.heap[b]? = some o := (hg.block b (Array.getElem?_eq_some_iff.1 h).1 hn).trans h
theorem VOwn.mark {w w' : World} {d : Nat} {c : Value × Value × Value × Value × Value} {v : Vl d} {B : List Nat} {r : Option Nat} (h : VOwn w d c v B) (hg : w.grownBy w' r) (hn : ∀ b ∈ B, some b ≠ r) : VOwn w' d c v B := VOwn.agree d h fun b hb => hg.block b (VOwn.lt d h b hb) (hn b hb)

theorem Bts.far {w w' : World} {base : Nat} {v : Value} {xs : List Int} {B : List Nat} (h : Bts w base v xs) (hT : Turned B w w') (hv : ∀ k, v.ownBlock = some k → k ∉ B) : Bts w' base v xs := by
  have hl := h.2.lt
  refine ⟨h.1, h.2.1, ?_⟩
  rcases h.2.2 with h0 | ⟨g, cap, cur, rfl, hg, hh, r⟩
  · exact .inl h0
  · exact .inr ⟨g, cap, cur, rfl, hg, (hT.block g (hl g rfl).2 (hv g rfl)).trans hh, r⟩

/-- What a call that hands out a value and a word leaves: a value of the call's own, and the word. -/
def Ans (D : Nat) (a : Vl (D + 1)) (bb : Bool) (w : World) (e : Ending) (w' : World) : Prop := ∃ u0 u1 u2 u3 u4, e = .returned (.tuple #[.agg #[u0, u1, u2, u3, u4], .bool bb]) ∧ ∃ B, VOwn w' (D + 1) (u0, u1, u2, u3, u4) a B ∧ (∀ b ∈ B, w.heap.size ≤ b ∧ b < w'.heap.size) ∧ Below w.heap.size w w'

/-- The value that holds nothing. -/
def vNil (d : Nat) : Vl (d + 1) := ((0 : Int), (0 : Int), ([] : List Int), ([] : List (List Int)), ([] : List (Vl d)))

theorem sz_vNil (d : Nat) : szV (d + 1) (vNil d) = 0 := rfl

theorem tOwn_nil (w : World) : TOwn w (.slice none 0 0) [] [] := ⟨⟨by simp, rfl, .inl ⟨rfl, rfl⟩⟩, .inl ⟨rfl, rfl⟩⟩

theorem own_vNil (d : Nat) (w : World) : VOwn w (d + 1) (.int .i64 0, .int .i64 0, .slice none 0 0, .slice none 0 0, .slice none 0 0) (vNil d) [] :=
  (VOwn_succ _ _ _ _ _).2 ⟨rfl, rfl, [], [], [], tOwn_nil w, .inl ⟨rfl, rfl, rfl⟩, .inl ⟨rfl, rfl, rfl⟩, rfl, by simp⟩
end Go.Proofs.YtgdjdgaoflekgaaDoor
/-
  How much the names of an expression weigh at most.
-/
namespace Go.Proofs.YtgdjdgaoflekgaaDoor
open Go.RowKit
set_option linter.unusedVariables false

theorem sum_le_of {l : List Nat} {m : Nat} (h : ∀ x ∈ l, x ≤ m) : l.sum ≤ l.length * m := by
  induction l with
  | nil => simp
  | cons x r ih =>
    have h1 := h x (by simp)
    have h2 := ih fun y hy => h y (by simp [hy])
    simp only [List.sum_cons, List.length_cons, Nat.add_mul, Nat.one_mul]
    omega

theorem names_small (k : Int) (hk : k = 6 ∨ k = 7) (d : Nat) (v : Vl d) : szK (namesE k d v) ≤ 1350 := by
  unfold namesE
  split
  · next h =>
    obtain ⟨n1, n2⟩ := names_len (k := k) hk h
    generalize (rawN k d v).foldl insN [] = names at *
    have h3 : (names.map List.length).sum ≤ (names.map List.length).length * 8 := sum_le_of fun x hx => by
      obtain ⟨y, hy, rfl⟩ := List.mem_map.1 hx
      obtain ⟨i, hi, rfl⟩ := List.getElem_of_mem hy
      have := n2 i hi
      simpa [List.getD_eq_getElem?_getD, hi] using this
    rw [List.length_map] at h3
    unfold szK
    omega
  · simp [szK]
end Go.Proofs.YtgdjdgaoflekgaaDoor
/-
  FnExactUses answers true, whatever expression it is handed; it makes new memory and turns nothing old.
-/
namespace Go.Proofs.YtgdjdgaoflekgaaDoor
open Go.RowKit
set_option linter.unusedVariables false
set_option linter.unusedSimpArgs false

set_option maxHeartbeats 6400000 in
set_option maxRecDepth 100000 in
theorem walk_FnExactUses_succ (d : Nat) (c0 c1 c2 c3 c4 : Value) (v : Vl (d + 1)) (w : World) (hT : ShpT w) (hv : VSeg (fun b => b < w.heap.size) w (d + 1) (c0, c1, c2, c3, c4) v) :
    Calls Tryd.prog 7 #[.agg #[c0, c1, c2, c3, c4]] w fun e w' => e = .returned (.bool true) ∧ Below w.heap.size w w' := by
  have HTb := hide' hT
  have b0 : ∀ o : Obj, Below w.heap.size w (w.alloc o) := fun o => (Below.refl _ _).alloc (Nat.le_refl _) o
  have HV : Hid (∀ wx, Below w.heap.size w wx → VSeg (fun b => b < w.heap.size) wx (d + 1) (c0, c1, c2, c3, c4) v) := fun wx hb => VSeg.agree (agree_below hb) (d + 1) hv
  have HS : Hid (∀ wx, Below w.heap.size w wx → Calls Tryd.prog 9 #[.agg #[c0, c1, c2, c3, c4], .int .i64 1048576] wx fun e w' => e = .returned (.int .i64 (less 1048576 (szV (d + 1) v))) ∧ Below wx.heap.size wx w') := fun wx hb =>
    szValue_any (d + 1) w.heap.size (c0, c1, c2, c3, c4) v 1048576 wx (HV.out wx hb) hb.size (by omega) (by omega)
  have hbox : ∀ o wx, Below (w.alloc o).heap.size (w.alloc o) wx → wx.heap[w.heap.size]? = some o := fun o wx h => box_row h
  have Hbox := hide' hbox
  have Hb := hide' b0
  have hks := names_small 7 (by omega) (d + 1) v
  have hcv := cV_le d v
  obtain ⟨ck, cn, a2, l2, p2, a3, l3, p3, a4, l4, p4, rfl, rfl, rfl, rfl, rfl⟩ := VSeg.form (d + 1) hv
  clear b0 hbox hv hT
  by_cases hz : (1048576 : Int) < szV (d + 1) v
  · have hl : less 1048576 (szV (d + 1) v) = -1 := less_no _ _ hz
    rw [hl] at HS
    clear hl
    go_enter Tryd.func7, Tryd.ntmps7
    go_wp2_with fail
    refine (HS.out _ (Hb.out _)).mono ?_
    rintro e w1 ⟨rfl, b1⟩
    have B1 := Below.on (Hb.out _) b1
    clear b1
    go_wp2
    go_ret
    exact ⟨rfl, B1⟩
  · have hl : less 1048576 (szV (d + 1) v) = 1048576 - szV (d + 1) v := less_yes _ _ hz
    rw [hl] at HS
    have hz0 : 0 ≤ (1048576 : Int) - szV (d + 1) v := by omega
    have hz1 : (1048576 : Int) - szV (d + 1) v ≤ 1048576 := by omega
    have HZ : Hid (szV (d + 1) v ≤ 1048576) := by show szV (d + 1) v ≤ 1048576; omega
    have HT : Hid (∀ wx, Below w.heap.size w wx → Calls Tryd.prog 11 #[.agg #[.int .i64 ck, .int .i64 cn, .slice a2 l2 p2, .slice a3 l3 p3, .slice a4 l4 p4]] wx fun e w' => ∃ c0 c1 c2 c3 c4, e = .returned (.agg #[c0, c1, c2, c3, c4]) ∧ ∃ B, VOwn w' (d + 1) (c0, c1, c2, c3, c4) v B ∧ (∀ b ∈ B, wx.heap.size ≤ b ∧ b < w'.heap.size) ∧ Below wx.heap.size wx w') := fun wx hb =>
      toValue_any (d + 1) w.heap.size (.int .i64 ck, .int .i64 cn, .slice a2 l2 p2, .slice a3 l3 p3, .slice a4 l4 p4) v wx (HV.out wx hb) hb.size HZ.out
    have HEq : Hid (∀ (N : Nat) (c c' : Value × Value × Value × Value × Value) (wx : World), VSeg (fun b => b < N) wx (d + 1) c v → VSeg (fun b => b < N) wx (d + 1) c' v → N ≤ wx.heap.size → Calls Tryd.prog 13 #[.agg #[c.1, c.2.1, c.2.2.1, c.2.2.2.1, c.2.2.2.2], .agg #[c'.1, c'.2.1, c'.2.2.1, c'.2.2.2.1, c'.2.2.2.2]] wx fun e w' => e = .returned (.bool true) ∧ Below wx.heap.size wx w') := fun N c c' wx h h' hN => eqValue_any (d + 1) N c c' v wx h h' hN HZ.out
    have hkz : szK (namesE 7 (d + 1) v) ≤ 1048576 := by have := HZ.out; omega
    have hcm : cV d v ≤ 2097152 := by have := HZ.out; omega
    have hsum : ((namesE 7 (d + 1) v).map List.length).sum ≤ 1048576 := by have h5 : szK (namesE 7 (d + 1) v) = (namesE 7 (d + 1) v).length + ((namesE 7 (d + 1) v).map List.length).sum := rfl; omega
    have HM : Hid (∀ x0 x1 x2 x3 x4 B wx, VOwn wx (d + 1) (x0, x1, x2, x3, x4) v B → Calls Tryd.prog 17 #[.agg #[x0, x1, x2, x3, x4], .int .i64 1] wx fun e w' => e = .returned (.int .i64 ((1 + cV d v : Nat) : Int)) ∧ Turned B wx w') := fun x0 x1 x2 x3 x4 B wx h => (markValue_any d x0 x1 x2 x3 x4 v B 1 wx h HZ.out (by omega)).mono fun e w' h => ⟨h.1, h.2.2⟩
    have HSp : Hid (∀ u0 u1 u2 u3 u4 B wx, VOwn wx (d + 1) (u0, u1, u2, u3, u4) v B → Calls Tryd.prog 28 #[.agg #[u0, u1, u2, u3, u4]] wx (UEnd 7 (d + 1) v wx)) := fun u0 u1 u2 u3 u4 B wx h => spec_Uses_any (d + 1) wx.heap.size u0 u1 u2 u3 u4 v wx (h.below (Below.refl _ _)) (Nat.le_refl _)
    have HIm : Hid (∀ u0 u1 u2 u3 u4 B wx wy, VOwn wx (d + 1) (u0, u1, u2, u3, u4) v B → Below w.heap.size w wx → Below wx.heap.size wx wy → Calls Tryd.prog 29 #[.agg #[u0, u1, u2, u3, u4]] wy (UEnd 7 (d + 1) v wy)) := fun u0 u1 u2 u3 u4 B wx wy h hw hb => impl_Uses_any (d + 1) wx.heap.size u0 u1 u2 u3 u4 v wy (h.below hb) hb.size (HTb.out.below (Below.on hw hb)) (by have := HTb.out.lt; have := hw.size; omega)
    have HEK : Hid (∀ x y B B' wx, KOwn wx x (namesE 7 (d + 1) v) B → KOwn wx y (namesE 7 (d + 1) v) B' → Calls Tryd.prog 30 #[x, y] wx fun e w' => e = .returned (.bool true) ∧ Below wx.heap.size wx w') := fun x y B B' wx h h' => eqByteSS_same wx.heap.size x y _ wx h.read h'.read (Nat.le_refl _) hkz
    have HMK : Hid (∀ x B wx, KOwn wx x (namesE 7 (d + 1) v) B → Calls Tryd.prog 31 #[x, .int .i64 1] wx fun e w' => e = .returned (.int .i64 ((1 + ((namesE 7 (d + 1) v).map List.length).sum : Nat) : Int)) ∧ KOwn w' x (mkKs (namesE 7 (d + 1) v) 1) B ∧ Turned B wx w') := fun x B wx h => markByteSS_any x _ B 1 wx h (by omega) (by omega)
    have HHK : Hid (∀ x B wx, KOwn wx x (mkKs (namesE 7 (d + 1) v) 1) B → Calls Tryd.prog 32 #[x, .int .i64 1] wx fun e w' => e = .returned (.int .i64 ((1 + ((namesE 7 (d + 1) v).map List.length).sum : Nat) : Int)) ∧ Below wx.heap.size wx w') := fun x B wx h => heldByteSS_any wx.heap.size x _ 1 wx h.read (Nat.le_refl _) (by omega) (by omega)
    generalize hsz' : szV (d + 1) v = sz at *
    generalize hcn : cV d v = cn1 at *
    generalize hsm : ((namesE 7 (d + 1) v).map List.length).sum = sm at *
    clear hl hz HV hks hcv hkz hsz' hcn hsm
    go_enter Tryd.func7, Tryd.ntmps7
    go_wp2_with fail
    refine (HS.out _ (Hb.out _)).mono ?_
    rintro e w1 ⟨rfl, b1⟩
    have B1 := Below.on (Hb.out _) b1
    obtain ⟨y0, y1, y2, y3, y4, _⟩ := row5 (Hbox.out _ _ b1)
    have HT1 := hide' (HT.out w1 B1)
    have Hb1 := hide' b1
    clear b1 B1 HS
    go_wp2_with fail
    refine HT1.out.mono ?_
    rintro e w2 ⟨u0, u1, u2, u3, u4, rfl, B, hO2, hB2, b2⟩
    have hS2 := hide' (HSp.out _ _ _ _ _ _ _ hO2)
    have b12 := hide' (Below.on Hb1.out b2)
    clear HT1 Hb1 hO2 hB2 b2 y0 y1 y2 y3 y4
    go_wp2_with fail
    refine hS2.out.mono ?_
    rintro e w3 ⟨W0, rfl, Bw, hW3, hBw, b3⟩
    have hWs : ∃ a n c, W0 = .slice a n c := by rcases hW3 with ⟨rfl, _⟩ | ⟨g, cap, cur, Bs, rfl, _⟩ <;> exact ⟨_, _, _, rfl⟩
    obtain ⟨Wa, Wn, Wc, rfl⟩ := hWs
    have b13 := Below.on b12.out b3
    obtain ⟨y0, y1, y2, y3, y4, _⟩ := row5 (Hbox.out _ _ b13)
    have HT3 := hide' (HT.out w3 (Below.on (Hb.out _) b13))
    have HZ3 : Hid ((w.alloc (.cells #[.int .i64 ck, .int .i64 cn, .slice a2 l2 p2, .slice a3 l3 p3, .slice a4 l4 p4] 26)).heap.size ≤ w3.heap.size) := b13.size
    have HW3 := hide' hW3
    have HBw := hide' hBw
    have Hb13 := hide' b13
    clear b12 b3 b13 hS2 hW3 hBw
    go_wp2_with fail
    refine HT3.out.mono ?_
    rintro e w4 ⟨x0, x1, x2, x3, x4, rfl, B4, hO4, hB4, b4⟩
    obtain ⟨xk, xn, s2, m2, q2, s3, m3, q3, s4, m4, q4, rfl, rfl, rfl, rfl, rfl⟩ := VOwn.form (d + 1) hO4
    have bal : Below w4.heap.size w4 (w4.alloc (.cells #[.int .i64 xk, .int .i64 xn, .slice s2 m2 q2, .slice s3 m3 q3, .slice s4 m4 q4] 31)) := (Below.refl _ _).alloc (Nat.le_refl _) _
    have hI4 := hide' (HIm.out _ _ _ _ _ _ _ _ hO4 (Below.on (Below.on (Hb.out _) Hb13.out) b4) bal)
    have HO4 := hide' (hO4.on bal)
    have HB4 := hide' hB4
    have Hb14 := hide' (Below.on (Below.on Hb13.out b4) bal)
    have HW4 := hide' ((HW3.out.on b4).on bal)
    have hz4 : w3.heap.size ≤ w4.heap.size := b4.size
    clear hO4 hB4 b4 bal HT3 Hb13 HW3 y0 y1 y2 y3 y4
    go_wp2_with fail
    refine hI4.out.mono ?_
    rintro e w5 ⟨G0, rfl, Bg, hG5, hBg, b5⟩
    have hGs : ∃ a n c, G0 = .slice a n c := by rcases hG5 with ⟨rfl, _⟩ | ⟨g, cap, cur, Bs, rfl, _⟩ <;> exact ⟨_, _, _, rfl⟩
    obtain ⟨Ga, Gn, Gc, rfl⟩ := hGs
    have hx5 : w5.heap[w4.heap.size]? = some (.cells #[.int .i64 xk, .int .i64 xn, .slice s2 m2 q2, .slice s3 m3 q3, .slice s4 m4 q4] 31) := box_row b5
    have hW5 := HW4.out.on b5
    have HO5 := hide' (HO4.out.on b5)
    have Hb15 := hide' (Below.on Hb14.out b5)
    have hEK := hide' (HEK.out _ _ _ _ _ hG5 hW5)
    have hG5' := hide' hG5
    have hW5' := hide' hW5
    have Hx5 := hide' hx5
    have HBg : Hid (∀ b ∈ Bg, w4.heap.size + 1 ≤ b ∧ b < w5.heap.size) := fun b hb => by have := hBg b hb; simp at this; exact this
    clear hG5 hW5 hx5 hBg b5 hI4 HO4 Hb14 HW4
    go_wp2_with fail
    refine hEK.out.mono ?_
    rintro e w6 ⟨rfl, b6⟩
    have B16 := Below.on Hb15.out b6
    have hx6 := (b6.block w4.heap.size ((Array.getElem?_eq_some_iff.1 Hx5.out).1)).trans Hx5.out
    have hz6 : w4.heap.size < w6.heap.size := (Array.getElem?_eq_some_iff.1 hx6).1
    obtain ⟨y0, y1, y2, y3, y4, _⟩ := row5 (Hbox.out _ _ B16)
    obtain ⟨v0, v1, v2, v3, v4, _⟩ := row5 hx6
    have hO6 := HO5.out.on b6
    have HCel : Hid (∀ wy, Below w6.heap.size w6 wy → (wy.cell? ⟨w.heap.size, 0, none⟩ = some (.int .i64 ck) ∧ wy.cell? ⟨w.heap.size, 1, none⟩ = some (.int .i64 cn) ∧ wy.cell? ⟨w.heap.size, 2, none⟩ = some (.slice a2 l2 p2) ∧ wy.cell? ⟨w.heap.size, 3, none⟩ = some (.slice a3 l3 p3) ∧ wy.cell? ⟨w.heap.size, 4, none⟩ = some (.slice a4 l4 p4) ∧ wy.cell? ⟨w4.heap.size, 0, none⟩ = some (.int .i64 xk) ∧ wy.cell? ⟨w4.heap.size, 1, none⟩ = some (.int .i64 xn) ∧ wy.cell? ⟨w4.heap.size, 2, none⟩ = some (.slice s2 m2 q2) ∧ wy.cell? ⟨w4.heap.size, 3, none⟩ = some (.slice s3 m3 q3) ∧ wy.cell? ⟨w4.heap.size, 4, none⟩ = some (.slice s4 m4 q4))) := by
      intro wy hy
      obtain ⟨f0, f1, f2, f3, f4, _⟩ := row5 (Hbox.out _ _ (Below.on B16 hy))
      obtain ⟨g0, g1, g2, g3, g4, _⟩ := row5 ((hy.block w4.heap.size hz6).trans hx6)
      exact ⟨f0, f1, f2, f3, f4, g0, g1, g2, g3, g4⟩
    have HTd : Hid (Calls Tryd.prog 11 #[.agg #[.int .i64 ck, .int .i64 cn, .slice a2 l2 p2, .slice a3 l3 p3, .slice a4 l4 p4]] w6.drew fun e w7 => ∃ z0 z1 z2 z3 z4, e = .returned (.agg #[z0, z1, z2, z3, z4]) ∧
        (w7.cell? ⟨w.heap.size, 0, none⟩ = some (.int .i64 ck) ∧ w7.cell? ⟨w.heap.size, 1, none⟩ = some (.int .i64 cn) ∧ w7.cell? ⟨w.heap.size, 2, none⟩ = some (.slice a2 l2 p2) ∧ w7.cell? ⟨w.heap.size, 3, none⟩ = some (.slice a3 l3 p3) ∧ w7.cell? ⟨w.heap.size, 4, none⟩ = some (.slice a4 l4 p4) ∧ w7.cell? ⟨w4.heap.size, 0, none⟩ = some (.int .i64 xk) ∧ w7.cell? ⟨w4.heap.size, 1, none⟩ = some (.int .i64 xn) ∧ w7.cell? ⟨w4.heap.size, 2, none⟩ = some (.slice s2 m2 q2) ∧ w7.cell? ⟨w4.heap.size, 3, none⟩ = some (.slice s3 m3 q3) ∧ w7.cell? ⟨w4.heap.size, 4, none⟩ = some (.slice s4 m4 q4)) ∧
        Hid (Calls Tryd.prog 13 #[.agg #[.int .i64 xk, .int .i64 xn, .slice s2 m2 q2, .slice s3 m3 q3, .slice s4 m4 q4], .agg #[z0, z1, z2, z3, z4]] w7 fun e w8 => e = .returned (.bool true) ∧ (w8.cell? ⟨w.heap.size, 0, none⟩ = some (.int .i64 ck) ∧ w8.cell? ⟨w.heap.size, 1, none⟩ = some (.int .i64 cn) ∧ w8.cell? ⟨w.heap.size, 2, none⟩ = some (.slice a2 l2 p2) ∧ w8.cell? ⟨w.heap.size, 3, none⟩ = some (.slice a3 l3 p3) ∧ w8.cell? ⟨w.heap.size, 4, none⟩ = some (.slice a4 l4 p4) ∧ w8.cell? ⟨w4.heap.size, 0, none⟩ = some (.int .i64 xk) ∧ w8.cell? ⟨w4.heap.size, 1, none⟩ = some (.int .i64 xn) ∧ w8.cell? ⟨w4.heap.size, 2, none⟩ = some (.slice s2 m2 q2) ∧ w8.cell? ⟨w4.heap.size, 3, none⟩ = some (.slice s3 m3 q3) ∧ w8.cell? ⟨w4.heap.size, 4, none⟩ = some (.slice s4 m4 q4)) ∧ Hid (Below w6.heap.size w6 w8))) := by
      refine (HT.out w6.drew (Below.on (Hb.out _) B16).drew).mono ?_
      rintro e w7 ⟨z0, z1, z2, z3, z4, rfl, B7, hO7, hB7, b7⟩
      have b67 : Below w6.heap.size w6 w7 := Below.on (Below.refl _ w6).drew b7
      refine ⟨z0, z1, z2, z3, z4, rfl, HCel.out _ b67, ?_⟩
      exact (HEq.out w7.heap.size (.int .i64 xk, .int .i64 xn, .slice s2 m2 q2, .slice s3 m3 q3, .slice s4 m4 q4) (z0, z1, z2, z3, z4) w7 (VSeg.mono (fun b hb => Nat.lt_of_lt_of_le hb b67.size) (d + 1) (hO6.below b67)) (hO7.below (Below.refl _ _)) (Nat.le_refl _)).mono fun e w8 h => ⟨h.1, HCel.out _ (Below.on b67 h.2), Below.on b67 h.2⟩
    have HB16 := hide' B16
    have HO6 := hide' hO6
    have HG6 := hide' (hG5'.out.on b6)
    have HW6 := hide' (hW5'.out.on b6)
    have hz56 : w5.heap.size ≤ w6.heap.size := b6.size
    clear hEK hx6 hO6 b6 B16 HO5 Hb15 hG5' hW5' Hx5
    go_wp2_with fail
    go_region_held3 (fun wx => wx.cell? ⟨w.heap.size, 0, none⟩ = some (.int .i64 ck) ∧ wx.cell? ⟨w.heap.size, 1, none⟩ = some (.int .i64 cn) ∧ wx.cell? ⟨w.heap.size, 2, none⟩ = some (.slice a2 l2 p2) ∧ wx.cell? ⟨w.heap.size, 3, none⟩ = some (.slice a3 l3 p3) ∧ wx.cell? ⟨w.heap.size, 4, none⟩ = some (.slice a4 l4 p4) ∧ wx.cell? ⟨w4.heap.size, 0, none⟩ = some (.int .i64 xk) ∧ wx.cell? ⟨w4.heap.size, 1, none⟩ = some (.int .i64 xn) ∧ wx.cell? ⟨w4.heap.size, 2, none⟩ = some (.slice s2 m2 q2) ∧ wx.cell? ⟨w4.heap.size, 3, none⟩ = some (.slice s3 m3 q3) ∧ wx.cell? ⟨w4.heap.size, 4, none⟩ = some (.slice s4 m4 q4)) (go_keep) (first
      | (go_at_call 11; refine HTd.out.mono ?_; rintro e w7 ⟨z0, z1, z2, z3, z4, rfl, ⟨i0, i1, i2, i3, i4, i5, i6, i7, i8, i9⟩, hE7⟩)
      | (go_at_call 13; refine hE7.out.mono ?_; rintro e w8 ⟨rfl, ⟨j0, j1, j2, j3, j4, j5, j6, j7, j8, j9⟩, hb8⟩))
    clear y0 y1 y2 y3 y4 v0 v1 v2 v3 v4 i0 i1 i2 i3 i4 i5 i6 i7 i8 i9 hE7 HTd HCel HEq
    have hM8 := hide' (HM.out _ _ _ _ _ _ _ (HO6.out.on hb8.out))
    have HG8 := hide' (HG6.out.on hb8.out)
    have HW8 := hide' (HW6.out.on hb8.out)
    have HB18 := hide' (Below.on HB16.out hb8.out)
    clear HO6 HG6 HW6 HB16
    go_wp2_with fail
    refine hM8.out.mono ?_
    rintro e w9 ⟨rfl, hT9⟩
    have hG9 := HG8.out.far hT9 (fun b hb hb' => by have h1 := HBg.out b hb; have h2 := HB4.out b hb'; omega)
    have hW9 := HW8.out.far hT9 (fun b hb hb' => by have h1 := HBw.out b hb; have h2 := HB4.out b hb'; omega)
    have HB19 := hide' (Turned.below HB18.out hT9 (Nat.le_refl _) (fun b hb => by have h2 := HB4.out b hb; have h3 := HZ3.out; omega))
    have hE9 := hide' (HEK.out _ _ _ _ _ hG9 hW9)
    have HG9 := hide' hG9
    have HW9 := hide' hW9
    clear hT9 hG9 hW9 HG8 HW8 HB18 hM8 j0 j1 j2 j3 j4 j5 j6 j7 j8 j9
    go_wp2_with fail
    refine hE9.out.mono ?_
    rintro e w10 ⟨rfl, b10⟩
    have hM10 := hide' (HMK.out _ _ _ (HG9.out.on b10))
    have HW10 := hide' (HW9.out.on b10)
    have HB110 := hide' (Below.on HB19.out b10)
    clear b10 hE9 HG9 HW9 HB19
    go_wp2_with fail
    refine hM10.out.mono ?_
    rintro e w11 ⟨rfl, hG11, hT11⟩
    have HW11 := hide' (HW10.out.far hT11 (fun b hb hb' => by have h1 := HBw.out b hb; have h2 := HBg.out b hb'; omega))
    have HB111 := hide' (Turned.below HB110.out hT11 (Nat.le_refl _) (fun b hb => by have h2 := HBg.out b hb; have h3 := HZ3.out; omega))
    have hH11 := hide' (HHK.out _ _ _ hG11)
    have HG11 := hide' hG11
    clear hG11 hT11 hM10 HW10 HB110
    go_wp2_with fail
    refine hH11.out.mono ?_
    rintro e w12 ⟨rfl, b12⟩
    have B112 := Below.on HB111.out b12
    obtain ⟨y0, y1, y2, y3, y4, _⟩ := row5 (Hbox.out _ _ B112)
    have HT12 := hide' (HT.out w12 (Below.on (Hb.out _) B112))
    have HG12 := hide' (HG11.out.on b12)
    have HW12 := hide' (HW11.out.on b12)
    have HB112 := hide' B112
    clear b12 B112 hH11 HG11 HW11 HB111
    go_wp2_with fail
    refine HT12.out.mono ?_
    rintro e w13 ⟨z0, z1, z2, z3, z4, rfl, B13, hO13, hB13, b13⟩
    have hI13 := hide' (HIm.out _ _ _ _ _ _ _ _ hO13 (Below.on (Below.on (Hb.out _) HB112.out) b13) (Below.refl _ _))
    have HG13 := hide' (HG12.out.on b13)
    have HW13 := hide' (HW12.out.on b13)
    have HB113 := hide' (Below.on HB112.out b13)
    clear hO13 hB13 b13 HT12 HG12 HW12 HB112 y0 y1 y2 y3 y4
    go_wp2_with fail
    refine hI13.out.mono ?_
    rintro e w14 ⟨H0, rfl, Bh, hH14, hBh, b14⟩
    have hHs : ∃ a n c, H0 = .slice a n c := by rcases hH14 with ⟨rfl, _⟩ | ⟨g, cap, cur, Bs, rfl, _⟩ <;> exact ⟨_, _, _, rfl⟩
    obtain ⟨Ha, Hn, Hc, rfl⟩ := hHs
    have hE14 := hide' (HEK.out _ _ _ _ _ hH14 (HW13.out.on b14))
    have HG14 := hide' (HG13.out.on b14)
    have HB114 := hide' (Below.on HB113.out b14)
    clear hH14 hBh b14 hI13 HG13 HW13 HB113
    go_wp2_with fail
    refine hE14.out.mono ?_
    rintro e w15 ⟨rfl, b15⟩
    have hH15 := hide' (HHK.out _ _ _ (HG14.out.on b15))
    have HB115 := hide' (Below.on HB114.out b15)
    clear b15 hE14 HG14 HB114
    go_wp2_with fail
    refine hH15.out.mono ?_
    rintro e w16 ⟨rfl, b16⟩
    have B116 := hide' (Below.on (Hb.out _) (Below.on HB115.out b16))
    clear b16 hH15 HB115
    go_wp2
    go_ret
    exact ⟨rfl, B116.out⟩

theorem walk_FnExactUses (d : Nat) (c0 c1 c2 c3 c4 : Value) (v : Vl d) (w : World) (hT : ShpT w) (hv : VSeg (fun b => b < w.heap.size) w d (c0, c1, c2, c3, c4) v) :
    Calls Tryd.prog 7 #[.agg #[c0, c1, c2, c3, c4]] w fun e w' => e = .returned (.bool true) ∧ Below w.heap.size w w' := by
  cases d with
  | zero => exact hv.elim
  | succ d => exact walk_FnExactUses_succ d c0 c1 c2 c3 c4 v w hT hv
end Go.Proofs.YtgdjdgaoflekgaaDoor
/-
  What the row lists of the table of shapes: its cells.
-/
namespace Go.Proofs.YtgdjdgaoflekgaaDoor
open Go.RowKit
set_option linter.unusedVariables false
set_option linter.unusedSimpArgs false
set_option maxRecDepth 100000

/-- A shape as the row lists it. -/
def shpF {H : Type} (i : Nat) : DataW H := .agg [.lit (.int .i64 (mostI i)), .lit (.int .i64 (saysI i)), .lit (.bool (decide (i = 5))), .lit (.int .i64 (arI i))]

theorem shapes_eq : (Rows.laid_loop_example_g00407_impl_shapes : DataW Unit) = .agg ((List.range 24).map shpF) := by kernel_rfl

theorem cellsShp : Tryd.prog.cellsOf 96 = 4 := by kernel_rfl
theorem cellsShps : Tryd.prog.cellsOf 97 = 96 := by kernel_rfl
theorem cells3 : Tryd.prog.cellsOf 3 = 1 := by kernel_rfl
theorem cells4 : Tryd.prog.cellsOf 4 = 1 := by kernel_rfl

theorem shp_row {H : Type} {enc : TypeId × Value → H} {w : World} {base : Nat} {sp : Nat → Bool} {held : Bool} {fuel : Nat} {cs : List Value} {i : Nat} {p : List MemPlace} (h : DataW.trod enc Tryd.prog w base sp held fuel 96 cs = some (shpF i, p)) :
    cs = [.int .i64 (mostI i), .int .i64 (saysI i), .bool (decide (i = 5)), .int .i64 (arI i)] := by
  cases fuel with
  | zero => simp [DataW.trod] at h
  | succ fuel =>
    unfold DataW.trod at h
    rw [Tryd.underlying96] at h
    simp only [cellsShp] at h
    split at h
    · next hlen =>
      match cs, hlen with
      | [c0, c1, c2, c3], _ =>
        simp [cells3, cells4, List.mapM_cons, Option.bind_eq_some_iff] at h
        obtain ⟨a0, b0, h0, _, ⟨a1, b1, h1, _, ⟨a2, b2, h2, _, ⟨a3, b3, h3, rfl⟩, rfl⟩, rfl⟩, hE, _⟩ := h
        obtain ⟨n0, e0, x0, _⟩ := DataW.trod_int Tryd.underlying3 h0
        obtain ⟨n1, e1, x1, _⟩ := DataW.trod_int Tryd.underlying3 h1
        obtain ⟨n2, e2, x2⟩ := DataW.trod_bool Tryd.underlying4 h2
        obtain ⟨n3, e3, x3, _⟩ := DataW.trod_int Tryd.underlying3 h3
        simp at e0 e1 e2 e3 x0 x1 x2 x3
        obtain ⟨rfl, _⟩ := x0
        obtain ⟨rfl, _⟩ := x1
        obtain ⟨rfl, _⟩ := x2
        obtain ⟨rfl, _⟩ := x3
        simp [shpF] at hE
        obtain ⟨f0, f1, f2, f3⟩ := hE
        rw [e0, e1, e2, e3, f0, f1, f2, f3]
    · simp at h

theorem shpT_of_laid {r : List (String × DataW Unit)} {w : World} (h : laidMet Tryd.prog (("loop.example/g00407/impl.shapes", Rows.laid_loop_example_g00407_impl_shapes) :: r) w) : ShpT w := by
  obtain ⟨ps, ⟨g', t', cs, fuel, p, q, hg', ht', hvar, hd, _, _⟩, _⟩ := h
  have hg : Tryd.prog.globalNamed "loop.example/g00407/impl.shapes" = some 3 := by kernel_rfl
  have hty : (Tryd.prog.globals[3]?).map (·.type) = some 97 := by kernel_rfl
  obtain rfl := Option.some.inj (hg.symm.trans hg')
  obtain rfl := Option.some.inj (hty.symm.trans ht')
  rw [shapes_eq] at hd
  cases fuel with
  | zero => simp [DataW.trod] at hd
  | succ fuel =>
    unfold DataW.trod at hd
    rw [Tryd.underlying97] at hd
    simp only [cellsShp, cellsShps] at hd
    split at hd
    · rename_i hl
      obtain ⟨xs, hm, hx⟩ := Option.map_eq_some_iff.1 hd
      have hxs : xs.map (·.1) = (List.range 24).map shpF := by
        have := congrArg Prod.fst hx
        simpa using this
      intro k hk
      obtain ⟨b, hb, hf⟩ := Lib.mapM_at hm k k (by simp [hk])
      have h2 : (xs.map (·.1))[k]? = some (shpF k : DataW Unit) := by rw [hxs]; simp [hk]
      have h3 : b.1 = shpF k := by simpa [hb] using h2
      obtain ⟨b1, b2⟩ := b
      simp only at h3
      subst h3
      have hrow := shp_row hf
      have hc : ∀ j, j < 4 → w.cell? ⟨3, k * 4 + j, none⟩ = [.int .i64 (mostI k), .int .i64 (saysI k), .bool (decide (k = 5)), .int .i64 (arI k)][j]? := by
        intro j hj
        rw [World.var?_cell hg hvar, ← hrow]
        simp [List.getElem?_take, List.getElem?_drop, hj]
      exact ⟨hc 0 (by omega), hc 1 (by omega), hc 2 (by omega), hc 3 (by omega)⟩
    · simp at hd
end Go.Proofs.YtgdjdgaoflekgaaDoor
/-
  A text that came in, as its reading has it, can be read: 'TSeg'.
-/
namespace Go.Proofs.YtgdjdgaoflekgaaDoor
open Go.ChangeShapes Go.WideShapes Go.ChangeAt Go.RowKit
set_option linter.unusedVariables false
set_option linter.unusedSimpArgs false
set_option maxRecDepth 100000

theorem cellsT : Tryd.prog.cellsOf 22 = 1 := by kernel_rfl
theorem cellsI : Tryd.prog.cellsOf 3 = 1 := by kernel_rfl

theorem list_of {α : Type} {Q : Nat → α → Prop} : ∀ n, (∀ i, i < n → ∃ x, Q i x) → ∃ l : List α, l.length = n ∧ ∀ i (h : i < l.length), Q i l[i]
  | 0, _ => ⟨[], rfl, fun i h => by simp at h⟩
  | n + 1, hq => by
    obtain ⟨l, hl, hi⟩ := list_of n (fun i hi => hq i (by omega))
    obtain ⟨x, hx⟩ := hq n (by omega)
    refine ⟨l ++ [x], by simp [hl], fun i h => ?_⟩
    by_cases e : i < l.length
    · rw [List.getElem_append_left e]; exact hi i e
    · have : i = n := by simp at h; omega
      subst this
      rw [List.getElem_append_right (by omega)]
      simpa using hx

variable {H : Type} {enc : TypeId × Value → H} {w : World}

theorem read_text {fuel : Nat} {cs : List Value} {x : DataW H × List MemPlace} (h : DataW.trod enc Tryd.prog w 0 (fun _ => true) true fuel 22 cs = some x) : ∃ u xs, cs = [u] ∧ TSeg (fun b => b < w.heap.size) w u xs := by
  rcases open_ints Tryd.underlying22 Tryd.underlying5 (by kernel_rfl) h with ⟨rfl, _⟩ | ⟨a, len, cap, zs, rfl, _, hl, hm, hz, _, hcell, hwz⟩
  · exact ⟨_, [], rfl, none, 0, rfl, ⟨by simp, .inl rfl⟩, Nat.le_refl _, Nat.zero_le _, fun _ => rfl, by simp⟩
  · obtain ⟨xs, e, hs, h1, h2, h3⟩ := seg_of_row (w := w) (a := some a) (len := len) (cap := cap) (zs := zs) (.inr ⟨a, rfl, hl, hm, by simpa using hz, hcell, hwz⟩)
    subst e
    exact ⟨_, xs, rfl, some a, cap, rfl, hs, h1, h2, h3, hs.lt⟩

end Go.Proofs.YtgdjdgaoflekgaaDoor
