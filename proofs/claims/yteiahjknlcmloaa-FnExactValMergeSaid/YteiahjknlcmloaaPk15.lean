/-
  Texts that a law leans on, one behind the other; no statement is proved here.
-/
import Derived.Test.YteiahjknlcmloaaPk14
import Derived.Test.YteiahjknlcmloaaPk4
import Derived.Test.YteiahjknlcmloaaPk10
import Derived.Test.YteiahjknlcmloaaPk9
import Derived.Test.YteiahjknlcmloaaPk0
import Derived.Deep.RegionLaw
import Derived.Deep.RegionWith
/-
  At of the program: what is at the path, on the call's own memory; no statement is proved here.
-/
namespace Go.Proofs.Yteiahjknlcmloaa
open Go.RowKit Go.Shelf
set_option linter.unusedVariables false
set_option linter.unusedSimpArgs false

/-- A value of the call's own and true, or nothing and false. -/
def AnsN : Option Nod → World → Ending → World → Prop
  | some ⟨D + 1, a⟩, w, e, w' => Ans D a true w e w'
  | some ⟨0, _⟩, _, _, _ => False
  | none, w, e, w' => Ans 0 (vNil 0) false w e w'

/-- The end with nothing: the result's block holds nothing, and nothing old has turned. -/
theorem ansN_none {w wz : World} {G : Nat} {o : Option Nod} (ho : o = none) (hB : Below w.heap.size w wz) (hG : w.heap.size ≤ G) : AnsN o w (.returned (.tuple #[.agg #[.int .i64 0, .int .i64 0, .slice none 0 0, .slice none 0 0, .slice none 0 0], .bool false])) (set5 wz G 0 (.int .i64 0) (.int .i64 0) (.slice none 0 0) (.slice none 0 0) (.slice none 0 0)) := by
  subst ho
  have hB5 := set5_grown wz G 0 (.int .i64 0) (.int .i64 0) (.slice none 0 0) (.slice none 0 0) (.slice none 0 0)
  exact ⟨_, _, _, _, _, rfl, [], own_vNil 0 _, by simp, hB.grown hB5 hB.size (by intro j hj; simp at hj; omega)⟩

/-- The end with a value. -/
theorem ansN_some {w wz : World} {G : Nat} {o : Option Nod} {n : Nod} (ho : o = some n) {B : List Nat} {u0 u1 u2 u3 u4 : Value} (hO : VOwn wz n.1 (u0, u1, u2, u3, u4) n.2 B) (hBb : ∀ b ∈ B, w.heap.size ≤ b ∧ b < wz.heap.size ∧ b ≠ G) (hB : Below w.heap.size w wz) (hG : w.heap.size ≤ G) : AnsN o w (.returned (.tuple #[.agg #[u0, u1, u2, u3, u4], .bool true])) (set5 wz G 0 u0 u1 u2 u3 u4) := by
  subst ho
  obtain ⟨D, a⟩ := n
  cases D with
  | zero => exact hO.elim
  | succ D =>
    have hB5 := set5_grown wz G 0 u0 u1 u2 u3 u4
    have hsz := set5_size wz G 0 u0 u1 u2 u3 u4
    refine ⟨_, _, _, _, _, rfl, B, VOwn.agree (D + 1) hO fun b hb => hB5.block b (hBb b hb).2.1 (by have := (hBb b hb).2.2; simp; exact this), fun b hb => ?_, hB.grown hB5 hB.size (by intro j hj; simp at hj; omega)⟩
    have := hBb b hb
    exact ⟨this.1, by omega⟩

set_option maxHeartbeats 3200000 in
set_option maxRecDepth 100000 in
theorem impl_At_any (d N : Nat) (c0 c1 c2 c3 c4 : Value) (v : Vl d) (x : Value) (l : List Stp) (w : World) (hv : VSeg (fun b => b < N) w d (c0, c1, c2, c3, c4) v) (hx : PthSeg (fun b => b < N) w x l) (hN : N ≤ w.heap.size) :
    Calls Try.prog 38 #[.agg #[c0, c1, c2, c3, c4], x] w (AnsN (atN d v l) w) := by
  have HA : Hid (∀ o o' : Obj, Below w.heap.size w ((w.alloc o).alloc o') ∧ ((w.alloc o).alloc o').heap[w.heap.size + 1]? = some o') := fun o o' => ⟨((Below.refl _ _).alloc (Nat.le_refl _) o).alloc (by simp) o', by have := (MapKept.heap_alloc (w.alloc o) o').1; simpa using this⟩
  have HP : Hid (∀ o o' : Obj, Calls Try.prog 45 #[.agg #[c0, c1, c2, c3, c4]] ((w.alloc o).alloc o') (PartEnd d v ((w.alloc o).alloc o'))) := fun o o' => partOf_any d N c0 c1 c2 c3 c4 v _ (VSeg.agree (fun b (h : b < N) => (HA.out o o').1.block b (by omega)) d hv) (by simp; omega)
  have HX : Hid (∀ wx, Below w.heap.size w wx → PthSeg (fun b => b < N) wx x l) := fun wx hb => hx.agree (fun b (h : b < N) => hb.block b (by omega))
  obtain ⟨xa, xc, rfl, _⟩ := hx
  clear hv
  go_enter Try.func38, Try.ntmps38
  go_wp2_with fail
  refine (HP.out _ _).mono ?_
  rintro e w1 ⟨b1, ⟨p, rfl, hok, hp⟩ | ⟨rfl, hno⟩⟩
  · have hR1 : w1.heap[w.heap.size + 1]? = some (.cells #[.int .i64 0, .int .i64 0, .slice none 0 0, .slice none 0 0, .slice none 0 0] 26 (0, 0)) := (b1.block _ (by simp)).trans (HA.out _ _).2
    have hlt : w.heap.size + 1 < w1.heap.size := (Array.getElem?_eq_some_iff.1 hR1).1
    have HB1 := hide' (Below.on (HA.out _ _).1 b1)
    have HR1 := hide' hR1
    have HPs : Hid (PNod (fun b => b < w1.heap.size) w1 p (some ⟨d, v⟩)) := by
      have hok' := hok
      simp only [okB, Bool.and_eq_true, decide_eq_true_eq] at hok'
      exact ⟨PSeg.carry (fun b h => h.2) (fun b _ => rfl) d hp, 1, hok'.1, hok'.2⟩
    obtain ⟨pt, px, rfl⟩ := hp.shape
    have HO := hide' hok
    have HX1 := hide' (HX.out w1 HB1.out)
    have HPk := hide' (impl_PathOk_any N (.slice xa l.length xc) l w1 HX1.out (by omega))
    clear hR1 b1 hp hok HP
    go_wp2_with fail
    refine HPk.out.mono ?_
    rintro e w2 ⟨rfl, b2⟩
    have HB2 := hide' (Below.on HB1.out b2)
    have HR2 := hide' ((b2.block _ hlt).trans HR1.out)
    have hz2 := b2.size
    have hlt2 : w.heap.size + 1 < w2.heap.size := by omega
    by_cases hpk : pathB l = true
    · rw [hpk]
      have hAt : atN d v l = alongN (some ⟨d, v⟩) l := if_pos ⟨HO.out, hpk⟩
      have HAt := hide' hAt
      have HAl := hide' (partAlong_any w1.heap.size (.iface pt px) _ (.slice xa l.length xc) l w2 (HPs.out.carry (fun b h => h) (fun b h => b2.block b h)) ((HX.out w2 HB2.out).mono fun b (h : b < N) => by omega) b2.size hpk)
      clear hAt hpk HPk HPs HX1 b2 HR1 HB1
      go_wp2_with fail
      refine HAl.out.mono ?_
      rintro e w3 ⟨q, rfl, hq, b3⟩
      have HB3 := hide' (Below.on HB2.out b3)
      have HR3 := hide' ((b3.block _ hlt2).trans HR2.out)
      have hz3 := b3.size
      obtain ⟨r0, r1, r2, r3, r4, rf⟩ := row5 HR3.out
      have f0 := rf 0
      have f1 := rf 1
      have f2 := rf 2
      have f3 := rf 3
      have f4 := rf 4
      clear rf HAl HR2 b3
      rcases hq.form with ⟨ho, rfl⟩ | ⟨n, t, y, ho, rfl⟩
      · have HE := hide' (HAt.out.trans ho)
        clear hq HAt ho
        go_wp2_with fail
        have hfin := row5 (set5_heap (j := 0) (.int .i64 0) (.int .i64 0) (.slice none 0 0) (.slice none 0 0) (.slice none 0 0) HR3.out)
        simp only [set5, Nat.zero_add] at hfin
        obtain ⟨o0, o1, o2, o3, o4, _⟩ := hfin
        refine bodyPost_ret (v := .tuple #[.agg #[.int .i64 0, .int .i64 0, .slice none 0 0, .slice none 0 0, .slice none 0 0], .bool false]) (by simp [results, Try.results38, go_sem, o0, o1, o2, o3, o4]) rfl ?_
        exact ansN_none HE.out HB3.out (by omega)
      · have HE := hide' (HAt.out.trans ho)
        rw [ho] at hq
        obtain ⟨hps, dp, hg, hn⟩ := hq
        have HV := hide' (valueOf_any n.1 w1.heap.size _ n.2 dp w3 hps (by omega) hg hn)
        clear hps hg hn HAt ho r0 r1 r2 r3 r4 f0 f1 f2 f3 f4
        go_wp2_with fail
        refine HV.out.mono ?_
        rintro e w4 ⟨u0, u1, u2, u3, u4, rfl, B, hO, hB, hb4⟩
        obtain ⟨uk, un, s2, n2, x2, s3, n3, x3, s4, n4, x4, rfl, rfl, rfl, rfl, rfl⟩ := VOwn.form n.1 hO
        have HR4 := hide' ((hb4.block _ (by omega)).trans HR3.out)
        have HB4 := hide' (Below.on HB3.out hb4)
        have HO4 := hide' hO
        have HBb : Hid (∀ b ∈ B, w.heap.size ≤ b ∧ b < w4.heap.size ∧ b ≠ w.heap.size + 1) := fun b hb => by have := hB b hb; omega
        obtain ⟨r0, r1, r2, r3, r4, rf⟩ := row5 HR4.out
        have f0 := rf 0
        have f1 := rf 1
        have f2 := rf 2
        have f3 := rf 3
        have f4 := rf 4
        clear rf HV hO hB hb4 HR3 HB3
        go_wp2_with fail
        have hfin := row5 (set5_heap (j := 0) (.int .i64 uk) (.int .i64 un) (.slice s2 n2 x2) (.slice s3 n3 x3) (.slice s4 n4 x4) HR4.out)
        simp only [set5, Nat.zero_add] at hfin
        obtain ⟨o0, o1, o2, o3, o4, _⟩ := hfin
        refine bodyPost_ret (v := .tuple #[.agg #[.int .i64 uk, .int .i64 un, .slice s2 n2 x2, .slice s3 n3 x3, .slice s4 n4 x4], .bool true]) (by simp [results, Try.results38, go_sem, o0, o1, o2, o3, o4]) rfl ?_
        exact ansN_some HE.out HO4.out HBb.out HB4.out (by omega)
    · have hpk' : pathB l = false := by simpa using hpk
      rw [hpk']
      have HE : Hid (atN d v l = none) := if_neg fun h => hpk h.2
      obtain ⟨r0, r1, r2, r3, r4, rf⟩ := row5 HR2.out
      have f0 := rf 0
      have f1 := rf 1
      have f2 := rf 2
      have f3 := rf 3
      have f4 := rf 4
      clear rf hpk hpk' HPk HPs HX1 b2 HR1
      go_wp2_with fail
      have hfin := row5 (set5_heap (j := 0) (.int .i64 0) (.int .i64 0) (.slice none 0 0) (.slice none 0 0) (.slice none 0 0) HR2.out)
      simp only [set5, Nat.zero_add] at hfin
      obtain ⟨o0, o1, o2, o3, o4, _⟩ := hfin
      refine bodyPost_ret (v := .tuple #[.agg #[.int .i64 0, .int .i64 0, .slice none 0 0, .slice none 0 0, .slice none 0 0], .bool false]) (by simp [results, Try.results38, go_sem, o0, o1, o2, o3, o4]) rfl ?_
      exact ansN_none HE.out HB2.out (by omega)
  · have hR1 : w1.heap[w.heap.size + 1]? = some (.cells #[.int .i64 0, .int .i64 0, .slice none 0 0, .slice none 0 0, .slice none 0 0] 26 (0, 0)) := (b1.block _ (by simp)).trans (HA.out _ _).2
    have HB1 := hide' (Below.on (HA.out _ _).1 b1)
    have HR1 := hide' hR1
    have HE : Hid (atN d v l = none) := if_neg fun h => by rw [hno] at h; simp at h
    obtain ⟨r0, r1, r2, r3, r4, rf⟩ := row5 HR1.out
    have f0 := rf 0
    have f1 := rf 1
    have f2 := rf 2
    have f3 := rf 3
    have f4 := rf 4
    clear rf hR1 b1 hno HP
    go_wp2_with fail
    have hfin := row5 (set5_heap (j := 0) (.int .i64 0) (.int .i64 0) (.slice none 0 0) (.slice none 0 0) (.slice none 0 0) HR1.out)
    simp only [set5, Nat.zero_add] at hfin
    obtain ⟨o0, o1, o2, o3, o4, _⟩ := hfin
    refine bodyPost_ret (v := .tuple #[.agg #[.int .i64 0, .int .i64 0, .slice none 0 0, .slice none 0 0, .slice none 0 0], .bool false]) (by simp [results, Try.results38, go_sem, o0, o1, o2, o3, o4]) rfl ?_
    exact ansN_none HE.out HB1.out (by omega)
end Go.Proofs.Yteiahjknlcmloaa
/-
  A row of bytes of the call's own, as a text with its blocks.
-/
namespace Go.Proofs.Yteiahjknlcmloaa
open Go.RowKit
set_option linter.unusedVariables false
set_option linter.unusedSimpArgs false

theorem tOwn_of {w : World} {base : Nat} {v : Value} {xs : List Int} (h : Bts w base v xs) : ∃ B, TOwn w v xs B ∧ (∀ b ∈ B, base ≤ b ∧ b < w.heap.size) ∧ B.Nodup := by
  have hlt := h.2.lt
  rcases h.2.2 with ⟨rfl, h0⟩ | ⟨g, cap, cur, rfl, _⟩
  · exact ⟨[], ⟨h.free, .inl ⟨rfl, rfl⟩⟩, by simp, by simp⟩
  · exact ⟨[g], ⟨h.free, .inr ⟨g, cap, rfl, rfl⟩⟩, by intro b hb; simp at hb; subst hb; exact hlt b rfl, by simp⟩

end Go.Proofs.Yteiahjknlcmloaa
/-
  l2own of the specification: what its two loops leave.
-/
namespace Go.Proofs.Yteiahjknlcmloaa
open Go.RowKit
set_option linter.unusedVariables false
set_option linter.unusedSimpArgs false

/-- After k rounds of the first loop: out's box (block O) holds k texts of the call's own. -/
def KInv (w2 : World) (O : Nat) (c0 c1 c2 : Value) (ks : List (List Int)) (k : Nat) (wr : World) (x : Value) (cs : List (List Value)) (Bi : List (List Nat)) : Prop :=
  wr.heap[O]? = some (.cells #[c0, c1, c2, x, .slice none 0 0] 26 (0, 0)) ∧ RW 22 1 (ItK ks) wr w2.heap.size x k cs Bi ∧ w2.grownBy wr (some O)

/-- After k rounds of the second loop: it holds k values besides. -/
def LInv (w3 : World) (O : Nat) (c0 c1 c2 c3 : Value) (d : Nat) (l : List (Vl d)) (k : Nat) (wr : World) (x : Value) (cs : List (List Value)) (Bi : List (List Nat)) : Prop :=
  wr.heap[O]? = some (.cells #[c0, c1, c2, c3, x] 26 (0, 0)) ∧ RW 26 5 (ItV d l) wr w3.heap.size x k cs Bi ∧ w3.grownBy wr (some O)

theorem grown_on {w2 wr w5 w6 : World} {O : Nat} {x v : Value} {o : Obj} {j : Nat} (h : w2.grownBy wr (some O)) (b5 : Below wr.heap.size wr w5) (hg : (w5.alloc o).grownBy w6 x.ownBlock) (hx : ∀ b, x.ownBlock = some b → w2.heap.size ≤ b) : w2.grownBy (w6.setCell ⟨O, j, none⟩ v) (some O) := by
  have h1 := h.size
  have h5 := b5.size
  have h6 := hg.size
  simp at h6
  refine ⟨h.os ▸ b5.os ▸ hg.os ▸ rfl, h.tape ▸ b5.tape ▸ hg.tape ▸ rfl, h.output ▸ b5.output ▸ hg.output ▸ rfl, by simp [World.setCell]; omega, fun b hb hne => ?_⟩
  have hbO : b ≠ O := fun e => hne (by rw [e])
  exact (Below.heap_setCell w6 ⟨O, j, none⟩ v b hbO).trans ((hg.block b (by simp; omega) (fun e => by have := hx b e.symm; omega)).trans ((Below.heap_alloc _ _ _ (by omega)).trans ((b5.block b (by omega)).trans (h.block b hb hne))))

theorem kinv_step {w2 wr w5 w6 : World} {O : Nat} {c0 c1 c2 : Value} {ks : List (List Int)} {x v5 : Value} {k g cp : Nat} {cs : List (List Value)} {Bi : List (List Nat)} {o : Obj} (h : KInv w2 O c0 c1 c2 ks k wr x cs Bi) (hO : O < w2.heap.size) (b5 : Below wr.heap.size wr w5) (hv : Bts w5 wr.heap.size v5 (ks.getD k []))
    (hown : w6.ownsRow w2.heap.size 22 1 (.slice (some ⟨g, 0, none⟩) (k + 1) cp) (k + 1) (cs.flatten ++ [v5])) (hg : (w5.alloc o).grownBy w6 x.ownBlock) (hat : x.ownBlock = some g ∨ g = w5.heap.size + 1) :
    w6.heap[O]? = some (.cells #[c0, c1, c2, x, .slice none 0 0] 26 (0, 0)) ∧ ∃ cs' Bi', KInv w2 O c0 c1 c2 ks (k + 1) (w6.setCell ⟨O, 3, none⟩ (.slice (some ⟨g, 0, none⟩) (k + 1) cp)) (.slice (some ⟨g, 0, none⟩) (k + 1) cp) cs' Bi' := by
  obtain ⟨h1, h2, h3⟩ := h
  obtain ⟨Bv, hT, hBv, hBn⟩ := tOwn_of hv
  have hz3 := h3.size
  have hz5 := b5.size
  have hxlt := h2.2.2.1.lt
  have hneB : some O ≠ x.ownBlock := fun e => by have := hxlt O e.symm; omega
  have hV6 : w6.heap[O]? = some (.cells #[c0, c1, c2, x, .slice none 0 0] 26 (0, 0)) := (hg.block O (by simp; omega) hneB).trans ((Below.heap_alloc _ _ _ (by omega)).trans ((b5.block O (by omega)).trans h1))
  have hR := RW.add (w2 := w5.alloc o) (ItK.agree ks) h2 (fun b hb => (Below.heap_alloc _ _ _ (by omega)).trans (b5.block b hb)) (by simp; omega) ⟨v5, rfl, hT.agree fun b hb => Below.heap_alloc _ _ _ (hBv b hb).2⟩ (fun b hb => by have := hBv b hb; simp; omega) hBn hz3 hown hg (by simpa using hat)
  refine ⟨hV6, cs ++ [[v5]], Bi ++ [Bv], heap_setCell_same w6 O 3 _ _ _ hV6, ?_, grown_on h3 b5 hg (fun b hb => (hxlt b hb).1)⟩
  refine hR.agree (ItK.agree ks) (fun b hb => ?_) (by simp [World.setCell])
  have := hR.2.2.2.2.2 b hb
  exact Below.heap_setCell w6 _ _ b (by show b ≠ O; omega)

theorem linv_step {w3 wr w5 w6 : World} {O d : Nat} {c0 c1 c2 c3 : Value} {l : List (Vl d)} {k : Nat} {x : Value} {cs : List (List Value)} {Bi : List (List Nat)} {c : List Value} {Bv : List Nat} {g cp : Nat} {o : Obj} (h : LInv w3 O c0 c1 c2 c3 d l k wr x cs Bi) (hO : O < w3.heap.size)
    (b5 : Below wr.heap.size wr w5) (hv : ItV d l w5 k c Bv) (hBv : ∀ b ∈ Bv, wr.heap.size ≤ b ∧ b < w5.heap.size) (hBn : Bv.Nodup)
    (hown : w6.ownsRow w3.heap.size 26 5 (.slice (some ⟨g, 0, none⟩) (k + 1) cp) (k + 1) (cs.flatten ++ c)) (hg : (w5.alloc o).grownBy w6 x.ownBlock) (hat : x.ownBlock = some g ∨ g = w5.heap.size + 1) :
    w6.heap[O]? = some (.cells #[c0, c1, c2, c3, x] 26 (0, 0)) ∧ LInv w3 O c0 c1 c2 c3 d l (k + 1) (w6.setCell ⟨O, 4, none⟩ (.slice (some ⟨g, 0, none⟩) (k + 1) cp)) (.slice (some ⟨g, 0, none⟩) (k + 1) cp) (cs ++ [c]) (Bi ++ [Bv]) := by
  obtain ⟨h1, h2, h3⟩ := h
  have hz3 := h3.size
  have hz5 := b5.size
  have hxlt := h2.2.2.1.lt
  have hneB : some O ≠ x.ownBlock := fun e => by have := hxlt O e.symm; omega
  have hV6 : w6.heap[O]? = some (.cells #[c0, c1, c2, c3, x] 26 (0, 0)) := (hg.block O (by simp; omega) hneB).trans ((Below.heap_alloc _ _ _ (by omega)).trans ((b5.block O (by omega)).trans h1))
  have hR := RW.add (w2 := w5.alloc o) (ItV.agree d l) h2 (fun b hb => (Below.heap_alloc _ _ _ (by omega)).trans (b5.block b hb)) (by simp; omega) (ItV.agree d l _ _ _ _ _ hv fun b hb => Below.heap_alloc _ _ _ (hBv b hb).2) (fun b hb => by have := hBv b hb; simp; omega) hBn hz3 hown hg (by simpa using hat)
  refine ⟨hV6, heap_setCell_same w6 O 4 _ _ _ hV6, ?_, grown_on h3 b5 hg (fun b hb => (hxlt b hb).1)⟩
  refine hR.agree (ItV.agree d l) (fun b hb => ?_) (by simp [World.setCell])
  have := hR.2.2.2.2.2 b hb
  exact Below.heap_setCell w6 _ _ b (by show b ≠ O; omega)

/-- The contract of l2own, at depth d. -/
def OwnAt (d : Nat) : Prop := ∀ (N : Nat) (c0 c1 c2 c3 c4 : Value) (v : Vl d) (w : World), VSeg (fun b => b < N) w d (c0, c1, c2, c3, c4) v → N ≤ w.heap.size → szV d v ≤ 1048576 → Calls Try.prog 44 #[.agg #[c0, c1, c2, c3, c4]] w (ValEnd d v w)

/-- What a call of l2own leaves of it. -/
def LCall (O : Nat) (base d : Nat) (l : List (Vl d)) (k : Nat) (wr : World) (x : Value) (xs : List Value) (e : Ending) (w5 : World) : Prop :=
  ∃ (uk un : Int) (s2 : Option Addr) (n2 r2 : Nat) (s3 : Option Addr) (n3 r3 : Nat) (s4 : Option Addr) (n4 r4 : Nat), e = .returned (.agg #[.int .i64 uk, .int .i64 un, .slice s2 n2 r2, .slice s3 n3 r3, .slice s4 n4 r4]) ∧
    ∃ Bv, ItV d l w5 k [.int .i64 uk, .int .i64 un, .slice s2 n2 r2, .slice s3 n3 r3, .slice s4 n4 r4] Bv ∧ (∀ b ∈ Bv, wr.heap.size ≤ b ∧ b < w5.heap.size) ∧ Bv.Nodup ∧ Below wr.heap.size wr w5 ∧ w5.cell? ⟨O, 4, none⟩ = some x ∧ w5.ownsRow base 26 5 x k xs

theorem linv_call {w3 wr wy w5 : World} {O d : Nat} {c0 c1 c2 c3 : Value} {l : List (Vl d)} {k : Nat} {x : Value} {cs : List (List Value)} {Bi : List (List Nat)} {e : Ending} (h : LInv w3 O c0 c1 c2 c3 d l k wr x cs Bi) (hO : O < w3.heap.size) (hk : k < l.length)
    (hy : Below wr.heap.size wr wy) (he : ValEnd d l[k] wy e w5) : LCall O w3.heap.size d l k wr x cs.flatten e w5 := by
  obtain ⟨u0, u1, u2, u3, u4, rfl, Bv, hv, hb, h5⟩ := he
  obtain ⟨uk, un, s2, n2, r2, s3, n3, r3, s4, n4, r4, rfl, rfl, rfl, rfl, rfl⟩ := VOwn.form d hv
  have hb5 := Below.on hy h5
  have hz := hy.size
  have hz3 := h.2.2.size
  refine ⟨uk, un, s2, n2, r2, s3, n3, r3, s4, n4, r4, rfl, Bv, ⟨_, rfl, hk, hv⟩, fun b hm => ?_, VOwn.nodup d hv, hb5, ?_, ?_⟩
  · have := hb b hm; omega
  · exact (World.cell?_of_block (hb5.block O (by omega))).trans (row5 h.1).2.2.2.2.1
  · exact h.2.1.2.2.1.kept (row := none) ⟨hb5.os, hb5.tape, hb5.output, hb5.size, fun k hk _ => hb5.block k hk⟩ (by cases hv : x.ownBlock <;> simp)

theorem own_end {wc wr wz wf : World} {N1 O R d : Nat} {vk vn : Int} {vS : List Int} {vK : List (List Int)} {vL : List (Vl d)} {sv xk xl : Value} {Bs Bk Bl : List Nat} (hT : TOwn wc sv vS Bs) (hBs : ∀ b ∈ Bs, N1 ≤ b ∧ b < wc.heap.size ∧ b ≠ O) (hSn : Bs.Nodup) (hK : KOwn wr xk vK Bk) (hBk : ∀ b ∈ Bk, wc.heap.size ≤ b ∧ b < wr.heap.size) (hKn : Bk.Nodup) (hL : LOwn wz d xl vL Bl) (hBl : ∀ b ∈ Bl, wr.heap.size ≤ b ∧ b < wz.heap.size) (hLn : Bl.Nodup)
    (h1 : wc.grownBy wr (some O)) (h2 : wr.grownBy wz (some O)) (h3 : wz.grownBy wf (some R)) (hO : O < wc.heap.size) (hR : R < N1) (hN1 : N1 ≤ wc.heap.size) : VOwn wf (d + 1) (.int .i64 vk, .int .i64 vn, sv, xk, xl) (vk, vn, vS, vK, vL) (Bs ++ (Bk ++ Bl)) ∧ ∀ b ∈ Bs ++ (Bk ++ Bl), N1 ≤ b ∧ b < wf.heap.size := by
  have s1 := h1.size
  have s2 := h2.size
  have s3 := h3.size
  refine ⟨⟨rfl, rfl, Bs, Bk, Bl, hT.agree fun b hb => ?_, hK.agree fun b hb => ?_, hL.agree fun b hb => ?_, rfl, ?_⟩, fun b hb => ?_⟩
  · obtain ⟨q1, q2, q3⟩ := hBs b hb
    exact (h3.block b (by omega) (by simp; omega)).trans ((h2.block b (by omega) (by simpa using q3)).trans (h1.block b q2 (by simpa using q3)))
  · obtain ⟨q1, q2⟩ := hBk b hb
    exact (h3.block b (by omega) (by simp; omega)).trans (h2.block b (by omega) (by simp; omega))
  · obtain ⟨q1, q2⟩ := hBl b hb
    exact h3.block b q2 (by simp; omega)
  · rw [List.nodup_append]
    refine ⟨hSn, ?_, fun x hx y hy => ?_⟩
    · rw [List.nodup_append]
      refine ⟨hKn, hLn, fun x hx y hy => ?_⟩
      have := hBk x hx
      have := hBl y hy
      omega
    · have := hBs x hx
      rcases List.mem_append.1 hy with hy | hy
      · have := hBk y hy; omega
      · have := hBl y hy; omega
  · rcases List.mem_append.1 hb with hb | hb
    · have := hBs b hb; omega
    · rcases List.mem_append.1 hb with hb | hb
      · have := hBk b hb; omega
      · have := hBl b hb; omega
end Go.Proofs.Yteiahjknlcmloaa
/-
  Rows of bytes of the call's own: an empty one, one byte laid in a block, a nil slice.
-/
namespace Go.Proofs.Yteiahjknlcmloaa
open Go.RowKit
set_option linter.unusedVariables false

theorem bts_empty (w : World) : Bts (w.alloc (.cells #[] 5)) w.heap.size (.slice (some ⟨w.heap.size, 0, none⟩) 0 0) [] :=
  ⟨by simp, by simpa [cellsOf] using World.ownsRow_lit (base := w.heap.size) (e := 5) (size := 1) w #[] 0 (Nat.le_refl _) (Nat.zero_le _) rfl⟩

/-- One byte that was laid in a block of its own. -/
theorem seg_one (w : World) (c : Int) (h : Byt c) : Seg (w.alloc (.cells #[.int .u8 c] 5)) (some ⟨w.heap.size, 0, none⟩) [c] := by
  refine ⟨by simpa using h, .inr ⟨w.heap.size, 0, rfl, fun i hi => ?_⟩⟩
  have : i = 0 := by simpa using hi
  subst this
  simp

theorem Bts.alloc {w : World} {base : Nat} {v : Value} {xs : List Int} (h : Bts w base v xs) (o : Obj) : Bts (w.alloc o) base v xs := ⟨h.1, h.2.alloc o⟩

theorem Bts.own {w : World} {base : Nat} {v : Value} {xs : List Int} (h : Bts w base v xs) : ∀ k, v.ownBlock = some k → base ≤ k := fun k hk => (h.2.lt k hk).1

theorem bts_nil (w : World) (base : Nat) : Bts w base (.slice none 0 0) [] := ⟨by simp, by simp [cellsOf], .inl ⟨rfl, rfl⟩⟩

end Go.Proofs.Yteiahjknlcmloaa
/-
  'append(own, ys...)' as a step of a region that draws its order.
-/
namespace Go.Proofs.Yteiahjknlcmloaa
open Go.RowKit
set_option linter.unusedVariables false
set_option linter.unusedSimpArgs false

theorem step_append_seg {ops : Array Oper} {o : Oper} {a : Act} {w : World} {K : Act → World → Prop} {Q : Exit → Act → World → Prop} {E : Prop} (hgd : o.guard = none) (s x : Operand)
    (ho : o.op = .call { callee := .builtin .append, args := #[s, x], argTypes := #[22, 22] })
    (base : Nat) (v : Value) (xs ys : List Int) (hs : a.eval s = v) (hB : Bts w base v xs) (ad : Option Addr) (m c : Nat) (hm : m = ys.length) (hx : a.eval x = .slice ad m c) (hS : Seg w ad ys) (hc : ad = none → c = 0)
    (hlen : xs.length + ys.length ≤ 1099511627776) (hbase : base ≤ w.heap.size)
    (h : ∀ v' w', Bts w' base v' (xs ++ ys) → w.grownBy w' v.ownBlock → K (a.put o.dst v') w') : if Region.wanted o (yielded ops a.tmps) = true then Oper.wp Try.prog o a w K Q else E := by
  have hw : Region.wanted o (yielded ops a.tmps) = true := by simp [Region.wanted, hgd]
  rw [if_pos hw]
  obtain ⟨i0, hi, hz0, hz1, hz2⟩ := info_parts info5
  have hbyt : ∀ z ∈ xs ++ ys, Byt z := by
    intro z hz
    rcases List.mem_append.1 hz with h1 | h1
    · exact hB.1 z h1
    · exact hS.1 z h1
  subst hm
  cases ad with
  | none =>
    have hc0 := hc rfl
    have hy : ys = [] := by
      rcases hS.2 with h0 | ⟨b, off, h1, _⟩
      · exact h0
      · simp at h1
    subst hc0
    subst hy
    have hrun := run_append_owned_none (P := Try.prog) (w := w) base 22 o.type 5 i0 1 Try.underlying22 hi v xs.length (cellsOf xs) hB.2
    unfold Oper.wp
    simp only [List.length_nil] at hx
    simp [execOp, ho, resolve, invoke, builtin, hs, hx, hrun, Result.andThen]
    exact h v w (by simpa using hB) (World.grownBy.refl _ _)
  | some ad =>
    obtain ⟨v', w', hrun, r1, r2, _⟩ := run_append_own (P := Try.prog) w base 22 o.type 5 i0 (.int .u8 0) 1 1 Try.underlying22 hi hz0 hz1 hz2 rfl (by decide) v xs.length (cellsOf xs) hB.2 ad ys.length c (cellsOf ys) (by simp [cellsOf])
      (by
        intro j u hu
        rcases hS.2 with h0 | ⟨b, off, h1, h2⟩
        · subst h0; simp [cellsOf] at hu
        · simp at h1
          subst h1
          have hj : j < ys.length := by
            have := (List.getElem?_eq_some_iff.1 hu).1
            simpa [cellsOf] using this
          rw [Addr.add_lit, h2 j hj]
          simp [cellsOf, hj] at hu
          simp [hj, hu])
      (by
        intro u hu
        simp only [cellsOf, List.mem_map] at hu
        obtain ⟨q, _, rfl⟩ := hu
        rfl)
      (by unfold maxLen; omega) (by omega) hbase
    unfold Oper.wp
    simp [execOp, ho, resolve, invoke, builtin, hs, hx, hrun, Result.andThen]
    exact h v' w' ⟨hbyt, by rw [cellsOf_append]; simpa using r1⟩ r2

end Go.Proofs.Yteiahjknlcmloaa
