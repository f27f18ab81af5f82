/-
  Texts that a law leans on, one behind the other; no statement is proved here.
-/
import Derived.Test.YteafpgaefphkfaaGreatDoorPk30
import Derived.Test.YteafpgaefphkfaaGreatDoorPk4
import Derived.Test.YteafpgaefphkfaaGreatDoorPk10
import Derived.Test.YteafpgaefphkfaaGreatDoorPk24
import Derived.Test.YteafpgaefphkfaaGreatDoorPk0
import Derived.Deep.RegionHeld3
import Derived.Test.YteafpgaefphkfaaGreatDoorPk29
import Derived.Test.YteafpgaefphkfaaGreatDoorPk23
/-
  valueOf of the program at a text.
-/
namespace Go.Proofs.YteafpgaefphkfaaGreatDoor
open Go.RowKit Go.Shelf
set_option linter.unusedVariables false
set_option linter.unusedSimpArgs false

/-- After the append: the boxes stand, the row is the call's own. -/
theorem valT_after {w1 w2 : World} {r : Nat} {xs : List Int} {v' : Value} {oV oT : Obj} {n : Nat} {ys : List Value} (hx : ∀ x ∈ xs, Byt x) (hr : w1.heap[r]? = some (.cells #[.int .i64 0, .int .i64 0, .slice none 0 0, .slice none 0 0, .slice none 0 0] 29 (0, 0)))
    (hown : w2.ownsRow (w1.heap.size + 2) 5 1 v' n ys) (hn : n = xs.length) (hys : ys = cellsOf xs) (hg : ((w1.alloc oV).alloc oT).grownBy w2 none) :
    ∃ a cap, v' = .slice a xs.length cap ∧ w2.heap[w1.heap.size]? = some oV ∧ w2.heap[r]? = some (.cells #[.int .i64 0, .int .i64 0, .slice none 0 0, .slice none 0 0, .slice none 0 0] 29 (0, 0)) ∧
      ∃ B, TOwn w2 (.slice a xs.length cap) xs B ∧ (∀ b ∈ B, w1.heap.size + 2 ≤ b ∧ b < w2.heap.size) ∧ Below w1.heap.size w1 w2 ∧ w1.heap.size + 2 ≤ w2.heap.size := by
  subst hn hys
  have hsz : w1.heap.size + 2 ≤ w2.heap.size := by have := hg.size; simp at this; omega
  have hlt := (Array.getElem?_eq_some_iff.1 hr).1
  have hV : w2.heap[w1.heap.size]? = some oV := (hg.block _ (by simp; omega) (by simp)).trans ((Below.heap_alloc _ _ _ (by simp)).trans (MapKept.heap_alloc w1 oV).1)
  have hR := (hg.block r (by simp; omega) (by simp)).trans ((Below.heap_alloc _ _ _ (by simp; omega)).trans ((Below.heap_alloc _ _ _ hlt).trans hr))
  have hB : Below w1.heap.size w1 w2 := (((Below.refl _ w1).alloc (Nat.le_refl _) oV).alloc (by simp) oT).grown hg (by simp; omega) (by simp)
  have hown' := hown
  obtain ⟨hl, ⟨rfl, h0⟩ | ⟨g, cap, cur, rfl, hb, hh, r⟩⟩ := hown
  · have : xs = [] := List.eq_nil_of_length_eq_zero h0
    subst this
    exact ⟨none, 0, rfl, hV, hR, [], ⟨⟨hx, by simp [cellsOf], .inl ⟨rfl, rfl⟩⟩, .inl ⟨rfl, rfl⟩⟩, by simp, hB, hsz⟩
  · exact ⟨some ⟨g, 0, none⟩, cap, rfl, hV, hR, [g], ⟨Bts.free (base := 0) ⟨hx, hl, .inr ⟨g, cap, cur, rfl, Nat.zero_le _, hh, r⟩⟩, .inr ⟨g, cap, rfl, rfl⟩⟩, by intro b hb'; simp at hb'; subst hb'; exact ⟨hb, (Array.getElem?_eq_some_iff.1 hh).1⟩, hB, hsz⟩

set_option maxHeartbeats 3200000 in
set_option maxRecDepth 100000 in
theorem valueOf_textPart (xs : List Int) (hx : ∀ x ∈ xs, Byt x) (hl : xs.length ≤ 64) (w : World) : Calls Tryz.prog 28 #[.iface 87 (.agg #[.string (strOf xs)])] w fun e w' => ∃ u B, e = .returned (.agg #[.int .i64 3, .int .i64 0, u, .slice none 0 0, .slice none 0 0]) ∧ TOwn w' u xs B ∧ (∀ b ∈ B, w.heap.size ≤ b ∧ b < w'.heap.size) ∧ Below w.heap.size w w' := by
  have hsz : (strOf xs).size = xs.length := size_strOf xs
  have hsc := strCells_of hx
  obtain ⟨i0, hi, hz0, hz1, hz2⟩ := info_parts info5
  generalize strOf xs = sx at *
  have m1 := meth_textPart (.agg #[.string sx])
  have t1 := nobool_textPart (.agg #[.string sx])
  have t2 := noint_textPart (.agg #[.string sx])
  have t3 := is_textPart (.agg #[.string sx])
  have HK := hide' (kind_textPart sx)
  have HA : Hid (∀ o : Obj, Below w.heap.size w (w.alloc o)) := fun o => (Below.refl _ _).alloc (Nat.le_refl _) o
  go_enter Tryz.func28, Tryz.ntmps28
  go_wp2_with fail
  refine (HK.out _).mono ?_
  rintro e w1 ⟨rfl, b1⟩
  have hr : w1.heap[w.heap.size]? = some (.cells #[.int .i64 0, .int .i64 0, .slice none 0 0, .slice none 0 0, .slice none 0 0] 29 (0, 0)) := box_row b1
  have B1 := hide' (Below.on (HA.out _) b1)
  have hlt : w.heap.size < w1.heap.size := (Array.getElem?_eq_some_iff.1 hr).1
  have hne : ¬ w.heap.size = w1.heap.size := by omega
  have hne' : ¬ w1.heap.size = w.heap.size := by omega
  have Hr := hide' hr
  clear b1 hr
  go_wp2_with (at_builtin; refine Lib.wpList_append_own_string _ rfl _ _ 22 9 rfl (w1.heap.size + 2) 5 i0 Tryz.underlying22 Tryz.underlying9 hi hz0 hz1 hz2 _ 0 [] rfl ⟨rfl, .inl ⟨rfl, rfl⟩⟩ sx rfl (by unfold maxLen; omega) (by omega) (by simp) ?_; intro v' w2 hown hg hnil; obtain ⟨a, cap, hv', hV, hR, B, hT, hBs, hB2, hsz2⟩ := valT_after hx Hr.out hown (by rw [Nat.zero_add]; exact hsz) (by rw [List.nil_append]; exact hsc) hg; clear hown hg hnil; subst hv'; obtain ⟨c0, c1, c2, c3, c4, cf⟩ := row5 hV; have cf2 := cf 2; obtain ⟨r0, r1, r2, r3, r4, rf⟩ := row5 hR; have f0 := rf 0; have f1 := rf 1; have f2 := rf 2; have f3 := rf 3; have f4 := rf 4; replace hV := hide' hV; replace hR := hide' hR; replace hT := hide' hT; replace hBs := hide' hBs; replace hB2 := hide' hB2; clear rf cf)
  have hR3 : (w2.setCell ⟨w1.heap.size, 2, none⟩ (.slice a xs.length cap)).heap[w.heap.size]? = _ := (Below.heap_setCell w2 ⟨w1.heap.size, 2, none⟩ (.slice a xs.length cap) w.heap.size hne).trans hR.out
  have hrow := set5_heap (j := 0) (.int .i64 3) (.int .i64 0) (.slice a xs.length cap) (.slice none 0 0) (.slice none 0 0) hR3
  have hfin := row5 hrow
  simp only [set5, Nat.zero_add] at hfin
  obtain ⟨y0, y1, y2, y3, y4, _⟩ := hfin
  refine bodyPost_ret (v := .agg #[.int .i64 3, .int .i64 0, .slice a xs.length cap, .slice none 0 0, .slice none 0 0]) (by simp [results, Tryz.results28, go_sem, y0, y1, y2, y3, y4]) rfl ?_
  have hA := grown1 w2 w1.heap.size 2 (.slice a xs.length cap)
  have hsz3 : (w2.setCell ⟨w1.heap.size, 2, none⟩ (.slice a xs.length cap)).heap.size = w2.heap.size := by simp [World.setCell]
  have hB5 := set5_grown (w2.setCell ⟨w1.heap.size, 2, none⟩ (.slice a xs.length cap)) w.heap.size 0 (.int .i64 3) (.int .i64 0) (.slice a xs.length cap) (.slice none 0 0) (.slice none 0 0)
  have hsz4 := set5_size (w2.setCell ⟨w1.heap.size, 2, none⟩ (.slice a xs.length cap)) w.heap.size 0 (.int .i64 3) (.int .i64 0) (.slice a xs.length cap) (.slice none 0 0) (.slice none 0 0)
  have hBn := Below.on B1.out hB2.out
  have hBf := (hBn.grown hA (by omega) (by intro j hj; simp at hj; omega)).grown hB5 (by omega) (by intro j hj; simp at hj; omega)
  refine ⟨_, B, rfl, hT.out.agree fun b h => ?_, fun b h => ?_, hBf⟩
  · have hb := hBs.out b h
    exact (hB5.block b (by omega) (by simp; omega)).trans (hA.block b (by omega) (by simp; omega))
  · have hb := hBs.out b h
    show w.heap.size ≤ b ∧ b < (set5 _ _ _ _ _ _ _ _).heap.size
    omega
end Go.Proofs.YteafpgaefphkfaaGreatDoor
/-
  valueOf of the program at a list.
-/
namespace Go.Proofs.YteafpgaefphkfaaGreatDoor
open Go.RowKit Go.Shelf
set_option linter.unusedVariables false
set_option linter.unusedSimpArgs false

/-- The contract of valueOf, at depth d. -/
def ValAt (d : Nat) : Prop := ∀ (N : Nat) (p : Value) (v : Vl d) (deep : Nat) (w : World), PSeg (fun b => b < N) w d p v → N ≤ w.heap.size → goodB d v deep = true → partsV d v ≤ 40 → Calls Tryz.prog 28 #[p] w (ValEnd d v w)

/-- After k rounds: V's box (block B) holds a list of k values of the call's own, in blocks from 'base' on. -/
def VInv (w1 : World) (B base : Nat) (d : Nat) (l : List (Vl d)) (kk : Int) (y3 : Value) (k : Nat) (wr : World) (x : Value) (cs : List (List Value)) (Bi : List (List Nat)) : Prop :=
  wr.heap[B]? = some (.cells #[.int .i64 kk, .int .i64 0, .slice none 0 0, y3, x] 29 (0, 0)) ∧ RW 29 5 (ItV d l) wr base x k cs Bi ∧ Below B w1 wr ∧ base ≤ wr.heap.size

theorem vinv_step {w1 wr w5 w6 : World} {B base d : Nat} {l : List (Vl d)} {kk : Int} {y3 : Value} {k : Nat} {x : Value} {cs : List (List Value)} {Bi : List (List Nat)} {c : List Value} {Bv : List Nat} {g cp : Nat} {o : Obj} (h : VInv w1 B base d l kk y3 k wr x cs Bi) (hB : B < base)
    (b5 : Below wr.heap.size wr w5) (hv : ItV d l w5 k c Bv) (hBv : ∀ b ∈ Bv, wr.heap.size ≤ b ∧ b < w5.heap.size) (hBn : Bv.Nodup)
    (hown : w6.ownsRow base 29 5 (.slice (some ⟨g, 0, none⟩) (k + 1) cp) (k + 1) (cs.flatten ++ c)) (hg : (w5.alloc o).grownBy w6 x.ownBlock) (hat : x.ownBlock = some g ∨ g = w5.heap.size + 1) :
    w6.heap[B]? = some (.cells #[.int .i64 kk, .int .i64 0, .slice none 0 0, y3, x] 29 (0, 0)) ∧ VInv w1 B base d l kk y3 (k + 1) (w6.setCell ⟨B, 4, none⟩ (.slice (some ⟨g, 0, none⟩) (k + 1) cp)) (.slice (some ⟨g, 0, none⟩) (k + 1) cp) (cs ++ [c]) (Bi ++ [Bv]) ∧ Below wr.heap.size wr w5 := by
  obtain ⟨h1, h2, h3, h4⟩ := h
  have hz5 := b5.size
  have hz6 := hg.size
  simp at hz6
  have hxlt := h2.2.2.1.lt
  have hBw : B < wr.heap.size := by omega
  have hneB : some B ≠ x.ownBlock := fun e => by have := hxlt B e.symm; omega
  have hV6 : w6.heap[B]? = some (.cells #[.int .i64 kk, .int .i64 0, .slice none 0 0, y3, x] 29 (0, 0)) := (hg.block B (by simp; omega) hneB).trans ((Below.heap_alloc _ _ _ (by omega)).trans ((b5.block B hBw).trans h1))
  have hA := grown1 w6 B 4 (.slice (some ⟨g, 0, none⟩) (k + 1) cp)
  have hR := RW.add (w2 := w5.alloc o) (ItV.agree d l) h2 (fun b hb => (Below.heap_alloc _ _ _ (by omega)).trans (b5.block b hb)) (by simp; omega) (ItV.agree d l _ _ _ _ _ hv fun b hb => Below.heap_alloc _ _ _ (hBv b hb).2) (fun b hb => by have := hBv b hb; simp; omega) hBn h4 hown hg (by simpa using hat)
  refine ⟨hV6, ⟨heap_setCell_same w6 B 4 _ _ _ hV6, ?_, ?_, ?_⟩, b5⟩
  · refine hR.agree (ItV.agree d l) (fun b hb => ?_) (by simp [World.setCell])
    have := hR.2.2.2.2.2 b hb
    exact Below.heap_setCell w6 _ _ b (by show b ≠ B; omega)
  · have hb1 : Below B w1 (w5.alloc o) := (Below.trans h3 (b5.mono (by omega))).alloc (by have := h3.size; omega) o
    have hb2 := hb1.grown hg (by simp; omega) (fun j hj => by have := hxlt j hj; omega)
    exact hb2.grown hA (by omega) (by intro j hj; simp at hj; omega)
  · show base ≤ (w6.setCell _ _).heap.size
    simp [World.setCell]
    omega

/-- What a call of valueOf leaves of it. -/
def VCall (B base : Nat) (d : Nat) (l : List (Vl d)) (k : Nat) (wr : World) (x : Value) (xs : List Value) (e : Ending) (w5 : World) : Prop :=
  ∃ (uk un : Int) (s2 : Option Addr) (n2 r2 : Nat) (s3 : Option Addr) (n3 r3 : Nat) (s4 : Option Addr) (n4 r4 : Nat), e = .returned (.agg #[.int .i64 uk, .int .i64 un, .slice s2 n2 r2, .slice s3 n3 r3, .slice s4 n4 r4]) ∧
    ∃ Bv, ItV d l w5 k [.int .i64 uk, .int .i64 un, .slice s2 n2 r2, .slice s3 n3 r3, .slice s4 n4 r4] Bv ∧ (∀ b ∈ Bv, wr.heap.size ≤ b ∧ b < w5.heap.size) ∧ Bv.Nodup ∧ Below wr.heap.size wr w5 ∧ w5.cell? ⟨B, 4, none⟩ = some x ∧ w5.ownsRow base 29 5 x k xs

theorem vinv_call {w1 wr wy w5 : World} {B base d : Nat} {l : List (Vl d)} {kk : Int} {y3 : Value} {k : Nat} {x : Value} {cs : List (List Value)} {Bi : List (List Nat)} {e : Ending} (h : VInv w1 B base d l kk y3 k wr x cs Bi) (hB : B < base) (hk : k < l.length)
    (hy : Below wr.heap.size wr wy) (he : ValEnd d l[k] wy e w5) : VCall B base d l k wr x cs.flatten e w5 := by
  obtain ⟨u0, u1, u2, u3, u4, rfl, Bv, hv, hb, h5⟩ := he
  obtain ⟨uk, un, s2, n2, r2, s3, n3, r3, s4, n4, r4, rfl, rfl, rfl, rfl, rfl⟩ := VOwn.form d hv
  have hb5 := Below.on hy h5
  have hz := hy.size
  refine ⟨uk, un, s2, n2, r2, s3, n3, r3, s4, n4, r4, rfl, Bv, ⟨_, rfl, hk, hv⟩, fun b hm => ?_, VOwn.nodup d hv, hb5, ?_, ?_⟩
  · have := hb b hm; omega
  · exact (World.cell?_of_block (hb5.block B (by have := h.2.2.2; omega))).trans (row5 h.1).2.2.2.2.1
  · exact h.2.1.2.2.1.kept (row := none) ⟨hb5.os, hb5.tape, hb5.output, hb5.size, fun k hk _ => hb5.block k hk⟩ (by cases hv : x.ownBlock <;> simp)
end Go.Proofs.YteafpgaefphkfaaGreatDoor
/-
  take of the program at lists and maps, and at every value; partOf, ValOk of the program.
-/
namespace Go.Proofs.YteafpgaefphkfaaGreatDoor
open Go.RowKit
set_option linter.unusedVariables false
set_option linter.unusedSimpArgs false

/-- What take says. -/
def TakeEnd (d : Nat) (v : Vl d) (deep n q : Nat) (w : World) (e : Ending) (w' : World) : Prop :=
  w.grownBy w' (some q) ∧ ((∃ p, e = .returned (.tuple #[p, .bool true]) ∧ Took d v deep n q w w' p) ∨ (e = .returned (.tuple #[.nilIface, .bool false]) ∧ ¬ (goodB d v deep = true ∧ n + partsV d v ≤ 40)))

set_option maxHeartbeats 4000000 in
set_option maxRecDepth 100000 in
theorem take_list (d : Nat) (ih : TakeAt d) (N q n : Nat) (x : Value) (vL : List (Vl d)) (a2 a3 : Option Addr) (p2 p3 : Nat) (deep : Nat) (w : World) (hx : LSeg (fun b => b < N) w d x vL) (hNq : N ≤ q) (hq : q < w.heap.size) (hc : Cnt w q n) (hn : n < 40) (hd : deep ≤ 5) :
    Calls Tryz.prog 41 #[.pointer (some ⟨q, 0, none⟩), .agg #[.int .i64 4, .int .i64 0, .slice a2 0 p2, .slice a3 0 p3, x], .int .i64 deep] w (TakeEnd (d + 1) (4, 0, [], [], vL) deep n q w) := by
  have HX := hide' hx
  obtain ⟨a4, p4, rfl, hlc, hcm, ka, _⟩ := hx
  unfold maxLen at hcm
  have HA : Hid (Cnt w q n) := hc
  have HI := hide' ih
  obtain ⟨hc0, hf0⟩ := hc.cell
  have hne : q ≠ w.heap.size := by omega
  have hnn : ¬ (40 : Int) < (n : Int) + 1 := by omega
  have hdd : ¬ (5 : Int) < (deep : Int) := by omega
  clear hc ih
  go_enter Tryz.func41, Tryz.ntmps41
  go_wp2_with fail
  refine (impl_bare_any _ _ _ _ _ _ _ _ _ _ _ _).mono ?_
  rintro e w2 ⟨rfl, b2⟩
  have hA := ahead_of rfl hq HA.out b2
  rw [show bareB 4 0 0 0 vL.length = true from by simp [bareB]]
  obtain ⟨y0, y1, y2, y3, y4, _⟩ := row5 hA.2.2
  have hs2 := hA.1.size
  have hT := takeAll_of d HI.out N q (n + 1) _ vL (deep + 1) w2 (HX.out.agree (agree_grown hA.1 hNq hq)) hNq (by omega) hA.2.1 (by omega) (by omega)
  rw [Int.natCast_add] at hT
  have HT := hide' hT
  have HAh := hide' hA
  clear b2 hA hT
  go_wp2_with fail
  refine HT.out.mono ?_
  rintro e w3 ⟨hg3, hcase⟩
  have hgf := grownBy_trans HAh.out.1 hg3
  rcases hcase with ⟨y, rfl, htook⟩ | ⟨rfl, hbad⟩
  · obtain ⟨hgood, hle, hcnt, a, cap, ps, rfl, hcell, hpp⟩ := htook
    have hG : goodB (d + 1) (4, 0, [], [], vL) deep = true := (good_succ _ _ _ _ _ _ _).2 ⟨hd, by simp [shapeB, bareB], hgood⟩
    have hP := parts_succ d 4 0 [] [] vL
    have hE : Hid (Took (d + 1) (4, 0, [], [], vL) deep n q w w3 (.iface 90 (.agg #[.slice a vL.length cap]))) := by
      have e1 : n + partsV (d + 1) (4, 0, [], [], vL) = n + 1 + pre (partsV d) vL vL.length := by rw [hP]; omega
      refine ⟨hG, by rw [e1]; omega, by rw [e1]; exact hcnt, .inr (.inr (.inr (.inr (.inr (.inl ⟨rfl, a, cap, rfl, ?_⟩)))))⟩
      rcases hcell with h0 | ⟨b, rfl, hb1, hb2, hcc⟩
      · exact .inl h0
      · refine .inr ⟨b, 0, rfl, ⟨by omega, hb2⟩, fun i hi => ⟨ps.getD i .nilIface, by rw [Nat.zero_add]; exact hcc i hi, PSeg.carry (fun b hb => ⟨by omega, hb.2⟩) (fun b _ => rfl) d (hpp i hi)⟩⟩
    clear hgood hle hcnt hcell hpp hG hP y0 y1 y2 y3 y4 HT HAh
    go_wp2
    go_ret2
    exact ⟨hgf, .inl ⟨_, rfl, hE.out⟩⟩
  · have hno : Hid (¬ (goodB (d + 1) (4, 0, [], [], vL) deep = true ∧ n + partsV (d + 1) (4, 0, [], [], vL) ≤ 40)) := fun ⟨h1, h2⟩ => hbad ⟨((good_succ _ _ _ _ _ _ _).1 h1).2.2, by rw [parts_succ] at h2; omega⟩
    clear hbad y0 y1 y2 y3 y4 HT HAh
    go_wp2
    go_ret2
    exact ⟨hgf, .inr ⟨rfl, hno.out⟩⟩

set_option maxHeartbeats 4000000 in
set_option maxRecDepth 100000 in
theorem take_map (d : Nat) (ih : TakeAt d) (N q n : Nat) (z x : Value) (vK : List (List Int)) (vL : List (Vl d)) (a2 : Option Addr) (p2 : Nat) (deep : Nat) (w : World) (hz : KSeg (fun b => b < N) w z vK) (hx : LSeg (fun b => b < N) w d x vL) (hNq : N ≤ q) (hq : q < w.heap.size) (hc : Cnt w q n) (hn : n < 40) (hd : deep ≤ 5) :
    Calls Tryz.prog 41 #[.pointer (some ⟨q, 0, none⟩), .agg #[.int .i64 5, .int .i64 0, .slice a2 0 p2, z, x], .int .i64 deep] w (TakeEnd (d + 1) (5, 0, [], vK, vL) deep n q w) := by
  have HX := hide' hx
  have HZ := hide' hz
  obtain ⟨a4, p4, rfl, hlc, hcm, ka, _⟩ := hx
  obtain ⟨a3, p3, rfl, hlc3, hcm3, ka3, _⟩ := hz
  unfold maxLen at hcm hcm3
  have HA : Hid (Cnt w q n) := hc
  have HI := hide' ih
  obtain ⟨hc0, hf0⟩ := hc.cell
  have hne : q ≠ w.heap.size := by omega
  have hnn : ¬ (40 : Int) < (n : Int) + 1 := by omega
  have hdd : ¬ (5 : Int) < (deep : Int) := by omega
  clear hc ih
  go_enter Tryz.func41, Tryz.ntmps41
  go_wp2_with fail
  refine (impl_bare_any _ _ _ _ _ _ _ _ _ _ _ _).mono ?_
  rintro e w2 ⟨rfl, b2⟩
  have hA := ahead_of rfl hq HA.out b2
  rw [show bareB 5 0 0 vK.length vL.length = true from by simp [bareB]]
  obtain ⟨y0, y1, y2, y3, y4, _⟩ := row5 hA.2.2
  have hs2 := hA.1.size
  have HT := hide' (takeMap_of d HI.out N q (n + 1) 5 0 a2 0 p2 _ _ vK vL deep w2 (HZ.out.agree (agree_grown hA.1 hNq hq)) (HX.out.agree (agree_grown hA.1 hNq hq)) hNq (by omega) hA.2.1 (by omega) hd)
  have HAh := hide' hA
  clear b2 hA
  go_wp2_with fail
  refine HT.out.mono ?_
  rintro e w3 ⟨hg3, hcase⟩
  have hgf := grownBy_trans HAh.out.1 hg3
  have hP := parts_succ d 5 0 [] vK vL
  rcases hcase with ⟨y, rfl, hkl, has, hgood, hle, hcnt, hps⟩ | ⟨rfl, hbad⟩
  · have hG : goodB (d + 1) (5, 0, [], vK, vL) deep = true := (good_succ _ _ _ _ _ _ _).2 ⟨hd, by rw [shape_map hkl]; exact has, hgood⟩
    have hE : Hid (Took (d + 1) (5, 0, [], vK, vL) deep n q w w3 y) := by
      have e1 : n + partsV (d + 1) (5, 0, [], vK, vL) = n + 1 + pre (partsV d) vL vL.length := by rw [hP]; omega
      exact ⟨hG, by rw [e1]; omega, by rw [e1]; exact hcnt, PSeg.carry (fun b hb => ⟨by omega, hb.2⟩) (fun b _ => rfl) (d + 1) hps⟩
    clear hgood hle hcnt hps hG hP has hkl y0 y1 y2 y3 y4 HT HAh
    go_wp2
    go_ret2
    exact ⟨hgf, .inl ⟨_, rfl, hE.out⟩⟩
  · have hno : Hid (¬ (goodB (d + 1) (5, 0, [], vK, vL) deep = true ∧ n + partsV (d + 1) (5, 0, [], vK, vL) ≤ 40)) := fun ⟨h1, h2⟩ => hbad (by
      obtain ⟨_, g2, g3⟩ := (good_succ _ _ _ _ _ _ _).1 h1
      by_cases hkl : vK.length = vL.length
      · rw [shape_map hkl] at g2
        exact ⟨hkl, g2, g3, by rw [hP] at h2; omega⟩
      · rw [shape_map_no hkl] at g2
        simp at g2)
    clear hbad hP y0 y1 y2 y3 y4 HT HAh
    go_wp2
    go_ret2
    exact ⟨hgf, .inr ⟨rfl, hno.out⟩⟩
end Go.Proofs.YteafpgaefphkfaaGreatDoor
/-
  take, partOf of the program, at every value.
-/
namespace Go.Proofs.YteafpgaefphkfaaGreatDoor
open Go.RowKit
set_option linter.unusedVariables false
set_option linter.unusedSimpArgs false

/-- A leaf that was taken in. -/
theorem took_leaf {d : Nat} {vk vn : Int} {vs : List Int} {vK : List (List Int)} {deep n q : Nat} {w : World} {a2 a3 a4 : Option Addr} {l2 l3 l4 p2 p3 p4 : Nat} {p : Value} (hd : deep ≤ 5) (hn : n < 40) (hs : shapeB vk vn vs vK 0 = true)
    (hp : ∀ R w', PSeg R w' (d + 1) p (vk, vn, vs, vK, [])) (e : Ending) (w' : World) (h : Ahead w q n vk vn a2 a3 a4 l2 l3 l4 p2 p3 p4 w' ∧ e = .returned (.tuple #[p, .bool true])) : TakeEnd (d + 1) (vk, vn, vs, vK, []) deep n q w e w' := by
  obtain ⟨hA, rfl⟩ := h
  have e1 : partsV (d + 1) (vk, vn, vs, vK, []) = 1 := by rw [parts_succ]; simp [pre]
  refine ⟨hA.1, .inl ⟨p, rfl, (good_succ _ _ _ _ _ _ _).2 ⟨hd, by simpa using hs, fun j h => by simp at h⟩, by rw [e1]; omega, by rw [e1]; exact hA.2.1, hp _ _⟩⟩

theorem no_take {d : Nat} {v : Vl d} {deep n q : Nat} {w : World} {vk vn : Int} {a2 a3 a4 : Option Addr} {l2 l3 l4 p2 p3 p4 : Nat} (hno : ¬ (goodB d v deep = true ∧ n + partsV d v ≤ 40)) (e : Ending) (w' : World) (h : Ahead w q n vk vn a2 a3 a4 l2 l3 l4 p2 p3 p4 w' ∧ e = .returned (.tuple #[.nilIface, .bool false])) : TakeEnd d v deep n q w e w' := by
  obtain ⟨hA, rfl⟩ := h
  exact ⟨hA.1, .inr ⟨rfl, hno⟩⟩

theorem bad_shape {d : Nat} {vk vn : Int} {vs : List Int} {vK : List (List Int)} {vL : List (Vl d)} {deep n : Nat} (h : shapeB vk vn vs vK vL.length = false) : ¬ (goodB (d + 1) (vk, vn, vs, vK, vL) deep = true ∧ n + partsV (d + 1) (vk, vn, vs, vK, vL) ≤ 40) := fun ⟨h1, _⟩ => by
  have := ((good_succ _ _ _ _ _ _ _).1 h1).2.1
  rw [h] at this
  simp at this

set_option maxHeartbeats 1600000 in
theorem take_succ (d : Nat) (ih : TakeAt d) : TakeAt (d + 1) := by
  intro N q n c v deep w hv hNq hq hc hn hd
  show Calls _ _ _ _ (TakeEnd (d + 1) v deep n q w)
  obtain ⟨c0, c1, c2, c3, c4⟩ := c
  obtain ⟨vk, vn, vs, vK, vL⟩ := v
  obtain ⟨e0, e1, ht, hk, hl⟩ := (VSeg_succ _ _ _ _ _).1 hv
  simp only at e0 e1 ht hk hl
  subst e0
  subst e1
  clear hv
  simp only
  have HT := ht
  have HK := hk
  have HL := hl
  obtain ⟨a2, p2, rfl, s2, l2, m2, _, _⟩ := ht
  obtain ⟨a3, p3, rfl, _, _, _, _⟩ := hk
  obtain ⟨a4, p4, rfl, _, _, _, _⟩ := hl
  by_cases q1 : n = 40
  · refine (take_over q n vk vn a2 a3 a4 _ _ _ p2 p3 p4 deep w hq hc q1).mono fun e w' h => ⟨h.1, .inr ⟨h.2, fun ⟨_, h2⟩ => ?_⟩⟩
    have := parts_pos d (vk, vn, vs, vK, vL)
    omega
  have hn' : n < 40 := by omega
  by_cases q2 : 5 < deep
  · refine (take_deep q n vk vn _ _ _ a2 a3 a4 p2 p3 p4 deep w hq hc hn' q2).mono (no_take fun ⟨h1, _⟩ => ?_)
    have := ((good_succ _ _ _ _ _ _ _).1 h1).1
    omega
  have hD1 : deep ≤ 5 := by omega
  by_cases q3 : bareB vk vn vs.length vK.length vL.length = false
  · exact (take_bare q n vk vn _ _ _ a2 a3 a4 p2 p3 p4 deep w hq hc hn' hD1 q3).mono (no_take (bad_shape (by simp [shapeB, q3])))
  have q4 : bareB vk vn vs.length vK.length vL.length = true := by simpa using q3
  clear q1 q2 q3
  by_cases k0 : vk = 0
  · subst k0
    have : vn = 0 ∧ vs = [] ∧ vK = [] ∧ vL = [] := by simp [bareB] at q4; simpa [and_assoc] using q4
    obtain ⟨rfl, rfl, rfl, rfl⟩ := this
    exact (take_null q n a2 a3 a4 p2 p3 p4 deep w hq hc hn' hD1).mono (took_leaf hD1 hn' (by simp [shapeB, bareB]) fun R w' => .inl ⟨rfl, rfl⟩)
  by_cases k6 : vk = 6
  · subst k6
    have : vn = 0 ∧ vs = [] ∧ vK = [] ∧ vL = [] := by simp [bareB] at q4; simpa [and_assoc] using q4
    obtain ⟨rfl, rfl, rfl, rfl⟩ := this
    exact (take_unknown q n a2 a3 a4 p2 p3 p4 deep w hq hc hn' hD1).mono (took_leaf hD1 hn' (by simp [shapeB, bareB]) fun R w' => .inr (.inl ⟨rfl, rfl⟩))
  by_cases k1 : vk = 1
  · subst k1
    have : vs = [] ∧ vK = [] ∧ vL = [] := by simp [bareB] at q4; simpa [and_assoc] using q4
    obtain ⟨rfl, rfl, rfl⟩ := this
    by_cases v0 : vn = 0
    · subst v0
      exact (take_bool0 q n a2 a3 a4 p2 p3 p4 deep w hq hc hn' hD1).mono (took_leaf hD1 hn' (by simp [shapeB, bareB]) fun R w' => .inr (.inr (.inl ⟨rfl, rfl⟩)))
    by_cases v1 : vn = 1
    · subst v1
      exact (take_bool1 q n a2 a3 a4 p2 p3 p4 deep w hq hc hn' hD1).mono (took_leaf hD1 hn' (by simp [shapeB, bareB]) fun R w' => .inr (.inr (.inl ⟨rfl, rfl⟩)))
    · exact (take_boolno q n vn v0 v1 a2 a3 a4 p2 p3 p4 deep w hq hc hn' hD1).mono (no_take (bad_shape (by simp [shapeB, bareB, v0, v1])))
  by_cases k2 : vk = 2
  · subst k2
    have : vs = [] ∧ vK = [] ∧ vL = [] := by simp [bareB] at q4; simpa [and_assoc] using q4
    obtain ⟨rfl, rfl, rfl⟩ := this
    by_cases v0 : -1000000000000 ≤ vn
    · by_cases v1 : vn ≤ 1000000000000
      · exact (take_int q n vn v0 v1 a2 a3 a4 p2 p3 p4 deep w hq hc hn' hD1).mono (took_leaf hD1 hn' (by simp [shapeB, bareB, intB, v0, v1]) fun R w' => .inr (.inr (.inr (.inl ⟨rfl, rfl⟩))))
      · exact (take_inthigh q n vn v0 v1 a2 a3 a4 p2 p3 p4 deep w hq hc hn' hD1).mono (no_take (bad_shape (by simp [shapeB, bareB, intB, v1])))
    · exact (take_intlow q n vn v0 a2 a3 a4 p2 p3 p4 deep w hq hc hn' hD1).mono (no_take (bad_shape (by simp [shapeB, bareB, intB, v0])))
  by_cases k3 : vk = 3
  · subst k3
    have : vn = 0 ∧ vK = [] ∧ vL = [] := by simp [bareB] at q4; simpa [and_assoc] using q4
    obtain ⟨rfl, rfl, rfl⟩ := this
    cases htb : textB vs with
    | true => exact (take_text q n N vs hNq a2 a3 a4 p2 p3 p4 deep w hq hc hn' hD1 HT htb).mono (took_leaf hD1 hn' (by simp [shapeB, bareB, htb]) fun R w' => .inr (.inr (.inr (.inr (.inl ⟨rfl, rfl⟩)))))
    | false => exact (take_textno q n N vs hNq a2 a3 a4 p2 p3 p4 deep w hq hc hn' hD1 HT htb).mono (no_take (bad_shape (by simp [shapeB, bareB, htb])))
  by_cases k4 : vk = 4
  · subst k4
    have : vn = 0 ∧ vs = [] ∧ vK = [] := by simp [bareB] at q4; simpa [and_assoc] using q4
    obtain ⟨rfl, rfl, rfl⟩ := this
    exact take_list d ih N q n _ vL a2 a3 p2 p3 deep w HL hNq hq hc hn' hD1
  by_cases k5 : vk = 5
  · subst k5
    have : vn = 0 ∧ vs = [] := by simp [bareB] at q4; simpa [and_assoc] using q4
    obtain ⟨rfl, rfl⟩ := this
    exact take_map d ih N q n _ _ vK vL a2 p2 deep w HK HL hNq hq hc hn' hD1
  · have : vn = 0 ∧ vs = [] ∧ vK = [] ∧ vL = [] := by simp [bareB, k1, k2, k3, k4, k5] at q4; simpa [and_assoc] using q4
    obtain ⟨rfl, rfl, rfl, rfl⟩ := this
    exact (take_none q n vk k0 k1 k2 k3 k4 k5 k6 a2 a3 a4 p2 p3 p4 deep w hq hc hn' hD1).mono (no_take (bad_shape (by simp [shapeB, bareB, k0, k1, k2, k3, k4, k5, k6])))

theorem take_any (d : Nat) : TakeAt d := by
  induction d with
  | zero => intro N q n c v deep w hv; exact hv.elim
  | succ d ih => exact take_succ d ih

/-- What partOf says. -/
def PartEnd (d : Nat) (v : Vl d) (w : World) (e : Ending) (w' : World) : Prop :=
  Below w.heap.size w w' ∧ ((∃ p, e = .returned (.tuple #[p, .bool true]) ∧ okB d v = true ∧ PSeg (fun b => w.heap.size ≤ b ∧ b < w'.heap.size) w' d p v) ∨ (e = .returned (.tuple #[.nilIface, .bool false]) ∧ okB d v = false))

set_option maxHeartbeats 1600000 in
theorem partOf_any (d N : Nat) (c0 c1 c2 c3 c4 : Value) (v : Vl d) (w : World) (hv : VSeg (fun b => b < N) w d (c0, c1, c2, c3, c4) v) (hN : N ≤ w.heap.size) :
    Calls Tryz.prog 26 #[.agg #[c0, c1, c2, c3, c4]] w (PartEnd d v w) := by
  have b0 : ∀ o o' : Obj, Below w.heap.size w ((w.alloc o).alloc o') := fun o o' => ((Below.refl _ _).alloc (Nat.le_refl _) o).alloc (by simp) o'
  have HC : Hid (∀ o : Obj, Calls Tryz.prog 41 #[.pointer (some ⟨w.heap.size + 1, 0, none⟩), .agg #[c0, c1, c2, c3, c4], .int .i64 1] ((w.alloc o).alloc (.cells #[.int .i64 0] 79)) (TakeEnd d v 1 0 (w.heap.size + 1) ((w.alloc o).alloc (.cells #[.int .i64 0] 79)))) := fun o =>
    take_any d N (w.heap.size + 1) 0 (c0, c1, c2, c3, c4) v 1 ((w.alloc o).alloc (.cells #[.int .i64 0] 79)) (VSeg.agree (agree_below ((b0 o _).mono hN)) d hv) (by omega) (by rw [size2]; omega) (two_boxes w o _).2 (by omega) (by omega)
  have Hb := hide' b0
  have hsz := fun o o' => size2 w o o'
  have Hsz := hide' hsz
  clear b0 hsz
  go_enter Tryz.func26, Tryz.ntmps26
  go_wp2_with fail
  refine (HC.out _).mono ?_
  rintro e w1 ⟨hg1, hcase⟩
  have hB1 := (Hb.out _ _).grown hg1 (by rw [Hsz.out]; omega) (by intro j hj; simp at hj; omega)
  rcases hcase with ⟨p, rfl, h1, h2, h3, h4⟩ | ⟨rfl, hno⟩
  · have hE : Hid (okB d v = true ∧ PSeg (fun b => w.heap.size ≤ b ∧ b < w1.heap.size) w1 d p v) := ⟨by simp [okB, h1]; omega, PSeg.carry (fun b hb => ⟨by have := hb.1; rw [Hsz.out] at this; omega, hb.2⟩) (fun b _ => rfl) d h4⟩
    clear h1 h2 h3 h4 hg1
    go_wp2
    go_ret2
    exact ⟨hB1, .inl ⟨_, rfl, hE.out⟩⟩
  · have hE : Hid (okB d v = false) := by
      show okB d v = false
      cases h : okB d v with
      | false => rfl
      | true => simp [okB] at h; exact absurd ⟨h.1, by omega⟩ hno
    clear hno hg1
    go_wp2
    go_ret2
    exact ⟨hB1, .inr ⟨rfl, hE.out⟩⟩

end Go.Proofs.YteafpgaefphkfaaGreatDoor
/-
  mapOf of the program.
-/
namespace Go.Proofs.YteafpgaefphkfaaGreatDoor
open Go.RowKit
set_option linter.unusedVariables false
set_option linter.unusedSimpArgs false

theorem nomap_boolPart (x : Value) (w : World) : (Instr.typeAssert (.iface 84 x) 55 93 true).run Tryz.prog w = .ok (.tuple #[.agg #[.map none], .bool false]) w := by kernel_rfl
theorem nomap_intPart (x : Value) (w : World) : (Instr.typeAssert (.iface 85 x) 55 93 true).run Tryz.prog w = .ok (.tuple #[.agg #[.map none], .bool false]) w := by kernel_rfl
theorem nomap_textPart (x : Value) (w : World) : (Instr.typeAssert (.iface 87 x) 55 93 true).run Tryz.prog w = .ok (.tuple #[.agg #[.map none], .bool false]) w := by kernel_rfl
theorem nomap_nil (w : World) : (Instr.typeAssert .nilIface 55 93 true).run Tryz.prog w = .ok (.tuple #[.agg #[.map none], .bool false]) w := by kernel_rfl

end Go.Proofs.YteafpgaefphkfaaGreatDoor
