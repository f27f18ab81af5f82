/-
  Texts that a law leans on, one behind the other; no statement is proved here.
-/
import Derived.Test.YteafpgaefphkfaaGreatDoorPk31
import Derived.Test.YteafpgaefphkfaaGreatDoorPk12
import Derived.Laws.IdiomStrings
import Derived.Test.YteafpgaefphkfaaGreatDoorPk25
import Derived.Test.YteafpgaefphkfaaGreatDoorPk33
import Derived.Deep.RegionHeld3
import Derived.Test.YteafpgaefphkfaaGreatDoorPk24
import Derived.Test.YteafpgaefphkfaaGreatDoorPk28
/-
  valueOf of the program at a map: what its rounds leave.
-/
namespace Go.Proofs.YteafpgaefphkfaaGreatDoor
open Go.RowKit Go.Shelf
set_option linter.unusedVariables false
set_option linter.unusedSimpArgs false

/-- After some rounds: V's box (block B) holds kK texts and kL values of the call's own, in blocks of their own from w2's end on. -/
def MInv (w2 : World) (B d : Nat) (l : List (Vl d)) (ks : List (List Int)) (kK kL : Nat) (wr : World) (xK : Value) (csK : List (List Value)) (BiK : List (List Nat)) (xL : Value) (csL : List (List Value)) (BiL : List (List Nat)) : Prop :=
  w2.grownBy wr (some B) ∧ wr.heap[B]? = some (.cells #[.int .i64 5, .int .i64 0, .slice none 0 0, xK, xL] 29 (0, 0)) ∧ RW 22 1 (ItK ks) wr w2.heap.size xK kK csK BiK ∧ RW 29 5 (ItV d l) wr w2.heap.size xL kL csL BiL ∧
    ∀ b ∈ xK.ownBlock.toList ++ BiK.flatten, b ∉ xL.ownBlock.toList ++ BiL.flatten

variable {w2 wr wB w6 : World} {B d : Nat} {l : List (Vl d)} {ks : List (List Int)} {k kL kK : Nat} {xK xL : Value} {csK csL : List (List Value)} {BiK BiL : List (List Nat)} {c : List Value} {Bv : List Nat} {g cp : Nat} {o : Obj}

theorem minv_k (h : MInv w2 B d l ks k kL wr xK csK BiK xL csL BiL) (hB : B < w2.heap.size) (b5 : Below wr.heap.size wr wB) (hv : ItK ks wB k c Bv) (hBv : ∀ b ∈ Bv, wr.heap.size ≤ b ∧ b < wB.heap.size) (hBn : Bv.Nodup)
    (hown : w6.ownsRow w2.heap.size 22 1 (.slice (some ⟨g, 0, none⟩) (k + 1) cp) (k + 1) (csK.flatten ++ c)) (hg : (wB.alloc o).grownBy w6 xK.ownBlock) (hat : xK.ownBlock = some g ∨ g = wB.heap.size + 1) :
    w6.heap[B]? = some (.cells #[.int .i64 5, .int .i64 0, .slice none 0 0, xK, xL] 29 (0, 0)) ∧ wr.heap.size ≤ w6.heap.size ∧ (∀ b, wr.heap.size ≤ b → b < wB.heap.size → w6.heap[b]? = wB.heap[b]?) ∧
      MInv w2 B d l ks (k + 1) kL (w6.setCell ⟨B, 3, none⟩ (.slice (some ⟨g, 0, none⟩) (k + 1) cp)) (.slice (some ⟨g, 0, none⟩) (k + 1) cp) (csK ++ [c]) (BiK ++ [Bv]) xL csL BiL := by
  obtain ⟨h1, h2, h3, h4, h5⟩ := h
  have hz1 := h1.size
  have hz5 := b5.size
  have hz6 := hg.size
  simp at hz6
  have hxlt := h3.2.2.1.lt
  have hneB : some B ≠ xK.ownBlock := fun e => by have := hxlt B e.symm; omega
  have hV6 : w6.heap[B]? = some (.cells #[.int .i64 5, .int .i64 0, .slice none 0 0, xK, xL] 29 (0, 0)) := (hg.block B (by simp; omega) hneB).trans ((Below.heap_alloc _ _ _ (by omega)).trans ((b5.block B (by omega)).trans h2))
  have hA := grown1 w6 B 3 (.slice (some ⟨g, 0, none⟩) (k + 1) cp)
  have hsA : (w6.setCell ⟨B, 3, none⟩ (.slice (some ⟨g, 0, none⟩) (k + 1) cp)).heap.size = w6.heap.size := by simp [World.setCell]
  have hR := RW.add (w2 := wB.alloc o) (ItK.agree ks) h3 (fun b hb => (Below.heap_alloc _ _ _ (by omega)).trans (b5.block b hb)) (by simp; omega) (ItK.agree ks _ _ _ _ _ hv fun b hb => Below.heap_alloc _ _ _ (hBv b hb).2) (fun b hb => by have := hBv b hb; simp; omega) hBn hz1 hown hg (by simpa using hat)
  have hLb := h4.2.2.2.2.2
  have hLK : ∀ b ∈ xL.ownBlock.toList ++ BiL.flatten, some b ≠ xK.ownBlock := fun b hb e => h5 b (by simp [← e]) hb
  refine ⟨hV6, by omega, fun b hb1 hb2 => (hg.block b (by simp; omega) (fun e => by have := hxlt b e.symm; omega)).trans (Below.heap_alloc _ _ _ hb2), ⟨?_, heap_setCell_same w6 B 3 _ _ _ hV6, ?_, ?_, ?_⟩⟩
  · refine ⟨h1.os ▸ b5.os ▸ hg.os ▸ rfl, h1.tape ▸ b5.tape ▸ hg.tape ▸ rfl, h1.output ▸ b5.output ▸ hg.output ▸ rfl, by omega, fun b hb hne => ?_⟩
    exact (hA.block b (by omega) hne).trans ((hg.block b (by simp; omega) (fun e => by have := hxlt b e.symm; omega)).trans ((Below.heap_alloc _ _ _ (by omega)).trans ((b5.block b (by omega)).trans (h1.block b hb hne))))
  · refine hR.agree (ItK.agree ks) (fun b hb => ?_) (by omega)
    have := hR.2.2.2.2.2 b hb
    exact Below.heap_setCell w6 _ _ b (by show b ≠ B; omega)
  · refine h4.agree (ItV.agree d l) (fun b hb => ?_) (by omega)
    have hb' := hLb b hb
    exact (Below.heap_setCell w6 ⟨B, 3, none⟩ _ b (by show b ≠ B; omega)).trans ((hg.block b (by simp; omega) (hLK b hb)).trans ((Below.heap_alloc _ _ _ (by omega)).trans (b5.block b hb'.2)))
  · intro b hb hbL
    have hb' := hLb b hbL
    simp only [Value.ownBlock, Option.toList_some, List.flatten_append, List.flatten_singleton, List.singleton_append, List.mem_cons, List.mem_append] at hb
    rcases hb with rfl | hb | hb
    · rcases hat with hx | hx
      · exact h5 b (by simp [hx]) hbL
      · omega
    · exact h5 b (by simp [hb]) hbL
    · have := hBv b hb; omega

theorem minv_l (h : MInv w2 B d l ks kK k wr xK csK BiK xL csL BiL) (hB : B < w2.heap.size) (b5 : Below wr.heap.size wr wB) (hv : ItV d l wB k c Bv) (hBv : ∀ b ∈ Bv, wr.heap.size ≤ b ∧ b < wB.heap.size) (hBn : Bv.Nodup)
    (hown : w6.ownsRow w2.heap.size 29 5 (.slice (some ⟨g, 0, none⟩) (k + 1) cp) (k + 1) (csL.flatten ++ c)) (hg : (wB.alloc o).grownBy w6 xL.ownBlock) (hat : xL.ownBlock = some g ∨ g = wB.heap.size + 1) :
    w6.heap[B]? = some (.cells #[.int .i64 5, .int .i64 0, .slice none 0 0, xK, xL] 29 (0, 0)) ∧
      MInv w2 B d l ks kK (k + 1) (w6.setCell ⟨B, 4, none⟩ (.slice (some ⟨g, 0, none⟩) (k + 1) cp)) xK csK BiK (.slice (some ⟨g, 0, none⟩) (k + 1) cp) (csL ++ [c]) (BiL ++ [Bv]) := by
  obtain ⟨h1, h2, h3, h4, h5⟩ := h
  have hz1 := h1.size
  have hz5 := b5.size
  have hz6 := hg.size
  simp at hz6
  have hxlt := h4.2.2.1.lt
  have hneB : some B ≠ xL.ownBlock := fun e => by have := hxlt B e.symm; omega
  have hV6 : w6.heap[B]? = some (.cells #[.int .i64 5, .int .i64 0, .slice none 0 0, xK, xL] 29 (0, 0)) := (hg.block B (by simp; omega) hneB).trans ((Below.heap_alloc _ _ _ (by omega)).trans ((b5.block B (by omega)).trans h2))
  have hA := grown1 w6 B 4 (.slice (some ⟨g, 0, none⟩) (k + 1) cp)
  have hsA : (w6.setCell ⟨B, 4, none⟩ (.slice (some ⟨g, 0, none⟩) (k + 1) cp)).heap.size = w6.heap.size := by simp [World.setCell]
  have hR := RW.add (w2 := wB.alloc o) (ItV.agree d l) h4 (fun b hb => (Below.heap_alloc _ _ _ (by omega)).trans (b5.block b hb)) (by simp; omega) (ItV.agree d l _ _ _ _ _ hv fun b hb => Below.heap_alloc _ _ _ (hBv b hb).2) (fun b hb => by have := hBv b hb; simp; omega) hBn hz1 hown hg (by simpa using hat)
  have hKb := h3.2.2.2.2.2
  have hKL : ∀ b ∈ xK.ownBlock.toList ++ BiK.flatten, some b ≠ xL.ownBlock := fun b hb e => h5 b hb (by simp [← e])
  refine ⟨hV6, ?_, heap_setCell_same w6 B 4 _ _ _ hV6, ?_, ?_, ?_⟩
  · refine ⟨h1.os ▸ b5.os ▸ hg.os ▸ rfl, h1.tape ▸ b5.tape ▸ hg.tape ▸ rfl, h1.output ▸ b5.output ▸ hg.output ▸ rfl, by omega, fun b hb hne => ?_⟩
    exact (hA.block b (by omega) hne).trans ((hg.block b (by simp; omega) (fun e => by have := hxlt b e.symm; omega)).trans ((Below.heap_alloc _ _ _ (by omega)).trans ((b5.block b (by omega)).trans (h1.block b hb hne))))
  · refine h3.agree (ItK.agree ks) (fun b hb => ?_) (by omega)
    have hb' := hKb b hb
    exact (Below.heap_setCell w6 ⟨B, 4, none⟩ _ b (by show b ≠ B; omega)).trans ((hg.block b (by simp; omega) (hKL b hb)).trans ((Below.heap_alloc _ _ _ (by omega)).trans (b5.block b hb'.2)))
  · refine hR.agree (ItV.agree d l) (fun b hb => ?_) (by omega)
    have := hR.2.2.2.2.2 b hb
    exact Below.heap_setCell w6 _ _ b (by show b ≠ B; omega)
  · intro b hb hbL
    have hb' := hKb b hb
    simp only [Value.ownBlock, Option.toList_some, List.flatten_append, List.flatten_singleton, List.singleton_append, List.mem_cons, List.mem_append] at hbL
    rcases hbL with rfl | hbL | hbL
    · rcases hat with hx | hx
      · exact h5 b hb (by simp [hx])
      · omega
    · exact h5 b hb (by simp [hbL])
    · have := hBv b hbL; omega

theorem minv_call {wy w5 : World} {e : Ending} (h : MInv w2 B d l ks kK k wr xK csK BiK xL csL BiL) (hB : B < w2.heap.size) (hk : k < l.length) (hy : Below wr.heap.size wr wy) (he : ValEnd d l[k] wy e w5) : VCall B w2.heap.size d l k wr xL csL.flatten e w5 := by
  obtain ⟨u0, u1, u2, u3, u4, rfl, Bv, hv, hb, h5⟩ := he
  obtain ⟨uk, un, s2, n2, r2, s3, n3, r3, s4, n4, r4, rfl, rfl, rfl, rfl, rfl⟩ := VOwn.form d hv
  have hb5 := Below.on hy h5
  have hz := hy.size
  refine ⟨uk, un, s2, n2, r2, s3, n3, r3, s4, n4, r4, rfl, Bv, ⟨_, rfl, hk, hv⟩, fun b hm => ?_, VOwn.nodup d hv, hb5, ?_, ?_⟩
  · have := hb b hm; omega
  · exact (World.cell?_of_block (hb5.block B (by have := h.1.size; omega))).trans (row5 h.2.1).2.2.2.2.1
  · exact h.2.2.2.1.2.2.1.kept (row := none) ⟨hb5.os, hb5.tape, hb5.output, hb5.size, fun k hk _ => hb5.block k hk⟩ (by cases hv : xL.ownBlock <;> simp)

/-- What valueOf leaves of a map. -/
def MapEnd (d : Nat) (l : List (Vl d)) (ks : List (List Int)) (w : World) (e : Ending) (w' : World) : Prop :=
  ∃ uK uL, e = .returned (.agg #[.int .i64 5, .int .i64 0, .slice none 0 0, uK, uL]) ∧ ∃ Bk Bl, KOwn w' uK ks Bk ∧ LOwn w' d uL l Bl ∧ (∀ b ∈ Bk ++ Bl, w.heap.size ≤ b ∧ b < w'.heap.size) ∧ (Bk ++ Bl).Nodup ∧ Below w.heap.size w w'
end Go.Proofs.YteafpgaefphkfaaGreatDoor
/-
  cmpFields, slices.CompareFunc over fields, cmpParts at lists and maps; cmpParts at every depth.
-/
namespace Go.Proofs.YteafpgaefphkfaaGreatDoor
open Go.RowKit
set_option linter.unusedVariables false
set_option linter.unusedSimpArgs false

/-- A row of fields, read place by place. -/
theorem FRow.at {w : World} {a : Option Addr} {n c : Nat} {vK : List (List Int)} {ps : List Value} {n' : Nat} (h : FRow w (.slice a n c) vK ps n') {k : Nat} (hk : k < n') : ∃ g, a = some ⟨g, 0, none⟩ ∧ g < w.heap.size ∧ w.cell? ⟨g, k * 2, none⟩ = some (.string (strOf (vK.getD k []))) ∧ w.cell? ⟨g, k * 2 + 1, none⟩ = some (ps.getD k .nilIface) := by
  obtain ⟨a', c', e, _, _, hc⟩ := h
  simp only [Value.slice.injEq] at e
  obtain ⟨rfl, _, _⟩ := e
  rcases hc with h0 | ⟨g, rfl, hg, hc⟩
  · omega
  · exact ⟨g, rfl, hg, (hc k hk).1, (hc k hk).2⟩

theorem FRow.grow {w w' : World} {u : Value} {vK : List (List Int)} {ps : List Value} {n : Nat} (h : FRow w u vK ps n) (hb : Below w.heap.size w w') : FRow w' u vK ps n := by
  obtain ⟨a, c, e, h1, h2, hc⟩ := h
  refine ⟨a, c, e, h1, h2, ?_⟩
  rcases hc with h0 | ⟨g, rfl, hg, hc⟩
  · exact .inl h0
  · exact .inr ⟨g, rfl, Nat.lt_of_lt_of_le hg hb.size, fun i hi => ⟨(World.cell?_of_block (hb.block g hg)).trans (hc i hi).1, (World.cell?_of_block (hb.block g hg)).trans (hc i hi).2⟩⟩

end Go.Proofs.YteafpgaefphkfaaGreatDoor
/-
  cmpParts of the program at every depth.
-/
namespace Go.Proofs.YteafpgaefphkfaaGreatDoor
open Go.RowKit
set_option linter.unusedVariables false
set_option linter.unusedSimpArgs false

end Go.Proofs.YteafpgaefphkfaaGreatDoor
/-
  FnExactValCmp answers true, whatever two values it is handed; it makes new memory and turns nothing old.
-/
namespace Go.Proofs.YteafpgaefphkfaaGreatDoor
open Go.RowKit
set_option linter.unusedVariables false
set_option linter.unusedSimpArgs false

theorem rows2 {w wx : World} {o o' : Obj} (h : Below ((w.alloc o).alloc o').heap.size ((w.alloc o).alloc o') wx) : wx.heap[w.heap.size]? = some o ∧ wx.heap[w.heap.size + 1]? = some o' := by
  obtain ⟨h1, h2⟩ := two_boxes w o o'
  have hz := size2 w o o'
  exact ⟨(h.block _ (by omega)).trans h1, (h.block _ (by omega)).trans h2⟩

theorem VOwn.at {w w' : World} {d : Nat} {c : Value × Value × Value × Value × Value} {v : Vl d} {B : List Nat} (h : VOwn w d c v B) (hb : Below w.heap.size w w') : VSeg (fun b => b < w.heap.size) w' d c v :=
  VSeg.agree (agree_below hb) d (VSeg.mono (fun b hb => VOwn.lt d h b hb) d (VOwn.seg d h))

end Go.Proofs.YteafpgaefphkfaaGreatDoor
/-
  Good values that are alike have the same bytes. Plain mathematics.
-/
namespace Go.Proofs.YteafpgaefphkfaaGreatDoor
open Go.RowKit
set_option linter.unusedVariables false
set_option linter.unusedSimpArgs false

end Go.Proofs.YteafpgaefphkfaaGreatDoor
