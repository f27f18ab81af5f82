/-
  Texts that a law leans on, one behind the other; no statement is proved here.
-/
import Derived.Test.YthnkedbmfhokiaaGreatDoorPk47
import Derived.Test.YthnkedbmfhokiaaGreatDoorPk1
import Derived.Test.YthnkedbmfhokiaaGreatDoorPk32
import Derived.Test.YthnkedbmfhokiaaGreatDoorPk48
import Derived.Test.YthnkedbmfhokiaaGreatDoorPk12
import Derived.Test.YthnkedbmfhokiaaGreatDoorPk21
import Derived.Deep.RegionLaw
import Derived.Deep.CutRange
/-
  Drawing values of which it is known that they are good: what stands meanwhile. No statement is proved here.
-/
namespace Go.Proofs.YthnkedbmfhokiaaGreatDoor
open Go.RowKit
set_option linter.unusedVariables false
set_option linter.unusedSimpArgs false

section
variable {g : Nat} {a : Option Addr} {cap : Nat} {cs : List Int} {w wf : World} {n : Nat}

/-- What a draw leaves: a good value in new memory. -/
def DxEnd (n g : Nat) (a : Option Addr) (cap : Nat) (cs : List Int) (w : World) (e : Ending) (w' : World) : Prop :=
  ∃ (uk un : Int) (s2 : Option Addr) (n2 r2 : Nat) (s3 : Option Addr) (n3 r3 : Nat) (s4 : Option Addr) (n4 r4 : Nat), e = .returned (.agg #[.int .i64 uk, .int .i64 un, .slice s2 n2 r2, .slice s3 n3 r3, .slice s4 n4 r4]) ∧
    (∃ v : Vl (n + 1), VSeg (fun b => w.heap.size ≤ b ∧ b < w'.heap.size) w' (n + 1) (.int .i64 uk, .int .i64 un, .slice s2 n2 r2, .slice s3 n3 r3, .slice s4 n4 r4) v ∧ GoodD n v) ∧ Drw w' g a cap cs ∧ w.grownBy w' (some g)

theorem dx_end {uk un : Int} {s2 : Option Addr} {n2 r2 : Nat} {s3 : Option Addr} {n3 r3 : Nat} {s4 : Option Addr} {n4 r4 : Nat} (hd : Drw wf g a cap cs) (hg : w.grownBy wf (some g)) (hgl : g < w.heap.size) (hs : ∀ x, a = some x → cs ≠ [] → x.block < w.heap.size) (hR : w.heap.size < wf.heap.size)
    (hv : ∃ v : Vl (n + 1), VSeg (fun b => w.heap.size < b ∧ b < wf.heap.size) wf (n + 1) (.int .i64 uk, .int .i64 un, .slice s2 n2 r2, .slice s3 n3 r3, .slice s4 n4 r4) v ∧ GoodD n v) :
    DxEnd n g a cap cs w (.returned (.agg #[.int .i64 uk, .int .i64 un, .slice s2 n2 r2, .slice s3 n3 r3, .slice s4 n4 r4])) (set5 wf w.heap.size 0 (.int .i64 uk) (.int .i64 un) (.slice s2 n2 r2) (.slice s3 n3 r3) (.slice s4 n4 r4)) := by
  have h5 := set5_grown wf w.heap.size 0 (.int .i64 uk) (.int .i64 un) (.slice s2 n2 r2) (.slice s3 n3 r3) (.slice s4 n4 r4)
  have hz5 := set5_size wf w.heap.size 0 (.int .i64 uk) (.int .i64 un) (.slice s2 n2 r2) (.slice s3 n3 r3) (.slice s4 n4 r4)
  obtain ⟨v, hv, hG⟩ := hv
  refine ⟨_, _, _, _, _, _, _, _, _, _, _, rfl, ⟨v, VSeg.mono (fun b hb => by omega) _ (VSeg.agree (R := fun b => w.heap.size < b ∧ b < wf.heap.size) (fun b hb => h5.block b hb.2 (by simp; omega)) _ hv), hG⟩, hd.keep (h5.block g hd.lt (by simp; omega)) (fun x hx he => h5.block _ (by have := hs x hx he; omega) (by have := hs x hx he; simp; omega)), ?_⟩
  exact ⟨h5.os.trans hg.os, h5.tape.trans hg.tape, h5.output.trans hg.output, by omega, fun b hb hne => (h5.block b (by omega) (by simp; omega)).trans (hg.block b hb hne)⟩

theorem leaf_seg (R : Nat → Prop) (w : World) (d : Nat) (k m : Int) : VSeg R w (d + 1) (.int .i64 k, .int .i64 m, .slice none 0 0, .slice none 0 0, .slice none 0 0) (k, m, [], [], []) :=
  (VSeg_succ _ _ _ _ _).2 ⟨rfl, rfl, ⟨none, 0, rfl, ⟨by simp, .inl rfl⟩, by simp, by simp, fun _ => rfl, by simp⟩, ⟨none, 0, rfl, by simp, by simp, fun _ => rfl, .inl rfl⟩, ⟨none, 0, rfl, by simp, by simp, fun _ => rfl, .inl rfl⟩⟩
theorem text_seg {R : Nat → Prop} {w : World} {u : Value} {xs : List Int} (d : Nat) (h : TSeg R w u xs) : VSeg R w (d + 1) (.int .i64 3, .int .i64 0, u, .slice none 0 0, .slice none 0 0) (3, 0, xs, [], []) :=
  (VSeg_succ _ _ _ _ _).2 ⟨rfl, rfl, h, ⟨none, 0, rfl, by simp, by simp, fun _ => rfl, .inl rfl⟩, ⟨none, 0, rfl, by simp, by simp, fun _ => rfl, .inl rfl⟩⟩

set_option maxHeartbeats 400000 in
theorem l1PickInt_p (P : Int → Prop) (g b n lc : Nat) (a : Option Addr) (cap : Nat) (cs : List Int) (w : World) (h : Drw w g a cap cs) (hn : 0 < n) (hn2 : n ≤ 1000) (hbg : b ≠ g) (hb : b < w.heap.size) (hc : ∀ k, k < n → ∃ z : Int, w.cell? ⟨b, k, none⟩ = some (.int .i64 z) ∧ P z) :
    Calls Tryz.prog 52 #[.pointer (some ⟨g, 0, none⟩), .slice (some ⟨b, 0, none⟩) n lc] w fun e w' => ∃ z : Int, e = .returned (.int .i64 z) ∧ P z ∧ Drw w' g a cap cs ∧ w.grownBy w' (some g) := by
  have HL := hide' (l1Below_drw g a cap cs (n : Int) w h (by omega))
  clear h
  go_enter Tryz.func52, Tryz.ntmps52
  go_wp2_with fail
  refine HL.out.mono ?_
  rintro e w1 ⟨x, rfl, h0, h1, _, hd, hg⟩
  obtain ⟨k, rfl⟩ : ∃ k : Nat, x = k := ⟨x.toNat, by omega⟩
  have hk : k < n := by have := h1 (by omega); omega
  obtain ⟨z, hz, hP⟩ := hc k hk
  have hz1 : w1.cell? ⟨b, k, none⟩ = some (.int .i64 z) := (World.cell?_of_block (hg.block b hb (by simp; omega))).trans hz
  have hk' : (k : Int) < (n : Int) := by omega
  have HP := hide' hP
  clear h1 HL hc hP
  go_wp2
  go_ret
  exact ⟨_, rfl, HP.out, hd, hg⟩

/-- Item i reads as the value l[i], in the blocks B. -/
def ItS (d : Nat) (l : List (Vl d)) (w : World) (i : Nat) (c : List Value) (B : List Nat) : Prop := ∃ e, c = enc5 e ∧ ∃ h : i < l.length, VSeg (fun b => b ∈ B) w d e l[i]
theorem ItS.agree (d : Nat) (l : List (Vl d)) : ∀ w w' i c B, ItS d l w i c B → Agree (fun b => b ∈ B) w w' → ItS d l w' i c B := by
  rintro w w' i c B ⟨e, rfl, h, hv⟩ ha
  exact ⟨e, rfl, h, VSeg.agree ha d hv⟩
theorem itS_more {d : Nat} {L : List (Vl d)} (t : Vl d) : ∀ i c B, i < L.length → ItS d L w i c B → ItS d (L ++ [t]) w i c B := by
  rintro i c B hi ⟨e, rfl, h, hv⟩
  exact ⟨e, rfl, by simp; omega, by simpa [List.getElem_append_left hi] using hv⟩
theorem itS_new {d : Nat} {L : List (Vl d)} {t : Vl d} {e : Value × Value × Value × Value × Value} {B : List Nat} (h : VSeg (fun b => b ∈ B) w d e t) : ItS d (L ++ [t]) w L.length (enc5 e) B := ⟨e, rfl, by simp, by simpa using h⟩

/-- All of it reads as the list. -/
theorem RW.lseg {w : World} {base d : Nat} {x : Value} {l : List (Vl d)} {cs : List (List Value)} {Bi : List (List Nat)} (h : RW 26 5 (ItS d l) w base x l.length cs Bi) : LSeg (fun b => base ≤ b ∧ b < w.heap.size) w d x l := by
  obtain ⟨h1, h2, h3, h4, h5, h6⟩ := h
  have hl5 : ∀ c ∈ cs, c.length = 5 := by
    intro c hc
    obtain ⟨i, hi, e⟩ := getD_of_mem (z := []) hc
    obtain ⟨e', he, _⟩ := h4 i (by omega)
    rw [← e, he]
    rfl
  rcases h3.2 with ⟨rfl, h0⟩ | ⟨g, cap, cur, rfl, hb, hh, hn, hm, hs, ht⟩
  · have hl0 : l = [] := List.eq_nil_of_length_eq_zero h0
    subst hl0
    exact ⟨none, 0, rfl, Nat.le_refl _, Nat.zero_le _, fun _ => rfl, .inl rfl⟩
  · refine ⟨some ⟨g, 0, none⟩, cap, rfl, hn, hm, by simp, .inr ⟨g, 0, rfl, ⟨hb, (Array.getElem?_eq_some_iff.1 hh).1⟩, fun i hi => ?_⟩⟩
    obtain ⟨e, he, _, hv⟩ := h4 i hi
    have hcell : ∀ j, j < 5 → cur[i * 5 + j]? = (enc5 e)[j]? := by
      intro j hj
      have hf := flatten_at 5 cs hl5 i (by omega) j hj
      rw [he, ← ht, List.getElem?_take_of_lt (by omega), Array.getElem?_toList] at hf
      exact hf
    refine ⟨e, ?_, VSeg.mono (fun b hb => ?_) d hv⟩
    · have hc := fun j (hj : j < 5) => (cell_of_row w g (i * 5 + j) cur _ (0, 0) hh).trans (hcell j hj)
      rw [show (0 : Nat) + i * 5 = i * 5 by omega]
      exact ⟨hc 0 (by omega), hc 1 (by omega), hc 2 (by omega), hc 3 (by omega), hc 4 (by omega)⟩
    · have := h6 b (by simp only [List.mem_append]; exact .inr (mem_flat hb))
      exact this

/-- While a list is drawn. -/
def LDx (g : Nat) (a : Option Addr) (cap : Nat) (cs : List Int) (w1 : World) (B d : Nat) (L : List (Vl d)) (N : Nat) (wr : World) (xL : Value) (csL : List (List Value)) (BiL : List (List Nat)) : Prop :=
  (wr.os = w1.os ∧ wr.tape = w1.tape ∧ wr.output = w1.output ∧ w1.heap.size ≤ wr.heap.size ∧ ∀ b, b < w1.heap.size → b ≠ B → b ≠ g → wr.heap[b]? = w1.heap[b]?) ∧
  wr.heap[B]? = some (.cells #[.int .i64 4, .int .i64 0, .slice none 0 0, .slice none 0 0, xL] 26 (0, 0)) ∧
  RW 26 5 (ItS d L) wr w1.heap.size xL L.length csL BiL ∧ (∀ b ∈ xL.ownBlock.toList ++ BiL.flatten, b < N) ∧ N ≤ wr.heap.size ∧ Drw wr g a cap cs ∧ g < B ∧ B < w1.heap.size ∧ ∀ x, a = some x → cs ≠ [] → x.block < B
end

section
variable {g : Nat} {a : Option Addr} {cap : Nat} {cs : List Int} {w w1 wr w5 w6 : World} {B d : Nat} {L : List (Vl d)} {N : Nat} {xL : Value} {csL : List (List Value)} {BiL : List (List Nat)}

theorem LDx.on (h : LDx g a cap cs w1 B d L N wr xL csL BiL) (hg : wr.grownBy w5 (some g)) (hc : Drw w5 g a cap cs) : LDx g a cap cs w1 B d L N w5 xL csL BiL := by
  obtain ⟨⟨f1, f2, f3, f4, f5⟩, h2, h4, h6, h7, h8, h9, h10, h11⟩ := h
  have hz := hg.size
  refine ⟨⟨hg.os.trans f1, hg.tape.trans f2, hg.output.trans f3, by omega, fun b hb hB hne => (hg.block b (by omega) (by simpa using hne)).trans (f5 b hb hB hne)⟩, (hg.block B (by omega) (by simp; omega)).trans h2, ?_, h6, by omega, hc, h9, h10, h11⟩
  exact h4.agree (ItS.agree d L) (fun b hb => hg.block b (h4.2.2.2.2.2 b hb).2 (by have := (h4.2.2.2.2.2 b hb).1; simp; omega)) hz
theorem LDx.alloc (h : LDx g a cap cs w1 B d L N wr xL csL BiL) (o : Obj) : LDx g a cap cs w1 B d L N (wr.alloc o) xL csL BiL :=
  h.on (World.grownBy_alloc wr o _) (h.2.2.2.2.2.1.grow ((Below.refl _ _).alloc (Nat.le_refl _) o))
theorem LDx.same (h : LDx g a cap cs w1 B d L N wr xL csL BiL) (e : w5.heap = wr.heap) (e1 : w5.os = wr.os) (e2 : w5.tape = wr.tape) (e3 : w5.output = wr.output) : LDx g a cap cs w1 B d L N w5 xL csL BiL :=
  h.on ⟨e1, e2, e3, by rw [e]; exact Nat.le_refl _, fun b _ _ => by rw [e]⟩ (h.2.2.2.2.2.1.keep (by rw [e]) (fun x _ _ => by rw [e]))

theorem ldx_l {t : Vl d} {e5 : Value × Value × Value × Value × Value} {Bv : List Nat} {gn cp : Nat} (h : LDx g a cap cs w1 B d L N w5 xL csL BiL) (hv : VSeg (fun b => b ∈ Bv) w5 d e5 t) (hBv : ∀ b ∈ Bv, N ≤ b ∧ w1.heap.size ≤ b ∧ b < w5.heap.size) (hBn : Bv.Nodup)
    (hown : w6.ownsRow w1.heap.size 26 5 (.slice (some ⟨gn, 0, none⟩) (L.length + 1) cp) (L.length + 1) (csL.flatten ++ enc5 e5)) (hg : w5.grownBy w6 xL.ownBlock) (hat : xL.ownBlock = some gn ∨ gn = w5.heap.size) :
    w6.heap[B]? = some (.cells #[.int .i64 4, .int .i64 0, .slice none 0 0, .slice none 0 0, xL] 26 (0, 0)) ∧
      LDx g a cap cs w1 B d (L ++ [t]) w6.heap.size (w6.setCell ⟨B, 4, none⟩ (.slice (some ⟨gn, 0, none⟩) (L.length + 1) cp)) (.slice (some ⟨gn, 0, none⟩) (L.length + 1) cp) (csL ++ [enc5 e5]) (BiL ++ [Bv]) := by
  obtain ⟨⟨f1, f2, f3, f4, f5⟩, h2, h4, h6, h7, h8, h9, h10, h11⟩ := h
  have hz := hg.size
  have hxlt := h4.2.2.1.lt
  have hneB : some B ≠ xL.ownBlock := fun e => by have := hxlt B e.symm; omega
  have hV6 := (hg.block B (by omega) hneB).trans h2
  have hsA : (w6.setCell ⟨B, 4, none⟩ (.slice (some ⟨gn, 0, none⟩) (L.length + 1) cp)).heap.size = w6.heap.size := by simp [World.setCell]
  have hR := RW.put (ItS.agree d (L ++ [t])) (h4.more (itS_more t)) (itS_new hv) (fun b hb => ⟨(hBv b hb).2.1, (hBv b hb).2.2, fun hm => by have h1 := h6 b hm; have := hBv b hb; omega⟩) hBn hown hg hat
  have hsame : ∀ b, b ≠ B → (w6.setCell ⟨B, 4, none⟩ (.slice (some ⟨gn, 0, none⟩) (L.length + 1) cp)).heap[b]? = w6.heap[b]? := fun b hb => Below.heap_setCell w6 _ _ b (by show b ≠ B; exact hb)
  refine ⟨hV6, ⟨hg.os.trans f1, hg.tape.trans f2, hg.output.trans f3, by omega, fun b hb hB hne => ?_⟩, heap_setCell_same w6 B 4 _ _ _ hV6, ?_, ?_, by omega, ?_, h9, h10, h11⟩
  · exact (hsame b hB).trans ((hg.block b (by omega) (fun e => by have := hxlt b e.symm; omega)).trans (f5 b hb hB hne))
  · have := hR.agree (ItS.agree d (L ++ [t])) (w' := w6.setCell ⟨B, 4, none⟩ (.slice (some ⟨gn, 0, none⟩) (L.length + 1) cp)) (fun b hb => hsame b (by have := hR.2.2.2.2.2 b hb; omega)) (by omega)
    simpa using this
  · intro b hb
    have := (hR.2.2.2.2.2 b hb).2
    omega
  · exact h8.keep ((hsame g (by omega)).trans (hg.block g h8.lt (fun e => by have := hxlt g e.symm; omega))) (fun x hx he => (hsame _ (by have := h11 x hx he; omega)).trans (hg.block _ (by have := h11 x hx he; omega) (fun e => by have := hxlt _ e.symm; have := h11 x hx he; omega)))

theorem LDx.shape (h : LDx g a cap cs w1 B d L N wr xL csL BiL) : ∃ s c, xL = .slice s L.length c := by
  rcases h.2.2.1.2.2.1.2 with ⟨rfl, h0⟩ | ⟨g, cap, cur, rfl, _⟩
  · exact ⟨none, 0, by rw [h0]⟩
  · exact ⟨_, _, rfl⟩

/-- A range of blocks, as a list. -/
theorem seg_range {w5 : World} {x y : Nat} {e : Value × Value × Value × Value × Value} {t : Vl d} (h : VSeg (fun b => x ≤ b ∧ b < y) w5 d e t) (hxy : x ≤ y) : VSeg (fun b => b ∈ List.range' x (y - x)) w5 d e t := VSeg.mono (fun b hb => by rw [List.mem_range'_1]; omega) d h
end
end Go.Proofs.YthnkedbmfhokiaaGreatDoor
/-
  l2draw of the specification draws good values. No statement is proved here.
-/
namespace Go.Proofs.YthnkedbmfhokiaaGreatDoor
open Go.RowKit
set_option linter.unusedVariables false
set_option linter.unusedSimpArgs false

/-- The contract: parts at most n deep. -/
def DxAt (n : Nat) : Prop := ∀ (g : Nat) (a : Option Addr) (cap : Nat) (cs : List Int) (deep : Int) (w : World), Drw w g a cap cs → deep ≤ n → -1000 ≤ deep → n ≤ 1000 → Calls Tryz.prog 28 #[.pointer (some ⟨g, 0, none⟩), .int .i64 deep] w (DxEnd n g a cap cs w)

theorem intB_of {z : Int} (h : -1000000000000 ≤ z ∧ z ≤ 1000000000000) : shapeB 2 z [] [] 0 = true := by
  simp [shapeB, bareB, intB]
  omega
theorem texts6_good : ∀ k, k < 6 → textB (texts6.getD k []) = true := by decide

theorem dx_from {n g : Nat} {a : Option Addr} {cap : Nat} {cs : List Int} {w wy w' : World} {e : Ending} (h : DxEnd n g a cap cs wy e w') (e0 : wy.heap = w.heap) (e1 : wy.os = w.os) (e2 : wy.tape = w.tape) (e3 : wy.output = w.output) : DxEnd n g a cap cs w e w' := by
  obtain ⟨uk, un, s2, n2, r2, s3, n3, r3, s4, n4, r4, he, ⟨v, hv, hG⟩, hd, hg⟩ := h
  exact ⟨uk, un, s2, n2, r2, s3, n3, r3, s4, n4, r4, he, ⟨v, by rw [← e0]; exact hv, hG⟩, hd, ⟨hg.os.trans e1, hg.tape.trans e2, hg.output.trans e3, by rw [← e0]; exact hg.size, fun b hb' hne => by rw [← e0]; exact hg.block b (by rw [e0]; exact hb') hne⟩⟩

set_option maxHeartbeats 12800000 in
set_option maxRecDepth 100000 in
theorem l2draw_flat_dx (n g : Nat) (a : Option Addr) (cap : Nat) (cs : List Int) (deep : Int) (w : World) (h : Drw w g a cap cs) (hdp : deep ≤ 0) : Calls Tryz.prog 28 #[.pointer (some ⟨g, 0, none⟩), .int .i64 deep] w (DxEnd n g a cap cs w) := by
  have hgl := h.lt
  have HLt : Hid (∀ x, a = some x → cs ≠ [] → x.block < w.heap.size) := h.1.lt
  have HA : Hid (∀ o : Obj, Below w.heap.size w (w.alloc o) ∧ (w.alloc o).heap[w.heap.size]? = some o) := fun o => ⟨(Below.refl _ _).alloc (Nat.le_refl _) o, heap_alloc_new w o⟩
  have HL : Hid (∀ (n : Int) (wx : World), n ≤ 9223372036854775807 → Drw wx g a cap cs → _) := fun n wx hn hd => l1Below_drw g a cap cs n wx hd hn
  have HD : Hid (∀ o, Drw (w.alloc o) g a cap cs) := fun o => h.grow (HA.out o).1
  clear h
  go_enter Tryz.func28, Tryz.ntmps28
  go_wp2_with fail
  refine (HL.out 9 _ (by omega) (HD.out _)).mono ?_
  rintro e w1 ⟨k, rfl, hk0, hk9, _, hd1, hg1⟩
  have hk9' : k < 9 := hk9 (by omega)
  have HG1 : Hid (w.grownBy w1 (some g)) := hide' (grownBy_trans (World.grownBy_alloc w _ _) hg1)
  have hr1 := (hg1.block w.heap.size (by simp) (by simp; omega)).trans (HA.out _).2
  have hz1 : w.heap.size < w1.heap.size := (Array.getElem?_eq_some_iff.1 hr1).1
  have HR1 := hide' hr1
  have HD1 := hide' hd1
  clear hd1 hg1 hr1 hk9 HD
  by_cases k0 : k = 0
  · subst k0
    obtain ⟨r0, r1, r2, r3, r4, rf⟩ := row5 HR1.out
    have f0 := rf 0
    have f1 := rf 1
    have f2 := rf 2
    have f3 := rf 3
    have f4 := rf 4
    clear rf
    go_wp2_with fail
    have hfin := row5 (set5_heap (j := 0) (.int .i64 0) (.int .i64 0) (.slice none 0 0) (.slice none 0 0) (.slice none 0 0) HR1.out)
    simp only [set5, Nat.zero_add] at hfin
    obtain ⟨x0, x1, x2, x3, x4, _⟩ := hfin
    refine bodyPost_ret (v := .agg #[.int .i64 0, .int .i64 0, .slice none 0 0, .slice none 0 0, .slice none 0 0]) (by simp [results, Tryz.results28, go_sem, x0, x1, x2, x3, x4]) rfl ?_
    exact dx_end HD1.out HG1.out hgl HLt.out hz1 ⟨_, leaf_seg _ _ _ _ _, good_leafD n 0 0 [] rfl⟩
  · have k0' : (k == 0) = false := by simp [k0]
    by_cases k1 : k = 1
    · subst k1
      have HL1 := hide' (HL.out 2 w1 (by omega) HD1.out)
      go_wp2_with fail
      refine HL1.out.mono ?_
      rintro e w2 ⟨m2, rfl, hn0, hn2, _, hd2, hg2⟩
      have H01 : Hid (m2 = 0 ∨ m2 = 1) := hide' (by have := hn2 (by omega); omega)
      have HD2 := hide' hd2
      have HG2 := hide' (grownBy_trans HG1.out hg2)
      have HR2 := hide' ((hg2.block w.heap.size hz1 (by simp; omega)).trans HR1.out)
      have hz2 := Nat.lt_of_lt_of_le hz1 hg2.size
      clear hd2 hg2 HL1 hn2 hn0
      obtain ⟨r0, r1, r2, r3, r4, rf⟩ := row5 HR2.out
      have f0 := rf 0
      have f1 := rf 1
      have f2 := rf 2
      have f3 := rf 3
      have f4 := rf 4
      clear rf
      go_wp2_with fail
      have hfin := row5 (set5_heap (j := 0) (.int .i64 1) (.int .i64 m2) (.slice none 0 0) (.slice none 0 0) (.slice none 0 0) HR2.out)
      simp only [set5, Nat.zero_add] at hfin
      obtain ⟨x0, x1, x2, x3, x4, _⟩ := hfin
      refine bodyPost_ret (v := .agg #[.int .i64 1, .int .i64 m2, .slice none 0 0, .slice none 0 0, .slice none 0 0]) (by simp [results, Tryz.results28, go_sem, x0, x1, x2, x3, x4]) rfl ?_
      exact dx_end HD2.out HG2.out hgl HLt.out hz2 ⟨_, leaf_seg _ _ _ _ _, good_leafD n 1 m2 [] (by rcases H01.out with rfl | rfl <;> rfl)⟩
    · have k1' : (k == 1) = false := by simp [k1]
      have hdp' : ¬ (0 : Int) < deep := by omega
      have HL1 := hide' (HL.out 5000 w1 (by omega) HD1.out)
      go_wp2_with fail
      all_goals
        refine HL1.out.mono ?_
        rintro e w2 ⟨z, rfl, hz0, hzn, _, hd2, hg2⟩
        have hzP : z < 5000 := hzn (by omega)
        have HD2 := hide' hd2
        have HG2 := hide' (grownBy_trans HG1.out hg2)
        have HR2 := hide' ((hg2.block w.heap.size hz1 (by simp; omega)).trans HR1.out)
        have hz2 := Nat.lt_of_lt_of_le hz1 hg2.size
        clear hd2 hg2 HL1 hzn
        have HA2 : Hid (∀ o : Obj, Below w2.heap.size w2 (w2.alloc o) ∧ (w2.alloc o).heap[w2.heap.size]? = some o) := fun o => ⟨(Below.refl _ _).alloc (Nat.le_refl _) o, heap_alloc_new w2 o⟩
        have HC : Hid (∀ k, k < 8 → ∃ y : Int, (w2.alloc (.cells #[.int .i64 0, .int .i64 1, .int .i64 (-1), .int .i64 7, .int .i64 42, .int .i64 1000000000000, .int .i64 (-1000000000000), .int .i64 z] 3)).cell? ⟨w2.heap.size, k, none⟩ = some (.int .i64 y) ∧ (-1000000000000 ≤ y ∧ y ≤ 1000000000000)) := by
          intro k hk
          rw [cell_of_row _ w2.heap.size k _ 3 (0, 0) (HA2.out _).2]
          obtain rfl | rfl | rfl | rfl | rfl | rfl | rfl | rfl : k = 0 ∨ k = 1 ∨ k = 2 ∨ k = 3 ∨ k = 4 ∨ k = 5 ∨ k = 6 ∨ k = 7 := by omega
          all_goals exact ⟨_, rfl, by omega⟩
        have hgl2 := HD2.out.lt
        have HPk := hide' (l1PickInt_p (fun y => -1000000000000 ≤ y ∧ y ≤ 1000000000000) g w2.heap.size 8 8 a cap cs _ (HD2.out.grow (HA2.out (.cells #[.int .i64 0, .int .i64 1, .int .i64 (-1), .int .i64 7, .int .i64 42, .int .i64 1000000000000, .int .i64 (-1000000000000), .int .i64 z] 3)).1) (by omega) (by omega) (by omega) (by simp) HC.out)
        clear HC
        go_wp2_with fail
        refine HPk.out.mono ?_
        rintro e w3 ⟨m3, rfl, hP3, hd3, hg3⟩
        have HP3 := hide' hP3
        have HD3 := hide' hd3
        have HG3 := hide' (grownBy_trans HG2.out (grownBy_trans (World.grownBy_alloc w2 _ _) hg3))
        have HR3 := hide' ((hg3.block w.heap.size (by simp; omega) (by simp; omega)).trans (((HA2.out _).1.block w.heap.size (by omega)).trans HR2.out))
        have hz3 : w.heap.size < w3.heap.size := (Array.getElem?_eq_some_iff.1 HR3.out).1
        clear hd3 hg3 HPk hP3
        obtain ⟨r0, r1, r2, r3, r4, rf⟩ := row5 HR3.out
        have f0 := rf 0
        have f1 := rf 1
        have f2 := rf 2
        have f3 := rf 3
        have f4 := rf 4
        clear rf
        go_wp2_with fail
        have hfin := row5 (set5_heap (j := 0) (.int .i64 2) (.int .i64 m3) (.slice none 0 0) (.slice none 0 0) (.slice none 0 0) HR3.out)
        simp only [set5, Nat.zero_add] at hfin
        obtain ⟨x0, x1, x2, x3, x4, _⟩ := hfin
        refine bodyPost_ret (v := .agg #[.int .i64 2, .int .i64 m3, .slice none 0 0, .slice none 0 0, .slice none 0 0]) (by simp [results, Tryz.results28, go_sem, x0, x1, x2, x3, x4]) rfl ?_
        exact dx_end HD3.out HG3.out hgl HLt.out hz3 ⟨_, leaf_seg _ _ _ _ _, good_leafD n 2 m3 [] (intB_of HP3.out)⟩
end Go.Proofs.YthnkedbmfhokiaaGreatDoor
