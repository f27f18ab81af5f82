/-
  Texts that a law leans on, one behind the other; no statement is proved here.
-/
import Derived.Test.YtbmgkmnibjdpiaaGreatDoorPk5
import Derived.Test.YtbmgkmnibjdpiaaGreatDoorPk8
import Derived.Test.YtbmgkmnibjdpiaaGreatDoorPk14
import Derived.Test.YtbmgkmnibjdpiaaGreatDoorPk17
import Derived.Test.YtbmgkmnibjdpiaaGreatDoorPk4
import Derived.Test.YtbmgkmnibjdpiaaGreatDoorPk18
import Derived.Test.YtbmgkmnibjdpiaaGreatDoorPk19
import Derived.Test.YtbmgkmnibjdpiaaGreatDoorPk12
import Derived.Test.YtbmgkmnibjdpiaaGreatDoorPk1
import Derived.Test.YtbmgkmnibjdpiaaGreatDoorPk0
import Derived.Test.YtbmgkmnibjdpiaaGreatDoorPk16
import Derived.Deep.RegionHeld3
/-
  Entries of the call's own, whose parts lie apart in whatever order.
-/
namespace Go.Proofs.YtbmgkmnibjdpiaaGreatDoor
open Go.RowKit
set_option linter.unusedVariables false
set_option linter.unusedSimpArgs false

/-- Nine cells that read as an entry of the call's own, in the blocks B; its parts lie apart. -/
def NtOwnD (w : World) (d : Nat) (cs : List Value) (it : Ntr d) (B : List Nat) : Prop :=
  ∃ c1 c3 c4 c5 c6 c7 c8 B1 B2 B3, cs = [c1, c3, c4, c5, c6, c7, c8, .bool it.2.2.2.1, .int .i64 it.2.2.2.2] ∧ TOwn w c1 it.1 B1 ∧ VOwn w d (c3, c4, c5, c6, c7) it.2.1 B2 ∧ KOwn w c8 it.2.2.1 B3 ∧ B = B1 ++ (B2 ++ B3) ∧ (∀ b ∈ B1, b ∉ B2) ∧ (∀ b ∈ B1, b ∉ B3) ∧ (∀ b ∈ B2, b ∉ B3)

section
variable {w w' : World} {d : Nat} {cs : List Value} {it : Ntr d} {B : List Nat}
theorem NtOwnD.agree (h : NtOwnD w d cs it B) (ha : Agree (fun b => b ∈ B) w w') : NtOwnD w' d cs it B := by
  obtain ⟨c1, c3, c4, c5, c6, c7, c8, B1, B2, B3, e, h1, h2, h3, rfl, hs⟩ := h
  exact ⟨c1, c3, c4, c5, c6, c7, c8, B1, B2, B3, e, h1.agree fun b hb => ha b (by simp [hb]), VOwn.agree d h2 fun b hb => ha b (by simp [hb]), h3.agree fun b hb => ha b (by simp [hb]), rfl, hs⟩
theorem NtOwnD.lt (h : NtOwnD w d cs it B) : ∀ b ∈ B, b < w.heap.size := by
  obtain ⟨c1, c3, c4, c5, c6, c7, c8, B1, B2, B3, e, h1, h2, h3, rfl, hs⟩ := h
  intro b hb
  simp only [List.mem_append] at hb
  rcases hb with hb | hb | hb
  · exact h1.lt b hb
  · exact VOwn.lt d h2 b hb
  · exact h3.lt b hb
theorem NtOwnD.on (h : NtOwnD w d cs it B) (hb : Below w.heap.size w w') : NtOwnD w' d cs it B := h.agree fun b hb' => hb.block b (h.lt b hb')
theorem NtOwnD.far {B' : List Nat} (h : NtOwnD w d cs it B) (hT : Turned B' w w') (hd : ∀ b ∈ B, b ∉ B') : NtOwnD w' d cs it B := h.agree fun b hb' => hT.block b (h.lt b hb') (hd b hb')
theorem NtOwnD.read (h : NtOwnD w d cs it B) : NtSg (fun b => b < w.heap.size) w d cs it := by
  have hlt := h.lt
  obtain ⟨c1, c3, c4, c5, c6, c7, c8, B1, B2, B3, e, h1, h2, h3, rfl, hs⟩ := h
  exact ⟨c1, c3, c4, c5, c6, c7, c8, e, h1.seg.mono fun b hb => hlt b (by simp [hb]), VSeg.mono (fun b hb => hlt b (by simp [hb])) d (VOwn.seg d h2), h3.seg.mono fun b hb => hlt b (by simp [hb])⟩
theorem NtOwn.apart (h : NtOwn w d cs it B) : NtOwnD w d cs it B := by
  obtain ⟨c1, c3, c4, c5, c6, c7, c8, B1, B2, B3, e, h1, h2, h3, rfl, s1, s2, d1, d2, d3, s12⟩ := h
  exact ⟨c1, c3, c4, c5, c6, c7, c8, B1, B2, B3, e, h1, h2, h3, rfl, fun b hb hb' => by have e1 := d1 b hb; have e2 := d2 b hb'; omega, fun b hb hb' => by have e1 := d1 b hb; have e2 := d3 b hb'; omega, fun b hb hb' => by have e1 := d2 b hb; have e2 := d3 b hb'; omega⟩

/-- Three parts in three windows. -/
theorem entry_leaf {lo p1 q1 p2 q2 p3 q3 : Nat} {c1 c3 c4 c5 c6 c7 c8 : Value} (hT : TW p1 q1 w c1 it.1) (hV : VW p2 q2 w d (c3, c4, c5, c6, c7) it.2.1) (hK : KW p3 q3 w c8 it.2.2.1) (h12 : q1 ≤ p2 ∨ q2 ≤ p1) (h13 : q1 ≤ p3 ∨ q3 ≤ p1) (h23 : q2 ≤ p3 ∨ q3 ≤ p2) (l1 : lo ≤ p1) (l2 : lo ≤ p2) (l3 : lo ≤ p3) :
    ∃ B, NtOwnD w d [c1, c3, c4, c5, c6, c7, c8, .bool it.2.2.2.1, .int .i64 it.2.2.2.2] it B ∧ ∀ b ∈ B, lo ≤ b := by
  obtain ⟨B1, o1, w1⟩ := hT
  obtain ⟨B2, o2, w2⟩ := hV
  obtain ⟨B3, o3, w3⟩ := hK
  refine ⟨B1 ++ (B2 ++ B3), ⟨c1, c3, c4, c5, c6, c7, c8, B1, B2, B3, rfl, o1, o2, o3, rfl, fun b hb hb' => ?_, fun b hb hb' => ?_, fun b hb hb' => ?_⟩, fun b hb => ?_⟩
  · have e1 := w1 b hb; have e2 := w2 b hb'; omega
  · have e1 := w1 b hb; have e2 := w3 b hb'; omega
  · have e1 := w2 b hb; have e2 := w3 b hb'; omega
  · simp only [List.mem_append] at hb
    rcases hb with hb | hb | hb
    · have := w1 b hb; omega
    · have := w2 b hb; omega
    · have := w3 b hb; omega
end

/-- What makes an entry leaves. -/
def NtEndD (d : Nat) (it : Ntr d) (w : World) (e : Ending) (w' : World) : Prop := ∃ cs, e = .returned (.agg cs.toArray) ∧ ∃ B, NtOwnD w' d cs it B ∧ (∀ b ∈ B, w.heap.size ≤ b) ∧ Below w.heap.size w w'
/-- The same, in the words of its cells. -/
theorem ntEndD_of {d : Nat} {it : Ntr d} {w V : World} {rb : Nat} {cs : List Value} {B : List Nat} (hb : Below w.heap.size w V) (ho : NtOwnD V d cs it B) (hB : ∀ b ∈ B, rb < b) (hrb : w.heap.size ≤ rb) : NtEndD d it w (.returned (.agg cs.toArray)) (V.setCells rb 0 cs) := by
  have hg := grown_setCells rb cs 0 V
  exact ⟨cs, rfl, B, ho.agree fun b hb' => hg.block b (ho.lt b hb') (by have := hB b hb'; simp; omega), fun b hb' => by have := hB b hb'; omega, hb.grown hg hb.size (by intro j hj; simp at hj; omega)⟩
end Go.Proofs.YtbmgkmnibjdpiaaGreatDoor
/-
  EntryOf: what it answers (mathematics); what the two functions leave.
-/
namespace Go.Proofs.YtbmgkmnibjdpiaaGreatDoor
open Go.RowKit
set_option linter.unusedVariables false
set_option linter.unusedSimpArgs false

/-- The entry that holds nothing. -/
def ntNil (D : Nat) : Ntr (D + 1) := ([], vNil D, [], false, 0)
/-- What EntryOf answers. -/
def entR (D : Nat) (s : Stt (D + 1)) (x : List Int) : Ntr (D + 1) := if staB (D + 1) s = true ∧ 0 ≤ findK (adrL s.2.2.2.2) x then s.2.2.2.2.getD (findK (adrL s.2.2.2.2) x).toNat (ntNil D) else ntNil D
def entG (D : Nat) (s : Stt (D + 1)) (x : List Int) : Bool := staB (D + 1) s && decide (0 ≤ findK (adrL s.2.2.2.2) x)

/-- What a call that hands out an entry and a word leaves: an entry of the call's own, and the word. -/
def AnsN (D : Nat) (it : Ntr (D + 1)) (bb : Bool) (w : World) (e : Ending) (w' : World) : Prop := ∃ cs, e = .returned (.tuple #[.agg cs.toArray, .bool bb]) ∧ ∃ B, NtOwnD w' (D + 1) cs it B ∧ (∀ b ∈ B, w.heap.size ≤ b) ∧ Below w.heap.size w w'

theorem own_ntNil (D : Nat) (w : World) : NtOwnD w (D + 1) [.slice none 0 0, .int .i64 0, .int .i64 0, .slice none 0 0, .slice none 0 0, .slice none 0 0, .slice none 0 0, .bool false, .int .i64 0] (ntNil D) [] :=
  ⟨_, _, _, _, _, _, _, [], [], [], rfl, tOwn_nil w, own_vNil D w, .inl ⟨rfl, rfl, rfl⟩, rfl, by simp, by simp, by simp⟩

theorem ansN_nil {D : Nat} {w V : World} {rb : Nat} (hb : Below w.heap.size w V) (hrb : w.heap.size ≤ rb) : AnsN D (ntNil D) false w (.returned (.tuple #[.agg #[.slice none 0 0, .int .i64 0, .int .i64 0, .slice none 0 0, .slice none 0 0, .slice none 0 0, .slice none 0 0, .bool false, .int .i64 0], .bool false])) (V.setCells rb 0 [.slice none 0 0, .int .i64 0, .int .i64 0, .slice none 0 0, .slice none 0 0, .slice none 0 0, .slice none 0 0, .bool false, .int .i64 0]) := by
  have hg := grown_setCells rb [.slice none 0 0, .int .i64 0, .int .i64 0, .slice none 0 0, .slice none 0 0, .slice none 0 0, .slice none 0 0, .bool false, .int .i64 0] 0 V
  exact ⟨[.slice none 0 0, .int .i64 0, .int .i64 0, .slice none 0 0, .slice none 0 0, .slice none 0 0, .slice none 0 0, .bool false, .int .i64 0], rfl, [], own_ntNil D _, by simp, hb.grown hg hb.size (by intro j hj; simp at hj; omega)⟩
theorem ansN_of {D : Nat} {it : Ntr (D + 1)} {w V : World} {rb : Nat} {cs : List Value} {B : List Nat} (hb : Below w.heap.size w V) (ho : NtOwnD V (D + 1) cs it B) (hB : ∀ b ∈ B, rb < b) (hrb : w.heap.size ≤ rb) : AnsN D it true w (.returned (.tuple #[.agg cs.toArray, .bool true])) (V.setCells rb 0 cs) := by
  have hg := grown_setCells rb cs 0 V
  exact ⟨cs, rfl, B, ho.agree fun b hb' => hg.block b (ho.lt b hb') (by have := hB b hb'; simp; omega), fun b hb' => by have := hB b hb'; omega, hb.grown hg hb.size (by intro j hj; simp at hj; omega)⟩

theorem ent_no {D : Nat} {s : Stt (D + 1)} {x : List Int} (h : staB (D + 1) s = false ∨ findK (adrL s.2.2.2.2) x < 0) : entR D s x = ntNil D ∧ entG D s x = false := by
  unfold entR entG
  rcases h with h | h
  · rw [h, if_neg (by simp)]
    exact ⟨rfl, rfl⟩
  · rw [if_neg (by omega), decide_eq_false (by omega)]
    exact ⟨rfl, by simp⟩
theorem ent_yes {D : Nat} {s : Stt (D + 1)} {x : List Int} {k : Nat} (h : staB (D + 1) s = true) (hk : k < s.2.2.2.2.length) (hf : findK (adrL s.2.2.2.2) x = k) : entR D s x = s.2.2.2.2[k] ∧ entG D s x = true := by
  unfold entR entG
  rw [if_pos ⟨h, by omega⟩, hf, h]
  refine ⟨?_, by simp⟩
  simp [List.getD_eq_getElem?_getD, hk]
theorem findK_in {ks : List (List Int)} {x : List Int} (h : 0 ≤ findK ks x) : ∃ k : Nat, k < ks.length ∧ findK ks x = k ∧ ks.getD k [] = x := by
  unfold findK at h ⊢
  cases hf : ks.findIdx? (fun k => decide (k = x)) with
  | none => rw [hf] at h; simp at h
  | some i =>
    obtain ⟨h1, h2, _⟩ := List.findIdx?_eq_some_iff_getElem.1 hf
    exact ⟨i, h1, rfl, by rw [List.getD_eq_getElem?_getD, List.getElem?_eq_getElem h1]; simpa using h2⟩
theorem results_cellN {P : Program} {fn : Func} {tmps : Array Value} {w : World} {v : Value} {ad : Addr} (s : Nat) (t : TypeId) (s2 : Nat) (v2 : Value) (hr : fn.results = #[.cell s t, .tmp s2]) (hp : tmps.getD s undef = .pointer (some ad)) (hl : (loadVar t ad).run P w = .ok v w) (h2 : tmps.getD s2 undef = v2) : (results fn tmps).run P w = .ok (.tuple #[v, v2]) w := by
  unfold results
  rw [hr]
  simp only [Array.mapM_eq_mapM_toList, List.mapM_cons, List.mapM_nil, Sem.run_bind, Sem.run_pure, Result.andThen_ok, hp]
  simp [asAddr, hl, ← h2]
theorem ntZ_one : ∀ v ∈ [Value.slice none 0 0, .int .i64 0, .int .i64 0, .slice none 0 0, .slice none 0 0, .slice none 0 0, .slice none 0 0, .bool false, .int .i64 0], v.oneCell' = true := by
  intro v hv
  simp only [List.mem_cons, List.not_mem_nil, or_false] at hv
  rcases hv with rfl | rfl | rfl | rfl | rfl | rfl | rfl | rfl | rfl <;> rfl
end Go.Proofs.YtbmgkmnibjdpiaaGreatDoor
/-
  One text more behind a row of texts, each of the call's own.
-/
namespace Go.Proofs.YtbmgkmnibjdpiaaGreatDoor
open Go.RowKit
set_option linter.unusedVariables false
set_option linter.unusedSimpArgs false

theorem rwk_step {w1 wr w5 w6 : World} {ks : List (List Int)} {x v5 : Value} {k g cp : Nat} {cs : List (List Value)} {Bi : List (List Nat)} {o : Obj} (h : RW 22 1 (ItK ks) wr w1.heap.size x k cs Bi) (hb : Below w1.heap.size w1 wr) (b5 : Below wr.heap.size wr w5) (hv : Bts w5 wr.heap.size v5 (ks.getD k []))
    (hown : w6.ownsRow w1.heap.size 22 1 (.slice (some ⟨g, 0, none⟩) (k + 1) cp) (k + 1) (cs.flatten ++ [v5])) (hg : (w5.alloc o).grownBy w6 x.ownBlock) (hat : x.ownBlock = some g ∨ g = w5.heap.size + 1) :
    ∃ cs' Bi', RW 22 1 (ItK ks) w6 w1.heap.size (.slice (some ⟨g, 0, none⟩) (k + 1) cp) (k + 1) cs' Bi' ∧ Below w1.heap.size w1 w6 := by
  obtain ⟨Bv, hT, hBv, hBn⟩ := tOwn_of hv
  have hz := hb.size
  have hz5 := b5.size
  have hxlt := h.2.2.1.lt
  refine ⟨_, _, RW.add (w2 := w5.alloc o) (ItK.agree ks) h (fun b hb => (Below.heap_alloc _ _ _ (by omega)).trans (b5.block b hb)) (by simp; omega) ⟨v5, rfl, hT.agree fun b hb => Below.heap_alloc _ _ _ (hBv b hb).2⟩ (fun b hb => by have := hBv b hb; simp; omega) hBn hz hown hg (by simpa using hat), ?_⟩
  exact ((Below.on hb b5).alloc (by omega) o).grown hg (by simp; omega) (fun j hj => (hxlt j hj).1)
end Go.Proofs.YtbmgkmnibjdpiaaGreatDoor
/-
  l4ownAddrs of the specification, over whatever row of texts.
-/
namespace Go.Proofs.YtbmgkmnibjdpiaaGreatDoor
open Go.RowKit
set_option linter.unusedVariables false
set_option linter.unusedSimpArgs false

theorem KSeg.wide {R : Nat → Prop} {w : World} {a : Option Addr} {n cap : Nat} {ks : List (List Int)} (h : KSeg R w (.slice a n cap) ks) {k : Nat} (hk : k < ks.length) :
    ∃ b off, a = some ⟨b, off, none⟩ ∧ R b ∧ ∀ i (hi : i < ks.length), ∃ u, w.cell? ⟨b, off + i, none⟩ = some u ∧ TSeg R w u (ks.getD i []) := by
  obtain ⟨a', cap', g1, _, _, _, g5⟩ := h
  simp only [Value.slice.injEq] at g1
  obtain ⟨rfl, _, _⟩ := g1
  rcases g5 with e | ⟨b, off, hb, hR, hc⟩
  · rw [e] at hk; simp at hk
  · exact ⟨b, off, hb, hR, fun i hi => hc i hi⟩

set_option maxHeartbeats 2000000 in
set_option maxRecDepth 100000 in
theorem l4ownAddrsK_any (N : Nat) (x : Value) (ks : List (List Int)) (w : World) (hx : KSeg (fun b => b < N) w x ks) (hN : N ≤ w.heap.size) (hl : ks.length ≤ 1048576) (hl1 : ∀ i, i < ks.length → (ks.getD i []).length ≤ 1048576) :
    Calls Tryz.prog 48 #[x] w fun e w' => ∃ u, e = .returned u ∧ ∃ B, KOwn w' u ks B ∧ (∀ b ∈ B, w.heap.size ≤ b ∧ b < w'.heap.size) ∧ Below w.heap.size w w' := by
  obtain ⟨iT, hiT, hy0, hy1, hy2⟩ := info_parts infoT
  have HX := hide' hx
  have HL := hide' hl1
  obtain ⟨xa, xc, rfl, _⟩ := hx
  clear hl1
  go_enter Tryz.func48, Tryz.ntmps48
  go_wp2
  go_loopw [3, 4] (fun x i wr => ∃ k : Nat, k ≤ ks.length ∧ i = .int .i64 k ∧ ∃ cs Bi, RW 22 1 (ItK ks) wr w.heap.size x k cs Bi ∧ Below w.heap.size w wr) (fun _ i _ => ks.length - (intOf i).toNat)
  case atStart => exact ⟨0, Nat.zero_le _, rfl, _, _, RW.nil _ _ _ _ _, Below.refl _ _⟩
  case round =>
    obtain ⟨k, hk, rfl, cs, Bi, hR, hbel⟩ := hrel
    have hsz := hbel.size
    have hvK : ∃ p c, u3 = .slice p k c := by
      rcases hR.2.2.1.2 with ⟨rfl, h0⟩ | ⟨g, cap, cur, rfl, _⟩
      · exact ⟨none, 0, by rw [h0]⟩
      · exact ⟨_, _, rfl⟩
    obtain ⟨pK, cK, rfl⟩ := hvK
    by_cases hkn : k < ks.length
    · have hkn' : (k : Int) < (ks.length : Int) := by omega
      have hk0 : (0 : Int) ≤ (k : Int) := Int.natCast_nonneg _
      obtain ⟨g, off, rfl, hgN, hat⟩ := HX.out.wide hkn
      have hgl : g < w.heap.size := by omega
      obtain ⟨uq, hcu, hT⟩ := hat k hkn
      have hlk := HL.out k hkn
      obtain ⟨ua, uc, rfl, hsu, _, _, hnu, hRu⟩ := hT
      have hBa : Below w.heap.size w (wr.alloc (.cells #[] 5)) := hbel.alloc (by omega) _
      have hcu' : (wr.alloc (.cells #[] 5)).cell? ⟨g, off + k, none⟩ = some (.slice ua (ks.getD k []).length uc) := (World.cell?_of_block (hBa.block g hgl)).trans hcu
      have hsu' : Seg (wr.alloc (.cells #[] 5)) ua (ks.getD k []) := hsu.below hBa fun x hx hne => by have := hRu x hx hne; omega
      have hE : Bts (wr.alloc (.cells #[] 5)) wr.heap.size (.slice (some ⟨wr.heap.size, 0, none⟩) 0 0) [] := ⟨by simp, by simp [cellsOf], .inr ⟨wr.heap.size, 0, #[], rfl, Nat.le_refl _, heap_alloc_new wr _, Nat.le_refl _, Nat.zero_le _, rfl, rfl⟩⟩
      have HR := hide' (And.intro hR hbel)
      have hBe : Hid (Below wr.heap.size wr (wr.alloc (.cells #[] 5))) := (Below.refl _ _).alloc (Nat.le_refl _) _
      have Hv : Hid (∀ w5, Below wr.heap.size wr w5 → w5.ownsRow w.heap.size 22 1 (.slice pK k cK) k cs.flatten) := fun w5 hb5 => hR.2.2.1.kept (row := none) ⟨hb5.os, hb5.tape, hb5.output, hb5.size, fun k hk _ => hb5.block k hk⟩ (by cases hv : (Value.slice pK k cK).ownBlock <;> simp)
      generalize hks : ks.getD k [] = xs at *
      have Hks := hide' hks
      generalize hnk : xs.length = nk at *
      clear hR hbel hBa hcu hsu hks hRu
      go_wp2_with (at_builtin; first
        | (refine wpList_append_seg rfl (.tmp 12) (.tmp 16) (by rfl) wr.heap.size (.slice (some ⟨wr.heap.size, 0, none⟩) 0 0) [] xs (by rfl) hE ua nk uc hnk.symm (by rfl) hsu' hnu (by simp; omega) (by simp) ?_; intro v5 w5 hv5 hg5; rw [List.nil_append] at hv5; have hb5 := hide' (hBe.out.grown hg5 (by simp) (by intro j hj; simp [Value.ownBlock] at hj; omega)); obtain ⟨a5, c5, h5, _⟩ := hv5.shape; rw [hnk] at h5; subst h5; replace hv5 := hide' hv5; clear hg5 hE hsu')
        | (refine wpList_append_lies _ rfl (.tmp 11) (.tmp 18) 34 (by rfl) w.heap.size 22 iT (.slice none 0 0) 1 24 Tryz.underlying34 hiT hy0 hy1 hy2 rfl (by decide) (.slice pK k cK) k cs.flatten (by rfl) ((Hv.out w5 hb5.out).alloc _) ⟨w5.heap.size, 0, none⟩ 1 1 [.slice a5 nk c5] (by rfl) (by rfl) (World.news_of_block (cs := #[.slice a5 nk c5]) (t := 22) (fr := (0, 0)) (heap_alloc_new w5 _)) (by simp [Value.oneCell']) (by omega) (by unfold maxLen; omega) (by omega) (by have := hb5.out.size; simp; omega) (w5.heap.size + 1) (by simp) ?_; intro g6 cp6 w6 hown6 hg6 hat6 hlt6; obtain ⟨cs', Bi', hR6, hB6⟩ := rwk_step HR.out.1 HR.out.2 hb5.out (by rw [Hks.out]; exact hv5.out) hown6 hg6 hat6; replace hR6 := hide' hR6; replace hB6 := hide' hB6; clear hown6 hg6 hat6 hlt6))
      go_wp2
      go_roundw
      case rel => exact ⟨k + 1, by omega, by go_num, _, _, hR6.out, hB6.out⟩
      case measure => simp [intOf]; omega
    · have hkn' : k = ks.length := by omega
      subst hkn'
      have hkl' : ¬ (ks.length : Int) < (ks.length : Int) := by omega
      have HR := hide' (And.intro hR hbel)
      clear hR hbel
      go_wp2_with fail
      go_ret
      have hbd := HR.out.1.2.2.2.2.2
      exact ⟨_, rfl, _, HR.out.1.kown, fun b hb => by have := hbd b hb; omega, HR.out.2⟩

end Go.Proofs.YtbmgkmnibjdpiaaGreatDoor
/-
  What stands under an address of the entries' map; what is read of an entry holds bytes.
-/
namespace Go.Proofs.YtbmgkmnibjdpiaaGreatDoor
open Go.RowKit
set_option linter.unusedVariables false
set_option linter.unusedSimpArgs false

/-- What stands under an address, without a word. -/
theorem look_heldF {wx : World} {b : Nat} {ks : List (List Int)} {ps : List Value} {key : List Int} {k : Nat} (hm : wx.ownsMap Tryz.prog 9 tokR b 64 (mapD ks ps ks.length)) (ha : ∀ i, i < ks.length → upB ks i = true) (hb : ∀ i, i < ks.length → ∀ x ∈ ks.getD i [], Byt x) (hy : ∀ y ∈ key, Byt y) (hl : key.length ≤ maxLen) (hk : k < ks.length) (hf : findK ks key = k) :
    (Instr.lookup 76 (.map (some b)) (.string (strOf key)) false).run Tryz.prog wx = .ok (ps.getD k .nilIface) wx := by
  rw [mapD_listU ks ps ks.length ha] at hm
  obtain ⟨v, q, hrun, hv⟩ := hm.lookup (Maps.string_keyed Tryz.underlying9) Tryz.underlying76 (zero_held wx) (zd := .held heldZ) (zp := []) rfl (keyS key hl)
  have hat : ∀ i (h : i < ks.length), ks.getD i [] = ks[i] := fun i h => by rw [List.getD_eq_getElem?_getD, List.getElem?_eq_getElem h]; rfl
  unfold findK at hf
  cases hfi : ks.findIdx? (fun x => decide (x = key)) with
  | none => rw [hfi] at hf; simp at hf
  | some i =>
    rw [hfi] at hf
    obtain rfl : i = k := by simp at hf; omega
    obtain ⟨hk', he0, hmin⟩ := List.findIdx?_eq_some_iff_getElem.1 hfi
    have he : ks.getD i [] = key := by rw [hat i hk']; simpa using he0
    have hn : ∀ j, j < i → ks.getD j [] ≠ key := fun j hj e => by
      have h1 := hmin j hj
      rw [hat j (by omega)] at e
      simp [e] at h1
    obtain ⟨h1, h2⟩ := look_yes (ps := ps) hy hb hk hn he (.held heldZ)
    rw [h2] at hv
    simp only [tokR, Option.some.injEq, Prod.mk.injEq, DataW.held.injEq] at hv
    rw [← hv.1]
    exact hrun

/-- What is read of an entry holds bytes. -/
def NtSg' (N : Nat) (w : World) (d : Nat) (it : Ntr d) : Prop := (∀ x ∈ it.1, Byt x) ∧ ∀ i, i < it.2.2.1.length → ∀ x ∈ it.2.2.1.getD i [], Byt x
theorem NtLS.each {N : Nat} {w : World} {d : Nat} {x : Value} {l : List (Ntr d)} (h : NtLS (fun b => b < N) w d x l) {i : Nat} (hi : i < l.length) : NtSg' N w d l[i] := by
  obtain ⟨a, c, rfl⟩ := h.form
  obtain ⟨b, off, rfl, hb, hat⟩ := h.full hi
  obtain ⟨cs, _, hs⟩ := hat i hi
  obtain ⟨na, np, bk, bn, a2, l2, p2, a3, l3, p3, a4, l4, p4, xa, xp, rfl, ht, hv, hk⟩ := hs.form
  refine ⟨?_, fun j hj => ?_⟩
  · obtain ⟨_, _, _, h1, _⟩ := ht
    exact h1.1
  · obtain ⟨_, _, _, hc⟩ := hk.wide hj
    obtain ⟨u, _, hT⟩ := hc.2 j hj
    obtain ⟨_, _, _, h1, _⟩ := hT
    exact h1.1


theorem SR.at {w : World} {base : Nat} {a : Option Addr} {n cap : Nat} {ks : List (List Int)} (h : SR w base (.slice a n cap) ks) {j : Nat} (hj : j < ks.length) : ∃ g, a = some ⟨g, 0, none⟩ ∧ g < w.heap.size ∧ w.cell? ⟨g, j, none⟩ = some (.string (strOf (ks.getD j []))) := by
  rcases h.2 with ⟨_, h0⟩ | ⟨g, cap', cur, e, h1, h2, h3, h4, h5, h6⟩
  · omega
  · simp only [Value.slice.injEq] at e
    obtain ⟨rfl, _, _⟩ := e
    refine ⟨g, rfl, (Array.getElem?_eq_some_iff.1 h2).1, ?_⟩
    rw [cell_of_row w g j _ _ _ h2]
    have e1 : cur.toList[j]? = (strC ks)[j]? := by rw [← h6, List.getElem?_take_of_lt (by omega)]
    rw [← Array.getElem?_toList, e1]
    simp [strC, hj, List.getD_eq_getElem?_getD]

end Go.Proofs.YtbmgkmnibjdpiaaGreatDoor
/-
  One more text in a row of texts of the call's own, the text being made by a conversion.
-/
namespace Go.Proofs.YtbmgkmnibjdpiaaGreatDoor
open Go.RowKit
set_option linter.unusedVariables false
set_option linter.unusedSimpArgs false

theorem rwk_stepT {w1 wr w5 w6 : World} {ks : List (List Int)} {x v5 : Value} {k g cp : Nat} {cs : List (List Value)} {Bi : List (List Nat)} {Bv : List Nat} {o : Obj} (h : RW 22 1 (ItK ks) wr w1.heap.size x k cs Bi) (hb : Below w1.heap.size w1 wr) (b5 : Below wr.heap.size wr w5) (hT : TOwn w5 v5 (ks.getD k []) Bv)
    (hBv : ∀ b ∈ Bv, wr.heap.size ≤ b ∧ b < w5.heap.size) (hBn : Bv.Nodup) (hown : w6.ownsRow w1.heap.size 22 1 (.slice (some ⟨g, 0, none⟩) (k + 1) cp) (k + 1) (cs.flatten ++ [v5])) (hg : (w5.alloc o).grownBy w6 x.ownBlock) (hat : x.ownBlock = some g ∨ g = w5.heap.size + 1) :
    ∃ cs' Bi', RW 22 1 (ItK ks) w6 w1.heap.size (.slice (some ⟨g, 0, none⟩) (k + 1) cp) (k + 1) cs' Bi' ∧ Below w1.heap.size w1 w6 := by
  have hz := hb.size
  have hz5 := b5.size
  have hxlt := h.2.2.1.lt
  refine ⟨_, _, RW.add (w2 := w5.alloc o) (ItK.agree ks) h (fun b hb => (Below.heap_alloc _ _ _ (by omega)).trans (b5.block b hb)) (by simp; omega) ⟨v5, rfl, hT.agree fun b hb => Below.heap_alloc _ _ _ (hBv b hb).2⟩ (fun b hb => by have := hBv b hb; simp; omega) hBn hz hown hg (by simpa using hat), ?_⟩
  exact ((Below.on hb b5).alloc (by omega) o).grown hg (by simp; omega) (fun j hj => (hxlt j hj).1)

end Go.Proofs.YtbmgkmnibjdpiaaGreatDoor
/-
  depsAlone of the program: the addresses that an entry hangs on, in memory of the call's own.
-/
namespace Go.Proofs.YtbmgkmnibjdpiaaGreatDoor
open Go.RowKit
set_option linter.unusedVariables false
set_option linter.unusedSimpArgs false

set_option maxHeartbeats 3000000 in
set_option maxRecDepth 100000 in
theorem depsAlone_any (base : Nat) (m : Option Nat) (a : Option Addr) (n c : Nat) (t : Bool) (u : Int) (ks : List (List Int)) (w : World) (hS : SR w base (.slice a n c) ks) (hl : ks.length ≤ 1000) (hb1 : ∀ i, i < ks.length → ∀ x ∈ ks.getD i [], Byt x) (hb2 : ∀ i, i < ks.length → (ks.getD i []).length ≤ 1048576) :
    Calls Tryz.prog 50 #[.agg #[.map m, .slice a n c, .bool t, .int .i64 u]] w fun e w' => ∃ y, e = .returned y ∧ ∃ B, KOwn w' y ks B ∧ (∀ b ∈ B, w.heap.size ≤ b ∧ b < w'.heap.size) ∧ Below w.heap.size w w' := by
  obtain ⟨iT, hiT, hy0, hy1, hy2⟩ := info_parts infoT
  have N3 := hide' hb1
  have N2 := hide' hb2
  obtain ⟨_, _, e⟩ := hS.shape
  obtain rfl : n = ks.length := by simp only [Value.slice.injEq] at e; exact e.2.1
  clear e
  have HSr : Hid (∀ wx, Below w.heap.size w wx → ∀ j, j < ks.length → ∃ g, a = some ⟨g, 0, none⟩ ∧ wx.cell? ⟨g, j, none⟩ = some (.string (strOf (ks.getD j [])))) := fun wx hb j hj => by
    obtain ⟨g, e1, e2, e3⟩ := hS.at hj
    exact ⟨g, e1, (World.cell?_of_block (hb.block g e2)).trans e3⟩
  have HA : Hid (∀ o : Obj, Below w.heap.size w (w.alloc o)) := fun o => (Below.refl _ _).alloc (Nat.le_refl _) o
  have hle : ks.length ≤ 1000 := hl
  clear hS hb1 hb2 hl
  go_enter Tryz.func50, Tryz.ntmps50
  go_wp2
  have HB00 : Hid (Below w.heap.size w (w.alloc (.cells #[.map m, .slice a ks.length c, .bool t, .int .i64 u] 84))) := HA.out _
  generalize w.alloc (.cells #[.map m, .slice a ks.length c, .bool t, .int .i64 u] 84) = w0 at *
  have HB0 : Hid (∀ wx, Below w0.heap.size w0 wx → Below w.heap.size w wx) := fun wx hb => Below.on HB00.out hb
  go_loopw [3, 9] (fun x i wr => ∃ j : Nat, j ≤ ks.length ∧ i = .int .i64 j ∧ ∃ cs Bi, RW 22 1 (ItK ks) wr w0.heap.size x j cs Bi ∧ Below w0.heap.size w0 wr) (fun _ i _ => ks.length - (intOf i).toNat)
  case atStart => exact ⟨0, Nat.zero_le _, rfl, _, _, RW.nil _ _ _ _ _, Below.refl _ _⟩
  case round =>
    obtain ⟨j, hj, rfl, cs, Bi, hR, hbel⟩ := hrel
    have hsz := hbel.size
    have hvK : ∃ p c, u3 = .slice p j c := by
      rcases hR.2.2.1.2 with ⟨rfl, h0⟩ | ⟨g, cap, cur, rfl, _⟩
      · exact ⟨none, 0, by rw [h0]⟩
      · exact ⟨_, _, rfl⟩
    obtain ⟨pK, cK, rfl⟩ := hvK
    by_cases hjn : j < ks.length
    · have hjn' : (j : Int) < (ks.length : Int) := by omega
      obtain ⟨g, rfl, hcell⟩ := HSr.out wr (HB0.out wr hbel) j hjn
      have hlk := N2.out j hjn
      obtain ⟨ck', wB, hconv, hTo, hBb, hzB⟩ := conv_back (ks.getD j []) (N3.out j hjn) (by omega) wr
      have HR := hide' (And.intro hR hbel)
      have hrowK : wB.ownsRow w0.heap.size 22 1 (.slice pK j cK) j cs.flatten := hR.2.2.1.kept (row := none) ⟨hBb.os, hBb.tape, hBb.output, hBb.size, fun k hk _ => hBb.block k hk⟩ (by cases hv : (Value.slice pK j cK).ownBlock <;> simp)
      have HTo := hide' hTo
      have HBb := hide' hBb
      have HzB := hide' hzB
      have HRK := hide' hrowK
      generalize hks : ks.getD j [] = xs at *
      have Hks := hide' hks
      generalize hnk : xs.length = nk at *
      generalize strOf xs = sx at *
      clear hR hbel hks hTo hBb hzB hrowK hnk
      go_wp2_with (at_builtin; refine wpList_append_lies _ rfl (.tmp 13) (.tmp 16) 34 (by rfl) w0.heap.size 22 iT (.slice none 0 0) 1 24 Tryz.underlying34 hiT hy0 hy1 hy2 rfl (by decide) (.slice pK j cK) j cs.flatten (by rfl) (HRK.out.alloc _) ⟨wB.heap.size, 0, none⟩ 1 1 [.slice (some ⟨wr.heap.size, 0, none⟩) nk ck'] (by rfl) (by rfl) (World.news_of_block (cs := #[.slice (some ⟨wr.heap.size, 0, none⟩) nk ck']) (t := 22) (fr := (0, 0)) (heap_alloc_new wB _)) (by simp [Value.oneCell']) (by omega) (by unfold maxLen; omega) (by omega) (by have := HzB.out; simp; omega) (wB.heap.size + 1) (by simp) ?_; intro g6 cp6 w6 hown6 hg6 hat6 hlt6; obtain ⟨cs', Bi', hR6, hB6⟩ := rwk_stepT HR.out.1 HR.out.2 HBb.out (by rw [Hks.out]; exact HTo.out) (by have := HzB.out; intro b hb; simp at hb; omega) (by simp) hown6 hg6 hat6; replace hR6 := hide' hR6; replace hB6 := hide' hB6; clear hown6 hg6 hat6 hlt6)
      go_wp2
      go_roundw
      case rel => exact ⟨j + 1, by omega, by go_num, _, _, hR6.out, hB6.out⟩
      case measure => simp [intOf]; omega
    · have hjn' : j = ks.length := by omega
      subst hjn'
      have hkl' : ¬ (ks.length : Int) < (ks.length : Int) := by omega
      have HR := hide' (And.intro hR hbel)
      clear hR hbel
      go_wp2_with fail
      go_ret
      have hbd := HR.out.1.2.2.2.2.2
      have hz4 := (HB0.out _ (Below.refl _ _)).size
      exact ⟨_, rfl, _, HR.out.1.kown, fun b hb => by have := hbd b hb; omega, HB0.out _ HR.out.2⟩
end Go.Proofs.YtbmgkmnibjdpiaaGreatDoor
/-
  What a call that makes a value leaves; a block of five cells, read behind new blocks.
-/
namespace Go.Proofs.YtbmgkmnibjdpiaaGreatDoor
open Go.RowKit
set_option linter.unusedVariables false
set_option linter.unusedSimpArgs false

/-- A block of five, read behind a new block. -/
theorem box_later {w : World} {g : Nat} {T : TypeId} {c0 c1 c2 c3 c4 : Value} (h : w.heap[g]? = some (.cells #[c0, c1, c2, c3, c4] T (0, 0))) :
    (∀ o, (w.alloc o).cell? ⟨g, 0, none⟩ = some c0) ∧ (∀ o, (w.alloc o).cell? ⟨g, 1, none⟩ = some c1) ∧ (∀ o, (w.alloc o).cell? ⟨g, 2, none⟩ = some c2) ∧ (∀ o, (w.alloc o).cell? ⟨g, 3, none⟩ = some c3) ∧ (∀ o, (w.alloc o).cell? ⟨g, 4, none⟩ = some c4) ∧ ∀ o j, (w.alloc o).frozen? ⟨g, j, none⟩ = false := by
  have hr : ∀ o, (w.alloc o).heap[g]? = some (.cells #[c0, c1, c2, c3, c4] T (0, 0)) := fun o => (Below.heap_alloc w o g (Array.getElem?_eq_some_iff.1 h).1).trans h
  exact ⟨fun o => (row5 (hr o)).1, fun o => (row5 (hr o)).2.1, fun o => (row5 (hr o)).2.2.1, fun o => (row5 (hr o)).2.2.2.1, fun o => (row5 (hr o)).2.2.2.2.1, fun o j => (row5 (hr o)).2.2.2.2.2 j⟩

/-- What valueOf leaves. -/
def ValEnd (d : Nat) (v : Vl d) (w : World) (e : Ending) (w' : World) : Prop :=
  ∃ u0 u1 u2 u3 u4, e = .returned (.agg #[u0, u1, u2, u3, u4]) ∧ ∃ B, VOwn w' d (u0, u1, u2, u3, u4) v B ∧ (∀ b ∈ B, w.heap.size ≤ b ∧ b < w'.heap.size) ∧ Below w.heap.size w w'

/-- .. and behind two. -/
theorem box_later2 {w : World} {g : Nat} {T : TypeId} {c0 c1 c2 c3 c4 : Value} (h : w.heap[g]? = some (.cells #[c0, c1, c2, c3, c4] T (0, 0))) :
    (∀ o o', ((w.alloc o).alloc o').cell? ⟨g, 0, none⟩ = some c0) ∧ (∀ o o', ((w.alloc o).alloc o').cell? ⟨g, 1, none⟩ = some c1) ∧ (∀ o o', ((w.alloc o).alloc o').cell? ⟨g, 2, none⟩ = some c2) ∧ (∀ o o', ((w.alloc o).alloc o').cell? ⟨g, 3, none⟩ = some c3) ∧ (∀ o o', ((w.alloc o).alloc o').cell? ⟨g, 4, none⟩ = some c4) ∧ ∀ o o' j, ((w.alloc o).alloc o').frozen? ⟨g, j, none⟩ = false := by
  have hr : ∀ o, (w.alloc o).heap[g]? = some (.cells #[c0, c1, c2, c3, c4] T (0, 0)) := fun o => (Below.heap_alloc w o g (Array.getElem?_eq_some_iff.1 h).1).trans h
  exact ⟨fun o => (box_later (hr o)).1, fun o => (box_later (hr o)).2.1, fun o => (box_later (hr o)).2.2.1, fun o => (box_later (hr o)).2.2.2.1, fun o => (box_later (hr o)).2.2.2.2.1, fun o => (box_later (hr o)).2.2.2.2.2⟩

end Go.Proofs.YtbmgkmnibjdpiaaGreatDoor
/-
  valueOf of the program: parts without parts.
-/
namespace Go.Proofs.YtbmgkmnibjdpiaaGreatDoor
open Go.RowKit Go.Shelf
set_option linter.unusedVariables false
set_option linter.unusedSimpArgs false

set_option maxHeartbeats 3200000 in
set_option maxRecDepth 100000 in
theorem valueOf_nullPart  (w : World) : Calls Tryz.prog 49 #[.iface 149 (.agg #[])] w fun e w' => e = .returned (.agg #[.int .i64 0, .int .i64 0, .slice none 0 0, .slice none 0 0, .slice none 0 0]) ∧ Below w.heap.size w w' := by
  have m1 := meth_nullPart (.agg #[])
  have t1 := nobool_nullPart (.agg #[])
  have t2 := noint_nullPart (.agg #[])
  have t3 := notext_nullPart (.agg #[])
  have t4 := nolist_nullPart (.agg #[])
  have t5 := nomap_nullPart (.agg #[])
  have HK := hide' (kind_nullPart)
  have HA : Hid (∀ o : Obj, Below w.heap.size w (w.alloc o)) := fun o => (Below.refl _ _).alloc (Nat.le_refl _) o
  go_enter Tryz.func49, Tryz.ntmps49
  go_wp2_with fail
  refine (HK.out _).mono ?_
  rintro e w1 ⟨rfl, b1⟩
  have hr : w1.heap[w.heap.size]? = some (.cells #[.int .i64 0, .int .i64 0, .slice none 0 0, .slice none 0 0, .slice none 0 0] 37 (0, 0)) := box_row b1
  obtain ⟨r0, r1, r2, r3, r4, rf⟩ := row5 hr
  have f0 := rf 0
  have f1 := rf 1
  have f2 := rf 2
  have f3 := rf 3
  have f4 := rf 4
  obtain ⟨s0, s1, s2, s3, s4, sf⟩ := box_later hr
  have B1 := hide' (Below.on (HA.out _) b1)
  have hlt : w.heap.size < w1.heap.size := (Array.getElem?_eq_some_iff.1 hr).1
  have Hr := hide' hr
  clear b1 rf hr
  go_wp2_with fail
  have hfin := box_later (set5_heap (j := 0) (.int .i64 0) (.int .i64 0) (.slice none 0 0) (.slice none 0 0) (.slice none 0 0) Hr.out)
  simp only [set5, Nat.zero_add] at hfin
  obtain ⟨y0, y1, y2, y3, y4, _⟩ := hfin
  refine bodyPost_ret (v := .agg #[.int .i64 0, .int .i64 0, .slice none 0 0, .slice none 0 0, .slice none 0 0]) (by simp [results, Tryz.results49, go_sem, y0, y1, y2, y3, y4]) rfl ?_
  refine ⟨rfl, ?_⟩
  have hz := B1.out.size
  have hg := set5_grown w1 w.heap.size 0 (.int .i64 0) (.int .i64 0) (.slice none 0 0) (.slice none 0 0) (.slice none 0 0)
  have hB := B1.out.grown hg hz (by intro j hj; simp at hj; omega)
  have hs5 := set5_size w1 w.heap.size 0 (.int .i64 0) (.int .i64 0) (.slice none 0 0) (.slice none 0 0) (.slice none 0 0)
  exact hB.alloc (by omega) _

set_option maxHeartbeats 3200000 in
set_option maxRecDepth 100000 in
theorem valueOf_unknownPart  (w : World) : Calls Tryz.prog 49 #[.iface 150 (.agg #[])] w fun e w' => e = .returned (.agg #[.int .i64 6, .int .i64 0, .slice none 0 0, .slice none 0 0, .slice none 0 0]) ∧ Below w.heap.size w w' := by
  have m1 := meth_unknownPart (.agg #[])
  have t1 := nobool_unknownPart (.agg #[])
  have t2 := noint_unknownPart (.agg #[])
  have t3 := notext_unknownPart (.agg #[])
  have t4 := nolist_unknownPart (.agg #[])
  have t5 := nomap_unknownPart (.agg #[])
  have HK := hide' (kind_unknownPart)
  have HA : Hid (∀ o : Obj, Below w.heap.size w (w.alloc o)) := fun o => (Below.refl _ _).alloc (Nat.le_refl _) o
  go_enter Tryz.func49, Tryz.ntmps49
  go_wp2_with fail
  refine (HK.out _).mono ?_
  rintro e w1 ⟨rfl, b1⟩
  have hr : w1.heap[w.heap.size]? = some (.cells #[.int .i64 0, .int .i64 0, .slice none 0 0, .slice none 0 0, .slice none 0 0] 37 (0, 0)) := box_row b1
  obtain ⟨r0, r1, r2, r3, r4, rf⟩ := row5 hr
  have f0 := rf 0
  have f1 := rf 1
  have f2 := rf 2
  have f3 := rf 3
  have f4 := rf 4
  obtain ⟨s0, s1, s2, s3, s4, sf⟩ := box_later hr
  have B1 := hide' (Below.on (HA.out _) b1)
  have hlt : w.heap.size < w1.heap.size := (Array.getElem?_eq_some_iff.1 hr).1
  have Hr := hide' hr
  clear b1 rf hr
  go_wp2_with fail
  have hfin := box_later (set5_heap (j := 0) (.int .i64 6) (.int .i64 0) (.slice none 0 0) (.slice none 0 0) (.slice none 0 0) Hr.out)
  simp only [set5, Nat.zero_add] at hfin
  obtain ⟨y0, y1, y2, y3, y4, _⟩ := hfin
  refine bodyPost_ret (v := .agg #[.int .i64 6, .int .i64 0, .slice none 0 0, .slice none 0 0, .slice none 0 0]) (by simp [results, Tryz.results49, go_sem, y0, y1, y2, y3, y4]) rfl ?_
  refine ⟨rfl, ?_⟩
  have hz := B1.out.size
  have hg := set5_grown w1 w.heap.size 0 (.int .i64 6) (.int .i64 0) (.slice none 0 0) (.slice none 0 0) (.slice none 0 0)
  have hB := B1.out.grown hg hz (by intro j hj; simp at hj; omega)
  have hs5 := set5_size w1 w.heap.size 0 (.int .i64 6) (.int .i64 0) (.slice none 0 0) (.slice none 0 0) (.slice none 0 0)
  exact hB.alloc (by omega) _

set_option maxHeartbeats 3200000 in
set_option maxRecDepth 100000 in
theorem valueOf_boolPart (n : Int) (w : World) : Calls Tryz.prog 49 #[.iface 106 (.agg #[.int .i64 n])] w fun e w' => e = .returned (.agg #[.int .i64 1, .int .i64 n, .slice none 0 0, .slice none 0 0, .slice none 0 0]) ∧ Below w.heap.size w w' := by
  have m1 := meth_boolPart (.agg #[.int .i64 n])
  have t1 := is_boolPart (.agg #[.int .i64 n])
  have HK := hide' (kind_boolPart n)
  have HA : Hid (∀ o : Obj, Below w.heap.size w (w.alloc o)) := fun o => (Below.refl _ _).alloc (Nat.le_refl _) o
  go_enter Tryz.func49, Tryz.ntmps49
  go_wp2_with fail
  refine (HK.out _).mono ?_
  rintro e w1 ⟨rfl, b1⟩
  have hr : w1.heap[w.heap.size]? = some (.cells #[.int .i64 0, .int .i64 0, .slice none 0 0, .slice none 0 0, .slice none 0 0] 37 (0, 0)) := box_row b1
  obtain ⟨r0, r1, r2, r3, r4, rf⟩ := row5 hr
  have f0 := rf 0
  have f1 := rf 1
  have f2 := rf 2
  have f3 := rf 3
  have f4 := rf 4
  obtain ⟨s0, s1, s2, s3, s4, sf⟩ := box_later2 hr
  have B1 := hide' (Below.on (HA.out _) b1)
  have hlt : w.heap.size < w1.heap.size := (Array.getElem?_eq_some_iff.1 hr).1
  have Hr := hide' hr
  clear b1 rf hr
  go_wp2_with fail
  have hfin := box_later2 (set5_heap (j := 0) (.int .i64 1) (.int .i64 n) (.slice none 0 0) (.slice none 0 0) (.slice none 0 0) Hr.out)
  simp only [set5, Nat.zero_add] at hfin
  obtain ⟨y0, y1, y2, y3, y4, _⟩ := hfin
  refine bodyPost_ret (v := .agg #[.int .i64 1, .int .i64 n, .slice none 0 0, .slice none 0 0, .slice none 0 0]) (by simp [results, Tryz.results49, go_sem, y0, y1, y2, y3, y4]) rfl ?_
  refine ⟨rfl, ?_⟩
  have hz := B1.out.size
  have hg := set5_grown w1 w.heap.size 0 (.int .i64 1) (.int .i64 n) (.slice none 0 0) (.slice none 0 0) (.slice none 0 0)
  have hB := B1.out.grown hg hz (by intro j hj; simp at hj; omega)
  have hs5 := set5_size w1 w.heap.size 0 (.int .i64 1) (.int .i64 n) (.slice none 0 0) (.slice none 0 0) (.slice none 0 0)
  exact (hB.alloc (by omega) _).alloc (by simp; omega) _

set_option maxHeartbeats 3200000 in
set_option maxRecDepth 100000 in
theorem valueOf_intPart (n : Int) (w : World) : Calls Tryz.prog 49 #[.iface 107 (.agg #[.int .i64 n])] w fun e w' => e = .returned (.agg #[.int .i64 2, .int .i64 n, .slice none 0 0, .slice none 0 0, .slice none 0 0]) ∧ Below w.heap.size w w' := by
  have m1 := meth_intPart (.agg #[.int .i64 n])
  have t1 := nobool_intPart (.agg #[.int .i64 n])
  have t2 := is_intPart (.agg #[.int .i64 n])
  have HK := hide' (kind_intPart n)
  have HA : Hid (∀ o : Obj, Below w.heap.size w (w.alloc o)) := fun o => (Below.refl _ _).alloc (Nat.le_refl _) o
  go_enter Tryz.func49, Tryz.ntmps49
  go_wp2_with fail
  refine (HK.out _).mono ?_
  rintro e w1 ⟨rfl, b1⟩
  have hr : w1.heap[w.heap.size]? = some (.cells #[.int .i64 0, .int .i64 0, .slice none 0 0, .slice none 0 0, .slice none 0 0] 37 (0, 0)) := box_row b1
  obtain ⟨r0, r1, r2, r3, r4, rf⟩ := row5 hr
  have f0 := rf 0
  have f1 := rf 1
  have f2 := rf 2
  have f3 := rf 3
  have f4 := rf 4
  obtain ⟨s0, s1, s2, s3, s4, sf⟩ := box_later2 hr
  have B1 := hide' (Below.on (HA.out _) b1)
  have hlt : w.heap.size < w1.heap.size := (Array.getElem?_eq_some_iff.1 hr).1
  have Hr := hide' hr
  clear b1 rf hr
  go_wp2_with fail
  have hfin := box_later2 (set5_heap (j := 0) (.int .i64 2) (.int .i64 n) (.slice none 0 0) (.slice none 0 0) (.slice none 0 0) Hr.out)
  simp only [set5, Nat.zero_add] at hfin
  obtain ⟨y0, y1, y2, y3, y4, _⟩ := hfin
  refine bodyPost_ret (v := .agg #[.int .i64 2, .int .i64 n, .slice none 0 0, .slice none 0 0, .slice none 0 0]) (by simp [results, Tryz.results49, go_sem, y0, y1, y2, y3, y4]) rfl ?_
  refine ⟨rfl, ?_⟩
  have hz := B1.out.size
  have hg := set5_grown w1 w.heap.size 0 (.int .i64 2) (.int .i64 n) (.slice none 0 0) (.slice none 0 0) (.slice none 0 0)
  have hB := B1.out.grown hg hz (by intro j hj; simp at hj; omega)
  have hs5 := set5_size w1 w.heap.size 0 (.int .i64 2) (.int .i64 n) (.slice none 0 0) (.slice none 0 0) (.slice none 0 0)
  exact (hB.alloc (by omega) _).alloc (by simp; omega) _

end Go.Proofs.YtbmgkmnibjdpiaaGreatDoor
/-
  valueOf of the program at a text.
-/
namespace Go.Proofs.YtbmgkmnibjdpiaaGreatDoor
open Go.RowKit Go.Shelf
set_option linter.unusedVariables false
set_option linter.unusedSimpArgs false

/-- After the append: the boxes stand, the row is the call's own. -/
theorem valT_after {w1 w2 : World} {r : Nat} {xs : List Int} {v' : Value} {oV oT : Obj} {n : Nat} {ys : List Value} (hx : ∀ x ∈ xs, Byt x) (hr : w1.heap[r]? = some (.cells #[.int .i64 0, .int .i64 0, .slice none 0 0, .slice none 0 0, .slice none 0 0] 37 (0, 0)))
    (hown : w2.ownsRow (w1.heap.size + 2) 5 1 v' n ys) (hn : n = xs.length) (hys : ys = cellsOf xs) (hg : ((w1.alloc oV).alloc oT).grownBy w2 none) :
    ∃ a cap, v' = .slice a xs.length cap ∧ w2.heap[w1.heap.size]? = some oV ∧ w2.heap[r]? = some (.cells #[.int .i64 0, .int .i64 0, .slice none 0 0, .slice none 0 0, .slice none 0 0] 37 (0, 0)) ∧
      ∃ B, TOwn w2 (.slice a xs.length cap) xs B ∧ (∀ b ∈ B, w1.heap.size + 2 ≤ b ∧ b < w2.heap.size) ∧ Below w1.heap.size w1 w2 ∧ w1.heap.size + 2 ≤ w2.heap.size := by
  subst hn hys
  have hsz : w1.heap.size + 2 ≤ w2.heap.size := by have := hg.size; simp at this; omega
  have hlt := (Array.getElem?_eq_some_iff.1 hr).1
  have hV : w2.heap[w1.heap.size]? = some oV := (hg.block _ (by simp; omega) (by simp)).trans ((Below.heap_alloc _ _ _ (by simp)).trans (MapKept.heap_alloc w1 oV).1)
  have hR := (hg.block r (by simp; omega) (by simp)).trans ((Below.heap_alloc _ _ _ (by simp; omega)).trans ((Below.heap_alloc _ _ _ hlt).trans hr))
  have hB : Below w1.heap.size w1 w2 := (((Below.refl _ w1).alloc (Nat.le_refl _) oV).alloc (by simp) oT).grown hg (by simp; omega) (by simp)
  have hown' := hown
  obtain ⟨hl, ⟨rfl, h0⟩ | ⟨g, cap, cur, rfl, hb, hh, r⟩⟩ := hown
  · have : xs = [] := List.eq_nil_of_length_eq_zero h0
    subst this
    exact ⟨none, 0, rfl, hV, hR, [], ⟨⟨hx, by simp [cellsOf], .inl ⟨rfl, rfl⟩⟩, .inl ⟨rfl, rfl⟩⟩, by simp, hB, hsz⟩
  · exact ⟨some ⟨g, 0, none⟩, cap, rfl, hV, hR, [g], ⟨Bts.free (base := 0) ⟨hx, hl, .inr ⟨g, cap, cur, rfl, Nat.zero_le _, hh, r⟩⟩, .inr ⟨g, cap, rfl, rfl⟩⟩, by intro b hb'; simp at hb'; subst hb'; exact ⟨hb, (Array.getElem?_eq_some_iff.1 hh).1⟩, hB, hsz⟩

set_option maxHeartbeats 3200000 in
set_option maxRecDepth 100000 in
theorem valueOf_textPart (xs : List Int) (hx : ∀ x ∈ xs, Byt x) (hl : xs.length ≤ 64) (w : World) : Calls Tryz.prog 49 #[.iface 109 (.agg #[.string (strOf xs)])] w fun e w' => ∃ u B, e = .returned (.agg #[.int .i64 3, .int .i64 0, u, .slice none 0 0, .slice none 0 0]) ∧ TOwn w' u xs B ∧ (∀ b ∈ B, w.heap.size ≤ b ∧ b < w'.heap.size) ∧ Below w.heap.size w w' := by
  have hsz : (strOf xs).size = xs.length := size_strOf xs
  have hsc := strCells_of hx
  obtain ⟨i0, hi, hz0, hz1, hz2⟩ := info_parts info5
  generalize strOf xs = sx at *
  have m1 := meth_textPart (.agg #[.string sx])
  have t1 := nobool_textPart (.agg #[.string sx])
  have t2 := noint_textPart (.agg #[.string sx])
  have t3 := is_textPart (.agg #[.string sx])
  have HK := hide' (kind_textPart sx)
  have HA : Hid (∀ o : Obj, Below w.heap.size w (w.alloc o)) := fun o => (Below.refl _ _).alloc (Nat.le_refl _) o
  go_enter Tryz.func49, Tryz.ntmps49
  go_wp2_with fail
  refine (HK.out _).mono ?_
  rintro e w1 ⟨rfl, b1⟩
  have hr : w1.heap[w.heap.size]? = some (.cells #[.int .i64 0, .int .i64 0, .slice none 0 0, .slice none 0 0, .slice none 0 0] 37 (0, 0)) := box_row b1
  have B1 := hide' (Below.on (HA.out _) b1)
  have hlt : w.heap.size < w1.heap.size := (Array.getElem?_eq_some_iff.1 hr).1
  have hne : ¬ w.heap.size = w1.heap.size := by omega
  have hne' : ¬ w1.heap.size = w.heap.size := by omega
  have Hr := hide' hr
  clear b1 hr
  go_wp2_with (at_builtin; refine Lib.wpList_append_own_string _ rfl _ _ 22 9 rfl (w1.heap.size + 2) 5 i0 Tryz.underlying22 Tryz.underlying9 hi hz0 hz1 hz2 _ 0 [] rfl ⟨rfl, .inl ⟨rfl, rfl⟩⟩ sx rfl (by unfold maxLen; omega) (by omega) (by simp) ?_; intro v' w2 hown hg hnil; obtain ⟨a, cap, hv', hV, hR, B, hT, hBs, hB2, hsz2⟩ := valT_after hx Hr.out hown (by rw [Nat.zero_add]; exact hsz) (by rw [List.nil_append]; exact hsc) hg; clear hown hg hnil; subst hv'; obtain ⟨c0, c1, c2, c3, c4, cf⟩ := row5 hV; have cf2 := cf 2; obtain ⟨r0, r1, r2, r3, r4, rf⟩ := row5 hR; have f0 := rf 0; have f1 := rf 1; have f2 := rf 2; have f3 := rf 3; have f4 := rf 4; replace hV := hide' hV; replace hR := hide' hR; replace hT := hide' hT; replace hBs := hide' hBs; replace hB2 := hide' hB2; clear rf cf)
  have hR3 : (w2.setCell ⟨w1.heap.size, 2, none⟩ (.slice a xs.length cap)).heap[w.heap.size]? = _ := (Below.heap_setCell w2 ⟨w1.heap.size, 2, none⟩ (.slice a xs.length cap) w.heap.size hne).trans hR.out
  have hrow := set5_heap (j := 0) (.int .i64 3) (.int .i64 0) (.slice a xs.length cap) (.slice none 0 0) (.slice none 0 0) hR3
  have hfin := row5 hrow
  simp only [set5, Nat.zero_add] at hfin
  obtain ⟨y0, y1, y2, y3, y4, _⟩ := hfin
  refine bodyPost_ret (v := .agg #[.int .i64 3, .int .i64 0, .slice a xs.length cap, .slice none 0 0, .slice none 0 0]) (by simp [results, Tryz.results49, go_sem, y0, y1, y2, y3, y4]) rfl ?_
  have hA := grown1 w2 w1.heap.size 2 (.slice a xs.length cap)
  have hsz3 : (w2.setCell ⟨w1.heap.size, 2, none⟩ (.slice a xs.length cap)).heap.size = w2.heap.size := by simp [World.setCell]
  have hB5 := set5_grown (w2.setCell ⟨w1.heap.size, 2, none⟩ (.slice a xs.length cap)) w.heap.size 0 (.int .i64 3) (.int .i64 0) (.slice a xs.length cap) (.slice none 0 0) (.slice none 0 0)
  have hsz4 := set5_size (w2.setCell ⟨w1.heap.size, 2, none⟩ (.slice a xs.length cap)) w.heap.size 0 (.int .i64 3) (.int .i64 0) (.slice a xs.length cap) (.slice none 0 0) (.slice none 0 0)
  have hBn := Below.on B1.out hB2.out
  have hBf := (hBn.grown hA (by omega) (by intro j hj; simp at hj; omega)).grown hB5 (by omega) (by intro j hj; simp at hj; omega)
  refine ⟨_, B, rfl, hT.out.agree fun b h => ?_, fun b h => ?_, hBf⟩
  · have hb := hBs.out b h
    exact (hB5.block b (by omega) (by simp; omega)).trans (hA.block b (by omega) (by simp; omega))
  · have hb := hBs.out b h
    show w.heap.size ≤ b ∧ b < (set5 _ _ _ _ _ _ _ _).heap.size
    omega
end Go.Proofs.YtbmgkmnibjdpiaaGreatDoor
/-
  What the model holds of the type of values.
-/
namespace Go.Proofs.YtbmgkmnibjdpiaaGreatDoor
open Go.RowKit

theorem info_valueT : (Tryz.prog.info? 37).map (fun i => (i.zero, i.size, i.bytes)) = some (some (.agg #[.int .i64 0, .int .i64 0, .slice none 0 0, .slice none 0 0, .slice none 0 0]), 5, 88) := by kernel_rfl

end Go.Proofs.YtbmgkmnibjdpiaaGreatDoor
/-
  valueOf of the program at a list.
-/
namespace Go.Proofs.YtbmgkmnibjdpiaaGreatDoor
open Go.RowKit Go.Shelf
set_option linter.unusedVariables false
set_option linter.unusedSimpArgs false


/-- The contract of valueOf, at depth d. -/
def ValAt (d : Nat) : Prop := ∀ (N : Nat) (p : Value) (v : Vl d) (deep : Nat) (w : World), PSeg (fun b => b < N) w d p v → N ≤ w.heap.size → goodB d v deep = true → partsV d v ≤ 40 → Calls Tryz.prog 49 #[p] w (ValEnd d v w)

/-- After k rounds: V's box (block B) holds a list of k values of the call's own, in blocks from 'base' on. -/
def VInv (w1 : World) (B base : Nat) (d : Nat) (l : List (Vl d)) (kk : Int) (y3 : Value) (k : Nat) (wr : World) (x : Value) (cs : List (List Value)) (Bi : List (List Nat)) : Prop :=
  wr.heap[B]? = some (.cells #[.int .i64 kk, .int .i64 0, .slice none 0 0, y3, x] 37 (0, 0)) ∧ RW 37 5 (ItV d l) wr base x k cs Bi ∧ Below B w1 wr ∧ base ≤ wr.heap.size

theorem vinv_step {w1 wr w5 w6 : World} {B base d : Nat} {l : List (Vl d)} {kk : Int} {y3 : Value} {k : Nat} {x : Value} {cs : List (List Value)} {Bi : List (List Nat)} {c : List Value} {Bv : List Nat} {g cp : Nat} {o : Obj} (h : VInv w1 B base d l kk y3 k wr x cs Bi) (hB : B < base)
    (b5 : Below wr.heap.size wr w5) (hv : ItV d l w5 k c Bv) (hBv : ∀ b ∈ Bv, wr.heap.size ≤ b ∧ b < w5.heap.size) (hBn : Bv.Nodup)
    (hown : w6.ownsRow base 37 5 (.slice (some ⟨g, 0, none⟩) (k + 1) cp) (k + 1) (cs.flatten ++ c)) (hg : (w5.alloc o).grownBy w6 x.ownBlock) (hat : x.ownBlock = some g ∨ g = w5.heap.size + 1) :
    w6.heap[B]? = some (.cells #[.int .i64 kk, .int .i64 0, .slice none 0 0, y3, x] 37 (0, 0)) ∧ VInv w1 B base d l kk y3 (k + 1) (w6.setCell ⟨B, 4, none⟩ (.slice (some ⟨g, 0, none⟩) (k + 1) cp)) (.slice (some ⟨g, 0, none⟩) (k + 1) cp) (cs ++ [c]) (Bi ++ [Bv]) ∧ Below wr.heap.size wr w5 := by
  obtain ⟨h1, h2, h3, h4⟩ := h
  have hz5 := b5.size
  have hz6 := hg.size
  simp at hz6
  have hxlt := h2.2.2.1.lt
  have hBw : B < wr.heap.size := by omega
  have hneB : some B ≠ x.ownBlock := fun e => by have := hxlt B e.symm; omega
  have hV6 : w6.heap[B]? = some (.cells #[.int .i64 kk, .int .i64 0, .slice none 0 0, y3, x] 37 (0, 0)) := (hg.block B (by simp; omega) hneB).trans ((Below.heap_alloc _ _ _ (by omega)).trans ((b5.block B hBw).trans h1))
  have hA := grown1 w6 B 4 (.slice (some ⟨g, 0, none⟩) (k + 1) cp)
  have hR := RW.add (w2 := w5.alloc o) (ItV.agree d l) h2 (fun b hb => (Below.heap_alloc _ _ _ (by omega)).trans (b5.block b hb)) (by simp; omega) (ItV.agree d l _ _ _ _ _ hv fun b hb => Below.heap_alloc _ _ _ (hBv b hb).2) (fun b hb => by have := hBv b hb; simp; omega) hBn h4 hown hg (by simpa using hat)
  refine ⟨hV6, ⟨heap_setCell_same w6 B 4 _ _ _ hV6, ?_, ?_, ?_⟩, b5⟩
  · refine hR.agree (ItV.agree d l) (fun b hb => ?_) (by simp [World.setCell])
    have := hR.2.2.2.2.2 b hb
    exact Below.heap_setCell w6 _ _ b (by show b ≠ B; omega)
  · have hb1 : Below B w1 (w5.alloc o) := (Below.trans h3 (b5.mono (by omega))).alloc (by have := h3.size; omega) o
    have hb2 := hb1.grown hg (by simp; omega) (fun j hj => by have := hxlt j hj; omega)
    exact hb2.grown hA (by omega) (by intro j hj; simp at hj; omega)
  · show base ≤ (w6.setCell _ _).heap.size
    simp [World.setCell]
    omega

/-- What a call of valueOf leaves of it. -/
def VCall (B base : Nat) (d : Nat) (l : List (Vl d)) (k : Nat) (wr : World) (x : Value) (xs : List Value) (e : Ending) (w5 : World) : Prop :=
  ∃ (uk un : Int) (s2 : Option Addr) (n2 r2 : Nat) (s3 : Option Addr) (n3 r3 : Nat) (s4 : Option Addr) (n4 r4 : Nat), e = .returned (.agg #[.int .i64 uk, .int .i64 un, .slice s2 n2 r2, .slice s3 n3 r3, .slice s4 n4 r4]) ∧
    ∃ Bv, ItV d l w5 k [.int .i64 uk, .int .i64 un, .slice s2 n2 r2, .slice s3 n3 r3, .slice s4 n4 r4] Bv ∧ (∀ b ∈ Bv, wr.heap.size ≤ b ∧ b < w5.heap.size) ∧ Bv.Nodup ∧ Below wr.heap.size wr w5 ∧ w5.cell? ⟨B, 4, none⟩ = some x ∧ w5.ownsRow base 37 5 x k xs

theorem vinv_call {w1 wr wy w5 : World} {B base d : Nat} {l : List (Vl d)} {kk : Int} {y3 : Value} {k : Nat} {x : Value} {cs : List (List Value)} {Bi : List (List Nat)} {e : Ending} (h : VInv w1 B base d l kk y3 k wr x cs Bi) (hB : B < base) (hk : k < l.length)
    (hy : Below wr.heap.size wr wy) (he : ValEnd d l[k] wy e w5) : VCall B base d l k wr x cs.flatten e w5 := by
  obtain ⟨u0, u1, u2, u3, u4, rfl, Bv, hv, hb, h5⟩ := he
  obtain ⟨uk, un, s2, n2, r2, s3, n3, r3, s4, n4, r4, rfl, rfl, rfl, rfl, rfl⟩ := VOwn.form d hv
  have hb5 := Below.on hy h5
  have hz := hy.size
  refine ⟨uk, un, s2, n2, r2, s3, n3, r3, s4, n4, r4, rfl, Bv, ⟨_, rfl, hk, hv⟩, fun b hm => ?_, VOwn.nodup d hv, hb5, ?_, ?_⟩
  · have := hb b hm; omega
  · exact (World.cell?_of_block (hb5.block B (by have := h.2.2.2; omega))).trans (row5 h.1).2.2.2.2.1
  · exact h.2.1.2.2.1.kept (row := none) ⟨hb5.os, hb5.tape, hb5.output, hb5.size, fun k hk _ => hb5.block k hk⟩ (by cases hv : x.ownBlock <;> simp)
end Go.Proofs.YtbmgkmnibjdpiaaGreatDoor
