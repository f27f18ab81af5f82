/-
  Texts that a law leans on, one behind the other; no statement is proved here.
-/
import Derived.Test.YtenfnbnhdmkhkaaPk32
import Derived.Laws.IdiomStrings
import Derived.Test.YtenfnbnhdmkhkaaPk23
import Derived.Test.YtenfnbnhdmkhkaaPk26
/-
  valueOf of the program at a map: what its rounds leave.
-/
namespace Go.Proofs.Ytenfnbnhdmkhkaa
open Go.RowKit Go.Shelf
set_option linter.unusedVariables false
set_option linter.unusedSimpArgs false

/-- After some rounds: V's box (block B) holds kK texts and kL values of the call's own, in blocks of their own from w2's end on. -/
def MInv (w2 : World) (B d : Nat) (l : List (Vl d)) (ks : List (List Int)) (kK kL : Nat) (wr : World) (xK : Value) (csK : List (List Value)) (BiK : List (List Nat)) (xL : Value) (csL : List (List Value)) (BiL : List (List Nat)) : Prop :=
  w2.grownBy wr (some B) ∧ wr.heap[B]? = some (.cells #[.int .i64 5, .int .i64 0, .slice none 0 0, xK, xL] 26 (0, 0)) ∧ RW 22 1 (ItK ks) wr w2.heap.size xK kK csK BiK ∧ RW 26 5 (ItV d l) wr w2.heap.size xL kL csL BiL ∧
    ∀ b ∈ xK.ownBlock.toList ++ BiK.flatten, b ∉ xL.ownBlock.toList ++ BiL.flatten

variable {w2 wr wB w6 : World} {B d : Nat} {l : List (Vl d)} {ks : List (List Int)} {k kL kK : Nat} {xK xL : Value} {csK csL : List (List Value)} {BiK BiL : List (List Nat)} {c : List Value} {Bv : List Nat} {g cp : Nat} {o : Obj}

theorem minv_k (h : MInv w2 B d l ks k kL wr xK csK BiK xL csL BiL) (hB : B < w2.heap.size) (b5 : Below wr.heap.size wr wB) (hv : ItK ks wB k c Bv) (hBv : ∀ b ∈ Bv, wr.heap.size ≤ b ∧ b < wB.heap.size) (hBn : Bv.Nodup)
    (hown : w6.ownsRow w2.heap.size 22 1 (.slice (some ⟨g, 0, none⟩) (k + 1) cp) (k + 1) (csK.flatten ++ c)) (hg : (wB.alloc o).grownBy w6 xK.ownBlock) (hat : xK.ownBlock = some g ∨ g = wB.heap.size + 1) :
    w6.heap[B]? = some (.cells #[.int .i64 5, .int .i64 0, .slice none 0 0, xK, xL] 26 (0, 0)) ∧ wr.heap.size ≤ w6.heap.size ∧ (∀ b, wr.heap.size ≤ b → b < wB.heap.size → w6.heap[b]? = wB.heap[b]?) ∧
      MInv w2 B d l ks (k + 1) kL (w6.setCell ⟨B, 3, none⟩ (.slice (some ⟨g, 0, none⟩) (k + 1) cp)) (.slice (some ⟨g, 0, none⟩) (k + 1) cp) (csK ++ [c]) (BiK ++ [Bv]) xL csL BiL := by
  obtain ⟨h1, h2, h3, h4, h5⟩ := h
  have hz1 := h1.size
  have hz5 := b5.size
  have hz6 := hg.size
  simp at hz6
  have hxlt := h3.2.2.1.lt
  have hneB : some B ≠ xK.ownBlock := fun e => by have := hxlt B e.symm; omega
  have hV6 : w6.heap[B]? = some (.cells #[.int .i64 5, .int .i64 0, .slice none 0 0, xK, xL] 26 (0, 0)) := (hg.block B (by simp; omega) hneB).trans ((Below.heap_alloc _ _ _ (by omega)).trans ((b5.block B (by omega)).trans h2))
  have hA := grown1 w6 B 3 (.slice (some ⟨g, 0, none⟩) (k + 1) cp)
  have hsA : (w6.setCell ⟨B, 3, none⟩ (.slice (some ⟨g, 0, none⟩) (k + 1) cp)).heap.size = w6.heap.size := by simp [World.setCell]
  have hR := RW.add (w2 := wB.alloc o) (ItK.agree ks) h3 (fun b hb => (Below.heap_alloc _ _ _ (by omega)).trans (b5.block b hb)) (by simp; omega) (ItK.agree ks _ _ _ _ _ hv fun b hb => Below.heap_alloc _ _ _ (hBv b hb).2) (fun b hb => by have := hBv b hb; simp; omega) hBn hz1 hown hg (by simpa using hat)
  have hLb := h4.2.2.2.2.2
  have hLK : ∀ b ∈ xL.ownBlock.toList ++ BiL.flatten, some b ≠ xK.ownBlock := fun b hb e => h5 b (by simp [← e]) hb
  refine ⟨hV6, by omega, fun b hb1 hb2 => (hg.block b (by simp; omega) (fun e => by have := hxlt b e.symm; omega)).trans (Below.heap_alloc _ _ _ hb2), ⟨?_, heap_setCell_same w6 B 3 _ _ _ hV6, ?_, ?_, ?_⟩⟩
  · refine ⟨h1.os ▸ b5.os ▸ hg.os ▸ rfl, h1.tape ▸ b5.tape ▸ hg.tape ▸ rfl, h1.output ▸ b5.output ▸ hg.output ▸ rfl, by omega, fun b hb hne => ?_⟩
    exact (hA.block b (by omega) hne).trans ((hg.block b (by simp; omega) (fun e => by have := hxlt b e.symm; omega)).trans ((Below.heap_alloc _ _ _ (by omega)).trans ((b5.block b (by omega)).trans (h1.block b hb hne))))
  · refine hR.agree (ItK.agree ks) (fun b hb => ?_) (by omega)
    have := hR.2.2.2.2.2 b hb
    exact Below.heap_setCell w6 _ _ b (by show b ≠ B; omega)
  · refine h4.agree (ItV.agree d l) (fun b hb => ?_) (by omega)
    have hb' := hLb b hb
    exact (Below.heap_setCell w6 ⟨B, 3, none⟩ _ b (by show b ≠ B; omega)).trans ((hg.block b (by simp; omega) (hLK b hb)).trans ((Below.heap_alloc _ _ _ (by omega)).trans (b5.block b hb'.2)))
  · intro b hb hbL
    have hb' := hLb b hbL
    simp only [Value.ownBlock, Option.toList_some, List.flatten_append, List.flatten_singleton, List.singleton_append, List.mem_cons, List.mem_append] at hb
    rcases hb with rfl | hb | hb
    · rcases hat with hx | hx
      · exact h5 b (by simp [hx]) hbL
      · omega
    · exact h5 b (by simp [hb]) hbL
    · have := hBv b hb; omega

theorem minv_l (h : MInv w2 B d l ks kK k wr xK csK BiK xL csL BiL) (hB : B < w2.heap.size) (b5 : Below wr.heap.size wr wB) (hv : ItV d l wB k c Bv) (hBv : ∀ b ∈ Bv, wr.heap.size ≤ b ∧ b < wB.heap.size) (hBn : Bv.Nodup)
    (hown : w6.ownsRow w2.heap.size 26 5 (.slice (some ⟨g, 0, none⟩) (k + 1) cp) (k + 1) (csL.flatten ++ c)) (hg : (wB.alloc o).grownBy w6 xL.ownBlock) (hat : xL.ownBlock = some g ∨ g = wB.heap.size + 1) :
    w6.heap[B]? = some (.cells #[.int .i64 5, .int .i64 0, .slice none 0 0, xK, xL] 26 (0, 0)) ∧
      MInv w2 B d l ks kK (k + 1) (w6.setCell ⟨B, 4, none⟩ (.slice (some ⟨g, 0, none⟩) (k + 1) cp)) xK csK BiK (.slice (some ⟨g, 0, none⟩) (k + 1) cp) (csL ++ [c]) (BiL ++ [Bv]) := by
  obtain ⟨h1, h2, h3, h4, h5⟩ := h
  have hz1 := h1.size
  have hz5 := b5.size
  have hz6 := hg.size
  simp at hz6
  have hxlt := h4.2.2.1.lt
  have hneB : some B ≠ xL.ownBlock := fun e => by have := hxlt B e.symm; omega
  have hV6 : w6.heap[B]? = some (.cells #[.int .i64 5, .int .i64 0, .slice none 0 0, xK, xL] 26 (0, 0)) := (hg.block B (by simp; omega) hneB).trans ((Below.heap_alloc _ _ _ (by omega)).trans ((b5.block B (by omega)).trans h2))
  have hA := grown1 w6 B 4 (.slice (some ⟨g, 0, none⟩) (k + 1) cp)
  have hsA : (w6.setCell ⟨B, 4, none⟩ (.slice (some ⟨g, 0, none⟩) (k + 1) cp)).heap.size = w6.heap.size := by simp [World.setCell]
  have hR := RW.add (w2 := wB.alloc o) (ItV.agree d l) h4 (fun b hb => (Below.heap_alloc _ _ _ (by omega)).trans (b5.block b hb)) (by simp; omega) (ItV.agree d l _ _ _ _ _ hv fun b hb => Below.heap_alloc _ _ _ (hBv b hb).2) (fun b hb => by have := hBv b hb; simp; omega) hBn hz1 hown hg (by simpa using hat)
  have hKb := h3.2.2.2.2.2
  have hKL : ∀ b ∈ xK.ownBlock.toList ++ BiK.flatten, some b ≠ xL.ownBlock := fun b hb e => h5 b hb (by simp [← e])
  refine ⟨hV6, ?_, heap_setCell_same w6 B 4 _ _ _ hV6, ?_, ?_, ?_⟩
  · refine ⟨h1.os ▸ b5.os ▸ hg.os ▸ rfl, h1.tape ▸ b5.tape ▸ hg.tape ▸ rfl, h1.output ▸ b5.output ▸ hg.output ▸ rfl, by omega, fun b hb hne => ?_⟩
    exact (hA.block b (by omega) hne).trans ((hg.block b (by simp; omega) (fun e => by have := hxlt b e.symm; omega)).trans ((Below.heap_alloc _ _ _ (by omega)).trans ((b5.block b (by omega)).trans (h1.block b hb hne))))
  · refine h3.agree (ItK.agree ks) (fun b hb => ?_) (by omega)
    have hb' := hKb b hb
    exact (Below.heap_setCell w6 ⟨B, 4, none⟩ _ b (by show b ≠ B; omega)).trans ((hg.block b (by simp; omega) (hKL b hb)).trans ((Below.heap_alloc _ _ _ (by omega)).trans (b5.block b hb'.2)))
  · refine hR.agree (ItV.agree d l) (fun b hb => ?_) (by omega)
    have := hR.2.2.2.2.2 b hb
    exact Below.heap_setCell w6 _ _ b (by show b ≠ B; omega)
  · intro b hb hbL
    have hb' := hKb b hb
    simp only [Value.ownBlock, Option.toList_some, List.flatten_append, List.flatten_singleton, List.singleton_append, List.mem_cons, List.mem_append] at hbL
    rcases hbL with rfl | hbL | hbL
    · rcases hat with hx | hx
      · exact h5 b hb (by simp [hx])
      · omega
    · exact h5 b hb (by simp [hbL])
    · have := hBv b hbL; omega

theorem minv_call {wy w5 : World} {e : Ending} (h : MInv w2 B d l ks kK k wr xK csK BiK xL csL BiL) (hB : B < w2.heap.size) (hk : k < l.length) (hy : Below wr.heap.size wr wy) (he : ValEnd d l[k] wy e w5) : VCall B w2.heap.size d l k wr xL csL.flatten e w5 := by
  obtain ⟨u0, u1, u2, u3, u4, rfl, Bv, hv, hb, h5⟩ := he
  obtain ⟨uk, un, s2, n2, r2, s3, n3, r3, s4, n4, r4, rfl, rfl, rfl, rfl, rfl⟩ := VOwn.form d hv
  have hb5 := Below.on hy h5
  have hz := hy.size
  refine ⟨uk, un, s2, n2, r2, s3, n3, r3, s4, n4, r4, rfl, Bv, ⟨_, rfl, hk, hv⟩, fun b hm => ?_, VOwn.nodup d hv, hb5, ?_, ?_⟩
  · have := hb b hm; omega
  · exact (World.cell?_of_block (hb5.block B (by have := h.1.size; omega))).trans (row5 h.2.1).2.2.2.2.1
  · exact h.2.2.2.1.2.2.1.kept (row := none) ⟨hb5.os, hb5.tape, hb5.output, hb5.size, fun k hk _ => hb5.block k hk⟩ (by cases hv : xL.ownBlock <;> simp)

/-- What valueOf leaves of a map. -/
def MapEnd (d : Nat) (l : List (Vl d)) (ks : List (List Int)) (w : World) (e : Ending) (w' : World) : Prop :=
  ∃ uK uL, e = .returned (.agg #[.int .i64 5, .int .i64 0, .slice none 0 0, uK, uL]) ∧ ∃ Bk Bl, KOwn w' uK ks Bk ∧ LOwn w' d uL l Bl ∧ (∀ b ∈ Bk ++ Bl, w.heap.size ≤ b ∧ b < w'.heap.size) ∧ (Bk ++ Bl).Nodup ∧ Below w.heap.size w w'
end Go.Proofs.Ytenfnbnhdmkhkaa
/-
  valueOf of the program at a map: the walk.
-/
namespace Go.Proofs.Ytenfnbnhdmkhkaa
open Go.RowKit Go.Shelf
set_option linter.unusedVariables false
set_option linter.unusedSimpArgs false

set_option maxHeartbeats 12800000 in
set_option maxRecDepth 100000 in
theorem valueOf_mapPart (d : Nat) (ih : ValAt d) (N b : Nat) (ps : List Value) (l : List (Vl d)) (ks : List (List Int)) (w : World) (hb : b < N) (hm : w.ownsMap Try.prog 9 tokR b 128 (mapD ks ps l.length)) (hkl : ks.length = l.length) (hst : ∀ i, i < l.length → upB ks i = true) (hkb : ∀ i, i < l.length → (∀ x ∈ ks.getD i [], Byt x) ∧ (ks.getD i []).length ≤ 1048576)
    (hps : ∀ i (h : i < l.length), PSeg (fun b => b < N) w d (ps.getD i .nilIface) l[i]) (hN : N ≤ w.heap.size) (hl : l.length ≤ 100) (hgd : ∀ i (h : i < l.length), ∃ deep, goodB d l[i] deep = true ∧ partsV d l[i] ≤ 40) :
    Calls Try.prog 34 #[.iface 60 (.agg #[.map (some b)])] w (MapEnd d l ks w) := by
  obtain ⟨i0, hi, hz0, hz1, hz2⟩ := info_parts info_valueT
  obtain ⟨iT, hiT, hy0, hy1, hy2⟩ := info_parts infoT
  have m1 := meth_mapPart (.agg #[.map (some b)])
  have t1 := nobool_mapPart (.agg #[.map (some b)])
  have t2 := noint_mapPart (.agg #[.map (some b)])
  have t3 := notext_mapPart (.agg #[.map (some b)])
  have t4 := nolist_mapPart (.agg #[.map (some b)])
  have t5 := is_mapPart (.agg #[.map (some b)])
  have HK := hide' (kind_mapPart b)
  have HA : Hid (∀ o : Obj, Below w.heap.size w (w.alloc o)) := fun o => (Below.refl _ _).alloc (Nat.le_refl _) o
  have HSh : Hid (∀ i, i < l.length → ∃ t x, ps.getD i .nilIface = .iface t x) := fun i hi => (hps i hi).shape
  have HF : Hid (∀ wy, Below w.heap.size w wy → Calls Try.prog 44 #[.agg #[.map (some b)]] wy fun e w' => ∃ u, e = .returned u ∧ FRow w' u ks ps l.length ∧ Below wy.heap.size wy w') := fun wy hy =>
    fields_anyU b l.length ks ps wy (hm.kept (below_grows hy none) (by simp)) hst HSh.out hl
  have HP := hide' hps
  have HG := hide' hgd
  have HKB := hide' hkb
  clear hps hgd hm hst hkb
  go_enter Try.func34, Try.ntmps34
  go_wp2_with fail
  refine (HK.out _).mono ?_
  rintro e w1 ⟨rfl, b1⟩
  have hr : w1.heap[w.heap.size]? = some (.cells #[.int .i64 0, .int .i64 0, .slice none 0 0, .slice none 0 0, .slice none 0 0] 26 (0, 0)) := box_row b1
  have B1 := hide' (Below.on (HA.out _) b1)
  have hlt : w.heap.size < w1.heap.size := (Array.getElem?_eq_some_iff.1 hr).1
  have hne : ¬ w.heap.size = w1.heap.size := by omega
  have hne' : ¬ w1.heap.size = w.heap.size := by omega
  have Hr := hide' hr
  have HV : Hid (∀ o o' : Obj, ((w1.alloc o).alloc o').heap[w1.heap.size]? = some o ∧ Below w1.heap.size w1 ((w1.alloc o).alloc o')) := fun o o' => ⟨(Below.heap_alloc _ _ _ (by simp)).trans (MapKept.heap_alloc w1 o).1, ((Below.refl _ _).alloc (Nat.le_refl _) o).alloc (by simp) o'⟩
  clear b1 hr
  go_wp2_with fail
  refine (HF.out _ (Below.on B1.out (HV.out _ _).2)).mono ?_
  rintro e w2 ⟨u, rfl, hFR, b2⟩
  have hV2 := (b2.block w1.heap.size (by simp; omega)).trans (HV.out _ _).1
  have hB2 : w1.heap.size < w2.heap.size := (Array.getElem?_eq_some_iff.1 hV2).1
  have BW := hide' (Below.on (HV.out _ _).2 b2)
  obtain ⟨fa, fc, rfl, hfc, hfm, hcell⟩ := hFR
  have HC := hide' hcell
  have HV2 := hide' hV2
  unfold maxLen at hfm
  clear hcell b2 hV2 HF HV
  go_wp2_with fail
  go_loopw [62] (fun i wr => ∃ k : Nat, k ≤ l.length ∧ i = .int .i64 k ∧ ∃ xK csK BiK xL csL BiL, MInv w2 w1.heap.size d l ks k k wr xK csK BiK xL csL BiL) (fun i _ => l.length - (intOf i).toNat)
  case atStart => exact ⟨0, Nat.zero_le _, rfl, _, _, _, _, _, _, World.grownBy.refl _ _, HV2.out, RW.nil _ _ _ _ _, RW.nil _ _ _ _ _, by simp [Value.ownBlock]⟩
  case round =>
    obtain ⟨k, hk, rfl, xK, csK, BiK, xL, csL, BiL, hI⟩ := hrel
    have HI := hide' hI
    have hvK : ∃ p c, xK = .slice p k c := by
      rcases hI.2.2.1.2.2.1.2 with ⟨rfl, h0⟩ | ⟨g, cap, cur, rfl, _⟩
      · exact ⟨none, 0, by rw [h0]⟩
      · exact ⟨_, _, rfl⟩
    have hvL : ∃ p c, xL = .slice p k c := by
      rcases hI.2.2.2.1.2.2.1.2 with ⟨rfl, h0⟩ | ⟨g, cap, cur, rfl, _⟩
      · exact ⟨none, 0, by rw [h0]⟩
      · exact ⟨_, _, rfl⟩
    obtain ⟨pK, cK, rfl⟩ := hvK
    obtain ⟨pL, cL, rfl⟩ := hvL
    have hzr := hI.1.size
    clear hI
    by_cases hkn : k < l.length
    · have hkl' : (k : Int) < (l.length : Int) := by omega
      have hk0 : (0 : Int) ≤ (k : Int) := Int.natCast_nonneg _
      obtain ⟨t, px, hp⟩ := HSh.out k hkn
      have hat : ∃ g, fa = some ⟨g, 0, none⟩ ∧ wr.cell? ⟨g, k * 2, none⟩ = some (.string (strOf (ks.getD k []))) ∧ wr.cell? ⟨g, k * 2 + 1, none⟩ = some (.iface t px) := by
        rcases HC.out with h0 | ⟨g, rfl, hg, hc⟩
        · omega
        · obtain ⟨c0, c1⟩ := hc k hkn
          have hgB : g ≠ w1.heap.size := by
            rintro rfl
            have h0 := (hc 0 (by omega)).1
            rw [Nat.zero_mul, (row5 HV2.out).1] at h0
            simp at h0
          have hbk := HI.out.1.block g hg (by simpa using hgB)
          rw [hp] at c1
          exact ⟨g, rfl, (World.cell?_of_block hbk).trans c0, (World.cell?_of_block hbk).trans c1⟩
      obtain ⟨g, rfl, fc0, fc1⟩ := hat
      have hps := HP.out k hkn
      rw [hp] at hps
      obtain ⟨_, _, _, v3, v4, vf⟩ := row5 HI.out.2.1
      obtain ⟨s0, s1, s2, s3, s4, sf⟩ := box_later HI.out.2.1
      obtain ⟨ck, wB, hconv, hTo, hBb, hzB⟩ := conv_back (ks.getD k []) (HKB.out k hkn).1 (HKB.out k hkn).2 (wr.alloc (.cells #[.string (strOf (ks.getD k [])), .iface t px] 89))
      have hb5 : Below wr.heap.size wr wB := Below.on ((Below.refl _ _).alloc (Nat.le_refl _) _) hBb
      have hF5 : wB.heap[wr.heap.size]? = some (.cells #[.string (strOf (ks.getD k [])), .iface t px] 89 (0, 0)) := (hBb.block wr.heap.size (by simp)).trans (MapKept.heap_alloc wr _).1
      have hrowK : wB.ownsRow w2.heap.size 22 1 (.slice pK k cK) k csK.flatten := HI.out.2.2.1.2.2.1.kept (row := none) ⟨hb5.os, hb5.tape, hb5.output, hb5.size, fun k hk _ => hb5.block k hk⟩ (by cases hv : (Value.slice pK k cK).ownBlock <;> simp)
      simp at hzB
      have hs5 : ∀ o, (wB.alloc o).cell? ⟨w1.heap.size, 3, none⟩ = some (.slice pK k cK) := fun o => (World.cell?_of_block ((Below.heap_alloc wB o w1.heap.size (by omega)).trans (hb5.block w1.heap.size (by omega)))).trans v3
      have hsz1 : (wr.alloc (.cells #[.string (strOf (ks.getD k [])), .iface t px] 89)).heap.size = wr.heap.size + 1 := by simp
      rw [hsz1] at hconv hTo
      generalize hn' : (ks.getD k []).length = nk at hconv hTo
      have HT := hide' hTo
      have HB5 := hide' hb5
      have HF5 := hide' hF5
      have HRK := hide' hrowK
      generalize hsx : strOf (ks.getD k []) = sx at *
      have HzB := hide' hzB
      clear hzB hTo hBb hb5 hF5 hrowK m1 t1 t2 t3 t4 t5 HK hsz1
      go_wp2_with (at_builtin; refine wpList_append_lies _ rfl _ _ 23 rfl w2.heap.size 22 iT (.slice none 0 0) 1 24 Try.underlying23 hiT hy0 hy1 hy2 rfl (by decide) (.slice pK k cK) k csK.flatten (by rfl) (HRK.out.alloc _) ⟨wB.heap.size, 0, none⟩ 1 1 [.slice (some ⟨wr.heap.size + 1, 0, none⟩) nk ck] (by rfl) (by rfl) (World.news_of_block (cs := #[.slice (some ⟨wr.heap.size + 1, 0, none⟩) nk ck]) (t := 22) (fr := (0, 0)) (heap_alloc_new wB _)) (by simp [Value.oneCell']) (by omega) (by unfold maxLen; omega) (by omega) (by have := HzB.out; simp; omega) (wB.heap.size + 1) (by simp) ?_; intro g6 cp6 w6 hown6 hg6 hat6 hlt6; have hzB := HzB.out; obtain ⟨hV6, hz6, hF6, hI6⟩ := minv_k HI.out hB2 HB5.out ⟨_, rfl, HT.out⟩ (fun b hb => (by simp at hb; omega)) (by simp) hown6 hg6 hat6; obtain ⟨_, _, _, hc63, _, hf6⟩ := row5 hV6; have hf63 := hf6 3; replace hF6 := hide' ((hF6 wr.heap.size (Nat.le_refl _) (by omega)).trans HF5.out); replace hI6 := hide' hI6; clear hzB hown6 hg6 hat6 hlt6 hV6 hf6 hs5 hconv)
      have hneF : wr.heap.size ≠ w1.heap.size := by omega
      have hFS := (Below.heap_setCell w6 ⟨w1.heap.size, 3, none⟩ (.slice (some ⟨g6, 0, none⟩) (k + 1) cp6) wr.heap.size hneF).trans hF6.out
      have hzS : (w6.setCell ⟨w1.heap.size, 3, none⟩ (.slice (some ⟨g6, 0, none⟩) (k + 1) cp6)).heap.size = w6.heap.size := by simp [World.setCell]
      generalize hwS : w6.setCell ⟨w1.heap.size, 3, none⟩ (.slice (some ⟨g6, 0, none⟩) (k + 1) cp6) = wS at *
      obtain ⟨_, _, _, _, v4S, _⟩ := row5 hI6.out.2.1
      have fcS : wS.cell? ⟨wr.heap.size, 1, none⟩ = some (.iface t px) := by
        rw [cell_of_row wS wr.heap.size 1 _ _ _ hFS]
        rfl
      have hz2S := hI6.out.1.size
      have hBS : Below w.heap.size w wS := (Below.on B1.out (Below.on (Below.refl _ _) BW.out)).grown hI6.out.1 (by omega) (by intro j hj; simp at hj; omega)
      obtain ⟨deep, hgk1, hgk2⟩ := HG.out k hkn
      have HE : Hid (∀ wy, Below wS.heap.size wS wy → Calls Try.prog 34 #[.iface t px] wy (VCall w1.heap.size w2.heap.size d l k wS (.slice pL k cL) csL.flatten)) := fun wy hy => (ih N _ _ deep wy (PSeg.carry (fun b h => h) (fun b (h : b < N) => (Below.on hBS hy).block b (by omega)) d hps) (by have := (Below.on hBS hy).size; omega) hgk1 hgk2).mono fun e w5 he => minv_call hI6.out hB2 hkn hy he
      clear hgk1 hgk2 hFS hzS hBS hps hwS v3 v4 vf s0 s1 s2 s3 s4 sf hc63 hf63 fc0 fc1 hF6 HT HB5 HF5 HRK HzB HI hp
      go_region_law
        (first
          | (go_simp; go_at_call 34; refine (HE.out _ (by first | exact Below.refl _ _ | exact (Below.refl _ _).drew | exact (Below.refl _ _).drew.drew)).mono ?_; rintro e w5 ⟨uk, un, s2, n2, r2, s3, n3, r3, s4, n4, r4, rfl, Bv, hit, hbv, hbn, b5, hc5, ho5⟩; replace hit := hide' (And.intro hit (And.intro hbv (And.intro hbn (And.intro b5 ho5)))); have hz5 : w1.heap.size < w5.heap.size := (by have := b5.size; omega); have hc5o : ∀ o, (w5.alloc o).cell? ⟨w1.heap.size, 4, none⟩ = some (.slice pL k cL) := (fun o => (World.cell?_of_block (Below.heap_alloc w5 o w1.heap.size hz5)).trans hc5); clear hbv hbn b5 ho5)
          | (refine step_append_lies _ (by rfl) _ _ _ (by rfl) w2.heap.size 26 i0 _ 5 88 Try.underlying24 hi hz0 hz1 hz2 rfl (by decide) (.slice pL k cL) k csL.flatten (by rfl) (by first | exact hit.out.2.2.2.2.alloc _ | exact (hit.out.2.2.2.2.alloc _).drew) ⟨w5.heap.size, 0, none⟩ 1 1 [.int .i64 uk, .int .i64 un, .slice s2 n2 r2, .slice s3 n3 r3, .slice s4 n4 r4] (by rfl) (by rfl) (World.news_of_block (cs := #[.int .i64 uk, .int .i64 un, .slice s2 n2 r2, .slice s3 n3 r3, .slice s4 n4 r4]) (t := 26) (fr := (0, 0)) (heap_alloc_new w5 _)) (by simp [Value.oneCell']) (by omega) (by unfold maxLen; omega) (by omega) (by have := hit.out.2.2.2.1.size; simp; omega) (w5.heap.size + 1) (by simp) ?_; intro g7 cp7 w7 hown7 hg7 hat7 hlt7; obtain ⟨hV7, hI7⟩ := minv_l hI6.out hB2 hit.out.2.2.2.1 hit.out.1 hit.out.2.1 hit.out.2.2.1 hown7 hg7 hat7; obtain ⟨_, _, _, _, hc7, hf7⟩ := row5 hV7; replace hf7 := hf7 4; replace hI7 := hide' hI7; clear hown7 hg7 hat7 hlt7 hV7 hit hc5 hc5o))
      all_goals go_wp2
      all_goals go_roundw
      all_goals first
        | exact ⟨k + 1, by omega, by go_num, _, _, _, _, _, _, hI7.out⟩
        | (simp [intOf]; omega)
    · have hkn' : k = l.length := by omega
      subst hkn'
      have hkl' : ¬ (l.length : Int) < (l.length : Int) := by omega
      have hR : wr.heap[w.heap.size]? = some (.cells #[.int .i64 0, .int .i64 0, .slice none 0 0, .slice none 0 0, .slice none 0 0] 26 (0, 0)) := (HI.out.1.block _ (by omega) (by simp; omega)).trans ((BW.out.block _ hlt).trans Hr.out)
      obtain ⟨r0, r1, r2, r3, r4, rf⟩ := row5 hR
      obtain ⟨v0, v1, v2, v3, v4, _⟩ := row5 HI.out.2.1
      have f0 := rf 0
      have f1 := rf 1
      have f2 := rf 2
      have f3 := rf 3
      have f4 := rf 4
      replace hR := hide' hR
      clear rf m1 t1 t2 t3 t4 t5 HK
      go_wp2_with fail
      have hrow := set5_heap (j := 0) (.int .i64 5) (.int .i64 0) (.slice none 0 0) (.slice pK l.length cK) (.slice pL l.length cL) hR.out
      have hfin := row5 hrow
      simp only [set5, Nat.zero_add] at hfin
      obtain ⟨y0, y1, y2, y3, y4, _⟩ := hfin
      refine bodyPost_ret (v := .agg #[.int .i64 5, .int .i64 0, .slice none 0 0, .slice pK l.length cK, .slice pL l.length cL]) (by simp [results, Try.results34, go_sem, y0, y1, y2, y3, y4]) rfl ?_
      have hB5 := set5_grown wr w.heap.size 0 (.int .i64 5) (.int .i64 0) (.slice none 0 0) (.slice pK l.length cK) (.slice pL l.length cL)
      have hsz4 := set5_size wr w.heap.size 0 (.int .i64 5) (.int .i64 0) (.slice none 0 0) (.slice pK l.length cK) (.slice pL l.length cL)
      have hBn := (Below.on B1.out (Below.on (Below.refl _ _) BW.out)).grown HI.out.1 (by omega) (by intro j hj; simp at hj; omega)
      have hBf := hBn.grown hB5 (by omega) (by intro j hj; simp at hj; omega)
      obtain ⟨_, _, hRK, hRL, hdis⟩ := HI.out
      have hbK := hRK.2.2.2.2.2
      have hbL := hRL.2.2.2.2.2
      have hKo := RW.kown (ks := ks) (by rw [hkl]; exact hRK)
      refine ⟨_, _, rfl, _, _, hKo.agree fun b h => ?_, hRL.lown.agree fun b h => ?_, fun b h => ?_, ?_, hBf⟩
      · have hb := hbK b h
        exact hB5.block b (by omega) (by simp; omega)
      · have hb := hbL b h
        exact hB5.block b (by omega) (by simp; omega)
      · show w.heap.size ≤ b ∧ b < (set5 _ _ _ _ _ _ _ _).heap.size
        rcases List.mem_append.1 h with h | h
        · have hb := hbK b h
          omega
        · have hb := hbL b h
          omega
      · rw [List.nodup_append]
        exact ⟨hRK.2.2.2.2.1, hRL.2.2.2.2.1, fun a ha b hb e => hdis a ha (e ▸ hb)⟩
end Go.Proofs.Ytenfnbnhdmkhkaa
/-
  valueOf of the program at whatever part: a value of the call's own.
-/
namespace Go.Proofs.Ytenfnbnhdmkhkaa
open Go.RowKit Go.Shelf
set_option linter.unusedVariables false
set_option linter.unusedSimpArgs false

theorem tNil (w : World) : TOwn w (.slice none 0 0) [] [] := ⟨⟨by simp, rfl, .inl ⟨rfl, rfl⟩⟩, .inl ⟨rfl, rfl⟩⟩
theorem kNil (w : World) : KOwn w (.slice none 0 0) [] [] := .inl ⟨rfl, rfl, rfl⟩
theorem lNil (w : World) (d : Nat) : LOwn w d (.slice none 0 0) [] [] := .inl ⟨rfl, rfl, rfl⟩

/-- What the rules of one part say of its fields. -/
theorem shape_zero {vk vn : Int} {vs : List Int} {vK : List (List Int)} {n : Nat} (h : shapeB vk vn vs vK n = true) :
    (vk = 1 ∨ vk = 2 ∨ vn = 0) ∧ (vk = 3 ∨ vs = []) ∧ (vk = 5 ∨ vK = []) ∧ (vk = 4 ∨ vk = 5 ∨ n = 0) := by
  simp only [shapeB, bareB, Bool.and_eq_true, Bool.or_eq_true, decide_eq_true_eq, List.length_eq_zero_iff] at h
  obtain ⟨⟨⟨⟨h1, h2⟩, h3⟩, h4⟩, _⟩ := h
  exact ⟨by rcases h1 with (h1 | h1) | h1 <;> simp [h1], h2, h3, by rcases h4 with (h4 | h4) | h4 <;> simp [h4]⟩

theorem shape_text {vn : Int} {vs : List Int} {vK : List (List Int)} {n : Nat} (h : shapeB 3 vn vs vK n = true) : textB vs = true := by
  simp [shapeB] at h
  exact h.2

theorem textB_byt {xs : List Int} (h : textB xs = true) : (∀ x ∈ xs, Byt x) ∧ xs.length ≤ 20 := by
  simp only [textB, Bool.and_eq_true, decide_eq_true_eq, List.all_eq_true] at h
  refine ⟨fun x hx => ?_, h.1⟩
  have := h.2 x hx
  simp only [chrB, Bool.and_eq_true, decide_eq_true_eq] at this
  unfold Byt
  omega

theorem shape_mapB {vn : Int} {vs : List Int} {vK : List (List Int)} {n : Nat} (h : shapeB 5 vn vs vK n = true) : vK.length = n ∧ ascB vK = true := by
  simp [shapeB] at h
  exact h.2

theorem step_name {ks : List (List Int)} {i : Nat} (h : stepB ks i = true) : (∀ x ∈ ks.getD i [], Byt x) ∧ (ks.getD i []).length ≤ 1000 := by
  simp only [stepB, Bool.and_eq_true] at h
  have h1 := h.1
  simp only [nameB, Bool.and_eq_true, decide_eq_true_eq, List.all_eq_true] at h1
  refine ⟨fun x hx => ?_, by omega⟩
  have := h1.2 x hx
  simp only [letB, Bool.and_eq_true, decide_eq_true_eq] at this
  unfold Byt
  omega

theorem parts_kid {d : Nat} {vk vn : Int} {vs : List Int} {vK : List (List Int)} {vL : List (Vl d)} (h : partsV (d + 1) (vk, vn, vs, vK, vL) ≤ 40) : ∀ i (hi : i < vL.length), partsV d vL[i] ≤ 40 := by
  intro i hi
  rw [parts_succ] at h
  have h1 := pre_succ (partsV d) vL i hi
  have h2 := pre_le (partsV d) vL (i + 1)
  have h3 := pre_all (partsV d) vL
  omega

theorem parts_many {d : Nat} {vk vn : Int} {vs : List Int} {vK : List (List Int)} {vL : List (Vl (d + 1))} (h : partsV (d + 1 + 1) (vk, vn, vs, vK, vL) ≤ 40) : vL.length ≤ 40 := by
  have hk : ∀ k, k ≤ vL.length → k ≤ pre (partsV (d + 1)) vL k := by
    intro k
    induction k with
    | zero => intro _; exact Nat.zero_le _
    | succ k ih =>
      intro hk
      have h1 := pre_succ (partsV (d + 1)) vL k (by omega)
      have h2 := parts_pos d vL[k]
      have h3 := ih (by omega)
      omega
  rw [parts_succ] at h
  have := hk vL.length (Nat.le_refl _)
  omega

theorem valueOf_succ (d : Nat) (ih : ValAt d) : ValAt (d + 1) := by
  intro N p v deep w hp hN hg hn
  obtain ⟨vk, vn, vs, vK, vL⟩ := v
  obtain ⟨_, hsh, hgk⟩ := (good_succ _ _ _ _ _ _ _).1 hg
  obtain ⟨z1, z2, z3, z4⟩ := shape_zero hsh
  have hkid := parts_kid hn
  have hlen : vL.length ≤ 40 := by
    cases d with
    | zero =>
      cases vL with
      | nil => simp
      | cons x r => have := hgk 0 (by simp); exact absurd this (by simp [goodB])
    | succ d => exact parts_many hn
  rcases hp with ⟨hk, rfl⟩ | ⟨hk, rfl⟩ | ⟨hk, rfl⟩ | ⟨hk, rfl⟩ | ⟨hk, rfl⟩ | ⟨hk, a, cap, rfl, hc⟩ | ⟨hk, b, ps, rfl, hR, hm, hc⟩ <;> simp only at hk <;> subst hk
  · have e1 : vn = 0 := by omega
    have e2 : vs = [] := by simpa using z2
    have e3 : vK = [] := by simpa using z3
    have e4 : vL = [] := by simpa using z4
    subst e1 e2 e3 e4
    refine (valueOf_nullPart w).mono ?_
    rintro e w' ⟨rfl, hb⟩
    exact ⟨_, _, _, _, _, rfl, [], (VOwn_succ _ _ _ _ _).2 ⟨rfl, rfl, [], [], [], tNil _, kNil _, lNil _ _, rfl, by simp⟩, by simp, hb⟩
  · have e1 : vn = 0 := by omega
    have e2 : vs = [] := by simpa using z2
    have e3 : vK = [] := by simpa using z3
    have e4 : vL = [] := by simpa using z4
    subst e1 e2 e3 e4
    refine (valueOf_unknownPart w).mono ?_
    rintro e w' ⟨rfl, hb⟩
    exact ⟨_, _, _, _, _, rfl, [], (VOwn_succ _ _ _ _ _).2 ⟨rfl, rfl, [], [], [], tNil _, kNil _, lNil _ _, rfl, by simp⟩, by simp, hb⟩
  · have e2 : vs = [] := by simpa using z2
    have e3 : vK = [] := by simpa using z3
    have e4 : vL = [] := by simpa using z4
    subst e2 e3 e4
    refine (valueOf_boolPart vn w).mono ?_
    rintro e w' ⟨rfl, hb⟩
    exact ⟨_, _, _, _, _, rfl, [], (VOwn_succ _ _ _ _ _).2 ⟨rfl, rfl, [], [], [], tNil _, kNil _, lNil _ _, rfl, by simp⟩, by simp, hb⟩
  · have e2 : vs = [] := by simpa using z2
    have e3 : vK = [] := by simpa using z3
    have e4 : vL = [] := by simpa using z4
    subst e2 e3 e4
    refine (valueOf_intPart vn w).mono ?_
    rintro e w' ⟨rfl, hb⟩
    exact ⟨_, _, _, _, _, rfl, [], (VOwn_succ _ _ _ _ _).2 ⟨rfl, rfl, [], [], [], tNil _, kNil _, lNil _ _, rfl, by simp⟩, by simp, hb⟩
  · have e1 : vn = 0 := by omega
    have e3 : vK = [] := by simpa using z3
    have e4 : vL = [] := by simpa using z4
    subst e1 e3 e4
    obtain ⟨hx, hl⟩ := textB_byt (shape_text hsh)
    refine (valueOf_textPart vs hx (by omega) w).mono ?_
    rintro e w' ⟨u, B, rfl, hT, hB, hb⟩
    have hnd : B.Nodup := by
      rcases hT.2 with ⟨_, rfl⟩ | ⟨g, cap, _, rfl⟩ <;> simp
    exact ⟨_, _, _, _, _, rfl, B, (VOwn_succ _ _ _ _ _).2 ⟨rfl, rfl, B, [], [], hT, kNil _, lNil _ _, by simp, hnd⟩, hB, hb⟩
  · have e1 : vn = 0 := by omega
    have e2 : vs = [] := by simpa using z2
    have e3 : vK = [] := by simpa using z3
    subst e1 e2 e3
    refine (valueOf_listPart d ih N a cap vL (deep + 1) w ⟨a, cap, rfl, hc⟩ hN hlen (fun i hi => ⟨hgk i hi, hkid i hi⟩)).mono ?_
    rintro e w' ⟨u, rfl, B, hL, hB, hb⟩
    exact ⟨_, _, _, _, _, rfl, B, (VOwn_succ _ _ _ _ _).2 ⟨rfl, rfl, [], [], B, tNil _, kNil _, hL, by simp, hL.nodup⟩, hB, hb⟩
  · have e1 : vn = 0 := by omega
    have e2 : vs = [] := by simpa using z2
    subst e1 e2
    obtain ⟨hkl, hasc⟩ := shape_mapB hsh
    have hst : ∀ i, i < vL.length → stepB vK i = true := by
      intro i hi
      rw [ascB, List.all_eq_true] at hasc
      exact hasc i (List.mem_range.2 (by omega))
    refine (valueOf_mapPart d ih N b ps vL vK w hR (hm.mono (n' := 128) (by omega)) hkl (step_up hst) (fun i hi => ⟨(step_name (hst i hi)).1, by have := (step_name (hst i hi)).2; omega⟩) hc hN (by omega) (fun i hi => ⟨_, hgk i hi, hkid i hi⟩)).mono ?_
    rintro e w' ⟨uK, uL, rfl, Bk, Bl, hK, hL, hB, hnd, hb⟩
    exact ⟨_, _, _, _, _, rfl, Bk ++ Bl, (VOwn_succ _ _ _ _ _).2 ⟨rfl, rfl, [], Bk, Bl, tNil _, hK, hL, by simp, hnd⟩, hB, hb⟩

theorem valueOf_any (d : Nat) : ValAt d := by
  induction d with
  | zero => intro N p v deep w hp; exact hp.elim
  | succ d ih => exact valueOf_succ d ih
end Go.Proofs.Ytenfnbnhdmkhkaa
/-
  mapOf of the program.
-/
namespace Go.Proofs.Ytenfnbnhdmkhkaa
open Go.RowKit
set_option linter.unusedVariables false
set_option linter.unusedSimpArgs false

theorem nomap_boolPart (x : Value) (w : World) : (Instr.typeAssert (.iface 77 x) 49 60 true).run Try.prog w = .ok (.tuple #[.agg #[.map none], .bool false]) w := by kernel_rfl
theorem nomap_intPart (x : Value) (w : World) : (Instr.typeAssert (.iface 78 x) 49 60 true).run Try.prog w = .ok (.tuple #[.agg #[.map none], .bool false]) w := by kernel_rfl
theorem nomap_textPart (x : Value) (w : World) : (Instr.typeAssert (.iface 80 x) 49 60 true).run Try.prog w = .ok (.tuple #[.agg #[.map none], .bool false]) w := by kernel_rfl
theorem nomap_listPart (x : Value) (w : World) : (Instr.typeAssert (.iface 84 x) 49 60 true).run Try.prog w = .ok (.tuple #[.agg #[.map none], .bool false]) w := by kernel_rfl
theorem nomap_nil (w : World) : (Instr.typeAssert .nilIface 49 60 true).run Try.prog w = .ok (.tuple #[.agg #[.map none], .bool false]) w := by kernel_rfl

/-- The kind of a value. -/
def kindV : (d : Nat) → Vl d → Int
  | 0, _ => 0
  | d + 1, v => v.1

/-- What mapOf leaves. -/
def MapOf (d : Nat) (v : Vl d) (w : World) (e : Ending) (w' : World) : Prop :=
  Below w.heap.size w w' ∧ ((∃ b, e = .returned (.tuple #[.agg #[.map (some b)], .bool true]) ∧ okB d v = true ∧ kindV d v = 5 ∧ PSeg (fun b => w.heap.size ≤ b ∧ b < w'.heap.size) w' d (.iface 60 (.agg #[.map (some b)])) v) ∨
    (e = .returned (.tuple #[.agg #[.map none], .bool false]) ∧ ¬ (okB d v = true ∧ kindV d v = 5)))

/-- What partOf leaves, asked for a map. -/
theorem part_map {d : Nat} {v : Vl d} {w w' : World} {e : Ending} (h : PartEnd d v w e w') : Below w.heap.size w w' ∧ ∃ p f, e = .returned (.tuple #[p, .bool f]) ∧ ∃ mo ok, (∀ wx, (Instr.typeAssert p 49 60 true).run Try.prog wx = .ok (.tuple #[.agg #[.map mo], .bool ok]) wx) ∧
    ((∃ b, mo = some b ∧ ok = true ∧ okB d v = true ∧ kindV d v = 5 ∧ PSeg (fun b => w.heap.size ≤ b ∧ b < w'.heap.size) w' d (.iface 60 (.agg #[.map (some b)])) v) ∨ (mo = none ∧ ok = false ∧ ¬ (okB d v = true ∧ kindV d v = 5))) := by
  obtain ⟨hb, ⟨p, rfl, hok, hp⟩ | ⟨rfl, hno⟩⟩ := h
  · refine ⟨hb, p, true, rfl, ?_⟩
    cases d with
    | zero => exact hp.elim
    | succ d =>
      have hp' := hp
      rcases hp with ⟨hk, rfl⟩ | ⟨hk, rfl⟩ | ⟨hk, rfl⟩ | ⟨hk, rfl⟩ | ⟨hk, rfl⟩ | ⟨hk, a, cap, rfl, hc⟩ | ⟨hk, b, ps, rfl, hR, hm, hc⟩
      · exact ⟨none, false, nomap_nullPart _, .inr ⟨rfl, rfl, fun h => by have h2 : v.1 = 5 := h.2; omega⟩⟩
      · exact ⟨none, false, nomap_unknownPart _, .inr ⟨rfl, rfl, fun h => by have h2 : v.1 = 5 := h.2; omega⟩⟩
      · exact ⟨none, false, nomap_boolPart _, .inr ⟨rfl, rfl, fun h => by have h2 : v.1 = 5 := h.2; omega⟩⟩
      · exact ⟨none, false, nomap_intPart _, .inr ⟨rfl, rfl, fun h => by have h2 : v.1 = 5 := h.2; omega⟩⟩
      · exact ⟨none, false, nomap_textPart _, .inr ⟨rfl, rfl, fun h => by have h2 : v.1 = 5 := h.2; omega⟩⟩
      · exact ⟨none, false, nomap_listPart _, .inr ⟨rfl, rfl, fun h => by have h2 : v.1 = 5 := h.2; omega⟩⟩
      · exact ⟨some b, true, is_mapPart _, .inl ⟨b, rfl, rfl, hok, hk, hp'⟩⟩
  · exact ⟨hb, .nilIface, false, rfl, none, false, nomap_nil, .inr ⟨rfl, rfl, fun h => by rw [hno] at h; simp at h⟩⟩

set_option maxHeartbeats 1600000 in
theorem mapOf_any (d N : Nat) (c0 c1 c2 c3 c4 : Value) (v : Vl d) (w : World) (hv : VSeg (fun b => b < N) w d (c0, c1, c2, c3, c4) v) (hN : N ≤ w.heap.size) :
    Calls Try.prog 33 #[.agg #[c0, c1, c2, c3, c4]] w (MapOf d v w) := by
  have HA : Hid (∀ o o' : Obj, Below w.heap.size w ((w.alloc o).alloc o') ∧ ((w.alloc o).alloc o').heap[w.heap.size + 1]? = some o') := fun o o' => ⟨((Below.refl _ _).alloc (Nat.le_refl _) o).alloc (by simp) o', by have := (MapKept.heap_alloc (w.alloc o) o').1; simpa using this⟩
  have HP : Hid (∀ o o' : Obj, Calls Try.prog 26 #[.agg #[c0, c1, c2, c3, c4]] ((w.alloc o).alloc o') (PartEnd d v ((w.alloc o).alloc o'))) := fun o o' => partOf_any d N c0 c1 c2 c3 c4 v _ (VSeg.agree (fun b (h : b < N) => (HA.out o o').1.block b (by omega)) d hv) (by simp; omega)
  clear hv
  go_enter Try.func33, Try.ntmps33
  go_wp2_with fail
  refine (HP.out _ _).mono ?_
  intro e w1 he
  obtain ⟨b1, p, f, rfl, mo, ok, hta, hres⟩ := part_map he
  have hR : w1.heap[w.heap.size + 1]? = some (.cells #[.map none] 60 (0, 0)) := (b1.block _ (by simp)).trans (HA.out _ _).2
  have hB1 := Below.on (HA.out _ _).1 b1
  have hlt : w.heap.size + 1 < w1.heap.size := (Array.getElem?_eq_some_iff.1 hR).1
  have hne : ¬ w.heap.size + 1 = w1.heap.size := by omega
  have hne' : ¬ w1.heap.size = w.heap.size + 1 := by omega
  have rc : ∀ o, (w1.alloc o).cell? ⟨w.heap.size + 1, 0, none⟩ = some (.map none) := fun o => by
    rw [cell_of_row (w1.alloc o) (w.heap.size + 1) 0 _ _ _ ((Below.heap_alloc w1 o _ hlt).trans hR)]
    rfl
  have rf : ∀ o, (w1.alloc o).frozen? ⟨w.heap.size + 1, 0, none⟩ = false := fun o => frozen_of_row _ _ _ _ _ ((Below.heap_alloc w1 o _ hlt).trans hR)
  have HR := hide' hR
  have HB1 := hide' hB1
  have HRes := hide' hres
  have Hb1 := hide' b1
  clear hR hB1 hres b1 he HP
  go_wp2_with fail
  have hrow : ((w1.setCell ⟨w.heap.size + 1, 0, none⟩ (.map mo)).alloc (.cells #[.map mo] 60)).heap[w.heap.size + 1]? = some (.cells #[.map mo] 60 (0, 0)) := (Below.heap_alloc _ _ _ (by simp [World.setCell]; omega)).trans (heap_setCell_same w1 _ 0 _ _ _ HR.out)
  have hc := cell_of_row _ _ 0 _ _ _ hrow
  have hg := grown1 w1 (w.heap.size + 1) 0 (.map mo)
  have hBf : Below w.heap.size w ((w1.setCell ⟨w.heap.size + 1, 0, none⟩ (.map mo)).alloc (.cells #[.map mo] 60)) := (HB1.out.grown hg (by omega) (by intro j hj; simp at hj; omega)).alloc (by simp [World.setCell]; omega) _
  have hsz : w1.heap.size ≤ ((w1.setCell ⟨w.heap.size + 1, 0, none⟩ (.map mo)).alloc (.cells #[.map mo] 60)).heap.size := by simp [World.setCell]
  refine bodyPost_ret (v := .tuple #[.agg #[.map mo], .bool ok]) (by simp [results, Try.results33, go_sem, hc]) rfl ?_
  refine ⟨hBf, ?_⟩
  rcases HRes.out with ⟨b, rfl, rfl, h1, h2, h3⟩ | ⟨rfl, rfl, h1⟩
  · refine .inl ⟨b, rfl, h1, h2, PSeg.carry (fun b' hb' => ?_) (fun b' hb' => ?_) d h3⟩
    · simp at hb'
      omega
    · simp at hb'
      exact (Below.heap_alloc _ _ _ (by simp [World.setCell]; omega)).trans (hg.block b' hb'.2 (by simp; omega))
  · exact .inr ⟨rfl, h1⟩
end Go.Proofs.Ytenfnbnhdmkhkaa
/-
  ValGet of the program.
-/
namespace Go.Proofs.Ytenfnbnhdmkhkaa
open Go.RowKit Go.Shelf
set_option linter.unusedVariables false
set_option linter.unusedSimpArgs false

/-- What ValGet leaves. -/
def GetEnd (d : Nat) (v : Vl (d + 1)) (key : List Int) (w : World) (e : Ending) (w' : World) : Prop :=
  Below w.heap.size w w' ∧ ((∃ (k : Nat) (hk : k < v.2.2.2.2.length), okB (d + 1) v = true ∧ v.1 = 5 ∧ findK v.2.2.2.1 key = k ∧ ∃ u0 u1 u2 u3 u4, e = .returned (.tuple #[.agg #[u0, u1, u2, u3, u4], .bool true]) ∧ ∃ B, VOwn w' d (u0, u1, u2, u3, u4) v.2.2.2.2[k] B ∧ ∀ b ∈ B, w.heap.size ≤ b ∧ b < w'.heap.size) ∨
    (¬ (okB (d + 1) v = true ∧ v.1 = 5 ∧ 0 ≤ findK v.2.2.2.1 key) ∧ e = .returned (.tuple #[.agg #[.int .i64 0, .int .i64 0, .slice none 0 0, .slice none 0 0, .slice none 0 0], .bool false])))

/-- What a map's part holds. -/
theorem mapPart_inv {R : Nat → Prop} {w : World} {d b : Nat} {v : Vl (d + 1)} (h : PSeg R w (d + 1) (.iface 60 (.agg #[.map (some b)])) v) (hk : v.1 = 5) :
    R b ∧ ∃ ps, w.ownsMap Try.prog 9 tokR b 64 (mapD v.2.2.2.1 ps v.2.2.2.2.length) ∧ ∀ i (h : i < v.2.2.2.2.length), PSeg R w d (ps.getD i .nilIface) (v.2.2.2.2[i]) := by
  rcases h with ⟨h, _⟩ | ⟨h, _⟩ | ⟨h, _⟩ | ⟨h, _⟩ | ⟨h, _⟩ | ⟨h, _⟩ | ⟨_, b', ps, e, hR, hm, hc⟩
  · omega
  · omega
  · omega
  · omega
  · omega
  · omega
  · simp at e
    subst e
    exact ⟨hR, ps, hm, hc⟩

/-- Found, or not. -/
theorem find_cases (ks : List (List Int)) (key : List Int) : (∃ k, k < ks.length ∧ ks.getD k [] = key ∧ (∀ i, i < k → ks.getD i [] ≠ key) ∧ findK ks key = k) ∨ ((∀ i, i < ks.length → ks.getD i [] ≠ key) ∧ findK ks key = -1) := by
  by_cases h : ∀ i, i < ks.length → ks.getD i [] ≠ key
  · exact .inr ⟨h, findK_no h⟩
  · have hex : ∃ i, i < ks.length ∧ ks.getD i [] = key := by
      simpa using h
    have hmin : ∀ n, (∃ i, i < n ∧ i < ks.length ∧ ks.getD i [] = key) → ∃ k, k < ks.length ∧ ks.getD k [] = key ∧ ∀ i, i < k → ks.getD i [] ≠ key := by
      intro n
      induction n with
      | zero => rintro ⟨i, h0, _⟩; omega
      | succ n ih =>
        rintro ⟨i, hi, hl, he⟩
        by_cases hlow : ∃ j, j < n ∧ j < ks.length ∧ ks.getD j [] = key
        · exact ih hlow
        · refine ⟨i, hl, he, fun j hj hje => hlow ⟨j, by omega, by omega, hje⟩⟩
    obtain ⟨i, hi, he⟩ := hex
    obtain ⟨k, h1, h2, h3⟩ := hmin (i + 1) ⟨i, by omega, hi, he⟩
    exact .inl ⟨k, h1, h2, h3, findK_at h1 h3 h2⟩
end Go.Proofs.Ytenfnbnhdmkhkaa
