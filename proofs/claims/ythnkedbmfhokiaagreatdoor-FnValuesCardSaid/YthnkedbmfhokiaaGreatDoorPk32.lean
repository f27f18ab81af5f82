/-
  Texts that a law leans on, one behind the other; no statement is proved here.
-/
import Derived.Test.YthnkedbmfhokiaaGreatDoorPk30
import Derived.Test.YthnkedbmfhokiaaGreatDoorPk6
import Derived.Laws.IdiomStrings
import Derived.Test.YthnkedbmfhokiaaGreatDoorPk31
/-
  valueOf of the program at a list: the walk.
-/
namespace Go.Proofs.YthnkedbmfhokiaaGreatDoor
open Go.RowKit Go.Shelf
set_option linter.unusedVariables false
set_option linter.unusedSimpArgs false

set_option maxHeartbeats 6400000 in
set_option maxRecDepth 100000 in
theorem valueOf_listPart (d : Nat) (ih : ValAt d) (N : Nat) (a : Option Addr) (cap : Nat) (l : List (Vl d)) (deep : Nat) (w : World) (hp : PLSeg (fun b => b < N) w d (.slice a l.length cap) l) (hN : N ≤ w.heap.size) (hl : l.length ≤ 40) (hgd : ∀ i (h : i < l.length), goodB d l[i] deep = true ∧ partsV d l[i] ≤ 40) :
    Calls Tryz.prog 23 #[.iface 74 (.agg #[.slice a l.length cap])] w fun e w' => ∃ u, e = .returned (.agg #[.int .i64 4, .int .i64 0, .slice none 0 0, .slice none 0 0, u]) ∧ ∃ B, LOwn w' d u l B ∧ (∀ b ∈ B, w.heap.size ≤ b ∧ b < w'.heap.size) ∧ Below w.heap.size w w' := by
  obtain ⟨i0, hi, hz0, hz1, hz2⟩ := info_parts info_valueT
  have m1 := meth_listPart (.agg #[.slice a l.length cap])
  have t1 := nobool_listPart (.agg #[.slice a l.length cap])
  have t2 := noint_listPart (.agg #[.slice a l.length cap])
  have t3 := notext_listPart (.agg #[.slice a l.length cap])
  have t4 := is_listPart (.agg #[.slice a l.length cap])
  have HK := hide' (kind_listPart a l.length cap)
  have HA : Hid (∀ o : Obj, Below w.heap.size w (w.alloc o)) := fun o => (Below.refl _ _).alloc (Nat.le_refl _) o
  have HP := hide' hp
  have HG := hide' hgd
  clear hp hgd
  go_enter Tryz.func23, Tryz.ntmps23
  go_wp2_with fail
  refine (HK.out _).mono ?_
  rintro e w1 ⟨rfl, b1⟩
  have hr : w1.heap[w.heap.size]? = some (.cells #[.int .i64 0, .int .i64 0, .slice none 0 0, .slice none 0 0, .slice none 0 0] 26 (0, 0)) := box_row b1
  have B1 := hide' (Below.on (HA.out _) b1)
  have hlt : w.heap.size < w1.heap.size := (Array.getElem?_eq_some_iff.1 hr).1
  have hne : ¬ w.heap.size = w1.heap.size := by omega
  have hne' : ¬ w1.heap.size = w.heap.size := by omega
  have Hr := hide' hr
  have HV : Hid (∀ o o' : Obj, ((w1.alloc o).alloc o').heap[w1.heap.size]? = some o ∧ Below w1.heap.size w1 ((w1.alloc o).alloc o')) := fun o o' => ⟨(Below.heap_alloc _ _ _ (by simp)).trans (MapKept.heap_alloc w1 o).1, ((Below.refl _ _).alloc (Nat.le_refl _) o).alloc (by simp) o'⟩
  clear b1 hr
  go_wp2_with fail
  go_loopw [44] (fun i wr => ∃ k : Nat, k ≤ l.length ∧ i = .int .i64 k ∧ ∃ x cs Bi, VInv w1 w1.heap.size (w1.heap.size + 2) d l 4 (.slice none 0 0) k wr x cs Bi) (fun i _ => l.length - (intOf i).toNat)
  case atStart => exact ⟨0, Nat.zero_le _, rfl, _, _, _, (HV.out _ _).1, RW.nil _ _ _ _ _, (HV.out _ _).2, by simp⟩
  case round =>
    obtain ⟨k, hk, rfl, x, cs, Bi, hI⟩ := hrel
    have HI := hide' hI
    have hvs : ∃ p c, x = .slice p k c := by
      rcases hI.2.1.2.2.1.2 with ⟨rfl, h0⟩ | ⟨g, cap, cur, rfl, _⟩
      · exact ⟨none, 0, by rw [h0]⟩
      · exact ⟨_, _, rfl⟩
    obtain ⟨vp, vc, rfl⟩ := hvs
    obtain ⟨c0, c1, c2, c3, c4, cf⟩ := row5 hI.1
    have hz4 := hI.2.2.2
    clear hI
    by_cases hkl : k < l.length
    · have hkl' : (k : Int) < (l.length : Int) := by omega
      have hk0 : (0 : Int) ≤ (k : Int) := Int.natCast_nonneg _
      obtain ⟨b, off, t, px, rfl, hb, hcell, hps⟩ := HP.out.at hkl
      have hbN : b < N := hb
      have hBw : Below w.heap.size w wr := Below.on B1.out HI.out.2.2.1
      have hcell' : wr.cell? ⟨b, off + k, none⟩ = some (.iface t px) := (World.cell?_of_block (hBw.block b (by omega))).trans hcell
      have HE : Hid (∀ wy, Below wr.heap.size wr wy → Calls Tryz.prog 23 #[.iface t px] wy (VCall w1.heap.size (w1.heap.size + 2) d l k wr (.slice vp k vc) cs.flatten)) := fun wy hy => (ih N _ _ deep wy (PSeg.carry (fun b h => h) (fun b (h : b < N) => (Below.on hBw hy).block b (by omega)) d hps) (by have := (Below.on hBw hy).size; omega) (HG.out k hkl).1 (HG.out k hkl).2).mono fun e w5 he => vinv_call HI.out (by omega) hkl hy he
      clear hps hBw hcell hb
      go_wp2_with fail
      have HC := hide' (And.intro c0 (And.intro c1 (And.intro c2 (And.intro c3 cf))))
      clear c0 c1 c2 c3 cf m1 t1 t2 t3 t4 HK hcell'
      go_region_law
        (first
          | (go_simp; go_at_call 23; refine (HE.out _ (by first | exact Below.refl _ _ | exact (Below.refl _ _).drew | exact (Below.refl _ _).drew.drew)).mono ?_; rintro e w5 ⟨uk, un, s2, n2, r2, s3, n3, r3, s4, n4, r4, rfl, Bv, hit, hbv, hbn, b5, hc5, ho5⟩; replace hit := hide' (And.intro hit (And.intro hbv (And.intro hbn (And.intro b5 ho5)))); have hz5 : w1.heap.size < w5.heap.size := (by have := b5.size; omega); have hc5o : ∀ o, (w5.alloc o).cell? ⟨w1.heap.size, 4, none⟩ = some (.slice vp k vc) := (fun o => (World.cell?_of_block (Below.heap_alloc w5 o w1.heap.size hz5)).trans hc5); clear hbv hbn b5 ho5)
          | (refine step_append_lies _ (by rfl) _ _ _ (by rfl) (w1.heap.size + 2) 26 i0 _ 5 88 Tryz.underlying24 hi hz0 hz1 hz2 rfl (by decide) (.slice vp k vc) k cs.flatten (by rfl) (by first | exact hit.out.2.2.2.2.alloc _ | exact (hit.out.2.2.2.2.alloc _).drew) ⟨w5.heap.size, 0, none⟩ 1 1 [.int .i64 uk, .int .i64 un, .slice s2 n2 r2, .slice s3 n3 r3, .slice s4 n4 r4] (by rfl) (by rfl) (World.news_of_block (cs := #[.int .i64 uk, .int .i64 un, .slice s2 n2 r2, .slice s3 n3 r3, .slice s4 n4 r4]) (t := 26) (fr := (0, 0)) (heap_alloc_new w5 _)) (by simp [Value.oneCell']) (by omega) (by unfold maxLen; omega) (by omega) (by have := hit.out.2.2.2.1.size; simp; omega) (w5.heap.size + 1) (by simp) ?_; intro g cp w6 hown6 hg6 hat6 hlt6; obtain ⟨hV6, hI6, _⟩ := vinv_step HI.out (by omega) hit.out.2.2.2.1 hit.out.1 hit.out.2.1 hit.out.2.2.1 hown6 hg6 hat6; obtain ⟨_, _, _, _, hc6, hf6⟩ := row5 hV6; replace hf6 := hf6 4; replace hI6 := hide' hI6; clear hown6 hg6 hat6 hlt6 hV6 hit hc5 hc5o))
      all_goals go_wp2
      all_goals go_roundw
      case rel => exact ⟨k + 1, by omega, by go_num, _, _, _, hI6.out⟩
      case measure => simp [intOf]; omega
      case rel => exact ⟨k + 1, by omega, by go_num, _, _, _, hI6.out⟩
      case measure => simp [intOf]; omega
      case rel => exact ⟨k + 1, by omega, by go_num, _, _, _, hI6.out⟩
      case measure => simp [intOf]; omega
    · have hkn : k = l.length := by omega
      subst hkn
      have hkl' : ¬ (l.length : Int) < (l.length : Int) := by omega
      have hR : wr.heap[w.heap.size]? = some (.cells #[.int .i64 0, .int .i64 0, .slice none 0 0, .slice none 0 0, .slice none 0 0] 26 (0, 0)) := (HI.out.2.2.1.block _ hlt).trans Hr.out
      obtain ⟨r0, r1, r2, r3, r4, rf⟩ := row5 hR
      have f0 := rf 0
      have f1 := rf 1
      have f2 := rf 2
      have f3 := rf 3
      have f4 := rf 4
      replace hR := hide' hR
      clear rf cf m1 t1 t2 t3 t4 HK
      go_wp2_with fail
      have hrow := set5_heap (j := 0) (.int .i64 4) (.int .i64 0) (.slice none 0 0) (.slice none 0 0) (.slice vp l.length vc) hR.out
      have hfin := row5 hrow
      simp only [set5, Nat.zero_add] at hfin
      obtain ⟨y0, y1, y2, y3, y4, _⟩ := hfin
      refine bodyPost_ret (v := .agg #[.int .i64 4, .int .i64 0, .slice none 0 0, .slice none 0 0, .slice vp l.length vc]) (by simp [results, Tryz.results23, go_sem, y0, y1, y2, y3, y4]) rfl ?_
      have hB5 := set5_grown wr w.heap.size 0 (.int .i64 4) (.int .i64 0) (.slice none 0 0) (.slice none 0 0) (.slice vp l.length vc)
      have hsz4 := set5_size wr w.heap.size 0 (.int .i64 4) (.int .i64 0) (.slice none 0 0) (.slice none 0 0) (.slice vp l.length vc)
      have hBn := Below.on B1.out HI.out.2.2.1
      have hBf := hBn.grown hB5 (by omega) (by intro j hj; simp at hj; omega)
      have hbd := HI.out.2.1.2.2.2.2.2
      refine ⟨_, rfl, _, HI.out.2.1.lown.agree fun b h => ?_, fun b h => ?_, hBf⟩
      · have hb := hbd b h
        exact hB5.block b (by omega) (by simp; omega)
      · have hb := hbd b h
        show w.heap.size ≤ b ∧ b < (set5 _ _ _ _ _ _ _ _).heap.size
        omega
end Go.Proofs.YthnkedbmfhokiaaGreatDoor
/-
  valueOf of the program at a map: what its rounds leave.
-/
namespace Go.Proofs.YthnkedbmfhokiaaGreatDoor
open Go.RowKit Go.Shelf
set_option linter.unusedVariables false
set_option linter.unusedSimpArgs false

/-- After some rounds: V's box (block B) holds kK texts and kL values of the call's own, in blocks of their own from w2's end on. -/
def MInv (w2 : World) (B d : Nat) (l : List (Vl d)) (ks : List (List Int)) (kK kL : Nat) (wr : World) (xK : Value) (csK : List (List Value)) (BiK : List (List Nat)) (xL : Value) (csL : List (List Value)) (BiL : List (List Nat)) : Prop :=
  w2.grownBy wr (some B) ∧ wr.heap[B]? = some (.cells #[.int .i64 5, .int .i64 0, .slice none 0 0, xK, xL] 26 (0, 0)) ∧ RW 22 1 (ItK ks) wr w2.heap.size xK kK csK BiK ∧ RW 26 5 (ItV d l) wr w2.heap.size xL kL csL BiL ∧
    ∀ b ∈ xK.ownBlock.toList ++ BiK.flatten, b ∉ xL.ownBlock.toList ++ BiL.flatten

variable {w2 wr wB w6 : World} {B d : Nat} {l : List (Vl d)} {ks : List (List Int)} {k kL kK : Nat} {xK xL : Value} {csK csL : List (List Value)} {BiK BiL : List (List Nat)} {c : List Value} {Bv : List Nat} {g cp : Nat} {o : Obj}

theorem minv_k (h : MInv w2 B d l ks k kL wr xK csK BiK xL csL BiL) (hB : B < w2.heap.size) (b5 : Below wr.heap.size wr wB) (hv : ItK ks wB k c Bv) (hBv : ∀ b ∈ Bv, wr.heap.size ≤ b ∧ b < wB.heap.size) (hBn : Bv.Nodup)
    (hown : w6.ownsRow w2.heap.size 22 1 (.slice (some ⟨g, 0, none⟩) (k + 1) cp) (k + 1) (csK.flatten ++ c)) (hg : (wB.alloc o).grownBy w6 xK.ownBlock) (hat : xK.ownBlock = some g ∨ g = wB.heap.size + 1) :
    w6.heap[B]? = some (.cells #[.int .i64 5, .int .i64 0, .slice none 0 0, xK, xL] 26 (0, 0)) ∧ wr.heap.size ≤ w6.heap.size ∧ (∀ b, wr.heap.size ≤ b → b < wB.heap.size → w6.heap[b]? = wB.heap[b]?) ∧
      MInv w2 B d l ks (k + 1) kL (w6.setCell ⟨B, 3, none⟩ (.slice (some ⟨g, 0, none⟩) (k + 1) cp)) (.slice (some ⟨g, 0, none⟩) (k + 1) cp) (csK ++ [c]) (BiK ++ [Bv]) xL csL BiL := by
  obtain ⟨h1, h2, h3, h4, h5⟩ := h
  have hz1 := h1.size
  have hz5 := b5.size
  have hz6 := hg.size
  simp at hz6
  have hxlt := h3.2.2.1.lt
  have hneB : some B ≠ xK.ownBlock := fun e => by have := hxlt B e.symm; omega
  have hV6 : w6.heap[B]? = some (.cells #[.int .i64 5, .int .i64 0, .slice none 0 0, xK, xL] 26 (0, 0)) := (hg.block B (by simp; omega) hneB).trans ((Below.heap_alloc _ _ _ (by omega)).trans ((b5.block B (by omega)).trans h2))
  have hA := grown1 w6 B 3 (.slice (some ⟨g, 0, none⟩) (k + 1) cp)
  have hsA : (w6.setCell ⟨B, 3, none⟩ (.slice (some ⟨g, 0, none⟩) (k + 1) cp)).heap.size = w6.heap.size := by simp [World.setCell]
  have hR := RW.add (w2 := wB.alloc o) (ItK.agree ks) h3 (fun b hb => (Below.heap_alloc _ _ _ (by omega)).trans (b5.block b hb)) (by simp; omega) (ItK.agree ks _ _ _ _ _ hv fun b hb => Below.heap_alloc _ _ _ (hBv b hb).2) (fun b hb => by have := hBv b hb; simp; omega) hBn hz1 hown hg (by simpa using hat)
  have hLb := h4.2.2.2.2.2
  have hLK : ∀ b ∈ xL.ownBlock.toList ++ BiL.flatten, some b ≠ xK.ownBlock := fun b hb e => h5 b (by simp [← e]) hb
  refine ⟨hV6, by omega, fun b hb1 hb2 => (hg.block b (by simp; omega) (fun e => by have := hxlt b e.symm; omega)).trans (Below.heap_alloc _ _ _ hb2), ⟨?_, heap_setCell_same w6 B 3 _ _ _ hV6, ?_, ?_, ?_⟩⟩
  · refine ⟨h1.os ▸ b5.os ▸ hg.os ▸ rfl, h1.tape ▸ b5.tape ▸ hg.tape ▸ rfl, h1.output ▸ b5.output ▸ hg.output ▸ rfl, by omega, fun b hb hne => ?_⟩
    exact (hA.block b (by omega) hne).trans ((hg.block b (by simp; omega) (fun e => by have := hxlt b e.symm; omega)).trans ((Below.heap_alloc _ _ _ (by omega)).trans ((b5.block b (by omega)).trans (h1.block b hb hne))))
  · refine hR.agree (ItK.agree ks) (fun b hb => ?_) (by omega)
    have := hR.2.2.2.2.2 b hb
    exact Below.heap_setCell w6 _ _ b (by show b ≠ B; omega)
  · refine h4.agree (ItV.agree d l) (fun b hb => ?_) (by omega)
    have hb' := hLb b hb
    exact (Below.heap_setCell w6 ⟨B, 3, none⟩ _ b (by show b ≠ B; omega)).trans ((hg.block b (by simp; omega) (hLK b hb)).trans ((Below.heap_alloc _ _ _ (by omega)).trans (b5.block b hb'.2)))
  · intro b hb hbL
    have hb' := hLb b hbL
    simp only [Value.ownBlock, Option.toList_some, List.flatten_append, List.flatten_singleton, List.singleton_append, List.mem_cons, List.mem_append] at hb
    rcases hb with rfl | hb | hb
    · rcases hat with hx | hx
      · exact h5 b (by simp [hx]) hbL
      · omega
    · exact h5 b (by simp [hb]) hbL
    · have := hBv b hb; omega

theorem minv_l (h : MInv w2 B d l ks kK k wr xK csK BiK xL csL BiL) (hB : B < w2.heap.size) (b5 : Below wr.heap.size wr wB) (hv : ItV d l wB k c Bv) (hBv : ∀ b ∈ Bv, wr.heap.size ≤ b ∧ b < wB.heap.size) (hBn : Bv.Nodup)
    (hown : w6.ownsRow w2.heap.size 26 5 (.slice (some ⟨g, 0, none⟩) (k + 1) cp) (k + 1) (csL.flatten ++ c)) (hg : (wB.alloc o).grownBy w6 xL.ownBlock) (hat : xL.ownBlock = some g ∨ g = wB.heap.size + 1) :
    w6.heap[B]? = some (.cells #[.int .i64 5, .int .i64 0, .slice none 0 0, xK, xL] 26 (0, 0)) ∧
      MInv w2 B d l ks kK (k + 1) (w6.setCell ⟨B, 4, none⟩ (.slice (some ⟨g, 0, none⟩) (k + 1) cp)) xK csK BiK (.slice (some ⟨g, 0, none⟩) (k + 1) cp) (csL ++ [c]) (BiL ++ [Bv]) := by
  obtain ⟨h1, h2, h3, h4, h5⟩ := h
  have hz1 := h1.size
  have hz5 := b5.size
  have hz6 := hg.size
  simp at hz6
  have hxlt := h4.2.2.1.lt
  have hneB : some B ≠ xL.ownBlock := fun e => by have := hxlt B e.symm; omega
  have hV6 : w6.heap[B]? = some (.cells #[.int .i64 5, .int .i64 0, .slice none 0 0, xK, xL] 26 (0, 0)) := (hg.block B (by simp; omega) hneB).trans ((Below.heap_alloc _ _ _ (by omega)).trans ((b5.block B (by omega)).trans h2))
  have hA := grown1 w6 B 4 (.slice (some ⟨g, 0, none⟩) (k + 1) cp)
  have hsA : (w6.setCell ⟨B, 4, none⟩ (.slice (some ⟨g, 0, none⟩) (k + 1) cp)).heap.size = w6.heap.size := by simp [World.setCell]
  have hR := RW.add (w2 := wB.alloc o) (ItV.agree d l) h4 (fun b hb => (Below.heap_alloc _ _ _ (by omega)).trans (b5.block b hb)) (by simp; omega) (ItV.agree d l _ _ _ _ _ hv fun b hb => Below.heap_alloc _ _ _ (hBv b hb).2) (fun b hb => by have := hBv b hb; simp; omega) hBn hz1 hown hg (by simpa using hat)
  have hKb := h3.2.2.2.2.2
  have hKL : ∀ b ∈ xK.ownBlock.toList ++ BiK.flatten, some b ≠ xL.ownBlock := fun b hb e => h5 b hb (by simp [← e])
  refine ⟨hV6, ?_, heap_setCell_same w6 B 4 _ _ _ hV6, ?_, ?_, ?_⟩
  · refine ⟨h1.os ▸ b5.os ▸ hg.os ▸ rfl, h1.tape ▸ b5.tape ▸ hg.tape ▸ rfl, h1.output ▸ b5.output ▸ hg.output ▸ rfl, by omega, fun b hb hne => ?_⟩
    exact (hA.block b (by omega) hne).trans ((hg.block b (by simp; omega) (fun e => by have := hxlt b e.symm; omega)).trans ((Below.heap_alloc _ _ _ (by omega)).trans ((b5.block b (by omega)).trans (h1.block b hb hne))))
  · refine h3.agree (ItK.agree ks) (fun b hb => ?_) (by omega)
    have hb' := hKb b hb
    exact (Below.heap_setCell w6 ⟨B, 4, none⟩ _ b (by show b ≠ B; omega)).trans ((hg.block b (by simp; omega) (hKL b hb)).trans ((Below.heap_alloc _ _ _ (by omega)).trans (b5.block b hb'.2)))
  · refine hR.agree (ItV.agree d l) (fun b hb => ?_) (by omega)
    have := hR.2.2.2.2.2 b hb
    exact Below.heap_setCell w6 _ _ b (by show b ≠ B; omega)
  · intro b hb hbL
    have hb' := hKb b hb
    simp only [Value.ownBlock, Option.toList_some, List.flatten_append, List.flatten_singleton, List.singleton_append, List.mem_cons, List.mem_append] at hbL
    rcases hbL with rfl | hbL | hbL
    · rcases hat with hx | hx
      · exact h5 b hb (by simp [hx])
      · omega
    · exact h5 b hb (by simp [hbL])
    · have := hBv b hbL; omega

theorem minv_call {wy w5 : World} {e : Ending} (h : MInv w2 B d l ks kK k wr xK csK BiK xL csL BiL) (hB : B < w2.heap.size) (hk : k < l.length) (hy : Below wr.heap.size wr wy) (he : ValEnd d l[k] wy e w5) : VCall B w2.heap.size d l k wr xL csL.flatten e w5 := by
  obtain ⟨u0, u1, u2, u3, u4, rfl, Bv, hv, hb, h5⟩ := he
  obtain ⟨uk, un, s2, n2, r2, s3, n3, r3, s4, n4, r4, rfl, rfl, rfl, rfl, rfl⟩ := VOwn.form d hv
  have hb5 := Below.on hy h5
  have hz := hy.size
  refine ⟨uk, un, s2, n2, r2, s3, n3, r3, s4, n4, r4, rfl, Bv, ⟨_, rfl, hk, hv⟩, fun b hm => ?_, VOwn.nodup d hv, hb5, ?_, ?_⟩
  · have := hb b hm; omega
  · exact (World.cell?_of_block (hb5.block B (by have := h.1.size; omega))).trans (row5 h.2.1).2.2.2.2.1
  · exact h.2.2.2.1.2.2.1.kept (row := none) ⟨hb5.os, hb5.tape, hb5.output, hb5.size, fun k hk _ => hb5.block k hk⟩ (by cases hv : xL.ownBlock <;> simp)

/-- What valueOf leaves of a map. -/
def MapEnd (d : Nat) (l : List (Vl d)) (ks : List (List Int)) (w : World) (e : Ending) (w' : World) : Prop :=
  ∃ uK uL, e = .returned (.agg #[.int .i64 5, .int .i64 0, .slice none 0 0, uK, uL]) ∧ ∃ Bk Bl, KOwn w' uK ks Bk ∧ LOwn w' d uL l Bl ∧ (∀ b ∈ Bk ++ Bl, w.heap.size ≤ b ∧ b < w'.heap.size) ∧ (Bk ++ Bl).Nodup ∧ Below w.heap.size w w'
end Go.Proofs.YthnkedbmfhokiaaGreatDoor
/-
  A reader's place in its bytes, and a value that is being read: what stands meanwhile. No statement is proved here.
-/
namespace Go.Proofs.YthnkedbmfhokiaaGreatDoor
open Go.RowKit
set_option linter.unusedVariables false
set_option linter.unusedSimpArgs false

/-- The cells of a block of three that is known. -/
theorem row3r {w : World} {g : Nat} {T : TypeId} {c0 c1 c2 : Value} (h : w.heap[g]? = some (.cells #[c0, c1, c2] T (0, 0))) :
    w.cell? ⟨g, 0, none⟩ = some c0 ∧ w.cell? ⟨g, 1, none⟩ = some c1 ∧ w.cell? ⟨g, 2, none⟩ = some c2 ∧ ∀ j, w.frozen? ⟨g, j, none⟩ = false := by
  refine ⟨?_, ?_, ?_, fun j => frozen_of_row w g j _ T h⟩ <;> rw [cell_of_row w g _ _ T (0, 0) h] <;> rfl

/-- The reader in block g, over the bytes at a: where it is, and its count. -/
def RdC (T : TypeId) (xs : List Int) (w : World) (g : Nat) (a : Option Addr) (cap : Nat) (p q : Int) : Prop :=
  w.heap[g]? = some (.cells #[.slice a xs.length cap, .int .i64 p, .int .i64 q] T (0, 0)) ∧ Seg w a xs ∧ (∀ x, a = some x → xs ≠ [] → x.block < g) ∧ xs.length ≤ cap ∧ cap ≤ maxLen ∧ xs.length ≤ 1048576 ∧ -1 ≤ p ∧ p ≤ xs.length

variable {T : TypeId} {xs : List Int} {w w' w1 wr w5 w6 : World} {g : Nat} {a : Option Addr} {cap : Nat} {p q p' q' : Int}

theorem RdC.lt (h : RdC T xs w g a cap p q) : g < w.heap.size := (Array.getElem?_eq_some_iff.1 h.1).1
theorem seg_kept (h : Seg w a xs) (hx : ∀ x, a = some x → xs ≠ [] → w'.heap[x.block]? = w.heap[x.block]?) : Seg w' a xs := by
  refine ⟨h.1, ?_⟩
  rcases h.2 with h0 | ⟨b, off, rfl, hc⟩
  · exact .inl h0
  · by_cases he : xs = []
    · exact .inl he
    · have hb : w'.heap[b]? = w.heap[b]? := hx _ rfl he
      exact .inr ⟨b, off, rfl, fun i hi => (World.cell?_of_block hb).trans (hc i hi)⟩
/-- It stands where its block and those below it do. -/
theorem RdC.keep (h : RdC T xs w g a cap p q) (hb : ∀ b, b ≤ g → w'.heap[b]? = w.heap[b]?) : RdC T xs w' g a cap p q := by
  obtain ⟨h1, h2, h3, h4⟩ := h
  exact ⟨(hb g (Nat.le_refl _)).trans h1, seg_kept h2 (fun x hx he => hb _ (Nat.le_of_lt (h3 x hx he))), h3, h4⟩
theorem RdC.below (h : RdC T xs w g a cap p q) (hb : Below w.heap.size w w') : RdC T xs w' g a cap p q := h.keep fun b hb' => hb.block b (by have := h.lt; omega)
theorem RdC.heap (h : RdC T xs w g a cap p q) (e : w'.heap = w.heap) : RdC T xs w' g a cap p q := h.keep fun b _ => by rw [e]
/-- .. goes on to another place. -/
theorem RdC.at_ (h : RdC T xs w g a cap p q) (hp : -1 ≤ p') (hp2 : p' ≤ xs.length) : RdC T xs (w.setCell ⟨g, 1, none⟩ (.int .i64 p')) g a cap p' q := by
  obtain ⟨h1, h2, h3, h4, h5, h6, _, _⟩ := h
  refine ⟨heap_setCell_same w g 1 _ _ _ h1, seg_kept h2 fun x hx he => ?_, h3, h4, h5, h6, hp, hp2⟩
  exact Below.heap_setCell w ⟨g, 1, none⟩ _ _ (fun e => by have := h3 x hx he; simp at e; omega)
/-- .. and counts. -/
theorem RdC.cnt (h : RdC T xs w g a cap p q) (q' : Int) : RdC T xs (w.setCell ⟨g, 2, none⟩ (.int .i64 q')) g a cap p q' := by
  obtain ⟨h1, h2, h3, h4⟩ := h
  refine ⟨heap_setCell_same w g 2 _ _ _ h1, seg_kept h2 fun x hx he => ?_, h3, h4⟩
  exact Below.heap_setCell w ⟨g, 2, none⟩ _ _ (fun e => by have := h3 x hx he; simp at e; omega)

theorem text_at (xs : List Int) (a : Int) (hb : ∀ x ∈ xs, Byt x) : -1 ≤ (getText xs a).2 ∧ (getText xs a).2 ≤ xs.length ∧ (getText xs a).1.length ≤ 20 := by
  refine ⟨?_, ?_, getText_len xs a⟩
  all_goals
    have h := get_at xs a hb
    by_cases hn : (getNum xs a).2 < 0 ∨ 20 < (getNum xs a).1 ∨ (xs.length : Int) - (getNum xs a).2 < (getNum xs a).1
    · rw [getText_no _ _ hn]; simp only; omega
    · rw [getText_yes _ _ hn]; simp only; omega

/-- What a reader of a value leaves. -/
def RdEnd (T : TypeId) (xs : List Int) (g : Nat) (a : Option Addr) (cap : Nat) (w : World) (d : Nat) (v : Vl d) (p q : Int) (e : Ending) (w' : World) : Prop :=
  ∃ (uk un : Int) (s2 : Option Addr) (n2 r2 : Nat) (s3 : Option Addr) (n3 r3 : Nat) (s4 : Option Addr) (n4 r4 : Nat), e = .returned (.agg #[.int .i64 uk, .int .i64 un, .slice s2 n2 r2, .slice s3 n3 r3, .slice s4 n4 r4]) ∧
    (∃ B, VOwn w' d (.int .i64 uk, .int .i64 un, .slice s2 n2 r2, .slice s3 n3 r3, .slice s4 n4 r4) v B ∧ ∀ b ∈ B, w.heap.size ≤ b ∧ b < w'.heap.size) ∧ RdC T xs w' g a cap p q ∧ w.grownBy w' (some g)

/-- While its parts are read: its box B holds them, in blocks from w1's end on (and below N). -/
def RInv (T : TypeId) (xs : List Int) (g : Nat) (a : Option Addr) (cap : Nat) (w1 : World) (B d : Nat) (kd : Int) (K : List (List Int)) (L : List (Vl d)) (p q : Int) (N : Nat) (wr : World) (xK : Value) (csK : List (List Value)) (BiK : List (List Nat)) (xL : Value) (csL : List (List Value)) (BiL : List (List Nat)) : Prop :=
  (wr.os = w1.os ∧ wr.tape = w1.tape ∧ wr.output = w1.output ∧ w1.heap.size ≤ wr.heap.size ∧ ∀ b, b < w1.heap.size → b ≠ B → b ≠ g → wr.heap[b]? = w1.heap[b]?) ∧
  wr.heap[B]? = some (.cells #[.int .i64 kd, .int .i64 0, .slice none 0 0, xK, xL] 26 (0, 0)) ∧
  RW 22 1 (ItK K) wr w1.heap.size xK K.length csK BiK ∧ RW 26 5 (ItV d L) wr w1.heap.size xL L.length csL BiL ∧
  (∀ b ∈ xK.ownBlock.toList ++ BiK.flatten, b ∉ xL.ownBlock.toList ++ BiL.flatten) ∧ (∀ b ∈ (xK.ownBlock.toList ++ BiK.flatten) ++ (xL.ownBlock.toList ++ BiL.flatten), b < N) ∧ N ≤ wr.heap.size ∧ RdC T xs wr g a cap p q ∧ g < B ∧ B < w1.heap.size

theorem RW.more {T : TypeId} {s : Nat} {It It' : World → Nat → List Value → List Nat → Prop} {base : Nat} {x : Value} {n : Nat} {cs : List (List Value)} {Bi : List (List Nat)} (h : RW T s It w base x n cs Bi) (hIt : ∀ i c B, i < n → It w i c B → It' w i c B) : RW T s It' w base x n cs Bi := by
  obtain ⟨h1, h2, h3, h4, h5, h6⟩ := h
  exact ⟨h1, h2, h3, fun i hi => hIt _ _ _ hi (h4 i hi), h5, h6⟩

/-- One item more, in blocks that the row does not have. -/
theorem RW.put {T : TypeId} {s : Nat} {It : World → Nat → List Value → List Nat → Prop} (hIt : ∀ w w' i c B, It w i c B → Agree (fun b => b ∈ B) w w' → It w' i c B) {w2 w3 : World} {base : Nat} {x : Value} {n : Nat} {cs : List (List Value)} {Bi : List (List Nat)} {c : List Value} {Bv : List Nat} {g cap : Nat}
    (h : RW T s It w2 base x n cs Bi) (hc : It w2 n c Bv) (hBv : ∀ b ∈ Bv, base ≤ b ∧ b < w2.heap.size ∧ b ∉ x.ownBlock.toList ++ Bi.flatten) (hBn : Bv.Nodup)
    (hown : w3.ownsRow base T s (.slice (some ⟨g, 0, none⟩) (n + 1) cap) (n + 1) (cs.flatten ++ c)) (hg : w2.grownBy w3 x.ownBlock) (hat : x.ownBlock = some g ∨ g = w2.heap.size) :
    RW T s It w3 base (.slice (some ⟨g, 0, none⟩) (n + 1) cap) (n + 1) (cs ++ [c]) (Bi ++ [Bv]) := by
  obtain ⟨h1, h2, h3, h4, h5, h6⟩ := h
  have hlt := hown.lt g rfl
  have hsz := hg.size
  have hfl : ∀ b ∈ Bi.flatten, base ≤ b ∧ b < w2.heap.size := fun b hb => h6 b (by simp only [List.mem_append]; exact .inr hb)
  have hdis : ∀ b ∈ Bi.flatten, x.ownBlock ≠ some b := by
    intro b hb hx
    rw [hx] at h5
    simp only [Option.toList_some, List.nodup_append] at h5
    exact h5.2.2 b (by simp) b hb rfl
  refine ⟨by simp [h1], by simp [h2], by simpa using hown, fun i hi => ?_, ?_, ?_⟩
  · by_cases hin : i < n
    · have e1 : (cs ++ [c]).getD i [] = cs.getD i [] := by simp [List.getD_eq_getElem?_getD, List.getElem?_append_left (show i < cs.length by omega)]
      have e2 : (Bi ++ [Bv]).getD i [] = Bi.getD i [] := by simp [List.getD_eq_getElem?_getD, List.getElem?_append_left (show i < Bi.length by omega)]
      rw [e1, e2]
      refine hIt _ _ _ _ _ (h4 i hin) fun b hb => ?_
      have hm := mem_flat hb
      have hb' := hfl b hm
      exact hg.block b (by omega) (fun e => hdis b hm e.symm)
    · have hin' : i = n := by omega
      subst hin'
      have e1 : (cs ++ [c]).getD i [] = c := by rw [← h1]; simp [List.getD_eq_getElem?_getD]
      have e2 : (Bi ++ [Bv]).getD i [] = Bv := by rw [← h2]; simp [List.getD_eq_getElem?_getD]
      rw [e1, e2]
      refine hIt _ _ _ _ _ hc fun b hb => ?_
      have hb' := hBv b hb
      exact hg.block b hb'.2.1 (fun e => hb'.2.2 (by simp [← e]))
  · have hmid : (Bi.flatten ++ Bv).Nodup := by
      rw [List.nodup_append]
      refine ⟨(List.nodup_append.1 h5).2.1, hBn, fun a ha' b hb' e => ?_⟩
      subst e
      exact (hBv a hb').2.2 (by simp only [List.mem_append]; exact .inr ha')
    have hgn : g ∉ Bi.flatten ++ Bv := by
      intro hm
      rcases hat with hx | hx
      · rcases List.mem_append.1 hm with h' | h'
        · exact hdis g h' hx
        · exact (hBv g h').2.2 (by simp [hx])
      · rcases List.mem_append.1 hm with h' | h'
        · have := hfl g h'; omega
        · have := hBv g h'; omega
    simp only [Value.ownBlock, Option.toList_some, List.flatten_append, List.flatten_singleton, List.singleton_append]
    exact List.nodup_cons.2 ⟨hgn, hmid⟩
  · intro b hb
    simp only [Value.ownBlock, Option.toList_some, List.flatten_append, List.flatten_singleton, List.singleton_append, List.mem_cons, List.mem_append] at hb
    rcases hb with rfl | hb | hb
    · exact hlt
    · have := hfl b hb; omega
    · have := hBv b hb; omega

theorem itK_more {K : List (List Int)} (t : List Int) : ∀ i c B, i < K.length → ItK K w i c B → ItK (K ++ [t]) w i c B := by
  rintro i c B hi ⟨u, rfl, h⟩
  exact ⟨u, rfl, by simpa [List.getD_eq_getElem?_getD, List.getElem?_append_left hi] using h⟩
theorem itV_more {d : Nat} {L : List (Vl d)} (t : Vl d) : ∀ i c B, i < L.length → ItV d L w i c B → ItV d (L ++ [t]) w i c B := by
  rintro i c B hi ⟨e, rfl, h, hv⟩
  exact ⟨e, rfl, by simp; omega, by simpa [List.getElem_append_left hi] using hv⟩
theorem itK_new {K : List (List Int)} {t : List Int} {u : Value} {B : List Nat} (h : TOwn w u t B) : ItK (K ++ [t]) w K.length [u] B := ⟨u, rfl, by simpa [List.getD_eq_getElem?_getD] using h⟩
theorem itV_new {d : Nat} {L : List (Vl d)} {t : Vl d} {e : Value × Value × Value × Value × Value} {B : List Nat} (h : VOwn w d e t B) : ItV d (L ++ [t]) w L.length (enc5 e) B := ⟨e, rfl, by simp, by simpa using h⟩

section
variable {B d : Nat} {kd : Int} {K : List (List Int)} {L : List (Vl d)} {N : Nat} {xK xL : Value} {csK csL : List (List Value)} {BiK BiL : List (List Nat)}

/-- Whatever leaves all but the reader's own block. -/
theorem RInv.on (h : RInv T xs g a cap w1 B d kd K L p q N wr xK csK BiK xL csL BiL) (hg : wr.grownBy w5 (some g)) (hc : RdC T xs w5 g a cap p' q') : RInv T xs g a cap w1 B d kd K L p' q' N w5 xK csK BiK xL csL BiL := by
  obtain ⟨⟨f1, f2, f3, f4, f5⟩, h2, h3, h4, h5, h6, h7, h8, h9, h10⟩ := h
  have hz := hg.size
  refine ⟨⟨hg.os.trans f1, hg.tape.trans f2, hg.output.trans f3, by omega, fun b hb hB hne => (hg.block b (by omega) (by simpa using hne)).trans (f5 b hb hB hne)⟩, (hg.block B (by omega) (by simp; omega)).trans h2, ?_, ?_, h5, h6, by omega, hc, h9, h10⟩
  · exact h3.agree (ItK.agree K) (fun b hb => hg.block b (h3.2.2.2.2.2 b hb).2 (by have := (h3.2.2.2.2.2 b hb).1; simp; omega)) hz
  · exact h4.agree (ItV.agree d L) (fun b hb => hg.block b (h4.2.2.2.2.2 b hb).2 (by have := (h4.2.2.2.2.2 b hb).1; simp; omega)) hz

theorem RInv.alloc (h : RInv T xs g a cap w1 B d kd K L p q N wr xK csK BiK xL csL BiL) (o : Obj) : RInv T xs g a cap w1 B d kd K L p q N (wr.alloc o) xK csK BiK xL csL BiL :=
  h.on (World.grownBy_alloc wr o _) (h.2.2.2.2.2.2.2.1.keep fun b hb => Below.heap_alloc _ _ _ (by have := h.2.2.2.2.2.2.2.1.lt; omega))

theorem RInv.same (h : RInv T xs g a cap w1 B d kd K L p q N wr xK csK BiK xL csL BiL) (e : w5.heap = wr.heap) (e1 : w5.os = wr.os) (e2 : w5.tape = wr.tape) (e3 : w5.output = wr.output) : RInv T xs g a cap w1 B d kd K L p q N w5 xK csK BiK xL csL BiL :=
  h.on ⟨e1, e2, e3, by rw [e]; exact Nat.le_refl _, fun b _ _ => by rw [e]⟩ (h.2.2.2.2.2.2.2.1.heap e)

theorem rinv_k {t : List Int} {u : Value} {Bv : List Nat} {gn cp : Nat} (h : RInv T xs g a cap w1 B d kd K L p q N w5 xK csK BiK xL csL BiL) (hv : TOwn w5 u t Bv) (hBv : ∀ b ∈ Bv, N ≤ b ∧ w1.heap.size ≤ b ∧ b < w5.heap.size) (hBn : Bv.Nodup)
    (hown : w6.ownsRow w1.heap.size 22 1 (.slice (some ⟨gn, 0, none⟩) (K.length + 1) cp) (K.length + 1) (csK.flatten ++ [u])) (hg : w5.grownBy w6 xK.ownBlock) (hat : xK.ownBlock = some gn ∨ gn = w5.heap.size) :
    w6.heap[B]? = some (.cells #[.int .i64 kd, .int .i64 0, .slice none 0 0, xK, xL] 26 (0, 0)) ∧
      RInv T xs g a cap w1 B d kd (K ++ [t]) L p q w6.heap.size (w6.setCell ⟨B, 3, none⟩ (.slice (some ⟨gn, 0, none⟩) (K.length + 1) cp)) (.slice (some ⟨gn, 0, none⟩) (K.length + 1) cp) (csK ++ [[u]]) (BiK ++ [Bv]) xL csL BiL := by
  obtain ⟨⟨f1, f2, f3, f4, f5⟩, h2, h3, h4, h5, h6, h7, h8, h9, h10⟩ := h
  have hz := hg.size
  have hKb := h3.2.2.2.2.2
  have hLb := h4.2.2.2.2.2
  have hxlt := h3.2.2.1.lt
  have hneB : some B ≠ xK.ownBlock := fun e => by have := hxlt B e.symm; omega
  have hV6 := (hg.block B (by omega) hneB).trans h2
  have hA := grown1 w6 B 3 (.slice (some ⟨gn, 0, none⟩) (K.length + 1) cp)
  have hsA : (w6.setCell ⟨B, 3, none⟩ (.slice (some ⟨gn, 0, none⟩) (K.length + 1) cp)).heap.size = w6.heap.size := by simp [World.setCell]
  have hR := RW.put (ItK.agree (K ++ [t])) (h3.more (itK_more t)) (itK_new hv) (fun b hb => ⟨(hBv b hb).2.1, (hBv b hb).2.2, fun hm => by have h1 := h6 b (by simp only [List.mem_append] at hm ⊢; exact .inl hm); have := hBv b hb; omega⟩) hBn hown hg hat
  have hLK : ∀ b ∈ xL.ownBlock.toList ++ BiL.flatten, some b ≠ xK.ownBlock := fun b hb e => h5 b (by simp [← e]) hb
  have hsame : ∀ b, b ≠ B → (w6.setCell ⟨B, 3, none⟩ (.slice (some ⟨gn, 0, none⟩) (K.length + 1) cp)).heap[b]? = w6.heap[b]? := fun b hb => Below.heap_setCell w6 _ _ b (by show b ≠ B; exact hb)
  refine ⟨hV6, ⟨hg.os.trans f1, hg.tape.trans f2, hg.output.trans f3, by omega, fun b hb hB hne => ?_⟩, heap_setCell_same w6 B 3 _ _ _ hV6, ?_, ?_, ?_, ?_, by omega, ?_, h9, h10⟩
  · exact (hsame b hB).trans ((hg.block b (by omega) (fun e => by have := hxlt b e.symm; omega)).trans (f5 b hb hB hne))
  · have := hR.agree (ItK.agree (K ++ [t])) (w' := w6.setCell ⟨B, 3, none⟩ (.slice (some ⟨gn, 0, none⟩) (K.length + 1) cp)) (fun b hb => hsame b (by have := hR.2.2.2.2.2 b hb; omega)) (by omega)
    simpa using this
  · exact h4.agree (ItV.agree d L) (fun b hb => (hsame b (by have := hLb b hb; omega)).trans (hg.block b (hLb b hb).2 (hLK b hb))) (by omega)
  · intro b hb hbL
    simp only [Value.ownBlock, Option.toList_some, List.flatten_append, List.flatten_singleton, List.singleton_append, List.mem_cons, List.mem_append] at hb
    rcases hb with rfl | hb | hb
    · rcases hat with hx | hx
      · exact h5 b (by simp [hx]) hbL
      · have := hLb b hbL; omega
    · exact h5 b (by simp [hb]) hbL
    · have h1 := h6 b (by simp only [List.mem_append] at hbL ⊢; exact .inr hbL)
      have := hBv b hb; omega
  · intro b hb
    rcases List.mem_append.1 hb with hb | hb
    · have := (hR.2.2.2.2.2 b hb).2; omega
    · have := (hLb b hb).2; omega
  · refine h8.keep fun b hb => (hsame b (by omega)).trans (hg.block b (by omega) (fun e => by have := hxlt b e.symm; omega))

theorem rinv_l {t : Vl d} {e5 : Value × Value × Value × Value × Value} {Bv : List Nat} {gn cp : Nat} (h : RInv T xs g a cap w1 B d kd K L p q N w5 xK csK BiK xL csL BiL) (hv : VOwn w5 d e5 t Bv) (hBv : ∀ b ∈ Bv, N ≤ b ∧ w1.heap.size ≤ b ∧ b < w5.heap.size) (hBn : Bv.Nodup)
    (hown : w6.ownsRow w1.heap.size 26 5 (.slice (some ⟨gn, 0, none⟩) (L.length + 1) cp) (L.length + 1) (csL.flatten ++ enc5 e5)) (hg : w5.grownBy w6 xL.ownBlock) (hat : xL.ownBlock = some gn ∨ gn = w5.heap.size) :
    w6.heap[B]? = some (.cells #[.int .i64 kd, .int .i64 0, .slice none 0 0, xK, xL] 26 (0, 0)) ∧
      RInv T xs g a cap w1 B d kd K (L ++ [t]) p q w6.heap.size (w6.setCell ⟨B, 4, none⟩ (.slice (some ⟨gn, 0, none⟩) (L.length + 1) cp)) xK csK BiK (.slice (some ⟨gn, 0, none⟩) (L.length + 1) cp) (csL ++ [enc5 e5]) (BiL ++ [Bv]) := by
  obtain ⟨⟨f1, f2, f3, f4, f5⟩, h2, h3, h4, h5, h6, h7, h8, h9, h10⟩ := h
  have hz := hg.size
  have hKb := h3.2.2.2.2.2
  have hLb := h4.2.2.2.2.2
  have hxlt := h4.2.2.1.lt
  have hneB : some B ≠ xL.ownBlock := fun e => by have := hxlt B e.symm; omega
  have hV6 := (hg.block B (by omega) hneB).trans h2
  have hA := grown1 w6 B 4 (.slice (some ⟨gn, 0, none⟩) (L.length + 1) cp)
  have hsA : (w6.setCell ⟨B, 4, none⟩ (.slice (some ⟨gn, 0, none⟩) (L.length + 1) cp)).heap.size = w6.heap.size := by simp [World.setCell]
  have hR := RW.put (ItV.agree d (L ++ [t])) (h4.more (itV_more t)) (itV_new hv) (fun b hb => ⟨(hBv b hb).2.1, (hBv b hb).2.2, fun hm => by have h1 := h6 b (by simp only [List.mem_append] at hm ⊢; exact .inr hm); have := hBv b hb; omega⟩) hBn hown hg hat
  have hKL : ∀ b ∈ xK.ownBlock.toList ++ BiK.flatten, some b ≠ xL.ownBlock := fun b hb e => h5 b hb (by simp [← e])
  have hsame : ∀ b, b ≠ B → (w6.setCell ⟨B, 4, none⟩ (.slice (some ⟨gn, 0, none⟩) (L.length + 1) cp)).heap[b]? = w6.heap[b]? := fun b hb => Below.heap_setCell w6 _ _ b (by show b ≠ B; exact hb)
  refine ⟨hV6, ⟨hg.os.trans f1, hg.tape.trans f2, hg.output.trans f3, by omega, fun b hb hB hne => ?_⟩, heap_setCell_same w6 B 4 _ _ _ hV6, ?_, ?_, ?_, ?_, by omega, ?_, h9, h10⟩
  · exact (hsame b hB).trans ((hg.block b (by omega) (fun e => by have := hxlt b e.symm; omega)).trans (f5 b hb hB hne))
  · exact h3.agree (ItK.agree K) (fun b hb => (hsame b (by have := hKb b hb; omega)).trans (hg.block b (hKb b hb).2 (hKL b hb))) (by omega)
  · have := hR.agree (ItV.agree d (L ++ [t])) (w' := w6.setCell ⟨B, 4, none⟩ (.slice (some ⟨gn, 0, none⟩) (L.length + 1) cp)) (fun b hb => hsame b (by have := hR.2.2.2.2.2 b hb; omega)) (by omega)
    simpa using this
  · intro b hb hbL
    simp only [Value.ownBlock, Option.toList_some, List.flatten_append, List.flatten_singleton, List.singleton_append, List.mem_cons, List.mem_append] at hbL
    rcases hbL with rfl | hbL | hbL
    · rcases hat with hx | hx
      · exact h5 b hb (by simp [hx])
      · have := hKb b hb; omega
    · exact h5 b hb (by simp [hbL])
    · have h1 := h6 b (by simp only [List.mem_append] at hb ⊢; exact .inl hb)
      have := hBv b hbL; omega
  · intro b hb
    rcases List.mem_append.1 hb with hb | hb
    · have := (hKb b hb).2; omega
    · have := (hR.2.2.2.2.2 b hb).2; omega
  · refine h8.keep fun b hb => (hsame b (by omega)).trans (hg.block b (by omega) (fun e => by have := hxlt b e.symm; omega))

/-- All of it: a value of the call's own. -/
theorem RInv.own (h : RInv T xs g a cap w1 B d kd K L p q N wr xK csK BiK xL csL BiL) : ∃ Bs, VOwn wr (d + 1) (.int .i64 kd, .int .i64 0, .slice none 0 0, xK, xL) (kd, 0, [], K, L) Bs ∧ ∀ b ∈ Bs, w1.heap.size ≤ b ∧ b < wr.heap.size := by
  obtain ⟨_, h2, h3, h4, h5, h6, h7, h8, h9, h10⟩ := h
  refine ⟨(xK.ownBlock.toList ++ BiK.flatten) ++ (xL.ownBlock.toList ++ BiL.flatten), (VOwn_succ _ _ _ _ _).2 ⟨rfl, rfl, [], xK.ownBlock.toList ++ BiK.flatten, xL.ownBlock.toList ++ BiL.flatten, ⟨⟨by simp, rfl, .inl ⟨rfl, rfl⟩⟩, .inl ⟨rfl, rfl⟩⟩, h3.kown, h4.lown, by simp, ?_⟩, fun b hb => ?_⟩
  · refine List.nodup_append.2 ⟨h3.2.2.2.2.1, h4.2.2.2.2.1, fun x hx y hy e => h5 x hx (by rw [e]; exact hy)⟩
  · rcases List.mem_append.1 hb with hb | hb
    · exact h3.2.2.2.2.2 b hb
    · exact h4.2.2.2.2.2 b hb

end
end Go.Proofs.YthnkedbmfhokiaaGreatDoor
