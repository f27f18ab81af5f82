/-
  Texts that a law leans on, one behind the other; no statement is proved here.
-/
import Derived.Test.YtbeekbkambkgoaaPk6
import Derived.Deep.RegionHeld3
import Derived.Laws.IdiomStrings
import Derived.Test.YtbeekbkambkgoaaPk1
import Derived.Test.YtbeekbkambkgoaaPk5
import Derived.Sort.KeysCollected
/-
  valueOf of the program at a list.
-/
namespace Go.Proofs.Ytbeekbkambkgoaa
open Go.RowKit Go.Shelf
set_option linter.unusedVariables false
set_option linter.unusedSimpArgs false


/-- The contract of valueOf, at depth d. -/
def ValAt (d : Nat) : Prop := ∀ (N : Nat) (p : Value) (v : Vl d) (deep : Nat) (w : World), PSeg (fun b => b < N) w d p v → N ≤ w.heap.size → goodB d v deep = true → partsV d v ≤ 40 → Calls Try.prog 32 #[p] w (ValEnd d v w)

/-- After k rounds: V's box (block B) holds a list of k values of the call's own, in blocks from 'base' on. -/
def VInv (w1 : World) (B base : Nat) (d : Nat) (l : List (Vl d)) (kk : Int) (y3 : Value) (k : Nat) (wr : World) (x : Value) (cs : List (List Value)) (Bi : List (List Nat)) : Prop :=
  wr.heap[B]? = some (.cells #[.int .i64 kk, .int .i64 0, .slice none 0 0, y3, x] 30 (0, 0)) ∧ RW 30 5 (ItV d l) wr base x k cs Bi ∧ Below B w1 wr ∧ base ≤ wr.heap.size

theorem vinv_step {w1 wr w5 w6 : World} {B base d : Nat} {l : List (Vl d)} {kk : Int} {y3 : Value} {k : Nat} {x : Value} {cs : List (List Value)} {Bi : List (List Nat)} {c : List Value} {Bv : List Nat} {g cp : Nat} {o : Obj} (h : VInv w1 B base d l kk y3 k wr x cs Bi) (hB : B < base)
    (b5 : Below wr.heap.size wr w5) (hv : ItV d l w5 k c Bv) (hBv : ∀ b ∈ Bv, wr.heap.size ≤ b ∧ b < w5.heap.size) (hBn : Bv.Nodup)
    (hown : w6.ownsRow base 30 5 (.slice (some ⟨g, 0, none⟩) (k + 1) cp) (k + 1) (cs.flatten ++ c)) (hg : (w5.alloc o).grownBy w6 x.ownBlock) (hat : x.ownBlock = some g ∨ g = w5.heap.size + 1) :
    w6.heap[B]? = some (.cells #[.int .i64 kk, .int .i64 0, .slice none 0 0, y3, x] 30 (0, 0)) ∧ VInv w1 B base d l kk y3 (k + 1) (w6.setCell ⟨B, 4, none⟩ (.slice (some ⟨g, 0, none⟩) (k + 1) cp)) (.slice (some ⟨g, 0, none⟩) (k + 1) cp) (cs ++ [c]) (Bi ++ [Bv]) ∧ Below wr.heap.size wr w5 := by
  obtain ⟨h1, h2, h3, h4⟩ := h
  have hz5 := b5.size
  have hz6 := hg.size
  simp at hz6
  have hxlt := h2.2.2.1.lt
  have hBw : B < wr.heap.size := by omega
  have hneB : some B ≠ x.ownBlock := fun e => by have := hxlt B e.symm; omega
  have hV6 : w6.heap[B]? = some (.cells #[.int .i64 kk, .int .i64 0, .slice none 0 0, y3, x] 30 (0, 0)) := (hg.block B (by simp; omega) hneB).trans ((Below.heap_alloc _ _ _ (by omega)).trans ((b5.block B hBw).trans h1))
  have hA := grown1 w6 B 4 (.slice (some ⟨g, 0, none⟩) (k + 1) cp)
  have hR := RW.add (w2 := w5.alloc o) (ItV.agree d l) h2 (fun b hb => (Below.heap_alloc _ _ _ (by omega)).trans (b5.block b hb)) (by simp; omega) (ItV.agree d l _ _ _ _ _ hv fun b hb => Below.heap_alloc _ _ _ (hBv b hb).2) (fun b hb => by have := hBv b hb; simp; omega) hBn h4 hown hg (by simpa using hat)
  refine ⟨hV6, ⟨heap_setCell_same w6 B 4 _ _ _ hV6, ?_, ?_, ?_⟩, b5⟩
  · refine hR.agree (ItV.agree d l) (fun b hb => ?_) (by simp [World.setCell])
    have := hR.2.2.2.2.2 b hb
    exact Below.heap_setCell w6 _ _ b (by show b ≠ B; omega)
  · have hb1 : Below B w1 (w5.alloc o) := (Below.trans h3 (b5.mono (by omega))).alloc (by have := h3.size; omega) o
    have hb2 := hb1.grown hg (by simp; omega) (fun j hj => by have := hxlt j hj; omega)
    exact hb2.grown hA (by omega) (by intro j hj; simp at hj; omega)
  · show base ≤ (w6.setCell _ _).heap.size
    simp [World.setCell]
    omega

/-- What a call of valueOf leaves of it. -/
def VCall (B base : Nat) (d : Nat) (l : List (Vl d)) (k : Nat) (wr : World) (x : Value) (xs : List Value) (e : Ending) (w5 : World) : Prop :=
  ∃ (uk un : Int) (s2 : Option Addr) (n2 r2 : Nat) (s3 : Option Addr) (n3 r3 : Nat) (s4 : Option Addr) (n4 r4 : Nat), e = .returned (.agg #[.int .i64 uk, .int .i64 un, .slice s2 n2 r2, .slice s3 n3 r3, .slice s4 n4 r4]) ∧
    ∃ Bv, ItV d l w5 k [.int .i64 uk, .int .i64 un, .slice s2 n2 r2, .slice s3 n3 r3, .slice s4 n4 r4] Bv ∧ (∀ b ∈ Bv, wr.heap.size ≤ b ∧ b < w5.heap.size) ∧ Bv.Nodup ∧ Below wr.heap.size wr w5 ∧ w5.cell? ⟨B, 4, none⟩ = some x ∧ w5.ownsRow base 30 5 x k xs

theorem vinv_call {w1 wr wy w5 : World} {B base d : Nat} {l : List (Vl d)} {kk : Int} {y3 : Value} {k : Nat} {x : Value} {cs : List (List Value)} {Bi : List (List Nat)} {e : Ending} (h : VInv w1 B base d l kk y3 k wr x cs Bi) (hB : B < base) (hk : k < l.length)
    (hy : Below wr.heap.size wr wy) (he : ValEnd d l[k] wy e w5) : VCall B base d l k wr x cs.flatten e w5 := by
  obtain ⟨u0, u1, u2, u3, u4, rfl, Bv, hv, hb, h5⟩ := he
  obtain ⟨uk, un, s2, n2, r2, s3, n3, r3, s4, n4, r4, rfl, rfl, rfl, rfl, rfl⟩ := VOwn.form d hv
  have hb5 := Below.on hy h5
  have hz := hy.size
  refine ⟨uk, un, s2, n2, r2, s3, n3, r3, s4, n4, r4, rfl, Bv, ⟨_, rfl, hk, hv⟩, fun b hm => ?_, VOwn.nodup d hv, hb5, ?_, ?_⟩
  · have := hb b hm; omega
  · exact (World.cell?_of_block (hb5.block B (by have := h.2.2.2; omega))).trans (row5 h.1).2.2.2.2.1
  · exact h.2.1.2.2.1.kept (row := none) ⟨hb5.os, hb5.tape, hb5.output, hb5.size, fun k hk _ => hb5.block k hk⟩ (by cases hv : x.ownBlock <;> simp)
end Go.Proofs.Ytbeekbkambkgoaa
/-
  valueOf of the program at a list: the walk.
-/
namespace Go.Proofs.Ytbeekbkambkgoaa
open Go.RowKit Go.Shelf
set_option linter.unusedVariables false
set_option linter.unusedSimpArgs false

set_option maxHeartbeats 6400000 in
set_option maxRecDepth 100000 in
theorem valueOf_listPart (d : Nat) (ih : ValAt d) (N : Nat) (a : Option Addr) (cap : Nat) (l : List (Vl d)) (deep : Nat) (w : World) (hp : PLSeg (fun b => b < N) w d (.slice a l.length cap) l) (hN : N ≤ w.heap.size) (hl : l.length ≤ 40) (hgd : ∀ i (h : i < l.length), goodB d l[i] deep = true ∧ partsV d l[i] ≤ 40) :
    Calls Try.prog 32 #[.iface 72 (.agg #[.slice a l.length cap])] w fun e w' => ∃ u, e = .returned (.agg #[.int .i64 4, .int .i64 0, .slice none 0 0, .slice none 0 0, u]) ∧ ∃ B, LOwn w' d u l B ∧ (∀ b ∈ B, w.heap.size ≤ b ∧ b < w'.heap.size) ∧ Below w.heap.size w w' := by
  obtain ⟨i0, hi, hz0, hz1, hz2⟩ := info_parts info_valueT
  have m1 := meth_listPart (.agg #[.slice a l.length cap])
  have t1 := nobool_listPart (.agg #[.slice a l.length cap])
  have t2 := noint_listPart (.agg #[.slice a l.length cap])
  have t3 := notext_listPart (.agg #[.slice a l.length cap])
  have t4 := is_listPart (.agg #[.slice a l.length cap])
  have HK := hide' (kind_listPart a l.length cap)
  have HA : Hid (∀ o : Obj, Below w.heap.size w (w.alloc o)) := fun o => (Below.refl _ _).alloc (Nat.le_refl _) o
  have HP := hide' hp
  have HG := hide' hgd
  clear hp hgd
  go_enter Try.func32, Try.ntmps32
  go_wp2_with fail
  refine (HK.out _).mono ?_
  rintro e w1 ⟨rfl, b1⟩
  have hr : w1.heap[w.heap.size]? = some (.cells #[.int .i64 0, .int .i64 0, .slice none 0 0, .slice none 0 0, .slice none 0 0] 30 (0, 0)) := box_row b1
  have B1 := hide' (Below.on (HA.out _) b1)
  have hlt : w.heap.size < w1.heap.size := (Array.getElem?_eq_some_iff.1 hr).1
  have hne : ¬ w.heap.size = w1.heap.size := by omega
  have hne' : ¬ w1.heap.size = w.heap.size := by omega
  have Hr := hide' hr
  have HV : Hid (∀ o o' : Obj, ((w1.alloc o).alloc o').heap[w1.heap.size]? = some o ∧ Below w1.heap.size w1 ((w1.alloc o).alloc o')) := fun o o' => ⟨(Below.heap_alloc _ _ _ (by simp)).trans (MapKept.heap_alloc w1 o).1, ((Below.refl _ _).alloc (Nat.le_refl _) o).alloc (by simp) o'⟩
  clear b1 hr
  go_wp2_with fail
  go_loopw [44] (fun i wr => ∃ k : Nat, k ≤ l.length ∧ i = .int .i64 k ∧ ∃ x cs Bi, VInv w1 w1.heap.size (w1.heap.size + 2) d l 4 (.slice none 0 0) k wr x cs Bi) (fun i _ => l.length - (intOf i).toNat)
  case atStart => exact ⟨0, Nat.zero_le _, rfl, _, _, _, (HV.out _ _).1, RW.nil _ _ _ _ _, (HV.out _ _).2, by simp⟩
  case round =>
    obtain ⟨k, hk, rfl, x, cs, Bi, hI⟩ := hrel
    have HI := hide' hI
    have hvs : ∃ p c, x = .slice p k c := by
      rcases hI.2.1.2.2.1.2 with ⟨rfl, h0⟩ | ⟨g, cap, cur, rfl, _⟩
      · exact ⟨none, 0, by rw [h0]⟩
      · exact ⟨_, _, rfl⟩
    obtain ⟨vp, vc, rfl⟩ := hvs
    obtain ⟨c0, c1, c2, c3, c4, cf⟩ := row5 hI.1
    have hz4 := hI.2.2.2
    clear hI
    by_cases hkl : k < l.length
    · have hkl' : (k : Int) < (l.length : Int) := by omega
      have hk0 : (0 : Int) ≤ (k : Int) := Int.natCast_nonneg _
      obtain ⟨b, off, t, px, rfl, hb, hcell, hps⟩ := HP.out.at hkl
      have hbN : b < N := hb
      have hBw : Below w.heap.size w wr := Below.on B1.out HI.out.2.2.1
      have hcell' : wr.cell? ⟨b, off + k, none⟩ = some (.iface t px) := (World.cell?_of_block (hBw.block b (by omega))).trans hcell
      have HE : Hid (∀ wy, Below wr.heap.size wr wy → Calls Try.prog 32 #[.iface t px] wy (VCall w1.heap.size (w1.heap.size + 2) d l k wr (.slice vp k vc) cs.flatten)) := fun wy hy => (ih N _ _ deep wy (PSeg.carry (fun b h => h) (fun b (h : b < N) => (Below.on hBw hy).block b (by omega)) d hps) (by have := (Below.on hBw hy).size; omega) (HG.out k hkl).1 (HG.out k hkl).2).mono fun e w5 he => vinv_call HI.out (by omega) hkl hy he
      clear hps hBw hcell hb
      go_wp2_with fail
      have HC := hide' (And.intro c0 (And.intro c1 (And.intro c2 (And.intro c3 cf))))
      clear c0 c1 c2 c3 cf m1 t1 t2 t3 t4 HK hcell'
      go_region_law
        (first
          | (go_simp; go_at_call 32; refine (HE.out _ (by first | exact Below.refl _ _ | exact (Below.refl _ _).drew | exact (Below.refl _ _).drew.drew)).mono ?_; rintro e w5 ⟨uk, un, s2, n2, r2, s3, n3, r3, s4, n4, r4, rfl, Bv, hit, hbv, hbn, b5, hc5, ho5⟩; replace hit := hide' (And.intro hit (And.intro hbv (And.intro hbn (And.intro b5 ho5)))); have hz5 : w1.heap.size < w5.heap.size := (by have := b5.size; omega); have hc5o : ∀ o, (w5.alloc o).cell? ⟨w1.heap.size, 4, none⟩ = some (.slice vp k vc) := (fun o => (World.cell?_of_block (Below.heap_alloc w5 o w1.heap.size hz5)).trans hc5); clear hbv hbn b5 ho5)
          | (refine step_append_lies _ (by rfl) _ _ _ (by rfl) (w1.heap.size + 2) 30 i0 _ 5 88 Try.underlying28 hi hz0 hz1 hz2 rfl (by decide) (.slice vp k vc) k cs.flatten (by rfl) (by first | exact hit.out.2.2.2.2.alloc _ | exact (hit.out.2.2.2.2.alloc _).drew) ⟨w5.heap.size, 0, none⟩ 1 1 [.int .i64 uk, .int .i64 un, .slice s2 n2 r2, .slice s3 n3 r3, .slice s4 n4 r4] (by rfl) (by rfl) (World.news_of_block (cs := #[.int .i64 uk, .int .i64 un, .slice s2 n2 r2, .slice s3 n3 r3, .slice s4 n4 r4]) (t := 30) (fr := (0, 0)) (heap_alloc_new w5 _)) (by simp [Value.oneCell']) (by omega) (by unfold maxLen; omega) (by omega) (by have := hit.out.2.2.2.1.size; simp; omega) (w5.heap.size + 1) (by simp) ?_; intro g cp w6 hown6 hg6 hat6 hlt6; obtain ⟨hV6, hI6, _⟩ := vinv_step HI.out (by omega) hit.out.2.2.2.1 hit.out.1 hit.out.2.1 hit.out.2.2.1 hown6 hg6 hat6; obtain ⟨_, _, _, _, hc6, hf6⟩ := row5 hV6; replace hf6 := hf6 4; replace hI6 := hide' hI6; clear hown6 hg6 hat6 hlt6 hV6 hit hc5 hc5o))
      all_goals go_wp2
      all_goals go_roundw
      case rel => exact ⟨k + 1, by omega, by go_num, _, _, _, hI6.out⟩
      case measure => simp [intOf]; omega
      case rel => exact ⟨k + 1, by omega, by go_num, _, _, _, hI6.out⟩
      case measure => simp [intOf]; omega
      case rel => exact ⟨k + 1, by omega, by go_num, _, _, _, hI6.out⟩
      case measure => simp [intOf]; omega
    · have hkn : k = l.length := by omega
      subst hkn
      have hkl' : ¬ (l.length : Int) < (l.length : Int) := by omega
      have hR : wr.heap[w.heap.size]? = some (.cells #[.int .i64 0, .int .i64 0, .slice none 0 0, .slice none 0 0, .slice none 0 0] 30 (0, 0)) := (HI.out.2.2.1.block _ hlt).trans Hr.out
      obtain ⟨r0, r1, r2, r3, r4, rf⟩ := row5 hR
      have f0 := rf 0
      have f1 := rf 1
      have f2 := rf 2
      have f3 := rf 3
      have f4 := rf 4
      replace hR := hide' hR
      clear rf cf m1 t1 t2 t3 t4 HK
      go_wp2_with fail
      have hrow := set5_heap (j := 0) (.int .i64 4) (.int .i64 0) (.slice none 0 0) (.slice none 0 0) (.slice vp l.length vc) hR.out
      have hfin := row5 hrow
      simp only [set5, Nat.zero_add] at hfin
      obtain ⟨y0, y1, y2, y3, y4, _⟩ := hfin
      refine bodyPost_ret (v := .agg #[.int .i64 4, .int .i64 0, .slice none 0 0, .slice none 0 0, .slice vp l.length vc]) (by simp [results, Try.results32, go_sem, y0, y1, y2, y3, y4]) rfl ?_
      have hB5 := set5_grown wr w.heap.size 0 (.int .i64 4) (.int .i64 0) (.slice none 0 0) (.slice none 0 0) (.slice vp l.length vc)
      have hsz4 := set5_size wr w.heap.size 0 (.int .i64 4) (.int .i64 0) (.slice none 0 0) (.slice none 0 0) (.slice vp l.length vc)
      have hBn := Below.on B1.out HI.out.2.2.1
      have hBf := hBn.grown hB5 (by omega) (by intro j hj; simp at hj; omega)
      have hbd := HI.out.2.1.2.2.2.2.2
      refine ⟨_, rfl, _, HI.out.2.1.lown.agree fun b h => ?_, fun b h => ?_, hBf⟩
      · have hb := hbd b h
        exact hB5.block b (by omega) (by simp; omega)
      · have hb := hbd b h
        show w.heap.size ≤ b ∧ b < (set5 _ _ _ _ _ _ _ _).heap.size
        omega
end Go.Proofs.Ytbeekbkambkgoaa
/-
  A row of bytes of the call's own, as a text with its blocks.
-/
namespace Go.Proofs.Ytbeekbkambkgoaa
open Go.RowKit
set_option linter.unusedVariables false
set_option linter.unusedSimpArgs false

theorem tOwn_of {w : World} {base : Nat} {v : Value} {xs : List Int} (h : Bts w base v xs) : ∃ B, TOwn w v xs B ∧ (∀ b ∈ B, base ≤ b ∧ b < w.heap.size) ∧ B.Nodup := by
  have hlt := h.2.lt
  rcases h.2.2 with ⟨rfl, h0⟩ | ⟨g, cap, cur, rfl, _⟩
  · exact ⟨[], ⟨h.free, .inl ⟨rfl, rfl⟩⟩, by simp, by simp⟩
  · exact ⟨[g], ⟨h.free, .inr ⟨g, cap, rfl, rfl⟩⟩, by intro b hb; simp at hb; subst hb; exact hlt b rfl, by simp⟩

end Go.Proofs.Ytbeekbkambkgoaa
/-
  '[]byte(s)': a text of the call's own.
-/
namespace Go.Proofs.Ytbeekbkambkgoaa
open Go.RowKit
set_option linter.unusedVariables false
set_option linter.unusedSimpArgs false

/-- '[]byte(s)': a text of the call's own. -/
theorem conv_back (xs : List Int) (hx : ∀ x ∈ xs, Byt x) (hl : xs.length ≤ 1048576) (w : World) : ∃ cap wB, (convert 9 22 (.string (strOf xs))).run Try.prog w = .ok (.slice (some ⟨w.heap.size, 0, none⟩) xs.length cap) wB ∧
    TOwn wB (.slice (some ⟨w.heap.size, 0, none⟩) xs.length cap) xs [w.heap.size] ∧ Below w.heap.size w wB ∧ wB.heap.size = w.heap.size + 1 := by
  have hsz := size_strOf xs
  have hsc := strCells_of hx
  have hrun := run_bytes_of_string (P := Try.prog) w 9 22 5 (strOf xs) Try.underlying9 Try.underlying22 Try.underlying5
  rw [hsz] at hrun
  have hge := grownCap_ge w xs.length 0 5
  have hle := grownCap_le_maxLen w xs.length 0 5 (by unfold maxLen; omega)
  generalize grownCap w xs.length 0 5 = cap at hrun hge hle
  have hrs : (bytesRow (strOf xs) cap).size = cap := by
    have h1 : (strOf xs).data.size = xs.length := hsz
    simp [bytesRow, h1, hsz]
    omega
  have hrt : (bytesRow (strOf xs) cap).toList.take xs.length = cellsOf xs := by
    rw [← hsc]
    unfold bytesRow Lib.strCells
    rw [Array.toList_append, Array.toList_map, List.take_append_of_le_length (by simp; exact Nat.le_of_eq hsz.symm)]
    rw [List.take_of_length_le (by simp; exact Nat.le_of_eq hsz)]
  rw [hrs] at hrun
  refine ⟨cap, _, hrun, ⟨⟨hx, by simp [cellsOf], .inr ⟨w.heap.size, cap, _, _, rfl, heap_alloc_new w.drew _, .inr (Nat.le_refl _), hge, hle, hrs, hrt⟩⟩, .inr ⟨_, _, rfl, rfl⟩⟩, ((Below.refl _ w).drew).alloc (Nat.le_refl _) _, by simp⟩
end Go.Proofs.Ytbeekbkambkgoaa
/-
  valueOf of the program at a map: what its rounds leave.
-/
namespace Go.Proofs.Ytbeekbkambkgoaa
open Go.RowKit Go.Shelf
set_option linter.unusedVariables false
set_option linter.unusedSimpArgs false

/-- After some rounds: V's box (block B) holds kK texts and kL values of the call's own, in blocks of their own from w2's end on. -/
def MInv (w2 : World) (B d : Nat) (l : List (Vl d)) (ks : List (List Int)) (kK kL : Nat) (wr : World) (xK : Value) (csK : List (List Value)) (BiK : List (List Nat)) (xL : Value) (csL : List (List Value)) (BiL : List (List Nat)) : Prop :=
  w2.grownBy wr (some B) ∧ wr.heap[B]? = some (.cells #[.int .i64 5, .int .i64 0, .slice none 0 0, xK, xL] 30 (0, 0)) ∧ RW 22 1 (ItK ks) wr w2.heap.size xK kK csK BiK ∧ RW 30 5 (ItV d l) wr w2.heap.size xL kL csL BiL ∧
    ∀ b ∈ xK.ownBlock.toList ++ BiK.flatten, b ∉ xL.ownBlock.toList ++ BiL.flatten

variable {w2 wr wB w6 : World} {B d : Nat} {l : List (Vl d)} {ks : List (List Int)} {k kL kK : Nat} {xK xL : Value} {csK csL : List (List Value)} {BiK BiL : List (List Nat)} {c : List Value} {Bv : List Nat} {g cp : Nat} {o : Obj}

theorem minv_k (h : MInv w2 B d l ks k kL wr xK csK BiK xL csL BiL) (hB : B < w2.heap.size) (b5 : Below wr.heap.size wr wB) (hv : ItK ks wB k c Bv) (hBv : ∀ b ∈ Bv, wr.heap.size ≤ b ∧ b < wB.heap.size) (hBn : Bv.Nodup)
    (hown : w6.ownsRow w2.heap.size 22 1 (.slice (some ⟨g, 0, none⟩) (k + 1) cp) (k + 1) (csK.flatten ++ c)) (hg : (wB.alloc o).grownBy w6 xK.ownBlock) (hat : xK.ownBlock = some g ∨ g = wB.heap.size + 1) :
    w6.heap[B]? = some (.cells #[.int .i64 5, .int .i64 0, .slice none 0 0, xK, xL] 30 (0, 0)) ∧ wr.heap.size ≤ w6.heap.size ∧ (∀ b, wr.heap.size ≤ b → b < wB.heap.size → w6.heap[b]? = wB.heap[b]?) ∧
      MInv w2 B d l ks (k + 1) kL (w6.setCell ⟨B, 3, none⟩ (.slice (some ⟨g, 0, none⟩) (k + 1) cp)) (.slice (some ⟨g, 0, none⟩) (k + 1) cp) (csK ++ [c]) (BiK ++ [Bv]) xL csL BiL := by
  obtain ⟨h1, h2, h3, h4, h5⟩ := h
  have hz1 := h1.size
  have hz5 := b5.size
  have hz6 := hg.size
  simp at hz6
  have hxlt := h3.2.2.1.lt
  have hneB : some B ≠ xK.ownBlock := fun e => by have := hxlt B e.symm; omega
  have hV6 : w6.heap[B]? = some (.cells #[.int .i64 5, .int .i64 0, .slice none 0 0, xK, xL] 30 (0, 0)) := (hg.block B (by simp; omega) hneB).trans ((Below.heap_alloc _ _ _ (by omega)).trans ((b5.block B (by omega)).trans h2))
  have hA := grown1 w6 B 3 (.slice (some ⟨g, 0, none⟩) (k + 1) cp)
  have hsA : (w6.setCell ⟨B, 3, none⟩ (.slice (some ⟨g, 0, none⟩) (k + 1) cp)).heap.size = w6.heap.size := by simp [World.setCell]
  have hR := RW.add (w2 := wB.alloc o) (ItK.agree ks) h3 (fun b hb => (Below.heap_alloc _ _ _ (by omega)).trans (b5.block b hb)) (by simp; omega) (ItK.agree ks _ _ _ _ _ hv fun b hb => Below.heap_alloc _ _ _ (hBv b hb).2) (fun b hb => by have := hBv b hb; simp; omega) hBn hz1 hown hg (by simpa using hat)
  have hLb := h4.2.2.2.2.2
  have hLK : ∀ b ∈ xL.ownBlock.toList ++ BiL.flatten, some b ≠ xK.ownBlock := fun b hb e => h5 b (by simp [← e]) hb
  refine ⟨hV6, by omega, fun b hb1 hb2 => (hg.block b (by simp; omega) (fun e => by have := hxlt b e.symm; omega)).trans (Below.heap_alloc _ _ _ hb2), ⟨?_, heap_setCell_same w6 B 3 _ _ _ hV6, ?_, ?_, ?_⟩⟩
  · refine ⟨h1.os ▸ b5.os ▸ hg.os ▸ rfl, h1.tape ▸ b5.tape ▸ hg.tape ▸ rfl, h1.output ▸ b5.output ▸ hg.output ▸ rfl, by omega, fun b hb hne => ?_⟩
    exact (hA.block b (by omega) hne).trans ((hg.block b (by simp; omega) (fun e => by have := hxlt b e.symm; omega)).trans ((Below.heap_alloc _ _ _ (by omega)).trans ((b5.block b (by omega)).trans (h1.block b hb hne))))
  · refine hR.agree (ItK.agree ks) (fun b hb => ?_) (by omega)
    have := hR.2.2.2.2.2 b hb
    exact Below.heap_setCell w6 _ _ b (by show b ≠ B; omega)
  · refine h4.agree (ItV.agree d l) (fun b hb => ?_) (by omega)
    have hb' := hLb b hb
    exact (Below.heap_setCell w6 ⟨B, 3, none⟩ _ b (by show b ≠ B; omega)).trans ((hg.block b (by simp; omega) (hLK b hb)).trans ((Below.heap_alloc _ _ _ (by omega)).trans (b5.block b hb'.2)))
  · intro b hb hbL
    have hb' := hLb b hbL
    simp only [Value.ownBlock, Option.toList_some, List.flatten_append, List.flatten_singleton, List.singleton_append, List.mem_cons, List.mem_append] at hb
    rcases hb with rfl | hb | hb
    · rcases hat with hx | hx
      · exact h5 b (by simp [hx]) hbL
      · omega
    · exact h5 b (by simp [hb]) hbL
    · have := hBv b hb; omega

theorem minv_l (h : MInv w2 B d l ks kK k wr xK csK BiK xL csL BiL) (hB : B < w2.heap.size) (b5 : Below wr.heap.size wr wB) (hv : ItV d l wB k c Bv) (hBv : ∀ b ∈ Bv, wr.heap.size ≤ b ∧ b < wB.heap.size) (hBn : Bv.Nodup)
    (hown : w6.ownsRow w2.heap.size 30 5 (.slice (some ⟨g, 0, none⟩) (k + 1) cp) (k + 1) (csL.flatten ++ c)) (hg : (wB.alloc o).grownBy w6 xL.ownBlock) (hat : xL.ownBlock = some g ∨ g = wB.heap.size + 1) :
    w6.heap[B]? = some (.cells #[.int .i64 5, .int .i64 0, .slice none 0 0, xK, xL] 30 (0, 0)) ∧
      MInv w2 B d l ks kK (k + 1) (w6.setCell ⟨B, 4, none⟩ (.slice (some ⟨g, 0, none⟩) (k + 1) cp)) xK csK BiK (.slice (some ⟨g, 0, none⟩) (k + 1) cp) (csL ++ [c]) (BiL ++ [Bv]) := by
  obtain ⟨h1, h2, h3, h4, h5⟩ := h
  have hz1 := h1.size
  have hz5 := b5.size
  have hz6 := hg.size
  simp at hz6
  have hxlt := h4.2.2.1.lt
  have hneB : some B ≠ xL.ownBlock := fun e => by have := hxlt B e.symm; omega
  have hV6 : w6.heap[B]? = some (.cells #[.int .i64 5, .int .i64 0, .slice none 0 0, xK, xL] 30 (0, 0)) := (hg.block B (by simp; omega) hneB).trans ((Below.heap_alloc _ _ _ (by omega)).trans ((b5.block B (by omega)).trans h2))
  have hA := grown1 w6 B 4 (.slice (some ⟨g, 0, none⟩) (k + 1) cp)
  have hsA : (w6.setCell ⟨B, 4, none⟩ (.slice (some ⟨g, 0, none⟩) (k + 1) cp)).heap.size = w6.heap.size := by simp [World.setCell]
  have hR := RW.add (w2 := wB.alloc o) (ItV.agree d l) h4 (fun b hb => (Below.heap_alloc _ _ _ (by omega)).trans (b5.block b hb)) (by simp; omega) (ItV.agree d l _ _ _ _ _ hv fun b hb => Below.heap_alloc _ _ _ (hBv b hb).2) (fun b hb => by have := hBv b hb; simp; omega) hBn hz1 hown hg (by simpa using hat)
  have hKb := h3.2.2.2.2.2
  have hKL : ∀ b ∈ xK.ownBlock.toList ++ BiK.flatten, some b ≠ xL.ownBlock := fun b hb e => h5 b hb (by simp [← e])
  refine ⟨hV6, ?_, heap_setCell_same w6 B 4 _ _ _ hV6, ?_, ?_, ?_⟩
  · refine ⟨h1.os ▸ b5.os ▸ hg.os ▸ rfl, h1.tape ▸ b5.tape ▸ hg.tape ▸ rfl, h1.output ▸ b5.output ▸ hg.output ▸ rfl, by omega, fun b hb hne => ?_⟩
    exact (hA.block b (by omega) hne).trans ((hg.block b (by simp; omega) (fun e => by have := hxlt b e.symm; omega)).trans ((Below.heap_alloc _ _ _ (by omega)).trans ((b5.block b (by omega)).trans (h1.block b hb hne))))
  · refine h3.agree (ItK.agree ks) (fun b hb => ?_) (by omega)
    have hb' := hKb b hb
    exact (Below.heap_setCell w6 ⟨B, 4, none⟩ _ b (by show b ≠ B; omega)).trans ((hg.block b (by simp; omega) (hKL b hb)).trans ((Below.heap_alloc _ _ _ (by omega)).trans (b5.block b hb'.2)))
  · refine hR.agree (ItV.agree d l) (fun b hb => ?_) (by omega)
    have := hR.2.2.2.2.2 b hb
    exact Below.heap_setCell w6 _ _ b (by show b ≠ B; omega)
  · intro b hb hbL
    have hb' := hKb b hb
    simp only [Value.ownBlock, Option.toList_some, List.flatten_append, List.flatten_singleton, List.singleton_append, List.mem_cons, List.mem_append] at hbL
    rcases hbL with rfl | hbL | hbL
    · rcases hat with hx | hx
      · exact h5 b hb (by simp [hx])
      · omega
    · exact h5 b hb (by simp [hbL])
    · have := hBv b hbL; omega

theorem minv_call {wy w5 : World} {e : Ending} (h : MInv w2 B d l ks kK k wr xK csK BiK xL csL BiL) (hB : B < w2.heap.size) (hk : k < l.length) (hy : Below wr.heap.size wr wy) (he : ValEnd d l[k] wy e w5) : VCall B w2.heap.size d l k wr xL csL.flatten e w5 := by
  obtain ⟨u0, u1, u2, u3, u4, rfl, Bv, hv, hb, h5⟩ := he
  obtain ⟨uk, un, s2, n2, r2, s3, n3, r3, s4, n4, r4, rfl, rfl, rfl, rfl, rfl⟩ := VOwn.form d hv
  have hb5 := Below.on hy h5
  have hz := hy.size
  refine ⟨uk, un, s2, n2, r2, s3, n3, r3, s4, n4, r4, rfl, Bv, ⟨_, rfl, hk, hv⟩, fun b hm => ?_, VOwn.nodup d hv, hb5, ?_, ?_⟩
  · have := hb b hm; omega
  · exact (World.cell?_of_block (hb5.block B (by have := h.1.size; omega))).trans (row5 h.2.1).2.2.2.2.1
  · exact h.2.2.2.1.2.2.1.kept (row := none) ⟨hb5.os, hb5.tape, hb5.output, hb5.size, fun k hk _ => hb5.block k hk⟩ (by cases hv : xL.ownBlock <;> simp)

/-- What valueOf leaves of a map. -/
def MapEnd (d : Nat) (l : List (Vl d)) (ks : List (List Int)) (w : World) (e : Ending) (w' : World) : Prop :=
  ∃ uK uL, e = .returned (.agg #[.int .i64 5, .int .i64 0, .slice none 0 0, uK, uL]) ∧ ∃ Bk Bl, KOwn w' uK ks Bk ∧ LOwn w' d uL l Bl ∧ (∀ b ∈ Bk ++ Bl, w.heap.size ≤ b ∧ b < w'.heap.size) ∧ (Bk ++ Bl).Nodup ∧ Below w.heap.size w w'
end Go.Proofs.Ytbeekbkambkgoaa
/-
  sort.Slice as the program's fields calls it: at fields (a key, a part), by the keys.
-/
namespace Go.Proofs.Ytbeekbkambkgoaa
open Go.Shelf Go.RowKit Go.Lib Go.Sort
set_option linter.unusedVariables false
set_option linter.unusedSimpArgs false

/-- A field: its key's bytes, its part's type and what that holds. -/
def encF (x : List UInt8 × (TypeId × Value)) : List Value := [.string ⟨x.1.toArray⟩, .iface x.2.1 x.2.2]
/-- One field is ahead of another one. -/
def ltF (x y : List UInt8 × (TypeId × Value)) : Bool := Op.bytesLess x.1 y.1

theorem less_irrefl : ∀ a : List UInt8, Op.bytesLess a a = false
  | [] => rfl
  | x :: a => by
    have ih := less_irrefl a
    have h : ¬ x < x := UInt8.lt_irrefl x
    simp [Op.bytesLess, ih, h]

theorem less_trans : ∀ a b c : List UInt8, Op.bytesLess a b = true → Op.bytesLess b c = true → Op.bytesLess a c = true
  | [], b, [], _, h2 => by cases b <;> simp [Op.bytesLess] at h2
  | [], _, _ :: _, _, _ => rfl
  | _ :: _, [], _, h1, _ => by simp [Op.bytesLess] at h1
  | _ :: _, _ :: _, [], _, h2 => by simp [Op.bytesLess] at h2
  | x :: a, y :: b, z :: c, h1, h2 => by
    have ih := less_trans a b c
    simp only [Op.bytesLess, Bool.or_eq_true, decide_eq_true_eq, Bool.and_eq_true, beq_iff_eq] at h1 h2 ⊢
    rcases h1 with h1 | ⟨rfl, h1⟩
    · rcases h2 with h2 | ⟨rfl, h2⟩
      · exact .inl (UInt8.lt_trans h1 h2)
      · exact .inl h1
    · rcases h2 with h2 | ⟨rfl, h2⟩
      · exact .inl h2
      · exact .inr ⟨rfl, ih h1 h2⟩

theorem less_total : ∀ a b : List UInt8, Op.bytesLess a b = false → Op.bytesLess b a = false → a = b
  | [], [], _, _ => rfl
  | [], _ :: _, h, _ => by simp [Op.bytesLess] at h
  | _ :: _, [], _, h => by simp [Op.bytesLess] at h
  | x :: a, y :: b, h1, h2 => by
    have ih := less_total a b
    simp only [Op.bytesLess, Bool.or_eq_false_iff, decide_eq_false_iff_not, Bool.and_eq_false_iff, beq_eq_false_iff_ne] at h1 h2
    have e : x = y := UInt8.le_antisymm (UInt8.not_lt.1 h2.1) (UInt8.not_lt.1 h1.1)
    subst e
    rw [ih (h1.2.resolve_left (fun h => h rfl)) (h2.2.resolve_left (fun h => h rfl))]

theorem swo_ltF : SWO ltF where
  irrefl x := less_irrefl x.1
  trans x y z h1 h2 := less_trans x.1 y.1 z.1 h1 h2
  ntrans x y z h1 h2 := by
    show Op.bytesLess x.1 z.1 = false
    cases h : Op.bytesLess x.1 z.1 with
    | false => rfl
    | true =>
      have h1' : Op.bytesLess x.1 y.1 = false := h1
      have h2' : Op.bytesLess y.1 z.1 = false := h2
      cases h3 : Op.bytesLess y.1 x.1 with
      | true => rw [less_trans _ _ _ h3 h] at h2'; simp at h2'
      | false =>
        have e := less_total _ _ h1' h3
        rw [e] at h
        rw [h] at h2'
        simp at h2'

set_option maxHeartbeats 2000000 in
/-- The closure of fields. -/
theorem fields_less (blk off c Bs size : Nat) (W : World) (G : Nat → List UInt8) (hs : W.cell? ⟨Bs, 0, none⟩ = some (.slice (some ⟨blk, off, none⟩) size c))
    (hc : ∀ t, t < size → W.cell? ⟨blk, off + t * 2, none⟩ = some (.string ⟨(G t).toArray⟩)) (i j : Nat) (hi : i < size) (hj : j < size) (_hsz : size < 4611686018427387904) :
    Calls Try.prog 46 #[.int .i64 i, .int .i64 j, .pointer (some ⟨Bs, 0, none⟩)] W fun e w' => e = .returned (.bool (Op.bytesLess (G i) (G j))) ∧ ∃ q, w' = W.drewN q := by
  have ci := hc i hi
  have cj := hc j hj
  have hi' : (i : Int) < (size : Int) := by omega
  have hj' : (j : Int) < (size : Int) := by omega
  go_enter Try.func46, Try.ntmps46
  go_wp2
  go_quiet (fail)
  go_wp2
  go_ret
  exact ⟨ret_bool (by simp [ByteArray.toList_mk]), nq, rfl⟩
end Go.Proofs.Ytbeekbkambkgoaa
/-
  A map of parts as its datum: the entries in the order of the keys.
-/
namespace Go.Proofs.Ytbeekbkambkgoaa
open Go.RowKit
set_option linter.unusedVariables false
set_option linter.unusedSimpArgs false

theorem before_eq : ∀ a b : List UInt8, bytesBefore a b = Op.bytesLess a b
  | [], [] => rfl
  | [], _ :: _ => rfl
  | _ :: _, [] => rfl
  | x :: a, y :: b => by
    have ih := before_eq a b
    unfold bytesBefore Op.bytesLess
    rw [ih]

/-- The key at place i is behind the one ahead of it. -/
def upB (ks : List (List Int)) (i : Nat) : Bool := i == 0 || ltS (ks.getD (i - 1) []) (ks.getD i [])
theorem step_up {ks : List (List Int)} {n : Nat} (h : ∀ i, i < n → stepB ks i = true) : ∀ i, i < n → upB ks i = true := by
  intro i hi
  have h1 := h i hi
  simp only [stepB, Bool.and_eq_true] at h1
  exact h1.2

/-- Keys that ascend one by one ascend. -/
theorem asc_ltU {vK : List (List Int)} {k : Nat} (h : ∀ i, i < k → upB vK i = true) : ∀ j, j < k → ∀ i, i < j → Op.bytesLess (u8s (vK.getD i [])) (u8s (vK.getD j [])) = true := by
  intro j
  induction j with
  | zero => intro _ i hi; omega
  | succ j ih =>
    intro hj i hi
    have hs := h (j + 1) hj
    have h1 : Op.bytesLess (u8s (vK.getD j [])) (u8s (vK.getD (j + 1) [])) = true := by
      unfold upB at hs
      have h2 := hs
      rw [Nat.add_sub_cancel] at h2
      have e : (j + 1 == 0) = false := by simp
      rw [e, Bool.false_or] at h2
      exact h2
    by_cases e : i = j
    · rw [e]; exact h1
    · exact less_trans _ _ _ (ih (by omega) i (by omega)) h1

theorem asc_lt {vK : List (List Int)} {k : Nat} (h : ∀ i, i < k → stepB vK i = true) : ∀ j, j < k → ∀ i, i < j → Op.bytesLess (u8s (vK.getD i [])) (u8s (vK.getD j [])) = true := asc_ltU (step_up h)

theorem less_ne {a b : List UInt8} (h : Op.bytesLess a b = true) : (a == b) = false := by
  rw [beq_eq_false_iff_ne]
  intro e
  rw [e, less_irrefl] at h
  simp at h

theorem less_asymm {a b : List UInt8} (h : Op.bytesLess a b = true) : Op.bytesLess b a = false := by
  cases h2 : Op.bytesLess b a with
  | false => rfl
  | true =>
    have := less_trans _ _ _ h h2
    rw [less_irrefl] at this
    simp at this

theorem insert_last {H : Type} (x : Go.Lit × DataW H) : ∀ l : List (Go.Lit × DataW H), (∀ y ∈ l, x.1.before y.1 = false) → DataW.insert x l = l ++ [x]
  | [], _ => rfl
  | y :: r, h => by
    have h1 := h y (by simp)
    have ih := insert_last x r (fun z hz => h z (by simp [hz]))
    unfold DataW.insert
    rw [h1, ih]
    rfl

/-- The first k entries. -/
def entF (vK : List (List Int)) (ps : List Value) (k : Nat) : List (Go.Lit × DataW Value) := (List.range k).map fun i => (.string (u8s (vK.getD i [])), .held (ps.getD i .nilIface))

theorem mapD_listU (vK : List (List Int)) (ps : List Value) : ∀ k, (∀ i, i < k → upB vK i = true) → mapD vK ps k = .map (entF vK ps k)
  | 0, _ => rfl
  | k + 1, h => by
    have ih := mapD_listU vK ps k (fun i hi => h i (by omega))
    show (mapD vK ps k).put _ _ = _
    rw [ih]
    have hl : ∀ y ∈ entF vK ps k, Op.bytesLess (match y.1 with | .string s => s | _ => []) (u8s (vK.getD k [])) = true ∧ ∃ s, y.1 = .string s := by
      intro y hy
      simp only [entF, List.mem_map, List.mem_range] at hy
      obtain ⟨i, hi, rfl⟩ := hy
      exact ⟨asc_ltU h k (by omega) i hi, _, rfl⟩
    have hf : (entF vK ps k).filter (fun p => !p.1.sameKey (.string (u8s (vK.getD k [])))) = entF vK ps k := by
      rw [List.filter_eq_self]
      intro y hy
      obtain ⟨h1, s, hs⟩ := hl y hy
      rw [hs] at h1 ⊢
      show (!(s == u8s (vK.getD k []))) = true
      rw [less_ne h1]
      rfl
    show DataW.map (DataW.insert _ ((entF vK ps k).filter _)) = _
    rw [hf, insert_last _ _ (fun y hy => by
      obtain ⟨h1, s, hs⟩ := hl y hy
      rw [hs] at h1 ⊢
      show bytesBefore _ _ = false
      rw [before_eq]
      exact less_asymm h1)]
    simp [entF, List.range_succ]
theorem mapD_list (vK : List (List Int)) (ps : List Value) (k : Nat) (h : ∀ i, i < k → stepB vK i = true) : mapD vK ps k = .map (entF vK ps k) := mapD_listU vK ps k (step_up h)
end Go.Proofs.Ytbeekbkambkgoaa
/-
  Entries of a map, in whatever order they were met: put in order by their keys they are the one list of the map's entries.
-/
namespace Go.Proofs.Ytbeekbkambkgoaa
open Go.RowKit Go.Sort
set_option linter.unusedVariables false
set_option linter.unusedSimpArgs false

/-- What an interface holds. -/
def unI : Value → TypeId × Value
  | .iface t v => (t, v)
  | _ => (0, .nilIface)

abbrev Fd : Type := List UInt8 × (TypeId × Value)

/-- The entries, in the order of the keys. -/
def fieldL (vK : List (List Int)) (ps : List Value) (n : Nat) : List Fd := (List.range n).map fun i => (u8s (vK.getD i []), unI (ps.getD i .nilIface))

theorem length_fieldL (vK : List (List Int)) (ps : List Value) (n : Nat) : (fieldL vK ps n).length = n := by simp [fieldL]
theorem fieldL_at (vK : List (List Int)) (ps : List Value) (n i : Nat) (h : i < n) : (fieldL vK ps n)[i]'(by rw [length_fieldL]; exact h) = (u8s (vK.getD i []), unI (ps.getD i .nilIface)) := by simp [fieldL]

theorem key_inj {vK : List (List Int)} {n : Nat} (h : ∀ i, i < n → upB vK i = true) {i j : Nat} (hi : i < n) (hj : j < n) (e : u8s (vK.getD i []) = u8s (vK.getD j [])) : i = j := by
  rcases Nat.lt_trichotomy i j with hlt | heq | hgt
  · have := asc_ltU h j hj i hlt
    rw [e, less_irrefl] at this
    simp at this
  · exact heq
  · have := asc_ltU h i hi j hgt
    rw [e, less_irrefl] at this
    simp at this

theorem find_ent (vK : List (List Int)) (ps : List Value) (k : List UInt8) : ∀ (l : List Nat) (i : Nat), i ∈ l → u8s (vK.getD i []) = k → (∀ j ∈ l, u8s (vK.getD j []) = k → j = i) →
    (l.map fun i => ((.string (u8s (vK.getD i [])), .held (ps.getD i .nilIface)) : Go.Lit × DataW Value)).find? (fun p => p.1.sameKey (.string k)) = some (.string k, .held (ps.getD i .nilIface))
  | [], i, h, _, _ => by simp at h
  | j :: l, i, h, e, hu => by
    simp only [List.map_cons, List.find?_cons]
    by_cases hj : u8s (vK.getD j []) = k
    · have := hu j (by simp) hj
      subst this
      rw [hj]
      simp [Lit.sameKey]
    · have hf : (Lit.string (u8s (vK.getD j []))).sameKey (.string k) = false := by simpa [Lit.sameKey] using hj
      rw [hf]
      have hi : i ∈ l := by
        rcases List.mem_cons.1 h with rfl | h
        · exact absurd e hj
        · exact h
      exact find_ent vK ps k l i hi e (fun q hq => hu q (by simp [hq]))

theorem at_ent {vK : List (List Int)} {ps : List Value} {n : Nat} (h : ∀ i, i < n → upB vK i = true) {i : Nat} (hi : i < n) (zd : DataW Value) : (DataW.map (entF vK ps n)).atKey (.string (u8s (vK.getD i []))) zd = .held (ps.getD i .nilIface) := by
  have := find_ent vK ps (u8s (vK.getD i [])) (List.range n) i (by simpa using hi) rfl (fun j hj e => key_inj h (by simpa using hj) hi e)
  unfold entF DataW.atKey
  simp only
  rw [this]

/-- Met in whatever order. -/
def Met (D : DataW Value) (es : List Fd) : Prop := ∀ x ∈ es, ∀ zd, D.atKey (.string x.1) zd = .held (.iface x.2.1 x.2.2)

theorem strKeys_ent (vK : List (List Int)) (ps : List Value) (n : Nat) : Go.strKeys (DataW.map (entF vK ps n)) = (fieldL vK ps n).map (·.1) := by
  simp [Go.strKeys, entF, fieldL, Go.strOf, Function.comp_def]

theorem met_eq {vK : List (List Int)} {ps : List Value} {n : Nat} (h : ∀ i, i < n → upB vK i = true) {es : List Fd} (hm : Met (DataW.map (entF vK ps n)) es) {x : Fd} (hx : x ∈ es) {i : Nat} (hi : i < n) (e : x.1 = u8s (vK.getD i [])) : x = (u8s (vK.getD i []), unI (ps.getD i .nilIface)) := by
  have h1 := hm x hx .nil
  rw [e, at_ent h hi] at h1
  simp only [DataW.held.injEq] at h1
  obtain ⟨x1, x2, x3⟩ := x
  simp only at e h1
  rw [h1, e]
  rfl

theorem nodup_of_map {α β : Type} (f : α → β) {l : List α} (h : (l.map f).Nodup) : l.Nodup := (List.pairwise_map.1 h).imp fun hne e => hne (congrArg f e)

theorem met_perm {vK : List (List Int)} {ps : List Value} {n : Nat} (h : ∀ i, i < n → upB vK i = true) {es : List Fd} (hm : Met (DataW.map (entF vK ps n)) es) (hp : (es.map (·.1)).Perm (Go.strKeys (DataW.map (entF vK ps n)))) : es.Perm (fieldL vK ps n) := by
  rw [strKeys_ent] at hp
  have hnd : ((fieldL vK ps n).map (·.1)).Nodup := by
    rw [List.nodup_iff_pairwise_ne, List.pairwise_map, fieldL, List.pairwise_map]
    refine List.Pairwise.imp_of_mem ?_ (List.nodup_range (n := n))
    intro a b ha hb hne e
    exact hne (key_inj h (by simpa using ha) (by simpa using hb) e)
  have hn1 : (fieldL vK ps n).Nodup := nodup_of_map _ hnd
  have hn2 : es.Nodup := nodup_of_map _ (hp.nodup_iff.2 hnd)
  refine (List.perm_ext_iff_of_nodup hn2 hn1).2 fun x => ⟨fun hx => ?_, fun hx => ?_⟩
  · have h1 : x.1 ∈ (fieldL vK ps n).map (·.1) := hp.mem_iff.1 (List.mem_map.2 ⟨x, hx, rfl⟩)
    obtain ⟨y, hy, e⟩ := List.mem_map.1 h1
    simp only [fieldL, List.mem_map, List.mem_range] at hy
    obtain ⟨i, hi, rfl⟩ := hy
    rw [met_eq h hm hx hi e.symm]
    simp only [fieldL, List.mem_map, List.mem_range]
    exact ⟨i, hi, rfl⟩
  · have h1 : x.1 ∈ es.map (·.1) := hp.mem_iff.2 (List.mem_map.2 ⟨x, hx, rfl⟩)
    obtain ⟨y, hy, e⟩ := List.mem_map.1 h1
    simp only [fieldL, List.mem_map, List.mem_range] at hx
    obtain ⟨i, hi, rfl⟩ := hx
    rw [← met_eq h hm hy hi e]
    exact hy

/-- What is in order and a permutation of the entries is the list of the entries. -/
theorem sorted_eq {vK : List (List Int)} {ps : List Value} {n : Nat} (h : ∀ i, i < n → upB vK i = true) (d d' : Array Fd) (hd : d.toList.Perm (fieldL vK ps n)) (hp : PermIn 0 d.size d d') (hs : SortedIn ltF 0 d.size d') : d'.toList = fieldL vK ps n := by
  have hsz : d'.size = d.size := hp.1
  have hp2 : d'.toList.Perm d.toList := by
    have := hp.2.2
    rw [Array.extract_eq_self_of_le (by omega), Array.extract_eq_self_of_le (by omega)] at this
    exact this
  have hP := hp2.trans hd
  refine List.Perm.eq_of_pairwise (le := fun x y => ltF y x = false) ?_ ?_ ?_ hP
  · intro a b ha hb h1 h2
    have ha' : a ∈ fieldL vK ps n := hP.mem_iff.1 ha
    simp only [fieldL, List.mem_map, List.mem_range] at ha' hb
    obtain ⟨i, hi, rfl⟩ := ha'
    obtain ⟨j, hj, rfl⟩ := hb
    have e := less_total _ _ h2 h1
    have := key_inj h hi hj e
    rw [this]
  · rw [List.pairwise_iff_getElem]
    intro i j hi hj hij
    have := hs i j (Nat.zero_le _) hij (by rw [← hsz]; simpa using hj)
    rw [getElem!_pos d' i (by simpa using hi), getElem!_pos d' j (by simpa using hj)] at this
    simpa using this
  · rw [fieldL, List.pairwise_map]
    refine List.Pairwise.imp_of_mem ?_ (List.pairwise_lt_range (n := n))
    intro a b ha hb hlt
    exact less_asymm (asc_ltU h b (by simpa using hb) a hlt)
end Go.Proofs.Ytbeekbkambkgoaa
/-
  sort.Slice as the program's fields calls it, walked by the shelf's contract: what it leaves is a permutation, ascending by the keys.
-/
namespace Go.Proofs.Ytbeekbkambkgoaa
open Go.Shelf Go.RowKit Go.Lib Go.Sort
set_option linter.unusedVariables false
set_option linter.unusedSimpArgs false
set_option maxRecDepth 100000

theorem infoFT : (Try.prog.info? 73).isSome = true := by kernel_rfl
theorem infoFE : (Try.prog.info? 76).isSome = true := by kernel_rfl

theorem sort_fields (blk off c Bs : Nat) (d : Array (List UInt8 × (TypeId × Value))) (h2 : 2 ≤ d.size) (hsz : d.size < 4611686018427387904) (w : World) (hH : HoldsK encF 2 w blk off d) (hblk : blk < w.heap.size)
    (hBs : w.cell? ⟨Bs, 0, none⟩ = some (.slice (some ⟨blk, off, none⟩) d.size c)) (hB1 : Bs < w.heap.size) (hB2 : Bs ≠ blk) :
    Calls Try.prog 45 #[.iface 73 (.slice (some ⟨blk, off, none⟩) d.size c), .func (.func 46) #[] #[.pointer (some ⟨Bs, 0, none⟩)]] w fun e w' =>
      e = .returned (.tuple #[]) ∧ ∃ d' n os, PermIn 0 d.size d d' ∧ SortedIn ltF 0 d.size d' ∧ w' = grow (putRowK encF 2 (Sort.ahead w n) blk off d') os := by
  have hless : LessReadsK Try.prog 46 #[.pointer (some ⟨Bs, 0, none⟩)] encF 2 ltF blk off d.size w := by
    intro m os dk hs i j hi hj
    have e : sortWorldK encF 2 w blk off m dk os = putRowK encF 2 (grow (Sort.ahead w m) os) blk off dk := by
      unfold sortWorldK; rw [putRowK_grow _ _ (Sort.ahead w m) _ blk off _ hblk]
    have hHg : HoldsK encF 2 (grow (Sort.ahead w m) os) blk off d := holdsK_grow _ _ _ _ blk off d hblk (holdsK_ahead _ _ _ _ _ _ _ hH)
    refine fields_less blk off c Bs d.size _ (fun t => dk[t]!.1) ?_ (fun t ht => ?_) i j hi hj (by omega)
    · rw [e, cell?_putRowK_other _ _ _ blk off dk _ (by exact hB2), cell?_grow _ _ _ (by exact hB1)]; exact hBs
    · rw [e]; exact ((holdsK_putRowK _ _ _ blk off d dk hHg hs).cell (i := t) (c := 0) (by omega) (by omega)).1
  have hk9 : ∀ ie, Try.prog.info? 76 = some ie → Lib.swapperK d.size ie 25 = 9 := by
    intro ie hie
    have a : ((Try.prog.info? 76).map fun i => (i.hasPointers, i.bytes)) = some (true, 32) := by kernel_rfl
    rw [hie] at a
    simp at a
    have c : (d.size == 0) = false := by rw [beq_eq_false_iff_ne]; omega
    have d' : (d.size == 1) = false := by rw [beq_eq_false_iff_ne]; omega
    simp [Lib.swapperK, a.1, a.2, c, d']
  obtain ⟨iT, hiT⟩ := Option.isSome_iff_exists.1 infoFT
  obtain ⟨iE, hiE⟩ := Option.isSome_iff_exists.1 infoFE
  have hdT : iT.desc = .slice 76 := by
    have a : ((Try.prog.info? 73).map fun i => i.desc) = some (.slice 76) := by kernel_rfl
    rw [hiT] at a
    simpa using a
  have hsE : iE.size = 2 := by
    have a : ((Try.prog.info? 76).map fun i => i.size) = some 2 := by kernel_rfl
    rw [hiE] at a
    simpa using a
  exact Any.sort_Slice_cells_sorted Try.laysGg6 73 76 iT iE hiT hdT (by kernel_rfl) hiE 25 (fun _ => by kernel_rfl) encF 2 (fun _ => rfl) hsE (fun _ => by kernel_rfl)
    (fun x v hv => by simp [encF] at hv; rcases hv with rfl | rfl <;> rfl) ltF swo_ltF 46 _
    (enters_of Try.func46 (by kernel_rfl) rfl) blk off c d h2 hsz 66 (by rw [hk9 _ hiE]; kernel_rfl) false
    (fun args W => run_callFunc_extern Try.func66 (by kernel_rfl) (by kernel_rfl) (by kernel_rfl) (e := Extern.ReflectliteSwapper.swap false) (by kernel_rfl) args W) w hless hH hblk

theorem swap_none (ie : TypeInfo) : Lib.swapperK 0 ie 25 = 1 := rfl
theorem swap_one (ie : TypeInfo) : Lib.swapperK 1 ie 25 = 2 := rfl
/-- .. at no field or one: nothing that lay turns. -/
theorem sort_tiny (p : Option Addr) (n c Bs : Nat) (h1 : n ≤ 1) (w : World) :
    Calls Try.prog 45 #[.iface 73 (.slice p n c), .func (.func 46) #[] #[.pointer (some ⟨Bs, 0, none⟩)]] w fun e w' => e = .returned (.tuple #[]) ∧ ∃ os, w' = grow w os := by
  obtain ⟨iT, hiT⟩ := Option.isSome_iff_exists.1 infoFT
  obtain ⟨iE, hiE⟩ := Option.isSome_iff_exists.1 infoFE
  have hdT : iT.desc = .slice 76 := by
    have a : ((Try.prog.info? 73).map fun i => i.desc) = some (.slice 76) := by kernel_rfl
    rw [hiT] at a
    simpa using a
  have h01 : n = 0 ∨ n = 1 := by omega
  rcases h01 with rfl | rfl
  · exact Any.sort_Slice_tiny Try.laysGg6 73 76 iT iE hiT hdT (by kernel_rfl) hiE 25 (fun _ => by kernel_rfl) p 0 c h1 58 (by rw [swap_none]; kernel_rfl) _ _ _ w
  · exact Any.sort_Slice_tiny Try.laysGg6 73 76 iT iE hiT hdT (by kernel_rfl) hiE 25 (fun _ => by kernel_rfl) p 1 c h1 59 (by rw [swap_one]; kernel_rfl) _ _ _ w
end Go.Proofs.Ytbeekbkambkgoaa
