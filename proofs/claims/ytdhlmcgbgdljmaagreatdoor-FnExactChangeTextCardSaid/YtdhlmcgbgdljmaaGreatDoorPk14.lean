/-
  Texts that a law leans on, one behind the other; no statement is proved here.
-/
import Derived.Test.YtdhlmcgbgdljmaaGreatDoorPk9
import Derived.Deep.RegionLaw
import Derived.Deep.RegionWith
import Derived.Test.YtdhlmcgbgdljmaaGreatDoorPk10
import Derived.Test.YtdhlmcgbgdljmaaGreatDoorPk11
import Derived.Test.YtdhlmcgbgdljmaaGreatDoorPk0
import Derived.Test.YtdhlmcgbgdljmaaGreatDoorPk6
/-
  A slice of one byte that is made as a step of a region that draws its order, and what keeps it.
-/
namespace Go.Proofs.YtdhlmcgbgdljmaaGreatDoor
open Go.RowKit
set_option linter.unusedVariables false
set_option linter.unusedSimpArgs false

/-- A block of one byte. -/
def LitB (w : World) (g : Nat) (c : Int) : Prop := w.heap[g]? = some (.cells #[.int .u8 c] 5 (0, 0))

theorem LitB.lt {w : World} {g : Nat} {c : Int} (h : LitB w g c) : g < w.heap.size := (Array.getElem?_eq_some_iff.1 h).1
theorem LitB.kept {w w' : World} {g : Nat} {c : Int} {r : Option Nat} (h : LitB w g c) (hg : w.grownBy w' r) (hr : some g ≠ r) : LitB w' g c := (hg.block g h.lt hr).trans h
theorem LitB.grow {w w' : World} {g : Nat} {c : Int} (h : LitB w g c) (hb : Below w.heap.size w w') : LitB w' g c := (hb.block g h.lt).trans h
theorem LitB.seg {w : World} {g : Nat} {c : Int} (h : LitB w g c) (hc : Byt c) : Seg w (some ⟨g, 0, none⟩) [c] := by
  refine ⟨by simpa using hc, .inr ⟨g, 0, rfl, fun i hi => ?_⟩⟩
  obtain rfl : i = 0 := by simp at hi; omega
  rw [cell_of_row w g _ _ _ _ h]
  rfl

theorem LitB.ne {w : World} {B g : Nat} {c x : Int} {v : Value} {xs : List Int} (h : LitB w g c) (hB : Bts w B v (xs ++ [x])) (hx : x ≠ c) : some g ≠ v.ownBlock := by
  intro e
  have hlen : 0 < (xs ++ [x]).length := by simp
  rcases hB.2.2 with ⟨rfl, h0⟩ | ⟨g', cap, cur, rfl, _, hh, h4, _, h5, h6⟩
  · simp [Value.ownBlock] at e
  · simp [Value.ownBlock] at e
    subst e
    have hc : cur = #[.int .u8 c] := by
      have := h.symm.trans hh
      simp at this
      exact this.symm
    subst hc
    have hl1 : (xs ++ [x]).length = 1 := by
      have h5' : 1 = cap := by simpa using h5
      omega
    have hx0 : xs = [] := by simpa using hl1
    subst hx0
    simp [cellsOf] at h6
    exact hx h6.symm

/-- A new block of one byte, not ahead of lo. -/
def LitA (lo : Nat) (w : World) (g : Nat) (c : Int) : Prop := LitB w g c ∧ lo ≤ g
theorem lit_new {lo q : Nat} {w : World} {c : Int} (hq : w.heap.size = q) (hl : lo ≤ q) : LitA lo (w.alloc (.cells #[.int .u8 c] 5)) q c := by
  subst hq
  exact ⟨(MapKept.heap_alloc w _).1, hl⟩
theorem LitA.alloc {lo g : Nat} {w : World} {c : Int} (h : LitA lo w g c) (o : Obj) : LitA lo (w.alloc o) g c := ⟨h.1.kept (World.grownBy_alloc w o none) (by simp), h.2⟩
theorem LitA.drew {lo g : Nat} {w : World} {c : Int} (h : LitA lo w g c) : LitA lo w.drew g c := h
theorem LitA.seg {lo g : Nat} {w : World} {c : Int} (h : LitA lo w g c) (hc : Byt c) : Seg w (some ⟨g, 0, none⟩) [c] := h.1.seg hc
theorem LitA.kept {lo g : Nat} {w w' : World} {c : Int} {r : Option Nat} (h : LitA lo w g c) (hg : w.grownBy w' r) (hr : some g ≠ r) : LitA lo w' g c := ⟨h.1.kept hg hr, h.2⟩
theorem LitA.old {lo g : Nat} {w w' : World} {c : Int} {v : Value} (h : LitA lo w g c) (hg : w.grownBy w' v.ownBlock) (hr : ∀ k, v.ownBlock = some k → k < lo) : LitA lo w' g c := h.kept hg fun e => by have := hr g e.symm; have := h.2; omega
theorem LitA.grow {lo g : Nat} {w w' : World} {c : Int} (h : LitA lo w g c) (hb : Below w.heap.size w w') : LitA lo w' g c := ⟨h.1.grow hb, h.2⟩
theorem LitA.far {lo g B : Nat} {w w' : World} {c x : Int} {v : Value} {xs : List Int} (h : LitA lo w g c) (hB : Bts w B v (xs ++ [x])) (hx : x ≠ c) (hg : w.grownBy w' v.ownBlock) : LitA lo w' g c := h.kept hg (h.1.ne hB hx)
theorem Bts.young2 {lo : Nat} {w w' : World} {u v : Value} {xs : List Int} (h : Bts w lo u xs) (hg : w.grownBy w' v.ownBlock) (hv : ∀ k, u.ownBlock = some k → v.ownBlock = some k → False) : Bts w' lo u xs := by
  refine h.kept hg ?_
  cases hq : u.ownBlock with
  | none => exact .inl rfl
  | some q => exact .inr fun e => hv q hq e.symm
theorem Bts.young {lo : Nat} {w w' : World} {u v : Value} {xs : List Int} (h : Bts w lo u xs) (hg : w.grownBy w' v.ownBlock) (hv : ∀ k, v.ownBlock = some k → k < lo) : Bts w' lo u xs := by
  refine h.kept hg ?_
  cases hq : u.ownBlock with
  | none => exact .inl rfl
  | some q =>
    refine .inr fun e => ?_
    have h1 := (h.2.lt q hq).1
    have h2 := hv q e.symm
    omega
end Go.Proofs.YtdhlmcgbgdljmaaGreatDoor
/-
  PathText of the specification.
-/
namespace Go.Proofs.YtdhlmcgbgdljmaaGreatDoor
open Go.RowKit
set_option linter.unusedVariables false
set_option linter.unusedSimpArgs false
set_option maxRecDepth 100000

set_option maxHeartbeats 3200000 in
theorem spec_l3text_any (N : Nat) (x : Value) (l : List Stp) (w : World) (hx : PthSeg (fun b => b < N) w x l) (hN : N ≤ w.heap.size) (hok : pathB l = true) :
    Calls Tryz.prog 16 #[x] w (PtEnd l w) := by
  have HX := hide' hx
  obtain ⟨a, p, rfl, hlp, hpm, _, _⟩ := hx
  unfold maxLen at hpm
  obtain ⟨h6, hall⟩ := path_parts hok
  have hT : Hid (pathT l = preT l l.length) := by show pathT l = _; rw [preT_all]; exact if_pos hok
  have HLn : Hid (∀ k, k ≤ l.length → (preT l k).length ≤ 54) := fun k hk => by have := preT_len hall k hk; omega
  have HSt : Hid (∀ k (h : k < l.length), preT l (k + 1) = preT l k ++ stpT l[k]) := preT_succ l
  have Hall : Hid (∀ k (h : k < l.length), stpB l[k] = true) := fun k h => List.all_eq_true.1 hall l[k] (List.getElem_mem h)
  clear hok hall
  go_enter Tryz.func16, Tryz.ntmps16
  go_wp2
  go_loopw [3, 4] (fun y i wr => ∃ k : Nat, k ≤ l.length ∧ i = .int .i64 k ∧ Bts wr w.heap.size y (preT l k) ∧ Below w.heap.size w wr) (fun _ i _ => l.length - (intOf i).toNat)
  case atStart => exact ⟨0, Nat.zero_le _, rfl, by rw [preT_zero]; exact bts_nil _ _, Below.refl _ _⟩
  case round =>
    obtain ⟨k, hk, rfl, hR, hbel⟩ := hrel
    have hz := hbel.size
    by_cases hlt : k < l.length
    · have hlt' : (k : Int) < (l.length : Int) := by omega
      have hXr : PthSeg (fun b => b < N) wr (.slice a l.length p) l := HX.out.agree (agree_below (hbel.mono hN))
      obtain ⟨b, off, c0, c1, c2, rfl, hbN, ⟨q0, q1, q2⟩, hs⟩ := hXr.at hlt
      simp only at q0 q1 q2
      have hlk := HLn.out k (by omega)
      have hsb := Hall.out k hlt
      have hnext := HSt.out k hlt
      have hsl := stpT_len hsb
      generalize l[k] = s at *
      obtain ⟨sk, ss, si⟩ := s
      obtain ⟨e0, ht, e2⟩ := hs
      simp only at e0 ht e2
      subst e0
      subst e2
      have hbw : b < w.heap.size := by omega
      have HC1 : Hid (∀ wx, Below w.heap.size w wx → wx.cell? ⟨b, off + k * 3 + 1, none⟩ = some c1) := fun wx hb => (World.cell?_of_block ((hb.block b hbw).trans (hbel.block b hbw).symm)).trans q1
      have HC2 : Hid (∀ wx, Below w.heap.size w wx → wx.cell? ⟨b, off + k * 3 + 2, none⟩ = some (.int .i64 si)) := fun wx hb => (World.cell?_of_block ((hb.block b hbw).trans (hbel.block b hbw).symm)).trans q2
      obtain ⟨ya, yc, hys, _⟩ := hR.shape
      by_cases h0 : sk = 0
      · subst h0
        rw [stpB_key] at hsb
        simp only [Bool.and_eq_true] at hsb
        have hs8 := name_len hsb.1
        obtain ⟨a1, p1, rfl, sa, lp, mp, ka, ra⟩ := ht
        have Hsa : Hid (∀ wx, Below w.heap.size w wx → Seg wx a1 ss) := fun wx hb => by
          refine ⟨sa.1, ?_⟩
          rcases sa.2 with h | ⟨b1, o1, rfl, hc⟩
          · exact .inl h
          · by_cases he : ss = []
            · exact .inl he
            · have hb1 : b1 < N := ra _ rfl he
              exact .inr ⟨b1, o1, rfl, fun i hi => (World.cell?_of_block ((hb.block b1 (by omega)).trans (hbel.block b1 (by omega)).symm)).trans (hc i hi)⟩
        have Hnx : Hid (preT l (k + 1) = (preT l k ++ [46]) ++ ss) := by
          show preT l (k + 1) = _
          rw [hnext, List.append_assoc]
          simp [stpT]
        have hy0 : Hid (∀ o : Obj, Bts (wr.alloc o).drew w.heap.size u3 (preT l k)) := fun o => hR.alloc o
        have hb0 : Hid (∀ o : Obj, Below w.heap.size w (wr.alloc o).drew) := fun o => (hbel.alloc hz o).drew
        have h1 : Hid (LitB (wr.alloc (.cells #[.int .u8 46] 5)).drew wr.heap.size 46) := (MapKept.heap_alloc wr _).1
        have q1' := HC1.out _ (hb0.out (.cells #[.int .u8 46] 5))
        generalize hn : ss.length = n at *
        have Hn : Hid (n = ss.length) := hn.symm
        generalize hm : (preT l k).length = m at *
        have Hm : Hid (m = (preT l k).length) := hm.symm
        subst hys
        clear hn hm hXr hR hbel hnext hsl hsb ra sa
        go_wp2_with fail
        go_region_law (first
          | (refine step_append_seg (by rfl) (.tmp 17) (.tmp 18) (by rfl) w.heap.size (.slice ya m yc) (preT l k) [46] (by rfl) (by exact hy0.out _) (some ⟨wr.heap.size, 0, none⟩) 1 1 rfl (by rfl) (by exact h1.out.seg (by simp [Byt])) (by simp) (by have := Hm.out; simp; omega) (by have := (hb0.out (.cells #[.int .u8 46] 5)).size; exact this) ?_; intro v1 wB hv1 hgB; have hb1 := hide' ((hb0.out (.cells #[.int .u8 46] 5)).grown hgB (by have := (hb0.out (.cells #[.int .u8 46] 5)).size; exact this) (hy0.out (.cells #[.int .u8 46] 5)).own); replace hv1 := hide' hv1; have qB := HC1.out _ hb1.out)
          | (refine step_append_seg (by rfl) (.tmp 19) (.tmp 24) (by rfl) w.heap.size v1 (preT l k ++ [46]) ss (by rfl) (by exact hv1.out) a1 n p1 Hn.out (by rfl) (by exact Hsa.out _ hb1.out) ka (by have := Hm.out; have := Hn.out; simp; omega) (by have := hb1.out.size; exact this) ?_; intro v2 wC hv2 hgC; have hb2 := hide' (hb1.out.grown hgC (by have := hb1.out.size; exact this) hv1.out.own); replace hv2 := hide' hv2))
        all_goals
          rw [← Hnx.out] at hv2
          obtain ⟨za, zc, hzs, _⟩ := hv2.out.shape
          generalize (preT l (k + 1)).length = pl2 at *
          subst hzs
          go_wp2
          go_roundw
          case rel => exact ⟨k + 1, by omega, by go_num, hv2.out, hb2.out⟩
          case measure => simp [intOf]; omega
      · by_cases h1 : sk = 1
        · subst h1
          rw [stpB_item] at hsb
          simp only [Bool.and_eq_true, decide_eq_true_eq] at hsb
          obtain ⟨u, rfl⟩ : ∃ u : Nat, si = u := ⟨si.toNat, by omega⟩
          obtain ⟨a1, p1, rfl, _⟩ := ht
          have Hnx : Hid (preT l (k + 1) = ((preT l k ++ [91]) ++ decI u) ++ [93]) := by
            show preT l (k + 1) = _
            rw [hnext]
            simp [stpT]
          have hdl := decI_two (u := u) (by omega)
          have HD : Hid (∀ wx, Calls Tryz.prog 36 #[.int .i64 u] wx fun e w' => ∃ v, e = .returned v ∧ Bts w' wx.heap.size v (decI u) ∧ Below wx.heap.size wx w') := fun wx => l2digits_nat u (by omega) wx
          generalize hm : (preT l k).length = m at *
          have Hm : Hid (m = (preT l k).length) := hm.symm
          have hy : Hid (Bts wr w.heap.size u3 (preT l k)) := hR
          have hb : Hid (Below w.heap.size w wr) := hbel
          have HLt : Hid (∀ k, u3.ownBlock = some k → k < wr.heap.size) := fun k hk => (hR.2.lt k hk).2
          have hzc : wr.heap.size ≤ wr.heap.size := Nat.le_refl _
          subst hys
          clear hm hXr hR hbel hnext hsl hsb
          go_wp2_with fail
          go_region_held3 (fun wx => wx.cell? ⟨b, off + k * 3 + 2, none⟩ = some (.int .i64 u)) (go_keep) (first
            | (refine step_append_seg (by rfl) (.tmp 26) (.tmp 27) (by rfl) w.heap.size (.slice ya m yc) (preT l k) [91] (by rfl) (by first | exact hy.out | exact hy.out.alloc _ | exact (hy.out.alloc _).alloc _) (some ⟨_, 0, none⟩) 1 1 rfl (by rfl) (LitA.seg (lo := wr.heap.size) (by first | exact h91.out | exact h91.out.alloc _ | exact lit_new (by simp) (by omega) | exact (lit_new (by simp) (by omega)).alloc _) (by simp [Byt])) (by simp) (by have := Hm.out; simp; omega) (by first | omega | (simp <;> omega)) ?_; intro v1 w1 hv1 hg1; (try (have h93' := LitA.old (lo := wr.heap.size) (c := 93) (by first | exact h93.out | exact h93.out.alloc _ | exact lit_new rfl (by first | omega | (simp <;> omega)) | exact (lit_new rfl (by first | omega | (simp <;> omega))).alloc _ | exact LitA.drew (lit_new rfl (by first | omega | (simp <;> omega))) | exact LitA.drew ((lit_new rfl (by first | omega | (simp <;> omega))).alloc _)) hg1 HLt.out; (try simp only [World.size_alloc] at h93'); have h93 := hide' h93'; clear h93')); (try (replace hd := hide' (Bts.young (by first | exact hd.out | exact hd.out.alloc _ | exact (hd.out.alloc _).alloc _) hg1 HLt.out))); replace hb := hide' (Below.grown (by first | exact hb.out | exact hb.out.alloc (by omega) _ | exact (hb.out.alloc (by omega) _).alloc (by simp; omega) _ | exact hb.out.drew | exact (hb.out.alloc (by omega) _).drew | exact ((hb.out.alloc (by omega) _).alloc (by simp; omega) _).drew) hg1 (by first | omega | (simp <;> omega)) hy.out.own); have hz1 : wr.heap.size ≤ w1.heap.size := (by have := hg1.size; first | exact this | (simp at this; omega)); replace hv1 := hide' hv1; have hzw := hb.out.size; have q1' := HC2.out _ hb.out; clear hg1 hy)
            | (go_at_call 36; refine (HD.out _).mono ?_; rintro e wd ⟨vd, rfl, hd0, hbd⟩; (try (have h93' := LitA.grow (lo := wr.heap.size) (c := 93) (by first | exact h93.out | exact h93.out.alloc _ | exact lit_new rfl (by first | omega | (simp <;> omega)) | exact (lit_new rfl (by first | omega | (simp <;> omega))).alloc _ | exact LitA.drew (lit_new rfl (by first | omega | (simp <;> omega))) | exact LitA.drew ((lit_new rfl (by first | omega | (simp <;> omega))).alloc _)) hbd; (try simp only [World.size_alloc] at h93'); have h93 := hide' h93'; clear h93')); (try (have h91' := LitA.grow (lo := wr.heap.size) (c := 91) (by first | exact h91.out | exact h91.out.alloc _ | exact lit_new rfl (by first | omega | (simp <;> omega)) | exact (lit_new rfl (by first | omega | (simp <;> omega))).alloc _ | exact LitA.drew (lit_new rfl (by first | omega | (simp <;> omega))) | exact LitA.drew ((lit_new rfl (by first | omega | (simp <;> omega))).alloc _)) hbd; (try simp only [World.size_alloc] at h91'); have h91 := hide' h91'; clear h91')); (try (replace hy := hide' (Bts.grow (by first | exact hy.out | exact hy.out.alloc _ | exact (hy.out.alloc _).alloc _) hbd))); (try (replace hv1 := hide' (Bts.grow (by first | exact hv1.out | exact hv1.out.alloc _ | exact (hv1.out.alloc _).alloc _) hbd))); obtain ⟨da, dc, rfl, _, _, _, _, hdn⟩ := hd0.shape; have hd : Hid (Bts wd wr.heap.size (.slice da (decI u).length dc) (decI u)) := hd0.mono (by first | omega | (simp <;> omega)); replace hb := hide' (Below.on (by first | exact hb.out | exact hb.out.alloc (by omega) _ | exact (hb.out.alloc (by omega) _).alloc (by simp; omega) _ | exact hb.out.drew | exact (hb.out.alloc (by omega) _).drew | exact ((hb.out.alloc (by omega) _).alloc (by simp; omega) _).drew) hbd); have hzd : wr.heap.size ≤ wd.heap.size := (by have := hbd.size; first | omega | (simp at this; omega)); clear hd0 hbd; have hzw := hb.out.size; have qd := HC2.out _ hb.out)
            | (refine step_append_seg (by rfl) (.tmp 28) (.tmp 34) (by rfl) w.heap.size v1 (preT l k ++ [91]) (decI u) (by rfl) (by first | exact hv1.out | exact hv1.out.alloc _ | exact (hv1.out.alloc _).alloc _) da (decI u).length dc rfl (by rfl) (Bts.seg (by first | exact hd.out | exact hd.out.alloc _ | exact (hd.out.alloc _).alloc _)) hdn (by have := Hm.out; simp; omega) (by first | omega | (simp <;> omega)) ?_; intro v2 w2 hv2 hg2; (try (have h93' := LitA.far (lo := wr.heap.size) (c := 93) (B := w.heap.size) (xs := preT l k) (x := 91) (by first | exact h93.out | exact h93.out.alloc _ | exact lit_new rfl (by first | omega | (simp <;> omega)) | exact (lit_new rfl (by first | omega | (simp <;> omega))).alloc _ | exact LitA.drew (lit_new rfl (by first | omega | (simp <;> omega))) | exact LitA.drew ((lit_new rfl (by first | omega | (simp <;> omega))).alloc _)) (by first | exact hv1.out | exact hv1.out.alloc _ | exact (hv1.out.alloc _).alloc _) (by decide) hg2; (try simp only [World.size_alloc] at h93'); have h93 := hide' h93'; clear h93')); replace hb := hide' (Below.grown (by first | exact hb.out | exact hb.out.alloc (by omega) _ | exact (hb.out.alloc (by omega) _).alloc (by simp; omega) _ | exact hb.out.drew | exact (hb.out.alloc (by omega) _).drew | exact ((hb.out.alloc (by omega) _).alloc (by simp; omega) _).drew) hg2 (by first | omega | (simp <;> omega)) hv1.out.own); have hz2 : wr.heap.size ≤ w2.heap.size := (by have := hg2.size; first | omega | (simp at this; omega)); replace hv2 := hide' hv2; have hzw := hb.out.size; have q2' := HC2.out _ hb.out; clear hg2)
            | (refine step_append_seg (by rfl) (.tmp 35) (.tmp 36) (by rfl) w.heap.size v2 (preT l k ++ [91] ++ decI u) [93] (by rfl) (by first | exact hv2.out | exact hv2.out.alloc _ | exact (hv2.out.alloc _).alloc _) (some ⟨_, 0, none⟩) 1 1 rfl (by rfl) (LitA.seg (lo := wr.heap.size) (by first | exact h93.out | exact h93.out.alloc _ | exact lit_new (by simp) (by omega) | exact (lit_new (by simp) (by omega)).alloc _) (by simp [Byt])) (by simp) (by have := Hm.out; simp; omega) (by first | omega | (simp <;> omega)) ?_; intro v3 w3 hv3 hg3; replace hb := hide' (Below.grown (by first | exact hb.out | exact hb.out.alloc (by omega) _ | exact (hb.out.alloc (by omega) _).alloc (by simp; omega) _ | exact hb.out.drew | exact (hb.out.alloc (by omega) _).drew | exact ((hb.out.alloc (by omega) _).alloc (by simp; omega) _).drew) hg3 (by first | omega | (simp <;> omega)) hv2.out.own); replace hv3 := hide' hv3; have q3' := HC2.out _ hb.out; clear hg3)
            | fail)
          all_goals
            rw [← Hnx.out] at hv3
            obtain ⟨za, zc, hzs, _⟩ := hv3.out.shape
            generalize (preT l (k + 1)).length = pl2 at *
            subst hzs
            go_wp2
            go_roundw
            case rel => exact ⟨k + 1, by omega, by go_num, hv3.out, hb.out⟩
            case measure => simp [intOf]; omega
        · rw [stpB_none sk ss si h0 h1] at hsb
          simp at hsb
    · have hkn : k = l.length := by omega
      have hlt' : ¬ (k : Int) < (l.length : Int) := by omega
      have HF : Hid (Bts wr w.heap.size u3 (pathT l)) := by rw [hT.out, ← hkn]; exact hR
      obtain ⟨ya, yc, hys, _⟩ := hR.shape
      generalize (preT l k).length = pl at *
      subst hys
      clear hkn hR
      go_wp2
      go_ret
      exact ⟨_, rfl, HF.out, hbel⟩

end Go.Proofs.YtdhlmcgbgdljmaaGreatDoor
/-
  'append(own, s...)', s a string, as a step of a region that draws its order.
-/
namespace Go.Proofs.YtdhlmcgbgdljmaaGreatDoor
open Go.RowKit
set_option linter.unusedVariables false
set_option linter.unusedSimpArgs false

theorem step_append_text {ops : Array Oper} {o : Oper} {a : Act} {w : World} {K : Act → World → Prop} {Q : Exit → Act → World → Prop} {E : Prop} (hgd : o.guard = none) (s x : Operand) (t : TypeId)
    (ho : o.op = .call { callee := .builtin .append, args := #[s, x], argTypes := #[23, t] }) (ht : Tryz.prog.underlying t = some .string)
    (base : Nat) (v : Value) (xs ys : List Int) (hs : a.eval s = v) (hB : Bts w base v xs) (sx : ByteArray) (hsx : sx = strOf ys) (hy : ∀ y ∈ ys, Byt y) (hx : a.eval x = .string sx)
    (hlen : xs.length + ys.length ≤ 1099511627776) (hbase : base ≤ w.heap.size)
    (h : ∀ v' w', Bts w' base v' (xs ++ ys) → w.grownBy w' v.ownBlock → K (a.put o.dst v') w') : if Region.wanted o (yielded ops a.tmps) = true then Oper.wp Tryz.prog o a w K Q else E := by
  have hw : Region.wanted o (yielded ops a.tmps) = true := by simp [Region.wanted, hgd]
  rw [if_pos hw]
  obtain ⟨i0, hi, hz0, hz1, hz2⟩ := info_parts info5
  subst hsx
  have hsz := size_strOf ys
  obtain ⟨v', w', hrun, hown, hg, _⟩ := Lib.run_append_own_string (P := Tryz.prog) w base 23 t o.type 5 i0 Tryz.underlying23 ht hi hz0 hz1 hz2 v xs.length (cellsOf xs) hB.2 (strOf ys) (by unfold maxLen; omega) (by omega) hbase
  unfold Oper.wp
  simp [execOp, ho, resolve, invoke, builtin, hs, hx, hrun, Result.andThen]
  refine h v' w' ⟨?_, ?_⟩ hg
  · intro z hz
    rcases List.mem_append.1 hz with h1 | h1
    · exact hB.1 z h1
    · exact hy z h1
  · rw [strCells_of hy, hsz, ← cellsOf_append] at hown
    rw [List.length_append]
    exact hown
end Go.Proofs.YtdhlmcgbgdljmaaGreatDoor
/-
  Blocks that hold no bytes stay where bytes are appended.
-/
namespace Go.Proofs.YtdhlmcgbgdljmaaGreatDoor
open Go.RowKit
set_option linter.unusedVariables false
set_option linter.unusedSimpArgs false

/-- All blocks that hold no bytes stay as they are. -/
def Kept (w w' : World) : Prop := ∀ (g : Nat) (cs : Array Value) (T : TypeId) (fr : Nat × Nat), w.heap[g]? = some (.cells cs T fr) → T ≠ 5 → w'.heap[g]? = some (.cells cs T fr)
theorem Kept.refl (w : World) : Kept w w := fun _ _ _ _ h _ => h
theorem Kept.trans {w w1 w2 : World} (h : Kept w w1) (k : Kept w1 w2) : Kept w w2 := fun g cs T fr hh hT => k g cs T fr (h g cs T fr hh hT) hT
theorem kept_below {w w' : World} (h : Below w.heap.size w w') : Kept w w' := fun g cs T fr hh _ => (h.block g (Array.getElem?_eq_some_iff.1 hh).1).trans hh
theorem kept_alloc (w : World) (o : Obj) : Kept w (w.alloc o) := kept_below ((Below.refl _ _).alloc (Nat.le_refl _) o)
theorem bts_box {w : World} {B : Nat} {v : Value} {xs : List Int} {g : Nat} {cs : Array Value} {T : TypeId} {fr : Nat × Nat} (h : Bts w B v xs) (hb : w.heap[g]? = some (.cells cs T fr)) (hT : T ≠ 5) : some g ≠ v.ownBlock := by
  intro e
  rcases h.2.2 with ⟨rfl, _⟩ | ⟨g', cap, cur, rfl, _, hh, _⟩
  · simp [Value.ownBlock] at e
  · simp [Value.ownBlock] at e
    subst e
    rw [hh] at hb
    simp at hb
    exact hT hb.2.1.symm
theorem kept_grown {w w' : World} {B : Nat} {v : Value} {xs : List Int} (h : Bts w B v xs) (hg : w.grownBy w' v.ownBlock) : Kept w w' := fun g cs T fr hh hT => (hg.block g (Array.getElem?_eq_some_iff.1 hh).1 (bts_box h hh hT)).trans hh
theorem kept_app {w0 w w' : World} {o : Obj} {B : Nat} {v : Value} {xs : List Int} (hk : Kept w0 w) (h : Bts (w.alloc o) B v xs) (hg : (w.alloc o).grownBy w' v.ownBlock) : Kept w0 w' := hk.trans ((kept_alloc w o).trans (kept_grown h hg))
theorem kept_app2 {w0 w w' : World} {o o' : Obj} {B : Nat} {v : Value} {xs : List Int} (hk : Kept w0 w) (h : Bts ((w.alloc o).alloc o') B v xs) (hg : ((w.alloc o).alloc o').grownBy w' v.ownBlock) : Kept w0 w' := hk.trans ((kept_alloc w o).trans ((kept_alloc _ o').trans (kept_grown h hg)))
end Go.Proofs.YtdhlmcgbgdljmaaGreatDoor
/-
  'append' onto a row of bytes of the call's own that may bear a mark of the run-time behind its last place (as '[]byte(s)' lays one).
-/
namespace Go.Proofs.YtdhlmcgbgdljmaaGreatDoor
open Go.RowKit
set_option linter.unusedVariables false
set_option linter.unusedSimpArgs false

/-- Cells are stored where no mark is. -/
theorem storeCells_fr (P : Program) (g o : Nat) (t : TypeId) (fr : Nat × Nat) : ∀ (vs : List Value) (i : Nat) (cur : Array Value) (w : World), w.heap[g]? = some (.cells cur t fr) → o + i + vs.length ≤ cur.size → (fr.2 = 0 ∨ o + i + vs.length ≤ fr.1) → (∀ v ∈ vs, v.oneCell' = true) →
    (storeCells ⟨g, o, none⟩ vs i).run P w = .ok () (w.setRow g (cur.toList.take (o + i) ++ vs ++ cur.toList.drop (o + i + vs.length)).toArray)
  | [], i, cur, w, hg, _, _, _ => by
    simp only [storeCells, List.append_nil, List.length_nil, Nat.add_zero, List.take_append_drop, Array.toArray_toList]
    rw [setRow_self w g cur t fr hg]
    rfl
  | v :: rest, i, cur, w, hg, hl, hf, h1 => by
    have hi : o + i < cur.size := by simp at hl; omega
    have hadd : (⟨g, o, none⟩ : Addr).add i = ⟨g, o + i, none⟩ := by unfold Addr.add; split <;> simp_all
    have hcell : w.cell? ⟨g, o + i, none⟩ = some cur[o + i] := by simp [World.cell?, hg, hi]
    have hfro : w.frozen? ⟨g, o + i, none⟩ = false := by
      obtain ⟨lo, hh⟩ := fr
      simp only [World.frozen?, hg]
      simp only [List.length_cons] at hf
      simp
      omega
    have hst : (store ((⟨g, o, none⟩ : Addr).add i) v).run P w = .ok () (w.setRow g (cur.setIfInBounds (o + i) v)) := by
      rw [hadd, run_store P w _ v _ (h1 v (by simp)), hcell]
      simp [hfro, setCell_eq_setRow w g (o + i) cur t fr v hg]
    have ih := storeCells_fr P g o t fr rest (i + 1) (cur.setIfInBounds (o + i) v) (w.setRow g (cur.setIfInBounds (o + i) v)) (setRow_heap w g cur _ t _ hg) (by simp at hl ⊢; omega) (by simp at hf; omega) (fun x hx => h1 x (by simp [hx]))
    simp only [storeCells, Sem.run_bind, hst, Result.andThen_ok, ih, setRow_setRow]
    congr 3
    have e := list_seg_step cur.toList (o + i) v rest (by simp at hl ⊢; omega)
    simpa [Array.toList_setIfInBounds, Nat.add_assoc] using e

/-- A row of bytes of the call's own, from block base on, that may bear a mark behind its last place. -/
def BtsM (w : World) (base : Nat) (v : Value) (xs : List Int) : Prop := BtsF w v xs ∧ ∀ k, v.ownBlock = some k → base ≤ k

theorem Bts.m {w : World} {base : Nat} {v : Value} {xs : List Int} (h : Bts w base v xs) : BtsM w base v xs := ⟨h.free, fun k hk => (h.2.lt k hk).1⟩
theorem BtsM.lt {w : World} {base : Nat} {v : Value} {xs : List Int} (h : BtsM w base v xs) : ∀ k, v.ownBlock = some k → base ≤ k ∧ k < w.heap.size := fun k hk => ⟨h.2 k hk, h.1.2.lt k hk⟩
theorem BtsM.own {w : World} {base : Nat} {v : Value} {xs : List Int} (h : BtsM w base v xs) : ∀ k, v.ownBlock = some k → base ≤ k := h.2
theorem BtsM.at {w w' : World} {base : Nat} {v : Value} {xs : List Int} (h : BtsM w base v xs) (hk : ∀ k, v.ownBlock = some k → w'.heap[k]? = w.heap[k]?) : BtsM w' base v xs := by
  refine ⟨⟨h.1.1, h.1.2.1, ?_⟩, h.2⟩
  rcases h.1.2.2 with h0 | ⟨g, cap, cur, fr, rfl, hg, r⟩
  · exact .inl h0
  · exact .inr ⟨g, cap, cur, fr, rfl, (hk g rfl).trans hg, r⟩
theorem BtsM.grow {w w' : World} {base : Nat} {v : Value} {xs : List Int} (h : BtsM w base v xs) (hb : Below w.heap.size w w') : BtsM w' base v xs := h.at fun k hk => hb.block k (h.lt k hk).2
theorem BtsM.alloc {w : World} {base : Nat} {v : Value} {xs : List Int} (h : BtsM w base v xs) (o : Obj) : BtsM (w.alloc o) base v xs := h.grow ((Below.refl _ _).alloc (Nat.le_refl _) o)
theorem BtsM.mono {w : World} {base base' : Nat} {v : Value} {xs : List Int} (h : BtsM w base v xs) (hb : base' ≤ base) : BtsM w base' v xs := ⟨h.1, fun k hk => Nat.le_trans hb (h.2 k hk)⟩
theorem BtsM.kept {w w' : World} {base : Nat} {v : Value} {xs : List Int} (h : BtsM w base v xs) (hg : w.grownBy w' v.ownBlock) : Kept w w' := fun g cs T fr hh hT => by
  refine (hg.block g (Array.getElem?_eq_some_iff.1 hh).1 fun e => ?_).trans hh
  rcases h.1.2.2 with ⟨rfl, _⟩ | ⟨g', cap, cur, fr', rfl, hg', _⟩
  · simp [Value.ownBlock] at e
  · simp [Value.ownBlock] at e
    subst e
    rw [hg'] at hh
    simp at hh
    exact hT hh.2.1.symm
theorem BtsM.seg {w : World} {base : Nat} {a : Option Addr} {n c : Nat} {xs : List Int} (h : BtsM w base (.slice a n c) xs) : Seg w a xs := by
  obtain ⟨a', c', e, hs, _⟩ := h.1.shape
  simp only [Value.slice.injEq] at e
  obtain ⟨rfl, _, _⟩ := e
  exact hs

theorem cells_onto {xs : List Value} {ys : List Value} {cur : Array Value} {n : Nat} (ht : cur.toList.take n = xs) (hn : xs.length = n) : ((cur.toList.take n ++ ys ++ cur.toList.drop (n + ys.length)).toArray.toList).take (n + ys.length) = xs ++ ys := by
  rw [ht]
  have e : n + ys.length = (xs ++ ys).length := by rw [List.length_append, hn]
  rw [e]
  exact List.take_left
theorem cells_onto_size {ys : List Value} {cur : Array Value} {n : Nat} (h : n + ys.length ≤ cur.size) : (cur.toList.take n ++ ys ++ cur.toList.drop (n + ys.length)).toArray.size = cur.size := by
  simp only [List.size_toArray, List.length_append, List.length_take, List.length_drop, Array.length_toList]
  omega

/-- 'append(v, ys...)', whatever bytes ys are that can be read. -/
theorem run_append_M (w : World) (ty : TypeId) (base : Nat) (v : Value) (xs ys : List Int) (hB : BtsM w base v xs) (ad : Option Addr) (c : Nat) (hS : Seg w ad ys) (hc : ad = none → c = 0) (hlen : xs.length + ys.length ≤ 1099511627776) (hbase : base ≤ w.heap.size) :
    ∃ v' w', (Builtin.append_ #[23, 23] ty #[v, .slice ad ys.length c]).run Tryz.prog w = .ok v' w' ∧ BtsM w' base v' (xs ++ ys) ∧ w.grownBy w' v.ownBlock := by
  obtain ⟨i0, hi, hz0, hz1, hz2⟩ := info_parts info5
  have hbyt : ∀ z ∈ xs ++ ys, Byt z := by
    intro z hz
    rcases List.mem_append.1 hz with h1 | h1
    · exact hB.1.1 z h1
    · exact hS.1 z h1
  have h1c : ∀ u ∈ cellsOf ys, u.oneCell' = true := by
    intro u hu
    simp only [cellsOf, List.mem_map] at hu
    obtain ⟨q, _, rfl⟩ := hu
    rfl
  rcases hB.1.2.2 with ⟨rfl, h0⟩ | ⟨g, cap, cur, fr, rfl, hg, hf, hnc, hcm, hcs, htake⟩
  · have hx0 : xs = [] := List.eq_nil_of_length_eq_zero h0
    subst hx0
    have hB0 : Bts w base (.slice none 0 0) [] := bts_nil _ _
    cases ad with
    | none =>
      have hc0 := hc rfl
      have hy : ys = [] := by
        rcases hS.2 with h0 | ⟨b, off, h1, _⟩
        · exact h0
        · simp at h1
      subst hc0
      subst hy
      refine ⟨_, w, run_append_owned_none (P := Tryz.prog) (w := w) base 23 ty 5 i0 1 Tryz.underlying23 hi _ 0 [] hB0.2, hB, World.grownBy.refl _ _⟩
    | some ad =>
      obtain ⟨v', w', hrun, r1, r2, _⟩ := run_append_own (P := Tryz.prog) w base 23 ty 5 i0 (.int .u8 0) 1 1 Tryz.underlying23 hi hz0 hz1 hz2 rfl (by decide) _ 0 (cellsOf []) hB0.2 ad ys.length c (cellsOf ys) (by simp [cellsOf])
        (by
          intro j u hu
          rcases hS.2 with h0 | ⟨b, off, h1, h2⟩
          · subst h0; simp [cellsOf] at hu
          · simp at h1
            subst h1
            have hj : j < ys.length := by
              have := (List.getElem?_eq_some_iff.1 hu).1
              simpa [cellsOf] using this
            rw [Addr.add_lit, h2 j hj]
            simp [cellsOf, hj] at hu
            simp [hj, hu])
        h1c (by unfold maxLen; omega) (by omega) hbase
      refine ⟨v', w', hrun, Bts.m ⟨hbyt, ?_⟩, r2⟩
      simpa [cellsOf] using r1
  · cases ad with
    | none =>
      have hc0 := hc rfl
      have hy : ys = [] := by
        rcases hS.2 with h0 | ⟨b, off, h1, _⟩
        · exact h0
        · simp at h1
      subst hc0
      subst hy
      refine ⟨_, w, ?_, by simpa using hB, World.grownBy.refl _ _⟩
      have hle : xs.length ≤ cap := hnc
      simp [Builtin.append_, run_underlying Tryz.underlying23, sizeOf, typeInfo, hi, Builtin.lenOf, Builtin.firstCells, loadCells, loadCellsFrom, hle, storeCells]
    | some ad =>
      have hnews : ∀ j u, (cellsOf ys)[j]? = some u → w.cell? (ad.add j) = some u := by
        intro j u hu
        rcases hS.2 with h0 | ⟨b, off, h1, h2⟩
        · subst h0; simp [cellsOf] at hu
        · simp at h1
          subst h1
          have hj : j < ys.length := by
            have := (List.getElem?_eq_some_iff.1 hu).1
            simpa [cellsOf] using this
          rw [Addr.add_lit, h2 j hj]
          simp [cellsOf, hj] at hu
          simp [hj, hu]
      have hxl : (cellsOf xs).length = xs.length := length_cellsOf xs
      have hyl : (cellsOf ys).length = ys.length := length_cellsOf ys
      by_cases hroom : xs.length + ys.length ≤ cap
      · have hff := run_firstCells_some (P := Tryz.prog) w i0.size ys.length ad ys.length c (cellsOf ys) (by rw [hz1, hyl, Nat.mul_one]) hnews
        have hst := storeCells_fr Tryz.prog g xs.length 5 fr (cellsOf ys) 0 cur w hg (by rw [hyl]; omega) (by rw [hyl]; omega) h1c
        simp only [Nat.add_zero] at hst
        refine ⟨.slice (some ⟨g, 0, none⟩) (xs.length + ys.length) cap, w.setRow g (cur.toList.take xs.length ++ cellsOf ys ++ cur.toList.drop (xs.length + (cellsOf ys).length)).toArray, ?_, ⟨⟨hbyt, ?_, .inr ⟨g, cap, _, fr, ?_, setRow_heap w g cur _ 5 _ hg, hf, ?_, hcm, ?_, ?_⟩⟩, hB.2⟩, ⟨rfl, rfl, rfl, by simp, fun k _ hk => setRow_other w g k _ (fun e => hk (by simp [Value.ownBlock, e]))⟩⟩
        · rw [hz1] at hff
          simp [Builtin.append_, run_underlying Tryz.underlying23, sizeOf, typeInfo, hi, hz1, Builtin.lenOf, hroom, hff, Addr.add_lit, hst]
        · rw [length_cellsOf]
        · rw [List.length_append]
        · rw [List.length_append]; exact hroom
        · rw [cells_onto_size (by omega)]; exact hcs
        · rw [List.length_append, cellsOf_append, ← hyl]
          exact cells_onto htake hxl
      · have holds : ∀ j u, (cellsOf xs)[j]? = some u → w.cell? ((⟨g, 0, none⟩ : Addr).add j) = some u := by
          intro j u hu
          have hadd : (⟨g, 0, none⟩ : Addr).add j = ⟨g, j, none⟩ := by unfold Addr.add; split <;> simp_all
          rw [hadd, cell_of_row w g j cur 5 fr hg]
          rw [← htake, List.getElem?_take] at hu
          split at hu
          · simpa using hu
          · cases hu
        have hr := run_append_grow (P := Tryz.prog) w 23 ty 5 i0 (.int .u8 0) Tryz.underlying23 hi hz0 ⟨g, 0, none⟩ xs.length cap (cellsOf xs) (by rw [hz1, hxl, Nat.mul_one]) holds ad ys.length c (cellsOf ys) (by rw [hz1, hyl, Nat.mul_one]) hnews (by omega) (by omega) (by rw [hz2]; exact growslice_fits (by omega) (by omega))
        have hge := grownCap_ge w (xs.length + ys.length) cap 5
        have hcm' := grownCap_le_maxLen w (xs.length + ys.length) cap 5 (by unfold maxLen; omega)
        refine ⟨_, _, hr, Bts.m ⟨hbyt, ?_, .inr ⟨w.heap.size, _, _, by rw [List.length_append], hbase, heap_alloc_new w.drew _, by rw [List.length_append]; exact hge, hcm', ?_, ?_⟩⟩, ⟨rfl, rfl, rfl, by simp, fun k hk _ => Below.heap_alloc w.drew _ k hk⟩⟩
        · rw [length_cellsOf, Nat.mul_one]
        · have hz1' : (Value.int IntKind.u8 0).cells.size = 1 := rfl
          simp only [Array.size_append, List.size_toArray, size_zeroCells, hz1', hxl, hyl]
          omega
        · have e1 : (xs ++ ys).length * 1 = (cellsOf xs ++ cellsOf ys).length := by rw [Nat.mul_one, ← cellsOf_append, length_cellsOf]
          rw [e1]
          simp only [Array.toList_append, List.append_assoc]
          rw [← List.append_assoc, cellsOf_append]
          exact List.take_left

/-- 'append(v, s...)', s a string. -/
theorem run_append_M_text (w : World) (ty t : TypeId) (ht : Tryz.prog.underlying t = some .string) (base : Nat) (v : Value) (xs ys : List Int) (hB : BtsM w base v xs) (hy : ∀ y ∈ ys, Byt y) (hlen : xs.length + ys.length ≤ 1099511627776) (hbase : base ≤ w.heap.size) :
    ∃ v' w', (Builtin.append_ #[23, t] ty #[v, .string (strOf ys)]).run Tryz.prog w = .ok v' w' ∧ BtsM w' base v' (xs ++ ys) ∧ w.grownBy w' v.ownBlock := by
  obtain ⟨i0, hi, hz0, hz1, hz2⟩ := info_parts info5
  have hsz := size_strOf ys
  have hsc := strCells_of hy
  have hbyt : ∀ z ∈ xs ++ ys, Byt z := by
    intro z hz
    rcases List.mem_append.1 hz with h1 | h1
    · exact hB.1.1 z h1
    · exact hy z h1
  have hxl : (cellsOf xs).length = xs.length := length_cellsOf xs
  have hyl : (cellsOf ys).length = ys.length := length_cellsOf ys
  rcases hB.1.2.2 with ⟨rfl, h0⟩ | ⟨g, cap, cur, fr, rfl, hg, hf, hnc, hcm, hcs, htake⟩
  · have hx0 : xs = [] := List.eq_nil_of_length_eq_zero h0
    subst hx0
    have hB0 : Bts w base (.slice none 0 0) [] := bts_nil _ _
    obtain ⟨v', w', hrun, hown, hgr, _⟩ := Lib.run_append_own_string (P := Tryz.prog) w base 23 t ty 5 i0 Tryz.underlying23 ht hi hz0 hz1 hz2 _ 0 (cellsOf []) hB0.2 (strOf ys) (by unfold maxLen; simp at hlen; omega) (by simp at hlen; omega) hbase
    refine ⟨v', w', hrun, Bts.m ⟨hbyt, ?_⟩, hgr⟩
    rw [hsc, hsz, ← cellsOf_append] at hown
    simpa using hown
  · by_cases hroom : xs.length + ys.length ≤ cap
    · have hff := Lib.run_firstCells_string (P := Tryz.prog) w 1 (strOf ys)
      rw [hsz, hsc] at hff
      have h1c := Lib.strCells_oneCell (strOf ys)
      rw [hsc] at h1c
      have hst := storeCells_fr Tryz.prog g xs.length 5 fr (cellsOf ys) 0 cur w hg (by rw [hyl]; omega) (by rw [hyl]; omega) h1c
      simp only [Nat.add_zero] at hst
      refine ⟨.slice (some ⟨g, 0, none⟩) (xs.length + ys.length) cap, w.setRow g (cur.toList.take xs.length ++ cellsOf ys ++ cur.toList.drop (xs.length + (cellsOf ys).length)).toArray, ?_, ⟨⟨hbyt, ?_, .inr ⟨g, cap, _, fr, ?_, setRow_heap w g cur _ 5 _ hg, hf, ?_, hcm, ?_, ?_⟩⟩, hB.2⟩, ⟨rfl, rfl, rfl, by simp, fun k _ hk => setRow_other w g k _ (fun e => hk (by simp [Value.ownBlock, e]))⟩⟩
      · simp [Builtin.append_, run_underlying Tryz.underlying23, run_underlying ht, sizeOf, typeInfo, hi, hz1, Builtin.lenOf, hsz, hroom, hff, Addr.add_lit, hst]
      · rw [length_cellsOf]
      · rw [List.length_append]
      · rw [List.length_append]; exact hroom
      · rw [cells_onto_size (by omega)]; exact hcs
      · rw [List.length_append, cellsOf_append, ← hyl]
        exact cells_onto htake hxl
    · have holds : ∀ j u, (cellsOf xs)[j]? = some u → w.cell? ((⟨g, 0, none⟩ : Addr).add j) = some u := by
        intro j u hu
        have hadd : (⟨g, 0, none⟩ : Addr).add j = ⟨g, j, none⟩ := by unfold Addr.add; split <;> simp_all
        rw [hadd, cell_of_row w g j cur 5 fr hg]
        rw [← htake, List.getElem?_take] at hu
        split at hu
        · simpa using hu
        · cases hu
      have hr := Lib.run_append_grow_string (P := Tryz.prog) w 23 t ty 5 i0 (.int .u8 0) Tryz.underlying23 ht hi hz0 ⟨g, 0, none⟩ xs.length cap (cellsOf xs) (by rw [hz1, hxl, Nat.mul_one]) holds (strOf ys) (by rw [hsz]; omega) (by rw [hsz]; omega) (by rw [hz2, hsz]; exact growslice_fits (by omega) (by omega))
      rw [hsz, hsc] at hr
      have hge := grownCap_ge w (xs.length + ys.length) cap 5
      have hcm' := grownCap_le_maxLen w (xs.length + ys.length) cap 5 (by unfold maxLen; omega)
      refine ⟨_, _, hr, Bts.m ⟨hbyt, ?_, .inr ⟨w.heap.size, _, _, by rw [List.length_append], hbase, heap_alloc_new w.drew _, by rw [List.length_append]; exact hge, hcm', ?_, ?_⟩⟩, ⟨rfl, rfl, rfl, by simp, fun k hk _ => Below.heap_alloc w.drew _ k hk⟩⟩
      · rw [length_cellsOf, Nat.mul_one]
      · have hz1' : (Value.int IntKind.u8 0).cells.size = 1 := rfl
        simp only [Array.size_append, List.size_toArray, size_zeroCells, hz1', hxl, hyl]
        omega
      · have e1 : (xs ++ ys).length * 1 = (cellsOf xs ++ cellsOf ys).length := by rw [Nat.mul_one, ← cellsOf_append, length_cellsOf]
        rw [e1]
        simp only [Array.toList_append, List.append_assoc]
        rw [← List.append_assoc, cellsOf_append]
        exact List.take_left

theorem stepM_seg {ops : Array Oper} {o : Oper} {a : Act} {w : World} {K : Act → World → Prop} {Q : Exit → Act → World → Prop} {E : Prop} (hgd : o.guard = none) (s x : Operand)
    (ho : o.op = .call { callee := .builtin .append, args := #[s, x], argTypes := #[23, 23] })
    (base : Nat) (v : Value) (xs ys : List Int) (hs : a.eval s = v) (hB : BtsM w base v xs) (ad : Option Addr) (m c : Nat) (hm : m = ys.length) (hx : a.eval x = .slice ad m c) (hS : Seg w ad ys) (hc : ad = none → c = 0)
    (hlen : xs.length + ys.length ≤ 1099511627776) (hbase : base ≤ w.heap.size)
    (h : ∀ v' w', BtsM w' base v' (xs ++ ys) → w.grownBy w' v.ownBlock → K (a.put o.dst v') w') : if Region.wanted o (yielded ops a.tmps) = true then Oper.wp Tryz.prog o a w K Q else E := by
  have hw : Region.wanted o (yielded ops a.tmps) = true := by simp [Region.wanted, hgd]
  rw [if_pos hw]
  subst hm
  obtain ⟨v', w', hrun, r1, r2⟩ := run_append_M w o.type base v xs ys hB ad c hS hc hlen hbase
  unfold Oper.wp
  simp [execOp, ho, resolve, invoke, builtin, hs, hx, hrun, Result.andThen]
  exact h v' w' r1 r2

theorem stepM_text {ops : Array Oper} {o : Oper} {a : Act} {w : World} {K : Act → World → Prop} {Q : Exit → Act → World → Prop} {E : Prop} (hgd : o.guard = none) (s x : Operand) (t : TypeId)
    (ho : o.op = .call { callee := .builtin .append, args := #[s, x], argTypes := #[23, t] }) (ht : Tryz.prog.underlying t = some .string)
    (base : Nat) (v : Value) (xs ys : List Int) (hs : a.eval s = v) (hB : BtsM w base v xs) (sx : ByteArray) (hsx : sx = strOf ys) (hy : ∀ y ∈ ys, Byt y) (hx : a.eval x = .string sx)
    (hlen : xs.length + ys.length ≤ 1099511627776) (hbase : base ≤ w.heap.size)
    (h : ∀ v' w', BtsM w' base v' (xs ++ ys) → w.grownBy w' v.ownBlock → K (a.put o.dst v') w') : if Region.wanted o (yielded ops a.tmps) = true then Oper.wp Tryz.prog o a w K Q else E := by
  have hw : Region.wanted o (yielded ops a.tmps) = true := by simp [Region.wanted, hgd]
  rw [if_pos hw]
  subst hsx
  obtain ⟨v', w', hrun, r1, r2⟩ := run_append_M_text w o.type t ht base v xs ys hB hy hlen hbase
  unfold Oper.wp
  simp [execOp, ho, resolve, invoke, builtin, hs, hx, hrun, Result.andThen]
  exact h v' w' r1 r2

/-- '[]byte(s)': a row of bytes of the call's own. -/
theorem conv_M (xs : List Int) (hx : ∀ x ∈ xs, Byt x) (hl : xs.length ≤ 1000) (w : World) : ∃ cap wB, (convert 9 23 (.string (strOf xs))).run Tryz.prog w = .ok (.slice (some ⟨w.heap.size, 0, none⟩) xs.length cap) wB ∧
    BtsM wB w.heap.size (.slice (some ⟨w.heap.size, 0, none⟩) xs.length cap) xs ∧ Below w.heap.size w wB := by
  have hsz := size_strOf xs
  have hsc := strCells_of hx
  have hrun := run_bytes_of_string (P := Tryz.prog) w 9 23 5 (strOf xs) Tryz.underlying9 Tryz.underlying23 Tryz.underlying5
  rw [hsz] at hrun
  have hge := grownCap_ge w xs.length 0 5
  have hle := grownCap_le_maxLen w xs.length 0 5 (by unfold maxLen; omega)
  generalize grownCap w xs.length 0 5 = cap at hrun hge hle
  have hrs : (bytesRow (strOf xs) cap).size = cap := by
    have h1 : (strOf xs).data.size = xs.length := hsz
    simp [bytesRow, h1, hsz]
    omega
  have hrt : (bytesRow (strOf xs) cap).toList.take xs.length = cellsOf xs := by
    rw [← hsc]
    unfold bytesRow Lib.strCells
    rw [Array.toList_append, Array.toList_map, List.take_append_of_le_length (by simp; exact Nat.le_of_eq hsz.symm)]
    rw [List.take_of_length_le (by simp; exact Nat.le_of_eq hsz)]
  rw [hrs] at hrun
  refine ⟨cap, _, hrun, ⟨⟨hx, length_cellsOf xs, .inr ⟨w.heap.size, cap, _, _, rfl, heap_alloc_new w.drew _, .inr (Nat.le_refl _), hge, hle, hrs, hrt⟩⟩, fun k hk => by simp [Value.ownBlock] at hk; omega⟩, ((Below.refl _ w).drew).alloc (Nat.le_refl _) _⟩
end Go.Proofs.YtdhlmcgbgdljmaaGreatDoor
