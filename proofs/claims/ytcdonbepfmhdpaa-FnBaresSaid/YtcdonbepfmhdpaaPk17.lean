/-
  Texts that a law leans on, one behind the other; no statement is proved here.
-/
import Derived.Test.YtcdonbepfmhdpaaPk9
import Derived.Test.YtcdonbepfmhdpaaPk6
import Derived.Deep.AppendLies
import Derived.Test.YtcdonbepfmhdpaaPk7
import Derived.Test.YtcdonbepfmhdpaaPk13
/-
  withEdges of the program, as Part calls it: the edges that are wanted, in their order.
-/
namespace Go.Proofs.Ytcdonbepfmhdpaa
open Go.RowKit
set_option linter.unusedVariables false
set_option linter.unusedSimpArgs false

theorem fSt_onP {w wr w' : World} {o o' : Obj} {R : Nat} {n : Int} {l : List Edg} {u : Value} (h : FSt w o o' R n l u wr) (hb : Below wr.heap.size wr w') : FSt w o o' R n l u w' := by
  obtain ⟨h1, h2, h3, h4, h5, h6⟩ := h
  have hl : ∀ b o, wr.heap[b]? = some o → w'.heap[b]? = some o := fun b o h => (hb.block b (Array.getElem?_eq_some_iff.1 h).1).trans h
  exact ⟨hl _ _ h1, hl _ _ h2, Below.on h3 hb, h4, hl _ _ h5, h6.on hb⟩

end Go.Proofs.Ytcdonbepfmhdpaa
/-
  Part of the program.
-/
namespace Go.Proofs.Ytcdonbepfmhdpaa
open Go.RowKit
set_option linter.unusedVariables false
set_option linter.unusedSimpArgs false

theorem partA_len (n : Int) (E : List Edg) (l : List Int) : (partA n E l).length ≤ 1048576 := by
  unfold partA
  split
  · next h =>
    unfold partB at h
    rw [Bool.and_eq_true] at h
    have h1 := List.length_filter_le (keepE l) E
    have h2 := (gB_iff.1 h.1).2.2.1
    omega
  · simp

theorem row1 {w : World} {g : Nat} {T : TypeId} {c0 : Value} (h : w.heap[g]? = some (.cells #[c0] T (0, 0))) : w.cell? ⟨g, 0, none⟩ = some c0 ∧ ∀ j, w.frozen? ⟨g, j, none⟩ = false :=
  ⟨by rw [cell_of_row w g 0 _ _ _ h]; rfl, fun j => frozen_of_row w g j _ _ h⟩
theorem three_after {w w1 : World} {o o' o'' : Obj} (h : Below (((w.alloc o).alloc o').alloc o'').heap.size (((w.alloc o).alloc o').alloc o'') w1) : w1.heap[w.heap.size]? = some o ∧ w1.heap[w.heap.size + 1]? = some o' ∧ w1.heap[w.heap.size + 2]? = some o'' ∧ Below w.heap.size w w1 ∧ w.heap.size + 3 ≤ w1.heap.size := by
  obtain ⟨k1, k2, k3, k4, k5⟩ := three_boxes w o o' o''
  have hz := h.size
  exact ⟨(h.block _ (by omega)).trans k1, (h.block _ (by omega)).trans k2, (h.block _ (by omega)).trans k3, Below.on k5 h, by omega⟩

end Go.Proofs.Ytcdonbepfmhdpaa
/-
  withEdges of the program, as Bare calls it: the edges that are wanted, in their order.
-/
namespace Go.Proofs.Ytcdonbepfmhdpaa
open Go.RowKit
set_option linter.unusedVariables false
set_option linter.unusedSimpArgs false

theorem fSt_onB {w wr w' : World} {o o' : Obj} {R : Nat} {n : Int} {l : List Edg} {u : Value} (h : FSt w o o' R n l u wr) (hb : Below wr.heap.size wr w') : FSt w o o' R n l u w' := by
  obtain ⟨h1, h2, h3, h4, h5, h6⟩ := h
  have hl : ∀ b o, wr.heap[b]? = some o → w'.heap[b]? = some o := fun b o h => (hb.block b (Array.getElem?_eq_some_iff.1 h).1).trans h
  exact ⟨hl _ _ h1, hl _ _ h2, Below.on h3 hb, h4, hl _ _ h5, h6.on hb⟩

set_option maxHeartbeats 6400000 in
set_option maxRecDepth 100000 in
theorem withEdgesB_any (N : Nat) (n : Int) (x c1 c2 : Value) (E : List Edg) (p : Edg → Bool) (w : World) (hx : ESeg (fun b => b < N) w x E) (hN : N ≤ w.heap.size) (hel : E.length ≤ 400)
    (HW : ∀ j (h : j < E.length) wx, Below w.heap.size w wx → Calls Try.prog 34 #[.agg #[.int .i64 E[j].1, .int .i64 E[j].2], c1, c2] wx fun e w' => e = .returned (.bool (p E[j])) ∧ Below wx.heap.size wx w') :
    Calls Try.prog 33 #[.agg #[.int .i64 n, x], .func (.func 34) #[] #[c1, c2]] w fun e w' => ∃ u, e = .returned (.agg #[.int .i64 n, u]) ∧ EOwn w' w.heap.size u (E.filter p) ∧ Below w.heap.size w w' := by
  have HX : Hid (∀ wx, Below w.heap.size w wx → ESeg (fun b => b < N) wx x E) := fun wx hb => hx.agree (agree_below (hb.mono hN))
  have HWh := hide' HW
  obtain ⟨iE, hiE, hz0, hz1, hz2⟩ := info_parts infoE
  obtain ⟨a, cap, rfl, hlc, hcm, -, -⟩ := hx
  unfold maxLen at hcm
  have hI0 : Hid (FSt w (.cells #[.int .i64 n, .slice a E.length cap] 25) (.cells #[.int .i64 0, .slice none 0 0] 25) (w.heap.size + 2) n ((E.take 0).filter p) (.slice none 0 0) (((w.alloc (.cells #[.int .i64 n, .slice a E.length cap] 25)).alloc (.cells #[.int .i64 0, .slice none 0 0] 25)).alloc (.cells #[.int .i64 n, .slice none 0 0] 25))) := by
    obtain ⟨k1, k2, k3, k4, k5⟩ := three_boxes w (.cells #[.int .i64 n, .slice a E.length cap] 25) (.cells #[.int .i64 0, .slice none 0 0] 25) (.cells #[.int .i64 n, .slice none 0 0] 25)
    exact ⟨k1, k2, k5, Nat.le_refl _, k3, EOwn.nil _ _⟩
  clear HW
  go_enter Try.func33, Try.ntmps33
  go_wp2_with fail
  go_loopw [14] (fun i wr => ∃ j : Nat, i = .int .i64 j ∧ j ≤ E.length ∧ ∃ u, Hid (FSt w (.cells #[.int .i64 n, .slice a E.length cap] 25) (.cells #[.int .i64 0, .slice none 0 0] 25) (w.heap.size + 2) n ((E.take j).filter p) u wr)) (fun i _ => E.length - (intOf i).toNat)
  case atStart => exact ⟨0, rfl, Nat.zero_le _, _, hI0⟩
  case round =>
    clear hI0
    obtain ⟨j, rfl, hj, u, hF⟩ := hrel
    obtain ⟨h1, h2, h3, h4', h5, h6⟩ := hF.out
    obtain ⟨ua, uc, rfl⟩ := h6.form
    have hfl := filter_len p E j
    have hR : w.heap.size + 2 < wr.heap.size := (Array.getElem?_eq_some_iff.1 h5).1
    by_cases hjl : j < E.length
    · have hjl' : (j : Int) < (E.length : Int) := by omega
      obtain ⟨b, off, rfl, hbN, q0, q1⟩ := (HX.out wr h3).at hjl
      have hfs := filter_succ p E j hjl
      have bA : Below wr.heap.size wr (wr.alloc (.cells #[.int .i64 E[j].1, .int .i64 E[j].2] 36)) := (Below.refl _ _).alloc (Nat.le_refl _) _
      have HC := hide' (HWh.out j hjl (wr.alloc (.cells #[.int .i64 E[j].1, .int .i64 E[j].2] 36)) (Below.on h3 bA))
      have hFa := fSt_onB hF.out bA
      have HE0 : Hid (∀ w2, Below (wr.alloc (.cells #[.int .i64 E[j].1, .int .i64 E[j].2] 36)).heap.size (wr.alloc (.cells #[.int .i64 E[j].1, .int .i64 E[j].2] 36)) w2 → w2.heap[wr.heap.size]? = some (.cells #[.int .i64 E[j].1, .int .i64 E[j].2] 36)) := fun w2 h => box_row h
      cases hp : p E[j] with
      | false =>
        rw [hp] at HC hfs
        simp at hfs
        have HN : Hid (∀ w2, Below (wr.alloc (.cells #[.int .i64 E[j].1, .int .i64 E[j].2] 36)).heap.size (wr.alloc (.cells #[.int .i64 E[j].1, .int .i64 E[j].2] 36)) w2 → FSt w (.cells #[.int .i64 n, .slice (some ⟨b, off, none⟩) E.length cap] 25) (.cells #[.int .i64 0, .slice none 0 0] 25) (w.heap.size + 2) n ((E.take (j + 1)).filter p) (.slice ua ((E.take j).filter p).length uc) w2) := fun w2 h => by rw [hfs]; exact fSt_onB hFa h
        clear hF h1 h2 h5 h6 hfs hFa HE0 hp bA
        generalize E[j].1 = ef at *
        generalize E[j].2 = et at *
        go_wp2_with fail
        refine HC.out.mono ?_
        rintro e w2 ⟨rfl, b2⟩
        have HN' := hide' (HN.out w2 b2)
        clear b2 HN
        go_wp2
        go_roundw
        case rel => exact ⟨j + 1, by go_num, by omega, _, HN'⟩
        case measure => simp [intOf]; omega
      | true =>
        rw [hp] at HC hfs
        simp at hfs
        have HN : Hid (∀ w2, Below (wr.alloc (.cells #[.int .i64 E[j].1, .int .i64 E[j].2] 36)).heap.size (wr.alloc (.cells #[.int .i64 E[j].1, .int .i64 E[j].2] 36)) w2 → FSt w (.cells #[.int .i64 n, .slice (some ⟨b, off, none⟩) E.length cap] 25) (.cells #[.int .i64 0, .slice none 0 0] 25) (w.heap.size + 2) n ((E.take j).filter p) (.slice ua ((E.take j).filter p).length uc) w2) := fun w2 h => fSt_onB hFa h
        have HAd : Hid (∀ w2, Below (wr.alloc (.cells #[.int .i64 E[j].1, .int .i64 E[j].2] 36)).heap.size (wr.alloc (.cells #[.int .i64 E[j].1, .int .i64 E[j].2] 36)) w2 → ∀ o1 g cp w6, w6.ownsRow (w.heap.size + 2 + 1) 36 2 (.slice (some ⟨g, 0, none⟩) (((E.take j).filter p).length + 1) cp) (((E.take j).filter p).length + 1) (eC ((E.take j).filter p) ++ [.int .i64 E[j].1, .int .i64 E[j].2]) → (w2.alloc o1).grownBy w6 (Value.slice ua ((E.take j).filter p).length uc).ownBlock → (w6.cell? ⟨w.heap.size + 2, 1, none⟩ = some (.slice ua ((E.take j).filter p).length uc) ∧ w6.frozen? ⟨w.heap.size + 2, 1, none⟩ = false) ∧ FSt w (.cells #[.int .i64 n, .slice (some ⟨b, off, none⟩) E.length cap] 25) (.cells #[.int .i64 0, .slice none 0 0] 25) (w.heap.size + 2) n ((E.take (j + 1)).filter p) (.slice (some ⟨g, 0, none⟩) (((E.take j).filter p).length + 1) cp) (w6.setCell ⟨w.heap.size + 2, 1, none⟩ (.slice (some ⟨g, 0, none⟩) (((E.take j).filter p).length + 1) cp))) := fun w2 h o1 g cp w6 k1 k2 => by
          have := fSt_add (e := E[j]) (HN.out w2 h) k1 k2
          rw [hfs]
          exact this
        clear hF h1 h2 h5 h6 hfs hFa hp bA
        generalize (E.take j).filter p = fl at *
        generalize hfn : fl.length = fn at *
        generalize E[j].1 = ef at *
        generalize E[j].2 = et at *
        go_wp2_with fail
        refine HC.out.mono ?_
        rintro e w2 ⟨rfl, b2⟩
        have hF2 := HN.out w2 b2
        obtain ⟨y0, y1, -⟩ := row2 (HE0.out w2 b2)
        obtain ⟨r0, r1, -⟩ := row2 hF2.2.2.2.2.1
        have HAd' := hide' (HAd.out w2 b2)
        have HOw : Hid (∀ o, (w2.alloc o).ownsRow (w.heap.size + 2 + 1) 36 2 (.slice ua fn uc) fn (eC fl)) := fun o => by
          have h := World.ownsRow.alloc hF2.2.2.2.2.2 o
          rw [hfn] at h
          exact h
        have hR2 : w.heap.size + 2 < w2.heap.size := (Array.getElem?_eq_some_iff.1 hF2.2.2.2.2.1).1
        clear b2 hF2 HAd HN HE0 HC
        go_wp2_with (at_builtin; refine wpList_append_lies _ rfl (.tmp 22) (.tmp 24) 23 (by rfl) (w.heap.size + 2 + 1) 36 iE _ 2 16 Try.underlying23 hiE hz0 hz1 hz2 rfl (by decide) (.slice ua fn uc) fn (eC fl) (by rfl) (HOw.out _) ⟨w2.heap.size, 0, none⟩ 1 1 [.int .i64 ef, .int .i64 et] (by rfl) (by rfl) (World.news_of_block (cs := #[.int .i64 ef, .int .i64 et]) (t := 36) (fr := (0, 0)) (heap_alloc_new w2 _)) (by simp [Value.oneCell']) (by omega) (by unfold maxLen; omega) (by omega) (by simp; omega) (w2.heap.size + 1) (by simp) ?_; intro g6 cp6 w6 hown6 hg6 hat6 hlt6; obtain ⟨⟨s1, s2⟩, hF6⟩ := HAd'.out _ _ _ _ hown6 hg6; replace hF6 := hide' hF6; clear hown6 hg6 hat6 hlt6)
        go_wp2
        go_roundw
        case rel => exact ⟨j + 1, by go_num, by omega, _, hF6⟩
        case measure => simp [intOf]; omega
    · have hjl' : ¬ (j : Int) < (E.length : Int) := by omega
      obtain rfl : j = E.length := by omega
      obtain ⟨r0, r1, rf⟩ := row2 h5
      rw [List.take_length] at hF h6 hfl
      rw [List.take_length] at r1
      obtain ⟨t0, t1, tf⟩ := row2 h2
      have tf0 := tf 0
      have tf1 := tf 1
      have hrow := row2 (set2_heap (j := 0) (.int .i64 n) (.slice ua (E.filter p).length uc) h2)
      simp only [set2, Nat.zero_add] at hrow
      have Hrow := hide' hrow
      have hgr := set2_grown wr (w.heap.size + 1) 0 (.int .i64 n) (.slice ua (E.filter p).length uc)
      have HB := hide' (h3.grown hgr (by omega) (by intro k hk; simp at hk; omega))
      have HO := hide' ((h6.far hgr (fun q hq => by have := (h6.lt q hq).1; simp; omega)).down (base' := w.heap.size) (by omega))
      clear hF h1 h2 h5 h6 tf hrow hgr
      generalize hfn : (E.filter p).length = fn at *
      go_wp2_with fail
      obtain ⟨u0, u1, _⟩ := Hrow.out
      refine bodyPost_ret (v := .agg #[.int .i64 n, .slice ua fn uc]) (by simp [results, Try.results33, go_sem, u0, u1]) rfl ?_
      exact ⟨_, rfl, HO.out, HB.out⟩
end Go.Proofs.Ytcdonbepfmhdpaa
/-
  Bare of the program.
-/
namespace Go.Proofs.Ytcdonbepfmhdpaa
open Go.RowKit
set_option linter.unusedVariables false
set_option linter.unusedSimpArgs false

theorem bareA_len (n : Int) (E : List Edg) : (bareA n E).length ≤ 1048576 := by
  unfold bareA
  split
  · next h =>
    unfold ordB at h
    rw [Bool.and_eq_true] at h
    have h1 := bareF_len n.toNat E E.length
    have h2 := (gB_iff.1 h.1).2.2.1
    omega
  · simp

/-- What the inner closure asks. -/
def likeB (sr : List BV) (e o : Edg) : Bool := decide (o.1 = e.1) && (sr.getD e.2.toNat 0).getLsbD o.2.toNat
/-- What it asks lies there. -/
def BSt (n D Pe Ps : Nat) (sr : List BV) (e : Edg) (w : World) : Prop := (w.cell? ⟨Pe, 0, none⟩ = some (.int .i64 e.1) ∧ w.cell? ⟨Pe, 1, none⟩ = some (.int .i64 e.2)) ∧ w.cell? ⟨Ps, 0, none⟩ = some (.slice (some ⟨D, 0, none⟩) n n) ∧ VRow (fun x : BV => Value.int .u32 (x.toNat : Int)) 53 D sr w
theorem BSt.on {n D Pe Ps : Nat} {sr : List BV} {e : Edg} {w w' : World} (h : BSt n D Pe Ps sr e w) (hb : Below w.heap.size w w') : BSt n D Pe Ps sr e w' := by
  obtain ⟨⟨h1, h2⟩, h3, h4⟩ := h
  exact ⟨⟨(hb.cell (World.block_lt_of_cell? w _ h1)).trans h1, (hb.cell (World.block_lt_of_cell? w _ h2)).trans h2⟩, (hb.cell (World.block_lt_of_cell? w _ h3)).trans h3, (hb.block _ h4.lt).trans h4⟩

set_option maxHeartbeats 3200000 in
theorem bareIn_any (n D Pe Ps : Nat) (sr : List BV) (e o : Edg) (w : World) (h : BSt n D Pe Ps sr e w) (hn : n ≤ 20) (hsr : sr.length = n) (he : 0 ≤ e.2 ∧ e.2 < (n : Int)) (ho : 0 ≤ o.2 ∧ o.2 < (n : Int)) :
    Calls Try.prog 36 #[.agg #[.int .i64 o.1, .int .i64 o.2], .pointer (some ⟨Pe, 0, none⟩), .pointer (some ⟨Ps, 0, none⟩)] w fun r w' => r = .returned (.bool (likeB sr e o)) ∧ Below w.heap.size w w' := by
  obtain ⟨ef, et⟩ := e
  obtain ⟨f1, t1⟩ := o
  simp only at he ho h ⊢
  obtain ⟨a', rfl⟩ : ∃ m : Nat, et = (m : Int) := ⟨et.toNat, by omega⟩
  obtain ⟨b', rfl⟩ : ∃ m : Nat, t1 = (m : Int) := ⟨t1.toNat, by omega⟩
  have hb0 : Below w.heap.size w (w.alloc (.cells #[.int .i64 f1, .int .i64 (b' : Int)] 36)) := (Below.refl _ _).alloc (Nat.le_refl _) _
  obtain ⟨⟨x0, x1⟩, x2, x3⟩ := h.on hb0
  obtain ⟨x4, -⟩ := x3.at (m := a') (by omega) 0
  (try dsimp only at x4)
  obtain ⟨z0, z1, -⟩ := row2 (MapKept.heap_alloc w (.cells #[.int .i64 f1, .int .i64 (b' : Int)] 36)).1
  have HB := hide' hb0
  have HQ : Hid (∀ wx, Calls Try.prog 26 #[.int .u32 ((sr.getD a' 0).toNat : Int), .int .i64 (b' : Int)] wx fun e w' => e = .returned (.bool ((sr.getD a' 0).getLsbD b')) ∧ wx = w') := fun wx => has_any _ b' (by omega) wx
  have HL : Hid (likeB sr (ef, (a' : Int)) (f1, (b' : Int)) = (decide (f1 = ef) && (sr.getD a' 0).getLsbD b')) := by simp [likeB, Hid]
  have i0 : (0 : Int) ≤ (a' : Int) := by omega
  have i1 : (a' : Int) < (n : Int) := by omega
  clear hb0 h x3 he ho
  generalize sr.getD a' 0 = bv at *
  generalize bv.getLsbD b' = bb at *
  by_cases hc : f1 = ef
  · subst hc
    have HF : Hid (likeB sr (f1, (a' : Int)) (f1, (b' : Int)) = bb) := by show _ = _; rw [HL.out]; simp
    clear HL
    go_enter Try.func36, Try.ntmps36
    go_wp2_with fail
    generalize w.alloc (.cells #[.int .i64 f1, .int .i64 (b' : Int)] 36) = W at *
    go_quiet ((go_at_call 26; exact quiet_same (HQ.out _)))
    go_wp2
    go_ret
    exact ⟨ret_bool HF.out.symm, below_drewN HB.out _⟩
  · have hc' : (f1 == ef) = false := by simpa using hc
    have HF : Hid (likeB sr (ef, (a' : Int)) (f1, (b' : Int)) = false) := by show _ = _; rw [HL.out]; simp [hc]
    clear HL hc
    go_enter Try.func36, Try.ntmps36
    go_wp2_with fail
    generalize w.alloc (.cells #[.int .i64 f1, .int .i64 (b' : Int)] 36) = W at *
    go_quiet ((go_at_call 26; exact quiet_same (HQ.out _)))
    go_wp2
    go_ret
    exact ⟨ret_bool HF.out.symm, below_drewN HB.out _⟩

set_option maxHeartbeats 3200000 in
set_option maxRecDepth 100000 in
theorem indexFunc_any (N n D Pe Ps : Nat) (x : Value) (E : List Edg) (sr : List BV) (e : Edg) (w : World) (hx : ESeg (fun b => b < N) w x E) (hN : N ≤ w.heap.size) (h : BSt n D Pe Ps sr e w) (hn : n ≤ 20) (hsr : sr.length = n) (he : 0 ≤ e.2 ∧ e.2 < (n : Int)) (hE : InG n E) :
    Calls Try.prog 49 #[x, .func (.func 36) #[] #[.pointer (some ⟨Pe, 0, none⟩), .pointer (some ⟨Ps, 0, none⟩)]] w fun r w' => ∃ k, r = .returned (.int .i64 k) ∧ Hid (decide (0 ≤ k) = E.any (likeB sr e)) ∧ Below w.heap.size w w' := by
  have HX : Hid (∀ wx, Below w.heap.size w wx → ESeg (fun b => b < N) wx x E) := fun wx hb => hx.agree (agree_below (hb.mono hN))
  have HI : Hid (∀ j (hj : j < E.length) wx, Below w.heap.size w wx → Calls Try.prog 36 #[.agg #[.int .i64 E[j].1, .int .i64 E[j].2], .pointer (some ⟨Pe, 0, none⟩), .pointer (some ⟨Ps, 0, none⟩)] wx fun r w' => r = .returned (.bool (likeB sr e E[j])) ∧ Below wx.heap.size wx w') := fun j hj wx hb => bareIn_any n D Pe Ps sr e E[j] wx (h.on hb) hn hsr he (hE _ (List.getElem_mem hj)).2.2
  obtain ⟨a, cap, rfl, hlc, hcm, -, -⟩ := hx
  unfold maxLen at hcm
  clear h hE
  go_enter Try.func49, Try.ntmps49
  go_wp2
  go_loopw [8] (fun i wr => ∃ k : Nat, i = .int .i64 k ∧ k ≤ E.length ∧ Hid (Below w.heap.size w wr) ∧ Hid (∀ j (h : j < E.length), j < k → likeB sr e E[j] = false)) (fun i _ => E.length - (intOf i).toNat)
  case atStart => exact ⟨0, rfl, Nat.zero_le _, Below.refl _ _, fun j h h' => by omega⟩
  case round =>
    obtain ⟨k, rfl, hk, hbel, hno⟩ := hrel
    by_cases hlt : k < E.length
    · have hlt' : (k : Int) < (E.length : Int) := by omega
      obtain ⟨b, off, rfl, _, q0, q1⟩ := (HX.out wr hbel.out).at hlt
      have HC := hide' (HI.out k hlt wr hbel.out)
      cases hc : likeB sr e E[k] with
      | true =>
        have HF : Hid (decide (0 ≤ (k : Int)) = E.any (likeB sr e)) := by
          show _ = _
          have h1 : E.any (likeB sr e) = true := List.any_eq_true.2 ⟨E[k], List.getElem_mem hlt, hc⟩
          rw [h1]
          simp
        rw [hc] at HC
        clear hno hc HI
        generalize E[k].1 = ef at *
        generalize E[k].2 = et at *
        go_wp2_with fail
        refine HC.out.mono ?_
        rintro e w2 ⟨rfl, b2⟩
        have B2 := hide' (Below.on hbel.out b2)
        clear b2
        go_wp2
        go_ret
        exact ⟨_, rfl, HF, B2.out⟩
      | false =>
        have HF : Hid (∀ j (h : j < E.length), j < k + 1 → likeB sr e E[j] = false) := fun j h h' => by
          by_cases c : j = k
          · subst c; exact hc
          · exact hno.out j h (by omega)
        rw [hc] at HC
        clear hno hc HI
        generalize E[k].1 = ef at *
        generalize E[k].2 = et at *
        go_wp2_with fail
        refine HC.out.mono ?_
        rintro e w2 ⟨rfl, b2⟩
        have B2 := hide' (Below.on hbel.out b2)
        clear b2
        go_wp2
        go_roundw
        case rel => exact ⟨k + 1, by go_num, by omega, B2, HF⟩
        case measure => simp [intOf]; omega
    · have hlt' : ¬ (k : Int) < (E.length : Int) := by omega
      have HF : Hid (decide (0 ≤ (-1 : Int)) = E.any (likeB sr e)) := by
        show _ = _
        have h1 : E.any (likeB sr e) = false := by
          rw [List.any_eq_false]
          intro o ho
          obtain ⟨i, hi, rfl⟩ := List.getElem_of_mem ho
          rw [hno.out i hi (by omega)]
          simp
        rw [h1]
        rfl
      go_wp2
      go_ret
      exact ⟨_, rfl, HF, hbel.out⟩

set_option maxHeartbeats 1600000 in
theorem containsFunc_any (N n D Pe Ps : Nat) (x : Value) (E : List Edg) (sr : List BV) (e : Edg) (w : World) (hx : ESeg (fun b => b < N) w x E) (hN : N ≤ w.heap.size) (h : BSt n D Pe Ps sr e w) (hn : n ≤ 20) (hsr : sr.length = n) (he : 0 ≤ e.2 ∧ e.2 < (n : Int)) (hE : InG n E) :
    Calls Try.prog 35 #[x, .func (.func 36) #[] #[.pointer (some ⟨Pe, 0, none⟩), .pointer (some ⟨Ps, 0, none⟩)]] w fun r w' => r = .returned (.bool (E.any (likeB sr e))) ∧ Below w.heap.size w w' := by
  have HI := hide' (indexFunc_any N n D Pe Ps x E sr e w hx hN h hn hsr he hE)
  obtain ⟨a, cap, rfl, -⟩ := hx
  clear h
  generalize E.length = ll at *
  go_enter Try.func35, Try.ntmps35
  go_wp2_with fail
  refine HI.out.mono ?_
  rintro e w1 ⟨r, rfl, hr, b1⟩
  have B1 := hide' b1
  clear HI b1
  by_cases h0 : 0 ≤ r
  · go_wp2
    go_ret
    exact ⟨ret_bool (by have := hr.out; rw [← this]; try simp [h0]), B1.out⟩
  · go_wp2
    go_ret
    exact ⟨ret_bool (by have := hr.out; rw [← this]; try (simp <;> omega)), B1.out⟩

set_option maxHeartbeats 1600000 in
theorem bareWants_any (N n D Pg Ps : Nat) (x : Value) (E : List Edg) (e : Edg) (w : World) (hx : ESeg (fun b => b < N) w x E) (hN : N ≤ w.heap.size) (hg : w.cell? ⟨Pg, 1, none⟩ = some x) (hs : w.cell? ⟨Ps, 0, none⟩ = some (.slice (some ⟨D, 0, none⟩) n n)) (hrow : VRow (fun x : BV => Value.int .u32 (x.toNat : Int)) 53 D (srcF n E) w) (hn : n ≤ 20) (he : 0 ≤ e.2 ∧ e.2 < (n : Int)) (hE : InG n E) :
    Calls Try.prog 34 #[.agg #[.int .i64 e.1, .int .i64 e.2], .pointer (some ⟨Pg, 0, none⟩), .pointer (some ⟨Ps, 0, none⟩)] w fun r w' => r = .returned (.bool (!spareB n E e)) ∧ Below w.heap.size w w' := by
  have hb0 : Below w.heap.size w (w.alloc (.cells #[.int .i64 e.1, .int .i64 e.2] 36)) := (Below.refl _ _).alloc (Nat.le_refl _) _
  obtain ⟨z0, z1, -⟩ := row2 (MapKept.heap_alloc w (.cells #[.int .i64 e.1, .int .i64 e.2] 36)).1
  have hgo := (hb0.cell (World.block_lt_of_cell? w _ hg)).trans hg
  have hso := (hb0.cell (World.block_lt_of_cell? w _ hs)).trans hs
  have HC := hide' (containsFunc_any N n D w.heap.size Ps x E (srcF n E) e (w.alloc (.cells #[.int .i64 e.1, .int .i64 e.2] 36)) (hx.agree (agree_below (hb0.mono hN))) (by have := hb0.size; omega) ⟨⟨z0, z1⟩, hso, (hb0.block _ hrow.lt).trans hrow⟩ hn (srcF_len n E) he hE)
  have HS : Hid (spareB n E e = E.any (likeB (srcF n E) e)) := rfl
  have HB := hide' hb0
  obtain ⟨a, cap, rfl, -⟩ := hx
  clear hb0 hrow hs hso z0 z1 hg
  rw [HS.out]
  generalize E.any (likeB (srcF n E) e) = bb at *
  generalize E.length = ll at *
  go_enter Try.func34, Try.ntmps34
  go_wp2_with fail
  refine HC.out.mono ?_
  rintro r w1 ⟨rfl, b1⟩
  have B1 := hide' (Below.on HB.out b1)
  clear b1 HC
  go_wp2
  go_ret
  exact ⟨rfl, B1.out⟩

set_option maxHeartbeats 6400000 in
set_option maxRecDepth 100000 in
theorem impl_Bare_any (N : Nat) (n : Int) (x : Value) (E : List Edg) (w : World) (hx : ESeg (fun b => b < N) w x E) (hN : N ≤ w.heap.size) :
    Calls Try.prog 16 #[.agg #[.int .i64 n, x]] w (GrEnd (bareN n E) (bareA n E) (ordB n E) w) := by
  have HX : Hid (∀ wx, Below w.heap.size w wx → ESeg (fun b => b < N) wx x E) := fun wx hb => hx.agree (agree_below (hb.mono hN))
  have Hb2 : Hid (∀ o o' : Obj, Below w.heap.size w ((w.alloc o).alloc o')) := fun o o' => ((Below.refl _ _).alloc (Nat.le_refl _) o).alloc (by simp) o'
  have HO : Hid (∀ wx, Below w.heap.size w wx → Calls Try.prog 7 #[.agg #[.int .i64 n, x]] wx fun e w' => ∃ u, e = .returned (.tuple #[u, .bool (ordB n E)]) ∧ NOwn w' wx.heap.size u (ordA n E) ∧ Below wx.heap.size wx w') := fun wx hb => impl_Order_any N n x E wx (HX.out wx hb) (by have := hb.size; omega)
  show Calls _ _ _ _ fun e w' => ∃ u, e = .returned (.tuple #[.agg #[.int .i64 (bareN n E), u], .bool (ordB n E)]) ∧ EOwn w' w.heap.size u (bareA n E) ∧ Below w.heap.size w w'
  cases hb : ordB n E with
  | false =>
    have ha0 : bareA n E = [] := by simp [bareA, hb]
    have hn0 : bareN n E = 0 := by simp [bareN, hb]
    rw [ha0, hn0]
    rw [hb] at HO
    obtain ⟨a, cap, rfl, -⟩ := hx
    clear hb ha0 hn0 HX
    generalize E.length = ll at *
    go_enter Try.func16, Try.ntmps16
    go_wp2_with fail
    refine (HO.out _ (Hb2.out _ _)).mono ?_
    rintro e w1 ⟨u, rfl, -, b1⟩
    obtain ⟨h1, h2, h3, h4⟩ := two_after b1
    obtain ⟨t0, t1, tf⟩ := row2 h2
    have tf0 := tf 0
    have tf1 := tf 1
    have hrow := row2 (set2_heap (j := 0) (.int .i64 0) (.slice none 0 0) h2)
    simp only [set2, Nat.zero_add] at hrow
    have Hrow := hide' hrow
    have hgr := set2_grown w1 (w.heap.size + 1) 0 (.int .i64 0) (.slice none 0 0)
    have HB := hide' (h3.grown hgr (by omega) (by intro k hk; simp at hk; omega))
    clear b1 h1 h2 tf hrow hgr
    go_wp2_with fail
    obtain ⟨u0, u1, _⟩ := Hrow.out
    refine bodyPost_ret (v := .tuple #[.agg #[.int .i64 0, .slice none 0 0], .bool false]) (by simp [results, Try.results16, go_sem, u0, u1]) rfl ?_
    exact ⟨_, rfl, EOwn.nil _ _, HB.out⟩
  | true =>
    have hg : gB n E = true := by
      unfold ordB at hb
      rw [Bool.and_eq_true] at hb
      exact hb.1
    obtain ⟨c0, c1, c2, _⟩ := gB_iff.1 hg
    obtain ⟨m, rfl⟩ : ∃ m : Nat, n = (m : Int) := ⟨n.toNat, by omega⟩
    have hm20 : m ≤ 20 := by omega
    have HA : Hid (bareA (m : Int) E = E.filter fun e => !spareB m E e) := by
      show _ = _
      have := keep_bare hg hb
      unfold keepF at this
      rw [this]
      simp [bareA, hb]
    have hn0 : bareN (m : Int) E = (m : Int) := by simp [bareN, hb]
    have HSr : Hid (∀ wx, Below w.heap.size w wx → Calls Try.prog 25 #[.agg #[.int .i64 (m : Int), x]] wx fun e w' => ∃ D, e = .returned (.slice (some ⟨D, 0, none⟩) m m) ∧ wx.heap.size ≤ D ∧ VRow (fun x : BV => Value.int .u32 (x.toNat : Int)) 53 D (srcF m E) w' ∧ Below wx.heap.size wx w') := fun wx hb => sourcesOf_any N m x E wx (HX.out wx hb) (by have := hb.size; omega) hm20 (g_in hg)
    have HWe : Hid (∀ D Ps wx, Below w.heap.size w wx → wx.cell? ⟨w.heap.size, 1, none⟩ = some x → wx.cell? ⟨Ps, 0, none⟩ = some (.slice (some ⟨D, 0, none⟩) m m) → VRow (fun x : BV => Value.int .u32 (x.toNat : Int)) 53 D (srcF m E) wx → Calls Try.prog 33 #[.agg #[.int .i64 (m : Int), x], .func (.func 34) #[] #[.pointer (some ⟨w.heap.size, 0, none⟩), .pointer (some ⟨Ps, 0, none⟩)]] wx fun e w' => ∃ u, e = .returned (.agg #[.int .i64 (m : Int), u]) ∧ EOwn w' wx.heap.size u (E.filter fun e => !spareB m E e) ∧ Below wx.heap.size wx w') := fun D Ps wx hb h1 h2 h3 =>
      withEdgesB_any N (m : Int) x _ _ E _ wx (HX.out wx hb) (by have := hb.size; omega) c2 (fun j hj wy hb2 => bareWants_any N m D w.heap.size Ps x E E[j] wy (HX.out wy (Below.on hb hb2)) (by have := (Below.on hb hb2).size; omega) ((hb2.cell (World.block_lt_of_cell? wx _ h1)).trans h1) ((hb2.cell (World.block_lt_of_cell? wx _ h2)).trans h2) ((hb2.block _ h3.lt).trans h3) hm20 (g_in hg E[j] (List.getElem_mem hj)).2.2 (g_in hg))
    rw [hn0]
    rw [hb] at HO
    obtain ⟨a, cap, rfl, -⟩ := hx
    clear hb hg c0 c1 c2 hn0 HX
    generalize srcF m E = sr at *
    generalize (E.filter fun e => !spareB m E e) = KL at *
    generalize E.length = ll at *
    go_enter Try.func16, Try.ntmps16
    go_wp2_with fail
    refine (HO.out _ (Hb2.out _ _)).mono ?_
    rintro e w1 ⟨u, rfl, -, b1⟩
    obtain ⟨h1, h2, h3, h4⟩ := two_after b1
    obtain ⟨g0, g1, -⟩ := row2 h1
    have H1 := hide' h1
    have H2 := hide' h2
    have B3 := hide' h3
    have HS1 := hide' (HSr.out w1 h3)
    clear b1 h1 h2 h3 HSr HO
    go_wp2_with fail
    refine HS1.out.mono ?_
    rintro e w2 ⟨D, rfl, hD, hrow, b2⟩
    have hz2 := b2.size
    have bA : Below w2.heap.size w2 (w2.alloc (.cells #[.slice (some ⟨D, 0, none⟩) m m] 50)) := (Below.refl _ _).alloc (Nat.le_refl _) _
    have b2A := Below.on b2 bA
    have k1 := (b2A.block _ (by omega)).trans H1.out
    have k2 := (b2A.block (w.heap.size + 1) (by omega)).trans H2.out
    obtain ⟨y0, y1, -⟩ := row2 k1
    obtain ⟨s0, -⟩ := row1 (MapKept.heap_alloc w2 (.cells #[.slice (some ⟨D, 0, none⟩) m m] 50)).1
    have HW2 := hide' (HWe.out D w2.heap.size _ (Below.on B3.out b2A) y1 s0 ((bA.block _ hrow.lt).trans hrow))
    have K2 := hide' k2
    have B4 := hide' (Below.on B3.out b2A)
    have hzA : w.heap.size + 3 ≤ (w2.alloc (.cells #[.slice (some ⟨D, 0, none⟩) m m] 50)).heap.size := by simp; omega
    clear HS1 hrow b2 bA b2A k1 k2 HWe s0 H1 H2 B3 g0 g1 hD
    go_wp2_with fail
    generalize w2.alloc (.cells #[.slice (some ⟨D, 0, none⟩) m m] 50) = w3 at *
    refine HW2.out.mono ?_
    rintro e w4 ⟨u, rfl, hO, b4⟩
    have h2 := (b4.block (w.heap.size + 1) (by omega)).trans K2.out
    obtain ⟨ua, uc, rfl⟩ := hO.form
    obtain ⟨t0, t1, tf⟩ := row2 h2
    have tf0 := tf 0
    have tf1 := tf 1
    have hrow := row2 (set2_heap (j := 0) (.int .i64 (m : Int)) (.slice ua KL.length uc) h2)
    simp only [set2, Nat.zero_add] at hrow
    have Hrow := hide' hrow
    have hgr := set2_grown w4 (w.heap.size + 1) 0 (.int .i64 (m : Int)) (.slice ua KL.length uc)
    have hz := b4.size
    have HB := hide' ((Below.on B4.out b4).grown hgr (by omega) (by intro k hk; simp at hk; omega))
    have HOo := hide' ((hO.far hgr (fun q hq => by have := (hO.lt q hq).1; simp; omega)).down (base' := w.heap.size) (by omega))
    clear hO b4 h2 tf hrow hgr HW2 K2 B4
    generalize hfn : KL.length = fn at *
    go_wp2_with fail
    obtain ⟨u0, u1, _⟩ := Hrow.out
    refine bodyPost_ret (v := .tuple #[.agg #[.int .i64 (m : Int), .slice ua fn uc], .bool true]) (by simp [results, Try.results16, go_sem, u0, u1]) rfl ?_
    exact ⟨_, rfl, by rw [HA.out]; exact HOo.out, HB.out⟩
end Go.Proofs.Ytcdonbepfmhdpaa
