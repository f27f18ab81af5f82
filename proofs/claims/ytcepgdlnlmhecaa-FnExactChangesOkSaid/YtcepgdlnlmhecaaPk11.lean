/-
  Texts that a law leans on, one behind the other; no statement is proved here.
-/
import Derived.Test.YtcepgdlnlmhecaaPk10
import Derived.BigQuiet
/-
  editsOf, ChangesOk of the program.
-/
namespace Go.Proofs.Ytcepgdlnlmhecaa
open Go.RowKit
set_option linter.unusedVariables false
set_option linter.unusedSimpArgs false

theorem infoEd : (Try.prog.info? 67).map (fun i => (i.zero, i.size, i.bytes)) = some (some (.agg #[.slice none 0 0, .nilIface, .nilIface]), 3, 56) := by kernel_rfl
theorem IsIf.cells {p : Value} (h : IsIf p) : p.cells = #[p] := by
  rcases h with rfl | ⟨t, x, rfl⟩ <;> rfl
theorem IsIf.one {p : Value} (h : IsIf p) : p.oneCell' = true := by
  rcases h with rfl | ⟨t, x, rfl⟩ <;> rfl
theorem below_dN {B : Nat} {w W : World} (h : Below B w W) (n : Nat) : Below B w (W.drewN n) := ⟨h.os, h.tape, h.output, h.size, h.block⟩

def EdsEnd (ans : Bool) (w : World) (e : Ending) (w' : World) : Prop := ∃ va vn vc, e = .returned (.tuple #[.slice va vn vc, .bool ans]) ∧ Below w.heap.size w w'
theorem EdsEnd.mk {ans b : Bool} (h : ans = b) {w w' : World} (va : Option Addr) (vn vc : Nat) (hb : Below w.heap.size w w') : EdsEnd ans w (.returned (.tuple #[.slice va vn vc, .bool b])) w' := ⟨va, vn, vc, by rw [h], hb⟩

set_option maxHeartbeats 12800000 in
set_option maxRecDepth 100000 in
theorem editsOf_any (d N : Nat) (a : Option Addr) (cap : Nat) (l : List (Chg d)) (w : World) (hx : CLSg (fun b => b < N) w d (.slice a l.length cap) l) (hN : N ≤ w.heap.size) (hln : l.length ≤ 1048576) :
    Calls Try.prog 16 #[.slice a l.length cap] w (EdsEnd (chB d l) w) := by
  obtain ⟨i0, hi0, hz0, hz1, hz2⟩ := info_parts infoEd
  have HX := hide' hx
  clear hx
  by_cases hlong : 80 < l.length
  · have HF := hide' (chB_long hlong)
    have h' : (80 : Int) < (l.length : Int) := by omega
    generalize chB d l = ans at *
    go_enter Try.func16, Try.ntmps16
    go_wp2
    go_ret2
    exact EdsEnd.mk HF.out none 0 0 (Below.refl _ _)
  have hshort : l.length ≤ 80 := by omega
  have h' : ¬ (80 : Int) < (l.length : Int) := by omega
  have HYes : Hid (FstC d l l.length → chB d l = true) := fun h => chB_yes hshort h
  have HBad : Hid (∀ k (hk : k < l.length), okC d l[k] = false → chB d l = false) := fun k hk h => chB_bad hk h
  have HNear : Hid (∀ k (hk : k < l.length), 0 < k → apB (l[k - 1]'(by omega)).1 l[k].1 = false → chB d l = false) := fun k hk h0 h => chB_near hk h0 h
  generalize chB d l = ans at *
  go_enter Try.func16, Try.ntmps16
  go_wp2
  go_loopw [4, 14] (fun x i wr => ∃ k : Nat, k ≤ l.length ∧ i = .int .i64 k ∧ Hid (FstC d l k) ∧ Hid (∃ xs, wr.ownsRow w.heap.size 67 3 x k xs ∧ Below w.heap.size w wr)) (fun _ i _ => l.length - (intOf i).toNat)
  case atStart => exact ⟨0, Nat.zero_le _, rfl, fstC_zero d l, [], World.ownsRow_nil _ _ _ _, Below.refl _ _⟩
  case round =>
    obtain ⟨k, hk, rfl, hFst, hR⟩ := hrel
    obtain ⟨xs, hrow, hbel⟩ := hR.out
    obtain ⟨xa, xc, rfl⟩ : ∃ a c, u4 = .slice a k c := by
      rcases hrow.2 with ⟨rfl, rfl⟩ | ⟨g, cap, cur, rfl, _⟩
      · exact ⟨_, _, rfl⟩
      · exact ⟨_, _, rfl⟩
    by_cases hlt : k < l.length
    · have hlt' : (k : Int) < (l.length : Int) := by omega
      have hsz := hbel.size
      have HL : Hid (∀ wx, Below w.heap.size w wx → CLSg (fun b => b < N) wx d (.slice a l.length cap) l) := fun wx hb => HX.out.agree (agree_below (hb.mono hN))
      obtain ⟨b, off, rfl, hbN, hat⟩ := (HL.out wr hbel).at hlt
      obtain ⟨cs, hr, hs⟩ := hat k hlt
      have HEd : Hid (∀ wx, Below wr.heap.size wr wx → Calls Try.prog 27 #[.agg cs.toArray] wx (EdEnd d l[k] wx)) := fun wx hb => editOf_any d N cs l[k] wx (hs.agree (agree_below (hb.mono (by omega)))) (by have := hb.size; omega)
      have HAp : Hid (0 < k → okC d l[k] = true → ∃ qa ql qc, (∀ wx, Below wr.heap.size wr wx → wx.cell? ⟨b, off + (k - 1) * 13, none⟩ = some (.slice qa ql qc)) ∧ ∀ pa pl pc, cs[0]? = some (.slice pa pl pc) → ∀ wx, Below wr.heap.size wr wx → Calls Try.prog 28 #[.slice qa ql qc, .slice pa pl pc] wx fun e w' => e = .returned (.bool (apB (l[k - 1]'(by omega)).1 l[k].1)) ∧ Below wx.heap.size wx w') := fun h0 hok => by
        obtain ⟨ds, hr', hs'⟩ := hat (k - 1) (by omega)
        have ok' := (hFst.out (k - 1) (by omega) (by omega)).1
        obtain ⟨e0, e2, e3, e4, e5, e6, e8, e9, e10, e11, e12, rfl, hp', _⟩ := hs'
        obtain ⟨c0, c2, c3, c4, c5, c6, c8, c9, c10, c11, c12, rfl, hp, _⟩ := hs
        obtain ⟨qa, qc, rfl⟩ := hp'.sl
        have pk : ∀ y : Chg d, okC d y = true → pathB y.1 = true := fun y hy => by unfold okC at hy; simp only [Bool.and_eq_true] at hy; exact hy.1
        refine ⟨qa, (l[k - 1]'(by omega)).1.length, qc, fun wx hb => ?_, fun pa pl pc e wx hb => ?_⟩
        · have := hr' 0 _ rfl
          exact (World.cell?_of_block (hb.block b (by omega))).trans this
        · simp only [List.getElem?_cons_zero, Option.some.injEq] at e
          subst e
          exact apart_any N _ _ _ _ _ _ _ _ wx (hp'.agree (agree_below (hb.mono (by omega)))) (hp.agree (agree_below (hb.mono (by omega)))) (by have := hb.size; omega) (pk _ ok') (pk _ hok)
      unfold EdEnd at HEd
      have HFn : Hid (okC d l[k] = true → (0 < k → apB (l[k - 1]'(by omega)).1 l[k].1 = true) → FstC d l (k + 1)) := fun h1 h2 => fstC_next hFst.out hlt h1 h2
      have HBd := hide' (HBad.out k hlt)
      have HNr := hide' (HNear.out k hlt)
      have hform := hs.form
      obtain ⟨pa, pc, ok, on, o2, ol2, op2, o3, ol3, op3, o4, ol4, op4, nk, nn, n2, nl2, np2, n3, nl3, np3, n4, nl4, np4, rfl, -⟩ := hform
      generalize (l[k]).1.length = pl at *
      generalize (l[k]).2.1 = bd at *
      generalize (l[k]).2.2.2.1 = bh at *
      generalize okC d l[k] = okb at *
      have HA : Hid (Below wr.heap.size wr (wr.alloc (.cells #[.slice pa pl pc, .bool bd, .int .i64 ok, .int .i64 on, .slice o2 ol2 op2, .slice o3 ol3 op3, .slice o4 ol4 op4, .bool bh, .int .i64 nk, .int .i64 nn, .slice n2 nl2 np2, .slice n3 nl3 np3, .slice n4 nl4 np4] 43))) := (Below.refl _ _).alloc (Nat.le_refl _) _
      have HBox : Hid (∀ w2, Below (wr.alloc (.cells #[.slice pa pl pc, .bool bd, .int .i64 ok, .int .i64 on, .slice o2 ol2 op2, .slice o3 ol3 op3, .slice o4 ol4 op4, .bool bh, .int .i64 nk, .int .i64 nn, .slice n2 nl2 np2, .slice n3 nl3 np3, .slice n4 nl4 np4] 43)).heap.size (wr.alloc (.cells #[.slice pa pl pc, .bool bd, .int .i64 ok, .int .i64 on, .slice o2 ol2 op2, .slice o3 ol3 op3, .slice o4 ol4 op4, .bool bh, .int .i64 nk, .int .i64 nn, .slice n2 nl2 np2, .slice n3 nl3 np3, .slice n4 nl4 np4] 43)) w2 → w2.heap[wr.heap.size]? = some (.cells #[.slice pa pl pc, .bool bd, .int .i64 ok, .int .i64 on, .slice o2 ol2 op2, .slice o3 ol3 op3, .slice o4 ol4 op4, .bool bh, .int .i64 nk, .int .i64 nn, .slice n2 nl2 np2, .slice n3 nl3 np3, .slice n4 nl4 np4] 43 (0, 0))) := fun w2 hb => (hb.block _ (by simp)).trans (MapKept.heap_alloc wr _).1
      have HBel := hide' hbel
      have HRow := hide' hrow
      clear hat hFst hR hrow hbel HL HX HBad HNear
      go_wp2_with (refine wpList_load_mid rfl 43 (.tmp 17) (by rfl) b (off + k * 13) (by rfl) [.slice pa pl pc, .bool bd, .int .i64 ok, .int .i64 on, .slice o2 ol2 op2, .slice o3 ol3 op3, .slice o4 ol4 op4, .bool bh, .int .i64 nk, .int .i64 nn, .slice n2 nl2 np2, .slice n3 nl3 np3, .slice n4 nl4 np4] _ hr Try.underlying43 rfl (by kernel_rfl) ?_)
      refine (HEd.out _ HA.out).mono ?_
      rintro e w2 ⟨_, p1, p2, rfl, ⟨ea, en, ec, rfl⟩, hp1, hp2, b2⟩
      rcases hp1 with rfl | ⟨t1, z1, rfl⟩ <;> rcases hp2 with rfl | ⟨t2, z2, rfl⟩
      · have HOne : Hid (∀ u ∈ [Value.slice ea en ec, .nilIface, .nilIface], u.oneCell' = true) := fun u hu => by
          simp only [List.mem_cons, List.not_mem_nil, or_false] at hu
          rcases hu with rfl | rfl | rfl
          · rfl
          · rfl
          · rfl
        have B2 : Below wr.heap.size wr w2 := Below.on HA.out b2
        have hXr := HBox.out w2 b2
        have hAE : Below w2.heap.size w2 (w2.alloc (.cells #[.slice ea en ec, .nilIface, .nilIface] 67)) := (Below.refl _ _).alloc (Nat.le_refl _) _
        have hE := (MapKept.heap_alloc w2 (.cells #[.slice ea en ec, .nilIface, .nilIface] 67)).1
        have hX2 := (hAE.block wr.heap.size (Array.getElem?_eq_some_iff.1 hXr).1).trans hXr
        obtain ⟨y0, y1, y2, -⟩ := row3 hE
        have x0 : (w2.alloc (.cells #[.slice ea en ec, .nilIface, .nilIface] 67)).cell? ⟨wr.heap.size, 0, none⟩ = some (.slice pa pl pc) := by rw [cell_of_row _ _ 0 _ _ _ hX2]; rfl
        have HB2 : Hid (Below wr.heap.size wr (w2.alloc (.cells #[.slice ea en ec, .nilIface, .nilIface] 67))) := Below.on B2 hAE
        have HBw : Hid (Below w.heap.size w (w2.alloc (.cells #[.slice ea en ec, .nilIface, .nilIface] 67))) := Below.on HBel.out HB2.out
        have hRw : Hid ((w2.alloc (.cells #[.slice ea en ec, .nilIface, .nilIface] 67)).ownsRow w.heap.size 67 3 (.slice xa k xc) k xs) := row_on HRow.out HB2.out
        have HE := hide' hE
        have hbW : b < (w2.alloc (.cells #[.slice ea en ec, .nilIface, .nilIface] 67)).heap.size := by have := HB2.out.size; omega
        have hxW : wr.heap.size < (w2.alloc (.cells #[.slice ea en ec, .nilIface, .nilIface] 67)).heap.size := (Array.getElem?_eq_some_iff.1 hX2).1
        clear hX2 hAE hXr B2 b2 HBox HEd hr HA HRow HBel hE
        go_wp2_with fail
        generalize w2.alloc (.cells #[.slice ea en ec, .nilIface, .nilIface] 67) = W at *
        generalize w2.heap.size = eb at *
        generalize wr.heap.size = xb at *
        cases okb with
        | false =>
          have HF := hide' (HBd.out rfl)
          go_quiet (fail)
          go_wp2
          go_ret2
          exact EdsEnd.mk HF.out none 0 0 (below_dN HBw.out _)
        | true =>
          by_cases h0 : 0 < k
          · have h0' : (0 : Int) < (k : Int) := by omega
            obtain ⟨qa, ql, qc, hq0, hqa⟩ := HAp.out h0 rfl
            have q0 := hq0 W HB2.out
            obtain ⟨j, ej⟩ : ∃ j, j = k - 1 := ⟨_, rfl⟩
            rw [← ej] at q0
            have hwk : IntKind.i64.wrap ((k : Int) - 1) = (j : Int) := by rw [IntKind.wrap_i64]; omega
            have hwj : IntKind.i64.wrap (j : Int) = (j : Int) := by rw [IntKind.wrap_i64]; omega
            have hj3 : (0 : Int) ≤ (j : Int) := by omega
            have hj1 : (j : Int) < (l.length : Int) := by omega
            have HSn : Hid (∀ w4, Below W.drew.heap.size W.drew w4 → w4.cell? ⟨b, off + j * 13, none⟩ = some (.slice qa ql qc) ∧ w4.cell? ⟨xb, 0, none⟩ = some (.slice pa pl pc)) := fun w4 hb => ⟨(World.cell?_of_block (a := ⟨b, off + j * 13, none⟩) (hb.block b (by show b < W.heap.size; omega))).trans q0, (World.cell?_of_block (a := ⟨xb, 0, none⟩) (hb.block xb (by show xb < W.heap.size; omega))).trans x0⟩
            have HQa := hide' (hqa pa pl pc rfl W.drew HB2.out.drew)
            have HNr' := hide' (HNr.out h0)
            have HFn' := hide' (HFn.out rfl)
            clear hqa hq0 HAp HNr HFn HBd ej
            generalize apB (l[k - 1]'(by omega)).1 l[k].1 = ab at *
            have HAdd : Hid (∀ w5 w6 xs' v, w5.ownsRow w.heap.size 67 3 (.slice xa k xc) k xs → Below w.heap.size w w5 → w6.ownsRow w.heap.size 67 3 v (k + 1) xs' → w5.grownBy w6 (Value.slice xa k xc).ownBlock → ∃ ys, w6.ownsRow w.heap.size 67 3 v (k + 1) ys ∧ Below w.heap.size w w6) := fun w5 w6 xs' v h1 h2 h3 h4 => ⟨_, h3, h2.grown h4 h2.size (fun j hj => (h1.lt j hj).1)⟩
            refine wp_region_held_drew (S := fun w' => w'.cell? ⟨b, off + j * 13, none⟩ = some (.slice qa ql qc) ∧ w'.cell? ⟨xb, 0, none⟩ = some (.slice pa pl pc)) (by kernel_rfl) ⟨q0, x0⟩ (fun hHeld => ?_)
            refine take_yes (i := 0) 24 (v := ?_) rfl rfl (by kernel_rfl) (by kernel_rfl) (by kernel_rfl) (fun _ _ _ h => h) (by kernel_rfl) hHeld ?_ ?_
            rotate_left
            focus (intro w hSw; (try dsimp only at hSw); go_simp; (try with_reducible rfl))
            simp only [Act.put, List.setIfInBounds_toArray, List.set_cons_zero, List.set_cons_succ]
            refine take_yes (i := 1) 25 (v := ?_) rfl rfl (by kernel_rfl) (by kernel_rfl) (by kernel_rfl) (fun _ _ _ h => h) (by kernel_rfl) hHeld ?_ ?_
            rotate_left
            focus (intro w hSw; (try dsimp only at hSw); go_simp; (try with_reducible rfl))
            simp only [Act.put, List.setIfInBounds_toArray, List.set_cons_zero, List.set_cons_succ]
            refine take_yes (i := 2) 26 (v := ?_) rfl rfl (by kernel_rfl) (by kernel_rfl) (by kernel_rfl) (fun _ _ _ h => h) (by kernel_rfl) hHeld ?_ ?_
            rotate_left
            focus (intro w hSw; (try dsimp only at hSw); go_simp; (try with_reducible rfl))
            simp only [Act.put, List.setIfInBounds_toArray, List.set_cons_zero, List.set_cons_succ]
            refine take_yes (i := 3) 27 (v := ?_) rfl rfl (by kernel_rfl) (by kernel_rfl) (by kernel_rfl) (fun _ _ _ h => h) (by kernel_rfl) hHeld ?_ ?_
            rotate_left
            focus (intro w hSw; (try dsimp only at hSw); go_simp; (try with_reducible rfl))
            simp only [Act.put, List.setIfInBounds_toArray, List.set_cons_zero, List.set_cons_succ]
            refine take_yes (i := 4) 28 (v := ?_) rfl rfl (by kernel_rfl) (by kernel_rfl) (by kernel_rfl) (fun _ _ _ h => h) (by kernel_rfl) hHeld ?_ ?_
            rotate_left
            focus (intro w hSw; (try dsimp only at hSw); go_simp; (try with_reducible rfl))
            simp only [Act.put, List.setIfInBounds_toArray, List.set_cons_zero, List.set_cons_succ]
            refine take_yes (i := 5) 29 (v := ?_) rfl rfl (by kernel_rfl) (by kernel_rfl) (by kernel_rfl) (fun _ _ _ h => h) (by kernel_rfl) hHeld ?_ ?_
            rotate_left
            focus (intro w hSw; (try dsimp only at hSw); go_simp; (try with_reducible rfl))
            simp only [Act.put, List.setIfInBounds_toArray, List.set_cons_zero, List.set_cons_succ]
            refine take_yes (i := 6) 30 (v := ?_) rfl rfl (by kernel_rfl) (by kernel_rfl) (by kernel_rfl) (fun _ _ _ h => h) (by kernel_rfl) hHeld ?_ ?_
            rotate_left
            focus (intro w hSw; (try dsimp only at hSw); go_simp; (try with_reducible rfl))
            simp only [Act.put, List.setIfInBounds_toArray, List.set_cons_zero, List.set_cons_succ]
            refine take_yes (i := 7) 31 (v := ?_) rfl rfl (by kernel_rfl) (by kernel_rfl) (by kernel_rfl) (fun _ _ _ h => h) (by kernel_rfl) hHeld ?_ ?_
            rotate_left
            focus (intro w hSw; (try dsimp only at hSw); go_simp; (try with_reducible rfl))
            simp only [Act.put, List.setIfInBounds_toArray, List.set_cons_zero, List.set_cons_succ]
            refine take_yes (i := 8) 32 (v := ?_) rfl rfl (by kernel_rfl) (by kernel_rfl) (by kernel_rfl) (fun _ _ _ h => h) (by kernel_rfl) hHeld ?_ ?_
            rotate_left
            focus (intro w hSw; (try dsimp only at hSw); go_simp; (try with_reducible rfl))
            simp only [Act.put, List.setIfInBounds_toArray, List.set_cons_zero, List.set_cons_succ]
            refine take_yes (i := 9) 33 (v := ?_) rfl rfl (by kernel_rfl) (by kernel_rfl) (by kernel_rfl) (fun _ _ _ h => h) (by kernel_rfl) hHeld ?_ ?_
            rotate_left
            focus (intro w hSw; (try dsimp only at hSw); go_simp; (try with_reducible rfl))
            simp only [Act.put, List.setIfInBounds_toArray, List.set_cons_zero, List.set_cons_succ]
            refine take_yes (i := 10) 34 (v := ?_) rfl rfl (by kernel_rfl) (by kernel_rfl) (by kernel_rfl) (fun _ _ _ h => h) (by kernel_rfl) hHeld ?_ ?_
            rotate_left
            focus (intro w hSw; (try dsimp only at hSw); go_simp; (try with_reducible rfl))
            simp only [Act.put, List.setIfInBounds_toArray, List.set_cons_zero, List.set_cons_succ]
            refine take_yes (i := 11) 35 (v := ?_) rfl rfl (by kernel_rfl) (by kernel_rfl) (by kernel_rfl) (fun _ _ _ h => h) (by kernel_rfl) hHeld ?_ ?_
            rotate_left
            focus (intro w hSw; (try dsimp only at hSw); go_simp; (try with_reducible rfl))
            simp only [Act.put, List.setIfInBounds_toArray, List.set_cons_zero, List.set_cons_succ]
            refine take_yes (i := 12) 36 (v := ?_) rfl rfl (by kernel_rfl) (by kernel_rfl) (by kernel_rfl) (fun _ _ _ h => h) (by kernel_rfl) hHeld ?_ ?_
            rotate_left
            focus (intro w hSw; (try dsimp only at hSw); go_simp; (try with_reducible rfl))
            simp only [Act.put, List.setIfInBounds_toArray, List.set_cons_zero, List.set_cons_succ]
            refine take_yes (i := 13) 37 (v := ?_) rfl rfl (by kernel_rfl) (by kernel_rfl) (by kernel_rfl) (fun _ _ _ h => h) (by kernel_rfl) hHeld ?_ ?_
            rotate_left
            focus (intro w hSw; (try dsimp only at hSw); go_simp; (try with_reducible rfl))
            simp only [Act.put, List.setIfInBounds_toArray, List.set_cons_zero, List.set_cons_succ]
            refine wpAnyH_ready (rs := [14]) (by kernel_rfl) (by simp) ?_
            refine AllReadyH.cons rfl (fun K hK => ?_) AllReadyH.nil
            go_simp
            go_at_call 28
            refine HQa.out.mono ?_
            rintro e w4 ⟨rfl, b4⟩
            have hS := HSn.out w4 b4
            go_wp2_with fail
            refine hK.out _ _ hS (fun hHeld => ?_)
            clear hK
            (try simp only [Act.put, List.setIfInBounds_toArray, List.set_cons_zero, List.set_cons_succ])
            refine take_yes (i := 15) 39 (v := ?_) rfl rfl (by kernel_rfl) (by kernel_rfl) (by kernel_rfl) (fun _ _ _ h => h) (by kernel_rfl) hHeld ?_ ?_
            rotate_left
            focus (intro w hSw; (try dsimp only at hSw); go_simp; (try with_reducible rfl))
            simp only [Act.put, List.setIfInBounds_toArray, List.set_cons_zero, List.set_cons_succ]
            refine take_yes (i := 16) 40 (v := ?_) rfl rfl (by kernel_rfl) (by kernel_rfl) (by kernel_rfl) (fun _ _ _ h => h) (by kernel_rfl) hHeld ?_ ?_
            rotate_left
            focus (intro w hSw; (try dsimp only at hSw); go_simp; (try with_reducible rfl))
            simp only [Act.put, List.setIfInBounds_toArray, List.set_cons_zero, List.set_cons_succ]
            refine take_yes (i := 17) 41 (v := ?_) rfl rfl (by kernel_rfl) (by kernel_rfl) (by kernel_rfl) (fun _ _ _ h => h) (by kernel_rfl) hHeld ?_ ?_
            rotate_left
            focus (intro w hSw; (try dsimp only at hSw); go_simp; (try with_reducible rfl))
            simp only [Act.put, List.setIfInBounds_toArray, List.set_cons_zero, List.set_cons_succ]
            refine wpAnyH_done (by kernel_rfl) ?_ _
            replace HBw : Hid (Below w.heap.size w w4) := Below.on HBw.out.drew b4
            replace hRw : Hid (w4.ownsRow w.heap.size 67 3 (.slice xa k xc) k xs) := row_on hRw.out (⟨b4.os, b4.tape, b4.output, b4.size, b4.block⟩ : Below W.heap.size W w4)
            replace HE := hide' ((b4.block eb (Array.getElem?_eq_some_iff.1 HE.out).1).trans HE.out)
            clear y0 y1 y2 x0 q0 b4
            cases ab with
            | false =>
              have HF := hide' (HNr'.out rfl)
              go_wp2
              go_ret2
              exact EdsEnd.mk HF.out none 0 0 HBw.out
            | true =>
              have HF := hide' (HFn'.out (fun _ => rfl))
              obtain ⟨y0, y1, y2, -⟩ := row3 HE.out
              go_wp2_with (at_builtin; refine wpList_append_lies _ rfl (.tmp 42) (.tmp 44) 51 (by rfl) w.heap.size 67 i0 _ 3 56 Try.underlying51 hi0 hz0 hz1 hz2 rfl (by decide) (.slice xa k xc) k xs (by rfl) (hRw.out.alloc _) ⟨w4.heap.size, 0, none⟩ 1 1 [.slice ea en ec, .nilIface, .nilIface] (by rfl) (by rfl) (World.news_of_block (cs := #[.slice ea en ec, .nilIface, .nilIface]) (t := 67) (fr := (0, 0)) (heap_alloc_new w4 _)) HOne.out (by omega) (by unfold maxLen; omega) (by omega) (Nat.le_trans HBw.out.size (by simp)) _ rfl ?_; intro g7 cp7 w7 hown7 hg7 hat7 hlt7; have hN7 := hide' (HAdd.out _ w7 _ _ (hRw.out.alloc _) (HBw.out.alloc HBw.out.size _) hown7 hg7); clear hown7 hg7 hat7 hlt7)
              go_wp2
              go_roundw
              case rel => exact ⟨k + 1, by omega, by go_num, HF.out, hN7.out⟩
              case measure => simp [intOf]; omega
          · obtain rfl : k = 0 := by omega
            have HF := hide' (HFn.out rfl (fun h => absurd h (by omega)))
            have HAdd : Hid (∀ w5 w6 xs' v, w5.ownsRow w.heap.size 67 3 (.slice xa 0 xc) 0 xs → Below w.heap.size w w5 → w6.ownsRow w.heap.size 67 3 v (0 + 1) xs' → w5.grownBy w6 (Value.slice xa 0 xc).ownBlock → ∃ ys, w6.ownsRow w.heap.size 67 3 v (0 + 1) ys ∧ Below w.heap.size w w6) := fun w5 w6 xs' v h1 h2 h3 h4 => ⟨_, h3, h2.grown h4 h2.size (fun j hj => (h1.lt j hj).1)⟩
            have HD : Hid (∀ m, (W.drewN m).ownsRow w.heap.size 67 3 (.slice xa 0 xc) 0 xs ∧ Below w.heap.size w (W.drewN m) ∧ (W.drewN m).heap[eb]? = some (.cells #[.slice ea en ec, .nilIface, .nilIface] 67 (0, 0))) := fun m => ⟨row_on hRw.out (below_dN (Below.refl _ _) m), below_dN HBw.out m, HE.out⟩
            clear HNr HFn HBd HAp
            go_quiet (fail)
            obtain ⟨hD1, hD2, hD3⟩ := HD.out nq
            replace hRw := hide' hD1
            replace HBw := hide' hD2
            clear y0 y1 y2 x0 HE
            obtain ⟨y0, y1, y2, -⟩ := row3 hD3
            clear hD1 hD2 hD3 HD
            generalize W.drewN nq = W3 at *
            go_wp2_with (at_builtin; refine wpList_append_lies _ rfl (.tmp 42) (.tmp 44) 51 (by rfl) w.heap.size 67 i0 _ 3 56 Try.underlying51 hi0 hz0 hz1 hz2 rfl (by decide) (.slice xa 0 xc) 0 xs (by rfl) (hRw.out.alloc _) ⟨W3.heap.size, 0, none⟩ 1 1 [.slice ea en ec, .nilIface, .nilIface] (by rfl) (by rfl) (World.news_of_block (cs := #[.slice ea en ec, .nilIface, .nilIface]) (t := 67) (fr := (0, 0)) (heap_alloc_new W3 _)) HOne.out (by omega) (by unfold maxLen; omega) (by omega) (Nat.le_trans HBw.out.size (by simp)) _ rfl ?_; intro g7 cp7 w7 hown7 hg7 hat7 hlt7; have hN7 := hide' (HAdd.out _ w7 _ _ (hRw.out.alloc _) (HBw.out.alloc HBw.out.size _) hown7 hg7); clear hown7 hg7 hat7 hlt7)
            go_wp2
            go_roundw
            case rel => exact ⟨0 + 1, by omega, by go_num, HF.out, hN7.out⟩
            case measure => simp [intOf]; omega
      · have HOne : Hid (∀ u ∈ [Value.slice ea en ec, .nilIface, (.iface t2 z2)], u.oneCell' = true) := fun u hu => by
          simp only [List.mem_cons, List.not_mem_nil, or_false] at hu
          rcases hu with rfl | rfl | rfl
          · rfl
          · rfl
          · rfl
        have B2 : Below wr.heap.size wr w2 := Below.on HA.out b2
        have hXr := HBox.out w2 b2
        have hAE : Below w2.heap.size w2 (w2.alloc (.cells #[.slice ea en ec, .nilIface, (.iface t2 z2)] 67)) := (Below.refl _ _).alloc (Nat.le_refl _) _
        have hE := (MapKept.heap_alloc w2 (.cells #[.slice ea en ec, .nilIface, (.iface t2 z2)] 67)).1
        have hX2 := (hAE.block wr.heap.size (Array.getElem?_eq_some_iff.1 hXr).1).trans hXr
        obtain ⟨y0, y1, y2, -⟩ := row3 hE
        have x0 : (w2.alloc (.cells #[.slice ea en ec, .nilIface, (.iface t2 z2)] 67)).cell? ⟨wr.heap.size, 0, none⟩ = some (.slice pa pl pc) := by rw [cell_of_row _ _ 0 _ _ _ hX2]; rfl
        have HB2 : Hid (Below wr.heap.size wr (w2.alloc (.cells #[.slice ea en ec, .nilIface, (.iface t2 z2)] 67))) := Below.on B2 hAE
        have HBw : Hid (Below w.heap.size w (w2.alloc (.cells #[.slice ea en ec, .nilIface, (.iface t2 z2)] 67))) := Below.on HBel.out HB2.out
        have hRw : Hid ((w2.alloc (.cells #[.slice ea en ec, .nilIface, (.iface t2 z2)] 67)).ownsRow w.heap.size 67 3 (.slice xa k xc) k xs) := row_on HRow.out HB2.out
        have HE := hide' hE
        have hbW : b < (w2.alloc (.cells #[.slice ea en ec, .nilIface, (.iface t2 z2)] 67)).heap.size := by have := HB2.out.size; omega
        have hxW : wr.heap.size < (w2.alloc (.cells #[.slice ea en ec, .nilIface, (.iface t2 z2)] 67)).heap.size := (Array.getElem?_eq_some_iff.1 hX2).1
        clear hX2 hAE hXr B2 b2 HBox HEd hr HA HRow HBel hE
        go_wp2_with fail
        generalize w2.alloc (.cells #[.slice ea en ec, .nilIface, (.iface t2 z2)] 67) = W at *
        generalize w2.heap.size = eb at *
        generalize wr.heap.size = xb at *
        cases okb with
        | false =>
          have HF := hide' (HBd.out rfl)
          go_quiet (fail)
          go_wp2
          go_ret2
          exact EdsEnd.mk HF.out none 0 0 (below_dN HBw.out _)
        | true =>
          by_cases h0 : 0 < k
          · have h0' : (0 : Int) < (k : Int) := by omega
            obtain ⟨qa, ql, qc, hq0, hqa⟩ := HAp.out h0 rfl
            have q0 := hq0 W HB2.out
            obtain ⟨j, ej⟩ : ∃ j, j = k - 1 := ⟨_, rfl⟩
            rw [← ej] at q0
            have hwk : IntKind.i64.wrap ((k : Int) - 1) = (j : Int) := by rw [IntKind.wrap_i64]; omega
            have hwj : IntKind.i64.wrap (j : Int) = (j : Int) := by rw [IntKind.wrap_i64]; omega
            have hj3 : (0 : Int) ≤ (j : Int) := by omega
            have hj1 : (j : Int) < (l.length : Int) := by omega
            have HSn : Hid (∀ w4, Below W.drew.heap.size W.drew w4 → w4.cell? ⟨b, off + j * 13, none⟩ = some (.slice qa ql qc) ∧ w4.cell? ⟨xb, 0, none⟩ = some (.slice pa pl pc)) := fun w4 hb => ⟨(World.cell?_of_block (a := ⟨b, off + j * 13, none⟩) (hb.block b (by show b < W.heap.size; omega))).trans q0, (World.cell?_of_block (a := ⟨xb, 0, none⟩) (hb.block xb (by show xb < W.heap.size; omega))).trans x0⟩
            have HQa := hide' (hqa pa pl pc rfl W.drew HB2.out.drew)
            have HNr' := hide' (HNr.out h0)
            have HFn' := hide' (HFn.out rfl)
            clear hqa hq0 HAp HNr HFn HBd ej
            generalize apB (l[k - 1]'(by omega)).1 l[k].1 = ab at *
            have HAdd : Hid (∀ w5 w6 xs' v, w5.ownsRow w.heap.size 67 3 (.slice xa k xc) k xs → Below w.heap.size w w5 → w6.ownsRow w.heap.size 67 3 v (k + 1) xs' → w5.grownBy w6 (Value.slice xa k xc).ownBlock → ∃ ys, w6.ownsRow w.heap.size 67 3 v (k + 1) ys ∧ Below w.heap.size w w6) := fun w5 w6 xs' v h1 h2 h3 h4 => ⟨_, h3, h2.grown h4 h2.size (fun j hj => (h1.lt j hj).1)⟩
            refine wp_region_held_drew (S := fun w' => w'.cell? ⟨b, off + j * 13, none⟩ = some (.slice qa ql qc) ∧ w'.cell? ⟨xb, 0, none⟩ = some (.slice pa pl pc)) (by kernel_rfl) ⟨q0, x0⟩ (fun hHeld => ?_)
            refine take_yes (i := 0) 24 (v := ?_) rfl rfl (by kernel_rfl) (by kernel_rfl) (by kernel_rfl) (fun _ _ _ h => h) (by kernel_rfl) hHeld ?_ ?_
            rotate_left
            focus (intro w hSw; (try dsimp only at hSw); go_simp; (try with_reducible rfl))
            simp only [Act.put, List.setIfInBounds_toArray, List.set_cons_zero, List.set_cons_succ]
            refine take_yes (i := 1) 25 (v := ?_) rfl rfl (by kernel_rfl) (by kernel_rfl) (by kernel_rfl) (fun _ _ _ h => h) (by kernel_rfl) hHeld ?_ ?_
            rotate_left
            focus (intro w hSw; (try dsimp only at hSw); go_simp; (try with_reducible rfl))
            simp only [Act.put, List.setIfInBounds_toArray, List.set_cons_zero, List.set_cons_succ]
            refine take_yes (i := 2) 26 (v := ?_) rfl rfl (by kernel_rfl) (by kernel_rfl) (by kernel_rfl) (fun _ _ _ h => h) (by kernel_rfl) hHeld ?_ ?_
            rotate_left
            focus (intro w hSw; (try dsimp only at hSw); go_simp; (try with_reducible rfl))
            simp only [Act.put, List.setIfInBounds_toArray, List.set_cons_zero, List.set_cons_succ]
            refine take_yes (i := 3) 27 (v := ?_) rfl rfl (by kernel_rfl) (by kernel_rfl) (by kernel_rfl) (fun _ _ _ h => h) (by kernel_rfl) hHeld ?_ ?_
            rotate_left
            focus (intro w hSw; (try dsimp only at hSw); go_simp; (try with_reducible rfl))
            simp only [Act.put, List.setIfInBounds_toArray, List.set_cons_zero, List.set_cons_succ]
            refine take_yes (i := 4) 28 (v := ?_) rfl rfl (by kernel_rfl) (by kernel_rfl) (by kernel_rfl) (fun _ _ _ h => h) (by kernel_rfl) hHeld ?_ ?_
            rotate_left
            focus (intro w hSw; (try dsimp only at hSw); go_simp; (try with_reducible rfl))
            simp only [Act.put, List.setIfInBounds_toArray, List.set_cons_zero, List.set_cons_succ]
            refine take_yes (i := 5) 29 (v := ?_) rfl rfl (by kernel_rfl) (by kernel_rfl) (by kernel_rfl) (fun _ _ _ h => h) (by kernel_rfl) hHeld ?_ ?_
            rotate_left
            focus (intro w hSw; (try dsimp only at hSw); go_simp; (try with_reducible rfl))
            simp only [Act.put, List.setIfInBounds_toArray, List.set_cons_zero, List.set_cons_succ]
            refine take_yes (i := 6) 30 (v := ?_) rfl rfl (by kernel_rfl) (by kernel_rfl) (by kernel_rfl) (fun _ _ _ h => h) (by kernel_rfl) hHeld ?_ ?_
            rotate_left
            focus (intro w hSw; (try dsimp only at hSw); go_simp; (try with_reducible rfl))
            simp only [Act.put, List.setIfInBounds_toArray, List.set_cons_zero, List.set_cons_succ]
            refine take_yes (i := 7) 31 (v := ?_) rfl rfl (by kernel_rfl) (by kernel_rfl) (by kernel_rfl) (fun _ _ _ h => h) (by kernel_rfl) hHeld ?_ ?_
            rotate_left
            focus (intro w hSw; (try dsimp only at hSw); go_simp; (try with_reducible rfl))
            simp only [Act.put, List.setIfInBounds_toArray, List.set_cons_zero, List.set_cons_succ]
            refine take_yes (i := 8) 32 (v := ?_) rfl rfl (by kernel_rfl) (by kernel_rfl) (by kernel_rfl) (fun _ _ _ h => h) (by kernel_rfl) hHeld ?_ ?_
            rotate_left
            focus (intro w hSw; (try dsimp only at hSw); go_simp; (try with_reducible rfl))
            simp only [Act.put, List.setIfInBounds_toArray, List.set_cons_zero, List.set_cons_succ]
            refine take_yes (i := 9) 33 (v := ?_) rfl rfl (by kernel_rfl) (by kernel_rfl) (by kernel_rfl) (fun _ _ _ h => h) (by kernel_rfl) hHeld ?_ ?_
            rotate_left
            focus (intro w hSw; (try dsimp only at hSw); go_simp; (try with_reducible rfl))
            simp only [Act.put, List.setIfInBounds_toArray, List.set_cons_zero, List.set_cons_succ]
            refine take_yes (i := 10) 34 (v := ?_) rfl rfl (by kernel_rfl) (by kernel_rfl) (by kernel_rfl) (fun _ _ _ h => h) (by kernel_rfl) hHeld ?_ ?_
            rotate_left
            focus (intro w hSw; (try dsimp only at hSw); go_simp; (try with_reducible rfl))
            simp only [Act.put, List.setIfInBounds_toArray, List.set_cons_zero, List.set_cons_succ]
            refine take_yes (i := 11) 35 (v := ?_) rfl rfl (by kernel_rfl) (by kernel_rfl) (by kernel_rfl) (fun _ _ _ h => h) (by kernel_rfl) hHeld ?_ ?_
            rotate_left
            focus (intro w hSw; (try dsimp only at hSw); go_simp; (try with_reducible rfl))
            simp only [Act.put, List.setIfInBounds_toArray, List.set_cons_zero, List.set_cons_succ]
            refine take_yes (i := 12) 36 (v := ?_) rfl rfl (by kernel_rfl) (by kernel_rfl) (by kernel_rfl) (fun _ _ _ h => h) (by kernel_rfl) hHeld ?_ ?_
            rotate_left
            focus (intro w hSw; (try dsimp only at hSw); go_simp; (try with_reducible rfl))
            simp only [Act.put, List.setIfInBounds_toArray, List.set_cons_zero, List.set_cons_succ]
            refine take_yes (i := 13) 37 (v := ?_) rfl rfl (by kernel_rfl) (by kernel_rfl) (by kernel_rfl) (fun _ _ _ h => h) (by kernel_rfl) hHeld ?_ ?_
            rotate_left
            focus (intro w hSw; (try dsimp only at hSw); go_simp; (try with_reducible rfl))
            simp only [Act.put, List.setIfInBounds_toArray, List.set_cons_zero, List.set_cons_succ]
            refine wpAnyH_ready (rs := [14]) (by kernel_rfl) (by simp) ?_
            refine AllReadyH.cons rfl (fun K hK => ?_) AllReadyH.nil
            go_simp
            go_at_call 28
            refine HQa.out.mono ?_
            rintro e w4 ⟨rfl, b4⟩
            have hS := HSn.out w4 b4
            go_wp2_with fail
            refine hK.out _ _ hS (fun hHeld => ?_)
            clear hK
            (try simp only [Act.put, List.setIfInBounds_toArray, List.set_cons_zero, List.set_cons_succ])
            refine take_yes (i := 15) 39 (v := ?_) rfl rfl (by kernel_rfl) (by kernel_rfl) (by kernel_rfl) (fun _ _ _ h => h) (by kernel_rfl) hHeld ?_ ?_
            rotate_left
            focus (intro w hSw; (try dsimp only at hSw); go_simp; (try with_reducible rfl))
            simp only [Act.put, List.setIfInBounds_toArray, List.set_cons_zero, List.set_cons_succ]
            refine take_yes (i := 16) 40 (v := ?_) rfl rfl (by kernel_rfl) (by kernel_rfl) (by kernel_rfl) (fun _ _ _ h => h) (by kernel_rfl) hHeld ?_ ?_
            rotate_left
            focus (intro w hSw; (try dsimp only at hSw); go_simp; (try with_reducible rfl))
            simp only [Act.put, List.setIfInBounds_toArray, List.set_cons_zero, List.set_cons_succ]
            refine take_yes (i := 17) 41 (v := ?_) rfl rfl (by kernel_rfl) (by kernel_rfl) (by kernel_rfl) (fun _ _ _ h => h) (by kernel_rfl) hHeld ?_ ?_
            rotate_left
            focus (intro w hSw; (try dsimp only at hSw); go_simp; (try with_reducible rfl))
            simp only [Act.put, List.setIfInBounds_toArray, List.set_cons_zero, List.set_cons_succ]
            refine wpAnyH_done (by kernel_rfl) ?_ _
            replace HBw : Hid (Below w.heap.size w w4) := Below.on HBw.out.drew b4
            replace hRw : Hid (w4.ownsRow w.heap.size 67 3 (.slice xa k xc) k xs) := row_on hRw.out (⟨b4.os, b4.tape, b4.output, b4.size, b4.block⟩ : Below W.heap.size W w4)
            replace HE := hide' ((b4.block eb (Array.getElem?_eq_some_iff.1 HE.out).1).trans HE.out)
            clear y0 y1 y2 x0 q0 b4
            cases ab with
            | false =>
              have HF := hide' (HNr'.out rfl)
              go_wp2
              go_ret2
              exact EdsEnd.mk HF.out none 0 0 HBw.out
            | true =>
              have HF := hide' (HFn'.out (fun _ => rfl))
              obtain ⟨y0, y1, y2, -⟩ := row3 HE.out
              go_wp2_with (at_builtin; refine wpList_append_lies _ rfl (.tmp 42) (.tmp 44) 51 (by rfl) w.heap.size 67 i0 _ 3 56 Try.underlying51 hi0 hz0 hz1 hz2 rfl (by decide) (.slice xa k xc) k xs (by rfl) (hRw.out.alloc _) ⟨w4.heap.size, 0, none⟩ 1 1 [.slice ea en ec, .nilIface, (.iface t2 z2)] (by rfl) (by rfl) (World.news_of_block (cs := #[.slice ea en ec, .nilIface, (.iface t2 z2)]) (t := 67) (fr := (0, 0)) (heap_alloc_new w4 _)) HOne.out (by omega) (by unfold maxLen; omega) (by omega) (Nat.le_trans HBw.out.size (by simp)) _ rfl ?_; intro g7 cp7 w7 hown7 hg7 hat7 hlt7; have hN7 := hide' (HAdd.out _ w7 _ _ (hRw.out.alloc _) (HBw.out.alloc HBw.out.size _) hown7 hg7); clear hown7 hg7 hat7 hlt7)
              go_wp2
              go_roundw
              case rel => exact ⟨k + 1, by omega, by go_num, HF.out, hN7.out⟩
              case measure => simp [intOf]; omega
          · obtain rfl : k = 0 := by omega
            have HF := hide' (HFn.out rfl (fun h => absurd h (by omega)))
            have HAdd : Hid (∀ w5 w6 xs' v, w5.ownsRow w.heap.size 67 3 (.slice xa 0 xc) 0 xs → Below w.heap.size w w5 → w6.ownsRow w.heap.size 67 3 v (0 + 1) xs' → w5.grownBy w6 (Value.slice xa 0 xc).ownBlock → ∃ ys, w6.ownsRow w.heap.size 67 3 v (0 + 1) ys ∧ Below w.heap.size w w6) := fun w5 w6 xs' v h1 h2 h3 h4 => ⟨_, h3, h2.grown h4 h2.size (fun j hj => (h1.lt j hj).1)⟩
            have HD : Hid (∀ m, (W.drewN m).ownsRow w.heap.size 67 3 (.slice xa 0 xc) 0 xs ∧ Below w.heap.size w (W.drewN m) ∧ (W.drewN m).heap[eb]? = some (.cells #[.slice ea en ec, .nilIface, (.iface t2 z2)] 67 (0, 0))) := fun m => ⟨row_on hRw.out (below_dN (Below.refl _ _) m), below_dN HBw.out m, HE.out⟩
            clear HNr HFn HBd HAp
            go_quiet (fail)
            obtain ⟨hD1, hD2, hD3⟩ := HD.out nq
            replace hRw := hide' hD1
            replace HBw := hide' hD2
            clear y0 y1 y2 x0 HE
            obtain ⟨y0, y1, y2, -⟩ := row3 hD3
            clear hD1 hD2 hD3 HD
            generalize W.drewN nq = W3 at *
            go_wp2_with (at_builtin; refine wpList_append_lies _ rfl (.tmp 42) (.tmp 44) 51 (by rfl) w.heap.size 67 i0 _ 3 56 Try.underlying51 hi0 hz0 hz1 hz2 rfl (by decide) (.slice xa 0 xc) 0 xs (by rfl) (hRw.out.alloc _) ⟨W3.heap.size, 0, none⟩ 1 1 [.slice ea en ec, .nilIface, (.iface t2 z2)] (by rfl) (by rfl) (World.news_of_block (cs := #[.slice ea en ec, .nilIface, (.iface t2 z2)]) (t := 67) (fr := (0, 0)) (heap_alloc_new W3 _)) HOne.out (by omega) (by unfold maxLen; omega) (by omega) (Nat.le_trans HBw.out.size (by simp)) _ rfl ?_; intro g7 cp7 w7 hown7 hg7 hat7 hlt7; have hN7 := hide' (HAdd.out _ w7 _ _ (hRw.out.alloc _) (HBw.out.alloc HBw.out.size _) hown7 hg7); clear hown7 hg7 hat7 hlt7)
            go_wp2
            go_roundw
            case rel => exact ⟨0 + 1, by omega, by go_num, HF.out, hN7.out⟩
            case measure => simp [intOf]; omega
      · have HOne : Hid (∀ u ∈ [Value.slice ea en ec, (.iface t1 z1), .nilIface], u.oneCell' = true) := fun u hu => by
          simp only [List.mem_cons, List.not_mem_nil, or_false] at hu
          rcases hu with rfl | rfl | rfl
          · rfl
          · rfl
          · rfl
        have B2 : Below wr.heap.size wr w2 := Below.on HA.out b2
        have hXr := HBox.out w2 b2
        have hAE : Below w2.heap.size w2 (w2.alloc (.cells #[.slice ea en ec, (.iface t1 z1), .nilIface] 67)) := (Below.refl _ _).alloc (Nat.le_refl _) _
        have hE := (MapKept.heap_alloc w2 (.cells #[.slice ea en ec, (.iface t1 z1), .nilIface] 67)).1
        have hX2 := (hAE.block wr.heap.size (Array.getElem?_eq_some_iff.1 hXr).1).trans hXr
        obtain ⟨y0, y1, y2, -⟩ := row3 hE
        have x0 : (w2.alloc (.cells #[.slice ea en ec, (.iface t1 z1), .nilIface] 67)).cell? ⟨wr.heap.size, 0, none⟩ = some (.slice pa pl pc) := by rw [cell_of_row _ _ 0 _ _ _ hX2]; rfl
        have HB2 : Hid (Below wr.heap.size wr (w2.alloc (.cells #[.slice ea en ec, (.iface t1 z1), .nilIface] 67))) := Below.on B2 hAE
        have HBw : Hid (Below w.heap.size w (w2.alloc (.cells #[.slice ea en ec, (.iface t1 z1), .nilIface] 67))) := Below.on HBel.out HB2.out
        have hRw : Hid ((w2.alloc (.cells #[.slice ea en ec, (.iface t1 z1), .nilIface] 67)).ownsRow w.heap.size 67 3 (.slice xa k xc) k xs) := row_on HRow.out HB2.out
        have HE := hide' hE
        have hbW : b < (w2.alloc (.cells #[.slice ea en ec, (.iface t1 z1), .nilIface] 67)).heap.size := by have := HB2.out.size; omega
        have hxW : wr.heap.size < (w2.alloc (.cells #[.slice ea en ec, (.iface t1 z1), .nilIface] 67)).heap.size := (Array.getElem?_eq_some_iff.1 hX2).1
        clear hX2 hAE hXr B2 b2 HBox HEd hr HA HRow HBel hE
        go_wp2_with fail
        generalize w2.alloc (.cells #[.slice ea en ec, (.iface t1 z1), .nilIface] 67) = W at *
        generalize w2.heap.size = eb at *
        generalize wr.heap.size = xb at *
        cases okb with
        | false =>
          have HF := hide' (HBd.out rfl)
          go_quiet (fail)
          go_wp2
          go_ret2
          exact EdsEnd.mk HF.out none 0 0 (below_dN HBw.out _)
        | true =>
          by_cases h0 : 0 < k
          · have h0' : (0 : Int) < (k : Int) := by omega
            obtain ⟨qa, ql, qc, hq0, hqa⟩ := HAp.out h0 rfl
            have q0 := hq0 W HB2.out
            obtain ⟨j, ej⟩ : ∃ j, j = k - 1 := ⟨_, rfl⟩
            rw [← ej] at q0
            have hwk : IntKind.i64.wrap ((k : Int) - 1) = (j : Int) := by rw [IntKind.wrap_i64]; omega
            have hwj : IntKind.i64.wrap (j : Int) = (j : Int) := by rw [IntKind.wrap_i64]; omega
            have hj3 : (0 : Int) ≤ (j : Int) := by omega
            have hj1 : (j : Int) < (l.length : Int) := by omega
            have HSn : Hid (∀ w4, Below W.drew.heap.size W.drew w4 → w4.cell? ⟨b, off + j * 13, none⟩ = some (.slice qa ql qc) ∧ w4.cell? ⟨xb, 0, none⟩ = some (.slice pa pl pc)) := fun w4 hb => ⟨(World.cell?_of_block (a := ⟨b, off + j * 13, none⟩) (hb.block b (by show b < W.heap.size; omega))).trans q0, (World.cell?_of_block (a := ⟨xb, 0, none⟩) (hb.block xb (by show xb < W.heap.size; omega))).trans x0⟩
            have HQa := hide' (hqa pa pl pc rfl W.drew HB2.out.drew)
            have HNr' := hide' (HNr.out h0)
            have HFn' := hide' (HFn.out rfl)
            clear hqa hq0 HAp HNr HFn HBd ej
            generalize apB (l[k - 1]'(by omega)).1 l[k].1 = ab at *
            have HAdd : Hid (∀ w5 w6 xs' v, w5.ownsRow w.heap.size 67 3 (.slice xa k xc) k xs → Below w.heap.size w w5 → w6.ownsRow w.heap.size 67 3 v (k + 1) xs' → w5.grownBy w6 (Value.slice xa k xc).ownBlock → ∃ ys, w6.ownsRow w.heap.size 67 3 v (k + 1) ys ∧ Below w.heap.size w w6) := fun w5 w6 xs' v h1 h2 h3 h4 => ⟨_, h3, h2.grown h4 h2.size (fun j hj => (h1.lt j hj).1)⟩
            refine wp_region_held_drew (S := fun w' => w'.cell? ⟨b, off + j * 13, none⟩ = some (.slice qa ql qc) ∧ w'.cell? ⟨xb, 0, none⟩ = some (.slice pa pl pc)) (by kernel_rfl) ⟨q0, x0⟩ (fun hHeld => ?_)
            refine take_yes (i := 0) 24 (v := ?_) rfl rfl (by kernel_rfl) (by kernel_rfl) (by kernel_rfl) (fun _ _ _ h => h) (by kernel_rfl) hHeld ?_ ?_
            rotate_left
            focus (intro w hSw; (try dsimp only at hSw); go_simp; (try with_reducible rfl))
            simp only [Act.put, List.setIfInBounds_toArray, List.set_cons_zero, List.set_cons_succ]
            refine take_yes (i := 1) 25 (v := ?_) rfl rfl (by kernel_rfl) (by kernel_rfl) (by kernel_rfl) (fun _ _ _ h => h) (by kernel_rfl) hHeld ?_ ?_
            rotate_left
            focus (intro w hSw; (try dsimp only at hSw); go_simp; (try with_reducible rfl))
            simp only [Act.put, List.setIfInBounds_toArray, List.set_cons_zero, List.set_cons_succ]
            refine take_yes (i := 2) 26 (v := ?_) rfl rfl (by kernel_rfl) (by kernel_rfl) (by kernel_rfl) (fun _ _ _ h => h) (by kernel_rfl) hHeld ?_ ?_
            rotate_left
            focus (intro w hSw; (try dsimp only at hSw); go_simp; (try with_reducible rfl))
            simp only [Act.put, List.setIfInBounds_toArray, List.set_cons_zero, List.set_cons_succ]
            refine take_yes (i := 3) 27 (v := ?_) rfl rfl (by kernel_rfl) (by kernel_rfl) (by kernel_rfl) (fun _ _ _ h => h) (by kernel_rfl) hHeld ?_ ?_
            rotate_left
            focus (intro w hSw; (try dsimp only at hSw); go_simp; (try with_reducible rfl))
            simp only [Act.put, List.setIfInBounds_toArray, List.set_cons_zero, List.set_cons_succ]
            refine take_yes (i := 4) 28 (v := ?_) rfl rfl (by kernel_rfl) (by kernel_rfl) (by kernel_rfl) (fun _ _ _ h => h) (by kernel_rfl) hHeld ?_ ?_
            rotate_left
            focus (intro w hSw; (try dsimp only at hSw); go_simp; (try with_reducible rfl))
            simp only [Act.put, List.setIfInBounds_toArray, List.set_cons_zero, List.set_cons_succ]
            refine take_yes (i := 5) 29 (v := ?_) rfl rfl (by kernel_rfl) (by kernel_rfl) (by kernel_rfl) (fun _ _ _ h => h) (by kernel_rfl) hHeld ?_ ?_
            rotate_left
            focus (intro w hSw; (try dsimp only at hSw); go_simp; (try with_reducible rfl))
            simp only [Act.put, List.setIfInBounds_toArray, List.set_cons_zero, List.set_cons_succ]
            refine take_yes (i := 6) 30 (v := ?_) rfl rfl (by kernel_rfl) (by kernel_rfl) (by kernel_rfl) (fun _ _ _ h => h) (by kernel_rfl) hHeld ?_ ?_
            rotate_left
            focus (intro w hSw; (try dsimp only at hSw); go_simp; (try with_reducible rfl))
            simp only [Act.put, List.setIfInBounds_toArray, List.set_cons_zero, List.set_cons_succ]
            refine take_yes (i := 7) 31 (v := ?_) rfl rfl (by kernel_rfl) (by kernel_rfl) (by kernel_rfl) (fun _ _ _ h => h) (by kernel_rfl) hHeld ?_ ?_
            rotate_left
            focus (intro w hSw; (try dsimp only at hSw); go_simp; (try with_reducible rfl))
            simp only [Act.put, List.setIfInBounds_toArray, List.set_cons_zero, List.set_cons_succ]
            refine take_yes (i := 8) 32 (v := ?_) rfl rfl (by kernel_rfl) (by kernel_rfl) (by kernel_rfl) (fun _ _ _ h => h) (by kernel_rfl) hHeld ?_ ?_
            rotate_left
            focus (intro w hSw; (try dsimp only at hSw); go_simp; (try with_reducible rfl))
            simp only [Act.put, List.setIfInBounds_toArray, List.set_cons_zero, List.set_cons_succ]
            refine take_yes (i := 9) 33 (v := ?_) rfl rfl (by kernel_rfl) (by kernel_rfl) (by kernel_rfl) (fun _ _ _ h => h) (by kernel_rfl) hHeld ?_ ?_
            rotate_left
            focus (intro w hSw; (try dsimp only at hSw); go_simp; (try with_reducible rfl))
            simp only [Act.put, List.setIfInBounds_toArray, List.set_cons_zero, List.set_cons_succ]
            refine take_yes (i := 10) 34 (v := ?_) rfl rfl (by kernel_rfl) (by kernel_rfl) (by kernel_rfl) (fun _ _ _ h => h) (by kernel_rfl) hHeld ?_ ?_
            rotate_left
            focus (intro w hSw; (try dsimp only at hSw); go_simp; (try with_reducible rfl))
            simp only [Act.put, List.setIfInBounds_toArray, List.set_cons_zero, List.set_cons_succ]
            refine take_yes (i := 11) 35 (v := ?_) rfl rfl (by kernel_rfl) (by kernel_rfl) (by kernel_rfl) (fun _ _ _ h => h) (by kernel_rfl) hHeld ?_ ?_
            rotate_left
            focus (intro w hSw; (try dsimp only at hSw); go_simp; (try with_reducible rfl))
            simp only [Act.put, List.setIfInBounds_toArray, List.set_cons_zero, List.set_cons_succ]
            refine take_yes (i := 12) 36 (v := ?_) rfl rfl (by kernel_rfl) (by kernel_rfl) (by kernel_rfl) (fun _ _ _ h => h) (by kernel_rfl) hHeld ?_ ?_
            rotate_left
            focus (intro w hSw; (try dsimp only at hSw); go_simp; (try with_reducible rfl))
            simp only [Act.put, List.setIfInBounds_toArray, List.set_cons_zero, List.set_cons_succ]
            refine take_yes (i := 13) 37 (v := ?_) rfl rfl (by kernel_rfl) (by kernel_rfl) (by kernel_rfl) (fun _ _ _ h => h) (by kernel_rfl) hHeld ?_ ?_
            rotate_left
            focus (intro w hSw; (try dsimp only at hSw); go_simp; (try with_reducible rfl))
            simp only [Act.put, List.setIfInBounds_toArray, List.set_cons_zero, List.set_cons_succ]
            refine wpAnyH_ready (rs := [14]) (by kernel_rfl) (by simp) ?_
            refine AllReadyH.cons rfl (fun K hK => ?_) AllReadyH.nil
            go_simp
            go_at_call 28
            refine HQa.out.mono ?_
            rintro e w4 ⟨rfl, b4⟩
            have hS := HSn.out w4 b4
            go_wp2_with fail
            refine hK.out _ _ hS (fun hHeld => ?_)
            clear hK
            (try simp only [Act.put, List.setIfInBounds_toArray, List.set_cons_zero, List.set_cons_succ])
            refine take_yes (i := 15) 39 (v := ?_) rfl rfl (by kernel_rfl) (by kernel_rfl) (by kernel_rfl) (fun _ _ _ h => h) (by kernel_rfl) hHeld ?_ ?_
            rotate_left
            focus (intro w hSw; (try dsimp only at hSw); go_simp; (try with_reducible rfl))
            simp only [Act.put, List.setIfInBounds_toArray, List.set_cons_zero, List.set_cons_succ]
            refine take_yes (i := 16) 40 (v := ?_) rfl rfl (by kernel_rfl) (by kernel_rfl) (by kernel_rfl) (fun _ _ _ h => h) (by kernel_rfl) hHeld ?_ ?_
            rotate_left
            focus (intro w hSw; (try dsimp only at hSw); go_simp; (try with_reducible rfl))
            simp only [Act.put, List.setIfInBounds_toArray, List.set_cons_zero, List.set_cons_succ]
            refine take_yes (i := 17) 41 (v := ?_) rfl rfl (by kernel_rfl) (by kernel_rfl) (by kernel_rfl) (fun _ _ _ h => h) (by kernel_rfl) hHeld ?_ ?_
            rotate_left
            focus (intro w hSw; (try dsimp only at hSw); go_simp; (try with_reducible rfl))
            simp only [Act.put, List.setIfInBounds_toArray, List.set_cons_zero, List.set_cons_succ]
            refine wpAnyH_done (by kernel_rfl) ?_ _
            replace HBw : Hid (Below w.heap.size w w4) := Below.on HBw.out.drew b4
            replace hRw : Hid (w4.ownsRow w.heap.size 67 3 (.slice xa k xc) k xs) := row_on hRw.out (⟨b4.os, b4.tape, b4.output, b4.size, b4.block⟩ : Below W.heap.size W w4)
            replace HE := hide' ((b4.block eb (Array.getElem?_eq_some_iff.1 HE.out).1).trans HE.out)
            clear y0 y1 y2 x0 q0 b4
            cases ab with
            | false =>
              have HF := hide' (HNr'.out rfl)
              go_wp2
              go_ret2
              exact EdsEnd.mk HF.out none 0 0 HBw.out
            | true =>
              have HF := hide' (HFn'.out (fun _ => rfl))
              obtain ⟨y0, y1, y2, -⟩ := row3 HE.out
              go_wp2_with (at_builtin; refine wpList_append_lies _ rfl (.tmp 42) (.tmp 44) 51 (by rfl) w.heap.size 67 i0 _ 3 56 Try.underlying51 hi0 hz0 hz1 hz2 rfl (by decide) (.slice xa k xc) k xs (by rfl) (hRw.out.alloc _) ⟨w4.heap.size, 0, none⟩ 1 1 [.slice ea en ec, (.iface t1 z1), .nilIface] (by rfl) (by rfl) (World.news_of_block (cs := #[.slice ea en ec, (.iface t1 z1), .nilIface]) (t := 67) (fr := (0, 0)) (heap_alloc_new w4 _)) HOne.out (by omega) (by unfold maxLen; omega) (by omega) (Nat.le_trans HBw.out.size (by simp)) _ rfl ?_; intro g7 cp7 w7 hown7 hg7 hat7 hlt7; have hN7 := hide' (HAdd.out _ w7 _ _ (hRw.out.alloc _) (HBw.out.alloc HBw.out.size _) hown7 hg7); clear hown7 hg7 hat7 hlt7)
              go_wp2
              go_roundw
              case rel => exact ⟨k + 1, by omega, by go_num, HF.out, hN7.out⟩
              case measure => simp [intOf]; omega
          · obtain rfl : k = 0 := by omega
            have HF := hide' (HFn.out rfl (fun h => absurd h (by omega)))
            have HAdd : Hid (∀ w5 w6 xs' v, w5.ownsRow w.heap.size 67 3 (.slice xa 0 xc) 0 xs → Below w.heap.size w w5 → w6.ownsRow w.heap.size 67 3 v (0 + 1) xs' → w5.grownBy w6 (Value.slice xa 0 xc).ownBlock → ∃ ys, w6.ownsRow w.heap.size 67 3 v (0 + 1) ys ∧ Below w.heap.size w w6) := fun w5 w6 xs' v h1 h2 h3 h4 => ⟨_, h3, h2.grown h4 h2.size (fun j hj => (h1.lt j hj).1)⟩
            have HD : Hid (∀ m, (W.drewN m).ownsRow w.heap.size 67 3 (.slice xa 0 xc) 0 xs ∧ Below w.heap.size w (W.drewN m) ∧ (W.drewN m).heap[eb]? = some (.cells #[.slice ea en ec, (.iface t1 z1), .nilIface] 67 (0, 0))) := fun m => ⟨row_on hRw.out (below_dN (Below.refl _ _) m), below_dN HBw.out m, HE.out⟩
            clear HNr HFn HBd HAp
            go_quiet (fail)
            obtain ⟨hD1, hD2, hD3⟩ := HD.out nq
            replace hRw := hide' hD1
            replace HBw := hide' hD2
            clear y0 y1 y2 x0 HE
            obtain ⟨y0, y1, y2, -⟩ := row3 hD3
            clear hD1 hD2 hD3 HD
            generalize W.drewN nq = W3 at *
            go_wp2_with (at_builtin; refine wpList_append_lies _ rfl (.tmp 42) (.tmp 44) 51 (by rfl) w.heap.size 67 i0 _ 3 56 Try.underlying51 hi0 hz0 hz1 hz2 rfl (by decide) (.slice xa 0 xc) 0 xs (by rfl) (hRw.out.alloc _) ⟨W3.heap.size, 0, none⟩ 1 1 [.slice ea en ec, (.iface t1 z1), .nilIface] (by rfl) (by rfl) (World.news_of_block (cs := #[.slice ea en ec, (.iface t1 z1), .nilIface]) (t := 67) (fr := (0, 0)) (heap_alloc_new W3 _)) HOne.out (by omega) (by unfold maxLen; omega) (by omega) (Nat.le_trans HBw.out.size (by simp)) _ rfl ?_; intro g7 cp7 w7 hown7 hg7 hat7 hlt7; have hN7 := hide' (HAdd.out _ w7 _ _ (hRw.out.alloc _) (HBw.out.alloc HBw.out.size _) hown7 hg7); clear hown7 hg7 hat7 hlt7)
            go_wp2
            go_roundw
            case rel => exact ⟨0 + 1, by omega, by go_num, HF.out, hN7.out⟩
            case measure => simp [intOf]; omega
      · have HOne : Hid (∀ u ∈ [Value.slice ea en ec, (.iface t1 z1), (.iface t2 z2)], u.oneCell' = true) := fun u hu => by
          simp only [List.mem_cons, List.not_mem_nil, or_false] at hu
          rcases hu with rfl | rfl | rfl
          · rfl
          · rfl
          · rfl
        have B2 : Below wr.heap.size wr w2 := Below.on HA.out b2
        have hXr := HBox.out w2 b2
        have hAE : Below w2.heap.size w2 (w2.alloc (.cells #[.slice ea en ec, (.iface t1 z1), (.iface t2 z2)] 67)) := (Below.refl _ _).alloc (Nat.le_refl _) _
        have hE := (MapKept.heap_alloc w2 (.cells #[.slice ea en ec, (.iface t1 z1), (.iface t2 z2)] 67)).1
        have hX2 := (hAE.block wr.heap.size (Array.getElem?_eq_some_iff.1 hXr).1).trans hXr
        obtain ⟨y0, y1, y2, -⟩ := row3 hE
        have x0 : (w2.alloc (.cells #[.slice ea en ec, (.iface t1 z1), (.iface t2 z2)] 67)).cell? ⟨wr.heap.size, 0, none⟩ = some (.slice pa pl pc) := by rw [cell_of_row _ _ 0 _ _ _ hX2]; rfl
        have HB2 : Hid (Below wr.heap.size wr (w2.alloc (.cells #[.slice ea en ec, (.iface t1 z1), (.iface t2 z2)] 67))) := Below.on B2 hAE
        have HBw : Hid (Below w.heap.size w (w2.alloc (.cells #[.slice ea en ec, (.iface t1 z1), (.iface t2 z2)] 67))) := Below.on HBel.out HB2.out
        have hRw : Hid ((w2.alloc (.cells #[.slice ea en ec, (.iface t1 z1), (.iface t2 z2)] 67)).ownsRow w.heap.size 67 3 (.slice xa k xc) k xs) := row_on HRow.out HB2.out
        have HE := hide' hE
        have hbW : b < (w2.alloc (.cells #[.slice ea en ec, (.iface t1 z1), (.iface t2 z2)] 67)).heap.size := by have := HB2.out.size; omega
        have hxW : wr.heap.size < (w2.alloc (.cells #[.slice ea en ec, (.iface t1 z1), (.iface t2 z2)] 67)).heap.size := (Array.getElem?_eq_some_iff.1 hX2).1
        clear hX2 hAE hXr B2 b2 HBox HEd hr HA HRow HBel hE
        go_wp2_with fail
        generalize w2.alloc (.cells #[.slice ea en ec, (.iface t1 z1), (.iface t2 z2)] 67) = W at *
        generalize w2.heap.size = eb at *
        generalize wr.heap.size = xb at *
        cases okb with
        | false =>
          have HF := hide' (HBd.out rfl)
          go_quiet (fail)
          go_wp2
          go_ret2
          exact EdsEnd.mk HF.out none 0 0 (below_dN HBw.out _)
        | true =>
          by_cases h0 : 0 < k
          · have h0' : (0 : Int) < (k : Int) := by omega
            obtain ⟨qa, ql, qc, hq0, hqa⟩ := HAp.out h0 rfl
            have q0 := hq0 W HB2.out
            obtain ⟨j, ej⟩ : ∃ j, j = k - 1 := ⟨_, rfl⟩
            rw [← ej] at q0
            have hwk : IntKind.i64.wrap ((k : Int) - 1) = (j : Int) := by rw [IntKind.wrap_i64]; omega
            have hwj : IntKind.i64.wrap (j : Int) = (j : Int) := by rw [IntKind.wrap_i64]; omega
            have hj3 : (0 : Int) ≤ (j : Int) := by omega
            have hj1 : (j : Int) < (l.length : Int) := by omega
            have HSn : Hid (∀ w4, Below W.drew.heap.size W.drew w4 → w4.cell? ⟨b, off + j * 13, none⟩ = some (.slice qa ql qc) ∧ w4.cell? ⟨xb, 0, none⟩ = some (.slice pa pl pc)) := fun w4 hb => ⟨(World.cell?_of_block (a := ⟨b, off + j * 13, none⟩) (hb.block b (by show b < W.heap.size; omega))).trans q0, (World.cell?_of_block (a := ⟨xb, 0, none⟩) (hb.block xb (by show xb < W.heap.size; omega))).trans x0⟩
            have HQa := hide' (hqa pa pl pc rfl W.drew HB2.out.drew)
            have HNr' := hide' (HNr.out h0)
            have HFn' := hide' (HFn.out rfl)
            clear hqa hq0 HAp HNr HFn HBd ej
            generalize apB (l[k - 1]'(by omega)).1 l[k].1 = ab at *
            have HAdd : Hid (∀ w5 w6 xs' v, w5.ownsRow w.heap.size 67 3 (.slice xa k xc) k xs → Below w.heap.size w w5 → w6.ownsRow w.heap.size 67 3 v (k + 1) xs' → w5.grownBy w6 (Value.slice xa k xc).ownBlock → ∃ ys, w6.ownsRow w.heap.size 67 3 v (k + 1) ys ∧ Below w.heap.size w w6) := fun w5 w6 xs' v h1 h2 h3 h4 => ⟨_, h3, h2.grown h4 h2.size (fun j hj => (h1.lt j hj).1)⟩
            refine wp_region_held_drew (S := fun w' => w'.cell? ⟨b, off + j * 13, none⟩ = some (.slice qa ql qc) ∧ w'.cell? ⟨xb, 0, none⟩ = some (.slice pa pl pc)) (by kernel_rfl) ⟨q0, x0⟩ (fun hHeld => ?_)
            refine take_yes (i := 0) 24 (v := ?_) rfl rfl (by kernel_rfl) (by kernel_rfl) (by kernel_rfl) (fun _ _ _ h => h) (by kernel_rfl) hHeld ?_ ?_
            rotate_left
            focus (intro w hSw; (try dsimp only at hSw); go_simp; (try with_reducible rfl))
            simp only [Act.put, List.setIfInBounds_toArray, List.set_cons_zero, List.set_cons_succ]
            refine take_yes (i := 1) 25 (v := ?_) rfl rfl (by kernel_rfl) (by kernel_rfl) (by kernel_rfl) (fun _ _ _ h => h) (by kernel_rfl) hHeld ?_ ?_
            rotate_left
            focus (intro w hSw; (try dsimp only at hSw); go_simp; (try with_reducible rfl))
            simp only [Act.put, List.setIfInBounds_toArray, List.set_cons_zero, List.set_cons_succ]
            refine take_yes (i := 2) 26 (v := ?_) rfl rfl (by kernel_rfl) (by kernel_rfl) (by kernel_rfl) (fun _ _ _ h => h) (by kernel_rfl) hHeld ?_ ?_
            rotate_left
            focus (intro w hSw; (try dsimp only at hSw); go_simp; (try with_reducible rfl))
            simp only [Act.put, List.setIfInBounds_toArray, List.set_cons_zero, List.set_cons_succ]
            refine take_yes (i := 3) 27 (v := ?_) rfl rfl (by kernel_rfl) (by kernel_rfl) (by kernel_rfl) (fun _ _ _ h => h) (by kernel_rfl) hHeld ?_ ?_
            rotate_left
            focus (intro w hSw; (try dsimp only at hSw); go_simp; (try with_reducible rfl))
            simp only [Act.put, List.setIfInBounds_toArray, List.set_cons_zero, List.set_cons_succ]
            refine take_yes (i := 4) 28 (v := ?_) rfl rfl (by kernel_rfl) (by kernel_rfl) (by kernel_rfl) (fun _ _ _ h => h) (by kernel_rfl) hHeld ?_ ?_
            rotate_left
            focus (intro w hSw; (try dsimp only at hSw); go_simp; (try with_reducible rfl))
            simp only [Act.put, List.setIfInBounds_toArray, List.set_cons_zero, List.set_cons_succ]
            refine take_yes (i := 5) 29 (v := ?_) rfl rfl (by kernel_rfl) (by kernel_rfl) (by kernel_rfl) (fun _ _ _ h => h) (by kernel_rfl) hHeld ?_ ?_
            rotate_left
            focus (intro w hSw; (try dsimp only at hSw); go_simp; (try with_reducible rfl))
            simp only [Act.put, List.setIfInBounds_toArray, List.set_cons_zero, List.set_cons_succ]
            refine take_yes (i := 6) 30 (v := ?_) rfl rfl (by kernel_rfl) (by kernel_rfl) (by kernel_rfl) (fun _ _ _ h => h) (by kernel_rfl) hHeld ?_ ?_
            rotate_left
            focus (intro w hSw; (try dsimp only at hSw); go_simp; (try with_reducible rfl))
            simp only [Act.put, List.setIfInBounds_toArray, List.set_cons_zero, List.set_cons_succ]
            refine take_yes (i := 7) 31 (v := ?_) rfl rfl (by kernel_rfl) (by kernel_rfl) (by kernel_rfl) (fun _ _ _ h => h) (by kernel_rfl) hHeld ?_ ?_
            rotate_left
            focus (intro w hSw; (try dsimp only at hSw); go_simp; (try with_reducible rfl))
            simp only [Act.put, List.setIfInBounds_toArray, List.set_cons_zero, List.set_cons_succ]
            refine take_yes (i := 8) 32 (v := ?_) rfl rfl (by kernel_rfl) (by kernel_rfl) (by kernel_rfl) (fun _ _ _ h => h) (by kernel_rfl) hHeld ?_ ?_
            rotate_left
            focus (intro w hSw; (try dsimp only at hSw); go_simp; (try with_reducible rfl))
            simp only [Act.put, List.setIfInBounds_toArray, List.set_cons_zero, List.set_cons_succ]
            refine take_yes (i := 9) 33 (v := ?_) rfl rfl (by kernel_rfl) (by kernel_rfl) (by kernel_rfl) (fun _ _ _ h => h) (by kernel_rfl) hHeld ?_ ?_
            rotate_left
            focus (intro w hSw; (try dsimp only at hSw); go_simp; (try with_reducible rfl))
            simp only [Act.put, List.setIfInBounds_toArray, List.set_cons_zero, List.set_cons_succ]
            refine take_yes (i := 10) 34 (v := ?_) rfl rfl (by kernel_rfl) (by kernel_rfl) (by kernel_rfl) (fun _ _ _ h => h) (by kernel_rfl) hHeld ?_ ?_
            rotate_left
            focus (intro w hSw; (try dsimp only at hSw); go_simp; (try with_reducible rfl))
            simp only [Act.put, List.setIfInBounds_toArray, List.set_cons_zero, List.set_cons_succ]
            refine take_yes (i := 11) 35 (v := ?_) rfl rfl (by kernel_rfl) (by kernel_rfl) (by kernel_rfl) (fun _ _ _ h => h) (by kernel_rfl) hHeld ?_ ?_
            rotate_left
            focus (intro w hSw; (try dsimp only at hSw); go_simp; (try with_reducible rfl))
            simp only [Act.put, List.setIfInBounds_toArray, List.set_cons_zero, List.set_cons_succ]
            refine take_yes (i := 12) 36 (v := ?_) rfl rfl (by kernel_rfl) (by kernel_rfl) (by kernel_rfl) (fun _ _ _ h => h) (by kernel_rfl) hHeld ?_ ?_
            rotate_left
            focus (intro w hSw; (try dsimp only at hSw); go_simp; (try with_reducible rfl))
            simp only [Act.put, List.setIfInBounds_toArray, List.set_cons_zero, List.set_cons_succ]
            refine take_yes (i := 13) 37 (v := ?_) rfl rfl (by kernel_rfl) (by kernel_rfl) (by kernel_rfl) (fun _ _ _ h => h) (by kernel_rfl) hHeld ?_ ?_
            rotate_left
            focus (intro w hSw; (try dsimp only at hSw); go_simp; (try with_reducible rfl))
            simp only [Act.put, List.setIfInBounds_toArray, List.set_cons_zero, List.set_cons_succ]
            refine wpAnyH_ready (rs := [14]) (by kernel_rfl) (by simp) ?_
            refine AllReadyH.cons rfl (fun K hK => ?_) AllReadyH.nil
            go_simp
            go_at_call 28
            refine HQa.out.mono ?_
            rintro e w4 ⟨rfl, b4⟩
            have hS := HSn.out w4 b4
            go_wp2_with fail
            refine hK.out _ _ hS (fun hHeld => ?_)
            clear hK
            (try simp only [Act.put, List.setIfInBounds_toArray, List.set_cons_zero, List.set_cons_succ])
            refine take_yes (i := 15) 39 (v := ?_) rfl rfl (by kernel_rfl) (by kernel_rfl) (by kernel_rfl) (fun _ _ _ h => h) (by kernel_rfl) hHeld ?_ ?_
            rotate_left
            focus (intro w hSw; (try dsimp only at hSw); go_simp; (try with_reducible rfl))
            simp only [Act.put, List.setIfInBounds_toArray, List.set_cons_zero, List.set_cons_succ]
            refine take_yes (i := 16) 40 (v := ?_) rfl rfl (by kernel_rfl) (by kernel_rfl) (by kernel_rfl) (fun _ _ _ h => h) (by kernel_rfl) hHeld ?_ ?_
            rotate_left
            focus (intro w hSw; (try dsimp only at hSw); go_simp; (try with_reducible rfl))
            simp only [Act.put, List.setIfInBounds_toArray, List.set_cons_zero, List.set_cons_succ]
            refine take_yes (i := 17) 41 (v := ?_) rfl rfl (by kernel_rfl) (by kernel_rfl) (by kernel_rfl) (fun _ _ _ h => h) (by kernel_rfl) hHeld ?_ ?_
            rotate_left
            focus (intro w hSw; (try dsimp only at hSw); go_simp; (try with_reducible rfl))
            simp only [Act.put, List.setIfInBounds_toArray, List.set_cons_zero, List.set_cons_succ]
            refine wpAnyH_done (by kernel_rfl) ?_ _
            replace HBw : Hid (Below w.heap.size w w4) := Below.on HBw.out.drew b4
            replace hRw : Hid (w4.ownsRow w.heap.size 67 3 (.slice xa k xc) k xs) := row_on hRw.out (⟨b4.os, b4.tape, b4.output, b4.size, b4.block⟩ : Below W.heap.size W w4)
            replace HE := hide' ((b4.block eb (Array.getElem?_eq_some_iff.1 HE.out).1).trans HE.out)
            clear y0 y1 y2 x0 q0 b4
            cases ab with
            | false =>
              have HF := hide' (HNr'.out rfl)
              go_wp2
              go_ret2
              exact EdsEnd.mk HF.out none 0 0 HBw.out
            | true =>
              have HF := hide' (HFn'.out (fun _ => rfl))
              obtain ⟨y0, y1, y2, -⟩ := row3 HE.out
              go_wp2_with (at_builtin; refine wpList_append_lies _ rfl (.tmp 42) (.tmp 44) 51 (by rfl) w.heap.size 67 i0 _ 3 56 Try.underlying51 hi0 hz0 hz1 hz2 rfl (by decide) (.slice xa k xc) k xs (by rfl) (hRw.out.alloc _) ⟨w4.heap.size, 0, none⟩ 1 1 [.slice ea en ec, (.iface t1 z1), (.iface t2 z2)] (by rfl) (by rfl) (World.news_of_block (cs := #[.slice ea en ec, (.iface t1 z1), (.iface t2 z2)]) (t := 67) (fr := (0, 0)) (heap_alloc_new w4 _)) HOne.out (by omega) (by unfold maxLen; omega) (by omega) (Nat.le_trans HBw.out.size (by simp)) _ rfl ?_; intro g7 cp7 w7 hown7 hg7 hat7 hlt7; have hN7 := hide' (HAdd.out _ w7 _ _ (hRw.out.alloc _) (HBw.out.alloc HBw.out.size _) hown7 hg7); clear hown7 hg7 hat7 hlt7)
              go_wp2
              go_roundw
              case rel => exact ⟨k + 1, by omega, by go_num, HF.out, hN7.out⟩
              case measure => simp [intOf]; omega
          · obtain rfl : k = 0 := by omega
            have HF := hide' (HFn.out rfl (fun h => absurd h (by omega)))
            have HAdd : Hid (∀ w5 w6 xs' v, w5.ownsRow w.heap.size 67 3 (.slice xa 0 xc) 0 xs → Below w.heap.size w w5 → w6.ownsRow w.heap.size 67 3 v (0 + 1) xs' → w5.grownBy w6 (Value.slice xa 0 xc).ownBlock → ∃ ys, w6.ownsRow w.heap.size 67 3 v (0 + 1) ys ∧ Below w.heap.size w w6) := fun w5 w6 xs' v h1 h2 h3 h4 => ⟨_, h3, h2.grown h4 h2.size (fun j hj => (h1.lt j hj).1)⟩
            have HD : Hid (∀ m, (W.drewN m).ownsRow w.heap.size 67 3 (.slice xa 0 xc) 0 xs ∧ Below w.heap.size w (W.drewN m) ∧ (W.drewN m).heap[eb]? = some (.cells #[.slice ea en ec, (.iface t1 z1), (.iface t2 z2)] 67 (0, 0))) := fun m => ⟨row_on hRw.out (below_dN (Below.refl _ _) m), below_dN HBw.out m, HE.out⟩
            clear HNr HFn HBd HAp
            go_quiet (fail)
            obtain ⟨hD1, hD2, hD3⟩ := HD.out nq
            replace hRw := hide' hD1
            replace HBw := hide' hD2
            clear y0 y1 y2 x0 HE
            obtain ⟨y0, y1, y2, -⟩ := row3 hD3
            clear hD1 hD2 hD3 HD
            generalize W.drewN nq = W3 at *
            go_wp2_with (at_builtin; refine wpList_append_lies _ rfl (.tmp 42) (.tmp 44) 51 (by rfl) w.heap.size 67 i0 _ 3 56 Try.underlying51 hi0 hz0 hz1 hz2 rfl (by decide) (.slice xa 0 xc) 0 xs (by rfl) (hRw.out.alloc _) ⟨W3.heap.size, 0, none⟩ 1 1 [.slice ea en ec, (.iface t1 z1), (.iface t2 z2)] (by rfl) (by rfl) (World.news_of_block (cs := #[.slice ea en ec, (.iface t1 z1), (.iface t2 z2)]) (t := 67) (fr := (0, 0)) (heap_alloc_new W3 _)) HOne.out (by omega) (by unfold maxLen; omega) (by omega) (Nat.le_trans HBw.out.size (by simp)) _ rfl ?_; intro g7 cp7 w7 hown7 hg7 hat7 hlt7; have hN7 := hide' (HAdd.out _ w7 _ _ (hRw.out.alloc _) (HBw.out.alloc HBw.out.size _) hown7 hg7); clear hown7 hg7 hat7 hlt7)
            go_wp2
            go_roundw
            case rel => exact ⟨0 + 1, by omega, by go_num, HF.out, hN7.out⟩
            case measure => simp [intOf]; omega
    · have hlt' : ¬ (k : Int) < (l.length : Int) := by omega
      have hkl : k = l.length := by omega
      have HF : Hid (ans = true) := HYes.out (by rw [← hkl]; exact hFst.out)
      have BF := hide' hbel
      clear hrow hbel hR hFst hkl
      go_wp2
      go_ret2
      exact EdsEnd.mk HF.out _ _ _ BF.out
end Go.Proofs.Ytcepgdlnlmhecaa
