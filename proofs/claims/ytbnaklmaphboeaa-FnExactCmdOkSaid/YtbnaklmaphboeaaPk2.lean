/-
  Texts that a law leans on, one behind the other; no statement is proved here.
-/
import Derived.Test.YtbnaklmaphboeaaPk1
import Derived.Deep.RegionHeld3
import Derived.Deep.Cut
import Derived.Test.YtbnaklmaphboeaaPk0
import Derived.WalkKit
import Derived.ProofKit
import Derived.ChangeSlices
import Derived.ChangeArms
/-
  FnExactCmdOk answers true.
-/
namespace Go.Proofs.Ytbnaklmaphboeaa
open Go.RowKit
set_option linter.unusedVariables false
set_option linter.unusedSimpArgs false

theorem boxRow {w wr : World} {o : Obj} (h : Below (w.alloc o).heap.size (w.alloc o) wr) : wr.heap[w.heap.size]? = some o :=
  (h.block w.heap.size (by simp)).trans (MapKept.heap_alloc w o).1

/-- The four cells of a box. -/
def Four (wx : World) (g : Nat) (k n : Int) (t x : Value) : Prop := wx.cell? ⟨g, 0, none⟩ = some (.int .i64 k) ∧ wx.cell? ⟨g, 1, none⟩ = some t ∧ wx.cell? ⟨g, 2, none⟩ = some (.int .i64 n) ∧ wx.cell? ⟨g, 3, none⟩ = some x

set_option maxHeartbeats 6400000 in
set_option maxRecDepth 100000 in
theorem walk_CmdOk (k n : Int) (a : Option Addr) (t : List Int) (c : Nat) (x : Value) (l : List Int) (w : World) (ht : Seg w a t) (htc : t.length ≤ c) (hcm : c ≤ maxLen) (hx : NmS w x l) :
    Calls Try.prog 3 #[.agg #[.int .i64 k, .slice a t.length c, .int .i64 n, x]] w fun e w' => e = .returned (.bool true) ∧ Below w.heap.size w w' := by
  have Hb : Hid (∀ o : Obj, Below w.heap.size w (w.alloc o)) := fun o => (Below.refl _ _).alloc (Nat.le_refl _) o
  have Hbox : Hid (∀ o wx, Below (w.alloc o).heap.size (w.alloc o) wx → wx.heap[w.heap.size]? = some o) := fun o wx h => boxRow h
  have HS : Hid (∀ wx, Below w.heap.size w wx → Calls Try.prog 4 #[.agg #[.int .i64 k, .slice a t.length c, .int .i64 n, x], .int .i64 1048576] wx fun e w' => e = .returned (.int .i64 (lessM 1048576 (t.length + l.length))) ∧ Below wx.heap.size wx w') := fun wx hb => szCmd_any k n a t.length c x l wx (by omega) (hx.grow hb)
  have HT : Hid (t.length ≤ 1048576 → l.length ≤ 1048576 → ∀ wx, Below w.heap.size w wx → Calls Try.prog 6 #[.agg #[.int .i64 k, .slice a t.length c, .int .i64 n, x]] wx (CmTo k n t l wx)) := fun h1 h2 wx hb => toCmd_any k n a t c x l wx (ht.grow hb) h1 (hx.grow hb) h2
  obtain ⟨ax, cx, rfl, -⟩ := hx
  by_cases hz : (1048576 : Int) < ((t.length + l.length : Nat) : Int)
  · have hl : lessM 1048576 (t.length + l.length) = -1 := if_pos hz
    rw [hl] at HS
    clear hl HT ht
    generalize l.length = ll at *
    generalize t.length = tl at *
    go_enter Try.func3, Try.ntmps3
    go_wp2_with fail
    refine (HS.out _ (Hb.out _)).mono ?_
    rintro e w1 ⟨rfl, b1⟩
    have B1 := Below.on (Hb.out _) b1
    clear b1
    go_wp2
    go_ret
    exact ⟨rfl, B1⟩
  have hl : lessM 1048576 (t.length + l.length) = 1048576 - ((t.length + l.length : Nat) : Int) := if_neg hz
  rw [hl] at HS
  have HT' := hide' (HT.out (by omega) (by omega))
  have htl : t.length ≤ 1048576 := by omega
  have hz0 : 0 ≤ (1048576 : Int) - ((t.length + l.length : Nat) : Int) := by omega
  have hz1 : (1048576 : Int) - ((t.length + l.length : Nat) : Int) ≤ 1048576 := by omega
  clear hl hz HT ht
  generalize (1048576 : Int) - ((t.length + l.length : Nat) : Int) = lft at *
  have HSp : Hid (∀ u c y wx, t.length ≤ maxLen → NmS wx y l → Calls Try.prog 5 #[.agg #[.int .i64 k, .slice u t.length c, .int .i64 n, y]] wx fun e w' => e = .returned (.bool (cmdB k n t.length l)) ∧ Below wx.heap.size wx w') := fun u c y wx h1 h2 => spec_CmdOk_any k n u t.length c y l wx h1 h2
  have HIm : Hid (∀ u c y wx, t.length ≤ maxLen → NmS wx y l → Calls Try.prog 7 #[.agg #[.int .i64 k, .slice u t.length c, .int .i64 n, y]] wx fun e w' => e = .returned (.bool (cmdB k n t.length l)) ∧ Below wx.heap.size wx w') := fun u c y wx h1 h2 => impl_CmdOk_any k n u t.length c y l wx h1 h2
  have HEq : Hid (∀ u c y u' c' y' wx, Seg wx u t → Seg wx u' t → NmS wx y l → NmS wx y' l → Calls Try.prog 8 #[.agg #[.int .i64 k, .slice u t.length c, .int .i64 n, y], .agg #[.int .i64 k, .slice u' t.length c', .int .i64 n, y']] wx fun e w' => e = .returned (.bool true) ∧ Below wx.heap.size wx w') := fun u c y u' c' y' wx h1 h2 h3 h4 => eqCmd_same k n u u' t c c' y y' l wx h1 h2 (by omega) h3 h4
  have hml : Hid (t.length ≤ maxLen) := by show _ ≤ _; unfold maxLen; omega
  generalize cmdB k n t.length l = R at *
  unfold CmTo at HT'
  generalize htll : t.length = tl at *
  generalize hll : l.length = ll at *
  go_enter Try.func3, Try.ntmps3
  go_wp2_with fail
  refine (HS.out _ (Hb.out _)).mono ?_
  rintro e w1 ⟨rfl, b1⟩
  obtain ⟨y0, y1, y2, y3, -⟩ := row4 (Hbox.out _ _ b1)
  have B1 := hide' b1
  have HT1 := hide' (HT'.out w1 (Below.on (Hb.out _) b1))
  clear b1 HS
  go_wp2_with fail
  refine HT1.out.mono ?_
  rintro e w2 ⟨u, uc, ua, ux, rfl, hO2, hN2, _, _, b2⟩
  have hS2 := hide' (HSp.out u uc _ w2 hml.out hN2)
  have B2 := hide' (Below.on B1.out b2)
  clear hO2 hN2 b2 HT1 B1 y0 y1 y2 y3
  go_wp2_with fail
  refine hS2.out.mono ?_
  rintro e w3 ⟨rfl, b3⟩
  have B3 := hide' (Below.on B2.out b3)
  clear b3 hS2 B2
  obtain ⟨y0, y1, y2, y3, -⟩ := row4 (Hbox.out _ _ B3.out)
  have HT3 := hide' (HT'.out w3 (Below.on (Hb.out _) B3.out))
  go_wp2_with fail
  refine HT3.out.mono ?_
  rintro e w4 ⟨v, vc, va, vx, rfl, hO4, hN4, _, _, b4⟩
  have bal : Below w4.heap.size w4 (w4.alloc (.cells #[.int .i64 k, .slice v tl vc, .int .i64 n, .slice va ll vx] 28)) := (Below.refl _ _).alloc (Nat.le_refl _) _
  have B4 := hide' (Below.on (Below.on B3.out b4) bal)
  have hI4 := hide' (HIm.out v vc _ _ hml.out (hN4.grow bal))
  have HO4 := hide' (And.intro (hO4.grow bal) (hN4.grow bal))
  have Hx4 : Hid (∀ wx, Below (w4.alloc (.cells #[.int .i64 k, .slice v tl vc, .int .i64 n, .slice va ll vx] 28)).heap.size (w4.alloc (.cells #[.int .i64 k, .slice v tl vc, .int .i64 n, .slice va ll vx] 28)) wx → wx.heap[w4.heap.size]? = some (.cells #[.int .i64 k, .slice v tl vc, .int .i64 n, .slice va ll vx] 28)) := fun wx hb => boxRow hb
  clear hO4 hN4 b4 bal HT3 y0 y1 y2 y3
  go_wp2_with fail
  refine hI4.out.mono ?_
  rintro e w5 ⟨rfl, b5⟩
  have B5 := hide' (Below.on B4.out b5)
  have HO5 := hide' (And.intro (HO4.out.1.grow b5) (HO4.out.2.grow b5))
  obtain ⟨v0, v1, v2, v3, -⟩ := row4 (Hx4.out _ b5)
  have Hx5 := hide' (Hx4.out _ b5)
  clear b5 hI4 HO4 B4
  obtain ⟨y0, y1, y2, y3, -⟩ := row4 (Hbox.out _ _ B5.out)
  have HTd : Hid (Calls Try.prog 6 #[.agg #[.int .i64 k, .slice a tl c, .int .i64 n, .slice ax ll cx]] w5.drew fun e w7 => ∃ z zc za zx, e = .returned (.agg #[.int .i64 k, .slice z tl zc, .int .i64 n, .slice za ll zx]) ∧ (w7.cell? ⟨w.heap.size, 0, none⟩ = some (.int .i64 k) ∧ w7.cell? ⟨w.heap.size, 1, none⟩ = some (.slice a tl c) ∧ w7.cell? ⟨w.heap.size, 2, none⟩ = some (.int .i64 n) ∧ w7.cell? ⟨w.heap.size, 3, none⟩ = some (.slice ax ll cx) ∧ w7.cell? ⟨w4.heap.size, 0, none⟩ = some (.int .i64 k) ∧ w7.cell? ⟨w4.heap.size, 1, none⟩ = some (.slice v tl vc) ∧ w7.cell? ⟨w4.heap.size, 2, none⟩ = some (.int .i64 n) ∧ w7.cell? ⟨w4.heap.size, 3, none⟩ = some (.slice va ll vx)) ∧ Hid (Calls Try.prog 8 #[.agg #[.int .i64 k, .slice v tl vc, .int .i64 n, .slice va ll vx], .agg #[.int .i64 k, .slice z tl zc, .int .i64 n, .slice za ll zx]] w7 fun e w8 => e = .returned (.bool true) ∧ (w8.cell? ⟨w.heap.size, 0, none⟩ = some (.int .i64 k) ∧ w8.cell? ⟨w.heap.size, 1, none⟩ = some (.slice a tl c) ∧ w8.cell? ⟨w.heap.size, 2, none⟩ = some (.int .i64 n) ∧ w8.cell? ⟨w.heap.size, 3, none⟩ = some (.slice ax ll cx) ∧ w8.cell? ⟨w4.heap.size, 0, none⟩ = some (.int .i64 k) ∧ w8.cell? ⟨w4.heap.size, 1, none⟩ = some (.slice v tl vc) ∧ w8.cell? ⟨w4.heap.size, 2, none⟩ = some (.int .i64 n) ∧ w8.cell? ⟨w4.heap.size, 3, none⟩ = some (.slice va ll vx)) ∧ Hid (Below w5.heap.size w5 w8))) := by
    refine (HT'.out w5.drew (Below.on (Hb.out _) B5.out).drew).mono ?_
    rintro e w7 ⟨z, zc, za, zx, rfl, hO7, hN7, _, _, b7⟩
    have b67 : Below w5.heap.size w5 w7 := Below.on (Below.refl _ w5).drew b7
    have hkp : ∀ wy, Below w5.heap.size w5 wy → (wy.cell? ⟨w.heap.size, 0, none⟩ = some (.int .i64 k) ∧ wy.cell? ⟨w.heap.size, 1, none⟩ = some (.slice a tl c) ∧ wy.cell? ⟨w.heap.size, 2, none⟩ = some (.int .i64 n) ∧ wy.cell? ⟨w.heap.size, 3, none⟩ = some (.slice ax ll cx) ∧ wy.cell? ⟨w4.heap.size, 0, none⟩ = some (.int .i64 k) ∧ wy.cell? ⟨w4.heap.size, 1, none⟩ = some (.slice v tl vc) ∧ wy.cell? ⟨w4.heap.size, 2, none⟩ = some (.int .i64 n) ∧ wy.cell? ⟨w4.heap.size, 3, none⟩ = some (.slice va ll vx)) := fun wy hb => by
      obtain ⟨f0, f1, f2, f3, -⟩ := row4 (Hbox.out _ _ (Below.on B5.out hb))
      obtain ⟨g0, g1, g2, g3, -⟩ := row4 ((hb.block w4.heap.size ((Array.getElem?_eq_some_iff.1 Hx5.out).1)).trans Hx5.out)
      exact ⟨f0, f1, f2, f3, g0, g1, g2, g3⟩
    refine ⟨z, zc, za, zx, rfl, hkp _ b67, ?_⟩
    exact (HEq.out _ _ _ _ _ _ w7 (HO5.out.1.grow b67) hO7 (HO5.out.2.grow b67) hN7).mono fun e w8 h => ⟨h.1, hkp _ (Below.on b67 h.2), Below.on b67 h.2⟩
  go_wp2_with fail
  go_region_held3 (fun wx => wx.cell? ⟨w.heap.size, 0, none⟩ = some (.int .i64 k) ∧ wx.cell? ⟨w.heap.size, 1, none⟩ = some (.slice a tl c) ∧ wx.cell? ⟨w.heap.size, 2, none⟩ = some (.int .i64 n) ∧ wx.cell? ⟨w.heap.size, 3, none⟩ = some (.slice ax ll cx) ∧ wx.cell? ⟨w4.heap.size, 0, none⟩ = some (.int .i64 k) ∧ wx.cell? ⟨w4.heap.size, 1, none⟩ = some (.slice v tl vc) ∧ wx.cell? ⟨w4.heap.size, 2, none⟩ = some (.int .i64 n) ∧ wx.cell? ⟨w4.heap.size, 3, none⟩ = some (.slice va ll vx)) (go_keep) (first
    | (go_at_call 6; refine HTd.out.mono ?_; rintro e w7 ⟨z, zc, za, zx, rfl, ⟨i0, i1, i2, i3, i4, i5, i6, i7⟩, hE7⟩)
    | (go_at_call 8; refine hE7.out.mono ?_; rintro e w8 ⟨rfl, ⟨j0, j1, j2, j3, j4, j5, j6, j7⟩, hb8⟩)
    | fail)
  have HB := hide' (Below.on (Hb.out _) (Below.on B5.out hb8.out))
  go_wp2
  go_ret
  exact ⟨rfl, HB.out⟩
end Go.Proofs.Ytbnaklmaphboeaa
/-
  A command that came in can be read.
-/
namespace Go.Proofs.Ytbnaklmaphboeaa
open Go.ChangeShapes Go.WideShapes Go.ChangeAt Go.RowKit
set_option linter.unusedVariables false
set_option linter.unusedSimpArgs false
set_option maxRecDepth 100000

theorem cellsT : Try.prog.cellsOf 22 = 1 := by kernel_rfl
theorem cellsI : Try.prog.cellsOf 3 = 1 := by kernel_rfl
theorem cellsN : Try.prog.cellsOf 23 = 1 := by kernel_rfl
theorem cellsC : Try.prog.cellsOf 25 = 4 := by kernel_rfl

theorem list_of {α : Type} {Q : Nat → α → Prop} : ∀ n, (∀ i, i < n → ∃ x, Q i x) → ∃ l : List α, l.length = n ∧ ∀ i (h : i < l.length), Q i l[i]
  | 0, _ => ⟨[], rfl, fun i h => by simp at h⟩
  | n + 1, hq => by
    obtain ⟨l, hl, hi⟩ := list_of n (fun i hi => hq i (by omega))
    obtain ⟨x, hx⟩ := hq n (by omega)
    refine ⟨l ++ [x], by simp [hl], fun i h => ?_⟩
    by_cases e : i < l.length
    · rw [List.getElem_append_left e]; exact hi i e
    · have : i = n := by simp at h; omega
      subst this
      rw [List.getElem_append_right (by omega)]
      simpa using hx

variable {H : Type} {enc : TypeId × Value → H} {w : World}

theorem read_bytes {fuel : Nat} {cs : List Value} {x : DataW H × List MemPlace} (h : DataW.trod enc Try.prog w 0 (fun _ => true) true fuel 22 cs = some x) : ∃ a xs c, cs = [.slice a xs.length c] ∧ Seg w a xs ∧ xs.length ≤ c ∧ c ≤ maxLen := by
  rcases open_ints Try.underlying22 Try.underlying5 (by kernel_rfl) h with ⟨rfl, _⟩ | ⟨a, len, cap, zs, rfl, _, hl, hm, hz, _, hcell, hwz⟩
  · exact ⟨none, [], 0, rfl, ⟨by simp, .inl rfl⟩, Nat.le_refl _, Nat.zero_le _⟩
  · obtain ⟨xs, e, hs, h1, h2, h3⟩ := seg_of_row (w := w) (a := some a) (len := len) (cap := cap) (zs := zs) (.inr ⟨a, rfl, hl, hm, by simpa using hz, hcell, hwz⟩)
    subst e
    exact ⟨some a, xs, cap, rfl, hs, h1, h2⟩

theorem read_nums {fuel : Nat} {cs : List Value} {x : DataW H × List MemPlace} (h : DataW.trod enc Try.prog w 0 (fun _ => true) true fuel 23 cs = some x) : ∃ u l, cs = [u] ∧ NmS w u l := by
  rcases DataW.trod_slice Try.underlying23 h with ⟨rfl, _⟩ | ⟨a, len, cap, elems, rest, n, _, rfl, _, hb, hl, hm, hlen, hel, hsp, hns⟩
  · exact ⟨_, [], rfl, none, 0, rfl, Nat.le_refl _, Nat.zero_le _, fun _ => rfl, .inl rfl⟩
  · have hq : ∀ i, i < len → ∃ v : Int, w.cell? (a.add i) = some (.int .i64 v) := by
      intro i hi
      have h1 := hel i hi
      rw [cellsI, Nat.mul_one, List.getElem?_eq_getElem (by omega)] at h1
      obtain ⟨cs', hc, ht⟩ := Option.bind_eq_some_iff.1 h1
      obtain ⟨v, e, _, _⟩ := DataW.trod_int Try.underlying3 ht
      subst e
      exact ⟨v, cell_of_cells?_one hc⟩
    obtain ⟨l, hll, hls⟩ := list_of len hq
    subst hll
    refine ⟨_, l, rfl, some a, cap, rfl, hl, hm, by simp, ?_⟩
    by_cases he : l = []
    · exact .inl he
    · have hp : 0 < l.length := List.length_pos_iff.2 he
      obtain ⟨b, off, spot⟩ := a
      have hu := hls 0 hp
      have hspot : spot = none := by simpa [Addr.add] using World.cell?_spot hu
      subst hspot
      refine .inr ⟨b, off, rfl, ?_, fun i hi => ?_⟩
      · have := World.block_lt_of_cell? w _ hu
        simpa [Addr.add] using this
      · have := hls i hi
        rw [Addr.add_lit] at this
        exact this

/-- A command as an argument. -/
theorem read_cmd {v : Value} {d : DataW H} {ps : List MemPlace} (h : DataW.Trod enc Try.prog w 0 (fun _ => true) true 25 v d ps) : ∃ k n a t c x l, v = .agg #[.int .i64 k, .slice a t.length c, .int .i64 n, x] ∧ Seg w a t ∧ t.length ≤ c ∧ c ≤ maxLen ∧ NmS w x l := by
  obtain ⟨fuel, hf⟩ := h
  cases fuel with
  | zero => simp [DataW.trod] at hf
  | succ fuel =>
    unfold DataW.trod at hf
    rw [Try.underlying25] at hf
    simp only [cellsC] at hf
    split at hf
    · next hlen =>
      generalize hcs : v.cells.toList = cs at hf hlen
      match cs, hlen with
      | [c0, c1, c2, c3], _ =>
        simp [cellsI, cellsT, cellsN, List.mapM_cons, Option.bind_eq_some_iff] at hf
        obtain ⟨a0, b0, h0, _, ⟨a1, b1, h1, _, ⟨a2, b2, h2, _, ⟨a3, b3, h3, _⟩, _⟩, _⟩, _⟩ := hf
        obtain ⟨n0, e0, _, _⟩ := DataW.trod_int Try.underlying3 h0
        obtain ⟨ta, t, tc, e1, ht, ht1, ht2⟩ := read_bytes h1
        obtain ⟨n2, e2, _, _⟩ := DataW.trod_int Try.underlying3 h2
        obtain ⟨u, l, e3, hl⟩ := read_nums h3
        simp at e0 e1 e2 e3
        subst e0 e1 e2 e3
        refine ⟨n0, n2, ta, t, tc, _, l, ?_, ht, ht1, ht2, hl⟩
        cases v <;> simp [Value.cells] at hcs
        rename_i cs
        cases cs
        simp at hcs
        simp [hcs]
    · simp at hf
end Go.Proofs.Ytbnaklmaphboeaa
