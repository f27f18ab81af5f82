/-
  Texts that a law leans on, one behind the other; no statement is proved here.
-/
import Derived.Test.YtdnodgngamcgcaaPk14
import Derived.Test.YtdnodgngamcgcaaPk0
import Derived.WalkKit
import Derived.ProofKit
import Derived.ChangeSlices
import Derived.ChangeArms
/-
  FnExactValGet answers true, whatever value and key it is handed: the too large, the found and the missing.
-/
namespace Go.Proofs.Ytdnodgngamcgcaa
open Go.RowKit Go.Shelf
set_option linter.unusedVariables false
set_option linter.unusedSimpArgs false

set_option maxHeartbeats 3200000 in
set_option maxRecDepth 100000 in
theorem get_long (c0 c1 c2 c3 c4 : Value) (ka : Option Addr) (kn kc : Nat) (w : World) (hf : ∃ (ck cn : Int) (a2 : Option Addr) (l2 p2 : Nat) (a3 : Option Addr) (l3 p3 : Nat) (a4 : Option Addr) (l4 p4 : Nat), c0 = .int .i64 ck ∧ c1 = .int .i64 cn ∧ c2 = .slice a2 l2 p2 ∧ c3 = .slice a3 l3 p3 ∧ c4 = .slice a4 l4 p4) (hkl : (1048576 : Int) < (kn : Int)) :
    Calls Try.prog 3 #[.agg #[c0, c1, c2, c3, c4], .slice ka kn kc] w fun e w' => e = .returned (.bool true) ∧ Below w.heap.size w w' := by
  have b0 : ∀ o : Obj, Below w.heap.size w (w.alloc o) := fun o => (Below.refl _ _).alloc (Nat.le_refl _) o
  have Hb := hide' b0
  obtain ⟨ck, cn, a2, l2, p2, a3, l3, p3, a4, l4, p4, rfl, rfl, rfl, rfl, rfl⟩ := hf
  clear b0
  go_enter Try.func3, Try.ntmps3
  go_wp2
  go_ret
  exact ⟨rfl, Hb.out _⟩

set_option maxHeartbeats 3200000 in
set_option maxRecDepth 100000 in
theorem get_big (d : Nat) (v : Vl (d + 1)) (ka : Option Addr) (kn kc : Nat) (c0 c1 c2 c3 c4 : Value) (w : World) (hv : VSeg (fun b => b < w.heap.size) w (d + 1) (c0, c1, c2, c3, c4) v) (hkl : ¬ (1048576 : Int) < (kn : Int)) (hz : (1048576 : Int) < szV (d + 1) v) :
    Calls Try.prog 3 #[.agg #[c0, c1, c2, c3, c4], .slice ka kn kc] w fun e w' => e = .returned (.bool true) ∧ Below w.heap.size w w' := by
  have b0 : ∀ o : Obj, Below w.heap.size w (w.alloc o) := fun o => (Below.refl _ _).alloc (Nat.le_refl _) o
  have HS : Hid (∀ wx, Below w.heap.size w wx → Calls Try.prog 6 #[.agg #[c0, c1, c2, c3, c4], .int .i64 1048576] wx fun e w' => e = .returned (.int .i64 (less 1048576 (szV (d + 1) v))) ∧ Below wx.heap.size wx w') := fun wx hb =>
    szValue_any (d + 1) w.heap.size (c0, c1, c2, c3, c4) v 1048576 wx (VSeg.agree (agree_below hb) (d + 1) hv) hb.size (by omega) (by omega)
  have Hb := hide' b0
  obtain ⟨ck, cn, a2, l2, p2, a3, l3, p3, a4, l4, p4, rfl, rfl, rfl, rfl, rfl⟩ := VSeg.form (d + 1) hv
  have hl : less 1048576 (szV (d + 1) v) = -1 := less_no _ _ hz
  rw [hl] at HS
  clear hl b0 hv hz
  go_enter Try.func3, Try.ntmps3
  go_wp2_with fail
  refine (HS.out _ (Hb.out _)).mono ?_
  rintro e w1 ⟨rfl, b1⟩
  have B1 := Below.on (Hb.out _) b1
  clear b1
  go_wp2
  go_ret
  exact ⟨rfl, B1⟩

theorem getD_in {α : Type} (l : List α) (i : Nat) (x : α) (h : i < l.length) : l.getD i x = l[i] := by simp [List.getD, List.getElem?_eq_getElem h]
theorem getD_out {α : Type} (l : List α) (i : Nat) (x : α) (h : ¬ i < l.length) : l.getD i x = x := by simp [List.getD, List.getElem?_eq_none (Nat.le_of_not_lt h)]

/-- The walk, once both calls' ends are known. -/
theorem get_of (d D : Nat) (v : Vl (d + 1)) (a : Vl (D + 1)) (bb : Bool) (key : List Int) (ka : Option Addr) (kc : Nat) (c0 c1 c2 c3 c4 : Value) (w : World) (hv : VSeg (fun b => b < w.heap.size) w (d + 1) (c0, c1, c2, c3, c4) v) (hS : Seg w ka key) (hkl : key.length ≤ 1048576) (hza : szV (D + 1) a ≤ 1048576) (hz : szV (d + 1) v ≤ 1048576) (hA : ∀ w e w', GetEnd d v key w e w' → Ans D a bb w e w') :
    Calls Try.prog 3 #[.agg #[c0, c1, c2, c3, c4], .slice ka key.length kc] w fun e w' => e = .returned (.bool true) ∧ Below w.heap.size w w' := by
  refine walk_get d D v a bb key ka kc c0 c1 c2 c3 c4 w hv hS hkl hza hz (hide' ?_) (hide' ?_)
  · intro u0 u1 u2 u3 u4 B wx wy xa xc hO hb hs
    obtain ⟨ck, cn, a2, l2, p2, a3, l3, p3, a4, l4, p4, rfl, rfl, rfl, rfl, rfl⟩ := VOwn.form (d + 1) hO
    exact (spec_ValGet_any d wx.heap.size ck cn a2 l2 p2 a3 l3 p3 a4 l4 p4 v xa xc key wy (hO.below hb) hb.size hs hs.lt hz).mono fun e w' h => hA _ _ _ h
  · intro u0 u1 u2 u3 u4 B wx wy xa xc hO hb hs
    exact (impl_ValGet_any d wx.heap.size u0 u1 u2 u3 u4 v xa xc key wy (hO.below hb) hb.size hs hs.lt (by unfold maxLen; omega)).mono fun e w' h => hA _ _ _ h

theorem walk_FnExactValGet (d : Nat) (c0 c1 c2 c3 c4 : Value) (v : Vl d) (key : List Int) (ka : Option Addr) (kc : Nat) (w : World) (hv : VSeg (fun b => b < w.heap.size) w d (c0, c1, c2, c3, c4) v) (hS : Seg w ka key) :
    Calls Try.prog 3 #[.agg #[c0, c1, c2, c3, c4], .slice ka key.length kc] w fun e w' => e = .returned (.bool true) ∧ Below w.heap.size w w' := by
  cases d with
  | zero => exact hv.elim
  | succ d =>
    by_cases hk : (1048576 : Int) < (key.length : Int)
    · exact get_long c0 c1 c2 c3 c4 ka key.length kc w (VSeg.form (d + 1) hv) hk
    by_cases hz : (1048576 : Int) < szV (d + 1) v
    · exact get_big d v ka key.length kc c0 c1 c2 c3 c4 w hv hk hz
    have hk' : key.length ≤ 1048576 := by omega
    have hz' : szV (d + 1) v ≤ 1048576 := by omega
    by_cases hf : okB (d + 1) v = true ∧ v.1 = 5 ∧ 0 ≤ findK v.2.2.2.1 key
    · cases d with
      | zero =>
        refine get_of 0 0 v (vNil 0) false key ka kc c0 c1 c2 c3 c4 w hv hS hk' (by rw [sz_vNil]; omega) hz' ?_
        rintro w e w' ⟨hb, ⟨k, hk, _, _, _, u0, u1, u2, u3, u4, _, B, hO, _⟩ | ⟨hn, _⟩⟩
        · exact hO.elim
        · exact absurd hf hn
      | succ d =>
        refine get_of (d + 1) d v (v.2.2.2.2.getD (findK v.2.2.2.1 key).toNat (vNil d)) true key ka kc c0 c1 c2 c3 c4 w hv hS hk' ?_ hz' ?_
        · by_cases hi : (findK v.2.2.2.1 key).toNat < v.2.2.2.2.length
          · have h1 := sz_elem (d := d + 1) hi
            have h2 : szV (d + 1 + 1) v = szT v.2.2.1 + szK v.2.2.2.1 + szL (d + 1) v.2.2.2.2 := rfl
            rw [getD_in _ _ _ hi]
            omega
          · rw [getD_out _ _ _ hi, sz_vNil]; omega
        · rintro w e w' ⟨hb, ⟨k, hk, _, _, hfk, u0, u1, u2, u3, u4, rfl, B, hO, hB⟩ | ⟨hn, _⟩⟩
          · refine ⟨u0, u1, u2, u3, u4, rfl, B, ?_, hB, hb⟩
            have hi : (findK v.2.2.2.1 key).toNat = k := by rw [hfk]; rfl
            rw [hi, getD_in _ _ _ hk]
            exact hO
          · exact absurd hf hn
    · refine get_of d 0 v (vNil 0) false key ka kc c0 c1 c2 c3 c4 w hv hS hk' (by rw [sz_vNil]; omega) hz' ?_
      rintro w e w' ⟨hb, ⟨k, hk, h1, h2, hfk, _⟩ | ⟨_, rfl⟩⟩
      · exact absurd ⟨h1, h2, by rw [hfk]; omega⟩ hf
      · exact ⟨_, _, _, _, _, rfl, [], own_vNil 0 w', by simp, hb⟩
end Go.Proofs.Ytdnodgngamcgcaa
/-
  A text that came in, as its reading has it, can be read: 'TSeg'.
-/
namespace Go.Proofs.Ytdnodgngamcgcaa
open Go.ChangeShapes Go.WideShapes Go.ChangeAt Go.RowKit
set_option linter.unusedVariables false
set_option linter.unusedSimpArgs false
set_option maxRecDepth 100000

theorem cellsT : Try.prog.cellsOf 22 = 1 := by kernel_rfl
theorem cellsI : Try.prog.cellsOf 3 = 1 := by kernel_rfl

theorem list_of {α : Type} {Q : Nat → α → Prop} : ∀ n, (∀ i, i < n → ∃ x, Q i x) → ∃ l : List α, l.length = n ∧ ∀ i (h : i < l.length), Q i l[i]
  | 0, _ => ⟨[], rfl, fun i h => by simp at h⟩
  | n + 1, hq => by
    obtain ⟨l, hl, hi⟩ := list_of n (fun i hi => hq i (by omega))
    obtain ⟨x, hx⟩ := hq n (by omega)
    refine ⟨l ++ [x], by simp [hl], fun i h => ?_⟩
    by_cases e : i < l.length
    · rw [List.getElem_append_left e]; exact hi i e
    · have : i = n := by simp at h; omega
      subst this
      rw [List.getElem_append_right (by omega)]
      simpa using hx

variable {H : Type} {enc : TypeId × Value → H} {w : World}

theorem read_text {fuel : Nat} {cs : List Value} {x : DataW H × List MemPlace} (h : DataW.trod enc Try.prog w 0 (fun _ => true) true fuel 22 cs = some x) : ∃ u xs, cs = [u] ∧ TSeg (fun b => b < w.heap.size) w u xs := by
  rcases open_ints Try.underlying22 Try.underlying5 (by kernel_rfl) h with ⟨rfl, _⟩ | ⟨a, len, cap, zs, rfl, _, hl, hm, hz, _, hcell, hwz⟩
  · exact ⟨_, [], rfl, none, 0, rfl, ⟨by simp, .inl rfl⟩, Nat.le_refl _, Nat.zero_le _, fun _ => rfl, by simp⟩
  · obtain ⟨xs, e, hs, h1, h2, h3⟩ := seg_of_row (w := w) (a := some a) (len := len) (cap := cap) (zs := zs) (.inr ⟨a, rfl, hl, hm, by simpa using hz, hcell, hwz⟩)
    subst e
    exact ⟨_, xs, rfl, some a, cap, rfl, hs, h1, h2, h3, hs.lt⟩

end Go.Proofs.Ytdnodgngamcgcaa
/-
  A value that came in, as its reading has it, can be read: 'VSeg'.
-/
namespace Go.Proofs.Ytdnodgngamcgcaa
open Go.ChangeShapes Go.WideShapes Go.ChangeAt Go.RowKit
set_option linter.unusedVariables false
set_option linter.unusedSimpArgs false
set_option maxRecDepth 100000

theorem cellsK : Try.prog.cellsOf 23 = 1 := by kernel_rfl
theorem cellsL : Try.prog.cellsOf 24 = 1 := by kernel_rfl
theorem cellsV : Try.prog.cellsOf 26 = 5 := by kernel_rfl
variable {H : Type} {enc : TypeId × Value → H} {w : World}

theorem read_keys {fuel : Nat} {cs : List Value} {x : DataW H × List MemPlace} (h : DataW.trod enc Try.prog w 0 (fun _ => true) true fuel 23 cs = some x) : ∃ u ks, cs = [u] ∧ KSeg (fun b => b < w.heap.size) w u ks := by
  rcases DataW.trod_slice Try.underlying23 h with ⟨rfl, _⟩ | ⟨a, len, cap, elems, rest, n, _, rfl, _, hb, hl, hm, hlen, hel, hsp, hns⟩
  · exact ⟨_, [], rfl, none, 0, rfl, Nat.le_refl _, Nat.zero_le _, fun _ => rfl, .inl rfl⟩
  · have hq : ∀ i, i < len → ∃ xs : List Int, ∃ u, w.cell? (a.add i) = some u ∧ TSeg (fun b => b < w.heap.size) w u xs := by
      intro i hi
      have h1 := hel i hi
      rw [cellsT, Nat.mul_one, List.getElem?_eq_getElem (by omega)] at h1
      obtain ⟨cs', hc, ht⟩ := Option.bind_eq_some_iff.1 h1
      obtain ⟨u, xs, rfl, hT⟩ := read_text ht
      exact ⟨xs, u, cell_of_cells?_one hc, hT⟩
    obtain ⟨ks, hkl, hks⟩ := list_of len hq
    subst hkl
    refine ⟨_, ks, rfl, some a, cap, rfl, hl, hm, by simp, ?_⟩
    by_cases he : ks = []
    · exact .inl he
    · have hp : 0 < ks.length := List.length_pos_iff.2 he
      obtain ⟨b, off, spot⟩ := a
      obtain ⟨u0, hu0, _⟩ := hks 0 hp
      have hspot : spot = none := by simpa [Addr.add] using World.cell?_spot hu0
      subst hspot
      refine .inr ⟨b, off, rfl, ?_, fun i hi => ?_⟩
      · have := World.block_lt_of_cell? w _ hu0
        simpa [Addr.add] using this
      · obtain ⟨u, hu, hT⟩ := hks i hi
        rw [Addr.add_lit] at hu
        exact ⟨u, hu, by simpa [List.getD_eq_getElem?_getD, hi] using hT⟩

theorem read_five {fuel : Nat} {cs : List Value} {x : DataW H × List MemPlace} (h : DataW.trod enc Try.prog w 0 (fun _ => true) true (fuel + 1) 26 cs = some x) :
    ∃ c0 c1 c2 c3 c4 y0 y1 y2 y3 y4, cs = [c0, c1, c2, c3, c4] ∧ DataW.trod enc Try.prog w 0 (fun _ => true) true fuel 3 [c0] = some y0 ∧ DataW.trod enc Try.prog w 0 (fun _ => true) true fuel 3 [c1] = some y1 ∧
      DataW.trod enc Try.prog w 0 (fun _ => true) true fuel 22 [c2] = some y2 ∧ DataW.trod enc Try.prog w 0 (fun _ => true) true fuel 23 [c3] = some y3 ∧ DataW.trod enc Try.prog w 0 (fun _ => true) true fuel 24 [c4] = some y4 := by
  unfold DataW.trod at h
  rw [Try.underlying26] at h
  simp only [cellsV] at h
  split at h
  · next hlen =>
    match cs, hlen with
    | [c0, c1, c2, c3, c4], _ =>
      simp [cellsT, cellsK, cellsL, cellsI, List.mapM_cons, Option.bind_eq_some_iff] at h
      obtain ⟨a0, b0, h0, _, ⟨a1, b1, h1, _, ⟨a2, b2, h2, _, ⟨a3, b3, h3, _, ⟨a4, b4, h4, _⟩, _⟩, _⟩, _⟩, _⟩ := h
      exact ⟨c0, c1, c2, c3, c4, _, _, _, _, _, rfl, h0, h1, h2, h3, h4⟩
  · simp at h

/-- How deep what is read with that fuel is at most. -/
def dep : Nat → Nat
  | 0 => 0
  | 1 => 0
  | f + 2 => dep f + 1

def ReadAt (enc : TypeId × Value → H) (w : World) (f : Nat) : Prop := ∀ (cs : List Value) (x : DataW H × List MemPlace), DataW.trod enc Try.prog w 0 (fun _ => true) true f 26 cs = some x →
  ∃ (c0 c1 c2 c3 c4 : Value) (v : Vl (dep f)), cs = [c0, c1, c2, c3, c4] ∧ VSeg (fun b => b < w.heap.size) w (dep f) (c0, c1, c2, c3, c4) v

theorem read_step (f : Nat) (ih : ReadAt enc w f) : ReadAt enc w (f + 2) := by
  intro cs x h
  obtain ⟨c0, c1, c2, c3, c4, y0, y1, y2, y3, y4, rfl, h0, h1, h2, h3, h4⟩ := read_five h
  obtain ⟨n0, e0, _, _⟩ := DataW.trod_int Try.underlying3 h0
  obtain ⟨n1, e1, _, _⟩ := DataW.trod_int Try.underlying3 h1
  obtain ⟨u2, xs, e2, hT⟩ := read_text h2
  obtain ⟨u3, ks, e3, hK⟩ := read_keys h3
  simp at e0 e1 e2 e3
  subst e0 e1 e2 e3
  have hL : ∃ l : List (Vl (dep f)), LSeg (fun b => b < w.heap.size) w (dep f) c4 l := by
    rcases DataW.trod_slice Try.underlying24 h4 with ⟨e, _⟩ | ⟨a, len, cap, elems, rest, n, hn, e, _, hb, hl, hm, hlen, hel, hsp, hns⟩
    · simp at e
      subst e
      exact ⟨[], none, 0, rfl, Nat.le_refl _, Nat.zero_le _, fun _ => rfl, .inl rfl⟩
    · simp at e
      subst e
      obtain rfl : n = f := by omega
      have hq : ∀ i, i < len → ∃ v : Vl (dep n), ∃ c0 c1 c2 c3 c4, (∀ j, j < 5 → w.cell? ((a.add (i * 5)).add j) = [c0, c1, c2, c3, c4][j]?) ∧ VSeg (fun b => b < w.heap.size) w (dep n) (c0, c1, c2, c3, c4) v := by
        intro i hi
        have h1 := hel i hi
        rw [cellsV, List.getElem?_eq_getElem (by omega)] at h1
        obtain ⟨cs', hc, ht⟩ := Option.bind_eq_some_iff.1 h1
        obtain ⟨d0, d1, d2, d3, d4, v, rfl, hv⟩ := ih cs' _ ht
        exact ⟨v, d0, d1, d2, d3, d4, (World.cells?_some hc).2.2, hv⟩
      obtain ⟨l, hll, hls⟩ := list_of len hq
      subst hll
      refine ⟨l, some a, cap, rfl, hl, hm, by simp, ?_⟩
      by_cases he : l = []
      · exact .inl he
      · have hp : 0 < l.length := List.length_pos_iff.2 he
        obtain ⟨b, off, spot⟩ := a
        obtain ⟨d0, d1, d2, d3, d4, hu0, _⟩ := hls 0 hp
        have hu := hu0 0 (by omega)
        simp [Addr.add] at hu
        have hspot : spot = none := by simpa using World.cell?_spot hu
        subst hspot
        refine .inr ⟨b, off, rfl, World.block_lt_of_cell? w _ hu, fun i hi => ?_⟩
        obtain ⟨d0, d1, d2, d3, d4, hu, hv⟩ := hls i hi
        have e : ∀ j, j < 5 → w.cell? ⟨b, off + i * 5 + j, none⟩ = [d0, d1, d2, d3, d4][j]? := by
          intro j hj
          have := hu j hj
          rw [Addr.add_lit, Addr.add_lit] at this
          exact this
        exact ⟨(d0, d1, d2, d3, d4), ⟨e 0 (by omega), e 1 (by omega), e 2 (by omega), e 3 (by omega), e 4 (by omega)⟩, hv⟩
  obtain ⟨l, hL⟩ := hL
  exact ⟨_, _, _, _, _, (n0, n1, xs, ks, l), rfl, (VSeg_succ _ _ _ _ _).2 ⟨rfl, rfl, hT, hK, hL⟩⟩

theorem read_both (f : Nat) : ReadAt enc w f ∧ ReadAt enc w (f + 1) := by
  induction f with
  | zero =>
    refine ⟨fun cs x h => by simp [DataW.trod] at h, fun cs x h => ?_⟩
    obtain ⟨_, _, _, _, _, _, _, _, _, _, _, h0, _⟩ := read_five h
    simp [DataW.trod] at h0
  | succ f ih => exact ⟨ih.2, read_step f ih.1⟩

/-- A value that came in. -/
theorem read_value {v : Value} {d : DataW H} {ps : List MemPlace} (h : DataW.Trod enc Try.prog w 0 (fun _ => true) true 26 v d ps) :
    ∃ c0 c1 c2 c3 c4 n, v = .agg #[c0, c1, c2, c3, c4] ∧ ∃ x : Vl n, VSeg (fun b => b < w.heap.size) w n (c0, c1, c2, c3, c4) x := by
  obtain ⟨fuel, hf⟩ := h
  obtain ⟨c0, c1, c2, c3, c4, x, e, hx⟩ := (read_both fuel).1 _ _ hf
  refine ⟨c0, c1, c2, c3, c4, dep fuel, ?_, x, hx⟩
  cases v <;> simp [Value.cells] at e
  rename_i cs
  cases cs
  simp at e
  simp [e]
end Go.Proofs.Ytdnodgngamcgcaa
