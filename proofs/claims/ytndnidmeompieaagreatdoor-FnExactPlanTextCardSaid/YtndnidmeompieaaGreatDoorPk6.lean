/-
  Texts that a law leans on, one behind the other; no statement is proved here.
-/
import Derived.Test.YtndnidmeompieaaGreatDoorPk5
import Derived.Test.YtndnidmeompieaaGreatDoorPk0
/-
  toActS: a list of records copied.
-/
namespace Go.Proofs.YtndnidmeompieaaGreatDoor
open Go.RowKit
set_option linter.unusedVariables false
set_option linter.unusedSimpArgs false

theorem infoRc : (Tryz.prog.info? 43).map (fun i => (i.zero, i.size, i.bytes)) = some (some (.agg #[.int .i64 0, .slice none 0 0, .int .i64 0, .int .i64 0, .int .i64 0, .slice none 0 0, .slice none 0 0, .slice none 0 0, .slice none 0 0]), 9, 152) := by kernel_rfl

/-- The first k records are laid. -/
def RPart (wr : World) (g n d : Nat) (l : List (Rcd d)) (k : Nat) : Prop :=
  wr.there g 0 (n * 9) ∧ g < wr.heap.size ∧ ∀ i (h : i < l.length), i < k → ∃ cs, wr.rangeAt g (i * 9) cs ∧ RSg (fun b => g < b ∧ b < wr.heap.size) wr d cs l[i]

theorem there_cut {w : World} {g n : Nat} (h : w.there g 0 n) (o m : Nat) (hm : o + m ≤ n) : w.there g o m := fun j hj => by
  have := h (o + j) (by omega)
  rw [Nat.zero_add] at this
  exact this
theorem there_below {w w' : World} {g o n : Nat} (h : w.there g o n) (hg : g < w.heap.size) (hb : Below w.heap.size w w') : w'.there g o n := fun j hj => by
  obtain ⟨h1, h2⟩ := h j hj
  exact ⟨by rw [World.cell?_of_block (w := w) (w' := w') (hb.block g hg)]; exact h1, by rw [World.frozen?_of_block (w := w) (w' := w') (hb.block g hg)]; exact h2⟩
theorem range_keep {w w' : World} {g o : Nat} {cs : List Value} (h : w.rangeAt g o cs) (hg : g < w.heap.size) (hb : Below w.heap.size w w') : w'.rangeAt g o cs := fun j v hv => (World.cell?_of_block (hb.block g hg)).trans (h j v hv)

theorem rPart_next {wr w2 : World} {g n d : Nat} {l : List (Rcd d)} {k : Nat} {cs : List Value} (h : RPart wr g n d l k) (hk : k < l.length) (hn : l.length ≤ n) (b2 : Below wr.heap.size wr w2) (hs : RSg (fun b => wr.heap.size ≤ b ∧ b < w2.heap.size) w2 d cs l[k]) :
    w2.there g (k * 9) 9 ∧ RPart (w2.setCells g (k * 9) cs) g n d l (k + 1) := by
  obtain ⟨h1, h2, h3⟩ := h
  have hlen := hs.len
  have hth := there_below h1 h2 b2
  have hg := grown_setCells g cs (k * 9) w2
  have hz := b2.size
  have hz2 := hg.size
  have htk := there_cut hth (k * 9) 9 (by omega)
  refine ⟨htk, World.there_setCells hth _ _ _, by omega, fun i hi hik => ?_⟩
  by_cases e : i = k
  · subst e
    refine ⟨cs, World.rangeAt_setCells_same _ _ _ _ (by rw [hlen]; exact htk), ?_⟩
    have ha : Agree (fun b => wr.heap.size ≤ b ∧ b < w2.heap.size) w2 (w2.setCells g (i * 9) cs) := fun b hb => hg.block b hb.2 (by have := hb.1; simp; omega)
    exact (hs.agree ha).mono fun b hb => ⟨by omega, by omega⟩
  · obtain ⟨cs', hr, hv⟩ := h3 i hi (by omega)
    have hl' := hv.len
    refine ⟨cs', World.rangeAt_setCells_apart (range_keep hr h2 b2) _ _ _ (by omega), ?_⟩
    have ha : Agree (fun b => g < b ∧ b < wr.heap.size) wr (w2.setCells g (k * 9) cs) := fun b hb => (hg.block b (by omega) (by have := hb.1; simp; omega)).trans (b2.block b hb.2)
    exact (hv.agree ha).mono fun b hb => ⟨hb.1, by omega⟩

/-- What toActS leaves. -/
def RcSEnd (d : Nat) (l : List (Rcd d)) (w : World) (e : Ending) (w' : World) : Prop := ∃ a c, e = .returned (.slice a l.length c) ∧ RLSg (fun b => w.heap.size ≤ b ∧ b < w'.heap.size) w' d (.slice a l.length c) l ∧ Below w.heap.size w w'

set_option maxHeartbeats 3200000 in
set_option maxRecDepth 100000 in
theorem toActS_any (d N : Nat) (x : Value) (l : List (Rcd d)) (w : World) (hx : RLSg (fun b => b < N) w d x l) (hN : N ≤ w.heap.size) (hn : l.length ≤ 1048576) (hz : ∀ i (h : i < l.length), RSz d l[i]) :
    Calls Tryz.prog 19 #[x] w (RcSEnd d l w) := by
  have HX := hide' hx
  have HZ := hide' hz
  obtain ⟨a, cap, rfl, _, _, _, _⟩ := hx
  obtain ⟨i0, hi, hz0, hz1, hz2⟩ := info_parts infoRc
  clear hz
  go_enter Tryz.func19, Tryz.ntmps19
  go_wp2_with (refine wpList_make_full _ rfl _ _ 28 rfl w.heap.size 43 i0 (.agg #[.int .i64 0, .slice none 0 0, .int .i64 0, .int .i64 0, .int .i64 0, .slice none 0 0, .slice none 0 0, .slice none 0 0, .slice none 0 0]) 9 Tryz.underlying28 hi hz0 hz1 .i64 .i64 _ _ l.length rfl rfl rfl rfl (by rw [hz2]; omega) (by unfold maxLen; omega) (Nat.le_refl _) ?_; intro w1 hown hgrow)
  have hK0 : Hid (RPart w1 w.heap.size l.length d l 0) := by
    rcases hown.2 with ⟨h1, _⟩ | ⟨g, cp, cur, h1, _, h3, _, _, h6, _⟩
    · simp at h1
    · simp only [Value.slice.injEq, Option.some.injEq, Addr.mk.injEq, and_true, true_and] at h1
      obtain ⟨e1, e2⟩ := h1
      subst e1
      refine ⟨?_, (Array.getElem?_eq_some_iff.1 h3).1, fun i hi h => by omega⟩
      have := there_of_row h3
      rw [h6, ← e2] at this
      exact this
  have hb1 : Below w.heap.size w w1 := (Below.refl _ _).grown hgrow (Nat.le_refl _) (by simp)
  clear hown hgrow
  go_loopw [4] (fun i wr => ∃ k : Nat, k ≤ l.length ∧ i = .int .i64 k ∧ Hid (RPart wr w.heap.size l.length d l k) ∧ Below w.heap.size w wr) (fun i _ => l.length - (intOf i).toNat)
  case atStart => exact ⟨0, Nat.zero_le _, rfl, hK0, hb1⟩
  case round =>
    obtain ⟨k, hk, rfl, hK, hbel⟩ := hrel
    clear hK0 hb1
    have hzz := hbel.size
    by_cases hlt : k < l.length
    · have hlt' : (k : Int) < (l.length : Int) := by omega
      have hXr := HX.out.agree (agree_below (hbel.mono hN))
      obtain ⟨b, off, cs, rfl, hbN, hr, hs⟩ := hXr.at hlt
      have HC := hide' (toAct_any d N cs l[k] wr hs (by omega) (HZ.out k hlt))
      have hlen := hs.len
      clear hs hXr
      go_wp2_with (refine wpList_load_mid rfl 60 (.tmp 18) (by rfl) b (off + k * 9) (by rfl) cs _ hr Tryz.underlying60 rfl (info_laws_Act hlen) ?_)
      refine HC.out.mono ?_
      rintro e w2 ⟨cs2, rfl, hs2, b2⟩
      obtain ⟨hth, hP⟩ := rPart_next hK.out hlt (Nat.le_refl _) b2 hs2
      have hl2 := hs2.len
      have HP := hide' hP
      have hone := all_oneCell_toArray hs2.one
      have hsz2 : cs2.toArray.size = 9 := by simpa using hl2
      have hth' : w2.there w.heap.size (k * 9) cs2.toArray.size := by rw [hsz2]; exact hth
      have hB := hide' ((Below.on hbel b2).grown (grown_setCells w.heap.size cs2 (k * 9) w2) (Below.on hbel b2).size (by intro j hj; simp at hj; omega))
      clear hP hs2 b2 hbel hr HC
      go_wp2_with (refine wpList_store_mid rfl 43 (.tmp 21) (.tmp 20) (by rfl) w.heap.size (k * 9) cs2.toArray (by rfl) (by rfl) hth' (info_Act hsz2) hone ?_)
      go_roundw
      case rel => exact ⟨k + 1, by omega, by go_num, HP, hB.out⟩
      case measure => simp [intOf]; omega
    · have hkn : k = l.length := by omega
      have hkn' : ¬ (k : Int) < (l.length : Int) := by omega
      have HF : Hid (RLSg (fun b => w.heap.size ≤ b ∧ b < wr.heap.size) wr d (.slice (some ⟨w.heap.size, 0, none⟩) l.length l.length) l) := by
        refine ⟨_, _, rfl, Nat.le_refl _, by unfold maxLen; omega, by simp, .inr ⟨w.heap.size, 0, rfl, ⟨Nat.le_refl _, hK.out.2.1⟩, fun i hi => ?_⟩⟩
        obtain ⟨cs, hr, hv⟩ := hK.out.2.2 i hi (by omega)
        exact ⟨cs, by rw [Nat.zero_add]; exact hr, hv.mono fun b hb => ⟨by omega, hb.2⟩⟩
      clear hkn hK
      go_wp2
      go_ret
      exact ⟨_, _, rfl, HF.out, hbel⟩
end Go.Proofs.YtndnidmeompieaaGreatDoor
/-
  eqItem, eqItemS: two readings of one list of records.
-/
namespace Go.Proofs.YtndnidmeompieaaGreatDoor
open Go.RowKit
set_option linter.unusedVariables false
set_option linter.unusedSimpArgs false

set_option maxHeartbeats 3200000 in
set_option maxRecDepth 100000 in
theorem eqAct_any (d N : Nat) (cs cs' : List Value) (it : Rcd d) (w : World) (h : RSg (fun b => b < N) w d cs it) (h' : RSg (fun b => b < N) w d cs' it) (hN : N ≤ w.heap.size) (hz : RSz d it) :
    Calls Tryz.prog 35 #[.agg cs.toArray, .agg cs'.toArray] w fun e w' => e = .returned (.bool true) ∧ Below w.heap.size w w' := by
  obtain ⟨na, np, bk, bn, a2, l2, p2, a3, l3, p3, a4, l4, p4, xa, xp, rfl, ht, hv, hk⟩ := h.form
  obtain ⟨na', np', bk', bn', a2', l2', p2', a3', l3', p3', a4', l4', p4', xa', xp', rfl, ht', hv', hk'⟩ := h'.form
  obtain ⟨k, nm, mn, by', ks⟩ := it
  obtain ⟨z0, z1, z2⟩ := hz
  simp only at ht hv hk ht' hv' hk' z0 z1 z2 ⊢
  have HB : Hid (∀ o o' : Obj, Below w.heap.size w ((w.alloc o).alloc o')) := fun o o' => ((Below.refl _ _).alloc (Nat.le_refl _) o).alloc (by simp) o'
  have Hbox : Hid (∀ o o' wx, Below ((w.alloc o).alloc o').heap.size ((w.alloc o).alloc o') wx → wx.heap[w.heap.size]? = some o ∧ wx.heap[w.heap.size + 1]? = some o') := fun o o' wx h => ⟨(h.block _ (by simp; omega)).trans (two_boxes w o o').1, (h.block _ (by simp)).trans (two_boxes w o o').2⟩
  have hA : ∀ wx, Below w.heap.size w wx → Agree (fun b => b < N) w wx := fun wx hb => agree_below (hb.mono hN)
  have HT : Hid (∀ wx, Below w.heap.size w wx → Calls Tryz.prog 8 #[.slice na nm.length np, .slice na' nm.length np'] wx fun e w' => e = .returned (.bool true) ∧ Below wx.heap.size wx w') := fun wx hb => by
    obtain ⟨_, _, e1, s1, _⟩ := ht.agree (hA wx hb)
    obtain ⟨_, _, e2, s2, _⟩ := ht'.agree (hA wx hb)
    simp at e1 e2
    obtain ⟨rfl, _⟩ := e1
    obtain ⟨rfl, _⟩ := e2
    exact eqByteS_same _ _ _ _ nm wx s1 s2 (by omega)
  have HV : Hid (∀ wx, Below w.heap.size w wx → Calls Tryz.prog 51 #[.agg #[.int .i64 bk, .int .i64 bn, .slice a2 l2 p2, .slice a3 l3 p3, .slice a4 l4 p4], .agg #[.int .i64 bk', .int .i64 bn', .slice a2' l2' p2', .slice a3' l3' p3', .slice a4' l4' p4']] wx fun e w' => e = .returned (.bool true) ∧ Below wx.heap.size wx w') := fun wx hb =>
    eqValue_any d N (.int .i64 bk, .int .i64 bn, .slice a2 l2 p2, .slice a3 l3 p3, .slice a4 l4 p4) (.int .i64 bk', .int .i64 bn', .slice a2' l2' p2', .slice a3' l3' p3', .slice a4' l4' p4') by' wx (VSeg.agree (hA wx hb) d hv) (VSeg.agree (hA wx hb) d hv') (by have := hb.size; omega) z1
  have HK : Hid (∀ wx, Below w.heap.size w wx → Calls Tryz.prog 52 #[.slice xa ks.length xp, .slice xa' ks.length xp'] wx fun e w' => e = .returned (.bool true) ∧ Below wx.heap.size wx w') := fun wx hb => eqByteSS_same N _ _ ks wx (hk.agree (hA wx hb)) (hk'.agree (hA wx hb)) (by have := hb.size; omega) z2

  clear ht hv hk ht' hv' hk' h h' hA
  generalize nm.length = s0 at *
  generalize ks.length = kl at *
  go_enter Tryz.func35, Tryz.ntmps35
  go_wp2_with fail
  refine (HT.out _ (HB.out _ _)).mono ?_
  rintro e w1 ⟨rfl, b1⟩
  obtain ⟨r1, r2⟩ := Hbox.out _ _ _ b1
  have u2 := cell_of_row _ _ 2 _ _ _ r1
  have t2 := cell_of_row _ _ 2 _ _ _ r2
  have u3 := cell_of_row _ _ 3 _ _ _ r1
  have t3 := cell_of_row _ _ 3 _ _ _ r2
  have u4 := cell_of_row _ _ 4 _ _ _ r1
  have t4 := cell_of_row _ _ 4 _ _ _ r2
  have u5 := cell_of_row _ _ 5 _ _ _ r1
  have t5 := cell_of_row _ _ 5 _ _ _ r2
  have u6 := cell_of_row _ _ 6 _ _ _ r1
  have t6 := cell_of_row _ _ 6 _ _ _ r2
  have u7 := cell_of_row _ _ 7 _ _ _ r1
  have t7 := cell_of_row _ _ 7 _ _ _ r2
  simp at u2 u3 u4 u5 u6 u7 t2 t3 t4 t5 t6 t7
  have B1 := hide' b1
  clear r1 r2 b1
  go_wp2_with fail
  refine (HV.out _ (Below.on (HB.out _ _) B1.out)).mono ?_
  rintro e w2 ⟨rfl, b2⟩
  have B2 := hide' (Below.on B1.out b2)
  obtain ⟨r1, r2⟩ := Hbox.out _ _ _ B2.out
  have u8 := cell_of_row _ _ 8 _ _ _ r1
  have t8 := cell_of_row _ _ 8 _ _ _ r2
  simp at u8 t8
  clear r1 r2 b2
  go_wp2_with fail
  refine (HK.out _ (Below.on (HB.out _ _) B2.out)).mono ?_
  rintro e w3 ⟨rfl, b3⟩
  have B3 := hide' (Below.on (HB.out _ _) (Below.on B2.out b3))
  clear b3
  go_wp2
  go_ret
  exact ⟨rfl, B3.out⟩

set_option maxHeartbeats 3200000 in
set_option maxRecDepth 100000 in
theorem eqActS_any (d N : Nat) (x y : Value) (l : List (Rcd d)) (w : World) (hx : RLSg (fun b => b < N) w d x l) (hy : RLSg (fun b => b < N) w d y l) (hN : N ≤ w.heap.size) (hll : l.length ≤ 1048576) (hz : ∀ i (h : i < l.length), RSz d l[i]) :
    Calls Tryz.prog 23 #[x, y] w fun e w' => e = .returned (.bool true) ∧ Below w.heap.size w w' := by
  have HX := hide' hx
  have HY := hide' hy
  have HZ := hide' hz
  obtain ⟨a, cap, rfl, _, _, _, _⟩ := hx
  obtain ⟨a', cap', rfl, _, _, _, _⟩ := hy
  clear hz
  go_enter Tryz.func23, Tryz.ntmps23
  go_wp2
  go_loopw [5] (fun i wr => ∃ k : Nat, k ≤ l.length ∧ i = .int .i64 k ∧ Below w.heap.size w wr) (fun i _ => l.length - (intOf i).toNat)
  case atStart => exact ⟨0, Nat.zero_le _, rfl, Below.refl _ _⟩
  case round =>
    obtain ⟨k, hk, rfl, hbel⟩ := hrel
    have hz := hbel.size
    by_cases hlt : k < l.length
    · have hlt' : (k : Int) < (l.length : Int) := by omega
      have hXr := HX.out.agree (agree_below (hbel.mono hN))
      have hYr := HY.out.agree (agree_below (hbel.mono hN))
      obtain ⟨b, off, cs, rfl, hbN, hr, hs⟩ := hXr.at hlt
      obtain ⟨b', off', cs', rfl, hbN', hr', hs'⟩ := hYr.at hlt
      have HC := hide' (eqAct_any d N cs cs' l[k] wr.drew (hs.agree (w' := wr.drew) (fun b _ => rfl)) (hs'.agree (w' := wr.drew) (fun b _ => rfl)) (by show N ≤ wr.heap.size; omega) (HZ.out k hlt))
      have hlen := hs.len
      have hlen' := hs'.len
      obtain ⟨na, np, bk, bn, a2, l2, p2, a3, l3, p3, a4, l4, p4, xa, xp, rfl, _⟩ := hs.form
      obtain ⟨na', np', bk', bn', a2', l2', p2', a3', l3', p3', a4', l4', p4', xa', xp', rfl, _⟩ := hs'.form
      have u0 := hr 0 _ rfl
      have t0 := hr' 0 _ rfl
      have u1 := hr 1 _ rfl
      have t1 := hr' 1 _ rfl
      have u2 := hr 2 _ rfl
      have t2 := hr' 2 _ rfl
      have u3 := hr 3 _ rfl
      have t3 := hr' 3 _ rfl
      have u4 := hr 4 _ rfl
      have t4 := hr' 4 _ rfl
      have u5 := hr 5 _ rfl
      have t5 := hr' 5 _ rfl
      have u6 := hr 6 _ rfl
      have t6 := hr' 6 _ rfl
      have u7 := hr 7 _ rfl
      have t7 := hr' 7 _ rfl
      have u8 := hr 8 _ rfl
      have t8 := hr' 8 _ rfl
      simp only [Nat.add_zero] at u0 t0
      have HB := hide' hbel
      clear hs hXr hs' hYr hr hr' hlen hlen' hbel
      generalize l[k] = it at *
      obtain ⟨ik, inm, imn, iby, iks⟩ := it
      simp only at u0 u1 u2 u3 u4 u5 u6 u7 u8 t0 t1 t2 t3 t4 t5 t6 t7 t8 HC
      go_wp2_with fail
      go_region_with (go_at_call 35; refine HC.out.mono ?_; rintro e w1 ⟨rfl, b1⟩)
      all_goals
        have B1 := Below.on HB.out.drew b1
        clear u0 u1 u2 u3 u4 u5 u6 u7 u8 t0 t1 t2 t3 t4 t5 t6 t7 t8
        go_wp2
        go_roundw
        case rel => exact ⟨k + 1, by omega, by go_num, B1⟩
        case measure => simp [intOf]; omega
    · have hlt' : ¬ (k : Int) < (l.length : Int) := by omega
      go_wp2
      go_ret
      exact ⟨rfl, hbel⟩
end Go.Proofs.YtndnidmeompieaaGreatDoor
/-
  bytes.Compare of two slices of bytes.
-/
namespace Go.Proofs.YtndnidmeompieaaGreatDoor
open Go.RowKit
set_option linter.unusedVariables false

set_option maxHeartbeats 800000 in
set_option maxRecDepth 100000 in
theorem bytes_Compare_any (a b : Option Addr) (c1 c2 : Nat) (xs ys : List Int) (w : World) (ha : Seg w a xs) (hb : Seg w b ys) :
    Calls Tryz.prog 126 #[.slice a xs.length c1, .slice b ys.length c2] w fun e w' => e = .returned (.int .i64 (Lib.compareBytes (u8s xs) (u8s ys))) ∧ w = w' := by
  go_enter Tryz.func126, Tryz.ntmps126
  go_wp2
  rw [run_callFunc_extern Tryz.func148 (by kernel_rfl) (by kernel_rfl) (by kernel_rfl) (e := Extern.BytealgCompare.compare) (by kernel_rfl), run_compare_seg c1 c2 ha hb]
  simp only [Result.andThen]
  rw [Oper.upon_value]
  go_wp2
  go_ret
  exact ⟨rfl, rfl⟩

end Go.Proofs.YtndnidmeompieaaGreatDoor
/-
  A text, a number of a value, names that ascend: textOk, ascendingNames of the program, l2text, l2int of the specification; they only read.
-/
namespace Go.Proofs.YtndnidmeompieaaGreatDoor
open Go.RowKit
set_option linter.unusedVariables false

/-- A byte of a text. -/
def chrB (c : Int) : Bool := decide (32 ≤ c) && decide (c ≤ 126)
/-- A text. -/
def textB (xs : List Int) : Bool := decide (xs.length ≤ 20) && xs.all chrB
theorem textB_long (xs : List Int) (h : 20 < xs.length) : textB xs = false := by simp [textB]; omega
theorem textB_all (xs : List Int) (h2 : xs.length ≤ 20) : textB xs = xs.all chrB := by simp [textB, h2]

set_option maxHeartbeats 800000 in
theorem impl_textOk_any (a : Option Addr) (c1 : Nat) (xs : List Int) (w : World) (ha : Seg w a xs) (hl : xs.length ≤ maxLen) :
    Calls Tryz.prog 85 #[.slice a xs.length c1] w fun e w' => e = .returned (.bool (textB xs)) ∧ w = w' := by
  unfold maxLen at hl
  by_cases h2 : 20 < xs.length
  · have HO : Hid (textB xs = false) := textB_long xs h2
    have h2' : (20 : Int) < (xs.length : Int) := by omega
    go_enter Tryz.func85, Tryz.ntmps85
    go_wp2
    go_ret
    exact ⟨ret_bool HO.out.symm, rfl⟩
  have HO : Hid (textB xs = xs.all chrB) := textB_all xs (by omega)
  have hb := getD_byt ha.1
  generalize hn : xs.length = n at *
  have Hn : Hid (xs.length = n) := hn
  have h2' : ¬ (20 : Int) < (n : Int) := by omega
  clear hn
  go_enter Tryz.func85, Tryz.ntmps85
  go_wp2
  go_loopw [10] (fun i wr => ∃ k : Nat, k ≤ n ∧ i = .int .i64 k ∧ fstAll chrB xs k ∧ wr = w) (fun i _ => n - (intOf i).toNat)
  case atStart => exact ⟨0, Nat.zero_le _, rfl, fstAll_zero _ _, rfl⟩
  case round =>
    obtain ⟨k, hk, rfl, hall, rfl⟩ := hrel
    by_cases hlt : k < n
    · obtain ⟨b1, o1, rfl, hc1⟩ := ha.at (k := k) (by have := Hn.out; omega)
      have hbk := hb k
      have HS : Hid (chrB (xs.getD k 0) = true → fstAll chrB xs (k + 1)) := fun h => fstAll_succ hall h
      have HN : Hid (chrB (xs.getD k 0) = false → xs.all chrB = false) := fun h => not_all_of (by have := Hn.out; omega) h
      generalize xs.getD k 0 = c at hc1 hbk HS HN
      have hlt' : (k : Int) < (n : Int) := by omega
      obtain ⟨hb1, hb2⟩ := hbk
      by_cases hc : c < 32
      · have HF : Hid (xs.all chrB = false) := HN.out (by simp [chrB]; omega)
        go_wp2
        go_ret
        exact ⟨ret_bool (by rw [HO.out, HF.out]), rfl⟩
      · by_cases hd : 126 < c
        · have HF : Hid (xs.all chrB = false) := HN.out (by simp [chrB]; omega)
          go_wp2
          go_ret
          exact ⟨ret_bool (by rw [HO.out, HF.out]), rfl⟩
        · have HF : Hid (fstAll chrB xs (k + 1)) := HS.out (by simp [chrB]; omega)
          go_wp2
          go_roundw
          case rel => exact ⟨k + 1, by omega, by go_num, HF.out, by first | rfl | trivial⟩
          case measure => simp [intOf]; omega
    · have HF : Hid (xs.all chrB = true) := all_of_fstAll (by rw [Hn.out]; have e : k = n := by omega
                                                              rw [← e]; exact hall)
      have hlt' : ¬ (k : Int) < (n : Int) := by omega
      go_wp2
      go_ret
      exact ⟨ret_bool (by rw [HO.out, HF.out]), rfl⟩

set_option maxHeartbeats 800000 in
theorem spec_l2text_any (a : Option Addr) (c1 : Nat) (xs : List Int) (w : World) (ha : Seg w a xs) (hl : xs.length ≤ maxLen) :
    Calls Tryz.prog 43 #[.slice a xs.length c1] w fun e w' => e = .returned (.bool (textB xs)) ∧ w = w' := by
  unfold maxLen at hl
  by_cases h2 : 20 < xs.length
  · have HO : Hid (textB xs = false) := textB_long xs h2
    have h2' : (20 : Int) < (xs.length : Int) := by omega
    go_enter Tryz.func43, Tryz.ntmps43
    go_wp2
    go_ret
    exact ⟨ret_bool HO.out.symm, rfl⟩
  have HO : Hid (textB xs = xs.all chrB) := textB_all xs (by omega)
  have hb := getD_byt ha.1
  generalize hn : xs.length = n at *
  have Hn : Hid (xs.length = n) := hn
  have h2' : ¬ (20 : Int) < (n : Int) := by omega
  clear hn
  go_enter Tryz.func43, Tryz.ntmps43
  go_wp2
  go_loopw [3] (fun i wr => ∃ k : Nat, k ≤ n ∧ i = .int .i64 k ∧ fstAll chrB xs k ∧ wr = w) (fun i _ => n - (intOf i).toNat)
  case atStart => exact ⟨0, Nat.zero_le _, rfl, fstAll_zero _ _, rfl⟩
  case round =>
    obtain ⟨k, hk, rfl, hall, rfl⟩ := hrel
    by_cases hlt : k < n
    · obtain ⟨b1, o1, rfl, hc1⟩ := ha.at (k := k) (by have := Hn.out; omega)
      have hbk := hb k
      have HS : Hid (chrB (xs.getD k 0) = true → fstAll chrB xs (k + 1)) := fun h => fstAll_succ hall h
      have HN : Hid (chrB (xs.getD k 0) = false → xs.all chrB = false) := fun h => not_all_of (by have := Hn.out; omega) h
      generalize xs.getD k 0 = c at hc1 hbk HS HN
      have hlt' : (k : Int) < (n : Int) := by omega
      obtain ⟨hb1, hb2⟩ := hbk
      by_cases hc : c < 32
      · have HF : Hid (xs.all chrB = false) := HN.out (by simp [chrB]; omega)
        go_wp2
        go_ret
        exact ⟨ret_bool (by rw [HO.out, HF.out]), rfl⟩
      · by_cases hd : 126 < c
        · have HF : Hid (xs.all chrB = false) := HN.out (by simp [chrB]; omega)
          go_wp2
          go_ret
          exact ⟨ret_bool (by rw [HO.out, HF.out]), rfl⟩
        · have HF : Hid (fstAll chrB xs (k + 1)) := HS.out (by simp [chrB]; omega)
          go_wp2
          go_roundw
          case rel => exact ⟨k + 1, by omega, by go_num, HF.out, by first | rfl | trivial⟩
          case measure => simp [intOf]; omega
    · have HF : Hid (xs.all chrB = true) := all_of_fstAll (by rw [Hn.out]; have e : k = n := by omega
                                                              rw [← e]; exact hall)
      have hlt' : ¬ (k : Int) < (n : Int) := by omega
      go_wp2
      go_ret
      exact ⟨ret_bool (by rw [HO.out, HF.out]), rfl⟩

/-- The name at place i is one, and behind the one ahead of it. -/
def stepB (ks : List (List Int)) (i : Nat) : Bool := nameB (ks.getD i []) && (i == 0 || ltS (ks.getD (i - 1) []) (ks.getD i []))
/-- Names that ascend. -/
def ascB (ks : List (List Int)) : Bool := (List.range ks.length).all (stepB ks)
theorem ascB_yes {ks : List (List Int)} (h : ∀ i, i < ks.length → stepB ks i = true) : ascB ks = true := by
  rw [ascB, List.all_eq_true]
  intro i hi
  exact h i (List.mem_range.1 hi)
theorem ascB_no {ks : List (List Int)} {i : Nat} (hi : i < ks.length) (h : stepB ks i = false) : ascB ks = false := by
  rw [ascB, List.all_eq_false]
  exact ⟨i, List.mem_range.2 hi, by simp [h]⟩
theorem ascB_at {ks : List (List Int)} (h : ascB ks = true) {i : Nat} (hi : i < ks.length) : stepB ks i = true := by
  rw [ascB, List.all_eq_true] at h
  exact h i (List.mem_range.2 hi)

theorem KSeg.at {R : Nat → Prop} {w : World} {a : Option Addr} {n cap : Nat} {ks : List (List Int)} (h : KSeg R w (.slice a n cap) ks) {k : Nat} (hk : k < ks.length) :
    ∃ b off, a = some ⟨b, off, none⟩ ∧ ∀ i, i < ks.length → ∃ a2 c2, w.cell? ⟨b, off + i, none⟩ = some (.slice a2 (ks.getD i []).length c2) ∧ Seg w a2 (ks.getD i []) ∧ (ks.getD i []).length ≤ maxLen := by
  obtain ⟨a', cap', h1, h2, h3, h4, h5⟩ := h
  simp only [Value.slice.injEq] at h1
  obtain ⟨rfl, _, _⟩ := h1
  rcases h5 with h0 | ⟨b, off, rfl, _, hc⟩
  · subst h0; simp at hk
  · refine ⟨b, off, rfl, fun i hi => ?_⟩
    obtain ⟨u, hu, a2, c2, rfl, s2, l2, m2, _⟩ := hc i hi
    exact ⟨a2, c2, hu, s2, by omega⟩

set_option maxHeartbeats 1600000 in
theorem ascendingNames_any (R : Nat → Prop) (x : Value) (ks : List (List Int)) (w : World) (hx : KSeg R w x ks) :
    Calls Tryz.prog 109 #[x] w fun e w' => e = .returned (.bool (ascB ks)) ∧ w = w' := by
  have HX : Hid (KSeg R w x ks) := hx
  obtain ⟨a, cap, rfl, hlc, hcm, ka, hc⟩ := hx
  unfold maxLen at hcm
  clear hc
  have HY : Hid ((∀ i, i < ks.length → stepB ks i = true) → ascB ks = true) := ascB_yes
  have HNo : Hid (∀ i, i < ks.length → stepB ks i = false → ascB ks = false) := fun i hi h => ascB_no hi h
  go_enter Tryz.func109, Tryz.ntmps109
  go_wp2
  go_loopw [7] (fun i wr => ∃ k : Nat, k ≤ ks.length ∧ i = .int .i64 k ∧ (∀ j, j < k → stepB ks j = true) ∧ wr = w) (fun i _ => ks.length - (intOf i).toNat)
  case atStart => exact ⟨0, Nat.zero_le _, rfl, fun j h => by omega, rfl⟩
  case round =>
    obtain ⟨k, hk, rfl, hall, rfl⟩ := hrel
    by_cases hlt : k < ks.length
    · obtain ⟨b, off, rfl, hat⟩ := HX.out.at hlt
      have hlt' : (k : Int) < (ks.length : Int) := by omega
      obtain ⟨a2, c2, hu, s2, m2⟩ := hat k hlt
      by_cases hn : nameB (ks.getD k []) = true
      · cases k with
        | zero =>
          have HS : Hid (stepB ks 0 = true) := by simp [Hid, stepB]; simpa using hn
          have HN := hide' (impl_NameOk_any a2 c2 (ks.getD 0 []) wr s2 m2)
          rw [hn] at HN
          generalize (ks.getD 0 []) = ys at *
          simp only [Nat.add_zero] at hu
          clear hat
          go_wp2_with fail
          refine HN.out.mono ?_
          rintro e w1 ⟨rfl, e1⟩
          obtain rfl := e1
          go_wp2
          go_roundw
          case rel => exact ⟨1, by omega, by go_num, fun j hj => by obtain rfl : j = 0 := by omega
                                                                    exact HS.out, by first | rfl | trivial⟩
          case measure => simp [intOf]; omega
        | succ j =>
          obtain ⟨a3, c3, hu3, s3, m3⟩ := hat j (by omega)
          have hst : stepB ks (j + 1) = ltS (ks.getD j []) (ks.getD (j + 1) []) := by simp only [stepB, hn]; simp
          have HN := hide' (impl_NameOk_any a2 c2 (ks.getD (j + 1) []) wr s2 m2)
          rw [hn] at HN
          have HC := hide' (bytes_Compare_any a3 a2 c3 c2 (ks.getD j []) (ks.getD (j + 1) []) wr s3 s2)
          have hlc : ltS (ks.getD j []) (ks.getD (j + 1) []) = decide (Lib.compareBytes (u8s (ks.getD j [])) (u8s (ks.getD (j + 1) [])) < 0) := less_cmp _ _
          rw [hlc] at hst
          have hcr := cmp_range (u8s (ks.getD j [])) (u8s (ks.getD (j + 1) []))
          have HS := hide' hst
          generalize Lib.compareBytes (u8s (ks.getD j [])) (u8s (ks.getD (j + 1) [])) = q at *
          generalize (ks.getD (j + 1) []) = ys at *
          generalize (ks.getD j []) = zs at *
          clear hat hst hlc hn s2 s3
          go_wp2_with fail
          refine HN.out.mono ?_
          rintro e w1 ⟨rfl, e1⟩
          obtain rfl := e1
          go_wp2_with fail
          refine HC.out.mono ?_
          rintro e w1 ⟨rfl, e1⟩
          obtain rfl := e1
          by_cases hq : 0 ≤ q
          · have HF : Hid (ascB ks = false) := HNo.out (j + 1) (by omega) (by rw [HS.out]; simpa using hq)
            go_wp2
            go_ret
            exact ⟨ret_bool HF.out.symm, rfl⟩
          · have HF : Hid (stepB ks (j + 1) = true) := by show stepB ks (j + 1) = true; rw [HS.out]; simpa using hq
            go_wp2
            go_roundw
            case rel => exact ⟨j + 2, by omega, by go_num, fun i hi => by
                                by_cases e : i = j + 1
                                · rw [e]; exact HF.out
                                · exact hall i (by omega), by first | rfl | trivial⟩
            case measure => simp [intOf]; omega
      · have hn' : nameB (ks.getD k []) = false := by simpa using hn
        have HF : Hid (ascB ks = false) := HNo.out k hlt (by unfold stepB; rw [hn']; rfl)
        have HN := hide' (impl_NameOk_any a2 c2 (ks.getD k []) wr s2 m2)
        rw [hn'] at HN
        generalize (ks.getD k []) = ys at *
        clear hat hn hn'
        go_wp2_with fail
        refine HN.out.mono ?_
        rintro e w1 ⟨rfl, e1⟩
        obtain rfl := e1
        go_wp2
        go_ret
        exact ⟨ret_bool HF.out.symm, rfl⟩
    · have HF : Hid (ascB ks = true) := HY.out (fun i hi => hall i (by omega))
      have hlt' : ¬ (k : Int) < (ks.length : Int) := by omega
      go_wp2
      go_ret
      exact ⟨ret_bool HF.out.symm, rfl⟩
end Go.Proofs.YtndnidmeompieaaGreatDoor
/-
  What l2int of the specification answers.
-/
namespace Go.Proofs.YtndnidmeompieaaGreatDoor
open Go.RowKit
set_option linter.unusedVariables false

/-- A number of a value. -/
def intB (n : Int) : Bool := decide (-1000000000000 ≤ n) && decide (n ≤ 1000000000000)

set_option maxHeartbeats 800000 in
theorem spec_l2int_any (n : Int) (w : World) :
    Calls Tryz.prog 42 #[.int .i64 n] w fun e w' => e = .returned (.bool (intB n)) ∧ w = w' := by
  by_cases h1 : -1000000000000 ≤ n
  · by_cases h2 : n ≤ 1000000000000
    · have HO : Hid (intB n = true) := by simp [Hid, intB, h1, h2]
      go_enter Tryz.func42, Tryz.ntmps42
      go_wp2
      go_ret
      exact ⟨ret_bool HO.out.symm, rfl⟩
    · have HO : Hid (intB n = false) := by simp [Hid, intB, h2]
      go_enter Tryz.func42, Tryz.ntmps42
      go_wp2
      go_ret
      exact ⟨ret_bool HO.out.symm, rfl⟩
  · have HO : Hid (intB n = false) := by simp [Hid, intB, h1]
    go_enter Tryz.func42, Tryz.ntmps42
    go_wp2
    go_ret
    exact ⟨ret_bool HO.out.symm, rfl⟩
end Go.Proofs.YtndnidmeompieaaGreatDoor
/-
  bare of the program: it tells whether all fields are nought that a kind does not have.
-/
namespace Go.Proofs.YtndnidmeompieaaGreatDoor
open Go.RowKit
set_option linter.unusedVariables false
set_option linter.unusedSimpArgs false

/-- All fields are nought that the kind does not have. -/
def bareB (vk vn : Int) (n2 n3 n4 : Nat) : Bool := (decide (vk = 1) || decide (vk = 2) || decide (vn = 0)) && (decide (vk = 3) || decide (n2 = 0)) && (decide (vk = 5) || decide (n3 = 0)) && (decide (vk = 4) || decide (vk = 5) || decide (n4 = 0))

set_option maxHeartbeats 4000000 in
theorem impl_bare_any (vk vn : Int) (a2 a3 a4 : Option Addr) (n2 n3 n4 p2 p3 p4 : Nat) (w : World) :
    Calls Tryz.prog 84 #[.agg #[.int .i64 vk, .int .i64 vn, .slice a2 n2 p2, .slice a3 n3 p3, .slice a4 n4 p4]] w fun e w' => e = .returned (.bool (bareB vk vn n2 n3 n4)) ∧ Below w.heap.size w w' := by
  have Hb : Hid (∀ o : Obj, Below w.heap.size w (w.alloc o)) := fun o => (Below.refl _ _).alloc (Nat.le_refl _) o
  by_cases k1 : vk = 1
  · subst k1
    by_cases an2 : n2 = 0
    · subst an2
      by_cases an3 : n3 = 0
      · subst an3
        by_cases an4 : n4 = 0
        · subst an4
          go_enter Tryz.func84, Tryz.ntmps84
          go_wp2
          go_ret
          exact ⟨ret_bool (by simp [bareB, *]), Hb.out _⟩
        · have bn4 : ¬ (n4 : Int) = 0 := by omega
          go_enter Tryz.func84, Tryz.ntmps84
          go_wp2
          go_ret
          exact ⟨ret_bool (by simp [bareB, *]), Hb.out _⟩
      · have bn3 : ¬ (n3 : Int) = 0 := by omega
        go_enter Tryz.func84, Tryz.ntmps84
        go_wp2
        go_ret
        exact ⟨ret_bool (by simp [bareB, *]), Hb.out _⟩
    · have bn2 : ¬ (n2 : Int) = 0 := by omega
      go_enter Tryz.func84, Tryz.ntmps84
      go_wp2
      go_ret
      exact ⟨ret_bool (by simp [bareB, *]), Hb.out _⟩
  by_cases k2 : vk = 2
  · subst k2
    by_cases an2 : n2 = 0
    · subst an2
      by_cases an3 : n3 = 0
      · subst an3
        by_cases an4 : n4 = 0
        · subst an4
          go_enter Tryz.func84, Tryz.ntmps84
          go_wp2
          go_ret
          exact ⟨ret_bool (by simp [bareB, *]), Hb.out _⟩
        · have bn4 : ¬ (n4 : Int) = 0 := by omega
          go_enter Tryz.func84, Tryz.ntmps84
          go_wp2
          go_ret
          exact ⟨ret_bool (by simp [bareB, *]), Hb.out _⟩
      · have bn3 : ¬ (n3 : Int) = 0 := by omega
        go_enter Tryz.func84, Tryz.ntmps84
        go_wp2
        go_ret
        exact ⟨ret_bool (by simp [bareB, *]), Hb.out _⟩
    · have bn2 : ¬ (n2 : Int) = 0 := by omega
      go_enter Tryz.func84, Tryz.ntmps84
      go_wp2
      go_ret
      exact ⟨ret_bool (by simp [bareB, *]), Hb.out _⟩
  by_cases k3 : vk = 3
  · subst k3
    by_cases an : vn = 0
    · subst an
      by_cases an3 : n3 = 0
      · subst an3
        by_cases an4 : n4 = 0
        · subst an4
          go_enter Tryz.func84, Tryz.ntmps84
          go_wp2
          go_ret
          exact ⟨ret_bool (by simp [bareB, *]), Hb.out _⟩
        · have bn4 : ¬ (n4 : Int) = 0 := by omega
          go_enter Tryz.func84, Tryz.ntmps84
          go_wp2
          go_ret
          exact ⟨ret_bool (by simp [bareB, *]), Hb.out _⟩
      · have bn3 : ¬ (n3 : Int) = 0 := by omega
        go_enter Tryz.func84, Tryz.ntmps84
        go_wp2
        go_ret
        exact ⟨ret_bool (by simp [bareB, *]), Hb.out _⟩
    · go_enter Tryz.func84, Tryz.ntmps84
      go_wp2
      go_ret
      exact ⟨ret_bool (by simp [bareB, *]), Hb.out _⟩
  by_cases k4 : vk = 4
  · subst k4
    by_cases an : vn = 0
    · subst an
      by_cases an2 : n2 = 0
      · subst an2
        by_cases an3 : n3 = 0
        · subst an3
          go_enter Tryz.func84, Tryz.ntmps84
          go_wp2
          go_ret
          exact ⟨ret_bool (by simp [bareB, *]), Hb.out _⟩
        · have bn3 : ¬ (n3 : Int) = 0 := by omega
          go_enter Tryz.func84, Tryz.ntmps84
          go_wp2
          go_ret
          exact ⟨ret_bool (by simp [bareB, *]), Hb.out _⟩
      · have bn2 : ¬ (n2 : Int) = 0 := by omega
        go_enter Tryz.func84, Tryz.ntmps84
        go_wp2
        go_ret
        exact ⟨ret_bool (by simp [bareB, *]), Hb.out _⟩
    · go_enter Tryz.func84, Tryz.ntmps84
      go_wp2
      go_ret
      exact ⟨ret_bool (by simp [bareB, *]), Hb.out _⟩
  by_cases k5 : vk = 5
  · subst k5
    by_cases an : vn = 0
    · subst an
      by_cases an2 : n2 = 0
      · subst an2
        go_enter Tryz.func84, Tryz.ntmps84
        go_wp2
        go_ret
        exact ⟨ret_bool (by simp [bareB, *]), Hb.out _⟩
      · have bn2 : ¬ (n2 : Int) = 0 := by omega
        go_enter Tryz.func84, Tryz.ntmps84
        go_wp2
        go_ret
        exact ⟨ret_bool (by simp [bareB, *]), Hb.out _⟩
    · go_enter Tryz.func84, Tryz.ntmps84
      go_wp2
      go_ret
      exact ⟨ret_bool (by simp [bareB, *]), Hb.out _⟩
  by_cases an : vn = 0
  · subst an
    by_cases an2 : n2 = 0
    · subst an2
      by_cases an3 : n3 = 0
      · subst an3
        by_cases an4 : n4 = 0
        · subst an4
          go_enter Tryz.func84, Tryz.ntmps84
          go_wp2
          go_ret
          exact ⟨ret_bool (by simp [bareB, *]), Hb.out _⟩
        · have bn4 : ¬ (n4 : Int) = 0 := by omega
          go_enter Tryz.func84, Tryz.ntmps84
          go_wp2
          go_ret
          exact ⟨ret_bool (by simp [bareB, *]), Hb.out _⟩
      · have bn3 : ¬ (n3 : Int) = 0 := by omega
        go_enter Tryz.func84, Tryz.ntmps84
        go_wp2
        go_ret
        exact ⟨ret_bool (by simp [bareB, *]), Hb.out _⟩
    · have bn2 : ¬ (n2 : Int) = 0 := by omega
      go_enter Tryz.func84, Tryz.ntmps84
      go_wp2
      go_ret
      exact ⟨ret_bool (by simp [bareB, *]), Hb.out _⟩
  · go_enter Tryz.func84, Tryz.ntmps84
    go_wp2
    go_ret
    exact ⟨ret_bool (by simp [bareB, *]), Hb.out _⟩
end Go.Proofs.YtndnidmeompieaaGreatDoor
/-
  What a value that may be is, by its depth: 'goodB'; how many parts it has: 'partsV'; what the specification's l2ok answers: 'okI'. Plain mathematics.
-/
namespace Go.Proofs.YtndnidmeompieaaGreatDoor
open Go.RowKit
set_option linter.unusedVariables false
set_option linter.unusedSimpArgs false

/-- The rules of one part by itself. -/
def shapeB (vk vn : Int) (vs : List Int) (vK : List (List Int)) (nL : Nat) : Bool :=
  bareB vk vn vs.length vK.length nL && (decide (vk = 0) || decide (vk = 6) || (decide (vk = 1) && (decide (vn = 0) || decide (vn = 1))) || (decide (vk = 2) && intB vn) || (decide (vk = 3) && textB vs) || decide (vk = 4) || (decide (vk = 5) && (decide (vK.length = nL) && ascB vK)))

/-- The rules of all parts, and of the depth. -/
def goodB : (d : Nat) → Vl d → Nat → Bool
  | 0, _, _ => false
  | d + 1, v, deep => decide (deep ≤ 5) && (shapeB v.1 v.2.1 v.2.2.1 v.2.2.2.1 v.2.2.2.2.length && v.2.2.2.2.all fun x => goodB d x (deep + 1))

/-- How many parts. -/
def partsV : (d : Nat) → Vl d → Nat
  | 0, _ => 0
  | d + 1, v => 1 + (v.2.2.2.2.map (partsV d)).sum

/-- What l2ok answers. -/
def okI (d : Nat) (v : Vl d) (deep : Nat) (left : Int) : Int := if goodB d v deep = true ∧ (partsV d v : Int) ≤ left then left - partsV d v else -1

theorem okI_yes {d : Nat} {v : Vl d} {deep : Nat} {left : Int} (h : goodB d v deep = true) (h2 : (partsV d v : Int) ≤ left) : okI d v deep left = left - partsV d v := by simp [okI, h, h2]
theorem okI_no {d : Nat} {v : Vl d} {deep : Nat} {left : Int} (h : ¬ (goodB d v deep = true ∧ (partsV d v : Int) ≤ left)) : okI d v deep left = -1 := by simp only [okI, h, if_false]

theorem good_succ (d : Nat) (vk vn : Int) (vs : List Int) (vK : List (List Int)) (vL : List (Vl d)) (deep : Nat) :
    goodB (d + 1) (vk, vn, vs, vK, vL) deep = true ↔ deep ≤ 5 ∧ shapeB vk vn vs vK vL.length = true ∧ ∀ j (h : j < vL.length), goodB d vL[j] (deep + 1) = true := by
  show (decide (deep ≤ 5) && (shapeB vk vn vs vK vL.length && vL.all fun x => goodB d x (deep + 1))) = true ↔ _
  simp only [Bool.and_eq_true, decide_eq_true_eq, List.all_eq_true]
  constructor
  · rintro ⟨h1, h2, h3⟩
    exact ⟨h1, h2, fun j h => h3 _ (List.getElem_mem h)⟩
  · rintro ⟨h1, h2, h3⟩
    refine ⟨h1, h2, fun x hx => ?_⟩
    obtain ⟨j, h, rfl⟩ := List.getElem_of_mem hx
    exact h3 j h

theorem parts_succ (d : Nat) (vk vn : Int) (vs : List Int) (vK : List (List Int)) (vL : List (Vl d)) : partsV (d + 1) (vk, vn, vs, vK, vL) = 1 + pre (partsV d) vL vL.length := by
  rw [pre_all]
  rfl

theorem parts_pos (d : Nat) (v : Vl (d + 1)) : 1 ≤ partsV (d + 1) v := by
  obtain ⟨vk, vn, vs, vK, vL⟩ := v
  rw [parts_succ]
  omega

theorem okI_left {d : Nat} (v : Vl (d + 1)) (deep : Nat) {left : Int} (h : left < 1) : okI (d + 1) v deep left = -1 :=
  okI_no fun ⟨_, h2⟩ => by have := parts_pos d v; omega

theorem okI_deep {d : Nat} (v : Vl (d + 1)) {deep : Nat} (left : Int) (h : 5 < deep) : okI (d + 1) v deep left = -1 := by
  obtain ⟨vk, vn, vs, vK, vL⟩ := v
  exact okI_no fun ⟨h1, _⟩ => by have := ((good_succ _ _ _ _ _ _ _).1 h1).1; omega

theorem okI_shape {d : Nat} {vk vn : Int} {vs : List Int} {vK : List (List Int)} {vL : List (Vl d)} (deep : Nat) (left : Int) (h : shapeB vk vn vs vK vL.length = false) : okI (d + 1) (vk, vn, vs, vK, vL) deep left = -1 :=
  okI_no fun ⟨h1, _⟩ => by have := ((good_succ _ _ _ _ _ _ _).1 h1).2.1; rw [h] at this; simp at this

theorem okI_bare {d : Nat} {vk vn : Int} {vs : List Int} {vK : List (List Int)} {vL : List (Vl d)} (deep : Nat) (left : Int) (h : bareB vk vn vs.length vK.length vL.length = false) : okI (d + 1) (vk, vn, vs, vK, vL) deep left = -1 :=
  okI_shape deep left (by simp [shapeB, h])

theorem okI_kid {d : Nat} {vk vn : Int} {vs : List Int} {vK : List (List Int)} {vL : List (Vl d)} {deep : Nat} {left : Int} {k : Nat} (hk : k < vL.length)
    (h : ¬ (goodB d vL[k] (deep + 1) = true ∧ (partsV d vL[k] : Int) ≤ left - 1 - pre (partsV d) vL k)) : okI (d + 1) (vk, vn, vs, vK, vL) deep left = -1 := by
  refine okI_no fun ⟨h1, h2⟩ => h ⟨((good_succ _ _ _ _ _ _ _).1 h1).2.2 k hk, ?_⟩
  rw [parts_succ] at h2
  have h3 := pre_succ (partsV d) vL k hk
  have h4 := pre_le (partsV d) vL (k + 1)
  have h5 := pre_all (partsV d) vL
  omega

theorem okI_all {d : Nat} {vk vn : Int} {vs : List Int} {vK : List (List Int)} {vL : List (Vl d)} {deep : Nat} {left : Int} (h1 : deep ≤ 5) (h2 : shapeB vk vn vs vK vL.length = true)
    (h3 : ∀ j (h : j < vL.length), goodB d vL[j] (deep + 1) = true) (h4 : (pre (partsV d) vL vL.length : Int) ≤ left - 1) : okI (d + 1) (vk, vn, vs, vK, vL) deep left = left - 1 - pre (partsV d) vL vL.length := by
  rw [okI_yes ((good_succ _ _ _ _ _ _ _).2 ⟨h1, h2, h3⟩) (by rw [parts_succ]; omega), parts_succ]
  omega

theorem okI_leaf {d : Nat} {vk vn : Int} {vs : List Int} {vK : List (List Int)} {deep : Nat} {left : Int} (h1 : deep ≤ 5) (h2 : shapeB vk vn vs vK 0 = true) (h4 : 1 ≤ left) : okI (d + 1) (vk, vn, vs, vK, []) deep left = left - 1 := by
  have := okI_all (d := d) (vL := []) (deep := deep) (left := left) h1 (by simpa using h2) (by intro j h; simp at h) (by simp [pre]; omega)
  simpa [pre] using this
end Go.Proofs.YtndnidmeompieaaGreatDoor
