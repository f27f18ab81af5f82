/-
  Texts that a law leans on, one behind the other; no statement is proved here.
-/
import Derived.Test.YthkbapkndmlpfaaDoorPk16
import Derived.Test.YthkbapkndmlpfaaDoorPk17
import Derived.Test.YthkbapkndmlpfaaDoorPk10
import Derived.Test.YthkbapkndmlpfaaDoorPk0
import Derived.Test.YthkbapkndmlpfaaDoorPk13
import Derived.Test.YthkbapkndmlpfaaDoorPk14
import Derived.Test.YthkbapkndmlpfaaDoorPk11
import Derived.Deep.Cut
import Derived.Deep.MidRow
import Derived.Deep.RegionHeld3
/-
  ItemUses of the program.
-/
namespace Go.Proofs.YthkbapkndmlpfaaDoor
open Go.RowKit
set_option linter.unusedVariables false
set_option linter.unusedSimpArgs false

theorem il_one {N : Nat} {w : World} {d g : Nat} {cs : List Value} {it : Itm d} {T : TypeId} {fr : Nat × Nat} (h : ISeg (fun b => b < N) w d cs it) (hg : w.heap[g]? = some (.cells cs.toArray T fr)) (hN : g < N) : ILSeg (fun b => b < N) w d (.slice (some ⟨g, 0, none⟩) 1 1) [it] := by
  refine ⟨_, 1, rfl, by simp, by decide, by simp, .inr ⟨g, 0, rfl, hN, fun i hi => ?_⟩⟩
  have h0 : i = 0 := by simp at hi; omega
  subst h0
  exact ⟨cs, range_of_row hg, h⟩

set_option maxHeartbeats 3000000 in
set_option maxRecDepth 100000 in
theorem impl_ItemUses_any (d N : Nat) (cs : List Value) (it : Itm d) (w : World) (h : ISeg (fun b => b < N) w d cs it) (hN : N ≤ w.heap.size) (hT : ShpT w) (hgN : 0 < N) :
    Calls Tryd.prog 13 #[.agg cs.toArray] w (UsEnd d it w) := by
  have Hb2 : Hid (∀ o o' : Obj, Below w.heap.size w ((w.alloc o).alloc o')) := fun o o' => ((Below.refl _ _).alloc (Nat.le_refl _) o).alloc (by simp) o'
  have Hbox : Hid (∀ o o' wx, Below ((w.alloc o).alloc o').heap.size ((w.alloc o).alloc o') wx → wx.heap[w.heap.size]? = some o) := fun o o' wx hb => (hb.block w.heap.size (by simp; omega)).trans ((Below.heap_alloc _ _ _ (by simp)).trans (MapKept.heap_alloc w o).1)
  have HC : Hid (∀ o : Obj, Calls Tryd.prog 8 #[.slice (some ⟨w.heap.size + 1, 0, none⟩) 1 1] ((w.alloc o).alloc (.cells cs.toArray 42)) fun e w' => e = .returned (.bool (usB d it)) ∧ Below ((w.alloc o).alloc (.cells cs.toArray 42)).heap.size ((w.alloc o).alloc (.cells cs.toArray 42)) w') := fun o => by
    rw [← cfg_one]
    have hrow := (MapKept.heap_alloc (w.alloc o) (.cells cs.toArray 42)).1
    have hsz : (w.alloc o).heap.size = w.heap.size + 1 := by simp
    rw [hsz] at hrow
    refine impl_ConfigOk_any d (w.heap.size + 2) _ [it] _ (il_one ((h.agree (agree_below ((Hb2.out o _).mono hN))).mono fun b hb => by omega) hrow (by omega)) (by simp) (hT.below (Hb2.out o _)) (by omega)
  have HV : Hid (∀ wx, Below w.heap.size w wx → ISeg (fun b => b < N) wx d cs it) := fun wx hb => h.agree (agree_below (hb.mono hN))
  obtain ⟨na, np, bk, bn, a2, l2, p2, a3, l3, p3, a4, l4, p4, xa, xp, ea, ep, rfl, -, -, -, hl⟩ := h.form
  have HX : Hid (LSeg (fun b => b < N) w d (.slice ea it.2.2.2.2.2.length ep) it.2.2.2.2.2) := hl
  clear h hl HV hT
  show Calls _ _ _ _ fun e w' => ∃ u, e = .returned u ∧ ∃ B, KOwn w' u (usI d it) B ∧ (∀ b ∈ B, w.heap.size ≤ b ∧ b < w'.heap.size) ∧ Below w.heap.size w w'
  by_cases hu : usB d it = true
  rotate_left
  · have hu' : usB d it = false := by simpa using hu
    have h5 : Hid (usI d it = []) := if_neg hu
    rw [hu'] at HC
    rw [h5.out]
    clear hu hu' h5 HX
    obtain ⟨ik, nm, mn, by', ks, es⟩ := it
    simp only at HC ⊢
    generalize nm.length = s0 at *
    generalize ks.length = s1 at *
    generalize es.length = s2 at *
    go_enter Tryd.func13, Tryd.ntmps13
    go_wp2_with fail
    refine (HC.out _).mono ?_
    rintro e w1 ⟨rfl, b1⟩
    have B1 := hide' (Below.on (Hb2.out _ _) b1)
    clear b1 HC
    go_wp2
    go_ret
    exact ⟨_, rfl, [], kNilE _, by simp, B1.out⟩
  obtain ⟨_, _, hel, hpe, hnm⟩ := us_yes hu
  have h5 : Hid (usI d it = (preN 7 d it.2.2.2.2.2 it.2.2.2.2.2.length).foldl insN []) := if_pos hu
  rw [hu] at HC
  rw [h5.out]
  unfold usN at hnm
  clear hu h5
  obtain ⟨ik, nm, mn, by', ks, es⟩ := it
  simp only at HC HX hel hpe hnm ⊢
  have HPe := hide' hpe
  have HNm := hide' hnm
  clear hpe hnm
  generalize nm.length = s0 at *
  generalize ks.length = s1 at *
  go_enter Tryd.func13, Tryd.ntmps13
  go_wp2_with fail
  refine (HC.out _).mono ?_
  rintro e w1 ⟨rfl, b1⟩
  have y9 := cell_of_row _ _ 9 _ _ _ (Hbox.out _ _ _ b1)
  simp at y9
  have B1 := hide' (Below.on (Hb2.out _ _) b1)
  have H0 : Hid (SR w1 w.heap.size (.slice none 0 0) (preN 7 d es 0)) := by
    rw [preN_zero]
    exact ⟨rfl, .inl ⟨rfl, rfl⟩⟩
  clear b1 HC
  go_wp2_with fail
  go_loopw [3, 13] (fun y i wr => ∃ j : Nat, i = .int .i64 j ∧ j ≤ es.length ∧ Hid (SR wr w.heap.size y (preN 7 d es j)) ∧ Hid (Below w.heap.size w wr)) (fun _ i _ => es.length - (intOf i).toNat)
  case atStart => exact ⟨0, rfl, Nat.zero_le _, H0, B1⟩
  case round =>
    clear H0 y9 B1
    obtain ⟨j, rfl, hj, hR, hbel⟩ := hrel
    obtain ⟨ya, yc, rfl⟩ := hR.out.shape
    have hnl := (usN_len d es j HPe.out).2
    by_cases hlt : j < es.length
    · have hlt' : (j : Int) < (es.length : Int) := by omega
      obtain ⟨b, off, c, rfl, h5', hv⟩ := HX.out.at hbel.out hN hlt
      obtain ⟨c0, c1, c2, c3, c4⟩ := c
      obtain ⟨q0, q1, q2, q3, q4⟩ := h5'
      simp only at q0 q1 q2 q3 q4
      have hz := hbel.out.size
      obtain ⟨ck, cn, s2, l2', e2, s3, l3', e3, s4, l4', e4, rfl, rfl, rfl, rfl, rfl⟩ := VSeg.form d (hv wr hbel.out)
      have hB2 : Hid (∀ o, Below w.heap.size w (wr.alloc o)) := fun o => hbel.out.alloc hz o
      have HC : Hid (∀ o, Calls Tryd.prog 33 #[.slice ya (preN 7 d es j).length yc, .agg #[.int .i64 ck, .int .i64 cn, .slice s2 l2' e2, .slice s3 l3' e3, .slice s4 l4' e4], .int .i64 7] (wr.alloc o) fun e w' => ∃ y, e = .returned y ∧ SR w' w.heap.size y (preN 7 d es (j + 1)) ∧ Below w.heap.size w w') := fun o => by
        refine (collectNames_any 7 d N w.heap.size _ (preN 7 d es j) (.int .i64 ck, .int .i64 cn, .slice s2 l2' e2, .slice s3 l3' e3, .slice s4 l4' e4) es[j] (wr.alloc o) (hv _ (hB2.out o)) hN (by simp; omega) (World.ownsRow.alloc hR.out o) (by
          have h2 := preN_len 7 d es j
          have h3 := pre_succ (partsE d) es j hlt
          have h4 := pre_le (partsE d) es (j + 1)
          have h5 := pre_all (partsE d) es
          have h6 := HPe.out
          omega)).mono ?_
        rintro e w' ⟨y, rfl, h1, h2, _⟩
        refine ⟨y, rfl, by rw [preN_succ 7 d es j hlt]; exact h1, (hB2.out o).grown h2 (by simp; omega) fun g hg => ?_⟩
        exact (World.ownsRow.lt hR.out g hg).1
      clear hv hR
      generalize (preN 7 d es j).length = n1 at *
      go_wp2_with fail
      refine (HC.out _).mono ?_
      rintro e w2 ⟨y2, rfl, hR2, b2⟩
      have HR2 := hide' hR2
      have HB2 := hide' b2
      obtain ⟨ya2, yc2, rfl⟩ := hR2.shape
      clear q0 q1 q2 q3 q4 HC hR2 b2
      go_wp2
      go_roundw
      case rel => exact ⟨j + 1, by go_num, by omega, HR2, HB2⟩
      case measure => simp [intOf]; omega
    · have hkn : j = es.length := by omega
      have hlt' : ¬ (j : Int) < (es.length : Int) := by omega
      subst hkn
      have hz := hbel.out.size
      have HA := hide' (ascending_any w.heap.size _ (preN 7 d es es.length) wr (SR.hs hR.out) hz (by omega) HNm.out)
      clear hR
      generalize (preN 7 d es es.length).length = n1 at *
      go_wp2_with fail
      refine HA.out.mono ?_
      rintro e w3 ⟨u, rfl, B, hK, hB, b3⟩
      have hus : ∃ a n c, u = .slice a n c := by rcases hK with ⟨rfl, _⟩ | ⟨g, cap, cur, Bs, rfl, _⟩ <;> exact ⟨_, _, _, rfl⟩
      have HK := hide' hK
      have HBB := hide' hB
      have B3 := hide' (hbel.out.trans b3)
      obtain ⟨_, _, _, rfl⟩ := hus
      clear hK hB b3 HA
      go_wp2
      go_ret
      exact ⟨_, rfl, B, HK.out, fun b hb => by have h1 := HBB.out b hb; omega, B3.out⟩
end Go.Proofs.YthkbapkndmlpfaaDoor
/-
  A sum of numbers that are at most m.
-/
namespace Go.Proofs.YthkbapkndmlpfaaDoor
open Go.RowKit
set_option linter.unusedVariables false

theorem sum_le_of {l : List Nat} {m : Nat} (h : ∀ x ∈ l, x ≤ m) : l.sum ≤ l.length * m := by
  induction l with
  | nil => simp
  | cons x r ih =>
    have h1 := h x (by simp)
    have h2 := ih fun y hy => h y (by simp [hy])
    simp only [List.sum_cons, List.length_cons, Nat.add_mul, Nat.one_mul]
    omega
end Go.Proofs.YthkbapkndmlpfaaDoor
/-
  FnExactItemUses answers true, whatever item it is handed; it makes new memory and turns nothing old.
-/
namespace Go.Proofs.YthkbapkndmlpfaaDoor
open Go.RowKit
set_option linter.unusedVariables false
set_option linter.unusedSimpArgs false

theorem us_small (d : Nat) (it : Itm d) : szK (usI d it) ≤ 1350 := by
  unfold usI
  split
  · next h =>
    obtain ⟨_, _, _, h4, h6⟩ := us_yes h
    have h7 := (usN_len d _ it.2.2.2.2.2.length h4).1
    have h3 : (((usN d it).foldl insN []).map List.length).sum ≤ (((usN d it).foldl insN []).map List.length).length * 8 := sum_le_of fun x hx => by
      obtain ⟨y, hy, rfl⟩ := List.mem_map.1 hx
      rcases mem_fold _ _ _ hy with h8 | h8
      · exact name_len (h6 y h8)
      · simp at h8
    rw [List.length_map] at h3
    unfold szK
    unfold usN at h3 ⊢
    omega
  · simp [szK]

/-- An item, as the cells of one struct. -/
def IX (d : Nat) (it : Itm d) (X : Array Value) (w : World) : Prop := ISeg (fun b => b < w.heap.size) w d X.toList it
variable {d : Nat} {it : Itm d} {X Y : Array Value} {w w' : World} {B : List Nat}
theorem IX.on (h : IX d it X w) (hb : Below w.heap.size w w') : IX d it X w' := (ISeg.agree h (agree_below hb)).mono fun b hb' => Nat.lt_of_lt_of_le hb' hb.size
theorem IX.size (h : IX d it X w) : X.size = 10 := by have h1 := ISeg.len h; simpa using h1
theorem IX.one (h : IX d it X w) : ∀ v ∈ X.toList, v.oneCell' = true := ISeg.one h
theorem IX.sz (h : IX d it X w) : Calls Tryd.prog 10 #[.agg X, .int .i64 1048576] w fun e w' => (e = .returned (.int .i64 (-1)) ∨ ∃ n : Int, 0 ≤ n ∧ n ≤ 1048576 ∧ e = .returned (.int .i64 n) ∧ ISz d it) ∧ Below w.heap.size w w' := by
  have h1 := szItem_any d w.heap.size X.toList it 1048576 w h (Nat.le_refl _) (by omega) (by omega)
  rw [Array.toArray_toList] at h1
  exact h1
theorem IX.to (h : IX d it X w) (hz : ISz d it) : Calls Tryd.prog 12 #[.agg X] w fun e w' => ∃ Y, e = .returned (.agg Y) ∧ ∃ B, IOwn w' d Y.toList it B ∧ (∀ b ∈ B, w.heap.size ≤ b ∧ b < w'.heap.size) ∧ Below w.heap.size w w' := by
  have h1 := toItemO_any d w.heap.size X.toList it w h (Nat.le_refl _) hz
  rw [Array.toArray_toList] at h1
  refine h1.mono ?_
  rintro e w' ⟨cs, rfl, B, hO, hB, hb⟩
  exact ⟨cs.toArray, rfl, B, hO, hB, hb⟩
theorem IX.spec (h : IX d it X w) : Calls Tryd.prog 11 #[.agg X] w (UsEnd d it w) := by
  have h1 := spec_ItemUses_any d w.heap.size X.toList it w h (Nat.le_refl _)
  rw [Array.toArray_toList] at h1
  exact h1
theorem IX.impl (h : IX d it X w) (hT : ShpT w) : Calls Tryd.prog 13 #[.agg X] w (UsEnd d it w) := by
  have h1 := impl_ItemUses_any d w.heap.size X.toList it w h (Nat.le_refl _) hT hT.lt
  rw [Array.toArray_toList] at h1
  exact h1
theorem IX.eq (h : IX d it X w) (k : IX d it Y w) (hz : ISz d it) : Calls Tryd.prog 15 #[.agg X, .agg Y] w fun e w' => e = .returned (.bool true) ∧ Below w.heap.size w w' := by
  have h1 := eqItem_any d w.heap.size X.toList Y.toList it w h k (Nat.le_refl _) hz
  rw [Array.toArray_toList, Array.toArray_toList] at h1
  exact h1
theorem IOwn.ix (h : IOwn w d X.toList it B) : IX d it X w := h.read
theorem mark_item {d : Nat} {it : Itm (d + 1)} {X : Array Value} (h : IOwn w (d + 1) X.toList it B) (hz : ISz (d + 1) it) : Calls Tryd.prog 16 #[.agg X, .int .i64 1] w fun e w' => (∃ n : Nat, e = .returned (.int .i64 (n : Int)) ∧ n ≤ 16777216) ∧ Turned B w w' := by
  have h1 := markItem_any d X.toList it B w h hz
  rw [Array.toArray_toList] at h1
  exact h1

theorem range_on {g : Nat} {cs : Array Value} {T : TypeId} {fr : Nat × Nat} (h : w.heap[g]? = some (.cells cs T fr)) (hb : Below w.heap.size w w') : w'.rangeAt g 0 cs.toList :=
  range_of_row (T := T) (fr := fr) (((hb.block g (Array.getElem?_eq_some_iff.1 h).1).trans h).trans (by simp))
theorem range_below {g : Nat} {cs : List Value} (h : w.rangeAt g 0 cs) (hg : g < w.heap.size) (hb : Below w.heap.size w w') : w'.rangeAt g 0 cs := fun j v hv => (World.cell?_of_block (hb.block g hg)).trans (h j v hv)
theorem KOwn.slice {w : World} {v : Value} {ks : List (List Int)} {B : List Nat} (h : KOwn w v ks B) : ∃ a n c, v = .slice a n c := by rcases h with ⟨rfl, _⟩ | ⟨g, cap, cur, Bs, rfl, _⟩ <;> exact ⟨_, _, _, rfl⟩

set_option maxHeartbeats 6400000 in
set_option maxRecDepth 100000 in
theorem walk_FnExactItemUses_succ {d : Nat} {it : Itm (d + 1)} (A : Array Value) (w : World) (hT : ShpT w) (hA : IX (d + 1) it A w) :
    Calls Tryd.prog 4 #[.agg A] w fun e w' => e = .returned (.bool true) ∧ Below w.heap.size w w' := by
  have HTb := hide' hT
  have b0 : Hid (∀ o : Obj, Below w.heap.size w (w.alloc o)) := fun o => (Below.refl _ _).alloc (Nat.le_refl _) o
  have HA := hide' hA
  have has := hA.size
  have HR : Hid (∀ wx, Below (w.alloc (.cells A 35)).heap.size (w.alloc (.cells A 35)) wx → wx.rangeAt w.heap.size 0 A.toList) := fun wx hb => range_on (MapKept.heap_alloc w _).1 hb
  have hi28 : (Tryd.prog.info? 35).map (·.size) = some A.toList.length := by rw [Array.length_toList, has]; kernel_rfl
  have r0 := HR.out _ (Below.refl _ _)
  have HS0 := hide' ((hA.on (b0.out (.cells A 35))).sz)
  have hks := us_small (d + 1) it
  have hkz : szK (usI (d + 1) it) ≤ 1048576 := by omega
  have hsum : ((usI (d + 1) it).map List.length).sum ≤ 1048576 := by have h5 : szK (usI (d + 1) it) = (usI (d + 1) it).length + ((usI (d + 1) it).map List.length).sum := rfl; omega
  have HEK : Hid (∀ x y B B' wx, KOwn wx x (usI (d + 1) it) B → KOwn wx y (usI (d + 1) it) B' → Calls Tryd.prog 14 #[x, y] wx fun e w' => e = .returned (.bool true) ∧ Below wx.heap.size wx w') := fun x y B B' wx h h' => eqByteSS_same wx.heap.size x y _ wx h.read h'.read (Nat.le_refl _) hkz
  have HMK : Hid (∀ x B wx, KOwn wx x (usI (d + 1) it) B → Calls Tryd.prog 17 #[x, .int .i64 1] wx fun e w' => e = .returned (.int .i64 ((1 + ((usI (d + 1) it).map List.length).sum : Nat) : Int)) ∧ KOwn w' x (mkKs (usI (d + 1) it) 1) B ∧ Turned B wx w') := fun x B wx h => markByteSS_any x _ B 1 wx h (by omega) (by omega)
  have HHK : Hid (∀ x B wx, KOwn wx x (mkKs (usI (d + 1) it) 1) B → Calls Tryd.prog 18 #[x, .int .i64 1] wx fun e w' => e = .returned (.int .i64 ((1 + ((usI (d + 1) it).map List.length).sum : Nat) : Int)) ∧ Below wx.heap.size wx w') := fun x B wx h => heldByteSS_any wx.heap.size x _ 1 wx h.read (Nat.le_refl _) (by omega) (by omega)
  generalize hsm : ((usI (d + 1) it).map List.length).sum = sm at *
  clear hA hT hks hkz hsm
  go_enter Tryd.func4, Tryd.ntmps4
  go_wp2_with (refine wpList_load_mid rfl 35 (.tmp 1) (by rfl) w.heap.size 0 (by rfl) A.toList _ r0 Tryd.underlying35 rfl hi28 ?_; rw [Array.toArray_toList])
  refine HS0.out.mono ?_
  rintro e w1 ⟨hcase, b1⟩
  have B1 := hide' b1
  clear b1 HS0 r0
  rcases hcase with rfl | ⟨n, hn0, hn1, rfl, hz⟩
  · go_wp2
    go_ret
    exact ⟨rfl, Below.on (b0.out _) B1.out⟩
  have HZ := hide' hz
  have r1 := HR.out _ B1.out
  have HT1 := hide' ((HA.out.on (Below.on (b0.out (.cells A 35)) B1.out)).to hz)
  clear hz
  go_wp2_with (refine wpList_load_mid rfl 35 (.tmp 1) (by rfl) w.heap.size 0 (by rfl) A.toList _ r1 Tryd.underlying35 rfl hi28 ?_; rw [Array.toArray_toList])
  refine HT1.out.mono ?_
  rintro e w2 ⟨X2, rfl, Bx, hX2, hBx, b2⟩
  have B2 := hide' (Below.on B1.out b2)
  have HS2 := hide' hX2.ix.spec
  clear hX2 hBx b2 HT1 r1
  go_wp2_with fail
  refine HS2.out.mono ?_
  rintro e w3 ⟨Wv, rfl, Bw, hW3, hBw, b3⟩
  obtain ⟨Wa, Wn, Wc, rfl⟩ := hW3.slice
  have B3 := hide' (Below.on B2.out b3)
  have r3 := HR.out _ B3.out
  have HT3 := hide' ((HA.out.on (Below.on (b0.out (.cells A 35)) B3.out)).to HZ.out)
  have HW3 := hide' hW3
  have HBw := hide' hBw
  clear b3 HS2 B2 hW3 hBw
  go_upto_region 6 with fail
  have hi35 : ∀ X : Array Value, X.size = 10 → (Tryd.prog.info? 42).map (·.size) = some X.toList.length := fun X h => by rw [Array.length_toList, h]; kernel_rfl
  have hi35' : ∀ X : Array Value, X.size = 10 → (Tryd.prog.info? 42).map (·.size) = some X.size := fun X h => by rw [h]; kernel_rfl
  have HI35 := hide' hi35
  have HI35' := hide' hi35'
  clear hi35 hi35'
  go_wp2_with (refine wpList_load_mid rfl 35 (.tmp 1) (by rfl) w.heap.size 0 (by rfl) A.toList _ r3 Tryd.underlying35 rfl hi28 ?_; rw [Array.toArray_toList])
  refine HT3.out.mono ?_
  rintro e w4 ⟨X, rfl, B4, hX4, hB4, b4⟩
  have hXs := hX4.ix.size
  have hth : (w4.alloc (.cells #[.int .i64 0, .slice none 0 0, .int .i64 0, .int .i64 0, .int .i64 0, .slice none 0 0, .slice none 0 0, .slice none 0 0, .slice none 0 0, .slice none 0 0] 42)).there w4.heap.size 0 X.size := by rw [hXs]; exact there_of_row (MapKept.heap_alloc w4 _).1
  have hrs := World.rangeAt_setCells_same (w4.alloc (.cells #[.int .i64 0, .slice none 0 0, .int .i64 0, .int .i64 0, .int .i64 0, .slice none 0 0, .slice none 0 0, .slice none 0 0, .slice none 0 0, .slice none 0 0] 42)) w4.heap.size 0 X.toList (by rw [Array.length_toList]; exact hth)
  have hg := grown_setCells w4.heap.size X.toList 0 (w4.alloc (.cells #[.int .i64 0, .slice none 0 0, .int .i64 0, .int .i64 0, .int .i64 0, .slice none 0 0, .slice none 0 0, .slice none 0 0, .slice none 0 0, .slice none 0 0] 42))
  have b5 : Below w4.heap.size w4 ((w4.alloc (.cells #[.int .i64 0, .slice none 0 0, .int .i64 0, .int .i64 0, .int .i64 0, .slice none 0 0, .slice none 0 0, .slice none 0 0, .slice none 0 0, .slice none 0 0] 42)).setCells w4.heap.size 0 X.toList) := ((Below.refl _ _).alloc (Nat.le_refl _) _).grown hg (by simp) (by intro k hk; simp at hk; omega)
  have hlt5 : w4.heap.size < ((w4.alloc (.cells #[.int .i64 0, .slice none 0 0, .int .i64 0, .int .i64 0, .int .i64 0, .slice none 0 0, .slice none 0 0, .slice none 0 0, .slice none 0 0, .slice none 0 0] 42)).setCells w4.heap.size 0 X.toList).heap.size := by have := hg.size; simp at this; omega
  have hone := all_oneCell_toArray hX4.ix.one
  rw [Array.toArray_toList] at hone
  have hst := HI35'.out X hXs
  have hlt := HI35.out X hXs
  have B5 := hide' (Below.on (Below.on B3.out b4) b5)
  have HX5 := hide' (hX4.on b5)
  have HI5 := hide' ((hX4.on b5).ix.impl (HTb.out.below (Below.on (b0.out _) B5.out)))
  have HW5 := hide' ((HW3.out.on b4).on b5)
  have HB4 := hide' hB4
  have hz4 : w3.heap.size ≤ w4.heap.size := b4.size
  have HZ3 : Hid ((w.alloc (.cells A 35)).heap.size ≤ w3.heap.size) := B3.out.size
  clear b4 b5 hX4 HT3 r3 hg B3 hB4 HW3
  go_wp2_with (first | (refine wpList_store_mid rfl 42 (.tmp 5) (.tmp 20) (by rfl) w4.heap.size 0 X (by rfl) (by rfl) hth hst hone ?_) | (refine wpList_load_mid rfl 42 (.tmp 5) (by rfl) w4.heap.size 0 (by rfl) X.toList _ hrs Tryd.underlying42 rfl hlt ?_; rw [Array.toArray_toList]))
  refine HI5.out.mono ?_
  rintro e w6 ⟨Gv, rfl, Bg, hG6, hBg, b6⟩
  obtain ⟨Ga, Gn, Gc, rfl⟩ := hG6.slice
  have B6 := hide' (Below.on B5.out b6)
  have hr6 := range_below hrs hlt5 b6
  have hz6 : w4.heap.size < w6.heap.size := Nat.lt_of_lt_of_le hlt5 b6.size
  have HX6 := hide' (HX5.out.on b6)
  have hW6 := HW5.out.on b6
  have hE6 := hide' (HEK.out _ _ _ _ _ hG6 hW6)
  have HG6 := hide' hG6
  have HW6 := hide' hW6
  have HBg : Hid (∀ b ∈ Bg, w4.heap.size + 1 ≤ b ∧ b < w6.heap.size) := fun b hb => by have := hBg b hb; omega
  clear HI5 hrs hlt5 b6 HX5 B5 hth hone hst hG6 hW6 hBg HW5
  go_wp2_with fail
  refine hE6.out.mono ?_
  rintro e w7 ⟨rfl, b7⟩
  have B7 := hide' (Below.on B6.out b7)
  have hr7 := range_below hr6 hz6 b7
  have r7 := HR.out _ B7.out
  have hz7 : w4.heap.size < w7.heap.size := Nat.lt_of_lt_of_le hz6 b7.size
  have HX7 := hide' (HX6.out.on b7)
  have HG7 := hide' (HG6.out.on b7)
  have HW7 := hide' (HW6.out.on b7)
  have hz67 : w6.heap.size ≤ w7.heap.size := b7.size
  clear hE6 b7 hr6 HX6 HG6 HW6 B6
  have HT6 : Hid (Calls Tryd.prog 12 #[.agg A] w7.drew fun e wa => ∃ Y, e = .returned (.agg Y) ∧ (wa.rangeAt w.heap.size 0 A.toList ∧ wa.rangeAt w4.heap.size 0 X.toList) ∧ Hid (Calls Tryd.prog 15 #[.agg X, .agg Y] wa fun e w8 => e = .returned (.bool true) ∧ (w8.rangeAt w.heap.size 0 A.toList ∧ w8.rangeAt w4.heap.size 0 X.toList) ∧ Hid (Below w7.heap.size w7 w8))) := by
    refine ((HA.out.on (Below.on (b0.out (.cells A 35)) B7.out).drew).to HZ.out).mono ?_
    rintro e wa ⟨Y, rfl, By, hY, hBy, ba⟩
    have b7a : Below w7.heap.size w7 wa := Below.on (Below.refl _ w7).drew ba
    refine ⟨Y, rfl, ⟨HR.out _ (Below.on B7.out b7a), range_below hr7 hz7 b7a⟩, ?_⟩
    refine ((HX7.out.on b7a).ix.eq hY.ix HZ.out).mono ?_
    rintro e w8 ⟨rfl, b8⟩
    have b78 := Below.on b7a b8
    exact ⟨rfl, ⟨HR.out _ (Below.on B7.out b78), range_below hr7 hz7 b78⟩, b78⟩
  go_upto_region 10 with fail
  refine wp_region_held_drew (S := fun wx => wx.rangeAt w.heap.size 0 A.toList ∧ wx.rangeAt w4.heap.size 0 X.toList) (by kernel_rfl) ⟨r7, hr7⟩ (fun hHeld => ?_)
  refine wpAnyH_take (i := 0) (oi := { dst := some 27, op := .load 42 (.tmp 5), type := 42, pos := "exact.go:5444", after := #[], guard := none }) rfl (by kernel_rfl) (by kernel_rfl) (by kernel_rfl) (fun _ _ _ h => h) (yieldsIf_load_mid (by rfl) 42 (.tmp 5) rfl w4.heap.size 0 (by rfl) X.toList _ (fun _ h => h.2) Tryd.underlying42 rfl hlt) hHeld ?_
  rw [show X.toList.toArray = X from Array.toArray_toList]
  simp only [Act.put, List.setIfInBounds_toArray, List.set_cons_zero, List.set_cons_succ]
  refine wpAnyH_take (i := 1) (oi := { dst := some 28, op := .load 35 (.tmp 1), type := 35, pos := "exact.go:5444", after := #[], guard := none }) rfl (by kernel_rfl) (by kernel_rfl) (by kernel_rfl) (fun _ _ _ h => h) (yieldsIf_load_mid (by rfl) 35 (.tmp 1) rfl w.heap.size 0 (by rfl) A.toList _ (fun _ h => h.1) Tryd.underlying35 rfl hi28) hHeld ?_
  rw [show A.toList.toArray = A from Array.toArray_toList]
  simp only [Act.put, List.setIfInBounds_toArray, List.set_cons_zero, List.set_cons_succ]
  refine wpAnyH_ready (rs := [2]) (by kernel_rfl) (by simp) ?_
  refine AllReadyH.cons (o := { dst := some 29, op := .call { callee := .value (.func 12), args := #[.tmp 28], argTypes := #[35] }, type := 42, pos := "exact.go:5444", after := #[{ on := 1, ground := .data }], guard := none }) rfl (fun K hK => ?_) AllReadyH.nil
  go_simp
  go_at_call 12
  refine HT6.out.mono ?_
  rintro e wa ⟨Y, rfl, hSa, hEa⟩
  go_wp2_with fail
  refine hK.out _ _ hSa (fun hHeld7 => ?_)
  clear hK
  (try simp only [Act.put, List.setIfInBounds_toArray, List.set_cons_zero, List.set_cons_succ])
  refine wpAnyH_ready (rs := [3]) (by kernel_rfl) (by simp) ?_
  refine AllReadyH.cons (o := { dst := some 30, op := .call { callee := .value (.func 15), args := #[.tmp 27, .tmp 29], argTypes := #[42, 42] }, type := 4, pos := "exact.go:5444", after := #[{ on := 0, ground := .data }, { on := 2, ground := .data }, { on := 2, ground := .chain }], guard := none }) rfl (fun K hK => ?_) AllReadyH.nil
  go_simp
  go_at_call 15
  refine hEa.out.mono ?_
  rintro e w8 ⟨rfl, hS8, hb8⟩
  go_wp2_with fail
  refine hK.out _ _ hS8 (fun hHeld8 => ?_)
  clear hK
  (try simp only [Act.put, List.setIfInBounds_toArray, List.set_cons_zero, List.set_cons_succ])
  refine wpAnyH_ready (rs := [4]) (by kernel_rfl) (by simp) ?_
  refine AllReadyH.cons (o := { dst := some 31, op := .unOp .not 4 (.tmp 30), type := 4, pos := "exact.go:5444", after := #[{ on := 3, ground := .data }], guard := none }) rfl (fun K hK => ?_) AllReadyH.nil
  go_simp
  refine hK.out _ _ hS8 (fun hHeld9 => ?_)
  clear hK
  (try simp only [Act.put, List.setIfInBounds_toArray, List.set_cons_zero, List.set_cons_succ])
  refine wpAnyH_done (by kernel_rfl) ?_ _
  have hr8 := hS8.2
  have hM8 := hide' (mark_item (HX7.out.on hb8.out) HZ.out)
  have HG8 := hide' (HG7.out.on hb8.out)
  have HW8 := hide' (HW7.out.on hb8.out)
  have B8 := hide' (Below.on B7.out hb8.out)
  clear HT6 hEa HX7 HG7 HW7 B7 hr7 r7 hS8 hSa hHeld hHeld7 hHeld8 hHeld9 hb8
  go_wp2_with (refine wpList_load_mid rfl 42 (.tmp 5) (by rfl) w4.heap.size 0 (by rfl) X.toList _ hr8 Tryd.underlying42 rfl hlt ?_; rw [Array.toArray_toList])
  refine hM8.out.mono ?_
  rintro e w9 ⟨⟨mk, rfl, hmk⟩, hT9⟩
  have hG9 := HG8.out.far hT9 (fun b hb hb' => by have h1 := HBg.out b hb; have h2 := HB4.out b hb'; omega)
  have hW9 := HW8.out.far hT9 (fun b hb hb' => by have h1 := HBw.out b hb; have h2 := HB4.out b hb'; omega)
  have B9 := hide' (Turned.below B8.out hT9 (Nat.le_refl _) (fun b hb => by have h2 := HB4.out b hb; have h3 := HZ3.out; omega))
  have hE9 := hide' (HEK.out _ _ _ _ _ hG9 hW9)
  have HG9 := hide' hG9
  have HW9 := hide' hW9
  clear hT9 hG9 hW9 HG8 HW8 B8 hM8 hr8
  go_wp2_with fail
  refine hE9.out.mono ?_
  rintro e w10 ⟨rfl, b10⟩
  have hM10 := hide' (HMK.out _ _ _ (HG9.out.on b10))
  have HW10 := hide' (HW9.out.on b10)
  have B10 := hide' (Below.on B9.out b10)
  clear b10 hE9 HG9 HW9 B9
  go_wp2_with fail
  refine hM10.out.mono ?_
  rintro e w11 ⟨rfl, hG11, hT11⟩
  have HW11 := hide' (HW10.out.far hT11 (fun b hb hb' => by have h1 := HBw.out b hb; have h2 := HBg.out b hb'; omega))
  have B11 := hide' (Turned.below B10.out hT11 (Nat.le_refl _) (fun b hb => by have h2 := HBg.out b hb; have h3 := HZ3.out; omega))
  have hH11 := hide' (HHK.out _ _ _ hG11)
  have HG11 := hide' hG11
  clear hG11 hT11 hM10 HW10 B10
  go_wp2_with fail
  refine hH11.out.mono ?_
  rintro e w12 ⟨rfl, b12⟩
  have B12 := hide' (Below.on B11.out b12)
  have r12 := HR.out _ B12.out
  have HT12 := hide' ((HA.out.on (Below.on (b0.out (.cells A 35)) B12.out)).to HZ.out)
  have HG12 := hide' (HG11.out.on b12)
  have HW12 := hide' (HW11.out.on b12)
  clear b12 hH11 HG11 HW11 B11
  go_wp2_with (refine wpList_load_mid rfl 35 (.tmp 1) (by rfl) w.heap.size 0 (by rfl) A.toList _ r12 Tryd.underlying35 rfl hi28 ?_; rw [Array.toArray_toList])
  refine HT12.out.mono ?_
  rintro e w13 ⟨X13, rfl, B13x, hX13, hB13, b13⟩
  have B13 := hide' (Below.on B12.out b13)
  have hI13 := hide' (hX13.ix.impl (HTb.out.below (Below.on (b0.out _) B13.out)))
  have HG13 := hide' (HG12.out.on b13)
  have HW13 := hide' (HW12.out.on b13)
  clear hX13 hB13 b13 HT12 HG12 HW12 B12 r12
  go_wp2_with fail
  refine hI13.out.mono ?_
  rintro e w14 ⟨Hv, rfl, Bh, hH14, hBh, b14⟩
  obtain ⟨Ha, Hn, Hc, rfl⟩ := hH14.slice
  have hE14 := hide' (HEK.out _ _ _ _ _ hH14 (HW13.out.on b14))
  have HG14 := hide' (HG13.out.on b14)
  have B14 := hide' (Below.on B13.out b14)
  clear hH14 hBh b14 hI13 HG13 HW13 B13
  go_wp2_with fail
  refine hE14.out.mono ?_
  rintro e w15 ⟨rfl, b15⟩
  have hH15 := hide' (HHK.out _ _ _ (HG14.out.on b15))
  have B15 := hide' (Below.on B14.out b15)
  clear b15 hE14 HG14 B14
  go_wp2_with fail
  refine hH15.out.mono ?_
  rintro e w16 ⟨rfl, b16⟩
  have B16 := hide' (Below.on (b0.out _) (Below.on B15.out b16))
  clear b16 hH15 B15
  go_wp2
  go_ret
  exact ⟨rfl, B16.out⟩

theorem walk_FnExactItemUses (A : Array Value) (w : World) (hT : ShpT w) (hA : IX d it A w) :
    Calls Tryd.prog 4 #[.agg A] w fun e w' => e = .returned (.bool true) ∧ Below w.heap.size w w' := by
  cases d with
  | zero =>
    obtain ⟨_, _, _, _, _, _, _, _, _, _, h, _⟩ := hA
    exact h.elim
  | succ d => exact walk_FnExactItemUses_succ A w hT hA
end Go.Proofs.YthkbapkndmlpfaaDoor
